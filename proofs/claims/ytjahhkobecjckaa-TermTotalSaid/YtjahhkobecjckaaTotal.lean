/- TermTotal: the order is one of all terms. -/
import Derived.Test.YtjahhkobecjckaaWb
import Derived.Test.YtjahhkobecjckaaOrd
import Derived.Test.YtjahhkobecjckaaRow
import Derived.OwnWalk
import Derived.Deep.DeepCutAuto
import Derived.Deep.CutBlock
import Derived.Deep.RegionHeld3
import Derived.Deep.AppendLies
namespace Go.Proofs.Ytjahhkobecjckaa
open Go.RowKit

theorem infoTm : (Try.prog.info? 28).map (fun i => (i.zero, i.size, i.bytes)) = some (some (.agg #[.int .i64 0, .string ⟨#[]⟩, .int .i64 0, .slice none 0 0]), 4, 56) := by kernel_rfl

set_option maxRecDepth 100000 in
set_option maxHeartbeats 4000000 in
theorem total_walk (ts : List Tm) (ss : List ByteArray) (A B : Option Addr) (c d : Nat) (w : World) (hl : ts.length * 56 ≤ 140737488351232) (h : TmsAt w ts A) (hm : ss.length * 16 ≤ 140737488351232) (hs : StrsAt w ss B) :
    Calls Try.prog 5 #[.agg #[.slice A ts.length c, .slice B ss.length d]] w fun e w' => e = .returned (.bool true) ∧ Ext w w' := by
  obtain ⟨i0, hi0, hz0, hz1, hz2⟩ := info_parts infoTm
  by_cases hv : heavyB ts ss = true
  · go_enter Try.func5, Try.ntmps5
    go_wp2_with fail
    refine (heavy_any ts ss A B c d _ hl (h.ext ((Ext.refl _).alloc _)) hm (hs.ext ((Ext.refl _).alloc _))).mono ?_
    rintro e w1 ⟨rfl, hx1⟩
    go_wp2_with fail
    go_ret
    exact ⟨rfl, ((Ext.refl _).alloc _).trans hx1⟩
  · have hv' := not_true hv
    clear hv
    go_enter Try.func5, Try.ntmps5
    go_wp2_with fail
    refine (heavy_any ts ss A B c d _ hl (h.ext ((Ext.refl _).alloc _)) hm (hs.ext ((Ext.refl _).alloc _))).mono ?_
    rintro e w1 ⟨rfl, hx1⟩
    have hx01 : Ext w w1 := ((Ext.refl _).alloc _).trans hx1
    have hbox : w1.cell? ⟨w.heap.size, 0, none⟩ = some (.slice A ts.length c) := hx1.cell (by go_simp)
    have hsz : w.heap.size + 1 ≤ w1.heap.size := by have := hx1.size; simpa using this
    clear hx1
    go_upto_block 0 with (fail)
    go_cut [3] (fun v wx => ∃ (L : List Tm) (A' : Option Addr) (c' : Nat), L.length ≤ 6 ∧ v = .slice A' L.length c' ∧ TmsAt wx L A' ∧ Hid (∀ t ∈ L, mayB t = true) ∧ Ext w wx)
    case first =>
      go_wp2_with fail
      go_loopw [3, 4] (fun v i wr => ∃ (k : Nat) (xs : List Lain), k ≤ ts.length ∧ k ≤ 6 ∧ xs.length ≤ k ∧ i = .int .i64 k ∧ wr.ownsRow w1.heap.size 28 4 v xs.length (rowCells xs) ∧ Hid (∀ x ∈ xs, mayB x.1 = true ∧ TmAt w x.1 x.2.1 x.2.2) ∧ Ext w1 wr) (fun _ i _ => ts.length - (intOf i).toNat)
      case atStart => exact ⟨0, [], Nat.zero_le _, by omega, Nat.le_refl _, rfl, World.ownsRow_nil _ _ _ _, Lib.hid (fun x hx => by cases hx), Ext.refl _⟩
      case round =>
        obtain ⟨k, xs, hk, hk6, hxl, rfl, hown, HX, hx⟩ := hrel
        have hb0 := hx.cell hbox
        have hxw := hx01.trans hx
        have hdone : ∀ (u : Value), True := fun _ => trivial
        clear hdone
        by_cases hboth : k < ts.length ∧ k < 6
        · obtain ⟨hlt, h6⟩ := hboth
          obtain ⟨b, o, C, e, rfl, a0, a1, a2, a3, hsub0⟩ := h.at_ hlt
          have c0 := hxw.cell a0
          have c1 := hxw.cell a1
          have c2 := hxw.cell a2
          have c3 := hxw.cell a3
          have hsub := hsub0.ext hxw
          clear a0 a1 a2 a3
          have h6' : decide ((k : Int) < 6) = true := decide_eq_true (by omega)
          by_cases hr : mayB ts[k] = true
          · have R := Lib.hid hr
            clear hr
            go_wp2_with fail
            refine (check_yes ts[k] C e _ hsub R.out).mono ?_
            rintro e1 w2 ⟨rfl, hx2⟩
            go_wp2_with fail
            refine (num_any _ _).mono ?_
            rintro e2 w3 ⟨rfl, rfl⟩
            have b0 := hx2.cell hb0
            have e0 := hx2.cell c0
            have e1 := hx2.cell c1
            have e2 := hx2.cell c2
            have e3 := hx2.cell c3
            have hown2 := ownsRow_ext hown hx2
            clear hb0 c0 c1 c2 c3 hown
            go_wp2_with (at_builtin; refine wpList_append_own _ rfl _ _ 22 rfl w1.heap.size 28 i0 _ 4 56 Try.underlying22 hi0 hz0 hz1 hz2 rfl (by decide) _ xs.length (rowCells xs) rfl (hown2.alloc _) ⟨w2.heap.size, 0, none⟩ 1 1 (Lain.cells (ts[k], C, e)) rfl rfl ?c1 ?c2 ?c3 ?c4 ?c5 ?_)
            case c1 => exact World.news_of_block (cs := #[.int .i64 ts[k].kind, .string ts[k].name, .int .i64 ts[k].n, .slice C ts[k].args.length e]) (t := 28) (fr := (0, 0)) (heap_alloc_new w2 _)
            case c2 => exact Lain.one _
            case c3 => simp only [maxLen]; omega
            case c4 => omega
            case c5 => have h1 := hx.size; have h2 := hx2.size; simp; omega
            intro v' w4 hown4 hgrow _
            have hx4 : Ext w1 w4 := Ext.own ((hx.trans hx2).alloc _) (hown2.alloc _) (Nat.le_refl _) hgrow
            rw [← rowCells_snoc] at hown4
            have HX4 : Hid (∀ x ∈ xs ++ [(ts[k], C, e)], mayB x.1 = true ∧ TmAt w x.1 x.2.1 x.2.2) := Lib.hid fun x hx => by
              rcases List.mem_append.1 hx with hx | hx
              · exact HX.out x hx
              · obtain rfl := List.mem_singleton.1 hx
                exact ⟨R.out, hsub0⟩
            go_wp2_with fail
            go_roundw
            case rel => exact ⟨k + 1, xs ++ [(ts[k], C, e)], by omega, by omega, by simp; omega, by go_num, by simpa using hown4, HX4, hx4⟩
            case measure => simp [intOf]; omega
          · have R := Lib.hid (not_true hr)
            clear hr
            go_wp2_with fail
            refine (check_no ts[k] C e _ hsub R.out).mono ?_
            rintro e1 w2 ⟨rfl, hx2⟩
            go_wp2_with fail
            refine (num_any _ _).mono ?_
            rintro e2 w3 ⟨rfl, rfl⟩
            go_wp2_with fail
            go_roundw
            case rel => exact ⟨k + 1, xs, by omega, by omega, by omega, by go_num, ownsRow_ext hown hx2, HX, hx.trans hx2⟩
            case measure => simp [intOf]; omega
        · obtain ⟨A', c', rfl, hc', hT⟩ := owned_tms hown (fun x hx => (HX.out x hx).2.ext hxw)
          have HM : Hid (∀ t ∈ xs.map (·.1), mayB t = true) := Lib.hid fun t ht => by
            obtain ⟨x, hx, rfl⟩ := List.mem_map.1 ht
            exact (HX.out x hx).1
          have el : xs.length = (xs.map (·.1)).length := by simp
          rw [el] at *
          have hL6 : (xs.map (·.1)).length ≤ 6 := by simp; omega
          clear hown HX el hc'
          generalize xs.map (·.1) = L at *
          have hcase : Hid (k < ts.length → ¬ k < 6) := Lib.hid fun a b => hboth ⟨a, b⟩
          clear hboth
          by_cases hlt : k < ts.length
          · have h6' : decide ((k : Int) < 6) = false := decide_eq_false (by have := hcase.out hlt; omega)
            go_wp2_with fail
            go_meet
            exact ⟨L, A', c', hL6, rfl, hT, HM, hxw⟩
          · go_wp2_with fail
            go_meet
            exact ⟨L, A', c', hL6, rfl, hT, HM, hxw⟩
    case rest =>
      obtain ⟨L, A', c', hL6, rfl, hT, HM, hxw⟩ := hcut
      go_wp2_with fail
      go_loopw [5] (fun i wr => ∃ p : Nat, p ≤ L.length ∧ i = .int .i64 p ∧ Ext wc wr) (fun i _ => L.length - (intOf i).toNat)
      case atStart => exact ⟨0, Nat.zero_le _, rfl, Ext.refl _⟩
      case round =>
        obtain ⟨p, hp, rfl, hxp⟩ := hrel
        obtain ⟨wp, rfl⟩ : ∃ wp : World, wp = wr := ⟨_, rfl⟩
        by_cases hpl : p < L.length
        · go_wp2_with fail
          go_loopw [6] (fun i wr => ∃ q : Nat, q ≤ L.length ∧ i = .int .i64 q ∧ Ext wp wr) (fun i _ => L.length - (intOf i).toNat)
          case atStart => exact ⟨0, Nat.zero_le _, rfl, Ext.refl _⟩
          case round =>
            obtain ⟨q, hq, rfl, hxq⟩ := hrel
            obtain ⟨wq, rfl⟩ : ∃ wq : World, wq = wr := ⟨_, rfl⟩
            by_cases hql : q < L.length
            · obtain ⟨b, o, C, e, rfl, c0, c1, c2, c3, hsub⟩ := (hT.ext (hxp.trans hxq)).at_ hpl
              obtain ⟨b2, o2, C2, e2, eq2, d0, d1, d2, d3, hsub2⟩ := (hT.ext (hxp.trans hxq)).at_ hql
              obtain ⟨rfl, rfl⟩ : b = b2 ∧ o = o2 := by injection eq2 with e; injection e with e1 e2; exact ⟨e1, e2⟩
              clear eq2
              have i0 : (0 : Int) ≤ (p : Int) := Int.natCast_nonneg _
              have i1 : (p : Int) < (L.length : Int) := by omega
              have j0 : (0 : Int) ≤ (q : Int) := Int.natCast_nonneg _
              have j1 : (q : Int) < (L.length : Int) := by omega
              have rp := HM.out _ (List.getElem_mem hpl)
              have rq := HM.out _ (List.getElem_mem hql)
              have key : Hid (∀ u : World, Ext wq u → Calls Try.prog 25 #[L[p].val C e, L[q].val C2 e2] u fun e w' => e = .returned (.tuple #[.int .i64 (cmpT L[p] L[q]), .int .i64 0]) ∧ Ext wq w') :=
                Lib.hid fun u k => (Order_yes _ _ _ _ _ _ u (hsub.ext k) (hsub2.ext k) rp rq).mono fun _ _ ⟨he, hk⟩ => ⟨he, k.trans hk⟩
              have key2 : Hid (∀ u : World, Ext wq u → Calls Try.prog 25 #[L[q].val C2 e2, L[p].val C e] u fun e w' => e = .returned (.tuple #[.int .i64 (cmpT L[q] L[p]), .int .i64 0]) ∧ Ext wq w') :=
                Lib.hid fun u k => (Order_yes _ _ _ _ _ _ u (hsub2.ext k) (hsub.ext k) rq rp).mono fun _ _ ⟨he, hk⟩ => ⟨he, k.trans hk⟩
              have key3 : Hid (∀ u : World, Ext wq u → Calls Try.prog 22 #[L[p].val C e, L[q].val C2 e2] u fun e w' => e = .returned (.bool (eqT L[p] L[q])) ∧ Ext wq w') :=
                Lib.hid fun u k => (eqTerm_all _ _ _ _ _ _ _ u (Nat.le_refl _) (hsub.ext k) (hsub2.ext k)).mono fun _ _ ⟨he, hk⟩ => ⟨he, k.trans hk⟩
              have hneg := Lib.hid (cmpT_neg L[p] L[q])
              have heq := Lib.hid (cmpT_eqT rp rq)
              have rulesP := fun (u : World) (k : Ext wq u) => And.intro (k.cell c0) (And.intro (k.cell c1) (And.intro (k.cell c2) (k.cell c3)))
              have rulesQ := fun (u : World) (k : Ext wq u) => And.intro (k.cell d0) (And.intro (k.cell d1) (And.intro (k.cell d2) (k.cell d3)))
              clear rp rq c0 c1 c2 c3 d0 d1 d2 d3
              go_wp2_with fail
              have hS0 := Ext.refl wq
              go_region_held3 (fun u => Ext wq u) (first | assumption | exact hS0.drew)
                (first | (go_at_call 25; refine (key.out _ (by assumption)).mono ?_; rintro e1 w2 ⟨rfl, hS⟩))
              go_wp2_with fail
              go_region_held3 (fun u => Ext wq u) (first | assumption | exact hS.drew)
                (first | (go_at_call 25; refine (key2.out _ (by assumption)).mono ?_; rintro e2 w3 ⟨rfl, hS3⟩))
              go_wp2_with fail
              have keyn : Hid (∀ (n : Int) (u : World), Ext wq u → Calls Try.prog 19 #[.int .i64 n] u fun e w' => e = .returned (.int .i64 n) ∧ Ext wq w') :=
                Lib.hid fun n u k => (num_any n u).mono fun _ _ ⟨he, hk⟩ => ⟨he, hk ▸ k⟩
              have hw := cmpT_wrap L[p] L[q]
              have hself : (cmpT L[p] L[q] != cmpT L[p] L[q]) = false := by simp
              have he1 := heq.out
              have hbb : (eqT L[p] L[q] != eqT L[p] L[q]) = false := by simp
              go_region_held3 (fun u => Ext wq u) (first | assumption | exact hS3.drew)
                (first
                  | (go_at_call 19; refine (keyn.out _ _ (by assumption)).mono ?_; rintro e1 w4 ⟨rfl, hS4⟩)
                  | (go_at_call 22; refine (key3.out _ (by assumption)).mono ?_; rintro e1 w4 ⟨rfl, hS4⟩))
              clear hw hself he1 hbb rulesP rulesQ key key2 key3
              go_wp2_with fail
              go_loopw [11] (fun i wr => ∃ r : Nat, r ≤ L.length ∧ i = .int .i64 r ∧ Ext wq wr) (fun i _ => L.length - (intOf i).toNat)
              case atStart => exact ⟨0, Nat.zero_le _, rfl, hS4⟩
              case round =>
                obtain ⟨r, hr, rfl, hxr⟩ := hrel
                obtain ⟨ws, rfl⟩ : ∃ ws : World, ws = wr := ⟨_, rfl⟩
                have hx3 := (hxp.trans hxq).trans hxr
                by_cases hrl : r < L.length
                · obtain ⟨b1, o1, C1, f1, eq1, c0, c1, c2, c3, hsubP⟩ := (hT.ext hx3).at_ hpl
                  obtain ⟨rfl, rfl⟩ : b = b1 ∧ o = o1 := by injection eq1 with e; injection e with e1 e2; exact ⟨e1, e2⟩
                  obtain ⟨b2, o2, C2', f2, eq2, d0, d1, d2, d3, hsubQ⟩ := (hT.ext hx3).at_ hql
                  obtain ⟨rfl, rfl⟩ : b = b2 ∧ o = o2 := by injection eq2 with e; injection e with e1 e2; exact ⟨e1, e2⟩
                  obtain ⟨b3, o3, C3, f3, eq3, g0, g1, g2, g3, hsubR⟩ := (hT.ext hx3).at_ hrl
                  obtain ⟨rfl, rfl⟩ : b = b3 ∧ o = o3 := by injection eq3 with e; injection e with e1 e2; exact ⟨e1, e2⟩
                  clear eq1 eq2 eq3
                  have k0 : (0 : Int) ≤ (r : Int) := Int.natCast_nonneg _
                  have k1 : (r : Int) < (L.length : Int) := by omega
                  have rp := HM.out _ (List.getElem_mem hpl)
                  have rq := HM.out _ (List.getElem_mem hql)
                  have rr := HM.out _ (List.getElem_mem hrl)
                  have key : Hid (∀ u : World, Ext ws u → Calls Try.prog 25 #[L[q].val C2' f2, L[r].val C3 f3] u fun e w' => e = .returned (.tuple #[.int .i64 (cmpT L[q] L[r]), .int .i64 0]) ∧ Ext ws w') :=
                    Lib.hid fun u k => (Order_yes _ _ _ _ _ _ u (hsubQ.ext k) (hsubR.ext k) rq rr).mono fun _ _ ⟨he, hk⟩ => ⟨he, k.trans hk⟩
                  have key2 : Hid (∀ u : World, Ext ws u → Calls Try.prog 25 #[L[p].val C1 f1, L[r].val C3 f3] u fun e w' => e = .returned (.tuple #[.int .i64 (cmpT L[p] L[r]), .int .i64 0]) ∧ Ext ws w') :=
                    Lib.hid fun u k => (Order_yes _ _ _ _ _ _ u (hsubP.ext k) (hsubR.ext k) rp rr).mono fun _ _ ⟨he, hk⟩ => ⟨he, k.trans hk⟩
                  have htr : Hid (cmpT L[p] L[q] < 0 → cmpT L[q] L[r] < 0 → cmpT L[p] L[r] < 0) := Lib.hid cmpT_trans
                  have rulesP := fun (u : World) (k : Ext ws u) => And.intro (k.cell c0) (And.intro (k.cell c1) (And.intro (k.cell c2) (k.cell c3)))
                  have rulesQ := fun (u : World) (k : Ext ws u) => And.intro (k.cell d0) (And.intro (k.cell d1) (And.intro (k.cell d2) (k.cell d3)))
                  have rulesR := fun (u : World) (k : Ext ws u) => And.intro (k.cell g0) (And.intro (k.cell g1) (And.intro (k.cell g2) (k.cell g3)))
                  clear rp rq rr c0 c1 c2 c3 d0 d1 d2 d3 g0 g1 g2 g3
                  go_wp2_with fail
                  have hR0 := Ext.refl ws
                  go_region_held3 (fun u => Ext ws u) (first | assumption | exact hR0.drew)
                    (first | (go_at_call 25; refine (key.out _ (by assumption)).mono ?_; rintro e1 w5 ⟨rfl, hS5⟩))
                  go_wp2_with fail
                  go_region_held3 (fun u => Ext ws u) (first | assumption | exact hS5.drew)
                    (first | (go_at_call 25; refine (key2.out _ (by assumption)).mono ?_; rintro e2 w6 ⟨rfl, hS6⟩))
                  clear rulesP rulesQ rulesR
                  go_wp2_with (go_at_call 19; refine (num_any _ _).mono ?_; rintro e w' ⟨rfl, rfl⟩)
                  · exfalso
                    have := htr.out (by assumption) (by assumption)
                    omega
                  all_goals
                    go_roundw
                    case rel => exact ⟨r + 1, by omega, by go_num, hxr.trans hS6⟩
                    case measure => simp [intOf]; omega
                · go_wp2_with fail
                  go_roundw
                  case rel => exact ⟨q + 1, by omega, by go_num, hxq.trans hxr⟩
                  case measure => simp [intOf]; omega
            · go_wp2_with fail
              go_roundw
              case rel => exact ⟨p + 1, by omega, by go_num, hxp.trans hxq⟩
              case measure => simp [intOf]; omega
        · go_wp2_with fail
          refine (wakes_any _).mono ?_
          rintro e w9 ⟨rfl, hx9⟩
          go_wp2_with fail
          go_ret
          exact ⟨rfl, (hxw.trans hxp).trans hx9⟩
end Go.Proofs.Ytjahhkobecjckaa
