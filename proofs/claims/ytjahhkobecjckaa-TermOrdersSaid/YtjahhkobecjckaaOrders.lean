/- TermOrders: the order of any two terms, and any one with other variables, are the page's. -/
import Derived.Test.YtjahhkobecjckaaHeavy
import Derived.Test.YtjahhkobecjckaaAll
import Derived.Test.YtjahhkobecjckaaStrs
import Derived.Laws.AppendOwnNone
import Derived.Maps.AppendAt
import Derived.OwnWalk
import Derived.Deep.RegionHeld3
import Derived.Deep.DeepCutAuto
import Derived.Deep.CutBlock
namespace Go.Proofs.Ytjahhkobecjckaa
open Go.RowKit

theorem infoStr : (Try.prog.info? 9).map (fun i => (i.zero, i.size, i.bytes)) = some (some (.string ⟨#[]⟩), 1, 16) := by kernel_rfl
/-- the statement's own four texts -/
abbrev lits : List ByteArray := [⟨#[]⟩, ⟨#[95, 49]⟩, ⟨#[120]⟩, ⟨#[116, 111, 111, 108, 111, 110, 103, 116, 111, 111, 108, 111, 110, 103, 116, 111, 111]⟩]

set_option maxRecDepth 100000 in
set_option maxHeartbeats 8000000 in
theorem orders_walk (ts : List Tm) (ss : List ByteArray) (A B : Option Addr) (c d : Nat) (w : World) (hl : ts.length * 56 ≤ 140737488351232) (h : TmsAt w ts A) (hm : ss.length * 16 ≤ 140737488351232) (hs : StrsAt w ss B) (hBn : B = none → d = 0) :
    Calls Try.prog 4 #[.agg #[.slice A ts.length c, .slice B ss.length d]] w fun e w' => e = .returned (.bool true) ∧ Ext w w' := by
  by_cases hv : heavyB ts ss = true
  · go_enter Try.func4, Try.ntmps4
    go_wp2_with fail
    refine (heavy_any ts ss A B c d _ hl (h.ext ((Ext.refl _).alloc _)) hm (hs.ext ((Ext.refl _).alloc _))).mono ?_
    rintro e w1 ⟨rfl, hx1⟩
    go_wp2_with fail
    go_ret
    exact ⟨rfl, ((Ext.refl _).alloc _).trans hx1⟩
  · have hv' := not_true hv
    obtain ⟨lt1, lt2, lt3, lt4⟩ := light hv'
    have LT1 := Lib.hid lt1
    have LT4 := Lib.hid lt4
    clear hv lt1 lt4
    go_enter Try.func4, Try.ntmps4
    go_wp2_with fail
    refine (heavy_any ts ss A B c d _ hl (h.ext ((Ext.refl _).alloc _)) hm (hs.ext ((Ext.refl _).alloc _))).mono ?_
    rintro e w1 ⟨rfl, hx1⟩
    have hx01 : Ext w w1 := ((Ext.refl _).alloc _).trans hx1
    have hbox : w1.cell? ⟨w.heap.size, 0, none⟩ = some (.slice A ts.length c) := hx1.cell (by go_simp)
    have hbox2 : w1.cell? ⟨w.heap.size, 1, none⟩ = some (.slice B ss.length d) := hx1.cell (by go_simp)
    clear hx1
    go_wp2_with fail
    go_loopw [3] (fun i wr => ∃ p : Nat, p ≤ ts.length ∧ i = .int .i64 p ∧ Ext w1 wr) (fun i _ => ts.length - (intOf i).toNat)
    case atStart => exact ⟨0, Nat.zero_le _, rfl, Ext.refl _⟩
    case round =>
      obtain ⟨p, hp, rfl, hxp⟩ := hrel
      obtain ⟨wp, rfl⟩ : ∃ wp : World, wp = wr := ⟨_, rfl⟩
      have hb0 := hxp.cell hbox
      have hb1 := hxp.cell hbox2
      have hxw := hx01.trans hxp
      by_cases hboth : p < ts.length ∧ p < 6
      · obtain ⟨hpl, hp6⟩ := hboth
        have hp6' : decide ((p : Int) < 6) = true := decide_eq_true (by omega)
        obtain ⟨b, o, C, e, rfl, a0, a1, a2, a3, hsub0⟩ := h.at_ hpl
        have hsub := hsub0.ext hxw
        have hhp : ts[p].high ≤ 30 := LT1.out _ (List.getElem_mem hpl)
        have i0 : (0 : Int) ≤ (p : Int) := Int.natCast_nonneg _
        have i1 : (p : Int) < (ts.length : Int) := by omega
        go_upto_block 2 with (fail)
        go_cut [4] (fun _ wx => Ext wp wx)
        case first =>
          as_aux_lemma =>
            go_wp2_with fail
            go_loopw [4] (fun i wr => ∃ q : Nat, q ≤ ts.length ∧ i = .int .i64 q ∧ Ext wp wr) (fun i _ => ts.length - (intOf i).toNat)
            case atStart => exact ⟨0, Nat.zero_le _, rfl, Ext.refl _⟩
            case round =>
              obtain ⟨q, hq, rfl, hxq⟩ := hrel
              obtain ⟨wq, rfl⟩ : ∃ wq : World, wq = wr := ⟨_, rfl⟩
              have hb0q := hxq.cell hb0
              by_cases hbothq : q < ts.length ∧ q < 6
              · obtain ⟨hql, hq6⟩ := hbothq
                have hq6' : decide ((q : Int) < 6) = true := decide_eq_true (by omega)
                obtain ⟨b2, o2, C2, e2, eq2, d0, d1, d2, d3, hsubq0⟩ := h.at_ hql
                obtain ⟨rfl, rfl⟩ : b = b2 ∧ o = o2 := by injection eq2 with e; injection e with e1 e2; exact ⟨e1, e2⟩
                clear eq2
                have hxwq := hxw.trans hxq
                have hsubp := hsub.ext hxq
                have hsubq := hsubq0.ext hxwq
                have hhq : ts[q].high ≤ 30 := LT1.out _ (List.getElem_mem hql)
                have j0 : (0 : Int) ≤ (q : Int) := Int.natCast_nonneg _
                have j1 : (q : Int) < (ts.length : Int) := by omega
                have key : Hid (∀ u : World, Ext wq u → Calls Try.prog 25 #[ts[p].val C e, ts[q].val C2 e2] u fun e w' => e = .returned (.tuple #[.int .i64 (ordV ts[p] ts[q]), .int .i64 (ordE ts[p] ts[q])]) ∧ Ext wq w') :=
                  Lib.hid fun u k => (Order_all _ _ _ _ _ _ u (hsubp.ext k) (hsubq.ext k)).mono fun _ _ ⟨he, hk⟩ => ⟨he, k.trans hk⟩
                have keyR : Hid (∀ u : World, Ext wq u → Calls Try.prog 26 #[ts[p].val C e, ts[q].val C2 e2] u fun e w' => e = .returned (.int .i64 (ordR ts[p] ts[q])) ∧ Ext wq w') :=
                  Lib.hid fun u k => (rOrder_any _ _ _ _ _ _ _ u (Nat.le_refl _) (hsubp.ext k) (hsubq.ext k)).mono fun _ _ ⟨he, hk⟩ => ⟨he, k.trans hk⟩
                have rulesP := fun (u : World) (k : Ext wq u) => And.intro ((hxwq.trans k).cell a0) (And.intro ((hxwq.trans k).cell a1) (And.intro ((hxwq.trans k).cell a2) ((hxwq.trans k).cell a3)))
                have rulesQ := fun (u : World) (k : Ext wq u) => And.intro ((hxwq.trans k).cell d0) (And.intro ((hxwq.trans k).cell d1) (And.intro ((hxwq.trans k).cell d2) ((hxwq.trans k).cell d3)))
                have rulesB := fun (u : World) (k : Ext wq u) => k.cell hb0q
                have hS0 := Ext.refl wq
                go_wp2_with fail
                go_region_held3 (fun u => Ext wq u) (first | assumption | exact hS0.drew)
                  (first | (go_at_call 25; refine (key.out _ (by assumption)).mono ?_; rintro e1 w2 ⟨rfl, hS⟩))
                have keyT : Hid (∀ u : World, Ext wq u → Calls Try.prog 13 #[ts[p].val C e] u fun e w' => e = .returned (.bool (mayB ts[p])) ∧ Ext wq w') :=
                  Lib.hid fun u k => (rTerm_any _ _ _ u (hsubp.ext k) (by omega)).mono fun _ _ ⟨he, hk⟩ => ⟨he, k.trans hk⟩
                have keyU : Hid (∀ u : World, Ext wq u → Calls Try.prog 13 #[ts[q].val C2 e2] u fun e w' => e = .returned (.bool (mayB ts[q])) ∧ Ext wq w') :=
                  Lib.hid fun u k => (rTerm_any _ _ _ u (hsubq.ext k) (by omega)).mono fun _ _ ⟨he, hk⟩ => ⟨he, k.trans hk⟩
                by_cases mp : mayB ts[p] = true
                · by_cases mq : mayB ts[q] = true
                  · have hE : ordE ts[p] ts[q] = 0 := by unfold ordE; rw [if_pos (by simp [mp, mq])]
                    have hV : ordV ts[p] ts[q] = ordR ts[p] ts[q] := by unfold ordV; rw [if_pos (by simp [mp, mq]), ordR_cmp mp mq]
                    have hself : (ordR ts[p] ts[q] != ordR ts[p] ts[q]) = false := by simp
                    go_wp2_with fail
                    refine (keyT.out _ hS).mono ?_
                    rintro e3 w3 ⟨rfl, hS3⟩
                    go_wp2_with fail
                    refine (keyU.out _ hS3).mono ?_
                    rintro e4 w4 ⟨rfl, hS4⟩
                    go_wp2_with fail
                    go_region_held3 (fun u => Ext wq u) (first | assumption | exact hS4.drew)
                      (first | (go_at_call 26; refine (keyR.out _ (by assumption)).mono ?_; rintro e5 w5 ⟨rfl, hS5⟩))
                    go_wp2_with (go_at_call 19; refine (num_any _ _).mono ?_; rintro e w' ⟨rfl, rfl⟩)
                    go_roundw
                    case rel => exact ⟨q + 1, by omega, by go_num, hxq.trans hS5⟩
                    case measure => simp [intOf]; omega
                  · have hE : ordE ts[p] ts[q] = 1 := by unfold ordE; rw [if_neg (by simp [mq])]
                    have hV : ordV ts[p] ts[q] = 0 := by unfold ordV; rw [if_neg (by simp [mq])]
                    have mq' := not_true mq
                    clear mq
                    go_wp2_with fail
                    refine (keyT.out _ hS).mono ?_
                    rintro e3 w3 ⟨rfl, hS3⟩
                    go_wp2_with fail
                    refine (keyU.out _ hS3).mono ?_
                    rintro e4 w4 ⟨rfl, hS4⟩
                    go_wp2_with (go_at_call 19; refine (num_any _ _).mono ?_; rintro e w' ⟨rfl, rfl⟩)
                    go_roundw
                    case rel => exact ⟨q + 1, by omega, by go_num, hxq.trans hS4⟩
                    case measure => simp [intOf]; omega
                · have hE : ordE ts[p] ts[q] = 1 := by unfold ordE; rw [if_neg (by simp [mp])]
                  have hV : ordV ts[p] ts[q] = 0 := by unfold ordV; rw [if_neg (by simp [mp])]
                  have mp' := not_true mp
                  clear mp
                  go_wp2_with fail
                  refine (keyT.out _ hS).mono ?_
                  rintro e3 w3 ⟨rfl, hS3⟩
                  go_wp2_with (go_at_call 19; refine (num_any _ _).mono ?_; rintro e w' ⟨rfl, rfl⟩)
                  go_roundw
                  case rel => exact ⟨q + 1, by omega, by go_num, hxq.trans hS3⟩
                  case measure => simp [intOf]; omega
              · have hcase : Hid (q < ts.length → ¬ q < 6) := Lib.hid fun a b => hbothq ⟨a, b⟩
                clear hbothq
                by_cases hlt : q < ts.length
                all_goals
                  first
                    | have h6' : decide ((q : Int) < 6) = false := decide_eq_false (by have := hcase.out hlt; omega)
                    | skip
                  go_wp2_with fail
                  go_meet
                  exact hxq
        case rest =>
          as_aux_lemma =>
            have hxc : Ext wp wc := hcut
            have hb0c := hxc.cell hb0
            have hb1c := hxc.cell hb1
            have hxwc := hxw.trans hxc
            have hsc := hs.ext hxwc
            have lbw : w.heap.size < wc.heap.size := World.block_lt_of_cell? wc _ hb0c
            clear hcut
            obtain ⟨wd, rfl⟩ : ∃ wd : World, wd = wc := ⟨_, rfl⟩
            obtain ⟨s0, hs0, hsz0, hsz1, hsz2⟩ := info_parts infoStr
            go_upto_region 15 with (fail)
            go_cut [9] (fun v wx => ∃ (A' : Option Addr) (c' : Nat), v = .slice A' (lits ++ ss).length c' ∧ StrsAt wx (lits ++ ss) A' ∧ Ext wd wx)
            case first =>
              as_aux_lemma =>
                have hbig : ∀ s ∈ lits ++ ss, s.size ≤ 140737488351232 := fun s hs' => by
                  rcases List.mem_append.1 hs' with h1 | h1
                  · have : ∀ x ∈ lits, x.size ≤ 140737488351232 := by decide
                    exact this s h1
                  · have := LT4.out s h1; omega
                have HBIG := Lib.hid hbig
                clear hbig
                rcases B with _ | ad
                · have hd0 := hBn rfl
                  subst hd0
                  have hss : ss = [] := by
                    rcases ss with _ | ⟨s, r⟩
                    · rfl
                    · obtain ⟨b', o', e', _⟩ := hs 0 (by simp); cases e'
                  subst hss
                  have hown0 : (wd.alloc (.cells #[.string ⟨#[]⟩, .string ⟨#[95, 49]⟩, .string ⟨#[120]⟩, .string ⟨#[116, 111, 111, 108, 111, 110, 103, 116, 111, 111, 108, 111, 110, 103, 116, 111, 111]⟩] 9)).ownsRow wd.heap.size 9 1 (.slice (some ⟨wd.heap.size, 0, none⟩) 4 4) 4 (strCells lits) := World.ownsRow_lit wd _ 4 (Nat.le_refl _) (by unfold maxLen; omega) rfl
                  have HOWN0 := Lib.hid hown0
                  clear hown0
                  go_wp2_with (at_builtin; refine wpList_append_own_none rfl _ _ 23 rfl wd.heap.size 9 s0 1 Try.underlying23 hs0 _ 4 (strCells lits) rfl HOWN0.out rfl ?_)
                  go_meet
                  obtain ⟨A', c', e', hA⟩ := owned_strs (ss := lits) HOWN0.out (fun s hs' => HBIG.out s (List.mem_append_left _ hs'))
                  exact ⟨A', c', e', hA, (Ext.refl _).alloc _⟩
                · have hown0 : (wd.alloc (.cells #[.string ⟨#[]⟩, .string ⟨#[95, 49]⟩, .string ⟨#[120]⟩, .string ⟨#[116, 111, 111, 108, 111, 110, 103, 116, 111, 111, 108, 111, 110, 103, 116, 111, 111]⟩] 9)).ownsRow wd.heap.size 9 1 (.slice (some ⟨wd.heap.size, 0, none⟩) 4 4) 4 (strCells lits) := World.ownsRow_lit wd _ 4 (Nat.le_refl _) (by unfold maxLen; omega) rfl
                  have HOWN0 := Lib.hid hown0
                  clear hown0
                  have hsa := Lib.hid (hsc.ext ((Ext.refl wd).alloc (.cells #[.string ⟨#[]⟩, .string ⟨#[95, 49]⟩, .string ⟨#[120]⟩, .string ⟨#[116, 111, 111, 108, 111, 110, 103, 116, 111, 111, 108, 111, 110, 103, 116, 111, 111]⟩] 9)))
                  go_wp2_with (at_builtin; refine wpList_append_own_at _ rfl _ _ 23 rfl wd.heap.size 9 s0 _ 1 16 Try.underlying23 hs0 hsz0 hsz1 hsz2 rfl (by decide) _ 4 (strCells lits) rfl HOWN0.out ad ss.length d (strCells ss) rfl ?c0 hsa.out.news (strCells_one ss) ?c3 ?c4 ?c5 ?_)
                  case c0 => simp [strCells]
                  case c3 => simp only [maxLen]; omega
                  case c4 => omega
                  case c5 => simp
                  intro v' w4 hown4 hgrow _ hat
                  have hown5 : w4.ownsRow wd.heap.size 9 1 v' (lits ++ ss).length (strCells (lits ++ ss)) := by
                    have e : strCells lits ++ strCells ss = strCells (lits ++ ss) := by simp [strCells]
                    have e2 : 4 + ss.length = (lits ++ ss).length := by simp; omega
                    rw [e, e2] at hown4
                    exact hown4
                  obtain ⟨A', c', e', hA⟩ := owned_strs hown5 HBIG.out
                  have hx4 : Ext wd w4 := Below.grown ((Ext.refl wd).alloc _) hgrow (by simp) (fun k hk => by simp [Value.ownBlock] at hk; omega)
                  subst e'
                  clear hown4 hown5 hgrow hat
                  go_wp2_with fail
                  go_meet
                  exact ⟨A', c', rfl, hA, hx4⟩
            case rest =>
              as_aux_lemma =>
                obtain ⟨A', c', rfl, hT, hxt⟩ := hcut
                obtain ⟨wt, rfl⟩ : ∃ wt : World, wt = wc := ⟨_, rfl⟩
                have hxwt := hxwc.trans hxt
                have hb0t := hxt.cell hb0c
                have TS : Hid (∀ s ∈ lits ++ ss, s.size ≤ 100000) := Lib.hid fun s hs' => by
                  rcases List.mem_append.1 hs' with h1 | h1
                  · have : ∀ x ∈ lits, x.size ≤ 100000 := by decide
                    exact this s h1
                  · have := LT4.out s h1; omega
                have hTl : (lits ++ ss).length ≤ 3000 := by simp; omega
                generalize lits ++ ss = T at *
                clear hb0c hb1c hsc lbw hs0 hsz0 hsz1 hsz2
                go_wp2_with fail
                go_loopw [10] (fun i wr => ∃ r : Nat, r ≤ T.length ∧ i = .int .i64 r ∧ Ext wt wr) (fun i _ => T.length - (intOf i).toNat)
                case atStart => exact ⟨0, Nat.zero_le _, rfl, Ext.refl _⟩
                case round =>
                  obtain ⟨r, hr, rfl, hxr⟩ := hrel
                  obtain ⟨wq, rfl⟩ : ∃ wq : World, wq = wr := ⟨_, rfl⟩
                  have hxwq := hxwt.trans hxr
                  have hb0q := hxr.cell hb0t
                  by_cases hbothr : r < T.length ∧ r < 10
                  · obtain ⟨hrl, hr10⟩ := hbothr
                    have hr10' : decide ((r : Int) < 10) = true := decide_eq_true (by omega)
                    obtain ⟨tb, tof, rfl, ct, _⟩ := (hT.ext hxr) r hrl
                    have hsr : T[r].size ≤ 100000 := TS.out _ (List.getElem_mem hrl)
                    have k0 : (0 : Int) ≤ (r : Int) := Int.natCast_nonneg _
                    have k1 : (r : Int) < (T.length : Int) := by omega
                    have q0 := hxwq.cell a0
                    have q1 := hxwq.cell a1
                    have q2 := hxwq.cell a2
                    have q3 := hxwq.cell a3
                    have hsubq := hsub0.ext hxwq
                    generalize hTr : T[r] = s at *
                    have HTR := Lib.hid hTr
                    clear hTr
                    go_wp2_with fail
                    refine (copy_all _ ts[p] C e _ (Nat.le_refl _) hsubq).mono ?_
                    rintro e1 w2 ⟨Ai, ci, rfl, hOi, hx2⟩
                    have hIn := hOi.at_
                    clear hOi
                    go_upto_region 20 with (fail)
                    have hxi : Ext wq (w2.alloc (Obj.cells #[.int .i64 ts[p].kind, .string ts[p].name, .int .i64 ts[p].n, .slice Ai ts[p].args.length ci] 28)) := hx2.alloc _
                    have n0 : (w2.alloc (Obj.cells #[.int .i64 ts[p].kind, .string ts[p].name, .int .i64 ts[p].n, .slice Ai ts[p].args.length ci] 28)).cell? ⟨w2.heap.size, 0, none⟩ = some (.int .i64 ts[p].kind) := by go_simp
                    have n1 : (w2.alloc (Obj.cells #[.int .i64 ts[p].kind, .string ts[p].name, .int .i64 ts[p].n, .slice Ai ts[p].args.length ci] 28)).cell? ⟨w2.heap.size, 1, none⟩ = some (.string ts[p].name) := by go_simp
                    have n2 : (w2.alloc (Obj.cells #[.int .i64 ts[p].kind, .string ts[p].name, .int .i64 ts[p].n, .slice Ai ts[p].args.length ci] 28)).cell? ⟨w2.heap.size, 2, none⟩ = some (.int .i64 ts[p].n) := by go_simp
                    have n3 : (w2.alloc (Obj.cells #[.int .i64 ts[p].kind, .string ts[p].name, .int .i64 ts[p].n, .slice Ai ts[p].args.length ci] 28)).cell? ⟨w2.heap.size, 3, none⟩ = some (.slice Ai ts[p].args.length ci) := by go_simp
                    have hInW : TmAt (w2.alloc (Obj.cells #[.int .i64 ts[p].kind, .string ts[p].name, .int .i64 ts[p].n, .slice Ai ts[p].args.length ci] 28)) ts[p] Ai ci := hIn.ext ((Ext.refl _).alloc _)
                    have cti := hxi.cell ct
                    generalize (w2.alloc (Obj.cells #[.int .i64 ts[p].kind, .string ts[p].name, .int .i64 ts[p].n, .slice Ai ts[p].args.length ci] 28)) = wi at *
                    clear hIn
                    go_cut [12, 13] (fun p12 v13 wx => ∃ (g : Nat) (A1 : Option Addr) (c1 : Nat), p12 = .pointer (some ⟨g, 0, none⟩) ∧ v13 = .int .i64 (outE s ts[p]) ∧ Hid (wi.heap.size ≤ g ∧ wx.cell? ⟨g, 0, none⟩ = some (.int .i64 (outT s ts[p]).kind) ∧ wx.cell? ⟨g, 1, none⟩ = some (.string (outT s ts[p]).name) ∧
                      wx.cell? ⟨g, 2, none⟩ = some (.int .i64 (outT s ts[p]).n) ∧ wx.cell? ⟨g, 3, none⟩ = some (.slice A1 (outT s ts[p]).args.length c1)) ∧ Hid (TmOwn wx (outT s ts[p]) A1 c1 (fun k => wi.heap.size ≤ k ∧ k < wx.heap.size ∧ k ≠ g)) ∧ Ext wi wx)
                    case first =>
                      as_aux_lemma =>
                        have rulesI := fun (u : World) (k : Ext wi u) => And.intro (k.cell n0) (And.intro (k.cell n1) (And.intro (k.cell n2) (k.cell n3)))
                        have rulesT := fun (u : World) (k : Ext wi u) => k.cell cti
                        have hI0 := Ext.refl wi
                        have KA := Lib.hid (fun u => Rename_A ts[p] s Ai ci wi u hInW hsr)
                        have KB := Lib.hid (fun u => Rename_B ts[p] s Ai ci wi u hInW hsr)
                        go_region_held3 (fun u => Ext wi u) (first | assumption | exact hI0.drew | exact Ext.alloc hI0.drew _ | exact (Ext.alloc hI0 _).drew | exact hS5 | exact Ext.alloc hS5 _ | exact (((Ext.setCell (Ext.setCell (Ext.setCell (Ext.setCell hS5 (Nat.le_refl _) _) (Nat.le_refl _) _) (Nat.le_refl _) _) (Nat.le_refl _) _))))
                          (first
                            | (go_at_call 27; refine (KB.out _ ?_).mono ?_; (first | exact Ext.refl _ | exact (Ext.refl _).drew); rintro e5 w5 ⟨A1, c1, rfl, hO5, hS5, y0, y1, y2, y3, z0, z1, z2, z3⟩)
                            | (go_at_call 27; refine (KA.out _ (by assumption)).mono ?_; rintro e5 w5 ⟨A1, c1, rfl, hO5, hS5⟩))
                        · have hsz5 := hS5.size
                          go_wp2_with fail
                          go_meet
                          refine ⟨w5.heap.size, A1, c1, rfl, rfl, Lib.hid ⟨hsz5, by go_simp, by go_simp, by go_simp, by go_simp⟩, Lib.hid ((hO5.ext ((Ext.refl _).alloc _)).weak fun k hk => ⟨hk.1, ?_, by omega⟩), hS5.alloc _⟩
                          simp; omega
                        · have HC := Lib.hid (set4_cells (o := 0) (.int .i64 (outT s ts[p]).kind) (.string (outT s ts[p]).name) (.int .i64 (outT s ts[p]).n) (.slice A1 (outT s ts[p]).args.length c1) y0 y1 y2 y3)
                          go_wp2_with fail
                          go_meet
                          refine ⟨wi.heap.size, A1, c1, rfl, rfl, Lib.hid ⟨Nat.le_refl _, HC.out⟩, Lib.hid ((hO5.keep fun k hk _ => set4_block w5 wi.heap.size 0 _ _ _ _ k (by omega)).weak fun k hk => ⟨by omega, ?_, by omega⟩), Chg.ext_of hS5 (set4_chg w5 wi.heap.size 0 _ _ _ _ (F := fun x => x = wi.heap.size) rfl) (fun b hb => by omega)⟩
                          have := set4_size w5 wi.heap.size 0 (.int .i64 (outT s ts[p]).kind) (.string (outT s ts[p]).name) (.int .i64 (outT s ts[p]).n) (.slice A1 (outT s ts[p]).args.length c1)
                          exact Nat.lt_of_lt_of_eq hk.2 this.symm
                    case rest =>
                      as_aux_lemma =>
                        obtain ⟨g, A1, c1, rfl, rfl, HG, HO, hxg⟩ := hcut
                        obtain ⟨wx, rfl⟩ : ∃ wx : World, wx = wc := ⟨_, rfl⟩
                        have hxqx := hxi.trans hxg
                        have hxwx := hxwq.trans hxqx
                        have hb0x := hxqx.cell hb0q
                        have m0 := hxqx.cell q0
                        have m1 := hxqx.cell q1
                        have m2 := hxqx.cell q2
                        have m3 := hxqx.cell q3
                        have ctx := hxqx.cell ct
                        have lb0 : w.heap.size < wx.heap.size := World.block_lt_of_cell? wx _ hb0x
                        have lb1 : b < wx.heap.size := World.block_lt_of_cell? wx _ m0
                        have lb2 : tb < wx.heap.size := World.block_lt_of_cell? wx _ ctx
                        have hsubx := hsubq.ext hxqx
                        have hs' : s.size ≤ maxLen := by unfold maxLen; omega
                        go_upto_region 23 with (fail)
                        have hxv : Ext wx (wx.alloc (.cells #[.int .i64 0, .string ⟨#[]⟩, .int .i64 0, .slice none 0 0] 28)) := (Ext.refl _).alloc _
                        have HZ := Lib.hid (Box4.new wx (.int .i64 0) (.string ⟨#[]⟩) (.int .i64 0) (.slice none 0 0))
                        generalize wx.alloc (.cells #[.int .i64 0, .string ⟨#[]⟩, .int .i64 0, .slice none 0 0] 28) = wv at *
                        have m0v := hxv.cell m0
                        have m1v := hxv.cell m1
                        have m2v := hxv.cell m2
                        have m3v := hxv.cell m3
                        have hb0v := hxv.cell hb0x
                        have ctv := hxv.cell ctx
                        have hsubv := hsubx.ext hxv
                        have lwv : wx.heap.size < wv.heap.size := HZ.out.lt
                        go_cut [131] (fun v wy => v = .bool (goB s ts[p]) ∧ Ext wv wy)
                        case first =>
                          as_aux_lemma =>
                            by_cases hmay : mayB ts[p] = true
                            · have HB := Lib.hid (show goB s ts[p] = tailB s by unfold goB; rw [hmay, Bool.true_and])
                              go_wp2_with fail
                              refine (rTerm_any ts[p] C e _ hsubv (by omega)).mono ?_
                              rintro e7 w7 ⟨rfl, hx7⟩
                              have ct7 := hx7.cell ctv
                              go_wp2_with fail
                              refine (Suffix_any s _ hs').mono ?_
                              rintro e8 w8 ⟨rfl, rfl⟩
                              go_wp2_with fail
                              go_meet
                              exact ⟨by rw [HB.out], hx7⟩
                            · have hmay' := not_true hmay
                              have HB := Lib.hid (show goB s ts[p] = false by unfold goB; rw [hmay', Bool.false_and])
                              clear hmay
                              go_wp2_with fail
                              refine (rTerm_any ts[p] C e _ hsubv (by omega)).mono ?_
                              rintro e7 w7 ⟨rfl, hx7⟩
                              go_wp2_with fail
                              go_meet
                              exact ⟨by rw [HB.out], hx7⟩
                        case rest =>
                          as_aux_lemma =>
                            obtain ⟨rfl, hxv7⟩ := hcut
                            obtain ⟨w7, rfl⟩ : ∃ w7 : World, w7 = wc := ⟨_, rfl⟩
                            have HZ7 := Lib.hid (HZ.out.ext hxv7)
                            have hx7 := hxv.trans hxv7
                            have lw7 : wx.heap.size < w7.heap.size := HZ7.out.lt
                            have ct7 := hxv7.cell ctv
                            have hb07 := hxv7.cell hb0v
                            have p0 := hxv7.cell m0v
                            have p1 := hxv7.cell m1v
                            have p2 := hxv7.cell m2v
                            have p3 := hxv7.cell m3v
                            have hsub7 := hsubv.ext hxv7
                            clear m0v m1v m2v m3v hb0v ctv hsubv
                            go_upto_if 131 with (fail)
                            go_cut [14] (fun v wz => v = .int .i64 (outE s ts[p]) ∧ Hid (Want s ts[p] wx wz))
                            case first =>
                              as_aux_lemma =>
                                by_cases hbb : (mayB ts[p] && tailB s) = true
                                · obtain ⟨hmay, htl⟩ : mayB ts[p] = true ∧ tailB s = true := by simpa using hbb
                                  have hgo : goB s ts[p] = true := hbb
                                  rw [hgo]
                                  by_cases hok : okR s ts[p] = true
                                  · have HE := Lib.hid (show outE s ts[p] = 0 by unfold outE; rw [if_pos hbb, if_pos hok])
                                    have HT := Lib.hid (show outT s ts[p] = renT s ts[p] by unfold outT; rw [if_pos hbb, if_pos hok])
                                    have hall := Lib.hid (may_all hmay)
                                    go_upto_region 25 with (fail)
                                    go_cut [16, 17] (fun p16 v17 wy => ∃ (gx : Nat) (A2 : Option Addr) (c2 : Nat), p16 = .pointer (some ⟨gx, 0, none⟩) ∧ v17 = .bool true ∧ Hid (w7.heap.size ≤ gx ∧ wy.cell? ⟨gx, 0, none⟩ = some (.int .i64 (renT s ts[p]).kind) ∧ wy.cell? ⟨gx, 1, none⟩ = some (.string (renT s ts[p]).name) ∧
                                      wy.cell? ⟨gx, 2, none⟩ = some (.int .i64 (renT s ts[p]).n) ∧ wy.cell? ⟨gx, 3, none⟩ = some (.slice A2 (renT s ts[p]).args.length c2)) ∧ Hid (TmHi wy w7.heap.size (renT s ts[p]) A2 c2) ∧ Ext w7 wy)
                                    case first =>
                                      as_aux_lemma =>
                                        have rulesA := fun (u : World) (k : Ext w7 u) => And.intro (k.cell p0) (And.intro (k.cell p1) (And.intro (k.cell p2) (k.cell p3)))
                                        have rulesB := fun (u : World) (k : Ext w7 u) => And.intro (k.cell hb07) (k.cell ct7)
                                        have KA := Lib.hid (fun u => Rren_A ts[p] s C e w7 u hsub7 hall.out hsr hok)
                                        have KB := Lib.hid (fun u => Rren_B ts[p] s C e w7 u hsub7 hall.out hsr hok)
                                        have hI0 := Ext.refl w7
                                        go_region_held3 (fun u => Ext w7 u) (first | assumption | exact hI0.drew | exact Ext.alloc hI0.drew _ | exact (Ext.alloc hI0 _).drew | exact hS5 | exact Ext.alloc hS5 _ | exact (((Ext.setCell (Ext.setCell (Ext.setCell (Ext.setCell hS5 (Nat.le_refl _) _) (Nat.le_refl _) _) (Nat.le_refl _) _) (Nat.le_refl _) _))))
                                          (first
                                            | (go_at_call 29; refine (KB.out _ ?_).mono ?_; (first | exact Ext.refl _ | exact (Ext.refl _).drew); rintro e5 w5 ⟨A2, c2, rfl, hH5, hS5, y0, y1, y2, y3, z0, z1, z2, z3⟩)
                                            | (go_at_call 29; refine (KA.out _ (by assumption)).mono ?_; rintro e5 w5 ⟨A2, c2, rfl, hH5, hS5⟩))
                                        · have hsz5 := hS5.size
                                          go_wp2_with fail
                                          go_meet
                                          exact ⟨w5.heap.size, A2, c2, rfl, rfl, Lib.hid ⟨hsz5, by go_simp, by go_simp, by go_simp, by go_simp⟩, Lib.hid (hH5.ext ((Ext.refl _).alloc _)), hS5.alloc _⟩
                                        · have HC := Lib.hid (set4_cells (o := 0) (.int .i64 (renT s ts[p]).kind) (.string (renT s ts[p]).name) (.int .i64 (renT s ts[p]).n) (.slice A2 (renT s ts[p]).args.length c2) y0 y1 y2 y3)
                                          go_wp2_with fail
                                          go_meet
                                          exact ⟨w7.heap.size, A2, c2, rfl, rfl, Lib.hid ⟨Nat.le_refl _, HC.out⟩, Lib.hid ((hH5.keep fun k hk _ => set4_block w5 w7.heap.size 0 _ _ _ _ k (by omega)).weak (by omega)), Chg.ext_of hS5 (set4_chg w5 w7.heap.size 0 _ _ _ _ (F := fun x => x = w7.heap.size) rfl) (fun b hb => by omega)⟩
                                    case rest =>
                                      as_aux_lemma =>
                                        obtain ⟨gx, A2, c2, rfl, rfl, HX, HH, hxy⟩ := hcut
                                        obtain ⟨wy, rfl⟩ : ∃ wy : World, wy = wc := ⟨_, rfl⟩
                                        obtain ⟨hgx, x0, x1, x2, x3⟩ := HX.out
                                        have HZY := Lib.hid (HZ7.out.ext hxy)
                                        obtain ⟨z0, z1, z2, z3, f0, f1, f2, f3⟩ := HZY.out
                                        have hgne : gx ≠ wx.heap.size := by omega
                                        have hgne2 : wx.heap.size ≠ gx := by omega
                                        have HWW := Lib.hid (Want.some_ (hx7.trans hxy) HZY.out HT.out HH.out (by omega))
                                        go_upto_region 27 with (fail)
                                        go_region
                                        go_wp2_with fail
                                        go_meet
                                        exact ⟨by rw [HE.out], Lib.hid HWW.out.drew⟩
                                  · have HE := Lib.hid (show outE s ts[p] = 2 by unfold outE; rw [if_pos hbb, if_neg hok])
                                    have HT := Lib.hid (show outT s ts[p] = noTm by unfold outT; rw [if_pos hbb, if_neg hok])
                                    have hall := Lib.hid (may_all hmay)
                                    have hok' := not_true hok
                                    clear hok
                                    go_upto_region 25 with (fail)
                                    go_cut [16, 17] (fun p16 v17 wy => ∃ gx : Nat, p16 = .pointer (some ⟨gx, 0, none⟩) ∧ v17 = .bool false ∧ Ext w7 wy)
                                    case first =>
                                      as_aux_lemma =>
                                        have rulesA := fun (u : World) (k : Ext w7 u) => And.intro (k.cell p0) (And.intro (k.cell p1) (And.intro (k.cell p2) (k.cell p3)))
                                        have rulesB := fun (u : World) (k : Ext w7 u) => And.intro (k.cell hb07) (k.cell ct7)
                                        have KC := Lib.hid (fun u => Rren_C ts[p] s C e w7 u hsub7 hall.out hsr hok')
                                        have KD := Lib.hid (fun u => Rren_D ts[p] s C e w7 u hsub7 hall.out hsr hok')
                                        have hI0 := Ext.refl w7
                                        go_region_held3 (fun u => Ext w7 u) (first | assumption | exact hI0.drew | exact Ext.alloc hI0.drew _ | exact (Ext.alloc hI0 _).drew | exact hS5 | exact Ext.alloc hS5 _ | exact (((Ext.setCell (Ext.setCell (Ext.setCell (Ext.setCell hS5 (Nat.le_refl _) _) (Nat.le_refl _) _) (Nat.le_refl _) _) (Nat.le_refl _) _))))
                                          (first
                                            | (go_at_call 29; refine (KD.out _ ?_).mono ?_; (first | exact Ext.refl _ | exact (Ext.refl _).drew); rintro e5 w5 ⟨kk, mm, nn, BB, ll, cc, rfl, hS5, y0, y1, y2, y3, z0, z1, z2, z3⟩)
                                            | (go_at_call 29; refine (KC.out _ (by assumption)).mono ?_; rintro e5 w5 ⟨kk, mm, nn, BB, ll, cc, rfl, hS5⟩))
                                        · go_wp2_with fail
                                          go_meet
                                          exact ⟨_, rfl, rfl, hS5.alloc _⟩
                                        · go_wp2_with fail
                                          go_meet
                                          exact ⟨_, rfl, rfl, Chg.ext_of hS5 (set4_chg w5 w7.heap.size 0 _ _ _ _ (F := fun x => x = w7.heap.size) rfl) (fun b hb => by omega)⟩
                                    case rest =>
                                      as_aux_lemma =>
                                        obtain ⟨gx, rfl, rfl, hxy⟩ := hcut
                                        go_wp2_with fail
                                        go_meet
                                        exact ⟨by rw [HE.out], Lib.hid (Want.nil_ (hx7.trans hxy) (HZ7.out.ext hxy) HT.out)⟩
                                · have HE := Lib.hid (show outE s ts[p] = 1 by unfold outE; rw [if_neg hbb])
                                  have HT := Lib.hid (show outT s ts[p] = noTm by unfold outT; rw [if_neg hbb])
                                  have hgo : goB s ts[p] = false := not_true hbb
                                  rw [hgo]
                                  clear hbb
                                  go_wp2_with fail
                                  go_meet
                                  exact ⟨by rw [HE.out], Lib.hid (Want.nil_ hx7 HZ7.out HT.out)⟩
                            case rest =>
                              as_aux_lemma =>
                                obtain ⟨rfl, HW⟩ := hcut
                                obtain ⟨wz, rfl⟩ : ∃ wz : World, wz = wc := ⟨_, rfl⟩
                                obtain ⟨hxz, Aw, cw, y0, y1, y2, y3, hW⟩ := HW.out
                                have hxiz := hxg.trans hxz
                                obtain ⟨hgi, h0g, h1g, h2g, h3g⟩ := HG.out
                                have key1 : Hid (∀ u : World, Ext wz u → Calls Try.prog 22 #[(outT s ts[p]).val A1 c1, (outT s ts[p]).val Aw cw] u fun e w' => e = .returned (.bool true) ∧ Ext wz w') :=
                                  Lib.hid fun u k => (EqTerm_self _ _ _ _ _ u (HO.out.at_.ext (hxz.trans k)) (hW.ext k)).mono fun _ _ ⟨he, hk⟩ => ⟨he, k.trans hk⟩
                                have key2 : Hid (∀ u : World, Ext wz u → Calls Try.prog 22 #[ts[p].val Ai ci, ts[p].val C e] u fun e w' => e = .returned (.bool true) ∧ Ext wz w') :=
                                  Lib.hid fun u k => (EqTerm_self _ _ _ _ _ u (hInW.ext (hxiz.trans k)) (hsubx.ext (hxz.trans k))).mono fun _ _ ⟨he, hk⟩ => ⟨he, k.trans hk⟩
                                have keyn : Hid (∀ (n : Int) (u : World), Ext wz u → Calls Try.prog 19 #[.int .i64 n] u fun e w' => e = .returned (.int .i64 n) ∧ Ext wz w') :=
                                  Lib.hid fun n u k => (num_any n u).mono fun _ _ ⟨he, hk⟩ => ⟨he, hk ▸ k⟩
                                have rulesN := fun (u : World) (k : Ext wz u) => And.intro ((hxiz.trans k).cell n0) (And.intro ((hxiz.trans k).cell n1) (And.intro ((hxiz.trans k).cell n2) ((hxiz.trans k).cell n3)))
                                have rulesG := fun (u : World) (k : Ext wz u) => And.intro ((hxz.trans k).cell h0g) (And.intro ((hxz.trans k).cell h1g) (And.intro ((hxz.trans k).cell h2g) ((hxz.trans k).cell h3g)))
                                have rulesY := fun (u : World) (k : Ext wz u) => And.intro (k.cell y0) (And.intro (k.cell y1) (And.intro (k.cell y2) (k.cell y3)))
                                have rulesM := fun (u : World) (k : Ext wz u) => And.intro ((hxz.trans k).cell m0) (And.intro ((hxz.trans k).cell m1) (And.intro ((hxz.trans k).cell m2) ((hxz.trans k).cell m3)))
                                have rulesB := fun (u : World) (k : Ext wz u) => (hxz.trans k).cell hb0x
                                have hself : (outE s ts[p] != outE s ts[p]) = false := by simp
                                have hZ0 := Ext.refl wz
                                clear y0 y1 y2 y3 h0g h1g h2g h3g p0 p1 p2 p3 hb07 ct7 HZ7 HZ HW
                                go_wp2_with fail
                                go_region_held3 (fun u => Ext wz u) (first | assumption | exact hZ0.drew)
                                  (first
                                    | (go_at_call 19; refine (keyn.out _ _ (by assumption)).mono ?_; rintro e9 w9 ⟨rfl, hS9⟩)
                                    | (go_at_call 22; (with_reducible refine (key1.out _ (by assumption)).mono ?_); rintro e9 w9 ⟨rfl, hS9⟩)
                                    | (go_at_call 22; (with_reducible refine (key2.out _ (by assumption)).mono ?_); rintro e9 w9 ⟨rfl, hS9⟩))
                                clear rulesN rulesY rulesM rulesB key1 key2 keyn
                                go_wp2_with fail
                                refine (spoil_any (outT s ts[p]).high (outT s ts[p]) A1 c1 (fun k => wi.heap.size ≤ k ∧ k < wx.heap.size ∧ k ≠ g) _ (Nat.le_refl _) (Lib.hid (fun b hb => by have := hb.2.1; have := hxz.size; have := hS9.size; omega)) (HO.out.ext (hxz.trans hS9))).mono ?_
                                rintro e10 w10 ⟨rfl, hc10⟩
                                have hx10 : Ext wi w10 := Chg.ext_of (hxiz.trans hS9) hc10 (fun b hb => hb.1)
                                have hxq10 := hxi.trans hx10
                                have key3 : Hid (∀ u : World, Ext w10 u → Calls Try.prog 22 #[ts[p].val Ai ci, ts[p].val C e] u fun e w' => e = .returned (.bool true) ∧ Ext w10 w') :=
                                  Lib.hid fun u k => (EqTerm_self _ _ _ _ _ u (hInW.ext (hx10.trans k)) (hsubq.ext (hxq10.trans k))).mono fun _ _ ⟨he, hk⟩ => ⟨he, k.trans hk⟩
                                have rulesN := fun (u : World) (k : Ext w10 u) => And.intro ((hx10.trans k).cell n0) (And.intro ((hx10.trans k).cell n1) (And.intro ((hx10.trans k).cell n2) ((hx10.trans k).cell n3)))
                                have rulesM := fun (u : World) (k : Ext w10 u) => And.intro ((hxq10.trans k).cell q0) (And.intro ((hxq10.trans k).cell q1) (And.intro ((hxq10.trans k).cell q2) ((hxq10.trans k).cell q3)))
                                have rulesB := fun (u : World) (k : Ext w10 u) => (hxq10.trans k).cell hb0q
                                have hZ1 := Ext.refl w10
                                clear rulesG hc10
                                go_wp2_with fail
                                go_region_held3 (fun u => Ext w10 u) (first | assumption | exact hZ1.drew)
                                  (first | (go_at_call 22; refine (key3.out _ (by assumption)).mono ?_; rintro e11 w11 ⟨rfl, hS11⟩))
                                clear rulesN rulesM rulesB key3
                                go_wp2_with fail
                                go_roundw
                                case rel => exact ⟨r + 1, by omega, by go_num, (hxr.trans hxq10).trans hS11⟩
                                case measure => simp [intOf]; omega
                  · have hcase : Hid (r < T.length → ¬ r < 10) := Lib.hid fun a b => hbothr ⟨a, b⟩
                    clear hbothr
                    by_cases hlt : r < T.length
                    all_goals
                      first
                        | have h6' : decide ((r : Int) < 10) = false := decide_eq_false (by have := hcase.out hlt; omega)
                        | skip
                      go_wp2_with fail
                      go_roundw
                      case rel => exact ⟨p + 1, by omega, by go_num, ((hxp.trans hxc).trans hxt).trans hxr⟩
                      case measure => simp [intOf]; omega
      · have hcase : Hid (p < ts.length → ¬ p < 6) := Lib.hid fun a b => hboth ⟨a, b⟩
        clear hboth
        by_cases hlt : p < ts.length
        all_goals
          first
            | have h6' : decide ((p : Int) < 6) = false := decide_eq_false (by have := hcase.out hlt; omega)
            | skip
          go_wp2_with fail
          refine (wakes_any _).mono ?_
          rintro e w9 ⟨rfl, hx9⟩
          go_wp2_with fail
          go_ret
          exact ⟨rfl, hxw.trans hx9⟩
end Go.Proofs.Ytjahhkobecjckaa
