/- UnifyAlike: the walk. -/
import Derived.Test.YtjmfjeeddnmoaaaPC
import Derived.Deep.DeepCutAuto
import Derived.Deep.CutBlock
namespace Go.Proofs.Ytjmfjeeddnmoaaa
open Go.RowKit

set_option maxRecDepth 100000 in
set_option maxHeartbeats 16000000 in
theorem alike_walk (Bs : List (List Bd)) (ts : List Tm) (ss : List ByteArray) (A T S : Option Addr) (ca ct cs : Nat) (w : World) (hbl : Bs.length * 24 ≤ 140737488351232) (hB : BssAt w Bs A) (hl : ts.length * 56 ≤ 140737488351232) (h : TmsAt w ts T) (hm : ss.length * 16 ≤ 140737488351232) (hs : StrsAt w ss S) :
    Calls Try.prog 9 #[.agg #[.slice A Bs.length ca, .slice T ts.length ct, .slice S ss.length cs]] w fun e w' => e = .returned (.bool true) ∧ Ext w w' := by
  have hx0 : Ext w (w.alloc (.cells #[.slice A Bs.length ca, .slice T ts.length ct, .slice S ss.length cs] 56)) := (Ext.refl w).alloc _
  go_enter Try.func9, Try.ntmps9
  go_wp2_with fail
  refine (heavy2_any Bs ts ss A T S ca ct cs _ hbl (hB.ext hx0) hl (h.ext hx0) hm (hs.ext hx0)).mono ?_
  rintro e1 w1 ⟨hv, rfl, HV, hx1⟩
  have hx01 := hx0.trans hx1
  have p1 : w1.cell? ⟨w.heap.size, 1, none⟩ = some (.slice T ts.length ct) := hx1.cell (by go_simp)
  clear hs hx1 hx0
  cases hv with
  | true =>
    go_wp2_with fail
    go_ret
    exact ⟨rfl, hx01⟩
  | false =>
    obtain ⟨_, _, _, htw, _⟩ := HV rfl
    have htn : ts.length ≤ 3000 := by have := weightL_ge 30 (weightT_pos 30) ts ts.length; omega
    have hT1 := h.ext hx01
    clear HV htw hB h hbl hl hm
    go_wp2_with fail
    go_loopw [3] (fun i wr => ∃ k : Nat, k ≤ ts.length ∧ i = .int .i64 k ∧ Ext w1 wr) (fun i _ => ts.length - (intOf i).toNat)
    case atStart => exact ⟨0, Nat.zero_le _, rfl, Ext.refl _⟩
    case round =>
      obtain ⟨i, hi, rfl, hxa⟩ := hrel
      obtain ⟨wa, rfl⟩ : ∃ wa : World, wa = wr := ⟨_, rfl⟩
      have pa1 := hxa.cell p1
      by_cases hboth : i < ts.length ∧ i < 5
      · obtain ⟨hlt, h5⟩ := hboth
        have h5' : decide ((i : Int) < 5) = true := decide_eq_true (by omega)
        have i0 : (0 : Int) ≤ (i : Int) := Int.natCast_nonneg _
        have i1 : (i : Int) < (ts.length : Int) := by omega
        go_wp2_with fail
        go_loopw [4] (fun j wr => ∃ k : Nat, k ≤ ts.length ∧ j = .int .i64 k ∧ Ext wa wr) (fun j _ => ts.length - (intOf j).toNat)
        case atStart => exact ⟨0, Nat.zero_le _, rfl, Ext.refl _⟩
        case round =>
          obtain ⟨j, hj, rfl, hxb⟩ := hrel
          obtain ⟨wb, rfl⟩ : ∃ wb : World, wb = wr := ⟨_, rfl⟩
          have pb1 := hxb.cell pa1
          by_cases hb2 : j < ts.length ∧ j < 5
          · obtain ⟨hjl, hj5⟩ := hb2
            have hj5' : decide ((j : Int) < 5) = true := decide_eq_true (by omega)
            have j0 : (0 : Int) ≤ (j : Int) := Int.natCast_nonneg _
            have j1 : (j : Int) < (ts.length : Int) := by omega
            obtain ⟨b1, o1, TA, tc, rfl, c0, c1, c2, c3, hTa⟩ := (hT1.ext (hxa.trans hxb)).at_ hlt
            obtain ⟨b2, o2, TB, td, eT, d0, d1, d2, d3, hTb⟩ := (hT1.ext (hxa.trans hxb)).at_ hjl
            injection eT with eT
            injection eT with e1 e2
            subst e1 e2
            generalize hta : ts[i] = a at *
            generalize htb : ts[j] = b at *
            have HTa := Lib.hid hTa
            have HTb := Lib.hid hTb
            clear hta htb hTa hTb
            have KU0 := fun (u : World) (hu : Ext wb u) => (uny_call a b TA TB tc td u (HTa.out.ext hu) (HTb.out.ext hu)).mono fun e' w' h' => (⟨h', hu⟩ : BndOut (unyP 102 [] a b) u e' w' ∧ Ext wb u)
            have KV0 := fun (u : World) (hu : Ext wb u) => (uny_call b a TB TA td tc u (HTb.out.ext hu) (HTa.out.ext hu)).mono fun e' w' h' => (⟨h', hu⟩ : BndOut (unyP 102 [] b a) u e' w' ∧ Ext wb u)
            rw [uny_comm a b] at KV0
            obtain ⟨r, hr⟩ : ∃ r, r = unyP 102 [] a b := ⟨_, rfl⟩
            rw [← hr] at KU0 KV0
            have HR0 := Lib.hid hr.symm
            clear hr
            obtain ⟨E, L⟩ := r
            have HR : Hid (unyP 102 [] a b = (E, L)) := HR0
            have KU := Lib.hid KU0
            have KV := Lib.hid KV0
            clear KU0 KV0 HR0
            have rulesI := fun (u : World) (z : Ext wb u) => And.intro (z.cell pb1) (And.intro (z.cell c0) (And.intro (z.cell c1) (And.intro (z.cell c2) (And.intro (z.cell c3) (And.intro (z.cell d0) (And.intro (z.cell d1) (And.intro (z.cell d2) (z.cell d3))))))))
            have hI0 := Ext.refl wb
            go_upto_region 9 with (fail)
            go_region_held3 (fun u => Ext wb u) (first | assumption | exact hI0.drew | exact hS5)
              ((go_at_call 57; refine (KU.out _ (by assumption)).mono ?_; rintro e5 w5 ⟨⟨X, xc, rfl, hxc, HX5, hx5⟩, hu5⟩; have hS5 := hu5.trans hx5))
            have HX0 := Lib.hid HX5
            clear KU HX5
            have hI5 := hS5
            have rulesJ := fun (u : World) (z : Ext w5 u) => rulesI u (hI5.trans z)
            have hJ0 := Ext.refl w5
            have KV' := Lib.hid (fun (u : World) (hu : Ext w5 u) => (KV.out u (hI5.trans hu)).mono fun e' w' h' => (⟨h'.1, hu⟩ : BndOut (E, L) u e' w' ∧ Ext w5 u))
            clear rulesI KV hI0
            go_upto_region 10 with (fail)
            go_region_held3 (fun u => Ext w5 u) (first | assumption | exact hJ0.drew | exact hS6)
              ((go_at_call 57; refine (KV'.out _ (by assumption)).mono ?_; rintro e6 w6 ⟨⟨Y, yc, rfl, hyc, _, hx6⟩, hu6⟩; have hS6 := hu6.trans hx6))
            have hxt6 := hI5.trans hS6
            have HX : Hid (BdsAt w6 L X) := Lib.hid (HX0.out.ext hS6)
            clear rulesJ KV' hJ0 HX0
            by_cases hE0 : E = 0
            · subst hE0
              obtain ⟨hLb, hL16, hLe, hLt⟩ := uny_zero HR.out
              have HLB := Lib.hid hLb
              have HL16 := Lib.hid hL16
              have ql : ((L.length : Int) != (L.length : Int)) = false := by simp
              have KA := Lib.hid (Apply_all L a X TA xc tc w6 (by omega) HX.out (HTa.out.ext hxt6))
              have HLE := Lib.hid hLe
              have HLT := Lib.hid hLt
              clear hLb hL16 hLe hLt
              go_upto_region 15 with ((go_at_call 58; refine (num3_any _ _).mono ?_; rintro e w' ⟨rfl, rfl⟩))
              have f0 := hxt6.cell pb1
              have g0 := hxt6.cell c0
              have g1 := hxt6.cell c1
              have g2 := hxt6.cell c2
              have g3 := hxt6.cell c3
              go_wp2_with fail
              refine KA.out.mono ?_
              rintro e7 w7 ⟨A7, c7, rfl, hO7, hx7⟩
              have HO7 := Lib.hid hO7.at_
              clear KA hO7 f0 g0 g1 g2 g3
              go_upto_region 16 with (fail)
              obtain ⟨w8, hw8⟩ : ∃ w8, w8 = w7.alloc (.cells #[.int .i64 (applyT L a).kind, .string (applyT L a).name, .int .i64 (applyT L a).n, .slice A7 (applyT L a).args.length c7] 28) := ⟨_, rfl⟩
              rw [← hw8]
              have hx78 : Ext w7 w8 := by rw [hw8]; exact (Ext.refl _).alloc _
              have m0 : w8.cell? ⟨w7.heap.size, 0, none⟩ = some (.int .i64 (applyT L a).kind) := by rw [hw8]; go_simp
              have m1 : w8.cell? ⟨w7.heap.size, 1, none⟩ = some (.string (applyT L a).name) := by rw [hw8]; go_simp
              have m2 : w8.cell? ⟨w7.heap.size, 2, none⟩ = some (.int .i64 (applyT L a).n) := by rw [hw8]; go_simp
              have m3 : w8.cell? ⟨w7.heap.size, 3, none⟩ = some (.slice A7 (applyT L a).args.length c7) := by rw [hw8]; go_simp
              clear hw8
              have hx68 := hx7.trans hx78
              have hxt8 := hxt6.trans hx68
              have KB0 := Apply_all L b X TB xc td w8 (by have := HL16.out; omega) (HX.out.ext hx68) (HTb.out.ext hxt8)
              have HBO : Hid (ApplyOut L b w8 = ApplyOut L b w8) := Lib.hid rfl
              have KB := Lib.hid KB0
              clear KB0 HBO
              have f0 := hxt8.cell pb1
              have g0 := hxt8.cell d0
              have g1 := hxt8.cell d1
              have g2 := hxt8.cell d2
              have g3 := hxt8.cell d3
              go_wp2_with fail
              refine KB.out.mono ?_
              rintro e9 w9 ⟨B9, c9, rfl, hO9, hx9⟩
              have HO9 := Lib.hid hO9.at_
              rw [← HLE.out]
              clear KB hO9 f0 g0 g1 g2 g3
              go_upto_region 17 with (fail)
              obtain ⟨w10, hw10⟩ : ∃ w10, w10 = w9.alloc (.cells #[.int .i64 (applyT L b).kind, .string (applyT L b).name, .int .i64 (applyT L b).n, .slice B9 (applyT L b).args.length c9] 28) := ⟨_, rfl⟩
              rw [← hw10]
              have hx910 : Ext w9 w10 := by rw [hw10]; exact (Ext.refl _).alloc _
              have n0 : w10.cell? ⟨w9.heap.size, 0, none⟩ = some (.int .i64 (applyT L b).kind) := by rw [hw10]; go_simp
              have n1 : w10.cell? ⟨w9.heap.size, 1, none⟩ = some (.string (applyT L b).name) := by rw [hw10]; go_simp
              have n2 : w10.cell? ⟨w9.heap.size, 2, none⟩ = some (.int .i64 (applyT L b).n) := by rw [hw10]; go_simp
              have n3 : w10.cell? ⟨w9.heap.size, 3, none⟩ = some (.slice B9 (applyT L b).args.length c9) := by rw [hw10]; go_simp
              clear hw10
              have hx810 := hx9.trans hx910
              have k0 := hx810.cell m0
              have k1 := hx810.cell m1
              have k2 := hx810.cell m2
              have k3 := hx810.cell m3
              have HO7' := Lib.hid (HO7.out.ext (hx78.trans hx810))
              have HO9' := Lib.hid (HO9.out.ext hx910)
              have hx610 := hx68.trans hx810
              have hxt10 := hxt6.trans hx610
              have KC : Hid (∀ u, Ext w10 u → Calls Try.prog 41 #[.slice X L.length xc] u fun e w' => e = .returned (.int .i64 0) ∧ Ext u w') := Lib.hid (fun u hu => bcheck_yes HLB.out X xc u (by have := HL16.out; omega) (HX.out.ext (hx610.trans hu)))
              clear m0 m1 m2 m3 HO7 HO9
              obtain ⟨G, hG⟩ : ∃ G : Int, G = applyE L a := ⟨_, rfl⟩
              rw [← hG] at HLT ⊢
              have qG : (G != G) = false := by simp
              clear hG HLE
              by_cases hG0 : G = 0
              · have qG0 : (G == 0) = true := by simp [hG0]
                have HEQ := Lib.hid (HLT.out hG0)
                rw [← HEQ.out] at n0 n1 n2 n3 HO9'
                have KE := Lib.hid (EqTerm_self (applyT L a) A7 B9 c7 c9 w10 HO7'.out HO9'.out)
                clear hG0 HLT HO7' HO9'
                go_upto_region 21 with (first
                  | (go_at_call 58; refine (num3_any _ _).mono ?_; rintro e w' ⟨rfl, rfl⟩)
                  | (go_at_call 28; refine KE.out.mono ?_; rintro e11 w11 ⟨rfl, hx11⟩)
                  | (go_at_call 41; refine (KC.out _ hx11).mono ?_; rintro e12 w12 ⟨rfl, hx12⟩))
                have hxt := hx610.trans (hx11.trans hx12)
                have hxt12 := hxt6.trans hxt
                clear KE KC n0 n1 n2 n3 k0 k1 k2 k3
                have rulesM := fun (u : World) (z : Ext w12 u) => And.intro (z.cell (hxt12.cell pb1)) (And.intro (z.cell (hxt12.cell c0)) (And.intro (z.cell (hxt12.cell c1)) (And.intro (z.cell (hxt12.cell c2)) (And.intro (z.cell (hxt12.cell c3)) (And.intro (z.cell (hxt12.cell d0)) (And.intro (z.cell (hxt12.cell d1)) (And.intro (z.cell (hxt12.cell d2)) (z.cell (hxt12.cell d3)))))))))
                have hM0 := Ext.refl w12
                have KM := Lib.hid (fun (u : World) (hu : Ext w12 u) => (match_nil a b TA TB tc td u (HTa.out.ext (hxt12.trans hu)) (HTb.out.ext (hxt12.trans hu))).mono fun e' w' h' => (⟨h', hu⟩ : MatOut a b u e' w' ∧ Ext w12 u))
                go_region_held3 (fun u => Ext w12 u) (first | assumption | exact hM0.drew | exact hM1)
                  ((go_at_call 59; refine (KM.out _ (by assumption)).mono ?_; rintro e20 w20 ⟨⟨Q, ms, M, mc, rfl, hmc, HBM, hx20, HQ⟩, hu20⟩; have hM1 := hu20.trans hx20))
                have HQ' := Lib.hid HQ
                have HBM' := Lib.hid HBM
                have hx21 := hxt12.trans hM1
                clear rulesM KM hM0 HQ HBM
                by_cases hQ : Q = 0
                · have qQ : (Q == 0) = true := by simp [hQ]
                  have hms : ms = L := by have := HQ'.out hQ; rw [HR.out] at this; injection this with _ this; exact this.symm
                  subst hms
                  have KE := Lib.hid (eqBinds_any ms ms M X mc xc w20 (by have := HL16.out; omega) (by have := HL16.out; omega) HBM'.out (HX.out.ext (hxt.trans hM1)))
                  rw [eqBs_refl] at KE
                  clear hQ HQ'
                  go_wp2_with (first
                    | (go_at_call 58; refine (num3_any _ _).mono ?_; rintro e w' ⟨rfl, rfl⟩)
                    | (go_at_call 47; refine KE.out.mono ?_; rintro e22 w22 ⟨rfl, hx22⟩))
                  go_roundw
                  case rel => exact ⟨j + 1, by omega, by go_num, hxb.trans (hx21.trans hx22)⟩
                  case measure => simp [intOf]; omega
                · have qQ : (Q == 0) = false := by simp [hQ]
                  clear hQ HQ'
                  go_wp2_with (first
                    | (go_at_call 58; refine (num3_any _ _).mono ?_; rintro e w' ⟨rfl, rfl⟩))
                  go_roundw
                  case rel => exact ⟨j + 1, by omega, by go_num, hxb.trans hx21⟩
                  case measure => simp [intOf]; omega
              · have qG0 : (G == 0) = false := by simp [hG0]
                clear hG0 HLT HO7' HO9'
                go_upto_region 21 with (first
                  | (go_at_call 58; refine (num3_any _ _).mono ?_; rintro e w' ⟨rfl, rfl⟩)
                  | (go_at_call 41; refine (KC.out _ (Ext.refl _)).mono ?_; rintro e12 w12 ⟨rfl, hx12⟩))
                have hxt := hx610.trans hx12
                have hxt12 := hxt6.trans hxt
                clear KC n0 n1 n2 n3 k0 k1 k2 k3
                have rulesM := fun (u : World) (z : Ext w12 u) => And.intro (z.cell (hxt12.cell pb1)) (And.intro (z.cell (hxt12.cell c0)) (And.intro (z.cell (hxt12.cell c1)) (And.intro (z.cell (hxt12.cell c2)) (And.intro (z.cell (hxt12.cell c3)) (And.intro (z.cell (hxt12.cell d0)) (And.intro (z.cell (hxt12.cell d1)) (And.intro (z.cell (hxt12.cell d2)) (z.cell (hxt12.cell d3)))))))))
                have hM0 := Ext.refl w12
                have KM := Lib.hid (fun (u : World) (hu : Ext w12 u) => (match_nil a b TA TB tc td u (HTa.out.ext (hxt12.trans hu)) (HTb.out.ext (hxt12.trans hu))).mono fun e' w' h' => (⟨h', hu⟩ : MatOut a b u e' w' ∧ Ext w12 u))
                go_region_held3 (fun u => Ext w12 u) (first | assumption | exact hM0.drew | exact hM1)
                  ((go_at_call 59; refine (KM.out _ (by assumption)).mono ?_; rintro e20 w20 ⟨⟨Q, ms, M, mc, rfl, hmc, HBM, hx20, HQ⟩, hu20⟩; have hM1 := hu20.trans hx20))
                have HQ' := Lib.hid HQ
                have HBM' := Lib.hid HBM
                have hx21 := hxt12.trans hM1
                clear rulesM KM hM0 HQ HBM
                by_cases hQ : Q = 0
                · have qQ : (Q == 0) = true := by simp [hQ]
                  have hms : ms = L := by have := HQ'.out hQ; rw [HR.out] at this; injection this with _ this; exact this.symm
                  subst hms
                  have KE := Lib.hid (eqBinds_any ms ms M X mc xc w20 (by have := HL16.out; omega) (by have := HL16.out; omega) HBM'.out (HX.out.ext (hxt.trans hM1)))
                  rw [eqBs_refl] at KE
                  clear hQ HQ'
                  go_wp2_with (first
                    | (go_at_call 58; refine (num3_any _ _).mono ?_; rintro e w' ⟨rfl, rfl⟩)
                    | (go_at_call 47; refine KE.out.mono ?_; rintro e22 w22 ⟨rfl, hx22⟩))
                  go_roundw
                  case rel => exact ⟨j + 1, by omega, by go_num, hxb.trans (hx21.trans hx22)⟩
                  case measure => simp [intOf]; omega
                · have qQ : (Q == 0) = false := by simp [hQ]
                  clear hQ HQ'
                  go_wp2_with (first
                    | (go_at_call 58; refine (num3_any _ _).mono ?_; rintro e w' ⟨rfl, rfl⟩))
                  go_roundw
                  case rel => exact ⟨j + 1, by omega, by go_num, hxb.trans hx21⟩
                  case measure => simp [intOf]; omega
            · have qE0 : (E == 0) = false := by simp [hE0]
              by_cases hE1 : E = 1
              · have qE1 : (E == 1) = true := by simp [hE1]
                clear hE1
                go_wp2_with (go_at_call 58; refine (num3_any _ _).mono ?_; rintro e w' ⟨rfl, rfl⟩)
                go_roundw
                case rel => exact ⟨j + 1, by omega, by go_num, hxb.trans hxt6⟩
                case measure => simp [intOf]; omega
              · have qE1 : (E == 1) = false := by simp [hE1]
                clear hE1
                go_upto_region 21 with ((go_at_call 58; refine (num3_any _ _).mono ?_; rintro e w' ⟨rfl, rfl⟩))
                have rulesM := fun (u : World) (z : Ext w6 u) => And.intro (z.cell (hxt6.cell pb1)) (And.intro (z.cell (hxt6.cell c0)) (And.intro (z.cell (hxt6.cell c1)) (And.intro (z.cell (hxt6.cell c2)) (And.intro (z.cell (hxt6.cell c3)) (And.intro (z.cell (hxt6.cell d0)) (And.intro (z.cell (hxt6.cell d1)) (And.intro (z.cell (hxt6.cell d2)) (z.cell (hxt6.cell d3)))))))))
                have hM0 := Ext.refl w6
                have KM := Lib.hid (fun (u : World) (hu : Ext w6 u) => (match_nil a b TA TB tc td u (HTa.out.ext (hxt6.trans hu)) (HTb.out.ext (hxt6.trans hu))).mono fun e' w' h' => (⟨h', hu⟩ : MatOut a b u e' w' ∧ Ext w6 u))
                go_region_held3 (fun u => Ext w6 u) (first | assumption | exact hM0.drew | exact hM1)
                  ((go_at_call 59; refine (KM.out _ (by assumption)).mono ?_; rintro e20 w20 ⟨⟨Q, ms, M, mc, rfl, hmc, HBM, hx20, HQ⟩, hu20⟩; have hM1 := hu20.trans hx20))
                have HQ' := Lib.hid HQ
                have HBM' := Lib.hid HBM
                have hx21 := hxt6.trans hM1
                clear rulesM KM hM0 HQ HBM
                by_cases hQ : Q = 0
                · exact absurd (by have := HQ'.out hQ; rw [HR.out] at this; injection this) hE0
                · have qQ : (Q == 0) = false := by simp [hQ]
                  clear hQ HQ'
                  go_wp2_with (first
                    | (go_at_call 58; refine (num3_any _ _).mono ?_; rintro e w' ⟨rfl, rfl⟩))
                  go_roundw
                  case rel => exact ⟨j + 1, by omega, by go_num, hxb.trans hx21⟩
                  case measure => simp [intOf]; omega
          · by_cases hjl : j < ts.length
            · have hj5' : decide ((j : Int) < 5) = false := decide_eq_false (by omega)
              go_wp2_with fail
              go_roundw
              case rel => exact ⟨i + 1, by omega, by go_num, hxa.trans hxb⟩
              case measure => simp [intOf]; omega
            · go_wp2_with fail
              go_roundw
              case rel => exact ⟨i + 1, by omega, by go_num, hxa.trans hxb⟩
              case measure => simp [intOf]; omega
      · by_cases hlt : i < ts.length
        · have h5' : decide ((i : Int) < 5) = false := decide_eq_false (by omega)
          go_wp2_with fail
          refine (heavy2_nil _).mono ?_
          rintro e8 w8 ⟨rfl, hx8⟩
          go_wp2_with fail
          refine (wakes3_any _).mono ?_
          rintro e9 w9 ⟨rfl, hx9⟩
          go_wp2_with fail
          go_ret
          exact ⟨rfl, ((hx01.trans hxa).trans hx8).trans hx9⟩
        · go_wp2_with fail
          refine (heavy2_nil _).mono ?_
          rintro e8 w8 ⟨rfl, hx8⟩
          go_wp2_with fail
          refine (wakes3_any _).mono ?_
          rintro e9 w9 ⟨rfl, hx9⟩
          go_wp2_with fail
          go_ret
          exact ⟨rfl, ((hx01.trans hxa).trans hx8).trans hx9⟩
end Go.Proofs.Ytjmfjeeddnmoaaa
