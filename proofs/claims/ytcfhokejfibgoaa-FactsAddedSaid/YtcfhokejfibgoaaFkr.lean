/- FactsOrder: its walk. -/
import Derived.Test.YtcfhokejfibgoaaFP
namespace Go.Proofs.Ytcfhokejfibgoaa
open Go.RowKit

theorem cmpF_zero {x y : Fc} (hx : May x) (hy : May y) : (cmpF x y == 0) = eqF x y := by
  rw [Bool.eq_iff_iff, beq_iff_eq, eqF_iff]
  unfold cmpF
  have h1 := cmpT_zero hx.may hy.may
  constructor
  · intro h
    by_cases c : cmpT x.tm y.tm = 0
    · rw [if_neg (by simp [c])] at h
      by_cases d : sgn x.fr y.fr = 0
      · rw [if_neg (by simp [d])] at h
        obtain ⟨t, f, u⟩ := x
        obtain ⟨t', f', u'⟩ := y
        have e1 := h1.1 c
        have e2 := sgn_zero.1 d
        have e3 := sgn_zero.1 h
        simp only at e1 e2 e3
        rw [e1, e2, e3]
      · rw [if_pos (by simpa using d)] at h
        exact absurd h d
    · rw [if_pos (by simpa using c)] at h
      exact absurd h c
  · rintro rfl
    rw [if_neg (by simp [h1.2 rfl]), if_neg (by simp [sgn_zero.2 rfl])]
    exact sgn_zero.2 rfl

/-- what came in -/
structure In9 (ks : List Kp) (A : Option Addr) (c : Nat) (fs : List Fc) (B : Option Addr) (d : Nat) (ns : Nat) (w : World) : Prop where
  kps : KpsAt w ks A
  klen : ks.length * 80 ≤ 140737488351232
  kcap : ks.length ≤ c
  fcs : FcsAt w fs B
  flen : fs.length * 72 ≤ 140737488351232
  nlen : ns * 8 ≤ 140737488351232

set_option maxRecDepth 100000 in
set_option maxHeartbeats 8000000 in
theorem order_walk (ks : List Kp) (A : Option Addr) (c : Nat) (fs : List Fc) (B : Option Addr) (d : Nat) (ns : Nat) (C : Option Addr) (e' : Nat) (w : World) (h : In9 ks A c fs B d ns w) :
    Calls Try.prog 3 #[.agg (askV A ks.length c B fs.length d C ns e')] w fun e w' => e = .returned (.bool true) ∧ Ext w w' := by
  obtain ⟨W0, hW0⟩ : ∃ W0, W0 = w.alloc (.cells (askV A ks.length c B fs.length d C ns e') 26) := ⟨_, rfl⟩
  have hx0 : Ext w W0 := by rw [hW0]; exact (Ext.refl w).alloc _
  have q0 : W0.cell? ⟨w.heap.size, 0, none⟩ = some (.slice A ks.length c) := by rw [hW0]; go_simp
  have q1 : W0.cell? ⟨w.heap.size, 1, none⟩ = some (.slice B fs.length d) := by rw [hW0]; go_simp
  have q2 : W0.cell? ⟨w.heap.size, 2, none⟩ = some (.slice C ns e') := by rw [hW0]; go_simp
  have KH := Lib.hid (heavyF_any ks fs ns A B C c d e' W0 h.klen h.flen h.nlen (h.kps.ext hx0) (h.fcs.ext hx0))
  have KW := Lib.hid (fun u => wakesF_any u)
  have KNM := Lib.hid (fun u => Name_any ⟨#[97]⟩ u (by decide))
  have hnm : wordB ⟨#[97]⟩ 97 122 = true := by decide
  have HF := Lib.hid h.fcs
  have HW := Lib.hid hW0
  clear hW0 h
  cases hh : heavyF ks fs ns with
  | true =>
    rw [hh] at KH
    go_enter Try.func3, Try.ntmps3
    go_upto_region 1 with (fail)
    rw [← HW.out]
    clear HW
    go_wp2_with fail
    refine KH.out.mono ?_
    rintro e w1 ⟨rfl, hx1⟩
    go_wp2_with fail
    go_ret
    exact ⟨rfl, hx0.trans hx1⟩
  | false =>
    rw [hh] at KH
    obtain ⟨_, hf2, _, hhi, _⟩ := light_facts hh
    go_enter Try.func3, Try.ntmps3
    go_upto_region 1 with (fail)
    rw [← HW.out]
    obtain ⟨g, hg⟩ : ∃ g, g = w.heap.size := ⟨_, rfl⟩
    rw [← hg] at q0 q1 q2
    rw [← hg]
    clear HW hg
    go_wp2_with fail
    refine KH.out.mono ?_
    rintro e w1 ⟨rfl, hx1⟩
    replace q1 := hx1.cell q1
    have HX := Lib.hid (hx0.trans hx1)
    have hF1 := HF.out.ext HX.out
    have HHI := Lib.hid hhi
    have KN := Lib.hid (fun n u => fnum_any n u)
    clear hx0 hx1 KH HF hh hhi q0 q2
    go_wp2_with fail
    go_loopw [3] (fun i wr => ∃ k : Nat, k ≤ fs.length ∧ i = .int .i64 k ∧ Ext w1 wr) (fun i _ => fs.length - (intOf i).toNat)
    case atStart => exact ⟨0, Nat.zero_le _, rfl, Ext.refl _⟩
    case round =>
      obtain ⟨i, hi, rfl, hx⟩ := hrel
      have p1 := hx.cell q1
      by_cases hlt : i < fs.length
      · have hii : (i : Int) < (fs.length : Int) := by omega
        have hi0 : (0 : Int) ≤ (i : Int) := by omega
        by_cases hi8 : (i : Int) < 8
        · have hi8' : decide ((i : Int) < 8) = true := decide_eq_true hi8
          obtain ⟨wo, hwo⟩ : ∃ wo, wo = wr := ⟨_, rfl⟩
          rw [← hwo] at hx p1
          rw [← hwo]
          have HI9 := Lib.hid hlt
          clear hwo
          go_wp2_with fail
          go_loopw [4] (fun i wr => ∃ k : Nat, k ≤ fs.length ∧ i = .int .i64 k ∧ Ext w1 wr) (fun i _ => fs.length - (intOf i).toNat)
          case atStart => exact ⟨0, Nat.zero_le _, rfl, hx⟩
          case round =>
            obtain ⟨k, hk, rfl, hxk⟩ := hrel
            have p1 := hxk.cell q1
            by_cases hlk : k < fs.length
            · have hkk : (k : Int) < (fs.length : Int) := by omega
              have hk0 : (0 : Int) ≤ (k : Int) := by omega
              by_cases hk8 : (k : Int) < 8
              · obtain ⟨b, o, T, tc, hB, a0, a1, a2, a3, a4, a5, hTx⟩ := (hF1.ext hxk) i hlt
                obtain ⟨b', o', S, sc, hB', b0, b1, b2, b3, b4, b5, hTy⟩ := (hF1.ext hxk) k hlk
                subst hB
                injection hB' with hB'
                injection hB' with e1 e2
                subst e1 e2
                have hhx := HHI.out _ (List.getElem_mem hlt)
                have hhy := HHI.out _ (List.getElem_mem hlk)
                have HK9 := Lib.hid hlk
                have HXK := Lib.hid hxk
                generalize fs[i] = x at *
                generalize fs[k] = y at *
                have HX2 := Lib.hid hTx
                have HY2 := Lib.hid hTy
                have KO := Lib.hid (fun u (k : Ext wr u) => FOrder_any x y T S tc sc u (HX2.out.ext k) (HY2.out.ext k))
                have KFX := Lib.hid (fun u (k : Ext wr u) => rFact_any x T tc u (HX2.out.ext k) (by omega))
                have KFY := Lib.hid (fun u (k : Ext wr u) => rFact_any y S sc u (HY2.out.ext k) (by omega))
                have KE := Lib.hid (fun u (k : Ext wr u) => eqFact_any x y T S tc sc u (HX2.out.ext k) (HY2.out.ext k))
                have HOE : Hid (ordFE x y = badE (fmB x && fmB y) ∧ ordFV x y = if (fmB x && fmB y) = true then cmpF x y else 0) := Lib.hid ⟨rfl, rfl⟩
                have hik : (i : Int) < 8 := hi8
                clear hTx hTy hxk hx
                go_upto_region 9 with (fail)
                have c1 : ∀ p : ExtOf wr, p.to.cell? _ = _ := ext_cell p1
                have d0 : ∀ p : ExtOf wr, p.to.cell? _ = _ := ext_cell a0
                have d1 : ∀ p : ExtOf wr, p.to.cell? _ = _ := ext_cell a1
                have d2 : ∀ p : ExtOf wr, p.to.cell? _ = _ := ext_cell a2
                have d3 : ∀ p : ExtOf wr, p.to.cell? _ = _ := ext_cell a3
                have d4 : ∀ p : ExtOf wr, p.to.cell? _ = _ := ext_cell a4
                have d5 : ∀ p : ExtOf wr, p.to.cell? _ = _ := ext_cell a5
                have g0 : ∀ p : ExtOf wr, p.to.cell? _ = _ := ext_cell b0
                have g1 : ∀ p : ExtOf wr, p.to.cell? _ = _ := ext_cell b1
                have g2 : ∀ p : ExtOf wr, p.to.cell? _ = _ := ext_cell b2
                have g3 : ∀ p : ExtOf wr, p.to.cell? _ = _ := ext_cell b3
                have g4 : ∀ p : ExtOf wr, p.to.cell? _ = _ := ext_cell b4
                have g5 : ∀ p : ExtOf wr, p.to.cell? _ = _ := ext_cell b5
                refine wp_region_ext (by kernel_rfl) (by kernel_rfl) ?_
                repeat (go_big_quiet_step ((go_at_call 6; with_reducible exact of_ext (KO.out _ (ExtOf.is _)))))
                refine wpQuiet_nil ?_
                refine ext_all ?_
                intro w3 hx3
                clear c1 d0 d1 d2 d3 d4 d5 g0 g1 g2 g3 g4 g5 KO
                replace p1 := hx3.cell p1
                replace a0 := hx3.cell a0
                replace a1 := hx3.cell a1
                replace a2 := hx3.cell a2
                replace a3 := hx3.cell a3
                replace a4 := hx3.cell a4
                replace a5 := hx3.cell a5
                replace b0 := hx3.cell b0
                replace b1 := hx3.cell b1
                replace b2 := hx3.cell b2
                replace b3 := hx3.cell b3
                replace b4 := hx3.cell b4
                replace b5 := hx3.cell b5
                have HX3 := Lib.hid hx3
                clear hx3
                go_wp2_with fail
                refine (KFX.out _ HX3.out).mono ?_
                rintro e w4 ⟨rfl, hx4⟩
                replace p1 := hx4.cell p1
                replace a0 := hx4.cell a0
                replace a1 := hx4.cell a1
                replace a2 := hx4.cell a2
                replace a3 := hx4.cell a3
                replace a4 := hx4.cell a4
                replace a5 := hx4.cell a5
                replace b0 := hx4.cell b0
                replace b1 := hx4.cell b1
                replace b2 := hx4.cell b2
                replace b3 := hx4.cell b3
                replace b4 := hx4.cell b4
                replace b5 := hx4.cell b5
                have HX4 := Lib.hid (HX3.out.trans hx4)
                clear hx4 KFX
                have KN2 : Hid (∀ n u, Calls Try.prog 9 #[.int .i64 n] u fun e w' => e = .returned (.int .i64 n) ∧ Ext u w') := Lib.hid fun n u => (fnum_any n u).mono fun _ _ ⟨he, hw⟩ => ⟨he, hw ▸ Ext.refl _⟩
                have hk2500 : k < 2500 := by omega
                cases hmx : fmB x with
                | false =>
                  have e1 : ordFE x y = 1 := by rw [HOE.out.1, hmx]; rfl
                  have e2 : ordFV x y = 0 := by rw [HOE.out.2, hmx]; rfl
                  simp only [e1, e2]
                  clear e1 e2 hmx
                  go_wp2_with fail
                  go_upto_region 13 with (fail)
                  refine wp_region_ext (by kernel_rfl) (by kernel_rfl) ?_
                  repeat (go_big_quiet_step ((go_at_call 9; with_reducible exact of_ext (KN2.out _ _))))
                  refine wpQuiet_nil ?_
                  refine ext_all ?_
                  intro w6 hx6
                  have HX6 := Lib.hid (HX4.out.trans hx6)
                  clear hx6 p1 a0 a1 a2 a3 a4 a5 b0 b1 b2 b3 b4 b5
                  go_wp2_with fail
                  go_roundw
                  case rel => exact ⟨k + 1, HK9.out, by go_num, HXK.out.trans HX6.out⟩
                  case measure => have := HK9.out; simp [intOf]; omega
                | true =>
                  have HMX := Lib.hid (fm_may hmx)
                  go_wp2_with fail
                  refine (KFY.out _ HX4.out).mono ?_
                  rintro e w5 ⟨rfl, hx5⟩
                  replace p1 := hx5.cell p1
                  replace a0 := hx5.cell a0
                  replace a1 := hx5.cell a1
                  replace a2 := hx5.cell a2
                  replace a3 := hx5.cell a3
                  replace a4 := hx5.cell a4
                  replace a5 := hx5.cell a5
                  replace b0 := hx5.cell b0
                  replace b1 := hx5.cell b1
                  replace b2 := hx5.cell b2
                  replace b3 := hx5.cell b3
                  replace b4 := hx5.cell b4
                  replace b5 := hx5.cell b5
                  have HX5 := Lib.hid (HX4.out.trans hx5)
                  clear hx5 KFY
                  cases hmy : fmB y with
                  | false =>
                    have e1 : ordFE x y = 1 := by rw [HOE.out.1, hmx, hmy]; rfl
                    have e2 : ordFV x y = 0 := by rw [HOE.out.2, hmx, hmy]; rfl
                    simp only [e1, e2]
                    clear e1 e2 hmx hmy
                    go_wp2_with fail
                    go_upto_region 13 with (fail)
                    refine wp_region_ext (by kernel_rfl) (by kernel_rfl) ?_
                    repeat (go_big_quiet_step ((go_at_call 9; with_reducible exact of_ext (KN2.out _ _))))
                    refine wpQuiet_nil ?_
                    refine ext_all ?_
                    intro w6 hx6
                    have HX6 := Lib.hid (HX5.out.trans hx6)
                    clear hx6 p1 a0 a1 a2 a3 a4 a5 b0 b1 b2 b3 b4 b5
                    go_wp2_with fail
                    go_roundw
                    case rel => exact ⟨k + 1, HK9.out, by go_num, HXK.out.trans HX6.out⟩
                    case measure => have := HK9.out; simp [intOf]; omega
                  | true =>
                    have HMY := Lib.hid (fm_may hmy)
                    have e1 : ordFE x y = 0 := by rw [HOE.out.1, hmx, hmy]; rfl
                    have e2 : ordFV x y = cmpF x y := by rw [HOE.out.2, hmx, hmy]; rfl
                    have KR := Lib.hid (fun u (k : Ext w5 u) => rFOrder_any x y T S tc sc u (HX2.out.ext (HX5.out.trans k)) (HY2.out.ext (HX5.out.trans k)) HMX.out.may HMY.out.may)
                    have KE2 := Lib.hid (fun u (k : Ext w5 u) => KE.out u (HX5.out.trans k))
                    have HZ := Lib.hid (cmpF_zero HMX.out HMY.out)
                    simp only [e1, e2]
                    clear e1 e2 hmx hmy HOE
                    generalize cmpF x y = V at *
                    generalize eqF x y = EQ at *
                    go_upto_region 12 with (fail)
                    have c1 : ∀ p : ExtOf w5, p.to.cell? _ = _ := ext_cell p1
                    have d0 : ∀ p : ExtOf w5, p.to.cell? _ = _ := ext_cell a0
                    have d1 : ∀ p : ExtOf w5, p.to.cell? _ = _ := ext_cell a1
                    have d2 : ∀ p : ExtOf w5, p.to.cell? _ = _ := ext_cell a2
                    have d3 : ∀ p : ExtOf w5, p.to.cell? _ = _ := ext_cell a3
                    have d4 : ∀ p : ExtOf w5, p.to.cell? _ = _ := ext_cell a4
                    have d5 : ∀ p : ExtOf w5, p.to.cell? _ = _ := ext_cell a5
                    have g0 : ∀ p : ExtOf w5, p.to.cell? _ = _ := ext_cell b0
                    have g1 : ∀ p : ExtOf w5, p.to.cell? _ = _ := ext_cell b1
                    have g2 : ∀ p : ExtOf w5, p.to.cell? _ = _ := ext_cell b2
                    have g3 : ∀ p : ExtOf w5, p.to.cell? _ = _ := ext_cell b3
                    have g4 : ∀ p : ExtOf w5, p.to.cell? _ = _ := ext_cell b4
                    have g5 : ∀ p : ExtOf w5, p.to.cell? _ = _ := ext_cell b5
                    refine wp_region_ext (by kernel_rfl) (by kernel_rfl) ?_
                    repeat (go_big_quiet_step ((go_at_call 8; with_reducible exact of_ext (KR.out _ (ExtOf.is _)))))
                    refine wpQuiet_nil ?_
                    refine ext_all ?_
                    intro w6 hx6
                    clear c1 d0 d1 d2 d3 d4 d5 g0 g1 g2 g3 g4 g5
                    replace p1 := hx6.cell p1
                    replace a0 := hx6.cell a0
                    replace a1 := hx6.cell a1
                    replace a2 := hx6.cell a2
                    replace a3 := hx6.cell a3
                    replace a4 := hx6.cell a4
                    replace a5 := hx6.cell a5
                    replace b0 := hx6.cell b0
                    replace b1 := hx6.cell b1
                    replace b2 := hx6.cell b2
                    replace b3 := hx6.cell b3
                    replace b4 := hx6.cell b4
                    replace b5 := hx6.cell b5
                    have HX6 := Lib.hid (HX5.out.trans hx6)
                    have KE3 := Lib.hid (fun u (k : Ext w6 u) => KE2.out u (hx6.trans k))
                    clear hx6 KR KE2 KE
                    go_upto_region 13 with (fail)
                    have c1 : ∀ p : ExtOf w6, p.to.cell? _ = _ := ext_cell p1
                    have d0 : ∀ p : ExtOf w6, p.to.cell? _ = _ := ext_cell a0
                    have d1 : ∀ p : ExtOf w6, p.to.cell? _ = _ := ext_cell a1
                    have d2 : ∀ p : ExtOf w6, p.to.cell? _ = _ := ext_cell a2
                    have d3 : ∀ p : ExtOf w6, p.to.cell? _ = _ := ext_cell a3
                    have d4 : ∀ p : ExtOf w6, p.to.cell? _ = _ := ext_cell a4
                    have d5 : ∀ p : ExtOf w6, p.to.cell? _ = _ := ext_cell a5
                    have g0 : ∀ p : ExtOf w6, p.to.cell? _ = _ := ext_cell b0
                    have g1 : ∀ p : ExtOf w6, p.to.cell? _ = _ := ext_cell b1
                    have g2 : ∀ p : ExtOf w6, p.to.cell? _ = _ := ext_cell b2
                    have g3 : ∀ p : ExtOf w6, p.to.cell? _ = _ := ext_cell b3
                    have g4 : ∀ p : ExtOf w6, p.to.cell? _ = _ := ext_cell b4
                    have g5 : ∀ p : ExtOf w6, p.to.cell? _ = _ := ext_cell b5
                    have hz := HZ.out
                    cases EQ
                    all_goals
                      refine wp_region_ext (by kernel_rfl) (by kernel_rfl) ?_
                      repeat (go_big_quiet_step (first
                        | (go_at_call 9; with_reducible exact of_ext (KN2.out _ _))
                        | (go_at_call 10; with_reducible exact of_ext (KE3.out _ (ExtOf.is _)))))
                      refine wpQuiet_nil ?_
                      refine ext_all ?_
                      intro w7 hx7
                      have HX7 := Lib.hid (HX6.out.trans hx7)
                      clear hx7 c1 d0 d1 d2 d3 d4 d5 g0 g1 g2 g3 g4 g5 p1 a0 a1 a2 a3 a4 a5 b0 b1 b2 b3 b4 b5
                      go_wp2_with fail
                      go_roundw
                      case rel => exact ⟨k + 1, HK9.out, by go_num, HXK.out.trans HX7.out⟩
                      case measure => have := HK9.out; simp [intOf]; omega
              · have hk8' : decide ((k : Int) < 8) = false := decide_eq_false hk8
                have HXK := Lib.hid hxk
                go_wp2_with fail
                go_roundw
                case rel => exact ⟨i + 1, HI9.out, by have := HI9.out; go_num, HXK.out⟩
                case measure => have := HI9.out; simp [intOf]; omega
            · have hkk : ¬ ((k : Int) < (fs.length : Int)) := by omega
              have hkk' : decide ((k : Int) < (fs.length : Int)) = false := decide_eq_false hkk
              have HXK := Lib.hid hxk
              go_wp2_with fail
              go_roundw
              case rel => exact ⟨i + 1, HI9.out, by have := HI9.out; go_num, HXK.out⟩
              case measure => have := HI9.out; simp [intOf]; omega
        · have hi8' : decide ((i : Int) < 8) = false := decide_eq_false hi8
          have HXI := Lib.hid (HX.out.trans hx)
          go_wp2_with fail
          refine (KNM.out _).mono ?_
          rintro e w3 ⟨rfl, hw3⟩
          rw [← hw3, hnm]
          clear hw3
          go_wp2_with fail
          refine (KW.out _).mono ?_
          rintro e w4 ⟨rfl, hx4⟩
          have HX4 := Lib.hid (HXI.out.trans hx4)
          clear hx4
          go_wp2_with fail
          go_ret
          exact ⟨rfl, HX4.out⟩
      · have hii : ¬ ((i : Int) < (fs.length : Int)) := by omega
        have hii' : decide ((i : Int) < (fs.length : Int)) = false := decide_eq_false hii
        have HXI := Lib.hid (HX.out.trans hx)
        go_wp2_with fail
        refine (KNM.out _).mono ?_
        rintro e w3 ⟨rfl, hw3⟩
        rw [← hw3, hnm]
        clear hw3
        go_wp2_with fail
        refine (KW.out _).mono ?_
        rintro e w4 ⟨rfl, hx4⟩
        have HX4 := Lib.hid (HXI.out.trans hx4)
        clear hx4
        go_wp2_with fail
        go_ret
        exact ⟨rfl, HX4.out⟩
end Go.Proofs.Ytcfhokejfibgoaa
