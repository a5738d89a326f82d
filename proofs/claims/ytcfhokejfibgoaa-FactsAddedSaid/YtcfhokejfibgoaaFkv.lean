/- FactsAdded: its walk. -/
import Derived.Test.YtcfhokejfibgoaaFku
namespace Go.Proofs.Ytcfhokejfibgoaa
open Go.RowKit

set_option maxRecDepth 100000 in
set_option maxHeartbeats 8000000 in
theorem added_walk (ks : List Kp) (A : Option Addr) (c : Nat) (fs : List Fc) (B : Option Addr) (d : Nat) (ns : Nat) (C : Option Addr) (e' : Nat) (w : World) (h : In9 ks A c fs B d ns w) :
    Calls Try.prog 4 #[.agg (askV A ks.length c B fs.length d C ns e')] w fun e w' => e = .returned (.bool true) ∧ Ext w w' := by
  obtain ⟨W0, hW0⟩ : ∃ W0, W0 = w.alloc (.cells (askV A ks.length c B fs.length d C ns e') 26) := ⟨_, rfl⟩
  have hx0 : Ext w W0 := by rw [hW0]; exact (Ext.refl w).alloc _
  have q0 : W0.cell? ⟨w.heap.size, 0, none⟩ = some (.slice A ks.length c) := by rw [hW0]; go_simp
  have q1 : W0.cell? ⟨w.heap.size, 1, none⟩ = some (.slice B fs.length d) := by rw [hW0]; go_simp
  have q2 : W0.cell? ⟨w.heap.size, 2, none⟩ = some (.slice C ns e') := by rw [hW0]; go_simp
  have KH := Lib.hid (heavyF_any ks fs ns A B C c d e' W0 h.klen h.flen h.nlen (h.kps.ext hx0) (h.fcs.ext hx0))
  have KW := Lib.hid (fun u => wakesF_any u)
  have HF := Lib.hid h.fcs
  have HW := Lib.hid hW0
  clear hW0 h
  cases hh : heavyF ks fs ns with
  | true =>
    rw [hh] at KH
    go_enter Try.func4, Try.ntmps4
    go_upto_region 1 with (fail)
    rw [← HW.out]
    clear HW
    go_wp2_with fail
    refine KH.out.mono ?_
    rintro e w1 ⟨rfl, hx1⟩
    go_wp2_with fail
    go_ret
    exact ⟨rfl, hx0.trans hx1⟩
  | false =>
    rw [hh] at KH
    obtain ⟨_, hf2, _, _, _⟩ := light_facts hh
    go_enter Try.func4, Try.ntmps4
    go_upto_region 1 with (fail)
    rw [← HW.out]
    obtain ⟨g, hg⟩ : ∃ g, g = w.heap.size := ⟨_, rfl⟩
    rw [← hg] at q0 q1 q2
    rw [← hg]
    clear HW hg
    go_wp2_with fail
    refine KH.out.mono ?_
    rintro e w1 ⟨rfl, hx1⟩
    replace q1 := hx1.cell q1
    have HX := Lib.hid (hx0.trans hx1)
    have hF1 := HF.out.ext HX.out
    have KN := Lib.hid (fun n u => fnum_any n u)
    clear hx0 hx1 KH HF hh q0 q2
    go_wp2_with fail
    go_loopw [3, 4, 5] (fun l n i wr => ∃ (ls : List Kp) (L : Option Addr) (lc k m : Nat), l = .slice L m lc ∧ m = ls.length ∧ n = .int .i64 ((3 * m : Nat) : Int) ∧ i = .int .i64 k ∧ k ≤ fs.length ∧ k ≤ 20 ∧ m ≤ k ∧ m ≤ lc ∧ Lst ls ∧ KpsAt wr ls L ∧ Ext w1 wr) (fun _ _ i _ => fs.length - (intOf i).toNat)
    case atStart => exact ⟨[], none, 0, 0, 0, rfl, rfl, rfl, rfl, Nat.zero_le _, by omega, by omega, by omega, Lst.nil, KpsAt.nil _ _, Ext.refl _⟩
    case round =>
      obtain ⟨ls, L, lc, k, m, rfl, hm, rfl, rfl, hk, hk20, hmk, hmc, hL, hK, hx⟩ := hrel
      have p1 := hx.cell q1
      by_cases hlt : k < fs.length ∧ k < 20
      · obtain ⟨hlt, h20⟩ := hlt
        have hkk : (k : Int) < (fs.length : Int) := by omega
        have hk20' : (k : Int) < 20 := by omega
        have hk0 : (0 : Int) ≤ (k : Int) := by omega
        obtain ⟨b, o, T, tc, rfl, a0, a1, a2, a3, a4, a5, hT⟩ := (hF1.ext hx) k hlt
        have HK9 := Lib.hid (And.intro hlt (And.intro h20 hmk))
        have HL := Lib.hid hL
        have HX1 := Lib.hid hx
        generalize fs[k] = x at *
        have hwf : (Lit.int .i64 ((3 * m : Nat) : Int)).wf = true := wf_i64 (by omega) (by omega)
        have hmm : ls.length = m := hm.symm
        have KA := Lib.hid (by have h9 := Add_any ls ((3 * m : Nat) : Int) x L T lc tc wr (by omega) (by omega) hK hT hwf; rw [hmm] at h9; exact h9)
        have KFI := Lib.hid (fun (ls' : List Kp) L' lc' u (k' : Ext wr u) (h1 : ls'.length ≤ lc') (h2 : ls'.length ≤ 1000000) (h3 : KpsAt u ls' L') => Find_any ls' x L' T lc' tc u h1 h2 h3 (hT.ext k'))
        have HKP := Lib.hid hK
        have HM := Lib.hid hm
        clear hT hK hL hx hlt h20 hwf hmm hm
        go_wp2_with fail
        refine KA.out.mono ?_
        intro e w2 ha
        rcases ha with ⟨hae, v, zs, G, rfl, hKO⟩ | ⟨hae, rfl, hx2⟩
        · obtain ⟨L2, lc2, rfl, hlc2, hK2⟩ := hKO.at_
          have hx2 := hKO.inv.ext
          have hls : ls.length < 20 := by have := HK9.out; have := HM.out; omega
          have e3 : ((3 * m : Nat) : Int) = 3 * (ls.length : Int) := by have := HM.out; omega
          rw [e3] at hae
          obtain ⟨hL2, hmx⟩ := HL.out.add hae hls
          have hfd := Lst.found (ks := ls) (n := 3 * (ls.length : Int)) (x := x)
          rw [← e3] at hL2 hfd
          have hfe : fndE (ls ++ [⟨((3 * m : Nat) : Int), x⟩]) x = 0 ∧ fndV (ls ++ [⟨((3 * m : Nat) : Int), x⟩]) x = ((3 * m : Nat) : Int) := by
            unfold fndE fndV
            rw [hL2.kps, hmx, hfd.1, hfd.2]
            exact ⟨rfl, rfl⟩
          have hll : (ls ++ [(⟨((3 * m : Nat) : Int), x⟩ : Kp)]).length = m + 1 := by have := HM.out; simp; omega
          generalize ls ++ [(⟨((3 * m : Nat) : Int), x⟩ : Kp)] = l2 at *
          have KF2 := Lib.hid (fun u (k' : Ext w2 u) => KFI.out l2 L2 lc2 u (hx2.trans k') hlc2 (by omega) (hK2.ext k'))
          rw [hfe.1, hfe.2, hll] at KF2
          rw [hll]
          replace p1 := hx2.cell p1
          replace a0 := hx2.cell a0
          replace a1 := hx2.cell a1
          replace a2 := hx2.cell a2
          replace a3 := hx2.cell a3
          replace a4 := hx2.cell a4
          replace a5 := hx2.cell a5
          have HX2 := Lib.hid (HX1.out.trans hx2)
          have HREL := Lib.hid (And.intro hL2 (And.intro hK2 (And.intro hll hlc2)))
          have hmb : m < 20 := by have := HK9.out; omega
          clear hKO hx2 hL2 hmx hfd hfe hlc2 hK2 hae hls e3 KA KFI HKP hll
          go_wp2_with fail
          refine (KN.out _ _).mono ?_
          rintro e w3 ⟨rfl, hw3⟩
          rw [hw3]
          clear hw3
          go_wp2_with fail
          refine (KF2.out _ (Ext.refl _)).mono ?_
          rintro e w4 ⟨rfl, hx4⟩
          have HX4 := Lib.hid hx4
          clear hx4 p1 a0 a1 a2 a3 a4 a5 KF2
          go_wp2_with fail
          refine (KN.out _ _).mono ?_
          rintro e w5 ⟨rfl, hw5⟩
          rw [hw5]
          clear hw5
          go_wp2_with fail
          go_roundw
          case rel =>
            obtain ⟨hL2, hK2, hll, hlc2⟩ := HREL.out
            exact ⟨l2, L2, lc2, k + 1, m + 1, rfl, hll.symm, by go_num, by go_num, HK9.out.1, HK9.out.2.1, by omega, by omega, hL2, hK2.ext HX4.out, HX2.out.trans HX4.out⟩
          case measure => have := HK9.out; simp [intOf]; omega
        · have hne : (addE ls ((3 * m : Nat) : Int) x != 0) = true := by simpa using hae
          have HX2 := Lib.hid (HX1.out.trans hx2)
          have HK2 := Lib.hid (HKP.out.ext hx2)
          generalize addE ls ((3 * m : Nat) : Int) x = E at *
          clear hx2 hae p1 a0 a1 a2 a3 a4 a5 KA KFI
          go_wp2_with fail
          refine (KN.out _ _).mono ?_
          rintro e w3 ⟨rfl, hw3⟩
          rw [hw3]
          clear hw3
          go_wp2_with fail
          go_roundw
          case rel => exact ⟨ls, L, lc, k + 1, m, rfl, HM.out, rfl, by go_num, HK9.out.1, HK9.out.2.1, by omega, hmc, HL.out, HK2.out, HX2.out⟩
          case measure => have := HK9.out; simp [intOf]; omega
      · have hmm : ls.length = m := hm.symm
        have hm20 : m ≤ 20 := by omega
        have KS := Lib.hid (by have h9 := Sorted_any ls L lc wr (by omega) hK hL.pair (by omega); rw [hmm] at h9; exact h9)
        have HLK := Lib.hid hL.kps
        have HMAY : Hid (∀ x, x ∈ ls.map (·.fc) → fmB x = true) := Lib.hid fun x hx => by
          obtain ⟨q, hq, rfl⟩ := List.mem_map.1 hx
          obtain ⟨i, hi, rfl⟩ := List.getElem_of_mem hq
          exact hL.may i hi
        have HX1 := Lib.hid hx
        have HMM := Lib.hid hmm
        have hor : (¬ (k : Int) < (fs.length : Int)) ∨ ((k : Int) < (fs.length : Int) ∧ ¬ (k : Int) < 20) := by omega
        clear hK hL hx hlt hmm hm
        rcases hor with hA | ⟨hA, hB⟩
        all_goals
          go_wp2_with fail
          refine KS.out.mono ?_
          intro e w2 hs
          rcases hs with ⟨_, us, A2, c2, rfl, hU, hR, hP, hx2⟩ | ⟨hkb, _, _⟩
          case inr => rw [HLK.out] at hkb; cases hkb
          have hul : us.length = m := by have := hP.length_eq; rw [List.length_map, HMM.out] at this; exact this
          have HU := Lib.hid hU
          have HR := Lib.hid hR
          have HMU : Hid (∀ j (h : j < us.length), fmB us[j] = true) := Lib.hid fun j h => HMAY.out _ (hP.mem_iff.1 (List.getElem_mem h))
          have HX2 := Lib.hid (HX1.out.trans hx2)
          have HUL := Lib.hid hul
          rw [hul]
          clear hU hR hP hx2 hul KS p1
          go_wp2_with fail
          refine (KN.out _ _).mono ?_
          rintro e w3 ⟨rfl, hw3⟩
          rw [hw3]
          clear hw3
          go_wp2_with fail
          go_loopw [12] (fun i wr => ∃ j : Nat, j ≤ m ∧ i = .int .i64 ((j + 1 : Nat) : Int) ∧ Ext w2 wr) (fun i _ => m + 1 - (intOf i).toNat)
          case atStart => exact ⟨0, Nat.zero_le _, rfl, Ext.refl _⟩
          case round =>
            obtain ⟨j, hj, rfl, hxr⟩ := hrel
            by_cases hjl : j + 1 < m
            · obtain ⟨b, o, T, tc, hB1, a0, a1, a2, a3, a4, a5, hTx⟩ := (HU.out.ext hxr) j (by have := HUL.out; omega)
              obtain ⟨b', o', S, sc, hB', b0, b1, b2, b3, b4, b5, hTy⟩ := (HU.out.ext hxr) (j + 1) (by have := HUL.out; omega)
              subst hB1
              injection hB' with hB'
              injection hB' with e1 e2
              subst e1 e2
              have hV := HR.out j (j + 1) (by have := HUL.out; omega) (by omega)
              have hmx := HMU.out j (by have := HUL.out; omega)
              have hmy := HMU.out (j + 1) (by have := HUL.out; omega)
              generalize us[j]'_ = x at *
              generalize us[j + 1]'_ = y at *
              have hjw : RowKit.wrap64 (((j + 1 : Nat) : Int) - 1) = (j : Int) := by unfold RowKit.wrap64; omega
              have hj0 : (0 : Int) ≤ (j : Int) := by omega
              have hj1 : (j : Int) < (m : Int) := by omega
              have hj2 : (0 : Int) ≤ ((j + 1 : Nat) : Int) := by omega
              have hj3 : ((j + 1 : Nat) : Int) < (m : Int) := by omega
              have HJ := Lib.hid hjl
              have HXR := Lib.hid hxr
              have hE : ordFE x y = 0 := by unfold ordFE; rw [hmx, hmy]; rfl
              have hW : ordFV x y = cmpF x y := by unfold ordFV; rw [hmx, hmy]; rfl
              have KO := Lib.hid (fun u (k : Ext wr u) => by have h9 := FOrder_any x y T S tc sc u (hTx.ext k) (hTy.ext k); rw [hE, hW] at h9; exact h9)
              generalize cmpF x y = V at *
              have hV' : decide (0 ≤ V) = false := decide_eq_false (by omega)
              clear hTx hTy hxr hE hW hmx hmy
              go_upto_region 21 with (fail)
              have d0 : ∀ p : ExtOf wr, p.to.cell? _ = _ := ext_cell a0
              have d1 : ∀ p : ExtOf wr, p.to.cell? _ = _ := ext_cell a1
              have d2 : ∀ p : ExtOf wr, p.to.cell? _ = _ := ext_cell a2
              have d3 : ∀ p : ExtOf wr, p.to.cell? _ = _ := ext_cell a3
              have d4 : ∀ p : ExtOf wr, p.to.cell? _ = _ := ext_cell a4
              have d5 : ∀ p : ExtOf wr, p.to.cell? _ = _ := ext_cell a5
              have g0 : ∀ p : ExtOf wr, p.to.cell? _ = _ := ext_cell b0
              have g1 : ∀ p : ExtOf wr, p.to.cell? _ = _ := ext_cell b1
              have g2 : ∀ p : ExtOf wr, p.to.cell? _ = _ := ext_cell b2
              have g3 : ∀ p : ExtOf wr, p.to.cell? _ = _ := ext_cell b3
              have g4 : ∀ p : ExtOf wr, p.to.cell? _ = _ := ext_cell b4
              have g5 : ∀ p : ExtOf wr, p.to.cell? _ = _ := ext_cell b5
              refine wp_region_ext (by kernel_rfl) (by kernel_rfl) ?_
              repeat (go_big_quiet_step ((go_at_call 6; with_reducible exact of_ext (KO.out _ (ExtOf.is _)))))
              refine wpQuiet_nil ?_
              refine ext_all ?_
              intro w4 hx4
              have HX4 := Lib.hid (HXR.out.trans hx4)
              clear d0 d1 d2 d3 d4 d5 g0 g1 g2 g3 g4 g5 KO hx4 a0 a1 a2 a3 a4 a5 b0 b1 b2 b3 b4 b5
              go_wp2_with fail
              refine (KN.out _ _).mono ?_
              rintro e w5 ⟨rfl, hw5⟩
              rw [hw5]
              clear hw5
              go_wp2_with fail
              go_roundw
              case rel => exact ⟨j + 1, by have := HJ.out; omega, by go_num, HX4.out⟩
              case measure => have := HJ.out; simp [intOf]; omega
            · have hj3 : ¬ ((j + 1 : Nat) : Int) < (m : Int) := by omega
              have HXR := Lib.hid (HX.out.trans (HX2.out.trans hxr))
              clear hxr
              go_wp2_with fail
              refine (KW.out _).mono ?_
              rintro e w4 ⟨rfl, hx4⟩
              go_wp2_with fail
              go_ret
              exact ⟨rfl, HXR.out.trans hx4⟩
end Go.Proofs.Ytcfhokejfibgoaa
