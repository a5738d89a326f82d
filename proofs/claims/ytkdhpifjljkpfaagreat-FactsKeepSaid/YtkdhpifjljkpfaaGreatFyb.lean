/- The page's Facts: which lists of facts kept may be. -/
import Derived.Test.YtkdhpifjljkpfaaGreatFkt
import Derived.Test.YtkdhpifjljkpfaaGreatFkw
namespace Go.Proofs.YtkdhpifjljkpfaaGreat
open Go.RowKit

theorem okS_last {ks : List Kp} : ∀ k, okS ks k = true → k ≤ ks.length → -1 ≤ lastI ks k
  | 0, _, _ => by simp [lastI]
  | k + 1, h, hk => by
    rw [lastI_at (by omega)]
    have h1 := okS_at h k (by omega) (by omega)
    have h0 : okS ks k = true := by
      rw [okS_step (by omega), Bool.and_eq_true] at h
      exact h.1
    have := okS_last k h0 (by omega)
    omega
theorem dist_gap (ks : List Kp) (k : Nat) : ∀ n, k ≤ n → n ≤ ks.length → dist ks n ≤ dist ks k + (n - k) := by
  intro n hn hl
  induction n with
  | zero => obtain rfl : k = 0 := by omega
            omega
  | succ n ih =>
    by_cases e : k = n + 1
    · rw [e]; omega
    · have := ih (by omega) (by omega)
      rw [dist_step (by omega)]
      split <;> omega
theorem kps_no_ok {ks : List Kp} {k : Nat} (h : okS ks (k + 1) = false) (hk : k < ks.length) : kpsB ks = false := by
  unfold kpsB
  rw [okS_down h hk, Bool.false_and, Bool.and_false]
theorem kps_no_dup {ks : List Kp} {k j : Nat} (hk : k < ks.length) (hj : j < k) (h : ks[j].fc = ks[k].fc) : kpsB ks = false := by
  have hf : (fpl ks k ks[k].fc).isSome = true := by
    cases e : fpl ks k ks[k].fc with
    | some i => rfl
    | none => exact absurd h (fpl_none e j (by omega) hj)
  have h1 : dist ks (k + 1) ≤ k := by
    rw [dist_step hk, if_pos hf]
    exact dist_le ks k
  have h2 := dist_gap ks (k + 1) ks.length hk (Nat.le_refl _)
  unfold kpsB
  rw [decide_eq_false (show ¬ ks.length ≤ dist ks ks.length by omega), Bool.and_false, Bool.and_false]
theorem dist_more {ks : List Kp} {k : Nat} (hk : k < ks.length) (hd : dist ks k = k) (h : ∀ i (_ : i < ks.length), i < k → ks[i].fc ≠ ks[k].fc) : dist ks (k + 1) = k + 1 := by
  have hf : fpl ks k ks[k].fc = none := by
    cases e : fpl ks k ks[k].fc with
    | none => rfl
    | some i =>
      obtain ⟨hi, hin, hh⟩ := fpl_some e
      exact absurd hh (h i hi hin)
  rw [dist_step hk, hf, if_neg (by simp), hd]

set_option maxRecDepth 100000 in
set_option maxHeartbeats 8000000 in
theorem rFacts_any (ks : List Kp) (A : Option Addr) (c : Nat) (w : World) (hl : ks.length ≤ 1000000) (hh : ∀ x ∈ ks, x.fc.tm.high ≤ 1000000) (h : KpsAt w ks A) :
    Calls Tryz.prog 6 #[.slice A ks.length c] w fun e w' => e = .returned (.bool (kpsB ks)) ∧ Ext w w' := by
  have HO : Hid (∀ b w', kpsB ks = b → Ext w w' → (Ending.returned (.bool b) = .returned (.bool (kpsB ks)) ∧ Ext w w')) := Lib.hid fun b w' e hx => ⟨by rw [e], hx⟩
  have HH := Lib.hid h
  have HHI := Lib.hid hh
  have HL := Lib.hid hl
  clear h hh hl
  go_enter Tryz.func6, Tryz.ntmps6
  go_wp2_with fail
  go_loopw [3] (fun i wr => ∃ k : Nat, k ≤ ks.length ∧ k ≤ 301 ∧ i = .int .i64 k ∧ okS ks k = true ∧ dist ks k = k ∧ Ext w wr) (fun i _ => ks.length - (intOf i).toNat)
  case atStart => exact ⟨0, Nat.zero_le _, by omega, rfl, rfl, rfl, Ext.refl _⟩
  case round =>
    obtain ⟨k, hk, hk3, rfl, hok, hdi, hx⟩ := hrel
    by_cases hlt : k < ks.length ∧ k ≤ 300
    · obtain ⟨hlt, h300⟩ := hlt
      have hki : (k : Int) < (ks.length : Int) := by omega
      have hk30 : (k : Int) ≤ 300 := by omega
      have hk0 : (0 : Int) ≤ (k : Int) := by omega
      have hKr := HH.out.ext hx
      obtain ⟨b, o, B, e, rfl, c0, c1, c2, c3, c4, c5, c6, hsub, hwf⟩ := hKr k hlt
      have HST := Lib.hid (okS_step hlt)
      have HK9 := Lib.hid (And.intro hlt h300)
      have HX := Lib.hid hx
      have HOK := Lib.hid hok
      have HDI := Lib.hid hdi
      have HKR := Lib.hid hKr
      have HLA := Lib.hid (okS_last k hok hk)
      have HSUB := Lib.hid hsub
      have KM := Lib.hid (fun u (k' : Ext wr u) => rFact_any ks[k].fc B e u (hsub.ext k') (HHI.out _ (List.getElem_mem hlt)))
      obtain ⟨q, hq⟩ : ∃ q : Kp, q = ks[k] := ⟨_, rfl⟩
      rw [← hq] at c0 c1 c2 c3 c4 c5 c6 HST KM HSUB
      have HQ : Hid (∀ h : k < ks.length, q = ks[k]'h) := Lib.hid fun _ => hq
      clear hok hdi hx hsub hwf hlt h300 hq hKr
      go_wp2_with fail
      go_cut [47] (fun v wx => v = .bool (!(decide (lastI ks k < q.seq) && fmB q.fc)) ∧ Ext wr wx)
      case first =>
        have d0 : ∀ p : ExtOf wr, p.to.cell? _ = _ := ext_cell c0
        have d1 : ∀ p : ExtOf wr, p.to.cell? _ = _ := ext_cell c1
        have d2 : ∀ p : ExtOf wr, p.to.cell? _ = _ := ext_cell c2
        have d3 : ∀ p : ExtOf wr, p.to.cell? _ = _ := ext_cell c3
        have d4 : ∀ p : ExtOf wr, p.to.cell? _ = _ := ext_cell c4
        have d5 : ∀ p : ExtOf wr, p.to.cell? _ = _ := ext_cell c5
        have d6 : ∀ p : ExtOf wr, p.to.cell? _ = _ := ext_cell c6
        clear c0 c1 c2 c3 c4 c5 c6
        cases hfm : fmB q.fc with
        | false =>
          rw [hfm] at KM
          have HV : Hid ((!(decide (lastI ks k < q.seq) && fmB q.fc)) = true) := Lib.hid (by rw [hfm, Bool.and_false]; rfl)
          clear hfm
          refine wp_region_ext (by kernel_rfl) (by kernel_rfl) ?_
          repeat (go_big_quiet_step ((go_at_call 13; with_reducible exact of_ext (KM.out _ (ExtOf.is _)))))
          refine wpQuiet_nil ?_
          refine ext_all ?_
          intro w3 hx3
          clear d0 d1 d2 d3 d4 d5 d6 KM
          go_wp2_with fail
          go_meet
          exact ⟨by rw [HV.out], hx3⟩
        | true =>
          rw [hfm] at KM
          have HFM := Lib.hid hfm
          clear hfm
          by_cases hneg : q.seq < 0
          · have hneg' : decide (q.seq < 0) = true := decide_eq_true hneg
            have HV : Hid ((!(decide (lastI ks k < q.seq) && fmB q.fc)) = true) := Lib.hid (by rw [HFM.out, decide_eq_false (show ¬ lastI ks k < q.seq by have := HLA.out; omega)]; rfl)
            refine wp_region_ext (by kernel_rfl) (by kernel_rfl) ?_
            repeat (go_big_quiet_step ((go_at_call 13; with_reducible exact of_ext (KM.out _ (ExtOf.is _)))))
            refine wpQuiet_nil ?_
            refine ext_all ?_
            intro w3 hx3
            clear d0 d1 d2 d3 d4 d5 d6 KM
            go_wp2_with fail
            go_meet
            exact ⟨by rw [HV.out], hx3⟩
          · have hneg' : decide (q.seq < 0) = false := decide_eq_false hneg
            by_cases hz : k = 0
            · have HV : Hid ((!(decide (lastI ks k < q.seq) && fmB q.fc)) = false) := Lib.hid (by rw [HFM.out, hz, lastI, decide_eq_true (by omega)]; rfl)
              subst hz
              have hpos : 0 < ks.length := by omega
              have hpi : (0 : Int) < (ks.length : Int) := by omega
              simp only [Nat.zero_mul, Nat.add_zero] at d0 d1 d2 d3 d4 d5 d6
              refine wp_region_ext (by kernel_rfl) (by kernel_rfl) ?_
              repeat (go_big_quiet_step ((go_at_call 13; with_reducible exact of_ext (KM.out _ (ExtOf.is _)))))
              refine wpQuiet_nil ?_
              refine ext_all ?_
              intro w3 hx3
              clear d0 d1 d2 d3 d4 d5 d6 KM
              go_wp2_with fail
              go_meet
              exact ⟨by rw [HV.out], hx3⟩
            · have hz' : decide ((0 : Int) < (k : Int)) = true := decide_eq_true (by omega)
              obtain ⟨m, rfl⟩ : ∃ m, k = m + 1 := ⟨k - 1, by omega⟩
              obtain ⟨b', o', B', e', hB', p0, p1, p2, p3, p4, p5, p6, _, _⟩ := HKR.out m (by omega)
              injection hB' with hB'
              injection hB' with e1 e2
              subst e1 e2
              have hlm := lastI_at (ks := ks) (k := m) (by omega)
              have hjw : RowKit.wrap64 (((m + 1 : Nat) : Int) - 1) = (m : Int) := by unfold RowKit.wrap64; omega
              have hm0 : (0 : Int) ≤ (m : Int) := by omega
              have hm1 : (m : Int) < (ks.length : Int) := by omega
              have g0 : ∀ p : ExtOf wr, p.to.cell? _ = _ := ext_cell p0
              obtain ⟨LI, hLI⟩ : ∃ LI, LI = lastI ks (m + 1) := ⟨_, rfl⟩
              rw [← hlm, ← hLI] at g0
              have HLI := Lib.hid hLI
              clear hLI hlm hz p0 p1 p2 p3 p4 p5 p6
              by_cases hge : q.seq ≤ LI
              · have hge' : decide (q.seq ≤ LI) = true := decide_eq_true hge
                have HV : Hid ((!(decide (lastI ks (m + 1) < q.seq) && fmB q.fc)) = true) := Lib.hid (by rw [HFM.out, ← HLI.out, decide_eq_false (by omega)]; rfl)
                refine wp_region_ext (by kernel_rfl) (by kernel_rfl) ?_
                repeat (go_big_quiet_step ((go_at_call 13; with_reducible exact of_ext (KM.out _ (ExtOf.is _)))))
                refine wpQuiet_nil ?_
                refine ext_all ?_
                intro w3 hx3
                clear d0 d1 d2 d3 d4 d5 d6 g0 KM
                go_wp2_with fail
                go_meet
                exact ⟨by rw [HV.out], hx3⟩
              · have hge' : decide (q.seq ≤ LI) = false := decide_eq_false hge
                have HV : Hid ((!(decide (lastI ks (m + 1) < q.seq) && fmB q.fc)) = false) := Lib.hid (by rw [HFM.out, ← HLI.out, decide_eq_true (by omega)]; rfl)
                refine wp_region_ext (by kernel_rfl) (by kernel_rfl) ?_
                repeat (go_big_quiet_step ((go_at_call 13; with_reducible exact of_ext (KM.out _ (ExtOf.is _)))))
                refine wpQuiet_nil ?_
                refine ext_all ?_
                intro w3 hx3
                clear d0 d1 d2 d3 d4 d5 d6 g0 KM
                go_wp2_with fail
                go_meet
                exact ⟨by rw [HV.out], hx3⟩
      case rest =>
        obtain ⟨rfl, hx2⟩ := hcut
        obtain ⟨w2, hw2⟩ : ∃ w2 : World, w2 = wc := ⟨_, rfl⟩
        rw [← hw2] at hx2
        rw [← hw2]
        replace c0 := hx2.cell c0
        replace c1 := hx2.cell c1
        replace c2 := hx2.cell c2
        replace c3 := hx2.cell c3
        replace c4 := hx2.cell c4
        replace c5 := hx2.cell c5
        replace c6 := hx2.cell c6
        have HX2 := Lib.hid (HX.out.trans hx2)
        have HS2 := Lib.hid (HSUB.out.ext hx2)
        have HK2 := Lib.hid (HKR.out.ext hx2)
        clear hw2 hx2 KM HKR HX HSUB
        rename_i hKK
        refine hKK _ _ ?_
        clear hKK
        cases hgo : (decide (lastI ks k < q.seq) && fmB q.fc) with
        | false =>
          have HN : Hid (kpsB ks = false) := Lib.hid (kps_no_ok (by rw [HST.out, hgo, Bool.and_false]) HK9.out.1)
          simp only [Bool.not_false]
          clear hgo c0 c1 c2 c3 c4 c5 c6
          go_wp2_with fail
          go_ret
          exact HO.out _ _ HN.out HX2.out
        | true =>
          have HOK1 : Hid (okS ks (k + 1) = true) := Lib.hid (by rw [HST.out, hgo, HOK.out]; rfl)
          simp only [Bool.not_true]
          clear hgo
          go_wp2_with fail
          go_loopw [4] (fun i wr => ∃ j : Nat, j ≤ k ∧ i = .int .i64 j ∧ Hid (∀ i (_ : i < ks.length), i < j → ks[i].fc ≠ q.fc) ∧ Ext w2 wr) (fun i _ => k - (intOf i).toNat)
          case atStart => exact ⟨0, Nat.zero_le _, rfl, Lib.hid fun i _ hi => absurd hi (by omega), Ext.refl _⟩
          case round =>
            obtain ⟨j, hj, rfl, HJ, hxr⟩ := hrel
            by_cases hjl : j < k
            · have hjn : j < ks.length := by have := HK9.out; omega
              obtain ⟨b', o', B', e', hB', p0, p1, p2, p3, p4, p5, p6, hsub', _⟩ := (HK2.out.ext hxr) j hjn
              injection hB' with hB'
              injection hB' with e1 e2
              subst e1 e2
              have hj0 : (0 : Int) ≤ (j : Int) := by omega
              have hj1 : (j : Int) < (ks.length : Int) := by omega
              have hj2 : (j : Int) < (k : Int) := by omega
              have KE := Lib.hid (fun u (k' : Ext wr u) => eqFact_any ks[j].fc q.fc B' B e' e u (hsub'.ext k') (HS2.out.ext (hxr.trans k')))
              have HJL := Lib.hid hjl
              have hqe : ks[j].fc = q.fc ↔ eqF ks[j].fc q.fc = true := (eqF_iff _ _).symm
              have HQE := Lib.hid hqe
              have HXR := Lib.hid hxr
              have HJF : Hid (∀ x : Fc, x = ks[j].fc → x = q.fc → kpsB ks = false) := Lib.hid fun x e1 e2 => kps_no_dup HK9.out.1 HJL.out (by rw [← e1, e2, HQ.out HK9.out.1])
              have HJN : Hid (eqF ks[j].fc q.fc = false → ∀ i (_ : i < ks.length), i < j + 1 → ks[i].fc ≠ q.fc) := Lib.hid fun hf i hi hij => by
                by_cases e : i = j
                · subst e
                  intro h9
                  rw [HQE.out.1 h9] at hf
                  cases hf
                · exact HJ.out i hi (by omega)
              have r0 := hxr.cell c0
              have r1 := hxr.cell c1
              have r2 := hxr.cell c2
              have r3 := hxr.cell c3
              have r4 := hxr.cell c4
              have r5 := hxr.cell c5
              have r6 := hxr.cell c6
              have d1 : ∀ p : ExtOf wr, p.to.cell? _ = _ := ext_cell r1
              have d2 : ∀ p : ExtOf wr, p.to.cell? _ = _ := ext_cell r2
              have d3 : ∀ p : ExtOf wr, p.to.cell? _ = _ := ext_cell r3
              have d4 : ∀ p : ExtOf wr, p.to.cell? _ = _ := ext_cell r4
              have d5 : ∀ p : ExtOf wr, p.to.cell? _ = _ := ext_cell r5
              have d6 : ∀ p : ExtOf wr, p.to.cell? _ = _ := ext_cell r6
              have g1 : ∀ p : ExtOf wr, p.to.cell? _ = _ := ext_cell p1
              have g2 : ∀ p : ExtOf wr, p.to.cell? _ = _ := ext_cell p2
              have g3 : ∀ p : ExtOf wr, p.to.cell? _ = _ := ext_cell p3
              have g4 : ∀ p : ExtOf wr, p.to.cell? _ = _ := ext_cell p4
              have g5 : ∀ p : ExtOf wr, p.to.cell? _ = _ := ext_cell p5
              have g6 : ∀ p : ExtOf wr, p.to.cell? _ = _ := ext_cell p6
              obtain ⟨y, hy⟩ : ∃ y : Fc, y = ks[j].fc := ⟨_, rfl⟩
              rw [← hy] at g1 g2 g3 g4 g5 g6 KE HJN HQE
              have HY := Lib.hid hy
              clear hsub' hqe hxr r0 r1 r2 r3 r4 r5 r6 p0 p1 p2 p3 p4 p5 p6 hy
              cases hee : eqF y q.fc with
              | true =>
                have HN : Hid (kpsB ks = false) := Lib.hid (HJF.out y HY.out (HQE.out.2 hee))
                rw [hee] at KE
                clear hee
                go_wp2_with fail
                refine wp_region_ext (by kernel_rfl) (by kernel_rfl) ?_
                repeat (go_big_quiet_step ((go_at_call 29; with_reducible exact of_ext (KE.out _ (ExtOf.is _)))))
                refine wpQuiet_nil ?_
                refine ext_all ?_
                intro w3 hx3
                have HX3 := Lib.hid (HX2.out.trans (HXR.out.trans hx3))
                clear hx3 d1 d2 d3 d4 d5 d6 g1 g2 g3 g4 g5 g6 KE c0 c1 c2 c3 c4 c5 c6
                go_wp2_with fail
                go_ret
                exact HO.out _ _ HN.out HX3.out
              | false =>
                have HJ2 := Lib.hid (HJN.out hee)
                rw [hee] at KE
                clear hee
                go_wp2_with fail
                refine wp_region_ext (by kernel_rfl) (by kernel_rfl) ?_
                repeat (go_big_quiet_step ((go_at_call 29; with_reducible exact of_ext (KE.out _ (ExtOf.is _)))))
                refine wpQuiet_nil ?_
                refine ext_all ?_
                intro w3 hx3
                have HX3 := Lib.hid (HXR.out.trans hx3)
                clear hx3 d1 d2 d3 d4 d5 d6 g1 g2 g3 g4 g5 g6 KE c0 c1 c2 c3 c4 c5 c6
                go_wp2_with fail
                go_roundw
                case rel => exact ⟨j + 1, HJL.out, by have := HJL.out; go_num, HJ2, HX3.out⟩
                case measure => have := HJL.out; simp [intOf]; omega
            · have hj2 : ¬ (j : Int) < (k : Int) := by omega
              have hjk : j = k := by omega
              have HD : Hid (dist ks (k + 1) = k + 1) := Lib.hid (dist_more HK9.out.1 HDI.out (fun i hi hik => by rw [← HQ.out HK9.out.1]; exact HJ.out i hi (by omega)))
              have HX3 := Lib.hid (HX2.out.trans hxr)
              clear hxr c0 c1 c2 c3 c4 c5 c6 hjk
              go_wp2_with fail
              go_roundw
              case rel => exact ⟨k + 1, HK9.out.1, by have := HK9.out; omega, by have := HK9.out; go_num, HOK1.out, HD.out, HX3.out⟩
              case measure => have := HK9.out; simp [intOf]; omega
    · have HX := Lib.hid hx
      have hor : (¬ (k : Int) < (ks.length : Int)) ∨ ((k : Int) < (ks.length : Int) ∧ ¬ (k : Int) ≤ 300) := by omega
      have HE : Hid (decide ((ks.length : Int) ≤ 300) = kpsB ks) := Lib.hid (by
        by_cases h3 : ks.length ≤ 300
        · obtain rfl : k = ks.length := by omega
          unfold kpsB
          rw [hok, hdi, decide_eq_true h3, decide_eq_true (Nat.le_refl _), decide_eq_true (by omega)]
          rfl
        · unfold kpsB
          rw [decide_eq_false h3, decide_eq_false (by omega), Bool.false_and])
      clear hok hdi hx hlt
      rcases hor with hA | ⟨hA, hB⟩
      all_goals
        go_wp2_with fail
        go_ret
        exact ⟨ret_bool HE.out, HX.out⟩
end Go.Proofs.YtkdhpifjljkpfaaGreat
