/- span.relations, Of, Name; almagestref4.Rel, Rels. -/
import Derived.Test.YtgpjfagkjmnpgaaDoorSqk
import Derived.Test.YtgpjfagkjmnpgaaDoorSqi
namespace Go.Proofs.YtgpjfagkjmnpgaaDoor
open Go.RowKit Go.Maps

theorem NmsAt.ext {w w' : World} (h : NmsAt w) (k : Ext w w') : NmsAt w' := fun i hi => k.cell (h i hi)
theorem nms_short : ∀ s ∈ nmsV, s.size ≤ 16 := by decide
theorem nms_nodup : nmsV.Nodup := by decide
theorem run_makeMapN {P : Program} {t k e : TypeId} (hu : P.underlying t = some (.map k e)) (n : Int) (w : World) : (Instr.makeMap t (some (.int .i64 n))).run P w = .ok (.map (some w.heap.size)) (w.alloc (.map #[] 0)) := by
  simp [Instr.makeMap, run_underlying hu, Result.andThen, asInt]
  rfl

theorem idx_nm {k : Nat} (h : k < nmsV.length) (w : World) : (Instr.index 58 (.agg #[Value.string nmsV[0], Value.string nmsV[1], Value.string nmsV[2], Value.string nmsV[3], Value.string nmsV[4], Value.string nmsV[5], Value.string nmsV[6], Value.string nmsV[7], Value.string nmsV[8], Value.string nmsV[9], Value.string nmsV[10], Value.string nmsV[11], Value.string nmsV[12]]) (.int .i64 (k : Int))).run Tryd.prog w = .ok (.string nmsV[k]) w := by
  obtain rfl | rfl | rfl | rfl | rfl | rfl | rfl | rfl | rfl | rfl | rfl | rfl | rfl : k = 0 ∨ k = 1 ∨ k = 2 ∨ k = 3 ∨ k = 4 ∨ k = 5 ∨ k = 6 ∨ k = 7 ∨ k = 8 ∨ k = 9 ∨ k = 10 ∨ k = 11 ∨ k = 12 := by
    have h13 : k < 13 := h
    omega
  all_goals kernel_rfl
theorem wf_small {n : Int} (h0 : 0 ≤ n) (h1 : n ≤ 1000) : (Lit.int .i64 n).wf = true := by
  have e1 : IntKind.i64.min = -9223372036854775808 := by decide
  have e2 : IntKind.i64.max = 9223372036854775807 := by decide
  simp only [Lit.wf, e1, e2, Bool.and_eq_true, decide_eq_true_eq]
  omega

set_option maxRecDepth 100000 in
set_option maxHeartbeats 2000000 in
theorem relations_any (w : World) (h : NmsAt w) : Calls Tryd.prog 46 #[] w fun e w' => ∃ b, e = .returned (.map (some b)) ∧ PlAt w' b nmsV 13 ∧ w.heap.size ≤ b ∧ Ext w w' := by
  have hmm := run_makeMapN (P := Tryd.prog) Tryd.underlying60 (13 : Int)
  have hx1 := (Ext.refl w).alloc (.map #[] 0)
  have hC := h.ext hx1
  have n0 := hC 0 (by decide)
  have n1 := hC 1 (by decide)
  have n2 := hC 2 (by decide)
  have n3 := hC 3 (by decide)
  have n4 := hC 4 (by decide)
  have n5 := hC 5 (by decide)
  have n6 := hC 6 (by decide)
  have n7 := hC 7 (by decide)
  have n8 := hC 8 (by decide)
  have n9 := hC 9 (by decide)
  have n10 := hC 10 (by decide)
  have n11 := hC 11 (by decide)
  have n12 := hC 12 (by decide)
  clear h hC
  go_enter Tryd.func46, Tryd.ntmps46
  go_wp2_with fail
  clear hmm n0 n1 n2 n3 n4 n5 n6 n7 n8 n9 n10 n11 n12
  go_loopw [6] (fun i wr => ∃ k : Nat, k ≤ 13 ∧ i = .int .i64 k ∧ PlAt wr w.heap.size nmsV k ∧ Ext w wr) (fun i _ => 13 - (intOf i).toNat)
  case atStart => exact ⟨0, by omega, rfl, PlAt.made w nmsV, (Ext.refl w).alloc _⟩
  case round =>
    obtain ⟨k, hk, rfl, hP, hx⟩ := hrel
    by_cases hlt : k < 13
    · have k13 : (k : Int) < 13 := by omega
      have hln : k < nmsV.length := hlt
      have hix := idx_nm hln wr
      have hs := nms_short _ (List.getElem_mem hln)
      obtain ⟨nm, hnm⟩ : ∃ nm, nm = nmsV[k] := ⟨_, rfl⟩
      rw [← hnm] at hix hs
      have HNM := Lib.hid hnm
      have KK := Lib.hid (fun u => keyOf_any nm u hs)
      have hw1 : IntKind.i64.wrap (1 + (k : Int)) = (k : Int) + 1 := by rw [IntKind.wrap_i64] <;> omega
      clear hnm
      go_wp2_with fail
      refine (KK.out _).mono ?_
      rintro e1 w1 ⟨rfl, hx1⟩
      obtain ⟨D, hown, hD⟩ := hP.ext hx1
      have wfk := wf_small (n := (k : Int) + 1) (by omega) (by omega)
      obtain ⟨w2, hrun, hown2, hg2⟩ := hown.update keyedKey Tryd.underlying60 (by unfold maxLen; omega) (key_key hs) (plainElem_int Tryd.underlying3 wfk)
      have hP2 : PlAt w2 w.heap.size nmsV (k + 1) := PlAt.put hln (by have := HNM.out; rw [← this]; exact hs) hown.isMap hD (by have := HNM.out; rw [← this]; exact hown2)
      have hx2 : Ext w w2 := Chg.ext_of (hx.trans hx1) (Chg.of_grown hg2) (fun x e => by subst e; exact Nat.le_refl _)
      clear hown hD hown2 hg2 wfk hP
      go_wp2_with fail
      go_roundw
      case rel => exact ⟨k + 1, by omega, by go_num, hP2, hx2⟩
      case measure => simp [intOf]; omega
    · obtain rfl : k = 13 := by omega
      go_wp2_with fail
      go_ret
      exact ⟨_, rfl, hP, Nat.le_refl _, hx⟩
end Go.Proofs.YtgpjfagkjmnpgaaDoor
