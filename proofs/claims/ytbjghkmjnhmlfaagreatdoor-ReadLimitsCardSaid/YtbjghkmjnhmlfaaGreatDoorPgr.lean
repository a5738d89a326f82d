/- almagestlaw5: awake: the made text is a rule. -/
import Derived.Test.YtbjghkmjnhmlfaaGreatDoorYS
namespace Go.Proofs.YtbjghkmjnhmlfaaGreatDoor
open Go.RowKit

def wkS : ByteArray := ⟨#[97, 32, 60, 45, 32, 98, 32, 59, 32, 99, 44, 32, 119, 105, 116, 104, 105, 110, 32, 53, 46]⟩
def wkB (F : Except (Int × Int) Pr) : Bool := match F with
  | .ok P => match P.rules with
    | [r] => r.within == 5 && r.body.kind == 2
    | _ => false
  | .error _ => false
theorem wk_ok : wkB (readG wkS) = true := by kernel_rfl
theorem wk_read : ∃ P r, readG wkS = .ok P ∧ P.rules = [r] ∧ r.within = 5 ∧ r.body.kind = 2 := by
  have h := wk_ok
  unfold wkB at h
  match hF : readG wkS with
  | .error e => rw [hF] at h; simp at h
  | .ok P =>
    rw [hF] at h
    simp only at h
    match hr : P.rules with
    | [] => rw [hr] at h; simp at h
    | [r] =>
      rw [hr] at h
      simp only [Bool.and_eq_true, beq_iff_eq] at h
      exact ⟨P, r, rfl, hr, h.1, h.2⟩
    | _ :: _ :: _ => rw [hr] at h; simp at h
theorem num5_any (n : Int) (w : World) : Calls Tryz.prog 10 #[.int .i64 n] w fun e w' => e = .returned (.int .i64 n) ∧ w = w' := by
  go_enter Tryz.func10, Tryz.ntmps10
  go_wp2_with fail
  go_ret
  exact ⟨rfl, rfl⟩
set_option maxRecDepth 100000 in
set_option maxHeartbeats 2000000 in
theorem wakes5_any (w : World) (hC : ClsAt w) (hX : TxtAt w) (hB : BitAt w) : Calls Tryz.prog 12 #[] w fun e w' => e = .returned (.bool true) ∧ Ext w w' := by
  obtain ⟨P, r, hF, hr, hw5, hk2⟩ := wk_read
  have KP := Lib.hid (Program_rd wkS w hC hX (by unfold wkS; decide) hB)
  have HF := Lib.hid hF
  unfold wkS at KP
  clear hF hC hX hB
  go_enter Tryz.func12, Tryz.ntmps12
  go_wp2_with fail
  refine KP.out.mono ?_
  rintro e w1 ⟨hx1, ho⟩
  rw [show readG ⟨#[97, 32, 60, 45, 32, 98, 32, 59, 32, 99, 44, 32, 119, 105, 116, 104, 105, 110, 32, 53, 46]⟩ = .ok P from HF.out] at ho
  obtain ⟨A0, c0, cs, A1, c1, rs, hcs, hrs, rfl, hra, hrb⟩ := ho
  rw [hr] at hrs
  obtain ⟨y, rfl, hy⟩ : ∃ y, rs = [y] ∧ y.rl = r := by
    match rs, hrs with
    | [y], hrs => exact ⟨y, rfl, by simpa using hrs⟩
  rcases hrb.1 with ⟨h0, _⟩ | ⟨_, q, cap, eA, hcap, hq, hcell⟩
  · cases h0
  · simp only [Value.slice.injEq] at eA
    obtain ⟨rfl, _, rfl⟩ := eA
    obtain ⟨w2, hw2⟩ : ∃ w2, w2 = w1.alloc (.cells #[.slice A0 cs.length c0, .slice (some ⟨q, 0, none⟩) 1 c1] 31) := ⟨_, rfl⟩
    have hx2 : Ext w1 w2 := by rw [hw2]; exact (Ext.refl _).alloc _
    have hb2 : BoxN w2 w1.heap.size [.slice A0 cs.length c0, .slice (some ⟨q, 0, none⟩) 1 c1] := by rw [hw2]; exact BoxN.new w1 _ _ (by simp)
    have e14 : w2.cell? ⟨q, 14, none⟩ = some (.int .i64 5) := by
      have := hx2.cell (hcell 14 (.int .i64 y.within) rfl)
      rw [show y.within = 5 by rw [← hw5, ← hy]; rfl] at this
      exact this
    have e4 : w2.cell? ⟨q, 4, none⟩ = some (.int .i64 2) := by
      have := hx2.cell (hcell 4 (.int .i64 y.body.kind) rfl)
      rw [show y.body.kind = 2 by rw [← hk2, ← hy]; rfl] at this
      exact this
    have b0 := hb2.cell 0 rfl
    have b1 := hb2.cell 1 rfl
    have HW2 := Lib.hid hw2
    have HX := Lib.hid (hx1.trans hx2)
    have KN := Lib.hid (num5_any 0 w2)
    clear hw2 hx2 hb2 hx1 hcell hra hrb KP
    go_upto_region 2 with (fail)
    rw [show w1.alloc (.cells #[.slice A0 cs.length c0, .slice (some ⟨q, 0, none⟩) 1 c1] 31) = w2 from HW2.out.symm]
    go_wp2_with fail
    refine KN.out.mono ?_
    rintro e w3 ⟨rfl, rfl⟩
    go_wp2_with fail
    go_ret
    exact ⟨rfl, HX.out⟩
end Go.Proofs.YtbjghkmjnhmlfaaGreatDoor
