/- Facts kept that are owned, as rows in blocks of their own; Num. -/
import Derived.Test.YtkdhpifjljkpfaaGreatFyd
import Derived.Test.YtkdhpifjljkpfaaGreatFya
namespace Go.Proofs.YtkdhpifjljkpfaaGreat
open Go.RowKit

theorem KOwned.done {ks : List Kp} {w w' : World} {v : Value} {zs : List KLain} {G : Nat → Nat → Prop} (h : KOwned ks w w' v zs G) :
    ∃ A c B d, v = .slice A ks.length c ∧ ks.length ≤ c ∧ KOwn w' ks A (fun x => w.heap.size ≤ x ∧ x < w'.heap.size) B d G := by
  have hl := h.len
  have hu : ∀ i (hi : i < ks.length), zs[i].1 = ks[i] := fun i hi => by
    have := congrArg (fun l : List Kp => l[i]?) h.map
    simp only [List.getElem?_map, List.getElem?_eq_getElem (show i < zs.length by omega), List.getElem?_eq_getElem hi, Option.map_some, Option.some.injEq] at this
    exact this
  rcases h.own.2 with ⟨hv, h0⟩ | ⟨g, cap, cur, hv, hb, hcur, hcap, _⟩
  · have hk : ks = [] := List.eq_nil_of_length_eq_zero h0
    subst hk
    exact ⟨none, 0, fun _ => none, fun _ => 0, hv, Nat.le_refl _, ⟨fun i hi => absurd hi (Nat.not_lt_zero _), fun i hi => absurd hi (Nat.not_lt_zero _), (fun b o e => by injection e), fun i hi => absurd hi (Nat.not_lt_zero _), fun i j hi => absurd hi (Nat.not_lt_zero _)⟩⟩
  · subst hv
    have hlt := h.own.lt g rfl
    refine ⟨_, cap, fun i => (zs[i]?.map (·.2.1)).getD none, fun i => (zs[i]?.map (·.2.2)).getD 0, rfl, hcap, ⟨fun i hi => ?_, fun i hi => ?_, fun b o e hp => ?_, fun i hi k hk => ?_, fun i j hi hj => h.inv.apart i j (by simp; omega) (by simp; omega)⟩⟩
    · have hiz : i < zs.length := by omega
      have cell : ∀ j, j < 7 → w'.cell? ⟨g, 0 + i * 7 + j, none⟩ = zs[i].cells[j]? := fun j hj => by
        rw [show 0 + i * 7 + j = i * 7 + j by omega, h.own.cellAt (i * 7 + j) (by omega), Krow_at zs i j hiz hj]
      have eu := hu i hi
      have hs := h.side zs[i] (List.getElem_mem hiz)
      rw [eu] at hs
      refine ⟨g, 0, rfl, ?_, ?_, ?_, ?_, ?_, ?_, ?_, ?_⟩
      · have := cell 0 (by omega); simpa [KLain.cells, eu] using this
      · have := cell 1 (by omega); simpa [KLain.cells, eu] using this
      · have := cell 2 (by omega); simpa [KLain.cells, eu] using this
      · have := cell 3 (by omega); simpa [KLain.cells, eu] using this
      · have := cell 4 (by omega); simpa [KLain.cells, eu, hiz] using this
      · have := cell 5 (by omega); simpa [KLain.cells, eu] using this
      · have := cell 6 (by omega); simpa [KLain.cells, eu] using this
      · exact hs
    · have hiz : i < zs.length := by omega
      have := h.inv.sub i (by simp; omega)
      simp only [List.getElem_map, KLain.tl, hu i hi] at this
      simpa [hiz] using this
    · injection e with e
      injection e with e1 e2
      subst e1 e2
      exact ⟨hlt, fun i hi hb => (h.inv.inF i (by simp; omega) g hb).2.2 rfl, fun j hj => by rw [Nat.zero_add]; exact h.own.frozenAt j⟩
    · have := h.inv.inF i (by simp; omega) k hk
      exact ⟨this.1, this.2.1⟩

def numB (n m : Int) : Bool := decide (0 ≤ n) && decide (n ≤ m)
theorem rNum_any (n m : Int) (w : World) : Calls Tryz.prog 18 #[.int .i64 n, .int .i64 m] w fun e w' => e = .returned (.bool (numB n m)) ∧ w' = w := by
  by_cases h : 0 ≤ n
  · have h1 : decide (0 ≤ n) = true := decide_eq_true h
    have HB : Hid (numB n m = decide (n ≤ m)) := Lib.hid (by unfold numB; rw [h1]; rfl)
    go_enter Tryz.func18, Tryz.ntmps18
    go_wp2_with fail
    go_ret
    exact ⟨ret_bool HB.out.symm, rfl⟩
  · have h1 : decide (0 ≤ n) = false := decide_eq_false h
    have HB : Hid (numB n m = false) := Lib.hid (by unfold numB; rw [h1]; rfl)
    go_enter Tryz.func18, Tryz.ntmps18
    go_wp2_with fail
    go_ret
    exact ⟨ret_bool HB.out.symm, rfl⟩
end Go.Proofs.YtkdhpifjljkpfaaGreat
