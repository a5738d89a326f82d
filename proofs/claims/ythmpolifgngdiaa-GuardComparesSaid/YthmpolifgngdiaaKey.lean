/- Labels as keys of a map: what reads as one, which are one; a map that has just the labels of some names. -/
import Derived.Test.YthmpolifgngdiaaMB
import Derived.DeepKeys4
import Derived.Maps.RangeWalk
import Derived.Maps.OwnSet
namespace Go.Proofs.Ythmpolifgngdiaa
open Go.RowKit Go.Maps

theorem laidOutK : laidOutB Try.prog = true := by kernel_rfl
theorem lawLab : WideMaps.KeyLaw Try.prog 114 := deep_law_laid laidOutK (m := 4) (by omega) (of_decide_eq_true (by kernel_rfl)) (by kernel_rfl) (by kernel_rfl)
theorem cellsLab : Try.prog.cellsOf 114 = 2 := by kernel_rfl
theorem cellsArr : Try.prog.cellsOf 51 = 2 := by kernel_rfl
theorem cellsU64 : Try.prog.cellsOf 50 = 1 := by kernel_rfl
theorem keyTypeLab : Try.prog.keyType 114 = true := by kernel_rfl
theorem types3 : ∃ m, Try.prog.types.size = m + 3 := ⟨Try.prog.types.size - 3, by have : 3 ≤ Try.prog.types.size := of_decide_eq_true (by kernel_rfl); omega⟩

/-- two words as a label's value -/
abbrev labV (x y : Int) : Value := .agg #[.int .u64 x, .int .u64 y]
/-- as a key -/
def labK (x y : Int) : Lit := .string (keyBytes [.int .u64 x, .int .u64 y])

theorem key_lab {x y : Int} (hx : (Lit.int .u64 x).wf = true) (hy : (Lit.int .u64 y).wf = true) : keyOf Try.prog 114 (labV x y) = some (labK x y) := by
  obtain ⟨m, hm⟩ := types3
  unfold keyOf
  simp only [Try.underlying114]
  rw [if_pos (by simp [keyTypeLab, Value.formed, Try.underlying114, cellsLab]), hm]
  simp [Program.keyLits, Try.underlying114, Try.underlying51, Try.underlying50, cellsLab, cellsArr, cellsU64, Value.cells, hx, hy, show List.range 2 = [0, 1] from rfl, labK]
theorem labK_inj {x y a b : Int} (hx : (Lit.int .u64 x).wf = true) (hy : (Lit.int .u64 y).wf = true) (ha : (Lit.int .u64 a).wf = true) (hb : (Lit.int .u64 b).wf = true) (h : labK x y = labK a b) : x = a ∧ y = b := by
  have := lawLab.inj (key_lab hx hy) (h ▸ key_lab ha hb)
  simpa using this
theorem wf64 {n : Nat} (h : n < 18446744073709551616) : (Lit.int .u64 (n : Int)).wf = true := by
  have e1 : IntKind.u64.min = 0 := by decide
  have e2 : IntKind.u64.max = 18446744073709551615 := by decide
  simp only [Lit.wf, e1, e2, Bool.and_eq_true, decide_eq_true_eq]
  omega

/-- the label of a name -/
def labOf (s : ByteArray) : Int × Int := ((nm 8 s.data.toList : Nat), (nm 8 (s.data.toList.drop 8) : Nat))
theorem labOf_wf (s : ByteArray) : (Lit.int .u64 (labOf s).1).wf = true ∧ (Lit.int .u64 (labOf s).2).wf = true := ⟨wf64 (nm_lt8 _), wf64 (nm_lt8 _)⟩
def labL (s : ByteArray) : Lit := labK (labOf s).1 (labOf s).2

/-- block b is a map that has just the labels of these names -/
def LabSet (w : World) (b : Nat) (L : List ByteArray) : Prop := ∃ D : DataW Unit, w.ownsMap Try.prog 114 unitElem b L.length D ∧
  ∀ x y, (Lit.int .u64 x).wf = true → (Lit.int .u64 y).wf = true → (has D (labK x y) = true ↔ ∃ s ∈ L, (x, y) = labOf s)
theorem LabSet.lt {w : World} {b : Nat} {L : List ByteArray} (h : LabSet w b L) : b < w.heap.size := by obtain ⟨D, h, _⟩ := h; exact h.lt
theorem LabSet.keep {w w' : World} {b : Nat} {L : List ByteArray} (h : LabSet w b L) (e : w'.heap[b]? = w.heap[b]?) : LabSet w' b L := by
  obtain ⟨D, ⟨es, clock, hb, F, hs, hD⟩, h2⟩ := h
  exact ⟨D, ⟨es, clock, e.trans hb, F, hs, hD⟩, h2⟩
theorem LabSet.ext {w w' : World} {b : Nat} {L : List ByteArray} (h : LabSet w b L) (k : Ext w w') : LabSet w' b L := h.keep (k.block b h.lt)
theorem LabSet.made (w : World) : LabSet (w.alloc (.map #[] 0)) w.heap.size [] := ⟨_, World.ownsMap_made w _ _ _, fun x y _ _ => by simp [has]⟩
theorem LabSet.put {w : World} {b : Nat} {L : List ByteArray} {D : DataW Unit} {s : ByteArray} (hm : IsMap D)
    (h : ∀ x y, (Lit.int .u64 x).wf = true → (Lit.int .u64 y).wf = true → (has D (labK x y) = true ↔ ∃ s ∈ L, (x, y) = labOf s))
    (hown : w.ownsMap Try.prog 114 unitElem b (L.length + 1) (D.put (labL s) (.agg []))) : LabSet w b (L ++ [s]) := by
  refine ⟨_, by simpa using hown, fun x y hx hy => ?_⟩
  obtain ⟨ws, wt⟩ := labOf_wf s
  by_cases e : labK x y = labL s
  · obtain ⟨e1, e2⟩ := labK_inj hx hy ws wt e
    rw [e, has_put_same hm (lawLab.str (key_lab ws wt) |>.elim fun _ e => by rw [show labL s = _ from e]; trivial)]
    simp only [true_iff]
    exact ⟨s, by simp, by rw [e1, e2]⟩
  · rw [has_put_other e, h x y hx hy]
    constructor
    · rintro ⟨t, ht, e'⟩; exact ⟨t, by simp [ht], e'⟩
    · rintro ⟨t, ht, e'⟩
      rcases List.mem_append.1 ht with h' | h'
      · exact ⟨t, h', e'⟩
      · simp only [List.mem_singleton] at h'
        subst h'
        exact absurd (by unfold labL; rw [← e']) e
theorem Chg.of_grown {w w' : World} {b : Nat} (h : w.grownBy w' (some b)) : Chg (· = b) w w' := ⟨h.os, h.tape, h.output, h.size, fun i hi hne => h.block i hi (fun e => hne (by injection e))⟩
end Go.Proofs.Ythmpolifgngdiaa
