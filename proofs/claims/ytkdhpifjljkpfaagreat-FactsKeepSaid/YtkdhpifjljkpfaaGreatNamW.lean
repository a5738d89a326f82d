/- The walk of term.names. -/
import Derived.Test.YtkdhpifjljkpfaaGreatRis
import Derived.Shelf.SlSortCmp.WholeK
namespace Go.Proofs.YtkdhpifjljkpfaaGreat
open Go.RowKit Go.Maps Go.Sort Go.Shelf Go.Lib

/-- a row of texts that is nobody's else, from block g on -/
def StrOwn (w : World) (ss : List ByteArray) (g : Nat) : Prop := g < w.heap.size ∧ ∀ i (h : i < ss.length), w.cell? ⟨g, i, none⟩ = some (.string ss[i]) ∧ w.frozen? ⟨g, i, none⟩ = false
theorem StrOwn.ext {w w' : World} {ss : List ByteArray} {g : Nat} (h : StrOwn w ss g) (k : Ext w w') : StrOwn w' ss g :=
  ⟨Nat.lt_of_lt_of_le h.1 k.size, fun i hi => ⟨k.cell (h.2 i hi).1, (Below.frozen k h.1).trans (h.2 i hi).2⟩⟩
/-- .. filled so far -/
def StrFill (w : World) (ss : List ByteArray) (g k : Nat) : Prop := g < w.heap.size ∧ ∀ i (h : i < ss.length), w.cell? ⟨g, i, none⟩ = some (.string (if i < k then ss[i] else ⟨#[]⟩)) ∧ w.frozen? ⟨g, i, none⟩ = false
theorem StrFill.ext {w w' : World} {ss : List ByteArray} {g k : Nat} (h : StrFill w ss g k) (x : Ext w w') : StrFill w' ss g k :=
  ⟨Nat.lt_of_lt_of_le h.1 x.size, fun i hi => ⟨x.cell (h.2 i hi).1, (Below.frozen x h.1).trans (h.2 i hi).2⟩⟩
theorem StrFill.set {w : World} {ss : List ByteArray} {g k : Nat} (h : StrFill w ss g k) (hk : k < ss.length) : StrFill (w.setCell ⟨g, k, none⟩ (.string ss[k])) ss g (k + 1) := by
  refine ⟨by simpa [World.setCell] using h.1, fun i hi => ⟨?_, by simpa using (h.2 i hi).2⟩⟩
  by_cases e : i = k
  · subst e
    rw [if_pos (by omega)]
    have hc := (h.2 i hi).1
    go_simp
  · rw [World.cell?_setCell_other _ _ _ _ (fun k => e (by injection k with _ k; exact k.symm)), (h.2 i hi).1]
    by_cases c : i < k
    · rw [if_pos c, if_pos (by omega)]
    · rw [if_neg c, if_neg (by omega)]
theorem StrFill.done {w : World} {ss : List ByteArray} {g k : Nat} (h : StrFill w ss g k) (hk : ss.length ≤ k) : StrOwn w ss g :=
  ⟨h.1, fun i hi => by have := h.2 i hi; rwa [if_pos (by omega)] at this⟩
theorem StrFill.start {w : World} {base g c : Nat} {ss : List ByteArray} {n : Nat} (h : w.ownsRow base 9 1 (.slice (some ⟨g, 0, none⟩) n c) n (madeCells #[.string ⟨#[]⟩] (n * 1)).toList) (e : n = ss.length) : StrFill w ss g 0 := by
  subst e
  refine ⟨(h.lt g rfl).2, fun i hi => ⟨?_, h.frozenAt i⟩⟩
  rw [h.cellAt i (by omega)]
  simp [madeCells, hi, Nat.mod_one]

/-- the names of a map's labels -/
def Named (L : List ByteArray) (w : World) (e : Ending) (w' : World) : Prop :=
  ∃ (ss : List ByteArray) (g c : Nat), e = .returned (.slice (some ⟨g, 0, none⟩) ss.length c) ∧ Rising ss ∧ (∀ s, s ∈ ss ↔ s ∈ L) ∧ StrOwn w' ss g ∧ w.heap.size ≤ g ∧ ss.length ≤ c ∧ Ext w w'

theorem infoLab : (Tryz.prog.info? 134).map (fun i => (i.zero, i.size, i.bytes)) = some (some (.agg #[.int .u64 0, .int .u64 0]), 2, 16) := by kernel_rfl
theorem infoStr : (Tryz.prog.info? 9).map (fun i => (i.zero, i.size, i.bytes)) = some (some (.string ⟨#[]⟩), 1, 16) := by kernel_rfl
theorem enterLab : ∀ args w, (callFunc 95 args).run Tryz.prog w = .ok (.enter 95 args) w := enters_of Tryz.func95 (by kernel_rfl) rfl


theorem Ext.of_grown {w w' : World} (h : w.grownBy w' none) : Ext w w' := ⟨h.os, h.tape, h.output, h.size, fun k hk => h.block k hk (by simp)⟩


end Go.Proofs.YtkdhpifjljkpfaaGreat
