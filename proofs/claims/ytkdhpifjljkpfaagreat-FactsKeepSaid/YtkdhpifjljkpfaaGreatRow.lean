/- A slice of terms that a call has made itself. -/
import Derived.Test.YtkdhpifjljkpfaaGreatTm
namespace Go.Proofs.YtkdhpifjljkpfaaGreat
open Go.RowKit

/-- a term and where its arguments lie -/
abbrev Lain := Tm × Option Addr × Nat
def Lain.cells (x : Lain) : List Value := [.int .i64 x.1.kind, .string x.1.name, .int .i64 x.1.n, .slice x.2.1 x.1.args.length x.2.2]
def rowCells : List Lain → List Value
  | [] => []
  | x :: r => x.cells ++ rowCells r
theorem rowCells_len : ∀ xs : List Lain, (rowCells xs).length = xs.length * 4
  | [] => rfl
  | x :: r => by rw [rowCells, List.length_append, rowCells_len r, Lain.cells, List.length_cons]; simp; omega
theorem rowCells_snoc : ∀ (xs : List Lain) (x : Lain), rowCells (xs ++ [x]) = rowCells xs ++ x.cells
  | [], x => by simp [rowCells]
  | a :: r, x => by rw [List.cons_append, rowCells, rowCells_snoc r x, rowCells, List.append_assoc]
theorem rowCells_at : ∀ (xs : List Lain) (i j : Nat) (h : i < xs.length), j < 4 → (rowCells xs)[i * 4 + j]? = xs[i].cells[j]?
  | x :: r, 0, j, _, hj => by
    rw [rowCells, List.getElem?_append_left (by simp [Lain.cells]; omega)]
    simp
  | x :: r, i + 1, j, h, hj => by
    rw [rowCells, List.getElem?_append_right (by simp [Lain.cells]; omega)]
    have e : (i + 1) * 4 + j - x.cells.length = i * 4 + j := by simp [Lain.cells]; omega
    rw [e, rowCells_at r i j (by simpa using h) hj]
    simp
theorem Lain.one (x : Lain) : ∀ u ∈ x.cells, u.oneCell' = true := by
  intro u hu
  simp only [Lain.cells, List.mem_cons, List.not_mem_nil, or_false] at hu
  rcases hu with rfl | rfl | rfl | rfl <;> rfl

theorem Ext.grown {w w' : World} (h : Ext w w') : w.grownBy w' none := ⟨h.os, h.tape, h.output, h.size, fun i hi _ => h.block i hi⟩
theorem ownsRow_ext {w w' : World} {base : Nat} {e : TypeId} {size : Nat} {v : Value} {n : Nat} {xs : List Value} (h : w.ownsRow base e size v n xs) (k : Ext w w') : w'.ownsRow base e size v n xs := by
  refine h.kept k.grown ?_
  rcases h.2 with ⟨rfl, _⟩ | ⟨g, cap, cur, rfl, _⟩
  · exact .inl rfl
  · exact .inr (by simp [Value.ownBlock])
/-- an append onto what is owned from the end of w1 on turns nothing of w1 -/
theorem Ext.own {w1 w w' : World} {base : Nat} {e : TypeId} {size : Nat} {v : Value} {n : Nat} {xs : List Value} (k : Ext w1 w) (h : w.ownsRow base e size v n xs) (hb : w1.heap.size ≤ base) (g : w.grownBy w' v.ownBlock) : Ext w1 w' :=
  Below.grown k g k.size (fun i hi => Nat.le_trans hb (h.lt i hi).1)

/-- what is owned is a slice of terms -/
theorem owned_tms {w : World} {base : Nat} {v : Value} {xs : List Lain} (h : w.ownsRow base 40 4 v xs.length (rowCells xs)) (hx : ∀ x ∈ xs, TmAt w x.1 x.2.1 x.2.2) :
    ∃ A c, v = .slice A xs.length c ∧ xs.length ≤ c ∧ TmsAt w (xs.map (·.1)) A := by
  rcases h.2 with ⟨rfl, h0⟩ | ⟨g, cap, cur, rfl, _, _, hc, _⟩
  · have e : xs = [] := List.eq_nil_of_length_eq_zero h0
    subst e
    exact ⟨none, 0, rfl, Nat.le_refl _, fun _ => none, fun _ => 0, fun i hi => absurd hi (by simp), fun i hi => absurd hi (by simp)⟩
  · refine ⟨_, cap, rfl, hc, fun i => (xs[i]?.map (·.2.1)).getD none, fun i => (xs[i]?.map (·.2.2)).getD 0, fun i hi => ?_, fun i hi => ?_⟩
    · have hi' : i < xs.length := by simpa using hi
      have cell : ∀ j, j < 4 → w.cell? ⟨g, 0 + i * 4 + j, none⟩ = xs[i].cells[j]? := fun j hj => by
        rw [show 0 + i * 4 + j = i * 4 + j by omega, h.cellAt (i * 4 + j) (by omega), rowCells_at xs i j hi' hj]
      refine ⟨g, 0, rfl, ?_, ?_, ?_, ?_⟩
      · have := cell 0 (by omega); simpa [Lain.cells] using this
      · have := cell 1 (by omega); simpa [Lain.cells] using this
      · have := cell 2 (by omega); simpa [Lain.cells] using this
      · have := cell 3 (by omega); simpa [Lain.cells, hi'] using this
    · have hi' : i < xs.length := by simpa using hi
      have := hx _ (List.getElem_mem hi')
      simpa [hi'] using this
end Go.Proofs.YtkdhpifjljkpfaaGreat
