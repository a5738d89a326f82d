/- Package read: whole texts: the words of a text as a row, a new reader. -/
import Derived.Test.YtbjghkmjnhmlfaaGreatDoorYL
import Derived.Test.YtbjghkmjnhmlfaaGreatDoorPbd
import Derived.Test.YtbjghkmjnhmlfaaGreatDoorYE
import Derived.StillTailTactics
namespace Go.Proofs.YtbjghkmjnhmlfaaGreatDoor
open Go.RowKit

theorem toks_cells {w : World} {base : Nat} {v : Value} {T : List Tok} (h : w.ownsRow base 54 4 v T.length (tokCells T)) (hT : 0 < T.length) : ∃ q c, v = .slice (some ⟨q, 0, none⟩) T.length c ∧ base ≤ q ∧ q < w.heap.size ∧
    ∀ j (h : j < T.length), w.cell? ⟨q, j * 4, none⟩ = some (.int .i64 T[j].kind) ∧ w.cell? ⟨q, j * 4 + 1, none⟩ = some (.string T[j].text) ∧ w.cell? ⟨q, j * 4 + 2, none⟩ = some (.int .i64 T[j].n) ∧ w.cell? ⟨q, j * 4 + 3, none⟩ = some (.int .i64 T[j].at_) := by
  obtain ⟨q, c, rfl, _⟩ := own_form h hT
  have hq := own_lt h q rfl
  refine ⟨q, c, rfl, hq.1, hq.2, fun i hi => ?_⟩
  have cell : ∀ j, j < 4 → w.cell? ⟨q, i * 4 + j, none⟩ = T[i].cells[j]? := fun j hj => by
    rw [h.cellAt (i * 4 + j) (by omega), tokCells_at T i j hi hj]
  refine ⟨?_, ?_, ?_, ?_⟩
  · have := cell 0 (by omega); simpa [Tok.cells] using this
  · have := cell 1 (by omega); simpa [Tok.cells] using this
  · have := cell 2 (by omega); simpa [Tok.cells] using this
  · have := cell 3 (by omega); simpa [Tok.cells] using this
/-- the reader, as it is made -/
theorem rd_new {w w' : World} {K : RdP} {T : List Tok} (hg : w' = w.alloc (.cells #[.slice (some ⟨K.A, 0, none⟩) T.length K.c, .slice (some ⟨K.R, 0, none⟩) T.length K.d, .int .i64 0, .int .i64 0, .int .i64 0, .int .i64 0] 82)) (hl : T.length ≤ 4001) (hG : ToksG T)
    (ht : ∀ j (h : j < T.length), w.cell? ⟨K.A, j * 4, none⟩ = some (.int .i64 T[j].kind) ∧ w.cell? ⟨K.A, j * 4 + 1, none⟩ = some (.string T[j].text) ∧ w.cell? ⟨K.A, j * 4 + 2, none⟩ = some (.int .i64 T[j].n) ∧ w.cell? ⟨K.A, j * 4 + 3, none⟩ = some (.int .i64 T[j].at_))
    (hr : ∀ j, j < T.length → w.cell? ⟨K.R, j, none⟩ = some (.int .u64 (roleV (rl T j)))) : RdAt w' w.heap.size K T 0 0 := by
  subst hg
  have hx := (Ext.refl w).alloc (.cells #[.slice (some ⟨K.A, 0, none⟩) T.length K.c, .slice (some ⟨K.R, 0, none⟩) T.length K.d, .int .i64 0, .int .i64 0, .int .i64 0, .int .i64 0] 82)
  have hA := World.block_lt_of_cell? w _ (ht 0 hG.1).1
  have hR := World.block_lt_of_cell? w _ (hr 0 hG.1)
  simp only at hA hR
  refine ⟨by go_simp, by go_simp, by go_simp, by go_simp, ⟨0, by go_simp⟩, ⟨0, by go_simp⟩, fun j _ => by go_simp, fun j hj => ?_, fun j hj => hx.cell (hr j hj), by omega, by omega, hl, fun j hj => ?_⟩
  · obtain ⟨a0, a1, a2, a3⟩ := ht j hj
    exact ⟨hx.cell a0, hx.cell a1, hx.cell a2, hx.cell a3⟩
  · have g := hG.2.1 _ (List.getElem_mem hj)
    refine ⟨?_, by have := g.le; omega⟩
    have e1 : IntKind.i64.min = -9223372036854775808 := by decide
    have e2 : IntKind.i64.max = 9223372036854775807 := by decide
    have := g.n
    simp only [Lit.wf, e1, e2, Bool.and_eq_true, decide_eq_true_eq]
    omega
end Go.Proofs.YtbjghkmjnhmlfaaGreatDoor
