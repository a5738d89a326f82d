/- A slice of texts that a call has made itself. -/
import Derived.Test.YtkdhpifjljkpfaaGreatRow
import Derived.Test.YtkdhpifjljkpfaaGreatOpen
namespace Go.Proofs.YtkdhpifjljkpfaaGreat
open Go.RowKit

def strCells (ss : List ByteArray) : List Value := ss.map Value.string
theorem strCells_one (ss : List ByteArray) : ∀ u ∈ strCells ss, u.oneCell' = true := by
  intro u hu
  obtain ⟨s, _, rfl⟩ := List.mem_map.1 hu
  rfl
theorem owned_strs {w : World} {base : Nat} {v : Value} {ss : List ByteArray} (h : w.ownsRow base 9 1 v ss.length (strCells ss)) (hs : ∀ s ∈ ss, s.size ≤ 140737488351232) :
    ∃ A c, v = .slice A ss.length c ∧ StrsAt w ss A := by
  rcases h.2 with ⟨rfl, h0⟩ | ⟨g, cap, cur, rfl, _, _, hc, _⟩
  · have e : ss = [] := List.eq_nil_of_length_eq_zero h0
    subst e
    exact ⟨none, 0, rfl, fun i hi => absurd hi (by simp)⟩
  · refine ⟨_, cap, rfl, fun i hi => ⟨g, 0, rfl, ?_, hs _ (List.getElem_mem hi)⟩⟩
    rw [Nat.zero_add, h.cellAt i (by omega)]
    simp [strCells, hi]
/-- what came in, as an append reads it -/
theorem StrsAt.news {w : World} {ss : List ByteArray} {ad : Addr} (h : StrsAt w ss (some ad)) : ∀ j u, (strCells ss)[j]? = some u → w.cell? (ad.add j) = some u := by
  intro j u hu
  have hj : j < ss.length := by
    rcases Nat.lt_or_ge j ss.length with h' | h'
    · exact h'
    · rw [List.getElem?_eq_none (by simpa [strCells] using h')] at hu; cases hu
  obtain ⟨b, o, e, hc, _⟩ := h j hj
  injection e with e
  subst e
  rw [add_addr, hc]
  simpa [strCells, hj] using hu
end Go.Proofs.YtkdhpifjljkpfaaGreat
