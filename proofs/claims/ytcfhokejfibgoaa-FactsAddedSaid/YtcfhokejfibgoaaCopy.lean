/- almagestref0.CopyTerm, CopyTerms: the same term in new memory, no block of it shared. -/
import Derived.Test.YtcfhokejfibgoaaOwn
import Derived.Test.YtcfhokejfibgoaaGrd
import Derived.OwnWalk
import Derived.Deep.AppendLies
import Derived.Maps.AppendAt
namespace Go.Proofs.Ytcfhokejfibgoaa
open Go.RowKit

/-- what has been copied so far -/
structure CopyInv (w wr : World) (v : Value) (xs : List Lain) (G : Nat → Nat → Prop) : Prop where
  sub : ∀ i (h : i < xs.length), TmOwn wr xs[i].1 xs[i].2.1 xs[i].2.2 (G i)
  inF : ∀ i, i < xs.length → ∀ x, G i x → w.heap.size ≤ x ∧ x < wr.heap.size ∧ v.ownBlock ≠ some x
  apart : ∀ i j, i < xs.length → j < xs.length → i ≠ j → ∀ x, G i x → ¬ G j x
  ext : Ext w wr

theorem CopyInv.step {w wr w1 w4 : World} {v v' : Value} {xs : List Lain} {G : Nat → Nat → Prop} {y : Lain} {o : Obj} (h : CopyInv w wr v xs G)
    (hO : TmOwn w1 y.1 y.2.1 y.2.2 (fun k => wr.heap.size ≤ k ∧ k < w1.heap.size)) (hx : Ext wr w1) (hg : (w1.alloc o).grownBy w4 v.ownBlock) (hv : ∀ b, v.ownBlock = some b → w.heap.size ≤ b ∧ b < wr.heap.size)
    (hat : v'.ownBlock = v.ownBlock ∨ v'.ownBlock = some (w1.heap.size + 1)) :
    CopyInv w w4 v' (xs ++ [y]) (fun i x => if i < xs.length then G i x else wr.heap.size ≤ x ∧ x < w1.heap.size) := by
  have hs1 := hx.size
  have hs4 := hg.size
  have esz : (w1.alloc o).heap.size = w1.heap.size + 1 := by simp
  have hxa : Ext wr (w1.alloc o) := hx.alloc o
  have keep : ∀ b, b < w1.heap.size → v.ownBlock ≠ some b → w4.heap[b]? = w1.heap[b]? := fun b hb hne => (hg.block b (by omega) (fun e => hne e.symm)).trans (Below.heap_alloc w1 o b hb)
  refine ⟨fun i hi => ?_, fun i hi x hx' => ?_, fun i j hi hj hij x h1 h2 => ?_, ?_⟩
  · by_cases hlt : i < xs.length
    · simp only [List.getElem_append_left hlt, hlt, if_true]
      refine (h.sub i hlt).keep fun b hb hs => ?_
      have := h.inF i hlt b hb
      rw [keep b (by omega) this.2.2, hx.block b hs]
    · have e : i = xs.length := by simp at hi; omega
      subst e
      simp only [List.getElem_concat_length, Nat.lt_irrefl, if_false]
      refine hO.keep fun b hb hs => keep b hs (fun e => ?_)
      have := hv b e
      omega
  · by_cases hlt : i < xs.length
    · simp only [hlt, if_true] at hx'
      have := h.inF i hlt x hx'
      refine ⟨this.1, by omega, fun e => ?_⟩
      rcases hat with e' | e' <;> rw [e'] at e
      · exact this.2.2 e
      · injection e with e; omega
    · simp only [hlt, if_false] at hx'
      have hw := h.ext.size
      refine ⟨by omega, by omega, fun e => ?_⟩
      rcases hat with e' | e' <;> rw [e'] at e
      · have := hv x e; omega
      · injection e with e; omega
  · have hi' : i < xs.length + 1 := by simpa using hi
    have hj' : j < xs.length + 1 := by simpa using hj
    by_cases hli : i < xs.length <;> by_cases hlj : j < xs.length <;> simp only [hli, hlj, if_true, if_false] at h1 h2
    · exact h.apart i j hli hlj hij x h1 h2
    · have := h.inF i hli x h1; omega
    · have := h.inF j hlj x h2; omega
    · omega
  · exact Below.grown (h.ext.trans hxa) hg (by have := h.ext.size; omega) (fun b hb => (hv b hb).1)

/-- a copy -/
def Copied (t : Tm) (w : World) (e : Ending) (w' : World) : Prop := ∃ A c, e = .returned (t.val A c) ∧ TmOwn w' t A c (fun k => w.heap.size ≤ k ∧ k < w'.heap.size) ∧ Ext w w'
def CopiedL (ts : List Tm) (w : World) (e : Ending) (w' : World) : Prop := ∃ A c g d G, e = .returned (.slice A ts.length c) ∧ ts.length ≤ c ∧ RowOwn w' ts A (fun k => w.heap.size ≤ k ∧ k < w'.heap.size) g d G ∧
  (∀ i (h : i < ts.length), TmOwn w' ts[i] (g i) (d i) (G i)) ∧ Ext w w'

/-- what has been copied in the end -/
theorem CopyInv.done {w wr : World} {v : Value} {xs : List Lain} {G : Nat → Nat → Prop} {ts : List Tm} (h : CopyInv w wr v xs G) (hown : wr.ownsRow w.heap.size 33 4 v xs.length (rowCells xs)) (e : xs.map (·.1) = ts) :
    CopiedL ts w (.returned v) wr := by
  subst e
  obtain ⟨A, c, rfl, hc, g, d, hr, hs⟩ := owned_tms hown (fun x hx => by obtain ⟨i, hi, rfl⟩ := List.getElem_of_mem hx; exact (h.sub i hi).at_)
  refine ⟨A, c, fun i => (xs[i]?.map (·.2.1)).getD none, fun i => (xs[i]?.map (·.2.2)).getD 0, G, by simp, by simpa using hc, ⟨?_, ?_, ?_, ?_⟩, ?_, h.ext⟩
  · intro i hi
    have hi' : i < xs.length := by simpa using hi
    rcases hown.2 with ⟨hv, h0⟩ | ⟨b, cap, cur, hv, _, _, _, _⟩
    · omega
    · injection hv with hA _ _
      subst hA
      have cell : ∀ j, j < 4 → wr.cell? ⟨b, 0 + i * 4 + j, none⟩ = xs[i].cells[j]? := fun j hj => by
        have hown' := hown
        rw [show 0 + i * 4 + j = i * 4 + j by omega, hown'.cellAt (i * 4 + j) (by omega), rowCells_at xs i j hi' hj]
      refine ⟨b, 0, rfl, ?_, ?_, ?_, ?_⟩
      · have := cell 0 (by omega); simpa [Lain.cells] using this
      · have := cell 1 (by omega); simpa [Lain.cells] using this
      · have := cell 2 (by omega); simpa [Lain.cells] using this
      · have := cell 3 (by omega); simpa [Lain.cells, hi'] using this
  · intro b o hA hl
    subst hA
    have hl' : 0 < xs.length := by simpa using hl
    have hlt := hown.lt b rfl
    refine ⟨hlt, fun i hi hb => (h.inF i (by simpa using hi) b hb).2.2 rfl, fun j hj => ?_⟩
    rcases hown.2 with ⟨hv, h0⟩ | ⟨b', cap, cur, hv, _, _, _, _⟩
    · omega
    · injection hv with hA hB hC
      injection hA with hA
      injection hA with e1 e2
      subst e1 e2 hC
      rw [Nat.zero_add]
      exact hown.frozenAt j
  · intro i hi x hx
    have := h.inF i (by simpa using hi) x hx
    exact ⟨this.1, this.2.1⟩
  · intro i j hi hj hij x
    exact h.apart i j (by simpa using hi) (by simpa using hj) hij x
  · intro i hi
    have hi' : i < xs.length := by simpa using hi
    have := h.sub i hi'
    simpa [hi'] using this


theorem infoTm' : (Try.prog.info? 33).map (fun i => (i.zero, i.size, i.bytes)) = some (some (.agg #[.int .i64 0, .string ⟨#[]⟩, .int .i64 0, .slice none 0 0]), 4, 56) := by kernel_rfl

end Go.Proofs.Ytcfhokejfibgoaa
