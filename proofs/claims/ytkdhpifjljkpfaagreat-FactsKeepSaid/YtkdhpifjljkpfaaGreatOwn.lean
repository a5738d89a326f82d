/- Terms that lie in blocks of their own: what may be written over without turning anything else. -/
import Derived.Test.YtkdhpifjljkpfaaGreatRow
namespace Go.Proofs.YtkdhpifjljkpfaaGreat
open Go.RowKit

/-- a row of terms in a block of F, the blocks G i of each apart from it and from one another -/
structure RowOwn (w : World) (ts : List Tm) (A : Option Addr) (F : Nat → Prop) (g : Nat → Option Addr) (d : Nat → Nat) (G : Nat → Nat → Prop) : Prop where
  row : RowAt w ts A g d
  own : ∀ b o, A = some ⟨b, o, none⟩ → 0 < ts.length → F b ∧ (∀ i, i < ts.length → ¬ G i b) ∧ ∀ j, j < ts.length * 4 → w.frozen? ⟨b, o + j, none⟩ = false
  inF : ∀ i, i < ts.length → ∀ k, G i k → F k
  apart : ∀ i j, i < ts.length → j < ts.length → i ≠ j → ∀ k, G i k → ¬ G j k

/-- a term whose arguments, and theirs, lie in blocks of F, no block twice -/
inductive TmOwn (w : World) : Tm → Option Addr → Nat → (Nat → Prop) → Prop
  | mk (t : Tm) (A : Option Addr) (c : Nat) (F : Nat → Prop) (g : Nat → Option Addr) (d : Nat → Nat) (G : Nat → Nat → Prop) (fits : t.Fits) (cap : t.args.length ≤ c) (row : RowOwn w t.args A F g d G)
      (sub : ∀ i (h : i < t.args.length), TmOwn w t.args[i] (g i) (d i) (G i)) : TmOwn w t A c F

theorem TmOwn.at_ {w : World} {t : Tm} {A : Option Addr} {c : Nat} {F : Nat → Prop} (h : TmOwn w t A c F) : TmAt w t A c := by
  induction h with
  | mk t A c F g d G fits cap row sub ih => exact .mk t A c g d fits cap row.row ih
theorem TmOwn.weak {w : World} {t : Tm} {A : Option Addr} {c : Nat} {F F' : Nat → Prop} (h : TmOwn w t A c F) (k : ∀ b, F b → F' b) : TmOwn w t A c F' := by
  cases h with
  | mk _ _ _ _ g d G fits cap row sub =>
    exact .mk t A c F' g d G fits cap ⟨row.row, fun b o e hl => ⟨k b (row.own b o e hl).1, (row.own b o e hl).2⟩, fun i hi b hb => k b (row.inF i hi b hb), row.apart⟩ sub

/-- outside of F nothing that was there has turned -/
structure Chg (F : Nat → Prop) (w w' : World) : Prop where
  os : w'.os = w.os
  tape : w'.tape = w.tape
  output : w'.output = w.output
  size : w.heap.size ≤ w'.heap.size
  block : ∀ k, k < w.heap.size → ¬ F k → w'.heap[k]? = w.heap[k]?

theorem Chg.of_ext {F : Nat → Prop} {w w' : World} (h : Ext w w') : Chg F w w' := ⟨h.os, h.tape, h.output, h.size, fun k hk _ => h.block k hk⟩
theorem Chg.refl (F : Nat → Prop) (w : World) : Chg F w w := Chg.of_ext (Ext.refl w)
theorem Chg.trans {F : Nat → Prop} {a b c : World} (h : Chg F a b) (k : Chg F b c) : Chg F a c :=
  ⟨k.os.trans h.os, k.tape.trans h.tape, k.output.trans h.output, Nat.le_trans h.size k.size, fun i hi hf => (k.block i (Nat.lt_of_lt_of_le hi h.size) hf).trans (h.block i hi hf)⟩
theorem Chg.weak {F F' : Nat → Prop} {w w' : World} (h : Chg F w w') (k : ∀ b, F b → F' b) : Chg F' w w' := ⟨h.os, h.tape, h.output, h.size, fun i hi hf => h.block i hi (fun x => hf (k i x))⟩
theorem Chg.cell {F : Nat → Prop} {w w' : World} (h : Chg F w w') {p : Addr} {v : Value} (hc : w.cell? p = some v) (hf : ¬ F p.block) : w'.cell? p = some v :=
  (World.cell?_of_block (w := w) (h.block p.block (World.block_lt_of_cell? w _ hc) hf)).trans hc
/-- what is changed lies behind w's end -/
theorem Chg.ext_of {F : Nat → Prop} {w w1 w' : World} (h : Ext w w1) (k : Chg F w1 w') (hf : ∀ b, F b → w.heap.size ≤ b) : Ext w w' :=
  ⟨k.os.trans h.os, k.tape.trans h.tape, k.output.trans h.output, Nat.le_trans h.size k.size, fun i hi => (k.block i (Nat.lt_of_lt_of_le hi h.size) (fun x => by have := hf i x; omega)).trans (h.block i hi)⟩
theorem Chg.drew {F : Nat → Prop} {a w : World} (h : Chg F a w) : Chg F a w.drew := ⟨h.os, h.tape, h.output, h.size, h.block⟩

theorem RowOwn.keep {w w' : World} {ts : List Tm} {A : Option Addr} {F : Nat → Prop} {g : Nat → Option Addr} {d : Nat → Nat} {G : Nat → Nat → Prop} (h : RowOwn w ts A F g d G)
    (k : ∀ b, F b → b < w.heap.size → w'.heap[b]? = w.heap[b]?) : RowOwn w' ts A F g d G := by
  refine ⟨fun i hi => ?_, fun b o e hl => ?_, h.inF, h.apart⟩
  · obtain ⟨b, o, e, h0, h1, h2, h3⟩ := h.row i hi
    have hF := (h.own b o e (by omega)).1
    have hb : w'.heap[b]? = w.heap[b]? := k b hF (World.block_lt_of_cell? w _ h0)
    exact ⟨b, o, e, (World.cell?_of_block (w := w) hb).trans h0, (World.cell?_of_block (w := w) hb).trans h1, (World.cell?_of_block (w := w) hb).trans h2, (World.cell?_of_block (w := w) hb).trans h3⟩
  · obtain ⟨h1, h2, h3⟩ := h.own b o e hl
    obtain ⟨b', o', e', h0, _⟩ := h.row 0 hl
    have eb : b' = b := by rw [e] at e'; injection e' with e'; injection e' with e1 e2; exact e1.symm
    subst eb
    have hb : w'.heap[b']? = w.heap[b']? := k b' h1 (World.block_lt_of_cell? w _ h0)
    exact ⟨h1, h2, fun j hj => (World.frozen?_of_block (w := w) hb).trans (h3 j hj)⟩
theorem TmOwn.keep {w w' : World} {t : Tm} {A : Option Addr} {c : Nat} {F : Nat → Prop} (h : TmOwn w t A c F) (k : ∀ b, F b → b < w.heap.size → w'.heap[b]? = w.heap[b]?) : TmOwn w' t A c F := by
  induction h with
  | mk t A c F g d G fits cap row sub ih => exact .mk t A c F g d G fits cap (row.keep k) fun i hi => ih i hi fun b hb hs => k b (row.inF i hi b hb) hs
theorem TmOwn.ext {w w' : World} {t : Tm} {A : Option Addr} {c : Nat} {F : Nat → Prop} (h : TmOwn w t A c F) (k : Ext w w') : TmOwn w' t A c F := h.keep fun b _ hb => k.block b hb
theorem TmOwn.chg {w w' : World} {t : Tm} {A : Option Addr} {c : Nat} {F F' : Nat → Prop} (h : TmOwn w t A c F) (k : Chg F' w w') (hne : ∀ b, F b → ¬ F' b) : TmOwn w' t A c F :=
  h.keep fun b hb hs => k.block b hs (hne b hb)
/-! four cells written -/
def set4 (w : World) (b o : Nat) (v0 v1 v2 v3 : Value) : World := (((w.setCell ⟨b, o, none⟩ v0).setCell ⟨b, o + 1, none⟩ v1).setCell ⟨b, o + 2, none⟩ v2).setCell ⟨b, o + 3, none⟩ v3
theorem set4_size (w : World) (b o : Nat) (v0 v1 v2 v3 : Value) : (set4 w b o v0 v1 v2 v3).heap.size = w.heap.size := by simp [set4, World.setCell]
theorem set4_block (w : World) (b o : Nat) (v0 v1 v2 v3 : Value) (k : Nat) (h : k ≠ b) : (set4 w b o v0 v1 v2 v3).heap[k]? = w.heap[k]? := by
  unfold set4
  rw [Below.heap_setCell _ _ _ _ h, Below.heap_setCell _ _ _ _ h, Below.heap_setCell _ _ _ _ h, Below.heap_setCell _ _ _ _ h]
theorem set4_other (w : World) (b o q : Nat) (v0 v1 v2 v3 : Value) (h : q < o ∨ o + 4 ≤ q) : (set4 w b o v0 v1 v2 v3).cell? ⟨b, q, none⟩ = w.cell? ⟨b, q, none⟩ := by
  have ne : ∀ j, j < 4 → (⟨b, o + j, none⟩ : Addr) ≠ ⟨b, q, none⟩ := fun j hj e => by injection e with _ e2; omega
  unfold set4
  rw [World.cell?_setCell_other _ _ _ _ (ne 3 (by omega)), World.cell?_setCell_other _ _ _ _ (ne 2 (by omega)), World.cell?_setCell_other _ _ _ _ (ne 1 (by omega)), World.cell?_setCell_other _ _ _ _ (show (⟨b, o, none⟩ : Addr) ≠ ⟨b, q, none⟩ from ne 0 (by omega))]
theorem cell_same {w w' : World} {x q : Nat} {u : Value} (e : w'.heap[x]? = w.heap[x]?) (h : w.cell? ⟨x, q, none⟩ = some u) : w'.cell? ⟨x, q, none⟩ = some u := (World.cell?_of_block (w := w) e).trans h
theorem set4_far {w : World} {b o x q : Nat} {v0 v1 v2 v3 u : Value} (h : w.cell? ⟨x, q, none⟩ = some u) (hne : b ≠ x) : (set4 w b o v0 v1 v2 v3).cell? ⟨x, q, none⟩ = some u := by
  have e := set4_block w b o v0 v1 v2 v3 x (Ne.symm hne)
  exact cell_same e h
theorem set4_frozen (w : World) (b o : Nat) (v0 v1 v2 v3 : Value) (a : Addr) : (set4 w b o v0 v1 v2 v3).frozen? a = w.frozen? a := by
  unfold set4
  simp
theorem set4_cells {w : World} {b o : Nat} {u0 u1 u2 u3 : Value} (v0 v1 v2 v3 : Value) (h0 : w.cell? ⟨b, o, none⟩ = some u0) (h1 : w.cell? ⟨b, o + 1, none⟩ = some u1) (h2 : w.cell? ⟨b, o + 2, none⟩ = some u2) (h3 : w.cell? ⟨b, o + 3, none⟩ = some u3) :
    (set4 w b o v0 v1 v2 v3).cell? ⟨b, o, none⟩ = some v0 ∧ (set4 w b o v0 v1 v2 v3).cell? ⟨b, o + 1, none⟩ = some v1 ∧ (set4 w b o v0 v1 v2 v3).cell? ⟨b, o + 2, none⟩ = some v2 ∧ (set4 w b o v0 v1 v2 v3).cell? ⟨b, o + 3, none⟩ = some v3 := by
  unfold set4
  refine ⟨?_, ?_, ?_, ?_⟩ <;> go_simp
theorem set4_chg (w : World) (b o : Nat) (v0 v1 v2 v3 : Value) {F : Nat → Prop} (hF : F b) : Chg F w (set4 w b o v0 v1 v2 v3) :=
  ⟨by simp [set4, World.setCell], by simp [set4, World.setCell], by simp [set4, World.setCell], by rw [set4_size]; exact Nat.le_refl _, fun k _ hk => set4_block _ _ _ _ _ _ _ _ (fun e => hk (e ▸ hF))⟩
end Go.Proofs.YtkdhpifjljkpfaaGreat
