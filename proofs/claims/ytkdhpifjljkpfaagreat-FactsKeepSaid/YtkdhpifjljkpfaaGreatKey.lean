/- Labels as keys of a map: what reads as one, which are one; a map that has just the labels of some names. -/
import Derived.Test.YtkdhpifjljkpfaaGreatOwn
import Derived.Test.YtkdhpifjljkpfaaGreatNm
import Derived.DeepKeys4
import Derived.Maps.RangeWalk
import Derived.Maps.OwnSet
namespace Go.Proofs.YtkdhpifjljkpfaaGreat
open Go.RowKit Go.Maps

theorem laidOutK : laidOutB Tryz.prog = true := by kernel_rfl
theorem lawLab : WideMaps.KeyLaw Tryz.prog 134 := deep_law_laid laidOutK (m := 4) (by omega) (of_decide_eq_true (by kernel_rfl)) (by kernel_rfl) (by kernel_rfl)
theorem keyedLab : Keyed Tryz.prog 134 := Keyed.of_law lawLab
theorem cellsLab : Tryz.prog.cellsOf 134 = 2 := by kernel_rfl
theorem cellsArr : Tryz.prog.cellsOf 78 = 2 := by kernel_rfl
theorem cellsU64 : Tryz.prog.cellsOf 77 = 1 := by kernel_rfl
theorem keyTypeLab : Tryz.prog.keyType 134 = true := by kernel_rfl
theorem types3 : ∃ m, Tryz.prog.types.size = m + 3 := ⟨Tryz.prog.types.size - 3, by have : 3 ≤ Tryz.prog.types.size := of_decide_eq_true (by kernel_rfl); omega⟩

/-- two words as a label's value -/
abbrev labV (x y : Int) : Value := .agg #[.int .u64 x, .int .u64 y]
/-- as a key -/
def labK (x y : Int) : Lit := .string (keyBytes [.int .u64 x, .int .u64 y])

theorem key_lab {x y : Int} (hx : (Lit.int .u64 x).wf = true) (hy : (Lit.int .u64 y).wf = true) : keyOf Tryz.prog 134 (labV x y) = some (labK x y) := by
  obtain ⟨m, hm⟩ := types3
  unfold keyOf
  simp only [Tryz.underlying134]
  rw [if_pos (by simp [keyTypeLab, Value.formed, Tryz.underlying134, cellsLab]), hm]
  simp [Program.keyLits, Tryz.underlying134, Tryz.underlying78, Tryz.underlying77, cellsLab, cellsArr, cellsU64, Value.cells, hx, hy, show List.range 2 = [0, 1] from rfl, labK]
theorem list2 {α : Type} {l : List α} (h : l.length = 2) : ∃ a b, l = [a, b] := by
  match l, h with
  | [a, b], _ => exact ⟨a, b, rfl⟩
theorem lits_u64 {P : Program} {q : TypeId} (hu : P.underlying q = some (.int .u64)) {d : Nat} {v : Value} {L : List Lit} (h : P.keyLits (d + 1) q [v] = some L) : ∃ x, v = .int .u64 x ∧ (Lit.int .u64 x).wf = true ∧ L = [.int .u64 x] := by
  unfold Program.keyLits at h
  rw [hu] at h
  cases v <;> simp only [reduceCtorEq] at h
  split at h
  · rename_i hc
    obtain ⟨rfl, hw⟩ := hc
    cases h
    exact ⟨_, rfl, hw, rfl⟩
  · cases h
theorem lits_arr {P : Program} {q r : TypeId} (hu : P.underlying q = some (.int .u64)) (hr : P.underlying r = some (.array 2 q)) (cq : P.cellsOf q = 1) (cr : P.cellsOf r = 2) {d : Nat} {l : List Value} {L : List Lit} (h : P.keyLits (d + 2) r l = some L) :
    ∃ x y, l = [.int .u64 x, .int .u64 y] ∧ (Lit.int .u64 x).wf = true ∧ (Lit.int .u64 y).wf = true ∧ L = [.int .u64 x, .int .u64 y] := by
  unfold Program.keyLits at h
  rw [hr] at h
  simp only at h
  split at h
  · rename_i hl
    rw [cr] at hl
    obtain ⟨a, b, rfl⟩ := list2 hl
    rw [cq, show List.range 2 = [0, 1] from rfl] at h
    simp only [List.mapM_cons, List.mapM_nil, Option.map_eq_some_iff, Option.bind_eq_bind, Option.bind_eq_some_iff, Option.pure_def] at h
    obtain ⟨_, ⟨L1, h1, _, ⟨L2, h2, _, e1, e2⟩, e3⟩, rfl⟩ := h
    obtain ⟨x, e, hx, rfl⟩ := lits_u64 hu (v := a) h1
    obtain ⟨y, e', hy, rfl⟩ := lits_u64 hu (v := b) h2
    subst e e'
    refine ⟨x, y, rfl, hx, hy, ?_⟩
    cases e1
    cases e2
    cases e3
    rfl
  · cases h
theorem lab_inv {P : Program} {q r k : TypeId} (hu : P.underlying q = some (.int .u64)) (hr : P.underlying r = some (.array 2 q)) (cq : P.cellsOf q = 1) (cr : P.cellsOf r = 2) (ck : P.cellsOf k = 2) {fs : Array Field} (hk : P.underlying k = some (.struct fs))
    (hf : ∃ f : Field, fs.toList = [f] ∧ f.offset = 0 ∧ f.type = r) {m : Nat} {l : List Value} {L : List Lit} (h : P.keyLits (m + 3) k l = some L) :
    ∃ x y, l = [.int .u64 x, .int .u64 y] ∧ (Lit.int .u64 x).wf = true ∧ (Lit.int .u64 y).wf = true ∧ L = [.int .u64 x, .int .u64 y] := by
  obtain ⟨f, e1, e2, e3⟩ := hf
  unfold Program.keyLits at h
  rw [hk] at h
  simp only at h
  split at h
  · rename_i hl
    have hl2 : l.length = 2 := hl.1.trans ck
    rw [e1] at h
    simp only [List.mapM_cons, List.mapM_nil, Option.map_eq_some_iff, Option.bind_eq_bind, Option.bind_eq_some_iff, Option.pure_def] at h
    obtain ⟨_, ⟨L1, h1, _, e4, e5⟩, rfl⟩ := h
    cases e4
    cases e5
    obtain ⟨a, b, rfl⟩ := list2 hl2
    rw [e2, e3, cr] at h1
    obtain ⟨x, y, e, hx, hy, rfl⟩ := lits_arr hu hr cq cr (l := [a, b]) h1
    cases e
    exact ⟨x, y, rfl, hx, hy, by simp⟩
  · cases h
theorem key_lab_inv {v : Value} {kl : Lit} (h : keyOf Tryz.prog 134 v = some kl) : ∃ p : Int × Int, v = labV p.1 p.2 ∧ (Lit.int .u64 p.1).wf = true ∧ (Lit.int .u64 p.2).wf = true ∧ kl = labK p.1 p.2 := by
  obtain ⟨xs, L, rfl, hL, rfl⟩ := keyOf_top (by kernel_rfl) h
  obtain ⟨m, hm⟩ := types3
  rw [hm] at hL
  obtain ⟨x, y, e, hx, hy, rfl⟩ := lab_inv Tryz.underlying77 Tryz.underlying78 cellsU64 cellsArr cellsLab Tryz.underlying134 ⟨_, rfl, rfl, rfl⟩ hL
  obtain ⟨l⟩ := xs
  simp only at e
  subst e
  exact ⟨(x, y), rfl, hx, hy, rfl⟩
theorem labK_inj {x y a b : Int} (hx : (Lit.int .u64 x).wf = true) (hy : (Lit.int .u64 y).wf = true) (ha : (Lit.int .u64 a).wf = true) (hb : (Lit.int .u64 b).wf = true) (h : labK x y = labK a b) : x = a ∧ y = b := by
  have := lawLab.inj (key_lab hx hy) (h ▸ key_lab ha hb)
  simpa using this
theorem wf64 {n : Nat} (h : n < 18446744073709551616) : (Lit.int .u64 (n : Int)).wf = true := by
  have e1 : IntKind.u64.min = 0 := by decide
  have e2 : IntKind.u64.max = 18446744073709551615 := by decide
  simp only [Lit.wf, e1, e2, Bool.and_eq_true, decide_eq_true_eq]
  omega

/-- the label of a name -/
def labOf (s : ByteArray) : Int × Int := ((nm 8 s.data.toList : Nat), (nm 8 (s.data.toList.drop 8) : Nat))
theorem labOf_wf (s : ByteArray) : (Lit.int .u64 (labOf s).1).wf = true ∧ (Lit.int .u64 (labOf s).2).wf = true := ⟨wf64 (nm_lt8 _), wf64 (nm_lt8 _)⟩
def labL (s : ByteArray) : Lit := labK (labOf s).1 (labOf s).2

/-- block b is a map that has just the labels of these names -/
def LabSet (w : World) (b : Nat) (L : List ByteArray) : Prop := ∃ D : DataW Unit, w.ownsMap Tryz.prog 134 unitElem b L.length D ∧
  ∀ x y, (Lit.int .u64 x).wf = true → (Lit.int .u64 y).wf = true → (has D (labK x y) = true ↔ ∃ s ∈ L, (x, y) = labOf s)
theorem LabSet.lt {w : World} {b : Nat} {L : List ByteArray} (h : LabSet w b L) : b < w.heap.size := by obtain ⟨D, h, _⟩ := h; exact h.lt
theorem LabSet.keep {w w' : World} {b : Nat} {L : List ByteArray} (h : LabSet w b L) (e : w'.heap[b]? = w.heap[b]?) : LabSet w' b L := by
  obtain ⟨D, ⟨es, clock, hb, F, hs, hD⟩, h2⟩ := h
  exact ⟨D, ⟨es, clock, e.trans hb, F, hs, hD⟩, h2⟩
theorem LabSet.ext {w w' : World} {b : Nat} {L : List ByteArray} (h : LabSet w b L) (k : Ext w w') : LabSet w' b L := h.keep (k.block b h.lt)
theorem LabSet.made (w : World) : LabSet (w.alloc (.map #[] 0)) w.heap.size [] := ⟨_, World.ownsMap_made w _ _ _, fun x y _ _ => by simp [has]⟩
theorem LabSet.put {w : World} {b : Nat} {L : List ByteArray} {D : DataW Unit} {s : ByteArray} (hm : IsMap D)
    (h : ∀ x y, (Lit.int .u64 x).wf = true → (Lit.int .u64 y).wf = true → (has D (labK x y) = true ↔ ∃ s ∈ L, (x, y) = labOf s))
    (hown : w.ownsMap Tryz.prog 134 unitElem b (L.length + 1) (D.put (labL s) (.agg []))) : LabSet w b (L ++ [s]) := by
  refine ⟨_, by simpa using hown, fun x y hx hy => ?_⟩
  obtain ⟨ws, wt⟩ := labOf_wf s
  by_cases e : labK x y = labL s
  · obtain ⟨e1, e2⟩ := labK_inj hx hy ws wt e
    rw [e, has_put_same hm (lawLab.str (key_lab ws wt) |>.elim fun _ e => by rw [show labL s = _ from e]; trivial)]
    simp only [true_iff]
    exact ⟨s, by simp, by rw [e1, e2]⟩
  · rw [has_put_other e, h x y hx hy]
    constructor
    · rintro ⟨t, ht, e'⟩; exact ⟨t, by simp [ht], e'⟩
    · rintro ⟨t, ht, e'⟩
      rcases List.mem_append.1 ht with h' | h'
      · exact ⟨t, h', e'⟩
      · simp only [List.mem_singleton] at h'
        subst h'
        exact absurd (by unfold labL; rw [← e']) e
/-- a map's block has no cells -/
theorem LabSet.noCell {w : World} {b : Nat} {L : List ByteArray} (h : LabSet w b L) {p : Addr} {v : Value} (hc : w.cell? p = some v) : p.block ≠ b := by
  intro e
  obtain ⟨D, ⟨es, clock, hb, _⟩, _⟩ := h
  obtain ⟨bl, o, s⟩ := p
  simp only at e
  subst e
  simp [World.cell?, hb] at hc

theorem RowAt.chg {w w' : World} {F : Nat → Prop} {ts : List Tm} {A : Option Addr} {g : Nat → Option Addr} {d : Nat → Nat} (h : RowAt w ts A g d) (k : Chg F w w') (hn : ∀ {p : Addr} {v : Value}, w.cell? p = some v → ¬ F p.block) : RowAt w' ts A g d := by
  intro i hi
  obtain ⟨b, o, e, h0, h1, h2, h3⟩ := h i hi
  exact ⟨b, o, e, k.cell h0 (hn h0), k.cell h1 (hn h1), k.cell h2 (hn h2), k.cell h3 (hn h3)⟩
theorem TmAt.chg {w w' : World} {F : Nat → Prop} {t : Tm} {A : Option Addr} {c : Nat} (h : TmAt w t A c) (k : Chg F w w') (hn : ∀ {p : Addr} {v : Value}, w.cell? p = some v → ¬ F p.block) : TmAt w' t A c := by
  induction h with
  | mk t A c g d fits cap row sub ih => exact .mk t A c g d fits cap (row.chg k hn) ih
theorem Chg.of_grown {w w' : World} {b : Nat} (h : w.grownBy w' (some b)) : Chg (· = b) w w' := ⟨h.os, h.tape, h.output, h.size, fun i hi hne => h.block i hi (fun e => hne (by injection e))⟩
end Go.Proofs.YtkdhpifjljkpfaaGreat
