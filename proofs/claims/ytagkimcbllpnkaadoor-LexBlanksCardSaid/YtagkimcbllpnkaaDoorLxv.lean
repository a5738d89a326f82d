/- Package lex: Tokens. -/
import Derived.Test.YtagkimcbllpnkaaDoorLxu
import Derived.Maps.AppendAt
import Derived.Laws.MakeOwn
namespace Go.Proofs.YtagkimcbllpnkaaDoor
open Go.RowKit Go.Maps

/-- a word's four cells -/
def Tok.cells (t : Tok) : List Value := [.int .i64 t.kind, .string t.text, .int .i64 t.n, .int .i64 t.at_]
def tokCells : List Tok → List Value
  | [] => []
  | t :: r => t.cells ++ tokCells r
theorem tokCells_len : ∀ ts : List Tok, (tokCells ts).length = ts.length * 4
  | [] => rfl
  | t :: r => by rw [tokCells, List.length_append, tokCells_len r, Tok.cells, List.length_cons]; simp; omega
theorem tokCells_snoc : ∀ (ts : List Tok) (t : Tok), tokCells (ts ++ [t]) = tokCells ts ++ t.cells
  | [], t => by simp [tokCells]
  | a :: r, t => by rw [List.cons_append, tokCells, tokCells_snoc r t, tokCells, List.append_assoc]
theorem tokCells_at : ∀ (ts : List Tok) (i j : Nat) (h : i < ts.length), j < 4 → (tokCells ts)[i * 4 + j]? = ts[i].cells[j]?
  | t :: r, 0, j, _, hj => by
    rw [tokCells, List.getElem?_append_left (by simp [Tok.cells]; omega)]
    simp
  | t :: r, i + 1, j, h, hj => by
    rw [tokCells, List.getElem?_append_right (by simp [Tok.cells]; omega)]
    have e : (i + 1) * 4 + j - t.cells.length = i * 4 + j := by simp [Tok.cells]; omega
    rw [e, tokCells_at r i j (by simpa using h) hj]
    simp
theorem Tok.one (t : Tok) : ∀ u ∈ t.cells, u.oneCell' = true := by
  intro u hu
  simp only [Tok.cells, List.mem_cons, List.not_mem_nil, or_false] at hu
  rcases hu with rfl | rfl | rfl | rfl <;> rfl
theorem infoTok : (Tryd.prog.info? 37).map (fun i => (i.zero, i.size, i.bytes)) = some (some (.agg #[.int .i64 0, .string ⟨#[]⟩, .int .i64 0, .int .i64 0]), 4, 40) := by kernel_rfl

theorem Ext.grown {w w' : World} (h : Ext w w') : w.grownBy w' none := ⟨h.os, h.tape, h.output, h.size, fun i hi _ => h.block i hi⟩
theorem ownsRow_ext {w w' : World} {base : Nat} {e : TypeId} {size : Nat} {v : Value} {n : Nat} {xs : List Value} (h : w.ownsRow base e size v n xs) (k : Ext w w') : w'.ownsRow base e size v n xs := by
  refine h.kept k.grown ?_
  rcases h.2 with ⟨rfl, _⟩ | ⟨g, cap, cur, rfl, _⟩
  · exact .inl rfl
  · exact .inr (by simp [Value.ownBlock])
theorem ownsRow_chg {w w' : World} {base g : Nat} {e : TypeId} {size : Nat} {v : Value} {n : Nat} {xs : List Value} (h : w.ownsRow base e size v n xs) (k : Chg (· = g) w w') (hg : g < base) : w'.ownsRow base e size v n xs := by
  refine h.kept (row := some g) ⟨k.os, k.tape, k.output, k.size, fun i hi hne => k.block i hi (fun e => hne (by rw [e]))⟩ ?_
  rcases h.2 with ⟨rfl, _⟩ | ⟨b, cap, cur, rfl, hb, _⟩
  · exact .inl rfl
  · refine .inr ?_
    have := (h.lt b (by simp [Value.ownBlock])).1
    simp [Value.ownBlock]
    omega
theorem Chg.own {F : Nat → Prop} {w1 w w' : World} {base : Nat} {e : TypeId} {size : Nat} {v : Value} {n : Nat} {xs : List Value} (k : Chg F w1 w) (h : w.ownsRow base e size v n xs) (hb : w1.heap.size ≤ base) (g : w.grownBy w' v.ownBlock) : Chg F w1 w' :=
  ⟨g.os.trans k.os, g.tape.trans k.tape, g.output.trans k.output, Nat.le_trans k.size g.size, fun i hi hf => (g.block i (Nat.lt_of_lt_of_le hi k.size) (fun e => by have := (h.lt i e.symm).1; omega)).trans (k.block i hi hf)⟩

theorem Ext.own {w1 w w' : World} {base : Nat} {e : TypeId} {size : Nat} {v : Value} {n : Nat} {xs : List Value} (k : Ext w1 w) (h : w.ownsRow base e size v n xs) (hb : w1.heap.size ≤ base) (g : w.grownBy w' v.ownBlock) : Ext w1 w' :=
  Below.grown k g k.size (fun i hi => Nat.le_trans hb (h.lt i hi).1)

/-- what is told, with what was told ahead of it -/
def joinT (ts : List Tok) (r : Sum (Int × Int) (List Tok)) : Sum (Int × Int) (List Tok) := match r with
  | .inl e => .inl e
  | .inr l => .inr (ts ++ l)

theorem tokL_err {l : List UInt8} {x : Int} (h : tokL l = .inl x) : x = 2 ∨ x = 4 := by
  cases l with
  | nil => simp only [tokL] at h; cases h; exact .inr rfl
  | cons c r =>
    simp only [tokL] at h
    split at h
    · split at h
      · cases h
      · cases h; exact .inl rfl
    · split at h
      · split at h
        · cases h
        · cases h; exact .inl rfl
      · split at h
        · split at h
          · cases h
          · cases h; exact .inl rfl
        · split at h
          · cases h
          · split at h
            · cases h
            · cases h; exact .inr rfl

/-- what stands at a place -/
theorem toks_bad {s : ByteArray} {j : Nat} {x : Int} {ts : List Tok} (hj : j < s.size) (hp : passL false (lft s j) = lft s j) (hR : tokenR s j = .inl x) (hJ : joinT ts (toksL s.size (lft s j)) = toksL s.size (lft s 0)) :
    toksL s.size (lft s 0) = .inl ((j : Int), x) ∧ (x = 2 ∨ x = 4) := by
  have h := token_same hj
  rw [hR] at h
  have hc := lft_cons s j hj
  have h' : tokL (lft s j) = .inl x := h
  refine ⟨?_, tokL_err h'⟩
  have hl := lft_len s j
  rw [hc] at hp h' hl
  rw [← hJ, hc, toksL_bad hp h', hl]
  simp only [joinT]
  congr 2
  omega
theorem toks_go {s : ByteArray} {j j' i : Nat} {t : Tok} {ts : List Tok} (hj : j < s.size) (hp : passL false (lft s j) = lft s j) (hR : tokenR s j = .inr (t, j')) (hi : lft s i = passL false (lft s j')) (hJ : joinT ts (toksL s.size (lft s j)) = toksL s.size (lft s 0)) :
    joinT (ts ++ [{ t with at_ := (j : Int) }]) (toksL s.size (lft s i)) = toksL s.size (lft s 0) ∧ j < j' ∧ j' ≤ s.size ∧ passL false (lft s i) = lft s i := by
  have h := token_same hj
  rw [hR] at h
  obtain ⟨h1, h2, h3⟩ := h
  have hc := lft_cons s j hj
  have hl := lft_len s j
  have hpp : passL false (lft s i) = lft s i := by rw [hi]; exact passL_twice _ _
  refine ⟨?_, h1, h2, hpp⟩
  rw [hi, toksL_pass, ← hJ]
  rw [hc] at hp h3 hl
  rw [hc, toksL_go hp h3, hl]
  have : s.size - (s.size - j) = j := by omega
  rw [this]
  cases toksL s.size (lft s j') with
  | inl e => rfl
  | inr r => simp [joinT]
theorem toks_end {s : ByteArray} {j : Nat} {ts : List Tok} (hj : s.size ≤ j) (hJ : joinT ts (toksL s.size (lft s j)) = toksL s.size (lft s 0)) : toksL s.size (lft s 0) = .inr (ts ++ [⟨5, ⟨#[]⟩, 0, (s.size : Nat)⟩]) := by
  have h0 : lft s j = [] := List.drop_eq_nil_of_le (by simpa using hj)
  rw [← hJ, h0, toksL_nil rfl]
  rfl
end Go.Proofs.YtagkimcbllpnkaaDoor
