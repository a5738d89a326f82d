/- Facts as keys of a map: the key's law; a map of Seqs. -/
import Derived.Test.YtcfhokejfibgoaaFkd
namespace Go.Proofs.Ytcfhokejfibgoaa
open Go.RowKit Go.Maps

theorem lawFk : WideMaps.KeyLaw Try.prog 68 := deep_law_laid laidOutK (m := 6) (by omega) (of_decide_eq_true (by kernel_rfl)) (by kernel_rfl) (by kernel_rfl)
theorem keyedFk : Keyed Try.prog 68 := Keyed.of_law lawFk
theorem cellsFk : Try.prog.cellsOf 68 = 74 := by kernel_rfl
theorem cellsPart : Try.prog.cellsOf 65 = 3 := by kernel_rfl
theorem cellsParts : Try.prog.cellsOf 66 = 72 := by kernel_rfl
theorem cellsSpan : Try.prog.cellsOf 35 = 2 := by kernel_rfl
theorem cellsI : Try.prog.cellsOf 3 = 1 := by kernel_rfl
theorem keyTypeFk : Try.prog.keyType 68 = true := by kernel_rfl
theorem types6 : ∃ m, Try.prog.types.size = m + 5 := ⟨Try.prog.types.size - 5, by have : 5 ≤ Try.prog.types.size := of_decide_eq_true (by kernel_rfl); omega⟩
def wf3 (p : Pr3) : Prop := p.1 < 18446744073709551616 ∧ p.2.1 < 18446744073709551616 ∧ (Lit.int .i64 p.2.2).wf = true

theorem mapM_is {α β : Type} (f : α → Option β) : ∀ l : List α, (∀ x ∈ l, ∃ y, f x = some y) → ∃ ys, l.mapM f = some ys
  | [], _ => ⟨[], rfl⟩
  | a :: r, h => by
    obtain ⟨y, hy⟩ := h a (by simp)
    obtain ⟨ys, hys⟩ := mapM_is f r (fun x hx => h x (by simp [hx]))
    exact ⟨y :: ys, by rw [List.mapM_cons, hy]; show (r.mapM f).bind _ = _; rw [hys]; rfl⟩
theorem lits_i {P : Program} {q : TypeId} {k : IntKind} (hu : P.underlying q = some (.int k)) (d : Nat) {n : Int} (h : (Lit.int k n).wf = true) : P.keyLits (d + 1) q [.int k n] = some [.int k n] := by
  unfold Program.keyLits
  rw [hu]
  simp [h]
theorem is_part {p : Pr3} (h : wf3 p) (d : Nat) : ∃ L, Try.prog.keyLits (d + 3) 65 (c3 p) = some L := by
  have g0 := lits_i (P := Try.prog) Try.underlying62 d (wf64 h.1)
  have g1 := lits_i (P := Try.prog) Try.underlying62 d (wf64 h.2.1)
  have g2 := lits_i (P := Try.prog) Try.underlying3 (d + 1) h.2.2
  refine ⟨[.int .u64 (p.1 : Int), .int .u64 (p.2.1 : Int), .int .i64 p.2.2], ?_⟩
  simp [Program.keyLits, Try.underlying65, Try.underlying63, Try.underlying62, Try.underlying3, cellsPart, cellsArr, cellsU64, cellsI, c3, show List.range 2 = [0, 1] from rfl, wf64 h.1, wf64 h.2.1, h.2.2]
theorem is_parts {X : List Pr3} {tl : List Value} (hl : X.length = 24) (h : ∀ p ∈ X, wf3 p) (d : Nat) : ∃ L, Try.prog.keyLits (d + 4) 66 ((cellsP X ++ tl).take 72) = some L := by
  have e : (cellsP X ++ tl).take 72 = cellsP X := by rw [List.take_append_of_le_length (by rw [cellsP_len, hl]; exact Nat.le_refl _), List.take_of_length_le (by rw [cellsP_len, hl]; exact Nat.le_refl _)]
  rw [e]
  unfold Program.keyLits
  rw [Try.underlying66]
  simp only
  rw [if_pos (by rw [cellsP_len, hl, cellsParts]), cellsPart]
  obtain ⟨ys, hy⟩ := mapM_is (fun i => Try.prog.keyLits (d + 3) 65 (((cellsP X).drop (i * 3)).take 3)) (List.range 24) (fun i hi => by
    have hi' : i < X.length := by rw [hl]; simpa using hi
    have := cellsP_at [] hi'
    rw [List.append_nil] at this
    simp only [this]
    exact is_part (h _ (List.getElem_mem hi')) d)
  exact ⟨ys.flatten, by rw [hy]; rfl⟩
theorem two_fields {P : Program} {q r k : TypeId} {o : Nat} {fs : Array Field} {d : Nat} {cs : List Value} (hk : P.underlying k = some (.struct fs)) (hf : ∃ f0 f1 : Field, fs.toList = [f0, f1] ∧ f0.offset = 0 ∧ f0.type = q ∧ f1.offset = o ∧ f1.type = r) (hn : fs.all (·.name != "_") = true)
    (ck : cs.length = P.cellsOf k) (h0 : ∃ L, P.keyLits d q ((cs.drop 0).take (P.cellsOf q)) = some L) (h1 : ∃ L, P.keyLits d r ((cs.drop o).take (P.cellsOf r)) = some L) : ∃ L, P.keyLits (d + 1) k cs = some L := by
  obtain ⟨f0, f1, e, o0, t0, o1, t1⟩ := hf
  obtain ⟨L0, h0⟩ := h0
  obtain ⟨L1, h1⟩ := h1
  unfold Program.keyLits
  rw [hk]
  simp only
  rw [if_pos ⟨ck, hn⟩, e]
  rw [List.mapM_cons, List.mapM_cons, List.mapM_nil, o0, o1, t0, t1, h0, h1]
  exact ⟨_, rfl⟩
theorem is_key {ps : List Pr3} {f u : Int} (hl : ps.length ≤ 24) (h : ∀ p ∈ ps, wf3 p) (hf : (Lit.int .i64 f).wf = true) (hu : (Lit.int .i64 u).wf = true) : ∃ s, keyOf Try.prog 68 (.agg (keyCs ps f u).toArray) = some (.string s) := by
  obtain ⟨m, hm⟩ := types6
  have hx : ∀ p ∈ padP ps, wf3 p := fun p hp => by
    rcases List.mem_append.1 hp with h1 | h1
    · exact h p h1
    · rw [List.eq_of_mem_replicate h1]; exact ⟨by decide, by decide, by decide⟩
  obtain ⟨L1, h1⟩ := is_parts (tl := [.int .i64 f, .int .i64 u]) (padP_len hl) hx (m + 1)
  have h2 : Try.prog.keyLits (m + 5) 35 [.int .i64 f, .int .i64 u] = some [.int .i64 f, .int .i64 u] := by
    simp [Program.keyLits, Try.underlying35, Try.underlying3, cellsSpan, cellsI, hf, hu]
  have hlen : (keyCs ps f u).length = 74 := keyCs_len _ _ _
  have hc1 : ((keyCs ps f u).drop 0).take 72 = (cellsP (padP ps) ++ [Value.int .i64 f, Value.int .i64 u]).take 72 := by rw [keyCs_eq hl, List.drop_zero]
  have hc2 : ((keyCs ps f u).drop 72).take 2 = [Value.int .i64 f, Value.int .i64 u] := by
    rw [keyCs_eq hl, List.drop_append_of_le_length (by rw [cellsP_len, padP_len hl]; exact Nat.le_refl _), List.drop_of_length_le (by rw [cellsP_len, padP_len hl]; exact Nat.le_refl _)]
    rfl
  have h3 : ∃ L, Try.prog.keyLits (m + 6) 68 (keyCs ps f u) = some L :=
    two_fields Try.underlying68 ⟨_, _, rfl, rfl, rfl, rfl, rfl⟩ (by decide +kernel) (by rw [hlen, cellsFk]) ⟨L1, by rw [cellsParts, hc1]; exact h1⟩ ⟨_, by rw [cellsSpan, hc2]; exact h2⟩
  obtain ⟨L, h3⟩ := h3
  refine ⟨keyBytes L, ?_⟩
  unfold keyOf
  simp only [Try.underlying68]
  rw [if_pos (by simp [keyTypeFk, Value.formed, Try.underlying68, cellsFk, hlen]), hm]
  have e : (Value.agg (keyCs ps f u).toArray).cells.toList = keyCs ps f u := by simp [Value.cells]
  rw [e, h3]
  rfl
end Go.Proofs.Ytcfhokejfibgoaa
