/- What is not too heavy is not deep, and its texts are short. -/
import Derived.Test.YtkdhpifjljkpfaaGreatWb
import Derived.Test.YtkdhpifjljkpfaaGreatGrd
namespace Go.Proofs.YtkdhpifjljkpfaaGreat

theorem weightL_ge (d : Nat) (h : ∀ t : Tm, 1 ≤ weightT t d) : ∀ (ts : List Tm) (n : Int), n ≤ weightL ts d n
  | [], n => by simp [weightL]
  | t :: ts, n => by
    rw [weightL]
    split
    · have := weightL_ge d h ts (n + weightT t d); have := h t; omega
    · omega
theorem weightT_pos (d : Nat) : ∀ t : Tm, 1 ≤ weightT t d := by
  induction d with
  | zero => intro t; obtain ⟨k, s, n, l⟩ := t; simp [weightT]
  | succ d ih =>
    intro t
    obtain ⟨k, s, n, l⟩ := t
    rw [weightT]
    have := weightL_ge d ih l (1 + s.size)
    omega
theorem weightL_each (d : Nat) : ∀ (ts : List Tm) (n : Int), 0 ≤ n → weightL ts d n ≤ 2500 → ∀ t ∈ ts, weightT t d ≤ 2500
  | a :: ts, n, h0, h, t, ht => by
    have hp := weightT_pos d a
    have hn : n < 1048576 := by
      have := weightL_ge d (weightT_pos d) (a :: ts) n
      omega
    rw [weightL, if_pos hn] at h
    have hge := weightL_ge d (weightT_pos d) ts (n + weightT a d)
    rcases List.mem_cons.1 ht with e | e
    · subst e; omega
    · exact weightL_each d ts (n + weightT a d) (by omega) h t e
theorem weight_high (d : Nat) : ∀ t : Tm, weightT t d ≤ 2500 → t.high ≤ d := by
  induction d with
  | zero => intro t h; obtain ⟨k, s, n, l⟩ := t; simp [weightT] at h
  | succ d ih =>
    intro t h
    obtain ⟨k, s, n, l⟩ := t
    rw [weightT] at h
    have he := weightL_each d l (1 + s.size) (by omega) h
    have hl : ∀ ts : List Tm, (∀ t ∈ ts, t.high ≤ d) → highs ts ≤ d := by
      intro ts
      induction ts with
      | nil => intro _; simp [highs]
      | cons a r ih2 => intro hh; rw [highs]; have := hh a (by simp); have := ih2 (fun x hx => hh x (by simp [hx])); omega
    have := hl l (fun x hx => ih x (he x hx))
    rw [Tm.high]; omega
theorem textsL_ge : ∀ (ss : List ByteArray) (n : Int), n ≤ textsL ss n
  | [], n => by simp [textsL]
  | s :: ss, n => by
    rw [textsL]
    split
    · have := textsL_ge ss (n + s.size); omega
    · omega
theorem textsL_each : ∀ (ss : List ByteArray) (n : Int), 0 ≤ n → textsL ss n ≤ 2000 → ∀ s ∈ ss, s.size ≤ 2000
  | a :: ss, n, h0, h, s, hs => by
    have hn : n < 1048576 := by
      have := textsL_ge (a :: ss) n
      omega
    rw [textsL, if_pos hn] at h
    have hge := textsL_ge ss (n + a.size)
    rcases List.mem_cons.1 hs with e | e
    · subst e; omega
    · exact textsL_each ss (n + a.size) (by omega) h s e

theorem light {ts : List Tm} {ss : List ByteArray} (h : heavyB ts ss = false) : (∀ t ∈ ts, t.high ≤ 30) ∧ ts.length ≤ 2500 ∧ ss.length ≤ 2000 ∧ ∀ s ∈ ss, s.size ≤ 2000 := by
  simp only [heavyB, Bool.or_eq_false_iff, decide_eq_false_iff_not] at h
  have h1 := weightL_ge 30 (weightT_pos 30) ts ts.length
  have h2 := textsL_ge ss ss.length
  exact ⟨fun t ht => weight_high 30 t (weightL_each 30 ts ts.length (by omega) (by omega) t ht), by omega, by omega, textsL_each ss ss.length (by omega) (by omega)⟩
end Go.Proofs.YtkdhpifjljkpfaaGreat
