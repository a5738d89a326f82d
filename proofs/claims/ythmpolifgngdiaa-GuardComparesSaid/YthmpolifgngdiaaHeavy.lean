/- What is not too heavy is not deep, and its texts are short. -/
import Derived.Test.YthmpolifgngdiaaWb
import Derived.Test.YthmpolifgngdiaaMB
namespace Go.Proofs.Ythmpolifgngdiaa

theorem weightL_ge (d : Nat) (h : ∀ t : Tm, 1 ≤ weightT t d) : ∀ (ts : List Tm) (n : Int), n ≤ weightL ts d n
  | [], n => by simp [weightL]
  | t :: ts, n => by
    rw [weightL]
    split
    · have := weightL_ge d h ts (n + weightT t d); have := h t; omega
    · omega
theorem weightT_pos (d : Nat) : ∀ t : Tm, 1 ≤ weightT t d := by
  induction d with
  | zero => intro t; obtain ⟨k, s, n, l⟩ := t; simp [weightT]
  | succ d ih =>
    intro t
    obtain ⟨k, s, n, l⟩ := t
    rw [weightT]
    have := weightL_ge d ih l (1 + s.size)
    omega
end Go.Proofs.Ythmpolifgngdiaa
