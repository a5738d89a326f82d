/- How deep and how large a term is (pure), for seats that have no Depth and Size. -/
import Derived.Test.YtkdhpifjljkpfaaGreatWc
namespace Go.Proofs.YtkdhpifjljkpfaaGreat
open Go.RowKit

theorem high_pos (t : Tm) : 1 ≤ t.high := by obtain ⟨k, s, n, l⟩ := t; simp only [Tm.high]; omega

/-- the box of a term -/
abbrev boxT (w : World) (t : Tm) (A : Option Addr) (c : Nat) : World := w.alloc (.cells #[.int .i64 t.kind, .string t.name, .int .i64 t.n, .slice A t.args.length c] 40)

def depthL : List Tm → Int → Int
  | [], m => m
  | t :: ts, m => depthL ts (max m t.high)
theorem depthL_eq : ∀ (ts : List Tm) (m : Int), 0 ≤ m → depthL ts m = max m (highs ts)
  | [], m, h => by simp [depthL, highs]; omega
  | t :: ts, m, h => by rw [depthL, depthL_eq ts _ (by omega), highs]; omega

theorem max_if (a b : Int) : (if a < b then b else a) = max a b := by split <;> omega

mutual
def sizeT : Tm → Int
  | ⟨_, _, _, l⟩ => sizeL l 1
def sizeL : List Tm → Int → Int
  | [], n => n
  | t :: ts, n => sizeL ts (n + sizeT t)
end
theorem size_pos (hh : Nat) : ∀ t : Tm, t.high ≤ hh → 1 ≤ sizeT t := by
  have step : ∀ hh : Nat, (∀ t : Tm, t.high ≤ hh → 1 ≤ sizeT t) → ∀ (ts : List Tm) (n : Int), highs ts ≤ hh → n ≤ sizeL ts n := by
    intro hh h ts
    induction ts with
    | nil => intro n _; simp [sizeL]
    | cons t ts ih =>
      intro n hn
      simp only [highs] at hn
      have h1 := h t (by omega)
      have h2 := ih (n + sizeT t) (by omega)
      rw [sizeL]; omega
  induction hh with
  | zero => intro t h; have := high_pos t; omega
  | succ hh ih =>
    intro t ht
    obtain ⟨k, s, n, l⟩ := t
    simp only [Tm.high] at ht
    rw [sizeT]
    exact step hh ih l 1 (by omega)
theorem sizeL_ge : ∀ (ts : List Tm) (n : Int), n ≤ sizeL ts n
  | [], n => by simp [sizeL]
  | t :: ts, n => by
    have h1 := size_pos t.high t (Nat.le_refl _)
    have h2 := sizeL_ge ts (n + sizeT t)
    rw [sizeL]; omega

theorem fits_of (d : Nat) : (∀ (t : Tm) (L : Int), (fitsT t d L).1 = true → t.high ≤ d ∧ sizeT t = L - (fitsT t d L).2) ∧
    ∀ (ts : List Tm) (L n : Int), (fitsL ts d L).1 = true → highs ts ≤ d ∧ sizeL ts n = n + (L - (fitsL ts d L).2) := by
  have step : ∀ d : Nat, (∀ (t : Tm) (L : Int), (fitsT t d L).1 = true → t.high ≤ d ∧ sizeT t = L - (fitsT t d L).2) →
      ∀ (ts : List Tm) (L n : Int), (fitsL ts d L).1 = true → highs ts ≤ d ∧ sizeL ts n = n + (L - (fitsL ts d L).2) := by
    intro d h ts
    induction ts with
    | nil => intro L n _; simp [fitsL, sizeL, highs]
    | cons t ts ih =>
      intro L n hf
      by_cases ht : (fitsT t d L).1 = true
      · have h1 := h t L ht
        rw [fitsL, if_pos ht] at hf ⊢
        have h2 := ih (fitsT t d L).2 (n + sizeT t) hf
        rw [sizeL, highs]
        omega
      · rw [fitsL, if_neg ht] at hf
        cases hf
  induction d with
  | zero =>
    have h0 : ∀ (t : Tm) (L : Int), (fitsT t 0 L).1 = true → t.high ≤ 0 ∧ sizeT t = L - (fitsT t 0 L).2 := fun t L h => by obtain ⟨k, s, n, l⟩ := t; simp [fitsT] at h
    exact ⟨h0, step 0 h0⟩
  | succ d ih =>
    have h0 : ∀ (t : Tm) (L : Int), (fitsT t (d + 1) L).1 = true → t.high ≤ d + 1 ∧ sizeT t = L - (fitsT t (d + 1) L).2 := by
      intro t L h
      obtain ⟨k, s, n, l⟩ := t
      by_cases hL : L = 0
      · rw [fitsT, if_pos hL] at h; cases h
      · by_cases hp : plainB ⟨k, s, n, l⟩ = true
        · rw [fitsT, if_neg hL, if_pos hp] at h ⊢
          have := ih.2 l (L - 1) 1 h
          rw [sizeT, Tm.high]
          omega
        · rw [fitsT, if_neg hL, if_neg hp] at h; cases h
    exact ⟨h0, step (d + 1) h0⟩
theorem may_high {t : Tm} (h : mayB t = true) : t.high ≤ 5 := ((fits_of 5).1 t 24 h).1
theorem may_size {t : Tm} (h : mayB t = true) : sizeT t ≤ 24 := by
  have h1 := ((fits_of 5).1 t 24 h).2
  have h2 := (fits_bd 5).1 t 24 (by omega)
  omega

end Go.Proofs.YtkdhpifjljkpfaaGreat
