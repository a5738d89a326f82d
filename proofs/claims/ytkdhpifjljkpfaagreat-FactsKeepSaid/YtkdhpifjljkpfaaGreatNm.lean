/- Names as numbers: the words of a label, and that they rise as the names do. -/
import Derived.WalkKit
namespace Go.Proofs.YtkdhpifjljkpfaaGreat

/-- so many bytes as one number, the first one highest; none: 0 -/
def nm : Nat → List UInt8 → Nat
  | 0, _ => 0
  | _ + 1, [] => 0
  | m + 1, b :: l => b.toNat * 256 ^ m + nm m l

theorem byte_lt (b : UInt8) : b.toNat < 256 := by have := b.toNat_lt; omega

theorem nm_lt : ∀ (m : Nat) (l : List UInt8), nm m l < 256 ^ m
  | 0, _ => by simp [nm]
  | m + 1, [] => by simp only [nm]; exact Nat.pow_pos (by omega)
  | m + 1, b :: l => by
    have h1 := nm_lt m l
    have h2 := byte_lt b
    have h3 : b.toNat * 256 ^ m ≤ 255 * 256 ^ m := Nat.mul_le_mul_right _ (by omega)
    simp only [nm, Nat.pow_succ]
    omega
theorem nm_lt8 (l : List UInt8) : nm 8 l < 18446744073709551616 := by have := nm_lt 8 l; omega

theorem nm_nil (m : Nat) : nm m [] = 0 := by cases m <;> rfl

theorem nm_snoc : ∀ (m : Nat) (l : List UInt8) (b : UInt8), l.length < m → nm m (l ++ [b]) = nm m l + b.toNat * 256 ^ (m - 1 - l.length)
  | 0, _, _, h => by omega
  | m + 1, [], b, _ => by simp [nm, nm_nil]
  | m + 1, a :: l, b, h => by
    have := nm_snoc m l b (by simpa using h)
    simp only [List.cons_append, nm, this, List.length_cons]
    have e : m + 1 - 1 - (l.length + 1) = m - 1 - l.length := by omega
    rw [e]; omega
theorem nm_dvd : ∀ (m : Nat) (l : List UInt8), l.length ≤ m → 256 ^ (m - l.length) ∣ nm m l
  | 0, _, _ => by simp [nm]
  | m + 1, [], _ => by simp [nm]
  | m + 1, a :: l, h => by
    have h1 := nm_dvd m l (by simpa using h)
    simp only [nm, List.length_cons]
    have e : m + 1 - (l.length + 1) = m - l.length := by omega
    rw [e]
    exact Nat.dvd_add (Nat.dvd_mul_left_of_dvd (Nat.pow_dvd_pow 256 (by omega)) _) h1

theorem or_add (p x y : Nat) (hx : 2 ^ p ∣ x) (hy : y < 2 ^ p) : x ||| y = x + y := by
  obtain ⟨q, rfl⟩ := hx
  exact (Nat.two_pow_add_eq_or_of_lt hy q).symm

/-- one byte more -/
theorem nm_or (m : Nat) (l : List UInt8) (b : UInt8) (h : l.length < m) : nm m l ||| b.toNat * 2 ^ (8 * (m - 1 - l.length)) = nm m (l ++ [b]) := by
  have e : (2 : Nat) ^ (8 * (m - 1 - l.length)) = 256 ^ (m - 1 - l.length) := by rw [Nat.pow_mul]
  have h1 := nm_dvd m l (by omega)
  have e2 : (256 : Nat) ^ (m - l.length) = 2 ^ (8 * (m - l.length)) := by rw [Nat.pow_mul]
  rw [e2] at h1
  have h2 := byte_lt b
  have e3 : (2 : Nat) ^ (8 * (m - l.length)) = 256 * 256 ^ (m - 1 - l.length) := by
    rw [← e2, show m - l.length = (m - 1 - l.length) + 1 by omega, Nat.pow_succ]; omega
  rw [or_add _ _ _ h1 (by rw [e, e3]; exact Nat.mul_lt_mul_of_pos_right h2 (Nat.pow_pos (by omega))), nm_snoc m l b h, e]

theorem nm_app : ∀ (m : Nat) (l r : List UInt8), m ≤ l.length → nm m (l ++ r) = nm m l
  | 0, _, _, _ => by simp [nm]
  | m + 1, [], _, h => by simp at h
  | m + 1, a :: l, r, h => by simp only [List.cons_append, nm]; rw [nm_app m l r (by simpa using h)]

/-- the word with a byte at its place, as the machine reckons it -/
theorem word_or (X k : Nat) (b : UInt8) (hX : X < 18446744073709551616) :
    bits .or .u64 (X : Int) (IntKind.u64.wrap (IntKind.u64.wrap (b.toNat : Int) * 2 ^ (8 * ((7 - k % 8 : Nat) : Int)).toNat)) = ((X ||| b.toNat * 2 ^ (8 * (7 - k % 8)) : Nat) : Int) := by
  have hb := byte_lt b
  have e : (8 * ((7 - k % 8 : Nat) : Int)).toNat = 8 * (7 - k % 8) := by omega
  have hp : b.toNat * 2 ^ (8 * (7 - k % 8)) < 18446744073709551616 := by
    have h1 : (2 : Nat) ^ (8 * (7 - k % 8)) ≤ 2 ^ 56 := Nat.pow_le_pow_right (by omega) (by omega)
    have h2 : b.toNat * 2 ^ (8 * (7 - k % 8)) ≤ 255 * 2 ^ 56 := Nat.mul_le_mul (by omega) h1
    omega
  have hw : IntKind.u64.wrap (b.toNat : Int) = (b.toNat : Int) := IntWalk.u64_in _ (by omega)
  rw [e, hw]
  have e2 : ((b.toNat : Int) * 2 ^ (8 * (7 - k % 8))) = ((b.toNat * 2 ^ (8 * (7 - k % 8)) : Nat) : Int) := by
    rw [Int.natCast_mul, Int.natCast_pow]; rfl
  rw [e2, IntWalk.u64_in _ (by omega)]
  exact u64_or_nat _ _ hX hp
end Go.Proofs.YtkdhpifjljkpfaaGreat
