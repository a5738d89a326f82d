/- The order of terms is one of all: without any program. -/
import Derived.Test.YthmpolifgngdiaaWh
import Derived.Test.YthmpolifgngdiaaWi
namespace Go.Proofs.Ythmpolifgngdiaa

theorem name_ext {s t : ByteArray} (h : s.data.toList = t.data.toList) : s = t := by
  obtain ⟨a⟩ := s
  obtain ⟨b⟩ := t
  have e : a = b := Array.toList_inj.1 h
  rw [e]

/-! equal -/
/-! -1, 0, 1 -/
/-! -1, 0, 1 -/
/-! alike just where they are the same -/
def goodL (l : List UInt8) : Prop := ∀ b ∈ l, 0 < b.toNat
theorem nm_inj : ∀ (m : Nat) (l r : List UInt8), goodL l → goodL r → l.length ≤ m → r.length ≤ m → nm m l = nm m r → l = r
  | 0, l, r, _, _, h1, h2, _ => by
    have e1 : l = [] := List.eq_nil_of_length_eq_zero (by omega)
    have e2 : r = [] := List.eq_nil_of_length_eq_zero (by omega)
    rw [e1, e2]
  | m + 1, [], [], _, _, _, _, _ => rfl
  | m + 1, [], b :: r, _, hr, _, _, h => by
    have hb := hr b (by simp)
    simp only [nm] at h
    have : 0 < b.toNat * 256 ^ m := Nat.mul_pos hb (Nat.pow_pos (by omega))
    omega
  | m + 1, a :: l, [], hl, _, _, _, h => by
    have hb := hl a (by simp)
    simp only [nm] at h
    have : 0 < a.toNat * 256 ^ m := Nat.mul_pos hb (Nat.pow_pos (by omega))
    omega
  | m + 1, a :: l, b :: r, hl, hr, h1, h2, h => by
    simp only [nm] at h
    have x1 := nm_lt m l
    have x2 := nm_lt m r
    have hp : 0 < 256 ^ m := Nat.pow_pos (by omega)
    have d1 : (a.toNat * 256 ^ m + nm m l) / 256 ^ m = a.toNat := by rw [Nat.mul_comm, Nat.mul_add_div hp, Nat.div_eq_of_lt x1, Nat.add_zero]
    have d2 : (b.toNat * 256 ^ m + nm m r) / 256 ^ m = b.toNat := by rw [Nat.mul_comm, Nat.mul_add_div hp, Nat.div_eq_of_lt x2, Nat.add_zero]
    have e : a.toNat = b.toNat := by rw [← d1, ← d2, h]
    have e' : a = b := UInt8.toNat_inj.1 e
    subst e'
    have := nm_inj m l r (fun b hb => hl b (by simp [hb])) (fun b hb => hr b (by simp [hb])) (by simpa using h1) (by simpa using h2) (by omega)
    rw [this]
theorem goodL_of_tail {s : ByteArray} (h : tailB s = true) : goodL s.data.toList := by
  intro b hb
  have h1 := (List.all_eq_true.1 h) b hb
  simp only [chB, inB, Bool.or_eq_true, decide_eq_true_eq, beq_iff_eq] at h1
  omega
theorem goodL_of_plain {t : Tm} (h : plainB t = true) : goodL t.name.data.toList := by
  unfold plainB at h
  split at h
  · simp only [Bool.and_eq_true, wordB] at h; exact goodL_of_tail h.1.1.2
  · split at h
    · simp only [Bool.and_eq_true] at h
      have h1 := toList_empty _ h.1.1.1
      have e : t.name.data.toList.length = t.name.size := by rw [Array.length_toList]; rfl
      intro b hb
      rw [show t.name.data.toList = [] from List.eq_nil_of_length_eq_zero (by omega)] at hb
      cases hb
    · split at h
      · simp only [Bool.and_eq_true, wordB] at h; exact goodL_of_tail h.1.1.2
      · cases h
end Go.Proofs.Ythmpolifgngdiaa
