/- Package lex: what token tells is the plain word (pure). -/
import Derived.Test.YtagkimcbllpnkaaDoorLxh
namespace Go.Proofs.YtagkimcbllpnkaaDoor

theorem one_mem (c : UInt8) : [c] ∈ mksL ↔ [c] ∈ marks1 := by simp [mksL, marks1]
theorem two_mem (c d : UInt8) : [c, d] ∈ mksL ↔ [c, d] ∈ marks2 := by simp [mksL, marks2]
theorem mtry_eq (l : List UInt8) : mtry l (min 2 l.length) = if 2 ≤ l.length ∧ l.take 2 ∈ marks2 then 2 else if l.take 1 ∈ marks1 then 1 else 0 := by
  match l with
  | [] => simp [mtry, marks1]
  | [c] =>
    show (if [c] ∈ mksL then 1 else 0) = _
    have : ¬ (2 ≤ [c].length ∧ [c].take 2 ∈ marks2) := fun h => by have := h.1; simp at this
    rw [if_neg this]
    simp only [one_mem]
    rfl
  | c :: d :: r =>
    have e : min 2 (c :: d :: r).length = 2 := by simp only [List.length_cons]; omega
    rw [e]
    show (if [c, d] ∈ mksL then 2 else if [c] ∈ mksL then 1 else 0) = _
    simp only [one_mem, two_mem]
    have : (2 ≤ (c :: d :: r).length ∧ (c :: d :: r).take 2 ∈ marks2) ↔ [c, d] ∈ marks2 := ⟨fun h => h.2, fun h => ⟨by simp, h⟩⟩
    simp only [this]
    rfl

theorem inn_of {c : UInt8} (h : (smlB c || grtB c) = true) : innB c = true := by simp only [innB]; rw [h]; rfl
theorem lft_drop (s : ByteArray) (k n : Nat) : lft s (k + n) = (lft s k).drop n := by unfold lft; rw [List.drop_drop]

/-- the program's word is the plain one -/
def TokSame (s : ByteArray) (k : Nat) (r : Sum Int (Tok × Nat)) : Prop := match r with
  | .inl x => tokL (lft s k) = .inl x
  | .inr (t, j) => k < j ∧ j ≤ s.size ∧ tokL (lft s k) = .inr (t, lft s j)

theorem word_same (K : Int) {s : ByteArray} {k : Nat} (hk : k < s.size) (h : (smlB s[k] || grtB s[k]) = true) (hK : K = if smlB s[k] then 1 else 2) : TokSame s k (wordR K s k) := by
  have e : tokL (lft s k) = if ((lft s k).takeWhile innB).length ≤ 16 then .inr (⟨K, ⟨((lft s k).takeWhile innB).toArray⟩, 0, 0⟩, (lft s k).dropWhile innB) else .inl 2 := by
    rw [lft_cons s k hk]
    simp only [tokL]
    rw [if_pos h, hK]
  unfold wordR
  split
  · rename_i h16
    refine ⟨?_, runN_le innB (by omega), by rw [e, if_pos h16, lft_run]⟩
    rw [runN_yes hk (inn_of h)]; omega
  · rename_i h16
    show tokL (lft s k) = .inl 2
    rw [e, if_neg h16]
theorem number_same {s : ByteArray} {k : Nat} (hk : k < s.size) (h1 : (smlB s[k] || grtB s[k]) = false) (h : (digB s[k] || minB s k) = true) : TokSame s k (numberR s k) := by
  have hc := lft_cons s k hk
  have hm : minB s k = (s[k] == 45 && digB ((lft s (k + 1)).headD 0)) := by unfold minB; rw [hc]
  have hh : headIs s k 45 = (s[k] == 45) := headIs_in hk 45
  by_cases hd : digB s[k] = true
  · have hn : (s[k] == 45) = false := by
      rw [Bool.eq_false_iff]; intro e
      rw [beq_iff_eq.1 e] at hd
      revert hd; decide
    have hK : numK s k = k := by unfold numK; rw [hh, hn]; rfl
    have e : tokL (lft s k) = if numL 0 ((lft s k).takeWhile digB) ≤ 1073741824 then .inr (⟨3, ⟨#[]⟩, (numL 0 ((lft s k).takeWhile digB) : Nat), 0⟩, (lft s k).dropWhile digB) else .inl 2 := by
      rw [hc]
      simp only [tokL]
      rw [if_neg (by rw [h1]; simp), if_pos hd]
    unfold numberR
    rw [hK]
    split
    · rename_i h16
      refine ⟨by rw [runN_yes hk hd]; omega, runN_le digB (by omega), ?_⟩
      rw [e, if_pos h16, lft_run, hh, hn]
      simp
    · rename_i h16
      show tokL (lft s k) = .inl 2
      rw [e, if_neg h16]
  · have hd' : digB s[k] = false := by simpa using hd
    rw [hd', Bool.false_or] at h
    have h45 : (s[k] == 45) = true := by rw [hm, Bool.and_eq_true] at h; exact h.1
    have hK : numK s k = k + 1 := by unfold numK; rw [hh, h45]; rfl
    have e : tokL (lft s k) = if numL 0 ((lft s (k + 1)).takeWhile digB) ≤ 1073741824 then .inr (⟨3, ⟨#[]⟩, -((numL 0 ((lft s (k + 1)).takeWhile digB) : Nat) : Int), 0⟩, (lft s (k + 1)).dropWhile digB) else .inl 2 := by
      rw [hc]
      simp only [tokL]
      rw [if_neg (by rw [h1]; simp), if_neg hd, if_pos (by rw [← hm]; exact h)]
    unfold numberR
    rw [hK]
    split
    · rename_i h16
      refine ⟨by omega, runN_le digB (by omega), ?_⟩
      rw [e, if_pos h16, lft_run, hh, h45]
      simp
    · rename_i h16
      show tokL (lft s k) = .inl 2
      rw [e, if_neg h16]
theorem mark_same {s : ByteArray} {k : Nat} (hk : k < s.size) (h1 : (smlB s[k] || grtB s[k]) = false) (h2 : digB s[k] = false) (h3 : minB s k = false) : TokSame s k (markR s k) := by
  have hc := lft_cons s k hk
  have hm : minB s k = (s[k] == 45 && digB ((lft s (k + 1)).headD 0)) := by unfold minB; rw [hc]
  have hlen := lft_len s k
  have e : tokL (lft s k) = if 2 ≤ (lft s k).length ∧ (lft s k).take 2 ∈ marks2 then .inr (⟨4, ⟨((lft s k).take 2).toArray⟩, 0, 0⟩, (lft s k).drop 2) else if (lft s k).take 1 ∈ marks1 then .inr (⟨4, ⟨((lft s k).take 1).toArray⟩, 0, 0⟩, lft s (k + 1)) else .inl 4 := by
    rw [hc]
    simp only [tokL]
    rw [if_neg (by rw [h1]; simp), if_neg (by rw [h2]; simp), if_neg (by rw [← hm, h3]; simp)]
  unfold markR
  rw [mtry_eq]
  by_cases hA : 2 ≤ (lft s k).length ∧ (lft s k).take 2 ∈ marks2
  · rw [if_pos hA, if_neg (by omega)]
    refine ⟨by omega, by omega, ?_⟩
    rw [e, if_pos hA, lft_drop]
  · rw [if_neg hA] at e ⊢
    by_cases hB : (lft s k).take 1 ∈ marks1
    · rw [if_pos hB] at e ⊢
      rw [if_neg (by omega)]
      exact ⟨by omega, by omega, e⟩
    · rw [if_neg hB] at e ⊢
      exact e
theorem token_same {s : ByteArray} {k : Nat} (hk : k < s.size) : TokSame s k (tokenR s k) := by
  have hR : tokenR s k = if smlB s[k] then wordR 1 s k else if grtB s[k] then wordR 2 s k else if digB s[k] || minB s k then numberR s k else markR s k := by unfold tokenR; rw [lft_cons s k hk]
  rw [hR]
  split
  · rename_i h; exact word_same 1 hk (by rw [h]; rfl) (by rw [if_pos h])
  · rename_i h
    split
    · rename_i h'; exact word_same 2 hk (by rw [h']; simp) (by rw [if_neg h])
    · rename_i h'
      have h1 : (smlB s[k] || grtB s[k]) = false := by simp [h, h']
      split
      · rename_i h2; exact number_same hk h1 h2
      · rename_i h2
        simp only [Bool.or_eq_true, not_or, Bool.not_eq_true] at h2
        exact mark_same hk h1 h2.1 h2.2
end Go.Proofs.YtagkimcbllpnkaaDoor
