/- The small contracts of package term: within, tail, word: what each answers, the world left as it was. -/
import Derived.Test.YthmpolifgngdiaaTm
import Derived.WalkSpells
import Derived.Lib.Hide
import Derived.Deep.QuietTactic
import Derived.BigQuiet
import Derived.BigGuardPart
namespace Go.Proofs.Ythmpolifgngdiaa
open Go.RowKit

/-- from b to c -/
def inB (a b c : Int) : Bool := decide (b ≤ a ∧ a ≤ c)

theorem within_any (a b c : Int) (w : World) :
    Calls Try.prog 80 #[.int .u8 a, .int .u8 b, .int .u8 c] w fun e w' => e = .returned (.bool (inB a b c)) ∧ w = w' := by
  by_cases h : b ≤ a
  · go_enter Try.func80, Try.ntmps80
    go_wp2
    go_ret
    exact ⟨by simp [inB, h], rfl⟩
  · have h' : inB a b c = false := by simp [inB, h]
    have H := Lib.hid h'
    clear h'
    go_enter Try.func80, Try.ntmps80
    go_wp2
    go_ret
    exact ⟨by rw [H.out]; rfl, rfl⟩

/-- letters, digits and the low line -/
def chB (c : UInt8) : Bool := inB c.toNat 97 122 || inB c.toNat 65 90 || inB c.toNat 48 57 || (c.toNat : Int) == 95
def tailB (s : ByteArray) : Bool := s.data.toList.all chB

theorem chB_no {c : UInt8} (h1 : inB c.toNat 97 122 = false) (h2 : inB c.toNat 65 90 = false) (h3 : inB c.toNat 48 57 = false) (h4 : ((c.toNat : Int) != 95) = true) : chB c = false := by
  have h5 : ((c.toNat : Int) == 95) = false := by simpa using h4
  simp only [chB, h1, h2, h3, h5, Bool.or_false]

theorem drop_cons (s : ByteArray) (k : Nat) (h : k < s.size) : s.data.toList.drop k = s[k] :: s.data.toList.drop (k + 1) := by
  rw [List.drop_eq_getElem_cons (by simpa using h)]; rfl

set_option maxHeartbeats 400000 in
theorem tail_any (s : ByteArray) (w : World) (hs : s.size ≤ maxLen) :
    Calls Try.prog 81 #[.string s] w fun e w' => e = .returned (.bool (tailB s)) ∧ w = w' := by
  unfold maxLen at hs
  go_enter Try.func81, Try.ntmps81
  go_wp2
  go_loop [7] (fun i => ∃ k : Nat, k ≤ s.size ∧ i = .int .i64 k ∧ Hid ((s.data.toList.drop k).all chB = tailB s)) (fun i => s.size - (intOf i).toNat)
  case atStart => exact ⟨0, Nat.zero_le _, rfl, Lib.hid rfl⟩
  case round =>
    obtain ⟨k, hk, rfl, H⟩ := hrel
    by_cases hlt : k < s.size
    · have hdc := drop_cons s k hlt
      have H2 : Hid ((chB s[k] && (s.data.toList.drop (k + 1)).all chB) = tailB s) := by
        have := H.out; rw [hdc] at this; exact Lib.hid (by simpa using this)
      clear hdc H
      go_wp2_with (go_at_call 80; refine (within_any _ _ _ _).mono ?_; rintro e w' ⟨rfl, rfl⟩)
      · go_ret
        exact ⟨ret_bool (by rw [← H2.out, chB_no ‹_› ‹_› ‹_› ‹_›]; rfl), rfl⟩
      all_goals
        go_round
        case rel => exact ⟨k + 1, by omega, by go_num, Lib.hid (by rw [← H2.out]; simp_all [chB])⟩
        case measure => simp [intOf]; omega
    · go_wp2
      go_ret
      refine ⟨?_, rfl⟩
      rw [← H.out, List.drop_eq_nil_of_le (by simpa using hlt)]
      rfl

/-- a name: its first letter, how long it is, the rest -/
def wordB (s : ByteArray) (lo hi : Int) : Bool := decide (0 < s.size) && decide (s.size ≤ 16) && inB (s.data.toList.headD 0).toNat lo hi && tailB s

theorem head_of (s : ByteArray) (h : 0 < s.size) : s.data.toList.headD 0 = s[0] := by
  have := drop_cons s 0 h
  rw [List.drop_zero] at this
  rw [this]; rfl

set_option maxHeartbeats 400000 in
theorem word_any (s : ByteArray) (lo hi : Int) (w : World) (hs : s.size ≤ maxLen) :
    Calls Try.prog 78 #[.string s, .int .u8 lo, .int .u8 hi] w fun e w' => e = .returned (.bool (wordB s lo hi)) ∧ w = w' := by
  have hs' : s.size ≤ 9223372036854775807 := by unfold maxLen at hs; omega
  by_cases h0 : 0 < s.size
  · have h0' : decide ((0 : Int) < (s.size : Int)) = true := by simp; omega
    have hh := Lib.hid (head_of s h0)
    by_cases h1 : s.size ≤ 16
    · have h1' : decide ((s.size : Int) ≤ 16) = true := by simp; omega
      by_cases h2 : inB s[0].toNat lo hi = true
      · have hw : wordB s lo hi = tailB s := by unfold wordB; rw [hh.out]; simp [h0, h1, h2]
        have H := Lib.hid hw
        clear hw
        go_enter Try.func78, Try.ntmps78
        go_wp2_with (first
          | (go_at_call 80; refine (within_any _ _ _ _).mono ?_; rintro e w' ⟨rfl, rfl⟩)
          | (go_at_call 81; refine (tail_any _ _ hs).mono ?_; rintro e w' ⟨rfl, rfl⟩))
        go_ret
        exact ⟨by rw [H.out]; rfl, rfl⟩
      · have h2' : inB s[0].toNat lo hi = false := by simpa using h2
        have hw : wordB s lo hi = false := by unfold wordB; rw [hh.out]; simp [h2']
        have H := Lib.hid hw
        clear hw h2
        go_enter Try.func78, Try.ntmps78
        go_wp2_with (go_at_call 80; refine (within_any _ _ _ _).mono ?_; rintro e w' ⟨rfl, rfl⟩)
        go_ret
        exact ⟨by rw [H.out]; rfl, rfl⟩
    · have h1' : decide ((s.size : Int) ≤ 16) = false := by simp; omega
      have hw : wordB s lo hi = false := by simp [wordB, h1]
      have H := Lib.hid hw
      clear hw h1
      go_enter Try.func78, Try.ntmps78
      go_wp2
      go_ret
      exact ⟨by rw [H.out]; rfl, rfl⟩
  · have hw : wordB s lo hi = false := by simp [wordB, h0]
    have H := Lib.hid hw
    have h0' : decide (0 < s.size) = false := decide_eq_false h0
    clear hw h0
    go_enter Try.func78, Try.ntmps78
    go_wp2
    go_ret
    exact ⟨by rw [H.out]; rfl, rfl⟩
end Go.Proofs.Ythmpolifgngdiaa
