/- The document's own answers: which terms may be (almagestref1: tail, word, Name, Var, size, Term). -/
import Derived.Test.YthmpolifgngdiaaMB
namespace Go.Proofs.Ythmpolifgngdiaa
open Go.RowKit

theorem between_any (a b c : Int) (w : World) :
    Calls Try.prog 6 #[.int .i64 a, .int .i64 b, .int .i64 c] w fun e w' => e = .returned (.bool (inB a b c)) ∧ w = w' := by
  by_cases h : b ≤ a
  · have h' : decide (b ≤ a) = true := decide_eq_true h
    go_enter Try.func6, Try.ntmps6
    go_wp2
    go_ret
    exact ⟨by simp [inB, h], rfl⟩
  · have H := Lib.hid (show inB a b c = false by simp [inB, h])
    have h' : decide (b ≤ a) = false := decide_eq_false h
    clear h
    go_enter Try.func6, Try.ntmps6
    go_wp2
    go_ret
    exact ⟨by rw [H.out]; rfl, rfl⟩

theorem chB_iff (c : UInt8) : chB c = true ↔ (97 ≤ (c.toNat : Int) ∧ (c.toNat : Int) ≤ 122) ∨ (65 ≤ (c.toNat : Int) ∧ (c.toNat : Int) ≤ 90) ∨ (48 ≤ (c.toNat : Int) ∧ (c.toNat : Int) ≤ 57) ∨ (c.toNat : Int) = 95 := by
  simp [chB, inB, or_assoc]
theorem not_tr {b : Bool} (h : ¬ b = true) : b = false := by simpa using h

set_option maxHeartbeats 1000000 in
theorem rtail_any (s : ByteArray) (w : World) (hs : s.size ≤ maxLen) :
    Calls Try.prog 42 #[.string s] w fun e w' => e = .returned (.bool (tailB s)) ∧ w = w' := by
  unfold maxLen at hs
  go_enter Try.func42, Try.ntmps42
  go_wp2
  go_loop [3] (fun i => ∃ k : Nat, k ≤ s.size ∧ i = .int .i64 k ∧ Hid ((s.data.toList.drop k).all chB = tailB s)) (fun i => s.size - (intOf i).toNat)
  case atStart => exact ⟨0, Nat.zero_le _, rfl, Lib.hid rfl⟩
  case round =>
    obtain ⟨k, hk, rfl, H⟩ := hrel
    by_cases hlt : k < s.size
    · have hdc := drop_cons s k hlt
      have H2 : Hid ((chB s[k] && (s.data.toList.drop (k + 1)).all chB) = tailB s) := by
        have := H.out; rw [hdc] at this; exact Lib.hid (by simpa using this)
      clear hdc H
      generalize hbb : (s[k].toNat : Int) = b at *
      by_cases hc : chB s[k] = true
      · have H3 : Hid ((s.data.toList.drop (k + 1)).all chB = tailB s) := Lib.hid (by have := H2.out; rwa [hc, Bool.true_and] at this)
        have hp := (chB_iff s[k]).1 hc
        rw [hbb] at hp
        clear hc H2
        rcases hp with ⟨h1, h2⟩ | ⟨h1, h2⟩ | ⟨h1, h2⟩ | h1
        · go_wp2_with fail
          all_goals
            go_round
            case rel => exact ⟨k + 1, by omega, by go_num, H3⟩
            case measure => simp [intOf]; omega
        · go_wp2_with fail
          all_goals
            go_round
            case rel => exact ⟨k + 1, by omega, by go_num, H3⟩
            case measure => simp [intOf]; omega
        · go_wp2_with fail
          all_goals
            go_round
            case rel => exact ⟨k + 1, by omega, by go_num, H3⟩
            case measure => simp [intOf]; omega
        · have h95 : (b == 95) = true := by simp [h1]
          have g1 : b ≤ 95 := by omega
          have g2 : 95 ≤ b := by omega
          clear h1
          go_wp2_with fail
          all_goals
            go_round
            case rel => exact ⟨k + 1, by omega, by go_num, H3⟩
            case measure => simp [intOf]; omega
      · have H3 : Hid (false = tailB s) := Lib.hid (by have := H2.out; rwa [not_tr hc, Bool.false_and] at this)
        have hp := mt (chB_iff s[k]).2 hc
        rw [hbb] at hp
        have h95 : (b == 95) = false := by simp; intro e; exact hp (.inr (.inr (.inr e)))
        have HP := Lib.hid hp
        clear hc H2 hp
        go_wp2_with fail
        all_goals first
          | (exfalso; have := HP.out; omega)
          | (go_ret; exact ⟨ret_bool H3.out, rfl⟩)
    · go_wp2
      go_ret
      refine ⟨?_, rfl⟩
      rw [← H.out, List.drop_eq_nil_of_le (by simpa using hlt)]
      rfl

set_option maxHeartbeats 1000000 in
theorem rword_any (s : ByteArray) (lo hi : Int) (w : World) (hs : s.size ≤ maxLen) :
    Calls Try.prog 37 #[.string s, .int .u8 lo, .int .u8 hi] w fun e w' => e = .returned (.bool (wordB s lo hi)) ∧ w = w' := by
  have hs' : s.size ≤ 9223372036854775807 := by unfold maxLen at hs; omega
  by_cases h0 : s.size = 0
  · have H := Lib.hid (show wordB s lo hi = false by simp [wordB, h0])
    have h0' : ((s.size : Int) == 0) = true := by simp [h0]
    clear h0
    go_enter Try.func37, Try.ntmps37
    go_wp2
    all_goals first | (exfalso; simp_all; omega) | (go_ret; exact ⟨ret_bool H.out.symm, rfl⟩)
  · have hp : 0 < s.size := by omega
    have hh := Lib.hid (head_of s hp)
    have h0' : ((s.size : Int) == 0) = false := beq_eq_false_iff_ne.2 (by omega)
    clear h0
    by_cases h1 : s.size ≤ 16
    · have h1' : decide ((16 : Int) < (s.size : Int)) = false := decide_eq_false (by omega)
      by_cases h2 : inB s[0].toNat lo hi = true
      · have H := Lib.hid (show wordB s lo hi = tailB s by unfold wordB; rw [hh.out]; simp [hp, h1, h2])
        have h3 : lo ≤ (s[0].toNat : Int) ∧ (s[0].toNat : Int) ≤ hi := by simpa [inB] using h2
        have h4 : decide ((s[0].toNat : Int) < lo) = false := decide_eq_false (by omega)
        have h5 : decide (hi < (s[0].toNat : Int)) = false := decide_eq_false (by omega)
        clear h2 h3
        go_enter Try.func37, Try.ntmps37
        go_wp2_with (go_at_call 42; refine (rtail_any _ _ hs).mono ?_; rintro e w' ⟨rfl, rfl⟩)
        go_ret
        exact ⟨ret_bool H.out.symm, rfl⟩
      · have H := Lib.hid (show wordB s lo hi = false by unfold wordB; rw [hh.out]; simp [not_tr h2])
        have h3 : ¬ (lo ≤ (s[0].toNat : Int) ∧ (s[0].toNat : Int) ≤ hi) := by simpa [inB] using h2
        clear h2
        by_cases h6 : (s[0].toNat : Int) < lo
        · have h4 : decide ((s[0].toNat : Int) < lo) = true := decide_eq_true h6
          clear h3
          go_enter Try.func37, Try.ntmps37
          go_wp2
          go_ret
          exact ⟨ret_bool H.out.symm, rfl⟩
        · have h4 : decide ((s[0].toNat : Int) < lo) = false := decide_eq_false h6
          have h5 : decide (hi < (s[0].toNat : Int)) = true := decide_eq_true (by omega)
          clear h3 h6
          go_enter Try.func37, Try.ntmps37
          go_wp2
          go_ret
          exact ⟨ret_bool H.out.symm, rfl⟩
    · have h1' : decide ((16 : Int) < (s.size : Int)) = true := decide_eq_true (by omega)
      have H := Lib.hid (show wordB s lo hi = false by simp [wordB, h1])
      clear h1
      go_enter Try.func37, Try.ntmps37
      go_wp2
      go_ret
      exact ⟨ret_bool H.out.symm, rfl⟩

theorem Name_any (s : ByteArray) (w : World) (hs : s.size ≤ maxLen) :
    Calls Try.prog 30 #[.string s] w fun e w' => e = .returned (.bool (wordB s 97 122)) ∧ w = w' := by
  go_enter Try.func30, Try.ntmps30
  go_wp2_with (go_at_call 37; refine (rword_any _ _ _ _ hs).mono ?_; rintro e w' ⟨rfl, rfl⟩)
  go_ret
  exact ⟨rfl, rfl⟩
theorem Var_any (s : ByteArray) (w : World) (hs : s.size ≤ maxLen) :
    Calls Try.prog 29 #[.string s] w fun e w' => e = .returned (.bool (wordB s 65 90)) ∧ w = w' := by
  go_enter Try.func29, Try.ntmps29
  go_wp2_with (go_at_call 37; refine (rword_any _ _ _ _ hs).mono ?_; rintro e w' ⟨rfl, rfl⟩)
  go_ret
  exact ⟨rfl, rfl⟩
end Go.Proofs.Ythmpolifgngdiaa
