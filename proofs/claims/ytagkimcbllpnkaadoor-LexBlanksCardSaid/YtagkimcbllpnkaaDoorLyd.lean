/- almagestref4: digit, letter; Tokens. -/
import Derived.Test.YtagkimcbllpnkaaDoorLxx
namespace Go.Proofs.YtagkimcbllpnkaaDoor
open Go.RowKit Go.Maps

theorem digit_any (b : UInt8) (w : World) : Calls Tryd.prog 17 #[.int .u8 b.toNat] w fun e w' => e = .returned (.bool (digB b)) ∧ w' = w := by
  have hb : b.toNat < 256 := b.toNat_lt
  by_cases h1 : 48 ≤ b.toNat
  · have h1' : decide ((48 : Int) ≤ (b.toNat : Int)) = true := decide_eq_true (by omega)
    have HE : Hid (decide ((b.toNat : Int) ≤ 57) = digB b) := Lib.hid (by unfold digB; rw [Bool.eq_iff_iff]; simp; omega)
    go_enter Tryd.func17, Tryd.ntmps17
    go_wp2_with fail
    go_ret
    exact ⟨ret_bool HE.out, rfl⟩
  · have h1' : decide ((48 : Int) ≤ (b.toNat : Int)) = false := decide_eq_false (by omega)
    have HE : Hid (false = digB b) := Lib.hid (by unfold digB; simp; omega)
    clear h1
    go_enter Tryd.func17, Tryd.ntmps17
    go_wp2_with fail
    go_ret
    exact ⟨ret_bool HE.out, rfl⟩
theorem digit_be (b : UInt8) (r : Bool) (w : World) (h : digB b = r) : Calls Tryd.prog 17 #[.int .u8 b.toNat] w fun e w' => e = .returned (.bool r) ∧ w' = w := h ▸ digit_any b w
theorem letter_any (b : UInt8) (w : World) : Calls Tryd.prog 16 #[.int .u8 b.toNat] w fun e w' => e = .returned (.bool (innB b)) ∧ w' = w := by
  have hb : b.toNat < 256 := b.toNat_lt
  have h : (97 ≤ b.toNat ∧ b.toNat ≤ 122) ∨ (65 ≤ b.toNat ∧ b.toNat ≤ 90) ∨ (48 ≤ b.toNat ∧ b.toNat ≤ 57) ∨ (b.toNat < 65 ∧ ¬ (48 ≤ b.toNat ∧ b.toNat ≤ 57)) ∨ (91 ≤ b.toNat ∧ b.toNat ≤ 96) ∨ 123 ≤ b.toNat := by omega
  rcases h with h | h | h | h | h | h
  · have f97 : decide ((97 : Int) ≤ (b.toNat : Int)) = true := decide_eq_true (by omega)
    have f122 : decide ((b.toNat : Int) ≤ (122 : Int)) = true := decide_eq_true (by omega)
    have HE : Hid (true = innB b) := Lib.hid (by unfold innB smlB grtB digB; rw [Bool.eq_iff_iff]; simp; omega)
    clear h
    go_enter Tryd.func16, Tryd.ntmps16
    go_wp2_with fail
    go_ret
    exact ⟨ret_bool HE.out, rfl⟩
  · have f97 : decide ((97 : Int) ≤ (b.toNat : Int)) = false := decide_eq_false (by omega)
    have f65 : decide ((65 : Int) ≤ (b.toNat : Int)) = true := decide_eq_true (by omega)
    have f90 : decide ((b.toNat : Int) ≤ (90 : Int)) = true := decide_eq_true (by omega)
    have HE : Hid (true = innB b) := Lib.hid (by unfold innB smlB grtB digB; rw [Bool.eq_iff_iff]; simp; omega)
    clear h
    go_enter Tryd.func16, Tryd.ntmps16
    go_wp2_with fail
    go_ret
    exact ⟨ret_bool HE.out, rfl⟩
  · have f97 : decide ((97 : Int) ≤ (b.toNat : Int)) = false := decide_eq_false (by omega)
    have f65 : decide ((65 : Int) ≤ (b.toNat : Int)) = false := decide_eq_false (by omega)
    have KD := fun u => Lib.hid (digit_be b true u (by unfold digB; rw [Bool.eq_iff_iff]; simp; omega))
    have HE : Hid (true = innB b) := Lib.hid (by unfold innB smlB grtB digB; rw [Bool.eq_iff_iff]; simp; omega)
    clear h
    go_enter Tryd.func16, Tryd.ntmps16
    go_wp2_with (go_at_call 17; refine (KD _).out.mono ?_; rintro e w' ⟨rfl, rfl⟩)
    go_ret
    exact ⟨ret_bool HE.out, rfl⟩
  · have f97 : decide ((97 : Int) ≤ (b.toNat : Int)) = false := decide_eq_false (by omega)
    have f65 : decide ((65 : Int) ≤ (b.toNat : Int)) = false := decide_eq_false (by omega)
    have KD := fun u => Lib.hid (digit_be b false u (by unfold digB; rw [Bool.eq_iff_iff]; simp; omega))
    have HE : Hid (((b.toNat : Int) == 95) = innB b) := Lib.hid (by unfold innB smlB grtB digB; rw [Bool.eq_iff_iff, beq_iff_eq]; simp; rw [show (b = 95 ↔ b.toNat = 95) from ⟨fun e => by rw [e]; rfl, fun e => UInt8.toNat_inj.1 e⟩]; omega)
    clear h
    go_enter Tryd.func16, Tryd.ntmps16
    go_wp2_with (go_at_call 17; refine (KD _).out.mono ?_; rintro e w' ⟨rfl, rfl⟩)
    go_ret
    exact ⟨ret_bool HE.out, rfl⟩
  · have f97 : decide ((97 : Int) ≤ (b.toNat : Int)) = false := decide_eq_false (by omega)
    have f65 : decide ((65 : Int) ≤ (b.toNat : Int)) = true := decide_eq_true (by omega)
    have f90 : decide ((b.toNat : Int) ≤ (90 : Int)) = false := decide_eq_false (by omega)
    have KD := fun u => Lib.hid (digit_be b false u (by unfold digB; rw [Bool.eq_iff_iff]; simp; omega))
    have HE : Hid (((b.toNat : Int) == 95) = innB b) := Lib.hid (by unfold innB smlB grtB digB; rw [Bool.eq_iff_iff, beq_iff_eq]; simp; rw [show (b = 95 ↔ b.toNat = 95) from ⟨fun e => by rw [e]; rfl, fun e => UInt8.toNat_inj.1 e⟩]; omega)
    clear h
    go_enter Tryd.func16, Tryd.ntmps16
    go_wp2_with (go_at_call 17; refine (KD _).out.mono ?_; rintro e w' ⟨rfl, rfl⟩)
    go_ret
    exact ⟨ret_bool HE.out, rfl⟩
  · have f97 : decide ((97 : Int) ≤ (b.toNat : Int)) = true := decide_eq_true (by omega)
    have f122 : decide ((b.toNat : Int) ≤ (122 : Int)) = false := decide_eq_false (by omega)
    have f65 : decide ((65 : Int) ≤ (b.toNat : Int)) = true := decide_eq_true (by omega)
    have f90 : decide ((b.toNat : Int) ≤ (90 : Int)) = false := decide_eq_false (by omega)
    have KD := fun u => Lib.hid (digit_be b false u (by unfold digB; rw [Bool.eq_iff_iff]; simp; omega))
    have HE : Hid (((b.toNat : Int) == 95) = innB b) := Lib.hid (by unfold innB smlB grtB digB; rw [Bool.eq_iff_iff, beq_iff_eq]; simp; rw [show (b = 95 ↔ b.toNat = 95) from ⟨fun e => by rw [e]; rfl, fun e => UInt8.toNat_inj.1 e⟩]; omega)
    clear h
    go_enter Tryd.func16, Tryd.ntmps16
    go_wp2_with (go_at_call 17; refine (KD _).out.mono ?_; rintro e w' ⟨rfl, rfl⟩)
    go_ret
    exact ⟨ret_bool HE.out, rfl⟩
theorem letter_be (b : UInt8) (r : Bool) (w : World) (h : innB b = r) : Calls Tryd.prog 16 #[.int .u8 b.toNat] w fun e w' => e = .returned (.bool r) ∧ w' = w := h ▸ letter_any b w
end Go.Proofs.YtagkimcbllpnkaaDoor
