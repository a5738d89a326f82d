/- Package weave: zones. -/
import Derived.Test.YtjldokhomohdbaaDoorWve
namespace Go.Proofs.YtjldokhomohdbaaDoor
open Go.RowKit Go.Maps

theorem lt5 {x : Nat} (h : x < 5) : x = 0 ∨ x = 1 ∨ x = 2 ∨ x = 3 ∨ x = 4 := by omega
set_option maxHeartbeats 1000000 in
theorem ahead_any (x y : Nat) (hx : x < 5) (hy : y < 5) (w : World) : Calls Tryd.prog 53 #[.int .u8 (x : Int), .int .u8 (y : Int)] w fun e w' => e = .returned (.bool (ahB x y)) ∧ w' = w := by
  obtain rfl | rfl | rfl | rfl | rfl := lt5 hx <;> obtain rfl | rfl | rfl | rfl | rfl := lt5 hy
  all_goals
    go_enter Tryd.func53, Tryd.ntmps53
    go_wp2_with fail
    go_ret
    exact ⟨rfl, rfl⟩

theorem and8 (a b : Nat) (ha : a < 256) (hb : b < 256) : bits .and .u8 (a : Int) (b : Int) = ((a &&& b : Nat) : Int) := by
  have hx : a &&& b < 2 ^ 8 := Nat.and_lt_two_pow _ (by omega)
  show IntKind.u8.wrap ((BitVec.ofInt 8 (a : Int) &&& BitVec.ofInt 8 (b : Int)).toNat : Int) = _
  rw [BitVec.toNat_and, ofInt_small (by omega), ofInt_small (by omega), IntKind.wrap_u8]
  omega
theorem or8 (a b : Nat) (ha : a < 256) (hb : b < 256) : bits .or .u8 (a : Int) (b : Int) = ((a ||| b : Nat) : Int) := by
  have hx : a ||| b < 2 ^ 8 := Nat.or_lt_two_pow (by omega) (by omega)
  show IntKind.u8.wrap ((BitVec.ofInt 8 (a : Int) ||| BitVec.ofInt 8 (b : Int)).toNat : Int) = _
  rw [BitVec.toNat_or, ofInt_small (by omega), ofInt_small (by omega), IntKind.wrap_u8]
  omega
theorem shr8_bit {s k : Nat} (hs : s < 32) : (bits .and .u8 ((s : Int) / 2 ^ k) 1 == 1) = s.testBit k := by
  have e : (s : Int) / 2 ^ k = ((s / 2 ^ k : Nat) : Int) := by rw [Int.natCast_ediv, Int.natCast_pow]; rfl
  have h1 : s / 2 ^ k < 256 := Nat.lt_of_le_of_lt (Nat.div_le_self _ _) (by omega)
  have h2 := and8 (s / 2 ^ k) 1 h1 (by omega)
  rw [show ((1 : Nat) : Int) = 1 from rfl] at h2
  rw [e, h2, Nat.and_one_is_mod, Nat.testBit_eq_decide_div_mod_eq]
  rw [Bool.eq_iff_iff, beq_iff_eq, decide_eq_true_iff]
  omega
set_option maxHeartbeats 1000000 in
theorem zhas_any (x z : Nat) (hx : x < 32) (hz : z < 5) (w : World) : Calls Tryd.prog 49 #[.int .u8 (x : Int), .int .u8 (z : Int)] w fun e w' => e = .returned (.bool (x.testBit z)) ∧ w' = w := by
  have HB := Lib.hid (shr8_bit (k := z) hx)
  have HB : Hid ((bits .and .u8 ((x / 2 ^ z : Nat) : Int) 1 == 1) = x.testBit z) := by
    have := HB.out
    rw [show (x : Int) / 2 ^ z = ((x / 2 ^ z : Nat) : Int) by rw [Int.natCast_ediv, Int.natCast_pow]; rfl] at this
    exact Lib.hid this
  obtain rfl | rfl | rfl | rfl | rfl := lt5 hz
  · have H0 : Hid ((bits .and .u8 (x : Int) 1 == 1) = x.testBit 0) := Lib.hid (by have := HB.out; rwa [show x / 2 ^ 0 = x by simp] at this)
    go_enter Tryd.func49, Tryd.ntmps49
    go_wp2_with fail
    go_ret
    exact ⟨ret_bool H0.out, rfl⟩
  all_goals
    go_enter Tryd.func49, Tryd.ntmps49
    go_wp2_with fail
    go_ret
    exact ⟨ret_bool HB.out, rfl⟩

/-- the bits of the first k of five -/
def wiU (b0 b1 b2 b3 b4 : Bool) : Nat → Nat
  | 0 => 0
  | 1 => (if b0 then 1 else 0)
  | 2 => (if b0 then 1 else 0) ||| (if b1 then 2 else 0)
  | 3 => (if b0 then 1 else 0) ||| (if b1 then 2 else 0) ||| (if b2 then 4 else 0)
  | 4 => (if b0 then 1 else 0) ||| (if b1 then 2 else 0) ||| (if b2 then 4 else 0) ||| (if b3 then 8 else 0)
  | _ => (if b0 then 1 else 0) ||| (if b1 then 2 else 0) ||| (if b2 then 4 else 0) ||| (if b3 then 8 else 0) ||| (if b4 then 16 else 0)
def bAt (b0 b1 b2 b3 b4 : Bool) (k : Nat) : Bool := match k with | 0 => b0 | 1 => b1 | 2 => b2 | 3 => b3 | _ => b4
theorem wiU_step : ∀ b0 b1 b2 b3 b4 : Bool, ∀ k, k < 5 → wiU b0 b1 b2 b3 b4 k < 32 ∧ wiU b0 b1 b2 b3 b4 (k + 1) = if bAt b0 b1 b2 b3 b4 k then wiU b0 b1 b2 b3 b4 k ||| 2 ^ k else wiU b0 b1 b2 b3 b4 k := by decide
theorem idx_b {b0 b1 b2 b3 b4 : Bool} {k : Nat} (h : k < 5) (w : World) : (Instr.index 85 (.agg #[.bool b0, .bool b1, .bool b2, .bool b3, .bool b4]) (.int .i64 (k : Int))).run Tryd.prog w = .ok (.bool (bAt b0 b1 b2 b3 b4 k)) w := by
  obtain rfl | rfl | rfl | rfl | rfl := lt5 h
  all_goals kernel_rfl
theorem wiN_lt (z f t : Nat) : wiN z f t < 32 := by
  have h : ∀ b0 b1 b2 b3 b4 : Bool, ((if b0 then 1 else 0) ||| (if b1 then 2 else 0) ||| (if b2 then 4 else 0) ||| (if b3 then 8 else 0) ||| (if b4 then 16 else 0)) < 32 := by decide
  exact h (ahB z f) (z == f) (ahB f z && ahB z t) (z == t) (ahB t z)

theorem wiU_or (b0 b1 b2 b3 b4 : Bool) (k : Nat) (h : k < 5) : bits .or .u8 (wiU b0 b1 b2 b3 b4 k : Int) ((2 : Int) ^ k % 256) = ((wiU b0 b1 b2 b3 b4 k ||| 2 ^ k : Nat) : Int) := by
  have := (wiU_step b0 b1 b2 b3 b4 k h).1
  have h2 : 2 ^ k < 32 := Nat.lt_of_lt_of_le (Nat.pow_lt_pow_right (by omega) h) (by decide)
  have e : (2 : Int) ^ k % 256 = ((2 ^ k : Nat) : Int) := by
    rw [Int.natCast_pow]
    have : ((2 ^ k : Nat) : Int) < 256 := by omega
    rw [Int.natCast_pow] at this
    exact Int.emod_eq_of_lt (Int.pow_nonneg (by decide)) this
  rw [e, or8 _ _ (by omega) (by omega)]

def ZTo (w : World) (z f t : Nat) (e : Ending) (w' : World) : Prop := e = .returned (.int .u8 (wiN z f t : Int)) ∧ Ext w w'
set_option maxRecDepth 100000 in
set_option maxHeartbeats 2000000 in
theorem zwithin_any (z f t : Nat) (hz : z < 5) (hf : f < 5) (ht : t < 5) (w : World) :
    Calls Tryd.prog 48 #[.int .u8 (z : Int), .agg #[.int .u8 (f : Int), .int .u8 (t : Int)]] w (ZTo w z f t) := by
  have K1 := fun u => Lib.hid (ahead_any z f hz hf u)
  have K2 := fun u => Lib.hid (ahead_any f z hf hz u)
  have K3 := fun u => Lib.hid (ahead_any z t hz ht u)
  have K4 := fun u => Lib.hid (ahead_any t z ht hz u)
  have HZ : ∀ e w', ZTo w z f t e w' = (e = .returned (.int .u8 (wiU (ahB z f) (z == f) (ahB f z && ahB z t) (z == t) (ahB t z) 5 : Int)) ∧ Ext w w') := fun _ _ => rfl
  generalize ZTo w z f t = Z at HZ ⊢
  have e1 : ((z : Int) == (f : Int)) = (z == f) := by rw [Bool.eq_iff_iff, beq_iff_eq, beq_iff_eq]; omega
  have e3 : ((z : Int) == (t : Int)) = (z == t) := by rw [Bool.eq_iff_iff, beq_iff_eq, beq_iff_eq]; omega
  generalize (z == f) = b1 at e1 HZ
  generalize (z == t) = b3 at e3 HZ
  generalize ahB z f = b0 at K1 HZ
  generalize ahB t z = b4 at K4 HZ
  generalize ahB z t = c2 at K3 HZ
  obtain ⟨zi, hzi⟩ : ∃ zi : Int, zi = z := ⟨_, rfl⟩
  obtain ⟨fi, hfi⟩ : ∃ zi : Int, zi = f := ⟨_, rfl⟩
  obtain ⟨ti, hti⟩ : ∃ zi : Int, zi = t := ⟨_, rfl⟩
  rw [← hzi, ← hfi] at e1 K1 K2
  rw [← hzi, ← hti] at e3 K3 K4
  rw [← hzi, ← hfi, ← hti]
  clear hzi hfi hti hz hf ht
  cases hg : ahB f z
  all_goals
    rw [hg] at K2 HZ
    first | rw [Bool.true_and] at HZ | rw [Bool.false_and] at HZ
    replace HZ := Lib.hid HZ
    clear hg
    go_enter Tryd.func48, Tryd.ntmps48
    go_wp2_with fail
    go_quiet (first | (go_at_call 53; with_reducible exact Calls.quiet_of_same (K1 _).out) | (go_at_call 53; with_reducible exact Calls.quiet_of_same (K2 _).out) | (go_at_call 53; with_reducible exact Calls.quiet_of_same (K3 _).out) | (go_at_call 53; with_reducible exact Calls.quiet_of_same (K4 _).out))
    go_wp2_with fail
    clear K1 K2 K3 K4
  · go_loopw [5, 35] (fun x i wr => ∃ k : Nat, k ≤ 5 ∧ i = .int .i64 k ∧ x = .int .u8 (wiU b0 b1 false b3 b4 k : Int) ∧ Ext w wr) (fun _ i _ => 5 - (intOf i).toNat)
    case atStart => exact ⟨0, by omega, rfl, rfl, ((Ext.refl w).alloc _).drewN _⟩
    case round =>
      obtain ⟨k, hk, rfl, rfl, hx⟩ := hrel
      by_cases hlt : k < 5
      · have hix := idx_b (b0 := b0) (b1 := b1) (b2 := false) (b3 := b3) (b4 := b4) hlt wr
        have HN := Lib.hid (wiU_step b0 b1 false b3 b4 k hlt).2
        have HO := Lib.hid (wiU_or b0 b1 false b3 b4 k hlt)
        generalize wiU b0 b1 false b3 b4 k = X at HN HO ⊢
        cases hb : bAt b0 b1 false b3 b4 k with
        | true =>
          rw [hb] at hix HN
          have HN := Lib.hid (show wiU b0 b1 false b3 b4 (k + 1) = X ||| 2 ^ k by rw [HN.out]; rfl)
          clear hb
          go_wp2_with fail
          go_roundw
          case rel => exact ⟨k + 1, by omega, by go_num, by rw [HN.out, ← HO.out], hx⟩
          case measure => simp [intOf]; omega
        | false =>
          rw [hb] at hix HN
          have HN := Lib.hid (show wiU b0 b1 false b3 b4 (k + 1) = X by rw [HN.out]; rfl)
          clear hb
          go_wp2_with fail
          go_roundw
          case rel => exact ⟨k + 1, by omega, by go_num, by rw [HN.out], hx⟩
          case measure => simp [intOf]; omega
      · have hge : ¬ ((k : Int) < 5) := by omega
        go_wp2_with fail
        obtain rfl : k = 5 := by omega
        rw [HZ.out]
        exact ⟨rfl, hx⟩
  · go_loopw [5, 35] (fun x i wr => ∃ k : Nat, k ≤ 5 ∧ i = .int .i64 k ∧ x = .int .u8 (wiU b0 b1 c2 b3 b4 k : Int) ∧ Ext w wr) (fun _ i _ => 5 - (intOf i).toNat)
    case atStart => exact ⟨0, by omega, rfl, rfl, ((Ext.refl w).alloc _).drewN _⟩
    case round =>
      obtain ⟨k, hk, rfl, rfl, hx⟩ := hrel
      by_cases hlt : k < 5
      · have hix := idx_b (b0 := b0) (b1 := b1) (b2 := c2) (b3 := b3) (b4 := b4) hlt wr
        have HN := Lib.hid (wiU_step b0 b1 c2 b3 b4 k hlt).2
        have HO := Lib.hid (wiU_or b0 b1 c2 b3 b4 k hlt)
        generalize wiU b0 b1 c2 b3 b4 k = X at HN HO ⊢
        cases hb : bAt b0 b1 c2 b3 b4 k with
        | true =>
          rw [hb] at hix HN
          have HN := Lib.hid (show wiU b0 b1 c2 b3 b4 (k + 1) = X ||| 2 ^ k by rw [HN.out]; rfl)
          clear hb
          go_wp2_with fail
          go_roundw
          case rel => exact ⟨k + 1, by omega, by go_num, by rw [HN.out, ← HO.out], hx⟩
          case measure => simp [intOf]; omega
        | false =>
          rw [hb] at hix HN
          have HN := Lib.hid (show wiU b0 b1 c2 b3 b4 (k + 1) = X by rw [HN.out]; rfl)
          clear hb
          go_wp2_with fail
          go_roundw
          case rel => exact ⟨k + 1, by omega, by go_num, by rw [HN.out], hx⟩
          case measure => simp [intOf]; omega
      · have hge : ¬ ((k : Int) < 5) := by omega
        go_wp2_with fail
        obtain rfl : k = 5 := by omega
        rw [HZ.out]
        exact ⟨rfl, hx⟩
end Go.Proofs.YtjldokhomohdbaaDoor
