/- SpanOne: what it rests on: the relations of two spans turned, their number; span.Turn; almagestref0.In. -/
import Derived.Test.YtgpjfagkjmnpgaaDoorSqh
namespace Go.Proofs.YtgpjfagkjmnpgaaDoor
open Go.RowKit Go.Maps

def turnE (r : Int) : Int := if rlB r then 0 else 1
def turnI (r : Int) : Int := if rlB r then 14 - r else 0
theorem Turn_any (r : Int) (w : World) : Calls Tryd.prog 33 #[.int .i64 r] w fun e w' => e = .returned (.tuple #[.int .i64 (turnI r), .int .i64 (turnE r)]) ∧ w' = w := by
  have KR := Lib.hid (relMay_any r w)
  have H1 : Hid (turnI r = if rlB r then 14 - r else 0) := Lib.hid rfl
  have H2 : Hid (turnE r = if rlB r then 0 else 1) := Lib.hid rfl
  cases h : rlB r with
  | false =>
    rw [h] at KR
    go_enter Tryd.func33, Tryd.ntmps33
    go_wp2_with fail
    refine KR.out.mono ?_
    rintro e w1 ⟨rfl, rfl⟩
    go_wp2_with fail
    go_ret2
    exact ⟨by rw [H1.out, H2.out, h]; rfl, rfl⟩
  | true =>
    rw [h] at KR
    have hrr : 1 ≤ r ∧ r ≤ 13 := by simpa [rlB] using h
    have KT := Lib.hid (turned_any r w hrr)
    clear hrr
    go_enter Tryd.func33, Tryd.ntmps33
    go_wp2_with fail
    refine KR.out.mono ?_
    rintro e w1 ⟨rfl, rfl⟩
    go_wp2_with fail
    refine KT.out.mono ?_
    rintro e w1 ⟨rfl, rfl⟩
    go_wp2_with fail
    go_ret2
    exact ⟨by rw [H1.out, H2.out, h]; rfl, rfl⟩

set_option maxHeartbeats 1000000 in
theorem In_any (ns : List Int) (n : Int) (A : Option Addr) (c : Nat) (w : World) (hl : ns.length ≤ 1000000) (h : IntsAt w ns A) (hn : n ∈ ns) :
    Calls Tryd.prog 38 #[.slice A ns.length c, .int .i64 n] w fun e w' => (∃ k : Nat, e = .returned (.int .i64 k)) ∧ w' = w := by
  go_enter Tryd.func38, Tryd.ntmps38
  go_wp2_with fail
  go_loop [5] (fun i => ∃ k : Nat, k ≤ ns.length ∧ i = .int .i64 k ∧ Hid (n ∈ ns.drop k)) (fun i => ns.length - (intOf i).toNat)
  case atStart => exact ⟨0, Nat.zero_le _, rfl, Lib.hid (by rw [List.drop_zero]; exact hn)⟩
  case round =>
    obtain ⟨k, hk, rfl, H⟩ := hrel
    by_cases hlt : k < ns.length
    · obtain ⟨b, o, rfl, c0⟩ := h k hlt
      obtain ⟨x, hx⟩ : ∃ x, x = ns[k] := ⟨_, rfl⟩
      rw [← hx] at c0
      have HX := Lib.hid hx
      clear hx
      by_cases hxn : x = n
      · have q : (x == n) = true := by simp [hxn]
        clear hxn
        go_wp2_with fail
        go_ret
        exact ⟨⟨k, rfl⟩, rfl⟩
      · have q : (x == n) = false := by simp [hxn]
        have H2 : Hid (n ∈ ns.drop (k + 1)) := Lib.hid (by
          have := H.out
          rw [List.drop_eq_getElem_cons hlt, ← HX.out] at this
          rcases List.mem_cons.1 this with e | e
          · exact absurd e.symm hxn
          · exact e)
        clear hxn
        go_wp2_with fail
        go_round
        case rel => exact ⟨k + 1, by omega, by go_num, H2⟩
        case measure => simp [intOf]; omega
    · have := H.out
      rw [List.drop_eq_nil_of_le (by omega)] at this
      cases this

/-! what the relations are -/
theorem allUp_mem (af at' bf bt : Int) (r : Int) : ∀ k : Nat, r ∈ allUp af at' bf bt k ↔ (1 ≤ r ∧ r ≤ k ∧ isB r af at' bf bt = true)
  | 0 => by simp [allUp]; omega
  | k + 1 => by
    rw [allUp, List.mem_append, allUp_mem af at' bf bt r k]
    constructor
    · rintro (⟨h1, h2, h3⟩ | h)
      · exact ⟨h1, by omega, h3⟩
      · split at h
        · rename_i hi
          rw [List.mem_singleton] at h
          subst h
          exact ⟨by omega, by omega, hi⟩
        · cases h
    · rintro ⟨h1, h2, h3⟩
      by_cases hk : r ≤ k
      · exact .inl ⟨h1, hk, h3⟩
      · have e : r = (k : Int) + 1 := by omega
        subst e
        rw [if_pos h3]
        exact .inr (List.mem_singleton.2 rfl)
theorem all_mem (af at' bf bt r : Int) : r ∈ allI af at' bf bt ↔ (1 ≤ r ∧ r ≤ 13 ∧ isB r af at' bf bt = true) := allUp_mem af at' bf bt r 13

theorem sd_turn (x y : Int) : sdI y x = if sdI x y = 1 then 4 else if sdI x y = 4 then 1 else 2 := by
  unfold sdI
  rcases Int.lt_trichotomy x y with h | h | h
  · have : ¬ y < x := by omega
    simp [h, this]
  · subst h; simp
  · have : ¬ x < y := by omega
    simp [h, this]
/-- turned round it is the turned one -/
theorem is_turn (r af at' bf bt : Int) : isB (14 - r) bf bt af at' = isB r af at' bf bt := by
  unfold isB
  by_cases h7 : r ≤ 7
  · by_cases h7' : r = 7
    · subst h7'
      rw [if_pos (by decide), if_pos (by decide)]
      show lowB 7 _ _ _ _ = lowB 7 _ _ _ _
      rw [← low7, ← low7, Bool.eq_iff_iff]
      simp only [Bool.and_eq_true, beq_iff_eq]
      constructor <;> rintro ⟨a, b⟩ <;> exact ⟨a.symm, b.symm⟩
    · rw [if_neg (by omega), if_pos h7, show 14 - (14 - r) = r by omega]
  · rw [if_pos (by omega), if_neg h7]

/-- how many of the first k are so -/
def cntUp (af at' bf bt : Int) : Nat → Nat
  | 0 => 0
  | k + 1 => cntUp af at' bf bt k + if isB ((k : Int) + 1) af at' bf bt then 1 else 0
theorem cnt_len (af at' bf bt : Int) : ∀ k, (allUp af at' bf bt k).length = cntUp af at' bf bt k
  | 0 => rfl
  | k + 1 => by
    rw [allUp, List.length_append, cnt_len af at' bf bt k, cntUp]
    split <;> rfl
def tS (s : Int) : Int := if s = 1 then 4 else if s = 4 then 1 else 2
/-- is a relation so, by how the four pairs of ends lie -/
def isS (r X Y Z V : Int) : Bool := if r ≤ 7 then lowS r X Y Z else lowS (14 - r) (tS X) V (tS Z)
def cntS (X Y Z V : Int) : Nat → Nat
  | 0 => 0
  | k + 1 => cntS X Y Z V k + if isS ((k : Int) + 1) X Y Z V then 1 else 0
theorem is_S (r af at' bf bt : Int) : isB r af at' bf bt = isS r (sdI af bf) (sdI at' bf) (sdI at' bt) (sdI bt af) := by
  unfold isB isS lowB
  rw [sd_turn af bf, sd_turn at' bt]
  rfl
theorem cnt_S (af at' bf bt : Int) : ∀ k, cntUp af at' bf bt k = cntS (sdI af bf) (sdI at' bf) (sdI at' bt) (sdI bt af) k
  | 0 => rfl
  | k + 1 => by rw [cntUp, cntS, cnt_S af at' bf bt k, is_S]
theorem all_len (af at' bf bt : Int) : (allI af at' bf bt).length = cntS (sdI af bf) (sdI at' bf) (sdI at' bt) (sdI bt af) 13 := by
  unfold allI
  rw [cnt_len, cnt_S]
theorem sd_mem (x y : Int) : sdI x y ∈ [(1 : Int), 2, 4] := by simpa using sdI_cases x y
theorem cnt_back : ∀ X ∈ [(1 : Int), 2, 4], ∀ Y ∈ [(1 : Int), 2, 4], ∀ Z ∈ [(1 : Int), 2, 4], ∀ V ∈ [(1 : Int), 2, 4], cntS X Y Z V 13 = cntS (tS X) V (tS Z) Y 13 := by decide +kernel
/-- the other way round there are as many -/
theorem all_back (af at' bf bt : Int) : (allI af at' bf bt).length = (allI bf bt af at').length := by
  rw [all_len, all_len, cnt_back _ (sd_mem _ _) _ (sd_mem _ _) _ (sd_mem _ _) _ (sd_mem _ _), sd_turn af bf, sd_turn at' bt]
  rfl
theorem sd_is (x y : Int) : (sdI x y = 1 ∧ x < y) ∨ (sdI x y = 2 ∧ x = y) ∨ (sdI x y = 4 ∧ y < x) := by
  unfold sdI
  rcases Int.lt_trichotomy x y with h | h | h
  · simp [h]
  · subst h; simp
  · have : ¬ x < y := by omega
    simp [h, this]
/-- of spans one at least is so -/
theorem all_some {af at' bf bt : Int} (ha : af ≤ at') (hb : bf ≤ bt) : 0 < (allI af at' bf bt).length := by
  rw [all_len]
  rcases sd_is af bf with ⟨e1, h1⟩ | ⟨e1, h1⟩ | ⟨e1, h1⟩ <;> rcases sd_is at' bf with ⟨e2, h2⟩ | ⟨e2, h2⟩ | ⟨e2, h2⟩ <;> rcases sd_is at' bt with ⟨e3, h3⟩ | ⟨e3, h3⟩ | ⟨e3, h3⟩ <;> rcases sd_is bt af with ⟨e4, h4⟩ | ⟨e4, h4⟩ | ⟨e4, h4⟩ <;>
    rw [e1, e2, e3, e4] <;> first | (exfalso; omega) | decide
/-- of two that are no points just one is so -/
theorem all_one {af at' bf bt : Int} (ha : af < at') (hb : bf < bt) : (allI af at' bf bt).length = 1 := by
  rw [all_len]
  rcases sd_is af bf with ⟨e1, h1⟩ | ⟨e1, h1⟩ | ⟨e1, h1⟩ <;> rcases sd_is at' bf with ⟨e2, h2⟩ | ⟨e2, h2⟩ | ⟨e2, h2⟩ <;> rcases sd_is at' bt with ⟨e3, h3⟩ | ⟨e3, h3⟩ | ⟨e3, h3⟩ <;> rcases sd_is bt af with ⟨e4, h4⟩ | ⟨e4, h4⟩ | ⟨e4, h4⟩ <;>
    rw [e1, e2, e3, e4] <;> first | (exfalso; omega) | decide
/-- each turned one is among the others' -/
theorem turn_in {af at' bf bt r : Int} (h : r ∈ allI af at' bf bt) : turnE r = 0 ∧ turnI r ∈ allI bf bt af at' := by
  obtain ⟨h1, h2, h3⟩ := (all_mem _ _ _ _ _).1 h
  have hr : rlB r = true := by simp [rlB, h1, h2]
  refine ⟨by unfold turnE; rw [hr]; rfl, ?_⟩
  have e : turnI r = 14 - r := by unfold turnI; rw [hr]; rfl
  rw [e]
  exact (all_mem _ _ _ _ _).2 ⟨by omega, by omega, by rw [is_turn]; exact h3⟩
end Go.Proofs.YtgpjfagkjmnpgaaDoor
