/- Package weave: what may be, one relation's set, the relations of a set, a set turned; span.Turn. -/
import Derived.Test.YtjldokhomohdbaaDoorWvd
import Derived.Test.YtjldokhomohdbaaDoorWvb
namespace Go.Proofs.YtjldokhomohdbaaDoor
open Go.RowKit Go.Maps

theorem relMay_any (r : Int) (w : World) : Calls Tryd.prog 51 #[.int .i64 r] w fun e w' => e = .returned (.bool (rlB r)) ∧ w' = w := by
  have HS : Hid (rlB r = (decide (1 ≤ r) && decide (r ≤ 13))) := Lib.hid rfl
  by_cases h1 : 1 ≤ r
  · go_enter Tryd.func51, Tryd.ntmps51
    go_wp2_with fail
    go_ret
    exact ⟨ret_bool (by rw [HS.out]; simp [h1]), rfl⟩
  · have h1' : decide (1 ≤ r) = false := decide_eq_false h1
    go_enter Tryd.func51, Tryd.ntmps51
    go_wp2_with fail
    go_ret
    exact ⟨ret_bool (by rw [HS.out, h1', Bool.false_and]), rfl⟩
theorem wrelMay_any (r : Int) (w : World) : Calls Tryd.prog 27 #[.int .i64 r] w fun e w' => e = .returned (.bool (rlB r)) ∧ w' = w := by
  have HS : Hid (rlB r = (decide (1 ≤ r) && decide (r ≤ 13))) := Lib.hid rfl
  by_cases h1 : 1 ≤ r
  · go_enter Tryd.func27, Tryd.ntmps27
    go_wp2_with fail
    go_ret
    exact ⟨ret_bool (by rw [HS.out]; simp [h1]), rfl⟩
  · have h1' : decide (1 ≤ r) = false := decide_eq_false h1
    go_enter Tryd.func27, Tryd.ntmps27
    go_wp2_with fail
    go_ret
    exact ⟨ret_bool (by rw [HS.out, h1', Bool.false_and]), rfl⟩
/-- may a set be? -/
def stB (s : Int) : Bool := decide (0 ≤ s) && decide (s ≤ 8191)
theorem setMay_any (s : Int) (w : World) : Calls Tryd.prog 29 #[.int .i64 s] w fun e w' => e = .returned (.bool (stB s)) ∧ w' = w := by
  have HS : Hid (stB s = (decide (0 ≤ s) && decide (s ≤ 8191))) := Lib.hid rfl
  by_cases h1 : 0 ≤ s
  · go_enter Tryd.func29, Tryd.ntmps29
    go_wp2_with fail
    go_ret
    exact ⟨ret_bool (by rw [HS.out]; simp [h1]), rfl⟩
  · have h1' : decide (0 ≤ s) = false := decide_eq_false h1
    go_enter Tryd.func29, Tryd.ntmps29
    go_wp2_with fail
    go_ret
    exact ⟨ret_bool (by rw [HS.out, h1', Bool.false_and]), rfl⟩
theorem st_nat {s : Int} (h : stB s = true) : ∃ x : Nat, s = x ∧ x < 8192 := by
  have : 0 ≤ s ∧ s ≤ 8191 := by simpa [stB] using h
  exact ⟨s.toNat, by omega, by omega⟩

theorem turned_any (r : Int) (w : World) (h : 1 ≤ r ∧ r ≤ 13) : Calls Tryd.prog 52 #[.int .i64 r] w fun e w' => e = .returned (.int .i64 (14 - r)) ∧ w' = w := by
  obtain ⟨h1, h2⟩ := h
  go_enter Tryd.func52, Tryd.ntmps52
  go_wp2_with fail
  go_ret
  exact ⟨rfl, rfl⟩
theorem sTurn_any (k : Nat) (hk : k < 13) (w : World) : Calls Tryd.prog 47 #[.int .i64 ((k : Int) + 1)] w fun e w' => e = .returned (.tuple #[.int .i64 ((12 - k : Nat) + 1), .int .i64 0]) ∧ w' = w := by
  have KR := Lib.hid (relMay_any ((k : Int) + 1) w)
  have h : rlB ((k : Int) + 1) = true := by simp [rlB]; omega
  rw [h] at KR
  have KT := Lib.hid (turned_any ((k : Int) + 1) w (by omega))
  have HE : Hid ((14 - ((k : Int) + 1)) = ((12 - k : Nat) : Int) + 1) := Lib.hid (by omega)
  clear h hk
  go_enter Tryd.func47, Tryd.ntmps47
  go_wp2_with fail
  refine KR.out.mono ?_
  rintro e w1 ⟨rfl, rfl⟩
  go_wp2_with fail
  refine KT.out.mono ?_
  rintro e w1 ⟨rfl, rfl⟩
  go_wp2_with fail
  go_ret2
  exact ⟨by rw [HE.out]; rfl, rfl⟩
theorem wturned_any (k : Nat) (hk : k < 13) (w : World) : Calls Tryd.prog 43 #[.int .i64 ((k : Int) + 1)] w fun e w' => e = .returned (.int .i64 ((12 - k : Nat) + 1)) ∧ w' = w := by
  have KT := Lib.hid (sTurn_any k hk w)
  clear hk
  go_enter Tryd.func43, Tryd.ntmps43
  go_wp2_with fail
  refine KT.out.mono ?_
  rintro e w1 ⟨rfl, rfl⟩
  go_wp2_with fail
  go_ret
  exact ⟨rfl, rfl⟩

theorem only_any (k : Nat) (hk : k < 13) (w : World) : Calls Tryd.prog 28 #[.int .i64 ((k : Int) + 1)] w fun e w' => e = .returned (.int .u16 ((2 ^ k : Nat) : Int)) ∧ w' = w := by
  obtain rfl | rfl | rfl | rfl | rfl | rfl | rfl | rfl | rfl | rfl | rfl | rfl | rfl : k = 0 ∨ k = 1 ∨ k = 2 ∨ k = 3 ∨ k = 4 ∨ k = 5 ∨ k = 6 ∨ k = 7 ∨ k = 8 ∨ k = 9 ∨ k = 10 ∨ k = 11 ∨ k = 12 := by omega
  all_goals
    go_enter Tryd.func28, Tryd.ntmps28
    go_wp2_with fail
    go_ret
    exact ⟨rfl, rfl⟩
theorem has_any (s k : Nat) (hs : s < 8192) (hk : k < 13) (w : World) : Calls Tryd.prog 42 #[.int .u16 (s : Int), .int .i64 ((k : Int) + 1)] w fun e w' => e = .returned (.bool (s.testBit k)) ∧ w' = w := by
  have KO := Lib.hid (only_any k hk w)
  have HB := Lib.hid (has_bit hs hk)
  clear hs hk
  obtain ⟨p, hp⟩ : ∃ p, p = ((2 ^ k : Nat) : Int) := ⟨_, rfl⟩
  rw [← hp] at KO HB
  clear hp
  go_enter Tryd.func42, Tryd.ntmps42
  go_wp2_with fail
  refine KO.out.mono ?_
  rintro e w1 ⟨rfl, rfl⟩
  go_wp2_with fail
  go_ret
  exact ⟨ret_bool HB.out, rfl⟩

def ListOut (w : World) (s : Nat) (e : Ending) (w' : World) : Prop := ∃ v, e = .returned v ∧ IntsOut w (lsUp s 13) v w'
set_option maxRecDepth 100000 in
set_option maxHeartbeats 2000000 in
theorem list_any (s : Nat) (hs : s < 8192) (w2 : World) : Calls Tryd.prog 30 #[.int .u16 (s : Int)] w2 (ListOut w2 s) := by
  obtain ⟨i0, hi0, hz0, hz1, hz2⟩ := info_parts infoInt
  have KH := fun k hk u => Lib.hid (has_any s k hs hk u)
  clear hs
  go_enter Tryd.func30, Tryd.ntmps30
  go_wp2_with fail
  go_loopw [3, 4] (fun v r wr => ∃ k : Nat, k ≤ 13 ∧ r = .int .i64 ((k : Int) + 1) ∧ wr.ownsRow w2.heap.size 3 1 v (lsUp s k).length (intCells (lsUp s k)) ∧ Ext w2 wr) (fun _ r _ => 14 - (intOf r).toNat)
  case atStart => exact ⟨0, by omega, rfl, World.ownsRow_nil _ _ _ _, Ext.refl _⟩
  case round =>
    obtain ⟨k, hk, rfl, hown, hx⟩ := hrel
    by_cases hlt : k < 13
    · have KS := KH k hlt wr
      have hle : (k : Int) + 1 ≤ 13 := by omega
      have hlen := lsUp_len s k
      have hxs := hx.size
      have HS : Hid (lsUp s (k + 1) = lsUp s k ++ if s.testBit k then [(k : Int) + 1] else []) := Lib.hid rfl
      cases h4 : s.testBit k with
      | true =>
        rw [h4] at KS
        have HS2 : Hid (lsUp s (k + 1) = lsUp s k ++ [(k : Int) + 1]) := Lib.hid (by rw [HS.out, h4]; rfl)
        clear HS h4
        go_wp2_with fail
        refine KS.out.mono ?_
        rintro e w3 ⟨rfl, rfl⟩
        go_wp2_with (at_builtin; refine wpList_app _ rfl _ _ 22 rfl w2.heap.size 3 i0 _ 1 8 Tryd.underlying22 hi0 hz0 hz1 hz2 rfl (by decide) _ _ (intCells (lsUp s k)) rfl (hown.alloc _) (some ⟨w3.heap.size, 0, none⟩) 1 1 [.int .i64 ((k : Int) + 1)] rfl (Src.box w3 #[.int .i64 ((k : Int) + 1)] 3 1 rfl) ?c2 ?c3 ?c4 ?c5 ?_)
        case c2 => intro u hu; simp at hu; subst hu; rfl
        case c3 => simp only [maxLen]; omega
        case c4 => omega
        case c5 => simp; omega
        intro v' w4 hown4 hgrow _
        have hx4 : Ext w2 w4 := Below.grown (hx.alloc _) hgrow (by simp; omega) (fun b hb => (hown.lt b hb).1)
        have hown5 : w4.ownsRow w2.heap.size 3 1 v' (lsUp s (k + 1)).length (intCells (lsUp s (k + 1))) := by rw [HS2.out, intCells_snoc, List.length_append]; exact hown4
        clear hown4 hgrow hown KS
        go_wp2_with fail
        go_roundw
        case rel => exact ⟨k + 1, by omega, by go_num, hown5, hx4⟩
        case measure => simp [intOf]; omega
      | false =>
        rw [h4] at KS
        have HS2 : Hid (lsUp s (k + 1) = lsUp s k) := Lib.hid (by rw [HS.out, h4]; exact List.append_nil _)
        clear HS h4
        go_wp2_with fail
        refine KS.out.mono ?_
        rintro e w3 ⟨rfl, rfl⟩
        go_wp2_with fail
        go_roundw
        case rel => exact ⟨k + 1, by omega, by go_num, by rw [HS2.out]; exact hown, hx⟩
        case measure => simp [intOf]; omega
    · have e : k = 13 := by omega
      subst e
      go_wp2_with fail
      go_ret
      exact ⟨_, rfl, hown, hx⟩

/-- one of a set's relations -/
theorem ls_at {s i : Nat} (h : i < (lsUp s 13).length) : ∃ k : Nat, k < 13 ∧ (lsUp s 13)[i] = (k : Int) + 1 := by
  obtain ⟨k, h1, h2, _⟩ := lsUp_mem (List.getElem_mem h)
  exact ⟨k, h1, h2⟩
theorem ls_len13 (s : Nat) : (lsUp s 13).length ≤ 13 := lsUp_len s 13
theorem p16 {k : Nat} (h : k < 13) : 2 ^ k < 65536 := Nat.lt_trans (two_lt h) (by decide)

set_option maxHeartbeats 1000000 in
theorem sturned_any (s : Nat) (hs : s < 8192) (w : World) : Calls Tryd.prog 31 #[.int .u16 (s : Int)] w fun e w' => e = .returned (.int .u16 (turnS s : Int)) ∧ Ext w w' := by
  have KL := Lib.hid (list_any s hs w)
  have HT : Hid (turnS s = orL (fun k => 2 ^ (12 - k)) (lsUp s 13)) := Lib.hid (orL_ls _ s 13).symm
  have hlb := ls_len13 s
  clear hs
  go_enter Tryd.func31, Tryd.ntmps31
  go_wp2_with fail
  refine KL.out.mono ?_
  rintro e w1 ⟨v, rfl, hown, hx1⟩
  obtain ⟨A, c, rfl, hc, hI⟩ := owned_ints hown
  clear hown KL
  go_wp2_with fail
  go_loopw [3, 9] (fun x i wr => ∃ k : Nat, k ≤ (lsUp s 13).length ∧ i = .int .i64 k ∧ x = .int .u16 (orL (fun k => 2 ^ (12 - k)) ((lsUp s 13).take k) : Int) ∧ orL (fun k => 2 ^ (12 - k)) ((lsUp s 13).take k) < 8192 ∧ Ext w1 wr) (fun _ i _ => (lsUp s 13).length - (intOf i).toNat)
  case atStart => exact ⟨0, Nat.zero_le _, rfl, rfl, Nat.zero_lt_succ _, Ext.refl _⟩
  case round =>
    obtain ⟨k, hk, rfl, rfl, hlt8, hx⟩ := hrel
    by_cases hlt : k < (lsUp s 13).length
    · obtain ⟨b, o, rfl, c0⟩ := (hI.ext hx) k hlt
      obtain ⟨q, hq, hqe⟩ := ls_at hlt
      have HN := Lib.hid (orL_take (f := fun k => 2 ^ (12 - k)) hlt)
      rw [hqe] at c0 HN
      have HN2 : Hid (bits .or .u16 (orL (fun k => 2 ^ (12 - k)) ((lsUp s 13).take k) : Int) ((2 ^ (12 - q) : Nat) : Int) = (orL (fun k => 2 ^ (12 - k)) ((lsUp s 13).take (k + 1)) : Int)) := Lib.hid (by
        rw [HN.out, or16 _ _ (by omega) (p16 (by omega)), show ((q : Int) + 1 - 1).toNat = q by omega])
      have h8 : orL (fun k => 2 ^ (12 - k)) ((lsUp s 13).take (k + 1)) < 8192 := by
        rw [HN.out]; exact or_lt hlt8 (by rw [show ((q : Int) + 1 - 1).toNat = q by omega]; exact two_lt (by omega))
      have KT := fun u => Lib.hid (wturned_any q hq u)
      have KO := fun u => Lib.hid (only_any (12 - q) (by omega) u)
      obtain ⟨x, hx'⟩ : ∃ x, x = (orL (fun k => 2 ^ (12 - k)) ((lsUp s 13).take k) : Int) := ⟨_, rfl⟩
      obtain ⟨p, hp⟩ : ∃ p, p = ((2 ^ (12 - q) : Nat) : Int) := ⟨_, rfl⟩
      rw [← hx', ← hp] at HN2
      rw [← hp] at KO
      rw [← hx']
      obtain ⟨z, hz⟩ : ∃ z : Int, z = (q : Int) + 1 := ⟨_, rfl⟩
      rw [← hz] at c0 KT
      obtain ⟨y, hy⟩ : ∃ y : Int, y = ((12 - q : Nat) : Int) + 1 := ⟨_, rfl⟩
      rw [← hy] at KT KO
      clear HN hqe hx' hp hq hz hy hlt8
      go_wp2_with fail
      refine (KT _).out.mono ?_
      rintro e w3 ⟨rfl, rfl⟩
      go_wp2_with fail
      refine (KO _).out.mono ?_
      rintro e w3 ⟨rfl, rfl⟩
      go_wp2_with fail
      go_roundw
      case rel => exact ⟨k + 1, by omega, by go_num, by rw [HN2.out], h8, hx⟩
      case measure => simp [intOf]; omega
    · have e : k = (lsUp s 13).length := by omega
      subst e
      have HE : Hid (orL (fun k => 2 ^ (12 - k)) ((lsUp s 13).take (lsUp s 13).length) = turnS s) := Lib.hid (by rw [List.take_length, HT.out])
      go_wp2_with fail
      go_ret
      exact ⟨by rw [HE.out]; rfl, hx1.trans hx⟩
end Go.Proofs.YtjldokhomohdbaaDoor
