/- Numbers alike; almagestlaw7's small ones: num, Heavy, wakes; almagestlaw0.Within at 3, 2. -/
import Derived.Test.YtgpjfagkjmnpgaaDoorSqd
namespace Go.Proofs.YtgpjfagkjmnpgaaDoor
open Go.RowKit Go.Maps

set_option maxHeartbeats 1000000 in
theorem eqInts_any (a b : List Int) (A B : Option Addr) (c d : Nat) (w : World) (hl : a.length ≤ 1000000) (ha : IntsAt w a A) (hb : IntsAt w b B) :
    Calls Tryd.prog 30 #[.slice A a.length c, .slice B b.length d] w fun e w' => e = .returned (.bool (a == b)) ∧ Ext w w' := by
  by_cases hlen : a.length = b.length
  · have hne : ((a.length : Int) != (b.length : Int)) = false := by simp [hlen]
    have HL := Lib.hid hlen
    have H0 : Hid ((a.drop 0 == b.drop 0) = (a == b)) := Lib.hid rfl
    clear hlen
    go_enter Tryd.func30, Tryd.ntmps30
    go_wp2_with fail
    go_loopw [5] (fun i wr => ∃ (k : Nat), k ≤ a.length ∧ i = .int .i64 k ∧ Hid ((a.drop k == b.drop k) = (a == b)) ∧ Ext w wr) (fun i _ => a.length - (intOf i).toNat)
    case atStart => exact ⟨0, Nat.zero_le _, rfl, H0, Ext.refl _⟩
    case round =>
      obtain ⟨k, hk, rfl, H, hx⟩ := hrel
      by_cases hlt : k < a.length
      · have hlt2 : k < b.length := by have := HL.out; omega
        obtain ⟨g, o, rfl, c0⟩ := (ha.ext hx) k hlt
        obtain ⟨g', o', rfl, c1⟩ := (hb.ext hx) k hlt2
        have H2 : Hid ((a[k] == b[k] && a.drop (k + 1) == b.drop (k + 1)) = (a == b)) := by
          have := H.out
          rw [List.drop_eq_getElem_cons hlt, List.drop_eq_getElem_cons hlt2, List.cons_beq_cons] at this
          exact Lib.hid this
        have i0 : (0 : Int) ≤ (k : Int) := Int.natCast_nonneg _
        have i1 : (k : Int) < (a.length : Int) := by omega
        have i2 : (k : Int) < (b.length : Int) := by omega
        obtain ⟨x, hxx⟩ : ∃ x, x = a[k] := ⟨_, rfl⟩
        obtain ⟨y, hyy⟩ : ∃ y, y = b[k] := ⟨_, rfl⟩
        rw [← hxx] at H2 c0
        rw [← hyy] at H2 c1
        clear H hxx hyy
        by_cases hxy : x = y
        · have hq : (x != y) = false := by simp [hxy]
          have H3 : Hid ((a.drop (k + 1) == b.drop (k + 1)) = (a == b)) := Lib.hid (by rw [← H2.out, hxy]; simp)
          clear H2 hxy
          go_wp2_with fail
          go_quiet (fail)
          go_wp2_with fail
          go_roundw
          case rel => exact ⟨k + 1, by omega, by go_num, H3, hx.drewN _⟩
          case measure => simp [intOf]; omega
        · have hq : (x != y) = true := by simp [hxy]
          have H3 : Hid (false = (a == b)) := Lib.hid (by rw [← H2.out]; simp [hxy])
          clear H2 hxy
          go_wp2_with fail
          go_quiet (fail)
          go_wp2_with fail
          go_ret
          exact ⟨ret_bool H3.out, hx.drewN _⟩
      · have H3 : Hid (true = (a == b)) := by
          have := H.out
          have := HL.out
          rw [← H.out, List.drop_eq_nil_of_le (by omega), List.drop_eq_nil_of_le (by omega)]
          exact Lib.hid rfl
        clear H
        go_wp2_with fail
        go_ret
        exact ⟨ret_bool H3.out, hx⟩
  · have hne : ((a.length : Int) != (b.length : Int)) = true := by simp; omega
    have H3 : Hid (false = (a == b)) := Lib.hid (by
      symm; rw [beq_eq_false_iff_ne]; intro h; exact hlen (by rw [h]))
    go_enter Tryd.func30, Tryd.ntmps30
    go_wp2_with fail
    go_ret
    exact ⟨ret_bool H3.out, Ext.refl _⟩

theorem num_any (n : Int) (w : World) : Calls Tryd.prog 20 #[.int .i64 n] w fun e w' => e = .returned (.int .i64 n) ∧ w' = w := by
  go_enter Tryd.func20, Tryd.ntmps20
  go_wp2_with fail
  go_ret
  exact ⟨rfl, rfl⟩

theorem within_32 (w : World) : Calls Tryd.prog 49 #[.int .i64 3, .int .i64 2] w fun e w' => e = .returned (.int .i64 1) ∧ w' = w := by
  go_enter Tryd.func49, Tryd.ntmps49
  go_wp2_with fail
  go_ret
  exact ⟨rfl, rfl⟩

/-- how much texts are -/
def textsL : List ByteArray → Int → Int
  | [], n => n
  | s :: ss, n => if n < 1048576 then textsL ss (n + s.size) else n

set_option maxHeartbeats 1000000 in
theorem texts_any (ss : List ByteArray) (A : Option Addr) (c : Nat) (w : World) (hl : ss.length * 16 ≤ 140737488351232) (h : StrsAt w ss A) :
    Calls Tryd.prog 40 #[.slice A ss.length c] w fun e w' => e = .returned (.int .i64 (textsL ss ss.length)) ∧ w = w' := by
  have H0 : Hid (textsL (ss.drop 0) ss.length = textsL ss ss.length) := Lib.hid (by rw [List.drop_zero])
  go_enter Tryd.func40, Tryd.ntmps40
  go_wp2_with fail
  go_loop [3, 4] (fun m i => ∃ (k : Nat) (n : Int), k ≤ ss.length ∧ 0 ≤ n ∧ n ≤ 9007199254740992 ∧ i = .int .i64 k ∧ m = .int .i64 n ∧ Hid (textsL (ss.drop k) n = textsL ss ss.length)) (fun _ i => ss.length - (intOf i).toNat)
  case atStart => exact ⟨0, _, Nat.zero_le _, by omega, by omega, rfl, rfl, H0⟩
  case round =>
    obtain ⟨k, n, hk, hn0, hn1, rfl, rfl, H⟩ := hrel
    by_cases hlt : k < ss.length
    · obtain ⟨b, o, rfl, c0, hb⟩ := h k hlt
      have H2 : Hid ((if n < 1048576 then textsL (ss.drop (k + 1)) (n + ss[k].size) else n) = textsL ss ss.length) := by
        have := H.out
        rw [List.drop_eq_getElem_cons hlt, textsL] at this
        exact Lib.hid this
      clear H H0
      by_cases hn : n < 1048576
      · go_wp2_with fail
        go_round
        case rel => exact ⟨k + 1, n + ss[k].size, by omega, by omega, by omega, by go_num, rfl, Lib.hid (by have := H2.out; rwa [if_pos (by omega)] at this)⟩
        case measure => simp [intOf]; omega
      · have hn' : decide (n < 1048576) = false := decide_eq_false hn
        go_wp2_with fail
        go_ret
        exact ⟨ret_int (by have := H2.out; rwa [if_neg (by omega)] at this), rfl⟩
    · go_wp2_with fail
      go_ret
      exact ⟨ret_int (by have := H.out; rwa [List.drop_eq_nil_of_le (by omega), textsL] at this), rfl⟩

/-- is it more than is played? -/
def heavyB (n m : Nat) (ss : List ByteArray) : Bool := decide ((200 : Int) < n) || decide ((200 : Int) < m) || decide (2000 < textsL ss ss.length)
abbrev askCells (n : Nat) (A : Option Addr) (c : Nat) (m : Nat) (B : Option Addr) (d : Nat) (k : Nat) (C : Option Addr) (e : Nat) : Array Value := #[.slice A n c, .slice B m d, .slice C k e]

set_option maxHeartbeats 1000000 in
theorem heavy_any (n : Nat) (A : Option Addr) (c : Nat) (m : Nat) (B : Option Addr) (d : Nat) (ss : List ByteArray) (C : Option Addr) (e : Nat) (w : World) (hl : ss.length * 16 ≤ 140737488351232) (h : StrsAt w ss C) :
    Calls Tryd.prog 19 #[.agg (askCells n A c m B d ss.length C e)] w fun x w' => x = .returned (.bool (heavyB n m ss)) ∧ Ext w w' := by
  have HB : Hid (heavyB n m ss = (decide ((200 : Int) < n) || decide ((200 : Int) < m) || decide (2000 < textsL ss ss.length))) := Lib.hid rfl
  have KT := Lib.hid (fun u => texts_any ss C e u hl)
  have h1 := h.ext ((Ext.refl w).alloc (.cells (askCells n A c m B d ss.length C e) 26))
  by_cases q1 : (200 : Int) < n
  · go_enter Tryd.func19, Tryd.ntmps19
    go_wp2_with fail
    go_ret
    exact ⟨ret_bool (by rw [HB.out, decide_eq_true q1]; rfl), (Ext.refl w).alloc _⟩
  · have q1' : decide ((200 : Int) < n) = false := decide_eq_false q1
    by_cases q2 : (200 : Int) < m
    · go_enter Tryd.func19, Tryd.ntmps19
      go_wp2_with fail
      go_ret
      exact ⟨ret_bool (by rw [HB.out, decide_eq_true q2, q1']; rfl), (Ext.refl w).alloc _⟩
    · have q2' : decide ((200 : Int) < m) = false := decide_eq_false q2
      have HB2 : Hid (decide (2000 < textsL ss ss.length) = heavyB n m ss) := Lib.hid (by rw [HB.out, q1', q2']; rfl)
      go_enter Tryd.func19, Tryd.ntmps19
      go_wp2_with fail
      refine (KT.out _ h1).mono ?_
      rintro x w1 ⟨rfl, rfl⟩
      go_wp2_with fail
      go_ret
      exact ⟨ret_bool HB2.out, (Ext.refl w).alloc _⟩

theorem all_wakes : allI 1 2 3 4 = [1] := by kernel_rfl
theorem wakes_any (w : World) (hA : AskAt w) : Calls Tryd.prog 31 #[] w fun e w' => e = .returned (.bool true) ∧ Ext w w' := by
  have KL := Lib.hid (All_any 1 2 3 4 w hA)
  have KE := Lib.hid (fun A B c d u (ha : IntsAt u [1] A) (hb : IntsAt u [1] B) => eqInts_any [1] [1] A B c d u (by decide) ha hb)
  go_enter Tryd.func31, Tryd.ntmps31
  go_wp2_with fail
  refine KL.out.mono ?_
  rintro e w1 ⟨v, rfl, hown, hx1⟩
  rw [all_wakes] at hown
  obtain ⟨A, c, rfl, hc, hI⟩ := owned_ints hown
  clear hown KL
  simp only [List.length_singleton] at hc
  go_wp2_with fail
  refine (num_any _ _).mono ?_
  rintro e w2 ⟨rfl, rfl⟩
  go_wp2_with fail
  have hB : IntsAt (w2.alloc (.cells #[.int .i64 1] 3)) [1] (some ⟨w2.heap.size, 0, none⟩) := fun i hi => by
    have e : i = 0 := by simp at hi; omega
    subst e
    exact ⟨w2.heap.size, 0, rfl, by go_simp⟩
  refine (KE.out A _ c 1 _ (hI.ext ((Ext.refl _).alloc _)) hB).mono ?_
  rintro e w3 ⟨rfl, hx3⟩
  go_wp2_with fail
  go_ret
  exact ⟨rfl, (hx1.alloc _).trans hx3⟩

theorem copyNil_any (w : World) : Calls Tryd.prog 48 #[.slice none 0 0] w fun e w' => e = .returned (.slice none 0 0) ∧ w' = w := by
  go_enter Tryd.func48, Tryd.ntmps48
  go_wp2_with fail
  go_loopw [3, 4] (fun v i wr => v = .slice none 0 0 ∧ i = .int .i64 0 ∧ wr = w) (fun _ _ _ => 0)
  case atStart => exact ⟨rfl, rfl, rfl⟩
  case round =>
    obtain ⟨rfl, rfl, rfl⟩ := hrel
    go_wp2_with fail
    go_ret
    exact ⟨rfl, rfl⟩
end Go.Proofs.YtgpjfagkjmnpgaaDoor
