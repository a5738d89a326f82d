/- The order's small parts: cmp.Compare, shiftOf, pack, compareLabels. -/
import Derived.Test.YthmpolifgngdiaaWa
import Derived.Test.YthmpolifgngdiaaMB
import Derived.StillTailTactics
namespace Go.Proofs.Ythmpolifgngdiaa
open Go.RowKit

/-- -1, 0, 1 -/
def sgn (a b : Int) : Int := if a < b then -1 else if b < a then 1 else 0

theorem isNaN_int (a : Int) (w : World) : Calls Try.prog 74 #[.int .i64 a] w fun e w' => e = .returned (.bool false) ∧ w = w' := by
  have h : (a != a) = false := by simp
  go_enter Try.func74, Try.ntmps74
  go_wp2
  go_ret
  exact ⟨rfl, rfl⟩
theorem isNaN_u64 (a : Int) (w : World) : Calls Try.prog 79 #[.int .u64 a] w fun e w' => e = .returned (.bool false) ∧ w = w' := by
  have h : (a != a) = false := by simp
  go_enter Try.func79, Try.ntmps79
  go_wp2
  go_ret
  exact ⟨rfl, rfl⟩
theorem cmp_int (a b : Int) (w : World) : Calls Try.prog 64 #[.int .i64 a, .int .i64 b] w fun e w' => e = .returned (.int .i64 (sgn a b)) ∧ w = w' := by
  rcases Int.lt_trichotomy a b with h | h | h
  · have H := Lib.hid (show sgn a b = -1 by simp [sgn, h])
    go_enter Try.func64, Try.ntmps64
    go_wp2_with (go_at_call 74; refine (isNaN_int _ _).mono ?_; rintro e w' ⟨rfl, rfl⟩)
    go_ret
    exact ⟨by rw [H.out]; rfl, rfl⟩
  · subst h
    have H := Lib.hid (show sgn a a = 0 by simp [sgn])
    go_enter Try.func64, Try.ntmps64
    go_wp2_with (go_at_call 74; refine (isNaN_int _ _).mono ?_; rintro e w' ⟨rfl, rfl⟩)
    go_ret
    exact ⟨by rw [H.out]; rfl, rfl⟩
  · have H := Lib.hid (show sgn a b = 1 by unfold sgn; rw [if_neg (by omega), if_pos h])
    have h' : ¬ a < b := by omega
    go_enter Try.func64, Try.ntmps64
    go_wp2_with (go_at_call 74; refine (isNaN_int _ _).mono ?_; rintro e w' ⟨rfl, rfl⟩)
    go_ret
    exact ⟨by rw [H.out]; rfl, rfl⟩
theorem cmp_u64 (a b : Int) (w : World) : Calls Try.prog 75 #[.int .u64 a, .int .u64 b] w fun e w' => e = .returned (.int .i64 (sgn a b)) ∧ w = w' := by
  rcases Int.lt_trichotomy a b with h | h | h
  · have H := Lib.hid (show sgn a b = -1 by simp [sgn, h])
    go_enter Try.func75, Try.ntmps75
    go_wp2_with (go_at_call 79; refine (isNaN_u64 _ _).mono ?_; rintro e w' ⟨rfl, rfl⟩)
    go_ret
    exact ⟨by rw [H.out]; rfl, rfl⟩
  · subst h
    have H := Lib.hid (show sgn a a = 0 by simp [sgn])
    go_enter Try.func75, Try.ntmps75
    go_wp2_with (go_at_call 79; refine (isNaN_u64 _ _).mono ?_; rintro e w' ⟨rfl, rfl⟩)
    go_ret
    exact ⟨by rw [H.out]; rfl, rfl⟩
  · have H := Lib.hid (show sgn a b = 1 by unfold sgn; rw [if_neg (by omega), if_pos h])
    have h' : ¬ a < b := by omega
    go_enter Try.func75, Try.ntmps75
    go_wp2_with (go_at_call 79; refine (isNaN_u64 _ _).mono ?_; rintro e w' ⟨rfl, rfl⟩)
    go_ret
    exact ⟨by rw [H.out]; rfl, rfl⟩

theorem shiftOf_any (i : Nat) (w : World) (hi : i < 16) :
    Calls Try.prog 76 #[.int .i64 i] w fun e w' => e = .returned (.int .u64 ((8 * (7 - i % 8) : Nat) : Int)) ∧ w' = w := by
  go_enter Try.func76, Try.ntmps76
  go_wp2
  go_ret
  exact ⟨ret_int (by omega), rfl⟩
/-- how two labels compare -/
def labI (a b c d : Int) : Int := if (sgn a c != 0) = true then sgn a c else sgn b d

theorem labels_any (a b c d : Int) (w : World) :
    Calls Try.prog 65 #[.agg #[.int .u64 a, .int .u64 b], .agg #[.int .u64 c, .int .u64 d]] w fun e w' => e = .returned (.int .i64 (labI a b c d)) ∧ Ext w w' := by
  have E : Hid (labI a b c d = if (sgn a c != 0) = true then sgn a c else sgn b d) := Lib.hid rfl
  go_enter Try.func65, Try.ntmps65
  go_wp2_with (go_at_call 75; refine (cmp_u64 _ _ _).mono ?_; rintro e w' ⟨rfl, rfl⟩)
  all_goals
    go_ret
    exact ⟨ret_int (by rw [E.out]; simp [*]), ((Ext.refl w).alloc _).alloc _⟩

/-- a block of two words -/
def Pair (w : World) (g : Nat) (x y : Int) : Prop := w.cell? ⟨g, 0, none⟩ = some (.int .u64 x) ∧ w.cell? ⟨g, 1, none⟩ = some (.int .u64 y) ∧ w.frozen? ⟨g, 0, none⟩ = false ∧ w.frozen? ⟨g, 1, none⟩ = false

theorem Pair.ext {w w' : World} {g : Nat} {x y : Int} (h : Pair w g x y) (k : Ext w w') (hg : g < w.heap.size) : Pair w' g x y :=
  ⟨k.cell h.1, k.cell h.2.1, (Below.frozen k hg).trans h.2.2.1, (Below.frozen k hg).trans h.2.2.2⟩
theorem Pair.drew {w : World} {g : Nat} {x y : Int} (h : Pair w g x y) : Pair w.drew g x y := h
theorem Pair.set0 {w : World} {g : Nat} {x y : Int} (h : Pair w g x y) (z : Int) : Pair (w.setCell ⟨g, 0, none⟩ (.int .u64 z)) g z y := by
  obtain ⟨a, b, c, d⟩ := h
  exact ⟨by go_simp, by go_simp, by go_simp, by go_simp⟩
theorem Pair.set1 {w : World} {g : Nat} {x y : Int} (h : Pair w g x y) (z : Int) : Pair (w.setCell ⟨g, 1, none⟩ (.int .u64 z)) g x z := by
  obtain ⟨a, b, c, d⟩ := h
  exact ⟨by go_simp, by go_simp, by go_simp, by go_simp⟩
theorem Pair.far {w : World} {g g' o : Nat} {x y : Int} (h : Pair w g x y) (z : Value) (hne : g ≠ g') : Pair (w.setCell ⟨g', o, none⟩ z) g x y := by
  obtain ⟨a, b, c, d⟩ := h
  refine ⟨?_, ?_, ?_, ?_⟩
  · rw [World.cell?_setCell_other _ _ _ _ (fun e => hne (by injection e with e; exact e.symm))]; exact a
  · rw [World.cell?_setCell_other _ _ _ _ (fun e => hne (by injection e with e; exact e.symm))]; exact b
  · simpa using c
  · simpa using d

theorem take_snoc (s : ByteArray) (k : Nat) (h : k < s.size) : s.data.toList.take (k + 1) = s.data.toList.take k ++ [s[k]] := by
  rw [List.take_succ_eq_append_getElem (by simpa using h)]; rfl
theorem take_len (s : ByteArray) (k : Nat) (h : k ≤ s.size) : (s.data.toList.take k).length = k := by
  have e : s.data.toList.length = s.size := by rw [Array.length_toList]; rfl
  rw [List.length_take, e]; omega

theorem low_step (s : ByteArray) (k : Nat) (h : k < s.size) (h8 : k < 8) :
    bits .or .u64 ((nm 8 (s.data.toList.take k) : Nat) : Int) (IntKind.u64.wrap (IntKind.u64.wrap (s[k].toNat : Int) * 2 ^ (8 * ((7 - k % 8 : Nat) : Int)).toNat)) = ((nm 8 (s.data.toList.take (k + 1)) : Nat) : Int) ∧
    nm 8 ((s.data.toList.take (k + 1)).drop 8) = nm 8 ((s.data.toList.take k).drop 8) := by
  have hl := take_len s k (by omega)
  refine ⟨?_, ?_⟩
  · rw [word_or _ k _ (nm_lt8 _), take_snoc s k h, ← nm_or 8 _ _ (by omega), hl, show 8 - 1 - k = 7 - k % 8 by omega]
  · rw [List.drop_eq_nil_of_le (by have := take_len s (k + 1) (by omega); omega), List.drop_eq_nil_of_le (by omega)]
theorem high_step (s : ByteArray) (k : Nat) (h : k < s.size) (h8 : 8 ≤ k) (h16 : k < 16) :
    bits .or .u64 ((nm 8 ((s.data.toList.take k).drop 8) : Nat) : Int) (IntKind.u64.wrap (IntKind.u64.wrap (s[k].toNat : Int) * 2 ^ (8 * ((7 - k % 8 : Nat) : Int)).toNat)) = ((nm 8 ((s.data.toList.take (k + 1)).drop 8) : Nat) : Int) ∧
    nm 8 (s.data.toList.take (k + 1)) = nm 8 (s.data.toList.take k) := by
  have hl := take_len s k (by omega)
  have hd : ((s.data.toList.take k).drop 8).length = k - 8 := by rw [List.length_drop, hl]
  refine ⟨?_, ?_⟩
  · rw [word_or _ k _ (nm_lt8 _), take_snoc s k h, List.drop_append_of_le_length (by omega), ← nm_or 8 _ _ (by omega), hd, show 8 - 1 - (k - 8) = 7 - k % 8 by omega]
  · rw [take_snoc s k h, nm_app 8 _ _ (by omega)]

set_option maxRecDepth 100000 in
set_option maxHeartbeats 1000000 in
theorem pack_any (s : ByteArray) (w : World) (hs : s.size ≤ 16) :
    Calls Try.prog 66 #[.string s] w fun e w' => e = .returned (.agg #[.int .u64 (nm 8 s.data.toList : Nat), .int .u64 (nm 8 (s.data.toList.drop 8) : Nat)]) ∧ Ext w w' := by
  go_enter Try.func66, Try.ntmps66
  go_wp2_with fail
  go_loopw [7] (fun i wr => ∃ (k : Nat), k ≤ s.size ∧ i = .int .i64 k ∧ Hid (Pair wr (w.heap.size + 1) (nm 8 (s.data.toList.take k) : Nat) (nm 8 ((s.data.toList.take k).drop 8) : Nat)) ∧ Hid (Pair wr w.heap.size 0 0) ∧ Ext w wr ∧ w.heap.size + 1 < wr.heap.size) (fun i _ => s.size - (intOf i).toNat)
  case atStart => exact ⟨0, Nat.zero_le _, rfl, Lib.hid ⟨by go_simp; rfl, by go_simp; rfl, by go_simp, by go_simp⟩, Lib.hid ⟨by go_simp, by go_simp, by go_simp, by go_simp⟩, ((Ext.refl w).alloc _).alloc _, by simp⟩
  case round =>
    obtain ⟨k, hk, rfl, HP, HZ, hx, hsz⟩ := hrel
    by_cases hlt : k < s.size
    · obtain ⟨p0, p1, f0, f1⟩ := HP.out
      by_cases h8 : k < 8
      · have hk8 : (k : Int) / 8 = 0 := by omega
        obtain ⟨v1, v2⟩ := low_step s k hlt h8
        have V1 := Lib.hid v1
        have V2 := Lib.hid v2
        clear v1 v2
        go_wp2_with fail
        refine wp_region_still_tail 15 (by kernel_rfl) (by kernel_rfl) ?_
        simp only [List.take_succ_cons, List.take_zero, List.drop_succ_cons, List.drop_zero]
        have hwr0 : IntKind.i64.wrap 0 = 0 := by decide
        iterate 10 still_step
        still_call (shiftOf_any k _ (by omega))
        repeat still_step
        refine wpStill_nil ?_
        rw [V1.out]
        change wpList _ _ _ _ _ wr.drew
        go_wp2_with fail
        go_roundw
        case rel => exact ⟨k + 1, by omega, by go_num, Lib.hid (by rw [V2.out]; exact (HP.out.set0 _).drew), Lib.hid ((HZ.out.far _ (by omega)).drew), (hx.setCell (show w.heap.size ≤ w.heap.size + 1 by omega) _).drew, by simpa using hsz⟩
        case measure => simp [intOf]; omega
      · have hk8 : (k : Int) / 8 = 1 := by omega
        obtain ⟨v1, v2⟩ := high_step s k hlt (by omega) (by omega)
        have V1 := Lib.hid v1
        have V2 := Lib.hid v2
        clear v1 v2
        go_wp2_with fail
        refine wp_region_still_tail 15 (by kernel_rfl) (by kernel_rfl) ?_
        simp only [List.take_succ_cons, List.take_zero, List.drop_succ_cons, List.drop_zero]
        have hwr0 : IntKind.i64.wrap 1 = 1 := by decide
        iterate 10 still_step
        still_call (shiftOf_any k _ (by omega))
        repeat still_step
        refine wpStill_nil ?_
        rw [V1.out]
        change wpList _ _ _ _ _ wr.drew
        go_wp2_with fail
        go_roundw
        case rel => exact ⟨k + 1, by omega, by go_num, Lib.hid (by rw [V2.out]; exact (HP.out.set1 _).drew), Lib.hid ((HZ.out.far _ (by omega)).drew), (hx.setCell (show w.heap.size ≤ w.heap.size + 1 by omega) _).drew, by simpa using hsz⟩
        case measure => simp [intOf]; omega
    · obtain ⟨p0, p1, f0, f1⟩ := HP.out
      obtain ⟨q0, q1, g0, g1⟩ := HZ.out
      have e : s.data.toList.length = s.size := by rw [Array.length_toList]; rfl
      have hts : s.data.toList.take k = s.data.toList := List.take_of_length_le (by omega)
      rw [hts] at p0 p1
      clear hts e HP
      go_wp2_with fail
      refine bodyPost_ret (v := .agg #[.int .u64 (nm 8 s.data.toList : Nat), .int .u64 (nm 8 (s.data.toList.drop 8) : Nat)]) (by simp [results, Try.results66, go_sem, *]) rfl ⟨rfl, ?_⟩
      exact (hx.setCell (Nat.le_refl _) _).setCell (Nat.le_refl _) _
end Go.Proofs.Ythmpolifgngdiaa
