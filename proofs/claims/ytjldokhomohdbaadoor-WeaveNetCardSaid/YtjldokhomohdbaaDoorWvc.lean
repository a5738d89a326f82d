/- How two spans lie; almagestref7.Is: the document's own relations. -/
import Derived.Test.YtjldokhomohdbaaDoorExt
import Derived.WalkKit
import Derived.WalkSpells
import Derived.StillTailTactics
import Derived.Deep.RegionHeld3
import Derived.Deep.QuietTactic
import Derived.BigQuiet
import Derived.BigGuardPart
import Derived.Deep.Cut
import Derived.Deep.CutBlock
import Derived.Deep.RegionLaw
namespace Go.Proofs.YtjldokhomohdbaaDoor
open Go.RowKit
/-- how an end lies to another one: a bit -/
def sdI (x y : Int) : Int := if x < y then 1 else if y < x then 4 else 2
theorem sdI_cases (x y : Int) : sdI x y = 1 ∨ sdI x y = 2 ∨ sdI x y = 4 := by
  unfold sdI
  split
  · simp
  · split <;> simp
theorem sd_lt (x y : Int) : decide (x < y) = (sdI x y == 1) := by
  unfold sdI
  rcases Int.lt_trichotomy x y with h | h | h
  · simp [h]
  · subst h; simp
  · have : ¬ x < y := by omega
    simp [h, this]
theorem sd_eq (x y : Int) : (x == y) = (sdI x y == 2) := by
  unfold sdI
  rcases Int.lt_trichotomy x y with h | h | h
  · have : x ≠ y := by omega
    simp [h, this]
  · subst h; simp
  · have h1 : ¬ x < y := by omega
    have h2 : x ≠ y := by omega
    simp [h, h1, h2]
theorem sd_gt (x y : Int) : decide (y < x) = (sdI x y == 4) := by
  unfold sdI
  rcases Int.lt_trichotomy x y with h | h | h
  · have : ¬ y < x := by omega
    simp [h, this]
  · subst h; simp
  · have h1 : ¬ x < y := by omega
    simp [h, h1]

abbrev spV (f t : Int) : Value := .agg #[.int .i64 f, .int .i64 t]

/-- a relation up to equal, by how the ends lie -/
def lowS (r X Y Z : Int) : Bool :=
  if r = 1 then Y == 1 else if r = 2 then Y == 2 else if r = 3 then X == 1 && Y == 4 && Z == 1 else if r = 4 then X == 2 && Z == 1
  else if r = 5 then X == 4 && Z == 1 else if r = 6 then Z == 2 && X == 4 else X == 2 && Z == 2
/-- is a relation up to equal so? -/
def lowB (r af at' bf bt : Int) : Bool := lowS r (sdI af bf) (sdI at' bf) (sdI at' bt)
/-- is a relation so? -/
def isB (r af at' bf bt : Int) : Bool := if r ≤ 7 then lowB r af at' bf bt else lowB (14 - r) bf bt af at'

theorem low_is {r : Int} (h : r ≤ 7) (af at' bf bt : Int) : lowB r af at' bf bt = isB r af at' bf bt := by unfold isB; rw [if_pos h]
theorem high_is {r : Int} (h : 7 < r) (af at' bf bt : Int) : lowB (14 - r) bf bt af at' = isB r af at' bf bt := by unfold isB; rw [if_neg (by omega)]

/-- may a relation be? -/
def rlB (r : Int) : Bool := decide (1 ≤ r) && decide (r ≤ 13)

theorem low1 (af at' bf bt : Int) : decide (at' < bf) = lowB 1 af at' bf bt := sd_lt _ _
theorem low2 (af at' bf bt : Int) : (at' == bf) = lowB 2 af at' bf bt := sd_eq _ _
theorem low3 (af at' bf bt : Int) : (decide (af < bf) && decide (bf < at') && decide (at' < bt)) = lowB 3 af at' bf bt := by rw [sd_lt, sd_gt, sd_lt]; rfl
theorem low4 (af at' bf bt : Int) : ((af == bf) && decide (at' < bt)) = lowB 4 af at' bf bt := by rw [sd_eq, sd_lt]; rfl
theorem low5 (af at' bf bt : Int) : (decide (bf < af) && decide (at' < bt)) = lowB 5 af at' bf bt := by rw [sd_gt, sd_lt]; rfl
theorem low6 (af at' bf bt : Int) : ((at' == bt) && decide (bf < af)) = lowB 6 af at' bf bt := by rw [sd_eq, sd_gt]; rfl
theorem low7 (af at' bf bt : Int) : ((af == bf) && (at' == bt)) = lowB 7 af at' bf bt := by rw [sd_eq af bf, sd_eq at' bt]; rfl

theorem rTurn_any (r : Int) (w : World) (h : 1 ≤ r ∧ r ≤ 13) : Calls Tryd.prog 33 #[.int .i64 r] w fun e w' => e = .returned (.int .i64 (14 - r)) ∧ w' = w := by
  obtain ⟨h1, h2⟩ := h
  go_enter Tryd.func33, Tryd.ntmps33
  go_wp2_with fail
  go_ret
  exact ⟨rfl, rfl⟩

def RIs (r : Int) : Prop := ∀ (af at' bf bt : Int) (w : World),
    Calls Tryd.prog 46 #[.int .i64 r, spV af at', spV bf bt] w fun e w' => e = .returned (.bool (lowB r af at' bf bt)) ∧ Ext w w'

theorem rIs1 : RIs 1 := fun af at' bf bt w => by
  have HE := Lib.hid (low1 af at' bf bt)
  go_enter Tryd.func46, Tryd.ntmps46
  go_wp2_with fail
  go_ret
  exact ⟨ret_bool HE.out, ((Ext.refl w).alloc _).alloc _⟩
theorem rIs2 : RIs 2 := fun af at' bf bt w => by
  have HE := Lib.hid (low2 af at' bf bt)
  go_enter Tryd.func46, Tryd.ntmps46
  go_wp2_with fail
  go_ret
  exact ⟨ret_bool HE.out, ((Ext.refl w).alloc _).alloc _⟩
theorem rIs3 : RIs 3 := fun af at' bf bt w => by
  have HE := Lib.hid (low3 af at' bf bt)
  by_cases h1 : af < bf
  · by_cases h2 : bf < at'
    · have HE2 : Hid (decide (at' < bt) = lowB 3 af at' bf bt) := Lib.hid (by rw [← HE.out, decide_eq_true h1, decide_eq_true h2]; rfl)
      go_enter Tryd.func46, Tryd.ntmps46
      go_wp2_with fail
      go_ret
      exact ⟨ret_bool HE2.out, ((Ext.refl w).alloc _).alloc _⟩
    · have h2' : decide (bf < at') = false := decide_eq_false h2
      have HE2 : Hid (false = lowB 3 af at' bf bt) := Lib.hid (by rw [← HE.out, h2', Bool.and_false, Bool.false_and])
      go_enter Tryd.func46, Tryd.ntmps46
      go_wp2_with fail
      go_ret
      exact ⟨ret_bool HE2.out, ((Ext.refl w).alloc _).alloc _⟩
  · have h1' : decide (af < bf) = false := decide_eq_false h1
    have HE2 : Hid (false = lowB 3 af at' bf bt) := Lib.hid (by rw [← HE.out, h1', Bool.false_and, Bool.false_and])
    go_enter Tryd.func46, Tryd.ntmps46
    go_wp2_with fail
    go_ret
    exact ⟨ret_bool HE2.out, ((Ext.refl w).alloc _).alloc _⟩
theorem rIs4 : RIs 4 := fun af at' bf bt w => by
  have HE := Lib.hid (low4 af at' bf bt)
  cases h1 : (af == bf) with
  | true =>
    have HE2 : Hid (decide (at' < bt) = lowB 4 af at' bf bt) := Lib.hid (by rw [← HE.out, h1]; rfl)
    go_enter Tryd.func46, Tryd.ntmps46
    go_wp2_with fail
    go_ret
    exact ⟨ret_bool HE2.out, ((Ext.refl w).alloc _).alloc _⟩
  | false =>
    have HE2 : Hid (false = lowB 4 af at' bf bt) := Lib.hid (by rw [← HE.out, h1]; rfl)
    go_enter Tryd.func46, Tryd.ntmps46
    go_wp2_with fail
    go_ret
    exact ⟨ret_bool HE2.out, ((Ext.refl w).alloc _).alloc _⟩
theorem rIs5 : RIs 5 := fun af at' bf bt w => by
  have HE := Lib.hid (low5 af at' bf bt)
  by_cases h1 : bf < af
  · have HE2 : Hid (decide (at' < bt) = lowB 5 af at' bf bt) := Lib.hid (by rw [← HE.out, decide_eq_true h1]; rfl)
    go_enter Tryd.func46, Tryd.ntmps46
    go_wp2_with fail
    go_ret
    exact ⟨ret_bool HE2.out, ((Ext.refl w).alloc _).alloc _⟩
  · have h1' : decide (bf < af) = false := decide_eq_false h1
    have HE2 : Hid (false = lowB 5 af at' bf bt) := Lib.hid (by rw [← HE.out, h1']; rfl)
    go_enter Tryd.func46, Tryd.ntmps46
    go_wp2_with fail
    go_ret
    exact ⟨ret_bool HE2.out, ((Ext.refl w).alloc _).alloc _⟩
theorem rIs6 : RIs 6 := fun af at' bf bt w => by
  have HE := Lib.hid (low6 af at' bf bt)
  cases h1 : (at' == bt) with
  | true =>
    have HE2 : Hid (decide (bf < af) = lowB 6 af at' bf bt) := Lib.hid (by rw [← HE.out, h1]; rfl)
    go_enter Tryd.func46, Tryd.ntmps46
    go_wp2_with fail
    go_ret
    exact ⟨ret_bool HE2.out, ((Ext.refl w).alloc _).alloc _⟩
  | false =>
    have HE2 : Hid (false = lowB 6 af at' bf bt) := Lib.hid (by rw [← HE.out, h1]; rfl)
    go_enter Tryd.func46, Tryd.ntmps46
    go_wp2_with fail
    go_ret
    exact ⟨ret_bool HE2.out, ((Ext.refl w).alloc _).alloc _⟩
theorem rIs7 : RIs 7 := fun af at' bf bt w => by
  have HE := Lib.hid (low7 af at' bf bt)
  by_cases h1 : af = bf
  · by_cases h2 : at' = bt
    · have HE2 : Hid (true = lowB 7 af at' bf bt) := Lib.hid (by rw [← HE.out, h1, h2]; simp)
      go_enter Tryd.func46, Tryd.ntmps46
      go_wp2_with fail
      go_ret
      exact ⟨ret_bool HE2.out, ((Ext.refl w).alloc _).alloc _⟩
    · have HE2 : Hid (false = lowB 7 af at' bf bt) := Lib.hid (by rw [← HE.out]; simp [h2])
      go_enter Tryd.func46, Tryd.ntmps46
      go_wp2_with fail
      go_ret
      exact ⟨ret_bool HE2.out, ((Ext.refl w).alloc _).alloc _⟩
  · have HE2 : Hid (false = lowB 7 af at' bf bt) := Lib.hid (by rw [← HE.out]; simp [h1])
    go_enter Tryd.func46, Tryd.ntmps46
    go_wp2_with fail
    go_ret
    exact ⟨ret_bool HE2.out, ((Ext.refl w).alloc _).alloc _⟩
theorem rIs_low (r : Int) (h1 : 1 ≤ r) (h7 : r ≤ 7) : RIs r := by
  obtain rfl | rfl | rfl | rfl | rfl | rfl | rfl : r = 1 ∨ r = 2 ∨ r = 3 ∨ r = 4 ∨ r = 5 ∨ r = 6 ∨ r = 7 := by omega
  · exact rIs1
  · exact rIs2
  · exact rIs3
  · exact rIs4
  · exact rIs5
  · exact rIs6
  · exact rIs7

set_option maxHeartbeats 1000000 in
theorem rIs_any (r af at' bf bt : Int) (w : World) (h1 : 1 ≤ r) (h13 : r ≤ 13) :
    Calls Tryd.prog 46 #[.int .i64 r, spV af at', spV bf bt] w fun e w' => e = .returned (.bool (isB r af at' bf bt)) ∧ Ext w w' := by
  by_cases h7 : r ≤ 7
  · rw [← low_is h7]
    exact rIs_low r h1 h7 af at' bf bt w
  · have HE := Lib.hid (high_is (by omega : 7 < r) af at' bf bt)
    have KT := Lib.hid (fun u => rTurn_any r u ⟨h1, h13⟩)
    have hg : (7 : Int) < r := by omega
    have hx0 := ((Ext.refl w).alloc (.cells #[.int .i64 af, .int .i64 at'] 52)).alloc (.cells #[.int .i64 bf, .int .i64 bt] 52)
    have KS := Lib.hid (fun u => rIs_low (14 - r) (by omega) (by omega) bf bt af at' u)
    have e1 : (r == 1) = false := by simp; omega
    have e2 : (r == 2) = false := by simp; omega
    have e3 : (r == 3) = false := by simp; omega
    have e4 : (r == 4) = false := by simp; omega
    have e5 : (r == 5) = false := by simp; omega
    have e6 : (r == 6) = false := by simp; omega
    have e7 : (r == 7) = false := by simp; omega
    go_enter Tryd.func46, Tryd.ntmps46
    go_wp2_with fail
    have q1 : (((w.alloc (.cells #[.int .i64 af, .int .i64 at'] 52)).alloc (.cells #[.int .i64 bf, .int .i64 bt] 52))).cell? ⟨w.heap.size, 0, none⟩ = some (.int .i64 af) := by go_simp
    have q2 : (((w.alloc (.cells #[.int .i64 af, .int .i64 at'] 52)).alloc (.cells #[.int .i64 bf, .int .i64 bt] 52))).cell? ⟨w.heap.size, 1, none⟩ = some (.int .i64 at') := by go_simp
    have q3 : (((w.alloc (.cells #[.int .i64 af, .int .i64 at'] 52)).alloc (.cells #[.int .i64 bf, .int .i64 bt] 52))).cell? ⟨w.heap.size + 1, 0, none⟩ = some (.int .i64 bf) := by go_simp
    have q4 : (((w.alloc (.cells #[.int .i64 af, .int .i64 at'] 52)).alloc (.cells #[.int .i64 bf, .int .i64 bt] 52))).cell? ⟨w.heap.size + 1, 1, none⟩ = some (.int .i64 bt) := by go_simp
    generalize ((w.alloc (.cells #[.int .i64 af, .int .i64 at'] 52)).alloc (.cells #[.int .i64 bf, .int .i64 bt] 52)) = W0 at *
    replace q1 : ∀ p : ExtOf W0, _ := ext_cell q1
    replace q2 : ∀ p : ExtOf W0, _ := ext_cell q2
    replace q3 : ∀ p : ExtOf W0, _ := ext_cell q3
    replace q4 : ∀ p : ExtOf W0, _ := ext_cell q4
    have KS' : Hid (∀ p : ExtOf W0, Calls Tryd.prog 46 #[.int .i64 (14 - r), spV bf bt, spV af at'] p.to fun e w' => e = .returned (.bool (lowB (14 - r) bf bt af at')) ∧ Ext p.to w') := Lib.hid fun p => KS.out _
    have KT' : Hid (∀ p : ExtOf W0, Calls Tryd.prog 33 #[.int .i64 r] p.to fun e w' => e = .returned (.int .i64 (14 - r)) ∧ Ext p.to w') := Lib.hid fun p => (KT.out _).mono fun _ _ ⟨e, k⟩ => ⟨e, k ▸ Ext.refl _⟩
    clear KS KT
    refine wp_region_ext (by kernel_rfl) (by kernel_rfl) ?_
    repeat (go_big_quiet_step (first | (go_at_call 33; exact of_ext (KT'.out _)) | (go_at_call 46; exact of_ext (KS'.out _))))
    refine wpQuiet_nil ?_
    refine ext_all ?_
    intro w2 hx2
    go_wp2_with fail
    go_ret
    exact ⟨ret_bool HE.out, hx0.trans hx2⟩
end Go.Proofs.YtjldokhomohdbaaDoor
