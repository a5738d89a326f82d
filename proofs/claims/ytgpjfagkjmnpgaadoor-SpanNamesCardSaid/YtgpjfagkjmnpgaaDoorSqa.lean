/- Package span: how two spans lie (side, lieOf), and what may be. -/
import Derived.Test.YtgpjfagkjmnpgaaDoorExt
import Derived.WalkKit
import Derived.WalkSpells
import Derived.StillTailTactics
import Derived.Deep.RegionHeld3
import Derived.Deep.QuietTactic
import Derived.BigQuiet
import Derived.BigGuardPart
import Derived.Deep.Cut
import Derived.Deep.CutBlock
import Derived.Deep.RegionLaw
namespace Go.Proofs.YtgpjfagkjmnpgaaDoor
open Go.RowKit

/-- -1, 0, 1 -/
def sgn (a b : Int) : Int := if a < b then -1 else if b < a then 1 else 0

theorem isNaN_int (a : Int) (w : World) : Calls Tryd.prog 53 #[.int .i64 a] w fun e w' => e = .returned (.bool false) ∧ w = w' := by
  have h : (a != a) = false := by simp
  go_enter Tryd.func53, Tryd.ntmps53
  go_wp2
  go_ret
  exact ⟨rfl, rfl⟩
theorem cmp_int (a b : Int) (w : World) : Calls Tryd.prog 52 #[.int .i64 a, .int .i64 b] w fun e w' => e = .returned (.int .i64 (sgn a b)) ∧ w = w' := by
  rcases Int.lt_trichotomy a b with h | h | h
  · have H := Lib.hid (show sgn a b = -1 by simp [sgn, h])
    go_enter Tryd.func52, Tryd.ntmps52
    go_wp2_with (go_at_call 53; refine (isNaN_int _ _).mono ?_; rintro e w' ⟨rfl, rfl⟩)
    go_ret
    exact ⟨by rw [H.out]; rfl, rfl⟩
  · subst h
    have H := Lib.hid (show sgn a a = 0 by simp [sgn])
    go_enter Tryd.func52, Tryd.ntmps52
    go_wp2_with (go_at_call 53; refine (isNaN_int _ _).mono ?_; rintro e w' ⟨rfl, rfl⟩)
    go_ret
    exact ⟨by rw [H.out]; rfl, rfl⟩
  · have H := Lib.hid (show sgn a b = 1 by unfold sgn; rw [if_neg (by omega), if_pos h])
    have h' : ¬ a < b := by omega
    go_enter Tryd.func52, Tryd.ntmps52
    go_wp2_with (go_at_call 53; refine (isNaN_int _ _).mono ?_; rintro e w' ⟨rfl, rfl⟩)
    go_ret
    exact ⟨by rw [H.out]; rfl, rfl⟩

/-- how an end lies to another one: a bit -/
def sdI (x y : Int) : Int := if x < y then 1 else if y < x then 4 else 2
theorem sdI_cases (x y : Int) : sdI x y = 1 ∨ sdI x y = 2 ∨ sdI x y = 4 := by
  unfold sdI
  split
  · simp
  · split <;> simp
theorem sd_lt (x y : Int) : decide (x < y) = (sdI x y == 1) := by
  unfold sdI
  rcases Int.lt_trichotomy x y with h | h | h
  · simp [h]
  · subst h; simp
  · have : ¬ x < y := by omega
    simp [h, this]
theorem sd_eq (x y : Int) : (x == y) = (sdI x y == 2) := by
  unfold sdI
  rcases Int.lt_trichotomy x y with h | h | h
  · have : x ≠ y := by omega
    simp [h, this]
  · subst h; simp
  · have h1 : ¬ x < y := by omega
    have h2 : x ≠ y := by omega
    simp [h, h1, h2]
theorem sd_gt (x y : Int) : decide (y < x) = (sdI x y == 4) := by
  unfold sdI
  rcases Int.lt_trichotomy x y with h | h | h
  · have : ¬ y < x := by omega
    simp [h, this]
  · subst h; simp
  · have h1 : ¬ x < y := by omega
    simp [h, h1]

theorem side_any (x y : Int) (w : World) : Calls Tryd.prog 51 #[.int .i64 x, .int .i64 y] w fun e w' => e = .returned (.int .u16 (sdI x y)) ∧ w' = w := by
  have KC := Lib.hid (cmp_int x y w)
  have hs : (sgn x y = -1 ∧ sdI x y = 1) ∨ (sgn x y = 0 ∧ sdI x y = 2) ∨ (sgn x y = 1 ∧ sdI x y = 4) := by
    unfold sgn sdI
    rcases Int.lt_trichotomy x y with h | h | h
    · simp [h]
    · subst h; simp
    · have : ¬ x < y := by omega
      simp [h, this]
  rcases hs with ⟨h1, h2⟩ | ⟨h1, h2⟩ | ⟨h1, h2⟩
  all_goals
    rw [h1] at KC
    rw [h2]
    clear h1 h2
    go_enter Tryd.func51, Tryd.ntmps51
    go_wp2_with fail
    refine KC.out.mono ?_
    rintro e w1 ⟨rfl, rfl⟩
    go_wp2_with fail
    go_ret
    exact ⟨rfl, rfl⟩

/-- how two spans lie -/
def lieI (af at' bf bt : Int) : Int := sdI af bf + 8 * sdI at' bf + 64 * sdI at' bt

abbrev spV (f t : Int) : Value := .agg #[.int .i64 f, .int .i64 t]

set_option maxHeartbeats 1000000 in
theorem lieOf_any (af at' bf bt : Int) (w : World) : Calls Tryd.prog 50 #[spV af at', spV bf bt] w fun e w' => e = .returned (.int .u16 (lieI af at' bf bt)) ∧ Ext w w' := by
  have KS := fun u x y => Lib.hid (side_any x y u)
  have HL : Hid (lieI af at' bf bt = sdI af bf + 8 * sdI at' bf + 64 * sdI at' bt) := Lib.hid rfl
  have hX := Lib.hid (sdI_cases af bf)
  have hY := Lib.hid (sdI_cases at' bf)
  have hZ := Lib.hid (sdI_cases at' bt)
  go_enter Tryd.func50, Tryd.ntmps50
  go_wp2_with fail
  go_quiet ((go_at_call 51; exact Calls.quiet_of_same (KS _ _ _).out))
  go_wp2_with fail
  go_ret
  refine ⟨?_, (((Ext.refl w).alloc _).alloc _).drewN _⟩
  refine congrArg Ending.returned (congrArg (Value.int IntKind.u16) ?_)
  rw [HL.out]
  have hX := hX.out
  have hY := hY.out
  have hZ := hZ.out
  generalize sdI af bf = X at hX ⊢
  generalize sdI at' bf = Y at hY ⊢
  generalize sdI at' bt = Z at hZ ⊢
  rcases hX with rfl | rfl | rfl <;> rcases hY with rfl | rfl | rfl <;> rcases hZ with rfl | rfl | rfl <;> rfl

/-- what each relation up to equal asks for, as the program lays it -/
def askV : List Int := [0, 8, 16, 97, 66, 68, 132, 130]
def AskAt (w : World) : Prop := ∀ i, i < 8 → w.cell? ⟨1, i, none⟩ = some (.int .u16 (askV.getD i 0))
theorem AskAt.ext {w w' : World} (h : AskAt w) (k : Ext w w') : AskAt w' := fun i hi => k.cell (h i hi)

/-- a relation up to equal, by how the ends lie -/
def lowS (r X Y Z : Int) : Bool :=
  if r = 1 then Y == 1 else if r = 2 then Y == 2 else if r = 3 then X == 1 && Y == 4 && Z == 1 else if r = 4 then X == 2 && Z == 1
  else if r = 5 then X == 4 && Z == 1 else if r = 6 then Z == 2 && X == 4 else X == 2 && Z == 2
/-- is a relation up to equal so? -/
def lowB (r af at' bf bt : Int) : Bool := lowS r (sdI af bf) (sdI at' bf) (sdI at' bt)
/-- is a relation so? -/
def isB (r af at' bf bt : Int) : Bool := if r ≤ 7 then lowB r af at' bf bt else lowB (14 - r) bf bt af at'

theorem ask_all : ∀ r ∈ [1, 2, 3, 4, 5, 6, 7], ∀ X ∈ [1, 2, 4], ∀ Y ∈ [1, 2, 4], ∀ Z ∈ [1, 2, 4],
    (bits BinOp.andNot IntKind.u16 (askV.getD (Int.toNat r) 0) (X + 8 * Y + 64 * Z) == 0) = lowS r X Y Z := by decide +kernel
theorem ask_one (r af at' bf bt : Int) (h1 : 1 ≤ r) (h7 : r ≤ 7) : (bits BinOp.andNot IntKind.u16 (askV.getD r.toNat 0) (lieI af at' bf bt) == 0) = lowB r af at' bf bt := by
  have m : ∀ x y, sdI x y ∈ [(1 : Int), 2, 4] := fun x y => by simpa using sdI_cases x y
  exact ask_all r (by simp; omega) _ (m _ _) _ (m _ _) _ (m _ _)

theorem turned_any (r : Int) (w : World) (h : 1 ≤ r ∧ r ≤ 13) : Calls Tryd.prog 45 #[.int .i64 r] w fun e w' => e = .returned (.int .i64 (14 - r)) ∧ w' = w := by
  obtain ⟨h1, h2⟩ := h
  go_enter Tryd.func45, Tryd.ntmps45
  go_wp2_with fail
  go_ret
  exact ⟨rfl, rfl⟩

set_option maxHeartbeats 1000000 in
theorem so_low (r af at' bf bt : Int) (w : World) (hA : AskAt w) (h1 : 1 ≤ r) (h7 : r ≤ 7) :
    Calls Tryd.prog 43 #[.int .i64 r, spV af at', spV bf bt] w fun e w' => e = .returned (.bool (lowB r af at' bf bt)) ∧ Ext w w' := by
  have hc := hA r.toNat (by omega)
  have HE := Lib.hid (ask_one r af at' bf bt h1 h7)
  have KL := Lib.hid (fun u => lieOf_any af at' bf bt u)
  have hr : (r.toNat : Int) = r := by omega
  obtain ⟨k, rfl⟩ : ∃ k : Nat, r = k := ⟨r.toNat, by omega⟩
  simp only [Int.toNat_natCast] at hc HE hr
  generalize askV.getD k 0 = X at hc HE
  have hg : ¬ (7 : Int) < (k : Int) := by omega
  go_enter Tryd.func43, Tryd.ntmps43
  go_wp2_with fail
  have hx0 := ((Ext.refl w).alloc (.cells #[.int .i64 af, .int .i64 at'] 32)).alloc (.cells #[.int .i64 bf, .int .i64 bt] 32)
  have q1 : (((w.alloc (.cells #[.int .i64 af, .int .i64 at'] 32)).alloc (.cells #[.int .i64 bf, .int .i64 bt] 32))).cell? ⟨w.heap.size, 0, none⟩ = some (.int .i64 af) := by go_simp
  have q2 : (((w.alloc (.cells #[.int .i64 af, .int .i64 at'] 32)).alloc (.cells #[.int .i64 bf, .int .i64 bt] 32))).cell? ⟨w.heap.size, 1, none⟩ = some (.int .i64 at') := by go_simp
  have q3 : (((w.alloc (.cells #[.int .i64 af, .int .i64 at'] 32)).alloc (.cells #[.int .i64 bf, .int .i64 bt] 32))).cell? ⟨w.heap.size + 1, 0, none⟩ = some (.int .i64 bf) := by go_simp
  have q4 : (((w.alloc (.cells #[.int .i64 af, .int .i64 at'] 32)).alloc (.cells #[.int .i64 bf, .int .i64 bt] 32))).cell? ⟨w.heap.size + 1, 1, none⟩ = some (.int .i64 bt) := by go_simp
  have q5 := hx0.cell hc
  generalize ((w.alloc (.cells #[.int .i64 af, .int .i64 at'] 32)).alloc (.cells #[.int .i64 bf, .int .i64 bt] 32)) = W0 at *
  replace q1 : ∀ p : ExtOf W0, _ := ext_cell q1
  replace q2 : ∀ p : ExtOf W0, _ := ext_cell q2
  replace q3 : ∀ p : ExtOf W0, _ := ext_cell q3
  replace q4 : ∀ p : ExtOf W0, _ := ext_cell q4
  replace q5 : ∀ p : ExtOf W0, _ := ext_cell q5
  clear hc hA
  refine wp_region_ext (by kernel_rfl) (by kernel_rfl) ?_
  repeat (go_big_quiet_step ((go_at_call 50; exact of_ext (KL.out _))))
  refine wpQuiet_nil ?_
  refine ext_all ?_
  intro w2 hx2
  go_wp2_with fail
  go_ret
  exact ⟨ret_bool HE.out, hx0.trans hx2⟩
end Go.Proofs.YtgpjfagkjmnpgaaDoor
