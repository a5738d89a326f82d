/- The told ones of P1.1: Depth, Size, Ground, Atom; and wakes. -/
import Derived.Test.YtjmfjeeddnmoaaaWd
namespace Go.Proofs.Ytjmfjeeddnmoaaa
open Go.RowKit

theorem fits_of (d : Nat) : (∀ (t : Tm) (L : Int), (fitsT t d L).1 = true → t.high ≤ d ∧ sizeT t = L - (fitsT t d L).2) ∧
    ∀ (ts : List Tm) (L n : Int), (fitsL ts d L).1 = true → highs ts ≤ d ∧ sizeL ts n = n + (L - (fitsL ts d L).2) := by
  have step : ∀ d : Nat, (∀ (t : Tm) (L : Int), (fitsT t d L).1 = true → t.high ≤ d ∧ sizeT t = L - (fitsT t d L).2) →
      ∀ (ts : List Tm) (L n : Int), (fitsL ts d L).1 = true → highs ts ≤ d ∧ sizeL ts n = n + (L - (fitsL ts d L).2) := by
    intro d h ts
    induction ts with
    | nil => intro L n _; simp [fitsL, sizeL, highs]
    | cons t ts ih =>
      intro L n hf
      by_cases ht : (fitsT t d L).1 = true
      · have h1 := h t L ht
        rw [fitsL, if_pos ht] at hf ⊢
        have h2 := ih (fitsT t d L).2 (n + sizeT t) hf
        rw [sizeL, highs]
        omega
      · rw [fitsL, if_neg ht] at hf
        cases hf
  induction d with
  | zero =>
    have h0 : ∀ (t : Tm) (L : Int), (fitsT t 0 L).1 = true → t.high ≤ 0 ∧ sizeT t = L - (fitsT t 0 L).2 := fun t L h => by obtain ⟨k, s, n, l⟩ := t; simp [fitsT] at h
    exact ⟨h0, step 0 h0⟩
  | succ d ih =>
    have h0 : ∀ (t : Tm) (L : Int), (fitsT t (d + 1) L).1 = true → t.high ≤ d + 1 ∧ sizeT t = L - (fitsT t (d + 1) L).2 := by
      intro t L h
      obtain ⟨k, s, n, l⟩ := t
      by_cases hL : L = 0
      · rw [fitsT, if_pos hL] at h; cases h
      · by_cases hp : plainB ⟨k, s, n, l⟩ = true
        · rw [fitsT, if_neg hL, if_pos hp] at h ⊢
          have := ih.2 l (L - 1) 1 h
          rw [sizeT, Tm.high]
          omega
        · rw [fitsT, if_neg hL, if_neg hp] at h; cases h
    exact ⟨h0, step (d + 1) h0⟩
theorem may_high {t : Tm} (h : mayB t = true) : t.high ≤ 5 := ((fits_of 5).1 t 24 h).1
theorem may_size {t : Tm} (h : mayB t = true) : sizeT t ≤ 24 := by
  have h1 := ((fits_of 5).1 t 24 h).2
  have h2 := (fits_bd 5).1 t 24 (by omega)
  omega

theorem num_any (n : Int) (w : World) : Calls Try.prog 25 #[.int .i64 n] w fun e w' => e = .returned (.int .i64 n) ∧ w = w' := by
  go_enter Try.func25, Try.ntmps25
  go_wp2
  go_ret
  exact ⟨rfl, rfl⟩

theorem Depth_yes (t : Tm) (A : Option Addr) (c : Nat) (w : World) (h : TmAt w t A c) (hr : mayB t = true) :
    Calls Try.prog 14 #[t.val A c] w fun e w' => e = .returned (.tuple #[.int .i64 t.high, .int .i64 0]) ∧ Ext w w' := by
  have hh := may_high hr
  have R := Lib.hid hr
  clear hr
  go_enter Try.func14, Try.ntmps14
  go_wp2_with fail
  refine (check_yes t A c _ (h.ext ((Ext.refl _).alloc _)) R.out).mono ?_
  rintro e w1 ⟨rfl, hx1⟩
  have hx := ((Ext.refl w).alloc _).trans hx1
  have b0 : w1.cell? ⟨w.heap.size, 0, none⟩ = some (.int .i64 t.kind) := hx1.cell (by go_simp)
  have b1 : w1.cell? ⟨w.heap.size, 1, none⟩ = some (.string t.name) := hx1.cell (by go_simp)
  have b2 : w1.cell? ⟨w.heap.size, 2, none⟩ = some (.int .i64 t.n) := hx1.cell (by go_simp)
  have b3 : w1.cell? ⟨w.heap.size, 3, none⟩ = some (.slice A t.args.length c) := hx1.cell (by go_simp)
  go_wp2_with fail
  refine (depth_any 5 t A c _ hh (by omega) (h.ext hx)).mono ?_
  rintro e w2 ⟨rfl, hx2⟩
  go_wp2_with fail
  go_ret2
  exact ⟨rfl, hx.trans hx2⟩
theorem Depth_no (t : Tm) (A : Option Addr) (c : Nat) (w : World) (h : TmAt w t A c) (hr : mayB t = false) :
    Calls Try.prog 14 #[t.val A c] w fun e w' => e = .returned (.tuple #[.int .i64 0, .int .i64 1]) ∧ Ext w w' := by
  have R := Lib.hid hr
  clear hr
  go_enter Try.func14, Try.ntmps14
  go_wp2_with fail
  refine (check_no t A c _ (h.ext ((Ext.refl _).alloc _)) R.out).mono ?_
  rintro e w1 ⟨rfl, hx1⟩
  go_wp2_with fail
  go_ret2
  exact ⟨rfl, ((Ext.refl w).alloc _).trans hx1⟩

theorem Size_yes (t : Tm) (A : Option Addr) (c : Nat) (w : World) (h : TmAt w t A c) (hr : mayB t = true) :
    Calls Try.prog 15 #[t.val A c] w fun e w' => e = .returned (.tuple #[.int .i64 (sizeT t), .int .i64 0]) ∧ Ext w w' := by
  have hh := may_high hr
  have hs := may_size hr
  have R := Lib.hid hr
  clear hr
  go_enter Try.func15, Try.ntmps15
  go_wp2_with fail
  refine (check_yes t A c _ (h.ext ((Ext.refl _).alloc _)) R.out).mono ?_
  rintro e w1 ⟨rfl, hx1⟩
  have hx := ((Ext.refl w).alloc _).trans hx1
  have b0 : w1.cell? ⟨w.heap.size, 0, none⟩ = some (.int .i64 t.kind) := hx1.cell (by go_simp)
  have b1 : w1.cell? ⟨w.heap.size, 1, none⟩ = some (.string t.name) := hx1.cell (by go_simp)
  have b2 : w1.cell? ⟨w.heap.size, 2, none⟩ = some (.int .i64 t.n) := hx1.cell (by go_simp)
  have b3 : w1.cell? ⟨w.heap.size, 3, none⟩ = some (.slice A t.args.length c) := hx1.cell (by go_simp)
  go_wp2_with fail
  refine (size_any 5 t A c _ hh (by omega) (h.ext hx)).mono ?_
  rintro e w2 ⟨rfl, hx2⟩
  go_wp2_with fail
  go_ret2
  exact ⟨rfl, hx.trans hx2⟩
theorem Size_no (t : Tm) (A : Option Addr) (c : Nat) (w : World) (h : TmAt w t A c) (hr : mayB t = false) :
    Calls Try.prog 15 #[t.val A c] w fun e w' => e = .returned (.tuple #[.int .i64 0, .int .i64 1]) ∧ Ext w w' := by
  have R := Lib.hid hr
  clear hr
  go_enter Try.func15, Try.ntmps15
  go_wp2_with fail
  refine (check_no t A c _ (h.ext ((Ext.refl _).alloc _)) R.out).mono ?_
  rintro e w1 ⟨rfl, hx1⟩
  go_wp2_with fail
  go_ret2
  exact ⟨rfl, ((Ext.refl w).alloc _).trans hx1⟩

/-- the statements' own small term, f(X) -/
abbrev tmX : Tm := ⟨1, ⟨#[88]⟩, 0, []⟩
abbrev tmF : Tm := ⟨3, ⟨#[102]⟩, 0, [tmX]⟩
theorem tmF_may : mayB tmF = true := by decide +kernel
theorem tmF_size : sizeT tmF = 2 := by decide +kernel
theorem tmF_high : (tmF.high : Int) = 2 := by decide +kernel
theorem tmX_at (w : World) : TmAt w tmX none 0 :=
  .mk tmX none 0 (fun _ => none) (fun _ => 0) ⟨by decide, by decide, by decide, by decide⟩ (by decide) (fun i h => absurd h (by simp)) (fun i h => absurd h (by simp))
theorem tmF_at {w : World} {b c : Nat} (h0 : w.cell? ⟨b, 0, none⟩ = some (.int .i64 1)) (h1 : w.cell? ⟨b, 1, none⟩ = some (.string ⟨#[88]⟩)) (h2 : w.cell? ⟨b, 2, none⟩ = some (.int .i64 0)) (h3 : w.cell? ⟨b, 3, none⟩ = some (.slice none 0 0)) (hc : 1 ≤ c) :
    TmAt w tmF (some ⟨b, 0, none⟩) c := by
  refine .mk tmF _ c (fun _ => none) (fun _ => 0) ⟨by decide, by decide, by decide, by decide⟩ hc (fun i h => ?_) (fun i h => ?_)
  · obtain rfl : i = 0 := by simp at h; omega
    exact ⟨b, 0, rfl, h0, h1, h2, h3⟩
  · obtain rfl : i = 0 := by simp at h; omega
    exact tmX_at w

theorem wakes_any (w : World) : Calls Try.prog 30 #[] w fun e w' => e = .returned (.bool true) ∧ Ext w w' := by
  go_enter Try.func30, Try.ntmps30
  go_wp2_with fail
  refine (Depth_yes tmF (some ⟨w.heap.size, 0, none⟩) 1 _ (tmF_at (by go_simp) (by go_simp) (by go_simp) (by go_simp) (by omega)) tmF_may).mono ?_
  rintro e w1 ⟨rfl, hx1⟩
  rw [tmF_high]
  have b0 : w1.cell? ⟨w.heap.size + 1, 0, none⟩ = some (.int .i64 3) := hx1.cell (by go_simp)
  have b1 : w1.cell? ⟨w.heap.size + 1, 1, none⟩ = some (.string ⟨#[102]⟩) := hx1.cell (by go_simp)
  have b2 : w1.cell? ⟨w.heap.size + 1, 2, none⟩ = some (.int .i64 0) := hx1.cell (by go_simp)
  have b3 : w1.cell? ⟨w.heap.size + 1, 3, none⟩ = some (.slice (some ⟨w.heap.size, 0, none⟩) 1 1) := hx1.cell (by go_simp)
  have a0 : w1.cell? ⟨w.heap.size, 0, none⟩ = some (.int .i64 1) := hx1.cell (by go_simp)
  have a1 : w1.cell? ⟨w.heap.size, 1, none⟩ = some (.string ⟨#[88]⟩) := hx1.cell (by go_simp)
  have a2 : w1.cell? ⟨w.heap.size, 2, none⟩ = some (.int .i64 0) := hx1.cell (by go_simp)
  have a3 : w1.cell? ⟨w.heap.size, 3, none⟩ = some (.slice none 0 0) := hx1.cell (by go_simp)
  go_wp2_with fail
  refine (Size_yes tmF (some ⟨w.heap.size, 0, none⟩) 1 _ (tmF_at a0 a1 a2 a3 (by omega)) tmF_may).mono ?_
  rintro e w2 ⟨rfl, hx2⟩
  rw [tmF_size]
  go_wp2_with (go_at_call 25; refine (num_any _ _).mono ?_; rintro e w' ⟨rfl, rfl⟩)
  go_ret
  exact ⟨rfl, (((Ext.refl w).alloc _).alloc _).trans (hx1.trans hx2)⟩
end Go.Proofs.Ytjmfjeeddnmoaaa
