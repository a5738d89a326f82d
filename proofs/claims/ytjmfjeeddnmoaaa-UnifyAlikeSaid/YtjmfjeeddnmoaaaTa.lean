/- P1.1's others: Ground, Atom; the page's Depth, Size. -/
import Derived.Test.YtjmfjeeddnmoaaaRb
namespace Go.Proofs.Ytjmfjeeddnmoaaa
open Go.RowKit

theorem Ground_yes (t : Tm) (A : Option Addr) (c : Nat) (w : World) (h : TmAt w t A c) (hr : mayB t = true) :
    Calls Try.prog 16 #[t.val A c] w fun e w' => e = .returned (.tuple #[.bool (groundT t), .int .i64 0]) ∧ Ext w w' := by
  have hh := may_high hr
  have R := Lib.hid hr
  clear hr
  go_enter Try.func16, Try.ntmps16
  go_wp2_with fail
  refine (check_yes t A c _ (h.ext ((Ext.refl _).alloc _)) R.out).mono ?_
  rintro e w1 ⟨rfl, hx1⟩
  have hx := ((Ext.refl w).alloc _).trans hx1
  have b0 : w1.cell? ⟨w.heap.size, 0, none⟩ = some (.int .i64 t.kind) := hx1.cell (by go_simp)
  have b1 : w1.cell? ⟨w.heap.size, 1, none⟩ = some (.string t.name) := hx1.cell (by go_simp)
  have b2 : w1.cell? ⟨w.heap.size, 2, none⟩ = some (.int .i64 t.n) := hx1.cell (by go_simp)
  have b3 : w1.cell? ⟨w.heap.size, 3, none⟩ = some (.slice A t.args.length c) := hx1.cell (by go_simp)
  go_wp2_with fail
  refine (ground_any 5 t A c _ hh (h.ext hx)).mono ?_
  rintro e w2 ⟨rfl, hx2⟩
  go_wp2_with fail
  go_ret2
  exact ⟨rfl, hx.trans hx2⟩
theorem Ground_no (t : Tm) (A : Option Addr) (c : Nat) (w : World) (h : TmAt w t A c) (hr : mayB t = false) :
    Calls Try.prog 16 #[t.val A c] w fun e w' => e = .returned (.tuple #[.bool false, .int .i64 1]) ∧ Ext w w' := by
  have R := Lib.hid hr
  clear hr
  go_enter Try.func16, Try.ntmps16
  go_wp2_with fail
  refine (check_no t A c _ (h.ext ((Ext.refl _).alloc _)) R.out).mono ?_
  rintro e w1 ⟨rfl, hx1⟩
  go_wp2_with fail
  go_ret2
  exact ⟨rfl, ((Ext.refl w).alloc _).trans hx1⟩

/-- an atom, of what may be -/
def atomB (t : Tm) : Bool := (t.kind == 3) && decide ((t.high : Int) ≤ 2)
theorem Atom_yes (t : Tm) (A : Option Addr) (c : Nat) (w : World) (h : TmAt w t A c) (hr : mayB t = true) :
    Calls Try.prog 17 #[t.val A c] w fun e w' => e = .returned (.tuple #[.bool (atomB t), .int .i64 0]) ∧ Ext w w' := by
  have hh := may_high hr
  have R := Lib.hid hr
  clear hr
  go_enter Try.func17, Try.ntmps17
  go_wp2_with fail
  refine (check_yes t A c _ (h.ext ((Ext.refl _).alloc _)) R.out).mono ?_
  rintro e w1 ⟨rfl, hx1⟩
  have hx := ((Ext.refl w).alloc _).trans hx1
  have b0 : w1.cell? ⟨w.heap.size, 0, none⟩ = some (.int .i64 t.kind) := hx1.cell (by go_simp)
  have b1 : w1.cell? ⟨w.heap.size, 1, none⟩ = some (.string t.name) := hx1.cell (by go_simp)
  have b2 : w1.cell? ⟨w.heap.size, 2, none⟩ = some (.int .i64 t.n) := hx1.cell (by go_simp)
  have b3 : w1.cell? ⟨w.heap.size, 3, none⟩ = some (.slice A t.args.length c) := hx1.cell (by go_simp)
  by_cases hk : (t.kind == 3) = true
  · have E := Lib.hid (show atomB t = decide ((t.high : Int) ≤ 2) by unfold atomB; rw [hk, Bool.true_and])
    go_wp2_with fail
    refine (depth_any 5 t A c _ hh (by omega) (h.ext hx)).mono ?_
    rintro e w2 ⟨rfl, hx2⟩
    go_wp2_with fail
    go_ret2
    exact ⟨by rw [E.out]; rfl, hx.trans hx2⟩
  · have hk' := not_tr hk
    have E := Lib.hid (show atomB t = false by unfold atomB; rw [hk', Bool.false_and])
    clear hk
    go_wp2_with fail
    go_ret2
    exact ⟨by rw [E.out]; rfl, hx⟩
theorem Atom_no (t : Tm) (A : Option Addr) (c : Nat) (w : World) (h : TmAt w t A c) (hr : mayB t = false) :
    Calls Try.prog 17 #[t.val A c] w fun e w' => e = .returned (.tuple #[.bool false, .int .i64 1]) ∧ Ext w w' := by
  have R := Lib.hid hr
  clear hr
  go_enter Try.func17, Try.ntmps17
  go_wp2_with fail
  refine (check_no t A c _ (h.ext ((Ext.refl _).alloc _)) R.out).mono ?_
  rintro e w1 ⟨rfl, hx1⟩
  go_wp2_with fail
  go_ret2
  exact ⟨rfl, ((Ext.refl w).alloc _).trans hx1⟩

set_option maxHeartbeats 1000000 in
theorem rDepth_any (hh : Nat) : ∀ (t : Tm) (A : Option Addr) (c : Nat) (w : World), t.high ≤ hh → hh ≤ 1000 → TmAt w t A c →
    Calls Try.prog 20 #[t.val A c] w fun e w' => e = .returned (.int .i64 t.high) ∧ Ext w w' := by
  induction hh with
  | zero => intro t A c w h0; have := high_pos t; omega
  | succ hh ih =>
    intro t A c w hh0 hh1 h
    have IH := Lib.hid ih
    clear ih
    have hl := h.fits.args
    have H0 : Hid (depthL t.args 0 + 1 = t.high) := Lib.hid (by obtain ⟨k, s, n, l⟩ := t; simp only [Tm.high]; rw [depthL_eq _ _ (by omega)]; omega)
    go_enter Try.func20, Try.ntmps20
    go_wp2_with fail
    go_loopw [3, 4] (fun m i wr => ∃ (k : Nat) (n : Int), k ≤ t.args.length ∧ 0 ≤ n ∧ n ≤ 1000 ∧ i = .int .i64 k ∧ m = .int .i64 n ∧ Hid (depthL (t.args.drop k) n + 1 = t.high) ∧ Ext (boxT w t A c) wr) (fun _ i _ => t.args.length - (intOf i).toNat)
    case atStart => exact ⟨0, _, Nat.zero_le _, by omega, by omega, rfl, rfl, H0, Ext.refl _⟩
    case round =>
      obtain ⟨k, n, hk, hn0, hn1, rfl, rfl, H, hx⟩ := hrel
      have hxw : Ext w wr := ((Ext.refl w).alloc _).trans hx
      have hbox : wr.cell? ⟨w.heap.size, 3, none⟩ = some (.slice A t.args.length c) := hx.cell (by go_simp)
      by_cases hlt : k < t.args.length
      · obtain ⟨b, o, B, e, rfl, c0, c1, c2, c3, hsub⟩ := (h.ext hxw).args.at_ hlt
        have hb := high_lt hlt
        have H2 : Hid (depthL (t.args.drop (k + 1)) (max n t.args[k].high) + 1 = t.high) := by
          have := H.out
          rw [List.drop_eq_getElem_cons hlt, depthL] at this
          exact Lib.hid this
        clear H H0
        go_wp2_with fail
        refine (IH.out _ _ _ _ (by omega) (by omega) hsub).mono ?_
        rintro e w1 ⟨rfl, hx1⟩
        go_wp2_with fail
        go_roundw
        case rel => exact ⟨k + 1, max n t.args[k].high, by omega, by omega, by omega, by go_num, by rw [max_if], H2, hx.trans hx1⟩
        case measure => simp [intOf]; omega
      · go_wp2_with fail
        go_ret
        exact ⟨ret_int (by have := H.out; rwa [List.drop_eq_nil_of_le (by omega), depthL] at this), hxw⟩
theorem rSize_any (t : Tm) (A : Option Addr) (c : Nat) (w : World) (h : TmAt w t A c) (hh : t.high ≤ 1000000) :
    Calls Try.prog 21 #[t.val A c] w fun e w' => e = .returned (.int .i64 (sizeR t 5)) ∧ Ext w w' := by
  go_enter Try.func21, Try.ntmps21
  go_wp2_with fail
  refine (rsize_any t.high 5 5 t A c _ (Lib.hid rfl) (by omega) (by omega) (Nat.le_refl _) hh (h.ext ((Ext.refl _).alloc _))).mono ?_
  rintro e w1 ⟨rfl, hx1⟩
  go_wp2_with fail
  go_ret
  exact ⟨rfl, ((Ext.refl _).alloc _).trans hx1⟩
end Go.Proofs.Ytjmfjeeddnmoaaa
