/- P1.1's others: Ground, Atom; the page's Depth, Size. -/
import Derived.Test.YthmpolifgngdiaaRb
import Derived.Test.YthmpolifgngdiaaMB
namespace Go.Proofs.Ythmpolifgngdiaa
open Go.RowKit

theorem Ground_yes (t : Tm) (A : Option Addr) (c : Nat) (w : World) (h : TmAt w t A c) (hr : mayB t = true) :
    Calls Try.prog 48 #[t.val A c] w fun e w' => e = .returned (.tuple #[.bool (groundT t), .int .i64 0]) ∧ Ext w w' := by
  have hh := may_high hr
  have R := Lib.hid hr
  clear hr
  go_enter Try.func48, Try.ntmps48
  go_wp2_with fail
  refine (check_yes t A c _ (h.ext ((Ext.refl _).alloc _)) R.out).mono ?_
  rintro e w1 ⟨rfl, hx1⟩
  have hx := ((Ext.refl w).alloc _).trans hx1
  have b0 : w1.cell? ⟨w.heap.size, 0, none⟩ = some (.int .i64 t.kind) := hx1.cell (by go_simp)
  have b1 : w1.cell? ⟨w.heap.size, 1, none⟩ = some (.string t.name) := hx1.cell (by go_simp)
  have b2 : w1.cell? ⟨w.heap.size, 2, none⟩ = some (.int .i64 t.n) := hx1.cell (by go_simp)
  have b3 : w1.cell? ⟨w.heap.size, 3, none⟩ = some (.slice A t.args.length c) := hx1.cell (by go_simp)
  go_wp2_with fail
  refine (ground_any 5 t A c _ hh (h.ext hx)).mono ?_
  rintro e w2 ⟨rfl, hx2⟩
  go_wp2_with fail
  go_ret2
  exact ⟨rfl, hx.trans hx2⟩
theorem Ground_no (t : Tm) (A : Option Addr) (c : Nat) (w : World) (h : TmAt w t A c) (hr : mayB t = false) :
    Calls Try.prog 48 #[t.val A c] w fun e w' => e = .returned (.tuple #[.bool false, .int .i64 1]) ∧ Ext w w' := by
  have R := Lib.hid hr
  clear hr
  go_enter Try.func48, Try.ntmps48
  go_wp2_with fail
  refine (check_no t A c _ (h.ext ((Ext.refl _).alloc _)) R.out).mono ?_
  rintro e w1 ⟨rfl, hx1⟩
  go_wp2_with fail
  go_ret2
  exact ⟨rfl, ((Ext.refl w).alloc _).trans hx1⟩

end Go.Proofs.Ythmpolifgngdiaa
