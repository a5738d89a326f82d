/- term.ground, for seats without Depth and Size. -/
import Derived.Test.YtkdhpifjljkpfaaGreatWdr
namespace Go.Proofs.YtkdhpifjljkpfaaGreat
open Go.RowKit

mutual
def groundT : Tm → Bool
  | ⟨k, _, _, l⟩ => groundL l && (k != 1)
def groundL : List Tm → Bool
  | [] => true
  | t :: ts => groundT t && groundL ts
end

set_option maxHeartbeats 1000000 in
theorem ground_any (hh : Nat) : ∀ (t : Tm) (A : Option Addr) (c : Nat) (w : World), t.high ≤ hh → TmAt w t A c →
    Calls Tryz.prog 61 #[t.val A c] w fun e w' => e = .returned (.bool (groundT t)) ∧ Ext w w' := by
  induction hh with
  | zero => intro t A c w h0; have := high_pos t; omega
  | succ hh ih =>
    intro t A c w hh0 h
    have IH := Lib.hid ih
    clear ih
    have hl := h.fits.args
    have H0 : Hid ((groundL t.args && (t.kind != 1)) = groundT t) := Lib.hid (by obtain ⟨k, s, n, l⟩ := t; rfl)
    go_enter Tryz.func61, Tryz.ntmps61
    go_wp2_with fail
    go_loopw [8] (fun i wr => ∃ (k : Nat), k ≤ t.args.length ∧ i = .int .i64 k ∧ Hid ((groundL (t.args.drop k) && (t.kind != 1)) = groundT t) ∧ Ext (boxT w t A c) wr) (fun i _ => t.args.length - (intOf i).toNat)
    case atStart => exact ⟨0, Nat.zero_le _, rfl, H0, Ext.refl _⟩
    case round =>
      obtain ⟨k, hk, rfl, H, hx⟩ := hrel
      have hxw : Ext w wr := ((Ext.refl w).alloc _).trans hx
      by_cases hlt : k < t.args.length
      · obtain ⟨b, o, B, e, rfl, c0, c1, c2, c3, hsub⟩ := (h.ext hxw).args.at_ hlt
        have hb := high_lt hlt
        have H2 : Hid (((groundT t.args[k] && groundL (t.args.drop (k + 1))) && (t.kind != 1)) = groundT t) := by
          have := H.out
          rw [List.drop_eq_getElem_cons hlt, groundL] at this
          exact Lib.hid this
        clear H H0
        go_wp2_with fail
        refine (IH.out _ _ _ _ (by omega) (hsub.ext ((Ext.refl _).alloc _))).mono ?_
        rintro e w1 ⟨rfl, hx1⟩
        have hx2 := hx.trans (((Ext.refl _).alloc _).trans hx1)
        by_cases hg : groundT t.args[k] = true
        · have H3 : Hid ((groundL (t.args.drop (k + 1)) && (t.kind != 1)) = groundT t) := by
            have := H2.out
            rw [hg, Bool.true_and] at this
            exact Lib.hid this
          clear H2
          go_wp2_with fail
          go_roundw
          case rel => exact ⟨k + 1, by omega, by go_num, H3, hx2⟩
          case measure => simp [intOf]; omega
        · have hg' : groundT t.args[k] = false := by simpa using hg
          have H3 : Hid (false = groundT t) := by
            have := H2.out
            rw [hg', Bool.false_and, Bool.false_and] at this
            exact Lib.hid this
          clear H2 hg
          go_wp2_with fail
          go_ret
          exact ⟨by rw [← H3.out]; rfl, ((Ext.refl w).alloc _).trans hx2⟩
      · have hbox : wr.cell? ⟨w.heap.size, 0, none⟩ = some (.int .i64 t.kind) := hx.cell (by go_simp)
        go_wp2_with fail
        go_ret
        exact ⟨ret_bool (by have := H.out; rwa [List.drop_eq_nil_of_le (by omega), groundL, Bool.true_and] at this), hxw⟩
end Go.Proofs.YtkdhpifjljkpfaaGreat
