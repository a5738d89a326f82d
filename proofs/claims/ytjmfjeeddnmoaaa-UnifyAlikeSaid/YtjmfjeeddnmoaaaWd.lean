/- How deep and how large a term is, and whether it is ground: depth, size, ground; Depth, Size, Ground, Atom; wakes. -/
import Derived.Test.YtjmfjeeddnmoaaaWc
namespace Go.Proofs.Ytjmfjeeddnmoaaa
open Go.RowKit

theorem high_pos (t : Tm) : 1 ≤ t.high := by obtain ⟨k, s, n, l⟩ := t; simp only [Tm.high]; omega

/-- the box of a term -/
abbrev boxT (w : World) (t : Tm) (A : Option Addr) (c : Nat) : World := w.alloc (.cells #[.int .i64 t.kind, .string t.name, .int .i64 t.n, .slice A t.args.length c] 28)

def depthL : List Tm → Int → Int
  | [], m => m
  | t :: ts, m => depthL ts (max m t.high)
theorem depthL_eq : ∀ (ts : List Tm) (m : Int), 0 ≤ m → depthL ts m = max m (highs ts)
  | [], m, h => by simp [depthL, highs]; omega
  | t :: ts, m, h => by rw [depthL, depthL_eq ts _ (by omega), highs]; omega

theorem max_if (a b : Int) : (if a < b then b else a) = max a b := by split <;> omega

set_option maxHeartbeats 1000000 in
theorem depth_any (hh : Nat) : ∀ (t : Tm) (A : Option Addr) (c : Nat) (w : World), t.high ≤ hh → hh ≤ 1000 → TmAt w t A c →
    Calls Try.prog 66 #[t.val A c] w fun e w' => e = .returned (.int .i64 t.high) ∧ Ext w w' := by
  induction hh with
  | zero => intro t A c w h0; have := high_pos t; omega
  | succ hh ih =>
    intro t A c w hh0 hh1 h
    have IH := Lib.hid ih
    clear ih
    have hl := h.fits.args
    have H0 : Hid (depthL t.args 0 + 1 = t.high) := Lib.hid (by obtain ⟨k, s, n, l⟩ := t; simp only [Tm.high]; rw [depthL_eq _ _ (by omega)]; omega)
    go_enter Try.func66, Try.ntmps66
    go_wp2_with fail
    go_loopw [3, 9] (fun m i wr => ∃ (k : Nat) (n : Int), k ≤ t.args.length ∧ 0 ≤ n ∧ n ≤ 1000 ∧ i = .int .i64 k ∧ m = .int .i64 n ∧ Hid (depthL (t.args.drop k) n + 1 = t.high) ∧ Ext (boxT w t A c) wr) (fun _ i _ => t.args.length - (intOf i).toNat)
    case atStart => exact ⟨0, _, Nat.zero_le _, by omega, by omega, rfl, rfl, H0, Ext.refl _⟩
    case round =>
      obtain ⟨k, n, hk, hn0, hn1, rfl, rfl, H, hx⟩ := hrel
      have hxw : Ext w wr := ((Ext.refl w).alloc _).trans hx
      by_cases hlt : k < t.args.length
      · obtain ⟨b, o, B, e, rfl, c0, c1, c2, c3, hsub⟩ := (h.ext hxw).args.at_ hlt
        have hb := high_lt hlt
        have H2 : Hid (depthL (t.args.drop (k + 1)) (max n t.args[k].high) + 1 = t.high) := by
          have := H.out
          rw [List.drop_eq_getElem_cons hlt, depthL] at this
          exact Lib.hid this
        clear H H0
        go_wp2_with fail
        refine (IH.out _ _ _ _ (by omega) (by omega) (hsub.ext ((Ext.refl _).alloc _))).mono ?_
        rintro e w1 ⟨rfl, hx1⟩
        go_wp2_with fail
        go_roundw
        case rel => exact ⟨k + 1, max n t.args[k].high, by omega, by omega, by omega, by go_num, by rw [max_if], H2, hx.trans (((Ext.refl _).alloc _).trans hx1)⟩
        case measure => simp [intOf]; omega
      · go_wp2_with fail
        go_ret
        exact ⟨ret_int (by have := H.out; rwa [List.drop_eq_nil_of_le (by omega), depthL] at this), hxw⟩

mutual
def sizeT : Tm → Int
  | ⟨_, _, _, l⟩ => sizeL l 1
def sizeL : List Tm → Int → Int
  | [], n => n
  | t :: ts, n => sizeL ts (n + sizeT t)
end
theorem size_pos (hh : Nat) : ∀ t : Tm, t.high ≤ hh → 1 ≤ sizeT t := by
  have step : ∀ hh : Nat, (∀ t : Tm, t.high ≤ hh → 1 ≤ sizeT t) → ∀ (ts : List Tm) (n : Int), highs ts ≤ hh → n ≤ sizeL ts n := by
    intro hh h ts
    induction ts with
    | nil => intro n _; simp [sizeL]
    | cons t ts ih =>
      intro n hn
      simp only [highs] at hn
      have h1 := h t (by omega)
      have h2 := ih (n + sizeT t) (by omega)
      rw [sizeL]; omega
  induction hh with
  | zero => intro t h; have := high_pos t; omega
  | succ hh ih =>
    intro t ht
    obtain ⟨k, s, n, l⟩ := t
    simp only [Tm.high] at ht
    rw [sizeT]
    exact step hh ih l 1 (by omega)
theorem sizeL_ge : ∀ (ts : List Tm) (n : Int), n ≤ sizeL ts n
  | [], n => by simp [sizeL]
  | t :: ts, n => by
    have h1 := size_pos t.high t (Nat.le_refl _)
    have h2 := sizeL_ge ts (n + sizeT t)
    rw [sizeL]; omega

set_option maxHeartbeats 1000000 in
theorem size_any (hh : Nat) : ∀ (t : Tm) (A : Option Addr) (c : Nat) (w : World), t.high ≤ hh → sizeT t ≤ 1000000 → TmAt w t A c →
    Calls Try.prog 67 #[t.val A c] w fun e w' => e = .returned (.int .i64 (sizeT t)) ∧ Ext w w' := by
  induction hh with
  | zero => intro t A c w h0; have := high_pos t; omega
  | succ hh ih =>
    intro t A c w hh0 hh1 h
    have IH := Lib.hid ih
    clear ih
    have hl := h.fits.args
    have H0 : Hid (sizeL t.args 1 = sizeT t) := Lib.hid (by obtain ⟨k, s, n, l⟩ := t; rfl)
    go_enter Try.func67, Try.ntmps67
    go_wp2_with fail
    go_loopw [3, 9] (fun m i wr => ∃ (k : Nat) (n : Int), k ≤ t.args.length ∧ 0 ≤ n ∧ i = .int .i64 k ∧ m = .int .i64 n ∧ Hid (sizeL (t.args.drop k) n = sizeT t) ∧ Ext (boxT w t A c) wr) (fun _ i _ => t.args.length - (intOf i).toNat)
    case atStart => exact ⟨0, _, Nat.zero_le _, by omega, rfl, rfl, H0, Ext.refl _⟩
    case round =>
      obtain ⟨k, n, hk, hn0, rfl, rfl, H, hx⟩ := hrel
      have hxw : Ext w wr := ((Ext.refl w).alloc _).trans hx
      by_cases hlt : k < t.args.length
      · obtain ⟨b, o, B, e, rfl, c0, c1, c2, c3, hsub⟩ := (h.ext hxw).args.at_ hlt
        have hb := high_lt hlt
        have H2 : Hid (sizeL (t.args.drop (k + 1)) (n + sizeT t.args[k]) = sizeT t) := by
          have := H.out
          rw [List.drop_eq_getElem_cons hlt, sizeL] at this
          exact Lib.hid this
        have hs1 := size_pos _ t.args[k] (Nat.le_refl _)
        have hs2 : n + sizeT t.args[k] ≤ 1000000 := by
          have h1 := sizeL_ge (t.args.drop (k + 1)) (n + sizeT t.args[k])
          have h2 := H2.out
          omega
        clear H H0
        go_wp2_with fail
        refine (IH.out _ _ _ _ (by omega) (by omega) (hsub.ext ((Ext.refl _).alloc _))).mono ?_
        rintro e w1 ⟨rfl, hx1⟩
        go_wp2_with fail
        go_roundw
        case rel => exact ⟨k + 1, n + sizeT t.args[k], by omega, by omega, by go_num, rfl, H2, hx.trans (((Ext.refl _).alloc _).trans hx1)⟩
        case measure => simp [intOf]; omega
      · go_wp2_with fail
        go_ret
        exact ⟨ret_int (by have := H.out; rwa [List.drop_eq_nil_of_le (by omega), sizeL] at this), hxw⟩

mutual
def groundT : Tm → Bool
  | ⟨k, _, _, l⟩ => groundL l && (k != 1)
def groundL : List Tm → Bool
  | [] => true
  | t :: ts => groundT t && groundL ts
end

set_option maxHeartbeats 1000000 in
theorem ground_any (hh : Nat) : ∀ (t : Tm) (A : Option Addr) (c : Nat) (w : World), t.high ≤ hh → TmAt w t A c →
    Calls Try.prog 68 #[t.val A c] w fun e w' => e = .returned (.bool (groundT t)) ∧ Ext w w' := by
  induction hh with
  | zero => intro t A c w h0; have := high_pos t; omega
  | succ hh ih =>
    intro t A c w hh0 h
    have IH := Lib.hid ih
    clear ih
    have hl := h.fits.args
    have H0 : Hid ((groundL t.args && (t.kind != 1)) = groundT t) := Lib.hid (by obtain ⟨k, s, n, l⟩ := t; rfl)
    go_enter Try.func68, Try.ntmps68
    go_wp2_with fail
    go_loopw [8] (fun i wr => ∃ (k : Nat), k ≤ t.args.length ∧ i = .int .i64 k ∧ Hid ((groundL (t.args.drop k) && (t.kind != 1)) = groundT t) ∧ Ext (boxT w t A c) wr) (fun i _ => t.args.length - (intOf i).toNat)
    case atStart => exact ⟨0, Nat.zero_le _, rfl, H0, Ext.refl _⟩
    case round =>
      obtain ⟨k, hk, rfl, H, hx⟩ := hrel
      have hxw : Ext w wr := ((Ext.refl w).alloc _).trans hx
      by_cases hlt : k < t.args.length
      · obtain ⟨b, o, B, e, rfl, c0, c1, c2, c3, hsub⟩ := (h.ext hxw).args.at_ hlt
        have hb := high_lt hlt
        have H2 : Hid (((groundT t.args[k] && groundL (t.args.drop (k + 1))) && (t.kind != 1)) = groundT t) := by
          have := H.out
          rw [List.drop_eq_getElem_cons hlt, groundL] at this
          exact Lib.hid this
        clear H H0
        go_wp2_with fail
        refine (IH.out _ _ _ _ (by omega) (hsub.ext ((Ext.refl _).alloc _))).mono ?_
        rintro e w1 ⟨rfl, hx1⟩
        have hx2 := hx.trans (((Ext.refl _).alloc _).trans hx1)
        by_cases hg : groundT t.args[k] = true
        · have H3 : Hid ((groundL (t.args.drop (k + 1)) && (t.kind != 1)) = groundT t) := by
            have := H2.out
            rw [hg, Bool.true_and] at this
            exact Lib.hid this
          clear H2
          go_wp2_with fail
          go_roundw
          case rel => exact ⟨k + 1, by omega, by go_num, H3, hx2⟩
          case measure => simp [intOf]; omega
        · have hg' : groundT t.args[k] = false := by simpa using hg
          have H3 : Hid (false = groundT t) := by
            have := H2.out
            rw [hg', Bool.false_and, Bool.false_and] at this
            exact Lib.hid this
          clear H2 hg
          go_wp2_with fail
          go_ret
          exact ⟨by rw [← H3.out]; rfl, ((Ext.refl w).alloc _).trans hx2⟩
      · have hbox : wr.cell? ⟨w.heap.size, 0, none⟩ = some (.int .i64 t.kind) := hx.cell (by go_simp)
        go_wp2_with fail
        go_ret
        exact ⟨ret_bool (by have := H.out; rwa [List.drop_eq_nil_of_le (by omega), groundL, Bool.true_and] at this), hxw⟩
end Go.Proofs.Ytjmfjeeddnmoaaa
