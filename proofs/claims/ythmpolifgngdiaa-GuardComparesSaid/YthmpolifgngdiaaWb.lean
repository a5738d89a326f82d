/- How much terms and texts weigh: the statements' own measure of what is played. -/
import Derived.Test.YthmpolifgngdiaaTm
import Derived.WalkSpells
import Derived.BigGuardPart
namespace Go.Proofs.Ythmpolifgngdiaa
open Go.RowKit

mutual
/-- how much a term is, not deeper than d -/
def weightT : Tm → Nat → Int
  | ⟨_, _, _, _⟩, 0 => 1048576
  | ⟨_, s, _, l⟩, d + 1 => weightL l d (1 + s.size)
def weightL : List Tm → Nat → Int → Int
  | [], _, n => n
  | t :: ts, d, n => if n < 1048576 then weightL ts d (n + weightT t d) else n
end

theorem weightL_le (d : Nat) (M : Int) (hM : 0 ≤ M) : ∀ (ts : List Tm) (n : Int), (∀ t ∈ ts, 1 ≤ weightT t d ∧ weightT t d ≤ M) → n ≤ weightL ts d n ∧ (weightL ts d n ≤ n ∨ weightL ts d n ≤ 1048576 + M)
  | [], n, _ => by simp [weightL]
  | t :: ts, n, h => by
    have ht := h t (by simp)
    by_cases hn : n < 1048576
    · simp only [weightL, hn, if_true]
      have := weightL_le d M hM ts (n + weightT t d) (fun x hx => h x (by simp [hx]))
      omega
    · simp [weightL, hn]
theorem weight_le (d : Nat) : ∀ (w : World) (t : Tm) (A : Option Addr) (c : Nat), TmAt w t A c → 1 ≤ weightT t d ∧ weightT t d ≤ (d + 1) * 281474976710656 := by
  induction d with
  | zero => intro w t A c h; obtain ⟨k, s, n, l⟩ := t; simp [weightT]
  | succ d ih =>
    intro w t A c h
    have hf := h.fits
    obtain ⟨g, e, hr, hs⟩ := h.args
    obtain ⟨k, s, n, l⟩ := t
    have hn := hf.name
    simp only at hn hs
    simp only [weightT]
    have := weightL_le d ((d + 1) * 281474976710656) (by omega) l (1 + s.size) (fun x hx => by
      obtain ⟨i, hi, rfl⟩ := List.getElem_of_mem hx
      exact ih w _ _ _ (hs i hi))
    omega

theorem weight_any (d : Nat) : ∀ (D : Int) (t : Tm) (A : Option Addr) (c : Nat) (w : World), Hid (D = d) → d ≤ 30 → TmAt w t A c →
    Calls Try.prog 22 #[t.val A c, .int .i64 D] w fun e w' => e = .returned (.int .i64 (weightT t d)) ∧ Ext w w' := by
  induction d with
  | zero =>
    intro D t A c w hD _ h
    obtain rfl : D = 0 := hD.out
    have hs := h.fits.name
    go_enter Try.func22, Try.ntmps22
    go_wp2_with fail
    go_ret
    exact ⟨ret_int (by obtain ⟨k, s, n, l⟩ := t; rfl), (Ext.refl _).alloc _⟩
  | succ d ih =>
    intro D t A c w hD hd h
    have hD1 : 1 ≤ D := by have := hD.out; omega
    have hD2 : D ≤ 31 := by have := hD.out; omega
    have IH := Lib.hid ih
    clear ih
    have hs := h.fits.name
    have hl := h.fits.args
    go_enter Try.func22, Try.ntmps22
    have hz : (D == 0) = false := beq_eq_false_iff_ne.2 (by omega)
    have H0 : Hid (weightL t.args d (1 + t.name.size) = weightT t (d + 1)) := Lib.hid (by obtain ⟨k, s, n, l⟩ := t; rfl)
    go_wp2_with fail
    go_loopw [5, 6] (fun m i wr => ∃ (k : Nat) (n : Int), k ≤ t.args.length ∧ 0 ≤ n ∧ n ≤ 9007199254740992 ∧ i = .int .i64 k ∧ m = .int .i64 n ∧ Hid (weightL (t.args.drop k) d n = weightT t (d + 1)) ∧
      Ext (w.alloc (.cells #[.int .i64 t.kind, .string t.name, .int .i64 t.n, .slice A t.args.length c] 32)) wr) (fun _ i _ => t.args.length - (intOf i).toNat)
    case atStart => exact ⟨0, _, Nat.zero_le _, by omega, by omega, rfl, rfl, H0, Ext.refl _⟩
    case round =>
      obtain ⟨k, n, hk, hn0, hn1, rfl, rfl, H, hx⟩ := hrel
      have hbox : wr.cell? ⟨w.heap.size, 3, none⟩ = some (.slice A t.args.length c) := hx.cell (by go_simp)
      have hxw : Ext w wr := ((Ext.refl w).alloc _).trans hx
      by_cases hlt : k < t.args.length
      · obtain ⟨b, o, B, e, rfl, c0, c1, c2, c3, hsub⟩ := (h.ext hxw).args.at_ hlt
        have hb := weight_le d _ _ _ _ hsub
        have hdm : ((d : Int) + 1) * 281474976710656 ≤ 8725724278030336 := by omega
        have H2 : Hid ((if n < 1048576 then weightL (t.args.drop (k + 1)) d (n + weightT t.args[k] d) else n) = weightT t (d + 1)) := by
          have := H.out
          rw [List.drop_eq_getElem_cons hlt, weightL] at this
          exact Lib.hid this
        clear H H0
        by_cases hn : n < 1048576
        · go_wp2_with fail
          refine (IH.out _ _ _ _ _ (Lib.hid (by have := hD.out; omega)) (by omega) hsub).mono ?_
          rintro e w1 ⟨rfl, hx1⟩
          go_wp2_with fail
          go_roundw
          case rel => exact ⟨k + 1, n + weightT t.args[k] d, by omega, by omega, by omega, by go_num, rfl, Lib.hid (by have := H2.out; rwa [if_pos (by omega)] at this), hx.trans hx1⟩
          case measure => simp [intOf]; omega
        · have hn' : decide (n < 1048576) = false := decide_eq_false hn
          go_wp2_with fail
          go_ret
          exact ⟨ret_int (by have := H2.out; rwa [if_neg (by omega)] at this), hxw⟩
      · go_wp2_with fail
        go_ret
        exact ⟨ret_int (by have := H.out; rwa [List.drop_eq_nil_of_le (by omega), weightL] at this), hxw⟩

theorem terms_any (ts : List Tm) (A : Option Addr) (c : Nat) (w : World) (hl : ts.length * 56 ≤ 140737488351232) (h : TmsAt w ts A) :
    Calls Try.prog 24 #[.slice A ts.length c] w fun e w' => e = .returned (.int .i64 (weightL ts 30 ts.length)) ∧ Ext w w' := by
  have H0 : Hid (weightL (ts.drop 0) 30 ts.length = weightL ts 30 ts.length) := Lib.hid (by rw [List.drop_zero])
  go_enter Try.func24, Try.ntmps24
  go_wp2_with fail
  go_loopw [3, 4] (fun m i wr => ∃ (k : Nat) (n : Int), k ≤ ts.length ∧ 0 ≤ n ∧ n ≤ 9007199254740992 ∧ i = .int .i64 k ∧ m = .int .i64 n ∧ Hid (weightL (ts.drop k) 30 n = weightL ts 30 ts.length) ∧
    Ext w wr) (fun _ i _ => ts.length - (intOf i).toNat)
  case atStart => exact ⟨0, _, Nat.zero_le _, by omega, by omega, rfl, rfl, H0, Ext.refl _⟩
  case round =>
    obtain ⟨k, n, hk, hn0, hn1, rfl, rfl, H, hx⟩ := hrel
    by_cases hlt : k < ts.length
    · obtain ⟨b, o, B, e, rfl, c0, c1, c2, c3, hsub⟩ := (h.ext hx).at_ hlt
      have hb := weight_le 30 _ _ _ _ hsub
      have H2 : Hid ((if n < 1048576 then weightL (ts.drop (k + 1)) 30 (n + weightT ts[k] 30) else n) = weightL ts 30 ts.length) := by
        have := H.out
        rw [List.drop_eq_getElem_cons hlt, weightL] at this
        exact Lib.hid this
      clear H H0
      by_cases hn : n < 1048576
      · go_wp2_with fail
        refine (weight_any 30 _ _ _ _ _ (Lib.hid rfl) (by omega) hsub).mono ?_
        rintro e w1 ⟨rfl, hx1⟩
        go_wp2_with fail
        go_roundw
        case rel => exact ⟨k + 1, n + weightT ts[k] 30, by omega, by omega, by omega, by go_num, rfl, Lib.hid (by have := H2.out; rwa [if_pos (by omega)] at this), hx.trans hx1⟩
        case measure => simp [intOf]; omega
      · have hn' : decide (n < 1048576) = false := decide_eq_false hn
        go_wp2_with fail
        go_ret
        exact ⟨ret_int (by have := H2.out; rwa [if_neg (by omega)] at this), hx⟩
    · go_wp2_with fail
      go_ret
      exact ⟨ret_int (by have := H.out; rwa [List.drop_eq_nil_of_le (by omega), weightL] at this), hx⟩

end Go.Proofs.Ythmpolifgngdiaa
