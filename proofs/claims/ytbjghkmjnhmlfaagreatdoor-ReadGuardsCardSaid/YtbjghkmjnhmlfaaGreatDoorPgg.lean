/- Package read: window, policy. -/
import Derived.Test.YtbjghkmjnhmlfaaGreatDoorPgf
import Derived.Test.YtbjghkmjnhmlfaaGreatDoorPbd
import Derived.Test.YtbjghkmjnhmlfaaGreatDoorYG
namespace Go.Proofs.YtbjghkmjnhmlfaaGreatDoor
open Go.RowKit

def winP (T : List Tok) (i : Nat) : Except (Int × Int) Int :=
  if rl T i = 6 then if rl T (i + 1) = 23 then if rl T (i + 2) = 2 then .ok (tk T (i + 2)).n else .error (bad T (i + 2)) else .error (bad T (i + 1)) else .error (bad T i)
def WinOut (w : World) (g p : Nat) (K : RdP) (T : List Tok) (i b : Nat) (cs : List Value) (F : Except (Int × Int) Int) (e : Ending) (w' : World) : Prop := Chg (fun x => x = g ∨ x = p) w w' ∧
  match F with
  | .ok n => e = .returned (.bool true) ∧ RdAt w' g K T (i + 3) b ∧ BoxN w' p (cs.set 14 (.int .i64 n))
  | .error (a, x) => e = .returned (.bool false) ∧ RdErr w' g a x ∧ ∃ n, BoxN w' p (cs.set 14 (.int .i64 n))
theorem set_self {cs : List Value} {j : Nat} {v : Value} (h : cs[j]? = some v) : cs.set j v = cs := by
  apply List.ext_getElem?
  intro k
  rw [List.getElem?_set]
  by_cases e : j = k
  · subst e
    rw [if_pos rfl]
    obtain ⟨h1, h2⟩ := List.getElem?_eq_some_iff.1 h
    rw [if_pos h1, h]
  · rw [if_neg e]
set_option maxRecDepth 100000 in
set_option maxHeartbeats 2000000 in
theorem window_rd {w : World} {g p : Nat} {K : RdP} {T : List Tok} {i b : Nat} {cs : List Value} {n0 : Int} (hT : EndLast T) (h : RdAt w g K T i b) (hi : i < T.length) (hpg : p ≠ g) (hpA : p ≠ K.A) (hpR : p ≠ K.R) (hb : BoxN w p cs) (hl : cs.length = 16) (h14 : cs[14]? = some (.int .i64 n0)) :
    Calls Tryz.prog 83 #[.pointer (some ⟨g, 0, none⟩), .pointer (some ⟨p, 0, none⟩)] w (WinOut w g p K T i b cs (winP T i)) := by
  have hgl := h.lt
  have hpl := hb.lt
  obtain ⟨F, hF⟩ : ∃ F, F = winP T i := ⟨_, rfl⟩
  rw [← hF]
  have HF := Lib.hid hF
  clear hF
  go_enter Tryz.func83, Tryz.ntmps83
  by_cases h6 : rl T i = 6
  · have hi1 := hT.next 6 h6 (by omega)
    have K1 := Lib.hid (need_yes 64 (by omega) h hi (by rw [h6]; decide))
    clear h
    go_wp2_with fail
    refine K1.out.mono ?_
    rintro e w1 ⟨rfl, h1, c1⟩
    by_cases h23 : rl T (i + 1) = 23
    · have hi2 := hT.next 23 h23 (by omega)
      have K2 := Lib.hid (need_yes 8388608 (by omega) h1 hi1 (by rw [h23]; decide))
      have HC1 := Lib.hid c1
      clear h1 K1 c1
      go_wp2_with fail
      refine K2.out.mono ?_
      rintro e w2 ⟨rfl, h2, c2⟩
      have hC2 := HC1.out.trans c2
      have hb2 := hb.chg hC2 hpg
      obtain ⟨ii, hii⟩ : ∃ ii, ii = i + 1 + 1 := ⟨_, rfl⟩
      rw [← hii] at h2 hi2
      have hi22 : ii < T.length := by omega
      have r0 := h2.c0
      have r2 := h2.c2
      obtain ⟨_, _, t2, _⟩ := h2.tok hi22
      have i0 : (0 : Int) ≤ (ii : Int) := Int.natCast_nonneg _
      have i1 : (ii : Int) < (T.length : Int) := by omega
      have x14 := hb2.cell 14 h14
      have z14 := hb2.fz 14 (by rw [hl]; omega)
      have hb3 := hb2.set1 14 (.int .i64 (tk T ii).n) (by rw [hl]; omega)
      have kp : Chg (· = p) w2 (w2.setCell ⟨p, 14, none⟩ (.int .i64 (tk T ii).n)) := (Chg.refl _ w2).setg 14 _
      have h3 := h2.chg kp (fun x _ e => by subst e; exact ⟨hpg, hpA, hpR⟩)
      have hC3 : Chg (fun x => x = g ∨ x = p) w (w2.setCell ⟨p, 14, none⟩ (.int .i64 (tk T ii).n)) := (hC2.weak fun _ e => .inl e).trans (kp.weak fun _ e => .inr e)
      have hg2 := h2.lt
      have hA2 := World.block_lt_of_cell? w2 _ t2
      have hp2 := hb2.lt
      simp only at hA2
      obtain ⟨w3, hw3⟩ : ∃ w3, w3 = w2.setCell ⟨p, 14, none⟩ (.int .i64 (tk T ii).n) := ⟨_, rfl⟩
      rw [← hw3] at hb3 h3 hC3
      have HW3 := Lib.hid hw3
      have HH := Lib.hid (And.intro h3 (And.intro hb3 hC3))
      have HII := Lib.hid hii
      have HHI := Lib.hid hi22
      clear K2 h2 c2 hC2 hb2 hb3 kp h3 hC3 hw3 hb hii
      go_upto_region 3 with (fail)
      go_region
      all_goals
        obtain ⟨w4, hw4⟩ : ∃ w4, w4 = w3.drew := ⟨_, rfl⟩
        rw [← HW3.out, ← hw4]
        have hx4 : Ext w3 w4 := by rw [hw4]; exact (Ext.refl _).drew
        have h4 := HH.out.1.ext hx4
        have HH4 := Lib.hid (And.intro (HH.out.2.1.ext hx4) (HH.out.2.2.trans (Chg.of_ext hx4)))
        clear hw4 hx4 r0 r2 t2 x14 z14 HH HW3
        by_cases h2 : rl T ii = 2
        · have K3 := Lib.hid (need_yes 4 (by omega) h4 HHI.out (by rw [h2]; decide))
          have HFF : Hid (F = .ok (tk T ii).n) := Lib.hid (by rw [HF.out]; unfold winP; rw [if_pos h6, if_pos h23, if_pos (by rw [show i + 2 = ii from HII.out.symm]; exact h2), HII.out])
          clear h4
          go_wp2_with fail
          refine K3.out.mono ?_
          rintro e w5 ⟨rfl, h5, c5⟩
          have H5 := Lib.hid (And.intro h5 c5)
          clear h5 c5 K3
          go_wp2_with fail
          go_ret
          rw [HFF.out]
          exact ⟨HH4.out.2.trans (H5.out.2.weak fun _ e => .inl e), rfl, by have := H5.out.1; rw [HII.out] at this; exact this, HH4.out.1.chg H5.out.2 hpg⟩
        · have K3 := Lib.hid (need_no 4 (by omega) h4 HHI.out (bit_ne (k := 2) h2))
          have HFF : Hid (F = .error (bad T ii)) := Lib.hid (by rw [HF.out]; unfold winP; rw [if_pos h6, if_pos h23, if_neg (by rw [show i + 2 = ii from HII.out.symm]; exact h2), HII.out])
          clear h4
          go_wp2_with fail
          refine K3.out.mono ?_
          rintro e w5 ⟨rfl, h5, c5⟩
          have H5 := Lib.hid (And.intro h5 c5)
          clear h5 c5 K3
          go_wp2_with fail
          go_ret
          rw [HFF.out]
          exact ⟨HH4.out.2.trans (H5.out.2.weak fun _ e => .inl e), rfl, H5.out.1, _, HH4.out.1.chg H5.out.2 hpg⟩
    · have K2 := Lib.hid (need_no 8388608 (by omega) h1 hi1 (bit_ne (k := 23) h23))
      have HFF : Hid (F = .error (bad T (i + 1))) := Lib.hid (by rw [HF.out]; unfold winP; rw [if_pos h6, if_neg h23])
      have HC1 := Lib.hid c1
      clear h1 K1 c1
      go_wp2_with fail
      refine K2.out.mono ?_
      rintro e w2 ⟨rfl, h2, c2⟩
      have H2 := Lib.hid (And.intro h2 (HC1.out.trans c2))
      clear h2 c2 K2
      go_wp2_with fail
      go_ret
      rw [HFF.out]
      exact ⟨H2.out.2.weak fun _ e => .inl e, rfl, H2.out.1, n0, by rw [set_self h14]; exact hb.chg H2.out.2 hpg⟩
  · have K1 := Lib.hid (need_no 64 (by omega) h hi (bit_ne (k := 6) h6))
    have HFF : Hid (F = .error (bad T i)) := Lib.hid (by rw [HF.out]; unfold winP; rw [if_neg h6])
    clear h
    go_wp2_with fail
    refine K1.out.mono ?_
    rintro e w1 ⟨rfl, h1, c1⟩
    have H2 := Lib.hid (And.intro h1 c1)
    clear h1 c1 K1
    go_wp2_with fail
    go_ret
    rw [HFF.out]
    exact ⟨H2.out.2.weak fun _ e => .inl e, rfl, H2.out.1, n0, by rw [set_self h14]; exact hb.chg H2.out.2 hpg⟩
/-- the policy's name: recent or first -/
def polP (T : List Tok) (i : Nat) : Except (Int × Int) Int := if rl T i = 21 ∨ rl T i = 22 then .ok ((rl T i : Int) - 20) else .error (bad T i)
def PolOut (w : World) (g p : Nat) (K : RdP) (T : List Tok) (i b : Nat) (cs : List Value) (F : Except (Int × Int) Int) (e : Ending) (w' : World) : Prop := Chg (fun x => x = g ∨ x = p) w w' ∧
  match F with
  | .ok n => e = .returned (.bool true) ∧ RdAt w' g K T (i + 1) b ∧ BoxN w' p (cs.set 15 (.int .i64 n))
  | .error (a, x) => e = .returned (.bool false) ∧ RdErr w' g a x ∧ ∃ n, BoxN w' p (cs.set 15 (.int .i64 n))
theorem mask_pol (r : Nat) (h : r < 38) : Nat.testBit 6291456 r = decide (r = 21 ∨ r = 22) := by
  have : ∀ r : Fin 38, Nat.testBit 6291456 r.1 = decide (r.1 = 21 ∨ r.1 = 22) := by decide
  exact this ⟨r, h⟩
set_option maxRecDepth 100000 in
set_option maxHeartbeats 2000000 in
theorem policy_rd {w : World} {g p : Nat} {K : RdP} {T : List Tok} {i b : Nat} {cs : List Value} {n0 : Int} (h : RdAt w g K T i b) (hbo : BitOk w g) (hi : i < T.length) (hpg : p ≠ g) (hpA : p ≠ K.A) (hpR : p ≠ K.R) (hb : BoxN w p cs) (hl : cs.length = 16) (h15 : cs[15]? = some (.int .i64 n0)) :
    Calls Tryz.prog 99 #[.pointer (some ⟨g, 0, none⟩), .pointer (some ⟨p, 0, none⟩)] w (PolOut w g p K T i b cs (polP T i)) := by
  have hgl := h.lt
  have hpl := hb.lt
  have hl38 := rl_lt T i
  have r0 := h.roles i hi
  have r1 := h.c1
  have r2 := h.c2
  have i0 : (0 : Int) ≤ (i : Int) := Int.natCast_nonneg _
  have i1 : (i : Int) < (T.length : Int) := by omega
  have x15 := hb.cell 15 h15
  have z15 := hb.fz 15 (by rw [hl]; omega)
  obtain ⟨rr, hrr⟩ : ∃ rr, rr = rl T i := ⟨_, rfl⟩
  rw [← hrr] at r0 hl38
  have HRR := Lib.hid hrr
  have hw1 : IntKind.i64.wrap (1 + ((rr : Int) - 21)) = (rr : Int) - 20 := by rw [IntKind.wrap_i64]; omega
  have KA : Hid (∀ u, Ext w u → Calls Tryz.prog 114 #[.int .u64 (roleV rr), .int .u64 2097152] u fun e w' => e = .returned (.int .i64 ((rr : Int) - 21)) ∧ w' = u) := Lib.hid (fun u hu => by
    have := above_rd rr 21 hl38 (by omega) (hbo.ext hu).at_
    rw [show roleV 21 = 2097152 by decide] at this
    exact this)
  have hb3 := hb.set1 15 (.int .i64 ((rr : Int) - 20)) (by rw [hl]; omega)
  have kp : Chg (· = p) w (w.setCell ⟨p, 15, none⟩ (.int .i64 ((rr : Int) - 20))) := (Chg.refl _ w).setg 15 _
  have h3 := h.chg kp (fun x _ e => by subst e; exact ⟨hpg, hpA, hpR⟩)
  obtain ⟨w3, hw3⟩ : ∃ w3, w3 = w.setCell ⟨p, 15, none⟩ (.int .i64 ((rr : Int) - 20)) := ⟨_, rfl⟩
  rw [← hw3] at hb3 h3 kp
  have HW3 := Lib.hid hw3
  have HH := Lib.hid (And.intro h3 (And.intro hb3 kp))
  obtain ⟨F, hF⟩ : ∃ F, F = polP T i := ⟨_, rfl⟩
  rw [← hF]
  have HF := Lib.hid hF
  clear hF h3 hb3 kp hw3 h hb hbo hrr
  have r0d : w.drew.cell? ⟨K.R, i, none⟩ = some (.int .u64 (roleV rr)) := r0
  have r1d : w.drew.cell? ⟨g, 1, none⟩ = some (.slice (some ⟨K.R, 0, none⟩) T.length K.d) := r1
  have r2d : w.drew.cell? ⟨g, 2, none⟩ = some (.int .i64 i) := r2
  go_enter Tryz.func99, Tryz.ntmps99
  go_upto_region 1 with (fail)
  go_region_with (refine (KA.out _ (Ext.refl _).drew).mono ?_; rintro e wx ⟨rfl, rfl⟩)
  all_goals
    obtain ⟨w4, hw4⟩ : ∃ w4, w4 = w3.drew := ⟨_, rfl⟩
    rw [show (w.setCell ⟨p, 15, none⟩ (.int .i64 ((rr : Int) - 20))).drew = w4 by rw [← HW3.out]; exact hw4.symm]
    have hx4 : Ext w3 w4 := by rw [hw4]; exact (Ext.refl _).drew
    have h4 := HH.out.1.ext hx4
    have HH4 := Lib.hid (And.intro (HH.out.2.1.ext hx4) (HH.out.2.2.trans (Chg.of_ext hx4)))
    clear hw4 hx4 r0 r1 r2 r0d r1d r2d x15 z15 HH HW3 KA
    by_cases h2 : rl T i = 21 ∨ rl T i = 22
    · have K3 := Lib.hid (need_yes 6291456 (by omega) h4 hi (by rw [mask_pol _ (rl_lt T i)]; exact decide_eq_true h2))
      have HFF : Hid (F = .ok ((rr : Int) - 20)) := Lib.hid (by rw [HF.out, HRR.out]; unfold polP; rw [if_pos h2])
      clear h4
      go_wp2_with fail
      refine K3.out.mono ?_
      rintro e w5 ⟨rfl, h5, c5⟩
      have H5 := Lib.hid (And.intro h5 c5)
      clear h5 c5 K3
      go_wp2_with fail
      go_ret
      rw [HFF.out]
      exact ⟨(HH4.out.2.weak fun _ e => .inr e).trans (H5.out.2.weak fun _ e => .inl e), rfl, H5.out.1, HH4.out.1.chg H5.out.2 hpg⟩
    · have K3 := Lib.hid (need_no 6291456 (by omega) h4 hi (by rw [mask_pol _ (rl_lt T i)]; exact decide_eq_false h2))
      have HFF : Hid (F = .error (bad T i)) := Lib.hid (by rw [HF.out]; unfold polP; rw [if_neg h2])
      clear h4
      go_wp2_with fail
      refine K3.out.mono ?_
      rintro e w5 ⟨rfl, h5, c5⟩
      have H5 := Lib.hid (And.intro h5 c5)
      clear h5 c5 K3
      go_wp2_with fail
      go_ret
      rw [HFF.out]
      exact ⟨(HH4.out.2.weak fun _ e => .inr e).trans (H5.out.2.weak fun _ e => .inl e), rfl, H5.out.1, _, HH4.out.1.chg H5.out.2 hpg⟩
end Go.Proofs.YtbjghkmjnhmlfaaGreatDoor
