/- Joined: Dra, Drb. -/
import Derived.Test.YtkdhpifjljkpfaaGreatFB
import Derived.Deep.RegionHeld3

/- What the order of terms asks of the tape: never less often than before (the library's sorting wants it said). The same walks as in Wc, with one thing more said. -/
namespace Go.Proofs.YtkdhpifjljkpfaaGreat
open Go.RowKit

/-- goes on from w, and has asked the tape no less often -/
structure Dx (w w' : World) : Prop where
  ext : Ext w w'
  drawn : w.drawn ≤ w'.drawn
theorem Dx.refl (w : World) : Dx w w := ⟨Ext.refl w, Nat.le_refl _⟩
theorem Dx.trans {a b c : World} (h : Dx a b) (k : Dx b c) : Dx a c := ⟨h.ext.trans k.ext, Nat.le_trans h.drawn k.drawn⟩
theorem Dx.alloc {a w : World} (h : Dx a w) (o : Obj) : Dx a (w.alloc o) := ⟨h.ext.alloc o, h.drawn⟩
theorem Dx.drew {a w : World} (h : Dx a w) : Dx a w.drew := ⟨h.ext.drew, Nat.le_succ_of_le h.drawn⟩
theorem Dx.setCell {a w : World} (h : Dx a w) {p : Addr} (hp : a.heap.size ≤ p.block) (u : Value) : Dx a (w.setCell p u) := ⟨h.ext.setCell hp u, h.drawn⟩
theorem Dx.cell {w w' : World} (h : Dx w w') {p : Addr} {v : Value} (hc : w.cell? p = some v) : w'.cell? p = some v := h.ext.cell hc
structure ButD (g : Nat) (w w' : World) : Prop where
  but : But g w w'
  drawn : w.drawn ≤ w'.drawn
theorem ButD.of_ext {g : Nat} {w w' : World} (h : Dx w w') : ButD g w w' := ⟨But.of_ext h.ext, h.drawn⟩
theorem ButD.trans {g : Nat} {a b c : World} (h : ButD g a b) (k : ButD g b c) : ButD g a c := ⟨h.but.trans k.but, Nat.le_trans h.drawn k.drawn⟩
theorem ButD.set (g : Nat) (w : World) (v : Value) : ButD g w (w.setCell ⟨g, 0, none⟩ v) := ⟨But.set g w v, Nat.le_refl _⟩
theorem ButD.ext_of {g : Nat} {w w1 w' : World} (h : Dx w w1) (k : ButD g w1 w') (hg : w.heap.size ≤ g) : Dx w w' := ⟨But.ext_of h.ext k.but hg, Nat.le_trans h.drawn k.drawn⟩

set_option maxHeartbeats 1000000 in
theorem plain_anyD (t : Tm) (A : Option Addr) (c : Nat) (w : World) (hf : t.Fits) :
    Calls Tryz.prog 102 #[t.val A c] w fun e w' => e = .returned (.bool (plainB t)) ∧ Dx w w' := by
  have hs : t.name.size ≤ maxLen := by have := hf.name; unfold maxLen; omega
  go_enter Tryz.func102, Tryz.ntmps102
  go_wp2_with (go_at_call 107; refine (word_any _ _ _ _ hs).mono ?_; rintro e w' ⟨rfl, rfl⟩)
  all_goals go_ret
  all_goals refine ⟨ret_bool ?_, (Dx.refl _).alloc _⟩
  all_goals clear hs hf
  all_goals simp_all [plainB]
  all_goals omega

set_option maxHeartbeats 1000000 in
theorem fits_anyD (d : Nat) : ∀ (D L : Int) (t : Tm) (A : Option Addr) (c g : Nat) (w : World), Hid (D = d) → d ≤ 5 → 0 ≤ L → L ≤ 24 → TmAt w t A c → NumAt w g L →
    Calls Tryz.prog 87 #[t.val A c, .int .i64 D, .pointer (some ⟨g, 0, none⟩)] w fun e w' => e = .returned (.bool (fitsT t d L).1) ∧ NumAt w' g (fitsT t d L).2 ∧ ButD g w w' := by
  induction d with
  | zero =>
    intro D L t A c g w hD _ hL0 hL1 h hn
    obtain rfl : D = 0 := hD.out
    have H : Hid (fitsT t 0 L = (false, L)) := Lib.hid (by obtain ⟨k, s, n, l⟩ := t; rfl)
    have HN := Lib.hid hn
    clear hn
    go_enter Tryz.func87, Tryz.ntmps87
    go_wp2_with fail
    go_ret
    exact ⟨by rw [H.out]; rfl, by rw [H.out]; exact HN.out.alloc _, ButD.of_ext ((Dx.refl _).alloc _)⟩
  | succ d ih =>
    intro D L t A c g w hD hd hL0 hL1 h hn
    have IH := Lib.hid ih
    have HN := Lib.hid hn
    have hD1 : 1 ≤ D := by have := hD.out; omega
    have hD2 : D ≤ 5 := by have := hD.out; omega
    have hz : (D == 0) = false := beq_eq_false_iff_ne.2 (by omega)
    have hf := h.fits
    have hl := hf.args
    have hg := hn.lt
    have hcell := hn.cell
    have hfro := hn.frozen
    clear ih hn
    by_cases hL : L = 0
    · subst hL
      have H : Hid (fitsT t (d + 1) 0 = (false, 0)) := Lib.hid (by obtain ⟨k, s, n, l⟩ := t; rfl)
      go_enter Tryz.func87, Tryz.ntmps87
      go_wp2_with fail
      go_ret
      exact ⟨by rw [H.out]; rfl, by rw [H.out]; exact HN.out.alloc _, ButD.of_ext ((Dx.refl _).alloc _)⟩
    · have hLz : (L == 0) = false := beq_eq_false_iff_ne.2 hL
      by_cases hp : plainB t = true
      · have H : Hid (fitsL t.args d (L - 1) = fitsT t (d + 1) L) := Lib.hid (by obtain ⟨k, s, n, l⟩ := t; rw [fitsT, if_neg hL, if_pos hp])
        go_enter Tryz.func87, Tryz.ntmps87
        go_wp2_with fail
        refine (plain_anyD t A c _ hf).mono ?_
        rintro e w1 ⟨rfl, hx1⟩
        have hn1 : NumAt w1 g L := (HN.out.alloc _).ext hx1.ext
        have hcell1 := hn1.cell
        have hfro1 := hn1.frozen
        have HN1 := Lib.hid hn1
        clear hn1
        have hbox : w1.cell? ⟨w.heap.size, 3, none⟩ = some (.slice A t.args.length c) := hx1.cell (by go_simp)
        go_wp2_with fail
        go_loopw [30] (fun i wr => ∃ (k : Nat) (M : Int), k ≤ t.args.length ∧ 0 ≤ M ∧ M ≤ 24 ∧ i = .int .i64 k ∧ NumAt wr g M ∧ ButD g w wr ∧ Hid (fitsL (t.args.drop k) d M = fitsT t (d + 1) L)) (fun i _ => t.args.length - (intOf i).toNat)
        case atStart => exact ⟨0, L - 1, Nat.zero_le _, by omega, by omega, rfl, HN1.out.set _, (ButD.of_ext (((Dx.refl _).alloc _).trans hx1)).trans (ButD.set _ _ _), H⟩
        case round =>
          obtain ⟨k, M, hk, hM0, hM1, rfl, hnr, hbr, Hr⟩ := hrel
          by_cases hlt : k < t.args.length
          · obtain ⟨b, o, B, e, rfl, c0, c1, c2, c3, hsub⟩ := (h.but HN.out hbr.but).args.at_ hlt
            have hbd := (fits_bd d).1 t.args[k] M hM0
            have H2 : Hid ((if (fitsT t.args[k] d M).1 = true then fitsL (t.args.drop (k + 1)) d (fitsT t.args[k] d M).2 else (false, (fitsT t.args[k] d M).2)) = fitsT t (d + 1) L) := by
              have := Hr.out
              rw [List.drop_eq_getElem_cons hlt, fitsL] at this
              exact Lib.hid this
            clear Hr H
            go_wp2_with fail
            refine (IH.out _ M _ _ _ _ _ (Lib.hid (by have := hD.out; omega)) (by omega) hM0 hM1 (hsub.ext ((Ext.refl _).alloc _)) (hnr.alloc _)).mono ?_
            rintro e w2 ⟨rfl, hn2, hb2⟩
            have hb3 := hbr.trans ((ButD.of_ext ((Dx.refl _).alloc _)).trans hb2)
            by_cases hr : (fitsT t.args[k] d M).1 = true
            · go_wp2_with fail
              go_roundw
              case rel => exact ⟨k + 1, (fitsT t.args[k] d M).2, by omega, by omega, by omega, by go_num, hn2, hb3, Lib.hid (by have := H2.out; rwa [if_pos hr] at this)⟩
              case measure => simp [intOf]; omega
            · have hr' : (fitsT t.args[k] d M).1 = false := by simpa using hr
              have H3 : Hid ((false, (fitsT t.args[k] d M).2) = fitsT t (d + 1) L) := Lib.hid (by have := H2.out; rwa [if_neg hr] at this)
              clear hr
              go_wp2_with fail
              go_ret
              exact ⟨by rw [← H3.out]; rfl, by rw [← H3.out]; exact hn2, hb3⟩
          · have H3 : Hid ((true, M) = fitsT t (d + 1) L) := Lib.hid (by have := Hr.out; rwa [List.drop_eq_nil_of_le (by omega), fitsL] at this)
            go_wp2_with fail
            go_ret
            exact ⟨by rw [← H3.out]; rfl, by rw [← H3.out]; exact hnr, hbr⟩
      · have hp' : plainB t = false := by simpa using hp
        have H : Hid (fitsT t (d + 1) L = (false, L)) := Lib.hid (by obtain ⟨k, s, n, l⟩ := t; rw [fitsT, if_neg hL, if_neg hp])
        clear hp
        go_enter Tryz.func87, Tryz.ntmps87
        go_wp2_with fail
        refine (plain_anyD t A c _ hf).mono ?_
        rintro e w1 ⟨rfl, hx1⟩
        go_wp2_with fail
        go_ret
        exact ⟨by rw [H.out]; rfl, by rw [H.out]; exact (HN.out.alloc _).ext hx1.ext, ButD.of_ext (((Dx.refl _).alloc _).trans hx1)⟩
theorem check_fitsD (t : Tm) (A : Option Addr) (c : Nat) (w : World) (h : TmAt w t A c) (W : World) (g : Nat) (hx : Dx w W) (hg : w.heap.size ≤ g) (hn : NumAt W g 24) :
    Calls Tryz.prog 87 #[t.val A c, .int .i64 5, .pointer (some ⟨g, 0, none⟩)] W fun e w' => e = .returned (.bool (mayB t)) ∧ Dx w w' :=
  (fits_anyD 5 5 24 t A c g W (Lib.hid rfl) (by omega) (by omega) (by omega) (h.ext hx.ext) hn).mono fun e w' ⟨he, _, hb⟩ => ⟨he, ButD.ext_of hx hb hg⟩

theorem check_yesD (t : Tm) (A : Option Addr) (c : Nat) (w : World) (h : TmAt w t A c) (hr : mayB t = true) :
    Calls Tryz.prog 60 #[t.val A c] w fun e w' => e = .returned (.int .i64 0) ∧ Dx w w' := by
  go_enter Tryz.func60, Tryz.ntmps60
  go_wp2_with fail
  refine (check_fitsD t A c w h _ (w.heap.size + 1) (((Dx.refl w).alloc _).alloc _) (by omega) (NumAt.new w _ 24)).mono ?_
  rintro e w1 ⟨rfl, hx1⟩
  go_wp2_with fail
  go_ret
  exact ⟨rfl, hx1⟩
end Go.Proofs.YtkdhpifjljkpfaaGreat

/- What the order of facts asks of the tape: never less often than before. The same walks as in Wf, Wg, Wh and Fkh, with one thing more said. -/
namespace Go.Proofs.YtkdhpifjljkpfaaGreat
open Go.RowKit

theorem labels_anyD (a b c d : Int) (w : World) :
    Calls Tryz.prog 95 #[.agg #[.int .u64 a, .int .u64 b], .agg #[.int .u64 c, .int .u64 d]] w fun e w' => e = .returned (.int .i64 (labI a b c d)) ∧ Dx w w' := by
  have E : Hid (labI a b c d = if (sgn a c != 0) = true then sgn a c else sgn b d) := Lib.hid rfl
  go_enter Tryz.func95, Tryz.ntmps95
  go_wp2_with (go_at_call 104; refine (cmp_u64 _ _ _).mono ?_; rintro e w' ⟨rfl, rfl⟩)
  all_goals
    go_ret
    exact ⟨ret_int (by rw [E.out]; simp [*]), ((Dx.refl w).alloc _).alloc _⟩

set_option maxRecDepth 100000 in
set_option maxHeartbeats 1000000 in
theorem pack_anyD (s : ByteArray) (w : World) (hs : s.size ≤ 16) :
    Calls Tryz.prog 96 #[.string s] w fun e w' => e = .returned (.agg #[.int .u64 (nm 8 s.data.toList : Nat), .int .u64 (nm 8 (s.data.toList.drop 8) : Nat)]) ∧ Dx w w' := by
  go_enter Tryz.func96, Tryz.ntmps96
  go_wp2_with fail
  go_loopw [7] (fun i wr => ∃ (k : Nat), k ≤ s.size ∧ i = .int .i64 k ∧ Hid (Pair wr (w.heap.size + 1) (nm 8 (s.data.toList.take k) : Nat) (nm 8 ((s.data.toList.take k).drop 8) : Nat)) ∧ Hid (Pair wr w.heap.size 0 0) ∧ Dx w wr ∧ w.heap.size + 1 < wr.heap.size) (fun i _ => s.size - (intOf i).toNat)
  case atStart => exact ⟨0, Nat.zero_le _, rfl, Lib.hid ⟨by go_simp; rfl, by go_simp; rfl, by go_simp, by go_simp⟩, Lib.hid ⟨by go_simp, by go_simp, by go_simp, by go_simp⟩, ((Dx.refl w).alloc _).alloc _, by simp⟩
  case round =>
    obtain ⟨k, hk, rfl, HP, HZ, hx, hsz⟩ := hrel
    by_cases hlt : k < s.size
    · obtain ⟨p0, p1, f0, f1⟩ := HP.out
      by_cases h8 : k < 8
      · have hk8 : (k : Int) / 8 = 0 := by omega
        obtain ⟨v1, v2⟩ := low_step s k hlt h8
        have V1 := Lib.hid v1
        have V2 := Lib.hid v2
        clear v1 v2
        go_wp2_with fail
        refine wp_region_still_tail 15 (by kernel_rfl) (by kernel_rfl) ?_
        simp only [List.take_succ_cons, List.take_zero, List.drop_succ_cons, List.drop_zero]
        have hwr0 : IntKind.i64.wrap 0 = 0 := by decide
        iterate 10 still_step
        still_call (shiftOf_any k _ (by omega))
        repeat still_step
        refine wpStill_nil ?_
        rw [V1.out]
        change wpList _ _ _ _ _ wr.drew
        go_wp2_with fail
        go_roundw
        case rel => exact ⟨k + 1, by omega, by go_num, Lib.hid (by rw [V2.out]; exact (HP.out.set0 _).drew), Lib.hid ((HZ.out.far _ (by omega)).drew), (hx.setCell (show w.heap.size ≤ w.heap.size + 1 by omega) _).drew, by simpa using hsz⟩
        case measure => simp [intOf]; omega
      · have hk8 : (k : Int) / 8 = 1 := by omega
        obtain ⟨v1, v2⟩ := high_step s k hlt (by omega) (by omega)
        have V1 := Lib.hid v1
        have V2 := Lib.hid v2
        clear v1 v2
        go_wp2_with fail
        refine wp_region_still_tail 15 (by kernel_rfl) (by kernel_rfl) ?_
        simp only [List.take_succ_cons, List.take_zero, List.drop_succ_cons, List.drop_zero]
        have hwr0 : IntKind.i64.wrap 1 = 1 := by decide
        iterate 10 still_step
        still_call (shiftOf_any k _ (by omega))
        repeat still_step
        refine wpStill_nil ?_
        rw [V1.out]
        change wpList _ _ _ _ _ wr.drew
        go_wp2_with fail
        go_roundw
        case rel => exact ⟨k + 1, by omega, by go_num, Lib.hid (by rw [V2.out]; exact (HP.out.set1 _).drew), Lib.hid ((HZ.out.far _ (by omega)).drew), (hx.setCell (show w.heap.size ≤ w.heap.size + 1 by omega) _).drew, by simpa using hsz⟩
        case measure => simp [intOf]; omega
    · obtain ⟨p0, p1, f0, f1⟩ := HP.out
      obtain ⟨q0, q1, g0, g1⟩ := HZ.out
      have e : s.data.toList.length = s.size := by rw [Array.length_toList]; rfl
      have hts : s.data.toList.take k = s.data.toList := List.take_of_length_le (by omega)
      rw [hts] at p0 p1
      clear hts e HP
      go_wp2_with fail
      refine bodyPost_ret (v := .agg #[.int .u64 (nm 8 s.data.toList : Nat), .int .u64 (nm 8 (s.data.toList.drop 8) : Nat)]) (by simp [results, Tryz.results96, go_sem, *]) rfl ⟨rfl, ?_⟩
      exact (hx.setCell (Nat.le_refl _) _).setCell (Nat.le_refl _) _
/-- compare's contract, for terms not higher than so -/
def CompareToD (hh : Nat) : Prop := ∀ (a b : Tm) (A B : Option Addr) (c d : Nat) (w : World), a.high ≤ hh → shortT a → shortT b → TmAt w a A c → TmAt w b B d →
    Calls Tryz.prog 78 #[a.val A c, b.val B d] w fun e w' => e = .returned (.int .i64 (cmpT a b)) ∧ Dx w w'

set_option maxHeartbeats 1000000 in
theorem compareFunc_anyD (hh : Nat) (hc : CompareToD hh) (l r : List Tm) (A B : Option Addr) (c d : Nat) (w : World) (h1 : highs l ≤ hh) (hl : shortL l) (hr : shortL r) (ll : l.length * 56 ≤ 140737488351232)
    (ha : TmsAt w l A) (hb : TmsAt w r B) :
    Calls Tryz.prog 97 #[.slice A l.length c, .slice B r.length d, .func (.func 78) #[] #[]] w
      fun e w' => e = .returned (.int .i64 (cmpL l r)) ∧ Dx w w' := by
  have H0 : Hid (cmpL (l.drop 0) (r.drop 0) = cmpL l r) := Lib.hid (by rw [List.drop_zero, List.drop_zero])
  go_enter Tryz.func97, Tryz.ntmps97
  go_wp2_with fail
  go_loopw [13] (fun i wr => ∃ (k : Nat), k ≤ l.length ∧ k ≤ r.length ∧ i = .int .i64 k ∧ Hid (cmpL (l.drop k) (r.drop k) = cmpL l r) ∧ Dx w wr) (fun i _ => l.length - (intOf i).toNat)
  case atStart => exact ⟨0, Nat.zero_le _, Nat.zero_le _, rfl, H0, Dx.refl _⟩
  case round =>
    obtain ⟨k, hk, hk2, rfl, H, hx⟩ := hrel
    by_cases hlt : k < l.length
    · obtain ⟨b, o, C, e, rfl, c0, c1, c2, c3, hsub⟩ := (ha.ext hx.ext).at_ hlt
      by_cases hlt2 : k < r.length
      · obtain ⟨b2, o2, C2, e2, rfl, d0, d1, d2, d3, hsub2⟩ := (hb.ext hx.ext).at_ hlt2
        have H2 : Hid ((if (cmpT l[k] r[k] != 0) = true then cmpT l[k] r[k] else cmpL (l.drop (k + 1)) (r.drop (k + 1))) = cmpL l r) := by
          have := H.out
          rw [List.drop_eq_getElem_cons hlt, List.drop_eq_getElem_cons hlt2, cmpL] at this
          exact Lib.hid this
        have hh1 : l[k].high ≤ hh := Nat.le_trans (high_le (List.getElem_mem hlt)) h1
        have s1 := shortL_mem hl (List.getElem_mem hlt)
        have s2 := shortL_mem hr (List.getElem_mem hlt2)
        have lb2 := World.block_lt_of_cell? wr _ d0
        simp only at lb2
        clear H H0
        go_wp2_with fail
        refine (hc l[k] r[k] _ _ _ _ _ hh1 s1 s2 (hsub.ext (((Ext.refl _).alloc _).alloc _)) (hsub2.ext (((Ext.refl _).alloc _).alloc _))).mono ?_
        rintro e w1 ⟨rfl, hx1⟩
        have hx2 := hx.trans ((((Dx.refl _).alloc _).alloc _).trans hx1)
        by_cases hz : (cmpT l[k] r[k] != 0) = true
        · have H3 : Hid (cmpT l[k] r[k] = cmpL l r) := Lib.hid (by have := H2.out; rwa [if_pos hz] at this)
          clear H2
          go_wp2_with fail
          go_ret
          exact ⟨ret_int H3.out, hx2⟩
        · have hz' : (cmpT l[k] r[k] != 0) = false := by simpa using hz
          have H3 : Hid (cmpL (l.drop (k + 1)) (r.drop (k + 1)) = cmpL l r) := Lib.hid (by have := H2.out; rwa [if_neg hz] at this)
          clear H2 hz
          go_wp2_with fail
          go_roundw
          case rel => exact ⟨k + 1, by omega, by omega, by go_num, H3, hx2⟩
          case measure => simp [intOf]; omega
      · have H3 : Hid (1 = cmpL l r) := by
          have := H.out
          rw [List.drop_eq_getElem_cons hlt, show r.drop k = [] from List.drop_eq_nil_of_le (by omega), cmpL] at this
          exact Lib.hid this
        have hge : decide (r.length ≤ k) = true := decide_eq_true (by omega)
        clear H H0
        go_wp2_with fail
        go_ret
        exact ⟨ret_int H3.out, hx.trans ((Dx.refl _).alloc _)⟩
    · by_cases hlt2 : k < r.length
      · have H3 : Hid (-1 = cmpL l r) := by
          have := H.out
          rw [List.drop_eq_nil_of_le (by omega), List.drop_eq_getElem_cons hlt2, cmpL] at this
          exact Lib.hid this
        have hll : l.length < r.length := by omega
        clear H H0
        go_wp2_with fail
        go_ret
        exact ⟨ret_int H3.out, hx⟩
      · have H3 : Hid (0 = cmpL l r) := by
          have := H.out
          rw [show l.drop k = [] from List.drop_eq_nil_of_le (by omega), show r.drop k = [] from List.drop_eq_nil_of_le (by omega), cmpL] at this
          exact Lib.hid this
        have hll : decide (l.length < r.length) = false := decide_eq_false (by omega)
        clear H H0
        go_wp2_with fail
        go_ret
        exact ⟨ret_int H3.out, hx⟩
theorem pack_keepD (S : World → Prop) (hS : ∀ u v : World, S u → Dx u v → S v) (s : ByteArray) (w : World) (hs : s.size ≤ 16) (h : S w) :
    Calls Tryz.prog 96 #[.string s] w fun e w' => e = .returned (.agg #[.int .u64 (nm 8 s.data.toList : Nat), .int .u64 (nm 8 (s.data.toList.drop 8) : Nat)]) ∧ S w' :=
  (pack_anyD s w hs).mono fun _ _ ⟨he, hx⟩ => ⟨he, hS _ _ h hx⟩
theorem labels_keepD (S : World → Prop) (hS : ∀ u v : World, S u → Dx u v → S v) (a b c d : Int) (w : World) (h : S w) :
    Calls Tryz.prog 95 #[.agg #[.int .u64 a, .int .u64 b], .agg #[.int .u64 c, .int .u64 d]] w fun e w' => e = .returned (.int .i64 (labI a b c d)) ∧ S w' :=
  (labels_anyD a b c d w).mono fun _ _ ⟨he, hx⟩ => ⟨he, hS _ _ h hx⟩

set_option maxRecDepth 100000 in
set_option maxHeartbeats 4000000 in
theorem compare_allD (hh : Nat) : CompareToD hh := by
  induction hh with
  | zero => intro a b A B c d w h0; have := high_pos a; omega
  | succ hh ih =>
    intro a b A B c d w h0 sa sb ha hb
    have la := ha.fits.args
    have lb := hb.fits.args
    have na := sa.name
    have nb := sb.name
    have ea := highs_eq a
    have HL : highs a.args ≤ hh := by omega
    clear ea
    have E := Lib.hid (cmpT_eq a b)
    have hx0 := ((Dx.refl w).alloc (.cells #[.int .i64 a.kind, .string a.name, .int .i64 a.n, .slice A a.args.length c] 40)).alloc (.cells #[.int .i64 b.kind, .string b.name, .int .i64 b.n, .slice B b.args.length d] 40)
    by_cases h1 : (sgn a.kind b.kind != 0) = true
    · have E1 := Lib.hid (E.out.trans (if_pos h1))
      go_enter Tryz.func78, Tryz.ntmps78
      go_wp2_with (go_at_call 54; refine (cmp_int _ _ _).mono ?_; rintro e w' ⟨rfl, rfl⟩)
      go_ret
      exact ⟨ret_int E1.out.symm, hx0⟩
    · have E1 := Lib.hid (E.out.trans (if_neg h1))
      have h1' := not_true h1
      clear h1 E
      by_cases h2 : (sgn a.n b.n != 0) = true
      · have E2 := Lib.hid (E1.out.trans (if_pos h2))
        go_enter Tryz.func78, Tryz.ntmps78
        go_wp2_with (go_at_call 54; refine (cmp_int _ _ _).mono ?_; rintro e w' ⟨rfl, rfl⟩)
        go_ret
        exact ⟨ret_int E2.out.symm, hx0⟩
      · have E2 := Lib.hid (E1.out.trans (if_neg h2))
        have h2' := not_true h2
        clear h2 E1
        by_cases h3 : (sgn a.args.length b.args.length != 0) = true
        · have E3 := Lib.hid (E2.out.trans (if_pos h3))
          go_enter Tryz.func78, Tryz.ntmps78
          go_wp2_with (go_at_call 54; refine (cmp_int _ _ _).mono ?_; rintro e w' ⟨rfl, rfl⟩)
          go_ret
          exact ⟨ret_int E3.out.symm, hx0⟩
        · have E3 := Lib.hid (E2.out.trans (if_neg h3))
          have h3' := not_true h3
          clear h3 E2
          go_enter Tryz.func78, Tryz.ntmps78
          go_wp2_with (go_at_call 54; refine (cmp_int _ _ _).mono ?_; rintro e w' ⟨rfl, rfl⟩)
          have q1 : (((w.alloc (.cells #[.int .i64 a.kind, .string a.name, .int .i64 a.n, .slice A a.args.length c] 40)).alloc (.cells #[.int .i64 b.kind, .string b.name, .int .i64 b.n, .slice B b.args.length d] 40))).cell? ⟨w.heap.size, 1, none⟩ = some (.string a.name) := by go_simp
          have q2 : (((w.alloc (.cells #[.int .i64 a.kind, .string a.name, .int .i64 a.n, .slice A a.args.length c] 40)).alloc (.cells #[.int .i64 b.kind, .string b.name, .int .i64 b.n, .slice B b.args.length d] 40))).cell? ⟨w.heap.size + 1, 1, none⟩ = some (.string b.name) := by go_simp
          have q3 : (((w.alloc (.cells #[.int .i64 a.kind, .string a.name, .int .i64 a.n, .slice A a.args.length c] 40)).alloc (.cells #[.int .i64 b.kind, .string b.name, .int .i64 b.n, .slice B b.args.length d] 40))).cell? ⟨w.heap.size, 3, none⟩ = some (.slice A a.args.length c) := by go_simp
          have q4 : (((w.alloc (.cells #[.int .i64 a.kind, .string a.name, .int .i64 a.n, .slice A a.args.length c] 40)).alloc (.cells #[.int .i64 b.kind, .string b.name, .int .i64 b.n, .slice B b.args.length d] 40))).cell? ⟨w.heap.size + 1, 3, none⟩ = some (.slice B b.args.length d) := by go_simp
          generalize ((w.alloc (.cells #[.int .i64 a.kind, .string a.name, .int .i64 a.n, .slice A a.args.length c] 40)).alloc (.cells #[.int .i64 b.kind, .string b.name, .int .i64 b.n, .slice B b.args.length d] 40)) = W0 at *
          have HM : Hid (∀ u v : World, (u.cell? ⟨w.heap.size, 1, none⟩ = some (.string a.name) ∧ u.cell? ⟨w.heap.size + 1, 1, none⟩ = some (.string b.name) ∧ Dx W0 u) → Dx u v →
            (v.cell? ⟨w.heap.size, 1, none⟩ = some (.string a.name) ∧ v.cell? ⟨w.heap.size + 1, 1, none⟩ = some (.string b.name) ∧ Dx W0 v)) :=
            Lib.hid fun u v h k => ⟨k.cell h.1, k.cell h.2.1, h.2.2.trans k⟩
          have hx00 := Dx.refl W0
          go_region_held3 (fun u => u.cell? ⟨w.heap.size, 1, none⟩ = some (.string a.name) ∧ u.cell? ⟨w.heap.size + 1, 1, none⟩ = some (.string b.name) ∧ Dx W0 u)
            (first | assumption | exact ⟨q1, q2, hx00⟩ | exact ⟨q1, q2, hx00.drew⟩ | go_keep)
            (first
              | (go_at_call 96; refine (pack_keepD _ HM.out _ _ (by assumption) (by assumption)).mono ?_; rintro e w' ⟨rfl, hS⟩)
              | (go_at_call 95; refine (labels_keepD _ HM.out _ _ _ _ _ (by assumption)).mono ?_; rintro e w' ⟨rfl, hS⟩))
          obtain ⟨r1, r2, r3⟩ := hS
          have p3 := r3.cell q3
          have p4 := r3.cell q4
          have hxe := hx0.trans r3
          have eN : cmpN a.name b.name = labI (nm 8 a.name.data.toList : Nat) (nm 8 (a.name.data.toList.drop 8) : Nat) (nm 8 b.name.data.toList : Nat) (nm 8 (b.name.data.toList.drop 8) : Nat) := rfl
          have E4 := E3.out
          rw [eN] at E4
          clear E3 eN HM q1 q2 q3 q4
          generalize labI (nm 8 a.name.data.toList : Nat) (nm 8 (a.name.data.toList.drop 8) : Nat) (nm 8 b.name.data.toList : Nat) (nm 8 (b.name.data.toList.drop 8) : Nat) = N at *
          by_cases h4 : (N != 0) = true
          · have E5 := Lib.hid (E4.trans (if_pos h4))
            clear E4
            go_wp2_with fail
            go_ret
            exact ⟨ret_int E5.out.symm, hxe⟩
          · have E5 := Lib.hid (E4.trans (if_neg h4))
            have h4' := not_true h4
            clear E4 h4
            go_wp2_with fail
            refine (compareFunc_anyD hh ih a.args b.args A B c d _ HL sa.args sb.args la (ha.args.ext hxe.ext) (hb.args.ext hxe.ext)).mono ?_
            rintro e w2 ⟨rfl, hx2⟩
            go_wp2_with fail
            go_ret
            exact ⟨ret_int E5.out.symm, hxe.trans hx2⟩
set_option maxHeartbeats 1000000 in
theorem Order_yesD (a b : Tm) (A B : Option Addr) (c d : Nat) (w : World) (ha : TmAt w a A c) (hb : TmAt w b B d) (ra : mayB a = true) (rb : mayB b = true) :
    Calls Tryz.prog 53 #[a.val A c, b.val B d] w fun e w' => e = .returned (.tuple #[.int .i64 (cmpT a b), .int .i64 0]) ∧ Dx w w' := by
  have RA := Lib.hid ra
  have RB := Lib.hid rb
  clear ra rb
  go_enter Tryz.func53, Tryz.ntmps53
  go_wp2_with fail
  refine (check_yesD a A c _ (ha.ext (((Ext.refl _).alloc _).alloc _)) RA.out).mono ?_
  rintro e w1 ⟨rfl, hx1⟩
  have hx := (((Dx.refl w).alloc _).alloc _).trans hx1
  have b0 : w1.cell? ⟨w.heap.size + 1, 0, none⟩ = some (.int .i64 b.kind) := hx1.cell (by go_simp)
  have b1 : w1.cell? ⟨w.heap.size + 1, 1, none⟩ = some (.string b.name) := hx1.cell (by go_simp)
  have b2 : w1.cell? ⟨w.heap.size + 1, 2, none⟩ = some (.int .i64 b.n) := hx1.cell (by go_simp)
  have b3 : w1.cell? ⟨w.heap.size + 1, 3, none⟩ = some (.slice B b.args.length d) := hx1.cell (by go_simp)
  have a0 : w1.cell? ⟨w.heap.size, 0, none⟩ = some (.int .i64 a.kind) := hx1.cell (by go_simp)
  have a1 : w1.cell? ⟨w.heap.size, 1, none⟩ = some (.string a.name) := hx1.cell (by go_simp)
  have a2 : w1.cell? ⟨w.heap.size, 2, none⟩ = some (.int .i64 a.n) := hx1.cell (by go_simp)
  have a3 : w1.cell? ⟨w.heap.size, 3, none⟩ = some (.slice A a.args.length c) := hx1.cell (by go_simp)
  go_wp2_with fail
  refine (check_yesD b B d _ (hb.ext hx.ext) RB.out).mono ?_
  rintro e w2 ⟨rfl, hx2⟩
  have c0 := hx2.cell a0
  have c1 := hx2.cell a1
  have c2 := hx2.cell a2
  have c3 := hx2.cell a3
  have d0 := hx2.cell b0
  have d1 := hx2.cell b1
  have d2 := hx2.cell b2
  have d3 := hx2.cell b3
  have hxx := hx.trans hx2
  clear a0 a1 a2 a3 b0 b1 b2 b3
  go_wp2_with fail
  refine (compare_allD 5 a b A B c d _ (may_high RA.out) (may_short RA.out) (may_short RB.out) (ha.ext hxx.ext) (hb.ext hxx.ext)).mono ?_
  rintro e w3 ⟨rfl, hx3⟩
  go_wp2_with fail
  go_ret2
  exact ⟨rfl, hxx.trans hx3⟩
set_option maxHeartbeats 2000000 in
theorem compare_anyD (x y : Fc) (A B : Option Addr) (c d : Nat) (w : World) (hx : TmAt w x.tm A c) (hy : TmAt w y.tm B d) (mx : mayB x.tm = true) (my : mayB y.tm = true) :
    Calls Tryz.prog 32 #[x.val A c, y.val B d] w fun e w' => e = .returned (.int .i64 (cmpF x y)) ∧ Dx w w' := by
  have HR : Hid (cmpF x y = if (cmpT x.tm y.tm != 0) = true then cmpT x.tm y.tm else if (sgn x.fr y.fr != 0) = true then sgn x.fr y.fr else sgn x.til y.til) := Lib.hid rfl
  generalize cmpF x y = RES at HR ⊢
  obtain ⟨W, hW⟩ : ∃ W, W = boxF (boxF w x A c) y B d := ⟨_, rfl⟩
  have hT : Two w W x y A B c d := by rw [hW]; exact two_made w x y A B c d
  have KO := Lib.hid (Order_yesD x.tm y.tm A B c d W (hx.ext hT.ext) (hy.ext hT.ext) mx my)
  have hD : Dx w W := by rw [hW]; exact ((Dx.refl _).alloc _).alloc _
  simp only [boxF] at hW
  have HW := Lib.hid hW
  have KC := Lib.hid (fun a b u => cmp_int a b u)
  obtain ⟨a0, a1, a2, a3, a4, a5, b0, b1, b2, b3, b4, b5⟩ := And.intro hT.a0 (And.intro hT.a1 (And.intro hT.a2 (And.intro hT.a3 (And.intro hT.a4 (And.intro hT.a5 (And.intro hT.b0 (And.intro hT.b1 (And.intro hT.b2 (And.intro hT.b3 (And.intro hT.b4 hT.b5))))))))))
  have HT := Lib.hid hT
  clear hW hT hx hy mx my
  go_enter Tryz.func32, Tryz.ntmps32
  go_upto_region 1 with (fail)
  rw [← HW.out]
  clear HW
  go_wp2_with fail
  refine KO.out.mono ?_
  rintro e w2 ⟨rfl, hx2⟩
  replace a4 := hx2.cell a4
  replace a5 := hx2.cell a5
  replace b4 := hx2.cell b4
  replace b5 := hx2.cell b5
  have hx12 := hD.trans hx2
  generalize cmpT x.tm y.tm = C at *
  clear a0 a1 a2 a3 b0 b1 b2 b3 hx2 KO HT
  cases h1 : (C != 0) with
  | true =>
    have HF : Hid (C = RES) := Lib.hid (by rw [HR.out, h1]; rfl)
    go_wp2_with fail
    go_ret
    exact ⟨ret_int HF.out, hx12⟩
  | false =>
    go_wp2_with fail
    refine (KC.out _ _ _).mono ?_
    rintro e w3 ⟨rfl, hw3⟩
    rw [← hw3]
    clear hw3
    obtain ⟨S, hS⟩ : ∃ S, S = sgn x.fr y.fr := ⟨_, rfl⟩
    rw [← hS] at HR ⊢
    cases h2 : (S != 0) with
    | true =>
      have HF : Hid (S = RES) := Lib.hid (by rw [HR.out, h1, h2]; rfl)
      clear hS
      go_wp2_with fail
      go_ret
      exact ⟨ret_int HF.out, hx12⟩
    | false =>
      have HF : Hid (sgn x.til y.til = RES) := Lib.hid (by rw [HR.out, h1, h2]; rfl)
      clear hS
      go_wp2_with fail
      refine (KC.out _ _ _).mono ?_
      rintro e w4 ⟨rfl, hw4⟩
      rw [← hw4]
      clear hw4
      go_wp2_with fail
      go_ret
      exact ⟨ret_int HF.out, hx12⟩
end Go.Proofs.YtkdhpifjljkpfaaGreat
