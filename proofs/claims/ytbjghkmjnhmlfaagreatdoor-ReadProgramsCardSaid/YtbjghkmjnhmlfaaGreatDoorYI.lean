/- Joined: Pau, Pav. -/
import Derived.Test.YtbjghkmjnhmlfaaGreatDoorPat
import Derived.Deep.RegionWith
import Derived.Deep.DeepCutAuto

/- Package read: terms: anyTerm, term. -/
namespace Go.Proofs.YtbjghkmjnhmlfaaGreatDoor
open Go.RowKit

theorem any_head (T : List Tok) (k : Nat) : ∃ f, anyP T k = headP T f := by cases k <;> exact ⟨_, rfl⟩
theorem any_var {T : List Tok} {k i : Nat} (h : rl T i = 1) : anyP T k i = .ok (⟨1, (tk T i).text, 0, []⟩, i + 1) := by
  obtain ⟨f, e⟩ := any_head T k
  rw [e, headP, if_pos h]
theorem any_num {T : List Tok} {k i : Nat} (h : rl T i = 2) : anyP T k i = .ok (⟨2, .empty, (tk T i).n, []⟩, i + 1) := by
  obtain ⟨f, e⟩ := any_head T k
  rw [e, headP, if_neg (by omega), if_pos h]
theorem any_bad {T : List Tok} {k i : Nat} (h1 : rl T i ≠ 1) (h2 : rl T i ≠ 2) (h3 : isName (rl T i) = false) : anyP T k i = .error (bad T i) := by
  obtain ⟨f, e⟩ := any_head T k
  rw [e, headP, if_neg h1, if_neg h2, if_neg (by rw [h3]; simp)]
theorem name_ne {r : Nat} (h : isName r = true) : r ≠ 1 ∧ r ≠ 2 ∧ r ≠ 0 := by
  unfold isName at h
  simp only [Bool.or_eq_true, beq_iff_eq, decide_eq_true_eq] at h
  omega
theorem any_name {T : List Tok} {k i : Nat} (h : isName (rl T i) = true) (h4 : rl T (i + 1) ≠ 4) : anyP T k i = .ok (⟨3, (tk T i).text, 0, []⟩, i + 1) := by
  obtain ⟨f, e⟩ := any_head T k
  rw [e, headP, if_neg (name_ne h).1, if_neg (name_ne h).2.1, if_pos h, if_neg h4]
theorem any_args {T : List Tok} {k i : Nat} (h : isName (rl T i) = true) (h4 : rl T (i + 1) = 4) : anyP T (k + 1) i = match argsP T (anyP T k) (T.length - (i + 1)) [] (i + 1 + 1) with
    | .error e => .error e
    | .ok (l, j) => .ok (⟨3, (tk T i).text, 0, l⟩, j) := by
  rw [anyP, headP, if_neg (name_ne h).1, if_neg (name_ne h).2.1, if_pos h, if_pos h4]
  rfl
theorem any_lim {T : List Tok} {i : Nat} (h : isName (rl T i) = true) (h4 : rl T (i + 1) = 4) : anyP T 0 i = .error (lim T (i + 1)) := by
  rw [anyP, headP, if_neg (name_ne h).1, if_neg (name_ne h).2.1, if_pos h, if_pos h4]
theorem mask_name (r : Nat) (h : r < 38) : Nat.testBit 274877382664 r = isName r := by
  have : ∀ r, r < 38 → Nat.testBit 274877382664 r = isName r := by decide
  exact this r h
theorem bit_ne {r k : Nat} (h : r ≠ k) : Nat.testBit (2 ^ k) r = false := by rw [Nat.testBit_two_pow]; simp; omega

theorem leaf_fits {k n : Int} {s : ByteArray} (hk : (Lit.int .i64 k).wf = true) (hn : (Lit.int .i64 n).wf = true) (hs : s.size ≤ 4000) : Tm.Fits ⟨k, s, n, []⟩ := ⟨hk, hn, by simp only; omega, by simp⟩
theorem args_fits {s : ByteArray} {ts : List Tm} (hs : s.size ≤ 4000) (hl : ts.length ≤ 8004) : Tm.Fits ⟨3, s, 0, ts⟩ := ⟨by simp only; decide, by simp only; decide, by simp only; omega, by simp only; omega⟩
/-- the result's four cells laid: nothing else is turned -/
theorem set4_new {w w2 : World} {g : Nat} (hC : Chg (· = g) w w2) (v0 v1 v2 v3 : Value) : Chg (· = g) w (set4 w2 w.heap.size 0 v0 v1 v2 v3) := by
  have h := set4_chg w2 w.heap.size 0 v0 v1 v2 v3 (F := fun x => x = w.heap.size) rfl
  refine ⟨h.os.trans hC.os, h.tape.trans hC.tape, h.output.trans hC.output, Nat.le_trans hC.size h.size, fun k hk hf => ?_⟩
  have hs := hC.size
  rw [h.block k (by omega) (by omega)]
  exact hC.block k hk hf
theorem any_fin_ok {w wx w2 wf : World} {g : Nat} {K : RdP} {T : List Tok} {j b : Nat} {t : Tm} {A : Option Addr} {c : Nat} (hC : Chg (· = g) w w2) (hx : w.heap.size < wx.heap.size) (hR : RdAt w2 g K T j b) (hg : g < w.heap.size) (hlo : K.A < w.heap.size ∧ K.R < w.heap.size)
    (hIn : TmIn w2 (New wx w2) t A c) (hwf : wf = set4 w2 w.heap.size 0 (.int .i64 t.kind) (.string t.name) (.int .i64 t.n) (.slice A t.args.length c)) {e : Ending} (he : e = .returned (.tuple #[t.val A c, .bool true])) : TmOut w g K T b (.ok (t, j)) e wf := by
  subst hwf
  have ks : ∀ k, k ≠ w.heap.size → (set4 w2 w.heap.size 0 (.int .i64 t.kind) (.string t.name) (.int .i64 t.n) (.slice A t.args.length c)).heap[k]? = w2.heap[k]? := fun k hk => set4_block _ _ _ _ _ _ _ _ hk
  refine ⟨set4_new hC _ _ _ _, A, c, he, hIn.keep fun k hk _ => ⟨ks k (by have := hk.1; omega), by have := hk.1; omega, by rw [set4_size]; exact hk.2⟩, hR.keep fun k _ e => ks k (by rcases e with e | e | e <;> omega)⟩
theorem any_fin_err {w w2 wf : World} {g : Nat} {K : RdP} {T : List Tok} {b : Nat} {a x : Int} (hC : Chg (· = g) w w2) (hE : RdErr w2 g a x) (hg : g < w.heap.size) {v0 v1 v2 v3 : Value} (hwf : wf = set4 w2 w.heap.size 0 v0 v1 v2 v3)
    {e : Ending} (he : ∃ k s n A l c, e = .returned (.tuple #[.agg #[.int .i64 k, .string s, .int .i64 n, .slice A l c], .bool false])) : TmOut w g K T b (.error (a, x)) e wf := by
  subst hwf
  have ks : (set4 w2 w.heap.size 0 v0 v1 v2 v3).heap[g]? = w2.heap[g]? := set4_block _ _ _ _ _ _ _ _ (by omega)
  exact ⟨set4_new hC _ _ _ _, he, cell_same ks hE.c4, cell_same ks hE.c5⟩

theorem chg_new {w w5 w6 : World} {g p : Nat} (h : Chg (· = g) w w5) (k : Chg (fun x => x = g ∨ x = p) w5 w6) (hp : w.heap.size ≤ p) : Chg (· = g) w w6 := by
  have hs := h.size
  refine ⟨k.os.trans h.os, k.tape.trans h.tape, k.output.trans h.output, Nat.le_trans h.size k.size, fun x hx hf => ?_⟩
  rw [k.block x (by omega) (by omega)]
  exact h.block x hx hf
set_option maxRecDepth 100000 in
set_option maxHeartbeats 1000000 in
theorem args_lim {T : List Tok} {w : World} {g p : Nat} {K : RdP} {i : Nat} (h : RdAt w g K T i 100) (hi : i < T.length) (h4 : rl T i = 4) :
    Calls Tryz.prog 95 #[.pointer (some ⟨g, 0, none⟩), .pointer (some ⟨p, 0, none⟩)] w fun e w' => e = .returned (.bool false) ∧ RdErr w' g (lim T i).1 (lim T i).2 ∧ Chg (· = g) w w' := by
  have KE := Lib.hid (enter_lim h hi h4)
  clear h
  go_enter Tryz.func95, Tryz.ntmps95
  go_wp2_with fail
  refine KE.out.mono ?_
  rintro e w1 ⟨rfl, h1⟩
  go_wp2_with fail
  go_ret
  exact ⟨rfl, h1⟩
set_option maxRecDepth 100000 in
set_option maxHeartbeats 4000000 in
theorem any_step (T : List Tok) (hT : EndLast T) (k : Nat) (ih : ∀ m, k = m + 1 → AnyTo T m) : AnyTo T k := by
  intro w g K i b hb h hi
  have c0 := h.c0
  have c2 := h.c2
  obtain ⟨a0, a1, a2, a3⟩ := h.tok hi
  have i0 : (0 : Int) ≤ (i : Int) := Int.natCast_nonneg _
  have i1 : (i : Int) < (T.length : Int) := by omega
  have hgl := h.lt
  have hlo := h.low hT.1
  go_enter Tryz.func80, Tryz.ntmps80
  go_upto_region 1 with (fail)
  go_cut [4] (fun v4 wx => v4 = .pointer (some ⟨w.heap.size + 1, 0, none⟩) ∧ Hid (Box4 wx w.heap.size (.int .i64 0) (.string ⟨#[]⟩) (.int .i64 0) (.slice none 0 0) ∧ Box4 wx (w.heap.size + 1) (.int .i64 (tk T i).kind) (.string (tk T i).text) (.int .i64 (tk T i).n) (.int .i64 (tk T i).at_)) ∧ Ext w wx)
  case first =>
    have hb1 := Box4.new w (.int .i64 0) (.string ⟨#[]⟩) (.int .i64 0) (.slice none 0 0) 58
    have hb2 := Box4.new (w.alloc (.cells #[.int .i64 0, .string ⟨#[]⟩, .int .i64 0, .slice none 0 0] 58)) (.int .i64 (tk T i).kind) (.string (tk T i).text) (.int .i64 (tk T i).n) (.int .i64 (tk T i).at_) 54
    have hb1' := hb1.ext ((Ext.refl _).alloc (.cells #[.int .i64 (tk T i).kind, .string (tk T i).text, .int .i64 (tk T i).n, .int .i64 (tk T i).at_] 54))
    have hx : Ext w ((w.alloc (.cells #[.int .i64 0, .string ⟨#[]⟩, .int .i64 0, .slice none 0 0] 58)).alloc (.cells #[.int .i64 (tk T i).kind, .string (tk T i).text, .int .i64 (tk T i).n, .int .i64 (tk T i).at_] 54)) := ((Ext.refl w).alloc _).alloc _
    rw [show (w.alloc (.cells #[.int .i64 0, .string ⟨#[]⟩, .int .i64 0, .slice none 0 0] 58)).heap.size = w.heap.size + 1 by simp] at hb2
    have HB := Lib.hid (And.intro hb1' hb2)
    have HX := Lib.hid hx
    clear hb1 hb2 hb1' hx
    go_region_with (fail)
    all_goals
      go_wp2_with fail
      go_meet
      exact ⟨rfl, Lib.hid HB.out, HX.out.drew⟩
  case rest =>
    obtain ⟨rfl, HB, hxc⟩ := hcut
    have hR := h.ext hxc
    have hsz := hxc.size
    have hw := h.wf i hi
    obtain ⟨hr1, hr2⟩ := HB.out
    have hrl : w.heap.size < wc.heap.size := hr1.lt
    have hr2l := hr2.lt
    have hfn : (Lit.int .i64 (tk T i).n).wf = true ∧ (tk T i).text.size ≤ 4000 := by rw [tk_at T hi]; exact hw
    have HFN := Lib.hid hfn
    clear h c0 c2 a0 a1 a2 a3 i0 i1 HB hw hfn
    by_cases hv : rl T i = 1
    · have KT := Lib.hid (take_yes 2 (by omega) hR hi (by rw [hv]; decide))
      have HA := Lib.hid (any_var (k := k) hv)
      clear hR
      go_wp2_with fail
      refine KT.out.mono ?_
      rintro e w2 ⟨rfl, hR2, hC2⟩
      obtain ⟨x0, x1, x2, x3, _, _, _, _⟩ := hr2.chg hC2 (by omega)
      obtain ⟨y0, y1, y2, y3, f0, f1, f2, f3⟩ := hr1.chg hC2 (by omega)
      have hC : Chg (· = g) w w2 := (Chg.of_ext hxc).trans hC2
      have HR2 := Lib.hid hR2
      have hs2 := hC2.size
      clear KT hr1 hr2 hR2
      go_wp2_with fail
      refine bodyPost_ret (v := .tuple #[(⟨1, (tk T i).text, 0, []⟩ : Tm).val none 0, .bool true]) (by simp [results, Tryz.results80, go_sem, *]) rfl ?_
      rw [HA.out]
      exact any_fin_ok hC hrl HR2.out hgl hlo (.leaf 0 (leaf_fits (by decide) (by decide) HFN.out.2) rfl) rfl rfl
    · by_cases hn : rl T i = 2
      · have KT := Lib.hid (take_no 2 (by omega) hR hi (bit_ne (k := 1) hv))
        have HA := Lib.hid (any_num (k := k) hn)
        have HR := Lib.hid hR
        have HB4 : Hid (Nat.testBit 4 (rl T i) = true) := Lib.hid (by rw [hn]; decide)
        clear hR
        go_wp2_with fail
        refine KT.out.mono ?_
        rintro e w1 ⟨rfl, hx1⟩
        have KT2 := Lib.hid (take_yes 4 (by omega) (HR.out.ext hx1) hi HB4.out)
        clear KT
        go_wp2_with fail
        refine KT2.out.mono ?_
        rintro e w2 ⟨rfl, hR2, hC2⟩
        obtain ⟨x0, x1, x2, x3, _, _, _, _⟩ := (hr2.ext hx1).chg hC2 (by omega)
        obtain ⟨y0, y1, y2, y3, f0, f1, f2, f3⟩ := (hr1.ext hx1).chg hC2 (by omega)
        have hC : Chg (· = g) w w2 := (Chg.of_ext (hxc.trans hx1)).trans hC2
        have HR2 := Lib.hid hR2
        clear KT2 hr1 hr2 hR2
        go_wp2_with fail
        refine bodyPost_ret (v := .tuple #[(⟨2, .empty, (tk T i).n, []⟩ : Tm).val none 0, .bool true]) (by simp [results, Tryz.results80, go_sem, *]; rfl) rfl ?_
        rw [HA.out]
        exact any_fin_ok hC hrl HR2.out hgl hlo (.leaf 0 (leaf_fits (by decide) HFN.out.1 (by decide)) rfl) rfl rfl
      · have hb2 := Lib.hid (bit_ne (k := 1) hv)
        have hb4 := Lib.hid (bit_ne (k := 2) hn)
        have HR := Lib.hid hR
        clear hR
        go_wp2_with fail
        refine (take_no 2 (by omega) HR.out hi hb2.out).mono ?_
        rintro e w1 ⟨rfl, hx1⟩
        have HR1 := Lib.hid (HR.out.ext hx1)
        have hxc1 := hxc.trans hx1
        have hr11 := hr1.ext hx1
        have hr21 := hr2.ext hx1
        clear HR hxc hx1 hb2 hr1 hr2
        go_wp2_with fail
        refine (take_no 4 (by omega) HR1.out hi hb4.out).mono ?_
        rintro e w2 ⟨rfl, hx2⟩
        have HR2 := Lib.hid (HR1.out.ext hx2)
        have hxc2 := hxc1.trans hx2
        have hr12 := hr11.ext hx2
        have hr22 := hr21.ext hx2
        obtain ⟨x0, x1, x2, x3, _, _, _, _⟩ := hr22
        have hs2 : w.heap.size < w2.heap.size := by have := hx2.size; have := hr11.lt; omega
        clear HR1 hxc1 hx2 hb4 hr11 hr21
        go_upto_region 7 with (fail)
        obtain ⟨w3, hw3⟩ : ∃ w3, w3 = w2.alloc (.cells #[.int .i64 3, .string (tk T i).text, .int .i64 0, .slice none 0 0] 58) := ⟨_, rfl⟩
        rw [← hw3]
        obtain ⟨p, hp⟩ : ∃ p, p = w2.heap.size := ⟨_, rfl⟩
        have hb3 : Box4 w3 p (.int .i64 3) (.string (tk T i).text) (.int .i64 0) (.slice none 0 0) := by rw [hw3, hp]; exact Box4.new w2 _ _ _ _ _
        have hx3 : Ext w2 w3 := by rw [hw3]; exact (Ext.refl _).alloc _
        rw [← hp]
        have hpl : p < w3.heap.size := hb3.lt
        have hwp : w.heap.size < p := by omega
        clear hw3 hp x0 x1 x2 x3
        have HR3 := Lib.hid (HR2.out.ext hx3)
        have hr13 := hr12.ext hx3
        have hxc3 := hxc2.trans hx3
        clear HR2 hx3 hr12 hxc2
        cases hnm : isName (rl T i) with
        | false =>
          have KN := Lib.hid (need_no 274877382664 (by omega) HR3.out hi (by rw [mask_name _ (rl_lt T i)]; exact hnm))
          have HA := Lib.hid (any_bad (k := k) hv hn hnm)
          clear hnm
          go_wp2_with fail
          refine KN.out.mono ?_
          rintro e w4 ⟨rfl, hE, hC4⟩
          obtain ⟨y0, y1, y2, y3, f0, f1, f2, f3⟩ := hr13.chg hC4 (by omega)
          obtain ⟨t0, t1, t2, t3, _, _, _, _⟩ := hb3.chg hC4 (by omega)
          have hC : Chg (· = g) w w4 := (Chg.of_ext hxc3).trans hC4
          have HE := Lib.hid hE
          clear KN hE hC4 hr13 hb3
          go_wp2_with fail
          refine bodyPost_ret (v := .tuple #[.agg #[.int .i64 3, .string (tk T i).text, .int .i64 0, .slice none 0 0], .bool false]) (by simp [results, Tryz.results80, go_sem, *]) rfl ?_
          rw [HA.out]
          exact any_fin_err hC HE.out hgl rfl ⟨_, _, _, _, _, _, rfl⟩
        | true =>
          have KN := Lib.hid (need_yes 274877382664 (by omega) HR3.out hi (by rw [mask_name _ (rl_lt T i)]; exact hnm))
          have hi1 := hT.2 i (name_ne hnm).2.2
          have HNM := Lib.hid hnm
          clear hnm
          go_wp2_with fail
          refine KN.out.mono ?_
          rintro e w4 ⟨rfl, hR4, hC4⟩
          have hr14 := hr13.chg hC4 (by omega)
          have hb4 := hb3.chg hC4 (by omega)
          have hC : Chg (· = g) w w4 := (Chg.of_ext hxc3).trans hC4
          have hw34 := hC4.size
          clear KN hC4 hr13 hb3 HR3 hxc3
          by_cases h4 : rl T (i + 1) = 4
          · have HR4 := Lib.hid hR4
            have KS := Lib.hid (sees_rd 16 (by omega) hR4 hi1)
            rw [h4, show Nat.testBit 16 4 = true by decide] at KS
            clear hR4
            go_wp2_with fail
            refine KS.out.mono ?_
            rintro e w5 ⟨rfl, hx5⟩
            have hr15 := hr14.ext hx5
            have hb5 := hb4.ext hx5
            have hC5 := hC.trans (Chg.of_ext hx5)
            have hw45 := hx5.size
            have HR5 := Lib.hid (HR4.out.ext hx5)
            clear KS hr14 hb4 hC hx5 HR4
            have hpg : p ≠ g := by omega
            cases k with
            | zero =>
              obtain rfl : b = 100 := by omega
              have KA := Lib.hid (args_lim (p := p) HR5.out hi1 h4)
              have HA := Lib.hid (any_lim HNM.out h4)
              go_wp2_with fail
              refine KA.out.mono ?_
              rintro e w6 ⟨rfl, hE, hC6⟩
              obtain ⟨y0, y1, y2, y3, f0, f1, f2, f3⟩ := hr15.chg hC6 (by omega)
              obtain ⟨t0, t1, t2, t3, _, _, _, _⟩ := hb5.chg hC6 hpg
              have hC7 := hC5.trans hC6
              have HE := Lib.hid hE
              clear KA hE hC6 hr15 hb5 hC5 HR5
              go_wp2_with fail
              refine bodyPost_ret (v := .tuple #[.agg #[.int .i64 3, .string (tk T i).text, .int .i64 0, .slice none 0 0], .bool false]) (by simp [results, Tryz.results80, go_sem, *]) rfl ?_
              rw [HA.out]
              exact any_fin_err hC7 HE.out hgl rfl ⟨_, _, _, _, _, _, rfl⟩
            | succ m =>
              have KA := Lib.hid (args_any T hT m (ih m rfl) w5 g p K (i + 1) b (by omega) HR5.out hi1 h4 hpg (by omega) (by omega) hb5.2.2.2.1 hb5.2.2.2.2.2.2.2)
              have HA := any_args (k := m) HNM.out h4
              match hF : argsP T (anyP T m) (T.length - (i + 1)) [] (i + 1 + 1) with
              | .error (a, x) =>
                rw [hF] at HA
                have HA := Lib.hid HA
                have HF := Lib.hid hF
                clear hF
                go_wp2_with fail
                refine KA.out.mono ?_
                rintro e w6 ⟨hC6, hcs, ho⟩
                rw [HF.out] at ho
                obtain ⟨rfl, hE, A, l, c, t3⟩ := ho
                obtain ⟨y0, y1, y2, y3, f0, f1, f2, f3⟩ := hr15.chg hC6 (by omega)
                have t0 := (hcs 0 (by omega)).trans hb5.1
                have t1 := (hcs 1 (by omega)).trans hb5.2.1
                have t2 := (hcs 2 (by omega)).trans hb5.2.2.1
                have hC7 := chg_new hC5 hC6 (by omega)
                have HE := Lib.hid hE
                clear KA hE hC6 hr15 hb5 hC5 HR5 hcs
                go_wp2_with fail
                refine bodyPost_ret (v := .tuple #[.agg #[.int .i64 3, .string (tk T i).text, .int .i64 0, .slice A l c], .bool false]) (by simp [results, Tryz.results80, go_sem, *]) rfl ?_
                rw [HA.out]
                exact any_fin_err hC7 HE.out hgl rfl ⟨_, _, _, _, _, _, rfl⟩
              | .ok (ts, j) =>
                rw [hF] at HA
                have hlen := argsP_len (anyP_takes hT m) _ _ _ _ _ hF
                have hjT := (argsP_takes hT (anyP_takes hT m) _ _ _ _ _ hF).2
                have hlR := HR5.out.len
                have HA := Lib.hid HA
                have HF := Lib.hid hF
                have HTS : Hid (ts.length ≤ 8004) := Lib.hid (by simp at hlen; omega)
                clear hF hlen hjT hlR
                go_wp2_with fail
                refine KA.out.mono ?_
                rintro e w6 ⟨hC6, hcs, ho⟩
                rw [HF.out] at ho
                obtain ⟨rfl, hR6, v, xs, hAI, hmp, t3⟩ := ho
                obtain ⟨A, c, rfl, hIn⟩ := hAI.done ⟨3, (tk T i).text, 0, ts⟩ hmp (args_fits HFN.out.2 HTS.out)
                obtain ⟨y0, y1, y2, y3, f0, f1, f2, f3⟩ := hr15.chg hC6 (by omega)
                have t0 := (hcs 0 (by omega)).trans hb5.1
                have t1 := (hcs 1 (by omega)).trans hb5.2.1
                have t2 := (hcs 2 (by omega)).trans hb5.2.2.1
                have hC7 := chg_new hC5 hC6 (by omega)
                have HH := Lib.hid (And.intro hR6 hIn)
                have hw5 : w.heap.size < w5.heap.size := by omega
                clear KA hR6 hIn hC6 hr15 hb5 hC5 HR5 hcs hAI hmp
                go_wp2_with fail
                refine bodyPost_ret (v := .tuple #[(⟨3, (tk T i).text, 0, ts⟩ : Tm).val A c, .bool true]) (by simp [results, Tryz.results80, go_sem, *]) rfl ?_
                rw [HA.out]
                exact any_fin_ok hC7 hw5 HH.out.1 hgl hlo HH.out.2 rfl rfl
          · have HB16 : Hid (Nat.testBit 16 (rl T (i + 1)) = false) := Lib.hid (bit_ne (k := 4) h4)
            have HA := Lib.hid (any_name (k := k) HNM.out h4)
            have HR4 := Lib.hid hR4
            have KS := Lib.hid (sees_rd 16 (by omega) hR4 hi1)
            rw [HB16.out] at KS
            clear hR4
            go_wp2_with fail
            refine KS.out.mono ?_
            rintro e w5 ⟨rfl, hx5⟩
            obtain ⟨y0, y1, y2, y3, f0, f1, f2, f3⟩ := hr14.ext hx5
            obtain ⟨t0, t1, t2, t3, _, _, _, _⟩ := hb4.ext hx5
            have hC5 := hC.trans (Chg.of_ext hx5)
            have HR5 := Lib.hid (HR4.out.ext hx5)
            clear KS hr14 hb4 hC hx5 HR4
            go_wp2_with fail
            refine bodyPost_ret (v := .tuple #[(⟨3, (tk T i).text, 0, []⟩ : Tm).val none 0, .bool true]) (by simp [results, Tryz.results80, go_sem, *]) rfl ?_
            rw [HA.out]
            exact any_fin_ok hC5 hrl HR5.out hgl hlo (.leaf 0 (leaf_fits (by decide) (by decide) HFN.out.2) rfl) rfl rfl
theorem any_all (T : List Tok) (hT : EndLast T) (k : Nat) : AnyTo T k := by
  induction k with
  | zero => exact any_step T hT 0 (fun m h => by omega)
  | succ k ih => exact any_step T hT (k + 1) (fun m h => by obtain rfl : k = m := by omega
                                                            exact ih)
end Go.Proofs.YtbjghkmjnhmlfaaGreatDoor

/- Package read: term. -/
namespace Go.Proofs.YtbjghkmjnhmlfaaGreatDoor
open Go.RowKit

theorem check_be (t : Tm) (A : Option Addr) (c : Nat) (w : World) (h : TmAt w t A c) : Calls Tryz.prog 81 #[t.val A c] w fun e w' => e = .returned (.int .i64 (if mayB t = true then 0 else 1)) ∧ Ext w w' := by
  cases hm : mayB t with
  | true => exact check_yes t A c w h hm
  | false => exact check_no t A c w h hm

def TermTo (T : List Tok) (k : Nat) : Prop := ∀ (w : World) (g : Nat) (K : RdP) (i b : Nat), k + b = 100 → RdAt w g K T i b → i < T.length →
  Calls Tryz.prog 54 #[.pointer (some ⟨g, 0, none⟩)] w (TmOut w g K T b (termP T k i))
set_option maxRecDepth 100000 in
set_option maxHeartbeats 1000000 in
theorem term_any (T : List Tok) (hT : EndLast T) (k : Nat) : TermTo T k := by
  intro w g K i b hb h hi
  have hgl := h.lt
  have hlo := h.low hT.1
  obtain ⟨w0, hw0⟩ : ∃ w0, w0 = w.alloc (.cells #[.int .i64 0, .string ⟨#[]⟩, .int .i64 0, .slice none 0 0] 58) := ⟨_, rfl⟩
  have hr0 : Box4 w0 w.heap.size (.int .i64 0) (.string ⟨#[]⟩) (.int .i64 0) (.slice none 0 0) := by rw [hw0]; exact Box4.new w _ _ _ _ _
  have hx0 : Ext w w0 := by rw [hw0]; exact (Ext.refl _).alloc _
  have HW0 := Lib.hid hw0
  clear hw0
  have hR0 := h.ext hx0
  have KP := Lib.hid (place_any hR0 hi)
  clear h
  go_enter Tryz.func54, Tryz.ntmps54
  go_upto_region 1 with (fail)
  rw [← HW0.out]
  go_wp2_with fail
  refine KP.out.mono ?_
  rintro e w1 ⟨rfl, hx1⟩
  have hx01 := hx0.trans hx1
  have hr1 := hr0.ext hx1
  have hw1 : w.heap.size < w1.heap.size := hr1.lt
  have KA := Lib.hid (any_all T hT k w1 g K i b hb (hR0.ext hx1) hi)
  clear KP hr0 hx0 hR0 hx1
  match hF : anyP T k i with
  | .error (a, x) =>
    have HF := Lib.hid hF
    have HA : Hid (termP T k i = .error (a, x)) := Lib.hid (by unfold termP; rw [hF])
    clear hF
    go_wp2_with fail
    refine KA.out.mono ?_
    rintro e w2 ⟨hC2, ho⟩
    rw [HF.out] at ho
    obtain ⟨⟨k', s, n', A, l, c, rfl⟩, hE⟩ := ho
    have hC := (Chg.of_ext hx01).trans hC2
    obtain ⟨y0, y1, y2, y3, f0, f1, f2, f3⟩ := hr1.chg hC2 (by omega)
    have HE := Lib.hid hE
    have hs2 : w.heap.size < w2.heap.size := by have := hC2.size; omega
    clear KA hE hC2 hr1
    go_wp2_with fail
    refine bodyPost_ret (v := .tuple #[.agg #[.int .i64 k', .string s, .int .i64 n', .slice A l c], .bool false]) (by simp [results, Tryz.results54, go_sem, *]) rfl ?_
    rw [HA.out]
    have hfin : TmOut w g K T b (.error (a, x)) (.returned (.tuple #[.agg #[.int .i64 k', .string s, .int .i64 n', .slice A l c], .bool false])) _ := any_fin_err hC HE.out hgl (v0 := .int .i64 k') (v1 := .string s) (v2 := .int .i64 n') (v3 := .slice A l c) rfl ⟨_, _, _, _, _, _, rfl⟩
    exact ⟨hfin.1.trans (Chg.of_ext ((Ext.refl _).alloc _)), hfin.2.1, hfin.2.2.ext ((Ext.refl _).alloc _)⟩
  | .ok (t, j) =>
    have HF := Lib.hid hF
    cases hm : mayB t with
    | true =>
      have HA : Hid (termP T k i = .ok (t, j)) := Lib.hid (by unfold termP; rw [hF]; simp only; rw [if_pos hm])
      have HM := Lib.hid hm
      clear hF hm
      go_wp2_with fail
      refine KA.out.mono ?_
      rintro e w2 ⟨hC2, ho⟩
      rw [HF.out] at ho
      obtain ⟨A, c, rfl, hIn, hR2⟩ := ho
      go_upto_region 3 with (fail)
      obtain ⟨w3, hw3⟩ : ∃ w3, w3 = w2.alloc (.cells #[.int .i64 t.kind, .string t.name, .int .i64 t.n, .slice A t.args.length c] 58) := ⟨_, rfl⟩
      have hb3 : Box4 w3 w2.heap.size (.int .i64 t.kind) (.string t.name) (.int .i64 t.n) (.slice A t.args.length c) := by rw [hw3]; exact Box4.new w2 _ _ _ _ _
      have hx3 : Ext w2 w3 := by rw [hw3]; exact (Ext.refl _).alloc _
      rw [← hw3]
      clear hw3
      have hr3 := (hr1.chg hC2 (by omega)).ext hx3
      have hC3 := ((Chg.of_ext hx01).trans hC2).trans (Chg.of_ext hx3)
      have hIn3 := hIn.step (fun b _ h2 => hx3.block b h2) hx3.size
      have KC := Lib.hid (check_yes t A c w3 hIn3.at_ HM.out)
      have HH := Lib.hid (And.intro (hR2.ext hx3) hIn3)
      obtain ⟨b0, b1, b2, b3, _, _, _, _⟩ := hb3
      clear KA hIn hR2 hC2 hx3 hIn3 hr1
      go_wp2_with fail
      refine KC.out.mono ?_
      rintro e w4 ⟨rfl, hx4⟩
      obtain ⟨y0, y1, y2, y3, f0, f1, f2, f3⟩ := hr3.ext hx4
      have d0 := hx4.cell b0
      have d1 := hx4.cell b1
      have d2 := hx4.cell b2
      have d3 := hx4.cell b3
      have hC4 := hC3.trans (Chg.of_ext hx4)
      have HH4 := Lib.hid (And.intro (HH.out.1.ext hx4) (HH.out.2.step (fun b _ h2 => hx4.block b h2) hx4.size))
      clear KC HH hr3 b0 b1 b2 b3 hx4 hC3
      go_wp2_with fail
      refine bodyPost_ret (v := .tuple #[t.val A c, .bool true]) (by simp [results, Tryz.results54, go_sem, *]) rfl ?_
      rw [HA.out]
      exact any_fin_ok hC4 hw1 HH4.out.1 hgl hlo HH4.out.2 rfl rfl
    | false =>
      have HA : Hid (termP T k i = .error (lim T i)) := Lib.hid (by unfold termP; rw [hF]; simp only; rw [if_neg (by rw [hm]; simp)])
      have HM := Lib.hid hm
      clear hF hm
      go_wp2_with fail
      refine KA.out.mono ?_
      rintro e w2 ⟨hC2, ho⟩
      rw [HF.out] at ho
      obtain ⟨A, c, rfl, hIn, hR2⟩ := ho
      go_upto_region 3 with (fail)
      obtain ⟨w3, hw3⟩ : ∃ w3, w3 = w2.alloc (.cells #[.int .i64 t.kind, .string t.name, .int .i64 t.n, .slice A t.args.length c] 58) := ⟨_, rfl⟩
      have hb3 : Box4 w3 w2.heap.size (.int .i64 t.kind) (.string t.name) (.int .i64 t.n) (.slice A t.args.length c) := by rw [hw3]; exact Box4.new w2 _ _ _ _ _
      have hx3 : Ext w2 w3 := by rw [hw3]; exact (Ext.refl _).alloc _
      rw [← hw3]
      clear hw3
      have hr3 := (hr1.chg hC2 (by omega)).ext hx3
      have hC3 := ((Chg.of_ext hx01).trans hC2).trans (Chg.of_ext hx3)
      have hIn3 := hIn.step (fun b _ h2 => hx3.block b h2) hx3.size
      have KC := Lib.hid (check_no t A c w3 hIn3.at_ HM.out)
      have HH := Lib.hid (hR2.ext hx3)
      have hs2 := hC2.size
      obtain ⟨b0, b1, b2, b3, _, _, _, _⟩ := hb3
      clear KA hIn hR2 hC2 hx3 hIn3 hr1
      go_wp2_with fail
      refine KC.out.mono ?_
      rintro e w4 ⟨rfl, hx4⟩
      have hr4 := hr3.ext hx4
      have d0 := hx4.cell b0
      have d1 := hx4.cell b1
      have d2 := hx4.cell b2
      have d3 := hx4.cell b3
      have hC4 := hC3.trans (Chg.of_ext hx4)
      have KF := Lib.hid (fail_any (tk T i).at_ 2 (HH.out.ext hx4))
      clear KC HH hr3 b0 b1 b2 b3 hx4 hC3
      go_wp2_with fail
      refine KF.out.mono ?_
      rintro e w5 ⟨rfl, hE, hC5⟩
      have hgne : ¬ w2.heap.size = g := by omega
      obtain ⟨y0, y1, y2, y3, f0, f1, f2, f3⟩ := hr4.chg hC5 (by omega)
      have e0 := hC5.cell d0 hgne
      have e1 := hC5.cell d1 hgne
      have e2 := hC5.cell d2 hgne
      have e3 := hC5.cell d3 hgne
      have hC6 := hC4.trans hC5
      have HE := Lib.hid hE
      clear KF hE hC5 hr4 d0 d1 d2 d3
      go_wp2_with fail
      refine bodyPost_ret (v := .tuple #[t.val A c, .bool false]) (by simp [results, Tryz.results54, go_sem, *]) rfl ?_
      rw [HA.out]
      exact any_fin_err hC6 HE.out hgl rfl ⟨_, _, _, _, _, _, rfl⟩
end Go.Proofs.YtbjghkmjnhmlfaaGreatDoor
