/- Package read: patterns: pair; all patterns. -/
import Derived.Test.YtbjghkmjnhmlfaaGreatDoorYK
namespace Go.Proofs.YtbjghkmjnhmlfaaGreatDoor
open Go.RowKit

theorem mask_rel (r : Nat) (h : r < 38) : Nat.testBit 274844352512 r = decide (25 ≤ r) := by
  have : ∀ r : Fin 38, Nat.testBit 274844352512 r.1 = decide (25 ≤ r.1) := by decide
  exact this ⟨r, h⟩
theorem wf_rel {r : Nat} (h : 25 ≤ r) (h38 : r < 38) : (Lit.int .i64 ((r : Int) - 24)).wf = true := by
  have e1 : IntKind.i64.min = -9223372036854775808 := by decide
  have e2 : IntKind.i64.max = 9223372036854775807 := by decide
  simp only [Lit.wf, e1, e2, Bool.and_eq_true, decide_eq_true_eq]
  omega
set_option maxRecDepth 100000 in
set_option maxHeartbeats 4000000 in
theorem pair_rd (T : List Tok) (hT : EndLast T) (k b : Nat) (br : Nat → Rs Pt) (hbt : Takes T br) (hO : PartTo 121 T b (rowP T k br)) : PartTo 113 T b (pairP T k br) := by
  intro w g K i h hi hbo
  have HBO := Lib.hid hbo
  clear hbo
  have hpt := rowP_takes hT k hbt
  have hgl := h.lt
  have hlo := h.low hT.1
  obtain ⟨w0, hw0⟩ : ∃ w0, w0 = w.alloc (.cells #[.int .i64 0, .int .i64 0, .string ⟨#[]⟩, .int .i64 0, .slice none 0 0, .int .i64 0, .slice none 0 0, .slice none 0 0, .slice none 0 0] 63) := ⟨_, rfl⟩
  have hr0 : Box9 w0 w.heap.size zero9 := by rw [hw0]; exact Box9.new w _ _ rfl
  have hx0 : Ext w w0 := by rw [hw0]; exact (Ext.refl _).alloc _
  have HW0 := Lib.hid hw0
  clear hw0
  have hR0 := h.ext hx0
  have KP := Lib.hid (hO w0 g K i hR0 hi (HBO.out.ext hx0))
  have hw0l : w.heap.size < w0.heap.size := hr0.lt
  obtain ⟨F, hF⟩ : ∃ F, F = pairP T k br i := ⟨_, rfl⟩
  have HF := Lib.hid hF.symm
  clear h hF
  go_enter Tryz.func113, Tryz.ntmps113
  go_upto_region 1 with (fail)
  rw [← HW0.out]
  go_wp2_with fail
  refine KP.out.mono ?_
  rintro e w1 ⟨hC1, ho1⟩
  have hr1 := hr0.chg hC1 (by omega)
  have hCw : Chg (· = g) w w1 := (Chg.of_ext hx0).trans hC1
  have hw1 : w.heap.size < w1.heap.size := hr1.lt
  have hw01 := hC1.size
  match hpi : rowP T k br i with
  | .error (a, x) =>
    rw [hpi] at ho1
    have HFE : Hid (F = .error (a, x)) := Lib.hid (by rw [← HF.out]; unfold pairP; rw [hpi])
    obtain ⟨⟨vs, hvs, rfl⟩, hE1⟩ := ho1
    obtain ⟨k0, k1, s2, k3, A4, l4, d4, k5, A6, l6, d6, A7, l7, d7, A8, l8, d8, rfl⟩ := hvs
    obtain ⟨w2, hw2⟩ : ∃ w2, w2 = w1.alloc (.cells #[.int .i64 k0, .int .i64 k1, .string s2, .int .i64 k3, .slice A4 l4 d4, .int .i64 k5, .slice A6 l6 d6, .slice A7 l7 d7, .slice A8 l8 d8] 63) := ⟨_, rfl⟩
    have hb2 : Box9 w2 w1.heap.size [.int .i64 k0, .int .i64 k1, .string s2, .int .i64 k3, .slice A4 l4 d4, .int .i64 k5, .slice A6 l6 d6, .slice A7 l7 d7, .slice A8 l8 d8] := by rw [hw2]; exact Box9.new w1 _ _ rfl
    have hx2 : Ext w1 w2 := by rw [hw2]; exact (Ext.refl _).alloc _
    have HW2 := Lib.hid hw2
    obtain ⟨x0, x1, x2, x3, x4, x5, x6, x7, x8⟩ := hb2.get
    obtain ⟨y0, y1, y2, y3, y4, y5, y6, y7, y8⟩ := (hr1.ext hx2).get
    obtain ⟨z0, z1, z2, z3, z4, z5, z6, z7, z8⟩ := (hr1.ext hx2).fzs
    have HC2 := Lib.hid (And.intro (hCw.trans (Chg.of_ext hx2)) (hE1.ext hx2))
    clear hb2 hx2 hw2 hr1 hCw hE1 hC1 KP hr0 hx0 hR0 hpi
    go_upto_region 2 with (fail)
    rw [← HW2.out]
    go_wp2_with fail
    refine bodyPost_ret (v := .tuple #[.agg #[.int .i64 k0, .int .i64 k1, .string s2, .int .i64 k3, .slice A4 l4 d4, .int .i64 k5, .slice A6 l6 d6, .slice A7 l7 d7, .slice A8 l8 d8], .bool false]) (by simp [results, Tryz.results113, go_sem, *]) rfl ?_
    rw [HF.out, HFE.out]
    exact pt_fin_err HC2.out.1 HC2.out.2 hgl (vs := [.int .i64 k0, .int .i64 k1, .string s2, .int .i64 k3, .slice A4 l4 d4, .int .i64 k5, .slice A6 l6 d6, .slice A7 l7 d7, .slice A8 l8 d8]) rfl ⟨_, _, _, _, _, _, _, _, _, _, _, _, _, _, _, _, _, rfl⟩ rfl
  | .ok (p, j) =>
    rw [hpi] at ho1
    obtain ⟨a, rfl, hIn1, hR1⟩ := ho1
    have hjj := hpt i p j hpi
    obtain ⟨w2, hw2⟩ : ∃ w2, w2 = w1.alloc (.cells #[.int .i64 p.kind, .int .i64 p.tm.kind, .string p.tm.name, .int .i64 p.tm.n, .slice a.A p.tm.args.length a.ac, .int .i64 p.rel, .slice a.L p.l.length a.lc, .slice a.R p.r.length a.rc, .slice a.C p.c.length a.cc] 63) := ⟨_, rfl⟩
    obtain ⟨pb, hpb⟩ : ∃ pb, pb = w1.heap.size := ⟨_, rfl⟩
    have hb2 : Box9 w2 pb (p.cells a) := by rw [hw2, hpb]; exact Box9.new w1 _ _ rfl
    have hx2 : Ext w1 w2 := by rw [hw2]; exact (Ext.refl _).alloc _
    have HW2 := Lib.hid hw2
    have HPB := Lib.hid hpb
    have hr2 := hr1.ext hx2
    have hC2 := hCw.trans (Chg.of_ext hx2)
    have hIn2 : PtIn w2 (fun b => New w0 w2 b ∧ b ≠ pb) p a := hIn1.keep fun x hx _ => ⟨hx2.block x hx.2, ⟨hx.1, by have := hx.2; have := hx2.size; omega⟩, by have := hx.2; omega⟩
    have hR2 := hR1.ext hx2
    have hpl2 : pb < w2.heap.size := hb2.lt
    have h0pb : w0.heap.size ≤ pb := by omega
    by_cases h11 : rl T j = 11
    · have KT := Lib.hid (take_yes 2048 (by omega) hR2 hjj.2 (by rw [h11]; decide))
      have hj1 := hT.next 11 h11 (by omega)
      have HFE : Hid (F = if 25 ≤ rl T (j + 1) then (match rowP T k br (j + 2) with | .error e => .error e | .ok (q, m) => .ok (⟨6, noTm, (rl T (j + 1) : Nat) - 24, [p], [q], []⟩, m)) else .error (bad T (j + 1))) := Lib.hid (by
        rw [← HF.out]; unfold pairP; rw [hpi]; simp only; rw [if_pos h11]
        by_cases h25 : 25 ≤ rl T (j + 1)
        · rw [if_pos h25, if_pos h25]; cases rowP T k br (j + 2) <;> rfl
        · rw [if_neg h25, if_neg h25])
      have HB := Lib.hid (And.intro hb2 hIn2)
      have HP := Lib.hid hpb
      clear hx2 hw2 hr1 hCw hC1 KP hr0 hx0 hR0 hpi hIn1 hR1 hR2 hIn2 hb2 hpb
      go_upto_region 2 with (fail)
      rw [← HP.out, ← HW2.out]
      go_wp2_with fail
      refine KT.out.mono ?_
      rintro e w3 ⟨rfl, hR3, hC3⟩
      have hs3 := hC3.size
      have hl38 := rl_lt T (j + 1)
      have r0 := hR3.roles (j + 1) hj1
      have r1 := hR3.c1
      have r2 := hR3.c2
      have i0 : (0 : Int) ≤ ((j + 1 : Nat) : Int) := Int.natCast_nonneg _
      have i1 : ((j + 1 : Nat) : Int) < (T.length : Int) := by omega
      obtain ⟨rr, hrr⟩ : ∃ rr, rr = rl T (j + 1) := ⟨_, rfl⟩
      obtain ⟨jj, hjj1⟩ : ∃ jj, jj = j + 1 := ⟨_, rfl⟩
      rw [← hrr] at r0 hl38
      rw [← hjj1] at r0 r2 i0 i1 hR3 hj1
      have HRR := Lib.hid (And.intro hrr hjj1)
      have hg3 := hR3.lt
      have HR3 := Lib.hid hR3
      clear hR3 KT hrr hjj1
      go_upto_region 4 with (fail)
      go_quiet (fail)
      generalize hwq : w3.drewN nq = wq
      have hxq : Ext w3 wq := by rw [← hwq]; exact (Ext.refl _).drewN _
      have hsq := hxq.size
      clear hwq
      have hC3q : Chg (· = g) w2 wq := hC3.trans (Chg.of_ext hxq)
      have hC3w : Chg (· = g) w wq := hC2.trans hC3q
      have hr3 := hr2.chg hC3q (by omega)
      have hRq := HR3.out.ext hxq
      have hs2q := hC3q.size
      by_cases h25 : 25 ≤ rr
      · have HFQ : Hid (F = match rowP T k br (jj + 1) with | .error e => .error e | .ok (q, m) => .ok (⟨6, noTm, (rr : Int) - 24, [p], [q], []⟩, m)) := Lib.hid (by
          have h1 := HRR.out.1
          have h2 := HRR.out.2
          rw [HFE.out, ← h1, if_pos h25, h2])
        have hbit : Nat.testBit 274844352512 (rl T jj) = true := by rw [HRR.out.2, ← HRR.out.1, mask_rel rr hl38]; exact decide_eq_true h25
        have KN := Lib.hid (need_yes 274844352512 (by omega) hRq hj1 hbit)
        have hj2 : jj + 1 < T.length := hT.2 jj (by rw [HRR.out.2, ← HRR.out.1]; omega)
        clear r0 r1 r2 hbit hRq
        go_wp2_with fail
        refine KN.out.mono ?_
        rintro e w4 ⟨rfl, hR4, hC4⟩
        have hC4q : Chg (· = g) w2 w4 := hC3q.trans hC4
        have hs24 := hC4q.size
        have hb4 := HB.out.1.chg hC4q (by omega)
        have hr4 := hr3.chg hC4 (by omega)
        have hC4w : Chg (· = g) w w4 := hC3w.trans hC4
        have hw1' : IntKind.i64.wrap (1 + ((rr : Int) - 25)) = (rr : Int) - 24 := by rw [IntKind.wrap_i64]; omega
        have hbo4 := HBO.out.chg hC4w
        have KA : Hid (∀ u, Ext w4 u → Calls Tryz.prog 114 #[.int .u64 (roleV rr), .int .u64 33554432] u fun e w' => e = .returned (.int .i64 ((rr : Int) - 25)) ∧ w' = u) := Lib.hid (fun u hu => by
          have := above_rd rr 25 hl38 (by omega) (hbo4.ext hu).at_
          rw [show roleV 25 = 33554432 by decide] at this
          exact this)
        have HR4 := Lib.hid (And.intro hR4 (And.intro hbo4 hb4))
        have hb4d := hb4.ext (Ext.refl w4).drew
        obtain ⟨x0, x1, x2, x3, x4, x5, x6, x7, x8⟩ := hb4.get
        obtain ⟨z0, z1, z2, z3, z4, z5, z6, z7, z8⟩ := hb4.fzs
        obtain ⟨u0, u1, u2, u3, u4, u5, u6, u7, u8⟩ := hb4d.get
        obtain ⟨v0, v1, v2, v3, v4, v5, v6, v7, v8⟩ := hb4d.fzs
        have hpl4 : pb < w4.heap.size := hb4.lt
        clear KN hR4 hC4 hbo4 hb4 hb4d hr3
        go_upto_region 7 with (fail)
        go_region_with (refine (KA.out _ (by first | exact (Ext.refl _).drew | exact (Ext.refl _).drew.alloc _)).mono ?_; rintro e wx ⟨rfl, rfl⟩)
        all_goals
          obtain ⟨wm, hwm⟩ : ∃ wm, wm = (w4.setCells pb 0 [.int .i64 6, .int .i64 0, .string ⟨#[]⟩, .int .i64 0, .slice none 0 0, .int .i64 ((rr : Int) - 24), .slice (some ⟨w4.heap.size, 0, none⟩) 1 1, .slice none 0 0, .slice none 0 0]).alloc (.cells #[.int .i64 p.kind, .int .i64 p.tm.kind, .string p.tm.name, .int .i64 p.tm.n, .slice a.A p.tm.args.length a.ac, .int .i64 p.rel, .slice a.L p.l.length a.lc, .slice a.R p.r.length a.rc, .slice a.C p.c.length a.cc] 63) := ⟨_, rfl⟩
          obtain ⟨b5, c5, b5q, s5⟩ := make_world HR4.out.2.2 _ rfl _ rfl hwm
          obtain ⟨w5, hw5⟩ : ∃ w5, w5 = wm.drew := ⟨_, rfl⟩
          have hx5 : Ext wm w5 := by rw [hw5]; exact (Ext.refl _).drew
          have HW5 : Hid (w5 = ((w4.setCells pb 0 [.int .i64 6, .int .i64 0, .string ⟨#[]⟩, .int .i64 0, .slice none 0 0, .int .i64 ((rr : Int) - 24), .slice (some ⟨w4.heap.size, 0, none⟩) 1 1, .slice none 0 0, .slice none 0 0]).alloc (.cells #[.int .i64 p.kind, .int .i64 p.tm.kind, .string p.tm.name, .int .i64 p.tm.n, .slice a.A p.tm.args.length a.ac, .int .i64 p.rel, .slice a.L p.l.length a.lc, .slice a.R p.r.length a.rc, .slice a.C p.c.length a.cc] 63)).drew) := Lib.hid (by rw [hw5, hwm])
          have c5' : Chg (· = pb) w4 w5 := c5.trans (Chg.of_ext hx5)
          have hR5 := HR4.out.1.chg c5' (fun x _ e => by subst e; omega)
          have hC5 : Chg (· = g) w w5 := chg_new hC4w (c5'.weak fun _ e => .inr e) (by omega)
          have KQ := Lib.hid (put_rd 121 entRow T b _ hO w5 g pb 7 K (jj + 1) _ (by omega) hR5 hj2 hT.1 (by omega) (by omega) (by omega) (b5.ext hx5) (HBO.out.chg hC5))
          have hr5 := hr4.chg c5' (by omega)
          have HB5 := Lib.hid (And.intro c5' (b5q.ext hx5))
          have hs5 := c5'.size
          clear hw5 hwm c5' c5 b5q b5 hR5 hx5 s5 x0 x1 x2 x3 x4 x5 x6 x7 x8 z0 z1 z2 z3 z4 z5 z6 z7 z8 u0 u1 u2 u3 u4 u5 u6 u7 u8 v0 v1 v2 v3 v4 v5 v6 v7 v8 hr4 hr2 KA
          rw [show ((((((((((w4.setCell ⟨pb, 0, none⟩ (.int .i64 6)).setCell ⟨pb, 1, none⟩ (.int .i64 0)).setCell ⟨pb, 2, none⟩ (.string ⟨#[]⟩)).setCell ⟨pb, 3, none⟩ (.int .i64 0)).setCell ⟨pb, 4, none⟩ (.slice none 0 0)).setCell ⟨pb, 5, none⟩ (.int .i64 ((rr : Int) - 24))).setCell ⟨pb, 6, none⟩ (.slice (some ⟨w4.heap.size, 0, none⟩) 1 1)).setCell ⟨pb, 7, none⟩ (.slice none 0 0)).setCell ⟨pb, 8, none⟩ (.slice none 0 0)).alloc (.cells #[.int .i64 p.kind, .int .i64 p.tm.kind, .string p.tm.name, .int .i64 p.tm.n, .slice a.A p.tm.args.length a.ac, .int .i64 p.rel, .slice a.L p.l.length a.lc, .slice a.R p.r.length a.rc, .slice a.C p.c.length a.cc] 63)).drew = w5 from HW5.out.symm]
          go_wp2_with fail
          refine KQ.out.mono ?_
          rintro e w6 ⟨hC6, ho6⟩
          have hC6w := chg_new hC5 hC6 (by omega)
          have hr6 := hr5.chg hC6 (by omega)
          have hs6 := hC6.size
          match hpq : rowP T k br (jj + 1) with
          | .error (ea, ex) =>
            rw [hpq] at ho6
            obtain ⟨rfl, hE6, m, hb6⟩ := ho6
            have HFF : Hid (F = .error (ea, ex)) := Lib.hid (by rw [HFQ.out, hpq])
            obtain ⟨x0, x1, x2, x3, x4, x5, x6, x7, x8⟩ := hb6.get
            obtain ⟨y0, y1, y2, y3, y4, y5, y6, y7, y8⟩ := hr6.get
            obtain ⟨z0, z1, z2, z3, z4, z5, z6, z7, z8⟩ := hr6.fzs
            have HE6 := Lib.hid hE6
            clear hpq hE6 hb6 KQ hC6 hr5 hr6 HB5 HB
            go_wp2_with fail
            refine bodyPost_ret (v := .tuple #[.agg #[.int .i64 6, .int .i64 0, .string ⟨#[]⟩, .int .i64 0, .slice none 0 0, .int .i64 ((rr : Int) - 24), .slice (some ⟨w4.heap.size, 0, none⟩) 1 1, .slice (some ⟨m, 0, none⟩) 1 1, .slice none 0 0], .bool false]) (by simp [results, Tryz.results113, go_sem, *]) rfl ?_
            rw [HF.out, HFF.out]
            exact pt_fin_err hC6w HE6.out hgl (vs := [.int .i64 6, .int .i64 0, .string ⟨#[]⟩, .int .i64 0, .slice none 0 0, .int .i64 ((rr : Int) - 24), .slice (some ⟨w4.heap.size, 0, none⟩) 1 1, .slice (some ⟨m, 0, none⟩) 1 1, .slice none 0 0]) rfl ⟨_, _, _, _, _, _, _, _, _, _, _, _, _, _, _, _, _, rfl⟩ rfl
          | .ok (q', j') =>
            rw [hpq] at ho6
            obtain ⟨rfl, hR6, m, a', hm, hIn6, hmc, hb6⟩ := ho6
            have hIn7 := pt_join (kind := 6) (rel := (rr : Int) - 24) (by decide) (wf_rel h25 hl38) (by omega : g < w0.heap.size) (by omega) (by omega) HB.out.2 hC4q HB5.out.1 rfl HB5.out.2 hC6 hm hIn6 hmc
            have HFF : Hid (F = .ok (⟨6, noTm, (rr : Int) - 24, [p], [q'], []⟩, j')) := Lib.hid (by rw [HFQ.out, hpq])
            obtain ⟨x0, x1, x2, x3, x4, x5, x6, x7, x8⟩ := hb6.get
            obtain ⟨y0, y1, y2, y3, y4, y5, y6, y7, y8⟩ := hr6.get
            obtain ⟨z0, z1, z2, z3, z4, z5, z6, z7, z8⟩ := hr6.fzs
            have HX6 := Lib.hid (And.intro hR6 hIn7)
            clear hpq hb6 KQ hC6 hr5 hr6 HB5 HB hR6 hIn6 hmc hIn7 hm
            go_wp2_with fail
            refine bodyPost_ret (v := .tuple #[(⟨6, noTm, (rr : Int) - 24, [p], [q'], []⟩ : Pt).val ⟨none, 0, some ⟨w4.heap.size, 0, none⟩, 1, some ⟨m, 0, none⟩, 1, none, 0⟩, .bool true]) (by simp [results, Tryz.results113, go_sem, *, noTm]; rfl) rfl ?_
            rw [HF.out, HFF.out]
            exact pt_fin_ok (p := ⟨6, noTm, (rr : Int) - 24, [p], [q'], []⟩) (a := ⟨none, 0, some ⟨w4.heap.size, 0, none⟩, 1, some ⟨m, 0, none⟩, 1, none, 0⟩) hC6w hw0l HX6.out.1 hgl hlo (HX6.out.2.keep fun x hx _ => ⟨rfl, hx.1⟩) (vs := Pt.cells ⟨6, noTm, (rr : Int) - 24, [p], [q'], []⟩ ⟨none, 0, some ⟨w4.heap.size, 0, none⟩, 1, some ⟨m, 0, none⟩, 1, none, 0⟩) rfl rfl
      · have HFQ : Hid (F = .error (bad T jj)) := Lib.hid (by
          have h1 := HRR.out.1
          have h2 := HRR.out.2
          rw [HFE.out, ← h1, if_neg h25, h2])
        have hbit : Nat.testBit 274844352512 (rl T jj) = false := by rw [HRR.out.2, ← HRR.out.1, mask_rel rr hl38]; exact decide_eq_false h25
        have KN := Lib.hid (need_no 274844352512 (by omega) hRq hj1 hbit)
        clear r0 r1 r2 hbit hRq
        go_wp2_with fail
        refine KN.out.mono ?_
        rintro e w4 ⟨rfl, hE4, hC4⟩
        have hb4 := HB.out.1.chg (hC3q.trans hC4) (by omega)
        have hr4 := hr3.chg hC4 (by omega)
        have hC4w : Chg (· = g) w w4 := hC3w.trans hC4
        obtain ⟨x0, x1, x2, x3, x4, x5, x6, x7, x8⟩ := hb4.get
        obtain ⟨y0, y1, y2, y3, y4, y5, y6, y7, y8⟩ := hr4.get
        obtain ⟨z0, z1, z2, z3, z4, z5, z6, z7, z8⟩ := hr4.fzs
        have HE4 := Lib.hid hE4
        clear KN hE4 hC4 hb4 hr4 hr3
        go_wp2_with fail
        refine bodyPost_ret (v := .tuple #[p.val a, .bool false]) (by simp [results, Tryz.results113, go_sem, *]) rfl ?_
        rw [HF.out, HFQ.out]
        exact pt_fin_err hC4w HE4.out hgl (vs := p.cells a) (cs := p.cells a) rfl ⟨_, _, _, _, _, _, _, _, _, _, _, _, _, _, _, _, _, rfl⟩ rfl
    · have HFE : Hid (F = .ok (p, j)) := Lib.hid (by rw [← HF.out]; unfold pairP; rw [hpi]; simp only; rw [if_neg h11])
      have KT := Lib.hid (take_no 2048 (by omega) hR2 hjj.2 (bit_ne (k := 11) h11))
      have HB := Lib.hid (And.intro hb2 (And.intro hIn2 hR2))
      have HP := Lib.hid hpb
      clear hx2 hw2 hr1 hCw hC1 KP hr0 hx0 hR0 hpi hIn1 hR1 hR2 hIn2 hb2 hpb
      go_upto_region 2 with (fail)
      rw [← HP.out, ← HW2.out]
      go_wp2_with fail
      refine KT.out.mono ?_
      rintro e w3 ⟨rfl, hx3⟩
      obtain ⟨x0, x1, x2, x3, x4, x5, x6, x7, x8⟩ := (HB.out.1.ext hx3).get
      obtain ⟨y0, y1, y2, y3, y4, y5, y6, y7, y8⟩ := (hr2.ext hx3).get
      obtain ⟨z0, z1, z2, z3, z4, z5, z6, z7, z8⟩ := (hr2.ext hx3).fzs
      have hC3 := hC2.trans (Chg.of_ext hx3)
      have HX3 := Lib.hid hx3
      clear hr2 KT hx3
      go_wp2_with fail
      refine bodyPost_ret (v := .tuple #[p.val a, .bool true]) (by simp [results, Tryz.results113, go_sem, *]) rfl ?_
      rw [HF.out, HFE.out]
      exact pt_fin_ok hC3 hw0l (HB.out.2.2.ext HX3.out) hgl hlo (HB.out.2.1.keep fun x hx _ => ⟨HX3.out.block x hx.1.2, hx.1.1, by have := hx.1.2; have := HX3.out.size; omega⟩) (vs := p.cells a) rfl rfl

/-- a pattern with so many brackets open -/
theorem pats_rd (T : List Tok) (hT : EndLast T) (k : Nat) : ∀ b, k + b = 100 → PartTo 82 T b (patP T k) := by
  induction k with
  | zero =>
    intro b hb
    rw [patP_eq]
    have hB := bracket_rd T hT 0 b hb (fun m h => by omega)
    have ht := brP_takes hT 0
    exact pattern_rd T hT b _ (both_rd T hT b _ (pair_rd T hT 0 b _ ht (row_rd T hT 0 b _ hB ht (one_rd T hT 0 b hb _ hB))) (pairP_takes hT 0 ht)) (chain_takes (pairP_takes hT 0 ht))
  | succ k ih =>
    intro b hb
    rw [patP_eq]
    have hB := bracket_rd T hT (k + 1) b hb (fun m h => by obtain rfl : k = m := by omega
                                                           exact ih (b + 1) (by omega))
    have ht := brP_takes hT (k + 1)
    exact pattern_rd T hT b _ (both_rd T hT b _ (pair_rd T hT (k + 1) b _ ht (row_rd T hT (k + 1) b _ hB ht (one_rd T hT (k + 1) b hb _ hB))) (pairP_takes hT (k + 1) ht)) (chain_takes (pairP_takes hT (k + 1) ht))
end Go.Proofs.YtbjghkmjnhmlfaaGreatDoor
