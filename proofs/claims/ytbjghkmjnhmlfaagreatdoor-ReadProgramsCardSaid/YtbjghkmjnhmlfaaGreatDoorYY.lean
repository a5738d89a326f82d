/- Joined: Phf, Phg. -/
import Derived.Test.YtbjghkmjnhmlfaaGreatDoorYX

/- The page's reader: patterns: pair. -/
namespace Go.Proofs.YtbjghkmjnhmlfaaGreatDoor
open Go.RowKit

theorem wf_relz {r : Nat} (h : 25 ≤ r) (h38 : r < 38) : (Lit.int .i64 ((r : Int) - 24)).wf = true := by
  have e1 : IntKind.i64.min = -9223372036854775808 := by decide
  have e2 : IntKind.i64.max = 9223372036854775807 := by decide
  simp only [Lit.wf, e1, e2, Bool.and_eq_true, decide_eq_true_eq]
  omega
set_option maxRecDepth 100000 in
set_option maxHeartbeats 8000000 in
theorem pair_pg {T : List Tok} (hG : ToksG T) (k b : Nat) (br : Nat → Rs Pt) (hP : PPTo 106 T b (rowP T k br)) (hpt : Takes T (rowP T k br)) : PPTo 90 T b (pairP T k br) := by
  intro w g A c i a h
  have hgl := h.lt
  have hlo := h.low
  have hT := hG.ends
  obtain ⟨w0, hw0⟩ : ∃ w0, w0 = w.alloc (.cells #[.int .i64 0, .int .i64 0, .string ⟨#[]⟩, .int .i64 0, .slice none 0 0, .int .i64 0, .slice none 0 0, .slice none 0 0, .slice none 0 0] 63) := ⟨_, rfl⟩
  have hr0 : Box9 w0 w.heap.size zero9 := by rw [hw0]; exact Box9.new w _ _ rfl
  have hx0 : Ext w w0 := by rw [hw0]; exact (Ext.refl _).alloc _
  have HW0 := Lib.hid hw0
  have KP := Lib.hid (hP w0 g A c i a (h.ext hx0))
  have hw0l : w.heap.size < w0.heap.size := hr0.lt
  obtain ⟨F, hF⟩ : ∃ F, F = pairP T k br i := ⟨_, rfl⟩
  rw [← hF]
  have HF := Lib.hid hF
  clear h hF hw0
  go_enter Tryz.func90, Tryz.ntmps90
  go_upto_region 1 with (fail)
  rw [← HW0.out]
  go_wp2_with fail
  refine KP.out.mono ?_
  rintro e w1 hout
  have hC1 := hout.1
  have hs1 := hC1.size
  have HO := Lib.hid hout.2
  obtain ⟨pb, hpb⟩ : ∃ pb, pb = w1.heap.size := ⟨_, rfl⟩
  match hpi : rowP T k br i with
  | .error (q, x) =>
    have h2 := HO.out
    rw [hpi] at h2
    obtain ⟨hx, ⟨cs, hsh, rfl⟩, i', d', hPg⟩ := h2
    obtain ⟨k0, k1, s2, k3, A4, l4, d4, k5, A6, l6, d6, A7, l7, d7, A8, l8, d8, rfl⟩ := hsh
    have HFF : Hid (F = .error (q, x)) := Lib.hid (by rw [HF.out]; unfold pairP; rw [hpi])
    obtain ⟨w2, hw2⟩ : ∃ w2, w2 = w1.alloc (.cells #[.int .i64 k0, .int .i64 k1, .string s2, .int .i64 k3, .slice A4 l4 d4, .int .i64 k5, .slice A6 l6 d6, .slice A7 l7 d7, .slice A8 l8 d8] 63) := ⟨_, rfl⟩
    have hb2 : Box9 w2 pb [.int .i64 k0, .int .i64 k1, .string s2, .int .i64 k3, .slice A4 l4 d4, .int .i64 k5, .slice A6 l6 d6, .slice A7 l7 d7, .slice A8 l8 d8] := by rw [hw2, hpb]; exact Box9.new w1 _ _ rfl
    have hx2 : Ext w1 w2 := by rw [hw2]; exact (Ext.refl _).alloc _
    have HW2 := Lib.hid (And.intro hw2 hpb)
    have hr2 := (hr0.chg hC1 (by omega)).ext hx2
    have hC2 : Chg (· = g) w w2 := ((Chg.of_ext hx0).trans hC1).trans (Chg.of_ext hx2)
    have hPg2 := hPg.ext hx2
    have KT := Lib.hid (take_per ⟨#[64]⟩ hPg2 hx)
    have HB := Lib.hid (And.intro hb2 (And.intro hPg2 hx))
    clear hx2 hw2 hC1 KP hr0 hx0 hb2 hpb hPg hPg2 HO hpi hx
    go_upto_region 2 with (fail)
    rw [← HW2.out.2, ← HW2.out.1]
    go_wp2_with fail
    refine KT.out.mono ?_
    rintro e w3 ⟨rfl, hx3⟩
    obtain ⟨x0, x1, x2, x3, x4, x5, x6, x7, x8⟩ := (HB.out.1.ext hx3).get
    obtain ⟨y0, y1, y2, y3, y4, y5, y6, y7, y8⟩ := (hr2.ext hx3).get
    obtain ⟨z0, z1, z2, z3, z4, z5, z6, z7, z8⟩ := (hr2.ext hx3).fzs
    have hC3 := hC2.trans (Chg.of_ext hx3)
    have HX3 := Lib.hid hx3
    clear hr2 KT hx3
    go_wp2_with fail
    refine bodyPost_ret (v := .agg #[.int .i64 k0, .int .i64 k1, .string s2, .int .i64 k3, .slice A4 l4 d4, .int .i64 k5, .slice A6 l6 d6, .slice A7 l7 d7, .slice A8 l8 d8]) (by simp [results, Tryz.results90, go_sem, *]) rfl ?_
    rw [HFF.out]
    exact pp_fin_err HB.out.2.2 hC3 (HB.out.2.1.ext HX3.out) hgl hlo (vs := [.int .i64 k0, .int .i64 k1, .string s2, .int .i64 k3, .slice A4 l4 d4, .int .i64 k5, .slice A6 l6 d6, .slice A7 l7 d7, .slice A8 l8 d8]) rfl sh_intro rfl
  | .ok (p, j) =>
    have h2 := HO.out
    rw [hpi] at h2
    obtain ⟨pl, rfl, hIn, hPg⟩ := h2
    have hjj := hpt i p j hpi
    obtain ⟨w2, hw2⟩ : ∃ w2, w2 = w1.alloc (.cells #[.int .i64 p.kind, .int .i64 p.tm.kind, .string p.tm.name, .int .i64 p.tm.n, .slice pl.A p.tm.args.length pl.ac, .int .i64 p.rel, .slice pl.L p.l.length pl.lc, .slice pl.R p.r.length pl.rc, .slice pl.C p.c.length pl.cc] 63) := ⟨_, rfl⟩
    have hb2 : Box9 w2 pb (p.cells pl) := by rw [hw2, hpb]; exact Box9.new w1 _ _ rfl
    have hx2 : Ext w1 w2 := by rw [hw2]; exact (Ext.refl _).alloc _
    have HW2 := Lib.hid (And.intro hw2 hpb)
    have hr2 := (hr0.chg hC1 (by omega)).ext hx2
    have hC2 : Chg (· = g) w w2 := ((Chg.of_ext hx0).trans hC1).trans (Chg.of_ext hx2)
    have hPg2 := hPg.ext hx2
    have hpl2 : pb < w2.heap.size := hb2.lt
    have h0pb : w0.heap.size ≤ pb := by omega
    have hIn2 : PtIn w2 (fun x => New w0 w2 x ∧ x ≠ pb) p pl := hIn.keep fun x hx _ => ⟨hx2.block x hx.2, ⟨hx.1, by have := hx.2; have := hx2.size; omega⟩, by have := hx.2; omega⟩
    by_cases h11 : rl T j = 11
    · have KT := Lib.hid (take_pyes hG 7 (by omega) ⟨#[64]⟩ (by decide) hPg2 h11)
      have hj1 := hT.next 11 h11 (by omega)
      have HFE : Hid (F = if 25 ≤ rl T (j + 1) then (match rowP T k br (j + 2) with | .error e => .error e | .ok (q, m) => .ok (⟨6, noTm, (rl T (j + 1) : Nat) - 24, [p], [q], []⟩, m)) else .error (bad T (j + 1))) := Lib.hid (by
        rw [HF.out]; unfold pairP; rw [hpi]; simp only; rw [if_pos h11]
        by_cases h25 : 25 ≤ rl T (j + 1)
        · rw [if_pos h25, if_pos h25]; cases rowP T k br (j + 2) <;> rfl
        · rw [if_neg h25, if_neg h25])
      have HB := Lib.hid (And.intro hb2 hIn2)
      clear hx2 hw2 hC1 KP hr0 hx0 hb2 hpb hPg hPg2 HO hpi hIn hIn2
      go_upto_region 2 with (fail)
      rw [← HW2.out.2, ← HW2.out.1]
      go_wp2_with fail
      refine KT.out.mono ?_
      rintro e w3 ⟨rfl, hPg3, hC3⟩
      obtain ⟨jj, hjj'⟩ : ∃ jj, jj = j + 1 := ⟨_, rfl⟩
      rw [← hjj'] at hPg3 hj1
      have HJ := Lib.hid hjj'
      clear hjj'
      have KN := Lib.hid (now_pg hPg3)
      have hs3 := hC3.size
      have HPg3 := Lib.hid hPg3
      clear KT hPg3
      go_wp2_with fail
      refine KN.out.mono ?_
      rintro e w4 ⟨rfl, hx4⟩
      obtain ⟨w5, hw5⟩ : ∃ w5, w5 = w4.alloc (.cells #[.int .i64 (tk T jj).kind, .string (tk T jj).text, .int .i64 (tk T jj).n, .int .i64 (tk T jj).at_] 54) := ⟨_, rfl⟩
      obtain ⟨tb, htb⟩ : ∃ tb, tb = w4.heap.size := ⟨_, rfl⟩
      have ht5 : Box4 w5 tb (.int .i64 (tk T jj).kind) (.string (tk T jj).text) (.int .i64 (tk T jj).n) (.int .i64 (tk T jj).at_) := by rw [hw5, htb]; exact Box4.new w4 _ _ _ _ _
      have hx5 : Ext w4 w5 := by rw [hw5]; exact (Ext.refl _).alloc _
      have HW5 := Lib.hid (And.intro hw5 htb)
      have hx45 := hx4.trans hx5
      have KR := Lib.hid (rel_any (tk T jj).text w5)
      obtain ⟨t0, t1, t2, t3, _, _, _, _⟩ := ht5
      clear KN hw5 htb hx4 hx5
      go_upto_region 5 with (fail)
      rw [← HW5.out.2, ← HW5.out.1]
      go_wp2_with fail
      refine KR.out.mono ?_
      rintro e w6 ⟨R, rfl, hRel, hx6⟩
      have hrr := rel_role hG hj1 hRel
      have u0 := hx6.cell t0
      have u3 := hx6.cell t3
      have hx46 := hx45.trans hx6
      have hC6 : Chg (· = g) w2 w6 := hC3.trans (Chg.of_ext hx46)
      have hPg6 := HPg3.out.ext hx46
      have hs26 := hC6.size
      have hb6 := HB.out.1.chg hC6 (by omega)
      have hr6 := hr2.chg hC6 (by omega)
      have hCw6 := hC2.trans hC6
      clear KR hx6 hx45 hx46 t0 t1 t2 t3 hRel
      by_cases h25 : 25 ≤ rl T jj
      · obtain ⟨hk1, hR, hR0⟩ := hrr.1 h25
        have q1 : ((tk T jj).kind != 1) = false := by simp [hk1]
        have q2 : (R == 0) = false := by simp [hR0]
        rw [hk1] at u0
        have hj2 : jj + 1 < T.length := hT.2 jj (by omega)
        have HFQ : Hid (F = match rowP T k br (jj + 1) with | .error e => .error e | .ok (q, m) => .ok (⟨6, noTm, (rl T jj : Nat) - 24, [p], [q], []⟩, m)) := Lib.hid (by have e := HJ.out; rw [HFE.out, ← e, if_pos h25, show j + 2 = jj + 1 by omega])
        have c1 := hPg6.c1
        have f1 := hPg6.fr 1 (by omega)
        have hlen := hPg6.len
        have hw1 : IntKind.i64.wrap ((jj : Int) + 1) = (jj : Int) + 1 := by rw [IntKind.wrap_i64]; omega
        obtain ⟨w7, hw7⟩ : ∃ w7, w7 = w6.setCell ⟨g, 1, none⟩ (.int .i64 ((jj + 1 : Nat) : Int)) := ⟨_, rfl⟩
        have hPg7 := hPg6.to (jj + 1) hj2
        rw [← hw7] at hPg7
        have hC67 : Chg (· = g) w6 w7 := by rw [hw7]; exact (Chg.refl _ w6).setg _ _
        have hxd : Ext w7 w7.drew := (Ext.refl _).drew
        have KQ := Lib.hid (hP w7.drew g A c (jj + 1) a (hPg7.ext hxd))
        have hb7 := (hb6.chg hC67 (by omega)).ext hxd
        obtain ⟨x0, x1, x2, x3, x4, x5, x6, x7, x8⟩ := hb7.get
        have HB3 := Lib.hid hb7
        have hC27 : Chg (· = g) w2 w7 := hC6.trans hC67
        have hr7 := hr6.chg hC67 (by omega)
        have hs27 := hC27.size
        have hpl7 : pb < w7.heap.size := by have := hb7.lt; exact this
        have HW7 : Hid (w6.setCell ⟨g, 1, none⟩ (.int .i64 ((jj : Int) + 1)) = w7) := Lib.hid (by rw [hw7]; rfl)
        have HRR := Lib.hid (And.intro hR h25)
        clear hw7 hPg7 hPg6 hb6 hb7 hr6 hCw6 hC67 hxd hlen hR h25 hrr
        go_upto_region 10 with (fail)
        rw [HW7.out]
        clear c1 f1 u0 u3
        go_region_with (first
          | ((with_reducible refine KQ.out.mono ?_); rintro e w8 hout; have HQ := Lib.hid hout; obtain ⟨us, hus, rfl⟩ := hout.val; have hb8 := HB3.out.chg hout.1 (by omega); obtain ⟨v0, v1, v2, v3, v4, v5, v6, v7, v8⟩ := hb8.get; have HB8 := Lib.hid hb8; have hus' := Lib.hid hus; obtain ⟨k0, k1, s2, k3, A4, l4, d4, k5, A6, l6, d6, A7, l7, d7, A8, l8, d8, rfl⟩ := hus; have K2 := Lib.hid (two_pg 6 (p.cells pl) _ sh_intro hus'.out w8); clear hb8 hout)
          | ((with_reducible refine K2.out.mono ?_); rintro e w9 ⟨m1, m2, hm1, hm1', hm2, hm2', bm1, bm2, hx9, rfl⟩; have hb9 := HB8.out.ext hx9; obtain ⟨g0, g1, g2, g3, g4, g5, g6, g7, g8⟩ := hb9.get; obtain ⟨z0, z1, z2, z3, z4, z5, z6, z7, z8⟩ := hb9.fzs; have H9 := Lib.hid (And.intro hb9 (And.intro hm1 (And.intro hm1' (And.intro hm2 (And.intro hm2' (And.intro bm1 (And.intro bm2 hx9))))))); clear hb9 hm1 hm1' hm2 hm2' bm1 bm2 hx9))
        all_goals
          obtain ⟨wm, hwm⟩ : ∃ wm, wm = w9.setCells pb 0 [.int .i64 6, .int .i64 0, .string ⟨#[]⟩, .int .i64 0, .slice none 0 0, .int .i64 0, .slice (some ⟨m1, 0, none⟩) 1 1, .slice (some ⟨m2, 0, none⟩) 1 1, .slice none 0 0] := ⟨_, rfl⟩
          have c9 : Chg (· = pb) w9 wm := by rw [hwm]; exact setCells_chg w9 pb _ 0 w9 (Chg.refl _ _)
          have b9 : Box9 wm pb [.int .i64 6, .int .i64 0, .string ⟨#[]⟩, .int .i64 0, .slice none 0 0, .int .i64 0, .slice (some ⟨m1, 0, none⟩) 1 1, .slice (some ⟨m2, 0, none⟩) 1 1, .slice none 0 0] := by rw [hwm]; exact H9.out.1.set _ rfl
          rw [show ((((((((w9.setCell ⟨pb, 0, none⟩ (.int .i64 6)).setCell ⟨pb, 1, none⟩ (.int .i64 0)).setCell ⟨pb, 2, none⟩ (.string ⟨#[]⟩)).setCell ⟨pb, 3, none⟩ (.int .i64 0)).setCell ⟨pb, 4, none⟩ (.slice none 0 0)).setCell ⟨pb, 5, none⟩ (.int .i64 0)).setCell ⟨pb, 6, none⟩ (.slice (some ⟨m1, 0, none⟩) 1 1)).setCell ⟨pb, 7, none⟩ (.slice (some ⟨m2, 0, none⟩) 1 1)).setCell ⟨pb, 8, none⟩ (.slice none 0 0) = wm from hwm.symm]
          obtain ⟨hb9, hm1, hm1', hm2, hm2', bm1, bm2, hx9⟩ := H9.out
          have c28 : Chg (· = g) w2 w8 := (hC27.trans (Chg.of_ext (Ext.refl _).drew)).trans HQ.out.1
          have s28 := c28.size
          have s89 := hx9.size
          obtain ⟨wf, hwf⟩ : ∃ wf, wf = wm.setCell ⟨pb, 5, none⟩ (.int .i64 R) := ⟨_, rfl⟩
          have c9f : Chg (· = pb) w9 wf := by rw [hwf]; exact c9.setg 5 _
          have bf : Box9 wf pb [.int .i64 6, .int .i64 0, .string ⟨#[]⟩, .int .i64 0, .slice none 0 0, .int .i64 R, .slice (some ⟨m1, 0, none⟩) 1 1, .slice (some ⟨m2, 0, none⟩) 1 1, .slice none 0 0] := by rw [hwf]; exact b9.set1 5 _ (by omega)
          have sf := c9f.size
          have hCf : Chg (· = g) w wf := chg_new ((hC2.trans c28).trans (Chg.of_ext hx9)) (c9f.weak fun _ e => .inr e) (by omega)
          have hrf := ((hr2.chg c28 (by omega)).ext hx9).chg c9f (by omega)
          have hfin : ∀ wz, wz = wf.setCells w.heap.size 0 [.int .i64 6, .int .i64 0, .string ⟨#[]⟩, .int .i64 0, .slice none 0 0, .int .i64 R, .slice (some ⟨m1, 0, none⟩) 1 1, .slice (some ⟨m2, 0, none⟩) 1 1, .slice none 0 0] → PPOut w g A c T a b F (.returned (.agg #[.int .i64 6, .int .i64 0, .string ⟨#[]⟩, .int .i64 0, .slice none 0 0, .int .i64 R, .slice (some ⟨m1, 0, none⟩) 1 1, .slice (some ⟨m2, 0, none⟩) 1 1, .slice none 0 0])) wz := fun wz hwz => by
            obtain ⟨_, h2⟩ := HQ.out
            match hpq : rowP T k br (jj + 1) with
            | .error (q, x) =>
              rw [hpq] at h2
              obtain ⟨hx, _, i', d', hPg⟩ := h2
              have hPgf := (hPg.ext hx9).chg c9f (fun x _ e => by subst e; omega)
              rw [HFQ.out, hpq]
              exact pp_fin_err hx hCf hPgf hgl hlo hwz sh_intro rfl
            | .ok (p', j') =>
              rw [hpq] at h2
              obtain ⟨pl', he, hIn', hPg⟩ := h2
              have hPgf := (hPg.ext hx9).chg c9f (fun x _ e => by subst e; omega)
              injection he with he
              injection he with he
              have e0 := congrArg (fun l : Array Value => l.toList) he
              have bm2' : Box9 w9 m2 (p'.cells pl') := by rw [show p'.cells pl' = [.int .i64 k0, .int .i64 k1, .string s2, .int .i64 k3, .slice A4 l4 d4, .int .i64 k5, .slice A6 l6 d6, .slice A7 l7 d7, .slice A8 l8 d8] from e0.symm]; exact bm2
              have hj := pg_join (kind := 6) (rel := R) (by decide) (by rw [HRR.out.1]; exact wf_relz HRR.out.2 (rl_lt T jj)) (by omega : g < w0.heap.size) (by omega) (by omega) HB.out.2 c28 (hIn'.back hs27) hx9 ⟨hm1, hm1'⟩ ⟨hm2, hm2'⟩ bm1 bm2' c9f
              rw [HFQ.out, hpq]
              simp only
              rw [← HRR.out.1]
              exact pp_fin_ok (pl := ⟨none, 0, some ⟨m1, 0, none⟩, 1, some ⟨m2, 0, none⟩, 1, none, 0⟩) hCf hw0l hPgf hgl hlo (hj.keep fun x hx _ => ⟨rfl, hx.1⟩) hwz rfl
          have HFN := Lib.hid hfin
          obtain ⟨g0, g1, g2, g3, g4, g5, g6, g7, g8⟩ := b9.get
          obtain ⟨z0, z1, z2, z3, z4, z5, z6, z7, z8⟩ := b9.fzs
          obtain ⟨n0, n1, n2, n3, n4, n5, n6, n7, n8⟩ := bf.get
          obtain ⟨y0, y1, y2, y3, y4, y5, y6, y7, y8⟩ := hrf.get
          obtain ⟨o0, o1, o2, o3, o4, o5, o6, o7, o8⟩ := hrf.fzs
          have HWF := Lib.hid hwf
          clear hfin hwm hwf c9 b9 bf c9f hb9 hm1 hm1' hm2 hm2' bm1 bm2 hx9 c28 hCf hrf H9 HB8 HB3 K2 KQ HQ x0 x1 x2 x3 x4 x5 x6 x7 x8 v0 v1 v2 v3 v4 v5 v6 v7 v8
          go_upto_region 12 with (fail)
          rw [← HWF.out]
          clear g0 g1 g2 g3 g4 g5 g6 g7 g8 z0 z1 z2 z3 z4 z5 z6 z7 z8
          go_wp2_with fail
          refine bodyPost_ret (v := .agg #[.int .i64 6, .int .i64 0, .string ⟨#[]⟩, .int .i64 0, .slice none 0 0, .int .i64 R, .slice (some ⟨m1, 0, none⟩) 1 1, .slice (some ⟨m2, 0, none⟩) 1 1, .slice none 0 0]) (by simp [results, Tryz.results90, go_sem, *]) rfl ?_
          exact HFN.out _ rfl
      · have HFQ : Hid (F = .error (bad T jj)) := Lib.hid (by have e := HJ.out; rw [HFE.out, ← e, if_neg h25])
        have KF := Lib.hid (fails_yes 4 (tk T jj).at_ hPg6)
        have HB6 := Lib.hid (And.intro hb6 hr6)
        have hno := hrr.2 h25
        clear hb6 hr6 hPg6 hrr h25
        have tail : ∀ w7, PgAt w7 g A c T jj 4 (tk T jj).at_ b → Chg (· = g) w6 w7 → Box9 w7 pb (p.cells pl) ∧ Box9 w7 w.heap.size zero9 ∧ Chg (· = g) w w7 ∧ PgAt w7 g A c T jj 4 (tk T jj).at_ b := fun w7 h7 hC7 => ⟨HB6.out.1.chg hC7 (by omega), HB6.out.2.chg hC7 (by omega), hCw6.trans hC7, h7⟩
        have HT := Lib.hid tail
        clear tail
        by_cases hk1 : (tk T jj).kind = 1
        · have hR0 : R = 0 := hno.resolve_left (fun h => h hk1)
          have q1 : ((tk T jj).kind != 1) = false := by simp [hk1]
          have q2 : (R == 0) = true := by simp [hR0]
          subst hR0
          rw [hk1] at u0
          clear hno
          go_upto_region 7 with (fail)
          go_wp2_with fail
          refine KF.out.mono ?_
          rintro e w7 ⟨rfl, h7, hC7⟩
          obtain ⟨hb7, hr7, hC7w, h7'⟩ := HT.out w7 h7 hC7
          obtain ⟨x0, x1, x2, x3, x4, x5, x6, x7, x8⟩ := hb7.get
          obtain ⟨y0, y1, y2, y3, y4, y5, y6, y7, y8⟩ := hr7.get
          obtain ⟨z0, z1, z2, z3, z4, z5, z6, z7, z8⟩ := hr7.fzs
          have HH := Lib.hid (And.intro hC7w h7')
          clear hb7 hr7 hC7w h7' h7 hC7 KF HT
          go_wp2_with fail
          refine bodyPost_ret (v := p.val pl) (by simp [results, Tryz.results90, go_sem, *]) rfl ?_
          rw [HFQ.out]
          exact pp_fin_err (by decide) HH.out.1 HH.out.2 hgl hlo (vs := p.cells pl) (cs := p.cells pl) rfl sh_intro rfl
        · have q1 : ((tk T jj).kind != 1) = true := by simp [hk1]
          clear hno
          go_upto_region 7 with (fail)
          go_wp2_with fail
          refine KF.out.mono ?_
          rintro e w7 ⟨rfl, h7, hC7⟩
          obtain ⟨hb7, hr7, hC7w, h7'⟩ := HT.out w7 h7 hC7
          obtain ⟨x0, x1, x2, x3, x4, x5, x6, x7, x8⟩ := hb7.get
          obtain ⟨y0, y1, y2, y3, y4, y5, y6, y7, y8⟩ := hr7.get
          obtain ⟨z0, z1, z2, z3, z4, z5, z6, z7, z8⟩ := hr7.fzs
          have HH := Lib.hid (And.intro hC7w h7')
          clear hb7 hr7 hC7w h7' h7 hC7 KF HT
          go_wp2_with fail
          refine bodyPost_ret (v := p.val pl) (by simp [results, Tryz.results90, go_sem, *]) rfl ?_
          rw [HFQ.out]
          exact pp_fin_err (by decide) HH.out.1 HH.out.2 hgl hlo (vs := p.cells pl) (cs := p.cells pl) rfl sh_intro rfl
    · have HFE : Hid (F = .ok (p, j)) := Lib.hid (by rw [HF.out]; unfold pairP; rw [hpi]; simp only; rw [if_neg h11])
      have KT := Lib.hid (take_pno hG 7 (by omega) ⟨#[64]⟩ (by decide) hPg2 h11)
      have HB := Lib.hid (And.intro hb2 (And.intro hIn2 hPg2))
      clear hx2 hw2 hC1 KP hr0 hx0 hb2 hpb hPg hPg2 HO hpi hIn hIn2
      go_upto_region 2 with (fail)
      rw [← HW2.out.2, ← HW2.out.1]
      go_wp2_with fail
      refine KT.out.mono ?_
      rintro e w3 ⟨rfl, hx3⟩
      obtain ⟨x0, x1, x2, x3, x4, x5, x6, x7, x8⟩ := (HB.out.1.ext hx3).get
      obtain ⟨y0, y1, y2, y3, y4, y5, y6, y7, y8⟩ := (hr2.ext hx3).get
      obtain ⟨z0, z1, z2, z3, z4, z5, z6, z7, z8⟩ := (hr2.ext hx3).fzs
      have hC3 := hC2.trans (Chg.of_ext hx3)
      have HX3 := Lib.hid hx3
      clear hr2 KT hx3
      go_wp2_with fail
      refine bodyPost_ret (v := p.val pl) (by simp [results, Tryz.results90, go_sem, *]) rfl ?_
      rw [HFE.out]
      exact pp_fin_ok hC3 hw0l (HB.out.2.2.ext HX3.out) hgl hlo (HB.out.2.1.keep fun x hx _ => ⟨HX3.out.block x hx.1.2, hx.1.1, by have := hx.1.2; have := HX3.out.size; omega⟩) (vs := p.cells pl) rfl rfl
end Go.Proofs.YtbjghkmjnhmlfaaGreatDoor

/- The page's reader: patterns: a call from either state; what a row needs. -/
namespace Go.Proofs.YtbjghkmjnhmlfaaGreatDoor
open Go.RowKit

/-- the page's reader stands at a place, or holds an error -/
def Gs (w : World) (g A c : Nat) (T : List Tok) (a : Int) (b : Nat) (S : Rs Unit) : Prop := match S with
  | .ok (_, j) => PgAt w g A c T j 0 a b
  | .error (q, x) => x ≠ 0 ∧ ∃ i' d', PgAt w g A c T i' x q d'
def thenS {α : Type} (S : Rs Unit) (f : Nat → Rs α) : Rs α := match S with
  | .error e => .error e
  | .ok (_, j) => f j
def bareS {α : Type} (F : Rs α) : Rs Unit := match F with
  | .error e => .error e
  | .ok (_, j) => .ok ((), j)
def opnF (T : List Tok) (b j : Nat) : Rs Unit := if rl T j = 4 then (if b < 100 then .ok ((), j + 1) else .error (lim T j)) else .error (bad T j)
def cloF (T : List Tok) (j : Nat) : Rs Unit := if rl T j = 5 then .ok ((), j + 1) else .error (bad T j)
def semF (T : List Tok) (j : Nat) : Rs Unit := if rl T j = 8 then .ok ((), j + 1) else .error (bad T j)
theorem Gs.ext {w w' : World} {g A c : Nat} {T : List Tok} {a : Int} {b : Nat} {S : Rs Unit} (h : Gs w g A c T a b S) (k : Ext w w') : Gs w' g A c T a b S := by
  match S, h with
  | .ok (_, j), h => exact PgAt.ext h k
  | .error (q, x), ⟨hx, i', d', hE⟩ => exact ⟨hx, i', d', hE.ext k⟩
theorem PPOut.gs {w : World} {g A c : Nat} {T : List Tok} {a : Int} {b : Nat} {F : Rs Pt} {e : Ending} {w' : World} (h : PPOut w g A c T a b F e w') : Gs w' g A c T a b (bareS F) := by
  match F, h with
  | .ok (p, j), ⟨_, pl, he, _, hP⟩ => exact hP
  | .error (q, x), ⟨_, hx, _, i', d', hP⟩ => exact ⟨hx, i', d', hP⟩
theorem semi_txt : (⟨#[59]⟩ : ByteArray) = txt (roleTexts[4]?.getD []) := by decide
set_option maxRecDepth 100000 in
set_option maxHeartbeats 1000000 in
theorem open_no {T : List Tok} (hG : ToksG T) {w : World} {g A c i : Nat} {a : Int} {d : Int} (h : PgAt w g A c T i 0 a d) (hr : rl T i ≠ 4) :
    Calls Tryz.prog 61 #[.pointer (some ⟨g, 0, none⟩)] w fun e w' => e = .returned (.tuple #[]) ∧ PgAt w' g A c T i 4 (tk T i).at_ d ∧ Chg (· = g) w w' := by
  have KN := Lib.hid (now_pg h)
  have HH := Lib.hid h
  have q3 := fld3
  have KM := Lib.hid (fun (u : World) (hu : PgAt u g A c T i 0 a d) => must_pno hG 0 (by omega) _ open_txt hu hr)
  clear h hr hG
  go_enter Tryz.func61, Tryz.ntmps61
  go_wp2_with fail
  refine KN.out.mono ?_
  rintro e w1 ⟨rfl, hx1⟩
  have K2 := Lib.hid (KM.out w1 (HH.out.ext hx1))
  go_wp2_with fail
  refine K2.out.mono ?_
  rintro e w2 ⟨rfl, h2, hC2⟩
  have c2 := h2.c2
  have H2 := Lib.hid h2
  clear h2
  go_wp2_with fail
  go_end0
  exact ⟨rfl, H2.out, (Chg.of_ext hx1).trans hC2⟩
set_option maxRecDepth 100000 in
set_option maxHeartbeats 1000000 in
theorem open_er {T : List Tok} {w : World} {g A c i : Nat} {e0 a d : Int} (h : PgAt w g A c T i e0 a d) (he : e0 ≠ 0) :
    Calls Tryz.prog 61 #[.pointer (some ⟨g, 0, none⟩)] w fun e w' => e = .returned (.tuple #[]) ∧ PgAt w' g A c T i e0 a d ∧ Chg (· = g) w w' := by
  have KN := Lib.hid (now_pg h)
  have HH := Lib.hid h
  have q3 := fld3
  have KM := Lib.hid (fun (u : World) (hu : PgAt u g A c T i e0 a d) => must_per 4 ⟨#[40]⟩ hu he)
  have q : (e0 == 0) = false := by simp [he]
  clear h he
  go_enter Tryz.func61, Tryz.ntmps61
  go_wp2_with fail
  refine KN.out.mono ?_
  rintro e w1 ⟨rfl, hx1⟩
  have K2 := Lib.hid (KM.out w1 (HH.out.ext hx1))
  go_wp2_with fail
  refine K2.out.mono ?_
  rintro e w2 ⟨rfl, hx2⟩
  have h2 := HH.out.ext (hx1.trans hx2)
  have c2 := h2.c2
  have H2 := Lib.hid h2
  clear h2
  go_wp2_with fail
  go_end0
  exact ⟨rfl, H2.out, Chg.of_ext (hx1.trans hx2)⟩
theorem open_gs {T : List Tok} (hG : ToksG T) {w : World} {g A c b : Nat} {a : Int} {S : Rs Unit} (hb : b ≤ 100) (h : Gs w g A c T a b S) :
    Calls Tryz.prog 61 #[.pointer (some ⟨g, 0, none⟩)] w fun e w' => e = .returned (.tuple #[]) ∧ Gs w' g A c T a (b + 1) (thenS S (opnF T b)) ∧ Chg (· = g) w w' := by
  match S, h with
  | .ok (_, j), h =>
    by_cases h4 : rl T j = 4
    · by_cases hlt : b < 100
      · refine (open_yes hG hlt h h4).mono fun e w' ⟨he, h', hC⟩ => ⟨he, ?_, hC⟩
        rw [show thenS (.ok ((), j)) (opnF T b) = .ok ((), j + 1) by simp only [thenS, opnF]; rw [if_pos h4, if_pos hlt]]
        exact h'
      · obtain rfl : b = 100 := by omega
        refine (open_lim hG h h4).mono fun e w' ⟨he, h', hC⟩ => ⟨he, ?_, hC⟩
        rw [show thenS (.ok ((), j)) (opnF T 100) = .error (lim T j) by simp only [thenS, opnF]; rw [if_pos h4, if_neg hlt]]
        exact ⟨by decide, _, _, h'⟩
    · refine (open_no hG h h4).mono fun e w' ⟨he, h', hC⟩ => ⟨he, ?_, hC⟩
      rw [show thenS (.ok ((), j)) (opnF T b) = .error (bad T j) by simp only [thenS, opnF]; rw [if_neg h4]]
      exact ⟨by decide, _, _, h'⟩
  | .error (q, x), ⟨hx, i', d', hE⟩ => exact (open_er hE hx).mono fun e w' ⟨he, h', hC⟩ => ⟨he, ⟨hx, _, _, h'⟩, hC⟩
theorem close_gs {T : List Tok} (hG : ToksG T) {w : World} {g A c b : Nat} {a : Int} {S : Rs Unit} (hb : b ≤ 100) (h : Gs w g A c T a (b + 1) S) :
    Calls Tryz.prog 62 #[.pointer (some ⟨g, 0, none⟩)] w fun e w' => e = .returned (.tuple #[]) ∧ Gs w' g A c T a b (thenS S (cloF T)) ∧ Chg (· = g) w w' := by
  match S, h with
  | .ok (_, j), h =>
    by_cases h4 : rl T j = 5
    · refine (close_yes hG hb h h4).mono fun e w' ⟨he, h', hC⟩ => ⟨he, ?_, hC⟩
      rw [show thenS (.ok ((), j)) (cloF T) = .ok ((), j + 1) by simp only [thenS, cloF]; rw [if_pos h4]]
      exact h'
    · refine (close_no hG h h4).mono fun e w' ⟨he, ⟨d', h'⟩, hC⟩ => ⟨he, ?_, hC⟩
      rw [show thenS (.ok ((), j)) (cloF T) = .error (bad T j) by simp only [thenS, cloF]; rw [if_neg h4]]
      exact ⟨by decide, _, _, h'⟩
  | .error (q, x), ⟨hx, i', d', hE⟩ => exact (close_er hE hx).mono fun e w' ⟨he, ⟨d1, h'⟩, hC⟩ => ⟨he, ⟨hx, _, _, h'⟩, hC⟩
theorem must_gs {T : List Tok} (hG : ToksG T) {w : World} {g A c b : Nat} {a : Int} {S : Rs Unit} (h : Gs w g A c T a b S) :
    Calls Tryz.prog 22 #[.pointer (some ⟨g, 0, none⟩), .int .i64 4, .string ⟨#[59]⟩] w fun e w' => e = .returned (.tuple #[]) ∧ Gs w' g A c T a b (thenS S (semF T)) ∧ Chg (· = g) w w' := by
  match S, h with
  | .ok (_, j), h =>
    by_cases h4 : rl T j = 8
    · refine (must_pyes hG 4 (by omega) _ semi_txt h h4).mono fun e w' ⟨he, h', hC⟩ => ⟨he, ?_, hC⟩
      rw [show thenS (.ok ((), j)) (semF T) = .ok ((), j + 1) by simp only [thenS, semF]; rw [if_pos h4]]
      exact h'
    · refine (must_pno hG 4 (by omega) _ semi_txt h h4).mono fun e w' ⟨he, h', hC⟩ => ⟨he, ?_, hC⟩
      rw [show thenS (.ok ((), j)) (semF T) = .error (bad T j) by simp only [thenS, semF]; rw [if_neg h4]]
      exact ⟨by decide, _, _, h'⟩
  | .error (q, x), ⟨hx, i', d', hE⟩ => exact (must_per 4 _ hE hx).mono fun e w' ⟨he, hx'⟩ => ⟨he, ⟨hx, _, _, hE.ext hx'⟩, Chg.of_ext hx'⟩
theorem pp_gs {f : FuncId} {T : List Tok} {b : Nat} {F : Nat → Rs Pt} {w : World} {g A c : Nat} {a : Int} {S : Rs Unit} (hP : (∃ j, S = .ok ((), j)) → PPTo f T b F) (hE : PEr f T) (h : Gs w g A c T a b S) :
    Calls Tryz.prog f #[.pointer (some ⟨g, 0, none⟩)] w (PPOut w g A c T a b (thenS S F)) := by
  match S, h with
  | .ok ((), j), h => exact hP ⟨j, rfl⟩ w g A c j a h
  | .error (q, x), ⟨hx, i', d', h⟩ => exact (hE w g A c i' x q d' h hx).mono fun e w' ⟨hc, hx'⟩ => ⟨Chg.of_ext hx', hx, hc, i', d', h.ext hx'⟩
/-- what stands behind a ; and \+ -/
theorem gap_gs {T : List Tok} {k b : Nat} (hkb : k + b = 100) {i : Nat} (p : Pt) (h12 : rl T i = 12) :
    gapP T k (brP T k) p i = match thenS (thenS (thenS (bareS (thenS (opnF T b (i + 1)) (patP T (k - 1)))) (cloF T)) (semF T)) (oneP T k (brP T k)) with
      | .error e => .error e
      | .ok (q, m) => match thenS (opnF T b (i + 1)) (patP T (k - 1)) with
        | .ok (pc, _) => .ok (⟨5, noTm, 0, [p], [q], [pc]⟩, m)
        | .error e => .error e := by
  unfold gapP
  rw [if_pos h12]
  match k, hkb with
  | 0, hkb =>
    obtain rfl : b = 100 := by omega
    by_cases h4 : rl T (i + 1) = 4
    · simp [brP, opnF, h4, thenS, bareS]
    · simp [brP, opnF, h4, thenS, bareS]
  | k + 1, hkb =>
    have hlt : b < 100 := by omega
    by_cases h4 : rl T (i + 1) = 4
    · simp only [brP, brF, opnF, if_pos h4, if_pos hlt, thenS, Nat.add_sub_cancel]
      match patP T k (i + 1 + 1) with
      | .error e => rfl
      | .ok (pc, j) =>
        simp only [bareS, cloF]
        by_cases h5 : rl T j = 5
        · simp only [if_pos h5, semF]
          by_cases h8 : rl T (j + 1) = 8
          · simp only [if_pos h8]
            rfl
          · simp only [if_neg h8]
        · simp only [if_neg h5]
    · simp [brP, brF, opnF, h4, thenS, bareS]
theorem pg_joinC {w0 wr wA wB wC wD wf : World} {g pb m n o : Nat} {p p' pc : Pt} {pl pl' plc : PtPl} (hg : g < w0.heap.size) (hpb : pb < wr.heap.size) (h0r : w0.heap.size ≤ wr.heap.size) (hIn : PtIn wr (fun b => New w0 wr b ∧ b ≠ pb) p pl)
    (cA : Chg (· = g) wr wA) (cB : Chg (· = g) wA wB) (hInC : PtIn wB (New wA wB) pc plc) (cC : Chg (· = g) wB wC) (cD : Chg (· = g) wC wD) (hIn' : PtIn wD (New wC wD) p' pl') (cf : Chg (· = pb) wD wf)
    (hm : wD.heap.size ≤ m ∧ m < wf.heap.size) (hn : wD.heap.size ≤ n ∧ n < wf.heap.size) (ho : wD.heap.size ≤ o ∧ o < wf.heap.size) (bm : Box9 wf m (p.cells pl)) (bn : Box9 wf n (p'.cells pl')) (bo : Box9 wf o (pc.cells plc)) :
    PtIn wf (fun b => New w0 wf b ∧ b ≠ pb) ⟨5, noTm, 0, [p], [p'], [pc]⟩ ⟨none, 0, some ⟨m, 0, none⟩, 1, some ⟨n, 0, none⟩, 1, some ⟨o, 0, none⟩, 1⟩ := by
  have sA := cA.size
  have sB := cB.size
  have sC := cC.size
  have sD := cD.size
  have sf := cf.size
  refine .mk _ _ (fun _ => pl) (fun _ => pl') (fun _ => plc) ⟨by simp only; decide, by simp only; decide, by simp, by simp, by simp⟩ ⟨by simp, by simp, by simp⟩ (noTm_in _ _ _)
    (prow_one ⟨⟨by omega, by omega⟩, by omega⟩ fun k hk => bm.cell k (List.getElem?_eq_getElem _)) (prow_one ⟨⟨by omega, by omega⟩, by omega⟩ fun k hk => bn.cell k (List.getElem?_eq_getElem _)) (prow_one ⟨⟨by omega, by omega⟩, by omega⟩ fun k hk => bo.cell k (List.getElem?_eq_getElem _)) (fun i hi => ?_) (fun i hi => ?_) (fun i hi => ?_)
  · obtain rfl : i = 0 := by simpa using hi
    exact hIn.keep fun x hx _ => by
      have h1 := hx.1.1
      have h2 := hx.1.2
      have h3 := hx.2
      exact ⟨by rw [cf.block x (by omega) h3, cD.block x (by omega) (by omega), cC.block x (by omega) (by omega), cB.block x (by omega) (by omega), cA.block x h2 (by omega)], ⟨h1, by omega⟩, h3⟩
  · obtain rfl : i = 0 := by simpa using hi
    exact hIn'.keep fun x hx _ => by
      have h1 := hx.1
      have h2 := hx.2
      exact ⟨cf.block x h2 (by omega), ⟨by omega, by omega⟩, by omega⟩
  · obtain rfl : i = 0 := by simpa using hi
    exact hInC.keep fun x hx _ => by
      have h1 := hx.1
      have h2 := hx.2
      exact ⟨by rw [cf.block x (by omega) (by omega), cD.block x (by omega) (by omega), cC.block x h2 (by omega)], ⟨by omega, by omega⟩, by omega⟩
end Go.Proofs.YtbjghkmjnhmlfaaGreatDoor
