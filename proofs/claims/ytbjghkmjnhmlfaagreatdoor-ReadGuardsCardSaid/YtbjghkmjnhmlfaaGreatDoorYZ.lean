/- Joined: Phh, Phi. -/
import Derived.Test.YtbjghkmjnhmlfaaGreatDoorYY

/- The page's reader: patterns: row. -/
namespace Go.Proofs.YtbjghkmjnhmlfaaGreatDoor
open Go.RowKit

/-- the row's loop's state -/
def LpR (w0 : World) (g A c pb : Nat) (T : List Tok) (a : Int) (b : Nat) (L : Nat → Pt → Nat → Rs Pt) (F : Rs Pt) (wr : World) : Prop :=
 (∃ n p pl j, T.length ≤ n + j ∧ j < T.length ∧ L n p j = F ∧ PgAt wr g A c T j 0 a b ∧ PtIn wr (fun x => New w0 wr x ∧ x ≠ pb) p pl ∧ Box9 wr pb (p.cells pl)) ∨
 (∃ i' q x d' cs, x ≠ 0 ∧ F = .error (q, x) ∧ PgAt wr g A c T i' x q d' ∧ Sh9 cs ∧ Box9 wr pb cs)
set_option maxRecDepth 100000 in
set_option maxHeartbeats 8000000 in
theorem row_pg {T : List Tok} (hG : ToksG T) (k b : Nat) (hkb : k + b = 100) (hP : PPTo 118 T b (oneP T k (brP T k))) (hO : ∀ m, k = m + 1 → PPTo 37 T (b + 1) (patP T m)) (hEo : PEr 118 T) (hEp : PEr 37 T) : PPTo 106 T b (rowP T k (brP T k)) := by
 have hpt : Takes T (oneP T k (brP T k)) := oneP_takes hG.ends k (brP_takes hG.ends k)
 obtain ⟨part, hpd⟩ : ∃ part, part = oneP T k (brP T k) := ⟨_, rfl⟩
 rw [← hpd] at hpt hP
 have HPD := Lib.hid hpd
 clear hpd
 intro w g A c i a h
 have hgl := h.lt
 have hlo := h.low
 obtain ⟨w0, hw0⟩ : ∃ w0, w0 = w.alloc (.cells #[.int .i64 0, .int .i64 0, .string ⟨#[]⟩, .int .i64 0, .slice none 0 0, .int .i64 0, .slice none 0 0, .slice none 0 0, .slice none 0 0] 63) := ⟨_, rfl⟩
 have hr0 : Box9 w0 w.heap.size zero9 := by rw [hw0]; exact Box9.new w _ _ rfl
 have hx0 : Ext w w0 := by rw [hw0]; exact (Ext.refl _).alloc _
 have HW0 := Lib.hid hw0
 have KP := Lib.hid (hP w0 g A c i a (h.ext hx0))
 have hw0l : w.heap.size < w0.heap.size := hr0.lt
 obtain ⟨F, hF⟩ : ∃ F, F = rowP T k (brP T k) i := ⟨_, rfl⟩
 rw [← hF]
 have HF := Lib.hid hF.symm
 clear h hF hw0
 go_enter Tryz.func106, Tryz.ntmps106
 go_upto_region 1 with (fail)
 rw [← HW0.out]
 go_wp2_with fail
 refine KP.out.mono ?_
 rintro e w1 hout
 have hC1 := hout.1
 have hs1 := hC1.size
 have HO := Lib.hid hout
 obtain ⟨cs, hsh, rfl⟩ := hout.val
 have hshd := hsh
 obtain ⟨k0, k1, s2, k3, A4, l4, d4, k5, A6, l6, d6, A7, l7, d7, A8, l8, d8, rfl⟩ := hsh
 obtain ⟨w2, hw2⟩ : ∃ w2, w2 = w1.alloc (.cells #[.int .i64 k0, .int .i64 k1, .string s2, .int .i64 k3, .slice A4 l4 d4, .int .i64 k5, .slice A6 l6 d6, .slice A7 l7 d7, .slice A8 l8 d8] 63) := ⟨_, rfl⟩
 obtain ⟨pb, hpb⟩ : ∃ pb, pb = w1.heap.size := ⟨_, rfl⟩
 have hb2 : Box9 w2 pb [.int .i64 k0, .int .i64 k1, .string s2, .int .i64 k3, .slice A4 l4 d4, .int .i64 k5, .slice A6 l6 d6, .slice A7 l7 d7, .slice A8 l8 d8] := by rw [hw2, hpb]; exact Box9.new w1 _ _ rfl
 have hx2 : Ext w1 w2 := by rw [hw2]; exact (Ext.refl _).alloc _
 have HW2 := Lib.hid (And.intro hw2 hpb)
 have hr2 := (hr0.chg hC1 (by omega)).ext hx2
 have hC2 : Chg (· = g) w w2 := ((Chg.of_ext hx0).trans hC1).trans (Chg.of_ext hx2)
 have hpl2 : pb < w2.heap.size := hb2.lt
 have h0pb : w0.heap.size ≤ pb := by omega
 have hst : LpR w0 g A c pb T a b (rowL T k (brP T k)) F w2 := by
  obtain ⟨_, h2⟩ := HO.out
  match hpi : part i with
  | .error (q, x) =>
   rw [hpi] at h2
   obtain ⟨hx, _, i', d', hPg⟩ := h2
   exact .inr ⟨i', q, x, d', _, hx, by rw [← HF.out]; unfold rowP; rw [← HPD.out, hpi], hPg.ext hx2, hshd, hb2⟩
  | .ok (p, j) =>
   rw [hpi] at h2
   obtain ⟨pl, he, hIn, hPg⟩ := h2
   have hjj := hpt i p j hpi
   injection he with he
   injection he with he
   have e0 := congrArg (fun l : Array Value => l.toList) he
   refine .inl ⟨T.length - j, p, pl, j, by omega, hjj.2, by rw [← HF.out]; unfold rowP; rw [← HPD.out, hpi], hPg.ext hx2, hIn.keep fun x hx _ => ⟨hx2.block x hx.2, ⟨hx.1, by have := hx.2; have := hx2.size; omega⟩, by have := hx.2; omega⟩, ?_⟩
   rw [show p.cells pl = [.int .i64 k0, .int .i64 k1, .string s2, .int .i64 k3, .slice A4 l4 d4, .int .i64 k5, .slice A6 l6 d6, .slice A7 l7 d7, .slice A8 l8 d8] from e0.symm]
   exact hb2
 have HST := Lib.hid hst
 clear hx2 hw2 hC1 KP hr0 hx0 hb2 hpb hout HO hst hshd
 go_upto_region 2 with (fail)
 rw [← HW2.out.2, ← HW2.out.1]
 go_loopw [] (fun wr => Box9 wr w.heap.size zero9 ∧ Chg (· = g) w wr ∧ w2.heap.size ≤ wr.heap.size ∧ Hid (LpR w0 g A c pb T a b (rowL T k (brP T k)) F wr)) (fun wr => pgM T.length wr g)
 case atStart => exact ⟨hr2, hC2, Nat.le_refl _, HST⟩
 case round =>
  obtain ⟨hrr, hCr, hsr, HX⟩ := hrel
  clear HST hr2 hC2
  rcases HX.out with ⟨n, p, pl, j, hn, hj, hFq, hPg, hIn, hbr⟩ | ⟨i', q, x, d', cs, hx, hFe, hPg, hsh, hbr⟩
  ·
   clear HX
   obtain ⟨n, rfl⟩ : ∃ k, n = k + 1 := ⟨n - 1, by omega⟩
   have HM := Lib.hid (hPg.m0 T.length)
   rw [rowL] at hFq
   by_cases hjs : rl T j = 8
   ·
    rw [if_pos hjs] at hFq
    have KT := Lib.hid (take_pyes hG 4 (by omega) ⟨#[59]⟩ (by decide) hPg hjs)
    have HFQ := Lib.hid hFq
    have HB := Lib.hid (And.intro hbr hIn)
    clear hPg hFq hbr hIn
    go_wp2_with fail
    refine KT.out.mono ?_
    rintro e wt ⟨rfl, hPgt, hCt⟩
    have hst := hCt.size
    clear KT
    by_cases h12 : rl T (j + 1) = 12
    ·
     have hgap := gap_gs (T := T) (k := k) hkb p h12
     rw [← HPD.out] at hgap
     have HGAP := Lib.hid hgap
     have KT := Lib.hid (take_pyes hG 8 (by omega) ⟨#[92, 43]⟩ (by decide) hPgt h12)
     clear hPgt hgap
     go_wp2_with fail
     refine KT.out.mono ?_
     rintro e w4 ⟨rfl, hPg4, hC4⟩
     have hs4 := hC4.size
     have KOp := Lib.hid (open_gs hG (b := b) (by omega) (S := .ok ((), j + 1 + 1)) hPg4)
     clear KT hPg4
     go_wp2_with fail
     refine KOp.out.mono ?_
     rintro e w5 ⟨rfl, hG5, hC5⟩
     have hs5 := hC5.size
     rw [show thenS (.ok ((), j + 1 + 1)) (opnF T b) = opnF T b (j + 1 + 1) from rfl] at hG5
     have KPt := Lib.hid (pp_gs (f := 37) (F := patP T (k - 1)) (fun ⟨j', e⟩ => hO (k - 1) (by
      have : b < 100 := Nat.lt_of_not_le fun hn => by
       unfold opnF at e
       by_cases h4 : rl T (j + 1 + 1) = 4
       ·
        rw [if_pos h4, if_neg (by omega)] at e; cases e
       ·
        rw [if_neg h4] at e; cases e
      omega)) hEp hG5)
     obtain ⟨FC, hFC⟩ : ∃ FC, FC = thenS (opnF T b (j + 1 + 1)) (patP T (k - 1)) := ⟨_, rfl⟩
     rw [← hFC] at KPt HGAP
     clear KOp hG5 hFC
     go_wp2_with fail
     refine KPt.out.mono ?_
     rintro e w6 hout
     have hC6 := hout.1
     have hs6 := hC6.size
     have HQC := Lib.hid hout
     obtain ⟨cs, hcs, rfl⟩ := hout.val
     obtain ⟨c0, c1, d2, c3, D4, p4, r4, c5, D6, p6, r6, D7, p7, r7, D8, p8, r8, rfl⟩ := hcs
     obtain ⟨w7, hw7⟩ : ∃ w7, w7 = w6.alloc (.cells #[.int .i64 c0, .int .i64 c1, .string d2, .int .i64 c3, .slice D4 p4 r4, .int .i64 c5, .slice D6 p6 r6, .slice D7 p7 r7, .slice D8 p8 r8] 63) := ⟨_, rfl⟩
     obtain ⟨tb, htb⟩ : ∃ tb, tb = w6.heap.size := ⟨_, rfl⟩
     have hbt7 : Box9 w7 tb [.int .i64 c0, .int .i64 c1, .string d2, .int .i64 c3, .slice D4 p4 r4, .int .i64 c5, .slice D6 p6 r6, .slice D7 p7 r7, .slice D8 p8 r8] := by rw [hw7, htb]; exact Box9.new w6 _ _ rfl
     have hx7 : Ext w6 w7 := by rw [hw7]; exact (Ext.refl _).alloc _
     have hs7 := hx7.size
     have HW7 := Lib.hid (And.intro hw7 htb)
     have hG7 := hout.gs.ext hx7
     have KCl := Lib.hid (close_gs hG (b := b) (by omega) hG7)
     have htbl : tb < w7.heap.size := hbt7.lt
     clear KPt hw7 hout hG7
     go_upto_region 7 with (fail)
     rw [← HW7.out.2, ← HW7.out.1]
     go_wp2_with fail
     refine KCl.out.mono ?_
     rintro e w8 ⟨rfl, hG8, hC8⟩
     have hs8 := hC8.size
     have KMu := Lib.hid (must_gs hG hG8)
     clear KCl hG8
     go_wp2_with fail
     refine KMu.out.mono ?_
     rintro e w9 ⟨rfl, hG9, hC9⟩
     have hs9 := hC9.size
     have hxd : Ext w9 w9.drew := (Ext.refl _).drew
     have hsd := hxd.size
     have KQ := Lib.hid (pp_gs (f := 118) (F := part) (fun _ => hP) hEo (hG9.ext hxd))
     obtain ⟨FQ, hFQd⟩ : ∃ FQ, FQ = thenS (thenS (thenS (bareS FC) (cloF T)) (semF T)) part := ⟨_, rfl⟩
     rw [← hFQd] at KQ HGAP
     have HFQD := Lib.hid hFQd
     have hb9 := (((((((HB.out.1.chg hCt (by omega)).chg hC4 (by omega)).chg hC5 (by omega)).chg hC6 (by omega)).ext hx7).chg hC8 (by omega)).chg hC9 (by omega)).ext hxd
     have ht9 := ((hbt7.chg hC8 (by omega)).chg hC9 (by omega)).ext hxd
     obtain ⟨x0, x1, x2, x3, x4, x5, x6, x7, x8⟩ := hb9.get
     have HB3 := Lib.hid hb9
     have HT9 := Lib.hid ht9
     have hpl3 : pb < w9.heap.size := by have := HB.out.1.lt; omega
     have hpl9 : pb < w9.drew.heap.size := hb9.lt
     have htl9 : tb < w9.drew.heap.size := ht9.lt
     clear KMu hG9 hb9 ht9 hbt7 hFQd
     go_upto_region 9 with (fail)
     go_region_with (first
      | ((with_reducible refine KQ.out.mono ?_); rintro e w10 hout; have HQ := Lib.hid hout; obtain ⟨us, hus, rfl⟩ := hout.val; have hb10 := HB3.out.chg hout.1 (by omega); obtain ⟨v0, v1, v2, v3, v4, v5, v6, v7, v8⟩ := hb10.get; have HB10 := Lib.hid hb10; have HT10 := Lib.hid (HT9.out.chg hout.1 (by omega)); have hus' := Lib.hid hus; obtain ⟨k0, k1, s2, k3, A4, l4, d4, k5, A6, l6, d6, A7, l7, d7, A8, l8, d8, rfl⟩ := hus; have K2 := Lib.hid (two_pg 5 (p.cells pl) _ sh_intro hus'.out w10); clear hb10 hout)
      | ((with_reducible refine K2.out.mono ?_); rintro e w11 ⟨m1, m2, hm1, hm1', hm2, hm2', bm1, bm2, hx11, rfl⟩; have hb11 := HB10.out.ext hx11; obtain ⟨g0, g1, g2, g3, g4, g5, g6, g7, g8⟩ := hb11.get; obtain ⟨z0, z1, z2, z3, z4, z5, z6, z7, z8⟩ := hb11.fzs; have H11 := Lib.hid (And.intro hb11 (And.intro hm1 (And.intro hm1' (And.intro hm2 (And.intro hm2' (And.intro bm1 (And.intro bm2 hx11))))))); clear hb11 hm1 hm1' hm2 hm2' bm1 bm2 hx11))
     all_goals
      obtain ⟨w12, hw12⟩ : ∃ w12, w12 = w11.setCells pb 0 [.int .i64 5, .int .i64 0, .string ⟨#[]⟩, .int .i64 0, .slice none 0 0, .int .i64 0, .slice (some ⟨m1, 0, none⟩) 1 1, .slice (some ⟨m2, 0, none⟩) 1 1, .slice none 0 0] := ⟨_, rfl⟩
      have c12 : Chg (· = pb) w11 w12 := by rw [hw12]; exact setCells_chg w11 pb _ 0 w11 (Chg.refl _ _)
      have b12 : Box9 w12 pb [.int .i64 5, .int .i64 0, .string ⟨#[]⟩, .int .i64 0, .slice none 0 0, .int .i64 0, .slice (some ⟨m1, 0, none⟩) 1 1, .slice (some ⟨m2, 0, none⟩) 1 1, .slice none 0 0] := by rw [hw12]; exact H11.out.1.set _ rfl
      rw [show ((((((((w11.setCell ⟨pb, 0, none⟩ (.int .i64 5)).setCell ⟨pb, 1, none⟩ (.int .i64 0)).setCell ⟨pb, 2, none⟩ (.string ⟨#[]⟩)).setCell ⟨pb, 3, none⟩ (.int .i64 0)).setCell ⟨pb, 4, none⟩ (.slice none 0 0)).setCell ⟨pb, 5, none⟩ (.int .i64 0)).setCell ⟨pb, 6, none⟩ (.slice (some ⟨m1, 0, none⟩) 1 1)).setCell ⟨pb, 7, none⟩ (.slice (some ⟨m2, 0, none⟩) 1 1)).setCell ⟨pb, 8, none⟩ (.slice none 0 0) = w12 from hw12.symm]
      obtain ⟨hb11, hm1, hm1', hm2, hm2', bm1, bm2, hx11⟩ := H11.out
      have s1112 := c12.size
      have s11 := hx11.size
      have s10 := HQ.out.1.size
      have t12 := (HT10.out.ext hx11).chg c12 (by omega)
      obtain ⟨ob, hob⟩ : ∃ ob, ob = w12.heap.size := ⟨_, rfl⟩
      obtain ⟨w13, hw13⟩ : ∃ w13, w13 = w12.setCell ⟨pb, 8, none⟩ (.slice (some ⟨ob, 0, none⟩) 1 1) := ⟨_, rfl⟩
      have c14 : Chg (· = pb) w12 w13 := by rw [hw13]; exact (Chg.refl _ w12).setg 8 _
      have hz13 : w13.heap.size = ob := by rw [hw13, hob]; simp
      obtain ⟨wf, hwf⟩ : ∃ wf, wf = w13.alloc (.cells #[.int .i64 c0, .int .i64 c1, .string d2, .int .i64 c3, .slice D4 p4 r4, .int .i64 c5, .slice D6 p6 r6, .slice D7 p7 r7, .slice D8 p8 r8] 63) := ⟨_, rfl⟩
      have of : Box9 wf ob [.int .i64 c0, .int .i64 c1, .string d2, .int .i64 c3, .slice D4 p4 r4, .int .i64 c5, .slice D6 p6 r6, .slice D7 p7 r7, .slice D8 p8 r8] := by rw [hwf, ← hz13]; exact Box9.new w13 _ _ rfl
      have hx13 : Ext w13 wf := by rw [hwf]; exact (Ext.refl _).alloc _
      have s13 := hx13.size
      have ob13 := of.lt
      have cf : Chg (· = pb) w10 wf := ((((Chg.of_ext hx11).trans c12).trans c14).trans (Chg.of_ext hx13))
      have s14 := c14.size
      have b6 : Box9 wf pb [.int .i64 5, .int .i64 0, .string ⟨#[]⟩, .int .i64 0, .slice none 0 0, .int .i64 0, .slice (some ⟨m1, 0, none⟩) 1 1, .slice (some ⟨m2, 0, none⟩) 1 1, .slice (some ⟨ob, 0, none⟩) 1 1] := by
       have := b12.set1 8 (.slice (some ⟨ob, 0, none⟩) 1 1) (by omega)
       rw [← hw13] at this
       exact this.ext hx13
      have bm1f := ((bm1.chg c12 (by omega)).chg c14 (by omega)).ext hx13
      have bm2f := ((bm2.chg c12 (by omega)).chg c14 (by omega)).ext hx13
      have cA : Chg (· = g) wr w5 := (hCt.trans hC4).trans hC5
      have cC : Chg (· = g) w6 w9.drew := (((Chg.of_ext hx7).trans hC8).trans hC9).trans (Chg.of_ext hxd)
      have c0f : Chg (· = g) wr w10 := ((cA.trans hC6).trans cC).trans HQ.out.1
      have s0f := c0f.size
      have sA := cA.size
      have sC := cC.size
      have hCf : Chg (· = g) w wf := chg_new (hCr.trans c0f) (cf.weak fun _ e => .inr e) (by omega)
      have hrf := (hrr.chg c0f (by omega)).chg cf (by omega)
      have hfin : LpR w0 g A c pb T a b (rowL T k (brP T k)) F wf ∧ pgM T.length wf g < T.length + 1 - j := by
       obtain ⟨_, h2⟩ := HQ.out
       obtain ⟨_, hc2⟩ := HQC.out
       cases hpq : FQ with
       | error qx =>
        obtain ⟨q, x⟩ := qx
        rw [hpq] at h2
        obtain ⟨hx, _, i', d', hPg⟩ := h2
        have hPgf := hPg.chg cf (fun x _ e => by subst e; omega)
        exact ⟨.inr ⟨i', q, x, d', _, hx, by rw [← HFQ.out, HGAP.out, hpq], hPgf, sh_intro, b6⟩, by rw [hPgf.m1 _ hx]; omega⟩
       | ok qj =>
        obtain ⟨p', j'⟩ := qj
        cases hFC : FC with
        | error ee =>
         have e1 : FQ = .error ee := by rw [HFQD.out, hFC]; rfl
         rw [hpq] at e1
         cases e1
        | ok cj =>
         obtain ⟨pc, jc⟩ := cj
         rw [hpq] at h2
         rw [hFC] at hc2
         obtain ⟨pl', he, hIn', hPg⟩ := h2
         obtain ⟨plc, hec, hInC, _⟩ := hc2
         have hgv : gapP T k (brP T k) p (j + 1) = .ok (⟨5, noTm, 0, [p], [p'], [pc]⟩, j') := by rw [HGAP.out, hpq, hFC]
         have hjj := gapP_takes hG.ends k (brP_takes hG.ends k) p _ _ _ hgv
         have hPgf := hPg.chg cf (fun x _ e => by subst e; omega)
         injection he with he
         injection he with he
         have e0 := congrArg (fun l : Array Value => l.toList) he
         injection hec with hec
         injection hec with hec
         have e1 := congrArg (fun l : Array Value => l.toList) hec
         have bm2' : Box9 wf m2 (p'.cells pl') := by rw [show p'.cells pl' = [.int .i64 k0, .int .i64 k1, .string s2, .int .i64 k3, .slice A4 l4 d4, .int .i64 k5, .slice A6 l6 d6, .slice A7 l7 d7, .slice A8 l8 d8] from e0.symm]; exact bm2f
         have of' : Box9 wf ob (pc.cells plc) := by rw [show pc.cells plc = [.int .i64 c0, .int .i64 c1, .string d2, .int .i64 c3, .slice D4 p4 r4, .int .i64 c5, .slice D6 p6 r6, .slice D7 p7 r7, .slice D8 p8 r8] from e1.symm]; exact of
         have hj := pg_joinC (by omega : g < w0.heap.size) (by omega) (by omega) HB.out.2 cA hC6 hInC cC HQ.out.1 hIn' cf ⟨by omega, by omega⟩ ⟨by omega, by omega⟩ ⟨by omega, by omega⟩ bm1f bm2' of'
         exact ⟨.inl ⟨n, _, _, j', by omega, hjj.2, by rw [← HFQ.out, hgv], hPgf, hj, b6⟩, by rw [hPgf.m0]; omega⟩
      have HFN := Lib.hid hfin
      have HRF := Lib.hid (And.intro hrf (And.intro hCf (by omega : w2.heap.size ≤ wf.heap.size)))
      rw [HW7.out.2] at t12
      obtain ⟨g0, g1, g2, g3, g4, g5, g6, g7, g8⟩ := t12.get
      obtain ⟨n0, n1, n2, n3, n4, n5, n6, n7, n8⟩ := b12.get
      obtain ⟨z0, z1, z2, z3, z4, z5, z6, z7, z8⟩ := b12.fzs
      have hpb12 : pb < w12.heap.size := b12.lt
      have HWF := Lib.hid (And.intro hwf (And.intro hw13 hob))
      clear hfin hwf hw13 hob hw12 c12 b12 c14 cf b6 of bm1f bm2f cA cC c0f hz13 hx13 hb11 hm1 hm1' hm2 hm2' bm1 bm2 hx11 hCf hrf H11 HB10 HB3 HT10 HT9 K2 KQ HQ HQC x0 x1 x2 x3 x4 x5 x6 x7 x8 v0 v1 v2 v3 v4 v5 v6 v7 v8 hrr t12
      go_upto_region 11 with (fail)
      rw [← HWF.out.2.2, ← HWF.out.2.1, ← HWF.out.1]
      go_roundw
      case rel => exact ⟨HRF.out.1, HRF.out.2.1, HRF.out.2.2, Lib.hid HFN.out.1⟩
      case measure => rw [HM.out]; exact HFN.out.2
    ·
     have hgap : gapP T k (brP T k) p (j + 1) = match part (j + 1) with | .error e => .error e | .ok (q, m) => .ok (⟨2, noTm, 0, [p], [q], []⟩, m) := by unfold gapP; rw [if_neg h12, HPD.out]; cases oneP T k (brP T k) (j + 1) <;> rfl
     have HGAP := Lib.hid hgap
     have KT := Lib.hid (take_pno hG 8 (by omega) ⟨#[92, 43]⟩ (by decide) hPgt h12)
     have HPT := Lib.hid hPgt
     clear hPgt hgap
     go_wp2_with fail
     refine KT.out.mono ?_
     rintro e w3 ⟨rfl, hx3⟩
     have hPg3 := HPT.out.ext hx3
     have hC3 : Chg (· = g) wr w3 := hCt.trans (Chg.of_ext hx3)
     have hxd : Ext w3 w3.drew := (Ext.refl _).drew
     have hs3 := hC3.size
     have KQ := Lib.hid (hP w3.drew g A c (j + 1) a (hPg3.ext hxd))
     have hb3 := HB.out.1.chg hC3 (by omega)
     have hb3d := hb3.ext hxd
     obtain ⟨x0, x1, x2, x3, x4, x5, x6, x7, x8⟩ := hb3d.get
     have HB3 := Lib.hid hb3d
     have hpl3 : pb < w3.heap.size := hb3.lt
     clear KT hPg3 hb3 hb3d hxd
     go_upto_region 4 with (fail)
     go_region_with (first
      | ((with_reducible refine KQ.out.mono ?_); rintro e w4 hout; have HQ := Lib.hid hout; obtain ⟨us, hus, rfl⟩ := hout.val; have hb4 := HB3.out.chg hout.1 (by omega); obtain ⟨v0, v1, v2, v3, v4, v5, v6, v7, v8⟩ := hb4.get; have HB4 := Lib.hid hb4; have hus' := Lib.hid hus; obtain ⟨k0, k1, s2, k3, A4, l4, d4, k5, A6, l6, d6, A7, l7, d7, A8, l8, d8, rfl⟩ := hus; have K2 := Lib.hid (two_pg 2 (p.cells pl) _ sh_intro hus'.out w4); clear hb4 hout)
      | ((with_reducible refine K2.out.mono ?_); rintro e w5 ⟨m1, m2, hm1, hm1', hm2, hm2', bm1, bm2, hx5, rfl⟩; have hb5 := HB4.out.ext hx5; obtain ⟨g0, g1, g2, g3, g4, g5, g6, g7, g8⟩ := hb5.get; obtain ⟨z0, z1, z2, z3, z4, z5, z6, z7, z8⟩ := hb5.fzs; have H5 := Lib.hid (And.intro hb5 (And.intro hm1 (And.intro hm1' (And.intro hm2 (And.intro hm2' (And.intro bm1 (And.intro bm2 hx5))))))); clear hb5 hm1 hm1' hm2 hm2' bm1 bm2 hx5))
     all_goals
      obtain ⟨wf, hwf⟩ : ∃ wf, wf = w5.setCells pb 0 [.int .i64 2, .int .i64 0, .string ⟨#[]⟩, .int .i64 0, .slice none 0 0, .int .i64 0, .slice (some ⟨m1, 0, none⟩) 1 1, .slice (some ⟨m2, 0, none⟩) 1 1, .slice none 0 0] := ⟨_, rfl⟩
      have c6 : Chg (· = pb) w5 wf := by rw [hwf]; exact setCells_chg w5 pb _ 0 w5 (Chg.refl _ _)
      have b6 : Box9 wf pb [.int .i64 2, .int .i64 0, .string ⟨#[]⟩, .int .i64 0, .slice none 0 0, .int .i64 0, .slice (some ⟨m1, 0, none⟩) 1 1, .slice (some ⟨m2, 0, none⟩) 1 1, .slice none 0 0] := by rw [hwf]; exact H5.out.1.set _ rfl
      rw [show ((((((((w5.setCell ⟨pb, 0, none⟩ (.int .i64 2)).setCell ⟨pb, 1, none⟩ (.int .i64 0)).setCell ⟨pb, 2, none⟩ (.string ⟨#[]⟩)).setCell ⟨pb, 3, none⟩ (.int .i64 0)).setCell ⟨pb, 4, none⟩ (.slice none 0 0)).setCell ⟨pb, 5, none⟩ (.int .i64 0)).setCell ⟨pb, 6, none⟩ (.slice (some ⟨m1, 0, none⟩) 1 1)).setCell ⟨pb, 7, none⟩ (.slice (some ⟨m2, 0, none⟩) 1 1)).setCell ⟨pb, 8, none⟩ (.slice none 0 0) = wf from hwf.symm]
      obtain ⟨hb5, hm1, hm1', hm2, hm2', bm1, bm2, hx5⟩ := H5.out
      have c34 : Chg (· = g) wr w4 := (hC3.trans (Chg.of_ext (Ext.refl _).drew)).trans HQ.out.1
      have s34 := c34.size
      have s45 := hx5.size
      have s56 := c6.size
      have hCf : Chg (· = g) w wf := chg_new ((hCr.trans c34).trans (Chg.of_ext hx5)) (c6.weak fun _ e => .inr e) (by omega)
      have hrf := ((hrr.chg c34 (by omega)).ext hx5).chg c6 (by omega)
      have hfin : LpR w0 g A c pb T a b (rowL T k (brP T k)) F wf ∧ pgM T.length wf g < T.length + 1 - j := by
       obtain ⟨_, h2⟩ := HQ.out
       match hpq : part (j + 1) with
       | .error (q, x) =>
        rw [hpq] at h2
        obtain ⟨hx, _, i', d', hPg⟩ := h2
        have hPgf := (hPg.ext hx5).chg c6 (fun x _ e => by subst e; omega)
        exact ⟨.inr ⟨i', q, x, d', _, hx, by rw [← HFQ.out, HGAP.out, hpq], hPgf, sh_intro, b6⟩, by rw [hPgf.m1 _ hx]; omega⟩
       | .ok (p', j') =>
        rw [hpq] at h2
        obtain ⟨pl', he, hIn', hPg⟩ := h2
        have hjj := hpt _ _ _ hpq
        have hPgf := (hPg.ext hx5).chg c6 (fun x _ e => by subst e; omega)
        injection he with he
        injection he with he
        have e0 := congrArg (fun l : Array Value => l.toList) he
        have bm2' : Box9 w5 m2 (p'.cells pl') := by rw [show p'.cells pl' = [.int .i64 k0, .int .i64 k1, .string s2, .int .i64 k3, .slice A4 l4 d4, .int .i64 k5, .slice A6 l6 d6, .slice A7 l7 d7, .slice A8 l8 d8] from e0.symm]; exact bm2
        have hj := pg_join (kind := 2) (rel := 0) (by decide) (by decide) (by omega : g < w0.heap.size) (by omega) (by omega) HB.out.2 c34 (hIn'.back hs3) hx5 ⟨hm1, hm1'⟩ ⟨hm2, hm2'⟩ bm1 bm2' c6
        exact ⟨.inl ⟨n, _, _, j', by omega, hjj.2, by rw [← HFQ.out, HGAP.out, hpq], hPgf, hj, b6⟩, by rw [hPgf.m0]; omega⟩
      have HFN := Lib.hid hfin
      have HRF := Lib.hid (And.intro hrf hCf)
      clear hfin hwf c6 b6 hb5 hm1 hm1' hm2 hm2' bm1 bm2 hx5 c34 hCf hrf H5 HB4 HB3 K2 KQ HQ x0 x1 x2 x3 x4 x5 x6 x7 x8 v0 v1 v2 v3 v4 v5 v6 v7 v8 g0 g1 g2 g3 g4 g5 g6 g7 g8 z0 z1 z2 z3 z4 z5 z6 z7 z8 hrr
      go_wp2_with fail
      go_roundw
      case rel => exact ⟨HRF.out.1, HRF.out.2, by omega, Lib.hid HFN.out.1⟩
      case measure => rw [HM.out]; exact HFN.out.2
   ·
    rw [if_neg hjs] at hFq
    have KT := Lib.hid (take_pno hG 4 (by omega) ⟨#[59]⟩ (by decide) hPg hjs)
    have HFQ := Lib.hid hFq
    have HB := Lib.hid (And.intro hbr (And.intro hIn hPg))
    clear hPg hFq hbr hIn
    go_wp2_with fail
    refine KT.out.mono ?_
    rintro e w3 ⟨rfl, hx3⟩
    obtain ⟨x0, x1, x2, x3, x4, x5, x6, x7, x8⟩ := (HB.out.1.ext hx3).get
    obtain ⟨y0, y1, y2, y3, y4, y5, y6, y7, y8⟩ := (hrr.ext hx3).get
    obtain ⟨z0, z1, z2, z3, z4, z5, z6, z7, z8⟩ := (hrr.ext hx3).fzs
    have hC3 := hCr.trans (Chg.of_ext hx3)
    have HX3 := Lib.hid hx3
    clear hrr KT hx3
    go_wp2_with fail
    refine bodyPost_ret (v := p.val pl) (by simp [results, Tryz.results106, go_sem, *]) rfl ?_
    rw [← HFQ.out]
    exact pp_fin_ok hC3 hw0l (HB.out.2.2.ext HX3.out) hgl hlo (HB.out.2.1.keep fun x hx _ => ⟨HX3.out.block x hx.1.2, hx.1.1, by have := hx.1.2; have := HX3.out.size; omega⟩) (vs := p.cells pl) rfl rfl
  ·
   have KT := Lib.hid (take_per ⟨#[59]⟩ hPg hx)
   obtain ⟨k0, k1, s2, k3, A4, l4, d4, k5, A6, l6, d6, A7, l7, d7, A8, l8, d8, rfl⟩ := hsh
   have HB := Lib.hid (And.intro hbr (And.intro hPg (And.intro hx hFe)))
   clear hPg hbr hx hFe HX
   go_wp2_with fail
   refine KT.out.mono ?_
   rintro e w3 ⟨rfl, hx3⟩
   obtain ⟨x0, x1, x2, x3, x4, x5, x6, x7, x8⟩ := (HB.out.1.ext hx3).get
   obtain ⟨y0, y1, y2, y3, y4, y5, y6, y7, y8⟩ := (hrr.ext hx3).get
   obtain ⟨z0, z1, z2, z3, z4, z5, z6, z7, z8⟩ := (hrr.ext hx3).fzs
   have hC3 := hCr.trans (Chg.of_ext hx3)
   have HX3 := Lib.hid hx3
   clear hrr KT hx3
   go_wp2_with fail
   refine bodyPost_ret (v := .agg #[.int .i64 k0, .int .i64 k1, .string s2, .int .i64 k3, .slice A4 l4 d4, .int .i64 k5, .slice A6 l6 d6, .slice A7 l7 d7, .slice A8 l8 d8]) (by simp [results, Tryz.results106, go_sem, *]) rfl ?_
   rw [HB.out.2.2.2]
   exact pp_fin_err HB.out.2.2.1 hC3 (HB.out.2.1.ext HX3.out) hgl hlo (vs := [.int .i64 k0, .int .i64 k1, .string s2, .int .i64 k3, .slice A4 l4 d4, .int .i64 k5, .slice A6 l6 d6, .slice A7 l7 d7, .slice A8 l8 d8]) rfl sh_intro rfl
end Go.Proofs.YtbjghkmjnhmlfaaGreatDoor

/- The page's reader: patterns: all of them. -/
namespace Go.Proofs.YtbjghkmjnhmlfaaGreatDoor
open Go.RowKit

theorem pattern_er (T : List Tok) : PEr 37 T := pattern_per T (both_per T (pair_per T (row_per T (one_per T))))
theorem pats_step {T : List Tok} (hG : ToksG T) {k b : Nat} (hkb : k + b = 100) (hO : ∀ m, k = m + 1 → PPTo 37 T (b + 1) (patP T m)) : PPTo 37 T b (patP T k) := by
 have ht := brP_takes hG.ends k
 rw [patP_eq]
 exact pattern_pg hG b _ (both_pg hG b _ (pair_pg hG k b _ (row_pg hG k b hkb (one_pg hG k b hkb hO (pattern_er T)) hO (one_per T) (pattern_er T)) (rowP_takes hG.ends k ht)) (pairP_takes hG.ends k ht)) (chain_takes (pairP_takes hG.ends k ht))
theorem pats_pg {T : List Tok} (hG : ToksG T) : ∀ k b, k + b = 100 → PPTo 37 T b (patP T k) := by
 intro k
 induction k with
 | zero => intro b hkb; exact pats_step hG hkb fun m e => by omega
 | succ k ih =>
  intro b hkb
  refine pats_step hG hkb fun m e => ?_
  obtain rfl : m = k := by omega
  exact ih (b + 1) (by omega)
end Go.Proofs.YtbjghkmjnhmlfaaGreatDoor
