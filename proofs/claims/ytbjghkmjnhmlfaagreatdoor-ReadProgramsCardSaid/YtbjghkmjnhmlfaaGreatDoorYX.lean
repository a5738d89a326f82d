/- Joined: Phc, Phd, Phe. -/
import Derived.Test.YtbjghkmjnhmlfaaGreatDoorYW
import Derived.BigQuiet

/- The page's reader: patterns: both, pattern. -/
namespace Go.Proofs.YtbjghkmjnhmlfaaGreatDoor
open Go.RowKit

theorem pp_fin_ok {w wx w2 wf : World} {g A c : Nat} {T : List Tok} {j b : Nat} {a : Int} {p : Pt} {pl : PtPl} (hC : Chg (· = g) w w2) (hx : w.heap.size < wx.heap.size) (hR : PgAt w2 g A c T j 0 a b) (hg : g < w.heap.size) (hlo : A < w.heap.size)
  (hIn : PtIn w2 (New wx w2) p pl) {vs : List Value} (hwf : wf = w2.setCells w.heap.size 0 vs) {e : Ending} (he : e = .returned (p.val pl)) : PPOut w g A c T a b (.ok (p, j)) e wf := by
 subst hwf
 have hsz : (w2.setCells w.heap.size 0 vs).heap.size = w2.heap.size := setCells_size (w := w2) vs 0 w2 rfl
 have k := setCells_chg w2 w.heap.size vs 0 w2 (Chg.refl _ _)
 refine ⟨⟨k.os.trans hC.os, k.tape.trans hC.tape, k.output.trans hC.output, by rw [hsz]; exact hC.size, fun x hx' hf => ?_⟩, pl, he, hIn.keep fun x hx' _ => ⟨setCells_block (by have := hx'.1; omega) vs 0 w2, by have := hx'.1; omega, by rw [hsz]; exact hx'.2⟩, hR.keep fun x _ e => setCells_block (by rcases e with e | e <;> omega) vs 0 w2⟩
 rw [setCells_block (by omega)]
 exact hC.block x hx' hf
theorem pp_fin_err {w w2 wf : World} {g A c : Nat} {T : List Tok} {b i' : Nat} {a q x d' : Int} (hx : x ≠ 0) (hC : Chg (· = g) w w2) (hE : PgAt w2 g A c T i' x q d') (hg : g < w.heap.size) (hlo : A < w.heap.size) {vs cs : List Value} (hwf : wf = w2.setCells w.heap.size 0 vs) (hs : Sh9 cs)
  {e : Ending} (he : e = .returned (.agg cs.toArray)) : PPOut w g A c T a b (.error (q, x)) e wf := by
 subst hwf
 have hsz : (w2.setCells w.heap.size 0 vs).heap.size = w2.heap.size := setCells_size (w := w2) vs 0 w2 rfl
 have k := setCells_chg w2 w.heap.size vs 0 w2 (Chg.refl _ _)
 refine ⟨⟨k.os.trans hC.os, k.tape.trans hC.tape, k.output.trans hC.output, by rw [hsz]; exact hC.size, fun x hx' hf => ?_⟩, hx, ⟨cs, hs, he⟩, i', d', hE.keep fun x _ e => setCells_block (by rcases e with e | e <;> omega) vs 0 w2⟩
 rw [setCells_block (by omega)]
 exact hC.block x hx' hf
theorem pg_join {w0 wr w4 w5 wf : World} {g pb m n : Nat} {p p' : Pt} {pl pl' : PtPl} {kind rel : Int} (hk : (Lit.int .i64 kind).wf = true) (hr : (Lit.int .i64 rel).wf = true) (hg : g < w0.heap.size) (hpb : pb < wr.heap.size) (h0r : w0.heap.size ≤ wr.heap.size) (hIn : PtIn wr (fun b => New w0 wr b ∧ b ≠ pb) p pl)
  (c4 : Chg (· = g) wr w4) (hIn' : PtIn w4 (New wr w4) p' pl') (hx5 : Ext w4 w5) (hm : w4.heap.size ≤ m ∧ m < w5.heap.size) (hn : w4.heap.size ≤ n ∧ n < w5.heap.size) (bm : Box9 w5 m (p.cells pl)) (bn : Box9 w5 n (p'.cells pl')) (c6 : Chg (· = pb) w5 wf) :
  PtIn wf (fun b => New w0 wf b ∧ b ≠ pb) ⟨kind, noTm, rel, [p], [p'], []⟩ ⟨none, 0, some ⟨m, 0, none⟩, 1, some ⟨n, 0, none⟩, 1, none, 0⟩ := by
 have s4 := c4.size
 have s5 := hx5.size
 have s6 := c6.size
 have bm' := bm.chg c6 (by omega)
 have bn' := bn.chg c6 (by omega)
 refine .mk _ _ (fun _ => pl) (fun _ => pl') (fun _ => noPl) ⟨hk, hr, by simp, by simp, by simp⟩ ⟨by simp, by simp, by simp⟩ (noTm_in _ _ _)
  (prow_one ⟨⟨by omega, by omega⟩, by omega⟩ fun k hk => bm'.cell k (List.getElem?_eq_getElem _)) (prow_one ⟨⟨by omega, by omega⟩, by omega⟩ fun k hk => bn'.cell k (List.getElem?_eq_getElem _)) (fun i hi => absurd hi (by simp)) (fun i hi => ?_) (fun i hi => ?_) (fun i hi => absurd hi (by simp))
 ·
  obtain rfl : i = 0 := by simpa using hi
  exact hIn.keep fun x hx _ => by
   have h1 := hx.1.1
   have h2 := hx.1.2
   have h3 := hx.2
   exact ⟨by rw [c6.block x (by omega) h3, hx5.block x (by omega), c4.block x h2 (by omega)], ⟨h1, by omega⟩, h3⟩
 ·
  obtain rfl : i = 0 := by simpa using hi
  exact hIn'.keep fun x hx _ => by
   have h1 := hx.1
   have h2 := hx.2
   exact ⟨by rw [c6.block x (by omega) (by omega), hx5.block x h2], ⟨by omega, by omega⟩, by omega⟩
/-- the loop's state -/
def LpSt (w0 : World) (g A c pb : Nat) (T : List Tok) (a : Int) (b : Nat) (sign : Nat) (kind : Int) (part : Nat → Rs Pt) (F : Rs Pt) (wr : World) : Prop :=
 (∃ n p pl j, T.length ≤ n + j ∧ j < T.length ∧ chainP T sign kind part n p j = F ∧ PgAt wr g A c T j 0 a b ∧ PtIn wr (fun x => New w0 wr x ∧ x ≠ pb) p pl ∧ Box9 wr pb (p.cells pl)) ∨
 (∃ i' q x d' cs, x ≠ 0 ∧ F = .error (q, x) ∧ PgAt wr g A c T i' x q d' ∧ Sh9 cs ∧ Box9 wr pb cs)
set_option maxRecDepth 100000 in
set_option maxHeartbeats 8000000 in
theorem both_pg {T : List Tok} (hG : ToksG T) (b : Nat) (part : Nat → Rs Pt) (hP : PPTo 90 T b part) (hpt : Takes T part) : PPTo 64 T b (chain T 9 3 part) := by
 intro w g A c i a h
 have hgl := h.lt
 have hlo := h.low
 obtain ⟨w0, hw0⟩ : ∃ w0, w0 = w.alloc (.cells #[.int .i64 0, .int .i64 0, .string ⟨#[]⟩, .int .i64 0, .slice none 0 0, .int .i64 0, .slice none 0 0, .slice none 0 0, .slice none 0 0] 63) := ⟨_, rfl⟩
 have hr0 : Box9 w0 w.heap.size zero9 := by rw [hw0]; exact Box9.new w _ _ rfl
 have hx0 : Ext w w0 := by rw [hw0]; exact (Ext.refl _).alloc _
 have HW0 := Lib.hid hw0
 have KP := Lib.hid (hP w0 g A c i a (h.ext hx0))
 have hw0l : w.heap.size < w0.heap.size := hr0.lt
 obtain ⟨F, hF⟩ : ∃ F, F = chain T 9 3 part i := ⟨_, rfl⟩
 rw [← hF]
 have HF := Lib.hid hF.symm
 clear h hF hw0
 go_enter Tryz.func64, Tryz.ntmps64
 go_upto_region 1 with (fail)
 rw [← HW0.out]
 go_wp2_with fail
 refine KP.out.mono ?_
 rintro e w1 hout
 have hC1 := hout.1
 have hs1 := hC1.size
 have HO := Lib.hid hout
 obtain ⟨cs, hsh, rfl⟩ := hout.val
 have hshd := hsh
 obtain ⟨k0, k1, s2, k3, A4, l4, d4, k5, A6, l6, d6, A7, l7, d7, A8, l8, d8, rfl⟩ := hsh
 obtain ⟨w2, hw2⟩ : ∃ w2, w2 = w1.alloc (.cells #[.int .i64 k0, .int .i64 k1, .string s2, .int .i64 k3, .slice A4 l4 d4, .int .i64 k5, .slice A6 l6 d6, .slice A7 l7 d7, .slice A8 l8 d8] 63) := ⟨_, rfl⟩
 obtain ⟨pb, hpb⟩ : ∃ pb, pb = w1.heap.size := ⟨_, rfl⟩
 have hb2 : Box9 w2 pb [.int .i64 k0, .int .i64 k1, .string s2, .int .i64 k3, .slice A4 l4 d4, .int .i64 k5, .slice A6 l6 d6, .slice A7 l7 d7, .slice A8 l8 d8] := by rw [hw2, hpb]; exact Box9.new w1 _ _ rfl
 have hx2 : Ext w1 w2 := by rw [hw2]; exact (Ext.refl _).alloc _
 have HW2 := Lib.hid (And.intro hw2 hpb)
 have hr2 := (hr0.chg hC1 (by omega)).ext hx2
 have hC2 : Chg (· = g) w w2 := ((Chg.of_ext hx0).trans hC1).trans (Chg.of_ext hx2)
 have hpl2 : pb < w2.heap.size := hb2.lt
 have h0pb : w0.heap.size ≤ pb := by omega
 have hst : LpSt w0 g A c pb T a b 9 3 part F w2 := by
  obtain ⟨_, h2⟩ := HO.out
  match hpi : part i with
  | .error (q, x) =>
   rw [hpi] at h2
   obtain ⟨hx, _, i', d', hPg⟩ := h2
   exact .inr ⟨i', q, x, d', _, hx, by rw [← HF.out]; unfold chain; rw [hpi], hPg.ext hx2, hshd, hb2⟩
  | .ok (p, j) =>
   rw [hpi] at h2
   obtain ⟨pl, he, hIn, hPg⟩ := h2
   have hjj := hpt i p j hpi
   injection he with he
   injection he with he
   have e0 := congrArg (fun l : Array Value => l.toList) he
   refine .inl ⟨T.length - j, p, pl, j, by omega, hjj.2, by rw [← HF.out]; unfold chain; rw [hpi], hPg.ext hx2, hIn.keep fun x hx _ => ⟨hx2.block x hx.2, ⟨hx.1, by have := hx.2; have := hx2.size; omega⟩, by have := hx.2; omega⟩, ?_⟩
   rw [show p.cells pl = [.int .i64 k0, .int .i64 k1, .string s2, .int .i64 k3, .slice A4 l4 d4, .int .i64 k5, .slice A6 l6 d6, .slice A7 l7 d7, .slice A8 l8 d8] from e0.symm]
   exact hb2
 have HST := Lib.hid hst
 clear hx2 hw2 hC1 KP hr0 hx0 hb2 hpb hout HO hst hshd
 go_upto_region 2 with (fail)
 rw [← HW2.out.2, ← HW2.out.1]
 go_loopw [] (fun wr => Box9 wr w.heap.size zero9 ∧ Chg (· = g) w wr ∧ w2.heap.size ≤ wr.heap.size ∧ Hid (LpSt w0 g A c pb T a b 9 3 part F wr)) (fun wr => pgM T.length wr g)
 case atStart => exact ⟨hr2, hC2, Nat.le_refl _, HST⟩
 case round =>
  obtain ⟨hrr, hCr, hsr, HX⟩ := hrel
  clear HST hr2 hC2
  rcases HX.out with ⟨n, p, pl, j, hn, hj, hFq, hPg, hIn, hbr⟩ | ⟨i', q, x, d', cs, hx, hFe, hPg, hsh, hbr⟩
  ·
   clear HX
   obtain ⟨n, rfl⟩ : ∃ k, n = k + 1 := ⟨n - 1, by omega⟩
   have HM := Lib.hid (hPg.m0 T.length)
   rw [chainP] at hFq
   by_cases hjs : rl T j = 9
   ·
    rw [if_pos hjs] at hFq
    have KT := Lib.hid (take_pyes hG 5 (by omega) ⟨#[38]⟩ (by decide) hPg hjs)
    have HFQ := Lib.hid hFq
    have HB := Lib.hid (And.intro hbr hIn)
    clear hPg hFq hbr hIn
    go_wp2_with fail
    refine KT.out.mono ?_
    rintro e w3 ⟨rfl, hPg3, hC3⟩
    have hxd : Ext w3 w3.drew := (Ext.refl _).drew
    have hs3 := hC3.size
    have KQ := Lib.hid (hP w3.drew g A c (j + 1) a (hPg3.ext hxd))
    have hb3 := HB.out.1.chg hC3 (by omega)
    have hb3d := hb3.ext hxd
    obtain ⟨x0, x1, x2, x3, x4, x5, x6, x7, x8⟩ := hb3d.get
    have HB3 := Lib.hid hb3d
    have hpl3 : pb < w3.heap.size := hb3.lt
    clear KT hPg3 hb3 hb3d hxd
    go_upto_region 3 with (fail)
    go_region_with (first
     | ((with_reducible refine KQ.out.mono ?_); rintro e w4 hout; have HQ := Lib.hid hout; obtain ⟨us, hus, rfl⟩ := hout.val; have hb4 := HB3.out.chg hout.1 (by omega); obtain ⟨v0, v1, v2, v3, v4, v5, v6, v7, v8⟩ := hb4.get; have HB4 := Lib.hid hb4; have hus' := Lib.hid hus; obtain ⟨k0, k1, s2, k3, A4, l4, d4, k5, A6, l6, d6, A7, l7, d7, A8, l8, d8, rfl⟩ := hus; have K2 := Lib.hid (two_pg 3 (p.cells pl) _ sh_intro hus'.out w4); clear hb4 hout)
     | ((with_reducible refine K2.out.mono ?_); rintro e w5 ⟨m1, m2, hm1, hm1', hm2, hm2', bm1, bm2, hx5, rfl⟩; have hb5 := HB4.out.ext hx5; obtain ⟨g0, g1, g2, g3, g4, g5, g6, g7, g8⟩ := hb5.get; obtain ⟨z0, z1, z2, z3, z4, z5, z6, z7, z8⟩ := hb5.fzs; have H5 := Lib.hid (And.intro hb5 (And.intro hm1 (And.intro hm1' (And.intro hm2 (And.intro hm2' (And.intro bm1 (And.intro bm2 hx5))))))); clear hb5 hm1 hm1' hm2 hm2' bm1 bm2 hx5))
    all_goals
     obtain ⟨wf, hwf⟩ : ∃ wf, wf = w5.setCells pb 0 [.int .i64 3, .int .i64 0, .string ⟨#[]⟩, .int .i64 0, .slice none 0 0, .int .i64 0, .slice (some ⟨m1, 0, none⟩) 1 1, .slice (some ⟨m2, 0, none⟩) 1 1, .slice none 0 0] := ⟨_, rfl⟩
     have c6 : Chg (· = pb) w5 wf := by rw [hwf]; exact setCells_chg w5 pb _ 0 w5 (Chg.refl _ _)
     have b6 : Box9 wf pb [.int .i64 3, .int .i64 0, .string ⟨#[]⟩, .int .i64 0, .slice none 0 0, .int .i64 0, .slice (some ⟨m1, 0, none⟩) 1 1, .slice (some ⟨m2, 0, none⟩) 1 1, .slice none 0 0] := by rw [hwf]; exact H5.out.1.set _ rfl
     rw [show ((((((((w5.setCell ⟨pb, 0, none⟩ (.int .i64 3)).setCell ⟨pb, 1, none⟩ (.int .i64 0)).setCell ⟨pb, 2, none⟩ (.string ⟨#[]⟩)).setCell ⟨pb, 3, none⟩ (.int .i64 0)).setCell ⟨pb, 4, none⟩ (.slice none 0 0)).setCell ⟨pb, 5, none⟩ (.int .i64 0)).setCell ⟨pb, 6, none⟩ (.slice (some ⟨m1, 0, none⟩) 1 1)).setCell ⟨pb, 7, none⟩ (.slice (some ⟨m2, 0, none⟩) 1 1)).setCell ⟨pb, 8, none⟩ (.slice none 0 0) = wf from hwf.symm]
     obtain ⟨hb5, hm1, hm1', hm2, hm2', bm1, bm2, hx5⟩ := H5.out
     have c34 : Chg (· = g) wr w4 := (hC3.trans (Chg.of_ext (Ext.refl _).drew)).trans HQ.out.1
     have s34 := c34.size
     have s45 := hx5.size
     have s56 := c6.size
     have hCf : Chg (· = g) w wf := chg_new ((hCr.trans c34).trans (Chg.of_ext hx5)) (c6.weak fun _ e => .inr e) (by omega)
     have hrf := ((hrr.chg c34 (by omega)).ext hx5).chg c6 (by omega)
     have hfin : LpSt w0 g A c pb T a b 9 3 part F wf ∧ pgM T.length wf g < T.length + 1 - j := by
      obtain ⟨_, h2⟩ := HQ.out
      match hpq : part (j + 1) with
      | .error (q, x) =>
       rw [hpq] at h2
       obtain ⟨hx, _, i', d', hPg⟩ := h2
       have hPgf := (hPg.ext hx5).chg c6 (fun x _ e => by subst e; omega)
       exact ⟨.inr ⟨i', q, x, d', _, hx, by rw [← HFQ.out, hpq], hPgf, sh_intro, b6⟩, by rw [hPgf.m1 _ hx]; omega⟩
      | .ok (p', j') =>
       rw [hpq] at h2
       obtain ⟨pl', he, hIn', hPg⟩ := h2
       have hjj := hpt _ _ _ hpq
       have hPgf := (hPg.ext hx5).chg c6 (fun x _ e => by subst e; omega)
       injection he with he
       injection he with he
       have e0 := congrArg (fun l : Array Value => l.toList) he
       have bm2' : Box9 w5 m2 (p'.cells pl') := by rw [show p'.cells pl' = [.int .i64 k0, .int .i64 k1, .string s2, .int .i64 k3, .slice A4 l4 d4, .int .i64 k5, .slice A6 l6 d6, .slice A7 l7 d7, .slice A8 l8 d8] from e0.symm]; exact bm2
       have hj := pg_join (kind := 3) (rel := 0) (by decide) (by decide) (by omega : g < w0.heap.size) (by omega) (by omega) HB.out.2 c34 (hIn'.back hs3) hx5 ⟨hm1, hm1'⟩ ⟨hm2, hm2'⟩ bm1 bm2' c6
       exact ⟨.inl ⟨n, _, _, j', by omega, hjj.2, by rw [← HFQ.out, hpq], hPgf, hj, b6⟩, by rw [hPgf.m0]; omega⟩
     have HFN := Lib.hid hfin
     have HRF := Lib.hid (And.intro hrf hCf)
     clear hfin hwf c6 b6 hb5 hm1 hm1' hm2 hm2' bm1 bm2 hx5 c34 hCf hrf H5 HB4 HB3 K2 KQ HQ x0 x1 x2 x3 x4 x5 x6 x7 x8 v0 v1 v2 v3 v4 v5 v6 v7 v8 g0 g1 g2 g3 g4 g5 g6 g7 g8 z0 z1 z2 z3 z4 z5 z6 z7 z8 hrr
     go_wp2_with fail
     go_roundw
     case rel => exact ⟨HRF.out.1, HRF.out.2, by omega, Lib.hid HFN.out.1⟩
     case measure => rw [HM.out]; exact HFN.out.2
   ·
    rw [if_neg hjs] at hFq
    have KT := Lib.hid (take_pno hG 5 (by omega) ⟨#[38]⟩ (by decide) hPg hjs)
    have HFQ := Lib.hid hFq
    have HB := Lib.hid (And.intro hbr (And.intro hIn hPg))
    clear hPg hFq hbr hIn
    go_wp2_with fail
    refine KT.out.mono ?_
    rintro e w3 ⟨rfl, hx3⟩
    obtain ⟨x0, x1, x2, x3, x4, x5, x6, x7, x8⟩ := (HB.out.1.ext hx3).get
    obtain ⟨y0, y1, y2, y3, y4, y5, y6, y7, y8⟩ := (hrr.ext hx3).get
    obtain ⟨z0, z1, z2, z3, z4, z5, z6, z7, z8⟩ := (hrr.ext hx3).fzs
    have hC3 := hCr.trans (Chg.of_ext hx3)
    have HX3 := Lib.hid hx3
    clear hrr KT hx3
    go_wp2_with fail
    refine bodyPost_ret (v := p.val pl) (by simp [results, Tryz.results64, go_sem, *]) rfl ?_
    rw [← HFQ.out]
    exact pp_fin_ok hC3 hw0l (HB.out.2.2.ext HX3.out) hgl hlo (HB.out.2.1.keep fun x hx _ => ⟨HX3.out.block x hx.1.2, hx.1.1, by have := hx.1.2; have := HX3.out.size; omega⟩) (vs := p.cells pl) rfl rfl
  ·
   have KT := Lib.hid (take_per ⟨#[38]⟩ hPg hx)
   obtain ⟨k0, k1, s2, k3, A4, l4, d4, k5, A6, l6, d6, A7, l7, d7, A8, l8, d8, rfl⟩ := hsh
   have HB := Lib.hid (And.intro hbr (And.intro hPg (And.intro hx hFe)))
   clear hPg hbr hx hFe HX
   go_wp2_with fail
   refine KT.out.mono ?_
   rintro e w3 ⟨rfl, hx3⟩
   obtain ⟨x0, x1, x2, x3, x4, x5, x6, x7, x8⟩ := (HB.out.1.ext hx3).get
   obtain ⟨y0, y1, y2, y3, y4, y5, y6, y7, y8⟩ := (hrr.ext hx3).get
   obtain ⟨z0, z1, z2, z3, z4, z5, z6, z7, z8⟩ := (hrr.ext hx3).fzs
   have hC3 := hCr.trans (Chg.of_ext hx3)
   have HX3 := Lib.hid hx3
   clear hrr KT hx3
   go_wp2_with fail
   refine bodyPost_ret (v := .agg #[.int .i64 k0, .int .i64 k1, .string s2, .int .i64 k3, .slice A4 l4 d4, .int .i64 k5, .slice A6 l6 d6, .slice A7 l7 d7, .slice A8 l8 d8]) (by simp [results, Tryz.results64, go_sem, *]) rfl ?_
   rw [HB.out.2.2.2]
   exact pp_fin_err HB.out.2.2.1 hC3 (HB.out.2.1.ext HX3.out) hgl hlo (vs := [.int .i64 k0, .int .i64 k1, .string s2, .int .i64 k3, .slice A4 l4 d4, .int .i64 k5, .slice A6 l6 d6, .slice A7 l7 d7, .slice A8 l8 d8]) rfl sh_intro rfl
set_option maxRecDepth 100000 in
set_option maxHeartbeats 8000000 in
theorem pattern_pg {T : List Tok} (hG : ToksG T) (b : Nat) (part : Nat → Rs Pt) (hP : PPTo 64 T b part) (hpt : Takes T part) : PPTo 37 T b (chain T 10 4 part) := by
 intro w g A c i a h
 have hgl := h.lt
 have hlo := h.low
 obtain ⟨w0, hw0⟩ : ∃ w0, w0 = w.alloc (.cells #[.int .i64 0, .int .i64 0, .string ⟨#[]⟩, .int .i64 0, .slice none 0 0, .int .i64 0, .slice none 0 0, .slice none 0 0, .slice none 0 0] 63) := ⟨_, rfl⟩
 have hr0 : Box9 w0 w.heap.size zero9 := by rw [hw0]; exact Box9.new w _ _ rfl
 have hx0 : Ext w w0 := by rw [hw0]; exact (Ext.refl _).alloc _
 have HW0 := Lib.hid hw0
 have KP := Lib.hid (hP w0 g A c i a (h.ext hx0))
 have hw0l : w.heap.size < w0.heap.size := hr0.lt
 obtain ⟨F, hF⟩ : ∃ F, F = chain T 10 4 part i := ⟨_, rfl⟩
 rw [← hF]
 have HF := Lib.hid hF.symm
 clear h hF hw0
 go_enter Tryz.func37, Tryz.ntmps37
 go_upto_region 1 with (fail)
 rw [← HW0.out]
 go_wp2_with fail
 refine KP.out.mono ?_
 rintro e w1 hout
 have hC1 := hout.1
 have hs1 := hC1.size
 have HO := Lib.hid hout
 obtain ⟨cs, hsh, rfl⟩ := hout.val
 have hshd := hsh
 obtain ⟨k0, k1, s2, k3, A4, l4, d4, k5, A6, l6, d6, A7, l7, d7, A8, l8, d8, rfl⟩ := hsh
 obtain ⟨w2, hw2⟩ : ∃ w2, w2 = w1.alloc (.cells #[.int .i64 k0, .int .i64 k1, .string s2, .int .i64 k3, .slice A4 l4 d4, .int .i64 k5, .slice A6 l6 d6, .slice A7 l7 d7, .slice A8 l8 d8] 63) := ⟨_, rfl⟩
 obtain ⟨pb, hpb⟩ : ∃ pb, pb = w1.heap.size := ⟨_, rfl⟩
 have hb2 : Box9 w2 pb [.int .i64 k0, .int .i64 k1, .string s2, .int .i64 k3, .slice A4 l4 d4, .int .i64 k5, .slice A6 l6 d6, .slice A7 l7 d7, .slice A8 l8 d8] := by rw [hw2, hpb]; exact Box9.new w1 _ _ rfl
 have hx2 : Ext w1 w2 := by rw [hw2]; exact (Ext.refl _).alloc _
 have HW2 := Lib.hid (And.intro hw2 hpb)
 have hr2 := (hr0.chg hC1 (by omega)).ext hx2
 have hC2 : Chg (· = g) w w2 := ((Chg.of_ext hx0).trans hC1).trans (Chg.of_ext hx2)
 have hpl2 : pb < w2.heap.size := hb2.lt
 have h0pb : w0.heap.size ≤ pb := by omega
 have hst : LpSt w0 g A c pb T a b 10 4 part F w2 := by
  obtain ⟨_, h2⟩ := HO.out
  match hpi : part i with
  | .error (q, x) =>
   rw [hpi] at h2
   obtain ⟨hx, _, i', d', hPg⟩ := h2
   exact .inr ⟨i', q, x, d', _, hx, by rw [← HF.out]; unfold chain; rw [hpi], hPg.ext hx2, hshd, hb2⟩
  | .ok (p, j) =>
   rw [hpi] at h2
   obtain ⟨pl, he, hIn, hPg⟩ := h2
   have hjj := hpt i p j hpi
   injection he with he
   injection he with he
   have e0 := congrArg (fun l : Array Value => l.toList) he
   refine .inl ⟨T.length - j, p, pl, j, by omega, hjj.2, by rw [← HF.out]; unfold chain; rw [hpi], hPg.ext hx2, hIn.keep fun x hx _ => ⟨hx2.block x hx.2, ⟨hx.1, by have := hx.2; have := hx2.size; omega⟩, by have := hx.2; omega⟩, ?_⟩
   rw [show p.cells pl = [.int .i64 k0, .int .i64 k1, .string s2, .int .i64 k3, .slice A4 l4 d4, .int .i64 k5, .slice A6 l6 d6, .slice A7 l7 d7, .slice A8 l8 d8] from e0.symm]
   exact hb2
 have HST := Lib.hid hst
 clear hx2 hw2 hC1 KP hr0 hx0 hb2 hpb hout HO hst hshd
 go_upto_region 2 with (fail)
 rw [← HW2.out.2, ← HW2.out.1]
 go_loopw [] (fun wr => Box9 wr w.heap.size zero9 ∧ Chg (· = g) w wr ∧ w2.heap.size ≤ wr.heap.size ∧ Hid (LpSt w0 g A c pb T a b 10 4 part F wr)) (fun wr => pgM T.length wr g)
 case atStart => exact ⟨hr2, hC2, Nat.le_refl _, HST⟩
 case round =>
  obtain ⟨hrr, hCr, hsr, HX⟩ := hrel
  clear HST hr2 hC2
  rcases HX.out with ⟨n, p, pl, j, hn, hj, hFq, hPg, hIn, hbr⟩ | ⟨i', q, x, d', cs, hx, hFe, hPg, hsh, hbr⟩
  ·
   clear HX
   obtain ⟨n, rfl⟩ : ∃ k, n = k + 1 := ⟨n - 1, by omega⟩
   have HM := Lib.hid (hPg.m0 T.length)
   rw [chainP] at hFq
   by_cases hjs : rl T j = 10
   ·
    rw [if_pos hjs] at hFq
    have KT := Lib.hid (take_pyes hG 6 (by omega) ⟨#[124]⟩ (by decide) hPg hjs)
    have HFQ := Lib.hid hFq
    have HB := Lib.hid (And.intro hbr hIn)
    clear hPg hFq hbr hIn
    go_wp2_with fail
    refine KT.out.mono ?_
    rintro e w3 ⟨rfl, hPg3, hC3⟩
    have hxd : Ext w3 w3.drew := (Ext.refl _).drew
    have hs3 := hC3.size
    have KQ := Lib.hid (hP w3.drew g A c (j + 1) a (hPg3.ext hxd))
    have hb3 := HB.out.1.chg hC3 (by omega)
    have hb3d := hb3.ext hxd
    obtain ⟨x0, x1, x2, x3, x4, x5, x6, x7, x8⟩ := hb3d.get
    have HB3 := Lib.hid hb3d
    have hpl3 : pb < w3.heap.size := hb3.lt
    clear KT hPg3 hb3 hb3d hxd
    go_upto_region 3 with (fail)
    go_region_with (first
     | ((with_reducible refine KQ.out.mono ?_); rintro e w4 hout; have HQ := Lib.hid hout; obtain ⟨us, hus, rfl⟩ := hout.val; have hb4 := HB3.out.chg hout.1 (by omega); obtain ⟨v0, v1, v2, v3, v4, v5, v6, v7, v8⟩ := hb4.get; have HB4 := Lib.hid hb4; have hus' := Lib.hid hus; obtain ⟨k0, k1, s2, k3, A4, l4, d4, k5, A6, l6, d6, A7, l7, d7, A8, l8, d8, rfl⟩ := hus; have K2 := Lib.hid (two_pg 4 (p.cells pl) _ sh_intro hus'.out w4); clear hb4 hout)
     | ((with_reducible refine K2.out.mono ?_); rintro e w5 ⟨m1, m2, hm1, hm1', hm2, hm2', bm1, bm2, hx5, rfl⟩; have hb5 := HB4.out.ext hx5; obtain ⟨g0, g1, g2, g3, g4, g5, g6, g7, g8⟩ := hb5.get; obtain ⟨z0, z1, z2, z3, z4, z5, z6, z7, z8⟩ := hb5.fzs; have H5 := Lib.hid (And.intro hb5 (And.intro hm1 (And.intro hm1' (And.intro hm2 (And.intro hm2' (And.intro bm1 (And.intro bm2 hx5))))))); clear hb5 hm1 hm1' hm2 hm2' bm1 bm2 hx5))
    all_goals
     obtain ⟨wf, hwf⟩ : ∃ wf, wf = w5.setCells pb 0 [.int .i64 4, .int .i64 0, .string ⟨#[]⟩, .int .i64 0, .slice none 0 0, .int .i64 0, .slice (some ⟨m1, 0, none⟩) 1 1, .slice (some ⟨m2, 0, none⟩) 1 1, .slice none 0 0] := ⟨_, rfl⟩
     have c6 : Chg (· = pb) w5 wf := by rw [hwf]; exact setCells_chg w5 pb _ 0 w5 (Chg.refl _ _)
     have b6 : Box9 wf pb [.int .i64 4, .int .i64 0, .string ⟨#[]⟩, .int .i64 0, .slice none 0 0, .int .i64 0, .slice (some ⟨m1, 0, none⟩) 1 1, .slice (some ⟨m2, 0, none⟩) 1 1, .slice none 0 0] := by rw [hwf]; exact H5.out.1.set _ rfl
     rw [show ((((((((w5.setCell ⟨pb, 0, none⟩ (.int .i64 4)).setCell ⟨pb, 1, none⟩ (.int .i64 0)).setCell ⟨pb, 2, none⟩ (.string ⟨#[]⟩)).setCell ⟨pb, 3, none⟩ (.int .i64 0)).setCell ⟨pb, 4, none⟩ (.slice none 0 0)).setCell ⟨pb, 5, none⟩ (.int .i64 0)).setCell ⟨pb, 6, none⟩ (.slice (some ⟨m1, 0, none⟩) 1 1)).setCell ⟨pb, 7, none⟩ (.slice (some ⟨m2, 0, none⟩) 1 1)).setCell ⟨pb, 8, none⟩ (.slice none 0 0) = wf from hwf.symm]
     obtain ⟨hb5, hm1, hm1', hm2, hm2', bm1, bm2, hx5⟩ := H5.out
     have c34 : Chg (· = g) wr w4 := (hC3.trans (Chg.of_ext (Ext.refl _).drew)).trans HQ.out.1
     have s34 := c34.size
     have s45 := hx5.size
     have s56 := c6.size
     have hCf : Chg (· = g) w wf := chg_new ((hCr.trans c34).trans (Chg.of_ext hx5)) (c6.weak fun _ e => .inr e) (by omega)
     have hrf := ((hrr.chg c34 (by omega)).ext hx5).chg c6 (by omega)
     have hfin : LpSt w0 g A c pb T a b 10 4 part F wf ∧ pgM T.length wf g < T.length + 1 - j := by
      obtain ⟨_, h2⟩ := HQ.out
      match hpq : part (j + 1) with
      | .error (q, x) =>
       rw [hpq] at h2
       obtain ⟨hx, _, i', d', hPg⟩ := h2
       have hPgf := (hPg.ext hx5).chg c6 (fun x _ e => by subst e; omega)
       exact ⟨.inr ⟨i', q, x, d', _, hx, by rw [← HFQ.out, hpq], hPgf, sh_intro, b6⟩, by rw [hPgf.m1 _ hx]; omega⟩
      | .ok (p', j') =>
       rw [hpq] at h2
       obtain ⟨pl', he, hIn', hPg⟩ := h2
       have hjj := hpt _ _ _ hpq
       have hPgf := (hPg.ext hx5).chg c6 (fun x _ e => by subst e; omega)
       injection he with he
       injection he with he
       have e0 := congrArg (fun l : Array Value => l.toList) he
       have bm2' : Box9 w5 m2 (p'.cells pl') := by rw [show p'.cells pl' = [.int .i64 k0, .int .i64 k1, .string s2, .int .i64 k3, .slice A4 l4 d4, .int .i64 k5, .slice A6 l6 d6, .slice A7 l7 d7, .slice A8 l8 d8] from e0.symm]; exact bm2
       have hj := pg_join (kind := 4) (rel := 0) (by decide) (by decide) (by omega : g < w0.heap.size) (by omega) (by omega) HB.out.2 c34 (hIn'.back hs3) hx5 ⟨hm1, hm1'⟩ ⟨hm2, hm2'⟩ bm1 bm2' c6
       exact ⟨.inl ⟨n, _, _, j', by omega, hjj.2, by rw [← HFQ.out, hpq], hPgf, hj, b6⟩, by rw [hPgf.m0]; omega⟩
     have HFN := Lib.hid hfin
     have HRF := Lib.hid (And.intro hrf hCf)
     clear hfin hwf c6 b6 hb5 hm1 hm1' hm2 hm2' bm1 bm2 hx5 c34 hCf hrf H5 HB4 HB3 K2 KQ HQ x0 x1 x2 x3 x4 x5 x6 x7 x8 v0 v1 v2 v3 v4 v5 v6 v7 v8 g0 g1 g2 g3 g4 g5 g6 g7 g8 z0 z1 z2 z3 z4 z5 z6 z7 z8 hrr
     go_wp2_with fail
     go_roundw
     case rel => exact ⟨HRF.out.1, HRF.out.2, by omega, Lib.hid HFN.out.1⟩
     case measure => rw [HM.out]; exact HFN.out.2
   ·
    rw [if_neg hjs] at hFq
    have KT := Lib.hid (take_pno hG 6 (by omega) ⟨#[124]⟩ (by decide) hPg hjs)
    have HFQ := Lib.hid hFq
    have HB := Lib.hid (And.intro hbr (And.intro hIn hPg))
    clear hPg hFq hbr hIn
    go_wp2_with fail
    refine KT.out.mono ?_
    rintro e w3 ⟨rfl, hx3⟩
    obtain ⟨x0, x1, x2, x3, x4, x5, x6, x7, x8⟩ := (HB.out.1.ext hx3).get
    obtain ⟨y0, y1, y2, y3, y4, y5, y6, y7, y8⟩ := (hrr.ext hx3).get
    obtain ⟨z0, z1, z2, z3, z4, z5, z6, z7, z8⟩ := (hrr.ext hx3).fzs
    have hC3 := hCr.trans (Chg.of_ext hx3)
    have HX3 := Lib.hid hx3
    clear hrr KT hx3
    go_wp2_with fail
    refine bodyPost_ret (v := p.val pl) (by simp [results, Tryz.results37, go_sem, *]) rfl ?_
    rw [← HFQ.out]
    exact pp_fin_ok hC3 hw0l (HB.out.2.2.ext HX3.out) hgl hlo (HB.out.2.1.keep fun x hx _ => ⟨HX3.out.block x hx.1.2, hx.1.1, by have := hx.1.2; have := HX3.out.size; omega⟩) (vs := p.cells pl) rfl rfl
  ·
   have KT := Lib.hid (take_per ⟨#[124]⟩ hPg hx)
   obtain ⟨k0, k1, s2, k3, A4, l4, d4, k5, A6, l6, d6, A7, l7, d7, A8, l8, d8, rfl⟩ := hsh
   have HB := Lib.hid (And.intro hbr (And.intro hPg (And.intro hx hFe)))
   clear hPg hbr hx hFe HX
   go_wp2_with fail
   refine KT.out.mono ?_
   rintro e w3 ⟨rfl, hx3⟩
   obtain ⟨x0, x1, x2, x3, x4, x5, x6, x7, x8⟩ := (HB.out.1.ext hx3).get
   obtain ⟨y0, y1, y2, y3, y4, y5, y6, y7, y8⟩ := (hrr.ext hx3).get
   obtain ⟨z0, z1, z2, z3, z4, z5, z6, z7, z8⟩ := (hrr.ext hx3).fzs
   have hC3 := hCr.trans (Chg.of_ext hx3)
   have HX3 := Lib.hid hx3
   clear hrr KT hx3
   go_wp2_with fail
   refine bodyPost_ret (v := .agg #[.int .i64 k0, .int .i64 k1, .string s2, .int .i64 k3, .slice A4 l4 d4, .int .i64 k5, .slice A6 l6 d6, .slice A7 l7 d7, .slice A8 l8 d8]) (by simp [results, Tryz.results37, go_sem, *]) rfl ?_
   rw [HB.out.2.2.2]
   exact pp_fin_err HB.out.2.2.1 hC3 (HB.out.2.1.ext HX3.out) hgl hlo (vs := [.int .i64 k0, .int .i64 k1, .string s2, .int .i64 k3, .slice A4 l4 d4, .int .i64 k5, .slice A6 l6 d6, .slice A7 l7 d7, .slice A8 l8 d8]) rfl sh_intro rfl
end Go.Proofs.YtbjghkmjnhmlfaaGreatDoor

/- The page's reader: patterns: one. -/
namespace Go.Proofs.YtbjghkmjnhmlfaaGreatDoor
open Go.RowKit

theorem ptFits_tm {t : Tm} : PtFits ⟨1, t, 0, [], [], []⟩ := ⟨by simp only; decide, by simp only; decide, by simp, by simp, by simp⟩

set_option maxRecDepth 100000 in
set_option maxHeartbeats 4000000 in
theorem one_pg {T : List Tok} (hG : ToksG T) (k b : Nat) (hkb : k + b = 100) (hP : ∀ m, k = m + 1 → PPTo 37 T (b + 1) (patP T m)) (hE : PEr 37 T) : PPTo 118 T b (oneP T k (brP T k)) := by
 intro w g A c i a h
 have hgl := h.lt
 have hlo := h.low
 have hT := hG.ends
 obtain ⟨w0, hw0⟩ : ∃ w0, w0 = w.alloc (.cells #[.int .i64 0, .int .i64 0, .string ⟨#[]⟩, .int .i64 0, .slice none 0 0, .int .i64 0, .slice none 0 0, .slice none 0 0, .slice none 0 0] 63) := ⟨_, rfl⟩
 have hr0 : Box9 w0 w.heap.size zero9 := by rw [hw0]; exact Box9.new w _ _ rfl
 have hx0 : Ext w w0 := by rw [hw0]; exact (Ext.refl _).alloc _
 have HW0 := Lib.hid hw0
 have h0 := h.ext hx0
 have c2 := h0.c2
 have KM := Lib.hid (mark_pg hG 0 (by omega) ⟨#[40]⟩ (by decide) h0)
 have hw0l : w.heap.size < w0.heap.size := hr0.lt
 obtain ⟨F, hF⟩ : ∃ F, F = oneP T k (brP T k) i := ⟨_, rfl⟩
 rw [← hF]
 have HF := Lib.hid hF
 clear h hF hw0
 go_enter Tryz.func118, Tryz.ntmps118
 go_upto_region 1 with (fail)
 rw [← HW0.out]
 by_cases h4 : rl T i = 4
 ·
  rw [decide_eq_true h4] at KM
  have hi1 := hT.next 4 h4 (by omega)
  go_wp2_with fail
  refine KM.out.mono ?_
  rintro e w1 ⟨rfl, hx1⟩
  have h1 := h0.ext hx1
  have hr1 := hr0.ext hx1
  have hxw := hx0.trans hx1
  have hw1l : w.heap.size < w1.heap.size := hr1.lt
  clear KM c2 h0 hr0 hx0 hx1
  by_cases hb : b < 100
  ·
   obtain ⟨m, rfl⟩ : ∃ m, k = m + 1 := ⟨k - 1, by omega⟩
   have KO := Lib.hid (open_yes hG hb h1 h4)
   have HFB : Hid (F = match patP T m (i + 1) with | .error e => .error e | .ok (q, j) => if rl T j = 5 then .ok (q, j + 1) else .error (bad T j)) := Lib.hid (by
    rw [HF.out]; unfold oneP; rw [if_pos h4, brP, brF, if_pos h4]; cases patP T m (i + 1) <;> rfl)
   clear h1
   go_wp2_with fail
   refine KO.out.mono ?_
   rintro e w2 ⟨rfl, h2, hC2⟩
   have KP := Lib.hid (hP m rfl w2 g A c (i + 1) a h2)
   have hr2 := hr1.chg hC2 (by omega)
   have hCw2 : Chg (· = g) w w2 := (Chg.of_ext hxw).trans hC2
   have hw2l : w.heap.size < w2.heap.size := hr2.lt
   clear KO h2 hC2 hr1 hxw
   go_wp2_with fail
   refine KP.out.mono ?_
   rintro e w3 hout
   have hC3 := hout.1
   have HO := Lib.hid hout
   obtain ⟨cs, hsh, rfl⟩ := hout.val
   obtain ⟨k0, k1, s2, k3, A4, l4, d4, k5, A6, l6, d6, A7, l7, d7, A8, l8, d8, rfl⟩ := hsh
   obtain ⟨w4, hw4⟩ : ∃ w4, w4 = w3.alloc (.cells #[.int .i64 k0, .int .i64 k1, .string s2, .int .i64 k3, .slice A4 l4 d4, .int .i64 k5, .slice A6 l6 d6, .slice A7 l7 d7, .slice A8 l8 d8] 63) := ⟨_, rfl⟩
   have hb4 : Box9 w4 w3.heap.size [.int .i64 k0, .int .i64 k1, .string s2, .int .i64 k3, .slice A4 l4 d4, .int .i64 k5, .slice A6 l6 d6, .slice A7 l7 d7, .slice A8 l8 d8] := by rw [hw4]; exact Box9.new w3 _ _ rfl
   have hx4 : Ext w3 w4 := by rw [hw4]; exact (Ext.refl _).alloc _
   have HW4 := Lib.hid hw4
   have hr4 := (hr2.chg hC3 (by omega)).ext hx4
   have hC4 : Chg (· = g) w w4 := (hCw2.trans hC3).trans (Chg.of_ext hx4)
   have hs3 := hC3.size
   have hx34 := hx4.size
   clear hw4 hr2 hCw2 KP hout
   match hpi : patP T m (i + 1) with
   | .error (q, x) =>
    have h2 := HO.out.2
    rw [hpi] at h2
    obtain ⟨hx, _, i', d', hPg⟩ := h2
    have HFF : Hid (F = .error (q, x)) := Lib.hid (by rw [HFB.out, hpi])
    have KC := Lib.hid (close_er (hPg.ext hx4) hx)
    clear hPg hpi hx4 HO
    go_upto_region 6 with (fail)
    rw [← HW4.out]
    go_wp2_with fail
    refine KC.out.mono ?_
    rintro e w5 ⟨rfl, ⟨d5, h5⟩, hC5⟩
    obtain ⟨x0, x1, x2, x3, x4, x5, x6, x7, x8⟩ := (hb4.chg hC5 (by omega)).get
    obtain ⟨y0, y1, y2, y3, y4, y5, y6, y7, y8⟩ := (hr4.chg hC5 (by omega)).get
    obtain ⟨z0, z1, z2, z3, z4, z5, z6, z7, z8⟩ := (hr4.chg hC5 (by omega)).fzs
    have hCf := hC4.trans hC5
    have HH := Lib.hid (And.intro h5 hCf)
    clear h5 hCf hb4 hr4 hC4 hC5 KC
    go_wp2_with fail
    refine bodyPost_ret (v := .agg #[.int .i64 k0, .int .i64 k1, .string s2, .int .i64 k3, .slice A4 l4 d4, .int .i64 k5, .slice A6 l6 d6, .slice A7 l7 d7, .slice A8 l8 d8]) (by simp [results, Tryz.results118, go_sem, *]) rfl ?_
    rw [HFF.out]
    exact pp_fin_err hx HH.out.2 HH.out.1 hgl hlo (vs := [.int .i64 k0, .int .i64 k1, .string s2, .int .i64 k3, .slice A4 l4 d4, .int .i64 k5, .slice A6 l6 d6, .slice A7 l7 d7, .slice A8 l8 d8]) rfl sh_intro rfl
   | .ok (p, j) =>
    have h2 := HO.out.2
    rw [hpi] at h2
    obtain ⟨pl, he, hIn, hPg⟩ := h2
    injection he with he
    injection he with he
    have e0 := congrArg (fun l : Array Value => l.toList) he
    have HE0 : Hid ([.int .i64 k0, .int .i64 k1, .string s2, .int .i64 k3, .slice A4 l4 d4, .int .i64 k5, .slice A6 l6 d6, .slice A7 l7 d7, .slice A8 l8 d8] = p.cells pl) := Lib.hid e0
    have hIn4 : PtIn w4 (New w2 w4) p pl := hIn.step (fun x _ hx => hx4.block x hx) hx4.size
    by_cases h5 : rl T j = 5
    ·
     have HFF : Hid (F = .ok (p, j + 1)) := Lib.hid (by rw [HFB.out, hpi]; simp only; rw [if_pos h5])
     have KC := Lib.hid (close_yes hG (by omega) (hPg.ext hx4) h5)
     have HIN := Lib.hid hIn4
     clear hPg hpi hx4 HO hIn hIn4 he e0
     go_upto_region 6 with (fail)
     rw [← HW4.out]
     go_wp2_with fail
     refine KC.out.mono ?_
     rintro e w5 ⟨rfl, h5', hC5⟩
     obtain ⟨x0, x1, x2, x3, x4, x5, x6, x7, x8⟩ := (hb4.chg hC5 (by omega)).get
     obtain ⟨y0, y1, y2, y3, y4, y5, y6, y7, y8⟩ := (hr4.chg hC5 (by omega)).get
     obtain ⟨z0, z1, z2, z3, z4, z5, z6, z7, z8⟩ := (hr4.chg hC5 (by omega)).fzs
     have hCf := hC4.trans hC5
     have HH := Lib.hid (And.intro h5' (And.intro hCf (HIN.out.step (fun x h1 h2 => hC5.block x h2 (by omega)) hC5.size)))
     clear h5' hCf hb4 hr4 hC4 hC5 KC
     go_wp2_with fail
     refine bodyPost_ret (v := .agg #[.int .i64 k0, .int .i64 k1, .string s2, .int .i64 k3, .slice A4 l4 d4, .int .i64 k5, .slice A6 l6 d6, .slice A7 l7 d7, .slice A8 l8 d8]) (by simp [results, Tryz.results118, go_sem, *]) rfl ?_
     rw [HFF.out]
     exact pp_fin_ok (pl := pl) HH.out.2.1 hw2l HH.out.1 hgl hlo HH.out.2.2 (vs := [.int .i64 k0, .int .i64 k1, .string s2, .int .i64 k3, .slice A4 l4 d4, .int .i64 k5, .slice A6 l6 d6, .slice A7 l7 d7, .slice A8 l8 d8]) rfl (by rw [show (Value.agg #[.int .i64 k0, .int .i64 k1, .string s2, .int .i64 k3, .slice A4 l4 d4, .int .i64 k5, .slice A6 l6 d6, .slice A7 l7 d7, .slice A8 l8 d8]) = .agg ([.int .i64 k0, .int .i64 k1, .string s2, .int .i64 k3, .slice A4 l4 d4, .int .i64 k5, .slice A6 l6 d6, .slice A7 l7 d7, .slice A8 l8 d8] : List Value).toArray from rfl, HE0.out])
    ·
     have HFF : Hid (F = .error (bad T j)) := Lib.hid (by rw [HFB.out, hpi]; simp only; rw [if_neg h5])
     have KC := Lib.hid (close_no hG (hPg.ext hx4) h5)
     clear hPg hpi hx4 HO hIn hIn4 he e0
     go_upto_region 6 with (fail)
     rw [← HW4.out]
     go_wp2_with fail
     refine KC.out.mono ?_
     rintro e w5 ⟨rfl, ⟨d5, h5'⟩, hC5⟩
     obtain ⟨x0, x1, x2, x3, x4, x5, x6, x7, x8⟩ := (hb4.chg hC5 (by omega)).get
     obtain ⟨y0, y1, y2, y3, y4, y5, y6, y7, y8⟩ := (hr4.chg hC5 (by omega)).get
     obtain ⟨z0, z1, z2, z3, z4, z5, z6, z7, z8⟩ := (hr4.chg hC5 (by omega)).fzs
     have hCf := hC4.trans hC5
     have HH := Lib.hid (And.intro h5' hCf)
     clear h5' hCf hb4 hr4 hC4 hC5 KC
     go_wp2_with fail
     refine bodyPost_ret (v := .agg #[.int .i64 k0, .int .i64 k1, .string s2, .int .i64 k3, .slice A4 l4 d4, .int .i64 k5, .slice A6 l6 d6, .slice A7 l7 d7, .slice A8 l8 d8]) (by simp [results, Tryz.results118, go_sem, *]) rfl ?_
     rw [HFF.out]
     exact pp_fin_err (by decide) HH.out.2 HH.out.1 hgl hlo (vs := [.int .i64 k0, .int .i64 k1, .string s2, .int .i64 k3, .slice A4 l4 d4, .int .i64 k5, .slice A6 l6 d6, .slice A7 l7 d7, .slice A8 l8 d8]) rfl sh_intro rfl
  ·
   obtain rfl : b = 100 := by omega
   obtain rfl : k = 0 := by omega
   have KO := Lib.hid (open_lim hG h1 h4)
   have HFF : Hid (F = .error (lim T i)) := Lib.hid (by rw [HF.out]; unfold oneP; rw [if_pos h4, brP]; simp only; rw [if_pos h4])
   clear h1
   go_wp2_with fail
   refine KO.out.mono ?_
   rintro e w2 ⟨rfl, h2, hC2⟩
   have KP := Lib.hid (hE w2 g A c (i + 1) 2 (tk T i).at_ 101 h2 (by decide))
   have hr2 := hr1.chg hC2 (by omega)
   have hCw2 : Chg (· = g) w w2 := (Chg.of_ext hxw).trans hC2
   have H2 := Lib.hid h2
   have hw2l : w.heap.size < w2.heap.size := hr2.lt
   clear KO h2 hC2 hr1 hxw
   go_wp2_with fail
   refine KP.out.mono ?_
   rintro e w3 ⟨⟨cs, hsh, rfl⟩, hx3⟩
   obtain ⟨k0, k1, s2, k3, A4, l4, d4, k5, A6, l6, d6, A7, l7, d7, A8, l8, d8, rfl⟩ := hsh
   obtain ⟨w4, hw4⟩ : ∃ w4, w4 = w3.alloc (.cells #[.int .i64 k0, .int .i64 k1, .string s2, .int .i64 k3, .slice A4 l4 d4, .int .i64 k5, .slice A6 l6 d6, .slice A7 l7 d7, .slice A8 l8 d8] 63) := ⟨_, rfl⟩
   have hb4 : Box9 w4 w3.heap.size [.int .i64 k0, .int .i64 k1, .string s2, .int .i64 k3, .slice A4 l4 d4, .int .i64 k5, .slice A6 l6 d6, .slice A7 l7 d7, .slice A8 l8 d8] := by rw [hw4]; exact Box9.new w3 _ _ rfl
   have hx4 : Ext w3 w4 := by rw [hw4]; exact (Ext.refl _).alloc _
   have HW4 := Lib.hid hw4
   have hr4 := (hr2.ext hx3).ext hx4
   have hC4 : Chg (· = g) w w4 := (hCw2.trans (Chg.of_ext hx3)).trans (Chg.of_ext hx4)
   have hs3 := hx3.size
   have KC := Lib.hid (close_er (H2.out.ext (hx3.trans hx4)) (by decide))
   clear hw4 hr2 hCw2 KP hx3 hx4
   go_upto_region 6 with (fail)
   rw [← HW4.out]
   go_wp2_with fail
   refine KC.out.mono ?_
   rintro e w5 ⟨rfl, ⟨d5, h5⟩, hC5⟩
   obtain ⟨x0, x1, x2, x3, x4, x5, x6, x7, x8⟩ := (hb4.chg hC5 (by omega)).get
   obtain ⟨y0, y1, y2, y3, y4, y5, y6, y7, y8⟩ := (hr4.chg hC5 (by omega)).get
   obtain ⟨z0, z1, z2, z3, z4, z5, z6, z7, z8⟩ := (hr4.chg hC5 (by omega)).fzs
   have hCf := hC4.trans hC5
   have HH := Lib.hid (And.intro h5 hCf)
   clear h5 hCf hb4 hr4 hC4 hC5 KC
   go_wp2_with fail
   refine bodyPost_ret (v := .agg #[.int .i64 k0, .int .i64 k1, .string s2, .int .i64 k3, .slice A4 l4 d4, .int .i64 k5, .slice A6 l6 d6, .slice A7 l7 d7, .slice A8 l8 d8]) (by simp [results, Tryz.results118, go_sem, *]) rfl ?_
   rw [HFF.out]
   exact pp_fin_err (by decide) HH.out.2 HH.out.1 hgl hlo (vs := [.int .i64 k0, .int .i64 k1, .string s2, .int .i64 k3, .slice A4 l4 d4, .int .i64 k5, .slice A6 l6 d6, .slice A7 l7 d7, .slice A8 l8 d8]) rfl sh_intro rfl
 ·
  rw [decide_eq_false h4] at KM
  have HFT : Hid (F = match termP T k i with | .error e => .error e | .ok (t, j) => .ok (⟨1, t, 0, [], [], []⟩, j)) := Lib.hid (by rw [HF.out]; unfold oneP; rw [if_neg h4]; cases termP T k i <;> rfl)
  go_wp2_with fail
  refine KM.out.mono ?_
  rintro e w1 ⟨rfl, hx1⟩
  have KT := Lib.hid (pterm_any hG (by omega) hkb (h0.ext hx1))
  have hr1 := hr0.ext hx1
  have hxw := hx0.trans hx1
  have hw1l : w.heap.size < w1.heap.size := hr1.lt
  clear KM c2 h0 hr0 hx0 hx1
  go_wp2_with fail
  refine KT.out.mono ?_
  rintro e w2 hout
  have hC2 := hout.1
  have HO := Lib.hid hout
  obtain ⟨k1, s2, k3, A4, l4, d4, rfl⟩ := hout.val
  have hr2 := hr1.chg hC2 (by omega)
  have hCw2 : Chg (· = g) w w2 := (Chg.of_ext hxw).trans hC2
  obtain ⟨y0, y1, y2, y3, y4, y5, y6, y7, y8⟩ := hr2.get
  obtain ⟨z0, z1, z2, z3, z4, z5, z6, z7, z8⟩ := hr2.fzs
  clear KT hr1 hr2 hxw hC2 hout
  go_wp2_with fail
  refine bodyPost_ret (v := .agg #[.int .i64 1, .int .i64 k1, .string s2, .int .i64 k3, .slice A4 l4 d4, .int .i64 0, .slice none 0 0, .slice none 0 0, .slice none 0 0]) (by simp [results, Tryz.results118, go_sem, *]) rfl ?_
  rw [HFT.out]
  match hti : termP T k i with
  | .error (q, x) =>
   have h2 := HO.out.2
   rw [hti] at h2
   obtain ⟨hx, _, i', d', hPg⟩ := h2
   exact pp_fin_err hx hCw2 hPg hgl hlo (vs := [.int .i64 1, .int .i64 k1, .string s2, .int .i64 k3, .slice A4 l4 d4, .int .i64 0, .slice none 0 0, .slice none 0 0, .slice none 0 0]) rfl sh_intro rfl
  | .ok (t, j) =>
   have h2 := HO.out.2
   rw [hti] at h2
   obtain ⟨A', c', he, hIn, hPg⟩ := h2
   injection he with he
   injection he with he
   have e0 := congrArg (fun l : Array Value => l.toList) he
   simp only [List.cons.injEq, and_true] at e0
   obtain ⟨e1, e2, e3, e4⟩ := e0
   rw [e1, e2, e3, e4]
   exact pp_fin_ok (p := ⟨1, t, 0, [], [], []⟩) (pl := ⟨A', c', none, 0, none, 0, none, 0⟩) hCw2 hw1l hPg hgl hlo (.leaf _ ptFits_tm rfl rfl rfl hIn) (vs := [.int .i64 1, .int .i64 t.kind, .string t.name, .int .i64 t.n, .slice A' t.args.length c', .int .i64 0, .slice none 0 0, .slice none 0 0, .slice none 0 0]) rfl rfl
end Go.Proofs.YtbjghkmjnhmlfaaGreatDoor

/- The page's reader: patterns: Rels, Rel. -/
namespace Go.Proofs.YtbjghkmjnhmlfaaGreatDoor
open Go.RowKit

def relT (k : Nat) : ByteArray := txt (roleTexts[21 + k]?.getD [])
def RelIs (s : ByteArray) (R : Int) : Prop := (R = 0 ∧ ∀ k, k < 13 → relT k ≠ s) ∨ ∃ k, k < 13 ∧ relT k = s ∧ R = (k : Int) + 1
set_option maxRecDepth 100000 in
set_option maxHeartbeats 1000000 in
theorem rels_any (w : World) : Calls Tryz.prog 119 #[] w fun e w' => e = .returned (.slice (some ⟨w.heap.size, 0, none⟩) 13 13) ∧ Ext w w' ∧ ∀ k, k < 13 → w'.cell? ⟨w.heap.size, k, none⟩ = some (.string (relT k)) := by
 go_enter Tryz.func119, Tryz.ntmps119
 go_wp2_with fail
 go_ret
 refine ⟨rfl, (Ext.refl _).alloc _, fun k hk => ?_⟩
 have hh := heap_alloc_new w (.cells #[.string (relT 0), .string (relT 1), .string (relT 2), .string (relT 3), .string (relT 4), .string (relT 5), .string (relT 6), .string (relT 7), .string (relT 8), .string (relT 9), .string (relT 10), .string (relT 11), .string (relT 12)] 9)
 have key : ∀ j, j < 13 → (w.alloc (.cells #[.string (relT 0), .string (relT 1), .string (relT 2), .string (relT 3), .string (relT 4), .string (relT 5), .string (relT 6), .string (relT 7), .string (relT 8), .string (relT 9), .string (relT 10), .string (relT 11), .string (relT 12)] 9)).cell? ⟨w.heap.size, j, none⟩ = some (.string (relT j)) := by
  intro j hj
  simp only [World.cell?, hh]
  match j, hj with
  | 0, _ => rfl
  | 1, _ => rfl
  | 2, _ => rfl
  | 3, _ => rfl
  | 4, _ => rfl
  | 5, _ => rfl
  | 6, _ => rfl
  | 7, _ => rfl
  | 8, _ => rfl
  | 9, _ => rfl
  | 10, _ => rfl
  | 11, _ => rfl
  | 12, _ => rfl
 exact key k hk
set_option maxRecDepth 100000 in
set_option maxHeartbeats 1000000 in
theorem rel_any (s : ByteArray) (w : World) : Calls Tryz.prog 107 #[.string s] w fun e w' => ∃ R, e = .returned (.int .i64 R) ∧ RelIs s R ∧ Ext w w' := by
 have KR := Lib.hid (rels_any w)
 go_enter Tryz.func107, Tryz.ntmps107
 go_wp2_with fail
 refine KR.out.mono ?_
 rintro e w1 ⟨rfl, hx1, hc⟩
 have HC := Lib.hid (And.intro hc hx1)
 clear KR hc hx1
 go_wp2_with fail
 go_loop [4] (fun i => ∃ k : Nat, k ≤ 13 ∧ i = .int .i64 k ∧ Hid (∀ j, j < k → relT j ≠ s)) (fun i => 13 - (intOf i).toNat)
 case atStart => exact ⟨0, by omega, rfl, Lib.hid (fun j hj => by omega)⟩
 case round =>
  obtain ⟨k, hk, rfl, HN⟩ := hrel
  by_cases hlt : k < 13
  ·
   have i0 : (0 : Int) ≤ (k : Int) := Int.natCast_nonneg _
   have i1 : (k : Int) < 13 := by omega
   have hlt' : decide ((k : Int) < 13) = true := decide_eq_true i1
   have cS := HC.out.1 k hlt
   by_cases he : relT k = s
   ·
    have heq : ((relT k).data.toList == s.data.toList) = true := by rw [he]; simp
    have hed : decide ((relT k).data.toList = s.data.toList) = true := by rw [he]; simp
    have hee : ((relT k).toList == s.toList) = true := by rw [he]; simp
    have hw1 : IntKind.i64.wrap ((k : Int) + 1) = (k : Int) + 1 := by rw [IntKind.wrap_i64]; omega
    have HE := Lib.hid he
    clear he
    go_wp2_with fail
    go_ret
    exact ⟨_, rfl, .inr ⟨k, hlt, HE.out, rfl⟩, HC.out.2⟩
   ·
    have hne : (relT k).data.toList ≠ s.data.toList := fun h => he (ba_ext h)
    have hte : ((relT k).toList == s.toList) = false := by rw [Lib.toList_data, Lib.toList_data, beq_eq_false_iff_ne]; exact hne
    have HE := Lib.hid he
    clear he hne
    go_wp2_with fail
    go_round
    case rel => exact ⟨k + 1, by omega, by go_num, Lib.hid (fun j hj => by by_cases e : j = k; subst e; exact HE.out; exact HN.out j (by omega))⟩
    case measure => simp [intOf]; omega
  ·
   have hlt' : decide ((k : Int) < 13) = false := decide_eq_false (by omega)
   go_wp2_with fail
   go_ret
   exact ⟨0, rfl, .inl ⟨rfl, fun j hj => HN.out j (by omega)⟩, HC.out.2⟩
/-- what the page asks of a relation's name -/
theorem rel_role {T : List Tok} (hG : ToksG T) {i : Nat} (hi : i < T.length) {R : Int} (h : RelIs (tk T i).text R) : (25 ≤ rl T i → (tk T i).kind = 1 ∧ R = (rl T i : Int) - 24 ∧ R ≠ 0) ∧ (¬ 25 ≤ rl T i → (tk T i).kind ≠ 1 ∨ R = 0) := by
 have hg : TokG (tk T i) := by rw [tk_at T hi]; exact hG.2.1 _ (List.getElem_mem hi)
 have hk := role_kind hg
 have hl := rl_lt T i
 have nm : (tk T i).kind = 1 ↔ isName (rl T i) = true := hk.2.2.2.1
 have rt : ∀ k, k < 13 → (tk T i).kind = 1 → (relT k = (tk T i).text ↔ rl T i = 25 + k) := fun k hk1 h1 => by
  have := role_text (t := tk T i) (.inr h1) (i := 21 + k) (by omega)
  rw [show 25 + k = 4 + (21 + k) by omega]
  refine Iff.trans ⟨fun e => ?_, fun e => ?_⟩ this
  ·
   rw [← e]; unfold relT txt; simp
  ·
   exact (ba_ext (by rw [e]; unfold relT txt; simp)).symm
 refine ⟨fun h25 => ?_, fun h25 => ?_⟩
 ·
  have h1 : (tk T i).kind = 1 := nm.2 (by unfold isName; simp; omega)
  have hr := (rt (rl T i - 25) (by omega) h1).2 (by omega)
  rcases h with ⟨_, hn⟩ | ⟨k, hk13, hk2, hR⟩
  ·
   exact absurd hr (hn _ (by omega))
  ·
   have := (rt k hk13 h1).1 hk2
   exact ⟨h1, by omega, by omega⟩
 ·
  rcases h with ⟨h0, _⟩ | ⟨k, hk13, hk2, hR⟩
  ·
   exact .inr h0
  ·
   by_cases h1 : (tk T i).kind = 1
   ·
    have := (rt k hk13 h1).1 hk2
    omega
   ·
    exact .inl h1
end Go.Proofs.YtbjghkmjnhmlfaaGreatDoor
