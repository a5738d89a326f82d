/- The page's reader: guard, where a comparison is read. -/
import Derived.Test.YtbjghkmjnhmlfaaGreatDoorPhx
namespace Go.Proofs.YtbjghkmjnhmlfaaGreatDoor
open Go.RowKit

set_option maxRecDepth 100000 in
set_option maxHeartbeats 16000000 in
theorem guard_rest6 {T : List Tok} (hG : ToksG T) {w : World} {g A c i : Nat} {a : Int} (h : PgAt w g A c T i 0 a ((0 : Nat) : Int)) (hr : rl T i = 20) (hn : isName (rl T (i + 1)) = false) :
  Calls Tryz.prog 39 #[.pointer (some ⟨g, 0, none⟩)] w (GdTo w g A c T a (guardQ T i)) := by
 have hgl := h.lt
 have hlo := h.low
 obtain ⟨w0, hw0⟩ : ∃ w0, w0 = w.alloc (.cells #[.int .i64 0, .int .i64 0, .string ⟨#[]⟩, .int .i64 0, .slice none 0 0, .int .i64 0, .string ⟨#[]⟩, .int .i64 0, .slice none 0 0] 95) := ⟨_, rfl⟩
 have hr0 : Box9 w0 w.heap.size zeroG := by rw [hw0]; exact Box9.new w _ _ rfl
 have hx0 : Ext w w0 := by rw [hw0]; exact (Ext.refl _).alloc _
 have h0 := h.ext hx0
 have c2 := h0.c2
 have HW0 := Lib.hid hw0
 have KI := Lib.hid (name_pg hG 15 (by omega) (by omega) _ known_txt h0)
 have KJ := Lib.hid (fun u (k : Ext w0 u) => name_pg hG 16 (by omega) (by omega) _ unknown_txt (h0.ext k))
 rw [show decide (rl T i = 4 + 15) = false from (by rw [hr]; rfl)] at KI
 rw [show decide (rl T i = 4 + 16) = true from (by rw [hr]; rfl)] at KJ
 have HG := Lib.hid hG
 have hi1 : i + 1 < T.length := hG.ends.2 i (by omega)
 have hk1 : (T[i + 1].kind == 1) = false := by
  have := name_kind hG hi1
  rw [hn, tk_at T hi1] at this
  exact this
 have hw1 : IntKind.i64.wrap ((i : Int) + 1) = (i : Int) + 1 := by have := h.len; rw [IntKind.wrap_i64]; omega
 have hi3 : (0 : Int) ≤ (i : Int) + 1 := by omega
 have hi4 : (i : Int) + 1 < (T.length : Int) := by omega
 have hi5 : ((i : Int) + 1).toNat = i + 1 := by omega
 have HN : Hid (¬ ((rl T i = 19 ∨ rl T i = 20) ∧ isName (rl T (i + 1)) = true)) := Lib.hid (fun e => by rw [hn] at e; exact absurd e.2 (by decide))
 clear hw0 h hG hr hn
 go_enter Tryz.func39, Tryz.ntmps39
 go_upto_region 1 with (fail)
 rw [← HW0.out]
 go_wp2_with fail
 refine KI.out.mono ?_
 rintro e w1 ⟨rfl, hx1⟩
 have KJ2 := Lib.hid (KJ.out w1 hx1)
 have HX1 := Lib.hid hx1
 clear KI KJ hx1 c2
 go_wp2_with fail
 refine KJ2.out.mono ?_
 rintro e w2 ⟨rfl, hx2⟩
 have hx02 := HX1.out.trans hx2
 have h2 := h0.ext hx02
 have hr2 := hr0.ext hx02
 have HX2 := Lib.hid (hx0.trans hx02)
 clear KJ2 hx2 HX1 hx02 h0 hr0 hx0
 go_upto_region 8 with (fail)
 have d0 : ∀ p : ExtOf w2, p.to.cell? _ = _ := ext_cell h2.c0
 have d1 : ∀ p : ExtOf w2, p.to.cell? _ = _ := ext_cell h2.c1
 have dk : ∀ p : ExtOf w2, p.to.cell? _ = _ := ext_cell (h2.toks (i + 1) hi1).1
 refine wp_region_ext (by kernel_rfl) (by kernel_rfl) ?_
 repeat (go_big_quiet_step (fail))
 refine wpQuiet_nil ?_
 refine ext_all ?_
 intro w3 hx3
 have h3 := h2.ext hx3
 have hr3 := hr2.ext hx3
 have hx03 := HX2.out.trans hx3
 have hr3l := hr3.lt
 have KP := Lib.hid (pterm_any HG.out (k := 100) (by omega) (b := 0) (by omega) h3)
 clear d0 d1 dk
 clear h2 h3 hr2 hx3 HX2
 go_wp2_with fail
 refine KP.out.mono ?_
 intro e w5 hout
 have HO := Lib.hid hout
 obtain ⟨k', s', n', A', l', c', rfl⟩ := hout.val
 have hC5 := hout.1
 have hr5 := hr3.chg hC5 (by omega)
 clear hr3 KP hout
 go_upto_region 12 with (fail)
 obtain ⟨w6, hw6⟩ : ∃ w6, w6 = w5.alloc (.cells #[.int .i64 k', .string s', .int .i64 n', .slice A' l' c'] 58) := ⟨_, rfl⟩
 have hb6 : Box4 w6 w5.heap.size (.int .i64 k') (.string s') (.int .i64 n') (.slice A' l' c') := by rw [hw6]; exact Box4.new w5 _ _ _ _ _
 have hx6 : Ext w5 w6 := by rw [hw6]; exact (Ext.refl _).alloc _
 rw [← hw6]
 clear hw6
 obtain ⟨n0, n1, n2, n3, _, _, _, _⟩ := hb6
 have hr6 := hr5.ext hx6
 have hC6 := hC5.trans (Chg.of_ext hx6)
 have hGQ : guardQ T i = match termP T 100 i with
  | .error e => .error e
  | .ok (t, j) => if isOp (rl T j) then
    match termP T 100 (j + 1) with
    | .error e => .error e
    | .ok (u, m) => .ok (⟨(rl T j : Nat) - 14, t, u⟩, m)
   else .error (bad T j) := by
  unfold guardQ
  rw [if_neg HN.out]
  cases termP T 100 i <;> rfl
 have HGQ := Lib.hid hGQ
 clear hGQ
 obtain ⟨F, hF⟩ : ∃ F, F = termP T 100 i := ⟨_, rfl⟩
 have hO := HO.out
 rw [← hF] at hO
 match F, hF, hO with
 | .error (q, x), hF, ⟨_, hx0, _, i', d', hP⟩ =>
  have hP6 := hP.ext hx6
  have KC := Lib.hid (cmp_er (k := k') (n := n') (s := s') (B := A') (l := l') (cc := c') hP6 hx0)
  have hxe : (x == 0) = false := by simpa using hx0
  have HP6 := Lib.hid hP6
  have HHF := Lib.hid hF
  clear hP hF hO hP6
  go_wp2_with fail
  refine KC.out.mono ?_
  rintro e w7 ⟨rfl, hx7⟩
  have hP7 := HP6.out.ext hx7
  have c2' := hP7.c2
  have hg7 := hP7.lt
  have hr7 := hr6.ext hx7
  have HP7 := Lib.hid hP7
  clear KC hP7 n0 n1 n2 n3
  go_upto_region 15 with (fail)
  obtain ⟨cs, hcs⟩ : ∃ cs, cs = zeroG := ⟨_, rfl⟩
  obtain ⟨w8, hw8⟩ : ∃ w8, w8 = w7.alloc (.cells #[.int .i64 0, .int .i64 0, .string ⟨#[]⟩, .int .i64 0, .slice none 0 0, .int .i64 0, .string ⟨#[]⟩, .int .i64 0, .slice none 0 0] 95) := ⟨_, rfl⟩
  obtain ⟨gb, hgb⟩ : ∃ gb, gb = w7.heap.size := ⟨_, rfl⟩
  have hrB : Box9 w8 gb cs := by rw [hw8, hcs, hgb]; exact Box9.new w7 _ _ rfl
  have hx8 : Ext w7 w8 := by rw [hw8]; exact (Ext.refl _).alloc _
  have hrR : Box9 w8 w.heap.size zeroG := hr7.ext hx8
  have HSH : Hid (GdSh cs) := Lib.hid (by rw [hcs]; exact ⟨_, _, _, _, _, _, _, _, _, _, _, _, _, rfl⟩)
  rw [← hw8, ← hgb]
  clear hw8 hcs hgb hr7 c2'
  have h9 : (cs).length = 9 := HSH.out.len
  have h1 : (cs).toArray.all (·.oneCell') = true := by simpa using HSH.out.one
  have hi : (Tryz.prog.info? 95).map (·.size) = some (cs).length := by rw [h9]; kernel_rfl
  have hi' : (Tryz.prog.info? 95).map (·.size) = some (cs).toArray.size := by simpa using hi
  have hth : (w8).there w.heap.size 0 (cs).toArray.size := by have := hrR.thr; simpa [h9] using this
  have hrg := hrB.range
  have hrs : ((w8).setCells w.heap.size 0 cs).rangeAt w.heap.size 0 cs := World.rangeAt_setCells_same _ _ _ _ (by simpa using hth)
  have hres := run_loadVar_mid (P := Tryz.prog) _ w.heap.size 0 95 cs _ hrs Tryz.underlying95 rfl hi
  have HRR := Lib.hid hrR
  clear hrR hrB hrs h9
  go_wp2_with (first
   | (refine wpList_load_mid (op := ⟨some 67, _, _, _, _, _⟩) rfl 95 (.tmp 5) rfl gb 0 rfl cs _ hrg Tryz.underlying95 rfl hi ?_)
   | (refine wpList_store_mid (op := ⟨none, _, _, _, _, _⟩) rfl 95 (.tmp 2) (.tmp 67) rfl w.heap.size 0 (cs).toArray rfl rfl hth hi' h1 ?_))
  refine bodyPost_ret (v := .agg (cs).toArray) (by simp [results, Tryz.results39, asAddr, Act.put, hres]) rfl ?_
  obtain ⟨wf, hwf⟩ : ∃ wf, wf = (w8).setCells w.heap.size 0 cs := ⟨_, rfl⟩
  have hCf : Chg (· = w.heap.size) w8 wf := by rw [hwf]; exact setCells_chg _ _ _ 0 _ (Chg.refl _ _)
  rw [← hwf]
  clear hwf hres hth hrg hi hi' h1
  have hC8 : Chg (· = g) w w8 := ((Chg.of_ext hx03).trans hC6).trans (Chg.of_ext (hx7.trans hx8))
  have hCwf : Chg (· = g) w wf := chg_new hC8 (hCf.weak fun x hx => .inr hx) (Nat.le_refl _)
  have hP8 := HP7.out.ext hx8
  have hPf : PgAt wf g A c T i' x q d' := hP8.keep fun y hy hye => hCf.block y hy (by rcases hye with e | e <;> omega)
  rw [HGQ.out, ← HHF.out]
  exact ⟨hCwf, hx0, ⟨cs, HSH.out, rfl⟩, i', d', hPf⟩
 | .ok (t, j), hF, ⟨_, A1, c1, he, hT, hP⟩ =>
  have hP6 := hP.ext hx6
  have HHF := Lib.hid hF
  have HHE := Lib.hid he
  have HHT := Lib.hid hT
  clear hP hF hO he hT
  cases ho : isOp (rl T j) with
  | false =>
   have KC := Lib.hid (cmp_no HG.out (k := k') (n := n') (s := s') (B := A') (l := l') (cc := c') hP6 ho)
   have HHO := Lib.hid ho
   have HP6 := Lib.hid hP6
   clear ho hP6
   go_wp2_with fail
   refine KC.out.mono ?_
   rintro e w7 ⟨rfl, hx7⟩
   have hP7 := HP6.out.ext hx7
   have c2' := hP7.c2
   have hg7 := hP7.lt
   have hr7 := hr6.ext hx7
   have HP7 := Lib.hid hP7
   clear KC hP7 n0 n1 n2 n3
   go_upto_region 14 with (fail)
   obtain ⟨cs, hcs⟩ : ∃ cs, cs = zeroG := ⟨_, rfl⟩
   obtain ⟨w8, hw8⟩ : ∃ w8, w8 = w7.alloc (.cells #[.int .i64 0, .int .i64 0, .string ⟨#[]⟩, .int .i64 0, .slice none 0 0, .int .i64 0, .string ⟨#[]⟩, .int .i64 0, .slice none 0 0] 95) := ⟨_, rfl⟩
   obtain ⟨gb, hgb⟩ : ∃ gb, gb = w7.heap.size := ⟨_, rfl⟩
   have hrB8 : Box9 w8 gb cs := by rw [hw8, hcs, hgb]; exact Box9.new w7 _ _ rfl
   have hx8 : Ext w7 w8 := by rw [hw8]; exact (Ext.refl _).alloc _
   have hrR8 : Box9 w8 w.heap.size zeroG := hr7.ext hx8
   have HSH : Hid (GdSh cs) := Lib.hid (by rw [hcs]; exact ⟨_, _, _, _, _, _, _, _, _, _, _, _, _, rfl⟩)
   have hgbg : g < gb := by omega
   rw [← hw8, ← hgb]
   have q3 := fld3
   have HP8 := Lib.hid (HP7.out.ext hx8)
   have KN := Lib.hid (now_pg HP8.out)
   clear hw8 hcs hgb hr7 c2'
   go_wp2_with fail
   refine KN.out.mono ?_
   rintro e w9 ⟨rfl, hx9⟩
   have KF := Lib.hid (fails_yes 4 (tk T j).at_ (HP8.out.ext hx9))
   clear KN
   go_wp2_with fail
   refine KF.out.mono ?_
   rintro e w10 ⟨rfl, hP10, hC10⟩
   have hrB := (hrB8.ext hx9).chg hC10 (by omega)
   have hrR := (hrR8.ext hx9).chg hC10 (by omega)
   have HP10 := Lib.hid hP10
   clear KF hP10 hrB8 hrR8
   go_upto_region 15 with (fail)
   have h9 : (cs).length = 9 := HSH.out.len
   have h1 : (cs).toArray.all (·.oneCell') = true := by simpa using HSH.out.one
   have hi : (Tryz.prog.info? 95).map (·.size) = some (cs).length := by rw [h9]; kernel_rfl
   have hi' : (Tryz.prog.info? 95).map (·.size) = some (cs).toArray.size := by simpa using hi
   have hth : (w10).there w.heap.size 0 (cs).toArray.size := by have := hrR.thr; simpa [h9] using this
   have hrg := hrB.range
   have hrs : ((w10).setCells w.heap.size 0 cs).rangeAt w.heap.size 0 cs := World.rangeAt_setCells_same _ _ _ _ (by simpa using hth)
   have hres := run_loadVar_mid (P := Tryz.prog) _ w.heap.size 0 95 cs _ hrs Tryz.underlying95 rfl hi
   have HRR := Lib.hid hrR
   clear hrR hrB hrs h9
   go_wp2_with (first
    | (refine wpList_load_mid (op := ⟨some 67, _, _, _, _, _⟩) rfl 95 (.tmp 5) rfl gb 0 rfl cs _ hrg Tryz.underlying95 rfl hi ?_)
    | (refine wpList_store_mid (op := ⟨none, _, _, _, _, _⟩) rfl 95 (.tmp 2) (.tmp 67) rfl w.heap.size 0 (cs).toArray rfl rfl hth hi' h1 ?_))
   refine bodyPost_ret (v := .agg (cs).toArray) (by simp [results, Tryz.results39, asAddr, Act.put, hres]) rfl ?_
   obtain ⟨wf, hwf⟩ : ∃ wf, wf = (w10).setCells w.heap.size 0 cs := ⟨_, rfl⟩
   have hCf : Chg (· = w.heap.size) w10 wf := by rw [hwf]; exact setCells_chg _ _ _ 0 _ (Chg.refl _ _)
   rw [← hwf]
   clear hwf hres hth hrg hi hi' h1
   have hC10w : Chg (· = g) w w10 := (((Chg.of_ext hx03).trans hC6).trans (Chg.of_ext ((hx7.trans hx8).trans hx9))).trans hC10
   have hCwf : Chg (· = g) w wf := chg_new hC10w (hCf.weak fun x hx => .inr hx) (Nat.le_refl _)
   have hPf : PgAt wf g A c T j 4 (tk T j).at_ ((0 : Nat) : Int) := HP10.out.keep fun y hy hye => hCf.block y hy (by rcases hye with e | e <;> omega)
   rw [HGQ.out, ← HHF.out]
   simp only [HHO.out]
   exact ⟨hCwf, by decide, ⟨cs, HSH.out, rfl⟩, _, _, hPf⟩
  | true =>
   have KC := Lib.hid (cmp_yes HG.out (k := k') (n := n') (s := s') (B := A') (l := l') (cc := c') hP6 ho)
   obtain ⟨RR, hRR⟩ : ∃ RR : Int, RR = (rl T j : Nat) - 14 := ⟨_, rfl⟩
   rw [← hRR] at KC
   have HRR9 := Lib.hid hRR
   have HHO := Lib.hid ho
   have hs6 := hx6.size
   have hs3 := hC5.size
   clear ho hP6 hRR
   go_wp2_with fail
   refine KC.out.mono ?_
   intro e w7 hout
   have HO7 := Lib.hid hout
   obtain ⟨k2, s2, m2, A2, l2, d2, rfl⟩ := hout.val
   have hC7 := hout.1
   have hr7 := hr6.chg hC7 (by omega)
   clear KC hout n0 n1 n2 n3
   go_upto_region 15 with (fail)
   obtain ⟨cs, hcs⟩ : ∃ cs : List Value, cs = [.int .i64 RR, .int .i64 k', .string s', .int .i64 n', .slice A' l' c', .int .i64 k2, .string s2, .int .i64 m2, .slice A2 l2 d2] := ⟨_, rfl⟩
   obtain ⟨w8, hw8⟩ : ∃ w8, w8 = w7.alloc (.cells #[.int .i64 RR, .int .i64 k', .string s', .int .i64 n', .slice A' l' c', .int .i64 k2, .string s2, .int .i64 m2, .slice A2 l2 d2] 95) := ⟨_, rfl⟩
   obtain ⟨gb, hgb⟩ : ∃ gb, gb = w7.heap.size := ⟨_, rfl⟩
   have hrB : Box9 w8 gb cs := by rw [hw8, hcs, hgb]; exact Box9.new w7 _ _ rfl
   have hx8 : Ext w7 w8 := by rw [hw8]; exact (Ext.refl _).alloc _
   have hrR : Box9 w8 w.heap.size zeroG := hr7.ext hx8
   have HSH : Hid (GdSh cs) := Lib.hid (by rw [hcs]; exact ⟨_, _, _, _, _, _, _, _, _, _, _, _, _, rfl⟩)
   have HCS := Lib.hid hcs
   rw [← hw8, ← hgb]
   clear hw8 hcs hgb hr7
   have h9 : (cs).length = 9 := HSH.out.len
   have h1 : (cs).toArray.all (·.oneCell') = true := by simpa using HSH.out.one
   have hi : (Tryz.prog.info? 95).map (·.size) = some (cs).length := by rw [h9]; kernel_rfl
   have hi' : (Tryz.prog.info? 95).map (·.size) = some (cs).toArray.size := by simpa using hi
   have hth : (w8).there w.heap.size 0 (cs).toArray.size := by have := hrR.thr; simpa [h9] using this
   have hrg := hrB.range
   have hrs : ((w8).setCells w.heap.size 0 cs).rangeAt w.heap.size 0 cs := World.rangeAt_setCells_same _ _ _ _ (by simpa using hth)
   have hres := run_loadVar_mid (P := Tryz.prog) _ w.heap.size 0 95 cs _ hrs Tryz.underlying95 rfl hi
   have HRR := Lib.hid hrR
   clear hrR hrB hrs h9
   go_wp2_with (first
    | (refine wpList_load_mid (op := ⟨some 67, _, _, _, _, _⟩) rfl 95 (.tmp 5) rfl gb 0 rfl cs _ hrg Tryz.underlying95 rfl hi ?_)
    | (refine wpList_store_mid (op := ⟨none, _, _, _, _, _⟩) rfl 95 (.tmp 2) (.tmp 67) rfl w.heap.size 0 (cs).toArray rfl rfl hth hi' h1 ?_))
   refine bodyPost_ret (v := .agg (cs).toArray) (by simp [results, Tryz.results39, asAddr, Act.put, hres]) rfl ?_
   obtain ⟨wf, hwf⟩ : ∃ wf, wf = (w8).setCells w.heap.size 0 cs := ⟨_, rfl⟩
   have hCf : Chg (· = w.heap.size) w8 wf := by rw [hwf]; exact setCells_chg _ _ _ 0 _ (Chg.refl _ _)
   rw [← hwf]
   clear hwf hres hth hrg hi hi' h1
   have hC8 : Chg (· = g) w w8 := (((Chg.of_ext hx03).trans hC6).trans hC7).trans (Chg.of_ext hx8)
   have hCwf : Chg (· = g) w wf := chg_new hC8 (hCf.weak fun x hx => .inr hx) (Nat.le_refl _)
   have hs7 := hC7.size
   have hs8 := hx8.size
   have hsf := hCf.size
   have hPf : ∀ {i' : Nat} {x q d' : Int}, PgAt w7 g A c T i' x q d' → PgAt wf g A c T i' x q d' := fun hp => (hp.ext hx8).keep fun y hy hye => hCf.block y hy (by rcases hye with e | e <;> omega)
   have hO7 := HO7.out
   have hHE := HHE.out
   obtain ⟨F2, hF2⟩ : ∃ F2, F2 = termP T 100 (j + 1) := ⟨_, rfl⟩
   rw [← hF2] at hO7
   rw [HGQ.out, ← HHF.out]
   simp only [HHO.out, if_true]
   rw [← hF2, ← HRR9.out]
   simp only [Ending.returned.injEq, Tm.val, Value.agg.injEq, Array.mk.injEq, List.cons.injEq, Value.int.injEq, Value.string.injEq, true_and, and_true] at hHE
   obtain ⟨e1, e2, e3, e4⟩ := hHE
   match F2, hO7 with
   | .ok (u, m), ⟨_, A3, c3, he3, hT3, hP3⟩ =>
    have he4 := he3
    simp only [Ending.returned.injEq, Value.tuple.injEq, Value.agg.injEq, Array.mk.injEq, List.cons.injEq, Value.int.injEq, Value.string.injEq, true_and, and_true] at he4
    obtain ⟨f1, f2, f3, f4⟩ := he4
    refine ⟨hCwf, ⟨A1, c1, A3, c3⟩, by rw [HCS.out, e1, e2, e3, e4, f1, f2, f3, f4]; rfl, ⟨HHT.out.keep fun b hb _ => ⟨?_, by have := hb.1; omega, by have := hb.2; omega⟩, hT3.keep fun b hb _ => ⟨?_, by have := hb.1; omega, by have := hb.2; omega⟩⟩, hPf hP3⟩
    ·
     have hb1 := hb.1
     have hb2 := hb.2
     rw [hCf.block b (by omega) (by omega), hx8.block b (by omega), hC7.block b (by omega) (by omega), hx6.block b (by omega)]
    ·
     have hb1 := hb.1
     have hb2 := hb.2
     rw [hCf.block b (by omega) (by omega), hx8.block b (by omega)]
   | .error (q, x), ⟨_, hx0, _, i', d', hP⟩ =>
    exact ⟨hCwf, hx0, ⟨cs, HSH.out, rfl⟩, i', d', hPf hP⟩
end Go.Proofs.YtbjghkmjnhmlfaaGreatDoor
