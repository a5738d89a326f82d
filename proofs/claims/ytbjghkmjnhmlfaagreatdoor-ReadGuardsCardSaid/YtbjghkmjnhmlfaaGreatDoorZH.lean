/- Joined: Pib, Pie. -/
import Derived.Test.YtbjghkmjnhmlfaaGreatDoorZG
import Derived.Test.YtbjghkmjnhmlfaaGreatDoorYZ
import Derived.Test.YtbjghkmjnhmlfaaGreatDoorZF

/- The page's reader: clause. -/
namespace Go.Proofs.YtbjghkmjnhmlfaaGreatDoor
open Go.RowKit

theorem CmpOut.val' {w : World} {g A c : Nat} {T : List Tok} {a R k : Int} {s : ByteArray} {n : Int} {B : Option Addr} {l cc : Nat} {F : Rs Tm} {e : Ending} {w' : World} (h : CmpOut w g A c T a R k s n B l cc F e w') :
  ∃ k' s' n' A' l' c', e = .returned (.tuple #[.agg #[.int .i64 R, .int .i64 k, .string s, .int .i64 n, .slice B l cc, .int .i64 k', .string s', .int .i64 n', .slice A' l' c'], .bool true]) := by
 match F, h with
 | .ok (u, m), ⟨_, A', c', he, _⟩ => exact ⟨_, _, _, _, _, _, he⟩
 | .error (q, x), ⟨_, _, ⟨k', s', n', A', l', c', he⟩, _⟩ => exact ⟨_, _, _, _, _, _, he⟩
set_option maxRecDepth 100000 in
set_option maxHeartbeats 16000000 in
theorem clause_pg {T : List Tok} (hG : ToksG T) {w : World} {g A c i n : Nat} {a : Int} (h : PgAt w g A c T i 0 a ((0 : Nat) : Int)) (hd : Tm) (B : Option Addr) (bc : Nat) (hn : T.length ≤ n + i) :
  Calls Tryz.prog 25 #[.pointer (some ⟨g, 0, none⟩), .agg #[.int .i64 hd.kind, .string hd.name, .int .i64 hd.n, .slice B hd.args.length bc]] w (CqTo w g A c T a hd B bc (cpartsQ T n ⟨hd, [], []⟩ i)) := by
 have hgl := h.lt
 have hlo := h.low
 obtain ⟨F, hF⟩ : ∃ F, F = cpartsQ T n ⟨hd, [], []⟩ i := ⟨_, rfl⟩
 rw [← hF]
 obtain ⟨w0, hw0⟩ : ∃ w0, w0 = ((w.alloc (.cells #[.int .i64 hd.kind, .string hd.name, .int .i64 hd.n, .slice B hd.args.length bc] 58)).alloc (.cells #[.int .i64 0, .string ⟨#[]⟩, .int .i64 0, .slice none 0 0, .slice none 0 0, .slice none 0 0] 73)).alloc (.cells #[.int .i64 hd.kind, .string hd.name, .int .i64 hd.n, .slice B hd.args.length bc, .slice none 0 0, .slice none 0 0] 73) := ⟨_, rfl⟩
 have hs0 : w0.heap.size = w.heap.size + 1 + 1 + 1 := by rw [hw0]; simp
 have hx0 : Ext w w0 := by rw [hw0]; exact (((Ext.refl w).alloc _).alloc _).alloc _
 have HW0 := Lib.hid hw0
 go_enter Tryz.func25, Tryz.ntmps25
 go_upto_region 2 with (fail)
 rw [← HW0.out]
 have hT := hG.ends
 obtain ⟨p, hp⟩ : ∃ p, p = w.heap.size + 1 + 1 := ⟨_, rfl⟩
 obtain ⟨r, hr⟩ : ∃ r, r = w.heap.size + 1 := ⟨_, rfl⟩
 have hbp : BoxN w0 p [.int .i64 hd.kind, .string hd.name, .int .i64 hd.n, .slice B hd.args.length bc, .slice none 0 0, .slice none 0 0] := by
  have := BoxN.new ((w.alloc (.cells #[.int .i64 hd.kind, .string hd.name, .int .i64 hd.n, .slice B hd.args.length bc] 58)).alloc (.cells #[.int .i64 0, .string ⟨#[]⟩, .int .i64 0, .slice none 0 0, .slice none 0 0, .slice none 0 0] 73)) #[.int .i64 hd.kind, .string hd.name, .int .i64 hd.n, .slice B hd.args.length bc, .slice none 0 0, .slice none 0 0] 73 (by simp)
  rw [hsz_alloc, hsz_alloc] at this
  rw [hw0, hp]; exact this
 have hbr : BoxN w0 r [.int .i64 0, .string ⟨#[]⟩, .int .i64 0, .slice none 0 0, .slice none 0 0, .slice none 0 0] := by
  have := BoxN.new (w.alloc (.cells #[.int .i64 hd.kind, .string hd.name, .int .i64 hd.n, .slice B hd.args.length bc] 58)) #[.int .i64 0, .string ⟨#[]⟩, .int .i64 0, .slice none 0 0, .slice none 0 0, .slice none 0 0] 73 (by simp)
  rw [hsz_alloc] at this
  rw [hw0, hr]; exact this.ext ((Ext.refl _).alloc _)
 have hB : ∃ B0, w0.heap.size = B0 := ⟨_, rfl⟩
 obtain ⟨B0, hB0⟩ := hB
 have hq0 : CqIn g B0 p r hd.kind hd.name hd.n B hd.args.length bc w0 w0 (.slice none 0 0) (.slice none 0 0) [] [] :=
  ⟨⟨GInv.start ST _ (by omega), hbp.cell 4 rfl, hbp.fz 4 (by simp), by omega⟩, ⟨GInv.start SG _ (by omega), hbp.cell 5 rfl, hbp.fz 5 (by simp), by omega⟩, hbp, ⟨_, rfl, hbr⟩, Chg.refl _ _, ⟨by omega, by omega, by omega, by omega, by omega, hB0⟩⟩
 have hP0 := h.ext hx0
 have hrw : w.heap.size ≤ r := by omega
 have hpw : w.heap.size ≤ p := by omega
 have hpB : p < B0 := by omega
 have hpg : p ≠ g := by omega
 have hpA : p ≠ A := by omega
 have hgB : g < B0 := by omega
 have hAB : A < B0 := by omega
 rw [← hp, ← hr]
 have HX0 := Lib.hid hx0
 have HG := Lib.hid hG
 have HT := Lib.hid hT
 obtain ⟨i0, hi0, hz0, hz1, hz2⟩ := info_parts infoTm'
 obtain ⟨j0, hj0, hy0, hy1, hy2⟩ := info_parts infoGd
 have HF0 := Lib.hid (And.intro hn hF.symm)
 have HQ0 := Lib.hid hq0
 have HPZ := Lib.hid hP0
 clear hw0 hbp hbr hq0 hP0 hp hr h hF hn hs0 hT hG hx0 HW0
 go_loopw [] (fun wr => ∃ (j : Nat) (v4 v5 : Value) (SA : Option Addr) (sc : Nat) (SB : Option Addr) (sd : Nat) (xs : List Lain) (ys : List GLain), v4 = .slice SA xs.length sc ∧ v5 = .slice SB ys.length sd ∧ PgAt wr g A c T j 0 a ((0 : Nat) : Int) ∧ CqIn g B0 p r hd.kind hd.name hd.n B hd.args.length bc w0 wr v4 v5 xs ys ∧ xs.length ≤ 3 ∧ ys.length ≤ 4 ∧ Hid (∃ n, T.length ≤ n + j ∧ cpartsQ T n ⟨hd, xs.map (·.1), ys.map (·.1)⟩ j = F)) (fun wr => pgM T.length wr g)
 case atStart => exact ⟨i, _, _, none, 0, none, 0, [], [], rfl, rfl, HPZ.out, HQ0.out, by simp, by simp, Lib.hid ⟨n, HF0.out.1, HF0.out.2⟩⟩
 case round =>
  clear HPZ HQ0 HF0
  obtain ⟨j, v4, v5, SA, sc, SB, sd, xs, ys, rfl, rfl, hP, hq, hxl, hyl, HX⟩ := hrel
  have hjl := hP.il
  have hjn := hP.len
  have hgr := hP.lt
  obtain ⟨n, hn, hX⟩ := HX.out
  obtain ⟨n, rfl⟩ : ∃ m, n = m + 1 := ⟨n - 1, by omega⟩
  rw [cpartsQ] at hX
  unfold partP at hX
  have KN := Lib.hid (now_pg hP)
  have q3 := fld3
  have HM := Lib.hid (hP.m0 T.length)
  have hB0r : B0 ≤ wr.heap.size := hq.s4.inv.size
  have L4 := Lib.hid hq.lt4
  have L5 := Lib.hid hq.lt5
  have HQr := Lib.hid hq
  have HPr := Lib.hid hP
  clear hP hq HX
  go_wp2_with fail
  refine KN.out.mono ?_
  rintro e w1 ⟨rfl, hx1⟩
  have KP := Lib.hid (pterm_any HG.out (k := 100) (by omega) (b := 0) (by omega) (HPr.out.ext hx1))
  have HQ1 := Lib.hid (HQr.out.ext hx1)
  have hs1 := hx1.size
  clear KN HQr hx1
  go_wp2_with fail
  refine KP.out.mono ?_
  intro e w2 hout
  have HO := Lib.hid hout
  obtain ⟨k', s', n', A', l', c', rfl⟩ := hout.val
  have hs2 := hout.1.size
  have HQ2 := Lib.hid (HQ1.out.step hout.1)
  clear KP hout HQ1
  go_upto_region 4 with (fail)
  obtain ⟨w4, hw4⟩ : ∃ w4, w4 = w2.alloc (.cells #[.int .i64 k', .string s', .int .i64 n', .slice A' l' c'] 58) := ⟨_, rfl⟩
  obtain ⟨tb, htb⟩ : ∃ tb, tb = w2.heap.size := ⟨_, rfl⟩
  have hb4 : Box4 w4 tb (.int .i64 k') (.string s') (.int .i64 n') (.slice A' l' c') := by rw [hw4, htb]; exact Box4.new w2 _ _ _ _ _
  have hx4 : Ext w2 w4 := by rw [hw4]; exact (Ext.refl _).alloc _
  have hs4 := hx4.size
  rw [← hw4, ← htb]
  have HQ4 := Lib.hid (HQ2.out.ext hx4)
  clear hw4 htb HQ2
  obtain ⟨n0, n1, n2, n3, _, _, _, _⟩ := hb4
  obtain ⟨F1, hF1⟩ : ∃ F1, F1 = termP T 100 j := ⟨_, rfl⟩
  have hO := HO.out
  rw [← hF1] at hO hX
  clear HO
  match F1, hF1, hO, hX with
  | .error (q, x), hF1, ⟨_, hx0, _, i', d', hP⟩, hX =>
   have HFE : Hid (F = .error (q, x)) := Lib.hid hX.symm
   have HXE := Lib.hid hx0
   have hxe : (x != 0) = true := by simpa using hx0
   have HP4 := Lib.hid (hP.ext hx4)
   have KC := Lib.hid (cmp_er (k := k') (n := n') (s := s') (B := A') (l := l') (cc := c') HP4.out hx0)
   clear hX hx0 hP hF1 hO hx4
   go_wp2_with fail
   refine KC.out.mono ?_
   rintro e w5 ⟨rfl, hx5⟩
   have c2' := (HP4.out.ext hx5).c2
   have hg5 := (HP4.out.ext hx5).lt
   have HP5 := Lib.hid (HP4.out.ext hx5)
   have HQ5 := Lib.hid (HQ4.out.ext hx5)
   clear KC n0 n1 n2 n3
   go_upto_region 6 with (fail)
   obtain ⟨w6, hw6⟩ : ∃ w6, w6 = w5.alloc (.cells #[.int .i64 0, .int .i64 0, .string ⟨#[]⟩, .int .i64 0, .slice none 0 0, .int .i64 0, .string ⟨#[]⟩, .int .i64 0, .slice none 0 0] 95) := ⟨_, rfl⟩
   have hx6 : Ext w5 w6 := by rw [hw6]; exact (Ext.refl _).alloc _
   rw [← hw6]
   have HQ := Lib.hid (HQ5.out.ext hx6)
   have HP6 := Lib.hid (HP5.out.ext hx6)
   clear hw6 c2' HQ5 hx5 hx6 HQ4
   obtain ⟨cs, hcs⟩ : ∃ cs : List Value, cs = [.int .i64 hd.kind, .string hd.name, .int .i64 hd.n, .slice B hd.args.length bc, .slice SA xs.length sc, .slice SB ys.length sd] := ⟨_, rfl⟩
   have HSH : Hid (ClSh cs) := Lib.hid (by rw [hcs]; exact ⟨_, _, _, _, _, _, _, _, _, _, _, _, rfl⟩)
   have HCS := Lib.hid hcs
   have hrg := HQ.out.bx.range
   rw [← hcs] at hrg
   obtain ⟨zs, hzs, hrz⟩ := HQ.out.rr
   have h6 : cs.length = 6 := HSH.out.len
   have h1 : cs.toArray.all (·.oneCell') = true := by simpa using HSH.out.one
   have hi : (Tryz.prog.info? 73).map (·.size) = some cs.length := by rw [h6]; kernel_rfl
   have hi' : (Tryz.prog.info? 73).map (·.size) = some cs.toArray.size := by simpa using hi
   have hth : (w6).there r 0 cs.toArray.size := by have := hrz.thr; rw [hzs] at this; simpa [h6] using this
   have hrs : ((w6).setCells r 0 cs).rangeAt r 0 cs := World.rangeAt_setCells_same _ _ _ _ (by simpa using hth)
   have hres := run_loadVar_mid (P := Tryz.prog) _ r 0 73 cs _ hrs Tryz.underlying73 rfl hi
   clear hrz hzs hrs h6 hcs
   apply wp_region_lit
   with_reducible refine wpList_load_mid (op := ⟨some 28, _, _, _, _, _⟩) ?o1 73 (.tmp 5) ?o2 p 0 ?o3 cs _ hrg Tryz.underlying73 ?o4 hi ?_
   case o1 => rfl
   case o2 => rfl
   case o3 => rfl
   case o4 => rfl
   with_reducible refine wpList_store_mid (op := ⟨none, _, _, _, _, _⟩) ?o1 73 (.tmp 4) (.tmp 28) ?o2 r 0 cs.toArray ?o3 ?o4 hth hi' h1 ?_
   case o1 => rfl
   case o2 => rfl
   case o3 => rfl
   case o4 => rfl
   refine wpList_nil ?_
   go_wp2_with fail
   refine bodyPost_ret (v := .agg cs.toArray) (by simp [results, Tryz.results25, asAddr, Act.put, hres]) rfl ?_
   obtain ⟨wf, hwf⟩ : ∃ wf, wf = (w6).setCells r 0 cs := ⟨_, rfl⟩
   rw [← hwf]
   obtain ⟨hCwf, hR4, hR5, hCf⟩ := HQ.out.done HX0.out hrw hpw hwf
   clear hwf hres hth hrg hi hi' h1
   have hPf := HP6.out.keep fun y hy hye => hCf.block y hy (by rcases hye with e | e <;> omega)
   rw [HFE.out]
   exact ⟨hCwf, HXE.out, ⟨cs, HSH.out, rfl⟩, _, _, hPf⟩
  | .ok (t, m), hF1, ⟨_, A1, c1, he, hT, hP⟩, hX =>
   have hjm : j < m ∧ m < T.length := termP_takes HT.out 100 j t m hF1.symm
   have HHE := Lib.hid he
   have HHT := Lib.hid hT
   have HP4 := Lib.hid (hP.ext hx4)
   have hml := hP.len
   simp only at hX
   clear he hT hF1 hO
   cases ho : isOp (rl T m) with
   | false =>
    rw [if_neg (by rw [ho]; simp)] at hX
    have KC := Lib.hid (cmp_no HG.out (k := k') (n := n') (s := s') (B := A') (l := l') (cc := c') HP4.out ho)
    clear ho
    go_wp2_with fail
    refine KC.out.mono ?_
    rintro e w5 ⟨rfl, hx5⟩
    have c2' := (HP4.out.ext hx5).c2
    have hg5 := (HP4.out.ext hx5).lt
    have HX5 := Lib.hid hx5
    have HX4 := Lib.hid hx4
    replace n0 := hx5.cell n0
    replace n1 := hx5.cell n1
    replace n2 := hx5.cell n2
    replace n3 := hx5.cell n3
    have htl : tb < w5.heap.size := World.block_lt_of_cell? _ _ n0
    clear KC hx5 hx4 hP
    go_upto_region 9 with (fail)
    obtain ⟨w6, hw6⟩ : ∃ w6, w6 = w5.alloc (.cells #[.int .i64 0, .int .i64 0, .string ⟨#[]⟩, .int .i64 0, .slice none 0 0, .int .i64 0, .string ⟨#[]⟩, .int .i64 0, .slice none 0 0] 95) := ⟨_, rfl⟩
    have hx6 : Ext w5 w6 := by rw [hw6]; exact (Ext.refl _).alloc _
    have hx46 := HX5.out.trans hx6
    rw [← hw6]
    replace n0 := hx6.cell n0
    replace n1 := hx6.cell n1
    replace n2 := hx6.cell n2
    replace n3 := hx6.cell n3
    obtain ⟨f1, f2, f3, f4⟩ : k' = t.kind ∧ s' = t.name ∧ n' = t.n ∧ (A' = A1 ∧ l' = t.args.length ∧ c' = c1) := by
     have he' := HHE.out
     simp only [Ending.returned.injEq, Tm.val, Value.agg.injEq, Array.mk.injEq, List.cons.injEq, Value.int.injEq, Value.string.injEq, Value.slice.injEq, true_and, and_true] at he'
     exact he'
    obtain ⟨f4, f5, f6⟩ := f4
    subst f1 f2 f3 f4 f5 f6
    have hq6 := HQ4.out.ext hx46
    have d4 := hq6.s4.cell
    have s46 := hx46.size
    have hT6 : TmIn w6 (fun b => wr.heap.size ≤ b ∧ b < w6.heap.size) t A' c' := HHT.out.keep fun b hb _ => by
     have h1 := hb.1
     have h2 := hb.2
     exact ⟨by rw [hx46.block b (by omega), HX4.out.block b h2], by omega, by omega⟩
    have HP6 := Lib.hid (HP4.out.ext hx46)
    have HQ6 := Lib.hid hq6
    have HT6 := Lib.hid hT6
    have hown := hq6.s4.inv.own
    have hfz := hq6.s4.fz
    have hpl := World.block_lt_of_cell? _ _ d4
    clear hw6 hq6 hT6 HQ4 c2' hx46 hx6 HHT HHE HX5 HX4 HP4
    go_wp2_with (at_builtin; refine wpList_app _ rfl _ _ 56 rfl B0 58 i0 _ 4 56 Tryz.underlying56 hi0 hz0 hz1 hz2 rfl (by decide) (.slice SA xs.length sc) xs.length (ST.row xs) rfl (hown.alloc _) (some ⟨w6.heap.size, 0, none⟩) 1 1 (ST.cells (t, A', c')) rfl (Src.box w6 #[.int .i64 t.kind, .string t.name, .int .i64 t.n, .slice A' t.args.length c'] 58 4 rfl) (by simp [ST, Lain.cells, Value.oneCell']) ?qc3 ?qc4 ?qc5 ?_)
    case qc3 => unfold maxLen; omega
    case qc4 => omega
    case qc5 => first | omega | (simp; omega)
    intro v' w7 ho7 hg7 hat7
    obtain ⟨q7, cap7, rfl, hcap7⟩ := own_form ho7 (Nat.succ_pos _)
    have k7 := (Chg.of_ext (F := fun x => (Value.slice SA xs.length sc).ownBlock = some x) ((Ext.refl w6).alloc (.cells #[.int .i64 t.kind, .string t.name, .int .i64 t.n, .slice A' t.args.length c'] 58))).trans (own_chg hg7)
    have hnp : (Value.slice SA xs.length sc).ownBlock ≠ some p := fun e => by have := (L4.out p e).1; omega
    have d7 := k7.cell d4 hnp
    have f7 : w7.frozen? ⟨p, 4, none⟩ = false := (World.frozen?_of_block (w := w6) (k7.block p hpl hnp)).trans hfz
    have hat7' : Grown w6 (.slice SA xs.length sc) (.slice (some ⟨q7, 0, none⟩) (xs.length + 1) cap7) := by
     rcases hat7 with e | e
     ·
      exact .inl e
     ·
      refine .inr ⟨q7, rfl, ?_⟩
      have : q7 = w6.heap.size + 1 := by simpa [Value.ownBlock] using e
      omega
    obtain ⟨w8, hw8⟩ : ∃ w8, w8 = w7.setCell ⟨p, 4, none⟩ (.slice (some ⟨q7, 0, none⟩) (xs.length + 1) cap7) := ⟨_, rfl⟩
    have hQ8 := HQ6.out.addT (y := (t, A', c')) (fun q e => (L4.out q e).2) (fun q e => (L5.out q e).2) hB0r HT6.out k7 ho7 hat7' hw8
    have hs8 : w6.heap.size ≤ w8.heap.size := Nat.le_trans k7.size (by rw [hw8]; simp)
    have hP8 : PgAt w8 g A c T m 0 a ((0 : Nat) : Int) := by
     have kk : Chg (fun x => x = p ∨ (Value.slice SA xs.length sc).ownBlock = some x) w6 w8 := by rw [hw8]; exact (k7.weak fun _ e => .inr e).trans (((Chg.refl (fun x => x = p) w7).setg _ _).weak fun _ e => .inl e)
     exact HP6.out.own kk (fun q e => (L4.out q e).1) ⟨hgB, hpg⟩ ⟨hAB, hpA⟩
    have HW8 := Lib.hid hw8
    have HQ8 := Lib.hid hQ8
    have HP8 := Lib.hid hP8
    have e4 := hQ8.s4.cell
    have e5 := hQ8.s5.cell
    clear hw8 hQ8 hP8 k7 ho7 hg7 hat7 hat7' hown hfz hpl hnp d4 n0 n1 n2 n3 HQ6 HP6 HT6
    go_upto_region 10 with (fail)
    rw [← HW8.out]
    clear d7 f7 HW8
    by_cases hl : xs.length = 3
    ·
     have HFE : Hid (F = .error (lim T j)) := Lib.hid (by rw [if_pos (by simpa using hl)] at hX; exact hX.symm)
     have hl3 : decide (3 < (xs.length : Int) + 1) = true := decide_eq_true (by omega)
     have KF := Lib.hid (fails_yes 2 (tk T j).at_ HP8.out)
     have HXE : Hid ((2 : Int) ≠ 0) := Lib.hid (by decide)
     clear hX hl
     go_wp2_with fail
     refine KF.out.mono ?_
     rintro e w9 ⟨rfl, hP9, hC9⟩
     have HQ9 := Lib.hid (HQ8.out.step hC9)
     have KT := Lib.hid (take_per ⟨#[44]⟩ hP9 HXE.out)
     have HP9 := Lib.hid hP9
     clear KF hP9 hC9 HQ8 HP8 e4 e5
     go_wp2_with fail
     refine KT.out.mono ?_
     rintro e w10 ⟨rfl, hx10⟩
     have HQ := Lib.hid (HQ9.out.ext hx10)
     have HP10 := Lib.hid (HP9.out.ext hx10)
     clear KT hx10 HQ9 HP9
     go_upto_region 13 with (fail)
     obtain ⟨cs, hcs⟩ : ∃ cs : List Value, cs = [.int .i64 hd.kind, .string hd.name, .int .i64 hd.n, .slice B hd.args.length bc, .slice (some ⟨q7, 0, none⟩) (xs.length + 1) cap7, .slice SB ys.length sd] := ⟨_, rfl⟩
     have HSH : Hid (ClSh cs) := Lib.hid (by rw [hcs]; exact ⟨_, _, _, _, _, _, _, _, _, _, _, _, rfl⟩)
     have HCS := Lib.hid hcs
     have hrg := HQ.out.bx.range
     rw [← hcs] at hrg
     obtain ⟨zs, hzs, hrz⟩ := HQ.out.rr
     have h6 : cs.length = 6 := HSH.out.len
     have h1 : cs.toArray.all (·.oneCell') = true := by simpa using HSH.out.one
     have hi : (Tryz.prog.info? 73).map (·.size) = some cs.length := by rw [h6]; kernel_rfl
     have hi' : (Tryz.prog.info? 73).map (·.size) = some cs.toArray.size := by simpa using hi
     have hth : (w10).there r 0 cs.toArray.size := by have := hrz.thr; rw [hzs] at this; simpa [h6] using this
     have hrs : ((w10).setCells r 0 cs).rangeAt r 0 cs := World.rangeAt_setCells_same _ _ _ _ (by simpa using hth)
     have hres := run_loadVar_mid (P := Tryz.prog) _ r 0 73 cs _ hrs Tryz.underlying73 rfl hi
     clear hrz hzs hrs h6 hcs
     apply wp_region_lit
     with_reducible refine wpList_load_mid (op := ⟨some 58, _, _, _, _, _⟩) ?o1 73 (.tmp 5) ?o2 p 0 ?o3 cs _ hrg Tryz.underlying73 ?o4 hi ?_
     case o1 => rfl
     case o2 => rfl
     case o3 => rfl
     case o4 => rfl
     with_reducible refine wpList_store_mid (op := ⟨none, _, _, _, _, _⟩) ?o1 73 (.tmp 4) (.tmp 58) ?o2 r 0 cs.toArray ?o3 ?o4 hth hi' h1 ?_
     case o1 => rfl
     case o2 => rfl
     case o3 => rfl
     case o4 => rfl
     refine wpList_nil ?_
     go_wp2_with fail
     refine bodyPost_ret (v := .agg cs.toArray) (by simp [results, Tryz.results25, asAddr, Act.put, hres]) rfl ?_
     obtain ⟨wf, hwf⟩ : ∃ wf, wf = (w10).setCells r 0 cs := ⟨_, rfl⟩
     rw [← hwf]
     obtain ⟨hCwf, hR4, hR5, hCf⟩ := HQ.out.done HX0.out hrw hpw hwf
     clear hwf hres hth hrg hi hi' h1
     have hPf := HP10.out.keep fun y hy hye => hCf.block y hy (by rcases hye with e | e <;> omega)
     rw [HFE.out]
     exact ⟨hCwf, HXE.out, ⟨cs, HSH.out, rfl⟩, _, _, hPf⟩
    ·
     have hX' : (if rl T m = 6 then cpartsQ T n ⟨hd, (xs ++ [(t, A', c')]).map (·.1), ys.map (·.1)⟩ (m + 1) else .ok (⟨hd, (xs ++ [(t, A', c')]).map (·.1), ys.map (·.1)⟩, m)) = F := by
      rw [if_neg (by simpa using hl)] at hX
      simpa using hX
     have hl3 : decide (3 < (xs.length : Int) + 1) = false := decide_eq_false (by omega)
     have hl4 : decide (4 < (ys.length : Int)) = false := decide_eq_false (by omega)
     have hnl : xs.length + 1 ≤ 3 := by omega
     clear hX hl
     by_cases h6 : rl T m = 6
     ·
      rw [if_pos h6] at hX'
      have KT := Lib.hid (take_pyes HG.out 2 (by omega) _ comma_txt HP8.out h6)
      have HX' := Lib.hid hX'
      clear hX' h6
      go_wp2_with fail
      refine KT.out.mono ?_
      rintro e w9 ⟨rfl, hP9, hC9⟩
      have HQ := Lib.hid (HQ8.out.step hC9)
      have HP9 := Lib.hid hP9
      clear KT hP9 hC9 HQ8 HP8 e4 e5
      go_wp2_with fail
      go_roundw
      case rel => exact ⟨m + 1, _, _, some ⟨q7, 0, none⟩, cap7, SB, sd, xs ++ [(t, A', c')], ys, by simp, by simp, HP9.out, HQ.out, by first | omega | (simp; omega), by first | omega | (simp; omega), Lib.hid ⟨n, by omega, HX'.out⟩⟩
      case measure => rw [HM.out, HP9.out.m0]; omega
     ·
      rw [if_neg h6] at hX'
      have KT := Lib.hid (take_pno HG.out 2 (by omega) _ comma_txt HP8.out (by omega))
      have HX' := Lib.hid hX'
      clear hX' h6
      go_wp2_with fail
      refine KT.out.mono ?_
      rintro e w9 ⟨rfl, hx9⟩
      have HQ := Lib.hid (HQ8.out.ext hx9)
      have HP9 := Lib.hid (HP8.out.ext hx9)
      clear KT hx9 HQ8 HP8 e4 e5
      go_upto_region 13 with (fail)
      obtain ⟨cs, hcs⟩ : ∃ cs : List Value, cs = [.int .i64 hd.kind, .string hd.name, .int .i64 hd.n, .slice B hd.args.length bc, .slice (some ⟨q7, 0, none⟩) (xs.length + 1) cap7, .slice SB ys.length sd] := ⟨_, rfl⟩
      have HSH : Hid (ClSh cs) := Lib.hid (by rw [hcs]; exact ⟨_, _, _, _, _, _, _, _, _, _, _, _, rfl⟩)
      have HCS := Lib.hid hcs
      have hrg := HQ.out.bx.range
      rw [← hcs] at hrg
      obtain ⟨zs, hzs, hrz⟩ := HQ.out.rr
      have h6 : cs.length = 6 := HSH.out.len
      have h1 : cs.toArray.all (·.oneCell') = true := by simpa using HSH.out.one
      have hi : (Tryz.prog.info? 73).map (·.size) = some cs.length := by rw [h6]; kernel_rfl
      have hi' : (Tryz.prog.info? 73).map (·.size) = some cs.toArray.size := by simpa using hi
      have hth : (w9).there r 0 cs.toArray.size := by have := hrz.thr; rw [hzs] at this; simpa [h6] using this
      have hrs : ((w9).setCells r 0 cs).rangeAt r 0 cs := World.rangeAt_setCells_same _ _ _ _ (by simpa using hth)
      have hres := run_loadVar_mid (P := Tryz.prog) _ r 0 73 cs _ hrs Tryz.underlying73 rfl hi
      clear hrz hzs hrs h6 hcs
      apply wp_region_lit
      with_reducible refine wpList_load_mid (op := ⟨some 58, _, _, _, _, _⟩) ?o1 73 (.tmp 5) ?o2 p 0 ?o3 cs _ hrg Tryz.underlying73 ?o4 hi ?_
      case o1 => rfl
      case o2 => rfl
      case o3 => rfl
      case o4 => rfl
      with_reducible refine wpList_store_mid (op := ⟨none, _, _, _, _, _⟩) ?o1 73 (.tmp 4) (.tmp 58) ?o2 r 0 cs.toArray ?o3 ?o4 hth hi' h1 ?_
      case o1 => rfl
      case o2 => rfl
      case o3 => rfl
      case o4 => rfl
      refine wpList_nil ?_
      go_wp2_with fail
      refine bodyPost_ret (v := .agg cs.toArray) (by simp [results, Tryz.results25, asAddr, Act.put, hres]) rfl ?_
      obtain ⟨wf, hwf⟩ : ∃ wf, wf = (w9).setCells r 0 cs := ⟨_, rfl⟩
      rw [← hwf]
      obtain ⟨hCwf, hR4, hR5, hCf⟩ := HQ.out.done HX0.out hrw hpw hwf
      clear hwf hres hth hrg hi hi' h1
      have hPf := HP9.out.keep fun y hy hye => hCf.block y hy (by rcases hye with e | e <;> omega)
      rw [← HX'.out]
      exact ⟨hCwf, xs ++ [(t, A', c')], some ⟨q7, 0, none⟩, cap7, ys, SB, sd, rfl, by rw [HCS.out]; simp, by simpa using hR4, by simpa using hR5, hPf⟩
   | true =>
    rw [if_pos ho] at hX
    unfold opP at hX
    have KC := Lib.hid (cmp_yes HG.out (k := k') (n := n') (s := s') (B := A') (l := l') (cc := c') HP4.out ho)
    obtain ⟨RR, hRR⟩ : ∃ RR : Int, RR = (rl T m : Nat) - 14 := ⟨_, rfl⟩
    rw [← hRR] at KC hX
    have HX4 := Lib.hid hx4
    clear ho hRR hx4 hP
    go_wp2_with fail
    refine KC.out.mono ?_
    intro e w5 hout
    have HO5 := Lib.hid hout
    obtain ⟨k2, s2, m9, A2, l2, d2, rfl⟩ := hout.val'
    have hC5 := hout.1
    have hs5 := hC5.size
    have HQ5 := Lib.hid (HQ4.out.step hC5)
    have HC5 := Lib.hid hC5
    clear KC hout n0 n1 n2 n3 HQ4 hC5
    go_upto_region 5 with (fail)
    obtain ⟨gs, hgs⟩ : ∃ gs : List Value, gs = [.int .i64 RR, .int .i64 k', .string s', .int .i64 n', .slice A' l' c', .int .i64 k2, .string s2, .int .i64 m9, .slice A2 l2 d2] := ⟨_, rfl⟩
    obtain ⟨w6, hw6⟩ : ∃ w6, w6 = w5.alloc (.cells #[.int .i64 RR, .int .i64 k', .string s', .int .i64 n', .slice A' l' c', .int .i64 k2, .string s2, .int .i64 m9, .slice A2 l2 d2] 95) := ⟨_, rfl⟩
    obtain ⟨gb, hgb⟩ : ∃ gb, gb = w5.heap.size := ⟨_, rfl⟩
    have hrB : Box9 w6 gb gs := by rw [hw6, hgs, hgb]; exact Box9.new w5 _ _ rfl
    have hx6 : Ext w5 w6 := by rw [hw6]; exact (Ext.refl _).alloc _
    have hs6 := hx6.size
    rw [← hw6, ← hgb]
    have HQ6 := Lib.hid (HQ5.out.ext hx6)
    have HX6 := Lib.hid hx6
    clear hw6 hgb HQ5 hx6
    obtain ⟨F2, hF2⟩ : ∃ F2, F2 = termP T 100 (m + 1) := ⟨_, rfl⟩
    have hO5 := HO5.out
    rw [← hF2] at hO5 hX
    clear HO5
    match F2, hF2, hO5, hX with
    | .error (q, x), hF2, ⟨_, hx0, _, i', d', hP⟩, hX =>
     have HFE : Hid (F = .error (q, x)) := Lib.hid hX.symm
     have HXE := Lib.hid hx0
     have hxe : (x != 0) = true := by simpa using hx0
     have HP6 := Lib.hid (hP.ext HX6.out)
     have c2' := HP6.out.c2
     have HQ := HQ6
     clear hX hx0 hP hF2 hO5 hrB
     go_upto_region 6 with (fail)
     clear c2'
     obtain ⟨cs, hcs⟩ : ∃ cs : List Value, cs = [.int .i64 hd.kind, .string hd.name, .int .i64 hd.n, .slice B hd.args.length bc, .slice SA xs.length sc, .slice SB ys.length sd] := ⟨_, rfl⟩
     have HSH : Hid (ClSh cs) := Lib.hid (by rw [hcs]; exact ⟨_, _, _, _, _, _, _, _, _, _, _, _, rfl⟩)
     have HCS := Lib.hid hcs
     have hrg := HQ.out.bx.range
     rw [← hcs] at hrg
     obtain ⟨zs, hzs, hrz⟩ := HQ.out.rr
     have h6 : cs.length = 6 := HSH.out.len
     have h1 : cs.toArray.all (·.oneCell') = true := by simpa using HSH.out.one
     have hi : (Tryz.prog.info? 73).map (·.size) = some cs.length := by rw [h6]; kernel_rfl
     have hi' : (Tryz.prog.info? 73).map (·.size) = some cs.toArray.size := by simpa using hi
     have hth : (w6).there r 0 cs.toArray.size := by have := hrz.thr; rw [hzs] at this; simpa [h6] using this
     have hrs : ((w6).setCells r 0 cs).rangeAt r 0 cs := World.rangeAt_setCells_same _ _ _ _ (by simpa using hth)
     have hres := run_loadVar_mid (P := Tryz.prog) _ r 0 73 cs _ hrs Tryz.underlying73 rfl hi
     clear hrz hzs hrs h6 hcs
     apply wp_region_lit
     with_reducible refine wpList_load_mid (op := ⟨some 28, _, _, _, _, _⟩) ?o1 73 (.tmp 5) ?o2 p 0 ?o3 cs _ hrg Tryz.underlying73 ?o4 hi ?_
     case o1 => rfl
     case o2 => rfl
     case o3 => rfl
     case o4 => rfl
     with_reducible refine wpList_store_mid (op := ⟨none, _, _, _, _, _⟩) ?o1 73 (.tmp 4) (.tmp 28) ?o2 r 0 cs.toArray ?o3 ?o4 hth hi' h1 ?_
     case o1 => rfl
     case o2 => rfl
     case o3 => rfl
     case o4 => rfl
     refine wpList_nil ?_
     go_wp2_with fail
     refine bodyPost_ret (v := .agg cs.toArray) (by simp [results, Tryz.results25, asAddr, Act.put, hres]) rfl ?_
     obtain ⟨wf, hwf⟩ : ∃ wf, wf = (w6).setCells r 0 cs := ⟨_, rfl⟩
     rw [← hwf]
     obtain ⟨hCwf, hR4, hR5, hCf⟩ := HQ.out.done HX0.out hrw hpw hwf
     clear hwf hres hth hrg hi hi' h1
     have hPf := HP6.out.keep fun y hy hye => hCf.block y hy (by rcases hye with e | e <;> omega)
     rw [HFE.out]
     exact ⟨hCwf, HXE.out, ⟨cs, HSH.out, rfl⟩, _, _, hPf⟩
    | .ok (u, m2), hF2, ⟨_, A3, c3, he3, hT3, hP⟩, hX =>
     have hm2 : m + 1 < m2 ∧ m2 < T.length := termP_takes HT.out 100 (m + 1) u m2 hF2.symm
     have HP6 := Lib.hid (hP.ext HX6.out)
     have c2' := HP6.out.c2
     have HHE3 := Lib.hid he3
     have HHT3 := Lib.hid hT3
     simp only at hX
     clear he3 hT3 hP hF2 hO5
     go_upto_region 8 with (fail)
     clear c2'
     obtain ⟨f1, f2, f3, f4⟩ : k' = t.kind ∧ s' = t.name ∧ n' = t.n ∧ (A' = A1 ∧ l' = t.args.length ∧ c' = c1) := by
      have he' := HHE.out
      simp only [Ending.returned.injEq, Tm.val, Value.agg.injEq, Array.mk.injEq, List.cons.injEq, Value.int.injEq, Value.string.injEq, Value.slice.injEq, true_and, and_true] at he'
      exact he'
     obtain ⟨f4, f5, f6⟩ := f4
     subst f1 f2 f3 f4 f5 f6
     obtain ⟨f1, f2, f3, f4⟩ : k2 = u.kind ∧ s2 = u.name ∧ m9 = u.n ∧ (A2 = A3 ∧ l2 = u.args.length ∧ d2 = c3) := by
      have he' := HHE3.out
      simp only [Ending.returned.injEq, Value.tuple.injEq, Value.agg.injEq, Array.mk.injEq, List.cons.injEq, Value.int.injEq, Value.string.injEq, Value.slice.injEq, true_and, and_true] at he'
      exact he'
     obtain ⟨f4, f5, f6⟩ := f4
     subst f1 f2 f3 f4 f5 f6
     obtain ⟨yy, hyy⟩ : ∃ yy : GLain, yy = (⟨RR, t, u⟩, ⟨A', c', A2, d2⟩) := ⟨_, rfl⟩
     have hgc : gdCells yy = [.int .i64 RR, .int .i64 t.kind, .string t.name, .int .i64 t.n, .slice A' t.args.length c', .int .i64 u.kind, .string u.name, .int .i64 u.n, .slice A2 u.args.length d2] := by rw [hyy]; rfl
     rw [hgs] at hrB
     obtain ⟨g0, g1, g2, g3, g4, g5, g6, g7, g8⟩ := hrB.get
     have hT6 : GdIn w6 (fun b => wr.heap.size ≤ b ∧ b < w6.heap.size) yy := by
      rw [hyy]
      refine ⟨HHT.out.keep fun b hb _ => ?_, HHT3.out.keep fun b hb _ => ?_⟩
      ·
       have h1 := hb.1
       have h2 := hb.2
       exact ⟨by rw [HX6.out.block b (by omega), HC5.out.block b (by omega) (by omega), HX4.out.block b h2], by omega, by omega⟩
      ·
       have h1 := hb.1
       have h2 := hb.2
       exact ⟨by rw [HX6.out.block b h2], by omega, by omega⟩
     have d5 := HQ6.out.s5.cell
     have HT6 := Lib.hid hT6
     have hown := HQ6.out.s5.inv.own
     have hfz := HQ6.out.s5.fz
     have hpl := World.block_lt_of_cell? _ _ d5
     have HYY : Hid (yy.1 = ⟨RR, t, u⟩) := Lib.hid (by rw [hyy])
     have H1 : Hid (∀ u ∈ gdCells yy, u.oneCell' = true) := Lib.hid (gdCells_one yy)
     rw [hgc] at H1
     have HGC := Lib.hid hgc
     clear hT6 HHT HHE HHT3 HHE3 HX4 HC5 HP4 hrB hgs hyy hgc
     go_wp2_with (at_builtin; refine wpList_app _ rfl _ _ 64 rfl B0 95 j0 _ 9 120 Tryz.underlying64 hj0 hy0 hy1 hy2 rfl (by decide) (.slice SB ys.length sd) ys.length (SG.row ys) rfl (hown.alloc _) (some ⟨w6.heap.size, 0, none⟩) 1 1 [.int .i64 RR, .int .i64 t.kind, .string t.name, .int .i64 t.n, .slice A' t.args.length c', .int .i64 u.kind, .string u.name, .int .i64 u.n, .slice A2 u.args.length d2] rfl (Src.box w6 #[.int .i64 RR, .int .i64 t.kind, .string t.name, .int .i64 t.n, .slice A' t.args.length c', .int .i64 u.kind, .string u.name, .int .i64 u.n, .slice A2 u.args.length d2] 95 9 rfl) H1.out ?qc3 ?qc4 ?qc5 ?_)
     case qc3 => unfold maxLen; omega
     case qc4 => omega
     case qc5 => first | omega | (simp; omega)
     intro v' w7 ho7 hg7 hat7
     obtain ⟨q7, cap7, rfl, hcap7⟩ := own_form ho7 (Nat.succ_pos _)
     have k7 := (Chg.of_ext (F := fun x => (Value.slice SB ys.length sd).ownBlock = some x) ((Ext.refl w6).alloc (.cells #[.int .i64 RR, .int .i64 t.kind, .string t.name, .int .i64 t.n, .slice A' t.args.length c', .int .i64 u.kind, .string u.name, .int .i64 u.n, .slice A2 u.args.length d2] 95))).trans (own_chg hg7)
     have hnp : (Value.slice SB ys.length sd).ownBlock ≠ some p := fun e => by have := (L5.out p e).1; omega
     have d7 := k7.cell d5 hnp
     have f7 : w7.frozen? ⟨p, 5, none⟩ = false := (World.frozen?_of_block (w := w6) (k7.block p hpl hnp)).trans hfz
     have hat7' : Grown w6 (.slice SB ys.length sd) (.slice (some ⟨q7, 0, none⟩) (ys.length + 1) cap7) := by
      rcases hat7 with e | e
      ·
       exact .inl e
      ·
       refine .inr ⟨q7, rfl, ?_⟩
       have : q7 = w6.heap.size + 1 := by simpa [Value.ownBlock] using e
       omega
     obtain ⟨w8, hw8⟩ : ∃ w8, w8 = w7.setCell ⟨p, 5, none⟩ (.slice (some ⟨q7, 0, none⟩) (ys.length + 1) cap7) := ⟨_, rfl⟩
     rw [← HGC.out] at ho7
     have hQ8 := HQ6.out.addG (y := yy) (fun q e => (L4.out q e).2) (fun q e => (L5.out q e).2) hB0r HT6.out k7 ho7 hat7' hw8
     have hs8 : w6.heap.size ≤ w8.heap.size := Nat.le_trans k7.size (by rw [hw8]; simp)
     have hP8 : PgAt w8 g A c T m2 0 a ((0 : Nat) : Int) := by
      have kk : Chg (fun x => x = p ∨ (Value.slice SB ys.length sd).ownBlock = some x) w6 w8 := by rw [hw8]; exact (k7.weak fun _ e => .inr e).trans (((Chg.refl (fun x => x = p) w7).setg _ _).weak fun _ e => .inl e)
      exact HP6.out.own kk (fun q e => (L5.out q e).1) ⟨hgB, hpg⟩ ⟨hAB, hpA⟩
     have HW8 := Lib.hid hw8
     have HQ8 := Lib.hid hQ8
     have HP8 := Lib.hid hP8
     have e4 := hQ8.s4.cell
     have e5 := hQ8.s5.cell
     clear hw8 hQ8 hP8 k7 ho7 hg7 hat7 hat7' hown hfz hpl hnp d5 HQ6 HP6 HT6 g0 g1 g2 g3 g4 g5 g6 g7 g8
     go_upto_region 10 with (fail)
     rw [← HW8.out]
     clear d7 f7 HW8
     by_cases hl : ys.length = 4
     ·
      have HFE : Hid (F = .error (lim T j)) := Lib.hid (by rw [if_pos (by simpa using hl)] at hX; exact hX.symm)
      have hl3 : decide (3 < (xs.length : Int)) = false := decide_eq_false (by omega)
      have hl4 : decide (4 < (ys.length : Int) + 1) = true := decide_eq_true (by omega)
      have KF := Lib.hid (fails_yes 2 (tk T j).at_ HP8.out)
      have HXE : Hid ((2 : Int) ≠ 0) := Lib.hid (by decide)
      clear hX hl
      go_wp2_with fail
      refine KF.out.mono ?_
      rintro e w9 ⟨rfl, hP9, hC9⟩
      have HQ9 := Lib.hid (HQ8.out.step hC9)
      have KT := Lib.hid (take_per ⟨#[44]⟩ hP9 HXE.out)
      have HP9 := Lib.hid hP9
      clear KF hP9 hC9 HQ8 HP8 e4 e5
      go_wp2_with fail
      refine KT.out.mono ?_
      rintro e w10 ⟨rfl, hx10⟩
      have HQ := Lib.hid (HQ9.out.ext hx10)
      have HP10 := Lib.hid (HP9.out.ext hx10)
      clear KT hx10 HQ9 HP9
      go_upto_region 13 with (fail)
      obtain ⟨cs, hcs⟩ : ∃ cs : List Value, cs = [.int .i64 hd.kind, .string hd.name, .int .i64 hd.n, .slice B hd.args.length bc, .slice SA xs.length sc, .slice (some ⟨q7, 0, none⟩) (ys.length + 1) cap7] := ⟨_, rfl⟩
      have HSH : Hid (ClSh cs) := Lib.hid (by rw [hcs]; exact ⟨_, _, _, _, _, _, _, _, _, _, _, _, rfl⟩)
      have HCS := Lib.hid hcs
      have hrg := HQ.out.bx.range
      rw [← hcs] at hrg
      obtain ⟨zs, hzs, hrz⟩ := HQ.out.rr
      have h6 : cs.length = 6 := HSH.out.len
      have h1 : cs.toArray.all (·.oneCell') = true := by simpa using HSH.out.one
      have hi : (Tryz.prog.info? 73).map (·.size) = some cs.length := by rw [h6]; kernel_rfl
      have hi' : (Tryz.prog.info? 73).map (·.size) = some cs.toArray.size := by simpa using hi
      have hth : (w10).there r 0 cs.toArray.size := by have := hrz.thr; rw [hzs] at this; simpa [h6] using this
      have hrs : ((w10).setCells r 0 cs).rangeAt r 0 cs := World.rangeAt_setCells_same _ _ _ _ (by simpa using hth)
      have hres := run_loadVar_mid (P := Tryz.prog) _ r 0 73 cs _ hrs Tryz.underlying73 rfl hi
      clear hrz hzs hrs h6 hcs
      apply wp_region_lit
      with_reducible refine wpList_load_mid (op := ⟨some 58, _, _, _, _, _⟩) ?o1 73 (.tmp 5) ?o2 p 0 ?o3 cs _ hrg Tryz.underlying73 ?o4 hi ?_
      case o1 => rfl
      case o2 => rfl
      case o3 => rfl
      case o4 => rfl
      with_reducible refine wpList_store_mid (op := ⟨none, _, _, _, _, _⟩) ?o1 73 (.tmp 4) (.tmp 58) ?o2 r 0 cs.toArray ?o3 ?o4 hth hi' h1 ?_
      case o1 => rfl
      case o2 => rfl
      case o3 => rfl
      case o4 => rfl
      refine wpList_nil ?_
      go_wp2_with fail
      refine bodyPost_ret (v := .agg cs.toArray) (by simp [results, Tryz.results25, asAddr, Act.put, hres]) rfl ?_
      obtain ⟨wf, hwf⟩ : ∃ wf, wf = (w10).setCells r 0 cs := ⟨_, rfl⟩
      rw [← hwf]
      obtain ⟨hCwf, hR4, hR5, hCf⟩ := HQ.out.done HX0.out hrw hpw hwf
      clear hwf hres hth hrg hi hi' h1
      have hPf := HP10.out.keep fun y hy hye => hCf.block y hy (by rcases hye with e | e <;> omega)
      rw [HFE.out]
      exact ⟨hCwf, HXE.out, ⟨cs, HSH.out, rfl⟩, _, _, hPf⟩
     ·
      have hX' : (if rl T m2 = 6 then cpartsQ T n ⟨hd, xs.map (·.1), (ys ++ [yy]).map (·.1)⟩ (m2 + 1) else .ok (⟨hd, xs.map (·.1), (ys ++ [yy]).map (·.1)⟩, m2)) = F := by
       rw [if_neg (by simpa using hl)] at hX
       simpa [HYY.out] using hX
      have hl3 : decide (3 < (xs.length : Int)) = false := decide_eq_false (by omega)
      have hl4 : decide (4 < (ys.length : Int) + 1) = false := decide_eq_false (by omega)
      have hnl : ys.length + 1 ≤ 4 := by omega
      clear hX hl
      by_cases h6 : rl T m2 = 6
      ·
       rw [if_pos h6] at hX'
       have KT := Lib.hid (take_pyes HG.out 2 (by omega) _ comma_txt HP8.out h6)
       have HX' := Lib.hid hX'
       clear hX' h6
       go_wp2_with fail
       refine KT.out.mono ?_
       rintro e w9 ⟨rfl, hP9, hC9⟩
       have HQ := Lib.hid (HQ8.out.step hC9)
       have HP9 := Lib.hid hP9
       clear KT hP9 hC9 HQ8 HP8 e4 e5
       go_wp2_with fail
       go_roundw
       case rel => exact ⟨m2 + 1, _, _, SA, sc, some ⟨q7, 0, none⟩, cap7, xs, ys ++ [yy], by simp, by simp, HP9.out, HQ.out, by first | omega | (simp; omega), by first | omega | (simp; omega), Lib.hid ⟨n, by omega, HX'.out⟩⟩
       case measure => rw [HM.out, HP9.out.m0]; omega
      ·
       rw [if_neg h6] at hX'
       have KT := Lib.hid (take_pno HG.out 2 (by omega) _ comma_txt HP8.out (by omega))
       have HX' := Lib.hid hX'
       clear hX' h6
       go_wp2_with fail
       refine KT.out.mono ?_
       rintro e w9 ⟨rfl, hx9⟩
       have HQ := Lib.hid (HQ8.out.ext hx9)
       have HP9 := Lib.hid (HP8.out.ext hx9)
       clear KT hx9 HQ8 HP8 e4 e5
       go_upto_region 13 with (fail)
       obtain ⟨cs, hcs⟩ : ∃ cs : List Value, cs = [.int .i64 hd.kind, .string hd.name, .int .i64 hd.n, .slice B hd.args.length bc, .slice SA xs.length sc, .slice (some ⟨q7, 0, none⟩) (ys.length + 1) cap7] := ⟨_, rfl⟩
       have HSH : Hid (ClSh cs) := Lib.hid (by rw [hcs]; exact ⟨_, _, _, _, _, _, _, _, _, _, _, _, rfl⟩)
       have HCS := Lib.hid hcs
       have hrg := HQ.out.bx.range
       rw [← hcs] at hrg
       obtain ⟨zs, hzs, hrz⟩ := HQ.out.rr
       have h6 : cs.length = 6 := HSH.out.len
       have h1 : cs.toArray.all (·.oneCell') = true := by simpa using HSH.out.one
       have hi : (Tryz.prog.info? 73).map (·.size) = some cs.length := by rw [h6]; kernel_rfl
       have hi' : (Tryz.prog.info? 73).map (·.size) = some cs.toArray.size := by simpa using hi
       have hth : (w9).there r 0 cs.toArray.size := by have := hrz.thr; rw [hzs] at this; simpa [h6] using this
       have hrs : ((w9).setCells r 0 cs).rangeAt r 0 cs := World.rangeAt_setCells_same _ _ _ _ (by simpa using hth)
       have hres := run_loadVar_mid (P := Tryz.prog) _ r 0 73 cs _ hrs Tryz.underlying73 rfl hi
       clear hrz hzs hrs h6 hcs
       apply wp_region_lit
       with_reducible refine wpList_load_mid (op := ⟨some 58, _, _, _, _, _⟩) ?o1 73 (.tmp 5) ?o2 p 0 ?o3 cs _ hrg Tryz.underlying73 ?o4 hi ?_
       case o1 => rfl
       case o2 => rfl
       case o3 => rfl
       case o4 => rfl
       with_reducible refine wpList_store_mid (op := ⟨none, _, _, _, _, _⟩) ?o1 73 (.tmp 4) (.tmp 58) ?o2 r 0 cs.toArray ?o3 ?o4 hth hi' h1 ?_
       case o1 => rfl
       case o2 => rfl
       case o3 => rfl
       case o4 => rfl
       refine wpList_nil ?_
       go_wp2_with fail
       refine bodyPost_ret (v := .agg cs.toArray) (by simp [results, Tryz.results25, asAddr, Act.put, hres]) rfl ?_
       obtain ⟨wf, hwf⟩ : ∃ wf, wf = (w9).setCells r 0 cs := ⟨_, rfl⟩
       rw [← hwf]
       obtain ⟨hCwf, hR4, hR5, hCf⟩ := HQ.out.done HX0.out hrw hpw hwf
       clear hwf hres hth hrg hi hi' h1
       have hPf := HP9.out.keep fun y hy hye => hCf.block y hy (by rcases hye with e | e <;> omega)
       rw [← HX'.out]
       exact ⟨hCwf, xs, SA, sc, ys ++ [yy], some ⟨q7, 0, none⟩, cap7, rfl, by rw [HCS.out]; simp, by simpa using hR4, by simpa using hR5, hPf⟩
end Go.Proofs.YtbjghkmjnhmlfaaGreatDoor

/- The page's reader: rule. -/
namespace Go.Proofs.YtbjghkmjnhmlfaaGreatDoor
open Go.RowKit

theorem fld2' (k : Int) (t : ByteArray) (n p : Int) (w : World) : (Instr.field 54 (.agg #[.int .i64 k, .string t, .int .i64 n, .int .i64 p]) 2).run Tryz.prog w = .ok (.int .i64 n) w := by kernel_rfl
theorem hdL_one (hd : Tm) (B : Option Addr) (bc : Nat) : ∀ v ∈ hdL hd B bc, v.oneCell' = true := by
 intro v hv
 simp only [hdL, List.mem_cons, List.not_mem_nil, or_false] at hv
 rcases hv with rfl | rfl | rfl | rfl <;> rfl
theorem Sh9.one' {cs : List Value} (h : Sh9 cs) : ∀ v ∈ cs, v.oneCell' = true := by
 obtain ⟨_, _, _, _, _, _, _, _, _, _, _, _, _, _, _, _, _, rfl⟩ := h
 intro v hv
 simp only [List.mem_cons, List.not_mem_nil, or_false] at hv
 rcases hv with rfl | rfl | rfl | rfl | rfl | rfl | rfl | rfl | rfl <;> rfl
theorem Sh9.len' {cs : List Value} (h : Sh9 cs) : cs.length = 9 := by
 obtain ⟨_, _, _, _, _, _, _, _, _, _, _, _, _, _, _, _, _, rfl⟩ := h
 rfl
theorem rx_one {h4 cs : List Value} {v : Value} {n p : Int} (h : ∀ u ∈ h4, u.oneCell' = true) (hc : ∀ u ∈ cs, u.oneCell' = true) (hv : ∃ A l c, v = .slice A l c) : (rx h4 cs v n p).toArray.all (·.oneCell') = true := by
 obtain ⟨A, l, c, rfl⟩ := hv
 refine all_oneCell_toArray fun u hu => ?_
 simp only [rx, List.mem_append, List.mem_cons, List.not_mem_nil, or_false] at hu
 rcases hu with (hu | hu) | hu | hu | hu
 ·
  exact h u hu
 ·
  exact hc u hu
 ·
  subst hu; rfl
 ·
  subst hu; rfl
 ·
  subst hu; rfl
set_option maxRecDepth 100000 in
set_option maxHeartbeats 32000000 in
theorem rule_pg {T : List Tok} (hG : ToksG T) {w : World} {g A c i : Nat} {a : Int} (h : PgAt w g A c T i 0 a ((0 : Nat) : Int)) (hd : Tm) (B : Option Addr) (bc : Nat) :
  Calls Tryz.prog 21 #[.pointer (some ⟨g, 0, none⟩), .agg #[.int .i64 hd.kind, .string hd.name, .int .i64 hd.n, .slice B hd.args.length bc]] w (RqTo w g A c T a i hd B bc (ruleQ T hd i)) := by
 have hgl := h.lt
 have hlo := h.low
 have hne := h.ne
 obtain ⟨F, hF⟩ : ∃ F, F = ruleQ T hd i := ⟨_, rfl⟩
 rw [← hF]
 obtain ⟨w0, hw0⟩ : ∃ w0, w0 = ((w.alloc (.cells #[.int .i64 hd.kind, .string hd.name, .int .i64 hd.n, .slice B hd.args.length bc] 58)).alloc (.cells #[.int .i64 0, .string ⟨#[]⟩, .int .i64 0, .slice none 0 0, .int .i64 0, .int .i64 0, .string ⟨#[]⟩, .int .i64 0, .slice none 0 0, .int .i64 0, .slice none 0 0, .slice none 0 0, .slice none 0 0, .slice none 0 0, .int .i64 0, .int .i64 0] 66)).alloc (.cells #[.int .i64 hd.kind, .string hd.name, .int .i64 hd.n, .slice B hd.args.length bc, .int .i64 0, .int .i64 0, .string ⟨#[]⟩, .int .i64 0, .slice none 0 0, .int .i64 0, .slice none 0 0, .slice none 0 0, .slice none 0 0, .slice none 0 0, .int .i64 0, .int .i64 0] 66) := ⟨_, rfl⟩
 have hs0 : w0.heap.size = w.heap.size + 1 + 1 + 1 := by rw [hw0]; simp
 have hx0 : Ext w w0 := by rw [hw0]; exact (((Ext.refl w).alloc _).alloc _).alloc _
 have HW0 := Lib.hid hw0
 go_enter Tryz.func21, Tryz.ntmps21
 go_upto_region 2 with (fail)
 rw [← HW0.out]
 have hT := hG.ends
 obtain ⟨q, hq⟩ : ∃ q, q = w.heap.size + 1 + 1 := ⟨_, rfl⟩
 obtain ⟨r, hr⟩ : ∃ r, r = w.heap.size + 1 := ⟨_, rfl⟩
 have hbq : BoxN w0 q [.int .i64 hd.kind, .string hd.name, .int .i64 hd.n, .slice B hd.args.length bc, .int .i64 0, .int .i64 0, .string ⟨#[]⟩, .int .i64 0, .slice none 0 0, .int .i64 0, .slice none 0 0, .slice none 0 0, .slice none 0 0, .slice none 0 0, .int .i64 0, .int .i64 0] := by
  have := BoxN.new ((w.alloc (.cells #[.int .i64 hd.kind, .string hd.name, .int .i64 hd.n, .slice B hd.args.length bc] 58)).alloc (.cells #[.int .i64 0, .string ⟨#[]⟩, .int .i64 0, .slice none 0 0, .int .i64 0, .int .i64 0, .string ⟨#[]⟩, .int .i64 0, .slice none 0 0, .int .i64 0, .slice none 0 0, .slice none 0 0, .slice none 0 0, .slice none 0 0, .int .i64 0, .int .i64 0] 66)) #[.int .i64 hd.kind, .string hd.name, .int .i64 hd.n, .slice B hd.args.length bc, .int .i64 0, .int .i64 0, .string ⟨#[]⟩, .int .i64 0, .slice none 0 0, .int .i64 0, .slice none 0 0, .slice none 0 0, .slice none 0 0, .slice none 0 0, .int .i64 0, .int .i64 0] 66 (by simp)
  rw [hsz_alloc, hsz_alloc] at this
  rw [hw0, hq]; exact this
 have hbr : BoxN w0 r [.int .i64 0, .string ⟨#[]⟩, .int .i64 0, .slice none 0 0, .int .i64 0, .int .i64 0, .string ⟨#[]⟩, .int .i64 0, .slice none 0 0, .int .i64 0, .slice none 0 0, .slice none 0 0, .slice none 0 0, .slice none 0 0, .int .i64 0, .int .i64 0] := by
  have := BoxN.new (w.alloc (.cells #[.int .i64 hd.kind, .string hd.name, .int .i64 hd.n, .slice B hd.args.length bc] 58)) #[.int .i64 0, .string ⟨#[]⟩, .int .i64 0, .slice none 0 0, .int .i64 0, .int .i64 0, .string ⟨#[]⟩, .int .i64 0, .slice none 0 0, .int .i64 0, .slice none 0 0, .slice none 0 0, .slice none 0 0, .slice none 0 0, .int .i64 0, .int .i64 0] 66 (by simp)
  rw [hsz_alloc] at this
  rw [hw0, hr]; exact this.ext ((Ext.refl _).alloc _)
 have hP0 := h.ext hx0
 have hrw : w.heap.size ≤ r := by omega
 have hqw : w.heap.size ≤ q := by omega
 have hrq : r ≠ q := by omega
 have hq0 : q < w0.heap.size := by omega
 have hr0 : r < w0.heap.size := by omega
 have hqg : q ≠ g := by omega
 have hqA : q ≠ A := by omega
 have hrg' : r ≠ g := by omega
 rw [← hq, ← hr]
 obtain ⟨h4, hh4⟩ : ∃ h4, h4 = hdL hd B bc := ⟨_, rfl⟩
 have HH4 := Lib.hid hh4
 have HX0 := Lib.hid hx0
 have HG := Lib.hid hG
 have HT := Lib.hid hT
 have HF := Lib.hid hF
 have HBR := Lib.hid hbr
 have HBQ := Lib.hid hbq
 have q3 := fld3
 have q0 := fld0
 have q2 := fld2'
 have KN := Lib.hid (now_pg hP0)
 have HP0 := Lib.hid hP0
 have il0 := h.il
 clear hw0 hbr hbq hP0 hq hr h hF hs0 hT hG hx0 HW0 hh4
 go_wp2_with fail
 refine KN.out.mono ?_
 rintro e w1 ⟨rfl, hx1⟩
 have hs1 := hx1.size
 have KP := Lib.hid (pats_pg HG.out 100 0 rfl w1 g A c i a (HP0.out.ext hx1))
 have HX1 := Lib.hid (HX0.out.trans hx1)
 have HBR1 := Lib.hid (HBR.out.ext hx1)
 have HBQ1 := Lib.hid (HBQ.out.ext hx1)
 clear KN hx1 HBR HBQ HP0
 go_wp2_with fail
 refine KP.out.mono ?_
 intro e w2 hout
 have HO := Lib.hid hout
 obtain ⟨cs9, hsh, rfl⟩ := hout.val
 have HSH := Lib.hid hsh
 have hgs2 := hout.gs
 have hC2 := hout.1
 have hs2 := hC2.size
 have hbq2 := HBQ1.out.chg hC2 hqg
 have hbr2 := HBR1.out.chg hC2 hrg'
 obtain ⟨k0, k1, s2, k3, A4, l4, d4, k5, A6, l6, d6, A7, l7, d7, A8, l8, d8, hcs9⟩ := hsh
 rw [hcs9]
 have y4 := hbq2.cell 4 rfl
 have y5 := hbq2.cell 5 rfl
 have y6 := hbq2.cell 6 rfl
 have y7 := hbq2.cell 7 rfl
 have y8 := hbq2.cell 8 rfl
 have y9 := hbq2.cell 9 rfl
 have y10 := hbq2.cell 10 rfl
 have y11 := hbq2.cell 11 rfl
 have y12 := hbq2.cell 12 rfl
 have z4 := hbq2.fz 4 (by simp)
 have z5 := hbq2.fz 5 (by simp)
 have z6 := hbq2.fz 6 (by simp)
 have z7 := hbq2.fz 7 (by simp)
 have z8 := hbq2.fz 8 (by simp)
 have z9 := hbq2.fz 9 (by simp)
 have z10 := hbq2.fz 10 (by simp)
 have z11 := hbq2.fz 11 (by simp)
 have z12 := hbq2.fz 12 (by simp)
 have HB2 := Lib.hid (And.intro hbq2 hbr2)
 have HCS9 := Lib.hid hcs9
 have HG2 := Lib.hid hgs2
 have HC2 := Lib.hid hC2
 clear KP hout HBR1 HBQ1 hbq2 hbr2 hcs9 hgs2 hC2
 go_upto_region 4 with (fail)
 obtain ⟨w3, hw3⟩ : ∃ w3, w3 = w2.setCells q 4 cs9 := ⟨_, rfl⟩
 have hw3' := hw3
 rw [HCS9.out] at hw3'
 simp only [World.setCells] at hw3'
 rw [← hw3']
 have hk3 : Chg (fun x => x = q) w2 w3 := by rw [hw3]; exact setCells_chg _ _ _ 4 _ (Chg.refl _ _)
 have hs3 : w3.heap.size = w2.heap.size := by rw [hw3']; simp
 obtain ⟨B0, hB0⟩ : ∃ B0, w3.heap.size = B0 := ⟨_, rfl⟩
 have h44 : h4.length = 4 := by rw [HH4.out]; rfl
 have h99 : cs9.length = 9 := HSH.out.len'
 have hbx3 : BoxN w3 q (rx h4 cs9 (.slice none 0 0) 0 0) := by
  have := BoxN.mid cs9 [.int .i64 0, .int .i64 0, .string ⟨#[]⟩, .int .i64 0, .slice none 0 0, .int .i64 0, .slice none 0 0, .slice none 0 0, .slice none 0 0] h4 [.slice none 0 0, .int .i64 0, .int .i64 0] w2 (by rw [h99]; rfl) (by rw [HH4.out]; exact HB2.out.1)
  rw [h44] at this
  rw [hw3]; exact this
 have hQ3 : RqIn g B0 q r h4 cs9 0 0 w3 w3 (.slice none 0 0) [] :=
  ⟨⟨GInv.start SG _ (by omega), hbx3.cell 13 (rx_13 h44 h99), hbx3.fz 13 (by rw [rx_len h44 h99]; decide), by omega⟩, hbx3, ⟨_, rfl, HB2.out.2.chg hk3 hrq⟩, Chg.refl _ _, ⟨by omega, hrq, hrg', hqg, by omega, hB0⟩, h44, h99⟩
 have hgs3 := HG2.out.chgq hk3 ⟨hqg, hqA⟩
 have hC13 : Chg (· = g) w w3 := chg_new ((Chg.of_ext HX1.out).trans HC2.out) (hk3.weak fun _ e => .inr e) hqw
 have HC3 := Lib.hid hC13
 have HW3B : Hid (∀ b, b ≠ q → b < w2.heap.size → w3.heap[b]? = w2.heap[b]?) := Lib.hid (fun b h1 h2 => hk3.block b h2 h1)
 have HONE : Hid (∀ v : Value, ∀ _ : v = v, ∀ n p : Int, True) := Lib.hid (fun _ _ _ _ => trivial)
 have HQ3 := Lib.hid hQ3
 have hgB : g < B0 := by omega
 have hAB : A < B0 := by omega
 have KM1 := Lib.hid (mustm_gs HG.out 2 (by omega) _ comma_txt hgs3)
 clear hw3 hw3' hk3 hbx3 hQ3 hgs3 hC13 HB2 HG2 HCS9 y4 y5 y6 y7 y8 y9 y10 y11 y12 z4 z5 z6 z7 z8 z9 z10 z11 z12 HONE h44 h99
 have HONE : Hid (∀ (v : Value), (∃ A l c, v = .slice A l c) → ∀ n p : Int, (rx h4 cs9 v n p).toArray.all (·.oneCell') = true) := Lib.hid (fun v hv n p => rx_one (by rw [HH4.out]; exact hdL_one hd B bc) HSH.out.one' hv)
 go_wp2_with fail
 refine KM1.out.mono ?_
 rintro e w4 ⟨rfl, hgs4, hC4⟩
 have HQ4 := Lib.hid (HQ3.out.step hC4)
 have KM2 := Lib.hid (mustn_gs HG.out 19 (by omega) (by omega) _ within_txt hgs4)
 clear KM1 hgs4 hC4 HQ3
 go_wp2_with fail
 refine KM2.out.mono ?_
 rintro e w5 ⟨rfl, hgs5, hC5⟩
 have HQ5 := Lib.hid (HQ4.out.step hC5)
 clear KM2 hC5 HQ4
 obtain ⟨S2, hS2⟩ : ∃ S2, S2 = thenS (thenS (bareS (patP T 100 i)) (mkF T (4 + 2))) (mkF T (4 + 19)) := ⟨_, rfl⟩
 rw [← hS2] at hgs5
 match S2, hS2, hgs5 with
 | .error (x, y), hS2, ⟨hy, i', d', hP5⟩ =>
  have HFE : Hid (F = .error (x, y)) := Lib.hid (by
   rw [HF.out]
   unfold ruleQ
   match hp : patP T 100 i with
   | .error e => rw [hp] at hS2; simp only [bareS, thenS] at hS2; cases hS2; rfl
   | .ok (p, j0) =>
    rw [hp] at hS2
    simp only [bareS] at hS2
    rw [show thenS (thenS (Except.ok ((), j0)) (mkF T (4 + 2))) (mkF T (4 + 19)) = thenS (mkF T 6 j0) (mkF T 23) from rfl] at hS2
    simp only [← hS2])
  have HXE := Lib.hid hy
  have hye0 : (y == 0) = false := by simpa using hy
  have hyne : (y != 0) = true := by simpa using hy
  have c2' := hP5.c2
  have hg5 := hP5.lt
  have HP5 := Lib.hid hP5
  have HQ := HQ5
  clear hS2 hy hP5
  go_upto_region 9 with (fail)
  obtain ⟨cs, hcs⟩ : ∃ cs : List Value, cs = rx h4 cs9 (.slice none 0 0) (0) (0) := ⟨_, rfl⟩
  have hrg := HQ.out.bx.range
  rw [← hcs] at hrg
  obtain ⟨zs, hzs, hrz⟩ := HQ.out.rr
  have h16 : cs.length = 16 := by rw [hcs]; exact rx_len HQ.out.h4 HQ.out.h9
  have h1 : cs.toArray.all (·.oneCell') = true := by rw [hcs]; exact HONE.out _ ⟨_, _, _, rfl⟩ _ _
  have hi : (Tryz.prog.info? 66).map (·.size) = some cs.length := by rw [h16]; kernel_rfl
  have hi' : (Tryz.prog.info? 66).map (·.size) = some cs.toArray.size := by simpa using hi
  have hth : (w5).there r 0 cs.toArray.size := by have := hrz.thr; rw [hzs] at this; simpa [h16] using this
  have hrs : ((w5).setCells r 0 cs).rangeAt r 0 cs := World.rangeAt_setCells_same _ _ _ _ (by simpa using hth)
  have hres := run_loadVar_mid (P := Tryz.prog) _ r 0 66 cs _ hrs Tryz.underlying66 rfl hi
  have HCS := Lib.hid hcs
  clear hrz hzs hrs h16 hcs
  apply wp_region_lit
  with_reducible refine wpList_load_mid (op := ⟨some 43, _, _, _, _, _⟩) ?o1 66 (.tmp 6) ?o2 q 0 ?o3 cs _ hrg Tryz.underlying66 ?o4 hi ?_
  case o1 => rfl
  case o2 => rfl
  case o3 => rfl
  case o4 => rfl
  with_reducible refine wpList_move (op := ⟨some 44, _, _, _, _, _⟩) ?o1 (.tmp 7) ?o2 (.int .i64 (tk T i).at_) ?o3 ?_
  case o1 => rfl
  case o2 => rfl
  case o3 => rfl
  with_reducible refine wpList_store_mid (op := ⟨none, _, _, _, _, _⟩) ?o1 66 (.tmp 4) (.tmp 43) ?o2 r 0 cs.toArray ?o3 ?o4 hth hi' h1 ?_
  case o1 => rfl
  case o2 => rfl
  case o3 => rfl
  case o4 => rfl
  with_reducible refine wpList_assign (op := ⟨some 5, _, _, _, _, _⟩) ?o1 (.tmp 44) ?o2 (.int .i64 (tk T i).at_) ?o3 ?_
  case o1 => rfl
  case o2 => rfl
  case o3 => rfl
  refine wpList_nil ?_
  go_wp2_with fail
  refine bodyPost_ret (v := .tuple #[.agg cs.toArray, .int .i64 (tk T i).at_]) (by simp [results, Tryz.results21, asAddr, Act.put, hres]) rfl ?_
  obtain ⟨wf, hwf⟩ : ∃ wf, wf = (w5).setCells r 0 cs := ⟨_, rfl⟩
  rw [← hwf]
  obtain ⟨hCwf, hR5, hCf, hBf⟩ := HQ.out.done HC3.out hrw hqw hwf
  clear hwf hres hth hrg hi hi' h1

  have hPf := HP5.out.keep fun y hy hye => hCf.block y hy (by rcases hye with e | e <;> omega)
  rw [HFE.out]
  exact ⟨hCwf, HXE.out, ⟨cs9, HSH.out, _, _, _, _, _, by rw [HCS.out, HH4.out]⟩, _, _, hPf⟩
 | .ok ((), j), hS2, hP5 =>
  have hP5 : PgAt w5 g A c T j 0 a ((0 : Nat) : Int) := hP5
  obtain ⟨p, j0, hpat, hmk⟩ : ∃ p j0, patP T 100 i = .ok (p, j0) ∧ thenS (mkF T 6 j0) (mkF T 23) = .ok ((), j) := by
   match hp : patP T 100 i with
   | .error e => rw [hp] at hS2; simp only [bareS, thenS] at hS2; cases hS2
   | .ok (p, j0) =>
    rw [hp] at hS2
    exact ⟨p, j0, rfl, hS2.symm⟩
  have hO := HO.out
  rw [hpat] at hO
  obtain ⟨_, plx, he, hpt, _⟩ := hO
  have hpc : cs9 = p.cells plx := by
   simp only [Ending.returned.injEq, Pt.val, Value.agg.injEq] at he
   have := congrArg Array.toList he
   simpa using this
  have HPT := Lib.hid (And.intro hpt hpc)
  have HF2 : Hid (F = if rl T j = 2 then ruleR hd p (tk T j).n (condP T (j + 1)) else .error (bad T j)) := Lib.hid (by rw [HF.out]; unfold ruleQ; rw [hpat]; simp only [hmk])
  have hk2 := (kind_of HG.out hP5.il).2.1
  have hjl := hP5.il
  have hjn := hP5.len
  have c2' := hP5.c2
  have hg5 := hP5.lt
  have HP5 := Lib.hid hP5
  have KN := Lib.hid (now_pg hP5)
  clear hS2 hP5 hpat hmk he hpt hpc HO
  by_cases h2 : rl T j = 2
  case neg =>
   have HFE : Hid (F = .error (bad T j)) := Lib.hid (by rw [HF2.out, if_neg h2])
   have HXE : Hid ((4 : Int) ≠ 0) := Lib.hid (by decide)
   have hk3 : ((tk T j).kind != 3) = true := by
    have : ¬ (tk T j).kind = 3 := fun e => h2 (hk2.2 e)
    simpa using this
   clear hk2 h2 HF2
   go_wp2_with fail
   refine KN.out.mono ?_
   rintro e w6 ⟨rfl, hx6⟩
   have KN2 := Lib.hid (now_pg (HP5.out.ext hx6))
   have HX6 := Lib.hid hx6
   clear KN hx6 c2'
   go_wp2_with fail
   refine KN2.out.mono ?_
   rintro e w7 ⟨rfl, hx7⟩
   have KF := Lib.hid (fails_yes 4 (tk T j).at_ (HP5.out.ext (HX6.out.trans hx7)))
   have HX7 := Lib.hid (HX6.out.trans hx7)
   clear KN2 hx7 HX6
   go_wp2_with fail
   refine KF.out.mono ?_
   rintro e w8 ⟨rfl, hP8, hC8⟩
   have HQ := Lib.hid ((HQ5.out.ext HX7.out).step hC8)
   have c2' := hP8.c2
   have HP8 := Lib.hid hP8
   clear KF hP8 hC8 HX7 HQ5
   go_upto_region 9 with (fail)
   obtain ⟨cs, hcs⟩ : ∃ cs : List Value, cs = rx h4 cs9 (.slice none 0 0) (0) (0) := ⟨_, rfl⟩
   have hrg := HQ.out.bx.range
   rw [← hcs] at hrg
   obtain ⟨zs, hzs, hrz⟩ := HQ.out.rr
   have h16 : cs.length = 16 := by rw [hcs]; exact rx_len HQ.out.h4 HQ.out.h9
   have h1 : cs.toArray.all (·.oneCell') = true := by rw [hcs]; exact HONE.out _ ⟨_, _, _, rfl⟩ _ _
   have hi : (Tryz.prog.info? 66).map (·.size) = some cs.length := by rw [h16]; kernel_rfl
   have hi' : (Tryz.prog.info? 66).map (·.size) = some cs.toArray.size := by simpa using hi
   have hth : (w8).there r 0 cs.toArray.size := by have := hrz.thr; rw [hzs] at this; simpa [h16] using this
   have hrs : ((w8).setCells r 0 cs).rangeAt r 0 cs := World.rangeAt_setCells_same _ _ _ _ (by simpa using hth)
   have hres := run_loadVar_mid (P := Tryz.prog) _ r 0 66 cs _ hrs Tryz.underlying66 rfl hi
   have HCS := Lib.hid hcs
   clear hrz hzs hrs h16 hcs
   apply wp_region_lit
   with_reducible refine wpList_load_mid (op := ⟨some 43, _, _, _, _, _⟩) ?o1 66 (.tmp 6) ?o2 q 0 ?o3 cs _ hrg Tryz.underlying66 ?o4 hi ?_
   case o1 => rfl
   case o2 => rfl
   case o3 => rfl
   case o4 => rfl
   with_reducible refine wpList_move (op := ⟨some 44, _, _, _, _, _⟩) ?o1 (.tmp 7) ?o2 (.int .i64 (tk T i).at_) ?o3 ?_
   case o1 => rfl
   case o2 => rfl
   case o3 => rfl
   with_reducible refine wpList_store_mid (op := ⟨none, _, _, _, _, _⟩) ?o1 66 (.tmp 4) (.tmp 43) ?o2 r 0 cs.toArray ?o3 ?o4 hth hi' h1 ?_
   case o1 => rfl
   case o2 => rfl
   case o3 => rfl
   case o4 => rfl
   with_reducible refine wpList_assign (op := ⟨some 5, _, _, _, _, _⟩) ?o1 (.tmp 44) ?o2 (.int .i64 (tk T i).at_) ?o3 ?_
   case o1 => rfl
   case o2 => rfl
   case o3 => rfl
   refine wpList_nil ?_
   go_wp2_with fail
   refine bodyPost_ret (v := .tuple #[.agg cs.toArray, .int .i64 (tk T i).at_]) (by simp [results, Tryz.results21, asAddr, Act.put, hres]) rfl ?_
   obtain ⟨wf, hwf⟩ : ∃ wf, wf = (w8).setCells r 0 cs := ⟨_, rfl⟩
   rw [← hwf]
   obtain ⟨hCwf, hR5, hCf, hBf⟩ := HQ.out.done HC3.out hrw hqw hwf
   clear hwf hres hth hrg hi hi' h1

   have hPf := HP8.out.keep fun y hy hye => hCf.block y hy (by rcases hye with e | e <;> omega)
   rw [HFE.out]
   exact ⟨hCwf, HXE.out, ⟨cs9, HSH.out, _, _, _, _, _, by rw [HCS.out, HH4.out]⟩, _, _, hPf⟩
  case pos =>
   have hF3 := HF2.out
   rw [if_pos h2] at hF3
   have HF3 := Lib.hid hF3
   have hk3 : ((tk T j).kind != 3) = false := by rw [hk2.1 h2]; rfl
   have hj1 : j + 1 < T.length := HT.out.next 2 h2 (by omega)
   have hw1 : IntKind.i64.wrap ((j : Int) + 1) = (j : Int) + 1 := by rw [IntKind.wrap_i64]; omega
   clear hk2 h2 HF2 hF3
   go_wp2_with fail
   refine KN.out.mono ?_
   rintro e w6 ⟨rfl, hx6⟩
   have hP6 := HP5.out.ext hx6
   have KN2 := Lib.hid (now_pg hP6)
   have HQ6 := Lib.hid (HQ5.out.ext hx6)
   have HP6 := Lib.hid hP6
   have c2' := hP6.c2
   have hg6 := hP6.lt
   clear KN hx6 c2' HQ5 HP5 hP6
   have c2' := HP6.out.c2
   go_wp2_with fail
   refine KN2.out.mono ?_
   rintro e w7 ⟨rfl, hx7⟩
   have hQ7 := HQ6.out.ext hx7
   have hP7 := HP6.out.ext hx7
   have y14 := hQ7.bx.cell 14 (rx_14 hQ7.h4 hQ7.h9)
   have z14 := hQ7.bx.fz 14 (by rw [rx_len hQ7.h4 hQ7.h9]; decide)
   have c1' := hP7.c1
   have f1' := hP7.fr 1 (by omega)
   have hgq : g ≠ q := fun e => hqg e.symm
   have hQ8 := hQ7.win (tk T j).n
   obtain ⟨w8, hw8⟩ : ∃ w8, w8 = w7.setCell ⟨q, 14, none⟩ (.int .i64 (tk T j).n) := ⟨_, rfl⟩
   rw [← hw8] at hQ8
   have hP8 : PgAt w8 g A c T j 0 a ((0 : Nat) : Int) := by rw [hw8]; exact hP7.chg ((Chg.refl (fun x => x = q) w7).setg _ _) fun x _ e => by subst e; exact ⟨hqg, hqA⟩
   have hP9 := hP8.to (j + 1) hj1
   obtain ⟨w9, hw9⟩ : ∃ w9, w9 = w8.setCell ⟨g, 1, none⟩ (.int .i64 ((j + 1 : Nat) : Int)) := ⟨_, rfl⟩
   rw [← hw9] at hP9
   have hQ9 : RqIn g B0 q r h4 cs9 (tk T j).n 0 w3 w9 (.slice none 0 0) [] := hQ8.step (by rw [hw9]; exact (Chg.refl _ _).setg _ _)
   have HW9 : Hid ((w7.setCell ⟨q, 14, none⟩ (.int .i64 (tk T j).n)).setCell ⟨g, 1, none⟩ (.int .i64 ((j : Int) + 1)) = w9) := Lib.hid (by rw [hw9, hw8]; rfl)
   have HQ9 := Lib.hid hQ9
   have HP9 := Lib.hid hP9
   obtain ⟨nw, hnw⟩ : ∃ nw, nw = (tk T j).n := ⟨_, rfl⟩
   clear KN2 hx7 HQ6 HP6 hQ7 hP7 hQ8 hP8 hQ9 hP9 hw8 hw9
   go_upto_region 12 with (fail)
   rw [HW9.out]
   clear y14 z14 c1' f1' HW9 c2'
   rw [← hnw] at HQ9 HF3
   clear hnw
   by_cases h6 : rl T (j + 1) = 6
   case neg =>
    have HFE : Hid (F = .ok (⟨hd, p, [], nw, 0⟩, j + 1)) := Lib.hid (by rw [HF3.out]; unfold condP; rw [if_neg h6]; rfl)
    have KT := Lib.hid (take_pno HG.out 2 (by omega) _ comma_txt HP9.out (by omega))
    clear h6 HF3
    go_wp2_with fail
    refine KT.out.mono ?_
    rintro e w10 ⟨rfl, hx10⟩
    have HQ := Lib.hid (HQ9.out.ext hx10)
    have HP10 := Lib.hid (HP9.out.ext hx10)
    clear KT hx10 HQ9 HP9
    go_upto_region 13 with (fail)
    obtain ⟨cs, hcs⟩ : ∃ cs : List Value, cs = rx h4 cs9 (.slice none 0 0) (nw) (0) := ⟨_, rfl⟩
    have hrg := HQ.out.bx.range
    rw [← hcs] at hrg
    obtain ⟨zs, hzs, hrz⟩ := HQ.out.rr
    have h16 : cs.length = 16 := by rw [hcs]; exact rx_len HQ.out.h4 HQ.out.h9
    have h1 : cs.toArray.all (·.oneCell') = true := by rw [hcs]; exact HONE.out _ ⟨_, _, _, rfl⟩ _ _
    have hi : (Tryz.prog.info? 66).map (·.size) = some cs.length := by rw [h16]; kernel_rfl
    have hi' : (Tryz.prog.info? 66).map (·.size) = some cs.toArray.size := by simpa using hi
    have hth : (w10).there r 0 cs.toArray.size := by have := hrz.thr; rw [hzs] at this; simpa [h16] using this
    have hrs : ((w10).setCells r 0 cs).rangeAt r 0 cs := World.rangeAt_setCells_same _ _ _ _ (by simpa using hth)
    have hres := run_loadVar_mid (P := Tryz.prog) _ r 0 66 cs _ hrs Tryz.underlying66 rfl hi
    have HCS := Lib.hid hcs
    clear hrz hzs hrs h16 hcs
    apply wp_region_lit
    with_reducible refine wpList_load_mid (op := ⟨some 59, _, _, _, _, _⟩) ?o1 66 (.tmp 6) ?o2 q 0 ?o3 cs _ hrg Tryz.underlying66 ?o4 hi ?_
    case o1 => rfl
    case o2 => rfl
    case o3 => rfl
    case o4 => rfl
    with_reducible refine wpList_move (op := ⟨some 60, _, _, _, _, _⟩) ?o1 (.tmp 7) ?o2 (.int .i64 (tk T i).at_) ?o3 ?_
    case o1 => rfl
    case o2 => rfl
    case o3 => rfl
    with_reducible refine wpList_store_mid (op := ⟨none, _, _, _, _, _⟩) ?o1 66 (.tmp 4) (.tmp 59) ?o2 r 0 cs.toArray ?o3 ?o4 hth hi' h1 ?_
    case o1 => rfl
    case o2 => rfl
    case o3 => rfl
    case o4 => rfl
    with_reducible refine wpList_assign (op := ⟨some 5, _, _, _, _, _⟩) ?o1 (.tmp 60) ?o2 (.int .i64 (tk T i).at_) ?o3 ?_
    case o1 => rfl
    case o2 => rfl
    case o3 => rfl
    refine wpList_nil ?_
    go_wp2_with fail
    refine bodyPost_ret (v := .tuple #[.agg cs.toArray, .int .i64 (tk T i).at_]) (by simp [results, Tryz.results21, asAddr, Act.put, hres]) rfl ?_
    obtain ⟨wf, hwf⟩ : ∃ wf, wf = (w10).setCells r 0 cs := ⟨_, rfl⟩
    rw [← hwf]
    obtain ⟨hCwf, hR5, hCf, hBf⟩ := HQ.out.done HC3.out hrw hqw hwf
    clear hwf hres hth hrg hi hi' h1

    have hPf := HP10.out.keep fun y hy hye => hCf.block y hy (by rcases hye with e | e <;> omega)
    rw [HFE.out]
    obtain ⟨hpi, hpc⟩ := HPT.out
    have hsz := hCwf.size
    refine ⟨hCwf, plx, [], none, 0, rfl, rfl, by rw [HCS.out, HH4.out, hpc]; first | rfl | simp, hpi.keep fun b hb _ => ?_, by first | exact hR5 | simpa using hR5, hPf⟩
    have hb1 := hb.1
    have hb2 := hb.2
    exact ⟨by rw [hBf b (by omega) (by omega) (by omega) (by omega), HW3B.out b (by omega) (by omega)], by omega, by have := hCf.size; have := HQ.out.chg.size; omega⟩
   case pos =>
    have hj2 : j + 1 + 1 < T.length := HT.out.next 6 h6 (by omega)
    have KT := Lib.hid (take_pyes HG.out 2 (by omega) _ comma_txt HP9.out h6)
    have HF4 : Hid (F = ruleR hd p nw (if rl T (j + 1 + 1) = 24 then whereP T (T.length - (j + 1)) [] (j + 1 + 1 + 1)
      else if rl T (j + 1 + 1) = 21 ∨ rl T (j + 1 + 1) = 22 then .ok (([], (rl T (j + 1 + 1) : Nat) - 20), j + 1 + 1 + 1) else .error (bad T (j + 1 + 1)))) := Lib.hid (by rw [HF3.out]; unfold condP; rw [if_pos h6])
    clear h6 HF3
    go_wp2_with fail
    refine KT.out.mono ?_
    rintro e w10 ⟨rfl, hP10, hC10⟩
    have HQ10 := Lib.hid (HQ9.out.step hC10)
    have HP10 := Lib.hid hP10
    have KW := Lib.hid (name_pg HG.out 20 (by omega) (by omega) _ where_txt hP10)
    have hw2 : IntKind.i64.wrap ((j : Int) + 1 + 1 + 1) = (j : Int) + 1 + 1 + 1 := by rw [IntKind.wrap_i64]; omega
    obtain ⟨m0, hm0⟩ : ∃ m0, m0 = j + 1 + 1 := ⟨_, rfl⟩
    rw [← hm0] at HP10 KW HF4 hj2
    have HM0 := Lib.hid hm0
    clear KT hP10 hC10 HQ9 HP9 hm0
    by_cases h24 : rl T m0 = 24
    case neg =>
     rw [decide_eq_false (show ¬ rl T m0 = 4 + 20 from h24)] at KW
     have hF5 := HF4.out
     rw [if_neg h24] at hF5
     have HF5 := Lib.hid hF5
     clear HF4 hF5 h24
     go_wp2_with fail
     refine KW.out.mono ?_
     rintro e w11 ⟨rfl, hx11⟩
     have HQ11 := Lib.hid (HQ10.out.ext hx11)
     have HP11 := Lib.hid (HP10.out.ext hx11)
     have K21 := Lib.hid (name_pg HG.out 17 (by omega) (by omega) _ recent_txt HP11.out)
     clear KW hx11 HQ10 HP10
     by_cases h21 : rl T m0 = 21
     case pos =>
      rw [decide_eq_true (show rl T m0 = 4 + 17 from h21)] at K21
      go_wp2_with fail
      refine K21.out.mono ?_
      rintro e w12 ⟨rfl, hx12⟩
      have HQ12 := Lib.hid (HQ11.out.ext hx12)
      have HP12 := Lib.hid (HP11.out.ext hx12)
      clear K21 hx12 HQ11 HP11
      have hQp := HQ12.out
      have hPp := HP12.out
      have y15 := hQp.bx.cell 15 (rx_15 hQp.h4 hQp.h9)
      have z15 := hQp.bx.fz 15 (by rw [rx_len hQp.h4 hQp.h9]; decide)
      have c1' := hPp.c1
      have f1' := hPp.fr 1 (by omega)
      have hgq : g ≠ q := fun e => hqg e.symm
      have hml := hPp.len
      have hm1 : m0 + 1 < T.length := HT.out.next 21 h21 (by omega)
      have hw4 : IntKind.i64.wrap ((m0 : Int) + 1) = (m0 : Int) + 1 := by rw [IntKind.wrap_i64]; omega
      have hQ13 := hQp.pol1 1
      obtain ⟨w13, hw13⟩ : ∃ w13, w13 = w12.setCell ⟨q, 15, none⟩ (.int .i64 1) := ⟨_, rfl⟩
      rw [← hw13] at hQ13
      have hP13 : PgAt w13 g A c T m0 0 a ((0 : Nat) : Int) := by rw [hw13]; exact hPp.chg ((Chg.refl (fun x => x = q) _).setg _ _) fun x _ e => by subst e; exact ⟨hqg, hqA⟩
      have hP14 := hP13.to (m0 + 1) hm1
      obtain ⟨w14, hw14⟩ : ∃ w14, w14 = w13.setCell ⟨g, 1, none⟩ (.int .i64 ((m0 + 1 : Nat) : Int)) := ⟨_, rfl⟩
      rw [← hw14] at hP14
      have hQ14 : RqIn g B0 q r h4 cs9 nw 1 w3 w14 (.slice none 0 0) [] := hQ13.step (by rw [hw14]; exact (Chg.refl _ _).setg _ _)
      have HW14 : Hid ((w12.setCell ⟨q, 15, none⟩ (.int .i64 1)).setCell ⟨g, 1, none⟩ (.int .i64 ((m0 : Int) + 1)) = w14) := Lib.hid (by rw [hw14, hw13]; rfl)
      have HFE : Hid (F = .ok (⟨hd, p, [], nw, 1⟩, m0 + 1)) := Lib.hid (by rw [HF5.out, if_pos (by omega)]; simp only [ruleR]; rw [show ((rl T m0 : Nat) : Int) - 20 = 1 by omega])
      have HQ := Lib.hid hQ14
      have HP14 := Lib.hid hP14
      clear hQp hPp hQ13 hP13 hQ14 hP14 hw13 hw14 HQ12 HP12 HF5
      go_upto_region 35 with (fail)
      rw [HW14.out]
      clear y15 z15 c1' f1' HW14
      go_upto_region 35 with (fail)
      obtain ⟨cs, hcs⟩ : ∃ cs : List Value, cs = rx h4 cs9 (.slice none 0 0) (nw) (1) := ⟨_, rfl⟩
      have hrg := HQ.out.bx.range
      rw [← hcs] at hrg
      obtain ⟨zs, hzs, hrz⟩ := HQ.out.rr
      have h16 : cs.length = 16 := by rw [hcs]; exact rx_len HQ.out.h4 HQ.out.h9
      have h1 : cs.toArray.all (·.oneCell') = true := by rw [hcs]; exact HONE.out _ ⟨_, _, _, rfl⟩ _ _
      have hi : (Tryz.prog.info? 66).map (·.size) = some cs.length := by rw [h16]; kernel_rfl
      have hi' : (Tryz.prog.info? 66).map (·.size) = some cs.toArray.size := by simpa using hi
      have hth : (w14).there r 0 cs.toArray.size := by have := hrz.thr; rw [hzs] at this; simpa [h16] using this
      have hrs : ((w14).setCells r 0 cs).rangeAt r 0 cs := World.rangeAt_setCells_same _ _ _ _ (by simpa using hth)
      have hres := run_loadVar_mid (P := Tryz.prog) _ r 0 66 cs _ hrs Tryz.underlying66 rfl hi
      have HCS := Lib.hid hcs
      clear hrz hzs hrs h16 hcs
      apply wp_region_lit
      with_reducible refine wpList_load_mid (op := ⟨some 137, _, _, _, _, _⟩) ?o1 66 (.tmp 6) ?o2 q 0 ?o3 cs _ hrg Tryz.underlying66 ?o4 hi ?_
      case o1 => rfl
      case o2 => rfl
      case o3 => rfl
      case o4 => rfl
      with_reducible refine wpList_move (op := ⟨some 138, _, _, _, _, _⟩) ?o1 (.tmp 7) ?o2 (.int .i64 (tk T i).at_) ?o3 ?_
      case o1 => rfl
      case o2 => rfl
      case o3 => rfl
      with_reducible refine wpList_store_mid (op := ⟨none, _, _, _, _, _⟩) ?o1 66 (.tmp 4) (.tmp 137) ?o2 r 0 cs.toArray ?o3 ?o4 hth hi' h1 ?_
      case o1 => rfl
      case o2 => rfl
      case o3 => rfl
      case o4 => rfl
      with_reducible refine wpList_assign (op := ⟨some 5, _, _, _, _, _⟩) ?o1 (.tmp 138) ?o2 (.int .i64 (tk T i).at_) ?o3 ?_
      case o1 => rfl
      case o2 => rfl
      case o3 => rfl
      refine wpList_nil ?_
      go_wp2_with fail
      refine bodyPost_ret (v := .tuple #[.agg cs.toArray, .int .i64 (tk T i).at_]) (by simp [results, Tryz.results21, asAddr, Act.put, hres]) rfl ?_
      obtain ⟨wf, hwf⟩ : ∃ wf, wf = (w14).setCells r 0 cs := ⟨_, rfl⟩
      rw [← hwf]
      obtain ⟨hCwf, hR5, hCf, hBf⟩ := HQ.out.done HC3.out hrw hqw hwf
      clear hwf hres hth hrg hi hi' h1

      have hPf := HP14.out.keep fun y hy hye => hCf.block y hy (by rcases hye with e | e <;> omega)
      rw [HFE.out]
      obtain ⟨hpi, hpc⟩ := HPT.out
      have hsz := hCwf.size
      refine ⟨hCwf, plx, [], none, 0, rfl, rfl, by rw [HCS.out, HH4.out, hpc]; first | rfl | simp, hpi.keep fun b hb _ => ?_, by first | exact hR5 | simpa using hR5, hPf⟩
      have hb1 := hb.1
      have hb2 := hb.2
      exact ⟨by rw [hBf b (by omega) (by omega) (by omega) (by omega), HW3B.out b (by omega) (by omega)], by omega, by have := hCf.size; have := HQ.out.chg.size; omega⟩
     case neg =>
      rw [decide_eq_false (show ¬ rl T m0 = 4 + 17 from h21)] at K21
      go_wp2_with fail
      refine K21.out.mono ?_
      rintro e w12 ⟨rfl, hx12⟩
      have HQ12 := Lib.hid (HQ11.out.ext hx12)
      have HP12 := Lib.hid (HP11.out.ext hx12)
      have K22 := Lib.hid (name_pg HG.out 18 (by omega) (by omega) _ first_txt HP12.out)
      clear K21 hx12 HQ11 HP11
      by_cases h22 : rl T m0 = 22
      case pos =>
       rw [decide_eq_true (show rl T m0 = 4 + 18 from h22)] at K22
       go_wp2_with fail
       refine K22.out.mono ?_
       rintro e w12b ⟨rfl, hx12⟩
       have HQ12b := Lib.hid (HQ12.out.ext hx12)
       have HP12b := Lib.hid (HP12.out.ext hx12)
       clear K22 hx12 HQ12 HP12
       have hQp := HQ12b.out
       have hPp := HP12b.out
       have y15 := hQp.bx.cell 15 (rx_15 hQp.h4 hQp.h9)
       have z15 := hQp.bx.fz 15 (by rw [rx_len hQp.h4 hQp.h9]; decide)
       have c1' := hPp.c1
       have f1' := hPp.fr 1 (by omega)
       have hgq : g ≠ q := fun e => hqg e.symm
       have hml := hPp.len
       have hm1 : m0 + 1 < T.length := HT.out.next 22 h22 (by omega)
       have hw4 : IntKind.i64.wrap ((m0 : Int) + 1) = (m0 : Int) + 1 := by rw [IntKind.wrap_i64]; omega
       have hQ13 := hQp.pol1 2
       obtain ⟨w13, hw13⟩ : ∃ w13, w13 = w12b.setCell ⟨q, 15, none⟩ (.int .i64 2) := ⟨_, rfl⟩
       rw [← hw13] at hQ13
       have hP13 : PgAt w13 g A c T m0 0 a ((0 : Nat) : Int) := by rw [hw13]; exact hPp.chg ((Chg.refl (fun x => x = q) _).setg _ _) fun x _ e => by subst e; exact ⟨hqg, hqA⟩
       have hP14 := hP13.to (m0 + 1) hm1
       obtain ⟨w14, hw14⟩ : ∃ w14, w14 = w13.setCell ⟨g, 1, none⟩ (.int .i64 ((m0 + 1 : Nat) : Int)) := ⟨_, rfl⟩
       rw [← hw14] at hP14
       have hQ14 : RqIn g B0 q r h4 cs9 nw 2 w3 w14 (.slice none 0 0) [] := hQ13.step (by rw [hw14]; exact (Chg.refl _ _).setg _ _)
       have HW14 : Hid ((w12b.setCell ⟨q, 15, none⟩ (.int .i64 2)).setCell ⟨g, 1, none⟩ (.int .i64 ((m0 : Int) + 1)) = w14) := Lib.hid (by rw [hw14, hw13]; rfl)
       have HFE : Hid (F = .ok (⟨hd, p, [], nw, 2⟩, m0 + 1)) := Lib.hid (by rw [HF5.out, if_pos (by omega)]; simp only [ruleR]; rw [show ((rl T m0 : Nat) : Int) - 20 = 2 by omega])
       have HQ := Lib.hid hQ14
       have HP14 := Lib.hid hP14
       clear hQp hPp hQ13 hP13 hQ14 hP14 hw13 hw14 HQ12b HP12b HF5
       go_upto_region 35 with (fail)
       rw [HW14.out]
       clear y15 z15 c1' f1' HW14
       go_upto_region 35 with (fail)
       obtain ⟨cs, hcs⟩ : ∃ cs : List Value, cs = rx h4 cs9 (.slice none 0 0) (nw) (2) := ⟨_, rfl⟩
       have hrg := HQ.out.bx.range
       rw [← hcs] at hrg
       obtain ⟨zs, hzs, hrz⟩ := HQ.out.rr
       have h16 : cs.length = 16 := by rw [hcs]; exact rx_len HQ.out.h4 HQ.out.h9
       have h1 : cs.toArray.all (·.oneCell') = true := by rw [hcs]; exact HONE.out _ ⟨_, _, _, rfl⟩ _ _
       have hi : (Tryz.prog.info? 66).map (·.size) = some cs.length := by rw [h16]; kernel_rfl
       have hi' : (Tryz.prog.info? 66).map (·.size) = some cs.toArray.size := by simpa using hi
       have hth : (w14).there r 0 cs.toArray.size := by have := hrz.thr; rw [hzs] at this; simpa [h16] using this
       have hrs : ((w14).setCells r 0 cs).rangeAt r 0 cs := World.rangeAt_setCells_same _ _ _ _ (by simpa using hth)
       have hres := run_loadVar_mid (P := Tryz.prog) _ r 0 66 cs _ hrs Tryz.underlying66 rfl hi
       have HCS := Lib.hid hcs
       clear hrz hzs hrs h16 hcs
       apply wp_region_lit
       with_reducible refine wpList_load_mid (op := ⟨some 137, _, _, _, _, _⟩) ?o1 66 (.tmp 6) ?o2 q 0 ?o3 cs _ hrg Tryz.underlying66 ?o4 hi ?_
       case o1 => rfl
       case o2 => rfl
       case o3 => rfl
       case o4 => rfl
       with_reducible refine wpList_move (op := ⟨some 138, _, _, _, _, _⟩) ?o1 (.tmp 7) ?o2 (.int .i64 (tk T i).at_) ?o3 ?_
       case o1 => rfl
       case o2 => rfl
       case o3 => rfl
       with_reducible refine wpList_store_mid (op := ⟨none, _, _, _, _, _⟩) ?o1 66 (.tmp 4) (.tmp 137) ?o2 r 0 cs.toArray ?o3 ?o4 hth hi' h1 ?_
       case o1 => rfl
       case o2 => rfl
       case o3 => rfl
       case o4 => rfl
       with_reducible refine wpList_assign (op := ⟨some 5, _, _, _, _, _⟩) ?o1 (.tmp 138) ?o2 (.int .i64 (tk T i).at_) ?o3 ?_
       case o1 => rfl
       case o2 => rfl
       case o3 => rfl
       refine wpList_nil ?_
       go_wp2_with fail
       refine bodyPost_ret (v := .tuple #[.agg cs.toArray, .int .i64 (tk T i).at_]) (by simp [results, Tryz.results21, asAddr, Act.put, hres]) rfl ?_
       obtain ⟨wf, hwf⟩ : ∃ wf, wf = (w14).setCells r 0 cs := ⟨_, rfl⟩
       rw [← hwf]
       obtain ⟨hCwf, hR5, hCf, hBf⟩ := HQ.out.done HC3.out hrw hqw hwf
       clear hwf hres hth hrg hi hi' h1

       have hPf := HP14.out.keep fun y hy hye => hCf.block y hy (by rcases hye with e | e <;> omega)
       rw [HFE.out]
       obtain ⟨hpi, hpc⟩ := HPT.out
       have hsz := hCwf.size
       refine ⟨hCwf, plx, [], none, 0, rfl, rfl, by rw [HCS.out, HH4.out, hpc]; first | rfl | simp, hpi.keep fun b hb _ => ?_, by first | exact hR5 | simpa using hR5, hPf⟩
       have hb1 := hb.1
       have hb2 := hb.2
       exact ⟨by rw [hBf b (by omega) (by omega) (by omega) (by omega), HW3B.out b (by omega) (by omega)], by omega, by have := hCf.size; have := HQ.out.chg.size; omega⟩
      case neg =>
       rw [decide_eq_false (show ¬ rl T m0 = 4 + 18 from h22)] at K22
       have HFE : Hid (F = .error (bad T m0)) := Lib.hid (by rw [HF5.out, if_neg (by omega)]; rfl)
       have HXE : Hid ((4 : Int) ≠ 0) := Lib.hid (by decide)
       clear HF5
       go_wp2_with fail
       refine K22.out.mono ?_
       rintro e w13 ⟨rfl, hx13⟩
       have hP13 := HP12.out.ext hx13
       have HQ13 := Lib.hid (HQ12.out.ext hx13)
       have c2' := hP13.c2
       have hg13 := hP13.lt
       have KN3 := Lib.hid (now_pg hP13)
       have HP13 := Lib.hid hP13
       clear K22 hx13 HQ12 HP12 hP13
       go_wp2_with fail
       refine KN3.out.mono ?_
       rintro e w14 ⟨rfl, hx14⟩
       have KF := Lib.hid (fails_yes 4 (tk T m0).at_ (HP13.out.ext hx14))
       have HQ14 := Lib.hid (HQ13.out.ext hx14)
       clear KN3 hx14 HQ13 HP13 c2'
       go_wp2_with fail
       refine KF.out.mono ?_
       rintro e w15 ⟨rfl, hP15, hC15⟩
       have HQ := Lib.hid (HQ14.out.step hC15)
       have HP15 := Lib.hid hP15
       clear KF hP15 hC15 HQ14
       go_upto_region 35 with (fail)
       obtain ⟨cs, hcs⟩ : ∃ cs : List Value, cs = rx h4 cs9 (.slice none 0 0) (nw) (0) := ⟨_, rfl⟩
       have hrg := HQ.out.bx.range
       rw [← hcs] at hrg
       obtain ⟨zs, hzs, hrz⟩ := HQ.out.rr
       have h16 : cs.length = 16 := by rw [hcs]; exact rx_len HQ.out.h4 HQ.out.h9
       have h1 : cs.toArray.all (·.oneCell') = true := by rw [hcs]; exact HONE.out _ ⟨_, _, _, rfl⟩ _ _
       have hi : (Tryz.prog.info? 66).map (·.size) = some cs.length := by rw [h16]; kernel_rfl
       have hi' : (Tryz.prog.info? 66).map (·.size) = some cs.toArray.size := by simpa using hi
       have hth : (w15).there r 0 cs.toArray.size := by have := hrz.thr; rw [hzs] at this; simpa [h16] using this
       have hrs : ((w15).setCells r 0 cs).rangeAt r 0 cs := World.rangeAt_setCells_same _ _ _ _ (by simpa using hth)
       have hres := run_loadVar_mid (P := Tryz.prog) _ r 0 66 cs _ hrs Tryz.underlying66 rfl hi
       have HCS := Lib.hid hcs
       clear hrz hzs hrs h16 hcs
       apply wp_region_lit
       with_reducible refine wpList_load_mid (op := ⟨some 137, _, _, _, _, _⟩) ?o1 66 (.tmp 6) ?o2 q 0 ?o3 cs _ hrg Tryz.underlying66 ?o4 hi ?_
       case o1 => rfl
       case o2 => rfl
       case o3 => rfl
       case o4 => rfl
       with_reducible refine wpList_move (op := ⟨some 138, _, _, _, _, _⟩) ?o1 (.tmp 7) ?o2 (.int .i64 (tk T i).at_) ?o3 ?_
       case o1 => rfl
       case o2 => rfl
       case o3 => rfl
       with_reducible refine wpList_store_mid (op := ⟨none, _, _, _, _, _⟩) ?o1 66 (.tmp 4) (.tmp 137) ?o2 r 0 cs.toArray ?o3 ?o4 hth hi' h1 ?_
       case o1 => rfl
       case o2 => rfl
       case o3 => rfl
       case o4 => rfl
       with_reducible refine wpList_assign (op := ⟨some 5, _, _, _, _, _⟩) ?o1 (.tmp 138) ?o2 (.int .i64 (tk T i).at_) ?o3 ?_
       case o1 => rfl
       case o2 => rfl
       case o3 => rfl
       refine wpList_nil ?_
       go_wp2_with fail
       refine bodyPost_ret (v := .tuple #[.agg cs.toArray, .int .i64 (tk T i).at_]) (by simp [results, Tryz.results21, asAddr, Act.put, hres]) rfl ?_
       obtain ⟨wf, hwf⟩ : ∃ wf, wf = (w15).setCells r 0 cs := ⟨_, rfl⟩
       rw [← hwf]
       obtain ⟨hCwf, hR5, hCf, hBf⟩ := HQ.out.done HC3.out hrw hqw hwf
       clear hwf hres hth hrg hi hi' h1

       have hPf := HP15.out.keep fun y hy hye => hCf.block y hy (by rcases hye with e | e <;> omega)
       rw [HFE.out]
       exact ⟨hCwf, HXE.out, ⟨cs9, HSH.out, _, _, _, _, _, by rw [HCS.out, HH4.out]⟩, _, _, hPf⟩
    case pos =>
     rw [decide_eq_true (show rl T m0 = 4 + 20 from h24)] at KW
     have hm1 : m0 + 1 < T.length := HT.out.next 24 h24 (by omega)
     have hF5 := HF4.out
     rw [if_pos h24, whereP_is HT.out _ _ _ (by have := HM0.out; omega) hm1, if_neg (by simp)] at hF5
     have HF5 := Lib.hid hF5
     have HNM : Hid (T.length ≤ T.length - (j + 1) + (m0 + 1)) := Lib.hid (by have := HM0.out; omega)
     clear HF4 hF5 h24
     go_wp2_with fail
     refine KW.out.mono ?_
     rintro e w11 ⟨rfl, hx11⟩
     have hP11 := HP10.out.ext hx11
     have c1' := hP11.c1
     have f1' := hP11.fr 1 (by omega)
     have hw4 : IntKind.i64.wrap ((m0 : Int) + 1) = (m0 : Int) + 1 := by rw [IntKind.wrap_i64]; omega
     obtain ⟨w12, hw12⟩ : ∃ w12, w12 = w11.setCell ⟨g, 1, none⟩ (.int .i64 ((m0 + 1 : Nat) : Int)) := ⟨_, rfl⟩
     have HP12 := Lib.hid (show PgAt w12 g A c T (m0 + 1) 0 a ((0 : Nat) : Int) by rw [hw12]; exact hP11.to (m0 + 1) hm1)
     have HQ12 : Hid (RqIn g B0 q r h4 cs9 nw 0 w3 w12 (.slice none 0 0) []) := Lib.hid ((HQ10.out.ext hx11).step (by rw [hw12]; exact (Chg.refl _ _).setg _ _))
     have HW12 : Hid (w11.setCell ⟨g, 1, none⟩ (.int .i64 ((m0 : Int) + 1)) = w12) := Lib.hid (by rw [hw12]; rfl)
     obtain ⟨nn, hnn⟩ : ∃ nn, nn = T.length - (j + 1) := ⟨_, rfl⟩
     rw [← hnn] at HF5 HNM
     obtain ⟨m1, hm1'⟩ : ∃ m1, m1 = m0 + 1 := ⟨_, rfl⟩
     rw [← hm1'] at HF5 HNM HP12
     obtain ⟨j0, hj0, hy0, hy1, hy2⟩ := info_parts infoGd
     clear KW hx11 HQ10 HP10 hP11 hw12 hnn hm1'
     go_upto_region 16 with (fail)
     rw [HW12.out]
     clear c1' f1' HW12 hw4 hm1
     obtain ⟨F6, hF6⟩ : ∃ F6, F6 = whereQ T nn [] m1 := ⟨_, rfl⟩
     rw [← hF6] at HF5
     have HF6 := Lib.hid hF6.symm
     clear hF6
     go_loopw [] (fun wr => ∃ (j : Nat) (v : Value) (SB : Option Addr) (sd : Nat) (ys : List GLain), v = .slice SB ys.length sd ∧ PgAt wr g A c T j 0 a ((0 : Nat) : Int) ∧ RqIn g B0 q r h4 cs9 nw 0 w3 wr v ys ∧ ys.length ≤ 4 ∧ Hid (∃ n, T.length ≤ n + j ∧ whereQ T n (ys.map (·.1)) j = F6)) (fun wr => pgM T.length wr g)
     case atStart => exact ⟨m1, _, none, 0, [], rfl, HP12.out, HQ12.out, by simp, Lib.hid ⟨nn, HNM.out, HF6.out⟩⟩
     case round =>
      clear HP12 HQ12 HF6 HNM
      obtain ⟨j2, v, SB, sd, ys, rfl, hP, hq, hyl, HX⟩ := hrel
      have hjl2 := hP.il
      have hjn2 := hP.len
      obtain ⟨n, hn, hX⟩ := HX.out
      obtain ⟨n, rfl⟩ : ∃ m, n = m + 1 := ⟨n - 1, by omega⟩
      rw [whereQ] at hX
      have KN3 := Lib.hid (now_pg hP)
      have HM := Lib.hid (hP.m0 T.length)
      have hB0r : B0 ≤ wr.heap.size := hq.s13.inv.size
      have L5 := Lib.hid hq.lt
      have HQr := Lib.hid hq
      have HPr := Lib.hid hP
      clear hP hq HX
      go_wp2_with fail
      refine KN3.out.mono ?_
      rintro e w13 ⟨rfl, hx13⟩
      have KG := Lib.hid (gd_gs HG.out (S := .ok ((), j2)) (show Gs w13 g A c T a 0 (.ok ((), j2)) from HPr.out.ext hx13))
      rw [show thenS (.ok ((), j2)) (guardQ T) = guardQ T j2 from rfl] at KG
      have HQ13 := Lib.hid (HQr.out.ext hx13)
      have hs13 := hx13.size
      clear KN3 hx13 HQr
      go_wp2_with fail
      refine KG.out.mono ?_
      intro e w14 hout
      have HO := Lib.hid hout
      obtain ⟨gs, ⟨gk0, gk1, gs2, gk3, gA4, gl4, gd4, gk5, gs6, gk7, gA8, gl8, gd8, hgs⟩, rfl⟩ := hout.val
      have hs14 := hout.1.size
      have HQ14 := Lib.hid (HQ13.out.step hout.1)
      rw [hgs]
      have HGS := Lib.hid hgs
      clear KG hout HQ13 hgs
      go_upto_region 18 with (fail)
      obtain ⟨w15, hw15⟩ : ∃ w15, w15 = w14.alloc (.cells #[.int .i64 gk0, .int .i64 gk1, .string gs2, .int .i64 gk3, .slice gA4 gl4 gd4, .int .i64 gk5, .string gs6, .int .i64 gk7, .slice gA8 gl8 gd8] 95) := ⟨_, rfl⟩
      obtain ⟨gb, hgb⟩ : ∃ gb, gb = w14.heap.size := ⟨_, rfl⟩
      have hrB : Box9 w15 gb [.int .i64 gk0, .int .i64 gk1, .string gs2, .int .i64 gk3, .slice gA4 gl4 gd4, .int .i64 gk5, .string gs6, .int .i64 gk7, .slice gA8 gl8 gd8] := by rw [hw15, hgb]; exact Box9.new w14 _ _ rfl
      have hx15 : Ext w14 w15 := by rw [hw15]; exact (Ext.refl _).alloc _
      have hs15 := hx15.size
      rw [← hw15, ← hgb]
      have HQ15 := Lib.hid (HQ14.out.ext hx15)
      have HX15 := Lib.hid hx15
      clear hw15 hgb HQ14 hx15
      obtain ⟨F2, hF2⟩ : ∃ F2, F2 = guardQ T j2 := ⟨_, rfl⟩
      have hO := HO.out
      rw [← hF2] at hO hX
      clear HO
      match F2, hF2, hO, hX with
      | .error (x, y), hF2, ⟨_, hy, _, i', d', hPe⟩, hX =>
       have HFE : Hid (F = .error (x, y)) := Lib.hid (by rw [HF5.out, ← hX]; rfl)
       have HXE := Lib.hid hy
       have hyne : (y != 0) = true := by simpa using hy
       have HP15 := Lib.hid (hPe.ext HX15.out)
       have c2' := HP15.out.c2
       have HQ := HQ15
       clear hX hy hPe hF2 hO hrB
       go_upto_region 19 with (fail)
       obtain ⟨cs, hcs⟩ : ∃ cs : List Value, cs = rx h4 cs9 (.slice SB ys.length sd) (nw) (0) := ⟨_, rfl⟩
       have hrg := HQ.out.bx.range
       rw [← hcs] at hrg
       obtain ⟨zs, hzs, hrz⟩ := HQ.out.rr
       have h16 : cs.length = 16 := by rw [hcs]; exact rx_len HQ.out.h4 HQ.out.h9
       have h1 : cs.toArray.all (·.oneCell') = true := by rw [hcs]; exact HONE.out _ ⟨_, _, _, rfl⟩ _ _
       have hi : (Tryz.prog.info? 66).map (·.size) = some cs.length := by rw [h16]; kernel_rfl
       have hi' : (Tryz.prog.info? 66).map (·.size) = some cs.toArray.size := by simpa using hi
       have hth : (w15).there r 0 cs.toArray.size := by have := hrz.thr; rw [hzs] at this; simpa [h16] using this
       have hrs : ((w15).setCells r 0 cs).rangeAt r 0 cs := World.rangeAt_setCells_same _ _ _ _ (by simpa using hth)
       have hres := run_loadVar_mid (P := Tryz.prog) _ r 0 66 cs _ hrs Tryz.underlying66 rfl hi
       have HCS := Lib.hid hcs
       clear hrz hzs hrs h16 hcs
       apply wp_region_lit
       with_reducible refine wpList_load_mid (op := ⟨some 80, _, _, _, _, _⟩) ?o1 66 (.tmp 6) ?o2 q 0 ?o3 cs _ hrg Tryz.underlying66 ?o4 hi ?_
       case o1 => rfl
       case o2 => rfl
       case o3 => rfl
       case o4 => rfl
       with_reducible refine wpList_move (op := ⟨some 81, _, _, _, _, _⟩) ?o1 (.tmp 7) ?o2 (.int .i64 (tk T i).at_) ?o3 ?_
       case o1 => rfl
       case o2 => rfl
       case o3 => rfl
       with_reducible refine wpList_store_mid (op := ⟨none, _, _, _, _, _⟩) ?o1 66 (.tmp 4) (.tmp 80) ?o2 r 0 cs.toArray ?o3 ?o4 hth hi' h1 ?_
       case o1 => rfl
       case o2 => rfl
       case o3 => rfl
       case o4 => rfl
       with_reducible refine wpList_assign (op := ⟨some 5, _, _, _, _, _⟩) ?o1 (.tmp 81) ?o2 (.int .i64 (tk T i).at_) ?o3 ?_
       case o1 => rfl
       case o2 => rfl
       case o3 => rfl
       refine wpList_nil ?_
       go_wp2_with fail
       refine bodyPost_ret (v := .tuple #[.agg cs.toArray, .int .i64 (tk T i).at_]) (by simp [results, Tryz.results21, asAddr, Act.put, hres]) rfl ?_
       obtain ⟨wf, hwf⟩ : ∃ wf, wf = (w15).setCells r 0 cs := ⟨_, rfl⟩
       rw [← hwf]
       obtain ⟨hCwf, hR5, hCf, hBf⟩ := HQ.out.done HC3.out hrw hqw hwf
       clear hwf hres hth hrg hi hi' h1

       have hPf := HP15.out.keep fun y hy hye => hCf.block y hy (by rcases hye with e | e <;> omega)
       rw [HFE.out]
       exact ⟨hCwf, HXE.out, ⟨cs9, HSH.out, _, _, _, _, _, by rw [HCS.out, HH4.out]⟩, _, _, hPf⟩
      | .ok (y, m2), hF2, ⟨_, gpl, he, hgin, hPg⟩, hX =>
       have hm2 := guardQ_takes HT.out hF2.symm
       have HP15 := Lib.hid (hPg.ext HX15.out)
       have c2' := HP15.out.c2
       have hgc : gdCells (y, gpl) = [.int .i64 gk0, .int .i64 gk1, .string gs2, .int .i64 gk3, .slice gA4 gl4 gd4, .int .i64 gk5, .string gs6, .int .i64 gk7, .slice gA8 gl8 gd8] := by
        simp only [Ending.returned.injEq, Value.agg.injEq] at he
        have e2 := congrArg Array.toList he
        rw [HGS.out] at e2
        simpa using e2.symm
       obtain ⟨yy, hyy⟩ : ∃ yy : GLain, yy = (y, gpl) := ⟨_, rfl⟩
       rw [← hyy] at hgc hgin
       have HYY : Hid (yy.1 = y) := Lib.hid (by rw [hyy])
       have hT15 : GdIn w15 (fun b => wr.heap.size ≤ b ∧ b < w15.heap.size) yy := ⟨hgin.1.keep fun b hb _ => ⟨HX15.out.block b hb.2, by have := hb.1; omega, by have := hb.2; omega⟩, hgin.2.keep fun b hb _ => ⟨HX15.out.block b hb.2, by have := hb.1; omega, by have := hb.2; omega⟩⟩
       have HT15 := Lib.hid hT15
       have d13 := HQ15.out.s13.cell
       have hown := HQ15.out.s13.inv.own
       have hfz := HQ15.out.s13.fz
       have hpl := World.block_lt_of_cell? _ _ d13
       have H1 : Hid (∀ u ∈ gdCells yy, u.oneCell' = true) := Lib.hid (gdCells_one yy)
       rw [hgc] at H1
       have HGC := Lib.hid hgc
       obtain ⟨g0, g1, g2, g3, g4, g5, g6, g7, g8⟩ := hrB.get
       simp only at hX
       clear he hgin hPg hF2 hO hyy hgc hT15 hrB
       go_wp2_with (at_builtin; refine wpList_app _ rfl _ _ 64 rfl B0 95 j0 _ 9 120 Tryz.underlying64 hj0 hy0 hy1 hy2 rfl (by decide) (.slice SB ys.length sd) ys.length (SG.row ys) rfl (hown.alloc _) (some ⟨w15.heap.size, 0, none⟩) 1 1 [.int .i64 gk0, .int .i64 gk1, .string gs2, .int .i64 gk3, .slice gA4 gl4 gd4, .int .i64 gk5, .string gs6, .int .i64 gk7, .slice gA8 gl8 gd8] rfl (Src.box w15 #[.int .i64 gk0, .int .i64 gk1, .string gs2, .int .i64 gk3, .slice gA4 gl4 gd4, .int .i64 gk5, .string gs6, .int .i64 gk7, .slice gA8 gl8 gd8] 95 9 rfl) H1.out ?qc3 ?qc4 ?qc5 ?_)
       case qc3 => unfold maxLen; omega
       case qc4 => omega
       case qc5 => first | omega | (simp; omega)
       intro v' w16 ho7 hg7 hat7
       obtain ⟨q7, cap7, rfl, hcap7⟩ := own_form ho7 (Nat.succ_pos _)
       have k7 := (Chg.of_ext (F := fun x => (Value.slice SB ys.length sd).ownBlock = some x) ((Ext.refl w15).alloc (.cells #[.int .i64 gk0, .int .i64 gk1, .string gs2, .int .i64 gk3, .slice gA4 gl4 gd4, .int .i64 gk5, .string gs6, .int .i64 gk7, .slice gA8 gl8 gd8] 95))).trans (own_chg hg7)
       have hnp : (Value.slice SB ys.length sd).ownBlock ≠ some q := fun e => by have := (L5.out q e).1; omega
       have d7 := k7.cell d13 hnp
       have f7 : w16.frozen? ⟨q, 13, none⟩ = false := (World.frozen?_of_block (w := w15) (k7.block q hpl hnp)).trans hfz
       have hat7' : Grown w15 (.slice SB ys.length sd) (.slice (some ⟨q7, 0, none⟩) (ys.length + 1) cap7) := by
        rcases hat7 with e | e
        ·
         exact .inl e
        ·
         refine .inr ⟨q7, rfl, ?_⟩
         have : q7 = w15.heap.size + 1 := by simpa [Value.ownBlock] using e
         omega
       obtain ⟨w17, hw17⟩ : ∃ w17, w17 = w16.setCell ⟨q, 13, none⟩ (.slice (some ⟨q7, 0, none⟩) (ys.length + 1) cap7) := ⟨_, rfl⟩
       rw [← HGC.out] at ho7
       have hQ17 := HQ15.out.addG (y := yy) (fun b e => (L5.out b e).2) hB0r HT15.out k7 ho7 hat7' hw17
       have hs17 : w15.heap.size ≤ w17.heap.size := Nat.le_trans k7.size (by rw [hw17]; simp)
       have hP17 : PgAt w17 g A c T m2 0 a ((0 : Nat) : Int) := by
        have kk : Chg (fun x => x = q ∨ (Value.slice SB ys.length sd).ownBlock = some x) w15 w17 := by rw [hw17]; exact (k7.weak fun _ e => .inr e).trans (((Chg.refl (fun x => x = q) w16).setg _ _).weak fun _ e => .inl e)
        exact HP15.out.own kk (fun b e => (L5.out b e).1) ⟨hgB, hqg⟩ ⟨hAB, hqA⟩
       have HW17 := Lib.hid hw17
       have HQ17 := Lib.hid hQ17
       have HP17 := Lib.hid hP17
       have e13 := hQ17.s13.cell
       clear hw17 hQ17 hP17 k7 ho7 hg7 hat7 hat7' hown hfz hpl hnp d13 HQ15 HP15 HT15 g0 g1 g2 g3 g4 g5 g6 g7 g8 c2'
       go_upto_region 21 with (fail)
       rw [← HW17.out]
       clear d7 f7 HW17
       by_cases hl : ys.length = 4
       ·
        have HFE : Hid (F = .error (lim T j2)) := Lib.hid (by rw [if_pos (by simpa using hl)] at hX; rw [HF5.out, ← hX]; rfl)
        have hl4 : decide (4 < (ys.length : Int) + 1) = true := decide_eq_true (by omega)
        have KF := Lib.hid (fails_yes 2 (tk T j2).at_ HP17.out)
        have HXE : Hid ((2 : Int) ≠ 0) := Lib.hid (by decide)
        clear hX hl
        go_wp2_with fail
        refine KF.out.mono ?_
        rintro e w18 ⟨rfl, hP18, hC18⟩
        have HQ18 := Lib.hid (HQ17.out.step hC18)
        have KT := Lib.hid (take_per ⟨#[44]⟩ hP18 HXE.out)
        have HP18 := Lib.hid hP18
        clear KF hP18 hC18 HQ17 HP17 e13
        go_wp2_with fail
        refine KT.out.mono ?_
        rintro e w19 ⟨rfl, hx19⟩
        have HQ := Lib.hid (HQ18.out.ext hx19)
        have HP19 := Lib.hid (HP18.out.ext hx19)
        clear KT hx19 HQ18 HP18
        go_upto_region 24 with (fail)
        obtain ⟨cs, hcs⟩ : ∃ cs : List Value, cs = rx h4 cs9 (.slice (some ⟨q7, 0, none⟩) (ys.length + 1) cap7) (nw) (0) := ⟨_, rfl⟩
        have hrg := HQ.out.bx.range
        rw [← hcs] at hrg
        obtain ⟨zs, hzs, hrz⟩ := HQ.out.rr
        have h16 : cs.length = 16 := by rw [hcs]; exact rx_len HQ.out.h4 HQ.out.h9
        have h1 : cs.toArray.all (·.oneCell') = true := by rw [hcs]; exact HONE.out _ ⟨_, _, _, rfl⟩ _ _
        have hi : (Tryz.prog.info? 66).map (·.size) = some cs.length := by rw [h16]; kernel_rfl
        have hi' : (Tryz.prog.info? 66).map (·.size) = some cs.toArray.size := by simpa using hi
        have hth : (w19).there r 0 cs.toArray.size := by have := hrz.thr; rw [hzs] at this; simpa [h16] using this
        have hrs : ((w19).setCells r 0 cs).rangeAt r 0 cs := World.rangeAt_setCells_same _ _ _ _ (by simpa using hth)
        have hres := run_loadVar_mid (P := Tryz.prog) _ r 0 66 cs _ hrs Tryz.underlying66 rfl hi
        have HCS := Lib.hid hcs
        clear hrz hzs hrs h16 hcs
        apply wp_region_lit
        with_reducible refine wpList_load_mid (op := ⟨some 98, _, _, _, _, _⟩) ?o1 66 (.tmp 6) ?o2 q 0 ?o3 cs _ hrg Tryz.underlying66 ?o4 hi ?_
        case o1 => rfl
        case o2 => rfl
        case o3 => rfl
        case o4 => rfl
        with_reducible refine wpList_move (op := ⟨some 99, _, _, _, _, _⟩) ?o1 (.tmp 7) ?o2 (.int .i64 (tk T i).at_) ?o3 ?_
        case o1 => rfl
        case o2 => rfl
        case o3 => rfl
        with_reducible refine wpList_store_mid (op := ⟨none, _, _, _, _, _⟩) ?o1 66 (.tmp 4) (.tmp 98) ?o2 r 0 cs.toArray ?o3 ?o4 hth hi' h1 ?_
        case o1 => rfl
        case o2 => rfl
        case o3 => rfl
        case o4 => rfl
        with_reducible refine wpList_assign (op := ⟨some 5, _, _, _, _, _⟩) ?o1 (.tmp 99) ?o2 (.int .i64 (tk T i).at_) ?o3 ?_
        case o1 => rfl
        case o2 => rfl
        case o3 => rfl
        refine wpList_nil ?_
        go_wp2_with fail
        refine bodyPost_ret (v := .tuple #[.agg cs.toArray, .int .i64 (tk T i).at_]) (by simp [results, Tryz.results21, asAddr, Act.put, hres]) rfl ?_
        obtain ⟨wf, hwf⟩ : ∃ wf, wf = (w19).setCells r 0 cs := ⟨_, rfl⟩
        rw [← hwf]
        obtain ⟨hCwf, hR5, hCf, hBf⟩ := HQ.out.done HC3.out hrw hqw hwf
        clear hwf hres hth hrg hi hi' h1

        have hPf := HP19.out.keep fun y hy hye => hCf.block y hy (by rcases hye with e | e <;> omega)
        rw [HFE.out]
        exact ⟨hCwf, HXE.out, ⟨cs9, HSH.out, _, _, _, _, _, by rw [HCS.out, HH4.out]⟩, _, _, hPf⟩
       ·
        have hX' : (if rl T m2 = 6 then (if (rl T (m2 + 1) = 21 ∨ rl T (m2 + 1) = 22) ∧ rl T (m2 + 1 + 1) = 7 then .ok (((ys ++ [yy]).map (·.1), (rl T (m2 + 1) : Nat) - 20), m2 + 1 + 1) else whereQ T n ((ys ++ [yy]).map (·.1)) (m2 + 1))
          else .ok (((ys ++ [yy]).map (·.1), 0), m2) : Rs (List Gd × Int)) = F6 := by
         rw [if_neg (by simpa using hl)] at hX
         simpa [HYY.out] using hX
        have hl4 : decide (4 < (ys.length : Int) + 1) = false := decide_eq_false (by omega)
        have hnl : ys.length + 1 ≤ 4 := by omega
        clear hX hl
        by_cases h6 : rl T m2 = 6
        case neg =>
         rw [if_neg h6] at hX'
         have HFE : Hid (F = .ok (⟨hd, p, (ys ++ [yy]).map (·.1), nw, 0⟩, m2)) := Lib.hid (by rw [HF5.out, ← hX']; rfl)
         have KT := Lib.hid (take_pno HG.out 2 (by omega) _ comma_txt HP17.out (by omega))
         clear hX' h6
         go_wp2_with fail
         refine KT.out.mono ?_
         rintro e w18 ⟨rfl, hx18⟩
         have HQ := Lib.hid (HQ17.out.ext hx18)
         have HP18 := Lib.hid (HP17.out.ext hx18)
         clear KT hx18 HQ17 HP17 e13
         go_upto_region 24 with (fail)
         obtain ⟨cs, hcs⟩ : ∃ cs : List Value, cs = rx h4 cs9 (.slice (some ⟨q7, 0, none⟩) (ys.length + 1) cap7) (nw) (0) := ⟨_, rfl⟩
         have hrg := HQ.out.bx.range
         rw [← hcs] at hrg
         obtain ⟨zs, hzs, hrz⟩ := HQ.out.rr
         have h16 : cs.length = 16 := by rw [hcs]; exact rx_len HQ.out.h4 HQ.out.h9
         have h1 : cs.toArray.all (·.oneCell') = true := by rw [hcs]; exact HONE.out _ ⟨_, _, _, rfl⟩ _ _
         have hi : (Tryz.prog.info? 66).map (·.size) = some cs.length := by rw [h16]; kernel_rfl
         have hi' : (Tryz.prog.info? 66).map (·.size) = some cs.toArray.size := by simpa using hi
         have hth : (w18).there r 0 cs.toArray.size := by have := hrz.thr; rw [hzs] at this; simpa [h16] using this
         have hrs : ((w18).setCells r 0 cs).rangeAt r 0 cs := World.rangeAt_setCells_same _ _ _ _ (by simpa using hth)
         have hres := run_loadVar_mid (P := Tryz.prog) _ r 0 66 cs _ hrs Tryz.underlying66 rfl hi
         have HCS := Lib.hid hcs
         clear hrz hzs hrs h16 hcs
         apply wp_region_lit
         with_reducible refine wpList_load_mid (op := ⟨some 98, _, _, _, _, _⟩) ?o1 66 (.tmp 6) ?o2 q 0 ?o3 cs _ hrg Tryz.underlying66 ?o4 hi ?_
         case o1 => rfl
         case o2 => rfl
         case o3 => rfl
         case o4 => rfl
         with_reducible refine wpList_move (op := ⟨some 99, _, _, _, _, _⟩) ?o1 (.tmp 7) ?o2 (.int .i64 (tk T i).at_) ?o3 ?_
         case o1 => rfl
         case o2 => rfl
         case o3 => rfl
         with_reducible refine wpList_store_mid (op := ⟨none, _, _, _, _, _⟩) ?o1 66 (.tmp 4) (.tmp 98) ?o2 r 0 cs.toArray ?o3 ?o4 hth hi' h1 ?_
         case o1 => rfl
         case o2 => rfl
         case o3 => rfl
         case o4 => rfl
         with_reducible refine wpList_assign (op := ⟨some 5, _, _, _, _, _⟩) ?o1 (.tmp 99) ?o2 (.int .i64 (tk T i).at_) ?o3 ?_
         case o1 => rfl
         case o2 => rfl
         case o3 => rfl
         refine wpList_nil ?_
         go_wp2_with fail
         refine bodyPost_ret (v := .tuple #[.agg cs.toArray, .int .i64 (tk T i).at_]) (by simp [results, Tryz.results21, asAddr, Act.put, hres]) rfl ?_
         obtain ⟨wf, hwf⟩ : ∃ wf, wf = (w18).setCells r 0 cs := ⟨_, rfl⟩
         rw [← hwf]
         obtain ⟨hCwf, hR5, hCf, hBf⟩ := HQ.out.done HC3.out hrw hqw hwf
         clear hwf hres hth hrg hi hi' h1

         have hPf := HP18.out.keep fun y hy hye => hCf.block y hy (by rcases hye with e | e <;> omega)
         rw [HFE.out]
         obtain ⟨hpi, hpc⟩ := HPT.out
         have hsz := hCwf.size
         refine ⟨hCwf, plx, (ys ++ [yy]), some ⟨q7, 0, none⟩, cap7, rfl, rfl, by rw [HCS.out, HH4.out, hpc]; first | rfl | simp, hpi.keep fun b hb _ => ?_, by first | exact hR5 | simpa using hR5, hPf⟩
         have hb1 := hb.1
         have hb2 := hb.2
         exact ⟨by rw [hBf b (by omega) (by omega) (by omega) (by omega), HW3B.out b (by omega) (by omega)], by omega, by have := hCf.size; have := HQ.out.chg.size; omega⟩
        case pos =>
         rw [if_pos h6] at hX'
         have hm3 : m2 + 1 < T.length := HT.out.next 6 h6 (by omega)
         have KT := Lib.hid (take_pyes HG.out 2 (by omega) _ comma_txt HP17.out h6)
         clear h6
         go_wp2_with fail
         refine KT.out.mono ?_
         rintro e w18 ⟨rfl, hP18, hC18⟩
         have hQ18 := HQ17.out.step hC18
         have KPO := Lib.hid (policy_pg HG.out hP18 hQ18.bx (rx_15 hQ18.h4 hQ18.h9) hqg hqA)
         have HQ18 := Lib.hid hQ18
         have HP18 := Lib.hid hP18
         clear KT hP18 hC18 HQ17 HP17 e13 hQ18
         go_wp2_with fail
         refine KPO.out.mono ?_
         rintro e w19 (⟨hpol, rfl, hP19, hb19, hC19⟩ | ⟨hpol, rfl, hx19⟩)
         ·
          rw [if_pos hpol] at hX'
          have HFE : Hid (F = .ok (⟨hd, p, (ys ++ [yy]).map (·.1), nw, (rl T (m2 + 1) : Int) - 20⟩, m2 + 1 + 1)) := Lib.hid (by rw [HF5.out, ← hX']; rfl)
          have HQ := Lib.hid (HQ18.out.pol hC19 hb19)
          have HP19 := Lib.hid hP19
          clear KPO hP19 hC19 hb19 HQ18 HP18 hX' hpol
          obtain ⟨pv, hpv⟩ : ∃ pv : Int, pv = (rl T (m2 + 1) : Int) - 20 := ⟨_, rfl⟩
          rw [← hpv] at HQ HFE
          clear hpv
          go_upto_region 26 with (fail)
          obtain ⟨cs, hcs⟩ : ∃ cs : List Value, cs = rx h4 cs9 (.slice (some ⟨q7, 0, none⟩) (ys.length + 1) cap7) (nw) (pv) := ⟨_, rfl⟩
          have hrg := HQ.out.bx.range
          rw [← hcs] at hrg
          obtain ⟨zs, hzs, hrz⟩ := HQ.out.rr
          have h16 : cs.length = 16 := by rw [hcs]; exact rx_len HQ.out.h4 HQ.out.h9
          have h1 : cs.toArray.all (·.oneCell') = true := by rw [hcs]; exact HONE.out _ ⟨_, _, _, rfl⟩ _ _
          have hi : (Tryz.prog.info? 66).map (·.size) = some cs.length := by rw [h16]; kernel_rfl
          have hi' : (Tryz.prog.info? 66).map (·.size) = some cs.toArray.size := by simpa using hi
          have hth : (w19).there r 0 cs.toArray.size := by have := hrz.thr; rw [hzs] at this; simpa [h16] using this
          have hrs : ((w19).setCells r 0 cs).rangeAt r 0 cs := World.rangeAt_setCells_same _ _ _ _ (by simpa using hth)
          have hres := run_loadVar_mid (P := Tryz.prog) _ r 0 66 cs _ hrs Tryz.underlying66 rfl hi
          have HCS := Lib.hid hcs
          clear hrz hzs hrs h16 hcs
          apply wp_region_lit
          with_reducible refine wpList_load_mid (op := ⟨some 102, _, _, _, _, _⟩) ?o1 66 (.tmp 6) ?o2 q 0 ?o3 cs _ hrg Tryz.underlying66 ?o4 hi ?_
          case o1 => rfl
          case o2 => rfl
          case o3 => rfl
          case o4 => rfl
          with_reducible refine wpList_move (op := ⟨some 103, _, _, _, _, _⟩) ?o1 (.tmp 7) ?o2 (.int .i64 (tk T i).at_) ?o3 ?_
          case o1 => rfl
          case o2 => rfl
          case o3 => rfl
          with_reducible refine wpList_store_mid (op := ⟨none, _, _, _, _, _⟩) ?o1 66 (.tmp 4) (.tmp 102) ?o2 r 0 cs.toArray ?o3 ?o4 hth hi' h1 ?_
          case o1 => rfl
          case o2 => rfl
          case o3 => rfl
          case o4 => rfl
          with_reducible refine wpList_assign (op := ⟨some 5, _, _, _, _, _⟩) ?o1 (.tmp 103) ?o2 (.int .i64 (tk T i).at_) ?o3 ?_
          case o1 => rfl
          case o2 => rfl
          case o3 => rfl
          refine wpList_nil ?_
          go_wp2_with fail
          refine bodyPost_ret (v := .tuple #[.agg cs.toArray, .int .i64 (tk T i).at_]) (by simp [results, Tryz.results21, asAddr, Act.put, hres]) rfl ?_
          obtain ⟨wf, hwf⟩ : ∃ wf, wf = (w19).setCells r 0 cs := ⟨_, rfl⟩
          rw [← hwf]
          obtain ⟨hCwf, hR5, hCf, hBf⟩ := HQ.out.done HC3.out hrw hqw hwf
          clear hwf hres hth hrg hi hi' h1

          have hPf := HP19.out.keep fun y hy hye => hCf.block y hy (by rcases hye with e | e <;> omega)
          rw [HFE.out]
          obtain ⟨hpi, hpc⟩ := HPT.out
          have hsz := hCwf.size
          refine ⟨hCwf, plx, (ys ++ [yy]), some ⟨q7, 0, none⟩, cap7, rfl, rfl, by rw [HCS.out, HH4.out, hpc]; first | rfl | simp, hpi.keep fun b hb _ => ?_, by first | exact hR5 | simpa using hR5, hPf⟩
          have hb1 := hb.1
          have hb2 := hb.2
          exact ⟨by rw [hBf b (by omega) (by omega) (by omega) (by omega), HW3B.out b (by omega) (by omega)], by omega, by have := hCf.size; have := HQ.out.chg.size; omega⟩
         ·
          rw [if_neg hpol] at hX'
          have HX' := Lib.hid hX'
          have HQ := Lib.hid (HQ18.out.ext hx19)
          have HP19 := Lib.hid (HP18.out.ext hx19)
          clear KPO hx19 HQ18 HP18 hX' hpol
          go_wp2_with fail
          go_roundw
          case rel => exact ⟨m2 + 1, _, some ⟨q7, 0, none⟩, cap7, ys ++ [yy], by simp, HP19.out, HQ.out, by simp; omega, Lib.hid ⟨n, by omega, HX'.out⟩⟩
          case measure => rw [HM.out, HP19.out.m0]; omega
end Go.Proofs.YtbjghkmjnhmlfaaGreatDoor
