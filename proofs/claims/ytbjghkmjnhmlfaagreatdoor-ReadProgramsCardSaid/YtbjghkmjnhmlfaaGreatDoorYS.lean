/- Joined: Pgp, Pgq. -/
import Derived.Test.YtbjghkmjnhmlfaaGreatDoorPgo
import Derived.Test.YtbjghkmjnhmlfaaGreatDoorPbw

/- Package read: program; whole texts: programs. -/
namespace Go.Proofs.YtbjghkmjnhmlfaaGreatDoor
open Go.RowKit

abbrev z2 : List Value := [.slice none 0 0, .slice none 0 0]
def ProgOut (w : World) (g : Nat) (K : RdP) (T : List Tok) (F : Rs Pr) (e : Ending) (w' : World) : Prop := Chg (· = g) w w' ∧
  match F with
  | .ok (P, j) => ∃ A0 c0 cs A1 c1 rs, cs.map ClL.cl = P.clauses ∧ rs.map RlL.rl = P.rules ∧ e = .returned (.tuple #[.agg #[.slice A0 cs.length c0, .slice A1 rs.length c1], .bool true]) ∧
      RowIn SC w' (New w w') (.slice A0 cs.length c0) cs ∧ RowIn SR w' (New w w') (.slice A1 rs.length c1) rs ∧ RdAt w' g K T j 0 ∧ j < T.length ∧ rl T j = 0
  | .error (a, x) => (∃ A l c A' l' c', e = .returned (.tuple #[.agg #[.slice A l c, .slice A' l' c'], .bool false])) ∧ RdErr w' g a x
theorem setCells_keep {w5 : World} {q : Nat} {vs : List Value} {F : Nat → Prop} {X : Type} {S : Srt X} {v : Value} {xs : List X} (h : RowIn S w5 F v xs) (hF : ∀ b, F b → b ≠ q) : RowIn S (w5.setCells q 0 vs) F v xs :=
  h.keep fun b hb _ => ⟨setCells_block (hF b hb) vs 0 w5, hb⟩
set_option maxRecDepth 100000 in
set_option maxHeartbeats 4000000 in
theorem program_rd {w : World} {g : Nat} {K : RdP} {T : List Tok} (hT : EndLast T) (h : RdAt w g K T 0 0) (hbo : BitOk w g) :
    Calls Tryz.prog 16 #[.pointer (some ⟨g, 0, none⟩)] w (ProgOut w g K T (itemsP T T.length ⟨[], []⟩ 0)) := by
  have hgl := h.lt
  have hlo := h.low hT.1
  have hGl := hbo.at_.lt
  obtain ⟨w0, hw0⟩ : ∃ w0, w0 = (w.alloc (.cells #[.slice none 0 0, .slice none 0 0] 31)).alloc (.cells #[.slice none 0 0, .slice none 0 0] 31) := ⟨_, rfl⟩
  have hx0 : Ext w w0 := by rw [hw0]; exact ((Ext.refl _).alloc _).alloc _
  obtain ⟨p, hp⟩ : ∃ p, p = w.heap.size + 1 := ⟨_, rfl⟩
  have hq0 : BoxN w0 w.heap.size z2 := by rw [hw0]; exact (BoxN.new w _ _ (by simp)).ext ((Ext.refl _).alloc _)
  have hb0 : BoxN w0 p z2 := by
    have := BoxN.new (w.alloc (.cells #[.slice none 0 0, .slice none 0 0] 31)) #[.slice none 0 0, .slice none 0 0] 31 (by simp)
    rw [hsz_alloc] at this
    rw [hw0, hp]; exact this
  have HW0 := Lib.hid (And.intro hw0 hp)
  have hpw : w.heap.size < p := by omega
  have hpl := hb0.lt
  obtain ⟨B, hBe⟩ : ∃ B, B = w0.heap.size := ⟨_, rfl⟩
  have hR0 := h.ext hx0
  have hT0 : TwoP B w0 p (.slice none 0 0) [] (.slice none 0 0) [] :=
    ⟨⟨GInv.start SC _ (by omega), hb0.cell 0 rfl, hb0.fz 0 (by decide), by omega⟩, ⟨GInv.start SR _ (by omega), hb0.cell 1 rfl, hb0.fz 1 (by decide), by omega⟩, hb0, by simp, by simp⟩
  have hlo3 : g < B ∧ K.A < B ∧ K.R < B := by have := hx0.size; omega
  have HBO := Lib.hid (And.intro (hbo.ext hx0) hx0)
  have HST := Lib.hid (And.intro hR0 (And.intro hT0 hq0))
  obtain ⟨F, hF⟩ : ∃ F, F = itemsP T T.length ⟨[], []⟩ 0 := ⟨_, rfl⟩
  rw [← hF]
  have HF := Lib.hid hF.symm
  clear h hbo hw0 hp hq0 hb0 hR0 hT0 hF hx0
  go_enter Tryz.func16, Tryz.ntmps16
  go_upto_region 1 with (fail)
  go_wp2_with fail
  rw [← HW0.out.2, ← HW0.out.1]
  go_loopw [] (fun wr => ∃ (n j : Nat) (v0 : Value) (cs : List ClL) (v1 : Value) (rs : List RlL), T.length ≤ n + j ∧ j < T.length ∧ RdAt wr g K T j 0 ∧ TwoP B wr p v0 cs v1 rs ∧ BoxN wr w.heap.size z2 ∧ Chg (· = g) w wr ∧ Hid (itemsP T n ⟨cs.map ClL.cl, rs.map RlL.rl⟩ j = F)) (fun wr => T.length - nxOf wr g)
  case atStart => exact ⟨T.length, 0, _, [], _, [], by omega, hT.1, HST.out.1, HST.out.2.1, HST.out.2.2, Chg.of_ext HBO.out.2, HF⟩
  case round =>
    obtain ⟨n, j, v0, cs, v1, rs, hn, hj, hR, hTw, hq, hC, HX⟩ := hrel
    obtain ⟨n, rfl⟩ : ∃ m, n = m + 1 := ⟨n - 1, by omega⟩
    have hG := HX.out
    rw [itemsP] at hG
    have HNX := Lib.hid hR.nx
    have KS := Lib.hid (sees_rd 1 (by omega) hR hj)
    have h4 : ∀ x, v0.ownBlock = some x → B ≤ x := fun x hx => (hTw.s0.inv.lt x hx).1
    have h5 : ∀ x, v1.ownBlock = some x → B ≤ x := fun x hx => (hTw.s1.inv.lt x hx).1
    have HH := Lib.hid (And.intro hR (And.intro hTw hq))
    clear HST HX hR hTw hq
    by_cases he : rl T j = 0
    · rw [he, show Nat.testBit 1 0 = true by decide] at KS
      rw [if_pos he] at hG
      have HFF : Hid (F = .ok (⟨cs.map ClL.cl, rs.map RlL.rl⟩, j)) := Lib.hid hG.symm
      clear hG
      go_wp2_with fail
      refine KS.out.mono ?_
      rintro e w1 ⟨rfl, hx1⟩
      obtain ⟨A0, c0, e0, _⟩ := src_own HH.out.2.1.s0.inv.own
      obtain ⟨A1, c1, e1, _⟩ := src_own HH.out.2.1.s1.inv.own
      have hT1 := HH.out.2.1.ext hx1
      have hq1 := HH.out.2.2.ext hx1
      have hbx : BoxN w1 p [.slice A0 cs.length c0, .slice A1 rs.length c1] := by have := hT1.box; rw [e0, e1] at this; exact this
      have hr0 := hT1.s0.inv.row
      have hr1 := hT1.s1.inv.row
      rw [e0] at hr0
      rw [e1] at hr1
      have x0 := hbx.cell 0 rfl
      have x1 := hbx.cell 1 rfl
      have y0 := hq1.cell 0 rfl
      have y1 := hq1.cell 1 rfl
      have z0 := hq1.fz 0 (by decide)
      have z1 := hq1.fz 1 (by decide)
      have hCw : Chg (· = g) w w1 := hC.trans (Chg.of_ext hx1)
      have H1 := Lib.hid (And.intro hr0 (And.intro hr1 (HH.out.1.ext hx1)))
      clear hx1 hT1 hq1 hbx hr0 hr1 KS
      go_wp2_with fail
      refine bodyPost_ret (v := .tuple #[.agg #[.slice A0 cs.length c0, .slice A1 rs.length c1], .bool true]) (by simp [results, Tryz.results16, go_sem, *]) rfl ?_
      rw [HFF.out]
      obtain ⟨wf, hwf⟩ : ∃ wf, wf = w1.setCells w.heap.size 0 [.slice A0 cs.length c0, .slice A1 rs.length c1] := ⟨_, rfl⟩
      have hCf : Chg (· = g) w wf := by rw [hwf]; exact setCells_new hCw (Nat.le_refl _) _
      have hsz : wf.heap.size = w1.heap.size := by rw [hwf]; exact setCells_size (w := w1) _ 0 w1 rfl
      rw [show (w1.setCell ⟨w.heap.size, 0, none⟩ (.slice A0 cs.length c0)).setCell ⟨w.heap.size, 1, none⟩ (.slice A1 rs.length c1) = wf from hwf.symm]
      refine ⟨hCf, A0, c0, cs, A1, c1, rs, rfl, rfl, rfl, ?_, ?_, ?_, hj, he⟩
      · exact H1.out.1.keep fun b hb _ => ⟨by rw [hwf]; exact setCells_block (by have := hb.1.1; omega) _ 0 w1, by have := hb.1.1; omega, by rw [hsz]; exact hb.1.2⟩
      · exact H1.out.2.1.keep fun b hb _ => ⟨by rw [hwf]; exact setCells_block (by have := hb.1.1; omega) _ 0 w1, by have := hb.1.1; omega, by rw [hsz]; exact hb.1.2⟩
      · exact H1.out.2.2.keep fun x _ e => by rw [hwf]; exact setCells_block (by rcases e with e | e | e <;> omega) _ 0 w1
    · rw [show Nat.testBit 1 (rl T j) = false from bit_ne (k := 0) he] at KS
      rw [if_neg he] at hG
      have HG := Lib.hid hG
      clear hG
      go_wp2_with fail
      refine KS.out.mono ?_
      rintro e w1 ⟨rfl, hx1⟩
      have hC1 : Chg (· = g) w w1 := hC.trans (Chg.of_ext hx1)
      have KI := Lib.hid (item_rd hT (HH.out.1.ext hx1) (HBO.out.1.back HBO.out.2 hC1 hGl) hj (by omega : p ≠ g) (by omega) (by omega) hlo3 (HH.out.2.1.ext hx1))
      have hq1 := HH.out.2.2.ext hx1
      have H1 := Lib.hid hq1
      clear hx1 KS hq1
      match hip : itemP T ⟨cs.map ClL.cl, rs.map RlL.rl⟩ j with
      | .error (a, x) =>
        have HFF : Hid (F = .error (a, x)) := Lib.hid (by rw [← HG.out, hip])
        rw [hip] at KI
        clear hip
        go_wp2_with fail
        refine KI.out.mono ?_
        rintro e w2 ⟨hC2, rfl, hE, A, l, c, A', l', c', hbx⟩
        have hCw : Chg (· = g) w w2 := chg_part hC1 hC2 (by omega) (fun x hx => by have := h4 x hx; omega) (fun x hx => by have := h5 x hx; omega)
        have hqx := H1.out.chg hC2 (fun e => by rcases e with e | e | e | e; omega; omega; have := h4 _ e; omega; have := h5 _ e; omega)
        have x0 := hbx.cell 0 rfl
        have x1 := hbx.cell 1 rfl
        have y0 := hqx.cell 0 rfl
        have y1 := hqx.cell 1 rfl
        have z0 := hqx.fz 0 (by decide)
        have z1 := hqx.fz 1 (by decide)
        have H2 := Lib.hid (And.intro hE hCw)
        clear hE hCw hbx hqx hC2 KI
        go_wp2_with fail
        refine bodyPost_ret (v := .tuple #[.agg #[.slice A l c, .slice A' l' c'], .bool false]) (by simp [results, Tryz.results16, go_sem, *]) rfl ?_
        rw [HFF.out]
        have kg : ((w2.setCell ⟨w.heap.size, 0, none⟩ (.slice A l c)).setCell ⟨w.heap.size, 1, none⟩ (.slice A' l' c')).heap[g]? = w2.heap[g]? := setCells_block (by omega : g ≠ w.heap.size) [.slice A l c, .slice A' l' c'] 0 w2
        exact ⟨setCells_new H2.out.2 (Nat.le_refl _) [.slice A l c, .slice A' l' c'], ⟨_, _, _, _, _, _, rfl⟩, cell_same kg H2.out.1.c4, cell_same kg H2.out.1.c5⟩
      | .ok (P, j') =>
        have hjt := itemP_takes hT hip
        have HG2 : Hid (itemsP T n P j' = F) := Lib.hid (by rw [← HG.out, hip])
        rw [hip] at KI
        clear hip
        go_wp2_with fail
        refine KI.out.mono ?_
        rintro e w2 ⟨hC2, rfl, hR2, v0', cs', v1', rs', hcs, hrs, hT2⟩
        have hCw : Chg (· = g) w w2 := chg_part hC1 hC2 (by omega) (fun x hx => by have := h4 x hx; omega) (fun x hx => by have := h5 x hx; omega)
        have hqx := H1.out.chg hC2 (fun e => by rcases e with e | e | e | e; omega; omega; have := h4 _ e; omega; have := h5 _ e; omega)
        have HN2 := Lib.hid hR2.nx
        have HPP : Hid (P = ⟨cs'.map ClL.cl, rs'.map RlL.rl⟩) := Lib.hid (by cases P; simp only at hcs hrs; rw [hcs, hrs])
        have H2 := Lib.hid (And.intro hR2 (And.intro hT2 hqx))
        clear hR2 hT2 hqx hC2 KI hcs hrs
        go_wp2_with fail
        go_roundw
        case rel => exact ⟨n, j', v0', cs', v1', rs', by omega, hjt.2, H2.out.1, H2.out.2.1, H2.out.2.2, hCw, Lib.hid (by rw [← HPP.out]; exact HG2.out)⟩
        case measure => rw [HNX.out, HN2.out]; omega
/-- what reading a text as a program comes to -/
def readG (s : ByteArray) : Except (Int × Int) Pr := if lexE s = 0 then wholeG (lexT s) else .error (lexA s, lexE s)
def ProgRet (w : World) (F : Except (Int × Int) Pr) (e : Ending) (w' : World) : Prop := Ext w w' ∧
  match F with
  | .ok P => ∃ A0 c0 cs A1 c1 rs, cs.map ClL.cl = P.clauses ∧ rs.map RlL.rl = P.rules ∧ e = .returned (.tuple #[.agg #[.slice A0 cs.length c0, .slice A1 rs.length c1], .int .i64 0, .int .i64 0]) ∧
      RowIn SC w' (New w w') (.slice A0 cs.length c0) cs ∧ RowIn SR w' (New w w') (.slice A1 rs.length c1) rs
  | .error (a, x) => e = .returned (.tuple #[.agg #[.slice none 0 0, .slice none 0 0], .int .i64 a, .int .i64 x])
theorem ProgRet.ext {w wf wf' : World} {F : Except (Int × Int) Pr} {e : Ending} (h : ProgRet w F e wf) (k : Ext wf wf') : ProgRet w F e wf' := by
  obtain ⟨h1, h2⟩ := h
  refine ⟨h1.trans k, ?_⟩
  match F, h2 with
  | .error (a, x), h2 => exact h2
  | .ok P, ⟨A0, c0, cs, A1, c1, rs, h3, h4, he, ha, hb⟩ =>
    exact ⟨A0, c0, cs, A1, c1, rs, h3, h4, he, ha.keep fun b hb _ => ⟨k.block b hb.2, hb.1, by have := hb.2; have := k.size; omega⟩, hb.keep fun b hb _ => ⟨k.block b hb.2, hb.1, by have := hb.2; have := k.size; omega⟩⟩
theorem ext_setCells2 {w w5 : World} {q : Nat} (h : Ext w w5) (hq : w.heap.size ≤ q) (vs : List Value) : Ext w (w5.setCells q 0 vs) := ext_setCells vs 0 w5 hq h
theorem prog_err {w w5 wf : World} {a x : Int} (h : Ext w w5) {vs : List Value} (hwf : wf = w5.setCells w.heap.size 0 vs) {e : Ending} (he : e = .returned (.tuple #[.agg #[.slice none 0 0, .slice none 0 0], .int .i64 a, .int .i64 x])) : ProgRet w (.error (a, x)) e wf := by
  subst hwf
  exact ⟨ext_setCells2 h (Nat.le_refl _) vs, he⟩
theorem prog_ok {w w3 w5 wf : World} {P : Pr} {A0 A1 : Option Addr} {c0 c1 : Nat} {cs : List ClL} {rs : List RlL} (h : Ext w w5) (hr : w.heap.size < w3.heap.size) (h1 : cs.map ClL.cl = P.clauses) (h2 : rs.map RlL.rl = P.rules) (ha : RowIn SC w5 (New w3 w5) (.slice A0 cs.length c0) cs) (hb : RowIn SR w5 (New w3 w5) (.slice A1 rs.length c1) rs)
    {vs : List Value} (hwf : wf = w5.setCells w.heap.size 0 vs) {e : Ending} (he : e = .returned (.tuple #[.agg #[.slice A0 cs.length c0, .slice A1 rs.length c1], .int .i64 0, .int .i64 0])) : ProgRet w (.ok P) e wf := by
  subst hwf
  have hsz : (w5.setCells w.heap.size 0 vs).heap.size = w5.heap.size := setCells_size (w := w5) vs 0 w5 rfl
  exact ⟨ext_setCells2 h (Nat.le_refl _) vs, A0, c0, cs, A1, c1, rs, h1, h2, he, ha.keep fun b hb _ => ⟨setCells_block (by have := hb.1; omega) vs 0 w5, by have := hb.1; omega, by rw [hsz]; exact hb.2⟩, hb.keep fun b hb _ => ⟨setCells_block (by have := hb.1; omega) vs 0 w5, by have := hb.1; omega, by rw [hsz]; exact hb.2⟩⟩
end Go.Proofs.YtbjghkmjnhmlfaaGreatDoor

/- Package read: whole texts: programs. -/
namespace Go.Proofs.YtbjghkmjnhmlfaaGreatDoor
open Go.RowKit

set_option maxRecDepth 100000 in
set_option maxHeartbeats 4000000 in
theorem wholeG_any (s : ByteArray) (w : World) (hC : ClsAt w) (hX : TxtAt w) (hS : s.size ≤ 140737488351232) (hBt : BitAt w) :
    Calls Tryz.prog 15 #[.string s, .func (Fn.func 16) #[] #[]] w (ProgRet w (readG s)) := by
  obtain ⟨w0, hw0⟩ : ∃ w0, w0 = (w.alloc (.cells #[.slice none 0 0, .slice none 0 0] 31)).alloc (.cells #[.slice none 0 0, .slice none 0 0] 31) := ⟨_, rfl⟩
  have hr0 : BoxN w0 w.heap.size z2 := by rw [hw0]; exact (BoxN.new w _ _ (by simp)).ext ((Ext.refl _).alloc _)
  have hn0 : BoxN w0 (w.heap.size + 1) z2 := by
    have := BoxN.new (w.alloc (.cells #[.slice none 0 0, .slice none 0 0] 31)) #[.slice none 0 0, .slice none 0 0] 31 (by simp)
    rw [hsz_alloc] at this
    rw [hw0]; exact this
  have hx0 : Ext w w0 := by rw [hw0]; exact ((Ext.refl _).alloc _).alloc _
  have HW0 := Lib.hid hw0
  have KT := Lib.hid (Tokens_any s w0 (hC.ext hx0) (Nat.lt_of_lt_of_le (World.block_lt_of_cell? w _ (hC 0 (by omega))) hx0.size) hS)
  have HX0 := Lib.hid (hX.ext hx0)
  have HBT := Lib.hid (hBt.ext hx0)
  have hGl := hBt.lt
  clear hw0 hX hC hBt
  go_enter Tryz.func15, Tryz.ntmps15
  go_upto_region 2 with (fail)
  rw [← HW0.out]
  go_wp2_with fail
  refine KT.out.mono ?_
  rintro e w1 ⟨v, base, rfl, hown, hb, hx1⟩
  have hr1 := hr0.ext hx1
  have hn1 := hn0.ext hx1
  have hxw := hx0.trans hx1
  by_cases hE : lexE s = 0
  · obtain ⟨hG, hL⟩ := lexT_good hE
    obtain ⟨A, c, rfl, _, _, hc⟩ := toks_cells hown hG.1
    have qE : (lexE s != 0) = false := by simp [hE]
    have HFR : Hid (readG s = wholeG (lexT s)) := Lib.hid (by unfold readG; rw [if_pos hE])
    have hT := hG.ends
    obtain ⟨T, hTT⟩ : ∃ T, T = lexT s := ⟨_, rfl⟩
    rw [← hTT] at hG hL hc hT
    have HT := Lib.hid hTT
    have KR := Lib.hid (rolesOf_any T A c w1 (HX0.out.ext hx1) hL hG.ok hc)
    rw [← hTT]
    clear hown KT hr0 hn0 hx0 hTT
    go_wp2_with fail
    refine KR.out.mono ?_
    rintro e w2 ⟨R, rfl, hRo, _, _, hx2⟩
    have hc2 : ∀ j (h : j < T.length), w2.cell? ⟨A, j * 4, none⟩ = some (.int .i64 T[j].kind) ∧ w2.cell? ⟨A, j * 4 + 1, none⟩ = some (.string T[j].text) ∧ w2.cell? ⟨A, j * 4 + 2, none⟩ = some (.int .i64 T[j].n) ∧ w2.cell? ⟨A, j * 4 + 3, none⟩ = some (.int .i64 T[j].at_) := fun j hj => by
      obtain ⟨a0, a1, a2, a3⟩ := hc j hj
      exact ⟨hx2.cell a0, hx2.cell a1, hx2.cell a2, hx2.cell a3⟩
    obtain ⟨w3, hw3⟩ : ∃ w3, w3 = w2.alloc (.cells #[.slice (some ⟨A, 0, none⟩) T.length c, .slice (some ⟨R, 0, none⟩) T.length T.length, .int .i64 0, .int .i64 0, .int .i64 0, .int .i64 0] 82) := ⟨_, rfl⟩
    have hR3 := rd_new (K := ⟨A, c, R, T.length⟩) hw3 hL hG hc2 hRo.1
    have hx3 : Ext w2 w3 := by rw [hw3]; exact (Ext.refl _).alloc _
    have HW3 := Lib.hid hw3
    have KM := Lib.hid (program_rd hT hR3 ⟨((HBT.out.ext hx1).ext hx2).ext hx3, by have := hxw.size; have := hx2.size; omega⟩)
    have hg3 : w2.heap.size < w3.heap.size := hR3.lt
    have hr3 := (hr1.ext hx2).ext hx3
    have hn3 := (hn1.ext hx2).ext hx3
    have hxw3 := (hxw.trans hx2).trans hx3
    have hw2 : w.heap.size + 1 < w2.heap.size := (hn1.ext hx2).lt
    clear hc hRo KR hw3 hR3 hr1 hn1 hxw hx2 hc2 hx1
    go_upto_region 6 with (fail)
    rw [← HW3.out]
    match hF : itemsP T T.length ⟨[], []⟩ 0 with
    | .error (a, x) =>
      have HF := Lib.hid hF
      have HFF : Hid (readG s = .error (a, x)) := Lib.hid (by rw [HFR.out, ← HT.out]; unfold wholeG; rw [hF])
      clear hF
      go_wp2_with fail
      refine KM.out.mono ?_
      rintro e w4 ⟨hC4, ho⟩
      rw [HF.out] at ho
      obtain ⟨⟨Ax, lx, cx, Ay, ly, cy, rfl⟩, hE4⟩ := ho
      have hr4 := hr3.chg hC4 (by omega)
      have hn4 := hn3.chg hC4 (by omega)
      have hx4 : Ext w w4 := Chg.ext_of hxw3 hC4 (fun b hb => by omega)
      have hs4 := hC4.size
      have hw3 := hx3.size
      obtain ⟨w5, hw5⟩ : ∃ w5, w5 = w4.alloc (.cells #[.slice Ax lx cx, .slice Ay ly cy] 31) := ⟨_, rfl⟩
      have hx5 : Ext w4 w5 := by rw [hw5]; exact (Ext.refl _).alloc _
      have HW5 := Lib.hid hw5
      have e4 := hx5.cell hE4.c4
      have e5 := hx5.cell hE4.c5
      have n0 := (hn4.ext hx5).cell 0 rfl
      have n1 := (hn4.ext hx5).cell 1 rfl
      have hr5 := hr4.ext hx5
      have hxf := hx4.trans hx5
      clear KM hC4 hE4 hr3 hn3 hr4 hn4 hx4 hx5 hw5
      go_upto_region 8 with (fail)
      rw [← HW5.out]
      have y0 := hr5.cell 0 rfl
      have y1 := hr5.cell 1 rfl
      have f0 := hr5.fz 0 (by decide)
      have f1 := hr5.fz 1 (by decide)
      have hg5 : w2.heap.size < w5.heap.size := by have := World.block_lt_of_cell? w5 _ e4; exact this
      clear hr5
      first | go_region_with (fail) | fail
      all_goals
        go_wp2_with fail
        try go_simp
        refine bodyPost_ret (v := .tuple #[.agg #[.slice none 0 0, .slice none 0 0], .int .i64 a, .int .i64 x]) (by simp [results, Tryz.results15, go_sem, *]) rfl ?_
        rw [HFF.out]
        exact ProgRet.ext (prog_err hxf (vs := [.slice none 0 0, .slice none 0 0]) rfl rfl) (Ext.refl _).drew
    | .ok (P, j) =>
      have HF := Lib.hid hF
      have HFF : Hid (readG s = .ok P) := Lib.hid (by rw [HFR.out, ← HT.out]; unfold wholeG; rw [hF])
      go_wp2_with fail
      refine KM.out.mono ?_
      rintro e w4 ⟨hC4, ho⟩
      rw [HF.out] at ho
      obtain ⟨A0, c0, cs, A1, c1, rs, hcs, hrs, rfl, hra, hrb, hR4, hjT, h0⟩ := ho
      have hr4 := hr3.chg hC4 (by omega)
      have hx4 : Ext w w4 := Chg.ext_of hxw3 hC4 (fun b hb => by omega)
      have hs4 := hC4.size
      have hw3 := hx3.size
      obtain ⟨w5, hw5⟩ : ∃ w5, w5 = w4.alloc (.cells #[.slice A0 cs.length c0, .slice A1 rs.length c1] 31) := ⟨_, rfl⟩
      have hb5 : BoxN w5 w4.heap.size [.slice A0 cs.length c0, .slice A1 rs.length c1] := by rw [hw5]; exact BoxN.new w4 _ _ (by simp)
      have hx5 : Ext w4 w5 := by rw [hw5]; exact (Ext.refl _).alloc _
      have HW5 := Lib.hid hw5
      have hR5 := hR4.ext hx5
      have hra5 := hra.keep (w' := w5) (F' := New w3 w5) fun b hb _ => ⟨hx5.block b hb.2, hb.1, by have := hb.2; have := hx5.size; omega⟩
      have hrb5 := hrb.keep (w' := w5) (F' := New w3 w5) fun b hb _ => ⟨hx5.block b hb.2, hb.1, by have := hb.2; have := hx5.size; omega⟩
      have hr5 := hr4.ext hx5
      have hxf := hx4.trans hx5
      have hs5 := hx5.size
      have KN := Lib.hid (need_yes 1 (by omega) hR5 hjT (by rw [h0]; decide))
      have HCR := Lib.hid (And.intro hcs hrs)
      clear KM hC4 hr3 hn3 hr4 hx4 hx5 hw5 hR4 hra hrb hF hR5 hcs hrs
      go_upto_region 7 with (fail)
      rw [← HW5.out]
      go_wp2_with fail
      refine KN.out.mono ?_
      rintro e w6 ⟨rfl, _, hC6⟩
      have hbx := hb5.chg hC6 (by omega)
      have hqx := hr5.chg hC6 (by omega)
      have b0 := hbx.cell 0 rfl
      have b1 := hbx.cell 1 rfl
      have y0 := hqx.cell 0 rfl
      have y1 := hqx.cell 1 rfl
      have f0 := hqx.fz 0 (by decide)
      have f1 := hqx.fz 1 (by decide)
      have hra6 := hra5.keep (w' := w6) (F' := New w3 w6) fun b hb _ => ⟨hC6.block b hb.2 (by have := hb.1; omega), hb.1, by have := hb.2; have := hC6.size; omega⟩
      have hrb6 := hrb5.keep (w' := w6) (F' := New w3 w6) fun b hb _ => ⟨hC6.block b hb.2 (by have := hb.1; omega), hb.1, by have := hb.2; have := hC6.size; omega⟩
      have hx6 : Ext w w6 := Chg.ext_of hxf hC6 (fun b hb => by omega)
      have HI := Lib.hid (And.intro hra6 hrb6)
      have hw3l : w.heap.size < w3.heap.size := by omega
      clear KN hC6 hb5 hr5 hra5 hrb5 hra6 hrb6 hxf hbx hqx
      go_wp2_with fail
      refine bodyPost_ret (v := .tuple #[.agg #[.slice A0 cs.length c0, .slice A1 rs.length c1], .int .i64 0, .int .i64 0]) (by simp [results, Tryz.results15, go_sem, *]) rfl ?_
      rw [HFF.out]
      exact prog_ok hx6 hw3l HCR.out.1 HCR.out.2 HI.out.1 HI.out.2 (vs := [.slice A0 cs.length c0, .slice A1 rs.length c1]) rfl rfl
  · have qE : (lexE s != 0) = true := by simp [hE]
    have HFF : Hid (readG s = .error (lexA s, lexE s)) := Lib.hid (by unfold readG; rw [if_neg hE])
    have y0 := hr1.cell 0 rfl
    have y1 := hr1.cell 1 rfl
    have f0 := hr1.fz 0 (by decide)
    have f1 := hr1.fz 1 (by decide)
    have n0 := hn1.cell 0 rfl
    have n1 := hn1.cell 1 rfl
    clear KT hown hr0 hn0 hx0 hx1 hr1 hn1
    go_wp2_with fail
    refine bodyPost_ret (v := .tuple #[.agg #[.slice none 0 0, .slice none 0 0], .int .i64 (lexA s), .int .i64 (lexE s)]) (by simp [results, Tryz.results15, go_sem, *]) rfl ?_
    rw [HFF.out]
    exact prog_err hxw (vs := [.slice none 0 0, .slice none 0 0]) rfl rfl
set_option maxRecDepth 100000 in
set_option maxHeartbeats 4000000 in
theorem Program_rd (s : ByteArray) (w : World) (hC : ClsAt w) (hX : TxtAt w) (hS : s.size ≤ 140737488351232) (hBt : BitAt w) : Calls Tryz.prog 8 #[.string s] w (ProgRet w (readG s)) := by
  obtain ⟨w0, hw0⟩ : ∃ w0, w0 = w.alloc (.cells #[.slice none 0 0, .slice none 0 0] 31) := ⟨_, rfl⟩
  have hr0 : BoxN w0 w.heap.size z2 := by rw [hw0]; exact BoxN.new w _ _ (by simp)
  have hx0 : Ext w w0 := by rw [hw0]; exact (Ext.refl _).alloc _
  have HW0 := Lib.hid hw0
  have KT := Lib.hid (wholeG_any s w0 (hC.ext hx0) (hX.ext hx0) hS (hBt.ext hx0))
  have hw : w.heap.size < w0.heap.size := hr0.lt
  clear hw0 hX hC hBt
  go_enter Tryz.func8, Tryz.ntmps8
  go_upto_region 1 with (fail)
  rw [← HW0.out]
  obtain ⟨F, hF⟩ : ∃ F, F = readG s := ⟨_, rfl⟩
  have HF := Lib.hid hF.symm
  clear hF
  go_wp2_with fail
  refine KT.out.mono ?_
  rintro e w1 ⟨hx1, ho⟩
  rw [HF.out] at ho
  have hq := hr0.ext hx1
  have y0 := hq.cell 0 rfl
  have y1 := hq.cell 1 rfl
  have f0 := hq.fz 0 (by decide)
  have f1 := hq.fz 1 (by decide)
  have hxw := hx0.trans hx1
  match F, HF, ho with
  | .error (a, x), HF, ho =>
    obtain rfl := ho
    clear KT hr0 hx0 hq
    go_wp2_with fail
    refine bodyPost_ret (v := .tuple #[.agg #[.slice none 0 0, .slice none 0 0], .int .i64 a, .int .i64 x]) (by simp [results, Tryz.results8, go_sem, *]) rfl ?_
    rw [HF.out]
    exact prog_err hxw (vs := [.slice none 0 0, .slice none 0 0]) rfl rfl
  | .ok P, HF, ho =>
    obtain ⟨A0, c0, cs, A1, c1, rs, hcs, hrs, rfl, hra, hrb⟩ := ho
    have HT := Lib.hid (And.intro hra hrb)
    clear KT hr0 hx0 hra hrb hq
    go_wp2_with fail
    refine bodyPost_ret (v := .tuple #[.agg #[.slice A0 cs.length c0, .slice A1 rs.length c1], .int .i64 0, .int .i64 0]) (by simp [results, Tryz.results8, go_sem, *]) rfl ?_
    rw [HF.out]
    exact prog_ok hxw hw hcs hrs HT.out.1 HT.out.2 (vs := [.slice A0 cs.length c0, .slice A1 rs.length c1]) rfl rfl
end Go.Proofs.YtbjghkmjnhmlfaaGreatDoor
