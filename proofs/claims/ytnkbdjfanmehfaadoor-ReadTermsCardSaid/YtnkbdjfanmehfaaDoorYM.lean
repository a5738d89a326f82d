/- Joined: Pbf, Pbg. -/
import Derived.Test.YtnkbdjfanmehfaaDoorYL
import Derived.Test.YtnkbdjfanmehfaaDoorPbd
import Derived.Test.YtnkbdjfanmehfaaDoorYE
import Derived.StillTailTactics

/- Package read: whole texts: terms. -/
namespace Go.Proofs.YtnkbdjfanmehfaaDoor
open Go.RowKit

theorem toks_cells {w : World} {base : Nat} {v : Value} {T : List Tok} (h : w.ownsRow base 78 4 v T.length (tokCells T)) (hT : 0 < T.length) : ∃ q c, v = .slice (some ⟨q, 0, none⟩) T.length c ∧ base ≤ q ∧ q < w.heap.size ∧
    ∀ j (h : j < T.length), w.cell? ⟨q, j * 4, none⟩ = some (.int .i64 T[j].kind) ∧ w.cell? ⟨q, j * 4 + 1, none⟩ = some (.string T[j].text) ∧ w.cell? ⟨q, j * 4 + 2, none⟩ = some (.int .i64 T[j].n) ∧ w.cell? ⟨q, j * 4 + 3, none⟩ = some (.int .i64 T[j].at_) := by
  obtain ⟨q, c, rfl, _⟩ := own_form h hT
  have hq := own_lt h q rfl
  refine ⟨q, c, rfl, hq.1, hq.2, fun i hi => ?_⟩
  have cell : ∀ j, j < 4 → w.cell? ⟨q, i * 4 + j, none⟩ = T[i].cells[j]? := fun j hj => by
    rw [h.cellAt (i * 4 + j) (by omega), tokCells_at T i j hi hj]
  refine ⟨?_, ?_, ?_, ?_⟩
  · have := cell 0 (by omega); simpa [Tok.cells] using this
  · have := cell 1 (by omega); simpa [Tok.cells] using this
  · have := cell 2 (by omega); simpa [Tok.cells] using this
  · have := cell 3 (by omega); simpa [Tok.cells] using this
/-- the reader, as it is made -/
theorem rd_new {w w' : World} {K : RdP} {T : List Tok} (hg : w' = w.alloc (.cells #[.slice (some ⟨K.A, 0, none⟩) T.length K.c, .slice (some ⟨K.R, 0, none⟩) T.length K.d, .int .i64 0, .int .i64 0, .int .i64 0, .int .i64 0] 67)) (hl : T.length ≤ 4001) (hG : ToksG T)
    (ht : ∀ j (h : j < T.length), w.cell? ⟨K.A, j * 4, none⟩ = some (.int .i64 T[j].kind) ∧ w.cell? ⟨K.A, j * 4 + 1, none⟩ = some (.string T[j].text) ∧ w.cell? ⟨K.A, j * 4 + 2, none⟩ = some (.int .i64 T[j].n) ∧ w.cell? ⟨K.A, j * 4 + 3, none⟩ = some (.int .i64 T[j].at_))
    (hr : ∀ j, j < T.length → w.cell? ⟨K.R, j, none⟩ = some (.int .u64 (roleV (rl T j)))) : RdAt w' w.heap.size K T 0 0 := by
  subst hg
  have hx := (Ext.refl w).alloc (.cells #[.slice (some ⟨K.A, 0, none⟩) T.length K.c, .slice (some ⟨K.R, 0, none⟩) T.length K.d, .int .i64 0, .int .i64 0, .int .i64 0, .int .i64 0] 67)
  have hA := World.block_lt_of_cell? w _ (ht 0 hG.1).1
  have hR := World.block_lt_of_cell? w _ (hr 0 hG.1)
  simp only at hA hR
  refine ⟨by go_simp, by go_simp, by go_simp, by go_simp, ⟨0, by go_simp⟩, ⟨0, by go_simp⟩, fun j _ => by go_simp, fun j hj => ?_, fun j hj => hx.cell (hr j hj), by omega, by omega, hl, fun j hj => ?_⟩
  · obtain ⟨a0, a1, a2, a3⟩ := ht j hj
    exact ⟨hx.cell a0, hx.cell a1, hx.cell a2, hx.cell a3⟩
  · have g := hG.2.1 _ (List.getElem_mem hj)
    refine ⟨?_, by have := g.le; omega⟩
    have e1 : IntKind.i64.min = -9223372036854775808 := by decide
    have e2 : IntKind.i64.max = 9223372036854775807 := by decide
    have := g.n
    simp only [Lit.wf, e1, e2, Bool.and_eq_true, decide_eq_true_eq]
    omega

/-- what reading a text as a term comes to -/
def readT (s : ByteArray) : Except (Int × Int) Tm := if lexE s = 0 then wholeT (lexT s) else .error (lexA s, lexE s)
def TermRet (w : World) (F : Except (Int × Int) Tm) (e : Ending) (w' : World) : Prop := Ext w w' ∧
  match F with
  | .ok t => ∃ A c, e = .returned (.tuple #[t.val A c, .int .i64 0, .int .i64 0]) ∧ TmIn w' (New w w') t A c
  | .error (a, x) => e = .returned (.tuple #[noTm.val none 0, .int .i64 a, .int .i64 x])
theorem TermRet.ext {w wf wf' : World} {F : Except (Int × Int) Tm} {e : Ending} (h : TermRet w F e wf) (k : Ext wf wf') : TermRet w F e wf' := by
  obtain ⟨h1, h2⟩ := h
  refine ⟨h1.trans k, ?_⟩
  match F, h2 with
  | .error (a, x), h2 => exact h2
  | .ok t, h2 =>
    obtain ⟨A, c, he, hT⟩ := h2
    exact ⟨A, c, he, hT.step (fun b _ hb => k.block b hb) k.size⟩
theorem whole_ok {w w3 w5 wf : World} {t : Tm} {A : Option Addr} {c : Nat} (h : Ext w w5) (hr : w.heap.size < w3.heap.size) (hIn : TmIn w5 (New w3 w5) t A c) (hwf : wf = set4 w5 w.heap.size 0 (.int .i64 t.kind) (.string t.name) (.int .i64 t.n) (.slice A t.args.length c))
    {e : Ending} (he : e = .returned (.tuple #[t.val A c, .int .i64 0, .int .i64 0])) : TermRet w (.ok t) e wf := by
  subst hwf
  exact ⟨ext_set4 h _ _ _ _, A, c, he, hIn.keep fun b hb _ => ⟨set4_block _ _ _ _ _ _ _ _ (by have := hb.1; omega), by have := hb.1; omega, by rw [set4_size]; exact hb.2⟩⟩
theorem whole_err {w w5 wf : World} {a x : Int} (h : Ext w w5) {v0 v1 v2 v3 : Value} (hwf : wf = set4 w5 w.heap.size 0 v0 v1 v2 v3)
    {e : Ending} (he : e = .returned (.tuple #[noTm.val none 0, .int .i64 a, .int .i64 x])) : TermRet w (.error (a, x)) e wf := by
  subst hwf
  exact ⟨ext_set4 h _ _ _ _, he⟩
set_option maxRecDepth 100000 in
set_option maxHeartbeats 4000000 in
theorem wholeT_any (s : ByteArray) (w : World) (hC : ClsAt w) (hX : TxtAt w) (hS : s.size ≤ 140737488351232) :
    Calls Tryd.prog 11 #[.string s, .func (Fn.func 12) #[] #[]] w (TermRet w (readT s)) := by
  obtain ⟨w0, hw0⟩ : ∃ w0, w0 = (w.alloc (.cells #[.int .i64 0, .string ⟨#[]⟩, .int .i64 0, .slice none 0 0] 28)).alloc (.cells #[.int .i64 0, .string ⟨#[]⟩, .int .i64 0, .slice none 0 0] 28) := ⟨_, rfl⟩
  have hr0 : Box4 w0 w.heap.size (.int .i64 0) (.string ⟨#[]⟩) (.int .i64 0) (.slice none 0 0) := by rw [hw0]; exact (Box4.new w _ _ _ _ _).ext ((Ext.refl _).alloc _)
  have hn0 : Box4 w0 (w.heap.size + 1) (.int .i64 0) (.string ⟨#[]⟩) (.int .i64 0) (.slice none 0 0) := by
    have := Box4.new (w.alloc (.cells #[.int .i64 0, .string ⟨#[]⟩, .int .i64 0, .slice none 0 0] 28)) (.int .i64 0) (.string ⟨#[]⟩) (.int .i64 0) (.slice none 0 0) 28
    rw [hsz_alloc] at this
    rw [hw0]; exact this
  have hx0 : Ext w w0 := by rw [hw0]; exact ((Ext.refl _).alloc _).alloc _
  have HW0 := Lib.hid hw0
  have KT := Lib.hid (Tokens_any s w0 (hC.ext hx0) (Nat.lt_of_lt_of_le (World.block_lt_of_cell? w _ (hC 0 (by omega))) hx0.size) hS)
  have HX0 := Lib.hid (hX.ext hx0)
  clear hw0 hX hC
  go_enter Tryd.func11, Tryd.ntmps11
  go_upto_region 2 with (fail)
  rw [← HW0.out]
  go_wp2_with fail
  refine KT.out.mono ?_
  rintro e w1 ⟨v, base, rfl, hown, hb, hx1⟩
  have hr1 := hr0.ext hx1
  have hn1 := hn0.ext hx1
  have hxw := hx0.trans hx1
  by_cases hE : lexE s = 0
  · obtain ⟨hG, hL⟩ := lexT_good hE
    obtain ⟨A, c, rfl, _, _, hc⟩ := toks_cells hown hG.1
    have qE : (lexE s != 0) = false := by simp [hE]
    have HFR : Hid (readT s = wholeT (lexT s)) := Lib.hid (by unfold readT; rw [if_pos hE])
    have hT := hG.ends
    obtain ⟨T, hTT⟩ : ∃ T, T = lexT s := ⟨_, rfl⟩
    rw [← hTT] at hG hL hc hT
    have HT := Lib.hid hTT
    have KR := Lib.hid (rolesOf_any T A c w1 (HX0.out.ext hx1) hL hG.ok hc)
    rw [← hTT]
    clear hown KT hr0 hn0 hx0 hTT
    go_wp2_with fail
    refine KR.out.mono ?_
    rintro e w2 ⟨R, rfl, hRo, _, _, hx2⟩
    have hc2 : ∀ j (h : j < T.length), w2.cell? ⟨A, j * 4, none⟩ = some (.int .i64 T[j].kind) ∧ w2.cell? ⟨A, j * 4 + 1, none⟩ = some (.string T[j].text) ∧ w2.cell? ⟨A, j * 4 + 2, none⟩ = some (.int .i64 T[j].n) ∧ w2.cell? ⟨A, j * 4 + 3, none⟩ = some (.int .i64 T[j].at_) := fun j hj => by
      obtain ⟨a0, a1, a2, a3⟩ := hc j hj
      exact ⟨hx2.cell a0, hx2.cell a1, hx2.cell a2, hx2.cell a3⟩
    obtain ⟨w3, hw3⟩ : ∃ w3, w3 = w2.alloc (.cells #[.slice (some ⟨A, 0, none⟩) T.length c, .slice (some ⟨R, 0, none⟩) T.length T.length, .int .i64 0, .int .i64 0, .int .i64 0, .int .i64 0] 67) := ⟨_, rfl⟩
    have hR3 := rd_new (K := ⟨A, c, R, T.length⟩) hw3 hL hG hc2 hRo.1
    have hx3 : Ext w2 w3 := by rw [hw3]; exact (Ext.refl _).alloc _
    have HW3 := Lib.hid hw3
    have KM := Lib.hid (term_any T hT 100 w3 w2.heap.size ⟨A, c, R, T.length⟩ 0 0 (by omega) hR3 hG.1)
    have hg3 : w2.heap.size < w3.heap.size := hR3.lt
    have hr3 := (hr1.ext hx2).ext hx3
    have hn3 := (hn1.ext hx2).ext hx3
    have hxw3 := (hxw.trans hx2).trans hx3
    have hw2 : w.heap.size + 1 < w2.heap.size := (hn1.ext hx2).lt
    clear hc hRo KR hw3 hR3 hr1 hn1 hxw hx2 hc2 hx1
    go_upto_region 6 with (fail)
    rw [← HW3.out]
    match hF : termP T 100 0 with
    | .error (a, x) =>
      have HF := Lib.hid hF
      have HFF : Hid (readT s = .error (a, x)) := Lib.hid (by rw [HFR.out, ← HT.out]; unfold wholeT; rw [hF])
      clear hF
      go_wp2_with fail
      refine KM.out.mono ?_
      rintro e w4 ⟨hC4, ho⟩
      rw [HF.out] at ho
      obtain ⟨⟨k', sn, n', A', l, c', rfl⟩, hE4⟩ := ho
      have hr4 := hr3.chg hC4 (by omega)
      have hn4 := hn3.chg hC4 (by omega)
      have hx4 : Ext w w4 := Chg.ext_of hxw3 hC4 (fun b hb => by omega)
      have hs4 := hC4.size
      have hw3 := hx3.size
      obtain ⟨w5, hw5⟩ : ∃ w5, w5 = w4.alloc (.cells #[.int .i64 k', .string sn, .int .i64 n', .slice A' l c'] 28) := ⟨_, rfl⟩
      have hx5 : Ext w4 w5 := by rw [hw5]; exact (Ext.refl _).alloc _
      have HW5 := Lib.hid hw5
      have e4 := hx5.cell hE4.c4
      have e5 := hx5.cell hE4.c5
      obtain ⟨n0, n1, n2, n3, _, _, _, _⟩ := hn4.ext hx5
      have hr5 := hr4.ext hx5
      have hxf := hx4.trans hx5
      clear KM hC4 hE4 hr3 hn3 hr4 hn4 hx4 hx5 hw5
      go_upto_region 8 with (fail)
      rw [← HW5.out]
      obtain ⟨y0, y1, y2, y3, f0, f1, f2, f3⟩ := hr5
      have hg5 : w2.heap.size < w5.heap.size := by have := World.block_lt_of_cell? w5 _ e4; exact this
      first | go_region_with (fail) | fail
      all_goals
        go_wp2_with fail
        try go_simp
        refine bodyPost_ret (v := .tuple #[.agg #[.int .i64 0, .string ⟨#[]⟩, .int .i64 0, .slice none 0 0], .int .i64 a, .int .i64 x]) (by simp [results, Tryd.results11, go_sem, *]) rfl ?_
        rw [HFF.out]
        exact TermRet.ext (whole_err hxf (v0 := .int .i64 0) (v1 := .string ⟨#[]⟩) (v2 := .int .i64 0) (v3 := .slice none 0 0) rfl rfl) (Ext.refl _).drew
    | .ok (t, j) =>
      have HF := Lib.hid hF
      have hjT := (termP_takes hT 100 _ _ _ hF).2
      go_wp2_with fail
      refine KM.out.mono ?_
      rintro e w4 ⟨hC4, ho⟩
      rw [HF.out] at ho
      obtain ⟨A', c', rfl, hIn, hR4⟩ := ho
      have hr4 := hr3.chg hC4 (by omega)
      have hn4 := hn3.chg hC4 (by omega)
      have hx4 : Ext w w4 := Chg.ext_of hxw3 hC4 (fun b hb => by omega)
      have hs4 := hC4.size
      have hw3 := hx3.size
      obtain ⟨w5, hw5⟩ : ∃ w5, w5 = w4.alloc (.cells #[.int .i64 t.kind, .string t.name, .int .i64 t.n, .slice A' t.args.length c'] 28) := ⟨_, rfl⟩
      have hb5 : Box4 w5 w4.heap.size (.int .i64 t.kind) (.string t.name) (.int .i64 t.n) (.slice A' t.args.length c') := by rw [hw5]; exact Box4.new w4 _ _ _ _ _
      have hx5 : Ext w4 w5 := by rw [hw5]; exact (Ext.refl _).alloc _
      have HW5 := Lib.hid hw5
      have hR5 := hR4.ext hx5
      have hIn5 := hIn.step (fun b _ hb => hx5.block b hb) hx5.size
      have hr5 := hr4.ext hx5
      have hn5 := hn4.ext hx5
      have hxf := hx4.trans hx5
      have hs5 := hx5.size
      clear KM hC4 hr3 hn3 hr4 hn4 hx4 hx5 hw5 hR4 hIn
      by_cases h0 : rl T j = 0
      · have HFF : Hid (readT s = .ok t) := Lib.hid (by rw [HFR.out, ← HT.out]; unfold wholeT; rw [hF]; simp only; rw [if_pos h0])
        have KN := Lib.hid (need_yes 1 (by omega) hR5 hjT (by rw [h0]; decide))
        clear hF hR5
        go_upto_region 7 with (fail)
        rw [← HW5.out]
        go_wp2_with fail
        refine KN.out.mono ?_
        rintro e w6 ⟨rfl, _, hC6⟩
        obtain ⟨b0, b1, b2, b3, _, _, _, _⟩ := hb5.chg hC6 (by omega)
        obtain ⟨y0, y1, y2, y3, f0, f1, f2, f3⟩ := hr5.chg hC6 (by omega)
        have hIn6 := hIn5.step (fun b h1 h2 => hC6.block b h2 (by omega)) hC6.size
        have hx6 : Ext w w6 := Chg.ext_of hxf hC6 (fun b hb => by omega)
        have HI := Lib.hid hIn6
        have hw3l : w.heap.size < w3.heap.size := by omega
        clear KN hC6 hb5 hr5 hn5 hIn5 hIn6 hxf
        go_wp2_with fail
        refine bodyPost_ret (v := .tuple #[t.val A' c', .int .i64 0, .int .i64 0]) (by simp [results, Tryd.results11, go_sem, *]) rfl ?_
        rw [HFF.out]
        exact whole_ok hx6 hw3l HI.out rfl rfl
      · have HFF : Hid (readT s = .error (bad T j)) := Lib.hid (by rw [HFR.out, ← HT.out]; unfold wholeT; rw [hF]; simp only; rw [if_neg h0])
        have KN := Lib.hid (need_no 1 (by omega) hR5 hjT (bit_ne (k := 0) h0))
        clear hF hR5
        go_upto_region 7 with (fail)
        rw [← HW5.out]
        go_wp2_with fail
        refine KN.out.mono ?_
        rintro e w6 ⟨rfl, hE6, hC6⟩
        have e4 := hE6.c4
        have e5 := hE6.c5
        obtain ⟨n0, n1, n2, n3, _, _, _, _⟩ := hn5.chg hC6 (by omega)
        have hr6 := hr5.chg hC6 (by omega)
        have hx6 : Ext w w6 := Chg.ext_of hxf hC6 (fun b hb => by omega)
        clear KN hC6 hb5 hr5 hn5 hIn5 hxf hE6
        go_upto_region 8 with (fail)
        obtain ⟨y0, y1, y2, y3, f0, f1, f2, f3⟩ := hr6
        first | go_region_with (fail) | fail
        all_goals
          go_wp2_with fail
          try go_simp
          refine bodyPost_ret (v := .tuple #[.agg #[.int .i64 0, .string ⟨#[]⟩, .int .i64 0, .slice none 0 0], .int .i64 (bad T j).1, .int .i64 (bad T j).2]) (by simp [results, Tryd.results11, go_sem, *]) rfl ?_
          rw [HFF.out]
          exact TermRet.ext (whole_err hx6 (v0 := .int .i64 0) (v1 := .string ⟨#[]⟩) (v2 := .int .i64 0) (v3 := .slice none 0 0) rfl rfl) (Ext.refl _).drew
  · have qE : (lexE s != 0) = true := by simp [hE]
    have HFF : Hid (readT s = .error (lexA s, lexE s)) := Lib.hid (by unfold readT; rw [if_neg hE])
    obtain ⟨y0, y1, y2, y3, f0, f1, f2, f3⟩ := hr1
    obtain ⟨n0, n1, n2, n3, _, _, _, _⟩ := hn1
    clear KT hown hr0 hn0 hx0 hx1
    go_wp2_with fail
    refine bodyPost_ret (v := .tuple #[.agg #[.int .i64 0, .string ⟨#[]⟩, .int .i64 0, .slice none 0 0], .int .i64 (lexA s), .int .i64 (lexE s)]) (by simp [results, Tryd.results11, go_sem, *]) rfl ?_
    rw [HFF.out]
    exact whole_err hxw rfl rfl
end Go.Proofs.YtnkbdjfanmehfaaDoor

/- Package read: Term. -/
namespace Go.Proofs.YtnkbdjfanmehfaaDoor
open Go.RowKit

set_option maxRecDepth 100000 in
set_option maxHeartbeats 4000000 in
theorem Term_rd (s : ByteArray) (w : World) (hC : ClsAt w) (hX : TxtAt w) (hS : s.size ≤ 140737488351232) : Calls Tryd.prog 5 #[.string s] w (TermRet w (readT s)) := by
  obtain ⟨w0, hw0⟩ : ∃ w0, w0 = w.alloc (.cells #[.int .i64 0, .string ⟨#[]⟩, .int .i64 0, .slice none 0 0] 28) := ⟨_, rfl⟩
  have hr0 : Box4 w0 w.heap.size (.int .i64 0) (.string ⟨#[]⟩) (.int .i64 0) (.slice none 0 0) := by rw [hw0]; exact Box4.new w _ _ _ _ _
  have hx0 : Ext w w0 := by rw [hw0]; exact (Ext.refl _).alloc _
  have HW0 := Lib.hid hw0
  have KT := Lib.hid (wholeT_any s w0 (hC.ext hx0) (hX.ext hx0) hS)
  have hw : w.heap.size < w0.heap.size := hr0.lt
  clear hw0 hX hC
  go_enter Tryd.func5, Tryd.ntmps5
  go_upto_region 1 with (fail)
  rw [← HW0.out]
  obtain ⟨F, hF⟩ : ∃ F, F = readT s := ⟨_, rfl⟩
  have HF := Lib.hid hF.symm
  clear hF
  go_wp2_with fail
  refine KT.out.mono ?_
  rintro e w1 ⟨hx1, ho⟩
  rw [HF.out] at ho
  obtain ⟨y0, y1, y2, y3, f0, f1, f2, f3⟩ := hr0.ext hx1
  have hxw := hx0.trans hx1
  match F, HF, ho with
  | .error (a, x), HF, ho =>
    obtain rfl := ho
    clear KT hr0 hx0
    go_wp2_with fail
    refine bodyPost_ret (v := .tuple #[.agg #[.int .i64 0, .string ⟨#[]⟩, .int .i64 0, .slice none 0 0], .int .i64 a, .int .i64 x]) (by simp [results, Tryd.results5, go_sem, *, noTm]; rfl) rfl ?_
    rw [HF.out]
    exact whole_err hxw (v0 := .int .i64 0) (v1 := .string ⟨#[]⟩) (v2 := .int .i64 0) (v3 := .slice none 0 0) rfl rfl
  | .ok t, HF, ho =>
    obtain ⟨A, c, rfl, hT⟩ := ho
    have HT := Lib.hid hT
    clear KT hr0 hx0 hT
    go_wp2_with fail
    refine bodyPost_ret (v := .tuple #[t.val A c, .int .i64 0, .int .i64 0]) (by simp [results, Tryd.results5, go_sem, *]) rfl ?_
    rw [HF.out]
    exact whole_ok hxw hw HT.out rfl rfl
end Go.Proofs.YtnkbdjfanmehfaaDoor
