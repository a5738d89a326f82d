/- Package read: rule. -/
import Derived.Test.YtbjghkmjnhmlfaaGreatDoorYR
import Derived.Test.YtbjghkmjnhmlfaaGreatDoorYP
import Derived.Test.YtbjghkmjnhmlfaaGreatDoorPal
namespace Go.Proofs.YtbjghkmjnhmlfaaGreatDoor
open Go.RowKit

theorem ruleP_eq (T : List Tok) (head : Tm) (i : Nat) : ruleP T head i = match patP T 100 i with
    | .error e => .error e
    | .ok (p, j) => match winP T j with
      | .error e => .error e
      | .ok n => match condP T (j + 3) with
        | .error e => .error e
        | .ok ((gs, pol), m) => if rl T m = 7 then (if muchB p then .error (lim T i) else .ok (⟨head, p, gs, n, pol⟩, m + 1)) else .error (bad T m) := by
  unfold ruleP winP
  cases patP T 100 i with
  | error e => rfl
  | ok x =>
    obtain ⟨p, j⟩ := x
    simp only
    by_cases h6 : rl T j = 6
    · rw [if_pos h6, if_pos h6]
      by_cases h23 : rl T (j + 1) = 23
      · rw [if_pos h23, if_pos h23]
        by_cases h2 : rl T (j + 2) = 2
        · rw [if_pos h2, if_pos h2]
          simp only
          cases condP T (j + 3) with
          | error e => rfl
          | ok y => rfl
        · rw [if_neg h2, if_neg h2]
      · rw [if_neg h23, if_neg h23]
    · rw [if_neg h6, if_neg h6]
theorem winP_lt {T : List Tok} (hT : EndLast T) {j : Nat} {n : Int} (h : winP T j = .ok n) : j + 3 < T.length := by
  unfold winP at h
  split at h
  · split at h
    · split at h
      · rename_i h2
        exact hT.next 2 h2 (by omega)
      · cases h
    · cases h
  · cases h
theorem BoxN.get16 {w : World} {g : Nat} {c0 c1 c2 c3 c4 c5 c6 c7 c8 c9 c10 c11 c12 c13 c14 c15 : Value} (h : BoxN w g [c0, c1, c2, c3, c4, c5, c6, c7, c8, c9, c10, c11, c12, c13, c14, c15]) :
    w.cell? ⟨g, 0, none⟩ = some c0 ∧ w.cell? ⟨g, 1, none⟩ = some c1 ∧ w.cell? ⟨g, 2, none⟩ = some c2 ∧ w.cell? ⟨g, 3, none⟩ = some c3 ∧ w.cell? ⟨g, 4, none⟩ = some c4 ∧ w.cell? ⟨g, 5, none⟩ = some c5 ∧ w.cell? ⟨g, 6, none⟩ = some c6 ∧ w.cell? ⟨g, 7, none⟩ = some c7 ∧ w.cell? ⟨g, 8, none⟩ = some c8 ∧ w.cell? ⟨g, 9, none⟩ = some c9 ∧ w.cell? ⟨g, 10, none⟩ = some c10 ∧ w.cell? ⟨g, 11, none⟩ = some c11 ∧ w.cell? ⟨g, 12, none⟩ = some c12 ∧ w.cell? ⟨g, 13, none⟩ = some c13 ∧ w.cell? ⟨g, 14, none⟩ = some c14 ∧ w.cell? ⟨g, 15, none⟩ = some c15 :=
  ⟨h.cell 0 rfl, h.cell 1 rfl, h.cell 2 rfl, h.cell 3 rfl, h.cell 4 rfl, h.cell 5 rfl, h.cell 6 rfl, h.cell 7 rfl, h.cell 8 rfl, h.cell 9 rfl, h.cell 10 rfl, h.cell 11 rfl, h.cell 12 rfl, h.cell 13 rfl, h.cell 14 rfl, h.cell 15 rfl⟩
theorem BoxN.fz16 {w : World} {g : Nat} {cs : List Value} (h : BoxN w g cs) (hl : cs.length = 16) :
    w.frozen? ⟨g, 0, none⟩ = false ∧ w.frozen? ⟨g, 1, none⟩ = false ∧ w.frozen? ⟨g, 2, none⟩ = false ∧ w.frozen? ⟨g, 3, none⟩ = false ∧ w.frozen? ⟨g, 4, none⟩ = false ∧ w.frozen? ⟨g, 5, none⟩ = false ∧ w.frozen? ⟨g, 6, none⟩ = false ∧ w.frozen? ⟨g, 7, none⟩ = false ∧ w.frozen? ⟨g, 8, none⟩ = false ∧ w.frozen? ⟨g, 9, none⟩ = false ∧ w.frozen? ⟨g, 10, none⟩ = false ∧ w.frozen? ⟨g, 11, none⟩ = false ∧ w.frozen? ⟨g, 12, none⟩ = false ∧ w.frozen? ⟨g, 13, none⟩ = false ∧ w.frozen? ⟨g, 14, none⟩ = false ∧ w.frozen? ⟨g, 15, none⟩ = false :=
  ⟨h.fz 0 (by omega), h.fz 1 (by omega), h.fz 2 (by omega), h.fz 3 (by omega), h.fz 4 (by omega), h.fz 5 (by omega), h.fz 6 (by omega), h.fz 7 (by omega), h.fz 8 (by omega), h.fz 9 (by omega), h.fz 10 (by omega), h.fz 11 (by omega), h.fz 12 (by omega), h.fz 13 (by omega), h.fz 14 (by omega), h.fz 15 (by omega)⟩
theorem set14 {w : World} {g : Nat} {c0 c1 c2 c3 c4 c5 c6 c7 c8 c9 c10 c11 c12 c13 c14 c15 v : Value} (h : BoxN w g (List.set [c0, c1, c2, c3, c4, c5, c6, c7, c8, c9, c10, c11, c12, c13, c14, c15] 14 v)) : BoxN w g [c0, c1, c2, c3, c4, c5, c6, c7, c8, c9, c10, c11, c12, c13, v, c15] := h
theorem set1315 {w : World} {g : Nat} {c0 c1 c2 c3 c4 c5 c6 c7 c8 c9 c10 c11 c12 c13 c14 c15 v u : Value} (h : BoxN w g ((List.set [c0, c1, c2, c3, c4, c5, c6, c7, c8, c9, c10, c11, c12, c13, c14, c15] 13 v).set 15 u)) : BoxN w g [c0, c1, c2, c3, c4, c5, c6, c7, c8, c9, c10, c11, c12, v, c14, u] := h
def Sh16 (cs : List Value) : Prop := ∃ h0 h1 h2 A3 l3 d3 k0 k1 s2 k3 A4 l4 d4 k5 A6 l6 d6 A7 l7 d7 A8 l8 d8 A9 l9 d9 n0 n1, cs = [.int .i64 h0, .string h1, .int .i64 h2, .slice A3 l3 d3, .int .i64 k0, .int .i64 k1, .string s2, .int .i64 k3, .slice A4 l4 d4, .int .i64 k5, .slice A6 l6 d6, .slice A7 l7 d7, .slice A8 l8 d8, .slice A9 l9 d9, .int .i64 n0, .int .i64 n1]
def RuleOut (w : World) (g : Nat) (K : RdP) (T : List Tok) (Fh : Nat → Prop) (F : Rs Rl) (e : Ending) (w' : World) : Prop := Chg (· = g) w w' ∧
  match F with
  | .ok (r, j) => ∃ x : RlL, x.rl = r ∧ e = .returned (.tuple #[.agg (rlCells x).toArray, .bool true]) ∧ RlIn w' (fun b => Fh b ∨ New w w' b) x ∧ RdAt w' g K T j 0
  | .error (a, x) => (∃ cs, Sh16 cs ∧ e = .returned (.tuple #[.agg cs.toArray, .bool false])) ∧ RdErr w' g a x
theorem rl_fin_ok {w w5 wf : World} {g q j : Nat} {K : RdP} {T : List Tok} {Fh : Nat → Prop} {x : RlL} {r : Rl} (hC : Chg (· = g) w w5) (hq : w.heap.size ≤ q) (hg : g < w.heap.size) (hlo : K.A < w.heap.size ∧ K.R < w.heap.size) (hR : RdAt w5 g K T j 0) (hF : ∀ b, Fh b → b < w.heap.size)
    (hIn : RlIn w5 (fun b => Fh b ∨ (q < b ∧ b < w5.heap.size)) x) (hx : x.rl = r) {vs : List Value} (hwf : wf = w5.setCells q 0 vs) {e : Ending} (he : e = .returned (.tuple #[.agg (rlCells x).toArray, .bool true])) : RuleOut w g K T Fh (.ok (r, j)) e wf := by
  subst hwf
  have hsz : (w5.setCells q 0 vs).heap.size = w5.heap.size := setCells_size (w := w5) vs 0 w5 rfl
  refine ⟨setCells_new hC hq vs, x, hx, he, SR.keep hIn fun b hb _ => ⟨setCells_block (by rcases hb with e | e; have := hF b e; omega; omega) vs 0 w5, by rcases hb with e | e; exact .inl e; exact .inr ⟨by omega, by rw [hsz]; exact e.2⟩⟩, hR.keep fun x _ e => setCells_block (by rcases e with e | e | e <;> omega) vs 0 w5⟩
theorem rl_fin_err {w w5 wf : World} {g q : Nat} {K : RdP} {T : List Tok} {Fh : Nat → Prop} {a x : Int} (hC : Chg (· = g) w w5) (hq : w.heap.size ≤ q) (hg : g < w.heap.size) (hE : RdErr w5 g a x) {vs cs : List Value} (hwf : wf = w5.setCells q 0 vs) (hs : Sh16 cs) {e : Ending} (he : e = .returned (.tuple #[.agg cs.toArray, .bool false])) : RuleOut w g K T Fh (.error (a, x)) e wf := by
  subst hwf
  have kg : (w5.setCells q 0 vs).heap[g]? = w5.heap[g]? := setCells_block (by omega) vs 0 w5
  exact ⟨setCells_new hC hq vs, ⟨cs, hs, he⟩, cell_same kg hE.c4, cell_same kg hE.c5⟩
def RuleCut (w : World) (g : Nat) (K : RdP) (T : List Tok) (Fh : Nat → Prop) (q : Nat) (F : Rs Rl) (cs : List Value) (bb : Bool) (wx : World) : Prop := Chg (· = g) w wx ∧
  match F with
  | .ok (r, j) => bb = true ∧ ∃ x : RlL, cs = rlCells x ∧ x.rl = r ∧ RlIn wx (fun b => Fh b ∨ (q < b ∧ b < wx.heap.size)) x ∧ RdAt wx g K T j 0
  | .error (a, x) => bb = false ∧ RdErr wx g a x
theorem rl_cut_fin {w wx wf : World} {g q : Nat} {K : RdP} {T : List Tok} {Fh : Nat → Prop} {F : Rs Rl} {cs : List Value} {bb : Bool} (h : RuleCut w g K T Fh q F cs bb wx) (hq : w.heap.size ≤ q) (hg : g < w.heap.size) (hlo : K.A < w.heap.size ∧ K.R < w.heap.size) (hF : ∀ b, Fh b → b < w.heap.size) (hs : Sh16 cs)
    {vs : List Value} (hwf : wf = wx.setCells q 0 vs) {e : Ending} (he : e = .returned (.tuple #[.agg cs.toArray, .bool bb])) : RuleOut w g K T Fh F e wf := by
  obtain ⟨hC, h2⟩ := h
  match F, h2 with
  | .ok (r, j), ⟨hb, x, hx, hr, hIn, hR⟩ =>
    rw [hb, hx] at he
    exact rl_fin_ok hC hq hg hlo hR hF hIn hr hwf he
  | .error (a, x), ⟨hb, hE⟩ =>
    rw [hb] at he
    exact rl_fin_err hC hq hg hE hwf hs he
set_option maxRecDepth 100000 in
set_option maxHeartbeats 8000000 in
theorem rule_err {w : World} {g : Nat} {K : RdP} {T : List Tok} {i : Nat} {Fh : Nat → Prop} {head : Tm} {A : Option Addr} {ac : Nat} (hT : EndLast T) (h : RdAt w g K T i 0) (hbo : BitOk w g) (hi : i < T.length) (hh : TmIn w Fh head A ac) (hFh : ∀ b, Fh b → b < w.heap.size ∧ b ≠ g) {ea ex : Int} (hpi : patP T 100 i = .error (ea, ex)) :
    Calls Tryz.prog 55 #[.pointer (some ⟨g, 0, none⟩), head.val A ac] w (RuleOut w g K T Fh (ruleP T head i)) := by
  have HPI := Lib.hid hpi
  clear hpi
  have hgl := h.lt
  have hlo := h.low hT.1
  have hGl := hbo.at_.lt
  obtain ⟨q, hq⟩ : ∃ q, q = w.heap.size + 1 := ⟨_, rfl⟩
  obtain ⟨w0, hw0⟩ : ∃ w0, w0 = (w.alloc (.cells #[.int .i64 head.kind, .string head.name, .int .i64 head.n, .slice A head.args.length ac] 58)).alloc (.cells #[.int .i64 0, .string ⟨#[]⟩, .int .i64 0, .slice none 0 0, .int .i64 0, .int .i64 0, .string ⟨#[]⟩, .int .i64 0, .slice none 0 0, .int .i64 0, .slice none 0 0, .slice none 0 0, .slice none 0 0, .slice none 0 0, .int .i64 0, .int .i64 0] 66) := ⟨_, rfl⟩
  have hx0 : Ext w w0 := by rw [hw0]; exact ((Ext.refl _).alloc _).alloc _
  have hh0 : Box4 w0 w.heap.size (.int .i64 head.kind) (.string head.name) (.int .i64 head.n) (.slice A head.args.length ac) := by rw [hw0]; exact (Box4.new w _ _ _ _ _).ext ((Ext.refl _).alloc _)
  have hq0 : BoxN w0 q [.int .i64 0, .string ⟨#[]⟩, .int .i64 0, .slice none 0 0, .int .i64 0, .int .i64 0, .string ⟨#[]⟩, .int .i64 0, .slice none 0 0, .int .i64 0, .slice none 0 0, .slice none 0 0, .slice none 0 0, .slice none 0 0, .int .i64 0, .int .i64 0] := by
    have := BoxN.new (w.alloc (.cells #[.int .i64 head.kind, .string head.name, .int .i64 head.n, .slice A head.args.length ac] 58)) #[.int .i64 0, .string ⟨#[]⟩, .int .i64 0, .slice none 0 0, .int .i64 0, .int .i64 0, .string ⟨#[]⟩, .int .i64 0, .slice none 0 0, .int .i64 0, .slice none 0 0, .slice none 0 0, .slice none 0 0, .slice none 0 0, .int .i64 0, .int .i64 0] 66 (by simp)
    rw [hsz_alloc] at this
    rw [hw0, hq]; exact this
  have HW0 := Lib.hid (And.intro hw0 hq)
  have hq1 : w.heap.size < q := by omega
  clear hw0 hq
  have h0 := h.ext hx0
  have KP := Lib.hid (place_any h0 hi)
  obtain ⟨fa, hfa⟩ : ∃ fa, fa = (tk T i).at_ := ⟨_, rfl⟩
  rw [← hfa] at KP
  have HFA := Lib.hid hfa
  have HBO := Lib.hid hbo
  have HHH := Lib.hid (And.intro hh hFh)
  obtain ⟨F, hF⟩ : ∃ F, F = ruleP T head i := ⟨_, rfl⟩
  rw [← hF]
  have HF := Lib.hid (hF.trans (ruleP_eq T head i))
  clear h hfa hbo hh hFh hF
  go_enter Tryz.func55, Tryz.ntmps55
  go_upto_region 1 with (fail)
  rw [← HW0.out.2, ← HW0.out.1]
  go_wp2_with fail
  refine KP.out.mono ?_
  rintro e w1 ⟨rfl, hx1⟩
  have hxw := hx0.trans hx1
  have KT := Lib.hid (pats_rd T hT 100 0 rfl w1 g K i (h0.ext hx1) hi (HBO.out.ext hxw))
  have hh1 := hh0.ext hx1
  have hq2 := hq0.ext hx1
  clear KP h0 hh0 hq0 hx0 hx1
  go_wp2_with fail
  refine KT.out.mono ?_
  rintro e w2 ⟨hC2, ho⟩
  have hC2w : Chg (· = g) w w2 := (Chg.of_ext hxw).trans hC2
  have hh2 := hh1.chg hC2 (by omega)
  have hq3 := hq2.chg hC2 (by omega)
  have hsw := hxw.size
  have hs2 := hC2.size
  have hql1 : q < w1.heap.size := hq2.lt
  have hpi := HPI.out
  rw [hpi] at ho
  have HFF : Hid (F = .error (ea, ex)) := Lib.hid (by rw [HF.out, hpi])
  obtain ⟨⟨vs, hvs, rfl⟩, hE⟩ := ho
  obtain ⟨k0, k1, s2, k3, A4, l4, d4, k5, A6, l6, d6, A7, l7, d7, A8, l8, d8, rfl⟩ := hvs
  obtain ⟨w3, hw3⟩ : ∃ w3, w3 = w2.alloc (.cells #[.int .i64 k0, .int .i64 k1, .string s2, .int .i64 k3, .slice A4 l4 d4, .int .i64 k5, .slice A6 l6 d6, .slice A7 l7 d7, .slice A8 l8 d8] 63) := ⟨_, rfl⟩
  have hx3 : Ext w2 w3 := by rw [hw3]; exact (Ext.refl _).alloc _
  have HW3 := Lib.hid hw3
  have HE := Lib.hid (hE.ext hx3)
  have hC3 := hC2w.trans (Chg.of_ext hx3)
  have hq4 := hq3.ext hx3
  obtain ⟨y0, y1, y2, y3, y4, y5, y6, y7, y8, y9, y10, y11, y12, y13, y14, y15⟩ := hq4.get16
  obtain ⟨z0, z1, z2, z3, z4, z5, z6, z7, z8, z9, z10, z11, z12, z13, z14, z15⟩ := hq4.fz16 rfl
  clear hw3 hE hx3 KT hpi hC2 hC2w hxw hh1 hh2 hq2 hq3 hq4
  go_upto_region 3 with (fail)
  rw [← HW3.out]
  go_wp2_with fail
  refine bodyPost_ret (v := .tuple #[.agg #[.int .i64 0, .string ⟨#[]⟩, .int .i64 0, .slice none 0 0, .int .i64 0, .int .i64 0, .string ⟨#[]⟩, .int .i64 0, .slice none 0 0, .int .i64 0, .slice none 0 0, .slice none 0 0, .slice none 0 0, .slice none 0 0, .int .i64 0, .int .i64 0], .bool false]) (by simp [results, Tryz.results55, go_sem, *]) rfl ?_
  rw [HFF.out]
  exact rl_fin_err hC3 (Nat.le_of_lt hq1) hgl HE.out (vs := [.int .i64 0, .string ⟨#[]⟩, .int .i64 0, .slice none 0 0, .int .i64 0, .int .i64 0, .string ⟨#[]⟩, .int .i64 0, .slice none 0 0, .int .i64 0, .slice none 0 0, .slice none 0 0, .slice none 0 0, .slice none 0 0, .int .i64 0, .int .i64 0]) (cs := [.int .i64 0, .string ⟨#[]⟩, .int .i64 0, .slice none 0 0, .int .i64 0, .int .i64 0, .string ⟨#[]⟩, .int .i64 0, .slice none 0 0, .int .i64 0, .slice none 0 0, .slice none 0 0, .slice none 0 0, .slice none 0 0, .int .i64 0, .int .i64 0]) rfl ⟨_, _, _, _, _, _, _, _, _, _, _, _, _, _, _, _, _, _, _, _, _, _, _, _, _, _, _, _, rfl⟩ rfl
set_option maxRecDepth 100000 in
set_option maxHeartbeats 8000000 in
theorem rule_ok {w : World} {g : Nat} {K : RdP} {T : List Tok} {i : Nat} {Fh : Nat → Prop} {head : Tm} {A : Option Addr} {ac : Nat} (hT : EndLast T) (h : RdAt w g K T i 0) (hbo : BitOk w g) (hi : i < T.length) (hh : TmIn w Fh head A ac) (hFh : ∀ b, Fh b → b < w.heap.size ∧ b ≠ g) {p : Pt} {j : Nat} (hpi : patP T 100 i = .ok (p, j)) :
    Calls Tryz.prog 55 #[.pointer (some ⟨g, 0, none⟩), head.val A ac] w (RuleOut w g K T Fh (ruleP T head i)) := by
  have HPI := Lib.hid hpi
  clear hpi
  have hgl := h.lt
  have hlo := h.low hT.1
  have hGl := hbo.at_.lt
  obtain ⟨q, hq⟩ : ∃ q, q = w.heap.size + 1 := ⟨_, rfl⟩
  obtain ⟨w0, hw0⟩ : ∃ w0, w0 = (w.alloc (.cells #[.int .i64 head.kind, .string head.name, .int .i64 head.n, .slice A head.args.length ac] 58)).alloc (.cells #[.int .i64 0, .string ⟨#[]⟩, .int .i64 0, .slice none 0 0, .int .i64 0, .int .i64 0, .string ⟨#[]⟩, .int .i64 0, .slice none 0 0, .int .i64 0, .slice none 0 0, .slice none 0 0, .slice none 0 0, .slice none 0 0, .int .i64 0, .int .i64 0] 66) := ⟨_, rfl⟩
  have hx0 : Ext w w0 := by rw [hw0]; exact ((Ext.refl _).alloc _).alloc _
  have hh0 : Box4 w0 w.heap.size (.int .i64 head.kind) (.string head.name) (.int .i64 head.n) (.slice A head.args.length ac) := by rw [hw0]; exact (Box4.new w _ _ _ _ _).ext ((Ext.refl _).alloc _)
  have hq0 : BoxN w0 q [.int .i64 0, .string ⟨#[]⟩, .int .i64 0, .slice none 0 0, .int .i64 0, .int .i64 0, .string ⟨#[]⟩, .int .i64 0, .slice none 0 0, .int .i64 0, .slice none 0 0, .slice none 0 0, .slice none 0 0, .slice none 0 0, .int .i64 0, .int .i64 0] := by
    have := BoxN.new (w.alloc (.cells #[.int .i64 head.kind, .string head.name, .int .i64 head.n, .slice A head.args.length ac] 58)) #[.int .i64 0, .string ⟨#[]⟩, .int .i64 0, .slice none 0 0, .int .i64 0, .int .i64 0, .string ⟨#[]⟩, .int .i64 0, .slice none 0 0, .int .i64 0, .slice none 0 0, .slice none 0 0, .slice none 0 0, .slice none 0 0, .int .i64 0, .int .i64 0] 66 (by simp)
    rw [hsz_alloc] at this
    rw [hw0, hq]; exact this
  have HW0 := Lib.hid (And.intro hw0 hq)
  have hq1 : w.heap.size < q := by omega
  clear hw0 hq
  have h0 := h.ext hx0
  have KP := Lib.hid (place_any h0 hi)
  obtain ⟨fa, hfa⟩ : ∃ fa, fa = (tk T i).at_ := ⟨_, rfl⟩
  rw [← hfa] at KP
  have HFA := Lib.hid hfa
  have HBO := Lib.hid hbo
  have HHH := Lib.hid (And.intro hh hFh)
  obtain ⟨F, hF⟩ : ∃ F, F = ruleP T head i := ⟨_, rfl⟩
  rw [← hF]
  have HF := Lib.hid (hF.trans (ruleP_eq T head i))
  clear h hfa hbo hh hFh hF
  go_enter Tryz.func55, Tryz.ntmps55
  go_upto_region 1 with (fail)
  rw [← HW0.out.2, ← HW0.out.1]
  go_wp2_with fail
  refine KP.out.mono ?_
  rintro e w1 ⟨rfl, hx1⟩
  have hxw := hx0.trans hx1
  have KT := Lib.hid (pats_rd T hT 100 0 rfl w1 g K i (h0.ext hx1) hi (HBO.out.ext hxw))
  have hh1 := hh0.ext hx1
  have hq2 := hq0.ext hx1
  clear KP h0 hh0 hq0 hx0 hx1
  go_wp2_with fail
  refine KT.out.mono ?_
  rintro e w2 ⟨hC2, ho⟩
  have hC2w : Chg (· = g) w w2 := (Chg.of_ext hxw).trans hC2
  have hh2 := hh1.chg hC2 (by omega)
  have hq3 := hq2.chg hC2 (by omega)
  have hsw := hxw.size
  have hs2 := hC2.size
  have hql1 : q < w1.heap.size := hq2.lt
  have hpi := HPI.out
  rw [hpi] at ho
  obtain ⟨a, rfl, hIn, hR2⟩ := ho
  have hjj := patP_takes hT 100 _ _ _ hpi
  have hok := patP_okp 100 _ _ _ hpi
  have HFP : Hid (F = match winP T j with | .error e => .error e | .ok n => match condP T (j + 3) with | .error e => .error e | .ok ((gs, pol), m) => if rl T m = 7 then (if muchB p then .error (lim T i) else .ok (⟨head, p, gs, n, pol⟩, m + 1)) else .error (bad T m)) := Lib.hid (by rw [HF.out, hpi])
  obtain ⟨w3, hw3⟩ : ∃ w3, w3 = w2.alloc (.cells #[.int .i64 p.kind, .int .i64 p.tm.kind, .string p.tm.name, .int .i64 p.tm.n, .slice a.A p.tm.args.length a.ac, .int .i64 p.rel, .slice a.L p.l.length a.lc, .slice a.R p.r.length a.rc, .slice a.C p.c.length a.cc] 63) := ⟨_, rfl⟩
  have hb3 : Box9 w3 w2.heap.size (p.cells a) := by rw [hw3]; exact Box9.new w2 _ _ rfl
  have hx3 : Ext w2 w3 := by rw [hw3]; exact (Ext.refl _).alloc _
  have HW3 := Lib.hid hw3
  obtain ⟨w4, hw4⟩ : ∃ w4, w4 = w3.alloc (.cells #[.int .i64 head.kind, .string head.name, .int .i64 head.n, .slice A head.args.length ac, .int .i64 p.kind, .int .i64 p.tm.kind, .string p.tm.name, .int .i64 p.tm.n, .slice a.A p.tm.args.length a.ac, .int .i64 p.rel, .slice a.L p.l.length a.lc, .slice a.R p.r.length a.rc, .slice a.C p.c.length a.cc, .slice none 0 0, .int .i64 0, .int .i64 0] 66) := ⟨_, rfl⟩
  obtain ⟨px, hpx⟩ : ∃ px, px = w3.heap.size := ⟨_, rfl⟩
  have hb4 : BoxN w4 px [.int .i64 head.kind, .string head.name, .int .i64 head.n, .slice A head.args.length ac, .int .i64 p.kind, .int .i64 p.tm.kind, .string p.tm.name, .int .i64 p.tm.n, .slice a.A p.tm.args.length a.ac, .int .i64 p.rel, .slice a.L p.l.length a.lc, .slice a.R p.r.length a.rc, .slice a.C p.c.length a.cc, .slice none 0 0, .int .i64 0, .int .i64 0] := by rw [hw4, hpx]; exact BoxN.new w3 _ _ (by simp)
  have hx4 : Ext w3 w4 := by rw [hw4]; exact (Ext.refl _).alloc _
  have HW4 := Lib.hid (And.intro hw4 hpx)
  have hx34 := hx3.trans hx4
  have hR4 := hR2.ext hx34
  have hC4 : Chg (· = g) w w4 := hC2w.trans (Chg.of_ext hx34)
  have hIn4 : PtIn w4 (New w1 w2) p a := hIn.keep fun b hb _ => ⟨hx34.block b hb.2, hb⟩
  have hq4 := hq3.ext hx34
  have hs3 := hx3.size
  have hs34 := hx34.size
  have hp2 : w2.heap.size < px := by rw [hpx]; exact hb3.lt
  have hpl4 : px < w4.heap.size := hb4.lt
  obtain ⟨t0, t1, t2, t3, _, _, _, _⟩ := hh2.ext hx3
  obtain ⟨b0, b1, b2, b3, b4, b5, b6, b7, b8⟩ := hb3.get
  have HB4 := Lib.hid (And.intro hb4 (And.intro hR4 (And.intro hIn4 (And.intro hq4 (hb3.ext hx4)))))
  have KW := Lib.hid (window_rd (n0 := 0) hT hR4 hjj.2 (by omega : px ≠ g) (by omega) (by omega) hb4 rfl rfl)
  clear KT hpi hC2 hC2w hh1 hh2 hq2 hq3 hq4 hb3 hb4 hx3 hx4 hx34 hR4 hR2 hIn hIn4 hw3 hw4 hpx hxw
  go_upto_region 5 with (fail)
  rw [← HW3.out]
  go_upto_region 6 with (fail)
  rw [← HW4.out.2, ← HW4.out.1]
  clear t0 t1 t2 t3 b0 b1 b2 b3 b4 b5 b6 b7 b8
  have HPX := Lib.hid hp2
  go_cut [8] (fun v8 wx => ∃ (bb : Bool) (cs : List Value), Sh16 cs ∧ v8 = .bool bb ∧ BoxN wx px cs ∧ BoxN wx q [.int .i64 0, .string ⟨#[]⟩, .int .i64 0, .slice none 0 0, .int .i64 0, .int .i64 0, .string ⟨#[]⟩, .int .i64 0, .slice none 0 0, .int .i64 0, .slice none 0 0, .slice none 0 0, .slice none 0 0, .slice none 0 0, .int .i64 0, .int .i64 0] ∧ Hid (RuleCut w g K T Fh q F cs bb wx))
  case first =>
    match hwp : winP T j with
    | .error (ea, ex) =>
      have HFF : Hid (F = .error (ea, ex)) := Lib.hid (by rw [HFP.out, hwp])
      rw [hwp] at KW
      clear hwp
      go_wp2_with fail
      refine KW.out.mono ?_
      rintro e w5 ⟨hC5, rfl, hE5, n, hb5⟩
      have hCf : Chg (· = g) w w5 := chg_new hC4 hC5 (by omega)
      have hbx : BoxN w5 px [.int .i64 head.kind, .string head.name, .int .i64 head.n, .slice A head.args.length ac, .int .i64 p.kind, .int .i64 p.tm.kind, .string p.tm.name, .int .i64 p.tm.n, .slice a.A p.tm.args.length a.ac, .int .i64 p.rel, .slice a.L p.l.length a.lc, .slice a.R p.r.length a.rc, .slice a.C p.c.length a.cc, .slice none 0 0, .int .i64 n, .int .i64 0] := set14 hb5
      have hqx := HB4.out.2.2.2.1.chg hC5 (by omega)
      have HH : Hid (RuleCut w g K T Fh q F [.int .i64 head.kind, .string head.name, .int .i64 head.n, .slice A head.args.length ac, .int .i64 p.kind, .int .i64 p.tm.kind, .string p.tm.name, .int .i64 p.tm.n, .slice a.A p.tm.args.length a.ac, .int .i64 p.rel, .slice a.L p.l.length a.lc, .slice a.R p.r.length a.rc, .slice a.C p.c.length a.cc, .slice none 0 0, .int .i64 n, .int .i64 0] false w5) := Lib.hid ⟨hCf, by rw [HFF.out]; exact ⟨rfl, hE5⟩⟩
      have HX := Lib.hid (And.intro hbx hqx)
      clear hbx hqx hE5 hCf hb5 hC5 KW hC4
      go_wp2_with fail
      go_meet
      exact ⟨false, _, ⟨_, _, _, _, _, _, _, _, _, _, _, _, _, _, _, _, _, _, _, _, _, _, _, _, _, _, _, _, rfl⟩, rfl, HX.out.1, HX.out.2, HH⟩
    | .ok n =>
      have HFW : Hid (F = match condP T (j + 3) with | .error e => .error e | .ok ((gs, pol), m) => if rl T m = 7 then (if muchB p then .error (lim T i) else .ok (⟨head, p, gs, n, pol⟩, m + 1)) else .error (bad T m)) := Lib.hid (by rw [HFP.out, hwp])
      have hj3 : j + 3 < T.length := winP_lt hT hwp
      rw [hwp] at KW
      clear hwp
      go_wp2_with fail
      refine KW.out.mono ?_
      rintro e w5 ⟨hC5, rfl, hR5, hb5⟩
      have hCf : Chg (· = g) w w5 := chg_new hC4 hC5 (by omega)
      have hb5' : BoxN w5 px [.int .i64 head.kind, .string head.name, .int .i64 head.n, .slice A head.args.length ac, .int .i64 p.kind, .int .i64 p.tm.kind, .string p.tm.name, .int .i64 p.tm.n, .slice a.A p.tm.args.length a.ac, .int .i64 p.rel, .slice a.L p.l.length a.lc, .slice a.R p.r.length a.rc, .slice a.C p.c.length a.cc, .slice none 0 0, .int .i64 n, .int .i64 0] := set14 hb5
      have hs5 := hC5.size
      have KC := Lib.hid (conditions_rd hT hR5 (HBO.out.chg hCf) hj3 (by omega : px ≠ g) (by omega) (by omega) (by omega) hb5' rfl rfl rfl)
      have H5 := Lib.hid (And.intro hC5 hCf)
      clear hR5 hb5 hb5' KW hC5 hCf hC4
      match hcp : condP T (j + 3) with
      | .error (ea, ex) =>
        have HFF : Hid (F = .error (ea, ex)) := Lib.hid (by rw [HFW.out, hcp])
        rw [hcp] at KC
        clear hcp
        go_wp2_with fail
        refine KC.out.mono ?_
        rintro e w6 ⟨hC6, rfl, hE6, gA, gl, gc, n6, hb6⟩
        have hCf : Chg (· = g) w w6 := chg_new H5.out.2 hC6 (by omega)
        have hbx : BoxN w6 px [.int .i64 head.kind, .string head.name, .int .i64 head.n, .slice A head.args.length ac, .int .i64 p.kind, .int .i64 p.tm.kind, .string p.tm.name, .int .i64 p.tm.n, .slice a.A p.tm.args.length a.ac, .int .i64 p.rel, .slice a.L p.l.length a.lc, .slice a.R p.r.length a.rc, .slice a.C p.c.length a.cc, .slice gA gl gc, .int .i64 n, .int .i64 n6] := set1315 hb6
        have hqx := (HB4.out.2.2.2.1.chg H5.out.1 (by omega)).chg hC6 (by omega)
        have HH : Hid (RuleCut w g K T Fh q F [.int .i64 head.kind, .string head.name, .int .i64 head.n, .slice A head.args.length ac, .int .i64 p.kind, .int .i64 p.tm.kind, .string p.tm.name, .int .i64 p.tm.n, .slice a.A p.tm.args.length a.ac, .int .i64 p.rel, .slice a.L p.l.length a.lc, .slice a.R p.r.length a.rc, .slice a.C p.c.length a.cc, .slice gA gl gc, .int .i64 n, .int .i64 n6] false w6) := Lib.hid ⟨hCf, by rw [HFF.out]; exact ⟨rfl, hE6⟩⟩
        have HX := Lib.hid (And.intro hbx hqx)
        clear hbx hqx hE6 hCf hb6 hC6 KC
        go_wp2_with fail
        go_meet
        exact ⟨false, _, ⟨_, _, _, _, _, _, _, _, _, _, _, _, _, _, _, _, _, _, _, _, _, _, _, _, _, _, _, _, rfl⟩, rfl, HX.out.1, HX.out.2, HH⟩
      | .ok ((gs, pol), m) =>
        have HFC : Hid (F = if rl T m = 7 then (if muchB p then .error (lim T i) else .ok (⟨head, p, gs, n, pol⟩, m + 1)) else .error (bad T m)) := Lib.hid (by rw [HFW.out, hcp])
        have hmT := (condP_takes hT hj3 hcp).2
        rw [hcp] at KC
        clear hcp
        go_wp2_with fail
        refine KC.out.mono ?_
        rintro e w6 ⟨hC6, rfl, hR6, gA, gc, xs, hxs, hRow, hb6⟩
        have hCf : Chg (· = g) w w6 := chg_new H5.out.2 hC6 (by omega)
        have hs6 := hC6.size
        have H6 := Lib.hid (And.intro hC6 (And.intro hxs (And.intro hRow (And.intro hb6 hCf))))
        by_cases h7 : rl T m = 7
        · have KN := Lib.hid (need_yes 128 (by omega) hR6 hmT (by rw [h7]; decide))
          clear hC6 hxs hRow hb6 hCf hR6 KC
          go_wp2_with fail
          refine KN.out.mono ?_
          rintro e w7 ⟨rfl, hR7, hC7⟩
          have hs7 := hC7.size
          have hCf7 : Chg (· = g) w w7 := H6.out.2.2.2.2.trans hC7
          have hIn7 : PtIn w7 (fun b => w1.heap.size ≤ b ∧ b < w2.heap.size) p a := HB4.out.2.2.1.keep fun b hb _ => ⟨by
            have h1 := hb.1
            have h2 := hb.2
            rw [hC7.block b (by omega) (by omega), H6.out.1.block b (by omega) (by omega), H5.out.1.block b (by omega) (by omega)], hb⟩
          have hb9 := ((HB4.out.2.2.2.2.chg H5.out.1 (by omega)).chg H6.out.1 (by omega)).chg hC7 (by omega)
          obtain ⟨b0, b1, b2, b3, b4, b5, b6, b7, b8⟩ := hb9.get
          have hF7 : ∀ b, (w1.heap.size ≤ b ∧ b < w2.heap.size) → b < w7.heap.size := fun b hb => by omega
          cases hmu : muchB p with
          | true =>
            have HFF : Hid (F = .error (lim T i)) := Lib.hid (by rw [HFC.out, if_pos h7, if_pos hmu])
            have KM := Lib.hid (measure_no fa hR7 (by omega) hIn7 hF7 (by rw [fit_much hok, hmu]; rfl))
            have H7 := Lib.hid (And.intro hC7 (And.intro hIn7 hR7))
            clear hC7 hIn7 hb9 hR7 KN hF7
            go_wp2_with fail
            refine KM.out.mono ?_
            rintro e w8 ⟨rfl, hE8, hC8⟩
            have hCf8 : Chg (· = g) w w8 := hCf7.trans hC8
            have hE8' : RdErr w8 g (lim T i).1 (lim T i).2 := by rw [HFA.out] at hE8; exact hE8
            have hbx : BoxN w8 px [.int .i64 head.kind, .string head.name, .int .i64 head.n, .slice A head.args.length ac, .int .i64 p.kind, .int .i64 p.tm.kind, .string p.tm.name, .int .i64 p.tm.n, .slice a.A p.tm.args.length a.ac, .int .i64 p.rel, .slice a.L p.l.length a.lc, .slice a.R p.r.length a.rc, .slice a.C p.c.length a.cc, .slice gA xs.length gc, .int .i64 n, .int .i64 pol] := ((set1315 H6.out.2.2.2.1).chg H7.out.1 (by omega)).chg hC8 (by omega)
            have hqx := (((HB4.out.2.2.2.1.chg H5.out.1 (by omega)).chg H6.out.1 (by omega)).chg H7.out.1 (by omega)).chg hC8 (by omega)
            have HH : Hid (RuleCut w g K T Fh q F [.int .i64 head.kind, .string head.name, .int .i64 head.n, .slice A head.args.length ac, .int .i64 p.kind, .int .i64 p.tm.kind, .string p.tm.name, .int .i64 p.tm.n, .slice a.A p.tm.args.length a.ac, .int .i64 p.rel, .slice a.L p.l.length a.lc, .slice a.R p.r.length a.rc, .slice a.C p.c.length a.cc, .slice gA xs.length gc, .int .i64 n, .int .i64 pol] false w8) := Lib.hid ⟨hCf8, by rw [HFF.out]; exact ⟨rfl, hE8'⟩⟩
            have HX := Lib.hid (And.intro hbx hqx)
            clear hbx hqx hE8 hE8' hCf8 hC8 KM b0 b1 b2 b3 b4 b5 b6 b7 b8 hCf7
            go_wp2_with fail
            go_meet
            exact ⟨false, _, ⟨_, _, _, _, _, _, _, _, _, _, _, _, _, _, _, _, _, _, _, _, _, _, _, _, _, _, _, _, rfl⟩, rfl, HX.out.1, HX.out.2, HH⟩
          | false =>
            have HFF : Hid (F = .ok (⟨head, p, gs, n, pol⟩, m + 1)) := Lib.hid (by rw [HFC.out, if_pos h7, hmu, if_neg (by simp)])
            have KM := Lib.hid (measure_yes g fa hIn7 hF7 (by rw [fit_much hok, hmu]; rfl))
            have H7 := Lib.hid (And.intro hC7 (And.intro hIn7 hR7))
            clear hC7 hIn7 hb9 hR7 KN hF7
            go_wp2_with fail
            refine KM.out.mono ?_
            rintro e w8 ⟨rfl, hx8⟩
            have hCf8 : Chg (· = g) w w8 := hCf7.trans (Chg.of_ext hx8)
            have hs8 := hx8.size
            have hIn8 : RlIn w8 (fun b => Fh b ∨ (q < b ∧ b < w8.heap.size)) ⟨head, A, ac, p, a, xs, gA, gc, n, pol⟩ := by
              refine ⟨HHH.out.1.keep fun b hb _ => ⟨hCf8.block b (HHH.out.2 b hb).1 (HHH.out.2 b hb).2, .inl hb⟩, H7.out.2.1.keep fun b hb _ => ⟨hx8.block b (by omega), .inr ⟨by omega, by omega⟩⟩, H6.out.2.2.1.keep fun b hb _ => ?_⟩
              have h1 := hb.1
              have h2 := hb.2
              exact ⟨by rw [hx8.block b (by omega), H7.out.1.block b (by omega) (by omega)], .inr ⟨by omega, by omega⟩⟩
            have hbx : BoxN w8 px [.int .i64 head.kind, .string head.name, .int .i64 head.n, .slice A head.args.length ac, .int .i64 p.kind, .int .i64 p.tm.kind, .string p.tm.name, .int .i64 p.tm.n, .slice a.A p.tm.args.length a.ac, .int .i64 p.rel, .slice a.L p.l.length a.lc, .slice a.R p.r.length a.rc, .slice a.C p.c.length a.cc, .slice gA xs.length gc, .int .i64 n, .int .i64 pol] := ((set1315 H6.out.2.2.2.1).chg H7.out.1 (by omega)).ext hx8
            have hqx := ((((HB4.out.2.2.2.1.chg H5.out.1 (by omega)).chg H6.out.1 (by omega)).chg H7.out.1 (by omega)).ext hx8)
            have HH : Hid (RuleCut w g K T Fh q F [.int .i64 head.kind, .string head.name, .int .i64 head.n, .slice A head.args.length ac, .int .i64 p.kind, .int .i64 p.tm.kind, .string p.tm.name, .int .i64 p.tm.n, .slice a.A p.tm.args.length a.ac, .int .i64 p.rel, .slice a.L p.l.length a.lc, .slice a.R p.r.length a.rc, .slice a.C p.c.length a.cc, .slice gA xs.length gc, .int .i64 n, .int .i64 pol] true w8) := Lib.hid ⟨hCf8, by rw [HFF.out]; exact ⟨rfl, ⟨head, A, ac, p, a, xs, gA, gc, n, pol⟩, rfl, by unfold RlL.rl; rw [H6.out.2.1], hIn8, H7.out.2.2.ext hx8⟩⟩
            have HX := Lib.hid (And.intro hbx hqx)
            clear hbx hqx hIn8 hCf8 KM hx8 b0 b1 b2 b3 b4 b5 b6 b7 b8 hCf7
            go_wp2_with fail
            go_meet
            exact ⟨true, _, ⟨_, _, _, _, _, _, _, _, _, _, _, _, _, _, _, _, _, _, _, _, _, _, _, _, _, _, _, _, rfl⟩, rfl, HX.out.1, HX.out.2, HH⟩
        · have HFF : Hid (F = .error (bad T m)) := Lib.hid (by rw [HFC.out, if_neg h7])
          have KN := Lib.hid (need_no 128 (by omega) hR6 hmT (bit_ne (k := 7) h7))
          clear hC6 hxs hRow hb6 hCf hR6 KC
          go_wp2_with fail
          refine KN.out.mono ?_
          rintro e w7 ⟨rfl, hE7, hC7⟩
          have hCf7 : Chg (· = g) w w7 := H6.out.2.2.2.2.trans hC7
          have hbx : BoxN w7 px [.int .i64 head.kind, .string head.name, .int .i64 head.n, .slice A head.args.length ac, .int .i64 p.kind, .int .i64 p.tm.kind, .string p.tm.name, .int .i64 p.tm.n, .slice a.A p.tm.args.length a.ac, .int .i64 p.rel, .slice a.L p.l.length a.lc, .slice a.R p.r.length a.rc, .slice a.C p.c.length a.cc, .slice gA xs.length gc, .int .i64 n, .int .i64 pol] := (set1315 H6.out.2.2.2.1).chg hC7 (by omega)
          have hqx := ((HB4.out.2.2.2.1.chg H5.out.1 (by omega)).chg H6.out.1 (by omega)).chg hC7 (by omega)
          have HH : Hid (RuleCut w g K T Fh q F [.int .i64 head.kind, .string head.name, .int .i64 head.n, .slice A head.args.length ac, .int .i64 p.kind, .int .i64 p.tm.kind, .string p.tm.name, .int .i64 p.tm.n, .slice a.A p.tm.args.length a.ac, .int .i64 p.rel, .slice a.L p.l.length a.lc, .slice a.R p.r.length a.rc, .slice a.C p.c.length a.cc, .slice gA xs.length gc, .int .i64 n, .int .i64 pol] false w7) := Lib.hid ⟨hCf7, by rw [HFF.out]; exact ⟨rfl, hE7⟩⟩
          have HX := Lib.hid (And.intro hbx hqx)
          clear hbx hqx hE7 hCf7 hC7 KN
          go_wp2_with fail
          go_meet
          exact ⟨false, _, ⟨_, _, _, _, _, _, _, _, _, _, _, _, _, _, _, _, _, _, _, _, _, _, _, _, _, _, _, _, rfl⟩, rfl, HX.out.1, HX.out.2, HH⟩
  case rest =>
    obtain ⟨bb, cs, hsh, rfl, hbx, hqx, HC⟩ := hcut
    obtain ⟨wx, rfl⟩ : ∃ wx : World, wx = wc := ⟨_, rfl⟩
    have hcs := HC.out
    obtain ⟨h0, h1, h2, A3, l3, d3, k0, k1, s2, k3, A4, l4, d4, k5, A6, l6, d6, A7, l7, d7, A8, l8, d8, A9, l9, d9, n0, n1, rfl⟩ := hsh
    obtain ⟨x0, x1, x2, x3, x4, x5, x6, x7, x8, x9, x10, x11, x12, x13, x14, x15⟩ := hbx.get16
    obtain ⟨y0, y1, y2, y3, y4, y5, y6, y7, y8, y9, y10, y11, y12, y13, y14, y15⟩ := hqx.get16
    obtain ⟨z0, z1, z2, z3, z4, z5, z6, z7, z8, z9, z10, z11, z12, z13, z14, z15⟩ := hqx.fz16 rfl
    clear hbx hqx hcs KW HB4 hC4
    go_wp2_with fail
    refine bodyPost_ret (v := .tuple #[.agg #[.int .i64 h0, .string h1, .int .i64 h2, .slice A3 l3 d3, .int .i64 k0, .int .i64 k1, .string s2, .int .i64 k3, .slice A4 l4 d4, .int .i64 k5, .slice A6 l6 d6, .slice A7 l7 d7, .slice A8 l8 d8, .slice A9 l9 d9, .int .i64 n0, .int .i64 n1], .bool bb]) (by simp [results, Tryz.results55, go_sem, *]) rfl ?_
    exact rl_cut_fin HC.out (Nat.le_of_lt hq1) hgl hlo (fun b hb => (HHH.out.2 b hb).1) ⟨_, _, _, _, _, _, _, _, _, _, _, _, _, _, _, _, _, _, _, _, _, _, _, _, _, _, _, _, rfl⟩ (vs := [.int .i64 h0, .string h1, .int .i64 h2, .slice A3 l3 d3, .int .i64 k0, .int .i64 k1, .string s2, .int .i64 k3, .slice A4 l4 d4, .int .i64 k5, .slice A6 l6 d6, .slice A7 l7 d7, .slice A8 l8 d8, .slice A9 l9 d9, .int .i64 n0, .int .i64 n1]) rfl rfl
theorem rule_rd {w : World} {g : Nat} {K : RdP} {T : List Tok} {i : Nat} {Fh : Nat → Prop} {head : Tm} {A : Option Addr} {ac : Nat} (hT : EndLast T) (h : RdAt w g K T i 0) (hbo : BitOk w g) (hi : i < T.length) (hh : TmIn w Fh head A ac) (hFh : ∀ b, Fh b → b < w.heap.size ∧ b ≠ g) :
    Calls Tryz.prog 55 #[.pointer (some ⟨g, 0, none⟩), head.val A ac] w (RuleOut w g K T Fh (ruleP T head i)) := by
  match hpi : patP T 100 i with
  | .error (ea, ex) => exact rule_err hT h hbo hi hh hFh hpi
  | .ok (p, j) => exact rule_ok hT h hbo hi hh hFh hpi
end Go.Proofs.YtbjghkmjnhmlfaaGreatDoor
