/- Package read: item. -/
import Derived.Test.YtbjghkmjnhmlfaaGreatDoorYR
import Derived.Test.YtbjghkmjnhmlfaaGreatDoorPgk
namespace Go.Proofs.YtbjghkmjnhmlfaaGreatDoor
open Go.RowKit

/-- a program's two lists, in the two cells of block p -/
structure TwoP (B : Nat) (w : World) (p : Nat) (v0 : Value) (cs : List ClL) (v1 : Value) (rs : List RlL) : Prop where
  s0 : Slot SC B w p 0 v0 cs (fun b => v1.ownBlock = some b)
  s1 : Slot SR B w p 1 v1 rs (fun b => v0.ownBlock = some b)
  box : BoxN w p [v0, v1]
  l0 : cs.length ≤ 30
  l1 : rs.length ≤ 20
theorem TwoP.keep {B : Nat} {w w' : World} {p : Nat} {v0 v1 : Value} {cs : List ClL} {rs : List RlL} {F : Nat → Prop} (h : TwoP B w p v0 cs v1 rs) (k : Chg F w w') (hF : ∀ b, F b → b < B ∧ b ≠ p) : TwoP B w' p v0 cs v1 rs :=
  ⟨h.s0.keep k (fun b f => ⟨.inl (hF b f).1, (hF b f).2⟩), h.s1.keep k (fun b f => ⟨.inl (hF b f).1, (hF b f).2⟩), h.box.chg k (fun f => (hF p f).2 rfl), h.l0, h.l1⟩
theorem TwoP.ext {B : Nat} {w w' : World} {p : Nat} {v0 v1 : Value} {cs : List ClL} {rs : List RlL} (h : TwoP B w p v0 cs v1 rs) (k : Ext w w') : TwoP B w' p v0 cs v1 rs := h.keep (F := fun _ => False) (Chg.of_ext k) (fun _ f => f.elim)
def ItemOut (w : World) (g p : Nat) (K : RdP) (T : List Tok) (B : Nat) (v0 v1 : Value) (F : Rs Pr) (e : Ending) (w' : World) : Prop := Chg (fun x => x = g ∨ x = p ∨ v0.ownBlock = some x ∨ v1.ownBlock = some x) w w' ∧
  match F with
  | .ok (P, j) => e = .returned (.bool true) ∧ RdAt w' g K T j 0 ∧ ∃ v0' cs v1' rs, cs.map ClL.cl = P.clauses ∧ rs.map RlL.rl = P.rules ∧ TwoP B w' p v0' cs v1' rs
  | .error (a, x) => e = .returned (.bool false) ∧ RdErr w' g a x ∧ ∃ A l c A' l' c', BoxN w' p [.slice A l c, .slice A' l' c']
theorem itemP_eq (T : List Tok) (P : Pr) (i : Nat) : itemP T P i = match termP T 100 i with
    | .error e => .error e
    | .ok (t, j) => if rl T j = 14 then (match ruleP T t (j + 1) with | .error e => .error e | .ok (x, m) => if P.rules.length = 20 then .error (lim T i) else .ok (⟨P.clauses, P.rules ++ [x]⟩, m))
      else (match clauseP T t j with | .error e => .error e | .ok (x, m) => if P.clauses.length = 30 then .error (lim T i) else .ok (⟨P.clauses ++ [x], P.rules⟩, m)) := by
  unfold itemP
  cases termP T 100 i with
  | error e => rfl
  | ok x =>
    obtain ⟨t, j⟩ := x
    simp only
    by_cases h : rl T j = 14
    · rw [if_pos h, if_pos h]; cases ruleP T t (j + 1) <;> rfl
    · rw [if_neg h, if_neg h]; cases clauseP T t j <;> rfl
theorem item_bool {w w' : World} {g p : Nat} {K : RdP} {T : List Tok} {B : Nat} {v0 v1 : Value} {F : Rs Pr} {e : Ending} (h : ItemOut w g p K T B v0 v1 F e w') : ∃ bb, e = .returned (.bool bb) := by
  obtain ⟨_, h3⟩ := h
  match F, h3 with
  | .error (a, x), h3 => exact ⟨_, h3.1⟩
  | .ok (P, j), h3 => exact ⟨_, h3.1⟩
theorem item_err {w w3 : World} {g p : Nat} {K : RdP} {T : List Tok} {B : Nat} {v0 v1 : Value} {cs : List ClL} {rs : List RlL} {a x : Int} (hC : Chg (· = g) w w3) (h3 : TwoP B w p v0 cs v1 rs) (hpg : p ≠ g) (hE : RdErr w3 g a x) : ItemOut w g p K T B v0 v1 (.error (a, x)) (.returned (.bool false)) w3 := by
  obtain ⟨A0, c0, rfl, _⟩ := src_own h3.s0.inv.own
  obtain ⟨A1, c1, rfl, _⟩ := src_own h3.s1.inv.own
  exact ⟨hC.weak fun _ e => .inl e, rfl, hE, A0, _, c0, A1, _, c1, h3.box.chg hC hpg⟩
theorem item_addR {w w3 w4 : World} {g p : Nat} {K : RdP} {T : List Tok} {B j i : Nat} {v0 v1 : Value} {cs : List ClL} {rs : List RlL} {y : RlL} {F : Rs Pr} {e : Ending} (h3 : TwoP B w3 p v0 cs v1 rs) (hC : Chg (· = g) w w3) (hg : g < B) (hpg : p ≠ g)
    (hF : F = if (rs.map RlL.rl).length = 20 then .error (lim T i) else .ok (⟨cs.map ClL.cl, rs.map RlL.rl ++ [y.rl]⟩, j))
    (hout : AddOut SR w3 g K T j 0 p 1 B v1 rs (fun b => v0.ownBlock = some b) y 20 (lim T i).1 e w4) : ItemOut w g p K T B v0 v1 F e w4 := by
  subst hF
  rw [List.length_map]
  unfold AddOut at hout
  by_cases h4 : rs.length = 20
  · rw [if_pos h4] at hout
    rw [if_pos h4]
    obtain ⟨he, hE4, hC4⟩ := hout
    have hC5 := hC.trans hC4
    obtain ⟨A4, c4, rfl, _⟩ := src_own h3.s0.inv.own
    obtain ⟨A5, c5, rfl, _⟩ := src_own h3.s1.inv.own
    exact ⟨hC5.weak fun _ e => .inl e, he, hE4, A4, _, c4, A5, _, c5, h3.box.chg hC4 hpg⟩
  · rw [if_neg h4] at hout
    rw [if_neg h4]
    obtain ⟨he, hR4, ⟨v', hS4, hG4⟩, hC4, hB4⟩ := hout
    have hb := h3.box.beside hB4 hS4.cell (by simp)
    refine ⟨(hC.weak fun _ e => .inl e).trans (hC4.weak fun _ e => by rcases e with e | e; exact .inr (.inl e); exact .inr (.inr (.inr e))), he, hR4, v0, cs, v', _, rfl, by rw [List.map_append]; rfl, h3.s0.beside (hC4.weak fun _ e => .inr e) hB4 (by omega) hg hG4, hS4, hb, h3.l0, ?_⟩
    have := h3.l1
    rw [List.length_append]
    simp only [List.length_cons, List.length_nil]
    omega
theorem item_addC {w w3 w4 : World} {g p : Nat} {K : RdP} {T : List Tok} {B j i : Nat} {v0 v1 : Value} {cs : List ClL} {rs : List RlL} {y : ClL} {F : Rs Pr} {e : Ending} (h3 : TwoP B w3 p v0 cs v1 rs) (hC : Chg (· = g) w w3) (hg : g < B) (hpg : p ≠ g)
    (hF : F = if (cs.map ClL.cl).length = 30 then .error (lim T i) else .ok (⟨cs.map ClL.cl ++ [y.cl], rs.map RlL.rl⟩, j))
    (hout : AddOut SC w3 g K T j 0 p 0 B v0 cs (fun b => v1.ownBlock = some b) y 30 (lim T i).1 e w4) : ItemOut w g p K T B v0 v1 F e w4 := by
  subst hF
  rw [List.length_map]
  unfold AddOut at hout
  by_cases h4 : cs.length = 30
  · rw [if_pos h4] at hout
    rw [if_pos h4]
    obtain ⟨he, hE4, hC4⟩ := hout
    have hC5 := hC.trans hC4
    obtain ⟨A4, c4, rfl, _⟩ := src_own h3.s0.inv.own
    obtain ⟨A5, c5, rfl, _⟩ := src_own h3.s1.inv.own
    exact ⟨hC5.weak fun _ e => .inl e, he, hE4, A4, _, c4, A5, _, c5, h3.box.chg hC4 hpg⟩
  · rw [if_neg h4] at hout
    rw [if_neg h4]
    obtain ⟨he, hR4, ⟨v', hS4, hG4⟩, hC4, hB4⟩ := hout
    have hb := h3.box.beside hB4 hS4.cell (by simp)
    refine ⟨(hC.weak fun _ e => .inl e).trans (hC4.weak fun _ e => by rcases e with e | e; exact .inr (.inl e); exact .inr (.inr (.inl e))), he, hR4, v', _, v1, rs, by rw [List.map_append]; rfl, rfl, hS4, h3.s1.beside (hC4.weak fun _ e => .inr e) hB4 (by omega) hg hG4, hb, ?_, h3.l1⟩
    have := h3.l0
    rw [List.length_append]
    simp only [List.length_cons, List.length_nil]
    omega
set_option maxRecDepth 100000 in
set_option maxHeartbeats 4000000 in
theorem item_rd {w : World} {g p : Nat} {K : RdP} {T : List Tok} {i B : Nat} {v0 v1 : Value} {cs : List ClL} {rs : List RlL} (hT : EndLast T) (h : RdAt w g K T i 0) (hbo : BitOk w g) (hi : i < T.length) (hpg : p ≠ g) (hpA : p ≠ K.A) (hpR : p ≠ K.R)
    (hlo : g < B ∧ K.A < B ∧ K.R < B) (h2 : TwoP B w p v0 cs v1 rs) :
    Calls Tryz.prog 32 #[.pointer (some ⟨g, 0, none⟩), .pointer (some ⟨p, 0, none⟩)] w (ItemOut w g p K T B v0 v1 (itemP T ⟨cs.map ClL.cl, rs.map RlL.rl⟩ i)) := by
  have hgl := h.lt
  have hpl := h2.box.lt
  have hB := h2.s0.inv.size
  have hpB := h2.s0.lt
  have KP := Lib.hid (place_any h hi)
  obtain ⟨F, hF⟩ : ∃ F, F = itemP T ⟨cs.map ClL.cl, rs.map RlL.rl⟩ i := ⟨_, rfl⟩
  rw [← hF]
  have HF := Lib.hid (hF.trans (itemP_eq T _ i))
  obtain ⟨fa, hfa⟩ : ∃ fa, fa = (tk T i).at_ := ⟨_, rfl⟩
  rw [← hfa] at KP
  have HFA := Lib.hid hfa
  have HBO := Lib.hid hbo
  have HH := Lib.hid (And.intro h h2)
  clear hF hfa h h2 hbo
  go_enter Tryz.func32, Tryz.ntmps32
  go_wp2_with fail
  refine KP.out.mono ?_
  rintro e w1 ⟨rfl, hx1⟩
  have KT := Lib.hid (term_any T hT 100 w1 g K i 0 (by omega) (HH.out.1.ext hx1) hi)
  have hsx := hx1.size
  have HX1 := Lib.hid hx1
  clear KP hx1
  go_wp2_with fail
  refine KT.out.mono ?_
  rintro e w2 ⟨hC2, ho⟩
  have hC2w : Chg (· = g) w w2 := (Chg.of_ext HX1.out).trans hC2
  match hpi : termP T 100 i with
  | .error (a, x) =>
    rw [hpi] at ho
    have HFF : Hid (F = .error (a, x)) := Lib.hid (by rw [HF.out, hpi])
    obtain ⟨⟨k', sn, n', A', l, c', rfl⟩, hE⟩ := ho
    obtain ⟨w3, hw3⟩ : ∃ w3, w3 = w2.alloc (.cells #[.int .i64 k', .string sn, .int .i64 n', .slice A' l c'] 58) := ⟨_, rfl⟩
    have hx3 : Ext w2 w3 := by rw [hw3]; exact (Ext.refl _).alloc _
    have HW3 := Lib.hid hw3
    have HE := Lib.hid (hE.ext hx3)
    have hC3 := hC2w.trans (Chg.of_ext hx3)
    clear hw3 hE hx3 KT hpi hC2 hC2w
    go_upto_region 3 with (fail)
    rw [← HW3.out]
    go_wp2_with fail
    go_ret
    rw [HFF.out]
    exact item_err hC3 HH.out.2 hpg HE.out
  | .ok (t, j) =>
    rw [hpi] at ho
    obtain ⟨A2, c2, rfl, hIn, hR2⟩ := ho
    have hjj := termP_takes hT 100 _ _ _ hpi
    have HFF : Hid (F = if rl T j = 14 then (match ruleP T t (j + 1) with | .error e => .error e | .ok (x, m) => if (rs.map RlL.rl).length = 20 then .error (lim T i) else .ok (⟨cs.map ClL.cl, rs.map RlL.rl ++ [x]⟩, m))
      else (match clauseP T t j with | .error e => .error e | .ok (x, m) => if (cs.map ClL.cl).length = 30 then .error (lim T i) else .ok (⟨cs.map ClL.cl ++ [x], rs.map RlL.rl⟩, m))) := Lib.hid (by rw [HF.out, hpi])
    obtain ⟨w3, hw3⟩ : ∃ w3, w3 = w2.alloc (.cells #[.int .i64 t.kind, .string t.name, .int .i64 t.n, .slice A2 t.args.length c2] 58) := ⟨_, rfl⟩
    have hx3 : Ext w2 w3 := by rw [hw3]; exact (Ext.refl _).alloc _
    have hb3 : Box4 w3 w2.heap.size (.int .i64 t.kind) (.string t.name) (.int .i64 t.n) (.slice A2 t.args.length c2) := by rw [hw3]; exact Box4.new w2 _ _ _ _ _
    have HW3 := Lib.hid hw3
    have hC3 := hC2w.trans (Chg.of_ext hx3)
    have hR3 := hR2.ext hx3
    have hs2 := hC2.size
    have hs3 := hx3.size
    have hTwo3 := HH.out.2.keep hC3 (fun b e => by subst e; exact ⟨hlo.1, fun e => hpg e.symm⟩)
    have ht3 : TmIn w3 (New w1 w2) t A2 c2 := hIn.keep fun b hb _ => ⟨hx3.block b hb.2, hb⟩
    have HC3 := Lib.hid hC3
    have HT3 := Lib.hid (And.intro hTwo3 (And.intro ht3 hR3))
    have hv0 : ∀ q, v0.ownBlock = some q → q < w.heap.size := fun q hq => (HH.out.2.s0.inv.lt q hq).2
    have hv1 : ∀ q, v1.ownBlock = some q → q < w.heap.size := fun q hq => (HH.out.2.s1.inv.lt q hq).2
    have HV := Lib.hid (And.intro hv0 hv1)
    clear hw3 hx3 KT hpi hC2 hC2w hR2 hIn hC3 hTwo3 ht3 hv0 hv1
    by_cases h14 : rl T j = 14
    · have KK := Lib.hid (take_yes 16384 (by omega) hR3 hjj.2 (by rw [h14]; decide))
      have hj1 := hT.next 14 h14 (by omega)
      clear hR3
      go_upto_region 5 with (fail)
      rw [← HW3.out]
      go_wp2_with fail
      refine KK.out.mono ?_
      rintro e w4 ⟨rfl, hR4, hC4⟩
      obtain ⟨b0, b1, b2, b3, _, _, _, _⟩ := hb3.chg hC4 (by omega)
      have hs4 := hC4.size
      have ht4 : TmIn w4 (New w1 w2) t A2 c2 := HT3.out.2.1.keep fun b hb _ => ⟨hC4.block b (by have := hb.2; omega) (by have := hb.1; omega), hb⟩
      have hCw4 := HC3.out.trans hC4
      have KR := Lib.hid (rule_rd hT hR4 (HBO.out.chg hCw4) hj1 ht4 (fun b hb => ⟨by have := hb.2; omega, by have := hb.1; omega⟩))
      have hT4 := HT3.out.1.keep hC4 (fun b e => by subst e; exact ⟨hlo.1, fun e => hpg e.symm⟩)
      have H4 := Lib.hid (And.intro hCw4 hT4)
      clear KK hR4 hC4 ht4 hCw4 hT4 hb3
      go_wp2_with fail
      refine KR.out.mono ?_
      rintro e w5 ⟨hC5, ho⟩
      have hCw5 := H4.out.1.trans hC5
      match hrp : ruleP T t (j + 1) with
      | .error (a, x) =>
        rw [hrp] at ho
        have HFO : Hid (F = .error (a, x)) := Lib.hid (by rw [HFF.out, if_pos h14, hrp])
        obtain ⟨⟨csx, hsh, rfl⟩, hE⟩ := ho
        obtain ⟨h0, h1, h2, A3, l3, d3, k0, k1, s2, k3, A4, l4, d4, k5, A6, l6, d6, A7, l7, d7, A8, l8, d8, A9, l9, d9, n0, n1, rfl⟩ := hsh
        obtain ⟨w6, hw6⟩ : ∃ w6, w6 = w5.alloc (.cells #[.int .i64 h0, .string h1, .int .i64 h2, .slice A3 l3 d3, .int .i64 k0, .int .i64 k1, .string s2, .int .i64 k3, .slice A4 l4 d4, .int .i64 k5, .slice A6 l6 d6, .slice A7 l7 d7, .slice A8 l8 d8, .slice A9 l9 d9, .int .i64 n0, .int .i64 n1] 66) := ⟨_, rfl⟩
        have hx6 : Ext w5 w6 := by rw [hw6]; exact (Ext.refl _).alloc _
        have HW6 := Lib.hid hw6
        have HE := Lib.hid (hE.ext hx6)
        have hC6 := hCw5.trans (Chg.of_ext hx6)
        clear hw6 hE hx6 KR hrp hC5 hCw5 b0 b1 b2 b3
        go_upto_region 7 with (fail)
        rw [show w5.alloc (.cells #[.int .i64 h0, .string h1, .int .i64 h2, .slice A3 l3 d3, .int .i64 k0, .int .i64 k1, .string s2, .int .i64 k3, .slice A4 l4 d4, .int .i64 k5, .slice A6 l6 d6, .slice A7 l7 d7, .slice A8 l8 d8, .slice A9 l9 d9, .int .i64 n0, .int .i64 n1] 66) = w6 from HW6.out.symm]
        go_quiet (fail)
        generalize hwy : w6.drewN nq = wy
        have hy4 : Ext w6 wy := by rw [← hwy]; exact (Ext.refl _).drewN _
        have hC7 : Chg (· = g) w wy := hC6.trans (Chg.of_ext hy4)
        have HE7 := Lib.hid (HE.out.ext hy4)
        clear hwy hC6 hy4
        go_wp2_with fail
        go_ret
        rw [HFO.out]
        exact item_err hC7 HH.out.2 hpg HE7.out
      | .ok (r, m) =>
        rw [hrp] at ho
        obtain ⟨y, hy, he, hIn5, hR5⟩ := ho
        rw [show (Value.agg (rlCells y).toArray) = .agg #[.int .i64 y.head.kind, .string y.head.name, .int .i64 y.head.n, .slice y.A y.head.args.length y.ac, .int .i64 y.body.kind, .int .i64 y.body.tm.kind, .string y.body.tm.name, .int .i64 y.body.tm.n, .slice y.pl.A y.body.tm.args.length y.pl.ac, .int .i64 y.body.rel, .slice y.pl.L y.body.l.length y.pl.lc, .slice y.pl.R y.body.r.length y.pl.rc, .slice y.pl.C y.body.c.length y.pl.cc, .slice y.gA y.guards.length y.gc, .int .i64 y.within, .int .i64 y.policy] from rfl] at he
        subst he
        have HFO : Hid (F = if (rs.map RlL.rl).length = 20 then .error (lim T i) else .ok (⟨cs.map ClL.cl, rs.map RlL.rl ++ [y.rl]⟩, m)) := Lib.hid (by rw [HFF.out, if_pos h14, hrp, hy])
        obtain ⟨w6, hw6⟩ : ∃ w6, w6 = w5.alloc (.cells #[.int .i64 y.head.kind, .string y.head.name, .int .i64 y.head.n, .slice y.A y.head.args.length y.ac, .int .i64 y.body.kind, .int .i64 y.body.tm.kind, .string y.body.tm.name, .int .i64 y.body.tm.n, .slice y.pl.A y.body.tm.args.length y.pl.ac, .int .i64 y.body.rel, .slice y.pl.L y.body.l.length y.pl.lc, .slice y.pl.R y.body.r.length y.pl.rc, .slice y.pl.C y.body.c.length y.pl.cc, .slice y.gA y.guards.length y.gc, .int .i64 y.within, .int .i64 y.policy] 66) := ⟨_, rfl⟩
        have hb6 : BoxN w6 w5.heap.size [.int .i64 y.head.kind, .string y.head.name, .int .i64 y.head.n, .slice y.A y.head.args.length y.ac, .int .i64 y.body.kind, .int .i64 y.body.tm.kind, .string y.body.tm.name, .int .i64 y.body.tm.n, .slice y.pl.A y.body.tm.args.length y.pl.ac, .int .i64 y.body.rel, .slice y.pl.L y.body.l.length y.pl.lc, .slice y.pl.R y.body.r.length y.pl.rc, .slice y.pl.C y.body.c.length y.pl.cc, .slice y.gA y.guards.length y.gc, .int .i64 y.within, .int .i64 y.policy] := by rw [hw6]; exact BoxN.new w5 _ _ (by simp)
        have hx6 : Ext w5 w6 := by rw [hw6]; exact (Ext.refl _).alloc _
        have HW6 := Lib.hid hw6
        have hxd : Ext w6 w6.drew := (Ext.refl _).drew
        have hx7 := hx6.trans hxd
        have hC7 : Chg (· = g) w w6.drew := hCw5.trans (Chg.of_ext hx7)
        have hs5 := hC5.size
        have hs7 := hx7.size
        have hT7 : TwoP B w6.drew p v0 cs v1 rs := HH.out.2.keep hC7 (fun b e => by subst e; exact ⟨hlo.1, fun e => hpg e.symm⟩)
        have hIn7 : RlIn w6.drew (fun b => (B ≤ b ∧ b < w6.drew.heap.size) ∧ ¬ v0.ownBlock = some b ∧ v1.ownBlock ≠ some b) y := SR.keep hIn5 fun b hb _ => by
          have hb1 : w1.heap.size ≤ b := by rcases hb with e | e; exact e.1; have := e.1; omega
          have hb2 : b < w5.heap.size := by rcases hb with e | e; have := e.2; omega; exact e.2
          exact ⟨hx7.block b hb2, ⟨by omega, by omega⟩, fun e => by have := HV.out.1 b e; omega, fun e => by have := HV.out.2 b e; omega⟩
        have KA0 := addR_rd y fa hT7.l1 (hR5.ext hx7) hT7.s1 hpg hpA hpR hlo (fun b hb => by have := HV.out.1 b hb; have := hC7.size; omega) hIn7
        have KA1 : Calls Tryz.prog 56 #[.pointer (some ⟨g, 0, none⟩), .pointer (some ⟨p, 1, none⟩), .agg #[.int .i64 y.head.kind, .string y.head.name, .int .i64 y.head.n, .slice y.A y.head.args.length y.ac, .int .i64 y.body.kind, .int .i64 y.body.tm.kind, .string y.body.tm.name, .int .i64 y.body.tm.n, .slice y.pl.A y.body.tm.args.length y.pl.ac, .int .i64 y.body.rel, .slice y.pl.L y.body.l.length y.pl.lc, .slice y.pl.R y.body.r.length y.pl.rc, .slice y.pl.C y.body.c.length y.pl.cc, .slice y.gA y.guards.length y.gc, .int .i64 y.within, .int .i64 y.policy], .int .i64 20, .int .i64 fa] w6.drew (AddOut SR w6.drew g K T m 0 p 1 B v1 rs (fun b => v0.ownBlock = some b) y 20 fa) := KA0
        have KA := Lib.hid KA1
        have H7 := Lib.hid (And.intro hT7 hC7)
        have hbd := hb6.ext hxd
        obtain ⟨x0, x1, x2, x3, x4, x5, x6, x7, x8, x9, x10, x11, x12, x13, x14, x15⟩ := hbd.get16
        clear hw6 hx6 hxd hx7 KR hrp hC5 hCw5 b0 b1 b2 b3 hT7 hC7 hIn7 hIn5 hR5 KA0 KA1 hbd hy
        go_upto_region 7 with (fail)
        rw [show w5.alloc (.cells #[.int .i64 y.head.kind, .string y.head.name, .int .i64 y.head.n, .slice y.A y.head.args.length y.ac, .int .i64 y.body.kind, .int .i64 y.body.tm.kind, .string y.body.tm.name, .int .i64 y.body.tm.n, .slice y.pl.A y.body.tm.args.length y.pl.ac, .int .i64 y.body.rel, .slice y.pl.L y.body.l.length y.pl.lc, .slice y.pl.R y.body.r.length y.pl.rc, .slice y.pl.C y.body.c.length y.pl.cc, .slice y.gA y.guards.length y.gc, .int .i64 y.within, .int .i64 y.policy] 66) = w6 from HW6.out.symm]
        go_region_with ((with_reducible refine KA.out.mono ?_); rintro e w8 hout; obtain ⟨bb, rfl⟩ := add_bool hout)
        all_goals
          have HO := Lib.hid (item_addR (cs := cs) H7.out.1 H7.out.2 hlo.1 hpg HFO.out (by rw [HFA.out] at hout; exact hout))
          clear hout KA hb6 x0 x1 x2 x3 x4 x5 x6 x7 x8 x9 x10 x11 x12 x13 x14 x15
          go_wp2_with fail
          go_ret
          exact HO.out
    · have KK := Lib.hid (take_no 16384 (by omega) hR3 hjj.2 (bit_ne (k := 14) h14))
      clear hR3
      go_upto_region 5 with (fail)
      rw [← HW3.out]
      go_wp2_with fail
      refine KK.out.mono ?_
      rintro e w4 ⟨rfl, hx4⟩
      obtain ⟨b0, b1, b2, b3, _, _, _, _⟩ := hb3.ext hx4
      have hs4 := hx4.size
      have ht4 : TmIn w4 (New w1 w2) t A2 c2 := HT3.out.2.1.keep fun b hb _ => ⟨hx4.block b (by have := hb.2; omega), hb⟩
      have hCw4 := HC3.out.trans (Chg.of_ext hx4)
      have KR := Lib.hid (clause_rd hT (HT3.out.2.2.ext hx4) (HBO.out.chg hCw4) hjj.2 ht4 (fun b hb => ⟨by have := hb.2; omega, by have := hb.1; omega⟩))
      have H4 := Lib.hid hCw4
      clear KK hx4 ht4 hCw4 hb3
      go_wp2_with fail
      refine KR.out.mono ?_
      rintro e w5 ⟨hC5, ho⟩
      have hCw5 := H4.out.trans hC5
      match hrp : clauseP T t j with
      | .error (a, x) =>
        rw [hrp] at ho
        have HFO : Hid (F = .error (a, x)) := Lib.hid (by rw [HFF.out, if_neg h14, hrp])
        obtain ⟨⟨csx, hsh, rfl⟩, hE⟩ := ho
        obtain ⟨h0, h1, h2, A3, l3, d3, A4, l4, d4, A5, l5, d5, rfl⟩ := hsh
        obtain ⟨w6, hw6⟩ : ∃ w6, w6 = w5.alloc (.cells #[.int .i64 h0, .string h1, .int .i64 h2, .slice A3 l3 d3, .slice A4 l4 d4, .slice A5 l5 d5] 73) := ⟨_, rfl⟩
        have hx6 : Ext w5 w6 := by rw [hw6]; exact (Ext.refl _).alloc _
        have HW6 := Lib.hid hw6
        have HE := Lib.hid (hE.ext hx6)
        have hC6 := hCw5.trans (Chg.of_ext hx6)
        clear hw6 hE hx6 KR hrp hC5 hCw5 b0 b1 b2 b3
        go_upto_region 9 with (fail)
        rw [show w5.alloc (.cells #[.int .i64 h0, .string h1, .int .i64 h2, .slice A3 l3 d3, .slice A4 l4 d4, .slice A5 l5 d5] 73) = w6 from HW6.out.symm]
        go_quiet (fail)
        generalize hwy : w6.drewN nq = wy
        have hy4 : Ext w6 wy := by rw [← hwy]; exact (Ext.refl _).drewN _
        have hC7 : Chg (· = g) w wy := hC6.trans (Chg.of_ext hy4)
        have HE7 := Lib.hid (HE.out.ext hy4)
        clear hwy hC6 hy4
        go_wp2_with fail
        go_ret
        rw [HFO.out]
        exact item_err hC7 HH.out.2 hpg HE7.out
      | .ok (r, m) =>
        rw [hrp] at ho
        obtain ⟨y, hy, he, hIn5, hR5⟩ := ho
        rw [show (Value.agg (clCells y).toArray) = .agg #[.int .i64 y.head.kind, .string y.head.name, .int .i64 y.head.n, .slice y.A y.head.args.length y.ac, .slice y.bA y.body.length y.bc, .slice y.gA y.guards.length y.gc] from rfl] at he
        subst he
        have HFO : Hid (F = if (cs.map ClL.cl).length = 30 then .error (lim T i) else .ok (⟨cs.map ClL.cl ++ [y.cl], rs.map RlL.rl⟩, m)) := Lib.hid (by rw [HFF.out, if_neg h14, hrp, hy])
        obtain ⟨w6, hw6⟩ : ∃ w6, w6 = w5.alloc (.cells #[.int .i64 y.head.kind, .string y.head.name, .int .i64 y.head.n, .slice y.A y.head.args.length y.ac, .slice y.bA y.body.length y.bc, .slice y.gA y.guards.length y.gc] 73) := ⟨_, rfl⟩
        have hb6 : BoxN w6 w5.heap.size [.int .i64 y.head.kind, .string y.head.name, .int .i64 y.head.n, .slice y.A y.head.args.length y.ac, .slice y.bA y.body.length y.bc, .slice y.gA y.guards.length y.gc] := by rw [hw6]; exact BoxN.new w5 _ _ (by simp)
        have hx6 : Ext w5 w6 := by rw [hw6]; exact (Ext.refl _).alloc _
        have HW6 := Lib.hid hw6
        have hxd : Ext w6 w6.drew := (Ext.refl _).drew
        have hx7 := hx6.trans hxd
        have hC7 : Chg (· = g) w w6.drew := hCw5.trans (Chg.of_ext hx7)
        have hs5 := hC5.size
        have hs7 := hx7.size
        have hT7 : TwoP B w6.drew p v0 cs v1 rs := HH.out.2.keep hC7 (fun b e => by subst e; exact ⟨hlo.1, fun e => hpg e.symm⟩)
        have hIn7 : ClIn w6.drew (fun b => (B ≤ b ∧ b < w6.drew.heap.size) ∧ ¬ v1.ownBlock = some b ∧ v0.ownBlock ≠ some b) y := SC.keep hIn5 fun b hb _ => by
          have hb1 : w1.heap.size ≤ b := by rcases hb with e | e; exact e.1; have := e.1; omega
          have hb2 : b < w5.heap.size := by rcases hb with e | e; have := e.2; omega; exact e.2
          exact ⟨hx7.block b hb2, ⟨by omega, by omega⟩, fun e => by have := HV.out.2 b e; omega, fun e => by have := HV.out.1 b e; omega⟩
        have KA0 := addC_rd y fa hT7.l0 (hR5.ext hx7) hT7.s0 hpg hpA hpR hlo (fun b hb => by have := HV.out.2 b hb; have := hC7.size; omega) hIn7
        have KA1 : Calls Tryz.prog 58 #[.pointer (some ⟨g, 0, none⟩), .pointer (some ⟨p, 0, none⟩), .agg #[.int .i64 y.head.kind, .string y.head.name, .int .i64 y.head.n, .slice y.A y.head.args.length y.ac, .slice y.bA y.body.length y.bc, .slice y.gA y.guards.length y.gc], .int .i64 30, .int .i64 fa] w6.drew (AddOut SC w6.drew g K T m 0 p 0 B v0 cs (fun b => v1.ownBlock = some b) y 30 fa) := KA0
        have KA := Lib.hid KA1
        have H7 := Lib.hid (And.intro hT7 hC7)
        have hbd := hb6.ext hxd
        have x0 := hbd.cell 0 rfl
        have x1 := hbd.cell 1 rfl
        have x2 := hbd.cell 2 rfl
        have x3 := hbd.cell 3 rfl
        have x4 := hbd.cell 4 rfl
        have x5 := hbd.cell 5 rfl
        clear hw6 hx6 hxd hx7 KR hrp hC5 hCw5 b0 b1 b2 b3 hT7 hC7 hIn7 hIn5 hR5 KA0 KA1 hbd hy
        go_upto_region 9 with (fail)
        rw [show w5.alloc (.cells #[.int .i64 y.head.kind, .string y.head.name, .int .i64 y.head.n, .slice y.A y.head.args.length y.ac, .slice y.bA y.body.length y.bc, .slice y.gA y.guards.length y.gc] 73) = w6 from HW6.out.symm]
        go_region_with ((with_reducible refine KA.out.mono ?_); rintro e w8 hout; obtain ⟨bb, rfl⟩ := add_bool hout)
        all_goals
          have HO := Lib.hid (item_addC (rs := rs) H7.out.1 H7.out.2 hlo.1 hpg HFO.out (by rw [HFA.out] at hout; exact hout))
          clear hout KA hb6 x0 x1 x2 x3 x4 x5
          go_wp2_with fail
          go_ret
          exact HO.out
end Go.Proofs.YtbjghkmjnhmlfaaGreatDoor
