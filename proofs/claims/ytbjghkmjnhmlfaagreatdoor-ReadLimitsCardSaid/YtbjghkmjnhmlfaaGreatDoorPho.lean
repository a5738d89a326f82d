/- The page's reader: compare, where something is compared. -/
import Derived.Test.YtbjghkmjnhmlfaaGreatDoorZB
import Derived.BigQuiet
import Derived.Deep.DeepCutAuto
import Derived.Deep.CutBlock
import Derived.Deep.RegionHeld3
import Derived.Deep.MidRow
import Derived.Deep.RegionLaw
namespace Go.Proofs.YtbjghkmjnhmlfaaGreatDoor
open Go.RowKit

theorem ext9 {w u : World} {b : Nat} (h : Ext w u) (hb : w.heap.size ≤ b) (v0 v1 v2 v3 v4 v5 v6 v7 v8 : Value) : Ext w (((((((((u.setCell ⟨b, 0, none⟩ v0).setCell ⟨b, 1, none⟩ v1).setCell ⟨b, 2, none⟩ v2).setCell ⟨b, 3, none⟩ v3).setCell ⟨b, 4, none⟩ v4).setCell ⟨b, 5, none⟩ v5).setCell ⟨b, 6, none⟩ v6).setCell ⟨b, 7, none⟩ v7).setCell ⟨b, 8, none⟩ v8) :=
  ((((((((h.setCell hb _).setCell hb _).setCell hb _).setCell hb _).setCell hb _).setCell hb _).setCell hb _).setCell hb _).setCell hb _
theorem step_store {P : Program} {ops : Array Oper} {op : Oper} {a : Act} {w : World} {K : Act → World → Prop} {Q : Exit → Act → World → Prop} {E : Prop} (hgd : op.guard = none) (ty : TypeId) (x y : Operand) (ho : op.op = .store ty x y)
    (b o : Nat) (cells : Array Value) (hx : a.eval x = .pointer (some ⟨b, o, none⟩)) (hy : a.eval y = .agg cells) (ht : w.there b o cells.size) (hi : (P.info? ty).map (·.size) = some cells.size) (h1 : cells.all (·.oneCell') = true)
    (h : K (a.put op.dst undef) (w.setCells b o cells.toList)) : if Region.wanted op (yielded ops a.tmps) = true then Oper.wp P op a w K Q else E := by
  rw [if_pos (by simp [Region.wanted, hgd])]
  exact wp_store_mid ty x y ho b o cells hx hy ht hi h1 h
theorem chg_set {g : Nat} {w u : World} {o : Nat} {v : Value} (h : Chg (· = g) w u) : Chg (· = g) w (u.setCell ⟨g, o, none⟩ v) :=
  ⟨by simpa [World.setCell] using h.os, by simpa [World.setCell] using h.tape, by simpa [World.setCell] using h.output, by simpa [World.setCell] using h.size, fun k hk hf => (Below.heap_setCell _ _ _ _ hf).trans (h.block k hk hf)⟩
theorem chg_fresh {F : Nat → Prop} {w u : World} {p : Addr} {v : Value} (h : Chg F w u) (hp : w.heap.size ≤ p.block) : Chg F w (u.setCell p v) :=
  ⟨by simpa [World.setCell] using h.os, by simpa [World.setCell] using h.tape, by simpa [World.setCell] using h.output, by simpa [World.setCell] using h.size, fun k hk hf => (Below.heap_setCell _ _ _ _ (by omega)).trans (h.block k hk hf)⟩
/-- what a comparison comes to -/
def CmpOut (w : World) (g A c : Nat) (T : List Tok) (a : Int) (R k : Int) (s : ByteArray) (n : Int) (B : Option Addr) (l cc : Nat) (F : Rs Tm) (e : Ending) (w' : World) : Prop := Chg (· = g) w w' ∧
  match F with
  | .ok (u, m) => ∃ A' c', e = .returned (.tuple #[.agg #[.int .i64 R, .int .i64 k, .string s, .int .i64 n, .slice B l cc, .int .i64 u.kind, .string u.name, .int .i64 u.n, .slice A' u.args.length c'], .bool true]) ∧ TmIn w' (New w w') u A' c' ∧ PgAt w' g A c T m 0 a ((0 : Nat) : Int)
  | .error (q, x) => x ≠ 0 ∧ (∃ k' s' n' A' l' c', e = .returned (.tuple #[.agg #[.int .i64 R, .int .i64 k, .string s, .int .i64 n, .slice B l cc, .int .i64 k', .string s', .int .i64 n', .slice A' l' c'], .bool true])) ∧ ∃ i' d', PgAt w' g A c T i' x q d'
set_option maxRecDepth 100000 in
set_option maxHeartbeats 40000000 in
theorem cmp_yes {w : World} {g A c : Nat} {T : List Tok} (hG : ToksG T) {i : Nat} {a : Int} {k n : Int} {s : ByteArray} {B : Option Addr} {l cc : Nat} (h : PgAt w g A c T i 0 a ((0 : Nat) : Int)) (ho : isOp (rl T i) = true) :
    Calls Tryz.prog 43 #[.pointer (some ⟨g, 0, none⟩), .agg #[.int .i64 k, .string s, .int .i64 n, .slice B l cc]] w (CmpOut w g A c T a ((rl T i : Nat) - 14) k s n B l cc (termP T 100 (i + 1))) := by
  have hgl := h.lt
  have hlo := h.low
  have hi1 : i + 1 < T.length := hG.ends.2 i (by unfold isOp at ho; simp only [Bool.and_eq_true, decide_eq_true_eq] at ho; omega)
  obtain ⟨wt, hwt⟩ : ∃ wt, wt = w.alloc (.cells #[.int .i64 k, .string s, .int .i64 n, .slice B l cc] 58) := ⟨_, rfl⟩
  have hst : wt.heap.size = w.heap.size + 1 := by rw [hwt]; simp
  obtain ⟨w0, hw0⟩ : ∃ w0, w0 = wt.alloc (.cells #[.int .i64 0, .int .i64 0, .string ⟨#[]⟩, .int .i64 0, .slice none 0 0, .int .i64 0, .string ⟨#[]⟩, .int .i64 0, .slice none 0 0] 95) := ⟨_, rfl⟩
  have hr0 : Box9 w0 (w.heap.size + 1) zeroG := by rw [hw0, ← hst]; exact Box9.new wt _ _ rfl
  have hxt : Ext wt w0 := by rw [hw0]; exact (Ext.refl _).alloc _
  have ht0 : Box4 w0 w.heap.size (.int .i64 k) (.string s) (.int .i64 n) (.slice B l cc) := by
    have : Box4 wt w.heap.size (.int .i64 k) (.string s) (.int .i64 n) (.slice B l cc) := by rw [hwt]; exact Box4.new w _ _ _ _ _
    exact this.ext hxt
  have hx0 : Ext w w0 := by rw [hw0, hwt]; exact ((Ext.refl _).alloc _).alloc _
  have h0 := h.ext hx0
  have c2 := h0.c2
  have q3 := fld0
  have q4 := fld1
  have HW0 := Lib.hid (And.intro hw0 hwt)
  have il := h.il
  have hrl := hr0.lt
  have KN := Lib.hid (now_pg h0)
  have KR := fun R (hR : OpIs (tk T i).text R) => (op_role hG il hR).1 ho
  have hw1 : IntKind.i64.wrap ((i : Int) + 1) = (i : Int) + 1 := by have := h.len; rw [IntKind.wrap_i64]; omega
  obtain ⟨RR, hRR⟩ : ∃ RR : Int, RR = (rl T i : Nat) - 14 := ⟨_, rfl⟩
  rw [← hRR]
  have HRR := Lib.hid hRR
  have KO := Lib.hid (fun (u : World) => (op_any (tk T i).text u).mono (R' := fun e u' => e = .returned (.int .i64 RR) ∧ Ext u u') fun e u' ⟨R, he, hR, hx⟩ => ⟨by rw [he, (KR R hR).2.1, hRR], hx⟩)
  obtain ⟨R0, hR0⟩ : ∃ R, OpIs (tk T i).text R := by
    by_cases hz : ∃ k, k < 4 ∧ opT k = (tk T i).text
    · obtain ⟨k, h1, h2⟩ := hz; exact ⟨_, .inr ⟨k, h1, h2, rfl⟩⟩
    · exact ⟨0, .inl ⟨rfl, fun k h1 h2 => hz ⟨k, h1, h2⟩⟩⟩
  have hk4 := (KR R0 hR0).1
  have q6 : (RR == 0) = false := by have h1 := (KR R0 hR0).2; rw [h1.1] at h1; rw [hRR]; simpa using h1.2
  clear KR
  have q5 : ((tk T i).kind != 4) = false := by simp [hk4]
  have HHG := Lib.hid hG
  clear hw0 hwt h ho hG hRR hR0
  go_enter Tryz.func43, Tryz.ntmps43
  go_upto_region 1 with (fail)
  rw [← HW0.out.2, ← HW0.out.1]
  go_wp2_with fail
  refine KN.out.mono ?_
  rintro e w1 ⟨rfl, hx1⟩
  have KN2 := Lib.hid (now_pg (h0.ext hx1))
  have c2' := (h0.ext hx1).c2
  clear KN
  go_wp2_with fail
  refine KN2.out.mono ?_
  rintro e w2 ⟨rfl, hx2⟩
  have K2 := Lib.hid (KO.out w2)
  clear KN2
  go_wp2_with fail
  refine K2.out.mono ?_
  rintro e w3 ⟨rfl, hx3⟩
  have hx03 := (hx1.trans hx2).trans hx3
  have h3 := h0.ext hx03
  have hr3 := hr0.ext hx03
  have ht3 := ht0.ext hx03
  have hxw3 := hx0.trans hx03
  have HT := Lib.hid ht3
  have hrl3 := hr3.lt
  clear K2 hx1 hx2 hx3 c2 c2' hx03 h0 hr0 ht0 hx0
  go_upto_region 3 with (fail)
  go_cut [6] (fun p6 wx => ∃ gb : Nat, p6 = .pointer (some ⟨gb, 0, none⟩) ∧ Hid (w3.heap.size ≤ gb ∧ Box9 wx gb [.int .i64 RR, .int .i64 k, .string s, .int .i64 n, .slice B l cc, .int .i64 0, .string ⟨#[]⟩, .int .i64 0, .slice none 0 0]) ∧ Ext w3 wx)
  case first =>
    · skip
      obtain ⟨n0, n1, n2, n3, _, _, _, _⟩ := HT.out
      have rulesI := fun (u : World) (k : Ext w3 u) => And.intro (k.cell n0) (And.intro (k.cell n1) (And.intro (k.cell n2) (k.cell n3)))
      have hI0 := Ext.refl w3
      have PA := Lib.hid (fun u (hu : Ext w3 u) => (now_pg (h3.ext hu)).mono (R' := fun e u' => e = .returned (.agg #[.int .i64 (tk T i).kind, .string (tk T i).text, .int .i64 (tk T i).n, .int .i64 (tk T i).at_]) ∧ Ext w3 u') fun e u' ⟨he, hx⟩ => ⟨he, hu.trans hx⟩)
      have hZ1 : Box9 (w3.drew.alloc (.cells #[.int .i64 0, .int .i64 0, .string ⟨#[]⟩, .int .i64 0, .slice none 0 0, .int .i64 0, .string ⟨#[]⟩, .int .i64 0, .slice none 0 0] 95)) w3.heap.size zeroG := Box9.new w3.drew _ _ rfl
      have hZ2 : Box9 ((w3.alloc (.cells #[.int .i64 0, .int .i64 0, .string ⟨#[]⟩, .int .i64 0, .slice none 0 0, .int .i64 0, .string ⟨#[]⟩, .int .i64 0, .slice none 0 0] 95)).drew) w3.heap.size zeroG := (Box9.new w3 _ _ rfl).ext (Ext.refl _).drew
      have PB1 := Lib.hid ((now_pg (h3.ext (Ext.alloc hI0.drew (.cells #[.int .i64 0, .int .i64 0, .string ⟨#[]⟩, .int .i64 0, .slice none 0 0, .int .i64 0, .string ⟨#[]⟩, .int .i64 0, .slice none 0 0] 95)))).mono (R' := fun e u' => e = .returned (.agg #[.int .i64 (tk T i).kind, .string (tk T i).text, .int .i64 (tk T i).n, .int .i64 (tk T i).at_]) ∧ Ext w3 u' ∧ Box9 u' w3.heap.size zeroG) fun e u' ⟨he, hx⟩ => ⟨he, (Ext.alloc hI0.drew _).trans hx, hZ1.ext hx⟩)
      have PB2 := Lib.hid ((now_pg (h3.ext (Ext.alloc hI0 (.cells #[.int .i64 0, .int .i64 0, .string ⟨#[]⟩, .int .i64 0, .slice none 0 0, .int .i64 0, .string ⟨#[]⟩, .int .i64 0, .slice none 0 0] 95)).drew)).mono (R' := fun e u' => e = .returned (.agg #[.int .i64 (tk T i).kind, .string (tk T i).text, .int .i64 (tk T i).n, .int .i64 (tk T i).at_]) ∧ Ext w3 u' ∧ Box9 u' w3.heap.size zeroG) fun e u' ⟨he, hx⟩ => ⟨he, (Ext.alloc hI0 _).drew.trans hx, hZ2.ext hx⟩)
      have RA := Lib.hid (fun u (hu : Ext w3 u) => (KO.out u).mono (R' := fun e u' => e = .returned (.int .i64 RR) ∧ Ext w3 u') fun e u' ⟨he, hx⟩ => ⟨he, hu.trans hx⟩)
      have RB1 := Lib.hid (fun u (hu : Ext w3 u) (hb : Box9 u w3.heap.size zeroG) => (KO.out u).mono (R' := fun e u' => e = .returned (.int .i64 RR) ∧ Ext w3 u' ∧ Box9 u' w3.heap.size zeroG) fun e u' ⟨he, hx⟩ => ⟨he, hu.trans hx, hb.ext hx⟩)
      have RB2 := Lib.hid (fun u (hu : Ext w3 u) => (KO.out (u.alloc (.cells #[.int .i64 0, .int .i64 0, .string ⟨#[]⟩, .int .i64 0, .slice none 0 0, .int .i64 0, .string ⟨#[]⟩, .int .i64 0, .slice none 0 0] 95))).mono (R' := fun e u' => e = .returned (.int .i64 RR) ∧ Ext w3 u' ∧ Box9 u' u.heap.size zeroG) fun e u' ⟨he, hx⟩ => ⟨he, (Ext.alloc hu _).trans hx, (Box9.new u _ _ rfl).ext hx⟩)
      clear hZ1 hZ2
      have hl3 : w.heap.size < w3.heap.size := by omega
      have d0 : w3.drew.cell? ⟨w.heap.size, 0, none⟩ = some (.int .i64 k) := n0
      have d1 : w3.drew.cell? ⟨w.heap.size, 1, none⟩ = some (.string s) := n1
      have d2 : w3.drew.cell? ⟨w.heap.size, 2, none⟩ = some (.int .i64 n) := n2
      have d3 : w3.drew.cell? ⟨w.heap.size, 3, none⟩ = some (.slice B l cc) := n3
      clear h3 hr3 ht3 HT KO hxw3 hxt hst hrl hgl hlo
      go_region_law
        (first
          | (go_simp; go_at_call 18; (with_reducible refine PB1.out.mono ?_); rintro e3 w4 ⟨rfl, hS4, hAl⟩; have hs4 := Below.size hS4; have hR4 := rulesI _ hS4; have hl4 : w.heap.size < w4.heap.size := by omega)
          | (go_simp; go_at_call 18; (with_reducible refine PB2.out.mono ?_); rintro e3 w4 ⟨rfl, hS4, hAl⟩; have hs4 := Below.size hS4; have hR4 := rulesI _ hS4; have hl4 : w.heap.size < w4.heap.size := by omega)
          | (go_simp; go_at_call 18; (with_reducible refine (PA.out _ ?_).mono ?_); (first | (with_reducible exact hI0.drew) | (with_reducible exact hI0)); rintro e3 w4 ⟨rfl, hS4⟩; have hs4 := Below.size hS4; have hR4 := rulesI _ hS4; have hl4 : w.heap.size < w4.heap.size := by omega)
          | (go_simp; go_at_call 66; (with_reducible refine (RB1.out _ hS4 hAl).mono ?_); rintro e5 w5 ⟨rfl, hS5, hB5⟩; obtain ⟨y0, y1, y2, y3, y4, y5, y6, y7, y8⟩ := hB5.get; obtain ⟨z0, z1, z2, z3, z4, z5, z6, z7, z8⟩ := hB5.fzs; have hR5 := rulesI _ hS5; have hs5 := Below.size hS5; have hl5 : w.heap.size < w5.heap.size := by omega)
          | (go_simp; go_at_call 66; (with_reducible refine (RB2.out _ hS4).mono ?_); rintro e5 w5 ⟨rfl, hS5, hB5⟩; obtain ⟨y0, y1, y2, y3, y4, y5, y6, y7, y8⟩ := hB5.get; obtain ⟨z0, z1, z2, z3, z4, z5, z6, z7, z8⟩ := hB5.fzs; have hR5 := rulesI _ hS5; have hs5 := Below.size hS5; have hl5 : w.heap.size < w5.heap.size := by omega)
          | (go_simp; go_at_call 66; (with_reducible refine (RA.out _ hS4).mono ?_); rintro e5 w5 ⟨rfl, hS5⟩; have hR5 := rulesI _ hS5; have hs5 := Below.size hS5; have hl5 : w.heap.size < w5.heap.size := by omega))
      all_goals
        clear n0 n1 n2 n3 d0 d1 d2 d3 rulesI PA PB1 PB2 RA RB1 RB2
        (try clear y0 y1 y2 y3 y4 y5 y6 y7 y8 z0 z1 z2 z3 z4 z5 z6 z7 z8)
        go_wp2_with fail
        go_meet
        first
          | exact ⟨_, rfl, Lib.hid ⟨(by first | exact Nat.le_refl _ | exact hs4), hB5.set [.int .i64 RR, .int .i64 k, .string s, .int .i64 n, .slice B l cc, .int .i64 0, .string ⟨#[]⟩, .int .i64 0, .slice none 0 0] rfl⟩, ext9 hS5 (by first | exact Nat.le_refl _ | exact hs4) _ _ _ _ _ _ _ _ _⟩
          | exact ⟨_, rfl, Lib.hid ⟨Below.size hS5, Box9.new w5 #[.int .i64 RR, .int .i64 k, .string s, .int .i64 n, .slice B l cc, .int .i64 0, .string ⟨#[]⟩, .int .i64 0, .slice none 0 0] 95 rfl⟩, hS5.alloc _⟩
  case rest =>
    · skip
      obtain ⟨gb, rfl, HGB, hxg⟩ := hcut
      obtain ⟨wx, rfl⟩ : ∃ wx : World, wx = wc := ⟨_, rfl⟩
      have hgb := HGB.out.1
      have hB := HGB.out.2
      have hgbl := hB.lt
      have hPx := h3.ext hxg
      have c1 := hPx.c1
      have f1 := hPx.fr 1 (by omega)
      have hne : gb ≠ g := by have := hxw3.size; omega
      obtain ⟨w4, hw4⟩ : ∃ w4, w4 = wx.setCell ⟨g, 1, none⟩ (.int .i64 ((i + 1 : Nat) : Int)) := ⟨_, rfl⟩
      have hP4 : PgAt w4 g A c T (i + 1) 0 a ((0 : Nat) : Int) := by rw [hw4]; exact hPx.to (i + 1) hi1
      have hC4 : Chg (· = g) wx w4 := by rw [hw4]; exact chg_set (Chg.refl _ _)
      have HW4 : Hid (wx.setCell ⟨g, 1, none⟩ (.int .i64 ((i : Int) + 1)) = w4) := Lib.hid (by rw [hw4]; rfl)
      have hB4 := hB.chg hC4 hne
      have hr4 := (hr3.ext hxg).chg hC4 (by omega)
      have hl4 : w3.heap.size ≤ w4.heap.size := Nat.le_trans hxg.size hC4.size
      have KP := Lib.hid (pterm_any HHG.out (k := 100) (by omega) (b := 0) (by omega) hP4)
      have hCw4 : Chg (· = g) w w4 := (Chg.of_ext (hxw3.trans hxg)).trans hC4
      clear hw4 hB hPx HGB h3 hr3 ht3 HT HHG KO hxg
      go_upto_region 5 with (fail)
      rw [HW4.out]
      go_wp2_with fail
      refine KP.out.mono ?_
      intro e w5 hout
      have HO := Lib.hid hout
      obtain ⟨k', s', n', A', l', c', rfl⟩ := hout.val
      have hB5 := hB4.chg hout.1 hne
      have hr5 := hr4.chg hout.1 (by omega)
      have hs5 := hout.1.size
      have hgb4 : gb < w4.heap.size := Nat.lt_of_lt_of_le hgbl hC4.size
      obtain ⟨x0, x1, x2, x3, x4, x5, x6, x7, x8⟩ := hB5.get
      obtain ⟨v0, v1, v2, v3, v4, v5, v6, v7, v8⟩ := hB5.fzs
      obtain ⟨w6, hw6⟩ : ∃ w6, w6 = (((w5.setCell ⟨gb, 5, none⟩ (.int .i64 k')).setCell ⟨gb, 6, none⟩ (.string s')).setCell ⟨gb, 7, none⟩ (.int .i64 n')).setCell ⟨gb, 8, none⟩ (.slice A' l' c') := ⟨_, rfl⟩
      have hB6 : Box9 w6 gb [.int .i64 RR, .int .i64 k, .string s, .int .i64 n, .slice B l cc, .int .i64 k', .string s', .int .i64 n', .slice A' l' c'] := by
        rw [hw6]; exact (((hB5.set1 5 (.int .i64 k') (by omega)).set1 6 (.string s') (by omega)).set1 7 (.int .i64 n') (by omega)).set1 8 (.slice A' l' c') (by omega)
      have hC6 : Chg (· = gb) w5 w6 := by rw [hw6]; exact chg_set (chg_set (chg_set (chg_set (Chg.refl _ _))))
      have hr6 := hr5.chg hC6 (by omega)
      have HW6 := Lib.hid hw6
      have HC6 := Lib.hid hC6
      clear hout hB4 hr4 hB5 hr5 KP c1 f1 hw6 hC6
      go_upto_region 6 with (fail)
      rw [← HW6.out]
      clear x0 x1 x2 x3 x4 x5 x6 x7 x8 v0 v1 v2 v3 v4 v5 v6 v7 v8
      obtain ⟨cs, hcs⟩ : ∃ cs : List Value, cs = [.int .i64 RR, .int .i64 k, .string s, .int .i64 n, .slice B l cc, .int .i64 k', .string s', .int .i64 n', .slice A' l' c'] := ⟨_, rfl⟩
      have h9 : cs.length = 9 := by rw [hcs]; rfl
      have h1' : ∀ v ∈ cs, v.oneCell' = true := by
        rw [hcs]; intro v hv
        simp only [List.mem_cons, List.not_mem_nil, or_false] at hv
        rcases hv with rfl | rfl | rfl | rfl | rfl | rfl | rfl | rfl | rfl <;> rfl
      have h1 : cs.toArray.all (·.oneCell') = true := by simpa using h1'
      rw [← hcs] at hB6
      have HCS := Lib.hid hcs
      have hi : (Tryz.prog.info? 95).map (·.size) = some cs.length := by rw [h9]; kernel_rfl
      have hi' : (Tryz.prog.info? 95).map (·.size) = some cs.toArray.size := by simpa using hi
      have hth : w6.there (w.heap.size + 1) 0 cs.toArray.size := by have := hr6.thr; simpa [h9] using this
      have hrg := hB6.range
      have hrs : (w6.setCells (w.heap.size + 1) 0 cs).rangeAt (w.heap.size + 1) 0 cs := World.rangeAt_setCells_same _ _ _ _ (by simpa using hth)
      have hres := run_loadVar_mid (P := Tryz.prog) _ (w.heap.size + 1) 0 95 cs _ hrs Tryz.underlying95 rfl hi
      have HR6 := Lib.hid (And.intro hr6 hB6)
      clear hr6 hB6 hrs HW4 HW6 h9 hcs
      go_wp2_with (first
        | (refine wpList_load_mid (op := ⟨some 42, _, _, _, _, _⟩) rfl 95 (.tmp 6) rfl gb 0 rfl cs _ hrg Tryz.underlying95 rfl hi ?_)
        | (refine wpList_store_mid (op := ⟨none, _, _, _, _, _⟩) rfl 95 (.tmp 4) (.tmp 42) rfl (w.heap.size + 1) 0 cs.toArray rfl rfl hth hi' h1 ?_))
      refine bodyPost_ret (v := .tuple #[.agg cs.toArray, .bool true]) (by simp [results, Tryz.results43, asAddr, hres]) rfl ?_
      obtain ⟨wf, hwf⟩ : ∃ wf, wf = w6.setCells (w.heap.size + 1) 0 cs := ⟨_, rfl⟩
      have hCf : Chg (· = w.heap.size + 1) w6 wf := by rw [hwf]; exact setCells_chg w6 _ cs 0 w6 (Chg.refl _ _)
      rw [← hwf]
      have hCw5 := hCw4.trans HO.out.1
      have hCw6 : Chg (· = g) w w6 := chg_new hCw5 (HC6.out.weak fun x hx => .inr hx) (by omega)
      have hCwf : Chg (· = g) w wf := chg_new hCw6 (hCf.weak fun x hx => .inr hx) (by omega)
      have hbl : ∀ x, x ≠ gb → x ≠ w.heap.size + 1 → x < w5.heap.size → wf.heap[x]? = w5.heap[x]? := fun x h1 h2 h3 =>
        (hCf.block x (Nat.lt_of_lt_of_le h3 HC6.out.size) h2).trans (HC6.out.block x h3 h1)
      have hszf : w5.heap.size ≤ wf.heap.size := Nat.le_trans HC6.out.size hCf.size
      have hPk : ∀ {i' : Nat} {x q d' : Int}, PgAt w5 g A c T i' x q d' → PgAt wf g A c T i' x q d' := fun hp => hp.keep fun x hx hxe => hbl x (by rcases hxe with e | e <;> omega) (by rcases hxe with e | e <;> omega) hx
      have hO := HO.out
      obtain ⟨F, hF⟩ : ∃ F, F = termP T 100 (i + 1) := ⟨_, rfl⟩
      rw [← hF] at hO ⊢
      match F, hO with
      | .ok (u, m), ⟨_, A2, c2, he, hT, hP⟩ =>
        have he' := he
        simp only [Ending.returned.injEq, Tm.val, Value.agg.injEq, Array.mk.injEq, List.cons.injEq, Value.int.injEq, Value.string.injEq, true_and, and_true] at he'
        obtain ⟨e1, e2, e3, e4⟩ := he'
        refine ⟨hCwf, A2, c2, by rw [HCS.out, e1, e2, e3, e4], hT.keep fun b hb _ => ⟨hbl b (by have := hb.1; omega) (by have := hb.1; omega) hb.2, by have := hb.1; omega, by have := hb.2; omega⟩, hPk hP⟩
      | .error (q, x), ⟨_, hx0, _, i', d', hP⟩ =>
        exact ⟨hCwf, hx0, ⟨k', s', n', A', l', c', by rw [HCS.out]⟩, i', d', hPk hP⟩
end Go.Proofs.YtbjghkmjnhmlfaaGreatDoor
