/- Package read: guard. -/
import Derived.Test.YtbjghkmjnhmlfaaGreatDoorPgh
import Derived.Test.YtbjghkmjnhmlfaaGreatDoorYD
import Derived.BigQuiet
namespace Go.Proofs.YtbjghkmjnhmlfaaGreatDoor
open Go.RowKit

set_option maxRecDepth 100000 in
set_option maxHeartbeats 1000000 in
theorem place_dn {w : World} {g : Nat} {K : RdP} {T : List Tok} {i b : Nat} (h : RdAt w g K T i b) (hi : i < T.length) :
    Calls Tryz.prog 53 #[.pointer (some ⟨g, 0, none⟩)] w fun e w' => e = .returned (.int .i64 (tk T i).at_) ∧ ∃ m, w' = w.drewN m := by
  have h0 := h.c0
  have h2 := h.c2
  obtain ⟨_, _, _, a3⟩ := h.tok hi
  have i0 : (0 : Int) ≤ (i : Int) := Int.natCast_nonneg _
  have i1 : (i : Int) < (T.length : Int) := by omega
  go_enter Tryz.func53, Tryz.ntmps53
  go_wp2_with fail
  go_quiet (fail)
  go_wp2_with fail
  go_ret
  exact ⟨rfl, _, rfl⟩
theorem place_be {w : World} {g : Nat} {K : RdP} {T : List Tok} {i b : Nat} (h : RdAt w g K T i b) (hi : i < T.length) (n : Nat) :
    Calls Tryz.prog 53 #[.pointer (some ⟨g, 0, none⟩)] (w.drewN n) fun e w' => e = .returned (.int .i64 (tk T i).at_) ∧ ∃ m, w' = w.drewN m :=
  (place_dn (h.ext ((Ext.refl _).drewN n)) hi).mono fun _ _ ⟨e, m, k⟩ => ⟨e, n + m, k.trans (drewN_add _ _ _)⟩
theorem mask_bel (r : Nat) (h : r < 38) : Nat.testBit 1572864 r = decide (r = 19 ∨ r = 20) := by
  have : ∀ r : Fin 38, Nat.testBit 1572864 r.1 = decide (r.1 = 19 ∨ r.1 = 20) := by decide
  exact this ⟨r, h⟩
theorem guardP_no {T : List Tok} {gs : List Gd} {i : Nat} (h : ¬ ((rl T i = 19 ∨ rl T i = 20) ∧ isName (rl T (i + 1)) = true)) : guardP T gs i = match termP T 100 i with
    | .error e => .error e
    | .ok (t, j) => opTg T gs t i j := by
  unfold guardP
  rw [if_neg h]
  cases termP T 100 i with
  | error e => rfl
  | ok x => obtain ⟨t, j⟩ := x; rfl
theorem guardP_yes {T : List Tok} {gs : List Gd} {i : Nat} (h : (rl T i = 19 ∨ rl T i = 20) ∧ isName (rl T (i + 1)) = true) : guardP T gs i = match termP T 100 (i + 1) with
    | .error e => .error e
    | .ok (t, j) => if gs.length = 4 then .error (lim T i) else .ok (gs ++ [⟨(rl T i : Nat) - 14, t, noTm⟩], j) := by
  unfold guardP
  rw [if_pos h]
  cases termP T 100 (i + 1) with
  | error e => rfl
  | ok x => obtain ⟨t, j⟩ := x; rfl
theorem gds_back {w w' w'' : World} {g p o : Nat} {K : RdP} {T : List Tok} {B : Nat} {v : Value} {D : Nat → Prop} {F : Rs (List Gd)} {e : Ending} (h : GdsOut w' g p o K T B v D F e w'') (k : Chg (· = g) w w') (hp : p < w.heap.size) (hpg : p ≠ g) : GdsOut w g p o K T B v D F e w'' := by
  obtain ⟨h1, h2, h3⟩ := h
  refine ⟨(k.weak fun _ e => .inl e).trans h1, (Beside.chg k hp hpg).trans h2, ?_⟩
  match F, h3 with
  | .error (a, x), h3 => exact h3
  | .ok (gs, j), ⟨he, hR, v', xs', hm, hS, hG⟩ => exact ⟨he, hR, v', xs', hm, hS, Grown.back hG k.size⟩
theorem gds_bool {w w' : World} {g p o : Nat} {K : RdP} {T : List Tok} {B : Nat} {v : Value} {D : Nat → Prop} {F : Rs (List Gd)} {e : Ending} (h : GdsOut w g p o K T B v D F e w') : ∃ bb, e = .returned (.bool bb) := by
  obtain ⟨_, _, h3⟩ := h
  match F, h3 with
  | .error (a, x), h3 => exact ⟨_, h3.1⟩
  | .ok (gs, j), h3 => exact ⟨_, h3.1⟩
set_option maxRecDepth 100000 in
set_option maxHeartbeats 4000000 in
theorem guard_rd {w : World} {g p o : Nat} {K : RdP} {T : List Tok} {i B : Nat} {v : Value} {xs : List GLain} {D : Nat → Prop} (hT : EndLast T) (h : RdAt w g K T i 0) (hbo : BitOk w g) (hi : i < T.length) (hpg : p ≠ g) (hpA : p ≠ K.A) (hpR : p ≠ K.R)
    (hlo : g < B ∧ K.A < B ∧ K.R < B) (hS : Slot SG B w p o v xs D) (hx : xs.length ≤ 4) (hD : ∀ b, D b → b < w.heap.size) :
    Calls Tryz.prog 101 #[.pointer (some ⟨g, 0, none⟩), .pointer (some ⟨p, o, none⟩)] w (GdsOut w g p o K T B v D (guardP T (xs.map (·.1)) i)) := by
  have hgl := h.lt
  have hpl := World.block_lt_of_cell? w _ hS.cell
  simp only at hpl
  obtain ⟨SA, sc, rfl, _⟩ := src_own hS.inv.own
  have hB := hS.inv.size
  have hv : ∀ q, (Value.slice SA xs.length sc).ownBlock = some q → B ≤ q ∧ q < w.heap.size := hS.inv.lt
  have hl38 := rl_lt T i
  have r0 := h.roles i hi
  have r1 := h.c1
  have r2 := h.c2
  have i0 : (0 : Int) ≤ (i : Int) := Int.natCast_nonneg _
  have i1 : (i : Int) < (T.length : Int) := by omega
  obtain ⟨rr, hrr⟩ : ∃ rr, rr = rl T i := ⟨_, rfl⟩
  rw [← hrr] at r0 hl38
  have HRR := Lib.hid hrr
  obtain ⟨F, hF⟩ : ∃ F, F = guardP T (xs.map (·.1)) i := ⟨_, rfl⟩
  rw [← hF]
  have HF := Lib.hid hF
  have KP := fun n => Lib.hid (place_be h hi n)
  obtain ⟨fa, hfa⟩ : ∃ fa, fa = (tk T i).at_ := ⟨_, rfl⟩
  rw [← hfa] at KP
  have HFA := Lib.hid hfa
  have HBO := Lib.hid hbo
  have HH := Lib.hid h
  have HS := Lib.hid (And.intro hS hD)
  clear hF hfa h hbo hrr hS hD
  go_enter Tryz.func101, Tryz.ntmps101
  go_upto_region 1 with (fail)
  go_quiet ((go_at_call 53; exact (KP _).out))
  generalize hwq : w.drewN nq = wq
  have hxq : Ext w wq := by rw [← hwq]; exact (Ext.refl _).drewN _
  have hRq := HH.out.ext hxq
  clear hwq r0 r1 r2 HH KP
  by_cases hb1 : rl T i = 19 ∨ rl T i = 20
  · have KS := Lib.hid (sees_rd 1572864 (by omega) hRq hi)
    rw [mask_bel _ (rl_lt T i), decide_eq_true hb1] at KS
    have hi1 : i + 1 < T.length := hT.2 i (by omega)
    go_wp2_with fail
    refine KS.out.mono ?_
    rintro e w1 ⟨rfl, hx1⟩
    have hx1w := hxq.trans hx1
    have hR1 := hRq.ext hx1
    have KH := Lib.hid (ahead_rd 274877382664 (by omega) hR1 hi1)
    rw [mask_name _ (rl_lt T (i + 1))] at KH
    clear hxq hx1 hRq KS
    by_cases hnm : isName (rl T (i + 1)) = true
    · rw [hnm] at KH
      have hbel : (rl T i = 19 ∨ rl T i = 20) ∧ isName (rl T (i + 1)) = true := ⟨hb1, hnm⟩
      go_wp2_with fail
      refine KH.out.mono ?_
      rintro e wS ⟨rfl, hxS1⟩
      have hxS := hx1w.trans hxS1
      have hRS := hR1.ext hxS1
      have c2 := hRS.c2
      have f2 := hRS.fr 2 (by omega)
      have hlen := hRS.len
      have hw1 : IntKind.i64.wrap ((i : Int) + 1) = (i : Int) + 1 := by rw [IntKind.wrap_i64]; omega
      have hRt := hRS.to (i + 1)
      obtain ⟨wt, hwt⟩ : ∃ wt, wt = wS.setCell ⟨g, 2, none⟩ (.int .i64 ((i + 1 : Nat) : Int)) := ⟨_, rfl⟩
      rw [← hwt] at hRt
      have hCt : Chg (· = g) w wt := by rw [hwt]; exact (Chg.of_ext hxS).setg _ _
      have HWT := Lib.hid hwt
      have KT := Lib.hid (term_any T hT 100 wt g K (i + 1) 0 (by omega) hRt hi1)
      clear hwt hRt hRS hR1 hxS hxS1 hx1w KH hlen
      go_upto_region 5 with (fail)
      rw [show wS.setCell ⟨g, 2, none⟩ (.int .i64 ((i : Int) + 1)) = wt by rw [HWT.out]; rfl]
      clear c2 f2
      go_wp2_with fail
      refine KT.out.mono ?_
      rintro e w2 ⟨hC2, ho⟩
      have hC2w : Chg (· = g) w w2 := hCt.trans hC2
      match hpi : termP T 100 (i + 1) with
      | .error (a, x) =>
        rw [hpi] at ho
        have HFF : Hid (F = .error (a, x)) := Lib.hid (by rw [HF.out, guardP_yes hbel, hpi])
        obtain ⟨⟨k', sn, n', A', l, c', rfl⟩, hE⟩ := ho
        obtain ⟨w3, hw3⟩ : ∃ w3, w3 = w2.alloc (.cells #[.int .i64 k', .string sn, .int .i64 n', .slice A' l c'] 58) := ⟨_, rfl⟩
        have hx3 : Ext w2 w3 := by rw [hw3]; exact (Ext.refl _).alloc _
        have HW3 := Lib.hid hw3
        have HE := Lib.hid (hE.ext hx3)
        have hC3 := hC2w.trans (Chg.of_ext hx3)
        clear hw3 hE hx3 KT hpi hC2 hC2w hCt
        go_upto_region 6 with (fail)
        rw [← HW3.out]
        go_wp2_with fail
        go_ret
        rw [HFF.out]
        exact ⟨hC3.weak fun _ e => .inl e, Beside.chg hC3 hpl hpg, rfl, HE.out, SA, _, sc, hC3.cell HS.out.1.cell hpg⟩
      | .ok (t, j) =>
        rw [hpi] at ho
        obtain ⟨A2, c2, rfl, hIn, hR2⟩ := ho
        have hjj := termP_takes hT 100 _ _ _ hpi
        have HFF : Hid (F = if (xs.map (·.1)).length = 4 then .error (lim T i) else .ok (xs.map (·.1) ++ [⟨(rl T i : Nat) - 14, t, noTm⟩], j)) := Lib.hid (by rw [HF.out, guardP_yes hbel, hpi])
        obtain ⟨w3, hw3⟩ : ∃ w3, w3 = w2.alloc (.cells #[.int .i64 t.kind, .string t.name, .int .i64 t.n, .slice A2 t.args.length c2] 58) := ⟨_, rfl⟩
        have hx3 : Ext w2 w3 := by rw [hw3]; exact (Ext.refl _).alloc _
        have hb3 : Box4 w3 w2.heap.size (.int .i64 t.kind) (.string t.name) (.int .i64 t.n) (.slice A2 t.args.length c2) := by rw [hw3]; exact Box4.new w2 _ _ _ _ _
        have HW3 := Lib.hid hw3
        have hC3 := hC2w.trans (Chg.of_ext hx3)
        have hR3 := hR2.ext hx3
        have hs3 := hx3.size
        have hst := hCt.size
        have hs2 := hC2.size
        have hS3 := HS.out.1.keep hC3 (fun b e => by subst e; exact ⟨.inl hlo.1, fun e => hpg e.symm⟩)
        have hD3 : ∀ b, D b → b < w3.heap.size := fun b hb => by have := HS.out.2 b hb; omega
        have ht3 : TmIn w3 (fun b => (B ≤ b ∧ b < w3.heap.size) ∧ ¬ D b ∧ (Value.slice SA xs.length sc).ownBlock ≠ some b) t A2 c2 := hIn.keep fun b hb _ => ⟨hx3.block b hb.2, ⟨by have := hb.1; omega, by have := hb.2; omega⟩, fun hd => by have := HS.out.2 b hd; have := hb.1; omega, fun e => by have := (hv b e).2; have := hb.1; omega⟩
        have hxd : Ext w3 w3.drew := (Ext.refl _).drew
        have KA0 := (addG_rd (w := w3.drew) (y := ((⟨(rr : Int) - 14, t, noTm⟩ : Gd), (⟨A2, c2, none, 0⟩ : GdPl))) fa hx (hR3.ext hxd) (hS3.ext hxd) hpg hpA hpR hlo hD3 ⟨ht3.keep fun b hb _ => ⟨hxd.block b hb.1.2, hb⟩, noTm_in _ _ _⟩)
        have KA1 : Calls Tryz.prog 115 #[.pointer (some ⟨g, 0, none⟩), .pointer (some ⟨p, o, none⟩), .agg #[.int .i64 ((rr : Int) - 14), .int .i64 t.kind, .string t.name, .int .i64 t.n, .slice A2 t.args.length c2, .int .i64 0, .string ⟨#[]⟩, .int .i64 0, .slice none 0 0], .int .i64 4, .int .i64 fa] w3.drew (AddOut SG w3.drew g K T j 0 p o B (.slice SA xs.length sc) xs D ((⟨(rr : Int) - 14, t, noTm⟩ : Gd), (⟨A2, c2, none, 0⟩ : GdPl)) 4 fa) := KA0
        have KA := Lib.hid KA1
        have hbo3 := HBO.out.chg hC3
        have KK : Hid (∀ u, Ext w3 u → Calls Tryz.prog 116 #[.int .u64 (roleV rr)] u fun e w' => e = .returned (.int .i64 ((rr : Int) - 14)) ∧ w' = u) := Lib.hid (fun u hu => kindOf_rd rr hl38 (hbo3.ext hu).at_)
        have HC3 := Lib.hid hC3
        obtain ⟨b0, b1, b2, b3, _, _, _, _⟩ := hb3
        have d0 : w3.drew.cell? ⟨w2.heap.size, 0, none⟩ = some (.int .i64 t.kind) := b0
        have d1 : w3.drew.cell? ⟨w2.heap.size, 1, none⟩ = some (.string t.name) := b1
        have d2 : w3.drew.cell? ⟨w2.heap.size, 2, none⟩ = some (.int .i64 t.n) := b2
        have d3 : w3.drew.cell? ⟨w2.heap.size, 3, none⟩ = some (.slice A2 t.args.length c2) := b3
        clear hw3 hx3 KT hpi hC2 hC2w hCt hC3 hR3 hR2 hS3 hD3 ht3 hIn hbo3 hjj hxd KA0 KA1
        go_upto_region 8 with (fail)
        rw [← HW3.out]
        go_region_with (first | ((with_reducible refine (KK.out _ (Ext.refl _).drew).mono ?_); rintro e wx ⟨rfl, rfl⟩) | ((with_reducible refine KA.out.mono ?_); rintro e w4 hout; obtain ⟨bb, rfl⟩ := add_bool hout))
        all_goals
          have HO : Hid (GdsOut w g p o K T B (.slice SA xs.length sc) D F (.returned (.bool bb)) w4) := Lib.hid (by
            rw [HFF.out, List.length_map]
            have hC3d : Chg (· = g) w w3.drew := HC3.out.trans (Chg.of_ext (Ext.refl _).drew)
            unfold AddOut at hout
            by_cases h4 : xs.length = 4
            · rw [if_pos h4] at hout
              rw [if_pos h4]
              obtain ⟨he, hE4, hC4⟩ := hout
              rw [he]
              have hC5 := hC3d.trans hC4
              exact ⟨hC5.weak fun _ e => .inl e, Beside.chg hC5 hpl hpg, rfl, by rw [HFA.out] at hE4; exact hE4, SA, _, sc, hC5.cell HS.out.1.cell hpg⟩
            · rw [if_neg h4] at hout
              rw [if_neg h4]
              obtain ⟨he, hR4, ⟨v', hS4, hG4⟩, hC4, hB4⟩ := hout
              rw [he]
              refine ⟨(hC3d.weak fun _ e => .inl e).trans (hC4.weak fun _ e => .inr e), (Beside.chg hC3d hpl hpg).trans hB4, rfl, hR4, v', _, ?_, hS4, ?_⟩
              · rw [List.map_append, ← HRR.out]; rfl
              · exact Grown.back hG4 hC3d.size)
          clear hout KA KK HC3 b0 b1 b2 b3 d0 d1 d2 d3
          go_wp2_with fail
          go_ret
          exact HO.out
    · have hnf : isName (rl T (i + 1)) = false := Bool.eq_false_iff.2 hnm
      rw [hnf] at KH
      have hbel : ¬ ((rl T i = 19 ∨ rl T i = 20) ∧ isName (rl T (i + 1)) = true) := fun h => hnm h.2
      go_wp2_with fail
      refine KH.out.mono ?_
      rintro e wS ⟨rfl, hxS1⟩
      have hxS := hx1w.trans hxS1
      have hRS := hR1.ext hxS1
      clear hx1w hxS1 hR1 KH
      -- what stands ahead is a term
      have KT := Lib.hid (term_any T hT 100 wS g K i 0 (by omega) hRS hi)
      clear hRS
      go_wp2_with fail
      refine KT.out.mono ?_
      rintro e w2 ⟨hC2, ho⟩
      have hC2w : Chg (· = g) w w2 := (Chg.of_ext hxS).trans hC2
      match hpi : termP T 100 i with
      | .error (a, x) =>
        rw [hpi] at ho
        have HFF : Hid (F = .error (a, x)) := Lib.hid (by rw [HF.out, guardP_no hbel, hpi])
        obtain ⟨⟨k', sn, n', A', l, c', rfl⟩, hE⟩ := ho
        obtain ⟨w3, hw3⟩ : ∃ w3, w3 = w2.alloc (.cells #[.int .i64 k', .string sn, .int .i64 n', .slice A' l c'] 58) := ⟨_, rfl⟩
        have hx3 : Ext w2 w3 := by rw [hw3]; exact (Ext.refl _).alloc _
        have HW3 := Lib.hid hw3
        have HE := Lib.hid (hE.ext hx3)
        have hC3 := hC2w.trans (Chg.of_ext hx3)
        clear hw3 hE hx3 KT hpi hC2 hC2w hxS
        go_upto_region 6 with (fail)
        rw [← HW3.out]
        go_wp2_with fail
        go_ret
        rw [HFF.out]
        exact ⟨hC3.weak fun _ e => .inl e, Beside.chg hC3 hpl hpg, rfl, HE.out, SA, _, sc, hC3.cell HS.out.1.cell hpg⟩
      | .ok (t, j) =>
        rw [hpi] at ho
        obtain ⟨A2, c2, rfl, hIn, hR2⟩ := ho
        have hjj := termP_takes hT 100 _ _ _ hpi
        have HFF : Hid (F = opTg T (xs.map (·.1)) t i j) := Lib.hid (by rw [HF.out, guardP_no hbel, hpi])
        obtain ⟨w3, hw3⟩ : ∃ w3, w3 = w2.alloc (.cells #[.int .i64 t.kind, .string t.name, .int .i64 t.n, .slice A2 t.args.length c2] 58) := ⟨_, rfl⟩
        have hx3 : Ext w2 w3 := by rw [hw3]; exact (Ext.refl _).alloc _
        have hb3 : Box4 w3 w2.heap.size (.int .i64 t.kind) (.string t.name) (.int .i64 t.n) (.slice A2 t.args.length c2) := by rw [hw3]; exact Box4.new w2 _ _ _ _ _
        have HW3 := Lib.hid hw3
        have hC3 := hC2w.trans (Chg.of_ext hx3)
        have hR3 := hR2.ext hx3
        have hs3 := hx3.size
        have hsS := hxS.size
        have hs2 := hC2.size
        have hS3 := HS.out.1.keep hC3 (fun b e => by subst e; exact ⟨.inl hlo.1, fun e => hpg e.symm⟩)
        have hD3 : ∀ b, D b → b < w3.heap.size := fun b hb => by have := HS.out.2 b hb; omega
        have ht3 : TmIn w3 (fun b => (B ≤ b ∧ b < w3.heap.size) ∧ ¬ D b ∧ (Value.slice SA xs.length sc).ownBlock ≠ some b) t A2 c2 := hIn.keep fun b hb _ => ⟨hx3.block b hb.2, ⟨by have := hb.1; omega, by have := hb.2; omega⟩, fun hd => by have := HS.out.2 b hd; have := hb.1; omega, fun e => by have := (hv b e).2; have := hb.1; omega⟩
        have KC := Lib.hid (comparison_rd i hT hR3 (HBO.out.chg hC3) hjj.2 hpg hpA hpR hlo hS3 hx hD3 ht3)
        rw [← HFA.out, ← HFF.out] at KC
        have HC3 := Lib.hid hC3
        obtain ⟨b0, b1, b2, b3, _, _, _, _⟩ := hb3
        clear hw3 hx3 KT hpi hC2 hC2w hR3 hR2 hS3 hD3 ht3 hIn hxS hC3
        go_upto_region 6 with (fail)
        rw [← HW3.out]
        go_wp2_with fail
        refine KC.out.mono ?_
        rintro e w4 hout
        have HO := Lib.hid (gds_back hout HC3.out hpl hpg)
        obtain ⟨bb, rfl⟩ := gds_bool hout
        clear hout KC b0 b1 b2 b3
        go_wp2_with fail
        go_ret
        exact HO.out
  · have KS := Lib.hid (sees_rd 1572864 (by omega) hRq hi)
    rw [mask_bel _ (rl_lt T i), decide_eq_false hb1] at KS
    have hbel : ¬ ((rl T i = 19 ∨ rl T i = 20) ∧ isName (rl T (i + 1)) = true) := fun h => hb1 h.1
    go_wp2_with fail
    refine KS.out.mono ?_
    rintro e wS ⟨rfl, hxS1⟩
    have hxS := hxq.trans hxS1
    have hRS := hRq.ext hxS1
    clear hxq hxS1 hRq KS
    -- what stands ahead is a term
    have KT := Lib.hid (term_any T hT 100 wS g K i 0 (by omega) hRS hi)
    clear hRS
    go_wp2_with fail
    refine KT.out.mono ?_
    rintro e w2 ⟨hC2, ho⟩
    have hC2w : Chg (· = g) w w2 := (Chg.of_ext hxS).trans hC2
    match hpi : termP T 100 i with
    | .error (a, x) =>
      rw [hpi] at ho
      have HFF : Hid (F = .error (a, x)) := Lib.hid (by rw [HF.out, guardP_no hbel, hpi])
      obtain ⟨⟨k', sn, n', A', l, c', rfl⟩, hE⟩ := ho
      obtain ⟨w3, hw3⟩ : ∃ w3, w3 = w2.alloc (.cells #[.int .i64 k', .string sn, .int .i64 n', .slice A' l c'] 58) := ⟨_, rfl⟩
      have hx3 : Ext w2 w3 := by rw [hw3]; exact (Ext.refl _).alloc _
      have HW3 := Lib.hid hw3
      have HE := Lib.hid (hE.ext hx3)
      have hC3 := hC2w.trans (Chg.of_ext hx3)
      clear hw3 hE hx3 KT hpi hC2 hC2w hxS
      go_upto_region 6 with (fail)
      rw [← HW3.out]
      go_wp2_with fail
      go_ret
      rw [HFF.out]
      exact ⟨hC3.weak fun _ e => .inl e, Beside.chg hC3 hpl hpg, rfl, HE.out, SA, _, sc, hC3.cell HS.out.1.cell hpg⟩
    | .ok (t, j) =>
      rw [hpi] at ho
      obtain ⟨A2, c2, rfl, hIn, hR2⟩ := ho
      have hjj := termP_takes hT 100 _ _ _ hpi
      have HFF : Hid (F = opTg T (xs.map (·.1)) t i j) := Lib.hid (by rw [HF.out, guardP_no hbel, hpi])
      obtain ⟨w3, hw3⟩ : ∃ w3, w3 = w2.alloc (.cells #[.int .i64 t.kind, .string t.name, .int .i64 t.n, .slice A2 t.args.length c2] 58) := ⟨_, rfl⟩
      have hx3 : Ext w2 w3 := by rw [hw3]; exact (Ext.refl _).alloc _
      have hb3 : Box4 w3 w2.heap.size (.int .i64 t.kind) (.string t.name) (.int .i64 t.n) (.slice A2 t.args.length c2) := by rw [hw3]; exact Box4.new w2 _ _ _ _ _
      have HW3 := Lib.hid hw3
      have hC3 := hC2w.trans (Chg.of_ext hx3)
      have hR3 := hR2.ext hx3
      have hs3 := hx3.size
      have hsS := hxS.size
      have hs2 := hC2.size
      have hS3 := HS.out.1.keep hC3 (fun b e => by subst e; exact ⟨.inl hlo.1, fun e => hpg e.symm⟩)
      have hD3 : ∀ b, D b → b < w3.heap.size := fun b hb => by have := HS.out.2 b hb; omega
      have ht3 : TmIn w3 (fun b => (B ≤ b ∧ b < w3.heap.size) ∧ ¬ D b ∧ (Value.slice SA xs.length sc).ownBlock ≠ some b) t A2 c2 := hIn.keep fun b hb _ => ⟨hx3.block b hb.2, ⟨by have := hb.1; omega, by have := hb.2; omega⟩, fun hd => by have := HS.out.2 b hd; have := hb.1; omega, fun e => by have := (hv b e).2; have := hb.1; omega⟩
      have KC := Lib.hid (comparison_rd i hT hR3 (HBO.out.chg hC3) hjj.2 hpg hpA hpR hlo hS3 hx hD3 ht3)
      rw [← HFA.out, ← HFF.out] at KC
      have HC3 := Lib.hid hC3
      obtain ⟨b0, b1, b2, b3, _, _, _, _⟩ := hb3
      clear hw3 hx3 KT hpi hC2 hC2w hR3 hR2 hS3 hD3 ht3 hIn hxS hC3
      go_upto_region 6 with (fail)
      rw [← HW3.out]
      go_wp2_with fail
      refine KC.out.mono ?_
      rintro e w4 hout
      have HO := Lib.hid (gds_back hout HC3.out hpl hpg)
      obtain ⟨bb, rfl⟩ := gds_bool hout
      clear hout KC b0 b1 b2 b3
      go_wp2_with fail
      go_ret
      exact HO.out
end Go.Proofs.YtbjghkmjnhmlfaaGreatDoor
