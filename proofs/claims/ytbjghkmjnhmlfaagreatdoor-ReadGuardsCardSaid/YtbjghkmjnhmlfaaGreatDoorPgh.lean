/- Package read: comparison. -/
import Derived.Test.YtbjghkmjnhmlfaaGreatDoorPgg
namespace Go.Proofs.YtbjghkmjnhmlfaaGreatDoor
open Go.RowKit

def GdsOut (w : World) (g p o : Nat) (K : RdP) (T : List Tok) (B : Nat) (v : Value) (D : Nat → Prop) (F : Rs (List Gd)) (e : Ending) (w' : World) : Prop := Chg (fun x => x = g ∨ x = p ∨ v.ownBlock = some x) w w' ∧ Beside p o w w' ∧
  match F with
  | .ok (gs, j) => e = .returned (.bool true) ∧ RdAt w' g K T j 0 ∧ ∃ v' xs', xs'.map (·.1) = gs ∧ Slot SG B w' p o v' xs' D ∧ Grown w v v'
  | .error (a, x) => e = .returned (.bool false) ∧ RdErr w' g a x ∧ ∃ A l c, w'.cell? ⟨p, o, none⟩ = some (.slice A l c)
def opTg (T : List Tok) (gs : List Gd) (t : Tm) (fr i : Nat) : Rs (List Gd) := if isOp (rl T i) = true then opP T gs t fr i else .error (bad T i)
theorem mask_op (r : Nat) (h : r < 38) : Nat.testBit 491520 r = isOp r := by
  have : ∀ r : Fin 38, Nat.testBit 491520 r.1 = isOp r.1 := by decide
  exact this ⟨r, h⟩
theorem Beside.chg {p o : Nat} {w w' : World} {F : Nat → Prop} (k : Chg F w w') (hp : p < w.heap.size) (hF : ¬ F p) : Beside p o w w' := .of (k.block p hp hF)
theorem Grown.back {w w' : World} {v v' : Value} (h : Grown w' v v') (hs : w.heap.size ≤ w'.heap.size) : Grown w v v' := by
  rcases h with e | ⟨q, e, hq⟩
  · exact .inl e
  · exact .inr ⟨q, e, Nat.le_trans hs hq⟩
theorem add_bool {X : Type} {S : Srt X} {w : World} {g : Nat} {K : RdP} {T : List Tok} {i b p o B : Nat} {v : Value} {xs : List X} {D : Nat → Prop} {y : X} {most : Nat} {fr : Int} {e : Ending} {w' : World} (h : AddOut S w g K T i b p o B v xs D y most fr e w') : ∃ bb, e = .returned (.bool bb) := by
  unfold AddOut at h
  split at h
  · exact ⟨_, h.1⟩
  · exact ⟨_, h.1⟩
set_option maxRecDepth 100000 in
set_option maxHeartbeats 4000000 in
theorem comparison_rd {w : World} {g p o : Nat} {K : RdP} {T : List Tok} {i B : Nat} {v : Value} {xs : List GLain} {D : Nat → Prop} {t : Tm} {A : Option Addr} {c : Nat} (fr : Nat) (hT : EndLast T) (h : RdAt w g K T i 0) (hbo : BitOk w g) (hi : i < T.length) (hpg : p ≠ g) (hpA : p ≠ K.A) (hpR : p ≠ K.R)
    (hlo : g < B ∧ K.A < B ∧ K.R < B) (hS : Slot SG B w p o v xs D) (hx : xs.length ≤ 4) (hD : ∀ b, D b → b < w.heap.size) (ht : TmIn w (fun b => (B ≤ b ∧ b < w.heap.size) ∧ ¬ D b ∧ v.ownBlock ≠ some b) t A c) :
    Calls Tryz.prog 103 #[.pointer (some ⟨g, 0, none⟩), .pointer (some ⟨p, o, none⟩), t.val A c, .int .i64 (tk T fr).at_] w (GdsOut w g p o K T B v D (opTg T (xs.map (·.1)) t fr i)) := by
  have hgl := h.lt
  have hpl := World.block_lt_of_cell? w _ hS.cell
  simp only at hpl
  obtain ⟨SA, sc, rfl, _⟩ := src_own hS.inv.own
  have hB := hS.inv.size
  have hv : ∀ q, (Value.slice SA xs.length sc).ownBlock = some q → B ≤ q ∧ q < w.heap.size := hS.inv.lt
  obtain ⟨w0, hw0⟩ : ∃ w0, w0 = w.alloc (.cells #[.int .i64 t.kind, .string t.name, .int .i64 t.n, .slice A t.args.length c] 58) := ⟨_, rfl⟩
  have hx0 : Ext w w0 := by rw [hw0]; exact (Ext.refl _).alloc _
  have hb0 : Box4 w0 w.heap.size (.int .i64 t.kind) (.string t.name) (.int .i64 t.n) (.slice A t.args.length c) := by rw [hw0]; exact Box4.new w _ _ _ _ _
  have HW0 := Lib.hid hw0
  clear hw0
  have h0 := h.ext hx0
  have hl38 := rl_lt T i
  have r0 := h0.roles i hi
  have r1 := h0.c1
  have r2 := h0.c2
  have i0 : (0 : Int) ≤ (i : Int) := Int.natCast_nonneg _
  have i1 : (i : Int) < (T.length : Int) := by omega
  obtain ⟨rr, hrr⟩ : ∃ rr, rr = rl T i := ⟨_, rfl⟩
  rw [← hrr] at r0 hl38
  have HRR := Lib.hid hrr
  have HH0 := Lib.hid h0
  obtain ⟨F, hF⟩ : ∃ F, F = opTg T (xs.map (·.1)) t fr i := ⟨_, rfl⟩
  rw [← hF]
  have HF := Lib.hid hF
  obtain ⟨fa, hfa⟩ : ∃ fa, fa = (tk T fr).at_ := ⟨_, rfl⟩
  rw [← hfa]
  have HFA := Lib.hid hfa
  have HBO := Lib.hid hbo
  have HS := Lib.hid (And.intro hS (And.intro hD ht))
  clear hF hfa h0 h hbo hrr hS hD ht
  go_enter Tryz.func103, Tryz.ntmps103
  go_upto_region 1 with (fail)
  rw [← HW0.out]
  go_quiet (fail)
  generalize hwq : w0.drewN nq = wq
  have hxq : Ext w0 wq := by rw [← hwq]; exact (Ext.refl _).drewN _
  have hxw := hx0.trans hxq
  have hbq := hb0.ext hxq
  have hRq := HH0.out.ext hxq
  clear hwq r0 r1 r2 hb0 HH0 hx0 hxq
  by_cases hop : isOp (rl T i) = true
  · have K1 := Lib.hid (need_yes 491520 (by omega) hRq hi (by rw [mask_op _ (rl_lt T i)]; exact hop))
    have HF1 : Hid (F = opP T (xs.map (·.1)) t fr i) := Lib.hid (by rw [HF.out]; unfold opTg; rw [if_pos hop])
    have hi1 : i + 1 < T.length := hT.2 i (by intro e; rw [e] at hop; revert hop; decide)
    clear hRq
    go_wp2_with fail
    refine K1.out.mono ?_
    rintro e w1 ⟨rfl, h1, c1⟩
    have hw0l := hbq.lt
    have hb1 := hbq.chg c1 (by omega)
    have hC1 : Chg (· = g) w w1 := (Chg.of_ext hxw).trans c1
    have KT := Lib.hid (term_any T hT 100 w1 g K (i + 1) 0 (by omega) h1 hi1)
    clear h1 c1 K1 hbq
    go_wp2_with fail
    refine KT.out.mono ?_
    rintro e w2 ⟨hC2, ho⟩
    have hs1 := hC1.size
    have hs2 := hC2.size
    have hC2w := hC1.trans hC2
    have hb2 := hb1.chg hC2 (by omega)
    have hw1l : w.heap.size < w1.heap.size := hb1.lt
    match hpi : termP T 100 (i + 1) with
    | .error (a, x) =>
      rw [hpi] at ho
      have HFF : Hid (F = .error (a, x)) := Lib.hid (by rw [HF1.out]; unfold opP; rw [hpi])
      obtain ⟨⟨k', sn, n', A', l, c', rfl⟩, hE⟩ := ho
      obtain ⟨w3, hw3⟩ : ∃ w3, w3 = w2.alloc (.cells #[.int .i64 k', .string sn, .int .i64 n', .slice A' l c'] 58) := ⟨_, rfl⟩
      have hx3 : Ext w2 w3 := by rw [hw3]; exact (Ext.refl _).alloc _
      have HW3 := Lib.hid hw3
      have HE := Lib.hid (hE.ext hx3)
      have hC3 := hC2w.trans (Chg.of_ext hx3)
      clear hw3 hE hx3 KT hpi hb1 hb2 hC1 hC2 hC2w
      go_upto_region 5 with (fail)
      rw [← HW3.out]
      go_quiet (fail)
      generalize hwy : w3.drewN nq = wy
      have hy4 : Ext w3 wy := by rw [← hwy]; exact (Ext.refl _).drewN _
      have hC4 : Chg (· = g) w wy := hC3.trans (Chg.of_ext hy4)
      have HE4 := Lib.hid (HE.out.ext hy4)
      clear hwy hC3 hy4
      go_wp2_with fail
      go_ret
      rw [HFF.out]
      exact ⟨hC4.weak fun _ e => .inl e, Beside.chg hC4 hpl hpg, rfl, HE4.out, SA, _, sc, hC4.cell HS.out.1.cell hpg⟩
    | .ok (u, j) =>
      rw [hpi] at ho
      obtain ⟨A2, c2, rfl, hIn, hR2⟩ := ho
      have hjj := termP_takes hT 100 _ _ _ hpi
      have HF2 : Hid (F = if (xs.map (·.1)).length = 4 then .error (lim T fr) else .ok (xs.map (·.1) ++ [⟨(rl T i : Nat) - 14, t, u⟩], j)) := Lib.hid (by rw [HF1.out]; unfold opP; rw [hpi])
      obtain ⟨w3, hw3⟩ : ∃ w3, w3 = w2.alloc (.cells #[.int .i64 u.kind, .string u.name, .int .i64 u.n, .slice A2 u.args.length c2] 58) := ⟨_, rfl⟩
      have hx3 : Ext w2 w3 := by rw [hw3]; exact (Ext.refl _).alloc _
      have hb3 : Box4 w3 w2.heap.size (.int .i64 u.kind) (.string u.name) (.int .i64 u.n) (.slice A2 u.args.length c2) := by rw [hw3]; exact Box4.new w2 _ _ _ _ _
      have HW3 := Lib.hid hw3
      have hbt3 := hb2.ext hx3
      have hC3 := hC2w.trans (Chg.of_ext hx3)
      have hR3 := hR2.ext hx3
      have hs3 := hx3.size
      have hS3 := HS.out.1.keep hC3 (fun b e => by subst e; exact ⟨.inl hlo.1, fun e => hpg e.symm⟩)
      have hD3 : ∀ b, D b → b < w3.heap.size := fun b hb => by have := HS.out.2.1 b hb; omega
      have ht3 : TmIn w3 (fun b => (B ≤ b ∧ b < w3.heap.size) ∧ ¬ D b ∧ (Value.slice SA xs.length sc).ownBlock ≠ some b) t A c := HS.out.2.2.keep fun b hb _ => ⟨hC3.block b hb.1.2 (by have := hb.1.1; have := hlo.1; omega), ⟨hb.1.1, by have := hb.1.2; omega⟩, hb.2⟩
      have hu3 : TmIn w3 (fun b => (B ≤ b ∧ b < w3.heap.size) ∧ ¬ D b ∧ (Value.slice SA xs.length sc).ownBlock ≠ some b) u A2 c2 := hIn.keep fun b hb _ => ⟨hx3.block b hb.2, ⟨by have := hb.1; omega, by have := hb.2; omega⟩, fun hd => by have := HS.out.2.1 b hd; have := hb.1; omega, fun e => by have := (hv b e).2; have := hb.1; omega⟩
      have hxd : Ext w3 w3.drew := (Ext.refl _).drew
      have KA0 := (addG_rd (w := w3.drew) (y := ((⟨(rr : Int) - 14, t, u⟩ : Gd), (⟨A, c, A2, c2⟩ : GdPl))) fa hx (hR3.ext hxd) (hS3.ext hxd) hpg hpA hpR hlo hD3 ⟨ht3.keep fun b hb _ => ⟨hxd.block b hb.1.2, hb⟩, hu3.keep fun b hb _ => ⟨hxd.block b hb.1.2, hb⟩⟩)
      dsimp only [gdCells] at KA0
      have KA := Lib.hid KA0
      clear KA0
      have hbo3 := HBO.out.chg hC3
      have KK : Hid (∀ u, Ext w3 u → Calls Tryz.prog 116 #[.int .u64 (roleV rr)] u fun e w' => e = .returned (.int .i64 ((rr : Int) - 14)) ∧ w' = u) := Lib.hid (fun u hu => kindOf_rd rr hl38 (hbo3.ext hu).at_)
      have HC3 := Lib.hid hC3
      obtain ⟨b0, b1, b2, b3, _, _, _, _⟩ := hb3
      obtain ⟨t0, t1, t2, t3, _, _, _, _⟩ := hbt3
      have d0 : w3.drew.cell? ⟨w2.heap.size, 0, none⟩ = some (.int .i64 u.kind) := b0
      have d1 : w3.drew.cell? ⟨w2.heap.size, 1, none⟩ = some (.string u.name) := b1
      have d2 : w3.drew.cell? ⟨w2.heap.size, 2, none⟩ = some (.int .i64 u.n) := b2
      have d3 : w3.drew.cell? ⟨w2.heap.size, 3, none⟩ = some (.slice A2 u.args.length c2) := b3
      have e0 : w3.drew.cell? ⟨w.heap.size, 0, none⟩ = some (.int .i64 t.kind) := t0
      have e1 : w3.drew.cell? ⟨w.heap.size, 1, none⟩ = some (.string t.name) := t1
      have e2 : w3.drew.cell? ⟨w.heap.size, 2, none⟩ = some (.int .i64 t.n) := t2
      have e3 : w3.drew.cell? ⟨w.heap.size, 3, none⟩ = some (.slice A t.args.length c) := t3
      have HJ := Lib.hid hjj
      clear hw3 hx3 KT hpi hb1 hb2 hC1 hC2 hC2w hC3 hR3 hR2 hS3 hD3 ht3 hu3 hIn hbo3 hjj hxd
      go_upto_region 5 with (fail)
      rw [← HW3.out]
      go_region_with (first | ((with_reducible refine (KK.out _ (Ext.refl _).drew).mono ?_); rintro e wx ⟨rfl, rfl⟩) | ((with_reducible refine KA.out.mono ?_); rintro e w4 hout; obtain ⟨bb, rfl⟩ := add_bool hout))
      all_goals
        have HO : Hid (GdsOut w g p o K T B (.slice SA xs.length sc) D F (.returned (.bool bb)) w4) := Lib.hid (by
          rw [HF2.out, List.length_map]
          have hC3d : Chg (· = g) w w3.drew := HC3.out.trans (Chg.of_ext (Ext.refl _).drew)
          unfold AddOut at hout
          by_cases h4 : xs.length = 4
          · rw [if_pos h4] at hout
            rw [if_pos h4]
            obtain ⟨he, hE4, hC4⟩ := hout
            rw [he]
            have hC5 := hC3d.trans hC4
            exact ⟨hC5.weak fun _ e => .inl e, Beside.chg hC5 hpl hpg, rfl, by rw [HFA.out] at hE4; exact hE4, SA, _, sc, hC5.cell HS.out.1.cell hpg⟩
          · rw [if_neg h4] at hout
            rw [if_neg h4]
            obtain ⟨he, hR4, ⟨v', hS4, hG4⟩, hC4, hB4⟩ := hout
            rw [he]
            refine ⟨(hC3d.weak fun _ e => .inl e).trans (hC4.weak fun _ e => .inr e), (Beside.chg hC3d hpl hpg).trans hB4, rfl, hR4, v', _, ?_, hS4, ?_⟩
            · rw [List.map_append, ← HRR.out]; rfl
            · exact Grown.back hG4 hC3d.size)
        clear hout KA KK HC3 b0 b1 b2 b3 t0 t1 t2 t3 d0 d1 d2 d3 e0 e1 e2 e3
        go_wp2_with fail
        go_ret
        exact HO.out
  · have K1 := Lib.hid (need_no 491520 (by omega) hRq hi (by rw [mask_op _ (rl_lt T i)]; exact Bool.eq_false_iff.2 hop))
    have HF1 : Hid (F = .error (bad T i)) := Lib.hid (by rw [HF.out]; unfold opTg; rw [if_neg hop])
    clear hRq
    go_wp2_with fail
    refine K1.out.mono ?_
    rintro e w1 ⟨rfl, h1, c1⟩
    have HH := Lib.hid (And.intro h1 ((Chg.of_ext hxw).trans c1))
    clear h1 c1 K1 hbq hxw
    go_wp2_with fail
    go_ret
    rw [HF1.out]
    exact ⟨HH.out.2.weak fun _ e => .inl e, Beside.chg HH.out.2 hpl hpg, rfl, HH.out.1, SA, _, sc, HH.out.2.cell HS.out.1.cell hpg⟩
end Go.Proofs.YtbjghkmjnhmlfaaGreatDoor
