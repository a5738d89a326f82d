/- SpanLies: its walk. -/
import Derived.Test.YtgpjfagkjmnpgaaDoorSqv
import Derived.Test.YtgpjfagkjmnpgaaDoorSqg
import Derived.Deep.DeepCutAuto
namespace Go.Proofs.YtgpjfagkjmnpgaaDoor
open Go.RowKit Go.Maps

/-- a span in a block of its own -/
def Box2 (w : World) (g : Nat) (x : Sp) : Prop := w.cell? ⟨g, 0, none⟩ = some (.int .i64 x.1) ∧ w.cell? ⟨g, 1, none⟩ = some (.int .i64 x.2)
theorem Box2.ext {w w' : World} {g : Nat} {x : Sp} (h : Box2 w g x) (k : Ext w w') : Box2 w' g x := ⟨k.cell h.1, k.cell h.2⟩

theorem sp_at {w : World} {xs : List Sp} {b o : Nat} (h : SpsAt w xs (some ⟨b, o, none⟩)) {k : Nat} (hk : k < xs.length) : w.cell? ⟨b, o + k * 2, none⟩ = some (.int .i64 xs[k].1) ∧ w.cell? ⟨b, o + k * 2 + 1, none⟩ = some (.int .i64 xs[k].2) := by
  obtain ⟨b', o', e, a0, a1⟩ := h k hk
  injection e with e; injection e with e1 e2; subst e1; subst e2
  exact ⟨a0, a1⟩

theorem IntsAt.kept {w : World} {ns : List Int} {A : Option Addr} (h : IntsAt w ns A) {p : Addr} {v : Value} (hp : ∀ ad, A = some ad → ad.block ≠ p.block) : IntsAt (w.setCell p v) ns A := by
  intro i hi
  obtain ⟨b, o, e, h0⟩ := h i hi
  refine ⟨b, o, e, ?_⟩
  rw [World.cell?_setCell_other _ _ _ _ (fun e' => hp _ e (by rw [e']))]
  exact h0

set_option maxRecDepth 100000 in
set_option maxHeartbeats 8000000 in
theorem lies_walk : SpanWalk AskAt 3 := by
  intro xs A c ns B d ss C e w h hA
  have hx0 := (Ext.refl w).alloc (.cells (askCells xs.length A c ns.length B d ss.length C e) 26)
  have KH := Lib.hid (heavy_any xs.length A c ns.length B d ss C e _ h.slen (h.strs.ext hx0))
  have HXA := Lib.hid (And.intro h.sps hA)
  clear h hA
  cases hv : heavyB xs.length ns.length ss with
  | true =>
    rw [hv] at KH
    go_enter Tryd.func3, Tryd.ntmps3
    go_wp2_with fail
    refine KH.out.mono ?_
    rintro e w1 ⟨rfl, hx1⟩
    go_wp2_with fail
    go_ret
    exact ⟨rfl, hx0.trans hx1⟩
  | false =>
    rw [hv] at KH
    go_enter Tryd.func3, Tryd.ntmps3
    go_wp2_with fail
    refine KH.out.mono ?_
    rintro e w1 ⟨rfl, hx1⟩
    have hbox : w1.cell? ⟨w.heap.size, 0, none⟩ = some (.slice A xs.length c) := hx1.cell (by go_simp)
    have HX1 := Lib.hid (hx0.trans hx1)
    have HB := Lib.hid hbox
    have HS := Lib.hid (And.intro (HXA.out.1.ext HX1.out) (HXA.out.2.ext HX1.out))
    clear hx0 hx1 KH HXA hbox
    go_wp2_with fail
    go_loopw [3] (fun i wr => ∃ k : Nat, k ≤ xs.length ∧ i = .int .i64 k ∧ Ext w1 wr) (fun i _ => xs.length - (intOf i).toNat)
    case atStart => exact ⟨0, Nat.zero_le _, rfl, Ext.refl _⟩
    case round =>
      obtain ⟨i, hi, rfl, hxi⟩ := hrel
      obtain ⟨wi, rfl⟩ : ∃ wi : World, wi = wr := ⟨_, rfl⟩
      have hbx := hxi.cell HB.out
      by_cases hgo : i < xs.length ∧ i < 6
      · obtain ⟨hlt, h6⟩ := hgo
        have h6' : (i : Int) < 6 := by omega
        have i0 : (0 : Int) ≤ (i : Int) := Int.natCast_nonneg _
        have i1 : (i : Int) < (xs.length : Int) := by omega
        obtain ⟨b, o, rfl, a0, a1⟩ := HS.out.1 i hlt
        have n0 := hxi.cell a0
        have n1 := hxi.cell a1
        have R0 : ∀ u : ExtOf wi, _ := ext_cell n0
        have R1 : ∀ u : ExtOf wi, _ := ext_cell n1
        have RB : ∀ u : ExtOf wi, _ := ext_cell hbx
        have KC : Hid (∀ u : ExtOf wi, Calls Tryd.prog 21 #[spV xs[i].1 xs[i].2] u.to fun e w' => e = .returned (.int .i64 (chkE xs[i].1 xs[i].2)) ∧ Ext u.to w') := Lib.hid fun u => Check_any _ _ _
        have KN : Hid (∀ (u : ExtOf wi) n, Calls Tryd.prog 20 #[.int .i64 n] u.to fun e w' => e = .returned (.int .i64 n) ∧ Ext u.to w') := Lib.hid fun u n => (num_any n u.to).mono fun _ _ ⟨e, k⟩ => ⟨e, k ▸ Ext.refl _⟩
        have KS : Hid (∀ u : ExtOf wi, Calls Tryd.prog 22 #[spV xs[i].1 xs[i].2] u.to fun e w' => e = .returned (.bool (spB xs[i].1 xs[i].2)) ∧ Ext u.to w') := Lib.hid fun u => rSpan_any _ _ _
        have hne : (!((chkE xs[i].1 xs[i].2 == 0) == spB xs[i].1 xs[i].2)) = false := by unfold chkE; cases spB xs[i].1 xs[i].2 <;> rfl
        clear a0 a1 n0 n1
        go_wp2_with fail
        refine wp_region_ext (by kernel_rfl) (by kernel_rfl) ?_
        repeat (go_big_quiet_step (first | (go_at_call 21; exact of_ext (KC.out _)) | (go_at_call 20; exact of_ext (KN.out _ _)) | (go_at_call 22; exact of_ext (KS.out _))))
        refine wpQuiet_nil ?_
        refine ext_all ?_
        intro w2 hx2
        have hx12 := hxi.trans hx2
        clear R0 R1 RB KC KN KS hbx
        go_wp2_with fail
        go_loopw [4] (fun i wr => ∃ k : Nat, k ≤ xs.length ∧ i = .int .i64 k ∧ Ext w2 wr) (fun i _ => xs.length - (intOf i).toNat)
        case atStart => exact ⟨0, Nat.zero_le _, rfl, Ext.refl _⟩
        case round =>
          obtain ⟨k, hk, rfl, hxk⟩ := hrel
          obtain ⟨wk, rfl⟩ : ∃ wk : World, wk = wr := ⟨_, rfl⟩
          have hx1k := hx12.trans hxk
          have hbx := hx1k.cell HB.out
          by_cases hgo2 : k < xs.length ∧ k < 6
          · obtain ⟨hlt2, h62⟩ := hgo2
            have h62' : (k : Int) < 6 := by omega
            have k0 : (0 : Int) ≤ (k : Int) := Int.natCast_nonneg _
            have k1 : (k : Int) < (xs.length : Int) := by omega
            go_upto_region 11 with (fail)
            obtain ⟨a0, a1⟩ := sp_at HS.out.1 hlt
            obtain ⟨b0, b1⟩ := sp_at HS.out.1 hlt2
            obtain ⟨x, hx⟩ : ∃ x : Sp, x = xs[i] := ⟨_, rfl⟩
            obtain ⟨y, hy⟩ : ∃ y : Sp, y = xs[k] := ⟨_, rfl⟩
            rw [← hx] at a0 a1
            rw [← hy] at b0 b1
            clear hx hy
            have c0 := hx1k.cell a0
            have c1 := hx1k.cell a1
            have d0 := hx1k.cell b0
            have d1 := hx1k.cell b1
            clear a0 a1 b0 b1
            go_cut [5, 6] (fun p5 p6 wx => ∃ ga gb : Nat, p5 = .pointer (some ⟨ga, 0, none⟩) ∧ p6 = .pointer (some ⟨gb, 0, none⟩) ∧ Box2 wx ga x ∧ Box2 wx gb y ∧ Ext wk wx)
            case first =>
              have r0 : ∀ u, Ext wk u → u.cell? ⟨b, o + i * 2, none⟩ = some (.int .i64 x.1) := fun u hu => hu.cell c0
              have r1 : ∀ u, Ext wk u → u.cell? ⟨b, o + i * 2 + 1, none⟩ = some (.int .i64 x.2) := fun u hu => hu.cell c1
              have r2 : ∀ u, Ext wk u → u.cell? ⟨b, o + k * 2, none⟩ = some (.int .i64 y.1) := fun u hu => hu.cell d0
              have r3 : ∀ u, Ext wk u → u.cell? ⟨b, o + k * 2 + 1, none⟩ = some (.int .i64 y.2) := fun u hu => hu.cell d1
              have r4 : ∀ u, Ext wk u → u.cell? ⟨w.heap.size, 0, none⟩ = some (.slice (some ⟨b, o, none⟩) xs.length c) := fun u hu => hu.cell hbx
              have hI := Ext.refl wk
              clear c0 c1 d0 d1 hbx
              go_region_held3 (fun u => Ext wk u) (first | (with_reducible assumption) | (with_reducible exact hI.drew) | (repeat (first | (with_reducible exact hI) | (with_reducible exact hI.drew) | (with_reducible refine Ext.setCell ?_ ?_ _) | (with_reducible refine Ext.alloc ?_ _) | (with_reducible refine Ext.drew ?_) | (simp; done) | (simp; omega))))
                (fail)
              · go_wp2_with fail
                go_meet
                exact ⟨_, _, rfl, rfl, ⟨by go_simp, by go_simp⟩, ⟨by go_simp, by go_simp⟩, ((hI.alloc _).alloc _).drew⟩
              · go_wp2_with fail
                go_meet
                exact ⟨_, _, rfl, rfl, ⟨by go_simp, by go_simp⟩, ⟨by go_simp, by go_simp⟩, ((hI.alloc _).alloc _).drew⟩
            case rest =>
              obtain ⟨ga, gb, rfl, rfl, hBa, hBb, hxc⟩ := hcut
              obtain ⟨wx, rfl⟩ : ∃ wx : World, wx = wc := ⟨_, rfl⟩
              have hx1x := hx1k.trans hxc
              have hAx := HS.out.2.ext hx1x
              clear c0 c1 d0 d1 hbx
              go_upto_region 12 with (fail)
              go_cut [7] (fun p7 wz => p7 = .bool (spB x.1 x.2 && spB y.1 y.2) ∧ Ext wx wz)
              case first =>
                have KA := Lib.hid (fun u => rSpan_any x.1 x.2 u)
                have KB := Lib.hid (fun u => rSpan_any y.1 y.2 u)
                obtain ⟨a0, a1⟩ := hBa
                cases h1 : spB x.1 x.2 with
                | false =>
                  rw [h1] at KA
                  go_wp2_with fail
                  refine (KA.out _).mono ?_
                  rintro e w5 ⟨rfl, hx5⟩
                  go_wp2_with fail
                  go_meet
                  exact ⟨by rw [h1]; rfl, hx5⟩
                | true =>
                  rw [h1] at KA
                  go_wp2_with fail
                  refine (KA.out _).mono ?_
                  rintro e w5 ⟨rfl, hx5⟩
                  obtain ⟨b0, b1⟩ := hBb.ext hx5
                  go_wp2_with fail
                  refine (KB.out _).mono ?_
                  rintro e w6 ⟨rfl, hx6⟩
                  go_wp2_with fail
                  go_meet
                  exact ⟨by rw [h1, Bool.true_and], hx5.trans hx6⟩
              case rest =>
                obtain ⟨rfl, hxz⟩ := hcut
                obtain ⟨wz, rfl⟩ : ∃ wz : World, wz = wc := ⟨_, rfl⟩
                have hx1z := hx1x.trans hxz
                have HBz := Lib.hid (And.intro (hBa.ext hxz) (And.intro (hBb.ext hxz) (hAx.ext hxz)))
                obtain ⟨M, hM⟩ : ∃ M, M = (spB x.1 x.2 && spB y.1 y.2) := ⟨_, rfl⟩
                rw [← hM]
                have HM := Lib.hid hM
                have hxkz := hxc.trans hxz
                clear hM hBa hBb hAx hxc hxz hx1x
                obtain ⟨⟨f, t⟩, rfl⟩ : ∃ x' : Sp, x' = x := ⟨_, rfl⟩
                obtain ⟨⟨f', t'⟩, rfl⟩ : ∃ x' : Sp, x' = y := ⟨_, rfl⟩
                simp only at HM
                go_wp2_with fail
                go_loopw [8] (fun r wr => ∃ j : Nat, j ≤ 17 ∧ r = .int .i64 ((j : Int) - 1) ∧ Ext wz wr) (fun r _ => (16 - intOf r).toNat)
                case atStart => exact ⟨0, by omega, rfl, Ext.refl _⟩
                case round =>
                  obtain ⟨j, hj, rfl, hxr⟩ := hrel
                  obtain ⟨wr0, rfl⟩ : ∃ wr0 : World, wr0 = wr := ⟨_, rfl⟩
                  by_cases hlt : j < 17
                  · obtain ⟨r, hr⟩ : ∃ r : Int, r = (j : Int) - 1 := ⟨_, rfl⟩
                    have hr15 : r ≤ 15 := by omega
                    have hr0 : -1 ≤ r := by omega
                    have HR := Lib.hid hr
                    rw [← hr]
                    have KI := Lib.hid (Is_any r f t f' t' wr0 (HBz.out.2.2.ext hxr))
                    obtain ⟨p0, p1⟩ := HBz.out.1.ext hxr
                    obtain ⟨q0, q1⟩ := HBz.out.2.1.ext hxr
                    have HT : Hid (isT r f t f' t' = (rlB r && M && isB r f t f' t')) := Lib.hid (by unfold isT; rw [HM.out, Bool.and_assoc (rlB r)])
                    have HE : Hid (isE r f t f' t' = if rlB r && M then 0 else 1) := Lib.hid (by unfold isE; rw [HM.out, Bool.and_assoc (rlB r)])
                    have KL := Lib.hid (fun u => rRel_any r u)
                    clear hr
                    cases hMM : M with
                    | false =>
                      have e1 : isT r f t f' t' = false := by rw [HT.out, hMM, Bool.and_false, Bool.false_and]
                      have e2 : isE r f t f' t' = 1 := by rw [HE.out, hMM, Bool.and_false]; rfl
                      rw [e1, e2] at KI
                      clear e1 e2 HT HE
                      go_wp2_with fail
                      refine KI.out.mono ?_
                      rintro e w5 ⟨rfl, hx5⟩
                      go_wp2_with fail
                      refine (num_any _ _).mono ?_
                      rintro e w6 ⟨rfl, rfl⟩
                      go_wp2_with fail
                      go_roundw
                      case rel => exact ⟨j + 1, by omega, by have := HR.out; go_num, hxr.trans hx5⟩
                      case measure => simp [intOf]; omega
                    | true =>
                      cases hrl : rlB r with
                      | false =>
                        have e1 : isT r f t f' t' = false := by rw [HT.out, hrl, Bool.false_and, Bool.false_and]
                        have e2 : isE r f t f' t' = 1 := by rw [HE.out, hrl, Bool.false_and]; rfl
                        rw [e1, e2] at KI
                        rw [hrl] at KL
                        clear e1 e2 HT HE
                        go_wp2_with fail
                        refine KI.out.mono ?_
                        rintro e w5 ⟨rfl, hx5⟩
                        go_wp2_with fail
                        refine (KL.out _).mono ?_
                        rintro e w6 ⟨rfl, rfl⟩
                        go_wp2_with fail
                        refine (num_any _ _).mono ?_
                        rintro e w6 ⟨rfl, rfl⟩
                        go_wp2_with fail
                        go_roundw
                        case rel => exact ⟨j + 1, by omega, by have := HR.out; go_num, hxr.trans hx5⟩
                        case measure => simp [intOf]; omega
                      | true =>
                        have hrr : 1 ≤ r ∧ r ≤ 13 := by simpa [rlB] using hrl
                        obtain ⟨h1r, h13r⟩ := hrr
                        obtain ⟨X, hXX⟩ : ∃ X, X = isB r f t f' t' := ⟨_, rfl⟩
                        have e1 : isT r f t f' t' = X := by rw [HT.out, hrl, hMM, Bool.true_and, Bool.true_and, hXX]
                        have e2 : isE r f t f' t' = 0 := by rw [HE.out, hrl, hMM]; rfl
                        rw [e1, e2] at KI
                        rw [hrl] at KL
                        have KS := Lib.hid (fun u => rIs_any r f t f' t' u h1r h13r)
                        rw [← hXX] at KS
                        have hne : (!(X == X)) = false := by simp
                        clear e1 e2 HT HE hXX h1r h13r
                        go_wp2_with fail
                        refine KI.out.mono ?_
                        rintro e w5 ⟨rfl, hx5⟩
                        obtain ⟨m0, m1⟩ := HBz.out.1.ext (hxr.trans hx5)
                        obtain ⟨m2, m3⟩ := HBz.out.2.1.ext (hxr.trans hx5)
                        clear p0 p1 q0 q1
                        go_wp2_with fail
                        refine (KL.out _).mono ?_
                        rintro e w6 ⟨rfl, rfl⟩
                        go_wp2_with fail
                        refine (KS.out _).mono ?_
                        rintro e w7 ⟨rfl, hx7⟩
                        go_wp2_with fail
                        refine (num_any _ _).mono ?_
                        rintro e w8 ⟨rfl, rfl⟩
                        go_wp2_with fail
                        go_roundw
                        case rel => exact ⟨j + 1, by omega, by have := HR.out; go_num, (hxr.trans hx5).trans hx7⟩
                        case measure => simp [intOf]; omega
                  · obtain ⟨p0, p1⟩ := HBz.out.1.ext hxr
                    obtain ⟨q0, q1⟩ := HBz.out.2.1.ext hxr
                    have KL := Lib.hid (All_any f t f' t' wr0 (HBz.out.2.2.ext hxr))
                    have KU := Lib.hid (fun u => Hull_any f t f' t' u)
                    have hjg : ¬ ((j : Int) - 1 ≤ 15) := by omega
                    cases hMM : M with
                    | false =>
                      have HO : Hid (∀ e u, AllOut wr0 f t f' t' e u → e = .returned (.tuple #[.slice none 0 0, .int .i64 1]) ∧ Ext wr0 u) := Lib.hid fun e u h => by
                        unfold AllOut at h; rw [← HM.out, hMM] at h; exact h
                      have hU : hullOut f t f' t' = .tuple #[spV 0 0, .int .i64 1] := by unfold hullOut; rw [← HM.out, hMM]; rfl
                      rw [hU] at KU
                      clear hU
                      go_wp2_with fail
                      refine KL.out.mono ?_
                      intro e w5 hout
                      obtain ⟨rfl, hx5⟩ := HO.out _ _ hout
                      obtain ⟨m0, m1⟩ := HBz.out.1.ext (hxr.trans hx5)
                      obtain ⟨m2, m3⟩ := HBz.out.2.1.ext (hxr.trans hx5)
                      clear p0 p1 q0 q1 hout
                      go_wp2_with fail
                      refine (KU.out _).mono ?_
                      rintro e w6 ⟨rfl, hx6⟩
                      go_wp2_with fail
                      obtain ⟨w8, hw8⟩ : ∃ w8, w8 = ((w6.alloc (.cells #[.int .i64 0, .int .i64 0] 32)).alloc (.cells #[.int .i64 0, .int .i64 0] 32)) := ⟨_, rfl⟩
                      have hx8 : Ext w6 w8 := by rw [hw8]; exact ((Ext.refl w6).alloc _).alloc _
                      have g0 : w8.cell? ⟨w6.heap.size, 0, none⟩ = some (.int .i64 0) := by rw [hw8]; go_simp
                      have g1 : w8.cell? ⟨w6.heap.size, 1, none⟩ = some (.int .i64 0) := by rw [hw8]; go_simp
                      have g2 : w8.cell? ⟨w6.heap.size + 1, 0, none⟩ = some (.int .i64 0) := by rw [hw8]; go_simp
                      have g3 : w8.cell? ⟨w6.heap.size + 1, 1, none⟩ = some (.int .i64 0) := by rw [hw8]; go_simp
                      have hxx := ((hxr.trans hx5).trans hx6).trans hx8
                      have KQ := Lib.hid (eqInts_any [] [] none none 0 0 w8 (by simp) (fun i hi => absurd hi (by simp)) (fun i hi => absurd hi (by simp)))
                      rw [← hw8]
                      clear m0 m1 m2 m3 hw8 hx5 hx6 hx8 KU KL HO
                      refine (num_any _ _).mono ?_
                      rintro e w9 ⟨rfl, rfl⟩
                      go_wp2_with fail
                      refine (num_any _ _).mono ?_
                      rintro e w10 ⟨rfl, rfl⟩
                      go_wp2_with fail
                      refine KQ.out.mono ?_
                      rintro e w11 ⟨rfl, hx11⟩
                      replace g0 := hx11.cell g0
                      replace g1 := hx11.cell g1
                      replace g2 := hx11.cell g2
                      replace g3 := hx11.cell g3
                      have hxy := (hxk.trans (hxkz.trans hxx)).trans hx11
                      clear KQ hxx hx11
                      go_wp2_with fail
                      go_roundw
                      case rel => exact ⟨k + 1, by omega, by go_num, hxy⟩
                      case measure => simp [intOf]; omega
                    | true =>
                      have HO : Hid (∀ e u, AllOut wr0 f t f' t' e u → ∃ v, e = .returned (.tuple #[v, .int .i64 0]) ∧ IntsOut wr0 (allI f t f' t') v u) := Lib.hid fun e u h => by
                        unfold AllOut at h; rw [← HM.out, hMM] at h; exact h
                      have hU : hullOut f t f' t' = .tuple #[spV (mnI f f') (mxI t t'), .int .i64 0] := by unfold hullOut; rw [← HM.out, hMM]; rfl
                      rw [hU] at KU
                      clear hU
                      go_wp2_with fail
                      refine KL.out.mono ?_
                      intro e w5 hout
                      obtain ⟨v5, rfl, hown, hx5⟩ := HO.out _ _ hout
                      obtain ⟨A5, c5, rfl, _, hI5⟩ := owned_ints hown
                      obtain ⟨m0, m1⟩ := HBz.out.1.ext (hxr.trans hx5)
                      obtain ⟨m2, m3⟩ := HBz.out.2.1.ext (hxr.trans hx5)
                      clear p0 p1 q0 q1 hout hown
                      go_wp2_with fail
                      refine (KU.out _).mono ?_
                      rintro e w6 ⟨rfl, hx6⟩
                      obtain ⟨LL, hLL⟩ : ∃ LL, LL = allI f t f' t' := ⟨_, rfl⟩
                      obtain ⟨mn, hmn⟩ : ∃ z, z = mnI f f' := ⟨_, rfl⟩
                      obtain ⟨mx, hmx⟩ : ∃ z, z = mxI t t' := ⟨_, rfl⟩
                      have HL := Lib.hid (And.intro hLL (And.intro hmn hmx))
                      rw [← hLL] at hI5 ⊢
                      rw [← hmn, ← hmx]
                      obtain ⟨w7, hw7⟩ : ∃ w7, w7 = w6.alloc (.cells #[.int .i64 mn, .int .i64 mx] 32) := ⟨_, rfl⟩
                      have hx7 : Ext w6 w7 := by rw [hw7]; exact (Ext.refl w6).alloc _
                      have HW7 := Lib.hid hw7
                      have g0 : w7.cell? ⟨w6.heap.size, 0, none⟩ = some (.int .i64 mn) := by rw [hw7]; go_simp
                      have g1 : w7.cell? ⟨w6.heap.size, 1, none⟩ = some (.int .i64 mx) := by rw [hw7]; go_simp
                      obtain ⟨w8, hw8⟩ : ∃ w8, w8 = w7.alloc (.cells #[.int .i64 0, .int .i64 0] 32) := ⟨_, rfl⟩
                      have hx8 : Ext w7 w8 := by rw [hw8]; exact (Ext.refl w7).alloc _
                      have HW8 := Lib.hid hw8
                      have z0 : w8.cell? ⟨w6.heap.size + 1, 0, none⟩ = some (.int .i64 0) := by rw [hw8, hw7]; go_simp
                      have z1 : w8.cell? ⟨w6.heap.size + 1, 1, none⟩ = some (.int .i64 0) := by rw [hw8, hw7]; go_simp
                      have hs7 : w7.heap.size ≤ w6.heap.size + 1 := by rw [hw7]; simp
                      have hlt8 := World.block_lt_of_cell? w8 _ z0
                      have f0 : w8.frozen? ⟨w6.heap.size + 1, 0, none⟩ = false := by rw [hw8, hw7]; go_simp
                      have f1 : w8.frozen? ⟨w6.heap.size + 1, 1, none⟩ = false := by rw [hw8, hw7]; go_simp
                      have hx78 := (hx5.trans hx6).trans hx7
                      have hI7 := hI5.ext (hx6.trans hx7)
                      have hllen : LL.length ≤ 13 := by rw [HL.out.1]; exact allUp_len _ _ _ _ _
                      clear hLL hmn hmx hw7 hw8 m0 m1 m2 m3 KL KU HO hI5 hx5 hx6
                      go_upto_region 27 with (fail)
                      rw [← HW7.out, ← HW8.out]
                      have hxw7 := hxr.trans hx78
                      have r0 : ∀ u, Ext w7 u → u.cell? ⟨ga, 0, none⟩ = some (.int .i64 f) := fun u hu => (HBz.out.1.ext (hxw7.trans hu)).1
                      have r1 : ∀ u, Ext w7 u → u.cell? ⟨ga, 1, none⟩ = some (.int .i64 t) := fun u hu => (HBz.out.1.ext (hxw7.trans hu)).2
                      have r2 : ∀ u, Ext w7 u → u.cell? ⟨gb, 0, none⟩ = some (.int .i64 f') := fun u hu => (HBz.out.2.1.ext (hxw7.trans hu)).1
                      have r3 : ∀ u, Ext w7 u → u.cell? ⟨gb, 1, none⟩ = some (.int .i64 t') := fun u hu => (HBz.out.2.1.ext (hxw7.trans hu)).2
                      have KA : Hid (∀ u, Ext w8 u → Calls Tryd.prog 28 #[spV f t, spV f' t'] u fun e u' => ∃ A9 c9, e = .returned (.slice A9 LL.length c9) ∧ (IntsAt u' LL A9 ∧ ∀ ad, A9 = some ad → w8.heap.size ≤ ad.block) ∧ Ext w8 u') := Lib.hid fun u hu => (rAll_any f t f' t' u).mono fun e u' ⟨v, he, hown, hx⟩ => by
                        obtain ⟨A9, c9, hv, _, hI⟩ := owned_ints hown
                        rw [← HL.out.1] at hv hI
                        refine ⟨A9, c9, by rw [he, hv], ⟨hI, fun ad ha => ?_⟩, hu.trans hx⟩
                        have h1 := (hown.lt ad.block (by rw [hv, ha]; rfl)).1
                        have h2 := hu.size
                        omega
                      have KH : Hid (∀ u, Ext w8 u → Calls Tryd.prog 29 #[spV f t, spV f' t'] u fun e u' => e = .returned (spV mn mx) ∧ Ext u u' ∧ Ext w8 u') := Lib.hid fun u hu => (rHull_any f t f' t' u).mono fun e u' ⟨he, hx⟩ => ⟨by rw [he, HL.out.2.1, HL.out.2.2], hx, hu.trans hx⟩
                      have KZ : Hid (∀ u, Ext w8 u → u.cell? ⟨w6.heap.size + 1, 0, none⟩ = some (.int .i64 0) ∧ u.cell? ⟨w6.heap.size + 1, 1, none⟩ = some (.int .i64 0) ∧ u.frozen? ⟨w6.heap.size + 1, 0, none⟩ = false ∧ u.frozen? ⟨w6.heap.size + 1, 1, none⟩ = false) := Lib.hid fun u k =>
                        ⟨k.cell z0, k.cell z1, (World.frozen?_of_block (w := w8) (a := ⟨w6.heap.size + 1, 0, none⟩) (k.block _ hlt8)).trans f0, (World.frozen?_of_block (w := w8) (a := ⟨w6.heap.size + 1, 1, none⟩) (k.block _ hlt8)).trans f1⟩
                      have hI8 := Ext.refl w8
                      have hn8 : w6.heap.size + 1 < w8.heap.size := hlt8
                      have HFX := Lib.hid (And.intro hn8 (And.intro hI7 (And.intro g0 g1)))
                      clear z0 z1 f0 f1 hlt8 hn8 hI7 g0 g1
                      go_region_held3 (fun u => Ext w7 u) (first | (with_reducible assumption) | (with_reducible exact hx8.drew) | (with_reducible exact (hS10.setCell hs7 _).setCell hs7 _))
                        (first
                          | (go_at_call 28; (with_reducible refine (KA.out _ ?_).mono ?_); (first | (with_reducible exact hI8.drew) | (with_reducible exact hI8)); rintro e9 w9 ⟨A9, c9, rfl, hI9, hQ9⟩; have hS9 := hx8.trans hQ9)
                          | (go_at_call 29; (with_reducible refine (KH.out _ hQ9).mono ?_); rintro e10 w10 ⟨rfl, hP10, hQ10⟩; have hS10 := hx8.trans hQ10; obtain ⟨y0, y1, y2, y3⟩ := KZ.out _ hQ10))
                      obtain ⟨wf, hwf⟩ : ∃ wf, wf = (w10.setCell ⟨w6.heap.size + 1, 0, none⟩ (.int .i64 mn)).setCell ⟨w6.heap.size + 1, 1, none⟩ (.int .i64 mx) := ⟨_, rfl⟩
                      have hx7f : Ext w7 wf := by rw [hwf]; exact (hS10.setCell hs7 _).setCell hs7 _
                      have b0 : wf.cell? ⟨w6.heap.size + 1, 0, none⟩ = some (.int .i64 mn) := by rw [hwf]; go_simp
                      have b1 : wf.cell? ⟨w6.heap.size + 1, 1, none⟩ = some (.int .i64 mx) := by rw [hwf]; go_simp
                      have hIf : IntsAt wf LL A9 := by
                        have hne : ∀ ad, A9 = some ad → ad.block ≠ w6.heap.size + 1 := fun ad ha => by have h1 := hI9.2 ad ha; have h2 := HFX.out.1; omega
                        rw [hwf]; exact ((hI9.1.ext hP10).kept (p := ⟨w6.heap.size + 1, 0, none⟩) hne).kept (p := ⟨w6.heap.size + 1, 1, none⟩) hne
                      rw [← hwf]
                      have g0 := hx7f.cell HFX.out.2.2.1
                      have g1 := hx7f.cell HFX.out.2.2.2
                      have KQ := Lib.hid (eqInts_any LL LL A5 A9 c5 c9 wf (by omega) (HFX.out.2.1.ext hx7f) hIf)
                      have hee : (LL == LL) = true := by simp
                      rw [hee] at KQ
                      have hxx := hxw7.trans hx7f
                      clear hwf hIf hee r0 r1 r2 r3 y0 y1 y2 y3 hI9 hS9 hQ9 hS10 hQ10 hP10 hx7f hxw7 hx78 KA KH KZ hI8 hx8 hx7
                      go_wp2_with fail
                      refine (num_any _ _).mono ?_
                      rintro e w11 ⟨rfl, rfl⟩
                      go_wp2_with fail
                      refine (num_any _ _).mono ?_
                      rintro e w12 ⟨rfl, rfl⟩
                      go_wp2_with fail
                      refine KQ.out.mono ?_
                      rintro e w13 ⟨rfl, hx13⟩
                      replace g0 := hx13.cell g0
                      replace g1 := hx13.cell g1
                      replace b0 := hx13.cell b0
                      replace b1 := hx13.cell b1
                      have hxy := (hxk.trans (hxkz.trans hxx)).trans hx13
                      clear KQ hxx hx13
                      go_wp2_with fail
                      go_roundw
                      case rel => exact ⟨k + 1, by omega, by go_num, hxy⟩
                      case measure => simp [intOf]; omega
          · have hor : (¬ k < xs.length) ∨ (k < xs.length ∧ decide ((k : Int) < 6) = false) := by
              by_cases h : k < xs.length
              · exact .inr ⟨h, decide_eq_false (by omega)⟩
              · exact .inl h
            clear hgo2
            rcases hor with hq1 | ⟨hq1, hq2⟩
            · go_wp2_with fail
              go_roundw
              case rel => exact ⟨i + 1, by omega, by go_num, hx12.trans hxk⟩
              case measure => simp [intOf]; omega
            · go_wp2_with fail
              go_roundw
              case rel => exact ⟨i + 1, by omega, by go_num, hx12.trans hxk⟩
              case measure => simp [intOf]; omega
      · have hor : (¬ i < xs.length) ∨ (i < xs.length ∧ decide ((i : Int) < 6) = false) := by
          by_cases h : i < xs.length
          · exact .inr ⟨h, decide_eq_false (by omega)⟩
          · exact .inl h
        have KW := Lib.hid (wakes_any wi (HS.out.2.ext hxi))
        clear hgo
        rcases hor with hq1 | ⟨hq1, hq2⟩
        · go_wp2_with fail
          refine KW.out.mono ?_
          rintro e w9 ⟨rfl, hx9⟩
          go_wp2_with fail
          go_ret
          exact ⟨rfl, (HX1.out.trans hxi).trans hx9⟩
        · go_wp2_with fail
          refine KW.out.mono ?_
          rintro e w9 ⟨rfl, hx9⟩
          go_wp2_with fail
          go_ret
          exact ⟨rfl, (HX1.out.trans hxi).trans hx9⟩
end Go.Proofs.YtgpjfagkjmnpgaaDoor
