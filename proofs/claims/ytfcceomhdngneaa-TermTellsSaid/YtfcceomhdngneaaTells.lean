/- TermTells: whether any term may be, how deep and how large it is, whether it is ground, and an atom, and its variables, are the page's. -/
import Derived.Test.YtfcceomhdngneaaHeavy
import Derived.Test.YtfcceomhdngneaaRva
import Derived.Test.YtfcceomhdngneaaCopy
import Derived.Test.YtfcceomhdngneaaLift
import Derived.Deep.RegionHeld3
import Derived.Deep.DeepCutAuto
import Derived.Deep.CutBlock
namespace Go.Proofs.Ytfcceomhdngneaa
open Go.RowKit

theorem same_any (t : Tm) (A B : Option Addr) (c d : Nat) (w : World) (ha : TmAt w t A c) (hb : TmAt w t B d) :
    Calls Try.prog 25 #[t.val A c, t.val B d] w fun e w' => e = .returned (.bool true) ∧ Ext w w' := by
  have := eqTerm_all t.high t t A B c d w (Nat.le_refl _) ha hb
  rwa [(eqT_iff t t).2 rfl] at this
theorem size_same {t : Tm} (h : mayB t = true) : sizeR t 5 = sizeT t := by
  have h1 := ((fits_of 5).1 t 24 h).2
  have h2 := (fits_ref 5 t 24 (by omega) (by omega) (by omega)).2 h
  omega
theorem spoil_nil (w : World) : Calls Try.prog 26 #[.slice none 0 0] w fun e w' => e = .returned (.tuple #[]) ∧ w = w' := by
  go_enter Try.func26, Try.ntmps26
  go_wp2_with fail
  go_loopw [2] (fun i wr => i = .int .i64 0 ∧ w = wr) (fun _ _ => 0)
  case atStart => exact ⟨rfl, rfl⟩
  case round =>
    obtain ⟨rfl, rfl⟩ := hrel
    go_wp2_with fail
    go_end0
    exact ⟨rfl, rfl⟩

set_option maxRecDepth 100000 in
set_option maxHeartbeats 4000000 in
theorem tells_walk : AskWalk 3 := by
  intro ts ss A B c d w hl h hm hs _
  by_cases hv : heavyB ts ss = true
  · go_enter Try.func3, Try.ntmps3
    go_wp2_with fail
    refine (heavy_any ts ss A B c d _ hl (h.ext ((Ext.refl _).alloc _)) hm (hs.ext ((Ext.refl _).alloc _))).mono ?_
    rintro e w1 ⟨rfl, hx1⟩
    go_wp2_with fail
    go_ret
    exact ⟨rfl, ((Ext.refl _).alloc _).trans hx1⟩
  · have hv' := not_true hv
    have LT := Lib.hid (light hv').1
    clear hv
    go_enter Try.func3, Try.ntmps3
    go_wp2_with fail
    refine (heavy_any ts ss A B c d _ hl (h.ext ((Ext.refl _).alloc _)) hm (hs.ext ((Ext.refl _).alloc _))).mono ?_
    rintro e w1 ⟨rfl, hx1⟩
    have hx01 : Ext w w1 := ((Ext.refl _).alloc _).trans hx1
    have hbox : w1.cell? ⟨w.heap.size, 0, none⟩ = some (.slice A ts.length c) := hx1.cell (by go_simp)
    have hsz : w.heap.size + 1 ≤ w1.heap.size := by have := hx1.size; simpa using this
    clear hx1
    go_wp2_with fail
    go_loopw [3] (fun i wr => ∃ p : Nat, p ≤ ts.length ∧ i = .int .i64 p ∧ Ext w1 wr) (fun i _ => ts.length - (intOf i).toNat)
    case atStart => exact ⟨0, Nat.zero_le _, rfl, Ext.refl _⟩
    case round =>
      obtain ⟨p, hp, rfl, hxp⟩ := hrel
      obtain ⟨wp, rfl⟩ : ∃ wp : World, wp = wr := ⟨_, rfl⟩
      have hxw := hx01.trans hxp
      have hb0 := hxp.cell hbox
      by_cases hboth : p < ts.length ∧ p < 6
      · obtain ⟨hlt, h6⟩ := hboth
        have h6' : decide ((p : Int) < 6) = true := decide_eq_true (by omega)
        obtain ⟨b, o, C, e, rfl, a0, a1, a2, a3, hsub0⟩ := h.at_ hlt
        have c0 := hxw.cell a0
        have c1 := hxw.cell a1
        have c2 := hxw.cell a2
        have c3 := hxw.cell a3
        have hsub := hsub0.ext hxw
        have hhi : ts[p].high ≤ 30 := LT.out _ (List.getElem_mem hlt)
        have p0 : (0 : Int) ≤ (p : Int) := Int.natCast_nonneg _
        have p1 : (p : Int) < (ts.length : Int) := by omega
        have lb1 : b < wp.heap.size := World.block_lt_of_cell? wp _ c0
        have lb0 : w.heap.size < wp.heap.size := World.block_lt_of_cell? wp _ hb0
        clear a0 a1 a2 a3
        generalize ts[p] = t at *
        go_wp2_with fail
        refine (copy_all _ t C e _ (Nat.le_refl _) hsub).mono ?_
        rintro e1 w2 ⟨Ai, ci, rfl, hOi, hx2⟩
        have hIn := hOi.at_
        clear hOi
        go_upto_region 7 with (fail)
        have hxi : Ext wp (w2.alloc (Obj.cells #[.int .i64 t.kind, .string t.name, .int .i64 t.n, .slice Ai t.args.length ci] 28)) := hx2.alloc _
        have n0 : (w2.alloc (Obj.cells #[.int .i64 t.kind, .string t.name, .int .i64 t.n, .slice Ai t.args.length ci] 28)).cell? ⟨w2.heap.size, 0, none⟩ = some (.int .i64 t.kind) := by go_simp
        have n1 : (w2.alloc (Obj.cells #[.int .i64 t.kind, .string t.name, .int .i64 t.n, .slice Ai t.args.length ci] 28)).cell? ⟨w2.heap.size, 1, none⟩ = some (.string t.name) := by go_simp
        have n2 : (w2.alloc (Obj.cells #[.int .i64 t.kind, .string t.name, .int .i64 t.n, .slice Ai t.args.length ci] 28)).cell? ⟨w2.heap.size, 2, none⟩ = some (.int .i64 t.n) := by go_simp
        have n3 : (w2.alloc (Obj.cells #[.int .i64 t.kind, .string t.name, .int .i64 t.n, .slice Ai t.args.length ci] 28)).cell? ⟨w2.heap.size, 3, none⟩ = some (.slice Ai t.args.length ci) := by go_simp
        have hInW : TmAt (w2.alloc (Obj.cells #[.int .i64 t.kind, .string t.name, .int .i64 t.n, .slice Ai t.args.length ci] 28)) t Ai ci := hIn.ext ((Ext.refl _).alloc _)
        have lg : w2.heap.size < (w2.alloc (Obj.cells #[.int .i64 t.kind, .string t.name, .int .i64 t.n, .slice Ai t.args.length ci] 28)).heap.size := by simp
        generalize (w2.alloc (Obj.cells #[.int .i64 t.kind, .string t.name, .int .i64 t.n, .slice Ai t.args.length ci] 28)) = wi at *
        generalize w2.heap.size = g at *
        clear hIn hx2
        by_cases hmay : mayB t = true
        · have R := Lib.hid hmay
          have hocc := may_occ hmay
          obtain ⟨_, hvl⟩ := vars_sub t.high t (Nat.le_refl _)
          have ZV : Hid (∀ s ∈ varsT t, s.size ≤ 140737488351232) := Lib.hid fun s hs => hsub.names s ((vars_sub t.high t (Nat.le_refl _)).1 s hs)
          have HSZ := Lib.hid (size_same hmay)
          clear hmay
          have hx_wi : Ext wi wi := Ext.refl _
          go_wp2_with fail
          refine (Depth_yes t Ai ci _ (hInW.ext hx_wi) R.out).mono ?_
          rintro e3 w3 ⟨rfl, hy3⟩
          have hx3 : Ext wi w3 := hx_wi.trans hy3
          have m00 := hx3.cell n0
          have m01 := hx3.cell n1
          have m02 := hx3.cell n2
          have m03 := hx3.cell n3
          go_wp2_with fail
          refine (Size_yes t Ai ci _ (hInW.ext hx3) R.out).mono ?_
          rintro e4 w4 ⟨rfl, hy4⟩
          have hx4 : Ext wi w4 := hx3.trans hy4
          have m10 := hx4.cell n0
          have m11 := hx4.cell n1
          have m12 := hx4.cell n2
          have m13 := hx4.cell n3
          clear m00 m01 m02 m03
          go_wp2_with fail
          refine (Ground_yes t Ai ci _ (hInW.ext hx4) R.out).mono ?_
          rintro e5 w5 ⟨rfl, hy5⟩
          have hx5 : Ext wi w5 := hx4.trans hy5
          have m20 := hx5.cell n0
          have m21 := hx5.cell n1
          have m22 := hx5.cell n2
          have m23 := hx5.cell n3
          clear m10 m11 m12 m13
          go_wp2_with fail
          refine (Atom_yes t Ai ci _ (hInW.ext hx5) R.out).mono ?_
          rintro e6 w6 ⟨rfl, hy6⟩
          have hx6 : Ext wi w6 := hx5.trans hy6
          have m30 := hx6.cell n0
          have m31 := hx6.cell n1
          have m32 := hx6.cell n2
          have m33 := hx6.cell n3
          clear m20 m21 m22 m23
          go_wp2_with fail
          refine (Vars_yes t Ai ci _ (hInW.ext hx6) R.out).mono ?_
          rintro e7 w7 ⟨gv, cv, rfl, hown, hgv, hy7⟩
          have hx7 : Ext wi w7 := hx6.trans hy7
          have k0 := hx7.cell n0
          have k1 := hx7.cell n1
          have k2 := hx7.cell n2
          have k3 := hx7.cell n3
          clear m30 m31 m32 m33
          have hxp7 := hxi.trans hx7
          have q0 := hxp7.cell c0
          have q1 := hxp7.cell c1
          have q2 := hxp7.cell c2
          have q3 := hxp7.cell c3
          have hb07 := hxp7.cell hb0
          have hsub7 := hsub.ext hxp7
          have hstr : StrsAt w7 (varsT t) (some ⟨gv, 0, none⟩) := fun i hi => ⟨gv, 0, rfl, by rw [Nat.zero_add]; exact (hown.2 i hi).1, ZV.out _ (List.getElem_mem hi)⟩
          have HOW := Lib.hid hown
          clear hown
          have kT := rTerm_any t C e w7 hsub7 (by omega)
          rw [R.out] at kT
          have KT := Lib.hid kT
          clear kT
          go_wp2_with fail
          refine KT.out.mono ?_
          rintro e8 w8 ⟨rfl, hx8⟩
          go_upto_if 70 with (fail)
          go_cut [15, 16, 17, 18, 19, 20] (fun v15 v16 v17 v18 v19 v20 wx => ∃ (AV : Option Addr) (cx : Nat), v15 = .int .i64 0 ∧ v16 = .int .i64 t.high ∧ v17 = .int .i64 (sizeT t) ∧ v18 = .bool (groundT t) ∧ v19 = .bool (atomB t) ∧ v20 = .slice AV (varsT t).length cx ∧ StrsAt wx (varsT t) AV ∧ Ext w7 wx)
          case first =>
            as_aux_lemma =>
              go_upto_region 16 with (fail)
              have keyD : Hid (∀ u : World, Ext w8 u → Calls Try.prog 17 #[t.val C e] u fun e w' => e = .returned (.int .i64 t.high) ∧ Ext w8 w') :=
                Lib.hid fun u k => (rDepth_any t.high t C e u (Nat.le_refl _) (by omega) (hsub7.ext (hx8.trans k))).mono fun _ _ ⟨he, hk⟩ => ⟨he, k.trans hk⟩
              have keyZ : Hid (∀ u : World, Ext w8 u → Calls Try.prog 18 #[t.val C e] u fun e w' => e = .returned (.int .i64 (sizeT t)) ∧ Ext w8 w') :=
                Lib.hid fun u k => (rSize_any t C e u (hsub7.ext (hx8.trans k)) (by omega)).mono fun _ _ ⟨he, hk⟩ => ⟨by rw [he, HSZ.out], k.trans hk⟩
              have rulesM := fun (u : World) (k : Ext w8 u) => And.intro ((hx8.trans k).cell q0) (And.intro ((hx8.trans k).cell q1) (And.intro ((hx8.trans k).cell q2) ((hx8.trans k).cell q3)))
              have rulesB := fun (u : World) (k : Ext w8 u) => (hx8.trans k).cell hb07
              have hZ0 := Ext.refl w8
              go_cut [16, 17] (fun v16 v17 wx => v16 = .int .i64 t.high ∧ v17 = .int .i64 (sizeT t) ∧ Ext w8 wx)
              case first =>
                go_region_held3 (fun u => Ext w8 u) (first | assumption | exact hZ0.drew)
                  (first
                    | (go_at_call 17; refine (keyD.out _ (by assumption)).mono ?_; rintro e9 w9 ⟨rfl, hS9⟩)
                    | (go_at_call 18; refine (keyZ.out _ (by assumption)).mono ?_; rintro e9 w9 ⟨rfl, hS9⟩))
                all_goals
                  clear rulesM rulesB
                  go_wp2_with fail
                  go_meet
                  exact ⟨rfl, rfl, by assumption⟩
              case rest =>
                obtain ⟨rfl, rfl, hx9⟩ := hcut
                obtain ⟨w9, rfl⟩ : ∃ w9 : World, w9 = wc := ⟨_, rfl⟩
                have hx79 := hx8.trans hx9
                have keyG : Hid (∀ u : World, Ext w9 u → Calls Try.prog 19 #[t.val C e] u fun e w' => e = .returned (.bool (groundT t)) ∧ Ext w9 w' ∧ Ext u w') :=
                  Lib.hid fun u k => (rGround_any t C e u (hsub7.ext (hx79.trans k)) R.out).mono fun _ _ ⟨he, hk⟩ => ⟨he, k.trans hk, hk⟩
                have keyA : Hid (∀ u : World, Ext w9 u → Calls Try.prog 20 #[t.val C e] u fun e w' => e = .returned (.bool (atomB t)) ∧ Ext w9 w' ∧ Ext u w') :=
                  Lib.hid fun u k => (rAtom_any t C e u (hsub7.ext (hx79.trans k)) (by omega)).mono fun _ _ ⟨he, hk⟩ => ⟨he, k.trans hk, hk⟩
                have keyV : Hid (∀ u : World, Ext w9 u → Calls Try.prog 21 #[t.val C e] u fun e w' => ∃ AV cx, e = .returned (.slice AV (varsT t).length cx) ∧ StrsAt w' (varsT t) AV ∧ Ext w9 w') :=
                  Lib.hid fun u k => (rVars_any t.high t C e u (Nat.le_refl _) (by omega) (hsub7.ext (hx79.trans k))).mono fun _ _ ⟨v, he, ho, hk⟩ => by
                    obtain ⟨AV, cx, rfl, hS, _, _⟩ := owned_strs2 ho ZV.out
                    exact ⟨AV, cx, he, hS, k.trans hk⟩
                have rulesM := fun (u : World) (k : Ext w9 u) => And.intro ((hx79.trans k).cell q0) (And.intro ((hx79.trans k).cell q1) (And.intro ((hx79.trans k).cell q2) ((hx79.trans k).cell q3)))
                have rulesB := fun (u : World) (k : Ext w9 u) => (hx79.trans k).cell hb07
                have hZ1 := Ext.refl w9
                go_wp2_with fail
                go_region_held3 (fun u => Ext w9 u) (first | assumption | exact hZ1.drew)
                  (first
                    | (go_at_call 19; refine (keyG.out _ (by assumption)).mono ?_; rintro e10 w10 ⟨rfl, hS10, hT10⟩)
                    | (go_at_call 20; refine (keyA.out _ (by assumption)).mono ?_; rintro e11 w11 ⟨rfl, hS11, hT11⟩)
                    | (go_at_call 21; refine (keyV.out _ (by assumption)).mono ?_; rintro e12 w12 ⟨AV, cx, rfl, hSV, hS12⟩))
                all_goals
                  clear rulesM rulesB
                  go_wp2_with fail
                  go_meet
                  exact ⟨AV, cx, rfl, rfl, rfl, rfl, rfl, rfl, by first | exact hSV | exact hSV.ext hT10 | exact hSV.ext hT11 | exact (hSV.ext hT10).ext hT11 | exact (hSV.ext hT11).ext hT10, by first | exact hx79.trans hS10 | exact hx79.trans hS11 | exact hx79.trans hS12⟩
          case rest =>
            as_aux_lemma =>
              obtain ⟨AV, cx, rfl, rfl, rfl, rfl, rfl, rfl, hSV, hx9⟩ := hcut
              obtain ⟨w9, rfl⟩ : ∃ w9 : World, w9 = wc := ⟨_, rfl⟩
              go_wp2_with fail
              have hxi9 := hx7.trans hx9
              have hxp9 := hxp7.trans hx9
              have keyC : Hid (∀ u : World, Ext w9 u → Calls Try.prog 23 #[t.val Ai ci] u fun e w' => e = .returned (.int .i64 0) ∧ Ext w9 w') :=
                Lib.hid fun u k => (check_yes t Ai ci u (hInW.ext (hxi9.trans k)) R.out).mono fun _ _ ⟨he, hk⟩ => ⟨he, k.trans hk⟩
              have keyE : Hid (∀ u : World, Ext w9 u → Calls Try.prog 25 #[t.val Ai ci, t.val C e] u fun e w' => e = .returned (.bool true) ∧ Ext w9 w') :=
                Lib.hid fun u k => (same_any _ _ _ _ _ u (hInW.ext (hxi9.trans k)) (hsub.ext (hxp9.trans k))).mono fun _ _ ⟨he, hk⟩ => ⟨he, k.trans hk⟩
              have keyS : Hid (∀ u : World, Ext w9 u → Calls Try.prog 24 #[Value.slice (some ⟨gv, 0, none⟩) (varsT t).length cv, Value.slice AV (varsT t).length cx] u fun e w' => e = .returned (.bool true) ∧ Ext w9 w') :=
                Lib.hid fun u k => (eqStrs_any (varsT t) _ _ cv cx u ((hstr.ext hx9).ext k) (hSV.ext k) (by omega)).mono fun _ _ ⟨he, hk⟩ => ⟨he, k.trans hk⟩
              have keyn : Hid (∀ (n : Int) (u : World), Ext w9 u → Calls Try.prog 22 #[.int .i64 n] u fun e w' => e = .returned (.int .i64 n) ∧ Ext w9 w') :=
                Lib.hid fun n u k => (num_any n u).mono fun _ _ ⟨he, hk⟩ => ⟨he, hk ▸ k⟩
              have rulesN := fun (u : World) (k : Ext w9 u) => And.intro ((hxi9.trans k).cell n0) (And.intro ((hxi9.trans k).cell n1) (And.intro ((hxi9.trans k).cell n2) ((hxi9.trans k).cell n3)))
              have rulesM := fun (u : World) (k : Ext w9 u) => And.intro ((hxp9.trans k).cell c0) (And.intro ((hxp9.trans k).cell c1) (And.intro ((hxp9.trans k).cell c2) ((hxp9.trans k).cell c3)))
              have rulesB := fun (u : World) (k : Ext w9 u) => (hxp9.trans k).cell hb0
              have s1 : ((t.high : Int) != t.high) = false := by simp
              have s2 : (sizeT t != sizeT t) = false := by simp
              have s3 : (groundT t != groundT t) = false := by simp
              have s4 : (atomB t != atomB t) = false := by simp
              have hZ0 := Ext.refl w9
              clear c0 c1 c2 c3 hb0 n0 n1 n2 n3
              simp only [List.append_eq, List.cons_append, List.nil_append]
              go_region_held3 (fun u => Ext w9 u) (first | assumption | exact hZ0.drew)
                (first
                  | (go_at_call 22; refine (keyn.out _ _ (by assumption)).mono ?_; rintro e9 w10 ⟨rfl, hS9⟩)
                  | (go_at_call 23; refine (keyC.out _ (by assumption)).mono ?_; rintro e9 w10 ⟨rfl, hS9⟩)
                  | (go_at_call 24; refine (keyS.out _ (by assumption)).mono ?_; rintro e9 w10 ⟨rfl, hS9⟩)
                  | (go_at_call 25; refine (keyE.out _ (by assumption)).mono ?_; rintro e9 w10 ⟨rfl, hS9⟩))
              clear rulesN rulesM rulesB keyC keyE keyS keyn
              go_wp2_with fail
              refine (spoilStrs_any (varsT t) gv cv _ (HOW.out.ext (hx9.trans hS9)) (by omega)).mono ?_
              rintro e12 w12 ⟨rfl, hC12⟩
              have hx12 : Ext wi w12 := Chg.ext_of ((hx7.trans hx9).trans hS9) hC12 (fun x hx => by subst hx; have := hx6.size; omega)
              go_wp2_with fail
              go_roundw
              case rel => exact ⟨p + 1, by omega, by go_num, (hxp.trans hxi).trans hx12⟩
              case measure => simp [intOf]; omega
        · have R := Lib.hid (not_true hmay)
          clear hmay
          have hx_wi : Ext wi wi := Ext.refl _
          go_wp2_with fail
          refine (Depth_no t Ai ci _ (hInW.ext hx_wi) R.out).mono ?_
          rintro e3 w3 ⟨rfl, hy3⟩
          have hx3 : Ext wi w3 := hx_wi.trans hy3
          have m00 := hx3.cell n0
          have m01 := hx3.cell n1
          have m02 := hx3.cell n2
          have m03 := hx3.cell n3
          go_wp2_with fail
          refine (Size_no t Ai ci _ (hInW.ext hx3) R.out).mono ?_
          rintro e4 w4 ⟨rfl, hy4⟩
          have hx4 : Ext wi w4 := hx3.trans hy4
          have m10 := hx4.cell n0
          have m11 := hx4.cell n1
          have m12 := hx4.cell n2
          have m13 := hx4.cell n3
          clear m00 m01 m02 m03
          go_wp2_with fail
          refine (Ground_no t Ai ci _ (hInW.ext hx4) R.out).mono ?_
          rintro e5 w5 ⟨rfl, hy5⟩
          have hx5 : Ext wi w5 := hx4.trans hy5
          have m20 := hx5.cell n0
          have m21 := hx5.cell n1
          have m22 := hx5.cell n2
          have m23 := hx5.cell n3
          clear m10 m11 m12 m13
          go_wp2_with fail
          refine (Atom_no t Ai ci _ (hInW.ext hx5) R.out).mono ?_
          rintro e6 w6 ⟨rfl, hy6⟩
          have hx6 : Ext wi w6 := hx5.trans hy6
          have m30 := hx6.cell n0
          have m31 := hx6.cell n1
          have m32 := hx6.cell n2
          have m33 := hx6.cell n3
          clear m20 m21 m22 m23
          go_wp2_with fail
          refine (Vars_no t Ai ci _ (hInW.ext hx6) R.out).mono ?_
          rintro e7 w7 ⟨rfl, hy7⟩
          have hx7 : Ext wi w7 := hx6.trans hy7
          have k0 := hx7.cell n0
          have k1 := hx7.cell n1
          have k2 := hx7.cell n2
          have k3 := hx7.cell n3
          clear m30 m31 m32 m33
          have hxp7 := hxi.trans hx7
          have q0 := hxp7.cell c0
          have q1 := hxp7.cell c1
          have q2 := hxp7.cell c2
          have q3 := hxp7.cell c3
          have hb07 := hxp7.cell hb0
          have hsub7 := hsub.ext hxp7
          have kT := rTerm_any t C e w7 hsub7 (by omega)
          rw [R.out] at kT
          have KT := Lib.hid kT
          clear kT
          go_wp2_with fail
          refine KT.out.mono ?_
          rintro e8 w9 ⟨rfl, hx9⟩
          clear k0 k1 k2 k3 q0 q1 q2 q3 hb07
          go_wp2_with fail
          have hxi9 := hx7.trans hx9
          have hxp9 := hxp7.trans hx9
          have keyC : Hid (∀ u : World, Ext w9 u → Calls Try.prog 23 #[t.val Ai ci] u fun e w' => e = .returned (.int .i64 1) ∧ Ext w9 w') :=
            Lib.hid fun u k => (check_no t Ai ci u (hInW.ext (hxi9.trans k)) R.out).mono fun _ _ ⟨he, hk⟩ => ⟨he, k.trans hk⟩
          have keyE : Hid (∀ u : World, Ext w9 u → Calls Try.prog 25 #[t.val Ai ci, t.val C e] u fun e w' => e = .returned (.bool true) ∧ Ext w9 w') :=
            Lib.hid fun u k => (same_any _ _ _ _ _ u (hInW.ext (hxi9.trans k)) (hsub.ext (hxp9.trans k))).mono fun _ _ ⟨he, hk⟩ => ⟨he, k.trans hk⟩
          have keyS : Hid (∀ u : World, Ext w9 u → Calls Try.prog 24 #[Value.slice none 0 0, Value.slice none 0 0] u fun e w' => e = .returned (.bool true) ∧ Ext w9 w') :=
            Lib.hid fun u k => (eqStrs_any [] none none 0 0 u (fun i hi => absurd hi (by simp)) (fun i hi => absurd hi (by simp)) (by simp)).mono fun _ _ ⟨he, hk⟩ => ⟨he, k.trans hk⟩
          have keyn : Hid (∀ (n : Int) (u : World), Ext w9 u → Calls Try.prog 22 #[.int .i64 n] u fun e w' => e = .returned (.int .i64 n) ∧ Ext w9 w') :=
            Lib.hid fun n u k => (num_any n u).mono fun _ _ ⟨he, hk⟩ => ⟨he, hk ▸ k⟩
          have rulesN := fun (u : World) (k : Ext w9 u) => And.intro ((hxi9.trans k).cell n0) (And.intro ((hxi9.trans k).cell n1) (And.intro ((hxi9.trans k).cell n2) ((hxi9.trans k).cell n3)))
          have rulesM := fun (u : World) (k : Ext w9 u) => And.intro ((hxp9.trans k).cell c0) (And.intro ((hxp9.trans k).cell c1) (And.intro ((hxp9.trans k).cell c2) ((hxp9.trans k).cell c3)))
          have rulesB := fun (u : World) (k : Ext w9 u) => (hxp9.trans k).cell hb0
          have hZ0 := Ext.refl w9
          clear c0 c1 c2 c3 hb0 n0 n1 n2 n3
          simp only [List.append_eq, List.cons_append, List.nil_append]
          go_region_held3 (fun u => Ext w9 u) (first | assumption | exact hZ0.drew)
            (first
              | (go_at_call 22; refine (keyn.out _ _ (by assumption)).mono ?_; rintro e9 w10 ⟨rfl, hS9⟩)
              | (go_at_call 23; refine (keyC.out _ (by assumption)).mono ?_; rintro e9 w10 ⟨rfl, hS9⟩)
              | (go_at_call 24; refine (keyS.out _ (by assumption)).mono ?_; rintro e9 w10 ⟨rfl, hS9⟩)
              | (go_at_call 25; refine (keyE.out _ (by assumption)).mono ?_; rintro e9 w10 ⟨rfl, hS9⟩))
          clear rulesN rulesM rulesB keyC keyE keyS keyn
          go_wp2_with fail
          refine (spoil_nil _).mono ?_
          rintro e12 w12 ⟨rfl, rfl⟩
          go_wp2_with fail
          go_roundw
          case rel => exact ⟨p + 1, by omega, by go_num, (hxp.trans hxp9).trans hS9⟩
          case measure => simp [intOf]; omega
      · have hcase : Hid (p < ts.length → ¬ p < 6) := Lib.hid fun a b => hboth ⟨a, b⟩
        clear hboth
        by_cases hlt : p < ts.length
        all_goals
          first
            | have h6' : decide ((p : Int) < 6) = false := decide_eq_false (by have := hcase.out hlt; omega)
            | skip
          go_wp2_with fail
          refine (wakes_any _).mono ?_
          rintro e w9 ⟨rfl, hx9⟩
          go_wp2_with fail
          go_ret
          exact ⟨rfl, hxw.trans hx9⟩
end Go.Proofs.Ytfcceomhdngneaa
