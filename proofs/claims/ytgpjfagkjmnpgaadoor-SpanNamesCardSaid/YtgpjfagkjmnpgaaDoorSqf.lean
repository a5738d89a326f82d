/- almagestlaw7.each: one relation, of all small spans and of those that came in. -/
import Derived.Test.YtgpjfagkjmnpgaaDoorSqe
namespace Go.Proofs.YtgpjfagkjmnpgaaDoor
open Go.RowKit Go.Maps

theorem not_true {b : Bool} (h : ¬ b = true) : b = false := by simpa using h
def numsTo (k : Nat) : List Int := (List.range k).map (fun (i : Nat) => (i : Int))
theorem numsTo_len (k : Nat) : (numsTo k).length = k := by simp [numsTo]
theorem numsTo_snoc (k : Nat) : numsTo (k + 1) = numsTo k ++ [(k : Int)] := by simp [numsTo, List.range_succ]
theorem numsTo_at (k i : Nat) (h : i < (numsTo k).length) : (numsTo k)[i] = (i : Int) := by simp [numsTo]

/-- all of them may be -/
def MayL (xs : List Sp) : Prop := ∀ x ∈ xs, spB x.1 x.2 = true
theorem MayL.snoc {xs : List Sp} {x : Sp} (h : MayL xs) (hx : spB x.1 x.2 = true) : MayL (xs ++ [x]) := by
  intro y hy
  rcases List.mem_append.1 hy with e | e
  · exact h y e
  · rw [List.mem_singleton.1 e]; exact hx
theorem sp_small {a b : Nat} (h : a ≤ b) (hb : b < 6) : spB (a : Int) (b : Int) = true := by simp [spB]; omega

set_option maxRecDepth 100000 in
set_option maxHeartbeats 4000000 in
theorem each_any (r : Int) (h1 : 1 ≤ r) (h13 : r ≤ 13) (xs : List Sp) (A : Option Addr) (c : Nat) (m : Nat) (B : Option Addr) (d : Nat) (ss : List ByteArray) (C : Option Addr) (e : Nat) (w : World)
    (hX : SpsAt w xs A) (hl : ss.length * 16 ≤ 140737488351232) (hS : StrsAt w ss C) (hA : AskAt w) :
    Calls Tryd.prog 39 #[.agg (askCells xs.length A c m B d ss.length C e), .int .i64 r] w fun e w' => e = .returned (.bool true) ∧ Ext w w' := by
  obtain ⟨i0, hi0, hz0, hz1, hz2⟩ := info_parts infoInt
  obtain ⟨j0, hj0, hy0, hy1, hy2⟩ := info_parts infoSp
  have hx0 := (Ext.refl w).alloc (.cells (askCells xs.length A c m B d ss.length C e) 26)
  have KH := Lib.hid (heavy_any xs.length A c m B d ss C e _ hl (hS.ext hx0))
  have HXA := Lib.hid (And.intro hX hA)
  clear hX hA hS
  cases hv : heavyB xs.length m ss with
  | true =>
    rw [hv] at KH
    go_enter Tryd.func39, Tryd.ntmps39
    go_wp2_with fail
    refine KH.out.mono ?_
    rintro e w1 ⟨rfl, hx1⟩
    go_wp2_with fail
    go_ret
    exact ⟨rfl, hx0.trans hx1⟩
  | false =>
    rw [hv] at KH
    go_enter Tryd.func39, Tryd.ntmps39
    go_wp2_with fail
    refine KH.out.mono ?_
    rintro e w1 ⟨rfl, hx1⟩
    have hbox : w1.cell? ⟨w.heap.size, 0, none⟩ = some (.slice A xs.length c) := hx1.cell (by go_simp)
    have hx01 := hx0.trans hx1
    have HX01 := Lib.hid hx01
    have hsz1 := hx01.size
    clear hx0 hx1 KH hx01
    go_wp2_with fail
    refine (copyNil_any _).mono ?_
    rintro e w2 ⟨rfl, rfl⟩
    go_wp2_with fail
    go_loopw [5, 6] (fun v i wr => ∃ k : Nat, k ≤ 6 ∧ i = .int .i64 k ∧ wr.ownsRow w2.heap.size 3 1 v k (intCells (numsTo k)) ∧ Ext w2 wr) (fun _ i _ => 6 - (intOf i).toNat)
    case atStart => exact ⟨0, by omega, rfl, World.ownsRow_nil _ _ _ _, Ext.refl _⟩
    case round =>
      obtain ⟨k, hk, rfl, hown, hx⟩ := hrel
      by_cases hlt : k < 6
      · have hk6 : (k : Int) < 6 := by omega
        have hsz := hx.size
        go_wp2_with (at_builtin; refine wpList_app _ rfl _ _ 23 rfl w2.heap.size 3 i0 _ 1 8 Tryd.underlying23 hi0 hz0 hz1 hz2 rfl (by decide) _ k (intCells (numsTo k)) rfl (hown.alloc _) (some ⟨wr.heap.size, 0, none⟩) 1 1 [.int .i64 (k : Int)] rfl (Src.box wr #[.int .i64 (k : Int)] 3 1 rfl) ?c2 ?c3 ?c4 ?c5 ?_)
        case c2 => intro u hu; simp at hu; subst hu; rfl
        case c3 => simp only [maxLen]; omega
        case c4 => omega
        case c5 => simp; omega
        intro v' w4 hown4 hgrow _
        have hx4 : Ext w2 w4 := Below.grown (hx.alloc _) hgrow (by simp; omega) (fun b hb => (hown.lt b hb).1)
        have hown5 : w4.ownsRow w2.heap.size 3 1 v' (k + 1) (intCells (numsTo (k + 1))) := by rw [numsTo_snoc, intCells_snoc]; exact hown4
        clear hown4 hgrow hown
        go_wp2_with fail
        go_roundw
        case rel => exact ⟨k + 1, by omega, by go_num, hown5, hx4⟩
        case measure => simp [intOf]; omega
      · obtain ⟨n, rfl⟩ : ∃ n : Nat, n = k := ⟨_, rfl⟩
        have h6n : 6 ≤ n := by omega
        have hown' : wr.ownsRow w2.heap.size 3 1 u5 (numsTo n).length (intCells (numsTo n)) := by rw [numsTo_len]; exact hown
        obtain ⟨L, lc, rfl, _, hL⟩ := owned_ints hown'
        rw [numsTo_len] at *
        clear hown hown'
        obtain ⟨wa, rfl⟩ : ∃ wa : World, wa = wr := ⟨_, rfl⟩
        have hL' : ∀ i, i < 6 → ∃ b o, L = some ⟨b, o, none⟩ ∧ wa.cell? ⟨b, o + i, none⟩ = some (.int .i64 (i : Int)) := fun i hi => by
          have := hL i (by rw [numsTo_len]; omega)
          rwa [numsTo_at] at this
        obtain ⟨lb, lo, hLe, _⟩ := hL' 0 (by omega)
        subst hLe
        have hC : ∀ i, i < 6 → wa.cell? ⟨lb, lo + i, none⟩ = some (.int .i64 (i : Int)) := fun i hi => by
          obtain ⟨b, o, e, h⟩ := hL' i hi
          injection e with e; injection e with e1 e2
          subst e1; subst e2; exact h
        have HC := Lib.hid hC
        clear hL hL' hC
        have HXa := Lib.hid hx
        have hsza := hx.size
        have hbox1 := hx.cell hbox
        clear hbox
        go_wp2_with fail
        go_loopw [7, 8] (fun v i wr => ∃ (k : Nat) (ys : List Sp), k ≤ n ∧ i = .int .i64 k ∧ ys.length ≤ k * 6 ∧ wr.ownsRow wa.heap.size 32 2 v ys.length (spCells ys) ∧ Hid (MayL ys) ∧ Ext wa wr) (fun _ i _ => 6 - (intOf i).toNat)
        case atStart => exact ⟨0, [], by omega, rfl, by simp, World.ownsRow_nil _ _ _ _, Lib.hid (fun x hx => by cases hx), Ext.refl _⟩
        case round =>
          obtain ⟨k, ys, hk, rfl, hys, hown, HM, hx⟩ := hrel
          obtain ⟨wb, rfl⟩ : ∃ wb : World, wb = wr := ⟨_, rfl⟩
          by_cases hlt : k < n
          · have hk6 : (k : Int) < (n : Int) := by omega
            go_wp2_with fail
            go_loopw [7, 9] (fun v i wr => ∃ (j : Nat) (zs : List Sp), k ≤ j ∧ j ≤ n ∧ i = .int .i64 j ∧ zs.length ≤ k * 6 + j ∧ wr.ownsRow wa.heap.size 32 2 v zs.length (spCells zs) ∧ Hid (MayL zs) ∧ Ext wa wr) (fun _ i _ => 6 - (intOf i).toNat)
            case atStart => exact ⟨k, ys, Nat.le_refl _, by omega, rfl, by omega, hown, HM, hx⟩
            case round =>
              obtain ⟨j, zs, hkj, hj, rfl, hzs, hown2, HM2, hx2⟩ := hrel
              by_cases hlt2 : j < n
              · have hj6 : (j : Int) < (n : Int) := by omega
                have hxa := hx2
                have hsz := hxa.size
                have c0 := HC.out k (by omega)
                have c1 := HC.out j (by omega)
                have k0 : (0 : Int) ≤ (k : Int) := Int.natCast_nonneg _
                have j0' : (0 : Int) ≤ (j : Int) := Int.natCast_nonneg _
                have HM3 := Lib.hid (HM2.out.snoc (x := ((k : Int), (j : Int))) (sp_small hkj (by omega)))
                have r0 : ∀ u, Ext wa u → u.cell? ⟨lb, lo + k, none⟩ = some (.int .i64 (k : Int)) := fun u hu => hu.cell c0
                have r1 : ∀ u, Ext wa u → u.cell? ⟨lb, lo + j, none⟩ = some (.int .i64 (j : Int)) := fun u hu => hu.cell c1
                clear c0 c1
                go_wp2_with fail
                go_region_held3 (fun u => Ext wa u) (first | assumption | exact hxa.drew | exact Ext.alloc hxa.drew _)
                  ((refine step_app _ (by rfl) _ _ 22 (by rfl) wa.heap.size 32 j0 _ 2 16 Tryd.underlying22 hj0 hy0 hy1 hy2 rfl (by decide) _ zs.length (spCells zs) (by rfl) (hown2.drew.alloc _) (some ⟨wr.heap.size, 0, none⟩) 1 1 [.int .i64 (k : Int), .int .i64 (j : Int)] (by rfl) (Src.box wr.drew #[.int .i64 (k : Int), .int .i64 (j : Int)] 32 2 rfl) (by intro u hu; simp at hu; rcases hu with rfl | rfl <;> rfl) (by simp only [maxLen]; omega) (by omega) (by simp; omega) ?_; intro v7 w7 ho7 hg7 _; have hS7 : Ext wa w7 := (hxa.drew.alloc _).own (hown2.drew.alloc _) (Nat.le_refl _) hg7))
                have hown5 : w7.ownsRow wa.heap.size 32 2 v7 (zs ++ [((k : Int), (j : Int))]).length (spCells (zs ++ [((k : Int), (j : Int))])) := by rw [spCells_snoc, List.length_append]; exact ho7
                clear ho7 hg7 r0 r1 hown2
                go_wp2_with fail
                go_roundw
                case rel => exact ⟨j + 1, _, by omega, by omega, by go_num, by rw [List.length_append]; simp; omega, hown5, HM3, hS7⟩
                case measure => simp [intOf]; omega
              · go_wp2_with fail
                go_roundw
                case rel => exact ⟨k + 1, zs, by omega, by go_num, by omega, hown2, HM2, hx2⟩
                case measure => simp [intOf]; omega
          · have HB := Lib.hid hbox1
            have hx9 := hx
            clear hbox1 hx
            go_wp2_with fail
            go_loopw [7, 10] (fun v i wr => ∃ (k : Nat) (zs : List Sp), k ≤ xs.length ∧ k ≤ 4 ∧ i = .int .i64 k ∧ zs.length ≤ 36 + k ∧ wr.ownsRow wa.heap.size 32 2 v zs.length (spCells zs) ∧ Hid (MayL zs) ∧ Ext wa wr) (fun _ i _ => 4 - (intOf i).toNat)
            case atStart => exact ⟨0, ys, Nat.zero_le _, by omega, rfl, by omega, hown, HM, hx9⟩
            case round =>
              obtain ⟨k, zs, hkx, hk4, rfl, hzs, hown2, HM2, hx2⟩ := hrel
              have hbx := hx2.cell HB.out
              by_cases hgo : k < xs.length ∧ k < 4
              · obtain ⟨hlt, h4⟩ := hgo
                have h4' : (k : Int) < 4 := by omega
                have hlt' : (k : Int) < (xs.length : Int) := by omega
                have k0 : (0 : Int) ≤ (k : Int) := Int.natCast_nonneg _
                obtain ⟨b, o, rfl, a0, a1⟩ := HXA.out.1 k hlt
                have hxw := (HX01.out.trans HXa.out).trans hx2
                have c0 := hxw.cell a0
                have c1 := hxw.cell a1
                have KP := Lib.hid (fun u => rSpan_any xs[k].1 xs[k].2 u)
                clear a0 a1
                cases hmay : spB xs[k].1 xs[k].2 with
                | false =>
                  rw [hmay] at KP
                  go_wp2_with fail
                  refine (KP.out _).mono ?_
                  rintro e w5 ⟨rfl, hx5⟩
                  have hown5 : w5.ownsRow wa.heap.size 32 2 _ zs.length (spCells zs) := ownsRow_ext hown2 hx5
                  clear hown2
                  go_wp2_with fail
                  go_roundw
                  case rel => exact ⟨k + 1, zs, by omega, by omega, by go_num, by omega, hown5, HM2, hx2.trans hx5⟩
                  case measure => simp [intOf]; omega
                | true =>
                  rw [hmay] at KP
                  go_wp2_with fail
                  refine (KP.out _).mono ?_
                  rintro e w5 ⟨rfl, hx5⟩
                  have hown5 : w5.ownsRow wa.heap.size 32 2 _ zs.length (spCells zs) := ownsRow_ext hown2 hx5
                  have hx25 := hx2.trans hx5
                  have hsz := hx25.size
                  have d0 := hx5.cell c0
                  have d1 := hx5.cell c1
                  have dbx := hx5.cell hbx
                  have HM3 := Lib.hid (HM2.out.snoc (x := xs[k]) hmay)
                  clear hown2 c0 c1 hbx
                  go_wp2_with (at_builtin; refine wpList_app _ rfl _ _ 22 rfl wa.heap.size 32 j0 _ 2 16 Tryd.underlying22 hj0 hy0 hy1 hy2 rfl (by decide) _ zs.length (spCells zs) rfl (hown5.alloc _) (some ⟨w5.heap.size, 0, none⟩) 1 1 [.int .i64 xs[k].1, .int .i64 xs[k].2] rfl (Src.box w5 #[.int .i64 xs[k].1, .int .i64 xs[k].2] 32 2 rfl) ?c2 ?c3 ?c4 ?c5 ?_)
                  case c2 => intro u hu; simp at hu; rcases hu with rfl | rfl <;> rfl
                  case c3 => simp only [maxLen]; omega
                  case c4 => omega
                  case c5 => simp; omega
                  intro v' w6 hown6 hgrow _
                  have hx6 : Ext wa w6 := Below.grown (hx25.alloc _) hgrow (by simp; omega) (fun b hb => (hown5.lt b hb).1)
                  have hown7 : w6.ownsRow wa.heap.size 32 2 v' (zs ++ [xs[k]]).length (spCells (zs ++ [xs[k]])) := by rw [spCells_snoc, List.length_append]; exact hown6
                  clear hown6 hgrow hown5
                  go_wp2_with fail
                  go_roundw
                  case rel => exact ⟨k + 1, _, by omega, by omega, by go_num, by rw [List.length_append]; simp; omega, hown7, HM3, hx6⟩
                  case measure => simp [intOf]; omega
              · have hor : (¬ k < xs.length) ∨ (k < xs.length ∧ decide ((k : Int) < 4) = false) := by
                  by_cases h : k < xs.length
                  · exact .inr ⟨h, decide_eq_false (by omega)⟩
                  · exact .inl h
                obtain ⟨SA, sc, rfl, _, hSp⟩ := owned_sps hown2
                obtain ⟨wc, rfl⟩ : ∃ wc : World, wc = wr := ⟨_, rfl⟩
                have HSp := Lib.hid hSp
                have HXc := Lib.hid ((HX01.out.trans HXa.out).trans hx2)
                have HAc := Lib.hid (HXA.out.2.ext HXc.out)
                clear hown2 hown hx9 hsza hsz1 hx2 hSp hgo
                rcases hor with hq1 | ⟨hq1, hq2⟩
                all_goals
                  go_wp2_with fail
                  go_loopw [11] (fun i wr => ∃ p : Nat, p ≤ zs.length ∧ i = .int .i64 p ∧ Ext wc wr) (fun i _ => zs.length - (intOf i).toNat)
                  case atStart => exact ⟨0, Nat.zero_le _, rfl, Ext.refl _⟩
                  case round =>
                    obtain ⟨p, hp, rfl, hxp⟩ := hrel
                    obtain ⟨wp, rfl⟩ : ∃ wp : World, wp = wr := ⟨_, rfl⟩
                    by_cases hltp : p < zs.length
                    · go_wp2_with fail
                      go_loopw [12] (fun i wr => ∃ q : Nat, q ≤ zs.length ∧ i = .int .i64 q ∧ Ext wp wr) (fun i _ => zs.length - (intOf i).toNat)
                      case atStart => exact ⟨0, Nat.zero_le _, rfl, Ext.refl _⟩
                      case round =>
                        obtain ⟨q, hq, rfl, hxq⟩ := hrel
                        by_cases hltq : q < zs.length
                        · have hxcq := hxp.trans hxq
                          obtain ⟨b, o, rfl, a0, a1⟩ := HSp.out p hltp
                          obtain ⟨b', o', eA, b0, b1⟩ := HSp.out q hltq
                          injection eA with eA
                          injection eA with eb eo
                          subst eb
                          subst eo
                          have m1 := HM2.out zs[p] (List.getElem_mem hltp)
                          have m2 := HM2.out zs[q] (List.getElem_mem hltq)
                          have R0 : ∀ u : ExtOf wr, _ := ext_cell (hxcq.cell a0)
                          have R1 : ∀ u : ExtOf wr, _ := ext_cell (hxcq.cell a1)
                          have R2 : ∀ u : ExtOf wr, _ := ext_cell (hxcq.cell b0)
                          have R3 : ∀ u : ExtOf wr, _ := ext_cell (hxcq.cell b1)
                          clear a0 a1 b0 b1
                          obtain ⟨⟨f, t⟩, hft⟩ : ∃ x : Sp, x = zs[p] := ⟨_, rfl⟩
                          obtain ⟨⟨f', t'⟩, hft'⟩ : ∃ x : Sp, x = zs[q] := ⟨_, rfl⟩
                          rw [← hft] at R0 R1 m1
                          rw [← hft'] at R2 R3 m2
                          clear hft hft'
                          have KI : Hid (∀ u : ExtOf wr, Calls Tryd.prog 23 #[.int .i64 r, spV f t, spV f' t'] u.to fun e w' => e = .returned (.tuple #[.bool (isB r f t f' t'), .int .i64 0]) ∧ Ext u.to w') := Lib.hid fun u => by
                            have hr : rlB r = true := by simp [rlB, h1, h13]
                            have := Is_any r f t f' t' u.to (HAc.out.ext (hxcq.trans u.is))
                            have e1 : isT r f t f' t' = isB r f t f' t' := by unfold isT; rw [hr, m1, m2]; rfl
                            have e2 : isE r f t f' t' = 0 := by unfold isE; rw [hr, m1, m2]; rfl
                            rwa [e1, e2] at this
                          have i0' : (0 : Int) ≤ (p : Int) := Int.natCast_nonneg _
                          have i1' : (p : Int) < (zs.length : Int) := by omega
                          have i2' : (0 : Int) ≤ (q : Int) := Int.natCast_nonneg _
                          have i3' : (q : Int) < (zs.length : Int) := by omega
                          obtain ⟨X, hXX⟩ : ∃ X, X = isB r f t f' t' := ⟨_, rfl⟩
                          have hne : (X != X) = false := by simp
                          rw [← hXX] at KI
                          have HXX := Lib.hid hXX
                          clear hXX m1 m2
                          go_wp2_with fail
                          refine wp_region_ext (by kernel_rfl) (by kernel_rfl) ?_
                          repeat (go_big_quiet_step ((go_at_call 23; exact of_ext (KI.out _))))
                          refine wpQuiet_nil ?_
                          refine ext_all ?_
                          intro w8 hx8
                          have S0 : ∀ u : ExtOf w8, _ := ext_cell (hx8.cell (R0 ⟨wr, Ext.refl _⟩))
                          have S1 : ∀ u : ExtOf w8, _ := ext_cell (hx8.cell (R1 ⟨wr, Ext.refl _⟩))
                          have S2 : ∀ u : ExtOf w8, _ := ext_cell (hx8.cell (R2 ⟨wr, Ext.refl _⟩))
                          have S3 : ∀ u : ExtOf w8, _ := ext_cell (hx8.cell (R3 ⟨wr, Ext.refl _⟩))
                          have KN : Hid (∀ u : ExtOf w8, Calls Tryd.prog 20 #[.int .i64 0] u.to fun e w' => e = .returned (.int .i64 0) ∧ Ext u.to w') := Lib.hid fun u => (num_any 0 u.to).mono fun _ _ ⟨e, k⟩ => ⟨e, k ▸ Ext.refl _⟩
                          have KR : Hid (∀ u : ExtOf w8, Calls Tryd.prog 25 #[.int .i64 r, spV f t, spV f' t'] u.to fun e w' => e = .returned (.bool X) ∧ Ext u.to w') := Lib.hid fun u => by
                            rw [HXX.out]; exact rIs_any r f t f' t' u.to h1 h13
                          clear R0 R1 R2 R3 KI
                          go_wp2_with fail
                          refine wp_region_ext (by kernel_rfl) (by kernel_rfl) ?_
                          repeat (go_big_quiet_step (first | (go_at_call 20; exact of_ext (KN.out _)) | (go_at_call 25; exact of_ext (KR.out _))))
                          refine wpQuiet_nil ?_
                          refine ext_all ?_
                          intro w9 hx9
                          clear S0 S1 S2 S3 KN KR
                          go_wp2_with fail
                          go_roundw
                          case rel => exact ⟨q + 1, by omega, by go_num, (hxq.trans hx8).trans hx9⟩
                          case measure => simp [intOf]; omega
                        · go_wp2_with fail
                          go_roundw
                          case rel => exact ⟨p + 1, by omega, by go_num, hxp.trans hxq⟩
                          case measure => simp [intOf]; omega
                    · have HAp := Lib.hid (HAc.out.ext hxp)
                      go_wp2_with fail
                      refine (within_32 _).mono ?_
                      rintro e w8 ⟨rfl, rfl⟩
                      go_wp2_with fail
                      refine (wakes_any _ HAp.out).mono ?_
                      rintro e w9 ⟨rfl, hx9⟩
                      go_wp2_with fail
                      go_ret
                      exact ⟨rfl, (HXc.out.trans hxp).trans hx9⟩
end Go.Proofs.YtgpjfagkjmnpgaaDoor
