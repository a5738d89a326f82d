/- SpanOne: its walk. -/
import Derived.Test.YtgpjfagkjmnpgaaDoorSqi
namespace Go.Proofs.YtgpjfagkjmnpgaaDoor
open Go.RowKit Go.Maps

set_option maxRecDepth 100000 in
set_option maxHeartbeats 8000000 in
theorem one_walk : SpanWalk AskAt 5 := by
  intro xs A c ns B d ss C e w h hA
  have hx0 := (Ext.refl w).alloc (.cells (askCells xs.length A c ns.length B d ss.length C e) 26)
  have KH := Lib.hid (heavy_any xs.length A c ns.length B d ss C e _ h.slen (h.strs.ext hx0))
  have HXA := Lib.hid (And.intro h.sps hA)
  clear h hA
  cases hv : heavyB xs.length ns.length ss with
  | true =>
    rw [hv] at KH
    go_enter Tryd.func5, Tryd.ntmps5
    go_wp2_with fail
    refine KH.out.mono ?_
    rintro e w1 ⟨rfl, hx1⟩
    go_wp2_with fail
    go_ret
    exact ⟨rfl, hx0.trans hx1⟩
  | false =>
    rw [hv] at KH
    go_enter Tryd.func5, Tryd.ntmps5
    go_wp2_with fail
    refine KH.out.mono ?_
    rintro e w1 ⟨rfl, hx1⟩
    have hbox : w1.cell? ⟨w.heap.size, 0, none⟩ = some (.slice A xs.length c) := hx1.cell (by go_simp)
    have HX1 := Lib.hid (hx0.trans hx1)
    have HB := Lib.hid hbox
    have HS := Lib.hid (And.intro (HXA.out.1.ext HX1.out) (HXA.out.2.ext HX1.out))
    clear hx0 hx1 KH HXA hbox
    go_wp2_with fail
    go_loopw [3] (fun i wr => ∃ k : Nat, k ≤ xs.length ∧ i = .int .i64 k ∧ Ext w1 wr) (fun i _ => xs.length - (intOf i).toNat)
    case atStart => exact ⟨0, Nat.zero_le _, rfl, Ext.refl _⟩
    case round =>
      obtain ⟨i, hi, rfl, hxi⟩ := hrel
      obtain ⟨wi, rfl⟩ : ∃ wi : World, wi = wr := ⟨_, rfl⟩
      have hbx := hxi.cell HB.out
      by_cases hgo : i < xs.length ∧ i < 6
      · obtain ⟨hlt, h6⟩ := hgo
        have h6' : (i : Int) < 6 := by omega
        have i0 : (0 : Int) ≤ (i : Int) := Int.natCast_nonneg _
        have i1 : (i : Int) < (xs.length : Int) := by omega
        obtain ⟨b, o, rfl, _, _⟩ := HS.out.1 i hlt
        go_wp2_with fail
        go_loopw [4] (fun i wr => ∃ k : Nat, k ≤ xs.length ∧ i = .int .i64 k ∧ Ext wi wr) (fun i _ => xs.length - (intOf i).toNat)
        case atStart => exact ⟨0, Nat.zero_le _, rfl, Ext.refl _⟩
        case round =>
          obtain ⟨k, hk, rfl, hxk⟩ := hrel
          obtain ⟨wk, rfl⟩ : ∃ wk : World, wk = wr := ⟨_, rfl⟩
          have hx1k := hxi.trans hxk
          have hbx := hx1k.cell HB.out
          by_cases hgo2 : k < xs.length ∧ k < 6
          · obtain ⟨hlt2, h62⟩ := hgo2
            have h62' : (k : Int) < 6 := by omega
            have k0 : (0 : Int) ≤ (k : Int) := Int.natCast_nonneg _
            have k1 : (k : Int) < (xs.length : Int) := by omega
            go_upto_region 9 with (fail)
            obtain ⟨a0, a1⟩ := sp_at HS.out.1 hlt
            obtain ⟨b0, b1⟩ := sp_at HS.out.1 hlt2
            obtain ⟨x, hx⟩ : ∃ x : Sp, x = xs[i] := ⟨_, rfl⟩
            obtain ⟨y, hy⟩ : ∃ y : Sp, y = xs[k] := ⟨_, rfl⟩
            rw [← hx] at a0 a1
            rw [← hy] at b0 b1
            clear hx hy
            have c0 := hx1k.cell a0
            have c1 := hx1k.cell a1
            have d0 := hx1k.cell b0
            have d1 := hx1k.cell b1
            clear a0 a1 b0 b1
            go_cut [5, 6] (fun p5 p6 wx => ∃ ga gb : Nat, p5 = .pointer (some ⟨ga, 0, none⟩) ∧ p6 = .pointer (some ⟨gb, 0, none⟩) ∧ Box2 wx ga x ∧ Box2 wx gb y ∧ Ext wk wx)
            case first =>
              have r0 : ∀ u, Ext wk u → u.cell? ⟨b, o + i * 2, none⟩ = some (.int .i64 x.1) := fun u hu => hu.cell c0
              have r1 : ∀ u, Ext wk u → u.cell? ⟨b, o + i * 2 + 1, none⟩ = some (.int .i64 x.2) := fun u hu => hu.cell c1
              have r2 : ∀ u, Ext wk u → u.cell? ⟨b, o + k * 2, none⟩ = some (.int .i64 y.1) := fun u hu => hu.cell d0
              have r3 : ∀ u, Ext wk u → u.cell? ⟨b, o + k * 2 + 1, none⟩ = some (.int .i64 y.2) := fun u hu => hu.cell d1
              have r4 : ∀ u, Ext wk u → u.cell? ⟨w.heap.size, 0, none⟩ = some (.slice (some ⟨b, o, none⟩) xs.length c) := fun u hu => hu.cell hbx
              have hI := Ext.refl wk
              clear c0 c1 d0 d1 hbx
              go_region_held3 (fun u => Ext wk u) (first | (with_reducible assumption) | (with_reducible exact hI.drew) | (repeat (first | (with_reducible exact hI) | (with_reducible exact hI.drew) | (with_reducible refine Ext.setCell ?_ ?_ _) | (with_reducible refine Ext.alloc ?_ _) | (with_reducible refine Ext.drew ?_) | (simp; done) | (simp; omega))))
                (fail)
              · go_wp2_with fail
                go_meet
                exact ⟨_, _, rfl, rfl, ⟨by go_simp, by go_simp⟩, ⟨by go_simp, by go_simp⟩, ((hI.alloc _).alloc _).drew⟩
              · go_wp2_with fail
                go_meet
                exact ⟨_, _, rfl, rfl, ⟨by go_simp, by go_simp⟩, ⟨by go_simp, by go_simp⟩, ((hI.alloc _).alloc _).drew⟩
            case rest =>
              obtain ⟨ga, gb, rfl, rfl, hBa, hBb, hxc⟩ := hcut
              obtain ⟨wx, rfl⟩ : ∃ wx : World, wx = wc := ⟨_, rfl⟩
              have hx1x := hx1k.trans hxc
              have hAx := HS.out.2.ext hx1x
              clear c0 c1 d0 d1 hbx
              obtain ⟨⟨f, t⟩, rfl⟩ : ∃ x' : Sp, x' = x := ⟨_, rfl⟩
              obtain ⟨⟨f', t'⟩, rfl⟩ : ∃ x' : Sp, x' = y := ⟨_, rfl⟩
              have HBx := Lib.hid (And.intro hBa hBb)
              have KL := Lib.hid (All_any f t f' t' wx hAx)
              have KM := Lib.hid (fun u (hu : Ext wx u) => All_any f' t' f t u (hAx.ext hu))
              have KU := Lib.hid (fun u => Hull_any f t f' t' u)
              obtain ⟨p0, p1⟩ := hBa
              obtain ⟨q0, q1⟩ := hBb
              cases hMM : (spB f t && spB f' t') with
              | false =>
                have hMM2 : (spB f' t' && spB f t) = false := by rw [Bool.and_comm]; exact hMM
                have HO : Hid (∀ e u, AllOut wx f t f' t' e u → e = .returned (.tuple #[.slice none 0 0, .int .i64 1]) ∧ Ext wx u) := Lib.hid fun e u h => by
                  unfold AllOut at h; rw [hMM] at h; exact h
                have HO2 : Hid (∀ z e u, AllOut z f' t' f t e u → e = .returned (.tuple #[.slice none 0 0, .int .i64 1]) ∧ Ext z u) := Lib.hid fun z e u h => by
                  unfold AllOut at h; rw [hMM2] at h; exact h
                have hU : hullOut f t f' t' = .tuple #[spV 0 0, .int .i64 1] := by unfold hullOut; rw [hMM]; rfl
                rw [hU] at KU
                clear hU hMM hMM2
                go_wp2_with fail
                refine KL.out.mono ?_
                intro e w5 hout
                obtain ⟨rfl, hx5⟩ := HO.out _ _ hout
                obtain ⟨m0, m1⟩ := HBx.out.1.ext hx5
                obtain ⟨m2, m3⟩ := HBx.out.2.ext hx5
                clear p0 p1 q0 q1 hout
                go_wp2_with fail
                refine (KM.out _ hx5).mono ?_
                intro e w6 hout
                obtain ⟨rfl, hx6⟩ := HO2.out _ _ _ hout
                have hx56 := hx5.trans hx6
                obtain ⟨n0, n1⟩ := HBx.out.1.ext hx56
                obtain ⟨n2, n3⟩ := HBx.out.2.ext hx56
                clear m0 m1 m2 m3 hout hx5 hx6
                go_wp2_with fail
                refine (KU.out _).mono ?_
                rintro e w7 ⟨rfl, hx7⟩
                have hx57 := (hxk.trans hxc).trans (hx56.trans hx7)
                clear n0 n1 n2 n3 hx56 hx7
                go_wp2_with fail
                refine (num_any _ _).mono ?_
                rintro e w8 ⟨rfl, rfl⟩
                go_wp2_with fail
                go_roundw
                case rel => exact ⟨k + 1, by omega, by go_num, hx57.alloc _⟩
                case measure => simp [intOf]; omega
              | true =>
                have hms : spB f t = true ∧ spB f' t' = true := by simpa using hMM
                have hMM2 : (spB f' t' && spB f t) = true := by rw [Bool.and_comm]; exact hMM
                have hft : f ≤ t := by have := hms.1; simp [spB] at this; omega
                have hft' : f' ≤ t' := by have := hms.2; simp [spB] at this; omega
                have HO : Hid (∀ e u, AllOut wx f t f' t' e u → ∃ v, e = .returned (.tuple #[v, .int .i64 0]) ∧ IntsOut wx (allI f t f' t') v u) := Lib.hid fun e u h => by
                  unfold AllOut at h; rw [hMM] at h; exact h
                have HO2 : Hid (∀ z e u, AllOut z f' t' f t e u → ∃ v, e = .returned (.tuple #[v, .int .i64 0]) ∧ IntsOut z (allI f' t' f t) v u) := Lib.hid fun z e u h => by
                  unfold AllOut at h; rw [hMM2] at h; exact h
                have hU : hullOut f t f' t' = .tuple #[spV (mnI f f') (mxI t t'), .int .i64 0] := by unfold hullOut; rw [hMM]; rfl
                rw [hU] at KU
                obtain ⟨LL, hLL⟩ : ∃ LL, LL = allI f t f' t' := ⟨_, rfl⟩
                obtain ⟨MM, hMMe⟩ : ∃ MM, MM = allI f' t' f t := ⟨_, rfl⟩
                obtain ⟨n, hn⟩ : ∃ n, n = LL.length := ⟨_, rfl⟩
                have hnM : MM.length = n := by rw [hn, hLL, hMMe]; exact (all_back _ _ _ _).symm
                have hpos : 0 < n := by rw [hn, hLL]; exact all_some hft hft'
                have hn13 : n ≤ 13 := by rw [hn, hLL]; exact allUp_len _ _ _ _ 13
                have HTI : Hid (∀ r, r ∈ LL → turnE r = 0 ∧ turnI r ∈ MM) := Lib.hid fun r hr => by rw [hMMe]; rw [hLL] at hr; exact turn_in hr
                have HONE : Hid (f < t → f' < t' → n = 1) := Lib.hid fun a b => by rw [hn, hLL]; exact all_one a b
                obtain ⟨mn, hmn⟩ : ∃ z, z = mnI f f' := ⟨_, rfl⟩
                obtain ⟨mx, hmx⟩ : ∃ z, z = mxI t t' := ⟨_, rfl⟩
                have hm1 : ¬ f < mn := by rw [hmn]; unfold mnI; split <;> omega
                have hm2 : ¬ f' < mn := by rw [hmn]; unfold mnI; split <;> omega
                have hm3 : ¬ mx < t := by rw [hmx]; unfold mxI; split <;> omega
                have hm4 : ¬ mx < t' := by rw [hmx]; unfold mxI; split <;> omega
                rw [← hmn, ← hmx] at KU
                rw [← hLL] at HO
                rw [← hMMe] at HO2
                have HN := Lib.hid (And.intro hn hnM)
                have q1 : ((n : Int) == 0) = false := by simp; omega
                clear hU hMM hMM2 hms hLL hMMe hn hnM hmn hmx
                go_wp2_with fail
                refine KL.out.mono ?_
                intro e w5 hout
                obtain ⟨v5, rfl, hown, hx5⟩ := HO.out _ _ hout
                obtain ⟨A5, c5, rfl, _, hI5⟩ := owned_ints hown
                obtain ⟨m0, m1⟩ := HBx.out.1.ext hx5
                obtain ⟨m2, m3⟩ := HBx.out.2.ext hx5
                rw [← HN.out.1]
                clear p0 p1 q0 hout hown
                go_wp2_with fail
                refine (KM.out _ hx5).mono ?_
                intro e w6 hout
                obtain ⟨v6, rfl, hown, hx6⟩ := HO2.out _ _ _ hout
                obtain ⟨A6, c6, rfl, _, hI6⟩ := owned_ints hown
                have hx56 := hx5.trans hx6
                obtain ⟨n0, n1⟩ := HBx.out.1.ext hx56
                obtain ⟨n2, n3⟩ := HBx.out.2.ext hx56
                rw [HN.out.2]
                clear m0 m1 m2 m3 hout hown
                go_wp2_with fail
                refine (KU.out _).mono ?_
                rintro e w7 ⟨rfl, hx7⟩
                obtain ⟨w8, hw8⟩ : ∃ w8, w8 = w7.alloc (.cells #[.int .i64 mn, .int .i64 mx] 32) := ⟨_, rfl⟩
                have hx8 : Ext w7 w8 := by rw [hw8]; exact (Ext.refl w7).alloc _
                have g0 : w8.cell? ⟨w7.heap.size, 0, none⟩ = some (.int .i64 mn) := by rw [hw8]; go_simp
                have g1 : w8.cell? ⟨w7.heap.size, 1, none⟩ = some (.int .i64 mx) := by rw [hw8]; go_simp
                have hx58 := (hx56.trans hx7).trans hx8
                obtain ⟨m0, m1⟩ := HBx.out.1.ext hx58
                obtain ⟨m2, m3⟩ := HBx.out.2.ext hx58
                have HI := Lib.hid (And.intro (hI5.ext ((hx6.trans hx7).trans hx8)) (hI6.ext (hx7.trans hx8)))
                have hxk8 := (hxk.trans hxc).trans hx58
                have HW8 := Lib.hid hw8
                clear n0 n1 n2 n3 hw8 hI5 hI6 hx5 hx6 hx7 hx8 hx56 hx58 KL KM KU HO HO2
                go_wp2_with fail
                rw [← HW8.out]
                refine (num_any _ _).mono ?_
                rintro e w9 ⟨rfl, rfl⟩
                go_wp2_with fail
                refine (num_any _ _).mono ?_
                rintro e w10 ⟨rfl, rfl⟩
                go_wp2_with fail
                refine (num_any _ _).mono ?_
                rintro e w11 ⟨rfl, rfl⟩
                have hthree : (f < t ∧ f' < t' ∧ ((n : Int) != 1) = false) ∨ (f < t ∧ decide (f' < t') = false) ∨ decide (f < t) = false := by
                  by_cases a1 : f < t
                  · by_cases a2 : f' < t'
                    · exact .inl ⟨a1, a2, by rw [HONE.out a1 a2]; rfl⟩
                    · exact .inr (.inl ⟨a1, decide_eq_false a2⟩)
                  · exact .inr (.inr (decide_eq_false a1))
                have i5 := HI.out.1
                have i6 := HI.out.2
                clear hft hft' HONE
                rcases hthree with ⟨a1, a2, a3⟩ | ⟨a1, a2⟩ | a1
                all_goals
                  go_wp2_with fail
                  go_loopw [13] (fun j wr => ∃ z : Nat, z ≤ n ∧ j = .int .i64 z ∧ wr = w11) (fun j _ => n - (intOf j).toNat)
                  case atStart => exact ⟨0, Nat.zero_le _, rfl, rfl⟩
                  case round =>
                    obtain ⟨z, hz, rfl, rfl⟩ := hrel
                    by_cases hlz : z < n
                    · obtain ⟨b5, o5, rfl, e0⟩ := i5 z (by rw [← HN.out.1]; exact hlz)
                      obtain ⟨r, hr⟩ : ∃ r, r = LL[z]'(by rw [← HN.out.1]; exact hlz) := ⟨_, rfl⟩
                      rw [← hr] at e0
                      obtain ⟨te, tm⟩ := HTI.out r (by rw [hr]; exact List.getElem_mem _)
                      have KT := Lib.hid (fun u => Turn_any r u)
                      rw [te] at KT
                      have KN := Lib.hid (fun u (k : Ext wr u) => In_any MM (turnI r) A6 c6 u (by rw [HN.out.2]; omega) (i6.ext k) tm)
                      rw [HN.out.2] at KN
                      clear te tm hr
                      go_wp2_with fail
                      refine (KT.out _).mono ?_
                      rintro e w12 ⟨rfl, rfl⟩
                      go_wp2_with fail
                      refine (num_any _ _).mono ?_
                      rintro e w13 ⟨rfl, rfl⟩
                      go_wp2_with fail
                      refine (KN.out _ (Ext.refl _)).mono ?_
                      rintro e w14 ⟨⟨kk, rfl⟩, rfl⟩
                      have hkk : ¬ ((kk : Int) < 0) := by omega
                      go_wp2_with fail
                      go_roundw
                      case rel => exact ⟨z + 1, by omega, by go_num, by first | trivial | rfl⟩
                      case measure => simp [intOf]; omega
                    · go_wp2_with fail
                      go_roundw
                      case rel => exact ⟨k + 1, by omega, by go_num, hxk8⟩
                      case measure => simp [intOf]; omega
          · have hor : (¬ k < xs.length) ∨ (k < xs.length ∧ decide ((k : Int) < 6) = false) := by
              by_cases h : k < xs.length
              · exact .inr ⟨h, decide_eq_false (by omega)⟩
              · exact .inl h
            clear hgo2
            rcases hor with hq1 | ⟨hq1, hq2⟩
            · go_wp2_with fail
              go_roundw
              case rel => exact ⟨i + 1, by omega, by go_num, hxi.trans hxk⟩
              case measure => simp [intOf]; omega
            · go_wp2_with fail
              go_roundw
              case rel => exact ⟨i + 1, by omega, by go_num, hxi.trans hxk⟩
              case measure => simp [intOf]; omega
      · have hor : (¬ i < xs.length) ∨ (i < xs.length ∧ decide ((i : Int) < 6) = false) := by
          by_cases h : i < xs.length
          · exact .inr ⟨h, decide_eq_false (by omega)⟩
          · exact .inl h
        have KW := Lib.hid (wakes_any wi (HS.out.2.ext hxi))
        clear hgo
        rcases hor with hq1 | ⟨hq1, hq2⟩
        · go_wp2_with fail
          refine KW.out.mono ?_
          rintro e w9 ⟨rfl, hx9⟩
          go_wp2_with fail
          go_ret
          exact ⟨rfl, (HX1.out.trans hxi).trans hx9⟩
        · go_wp2_with fail
          refine KW.out.mono ?_
          rintro e w9 ⟨rfl, hx9⟩
          go_wp2_with fail
          go_ret
          exact ⟨rfl, (HX1.out.trans hxi).trans hx9⟩
end Go.Proofs.YtgpjfagkjmnpgaaDoor
