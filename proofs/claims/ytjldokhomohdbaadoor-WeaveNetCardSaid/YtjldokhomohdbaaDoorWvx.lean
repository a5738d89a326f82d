/- WeaveSets: its walk. -/
import Derived.Test.YtjldokhomohdbaaDoorWvs
namespace Go.Proofs.YtjldokhomohdbaaDoor
open Go.RowKit Go.Maps

theorem heavy_each {n : Nat} {ls : List (List Int)} (h : heavyB n ls = false) : ∀ l ∈ ls, l.length ≤ 500 := by
  unfold heavyB at h
  have h2 := of_decide_eq_false h
  exact rowsL_each ls ((n : Int) + ls.length) (by omega) (by omega)
theorem row_at {w : World} {ls : List (List Int)} {b o : Nat} (h : RowsAt w ls (some ⟨b, o, none⟩)) {i : Nat} (hi : i < ls.length) : ∃ A c, w.cell? ⟨b, o + i, none⟩ = some (.slice A ls[i].length c) ∧ ls[i].length ≤ c ∧ IntsAt w ls[i] A := by
  obtain ⟨b', o', A, c, e, h0, h1, _, h3⟩ := h i hi
  injection e with e; injection e with e1 e2; subst e1; subst e2
  exact ⟨A, c, h0, h1, h3⟩
theorem int_at {w : World} {ns : List Int} {b o : Nat} (h : IntsAt w ns (some ⟨b, o, none⟩)) {i : Nat} (hi : i < ns.length) : w.cell? ⟨b, o + i, none⟩ = some (.int .i64 ns[i]) := by
  obtain ⟨b', o', e, h0⟩ := h i hi
  injection e with e; injection e with e1 e2; subst e1; subst e2
  exact h0
theorem ints_some {w : World} {ns : List Int} {A : Option Addr} (h : IntsAt w ns A) (hi : 0 < ns.length) : ∃ b o, A = some ⟨b, o, none⟩ := by
  obtain ⟨b, o, e, _⟩ := h 0 hi
  exact ⟨b, o, e⟩
theorem rows_some {w : World} {ls : List (List Int)} {B : Option Addr} (h : RowsAt w ls B) (hi : 0 < ls.length) : ∃ b o, B = some ⟨b, o, none⟩ := by
  obtain ⟨b, o, _, _, e, _⟩ := h 0 hi
  exact ⟨b, o, e⟩
def badI (b : Bool) : Int := if b then 0 else 1
theorem setE_bad (l : List Int) : setE l = badI (allR l) := rfl

set_option maxRecDepth 100000 in
set_option maxHeartbeats 8000000 in
theorem sets_walk (ns : List Int) (A : Option Addr) (c : Nat) (ls : List (List Int)) (B : Option Addr) (d : Nat) (N : Int) (w : World) (h : In8 ns A c ls B d w) (hE : EndAt w) :
    Calls Tryd.prog 3 #[.agg (askCells ns.length A c ls.length B d N)] w fun e w' => e = .returned (.bool true) ∧ Ext w w' := by
  have KH := Lib.hid (fun u (k : Ext w u) => heavy_any ns.length A c ls B d N u h.nlen h.llen (h.rows.ext k))
  have hEE := Lib.hid hE
  clear hE
  obtain ⟨W0, hW0⟩ : ∃ W0, W0 = w.alloc (.cells (askCells ns.length A c ls.length B d N) 25) := ⟨_, rfl⟩
  have hx0 : Ext w W0 := by rw [hW0]; exact (Ext.refl w).alloc _
  have q0 : W0.cell? ⟨w.heap.size, 0, none⟩ = some (.slice A ns.length c) := by rw [hW0]; go_simp
  have q1 : W0.cell? ⟨w.heap.size, 1, none⟩ = some (.slice B ls.length d) := by rw [hW0]; go_simp
  have q2 : W0.cell? ⟨w.heap.size, 2, none⟩ = some (.int .i64 N) := by rw [hW0]; go_simp
  have HW := Lib.hid hW0
  have HI := Lib.hid h
  clear hW0 h
  have HLS := Lib.hid (heavy_each (n := ns.length) (ls := ls))
  cases hh : heavyB ns.length ls with
  | true =>
    rw [hh] at KH
    go_enter Tryd.func3, Tryd.ntmps3
    go_upto_region 1 with (fail)
    rw [← HW.out]
    clear HW
    go_wp2_with fail
    refine (KH.out _ hx0).mono ?_
    rintro e w1 ⟨rfl, hx1⟩
    go_wp2_with fail
    go_ret
    exact ⟨rfl, hx0.trans hx1⟩
  | false =>
    rw [hh] at KH
    go_enter Tryd.func3, Tryd.ntmps3
    go_upto_region 1 with (fail)
    rw [← HW.out]
    obtain ⟨g, hg⟩ : ∃ g, g = w.heap.size := ⟨_, rfl⟩
    rw [← hg] at q0 q1 q2
    rw [← hg]
    clear HW hg
    go_wp2_with fail
    refine (KH.out _ hx0).mono ?_
    rintro e w1 ⟨rfl, hx1⟩
    replace q0 := hx1.cell q0
    replace q1 := hx1.cell q1
    have hx01 := hx0.trans hx1
    clear hx0 hx1 q2 KH
    have HLS2 := Lib.hid (HLS.out hh)
    have hRw := HI.out.rows.ext hx01
    have HX := Lib.hid hx01
    have hll := HI.out.llen
    have hnl := HI.out.nlen
    have KN := Lib.hid (fun n u => num_any n u)
    clear hx01 HLS
    go_wp2_with fail
    go_loopw [3] (fun i wr => ∃ k : Nat, k ≤ ls.length ∧ i = .int .i64 k ∧ Ext w1 wr) (fun i _ => ls.length - (intOf i).toNat)
    case atStart => exact ⟨0, Nat.zero_le _, rfl, Ext.refl _⟩
    case round =>
      obtain ⟨k, hk, rfl, hx⟩ := hrel
      have p1 := hx.cell q1
      by_cases hlt : k < ls.length
      · have hki : (k : Int) < (ls.length : Int) := by omega
        have hk0 : (0 : Int) ≤ (k : Int) := by omega
        by_cases hk8 : (k : Int) < 8
        · obtain ⟨b, o, rfl⟩ := rows_some hRw (by omega)
          obtain ⟨A', c', c0, hc', hJ⟩ := row_at (hRw.ext hx) hlt
          have hl5 := HLS2.out _ (List.getElem_mem hlt)
          have KS := Lib.hid (fun u (hu : IntsAt u ls[k] A') => Set_any ls[k] A' c' u (by omega) hu)
          have HV : Hid (setV ls[k] = if allR ls[k] then (orR ls[k] : Int) else 0) := Lib.hid rfl
          have HE := Lib.hid (setE_bad ls[k])
          obtain ⟨wo, hwo⟩ : ∃ wo, wo = wr := ⟨_, rfl⟩
          rw [← hwo] at hx p1 c0 hJ
          rw [← hwo]
          clear hwo q0
          generalize ls[k] = l at *
          have HX1 := Lib.hid hx
          clear hx
          go_wp2_with fail
          refine (KS.out _ hJ).mono ?_
          rintro e w2 ⟨rfl, hw2⟩
          rw [hw2]
          clear hw2 KS
          go_wp2_with fail
          go_loopw [6, 7, 8] (fun x y i wr => ∃ j : Nat, j ≤ l.length ∧ i = .int .i64 j ∧ x = .int .i64 (badI (allR (l.take j))) ∧ y = .int .i64 (orR (l.take j) : Int) ∧ wr = wo) (fun _ _ i _ => l.length - (intOf i).toNat)
          case atStart => exact ⟨0, Nat.zero_le _, rfl, rfl, rfl, rfl⟩
          case round =>
            obtain ⟨j, hj, rfl, rfl, rfl, hwj⟩ := hrel
            rw [← hwj] at p1 c0 hJ
            by_cases hjl : j < l.length
            · have hji : (j : Int) < (l.length : Int) := by omega
              have hj0 : (0 : Int) ≤ (j : Int) := by omega
              obtain ⟨b2, o2, rfl⟩ := ints_some hJ (by omega)
              have c2 := int_at hJ hjl
              have HT : Hid (l.take (j + 1) = l.take j ++ [l[j]]) := Lib.hid (List.take_succ_eq_append_getElem hjl)
              have h8 := orR_lt l j
              have KR := Lib.hid (fun u => rRel_any l[j] u)
              have HWJ := Lib.hid hwj
              cases hr : rlB l[j] with
              | true =>
                rw [hr] at KR
                obtain ⟨q, hq, hqe⟩ := rl_nat hr
                have HN : Hid (orR (l.take (j + 1)) = orR (l.take j) ||| 2 ^ q) := Lib.hid (by rw [HT.out, orR_snoc, hr, hqe, show ((q : Int) + 1 - 1).toNat = q by omega]; rfl)
                have HA2 : Hid (badI (allR (l.take (j + 1))) = badI (allR (l.take j))) := Lib.hid (by rw [HT.out, allR_snoc, hr, Bool.and_true])
                have HOR := Lib.hid (or64 (orR (l.take j)) (2 ^ q) (by omega) (p16 hq))
                rw [hqe] at c2 KR
                have h2 := two64 hq
                have hq0 : (0 : Int) ≤ (q : Int) := by omega
                have hq13 : (q : Int) < 13 := by omega
                generalize ((2 ^ q : Nat) : Int) = P at *
                generalize orR (l.take j) = X at HN HOR ⊢
                generalize badI (allR (l.take j)) = Y at HA2 ⊢
                clear hqe hr HT h8 hwj
                go_wp2_with fail
                refine (KR.out _).mono ?_
                rintro e w3 ⟨rfl, hw3⟩
                rw [hw3]
                clear hw3
                go_wp2_with fail
                go_roundw
                case rel => exact ⟨j + 1, by omega, by go_num, by rw [HA2.out], by rw [HN.out, HOR.out], HWJ.out⟩
                case measure => simp [intOf]; omega
              | false =>
                rw [hr] at KR
                have HN : Hid (orR (l.take (j + 1)) = orR (l.take j)) := Lib.hid (by rw [HT.out, orR_snoc, hr]; rfl)
                have HA2 : Hid (badI (allR (l.take (j + 1))) = 1) := Lib.hid (by rw [HT.out, allR_snoc, hr, Bool.and_false]; rfl)
                generalize l[j] = xj at *
                clear hr HT h8 hwj
                go_wp2_with fail
                refine (KR.out _).mono ?_
                rintro e w3 ⟨rfl, hw3⟩
                rw [hw3]
                clear hw3
                go_wp2_with fail
                go_roundw
                case rel => exact ⟨j + 1, by omega, by go_num, by rw [HA2.out], by rw [HN.out], HWJ.out⟩
                case measure => simp [intOf]; omega
            · have hji : ¬ ((j : Int) < (l.length : Int)) := by omega
              have HK : Hid (l.take j = l) := Lib.hid (List.take_of_length_le (by omega))
              rw [HK.out]
              have HWJ : Hid (Ext w1 wr) := Lib.hid (by rw [hwj]; exact HX1.out)
              rw [HE.out, HV.out]
              clear hwj HE HV
              cases ha : allR l with
              | true =>
                generalize (orR l : Int) = R
                rw [show badI true = 0 from rfl]
                go_wp2_with fail
                refine (KN.out _ _).mono ?_
                rintro e w3 ⟨rfl, hw3⟩
                rw [hw3]
                clear hw3
                go_wp2_with fail
                go_roundw
                case rel => exact ⟨k + 1, by omega, by go_num, HWJ.out⟩
                case measure => simp [intOf]; omega
              | false =>
                generalize (orR l : Int) = R
                rw [show badI false = 1 from rfl]
                go_wp2_with fail
                refine (KN.out _ _).mono ?_
                rintro e w3 ⟨rfl, hw3⟩
                rw [hw3]
                clear hw3
                go_wp2_with fail
                go_roundw
                case rel => exact ⟨k + 1, by omega, by go_num, HWJ.out⟩
                case measure => simp [intOf]; omega
        · have hk8' : decide ((k : Int) < 8) = false := decide_eq_false hk8
          obtain ⟨wk, hwk⟩ : ∃ wk, wk = wr := ⟨_, rfl⟩
          have hIA := HI.out.ints.ext (HX.out.trans hx)
          have r0 := hx.cell q0
          have HXK := Lib.hid (HX.out.trans hx)
          have HEK := Lib.hid (hEE.out.ext (HX.out.trans hx))
          rw [← hwk] at hIA r0 HXK HEK p1
          rw [← hwk]
          clear hwk hx q0 q1 hRw
          go_wp2_with fail
          go_loopw [9] (fun i wr => ∃ a : Nat, a ≤ ns.length ∧ i = .int .i64 a ∧ Ext wk wr) (fun i _ => ns.length - (intOf i).toNat)
          case atStart => exact ⟨0, Nat.zero_le _, rfl, Ext.refl _⟩
          case round =>
            obtain ⟨a, ha, rfl, hxa⟩ := hrel
            have s0 := hxa.cell r0
            by_cases hla : a < ns.length
            · have hai : (a : Int) < (ns.length : Int) := by omega
              have ha0 : (0 : Int) ≤ (a : Int) := by omega
              by_cases ha8 : (a : Int) < 8
              · obtain ⟨bl, o, rfl⟩ := ints_some hIA (by omega)
                have c0 := int_at (hIA.ext hxa) hla
                have KL := Lib.hid (fun u => List_any ns[a] u)
                have KT := Lib.hid (fun u => Turn_any ns[a] u)
                have KS := Lib.hid (fun u => lset_any ns[a] u)
                unfold LsOut at KL
                have HL : Hid (listL ns[a] = if stB ns[a] then lsUp ns[a].toNat 13 else []) := Lib.hid rfl
                have HE : Hid (listE ns[a] = if stB ns[a] then 0 else 1) := Lib.hid rfl
                have HT : Hid (turnV ns[a] = if stB ns[a] then (turnS ns[a].toNat : Int) else 0) := Lib.hid rfl
                obtain ⟨wo, hwo⟩ : ∃ wo, wo = wr := ⟨_, rfl⟩
                rw [← hwo] at hxa s0 c0
                rw [← hwo]
                generalize ns[a] = x at *
                have HXA := Lib.hid hxa
                clear hxa hwo r0
                go_wp2_with fail
                refine (KL.out _).mono ?_
                rintro e w2 ⟨v, rfl, hown, hx2⟩
                replace c0 := hx2.cell c0
                replace s0 := hx2.cell s0
                obtain ⟨A', c', rfl, hc', hJ⟩ := owned_ints hown
                clear hown KL
                go_wp2_with fail
                refine (KT.out _).mono ?_
                rintro e w3 ⟨rfl, hx3⟩
                replace c0 := hx3.cell c0
                replace s0 := hx3.cell s0
                replace hJ := hJ.ext hx3
                have HX3 := Lib.hid ((HXA.out.trans hx2).trans hx3)
                clear hx2 hx3 KT HXA
                cases h1 : stB x with
                | false =>
                  rw [h1] at KS HL HE HT
                  have HL0 : Hid (listL x = []) := HL
                  have HE0 : Hid (listE x = 1) := HE
                  have HT0 : Hid (turnV x = 0) := HT
                  rw [HL0.out] at hJ hc'
                  rw [HL0.out, HE0.out, HT0.out]
                  have KQ := Lib.hid (fun u (k : Ext w3 u) => eqInts_any [] [] A' none c' 0 u (by simp) (hJ.ext k) (fun i hi => absurd hi (by simp)))
                  simp only [List.length_nil] at KQ hc' ⊢
                  rw [show (([] : List Int) == []) = true from rfl] at KQ
                  clear HL HE HT HL0 HE0 HT0 h1
                  go_wp2_with fail
                  refine (KS.out _).mono ?_
                  rintro e w4 ⟨rfl, rfl⟩
                  go_wp2_with fail
                  refine (KN.out _ _).mono ?_
                  rintro e w5 ⟨rfl, rfl⟩
                  go_wp2_with fail
                  refine (KN.out _ _).mono ?_
                  rintro e w5 ⟨rfl, rfl⟩
                  go_wp2_with fail
                  refine (KQ.out _ (Ext.refl _)).mono ?_
                  rintro e w6 ⟨rfl, hx6⟩
                  have HX6 := Lib.hid (HX3.out.trans hx6)
                  go_wp2_with fail
                  go_roundw
                  case rel => exact ⟨a + 1, by omega, by go_num, HX6.out⟩
                  case measure => simp [intOf]; omega
                | true =>
                  obtain ⟨X, rfl, hX⟩ := st_nat h1
                  rw [h1] at KS HL HE HT
                  have HL0 : Hid (listL (X : Int) = lsUp X 13) := HL
                  have HE0 : Hid (listE (X : Int) = 0) := HE
                  have HT0 : Hid (turnV (X : Int) = (turnS X : Int)) := HT
                  rw [HL0.out] at hJ hc'
                  rw [HL0.out, HE0.out, HT0.out]
                  have KU := Lib.hid (fun u => rTurnSet_any X hX u)
                  have KQ := Lib.hid (fun u B' d' (k : Ext w3 u) (hB : IntsAt u (lsUp X 13) B') => eqInts_any (lsUp X 13) (lsUp X 13) A' B' c' d' u (by have := ls_len13 X; omega) (hJ.ext k) hB)
                  have hlen13 := ls_len13 X
                  generalize (turnS X : Int) = R at *
                  clear HL HE HT HL0 HE0 HT0 h1
                  obtain ⟨i0, hi0, hz0, hz1, hz2⟩ := info_parts infoInt
                  go_wp2_with fail
                  refine (KS.out _).mono ?_
                  rintro e w4 ⟨rfl, rfl⟩
                  go_wp2_with fail
                  refine (KU.out _).mono ?_
                  rintro e w4 ⟨rfl, rfl⟩
                  clear KS KU
                  go_wp2_with fail
                  go_loopw [16, 17] (fun v r wr => ∃ k : Nat, k ≤ 13 ∧ r = .int .i64 ((k : Int) + 1) ∧ wr.ownsRow w4.heap.size 3 1 v (lsUp X k).length (intCells (lsUp X k)) ∧ Ext w4 wr) (fun _ r _ => 14 - (intOf r).toNat)
                  case atStart => exact ⟨0, by omega, rfl, World.ownsRow_nil _ _ _ _, Ext.refl _⟩
                  case round =>
                    obtain ⟨k2, hk2, rfl, hown, hx5⟩ := hrel
                    by_cases hlt2 : k2 < 13
                    · have hle : (k2 : Int) + 1 ≤ 13 := by omega
                      have hk20 : (0 : Int) ≤ (k2 : Int) := by omega
                      have hk213 : (k2 : Int) < 13 := by omega
                      have hlen := lsUp_len X k2
                      have hxs := hx5.size
                      have t0 := hx5.cell s0
                      have t1 := hx5.cell c0
                      have HS : Hid (lsUp X (k2 + 1) = lsUp X k2 ++ if X.testBit k2 then [(k2 : Int) + 1] else []) := Lib.hid rfl
                      have HB := Lib.hid (bitsI X k2 hX)
                      cases h4 : X.testBit k2 with
                      | true =>
                        have HB1 : (bits .and .i64 ((X : Int) / 2 ^ k2) 1 == 1) = true := HB.out.trans h4
                        have HS2 : Hid (lsUp X (k2 + 1) = lsUp X k2 ++ [(k2 : Int) + 1]) := Lib.hid (by rw [HS.out, h4]; rfl)
                        clear HS h4
                        go_wp2_with (at_builtin; refine wpList_app _ rfl _ _ 22 rfl w4.heap.size 3 i0 _ 1 8 Tryd.underlying22 hi0 hz0 hz1 hz2 rfl (by decide) _ _ (intCells (lsUp X k2)) rfl (hown.alloc _) (some ⟨wr.heap.size, 0, none⟩) 1 1 [.int .i64 ((k2 : Int) + 1)] rfl (Src.box wr #[.int .i64 ((k2 : Int) + 1)] 3 1 rfl) ?c2 ?c3 ?c4 ?c5 ?_)
                        case c2 => intro u hu; simp at hu; subst hu; rfl
                        case c3 => simp only [maxLen]; omega
                        case c4 => omega
                        case c5 => simp; omega
                        intro v' w5 hown4 hgrow _
                        have hx6 : Ext w4 w5 := Below.grown (hx5.alloc _) hgrow (by simp; omega) (fun b hb => (hown.lt b hb).1)
                        have hown5 : w5.ownsRow w4.heap.size 3 1 v' (lsUp X (k2 + 1)).length (intCells (lsUp X (k2 + 1))) := by rw [HS2.out, intCells_snoc, List.length_append]; exact hown4
                        clear hown4 hgrow hown
                        go_wp2_with fail
                        go_roundw
                        case rel => exact ⟨k2 + 1, by omega, by go_num, hown5, hx6⟩
                        case measure => simp [intOf]; omega
                      | false =>
                        have HB1 : (bits .and .i64 ((X : Int) / 2 ^ k2) 1 == 1) = false := HB.out.trans h4
                        have HS2 : Hid (lsUp X (k2 + 1) = lsUp X k2) := Lib.hid (by rw [HS.out, h4]; exact List.append_nil _)
                        clear HS h4
                        go_wp2_with fail
                        go_roundw
                        case rel => exact ⟨k2 + 1, by omega, by go_num, by rw [HS2.out]; exact hown, hx5⟩
                        case measure => simp [intOf]; omega
                    · have hge : ¬ ((k2 : Int) + 1 ≤ 13) := by omega
                      have hk213 : k2 = 13 := by omega
                      rw [hk213] at hown
                      obtain ⟨B', d', rfl, hd', hJ2⟩ := owned_ints hown
                      have KQ2 := Lib.hid (fun u (k : Ext wr u) => KQ.out u B' d' (hx5.trans k) (hJ2.ext k))
                      have HX5 := Lib.hid (HX3.out.trans hx5)
                      rw [show (lsUp X 13 == lsUp X 13) = true from beq_self_eq_true _] at KQ2
                      clear hown hJ2 KQ hk213
                      go_wp2_with fail
                      refine (KN.out _ _).mono ?_
                      rintro e w6 ⟨rfl, rfl⟩
                      go_wp2_with fail
                      refine (KN.out _ _).mono ?_
                      rintro e w6 ⟨rfl, rfl⟩
                      go_wp2_with fail
                      refine (KQ2.out _ (Ext.refl _)).mono ?_
                      rintro e w7 ⟨rfl, hx7⟩
                      have HX7 := Lib.hid (HX5.out.trans hx7)
                      go_wp2_with fail
                      go_roundw
                      case rel => exact ⟨a + 1, by omega, by go_num, HX7.out⟩
                      case measure => simp [intOf]; omega
              · have ha8' : decide ((a : Int) < 8) = false := decide_eq_false ha8
                have KW := Lib.hid (wakes_any wr (HEK.out.ext hxa))
                have HXA := Lib.hid hxa
                go_wp2_with fail
                refine KW.out.mono ?_
                rintro e w9 ⟨rfl, hx9⟩
                go_wp2_with fail
                go_ret
                exact ⟨rfl, (HXK.out.trans HXA.out).trans hx9⟩
            · have hai : ¬ ((a : Int) < (ns.length : Int)) := by omega
              have hai' : decide ((a : Int) < (ns.length : Int)) = false := decide_eq_false hai
              have KW := Lib.hid (wakes_any wr (HEK.out.ext hxa))
              have HXA := Lib.hid hxa
              go_wp2_with fail
              refine KW.out.mono ?_
              rintro e w9 ⟨rfl, hx9⟩
              go_wp2_with fail
              go_ret
              exact ⟨rfl, (HXK.out.trans HXA.out).trans hx9⟩
      · have hki : ¬ ((k : Int) < (ls.length : Int)) := by omega
        have hki' : decide ((k : Int) < (ls.length : Int)) = false := decide_eq_false hki
        obtain ⟨wk, hwk⟩ : ∃ wk, wk = wr := ⟨_, rfl⟩
        have hIA := HI.out.ints.ext (HX.out.trans hx)
        have r0 := hx.cell q0
        have HXK := Lib.hid (HX.out.trans hx)
        have HEK := Lib.hid (hEE.out.ext (HX.out.trans hx))
        rw [← hwk] at hIA r0 HXK HEK p1
        rw [← hwk]
        clear hwk hx q0 q1 hRw
        go_wp2_with fail
        go_loopw [9] (fun i wr => ∃ a : Nat, a ≤ ns.length ∧ i = .int .i64 a ∧ Ext wk wr) (fun i _ => ns.length - (intOf i).toNat)
        case atStart => exact ⟨0, Nat.zero_le _, rfl, Ext.refl _⟩
        case round =>
          obtain ⟨a, ha, rfl, hxa⟩ := hrel
          have s0 := hxa.cell r0
          by_cases hla : a < ns.length
          · have hai : (a : Int) < (ns.length : Int) := by omega
            have ha0 : (0 : Int) ≤ (a : Int) := by omega
            by_cases ha8 : (a : Int) < 8
            · obtain ⟨bl, o, rfl⟩ := ints_some hIA (by omega)
              have c0 := int_at (hIA.ext hxa) hla
              have KL := Lib.hid (fun u => List_any ns[a] u)
              have KT := Lib.hid (fun u => Turn_any ns[a] u)
              have KS := Lib.hid (fun u => lset_any ns[a] u)
              unfold LsOut at KL
              have HL : Hid (listL ns[a] = if stB ns[a] then lsUp ns[a].toNat 13 else []) := Lib.hid rfl
              have HE : Hid (listE ns[a] = if stB ns[a] then 0 else 1) := Lib.hid rfl
              have HT : Hid (turnV ns[a] = if stB ns[a] then (turnS ns[a].toNat : Int) else 0) := Lib.hid rfl
              obtain ⟨wo, hwo⟩ : ∃ wo, wo = wr := ⟨_, rfl⟩
              rw [← hwo] at hxa s0 c0
              rw [← hwo]
              generalize ns[a] = x at *
              have HXA := Lib.hid hxa
              clear hxa hwo r0
              go_wp2_with fail
              refine (KL.out _).mono ?_
              rintro e w2 ⟨v, rfl, hown, hx2⟩
              replace c0 := hx2.cell c0
              replace s0 := hx2.cell s0
              obtain ⟨A', c', rfl, hc', hJ⟩ := owned_ints hown
              clear hown KL
              go_wp2_with fail
              refine (KT.out _).mono ?_
              rintro e w3 ⟨rfl, hx3⟩
              replace c0 := hx3.cell c0
              replace s0 := hx3.cell s0
              replace hJ := hJ.ext hx3
              have HX3 := Lib.hid ((HXA.out.trans hx2).trans hx3)
              clear hx2 hx3 KT HXA
              cases h1 : stB x with
              | false =>
                rw [h1] at KS HL HE HT
                have HL0 : Hid (listL x = []) := HL
                have HE0 : Hid (listE x = 1) := HE
                have HT0 : Hid (turnV x = 0) := HT
                rw [HL0.out] at hJ hc'
                rw [HL0.out, HE0.out, HT0.out]
                have KQ := Lib.hid (fun u (k : Ext w3 u) => eqInts_any [] [] A' none c' 0 u (by simp) (hJ.ext k) (fun i hi => absurd hi (by simp)))
                simp only [List.length_nil] at KQ hc' ⊢
                rw [show (([] : List Int) == []) = true from rfl] at KQ
                clear HL HE HT HL0 HE0 HT0 h1
                go_wp2_with fail
                refine (KS.out _).mono ?_
                rintro e w4 ⟨rfl, rfl⟩
                go_wp2_with fail
                refine (KN.out _ _).mono ?_
                rintro e w5 ⟨rfl, rfl⟩
                go_wp2_with fail
                refine (KN.out _ _).mono ?_
                rintro e w5 ⟨rfl, rfl⟩
                go_wp2_with fail
                refine (KQ.out _ (Ext.refl _)).mono ?_
                rintro e w6 ⟨rfl, hx6⟩
                have HX6 := Lib.hid (HX3.out.trans hx6)
                go_wp2_with fail
                go_roundw
                case rel => exact ⟨a + 1, by omega, by go_num, HX6.out⟩
                case measure => simp [intOf]; omega
              | true =>
                obtain ⟨X, rfl, hX⟩ := st_nat h1
                rw [h1] at KS HL HE HT
                have HL0 : Hid (listL (X : Int) = lsUp X 13) := HL
                have HE0 : Hid (listE (X : Int) = 0) := HE
                have HT0 : Hid (turnV (X : Int) = (turnS X : Int)) := HT
                rw [HL0.out] at hJ hc'
                rw [HL0.out, HE0.out, HT0.out]
                have KU := Lib.hid (fun u => rTurnSet_any X hX u)
                have KQ := Lib.hid (fun u B' d' (k : Ext w3 u) (hB : IntsAt u (lsUp X 13) B') => eqInts_any (lsUp X 13) (lsUp X 13) A' B' c' d' u (by have := ls_len13 X; omega) (hJ.ext k) hB)
                have hlen13 := ls_len13 X
                generalize (turnS X : Int) = R at *
                clear HL HE HT HL0 HE0 HT0 h1
                obtain ⟨i0, hi0, hz0, hz1, hz2⟩ := info_parts infoInt
                go_wp2_with fail
                refine (KS.out _).mono ?_
                rintro e w4 ⟨rfl, rfl⟩
                go_wp2_with fail
                refine (KU.out _).mono ?_
                rintro e w4 ⟨rfl, rfl⟩
                clear KS KU
                go_wp2_with fail
                go_loopw [16, 17] (fun v r wr => ∃ k : Nat, k ≤ 13 ∧ r = .int .i64 ((k : Int) + 1) ∧ wr.ownsRow w4.heap.size 3 1 v (lsUp X k).length (intCells (lsUp X k)) ∧ Ext w4 wr) (fun _ r _ => 14 - (intOf r).toNat)
                case atStart => exact ⟨0, by omega, rfl, World.ownsRow_nil _ _ _ _, Ext.refl _⟩
                case round =>
                  obtain ⟨k2, hk2, rfl, hown, hx5⟩ := hrel
                  by_cases hlt2 : k2 < 13
                  · have hle : (k2 : Int) + 1 ≤ 13 := by omega
                    have hk20 : (0 : Int) ≤ (k2 : Int) := by omega
                    have hk213 : (k2 : Int) < 13 := by omega
                    have hlen := lsUp_len X k2
                    have hxs := hx5.size
                    have t0 := hx5.cell s0
                    have t1 := hx5.cell c0
                    have HS : Hid (lsUp X (k2 + 1) = lsUp X k2 ++ if X.testBit k2 then [(k2 : Int) + 1] else []) := Lib.hid rfl
                    have HB := Lib.hid (bitsI X k2 hX)
                    cases h4 : X.testBit k2 with
                    | true =>
                      have HB1 : (bits .and .i64 ((X : Int) / 2 ^ k2) 1 == 1) = true := HB.out.trans h4
                      have HS2 : Hid (lsUp X (k2 + 1) = lsUp X k2 ++ [(k2 : Int) + 1]) := Lib.hid (by rw [HS.out, h4]; rfl)
                      clear HS h4
                      go_wp2_with (at_builtin; refine wpList_app _ rfl _ _ 22 rfl w4.heap.size 3 i0 _ 1 8 Tryd.underlying22 hi0 hz0 hz1 hz2 rfl (by decide) _ _ (intCells (lsUp X k2)) rfl (hown.alloc _) (some ⟨wr.heap.size, 0, none⟩) 1 1 [.int .i64 ((k2 : Int) + 1)] rfl (Src.box wr #[.int .i64 ((k2 : Int) + 1)] 3 1 rfl) ?c2 ?c3 ?c4 ?c5 ?_)
                      case c2 => intro u hu; simp at hu; subst hu; rfl
                      case c3 => simp only [maxLen]; omega
                      case c4 => omega
                      case c5 => simp; omega
                      intro v' w5 hown4 hgrow _
                      have hx6 : Ext w4 w5 := Below.grown (hx5.alloc _) hgrow (by simp; omega) (fun b hb => (hown.lt b hb).1)
                      have hown5 : w5.ownsRow w4.heap.size 3 1 v' (lsUp X (k2 + 1)).length (intCells (lsUp X (k2 + 1))) := by rw [HS2.out, intCells_snoc, List.length_append]; exact hown4
                      clear hown4 hgrow hown
                      go_wp2_with fail
                      go_roundw
                      case rel => exact ⟨k2 + 1, by omega, by go_num, hown5, hx6⟩
                      case measure => simp [intOf]; omega
                    | false =>
                      have HB1 : (bits .and .i64 ((X : Int) / 2 ^ k2) 1 == 1) = false := HB.out.trans h4
                      have HS2 : Hid (lsUp X (k2 + 1) = lsUp X k2) := Lib.hid (by rw [HS.out, h4]; exact List.append_nil _)
                      clear HS h4
                      go_wp2_with fail
                      go_roundw
                      case rel => exact ⟨k2 + 1, by omega, by go_num, by rw [HS2.out]; exact hown, hx5⟩
                      case measure => simp [intOf]; omega
                  · have hge : ¬ ((k2 : Int) + 1 ≤ 13) := by omega
                    have hk213 : k2 = 13 := by omega
                    rw [hk213] at hown
                    obtain ⟨B', d', rfl, hd', hJ2⟩ := owned_ints hown
                    have KQ2 := Lib.hid (fun u (k : Ext wr u) => KQ.out u B' d' (hx5.trans k) (hJ2.ext k))
                    have HX5 := Lib.hid (HX3.out.trans hx5)
                    rw [show (lsUp X 13 == lsUp X 13) = true from beq_self_eq_true _] at KQ2
                    clear hown hJ2 KQ hk213
                    go_wp2_with fail
                    refine (KN.out _ _).mono ?_
                    rintro e w6 ⟨rfl, rfl⟩
                    go_wp2_with fail
                    refine (KN.out _ _).mono ?_
                    rintro e w6 ⟨rfl, rfl⟩
                    go_wp2_with fail
                    refine (KQ2.out _ (Ext.refl _)).mono ?_
                    rintro e w7 ⟨rfl, hx7⟩
                    have HX7 := Lib.hid (HX5.out.trans hx7)
                    go_wp2_with fail
                    go_roundw
                    case rel => exact ⟨a + 1, by omega, by go_num, HX7.out⟩
                    case measure => simp [intOf]; omega
            · have ha8' : decide ((a : Int) < 8) = false := decide_eq_false ha8
              have KW := Lib.hid (wakes_any wr (HEK.out.ext hxa))
              have HXA := Lib.hid hxa
              go_wp2_with fail
              refine KW.out.mono ?_
              rintro e w9 ⟨rfl, hx9⟩
              go_wp2_with fail
              go_ret
              exact ⟨rfl, (HXK.out.trans HXA.out).trans hx9⟩
          · have hai : ¬ ((a : Int) < (ns.length : Int)) := by omega
            have hai' : decide ((a : Int) < (ns.length : Int)) = false := decide_eq_false hai
            have KW := Lib.hid (wakes_any wr (HEK.out.ext hxa))
            have HXA := Lib.hid hxa
            go_wp2_with fail
            refine KW.out.mono ?_
            rintro e w9 ⟨rfl, hx9⟩
            go_wp2_with fail
            go_ret
            exact ⟨rfl, (HXK.out.trans HXA.out).trans hx9⟩
end Go.Proofs.YtjldokhomohdbaaDoor
