/- SpanNames: its walk. -/
import Derived.Test.YtgpjfagkjmnpgaaDoorSqm
import Derived.Deep.RegionHeld3
namespace Go.Proofs.YtgpjfagkjmnpgaaDoor
open Go.RowKit Go.Maps

abbrev lits16 : List Int := [-1, 0, 1, 2, 3, 4, 5, 6, 7, 8, 9, 10, 11, 12, 13, 14]
theorem src_ints {w : World} {ns : List Int} {A : Option Addr} {c : Nat} (h : IntsAt w ns A) (hc : ns.length ≤ c) : Src w A ns.length c 1 (intCells ns) := by
  refine ⟨by simp [intCells], ?_, hc⟩
  rcases A with _ | ad
  · cases ns with
    | nil => exact .inl ⟨rfl, rfl⟩
    | cons s r =>
      obtain ⟨_, _, e, _⟩ := h 0 (by simp)
      cases e
  · refine .inr ⟨ad, rfl, fun j u hu => ?_⟩
    have hj : j < ns.length := by
      rcases Nat.lt_or_ge j ns.length with h' | h'
      · exact h'
      · rw [List.getElem?_eq_none (by simpa [intCells] using h')] at hu; cases hu
    obtain ⟨b, o, e, hc⟩ := h j hj
    injection e with e
    subst e
    rw [add_addr, hc]
    simpa [intCells, hj] using hu
theorem src_strs {w : World} {ss : List ByteArray} {A : Option Addr} {c : Nat} (h : StrsAt w ss A) (hc : ss.length ≤ c) : Src w A ss.length c 1 (strCells ss) := by
  refine ⟨by simp [strCells], ?_, hc⟩
  rcases A with _ | ad
  · cases ss with
    | nil => exact .inl ⟨rfl, rfl⟩
    | cons s r =>
      obtain ⟨_, _, e, _⟩ := h 0 (by simp)
      cases e
  · exact .inr ⟨ad, rfl, h.news⟩

set_option maxRecDepth 100000 in
set_option maxHeartbeats 8000000 in
theorem names_walk : SpanWalk (fun w => AskAt w ∧ NmsAt w) 4 := by
  intro xs A c ns B d ss C e w h hAN
  obtain ⟨i0, hi0, hz0, hz1, hz2⟩ := info_parts infoInt
  obtain ⟨j0, hj0, hy0, hy1, hy2⟩ := info_parts infoStr
  have hx0 := (Ext.refl w).alloc (.cells (askCells xs.length A c ns.length B d ss.length C e) 26)
  have KH := Lib.hid (heavy_any xs.length A c ns.length B d ss C e _ h.slen (h.strs.ext hx0))
  have HIN := Lib.hid h
  have HAN := Lib.hid hAN
  have hnl := h.nlen
  have hsl := h.slen
  clear h hAN
  cases hv : heavyB xs.length ns.length ss with
  | true =>
    rw [hv] at KH
    go_enter Tryd.func4, Tryd.ntmps4
    go_wp2_with fail
    refine KH.out.mono ?_
    rintro e w1 ⟨rfl, hx1⟩
    go_wp2_with fail
    go_ret
    exact ⟨rfl, hx0.trans hx1⟩
  | false =>
    rw [hv] at KH
    go_enter Tryd.func4, Tryd.ntmps4
    go_wp2_with fail
    refine KH.out.mono ?_
    rintro x w1 ⟨rfl, hx1⟩
    have hb1 : w1.cell? ⟨w.heap.size, 1, none⟩ = some (.slice B ns.length d) := hx1.cell (by go_simp)
    have hb2 : w1.cell? ⟨w.heap.size, 2, none⟩ = some (.slice C ss.length e) := hx1.cell (by go_simp)
    have hx01 := hx0.trans hx1
    have HX1 := Lib.hid hx01
    have HB2 := Lib.hid hb2
    have hown0 := World.ownsRow_lit (e := 3) (size := 1) w1 (intCells lits16).toArray 16 (Nat.le_refl _) (by unfold maxLen; omega) rfl
    have hlw : w.heap.size < w1.heap.size := World.block_lt_of_cell? w1 _ hb2
    have hS0 := src_ints ((HIN.out.ints.ext hx01).ext ((Ext.refl w1).alloc (.cells (intCells lits16).toArray 3))) HIN.out.ncap
    clear hx0 hx1 KH hb2 hx01
    go_wp2_with (at_builtin; refine wpList_app _ rfl _ _ 23 rfl w1.heap.size 3 i0 _ 1 8 Tryd.underlying23 hi0 hz0 hz1 hz2 rfl (by decide) _ 16 (intCells lits16) rfl hown0 B ns.length d (intCells ns) rfl hS0 ?c2 ?c3 ?c4 ?c5 ?_)
    case c2 => exact intCells_one ns
    case c3 => simp only [maxLen]; omega
    case c4 => omega
    case c5 => simp
    intro v2 w2 hown2 hgrow _
    have hx12 : Ext w1 w2 := Below.grown ((Ext.refl w1).alloc _) hgrow (by simp) (fun k hk => by simp [Value.ownBlock] at hk; omega)
    obtain ⟨T, hT⟩ : ∃ T, T = lits16 ++ ns := ⟨_, rfl⟩
    have hown3 : w2.ownsRow w1.heap.size 3 1 v2 T.length (intCells T) := by
      have e1 : intCells lits16 ++ intCells ns = intCells T := by rw [hT]; simp [intCells]
      have e2 : 16 + ns.length = T.length := by rw [hT]; simp; omega
      rw [e1, e2] at hown2
      exact hown2
    obtain ⟨A2, c2, rfl, _, hI2⟩ := owned_ints hown3
    have HI2 := Lib.hid hI2
    have hTl : T.length * 8 ≤ 140737488355328 := by rw [hT]; simp; omega
    have hANx := Lib.hid (And.intro (HAN.out.1.ext (HX1.out.trans hx12)) (HAN.out.2.ext (HX1.out.trans hx12)))
    have hX2 := Lib.hid (HX1.out.trans hx12)
    have HB3 := Lib.hid (hx12.cell HB2.out)
    clear hown0 hown2 hgrow hown3 hI2 hS0 hb1 hx12 hT hnl
    go_wp2_with fail
    go_loopw [4] (fun i wr => ∃ k : Nat, k ≤ T.length ∧ i = .int .i64 k ∧ Ext w2 wr) (fun i _ => T.length - (intOf i).toNat)
    case atStart => exact ⟨0, Nat.zero_le _, rfl, Ext.refl _⟩
    case round =>
      obtain ⟨k, hk, rfl, hxk⟩ := hrel
      by_cases hgo : k < T.length ∧ k < 22
      · obtain ⟨hlt, h22⟩ := hgo
        have h22' : (k : Int) < 22 := by omega
        obtain ⟨b, o, rfl, a0⟩ := HI2.out k hlt
        obtain ⟨r, hr⟩ : ∃ r, r = T[k] := ⟨_, rfl⟩
        rw [← hr] at a0
        have c0 := hxk.cell a0
        have k0 : (0 : Int) ≤ (k : Int) := Int.natCast_nonneg _
        have k1 : (k : Int) < (T.length : Int) := by omega
        have KN := Lib.hid (fun u (hu : Ext w2 u) => Name_any r u (hANx.out.2.ext hu))
        have KT := Lib.hid (fun u => Turn_any r u)
        have KR := Lib.hid (fun u => rRel_any r u)
        clear a0 hr
        cases hrl : rlB r with
        | false =>
          have e1 : nameS r = ⟨#[]⟩ := by unfold nameS; rw [hrl]; rfl
          have e2 : nameE r = 1 := by unfold nameE; rw [hrl]; rfl
          have e3 : turnI r = 0 := by unfold turnI; rw [hrl]; rfl
          have e4 : turnE r = 1 := by unfold turnE; rw [hrl]; rfl
          rw [e1, e2] at KN
          rw [e3, e4] at KT
          rw [hrl] at KR
          clear e1 e2 e3 e4
          go_wp2_with fail
          refine (KN.out _ hxk).mono ?_
          rintro x w3 ⟨rfl, rfl⟩
          go_wp2_with fail
          refine (KT.out _).mono ?_
          rintro x w4 ⟨rfl, rfl⟩
          go_wp2_with fail
          refine (KR.out _).mono ?_
          rintro x w5 ⟨rfl, rfl⟩
          go_wp2_with fail
          refine (num_any _ _).mono ?_
          rintro x w6 ⟨rfl, rfl⟩
          go_wp2_with fail
          refine (num_any _ _).mono ?_
          rintro x w7 ⟨rfl, rfl⟩
          go_wp2_with fail
          go_roundw
          case rel => exact ⟨k + 1, by omega, by go_num, hxk⟩
          case measure => simp [intOf]; omega
        | true =>
          have hrr : 1 ≤ r ∧ r ≤ 13 := by simpa [rlB] using hrl
          obtain ⟨q, hq⟩ : ∃ q : Nat, r = (q : Int) + 1 := ⟨(r - 1).toNat, by omega⟩
          have hq13 : q < 13 := by omega
          have hql : q < nmsV.length := hq13
          have e1 : nameS r = nmsV[q] := by
            unfold nameS; rw [hrl, hq, show ((q : Int) + 1).toNat - 1 = q by omega, List.getD_eq_getElem?_getD, List.getElem?_eq_getElem hql]; rfl
          have e2 : nameE r = 0 := by unfold nameE; rw [hrl]; rfl
          have e3 : turnI r = 14 - r := by unfold turnI; rw [hrl]; rfl
          have e4 : turnE r = 0 := by unfold turnE; rw [hrl]; rfl
          have KU := Lib.hid (fun u => rTurn_any r u hrr)
          rw [e1, e2] at KN
          rw [e3, e4] at KT
          rw [hrl] at KR
          obtain ⟨nm, hnm⟩ : ∃ nm, nm = nmsV[q] := ⟨_, rfl⟩
          rw [← hnm] at KN
          obtain ⟨tt, htt⟩ : ∃ tt, tt = 14 - r := ⟨_, rfl⟩
          rw [← htt] at KT KU
          have HNM := Lib.hid hnm
          have hw1 : IntKind.i64.wrap (r - 1) = (q : Int) := by rw [IntKind.wrap_i64] <;> omega
          have q0 : (0 : Int) ≤ (q : Int) := Int.natCast_nonneg _
          have q1 : (q : Int) < 13 := by omega
          have hne : (nm.toList != nm.toList) = false := by simp
          clear e1 e2 e3 e4 hrr hrl hnm htt hq
          go_wp2_with fail
          refine (KN.out _ hxk).mono ?_
          rintro x w3 ⟨rfl, rfl⟩
          go_wp2_with fail
          refine (KT.out _).mono ?_
          rintro x w4 ⟨rfl, rfl⟩
          go_wp2_with fail
          refine (KR.out _).mono ?_
          rintro x w5 ⟨rfl, rfl⟩
          have hI := Ext.refl w5
          have R0 : ∀ u, Ext w5 u → u.cell? ⟨b, o + k, none⟩ = some (.int .i64 r) := fun u hu => hu.cell c0
          have KL : Hid (∀ u, Ext w5 u → Calls Tryd.prog 34 #[] u fun e u' => ∃ g, e = .returned (.slice (some ⟨g, 0, none⟩) 13 13) ∧ u'.cell? ⟨g, q, none⟩ = some (.string nm) ∧ Ext w5 u') := Lib.hid fun u hu => (Rels_any u).mono fun e u' ⟨he, hown, hx⟩ => by
            obtain ⟨A9, c9, e9, hA9⟩ := owned_strs (ss := nmsV) hown (fun x hx => by have := nms_short x hx; omega)
            obtain ⟨b9, o9, e8, h9, _⟩ := hA9 q hql
            simp only [Value.slice.injEq] at e9
            obtain ⟨e7, _, _⟩ := e9
            rw [← e7] at e8
            injection e8 with e8
            injection e8 with e5 e6
            subst e5 e6
            exact ⟨u.heap.size, he, by rw [HNM.out]; simpa using h9, hu.trans hx⟩
          go_wp2_with fail
          have c0d : w5.drew.cell? ⟨b, o + k, none⟩ = some (.int .i64 r) := c0
          go_region_with
            (first
              | (go_at_call 34; (with_reducible refine (KL.out _ ?_).mono ?_); (first | (with_reducible assumption) | (with_reducible exact hI.drew) | (with_reducible exact hI)); rintro x9 w9 ⟨g9, rfl, hc9, hS9⟩; have c09 := R0 _ hS9)
              | (go_at_call 35; (with_reducible refine (KU.out _).mono ?_); rintro x8 w8 ⟨rfl, rfl⟩))
          all_goals
            go_wp2_with fail
            refine (num_any _ _).mono ?_
            rintro x w6 ⟨rfl, rfl⟩
            go_wp2_with fail
            refine (num_any _ _).mono ?_
            rintro x w7 ⟨rfl, rfl⟩
            go_wp2_with fail
            go_roundw
            case rel => first | exact ⟨k + 1, by omega, by go_num, hxk.trans hS9⟩ | exact ⟨k + 1, by omega, by go_num, (hxk.trans hS9).drew⟩
            case measure => simp [intOf]; omega
      · have hor : (¬ k < T.length) ∨ (k < T.length ∧ decide ((k : Int) < 22) = false) := by
          by_cases h : k < T.length
          · exact .inr ⟨h, decide_eq_false (by omega)⟩
          · exact .inl h
        clear hgo
        obtain ⟨wk, rfl⟩ : ∃ wk : World, wk = wr := ⟨_, rfl⟩
        have hxwk := hX2.out.trans hxk
        have hbk := hxk.cell HB3.out
        have hrb : ∀ u, Ext wk u → u.cell? ⟨w.heap.size, 2, none⟩ = some (.slice C ss.length e) := fun u hu => hu.cell hbk
        have KL : Hid (∀ u, Ext wk u → Calls Tryd.prog 34 #[] u fun e u' => ∃ g, e = .returned (.slice (some ⟨g, 0, none⟩) 13 13) ∧ u'.ownsRow wk.heap.size 9 1 (.slice (some ⟨g, 0, none⟩) 13 13) 13 (strCells nmsV) ∧ Ext wk u') := Lib.hid fun u hu => (Rels_any u).mono fun e u' ⟨he, hown, hx⟩ => ⟨_, he, ownsRow_base hown hu.size, hu.trans hx⟩
        have HSS : Hid (∀ u, Ext wk u → Src u C ss.length e 1 (strCells ss)) := Lib.hid fun u hu => src_strs (HIN.out.strs.ext (hxwk.trans hu)) HIN.out.scap
        have hAk := Lib.hid (And.intro (hANx.out.1.ext hxk) (hANx.out.2.ext hxk))
        have hI := Ext.refl wk
        clear hbk
        rcases hor with hq1 | ⟨hq1, hq2⟩
        all_goals
          go_upto_region 14 with (fail)
          go_cut [12] (fun v wx => ∃ (A9 : Option Addr) (c9 : Nat), v = .slice A9 (nmsV ++ ss).length c9 ∧ Hid (StrsAt wx (nmsV ++ ss) A9) ∧ Ext wk wx)
          case first =>
            go_region_held3 (fun u => Ext wk u) (first | (with_reducible assumption) | (with_reducible exact hI.drew))
              (first
                | (go_at_call 34; (with_reducible refine (KL.out _ ?_).mono ?_); (first | (with_reducible assumption) | (with_reducible exact hI.drew) | (with_reducible exact hI)); rintro x9 w9 ⟨g9, rfl, hown9, hS9⟩)
                | (refine step_app _ (by rfl) _ _ 24 (by rfl) wk.heap.size 9 j0 _ 1 16 Tryd.underlying24 hj0 hy0 hy1 hy2 rfl (by decide) _ 13 (strCells nmsV) (by rfl) hown9 C ss.length e (strCells ss) (by rfl) (HSS.out _ hS9) (strCells_one ss) (by simp only [maxLen]; omega) (by omega) hS9.size ?_; intro v7 w7 ho7 hg7 _; have hS7 : Ext wk w7 := hS9.own hown9 (Nat.le_refl _) hg7))
            have hown8 : w7.ownsRow wk.heap.size 9 1 v7 (nmsV ++ ss).length (strCells (nmsV ++ ss)) := by
              have e1 : strCells nmsV ++ strCells ss = strCells (nmsV ++ ss) := by simp [strCells]
              have e2 : 13 + ss.length = (nmsV ++ ss).length := by rw [List.length_append]; rfl
              rw [e1, e2] at ho7
              exact ho7
            obtain ⟨A9, c9, rfl, hA9⟩ := owned_strs hown8 (fun x hx => by
              rcases List.mem_append.1 hx with h | h
              · have := nms_short x h; omega
              · obtain ⟨i, hi, rfl⟩ := List.getElem_of_mem h
                obtain ⟨_, _, _, _, h2⟩ := HIN.out.strs i hi
                exact h2)
            have HA9 := Lib.hid hA9
            clear hown8 ho7 hg7 hown9 hA9
            go_wp2_with fail
            go_meet
            exact ⟨A9, c9, rfl, HA9, hS7⟩
          case rest =>
            obtain ⟨A9, c9, rfl, HA9, hx9⟩ := hcut
            obtain ⟨wx, rfl⟩ : ∃ wx : World, wx = wc := ⟨_, rfl⟩
            have hll : (nmsV ++ ss).length * 16 ≤ 140737488355328 := by rw [List.length_append]; have : nmsV.length = 13 := rfl; omega
            obtain ⟨N, hN⟩ : ∃ N, N = nmsV ++ ss := ⟨_, rfl⟩
            rw [← hN] at HA9 hll ⊢
            have hAx := Lib.hid (And.intro (hAk.out.1.ext hx9) (hAk.out.2.ext hx9))
            have hxwx := hxwk.trans hx9
            clear hN hx9 hI hrb KL HSS
            go_wp2_with fail
            go_loopw [13] (fun i wr => ∃ z : Nat, z ≤ N.length ∧ i = .int .i64 z ∧ Ext wx wr) (fun i _ => N.length - (intOf i).toNat)
            case atStart => exact ⟨0, Nat.zero_le _, rfl, Ext.refl _⟩
            case round =>
              obtain ⟨z, hz, rfl, hxz⟩ := hrel
              by_cases hgo : z < N.length ∧ z < 19
              · obtain ⟨hlz, h19⟩ := hgo
                have h19' : (z : Int) < 19 := by omega
                obtain ⟨b, o, rfl, a0, hsz⟩ := HA9.out z hlz
                obtain ⟨s, hs⟩ : ∃ s, s = N[z] := ⟨_, rfl⟩
                rw [← hs] at a0 hsz
                have c0 := hxz.cell a0
                have z0 : (0 : Int) ≤ (z : Int) := Int.natCast_nonneg _
                have z1 : (z : Int) < (N.length : Int) := by omega
                have KO := Lib.hid (Of_any s wr (hAx.out.2.ext hxz) hsz)
                have KR := Lib.hid (fun u => Rel_any s u)
                clear hs a0 hsz
                rcases rel_cases s with ⟨i, hi, _, hr, he⟩ | ⟨_, hr, he⟩
                · rw [hr, he] at KO
                  rw [hr] at KR
                  obtain ⟨m, hm⟩ : ∃ m : Int, m = (i : Int) + 1 := ⟨_, rfl⟩
                  rw [← hm] at KO KR
                  have m0 : 0 < m := by omega
                  have m1 : (m == 0) = false := by simp; omega
                  clear hr he hm
                  go_wp2_with fail
                  refine KO.out.mono ?_
                  rintro x w5 ⟨rfl, hx5⟩
                  have d0 := hx5.cell c0
                  clear c0
                  go_wp2_with fail
                  refine (KR.out _).mono ?_
                  rintro x w6 ⟨rfl, hx6⟩
                  go_wp2_with fail
                  refine (num_any _ _).mono ?_
                  rintro x w7 ⟨rfl, rfl⟩
                  go_wp2_with fail
                  go_roundw
                  case rel => exact ⟨z + 1, by omega, by go_num, (hxz.trans hx5).trans hx6⟩
                  case measure => simp [intOf]; omega
                · rw [hr, he] at KO
                  rw [hr] at KR
                  clear hr he
                  go_wp2_with fail
                  refine KO.out.mono ?_
                  rintro x w5 ⟨rfl, hx5⟩
                  have d0 := hx5.cell c0
                  clear c0
                  go_wp2_with fail
                  refine (KR.out _).mono ?_
                  rintro x w6 ⟨rfl, hx6⟩
                  go_wp2_with fail
                  refine (num_any _ _).mono ?_
                  rintro x w7 ⟨rfl, rfl⟩
                  go_wp2_with fail
                  refine (num_any _ _).mono ?_
                  rintro x w8 ⟨rfl, rfl⟩
                  go_wp2_with fail
                  go_roundw
                  case rel => exact ⟨z + 1, by omega, by go_num, (hxz.trans hx5).trans hx6⟩
                  case measure => simp [intOf]; omega
              · have hor : (¬ z < N.length) ∨ (z < N.length ∧ decide ((z : Int) < 19) = false) := by
                  by_cases h : z < N.length
                  · exact .inr ⟨h, decide_eq_false (by omega)⟩
                  · exact .inl h
                have KW := Lib.hid (wakes_any wr (hAx.out.1.ext hxz))
                clear hgo
                rcases hor with hq3 | ⟨hq3, hq4⟩
                · go_wp2_with fail
                  refine KW.out.mono ?_
                  rintro x w9 ⟨rfl, hx9⟩
                  go_wp2_with fail
                  go_ret
                  exact ⟨rfl, (hxwx.trans hxz).trans hx9⟩
                · go_wp2_with fail
                  refine KW.out.mono ?_
                  rintro x w9 ⟨rfl, hx9⟩
                  go_wp2_with fail
                  go_ret
                  exact ⟨rfl, (hxwx.trans hxz).trans hx9⟩
end Go.Proofs.YtgpjfagkjmnpgaaDoor
