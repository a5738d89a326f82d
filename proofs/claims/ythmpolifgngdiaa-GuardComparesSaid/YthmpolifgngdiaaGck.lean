/- GuardCompares: the walk. -/
import Derived.Test.YthmpolifgngdiaaGci
import Derived.Test.YthmpolifgngdiaaGcj
import Derived.Deep.RegionLaw
namespace Go.Proofs.Ythmpolifgngdiaa
open Go.RowKit

/-- a term in a block -/
structure TBx (w : World) (g : Nat) (t : Tm) (A : Option Addr) (c : Nat) : Prop where
  c0 : w.cell? ⟨g, 0, none⟩ = some (.int .i64 t.kind)
  c1 : w.cell? ⟨g, 1, none⟩ = some (.string t.name)
  c2 : w.cell? ⟨g, 2, none⟩ = some (.int .i64 t.n)
  c3 : w.cell? ⟨g, 3, none⟩ = some (.slice A t.args.length c)
theorem TBx.ext {w w' : World} {g : Nat} {t : Tm} {A : Option Addr} {c : Nat} (h : TBx w g t A c) (k : Ext w w') : TBx w' g t A c := ⟨k.cell h.c0, k.cell h.c1, k.cell h.c2, k.cell h.c3⟩

set_option maxRecDepth 100000 in
set_option maxHeartbeats 16000000 in
theorem compares_walk (cs : List Cl) (ks ts : List Tm) (Bs : List (List Bd)) (gs : List Gd) (C K T B G : Option Addr) (cc kc tc bc gc : Nat) (w : World) (hlc : cs.length * 104 ≤ 140737488351232) (hC : CusAt w cs C) (hlk : ks.length * 56 ≤ 140737488351232) (hK : TmsAt w ks K) (hlt : ts.length * 56 ≤ 140737488351232) (hT : TmsAt w ts T)
    (hlb : Bs.length * 24 ≤ 140737488351232) (hB : BssAt w Bs B) (hlg : gs.length * 120 ≤ 140737488351232) (hG : GusAt w gs G) :
    Calls Try.prog 3 #[.agg #[.slice C cs.length cc, .slice K ks.length kc, .slice T ts.length tc, .slice B Bs.length bc, .slice G gs.length gc]] w fun e w' => e = .returned (.bool true) ∧ Ext w w' := by
  obtain ⟨wi, hwi⟩ : ∃ wi, wi = w.alloc (.cells #[.slice C cs.length cc, .slice K ks.length kc, .slice T ts.length tc, .slice B Bs.length bc, .slice G gs.length gc] 29) := ⟨_, rfl⟩
  have hx0 : Ext w wi := by rw [hwi]; exact (Ext.refl w).alloc _
  have a0 : wi.cell? ⟨w.heap.size, 0, none⟩ = some (.slice C cs.length cc) := by rw [hwi]; go_simp
  have a1 : wi.cell? ⟨w.heap.size, 1, none⟩ = some (.slice K ks.length kc) := by rw [hwi]; go_simp
  have a2 : wi.cell? ⟨w.heap.size, 2, none⟩ = some (.slice T ts.length tc) := by rw [hwi]; go_simp
  have a3 : wi.cell? ⟨w.heap.size, 3, none⟩ = some (.slice B Bs.length bc) := by rw [hwi]; go_simp
  have a4 : wi.cell? ⟨w.heap.size, 4, none⟩ = some (.slice G gs.length gc) := by rw [hwi]; go_simp
  have HWI := Lib.hid hwi
  have KH := Lib.hid (fun (u : World) (hu : Ext w u) => heavy12_any cs ks ts Bs gs C K T B G cc kc tc bc gc u hlc (hC.ext hu) hlk (hK.ext hu) hlt (hT.ext hu) hlb (hB.ext hu) hlg (hG.ext hu))
  clear hwi hC hK hlc hlk hlt hB hlb hG hlg
  go_enter Try.func3, Try.ntmps3
  go_wp2_with fail
  rw [← HWI.out]
  refine (KH.out _ hx0).mono ?_
  rintro e1 w1 ⟨h, rfl, HH, hx1⟩
  have hx01 := hx0.trans hx1
  have b2 := hx1.cell a2
  clear KH HWI a0 a1 a2 a3 a4
  cases h with
  | true =>
    go_wp2_with fail
    go_ret
    exact ⟨rfl, hx01⟩
  | false =>
    have HL := Lib.hid (HH.out rfl)
    have HHI : Hid (∀ i (hi : i < ts.length), ts[i].high ≤ 1000000) := Lib.hid fun i hi => by
      have h1 := weightL_each3 30 ts ts.length (by omega) (by have := HL.out.k.t; omega) ts[i] (List.getElem_mem hi)
      have := weight_high3 30 ts[i] h1
      omega
    have hTw := Lib.hid hT
    clear HH HL hT
    go_wp2_with fail
    go_loopw [3] (fun iv wr => ∃ i : Nat, i ≤ 5 ∧ i ≤ ts.length ∧ iv = .int .i64 i ∧ Ext w1 wr) (fun iv _ => 5 - (intOf iv).toNat)
    case atStart => exact ⟨0, by omega, by omega, rfl, Ext.refl _⟩
    case round =>
      obtain ⟨i, hi5, hil, rfl, hxr⟩ := hrel
      have b2r := hxr.cell b2
      by_cases hlti : i < ts.length ∧ i < 5
      · obtain ⟨hlt, h5⟩ := hlti
        have h5' : decide ((i : Int) < 5) = true := decide_eq_true (by omega)
        obtain ⟨wa, rfl⟩ : ∃ wa : World, wa = wr := ⟨_, rfl⟩
        go_wp2_with fail
        go_loopw [4] (fun kv wr => ∃ k : Nat, k ≤ 5 ∧ k ≤ ts.length ∧ kv = .int .i64 k ∧ Ext wa wr) (fun kv _ => 5 - (intOf kv).toNat)
        case atStart => exact ⟨0, by omega, by omega, rfl, Ext.refl _⟩
        case round =>
          obtain ⟨k, hk5, hkl, rfl, hxk⟩ := hrel
          have b2k := hxk.cell b2r
          by_cases hltk : k < ts.length ∧ k < 5
          · obtain ⟨hlk, hk5'⟩ := hltk
            have hk5'' : decide ((k : Int) < 5) = true := decide_eq_true (by omega)
            obtain ⟨wb, rfl⟩ : ∃ wb : World, wb = wr := ⟨_, rfl⟩
            go_wp2_with fail
            go_loopw [5] (fun qv wr => ∃ q : Int, -1 ≤ q ∧ q ≤ 8 ∧ qv = .int .i64 q ∧ Ext wb wr) (fun qv _ => (8 - intOf qv).toNat)
            case atStart => exact ⟨-1, by omega, by omega, rfl, Ext.refl _⟩
            case round =>
              obtain ⟨q, hq1, hq8, rfl, hxq⟩ := hrel
              obtain ⟨wc', rfl⟩ : ∃ wc' : World, wc' = wr := ⟨_, rfl⟩
              have b2q := hxq.cell b2k
              have hx1c := hxr.trans (hxk.trans hxq)
              by_cases hq7 : q ≤ 7
              · have hd7 : decide (q ≤ 7) = true := decide_eq_true hq7
                obtain ⟨b, o, A1, d1, hTe, c0, c1, c2, c3, hsub1⟩ := (hTw.out.ext (hx01.trans hx1c)).at_ hlt
                obtain ⟨b', o', A2, d2, hTe2, e0, e1, e2, e3, hsub2⟩ := (hTw.out.ext (hx01.trans hx1c)).at_ hlk
                rw [hTe] at hTe2
                injection hTe2 with hTe2
                injection hTe2 with hbe hoe
                subst hbe hoe
                subst hTe
                have hh1 := HHI.out i hlt
                have hh2 := HHI.out k hlk
                have i0 : (0 : Int) ≤ (i : Int) := Int.natCast_nonneg _
                have i1 : (i : Int) < (ts.length : Int) := by omega
                have k0 : (0 : Int) ≤ (k : Int) := Int.natCast_nonneg _
                have k1 : (k : Int) < (ts.length : Int) := by omega
                have hbl := World.block_lt_of_cell? wc' _ c0
                have hwl := World.block_lt_of_cell? wc' _ b2q
                simp only at hbl hwl
                generalize ts[i] = x at *
                generalize ts[k] = y at *
                have HS1 := Lib.hid hsub1
                have HS2 := Lib.hid hsub2
                clear hsub1 hsub2
                go_upto_region 12 with (fail)
                go_cut [6, 7] (fun v6 v7 wx => ∃ g1 g2 : Nat, v6 = .pointer (some ⟨g1, 0, none⟩) ∧ v7 = .pointer (some ⟨g2, 0, none⟩) ∧ Hid (TBx wx g1 x A1 d1) ∧ Hid (TBx wx g2 y A2 d2) ∧ Ext wc' wx)
                case first =>
                  clear HS1 HS2
                  go_region
                  all_goals
                    go_wp2_with fail
                    go_meet
                    refine ⟨_, _, rfl, rfl, Lib.hid ⟨?_, ?_, ?_, ?_⟩, Lib.hid ⟨?_, ?_, ?_, ?_⟩, ?_⟩
                    any_goals go_simp
                    all_goals (repeat (any_goals (first | with_reducible assumption | with_reducible exact Ext.refl _ | with_reducible apply Ext.drew | with_reducible apply Ext.alloc | with_reducible refine Ext.setCell ?_ ?_ _ | omega | (dsimp only; omega))))
                case rest =>
                  obtain ⟨g1, g2, rfl, rfl, HX, HY, hxd⟩ := hcut
                  obtain ⟨wd, rfl⟩ : ∃ wd : World, wd = wc := ⟨_, rfl⟩
                  have hx1d := hx1c.trans hxd
                  have hx0d := hx01.trans hx1d
                  have KC := Lib.hid (Compare_any q x y A1 A2 d1 d2 wd (HS1.out.ext hxd) (HS2.out.ext hxd))
                  have KBt := Lib.hid (fun u : World => (show Calls Try.prog 6 #[.int .i64 q, .int .i64 1, .int .i64 4] u fun e w' => e = .returned (.bool (kindB q)) ∧ Ext u w' from betweenG_any q 1 4 u))
                  have KT1 := Lib.hid (fun (u : World) (hu : Ext wd u) => rTerm_any x A1 d1 u (HS1.out.ext (hxd.trans hu)) hh1)
                  have KT2 := Lib.hid (fun (u : World) (hu : Ext wd u) => rTerm_any y A2 d2 u (HS2.out.ext (hxd.trans hu)) hh2)
                  have KG1 := Lib.hid (fun (u : World) (hu : Ext wd u) (hm : mayB x = true) => rGround_any x A1 d1 u (HS1.out.ext (hxd.trans hu)) hm)
                  have KG2 := Lib.hid (fun (u : World) (hu : Ext wd u) (hm : mayB y = true) => rGround_any y A2 d2 u (HS2.out.ext (hxd.trans hu)) hm)
                  have KPC := Lib.hid (fun (hcb : (kindB q && ((mayB x && groundT x) && (mayB y && groundT y))) = true) (u : World) (hu : Ext wd u) => (show Calls Try.prog 9 #[.int .i64 q, x.val A1 d1, y.val A2 d2] u fun e w' => e = .returned (.tuple #[.bool (rcT q x y).1, .bool (rcT q x y).2]) ∧ Ext u w' by
                    simp only [Bool.and_eq_true] at hcb
                    rw [rc_page hcb.1 hcb.2.1.1 hcb.2.2.1 hcb.2.1.2 hcb.2.2.2]
                    exact rCompare_any q x y A1 A2 d1 d2 u (HS1.out.ext (hxd.trans hu)) (HS2.out.ext (hxd.trans hu))))
                  have E : Hid (gcR q x y = if (kindB q && ((mayB x && groundT x) && (mayB y && groundT y))) = true then (if (rcT q x y).2 = true then ((rcT q x y).1, 0) else (false, 3)) else (false, 1)) := Lib.hid rfl
                  obtain ⟨x0, x1, x2, x3⟩ := HX.out
                  obtain ⟨y0, y1, y2, y3⟩ := HY.out
                  clear HS1 HS2 HX HY c0 c1 c2 c3 e0 e1 e2 e3 hh1 hh2
                  generalize gcR q x y = r at *
                  generalize rcT q x y = t at *
                  generalize kindB q = kb at *
                  generalize mayB x = m1 at *
                  generalize mayB y = m2 at *
                  generalize groundT x = j1 at *
                  generalize groundT y = j2 at *
                  obtain ⟨r1, r2⟩ := r
                  obtain ⟨t1, t2⟩ := t
                  go_wp2_with fail
                  refine KC.out.mono ?_
                  rintro e3 w3' ⟨rfl, hx3⟩
                  have x0' := hx3.cell x0
                  have x1' := hx3.cell x1
                  have x2' := hx3.cell x2
                  have x3' := hx3.cell x3
                  have y0' := hx3.cell y0
                  have y1' := hx3.cell y1
                  have y2' := hx3.cell y2
                  have y3' := hx3.cell y3
                  clear x0 x1 x2 x3 y0 y1 y2 y3 KC
                  go_upto_region 15 with (fail)
                  go_cut [80] from 63 to 80 (fun v80 wx => v80 = .bool (kb && ((m1 && j1) && (m2 && j2))) ∧ Ext w3' wx)
                  case first =>
                    cases kb with
                    | false =>
                      go_wp2_with fail
                      refine (KBt.out _).mono ?_
                      rintro e10 u0 ⟨rfl, hy0⟩
                      have hz0 : Ext w3' u0 := hy0
                      go_wp2_with fail
                      go_meet
                      exact ⟨by simp, hz0⟩
                    | true =>
                      cases m1 with
                      | false =>
                        go_wp2_with fail
                        refine (KBt.out _).mono ?_
                        rintro e10 u0 ⟨rfl, hy0⟩
                        have hz0 : Ext w3' u0 := hy0
                        have x0u0 := hz0.cell x0'
                        have x1u0 := hz0.cell x1'
                        have x2u0 := hz0.cell x2'
                        have x3u0 := hz0.cell x3'
                        go_wp2_with fail
                        refine (KT1.out _ (hx3.trans hz0)).mono ?_
                        rintro e11 u1 ⟨rfl, hy1⟩
                        have hz1 : Ext w3' u1 := hz0.trans hy1
                        go_wp2_with fail
                        go_meet
                        exact ⟨by simp, hz1⟩
                      | true =>
                        cases m2 with
                        | false =>
                          go_wp2_with fail
                          refine (KBt.out _).mono ?_
                          rintro e10 u0 ⟨rfl, hy0⟩
                          have hz0 : Ext w3' u0 := hy0
                          have x0u0 := hz0.cell x0'
                          have x1u0 := hz0.cell x1'
                          have x2u0 := hz0.cell x2'
                          have x3u0 := hz0.cell x3'
                          go_wp2_with fail
                          refine (KT1.out _ (hx3.trans hz0)).mono ?_
                          rintro e11 u1 ⟨rfl, hy1⟩
                          have hz1 : Ext w3' u1 := hz0.trans hy1
                          have y0u1 := hz1.cell y0'
                          have y1u1 := hz1.cell y1'
                          have y2u1 := hz1.cell y2'
                          have y3u1 := hz1.cell y3'
                          go_wp2_with fail
                          refine (KT2.out _ (hx3.trans hz1)).mono ?_
                          rintro e12 u2 ⟨rfl, hy2⟩
                          have hz2 : Ext w3' u2 := hz1.trans hy2
                          go_wp2_with fail
                          go_meet
                          exact ⟨by simp, hz2⟩
                        | true =>
                          cases j1 with
                          | false =>
                            go_wp2_with fail
                            refine (KBt.out _).mono ?_
                            rintro e10 u0 ⟨rfl, hy0⟩
                            have hz0 : Ext w3' u0 := hy0
                            have x0u0 := hz0.cell x0'
                            have x1u0 := hz0.cell x1'
                            have x2u0 := hz0.cell x2'
                            have x3u0 := hz0.cell x3'
                            go_wp2_with fail
                            refine (KT1.out _ (hx3.trans hz0)).mono ?_
                            rintro e11 u1 ⟨rfl, hy1⟩
                            have hz1 : Ext w3' u1 := hz0.trans hy1
                            have y0u1 := hz1.cell y0'
                            have y1u1 := hz1.cell y1'
                            have y2u1 := hz1.cell y2'
                            have y3u1 := hz1.cell y3'
                            go_wp2_with fail
                            refine (KT2.out _ (hx3.trans hz1)).mono ?_
                            rintro e12 u2 ⟨rfl, hy2⟩
                            have hz2 : Ext w3' u2 := hz1.trans hy2
                            have x0u2 := hz2.cell x0'
                            have x1u2 := hz2.cell x1'
                            have x2u2 := hz2.cell x2'
                            have x3u2 := hz2.cell x3'
                            go_wp2_with fail
                            refine (KG1.out _ (hx3.trans hz2) trivial).mono ?_
                            rintro e13 u3 ⟨rfl, hy3⟩
                            have hz3 : Ext w3' u3 := hz2.trans hy3
                            go_wp2_with fail
                            go_meet
                            exact ⟨by simp, hz3⟩
                          | true =>
                            cases j2 with
                            | false =>
                              go_wp2_with fail
                              refine (KBt.out _).mono ?_
                              rintro e10 u0 ⟨rfl, hy0⟩
                              have hz0 : Ext w3' u0 := hy0
                              have x0u0 := hz0.cell x0'
                              have x1u0 := hz0.cell x1'
                              have x2u0 := hz0.cell x2'
                              have x3u0 := hz0.cell x3'
                              go_wp2_with fail
                              refine (KT1.out _ (hx3.trans hz0)).mono ?_
                              rintro e11 u1 ⟨rfl, hy1⟩
                              have hz1 : Ext w3' u1 := hz0.trans hy1
                              have y0u1 := hz1.cell y0'
                              have y1u1 := hz1.cell y1'
                              have y2u1 := hz1.cell y2'
                              have y3u1 := hz1.cell y3'
                              go_wp2_with fail
                              refine (KT2.out _ (hx3.trans hz1)).mono ?_
                              rintro e12 u2 ⟨rfl, hy2⟩
                              have hz2 : Ext w3' u2 := hz1.trans hy2
                              have x0u2 := hz2.cell x0'
                              have x1u2 := hz2.cell x1'
                              have x2u2 := hz2.cell x2'
                              have x3u2 := hz2.cell x3'
                              go_wp2_with fail
                              refine (KG1.out _ (hx3.trans hz2) trivial).mono ?_
                              rintro e13 u3 ⟨rfl, hy3⟩
                              have hz3 : Ext w3' u3 := hz2.trans hy3
                              have y0u3 := hz3.cell y0'
                              have y1u3 := hz3.cell y1'
                              have y2u3 := hz3.cell y2'
                              have y3u3 := hz3.cell y3'
                              go_wp2_with fail
                              refine (KG2.out _ (hx3.trans hz3) trivial).mono ?_
                              rintro e14 u4 ⟨rfl, hy4⟩
                              have hz4 : Ext w3' u4 := hz3.trans hy4
                              go_wp2_with fail
                              go_meet
                              exact ⟨by simp, hz4⟩
                            | true =>
                              go_wp2_with fail
                              refine (KBt.out _).mono ?_
                              rintro e10 u0 ⟨rfl, hy0⟩
                              have hz0 : Ext w3' u0 := hy0
                              have x0u0 := hz0.cell x0'
                              have x1u0 := hz0.cell x1'
                              have x2u0 := hz0.cell x2'
                              have x3u0 := hz0.cell x3'
                              go_wp2_with fail
                              refine (KT1.out _ (hx3.trans hz0)).mono ?_
                              rintro e11 u1 ⟨rfl, hy1⟩
                              have hz1 : Ext w3' u1 := hz0.trans hy1
                              have y0u1 := hz1.cell y0'
                              have y1u1 := hz1.cell y1'
                              have y2u1 := hz1.cell y2'
                              have y3u1 := hz1.cell y3'
                              go_wp2_with fail
                              refine (KT2.out _ (hx3.trans hz1)).mono ?_
                              rintro e12 u2 ⟨rfl, hy2⟩
                              have hz2 : Ext w3' u2 := hz1.trans hy2
                              have x0u2 := hz2.cell x0'
                              have x1u2 := hz2.cell x1'
                              have x2u2 := hz2.cell x2'
                              have x3u2 := hz2.cell x3'
                              go_wp2_with fail
                              refine (KG1.out _ (hx3.trans hz2) trivial).mono ?_
                              rintro e13 u3 ⟨rfl, hy3⟩
                              have hz3 : Ext w3' u3 := hz2.trans hy3
                              have y0u3 := hz3.cell y0'
                              have y1u3 := hz3.cell y1'
                              have y2u3 := hz3.cell y2'
                              have y3u3 := hz3.cell y3'
                              go_wp2_with fail
                              refine (KG2.out _ (hx3.trans hz3) trivial).mono ?_
                              rintro e14 u4 ⟨rfl, hy4⟩
                              have hz4 : Ext w3' u4 := hz3.trans hy4
                              go_wp2_with fail
                              go_meet
                              exact ⟨by simp, hz4⟩
                  case rest =>
                    obtain ⟨rfl, hxe⟩ := hcut
                    obtain ⟨we, rfl⟩ : ∃ we : World, we = wc := ⟨_, rfl⟩
                    have x0 := hxe.cell x0'
                    have x1 := hxe.cell x1'
                    have x2 := hxe.cell x2'
                    have x3 := hxe.cell x3'
                    have y0 := hxe.cell y0'
                    have y1 := hxe.cell y1'
                    have y2 := hxe.cell y2'
                    have y3 := hxe.cell y3'
                    have hxde := hx3.trans hxe
                    have hxwe := (hxq.trans hxd).trans hxde
                    clear KBt KT1 KT2 KG1 KG2 x0' x1' x2' x3' y0' y1' y2' y3'
                    generalize (kb && ((m1 && j1) && (m2 && j2))) = CB at *
                    cases CB with
                    | false =>
                      obtain ⟨rfl, rfl⟩ : r1 = false ∧ r2 = 1 := by simpa using E.out
                      clear E KPC
                      go_wp2_with fail
                      refine (num12_any _ _).mono ?_
                      rintro e5 w5 ⟨rfl, rfl⟩
                      go_wp2_with fail
                      go_roundw
                      case rel => exact ⟨q + 1, by omega, by omega, by go_num, hxwe⟩
                      case measure => simp [intOf]; omega
                    | true =>
                      go_wp2_with fail
                      refine (KPC.out trivial _ hxde).mono ?_
                      rintro e4 w4 ⟨rfl, hx4⟩
                      have hxw4 := hxwe.trans hx4
                      cases t2 with
                      | false =>
                        obtain ⟨rfl, rfl⟩ : r1 = false ∧ r2 = 3 := by simpa using E.out
                        clear E KPC
                        go_wp2_with fail
                        refine (num12_any _ _).mono ?_
                        rintro e5 w5 ⟨rfl, rfl⟩
                        go_wp2_with fail
                        go_roundw
                        case rel => exact ⟨q + 1, by omega, by omega, by go_num, hxw4⟩
                        case measure => simp [intOf]; omega
                      | true =>
                        obtain ⟨rfl, rfl⟩ : r1 = t1 ∧ r2 = 0 := by simpa using E.out
                        clear E KPC
                        cases r1 with
                        | false =>
                          go_wp2_with fail
                          refine (num12_any _ _).mono ?_
                          rintro e5 w5 ⟨rfl, rfl⟩
                          go_wp2_with fail
                          go_roundw
                          case rel => exact ⟨q + 1, by omega, by omega, by go_num, hxw4⟩
                          case measure => simp [intOf]; omega
                        | true =>
                          go_wp2_with fail
                          refine (num12_any _ _).mono ?_
                          rintro e5 w5 ⟨rfl, rfl⟩
                          go_wp2_with fail
                          go_roundw
                          case rel => exact ⟨q + 1, by omega, by omega, by go_num, hxw4⟩
                          case measure => simp [intOf]; omega
              · have hd7 : decide (q ≤ 7) = false := decide_eq_false hq7
                go_wp2_with fail
                go_roundw
                case rel => exact ⟨k + 1, by omega, by omega, by go_num, hxk.trans hxq⟩
                case measure => simp [intOf]; omega
          · by_cases hkl' : k < ts.length
            · have hk5'' : decide ((k : Int) < 5) = false := decide_eq_false (by omega)
              go_wp2_with fail
              go_roundw
              case rel => exact ⟨i + 1, by omega, by omega, by go_num, hxr.trans hxk⟩
              case measure => simp [intOf]; omega
            · go_wp2_with fail
              go_roundw
              case rel => exact ⟨i + 1, by omega, by omega, by go_num, hxr.trans hxk⟩
              case measure => simp [intOf]; omega
      · by_cases hil' : i < ts.length
        · have h5' : decide ((i : Int) < 5) = false := decide_eq_false (by omega)
          go_wp2_with fail
          refine (wakes12_any _).mono ?_
          rintro e9 w9 ⟨rfl, hx9⟩
          go_wp2_with fail
          go_ret
          exact ⟨rfl, hx01.trans (hxr.trans hx9)⟩
        · go_wp2_with fail
          refine (wakes12_any _).mono ?_
          rintro e9 w9 ⟨rfl, hx9⟩
          go_wp2_with fail
          go_ret
          exact ⟨rfl, hx01.trans (hxr.trans hx9)⟩
end Go.Proofs.Ythmpolifgngdiaa
