/- Joined: Jow. -/
import Derived.Test.YtagkimcbllpnkaaMC
import Derived.Test.YtagkimcbllpnkaaME
import Derived.Deep.DeepCutAuto
import Derived.Deep.CutBlock

/- BindJoins: the walk. -/
namespace Go.Proofs.Ytagkimcbllpnkaa
open Go.RowKit

theorem copyBs_P {bs : List Bd} {A : Option Addr} {c : Nat} {wi : World} (hl : bs.length ≤ 1000000) (h : BdsAt wi bs A) (u : World) (hu : Ext wi u) :
    Calls Try.prog 38 #[.slice A bs.length c] u fun e w' => ∃ A' c', e = .returned (.slice A' bs.length c') ∧ bs.length ≤ c' ∧ Hid (BdsAt w' bs A') ∧ Ext u w' ∧ Ext wi w' :=
  (copyBinds_any bs A c u hl (h.ext hu)).mono fun _ _ ⟨A', c', he, hc, hA, hx⟩ => ⟨A', c', he, hc, Lib.hid hA, hx, hu.trans hx⟩

set_option maxRecDepth 100000 in
set_option maxHeartbeats 16000000 in
theorem joins_walk (Bs : List (List Bd)) (ts : List Tm) (ss : List ByteArray) (A T S : Option Addr) (ca ct cs : Nat) (w : World) (hbl : Bs.length * 24 ≤ 140737488351232) (hB : BssAt w Bs A) (hl : ts.length * 56 ≤ 140737488351232) (h : TmsAt w ts T) (hm : ss.length * 16 ≤ 140737488351232) (hs : StrsAt w ss S) :
    Calls Try.prog 7 #[.agg #[.slice A Bs.length ca, .slice T ts.length ct, .slice S ss.length cs]] w fun e w' => e = .returned (.bool true) ∧ Ext w w' := by
  have hx0 : Ext w (w.alloc (.cells #[.slice A Bs.length ca, .slice T ts.length ct, .slice S ss.length cs] 56)) := (Ext.refl w).alloc _
  go_enter Try.func7, Try.ntmps7
  go_wp2_with fail
  refine (heavy2_any Bs ts ss A T S ca ct cs _ hbl (hB.ext hx0) hl (h.ext hx0) hm (hs.ext hx0)).mono ?_
  rintro e1 w1 ⟨hv, rfl, HV, hx1⟩
  have hx01 := hx0.trans hx1
  have p0 : w1.cell? ⟨w.heap.size, 0, none⟩ = some (.slice A Bs.length ca) := hx1.cell (by go_simp)
  have p2 : w1.cell? ⟨w.heap.size, 2, none⟩ = some (.slice S ss.length cs) := hx1.cell (by go_simp)
  clear hx1 hx0
  cases hv with
  | true =>
    go_wp2_with fail
    go_ret
    exact ⟨rfl, hx01⟩
  | false =>
    obtain ⟨hlen, hhg, hbn, htw, HV4⟩ := HV rfl
    have HLEN := Lib.hid hlen
    have HHG := Lib.hid hhg
    have hB1 := hB.ext hx01
    have hS1 := hs.ext hx01
    clear HV hlen hhg htw hB h hs
    go_wp2_with fail
    go_loopw [3] (fun i wr => ∃ k : Nat, k ≤ Bs.length ∧ i = .int .i64 k ∧ Ext w1 wr) (fun i _ => Bs.length - (intOf i).toNat)
    case atStart => exact ⟨0, Nat.zero_le _, rfl, Ext.refl _⟩
    case round =>
      obtain ⟨i, hi, rfl, hxa⟩ := hrel
      obtain ⟨wa, rfl⟩ : ∃ wa : World, wa = wr := ⟨_, rfl⟩
      have pa0 := hxa.cell p0
      have pa2 := hxa.cell p2
      by_cases hboth : i < Bs.length ∧ i < 6
      · obtain ⟨hlt, h6⟩ := hboth
        have h6' : decide ((i : Int) < 6) = true := decide_eq_true (by omega)
        obtain ⟨b, o, LA, lc, rfl, cB, hBd, hlc, hx4⟩ := (hB1.ext hxa) i hlt
        have hBl := HLEN.out i hlt
        have HGa : Hid (∀ q (hq : q < Bs[i].length), Bs[i][q].tm.high ≤ 1000000) := Lib.hid fun q hq => by have := HHG.out i hlt q hq; omega
        have i0 : (0 : Int) ≤ (i : Int) := Int.natCast_nonneg _
        have i1 : (i : Int) < (Bs.length : Int) := by omega
        generalize hbs : Bs[i] = aa at *
        have HBS := Lib.hid hbs
        clear hbs
        go_upto_block 2 with (fail)
        go_cut [4] (fun _ wx => Ext wa wx)
        case first =>
          --BEGIN2
          go_wp2_with fail
          go_loopw [4] (fun j wr => ∃ k : Nat, k ≤ Bs.length ∧ j = .int .i64 k ∧ Ext wa wr) (fun j _ => Bs.length - (intOf j).toNat)
          case atStart => exact ⟨0, Nat.zero_le _, rfl, Ext.refl _⟩
          case round =>
            obtain ⟨j, hj, rfl, hxb⟩ := hrel
            obtain ⟨wb, rfl⟩ : ∃ wb : World, wb = wr := ⟨_, rfl⟩
            have pb0 := hxb.cell pa0
            have cBb := hxb.cell cB
            have hAb := hBd.ext hxb
            by_cases hb2 : j < Bs.length ∧ j < 6
            · obtain ⟨hjl, hj6⟩ := hb2
              have hj6' : decide ((j : Int) < 6) = true := decide_eq_true (by omega)
              obtain ⟨b2, o2, LB, lb, e2, dB, hBb, hlb, _⟩ := (hB1.ext (hxa.trans hxb)) j hjl
              injection e2 with e2
              injection e2 with e2 e3
              subst e2 e3
              have hBl2 := HLEN.out j hjl
              have HGb : Hid (∀ q (hq : q < Bs[j].length), Bs[j][q].tm.high ≤ 1000000) := Lib.hid fun q hq => by have := HHG.out j hjl q hq; omega
              have j0 : (0 : Int) ≤ (j : Int) := Int.natCast_nonneg _
              have j1 : (j : Int) < (Bs.length : Int) := by omega
              generalize htj : Bs[j] = bb at *
              have HTJ := Lib.hid htj
              clear htj
              go_upto_region 9 with (fail)
              go_cut [5, 6] (fun v5 v6 wx => ∃ (A5 A6 : Option Addr) (c5 c6 : Nat), v5 = .slice A5 aa.length c5 ∧ v6 = .slice A6 bb.length c6 ∧ aa.length ≤ c5 ∧ bb.length ≤ c6 ∧ Hid (BdsAt wx aa A5) ∧ Hid (BdsAt wx bb A6) ∧ Ext wb wx)
              case first =>
                --BEGIN9
                have rulesI := fun (u : World) (k : Ext wb u) => And.intro (k.cell pb0) (And.intro (k.cell cBb) (k.cell dB))
                have hI0 := Ext.refl wb
                have KA := Lib.hid (fun u hu => copyBs_P (c := lc) (show aa.length ≤ 1000000 by omega) hAb u hu)
                have KB := Lib.hid (fun u hu => copyBs_P (c := lb) (show bb.length ≤ 1000000 by omega) hBb u hu)
                clear hBd hB1
                go_region_held3 (fun u => Ext wb u) (first | assumption | exact hI0.drew | exact hS6 | exact hS5)
                  (first
                    | (go_at_call 38; (with_reducible refine (KA.out _ (by assumption)).mono ?_); rintro e5 w5 ⟨A5, c5, rfl, hc5, HA5, hx5, hS5⟩)
                    | (go_at_call 38; (with_reducible refine (KB.out _ (by assumption)).mono ?_); rintro e6 w6 ⟨A6, c6, rfl, hc6, HA6, hx6, hS6⟩))
                all_goals
                  go_wp2_with fail
                  go_meet
                  exact ⟨A5, A6, c5, c6, rfl, rfl, hc5, hc6, Lib.hid (HA5.out.ext hx6), HA6, hS6⟩
                --END9
              case rest =>
                obtain ⟨A5, A6, c5, c6, rfl, rfl, hc5, hc6, HA5, HA6, hxg⟩ := hcut
                obtain ⟨wx, rfl⟩ : ∃ wx : World, wx = wc := ⟨_, rfl⟩
                have px0 := hxg.cell pb0
                have cBx := hxg.cell cBb
                have dBx := hxg.cell dB
                have hAx := hAb.ext hxg
                have hBx := hBb.ext hxg
                have hA5 := HA5.out
                have hA6 := HA6.out
                have hla : aa.length ≤ 1000000 := by omega
                have hlb' : bb.length ≤ 1000000 := by omega
                clear pb0 cBb dB hAb hBb HA5 HA6
                go_upto_region 12 with (go_at_call 52; refine (join_Q hA5 hA6 hc5 hc6 hla hlb' _ (Ext.refl _)).mono ?_; rintro e7 w7 ⟨X, xc, BX, dX, GX, rfl, HX, hXl, hx7⟩)
                go_cut [10] (fun v wy => v = .slice none 0 0 ∧ wy = w7)
                case first =>
                  go_wp2_with fail
                  go_meet
                  exact ⟨rfl, rfl⟩
                case rest =>
                  obtain ⟨rfl, rfl⟩ := hcut
                  obtain ⟨w7, rfl⟩ : ∃ w7 : World, w7 = wc := ⟨_, rfl⟩
                  have hAw := hAx.ext hx7
                  have hBw := hBx.ext hx7
                  have pw0 := hx7.cell px0
                  have cBw := hx7.cell cBx
                  have dBw := hx7.cell dBx
                  rename_i hKK
                  refine hKK _ _ ?_
                  go_step
                  clear hKK
                  go_cut [9, 10] (fun v9 v10 wy => ∃ (Aw : Option Addr) (cw : Nat), v9 = .int .i64 (joinE aa bb) ∧ v10 = .slice Aw (joinL aa bb).length cw ∧ Hid (BdsAt wy (joinL aa bb) Aw) ∧ Ext w7 wy)
                  case first =>
                    --BEGIN13
                    clear hA5 hA6 hAx hBx HX hBd hB1
                    cases hb1 : bindsB aa with
                    | false =>
                      obtain ⟨hJ1, hJ2⟩ := joinE_no (aa := aa) (bb := bb) (by unfold joinB; rw [hb1]; rfl)
                      have HJ1 := Lib.hid hJ1
                      have HJ2 := Lib.hid hJ2
                      have K1 := Lib.hid (rBinds_any aa LA lc w7 hla HGa.out hAw)
                      rw [hb1] at K1
                      clear hb1 hJ1 hJ2
                      go_wp2_with fail
                      refine K1.out.mono ?_
                      rintro e8 w8 ⟨rfl, hx8⟩
                      clear K1
                      go_wp2_with fail
                      go_meet
                      exact ⟨none, 0, by rw [HJ1.out], by rw [HJ2.out]; rfl, Lib.hid (by rw [HJ2.out]; exact BdsAt.nil _ _), hx8⟩
                    | true =>
                      have K1 := Lib.hid (rBinds_any aa LA lc w7 hla HGa.out hAw)
                      rw [hb1] at K1
                      go_wp2_with fail
                      refine K1.out.mono ?_
                      rintro e8 w8 ⟨rfl, hx8⟩
                      clear K1
                      have hAv := hAw.ext hx8
                      have hBv := hBw.ext hx8
                      have pv0 := hx8.cell pw0
                      have cBv := hx8.cell cBw
                      have dBv := hx8.cell dBw
                      clear hAw hBw pw0 cBw dBw
                      cases hb2 : bindsB bb with
                      | false =>
                        obtain ⟨hJ1, hJ2⟩ := joinE_no (aa := aa) (bb := bb) (by unfold joinB; rw [hb2]; simp)
                        have HJ1 := Lib.hid hJ1
                        have HJ2 := Lib.hid hJ2
                        have K1 := Lib.hid (rBinds_any bb LB lb w8 hlb' HGb.out hBv)
                        rw [hb2] at K1
                        clear hb1 hb2 hJ1 hJ2
                        go_wp2_with fail
                        refine K1.out.mono ?_
                        rintro e9 w9 ⟨rfl, hx9⟩
                        clear K1
                        go_wp2_with fail
                        go_meet
                        exact ⟨none, 0, by rw [HJ1.out], by rw [HJ2.out]; rfl, Lib.hid (by rw [HJ2.out]; exact BdsAt.nil _ _), hx8.trans hx9⟩
                      | true =>
                        have K1 := Lib.hid (rBinds_any bb LB lb w8 hlb' HGb.out hBv)
                        rw [hb2] at K1
                        go_wp2_with fail
                        refine K1.out.mono ?_
                        rintro e9 w9 ⟨rfl, hx9⟩
                        clear K1
                        have hAu := hAv.ext hx9
                        have hBu := hBv.ext hx9
                        have pu0 := hx9.cell pv0
                        have cBu := hx9.cell cBv
                        have dBu := hx9.cell dBv
                        clear hAv hBv pv0 cBv dBv
                        cases hg1 : grL aa with
                        | false =>
                          obtain ⟨hJ1, hJ2⟩ := joinE_no (aa := aa) (bb := bb) (by unfold joinB; rw [hg1]; simp)
                          have HJ1 := Lib.hid hJ1
                          have HJ2 := Lib.hid hJ2
                          have K1 := Lib.hid (Fixed_any aa LA lc w9 hla (fun _ hi => binds_may hb1 _ hi) hAu)
                          rw [hg1] at K1
                          clear hb1 hb2 hg1 hJ1 hJ2
                          go_wp2_with fail
                          refine K1.out.mono ?_
                          rintro e10 w10 ⟨rfl, hx10⟩
                          clear K1
                          go_wp2_with fail
                          go_meet
                          exact ⟨none, 0, by rw [HJ1.out], by rw [HJ2.out]; rfl, Lib.hid (by rw [HJ2.out]; exact BdsAt.nil _ _), (hx8.trans hx9).trans hx10⟩
                        | true =>
                          have K1 := Lib.hid (Fixed_any aa LA lc w9 hla (fun _ hi => binds_may hb1 _ hi) hAu)
                          rw [hg1] at K1
                          go_wp2_with fail
                          refine K1.out.mono ?_
                          rintro e10 w10 ⟨rfl, hx10⟩
                          clear K1
                          have hAt := hAu.ext hx10
                          have hBt := hBu.ext hx10
                          have pt0 := hx10.cell pu0
                          have cBt := hx10.cell cBu
                          have dBt := hx10.cell dBu
                          clear hAu hBu pu0 cBu dBu
                          have K1 := Lib.hid (Fixed_any bb LB lb w10 hlb' (fun _ hi => binds_may hb2 _ hi) hBt)
                          cases hg2 : grL bb with
                          | false =>
                            obtain ⟨hJ1, hJ2⟩ := joinE_no (aa := aa) (bb := bb) (by unfold joinB; rw [hg2]; simp)
                            have HJ1 := Lib.hid hJ1
                            have HJ2 := Lib.hid hJ2
                            rw [hg2] at K1
                            clear hb1 hb2 hg1 hg2 hJ1 hJ2
                            go_wp2_with fail
                            refine K1.out.mono ?_
                            rintro e11 w11 ⟨rfl, hx11⟩
                            clear K1
                            go_wp2_with fail
                            go_meet
                            exact ⟨none, 0, by rw [HJ1.out], by rw [HJ2.out]; rfl, Lib.hid (by rw [HJ2.out]; exact BdsAt.nil _ _), ((hx8.trans hx9).trans hx10).trans hx11⟩
                          | true =>
                            rw [hg2] at K1
                            have HJ : Hid (joinB aa bb = true) := Lib.hid (by unfold joinB; rw [hb1, hb2, hg1, hg2]; rfl)
                            clear hb1 hb2 hg1 hg2
                            go_wp2_with fail
                            refine K1.out.mono ?_
                            rintro e11 w11 ⟨rfl, hx11⟩
                            clear K1
                            have hAr := hAt.ext hx11
                            have hBr := hBt.ext hx11
                            have pr0 := hx11.cell pt0
                            have cBr := hx11.cell cBt
                            have dBr := hx11.cell dBt
                            have hI0 := Ext.refl w11
                            have rulesI := fun (u : World) (k : Ext w11 u) => And.intro (k.cell pr0) (And.intro (k.cell cBr) (k.cell dBr))
                            have KJ := Lib.hid (fun u hu => join_R (ca := lc) (cb := lb) HJ.out hAr hBr u hu)
                            clear hAt hBt pt0 cBt dBt hAr hBr
                            go_wp2_with fail
                            go_region_held3 (fun u => Ext w11 u) (first | assumption | exact hI0.drew | exact hS12)
                              ((go_at_call 54; refine (KJ.out _ (by assumption)).mono ?_; rintro e12 w12 ⟨A12, c12, rfl, HL12, hS12⟩))
                            all_goals
                              go_wp2_with fail
                              go_meet
                              exact ⟨A12, c12, rfl, rfl, HL12, (((hx8.trans hx9).trans hx10).trans hx11).trans hS12⟩
                    --END13
                  case rest =>
                    obtain ⟨Aw, cw, rfl, rfl, HW, hxc⟩ := hcut
                    obtain ⟨wy, rfl⟩ : ∃ wy : World, wy = wc := ⟨_, rfl⟩
                    have hxy := hx7.trans hxc
                    have hA5y := hA5.ext hxy
                    have hA6y := hA6.ext hxy
                    have hAy := hAx.ext hxy
                    have hBy := hBx.ext hxy
                    have py0 := hxy.cell px0
                    have cBy := hxy.cell cBx
                    have dBy := hxy.cell dBx
                    have HXy := Lib.hid (HX.out.ext hxc)
                    have hwW := HW.out
                    have hjlen := joinL_len (aa := aa) (bb := bb)
                    have hwX := HXy.out.at_
                    have hns := hx7.size
                    have hns2 := hxc.size
                    clear pw0 cBw dBw hAw hBw HX HW
                    generalize joinL aa bb = L at *
                    generalize joinE aa bb = JE at *
                    go_wp2_with fail
                    refine (num2_any _ _).mono ?_
                    rintro e w8 ⟨rfl, rfl⟩
                    go_wp2_with fail
                    refine (eqBinds_any L L X Aw xc cw _ (by omega) (by omega) hwX hwW).mono ?_
                    rintro e w8 ⟨rfl, hx8⟩
                    rw [eqBs_refl]
                    have py1 := hx8.cell py0
                    have cBy1 := hx8.cell cBy
                    have dBy1 := hx8.cell dBy
                    go_wp2_with fail
                    refine (eqBinds_any aa aa A5 LA c5 lc _ hla hla (hA5y.ext hx8) (hAy.ext hx8)).mono ?_
                    rintro e w9 ⟨rfl, hx9⟩
                    rw [eqBs_refl]
                    have py2 := hx9.cell py1
                    have dBy2 := hx9.cell dBy1
                    go_wp2_with fail
                    refine (eqBinds_any bb bb A6 LB c6 lb _ hlb' hlb' ((hA6y.ext hx8).ext hx9) ((hBy.ext hx8).ext hx9)).mono ?_
                    rintro e w10 ⟨rfl, hx10⟩
                    rw [eqBs_refl]
                    have hxy10 := ((hxy.trans hx8).trans hx9).trans hx10
                    have hsz10 := ((hxc.trans hx8).trans hx9).trans hx10 |>.size
                    clear hA5y hA6y hAy hBy py0 cBy dBy py1 cBy1 dBy1 py2 dBy2 hwX hwW
                    go_wp2_with fail
                    refine (spoilBs_any L X xc _ BX dX GX _ (by omega) (fun b hb => by have := hb.2; omega) (((HXy.out.ext hx8).ext hx9).ext hx10)).mono ?_
                    rintro e w11 ⟨rfl, hc11⟩
                    have hx11 := Chg.ext_of hxy10 hc11 (fun b hb => hb.1)
                    have p11 := hx11.cell px0
                    have c11 := hx11.cell cBx
                    have d11 := hx11.cell dBx
                    clear hc11 HXy
                    go_wp2_with fail
                    refine (eqBinds_any aa aa A5 LA c5 lc _ hla hla (hA5.ext hx11) (hAx.ext hx11)).mono ?_
                    rintro e w12 ⟨rfl, hx12⟩
                    rw [eqBs_refl]
                    have p12 := hx12.cell p11
                    have d12 := hx12.cell d11
                    go_wp2_with fail
                    refine (eqBinds_any bb bb A6 LB c6 lb _ hlb' hlb' ((hA6.ext hx11).ext hx12) ((hBx.ext hx11).ext hx12)).mono ?_
                    rintro e w13 ⟨rfl, hx13⟩
                    rw [eqBs_refl]
                    go_wp2_with fail
                    go_roundw
                    case rel => exact ⟨j + 1, by omega, by go_num, hxb.trans (hxg.trans ((hx11.trans hx12).trans hx13))⟩
                    case measure => simp [intOf]; omega
            · by_cases hjl : j < Bs.length
              · have hj6' : decide ((j : Int) < 6) = false := decide_eq_false (by omega)
                go_wp2_with fail
                go_meet
                exact hxb
              · go_wp2_with fail
                go_meet
                exact hxb
          --END2
        case rest =>
          obtain ⟨wx, rfl⟩ : ∃ wx : World, wx = wc := ⟨_, rfl⟩
          have px0 := hcut.cell pa0
          have px2 := hcut.cell pa2
          have cBx := hcut.cell cB
          have hAx := hBd.ext hcut
          have hSx := (hS1.ext hxa).ext hcut
          have hla : aa.length ≤ 1000000 := by omega
          have hJ0 := Ext.refl wx
          have KO := Lib.hid (fun u hu => only_P (c := lc) (d := cs) hla hAx hm hSx u hu)
          have rulesI := fun (u : World) (k : Ext wx u) => And.intro (k.cell px0) (And.intro (k.cell px2) (k.cell cBx))
          clear hB1 hBd
          go_wp2_with fail
          go_region_held3 (fun u => Ext wx u) (first | assumption | exact hJ0.drew | exact hS5)
            ((go_at_call 55; refine (KO.out _ (by assumption)).mono ?_; rintro e5 w5 ⟨A5, c5, rfl, HO5, hS5⟩))
          have hA5 := hAx.ext hS5
          have hO5 := HO5.out
          have hS5' := hSx.ext hS5
          have p5 := hS5.cell px0
          have s5 := hS5.cell px2
          have c5' := hS5.cell cBx
          clear px0 px2 cBx hAx hSx HO5 rulesI KO
          cases hb : bindsB aa with
          | false =>
            have HE : Hid (onlyE aa = 1 ∧ onlyL aa ss = []) := Lib.hid (by unfold onlyE onlyL; rw [if_neg (by rw [hb]; exact Bool.false_ne_true), if_neg (by rw [hb]; exact Bool.false_ne_true)]; exact ⟨rfl, rfl⟩)
            have K1 := Lib.hid (rBinds_any aa LA lc w5 hla HGa.out hA5)
            rw [hb] at K1
            rw [HE.out.1, HE.out.2]
            rw [HE.out.2] at hO5
            clear hb HE
            go_wp2_with fail
            refine K1.out.mono ?_
            rintro e6 w6 ⟨rfl, hx6⟩
            clear K1
            go_wp2_with fail
            refine (num2_any _ _).mono ?_
            rintro e w7 ⟨rfl, rfl⟩
            go_wp2_with fail
            refine (eqBinds_any [] [] A5 none c5 0 _ (by simp) (by simp) (hO5.ext hx6) (BdsAt.nil _ _)).mono ?_
            rintro e w8 ⟨rfl, hx8⟩
            rw [eqBs_refl]
            go_wp2_with fail
            go_roundw
            case rel => exact ⟨i + 1, by omega, by go_num, hxa.trans (hcut.trans ((hS5.trans hx6).trans hx8))⟩
            case measure => simp [intOf]; omega
          | true =>
            have HE : Hid (onlyE aa = 0 ∧ onlyL aa ss = onlyB aa ss) := Lib.hid (by unfold onlyE onlyL; rw [if_pos hb, if_pos hb]; exact ⟨rfl, rfl⟩)
            have K1 := Lib.hid (rBinds_any aa LA lc w5 hla HGa.out hA5)
            rw [hb] at K1
            rw [HE.out.1, HE.out.2]
            rw [HE.out.2] at hO5
            have hol : (onlyB aa ss).length ≤ aa.length := List.length_filter_le _ _
            clear hb HE
            go_wp2_with fail
            refine K1.out.mono ?_
            rintro e6 w6 ⟨rfl, hx6⟩
            have p6 := hx6.cell p5
            have s6 := hx6.cell s5
            have c6' := hx6.cell c5'
            have hA6 := hA5.ext hx6
            have hS6' := hS5'.ext hx6
            have hO6 := hO5.ext hx6
            have hL0 := Ext.refl w6
            have KP := Lib.hid (fun u (hu : Ext w6 u) => (rOnly_any aa ss LA S lc cs u hla (hA6.ext hu) hm (hS6'.ext hu)).mono fun e' w' h' => (⟨h', hu⟩ : CopiedBs (onlyB aa ss) u e' w' ∧ Ext w6 u))
            have rulesI := fun (u : World) (k : Ext w6 u) => And.intro (k.cell p6) (And.intro (k.cell s6) (k.cell c6'))
            clear K1 p5 s5 c5' p6 s6 c6' hA5 hS5' hO5 hA6 hS6'
            go_wp2_with fail
            go_region_held3 (fun u => Ext w6 u) (first | assumption | exact hL0.drew | exact hS7)
              ((go_at_call 56; refine (KP.out _ (by assumption)).mono ?_; rintro e7 w7 ⟨⟨A7, c7, rfl, hc7, hO7, hx7⟩, hu7⟩; have hS7 := hu7.trans hx7))
            all_goals
              go_wp2_with fail
              refine (num2_any _ _).mono ?_
              rintro e w8 ⟨rfl, rfl⟩
              go_wp2_with fail
              refine (eqBinds_any (onlyB aa ss) (onlyB aa ss) A5 A7 c5 c7 _ (by omega) (by omega) (hO6.ext hS7) hO7).mono ?_
              rintro e w9 ⟨rfl, hx9⟩
              rw [eqBs_refl]
              go_wp2_with fail
              go_roundw
              case rel => exact ⟨i + 1, by omega, by go_num, hxa.trans (hcut.trans ((hS5.trans hx6).trans (hS7.trans hx9)))⟩
              case measure => simp [intOf]; omega
      · by_cases hlt : i < Bs.length
        · have h6' : decide ((i : Int) < 6) = false := decide_eq_false (by omega)
          go_wp2_with fail
          refine (wakes2_any _).mono ?_
          rintro e9 w9 ⟨rfl, hx9⟩
          go_wp2_with fail
          go_ret
          exact ⟨rfl, (hx01.trans hxa).trans hx9⟩
        · go_wp2_with fail
          refine (wakes2_any _).mono ?_
          rintro e9 w9 ⟨rfl, hx9⟩
          go_wp2_with fail
          go_ret
          exact ⟨rfl, (hx01.trans hxa).trans hx9⟩
end Go.Proofs.Ytagkimcbllpnkaa
