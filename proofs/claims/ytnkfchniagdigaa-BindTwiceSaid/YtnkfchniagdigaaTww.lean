/- BindTwice: the walk. -/
import Derived.Test.YtnkfchniagdigaaMC
import Derived.Deep.DeepCutAuto
import Derived.Deep.CutBlock
namespace Go.Proofs.Ytnkfchniagdigaa
open Go.RowKit

abbrev nmQ : ByteArray := ⟨#[81, 120]⟩

set_option maxRecDepth 100000 in
set_option maxHeartbeats 16000000 in
theorem twice_walk (Bs : List (List Bd)) (ts : List Tm) (ss : List ByteArray) (A T S : Option Addr) (ca ct cs : Nat) (w : World) (hbl : Bs.length * 24 ≤ 140737488351232) (hB : BssAt w Bs A) (hl : ts.length * 56 ≤ 140737488351232) (h : TmsAt w ts T) (hm : ss.length * 16 ≤ 140737488351232) (hs : StrsAt w ss S) :
    Calls Try.prog 8 #[.agg #[.slice A Bs.length ca, .slice T ts.length ct, .slice S ss.length cs]] w fun e w' => e = .returned (.bool true) ∧ Ext w w' := by
  have hx0 : Ext w (w.alloc (.cells #[.slice A Bs.length ca, .slice T ts.length ct, .slice S ss.length cs] 56)) := (Ext.refl w).alloc _
  go_enter Try.func8, Try.ntmps8
  go_wp2_with fail
  refine (heavy2_any Bs ts ss A T S ca ct cs _ hbl (hB.ext hx0) hl (h.ext hx0) hm (hs.ext hx0)).mono ?_
  rintro e1 w1 ⟨hv, rfl, HV, hx1⟩
  have hx01 := hx0.trans hx1
  have p0 : w1.cell? ⟨w.heap.size, 0, none⟩ = some (.slice A Bs.length ca) := hx1.cell (by go_simp)
  have p1 : w1.cell? ⟨w.heap.size, 1, none⟩ = some (.slice T ts.length ct) := hx1.cell (by go_simp)
  clear hs hx1 hx0
  cases hv with
  | true =>
    go_wp2_with fail
    go_ret
    exact ⟨rfl, hx01⟩
  | false =>
    obtain ⟨hlen, hbn, htw, _⟩ := HV rfl
    have HLEN := Lib.hid hlen
    have htn : ts.length ≤ 3000 := by have := weightL_ge 30 (weightT_pos 30) ts ts.length; omega
    have hB1 := hB.ext hx01
    have hT1 := h.ext hx01
    clear HV hlen htw hB h
    go_wp2_with fail
    go_loopw [3] (fun i wr => ∃ k : Nat, k ≤ Bs.length ∧ i = .int .i64 k ∧ Ext w1 wr) (fun i _ => Bs.length - (intOf i).toNat)
    case atStart => exact ⟨0, Nat.zero_le _, rfl, Ext.refl _⟩
    case round =>
      obtain ⟨i, hi, rfl, hxa⟩ := hrel
      obtain ⟨wa, rfl⟩ : ∃ wa : World, wa = wr := ⟨_, rfl⟩
      have pa0 := hxa.cell p0
      have pa1 := hxa.cell p1
      by_cases hboth : i < Bs.length ∧ i < 6
      · obtain ⟨hlt, h6⟩ := hboth
        have h6' : decide ((i : Int) < 6) = true := decide_eq_true (by omega)
        obtain ⟨b, o, LA, lc, rfl, cB, hBd, hlc, _⟩ := (hB1.ext hxa) i hlt
        have hBl := HLEN.out i hlt
        have i0 : (0 : Int) ≤ (i : Int) := Int.natCast_nonneg _
        have i1 : (i : Int) < (Bs.length : Int) := by omega
        generalize hbs : Bs[i] = bs at *
        have HBS := Lib.hid hbs
        clear hbs
        go_upto_block 2 with (fail)
        go_cut [4] (fun _ wx => Ext wa wx)
        case first =>
          --BEGIN2
          go_wp2_with fail
          go_loopw [4] (fun j wr => ∃ k : Nat, k ≤ ts.length ∧ j = .int .i64 k ∧ Ext wa wr) (fun j _ => ts.length - (intOf j).toNat)
          case atStart => exact ⟨0, Nat.zero_le _, rfl, Ext.refl _⟩
          case round =>
            obtain ⟨j, hj, rfl, hxb⟩ := hrel
            obtain ⟨wb, rfl⟩ : ∃ wb : World, wb = wr := ⟨_, rfl⟩
            have pb0 := hxb.cell pa0
            have pb1 := hxb.cell pa1
            have cBb := hxb.cell cB
            have hBb := hBd.ext hxb
            by_cases hb2 : j < ts.length ∧ j < 6
            · obtain ⟨hjl, hj6⟩ := hb2
              have hj6' : decide ((j : Int) < 6) = true := decide_eq_true (by omega)
              obtain ⟨b2, o2, TA, tc, rfl, c0, c1, c2, c3, hTt⟩ := (hT1.ext (hxa.trans hxb)).at_ hjl
              have j0 : (0 : Int) ≤ (j : Int) := Int.natCast_nonneg _
              have j1 : (j : Int) < (ts.length : Int) := by omega
              generalize htj : ts[j] = t at *
              have HTJ := Lib.hid htj
              clear htj
              go_upto_region 9 with (fail)
              go_cut [5, 6] (fun p5 v6 wx => ∃ (g : Nat) (A1 : Option Addr) (c1 : Nat), p5 = .pointer (some ⟨g, 0, none⟩) ∧ v6 = .int .i64 (applyE bs t) ∧ Hid (wx.cell? ⟨g, 0, none⟩ = some (.int .i64 (applyT bs t).kind) ∧ wx.cell? ⟨g, 1, none⟩ = some (.string (applyT bs t).name) ∧
                  wx.cell? ⟨g, 2, none⟩ = some (.int .i64 (applyT bs t).n) ∧ wx.cell? ⟨g, 3, none⟩ = some (.slice A1 (applyT bs t).args.length c1)) ∧ Hid (TmAt wx (applyT bs t) A1 c1) ∧ Ext wb wx)
              case first =>
                --BEGIN9
                have rulesI := fun (u : World) (k : Ext wb u) => And.intro (k.cell pb0) (And.intro (k.cell pb1) (And.intro (k.cell cBb) (And.intro (k.cell c0) (And.intro (k.cell c1) (And.intro (k.cell c2) (k.cell c3))))))
                have hI0 := Ext.refl wb
                have KA := Lib.hid (fun u hu => ap_A (lc := lc) (show bs.length ≤ 1000000 by omega) hBb hTt u hu)
                have KB := Lib.hid (fun u hu => ap_B (lc := lc) (show bs.length ≤ 1000000 by omega) hBb hTt u hu)
                clear hBb hTt hBd hB1 hT1
                go_region_held3 (fun u => Ext wb u) (first | assumption | exact hI0.drew | exact Ext.alloc hI0.drew _ | exact (Ext.alloc hI0 _).drew | exact hS5 | exact Ext.alloc hS5 _ | exact Ext.setCell (Ext.setCell (Ext.setCell (Ext.setCell hS5 (Nat.le_refl _) _) (Nat.le_refl _) _) (Nat.le_refl _) _) (Nat.le_refl _) _)
                  (first
                    | (go_at_call 49; refine (KB.out _ ?_).mono ?_; (first | exact Ext.refl _ | exact (Ext.refl _).drew); rintro e5 w5 ⟨A1, c1, rfl, hO5, hS5, y0, y1, y2, y3, z0, z1, z2, z3⟩)
                    | (go_at_call 49; refine (KA.out _ (by assumption)).mono ?_; rintro e5 w5 ⟨A1, c1, rfl, hO5, hS5⟩))
                · go_wp2_with fail
                  go_meet
                  exact ⟨w5.heap.size, A1, c1, rfl, rfl, Lib.hid ⟨by go_simp, by go_simp, by go_simp, by go_simp⟩, Lib.hid (hO5.out.at_.ext ((Ext.refl _).alloc _)), hS5.alloc _⟩
                · have HC := Lib.hid (set4_cells (o := 0) (.int .i64 (applyT bs t).kind) (.string (applyT bs t).name) (.int .i64 (applyT bs t).n) (.slice A1 (applyT bs t).args.length c1) y0 y1 y2 y3)
                  go_wp2_with fail
                  go_meet
                  exact ⟨wb.heap.size, A1, c1, rfl, rfl, HC, Lib.hid (hO5.out.keep fun k hk _ => set4_block w5 wb.heap.size 0 _ _ _ _ k (by omega)).at_, Chg.ext_of hS5 (set4_chg w5 wb.heap.size 0 _ _ _ _ (F := fun x => x = wb.heap.size) rfl) (fun b hb => by omega)⟩
                --END9
              case rest =>
                obtain ⟨g, A1, c1', rfl, rfl, HG, HT1', hxg⟩ := hcut
                obtain ⟨wx, rfl⟩ : ∃ wx : World, wx = wc := ⟨_, rfl⟩
                have px0 := hxg.cell pb0
                have px1 := hxg.cell pb1
                have cBx := hxg.cell cBb
                have hBx := hBb.ext hxg
                by_cases hE : applyE bs t = 0
                · obtain ⟨hAT, hbb, hmm, hE2, hAT2⟩ := apply_twice hE
                  rw [hE]
                  rw [hAT] at HG HT1'
                  generalize repT bs t = r at *
                  obtain ⟨n0, n1, n2, n3⟩ := HG.out
                  have hTr := HT1'.out
                  have HE2 := Lib.hid hE2
                  have HA2 := Lib.hid hAT2
                  clear hE hAT hmm hE2 hAT2 HG HT1' c0 c1 c2 c3 hTt pb0 pb1 cBb hBb
                  go_upto_region 11 with (go_at_call 40; refine (num2_any _ _).mono ?_; rintro e w' ⟨rfl, rfl⟩)
                  go_cut [7, 8] (fun p7 v8 wy => ∃ (g2 : Nat) (A2 : Option Addr) (c2 : Nat), p7 = .pointer (some ⟨g2, 0, none⟩) ∧ v8 = .int .i64 (applyE bs r) ∧ Hid (wy.cell? ⟨g2, 0, none⟩ = some (.int .i64 (applyT bs r).kind) ∧ wy.cell? ⟨g2, 1, none⟩ = some (.string (applyT bs r).name) ∧
                      wy.cell? ⟨g2, 2, none⟩ = some (.int .i64 (applyT bs r).n) ∧ wy.cell? ⟨g2, 3, none⟩ = some (.slice A2 (applyT bs r).args.length c2)) ∧ Hid (TmAt wy (applyT bs r) A2 c2) ∧ Ext wx wy)
                  case first =>
                    --BEGIN11
                    have rulesI := fun (u : World) (k : Ext wx u) => And.intro (k.cell px0) (And.intro (k.cell px1) (And.intro (k.cell cBx) (And.intro (k.cell n0) (And.intro (k.cell n1) (And.intro (k.cell n2) (k.cell n3))))))
                    have hI0 := Ext.refl wx
                    have KA := Lib.hid (fun u hu => ap_A (lc := lc) (show bs.length ≤ 1000000 by omega) hBx hTr u hu)
                    have KB := Lib.hid (fun u hu => ap_B (lc := lc) (show bs.length ≤ 1000000 by omega) hBx hTr u hu)
                    clear hBx hTr hBd hB1 hT1
                    go_region_held3 (fun u => Ext wx u) (first | assumption | exact hI0.drew | exact Ext.alloc hI0.drew _ | exact (Ext.alloc hI0 _).drew | exact hS5 | exact Ext.alloc hS5 _ | exact Ext.setCell (Ext.setCell (Ext.setCell (Ext.setCell hS5 (Nat.le_refl _) _) (Nat.le_refl _) _) (Nat.le_refl _) _) (Nat.le_refl _) _)
                      (first
                        | (go_at_call 49; refine (KB.out _ ?_).mono ?_; (first | exact Ext.refl _ | exact (Ext.refl _).drew); rintro e5 w5 ⟨A2, c2, rfl, hO5, hS5, y0, y1, y2, y3, z0, z1, z2, z3⟩)
                        | (go_at_call 49; refine (KA.out _ (by assumption)).mono ?_; rintro e5 w5 ⟨A2, c2, rfl, hO5, hS5⟩))
                    · go_wp2_with fail
                      go_meet
                      exact ⟨w5.heap.size, A2, c2, rfl, rfl, Lib.hid ⟨by go_simp, by go_simp, by go_simp, by go_simp⟩, Lib.hid (hO5.out.at_.ext ((Ext.refl _).alloc _)), hS5.alloc _⟩
                    · have HC := Lib.hid (set4_cells (o := 0) (.int .i64 (applyT bs r).kind) (.string (applyT bs r).name) (.int .i64 (applyT bs r).n) (.slice A2 (applyT bs r).args.length c2) y0 y1 y2 y3)
                      go_wp2_with fail
                      go_meet
                      exact ⟨wx.heap.size, A2, c2, rfl, rfl, HC, Lib.hid (hO5.out.keep fun k hk _ => set4_block w5 wx.heap.size 0 _ _ _ _ k (by omega)).at_, Chg.ext_of hS5 (set4_chg w5 wx.heap.size 0 _ _ _ _ (F := fun x => x = wx.heap.size) rfl) (fun b hb => by omega)⟩
                    --END11
                  case rest =>
                    obtain ⟨g2, A2, c2, rfl, rfl, HG2, HT2', hxy⟩ := hcut
                    obtain ⟨wy, rfl⟩ : ∃ wy : World, wy = wc := ⟨_, rfl⟩
                    rw [HE2.out]
                    rw [HA2.out] at HG2 HT2'
                    obtain ⟨m0, m1, m2, m3⟩ := HG2.out
                    have hT2 := HT2'.out
                    have hTy := hTr.ext hxy
                    have py0 := hxy.cell px0
                    have cBy := hxy.cell cBx
                    have hBy := hBx.ext hxy
                    have q0 := hxy.cell n0
                    have q1 := hxy.cell n1
                    have q2 := hxy.cell n2
                    have q3 := hxy.cell n3
                    clear HG2 HT2' HE2 HA2 hTr px0 px1 cBx hBx n0 n1 n2 n3 pa0 pa1
                    go_wp2_with (first
                      | (go_at_call 40; refine (num2_any _ _).mono ?_; rintro e w' ⟨rfl, rfl⟩)
                      | (go_at_call 28; refine (EqTerm_self r _ _ _ _ _ hTy hT2).mono ?_; rintro e6 w6 ⟨rfl, hx6⟩))
                    have pz0 := hx6.cell py0
                    have cBz := hx6.cell cBy
                    have hBz := hBy.ext hx6
                    have hTz := hTy.ext hx6
                    have r0 := hx6.cell q0
                    have r1 := hx6.cell q1
                    have r2 := hx6.cell q2
                    have r3 := hx6.cell q3
                    have hxz := (hxg.trans hxy).trans hx6
                    clear py0 cBy hBy hTy q0 q1 q2 q3 m0 m1 m2 m3 hT2 hxg hxy hx6
                    go_upto_region 14 with (fail)
                    have rulesS := fun (u : World) (k : Ext w6 u) => And.intro (k.cell pz0) (And.intro (k.cell cBz) (And.intro (k.cell r0) (And.intro (k.cell r1) (And.intro (k.cell r2) (k.cell r3)))))
                    have hS0 := Ext.refl w6
                    have KS := Lib.hid (fun u hu => set_P (s := nmQ) (show (2 : Nat) ≤ 140737488351232 by omega) (show bs.length ≤ 1000000 by omega) hlc hBz hTz u hu)
                    go_region_held3 (fun u => Ext w6 u) (first | assumption | exact hS0.drew | exact hS7)
                      ((go_at_call 44; refine (KS.out _ (by assumption)).mono ?_; rintro e7 w7 ⟨X, AX, cX, kx, rfl, hX, hXl, hk0, hk2, hXg, hS7⟩))
                    have t0 := hS7.cell r0
                    have t1 := hS7.cell r1
                    have t2 := hS7.cell r2
                    have t3 := hS7.cell r3
                    have hTt7 := hTz.ext hS7
                    clear rulesS KS hS0 pz0 cBz hBz hTz r0 r1 r2 r3
                    have hx7 := hxz.trans hS7
                    clear hS7 hxz
                    by_cases hk : kx = 0
                    · subst hk
                      have hXb := hXg.out rfl
                      have HXB := Lib.hid hXb
                      clear hXg hXb hk0 hk2
                      go_upto_region 16 with (go_at_call 40; refine (num2_any _ _).mono ?_; rintro e w' ⟨rfl, rfl⟩)
                      go_cut [11, 12] (fun p11 v12 wz => ∃ (g3 : Nat) (A3 : Option Addr) (c3 : Nat), p11 = .pointer (some ⟨g3, 0, none⟩) ∧ v12 = .int .i64 0 ∧ Hid (wz.cell? ⟨g3, 0, none⟩ = some (.int .i64 r.kind) ∧ wz.cell? ⟨g3, 1, none⟩ = some (.string r.name) ∧
                        wz.cell? ⟨g3, 2, none⟩ = some (.int .i64 r.n) ∧ wz.cell? ⟨g3, 3, none⟩ = some (.slice A3 r.args.length c3)) ∧ Hid (TmAt wz r A3 c3) ∧ Ext w7 wz)
                      case first =>
                        go_wp2_with (go_at_call 42; refine (get_P (s := nmQ) HXB.out hXl AX cX _ hX.out).mono ?_; rintro e8 w8 ⟨A3, c3, rfl, hT8, hx8⟩)
                        go_meet
                        exact ⟨w8.heap.size, A3, c3, rfl, rfl, Lib.hid ⟨by go_simp, by go_simp, by go_simp, by go_simp⟩, Lib.hid (hT8.out.ext ((Ext.refl _).alloc _)), hx8.alloc _⟩
                      case rest =>
                        obtain ⟨g3, A3, c3, rfl, rfl, HG3, HT3', hxz⟩ := hcut
                        obtain ⟨wz, rfl⟩ : ∃ wz : World, wz = wc := ⟨_, rfl⟩
                        obtain ⟨m0, m1, m2, m3⟩ := HG3.out
                        have hT3 := HT3'.out
                        have hTz := hTt7.ext hxz
                        have hXz := hX.out.ext hxz
                        have q0 := hxz.cell t0
                        have q1 := hxz.cell t1
                        have q2 := hxz.cell t2
                        have q3 := hxz.cell t3
                        clear HG3 HT3' t0 t1 t2 t3 hX
                        have HXz := Lib.hid hXz
                        clear hXz
                        go_wp2_with (first
                          | (go_at_call 40; refine (num2_any _ _).mono ?_; rintro e w' ⟨rfl, rfl⟩)
                          | (go_at_call 28; refine (EqTerm_self r _ _ _ _ _ hT3 hTz).mono ?_; rintro e6 w9 ⟨rfl, hx9⟩)
                          | (go_at_call 41; refine (bcheck_yes HXB.out.1 AX cX _ (by omega) (HXz.out.ext hx9)).mono ?_; rintro e6 w10 ⟨rfl, hx10⟩))
                        go_roundw
                        case rel => exact ⟨j + 1, by omega, by go_num, (((hxb.trans hx7).trans hxz).trans hx9).trans hx10⟩
                        case measure => simp [intOf]; omega
                    · have hne : (kx != 0) = true := by simpa using hk
                      clear hXg hX hTt7 t0 t1 t2 t3
                      go_wp2_with (go_at_call 40; refine (num2_any _ _).mono ?_; rintro e w' ⟨rfl, rfl⟩)
                      go_roundw
                      case rel => exact ⟨j + 1, by omega, by go_num, hxb.trans hx7⟩
                      case measure => simp [intOf]; omega
                · have hne : (applyE bs t != 0) = true := by simpa using hE
                  clear HG HT1' c0 c1 c2 c3 hTt
                  go_wp2_with (go_at_call 40; refine (num2_any _ _).mono ?_; rintro e w' ⟨rfl, rfl⟩)
                  go_roundw
                  case rel => exact ⟨j + 1, by omega, by go_num, hxb.trans hxg⟩
                  case measure => simp [intOf]; omega
            · by_cases hjl : j < ts.length
              · have hj6' : decide ((j : Int) < 6) = false := decide_eq_false (by omega)
                go_wp2_with fail
                go_meet
                exact hxb
              · go_wp2_with fail
                go_meet
                exact hxb
          --END2
        case rest =>
          --BEGIN3
          obtain ⟨wy, rfl⟩ : ∃ wy : World, wy = wc := ⟨_, rfl⟩
          have py0 := hcut.cell pa0
          have cBy := hcut.cell cB
          have hBy := hBd.ext hcut
          have hxy := hxa.trans hcut
          clear hcut cB hBd pa0 pa1 hT1
          go_wp2_with fail
          go_loopw [13] (fun k wr => ∃ m : Nat, m ≤ Bs.length ∧ k = .int .i64 m ∧ Ext wy wr) (fun k _ => Bs.length - (intOf k).toNat)
          case atStart => exact ⟨0, Nat.zero_le _, rfl, Ext.refl _⟩
          case round =>
            obtain ⟨m, hmle, rfl, hxd⟩ := hrel
            obtain ⟨wd, rfl⟩ : ∃ wd : World, wd = wr := ⟨_, rfl⟩
            have pd0 := hxd.cell py0
            by_cases hb3 : m < Bs.length ∧ m < 6
            · obtain ⟨hml, hm6⟩ := hb3
              have hm6' : decide ((m : Int) < 6) = true := decide_eq_true (by omega)
              obtain ⟨b3, o3, LB, lcb, e3, cB3, hBB, hlcb, _⟩ := (hB1.ext (hxy.trans hxd)) m hml
              have eb : b = b3 := by injection e3 with e3; injection e3
              have eo : o = o3 := by injection e3 with e3; injection e3
              subst eb
              subst eo
              have hBl3 := HLEN.out m hml
              have m0 : (0 : Int) ≤ (m : Int) := Int.natCast_nonneg _
              have m1 : (m : Int) < (Bs.length : Int) := by omega
              have cBd := hxd.cell cBy
              have hBd := hBy.ext hxd
              clear e3
              generalize hbk : Bs[m] = bk at *
              obtain ⟨L, n, hL16, KJ⟩ := joins bs bk (by omega) (by omega)
              have K1 := Lib.hid (fun u hu => (KJ LA LB lc lcb wd hBd hBB hlc hlcb u hu).1)
              have K2 := Lib.hid (fun (u' : World) (hu' : Ext wd u') u hu => (KJ LA LB lc lcb u' (hBd.ext hu') (hBB.ext hu') hlc hlcb u hu).2)
              have HL16 := Lib.hid hL16
              clear KJ hL16 hbk hB1 hBd hBB hBy
              go_upto_region 22 with (fail)
              have rulesJ := fun (u : World) (k : Ext wd u) => And.intro (k.cell pd0) (And.intro (k.cell cBd) (k.cell cB3))
              have hJ0 := Ext.refl wd
              go_region_held3 (fun u => Ext wd u) (first | assumption | exact hJ0.drew | exact hJ5)
                ((go_at_call 52; refine (K1.out _ (by assumption)).mono ?_; rintro e5 w5 ⟨A5, c5, rfl, hL5, hJ5⟩))
              have pe0 := hJ5.cell pd0
              have cBe := hJ5.cell cBd
              have cB3e := hJ5.cell cB3
              have K3 := Lib.hid (K2.out w5 hJ5)
              have hxe := hxd.trans hJ5
              clear rulesJ hJ0 pd0 cBd cB3 K1 K2 hJ5
              go_upto_region 23 with (fail)
              have rulesK := fun (u : World) (k : Ext w5 u) => And.intro (k.cell pe0) (And.intro (k.cell cBe) (k.cell cB3e))
              have hJ0 := Ext.refl w5
              go_region_held3 (fun u => Ext w5 u) (first | assumption | exact hJ0.drew | exact hJ6)
                ((go_at_call 52; refine (K3.out _ (by assumption)).mono ?_; rintro e6 w6 ⟨A6, c6, rfl, hL6, hJ6⟩))
              have hL5' := Lib.hid (hL5.out.ext hJ6)
              have hnn : (n != n) = false := by simp
              clear rulesK hJ0 K3 pe0 cBe cB3e
              go_wp2_with (first
                | (go_at_call 40; refine (num2_any _ _).mono ?_; rintro e w' ⟨rfl, rfl⟩)
                | (go_at_call 47; refine (eqBinds_self L A5 A6 c5 c6 _ HL16.out hL5'.out hL6.out).mono ?_; rintro e7 w7 ⟨rfl, hx7⟩))
              go_roundw
              case rel => exact ⟨m + 1, by omega, by go_num, (hxe.trans hJ6).trans hx7⟩
              case measure => simp [intOf]; omega
            · by_cases hml : m < Bs.length
              · have hm6' : decide ((m : Int) < 6) = false := decide_eq_false (by omega)
                go_wp2_with fail
                go_roundw
                case rel => exact ⟨i + 1, by omega, by go_num, hxy.trans hxd⟩
                case measure => simp [intOf]; omega
              · go_wp2_with fail
                go_roundw
                case rel => exact ⟨i + 1, by omega, by go_num, hxy.trans hxd⟩
                case measure => simp [intOf]; omega
          --END3
      · by_cases hlt : i < Bs.length
        · have h6' : decide ((i : Int) < 6) = false := decide_eq_false (by omega)
          go_wp2_with fail
          refine (wakes2_any _).mono ?_
          rintro e9 w9 ⟨rfl, hx9⟩
          go_wp2_with fail
          go_ret
          exact ⟨rfl, (hx01.trans hxa).trans hx9⟩
        · go_wp2_with fail
          refine (wakes2_any _).mono ?_
          rintro e9 w9 ⟨rfl, hx9⟩
          go_wp2_with fail
          go_ret
          exact ⟨rfl, (hx01.trans hxa).trans hx9⟩
end Go.Proofs.Ytnkfchniagdigaa
