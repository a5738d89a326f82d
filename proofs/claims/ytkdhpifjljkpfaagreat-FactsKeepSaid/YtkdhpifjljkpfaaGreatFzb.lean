/- FactsKeep's walk. -/
import Derived.Test.YtkdhpifjljkpfaaGreatFza
import Derived.Test.YtkdhpifjljkpfaaGreatFP
import Derived.Test.YtkdhpifjljkpfaaGreatFky
import Derived.Test.YtkdhpifjljkpfaaGreatFya
import Derived.Test.YtkdhpifjljkpfaaGreatFkw
import Derived.Test.YtkdhpifjljkpfaaGreatFzr
namespace Go.Proofs.YtkdhpifjljkpfaaGreat
open Go.RowKit

/-- what Sorted is to tell -/
def SortK (ks : List Kp) (us : List Fc) : Prop := ∀ T tc u, ks.length ≤ tc → KpsAt u ks T → Calls Tryz.prog 7 #[.slice T ks.length tc] u fun e u' => ∃ U uc B d G, e = .returned (.tuple #[.slice U us.length uc, .int .i64 (badE (kpsB ks))]) ∧ FOwn u' us U (fun x => u.heap.size ≤ x ∧ x < u'.heap.size) B d G ∧ Ext u u'
def SortP (ks : List Kp) (us : List Fc) : Prop := ∀ T tc u, KpsAt u ks T → Calls Tryz.prog 8 #[.slice T ks.length tc] u fun e u' => ∃ U uc, e = .returned (.slice U us.length uc) ∧ FcsAt u' us U ∧ Ext u u'

set_option maxRecDepth 100000 in
set_option maxHeartbeats 200000000 in
theorem keep_walk (ks : List Kp) (A : Option Addr) (c : Nat) (fs : List Fc) (B : Option Addr) (d : Nat) (ns : List Int) (C : Option Addr) (e' : Nat) (w : World) (h : In9 ks A c fs B d ns.length w) (hN : IntsAt w ns C) (hce : ns.length ≤ e') (hnw : ∀ n ∈ ns, (Lit.int .i64 n).wf = true) (hh : heavyF ks fs ns.length = false)
    (us : List Fc) (HS : Hid (SortK ks us)) (HSP : Hid (kpsB ks = true → SortP ks us)) (hus : us.length ≤ 1000000) (hu0 : kpsB ks = false → us = []) :
    Calls Tryz.prog 3 #[.agg (askV A ks.length c B fs.length d C ns.length e')] w fun e w' => e = .returned (.bool true) ∧ Ext w w' := by
  obtain ⟨W0, hW0⟩ : ∃ W0, W0 = w.alloc (.cells (askV A ks.length c B fs.length d C ns.length e') 26) := ⟨_, rfl⟩
  have hx0 : Ext w W0 := by rw [hW0]; exact (Ext.refl w).alloc _
  have q0 : W0.cell? ⟨w.heap.size, 0, none⟩ = some (.slice A ks.length c) := by rw [hW0]; go_simp
  have q1 : W0.cell? ⟨w.heap.size, 1, none⟩ = some (.slice B fs.length d) := by rw [hW0]; go_simp
  have q2 : W0.cell? ⟨w.heap.size, 2, none⟩ = some (.slice C ns.length e') := by rw [hW0]; go_simp
  have KH := Lib.hid (heavyF_any ks fs ns.length A B C c d e' W0 h.klen h.flen h.nlen (h.kps.ext hx0) (h.fcs.ext hx0))
  rw [hh] at KH
  obtain ⟨hl1, hl2, hl3, hhf, hhk⟩ := light_facts hh
  have HK0 := Lib.hid (h.kps.ext hx0)
  have HF0 := Lib.hid (h.fcs.ext hx0)
  have HN0 := Lib.hid (hN.ext hx0)
  have HX0 := Lib.hid hx0
  have HLL := Lib.hid (And.intro hl1 (And.intro hl2 (And.intro hl3 (And.intro hce hus))))
  have HHF := Lib.hid hhf
  have HHK := Lib.hid hhk
  have HNW := Lib.hid hnw
  have HU0 := Lib.hid hu0
  have KW := Lib.hid (fun u => wakesF_any u)
  have KN := Lib.hid (fun n u => fnum_any n u)
  have HW := Lib.hid hW0
  obtain ⟨KB, hKB⟩ : ∃ KB, KB = kpsB ks := ⟨_, rfl⟩
  have HKB := Lib.hid hKB
  obtain ⟨um, hum⟩ : ∃ um, um = us.length := ⟨_, rfl⟩
  have HUM := Lib.hid hum
  clear hW0 h hh hx0 hN hnw hhf hhk hl1 hl2 hl3 hce hKB hus hu0 hum
  go_enter Tryz.func3, Tryz.ntmps3
  go_upto_region 1 with (fail)
  rw [← HW.out]
  obtain ⟨g, hg⟩ : ∃ g, g = w.heap.size := ⟨_, rfl⟩
  rw [← hg] at q0 q1 q2
  rw [← hg]
  clear HW hg
  go_wp2_with fail
  refine KH.out.mono ?_
  rintro e w1 ⟨rfl, hx1⟩
  replace q0 := hx1.cell q0
  replace q1 := hx1.cell q1
  replace q2 := hx1.cell q2
  have KC := Lib.hid (copyKepts_any ks A c w1 (by have := HLL.out; omega) (HK0.out.ext hx1))
  have HX1 := Lib.hid hx1
  clear hx1 KH
  go_wp2_with fail
  refine KC.out.mono ?_
  rintro e w2 ⟨v2, zs, G, rfl, hKO⟩
  obtain ⟨T, tc, rfl, htc, hT⟩ := hKO.at_
  have hx2 := hKO.inv.ext
  replace q0 := hx2.cell q0
  replace q1 := hx2.cell q1
  replace q2 := hx2.cell q2
  have HX2 := Lib.hid (HX1.out.trans hx2)
  have HT := Lib.hid hT
  have HTC := Lib.hid htc
  clear hKO hT htc hx2 HX1 KC
  have KR := Lib.hid (rFacts_any ks A c w2 (by have := HLL.out; omega) (fun x hx => by have := HHK.out x hx; omega) (HK0.out.ext HX2.out))
  rw [← HKB.out] at KR
  go_wp2_with fail
  refine KR.out.mono ?_
  rintro e w3 ⟨rfl, hx3⟩
  replace q0 := hx3.cell q0
  replace q1 := hx3.cell q1
  replace q2 := hx3.cell q2
  have HX3 := Lib.hid hx3
  have HQ3 := Lib.hid (And.intro q0 (And.intro q1 q2))
  have KS := Lib.hid (HS.out T tc w3 HTC.out (HT.out.ext hx3))
  rw [← HKB.out, ← HUM.out] at KS
  clear hx3 KR HS
  go_wp2_with fail
  refine KS.out.mono ?_
  rintro e w4 ⟨U, uc, UB, ud, UG, rfl, hO, hx4⟩
  replace q0 := hx4.cell q0
  replace q1 := hx4.cell q1
  replace q2 := hx4.cell q2
  have HO := Lib.hid hO
  have HX34 := Lib.hid hx4
  have HX4 := Lib.hid (HX3.out.trans hx4)
  have HK4 := Lib.hid (HK0.out.ext (HX2.out.trans HX4.out))
  clear hO hx4 KS
  go_upto_if 44 with (fail)
  go_cut [7, 8] from 44 to 47 (fun a b wx => ∃ V vc, a = .int .i64 (badE KB) ∧ b = .slice V um vc ∧ FcsAt wx us V ∧ Ext w4 wx)
  case first =>
    go_wp2_with fail
    · rename KB = true => hkb
      have KP := Lib.hid (HSP.out (HKB.out.symm.trans hkb) A c w4 HK4.out)
      rw [← HUM.out] at KP
      have HBK : Hid (badE KB = 0) := Lib.hid (by rw [hkb]; rfl)
      clear hkb
      refine KP.out.mono ?_
      rintro e w5 ⟨V, vc, rfl, hV, hx5⟩
      have HVV := Lib.hid (And.intro hV hx5)
      clear hV hx5 KP
      go_wp2_with fail
      go_meet
      exact ⟨V, vc, by rw [HBK.out], rfl, HVV.out.1, HVV.out.2⟩
    · rename KB = false => hkb'
      have he := HU0.out (HKB.out.symm.trans hkb')
      have hu9 : um = 0 := by rw [HUM.out, he]; rfl
      have hbk : badE KB = 1 := by rw [hkb']; rfl
      go_meet
      exact ⟨none, 0, by rw [hbk], by rw [hu9], by rw [he]; exact FcsAt.nil _ _, Ext.refl _⟩
  case rest =>
    obtain ⟨V, vc, rfl, rfl, hV, hx5⟩ := hcut
    obtain ⟨w5, hw5⟩ : ∃ w5 : World, w5 = wc := ⟨_, rfl⟩
    rw [← hw5] at hV hx5
    rw [← hw5]
    clear hw5
    replace q0 := hx5.cell q0
    replace q1 := hx5.cell q1
    replace q2 := hx5.cell q2
    have HX5 := Lib.hid (HX4.out.trans hx5)
    have HX45 := Lib.hid hx5
    have HV := Lib.hid hV
    have KCH := Lib.hid (Check_any ks T tc w5 HTC.out (by have := HLL.out; omega) (HT.out.ext HX5.out))
    rw [← HKB.out] at KCH
    clear hx5 hV
    have HB0 := Lib.hid (badE_ok KB)
    obtain ⟨E, hE⟩ : ∃ E, E = badE KB := ⟨_, rfl⟩
    rw [← hE] at KCH HB0
    rw [← hE]
    have hb0 := HB0.out
    have hkk : (KB != KB) = false := by simp
    have hee : (E != E) = false := by simp
    have HEB := Lib.hid hE
    clear hE HB0
    go_wp2_with fail
    refine KCH.out.mono ?_
    rintro e w6 ⟨rfl, hx6⟩
    replace q0 := hx6.cell q0
    replace q1 := hx6.cell q1
    replace q2 := hx6.cell q2
    have HX6 := Lib.hid (HX5.out.trans hx6)
    have HX46 := Lib.hid (HX45.out.trans hx6)
    have HV6 := Lib.hid (HV.out.ext hx6)
    clear hx6 KCH HX5 HX45 HV
    go_wp2_with fail
    refine (KN.out _ _).mono ?_
    rintro e w7 ⟨rfl, hw7⟩
    rw [hw7]
    clear hw7 w7
    have KEF := Lib.hid (eqFacts_yes us U V uc vc w6 (by have := HLL.out; omega) (HO.out.at_.ext HX46.out) HV6.out)
    rw [← HUM.out] at KEF
    go_wp2_with fail
    refine (KN.out _ _).mono ?_
    rintro e w7 ⟨rfl, hw7⟩
    rw [hw7]
    clear hw7 w7
    go_wp2_with fail
    refine KEF.out.mono ?_
    rintro e w7 ⟨rfl, hx7⟩
    replace q0 := hx7.cell q0
    replace q1 := hx7.cell q1
    replace q2 := hx7.cell q2
    have hx47 := HX46.out.trans hx7
    have hx7 := HX6.out.trans hx7
    have KSP := Lib.hid (spoilFs_any us U uc (fun x => w3.heap.size ≤ x ∧ x < w4.heap.size) UB ud UG w7 (by have := HLL.out; omega) (fun b hb => Nat.lt_of_lt_of_le hb.2 hx47.size) (HO.out.ext hx47))
    rw [← HUM.out] at KSP
    have HX37 := Lib.hid HX34.out
    have HX7b := Lib.hid hx47
    have HX23 := Lib.hid HX3.out
    clear hx7 hx47 KEF HX46 HV6
    go_wp2_with fail
    refine KSP.out.mono ?_
    rintro e w8 ⟨rfl, hc8⟩
    have hx38 : Ext w3 w8 := Chg.ext_of (HX37.out.trans HX7b.out) hc8 (fun b hb => hb.1)
    replace q0 := hx38.cell HQ3.out.1
    replace q1 := hx38.cell HQ3.out.2.1
    replace q2 := hx38.cell HQ3.out.2.2
    have hx8 := HX23.out.trans hx38
    have HT8 := Lib.hid (HT.out.ext hx8)
    have HK8 := Lib.hid (HK0.out.ext (HX2.out.trans hx8))
    have HF8 := Lib.hid (HF0.out.ext (HX2.out.trans hx8))
    have HN8 := Lib.hid (HN0.out.ext (HX2.out.trans hx8))
    have HX8 := Lib.hid (HX0.out.trans (HX2.out.trans hx8))
    clear hx8 hx38 hc8 HQ3 HX37 HX7b HX23 KSP HX6 HX4 HX34 HX2 HX0 HT HK0 HF0 HN0 HO HK4 HSP
    go_wp2_with fail
    go_loopw [9] (fun i wr => ∃ k : Nat, k ≤ fs.length ∧ k ≤ 8 ∧ i = .int .i64 k ∧ Ext w8 wr) (fun i _ => fs.length - (intOf i).toNat)
    case atStart => exact ⟨0, Nat.zero_le _, by omega, rfl, Ext.refl _⟩
    case round =>
      obtain ⟨k, hk, hk8, rfl, hx⟩ := hrel
      have p0 := hx.cell q0
      have p1 := hx.cell q1
      have p2 := hx.cell q2
      obtain ⟨CB, hCB⟩ : ∃ CB, CB = decide (k < fs.length ∧ k < 8) := ⟨_, rfl⟩
      have HCB := Lib.hid hCB
      clear hCB
      go_upto_region 14 with (fail)
      go_cut [76] from 68 to 75 (fun a wx => a = .bool CB ∧ wx = wr)
      case first =>
        by_cases hA : (k : Int) < (fs.length : Int)
        · by_cases hB : (k : Int) < 8
          · have HV : Hid (CB = true) := Lib.hid (by rw [HCB.out]; exact decide_eq_true ⟨by omega, by omega⟩)
            go_wp2_with fail
            go_meet
            exact ⟨by rw [HV.out], rfl⟩
          · have HV : Hid (CB = false) := Lib.hid (by rw [HCB.out]; exact decide_eq_false (by omega))
            go_wp2_with fail
            go_meet
            exact ⟨by rw [HV.out], rfl⟩
        · have HV : Hid (CB = false) := Lib.hid (by rw [HCB.out]; exact decide_eq_false (by omega))
          go_wp2_with fail
          go_meet
          exact ⟨by rw [HV.out], rfl⟩
      obtain ⟨rfl, hwc⟩ := hcut
      rw [hwc]
      clear hwc wc
      by_cases hlt : k < fs.length ∧ k < 8
      · obtain rfl : CB = true := by rw [HCB.out]; exact decide_eq_true hlt
        clear HCB
        obtain ⟨hlt, h8⟩ := hlt
        have i0 : (0 : Int) ≤ (k : Int) := by omega
        have i1 : (k : Int) < (fs.length : Int) := by omega
        have i2 : (k : Int) < 8 := by omega
        obtain ⟨b, o, X, xc, rfl, a0, a1, a2, a3, a4, a5, hX⟩ := (HF8.out.ext hx) k hlt
        have HHI := Lib.hid (HHF.out fs[k] (List.getElem_mem hlt))
        have HK9 := Lib.hid (And.intro hlt h8)
        have HTX := Lib.hid (HT8.out.ext hx)
        have HKX := Lib.hid (HK8.out.ext hx)
        have HNX := Lib.hid (HN8.out.ext hx)
        have HXX := Lib.hid hX
        have HX := Lib.hid hx
        generalize fs[k] = x at *
        clear hX hx hlt h8 hk hk8 q0 q1 q2
        go_upto_region 17 with (fail)
        obtain ⟨gb, hgb⟩ : ∃ gb, gb = wr.heap.size := ⟨_, rfl⟩
        obtain ⟨wb, hwb⟩ : ∃ wb, wb = wr.alloc (.cells #[.int .i64 x.tm.kind, .string x.tm.name, .int .i64 x.tm.n, .slice X x.tm.args.length xc, .int .i64 x.fr, .int .i64 x.til] 44) := ⟨_, rfl⟩
        have hxb : Ext wr wb := by rw [hwb]; exact (Ext.refl wr).alloc _
        have b0 : wb.cell? ⟨gb, 0, none⟩ = some (.int .i64 x.tm.kind) := by rw [hwb, hgb]; go_simp
        have b1 : wb.cell? ⟨gb, 1, none⟩ = some (.string x.tm.name) := by rw [hwb, hgb]; go_simp
        have b2 : wb.cell? ⟨gb, 2, none⟩ = some (.int .i64 x.tm.n) := by rw [hwb, hgb]; go_simp
        have b3 : wb.cell? ⟨gb, 3, none⟩ = some (.slice X x.tm.args.length xc) := by rw [hwb, hgb]; go_simp
        have b4 : wb.cell? ⟨gb, 4, none⟩ = some (.int .i64 x.fr) := by rw [hwb, hgb]; go_simp
        have b5 : wb.cell? ⟨gb, 5, none⟩ = some (.int .i64 x.til) := by rw [hwb, hgb]; go_simp
        rw [← hwb, ← hgb]
        replace p0 := hxb.cell p0
        replace p1 := hxb.cell p1
        replace p2 := hxb.cell p2
        have HTB := Lib.hid (HTX.out.ext hxb)
        have HKBX := Lib.hid (HKX.out.ext hxb)
        have HNB := Lib.hid (HNX.out.ext hxb)
        have HXB := Lib.hid (HXX.out.ext hxb)
        have HWB := Lib.hid (HX.out.trans hxb)
        obtain ⟨FB, hFB⟩ : ∃ FB, FB = fmB x := ⟨_, rfl⟩
        have HFB := Lib.hid hFB
        have KF := Lib.hid (rFact_any x X xc wb HXB.out (by have := HHI.out; omega))
        rw [← hFB] at KF
        obtain ⟨FE, hFE⟩ : ∃ FE, FE = fndE ks x := ⟨_, rfl⟩
        have HFE := Lib.hid hFE
        obtain ⟨FV, hFV⟩ : ∃ FV, FV = fndV ks x := ⟨_, rfl⟩
        have HFV := Lib.hid hFV
        have KFI := Lib.hid (fun u (k' : Ext wb u) => Find_any ks x T X tc xc u HTC.out (by have := HLL.out; omega) (HTB.out.ext k') (HXB.out.ext k'))
        rw [← hFE, ← hFV] at KFI
        clear hwb hgb hxb hFB hFE hFV HTX HKX HNX HXX HX a0 a1 a2 a3 a4 a5
        go_wp2_with fail
        refine KF.out.mono ?_
        rintro e w9 ⟨rfl, hx9⟩
        replace p0 := hx9.cell p0
        replace p1 := hx9.cell p1
        replace p2 := hx9.cell p2
        replace b0 := hx9.cell b0
        replace b1 := hx9.cell b1
        replace b2 := hx9.cell b2
        replace b3 := hx9.cell b3
        replace b4 := hx9.cell b4
        replace b5 := hx9.cell b5
        have HX9 := Lib.hid hx9
        have KFI9 := Lib.hid (KFI.out w9 hx9)
        clear hx9 KF KFI
        go_wp2_with fail
        refine KFI9.out.mono ?_
        rintro e w10 ⟨rfl, hx10⟩
        replace p0 := hx10.cell p0
        replace p1 := hx10.cell p1
        replace p2 := hx10.cell p2
        replace b0 := hx10.cell b0
        replace b1 := hx10.cell b1
        replace b2 := hx10.cell b2
        replace b3 := hx10.cell b3
        replace b4 := hx10.cell b4
        replace b5 := hx10.cell b5
        have HX10 := Lib.hid (HX9.out.trans hx10)
        clear hx10 KFI9 HX9
        obtain ⟨GB, hGB⟩ : ∃ GB, GB = (KB && FB) := ⟨_, rfl⟩
        have HGB := Lib.hid hGB
        clear hGB
        go_upto_region 20 with (fail)
        go_cut [95] from 92 to 94 (fun a wx => a = .bool GB ∧ wx = w10)
        case first =>
          go_wp2_with fail
          · rename KB = true => hkb
            subst hkb
            go_meet
            exact ⟨by rw [HGB.out]; rfl, rfl⟩
          · rename KB = false => hkb
            subst hkb
            go_meet
            exact ⟨by rw [HGB.out]; rfl, rfl⟩
        case rest =>
          obtain ⟨rfl, hwc⟩ := hcut
          rw [hwc]
          clear hwc wc
          go_upto_if 95 with (fail)
          go_cut [14, 15] from 96 to 107 (fun a b wx => a = .int .i64 FE ∧ b = .int .i64 FV ∧ Ext w10 wx)
          case first =>
            go_wp2_with fail
            · rename GB = true => hgb
              have hbb : kpsB ks = true ∧ fmB x = true := by
                have h9 := HGB.out.symm.trans hgb
                rw [HKB.out, HFB.out] at h9
                simpa using h9
              have KPF := Lib.hid (rFind_any ks x A X c xc w10 (by have := HLL.out; omega) (HKBX.out.ext HX10.out) (HXB.out.ext HX10.out))
              clear hgb
              refine KPF.out.mono ?_
              rintro e w11 ⟨r, rfl, hr, hx11⟩
              rcases hr with ⟨j, hj, rfl, hje⟩ | ⟨rfl, hno⟩
              · obtain ⟨he0, hv0⟩ := fnd_yes hbb.1 hbb.2 hj hje
                obtain ⟨bA, oA, Y, yc, rfl, s0, _⟩ := ((HKBX.out.ext HX10.out).ext hx11) j hj
                have j0 : (0 : Int) ≤ (j : Int) := by omega
                have j1 : (j : Int) < (ks.length : Int) := by omega
                replace p0 := hx11.cell p0
                have HR := Lib.hid (And.intro he0 hv0)
                have HX11 := Lib.hid hx11
                generalize ks[j] = y at *
                clear hx11 he0 hv0 hje KPF hbb
                go_upto_region 24 with (fail)
                have e0 : ∀ p : ExtOf w11, p.to.cell? _ = _ := ext_cell p0
                have e1 : ∀ p : ExtOf w11, p.to.cell? _ = _ := ext_cell s0
                refine wp_region_ext (by kernel_rfl) (by kernel_rfl) ?_
                repeat (go_big_quiet_step (fail))
                refine wpQuiet_nil ?_
                refine ext_all ?_
                intro w12 hx12
                have HX12 := Lib.hid (HX11.out.trans hx12)
                clear e0 e1 hx12 p0 s0
                go_wp2_with fail
                go_meet
                exact ⟨by rw [HFE.out, HR.out.1], by rw [HFV.out, HR.out.2], HX12.out⟩
              · obtain ⟨he0, hv0⟩ := fnd_none hbb.1 hbb.2 hno
                have HR := Lib.hid (And.intro he0 hv0)
                have HX11 := Lib.hid hx11
                clear hno KPF hbb hx11 he0 hv0
                go_wp2_with fail
                go_meet
                exact ⟨by rw [HFE.out, HR.out.1], by rw [HFV.out, HR.out.2], HX11.out⟩
            · rename GB = false => hgb
              have h9 := HGB.out.symm.trans hgb
              rw [HKB.out, HFB.out] at h9
              obtain ⟨he0, hv0⟩ := fnd_bad h9
              go_meet
              exact ⟨by rw [HFE.out, he0], by rw [HFV.out, hv0], Ext.refl _⟩
          case rest =>
            obtain ⟨rfl, rfl, hxc⟩ := hcut
            obtain ⟨w13, hw13⟩ : ∃ w13 : World, w13 = wc := ⟨_, rfl⟩
            rw [← hw13] at hxc
            rw [← hw13]
            clear hw13
            replace p0 := hxc.cell p0
            replace p1 := hxc.cell p1
            replace p2 := hxc.cell p2
            replace b0 := hxc.cell b0
            replace b1 := hxc.cell b1
            replace b2 := hxc.cell b2
            replace b3 := hxc.cell b3
            replace b4 := hxc.cell b4
            replace b5 := hxc.cell b5
            have HX13 := Lib.hid (HX10.out.trans hxc)
            have KMY := Lib.hid (May_any x X xc w13 (HXB.out.ext HX13.out))
            rw [← HFB.out] at KMY
            have hbm := badE_ok FB
            obtain ⟨EM, hEM⟩ : ∃ EM, EM = badE FB := ⟨_, rfl⟩
            rw [← hEM] at KMY hbm
            have hff : (FB != FB) = false := by simp
            have hfe : (FE != FE) = false := by simp
            have hfv : (FV != FV) = false := by simp
            clear hxc hEM HX10
            go_wp2_with fail
            refine KMY.out.mono ?_
            rintro e w14 ⟨rfl, hx14⟩
            replace p0 := hx14.cell p0
            replace p1 := hx14.cell p1
            replace p2 := hx14.cell p2
            replace b0 := hx14.cell b0
            replace b1 := hx14.cell b1
            replace b2 := hx14.cell b2
            replace b3 := hx14.cell b3
            replace b4 := hx14.cell b4
            replace b5 := hx14.cell b5
            have HX14 := Lib.hid (HX13.out.trans hx14)
            clear hx14 KMY HX13
            go_wp2_with fail
            refine (KN.out _ _).mono ?_
            rintro e w15 ⟨rfl, hw15⟩
            rw [hw15]
            clear hw15 w15
            go_wp2_with fail
            refine (KN.out _ _).mono ?_
            rintro e w15 ⟨rfl, hw15⟩
            rw [hw15]
            clear hw15 w15
            obtain ⟨LI, hLI⟩ : ∃ LI, LI = lastI ks ks.length := ⟨_, rfl⟩
            have HLI := Lib.hid hLI
            clear hLI hbm hff hfe hfv
            go_upto_if 128 with (fail)
            go_cut [17] from 125 to 137 (fun a wx => a = .int .i64 LI ∧ wx = w14)
            case first =>
              by_cases hlen : 0 < ks.length
              · obtain ⟨bA, oA, Y, yc, rfl, s0, _⟩ := (HKBX.out.ext HX14.out) (ks.length - 1) (by omega)
                have hla := last_at hlen
                have hlw : RowKit.wrap64 ((ks.length : Int) - 1) = ((ks.length - 1 : Nat) : Int) := by have := HLL.out; unfold RowKit.wrap64; omega
                obtain ⟨ln, hln⟩ : ∃ ln, ln = ks.length - 1 := ⟨_, rfl⟩
                have hpos : (0 : Int) < (ks.length : Int) := by omega
                have l0 : (0 : Int) ≤ (ln : Int) := by omega
                have l1 : (ln : Int) < (ks.length : Int) := by omega
                have HLA := Lib.hid hla
                generalize ks[ks.length - 1]'_ = y at *
                rw [← hln] at s0 hlw
                clear hla hlen hln
                go_wp2_with fail
                go_meet
                exact ⟨by rw [HLI.out, HLA.out], rfl⟩
              · have hpos : ¬ (0 : Int) < (ks.length : Int) := by omega
                have he : ks.length = 0 := by omega
                have HE9 : Hid (LI = -1) := Lib.hid (by rw [HLI.out, he]; rfl)
                clear hlen he
                go_wp2_with fail
                go_meet
                exact ⟨by rw [HE9.out], rfl⟩
            case rest =>
              obtain ⟨rfl, hwc⟩ := hcut
              rw [hwc]
              clear hwc wc
              obtain ⟨j0, hj0, hy0, hy1, hy2⟩ := info_parts infoInt9
              have HWL : Hid ((Lit.int .i64 LI).wf = true) := Lib.hid (by rw [HLI.out]; exact last_wf (HKBX.out.ext HX14.out))
              have hxd0 := Ext.refl w14
              have hg14 := World.block_lt_of_cell? w14 _ p2
              go_wp2_with (at_builtin; refine wpList_app _ rfl _ _ 24 rfl w14.heap.size 3 j0 _ 1 8 Tryz.underlying24 hj0 hy0 hy1 hy2 rfl (by decide) _ 4 (intCells [RowKit.wrap64 (LI + 1), LI, 1073741824, 1073741825]) rfl (own_four w14 _ _) C ns.length e' (intCells ns) rfl (src_ints ((HNB.out.ext HX14.out).ext (hxd0.alloc _)) HLL.out.2.2.2.1) ?c2 ?c3 ?c4 ?c5 ?_)
              case c2 => exact intCells_one ns
              case c3 => have := HLL.out; simp only [maxLen]; omega
              case c4 => have := HLL.out; omega
              intro v15 w15 hown15 hgrow _
              have hx15 : Ext w14 w15 := Below.grown (hxd0.alloc _) hgrow (by simp) (fun b hb => ((own_four w14 (RowKit.wrap64 (LI + 1)) LI).lt b hb).1)
              obtain ⟨D, dc, rfl, hdc, hD⟩ := owned_ints (ns := [RowKit.wrap64 (LI + 1), LI, 1073741824, 1073741825] ++ ns) (by simpa [intCells] using hown15) (by simp; omega)
              have HVW := Lib.hid (wf_all4 (wf_wrap (LI + 1)) HWL.out HNW.out)
              obtain ⟨vs, hvs⟩ : ∃ vs, vs = [RowKit.wrap64 (LI + 1), LI, 1073741824, 1073741825] ++ ns := ⟨_, rfl⟩
              obtain ⟨vn, hvn⟩ : ∃ vn, vn = 4 + ns.length := ⟨_, rfl⟩
              have HVN : Hid (vs.length = vn) := Lib.hid (by rw [hvs, hvn]; simp; omega)
              rw [← hvs] at hD HVW
              rw [← hvn]
              have HD := Lib.hid hD
              replace p0 := hx15.cell p0
              replace p1 := hx15.cell p1
              replace p2 := hx15.cell p2
              replace b0 := hx15.cell b0
              replace b1 := hx15.cell b1
              replace b2 := hx15.cell b2
              replace b3 := hx15.cell b3
              replace b4 := hx15.cell b4
              replace b5 := hx15.cell b5
              have HX15 := Lib.hid (HX14.out.trans hx15)
              clear hg14 hown15 hgrow hx15 hdc hD hvs hvn hxd0 hj0 hy0 hy1 hy2 j0 HWL HX14
              go_wp2_with fail
              go_loopw [19] (fun i wr => ∃ m : Nat, m ≤ vn ∧ m ≤ 12 ∧ i = .int .i64 m ∧ Ext w15 wr) (fun i _ => vn - (intOf i).toNat)
              case atStart => exact ⟨0, Nat.zero_le _, by omega, rfl, Ext.refl _⟩
              case round =>
                obtain ⟨m, hm, hm12, rfl, hxr⟩ := hrel
                have p0_ := hxr.cell p0
                have p1_ := hxr.cell p1
                have p2_ := hxr.cell p2
                have b0_ := hxr.cell b0
                have b1_ := hxr.cell b1
                have b2_ := hxr.cell b2
                have b3_ := hxr.cell b3
                have b4_ := hxr.cell b4
                have b5_ := hxr.cell b5
                clear p0 p1 p2 b0 b1 b2 b3 b4 b5
                obtain ⟨MB, hMB⟩ : ∃ MB, MB = decide (m < vn ∧ m < 12) := ⟨_, rfl⟩
                have HMB := Lib.hid hMB
                clear hMB
                go_upto_region 32 with (fail)
                go_cut [152] from 145 to 151 (fun a wx => a = .bool MB ∧ wx = wr)
                case first =>
                  by_cases hA : (m : Int) < (vn : Int)
                  · by_cases hB : (m : Int) < 12
                    · have HV : Hid (MB = true) := Lib.hid (by rw [HMB.out]; exact decide_eq_true ⟨by omega, by omega⟩)
                      go_wp2_with fail
                      go_meet
                      exact ⟨by rw [HV.out], rfl⟩
                    · have HV : Hid (MB = false) := Lib.hid (by rw [HMB.out]; exact decide_eq_false (by omega))
                      go_wp2_with fail
                      go_meet
                      exact ⟨by rw [HV.out], rfl⟩
                  · have HV : Hid (MB = false) := Lib.hid (by rw [HMB.out]; exact decide_eq_false (by omega))
                    go_wp2_with fail
                    go_meet
                    exact ⟨by rw [HV.out], rfl⟩
                obtain ⟨rfl, hwc⟩ := hcut
                rw [hwc]
                clear hwc wc
                by_cases hml : m < vn ∧ m < 12
                · obtain rfl : MB = true := by rw [HMB.out]; exact decide_eq_true hml
                  clear HMB
                  obtain ⟨hml, hm9⟩ := hml
                  have hml' : m < vs.length := by have := HVN.out; omega
                  obtain ⟨bD, oD, rfl, v0⟩ := (HD.out.ext hxr) m hml'
                  have HNV := Lib.hid (HVW.out _ (List.getElem_mem hml'))
                  have HM9 := Lib.hid (And.intro hml hm9)
                  have m0 : (0 : Int) ≤ (m : Int) := by omega
                  have m1 : (m : Int) < (vn : Int) := by omega
                  have m2 : (m : Int) < 12 := by omega
                  generalize vs[m]'_ = n at *
                  have HX16 := Lib.hid (HX15.out.trans hxr)
                  have HXR := Lib.hid hxr
                  obtain ⟨AN, hAN⟩ : ∃ AN, AN = addE ks n x := ⟨_, rfl⟩
                  have HAN := Lib.hid hAN
                  obtain ⟨am, ham⟩ : ∃ am, am = (addL ks n x).length := ⟨_, rfl⟩
                  have HAM := Lib.hid ham
                  have KA := Lib.hid (fun u (k' : Ext wr u) => Add_any ks n x T X tc xc u HTC.out (by have := HLL.out; omega) (HTB.out.ext (HX16.out.trans k')) (HXB.out.ext (HX16.out.trans k')) HNV.out)
                  clear hm hm12 hml hm9 hml' hxr hAN ham
                  go_upto_region 34 with (fail)
                  have hxd : Ext wr wr.drew := (Ext.refl _).drew
                  go_cut [20, 21] from 155 to 164 (fun a b wx => ∃ wd Y yc YB yd YG, a = .slice Y am yc ∧ b = .int .i64 AN ∧ Ext wr wd ∧ KOwn wx (addL ks n x) Y (fun z => wd.heap.size ≤ z ∧ z < wx.heap.size) YB yd YG ∧ Ext wd wx)
                  case first =>
                    go_region_law
                      (go_simp; go_at_call 17; refine (KA.out _ (by assumption)).mono ?_; intro e w17 ha; obtain ⟨Y, yc, YB, yd, YG, rfl, hYO, hx17⟩ := add_to ha; rw [← HAN.out, ← HAM.out])
                    all_goals
                      have HZ := Lib.hid (And.intro hxd (And.intro hYO hx17))
                      clear hYO hx17 ha hxd p0_ p1_ p2_ b0_ b1_ b2_ b3_ b4_ b5_ v0
                      go_wp2_with fail
                      go_meet
                      exact ⟨_, Y, yc, YB, yd, YG, rfl, rfl, HZ.out.1, HZ.out.2.1, HZ.out.2.2⟩
                  obtain ⟨wd, Y, yc, YB, yd, YG, rfl, rfl, hxe, hYO, hx17⟩ := hcut
                  obtain ⟨w17, hw17⟩ : ∃ w17 : World, w17 = wc := ⟨_, rfl⟩
                  rw [← hw17] at hYO hx17
                  rw [← hw17]
                  clear hw17 hxd
                  have HXD := Lib.hid hxe
                  have p0 := hxe.cell p0_
                  have p1 := hxe.cell p1_
                  have p2 := hxe.cell p2_
                  have b0 := hxe.cell b0_
                  have b1 := hxe.cell b1_
                  have b2 := hxe.cell b2_
                  have b3 := hxe.cell b3_
                  have b4 := hxe.cell b4_
                  have b5 := hxe.cell b5_
                  replace v0 := hxe.cell v0
                  have HPD := Lib.hid p0
                  clear hxe p0_ p1_ p2_ b0_ b1_ b2_ b3_ b4_ b5_
                  replace p0 := hx17.cell p0
                  replace p1 := hx17.cell p1
                  replace p2 := hx17.cell p2
                  replace b0 := hx17.cell b0
                  replace b1 := hx17.cell b1
                  replace b2 := hx17.cell b2
                  replace b3 := hx17.cell b3
                  replace b4 := hx17.cell b4
                  replace b5 := hx17.cell b5
                  replace v0 := hx17.cell v0
                  have HYO := Lib.hid hYO
                  have HXD17 := Lib.hid hx17
                  have HX17 := Lib.hid (HX16.out.trans (HXD.out.trans hx17))
                  obtain ⟨NB, hNB⟩ : ∃ NB, NB = (KB && (FB && (numB n 1073741824 && decide (LI < n)))) := ⟨_, rfl⟩
                  have HNB9 := Lib.hid hNB
                  clear hNB hYO hx17 KA
                  have KNU := Lib.hid (fun u => rNum_any n 1073741824 u)
                  go_upto_region 37 with (fail)
                  go_cut [183] from 165 to 182 (fun a wx => a = .bool NB ∧ wx = w17)
                  case first =>
                    go_wp2_with fail
                    · rename KB = true => hkb
                      rename FB = true => hfb
                      subst hkb hfb
                      obtain ⟨NM, hNM⟩ : ∃ NM, NM = numB n 1073741824 := ⟨_, rfl⟩
                      have KNU9 := Lib.hid (KNU.out w17)
                      rw [← hNM] at KNU9
                      have HNM := Lib.hid hNM
                      clear hNM KNU
                      refine KNU9.out.mono ?_
                      rintro e w18 ⟨rfl, hw18⟩
                      rw [hw18]
                      clear hw18 w18
                      go_wp2_with fail
                      · rename NM = true => hnm
                        subst hnm
                        go_meet
                        exact ⟨by rw [HNB9.out, ← HNM.out]; rfl, rfl⟩
                      · rename NM = false => hnm
                        subst hnm
                        go_meet
                        exact ⟨by rw [HNB9.out, ← HNM.out]; rfl, rfl⟩
                    · rename KB = true => hkb
                      rename FB = false => hfb
                      subst hkb hfb
                      go_meet
                      exact ⟨by rw [HNB9.out]; rfl, rfl⟩
                    · rename KB = false => hkb
                      subst hkb
                      go_meet
                      exact ⟨by rw [HNB9.out]; rfl, rfl⟩
                  case rest =>
                    obtain ⟨rfl, hwc⟩ := hcut
                    rw [hwc]
                    clear hwc wc KNU
                    have HADB : Hid (addB ks n x = NB) := Lib.hid (by rw [HNB9.out, HKB.out, HFB.out, HLI.out]; rfl)
                    go_upto_if 183 with (fail)
                    go_cut [14, 22] from 184 to 203 (fun a b wx => ∃ Z zc, a = .int .i64 AN ∧ b = .slice Z am zc ∧ KpsAt wx (addL ks n x) Z ∧ Ext w17 wx)
                    case first =>
                      go_wp2_with fail
                      · rename NB = true => hnb
                        have hadb := HADB.out.trans hnb
                        have HAB := Lib.hid hadb
                        have KPF := Lib.hid (rFind_any ks x A X c xc w17 (by have := HLL.out; omega) (HKBX.out.ext HX17.out) (HXB.out.ext HX17.out))
                        clear hnb hadb
                        refine KPF.out.mono ?_
                        rintro e w18 ⟨r, rfl, hr, hx18⟩
                        rcases hr with ⟨j, hj, rfl, hje⟩ | ⟨rfl, hno⟩
                        · have ha4 := add_there HAB.out hj hje
                          have hal : addL ks n x = [] := by unfold addL; rw [if_neg (by rw [ha4]; decide)]
                          have HR := Lib.hid (And.intro ha4 hal)
                          have HX18 := Lib.hid hx18
                          have hjn : ¬ (j : Int) < 0 := by omega
                          clear ha4 hal hx18 hje hj KPF
                          go_wp2_with fail
                          go_meet
                          exact ⟨none, 0, by rw [HAN.out, HR.out.1], by rw [HAM.out, HR.out.2]; rfl, by rw [HR.out.2]; exact KpsAt.nil _ _, HX18.out⟩
                        · by_cases hl3 : ks.length < 300
                          · have ha0 := add_good HAB.out hno hl3
                            have hal : addL ks n x = ks ++ [⟨n, x⟩] := by unfold addL; rw [if_pos ha0]
                            have HR := Lib.hid (And.intro ha0 hal)
                            have HX18 := Lib.hid hx18
                            have HXW := Lib.hid (HX17.out.trans hx18)
                            replace p0 := hx18.cell p0
                            replace v0 := hx18.cell v0
                            replace b0 := hx18.cell b0
                            replace b1 := hx18.cell b1
                            replace b2 := hx18.cell b2
                            replace b3 := hx18.cell b3
                            replace b4 := hx18.cell b4
                            replace b5 := hx18.cell b5
                            have hli : (ks.length : Int) < 300 := by omega
                            clear ha0 hal hx18 hno KPF
                            go_upto_region 43 with (fail)
                            refine region43 (by have := HLL.out; omega) (HKBX.out.ext HXW.out) (HXB.out.ext HXW.out) HNV.out m0 m1 p0 v0 b0 b1 b2 b3 b4 b5 ?_
                            clear p0 v0 b0 b1 b2 b3 b4 b5 p1 p2
                            intro y193 y194 y195 y196 y197 y198 y199 y200 y201 y202 y203 Z zc wx hZ hS8
                            have HZZ := Lib.hid (And.intro hZ (HX18.out.trans hS8))
                            clear hZ hS8
                            go_wp2_with fail
                            go_meet
                            exact ⟨Z, zc, by rw [HAN.out, HR.out.1], by rw [HAM.out, HR.out.2, List.length_append]; rfl, by rw [HR.out.2]; exact HZZ.out.1, HZZ.out.2⟩
                          · have ha2 := add_full HAB.out hno hl3
                            have hal : addL ks n x = [] := by unfold addL; rw [if_neg (by rw [ha2]; decide)]
                            have HR := Lib.hid (And.intro ha2 hal)
                            have HX18 := Lib.hid hx18
                            replace p0 := hx18.cell p0
                            have hli : ¬ (ks.length : Int) < 300 := by omega
                            clear ha2 hal hx18 hno KPF
                            go_wp2_with fail
                            go_meet
                            exact ⟨none, 0, by rw [HAN.out, HR.out.1], by rw [HAM.out, HR.out.2]; rfl, by rw [HR.out.2]; exact KpsAt.nil _ _, HX18.out⟩
                      · rename NB = false => hnb
                        have ha1 := add_bad (HADB.out.trans hnb)
                        have hal : addL ks n x = [] := by unfold addL; rw [if_neg (by rw [ha1]; decide)]
                        go_meet
                        exact ⟨none, 0, by rw [HAN.out, ha1], by rw [HAM.out, hal]; rfl, by rw [hal]; exact KpsAt.nil _ _, Ext.refl _⟩
                    obtain ⟨Z, zc, rfl, rfl, hZ, hxc⟩ := hcut
                    obtain ⟨w19, hw19⟩ : ∃ w19 : World, w19 = wc := ⟨_, rfl⟩
                    rw [← hw19] at hZ hxc
                    rw [← hw19]
                    clear hw19
                    replace p0 := hxc.cell p0
                    clear p1 p2 b0 b1 b2 b3 b4 b5 v0
                    have HX19 := Lib.hid (HX17.out.trans hxc)
                    have HD19 := Lib.hid (HXD17.out.trans hxc)
                    have hnn : (AN != AN) = false := by simp
                    have KE1 := Lib.hid (eqKepts_yes (addL ks n x) Y Z yc zc w19 (by have := addL_len ks n x; have := HLL.out; omega) (HYO.out.at_.ext hxc) hZ)
                    rw [← HAM.out] at KE1
                    have HYO19 := Lib.hid (HYO.out.ext hxc)
                    have HXC := Lib.hid hxc
                    clear hZ hxc
                    go_wp2_with fail
                    refine (KN.out _ _).mono ?_
                    rintro e w20 ⟨rfl, hw20⟩
                    rw [hw20]
                    clear hw20 w20
                    go_wp2_with fail
                    refine KE1.out.mono ?_
                    rintro e w20 ⟨rfl, hx20⟩
                    replace p0 := hx20.cell p0
                    have HX20 := Lib.hid (HX19.out.trans hx20)
                    have HD20 := Lib.hid (HD19.out.trans hx20)
                    have HYO20 := Lib.hid (HYO19.out.ext hx20)
                    have HC20 := Lib.hid (HXC.out.trans hx20)
                    have KE2 := Lib.hid (eqKepts_yes ks T A tc c w20 (by have := HLL.out; omega) (HTB.out.ext HX20.out) (HKBX.out.ext HX20.out))
                    clear hx20 KE1 hnn HX19 HD19 HYO19
                    go_wp2_with fail
                    refine KE2.out.mono ?_
                    rintro e w21 ⟨rfl, hx21⟩
                    have HD21 := Lib.hid (HD20.out.trans hx21)
                    have hc21 := HC20.out.trans hx21
                    have KSP := Lib.hid (spoilKs_any (addL ks n x) Y yc (fun z => wd.heap.size ≤ z ∧ z < w17.heap.size) YB yd YG w21 (by have := addL_len ks n x; have := HLL.out; omega) (fun b hb => Nat.lt_of_lt_of_le hb.2 hc21.size) (HYO20.out.ext hx21))
                    rw [← HAM.out] at KSP
                    clear hx21 hc21 p0 KE2 HD20 HC20 HYO20 HX20
                    go_wp2_with fail
                    refine KSP.out.mono ?_
                    rintro e w22 ⟨rfl, hc22⟩
                    have hx22 : Ext wd w22 := Chg.ext_of HD21.out hc22 (fun b hb => hb.1)
                    have p0 := hx22.cell HPD.out
                    have KE3 := Lib.hid (eqKepts_yes ks T A tc c w22 (by have := HLL.out; omega) (HTB.out.ext (HX16.out.trans (HXD.out.trans hx22))) (HKBX.out.ext (HX16.out.trans (HXD.out.trans hx22))))
                    have HX22 := Lib.hid (HXR.out.trans (HXD.out.trans hx22))
                    clear hx22 hc22 KSP HD21
                    go_wp2_with fail
                    refine KE3.out.mono ?_
                    rintro e w23 ⟨rfl, hx23⟩
                    have HX23F := Lib.hid (HX22.out.trans hx23)
                    clear hx23 p0 KE3 HX22
                    go_wp2_with fail
                    go_roundw
                    case rel => exact ⟨m + 1, by have := HM9.out; omega, by have := HM9.out; omega, by go_num, HX23F.out⟩
                    case measure => have := HM9.out; simp [intOf]; omega
                · obtain rfl : MB = false := by rw [HMB.out]; exact decide_eq_false hml
                  clear HMB
                  have HX24 := Lib.hid (HX15.out.trans hxr)
                  obtain ⟨np, hnp⟩ : ∃ np : Kp → Bool, np = namedB x.tm.name (x.tm.args.length : Int) := ⟨_, rfl⟩
                  have KNM := Lib.hid (Named_any ks x.tm.name (x.tm.args.length : Int) T tc wr HTC.out (by have := HLL.out; omega) (HTB.out.ext HX24.out))
                  rw [← hnp] at KNM
                  have HNP := Lib.hid hnp
                  obtain ⟨cm, hcm⟩ : ∃ cm, cm = (chL ks np).length := ⟨_, rfl⟩
                  have HCM := Lib.hid hcm
                  clear hm hm12 hml hnp hcm hxr
                  go_wp2_with fail
                  refine KNM.out.mono ?_
                  intro e w25 ha
                  obtain ⟨Y, yc, rfl, hY, hx25⟩ := ch_to ha
                  rw [← HCM.out, ← HKB.out, ← HEB.out]
                  replace p0_ := hx25.cell p0_
                  replace b1_ := hx25.cell b1_
                  replace b3_ := hx25.cell b3_
                  have HX25 := Lib.hid (HX24.out.trans hx25)
                  have HY := Lib.hid hY
                  clear ha hY hx25 KNM HX24 p1_ p2_ b0_ b2_ b4_ b5_
                  go_upto_if 240 with (fail)
                  go_cut [14, 25] from 241 to 250 (fun a b wx => ∃ Z zc, a = .int .i64 E ∧ b = .slice Z cm zc ∧ KpsAt wx (chL ks np) Z ∧ Ext w25 wx)
                  case first =>
                    go_wp2_with fail
                    · rename KB = true => hkb
                      have KP := Lib.hid (rNamed_any ks x.tm.name (x.tm.args.length : Int) A c w25 (by have := HLL.out; omega) (HKBX.out.ext HX25.out))
                      have hcl : chL ks np = ks.filter np := by unfold chL; rw [if_pos (HKB.out.symm.trans hkb)]
                      have HR : Hid (E = 0 ∧ chL ks np = ks.filter np) := Lib.hid ⟨by rw [HEB.out, hkb]; rfl, hcl⟩
                      rw [← HNP.out] at KP
                      clear hkb hcl
                      refine KP.out.mono ?_
                      intro e w26 ha6
                      obtain ⟨Z, zc, rfl, hZ, hx26⟩ := copied_at ha6
                      have HZ := Lib.hid (And.intro hZ hx26)
                      clear hZ hx26 ha6 KP
                      go_wp2_with fail
                      go_meet
                      exact ⟨Z, zc, by rw [HR.out.1], by rw [HCM.out, HR.out.2], by rw [HR.out.2]; exact HZ.out.1, HZ.out.2⟩
                    · rename KB = false => hkb
                      have hcl : chL ks np = [] := by unfold chL; rw [← HKB.out, hkb]; rfl
                      have he1 : E = 1 := by rw [HEB.out, hkb]; rfl
                      go_meet
                      exact ⟨none, 0, by rw [he1], by rw [HCM.out, hcl]; rfl, by rw [hcl]; exact KpsAt.nil _ _, Ext.refl _⟩
                  obtain ⟨Z, zc, rfl, rfl, hZ, hxc⟩ := hcut
                  obtain ⟨w27, hw27⟩ : ∃ w27 : World, w27 = wc := ⟨_, rfl⟩
                  rw [← hw27] at hZ hxc
                  rw [← hw27]
                  clear hw27
                  have KE := Lib.hid (eqKepts_yes (chL ks np) Y Z yc zc w27 (by have := chL_len ks np; have := HLL.out; omega) (HY.out.ext hxc) hZ)
                  rw [← HCM.out] at KE
                  have HX27 := Lib.hid (HX25.out.trans hxc)
                  clear hZ hxc p0_ b1_ b3_ HX25
                  go_wp2_with fail
                  refine (KN.out _ _).mono ?_
                  rintro e w28 ⟨rfl, hw28⟩
                  rw [hw28]
                  clear hw28 w28
                  go_wp2_with fail
                  refine KE.out.mono ?_
                  rintro e w28 ⟨rfl, hx28⟩
                  have HX28 := Lib.hid (HWB.out.trans (HX27.out.trans hx28))
                  clear hx28 KE HX27
                  go_wp2_with fail
                  go_roundw
                  case rel => exact ⟨k + 1, by have := HK9.out; omega, by have := HK9.out; omega, by go_num, HX28.out⟩
                  case measure => have := HK9.out; simp [intOf]; omega
      · obtain rfl : CB = false := by rw [HCB.out]; exact decide_eq_false hlt
        clear HCB
        have HT9 := Lib.hid (HT8.out.ext hx)
        have HK9 := Lib.hid (HK8.out.ext hx)
        have HN9 := Lib.hid (HN8.out.ext hx)
        have HX9 := Lib.hid (HX8.out.trans hx)
        obtain ⟨w9, hw9⟩ : ∃ w9 : World, w9 = wr := ⟨_, rfl⟩
        rw [← hw9] at HT9 HK9 HN9 HX9 p0 p1 p2
        rw [← hw9]
        clear hk hk8 hlt hx q0 q1 q2 hw9 p1
        go_wp2_with fail
        go_loopw [26] (fun i wr => ∃ k : Nat, k ≤ ns.length ∧ k ≤ 8 ∧ i = .int .i64 k ∧ Ext w9 wr) (fun i _ => ns.length - (intOf i).toNat)
        case atStart => exact ⟨0, Nat.zero_le _, by omega, rfl, Ext.refl _⟩
        case round =>
          obtain ⟨k, hk, hk8, rfl, hx⟩ := hrel
          have r0 := hx.cell p0
          have r2 := hx.cell p2
          clear p0 p2
          obtain ⟨DB, hDB⟩ : ∃ DB, DB = decide (k < ns.length ∧ k < 8) := ⟨_, rfl⟩
          have HDB := Lib.hid hDB
          clear hDB
          go_upto_region 57 with (fail)
          go_cut [269] from 261 to 268 (fun a wx => a = .bool DB ∧ wx = wr)
          case first =>
            by_cases hA : (k : Int) < (ns.length : Int)
            · by_cases hB : (k : Int) < 8
              · have HV : Hid (DB = true) := Lib.hid (by rw [HDB.out]; exact decide_eq_true ⟨by omega, by omega⟩)
                go_wp2_with fail
                go_meet
                exact ⟨by rw [HV.out], rfl⟩
              · have HV : Hid (DB = false) := Lib.hid (by rw [HDB.out]; exact decide_eq_false (by omega))
                go_wp2_with fail
                go_meet
                exact ⟨by rw [HV.out], rfl⟩
            · have HV : Hid (DB = false) := Lib.hid (by rw [HDB.out]; exact decide_eq_false (by omega))
              go_wp2_with fail
              go_meet
              exact ⟨by rw [HV.out], rfl⟩
          obtain ⟨rfl, hwc⟩ := hcut
          rw [hwc]
          clear hwc wc
          by_cases hlt : k < ns.length ∧ k < 8
          · obtain rfl : DB = true := by rw [HDB.out]; exact decide_eq_true hlt
            clear HDB
            obtain ⟨hlt, h8⟩ := hlt
            have i0 : (0 : Int) ≤ (k : Int) := by omega
            have i1 : (k : Int) < (ns.length : Int) := by omega
            have hkb : k < 1000000 := by omega
            obtain ⟨bC, oC, rfl, v0⟩ := (HN9.out.ext hx) k hlt
            have HKL := Lib.hid (And.intro hlt h8)
            generalize ns[k] = t at *
            obtain ⟨np, hnp⟩ : ∃ np : Kp → Bool, np = sinceB t := ⟨_, rfl⟩
            have KNM := Lib.hid (Since_any ks t T tc wr HTC.out (by have := HLL.out; omega) (HT9.out.ext hx))
            rw [← hnp] at KNM
            have HNP := Lib.hid hnp
            obtain ⟨cm, hcm⟩ : ∃ cm, cm = (chL ks np).length := ⟨_, rfl⟩
            have HCM := Lib.hid hcm
            have HX10 := Lib.hid hx
            clear hk hk8 hlt h8 hnp hcm hx
            go_wp2_with fail
            refine KNM.out.mono ?_
            intro e w25 ha
            obtain ⟨Y, yc, rfl, hY, hx25⟩ := ch_to ha
            rw [← HCM.out, ← HKB.out, ← HEB.out]
            replace r0 := hx25.cell r0
            replace r2 := hx25.cell r2
            replace v0 := hx25.cell v0
            have HX25 := Lib.hid (HX10.out.trans hx25)
            have HY := Lib.hid hY
            clear ha hY hx25 KNM HX10
            go_upto_if 282 with (fail)
            go_cut [29, 30] from 283 to 290 (fun a b wx => ∃ Z zc, a = .int .i64 E ∧ b = .slice Z cm zc ∧ KpsAt wx (chL ks np) Z ∧ Ext w25 wx)
            case first =>
              go_upto_region 63 with (fail)
              · rename KB = true => hkb
                have KP := Lib.hid (fun u (k' : Ext w25 u) => rSince_any ks t A c u (by have := HLL.out; omega) (HK9.out.ext (HX25.out.trans k')))
                have hcl : chL ks np = ks.filter np := by unfold chL; rw [if_pos (HKB.out.symm.trans hkb)]
                have HR : Hid (E = 0 ∧ chL ks np = ks.filter np) := Lib.hid ⟨by rw [HEB.out, hkb]; rfl, hcl⟩
                rw [← HNP.out] at KP
                clear hkb hcl
                have hxd : Ext w25 w25.drew := (Ext.refl _).drew
                go_region_law
                  (go_simp; go_at_call 24; refine (KP.out _ (by assumption)).mono ?_; intro e w26 ha6; obtain ⟨Z, zc, rfl, hZ, hx26⟩ := copied_at ha6)
                all_goals
                  have HZ := Lib.hid (And.intro hZ (hxd.trans hx26))
                  clear hZ hx26 ha6 hxd r0 r2 v0
                  go_wp2_with fail
                  go_meet
                  exact ⟨Z, zc, by rw [HR.out.1], by rw [HCM.out, HR.out.2], by rw [HR.out.2]; exact HZ.out.1, HZ.out.2⟩
              · rename KB = false => hkb
                have hcl : chL ks np = [] := by unfold chL; rw [← HKB.out, hkb]; rfl
                have he1 : E = 1 := by rw [HEB.out, hkb]; rfl
                go_meet
                exact ⟨none, 0, by rw [he1], by rw [HCM.out, hcl]; rfl, by rw [hcl]; exact KpsAt.nil _ _, Ext.refl _⟩
            obtain ⟨Z, zc, rfl, rfl, hZ, hxc⟩ := hcut
            obtain ⟨w27, hw27⟩ : ∃ w27 : World, w27 = wc := ⟨_, rfl⟩
            rw [← hw27] at hZ hxc
            rw [← hw27]
            clear hw27
            have KE := Lib.hid (eqKepts_yes (chL ks np) Y Z yc zc w27 (by have := chL_len ks np; have := HLL.out; omega) (HY.out.ext hxc) hZ)
            rw [← HCM.out] at KE
            have HX27 := Lib.hid (HX25.out.trans hxc)
            clear hZ hxc r0 r2 v0 HX25
            go_wp2_with fail
            refine (KN.out _ _).mono ?_
            rintro e w28 ⟨rfl, hw28⟩
            rw [hw28]
            clear hw28 w28
            go_wp2_with fail
            refine KE.out.mono ?_
            rintro e w28 ⟨rfl, hx28⟩
            have HX28 := Lib.hid (HX27.out.trans hx28)
            clear hx28 KE HX27
            go_wp2_with fail
            go_roundw
            case rel => exact ⟨k + 1, by have := HKL.out; omega, by have := HKL.out; omega, by go_num, HX28.out⟩
            case measure => have := HKL.out; simp [intOf]; omega
          · obtain rfl : DB = false := by rw [HDB.out]; exact decide_eq_false hlt
            clear HDB
            have KE2 := Lib.hid (eqKepts_yes ks T A tc c wr (by have := HLL.out; omega) (HT9.out.ext hx) (HK9.out.ext hx))
            have HX10 := Lib.hid (HX9.out.trans hx)
            clear hk hk8 hlt hx
            go_wp2_with fail
            refine KE2.out.mono ?_
            rintro e w10 ⟨rfl, hx10⟩
            go_wp2_with fail
            refine (KW.out _).mono ?_
            rintro e w11 ⟨rfl, hx11⟩
            go_wp2_with fail
            go_ret
            exact ⟨rfl, HX10.out.trans (hx10.trans hx11)⟩
end Go.Proofs.YtkdhpifjljkpfaaGreat
