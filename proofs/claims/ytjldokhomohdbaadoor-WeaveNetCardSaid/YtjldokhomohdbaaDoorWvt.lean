/- WeaveThen: its walk. -/
import Derived.Test.YtjldokhomohdbaaDoorWvn
namespace Go.Proofs.YtjldokhomohdbaaDoor
open Go.RowKit Go.Maps

theorem lawNum_any (n : Int) (w : World) : Calls Tryd.prog 32 #[.int .i64 n, .int .i64 8191] w fun e w' => e = .returned (.bool (stB n)) ∧ w' = w := by
  have HS : Hid (stB n = (decide (0 ≤ n) && decide (n ≤ 8191))) := Lib.hid rfl
  by_cases h1 : 0 ≤ n
  · go_enter Tryd.func32, Tryd.ntmps32
    go_wp2_with fail
    go_ret
    exact ⟨ret_bool (by rw [HS.out]; simp [h1]), rfl⟩
  · have h1' : decide (0 ≤ n) = false := decide_eq_false h1
    go_enter Tryd.func32, Tryd.ntmps32
    go_wp2_with fail
    go_ret
    exact ⟨ret_bool (by rw [HS.out, h1', Bool.false_and]), rfl⟩
theorem lset_any (n : Int) (w : World) : Calls Tryd.prog 13 #[.int .i64 n] w fun e w' => e = .returned (.bool (stB n)) ∧ w' = w := by
  have KN := Lib.hid (lawNum_any n w)
  go_enter Tryd.func13, Tryd.ntmps13
  go_wp2_with fail
  refine KN.out.mono ?_
  rintro e w1 ⟨rfl, rfl⟩
  go_wp2_with fail
  go_ret
  exact ⟨rfl, rfl⟩
theorem and15 (N : Int) : ∃ m : Nat, m < 16 ∧ bits .and .i64 N 15 = (m : Int) := by
  refine ⟨(BitVec.ofInt 64 N &&& BitVec.ofInt 64 15).toNat, ?_, ?_⟩
  · rw [BitVec.toNat_and]
    exact Nat.lt_of_le_of_lt Nat.and_le_right (by decide)
  · show IntKind.i64.wrap ((BitVec.ofInt 64 N &&& BitVec.ofInt 64 15).toNat : Int) = _
    have h : (BitVec.ofInt 64 N &&& BitVec.ofInt 64 15).toNat < 16 := by
      rw [BitVec.toNat_and]
      exact Nat.lt_of_le_of_lt Nat.and_le_right (by decide)
    rw [IntKind.wrap_i64] <;> omega
set_option maxRecDepth 100000 in
theorem thn_one : ∀ r, r < 13 → ∀ s, s < 13 → thn (2 ^ r) (2 ^ s) = thruN r s := by decide +kernel
theorem rem13b {k j m : Nat} : ∃ q : Nat, q < 13 ∧ ((k : Int) + 3 * (j : Int) + (m : Int)).tmod 13 = (q : Int) :=
  ⟨(k + 3 * j + m) % 13, Nat.mod_lt _ (by omega), by
    have e : ((k : Int) + 3 * (j : Int) + (m : Int)) = ((k + 3 * j + m : Nat) : Int) := by omega
    rw [e]; rfl⟩

set_option maxRecDepth 100000 in
set_option maxHeartbeats 8000000 in
theorem then_walk (ns : List Int) (A : Option Addr) (c : Nat) (ls : List (List Int)) (B : Option Addr) (d : Nat) (N : Int) (w : World) (h : In8 ns A c ls B d w) (hE : EndAt w) :
    Calls Tryd.prog 4 #[.agg (askCells ns.length A c ls.length B d N)] w fun e w' => e = .returned (.bool true) ∧ Ext w w' := by
  have KH := Lib.hid (fun u (k : Ext w u) => heavy_any ns.length A c ls B d N u h.nlen h.llen (h.rows.ext k))
  have KT := Lib.hid (fun u => Table_any u)
  have hEE := Lib.hid hE
  clear hE
  obtain ⟨W0, hW0⟩ : ∃ W0, W0 = w.alloc (.cells (askCells ns.length A c ls.length B d N) 25) := ⟨_, rfl⟩
  have hx0 : Ext w W0 := by rw [hW0]; exact (Ext.refl w).alloc _
  have q0 : W0.cell? ⟨w.heap.size, 0, none⟩ = some (.slice A ns.length c) := by rw [hW0]; go_simp
  have q1 : W0.cell? ⟨w.heap.size, 1, none⟩ = some (.slice B ls.length d) := by rw [hW0]; go_simp
  have q2 : W0.cell? ⟨w.heap.size, 2, none⟩ = some (.int .i64 N) := by rw [hW0]; go_simp
  have HW := Lib.hid hW0
  have HI := Lib.hid h
  clear hW0 h
  cases hh : heavyB ns.length ls with
  | true =>
    rw [hh] at KH
    go_enter Tryd.func4, Tryd.ntmps4
    go_upto_region 1 with (fail)
    rw [← HW.out]
    clear HW
    go_wp2_with fail
    refine (KH.out _ hx0).mono ?_
    rintro e w1 ⟨rfl, hx1⟩
    go_wp2_with fail
    go_ret
    exact ⟨rfl, hx0.trans hx1⟩
  | false =>
    rw [hh] at KH
    go_enter Tryd.func4, Tryd.ntmps4
    go_upto_region 1 with (fail)
    rw [← HW.out]
    obtain ⟨g, hg⟩ : ∃ g, g = w.heap.size := ⟨_, rfl⟩
    rw [← hg] at q0 q1 q2
    rw [← hg]
    clear HW hg
    go_wp2_with fail
    refine (KH.out _ hx0).mono ?_
    rintro e w1 ⟨rfl, hx1⟩
    replace q2 := hx1.cell q2
    have hx01 := hx0.trans hx1
    replace q0 := hx1.cell q0
    clear hx0 hx1 q1 KH
    go_wp2_with fail
    refine (KT.out _).mono ?_
    rintro e w2 ⟨rfl, hx2⟩
    replace q2 := hx2.cell q2
    replace q0 := hx2.cell q0
    have hx02 := hx01.trans hx2
    clear hx01 hx2 KT
    have hZ : BlkT (w2.alloc (.cells Tryd.zeroCells39 39)) w2.heap.size (tabL 0) := by rw [zeros_tab]; exact BlkT.made w2 _
    have hth : (w2.alloc (.cells Tryd.zeroCells39 39)).there w2.heap.size 0 tabCs.toArray.size := by have := hZ.there; rw [tabL_len] at this; simpa [tabCs_len] using this
    have hrs := World.rangeAt_setCells_same (w2.alloc (.cells Tryd.zeroCells39 39)) w2.heap.size 0 tabCs (by simpa using hth)
    have hx23 := ext_setCells (w := w2) (b := w2.heap.size) tabCs 0 (w2.alloc (.cells Tryd.zeroCells39 39)) (Nat.le_refl _) ((Ext.refl w2).alloc _)
    have hi' : (Tryd.prog.info? 39).map (·.size) = some tabCs.toArray.size := by simpa [tabCs_len] using infoTab
    have h1 : tabCs.toArray.all (·.oneCell') = true := all_oneCell_toArray (fun v hv => by obtain ⟨i, _, rfl⟩ := List.mem_map.1 hv; rfl)
    go_wp2_with (refine wpList_store_mid (op := ⟨none, _, _, _, _, _⟩) rfl 39 (.tmp 3) (.tmp 17) rfl w2.heap.size 0 tabCs.toArray rfl rfl hth hi' h1 ?_)
    clear hZ hth hi' h1
    obtain ⟨gt, hgt⟩ : ∃ gt, gt = w2.heap.size := ⟨_, rfl⟩
    rw [← hgt] at hrs hx23
    rw [← hgt]
    generalize (w2.alloc (.cells Tryd.zeroCells39 39)).setCells gt 0 tabCs = w3 at hrs hx23 ⊢
    replace q2 := hx23.cell q2
    replace q0 := hx23.cell q0
    have HX := Lib.hid (hx02.trans hx23)
    have HR := Lib.hid hrs
    clear hgt hx02 hx23 hrs
    go_loopw [4] (fun i wr => ∃ k : Nat, k ≤ 13 ∧ i = .int .i64 k ∧ Ext w3 wr) (fun i _ => 13 - (intOf i).toNat)
    case atStart => exact ⟨0, by omega, rfl, Ext.refl _⟩
    case round =>
      obtain ⟨k, hk, rfl, hx⟩ := hrel
      by_cases hlt : k < 13
      · have hk13 : (k : Int) < 13 := by omega
        obtain ⟨wo, hwo⟩ : ∃ wo, wo = wr := ⟨_, rfl⟩
        rw [← hwo] at hx
        rw [← hwo]
        clear hwo q0
        go_wp2_with fail
        go_loopw [5] (fun i wr => ∃ j : Nat, j ≤ 4 ∧ i = .int .i64 j ∧ Ext w3 wr) (fun i _ => 4 - (intOf i).toNat)
        case atStart => exact ⟨0, by omega, rfl, hx⟩
        case round =>
          obtain ⟨j, hj, rfl, hxj⟩ := hrel
          by_cases hlj : j < 4
          · have hj2 : (j : Int) < 4 := by omega
            have hj0 : (0 : Int) ≤ (j : Int) := by omega
            have hk0 : (0 : Int) ≤ (k : Int) := by omega
            replace q2 := hxj.cell q2
            have hEj := (hEE.out.ext HX.out).ext hxj
            have HRj := Lib.hid (rangeAt_ext HR.out hxj)
            obtain ⟨m, hm, hme⟩ := and15 N
            have hm16 : (m : Int) < 16 := by omega
            have hm0 : (0 : Int) ≤ (m : Int) := by omega
            obtain ⟨q, hq, hqe⟩ := rem13b (k := k) (j := j) (m := m)
            have hq0 : (0 : Int) ≤ (q : Int) := by omega
            have hq13 : (q : Int) < 13 := by omega
            have h2k := two64 hlt
            have h2q := two64 hq
            have KA := Lib.hid (fun u hu => Then_nat (2 ^ k) (2 ^ q) (two_lt hlt) (two_lt hq) u hu)
            rw [thn_one k hlt q hq] at KA
            have HC := Lib.hid (tabCs_at hlt hq)
            have KN : Hid (∀ u, Calls Tryd.prog 10 #[.int .i64 0] u fun e w' => e = .returned (.int .i64 0) ∧ Ext u w') := Lib.hid fun u => (num_any 0 u).mono fun _ _ ⟨e, k⟩ => ⟨e, k ▸ Ext.refl _⟩
            have HXJ := Lib.hid hxj
            generalize thruN k q = V at KA HC
            generalize ((2 ^ k : Nat) : Int) = P at *
            generalize ((2 ^ q : Nat) : Int) = Q at *
            have HEE := Lib.hid hEj
            clear hx hxj hEj
            go_upto_region 11 with (fail)
            refine wp_region_ext (by kernel_rfl) (by kernel_rfl) ?_
            repeat (go_big_quiet_step ((go_at_call 18; exact of_ext (KA.out _ (HEE.out.ext (ExtOf.is _))))))
            refine wpQuiet_nil ?_
            refine ext_all ?_
            intro w6 hx6
            have hc : w6.cell? ⟨gt, (k + 1) * 14 + (q + 1), none⟩ = some (.int .i64 (V : Int)) := by
              have := rangeAt_ext HRj.out hx6 _ _ HC.out
              rwa [Nat.zero_add] at this
            have HX6 := Lib.hid (HXJ.out.trans hx6)
            clear hx6 KA HEE HRj HC
            go_wp2_with fail
            refine (KN.out _).mono ?_
            rintro e w7 ⟨rfl, hx7⟩
            replace hc := hx7.cell hc
            have HX7 := Lib.hid (HX6.out.trans hx7)
            clear hx7 KN
            go_wp2_with fail
            go_roundw
            case rel => exact ⟨j + 1, by omega, by go_num, HX7.out⟩
            case measure => simp [intOf]; omega
          · have hge : ¬ ((j : Int) < 4) := by omega
            go_wp2_with fail
            go_roundw
            case rel => exact ⟨k + 1, by omega, by go_num, hxj⟩
            case measure => simp [intOf]; omega
      · have hge : ¬ ((k : Int) < 13) := by omega
        have hIA := HI.out.ints.ext (HX.out.trans hx)
        replace q0 := hx.cell q0
        have HXK := Lib.hid hx
        have HEK := Lib.hid ((hEE.out.ext HX.out).ext hx)
        have HRK := Lib.hid (rangeAt_ext HR.out hx)
        obtain ⟨wk, hwk⟩ : ∃ wk, wk = wr := ⟨_, rfl⟩
        rw [← hwk] at hIA q0 HXK HEK HRK
        rw [← hwk]
        have hnl := HI.out.nlen
        clear hwk hx q2
        go_wp2_with fail
        go_loopw [9] (fun i wr => ∃ a : Nat, a ≤ ns.length ∧ i = .int .i64 a ∧ Ext wk wr) (fun i _ => ns.length - (intOf i).toNat)
        case atStart => exact ⟨0, Nat.zero_le _, rfl, Ext.refl _⟩
        case round =>
          obtain ⟨a, ha, rfl, hxa⟩ := hrel
          have p0 := hxa.cell q0
          by_cases hla : a < ns.length
          · have hai : (a : Int) < (ns.length : Int) := by omega
            have ha0 : (0 : Int) ≤ (a : Int) := by omega
            by_cases ha8 : (a : Int) < 8
            · obtain ⟨wo, hwo⟩ : ∃ wo, wo = wr := ⟨_, rfl⟩
              rw [← hwo] at hxa p0
              rw [← hwo]
              clear hwo
              go_wp2_with fail
              go_loopw [10] (fun i wr => ∃ b : Nat, b ≤ ns.length ∧ i = .int .i64 b ∧ Ext wk wr) (fun i _ => ns.length - (intOf i).toNat)
              case atStart => exact ⟨0, Nat.zero_le _, rfl, hxa⟩
              case round =>
                obtain ⟨b, hb, rfl, hxb⟩ := hrel
                have p1 := hxb.cell q0
                by_cases hlb : b < ns.length
                · have hbi : (b : Int) < (ns.length : Int) := by omega
                  have hb0 : (0 : Int) ≤ (b : Int) := by omega
                  by_cases hb8 : (b : Int) < 8
                  · obtain ⟨bl, o, rfl, c0⟩ := (hIA.ext hxb) a hla
                    obtain ⟨bl', o', e', c1⟩ := (hIA.ext hxb) b hlb
                    injection e' with e'; injection e' with e1 e2; subst e1; subst e2
                    have KA := Lib.hid (fun u hu => Then_any ns[a] ns[b] u hu)
                    have KS := Lib.hid (fun u => lset_any ns[a] u)
                    have KT := Lib.hid (fun u => lset_any ns[b] u)
                    have HEB := Lib.hid (HEK.out.ext hxb)
                    have HRB := Lib.hid (rangeAt_ext HRK.out hxb)
                    have KN := Lib.hid (fun n u => num_any n u)
                    have HV : Hid (thenV ns[a] ns[b] = if stB ns[a] && stB ns[b] then (thn ns[a].toNat ns[b].toNat : Int) else 0) := Lib.hid rfl
                    have HE2 : Hid (thenE ns[a] ns[b] = if stB ns[a] && stB ns[b] then 0 else 1) := Lib.hid rfl
                    generalize ns[a] = x at *
                    generalize ns[b] = y at *
                    have HXB := Lib.hid hxb
                    clear hxa p0
                    go_upto_region 20 with (fail)
                    have d0 : ∀ p : ExtOf wr, _ := ext_cell c0
                    have d1 : ∀ p : ExtOf wr, _ := ext_cell c1
                    have d2 : ∀ p : ExtOf wr, _ := ext_cell p1
                    have HCC := Lib.hid (And.intro c0 (And.intro c1 p1))
                    clear c0 c1 p1 hxb
                    refine wp_region_ext (by kernel_rfl) (by kernel_rfl) ?_
                    repeat (go_big_quiet_step ((go_at_call 18; exact of_ext (KA.out _ (HEB.out.ext (ExtOf.is _))))))
                    refine wpQuiet_nil ?_
                    refine ext_all ?_
                    intro w6 hx6
                    clear d0 d1 d2
                    have d0 := hx6.cell HCC.out.1
                    have d1 := hx6.cell HCC.out.2.1
                    have d2 := hx6.cell HCC.out.2.2
                    have HR6 := Lib.hid (rangeAt_ext HRB.out hx6)
                    have HX6 := Lib.hid (HXB.out.trans hx6)
                    clear KA HEB HRB hx6
                    cases h1 : stB x with
                    | false =>
                      rw [h1] at KS HV HE2
                      rw [Bool.false_and] at HV HE2
                      have HV0 : Hid (thenV x y = 0) := HV
                      have HE0 : Hid (thenE x y = 1) := HE2
                      rw [HV0.out, HE0.out]
                      clear HV HE2 h1
                      go_wp2_with fail
                      refine (KS.out _).mono ?_
                      rintro e w7 ⟨rfl, rfl⟩
                      go_wp2_with fail
                      refine (KN.out _ _).mono ?_
                      rintro e w7 ⟨rfl, rfl⟩
                      go_wp2_with fail
                      go_roundw
                      case rel => exact ⟨b + 1, by omega, by go_num, HX6.out⟩
                      case measure => simp [intOf]; omega
                    | true =>
                      rw [h1] at KS HV HE2
                      rw [Bool.true_and] at HV HE2
                      cases h2 : stB y with
                      | false =>
                        rw [h2] at KT HV HE2
                        have HV0 : Hid (thenV x y = 0) := HV
                        have HE0 : Hid (thenE x y = 1) := HE2
                        rw [HV0.out, HE0.out]
                        clear HV HE2 h1 h2
                        go_wp2_with fail
                        refine (KS.out _).mono ?_
                        rintro e w7 ⟨rfl, rfl⟩
                        go_wp2_with fail
                        refine (KT.out _).mono ?_
                        rintro e w7 ⟨rfl, rfl⟩
                        go_wp2_with fail
                        refine (KN.out _ _).mono ?_
                        rintro e w7 ⟨rfl, rfl⟩
                        go_wp2_with fail
                        go_roundw
                        case rel => exact ⟨b + 1, by omega, by go_num, HX6.out⟩
                        case measure => simp [intOf]; omega
                      | true =>
                        rw [h2] at KT HV HE2
                        obtain ⟨X, rfl, hX⟩ := st_nat h1
                        obtain ⟨Y, rfl, hY⟩ := st_nat h2
                        have HE0 : Hid (thenE (X : Int) (Y : Int) = 0) := HE2
                        have HV0 : Hid (thenV (X : Int) (Y : Int) = (thn X Y : Int)) := Lib.hid (by have := HV.out; simpa using this)
                        rw [HV0.out, HE0.out]
                        have KR := Lib.hid (fun u => rThen_any X Y hX hY u)
                        generalize thn X Y = R at *
                        clear HV HE2 HV0 HE0 h1 h2
                        generalize (X : Int) = Xi at *
                        generalize (Y : Int) = Yi at *
                        go_wp2_with fail
                        refine (KS.out _).mono ?_
                        rintro e w7 ⟨rfl, rfl⟩
                        go_wp2_with fail
                        refine (KT.out _).mono ?_
                        rintro e w7 ⟨rfl, rfl⟩
                        go_upto_region 23 with (fail)
                        have hRR : ∀ u, (∃ p : ExtOf w7, u = p.to) → u.rangeAt gt 0 tabCs := by rintro u ⟨p, rfl⟩; exact rangeAt_ext HR6.out p.is
                        have hiT : (Tryd.prog.info? 39).map (·.size) = some tabCs.length := by rw [tabCs_len]; exact infoTab
                        replace d0 : ∀ p : ExtOf w7, _ := ext_cell d0
                        replace d1 : ∀ p : ExtOf w7, _ := ext_cell d1
                        replace d2 : ∀ p : ExtOf w7, _ := ext_cell d2
                        refine wp_region_ext (by kernel_rfl) (by kernel_rfl) ?_
                        repeat (first
                          | (go_big_quiet_want; refine quiet_load_mid 39 (.tmp 3) rfl gt 0 rfl tabCs _ hRR Tryd.underlying39 rfl hiT ?_; simp only [Act.put, List.setIfInBounds_toArray, List.set_cons_succ, List.set_cons_zero]; go_big_quiet_on)
                          | go_big_quiet_step ((go_at_call 19; exact of_ext (KR.out _))))
                        refine wpQuiet_nil ?_
                        refine ext_all ?_
                        intro w8 hx8
                        have HX8 := Lib.hid (HX6.out.trans hx8)
                        clear hRR hx8 d0 d1 d2
                        go_wp2_with fail
                        refine (KN.out _ _).mono ?_
                        rintro e w9 ⟨rfl, rfl⟩
                        go_wp2_with fail
                        go_roundw
                        case rel => exact ⟨b + 1, by omega, by go_num, HX8.out⟩
                        case measure => simp [intOf]; omega
                  · have hb8' : decide ((b : Int) < 8) = false := decide_eq_false hb8
                    go_wp2_with fail
                    go_roundw
                    case rel => exact ⟨a + 1, by omega, by go_num, hxb⟩
                    case measure => simp [intOf]; omega
                · have hbi : ¬ ((b : Int) < (ns.length : Int)) := by omega
                  have hbi' : decide ((b : Int) < (ns.length : Int)) = false := decide_eq_false hbi
                  go_wp2_with fail
                  go_roundw
                  case rel => exact ⟨a + 1, by omega, by go_num, hxb⟩
                  case measure => simp [intOf]; omega
            · have ha8' : decide ((a : Int) < 8) = false := decide_eq_false ha8
              have KW := Lib.hid (wakes_any wr (HEK.out.ext hxa))
              have HXA := Lib.hid hxa
              go_wp2_with fail
              refine KW.out.mono ?_
              rintro e w9 ⟨rfl, hx9⟩
              go_wp2_with fail
              go_ret
              exact ⟨rfl, ((HX.out.trans HXK.out).trans HXA.out).trans hx9⟩
          · have hai : ¬ ((a : Int) < (ns.length : Int)) := by omega
            have hai' : decide ((a : Int) < (ns.length : Int)) = false := decide_eq_false hai
            have KW := Lib.hid (wakes_any wr (HEK.out.ext hxa))
            have HXA := Lib.hid hxa
            go_wp2_with fail
            refine KW.out.mono ?_
            rintro e w9 ⟨rfl, hx9⟩
            go_wp2_with fail
            go_ret
            exact ⟨rfl, ((HX.out.trans HXK.out).trans HXA.out).trans hx9⟩
end Go.Proofs.YtjldokhomohdbaaDoor
