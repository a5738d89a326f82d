/- almagestlaw11.Heavy, almagestlaw12.Heavy. -/
import Derived.Test.YthmpolifgngdiaaGch
import Derived.Test.YthmpolifgngdiaaMF
namespace Go.Proofs.Ythmpolifgngdiaa
open Go.RowKit

/-- what is not too heavy -/
structure Lgt (cs : List Cl) (ks ts : List Tm) : Prop where
  cl : (cs.length : Int) ≤ 600
  cw : CwLe cs cs.length 600
  k : weightL ks 30 ks.length ≤ 600
  t : weightL ts 30 ts.length ≤ 1500
def H11Out (cs : List Cl) (ks ts : List Tm) (w : World) (e : Ending) (w' : World) : Prop := ∃ h : Bool, e = .returned (.bool h) ∧ Hid (h = false → Lgt cs ks ts) ∧ Ext w w'

set_option maxRecDepth 100000 in
set_option maxHeartbeats 2000000 in
theorem heavy11_any (cs : List Cl) (ks ts : List Tm) (C K T : Option Addr) (cc kc tc : Nat) (w : World) (hlc : cs.length * 104 ≤ 140737488351232) (hC : CusAt w cs C) (hlk : ks.length * 56 ≤ 140737488351232) (hK : TmsAt w ks K) (hlt : ts.length * 56 ≤ 140737488351232) (hT : TmsAt w ts T) :
    Calls Try.prog 14 #[.agg #[.slice C cs.length cc, .slice K ks.length kc, .slice T ts.length tc]] w (H11Out cs ks ts w) := by
  obtain ⟨wi, hwi⟩ : ∃ wi, wi = w.alloc (.cells #[.slice C cs.length cc, .slice K ks.length kc, .slice T ts.length tc] 25) := ⟨_, rfl⟩
  have hx0 : Ext w wi := by rw [hwi]; exact (Ext.refl w).alloc _
  have a0 : wi.cell? ⟨w.heap.size, 0, none⟩ = some (.slice C cs.length cc) := by rw [hwi]; go_simp
  have a1 : wi.cell? ⟨w.heap.size, 1, none⟩ = some (.slice K ks.length kc) := by rw [hwi]; go_simp
  have a2 : wi.cell? ⟨w.heap.size, 2, none⟩ = some (.slice T ts.length tc) := by rw [hwi]; go_simp
  have HWI := Lib.hid hwi
  have K1 := Lib.hid (fun (u : World) (hu : Ext w u) => cweight_any cs C cc u hlc (hC.ext hu))
  have K2 := Lib.hid (fun (u : World) (hu : Ext w u) => terms_any ks K kc u hlk (hK.ext hu))
  have K3 := Lib.hid (fun (u : World) (hu : Ext w u) => terms_any ts T tc u hlt (hT.ext hu))
  clear hwi hC hK hT hlc hlk hlt
  go_enter Try.func14, Try.ntmps14
  go_wp2_with fail
  rw [← HWI.out]
  refine (K1.out _ hx0).mono ?_
  rintro e1 w1 ⟨n, rfl, hn0, hn1, HC, hx1⟩
  have hx01 := hx0.trans hx1
  have b1 := hx1.cell a1
  by_cases hn : 600 < n
  · have hd : decide (600 < n) = true := decide_eq_true hn
    clear hn
    go_wp2_with fail
    go_ret
    exact ⟨true, rfl, Lib.hid (fun h => by cases h), hx01⟩
  · have hd : decide (600 < n) = false := decide_eq_false hn
    have HC1 := Lib.hid (show (cs.length : Int) ≤ 600 ∧ CwLe cs cs.length 600 from ⟨by omega, (HC.out (by omega)).mono (by omega) (by omega)⟩)
    clear hn HC hn0 hn1
    go_wp2_with fail
    refine (K2.out _ hx01).mono ?_
    rintro e2 w2 ⟨rfl, hx2⟩
    have hx02 := hx01.trans hx2
    have b2 := hx2.cell (hx1.cell a2)
    generalize hM : weightL ks 30 ks.length = m at *
    have HM := Lib.hid hM
    clear hM
    by_cases hm : 600 < m
    · have hd2 : decide (600 < m) = true := decide_eq_true hm
      clear hm
      go_wp2_with fail
      go_ret
      exact ⟨true, rfl, Lib.hid (fun h => by cases h), hx02⟩
    · have hd2 : decide (600 < m) = false := decide_eq_false hm
      have hm' : m ≤ 600 := by omega
      have HM' := Lib.hid hm'
      clear hm hm'
      go_wp2_with fail
      refine (K3.out _ hx02).mono ?_
      rintro e3 w3 ⟨rfl, hx3⟩
      have hx03 := hx02.trans hx3
      generalize hQ : weightL ts 30 ts.length = q at *
      have HQ := Lib.hid hQ
      clear hQ
      go_wp2_with fail
      go_ret
      exact ⟨_, rfl, Lib.hid (fun h => ⟨HC1.out.1, HC1.out.2, by rw [HM.out]; exact HM'.out, by have : ¬ 1500 < q := of_decide_eq_false h; rw [HQ.out]; omega⟩), hx03⟩

structure Lgt12 (cs : List Cl) (ks ts : List Tm) (Bs : List (List Bd)) (gs : List Gd) : Prop where
  k : Lgt cs ks ts
  bl : (Bs.length : Int) ≤ 1500
  b : ∀ j (h : j < Bs.length), (Bs[j].length : Int) ≤ 1500 ∧ BwLe Bs[j] Bs[j].length 1500
  gl : (gs.length : Int) ≤ 1500
  g : GwLe gs gs.length 1500
def H12Out (cs : List Cl) (ks ts : List Tm) (Bs : List (List Bd)) (gs : List Gd) (w : World) (e : Ending) (w' : World) : Prop := ∃ h : Bool, e = .returned (.bool h) ∧ Hid (h = false → Lgt12 cs ks ts Bs gs) ∧ Ext w w'

set_option maxRecDepth 100000 in
set_option maxHeartbeats 4000000 in
theorem heavy12_any (cs : List Cl) (ks ts : List Tm) (Bs : List (List Bd)) (gs : List Gd) (C K T B G : Option Addr) (cc kc tc bc gc : Nat) (w : World) (hlc : cs.length * 104 ≤ 140737488351232) (hC : CusAt w cs C) (hlk : ks.length * 56 ≤ 140737488351232) (hK : TmsAt w ks K) (hlt : ts.length * 56 ≤ 140737488351232) (hT : TmsAt w ts T)
    (hlb : Bs.length * 24 ≤ 140737488351232) (hB : BssAt w Bs B) (hlg : gs.length * 120 ≤ 140737488351232) (hG : GusAt w gs G) :
    Calls Try.prog 4 #[.agg #[.slice C cs.length cc, .slice K ks.length kc, .slice T ts.length tc, .slice B Bs.length bc, .slice G gs.length gc]] w (H12Out cs ks ts Bs gs w) := by
  obtain ⟨wi, hwi⟩ : ∃ wi, wi = w.alloc (.cells #[.slice C cs.length cc, .slice K ks.length kc, .slice T ts.length tc, .slice B Bs.length bc, .slice G gs.length gc] 29) := ⟨_, rfl⟩
  have hx0 : Ext w wi := by rw [hwi]; exact (Ext.refl w).alloc _
  have a0 : wi.cell? ⟨w.heap.size, 0, none⟩ = some (.slice C cs.length cc) := by rw [hwi]; go_simp
  have a1 : wi.cell? ⟨w.heap.size, 1, none⟩ = some (.slice K ks.length kc) := by rw [hwi]; go_simp
  have a2 : wi.cell? ⟨w.heap.size, 2, none⟩ = some (.slice T ts.length tc) := by rw [hwi]; go_simp
  have a3 : wi.cell? ⟨w.heap.size, 3, none⟩ = some (.slice B Bs.length bc) := by rw [hwi]; go_simp
  have a4 : wi.cell? ⟨w.heap.size, 4, none⟩ = some (.slice G gs.length gc) := by rw [hwi]; go_simp
  have HWI := Lib.hid hwi
  have K1 := Lib.hid (fun (u : World) (hu : Ext w u) => gweight_any gs G gc u hlg (hG.ext hu))
  have K2 := Lib.hid (fun (u : World) (hu : Ext w u) => heavy11_any cs ks ts C K T cc kc tc u hlc (hC.ext hu) hlk (hK.ext hu) hlt (hT.ext hu))
  clear hwi hC hK hT hlc hlk hlt hG
  have rulesI := fun (u : World) (k : Ext wi u) => And.intro (k.cell a0) (And.intro (k.cell a1) (And.intro (k.cell a2) (And.intro (k.cell a3) (k.cell a4))))
  have hI0 := Ext.refl wi
  go_enter Try.func4, Try.ntmps4
  go_upto_region 1 with (fail)
  rw [← HWI.out]
  go_cut [3] (fun v3 wx => ∃ n : Int, v3 = .int .i64 (n + (Bs.length : Int)) ∧ (gs.length : Int) ≤ n ∧ n ≤ 18014398509481984 ∧ Hid (n ≤ 3000 → GwLe gs gs.length n) ∧ Ext wi wx)
  case first =>
    go_region_held3 (fun u => Ext wi u) (first | with_reducible assumption | with_reducible exact hI0.drew)
      (first | (go_at_call 12; (with_reducible refine (K1.out _ (hx0.trans (by first | with_reducible assumption | with_reducible exact hI0.drew))).mono ?_); rintro e5 w5 ⟨n, rfl, h30, h31, HB3, hx5⟩; have hS5 : Ext wi w5 := Ext.trans (by first | with_reducible assumption | with_reducible exact hI0.drew) hx5; have s3 : IntKind.i64.wrap (n + (Bs.length : Int)) = n + (Bs.length : Int) := by rw [IntKind.wrap_i64]; omega))
    all_goals
      go_wp2_with fail
      go_meet
      exact ⟨n, rfl, h30, h31, HB3, hS5⟩
  case rest =>
    obtain ⟨n0, rfl, hg0, hg1, HG, hxa⟩ := hcut
    obtain ⟨wx, rfl⟩ : ∃ wx : World, wx = wc := ⟨_, rfl⟩
    have c0 := hxa.cell a0
    have c1 := hxa.cell a1
    have c2 := hxa.cell a2
    have c3 := hxa.cell a3
    have hx0x := hx0.trans hxa
    clear rulesI hI0 a0 a1 a2 a3 a4 HWI K1
    go_wp2_with fail
    go_loopw [3, 4] (fun m i wr => ∃ (k : Nat) (n : Int), k ≤ Bs.length ∧ n0 + (Bs.length : Int) ≤ n ∧ n ≤ 36028797018963968 ∧ i = .int .i64 k ∧ m = .int .i64 n ∧ Hid (∀ j (hj : j < Bs.length), j < k → (Bs[j].length : Int) ≤ n ∧ (n ≤ 3000 → BwLe Bs[j] Bs[j].length n)) ∧ Ext wx wr) (fun _ i _ => Bs.length - (intOf i).toNat)
    case atStart => exact ⟨0, _, Nat.zero_le _, Int.le_refl _, by omega, rfl, rfl, Lib.hid fun j _ hj => absurd hj (Nat.not_lt_zero _), Ext.refl _⟩
    case round =>
      obtain ⟨k, n, hk, hn0, hn1, rfl, rfl, HJ, hx⟩ := hrel
      have d0 := hx.cell c0
      have d1 := hx.cell c1
      have d2 := hx.cell c2
      have d3 := hx.cell c3
      have hxr := hx0x.trans hx
      have HFin := Lib.hid (show (k = Bs.length ∨ 1048576 ≤ n) → ¬ 1500 < n → (∀ j (h : j < Bs.length), (Bs[j].length : Int) ≤ 1500 ∧ BwLe Bs[j] Bs[j].length 1500) from fun hk' hd j hj => by
        obtain ⟨h1, h2⟩ := HJ.out j hj (by rcases hk' with e | e <;> omega)
        refine ⟨by omega, fun q hq hql => ?_⟩
        have := h2 (by omega) q hq hql
        omega)


      by_cases hmore : k < Bs.length ∧ n < 1048576
      · obtain ⟨hlt, hn⟩ := hmore
        obtain ⟨b, o, B', cb, rfl, e0, hBd, _, hlen⟩ := (hB.ext hxr) k hlt
        clear HFin
        go_wp2_with fail
        refine (bweight_any Bs[k] B' cb _ hlen hBd).mono ?_
        rintro e3 w3 ⟨n3, rfl, h30, h31, HB3, hx3⟩
        have HJ2 : Hid (∀ j (hj : j < Bs.length), j < k + 1 → (Bs[j].length : Int) ≤ n + n3 ∧ (n + n3 ≤ 3000 → BwLe Bs[j] Bs[j].length (n + n3))) := Lib.hid fun j hj hjk => by
          by_cases e : j = k
          · subst e
            refine ⟨by omega, fun hle => ?_⟩
            have := HB3.out (by omega)
            intro q hq hql
            have := this q hq hql; omega
          · obtain ⟨h1, h2⟩ := HJ.out j hj (by omega)
            refine ⟨by omega, fun hle => ?_⟩
            have := h2 (by omega)
            intro q hq hql
            have := this q hq hql; omega
        clear d0 d1 d2 d3 e0 HB3 HJ
        go_wp2_with fail
        go_roundw
        case rel => exact ⟨k + 1, n + n3, by omega, by omega, by omega, by go_num, rfl, HJ2, hx.trans hx3⟩
        case measure => simp [intOf]; omega
      · have hend : k = Bs.length ∨ 1048576 ≤ n := by omega
        have HFE := Lib.hid (HFin.out hend)
        clear HFin HJ
        by_cases h15 : 1500 < n
        · have hd : decide (1500 < n) = true := decide_eq_true h15
          clear h15
          by_cases hkl : k < Bs.length
          · have hn' : decide (n < 1048576) = false := decide_eq_false (by omega)
            go_wp2_with fail
            go_ret
            exact ⟨true, rfl, Lib.hid (fun h => by cases h), hxr⟩
          · go_wp2_with fail
            go_ret
            exact ⟨true, rfl, Lib.hid (fun h => by cases h), hxr⟩
        · have hd : decide (1500 < n) = false := decide_eq_false h15
          have HL := Lib.hid (show (Bs.length : Int) ≤ 1500 ∧ (gs.length : Int) ≤ 1500 ∧ n0 ≤ 1500 from ⟨by omega, by omega, by omega⟩)
          have hkl : ¬ k < Bs.length := by omega
          have HFE2 := Lib.hid (HFE.out h15)
          clear h15 hend HFE
          go_wp2_with fail
          refine (K2.out _ hxr).mono ?_
          rintro e4 w4 ⟨h, rfl, HH, hx4⟩
          go_wp2_with fail
          go_ret
          exact ⟨h, rfl, Lib.hid (fun e => ⟨HH.out e, HL.out.1, HFE2.out, HL.out.2.1, fun q hq hql => by
            have := HG.out (by have := HL.out.2.2; omega) q hq hql
            have := HL.out.2.2
            omega⟩), hxr.trans hx4⟩
end Go.Proofs.Ythmpolifgngdiaa
