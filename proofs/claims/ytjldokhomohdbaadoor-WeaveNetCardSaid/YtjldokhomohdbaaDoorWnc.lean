/- weave.Net's parts: tighten. -/
import Derived.Test.YtjldokhomohdbaaDoorWnb
namespace Go.Proofs.YtjldokhomohdbaaDoor
open Go.RowKit Go.Maps

theorem sum_set : ∀ (l : List Nat) (m v : Nat), m < l.length → (l.set m v).sum + l.getD m 0 = l.sum + v
  | a :: l, 0, v, _ => by simp; omega
  | a :: l, m + 1, v, h => by
    have := sum_set l m v (by simpa using h)
    simp only [List.set_cons_succ, List.sum_cons, List.getD_cons_succ]
    omega
/-- how much lies in a block -/
def cellN : Option Value → Nat
  | some (.int _ n) => n.toNat
  | _ => 0
def sumW (u : World) (g M : Nat) : Nat := ((List.range M).map fun i => cellN (u.cell? ⟨g, i, none⟩)).sum
theorem sumW_eq {u : World} {g M : Nat} {R : List Nat} (h : BlkU u g 55 (u16s R)) (hl : R.length = M) : sumW u g M = R.sum := by
  have e : ((List.range M).map fun i => cellN (u.cell? ⟨g, i, none⟩)) = R := by
    refine List.ext_getElem (by simp [hl]) fun i h1 h2 => ?_
    simp only [List.getElem_map, List.getElem_range]
    rw [h.cell, u16s_at h2]
    simp [cellN, List.getD_eq_getElem?_getD, List.getElem?_eq_getElem h2]
  unfold sumW
  rw [e]

/-- what each net on the way keeps to -/
structure NInv (N : Nat) (L R : List Nat) : Prop where
  len : R.length = N * N
  wi : Within N R L
  ke : Keeps N L R
  b8 : ∀ x, R.getD x 0 < 8192
def NonZ (N : Nat) (R : List Nat) : Prop := ∀ m, m < N * N → R.getD m 0 ≠ 0
theorem nt_at {N m : Nat} (R : List Nat) : nt N R (m / N) (m % N) = R.getD m 0 := by
  unfold nt
  rw [show m / N * N + m % N = m by rw [Nat.mul_comm]; exact Nat.div_add_mod m N]
theorem ij_lt {N m : Nat} (hm : m < N * N) : m / N < N ∧ m % N < N := by
  have hn : 0 < N := by
    rcases Nat.eq_zero_or_pos N with e | e
    · subst e; simp at hm
    · exact e
  exact ⟨Nat.div_lt_of_lt_mul hm, Nat.mod_lt _ hn⟩
theorem getD_set {R : List Nat} {m v : Nat} (hm : m < R.length) (x : Nat) : (R.set m v).getD x 0 = if m = x then v else R.getD x 0 := by
  rw [List.getD_eq_getElem?_getD, List.getD_eq_getElem?_getD, List.getElem?_set]
  by_cases e : m = x
  · rw [if_pos e, if_pos hm, if_pos e]; rfl
  · rw [if_neg e, if_neg e]
theorem left_lt {N : Nat} {R : List Nat} (h : ∀ x, R.getD x 0 < 8192) (i j : Nat) : leftN N R i j < 8192 := Nat.lt_of_le_of_lt (left_sub N R i j).le (h _)
theorem NInv.step {N m : Nat} {L R : List Nat} (h : NInv N L R) (hm : m < N * N) : NInv N L (R.set m (leftN N R (m / N) (m % N))) := by
  obtain ⟨hi, hj⟩ := ij_lt hm
  have e : m / N * N + m % N = m := by rw [Nat.mul_comm]; exact Nat.div_add_mod m N
  have h1 := within_set (l := R) (v := leftN N R (m / N) (m % N)) h.len hi hj (left_sub N R _ _)
  have h2 := left_keeps (l := R) h.len hi hj
  rw [e] at h1 h2
  refine ⟨by rw [List.length_set]; exact h.len, h1.trans h.wi, h.ke.trans h2, fun x => ?_⟩
  rw [getD_set (by rw [h.len]; exact hm)]
  split
  · exact left_lt h.b8 _ _
  · exact h.b8 x
/-- within a round -/
structure RInv (N : Nat) (L R0 R : List Nat) (m : Nat) (lost : Bool) : Prop where
  inv : NInv N L R
  le : R.sum ≤ R0.sum
  lt : lost = true → R.sum < R0.sum
  eq : lost = false → R = R0 ∧ ∀ q, q < m → leftN N R0 (q / N) (q % N) = R0.getD q 0
  nz : ∀ q, q < m → R.getD q 0 ≠ 0
theorem RInv.start {N : Nat} {L R : List Nat} (h : NInv N L R) : RInv N L R R 0 false := ⟨h, Nat.le_refl _, fun e => by (cases e), fun _ => ⟨rfl, fun q hq => by omega⟩, fun q hq => by omega⟩
theorem RInv.step {N m : Nat} {L R0 R : List Nat} {lost : Bool} (h : RInv N L R0 R m lost) (hm : m < N * N) (hv : leftN N R (m / N) (m % N) ≠ 0) :
    RInv N L R0 (R.set m (leftN N R (m / N) (m % N))) (m + 1) (lost || (leftN N R (m / N) (m % N) != R.getD m 0)) := by
  have hml : m < R.length := by rw [h.inv.len]; exact hm
  have hs := sum_set R m (leftN N R (m / N) (m % N)) hml
  have hle : leftN N R (m / N) (m % N) ≤ R.getD m 0 := by
    have := (left_sub N R (m / N) (m % N)).le
    rwa [nt_at] at this
  refine ⟨h.inv.step hm, by have := h.le; omega, fun e => ?_, fun e => ?_, fun q hq => ?_⟩
  · rw [Bool.or_eq_true] at e
    rcases e with e | e
    · have := h.lt e; omega
    · rw [bne_iff_ne] at e
      have := h.le; omega
  · rw [Bool.or_eq_false_iff] at e
    obtain ⟨e1, e2⟩ := e
    obtain ⟨rfl, hq⟩ := h.eq e1
    have e3 : leftN N R (m / N) (m % N) = R.getD m 0 := by simpa using e2
    refine ⟨?_, fun q hq2 => ?_⟩
    · rw [e3]
      refine List.ext_getElem (by simp) fun i h1 h2 => ?_
      rw [List.getElem_set]
      split
      · rename_i he; subst he; rw [List.getD_eq_getElem?_getD, List.getElem?_eq_getElem h2]; rfl
      · rfl
    · by_cases c : q = m
      · subst c; exact e3
      · exact hq q (by omega)
  · rw [getD_set hml]
    split
    · exact hv
    · exact h.nz q (by omega)
/-- behind a round in which nothing was lost -/
theorem RInv.still {N : Nat} {L R0 R : List Nat} (h : RInv N L R0 R (N * N) false) : Still N R ∧ NonZ N R := by
  obtain ⟨rfl, hq⟩ := h.eq rfl
  refine ⟨still_of_left fun i hi j hj => ?_, h.nz⟩
  have hn : 0 < N := by omega
  have h1 := hq (i * N + j) (pos_lt hi hj)
  have e1 : (i * N + j) / N = i := by rw [Nat.mul_comm, Nat.mul_add_div hn, Nat.div_eq_of_lt hj, Nat.add_zero]
  have e2 : (i * N + j) % N = j := by rw [Nat.mul_comm, Nat.mul_add_mod, Nat.mod_eq_of_lt hj]
  rw [e1, e2] at h1
  exact h1
/-- a net that none can be within of -/
def NoNet (N : Nat) (L : List Nat) : Prop := ∀ x, Still N x → Within N x L → ∃ i j, i < N ∧ j < N ∧ nt N x i j = 0
theorem NInv.none {N m : Nat} {L R : List Nat} (h : NInv N L R) (hm : m < N * N) (hv : leftN N R (m / N) (m % N) = 0) : NoNet N L := by
  obtain ⟨hi, hj⟩ := ij_lt hm
  intro x hs hw
  have h1 := still_left hi hj hs (h.ke x hs hw)
  rw [hv] at h1
  refine ⟨m / N, m % N, hi, hj, ?_⟩
  have := h1.le
  omega

/-- what tighten does -/
def TightOut (w : World) (N g : Nat) (L : List Nat) (e : Ending) (w' : World) : Prop := Chg (· = g) w w' ∧
  ((e = .returned (.bool true) ∧ ∃ R, NInv N L R ∧ Still N R ∧ NonZ N R ∧ BlkU w' g 55 (u16s R)) ∨ (e = .returned (.bool false) ∧ NoNet N L))
theorem bne_ints (a c : Nat) : ((a : Int) != (c : Int)) = (a != c) := by
  rw [Bool.eq_iff_iff, bne_iff_ne, bne_iff_ne]; omega
theorem beq_zero (a : Nat) : ((a : Int) == 0) = decide (a = 0) := by
  rw [Bool.eq_iff_iff, beq_iff_eq, decide_eq_true_iff]; omega

set_option maxRecDepth 100000 in
set_option maxHeartbeats 4000000 in
theorem tighten_any (N g b : Nat) (L : List Nat) (w : World) (hN : N ≤ 5) (hN0 : 0 < N) (hl : L.length = N * N) (h8 : ∀ x, L.getD x 0 < 8192) (hB : BlkU w g 55 (u16s L)) (hT : TabAt w b 169) (hgb : g ≠ b) :
    Calls Tryd.prog 39 #[netV N g (N * N) b] w (TightOut w N g L) := by
  have HO : Hid (∀ e w', TightOut w N g L e w' = (Chg (· = g) w w' ∧ ((e = .returned (.bool true) ∧ ∃ R, NInv N L R ∧ Still N R ∧ NonZ N R ∧ BlkU w' g 55 (u16s R)) ∨ (e = .returned (.bool false) ∧ NoNet N L)))) := Lib.hid fun _ _ => rfl
  generalize TightOut w N g L = Z at HO ⊢
  have HI0 : Hid (NInv N L L) := Lib.hid ⟨hl, Within.refl _ _, Keeps.refl _ _, h8⟩
  have KL := Lib.hid (fun R i j u (hR : NInv N L R) (hi : i < N) (hj : j < N) hB hT => left_any N g b i j R u hN hi hj hR.len hR.b8 hB hT)
  have h25 : N * N ≤ 5 * 5 := Nat.mul_le_mul hN hN
  have hij := fun m (hm : m < N * N) => ij_lt hm
  have HST := Lib.hid (fun R0 R m lost (h : RInv N L R0 R m lost) (hm : m < N * N) hv => h.step hm hv)
  have HNO := Lib.hid (fun R m (h : NInv N L R) (hm : m < N * N) hv => h.none hm hv)
  have HSL := Lib.hid (fun R0 R (h : RInv N L R0 R (N * N) false) => h.still)
  have HLEN := Lib.hid (fun R (h : NInv N L R) => h.len)
  obtain ⟨M, hM⟩ : ∃ M, M = N * N := ⟨_, rfl⟩
  rw [← hM] at KL h25 hij HST HNO HSL HLEN
  rw [← hM]
  have HM := Lib.hid hM
  clear hM
  have hNi : (N : Int) ≠ 0 := by omega
  obtain ⟨W0, hW0⟩ : ∃ W0, W0 = w.alloc (.cells #[.int .i64 (N : Int), .slice (some ⟨g, 0, none⟩) M M, .map (some b)] 69) := ⟨_, rfl⟩
  have hx0 : Ext w W0 := by rw [hW0]; exact (Ext.refl w).alloc _
  have q0 : W0.cell? ⟨w.heap.size, 0, none⟩ = some (.int .i64 (N : Int)) := by rw [hW0]; go_simp
  have q1 : W0.cell? ⟨w.heap.size, 1, none⟩ = some (.slice (some ⟨g, 0, none⟩) M M) := by rw [hW0]; go_simp
  have q2 : W0.cell? ⟨w.heap.size, 2, none⟩ = some (.map (some b)) := by rw [hW0]; go_simp
  have hgl := hB.lt
  have HW := Lib.hid hW0
  go_enter Tryd.func39, Tryd.ntmps39
  go_upto_region 1 with (fail)
  rw [← HW.out]
  obtain ⟨gb, hgbe⟩ : ∃ gb, gb = w.heap.size := ⟨_, rfl⟩
  rw [← hgbe] at q0 q1 q2 hgl
  rw [← hgbe]
  have hne : gb ≠ g := by omega
  have HB0 := Lib.hid (hB.ext hx0)
  have HT0 := Lib.hid (hT.ext hx0)
  have HX0 := Lib.hid hx0
  have HGB := Lib.hid hgb
  clear hW0 HW hgbe hB hT hx0 hgb hgl h8 hl
  go_wp2_with fail
  go_loopw [3] (fun x wr => ∃ (R : List Nat) (lost : Bool), x = .bool lost ∧ NInv N L R ∧ BlkU wr g 55 (u16s R) ∧ Chg (· = g) W0 wr ∧ (lost = false → Still N R ∧ NonZ N R)) (fun x u => 2 * sumW u g M + (match x with | .bool true => 1 | _ => 0))
  case atStart => exact ⟨L, true, rfl, HI0.out, HB0.out, Chg.refl _ _, fun e => by (cases e)⟩
  case round =>
    obtain ⟨R0, lost, rfl, hR0, hB, hC, hst⟩ := hrel
    cases lost with
    | false =>
      have HF : Hid (Still N R0 ∧ NonZ N R0) := Lib.hid (hst rfl)
      clear hst
      go_wp2_with fail
      rw [HO.out]
      exact ⟨(Chg.of_ext HX0.out).trans hC, .inl ⟨rfl, R0, hR0, HF.out.1, HF.out.2, hB⟩⟩
    | true =>
      obtain ⟨wo, hwo⟩ : ∃ wo, wo = wr := ⟨_, rfl⟩
      rw [← hwo] at hB hC
      rw [← hwo]
      clear hst
      have e1 := hC.cell q1 hne
      have HSUM : Hid (sumW wo g M = R0.sum) := Lib.hid (sumW_eq hB (HLEN.out _ hR0))
      clear hwo
      go_wp2_with fail
      go_loopw [3, 11] (fun x i wr => ∃ (R : List Nat) (m : Nat) (lost : Bool), m ≤ M ∧ i = .int .i64 m ∧ x = .bool lost ∧ RInv N L R0 R m lost ∧ BlkU wr g 55 (u16s R) ∧ Chg (· = g) W0 wr) (fun _ i _ => M - (intOf i).toNat)
      case atStart => exact ⟨R0, 0, false, Nat.zero_le _, rfl, rfl, RInv.start hR0, hB, hC⟩
      case round =>
        obtain ⟨R, m, lost, hm, rfl, rfl, hR, hBr, hCr⟩ := hrel
        by_cases hlt : m < M
        · have hmi : (m : Int) < (M : Int) := by omega
          have hm0 : (0 : Int) ≤ (m : Int) := by omega
          obtain ⟨hi, hj⟩ := hij m hlt
          have hlen := HLEN.out _ hR.inv
          have hqq : (m : Int).tdiv (N : Int) = ((m / N : Nat) : Int) := rfl
          have hqr : (m : Int).tmod (N : Int) = ((m % N : Nat) : Int) := rfl
          have hTr : TabAt wr b 169 := HT0.out.keep (hCr.block b HT0.out.lt (fun e => HGB.out e.symm))
          have c0 := hCr.cell q0 hne
          have c1 := hCr.cell q1 hne
          have c2 := hCr.cell q2 hne
          have s0 := hBr.cell m
          rw [u16s_at (by rw [hlen]; exact hlt)] at s0
          have KK := Lib.hid (fun u (k : Ext wr u) => KL.out R (m / N) (m % N) u hR.inv hi hj (hBr.ext k) (hTr.ext k))
          have HBr := Lib.hid hBr
          have HCr := Lib.hid hCr
          have HRr := Lib.hid hR
          have HNE := Lib.hid (bne_ints (leftN N R (m / N) (m % N)) (R.getD m 0))
          have HZ := Lib.hid (beq_zero (leftN N R (m / N) (m % N)))
          have HNN := Lib.hid (HNO.out R m hR.inv hlt)
          have HSS := Lib.hid (HST.out R0 R m lost hR hlt)
          have HSET := Lib.hid (u16s_set R m (leftN N R (m / N) (m % N)))
          have hgw : g < wr.heap.size := hBr.lt
          generalize leftN N R (m / N) (m % N) = v at *
          generalize m / N = qi at *
          generalize m % N = qj at *
          generalize R.getD m 0 = s at *
          clear hB hC hR hTr hlen hBr hCr HST HNO HSL e1
          go_upto_region 7 with (fail)
          have d0 : ∀ p : ExtOf wr, p.to.cell? _ = _ := ext_cell c0
          have d1 : ∀ p : ExtOf wr, p.to.cell? _ = _ := ext_cell c1
          have d2 : ∀ p : ExtOf wr, p.to.cell? _ = _ := ext_cell c2
          refine wp_region_ext (by kernel_rfl) (by kernel_rfl) ?_
          repeat (go_big_quiet_step ((go_at_call 45; with_reducible exact of_ext (KK.out _ (ExtOf.is _)))))
          refine wpQuiet_nil ?_
          refine ext_all ?_
          intro w5 hx5
          have e0 := hx5.cell c0
          have e1 := hx5.cell c1
          have e2 := hx5.cell c2
          have HB5 := Lib.hid (HBr.out.ext hx5)
          have HC5 := Lib.hid (HCr.out.trans (Chg.of_ext hx5))
          clear d0 d1 d2 hx5 KK c0 c1 c2 HBr HCr hqq hqr
          by_cases hv : v = 0
          · have hz : ((v : Int) == 0) = true := by rw [HZ.out]; exact decide_eq_true hv
            have HF := Lib.hid (HNN.out hv)
            clear hv HSS HNN HZ
            go_wp2_with fail
            rw [HO.out]
            exact ⟨(Chg.of_ext HX0.out).trans HC5.out, .inr ⟨rfl, HF.out⟩⟩
          · have hz : ((v : Int) == 0) = false := by rw [HZ.out]; exact decide_eq_false hv
            have HS2 := Lib.hid (HSS.out hv)
            have t0 := HB5.out.cell m
            have t1 := HB5.out.frozen m
            rw [u16s_at (by rw [HLEN.out _ HRr.out.inv]; exact hlt)] at t0
            have HBF : Hid (BlkU (w5.setCell ⟨g, m, none⟩ (.int .u16 (v : Int))) g 55 (u16s (R.set m v))) := Lib.hid (by rw [← HSET.out]; exact HB5.out.set m _)
            have HCF : Hid (Chg (· = g) W0 (w5.setCell ⟨g, m, none⟩ (.int .u16 (v : Int)))) := Lib.hid (HC5.out.setCell rfl _)
            clear hv HNN HZ HSS
            cases lost with
            | true =>
              go_wp2_with fail
              go_roundw
              case rel => exact ⟨R.set m v, m + 1, true, by omega, by go_num, rfl, HS2.out, HBF.out, HCF.out⟩
              case measure => simp [intOf]; omega
            | false =>
              cases hvs : (v != s) with
              | true =>
                have hne2 : ((v : Int) != (s : Int)) = true := HNE.out.trans hvs
                rw [hvs] at HS2
                go_wp2_with fail
                go_roundw
                case rel => exact ⟨R.set m v, m + 1, true, by omega, by go_num, rfl, HS2.out, HBF.out, HCF.out⟩
                case measure => simp [intOf]; omega
              | false =>
                have hne2 : ((v : Int) != (s : Int)) = false := HNE.out.trans hvs
                rw [hvs] at HS2
                go_wp2_with fail
                go_roundw
                case rel => exact ⟨R.set m v, m + 1, false, by omega, by go_num, rfl, HS2.out, HBF.out, HCF.out⟩
                case measure => simp [intOf]; omega
        · have hmi : ¬ ((m : Int) < (M : Int)) := by omega
          obtain rfl : m = M := by omega
          have HSW : Hid (sumW wr g m = R.sum) := Lib.hid (sumW_eq hBr (HLEN.out _ hR.inv))
          have HR := Lib.hid hR
          have HBr := Lib.hid hBr
          have HCr := Lib.hid hCr
          clear hR hBr hCr hB hC
          go_wp2_with fail
          go_roundw
          case rel => exact ⟨R, lost, rfl, HR.out.inv, HBr.out, HCr.out, fun e => by subst e; exact HSL.out _ _ HR.out⟩
          case measure =>
            rw [HSW.out, HSUM.out]
            have h1 := HR.out.le
            have h2 := HR.out.lt
            cases lost
            · simp; omega
            · have := h2 rfl; simp; omega
end Go.Proofs.YtjldokhomohdbaaDoor
