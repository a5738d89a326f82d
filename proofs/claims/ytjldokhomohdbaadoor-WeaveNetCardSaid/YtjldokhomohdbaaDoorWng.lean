/- almagestref7.Net. -/
import Derived.Test.YtjldokhomohdbaaDoorWnf
namespace Go.Proofs.YtjldokhomohdbaaDoor
open Go.RowKit Go.Maps

/-- what the page's Net tells -/
def RefTo (w : World) (N : Nat) (L : List Nat) (e : Ending) (w' : World) : Prop := Ext w w' ∧ ∃ R, NInv N L R ∧ Still N R ∧
  (((∃ m, m < N * N ∧ R.getD m 0 = 0) ∧ e = .returned (.tuple #[.slice none 0 0, .bool false])) ∨ (NonZ N R ∧ ∃ v, e = .returned (.tuple #[v, .bool true]) ∧ w'.ownsRow w.heap.size 3 1 v (N * N) (intCells (toI R))))
theorem pos_i {p j M : Nat} (h : p + j < M) : (0 : Int) ≤ (p : Int) + (j : Int) ∧ (p : Int) + (j : Int) < (M : Int) := by omega
theorem wrap_pos {p j M : Nat} (h : p + j < M) (hM : M ≤ 5 * 5) : RowKit.wrap64 ((p : Int) + (j : Int)) = (p : Int) + (j : Int) := by unfold RowKit.wrap64; omega
theorem wrap_one {q k : Nat} (h : q < k) (hk : k ≤ 5) : RowKit.wrap64 ((q : Int) + 1) = (q : Int) + 1 := by unfold RowKit.wrap64; omega
theorem meas1 {q k : Nat} (h : q < k) : k - (q + 1) < k - q := by omega
theorem meas2 {q k : Nat} (h : q < k) : k - ((q : Int) + 1).toNat < k - q := by omega
theorem meas3 {q k : Nat} (h : q < k) : k - ((q : Int) + 1).toNat < k - (q : Int).toNat := by omega
theorem now_lt {N : Nat} {R : List Nat} (h : ∀ x, R.getD x 0 < 8192) (i j : Nat) : nowN N R i j < 8192 := Nat.lt_of_le_of_lt (now_sub N R i j).le (h _)

set_option maxRecDepth 100000 in
set_option maxHeartbeats 8000000 in
theorem rNet_any (N : Nat) (L : List Nat) (A : Option Addr) (c : Nat) (w : World) (hN : N ≤ 5) (hN0 : 0 < N) (hl : L.length = N * N) (h8 : ∀ x, L.getD x 0 < 8192) (hI : IntsAt w (toI L) A) :
    Calls Tryd.prog 24 #[tabV, .int .i64 (N : Int), .slice A (N * N) c] w (RefTo w N L) := by
  have h25 : N * N ≤ 5 * 5 := Nat.mul_le_mul hN hN
  have hll : (toI L).length = N * N := by rw [toI_len, hl]
  have KC := Lib.hid (fun u (k : Ext w u) => copyNumbers_any (toI L) A c u (by omega) (hI.ext k))
  rw [hll] at KC
  have HO : Hid (∀ e w', RefTo w N L e w' = (Ext w w' ∧ ∃ R, NInv N L R ∧ Still N R ∧
    (((∃ m, m < N * N ∧ R.getD m 0 = 0) ∧ e = .returned (.tuple #[.slice none 0 0, .bool false])) ∨ (NonZ N R ∧ ∃ v, e = .returned (.tuple #[v, .bool true]) ∧ w'.ownsRow w.heap.size 3 1 v (N * N) (intCells (toI R)))))) := Lib.hid fun _ _ => rfl
  generalize RefTo w N L = Z at HO ⊢
  have HI0 : Hid (GInvD N L L 0) := Lib.hid ⟨⟨hl, Within.refl _ _, Keeps.refl _ _, h8⟩, fun i hi => by omega⟩
  have HMUL := Lib.hid (fun i (hi : i < N) => mul_wrap hi hN)
  have HPOS := Lib.hid (fun i j (hi : i < N) (hj : j < N) => pos_lt hi hj)
  have HGS := Lib.hid (fun R k (h : GInvD N L R k) (hk : k < N) => h.step hk)
  have HPS := Lib.hid (fun R0 R m lost (h : PInv N L R0 R m lost) (hm : m < N * N) => h.step hm)
  have HSL := Lib.hid (fun R0 R (h : PInv N L R0 R (N * N) false) => h.still)
  have HNZ : Hid (∀ R, NonZ N R = ∀ m, m < N * N → R.getD m 0 ≠ 0) := Lib.hid fun _ => rfl
  obtain ⟨M, hM⟩ : ∃ M, M = N * N := ⟨_, rfl⟩
  rw [← hM] at KC h25 HO HPOS HPS HSL HNZ
  rw [← hM]
  have HM := Lib.hid hM
  have HLL : Hid ((toI L).length = M) := Lib.hid (by rw [hll, hM])
  have hNi : (N : Int) ≤ 5 := by omega
  obtain ⟨W0, hW0⟩ : ∃ W0, W0 = w.alloc (.cells tabCs.toArray 39) := ⟨_, rfl⟩
  have hx0 : Ext w W0 := by rw [hW0]; exact (Ext.refl w).alloc _
  have hBT : BlkT W0 w.heap.size tabCs := by rw [hW0]; exact BlkT.made w _
  have HW := Lib.hid hW0
  clear hM hll hl h8 hI hW0
  go_enter Tryd.func24, Tryd.ntmps24
  go_upto_region 1 with (fail)
  rw [← HW.out]
  obtain ⟨gt, hgt⟩ : ∃ gt, gt = w.heap.size := ⟨_, rfl⟩
  rw [← hgt] at hBT
  rw [← hgt]
  have HX0 := Lib.hid hx0
  have HR0 := Lib.hid hBT.range
  clear hgt HW hBT
  go_wp2_with fail
  refine (KC.out _ hx0).mono ?_
  rintro e w1 ⟨v, rfl, hown, hx1⟩
  have hMp : 0 < M := by rw [HM.out]; exact Nat.mul_pos hN0 hN0
  rw [HLL.out] at hown
  obtain ⟨g, cap, rfl, hcap⟩ : ∃ g cap, v = .slice (some ⟨g, 0, none⟩) M cap ∧ M ≤ cap := by
    rcases hown.2 with ⟨_, h0⟩ | ⟨g, cap, _, e, _, _, hc, _⟩
    · omega
    · exact ⟨g, cap, e, hc⟩
  have HOW : Hid (OwnN w1 W0.heap.size g M cap L) := Lib.hid ⟨by have := HLL.out; rwa [toI_len] at this, hown⟩
  have HX1 := Lib.hid hx1
  clear hown hx1 hx0 KC
  go_wp2_with fail
  go_loopw [8] (fun i wr => ∃ (k : Nat) (R : List Nat), k ≤ N ∧ i = .int .i64 k ∧ GInvD N L R k ∧ OwnN wr W0.heap.size g M cap R ∧ Ext W0 wr) (fun i _ => N - (intOf i).toNat)
  case atStart => exact ⟨0, L, Nat.zero_le _, rfl, HI0.out, HOW.out, HX1.out⟩
  case round =>
    obtain ⟨k, R, hk, rfl, hG, hW, hx⟩ := hrel
    by_cases hlt : k < N
    · have hki : (k : Int) < (N : Int) := by omega
      have hk0 : (0 : Int) ≤ (k : Int) := by omega
      have hm := HMUL.out k hlt
      have hp := HPOS.out k k hlt hlt
      have c0 := hW.cell hp
      have f0 := hW.frozen (k * N + k)
      have HA := Lib.hid (and64 (R.getD (k * N + k) 0) 64 (by have := hG.inv.b8 (k * N + k); omega) (by omega))
      have HS : Hid (GInvD N L (R.set (k * N + k) (R.getD (k * N + k) 0 &&& 64)) (k + 1)) := Lib.hid (HGS.out R k hG hlt)
      have HOW2 : Hid (OwnN (wr.setCell ⟨g, k * N + k, none⟩ (.int .i64 (bits .and .i64 (R.getD (k * N + k) 0 : Int) 64))) W0.heap.size g M cap (R.set (k * N + k) (R.getD (k * N + k) 0 &&& 64))) := Lib.hid (by
        have h := hW.set (k * N + k) (R.getD (k * N + k) 0 &&& 64)
        have e := HA.out
        rw [show ((64 : Nat) : Int) = 64 from rfl] at e
        rw [e]; exact h)
      have HX2 : Hid (Ext W0 (wr.setCell ⟨g, k * N + k, none⟩ (.int .i64 (bits .and .i64 (R.getD (k * N + k) 0 : Int) 64)))) := Lib.hid (hx.setCell hW.ge _)
      generalize R.getD (k * N + k) 0 = x at *
      generalize R.set (k * N + k) (x &&& 64) = R2 at *
      generalize k * N = p at *
      have s0 : (0 : Int) ≤ (p : Int) + (k : Int) := by omega
      have s1 : (p : Int) + (k : Int) < (M : Int) := by omega
      clear hG hW hx HA HOW HX1
      go_wp2_with fail
      go_roundw
      case rel => exact ⟨k + 1, R2, by omega, by go_num, HS.out, HOW2.out, HX2.out⟩
      case measure => simp [intOf]; omega
    · have hki : ¬ ((k : Int) < (N : Int)) := by omega
      obtain rfl : k = N := by omega
      have HD : Hid (DInv k L R) := Lib.hid ⟨hG.inv, hG.dg⟩
      have HWW := Lib.hid hW
      have HXX := Lib.hid hx
      obtain ⟨wk, hwk⟩ : ∃ wk, wk = wr := ⟨_, rfl⟩
      rw [← hwk] at HWW HXX
      rw [← hwk]
      clear hG hW hx HOW HX1 hwk HI0 HGS
      go_wp2_with fail
      go_loopw [9] (fun x wr => ∃ (R : List Nat) (more : Bool), x = .bool more ∧ DInv k L R ∧ OwnN wr W0.heap.size g M cap R ∧ Ext W0 wr ∧ (more = false → Still k R)) (fun x u => 2 * sumW u g M + (match x with | .bool true => 1 | _ => 0))
      case atStart => exact ⟨R, true, rfl, HD.out, HWW.out, HXX.out, fun e => by (cases e)⟩
      case round =>
        obtain ⟨R0, more, rfl, hD, hW, hx, hst⟩ := hrel
        cases more with
        | false =>
          have hS := Lib.hid (hst rfl)
          have HD2 := Lib.hid hD
          have HW2 := Lib.hid hW
          have HX2 := Lib.hid hx
          obtain ⟨wz, hwz⟩ : ∃ wz, wz = wr := ⟨_, rfl⟩
          rw [← hwz] at HW2 HX2
          rw [← hwz]
          clear hst hD hW hx hwz
          go_wp2_with fail
          go_loopw [15] (fun i wr => ∃ m : Nat, m ≤ M ∧ i = .int .i64 m ∧ wr = wz ∧ (∀ x, x < m → R0.getD x 0 ≠ 0)) (fun i _ => M - (intOf i).toNat)
          case atStart => exact ⟨0, Nat.zero_le _, rfl, rfl, fun x h => absurd h (Nat.not_lt_zero _)⟩
          case round =>
            obtain ⟨m, hm, rfl, hwr, hz⟩ := hrel
            rw [hwr]
            clear hwr
            have HZ := Lib.hid hz
            clear hz
            by_cases hlm : m < M
            · have hmm : (m : Int) < (M : Int) := by omega
              have hm0 : (0 : Int) ≤ (m : Int) := by omega
              have cm := HW2.out.cell hlm
              have HLM := Lib.hid hlm
              have hwm : RowKit.wrap64 ((m : Int) + 1) = (m : Int) + 1 := by unfold RowKit.wrap64; omega
              by_cases hx0 : R0.getD m 0 = 0
              · rw [hx0] at cm
                have HX9 := Lib.hid hx0
                clear hx0 hwm
                go_wp2_with fail
                rw [HO.out]
                exact ⟨HX0.out.trans HX2.out, R0, HD2.out.inv, hS.out, Or.inl ⟨⟨m, HLM.out, HX9.out⟩, rfl⟩⟩
              · have hne : ((R0.getD m 0 : Int) == 0) = false := by
                  apply beq_eq_false_iff_ne.2; omega
                have HNE := Lib.hid hx0
                clear hx0
                generalize hy : R0.getD m 0 = y at cm hne
                have HY := Lib.hid hy
                clear hy
                go_wp2_with fail
                go_roundw
                case rel => exact ⟨m + 1, HLM.out, by go_num, trivial, fun x h => by
                  rcases Nat.lt_succ_iff_lt_or_eq.1 h with h | h
                  · exact HZ.out x h
                  · rw [h]; exact HNE.out⟩
                case measure => have := HLM.out; simp [intOf]; first | exact meas1 this | exact meas2 this | exact meas3 this | (trace_state; omega)
            · have hmm : ¬ ((m : Int) < (M : Int)) := by omega
              have hmM : m = M := by omega
              have HNN : Hid (NonZ k R0) := Lib.hid (by rw [HNZ.out, ← hmM]; exact HZ.out)
              go_wp2_with fail
              rw [HO.out]
              exact ⟨HX0.out.trans HX2.out, R0, HD2.out.inv, hS.out, Or.inr ⟨HNN.out, _, rfl, ownsRow_base HW2.out.own HX0.out.size⟩⟩
        | true =>
          have HSUM : Hid (sumW wr g M = R0.sum) := Lib.hid (sumW_own hW)
          obtain ⟨wo, hwo⟩ : ∃ wo, wo = wr := ⟨_, rfl⟩
          rw [← hwo] at hW hx HSUM
          rw [← hwo]
          clear hwo hst
          go_wp2_with fail
          go_loopw [9, 10] (fun x i wr => ∃ (R : List Nat) (i' : Nat) (more : Bool), i' ≤ k ∧ i = .int .i64 i' ∧ x = .bool more ∧ PInv k L R0 R (i' * k) more ∧ OwnN wr W0.heap.size g M cap R ∧ Ext W0 wr) (fun _ i _ => k - (intOf i).toNat)
          case atStart => exact ⟨R0, 0, false, Nat.zero_le _, rfl, rfl, by rw [Nat.zero_mul]; exact PInv.start hD, hW, hx⟩
          case round =>
            obtain ⟨R, i, more, hi, rfl, rfl, hP, hWi, hxi⟩ := hrel
            by_cases hli : i < k
            · have hii : (i : Int) < (k : Int) := by omega
              have hi0 : (0 : Int) ≤ (i : Int) := by omega
              obtain ⟨wp, hwp⟩ : ∃ wp, wp = wr := ⟨_, rfl⟩
              rw [← hwp] at hWi hxi
              rw [← hwp]
              clear hwp hW hx hD
              go_wp2_with fail
              go_loopw [9, 11] (fun x j wr => ∃ (R : List Nat) (j' : Nat) (more : Bool), j' ≤ k ∧ j = .int .i64 j' ∧ x = .bool more ∧ PInv k L R0 R (i * k + j') more ∧ OwnN wr W0.heap.size g M cap R ∧ Ext W0 wr) (fun _ i _ => k - (intOf i).toNat)
              case atStart => exact ⟨R, 0, more, Nat.zero_le _, rfl, rfl, hP, hWi, hxi⟩
              case round =>
                obtain ⟨R, j, more, hj, rfl, rfl, hP, hWj, hxj⟩ := hrel
                by_cases hlj : j < k
                · have hjj : (j : Int) < (k : Int) := by omega
                  have hj0 : (0 : Int) ≤ (j : Int) := by omega
                  have hmi := HMUL.out i hli
                  have hmj := HMUL.out j hlj
                  have hpij := HPOS.out i j hli hlj
                  have hpji := HPOS.out j i hlj hli
                  have cij := hWj.cell hpij
                  have cji := hWj.cell hpji
                  have HB8 := Lib.hid hP.inv.inv.b8
                  have HP2 := Lib.hid (HPS.out R0 R (i * k + j) more hP hpij)
                  rw [(ij_div (i := i) hlj).1, (ij_div (i := i) hlj).2] at HP2
                  have HNOW : Hid (nowN k R i j = cutU k R i j (R.getD (i * k + j) 0 &&& turnS (R.getD (j * k + i) 0)) k) := Lib.hid rfl
                  have KTS := Lib.hid (fun u => rTurnSet_any (R.getD (j * k + i) 0) (hP.inv.inv.b8 _) u)
                  have HA := Lib.hid (and64 (R.getD (i * k + j) 0) (turnS (R.getD (j * k + i) 0)) (by have := hP.inv.inv.b8 (i * k + j); omega) (by have := turnS_lt (R.getD (j * k + i) 0); omega))
                  have HS8 : Hid (R.getD (i * k + j) 0 &&& turnS (R.getD (j * k + i) 0) < 8192) := Lib.hid (and_lt (hP.inv.inv.b8 _))
                  have HNE := Lib.hid (bne_ints (nowN k R i j) (R.getD (i * k + j) 0))
                  have HWJ := Lib.hid hWj
                  have HXJ := Lib.hid hxj
                  have HNT : Hid (∀ a b, R.getD (a * k + b) 0 = nt k R a b) := Lib.hid fun _ _ => rfl
                  generalize nowN k R i j = NOW at *
                  generalize R.getD (i * k + j) 0 = a at *
                  generalize R.getD (j * k + i) 0 = bb at *
                  generalize turnS bb = TT at *
                  obtain ⟨pi, hpi⟩ : ∃ p, p = i * k := ⟨_, rfl⟩
                  obtain ⟨pj, hpj⟩ : ∃ p, p = j * k := ⟨_, rfl⟩
                  rw [← hpi] at hmi hpij cij HP2
                  rw [← hpj] at hmj hpji cji
                  obtain ⟨s0, s1⟩ := pos_i hpij
                  obtain ⟨s2, s3⟩ := pos_i hpji
                  have hw1 := wrap_pos hpij h25
                  have hw2 := wrap_pos hpji h25
                  have HLI := Lib.hid hli
                  have hwj := wrap_one hlj hN
                  have HN5 := Lib.hid hN
                  have HLJ := Lib.hid hlj
                  have HPIJ := Lib.hid hpij
                  have H25 := Lib.hid h25
                  have HPI := Lib.hid hpi
                  obtain ⟨wj, hwje⟩ : ∃ wj, wj = wr := ⟨_, rfl⟩
                  rw [← hwje] at cij cji HWJ HXJ
                  rw [← hwje]
                  clear hP hWj hxj hWi hxi hpi hpj hwje hpij hpji hli hlj hii hjj hi0 hj0 hi hj h25 hMp hcap hNi hN hN0 hk hki
                  go_wp2_with fail
                  refine (KTS.out _).mono ?_
                  rintro e w5 ⟨rfl, hw5⟩
                  rw [hw5]
                  clear hw5 KTS
                  go_upto_region 17 with (fail)
                  rw [HA.out]
                  generalize a &&& TT = S0 at HNOW HS8 ⊢
                  clear HA cji
                  go_wp2_with fail
                  go_loopw [13, 14] (fun x q wr => ∃ q' : Nat, q' ≤ k ∧ q = .int .i64 q' ∧ x = .int .i64 (cutU k R i j S0 q' : Int) ∧ Ext wj wr) (fun _ q _ => k - (intOf q).toNat)
                  case atStart => exact ⟨0, Nat.zero_le _, rfl, rfl, Ext.refl _⟩
                  case round =>
                    obtain ⟨q, hq, rfl, rfl, hxq⟩ := hrel
                    by_cases hlq : q < k
                    · have hqq : (q : Int) < (k : Int) := by omega
                      have hq0 : (0 : Int) ≤ (q : Int) := by omega
                      have hmq := HMUL.out q hlq
                      have hpiq := HPOS.out i q HLI.out hlq
                      have hpqj := HPOS.out q j hlq HLJ.out
                      have ciq := (HWJ.out.ext hxq).cell hpiq
                      have cqj := (HWJ.out.ext hxq).cell hpqj
                      rw [HNT.out] at ciq cqj
                      rw [← HPI.out] at hpiq ciq
                      obtain ⟨pq, hpq⟩ : ∃ p, p = q * k := ⟨_, rfl⟩
                      rw [← hpq] at hmq hpqj cqj
                      clear hpq
                      obtain ⟨t0, t1⟩ := pos_i hpiq
                      obtain ⟨t2, t3⟩ := pos_i hpqj
                      have hw3 := wrap_pos hpiq H25.out
                      have hw4 := wrap_pos hpqj H25.out
                      have HLQ := Lib.hid hlq
                      have hwq := wrap_one hlq HN5.out
                      have KRT := Lib.hid (fun u => rThen_any (nt k R i q) (nt k R q j) (HB8.out _) (HB8.out _) u)
                      have HN : Hid (cutU k R i j S0 (q + 1) = cutU k R i j S0 q &&& thn (nt k R i q) (nt k R q j)) := Lib.hid rfl
                      have HA3 := Lib.hid (and64 (cutU k R i j S0 q) (thn (nt k R i q) (nt k R q j)) (by have := cut_lt (N := k) (R := R) (i := i) (j := j) HS8.out q; omega) (by have := thn_lt (nt k R i q) (nt k R q j); omega))
                      have HXQ := Lib.hid hxq
                      have hRR : ∀ u, (∃ p : ExtOf wr, u = p.to) → u.rangeAt gt 0 tabCs := by rintro u ⟨p, rfl⟩; exact rangeAt_ext HR0.out ((HXJ.out.trans HXQ.out).trans p.is)
                      have hiT : (Tryd.prog.info? 39).map (·.size) = some tabCs.length := by rw [tabCs_len]; exact infoTab
                      generalize thn (nt k R i q) (nt k R q j) = TH at KRT HN HA3
                      generalize (nt k R i q : Int) = v1 at *
                      generalize (nt k R q j : Int) = v2 at *
                      generalize cutU k R i j S0 q = CU at HN HA3 ⊢
                      clear hxq hpiq hpqj hq0 hlq hq s0 s1 s2 s3 hw1 hw2
                      go_upto_region 20 with (fail)
                      have d0 : ∀ p : ExtOf wr, p.to.cell? _ = _ := ext_cell ciq
                      have d1 : ∀ p : ExtOf wr, p.to.cell? _ = _ := ext_cell cqj
                      clear ciq cqj cij
                      refine wp_region_ext (by kernel_rfl) (by kernel_rfl) ?_
                      repeat (first
                        | (go_big_quiet_want; refine quiet_load_mid 39 (.tmp 3) rfl gt 0 rfl tabCs _ hRR Tryd.underlying39 rfl hiT ?_; simp only [Act.put, List.setIfInBounds_toArray, List.set_cons_succ, List.set_cons_zero]; go_big_quiet_on)
                        | go_big_quiet_step ((go_at_call 19; with_reducible exact of_ext (KRT.out _))))
                      refine wpQuiet_nil ?_
                      refine ext_all ?_
                      intro w8 hx8
                      have HX8 := Lib.hid (HXQ.out.trans hx8)
                      clear hRR hx8 d0 d1 KRT
                      go_wp2_with fail
                      go_roundw
                      case rel => exact ⟨q + 1, HLQ.out, by rw [hwq]; rfl, by rw [HN.out, HA3.out], HX8.out⟩
                      case measure => rw [hwq]; exact meas3 HLQ.out
                    · have hqq : ¬ ((q : Int) < (k : Int)) := by omega
                      have hqk : q = k := by omega
                      have hWq := HWJ.out.ext hxq
                      have hXq := HXJ.out.trans hxq
                      rw [hqk, ← HNOW.out]
                      have c5 := hWq.cell HPIJ.out
                      have f5 := hWq.frozen (pi + j)
                      have HWF : Hid (OwnN (wr.setCell ⟨g, pi + j, none⟩ (.int .i64 (NOW : Int))) W0.heap.size g M cap (R.set (pi + j) NOW)) := Lib.hid (hWq.set _ _)
                      have HXF : Hid (Ext W0 (wr.setCell ⟨g, pi + j, none⟩ (.int .i64 (NOW : Int)))) := Lib.hid (hXq.setCell hWq.ge _)
                      have hqq2 : ¬ ((k : Int) < (k : Int)) := by omega
                      clear hWq hXq cij hxq hqk
                      generalize R.getD (pi + j) 0 = old at *
                      have HP3 : Hid (PInv k L R0 (R.set (pi + j) NOW) (i * k + (j + 1)) (more || (NOW != a))) := Lib.hid (by have := HP2.out; rw [HPI.out] at this ⊢; exact this)
                      cases more with
                      | true =>
                        go_wp2_with fail
                        go_roundw
                        case rel => exact ⟨R.set (pi + j) NOW, j + 1, true, HLJ.out, by rw [hwj]; rfl, rfl, HP3.out, HWF.out, HXF.out⟩
                        case measure => rw [hwj]; exact meas3 HLJ.out
                      | false =>
                        cases hvs : (NOW != a) with
                        | true =>
                          have hne2 : ((NOW : Int) != (a : Int)) = true := HNE.out.trans hvs
                          rw [hvs] at HP3
                          go_wp2_with fail
                          go_roundw
                          case rel => exact ⟨R.set (pi + j) NOW, j + 1, true, HLJ.out, by rw [hwj]; rfl, rfl, HP3.out, HWF.out, HXF.out⟩
                          case measure => rw [hwj]; exact meas3 HLJ.out
                        | false =>
                          have hne2 : ((NOW : Int) != (a : Int)) = false := HNE.out.trans hvs
                          rw [hvs] at HP3
                          go_wp2_with fail
                          go_roundw
                          case rel => exact ⟨R.set (pi + j) NOW, j + 1, false, HLJ.out, by rw [hwj]; rfl, rfl, HP3.out, HWF.out, HXF.out⟩
                          case measure => rw [hwj]; exact meas3 HLJ.out
                · have hjj : ¬ ((j : Int) < (k : Int)) := by omega
                  have HPF : Hid (PInv k L R0 R ((i + 1) * k) more) := Lib.hid (by
                    have e : (i + 1) * k = i * k + j := by rw [Nat.add_mul]; omega
                    rw [e]; exact hP)
                  have HWF := Lib.hid hWj
                  have HXF := Lib.hid hxj
                  clear hP hWj hxj hWi hxi
                  go_wp2_with fail
                  go_roundw
                  case rel => exact ⟨R, i + 1, more, by omega, by go_num, rfl, HPF.out, HWF.out, HXF.out⟩
                  case measure => simp [intOf]; omega
            · have hii : ¬ ((i : Int) < (k : Int)) := by omega
              have HPF : Hid (PInv k L R0 R M more) := Lib.hid (by
                obtain rfl : i = k := by omega
                rw [HM.out]; exact hP)
              have HWF := Lib.hid hWi
              have HXF := Lib.hid hxi
              have HSW : Hid (sumW wr g M = R.sum) := Lib.hid (sumW_own hWi)
              clear hP hWi hxi hW hx hD
              go_wp2_with fail
              go_roundw
              case rel => exact ⟨R, more, rfl, HPF.out.inv, HWF.out, HXF.out, fun e => by subst e; exact HSL.out _ _ HPF.out⟩
              case measure =>
                rw [HSW.out, HSUM.out]
                have h1 := HPF.out.le
                have h2 := HPF.out.lt
                cases more
                · simp; omega
                · have := h2 rfl; simp; omega
end Go.Proofs.YtjldokhomohdbaaDoor
