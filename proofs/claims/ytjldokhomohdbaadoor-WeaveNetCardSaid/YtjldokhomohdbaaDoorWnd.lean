/- weave.Net: its sets as numbers, what may be, and the whole. -/
import Derived.Test.YtjldokhomohdbaaDoorWnc
namespace Go.Proofs.YtjldokhomohdbaaDoor
open Go.RowKit Go.Maps

abbrev toI (L : List Nat) : List Int := L.map fun (x : Nat) => (x : Int)
theorem toI_len (L : List Nat) : (toI L).length = L.length := List.length_map _
theorem toI_at {L : List Nat} {i : Nat} (h : i < L.length) : (intCells (toI L))[i]? = some (.int .i64 (L.getD i 0 : Int)) := by
  unfold intCells toI
  rw [List.getElem?_map, List.getElem?_map, List.getElem?_eq_getElem h, List.getD_eq_getElem?_getD, List.getElem?_eq_getElem h]
  rfl
theorem toI_set (L : List Nat) (i v : Nat) : (intCells (toI L)).set i (.int .i64 (v : Int)) = intCells (toI (L.set i v)) := by
  unfold intCells toI
  rw [List.map_set, List.map_set]
theorem BlkU.owns {w : World} {g base M : Nat} {cs : List Value} (h : BlkU w g 3 cs) (hb : base ≤ g) (hl : cs.length = M) (hm : M ≤ 1000) : w.ownsRow base 3 1 (.slice (some ⟨g, 0, none⟩) M M) M cs :=
  ⟨by omega, .inr ⟨g, M, cs.toArray, rfl, hb, h, Nat.le_refl _, by unfold maxLen; omega, by simp [hl], by rw [List.take_of_length_le (by simp [hl])]⟩⟩

set_option maxRecDepth 100000 in
set_option maxHeartbeats 4000000 in
theorem netList_any (N g b : Nat) (R : List Nat) (w : World) (hN : N ≤ 5) (hl : R.length = N * N) (h8 : ∀ x, R.getD x 0 < 8192) (hB : BlkU w g 55 (u16s R)) :
    Calls Tryd.prog 40 #[netV N g (N * N) b] w fun e w' => ∃ v, e = .returned v ∧ IntsOut w (toI R) v w' := by
  obtain ⟨i0, hi0, hz0, hz1, hz2⟩ := info_parts infoInt
  have h25 : N * N ≤ 5 * 5 := Nat.mul_le_mul hN hN
  obtain ⟨M, hM⟩ : ∃ M, M = N * N := ⟨_, rfl⟩
  rw [← hM] at hl h25
  rw [← hM]
  clear hM
  have hmk : ∀ u : World, (Instr.makeSlice 22 (.int .i64 (M : Int)) (.int .i64 (M : Int))).run Tryd.prog u =
      .ok (.slice (some ⟨u.heap.size, 0, none⟩) M M) (u.alloc (.cells (intCells (toI (List.replicate M 0))).toArray 3)) := fun u => by
    have := run_make (P := Tryd.prog) u 22 3 i0 (.int .i64 0) Tryd.underlying22 hi0 hz0 .i64 .i64 M M (by omega) (by omega) (by rw [hz2]; omega) (by omega)
    rw [hz1] at this
    have e := toList_madeCells_one (.int .i64 0) M
    have e2 : intCells (toI (List.replicate M 0)) = List.replicate M (.int .i64 0) := by unfold intCells toI; rw [List.map_replicate, List.map_replicate]; rfl
    rw [e2, ← e]
    simpa [Value.cells] using this
  obtain ⟨Z, hZ⟩ : ∃ Z, Z = intCells (toI (List.replicate M 0)) := ⟨_, rfl⟩
  rw [← hZ] at hmk
  have HZ := Lib.hid hZ
  clear hZ
  obtain ⟨W0, hW0⟩ : ∃ W0, W0 = w.alloc (.cells #[.int .i64 (N : Int), .slice (some ⟨g, 0, none⟩) M M, .map (some b)] 69) := ⟨_, rfl⟩
  have hx0 : Ext w W0 := by rw [hW0]; exact (Ext.refl w).alloc _
  have q1 : W0.cell? ⟨w.heap.size, 1, none⟩ = some (.slice (some ⟨g, 0, none⟩) M M) := by rw [hW0]; go_simp
  have hB0 := hB.ext hx0
  have HW := Lib.hid hW0
  clear hW0 hB
  go_enter Tryd.func40, Tryd.ntmps40
  go_upto_region 1 with (fail)
  rw [← HW.out]
  obtain ⟨gb, hgbe⟩ : ∃ gb, gb = w.heap.size := ⟨_, rfl⟩
  rw [← hgbe] at q1
  rw [← hgbe]
  clear HW hgbe
  have HX0 := Lib.hid hx0
  have hgl := hB0.lt
  go_upto_region 2 with (fail)
  have hB1 := hB0.ext ((Ext.refl W0).alloc (.cells Z.toArray 3))
  have q2 := ((Ext.refl W0).alloc (.cells Z.toArray 3)).cell q1
  have hQ : BlkU (W0.alloc (.cells Z.toArray 3)) W0.heap.size 3 (intCells (toI (fillN R M 0))) := by rw [fillN_zero, ← HZ.out]; exact BlkU.made _ _ _
  have hx1 := (Ext.refl W0).alloc (.cells Z.toArray 3)
  generalize W0.alloc (.cells Z.toArray 3) = W1 at *
  obtain ⟨q, hqe⟩ : ∃ q, q = W0.heap.size := ⟨_, rfl⟩
  rw [← hqe] at hQ
  rw [← hqe]
  have hgq : g ≠ q := by omega
  have HQ := Lib.hid hqe
  have HL := Lib.hid hl
  clear hqe hmk hl hB0 q1 hx0 hgl
  go_wp2_with fail
  go_loopw [13] (fun i wr => ∃ k : Nat, k ≤ M ∧ i = .int .i64 k ∧ BlkU wr q 3 (intCells (toI (fillN R M k))) ∧ BlkU wr g 55 (u16s R) ∧ Ext W0 wr) (fun i _ => M - (intOf i).toNat)
  case atStart => exact ⟨0, Nat.zero_le _, rfl, hQ, hB1, hx1⟩
  case round =>
    obtain ⟨k, hk, rfl, hQr, hBr, hxr⟩ := hrel
    by_cases hlt : k < M
    · have hki : (k : Int) < (M : Int) := by omega
      have hk0 : (0 : Int) ≤ (k : Int) := by omega
      have c0 := hBr.cell k
      rw [u16s_at (by rw [HL.out]; exact hlt)] at c0
      have t0 := hQr.cell k
      rw [toI_at (by rw [fillN_len HL.out hk]; exact hlt)] at t0
      have t1 := hQr.frozen k
      have hw := wrap64 (h8 k)
      have HP : Hid (BlkU (wr.setCell ⟨q, k, none⟩ (.int .i64 (R.getD k 0 : Int))) q 3 (intCells (toI (fillN R M (k + 1))))) := Lib.hid (by
        rw [← fillN_set HL.out hlt, ← toI_set]; exact hQr.set k _)
      have HB2 : Hid (BlkU (wr.setCell ⟨q, k, none⟩ (.int .i64 (R.getD k 0 : Int))) g 55 (u16s R)) := Lib.hid (hBr.far _ hgq)
      have HX2 : Hid (Ext W0 (wr.setCell ⟨q, k, none⟩ (.int .i64 (R.getD k 0 : Int)))) := Lib.hid (hxr.setCell (by rw [← HQ.out]; exact Nat.le_refl _) _)
      generalize R.getD k 0 = x at *
      generalize (fillN R M k).getD k 0 = y at *
      clear hQr hBr hxr hQ hB1 hx1
      go_wp2_with fail
      go_roundw
      case rel => exact ⟨k + 1, by omega, by go_num, HP.out, HB2.out, HX2.out⟩
      case measure => simp [intOf]; omega
    · have hki : ¬ ((k : Int) < (M : Int)) := by omega
      have hkM : k = M := by omega
      rw [hkM, fillN_full HL.out] at hQr
      have HO : Hid (IntsOut w (toI R) (.slice (some ⟨q, 0, none⟩) M M) wr) := Lib.hid (by
        refine ⟨?_, HX0.out.trans hxr⟩
        have := hQr.owns (base := w.heap.size) (M := M) (by have := HX0.out.size; have := HQ.out; omega) (by simp [intCells, HL.out]) (by omega)
        rw [toI_len, HL.out]
        exact this)
      clear hQr hBr hxr hQ hB1 hx1
      go_wp2_with fail
      go_ret
      exact ⟨_, rfl, HO.out⟩

/-- may a net be? -/
def netB (n : Int) (l : List Int) : Bool := decide (1 ≤ n) && decide (n ≤ 5) && decide ((l.length : Int) = n * n) && l.all stB
set_option maxHeartbeats 4000000 in
theorem netMay_any (n : Int) (l : List Int) (A : Option Addr) (c : Nat) (w : World) (hl : l.length ≤ 1000000) (hI : IntsAt w l A) :
    Calls Tryd.prog 37 #[.int .i64 n, .slice A l.length c] w fun e w' => e = .returned (.bool (netB n l)) ∧ w' = w := by
  have HB : Hid (netB n l = (decide (1 ≤ n) && decide (n ≤ 5) && decide ((l.length : Int) = n * n) && l.all stB)) := Lib.hid rfl
  generalize netB n l = RES at HB ⊢
  by_cases h1 : n < 1
  · have HR : Hid (RES = false) := Lib.hid (by rw [HB.out, decide_eq_false (by omega : ¬ 1 ≤ n)]; rfl)
    clear HB
    go_enter Tryd.func37, Tryd.ntmps37
    go_wp2_with fail
    go_ret
    exact ⟨ret_bool HR.out.symm, rfl⟩
  · have h1' : decide (n < 1) = false := decide_eq_false h1
    by_cases h2 : 5 < n
    · have HR : Hid (RES = false) := Lib.hid (by rw [HB.out, decide_eq_false (by omega : ¬ n ≤ 5), Bool.and_false]; rfl)
      clear HB
      go_enter Tryd.func37, Tryd.ntmps37
      go_wp2_with fail
      go_ret
      exact ⟨ret_bool HR.out.symm, rfl⟩
    · have h2' : decide (5 < n) = false := decide_eq_false h2
      obtain ⟨N, rfl⟩ : ∃ N : Nat, n = N := ⟨n.toNat, by omega⟩
      have hN : N ≤ 5 := by omega
      have hmul : RowKit.wrap64 ((N : Int) * (N : Int)) = ((N * N : Nat) : Int) := by
        have h : N * N ≤ 5 * 5 := Nat.mul_le_mul hN hN
        have e : (N : Int) * (N : Int) = ((N * N : Nat) : Int) := by rw [Int.natCast_mul]
        rw [e]; unfold RowKit.wrap64; omega
      rw [decide_eq_true (by omega : (1 : Int) ≤ (N : Int)), decide_eq_true (by omega : (N : Int) ≤ 5), Bool.true_and, Bool.true_and, show (N : Int) * (N : Int) = ((N * N : Nat) : Int) by rw [Int.natCast_mul]] at HB
      generalize N * N = M at hmul HB
      by_cases h3 : l.length = M
      · have h3' : ((l.length : Int) != (M : Int)) = false := by simp [h3]
        have HR : Hid (RES = (l.drop 0).all stB) := Lib.hid (by rw [HB.out, decide_eq_true (by omega)]; rfl)
        clear HB h3
        go_enter Tryd.func37, Tryd.ntmps37
        go_wp2_with fail
        go_loop [23] (fun i => ∃ k : Nat, k ≤ l.length ∧ i = .int .i64 k ∧ Hid (RES = (l.drop k).all stB)) (fun i => l.length - (intOf i).toNat)
        case atStart => exact ⟨0, Nat.zero_le _, rfl, HR⟩
        case round =>
          obtain ⟨k, hk, rfl, H⟩ := hrel
          by_cases hlt : k < l.length
          · have hki : (k : Int) < (l.length : Int) := by omega
            have hk0 : (0 : Int) ≤ (k : Int) := by omega
            obtain ⟨b, o, rfl, c0⟩ := hI k hlt
            have KS := Lib.hid (fun u => setMay_any l[k] u)
            have H2 : Hid (RES = (stB l[k] && (l.drop (k + 1)).all stB)) := Lib.hid (by rw [H.out, List.drop_eq_getElem_cons hlt, List.all_cons])
            generalize l[k] = x at *
            clear H HR
            cases hs : stB x with
            | true =>
              rw [hs] at KS H2
              rw [Bool.true_and] at H2
              go_wp2_with fail
              refine (KS.out _).mono ?_
              rintro e w1 ⟨rfl, rfl⟩
              go_wp2_with fail
              go_round
              case rel => exact ⟨k + 1, by omega, by go_num, H2⟩
              case measure => simp [intOf]; omega
            | false =>
              rw [hs] at KS H2
              rw [Bool.false_and] at H2
              go_wp2_with fail
              refine (KS.out _).mono ?_
              rintro e w1 ⟨rfl, rfl⟩
              go_wp2_with fail
              go_ret
              exact ⟨ret_bool H2.out.symm, rfl⟩
          · have hki : ¬ ((k : Int) < (l.length : Int)) := by omega
            have H3 : Hid (RES = true) := Lib.hid (by rw [H.out, List.drop_eq_nil_of_le (by omega)]; rfl)
            go_wp2_with fail
            go_ret
            exact ⟨ret_bool H3.out.symm, rfl⟩
      · have h3' : ((l.length : Int) != (M : Int)) = true := by simp; omega
        have HR : Hid (RES = false) := Lib.hid (by rw [HB.out, decide_eq_false (by omega)]; rfl)
        clear HB h3
        go_enter Tryd.func37, Tryd.ntmps37
        go_wp2_with fail
        go_ret
        exact ⟨ret_bool HR.out.symm, rfl⟩
end Go.Proofs.YtjldokhomohdbaaDoor
