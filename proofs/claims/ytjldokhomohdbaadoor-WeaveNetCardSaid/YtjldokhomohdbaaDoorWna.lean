/- weave.Net's parts: at, left. -/
import Derived.Test.YtjldokhomohdbaaDoorWvs
namespace Go.Proofs.YtjldokhomohdbaaDoor
open Go.RowKit Go.Maps

/-- a block known whole -/
def BlkU (w : World) (g : Nat) (t : TypeId) (cs : List Value) : Prop := w.heap[g]? = some (.cells cs.toArray t (0, 0))
section
variable {w : World} {g : Nat} {t : TypeId} {cs : List Value}
theorem BlkU.cell (h : BlkU w g t cs) (o : Nat) : w.cell? ⟨g, o, none⟩ = cs[o]? := by
  unfold BlkU at h
  simp [World.cell?, h]
theorem BlkU.frozen (h : BlkU w g t cs) (o : Nat) : w.frozen? ⟨g, o, none⟩ = false := by
  unfold BlkU at h
  simp [World.frozen?, h]
theorem BlkU.set (h : BlkU w g t cs) (o : Nat) (v : Value) : BlkU (w.setCell ⟨g, o, none⟩ v) g t (cs.set o v) := by
  unfold BlkU at *
  simp [World.setCell, Array.getElem?_modify, h]
theorem BlkU.lt (h : BlkU w g t cs) : g < w.heap.size := by
  unfold BlkU at h
  by_cases e : g < w.heap.size
  · exact e
  · rw [Array.getElem?_eq_none (by omega)] at h; cases h
theorem BlkU.keep {w' : World} (h : BlkU w g t cs) (k : w'.heap[g]? = w.heap[g]?) : BlkU w' g t cs := by unfold BlkU at *; rw [k]; exact h
theorem BlkU.ext {w' : World} (h : BlkU w g t cs) (k : Ext w w') : BlkU w' g t cs := h.keep (k.block g h.lt)
theorem BlkU.far (h : BlkU w g t cs) {p : Addr} (v : Value) (hne : g ≠ p.block) : BlkU (w.setCell p v) g t cs := (Below.heap_setCell _ _ _ _ hne).trans h
theorem BlkU.made (w : World) (t : TypeId) (cs : List Value) : BlkU (w.alloc (.cells cs.toArray t)) w.heap.size t cs := heap_alloc_new w _
end

/-- sets as cells -/
def u16s (R : List Nat) : List Value := R.map fun (x : Nat) => .int .u16 (x : Int)
theorem u16s_at {R : List Nat} {i : Nat} (h : i < R.length) : (u16s R)[i]? = some (.int .u16 (R.getD i 0 : Int)) := by
  unfold u16s
  rw [List.getElem?_map, List.getElem?_eq_getElem h, List.getD_eq_getElem?_getD, List.getElem?_eq_getElem h]
  rfl
theorem u16s_set (R : List Nat) (i v : Nat) : (u16s R).set i (.int .u16 (v : Int)) = u16s (R.set i v) := by unfold u16s; rw [List.map_set]
abbrev netV (N g M b : Nat) : Value := .agg #[.int .i64 (N : Int), .slice (some ⟨g, 0, none⟩) M M, .map (some b)]

theorem mul_wrap {i N : Nat} (hi : i < N) (hN : N ≤ 5) : RowKit.wrap64 ((i : Int) * (N : Int)) = ((i * N : Nat) : Int) := by
  have h : i * N ≤ 5 * 5 := Nat.mul_le_mul (by omega) hN
  have e : (i : Int) * (N : Int) = ((i * N : Nat) : Int) := by rw [Int.natCast_mul]
  rw [e]
  unfold RowKit.wrap64
  omega
theorem pos_lt {i j N : Nat} (hi : i < N) (hj : j < N) : i * N + j < N * N := by
  have : (i + 1) * N ≤ N * N := Nat.mul_le_mul_right N hi
  rw [Nat.add_mul] at this
  omega

set_option maxHeartbeats 1000000 in
theorem at_any (N g b i j : Nat) (R : List Nat) (w : World) (hN : N ≤ 5) (hi : i < N) (hj : j < N) (hl : R.length = N * N) (hB : BlkU w g 55 (u16s R)) :
    Calls Tryd.prog 50 #[netV N g (N * N) b, .int .i64 (i : Int), .int .i64 (j : Int)] w fun e w' => e = .returned (.int .u16 (nt N R i j : Int)) ∧ Ext w w' := by
  have hm := mul_wrap hi hN
  have hp := pos_lt hi hj
  have h25 : N * N ≤ 5 * 5 := Nat.mul_le_mul hN hN
  have hB0 := hB.ext ((Ext.refl w).alloc (.cells #[.int .i64 (N : Int), .slice (some ⟨g, 0, none⟩) (N * N) (N * N), .map (some b)] 69))
  have hc := hB0.cell (i * N + j)
  rw [u16s_at (by omega)] at hc
  have HX : Hid (nt N R i j = R.getD (i * N + j) 0) := Lib.hid rfl
  generalize R.getD (i * N + j) 0 = x at hc HX
  generalize nt N R i j = y at HX ⊢
  obtain ⟨p, hpe⟩ : ∃ p, p = i * N := ⟨_, rfl⟩
  obtain ⟨M, hM⟩ : ∃ M, M = N * N := ⟨_, rfl⟩
  rw [← hpe] at hm hc hp
  rw [← hM] at hp h25 hc
  rw [← hM]
  have s0 : (0 : Int) ≤ (p : Int) + (j : Int) := by omega
  have s1 : (p : Int) + (j : Int) < (M : Int) := by omega
  have hx0 := (Ext.refl w).alloc (.cells #[.int .i64 (N : Int), .slice (some ⟨g, 0, none⟩) M M, .map (some b)] 69)
  clear hB hB0 hpe hM hi hj hN hl
  go_enter Tryd.func50, Tryd.ntmps50
  go_wp2_with fail
  go_ret
  exact ⟨by rw [HX.out]; rfl, hx0⟩

theorem cut_lt {N : Nat} {R : List Nat} {i j s : Nat} (h : s < 8192) : ∀ k, cutU N R i j s k < 8192
  | 0 => h
  | k + 1 => and_lt (cut_lt h k)
theorem only7 (w : World) : Calls Tryd.prog 28 #[.int .i64 7] w fun e w' => e = .returned (.int .u16 64) ∧ w' = w := only_any 6 (by decide) w

set_option maxRecDepth 100000 in
set_option maxHeartbeats 4000000 in
theorem left_any (N g b i j : Nat) (R : List Nat) (w : World) (hN : N ≤ 5) (hi : i < N) (hj : j < N) (hl : R.length = N * N) (h8 : ∀ x, R.getD x 0 < 8192) (hB : BlkU w g 55 (u16s R)) (hT : TabAt w b 169) :
    Calls Tryd.prog 45 #[netV N g (N * N) b, .int .i64 (i : Int), .int .i64 (j : Int)] w fun e w' => e = .returned (.int .u16 (leftN N R i j : Int)) ∧ Ext w w' := by
  have HL : Hid (leftN N R i j = cutU N R i j (if i = j then (nt N R i j &&& turnS (nt N R j i)) &&& 64 else nt N R i j &&& turnS (nt N R j i)) N) := Lib.hid rfl
  have KA := Lib.hid (fun u (k : Ext w u) => at_any N g b i j R u hN hi hj hl (hB.ext k))
  have KB := Lib.hid (fun u (k : Ext w u) => at_any N g b j i R u hN hj hi hl (hB.ext k))
  have KC := Lib.hid (fun q (hq : q < N) u (k : Ext w u) => at_any N g b i q R u hN hi hq hl (hB.ext k))
  have KD := Lib.hid (fun q (hq : q < N) u (k : Ext w u) => at_any N g b q j R u hN hq hj hl (hB.ext k))
  have KO := Lib.hid (fun s t hs ht u (k : Ext w u) => of_any b s t hs ht u (hT.ext k))
  have n1 : nt N R i j < 8192 := h8 _
  have n2 : nt N R j i < 8192 := h8 _
  have n3 : Hid (∀ p q, nt N R p q < 8192) := Lib.hid fun p q => h8 _
  have KT := Lib.hid (fun u => sturned_any (nt N R j i) n2 u)
  have HA := Lib.hid (and16 (nt N R i j) (turnS (nt N R j i)) (by omega) (by have := turnS_lt (nt N R j i); omega))
  have h8a : nt N R i j &&& turnS (nt N R j i) < 8192 := and_lt n1
  have HA2 := Lib.hid (and16 (nt N R i j &&& turnS (nt N R j i)) 64 (by omega) (by omega))
  have hij : ((i : Int) == (j : Int)) = decide (i = j) := by rw [Bool.eq_iff_iff, beq_iff_eq, decide_eq_true_iff]; omega
  have hN5 : (N : Int) ≤ 5 := by omega
  generalize leftN N R i j = RES at HL ⊢
  obtain ⟨M, hM⟩ : ∃ M, M = N * N := ⟨_, rfl⟩
  rw [← hM] at KA KB KC KD
  rw [← hM]
  have hx0 := (Ext.refl w).alloc (.cells #[.int .i64 (N : Int), .slice (some ⟨g, 0, none⟩) M M, .map (some b)] 69)
  have q0 : (w.alloc (.cells #[.int .i64 (N : Int), .slice (some ⟨g, 0, none⟩) M M, .map (some b)] 69)).cell? ⟨w.heap.size, 0, none⟩ = some (.int .i64 (N : Int)) := by go_simp
  have q1 : (w.alloc (.cells #[.int .i64 (N : Int), .slice (some ⟨g, 0, none⟩) M M, .map (some b)] 69)).cell? ⟨w.heap.size, 1, none⟩ = some (.slice (some ⟨g, 0, none⟩) M M) := by go_simp
  have q2 : (w.alloc (.cells #[.int .i64 (N : Int), .slice (some ⟨g, 0, none⟩) M M, .map (some b)] 69)).cell? ⟨w.heap.size, 2, none⟩ = some (.map (some b)) := by go_simp
  clear hB hT hM hl h8 hi hj
  go_enter Tryd.func45, Tryd.ntmps45
  go_upto_region 1 with (fail)
  generalize (w.alloc (.cells #[.int .i64 (N : Int), .slice (some ⟨g, 0, none⟩) M M, .map (some b)] 69)) = W0 at *
  obtain ⟨gb, hgb⟩ : ∃ gb, gb = w.heap.size := ⟨_, rfl⟩
  rw [← hgb] at q0 q1 q2
  rw [← hgb]
  clear hgb
  have HX0 := Lib.hid hx0
  have d0 : ∀ p : ExtOf W0, _ := ext_cell q0
  have d1 : ∀ p : ExtOf W0, _ := ext_cell q1
  have d2 : ∀ p : ExtOf W0, _ := ext_cell q2
  have KA' : Hid (∀ p : ExtOf W0, Calls Tryd.prog 50 #[netV N g M b, .int .i64 (i : Int), .int .i64 (j : Int)] p.to fun e w' => e = .returned (.int .u16 (nt N R i j : Int)) ∧ Ext p.to w') := Lib.hid fun p => KA.out _ (HX0.out.trans p.is)
  have KB' : Hid (∀ p : ExtOf W0, Calls Tryd.prog 50 #[netV N g M b, .int .i64 (j : Int), .int .i64 (i : Int)] p.to fun e w' => e = .returned (.int .u16 (nt N R j i : Int)) ∧ Ext p.to w') := Lib.hid fun p => KB.out _ (HX0.out.trans p.is)
  clear KA KB q0 q1 q2 hx0 n1 n2
  generalize (turnS (nt N R j i) : Nat) = TT at *
  refine wp_region_ext (by kernel_rfl) (by kernel_rfl) ?_
  repeat (go_big_quiet_step (first | (go_at_call 50; with_reducible exact of_ext (KA'.out _)) | (go_at_call 50; with_reducible exact of_ext (KB'.out _)) | (go_at_call 31; with_reducible exact of_ext (KT.out _))))
  refine wpQuiet_nil ?_
  refine ext_all ?_
  intro w1 hx1
  have hx01 := HX0.out.trans hx1
  have c0 := d0 ⟨w1, hx1⟩
  rw [HA.out]
  by_cases hc : i = j
  · rw [decide_eq_true hc] at hij
    rw [if_pos hc] at HL
    have K7 := Lib.hid (fun u => only7 u)
    have hs8 : (nt N R i j &&& TT) &&& 64 < 8192 := and_lt h8a
    clear HA h8a hc hx01 KT KA' KB'
    go_wp2_with fail
    refine (K7.out _).mono ?_
    rintro e w2 ⟨rfl, hw2⟩
    rw [hw2]
    clear hw2 K7
    have HA2' : bits .and .u16 ((nt N R i j &&& TT : Nat) : Int) 64 = (((nt N R i j &&& TT) &&& 64 : Nat) : Int) := HA2.out
    go_wp2_with fail
    clear HA2 HA2'
    clear hij
    have hS8 := Lib.hid hs8
    clear hs8
    generalize hS0 : ((nt N R i j &&& TT) &&& 64) = S0 at HL hS8 ⊢
    clear hS0
    go_loopw [7, 27] (fun x r wr => ∃ k : Nat, k ≤ N ∧ r = .int .i64 k ∧ x = .int .u16 (cutU N R i j S0 k : Int) ∧ Ext W0 wr) (fun _ r _ => N - (intOf r).toNat)
    case atStart => exact ⟨0, Nat.zero_le _, rfl, rfl, hx1⟩
    case round =>
      obtain ⟨k, hk, rfl, rfl, hx⟩ := hrel
      by_cases hlt : k < N
      · have hki : (k : Int) < (N : Int) := by omega
        have e0 : ∀ p : ExtOf wr, p.to.cell? _ = _ := ext_cell (d0 ⟨wr, hx⟩)
        have e1 : ∀ p : ExtOf wr, p.to.cell? _ = _ := ext_cell (d1 ⟨wr, hx⟩)
        have e2 : ∀ p : ExtOf wr, p.to.cell? _ = _ := ext_cell (d2 ⟨wr, hx⟩)
        have HXW := Lib.hid (HX0.out.trans hx)
        have KC' : Hid (∀ p : ExtOf wr, Calls Tryd.prog 50 #[netV N g M b, .int .i64 (i : Int), .int .i64 (k : Int)] p.to fun e w' => e = .returned (.int .u16 (nt N R i k : Int)) ∧ Ext p.to w') := Lib.hid fun p => KC.out k hlt _ (HXW.out.trans p.is)
        have KD' : Hid (∀ p : ExtOf wr, Calls Tryd.prog 50 #[netV N g M b, .int .i64 (k : Int), .int .i64 (j : Int)] p.to fun e w' => e = .returned (.int .u16 (nt N R k j : Int)) ∧ Ext p.to w') := Lib.hid fun p => KD.out k hlt _ (HXW.out.trans p.is)
        have KO' : Hid (∀ p : ExtOf wr, Calls Tryd.prog 36 #[.map (some b), .int .u16 (nt N R i k : Int), .int .u16 (nt N R k j : Int)] p.to fun e w' => e = .returned (.int .u16 (thn (nt N R i k) (nt N R k j) : Int)) ∧ Ext p.to w') := Lib.hid fun p => KO.out _ _ (n3.out _ _) (n3.out _ _) _ (HXW.out.trans p.is)
        have HN : Hid (cutU N R i j S0 (k + 1) = cutU N R i j S0 k &&& thn (nt N R i k) (nt N R k j)) := Lib.hid rfl
        have HA3 := Lib.hid (and16 (cutU N R i j S0 k) (thn (nt N R i k) (nt N R k j)) (by have := cut_lt (N := N) (R := R) (i := i) (j := j) hS8.out k; omega) (by have := thn_lt (nt N R i k) (nt N R k j); omega))
        generalize thn (nt N R i k) (nt N R k j) = TH at KO' HN HA3
        generalize cutU N R i j S0 k = CU at HN HA3 ⊢
        go_upto_region 7 with (fail)
        refine wp_region_ext (by kernel_rfl) (by kernel_rfl) ?_
        repeat (go_big_quiet_step (first | (go_at_call 50; with_reducible exact of_ext (KC'.out _)) | (go_at_call 50; with_reducible exact of_ext (KD'.out _)) | (go_at_call 36; with_reducible exact of_ext (KO'.out _))))
        refine wpQuiet_nil ?_
        refine ext_all ?_
        intro w3 hx3
        have HX3 := Lib.hid (hx.trans hx3)
        clear e0 e1 e2 hx3 KC' KD' KO'
        go_wp2_with fail
        go_roundw
        case rel => exact ⟨k + 1, by omega, by go_num, by rw [HN.out, HA3.out], HX3.out⟩
        case measure => simp [intOf]; omega
      · have hki : ¬ ((k : Int) < (N : Int)) := by omega
        go_wp2_with fail
        go_ret
        obtain rfl : k = N := by omega
        exact ⟨by rw [HL.out]; rfl, HX0.out.trans hx⟩
  · rw [decide_eq_false hc] at hij
    rw [if_neg hc] at HL
    have hs8 : nt N R i j &&& TT < 8192 := h8a
    clear HA HA2 h8a hc hx01 KT KA' KB'
    have hS8 := Lib.hid hs8
    clear hs8
    generalize hS0 : (nt N R i j &&& TT) = S0 at HL hS8 ⊢
    clear hS0
    go_wp2_with fail
    go_loopw [7, 27] (fun x r wr => ∃ k : Nat, k ≤ N ∧ r = .int .i64 k ∧ x = .int .u16 (cutU N R i j S0 k : Int) ∧ Ext W0 wr) (fun _ r _ => N - (intOf r).toNat)
    case atStart => exact ⟨0, Nat.zero_le _, rfl, rfl, hx1⟩
    case round =>
      obtain ⟨k, hk, rfl, rfl, hx⟩ := hrel
      by_cases hlt : k < N
      · have hki : (k : Int) < (N : Int) := by omega
        have e0 : ∀ p : ExtOf wr, p.to.cell? _ = _ := ext_cell (d0 ⟨wr, hx⟩)
        have e1 : ∀ p : ExtOf wr, p.to.cell? _ = _ := ext_cell (d1 ⟨wr, hx⟩)
        have e2 : ∀ p : ExtOf wr, p.to.cell? _ = _ := ext_cell (d2 ⟨wr, hx⟩)
        have HXW := Lib.hid (HX0.out.trans hx)
        have KC' : Hid (∀ p : ExtOf wr, Calls Tryd.prog 50 #[netV N g M b, .int .i64 (i : Int), .int .i64 (k : Int)] p.to fun e w' => e = .returned (.int .u16 (nt N R i k : Int)) ∧ Ext p.to w') := Lib.hid fun p => KC.out k hlt _ (HXW.out.trans p.is)
        have KD' : Hid (∀ p : ExtOf wr, Calls Tryd.prog 50 #[netV N g M b, .int .i64 (k : Int), .int .i64 (j : Int)] p.to fun e w' => e = .returned (.int .u16 (nt N R k j : Int)) ∧ Ext p.to w') := Lib.hid fun p => KD.out k hlt _ (HXW.out.trans p.is)
        have KO' : Hid (∀ p : ExtOf wr, Calls Tryd.prog 36 #[.map (some b), .int .u16 (nt N R i k : Int), .int .u16 (nt N R k j : Int)] p.to fun e w' => e = .returned (.int .u16 (thn (nt N R i k) (nt N R k j) : Int)) ∧ Ext p.to w') := Lib.hid fun p => KO.out _ _ (n3.out _ _) (n3.out _ _) _ (HXW.out.trans p.is)
        have HN : Hid (cutU N R i j S0 (k + 1) = cutU N R i j S0 k &&& thn (nt N R i k) (nt N R k j)) := Lib.hid rfl
        have HA3 := Lib.hid (and16 (cutU N R i j S0 k) (thn (nt N R i k) (nt N R k j)) (by have := cut_lt (N := N) (R := R) (i := i) (j := j) hS8.out k; omega) (by have := thn_lt (nt N R i k) (nt N R k j); omega))
        generalize thn (nt N R i k) (nt N R k j) = TH at KO' HN HA3
        generalize cutU N R i j S0 k = CU at HN HA3 ⊢
        go_upto_region 7 with (fail)
        refine wp_region_ext (by kernel_rfl) (by kernel_rfl) ?_
        repeat (go_big_quiet_step (first | (go_at_call 50; with_reducible exact of_ext (KC'.out _)) | (go_at_call 50; with_reducible exact of_ext (KD'.out _)) | (go_at_call 36; with_reducible exact of_ext (KO'.out _))))
        refine wpQuiet_nil ?_
        refine ext_all ?_
        intro w3 hx3
        have HX3 := Lib.hid (hx.trans hx3)
        clear e0 e1 e2 hx3 KC' KD' KO'
        go_wp2_with fail
        go_roundw
        case rel => exact ⟨k + 1, by omega, by go_num, by rw [HN.out, HA3.out], HX3.out⟩
        case measure => simp [intOf]; omega
      · have hki : ¬ ((k : Int) < (N : Int)) := by omega
        go_wp2_with fail
        go_ret
        obtain rfl : k = N := by omega
        exact ⟨by rw [HL.out]; rfl, HX0.out.trans hx⟩
end Go.Proofs.YtjldokhomohdbaaDoor
