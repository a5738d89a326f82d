/- almagestref7: Then. -/
import Derived.Test.YtjldokhomohdbaaDoorWvj
import Derived.Deep.MidRow
namespace Go.Proofs.YtjldokhomohdbaaDoor
open Go.RowKit Go.Maps

/-- the page's table as cells -/
def tabCs : List Value := (List.range 196).map fun i => .int .i64 (tabN i : Int)
theorem tabCs_len : tabCs.length = 196 := by simp [tabCs]
theorem tabCs_at {r q : Nat} (hr : r < 13) (hq : q < 13) : tabCs[(r + 1) * 14 + (q + 1)]? = some (.int .i64 (thruN r q : Int)) := by
  unfold tabCs
  rw [List.getElem?_map, List.getElem?_range (by omega), ← tab_thru hr hq]
  rfl
abbrev tabV : Value := .agg tabCs.toArray

/-- a block of the table's cells -/
def BlkT (w : World) (g : Nat) (cs : List Value) : Prop := w.heap[g]? = some (.cells cs.toArray 39 (0, 0))
theorem BlkT.cell {w : World} {g : Nat} {cs : List Value} (h : BlkT w g cs) (o : Nat) : w.cell? ⟨g, o, none⟩ = cs[o]? := by
  unfold BlkT at h
  simp [World.cell?, h]
theorem BlkT.frozen {w : World} {g : Nat} {cs : List Value} (h : BlkT w g cs) (o : Nat) : w.frozen? ⟨g, o, none⟩ = false := by
  unfold BlkT at h
  simp [World.frozen?, h]
theorem BlkT.set {w : World} {g : Nat} {cs : List Value} (h : BlkT w g cs) (o : Nat) (v : Value) : BlkT (w.setCell ⟨g, o, none⟩ v) g (cs.set o v) := by
  unfold BlkT at *
  simp [World.setCell, Array.getElem?_modify, h]
theorem BlkT.ext {w w' : World} {g : Nat} {cs : List Value} (h : BlkT w g cs) (k : Ext w w') : BlkT w' g cs := by
  unfold BlkT at *
  rw [k.block g (by by_cases e : g < w.heap.size; · exact e
                    · rw [Array.getElem?_eq_none (by omega)] at h; cases h)]
  exact h
theorem BlkT.lt {w : World} {g : Nat} {cs : List Value} (h : BlkT w g cs) : g < w.heap.size := by
  unfold BlkT at h
  by_cases e : g < w.heap.size
  · exact e
  · rw [Array.getElem?_eq_none (by omega)] at h; cases h
theorem BlkT.range {w : World} {g : Nat} {cs : List Value} (h : BlkT w g cs) : w.rangeAt g 0 cs := fun j v hv => by rw [Nat.zero_add, h.cell, hv]
theorem BlkT.there {w : World} {g : Nat} {cs : List Value} (h : BlkT w g cs) : w.there g 0 cs.length := fun j hj => by
  rw [Nat.zero_add, h.cell, h.frozen, List.getElem?_eq_getElem hj]; exact ⟨rfl, rfl⟩
theorem BlkT.made (w : World) (cs : List Value) : BlkT (w.alloc (.cells cs.toArray 39)) w.heap.size cs := heap_alloc_new w _
theorem infoTab : (Tryd.prog.info? 39).map (·.size) = some 196 := by kernel_rfl

theorem bitsI (s k : Nat) (hs : s < 8192) : (bits .and .i64 ((s : Int) / 2 ^ k) 1 == 1) = s.testBit k := shr_bit hs

set_option maxRecDepth 100000 in
set_option maxHeartbeats 4000000 in
theorem rThen_any (s t : Nat) (hs : s < 8192) (ht : t < 8192) (w : World) :
    Calls Tryd.prog 19 #[tabV, .int .i64 (s : Int), .int .i64 (t : Int)] w fun e w' => e = .returned (.int .i64 (thn s t : Int)) ∧ Ext w w' := by
  obtain ⟨W0, hW0⟩ : ∃ W0, W0 = w.alloc (.cells tabCs.toArray 39) := ⟨_, rfl⟩
  have hx0 : Ext w W0 := by rw [hW0]; exact (Ext.refl w).alloc _
  have hB : BlkT W0 w.heap.size tabCs := by rw [hW0]; exact BlkT.made w _
  have HW := Lib.hid hW0
  have HT : Hid (thn s t = orUp (fun i => orUp (thruN i) t 13) s 13) := Lib.hid rfl
  clear hW0
  generalize thn s t = R at HT ⊢
  go_enter Tryd.func19, Tryd.ntmps19
  go_upto_region 1 with (fail)
  rw [← HW.out]
  obtain ⟨g, hg⟩ : ∃ g, g = w.heap.size := ⟨_, rfl⟩
  rw [← hg] at hB
  rw [← hg]
  clear hg HW
  go_wp2_with fail
  go_loopw [7, 8] (fun x i wr => ∃ r : Nat, r ≤ 13 ∧ i = .int .i64 ((r : Int) + 1) ∧ x = .int .i64 (orUp (fun i => orUp (thruN i) t 13) s r : Int) ∧ wr = W0) (fun _ i _ => 14 - (intOf i).toNat)
  case atStart => exact ⟨0, by omega, rfl, rfl, rfl⟩
  case round =>
    obtain ⟨r, hr, rfl, rfl, hwr⟩ := hrel
    by_cases hlt : r < 13
    · have hle : (r : Int) + 1 ≤ 13 := by omega
      have hB2 : BlkT wr g tabCs := by rw [hwr]; exact hB
      have HWR := Lib.hid hwr
      have HN : Hid (orUp (fun i => orUp (thruN i) t 13) s (r + 1) = orUp (fun i => orUp (thruN i) t 13) s r ||| if s.testBit r then orUp (thruN r) t 13 else 0) := Lib.hid rfl
      have HX8 : Hid (orUp (fun i => orUp (thruN i) t 13) s r < 8192) := Lib.hid (orUp_lt (fun _ => orUp_lt (fun _ => thruN_lt _ _) _) _)
      have HS := Lib.hid (bitsI s r hs)
      generalize orUp (fun i => orUp (thruN i) t 13) s r = X at HN HX8 ⊢
      clear hwr
      obtain ⟨wo, hwo⟩ : ∃ wo, wo = wr := ⟨_, rfl⟩
      rw [← hwo] at hB2 HWR
      rw [← hwo]
      clear hwo
      go_wp2_with fail
      go_loopw [7, 9] (fun x i wr => ∃ q : Nat, q ≤ 13 ∧ i = .int .i64 ((q : Int) + 1) ∧ x = .int .i64 ((X ||| if s.testBit r then orUp (thruN r) t q else 0 : Nat) : Int) ∧ wr = wo) (fun _ i _ => 14 - (intOf i).toNat)
      case atStart => exact ⟨0, by omega, rfl, by simp [orUp], rfl⟩
      case round =>
        obtain ⟨q, hq, rfl, rfl, hwj⟩ := hrel
        by_cases hlq : q < 13
        · have hle2 : (q : Int) + 1 ≤ 13 := by omega
          have hB3 : BlkT wr g tabCs := by rw [hwj]; exact hB2
          have HWJ := Lib.hid hwj
          have HQ := Lib.hid (bitsI t q ht)
          clear hwj
          cases h1 : s.testBit r with
          | true =>
            have HS1 : (bits .and .i64 ((s : Int) / 2 ^ r) 1 == 1) = true := HS.out.trans h1
            have HM : Hid (orUp (thruN r) t (q + 1) = orUp (thruN r) t q ||| if t.testBit q then thruN r q else 0) := Lib.hid rfl
            have HO := Lib.hid (orUp_lt (f := thruN r) (s := t) (fun _ => thruN_lt _ _) q)
            cases h2 : t.testBit q with
            | true =>
              have HS2 : (bits .and .i64 ((t : Int) / 2 ^ q) 1 == 1) = true := HQ.out.trans h2
              have hc := hB3.cell ((r + 1) * 14 + (q + 1))
              rw [tabCs_at hlt hlq] at hc
              rw [h2] at HM
              have HOR := Lib.hid (or64 (X ||| orUp (thruN r) t q) (thruN r q) (by have := or_lt HX8.out HO.out; omega) (by have := thruN_lt r q; omega))
              have HF : Hid (((X ||| orUp (thruN r) t q) ||| thruN r q) = X ||| orUp (thruN r) t (q + 1)) := Lib.hid (by rw [HM.out, Nat.or_assoc]; rfl)
              rw [HF.out] at HOR
              have hX : (X ||| if true = true then orUp (thruN r) t q else 0) = X ||| orUp (thruN r) t q := rfl
              rw [hX]
              generalize thruN r q = V at hc HM HOR
              generalize X ||| orUp (thruN r) t q = Z at HOR ⊢
              clear hX HF HM HO h2
              go_wp2_with fail
              go_roundw
              case rel => exact ⟨q + 1, by omega, by go_num, by first | (rw [HOR.out]; done) | (rw [HOR.out]; rfl), by rw [HWJ.out]⟩
              case measure => simp [intOf]; omega
            | false =>
              have HS2 : (bits .and .i64 ((t : Int) / 2 ^ q) 1 == 1) = false := HQ.out.trans h2
              rw [h2] at HM
              have HM2 : Hid (orUp (thruN r) t (q + 1) = orUp (thruN r) t q) := Lib.hid (by rw [HM.out]; exact Nat.or_zero _)
              clear HM HO h2
              go_wp2_with fail
              go_roundw
              case rel => exact ⟨q + 1, by omega, by go_num, by first | (rw [HM2.out]; done) | (rw [HM2.out]; rfl), by rw [HWJ.out]⟩
              case measure => simp [intOf]; omega
          | false =>
            have HS1 : (bits .and .i64 ((s : Int) / 2 ^ r) 1 == 1) = false := HS.out.trans h1
            go_wp2_with fail
            go_roundw
            case rel => exact ⟨q + 1, by omega, by go_num, by rfl, by rw [HWJ.out]⟩
            case measure => simp [intOf]; omega
        · have hge : ¬ ((q : Int) + 1 ≤ 13) := by omega
          have HWJ := Lib.hid hwj
          have HQ13 : Hid (q = 13) := Lib.hid (by omega)
          clear hwj
          go_wp2_with fail
          go_roundw
          case rel => exact ⟨r + 1, by omega, by go_num, by rw [HN.out, HQ13.out], by rw [HWJ.out, HWR.out]⟩
          case measure => simp [intOf]; omega
    · have hge : ¬ ((r : Int) + 1 ≤ 13) := by omega
      have HWR := Lib.hid hwr
      clear hwr
      go_wp2_with fail
      go_ret
      obtain rfl : r = 13 := by omega
      exact ⟨by rw [HT.out]; rfl, by rw [HWR.out]; exact hx0⟩
end Go.Proofs.YtjldokhomohdbaaDoor
