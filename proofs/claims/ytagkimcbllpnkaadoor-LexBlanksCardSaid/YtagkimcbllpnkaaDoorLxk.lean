/- Package lex: marks as keys of a map; marks. -/
import Derived.Test.YtagkimcbllpnkaaDoorLxm
import Derived.DeepKeys4
import Derived.Maps.RangeWalk
import Derived.Maps.OwnSet
namespace Go.Proofs.YtagkimcbllpnkaaDoor
open Go.RowKit Go.Maps

theorem laidOutK : laidOutB Tryd.prog = true := by kernel_rfl
theorem lawMk : WideMaps.KeyLaw Tryd.prog 49 := deep_law_laid laidOutK (m := 4) (by omega) (of_decide_eq_true (by kernel_rfl)) (by kernel_rfl) (by kernel_rfl)
theorem keyedMk : Keyed Tryd.prog 49 := Keyed.of_law lawMk
theorem cellsMk : Tryd.prog.cellsOf 49 = 3 := by kernel_rfl
theorem cells2 : Tryd.prog.cellsOf 47 = 2 := by kernel_rfl
theorem cellsU8 : Tryd.prog.cellsOf 5 = 1 := by kernel_rfl
theorem keyTypeMk : Tryd.prog.keyType 49 = true := by kernel_rfl
theorem types3 : ∃ m, Tryd.prog.types.size = m + 3 := ⟨Tryd.prog.types.size - 3, by have : 3 ≤ Tryd.prog.types.size := of_decide_eq_true (by kernel_rfl); omega⟩
theorem wf8 {n : Int} (h0 : 0 ≤ n) (h1 : n ≤ 255) : (Lit.int .u8 n).wf = true := by
  have e1 : IntKind.u8.min = 0 := by decide
  have e2 : IntKind.u8.max = 255 := by decide
  simp only [Lit.wf, e1, e2, Bool.and_eq_true, decide_eq_true_eq]
  omega
theorem mkA_wf (l : List UInt8) : (Lit.int .u8 (mkA l)).wf = true := wf8 (Int.natCast_nonneg _) (by have := (l.getD 0 0).toNat_lt; unfold mkA; omega)
theorem mkB_wf (l : List UInt8) : (Lit.int .u8 (mkB l)).wf = true := wf8 (Int.natCast_nonneg _) (by have := (l.getD 1 0).toNat_lt; unfold mkB; omega)

/-- a mark's key, as a literal -/
def mkL (l : List UInt8) : Lit := .string (keyBytes [.int .u8 (l.length : Nat), .int .u8 (mkA l), .int .u8 (mkB l)])
theorem key_mk {l : List UInt8} (hl : l.length ≤ 2) : keyOf Tryd.prog 49 (mkV l) = some (mkL l) := by
  obtain ⟨m, hm⟩ := types3
  have w0 : (Lit.int .u8 ((l.length : Nat) : Int)).wf = true := wf8 (Int.natCast_nonneg _) (by omega)
  have wA := mkA_wf l
  have wB := mkB_wf l
  unfold keyOf
  simp only [Tryd.underlying49]
  rw [if_pos (by simp [mkV, keyTypeMk, Value.formed, Tryd.underlying49, cellsMk]), hm]
  simp [mkV, Program.keyLits, Tryd.underlying49, Tryd.underlying47, Tryd.underlying5, cellsMk, cells2, cellsU8, Value.cells, w0, wA, wB, show List.range 2 = [0, 1] from rfl, mkL]
theorem mkV_inj {l m : List UInt8} (hl : l.length ≤ 2) (hm : m.length ≤ 2) (h : mkV l = mkV m) : l = m := by
  unfold mkV mkA mkB at h
  simp only [Value.agg.injEq, Array.mk.injEq, List.cons.injEq, Value.int.injEq, true_and, and_true] at h
  obtain ⟨h0, h1, h2⟩ := h
  have e0 : l.length = m.length := by omega
  have e1 := UInt8.toNat_inj.1 (Int.ofNat.inj h1)
  have e2 := UInt8.toNat_inj.1 (Int.ofNat.inj h2)
  match l, m, hl, hm, e0, e1, e2 with
  | [], [], _, _, _, _, _ => rfl
  | [a], [b], _, _, _, e1, _ => simp only [List.getD_cons_zero] at e1; rw [e1]
  | [a, a'], [b, b'], _, _, _, e1, e2 => simp only [List.getD_cons_zero, List.getD_cons_succ] at e1 e2; rw [e1, e2]
theorem mkL_inj {l m : List UInt8} (hl : l.length ≤ 2) (hm : m.length ≤ 2) (h : mkL l = mkL m) : l = m := mkV_inj hl hm (lawMk.inj (key_mk hl) (h ▸ key_mk hm))

/-- block b is a map that has just these marks -/
def MkSet (w : World) (b : Nat) (L : List (List UInt8)) : Prop := ∃ D : DataW Unit, w.ownsMap Tryd.prog 49 unitElem b L.length D ∧ ∀ l, l.length ≤ 2 → (has D (mkL l) = true ↔ l ∈ L)
theorem MkSet.lt {w : World} {b : Nat} {L : List (List UInt8)} (h : MkSet w b L) : b < w.heap.size := by obtain ⟨D, h, _⟩ := h; exact h.lt
theorem MkSet.keep {w w' : World} {b : Nat} {L : List (List UInt8)} (h : MkSet w b L) (e : w'.heap[b]? = w.heap[b]?) : MkSet w' b L := by
  obtain ⟨D, ⟨es, clock, hb, F, hs, hD⟩, h2⟩ := h
  exact ⟨D, ⟨es, clock, e.trans hb, F, hs, hD⟩, h2⟩
theorem MkSet.ext {w w' : World} {b : Nat} {L : List (List UInt8)} (h : MkSet w b L) (k : Ext w w') : MkSet w' b L := h.keep (k.block b h.lt)
theorem MkSet.made (w : World) : MkSet (w.alloc (.map #[] 0)) w.heap.size [] := ⟨_, World.ownsMap_made w _ _ _, fun l _ => by simp [has]⟩
theorem MkSet.put {w : World} {b : Nat} {L : List (List UInt8)} {D : DataW Unit} {m : List UInt8} (hl : m.length ≤ 2) (hm : IsMap D)
    (h : ∀ l, l.length ≤ 2 → (has D (mkL l) = true ↔ l ∈ L)) (hown : w.ownsMap Tryd.prog 49 unitElem b (L.length + 1) (D.put (mkL m) (.agg []))) : MkSet w b (L ++ [m]) := by
  refine ⟨_, by simpa using hown, fun l hl' => ?_⟩
  by_cases e : l = m
  · rw [e, has_put_same hm (lawMk.str (key_mk hl) |>.elim fun _ e => by rw [show mkL m = _ from e]; trivial)]
    simp
  · rw [has_put_other (fun x => e (mkL_inj hl' hl x)), h l hl']
    simp [e]
theorem Chg.of_grown {w w' : World} {b : Nat} (h : w.grownBy w' (some b)) : Chg (· = b) w w' := ⟨h.os, h.tape, h.output, h.size, fun i hi hne => h.block i hi (fun e => hne (by injection e))⟩
theorem MkSet.noCell {w : World} {b : Nat} {L : List (List UInt8)} (h : MkSet w b L) {p : Addr} {v : Value} (hc : w.cell? p = some v) : p.block ≠ b := by
  intro e
  obtain ⟨D, ⟨es, clock, hb, _⟩, _⟩ := h
  obtain ⟨bl, o, s⟩ := p
  simp only at e
  subst e
  simp [World.cell?, hb] at hc

/-- the marks, as they are laid -/
def mksL : List (List UInt8) := [[40], [41], [44], [46], [59], [58, 45], [60, 45], [61, 60], [60], [61], [92, 61], [38], [124], [64], [92, 43]]

theorem run_makeMap0 {P : Program} (t : TypeId) (w : World) : (Instr.makeMap t none).run P w = .ok (.map (some w.heap.size)) (w.alloc (.map #[] 0)) := by
  simp [Instr.makeMap, Result.andThen]

set_option maxRecDepth 100000 in
set_option maxHeartbeats 1000000 in
theorem marks_any (w : World) : Calls Tryd.prog 13 #[] w fun e w' => ∃ b, e = .returned (.map (some b)) ∧ MkSet w' b mksL ∧ w.heap.size ≤ b ∧ Ext w w' := by
  have hmm := fun u => run_makeMap0 (P := Tryd.prog) 39 u
  go_enter Tryd.func13, Tryd.ntmps13
  go_wp2_with fail
  clear hmm
  obtain ⟨w2, hw2⟩ : ∃ w2, w2 = (w.alloc (.map #[] 0)).alloc (.cells #[.string ⟨#[40]⟩, .string ⟨#[41]⟩, .string ⟨#[44]⟩, .string ⟨#[46]⟩, .string ⟨#[59]⟩, .string ⟨#[58, 45]⟩, .string ⟨#[60, 45]⟩, .string ⟨#[61, 60]⟩, .string ⟨#[60]⟩, .string ⟨#[61]⟩, .string ⟨#[92, 61]⟩, .string ⟨#[38]⟩, .string ⟨#[124]⟩, .string ⟨#[64]⟩, .string ⟨#[92, 43]⟩] 9) := ⟨_, rfl⟩
  rw [← hw2]
  have HC : Hid (∀ k (h : k < 15), w2.cell? ⟨w.heap.size + 1, k, none⟩ = some (.string ⟨(mksL[k]'h).toArray⟩)) := Lib.hid (fun k hk => by
    have : k = 0 ∨ k = 1 ∨ k = 2 ∨ k = 3 ∨ k = 4 ∨ k = 5 ∨ k = 6 ∨ k = 7 ∨ k = 8 ∨ k = 9 ∨ k = 10 ∨ k = 11 ∨ k = 12 ∨ k = 13 ∨ k = 14 := by omega
    rw [hw2]
    rcases this with rfl | rfl | rfl | rfl | rfl | rfl | rfl | rfl | rfl | rfl | rfl | rfl | rfl | rfl | rfl <;> simp [mksL])
  have hx2 : Ext w w2 := by rw [hw2]; exact ((Ext.refl w).alloc _).alloc _
  have hM : MkSet w2 w.heap.size [] := by rw [hw2]; exact (MkSet.made w).ext ((Ext.refl _).alloc _)
  have hlt2 : w.heap.size + 1 < w2.heap.size := by rw [hw2]; simp
  clear hw2
  go_loopw [7] (fun i wr => ∃ k : Nat, k ≤ 15 ∧ i = .int .i64 k ∧ MkSet wr w.heap.size (mksL.take k) ∧ Chg (· = w.heap.size) w2 wr) (fun i _ => 15 - (intOf i).toNat)
  case atStart => exact ⟨0, by omega, rfl, hM, Chg.refl _ _⟩
  case round =>
    obtain ⟨k, hk, rfl, hS, hx⟩ := hrel
    by_cases hlt : k < 15
    · have hc := hx.cell (HC.out k hlt) (by simp)
      have hl : decide ((k : Int) < 15) = true := decide_eq_true (by omega)
      have k0 : (0 : Int) ≤ (k : Int) := Int.natCast_nonneg _
      have k1 : (k : Int) < 15 := by omega
      have hm2 : (mksL[k]'hlt).length ≤ 2 := by
        have : ∀ l ∈ mksL, l.length ≤ 2 := by decide
        exact this _ (List.getElem_mem _)
      have HTK : Hid (mksL.take (k + 1) = mksL.take k ++ [mksL[k]'hlt]) := Lib.hid (List.take_succ_eq_append_getElem (show k < mksL.length from hlt))
      generalize (mksL[k]'hlt) = mk at hc hm2 HTK
      go_wp2_with fail
      refine (markOf_any ⟨mk.toArray⟩ _ (by simpa [ByteArray.size] using hm2)).mono ?_
      rintro e w3 ⟨rfl, hx3⟩
      obtain ⟨D, hown, hD⟩ := hS.ext hx3
      obtain ⟨w4, hrun, hown4, hg4⟩ := hown.update keyedMk Tryd.underlying39 (by unfold maxLen; have := List.length_take_le k mksL; omega) (key_mk hm2) unitElem_mk
      have hS4 := MkSet.put hm2 hown.isMap hD hown4
      have hx4 : Chg (· = w.heap.size) w2 w4 := (hx.trans (Chg.of_ext hx3)).trans (Chg.of_grown hg4)
      rw [← HTK.out] at hS4
      clear hown hown4 hD hg4
      go_wp2_with fail
      go_roundw
      case rel => exact ⟨k + 1, by omega, by go_num, hS4, hx4⟩
      case measure => simp [intOf]; omega
    · obtain rfl : k = 15 := by omega
      have hS' : MkSet wr w.heap.size mksL := hS
      have hxx : Ext w wr := Chg.ext_of hx2 hx (fun b hb => by omega)
      clear hS
      go_wp2_with fail
      go_ret
      exact ⟨_, rfl, hS', Nat.le_refl _, hxx⟩
end Go.Proofs.YtagkimcbllpnkaaDoor
