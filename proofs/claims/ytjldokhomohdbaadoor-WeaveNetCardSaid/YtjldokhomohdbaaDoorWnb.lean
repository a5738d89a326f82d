/- weave.Net's parts: netOf. -/
import Derived.Test.YtjldokhomohdbaaDoorWna
import Derived.Deep.DeepCutAuto
namespace Go.Proofs.YtjldokhomohdbaaDoor
open Go.RowKit Go.Maps

theorem infoSet : (Tryd.prog.info? 55).map (fun i => (i.zero, i.size, i.bytes)) = some (some (.int .u16 0), 1, 2) := by kernel_rfl
theorem cell_over {u w1 : World} (h : Ext u w1) (a : Addr) (o : Obj) (ha : a.block < u.heap.size) : (w1.alloc o).cell? a = u.cell? a := Below.cell (h.alloc o) ha
theorem frozen_over {u w1 : World} (h : Ext u w1) (a : Addr) (o : Obj) (ha : a.block < u.heap.size) : (w1.alloc o).frozen? a = u.frozen? a := Below.frozen (h.alloc o) ha
theorem BlkU.over {w : World} {g : Nat} {t : TypeId} {cs : List Value} (h : BlkU w g t cs) (o : Obj) : BlkU (w.alloc o) g t cs := h.ext ((Ext.refl w).alloc o)
theorem BlkU.drew {w : World} {g : Nat} {t : TypeId} {cs : List Value} (h : BlkU w g t cs) : BlkU w.drew g t cs := h
theorem BlkU.made' {w : World} {g : Nat} {t : TypeId} {cs : List Value} (e : g = w.heap.size) : BlkU (w.alloc (.cells cs.toArray t)) g t cs := by subst e; exact BlkU.made w t cs
theorem TabAt.over {w : World} {b n : Nat} (h : TabAt w b n) (o : Obj) : TabAt (w.alloc o) b n := h.ext ((Ext.refl w).alloc o)
theorem TabAt.drew {w : World} {b n : Nat} (h : TabAt w b n) : TabAt w.drew b n := h.ext (Ext.refl w).drew
theorem TabAt.far {w : World} {b n : Nat} (h : TabAt w b n) {p : Addr} (v : Value) (hne : b ≠ p.block) : TabAt (w.setCell p v) b n := h.keep (Below.heap_setCell _ _ _ _ hne)
theorem box3 {w : World} {g : Nat} {v0 v1 v2 x y z : Value} (h0 : w.cell? ⟨g, 0, none⟩ = some v0) (h1 : w.cell? ⟨g, 1, none⟩ = some v1) (h2 : w.cell? ⟨g, 2, none⟩ = some v2) :
    (((w.setCell ⟨g, 0, none⟩ x).setCell ⟨g, 1, none⟩ y).setCell ⟨g, 2, none⟩ z).cell? ⟨g, 0, none⟩ = some x ∧ (((w.setCell ⟨g, 0, none⟩ x).setCell ⟨g, 1, none⟩ y).setCell ⟨g, 2, none⟩ z).cell? ⟨g, 1, none⟩ = some y ∧
      (((w.setCell ⟨g, 0, none⟩ x).setCell ⟨g, 1, none⟩ y).setCell ⟨g, 2, none⟩ z).cell? ⟨g, 2, none⟩ = some z := by
  have e1 : (w.setCell ⟨g, 0, none⟩ x).cell? ⟨g, 1, none⟩ = some v1 := by rw [World.cell?_setCell_other _ _ _ _ (by simp)]; exact h1
  have e2 : ((w.setCell ⟨g, 0, none⟩ x).setCell ⟨g, 1, none⟩ y).cell? ⟨g, 2, none⟩ = some v2 := by rw [World.cell?_setCell_other _ _ _ _ (by simp), World.cell?_setCell_other _ _ _ _ (by simp)]; exact h2
  refine ⟨?_, ?_, ?_⟩
  · rw [World.cell?_setCell_other _ _ _ _ (by simp), World.cell?_setCell_other _ _ _ _ (by simp), World.cell?_setCell_same _ _ _ h0]
  · rw [World.cell?_setCell_other _ _ _ _ (by simp), World.cell?_setCell_same _ _ _ e1]
  · rw [World.cell?_setCell_same _ _ _ e2]
theorem Chg.setCell {F : Nat → Prop} {a w : World} (h : Chg F a w) {p : Addr} (hp : F p.block) (v : Value) : Chg F a (w.setCell p v) :=
  ⟨h.os, by simpa using h.tape, h.output, by simpa using h.size, fun i hi hf => (Below.heap_setCell _ _ _ _ (fun e => hf (by rw [e]; exact hp))).trans (h.block i hi hf)⟩
theorem made_sets (M : Nat) : madeCells #[Value.int .u16 0] M = (u16s (List.replicate M 0)).toArray := by
  have e := toList_madeCells_one (.int .u16 0) M
  have e2 : u16s (List.replicate M 0) = List.replicate M (.int .u16 0) := by unfold u16s; rw [List.map_replicate]; rfl
  rw [e2, ← e]
/-- the first k sets, none beyond -/
def fillN (L : List Nat) (M k : Nat) : List Nat := L.take k ++ List.replicate (M - k) 0
theorem fillN_zero (L : List Nat) (M : Nat) : fillN L M 0 = List.replicate M 0 := by simp [fillN]
theorem fillN_full {L : List Nat} {M : Nat} (h : L.length = M) : fillN L M M = L := by simp [fillN, ← h]
theorem fillN_len {L : List Nat} {M k : Nat} (h : L.length = M) (hk : k ≤ M) : (fillN L M k).length = M := by simp [fillN]; omega
theorem fillN_set {L : List Nat} {M k : Nat} (h : L.length = M) (hk : k < M) : (fillN L M k).set k (L.getD k 0) = fillN L M (k + 1) := by
  have e : L.getD k 0 = L[k] := by rw [List.getD_eq_getElem?_getD, List.getElem?_eq_getElem (by omega)]; rfl
  unfold fillN
  rw [e, List.set_append_right _ _ (by simp; omega), List.take_succ_eq_append_getElem (by omega), List.append_assoc]
  congr 1
  have e2 : k - (L.take k).length = 0 := by simp; omega
  rw [e2, show M - k = (M - (k + 1)) + 1 by omega, List.replicate_succ]
  rfl
/-- what netOf hands back: a block of n times n sets, a table, beside each other -/
def NetAt (w : World) (g b : Nat) (R : List Nat) : Prop := BlkU w g 55 (u16s R) ∧ TabAt w b 169 ∧ g ≠ b

set_option maxRecDepth 100000 in
set_option maxHeartbeats 4000000 in
theorem netOf_any (N : Nat) (L : List Nat) (A : Option Addr) (c : Nat) (w : World) (hN : N ≤ 5) (hl : L.length = N * N) (h8 : ∀ x ∈ L, x < 8192) (hIL : IntsAt w (L.map fun (x : Nat) => (x : Int)) A) (hE : EndAt w) :
    Calls Tryd.prog 38 #[.int .i64 (N : Int), .slice A (N * N) c] w fun e w' => ∃ g b, e = .returned (netV N g (N * N) b) ∧ NetAt w' g b L ∧ w.heap.size ≤ g ∧ Ext w w' := by
  obtain ⟨i0, hi0, hz0, hz1, hz2⟩ := info_parts infoSet
  have h25 : N * N ≤ 5 * 5 := Nat.mul_le_mul hN hN
  obtain ⟨M, hM⟩ : ∃ M, M = N * N := ⟨_, rfl⟩
  rw [← hM] at hl h25
  rw [← hM]
  have HM := Lib.hid hM
  clear hM
  have hmk : ∀ u : World, (Instr.makeSlice 67 (.int .i64 (M : Int)) (.int .i64 (M : Int))).run Tryd.prog u =
      .ok (.slice (some ⟨u.heap.size, 0, none⟩) M M) (u.alloc (.cells (u16s (List.replicate M 0)).toArray 55)) := fun u => by
    rw [← made_sets]
    have := run_make (P := Tryd.prog) u 67 55 i0 (.int .u16 0) Tryd.underlying67 hi0 hz0 .i64 .i64 M M (by omega) (by omega) (by rw [hz2]; omega) (by omega)
    rw [hz1] at this
    simpa [Value.cells] using this
  go_enter Tryd.func38, Tryd.ntmps38
  go_upto_region 1 with (fail)
  obtain ⟨W0, hW0⟩ : ∃ W0, W0 = w.alloc (.cells #[.int .i64 0, .slice none 0 0, .map none] 69) := ⟨_, rfl⟩
  have hI : Ext w W0 := by rw [hW0]; exact (Ext.refl w).alloc _
  have hB4 : BlkU W0 w.heap.size 69 [.int .i64 0, .slice none 0 0, .map none] := by rw [hW0]; exact BlkU.made w _ _
  have hsz := hB4.lt
  rw [← hW0]
  obtain ⟨g4, hg4⟩ : ∃ g4, g4 = w.heap.size := ⟨_, rfl⟩
  rw [← hg4] at hB4 hsz
  rw [← hg4]
  have HSZ := Lib.hid hsz
  have HB4 := Lib.hid hB4
  have HG4 := Lib.hid hg4
  clear hsz hW0 hB4 hg4
  go_cut [5, 13] (fun p5 p13 wx => ∃ g b gb : Nat, p5 = .pointer (some ⟨gb, 0, none⟩) ∧ p13 = netV N g M b ∧ BlkU wx g 55 (u16s (List.replicate M 0)) ∧ TabAt wx b 169 ∧ (wx.cell? ⟨gb, 0, none⟩ = some (.int .i64 (N : Int)) ∧ wx.cell? ⟨gb, 1, none⟩ = some (.slice (some ⟨g, 0, none⟩) M M) ∧ wx.cell? ⟨gb, 2, none⟩ = some (.map (some b))) ∧ (g ≠ b ∧ g ≠ gb ∧ W0.heap.size ≤ g) ∧ Ext W0 wx)
  case first =>
    have KT := Lib.hid (fun u (k : Ext w u) => (thens_any u (hE.ext k)).mono (fun e w' ⟨b, he, hT, hb, hx⟩ => (⟨b, he, hT, hb, hx, k.trans hx⟩ : ∃ b, e = Ending.returned (.map (some b)) ∧ TabAt w' b 169 ∧ u.heap.size ≤ b ∧ Ext u w' ∧ Ext w w')))
    go_region_law
      ((go_simp; go_at_call 35; refine (KT.out _ (by first | assumption | exact hI.drew | exact (hI.alloc _).drew | exact hI.drew.alloc _ | exact (hI.drew.alloc _).alloc _ | exact (hI.alloc _).alloc _ | exact ((hI.alloc _).alloc _).drew)).mono ?_; rintro e w1 ⟨b, rfl, hT, hbb, hx1, hx2⟩; have hcl := fun (a : Addr) h => Below.cell hx1 (p := a) h; have hcf := fun (a : Addr) h => Below.frozen hx1 (p := a) h; have hca := fun (a : Addr) (o : Obj) h => cell_over hx1 a o h; have hcg := fun (a : Addr) (o : Obj) h => frozen_over hx1 a o h))
    all_goals
      have hb2 := hT.lt
      have hs1 := Below.size hx1
      simp at hbb hs1
      go_wp2_with fail
      go_meet
      refine ⟨_, _, _, rfl, rfl, ?_, ?_, ?_, ⟨by omega, by omega, by omega⟩, ?_⟩
      · repeat (first | ((with_reducible refine BlkU.made' ?_); (focus (simp; done))) | ((with_reducible refine BlkU.far ?_ _ ?_); rotate_left; (focus (first | (simp; done) | (simp; omega)))) | (with_reducible refine BlkU.over ?_ _) | (with_reducible refine BlkU.drew ?_) | (with_reducible refine BlkU.ext ?_ hx1))
      · repeat (first | (with_reducible exact hT) | ((with_reducible refine TabAt.far ?_ _ ?_); rotate_left; (focus (first | (simp; done) | (simp; omega)))) | (with_reducible refine TabAt.over ?_ _) | (with_reducible refine TabAt.drew ?_))
      · first | ((refine ⟨?_, ?_, ?_⟩ <;> go_simp); done) | ((refine box3 (v0 := .int .i64 0) (v1 := .slice none 0 0) (v2 := .map none) ?_ ?_ ?_ <;> (refine hx1.cell ?_; go_simp)); done)
      · repeat (first | (with_reducible exact Ext.refl _) | ((with_reducible refine Ext.setCell ?_ ?_ _); rotate_left; (focus (first | (simp; done) | (simp; omega)))) | (with_reducible refine Ext.alloc ?_ _) | (with_reducible refine Ext.drew ?_) | (with_reducible refine Ext.trans ?_ hx1))
  case rest =>
    obtain ⟨g, b, gb, rfl, rfl, hBU, hT, ⟨c0, c1, c2⟩, ⟨n1, n2, n3⟩, hx⟩ := hcut
    obtain ⟨wx, hwx⟩ : ∃ wx : World, wx = wc := ⟨_, rfl⟩
    rw [← hwx] at hBU hT c0 c1 c2 hx
    rw [← hwx]
    have HT := Lib.hid hT
    have HN := Lib.hid (And.intro n1 (And.intro n2 n3))
    have HX := Lib.hid hx
    have HII := Lib.hid ((hIL.ext hI).ext hx)
    have HBU : Hid (BlkU wx g 55 (u16s (fillN L M 0))) := Lib.hid (by rw [fillN_zero]; exact hBU)
    have HL := Lib.hid hl
    have H8 := Lib.hid h8
    clear hwx hT n1 n2 n3 hx hBU hmk h8
    go_wp2_with fail
    go_loopw [16] (fun i wr => ∃ k : Nat, k ≤ M ∧ i = .int .i64 k ∧ BlkU wr g 55 (u16s (fillN L M k)) ∧ Chg (· = g) wx wr) (fun i _ => M - (intOf i).toNat)
    case atStart => exact ⟨0, Nat.zero_le _, rfl, HBU.out, Chg.refl _ _⟩
    case round =>
      obtain ⟨k, hk, rfl, hB, hC⟩ := hrel
      by_cases hlt : k < M
      · have hki : (k : Int) < (M : Int) := by omega
        have hk0 : (0 : Int) ≤ (k : Int) := by omega
        have hkl : k < (L.map fun (x : Nat) => (x : Int)).length := by rw [List.length_map, HL.out]; exact hlt
        obtain ⟨bl, o, rfl, hc⟩ := hIL k hkl
        have hbl := World.block_lt_of_cell? w _ hc
        have hw0 := hI.size
        have hcr := hC.cell ((hI.trans HX.out).cell hc) (by simp only at hbl; have := HN.out.2.2; simp only; omega)
        have hx : (L.map fun (x : Nat) => (x : Int))[k] = ((L.getD k 0 : Nat) : Int) := by rw [List.getElem_map, List.getD_eq_getElem?_getD, List.getElem?_eq_getElem (by rw [HL.out]; exact hlt)]; rfl
        rw [hx] at hcr
        have hx8 : L.getD k 0 < 8192 := by
          rw [List.getD_eq_getElem?_getD, List.getElem?_eq_getElem (by rw [HL.out]; exact hlt)]
          exact H8.out _ (List.getElem_mem _)
        have hw := wrap16 hx8
        have e1 := hC.cell c1 (fun e => HN.out.2.1 e.symm)
        have t0 := hB.cell k
        rw [u16s_at (by rw [fillN_len HL.out hk]; exact hlt)] at t0
        have t1 := hB.frozen k
        have HP : Hid (BlkU (wr.setCell ⟨g, k, none⟩ (.int .u16 (L.getD k 0 : Int))) g 55 (u16s (fillN L M (k + 1)))) := Lib.hid (by
          rw [← fillN_set HL.out hlt, ← u16s_set]; exact hB.set k _)
        have HCC : Hid (Chg (· = g) wx (wr.setCell ⟨g, k, none⟩ (.int .u16 (L.getD k 0 : Int)))) := Lib.hid (hC.setCell rfl _)
        generalize L.getD k 0 = x at *
        generalize (fillN L M k).getD k 0 = y at *
        clear hB hC hx hc hbl
        go_wp2_with fail
        go_roundw
        case rel => exact ⟨k + 1, by omega, by go_num, HP.out, HCC.out⟩
        case measure => simp [intOf]; omega
      · have hki : ¬ ((k : Int) < (M : Int)) := by omega
        have hkM : k = M := by omega
        rw [hkM, fillN_full HL.out] at hB
        have e0 := hC.cell c0 (fun e => HN.out.2.1 e.symm)
        have e1 := hC.cell c1 (fun e => HN.out.2.1 e.symm)
        have e2 := hC.cell c2 (fun e => HN.out.2.1 e.symm)
        have hg4l : g4 < W0.heap.size := HSZ.out
        have hg4 : g4 ≠ g := by have := HN.out.2.2; omega
        have h4 : BlkU wr g4 69 [.int .i64 0, .slice none 0 0, .map none] := (HB4.out.ext HX.out).keep (hC.block g4 (Nat.lt_of_lt_of_le hg4l HX.out.size) hg4)
        have z0 := h4.cell 0
        have z1 := h4.cell 1
        have z2 := h4.cell 2
        have y0 := h4.frozen 0
        have y1 := h4.frozen 1
        have y2 := h4.frozen 2
        have hTr : TabAt wr b 169 := HT.out.keep (hC.block b HT.out.lt (fun e => HN.out.1 e.symm))
        have hb4 : b ≠ g4 := fun e => hTr.noCell (p := ⟨g4, 0, none⟩) z0 e.symm
        have HXF := Lib.hid (Chg.ext_of (hI.trans HX.out) hC (fun x e => by have := HN.out.2.2; have := hI.size; omega))
        have HBF := Lib.hid hB
        have HTF := Lib.hid hTr
        simp only [List.getElem?_cons_zero, List.getElem?_cons_succ] at z0 z1 z2
        clear hB hC h4 hTr c0 c1 c2
        go_wp2_with fail
        refine bodyPost_ret (v := netV N g M b) (by simp [results, Tryd.results38, go_sem, *]) rfl ?_
        have hge : w.heap.size ≤ g4 := by rw [HG4.out]; exact Nat.le_refl _
        refine ⟨g, b, rfl, ⟨((HBF.out.far _ (by simpa using hg4.symm)).far _ (by simpa using hg4.symm)).far _ (by simpa using hg4.symm), ((HTF.out.far _ (by simpa using hb4)).far _ (by simpa using hb4)).far _ (by simpa using hb4), HN.out.1⟩, by have := HN.out.2.2; omega, ((HXF.out.setCell hge _).setCell hge _).setCell hge _⟩
end Go.Proofs.YtjldokhomohdbaaDoor
