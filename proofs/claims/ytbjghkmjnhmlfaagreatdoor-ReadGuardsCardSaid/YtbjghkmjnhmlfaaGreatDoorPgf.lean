/- Package read: add, for terms, clauses and rules. -/
import Derived.Test.YtbjghkmjnhmlfaaGreatDoorYQ
namespace Go.Proofs.YtbjghkmjnhmlfaaGreatDoor
open Go.RowKit

abbrev tlCells (x : Lain) : List Value := [.int .i64 x.1.kind, .string x.1.name, .int .i64 x.1.n, .slice x.2.1 x.1.args.length x.2.2]
def TlIn (w : World) (F : Nat → Prop) (x : Lain) : Prop := TmIn w F x.1 x.2.1 x.2.2
theorem infoT : (Tryz.prog.info? 58).map (fun i => (i.zero, i.size, i.bytes)) = some (some (.agg #[.int .i64 0, .string ⟨#[]⟩, .int .i64 0, .slice none 0 0]), 4, 56) := by kernel_rfl
theorem addT_one (y : Lain) : ∀ u ∈ tlCells y, u.oneCell' = true := by
  intro u hu
  simp only [tlCells, List.mem_cons, List.not_mem_nil, or_false] at hu
  rcases hu with h | h | h | h <;> subst h <;> rfl
theorem addT_fin {w w5 wf : World} {g : Nat} {K : RdP} {T : List Tok} {i b p o B q cap : Nat} {v : Value} {xs : List Lain} {D : Nat → Prop} {y : Lain} (h : RdAt w g K T i b) (hS : Slot ST B w p o v xs D) (hpg : p ≠ g) (hpA : p ≠ K.A) (hpR : p ≠ K.R)
    (hlo : g < B ∧ K.A < B ∧ K.R < B) (hD : ∀ b, D b → b < w.heap.size) (hy : ST.In w (fun b => (B ≤ b ∧ b < w.heap.size) ∧ ¬ D b ∧ v.ownBlock ≠ some b) y)
    (k : Chg (fun x => v.ownBlock = some x) w w5) (ho : w5.ownsRow B 58 4 (.slice (some ⟨q, 0, none⟩) (xs.length + 1) cap) (xs.length + 1) (ST.row xs ++ [.int .i64 0, .string ⟨#[]⟩, .int .i64 0, .slice none 0 0])) (hat : v.ownBlock = some q ∨ w.heap.size ≤ q)
    (hwf : wf = (set4 w5 q (xs.length * 4) (.int .i64 y.1.kind) (.string y.1.name) (.int .i64 y.1.n) (.slice y.2.1 y.1.args.length y.2.2)).setCell ⟨p, o, none⟩ (.slice (some ⟨q, 0, none⟩) (xs.length + 1) cap)) : AddOk ST w g K T i b p o B v xs D y wf := by
  have k6 : Chg (fun b => v.ownBlock = some b) w (set4 w5 q (xs.length * 4) (.int .i64 y.1.kind) (.string y.1.name) (.int .i64 y.1.n) (.slice y.2.1 y.1.args.length y.2.2)) := by
    refine ⟨k.os, k.tape, k.output, by rw [set4_size]; exact k.size, fun x hx hf => ?_⟩
    rw [set4_block _ _ _ _ _ _ _ _ (fun e => by rcases hat with e' | e'; exact hf (by rw [e, e']); omega)]
    exact k.block x hx hf
  have ho6 := own_set4 ho (srow_len (S := ST) xs) (.int .i64 y.1.kind) (.string y.1.name) (.int .i64 y.1.n) (.slice y.2.1 y.1.args.length y.2.2)
  exact add_fin h hS hpg hpA hpR hlo hD hy k6 ho6 (hat.imp (fun e => e.symm) (fun e => ⟨q, rfl, e⟩)) hwf
set_option maxRecDepth 100000 in
set_option maxHeartbeats 4000000 in
theorem addT_rd {w : World} {g : Nat} {K : RdP} {T : List Tok} {i b p o B : Nat} {v : Value} {xs : List Lain} {D : Nat → Prop} (y : Lain) (fr : Int) (hx : xs.length ≤ 3) (h : RdAt w g K T i b) (hS : Slot ST B w p o v xs D) (hpg : p ≠ g) (hpA : p ≠ K.A) (hpR : p ≠ K.R)
    (hlo : g < B ∧ K.A < B ∧ K.R < B) (hD : ∀ b, D b → b < w.heap.size) (hy : TlIn w (fun b => (B ≤ b ∧ b < w.heap.size) ∧ ¬ D b ∧ v.ownBlock ≠ some b) y) :
    Calls Tryz.prog 104 #[.pointer (some ⟨g, 0, none⟩), .pointer (some ⟨p, o, none⟩), .agg (tlCells y).toArray, .int .i64 3, .int .i64 fr] w (AddOut ST w g K T i b p o B v xs D y 3 fr) := by
  obtain ⟨i0, hi0, hz0, hz1, hz2⟩ := info_parts infoT
  have hpl := World.block_lt_of_cell? w _ hS.cell
  obtain ⟨SA, sc, rfl, _⟩ := src_own hS.inv.own
  obtain ⟨w0, hw0⟩ : ∃ w0, w0 = w.alloc (.cells (tlCells y).toArray 58) := ⟨_, rfl⟩
  have hx0 : Ext w w0 := by rw [hw0]; exact (Ext.refl _).alloc _
  have hb0 : BoxN w0 w.heap.size (tlCells y) := by rw [hw0]; exact BoxN.new w _ _ (by simp [tlCells])
  have HW0 := Lib.hid hw0
  have hs0 : w0.heap.size = w.heap.size + 1 := by rw [hw0]; simp
  have hw0l : w.heap.size < w0.heap.size := hb0.lt
  have hS0 := hS.ext hx0
  have hR0 := h.ext hx0
  have hy0 : ST.In w0 (fun b => (B ≤ b ∧ b < w0.heap.size) ∧ ¬ D b ∧ (Value.slice SA xs.length sc).ownBlock ≠ some b) y := ST.keep hy fun b hb _ => ⟨hx0.block b hb.1.2, ⟨hb.1.1, by have := hb.1.2; omega⟩, hb.2⟩
  have hD0 : ∀ b, D b → b < w0.heap.size := fun b hb => by have := hD b hb; omega
  have hB0 : B ≤ w.heap.size := hS.inv.size
  have hpB := hS.lt
  unfold tlCells at hb0 hw0 ⊢
  have x0 := hb0.cell 0 rfl
  have x1 := hb0.cell 1 rfl
  have x2 := hb0.cell 2 rfl
  have x3 := hb0.cell 3 rfl
  have dc := hS0.cell
  have fc := hS0.fz
  have hp0 : p < w0.heap.size := by omega
  have HFIN := Lib.hid (fun (w5 wf : World) (q cap : Nat) => addT_fin (w5 := w5) (wf := wf) (q := q) (cap := cap) hR0 hS0 hpg hpA hpR hlo hD0 hy0)
  have HNB : Hid ((Value.slice SA xs.length sc).ownBlock ≠ some w.heap.size) := Lib.hid (fun e => by have := (hS.inv.lt _ e).2; omega)
  have HRC : Hid ((ST.row xs).length = xs.length * 4) := Lib.hid (srow_len (S := ST) xs)
  have HO := Lib.hid hS0.inv.own
  have HR0 := Lib.hid (And.intro hR0 hx0)
  have HN : Hid ((Value.slice SA xs.length sc).ownBlock ≠ some p) := Lib.hid (fun e => by have := (hS.inv.lt p e).1; omega)
  have H63 : Hid (xs.length + 1 ≤ maxLen) := Lib.hid (by unfold maxLen; omega)
  have HBY : Hid ((xs.length + 1) * 56 ≤ 140737488355328) := Lib.hid (by omega)
  have HBA : Hid (B ≤ (w0.drew.alloc (.cells #[.int .i64 0, .string ⟨#[]⟩, .int .i64 0, .slice none 0 0] 58)).heap.size) := Lib.hid (by simp; omega)
  have HS0 := Lib.hid hs0
  clear hx0 hb0 hS0 hR0 hy0 hD0 h hS hy hD hs0
  go_enter Tryz.func104, Tryz.ntmps104
  go_upto_region 1 with (fail)
  rw [show w.alloc (.cells #[.int .i64 y.1.kind, .string y.1.name, .int .i64 y.1.n, .slice y.2.1 y.1.args.length y.2.2] 58) = w0 from hw0.symm]
  clear hw0
  by_cases hl : xs.length = 3
  · have hle : ((xs.length : Int) == 3) = true := by rw [hl]; rfl
    have HL := Lib.hid hl
    have KF := Lib.hid (fail_any fr 2 HR0.out.1)
    clear hl
    go_wp2_with fail
    refine KF.out.mono ?_
    rintro e w1 ⟨rfl, hE, hC⟩
    have HH := Lib.hid (And.intro hE ((Chg.of_ext HR0.out.2).trans hC))
    clear hE hC
    go_wp2_with fail
    go_ret
    unfold AddOut
    rw [if_pos HL.out]
    exact ⟨rfl, HH.out.1, HH.out.2⟩
  · have hle : ((xs.length : Int) == 3) = false := by simp; omega
    have HL := Lib.hid hl
    clear hl
    go_upto_region 3 with (fail)
    have dcd : w0.drew.cell? ⟨p, o, none⟩ = some (.slice SA xs.length sc) := dc
    have qlt : (xs.length : Int) < (xs.length : Int) + 1 := by omega
    have q00 : (0 : Int) ≤ (xs.length : Int) := Int.natCast_nonneg _
    have d0 : w0.drew.cell? ⟨w.heap.size, 0, none⟩ = some (.int .i64 y.1.kind) := x0
    have d1 : w0.drew.cell? ⟨w.heap.size, 1, none⟩ = some (.string y.1.name) := x1
    have d2 : w0.drew.cell? ⟨w.heap.size, 2, none⟩ = some (.int .i64 y.1.n) := x2
    have d3 : w0.drew.cell? ⟨w.heap.size, 3, none⟩ = some (.slice y.2.1 y.1.args.length y.2.2) := x3
    go_region_law
      ((refine step_app _ (by rfl) (.tmp 22) (.tmp 25) 56 (by rfl) B 58 i0 _ 4 56 Tryz.underlying56 hi0 hz0 hz1 hz2 (by rfl) (by decide) (.slice SA xs.length sc) xs.length (ST.row xs) (by rfl) (HO.out.drew.alloc _) (some ⟨w0.heap.size, 0, none⟩) 1 1 [.int .i64 0, .string ⟨#[]⟩, .int .i64 0, .slice none 0 0] (by rfl) (Src.box w0.drew #[.int .i64 0, .string ⟨#[]⟩, .int .i64 0, .slice none 0 0] 58 4 rfl) (by simp [Value.oneCell']) H63.out HBY.out HBA.out ?_; intro v' w5 ho3 hg3 hat3; obtain ⟨q, cap', rfl, hcap⟩ := own_form ho3 (Nat.succ_pos _); have k3 := (Chg.of_ext (F := fun x => (Value.slice SA xs.length sc).ownBlock = some x) ((Ext.refl w0).drew.alloc (.cells #[.int .i64 0, .string ⟨#[]⟩, .int .i64 0, .slice none 0 0] 58))).trans (own_chg hg3); have q0 := k3.cell dcd HN.out; have f3' : w5.frozen? ⟨p, o, none⟩ = false := (World.frozen?_of_block (w := w0) (k3.block p hp0 HN.out)).trans fc; obtain ⟨⟨z0, z1, z2, z3⟩, y0, y1, y2, y3⟩ := own_cells4 ho3 HRC.out; have e0 := k3.cell d0 HNB.out; have e1 := k3.cell d1 HNB.out; have e2 := k3.cell d2 HNB.out; have e3 := k3.cell d3 HNB.out; have hpq : p ≠ q := (by intro e; have := (own_lt ho3 q rfl).1; omega)))
    all_goals
      obtain ⟨wf, hwf⟩ : ∃ wf, wf = (set4 w5 q (xs.length * 4) (.int .i64 y.1.kind) (.string y.1.name) (.int .i64 y.1.n) (.slice y.2.1 y.1.args.length y.2.2)).setCell ⟨p, o, none⟩ (.slice (some ⟨q, 0, none⟩) (xs.length + 1) cap') := ⟨_, rfl⟩
      have hfin := HFIN.out w5 wf q cap' k3 ho3 (by rcases hat3 with e | e; exact .inl e.symm; exact .inr (by have : q = w0.heap.size + 1 := by simpa [Value.ownBlock] using e
                                                                                                              omega)) hwf
      first
        | rw [show (((((w5.setCell ⟨q, xs.length * 4, none⟩ (.int .i64 y.1.kind)).setCell ⟨q, xs.length * 4 + 1, none⟩ (.string y.1.name)).setCell ⟨q, xs.length * 4 + 2, none⟩ (.int .i64 y.1.n)).setCell ⟨q, xs.length * 4 + 3, none⟩ (.slice y.2.1 y.1.args.length y.2.2)).setCell ⟨p, o, none⟩ (.slice (some ⟨q, 0, none⟩) (xs.length + 1) cap')) = wf from hwf.symm]
        | rw [show (((((w5.setCell ⟨p, o, none⟩ (.slice (some ⟨q, 0, none⟩) (xs.length + 1) cap')).setCell ⟨q, xs.length * 4, none⟩ (.int .i64 y.1.kind)).setCell ⟨q, xs.length * 4 + 1, none⟩ (.string y.1.name)).setCell ⟨q, xs.length * 4 + 2, none⟩ (.int .i64 y.1.n)).setCell ⟨q, xs.length * 4 + 3, none⟩ (.slice y.2.1 y.1.args.length y.2.2)) = wf from (set4_swap w5 hpq o (xs.length * 4) _ _ _ _ _).trans hwf.symm]
      have HH := Lib.hid hfin
      clear hfin hwf k3 ho3 hg3 hat3 q0 f3' z0 z1 z2 z3 y0 y1 y2 y3 e0 e1 e2 e3
      go_wp2_with fail
      go_ret
      unfold AddOut
      rw [if_neg HL.out]
      exact ⟨rfl, add_back HR0.out.2 HH.out hpl⟩
theorem infoC : (Tryz.prog.info? 73).map (fun i => (i.zero, i.size, i.bytes)) = some (some (.agg #[.int .i64 0, .string ⟨#[]⟩, .int .i64 0, .slice none 0 0, .slice none 0 0, .slice none 0 0]), 6, 104) := by kernel_rfl
theorem addC_one (y : ClL) : ∀ u ∈ clCells y, u.oneCell' = true := by
  intro u hu
  simp only [clCells, List.mem_cons, List.not_mem_nil, or_false] at hu
  rcases hu with h | h | h | h | h | h <;> subst h <;> rfl
set_option maxRecDepth 100000 in
set_option maxHeartbeats 4000000 in
theorem addC_rd {w : World} {g : Nat} {K : RdP} {T : List Tok} {i b p o B : Nat} {v : Value} {xs : List ClL} {D : Nat → Prop} (y : ClL) (fr : Int) (hx : xs.length ≤ 30) (h : RdAt w g K T i b) (hS : Slot SC B w p o v xs D) (hpg : p ≠ g) (hpA : p ≠ K.A) (hpR : p ≠ K.R)
    (hlo : g < B ∧ K.A < B ∧ K.R < B) (hD : ∀ b, D b → b < w.heap.size) (hy : ClIn w (fun b => (B ≤ b ∧ b < w.heap.size) ∧ ¬ D b ∧ v.ownBlock ≠ some b) y) :
    Calls Tryz.prog 58 #[.pointer (some ⟨g, 0, none⟩), .pointer (some ⟨p, o, none⟩), .agg (clCells y).toArray, .int .i64 30, .int .i64 fr] w (AddOut SC w g K T i b p o B v xs D y 30 fr) := by
  obtain ⟨i0, hi0, hz0, hz1, hz2⟩ := info_parts infoC
  have hpl := World.block_lt_of_cell? w _ hS.cell
  obtain ⟨SA, sc, rfl, _⟩ := src_own hS.inv.own
  obtain ⟨w0, hw0⟩ : ∃ w0, w0 = w.alloc (.cells (clCells y).toArray 73) := ⟨_, rfl⟩
  have hx0 : Ext w w0 := by rw [hw0]; exact (Ext.refl _).alloc _
  have hb0 : BoxN w0 w.heap.size (clCells y) := by rw [hw0]; exact BoxN.new w _ _ (by simp [clCells])
  have HW0 := Lib.hid hw0
  have hs0 : w0.heap.size = w.heap.size + 1 := by rw [hw0]; simp
  have hw0l : w.heap.size < w0.heap.size := hb0.lt
  have hS0 := hS.ext hx0
  have hR0 := h.ext hx0
  have hy0 : SC.In w0 (fun b => (B ≤ b ∧ b < w0.heap.size) ∧ ¬ D b ∧ (Value.slice SA xs.length sc).ownBlock ≠ some b) y := SC.keep hy fun b hb _ => ⟨hx0.block b hb.1.2, ⟨hb.1.1, by have := hb.1.2; omega⟩, hb.2⟩
  have hD0 : ∀ b, D b → b < w0.heap.size := fun b hb => by have := hD b hb; omega
  have hB0 : B ≤ w.heap.size := hS.inv.size
  have hpB := hS.lt
  unfold clCells at hb0 hw0 ⊢
  have x0 := hb0.cell 0 rfl
  have x1 := hb0.cell 1 rfl
  have x2 := hb0.cell 2 rfl
  have x3 := hb0.cell 3 rfl
  have x4 := hb0.cell 4 rfl
  have x5 := hb0.cell 5 rfl
  have dc := hS0.cell
  have fc := hS0.fz
  have hp0 : p < w0.heap.size := by omega
  have HFIN := Lib.hid (fun (w5 wf : World) (v' : Value) => add_fin (w5 := w5) (wf := wf) (v' := v') hR0 hS0 hpg hpA hpR hlo hD0 hy0)
  have HO := Lib.hid hS0.inv.own
  have HR0 := Lib.hid (And.intro hR0 hx0)
  have HN : Hid ((Value.slice SA xs.length sc).ownBlock ≠ some p) := Lib.hid (fun e => by have := (hS.inv.lt p e).1; omega)
  have H63 : Hid (xs.length + 1 ≤ maxLen) := Lib.hid (by unfold maxLen; omega)
  have HBY : Hid ((xs.length + 1) * 104 ≤ 140737488355328) := Lib.hid (by omega)
  have HBA : Hid (B ≤ (w0.drew.alloc (.cells (clCells y).toArray 73)).heap.size) := Lib.hid (by simp; omega)
  have HS0 := Lib.hid hs0
  clear hx0 hb0 hS0 hR0 hy0 hD0 h hS hy hD hs0
  go_enter Tryz.func58, Tryz.ntmps58
  go_upto_region 1 with (fail)
  rw [show w.alloc (.cells #[.int .i64 y.head.kind, .string y.head.name, .int .i64 y.head.n, .slice y.A y.head.args.length y.ac, .slice y.bA y.body.length y.bc, .slice y.gA y.guards.length y.gc] 73) = w0 from hw0.symm]
  clear hw0
  by_cases hl : xs.length = 30
  · have hle : ((xs.length : Int) == 30) = true := by rw [hl]; rfl
    have HL := Lib.hid hl
    have KF := Lib.hid (fail_any fr 2 HR0.out.1)
    clear hl
    go_wp2_with fail
    refine KF.out.mono ?_
    rintro e w1 ⟨rfl, hE, hC⟩
    have HH := Lib.hid (And.intro hE ((Chg.of_ext HR0.out.2).trans hC))
    clear hE hC
    go_wp2_with fail
    go_ret
    unfold AddOut
    rw [if_pos HL.out]
    exact ⟨rfl, HH.out.1, HH.out.2⟩
  · have hle : ((xs.length : Int) == 30) = false := by simp; omega
    have HL := Lib.hid hl
    clear hl
    go_upto_region 3 with (fail)
    have dcd : w0.drew.cell? ⟨p, o, none⟩ = some (.slice SA xs.length sc) := dc
    go_region_law
      ((refine step_app _ (by rfl) (.tmp 23) (.tmp 25) 28 (by rfl) B 73 i0 _ 6 104 Tryz.underlying28 hi0 hz0 hz1 hz2 (by rfl) (by decide) (.slice SA xs.length sc) xs.length (SC.row xs) (by rfl) (HO.out.drew.alloc _) (some ⟨w0.heap.size, 0, none⟩) 1 1 (clCells y) (by rfl) (Src.box w0.drew (clCells y).toArray 73 6 rfl) (addC_one y) H63.out HBY.out HBA.out ?_; intro v' w5 ho3 hg3 hat3; obtain ⟨q, cap', rfl, hcap⟩ := own_form ho3 (Nat.succ_pos _); have k3 := (Chg.of_ext (F := fun x => (Value.slice SA xs.length sc).ownBlock = some x) ((Ext.refl w0).drew.alloc (.cells (clCells y).toArray 73))).trans (own_chg hg3); have q0 := k3.cell dcd HN.out; have f3' : w5.frozen? ⟨p, o, none⟩ = false := (World.frozen?_of_block (w := w0) (k3.block p hp0 HN.out)).trans fc))
    all_goals
      have hat4 : Grown w0 (.slice SA xs.length sc) (.slice (some ⟨q, 0, none⟩) (xs.length + 1) cap') := by
        rcases hat3 with e | e
        · exact .inl e
        · refine .inr ⟨q, rfl, ?_⟩
          have : q = w0.heap.size + 1 := by simpa [Value.ownBlock] using e
          omega
      obtain ⟨wf, hwf⟩ : ∃ wf, wf = w5.setCell ⟨p, o, none⟩ (.slice (some ⟨q, 0, none⟩) (xs.length + 1) cap') := ⟨_, rfl⟩
      have hfin := HFIN.out w5 wf _ k3 ho3 hat4 hwf
      rw [← hwf]
      have HH := Lib.hid hfin
      clear hfin hwf hat4 k3 ho3 hg3 hat3 q0 f3'
      go_wp2_with fail
      go_ret
      unfold AddOut
      rw [if_neg HL.out]
      exact ⟨rfl, add_back HR0.out.2 HH.out hpl⟩
theorem infoR : (Tryz.prog.info? 66).map (fun i => (i.zero, i.size, i.bytes)) = some (some (.agg #[.int .i64 0, .string ⟨#[]⟩, .int .i64 0, .slice none 0 0, .int .i64 0, .int .i64 0, .string ⟨#[]⟩, .int .i64 0, .slice none 0 0, .int .i64 0, .slice none 0 0, .slice none 0 0, .slice none 0 0, .slice none 0 0, .int .i64 0, .int .i64 0]), 16, 240) := by kernel_rfl
theorem addR_one (y : RlL) : ∀ u ∈ rlCells y, u.oneCell' = true := by
  intro u hu
  simp only [rlCells, List.mem_cons, List.not_mem_nil, or_false] at hu
  rcases hu with h | h | h | h | h | h | h | h | h | h | h | h | h | h | h | h <;> subst h <;> rfl
set_option maxRecDepth 100000 in
set_option maxHeartbeats 4000000 in
theorem addR_rd {w : World} {g : Nat} {K : RdP} {T : List Tok} {i b p o B : Nat} {v : Value} {xs : List RlL} {D : Nat → Prop} (y : RlL) (fr : Int) (hx : xs.length ≤ 20) (h : RdAt w g K T i b) (hS : Slot SR B w p o v xs D) (hpg : p ≠ g) (hpA : p ≠ K.A) (hpR : p ≠ K.R)
    (hlo : g < B ∧ K.A < B ∧ K.R < B) (hD : ∀ b, D b → b < w.heap.size) (hy : RlIn w (fun b => (B ≤ b ∧ b < w.heap.size) ∧ ¬ D b ∧ v.ownBlock ≠ some b) y) :
    Calls Tryz.prog 56 #[.pointer (some ⟨g, 0, none⟩), .pointer (some ⟨p, o, none⟩), .agg (rlCells y).toArray, .int .i64 20, .int .i64 fr] w (AddOut SR w g K T i b p o B v xs D y 20 fr) := by
  obtain ⟨i0, hi0, hz0, hz1, hz2⟩ := info_parts infoR
  have hpl := World.block_lt_of_cell? w _ hS.cell
  obtain ⟨SA, sc, rfl, _⟩ := src_own hS.inv.own
  obtain ⟨w0, hw0⟩ : ∃ w0, w0 = w.alloc (.cells (rlCells y).toArray 66) := ⟨_, rfl⟩
  have hx0 : Ext w w0 := by rw [hw0]; exact (Ext.refl _).alloc _
  have hb0 : BoxN w0 w.heap.size (rlCells y) := by rw [hw0]; exact BoxN.new w _ _ (by simp [rlCells])
  have HW0 := Lib.hid hw0
  have hs0 : w0.heap.size = w.heap.size + 1 := by rw [hw0]; simp
  have hw0l : w.heap.size < w0.heap.size := hb0.lt
  have hS0 := hS.ext hx0
  have hR0 := h.ext hx0
  have hy0 : SR.In w0 (fun b => (B ≤ b ∧ b < w0.heap.size) ∧ ¬ D b ∧ (Value.slice SA xs.length sc).ownBlock ≠ some b) y := SR.keep hy fun b hb _ => ⟨hx0.block b hb.1.2, ⟨hb.1.1, by have := hb.1.2; omega⟩, hb.2⟩
  have hD0 : ∀ b, D b → b < w0.heap.size := fun b hb => by have := hD b hb; omega
  have hB0 : B ≤ w.heap.size := hS.inv.size
  have hpB := hS.lt
  unfold rlCells at hb0 hw0 ⊢
  have x0 := hb0.cell 0 rfl
  have x1 := hb0.cell 1 rfl
  have x2 := hb0.cell 2 rfl
  have x3 := hb0.cell 3 rfl
  have x4 := hb0.cell 4 rfl
  have x5 := hb0.cell 5 rfl
  have x6 := hb0.cell 6 rfl
  have x7 := hb0.cell 7 rfl
  have x8 := hb0.cell 8 rfl
  have x9 := hb0.cell 9 rfl
  have x10 := hb0.cell 10 rfl
  have x11 := hb0.cell 11 rfl
  have x12 := hb0.cell 12 rfl
  have x13 := hb0.cell 13 rfl
  have x14 := hb0.cell 14 rfl
  have x15 := hb0.cell 15 rfl
  have dc := hS0.cell
  have fc := hS0.fz
  have hp0 : p < w0.heap.size := by omega
  have HFIN := Lib.hid (fun (w5 wf : World) (v' : Value) => add_fin (w5 := w5) (wf := wf) (v' := v') hR0 hS0 hpg hpA hpR hlo hD0 hy0)
  have HO := Lib.hid hS0.inv.own
  have HR0 := Lib.hid (And.intro hR0 hx0)
  have HN : Hid ((Value.slice SA xs.length sc).ownBlock ≠ some p) := Lib.hid (fun e => by have := (hS.inv.lt p e).1; omega)
  have H63 : Hid (xs.length + 1 ≤ maxLen) := Lib.hid (by unfold maxLen; omega)
  have HBY : Hid ((xs.length + 1) * 240 ≤ 140737488355328) := Lib.hid (by omega)
  have HBA : Hid (B ≤ (w0.drew.alloc (.cells (rlCells y).toArray 66)).heap.size) := Lib.hid (by simp; omega)
  have HS0 := Lib.hid hs0
  clear hx0 hb0 hS0 hR0 hy0 hD0 h hS hy hD hs0
  go_enter Tryz.func56, Tryz.ntmps56
  go_upto_region 1 with (fail)
  rw [show w.alloc (.cells #[.int .i64 y.head.kind, .string y.head.name, .int .i64 y.head.n, .slice y.A y.head.args.length y.ac, .int .i64 y.body.kind, .int .i64 y.body.tm.kind, .string y.body.tm.name, .int .i64 y.body.tm.n, .slice y.pl.A y.body.tm.args.length y.pl.ac, .int .i64 y.body.rel, .slice y.pl.L y.body.l.length y.pl.lc, .slice y.pl.R y.body.r.length y.pl.rc, .slice y.pl.C y.body.c.length y.pl.cc, .slice y.gA y.guards.length y.gc, .int .i64 y.within, .int .i64 y.policy] 66) = w0 from hw0.symm]
  clear hw0
  by_cases hl : xs.length = 20
  · have hle : ((xs.length : Int) == 20) = true := by rw [hl]; rfl
    have HL := Lib.hid hl
    have KF := Lib.hid (fail_any fr 2 HR0.out.1)
    clear hl
    go_wp2_with fail
    refine KF.out.mono ?_
    rintro e w1 ⟨rfl, hE, hC⟩
    have HH := Lib.hid (And.intro hE ((Chg.of_ext HR0.out.2).trans hC))
    clear hE hC
    go_wp2_with fail
    go_ret
    unfold AddOut
    rw [if_pos HL.out]
    exact ⟨rfl, HH.out.1, HH.out.2⟩
  · have hle : ((xs.length : Int) == 20) = false := by simp; omega
    have HL := Lib.hid hl
    clear hl
    go_upto_region 3 with (fail)
    have dcd : w0.drew.cell? ⟨p, o, none⟩ = some (.slice SA xs.length sc) := dc
    go_region_law
      ((refine step_app _ (by rfl) (.tmp 23) (.tmp 25) 29 (by rfl) B 66 i0 _ 16 240 Tryz.underlying29 hi0 hz0 hz1 hz2 (by rfl) (by decide) (.slice SA xs.length sc) xs.length (SR.row xs) (by rfl) (HO.out.drew.alloc _) (some ⟨w0.heap.size, 0, none⟩) 1 1 (rlCells y) (by rfl) (Src.box w0.drew (rlCells y).toArray 66 16 rfl) (addR_one y) H63.out HBY.out HBA.out ?_; intro v' w5 ho3 hg3 hat3; obtain ⟨q, cap', rfl, hcap⟩ := own_form ho3 (Nat.succ_pos _); have k3 := (Chg.of_ext (F := fun x => (Value.slice SA xs.length sc).ownBlock = some x) ((Ext.refl w0).drew.alloc (.cells (rlCells y).toArray 66))).trans (own_chg hg3); have q0 := k3.cell dcd HN.out; have f3' : w5.frozen? ⟨p, o, none⟩ = false := (World.frozen?_of_block (w := w0) (k3.block p hp0 HN.out)).trans fc))
    all_goals
      have hat4 : Grown w0 (.slice SA xs.length sc) (.slice (some ⟨q, 0, none⟩) (xs.length + 1) cap') := by
        rcases hat3 with e | e
        · exact .inl e
        · refine .inr ⟨q, rfl, ?_⟩
          have : q = w0.heap.size + 1 := by simpa [Value.ownBlock] using e
          omega
      obtain ⟨wf, hwf⟩ : ∃ wf, wf = w5.setCell ⟨p, o, none⟩ (.slice (some ⟨q, 0, none⟩) (xs.length + 1) cap') := ⟨_, rfl⟩
      have hfin := HFIN.out w5 wf _ k3 ho3 hat4 hwf
      rw [← hwf]
      have HH := Lib.hid hfin
      clear hfin hwf hat4 k3 ho3 hg3 hat3 q0 f3'
      go_wp2_with fail
      go_ret
      unfold AddOut
      rw [if_neg HL.out]
      exact ⟨rfl, add_back HR0.out.2 HH.out hpl⟩
end Go.Proofs.YtbjghkmjnhmlfaaGreatDoor
