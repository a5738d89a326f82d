/- almagestref0.CopyFact, CopyKept, CopyKepts: in new memory. -/
import Derived.Test.YtkdhpifjljkpfaaGreatFP
namespace Go.Proofs.YtkdhpifjljkpfaaGreat
open Go.RowKit

set_option maxRecDepth 100000 in
set_option maxHeartbeats 4000000 in
theorem copyFact_any (x : Fc) (A : Option Addr) (c : Nat) (w : World) (h : TmAt w x.tm A c) :
    Calls Tryz.prog 48 #[.agg #[.int .i64 x.tm.kind, .string x.tm.name, .int .i64 x.tm.n, .slice A x.tm.args.length c, .int .i64 x.fr, .int .i64 x.til]] w fun e w' => ∃ A' c', e = .returned (.agg #[.int .i64 x.tm.kind, .string x.tm.name, .int .i64 x.tm.n, .slice A' x.tm.args.length c', .int .i64 x.fr, .int .i64 x.til]) ∧ TmOwn w' x.tm A' c' (fun k => w.heap.size ≤ k ∧ k < w'.heap.size) ∧ Ext w w' := by
  obtain ⟨W1, hW1⟩ : ∃ W1, W1 = ((w.alloc (.cells #[.int .i64 x.tm.kind, .string x.tm.name, .int .i64 x.tm.n, .slice A x.tm.args.length c, .int .i64 x.fr, .int .i64 x.til] 44)).alloc (.cells #[.int .i64 0, .string ⟨#[]⟩, .int .i64 0, .slice none 0 0, .int .i64 0, .int .i64 0] 44)).alloc (.cells #[.int .i64 x.tm.kind, .string x.tm.name, .int .i64 x.tm.n, .slice A x.tm.args.length c, .int .i64 x.fr, .int .i64 x.til] 44) := ⟨_, rfl⟩
  have hx1 : Ext w W1 := by rw [hW1]; exact (((Ext.refl w).alloc _).alloc _).alloc _
  have hs1 : W1.heap.size = w.heap.size + 1 + 1 + 1 := by rw [hW1]; simp
  have q0 : W1.cell? ⟨w.heap.size, 0, none⟩ = some (.int .i64 x.tm.kind) := by rw [hW1]; go_simp
  have q1 : W1.cell? ⟨w.heap.size, 1, none⟩ = some (.string x.tm.name) := by rw [hW1]; go_simp
  have q2 : W1.cell? ⟨w.heap.size, 2, none⟩ = some (.int .i64 x.tm.n) := by rw [hW1]; go_simp
  have q3 : W1.cell? ⟨w.heap.size, 3, none⟩ = some (.slice A x.tm.args.length c) := by rw [hW1]; go_simp
  have x0 : W1.cell? ⟨w.heap.size + 1 + 1, 0, none⟩ = some (.int .i64 x.tm.kind) := by rw [hW1]; go_simp
  have x1 : W1.cell? ⟨w.heap.size + 1 + 1, 1, none⟩ = some (.string x.tm.name) := by rw [hW1]; go_simp
  have x2 : W1.cell? ⟨w.heap.size + 1 + 1, 2, none⟩ = some (.int .i64 x.tm.n) := by rw [hW1]; go_simp
  have x3 : W1.cell? ⟨w.heap.size + 1 + 1, 3, none⟩ = some (.slice A x.tm.args.length c) := by rw [hW1]; go_simp
  have x4 : W1.cell? ⟨w.heap.size + 1 + 1, 4, none⟩ = some (.int .i64 x.fr) := by rw [hW1]; go_simp
  have x5 : W1.cell? ⟨w.heap.size + 1 + 1, 5, none⟩ = some (.int .i64 x.til) := by rw [hW1]; go_simp
  have y0 : W1.cell? ⟨w.heap.size + 1, 0, none⟩ = some (.int .i64 0) := by rw [hW1]; go_simp
  have y1 : W1.cell? ⟨w.heap.size + 1, 1, none⟩ = some (.string ⟨#[]⟩) := by rw [hW1]; go_simp
  have y2 : W1.cell? ⟨w.heap.size + 1, 2, none⟩ = some (.int .i64 0) := by rw [hW1]; go_simp
  have y3 : W1.cell? ⟨w.heap.size + 1, 3, none⟩ = some (.slice none 0 0) := by rw [hW1]; go_simp
  have y4 : W1.cell? ⟨w.heap.size + 1, 4, none⟩ = some (.int .i64 0) := by rw [hW1]; go_simp
  have y5 : W1.cell? ⟨w.heap.size + 1, 5, none⟩ = some (.int .i64 0) := by rw [hW1]; go_simp
  have HFZ : Hid (∀ j, W1.frozen? ⟨w.heap.size + 1, j, none⟩ = false ∧ W1.frozen? ⟨w.heap.size + 1 + 1, j, none⟩ = false) := Lib.hid fun j => by rw [hW1]; exact ⟨by go_simp, by go_simp⟩
  have KR := Lib.hid (copy_all x.tm.high x.tm A c W1 (Nat.le_refl _) (h.ext hx1))
  have HW := Lib.hid hW1
  clear hW1 h
  go_enter Tryz.func48, Tryz.ntmps48
  go_upto_region 2 with (fail)
  rw [← HW.out]
  clear HW
  go_wp2_with fail
  refine KR.out.mono ?_
  rintro e w2 ⟨A', c', rfl, hO, hx2⟩
  replace x0 := hx2.cell x0
  replace y0 := hx2.cell y0
  replace x1 := hx2.cell x1
  replace y1 := hx2.cell y1
  replace x2 := hx2.cell x2
  replace y2 := hx2.cell y2
  replace x3 := hx2.cell x3
  replace y3 := hx2.cell y3
  replace x4 := hx2.cell x4
  replace y4 := hx2.cell y4
  replace x5 := hx2.cell x5
  replace y5 := hx2.cell y5
  have f0 := (Below.frozen hx2 (p := ⟨w.heap.size + 1, 0, none⟩) (by simp only; omega)).trans (HFZ.out 0).1
  have f1 := (Below.frozen hx2 (p := ⟨w.heap.size + 1, 1, none⟩) (by simp only; omega)).trans (HFZ.out 1).1
  have f2 := (Below.frozen hx2 (p := ⟨w.heap.size + 1, 2, none⟩) (by simp only; omega)).trans (HFZ.out 2).1
  have f3 := (Below.frozen hx2 (p := ⟨w.heap.size + 1, 3, none⟩) (by simp only; omega)).trans (HFZ.out 3).1
  have f4 := (Below.frozen hx2 (p := ⟨w.heap.size + 1, 4, none⟩) (by simp only; omega)).trans (HFZ.out 4).1
  have f5 := (Below.frozen hx2 (p := ⟨w.heap.size + 1, 5, none⟩) (by simp only; omega)).trans (HFZ.out 5).1
  have g0 := (Below.frozen hx2 (p := ⟨w.heap.size + 1 + 1, 0, none⟩) (by simp only; omega)).trans (HFZ.out 0).2
  have g1 := (Below.frozen hx2 (p := ⟨w.heap.size + 1 + 1, 1, none⟩) (by simp only; omega)).trans (HFZ.out 1).2
  have g2 := (Below.frozen hx2 (p := ⟨w.heap.size + 1 + 1, 2, none⟩) (by simp only; omega)).trans (HFZ.out 2).2
  have g3 := (Below.frozen hx2 (p := ⟨w.heap.size + 1 + 1, 3, none⟩) (by simp only; omega)).trans (HFZ.out 3).2
  have HX2 := Lib.hid (hx1.trans hx2)
  have HO := Lib.hid hO
  have HS1 := Lib.hid hs1
  have hsz0 : w.heap.size + 1 + 1 < w2.heap.size := by have := hx2.size; omega
  clear q0 q1 q2 q3 hx2 hx1 hO HFZ KR hs1
  go_wp2_with fail
  have hC : Chg (fun b => b = w.heap.size + 1 ∨ b = w.heap.size + 1 + 1) w2 (set6 (set4 w2 (w.heap.size + 1 + 1) 0 (.int .i64 x.tm.kind) (.string x.tm.name) (.int .i64 x.tm.n) (.slice A' x.tm.args.length c')) (w.heap.size + 1) 0 (.int .i64 x.tm.kind) (.string x.tm.name) (.int .i64 x.tm.n) (.slice A' x.tm.args.length c') (.int .i64 x.fr) (.int .i64 x.til)) := (set4_chg _ _ _ _ _ _ _ (F := fun b => b = w.heap.size + 1 ∨ b = w.heap.size + 1 + 1) (.inr rfl)).trans (set6_chg _ _ _ _ _ _ _ _ _ (F := fun b => b = w.heap.size + 1 ∨ b = w.heap.size + 1 + 1) (.inl rfl))
  have hO2 := HO.out.chg hC (fun b hb e => by have := HS1.out; rcases e with e | e <;> omega)
  refine bodyPost_ret (v := .agg #[.int .i64 x.tm.kind, .string x.tm.name, .int .i64 x.tm.n, .slice A' x.tm.args.length c', .int .i64 x.fr, .int .i64 x.til]) (by simp [results, Tryz.results48, go_sem, *]) rfl ⟨A', c', rfl, hO2.weak (fun b hb => ⟨by have := HS1.out; omega, ?_⟩), Chg.ext_of HX2.out hC (fun b e => by rcases e with e | e <;> omega)⟩
  have := hb.2
  have := hC.size
  exact Nat.lt_of_lt_of_le hb.2 hC.size

set_option maxRecDepth 100000 in
set_option maxHeartbeats 4000000 in
theorem copyKept_any (x : Kp) (A : Option Addr) (c : Nat) (w : World) (h : TmAt w x.fc.tm A c) :
    Calls Tryz.prog 28 #[.agg #[.int .i64 x.seq, .int .i64 x.fc.tm.kind, .string x.fc.tm.name, .int .i64 x.fc.tm.n, .slice A x.fc.tm.args.length c, .int .i64 x.fc.fr, .int .i64 x.fc.til]] w fun e w' => ∃ A' c', e = .returned (.agg #[.int .i64 x.seq, .int .i64 x.fc.tm.kind, .string x.fc.tm.name, .int .i64 x.fc.tm.n, .slice A' x.fc.tm.args.length c', .int .i64 x.fc.fr, .int .i64 x.fc.til]) ∧ TmOwn w' x.fc.tm A' c' (fun k => w.heap.size ≤ k ∧ k < w'.heap.size) ∧ Ext w w' := by
  obtain ⟨W1, hW1⟩ : ∃ W1, W1 = ((w.alloc (.cells #[.int .i64 x.seq, .int .i64 x.fc.tm.kind, .string x.fc.tm.name, .int .i64 x.fc.tm.n, .slice A x.fc.tm.args.length c, .int .i64 x.fc.fr, .int .i64 x.fc.til] 50)).alloc (.cells #[.int .i64 0, .int .i64 0, .string ⟨#[]⟩, .int .i64 0, .slice none 0 0, .int .i64 0, .int .i64 0] 50)).alloc (.cells #[.int .i64 x.seq, .int .i64 x.fc.tm.kind, .string x.fc.tm.name, .int .i64 x.fc.tm.n, .slice A x.fc.tm.args.length c, .int .i64 x.fc.fr, .int .i64 x.fc.til] 50) := ⟨_, rfl⟩
  have hx1 : Ext w W1 := by rw [hW1]; exact (((Ext.refl w).alloc _).alloc _).alloc _
  have hs1 : W1.heap.size = w.heap.size + 1 + 1 + 1 := by rw [hW1]; simp
  have q1 : W1.cell? ⟨w.heap.size, 1, none⟩ = some (.int .i64 x.fc.tm.kind) := by rw [hW1]; go_simp
  have q2 : W1.cell? ⟨w.heap.size, 2, none⟩ = some (.string x.fc.tm.name) := by rw [hW1]; go_simp
  have q3 : W1.cell? ⟨w.heap.size, 3, none⟩ = some (.int .i64 x.fc.tm.n) := by rw [hW1]; go_simp
  have q4 : W1.cell? ⟨w.heap.size, 4, none⟩ = some (.slice A x.fc.tm.args.length c) := by rw [hW1]; go_simp
  have q5 : W1.cell? ⟨w.heap.size, 5, none⟩ = some (.int .i64 x.fc.fr) := by rw [hW1]; go_simp
  have q6 : W1.cell? ⟨w.heap.size, 6, none⟩ = some (.int .i64 x.fc.til) := by rw [hW1]; go_simp
  have x0 : W1.cell? ⟨w.heap.size + 1 + 1, 0, none⟩ = some (.int .i64 x.seq) := by rw [hW1]; go_simp
  have x1 : W1.cell? ⟨w.heap.size + 1 + 1, 1, none⟩ = some (.int .i64 x.fc.tm.kind) := by rw [hW1]; go_simp
  have x2 : W1.cell? ⟨w.heap.size + 1 + 1, 2, none⟩ = some (.string x.fc.tm.name) := by rw [hW1]; go_simp
  have x3 : W1.cell? ⟨w.heap.size + 1 + 1, 3, none⟩ = some (.int .i64 x.fc.tm.n) := by rw [hW1]; go_simp
  have x4 : W1.cell? ⟨w.heap.size + 1 + 1, 4, none⟩ = some (.slice A x.fc.tm.args.length c) := by rw [hW1]; go_simp
  have x5 : W1.cell? ⟨w.heap.size + 1 + 1, 5, none⟩ = some (.int .i64 x.fc.fr) := by rw [hW1]; go_simp
  have x6 : W1.cell? ⟨w.heap.size + 1 + 1, 6, none⟩ = some (.int .i64 x.fc.til) := by rw [hW1]; go_simp
  have y0 : W1.cell? ⟨w.heap.size + 1, 0, none⟩ = some (.int .i64 0) := by rw [hW1]; go_simp
  have y1 : W1.cell? ⟨w.heap.size + 1, 1, none⟩ = some (.int .i64 0) := by rw [hW1]; go_simp
  have y2 : W1.cell? ⟨w.heap.size + 1, 2, none⟩ = some (.string ⟨#[]⟩) := by rw [hW1]; go_simp
  have y3 : W1.cell? ⟨w.heap.size + 1, 3, none⟩ = some (.int .i64 0) := by rw [hW1]; go_simp
  have y4 : W1.cell? ⟨w.heap.size + 1, 4, none⟩ = some (.slice none 0 0) := by rw [hW1]; go_simp
  have y5 : W1.cell? ⟨w.heap.size + 1, 5, none⟩ = some (.int .i64 0) := by rw [hW1]; go_simp
  have y6 : W1.cell? ⟨w.heap.size + 1, 6, none⟩ = some (.int .i64 0) := by rw [hW1]; go_simp
  have HFZ : Hid (∀ j, W1.frozen? ⟨w.heap.size + 1, j, none⟩ = false ∧ W1.frozen? ⟨w.heap.size + 1 + 1, j, none⟩ = false) := Lib.hid fun j => by rw [hW1]; exact ⟨by go_simp, by go_simp⟩
  have KR := Lib.hid (copyFact_any x.fc A c W1 (h.ext hx1))
  have HW := Lib.hid hW1
  clear hW1 h
  go_enter Tryz.func28, Tryz.ntmps28
  go_upto_region 2 with (fail)
  rw [← HW.out]
  clear HW
  go_wp2_with fail
  refine KR.out.mono ?_
  rintro e w2 ⟨A', c', rfl, hO, hx2⟩
  replace x0 := hx2.cell x0
  replace y0 := hx2.cell y0
  replace x1 := hx2.cell x1
  replace y1 := hx2.cell y1
  replace x2 := hx2.cell x2
  replace y2 := hx2.cell y2
  replace x3 := hx2.cell x3
  replace y3 := hx2.cell y3
  replace x4 := hx2.cell x4
  replace y4 := hx2.cell y4
  replace x5 := hx2.cell x5
  replace y5 := hx2.cell y5
  replace x6 := hx2.cell x6
  replace y6 := hx2.cell y6
  have f0 := (Below.frozen hx2 (p := ⟨w.heap.size + 1, 0, none⟩) (by simp only; omega)).trans (HFZ.out 0).1
  have f1 := (Below.frozen hx2 (p := ⟨w.heap.size + 1, 1, none⟩) (by simp only; omega)).trans (HFZ.out 1).1
  have f2 := (Below.frozen hx2 (p := ⟨w.heap.size + 1, 2, none⟩) (by simp only; omega)).trans (HFZ.out 2).1
  have f3 := (Below.frozen hx2 (p := ⟨w.heap.size + 1, 3, none⟩) (by simp only; omega)).trans (HFZ.out 3).1
  have f4 := (Below.frozen hx2 (p := ⟨w.heap.size + 1, 4, none⟩) (by simp only; omega)).trans (HFZ.out 4).1
  have f5 := (Below.frozen hx2 (p := ⟨w.heap.size + 1, 5, none⟩) (by simp only; omega)).trans (HFZ.out 5).1
  have f6 := (Below.frozen hx2 (p := ⟨w.heap.size + 1, 6, none⟩) (by simp only; omega)).trans (HFZ.out 6).1
  have g1 := (Below.frozen hx2 (p := ⟨w.heap.size + 1 + 1, 1, none⟩) (by simp only; omega)).trans (HFZ.out 1).2
  have g2 := (Below.frozen hx2 (p := ⟨w.heap.size + 1 + 1, 2, none⟩) (by simp only; omega)).trans (HFZ.out 2).2
  have g3 := (Below.frozen hx2 (p := ⟨w.heap.size + 1 + 1, 3, none⟩) (by simp only; omega)).trans (HFZ.out 3).2
  have g4 := (Below.frozen hx2 (p := ⟨w.heap.size + 1 + 1, 4, none⟩) (by simp only; omega)).trans (HFZ.out 4).2
  have g5 := (Below.frozen hx2 (p := ⟨w.heap.size + 1 + 1, 5, none⟩) (by simp only; omega)).trans (HFZ.out 5).2
  have g6 := (Below.frozen hx2 (p := ⟨w.heap.size + 1 + 1, 6, none⟩) (by simp only; omega)).trans (HFZ.out 6).2
  have HX2 := Lib.hid (hx1.trans hx2)
  have HO := Lib.hid hO
  have HS1 := Lib.hid hs1
  have hsz0 : w.heap.size + 1 + 1 < w2.heap.size := by have := hx2.size; omega
  clear q1 q2 q3 q4 q5 q6 hx2 hx1 hO HFZ KR hs1
  go_wp2_with fail
  have hC : Chg (fun b => b = w.heap.size + 1 ∨ b = w.heap.size + 1 + 1) w2 (set7 (set6 w2 (w.heap.size + 1 + 1) 1 (.int .i64 x.fc.tm.kind) (.string x.fc.tm.name) (.int .i64 x.fc.tm.n) (.slice A' x.fc.tm.args.length c') (.int .i64 x.fc.fr) (.int .i64 x.fc.til)) (w.heap.size + 1) 0 (.int .i64 x.seq) (.int .i64 x.fc.tm.kind) (.string x.fc.tm.name) (.int .i64 x.fc.tm.n) (.slice A' x.fc.tm.args.length c') (.int .i64 x.fc.fr) (.int .i64 x.fc.til)) := (set6_chg _ _ _ _ _ _ _ _ _ (F := fun b => b = w.heap.size + 1 ∨ b = w.heap.size + 1 + 1) (.inr rfl)).trans (set7_chg _ _ _ _ _ _ _ _ _ _ (F := fun b => b = w.heap.size + 1 ∨ b = w.heap.size + 1 + 1) (.inl rfl))
  have hO2 := HO.out.chg hC (fun b hb e => by have := HS1.out; rcases e with e | e <;> omega)
  refine bodyPost_ret (v := .agg #[.int .i64 x.seq, .int .i64 x.fc.tm.kind, .string x.fc.tm.name, .int .i64 x.fc.tm.n, .slice A' x.fc.tm.args.length c', .int .i64 x.fc.fr, .int .i64 x.fc.til]) (by simp [results, Tryz.results28, go_sem, *]) rfl ⟨A', c', rfl, hO2.weak (fun b hb => ⟨by have := HS1.out; omega, ?_⟩), Chg.ext_of HX2.out hC (fun b e => by rcases e with e | e <;> omega)⟩
  have := hb.2
  have := hC.size
  exact Nat.lt_of_lt_of_le hb.2 hC.size

set_option maxRecDepth 100000 in
set_option maxHeartbeats 4000000 in
theorem copyKepts_any (ks : List Kp) (A : Option Addr) (c : Nat) (w : World) (hl : ks.length ≤ 1000000) (h : KpsAt w ks A) :
    Calls Tryz.prog 5 #[.slice A ks.length c] w (KCopied ks w) := by
  obtain ⟨i0, hi0, hz0, hz1, hz2⟩ := info_parts infoKp
  go_enter Tryz.func5, Tryz.ntmps5
  go_wp2_with fail
  go_loopw [3, 4] (fun v i wr => ∃ (k : Nat) (zs : List KLain) (G : Nat → Nat → Prop), k ≤ ks.length ∧ i = .int .i64 k ∧ KOwned (ks.take k) w wr v zs G) (fun _ i _ => ks.length - (intOf i).toNat)
  case atStart => exact ⟨0, [], fun _ _ => False, Nat.zero_le _, rfl, ⟨by simp, World.ownsRow_nil _ _ _ _, ⟨fun i hi => absurd hi (by simp), fun i hi => absurd hi (by simp), fun i j hi => absurd hi (by simp), Ext.refl _⟩, fun z hz => by cases hz⟩⟩
  case round =>
    obtain ⟨k, zs, G, hk, rfl, hKO⟩ := hrel
    have hx := hKO.inv.ext
    by_cases hlt : k < ks.length
    · obtain ⟨b, o, B, e, rfl, c0, c1, c2, c3, c4, c5, c6, hsub, hwf⟩ := (h.ext hx) k hlt
      have hki : (k : Int) < (ks.length : Int) := by omega
      have hk0 : (0 : Int) ≤ (k : Int) := by omega
      have KC := Lib.hid (copyKept_any ks[k] B e wr hsub)
      have hqe : ks.take k ++ [ks[k]] = ks.take (k + 1) := (List.take_succ_eq_append_getElem hlt).symm
      have htl : (ks.take k).length = k := by simp; omega
      have HQ := Lib.hid hqe
      have HTL := Lib.hid htl
      have HWF := Lib.hid hwf
      have HKO := Lib.hid hKO
      have hown := hKO.own
      have HK := Lib.hid hlt
      generalize ks[k] = q at *
      generalize ks.take k = tk at *
      clear hsub hwf hqe htl hKO
      go_wp2_with fail
      refine KC.out.mono ?_
      rintro e1 w1 ⟨A', c', rfl, hO, hx1⟩
      have hown1 := ownsRow_ext hown hx1
      have hsz := hx.size
      have hsz1 := hx1.size
      have hn1 : tk.length + 1 ≤ 1000001 := by have := HTL.out; omega
      clear c0 c1 c2 c3 c4 c5 c6
      go_wp2_with (at_builtin; refine wpList_append_own_at _ rfl _ _ 22 rfl w.heap.size 50 i0 _ 7 80 Tryz.underlying22 hi0 hz0 hz1 hz2 rfl (by decide) _ tk.length (Krow zs) rfl (hown1.alloc _) ⟨w1.heap.size, 0, none⟩ 1 1 (KLain.cells (q, A', c')) rfl rfl ?c1 ?c2 ?c3 ?c4 ?c5 ?_)
      case c1 => exact World.news_of_block (cs := #[.int .i64 q.seq, .int .i64 q.fc.tm.kind, .string q.fc.tm.name, .int .i64 q.fc.tm.n, .slice A' q.fc.tm.args.length c', .int .i64 q.fc.fr, .int .i64 q.fc.til]) (t := 50) (fr := (0, 0)) (heap_alloc_new w1 _)
      case c2 => exact KLain.one _
      case c3 => simp only [maxLen]; omega
      case c4 => omega
      case c5 => simp; omega
      intro v' w4 hown4 hgrow _ hat
      have hat' : v'.ownBlock = u3.ownBlock ∨ v'.ownBlock = some (w1.heap.size + 1) := by simpa using hat
      obtain ⟨G', hKO'⟩ := KOwned.snoc HKO.out hO hx1 hgrow hat' hown4 HWF.out
      rw [HQ.out] at hKO'
      have HF := Lib.hid hKO'
      clear hKO' hat hat' hgrow hown1 hown hown4 hO hx1 hx hn1
      go_wp2_with fail
      go_roundw
      case rel => exact ⟨k + 1, _, G', HK.out, by have := HK.out; go_num, HF.out⟩
      case measure => have := HK.out; simp [intOf]; omega
    · have hki : ¬ (k : Int) < (ks.length : Int) := by omega
      have HF : Hid (KCopied ks w (.returned u3) wr) := Lib.hid ⟨_, zs, G, rfl, by rw [← List.take_of_length_le (show ks.length ≤ k by omega)]; exact hKO⟩
      clear hKO hx
      go_wp2_with fail
      go_ret
      exact HF.out
end Go.Proofs.YtkdhpifjljkpfaaGreat
