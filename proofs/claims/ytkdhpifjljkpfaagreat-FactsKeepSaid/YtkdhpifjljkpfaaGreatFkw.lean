/- almagestref0.EqKept, EqKepts, EqFacts: the same ones are alike. -/
import Derived.Test.YtkdhpifjljkpfaaGreatFB
import Derived.Test.YtkdhpifjljkpfaaGreatExt
namespace Go.Proofs.YtkdhpifjljkpfaaGreat
open Go.RowKit

theorem eqF_self (x : Fc) : eqF x x = true := (eqF_iff x x).2 rfl
theorem eqFact_yes (x : Fc) (A B : Option Addr) (c d : Nat) (w : World) (hx : TmAt w x.tm A c) (hy : TmAt w x.tm B d) :
    Calls Tryz.prog 29 #[x.val A c, x.val B d] w fun e w' => e = .returned (.bool true) ∧ Ext w w' :=
  (eqFact_any x x A B c d w hx hy).mono fun _ _ ⟨he, hw⟩ => ⟨by rw [he, eqF_self], hw⟩
set_option maxHeartbeats 2000000 in
theorem eqKept_yes (x : Kp) (A B : Option Addr) (c d : Nat) (w : World) (hx : TmAt w x.fc.tm A c) (hy : TmAt w x.fc.tm B d) :
    Calls Tryz.prog 44 #[.agg #[.int .i64 x.seq, .int .i64 x.fc.tm.kind, .string x.fc.tm.name, .int .i64 x.fc.tm.n, .slice A x.fc.tm.args.length c, .int .i64 x.fc.fr, .int .i64 x.fc.til], .agg #[.int .i64 x.seq, .int .i64 x.fc.tm.kind, .string x.fc.tm.name, .int .i64 x.fc.tm.n, .slice B x.fc.tm.args.length d, .int .i64 x.fc.fr, .int .i64 x.fc.til]] w fun e w' => e = .returned (.bool true) ∧ Ext w w' := by
  obtain ⟨W, hW⟩ : ∃ W, W = (w.alloc (.cells #[.int .i64 x.seq, .int .i64 x.fc.tm.kind, .string x.fc.tm.name, .int .i64 x.fc.tm.n, .slice A x.fc.tm.args.length c, .int .i64 x.fc.fr, .int .i64 x.fc.til] 50)).alloc (.cells #[.int .i64 x.seq, .int .i64 x.fc.tm.kind, .string x.fc.tm.name, .int .i64 x.fc.tm.n, .slice B x.fc.tm.args.length d, .int .i64 x.fc.fr, .int .i64 x.fc.til] 50) := ⟨_, rfl⟩
  have hx0 : Ext w W := by rw [hW]; exact ((Ext.refl w).alloc _).alloc _
  have a0 : W.cell? ⟨w.heap.size, 0, none⟩ = some (.int .i64 x.seq) := by rw [hW]; go_simp
  have a1 : W.cell? ⟨w.heap.size, 1, none⟩ = some (.int .i64 x.fc.tm.kind) := by rw [hW]; go_simp
  have a2 : W.cell? ⟨w.heap.size, 2, none⟩ = some (.string x.fc.tm.name) := by rw [hW]; go_simp
  have a3 : W.cell? ⟨w.heap.size, 3, none⟩ = some (.int .i64 x.fc.tm.n) := by rw [hW]; go_simp
  have a4 : W.cell? ⟨w.heap.size, 4, none⟩ = some (.slice A x.fc.tm.args.length c) := by rw [hW]; go_simp
  have a5 : W.cell? ⟨w.heap.size, 5, none⟩ = some (.int .i64 x.fc.fr) := by rw [hW]; go_simp
  have a6 : W.cell? ⟨w.heap.size, 6, none⟩ = some (.int .i64 x.fc.til) := by rw [hW]; go_simp
  have b0 : W.cell? ⟨w.heap.size + 1, 0, none⟩ = some (.int .i64 x.seq) := by rw [hW]; go_simp
  have b1 : W.cell? ⟨w.heap.size + 1, 1, none⟩ = some (.int .i64 x.fc.tm.kind) := by rw [hW]; go_simp
  have b2 : W.cell? ⟨w.heap.size + 1, 2, none⟩ = some (.string x.fc.tm.name) := by rw [hW]; go_simp
  have b3 : W.cell? ⟨w.heap.size + 1, 3, none⟩ = some (.int .i64 x.fc.tm.n) := by rw [hW]; go_simp
  have b4 : W.cell? ⟨w.heap.size + 1, 4, none⟩ = some (.slice B x.fc.tm.args.length d) := by rw [hW]; go_simp
  have b5 : W.cell? ⟨w.heap.size + 1, 5, none⟩ = some (.int .i64 x.fc.fr) := by rw [hW]; go_simp
  have b6 : W.cell? ⟨w.heap.size + 1, 6, none⟩ = some (.int .i64 x.fc.til) := by rw [hW]; go_simp
  have KO := Lib.hid (eqFact_yes x.fc A B c d W (hx.ext hx0) (hy.ext hx0))
  have HW := Lib.hid hW
  clear hW hx hy
  go_enter Tryz.func44, Tryz.ntmps44
  go_upto_region 1 with (fail)
  rw [← HW.out]
  clear HW
  go_wp2_with fail
  refine KO.out.mono ?_
  rintro e w2 ⟨rfl, hx2⟩
  have HX := Lib.hid (hx0.trans hx2)
  clear hx0 hx2 KO a0 b0 a1 b1 a2 b2 a3 b3 a4 b4 a5 b5 a6 b6
  go_wp2_with fail
  go_ret
  exact ⟨rfl, HX.out⟩

set_option maxRecDepth 100000 in
set_option maxHeartbeats 2000000 in
theorem eqFacts_yes (xs : List Fc) (A B : Option Addr) (c d : Nat) (w : World) (hl : xs.length ≤ 1000000) (ha : FcsAt w xs A) (hb : FcsAt w xs B) :
    Calls Tryz.prog 11 #[.slice A xs.length c, .slice B xs.length d] w fun e w' => e = .returned (.bool true) ∧ Ext w w' := by
  go_enter Tryz.func11, Tryz.ntmps11
  go_wp2_with fail
  go_loopw [5] (fun i wr => ∃ k : Nat, k ≤ xs.length ∧ i = .int .i64 k ∧ Ext w wr) (fun i _ => xs.length - (intOf i).toNat)
  case atStart => exact ⟨0, Nat.zero_le _, rfl, Ext.refl _⟩
  case round =>
    obtain ⟨k, hk, rfl, hx⟩ := hrel
    by_cases hlt : k < xs.length
    · obtain ⟨b, o, C, e, rfl, c0, c1, c2, c3, c4, c5, hT⟩ := (ha.ext hx) k hlt
      obtain ⟨b2, o2, C2, e2, rfl, d0, d1, d2, d3, d4, d5, hT2⟩ := (hb.ext hx) k hlt
      have i0 : (0 : Int) ≤ (k : Int) := Int.natCast_nonneg _
      have i1 : (k : Int) < (xs.length : Int) := by omega
      have HK := Lib.hid hlt
      have HX := Lib.hid hx
      generalize xs[k] = x at *
      have KEY := Lib.hid (fun u (k' : Ext wr u) => eqFact_yes x C C2 e e2 u (hT.ext k') (hT2.ext k'))
      have q0 : ∀ p : ExtOf wr, p.to.cell? _ = _ := ext_cell c0
      have q1 : ∀ p : ExtOf wr, p.to.cell? _ = _ := ext_cell c1
      have q2 : ∀ p : ExtOf wr, p.to.cell? _ = _ := ext_cell c2
      have q3 : ∀ p : ExtOf wr, p.to.cell? _ = _ := ext_cell c3
      have q4 : ∀ p : ExtOf wr, p.to.cell? _ = _ := ext_cell c4
      have q5 : ∀ p : ExtOf wr, p.to.cell? _ = _ := ext_cell c5
      have p0 : ∀ p : ExtOf wr, p.to.cell? _ = _ := ext_cell d0
      have p1 : ∀ p : ExtOf wr, p.to.cell? _ = _ := ext_cell d1
      have p2 : ∀ p : ExtOf wr, p.to.cell? _ = _ := ext_cell d2
      have p3 : ∀ p : ExtOf wr, p.to.cell? _ = _ := ext_cell d3
      have p4 : ∀ p : ExtOf wr, p.to.cell? _ = _ := ext_cell d4
      have p5 : ∀ p : ExtOf wr, p.to.cell? _ = _ := ext_cell d5
      clear hT hT2 hx c0 c1 c2 c3 c4 c5 d0 d1 d2 d3 d4 d5
      go_wp2_with fail
      refine wp_region_ext (by kernel_rfl) (by kernel_rfl) ?_
      repeat (go_big_quiet_step ((go_at_call 29; with_reducible exact of_ext (KEY.out _ (ExtOf.is _)))))
      refine wpQuiet_nil ?_
      refine ext_all ?_
      intro w2 hx2
      have HX2 := Lib.hid (HX.out.trans hx2)
      clear hx2 q0 q1 q2 q3 q4 q5 p0 p1 p2 p3 p4 p5 KEY
      go_wp2_with fail
      go_roundw
      case rel => exact ⟨k + 1, HK.out, by have := HK.out; go_num, HX2.out⟩
      case measure => have := HK.out; simp [intOf]; omega
    · have i1 : ¬ (k : Int) < (xs.length : Int) := by omega
      have HX := Lib.hid hx
      clear hx
      go_wp2_with fail
      go_ret
      exact ⟨rfl, HX.out⟩

set_option maxRecDepth 100000 in
set_option maxHeartbeats 2000000 in
theorem eqKepts_yes (xs : List Kp) (A B : Option Addr) (c d : Nat) (w : World) (hl : xs.length ≤ 1000000) (ha : KpsAt w xs A) (hb : KpsAt w xs B) :
    Calls Tryz.prog 19 #[.slice A xs.length c, .slice B xs.length d] w fun e w' => e = .returned (.bool true) ∧ Ext w w' := by
  go_enter Tryz.func19, Tryz.ntmps19
  go_wp2_with fail
  go_loopw [5] (fun i wr => ∃ k : Nat, k ≤ xs.length ∧ i = .int .i64 k ∧ Ext w wr) (fun i _ => xs.length - (intOf i).toNat)
  case atStart => exact ⟨0, Nat.zero_le _, rfl, Ext.refl _⟩
  case round =>
    obtain ⟨k, hk, rfl, hx⟩ := hrel
    by_cases hlt : k < xs.length
    · obtain ⟨b, o, C, e, rfl, c0, c1, c2, c3, c4, c5, c6, hT, _⟩ := (ha.ext hx) k hlt
      obtain ⟨b2, o2, C2, e2, rfl, d0, d1, d2, d3, d4, d5, d6, hT2, _⟩ := (hb.ext hx) k hlt
      have i0 : (0 : Int) ≤ (k : Int) := Int.natCast_nonneg _
      have i1 : (k : Int) < (xs.length : Int) := by omega
      have HK := Lib.hid hlt
      have HX := Lib.hid hx
      generalize xs[k] = x at *
      have KEY := Lib.hid (fun u (k' : Ext wr u) => eqKept_yes x C C2 e e2 u (hT.ext k') (hT2.ext k'))
      have q0 : ∀ p : ExtOf wr, p.to.cell? _ = _ := ext_cell c0
      have q1 : ∀ p : ExtOf wr, p.to.cell? _ = _ := ext_cell c1
      have q2 : ∀ p : ExtOf wr, p.to.cell? _ = _ := ext_cell c2
      have q3 : ∀ p : ExtOf wr, p.to.cell? _ = _ := ext_cell c3
      have q4 : ∀ p : ExtOf wr, p.to.cell? _ = _ := ext_cell c4
      have q5 : ∀ p : ExtOf wr, p.to.cell? _ = _ := ext_cell c5
      have q6 : ∀ p : ExtOf wr, p.to.cell? _ = _ := ext_cell c6
      have p0 : ∀ p : ExtOf wr, p.to.cell? _ = _ := ext_cell d0
      have p1 : ∀ p : ExtOf wr, p.to.cell? _ = _ := ext_cell d1
      have p2 : ∀ p : ExtOf wr, p.to.cell? _ = _ := ext_cell d2
      have p3 : ∀ p : ExtOf wr, p.to.cell? _ = _ := ext_cell d3
      have p4 : ∀ p : ExtOf wr, p.to.cell? _ = _ := ext_cell d4
      have p5 : ∀ p : ExtOf wr, p.to.cell? _ = _ := ext_cell d5
      have p6 : ∀ p : ExtOf wr, p.to.cell? _ = _ := ext_cell d6
      clear hT hT2 hx c0 c1 c2 c3 c4 c5 c6 d0 d1 d2 d3 d4 d5 d6
      go_wp2_with fail
      refine wp_region_ext (by kernel_rfl) (by kernel_rfl) ?_
      repeat (go_big_quiet_step ((go_at_call 44; with_reducible exact of_ext (KEY.out _ (ExtOf.is _)))))
      refine wpQuiet_nil ?_
      refine ext_all ?_
      intro w2 hx2
      have HX2 := Lib.hid (HX.out.trans hx2)
      clear hx2 q0 q1 q2 q3 q4 q5 q6 p0 p1 p2 p3 p4 p5 p6 KEY
      go_wp2_with fail
      go_roundw
      case rel => exact ⟨k + 1, HK.out, by have := HK.out; go_num, HX2.out⟩
      case measure => have := HK.out; simp [intOf]; omega
    · have i1 : ¬ (k : Int) < (xs.length : Int) := by omega
      have HX := Lib.hid hx
      clear hx
      go_wp2_with fail
      go_ret
      exact ⟨rfl, HX.out⟩

end Go.Proofs.YtkdhpifjljkpfaaGreat
