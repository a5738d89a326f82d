/- guard's rows at ground parts: put, same, compare. -/
import Derived.Test.YthmpolifgngdiaaMG
import Derived.Laws.StructEq
namespace Go.Proofs.Ythmpolifgngdiaa
open Go.RowKit

set_option maxRecDepth 100000 in
set_option maxHeartbeats 1000000 in
/-- what is no variable is put as it is -/
theorem put_any (p : Gpt) (R : Value) (w : World) (hk : p.k ≠ 1) :
    Calls Try.prog 27 #[R, p.val] w fun e w' => e = .returned p.val ∧ Ext w w' := by
  have hq : (p.k == 1) = false := by simpa using hk
  clear hk
  go_enter Try.func27, Try.ntmps27
  go_wp2_with fail
  refine bodyPost_ret (v := p.val) (by simp [results, Try.results27, go_sem, *]) rfl ⟨rfl, ?_⟩
  exact ((Ext.refl w).alloc _).alloc _

theorem eqLabG (x y a b : Int) (w : World) : (Op.equalIn 9999 52 (.agg #[.int .u64 x, .int .u64 y]) (.agg #[.int .u64 a, .int .u64 b])).run Try.prog w = .ok (x == a && y == b) w := by
  have u3 := Try.underlying50
  have a3 := Try.isAgg50
  have z3 := Try.sizeOf50
  rw [show (9999 : Nat) = 9998 + 1 from rfl, Op.equalIn]
  simp only [Sem.run_bind, run_underlying Try.underlying52, Result.andThen_ok]
  simp only [Std.Legacy.Range.forIn_eq_forIn_range', Std.Legacy.Range.size, Nat.sub_zero, Nat.add_sub_cancel, Nat.div_one, List.range'_succ, List.range'_zero, List.forIn_cons, List.forIn_nil]
  go_simp
  by_cases h1 : x = a <;> by_cases h2 : y = b <;> simp [h1, h2]
def ptEq (p q : Gpt) : Bool := (p.k == q.k) && (p.n == q.n) && (p.x == q.x) && (p.y == q.y)

theorem eqPt (p q : Gpt) (w : World) : (Op.equalIn 10000 54 p.val q.val).run Try.prog w = .ok (ptEq p q) w := by
  have u3 := Try.underlying3
  have a3 := Try.isAgg3
  have z3 := Try.sizeOf3
  have a4 := Try.isAgg52
  have z4 := Try.sizeOf52
  have EL := fun w => eqLabG p.x p.y q.x q.y w
  have hS : Try.prog.underlying 54 = some (.struct (Try.prog.fieldsOf 54)) := by kernel_rfl
  have hp : Try.prog.stoodInHeld 54 = false := by kernel_rfl
  rw [show (10000 : Nat) = 9999 + 1 from rfl, run_equalIn_agg w 9999 54 _ _ hS hp]
  simp only [Program.fieldsOf, Try.underlying54]
  unfold ptEq
  go_simp
  by_cases h1 : p.k = q.k <;> by_cases h2 : p.n = q.n <;> by_cases h3 : p.x = q.x <;> by_cases h4 : p.y = q.y <;> simp [h1, h2, h3, h4]

set_option maxRecDepth 100000 in
set_option maxHeartbeats 2000000 in
theorem same1_any (p q : Gpt) (g : Nat) (R : Value) (w : World) (hR : w.cell? ⟨g, 0, none⟩ = some R) (hp : p.k ≠ 1) (hq : q.k ≠ 1) :
    Calls Try.prog 35 #[p.val, q.val, .pointer (some ⟨g, 0, none⟩)] w fun e w' => e = .returned (.bool (ptEq p q)) ∧ Ext w w' := by
  obtain ⟨W, hW⟩ : ∃ W, W = (w.alloc (.cells #[.int .i64 p.k, .int .i64 p.n, .int .u64 p.x, .int .u64 p.y] 54)).alloc (.cells #[.int .i64 q.k, .int .i64 q.n, .int .u64 q.x, .int .u64 q.y] 54) := ⟨_, rfl⟩
  have hb : Ext w W := by rw [hW]; exact ((Ext.refl w).alloc _).alloc _
  have a0 : W.cell? ⟨w.heap.size, 0, none⟩ = some (.int .i64 p.k) := by rw [hW]; go_simp
  have a1 : W.cell? ⟨w.heap.size, 1, none⟩ = some (.int .i64 p.n) := by rw [hW]; go_simp
  have a2 : W.cell? ⟨w.heap.size, 2, none⟩ = some (.int .u64 p.x) := by rw [hW]; go_simp
  have a3 : W.cell? ⟨w.heap.size, 3, none⟩ = some (.int .u64 p.y) := by rw [hW]; go_simp
  have b0 : W.cell? ⟨w.heap.size + 1, 0, none⟩ = some (.int .i64 q.k) := by rw [hW]; go_simp
  have b1 : W.cell? ⟨w.heap.size + 1, 1, none⟩ = some (.int .i64 q.n) := by rw [hW]; go_simp
  have b2 : W.cell? ⟨w.heap.size + 1, 2, none⟩ = some (.int .u64 q.x) := by rw [hW]; go_simp
  have b3 : W.cell? ⟨w.heap.size + 1, 3, none⟩ = some (.int .u64 q.y) := by rw [hW]; go_simp
  have g0 := hb.cell hR
  have q0 : ∀ p : ExtOf W, p.to.cell? _ = _ := ext_cell a0
  have q1 : ∀ p : ExtOf W, p.to.cell? _ = _ := ext_cell a1
  have q2 : ∀ p : ExtOf W, p.to.cell? _ = _ := ext_cell a2
  have q3 : ∀ p : ExtOf W, p.to.cell? _ = _ := ext_cell a3
  have r0 : ∀ p : ExtOf W, p.to.cell? _ = _ := ext_cell b0
  have r1 : ∀ p : ExtOf W, p.to.cell? _ = _ := ext_cell b1
  have r2 : ∀ p : ExtOf W, p.to.cell? _ = _ := ext_cell b2
  have r3 : ∀ p : ExtOf W, p.to.cell? _ = _ := ext_cell b3
  have rg : ∀ p : ExtOf W, p.to.cell? _ = _ := ext_cell g0
  have KP := Lib.hid (fun u : World => put_any p R u hp)
  have KQ := Lib.hid (fun u : World => put_any q R u hq)
  have HW := Lib.hid hW
  have E : Hid (ptEq p q = ((p.k == q.k) && (p.n == q.n) && (p.x == q.x) && (p.y == q.y))) := Lib.hid rfl
  clear a0 a1 a2 a3 b0 b1 b2 b3 g0 hW hp hq
  go_enter Try.func35, Try.ntmps35
  go_upto_region 1 with (fail)
  rw [← HW.out]
  clear HW
  have EQ := fun w : World => eqPt p q w
  have hm : Try.prog.eqGuardType Try.prog.depth 54 = false := by kernel_rfl
  refine wp_region_ext (by kernel_rfl) (by kernel_rfl) ?_
  repeat (go_big_quiet_step (first | (go_at_call 27; with_reducible exact of_ext (KP.out _)) | (go_at_call 27; with_reducible exact of_ext (KQ.out _))))
  refine wpQuiet_nil ?_
  refine ext_all ?_
  intro w2 hx2
  clear q0 q1 q2 q3 r0 r1 r2 r3 rg EQ hm
  go_wp2_with fail
  go_ret
  exact ⟨rfl, hb.trans hx2⟩

/-- parts from A on -/
def GptsAt (w : World) (L : List Gpt) (A : Option Addr) : Prop := ∀ i (h : i < L.length), ∃ b o, A = some ⟨b, o, none⟩ ∧ w.cell? ⟨b, o + i * 4, none⟩ = some (.int .i64 L[i].k) ∧ w.cell? ⟨b, o + i * 4 + 1, none⟩ = some (.int .i64 L[i].n) ∧
  w.cell? ⟨b, o + i * 4 + 2, none⟩ = some (.int .u64 L[i].x) ∧ w.cell? ⟨b, o + i * 4 + 3, none⟩ = some (.int .u64 L[i].y)
theorem GptsAt.ext {w w' : World} {L : List Gpt} {A : Option Addr} (h : GptsAt w L A) (k : Ext w w') : GptsAt w' L A := fun i hi => by
  obtain ⟨b, o, e, c0, c1, c2, c3⟩ := h i hi
  exact ⟨b, o, e, k.cell c0, k.cell c1, k.cell c2, k.cell c3⟩
theorem owned_pts {w : World} {base : Nat} {v : Value} {L : List Gpt} (h : w.ownsRow base 54 4 v L.length (ptCells L)) : ∃ A c, v = .slice A L.length c ∧ L.length ≤ c ∧ GptsAt w L A := by
  rcases h.2 with ⟨rfl, h0⟩ | ⟨g, cap, cur, rfl, _, _, hc, _⟩
  · have e : L = [] := List.eq_nil_of_length_eq_zero h0
    subst e
    exact ⟨none, 0, rfl, Nat.le_refl _, fun i hi => absurd hi (by simp)⟩
  · refine ⟨_, cap, rfl, hc, fun i hi => ⟨g, 0, rfl, ?_⟩⟩
    have cell : ∀ j, j < 4 → w.cell? ⟨g, 0 + i * 4 + j, none⟩ = L[i].cells[j]? := fun j hj => by
      rw [show 0 + i * 4 + j = i * 4 + j by omega, h.cellAt (i * 4 + j) (by omega), ptCells_at L i j hi hj]
    refine ⟨?_, ?_, ?_, ?_⟩
    · have := cell 0 (by omega); simpa [Gpt.cells] using this
    · have := cell 1 (by omega); simpa [Gpt.cells] using this
    · have := cell 2 (by omega); simpa [Gpt.cells] using this
    · have := cell 3 (by omega); simpa [Gpt.cells] using this
theorem pts_out {L : List Gpt} {w : World} {e : Ending} {w' : World} (h : GptsOut L w e w') : ∃ A c, e = .returned (.slice A L.length c) ∧ GptsAt w' L A ∧ Ext w w' := by
  obtain ⟨v, rfl, ho, hx⟩ := h
  obtain ⟨A, c, rfl, _, hP⟩ := owned_pts ho
  exact ⟨A, c, rfl, hP, hx⟩

def ptsEq : List Gpt → List Gpt → Bool
  | [], [] => true
  | p :: L, q :: M => ptEq p q && ptsEq L M
  | _, _ => false
theorem ptEq_iff (p q : Gpt) : ptEq p q = true ↔ p = q := by
  obtain ⟨a, b, c, d⟩ := p
  obtain ⟨a', b', c', d'⟩ := q
  simp [ptEq, and_assoc]
theorem ptsEq_iff : ∀ L M : List Gpt, ptsEq L M = true ↔ L = M
  | [], [] => by simp [ptsEq]
  | [], q :: M => by simp [ptsEq]
  | p :: L, [] => by simp [ptsEq]
  | p :: L, q :: M => by simp [ptsEq, ptEq_iff, ptsEq_iff L M]
theorem ptsEq_len {L M : List Gpt} (h : L.length ≠ M.length) : ptsEq L M = false := by
  rw [Bool.eq_false_iff]
  intro e
  rw [ptsEq_iff] at e
  exact h (by rw [e])

set_option maxRecDepth 100000 in
set_option maxHeartbeats 2000000 in
theorem equalPts_any (L M : List Gpt) (A B : Option Addr) (c d g : Nat) (R : Value) (w : World) (hl : L.length ≤ 1000000) (hA : GptsAt w L A) (hB : GptsAt w M B) (hR : w.cell? ⟨g, 0, none⟩ = some R) (hL1 : ∀ p ∈ L, p.k ≠ 1) (hM1 : ∀ p ∈ M, p.k ≠ 1) :
    Calls Try.prog 34 #[.slice A L.length c, .slice B M.length d, .func (.func 35) #[] #[.pointer (some ⟨g, 0, none⟩)]] w fun e w' => e = .returned (.bool (ptsEq L M)) ∧ Ext w w' := by
  by_cases hne : L.length = M.length
  · have hq : (((L.length : Nat) : Int) != (M.length : Int)) = false := by simp [hne]
    have H1L := Lib.hid hL1
    have H1M := Lib.hid hM1
    have HNE := Lib.hid hne
    clear hL1 hM1 hne
    go_enter Try.func34, Try.ntmps34
    go_wp2_with fail
    go_loopw [17] (fun i wr => ∃ k : Nat, k ≤ L.length ∧ i = .int .i64 k ∧ Hid (ptsEq L M = ptsEq (L.drop k) (M.drop k)) ∧ Ext w wr) (fun i _ => L.length - (intOf i).toNat)
    case atStart => exact ⟨0, Nat.zero_le _, rfl, Lib.hid rfl, Ext.refl _⟩
    case round =>
      obtain ⟨k, hk, rfl, HE, hx⟩ := hrel
      by_cases hlt : k < L.length
      · have hlm : k < M.length := by have := HNE.out; omega
        obtain ⟨b, o, rfl, a0, a1, a2, a3⟩ := (hA.ext hx) k hlt
        obtain ⟨b', o', rfl, b0, b1, b2, b3⟩ := (hB.ext hx) k hlm
        have k0 : (0 : Int) ≤ (k : Int) := Int.natCast_nonneg _
        have k1 : (k : Int) < (L.length : Int) := by omega
        have k2 : (k : Int) < (M.length : Int) := by omega
        have n1 := Lib.hid (H1L.out _ (List.getElem_mem hlt))
        have n2 := Lib.hid (H1M.out _ (List.getElem_mem hlm))
        have HE2 : Hid (ptsEq L M = (ptEq L[k] M[k] && ptsEq (L.drop (k + 1)) (M.drop (k + 1)))) := Lib.hid (by rw [HE.out, List.drop_eq_getElem_cons hlt, List.drop_eq_getElem_cons hlm, ptsEq])
        have hRr := hx.cell hR
        have hbl := World.block_lt_of_cell? wr _ a0
        have hbm := World.block_lt_of_cell? wr _ b0
        have hgl := World.block_lt_of_cell? wr _ hRr
        simp only at hbl hbm hgl
        generalize L[k] = p at *
        generalize M[k] = q at *
        clear HE
        go_wp2_with fail
        refine (same1_any p q g R _ (((Ext.refl wr).alloc _).alloc _ |>.cell hRr) n1.out n2.out).mono ?_
        rintro e1 w1 ⟨rfl, hx1⟩
        have hx1' : Ext w w1 := hx.trans ((((Ext.refl wr).alloc _).alloc _).trans hx1)
        clear hRr a0 a1 a2 a3 b0 b1 b2 b3
        cases hpq : ptEq p q with
        | true =>
          have HE3 : Hid (ptsEq L M = ptsEq (L.drop (k + 1)) (M.drop (k + 1))) := Lib.hid (by rw [HE2.out, hpq, Bool.true_and])
          clear HE2 hpq
          go_wp2_with fail
          go_roundw
          case rel => exact ⟨k + 1, by omega, by go_num, HE3, hx1'⟩
          case measure => simp [intOf]; omega
        | false =>
          have HE3 : Hid (ptsEq L M = false) := Lib.hid (by rw [HE2.out, hpq, Bool.false_and])
          clear HE2 hpq
          go_wp2_with fail
          go_ret
          exact ⟨by rw [HE3.out]; rfl, hx1'⟩
      · have HE3 : Hid (ptsEq L M = true) := Lib.hid (by have := HNE.out; rw [HE.out, List.drop_eq_nil_of_le (by omega), List.drop_eq_nil_of_le (by omega), ptsEq])
        clear HE
        go_wp2_with fail
        go_ret
        exact ⟨by rw [HE3.out]; rfl, hx⟩
  · have hq : (((L.length : Nat) : Int) != (M.length : Int)) = true := by simp; omega
    have HE3 : Hid (ptsEq L M = false) := Lib.hid (ptsEq_len hne)
    clear hne
    go_enter Try.func34, Try.ntmps34
    go_wp2_with fail
    go_ret
    exact ⟨by rw [HE3.out]; rfl, Ext.refl _⟩

theorem ground_ne {hh : Nat} : ∀ t : Tm, t.high ≤ hh → allP t → groundT t = true → ∀ p ∈ gpT t, p.k ≠ 1 := by
  have step : ∀ hh : Nat, (∀ t : Tm, t.high ≤ hh → allP t → groundT t = true → ∀ p ∈ gpT t, p.k ≠ 1) → ∀ ts : List Tm, highs ts ≤ hh → allPs ts → groundL ts = true → ∀ p ∈ gpL ts, p.k ≠ 1 := by
    intro hh ih ts
    induction ts with
    | nil => intro _ _ _ p hp; simp [gpL] at hp
    | cons a ts ihl =>
      intro hhi pa ga p hp
      simp only [highs] at hhi
      simp only [allPs] at pa
      simp only [groundL, Bool.and_eq_true] at ga
      rw [gpL] at hp
      rcases List.mem_append.1 hp with hp | hp
      · exact ih a (by omega) pa.1 ga.1 p hp
      · exact ihl (by omega) pa.2 ga.2 p hp
  induction hh with
  | zero => intro t h0; have := high_pos t; omega
  | succ hh ih =>
    intro t h0 pt gt p hp
    have hth : highs t.args ≤ hh := by obtain ⟨k, s, n, l⟩ := t; simp only [Tm.high] at h0; simp only; omega
    rw [gpT_eq] at hp
    rcases List.mem_cons.1 hp with rfl | hp
    · have hk := (ground_g gt).2
      unfold ptOf
      split
      · exact (by decide : (2 : Int) ≠ 1)
      · exact hk
    · exact step hh ih t.args hth pt.args (ground_g gt).1 p hp

set_option maxRecDepth 100000 in
set_option maxHeartbeats 1000000 in
theorem same_any (L M : List Gpt) (A B : Option Addr) (c d : Nat) (R : Value) (w : World) (hl : L.length ≤ 1000000) (hA : GptsAt w L A) (hB : GptsAt w M B) (hL1 : ∀ p ∈ L, p.k ≠ 1) (hM1 : ∀ p ∈ M, p.k ≠ 1) (hRv : ∃ a, R = .pointer (some ⟨a, 0, none⟩)) :
    Calls Try.prog 26 #[R, .slice A L.length c, .slice B M.length d] w fun e w' => e = .returned (.bool (ptsEq L M)) ∧ Ext w w' := by
  obtain ⟨a, rfl⟩ := hRv
  have KE := Lib.hid (equalPts_any L M A B c d w.heap.size (.pointer (some ⟨a, 0, none⟩)) (w.alloc (.cells #[.pointer (some ⟨a, 0, none⟩)] 49)) hl (hA.ext ((Ext.refl w).alloc _)) (hB.ext ((Ext.refl w).alloc _)) (by go_simp) hL1 hM1)
  clear hA hB hL1 hM1
  go_enter Try.func26, Try.ntmps26
  go_wp2_with fail
  refine KE.out.mono ?_
  rintro e1 w1 ⟨rfl, hx1⟩
  go_wp2_with fail
  go_ret
  exact ⟨rfl, ((Ext.refl w).alloc _).trans hx1⟩
end Go.Proofs.Ythmpolifgngdiaa
