/- Joined: Gca, Gcb, Gcc. -/
import Derived.Test.YthmpolifgngdiaaMD
import Derived.Test.YthmpolifgngdiaaMC
import Derived.Test.YthmpolifgngdiaaKey
import Derived.Test.YthmpolifgngdiaaWi
import Derived.Test.YthmpolifgngdiaaExt
import Derived.StillTailTactics
import Derived.Deep.RegionHeld3
import Derived.Deep.DeepCutAuto
import Derived.Deep.CutBlock
import Derived.Test.YthmpolifgngdiaaApp
import Derived.Test.YthmpolifgngdiaaOrd

/- guard's labels and parts: shiftOf, labelOf, part. -/
namespace Go.Proofs.Ythmpolifgngdiaa
open Go.RowKit

theorem shiftG_any (i : Nat) (w : World) (hi : i < 16) :
    Calls Try.prog 41 #[.int .i64 i] w fun e w' => e = .returned (.int .u64 ((8 * (7 - i % 8) : Nat) : Int)) ∧ w' = w := by
  go_enter Try.func41, Try.ntmps41
  go_wp2
  go_ret
  exact ⟨ret_int (by omega), rfl⟩

set_option maxRecDepth 100000 in
set_option maxHeartbeats 1000000 in
theorem labelG_any (s : ByteArray) (w : World) (hs : s.size ≤ 16) :
    Calls Try.prog 36 #[.string s] w fun e w' => e = .returned (.agg #[.int .u64 (nm 8 s.data.toList : Nat), .int .u64 (nm 8 (s.data.toList.drop 8) : Nat)]) ∧ Ext w w' := by
  go_enter Try.func36, Try.ntmps36
  go_wp2_with fail
  go_loopw [7] (fun i wr => ∃ (k : Nat), k ≤ s.size ∧ i = .int .i64 k ∧ Hid (Pair wr (w.heap.size + 1) (nm 8 (s.data.toList.take k) : Nat) (nm 8 ((s.data.toList.take k).drop 8) : Nat)) ∧ Hid (Pair wr w.heap.size 0 0) ∧ Ext w wr ∧ w.heap.size + 1 < wr.heap.size) (fun i _ => s.size - (intOf i).toNat)
  case atStart => exact ⟨0, Nat.zero_le _, rfl, Lib.hid ⟨by go_simp; rfl, by go_simp; rfl, by go_simp, by go_simp⟩, Lib.hid ⟨by go_simp, by go_simp, by go_simp, by go_simp⟩, ((Ext.refl w).alloc _).alloc _, by simp⟩
  case round =>
    obtain ⟨k, hk, rfl, HP, HZ, hx, hsz⟩ := hrel
    by_cases hlt : k < s.size
    · obtain ⟨p0, p1, f0, f1⟩ := HP.out
      by_cases h8 : k < 8
      · have hk8 : (k : Int) / 8 = 0 := by omega
        obtain ⟨v1, v2⟩ := low_step s k hlt h8
        have V1 := Lib.hid v1
        have V2 := Lib.hid v2
        clear v1 v2
        go_wp2_with fail
        refine wp_region_still_tail 13 (by kernel_rfl) (by kernel_rfl) ?_
        simp only [List.take_succ_cons, List.take_zero, List.drop_succ_cons, List.drop_zero]
        have hwr0 : IntKind.i64.wrap 0 = 0 := by decide
        iterate 9 still_step
        still_call (shiftG_any k _ (by omega))
        repeat still_step
        refine wpStill_nil ?_
        rw [V1.out]
        change wpList _ _ _ _ _ wr.drew
        go_wp2_with fail
        go_roundw
        case rel => exact ⟨k + 1, by omega, by go_num, Lib.hid (by rw [V2.out]; exact (HP.out.set0 _).drew), Lib.hid ((HZ.out.far _ (by omega)).drew), (hx.setCell (show w.heap.size ≤ w.heap.size + 1 by omega) _).drew, by simpa using hsz⟩
        case measure => simp [intOf]; omega
      · have hk8 : (k : Int) / 8 = 1 := by omega
        obtain ⟨v1, v2⟩ := high_step s k hlt (by omega) (by omega)
        have V1 := Lib.hid v1
        have V2 := Lib.hid v2
        clear v1 v2
        go_wp2_with fail
        refine wp_region_still_tail 13 (by kernel_rfl) (by kernel_rfl) ?_
        simp only [List.take_succ_cons, List.take_zero, List.drop_succ_cons, List.drop_zero]
        have hwr0 : IntKind.i64.wrap 1 = 1 := by decide
        iterate 9 still_step
        still_call (shiftG_any k _ (by omega))
        repeat still_step
        refine wpStill_nil ?_
        rw [V1.out]
        change wpList _ _ _ _ _ wr.drew
        go_wp2_with fail
        go_roundw
        case rel => exact ⟨k + 1, by omega, by go_num, Lib.hid (by rw [V2.out]; exact (HP.out.set1 _).drew), Lib.hid ((HZ.out.far _ (by omega)).drew), (hx.setCell (show w.heap.size ≤ w.heap.size + 1 by omega) _).drew, by simpa using hsz⟩
        case measure => simp [intOf]; omega
    · obtain ⟨p0, p1, f0, f1⟩ := HP.out
      obtain ⟨q0, q1, g0, g1⟩ := HZ.out
      have e : s.data.toList.length = s.size := by rw [Array.length_toList]; rfl
      have hts : s.data.toList.take k = s.data.toList := List.take_of_length_le (by omega)
      rw [hts] at p0 p1
      clear hts e HP
      go_wp2_with fail
      refine bodyPost_ret (v := .agg #[.int .u64 (nm 8 s.data.toList : Nat), .int .u64 (nm 8 (s.data.toList.drop 8) : Nat)]) (by simp [results, Try.results36, go_sem, *]) rfl ⟨rfl, ?_⟩
      exact (hx.setCell (Nat.le_refl _) _).setCell (Nat.le_refl _) _

theorem labG_inj {s t : ByteArray} (hs : Good s) (ht : Good t) (h : labOf s = labOf t) : s = t := by
  refine N16_inj hs ht ?_
  have h1 : nm 16 s.data.toList = nm 8 s.data.toList * 256 ^ 8 + nm 8 (s.data.toList.drop 8) := nm_join 8 8 _
  have h2 : nm 16 t.data.toList = nm 8 t.data.toList * 256 ^ 8 + nm 8 (t.data.toList.drop 8) := nm_join 8 8 _
  unfold labOf at h
  simp only [Prod.mk.injEq] at h
  unfold N16
  rw [h1, h2, show nm 8 s.data.toList = nm 8 t.data.toList by omega, show nm 8 (s.data.toList.drop 8) = nm 8 (t.data.toList.drop 8) by omega]

/-- a part: kind, number, the two words of its name -/
structure Gpt where
  k : Int
  n : Int
  x : Int
  y : Int
abbrev Gpt.val (p : Gpt) : Value := .agg #[.int .i64 p.k, .int .i64 p.n, .int .u64 p.x, .int .u64 p.y]
/-- what a ground term's part is -/
def ptOf (t : Tm) : Gpt := if t.kind = 2 then ⟨2, t.n, 0, 0⟩ else ⟨t.kind, t.args.length, (labOf t.name).1, (labOf t.name).2⟩

set_option maxRecDepth 100000 in
set_option maxHeartbeats 2000000 in
theorem part_any (t : Tm) (V : Value) (A : Option Addr) (c : Nat) (w : World) (hk : t.kind = 2 ∨ t.kind = 3) (hs : t.name.size ≤ 16) :
    Calls Try.prog 28 #[V, t.val A c] w fun e w' => e = .returned (ptOf t).val ∧ Ext w w' := by
  by_cases h2 : t.kind = 2
  · have hq : (t.kind == 2) = true := by rw [h2]; rfl
    have E : Hid ((ptOf t) = ⟨t.kind, t.n, 0, 0⟩) := Lib.hid (by unfold ptOf; rw [if_pos h2, h2])
    clear hk h2
    go_enter Try.func28, Try.ntmps28
    go_wp2_with fail
    refine bodyPost_ret (v := (⟨t.kind, t.n, 0, 0⟩ : Gpt).val) (by simp [results, Try.results28, go_sem, *]) rfl ⟨by rw [E.out], ?_⟩
    exact ((Ext.refl w).alloc _).alloc _
  · have h3 : t.kind = 3 := by rcases hk with h | h; exact absurd h h2; exact h
    have hq : (t.kind == 2) = false := by rw [h3]; rfl
    have hq3 : (t.kind == 3) = true := by rw [h3]; rfl
    have E : Hid ((ptOf t) = ⟨t.kind, t.args.length, (labOf t.name).1, (labOf t.name).2⟩) := Lib.hid (by unfold ptOf; rw [if_neg h2])
    clear hk h2 h3
    go_enter Try.func28, Try.ntmps28
    go_upto_region 5 with (fail)
    obtain ⟨wi, hwi⟩ : ∃ wi, wi = (w.alloc (.cells #[.int .i64 t.kind, .string t.name, .int .i64 t.n, .slice A t.args.length c] 32)).alloc (.cells #[.int .i64 0, .int .i64 0, .int .u64 0, .int .u64 0] 54) := ⟨_, rfl⟩
    rw [← hwi]
    have hxi : Ext w wi := by rw [hwi]; exact ((Ext.refl w).alloc _).alloc _
    have hsi : w.heap.size + 1 < wi.heap.size := by rw [hwi]; simp
    have a0 : wi.cell? ⟨w.heap.size, 0, none⟩ = some (.int .i64 t.kind) := by rw [hwi]; go_simp
    have a1 : wi.cell? ⟨w.heap.size, 1, none⟩ = some (.string t.name) := by rw [hwi]; go_simp
    have a3 : wi.cell? ⟨w.heap.size, 3, none⟩ = some (.slice A t.args.length c) := by rw [hwi]; go_simp
    have y0 : wi.cell? ⟨w.heap.size + 1, 0, none⟩ = some (.int .i64 0) := by rw [hwi]; go_simp
    have y1 : wi.cell? ⟨w.heap.size + 1, 1, none⟩ = some (.int .i64 0) := by rw [hwi]; go_simp
    have y2 : wi.cell? ⟨w.heap.size + 1, 2, none⟩ = some (.int .u64 0) := by rw [hwi]; go_simp
    have y3 : wi.cell? ⟨w.heap.size + 1, 3, none⟩ = some (.int .u64 0) := by rw [hwi]; go_simp
    have z := fun o => (show wi.frozen? ⟨w.heap.size + 1, o, none⟩ = false by rw [hwi]; go_simp)
    have Z := Lib.hid z
    clear hwi z
    have e0 : wi.drew.cell? ⟨w.heap.size, 0, none⟩ = some (.int .i64 t.kind) := a0
    have e1 : wi.drew.cell? ⟨w.heap.size, 1, none⟩ = some (.string t.name) := a1
    have e3 : wi.drew.cell? ⟨w.heap.size, 3, none⟩ = some (.slice A t.args.length c) := a3
    have KEY : Hid (Calls Try.prog 36 #[.string t.name] wi.drew fun e w' => e = .returned (.agg #[.int .u64 (labOf t.name).1, .int .u64 (labOf t.name).2]) ∧ Ext wi.drew w') := Lib.hid (labelG_any t.name wi.drew hs)
    go_region_held3 (fun u => u.cell? ⟨w.heap.size, 0, none⟩ = some (.int .i64 t.kind) ∧ u.cell? ⟨w.heap.size, 1, none⟩ = some (.string t.name) ∧ u.cell? ⟨w.heap.size, 3, none⟩ = some (.slice A t.args.length c))
      (first | (with_reducible exact ⟨a0, a1, a3⟩) | (with_reducible exact ⟨e0, e1, e3⟩) | (with_reducible exact ⟨hx2.cell e0, hx2.cell e1, hx2.cell e3⟩) | (exact ⟨set4_far (hx2.cell e0) (by omega), set4_far (hx2.cell e1) (by omega), set4_far (hx2.cell e3) (by omega)⟩))
      (first | (go_at_call 36; refine KEY.out.mono ?_; rintro ee w2 ⟨rfl, hx2⟩; have hx2' : Ext wi w2 := (Ext.refl _).drew.trans hx2; have v0 := hx2'.cell y0; have v1 := hx2'.cell y1; have v2 := hx2'.cell y2; have v3 := hx2'.cell y3; have g0 := (Below.frozen hx2' (p := ⟨w.heap.size + 1, 0, none⟩) hsi).trans (Z.out 0); have g1 := (Below.frozen hx2' (p := ⟨w.heap.size + 1, 1, none⟩) hsi).trans (Z.out 1); have g2 := (Below.frozen hx2' (p := ⟨w.heap.size + 1, 2, none⟩) hsi).trans (Z.out 2); have g3 := (Below.frozen hx2' (p := ⟨w.heap.size + 1, 3, none⟩) hsi).trans (Z.out 3)))
    clear e0 e1 e3 a0 a1 a3 y0 y1 y2 y3 KEY
    go_wp2_with fail
    refine bodyPost_ret (v := (⟨t.kind, t.args.length, (labOf t.name).1, (labOf t.name).2⟩ : Gpt).val) (by simp [results, Try.results28, go_sem, *]) rfl ⟨by rw [E.out], ?_⟩
    exact Chg.ext_of (hxi.trans hx2') (set4_chg w2 (w.heap.size + 1) 0 _ _ _ _ (F := fun x => x = w.heap.size + 1) rfl) (fun b hb => by omega)
end Go.Proofs.Ythmpolifgngdiaa

/- guard's parts of a ground term: a row of the call's own; which terms have the same. -/
namespace Go.Proofs.Ythmpolifgngdiaa
open Go.RowKit

mutual
/-- a ground term's parts, as in a text -/
def gpT : Tm → List Gpt
  | ⟨k, s, n, l⟩ => ptOf ⟨k, s, n, l⟩ :: gpL l
def gpL : List Tm → List Gpt
  | [] => []
  | t :: ts => gpT t ++ gpL ts
end
theorem gpT_eq (t : Tm) : gpT t = ptOf t :: gpL t.args := by obtain ⟨k, s, n, l⟩ := t; rw [gpT]
theorem gpL_app : ∀ a b : List Tm, gpL (a ++ b) = gpL a ++ gpL b
  | [], b => by simp [gpL]
  | t :: a, b => by rw [List.cons_append, gpL, gpL_app a b, gpL, List.append_assoc]
def Gpt.cells (p : Gpt) : List Value := [.int .i64 p.k, .int .i64 p.n, .int .u64 p.x, .int .u64 p.y]
def ptCells : List Gpt → List Value
  | [] => []
  | p :: l => p.cells ++ ptCells l
theorem ptCells_app : ∀ a b : List Gpt, ptCells (a ++ b) = ptCells a ++ ptCells b
  | [], b => by simp [ptCells]
  | t :: a, b => by rw [List.cons_append, ptCells, ptCells_app a b, ptCells, List.append_assoc]
theorem ptCells_one : ∀ l : List Gpt, ∀ u ∈ ptCells l, u.oneCell' = true
  | [], u, h => by simp [ptCells] at h
  | p :: l, u, h => by
    rw [ptCells] at h
    rcases List.mem_append.1 h with h | h
    · simp only [Gpt.cells, List.mem_cons, List.not_mem_nil, or_false] at h
      rcases h with rfl | rfl | rfl | rfl <;> rfl
    · exact ptCells_one l u h
theorem ptCells_at : ∀ (l : List Gpt) (i j : Nat) (hi : i < l.length), j < 4 → (ptCells l)[i * 4 + j]? = l[i].cells[j]?
  | p :: l, 0, j, _, hj => by
    rw [ptCells, List.getElem?_append_left (by simp [Gpt.cells]; omega), Nat.zero_mul, Nat.zero_add]; rfl
  | p :: l, i + 1, j, hi, hj => by
    have e : p.cells.length = 4 := rfl
    rw [ptCells, List.getElem?_append_right (by omega), e, show (i + 1) * 4 + j - 4 = i * 4 + j by omega, ptCells_at l i j (by simpa using hi) hj]
    rfl

theorem plain2g {t : Tm} (h : plainB t = true) (k2 : t.kind = 2) : t.name.toList = [] ∧ t.args = [] := by
  unfold plainB at h
  simp [k2] at h
  obtain ⟨⟨⟨h1, _⟩, _⟩, h4⟩ := h
  exact ⟨by simpa using h1, h4⟩
theorem kinds_g {t : Tm} (h : plainB t = true) (hg : t.kind ≠ 1) : t.kind = 2 ∨ t.kind = 3 := by
  unfold plainB at h
  by_cases h2 : t.kind = 2
  · exact .inl h2
  · by_cases h3 : t.kind = 3
    · exact .inr h3
    · simp [hg, h2, h3] at h
theorem plain3g {t : Tm} (h : plainB t = true) (k3 : t.kind = 3) : t.n = 0 := by
  unfold plainB at h
  simp [k3] at h
  exact h.1.2
theorem ground_g {t : Tm} (h : groundT t = true) : groundL t.args = true ∧ t.kind ≠ 1 := by
  obtain ⟨k, s, n, l⟩ := t
  simpa [groundT] using h
theorem groundL_at : ∀ {l : List Tm} (_ : groundL l = true) {i : Nat} (hi : i < l.length), groundT l[i] = true
  | t :: l, h, 0, _ => by rw [groundL, Bool.and_eq_true] at h; exact h.1
  | t :: l, h, i + 1, hi => by rw [groundL, Bool.and_eq_true] at h; exact groundL_at h.2 (by simpa using hi)
theorem good_g {t : Tm} (h : plainB t = true) : Good t.name := ⟨goodL_of_plain h, plain_name h⟩

theorem gp_inj (hh : Nat) : ∀ t u : Tm, t.high ≤ hh → allP t → allP u → groundT t = true → groundT u = true → ∀ r r', gpT t ++ r = gpT u ++ r' → eqT t u = true ∧ r = r' := by
  have step : ∀ hh : Nat, (∀ t u : Tm, t.high ≤ hh → allP t → allP u → groundT t = true → groundT u = true → ∀ r r', gpT t ++ r = gpT u ++ r' → eqT t u = true ∧ r = r') →
      ∀ ts us : List Tm, ts.length = us.length → highs ts ≤ hh → allPs ts → allPs us → groundL ts = true → groundL us = true → ∀ r r', gpL ts ++ r = gpL us ++ r' → eqL ts us = true ∧ r = r' := by
    intro hh ih ts
    induction ts with
    | nil =>
      intro us hl _ _ _ _ _ r r' h
      obtain rfl : us = [] := List.eq_nil_of_length_eq_zero (by simpa using hl.symm)
      exact ⟨by rw [eqL], h⟩
    | cons a ts ihl =>
      intro us hl hhi pa pu ga gu r r' h
      cases us with
      | nil => simp at hl
      | cons b us =>
        simp only [highs] at hhi
        simp only [allPs] at pa pu
        simp only [groundL, Bool.and_eq_true] at ga gu
        rw [gpL, gpL, List.append_assoc, List.append_assoc] at h
        obtain ⟨e1, h2⟩ := ih a b (by omega) pa.1 pu.1 ga.1 gu.1 _ _ h
        obtain ⟨e2, e3⟩ := ihl us (by simpa using hl) (by omega) pa.2 pu.2 ga.2 gu.2 _ _ h2
        exact ⟨by rw [eqL, e1, e2]; rfl, e3⟩
  induction hh with
  | zero => intro t u h0; have := high_pos t; omega
  | succ hh ih =>
    intro t u h0 pt pu gt gu r r' h
    have kt := kinds_g pt.plain (ground_g gt).2
    have ku := kinds_g pu.plain (ground_g gu).2
    rw [gpT_eq, gpT_eq, List.cons_append, List.cons_append] at h
    injection h with hp hl
    have hth : highs t.args ≤ hh := by obtain ⟨k, s, n, l⟩ := t; simp only [Tm.high] at h0; simp only; omega
    rcases kt with kt | kt
    · obtain ⟨nt, at_⟩ := plain2g pt.plain kt
      have ept : ptOf t = ⟨2, t.n, 0, 0⟩ := by unfold ptOf; rw [if_pos kt]
      rcases ku with ku | ku
      · obtain ⟨nu, au⟩ := plain2g pu.plain ku
        have epu : ptOf u = ⟨2, u.n, 0, 0⟩ := by unfold ptOf; rw [if_pos ku]
        rw [ept, epu] at hp
        injection hp with _ hn _ _
        rw [at_, au] at hl
        refine ⟨?_, by simpa [gpL] using hl⟩
        rw [eqT_eq, kt, ku, nt, nu, hn, at_, au, eqL]
        simp
      · have epu : ptOf u = ⟨u.kind, u.args.length, (labOf u.name).1, (labOf u.name).2⟩ := by unfold ptOf; rw [if_neg (by omega)]
        rw [ept, epu] at hp
        injection hp with hk _ _ _
        omega
    · have ept : ptOf t = ⟨t.kind, t.args.length, (labOf t.name).1, (labOf t.name).2⟩ := by unfold ptOf; rw [if_neg (by omega)]
      rcases ku with ku | ku
      · have epu : ptOf u = ⟨2, u.n, 0, 0⟩ := by unfold ptOf; rw [if_pos ku]
        rw [ept, epu] at hp
        injection hp with hk _ _ _
        omega
      · have epu : ptOf u = ⟨u.kind, u.args.length, (labOf u.name).1, (labOf u.name).2⟩ := by unfold ptOf; rw [if_neg (by omega)]
        rw [ept, epu] at hp
        injection hp with hk hn hx hy
        have hnm : t.name = u.name := labG_inj (good_g pt.plain) (good_g pu.plain) (Prod.ext hx hy)
        obtain ⟨e1, e2⟩ := step hh ih t.args u.args (by omega) hth pt.args pu.args (ground_g gt).1 (ground_g gu).1 _ _ hl
        refine ⟨?_, e2⟩
        rw [eqT_eq, kt, ku, hnm, plain3g pt.plain kt, plain3g pu.plain ku, e1]
        simp
theorem gp_eq (hh : Nat) : ∀ t u : Tm, t.high ≤ hh → eqT t u = true → gpT t = gpT u := by
  have step : ∀ hh : Nat, (∀ t u : Tm, t.high ≤ hh → eqT t u = true → gpT t = gpT u) → ∀ ts us : List Tm, highs ts ≤ hh → eqL ts us = true → gpL ts = gpL us := by
    intro hh ih ts
    induction ts with
    | nil =>
      intro us _ h
      cases us with
      | nil => rfl
      | cons b us => rw [eqL_len _ _ (by simp)] at h; cases h
    | cons a ts ihl =>
      intro us hhi h
      cases us with
      | nil => rw [eqL_len _ _ (by simp)] at h; cases h
      | cons b us =>
        simp only [highs] at hhi
        rw [eqL, Bool.and_eq_true] at h
        rw [gpL, gpL, ih a b (by omega) h.1, ihl us (by omega) h.2]
  induction hh with
  | zero => intro t u h0; have := high_pos t; omega
  | succ hh ih =>
    intro t u h0 h
    have hth : highs t.args ≤ hh := by obtain ⟨k, s, n, l⟩ := t; simp only [Tm.high] at h0; simp only; omega
    rw [eqT_eq] at h
    simp only [Bool.and_eq_true, beq_iff_eq] at h
    obtain ⟨⟨⟨h1, h2⟩, h3⟩, h4⟩ := h
    have hl : t.args.length = u.args.length := Classical.byContradiction fun hne => by rw [eqL_len _ _ hne] at h4; cases h4
    have hn : t.name = u.name := name_ext (by rw [ByteArray.toList_eq, ByteArray.toList_eq] at h2; exact h2)
    rw [gpT_eq, gpT_eq, step hh ih t.args u.args hth h4]
    congr 1
    unfold ptOf
    rw [h1, h3, hn, hl]
theorem gp_same {t u : Tm} (pt : allP t) (pu : allP u) (gt : groundT t = true) (gu : groundT u = true) : gpT t = gpT u ↔ eqT t u = true :=
  ⟨fun h => (gp_inj t.high t u (Nat.le_refl _) pt pu gt gu [] [] (by rw [h])).1, gp_eq t.high t u (Nat.le_refl _)⟩
end Go.Proofs.Ythmpolifgngdiaa

/- guard's parts of a ground term: the walk. -/
namespace Go.Proofs.Ythmpolifgngdiaa
open Go.RowKit

theorem infoPt : (Try.prog.info? 54).map (fun i => (i.zero, i.size, i.bytes)) = some (some (.agg #[.int .i64 0, .int .i64 0, .int .u64 0, .int .u64 0]), 4, 32) := by kernel_rfl
theorem gpL_take {l : List Tm} {k : Nat} (h : k < l.length) : gpL (l.take (k + 1)) = gpL (l.take k) ++ gpT l[k] := by
  rw [List.take_succ_eq_append_getElem h, gpL_app]
  simp [gpL]
theorem gpL_take_len (l : List Tm) (k : Nat) : (gpL (l.take k)).length ≤ (gpL l).length := by
  have := congrArg (fun x => (gpL x).length) (List.take_append_drop k l)
  simp only [gpL_app, List.length_append] at this
  omega
theorem gpL_at_len {l : List Tm} {k : Nat} (h : k < l.length) : (gpL (l.take k)).length + (gpT l[k]).length ≤ (gpL l).length := by
  have := gpL_take_len l (k + 1)
  rw [gpL_take h, List.length_append] at this
  exact this

/-- parts in a row of the call's own -/
def GptsOut (L : List Gpt) (w : World) (e : Ending) (w' : World) : Prop := ∃ v, e = .returned v ∧ w'.ownsRow w.heap.size 54 4 v L.length (ptCells L) ∧ Ext w w'

set_option maxRecDepth 100000 in
set_option maxHeartbeats 4000000 in
theorem parts_any (hh : Nat) : ∀ (t : Tm) (V : Value) (A : Option Addr) (c : Nat) (w : World), t.high ≤ hh → allP t → groundT t = true → (gpT t).length ≤ 1000000 → TmAt w t A c →
    Calls Try.prog 18 #[V, t.val A c] w (GptsOut (gpT t) w) := by
  induction hh with
  | zero => intro t V A c w h0; have := high_pos t; omega
  | succ hh ih =>
    intro t V A c w hh0 hp hg hlen h
    obtain ⟨i0, hi0, hz0, hz1, hz2⟩ := info_parts infoPt
    have IH := Lib.hid ih
    have hl := h.fits.args
    have HK := Lib.hid (kinds_g hp.plain (ground_g hg).2)
    have HPA := Lib.hid hp.args
    have HGA := Lib.hid (ground_g hg).1
    have hs16 := plain_name hp.plain
    have ET := Lib.hid (gpT_eq t)
    have hlen' : (gpL t.args).length + 1 ≤ 1000000 := by rw [ET.out, List.length_cons] at hlen; exact hlen
    clear ih hlen hp hg
    go_enter Try.func18, Try.ntmps18
    go_wp2_with fail
    refine (part_any t V A c _ HK.out hs16).mono ?_
    rintro e1 w1 ⟨rfl, hx1⟩
    have hx01 : Ext w w1 := ((Ext.refl w).alloc _).trans hx1
    have hs1 := hx01.size
    have a3 : w1.cell? ⟨w.heap.size, 3, none⟩ = some (.slice A t.args.length c) := hx1.cell (by go_simp)
    generalize hpt : ptOf t = pt
    have HPT := Lib.hid hpt
    clear hpt hx1
    have hown0 : (w1.alloc (.cells #[.int .i64 pt.k, .int .i64 pt.n, .int .u64 pt.x, .int .u64 pt.y] 54)).ownsRow w.heap.size 54 4 (.slice (some ⟨w1.heap.size, 0, none⟩) 1 1) (1 + (gpL (t.args.take 0)).length) (ptCells (pt :: gpL (t.args.take 0))) := by
      refine ⟨rfl, .inr ⟨w1.heap.size, 1, #[.int .i64 pt.k, .int .i64 pt.n, .int .u64 pt.x, .int .u64 pt.y], rfl, hs1, ?_, Nat.le_refl _, by decide, rfl, rfl⟩⟩
      exact heap_alloc_new w1 _
    have hxa : Ext w (w1.alloc (.cells #[.int .i64 pt.k, .int .i64 pt.n, .int .u64 pt.x, .int .u64 pt.y] 54)) := hx01.alloc _
    have HOW := Lib.hid hown0
    have b3 : (w1.alloc (.cells #[.int .i64 pt.k, .int .i64 pt.n, .int .u64 pt.x, .int .u64 pt.y] 54)).cell? ⟨w.heap.size, 3, none⟩ = some (.slice A t.args.length c) := ((Ext.refl w1).alloc _).cell a3
    clear hown0
    go_wp2_with fail
    go_loopw [5, 15] (fun v i wr => ∃ (k : Nat), k ≤ t.args.length ∧ i = .int .i64 k ∧ Hid (wr.ownsRow w.heap.size 54 4 v (1 + (gpL (t.args.take k)).length) (ptCells (pt :: gpL (t.args.take k)))) ∧ Ext w wr) (fun _ i _ => t.args.length - (intOf i).toNat)
    case atStart => exact ⟨0, Nat.zero_le _, rfl, HOW, hxa⟩
    case round =>
      obtain ⟨k, hk, rfl, HO, hx⟩ := hrel
      by_cases hlt : k < t.args.length
      · obtain ⟨b, o, B, e, rfl, c0, c1, c2, c3, hsub⟩ := (h.ext hx).args.at_ hlt
        have hb := high_lt hlt
        have hal := gpL_at_len hlt
        have HAL := Lib.hid hal
        have KI := Lib.hid (IH.out t.args[k] V B e _ (by omega) (allPs_mem HPA.out (List.getElem_mem hlt)) (groundL_at HGA.out hlt) (by omega) (hsub.ext ((Ext.refl wr).alloc (.cells #[.int .i64 t.args[k].kind, .string t.args[k].name, .int .i64 t.args[k].n, .slice B t.args[k].args.length e] 32))))
        clear hal
        go_wp2_with fail
        refine KI.out.mono ?_
        rintro e2 w2 ⟨v2, rfl, hown2, hx2⟩
        have hx2' : Ext wr w2 := ((Ext.refl wr).alloc _).trans hx2
        have hxw2 := hx.trans hx2'
        have hown1 := ownsRow_ext HO.out hx2'
        have hsz := hxw2.size
        obtain ⟨A2, c2, rfl, hsrc⟩ := src_own hown2
        have HAP : Hid ((1 + (gpL (t.args.take k)).length) + (gpT t.args[k]).length = 1 + (gpL (t.args.take (k + 1))).length ∧ ptCells (pt :: gpL (t.args.take k)) ++ ptCells (gpT t.args[k]) = ptCells (pt :: gpL (t.args.take (k + 1)))) := Lib.hid ⟨by rw [gpL_take hlt, List.length_append]; omega, by rw [gpL_take hlt, ← List.cons_append, ptCells_app]⟩
        have HTL : Hid ((gpL (t.args.take k)).length + (gpT t.args[k]).length + 1 ≤ 1000000) := Lib.hid (by have := HAL.out; omega)
        have HSR := Lib.hid hsrc
        have HON := Lib.hid hown1
        clear KI hown2 hx2 hsrc hown1 HAL
        go_wp2_with (at_builtin; refine wpList_app _ rfl _ _ 58 rfl w.heap.size 54 i0 _ 4 32 Try.underlying58 hi0 hz0 hz1 hz2 rfl (by decide) _ (1 + (gpL (t.args.take k)).length) (ptCells (pt :: gpL (t.args.take k))) rfl HON.out A2 _ _ (ptCells (gpT t.args[k])) rfl HSR.out (ptCells_one _) ?c3 ?c4 ?c5 ?_)
        case c3 => have := HTL.out; simp only [maxLen]; omega
        case c4 => have := HTL.out; omega
        case c5 => exact hsz
        intro v3 w3 hown3 hg3 _
        have hx3 : Ext w w3 := Ext.own hxw2 HON.out (Nat.le_refl _) hg3
        have HO3 : Hid (w3.ownsRow w.heap.size 54 4 v3 (1 + (gpL (t.args.take (k + 1))).length) (ptCells (pt :: gpL (t.args.take (k + 1))))) := Lib.hid (by have := hown3; rw [HAP.out.1, HAP.out.2] at this; exact this)
        clear hown3 hg3 HON HSR HAP HTL HO
        go_wp2_with fail
        go_roundw
        case rel => exact ⟨k + 1, by omega, by go_num, HO3, hx3⟩
        case measure => simp [intOf]; omega
      · have e : k = t.args.length := by omega
        have HF : Hid (GptsOut (gpT t) w (.returned u5) wr) := Lib.hid ⟨_, rfl, by
          have := HO.out
          rw [e, List.take_length] at this
          rw [ET.out, HPT.out, List.length_cons, Nat.add_comm]
          exact this, hx⟩
        clear HO e
        go_wp2_with fail
        go_ret
        exact HF.out
end Go.Proofs.Ythmpolifgngdiaa
