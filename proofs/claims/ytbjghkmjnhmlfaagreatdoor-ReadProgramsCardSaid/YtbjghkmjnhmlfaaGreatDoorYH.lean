/- Joined: Par, Pag, Pgt. -/
import Derived.Test.YtbjghkmjnhmlfaaGreatDoorYG
import Derived.Test.YtbjghkmjnhmlfaaGreatDoorYD
import Derived.Laws.BitsAllLaws
import Derived.Deep.Cut
import Derived.Deep.CutBlock
import Derived.Deep.RegionHeld3
import Derived.Deep.RegionLaw
import Derived.OwnWalk
import Derived.Maps.AppendAt
import Derived.Deep.AppendLies
import Derived.Laws.OwnMore
import Derived.Lib.TrailingZeros

/- Package read: the reader in memory; place, sees, seesAhead, take, need, fail, enter, leave. -/
namespace Go.Proofs.YtbjghkmjnhmlfaaGreatDoor
open Go.RowKit

/-- a role as a number with one bit -/
def roleV (k : Nat) : Int := ((2 ^ k : Nat) : Int)
/-- where the words and their roles lie -/
structure RdP where
  A : Nat
  c : Nat
  R : Nat
  d : Nat
/-- a reader in block g -/
structure RdAt (w : World) (g : Nat) (K : RdP) (T : List Tok) (i b : Nat) : Prop where
  c0 : w.cell? ⟨g, 0, none⟩ = some (.slice (some ⟨K.A, 0, none⟩) T.length K.c)
  c1 : w.cell? ⟨g, 1, none⟩ = some (.slice (some ⟨K.R, 0, none⟩) T.length K.d)
  c2 : w.cell? ⟨g, 2, none⟩ = some (.int .i64 i)
  c3 : w.cell? ⟨g, 3, none⟩ = some (.int .i64 b)
  c4 : ∃ x, w.cell? ⟨g, 4, none⟩ = some (.int .i64 x)
  c5 : ∃ x, w.cell? ⟨g, 5, none⟩ = some (.int .i64 x)
  fr : ∀ j, j < 6 → w.frozen? ⟨g, j, none⟩ = false
  toks : ∀ j (h : j < T.length), w.cell? ⟨K.A, j * 4, none⟩ = some (.int .i64 T[j].kind) ∧ w.cell? ⟨K.A, j * 4 + 1, none⟩ = some (.string T[j].text) ∧ w.cell? ⟨K.A, j * 4 + 2, none⟩ = some (.int .i64 T[j].n) ∧ w.cell? ⟨K.A, j * 4 + 3, none⟩ = some (.int .i64 T[j].at_)
  roles : ∀ j, j < T.length → w.cell? ⟨K.R, j, none⟩ = some (.int .u64 (roleV (rl T j)))
  neA : K.A ≠ g
  neR : K.R ≠ g
  len : T.length ≤ 4001
  wf : ∀ j (h : j < T.length), (Lit.int .i64 T[j].n).wf = true ∧ T[j].text.size ≤ 4000
/-- .. that tells an error -/
structure RdErr (w : World) (g : Nat) (a x : Int) : Prop where
  c4 : w.cell? ⟨g, 4, none⟩ = some (.int .i64 a)
  c5 : w.cell? ⟨g, 5, none⟩ = some (.int .i64 x)

section
variable {w w' : World} {g : Nat} {K : RdP} {T : List Tok} {i b : Nat}
theorem RdAt.lt (h : RdAt w g K T i b) : g < w.heap.size := World.block_lt_of_cell? w _ h.c0
theorem RdAt.keep (h : RdAt w g K T i b) (k : ∀ x, x < w.heap.size → x = g ∨ x = K.A ∨ x = K.R → w'.heap[x]? = w.heap[x]?) : RdAt w' g K T i b := by
  have kg := k g h.lt (.inl rfl)
  have cg : ∀ {j : Nat} {v : Value}, w.cell? ⟨g, j, none⟩ = some v → w'.cell? ⟨g, j, none⟩ = some v := fun hc => (World.cell?_of_block (w := w) kg).trans hc
  refine ⟨cg h.c0, cg h.c1, cg h.c2, cg h.c3, h.c4.imp fun _ => cg, h.c5.imp fun _ => cg, fun j hj => (World.frozen?_of_block (w := w) kg).trans (h.fr j hj), fun j hj => ?_, fun j hj => ?_, h.neA, h.neR, h.len, h.wf⟩
  · obtain ⟨a0, a1, a2, a3⟩ := h.toks j hj
    have kA := k K.A (World.block_lt_of_cell? w _ a0) (.inr (.inl rfl))
    exact ⟨(World.cell?_of_block (w := w) kA).trans a0, (World.cell?_of_block (w := w) kA).trans a1, (World.cell?_of_block (w := w) kA).trans a2, (World.cell?_of_block (w := w) kA).trans a3⟩
  · have a0 := h.roles j hj
    exact (World.cell?_of_block (w := w) (k K.R (World.block_lt_of_cell? w _ a0) (.inr (.inr rfl)))).trans a0
theorem RdAt.ext (h : RdAt w g K T i b) (k : Ext w w') : RdAt w' g K T i b := h.keep fun x hx _ => k.block x hx
theorem RdAt.chg {F : Nat → Prop} (h : RdAt w g K T i b) (k : Chg F w w') (hF : ∀ x, x < w.heap.size → F x → x ≠ g ∧ x ≠ K.A ∧ x ≠ K.R) : RdAt w' g K T i b :=
  h.keep fun x hx e => k.block x hx fun f => by have := hF x hx f; rcases e with e | e | e <;> omega
theorem RdErr.ext {a x : Int} (h : RdErr w g a x) (k : Ext w w') : RdErr w' g a x := ⟨k.cell h.c4, k.cell h.c5⟩
theorem RdErr.chg {F : Nat → Prop} {a x : Int} (h : RdErr w g a x) (k : Chg F w w') (hF : ¬ F g) : RdErr w' g a x := ⟨k.cell h.c4 hF, k.cell h.c5 hF⟩
theorem RdAt.to (h : RdAt w g K T i b) (j : Nat) : RdAt (w.setCell ⟨g, 2, none⟩ (.int .i64 j)) g K T j b := by
  obtain ⟨x4, h4⟩ := h.c4
  obtain ⟨x5, h5⟩ := h.c5
  have h0 := h.c0
  have h1 := h.c1
  have h2 := h.c2
  have h3 := h.c3
  refine ⟨by go_simp, by go_simp, ?_, by go_simp, ⟨x4, by go_simp⟩, ⟨x5, by go_simp⟩, fun j hj => by have := h.fr j hj; go_simp, fun j hj => ?_, fun j hj => ?_, h.neA, h.neR, h.len, h.wf⟩
  · have := h.fr 2 (by omega); go_simp
  · obtain ⟨a0, a1, a2, a3⟩ := h.toks j hj
    have := h.neA
    have ne : ∀ q, (⟨g, 2, none⟩ : Addr) ≠ ⟨K.A, q, none⟩ := fun q e => by injection e with e; exact this e.symm
    refine ⟨?_, ?_, ?_, ?_⟩ <;> rw [World.cell?_setCell_other _ _ _ _ (ne _)] <;> assumption
  · have a0 := h.roles j hj
    have := h.neR
    rw [World.cell?_setCell_other _ _ _ _ (fun e => by injection e with e; exact this e.symm)]
    exact a0
theorem RdAt.toB (h : RdAt w g K T i b) (j : Nat) : RdAt (w.setCell ⟨g, 3, none⟩ (.int .i64 j)) g K T i j := by
  obtain ⟨x4, h4⟩ := h.c4
  obtain ⟨x5, h5⟩ := h.c5
  have h0 := h.c0
  have h1 := h.c1
  have h2 := h.c2
  have h3 := h.c3
  refine ⟨by go_simp, by go_simp, by go_simp, ?_, ⟨x4, by go_simp⟩, ⟨x5, by go_simp⟩, fun j hj => by have := h.fr j hj; go_simp, fun j hj => ?_, fun j hj => ?_, h.neA, h.neR, h.len, h.wf⟩
  · have := h.fr 3 (by omega); go_simp
  · obtain ⟨a0, a1, a2, a3⟩ := h.toks j hj
    have := h.neA
    have ne : ∀ q, (⟨g, 3, none⟩ : Addr) ≠ ⟨K.A, q, none⟩ := fun q e => by injection e with e; exact this e.symm
    refine ⟨?_, ?_, ?_, ?_⟩ <;> rw [World.cell?_setCell_other _ _ _ _ (ne _)] <;> assumption
  · have a0 := h.roles j hj
    have := h.neR
    rw [World.cell?_setCell_other _ _ _ _ (fun e => by injection e with e; exact this e.symm)]
    exact a0
/-- the words' cells by tk -/
theorem RdAt.tok (h : RdAt w g K T i b) (hi : i < T.length) : w.cell? ⟨K.A, i * 4, none⟩ = some (.int .i64 (tk T i).kind) ∧ w.cell? ⟨K.A, i * 4 + 1, none⟩ = some (.string (tk T i).text) ∧ w.cell? ⟨K.A, i * 4 + 2, none⟩ = some (.int .i64 (tk T i).n) ∧ w.cell? ⟨K.A, i * 4 + 3, none⟩ = some (.int .i64 (tk T i).at_) := by
  rw [tk_at T hi]; exact h.toks i hi
end

theorem Chg.setg {g : Nat} {a w : World} (h : Chg (fun x => x = g) a w) (j : Nat) (v : Value) : Chg (fun x => x = g) a (w.setCell ⟨g, j, none⟩ v) := Chg.set (F := fun x => x = g) h (p := ⟨g, j, none⟩) rfl v

/-! one bit of a mask -/
theorem roleN_lt (t : Tok) : roleN t < 38 := by
  unfold roleN
  split
  · omega
  · split
    · omega
    · split
      · omega
      · split
        · rename_i i h
          have := (plr_some h).1
          omega
        · omega
theorem rl_lt (T : List Tok) (i : Nat) : rl T i < 38 := roleN_lt _
theorem bit_and (k m : Nat) (hk : k < 38) (hm : m < 18446744073709551616) : (bits .and .u64 (roleV k) (m : Int) != 0) = m.testBit k := by
  have h2 : 2 ^ k < 18446744073709551616 := by
    have : 2 ^ k ≤ 2 ^ 38 := Nat.pow_le_pow_right (by omega) (by omega)
    omega
  unfold roleV
  rw [u64_and_nat _ _ h2 hm]
  have : (2 ^ k &&& m) = if m.testBit k then 2 ^ k else 0 := by
    apply Nat.eq_of_testBit_eq
    intro j
    rw [Nat.testBit_and, Nat.testBit_two_pow]
    by_cases hj : k = j
    · subst hj
      cases m.testBit k <;> simp
    · cases m.testBit k <;> simp [hj]
  rw [this]
  cases m.testBit k with
  | true =>
    have : 0 < 2 ^ k := Nat.two_pow_pos k
    simp only [if_true]
    rw [bne_iff_ne]
    omega
  | false => simp

set_option maxRecDepth 100000 in
set_option maxHeartbeats 1000000 in
theorem place_any {w : World} {g : Nat} {K : RdP} {T : List Tok} {i b : Nat} (h : RdAt w g K T i b) (hi : i < T.length) :
    Calls Tryz.prog 53 #[.pointer (some ⟨g, 0, none⟩)] w fun e w' => e = .returned (.int .i64 (tk T i).at_) ∧ Ext w w' := by
  have h0 := h.c0
  have h2 := h.c2
  obtain ⟨_, _, _, a3⟩ := h.tok hi
  have i0 : (0 : Int) ≤ (i : Int) := Int.natCast_nonneg _
  have i1 : (i : Int) < (T.length : Int) := by omega
  go_enter Tryz.func53, Tryz.ntmps53
  go_wp2_with fail
  go_quiet (fail)
  go_wp2_with fail
  go_ret
  exact ⟨rfl, (Ext.refl _).drewN _⟩

set_option maxRecDepth 100000 in
set_option maxHeartbeats 1000000 in
theorem sees_rd (m : Nat) {w : World} {g : Nat} {K : RdP} {T : List Tok} {i b : Nat} (hm : m < 18446744073709551616) (h : RdAt w g K T i b) (hi : i < T.length) :
    Calls Tryz.prog 31 #[.pointer (some ⟨g, 0, none⟩), .int .u64 m] w fun e w' => e = .returned (.bool (m.testBit (rl T i))) ∧ Ext w w' := by
  have h1 := h.c1
  have h2 := h.c2
  have a0 := h.roles i hi
  have HB := Lib.hid (bit_and (rl T i) m (rl_lt T i) hm)
  have i0 : (0 : Int) ≤ (i : Int) := Int.natCast_nonneg _
  have i1 : (i : Int) < (T.length : Int) := by omega
  go_enter Tryz.func31, Tryz.ntmps31
  go_wp2_with fail
  go_quiet (fail)
  go_wp2_with fail
  go_ret
  exact ⟨ret_bool HB.out, (Ext.refl _).drewN _⟩
set_option maxRecDepth 100000 in
set_option maxHeartbeats 1000000 in
theorem ahead_rd (m : Nat) {w : World} {g : Nat} {K : RdP} {T : List Tok} {i b : Nat} (hm : m < 18446744073709551616) (h : RdAt w g K T i b) (hi : i + 1 < T.length) :
    Calls Tryz.prog 100 #[.pointer (some ⟨g, 0, none⟩), .int .u64 m] w fun e w' => e = .returned (.bool (m.testBit (rl T (i + 1)))) ∧ Ext w w' := by
  have h1 := h.c1
  have h2 := h.c2
  have a0 := h.roles (i + 1) hi
  have HB := Lib.hid (bit_and (rl T (i + 1)) m (rl_lt T (i + 1)) hm)
  have hl := h.len
  have hw1 : IntKind.i64.wrap ((i : Int) + 1) = (i : Int) + 1 := by rw [IntKind.wrap_i64]; omega
  have i0 : (0 : Int) ≤ (i : Int) + 1 := by omega
  have i1 : (i : Int) + 1 < (T.length : Int) := by omega
  clear hl
  go_enter Tryz.func100, Tryz.ntmps100
  go_wp2_with fail
  go_quiet (fail)
  go_wp2_with fail
  go_ret
  exact ⟨ret_bool HB.out, (Ext.refl _).drewN _⟩

set_option maxRecDepth 100000 in
set_option maxHeartbeats 1000000 in
theorem take_no (m : Nat) {w : World} {g : Nat} {K : RdP} {T : List Tok} {i b : Nat} (hm : m < 18446744073709551616) (h : RdAt w g K T i b) (hi : i < T.length) (hb : m.testBit (rl T i) = false) :
    Calls Tryz.prog 51 #[.pointer (some ⟨g, 0, none⟩), .int .u64 m] w fun e w' => e = .returned (.bool false) ∧ Ext w w' := by
  have KS := Lib.hid (sees_rd m hm h hi)
  rw [hb] at KS
  clear hb
  go_enter Tryz.func51, Tryz.ntmps51
  go_wp2_with fail
  refine KS.out.mono ?_
  rintro e w1 ⟨rfl, hx1⟩
  go_wp2_with fail
  go_ret
  exact ⟨rfl, hx1⟩
set_option maxRecDepth 100000 in
set_option maxHeartbeats 1000000 in
theorem take_yes (m : Nat) {w : World} {g : Nat} {K : RdP} {T : List Tok} {i b : Nat} (hm : m < 18446744073709551616) (h : RdAt w g K T i b) (hi : i < T.length) (hb : m.testBit (rl T i) = true) :
    Calls Tryz.prog 51 #[.pointer (some ⟨g, 0, none⟩), .int .u64 m] w fun e w' => e = .returned (.bool true) ∧ RdAt w' g K T (i + 1) b ∧ Chg (· = g) w w' := by
  have KS := Lib.hid (sees_rd m hm h hi)
  rw [hb] at KS
  have hl := h.len
  have hw1 : IntKind.i64.wrap ((i : Int) + 1) = (i : Int) + 1 := by rw [IntKind.wrap_i64]; omega
  have HH := Lib.hid h
  clear hb hl
  go_enter Tryz.func51, Tryz.ntmps51
  go_wp2_with fail
  refine KS.out.mono ?_
  rintro e w1 ⟨rfl, hx1⟩
  have h1 := HH.out.ext hx1
  have c2 := h1.c2
  have f2 := h1.fr 2 (by omega)
  have H1 := Lib.hid h1
  clear h1
  go_wp2_with fail
  go_ret
  refine ⟨rfl, ?_, (Chg.of_ext hx1).setg _ _⟩
  have := H1.out.to (i + 1)
  rwa [Int.natCast_add] at this
set_option maxRecDepth 100000 in
set_option maxHeartbeats 1000000 in
theorem fail_any (a x : Int) {w : World} {g : Nat} {K : RdP} {T : List Tok} {i b : Nat} (h : RdAt w g K T i b) :
    Calls Tryz.prog 52 #[.pointer (some ⟨g, 0, none⟩), .int .i64 a, .int .i64 x] w fun e w' => e = .returned (.bool false) ∧ RdErr w' g a x ∧ Chg (· = g) w w' := by
  obtain ⟨x4, c4⟩ := h.c4
  obtain ⟨x5, c5⟩ := h.c5
  have f4 := h.fr 4 (by omega)
  have f5 := h.fr 5 (by omega)
  clear h
  go_enter Tryz.func52, Tryz.ntmps52
  go_wp2_with fail
  go_ret
  exact ⟨rfl, ⟨by go_simp, by go_simp⟩, ((Chg.refl _ w).setg _ _).setg _ _⟩
set_option maxRecDepth 100000 in
set_option maxHeartbeats 1000000 in
theorem need_yes (m : Nat) {w : World} {g : Nat} {K : RdP} {T : List Tok} {i b : Nat} (hm : m < 18446744073709551616) (h : RdAt w g K T i b) (hi : i < T.length) (hb : m.testBit (rl T i) = true) :
    Calls Tryz.prog 30 #[.pointer (some ⟨g, 0, none⟩), .int .u64 m] w fun e w' => e = .returned (.bool true) ∧ RdAt w' g K T (i + 1) b ∧ Chg (· = g) w w' := by
  have KT := Lib.hid (take_yes m hm h hi hb)
  clear h hb
  go_enter Tryz.func30, Tryz.ntmps30
  go_wp2_with fail
  refine KT.out.mono ?_
  rintro e w1 ⟨rfl, h1⟩
  go_wp2_with fail
  go_ret
  exact ⟨rfl, h1⟩
set_option maxRecDepth 100000 in
set_option maxHeartbeats 1000000 in
theorem need_no (m : Nat) {w : World} {g : Nat} {K : RdP} {T : List Tok} {i b : Nat} (hm : m < 18446744073709551616) (h : RdAt w g K T i b) (hi : i < T.length) (hb : m.testBit (rl T i) = false) :
    Calls Tryz.prog 30 #[.pointer (some ⟨g, 0, none⟩), .int .u64 m] w fun e w' => e = .returned (.bool false) ∧ RdErr w' g (bad T i).1 (bad T i).2 ∧ Chg (· = g) w w' := by
  have KT := Lib.hid (take_no m hm h hi hb)
  have HH := Lib.hid h
  clear h hb
  go_enter Tryz.func30, Tryz.ntmps30
  go_wp2_with fail
  refine KT.out.mono ?_
  rintro e w1 ⟨rfl, hx1⟩
  go_wp2_with fail
  refine (place_any (HH.out.ext hx1) hi).mono ?_
  rintro e w2 ⟨rfl, hx2⟩
  go_wp2_with fail
  refine (fail_any _ 4 (HH.out.ext (hx1.trans hx2))).mono ?_
  rintro e w3 ⟨rfl, he, hx3⟩
  go_wp2_with fail
  go_ret
  exact ⟨rfl, he, (Chg.of_ext (hx1.trans hx2)).trans hx3⟩
set_option maxRecDepth 100000 in
set_option maxHeartbeats 1000000 in
theorem enter_lim {w : World} {g : Nat} {K : RdP} {T : List Tok} {i : Nat} (h : RdAt w g K T i 100) (hi : i < T.length) (hb : rl T i = 4) :
    Calls Tryz.prog 109 #[.pointer (some ⟨g, 0, none⟩)] w fun e w' => e = .returned (.bool false) ∧ RdErr w' g (lim T i).1 (lim T i).2 ∧ Chg (· = g) w w' := by
  have KS := Lib.hid (sees_rd 16 (by omega) h hi)
  rw [hb, show Nat.testBit 16 4 = true by decide] at KS
  have HH := Lib.hid h
  clear h hb
  go_enter Tryz.func109, Tryz.ntmps109
  go_wp2_with fail
  refine KS.out.mono ?_
  rintro e w1 ⟨rfl, hx1⟩
  have c3 : w1.cell? ⟨g, 3, none⟩ = some (.int .i64 100) := (HH.out.ext hx1).c3
  go_wp2_with fail
  refine (place_any (HH.out.ext hx1) hi).mono ?_
  rintro e w2 ⟨rfl, hx2⟩
  clear c3
  go_wp2_with fail
  refine (fail_any _ 2 (HH.out.ext (hx1.trans hx2))).mono ?_
  rintro e w3 ⟨rfl, he, hx3⟩
  go_wp2_with fail
  go_ret
  exact ⟨rfl, he, (Chg.of_ext (hx1.trans hx2)).trans hx3⟩
set_option maxRecDepth 100000 in
set_option maxHeartbeats 1000000 in
theorem enter_yes {w : World} {g : Nat} {K : RdP} {T : List Tok} {i b : Nat} (h : RdAt w g K T i b) (hi : i < T.length) (hb : rl T i = 4) (h100 : b < 100) :
    Calls Tryz.prog 109 #[.pointer (some ⟨g, 0, none⟩)] w fun e w' => e = .returned (.bool true) ∧ RdAt w' g K T (i + 1) (b + 1) ∧ Chg (· = g) w w' := by
  have KS := Lib.hid (sees_rd 16 (by omega) h hi)
  rw [hb, show Nat.testBit 16 4 = true by decide] at KS
  have HH := Lib.hid h
  have hb4 := Lib.hid hb
  have q1 : ((b : Int) == 100) = false := by simp; omega
  have hw1 : IntKind.i64.wrap ((b : Int) + 1) = (b : Int) + 1 := by rw [IntKind.wrap_i64]; omega
  clear h hb
  go_enter Tryz.func109, Tryz.ntmps109
  go_wp2_with fail
  refine KS.out.mono ?_
  rintro e w1 ⟨rfl, hx1⟩
  have h1 := HH.out.ext hx1
  have c3 := h1.c3
  have f3 := h1.fr 3 (by omega)
  have h2 := h1.toB (b + 1)
  rw [Int.natCast_add] at h2
  have H2 := Lib.hid h2
  clear h1 h2
  go_wp2_with fail
  refine (need_yes 16 (by omega) H2.out hi (by rw [hb4.out]; decide)).mono ?_
  rintro e w3 ⟨rfl, h3, hx3⟩
  go_wp2_with fail
  go_ret
  exact ⟨rfl, h3, ((Chg.of_ext hx1).setg _ _).trans hx3⟩
set_option maxRecDepth 100000 in
set_option maxHeartbeats 1000000 in
theorem enter_no {w : World} {g : Nat} {K : RdP} {T : List Tok} {i b : Nat} (h : RdAt w g K T i b) (hi : i < T.length) (hb : rl T i ≠ 4) (h100 : b ≤ 100) :
    Calls Tryz.prog 109 #[.pointer (some ⟨g, 0, none⟩)] w fun e w' => e = .returned (.bool false) ∧ RdErr w' g (bad T i).1 (bad T i).2 ∧ Chg (· = g) w w' := by
  have h16 : Nat.testBit 16 (rl T i) = false := by rw [show (16 : Nat) = 2 ^ 4 from rfl, Nat.testBit_two_pow]; simp; omega
  have KS := Lib.hid (sees_rd 16 (by omega) h hi)
  rw [h16] at KS
  have HH := Lib.hid h
  have hb4 := Lib.hid h16
  have hw1 : IntKind.i64.wrap ((b : Int) + 1) = (b : Int) + 1 := by rw [IntKind.wrap_i64]; omega
  clear h hb h16
  go_enter Tryz.func109, Tryz.ntmps109
  go_wp2_with fail
  refine KS.out.mono ?_
  rintro e w1 ⟨rfl, hx1⟩
  have h1 := HH.out.ext hx1
  have c3 := h1.c3
  have f3 := h1.fr 3 (by omega)
  have h2 := h1.toB (b + 1)
  rw [Int.natCast_add] at h2
  have H2 := Lib.hid h2
  clear h1 h2
  go_wp2_with fail
  refine (need_no 16 (by omega) H2.out hi hb4.out).mono ?_
  rintro e w3 ⟨rfl, h3, hx3⟩
  go_wp2_with fail
  go_ret
  exact ⟨rfl, h3, ((Chg.of_ext hx1).setg _ _).trans hx3⟩
set_option maxRecDepth 100000 in
set_option maxHeartbeats 1000000 in
theorem leave_yes {w : World} {g : Nat} {K : RdP} {T : List Tok} {i b : Nat} (h : RdAt w g K T i (b + 1)) (hi : i < T.length) (hb : rl T i = 5) (h100 : b ≤ 100) :
    Calls Tryz.prog 110 #[.pointer (some ⟨g, 0, none⟩)] w fun e w' => e = .returned (.bool true) ∧ RdAt w' g K T (i + 1) b ∧ Chg (· = g) w w' := by
  have c3 := h.c3
  have f3 := h.fr 3 (by omega)
  have hw1 : IntKind.i64.wrap (((b + 1 : Nat) : Int) - 1) = (b : Int) := by rw [IntKind.wrap_i64]; omega
  have H2 := Lib.hid (h.toB b)
  have hb4 := Lib.hid hb
  clear h hb
  go_enter Tryz.func110, Tryz.ntmps110
  go_wp2_with fail
  refine (need_yes 32 (by omega) H2.out hi (by rw [hb4.out]; decide)).mono ?_
  rintro e w3 ⟨rfl, h3, hx3⟩
  go_wp2_with fail
  go_ret
  exact ⟨rfl, h3, ((Chg.refl _ w).setg _ _).trans hx3⟩
set_option maxRecDepth 100000 in
set_option maxHeartbeats 1000000 in
theorem leave_no {w : World} {g : Nat} {K : RdP} {T : List Tok} {i b : Nat} (h : RdAt w g K T i (b + 1)) (hi : i < T.length) (hb : rl T i ≠ 5) (h100 : b ≤ 100) :
    Calls Tryz.prog 110 #[.pointer (some ⟨g, 0, none⟩)] w fun e w' => e = .returned (.bool false) ∧ RdErr w' g (bad T i).1 (bad T i).2 ∧ Chg (· = g) w w' := by
  have h32 : Nat.testBit 32 (rl T i) = false := by rw [show (32 : Nat) = 2 ^ 5 from rfl, Nat.testBit_two_pow]; simp; omega
  have c3 := h.c3
  have f3 := h.fr 3 (by omega)
  have hw1 : IntKind.i64.wrap (((b + 1 : Nat) : Int) - 1) = (b : Int) := by rw [IntKind.wrap_i64]; omega
  have H2 := Lib.hid (h.toB b)
  have hb4 := Lib.hid h32
  clear h hb h32
  go_enter Tryz.func110, Tryz.ntmps110
  go_wp2_with fail
  refine (need_no 32 (by omega) H2.out hi hb4.out).mono ?_
  rintro e w3 ⟨rfl, h3, hx3⟩
  go_wp2_with fail
  go_ret
  exact ⟨rfl, h3, ((Chg.refl _ w).setg _ _).trans hx3⟩
end Go.Proofs.YtbjghkmjnhmlfaaGreatDoor

/- Appends of anything onto a row of the call's own; four cells written behind. -/
namespace Go.Proofs.YtbjghkmjnhmlfaaGreatDoor
open Go.RowKit

/-- from A on lie these cells; where there are none A is whatever it is -/
def Src (w : World) (A : Option Addr) (m c : Nat) (size : Nat) (news : List Value) : Prop := news.length = m * size ∧ ((A = none ∧ m = 0) ∨ ∃ ad, A = some ad ∧ ∀ j u, news[j]? = some u → w.cell? (ad.add j) = some u) ∧ m ≤ c
section
variable {P : Program} (w : World)
theorem run_app (base : Nat) (t ty e : TypeId) (i : TypeInfo) (z : Value) (size bytes : Nat) (ht : P.underlying t = some (.slice e)) (hi : P.info? e = some i) (hz : i.zero = some z)
    (hsize : i.size = size) (hby : i.bytes = bytes) (hzs : z.cells.size = size) (hsz : 0 < size) (v : Value) (n : Nat) (xs : List Value) (hown : w.ownsRow base e size v n xs)
    (A : Option Addr) (m c : Nat) (news : List Value) (hs : Src w A m c size news) (h1 : ∀ u ∈ news, u.oneCell' = true) (h63 : n + m ≤ maxLen) (hbytes : (n + m) * bytes ≤ 140737488355328) (hbase : base ≤ w.heap.size) :
    ∃ v' w', (Builtin.append_ #[t, t] ty #[v, .slice A m c]).run P w = .ok v' w' ∧ w'.ownsRow base e size v' (n + m) (xs ++ news) ∧ w.grownBy w' v.ownBlock ∧ (v'.ownBlock = v.ownBlock ∨ v'.ownBlock = some w.heap.size) := by
  obtain ⟨hl, ⟨rfl, rfl⟩ | ⟨ad, rfl, hc⟩, hmc⟩ := hs
  · have hn : news = [] := List.eq_nil_of_length_eq_zero (by simpa using hl)
    subst hn
    refine ⟨v, w, ?_, by simpa using hown, ⟨rfl, rfl, rfl, Nat.le_refl _, fun _ _ _ => rfl⟩, .inl rfl⟩
    rcases hown.2 with ⟨rfl, rfl⟩ | ⟨g, cap, cur, rfl, _, _, hnc, _⟩
    · simp [Builtin.append_, run_underlying ht, sizeOf, typeInfo, hi, Builtin.lenOf, Builtin.firstCells]
    · simp [Builtin.append_, run_underlying ht, sizeOf, typeInfo, hi, Builtin.lenOf, Builtin.firstCells, hnc, storeCells]
  · obtain ⟨v', w', hr, h2, h3, _, h5⟩ := run_append_own_at (P := P) w base t ty e i z size bytes ht hi hz hsize hby hzs hsz v n xs hown ad m c news hl hc h1 h63 hbytes hbase
    exact ⟨v', w', hr, h2, h3, h5⟩
theorem wp_app {o : Oper} {a : Act} {K : Act → World → Prop} {Q : Exit → Act → World → Prop} (s x : Operand) (t : TypeId)
    (ho : o.op = .call { callee := .builtin .append, args := #[s, x], argTypes := #[t, t] })
    (base : Nat) (e : TypeId) (i : TypeInfo) (z : Value) (size bytes : Nat) (ht : P.underlying t = some (.slice e)) (hi : P.info? e = some i) (hz : i.zero = some z)
    (hsize : i.size = size) (hby : i.bytes = bytes) (hzs : z.cells.size = size) (hsz : 0 < size)
    (v : Value) (n : Nat) (xs : List Value) (hs : a.eval s = v) (hown : w.ownsRow base e size v n xs)
    (A : Option Addr) (m c : Nat) (news : List Value) (hx : a.eval x = .slice A m c) (hsrc : Src w A m c size news) (h1 : ∀ u ∈ news, u.oneCell' = true) (h63 : n + m ≤ maxLen) (hbytes : (n + m) * bytes ≤ 140737488355328) (hbase : base ≤ w.heap.size)
    (h : ∀ v' w', w'.ownsRow base e size v' (n + m) (xs ++ news) → w.grownBy w' v.ownBlock → (v'.ownBlock = v.ownBlock ∨ v'.ownBlock = some w.heap.size) → K (a.put o.dst v') w') : o.wp P a w K Q := by
  obtain ⟨v', w', hr, h2, h3, h4⟩ := run_app (P := P) w base t o.type e i z size bytes ht hi hz hsize hby hzs hsz v n xs hown A m c news hsrc h1 h63 hbytes hbase
  unfold Oper.wp execOp
  simp only [ho, resolve, invoke, builtin, Sem.run_bind, Sem.run_pure, Result.andThen_ok, List.map_toArray, List.map_cons, List.map_nil, hs, hx, hr]
  exact h v' w' h2 h3 h4
theorem wpList_app {ops : Array Oper} {rest : List Oper} {o : Oper} {a : Act} {Q : Exit → Act → World → Prop} (hgd : o.guard = none) (s x : Operand) (t : TypeId)
    (ho : o.op = .call { callee := .builtin .append, args := #[s, x], argTypes := #[t, t] })
    (base : Nat) (e : TypeId) (i : TypeInfo) (z : Value) (size bytes : Nat) (ht : P.underlying t = some (.slice e)) (hi : P.info? e = some i) (hz : i.zero = some z)
    (hsize : i.size = size) (hby : i.bytes = bytes) (hzs : z.cells.size = size) (hsz : 0 < size)
    (v : Value) (n : Nat) (xs : List Value) (hs : a.eval s = v) (hown : w.ownsRow base e size v n xs)
    (A : Option Addr) (m c : Nat) (news : List Value) (hx : a.eval x = .slice A m c) (hsrc : Src w A m c size news) (h1 : ∀ u ∈ news, u.oneCell' = true) (h63 : n + m ≤ maxLen) (hbytes : (n + m) * bytes ≤ 140737488355328) (hbase : base ≤ w.heap.size)
    (h : ∀ v' w', w'.ownsRow base e size v' (n + m) (xs ++ news) → w.grownBy w' v.ownBlock → (v'.ownBlock = v.ownBlock ∨ v'.ownBlock = some w.heap.size) → wpList P ops Q rest (a.put o.dst v') w') : wpList P ops Q (o :: rest) a w :=
  wpList_plain hgd fun _ hK => wp_app w s x t ho base e i z size bytes ht hi hz hsize hby hzs hsz v n xs hs hown A m c news hx hsrc h1 h63 hbytes hbase fun v' w' h2 h3 h4 => hK _ _ (h v' w' h2 h3 h4)
theorem step_app {ops : Array Oper} {o : Oper} {a : Act} {K : Act → World → Prop} {Q : Exit → Act → World → Prop} {E : Prop} (hgd : o.guard = none) (s x : Operand) (t : TypeId)
    (ho : o.op = .call { callee := .builtin .append, args := #[s, x], argTypes := #[t, t] })
    (base : Nat) (e : TypeId) (i : TypeInfo) (z : Value) (size bytes : Nat) (ht : P.underlying t = some (.slice e)) (hi : P.info? e = some i) (hz : i.zero = some z)
    (hsize : i.size = size) (hby : i.bytes = bytes) (hzs : z.cells.size = size) (hsz : 0 < size)
    (v : Value) (n : Nat) (xs : List Value) (hs : a.eval s = v) (hown : w.ownsRow base e size v n xs)
    (A : Option Addr) (m c : Nat) (news : List Value) (hx : a.eval x = .slice A m c) (hsrc : Src w A m c size news) (h1 : ∀ u ∈ news, u.oneCell' = true) (h63 : n + m ≤ maxLen) (hbytes : (n + m) * bytes ≤ 140737488355328) (hbase : base ≤ w.heap.size)
    (h : ∀ v' w', w'.ownsRow base e size v' (n + m) (xs ++ news) → w.grownBy w' v.ownBlock → (v'.ownBlock = v.ownBlock ∨ v'.ownBlock = some w.heap.size) → K (a.put o.dst v') w') :
    if Region.wanted o (yielded ops a.tmps) = true then Oper.wp P o a w K Q else E := by
  rw [if_pos (by simp [Region.wanted, hgd])]
  exact wp_app w s x t ho base e i z size bytes ht hi hz hsize hby hzs hsz v n xs hs hown A m c news hx hsrc h1 h63 hbytes hbase h
end
theorem ownsRow_base {w : World} {base base' : Nat} {e : TypeId} {size : Nat} {v : Value} {n : Nat} {xs : List Value} (h : w.ownsRow base e size v n xs) (hb : base' ≤ base) : w.ownsRow base' e size v n xs := by
  refine ⟨h.1, ?_⟩
  rcases h.2 with h0 | ⟨g, cap, cur, e1, h2, h3⟩
  · exact .inl h0
  · exact .inr ⟨g, cap, cur, e1, by omega, h3⟩
theorem Src.ext {w w' : World} {A : Option Addr} {m c size : Nat} {news : List Value} (h : Src w A m c size news) (k : Ext w w') : Src w' A m c size news := by
  refine ⟨h.1, ?_, h.2.2⟩
  rcases h.2.1 with h0 | ⟨ad, e, hc⟩
  · exact .inl h0
  · exact .inr ⟨ad, e, fun j u hu => k.cell (hc j u hu)⟩
theorem Src.box (w : World) (cs : Array Value) (t : TypeId) (size : Nat) (hs : cs.size = size) : Src (w.alloc (.cells cs t)) (some ⟨w.heap.size, 0, none⟩) 1 1 size cs.toList := by
  refine ⟨by simp [hs], .inr ⟨_, rfl, World.news_of_block (t := t) (fr := (0, 0)) (heap_alloc_new w _)⟩, Nat.le_refl _⟩
/-- a row of the call's own as the source -/
theorem src_own {w : World} {base : Nat} {e : TypeId} {v : Value} {n : Nat} {xs : List Value} {size : Nat} (h : w.ownsRow base e size v n xs) : ∃ A c, v = .slice A n c ∧ Src w A n c size xs := by
  rcases h.2 with ⟨rfl, rfl⟩ | ⟨g, cap, cur, rfl, _, _, hc, _⟩
  · exact ⟨none, 0, rfl, h.1, .inl ⟨rfl, rfl⟩, Nat.le_refl _⟩
  · exact ⟨_, cap, rfl, h.1, .inr ⟨_, rfl, h.cells rfl⟩, hc⟩


theorem own_chg {w w' : World} {r : Option Nat} (h : w.grownBy w' r) : Chg (fun x => r = some x) w w' :=
  ⟨h.os, h.tape, h.output, h.size, fun i hi hne => h.block i hi (fun e => hne (by first | exact e | exact e.symm))⟩
theorem own_lt {w : World} {base : Nat} {e : TypeId} {size : Nat} {v : Value} {n : Nat} {xs : List Value} (h : w.ownsRow base e size v n xs) : ∀ q, v.ownBlock = some q → base ≤ q ∧ q < w.heap.size := by
  intro q hq
  rcases h.2 with ⟨e1, _⟩ | ⟨q', cap, cur, e1, hb, hheap, _⟩
  · rw [e1] at hq; cases hq
  · rw [e1] at hq
    obtain rfl : q' = q := by injection hq
    refine ⟨hb, ?_⟩
    by_cases hlt : q' < w.heap.size
    · exact hlt
    · rw [Array.getElem?_eq_none (by omega)] at hheap; cases hheap
theorem own_form {w : World} {base : Nat} {e : TypeId} {size : Nat} {v : Value} {n : Nat} {xs : List Value} (h : w.ownsRow base e size v n xs) (hn : 0 < n) : ∃ q cap, v = .slice (some ⟨q, 0, none⟩) n cap ∧ n ≤ cap := by
  rcases h.2 with ⟨_, e1⟩ | ⟨q, cap, cur, e1, _, _, h3, _⟩
  · omega
  · exact ⟨q, cap, e1, h3⟩
/-- the block that it lies in is as it was -/
theorem own_same {w w' : World} {base : Nat} {e : TypeId} {size : Nat} {v : Value} {n : Nat} {xs : List Value} (h : w.ownsRow base e size v n xs) (k : ∀ q, v.ownBlock = some q → w'.heap[q]? = w.heap[q]?) : w'.ownsRow base e size v n xs := by
  refine ⟨h.1, ?_⟩
  rcases h.2 with h0 | ⟨q, cap, cur, e1, hb, hg, hr⟩
  · exact .inl h0
  · exact .inr ⟨q, cap, cur, e1, hb, by rw [k q (by rw [e1]; rfl)]; exact hg, hr⟩
theorem set4_list {xs : List Value} {n : Nat} (hl : xs.length = n * 4) (a b c d u0 u1 u2 u3 : Value) :
    ((((xs ++ [a, b, c, d]).set (n * 4) u0).set (n * 4 + 1) u1).set (n * 4 + 2) u2).set (n * 4 + 3) u3 = xs ++ [u0, u1, u2, u3] := by
  simp [hl]
theorem own_set4 {w : World} {base : Nat} {e : TypeId} {q n cap : Nat} {xs : List Value} {a b c d : Value} (h : w.ownsRow base e 4 (.slice (some ⟨q, 0, none⟩) (n + 1) cap) (n + 1) (xs ++ [a, b, c, d])) (hl : xs.length = n * 4) (u0 u1 u2 u3 : Value) :
    (set4 w q (n * 4) u0 u1 u2 u3).ownsRow base e 4 (.slice (some ⟨q, 0, none⟩) (n + 1) cap) (n + 1) (xs ++ [u0, u1, u2, u3]) := by
  have h1 := (h.stored (n * 4) u0).1
  have h2 := (h1.stored (n * 4 + 1) u1).1
  have h3 := (h2.stored (n * 4 + 2) u2).1
  have h4 := (h3.stored (n * 4 + 3) u3).1
  rw [set4_list hl] at h4
  exact h4
theorem own_cells4 {w : World} {base : Nat} {e : TypeId} {q n cap : Nat} {xs : List Value} {a b c d : Value} (h : w.ownsRow base e 4 (.slice (some ⟨q, 0, none⟩) (n + 1) cap) (n + 1) (xs ++ [a, b, c, d])) (hl : xs.length = n * 4) :
    (w.cell? ⟨q, n * 4, none⟩ = some a ∧ w.cell? ⟨q, n * 4 + 1, none⟩ = some b ∧ w.cell? ⟨q, n * 4 + 2, none⟩ = some c ∧ w.cell? ⟨q, n * 4 + 3, none⟩ = some d) ∧ (w.frozen? ⟨q, n * 4, none⟩ = false ∧ w.frozen? ⟨q, n * 4 + 1, none⟩ = false ∧ w.frozen? ⟨q, n * 4 + 2, none⟩ = false ∧ w.frozen? ⟨q, n * 4 + 3, none⟩ = false) := by
  refine ⟨⟨?_, ?_, ?_, ?_⟩, h.frozenAt _, h.frozenAt _, h.frozenAt _, h.frozenAt _⟩
  · rw [h.cellAt (n * 4) (by omega), List.getElem?_append_right (by omega), hl, Nat.sub_self]; rfl
  · rw [h.cellAt (n * 4 + 1) (by omega), List.getElem?_append_right (by omega), hl, Nat.add_sub_cancel_left]; rfl
  · rw [h.cellAt (n * 4 + 2) (by omega), List.getElem?_append_right (by omega), hl, Nat.add_sub_cancel_left]; rfl
  · rw [h.cellAt (n * 4 + 3) (by omega), List.getElem?_append_right (by omega), hl, Nat.add_sub_cancel_left]; rfl
/-- stores into two blocks may change places -/
theorem setCell_swap (w : World) {a b : Addr} (h : a.block ≠ b.block) (u v : Value) : (w.setCell a u).setCell b v = (w.setCell b v).setCell a u := by
  unfold World.setCell
  congr 1
  apply Array.ext
  · simp
  · intro i h1 h2
    simp only [Array.getElem_modify]
    by_cases e1 : b.block = i <;> by_cases e2 : a.block = i <;> simp [e1, e2]
    exact absurd (e2.trans e1.symm) h
theorem set4_swap (w : World) {p q : Nat} (h : p ≠ q) (j o : Nat) (u v0 v1 v2 v3 : Value) : set4 (w.setCell ⟨p, j, none⟩ u) q o v0 v1 v2 v3 = (set4 w q o v0 v1 v2 v3).setCell ⟨p, j, none⟩ u := by
  unfold set4
  rw [setCell_swap w (a := ⟨p, j, none⟩) (b := ⟨q, o, none⟩) h, setCell_swap _ (a := ⟨p, j, none⟩) (b := ⟨q, o + 1, none⟩) h, setCell_swap _ (a := ⟨p, j, none⟩) (b := ⟨q, o + 2, none⟩) h, setCell_swap _ (a := ⟨p, j, none⟩) (b := ⟨q, o + 3, none⟩) h]
end Go.Proofs.YtbjghkmjnhmlfaaGreatDoor

/- Package read: which role stands how far behind which. -/
namespace Go.Proofs.YtbjghkmjnhmlfaaGreatDoor
open Go.RowKit

/-! how many zero bits a role ends with -/
def tzI (k : Nat) : Nat := 2 ^ k * 285870213051353865 % 18446744073709551616 / 288230376151711744
def BitAt (w : World) : Prop := ∀ k, k < 38 → w.cell? ⟨2, tzI k, none⟩ = some (.int .u8 k)
theorem BitAt.ext {w w' : World} (h : BitAt w) (k : Ext w w') : BitAt w' := fun i hi => k.cell (h i hi)
theorem BitAt.chg {w w' : World} {F : Nat → Prop} (h : BitAt w) (k : Chg F w w') (hF : ¬ F 2) : BitAt w' := fun i hi => k.cell (h i hi) hF
/-- the table stands, and it is not the reader's block -/
structure BitOk (w : World) (g : Nat) : Prop where
  at_ : BitAt w
  ne : g ≠ 2
theorem BitAt.lt {w : World} (h : BitAt w) : 2 < w.heap.size := World.block_lt_of_cell? w _ (h 0 (by omega))
theorem BitOk.ext {w w' : World} {g : Nat} (h : BitOk w g) (k : Ext w w') : BitOk w' g := ⟨h.at_.ext k, h.ne⟩
theorem BitOk.chg {w w' : World} {g : Nat} (h : BitOk w g) (k : Chg (· = g) w w') : BitOk w' g := ⟨h.at_.chg k (fun e => h.ne e.symm), h.ne⟩
theorem BitOk.chgp {w w' : World} {g p : Nat} (h : BitOk w g) (k : Chg (· = p) w w') (hp : p ≠ 2) : BitOk w' g := ⟨h.at_.chg k (fun e => hp e.symm), h.ne⟩
theorem BitOk.chg2 {w w' : World} {g p : Nat} (h : BitOk w g) (k : Chg (fun x => x = g ∨ x = p) w w') (hp : p ≠ 2) : BitOk w' g := ⟨h.at_.chg k (fun e => e.elim (fun e => h.ne e.symm) (fun e => hp e.symm)), h.ne⟩
theorem tz_neg (x : Nat) (h2 : x < 274877906944) (h0 : 0 < x) : IntKind.u64.wrap (-(x : Int)) = ((18446744073709551616 - x : Nat) : Int) := by rw [IntKind.wrap_u64]; omega
theorem tz_and (k : Nat) (h2 : 2 ^ k < 274877906944) : 2 ^ k &&& (18446744073709551616 - 2 ^ k) = 2 ^ k := by
  have ha := Lib.and_neg 64 k 0 (by simp only [Nat.mul_zero, Nat.zero_add, Nat.mul_one]; omega)
  simp only [Nat.mul_zero, Nat.zero_add, Nat.mul_one] at ha
  exact ha
theorem tz_mul (x : Nat) : IntKind.u64.wrap ((x : Int) * 285870213051353865) / 288230376151711744 = ((x * 285870213051353865 % 18446744073709551616 / 288230376151711744 : Nat) : Int) := by
  rw [IntKind.wrap_u64]
  omega
theorem tz_lt (k : Nat) (h : k < 38) : 2 ^ k < 274877906944 := by
  have : 2 ^ k ≤ 2 ^ 37 := Nat.pow_le_pow_right (by omega) (by omega)
  omega
theorem tz_bits (x : Nat) (h2 : x < 274877906944) (h0 : 0 < x) (hh : x &&& (18446744073709551616 - x) = x) : IntKind.u64.wrap (bits .and .u64 (x : Int) (IntKind.u64.wrap (-(x : Int))) * 285870213051353865) / 288230376151711744 = ((x * 285870213051353865 % 18446744073709551616 / 288230376151711744 : Nat) : Int) := by
  have e1 : bits .and .u64 (x : Int) ((18446744073709551616 - x : Nat) : Int) = ((x &&& (18446744073709551616 - x) : Nat) : Int) := u64_and_nat x (18446744073709551616 - x) (by omega) (by omega)
  rw [tz_neg x h2 h0, e1, hh]
  exact tz_mul x
theorem tz_keyx (k x : Nat) (hx : 2 ^ k = x) (h2 : x < 274877906944) (h0 : 0 < x) (hh : x &&& (18446744073709551616 - x) = x) : IntKind.u64.wrap (bits .and .u64 (roleV k) (IntKind.u64.wrap (-(roleV k))) * 285870213051353865) / 288230376151711744 = (tzI k : Int) := by
  unfold roleV tzI
  rw [hx]
  exact tz_bits x h2 h0 hh
theorem tz_key (k : Nat) (h : k < 38) : IntKind.u64.wrap (bits .and .u64 (roleV k) (IntKind.u64.wrap (-(roleV k))) * 285870213051353865) / 288230376151711744 = (tzI k : Int) :=
  tz_keyx k (2 ^ k) rfl (tz_lt k h) (Nat.two_pow_pos k) (tz_and k (tz_lt k h))
theorem tzI_lt (k : Nat) : tzI k < 64 := by
  unfold tzI
  have : 2 ^ k * 285870213051353865 % 18446744073709551616 < 18446744073709551616 := Nat.mod_lt _ (by omega)
  omega
theorem roleV_pos (k : Nat) : (roleV k == 0) = false := by
  unfold roleV
  have := Nat.two_pow_pos k
  simp only [beq_eq_false_iff_ne, ne_eq]
  omega
set_option maxRecDepth 100000 in
set_option maxHeartbeats 1000000 in
theorem tz_rd (k : Nat) (hk : k < 38) {w : World} (hB : BitAt w) :
    Calls Tryz.prog 122 #[.int .u64 (roleV k)] w fun e w' => e = .returned (.int .i64 k) ∧ w' = w := by
  have hc := hB k hk
  have HK := tz_key k hk
  have h0 := roleV_pos k
  have hi := tzI_lt k
  have hi0 : (0 : Int) ≤ (tzI k : Int) := Int.natCast_nonneg _
  have hi1 : (tzI k : Int) < 64 := by omega
  have hw : IntKind.i64.wrap (k : Int) = k := by rw [IntKind.wrap_i64]; omega
  clear hB
  obtain ⟨t, ht⟩ : ∃ t, t = tzI k := ⟨_, rfl⟩
  obtain ⟨R, hR⟩ : ∃ R, R = roleV k := ⟨_, rfl⟩
  rw [← ht] at hc HK hi0 hi1
  rw [← hR] at HK h0 ⊢
  clear ht hR hi hk
  go_enter Tryz.func122, Tryz.ntmps122
  go_wp2_with (simp only [HK])
  go_ret
  exact ⟨rfl, rfl⟩
set_option maxRecDepth 100000 in
set_option maxHeartbeats 1000000 in
theorem above_rd (a b : Nat) (ha : a < 38) (hb : b < 38) {w : World} (hB : BitAt w) :
    Calls Tryz.prog 114 #[.int .u64 (roleV a), .int .u64 (roleV b)] w fun e w' => e = .returned (.int .i64 ((a : Int) - b)) ∧ w' = w := by
  have KA := Lib.hid (tz_rd a ha hB)
  have KB := Lib.hid (tz_rd b hb hB)
  have hw : IntKind.i64.wrap ((a : Int) - b) = (a : Int) - b := by rw [IntKind.wrap_i64]; omega
  clear hB
  go_enter Tryz.func114, Tryz.ntmps114
  go_wp2_with fail
  refine KA.out.mono ?_
  rintro e w1 ⟨rfl, rfl⟩
  go_wp2_with fail
  refine KB.out.mono ?_
  rintro e w2 ⟨rfl, rfl⟩
  go_wp2_with fail
  go_ret
  exact ⟨rfl, rfl⟩
set_option maxRecDepth 100000 in
set_option maxHeartbeats 1000000 in
theorem kindOf_rd (a : Nat) (ha : a < 38) {w : World} (hB : BitAt w) :
    Calls Tryz.prog 116 #[.int .u64 (roleV a)] w fun e w' => e = .returned (.int .i64 ((a : Int) - 14)) ∧ w' = w := by
  have KA := Lib.hid (above_rd a 15 ha (by omega) hB)
  have hw : IntKind.i64.wrap (1 + ((a : Int) - ((15 : Nat) : Int))) = (a : Int) - 14 := by rw [IntKind.wrap_i64]; omega
  rw [show roleV 15 = 32768 by decide] at KA
  clear hB
  go_enter Tryz.func116, Tryz.ntmps116
  go_wp2_with fail
  refine KA.out.mono ?_
  rintro e w1 ⟨rfl, rfl⟩
  go_wp2_with fail
  go_ret
  exact ⟨ret_int (by omega), rfl⟩
end Go.Proofs.YtbjghkmjnhmlfaaGreatDoor
