/- Package lex: words: strings.Clone, word. -/
import Derived.Test.YtagkimcbllpnkaaDoorLxq
import Derived.Test.YtagkimcbllpnkaaDoorLayB
import Derived.Deep.RegionHeld3
namespace Go.Proofs.YtagkimcbllpnkaaDoor
open Go.RowKit

theorem clone_any (s : ByteArray) (w : World) (hs : s.size ≤ 4000) : Calls Tryd.prog 26 #[.string s] w fun e w' => e = .returned (.string s) ∧ Ext w w' := by
  have K := fun u => Lib.hid (AnyPu.stringslite_Clone layClone s u (by omega))
  go_enter Tryd.func26, Tryd.ntmps26
  go_wp2_with fail
  refine (K _).out.mono ?_
  rintro e w1 ⟨rfl, hx⟩
  go_wp2_with fail
  go_ret
  exact ⟨rfl, hx⟩

theorem skip_tx (c : Nat) (p : UInt8 → Bool) (hp : clsB c = p) (g : Nat) (s : ByteArray) (k b : Nat) (w : World) (hc : c < 6) (hC : ClsAt w) (h : CurAt w g s k b) (hk : k ≤ s.size) (hs : s.size ≤ 4000) :
    Calls Tryd.prog 19 #[.pointer (some ⟨g, 0, none⟩), .int .i64 c] w fun e w' => ∃ tx, e = .returned (.string tx) ∧ Hid (tx = ⟨((lft s k).takeWhile p).toArray⟩) ∧ tx.size = runN p s k ∧ CurAt w' g s (k + runN p s k) b ∧ Chg (· = g) w w' :=
  hp ▸ (skip_any c g s k b w hc hC h hk hs).mono fun _ _ ⟨e, x, y⟩ => ⟨_, e, Lib.hid rfl, by unfold runN; simp [ByteArray.size], x, y⟩

/-- a word's value -/
abbrev Tok.val (t : Tok) : Value := .agg #[.int .i64 t.kind, .string t.text, .int .i64 t.n, .int .i64 t.at_]
abbrev tok0 : Tok := ⟨0, ⟨#[]⟩, 0, 0⟩

/-- what a call tells: a word and nothing wrong, the cursor behind it; or what is wrong -/
def TokOut (s : ByteArray) (g b : Nat) (w : World) (r : Sum Int (Tok × Nat)) (e : Ending) (w' : World) : Prop := Chg (· = g) w w' ∧ match r with
  | .inl x => e = .returned (.tuple #[tok0.val, .int .i64 x])
  | .inr (t, k) => e = .returned (.tuple #[t.val, .int .i64 0]) ∧ CurAt w' g s k b

theorem Chg.fresh {F : Nat → Prop} {w wz wy : World} (h : Chg F w wz) (k : Chg (· = w.heap.size) wz wy) : Chg F w wy :=
  ⟨k.os.trans h.os, k.tape.trans h.tape, k.output.trans h.output, Nat.le_trans h.size k.size, fun i hi hf => (k.block i (Nat.lt_of_lt_of_le hi h.size) (by omega)).trans (h.block i hi hf)⟩
theorem CurAt.same {w w' : World} {g : Nat} {s : ByteArray} {k b : Nat} (h : CurAt w g s k b) (e : w'.heap[g]? = w.heap[g]?) : CurAt w' g s k b :=
  ⟨cell_same e h.c0, cell_same e h.c1, cell_same e h.c2, (World.frozen?_of_block (w := w) e).trans h.f1, h.ne⟩
theorem out_ok {s : ByteArray} {g b k : Nat} {w wz : World} {r : Sum Int (Tok × Nat)} {t : Tok} {v0 v1 v2 v3 : Value} (hR : r = .inr (t, k)) (hc : Chg (· = g) w wz) (H : CurAt wz g s k b) (hg : g < w.heap.size) :
    TokOut s g b w r (.returned (.tuple #[t.val, .int .i64 0])) (set4 wz w.heap.size 0 v0 v1 v2 v3) := by
  subst hR
  exact ⟨hc.fresh (set4_chg _ _ _ _ _ _ _ rfl), rfl, H.same (set4_block _ _ _ _ _ _ _ _ (by omega))⟩
theorem out_bad {s : ByteArray} {g b : Nat} {w wz : World} {r : Sum Int (Tok × Nat)} {x : Int} {v0 v1 v2 v3 : Value} (hR : r = .inl x) (hc : Chg (· = g) w wz) :
    TokOut s g b w r (.returned (.tuple #[tok0.val, .int .i64 x])) (set4 wz w.heap.size 0 v0 v1 v2 v3) := by
  subst hR
  exact ⟨hc.fresh (set4_chg _ _ _ _ _ _ _ rfl), rfl⟩

def wordR (K : Int) (s : ByteArray) (k : Nat) : Sum Int (Tok × Nat) :=
  if ((lft s k).takeWhile innB).length ≤ 16 then .inr (⟨K, ⟨((lft s k).takeWhile innB).toArray⟩, 0, 0⟩, k + runN innB s k) else .inl 2

set_option maxHeartbeats 1000000 in
theorem word_any (K : Int) (g : Nat) (s : ByteArray) (k b : Nat) (w : World) (hC : ClsAt w) (h : CurAt w g s k b) (hk : k ≤ s.size) (hs : s.size ≤ 4000) :
    Calls Tryd.prog 22 #[.pointer (some ⟨g, 0, none⟩), .int .i64 K] w (TokOut s g b w (wordR K s k)) := by
  have hgl := World.block_lt_of_cell? w _ h.c0
  simp only at hgl
  have hne : w.heap.size ≠ g := by omega
  by_cases h16 : ((lft s k).takeWhile innB).length ≤ 16
  · have HR : Hid (wordR K s k = .inr (⟨K, ⟨((lft s k).takeWhile innB).toArray⟩, 0, 0⟩, k + runN innB s k)) := Lib.hid (by unfold wordR; rw [if_pos h16])
    have hn : runN innB s k ≤ 16 := h16
    clear h16
    go_enter Tryd.func22, Tryd.ntmps22
    go_wp2_with fail
    refine (skip_tx 4 innB rfl g s k b _ (by omega) (hC.ext ((Ext.refl _).alloc _)) (h.ext ((Ext.refl _).alloc _)) hk hs).mono ?_
    rintro e w1 ⟨tx, rfl, HX, hsz, h1, hx1⟩
    have hsz' : decide ((16 : Int) < (tx.size : Int)) = false := decide_eq_false (by omega)
    have hx01 : Chg (· = g) w w1 := (Chg.of_ext ((Ext.refl w).alloc _)).trans hx1
    have HB := Lib.hid ((Box4.new w (.int .i64 0) (.string ⟨#[]⟩) (.int .i64 0) (.int .i64 0) 37).chg hx1 hne)
    have H1 := Lib.hid h1
    clear h1 hx1
    go_wp2_with fail
    refine (clone_any tx _ (by omega)).mono ?_
    rintro e w2 ⟨rfl, hx2⟩
    have HB2 := Lib.hid (HB.out.ext hx2)
    obtain ⟨b0, b1, b2, b3, f0, f1, f2, f3⟩ := HB2.out
    have H2 := Lib.hid (H1.out.ext hx2)
    go_wp2_with fail
    refine bodyPost_ret (v := .tuple #[Tok.val ⟨K, tx, 0, 0⟩, .int .i64 0]) (by simp [results, Tryd.results22, go_sem, *]) rfl ?_
    exact out_ok (by rw [HR.out, HX.out]) ((hx01.trans (Chg.of_ext hx2))) H2.out hgl
  · have HR : Hid (wordR K s k = .inl 2) := Lib.hid (by unfold wordR; rw [if_neg h16])
    have hn : 16 < runN innB s k := by unfold runN; omega
    clear h16
    go_enter Tryd.func22, Tryd.ntmps22
    go_wp2_with fail
    refine (skip_tx 4 innB rfl g s k b _ (by omega) (hC.ext ((Ext.refl _).alloc _)) (h.ext ((Ext.refl _).alloc _)) hk hs).mono ?_
    rintro e w1 ⟨tx, rfl, HX, hsz, h1, hx1⟩
    have hsz' : decide ((16 : Int) < (tx.size : Int)) = true := decide_eq_true (by omega)
    have hx01 : Chg (· = g) w w1 := (Chg.of_ext ((Ext.refl w).alloc _)).trans hx1
    have HB := Lib.hid ((Box4.new w (.int .i64 0) (.string ⟨#[]⟩) (.int .i64 0) (.int .i64 0) 37).chg hx1 hne)
    obtain ⟨b0, b1, b2, b3, f0, f1, f2, f3⟩ := HB.out
    clear h1 hx1
    go_wp2_with fail
    refine bodyPost_ret (v := .tuple #[tok0.val, .int .i64 2]) (by simp [results, Tryd.results22, go_sem, *]) rfl ?_
    exact out_bad HR.out hx01
end Go.Proofs.YtagkimcbllpnkaaDoor
