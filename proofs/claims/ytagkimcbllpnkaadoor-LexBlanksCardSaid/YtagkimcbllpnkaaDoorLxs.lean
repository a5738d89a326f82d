/- Package lex: the cursor: skip. -/
import Derived.Test.YtagkimcbllpnkaaDoorLxw
import Derived.Test.YtagkimcbllpnkaaDoorLxo
import Derived.Deep.LoopGhost
namespace Go.Proofs.YtagkimcbllpnkaaDoor
open Go.RowKit

theorem Chg.drewN {F : Nat → Prop} {a w : World} (h : Chg F a w) (n : Nat) : Chg F a (w.drewN n) := ⟨h.os, h.tape, h.output, h.size, h.block⟩
theorem Chg.alloc {F : Nat → Prop} {a w : World} (h : Chg F a w) (o : Obj) : Chg F a (w.alloc o) := h.trans (Chg.of_ext ((Ext.refl w).alloc o))
theorem Chg.set {F : Nat → Prop} {a w : World} (h : Chg F a w) {p : Addr} (hp : F p.block) (v : Value) : Chg F a (w.setCell p v) :=
  ⟨h.os, h.tape, h.output, by simpa using h.size, fun k hk hf => (Below.heap_setCell _ _ _ _ (fun e => hf (by subst e; exact hp))).trans (h.block k hk hf)⟩
/-- four cells of a block, that may be written -/
def Box4 (w : World) (g : Nat) (v0 v1 v2 v3 : Value) : Prop :=
  w.cell? ⟨g, 0, none⟩ = some v0 ∧ w.cell? ⟨g, 1, none⟩ = some v1 ∧ w.cell? ⟨g, 2, none⟩ = some v2 ∧ w.cell? ⟨g, 3, none⟩ = some v3 ∧
  w.frozen? ⟨g, 0, none⟩ = false ∧ w.frozen? ⟨g, 1, none⟩ = false ∧ w.frozen? ⟨g, 2, none⟩ = false ∧ w.frozen? ⟨g, 3, none⟩ = false
theorem Box4.same {w w' : World} {g : Nat} {v0 v1 v2 v3 : Value} (h : Box4 w g v0 v1 v2 v3) (e : w'.heap[g]? = w.heap[g]?) : Box4 w' g v0 v1 v2 v3 := by
  obtain ⟨a, b, c, d, f0, f1, f2, f3⟩ := h
  exact ⟨cell_same e a, cell_same e b, cell_same e c, cell_same e d, (World.frozen?_of_block (w := w) e).trans f0, (World.frozen?_of_block (w := w) e).trans f1, (World.frozen?_of_block (w := w) e).trans f2, (World.frozen?_of_block (w := w) e).trans f3⟩
theorem Box4.lt {w : World} {g : Nat} {v0 v1 v2 v3 : Value} (h : Box4 w g v0 v1 v2 v3) : g < w.heap.size := World.block_lt_of_cell? w _ h.1
theorem Box4.ext {w w' : World} {g : Nat} {v0 v1 v2 v3 : Value} (h : Box4 w g v0 v1 v2 v3) (k : Ext w w') : Box4 w' g v0 v1 v2 v3 := h.same (k.block g h.lt)
theorem Box4.chg {w w' : World} {F : Nat → Prop} {g : Nat} {v0 v1 v2 v3 : Value} (h : Box4 w g v0 v1 v2 v3) (k : Chg F w w') (hg : ¬ F g) : Box4 w' g v0 v1 v2 v3 := h.same (k.block g h.lt hg)
theorem Box4.new (w : World) (v0 v1 v2 v3 : Value) (t : TypeId) : Box4 (w.alloc (.cells #[v0, v1, v2, v3] t)) w.heap.size v0 v1 v2 v3 := ⟨by go_simp, by go_simp, by go_simp, by go_simp, by go_simp, by go_simp, by go_simp, by go_simp⟩
theorem Box4.set_all {w : World} {g : Nat} {v0 v1 v2 v3 : Value} (h : Box4 w g v0 v1 v2 v3) (u0 u1 u2 u3 : Value) : Box4 (set4 w g 0 u0 u1 u2 u3) g u0 u1 u2 u3 := by
  obtain ⟨a, b, c, d, f0, f1, f2, f3⟩ := h
  obtain ⟨x0, x1, x2, x3⟩ := set4_cells (o := 0) u0 u1 u2 u3 a b c d
  simp only [Nat.zero_add] at x1 x2 x3
  exact ⟨x0, x1, x2, x3, (set4_frozen w g 0 u0 u1 u2 u3 _).trans f0, (set4_frozen w g 0 u0 u1 u2 u3 _).trans f1, (set4_frozen w g 0 u0 u1 u2 u3 _).trans f2, (set4_frozen w g 0 u0 u1 u2 u3 _).trans f3⟩
theorem Box4.set01 {w : World} {g : Nat} {v0 v1 v2 v3 : Value} (h : Box4 w g v0 v1 v2 v3) (u0 u1 : Value) : Box4 ((w.setCell ⟨g, 0, none⟩ u0).setCell ⟨g, 1, none⟩ u1) g u0 u1 v2 v3 := by
  obtain ⟨a, b, c, d, f0, f1, f2, f3⟩ := h
  exact ⟨by go_simp, by go_simp, by go_simp, by go_simp, by go_simp, by go_simp, by go_simp, by go_simp⟩
theorem Box4.set02 {w : World} {g : Nat} {v0 v1 v2 v3 : Value} (h : Box4 w g v0 v1 v2 v3) (u0 u2 : Value) : Box4 ((w.setCell ⟨g, 0, none⟩ u0).setCell ⟨g, 2, none⟩ u2) g u0 v1 u2 v3 := by
  obtain ⟨a, b, c, d, f0, f1, f2, f3⟩ := h
  exact ⟨by go_simp, by go_simp, by go_simp, by go_simp, by go_simp, by go_simp, by go_simp, by go_simp⟩
theorem Box4.set0 {w : World} {g : Nat} {v0 v1 v2 v3 : Value} (h : Box4 w g v0 v1 v2 v3) (u0 : Value) : Box4 (w.setCell ⟨g, 0, none⟩ u0) g u0 v1 v2 v3 := by
  obtain ⟨a, b, c, d, f0, f1, f2, f3⟩ := h
  exact ⟨by go_simp, by go_simp, by go_simp, by go_simp, by go_simp, by go_simp, by go_simp, by go_simp⟩
theorem ClsAt.chg {w w' : World} {g : Nat} (h : ClsAt w) (k : Chg (· = g) w w') (hg : g ≠ 0) : ClsAt w' := fun i hi => k.cell (h i hi) (fun e => hg e.symm)
theorem ClsAt.ext {w w' : World} (h : ClsAt w) (k : Ext w w') : ClsAt w' := fun i hi => k.cell (h i hi)

/-- a cursor in block g: its text, how far it has gone, its marks -/
structure CurAt (w : World) (g : Nat) (s : ByteArray) (k : Nat) (b : Nat) : Prop where
  c0 : w.cell? ⟨g, 0, none⟩ = some (.string s)
  c1 : w.cell? ⟨g, 1, none⟩ = some (.int .i64 k)
  c2 : w.cell? ⟨g, 2, none⟩ = some (.map (some b))
  f1 : w.frozen? ⟨g, 1, none⟩ = false
  ne : g ≠ 0
theorem CurAt.to {w : World} {g : Nat} {s : ByteArray} {k b : Nat} (h : CurAt w g s k b) (k' : Nat) : CurAt (w.setCell ⟨g, 1, none⟩ (.int .i64 k')) g s k' b :=
  ⟨by have := h.c0; go_simp, by have := h.c1; have := h.f1; go_simp, by have := h.c2; go_simp, by have := h.f1; go_simp, h.ne⟩
theorem CurAt.ext {w w' : World} {g : Nat} {s : ByteArray} {k b : Nat} (h : CurAt w g s k b) (x : Ext w w') : CurAt w' g s k b :=
  ⟨x.cell h.c0, x.cell h.c1, x.cell h.c2, (Below.frozen x (World.block_lt_of_cell? w _ h.c1)).trans h.f1, h.ne⟩

/-- what of a text is left behind so many bytes -/
abbrev lft (s : ByteArray) (k : Nat) : List UInt8 := s.data.toList.drop k
theorem lft_cons (s : ByteArray) (k : Nat) (h : k < s.size) : lft s k = s[k] :: lft s (k + 1) := by
  unfold lft
  rw [List.drop_eq_getElem_cons (by simpa using h)]; rfl
theorem lft_len (s : ByteArray) (k : Nat) : (lft s k).length = s.size - k := by unfold lft; rw [List.length_drop]; rfl
/-- how many bytes ahead are of a class -/
def runN (p : UInt8 → Bool) (s : ByteArray) (k : Nat) : Nat := ((lft s k).takeWhile p).length
theorem runN_yes {p : UInt8 → Bool} {s : ByteArray} {k : Nat} (h : k < s.size) (hp : p s[k] = true) : runN p s k = runN p s (k + 1) + 1 := by
  unfold runN; rw [lft_cons s k h, List.takeWhile_cons_of_pos hp]; rfl
theorem runN_no {p : UInt8 → Bool} {s : ByteArray} {k : Nat} (h : k < s.size) (hp : p s[k] = false) : runN p s k = 0 := by
  unfold runN; rw [lft_cons s k h, List.takeWhile_cons_of_neg (by simp [hp])]; rfl
theorem runN_end {p : UInt8 → Bool} {s : ByteArray} {k : Nat} (h : s.size ≤ k) : runN p s k = 0 := by
  unfold runN lft; rw [List.drop_eq_nil_of_le (by simpa using h)]; rfl
theorem takeWhile_le (p : UInt8 → Bool) (l : List UInt8) : (l.takeWhile p).length ≤ l.length := by
  induction l with
  | nil => simp
  | cons c r ih => rw [List.takeWhile_cons]; split <;> simp <;> omega
theorem runN_le (p : UInt8 → Bool) {s : ByteArray} {k : Nat} (h : k ≤ s.size) : k + runN p s k ≤ s.size := by
  have h1 := takeWhile_le p (lft s k)
  rw [lft_len] at h1
  unfold runN
  omega

theorem takeWhile_take (p : UInt8 → Bool) (l : List UInt8) : l.take (l.takeWhile p).length = l.takeWhile p := by
  induction l with
  | nil => rfl
  | cons c r ih => rw [List.takeWhile_cons]; split <;> simp [ih]
theorem run_extract (p : UInt8 → Bool) {s : ByteArray} {k j : Nat} (h : k + runN p s k = j) : s.extract k j = ⟨((lft s k).takeWhile p).toArray⟩ := by
  subst h
  apply ByteArray.ext
  apply Array.ext'
  have h1 : (s.extract k (k + runN p s k)).data.toList = (s.data.toList.drop k).take (runN p s k) := by
    simp [ByteArray.data_extract, Array.toList_extract, List.extract_eq_take_drop]
  rw [h1]
  unfold runN lft
  rw [takeWhile_take]

theorem CurAt.drewN {w : World} {g : Nat} {s : ByteArray} {k b : Nat} (h : CurAt w g s k b) (n : Nat) : CurAt (w.drewN n) g s k b := h.ext ((Ext.refl w).drewN n)

set_option maxRecDepth 100000 in
set_option maxHeartbeats 1000000 in
theorem skip_any (c : Nat) (g : Nat) (s : ByteArray) (k b : Nat) (w : World) (hc : c < 6) (hC : ClsAt w) (h : CurAt w g s k b) (hk : k ≤ s.size) (hs : s.size ≤ 4000) :
    Calls Tryd.prog 19 #[.pointer (some ⟨g, 0, none⟩), .int .i64 c] w fun e w' => e = .returned (.string ⟨((lft s k).takeWhile (clsB c)).toArray⟩) ∧ CurAt w' g s (k + runN (clsB c) s k) b ∧ Chg (· = g) w w' := by
  have hc0 := h.c0
  have hc1 := h.c1
  go_enter Tryd.func19, Tryd.ntmps19
  go_wp2_with fail
  go_loopg [] (s.size - k) (fun n wr => ∃ j, k ≤ j ∧ j + n = s.size ∧ Hid (k + runN (clsB c) s k = j + runN (clsB c) s j) ∧ Hid (CurAt wr g s j b) ∧ Chg (· = g) w wr)
  case atStart => exact ⟨k, by omega, by omega, Lib.hid rfl, Lib.hid h, Chg.refl _ _⟩
  case round =>
    obtain ⟨j, hkj, hj, HR, HC, hx⟩ := hrel
    have hcls := Lib.hid (hC.chg hx h.ne)
    have d0 := HC.out.c0
    have d1 := HC.out.c1
    have d2 := HC.out.f1
    by_cases hlt : j < s.size
    · have hl : decide ((j : Int) < (s.size : Int)) = true := decide_eq_true (by omega)
      have j0 : (0 : Int) ≤ (j : Int) := Int.natCast_nonneg _
      by_cases hb : clsB c s[j] = true
      · have HB := Lib.hid hb
        have RN := Lib.hid (runN_yes hlt hb)
        go_wp2_with fail
        go_quiet ((go_at_call 21; exact Calls.quiet_of_same (is_be c s[j] true _ hc (hcls.out.ext ((Ext.refl _).drewN _)) hb)))
        go_wp2_with fail
        go_roundg (gk - 1)
        case rel =>
          exact ⟨j + 1, by omega, by omega, Lib.hid (by rw [HR.out, RN.out]; omega), Lib.hid (by have := (HC.out.drewN nq).to (j + 1); rw [Int.natCast_add] at this; exact this), (hx.drewN nq).set rfl _⟩
        case measure => omega
      · have hb' : clsB c s[j] = false := by simpa using hb
        have RN : Hid (k + runN (clsB c) s k = j) := Lib.hid (by rw [HR.out, runN_no hlt hb']; rfl)
        go_wp2_with fail
        go_quiet ((go_at_call 21; exact Calls.quiet_of_same (is_be c s[j] false _ hc (hcls.out.ext ((Ext.refl _).drewN _)) hb')))
        go_wp2_with fail
        go_quiet (fail)
        go_wp2_with fail
        go_ret
        exact ⟨congrArg (fun v => Ending.returned (.string v)) (run_extract _ RN.out), by rw [RN.out]; exact (HC.out.drewN _).drewN _, (hx.drewN _).drewN _⟩
    · have hl : decide ((j : Int) < (s.size : Int)) = false := decide_eq_false (by omega)
      have RN : Hid (k + runN (clsB c) s k = j) := Lib.hid (by rw [HR.out, runN_end (by omega)]; rfl)
      go_wp2_with fail
      go_quiet (fail)
      go_wp2_with fail
      go_quiet (fail)
      go_wp2_with fail
      go_ret
      exact ⟨congrArg (fun v => Ending.returned (.string v)) (run_extract _ RN.out), by rw [RN.out]; exact (HC.out.drewN _).drewN _, (hx.drewN _).drewN _⟩
end Go.Proofs.YtagkimcbllpnkaaDoor
