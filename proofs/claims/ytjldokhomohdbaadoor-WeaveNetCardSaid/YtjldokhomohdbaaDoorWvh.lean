/- Package weave: the table of what may come of each two relations, as a map. -/
import Derived.Test.YtjldokhomohdbaaDoorWvg
import Derived.DeepKeys4
import Derived.Maps.RangeWalk
import Derived.Maps.OwnSet
namespace Go.Proofs.YtjldokhomohdbaaDoor
open Go.RowKit Go.Maps

/-- nothing but the blocks of F has turned -/
structure Chg (F : Nat → Prop) (w w' : World) : Prop where
  os : w'.os = w.os
  tape : w'.tape = w.tape
  output : w'.output = w.output
  size : w.heap.size ≤ w'.heap.size
  block : ∀ k, k < w.heap.size → ¬ F k → w'.heap[k]? = w.heap[k]?

theorem Chg.of_ext {F : Nat → Prop} {w w' : World} (h : Ext w w') : Chg F w w' := ⟨h.os, h.tape, h.output, h.size, fun k hk _ => h.block k hk⟩
theorem Chg.refl (F : Nat → Prop) (w : World) : Chg F w w := Chg.of_ext (Ext.refl w)
theorem Chg.trans {F : Nat → Prop} {a b c : World} (h : Chg F a b) (k : Chg F b c) : Chg F a c :=
  ⟨k.os.trans h.os, k.tape.trans h.tape, k.output.trans h.output, Nat.le_trans h.size k.size, fun i hi hf => (k.block i (Nat.lt_of_lt_of_le hi h.size) hf).trans (h.block i hi hf)⟩
theorem Chg.weak {F F' : Nat → Prop} {w w' : World} (h : Chg F w w') (k : ∀ b, F b → F' b) : Chg F' w w' := ⟨h.os, h.tape, h.output, h.size, fun i hi hf => h.block i hi (fun x => hf (k i x))⟩
theorem Chg.cell {F : Nat → Prop} {w w' : World} (h : Chg F w w') {p : Addr} {v : Value} (hc : w.cell? p = some v) (hf : ¬ F p.block) : w'.cell? p = some v :=
  (World.cell?_of_block (w := w) (h.block p.block (World.block_lt_of_cell? w _ hc) hf)).trans hc
/-- what is changed lies behind w's end -/
theorem Chg.ext_of {F : Nat → Prop} {w w1 w' : World} (h : Ext w w1) (k : Chg F w1 w') (hf : ∀ b, F b → w.heap.size ≤ b) : Ext w w' :=
  ⟨k.os.trans h.os, k.tape.trans h.tape, k.output.trans h.output, Nat.le_trans h.size k.size, fun i hi => (k.block i (Nat.lt_of_lt_of_le hi h.size) (fun x => by have := hf i x; omega)).trans (h.block i hi)⟩
theorem Chg.drew {F : Nat → Prop} {a w : World} (h : Chg F a w) : Chg F a w.drew := ⟨h.os, h.tape, h.output, h.size, h.block⟩
theorem Chg.of_grown {w w' : World} {b : Nat} (h : w.grownBy w' (some b)) : Chg (· = b) w w' := ⟨h.os, h.tape, h.output, h.size, fun i hi hne => h.block i hi (fun e => hne (by injection e))⟩

theorem run_makeMapN {P : Program} {t k e : TypeId} (hu : P.underlying t = some (.map k e)) (n : Int) (w : World) : (Instr.makeMap t (some (.int .i64 n))).run P w = .ok (.map (some w.heap.size)) (w.alloc (.map #[] 0)) := by
  simp [Instr.makeMap, run_underlying hu, Result.andThen, asInt]
  rfl
theorem laidOutK : laidOutB Tryd.prog = true := by kernel_rfl
theorem lawPair : WideMaps.KeyLaw Tryd.prog 78 := deep_law_laid laidOutK (m := 4) (by omega) (of_decide_eq_true (by kernel_rfl)) (by kernel_rfl) (by kernel_rfl)
theorem keyedPair : Keyed Tryd.prog 78 := Keyed.of_law lawPair
theorem cellsPair : Tryd.prog.cellsOf 78 = 2 := by kernel_rfl
theorem cellsIntK : Tryd.prog.cellsOf 3 = 1 := by kernel_rfl
theorem keyTypePair : Tryd.prog.keyType 78 = true := by kernel_rfl
theorem types3 : ∃ m, Tryd.prog.types.size = m + 3 := ⟨Tryd.prog.types.size - 3, by have : 3 ≤ Tryd.prog.types.size := of_decide_eq_true (by kernel_rfl); omega⟩

/-- two relations as a key -/
abbrev pairV (x y : Int) : Value := .agg #[.int .i64 x, .int .i64 y]
def pairK (x y : Int) : Lit := .string (keyBytes [.int .i64 x, .int .i64 y])
theorem key_pair {x y : Int} (hx : (Lit.int .i64 x).wf = true) (hy : (Lit.int .i64 y).wf = true) : keyOf Tryd.prog 78 (pairV x y) = some (pairK x y) := by
  obtain ⟨m, hm⟩ := types3
  unfold keyOf
  simp only [Tryd.underlying78]
  rw [if_pos (by simp [keyTypePair, Value.formed, Tryd.underlying78, cellsPair]), hm]
  simp [Program.keyLits, Tryd.underlying78, Tryd.underlying3, cellsPair, cellsIntK, Value.cells, hx, hy, pairK]
theorem pairK_inj {x y a b : Int} (hx : (Lit.int .i64 x).wf = true) (hy : (Lit.int .i64 y).wf = true) (ha : (Lit.int .i64 a).wf = true) (hb : (Lit.int .i64 b).wf = true) (h : pairK x y = pairK a b) : x = a ∧ y = b := by
  have := lawPair.inj (key_pair hx hy) (h ▸ key_pair ha hb)
  simpa using this
theorem wf_small {n : Int} (h0 : 0 ≤ n) (h1 : n ≤ 1000) : (Lit.int .i64 n).wf = true := by
  have e1 : IntKind.i64.min = -9223372036854775808 := by decide
  have e2 : IntKind.i64.max = 9223372036854775807 := by decide
  simp only [Lit.wf, e1, e2, Bool.and_eq_true, decide_eq_true_eq]
  omega
theorem wf16 {n : Nat} (h : n < 8192) : (Lit.int .u16 (n : Int)).wf = true := by
  have e1 : IntKind.u16.min = 0 := by decide
  have e2 : IntKind.u16.max = 65535 := by decide
  simp only [Lit.wf, e1, e2, Bool.and_eq_true, decide_eq_true_eq]
  omega
def relK (r q : Nat) : Lit := pairK ((r : Int) + 1) ((q : Int) + 1)
theorem relK_inj {r q a b : Nat} (hr : r < 13) (hq : q < 13) (ha : a < 13) (hb : b < 13) (h : relK r q = relK a b) : r = a ∧ q = b := by
  have := pairK_inj (wf_small (by omega) (by omega)) (wf_small (by omega) (by omega)) (wf_small (by omega) (by omega)) (wf_small (by omega) (by omega)) h
  omega

/-- block b is a map that tells of the first n pairs what may come of them -/
def TabAt (w : World) (b n : Nat) : Prop := ∃ D : DataW Unit, w.ownsMap Tryd.prog 78 (plainElem Tryd.prog 55) b n D ∧
  ∀ r q, r < 13 → q < 13 → r * 13 + q < n → ∀ zd, D.atKey (relK r q) zd = .lit (.int .u16 (thruN r q : Int))
theorem TabAt.lt {w : World} {b n : Nat} (h : TabAt w b n) : b < w.heap.size := by obtain ⟨D, h, _⟩ := h; exact h.lt
theorem TabAt.keep {w w' : World} {b n : Nat} (h : TabAt w b n) (e : w'.heap[b]? = w.heap[b]?) : TabAt w' b n := by
  obtain ⟨D, ⟨es, clock, hb, F, hs, hD⟩, h2⟩ := h
  exact ⟨D, ⟨es, clock, e.trans hb, F, hs, hD⟩, h2⟩
theorem TabAt.ext {w w' : World} {b n : Nat} (h : TabAt w b n) (x : Ext w w') : TabAt w' b n := h.keep (x.block b h.lt)
theorem TabAt.made (w : World) : TabAt (w.alloc (.map #[] 0)) w.heap.size 0 := ⟨_, World.ownsMap_made w _ _ _, fun r q _ _ h => by omega⟩
theorem TabAt.put {w : World} {b r q : Nat} {D : DataW Unit} (hr : r < 13) (hq : q < 13) (hm : IsMap D)
    (h : ∀ r' q', r' < 13 → q' < 13 → r' * 13 + q' < r * 13 + q → ∀ zd, D.atKey (relK r' q') zd = .lit (.int .u16 (thruN r' q' : Int)))
    (hown : w.ownsMap Tryd.prog 78 (plainElem Tryd.prog 55) b (r * 13 + q + 1) (D.put (relK r q) (.lit (.int .u16 (thruN r q : Int))))) : TabAt w b (r * 13 + q + 1) := by
  refine ⟨_, hown, fun a c ha hc hlt zd => ?_⟩
  by_cases e : a = r ∧ c = q
  · obtain ⟨rfl, rfl⟩ := e
    rw [atKey_put_same hm (lawPair.str (key_pair (wf_small (n := (a : Int) + 1) (by omega) (by omega)) (wf_small (n := (c : Int) + 1) (by omega) (by omega))) |>.elim fun _ e => by rw [show relK a c = _ from e]; trivial)]
  · rw [atKey_put_other (fun x => e (relK_inj ha hc hr hq x)), h a c ha hc (by omega)]
/-- a map's block has no cells -/
theorem TabAt.noCell {w : World} {b n : Nat} (h : TabAt w b n) {p : Addr} {v : Value} (hc : w.cell? p = some v) : p.block ≠ b := by
  intro e
  obtain ⟨D, ⟨es, clock, hb, _⟩, _⟩ := h
  obtain ⟨bl, o, s⟩ := p
  simp only at e
  subst e
  simp [World.cell?, hb] at hc
theorem thruN_eq (r q : Nat) : thruN r q = thrN (endf r) (endt r) (endf (12 - q)) (endt (12 - q)) := rfl

set_option maxRecDepth 100000 in
set_option maxHeartbeats 4000000 in
theorem thens_any (w : World) (hE : EndAt w) : Calls Tryd.prog 35 #[] w fun e w' => ∃ b, e = .returned (.map (some b)) ∧ TabAt w' b 169 ∧ w.heap.size ≤ b ∧ Ext w w' := by
  have hmm := run_makeMapN (P := Tryd.prog) Tryd.underlying62 (169 : Int)
  go_enter Tryd.func35, Tryd.ntmps35
  go_wp2_with fail
  clear hmm
  go_loopw [2] (fun i wr => ∃ r : Nat, r ≤ 13 ∧ i = .int .i64 ((r : Int) + 1) ∧ TabAt wr w.heap.size (r * 13) ∧ Ext w wr) (fun i _ => 14 - (intOf i).toNat)
  case atStart => exact ⟨0, by omega, rfl, TabAt.made w, (Ext.refl w).alloc _⟩
  case round =>
    obtain ⟨r, hr, rfl, hT, hx⟩ := hrel
    obtain ⟨wo, hwo⟩ : ∃ wo, wo = wr := ⟨_, rfl⟩
    rw [← hwo] at hT hx
    rw [← hwo]
    clear hwo
    by_cases hlt : r < 13
    · have hle : (r : Int) + 1 ≤ 13 := by omega
      go_wp2_with fail
      go_loopw [3] (fun i wr => ∃ q : Nat, q ≤ 13 ∧ i = .int .i64 ((q : Int) + 1) ∧ TabAt wr w.heap.size (r * 13 + q) ∧ Ext w wr) (fun i _ => 14 - (intOf i).toNat)
      case atStart => exact ⟨0, by omega, rfl, hT, hx⟩
      case round =>
        obtain ⟨q, hq, rfl, hT2, hx2⟩ := hrel
        by_cases hlq : q < 13
        · have hleq : (q : Int) + 1 ≤ 13 := by omega
          have hgb : 0 ≠ w.heap.size := by
            have := World.block_lt_of_cell? w _ (hE 0 (by omega)).1
            simp only at this
            omega
          have hEr := hE.ext hx2
          obtain ⟨c0, c1⟩ := hEr r hlt
          obtain ⟨q', hq', hqe⟩ : ∃ q', q' < 13 ∧ 12 - q = q' := ⟨12 - q, by omega, rfl⟩
          obtain ⟨c2, c3⟩ := hEr q' hq'
          have KT := Lib.hid (fun u => wturned_any q hlq u)
          have KU := Lib.hid (fun u (hu : Ext wr u) => (through_any (endf r) (endt r) (endf q') (endt q') (end_lt r hlt).1 (end_lt r hlt).2 (end_lt q' hq').1 (end_lt q' hq').2 u (hEr.ext hu)).mono (fun e w' ⟨he, hx⟩ => (⟨he, hu.trans hx⟩ : e = Ending.returned (.int .u16 (thrN (endf r) (endt r) (endf q') (endt q') : Int)) ∧ Ext wr w')))
          have b0 : (0 : Int) ≤ (r : Int) + 1 := by omega
          have b1 : (r : Int) + 1 < 14 := by omega
          have b2 : (0 : Int) ≤ (q' : Int) + 1 := by omega
          have b3 : (q' : Int) + 1 < 14 := by omega
          rw [hqe] at KT
          have HN := Lib.hid (thruN_eq r q)
          have HQ := Lib.hid hqe
          have HKP := Lib.hid (key_pair (x := (r : Int) + 1) (y := (q : Int) + 1) (wf_small (by omega) (by omega)) (wf_small (by omega) (by omega)))
          have HWF := Lib.hid (wf16 (thruN_lt r q))
          have HLN : Hid (r * 13 + q + 1 ≤ maxLen) := Lib.hid (by unfold maxLen; omega)
          rw [hqe] at HN
          have HV : Hid ((Lit.int .u16 (thrN (endf r) (endt r) (endf q') (endt q') : Int)).wf = true) := Lib.hid (by rw [← HN.out]; exact HWF.out)
          clear HWF
          generalize thrN (endf r) (endt r) (endf q') (endt q') = V at KU HN HV
          generalize endf r = f1 at c0 KU
          generalize endt r = t1 at c1 KU
          generalize endf q' = f2 at c2 KU
          generalize endt q' = t2 at c3 KU
          clear hqe hE hEr
          have rules := fun (u : World) (z : Chg (· = w.heap.size) wr u) => And.intro (And.intro (z.cell c0 hgb) (z.cell c1 hgb)) (And.intro (z.cell c2 hgb) (z.cell c3 hgb))
          have hI0 : Chg (· = w.heap.size) wr wr := Chg.refl _ wr
          clear c0 c1 c2 c3
          go_upto_region 8 with (fail)
          go_region_held3 (fun u => Chg (· = w.heap.size) wr u) (first | with_reducible assumption | with_reducible exact Chg.of_ext (Ext.drew (Ext.refl _)) | with_reducible exact Chg.of_ext hx1 | with_reducible exact (Chg.of_ext hx1).trans (Chg.of_grown hg2))
            (first
              | (go_at_call 43; (with_reducible refine (KT.out _).mono ?_); rintro e1 w1 ⟨rfl, rfl⟩)
              | (go_at_call 44; refine (KU.out _ (by first | assumption | exact Ext.drew (Ext.refl _))).mono ?_; rintro e1 w1 ⟨rfl, hx1⟩; obtain ⟨D, hown, hD⟩ := hT2.ext hx1; obtain ⟨w2, hrun, hown2, hg2⟩ := hown.update keyedPair Tryd.underlying62 HLN.out HKP.out (plainElem_int Tryd.underlying55 HV.out)))
          have hP2 : TabAt w2 w.heap.size (r * 13 + (q + 1)) := TabAt.put hlt hlq hown.isMap hD (by rw [HN.out]; exact hown2)
          have hx3 : Ext w w2 := Chg.ext_of (hx2.trans hx1) (Chg.of_grown hg2) (fun x e => by subst e; exact Nat.le_refl _)
          clear hrun hown hD hown2 hg2 rules hI0
          go_wp2_with fail
          go_roundw
          case rel => exact ⟨q + 1, by omega, by go_num, hP2, hx3⟩
          case measure => simp [intOf]; omega
        · have hge : ¬ ((q : Int) + 1 ≤ 13) := by omega
          go_wp2_with fail
          go_roundw
          case rel => exact ⟨r + 1, by omega, by go_num, by obtain rfl : q = 13 := by omega
                                                            rw [show (r + 1) * 13 = r * 13 + 13 by omega]; exact hT2, hx2⟩
          case measure => simp [intOf]; omega
    · have hge : ¬ ((r : Int) + 1 ≤ 13) := by omega
      go_wp2_with fail
      go_ret
      obtain rfl : r = 13 := by omega
      exact ⟨_, rfl, hT, Nat.le_refl _, hx⟩
end Go.Proofs.YtjldokhomohdbaaDoor
