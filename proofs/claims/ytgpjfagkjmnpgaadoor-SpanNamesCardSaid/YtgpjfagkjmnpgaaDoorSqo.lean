/- What comes in, opened: spans, numbers and texts, as they are read; the table of what is asked for as it is laid. -/
import Derived.Test.YtgpjfagkjmnpgaaDoorSqf
import Derived.Deep.Slices
import Derived.SizedLaws
import Derived.OpenShut
import Derived.Carry
import Derived.Lib.SmallJoins
import Derived.ProofKit
import Derived.LaidMore
import Derived.Stop.Joined
import Derived.LaidOnce
namespace Go.Proofs.YtgpjfagkjmnpgaaDoor
open Go.RowKit Go.ChangeShapes Go.WideShapes Go.ChangeAt
set_option maxRecDepth 100000

theorem cellsStr : Tryd.prog.cellsOf 9 = 1 := by kernel_rfl
theorem cellsInt : Tryd.prog.cellsOf 3 = 1 := by kernel_rfl
theorem cellsInts : Tryd.prog.cellsOf 23 = 1 := by kernel_rfl
theorem cellsSp : Tryd.prog.cellsOf 32 = 2 := by kernel_rfl
theorem cellsSps : Tryd.prog.cellsOf 22 = 1 := by kernel_rfl
theorem bytesInt : Tryd.prog.bytesOf 3 = 8 := by kernel_rfl
theorem bytesSp : Tryd.prog.bytesOf 32 = 16 := by kernel_rfl
theorem bytesStr : Tryd.prog.bytesOf 9 = 16 := by kernel_rfl
theorem cellsStrs : Tryd.prog.cellsOf 24 = 1 := by kernel_rfl

/-- no part takes more than the form lets one take -/
def Sized {H : Type} (t : TypeId) (d : DataW H) : Prop := ∀ n ∈ d.weights Tryd.prog t, n ≤ reachBytes

theorem reach_eq : reachBytes = 140737488351232 := by decide

section
variable {H : Type} {enc : TypeId × Value → H} {w : World} {base : Nat} {spare : Nat → Bool} {held : Bool}

theorem weightsAll_mem {t : TypeId} : ∀ {l : List (DataW H)} {d : DataW H}, d ∈ l → ∀ n ∈ d.weights Tryd.prog t, n ∈ DataW.weightsAll Tryd.prog t l
  | a :: l, d, h, n, hn => by
    simp only [DataW.weightsAll, List.mem_append]
    rcases List.mem_cons.1 h with e | e
    · subst e; exact .inl hn
    · exact .inr (weightsAll_mem e n hn)

theorem spot_none {a : Addr} {v : Value} (h : w.cell? a = some v) : a = ⟨a.block, a.off, none⟩ := by
  obtain ⟨b, o, s⟩ := a
  cases s with
  | none => rfl
  | some s =>
    simp only [World.cell?] at h
    split at h <;> simp_all
theorem add_addr (b o i : Nat) : (⟨b, o, none⟩ : Addr).add i = ⟨b, o + i, none⟩ := by
  unfold Addr.add
  split
  · rename_i h; subst h; rfl
  · rfl

theorem open_strs {fuel : Nat} {cs : List Value} {x : DataW H × List MemPlace} (h : DataW.trod enc Tryd.prog w base spare held fuel 24 cs = some x) (hz : Sized 24 x.1) :
    ∃ (ss : List ByteArray) (A : Option Addr) (c : Nat), cs = [.slice A ss.length c] ∧ ss.length ≤ c ∧ ss.length * 16 ≤ 140737488351232 ∧ StrsAt w ss A ∧ (A = none → c = 0) := by
  rcases DataW.trod_slice Tryd.underlying24 h with ⟨rfl, rfl⟩ | ⟨a, len, cap, elems, rest, n, rfl, rfl, rfl, hb, hl, hm, hlen, hel, _, _⟩
  · exact ⟨[], none, 0, rfl, Nat.le_refl _, by simp, fun i hi => absurd hi (by simp), fun _ => rfl⟩
  · have hsz : (elems.length + rest.length) * 16 ≤ 140737488351232 := by
      have := hz ((elems.length + rest.length) * 16) (by simp [DataW.weights, Tryd.underlying24, bytesStr])
      rwa [reach_eq] at this
    have each : ∀ i, i < len → ∃ s : ByteArray, w.cell? (a.add i) = some (.string s) ∧ s.size ≤ 140737488351232 := by
      intro i hi
      have h1 := hel i hi
      rw [cellsStr, Nat.mul_one] at h1
      have hi2 : i < elems.length := by omega
      rw [List.getElem?_eq_getElem hi2] at h1
      obtain ⟨cs', hc, ht⟩ := Option.bind_eq_some_iff.1 h1
      obtain ⟨_, hcl, hat⟩ := World.cells?_some hc
      obtain ⟨s, rfl, hx, _⟩ := DataW.trod_string Tryd.underlying9 ht
      have hs : s.size ≤ 140737488351232 := by
        have := hz s.size (by
          simp only [DataW.weights, Tryd.underlying24, List.mem_cons, List.mem_append]
          refine .inr (.inl (weightsAll_mem (d := elems[i].1) (List.mem_map.2 ⟨_, List.getElem_mem hi2, rfl⟩) _ ?_))
          rw [hx]; simp [DataW.weights])
        rwa [reach_eq] at this
      refine ⟨s, ?_, hs⟩
      have := hat 0 (by omega)
      simpa [Addr.add] using this
    obtain ⟨f, hf⟩ := Go.Deep.choose_lt (α := ByteArray) (h := each)
    have hlm : ((List.range len).map f).length = len := by simp
    refine ⟨(List.range len).map f, some a, cap, by rw [hlm], by rw [hlm]; exact hl, by rw [hlm]; omega, fun i hi => ?_, fun e => by cases e⟩
    rw [hlm] at hi
    have ea : a = ⟨a.block, a.off, none⟩ := spot_none (by have := (hf 0 (by omega)).1; simpa [Addr.add] using this)
    have h0 := hf i hi
    refine ⟨a.block, a.off, by rw [← ea], ?_, by simpa using h0.2⟩
    have := h0.1
    rw [ea, add_addr] at this
    simpa using this


theorem open_ints {fuel : Nat} {cs : List Value} {x : DataW H × List MemPlace} (h : DataW.trod enc Tryd.prog w base spare held fuel 23 cs = some x) (hz : Sized 23 x.1) :
    ∃ (ns : List Int) (A : Option Addr) (c : Nat), cs = [.slice A ns.length c] ∧ ns.length ≤ c ∧ ns.length * 8 ≤ 140737488351232 ∧ IntsAt w ns A ∧ (∀ n ∈ ns, (Lit.int .i64 n).wf = true) := by
  rcases DataW.trod_slice Tryd.underlying23 h with ⟨rfl, rfl⟩ | ⟨a, len, cap, elems, rest, n, rfl, rfl, rfl, hb, hl, hm, hlen, hel, _, _⟩
  · exact ⟨[], none, 0, rfl, Nat.le_refl _, by simp, fun i hi => absurd hi (by simp), fun n hn => by cases hn⟩
  · have hsz : (elems.length + rest.length) * 8 ≤ 140737488351232 := by
      have := hz ((elems.length + rest.length) * 8) (by simp [DataW.weights, Tryd.underlying23, bytesInt])
      rwa [reach_eq] at this
    have each : ∀ i, i < len → ∃ n : Int, w.cell? (a.add i) = some (.int .i64 n) ∧ (Lit.int .i64 n).wf = true := by
      intro i hi
      have h1 := hel i hi
      rw [cellsInt, Nat.mul_one] at h1
      have hi2 : i < elems.length := by omega
      rw [List.getElem?_eq_getElem hi2] at h1
      obtain ⟨cs', hc, ht⟩ := Option.bind_eq_some_iff.1 h1
      obtain ⟨_, hcl, hat⟩ := World.cells?_some hc
      obtain ⟨k, rfl, hx, wk⟩ := DataW.trod_int Tryd.underlying3 ht
      refine ⟨k, ?_, wk⟩
      have := hat 0 (by omega)
      simpa [Addr.add] using this
    obtain ⟨f, hf⟩ := Go.Deep.choose_lt (α := Int) (h := each)
    have hlm : ((List.range len).map f).length = len := by simp
    refine ⟨(List.range len).map f, some a, cap, by rw [hlm], by rw [hlm]; exact hl, by rw [hlm]; omega, fun i hi => ?_, fun n hn => ?_⟩
    · rw [hlm] at hi
      have ea : a = ⟨a.block, a.off, none⟩ := spot_none (by have := (hf 0 (by omega)).1; simpa [Addr.add] using this)
      refine ⟨a.block, a.off, by rw [← ea], ?_⟩
      have := (hf i hi).1
      rw [ea, add_addr] at this
      simpa using this
    · obtain ⟨i, hi, rfl⟩ := List.mem_map.1 hn
      exact (hf i (List.mem_range.1 hi)).2

theorem lst2 {α : Type} {l : List α} (h : l.length = 2) : ∃ a b, l = [a, b] := by
  match l, h with
  | [a, b], _ => exact ⟨a, b, rfl⟩
theorem lst3 {α : Type} {l : List α} (h : l.length = 3) : ∃ a b c, l = [a, b, c] := by
  match l, h with
  | [a, b, c], _ => exact ⟨a, b, c, rfl⟩
theorem open_sp {fuel : Nat} {cs : List Value} {x : DataW H × List MemPlace} (h : DataW.trod enc Tryd.prog w base spare held fuel 32 cs = some x) :
    ∃ y : Sp, cs = [.int .i64 y.1, .int .i64 y.2] ∧ (Lit.int .i64 y.1).wf = true ∧ (Lit.int .i64 y.2).wf = true := by
  obtain ⟨xs, n, rfl, hx, hlen, hxl, hf⟩ := DataW.trod_struct Tryd.underlying32 h
  rw [cellsSp] at hlen
  have hxl2 : xs.length = 2 := hxl
  clear hxl
  obtain ⟨y0, y1, rfl⟩ := lst2 hxl2
  obtain ⟨c0, c1, rfl⟩ := lst2 hlen
  have f0 : DataW.trod enc Tryd.prog w base spare held n 3 (([c0, c1].drop 0).take (Tryd.prog.cellsOf 3)) = some y0 := hf 0 _ rfl
  have f1 : DataW.trod enc Tryd.prog w base spare held n 3 (([c0, c1].drop 1).take (Tryd.prog.cellsOf 3)) = some y1 := hf 1 _ rfl
  rw [cellsInt] at f0 f1
  have f0' : DataW.trod enc Tryd.prog w base spare held n 3 [c0] = some y0 := f0
  have f1' : DataW.trod enc Tryd.prog w base spare held n 3 [c1] = some y1 := f1
  obtain ⟨k0, e0, _, w0⟩ := DataW.trod_int Tryd.underlying3 f0'
  obtain ⟨k1, e1, _, w1⟩ := DataW.trod_int Tryd.underlying3 f1'
  injection e0 with e0
  injection e1 with e1
  subst e0 e1
  exact ⟨(k0, k1), rfl, w0, w1⟩
/-- numbers that any machine's int holds -/
def WfL (xs : List Sp) : Prop := ∀ x ∈ xs, (Lit.int .i64 x.1).wf = true ∧ (Lit.int .i64 x.2).wf = true
theorem open_sps {fuel : Nat} {cs : List Value} {x : DataW H × List MemPlace} (h : DataW.trod enc Tryd.prog w base spare held fuel 22 cs = some x) (hz : Sized 22 x.1) :
    ∃ (xs : List Sp) (A : Option Addr) (c : Nat), cs = [.slice A xs.length c] ∧ xs.length ≤ c ∧ xs.length * 16 ≤ 140737488351232 ∧ SpsAt w xs A ∧ WfL xs := by
  rcases DataW.trod_slice Tryd.underlying22 h with ⟨rfl, rfl⟩ | ⟨a, len, cap, elems, rest, n, rfl, rfl, rfl, hb, hl, hm, hlen, hel, _, _⟩
  · exact ⟨[], none, 0, rfl, Nat.le_refl _, by simp, fun i hi => absurd hi (by simp), fun n hn => by cases hn⟩
  · have hsz : (elems.length + rest.length) * 16 ≤ 140737488351232 := by
      have := hz ((elems.length + rest.length) * 16) (by simp [DataW.weights, Tryd.underlying22, bytesSp])
      rwa [reach_eq] at this
    have each : ∀ i, i < len → ∃ y : Sp, (∀ j, j < 2 → w.cell? ((a.add (i * 2)).add j) = [Value.int .i64 y.1, .int .i64 y.2][j]?) ∧ (Lit.int .i64 y.1).wf = true ∧ (Lit.int .i64 y.2).wf = true := by
      intro i hi
      have h1 := hel i hi
      rw [cellsSp] at h1
      have hi2 : i < elems.length := by omega
      rw [List.getElem?_eq_getElem hi2] at h1
      obtain ⟨cs', hc, ht⟩ := Option.bind_eq_some_iff.1 h1
      obtain ⟨_, hcl, hat⟩ := World.cells?_some hc
      obtain ⟨y, rfl, w0, w1⟩ := open_sp ht
      exact ⟨y, hat, w0, w1⟩
    obtain ⟨f, hf⟩ := Go.Deep.choose_lt (α := Sp) (h := each)
    have hlm : ((List.range len).map f).length = len := by simp
    refine ⟨(List.range len).map f, some a, cap, by rw [hlm], by rw [hlm]; exact hl, by rw [hlm]; omega, fun i hi => ?_, fun n hn => ?_⟩
    · rw [hlm] at hi
      have h0 := (hf i hi).1
      have ea : a = ⟨a.block, a.off, none⟩ := by
        have := (hf 0 (by omega)).1 0 (by omega)
        simp only [Nat.zero_mul, Addr.add, if_true] at this
        exact spot_none (by simpa using this)
      refine ⟨a.block, a.off, by rw [← ea], ?_, ?_⟩
      · have := h0 0 (by omega); rw [ea, add_addr, add_addr] at this; simpa using this
      · have := h0 1 (by omega); rw [ea, add_addr, add_addr] at this; simpa using this
    · obtain ⟨i, hi, rfl⟩ := List.mem_map.1 hn
      exact (hf i (List.mem_range.1 hi)).2

theorem cellsAsk : Tryd.prog.cellsOf 26 = 3 := by kernel_rfl
/-- the argument: a struct of three slices -/
theorem open_ask {r : Reach} {b0 : Nat} {v : Value} {d : DataW H} {p : List MemPlace} (hv : Value.okWide Tryd.prog w r b0 26 v) (h : DataW.Trod enc Tryd.prog w base spare held 26 v d p) :
    ∃ (c0 c1 c2 : Value) (y0 y1 y2 : DataW H × List MemPlace) (n : Nat), v = .agg #[c0, c1, c2] ∧ d = .agg [y0.1, y1.1, y2.1] ∧ DataW.trod enc Tryd.prog w base spare held n 22 [c0] = some y0 ∧
      DataW.trod enc Tryd.prog w base spare held n 23 [c1] = some y1 ∧ DataW.trod enc Tryd.prog w base spare held n 24 [c2] = some y2 := by
  obtain ⟨cs, rfl, hsz⟩ := okWide_struct Tryd.underlying26 hv
  obtain ⟨fuel, hf⟩ := h
  obtain ⟨xs, n, rfl, hx, hlen, hxl, hel⟩ := DataW.trod_struct Tryd.underlying26 hf
  have hxl3 : xs.length = 3 := hxl
  obtain ⟨y0, y1, y2, rfl⟩ := lst3 hxl3
  obtain ⟨l⟩ := cs
  have hl3 : l.length = 3 := by rw [cellsAsk] at hsz; exact hsz
  obtain ⟨c0, c1, c2, rfl⟩ := lst3 hl3
  have f0 : DataW.trod enc Tryd.prog w base spare held n 22 (([c0, c1, c2].drop 0).take (Tryd.prog.cellsOf 22)) = some y0 := hel 0 _ rfl
  have f1 : DataW.trod enc Tryd.prog w base spare held n 23 (([c0, c1, c2].drop 1).take (Tryd.prog.cellsOf 23)) = some y1 := hel 1 _ rfl
  have f2 : DataW.trod enc Tryd.prog w base spare held n 24 (([c0, c1, c2].drop 2).take (Tryd.prog.cellsOf 24)) = some y2 := hel 2 _ rfl
  rw [cellsSps] at f0
  rw [cellsInts] at f1
  rw [cellsStrs] at f2
  simp only [Prod.mk.injEq] at hx
  exact ⟨c0, c1, c2, y0, y1, y2, n, rfl, hx.1, f0, f1, f2⟩
end
end Go.Proofs.YtgpjfagkjmnpgaaDoor
