/- What comes in, opened: numbers, rows of numbers. -/
import Derived.Test.YtjldokhomohdbaaDoorWvn
import Derived.Deep.Slices
import Derived.SizedLaws
import Derived.OpenShut
import Derived.Carry
import Derived.Lib.SmallJoins
import Derived.ProofKit
import Derived.LaidMore
import Derived.Stop.Joined
import Derived.LaidOnce
namespace Go.Proofs.YtjldokhomohdbaaDoor
open Go.RowKit Go.ChangeShapes Go.WideShapes Go.ChangeAt
set_option maxRecDepth 100000

theorem cellsInt : Tryd.prog.cellsOf 3 = 1 := by kernel_rfl
theorem cellsInts : Tryd.prog.cellsOf 22 = 1 := by kernel_rfl
theorem cellsRows : Tryd.prog.cellsOf 23 = 1 := by kernel_rfl
theorem bytesInt : Tryd.prog.bytesOf 3 = 8 := by kernel_rfl
theorem bytesInts : Tryd.prog.bytesOf 22 = 24 := by kernel_rfl

/-- no part takes more than the form lets one take -/
def Sized {H : Type} (t : TypeId) (d : DataW H) : Prop := ∀ n ∈ d.weights Tryd.prog t, n ≤ reachBytes

theorem reach_eq : reachBytes = 140737488351232 := by decide

section
variable {H : Type} {enc : TypeId × Value → H} {w : World} {base : Nat} {spare : Nat → Bool} {held : Bool}

theorem weightsAll_mem {t : TypeId} : ∀ {l : List (DataW H)} {d : DataW H}, d ∈ l → ∀ n ∈ d.weights Tryd.prog t, n ∈ DataW.weightsAll Tryd.prog t l
  | a :: l, d, h, n, hn => by
    simp only [DataW.weightsAll, List.mem_append]
    rcases List.mem_cons.1 h with e | e
    · subst e; exact .inl hn
    · exact .inr (weightsAll_mem e n hn)

theorem spot_none {a : Addr} {v : Value} (h : w.cell? a = some v) : a = ⟨a.block, a.off, none⟩ := by
  obtain ⟨b, o, s⟩ := a
  cases s with
  | none => rfl
  | some s =>
    simp only [World.cell?] at h
    split at h <;> simp_all
theorem add_addr (b o i : Nat) : (⟨b, o, none⟩ : Addr).add i = ⟨b, o + i, none⟩ := by
  unfold Addr.add
  split
  · rename_i h; subst h; rfl
  · rfl

theorem open_ints {fuel : Nat} {cs : List Value} {x : DataW H × List MemPlace} (h : DataW.trod enc Tryd.prog w base spare held fuel 22 cs = some x) (hz : Sized 22 x.1) :
    ∃ (ns : List Int) (A : Option Addr) (c : Nat), cs = [.slice A ns.length c] ∧ ns.length ≤ c ∧ ns.length * 8 ≤ 140737488351232 ∧ IntsAt w ns A ∧ (∀ n ∈ ns, (Lit.int .i64 n).wf = true) := by
  rcases DataW.trod_slice Tryd.underlying22 h with ⟨rfl, rfl⟩ | ⟨a, len, cap, elems, rest, n, rfl, rfl, rfl, hb, hl, hm, hlen, hel, _, _⟩
  · exact ⟨[], none, 0, rfl, Nat.le_refl _, by simp, fun i hi => absurd hi (by simp), fun n hn => by cases hn⟩
  · have hsz : (elems.length + rest.length) * 8 ≤ 140737488351232 := by
      have := hz ((elems.length + rest.length) * 8) (by simp [DataW.weights, Tryd.underlying22, bytesInt])
      rwa [reach_eq] at this
    have each : ∀ i, i < len → ∃ n : Int, w.cell? (a.add i) = some (.int .i64 n) ∧ (Lit.int .i64 n).wf = true := by
      intro i hi
      have h1 := hel i hi
      rw [cellsInt, Nat.mul_one] at h1
      have hi2 : i < elems.length := by omega
      rw [List.getElem?_eq_getElem hi2] at h1
      obtain ⟨cs', hc, ht⟩ := Option.bind_eq_some_iff.1 h1
      obtain ⟨_, hcl, hat⟩ := World.cells?_some hc
      obtain ⟨k, rfl, hx, wk⟩ := DataW.trod_int Tryd.underlying3 ht
      refine ⟨k, ?_, wk⟩
      have := hat 0 (by omega)
      simpa [Addr.add] using this
    obtain ⟨f, hf⟩ := Go.Deep.choose_lt (α := Int) (h := each)
    have hlm : ((List.range len).map f).length = len := by simp
    refine ⟨(List.range len).map f, some a, cap, by rw [hlm], by rw [hlm]; exact hl, by rw [hlm]; omega, fun i hi => ?_, fun n hn => ?_⟩
    · rw [hlm] at hi
      have ea : a = ⟨a.block, a.off, none⟩ := spot_none (by have := (hf 0 (by omega)).1; simpa [Addr.add] using this)
      refine ⟨a.block, a.off, by rw [← ea], ?_⟩
      have := (hf i hi).1
      rw [ea, add_addr] at this
      simpa using this
    · obtain ⟨i, hi, rfl⟩ := List.mem_map.1 hn
      exact (hf i (List.mem_range.1 hi)).2

theorem lst2 {α : Type} {l : List α} (h : l.length = 2) : ∃ a b, l = [a, b] := by
  match l, h with
  | [a, b], _ => exact ⟨a, b, rfl⟩
theorem lst3 {α : Type} {l : List α} (h : l.length = 3) : ∃ a b c, l = [a, b, c] := by
  match l, h with
  | [a, b, c], _ => exact ⟨a, b, c, rfl⟩
theorem open_rows {fuel : Nat} {cs : List Value} {x : DataW H × List MemPlace} (h : DataW.trod enc Tryd.prog w base spare held fuel 23 cs = some x) (hz : Sized 23 x.1) :
    ∃ (ls : List (List Int)) (B : Option Addr) (d : Nat), cs = [.slice B ls.length d] ∧ ls.length ≤ d ∧ ls.length * 24 ≤ 140737488351232 ∧ RowsAt w ls B ∧ (∀ l ∈ ls, ∀ n ∈ l, (Lit.int .i64 n).wf = true) := by
  rcases DataW.trod_slice Tryd.underlying23 h with ⟨rfl, rfl⟩ | ⟨a, len, cap, elems, rest, n, rfl, rfl, rfl, hb, hl, hm, hlen, hel, _, _⟩
  · exact ⟨[], none, 0, rfl, Nat.le_refl _, by simp, fun i hi => absurd hi (by simp), fun n hn => by cases hn⟩
  · have hsz : (elems.length + rest.length) * 24 ≤ 140737488351232 := by
      have := hz ((elems.length + rest.length) * 24) (by simp [DataW.weights, Tryd.underlying23, bytesInts])
      rwa [reach_eq] at this
    have each : ∀ i, i < len → ∃ y : List Int × Option Addr × Nat, w.cell? (a.add i) = some (.slice y.2.1 y.1.length y.2.2) ∧ y.1.length ≤ y.2.2 ∧ y.1.length * 8 ≤ 140737488351232 ∧ IntsAt w y.1 y.2.1 ∧ (∀ n ∈ y.1, (Lit.int .i64 n).wf = true) := by
      intro i hi
      have h1 := hel i hi
      rw [cellsInts, Nat.mul_one] at h1
      have hi2 : i < elems.length := by omega
      rw [List.getElem?_eq_getElem hi2] at h1
      obtain ⟨cs', hc, ht⟩ := Option.bind_eq_some_iff.1 h1
      obtain ⟨_, hcl, hat⟩ := World.cells?_some hc
      obtain ⟨ns, A, c, rfl, hc1, hc2, hI, hw⟩ := open_ints ht (fun m hm => hz m (by
        simp only [DataW.weights, Tryd.underlying23, List.mem_cons, List.mem_append]
        exact .inr (.inl (weightsAll_mem (d := elems[i].1) (List.mem_map.2 ⟨_, List.getElem_mem hi2, rfl⟩) _ hm))))
      refine ⟨(ns, A, c), ?_, hc1, hc2, hI, hw⟩
      have := hat 0 (by omega)
      simpa [Addr.add] using this
    obtain ⟨f, hf⟩ := Go.Deep.choose_lt (α := List Int × Option Addr × Nat) (h := each)
    have hlm : ((List.range len).map fun i => (f i).1).length = len := by simp
    refine ⟨(List.range len).map fun i => (f i).1, some a, cap, by rw [hlm], by rw [hlm]; exact hl, by rw [hlm]; omega, fun i hi => ?_, fun l hl' => ?_⟩
    · rw [hlm] at hi
      have ea : a = ⟨a.block, a.off, none⟩ := spot_none (by have := (hf 0 (by omega)).1; simpa [Addr.add] using this)
      obtain ⟨h0, h1, h2, h3, _⟩ := hf i hi
      rw [ea, add_addr] at h0
      refine ⟨a.block, a.off, (f i).2.1, (f i).2.2, by rw [← ea], ?_, ?_, ?_, ?_⟩
      · simpa using h0
      · simpa using h1
      · simpa using h2
      · simpa using h3
    · obtain ⟨i, hi, rfl⟩ := List.mem_map.1 hl'
      exact (hf i (List.mem_range.1 hi)).2.2.2.2

theorem cellsAsk : Tryd.prog.cellsOf 25 = 3 := by kernel_rfl
/-- the argument: a struct of two slices and a number -/
theorem open_ask {r : Reach} {b0 : Nat} {v : Value} {d : DataW H} {p : List MemPlace} (hv : Value.okWide Tryd.prog w r b0 25 v) (h : DataW.Trod enc Tryd.prog w base spare held 25 v d p) :
    ∃ (c0 c1 c2 : Value) (y0 y1 y2 : DataW H × List MemPlace) (n : Nat), v = .agg #[c0, c1, c2] ∧ d = .agg [y0.1, y1.1, y2.1] ∧ DataW.trod enc Tryd.prog w base spare held n 22 [c0] = some y0 ∧
      DataW.trod enc Tryd.prog w base spare held n 23 [c1] = some y1 ∧ DataW.trod enc Tryd.prog w base spare held n 3 [c2] = some y2 := by
  obtain ⟨cs, rfl, hsz⟩ := okWide_struct Tryd.underlying25 hv
  obtain ⟨fuel, hf⟩ := h
  obtain ⟨xs, n, rfl, hx, hlen, hxl, hel⟩ := DataW.trod_struct Tryd.underlying25 hf
  have hxl3 : xs.length = 3 := hxl
  obtain ⟨y0, y1, y2, rfl⟩ := lst3 hxl3
  obtain ⟨l⟩ := cs
  have hl3 : l.length = 3 := by rw [cellsAsk] at hsz; exact hsz
  obtain ⟨c0, c1, c2, rfl⟩ := lst3 hl3
  have f0 : DataW.trod enc Tryd.prog w base spare held n 22 (([c0, c1, c2].drop 0).take (Tryd.prog.cellsOf 22)) = some y0 := hel 0 _ rfl
  have f1 : DataW.trod enc Tryd.prog w base spare held n 23 (([c0, c1, c2].drop 1).take (Tryd.prog.cellsOf 23)) = some y1 := hel 1 _ rfl
  have f2 : DataW.trod enc Tryd.prog w base spare held n 3 (([c0, c1, c2].drop 2).take (Tryd.prog.cellsOf 3)) = some y2 := hel 2 _ rfl
  rw [cellsInts] at f0
  rw [cellsRows] at f1
  rw [cellsInt] at f2
  simp only [Prod.mk.injEq] at hx
  exact ⟨c0, c1, c2, y0, y1, y2, n, rfl, hx.1, f0, f1, f2⟩
end
end Go.Proofs.YtjldokhomohdbaaDoor
