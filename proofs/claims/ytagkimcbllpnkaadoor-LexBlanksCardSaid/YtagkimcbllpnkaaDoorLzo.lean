/- What comes in, opened: a slice of texts, as it is read. -/
import Derived.Test.YtagkimcbllpnkaaDoorTm
import Derived.Deep.Slices
import Derived.SizedLaws
import Derived.OpenShut
import Derived.Carry
import Derived.Lib.SmallJoins
import Derived.ProofKit
import Derived.LaidMore
import Derived.Stop.Joined
namespace Go.Proofs.YtagkimcbllpnkaaDoor
open Go.RowKit Go.ChangeShapes Go.WideShapes Go.ChangeAt

theorem cellsStr : Tryd.prog.cellsOf 9 = 1 := by kernel_rfl
theorem bytesStr : Tryd.prog.bytesOf 9 = 16 := by kernel_rfl
theorem cellsStrs : Tryd.prog.cellsOf 22 = 1 := by kernel_rfl

/-- no part takes more than the form lets one take -/
def Sized {H : Type} (t : TypeId) (d : DataW H) : Prop := ∀ n ∈ d.weights Tryd.prog t, n ≤ reachBytes

theorem reach_eq : reachBytes = 140737488351232 := by decide

section
variable {H : Type} {enc : TypeId × Value → H} {w : World} {base : Nat} {spare : Nat → Bool} {held : Bool}

theorem weightsAll_mem {t : TypeId} : ∀ {l : List (DataW H)} {d : DataW H}, d ∈ l → ∀ n ∈ d.weights Tryd.prog t, n ∈ DataW.weightsAll Tryd.prog t l
  | a :: l, d, h, n, hn => by
    simp only [DataW.weightsAll, List.mem_append]
    rcases List.mem_cons.1 h with e | e
    · subst e; exact .inl hn
    · exact .inr (weightsAll_mem e n hn)

theorem spot_none {a : Addr} {v : Value} (h : w.cell? a = some v) : a = ⟨a.block, a.off, none⟩ := by
  obtain ⟨b, o, s⟩ := a
  cases s with
  | none => rfl
  | some s =>
    simp only [World.cell?] at h
    split at h <;> simp_all
theorem add_addr (b o i : Nat) : (⟨b, o, none⟩ : Addr).add i = ⟨b, o + i, none⟩ := by
  unfold Addr.add
  split
  · rename_i h; subst h; rfl
  · rfl

theorem open_strs {fuel : Nat} {cs : List Value} {x : DataW H × List MemPlace} (h : DataW.trod enc Tryd.prog w base spare held fuel 22 cs = some x) (hz : Sized 22 x.1) :
    ∃ (ss : List ByteArray) (A : Option Addr) (c : Nat), cs = [.slice A ss.length c] ∧ ss.length ≤ c ∧ ss.length * 16 ≤ 140737488351232 ∧ StrsAt w ss A ∧ (A = none → c = 0) := by
  rcases DataW.trod_slice Tryd.underlying22 h with ⟨rfl, rfl⟩ | ⟨a, len, cap, elems, rest, n, rfl, rfl, rfl, hb, hl, hm, hlen, hel, _, _⟩
  · exact ⟨[], none, 0, rfl, Nat.le_refl _, by simp, fun i hi => absurd hi (by simp), fun _ => rfl⟩
  · have hsz : (elems.length + rest.length) * 16 ≤ 140737488351232 := by
      have := hz ((elems.length + rest.length) * 16) (by simp [DataW.weights, Tryd.underlying22, bytesStr])
      rwa [reach_eq] at this
    have each : ∀ i, i < len → ∃ s : ByteArray, w.cell? (a.add i) = some (.string s) ∧ s.size ≤ 140737488351232 := by
      intro i hi
      have h1 := hel i hi
      rw [cellsStr, Nat.mul_one] at h1
      have hi2 : i < elems.length := by omega
      rw [List.getElem?_eq_getElem hi2] at h1
      obtain ⟨cs', hc, ht⟩ := Option.bind_eq_some_iff.1 h1
      obtain ⟨_, hcl, hat⟩ := World.cells?_some hc
      obtain ⟨s, rfl, hx, _⟩ := DataW.trod_string Tryd.underlying9 ht
      have hs : s.size ≤ 140737488351232 := by
        have := hz s.size (by
          simp only [DataW.weights, Tryd.underlying22, List.mem_cons, List.mem_append]
          refine .inr (.inl (weightsAll_mem (d := elems[i].1) (List.mem_map.2 ⟨_, List.getElem_mem hi2, rfl⟩) _ ?_))
          rw [hx]; simp [DataW.weights])
        rwa [reach_eq] at this
      refine ⟨s, ?_, hs⟩
      have := hat 0 (by omega)
      simpa [Addr.add] using this
    obtain ⟨f, hf⟩ := Go.Deep.choose_lt (α := ByteArray) (h := each)
    have hlm : ((List.range len).map f).length = len := by simp
    refine ⟨(List.range len).map f, some a, cap, by rw [hlm], by rw [hlm]; exact hl, by rw [hlm]; omega, fun i hi => ?_, fun e => by cases e⟩
    rw [hlm] at hi
    have ea : a = ⟨a.block, a.off, none⟩ := spot_none (by have := (hf 0 (by omega)).1; simpa [Addr.add] using this)
    have h0 := hf i hi
    refine ⟨a.block, a.off, by rw [← ea], ?_, by simpa using h0.2⟩
    have := h0.1
    rw [ea, add_addr] at this
    simpa using this

theorem list1 {α : Type} {l : List α} (h : l.length = 1) : ∃ a, l = [a] := by
  match l, h with
  | [a], _ => exact ⟨a, rfl⟩
theorem cellsAsk : Tryd.prog.cellsOf 24 = 1 := by kernel_rfl
/-- the argument: a struct of one slice -/
theorem open_ask {r : Reach} {b0 : Nat} {v : Value} {d : DataW H} {p : List MemPlace} (hv : Value.okWide Tryd.prog w r b0 24 v) (h : DataW.Trod enc Tryd.prog w base spare held 24 v d p) :
    ∃ (c0 : Value) (y0 : DataW H × List MemPlace) (n : Nat), v = .agg #[c0] ∧ d = .agg [y0.1] ∧ DataW.trod enc Tryd.prog w base spare held n 22 [c0] = some y0 := by
  obtain ⟨cs, rfl, hsz⟩ := okWide_struct Tryd.underlying24 hv
  obtain ⟨fuel, hf⟩ := h
  obtain ⟨xs, n, rfl, hx, hlen, hxl, hel⟩ := DataW.trod_struct Tryd.underlying24 hf
  have hxl1 : xs.length = 1 := hxl
  obtain ⟨y0, rfl⟩ := list1 hxl1
  obtain ⟨l⟩ := cs
  have hl1 : l.length = 1 := by rw [cellsAsk] at hsz; exact hsz
  obtain ⟨c0, rfl⟩ := list1 hl1
  have f0 := hel 0 _ rfl
  have f0' : DataW.trod enc Tryd.prog w base spare held n 22 (([c0].drop 0).take (Tryd.prog.cellsOf 22)) = some y0 := f0
  rw [cellsStrs] at f0'
  simp only [Prod.mk.injEq] at hx
  exact ⟨c0, y0, n, rfl, hx.1, f0'⟩
end
end Go.Proofs.YtagkimcbllpnkaaDoor
