/- What comes in, opened: terms, and slices of terms and of texts, as they are read. -/
import Derived.Test.YthmpolifgngdiaaTm
import Derived.Deep.Slices
import Derived.SizedLaws
import Derived.OpenShut
import Derived.Carry
import Derived.Lib.SmallJoins
namespace Go.Proofs.Ythmpolifgngdiaa
open Go.RowKit Go.ChangeShapes Go.WideShapes

theorem cellsTm : Try.prog.cellsOf 32 = 4 := by kernel_rfl
theorem cellsInt : Try.prog.cellsOf 3 = 1 := by kernel_rfl
theorem cellsStr : Try.prog.cellsOf 9 = 1 := by kernel_rfl
theorem cellsTms : Try.prog.cellsOf 23 = 1 := by kernel_rfl
theorem bytesTm : Try.prog.bytesOf 32 = 56 := by kernel_rfl
/-- no part takes more than the form lets one take -/
def Sized {H : Type} (t : TypeId) (d : DataW H) : Prop := ∀ n ∈ d.weights Try.prog t, n ≤ reachBytes

theorem reach_eq : reachBytes = 140737488351232 := by decide

section
variable {H : Type} {enc : TypeId × Value → H} {w : World} {base : Nat} {spare : Nat → Bool} {held : Bool}

theorem weightsAll_mem {t : TypeId} : ∀ {l : List (DataW H)} {d : DataW H}, d ∈ l → ∀ n ∈ d.weights Try.prog t, n ∈ DataW.weightsAll Try.prog t l
  | a :: l, d, h, n, hn => by
    simp only [DataW.weightsAll, List.mem_append]
    rcases List.mem_cons.1 h with e | e
    · subst e; exact .inl hn
    · exact .inr (weightsAll_mem e n hn)

theorem spot_none {a : Addr} {v : Value} (h : w.cell? a = some v) : a = ⟨a.block, a.off, none⟩ := by
  obtain ⟨b, o, s⟩ := a
  cases s with
  | none => rfl
  | some s =>
    simp only [World.cell?] at h
    split at h <;> simp_all
theorem add_addr (b o i : Nat) : (⟨b, o, none⟩ : Addr).add i = ⟨b, o + i, none⟩ := by
  unfold Addr.add
  split
  · rename_i h; subst h; rfl
  · rfl

/-- a slice of terms, if each that can be read at this fuel is opened -/
theorem open_tms_of (fuel : Nat) (ih : ∀ m, m < fuel → ∀ (cs : List Value) (x : DataW H × List MemPlace), DataW.trod enc Try.prog w base spare held m 32 cs = some x → Sized 32 x.1 →
      ∃ (t : Tm) (A : Option Addr) (c : Nat), cs = [.int .i64 t.kind, .string t.name, .int .i64 t.n, .slice A t.args.length c] ∧ TmAt w t A c)
    {cs : List Value} {x : DataW H × List MemPlace} (h : DataW.trod enc Try.prog w base spare held fuel 23 cs = some x) (hz : Sized 23 x.1) :
    ∃ (ts : List Tm) (A : Option Addr) (c : Nat), cs = [.slice A ts.length c] ∧ ts.length ≤ c ∧ ts.length * 56 ≤ 140737488351232 ∧ TmsAt w ts A := by
  rcases DataW.trod_slice Try.underlying23 h with ⟨rfl, rfl⟩ | ⟨a, len, cap, elems, rest, n, rfl, rfl, rfl, hb, hl, hm, hlen, hel, _, _⟩
  · exact ⟨[], none, 0, rfl, Nat.le_refl _, by simp, fun _ => none, fun _ => 0, fun i hi => absurd hi (by simp), fun i hi => absurd hi (by simp)⟩
  · have hsz : (elems.length + rest.length) * 56 ≤ 140737488351232 := by
      have := hz ((elems.length + rest.length) * 56) (by simp [DataW.weights, Try.underlying23, bytesTm])
      rwa [reach_eq] at this
    have each : ∀ i, i < len → ∃ y : Tm × Option Addr × Nat, (∀ j, j < 4 → w.cell? ((a.add (i * 4)).add j) = [Value.int .i64 y.1.kind, .string y.1.name, .int .i64 y.1.n, .slice y.2.1 y.1.args.length y.2.2][j]?) ∧ TmAt w y.1 y.2.1 y.2.2 := by
      intro i hi
      have h1 := hel i hi
      rw [cellsTm] at h1
      have hi2 : i < elems.length := by omega
      rw [List.getElem?_eq_getElem hi2] at h1
      obtain ⟨cs', hc, ht⟩ := Option.bind_eq_some_iff.1 h1
      obtain ⟨_, hcl, hat⟩ := World.cells?_some hc
      have hzi : Sized 32 elems[i].1 := fun m hm => hz m (by
        simp only [DataW.weights, Try.underlying23, List.mem_cons, List.mem_append]
        exact .inr (.inl (weightsAll_mem (List.mem_map.2 ⟨_, List.getElem_mem hi2, rfl⟩) m hm)))
      obtain ⟨t, A, c, rfl, hT⟩ := ih n (by omega) cs' _ ht hzi
      exact ⟨(t, A, c), hat, hT⟩
    haveI : Inhabited Tm := ⟨⟨0, .empty, 0, []⟩⟩
    obtain ⟨f, hf⟩ := Go.Deep.choose_lt (α := Tm × Option Addr × Nat) (h := each)
    have hlm : ((List.range len).map fun i => (f i).1).length = len := by simp
    refine ⟨(List.range len).map fun i => (f i).1, some a, cap, by rw [hlm], by rw [hlm]; exact hl, by rw [hlm]; omega, fun i => (f i).2.1, fun i => (f i).2.2, fun i hi => ?_, fun i hi => ?_⟩
    · rw [hlm] at hi
      have h0 := (hf i hi).1
      have ea : a = ⟨a.block, a.off, none⟩ := by
        have := (hf 0 (by omega)).1 0 (by omega)
        simp only [Nat.zero_mul, Addr.add, if_true] at this
        exact spot_none (by simpa using this)
      refine ⟨a.block, a.off, by rw [← ea], ?_, ?_, ?_, ?_⟩
      · have := h0 0 (by omega); rw [ea, add_addr, add_addr] at this; simpa using this
      · have := h0 1 (by omega); rw [ea, add_addr, add_addr] at this; simpa using this
      · have := h0 2 (by omega); rw [ea, add_addr, add_addr] at this; simpa using this
      · have := h0 3 (by omega); rw [ea, add_addr, add_addr] at this; simpa using this
    · rw [hlm] at hi
      simpa using (hf i hi).2

theorem list4 {α : Type} {l : List α} (h : l.length = 4) : ∃ a b c d, l = [a, b, c, d] := by
  match l, h with
  | [a, b, c, d], _ => exact ⟨a, b, c, d, rfl⟩

theorem open_tm (fuel : Nat) : ∀ (cs : List Value) (x : DataW H × List MemPlace), DataW.trod enc Try.prog w base spare held fuel 32 cs = some x → Sized 32 x.1 →
      ∃ (t : Tm) (A : Option Addr) (c : Nat), cs = [.int .i64 t.kind, .string t.name, .int .i64 t.n, .slice A t.args.length c] ∧ TmAt w t A c := by
  induction fuel using Nat.strongRecOn with
  | _ fuel ih =>
    intro cs x h hz
    obtain ⟨xs, n, rfl, hx, hlen, hxl, hf⟩ := DataW.trod_struct Try.underlying32 h
    rw [cellsTm] at hlen
    have hxl4 : xs.length = 4 := hxl
    clear hxl
    obtain ⟨y0, y1, y2, y3, rfl⟩ := list4 hxl4
    obtain ⟨c0, c1, c2, c3, rfl⟩ := list4 hlen
    have f0 : DataW.trod enc Try.prog w base spare held n 3 (([c0, c1, c2, c3].drop 0).take (Try.prog.cellsOf 3)) = some y0 := hf 0 _ rfl
    have f1 : DataW.trod enc Try.prog w base spare held n 9 (([c0, c1, c2, c3].drop 1).take (Try.prog.cellsOf 9)) = some y1 := hf 1 _ rfl
    have f2 : DataW.trod enc Try.prog w base spare held n 3 (([c0, c1, c2, c3].drop 2).take (Try.prog.cellsOf 3)) = some y2 := hf 2 _ rfl
    have f3 : DataW.trod enc Try.prog w base spare held n 23 (([c0, c1, c2, c3].drop 3).take (Try.prog.cellsOf 23)) = some y3 := hf 3 _ rfl
    rw [cellsInt] at f0 f2
    rw [cellsStr] at f1
    rw [cellsTms] at f3
    have f0' : DataW.trod enc Try.prog w base spare held n 3 [c0] = some y0 := f0
    have f1' : DataW.trod enc Try.prog w base spare held n 9 [c1] = some y1 := f1
    have f2' : DataW.trod enc Try.prog w base spare held n 3 [c2] = some y2 := f2
    have f3' : DataW.trod enc Try.prog w base spare held n 23 [c3] = some y3 := f3
    clear f0 f1 f2 f3 hf
    obtain ⟨k, e0, rfl, wk⟩ := DataW.trod_int Try.underlying3 f0'
    obtain ⟨s, e1, rfl, _⟩ := DataW.trod_string Try.underlying9 f1'
    obtain ⟨m, e2, rfl, wm⟩ := DataW.trod_int Try.underlying3 f2'
    simp only [List.map_cons, List.map_nil] at hx
    have hw : x.1 = .agg [.lit (.int .i64 k), .lit (.string s.data.toList), .lit (.int .i64 m), y3.1] := by rw [hx]
    have hs : s.size ≤ 140737488351232 := by
      have := hz s.size (by rw [hw]; simp [DataW.weights, DataW.weightsEach, Try.underlying32])
      rwa [reach_eq] at this
    obtain ⟨ts, A, c, e3, hc, hl, hT⟩ := open_tms_of n (fun m hm => ih m (by omega)) f3' (fun q hq => hz q (by rw [hw]; simp [DataW.weights, DataW.weightsEach, Try.underlying32]; exact .inr hq))
    injection e0 with e0
    injection e1 with e1
    injection e2 with e2
    injection e3 with e3
    subst e0 e1 e2 e3
    obtain ⟨g, d, hr, hsub⟩ := hT
    exact ⟨⟨k, s, m, ts⟩, A, c, rfl, .mk ⟨k, s, m, ts⟩ A c g d ⟨wk, wm, hs, hl⟩ hc hr hsub⟩
theorem open_tms {fuel : Nat} {cs : List Value} {x : DataW H × List MemPlace} (h : DataW.trod enc Try.prog w base spare held fuel 23 cs = some x) (hz : Sized 23 x.1) :
    ∃ (ts : List Tm) (A : Option Addr) (c : Nat), cs = [.slice A ts.length c] ∧ ts.length ≤ c ∧ ts.length * 56 ≤ 140737488351232 ∧ TmsAt w ts A :=
  open_tms_of fuel (fun m _ => open_tm m) h hz

end
end Go.Proofs.Ythmpolifgngdiaa
