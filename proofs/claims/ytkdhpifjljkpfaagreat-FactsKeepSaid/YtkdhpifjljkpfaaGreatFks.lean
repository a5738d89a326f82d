/- What comes in, opened: facts, facts kept, numbers; from a walk to the row of a law of layer 9. -/
import Derived.Test.YtkdhpifjljkpfaaGreatOpen
import Derived.Test.YtkdhpifjljkpfaaGreatFB
import Derived.ProofKit
namespace Go.Proofs.YtkdhpifjljkpfaaGreat
open Go.RowKit Go.ChangeShapes Go.WideShapes Go.ChangeAt

theorem cellsfacts : Tryz.prog.cellsOf 44 = 6 := by kernel_rfl
theorem cellskepts : Tryz.prog.cellsOf 50 = 7 := by kernel_rfl
theorem cellsSp : Tryz.prog.cellsOf 42 = 2 := by kernel_rfl
theorem bytesfacts : Tryz.prog.bytesOf 44 = 72 := by kernel_rfl
theorem byteskepts : Tryz.prog.bytesOf 50 = 80 := by kernel_rfl
theorem bytesInt : Tryz.prog.bytesOf 3 = 8 := by kernel_rfl
theorem list_2 {α : Type} {l : List α} (h : l.length = 2) : ∃ a b, l = [a, b] := by
  match l, h with
  | [a, b], _ => exact ⟨a, b, rfl⟩
theorem list_6 {α : Type} {l : List α} (h : l.length = 6) : ∃ a b c d e f, l = [a, b, c, d, e, f] := by
  match l, h with
  | [a, b, c, d, e, f], _ => exact ⟨a, b, c, d, e, f, rfl⟩
theorem list_7 {α : Type} {l : List α} (h : l.length = 7) : ∃ a b c d e f g, l = [a, b, c, d, e, f, g] := by
  match l, h with
  | [a, b, c, d, e, f, g], _ => exact ⟨a, b, c, d, e, f, g, rfl⟩
def IntsAt (w : World) (ns : List Int) (A : Option Addr) : Prop := ∀ i (h : i < ns.length), ∃ b o, A = some ⟨b, o, none⟩ ∧ w.cell? ⟨b, o + i, none⟩ = some (.int .i64 ns[i])

section
variable {H : Type} {enc : TypeId × Value → H} {w : World} {base : Nat} {spare : Nat → Bool} {held : Bool}

theorem open_ints {fuel : Nat} {cs : List Value} {x : DataW H × List MemPlace} (h : DataW.trod enc Tryz.prog w base spare held fuel 24 cs = some x) (hz : Sized 24 x.1) :
    ∃ (ns : List Int) (A : Option Addr) (c : Nat), cs = [.slice A ns.length c] ∧ ns.length ≤ c ∧ ns.length * 8 ≤ 140737488351232 ∧ IntsAt w ns A ∧ (∀ n ∈ ns, (Lit.int .i64 n).wf = true) := by
  rcases DataW.trod_slice Tryz.underlying24 h with ⟨rfl, rfl⟩ | ⟨a, len, cap, elems, rest, n, rfl, rfl, rfl, hb, hl, hm, hlen, hel, _, _⟩
  · exact ⟨[], none, 0, rfl, Nat.le_refl _, by simp, fun i hi => absurd hi (by simp), fun n hn => by cases hn⟩
  · have hsz : (elems.length + rest.length) * 8 ≤ 140737488351232 := by
      have := hz ((elems.length + rest.length) * 8) (by simp [DataW.weights, Tryz.underlying24, bytesInt])
      rwa [reach_eq] at this
    have each : ∀ i, i < len → ∃ n : Int, w.cell? (a.add i) = some (.int .i64 n) ∧ (Lit.int .i64 n).wf = true := by
      intro i hi
      have h1 := hel i hi
      rw [cellsInt, Nat.mul_one] at h1
      have hi2 : i < elems.length := by omega
      rw [List.getElem?_eq_getElem hi2] at h1
      obtain ⟨cs', hc, ht⟩ := Option.bind_eq_some_iff.1 h1
      obtain ⟨_, hcl, hat⟩ := World.cells?_some hc
      obtain ⟨k, rfl, hx, wk⟩ := DataW.trod_int Tryz.underlying3 ht
      refine ⟨k, ?_, wk⟩
      have := hat 0 (by omega)
      simpa [Addr.add] using this
    obtain ⟨f, hf⟩ := Go.Deep.choose_lt (α := Int) (h := each)
    have hlm : ((List.range len).map f).length = len := by simp
    refine ⟨(List.range len).map f, some a, cap, by rw [hlm], by rw [hlm]; exact hl, by rw [hlm]; omega, fun i hi => ?_, fun n hn => ?_⟩
    · rw [hlm] at hi
      have ea : a = ⟨a.block, a.off, none⟩ := spot_none (by have := (hf 0 (by omega)).1; simpa [Addr.add] using this)
      refine ⟨a.block, a.off, by rw [← ea], ?_⟩
      have := (hf i hi).1
      rw [ea, add_addr] at this
      simpa using this
    · obtain ⟨i, hi, rfl⟩ := List.mem_map.1 hn
      exact (hf i (List.mem_range.1 hi)).2


theorem open_sp {fuel : Nat} {cs : List Value} {x : DataW H × List MemPlace} (h : DataW.trod enc Tryz.prog w base spare held fuel 42 cs = some x) : ∃ f u : Int, cs = [.int .i64 f, .int .i64 u] := by
  obtain ⟨xs, n, rfl, hx, hlen, hxl, hf⟩ := DataW.trod_struct Tryz.underlying42 h
  rw [cellsSp] at hlen
  have hxl2 : xs.length = 2 := hxl
  clear hxl
  obtain ⟨y0, y1, rfl⟩ := list_2 hxl2
  obtain ⟨c0, c1, rfl⟩ := list_2 hlen
  have f0 : DataW.trod enc Tryz.prog w base spare held n 3 (([c0, c1].drop 0).take (Tryz.prog.cellsOf 3)) = some y0 := hf 0 _ rfl
  have f1 : DataW.trod enc Tryz.prog w base spare held n 3 (([c0, c1].drop 1).take (Tryz.prog.cellsOf 3)) = some y1 := hf 1 _ rfl
  rw [cellsInt] at f0 f1
  have f0' : DataW.trod enc Tryz.prog w base spare held n 3 [c0] = some y0 := f0
  have f1' : DataW.trod enc Tryz.prog w base spare held n 3 [c1] = some y1 := f1
  obtain ⟨k0, e0, _, _⟩ := DataW.trod_int Tryz.underlying3 f0'
  obtain ⟨k1, e1, _, _⟩ := DataW.trod_int Tryz.underlying3 f1'
  injection e0 with e0
  injection e1 with e1
  subst e0 e1
  exact ⟨k0, k1, rfl⟩
theorem open1_facts {fuel : Nat} {cs : List Value} {x : DataW H × List MemPlace} (h : DataW.trod enc Tryz.prog w base spare held fuel 44 cs = some x) (hz : Sized 44 x.1) :
    ∃ (b : Fc) (A : Option Addr) (c : Nat), cs = [.int .i64 b.tm.kind, .string b.tm.name, .int .i64 b.tm.n, .slice A b.tm.args.length c, .int .i64 b.fr, .int .i64 b.til] ∧ TmAt w b.tm A c := by
  obtain ⟨xs, n, rfl, hx, hlen, hxl, hf⟩ := DataW.trod_struct Tryz.underlying44 h
  rw [cellsfacts] at hlen
  have hxl2 : xs.length = 2 := hxl
  clear hxl
  obtain ⟨y0, y1, rfl⟩ := list_2 hxl2
  obtain ⟨c0, c1, c2, c3, c4, c5, rfl⟩ := list_6 hlen
  have f0 : DataW.trod enc Tryz.prog w base spare held n 40 (([c0, c1, c2, c3, c4, c5].drop 0).take (Tryz.prog.cellsOf 40)) = some y0 := hf 0 _ rfl
  have f1 : DataW.trod enc Tryz.prog w base spare held n 42 (([c0, c1, c2, c3, c4, c5].drop 4).take (Tryz.prog.cellsOf 42)) = some y1 := hf 1 _ rfl
  rw [cellsTm] at f0
  rw [cellsSp] at f1
  have f0' : DataW.trod enc Tryz.prog w base spare held n 40 [c0, c1, c2, c3] = some y0 := f0
  have f1' : DataW.trod enc Tryz.prog w base spare held n 42 [c4, c5] = some y1 := f1
  clear f0 f1 hf
  simp only [List.map_cons, List.map_nil] at hx
  have hw : x.1 = .agg [y0.1, y1.1] := by rw [hx]
  obtain ⟨t, A, c, e1, hT⟩ := open_tm n _ _ f0' (fun q hq => hz q (by rw [hw]; simp [DataW.weights, DataW.weightsEach, Tryz.underlying44]; exact .inl hq))
  obtain ⟨f, u, e2⟩ := open_sp f1'
  injection e1 with e1 e3
  injection e3 with e3 e4
  injection e4 with e4 e5
  injection e5 with e5
  injection e2 with e2 e6
  injection e6 with e6
  subst e1 e3 e4 e5 e2 e6
  exact ⟨⟨t, f, u⟩, A, c, rfl, hT⟩
theorem open1_kepts {fuel : Nat} {cs : List Value} {x : DataW H × List MemPlace} (h : DataW.trod enc Tryz.prog w base spare held fuel 50 cs = some x) (hz : Sized 50 x.1) :
    ∃ (b : Kp) (A : Option Addr) (c : Nat), cs = [.int .i64 b.seq, .int .i64 b.fc.tm.kind, .string b.fc.tm.name, .int .i64 b.fc.tm.n, .slice A b.fc.tm.args.length c, .int .i64 b.fc.fr, .int .i64 b.fc.til] ∧ TmAt w b.fc.tm A c ∧ (Lit.int .i64 b.seq).wf = true := by
  obtain ⟨xs, n, rfl, hx, hlen, hxl, hf⟩ := DataW.trod_struct Tryz.underlying50 h
  rw [cellskepts] at hlen
  have hxl2 : xs.length = 2 := hxl
  clear hxl
  obtain ⟨y0, y1, rfl⟩ := list_2 hxl2
  obtain ⟨c0, c1, c2, c3, c4, c5, c6, rfl⟩ := list_7 hlen
  have f0 : DataW.trod enc Tryz.prog w base spare held n 3 (([c0, c1, c2, c3, c4, c5, c6].drop 0).take (Tryz.prog.cellsOf 3)) = some y0 := hf 0 _ rfl
  have f1 : DataW.trod enc Tryz.prog w base spare held n 44 (([c0, c1, c2, c3, c4, c5, c6].drop 1).take (Tryz.prog.cellsOf 44)) = some y1 := hf 1 _ rfl
  rw [cellsInt] at f0
  rw [cellsfacts] at f1
  have f0' : DataW.trod enc Tryz.prog w base spare held n 3 [c0] = some y0 := f0
  have f1' : DataW.trod enc Tryz.prog w base spare held n 44 [c1, c2, c3, c4, c5, c6] = some y1 := f1
  clear f0 f1 hf
  obtain ⟨k0, e0, d0, wk⟩ := DataW.trod_int Tryz.underlying3 f0'
  simp only [List.map_cons, List.map_nil] at hx
  have hw : x.1 = .agg [y0.1, y1.1] := by rw [hx]
  obtain ⟨b, A, c, e1, hT⟩ := open1_facts f1' (fun q hq => hz q (by rw [hw]; simp [DataW.weights, DataW.weightsEach, Tryz.underlying50]; exact .inr hq))
  injection e0 with e0
  injection e1 with e1 e3
  injection e3 with e3 e4
  injection e4 with e4 e5
  injection e5 with e5 e6
  injection e6 with e6 e7
  injection e7 with e7
  subst e0 e1 e3 e4 e5 e6 e7
  exact ⟨⟨k0, b⟩, A, c, rfl, hT, wk⟩
theorem open_facts {fuel : Nat} {cs : List Value} {x : DataW H × List MemPlace} (h : DataW.trod enc Tryz.prog w base spare held fuel 23 cs = some x) (hz : Sized 23 x.1) :
    ∃ (us : List Fc) (A : Option Addr) (c : Nat), cs = [.slice A us.length c] ∧ us.length ≤ c ∧ us.length * 72 ≤ 140737488351232 ∧ FcsAt w us A := by
  rcases DataW.trod_slice Tryz.underlying23 h with ⟨rfl, rfl⟩ | ⟨a, len, cap, elems, rest, n, rfl, rfl, rfl, hb, hl, hm, hlen, hel, _, _⟩
  · exact ⟨[], none, 0, rfl, Nat.le_refl _, by simp, FcsAt.nil _ _⟩
  · have hsz : (elems.length + rest.length) * 72 ≤ 140737488351232 := by
      have := hz ((elems.length + rest.length) * 72) (by simp [DataW.weights, Tryz.underlying23, bytesfacts])
      rwa [reach_eq] at this
    have each : ∀ i, i < len → ∃ y : Fc × Option Addr × Nat, (∀ j, j < 6 → w.cell? ((a.add (i * 6)).add j) = [Value.int .i64 y.1.tm.kind, .string y.1.tm.name, .int .i64 y.1.tm.n, .slice y.2.1 y.1.tm.args.length y.2.2, .int .i64 y.1.fr, .int .i64 y.1.til][j]?) ∧ TmAt w y.1.tm y.2.1 y.2.2 := by
      intro i hi
      have h1 := hel i hi
      rw [cellsfacts] at h1
      have hi2 : i < elems.length := by omega
      rw [List.getElem?_eq_getElem hi2] at h1
      obtain ⟨cs', hc, ht⟩ := Option.bind_eq_some_iff.1 h1
      obtain ⟨_, hcl, hat⟩ := World.cells?_some hc
      have hzi : Sized 44 elems[i].1 := fun m hm => hz m (by
        simp only [DataW.weights, Tryz.underlying23, List.mem_cons, List.mem_append]
        exact .inr (.inl (weightsAll_mem (List.mem_map.2 ⟨_, List.getElem_mem hi2, rfl⟩) m hm)))
      obtain ⟨b, A, c, rfl, hT⟩ := open1_facts ht hzi
      exact ⟨(b, A, c), hat, hT⟩
    haveI : Inhabited Fc := ⟨⟨⟨0, .empty, 0, []⟩, 0, 0⟩⟩
    obtain ⟨f, hf⟩ := Go.Deep.choose_lt (α := Fc × Option Addr × Nat) (h := each)
    have hlm : ((List.range len).map fun i => (f i).1).length = len := by simp
    refine ⟨(List.range len).map fun i => (f i).1, some a, cap, by rw [hlm], by rw [hlm]; exact hl, by rw [hlm]; omega, fun i hi => ?_⟩
    rw [hlm] at hi
    have h0 := (hf i hi).1
    have ea : a = ⟨a.block, a.off, none⟩ := by
      have := (hf 0 (by omega)).1 0 (by omega)
      simp only [Nat.zero_mul, Addr.add, if_true] at this
      exact spot_none (by simpa using this)
    refine ⟨a.block, a.off, (f i).2.1, (f i).2.2, by rw [← ea], ?_, ?_, ?_, ?_, ?_, ?_, ?_⟩
    · have := h0 0 (by omega); rw [ea, add_addr, add_addr] at this; simpa using this
    · have := h0 1 (by omega); rw [ea, add_addr, add_addr] at this; simpa using this
    · have := h0 2 (by omega); rw [ea, add_addr, add_addr] at this; simpa using this
    · have := h0 3 (by omega); rw [ea, add_addr, add_addr] at this; simpa using this
    · have := h0 4 (by omega); rw [ea, add_addr, add_addr] at this; simpa using this
    · have := h0 5 (by omega); rw [ea, add_addr, add_addr] at this; simpa using this
    · simpa using (hf i hi).2
theorem open_kepts {fuel : Nat} {cs : List Value} {x : DataW H × List MemPlace} (h : DataW.trod enc Tryz.prog w base spare held fuel 22 cs = some x) (hz : Sized 22 x.1) :
    ∃ (us : List Kp) (A : Option Addr) (c : Nat), cs = [.slice A us.length c] ∧ us.length ≤ c ∧ us.length * 80 ≤ 140737488351232 ∧ KpsAt w us A := by
  rcases DataW.trod_slice Tryz.underlying22 h with ⟨rfl, rfl⟩ | ⟨a, len, cap, elems, rest, n, rfl, rfl, rfl, hb, hl, hm, hlen, hel, _, _⟩
  · exact ⟨[], none, 0, rfl, Nat.le_refl _, by simp, KpsAt.nil _ _⟩
  · have hsz : (elems.length + rest.length) * 80 ≤ 140737488351232 := by
      have := hz ((elems.length + rest.length) * 80) (by simp [DataW.weights, Tryz.underlying22, byteskepts])
      rwa [reach_eq] at this
    have each : ∀ i, i < len → ∃ y : Kp × Option Addr × Nat, (∀ j, j < 7 → w.cell? ((a.add (i * 7)).add j) = [Value.int .i64 y.1.seq, .int .i64 y.1.fc.tm.kind, .string y.1.fc.tm.name, .int .i64 y.1.fc.tm.n, .slice y.2.1 y.1.fc.tm.args.length y.2.2, .int .i64 y.1.fc.fr, .int .i64 y.1.fc.til][j]?) ∧ (TmAt w y.1.fc.tm y.2.1 y.2.2 ∧ (Lit.int .i64 y.1.seq).wf = true) := by
      intro i hi
      have h1 := hel i hi
      rw [cellskepts] at h1
      have hi2 : i < elems.length := by omega
      rw [List.getElem?_eq_getElem hi2] at h1
      obtain ⟨cs', hc, ht⟩ := Option.bind_eq_some_iff.1 h1
      obtain ⟨_, hcl, hat⟩ := World.cells?_some hc
      have hzi : Sized 50 elems[i].1 := fun m hm => hz m (by
        simp only [DataW.weights, Tryz.underlying22, List.mem_cons, List.mem_append]
        exact .inr (.inl (weightsAll_mem (List.mem_map.2 ⟨_, List.getElem_mem hi2, rfl⟩) m hm)))
      obtain ⟨b, A, c, rfl, hT⟩ := open1_kepts ht hzi
      exact ⟨(b, A, c), hat, hT⟩
    haveI : Inhabited Kp := ⟨⟨0, ⟨⟨0, .empty, 0, []⟩, 0, 0⟩⟩⟩
    obtain ⟨f, hf⟩ := Go.Deep.choose_lt (α := Kp × Option Addr × Nat) (h := each)
    have hlm : ((List.range len).map fun i => (f i).1).length = len := by simp
    refine ⟨(List.range len).map fun i => (f i).1, some a, cap, by rw [hlm], by rw [hlm]; exact hl, by rw [hlm]; omega, fun i hi => ?_⟩
    rw [hlm] at hi
    have h0 := (hf i hi).1
    have ea : a = ⟨a.block, a.off, none⟩ := by
      have := (hf 0 (by omega)).1 0 (by omega)
      simp only [Nat.zero_mul, Addr.add, if_true] at this
      exact spot_none (by simpa using this)
    refine ⟨a.block, a.off, (f i).2.1, (f i).2.2, by rw [← ea], ?_, ?_, ?_, ?_, ?_, ?_, ?_, ?_, ?_⟩
    · have := h0 0 (by omega); rw [ea, add_addr, add_addr] at this; simpa using this
    · have := h0 1 (by omega); rw [ea, add_addr, add_addr] at this; simpa using this
    · have := h0 2 (by omega); rw [ea, add_addr, add_addr] at this; simpa using this
    · have := h0 3 (by omega); rw [ea, add_addr, add_addr] at this; simpa using this
    · have := h0 4 (by omega); rw [ea, add_addr, add_addr] at this; simpa using this
    · have := h0 5 (by omega); rw [ea, add_addr, add_addr] at this; simpa using this
    · have := h0 6 (by omega); rw [ea, add_addr, add_addr] at this; simpa using this
    · simpa using (hf i hi).2.1
    · simpa using (hf i hi).2.2
end

theorem own : ownKnob Tryz.prog.godebug = none := by kernel_rfl
theorem laidOut : laidOutB Tryz.prog = true := by kernel_rfl
theorem readAsk9 : Tryz.prog.readableRec 26 = true := by kernel_rfl
theorem cellsAsk9 : Tryz.prog.cellsOf 26 = 3 := by kernel_rfl
/-- what a law's walk is to give -/
def AskWalk9 (f : FuncId) : Prop := ∀ (ks : List Kp) (fs : List Fc) (ns : List Int) (A B C : Option Addr) (c d e : Nat) (w : World), KpsAt w ks A → ks.length * 80 ≤ 140737488351232 → ks.length ≤ c → FcsAt w fs B → fs.length * 72 ≤ 140737488351232 → IntsAt w ns C → ns.length * 8 ≤ 140737488351232 → (∀ n ∈ ns, (Lit.int .i64 n).wf = true) → ns.length ≤ e →
    Calls Tryz.prog f #[.agg #[.slice A ks.length c, .slice B fs.length d, .slice C ns.length e]] w fun x w' => x = .returned (.bool true) ∧ Ext w w'

set_option maxRecDepth 100000 in
theorem ask9_contract {f : FuncId} {fn : Func} {s : ChangeSpec} (walk : AskWalk9 f) (hp : fn.params = #[26]) (hr : fn.resultTypes = #[4]) (hv : s.vars = [])
    (H : Type) (hs : ∀ d : DataW H, s.fn H [d] = { results := [.lit (.bool true)], args := [d] })
    (enc : TypeId × Value → H) (W : World) (base : Nat) (args : Array Value) (ds gs : List (DataW H)) (before : List MemPlace)
    (hval : ∀ (j : Nat) t v, fn.params[j]? = some t → args[j]? = some v → Value.okWide Tryz.prog W .any base t v)
    (hW : DataW.Whole enc Tryz.prog fn.params.toList s.vars false W args.toList ds gs before)
    (hz : (DataW.weightsEach Tryz.prog (fn.params.toList ++ s.plain.varTypes Tryz.prog) (ds ++ gs)).all (· ≤ reachBytes) = true) :
    Calls Tryz.prog f args W fun e W' => ∃ v, e = .returned v ∧ s.post enc Tryz.prog fn false true false false W args v W' := by
  have hW' := hW
  obtain ⟨p, q, hA, hV, rfl, hfz, hnd⟩ := hW
  rw [hp] at hA hval
  rw [hv] at hV
  obtain ⟨v0, vs0, d0, ds0, p0, q0, hargs, rfl, rfl, h0, r0⟩ := trodAll_cons hA
  obtain ⟨rfl, rfl, rfl⟩ := trodAll_nil r0
  obtain rfl : args = #[v0] := by cases args; simp_all
  obtain ⟨rfl, rfl⟩ := trodVars_none hV
  have hlt : ∀ x ∈ p0, x.block < W.heap.size := fun x hx => hW'.lt x (by simpa using hx)
  have hz0 : Sized 26 d0 := by
    intro n hn
    have := List.all_eq_true.1 hz n (DataW.weights_mem_each (j := 0) (t := 26) (d := d0) (by rw [hp]; rfl) rfl n hn)
    simpa using this
  have h0k := h0
  obtain ⟨c0, c1, c2, y0, y1, y2, n, rfl, rfl, _, t0, t1, t2⟩ := Go.Joins.open_agg3 Tryz.underlying26 (by kernel_rfl) cellsAsk9 (hval 0 26 v0 rfl rfl) h0
  obtain ⟨ks, A, c, e0, hkc, hkl, hK⟩ := open_kepts t0 (fun m hm => hz0 m (by simp [DataW.weights, DataW.weightsEach, Tryz.underlying26]; exact .inl hm))
  obtain ⟨fs, B, d, e1, _, hfl, hF⟩ := open_facts t1 (fun m hm => hz0 m (by simp [DataW.weights, DataW.weightsEach, Tryz.underlying26]; exact .inr (.inl hm)))
  obtain ⟨ns, C, e, e2, hne, hnl, hN, hNw⟩ := open_ints t2 (fun m hm => hz0 m (by simp [DataW.weights, DataW.weightsEach, Tryz.underlying26]; exact .inr (.inr hm)))
  injection e0 with e0
  injection e1 with e1
  injection e2 with e2
  subst e0 e1 e2
  refine (walk ks fs ns A B C c d e W hK hkl hkc hF hfl hN hnl hNw hne).mono fun e W' ⟨he, hx⟩ => ?_
  subst he
  refine ⟨_, rfl, _, _, _, [], p0, [], hW', ?_, ?_, ?_, Below.frame hx _, fun h => by cases h⟩
  · rw [hr]
    simp only [List.append_nil, hs]
    exact trodAll_cons_mk (shut_bool Tryz.underlying4 _) trodAll_mk0
  · rw [hp]
    simp only [List.append_nil, hs]
    have := trodAll_cons_mk (Below.trod laidOut readAsk9 (of_decide_eq_true (by kernel_rfl)) h0k hx hlt) trodAll_mk0
    simpa using this
  · rw [hv]
    simp only [List.append_nil, hs]
    rfl
end Go.Proofs.YtkdhpifjljkpfaaGreat
