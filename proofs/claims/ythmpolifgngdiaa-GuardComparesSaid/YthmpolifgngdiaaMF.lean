/- Joined: Opb, Lift, Gcl. -/
import Derived.Test.YthmpolifgngdiaaOpen
import Derived.Test.YthmpolifgngdiaaHv2
import Derived.ProofKit
import Derived.Test.YthmpolifgngdiaaMA

/- Binds as they come in: opened. -/
namespace Go.Proofs.Ythmpolifgngdiaa
open Go.RowKit Go.ChangeShapes Go.WideShapes

theorem cellsBd : Try.prog.cellsOf 67 = 5 := by kernel_rfl
theorem cellsBds : Try.prog.cellsOf 44 = 1 := by kernel_rfl
theorem bytesBd : Try.prog.bytesOf 67 = 72 := by kernel_rfl
theorem bytesBds : Try.prog.bytesOf 44 = 24 := by kernel_rfl

theorem lst2 {α : Type} {l : List α} (h : l.length = 2) : ∃ a b, l = [a, b] := by
  match l, h with
  | [a, b], _ => exact ⟨a, b, rfl⟩
theorem lst5 {α : Type} {l : List α} (h : l.length = 5) : ∃ a b c d e, l = [a, b, c, d, e] := by
  match l, h with
  | [a, b, c, d, e], _ => exact ⟨a, b, c, d, e, rfl⟩

section
variable {H : Type} {enc : TypeId × Value → H} {w : World} {base : Nat} {spare : Nat → Bool} {held : Bool}

theorem open_bd {fuel : Nat} {cs : List Value} {x : DataW H × List MemPlace} (h : DataW.trod enc Try.prog w base spare held fuel 67 cs = some x) (hz : Sized 67 x.1) :
    ∃ (b : Bd) (A : Option Addr) (c : Nat), cs = [.string b.name, .int .i64 b.tm.kind, .string b.tm.name, .int .i64 b.tm.n, .slice A b.tm.args.length c] ∧ TmAt w b.tm A c ∧ b.name.size ≤ 140737488351232 := by
  obtain ⟨xs, n, rfl, hx, hlen, hxl, hf⟩ := DataW.trod_struct Try.underlying67 h
  rw [cellsBd] at hlen
  have hxl2 : xs.length = 2 := hxl
  clear hxl
  obtain ⟨y0, y1, rfl⟩ := lst2 hxl2
  obtain ⟨c0, c1, c2, c3, c4, rfl⟩ := lst5 hlen
  have f0 : DataW.trod enc Try.prog w base spare held n 9 (([c0, c1, c2, c3, c4].drop 0).take (Try.prog.cellsOf 9)) = some y0 := hf 0 _ rfl
  have f1 : DataW.trod enc Try.prog w base spare held n 32 (([c0, c1, c2, c3, c4].drop 1).take (Try.prog.cellsOf 32)) = some y1 := hf 1 _ rfl
  rw [cellsStr] at f0
  rw [cellsTm] at f1
  have f0' : DataW.trod enc Try.prog w base spare held n 9 [c0] = some y0 := f0
  have f1' : DataW.trod enc Try.prog w base spare held n 32 [c1, c2, c3, c4] = some y1 := f1
  clear f0 f1 hf
  obtain ⟨s, e0, rfl, _⟩ := DataW.trod_string Try.underlying9 f0'
  simp only [List.map_cons, List.map_nil] at hx
  have hw : x.1 = .agg [.lit (.string s.data.toList), y1.1] := by rw [hx]
  have hs : s.size ≤ 140737488351232 := by
    have := hz s.size (by rw [hw]; simp [DataW.weights, DataW.weightsEach, Try.underlying67])
    rwa [reach_eq] at this
  obtain ⟨t, A, c, e1, hT⟩ := open_tm n _ _ f1' (fun q hq => hz q (by rw [hw]; simp [DataW.weights, DataW.weightsEach, Try.underlying67]; exact .inr hq))
  injection e0 with e0
  injection e1 with e1 e2
  injection e2 with e2 e3
  injection e3 with e3 e4
  injection e4 with e4
  subst e0 e1 e2 e3 e4
  exact ⟨⟨s, t⟩, A, c, rfl, hT, hs⟩

theorem open_bds {fuel : Nat} {cs : List Value} {x : DataW H × List MemPlace} (h : DataW.trod enc Try.prog w base spare held fuel 44 cs = some x) (hz : Sized 44 x.1) :
    ∃ (bs : List Bd) (A : Option Addr) (c : Nat), cs = [.slice A bs.length c] ∧ bs.length ≤ c ∧ bs.length * 72 ≤ 140737488351232 ∧ BdsAt w bs A := by
  rcases DataW.trod_slice Try.underlying44 h with ⟨rfl, rfl⟩ | ⟨a, len, cap, elems, rest, n, rfl, rfl, rfl, hb, hl, hm, hlen, hel, _, _⟩
  · exact ⟨[], none, 0, rfl, Nat.le_refl _, by simp, BdsAt.nil _ _⟩
  · have hsz : (elems.length + rest.length) * 72 ≤ 140737488351232 := by
      have := hz ((elems.length + rest.length) * 72) (by simp [DataW.weights, Try.underlying44, bytesBd])
      rwa [reach_eq] at this
    have each : ∀ i, i < len → ∃ y : Bd × Option Addr × Nat, (∀ j, j < 5 → w.cell? ((a.add (i * 5)).add j) = [Value.string y.1.name, .int .i64 y.1.tm.kind, .string y.1.tm.name, .int .i64 y.1.tm.n, .slice y.2.1 y.1.tm.args.length y.2.2][j]?) ∧ TmAt w y.1.tm y.2.1 y.2.2 ∧ y.1.name.size ≤ 140737488351232 := by
      intro i hi
      have h1 := hel i hi
      rw [cellsBd] at h1
      have hi2 : i < elems.length := by omega
      rw [List.getElem?_eq_getElem hi2] at h1
      obtain ⟨cs', hc, ht⟩ := Option.bind_eq_some_iff.1 h1
      obtain ⟨_, hcl, hat⟩ := World.cells?_some hc
      have hzi : Sized 67 elems[i].1 := fun m hm => hz m (by
        simp only [DataW.weights, Try.underlying44, List.mem_cons, List.mem_append]
        exact .inr (.inl (weightsAll_mem (List.mem_map.2 ⟨_, List.getElem_mem hi2, rfl⟩) m hm)))
      obtain ⟨b, A, c, rfl, hT, hs⟩ := open_bd ht hzi
      exact ⟨(b, A, c), hat, hT, hs⟩
    haveI : Inhabited Bd := ⟨⟨.empty, ⟨0, .empty, 0, []⟩⟩⟩
    obtain ⟨f, hf⟩ := Go.Deep.choose_lt (α := Bd × Option Addr × Nat) (h := each)
    have hlm : ((List.range len).map fun i => (f i).1).length = len := by simp
    refine ⟨(List.range len).map fun i => (f i).1, some a, cap, by rw [hlm], by rw [hlm]; exact hl, by rw [hlm]; omega, fun i hi => ?_⟩
    rw [hlm] at hi
    have h0 := (hf i hi).1
    have ea : a = ⟨a.block, a.off, none⟩ := by
      have := (hf 0 (by omega)).1 0 (by omega)
      simp only [Nat.zero_mul, Addr.add, if_true] at this
      exact spot_none (by simpa using this)
    refine ⟨a.block, a.off, (f i).2.1, (f i).2.2, by rw [← ea], ?_, ?_, ?_, ?_, ?_, ?_, ?_⟩
    · have := h0 0 (by omega); rw [ea, add_addr, add_addr] at this; simpa using this
    · have := h0 1 (by omega); rw [ea, add_addr, add_addr] at this; simpa using this
    · have := h0 2 (by omega); rw [ea, add_addr, add_addr] at this; simpa using this
    · have := h0 3 (by omega); rw [ea, add_addr, add_addr] at this; simpa using this
    · have := h0 4 (by omega); rw [ea, add_addr, add_addr] at this; simpa using this
    · simpa using (hf i hi).2.1
    · simpa using (hf i hi).2.2

theorem open_bss {fuel : Nat} {cs : List Value} {x : DataW H × List MemPlace} (h : DataW.trod enc Try.prog w base spare held fuel 26 cs = some x) (hz : Sized 26 x.1) :
    ∃ (Bs : List (List Bd)) (A : Option Addr) (c : Nat), cs = [.slice A Bs.length c] ∧ Bs.length ≤ c ∧ Bs.length * 24 ≤ 140737488351232 ∧ BssAt w Bs A := by
  rcases DataW.trod_slice Try.underlying26 h with ⟨rfl, rfl⟩ | ⟨a, len, cap, elems, rest, n, rfl, rfl, rfl, hb, hl, hm, hlen, hel, _, _⟩
  · exact ⟨[], none, 0, rfl, Nat.le_refl _, by simp, fun i hi => absurd hi (by simp)⟩
  · have hsz : (elems.length + rest.length) * 24 ≤ 140737488351232 := by
      have := hz ((elems.length + rest.length) * 24) (by simp [DataW.weights, Try.underlying26, bytesBds])
      rwa [reach_eq] at this
    have each : ∀ i, i < len → ∃ y : List Bd × Option Addr × Nat, w.cell? (a.add i) = some (.slice y.2.1 y.1.length y.2.2) ∧ BdsAt w y.1 y.2.1 ∧ y.1.length ≤ y.2.2 ∧ y.1.length * 72 ≤ 140737488351232 := by
      intro i hi
      have h1 := hel i hi
      rw [cellsBds, Nat.mul_one] at h1
      have hi2 : i < elems.length := by omega
      rw [List.getElem?_eq_getElem hi2] at h1
      obtain ⟨cs', hc, ht⟩ := Option.bind_eq_some_iff.1 h1
      obtain ⟨_, hcl, hat⟩ := World.cells?_some hc
      have hzi : Sized 44 elems[i].1 := fun m hm => hz m (by
        simp only [DataW.weights, Try.underlying26, List.mem_cons, List.mem_append]
        exact .inr (.inl (weightsAll_mem (List.mem_map.2 ⟨_, List.getElem_mem hi2, rfl⟩) m hm)))
      obtain ⟨bs, A, c, rfl, hle, hm, hB⟩ := open_bds ht hzi
      refine ⟨(bs, A, c), ?_, hB, hle, hm⟩
      have := hat 0 (by omega)
      simpa [Addr.add] using this
    obtain ⟨f, hf⟩ := Go.Deep.choose_lt (α := List Bd × Option Addr × Nat) (h := each)
    have hlm : ((List.range len).map fun i => (f i).1).length = len := by simp
    refine ⟨(List.range len).map fun i => (f i).1, some a, cap, by rw [hlm], by rw [hlm]; exact hl, by rw [hlm]; omega, fun i hi => ?_⟩
    rw [hlm] at hi
    have ea : a = ⟨a.block, a.off, none⟩ := spot_none (by have := (hf 0 (by omega)).1; simpa [Addr.add] using this)
    have h0 := hf i hi
    refine ⟨a.block, a.off, (f i).2.1, (f i).2.2, by rw [← ea], ?_, by simpa using h0.2.1, by simpa using h0.2.2.1, by simpa using h0.2.2.2⟩
    have := h0.1
    rw [ea, add_addr] at this
    simpa using this
end
end Go.Proofs.Ythmpolifgngdiaa

/- From a walk over terms and texts to the row of a law: the argument opened, and read again behind the call. -/
namespace Go.Proofs.Ythmpolifgngdiaa
open Go.RowKit Go.ChangeShapes Go.WideShapes Go.ChangeAt

theorem own : ownKnob Try.prog.godebug = none := by kernel_rfl
theorem laidOut : laidOutB Try.prog = true := by kernel_rfl
end Go.Proofs.Ythmpolifgngdiaa

/- What comes in at layer 12's laws, opened: from a walk to the row's contract. -/
namespace Go.Proofs.Ythmpolifgngdiaa
open Go.RowKit Go.ChangeShapes Go.WideShapes Go.ChangeAt

theorem l3g {α : Type} {l : List α} (h : l.length = 3) : ∃ a b c, l = [a, b, c] := by
  match l, h with
  | [a, b, c], _ => exact ⟨a, b, c, rfl⟩
theorem l5g {α : Type} {l : List α} (h : l.length = 5) : ∃ a b c d e, l = [a, b, c, d, e] := by
  match l, h with
  | [a, b, c, d, e], _ => exact ⟨a, b, c, d, e, rfl⟩
theorem cellsAsk11 : Try.prog.cellsOf 25 = 3 := by kernel_rfl
theorem cellsAsk12 : Try.prog.cellsOf 29 = 5 := by kernel_rfl
theorem cellsTmsG : Try.prog.cellsOf 23 = 1 := by kernel_rfl
theorem cellsCusG : Try.prog.cellsOf 22 = 1 := by kernel_rfl
theorem cellsGusG : Try.prog.cellsOf 27 = 1 := by kernel_rfl
theorem cellsBssG : Try.prog.cellsOf 26 = 1 := by kernel_rfl
theorem readAsk12 : Try.prog.readableRec 29 = true := by kernel_rfl

section
variable {H : Type} {enc : TypeId × Value → H} {w : World} {base : Nat} {spare : Nat → Bool} {held : Bool}
theorem open_a11 (n0 : Nat) (cs : List Value) (x : DataW H × List MemPlace) (h : DataW.trod enc Try.prog w base spare held n0 25 cs = some x) (hz : Sized 25 x.1) :
    ∃ (cl : List Cl) (ks ts : List Tm) (C K T : Option Addr) (cc kc tc : Nat), cs = [.slice C cl.length cc, .slice K ks.length kc, .slice T ts.length tc] ∧ cl.length * 104 ≤ 140737488351232 ∧ CusAt w cl C ∧ ks.length * 56 ≤ 140737488351232 ∧ TmsAt w ks K ∧ ts.length * 56 ≤ 140737488351232 ∧ TmsAt w ts T := by
  obtain ⟨xs, n, rfl, hx, hlen, hxl, hf⟩ := DataW.trod_struct Try.underlying25 h
  rw [cellsAsk11] at hlen
  have hxl' : xs.length = 3 := hxl
  clear hxl
  obtain ⟨y0, y1, y2, rfl⟩ := l3g hxl'
  obtain ⟨c0, c1, c2, rfl⟩ := l3g hlen
  have f0 : DataW.trod enc Try.prog w base spare held n 22 (([c0, c1, c2].drop 0).take (Try.prog.cellsOf 22)) = some y0 := hf 0 _ rfl
  rw [cellsCusG] at f0
  have f0' : DataW.trod enc Try.prog w base spare held n 22 [c0] = some y0 := f0
  have f1 : DataW.trod enc Try.prog w base spare held n 23 (([c0, c1, c2].drop 1).take (Try.prog.cellsOf 23)) = some y1 := hf 1 _ rfl
  rw [cellsTmsG] at f1
  have f1' : DataW.trod enc Try.prog w base spare held n 23 [c1] = some y1 := f1
  have f2 : DataW.trod enc Try.prog w base spare held n 23 (([c0, c1, c2].drop 2).take (Try.prog.cellsOf 23)) = some y2 := hf 2 _ rfl
  rw [cellsTmsG] at f2
  have f2' : DataW.trod enc Try.prog w base spare held n 23 [c2] = some y2 := f2
  clear f0 f1 f2 hf
  simp only [List.map_cons, List.map_nil] at hx
  have hw : x.1 = .agg [y0.1, y1.1, y2.1] := by rw [hx]
  have hsub : ∀ (t : TypeId) (d : DataW H), (t, d) ∈ [(22, y0.1), (23, y1.1), (23, y2.1)] → Sized t d := fun t d hm q hq => hz q (by
    rw [hw]
    simp only [List.mem_cons, Prod.mk.injEq, List.not_mem_nil, or_false] at hm
    rcases hm with ⟨rfl, rfl⟩ | ⟨rfl, rfl⟩ | ⟨rfl, rfl⟩ <;> simp [DataW.weights, DataW.weightsEach, Try.underlying25, hq])
  obtain ⟨cl, C, cc, e0, _, hlc, hC⟩ := open_cus f0' (hsub _ _ (by simp))
  obtain ⟨ks, K, kc, e1, _, hlk, hK⟩ := open_tms f1' (hsub _ _ (by simp))
  obtain ⟨ts, T, tc, e2, _, hlt, hT⟩ := open_tms f2' (hsub _ _ (by simp))
  injection e0 with e0
  injection e1 with e1
  injection e2 with e2
  subst e0 e1 e2
  exact ⟨cl, ks, ts, C, K, T, cc, kc, tc, rfl, hlc, hC, hlk, hK, hlt, hT⟩

theorem open_a12 (n0 : Nat) (cs : List Value) (x : DataW H × List MemPlace) (h : DataW.trod enc Try.prog w base spare held n0 29 cs = some x) (hz : Sized 29 x.1) :
    ∃ (cl : List Cl) (ks ts : List Tm) (Bs : List (List Bd)) (gs : List Gd) (C K T B G : Option Addr) (cc kc tc bc gc : Nat), cs = [.slice C cl.length cc, .slice K ks.length kc, .slice T ts.length tc, .slice B Bs.length bc, .slice G gs.length gc] ∧
      cl.length * 104 ≤ 140737488351232 ∧ CusAt w cl C ∧ ks.length * 56 ≤ 140737488351232 ∧ TmsAt w ks K ∧ ts.length * 56 ≤ 140737488351232 ∧ TmsAt w ts T ∧ Bs.length * 24 ≤ 140737488351232 ∧ BssAt w Bs B ∧ gs.length * 120 ≤ 140737488351232 ∧ GusAt w gs G ∧ Bs.length ≤ bc ∧ gs.length ≤ gc := by
  obtain ⟨xs, n, rfl, hx, hlen, hxl, hf⟩ := DataW.trod_struct Try.underlying29 h
  rw [cellsAsk12] at hlen
  have hxl' : xs.length = 3 := hxl
  clear hxl
  obtain ⟨y0, y1, y2, rfl⟩ := l3g hxl'
  obtain ⟨c0, c1, c2, c3, c4, rfl⟩ := l5g hlen
  have f0 : DataW.trod enc Try.prog w base spare held n 25 (([c0, c1, c2, c3, c4].drop 0).take (Try.prog.cellsOf 25)) = some y0 := hf 0 _ rfl
  rw [cellsAsk11] at f0
  have f0' : DataW.trod enc Try.prog w base spare held n 25 [c0, c1, c2] = some y0 := f0
  have f1 : DataW.trod enc Try.prog w base spare held n 26 (([c0, c1, c2, c3, c4].drop 3).take (Try.prog.cellsOf 26)) = some y1 := hf 1 _ rfl
  rw [cellsBssG] at f1
  have f1' : DataW.trod enc Try.prog w base spare held n 26 [c3] = some y1 := f1
  have f2 : DataW.trod enc Try.prog w base spare held n 27 (([c0, c1, c2, c3, c4].drop 4).take (Try.prog.cellsOf 27)) = some y2 := hf 2 _ rfl
  rw [cellsGusG] at f2
  have f2' : DataW.trod enc Try.prog w base spare held n 27 [c4] = some y2 := f2
  clear f0 f1 f2 hf
  simp only [List.map_cons, List.map_nil] at hx
  have hw : x.1 = .agg [y0.1, y1.1, y2.1] := by rw [hx]
  have hsub : ∀ (t : TypeId) (d : DataW H), (t, d) ∈ [(25, y0.1), (26, y1.1), (27, y2.1)] → Sized t d := fun t d hm q hq => hz q (by
    rw [hw]
    simp only [List.mem_cons, Prod.mk.injEq, List.not_mem_nil, or_false] at hm
    rcases hm with ⟨rfl, rfl⟩ | ⟨rfl, rfl⟩ | ⟨rfl, rfl⟩ <;> simp [DataW.weights, DataW.weightsEach, Try.underlying29, hq])
  obtain ⟨cl, ks, ts, C, K, T, cc, kc, tc, e0, hlc, hC, hlk, hK, hlt, hT⟩ := open_a11 n _ _ f0' (hsub _ _ (by simp))
  obtain ⟨Bs, B, bc, e1, hbc, hlb, hB⟩ := open_bss f1' (hsub _ _ (by simp))
  obtain ⟨gs, G, gc, e2, hgc, hlg, hG⟩ := open_gus f2' (hsub _ _ (by simp))
  simp only [List.cons.injEq, and_true] at e0 e1 e2
  obtain ⟨g0, g1, g2⟩ := e0
  subst g0 g1 g2 e1 e2
  exact ⟨cl, ks, ts, Bs, gs, C, K, T, B, G, cc, kc, tc, bc, gc, rfl, hlc, hC, hlk, hK, hlt, hT, hlb, hB, hlg, hG, hbc, hgc⟩
end

/-- what a law's walk is to give -/
def AskWalk12 (f : FuncId) : Prop := ∀ (cs : List Cl) (ks ts : List Tm) (Bs : List (List Bd)) (gs : List Gd) (C K T B G : Option Addr) (cc kc tc bc gc : Nat) (w : World), cs.length * 104 ≤ 140737488351232 → CusAt w cs C → ks.length * 56 ≤ 140737488351232 → TmsAt w ks K → ts.length * 56 ≤ 140737488351232 → TmsAt w ts T →
    Bs.length * 24 ≤ 140737488351232 → BssAt w Bs B → gs.length * 120 ≤ 140737488351232 → GusAt w gs G → Bs.length ≤ bc → gs.length ≤ gc →
    Calls Try.prog f #[.agg #[.slice C cs.length cc, .slice K ks.length kc, .slice T ts.length tc, .slice B Bs.length bc, .slice G gs.length gc]] w fun e w' => e = .returned (.bool true) ∧ Ext w w'

set_option maxRecDepth 100000 in
theorem ask12_contract {f : FuncId} {fn : Func} {s : ChangeSpec} (walk : AskWalk12 f) (hp : fn.params = #[29]) (hr : fn.resultTypes = #[4]) (hv : s.vars = [])
    (H : Type) (hs : ∀ d : DataW H, s.fn H [d] = { results := [.lit (.bool true)], args := [d] })
    (enc : TypeId × Value → H) (W : World) (base : Nat) (args : Array Value) (ds gs : List (DataW H)) (before : List MemPlace)
    (hval : ∀ (j : Nat) t v, fn.params[j]? = some t → args[j]? = some v → Value.okWide Try.prog W .any base t v)
    (hW : DataW.Whole enc Try.prog fn.params.toList s.vars false W args.toList ds gs before)
    (hz : (DataW.weightsEach Try.prog (fn.params.toList ++ s.plain.varTypes Try.prog) (ds ++ gs)).all (· ≤ reachBytes) = true) :
    Calls Try.prog f args W fun e W' => ∃ v, e = .returned v ∧ s.post enc Try.prog fn false true false false W args v W' := by
  have hW' := hW
  obtain ⟨p, q, hA, hV, rfl, hfz, hnd⟩ := hW
  rw [hp] at hA hval
  rw [hv] at hV
  obtain ⟨v0, vs0, d0, ds0, p0, q0, hargs, rfl, rfl, h0, r0⟩ := trodAll_cons hA
  obtain ⟨rfl, rfl, rfl⟩ := trodAll_nil r0
  obtain rfl : args = #[v0] := by cases args; simp_all
  obtain ⟨rfl, rfl⟩ := trodVars_none hV
  have hlt : ∀ x ∈ p0, x.block < W.heap.size := fun x hx => hW'.lt x (by simpa using hx)
  have hz0 : Sized 29 d0 := by
    intro n hn
    have := List.all_eq_true.1 hz n (DataW.weights_mem_each (j := 0) (t := 29) (d := d0) (by rw [hp]; rfl) rfl n hn)
    simpa using this
  have h0k := h0
  obtain ⟨vs, rfl, hsz⟩ := okWide_struct Try.underlying29 (hval 0 29 v0 rfl rfl)
  obtain ⟨fuel, hf⟩ := h0
  obtain ⟨cs, ks, ts, Bs, gs', C, K, T, B, G, cc, kc, tc, bc, gc, ev, hlc, hC, hlk, hK, hlt', hT, hlb, hB, hlg, hG, hbc, hgc⟩ := open_a12 fuel _ _ hf hz0
  obtain ⟨vl⟩ := vs
  have ev' : vl = [.slice C cs.length cc, .slice K ks.length kc, .slice T ts.length tc, .slice B Bs.length bc, .slice G gs'.length gc] := ev
  subst ev'
  refine (walk cs ks ts Bs gs' C K T B G cc kc tc bc gc W hlc hC hlk hK hlt' hT hlb hB hlg hG hbc hgc).mono fun e W' ⟨he, hx⟩ => ?_
  subst he
  refine ⟨_, rfl, _, _, _, [], p0, [], hW', ?_, ?_, ?_, Below.frame hx _, fun h => by cases h⟩
  · rw [hr]
    simp only [List.append_nil, hs]
    exact trodAll_cons_mk (shut_bool Try.underlying4 _) trodAll_mk0
  · rw [hp]
    simp only [List.append_nil, hs]
    have := trodAll_cons_mk (Below.trod laidOut readAsk12 (of_decide_eq_true (by kernel_rfl)) h0k hx hlt) trodAll_mk0
    simpa using this
  · rw [hv]
    simp only [List.append_nil, hs]
    rfl
end Go.Proofs.Ythmpolifgngdiaa
