/- Joined: Lift, Opb, Lif2, SaidUal. -/
import Derived.Test.YtjmfjeeddnmoaaaOpen
import Derived.ProofKit
import Derived.Test.YtjmfjeeddnmoaaaMB
import Derived.Test.YtjmfjeeddnmoaaaUaq

/- From a walk over terms and texts to the row of a law: the argument opened, and read again behind the call. -/
namespace Go.Proofs.Ytjmfjeeddnmoaaa
open Go.RowKit Go.ChangeShapes Go.WideShapes Go.ChangeAt

theorem own : ownKnob Try.prog.godebug = none := by kernel_rfl
theorem laidOut : laidOutB Try.prog = true := by kernel_rfl
theorem readAsk : Try.prog.readableRec 25 = true := by kernel_rfl
theorem cellsAsk : Try.prog.cellsOf 25 = 2 := by kernel_rfl

/-- what a law's walk is to give -/
def AskWalk (f : FuncId) : Prop := ∀ (ts : List Tm) (ss : List ByteArray) (A B : Option Addr) (c d : Nat) (w : World), ts.length * 56 ≤ 140737488351232 → TmsAt w ts A → ss.length * 16 ≤ 140737488351232 → StrsAt w ss B → (B = none → d = 0) →
    Calls Try.prog f #[.agg #[.slice A ts.length c, .slice B ss.length d]] w fun e w' => e = .returned (.bool true) ∧ Ext w w'

set_option maxRecDepth 100000 in
theorem ask_contract {f : FuncId} {fn : Func} {s : ChangeSpec} (walk : AskWalk f) (hp : fn.params = #[25]) (hr : fn.resultTypes = #[4]) (hv : s.vars = [])
    (H : Type) (hs : ∀ d : DataW H, s.fn H [d] = { results := [.lit (.bool true)], args := [d] })
    (enc : TypeId × Value → H) (W : World) (base : Nat) (args : Array Value) (ds gs : List (DataW H)) (before : List MemPlace)
    (hval : ∀ (j : Nat) t v, fn.params[j]? = some t → args[j]? = some v → Value.okWide Try.prog W .any base t v)
    (hW : DataW.Whole enc Try.prog fn.params.toList s.vars false W args.toList ds gs before)
    (hz : (DataW.weightsEach Try.prog (fn.params.toList ++ s.plain.varTypes Try.prog) (ds ++ gs)).all (· ≤ reachBytes) = true) :
    Calls Try.prog f args W fun e W' => ∃ v, e = .returned v ∧ s.post enc Try.prog fn false true false false W args v W' := by
  have hW' := hW
  obtain ⟨p, q, hA, hV, rfl, hfz, hnd⟩ := hW
  rw [hp] at hA hval
  rw [hv] at hV
  obtain ⟨v0, vs0, d0, ds0, p0, q0, hargs, rfl, rfl, h0, r0⟩ := trodAll_cons hA
  obtain ⟨rfl, rfl, rfl⟩ := trodAll_nil r0
  obtain rfl : args = #[v0] := by cases args; simp_all
  obtain ⟨rfl, rfl⟩ := trodVars_none hV
  have hlt : ∀ x ∈ p0, x.block < W.heap.size := fun x hx => hW'.lt x (by simpa using hx)
  have hz0 : Sized 25 d0 := by
    intro n hn
    have := List.all_eq_true.1 hz n (DataW.weights_mem_each (j := 0) (t := 25) (d := d0) (by rw [hp]; rfl) rfl n hn)
    simpa using this
  have h0k := h0
  obtain ⟨c0, c1, y0, y1, n, rfl, rfl, _, t0, t1⟩ := Go.Joins.open_agg2 Try.underlying25 (by kernel_rfl) cellsAsk (hval 0 25 v0 rfl rfl) h0
  obtain ⟨ts, A, c, e0, _, hl, hT⟩ := open_tms t0 (fun m hm => hz0 m (by simp [DataW.weights, DataW.weightsEach, Try.underlying25]; exact .inl hm))
  obtain ⟨ss, B, d, e1, _, hm, hS, hB⟩ := open_strs t1 (fun m hm => hz0 m (by simp [DataW.weights, DataW.weightsEach, Try.underlying25]; exact .inr hm))
  injection e0 with e0
  injection e1 with e1
  subst e0 e1
  refine (walk ts ss A B c d W hl hT hm hS hB).mono fun e W' ⟨he, hx⟩ => ?_
  subst he
  refine ⟨_, rfl, _, _, _, [], p0, [], hW', ?_, ?_, ?_, Below.frame hx _, fun h => by cases h⟩
  · rw [hr]
    simp only [List.append_nil, hs]
    exact trodAll_cons_mk (shut_bool Try.underlying4 _) trodAll_mk0
  · rw [hp]
    simp only [List.append_nil, hs]
    have := trodAll_cons_mk (Below.trod laidOut readAsk (of_decide_eq_true (by kernel_rfl)) h0k hx hlt) trodAll_mk0
    simpa using this
  · rw [hv]
    simp only [List.append_nil, hs]
    rfl
end Go.Proofs.Ytjmfjeeddnmoaaa

/- Binds as they come in: opened. -/
namespace Go.Proofs.Ytjmfjeeddnmoaaa
open Go.RowKit Go.ChangeShapes Go.WideShapes

theorem cellsBd : Try.prog.cellsOf 65 = 5 := by kernel_rfl
theorem cellsBds : Try.prog.cellsOf 58 = 1 := by kernel_rfl
theorem bytesBd : Try.prog.bytesOf 65 = 72 := by kernel_rfl
theorem bytesBds : Try.prog.bytesOf 58 = 24 := by kernel_rfl

theorem lst2 {α : Type} {l : List α} (h : l.length = 2) : ∃ a b, l = [a, b] := by
  match l, h with
  | [a, b], _ => exact ⟨a, b, rfl⟩
theorem lst5 {α : Type} {l : List α} (h : l.length = 5) : ∃ a b c d e, l = [a, b, c, d, e] := by
  match l, h with
  | [a, b, c, d, e], _ => exact ⟨a, b, c, d, e, rfl⟩

section
variable {H : Type} {enc : TypeId × Value → H} {w : World} {base : Nat} {spare : Nat → Bool} {held : Bool}

theorem open_bd {fuel : Nat} {cs : List Value} {x : DataW H × List MemPlace} (h : DataW.trod enc Try.prog w base spare held fuel 65 cs = some x) (hz : Sized 65 x.1) :
    ∃ (b : Bd) (A : Option Addr) (c : Nat), cs = [.string b.name, .int .i64 b.tm.kind, .string b.tm.name, .int .i64 b.tm.n, .slice A b.tm.args.length c] ∧ TmAt w b.tm A c ∧ b.name.size ≤ 140737488351232 := by
  obtain ⟨xs, n, rfl, hx, hlen, hxl, hf⟩ := DataW.trod_struct Try.underlying65 h
  rw [cellsBd] at hlen
  have hxl2 : xs.length = 2 := hxl
  clear hxl
  obtain ⟨y0, y1, rfl⟩ := lst2 hxl2
  obtain ⟨c0, c1, c2, c3, c4, rfl⟩ := lst5 hlen
  have f0 : DataW.trod enc Try.prog w base spare held n 9 (([c0, c1, c2, c3, c4].drop 0).take (Try.prog.cellsOf 9)) = some y0 := hf 0 _ rfl
  have f1 : DataW.trod enc Try.prog w base spare held n 28 (([c0, c1, c2, c3, c4].drop 1).take (Try.prog.cellsOf 28)) = some y1 := hf 1 _ rfl
  rw [cellsStr] at f0
  rw [cellsTm] at f1
  have f0' : DataW.trod enc Try.prog w base spare held n 9 [c0] = some y0 := f0
  have f1' : DataW.trod enc Try.prog w base spare held n 28 [c1, c2, c3, c4] = some y1 := f1
  clear f0 f1 hf
  obtain ⟨s, e0, rfl, _⟩ := DataW.trod_string Try.underlying9 f0'
  simp only [List.map_cons, List.map_nil] at hx
  have hw : x.1 = .agg [.lit (.string s.data.toList), y1.1] := by rw [hx]
  have hs : s.size ≤ 140737488351232 := by
    have := hz s.size (by rw [hw]; simp [DataW.weights, DataW.weightsEach, Try.underlying65])
    rwa [reach_eq] at this
  obtain ⟨t, A, c, e1, hT⟩ := open_tm n _ _ f1' (fun q hq => hz q (by rw [hw]; simp [DataW.weights, DataW.weightsEach, Try.underlying65]; exact .inr hq))
  injection e0 with e0
  injection e1 with e1 e2
  injection e2 with e2 e3
  injection e3 with e3 e4
  injection e4 with e4
  subst e0 e1 e2 e3 e4
  exact ⟨⟨s, t⟩, A, c, rfl, hT, hs⟩

theorem open_bds {fuel : Nat} {cs : List Value} {x : DataW H × List MemPlace} (h : DataW.trod enc Try.prog w base spare held fuel 58 cs = some x) (hz : Sized 58 x.1) :
    ∃ (bs : List Bd) (A : Option Addr) (c : Nat), cs = [.slice A bs.length c] ∧ bs.length ≤ c ∧ bs.length * 72 ≤ 140737488351232 ∧ BdsAt w bs A := by
  rcases DataW.trod_slice Try.underlying58 h with ⟨rfl, rfl⟩ | ⟨a, len, cap, elems, rest, n, rfl, rfl, rfl, hb, hl, hm, hlen, hel, _, _⟩
  · exact ⟨[], none, 0, rfl, Nat.le_refl _, by simp, BdsAt.nil _ _⟩
  · have hsz : (elems.length + rest.length) * 72 ≤ 140737488351232 := by
      have := hz ((elems.length + rest.length) * 72) (by simp [DataW.weights, Try.underlying58, bytesBd])
      rwa [reach_eq] at this
    have each : ∀ i, i < len → ∃ y : Bd × Option Addr × Nat, (∀ j, j < 5 → w.cell? ((a.add (i * 5)).add j) = [Value.string y.1.name, .int .i64 y.1.tm.kind, .string y.1.tm.name, .int .i64 y.1.tm.n, .slice y.2.1 y.1.tm.args.length y.2.2][j]?) ∧ TmAt w y.1.tm y.2.1 y.2.2 ∧ y.1.name.size ≤ 140737488351232 := by
      intro i hi
      have h1 := hel i hi
      rw [cellsBd] at h1
      have hi2 : i < elems.length := by omega
      rw [List.getElem?_eq_getElem hi2] at h1
      obtain ⟨cs', hc, ht⟩ := Option.bind_eq_some_iff.1 h1
      obtain ⟨_, hcl, hat⟩ := World.cells?_some hc
      have hzi : Sized 65 elems[i].1 := fun m hm => hz m (by
        simp only [DataW.weights, Try.underlying58, List.mem_cons, List.mem_append]
        exact .inr (.inl (weightsAll_mem (List.mem_map.2 ⟨_, List.getElem_mem hi2, rfl⟩) m hm)))
      obtain ⟨b, A, c, rfl, hT, hs⟩ := open_bd ht hzi
      exact ⟨(b, A, c), hat, hT, hs⟩
    haveI : Inhabited Bd := ⟨⟨.empty, ⟨0, .empty, 0, []⟩⟩⟩
    obtain ⟨f, hf⟩ := Go.Deep.choose_lt (α := Bd × Option Addr × Nat) (h := each)
    have hlm : ((List.range len).map fun i => (f i).1).length = len := by simp
    refine ⟨(List.range len).map fun i => (f i).1, some a, cap, by rw [hlm], by rw [hlm]; exact hl, by rw [hlm]; omega, fun i hi => ?_⟩
    rw [hlm] at hi
    have h0 := (hf i hi).1
    have ea : a = ⟨a.block, a.off, none⟩ := by
      have := (hf 0 (by omega)).1 0 (by omega)
      simp only [Nat.zero_mul, Addr.add, if_true] at this
      exact spot_none (by simpa using this)
    refine ⟨a.block, a.off, (f i).2.1, (f i).2.2, by rw [← ea], ?_, ?_, ?_, ?_, ?_, ?_, ?_⟩
    · have := h0 0 (by omega); rw [ea, add_addr, add_addr] at this; simpa using this
    · have := h0 1 (by omega); rw [ea, add_addr, add_addr] at this; simpa using this
    · have := h0 2 (by omega); rw [ea, add_addr, add_addr] at this; simpa using this
    · have := h0 3 (by omega); rw [ea, add_addr, add_addr] at this; simpa using this
    · have := h0 4 (by omega); rw [ea, add_addr, add_addr] at this; simpa using this
    · simpa using (hf i hi).2.1
    · simpa using (hf i hi).2.2

theorem open_bss {fuel : Nat} {cs : List Value} {x : DataW H × List MemPlace} (h : DataW.trod enc Try.prog w base spare held fuel 54 cs = some x) (hz : Sized 54 x.1) :
    ∃ (Bs : List (List Bd)) (A : Option Addr) (c : Nat), cs = [.slice A Bs.length c] ∧ Bs.length ≤ c ∧ Bs.length * 24 ≤ 140737488351232 ∧ BssAt w Bs A := by
  rcases DataW.trod_slice Try.underlying54 h with ⟨rfl, rfl⟩ | ⟨a, len, cap, elems, rest, n, rfl, rfl, rfl, hb, hl, hm, hlen, hel, _, _⟩
  · exact ⟨[], none, 0, rfl, Nat.le_refl _, by simp, fun i hi => absurd hi (by simp)⟩
  · have hsz : (elems.length + rest.length) * 24 ≤ 140737488351232 := by
      have := hz ((elems.length + rest.length) * 24) (by simp [DataW.weights, Try.underlying54, bytesBds])
      rwa [reach_eq] at this
    have each : ∀ i, i < len → ∃ y : List Bd × Option Addr × Nat, w.cell? (a.add i) = some (.slice y.2.1 y.1.length y.2.2) ∧ BdsAt w y.1 y.2.1 ∧ y.1.length ≤ y.2.2 ∧ y.1.length * 72 ≤ 140737488351232 := by
      intro i hi
      have h1 := hel i hi
      rw [cellsBds, Nat.mul_one] at h1
      have hi2 : i < elems.length := by omega
      rw [List.getElem?_eq_getElem hi2] at h1
      obtain ⟨cs', hc, ht⟩ := Option.bind_eq_some_iff.1 h1
      obtain ⟨_, hcl, hat⟩ := World.cells?_some hc
      have hzi : Sized 58 elems[i].1 := fun m hm => hz m (by
        simp only [DataW.weights, Try.underlying54, List.mem_cons, List.mem_append]
        exact .inr (.inl (weightsAll_mem (List.mem_map.2 ⟨_, List.getElem_mem hi2, rfl⟩) m hm)))
      obtain ⟨bs, A, c, rfl, hle, hm, hB⟩ := open_bds ht hzi
      refine ⟨(bs, A, c), ?_, hB, hle, hm⟩
      have := hat 0 (by omega)
      simpa [Addr.add] using this
    obtain ⟨f, hf⟩ := Go.Deep.choose_lt (α := List Bd × Option Addr × Nat) (h := each)
    have hlm : ((List.range len).map fun i => (f i).1).length = len := by simp
    refine ⟨(List.range len).map fun i => (f i).1, some a, cap, by rw [hlm], by rw [hlm]; exact hl, by rw [hlm]; omega, fun i hi => ?_⟩
    rw [hlm] at hi
    have ea : a = ⟨a.block, a.off, none⟩ := spot_none (by have := (hf 0 (by omega)).1; simpa [Addr.add] using this)
    have h0 := hf i hi
    refine ⟨a.block, a.off, (f i).2.1, (f i).2.2, by rw [← ea], ?_, by simpa using h0.2.1, by simpa using h0.2.2.1, by simpa using h0.2.2.2⟩
    have := h0.1
    rw [ea, add_addr] at this
    simpa using this
end
end Go.Proofs.Ytjmfjeeddnmoaaa

/- From a walk over binds, terms and texts to the row of a law: the argument opened, and read again behind the call. -/
namespace Go.Proofs.Ytjmfjeeddnmoaaa
open Go.RowKit Go.ChangeShapes Go.WideShapes Go.ChangeAt

theorem readAsk2 : Try.prog.readableRec 56 = true := by kernel_rfl
theorem cellsAsk2 : Try.prog.cellsOf 56 = 3 := by kernel_rfl

/-- what a law's walk is to give -/
def AskWalk2 (f : FuncId) : Prop := ∀ (Bs : List (List Bd)) (ts : List Tm) (ss : List ByteArray) (A T S : Option Addr) (ca ct cs : Nat) (w : World), Bs.length * 24 ≤ 140737488351232 → BssAt w Bs A → ts.length * 56 ≤ 140737488351232 → TmsAt w ts T → ss.length * 16 ≤ 140737488351232 → StrsAt w ss S → (S = none → cs = 0) →
    Calls Try.prog f #[.agg #[.slice A Bs.length ca, .slice T ts.length ct, .slice S ss.length cs]] w fun e w' => e = .returned (.bool true) ∧ Ext w w'

set_option maxRecDepth 100000 in
theorem ask2_contract {f : FuncId} {fn : Func} {s : ChangeSpec} (walk : AskWalk2 f) (hp : fn.params = #[56]) (hr : fn.resultTypes = #[4]) (hv : s.vars = [])
    (H : Type) (hs : ∀ d : DataW H, s.fn H [d] = { results := [.lit (.bool true)], args := [d] })
    (enc : TypeId × Value → H) (W : World) (base : Nat) (args : Array Value) (ds gs : List (DataW H)) (before : List MemPlace)
    (hval : ∀ (j : Nat) t v, fn.params[j]? = some t → args[j]? = some v → Value.okWide Try.prog W .any base t v)
    (hW : DataW.Whole enc Try.prog fn.params.toList s.vars false W args.toList ds gs before)
    (hz : (DataW.weightsEach Try.prog (fn.params.toList ++ s.plain.varTypes Try.prog) (ds ++ gs)).all (· ≤ reachBytes) = true) :
    Calls Try.prog f args W fun e W' => ∃ v, e = .returned v ∧ s.post enc Try.prog fn false true false false W args v W' := by
  have hW' := hW
  obtain ⟨p, q, hA, hV, rfl, hfz, hnd⟩ := hW
  rw [hp] at hA hval
  rw [hv] at hV
  obtain ⟨v0, vs0, d0, ds0, p0, q0, hargs, rfl, rfl, h0, r0⟩ := trodAll_cons hA
  obtain ⟨rfl, rfl, rfl⟩ := trodAll_nil r0
  obtain rfl : args = #[v0] := by cases args; simp_all
  obtain ⟨rfl, rfl⟩ := trodVars_none hV
  have hlt : ∀ x ∈ p0, x.block < W.heap.size := fun x hx => hW'.lt x (by simpa using hx)
  have hz0 : Sized 56 d0 := by
    intro n hn
    have := List.all_eq_true.1 hz n (DataW.weights_mem_each (j := 0) (t := 56) (d := d0) (by rw [hp]; rfl) rfl n hn)
    simpa using this
  have h0k := h0
  obtain ⟨c0, c1, c2, y0, y1, y2, n, rfl, rfl, _, t0, t1, t2⟩ := Go.Joins.open_agg3 Try.underlying56 (by kernel_rfl) cellsAsk2 (hval 0 56 v0 rfl rfl) h0
  obtain ⟨Bs, A, ca, e0, _, hb, hB⟩ := open_bss t0 (fun m hm => hz0 m (by simp [DataW.weights, DataW.weightsEach, Try.underlying56]; exact .inl hm))
  obtain ⟨ts, T, ct, e1, _, hl, hT⟩ := open_tms t1 (fun m hm => hz0 m (by simp [DataW.weights, DataW.weightsEach, Try.underlying56]; exact .inr (.inl hm)))
  obtain ⟨ss, S, cs, e2, _, hm, hS, hN⟩ := open_strs t2 (fun m hm => hz0 m (by simp [DataW.weights, DataW.weightsEach, Try.underlying56]; exact .inr (.inr hm)))
  injection e0 with e0
  injection e1 with e1
  injection e2 with e2
  subst e0 e1 e2
  refine (walk Bs ts ss A T S ca ct cs W hb hB hl hT hm hS hN).mono fun e W' ⟨he, hx⟩ => ?_
  subst he
  refine ⟨_, rfl, _, _, _, [], p0, [], hW', ?_, ?_, ?_, Below.frame hx _, fun h => by cases h⟩
  · rw [hr]
    simp only [List.append_nil, hs]
    exact trodAll_cons_mk (shut_bool Try.underlying4 _) trodAll_mk0
  · rw [hp]
    simp only [List.append_nil, hs]
    have := trodAll_cons_mk (Below.trod laidOut readAsk2 (of_decide_eq_true (by kernel_rfl)) h0k hx hlt) trodAll_mk0
    simpa using this
  · rw [hv]
    simp only [List.append_nil, hs]
    rfl
end Go.Proofs.Ytjmfjeeddnmoaaa

/- UnifyAlike holds for every argument: what Unify binds makes both alike, both ways tell the same, and what Match finds Unify finds; the argument reads afterwards as before. No condition beyond the form's own. -/
namespace Go.Proofs.Ytjmfjeeddnmoaaa
open Go.RowKit Go.ChangeShapes Go.WideShapes Go.ChangeAt

set_option maxRecDepth 100000 in
theorem alike_lifted (os : Os) (started : os.Started) (H : Type) (enc : TypeId × Value → H) :
    ReturnsInHanded {} Try.checked os 9 .any (Rows.unifyAlikeSpec.pre6 enc Try.prog Try.f9 Rows.unifyAlikeRow.domain false) (Rows.unifyAlikeSpec.post enc Try.prog Try.f9 false true false false) := by
  refine returnsInHanded_of_change_sized (C := Try.checked) own started (by kernel_rfl) Try.func9
    (ChangeSpec.witness6 (enc := enc) (C := Try.checked) false ⟨#[], #[.agg #[.slice none 0 0, .slice none 0 0, .slice none 0 0]], []⟩ 8 (by kernel_rfl) (by kernel_rfl) (by kernel_rfl) (by kernel_rfl)) ?_
  intro W base args ds gs before hval hW _ hz _
  exact ask2_contract (fun Bs ts ss A T S ca ct cs w h1 h2 h3 h4 h5 h6 _ => alike_walk Bs ts ss A T S ca ct cs w h1 h2 h3 h4 h5 h6) (by rw [Try.params9]) (by kernel_rfl) rfl H (fun _ => rfl) enc W base args ds gs before hval hW hz

theorem alike_said : Rows.UnifyAlikeSaid :=
  OpenClaim.holds_of_wide 9 Try.f9 rfl rfl rfl rfl rfl rfl rfl ⟨rfl, rfl, rfl, rfl, rfl⟩ rfl rfl rfl rfl rfl (by kernel_rfl) Try.func9 (by kernel_rfl)
    (of_decide_eq_true (by kernel_rfl)) (by unfold Func.isWrapper; first | (rw [if_pos (by decide +kernel)]; kernel_rfl) | (rw [if_neg (by decide +kernel)]; exact ⟨rfl, rfl⟩))
    (fun os started H enc _ => alike_lifted os started H enc)
end Go.Proofs.Ytjmfjeeddnmoaaa
