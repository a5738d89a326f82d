/- From a walk over spans, numbers and texts to the row of a law of layer 7. -/
import Derived.Test.YtgpjfagkjmnpgaaDoorSqo
import Derived.Test.YtgpjfagkjmnpgaaDoorRows
namespace Go.Proofs.YtgpjfagkjmnpgaaDoor
open Go.RowKit Go.ChangeShapes Go.WideShapes Go.ChangeAt
set_option maxRecDepth 100000

theorem own : ownKnob Tryd.prog.godebug = none := by kernel_rfl
theorem laidOut : laidOutB Tryd.prog = true := by kernel_rfl
theorem readAsk : Tryd.prog.readableRec 26 = true := by kernel_rfl
theorem gAsk : Tryd.prog.globalNamed "almagest/span.asked" = some 1 := by kernel_rfl
theorem tAsk : (Tryd.prog.globals[1]?).map (·.type) = some 70 := by kernel_rfl
theorem cLie : Tryd.prog.cellsOf 69 = 1 := by kernel_rfl
theorem cAsked : Tryd.prog.cellsOf 70 = 8 := by kernel_rfl
theorem gNms : Tryd.prog.globalNamed "almagest/span.names" = some 0 := by kernel_rfl
theorem tNms : (Tryd.prog.globals[0]?).map (·.type) = some 58 := by kernel_rfl

abbrev laid1 : List (String × DataW Unit) := [("almagest/span.asked", Rows.laid_almagest_span_asked)]
abbrev laid2 : List (String × DataW Unit) := [("almagest/span.asked", Rows.laid_almagest_span_asked), ("almagest/span.names", Rows.laid_almagest_span_names)]

section
variable {H : Type} {enc : TypeId × Value → H} {w : World} {base : Nat} {spare : Nat → Bool} {held : Bool}
/-- one cell's value out of what is laid -/
def litV {H : Type} : DataW H → Value
  | .lit (.int k n) => .int k n
  | .lit (.string bs) => .string ⟨bs.toArray⟩
  | _ => .bool false
theorem drop_one {α : Type} {l : List α} {i : Nat} {x : α} (h : (l.drop (i * 1)).take 1 = [x]) : l[i]? = some x := by
  rw [Nat.mul_one] at h
  have : ((l.drop i).take 1)[0]? = some x := by rw [h]; rfl
  simpa [List.getElem?_take, List.getElem?_drop] using this
theorem row_lie {m : Nat} {cs : List Value} {x : DataW H × List MemPlace} {ds : List (DataW H)} (h : DataW.trod enc Tryd.prog w base spare held m 70 cs = some x) (hx : x.1 = .agg ds) : ∀ i, i < 8 → cs[i]? = (ds.map litV)[i]? := by
  obtain ⟨xs, m1, rfl, hx1, hlen, hn, hel⟩ := DataW.trod_array Tryd.underlying70 h
  rw [hx1] at hx
  simp only [DataW.agg.injEq] at hx
  intro i hi
  have h1 := hel i hi
  rw [cLie, List.getElem?_eq_getElem (by omega : i < xs.length)] at h1
  obtain ⟨n, e1, e2, _⟩ := DataW.trod_int Tryd.underlying69 h1
  rw [drop_one e1, ← hx, List.map_map, List.getElem?_map, List.getElem?_eq_getElem (by omega : i < xs.length)]
  simp only [Option.map_some, Function.comp, e2, litV]
theorem row_nms {m : Nat} {cs : List Value} {x : DataW H × List MemPlace} {ds : List (DataW H)} (h : DataW.trod enc Tryd.prog w base spare held m 58 cs = some x) (hx : x.1 = .agg ds) : ∀ i, i < 13 → cs[i]? = (ds.map litV)[i]? := by
  obtain ⟨xs, m1, rfl, hx1, hlen, hn, hel⟩ := DataW.trod_array Tryd.underlying58 h
  rw [hx1] at hx
  simp only [DataW.agg.injEq] at hx
  intro i hi
  have h1 := hel i hi
  rw [cellsStr, List.getElem?_eq_getElem (by omega : i < xs.length)] at h1
  obtain ⟨n, e1, e2, _⟩ := DataW.trod_string Tryd.underlying9 h1
  rw [drop_one e1, ← hx, List.map_map, List.getElem?_map, List.getElem?_eq_getElem (by omega : i < xs.length)]
  simp only [Option.map_some, Function.comp, e2, litV]
end
def aggL {H : Type} : DataW H → List (DataW H)
  | .agg l => l
  | _ => []
theorem ask_tab : ((aggL (Rows.laid_almagest_span_asked (H := Unit))).map litV) = askV.map (Value.int .u16) := by kernel_rfl
/-- the names as they are laid -/
def nmsV : List ByteArray := [⟨#[98, 101, 102, 111, 114, 101]⟩, ⟨#[109, 101, 101, 116, 115]⟩, ⟨#[111, 118, 101, 114, 108, 97, 112, 115]⟩, ⟨#[115, 116, 97, 114, 116, 115]⟩, ⟨#[100, 117, 114, 105, 110, 103]⟩, ⟨#[101, 110, 100, 115]⟩, ⟨#[101, 113, 117, 97, 108]⟩, ⟨#[101, 110, 100, 101, 100]⟩, ⟨#[104, 111, 108, 100, 115]⟩, ⟨#[115, 116, 97, 114, 116, 101, 100]⟩, ⟨#[111, 118, 101, 114, 108, 97, 112, 112, 101, 100]⟩, ⟨#[109, 101, 116]⟩, ⟨#[97, 102, 116, 101, 114]⟩]
theorem nms_tab : ((aggL (Rows.laid_almagest_span_names (H := Unit))).map litV) = nmsV.map Value.string := by kernel_rfl
def NmsAt (w : World) : Prop := ∀ i (h : i < nmsV.length), w.cell? ⟨0, i, none⟩ = some (.string nmsV[i])

theorem ask_of {W : World} {i : Nat} {cs : Array Value} (hi : i < 8) (hc : W.cell? ⟨1, i, none⟩ = cs[i]?) (h : cs.toList[i]? = ((aggL (Rows.laid_almagest_span_asked (H := Unit))).map litV)[i]?) :
    W.cell? ⟨1, i, none⟩ = some (.int .u16 (askV.getD i 0)) := by
  have hl : i < askV.length := hi
  rw [hc, ← Array.getElem?_toList, h, ask_tab, List.getElem?_map, List.getElem?_eq_getElem hl, List.getD_eq_getElem?_getD, List.getElem?_eq_getElem hl]
  rfl
/-- what the condition gives the walks -/
theorem ask_of_laid {W : World} (h : laidMetH Tryd.prog laid1 W) : AskAt W := by
  rw [MakeChecks.laidMetH_plain _ _ _ (by kernel_rfl)] at h
  obtain ⟨ps, ⟨g0, t0, cs0, f0, p0, q0, hg0, ht0, hv0, hd0, _, _⟩, _, _⟩ := h
  obtain rfl := Option.some.inj (gAsk.symm.trans hg0)
  obtain rfl := Option.some.inj (tAsk.symm.trans ht0)
  intro i hi
  exact ask_of hi (World.var?_cell hg0 hv0 i) (row_lie hd0 (ds := aggL (Rows.laid_almagest_span_asked (H := Unit))) rfl i hi)
theorem both_of_laid {W : World} (h : laidMetH Tryd.prog laid2 W) : AskAt W ∧ NmsAt W := by
  rw [MakeChecks.laidMetH_plain _ _ _ (by kernel_rfl)] at h
  obtain ⟨ps, ⟨g0, t0, cs0, f0, p0, q0, hg0, ht0, hv0, hd0, ⟨g1, t1, cs1, f1, p1, q1, hg1, ht1, hv1, hd1, _, _⟩, _⟩, _, _⟩ := h
  obtain rfl := Option.some.inj (gAsk.symm.trans hg0)
  obtain rfl := Option.some.inj (tAsk.symm.trans ht0)
  obtain rfl := Option.some.inj (gNms.symm.trans hg1)
  obtain rfl := Option.some.inj (tNms.symm.trans ht1)
  refine ⟨fun i hi => ?_, fun i hi => ?_⟩
  · exact ask_of hi (World.var?_cell hg0 hv0 i) (row_lie hd0 (ds := aggL (Rows.laid_almagest_span_asked (H := Unit))) rfl i hi)
  · have hc := World.var?_cell hg1 hv1 i
    have := row_nms hd1 (ds := aggL (Rows.laid_almagest_span_names (H := Unit))) rfl i hi
    rw [hc, ← Array.getElem?_toList, this, nms_tab, List.getElem?_map, List.getElem?_eq_getElem hi]
    rfl
/-- the door's own heap meets the condition -/
theorem door_met1 (os : Os) (args : Array Value) : laidMetH Tryd.prog laid1 ((World.doorLaid Tryd.prog 400 os).forCall (fun _ _ => 0) ⟨#[], args, []⟩).memory :=
  laidMetH_of_parts3 (fuel := 8) (laidMet_of_run' 8 (by kernel_rfl) (by kernel_rfl)) (by kernel_rfl) (by kernel_rfl)
theorem door_met2 (os : Os) (args : Array Value) : laidMetH Tryd.prog laid2 ((World.doorLaid Tryd.prog 400 os).forCall (fun _ _ => 0) ⟨#[], args, []⟩).memory :=
  laidMetH_of_parts3 (fuel := 8) (laidMet_of_run' 8 (by kernel_rfl) (by kernel_rfl)) (by kernel_rfl) (by kernel_rfl)

/-- what came in, as the walks take it -/
structure In7 (xs : List Sp) (A : Option Addr) (c : Nat) (ns : List Int) (B : Option Addr) (d : Nat) (ss : List ByteArray) (C : Option Addr) (e : Nat) (w : World) : Prop where
  sps : SpsAt w xs A
  wf : WfL xs
  xlen : xs.length * 16 ≤ 140737488351232
  xcap : xs.length ≤ c
  ints : IntsAt w ns B
  nwf : ∀ n ∈ ns, (Lit.int .i64 n).wf = true
  nlen : ns.length * 8 ≤ 140737488351232
  ncap : ns.length ≤ d
  strs : StrsAt w ss C
  slen : ss.length * 16 ≤ 140737488351232
  scap : ss.length ≤ e
/-- what a law's walk is to give -/
def SpanWalk (Q : World → Prop) (f : FuncId) : Prop := ∀ xs A c ns B d ss C e w, In7 xs A c ns B d ss C e w → Q w →
    Calls Tryd.prog f #[.agg (askCells xs.length A c ns.length B d ss.length C e)] w fun e w' => e = .returned (.bool true) ∧ Ext w w'

theorem span_contract {Q : World → Prop} {f : FuncId} {fn : Func} {s : ChangeSpec} (walk : SpanWalk Q f) (hp : fn.params = #[26]) (hr : fn.resultTypes = #[4]) (hv : s.vars = [])
    (H : Type) (hs : ∀ d : DataW H, s.fn H [d] = { results := [.lit (.bool true)], args := [d] })
    (enc : TypeId × Value → H) (W : World) (base : Nat) (args : Array Value) (ds gs : List (DataW H)) (before : List MemPlace)
    (hval : ∀ (j : Nat) t v, fn.params[j]? = some t → args[j]? = some v → Value.okWide Tryd.prog W .any base t v)
    (hW : DataW.Whole enc Tryd.prog fn.params.toList s.vars false W args.toList ds gs before)
    (hz : (DataW.weightsEach Tryd.prog (fn.params.toList ++ s.plain.varTypes Tryd.prog) (ds ++ gs)).all (· ≤ reachBytes) = true) (hC : Q W) :
    Calls Tryd.prog f args W fun e W' => ∃ v, e = .returned v ∧ s.post enc Tryd.prog fn false true false false W args v W' := by
  have hW' := hW
  obtain ⟨p, q, hA, hV, rfl, hfz, hnd⟩ := hW
  rw [hp] at hA hval
  rw [hv] at hV
  obtain ⟨v0, vs0, d0, ds0, p0, q0, hargs, rfl, rfl, h0, r0⟩ := trodAll_cons hA
  obtain ⟨rfl, rfl, rfl⟩ := trodAll_nil r0
  obtain rfl : args = #[v0] := by cases args; simp_all
  obtain ⟨rfl, rfl⟩ := trodVars_none hV
  have hlt : ∀ x ∈ p0, x.block < W.heap.size := fun x hx => hW'.lt x (by simpa using hx)
  have hz0 : Sized 26 d0 := by
    intro n hn
    have := List.all_eq_true.1 hz n (DataW.weights_mem_each (j := 0) (t := 26) (d := d0) (by rw [hp]; rfl) rfl n hn)
    simpa using this
  have h0k := h0
  obtain ⟨c0, c1, c2, y0, y1, y2, n, rfl, rfl, t0, t1, t2⟩ := open_ask (hval 0 26 v0 rfl rfl) h0
  obtain ⟨xs, A, c, e0, hc0, hl0, hX, hw0⟩ := open_sps t0 (fun m hm => hz0 m (by simp [DataW.weights, DataW.weightsEach, Tryd.underlying26]; exact .inl hm))
  obtain ⟨ns, B, d, e1, hc1, hl1, hI, hw1⟩ := open_ints t1 (fun m hm => hz0 m (by simp [DataW.weights, DataW.weightsEach, Tryd.underlying26]; exact .inr (.inl hm)))
  obtain ⟨ss, C, e, e2, hc2, hl2, hS, _⟩ := open_strs t2 (fun m hm => hz0 m (by simp [DataW.weights, DataW.weightsEach, Tryd.underlying26]; exact .inr (.inr hm)))
  injection e0 with e0
  injection e1 with e1
  injection e2 with e2
  subst e0 e1 e2
  refine (walk xs A c ns B d ss C e W ⟨hX, hw0, hl0, hc0, hI, hw1, hl1, hc1, hS, hl2, hc2⟩ hC).mono fun e W' ⟨he, hx⟩ => ?_
  subst he
  refine ⟨_, rfl, _, _, _, [], p0, [], hW', ?_, ?_, ?_, Below.frame hx _, fun h => by cases h⟩
  · rw [hr]
    simp only [List.append_nil, hs]
    exact trodAll_cons_mk (shut_bool Tryd.underlying4 _) trodAll_mk0
  · rw [hp]
    simp only [List.append_nil, hs]
    have := trodAll_cons_mk (Below.trod laidOut readAsk (of_decide_eq_true (by kernel_rfl)) h0k hx hlt) trodAll_mk0
    simpa using this
  · rw [hv]
    simp only [List.append_nil, hs]
    rfl
end Go.Proofs.YtgpjfagkjmnpgaaDoor
