/- From a walk over sets, rows of them and a number to the row of a law of layer 8. -/
import Derived.Test.YtjldokhomohdbaaDoorWvo
import Derived.Test.YtjldokhomohdbaaDoorRows
namespace Go.Proofs.YtjldokhomohdbaaDoor
open Go.RowKit Go.ChangeShapes Go.WideShapes Go.ChangeAt
set_option maxRecDepth 100000

theorem own : ownKnob Tryd.prog.godebug = none := by kernel_rfl
theorem laidOut : laidOutB Tryd.prog = true := by kernel_rfl
theorem readAsk : Tryd.prog.readableRec 25 = true := by kernel_rfl
theorem gEnd : Tryd.prog.globalNamed "almagest/weave.endsOf" = some 0 := by kernel_rfl
theorem tEnd : (Tryd.prog.globals[0]?).map (·.type) = some 76 := by kernel_rfl
theorem cEnds : Tryd.prog.cellsOf 75 = 2 := by kernel_rfl
theorem cZone : Tryd.prog.cellsOf 73 = 1 := by kernel_rfl

abbrev laid1 : List (String × DataW Unit) := [("almagest/weave.endsOf", Rows.laid_almagest_weave_endsOf)]

section
variable {H : Type} {enc : TypeId × Value → H} {w : World} {base : Nat} {spare : Nat → Bool} {held : Bool}
/-- one cell's value out of what is laid -/
def litV {H : Type} : DataW H → Value
  | .lit (.int k n) => .int k n
  | _ => .bool false
def aggL {H : Type} : DataW H → List (DataW H)
  | .agg l => l
  | _ => []
theorem open_zones {fuel : Nat} {cs : List Value} {x : DataW H × List MemPlace} (h : DataW.trod enc Tryd.prog w base spare held fuel 75 cs = some x) :
    cs = (aggL x.1).map litV ∧ (aggL x.1).length = 2 := by
  obtain ⟨xs, n, rfl, hx, hlen, hxl, hf⟩ := DataW.trod_struct Tryd.underlying75 h
  rw [cEnds] at hlen
  have hxl2 : xs.length = 2 := hxl
  clear hxl
  obtain ⟨y0, y1, rfl⟩ := lst2 hxl2
  obtain ⟨c0, c1, rfl⟩ := lst2 hlen
  have f0 : DataW.trod enc Tryd.prog w base spare held n 73 (([c0, c1].drop 0).take (Tryd.prog.cellsOf 73)) = some y0 := hf 0 _ rfl
  have f1 : DataW.trod enc Tryd.prog w base spare held n 73 (([c0, c1].drop 1).take (Tryd.prog.cellsOf 73)) = some y1 := hf 1 _ rfl
  rw [cZone] at f0 f1
  have f0' : DataW.trod enc Tryd.prog w base spare held n 73 [c0] = some y0 := f0
  have f1' : DataW.trod enc Tryd.prog w base spare held n 73 [c1] = some y1 := f1
  obtain ⟨k0, e0, d0, _⟩ := DataW.trod_int Tryd.underlying73 f0'
  obtain ⟨k1, e1, d1, _⟩ := DataW.trod_int Tryd.underlying73 f1'
  injection e0 with e0
  injection e1 with e1
  subst e0 e1
  rw [hx]
  simp [aggL, d0, d1, litV]
theorem take_two {α : Type} {l : List α} {i : Nat} {x y : α} (h : (l.drop (i * 2)).take 2 = [x, y]) : l[i * 2]? = some x ∧ l[i * 2 + 1]? = some y := by
  have h0 : ((l.drop (i * 2)).take 2)[0]? = some x := by rw [h]; rfl
  have h1 : ((l.drop (i * 2)).take 2)[1]? = some y := by rw [h]; rfl
  exact ⟨by simpa [List.getElem?_take, List.getElem?_drop] using h0, by simpa [List.getElem?_take, List.getElem?_drop] using h1⟩
theorem row_ends {m : Nat} {cs : List Value} {x : DataW H × List MemPlace} {ds : List (DataW H)} (h : DataW.trod enc Tryd.prog w base spare held m 76 cs = some x) (hx : x.1 = .agg ds) :
    ∀ i, i < 14 → ∃ d, ds[i]? = some d ∧ cs[i * 2]? = ((aggL d).map litV)[0]? ∧ cs[i * 2 + 1]? = ((aggL d).map litV)[1]? := by
  obtain ⟨xs, m1, rfl, hx1, hlen, hn, hel⟩ := DataW.trod_array Tryd.underlying76 h
  rw [hx1] at hx
  simp only [DataW.agg.injEq] at hx
  intro i hi
  have h1 := hel i hi
  rw [cEnds, List.getElem?_eq_getElem (by omega : i < xs.length)] at h1
  obtain ⟨e1, e2⟩ := open_zones h1
  refine ⟨xs[i].1, by rw [← hx, List.getElem?_map, List.getElem?_eq_getElem (by omega : i < xs.length)]; rfl, ?_⟩
  obtain ⟨a, b, e3⟩ := lst2 (l := (aggL xs[i].1).map litV) (by rw [List.length_map, e2])
  rw [e3] at e1 ⊢
  obtain ⟨p, q⟩ := take_two e1
  exact ⟨by rw [p]; rfl, by rw [q]; rfl⟩
end
def endV (k : Nat) : List Value := [.int .u8 (endf k : Int), .int .u8 (endt k : Int)]
theorem end_tab : (((aggL (Rows.laid_almagest_weave_endsOf (H := Unit))).drop 1).map fun d => (aggL d).map litV) = (List.range 13).map endV := by kernel_rfl
/-- what the condition gives the walks -/
theorem end_of_laid {W : World} (h : laidMetH Tryd.prog laid1 W) : EndAt W := by
  rw [MakeChecks.laidMetH_plain _ _ _ (by kernel_rfl)] at h
  obtain ⟨ps, ⟨g0, t0, cs0, f0, p0, q0, hg0, ht0, hv0, hd0, _, _⟩, _, _⟩ := h
  obtain rfl := Option.some.inj (gEnd.symm.trans hg0)
  obtain rfl := Option.some.inj (tEnd.symm.trans ht0)
  intro k hk
  obtain ⟨d, hd, e1, e2⟩ := row_ends hd0 (ds := aggL (Rows.laid_almagest_weave_endsOf (H := Unit))) rfl (k + 1) (by omega)
  have ht := congrArg (fun l => l[k]?) end_tab
  simp only [List.getElem?_map, List.getElem?_drop, List.getElem?_range hk, Option.map_some] at ht
  rw [Nat.add_comm 1 k, hd] at ht
  simp only [Option.map_some, Option.some.injEq] at ht
  rw [ht] at e1 e2
  rw [World.var?_cell hg0 hv0 ((k + 1) * 2), World.var?_cell hg0 hv0 ((k + 1) * 2 + 1), ← Array.getElem?_toList, ← Array.getElem?_toList, e1, e2]
  exact ⟨rfl, rfl⟩
/-- the door's own heap meets the condition -/
theorem door_met1 (os : Os) (args : Array Value) : laidMetH Tryd.prog laid1 ((World.doorLaid Tryd.prog 400 os).forCall (fun _ _ => 0) ⟨#[], args, []⟩).memory :=
  laidMetH_of_parts3 (fuel := 8) (laidMet_of_run' 8 (by kernel_rfl) (by kernel_rfl)) (by kernel_rfl) (by kernel_rfl)

/-- what a law's walk is to give -/
def WeaveWalk (f : FuncId) : Prop := ∀ ns A c ls B d N w, In8 ns A c ls B d w → (Lit.int .i64 N).wf = true → EndAt w →
    Calls Tryd.prog f #[.agg (askCells ns.length A c ls.length B d N)] w fun e w' => e = .returned (.bool true) ∧ Ext w w'

theorem weave_contract {f : FuncId} {fn : Func} {s : ChangeSpec} (walk : WeaveWalk f) (hp : fn.params = #[25]) (hr : fn.resultTypes = #[4]) (hv : s.vars = [])
    (H : Type) (hs : ∀ d : DataW H, s.fn H [d] = { results := [.lit (.bool true)], args := [d] })
    (enc : TypeId × Value → H) (W : World) (base : Nat) (args : Array Value) (ds gs : List (DataW H)) (before : List MemPlace)
    (hval : ∀ (j : Nat) t v, fn.params[j]? = some t → args[j]? = some v → Value.okWide Tryd.prog W .any base t v)
    (hW : DataW.Whole enc Tryd.prog fn.params.toList s.vars false W args.toList ds gs before)
    (hz : (DataW.weightsEach Tryd.prog (fn.params.toList ++ s.plain.varTypes Tryd.prog) (ds ++ gs)).all (· ≤ reachBytes) = true) (hC : EndAt W) :
    Calls Tryd.prog f args W fun e W' => ∃ v, e = .returned v ∧ s.post enc Tryd.prog fn false true false false W args v W' := by
  have hW' := hW
  obtain ⟨p, q, hA, hV, rfl, hfz, hnd⟩ := hW
  rw [hp] at hA hval
  rw [hv] at hV
  obtain ⟨v0, vs0, d0, ds0, p0, q0, hargs, rfl, rfl, h0, r0⟩ := trodAll_cons hA
  obtain ⟨rfl, rfl, rfl⟩ := trodAll_nil r0
  obtain rfl : args = #[v0] := by cases args; simp_all
  obtain ⟨rfl, rfl⟩ := trodVars_none hV
  have hlt : ∀ x ∈ p0, x.block < W.heap.size := fun x hx => hW'.lt x (by simpa using hx)
  have hz0 : Sized 25 d0 := by
    intro n hn
    have := List.all_eq_true.1 hz n (DataW.weights_mem_each (j := 0) (t := 25) (d := d0) (by rw [hp]; rfl) rfl n hn)
    simpa using this
  have h0k := h0
  obtain ⟨c0, c1, c2, y0, y1, y2, n, rfl, rfl, t0, t1, t2⟩ := open_ask (hval 0 25 v0 rfl rfl) h0
  obtain ⟨ns, A, c, e0, hc0, hl0, hI, hw0⟩ := open_ints t0 (fun m hm => hz0 m (by simp [DataW.weights, DataW.weightsEach, Tryd.underlying25]; exact .inl hm))
  obtain ⟨ls, B, d, e1, hc1, hl1, hR, hw1⟩ := open_rows t1 (fun m hm => hz0 m (by simp [DataW.weights, DataW.weightsEach, Tryd.underlying25]; exact .inr (.inl hm)))
  obtain ⟨N, e2, _, hw2⟩ := DataW.trod_int Tryd.underlying3 t2
  injection e0 with e0
  injection e1 with e1
  injection e2 with e2
  subst e0 e1 e2
  refine (walk ns A c ls B d N W ⟨hI, hw0, hl0, hc0, hR, hw1, hl1, hc1⟩ hw2 hC).mono fun e W' ⟨he, hx⟩ => ?_
  subst he
  refine ⟨_, rfl, _, _, _, [], p0, [], hW', ?_, ?_, ?_, Below.frame hx _, fun h => by cases h⟩
  · rw [hr]
    simp only [List.append_nil, hs]
    exact trodAll_cons_mk (shut_bool Tryd.underlying4 _) trodAll_mk0
  · rw [hp]
    simp only [List.append_nil, hs]
    have := trodAll_cons_mk (Below.trod laidOut readAsk (of_decide_eq_true (by kernel_rfl)) h0k hx hlt) trodAll_mk0
    simpa using this
  · rw [hv]
    simp only [List.append_nil, hs]
    rfl
end Go.Proofs.YtjldokhomohdbaaDoor
