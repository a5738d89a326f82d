/- From a walk over terms and texts to the row of a law: the argument opened, and read again behind the call. -/
import Derived.Test.YtfcceomhdngneaaOpen
import Derived.ProofKit
namespace Go.Proofs.Ytfcceomhdngneaa
open Go.RowKit Go.ChangeShapes Go.WideShapes Go.ChangeAt

theorem own : ownKnob Try.prog.godebug = none := by kernel_rfl
theorem laidOut : laidOutB Try.prog = true := by kernel_rfl
theorem readAsk : Try.prog.readableRec 25 = true := by kernel_rfl
theorem cellsAsk : Try.prog.cellsOf 25 = 2 := by kernel_rfl

/-- what a law's walk is to give -/
def AskWalk (f : FuncId) : Prop := ∀ (ts : List Tm) (ss : List ByteArray) (A B : Option Addr) (c d : Nat) (w : World), ts.length * 56 ≤ 140737488351232 → TmsAt w ts A → ss.length * 16 ≤ 140737488351232 → StrsAt w ss B → (B = none → d = 0) →
    Calls Try.prog f #[.agg #[.slice A ts.length c, .slice B ss.length d]] w fun e w' => e = .returned (.bool true) ∧ Ext w w'

set_option maxRecDepth 100000 in
theorem ask_contract {f : FuncId} {fn : Func} {s : ChangeSpec} (walk : AskWalk f) (hp : fn.params = #[25]) (hr : fn.resultTypes = #[4]) (hv : s.vars = [])
    (H : Type) (hs : ∀ d : DataW H, s.fn H [d] = { results := [.lit (.bool true)], args := [d] })
    (enc : TypeId × Value → H) (W : World) (base : Nat) (args : Array Value) (ds gs : List (DataW H)) (before : List MemPlace)
    (hval : ∀ (j : Nat) t v, fn.params[j]? = some t → args[j]? = some v → Value.okWide Try.prog W .any base t v)
    (hW : DataW.Whole enc Try.prog fn.params.toList s.vars false W args.toList ds gs before)
    (hz : (DataW.weightsEach Try.prog (fn.params.toList ++ s.plain.varTypes Try.prog) (ds ++ gs)).all (· ≤ reachBytes) = true) :
    Calls Try.prog f args W fun e W' => ∃ v, e = .returned v ∧ s.post enc Try.prog fn false true false false W args v W' := by
  have hW' := hW
  obtain ⟨p, q, hA, hV, rfl, hfz, hnd⟩ := hW
  rw [hp] at hA hval
  rw [hv] at hV
  obtain ⟨v0, vs0, d0, ds0, p0, q0, hargs, rfl, rfl, h0, r0⟩ := trodAll_cons hA
  obtain ⟨rfl, rfl, rfl⟩ := trodAll_nil r0
  obtain rfl : args = #[v0] := by cases args; simp_all
  obtain ⟨rfl, rfl⟩ := trodVars_none hV
  have hlt : ∀ x ∈ p0, x.block < W.heap.size := fun x hx => hW'.lt x (by simpa using hx)
  have hz0 : Sized 25 d0 := by
    intro n hn
    have := List.all_eq_true.1 hz n (DataW.weights_mem_each (j := 0) (t := 25) (d := d0) (by rw [hp]; rfl) rfl n hn)
    simpa using this
  have h0k := h0
  obtain ⟨c0, c1, y0, y1, n, rfl, rfl, _, t0, t1⟩ := Go.Joins.open_agg2 Try.underlying25 (by kernel_rfl) cellsAsk (hval 0 25 v0 rfl rfl) h0
  obtain ⟨ts, A, c, e0, _, hl, hT⟩ := open_tms t0 (fun m hm => hz0 m (by simp [DataW.weights, DataW.weightsEach, Try.underlying25]; exact .inl hm))
  obtain ⟨ss, B, d, e1, _, hm, hS, hB⟩ := open_strs t1 (fun m hm => hz0 m (by simp [DataW.weights, DataW.weightsEach, Try.underlying25]; exact .inr hm))
  injection e0 with e0
  injection e1 with e1
  subst e0 e1
  refine (walk ts ss A B c d W hl hT hm hS hB).mono fun e W' ⟨he, hx⟩ => ?_
  subst he
  refine ⟨_, rfl, _, _, _, [], p0, [], hW', ?_, ?_, ?_, Below.frame hx _, fun h => by cases h⟩
  · rw [hr]
    simp only [List.append_nil, hs]
    exact trodAll_cons_mk (shut_bool Try.underlying4 _) trodAll_mk0
  · rw [hp]
    simp only [List.append_nil, hs]
    have := trodAll_cons_mk (Below.trod laidOut readAsk (of_decide_eq_true (by kernel_rfl)) h0k hx hlt) trodAll_mk0
    simpa using this
  · rw [hv]
    simp only [List.append_nil, hs]
    rfl
end Go.Proofs.Ytfcceomhdngneaa
