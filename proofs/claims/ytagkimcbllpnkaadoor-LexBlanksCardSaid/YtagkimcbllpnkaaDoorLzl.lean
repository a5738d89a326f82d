/- From a walk over texts to the row of a law that reads the table of classes: the table as it is laid; the argument opened, and read again behind the call. -/
import Derived.Test.YtagkimcbllpnkaaDoorLzo
import Derived.Test.YtagkimcbllpnkaaDoorLza
import Derived.LaidOnce
namespace Go.Proofs.YtagkimcbllpnkaaDoor
open Go.RowKit Go.ChangeShapes Go.WideShapes Go.ChangeAt

theorem own : ownKnob Tryd.prog.godebug = none := by kernel_rfl
theorem laidOut : laidOutB Tryd.prog = true := by kernel_rfl
theorem readAsk : Tryd.prog.readableRec 24 = true := by kernel_rfl
theorem gCls : Tryd.prog.globalNamed "almagest/lex.classes" = some 0 := by kernel_rfl
theorem tCls : (Tryd.prog.globals[0]?).map (·.type) = some 57 := by kernel_rfl
theorem c64 : Tryd.prog.cellsOf 55 = 1 := by kernel_rfl
theorem cRow : Tryd.prog.cellsOf 56 = 4 := by kernel_rfl
theorem cAll : Tryd.prog.cellsOf 57 = 24 := by kernel_rfl

abbrev laid1 : List (String × DataW Unit) := [("almagest/lex.classes", Rows.laid_almagest_lex_classes)]

section
variable {H : Type} {enc : TypeId × Value → H} {w : World} {base : Nat} {spare : Nat → Bool} {held : Bool}
theorem list4 {α : Type} {l : List α} (h : l.length = 4) : ∃ a b c d, l = [a, b, c, d] := by
  match l, h with
  | [a, b, c, d], _ => exact ⟨a, b, c, d, rfl⟩
theorem row4 {m : Nat} {cs : List Value} {x : DataW H × List MemPlace} {a b c d : Int} (h : DataW.trod enc Tryd.prog w base spare held m 56 cs = some x) (hx : x.1 = .agg [.lit (.int .u64 a), .lit (.int .u64 b), .lit (.int .u64 c), .lit (.int .u64 d)]) :
    cs = [.int .u64 a, .int .u64 b, .int .u64 c, .int .u64 d] := by
  obtain ⟨xs, m1, rfl, hx1, hlen, hn, hel⟩ := DataW.trod_array Tryd.underlying56 h
  rw [cRow] at hlen
  obtain ⟨c0, c1, c2, c3, rfl⟩ := list4 hlen
  obtain ⟨y0, y1, y2, y3, rfl⟩ := list4 hn
  rw [c64] at hel
  have f0 : DataW.trod enc Tryd.prog w base spare held m1 55 [c0] = some y0 := hel 0 (by omega)
  have f1 : DataW.trod enc Tryd.prog w base spare held m1 55 [c1] = some y1 := hel 1 (by omega)
  have f2 : DataW.trod enc Tryd.prog w base spare held m1 55 [c2] = some y2 := hel 2 (by omega)
  have f3 : DataW.trod enc Tryd.prog w base spare held m1 55 [c3] = some y3 := hel 3 (by omega)
  obtain ⟨k0, e0, rfl, _⟩ := DataW.trod_int Tryd.underlying55 f0
  obtain ⟨k1, e1, rfl, _⟩ := DataW.trod_int Tryd.underlying55 f1
  obtain ⟨k2, e2, rfl, _⟩ := DataW.trod_int Tryd.underlying55 f2
  obtain ⟨k3, e3, rfl, _⟩ := DataW.trod_int Tryd.underlying55 f3
  rw [hx1] at hx
  simp only [List.map_cons, List.map_nil, DataW.agg.injEq, List.cons.injEq, DataW.lit.injEq, Lit.int.injEq, true_and, and_true] at hx
  obtain ⟨rfl, rfl, rfl, rfl⟩ := hx
  injection e0 with e0
  injection e1 with e1
  injection e2 with e2
  injection e3 with e3
  rw [e0, e1, e2, e3]
theorem list6 {α : Type} {l : List α} (h : l.length = 6) : ∃ a b c d e f, l = [a, b, c, d, e, f] := by
  match l, h with
  | [a, b, c, d, e, f], _ => exact ⟨a, b, c, d, e, f, rfl⟩
theorem tab24 {m : Nat} {cs : List Value} {x : DataW H × List MemPlace} (h : DataW.trod enc Tryd.prog w base spare held m 57 cs = some x) (hx : x.1 = Rows.laid_almagest_lex_classes) :
    cs = clsV.map (Value.int .u64) := by
  obtain ⟨xs, m1, rfl, hx1, hlen, hn, hel⟩ := DataW.trod_array Tryd.underlying57 h
  obtain ⟨y0, y1, y2, y3, y4, y5, rfl⟩ := list6 hn
  rw [cAll] at hlen
  rw [cRow] at hel
  rw [hx1] at hx
  simp only [Rows.laid_almagest_lex_classes, List.map_cons, List.map_nil, DataW.agg.injEq, List.cons.injEq, and_true] at hx
  obtain ⟨h0, h1, h2, h3, h4, h5⟩ := hx
  have r0 := row4 (hel 0 (by omega)) h0
  have r1 := row4 (hel 1 (by omega)) h1
  have r2 := row4 (hel 2 (by omega)) h2
  have r3 := row4 (hel 3 (by omega)) h3
  have r4 := row4 (hel 4 (by omega)) h4
  have r5 := row4 (hel 5 (by omega)) h5
  have e : cs = (cs.drop 0).take 4 ++ ((cs.drop 4).take 4 ++ ((cs.drop 8).take 4 ++ ((cs.drop 12).take 4 ++ ((cs.drop 16).take 4 ++ (cs.drop 20).take 4)))) := by
    have s : ∀ k : Nat, (cs.drop k).take 4 ++ cs.drop (k + 4) = cs.drop k := fun k => by
      rw [← List.drop_drop]
      exact List.take_append_drop 4 (cs.drop k)
    have s5 : (cs.drop 20).take 4 = cs.drop 20 := List.take_of_length_le (by rw [List.length_drop]; omega)
    rw [s5, s 16, s 12, s 8, s 4, s 0, List.drop_zero]
  rw [e, r0, r1, r2, r3, r4, r5]
  rfl
end

/-- what the condition gives the walks -/
theorem cls_of_laid {W : World} (h : laidMetH Tryd.prog laid1 W) : ClsAt W := by
  rw [MakeChecks.laidMetH_plain _ _ _ (by kernel_rfl)] at h
  obtain ⟨ps, ⟨g0, t0, cs0, f0, p0, q0, hg0, ht0, hv0, hd0, _, _⟩, _, _⟩ := h
  obtain rfl := Option.some.inj (gCls.symm.trans hg0)
  obtain rfl := Option.some.inj (tCls.symm.trans ht0)
  intro i hi
  have hc := World.var?_cell hg0 hv0 i
  have := tab24 hd0 rfl
  have hl : i < clsV.length := hi
  rw [hc, ← Array.getElem?_toList, this, List.getElem?_map, List.getElem?_eq_getElem hl, List.getD_eq_getElem?_getD, List.getElem?_eq_getElem hl]
  rfl

/-- the door's own heap meets the condition -/
theorem door_met (os : Os) (args : Array Value) : laidMetH Tryd.prog laid1 ((World.doorLaid Tryd.prog 400 os).forCall (fun _ _ => 0) ⟨#[], args, []⟩).memory :=
  laidMetH_of_parts3 (fuel := 8) (laidMet_of_run' 8 (by kernel_rfl) (by kernel_rfl)) (by kernel_rfl) (by kernel_rfl)

/-- what a law's walk is to give -/
def LexWalk (f : FuncId) : Prop := ∀ (ss : List ByteArray) (A : Option Addr) (c : Nat) (w : World), ss.length * 16 ≤ 140737488351232 → StrsAt w ss A → (A = none → c = 0) → ClsAt w →
    Calls Tryd.prog f #[.agg #[.slice A ss.length c]] w fun e w' => e = .returned (.bool true) ∧ Ext w w'

set_option maxRecDepth 100000 in
theorem lex_contract {f : FuncId} {fn : Func} {s : ChangeSpec} (walk : LexWalk f) (hp : fn.params = #[24]) (hr : fn.resultTypes = #[4]) (hv : s.vars = [])
    (H : Type) (hs : ∀ d : DataW H, s.fn H [d] = { results := [.lit (.bool true)], args := [d] })
    (enc : TypeId × Value → H) (W : World) (base : Nat) (args : Array Value) (ds gs : List (DataW H)) (before : List MemPlace)
    (hval : ∀ (j : Nat) t v, fn.params[j]? = some t → args[j]? = some v → Value.okWide Tryd.prog W .any base t v)
    (hW : DataW.Whole enc Tryd.prog fn.params.toList s.vars false W args.toList ds gs before)
    (hz : (DataW.weightsEach Tryd.prog (fn.params.toList ++ s.plain.varTypes Tryd.prog) (ds ++ gs)).all (· ≤ reachBytes) = true) (hC : ClsAt W) :
    Calls Tryd.prog f args W fun e W' => ∃ v, e = .returned v ∧ s.post enc Tryd.prog fn false true false false W args v W' := by
  have hW' := hW
  obtain ⟨p, q, hA, hV, rfl, hfz, hnd⟩ := hW
  rw [hp] at hA hval
  rw [hv] at hV
  obtain ⟨v0, vs0, d0, ds0, p0, q0, hargs, rfl, rfl, h0, r0⟩ := trodAll_cons hA
  obtain ⟨rfl, rfl, rfl⟩ := trodAll_nil r0
  obtain rfl : args = #[v0] := by cases args; simp_all
  obtain ⟨rfl, rfl⟩ := trodVars_none hV
  have hlt : ∀ x ∈ p0, x.block < W.heap.size := fun x hx => hW'.lt x (by simpa using hx)
  have hz0 : Sized 24 d0 := by
    intro n hn
    have := List.all_eq_true.1 hz n (DataW.weights_mem_each (j := 0) (t := 24) (d := d0) (by rw [hp]; rfl) rfl n hn)
    simpa using this
  have h0k := h0
  obtain ⟨c0, y0, n, rfl, rfl, t0⟩ := open_ask (hval 0 24 v0 rfl rfl) h0
  obtain ⟨ss, A, c, e0, _, hl, hS, hA'⟩ := open_strs t0 (fun m hm => hz0 m (by simp [DataW.weights, DataW.weightsEach, Tryd.underlying24]; exact hm))
  injection e0 with e0
  subst e0
  refine (walk ss A c W hl hS hA' hC).mono fun e W' ⟨he, hx⟩ => ?_
  subst he
  refine ⟨_, rfl, _, _, _, [], p0, [], hW', ?_, ?_, ?_, Below.frame hx _, fun h => by cases h⟩
  · rw [hr]
    simp only [List.append_nil, hs]
    exact trodAll_cons_mk (shut_bool Tryd.underlying4 _) trodAll_mk0
  · rw [hp]
    simp only [List.append_nil, hs]
    have := trodAll_cons_mk (Below.trod laidOut readAsk (of_decide_eq_true (by kernel_rfl)) h0k hx hlt) trodAll_mk0
    simpa using this
  · rw [hv]
    simp only [List.append_nil, hs]
    rfl
end Go.Proofs.YtagkimcbllpnkaaDoor
