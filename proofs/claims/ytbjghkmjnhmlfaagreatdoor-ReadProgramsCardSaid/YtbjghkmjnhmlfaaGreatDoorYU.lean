/- Joined: Lzo, Pgv. -/
import Derived.Test.YtbjghkmjnhmlfaaGreatDoorYA
import Derived.Deep.Slices
import Derived.SizedLaws
import Derived.OpenShut
import Derived.Carry
import Derived.Lib.SmallJoins
import Derived.ProofKit
import Derived.LaidMore
import Derived.Stop.Joined
import Derived.Test.YtbjghkmjnhmlfaaGreatDoorPgr
import Derived.Test.YtbjghkmjnhmlfaaGreatDoorRows
import Derived.LaidOnce

/- What comes in, opened: a slice of texts, as it is read. -/
namespace Go.Proofs.YtbjghkmjnhmlfaaGreatDoor
open Go.RowKit Go.ChangeShapes Go.WideShapes Go.ChangeAt
set_option maxRecDepth 100000

theorem cellsStr : Tryz.prog.cellsOf 9 = 1 := by kernel_rfl
theorem bytesStr : Tryz.prog.bytesOf 9 = 16 := by kernel_rfl
theorem cellsStrs : Tryz.prog.cellsOf 22 = 1 := by kernel_rfl

/-- no part takes more than the form lets one take -/
def Sized {H : Type} (t : TypeId) (d : DataW H) : Prop := ∀ n ∈ d.weights Tryz.prog t, n ≤ reachBytes

theorem reach_eq : reachBytes = 140737488351232 := by decide

section
variable {H : Type} {enc : TypeId × Value → H} {w : World} {base : Nat} {spare : Nat → Bool} {held : Bool}

theorem weightsAll_mem {t : TypeId} : ∀ {l : List (DataW H)} {d : DataW H}, d ∈ l → ∀ n ∈ d.weights Tryz.prog t, n ∈ DataW.weightsAll Tryz.prog t l
  | a :: l, d, h, n, hn => by
    simp only [DataW.weightsAll, List.mem_append]
    rcases List.mem_cons.1 h with e | e
    · subst e; exact .inl hn
    · exact .inr (weightsAll_mem e n hn)

theorem spot_none {a : Addr} {v : Value} (h : w.cell? a = some v) : a = ⟨a.block, a.off, none⟩ := by
  obtain ⟨b, o, s⟩ := a
  cases s with
  | none => rfl
  | some s =>
    simp only [World.cell?] at h
    split at h <;> simp_all
theorem add_addr (b o i : Nat) : (⟨b, o, none⟩ : Addr).add i = ⟨b, o + i, none⟩ := by
  unfold Addr.add
  split
  · rename_i h; subst h; rfl
  · rfl

theorem open_strs {fuel : Nat} {cs : List Value} {x : DataW H × List MemPlace} (h : DataW.trod enc Tryz.prog w base spare held fuel 22 cs = some x) (hz : Sized 22 x.1) :
    ∃ (ss : List ByteArray) (A : Option Addr) (c : Nat), cs = [.slice A ss.length c] ∧ ss.length ≤ c ∧ ss.length * 16 ≤ 140737488351232 ∧ StrsAt w ss A ∧ (A = none → c = 0) := by
  rcases DataW.trod_slice Tryz.underlying22 h with ⟨rfl, rfl⟩ | ⟨a, len, cap, elems, rest, n, rfl, rfl, rfl, hb, hl, hm, hlen, hel, _, _⟩
  · exact ⟨[], none, 0, rfl, Nat.le_refl _, by simp, fun i hi => absurd hi (by simp), fun _ => rfl⟩
  · have hsz : (elems.length + rest.length) * 16 ≤ 140737488351232 := by
      have := hz ((elems.length + rest.length) * 16) (by simp [DataW.weights, Tryz.underlying22, bytesStr])
      rwa [reach_eq] at this
    have each : ∀ i, i < len → ∃ s : ByteArray, w.cell? (a.add i) = some (.string s) ∧ s.size ≤ 140737488351232 := by
      intro i hi
      have h1 := hel i hi
      rw [cellsStr, Nat.mul_one] at h1
      have hi2 : i < elems.length := by omega
      rw [List.getElem?_eq_getElem hi2] at h1
      obtain ⟨cs', hc, ht⟩ := Option.bind_eq_some_iff.1 h1
      obtain ⟨_, hcl, hat⟩ := World.cells?_some hc
      obtain ⟨s, rfl, hx, _⟩ := DataW.trod_string Tryz.underlying9 ht
      have hs : s.size ≤ 140737488351232 := by
        have := hz s.size (by
          simp only [DataW.weights, Tryz.underlying22, List.mem_cons, List.mem_append]
          refine .inr (.inl (weightsAll_mem (d := elems[i].1) (List.mem_map.2 ⟨_, List.getElem_mem hi2, rfl⟩) _ ?_))
          rw [hx]; simp [DataW.weights])
        rwa [reach_eq] at this
      refine ⟨s, ?_, hs⟩
      have := hat 0 (by omega)
      simpa [Addr.add] using this
    obtain ⟨f, hf⟩ := Go.Deep.choose_lt (α := ByteArray) (h := each)
    have hlm : ((List.range len).map f).length = len := by simp
    refine ⟨(List.range len).map f, some a, cap, by rw [hlm], by rw [hlm]; exact hl, by rw [hlm]; omega, fun i hi => ?_, fun e => by cases e⟩
    rw [hlm] at hi
    have ea : a = ⟨a.block, a.off, none⟩ := spot_none (by have := (hf 0 (by omega)).1; simpa [Addr.add] using this)
    have h0 := hf i hi
    refine ⟨a.block, a.off, by rw [← ea], ?_, by simpa using h0.2⟩
    have := h0.1
    rw [ea, add_addr] at this
    simpa using this

theorem list1 {α : Type} {l : List α} (h : l.length = 1) : ∃ a, l = [a] := by
  match l, h with
  | [a], _ => exact ⟨a, rfl⟩
theorem cellsAsk : Tryz.prog.cellsOf 24 = 1 := by kernel_rfl
/-- the argument: a struct of one slice -/
theorem open_ask {r : Reach} {b0 : Nat} {v : Value} {d : DataW H} {p : List MemPlace} (hv : Value.okWide Tryz.prog w r b0 24 v) (h : DataW.Trod enc Tryz.prog w base spare held 24 v d p) :
    ∃ (c0 : Value) (y0 : DataW H × List MemPlace) (n : Nat), v = .agg #[c0] ∧ d = .agg [y0.1] ∧ DataW.trod enc Tryz.prog w base spare held n 22 [c0] = some y0 := by
  obtain ⟨cs, rfl, hsz⟩ := okWide_struct Tryz.underlying24 hv
  obtain ⟨fuel, hf⟩ := h
  obtain ⟨xs, n, rfl, hx, hlen, hxl, hel⟩ := DataW.trod_struct Tryz.underlying24 hf
  have hxl1 : xs.length = 1 := hxl
  obtain ⟨y0, rfl⟩ := list1 hxl1
  obtain ⟨l⟩ := cs
  have hl1 : l.length = 1 := by rw [cellsAsk] at hsz; exact hsz
  obtain ⟨c0, rfl⟩ := list1 hl1
  have f0 := hel 0 _ rfl
  have f0' : DataW.trod enc Tryz.prog w base spare held n 22 (([c0].drop 0).take (Tryz.prog.cellsOf 22)) = some y0 := f0
  rw [cellsStrs] at f0'
  simp only [Prod.mk.injEq] at hx
  exact ⟨c0, y0, n, rfl, hx.1, f0'⟩
end
end Go.Proofs.YtbjghkmjnhmlfaaGreatDoor

/- From a walk over texts to the row of a law that reads three tables: the tables as they are laid; the argument opened, and read again behind the call. -/
namespace Go.Proofs.YtbjghkmjnhmlfaaGreatDoor
open Go.RowKit Go.ChangeShapes Go.WideShapes Go.ChangeAt
set_option maxRecDepth 100000

theorem own : ownKnob Tryz.prog.godebug = none := by kernel_rfl
theorem laidOut : laidOutB Tryz.prog = true := by kernel_rfl
theorem readAsk : Tryz.prog.readableRec 24 = true := by kernel_rfl
theorem gCls : Tryz.prog.globalNamed "almagest/lex.classes" = some 1 := by kernel_rfl
theorem tCls : (Tryz.prog.globals[1]?).map (·.type) = some 157 := by kernel_rfl
theorem c64 : Tryz.prog.cellsOf 85 = 1 := by kernel_rfl
theorem cRow : Tryz.prog.cellsOf 156 = 4 := by kernel_rfl
theorem cAll : Tryz.prog.cellsOf 157 = 24 := by kernel_rfl

theorem gTxt : Tryz.prog.globalNamed "almagest/read.texts" = some 0 := by kernel_rfl
theorem tTxt : (Tryz.prog.globals[0]?).map (·.type) = some 142 := by kernel_rfl
theorem gBit : Tryz.prog.globalNamed "math/bits.deBruijn64tab" = some 2 := by kernel_rfl
theorem tBit : (Tryz.prog.globals[2]?).map (·.type) = some 184 := by kernel_rfl
theorem cU8 : Tryz.prog.cellsOf 5 = 1 := by kernel_rfl
theorem cTxt : Tryz.prog.cellsOf 142 = 34 := by kernel_rfl
theorem cBit : Tryz.prog.cellsOf 184 = 64 := by kernel_rfl
abbrev laid3 : List (String × DataW Unit) := [("math/bits.deBruijn64tab", Rows.laid_math_bits_deBruijn64tab), ("almagest/lex.classes", Rows.laid_almagest_lex_classes), ("almagest/read.texts", Rows.laid_almagest_read_texts)]

section
variable {H : Type} {enc : TypeId × Value → H} {w : World} {base : Nat} {spare : Nat → Bool} {held : Bool}
theorem list4 {α : Type} {l : List α} (h : l.length = 4) : ∃ a b c d, l = [a, b, c, d] := by
  match l, h with
  | [a, b, c, d], _ => exact ⟨a, b, c, d, rfl⟩
theorem row4 {m : Nat} {cs : List Value} {x : DataW H × List MemPlace} {a b c d : Int} (h : DataW.trod enc Tryz.prog w base spare held m 156 cs = some x) (hx : x.1 = .agg [.lit (.int .u64 a), .lit (.int .u64 b), .lit (.int .u64 c), .lit (.int .u64 d)]) :
    cs = [.int .u64 a, .int .u64 b, .int .u64 c, .int .u64 d] := by
  obtain ⟨xs, m1, rfl, hx1, hlen, hn, hel⟩ := DataW.trod_array Tryz.underlying156 h
  rw [cRow] at hlen
  obtain ⟨c0, c1, c2, c3, rfl⟩ := list4 hlen
  obtain ⟨y0, y1, y2, y3, rfl⟩ := list4 hn
  rw [c64] at hel
  have f0 : DataW.trod enc Tryz.prog w base spare held m1 85 [c0] = some y0 := hel 0 (by omega)
  have f1 : DataW.trod enc Tryz.prog w base spare held m1 85 [c1] = some y1 := hel 1 (by omega)
  have f2 : DataW.trod enc Tryz.prog w base spare held m1 85 [c2] = some y2 := hel 2 (by omega)
  have f3 : DataW.trod enc Tryz.prog w base spare held m1 85 [c3] = some y3 := hel 3 (by omega)
  obtain ⟨k0, e0, rfl, _⟩ := DataW.trod_int Tryz.underlying85 f0
  obtain ⟨k1, e1, rfl, _⟩ := DataW.trod_int Tryz.underlying85 f1
  obtain ⟨k2, e2, rfl, _⟩ := DataW.trod_int Tryz.underlying85 f2
  obtain ⟨k3, e3, rfl, _⟩ := DataW.trod_int Tryz.underlying85 f3
  rw [hx1] at hx
  simp only [List.map_cons, List.map_nil, DataW.agg.injEq, List.cons.injEq, DataW.lit.injEq, Lit.int.injEq, true_and, and_true] at hx
  obtain ⟨rfl, rfl, rfl, rfl⟩ := hx
  injection e0 with e0
  injection e1 with e1
  injection e2 with e2
  injection e3 with e3
  rw [e0, e1, e2, e3]
theorem list6 {α : Type} {l : List α} (h : l.length = 6) : ∃ a b c d e f, l = [a, b, c, d, e, f] := by
  match l, h with
  | [a, b, c, d, e, f], _ => exact ⟨a, b, c, d, e, f, rfl⟩
theorem tab24 {m : Nat} {cs : List Value} {x : DataW H × List MemPlace} (h : DataW.trod enc Tryz.prog w base spare held m 157 cs = some x) (hx : x.1 = Rows.laid_almagest_lex_classes) :
    cs = clsV.map (Value.int .u64) := by
  obtain ⟨xs, m1, rfl, hx1, hlen, hn, hel⟩ := DataW.trod_array Tryz.underlying157 h
  obtain ⟨y0, y1, y2, y3, y4, y5, rfl⟩ := list6 hn
  rw [cAll] at hlen
  rw [cRow] at hel
  rw [hx1] at hx
  simp only [Rows.laid_almagest_lex_classes, List.map_cons, List.map_nil, DataW.agg.injEq, List.cons.injEq, and_true] at hx
  obtain ⟨h0, h1, h2, h3, h4, h5⟩ := hx
  have r0 := row4 (hel 0 (by omega)) h0
  have r1 := row4 (hel 1 (by omega)) h1
  have r2 := row4 (hel 2 (by omega)) h2
  have r3 := row4 (hel 3 (by omega)) h3
  have r4 := row4 (hel 4 (by omega)) h4
  have r5 := row4 (hel 5 (by omega)) h5
  have e : cs = (cs.drop 0).take 4 ++ ((cs.drop 4).take 4 ++ ((cs.drop 8).take 4 ++ ((cs.drop 12).take 4 ++ ((cs.drop 16).take 4 ++ (cs.drop 20).take 4)))) := by
    have s : ∀ k : Nat, (cs.drop k).take 4 ++ cs.drop (k + 4) = cs.drop k := fun k => by
      rw [← List.drop_drop]
      exact List.take_append_drop 4 (cs.drop k)
    have s5 : (cs.drop 20).take 4 = cs.drop 20 := List.take_of_length_le (by rw [List.length_drop]; omega)
    rw [s5, s 16, s 12, s 8, s 4, s 0, List.drop_zero]
  rw [e, r0, r1, r2, r3, r4, r5]
  rfl
/-- one cell's value out of what is laid -/
def litV {H : Type} : DataW H → Value
  | .lit (.int k n) => .int k n
  | .lit (.string bs) => .string ⟨bs.toArray⟩
  | _ => .bool false
theorem drop_one {α : Type} {l : List α} {i : Nat} {x : α} (h : (l.drop (i * 1)).take 1 = [x]) : l[i]? = some x := by
  rw [Nat.mul_one] at h
  have : ((l.drop i).take 1)[0]? = some x := by rw [h]; rfl
  simpa [List.getElem?_take, List.getElem?_drop] using this
theorem row_u8 {m : Nat} {cs : List Value} {x : DataW H × List MemPlace} {ds : List (DataW H)} (h : DataW.trod enc Tryz.prog w base spare held m 184 cs = some x) (hx : x.1 = .agg ds) : ∀ i, i < 64 → cs[i]? = (ds.map litV)[i]? := by
  obtain ⟨xs, m1, rfl, hx1, hlen, hn, hel⟩ := DataW.trod_array Tryz.underlying184 h
  rw [hx1] at hx
  simp only [DataW.agg.injEq] at hx
  intro i hi
  have h1 := hel i hi
  rw [cU8, List.getElem?_eq_getElem (by omega : i < xs.length)] at h1
  obtain ⟨n, e1, e2, _⟩ := DataW.trod_int Tryz.underlying5 h1
  rw [drop_one e1, ← hx, List.map_map, List.getElem?_map, List.getElem?_eq_getElem (by omega : i < xs.length)]
  simp only [Option.map_some, Function.comp, e2, litV]
theorem row_str {m : Nat} {cs : List Value} {x : DataW H × List MemPlace} {ds : List (DataW H)} (h : DataW.trod enc Tryz.prog w base spare held m 142 cs = some x) (hx : x.1 = .agg ds) : ∀ i, i < 34 → cs[i]? = (ds.map litV)[i]? := by
  obtain ⟨xs, m1, rfl, hx1, hlen, hn, hel⟩ := DataW.trod_array Tryz.underlying142 h
  rw [hx1] at hx
  simp only [DataW.agg.injEq] at hx
  intro i hi
  have h1 := hel i hi
  rw [cellsStr, List.getElem?_eq_getElem (by omega : i < xs.length)] at h1
  obtain ⟨n, e1, e2, _⟩ := DataW.trod_string Tryz.underlying9 h1
  rw [drop_one e1, ← hx, List.map_map, List.getElem?_map, List.getElem?_eq_getElem (by omega : i < xs.length)]
  simp only [Option.map_some, Function.comp, e2, litV]
end
def aggL {H : Type} : DataW H → List (DataW H)
  | .agg l => l
  | _ => []
theorem txt_tab : ((aggL (Rows.laid_almagest_read_texts (H := Unit))).map litV) = txtCs := by kernel_rfl
def tzL : List Nat := [0, 1, 3, 7, 15, 31, 63, 62, 61, 59, 55, 47, 30, 60, 57, 51, 39, 14, 29, 58, 53, 43, 23, 46, 28, 56, 49, 35, 6, 13, 27, 54, 45, 26, 52, 41, 19, 38]
theorem tz_tab : ∀ k : Fin 38, tzI k.1 = tzL.getD k.1 0 := by decide
theorem bit_tab : (tzL.map fun i => ((aggL (Rows.laid_math_bits_deBruijn64tab (H := Unit))).map litV)[i]?) = (List.range 38).map fun (k : Nat) => some (Value.int .u8 (k : Int)) := by kernel_rfl
theorem tzL_len : tzL.length = 38 := by decide
theorem bit_at {k : Nat} (h : k < 38) : ((aggL (Rows.laid_math_bits_deBruijn64tab (H := Unit))).map litV)[tzI k]? = some (Value.int .u8 k) := by
  obtain ⟨D, hD⟩ : ∃ D, D = ((aggL (Rows.laid_math_bits_deBruijn64tab (H := Unit))).map litV) := ⟨_, rfl⟩
  have h0 := bit_tab
  rw [← hD] at h0 ⊢
  clear hD
  have h1 : (tzL.map fun i => D[i]?)[k]? = ((List.range 38).map fun (k : Nat) => some (Value.int .u8 (k : Int)))[k]? := by rw [h0]
  have hl : k < tzL.length := by rw [tzL_len]; exact h
  rw [List.getElem?_map, List.getElem?_map, List.getElem?_range h, List.getElem?_eq_getElem hl] at h1
  simp only [Option.map_some, Option.some.injEq] at h1
  have h2 : tzI k = tzL[k] := by
    have := tz_tab ⟨k, h⟩
    simp only at this
    rw [this, List.getD_eq_getElem?_getD, List.getElem?_eq_getElem hl]
    rfl
  rw [h2]
  exact h1
/-- what the condition gives the walks -/
theorem tabs_of_laid {W : World} (h : laidMetH Tryz.prog laid3 W) : ClsAt W ∧ TxtAt W ∧ BitAt W := by
  rw [MakeChecks.laidMetH_plain _ _ _ (by kernel_rfl)] at h
  obtain ⟨ps, ⟨g2, t2, cs2, f2, p2, q2, hg2, ht2, hv2, hd2, ⟨g0, t0, cs0, f0, p0, q0, hg0, ht0, hv0, hd0, ⟨g1, t1, cs1, f1, p1, q1, hg1, ht1, hv1, hd1, _, _⟩, _⟩, _⟩, _, _⟩ := h
  obtain rfl := Option.some.inj (gCls.symm.trans hg0)
  obtain rfl := Option.some.inj (tCls.symm.trans ht0)
  obtain rfl := Option.some.inj (gTxt.symm.trans hg1)
  obtain rfl := Option.some.inj (tTxt.symm.trans ht1)
  obtain rfl := Option.some.inj (gBit.symm.trans hg2)
  obtain rfl := Option.some.inj (tBit.symm.trans ht2)
  refine ⟨fun i hi => ?_, fun i hi => ?_, fun k hk => ?_⟩
  · have hc := World.var?_cell hg0 hv0 i
    have := tab24 hd0 rfl
    have hl : i < clsV.length := hi
    rw [hc, ← Array.getElem?_toList, this, List.getElem?_map, List.getElem?_eq_getElem hl, List.getD_eq_getElem?_getD, List.getElem?_eq_getElem hl]
    rfl
  · have hc := World.var?_cell hg1 hv1 i
    have := row_str hd1 (ds := aggL (Rows.laid_almagest_read_texts (H := Unit))) rfl i hi
    rw [hc, ← Array.getElem?_toList, this, txt_tab]
  · have hc := World.var?_cell hg2 hv2 (tzI k)
    have := row_u8 hd2 (ds := aggL (Rows.laid_math_bits_deBruijn64tab (H := Unit))) rfl (tzI k) (tzI_lt k)
    rw [hc, ← Array.getElem?_toList, this, bit_at hk]
/-- the door's own heap meets the condition -/
theorem door_met3 (os : Os) (args : Array Value) : laidMetH Tryz.prog laid3 ((World.doorLaid Tryz.prog 400 os).forCall (fun _ _ => 0) ⟨#[], args, []⟩).memory :=
  laidMetH_of_parts3 (fuel := 8) (laidMet_of_run' 8 (by kernel_rfl) (by kernel_rfl)) (by kernel_rfl) (by kernel_rfl)

/-- what a law's walk is to give -/
def ReadWalk (f : FuncId) : Prop := ∀ (ss : List ByteArray) (A : Option Addr) (c : Nat) (w : World), ss.length * 16 ≤ 140737488351232 → ss.length ≤ c → StrsAt w ss A → (A = none → c = 0) → ClsAt w ∧ TxtAt w ∧ BitAt w →
    Calls Tryz.prog f #[.agg #[.slice A ss.length c]] w fun e w' => e = .returned (.bool true) ∧ Ext w w'

set_option maxRecDepth 100000 in
theorem read_contract {f : FuncId} {fn : Func} {s : ChangeSpec} (walk : ReadWalk f) (hp : fn.params = #[24]) (hr : fn.resultTypes = #[4]) (hv : s.vars = [])
    (H : Type) (hs : ∀ d : DataW H, s.fn H [d] = { results := [.lit (.bool true)], args := [d] })
    (enc : TypeId × Value → H) (W : World) (base : Nat) (args : Array Value) (ds gs : List (DataW H)) (before : List MemPlace)
    (hval : ∀ (j : Nat) t v, fn.params[j]? = some t → args[j]? = some v → Value.okWide Tryz.prog W .any base t v)
    (hW : DataW.Whole enc Tryz.prog fn.params.toList s.vars false W args.toList ds gs before)
    (hz : (DataW.weightsEach Tryz.prog (fn.params.toList ++ s.plain.varTypes Tryz.prog) (ds ++ gs)).all (· ≤ reachBytes) = true) (hC : ClsAt W ∧ TxtAt W ∧ BitAt W) :
    Calls Tryz.prog f args W fun e W' => ∃ v, e = .returned v ∧ s.post enc Tryz.prog fn false true false false W args v W' := by
  have hW' := hW
  obtain ⟨p, q, hA, hV, rfl, hfz, hnd⟩ := hW
  rw [hp] at hA hval
  rw [hv] at hV
  obtain ⟨v0, vs0, d0, ds0, p0, q0, hargs, rfl, rfl, h0, r0⟩ := trodAll_cons hA
  obtain ⟨rfl, rfl, rfl⟩ := trodAll_nil r0
  obtain rfl : args = #[v0] := by cases args; simp_all
  obtain ⟨rfl, rfl⟩ := trodVars_none hV
  have hlt : ∀ x ∈ p0, x.block < W.heap.size := fun x hx => hW'.lt x (by simpa using hx)
  have hz0 : Sized 24 d0 := by
    intro n hn
    have := List.all_eq_true.1 hz n (DataW.weights_mem_each (j := 0) (t := 24) (d := d0) (by rw [hp]; rfl) rfl n hn)
    simpa using this
  have h0k := h0
  obtain ⟨c0, y0, n, rfl, rfl, t0⟩ := open_ask (hval 0 24 v0 rfl rfl) h0
  obtain ⟨ss, A, c, e0, hlc, hl, hS, hA'⟩ := open_strs t0 (fun m hm => hz0 m (by simp [DataW.weights, DataW.weightsEach, Tryz.underlying24]; exact hm))
  injection e0 with e0
  subst e0
  refine (walk ss A c W hl hlc hS hA' hC).mono fun e W' ⟨he, hx⟩ => ?_
  subst he
  refine ⟨_, rfl, _, _, _, [], p0, [], hW', ?_, ?_, ?_, Below.frame hx _, fun h => by cases h⟩
  · rw [hr]
    simp only [List.append_nil, hs]
    exact trodAll_cons_mk (shut_bool Tryz.underlying4 _) trodAll_mk0
  · rw [hp]
    simp only [List.append_nil, hs]
    have := trodAll_cons_mk (Below.trod laidOut readAsk (of_decide_eq_true (by kernel_rfl)) h0k hx hlt) trodAll_mk0
    simpa using this
  · rw [hv]
    simp only [List.append_nil, hs]
    rfl
end Go.Proofs.YtbjghkmjnhmlfaaGreatDoor
