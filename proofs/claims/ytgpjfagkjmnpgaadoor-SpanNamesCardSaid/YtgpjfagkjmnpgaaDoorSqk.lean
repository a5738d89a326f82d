/- Names as keys of a map; span.keyOf. -/
import Derived.Test.YtgpjfagkjmnpgaaDoorSqg
import Derived.DeepKeys4
import Derived.Maps.RangeWalk
import Derived.Maps.OwnSet
import Derived.Deep.MidRow
import Derived.Lib.LazyBuf
namespace Go.Proofs.YtgpjfagkjmnpgaaDoor
open Go.RowKit Go.Maps

theorem laidOutK : laidOutB Tryd.prog = true := by kernel_rfl
theorem types3 : ∃ m, Tryd.prog.types.size = m + 3 := ⟨Tryd.prog.types.size - 3, by have : 3 ≤ Tryd.prog.types.size := of_decide_eq_true (by kernel_rfl); omega⟩
theorem byte_lt (b : UInt8) : b.toNat < 256 := by have := b.toNat_lt; omega
theorem name_ext {s t : ByteArray} (h : s.data.toList = t.data.toList) : s = t := by
  obtain ⟨a⟩ := s
  obtain ⟨b⟩ := t
  have e : a = b := Array.toList_inj.1 h
  rw [e]

/-- outside of F nothing that was there has turned -/
structure Chg (F : Nat → Prop) (w w' : World) : Prop where
  os : w'.os = w.os
  tape : w'.tape = w.tape
  output : w'.output = w.output
  size : w.heap.size ≤ w'.heap.size
  block : ∀ k, k < w.heap.size → ¬ F k → w'.heap[k]? = w.heap[k]?

theorem Chg.of_ext {F : Nat → Prop} {w w' : World} (h : Ext w w') : Chg F w w' := ⟨h.os, h.tape, h.output, h.size, fun k hk _ => h.block k hk⟩
theorem Chg.refl (F : Nat → Prop) (w : World) : Chg F w w := Chg.of_ext (Ext.refl w)
theorem Chg.trans {F : Nat → Prop} {a b c : World} (h : Chg F a b) (k : Chg F b c) : Chg F a c :=
  ⟨k.os.trans h.os, k.tape.trans h.tape, k.output.trans h.output, Nat.le_trans h.size k.size, fun i hi hf => (k.block i (Nat.lt_of_lt_of_le hi h.size) hf).trans (h.block i hi hf)⟩
theorem Chg.weak {F F' : Nat → Prop} {w w' : World} (h : Chg F w w') (k : ∀ b, F b → F' b) : Chg F' w w' := ⟨h.os, h.tape, h.output, h.size, fun i hi hf => h.block i hi (fun x => hf (k i x))⟩
theorem Chg.cell {F : Nat → Prop} {w w' : World} (h : Chg F w w') {p : Addr} {v : Value} (hc : w.cell? p = some v) (hf : ¬ F p.block) : w'.cell? p = some v :=
  (World.cell?_of_block (w := w) (h.block p.block (World.block_lt_of_cell? w _ hc) hf)).trans hc
/-- what is changed lies behind w's end -/
theorem Chg.ext_of {F : Nat → Prop} {w w1 w' : World} (h : Ext w w1) (k : Chg F w1 w') (hf : ∀ b, F b → w.heap.size ≤ b) : Ext w w' :=
  ⟨k.os.trans h.os, k.tape.trans h.tape, k.output.trans h.output, Nat.le_trans h.size k.size, fun i hi => (k.block i (Nat.lt_of_lt_of_le hi h.size) (fun x => by have := hf i x; omega)).trans (h.block i hi)⟩
theorem Chg.drew {F : Nat → Prop} {a w : World} (h : Chg F a w) : Chg F a w.drew := ⟨h.os, h.tape, h.output, h.size, h.block⟩

theorem Chg.of_grown {w w' : World} {b : Nat} (h : w.grownBy w' (some b)) : Chg (· = b) w w' := ⟨h.os, h.tape, h.output, h.size, fun i hi hne => h.block i hi (fun e => hne (by injection e))⟩
/-! names as keys: how long, and sixteen bytes -/
/-- byte i of a name of which k bytes are laid; 0 beyond -/
def kb (s : ByteArray) (k i : Nat) : Int := if i < k then ((s.data.toList[i]?.map UInt8.toNat).getD 0 : Nat) else 0
/-- the key's cells, k bytes laid -/
def keyCs (s : ByteArray) (k : Nat) : List Value := .int .u8 (s.size : Int) :: (List.range 16).map fun i => Value.int .u8 (kb s k i)
theorem keyCs_len (s : ByteArray) (k : Nat) : (keyCs s k).length = 17 := by simp [keyCs]
theorem kb_bd (s : ByteArray) (k i : Nat) : 0 ≤ kb s k i ∧ kb s k i ≤ 255 := by
  unfold kb
  split
  · cases h : s.data.toList[i]? with
    | none => simp
    | some b => have := byte_lt b; simp; omega
  · omega
theorem keyCs_one (s : ByteArray) (k : Nat) : ∀ v ∈ keyCs s k, v.oneCell' = true := by
  intro v hv
  rcases List.mem_cons.1 hv with rfl | hv
  · rfl
  · obtain ⟨i, _, rfl⟩ := List.mem_map.1 hv
    rfl
theorem keyCs_set (s : ByteArray) (k : Nat) (hk : k < s.size) (h16 : k < 16) : (keyCs s k).set (1 + k) (.int .u8 (s[k].toNat : Int)) = keyCs s (k + 1) := by
  refine List.ext_getElem (by simp [keyCs]) fun i h1 h2 => ?_
  rw [List.getElem_set]
  cases i with
  | zero => simp [keyCs]
  | succ i =>
    have hi : i < 16 := by have := h2; simp [keyCs] at this; omega
    simp only [keyCs, List.getElem_cons_succ, List.getElem_map, List.getElem_range]
    by_cases e : i = k
    · subst e
      have e2 : s.data.toList.length = s.size := by rw [Array.length_toList]; rfl
      rw [if_pos (by omega)]
      unfold kb
      rw [if_pos (by omega), List.getElem?_eq_getElem (by omega)]
      rfl
    · rw [if_neg (by omega)]
      unfold kb
      by_cases c : i < k
      · rw [if_pos c, if_pos (by omega)]
      · rw [if_neg c, if_neg (by omega)]

/-- a name's key -/
def keyV (s : ByteArray) : Value := .agg (keyCs s s.size).toArray
theorem keyV_inj {s t : ByteArray} (hs : s.size ≤ 16) (h : keyV s = keyV t) : s = t := by
  have h1 : keyCs s s.size = keyCs t t.size := by
    unfold keyV at h
    injection h with h
    exact congrArg Array.toList h
  unfold keyCs at h1
  injection h1 with h2 h3
  have hz : s.size = t.size := by injection h2 with _ h2; omega
  have e1 : s.data.toList.length = s.size := by rw [Array.length_toList]; rfl
  have e2 : t.data.toList.length = t.size := by rw [Array.length_toList]; rfl
  refine name_ext (List.ext_getElem (by omega) fun i a b => ?_)
  have hi : i < 16 := by omega
  have h4 := congrArg (fun l : List Value => l[i]?) h3
  simp only [List.getElem?_map, List.getElem?_range hi, Option.map_some, Option.some.injEq, Value.int.injEq, true_and] at h4
  unfold kb at h4
  rw [if_pos (by omega), if_pos (by omega), List.getElem?_eq_getElem a, List.getElem?_eq_getElem b] at h4
  simp only [Option.map_some, Option.getD_some] at h4
  exact UInt8.toNat_inj.1 (by omega)

/-! the key's law -/
theorem lawKey : WideMaps.KeyLaw Tryd.prog 64 := deep_law_laid laidOutK (m := 4) (by omega) (of_decide_eq_true (by kernel_rfl)) (by kernel_rfl) (by kernel_rfl)
theorem keyedKey : Keyed Tryd.prog 64 := Keyed.of_law lawKey
theorem cellsKey : Tryd.prog.cellsOf 64 = 17 := by kernel_rfl
theorem cells16 : Tryd.prog.cellsOf 62 = 16 := by kernel_rfl
theorem cellsU8 : Tryd.prog.cellsOf 5 = 1 := by kernel_rfl
theorem keyTypeKey : Tryd.prog.keyType 64 = true := by kernel_rfl
theorem wf8 {n : Int} (h0 : 0 ≤ n) (h1 : n ≤ 255) : (Lit.int .u8 n).wf = true := by
  have e1 : IntKind.u8.min = 0 := by decide
  have e2 : IntKind.u8.max = 255 := by decide
  simp only [Lit.wf, e1, e2, Bool.and_eq_true, decide_eq_true_eq]
  omega
theorem lits_u8 {P : Program} {q : TypeId} (hu : P.underlying q = some (.int .u8)) (d : Nat) {n : Int} (h : (Lit.int .u8 n).wf = true) : P.keyLits (d + 1) q [.int .u8 n] = some [.int .u8 n] := by
  unfold Program.keyLits
  rw [hu]
  simp [h]
theorem one_at {α : Type} (l : List α) (i : Nat) (h : i < l.length) : (l.drop i).take 1 = [l[i]] := by
  rw [List.drop_eq_getElem_cons h]; rfl
theorem mapM_some {α β : Type} (f : α → Option β) (g : α → β) : ∀ l : List α, (∀ x ∈ l, f x = some (g x)) → l.mapM f = some (l.map g)
  | [], _ => rfl
  | a :: r, h => by
    rw [List.mapM_cons, h a (by simp), mapM_some f g r (fun x hx => h x (by simp [hx]))]
    rfl
theorem lits_row {P : Program} {q r : TypeId} (hu : P.underlying q = some (.int .u8)) (hr : P.underlying r = some (.array 16 q)) (cq : P.cellsOf q = 1) (cr : P.cellsOf r = 16) (d : Nat) (f : Nat → Int) (hf : ∀ i, (Lit.int .u8 (f i)).wf = true) :
    P.keyLits (d + 2) r ((List.range 16).map fun i => Value.int .u8 (f i)) = some ((List.range 16).map fun i => Lit.int .u8 (f i)) := by
  unfold Program.keyLits
  rw [hr]
  simp only
  rw [if_pos (by rw [cr]; simp), cq]
  rw [mapM_some _ (fun i => [Lit.int .u8 (f i)]) _ (fun i hi => ?_)]
  · simp [show List.range 16 = [0, 1, 2, 3, 4, 5, 6, 7, 8, 9, 10, 11, 12, 13, 14, 15] from rfl]
  · have h16 : i < 16 := by simpa using hi
    rw [Nat.mul_one, one_at _ i (by simpa using h16)]
    simp only [List.getElem_map, List.getElem_range]
    exact lits_u8 hu d (hf i)
theorem lits_key {P : Program} {q r k : TypeId} {fs : Array Field} (hu : P.underlying q = some (.int .u8)) (hr : P.underlying r = some (.array 16 q)) (hk : P.underlying k = some (.struct fs)) (cq : P.cellsOf q = 1) (cr : P.cellsOf r = 16) (ck : P.cellsOf k = 17)
    (hf : ∃ f0 f1 : Field, fs.toList = [f0, f1] ∧ f0.offset = 0 ∧ f0.type = q ∧ f1.offset = 1 ∧ f1.type = r) (hn : fs.all (·.name != "_") = true) (d : Nat) (n : Int) (f : Nat → Int) (h0 : (Lit.int .u8 n).wf = true) (h1 : ∀ i, (Lit.int .u8 (f i)).wf = true) :
    P.keyLits (d + 3) k (.int .u8 n :: (List.range 16).map fun i => Value.int .u8 (f i)) = some (.int .u8 n :: (List.range 16).map fun i => Lit.int .u8 (f i)) := by
  obtain ⟨f0, f1, e, o0, t0, o1, t1⟩ := hf
  have g1 := lits_u8 hu (d + 1) h0
  have g2 := lits_row hu hr cq cr d f h1
  unfold Program.keyLits
  rw [hk]
  simp only
  rw [if_pos ⟨by rw [ck]; simp, hn⟩, e]
  rw [List.mapM_cons, List.mapM_cons, List.mapM_nil, o0, o1, t0, t1, cq, cr]
  have e1 : ((Value.int .u8 n :: (List.range 16).map fun i => Value.int .u8 (f i)).drop 0).take 1 = [.int .u8 n] := rfl
  have e2 : ((Value.int .u8 n :: (List.range 16).map fun i => Value.int .u8 (f i)).drop 1).take 16 = (List.range 16).map fun i => Value.int .u8 (f i) := by
    rw [List.drop_succ_cons, List.drop_zero, List.take_of_length_le (by simp)]
  rw [e1, e2, g1, g2]
  simp

/-- a name's key, as a literal -/
def keyL (s : ByteArray) : Lit := .string (keyBytes (.int .u8 (s.size : Int) :: (List.range 16).map fun i => Lit.int .u8 (kb s s.size i)))
theorem key_key {s : ByteArray} (hs : s.size ≤ 16) : keyOf Tryd.prog 64 (keyV s) = some (keyL s) := by
  obtain ⟨m, hm⟩ := types3
  have h := lits_key (P := Tryd.prog) Tryd.underlying5 Tryd.underlying62 Tryd.underlying64 cellsU8 cells16 cellsKey ⟨_, _, rfl, rfl, rfl, rfl, rfl⟩ (by decide +kernel) (m + 1) (s.size : Int) (kb s s.size) (wf8 (by omega) (by omega)) (fun i => wf8 (kb_bd s _ i).1 (kb_bd s _ i).2)
  unfold keyOf
  simp only [Tryd.underlying64]
  rw [if_pos (by simp [keyTypeKey, keyV, Value.formed, Tryd.underlying64, cellsKey, keyCs]), hm]
  have e : (keyV s).cells.toList = Value.int .u8 (s.size : Int) :: (List.range 16).map fun i => Value.int .u8 (kb s s.size i) := by simp [keyV, Value.cells, keyCs]
  rw [e, show m + 3 + 1 = m + 1 + 3 by omega, h]
  rfl
theorem keyL_inj {s t : ByteArray} (hs : s.size ≤ 16) (ht : t.size ≤ 16) (h : keyL s = keyL t) : s = t :=
  keyV_inj hs (lawKey.inj (key_key hs) (h ▸ key_key ht))

/-- where the last of the first k names that are this one stands -/
def plc (bs : List ByteArray) : Nat → ByteArray → Option Nat
  | 0, _ => none
  | k + 1, s => if bs[k]? = some s then some k else plc bs k s
theorem plc_some {bs : List ByteArray} : ∀ {k : Nat} {s : ByteArray} {i : Nat}, plc bs k s = some i → i < k ∧ bs[i]? = some s
  | 0, _, _, h => by cases h
  | k + 1, s, i, h => by
    rw [plc] at h
    split at h
    · rename_i hc; cases h; exact ⟨by omega, hc⟩
    · obtain ⟨h1, h2⟩ := plc_some h; exact ⟨by omega, h2⟩
theorem plc_none {bs : List ByteArray} : ∀ {k : Nat} {s : ByteArray}, plc bs k s = none → ∀ i, i < k → bs[i]? ≠ some s
  | 0, _, _, i, hi => by omega
  | k + 1, s, h, i, hi => by
    rw [plc] at h
    split at h
    · cases h
    · rename_i hc
      by_cases e : i = k
      · rw [e]; exact hc
      · exact plc_none h i (by omega)

/-- the map tells of the first k names where they stand, from 1 on -/
def PlAt (w : World) (b : Nat) (bs : List ByteArray) (k : Nat) : Prop := ∃ D : DataW Unit, w.ownsMap Tryd.prog 64 (plainElem Tryd.prog 3) b k D ∧
  ∀ s : ByteArray, s.size ≤ 16 → ∀ zd, D.atKey (keyL s) zd = match plc bs k s with | some i => .lit (.int .i64 ((i : Int) + 1)) | none => zd
theorem PlAt.lt {w : World} {b : Nat} {bs : List ByteArray} {k : Nat} (h : PlAt w b bs k) : b < w.heap.size := by obtain ⟨D, h, _⟩ := h; exact h.lt
theorem PlAt.keep {w w' : World} {b : Nat} {bs : List ByteArray} {k : Nat} (h : PlAt w b bs k) (e : w'.heap[b]? = w.heap[b]?) : PlAt w' b bs k := by
  obtain ⟨D, ⟨es, clock, hb, F, hs, hD⟩, h2⟩ := h
  exact ⟨D, ⟨es, clock, e.trans hb, F, hs, hD⟩, h2⟩
theorem PlAt.ext {w w' : World} {b : Nat} {bs : List ByteArray} {k : Nat} (h : PlAt w b bs k) (x : Ext w w') : PlAt w' b bs k := h.keep (x.block b h.lt)
theorem PlAt.made (w : World) (bs : List ByteArray) : PlAt (w.alloc (.map #[] 0)) w.heap.size bs 0 := ⟨_, World.ownsMap_made w _ _ _, fun _ _ _ => rfl⟩
theorem PlAt.put {w : World} {b : Nat} {bs : List ByteArray} {k : Nat} {D : DataW Unit} (hk : k < bs.length) (hs : bs[k].size ≤ 16) (hm : IsMap D)
    (h : ∀ s : ByteArray, s.size ≤ 16 → ∀ zd, D.atKey (keyL s) zd = match plc bs k s with | some i => .lit (.int .i64 ((i : Int) + 1)) | none => zd)
    (hown : w.ownsMap Tryd.prog 64 (plainElem Tryd.prog 3) b (k + 1) (D.put (keyL bs[k]) (.lit (.int .i64 ((k : Int) + 1))))) : PlAt w b bs (k + 1) := by
  refine ⟨_, hown, fun s hs' zd => ?_⟩
  have e : bs[k]? = some bs[k] := List.getElem?_eq_getElem hk
  rw [plc, e]
  by_cases c : bs[k] = s
  · subst c
    rw [if_pos rfl, atKey_put_same hm (lawKey.str (key_key hs) |>.elim fun _ e => by rw [e]; trivial)]
  · rw [if_neg (fun x => c (by injection x)), atKey_put_other (fun x => c (keyL_inj hs' hs x).symm), h s hs']

theorem infoKey : (Tryd.prog.info? 64).map (·.size) = some 17 := by kernel_rfl
/-- a block of a key's cells -/
def BlkK (w : World) (g : Nat) (cs : List Value) : Prop := w.heap[g]? = some (.cells cs.toArray 64 (0, 0))
theorem BlkK.cell {w : World} {g : Nat} {cs : List Value} (h : BlkK w g cs) (o : Nat) : w.cell? ⟨g, o, none⟩ = cs[o]? := by
  unfold BlkK at h
  simp [World.cell?, h]
theorem BlkK.frozen {w : World} {g : Nat} {cs : List Value} (h : BlkK w g cs) (o : Nat) : w.frozen? ⟨g, o, none⟩ = false := by
  unfold BlkK at h
  simp [World.frozen?, h]
theorem BlkK.set {w : World} {g : Nat} {cs : List Value} (h : BlkK w g cs) (o : Nat) (v : Value) : BlkK (w.setCell ⟨g, o, none⟩ v) g (cs.set o v) := by
  unfold BlkK at *
  simp [World.setCell, Array.getElem?_modify, h]
theorem BlkK.far {w : World} {g : Nat} {cs : List Value} (h : BlkK w g cs) {p : Addr} (v : Value) (hne : g ≠ p.block) : BlkK (w.setCell p v) g cs := (Below.heap_setCell _ _ _ _ hne).trans h
theorem BlkK.range {w : World} {g : Nat} {cs : List Value} (h : BlkK w g cs) : w.rangeAt g 0 cs := fun j v hv => by rw [Nat.zero_add, h.cell, hv]
theorem BlkK.there {w : World} {g : Nat} {cs : List Value} (h : BlkK w g cs) : w.there g 0 cs.length := fun j hj => by
  rw [Nat.zero_add, h.cell, h.frozen, List.getElem?_eq_getElem hj]; exact ⟨rfl, rfl⟩

abbrev zero17 : Array Value := #[.int .u8 0, .int .u8 0, .int .u8 0, .int .u8 0, .int .u8 0, .int .u8 0, .int .u8 0, .int .u8 0, .int .u8 0, .int .u8 0, .int .u8 0, .int .u8 0, .int .u8 0, .int .u8 0, .int .u8 0, .int .u8 0, .int .u8 0]
theorem keyCs_zero (s : ByteArray) : keyCs s 0 = [.int .u8 (s.size : Int), .int .u8 0, .int .u8 0, .int .u8 0, .int .u8 0, .int .u8 0, .int .u8 0, .int .u8 0, .int .u8 0, .int .u8 0, .int .u8 0, .int .u8 0, .int .u8 0, .int .u8 0, .int .u8 0, .int .u8 0, .int .u8 0] := rfl
theorem heap_size_alloc (w : World) (o : Obj) : (w.alloc o).heap.size = w.heap.size + 1 := by simp
theorem ext_setCells {w : World} {b : Nat} (vs : List Value) : ∀ (o : Nat) (u : World) (_ : w.heap.size ≤ b), Ext w u → Ext w (u.setCells b o vs) := by
  induction vs with
  | nil => intro o u _ h; exact h
  | cons v r ih => intro o u hb h; exact ih (o + 1) _ hb (h.setCell hb v)

theorem setCells_block {b k : Nat} (hk : k ≠ b) (vs : List Value) : ∀ (o : Nat) (u : World), (u.setCells b o vs).heap[k]? = u.heap[k]? := by
  induction vs with
  | nil => intro o u; rfl
  | cons v r ih => intro o u; exact (ih (o + 1) _).trans (Below.heap_setCell _ _ _ _ hk)
/-- a name's bytes as cells -/
def byteCs (s : ByteArray) : List Value := s.data.toList.map fun x => Value.int .u8 (x.toNat : Int)
theorem byteCs_len (s : ByteArray) : (byteCs s).length = s.size := by unfold byteCs; rw [List.length_map, Array.length_toList]; rfl
theorem BlkK.bytes {g : Nat} (s : ByteArray) (h16 : s.size ≤ 16) : ∀ (d k : Nat) (u : World), k + d = s.size → BlkK u g (keyCs s k) → BlkK (u.setCells g (1 + k) ((byteCs s).drop k)) g (keyCs s s.size)
  | 0, k, u, hk, h => by
    have e : (byteCs s).drop k = [] := List.drop_eq_nil_of_le (by rw [byteCs_len]; omega)
    rw [e, show k = s.size by omega] at *
    exact h
  | d + 1, k, u, hk, h => by
    have hlt : k < s.size := by omega
    have e : (byteCs s).drop k = Value.int .u8 (s[k].toNat : Int) :: (byteCs s).drop (k + 1) := by
      rw [List.drop_eq_getElem_cons (by rw [byteCs_len]; exact hlt)]
      congr 1
      simp [byteCs]
      rfl
    rw [e]
    show BlkK ((u.setCell ⟨g, 1 + k, none⟩ _).setCells g (1 + k + 1) _) g _
    rw [show 1 + k + 1 = 1 + (k + 1) by omega]
    refine BlkK.bytes s h16 d (k + 1) _ (by omega) ?_
    rw [← keyCs_set s k hlt (by omega)]
    exact h.set _ _

set_option maxRecDepth 100000 in
set_option maxHeartbeats 1000000 in
theorem keyOf_any (s : ByteArray) (w : World) (hs : s.size ≤ 16) :
    Calls Tryd.prog 47 #[.string s] w fun e w' => e = .returned (keyV s) ∧ Ext w w' := by
  obtain ⟨W0, hW0⟩ : ∃ W0, W0 = (w.alloc (.cells zero17 64)).alloc (.cells #[.int .u8 (s.size : Int), .int .u8 0, .int .u8 0, .int .u8 0, .int .u8 0, .int .u8 0, .int .u8 0, .int .u8 0, .int .u8 0, .int .u8 0, .int .u8 0, .int .u8 0, .int .u8 0, .int .u8 0, .int .u8 0, .int .u8 0, .int .u8 0] 64) := ⟨_, rfl⟩
  have hx0 : Ext w W0 := by rw [hW0]; exact ((Ext.refl w).alloc _).alloc _
  have hB0 : BlkK W0 (w.heap.size + 1) (keyCs s 0) := by
    unfold BlkK
    rw [hW0, keyCs_zero, ← heap_size_alloc w (.cells zero17 64)]
    exact heap_alloc_new _ _
  have hZ0 : BlkK W0 w.heap.size (keyCs ⟨#[]⟩ 0) := by
    unfold BlkK
    rw [hW0, keyCs_zero]
    exact (Below.heap_alloc _ _ _ (by simp)).trans (heap_alloc_new w _)
  have hcp : (Builtin.copy_ #[72, 9] 3 #[.slice (some ⟨w.heap.size + 1, 1, none⟩) 16 16, .string s]).run Tryd.prog W0 = .ok (goInt s.size) (W0.setCells (w.heap.size + 1) 1 (byteCs s)) :=
    run_copy_string W0 72 9 3 5 (w.heap.size + 1) 1 16 16 s Tryd.underlying72 Tryd.sizeOf5 hs
      (fun j hj => by rw [hB0.cell, List.getElem?_eq_getElem (by rw [keyCs_len]; omega)]; rfl) (fun j hj => hB0.frozen _)
  obtain ⟨W1, hW1⟩ : ∃ W1, W1 = W0.setCells (w.heap.size + 1) 1 (byteCs s) := ⟨_, rfl⟩
  have hB1 : BlkK W1 (w.heap.size + 1) (keyCs s s.size) := by
    rw [hW1]
    have := BlkK.bytes s hs s.size 0 W0 (by omega) hB0
    simpa using this
  have hZ1 : BlkK W1 w.heap.size (keyCs ⟨#[]⟩ 0) := by
    unfold BlkK
    rw [hW1, setCells_block (by omega)]
    exact hZ0
  have hx1 : Ext w W1 := by rw [hW1]; exact ext_setCells _ _ _ (by omega) hx0
  rw [← hW1] at hcp
  have HW0 := Lib.hid hW0
  have HB := Lib.hid hB1
  have HZ := Lib.hid hZ1
  clear hW0 hW1 hB0 hZ0 hB1 hZ1
  go_enter Tryd.func47, Tryd.ntmps47
  go_upto_region 2 with (fail)
  rw [← HW0.out]
  have hi : (Tryd.prog.info? 64).map (·.size) = some (keyCs s s.size).length := by rw [keyCs_len]; exact infoKey
  have hth : W1.there w.heap.size 0 (keyCs s s.size).toArray.size := by have := HZ.out.there; rw [keyCs_len] at this; simpa [keyCs_len] using this
  have h1 : (keyCs s s.size).toArray.all (·.oneCell') = true := by simp; exact keyCs_one s s.size
  have hi' : (Tryd.prog.info? 64).map (·.size) = some (keyCs s s.size).toArray.size := by simpa using hi
  have hrg := HB.out.range
  have hfin : Ext w (W1.setCells w.heap.size 0 (keyCs s s.size)) := ext_setCells _ _ _ (Nat.le_refl _) hx1
  have hrs : (W1.setCells w.heap.size 0 (keyCs s s.size)).rangeAt w.heap.size 0 (keyCs s s.size) := World.rangeAt_setCells_same _ _ _ _ (by simpa using hth)
  have hres := run_loadVar_mid (P := Tryd.prog) _ w.heap.size 0 64 (keyCs s s.size) _ hrs Tryd.underlying64 rfl hi
  go_upto_region 3 with (fail)
  go_wp2_with (first
    | (refine wpList_load_mid (op := ⟨some 12, _, _, _, _, _⟩) rfl 64 (.tmp 3) rfl (w.heap.size + 1) 0 rfl (keyCs s s.size) _ hrg Tryd.underlying64 rfl hi ?_)
    | (refine wpList_store_mid (op := ⟨none, _, _, _, _, _⟩) rfl 64 (.tmp 2) (.tmp 12) rfl w.heap.size 0 (keyCs s s.size).toArray rfl rfl hth hi' h1 ?_))
  refine bodyPost_ret (v := keyV s) ?_ rfl ⟨rfl, hfin⟩
  simp [results, Tryd.results47, Act.put, asAddr, hres, keyV]
end Go.Proofs.YtgpjfagkjmnpgaaDoor
