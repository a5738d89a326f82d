/- Binds as plain data, and what it means that they lie in memory; names as keys of a map. -/
import Derived.Test.YthmpolifgngdiaaKey
import Derived.Test.YthmpolifgngdiaaOrd
namespace Go.Proofs.Ythmpolifgngdiaa
open Go.RowKit Go.Maps

/-- a variable's name and its term -/
structure Bd where
  name : ByteArray
  tm : Tm

/-- the value of a bind whose term's arguments lie from A on -/
abbrev Bd.val (x : Bd) (A : Option Addr) (c : Nat) : Value := .agg #[.string x.name, .int .i64 x.tm.kind, .string x.tm.name, .int .i64 x.tm.n, .slice A x.tm.args.length c]
/-- the box of a bind -/
abbrev boxB (w : World) (x : Bd) (A : Option Addr) (c : Nat) : World := w.alloc (.cells #[.string x.name, .int .i64 x.tm.kind, .string x.tm.name, .int .i64 x.tm.n, .slice A x.tm.args.length c] 67)

/-- from A on lie the five cells of each bind, and their terms -/
def BdsAt (w : World) (bs : List Bd) (A : Option Addr) : Prop :=
  ∀ i (h : i < bs.length), ∃ b o B e, A = some ⟨b, o, none⟩ ∧ w.cell? ⟨b, o + i * 5, none⟩ = some (.string bs[i].name) ∧ w.cell? ⟨b, o + i * 5 + 1, none⟩ = some (.int .i64 bs[i].tm.kind) ∧
    w.cell? ⟨b, o + i * 5 + 2, none⟩ = some (.string bs[i].tm.name) ∧ w.cell? ⟨b, o + i * 5 + 3, none⟩ = some (.int .i64 bs[i].tm.n) ∧ w.cell? ⟨b, o + i * 5 + 4, none⟩ = some (.slice B bs[i].tm.args.length e) ∧
    TmAt w bs[i].tm B e ∧ bs[i].name.size ≤ 140737488351232
theorem BdsAt.ext {w w' : World} {bs : List Bd} {A : Option Addr} (h : BdsAt w bs A) (k : Ext w w') : BdsAt w' bs A := by
  intro i hi
  obtain ⟨b, o, B, e, eA, h0, h1, h2, h3, h4, hT, hs⟩ := h i hi
  exact ⟨b, o, B, e, eA, k.cell h0, k.cell h1, k.cell h2, k.cell h3, k.cell h4, hT.ext k, hs⟩
theorem BdsAt.nil (w : World) (A : Option Addr) : BdsAt w [] A := fun i hi => absurd hi (by simp)
/-! names as keys: how long, and sixteen bytes -/
/-- byte i of a name of which k bytes are laid; 0 beyond -/
def kb (s : ByteArray) (k i : Nat) : Int := if i < k then ((s.data.toList[i]?.map UInt8.toNat).getD 0 : Nat) else 0
/-- the key's cells, k bytes laid -/
def keyCs (s : ByteArray) (k : Nat) : List Value := .int .u8 (s.size : Int) :: (List.range 16).map fun i => Value.int .u8 (kb s k i)
theorem keyCs_len (s : ByteArray) (k : Nat) : (keyCs s k).length = 17 := by simp [keyCs]
theorem kb_bd (s : ByteArray) (k i : Nat) : 0 ≤ kb s k i ∧ kb s k i ≤ 255 := by
  unfold kb
  split
  · cases h : s.data.toList[i]? with
    | none => simp
    | some b => have := byte_lt b; simp; omega
  · omega
theorem keyCs_one (s : ByteArray) (k : Nat) : ∀ v ∈ keyCs s k, v.oneCell' = true := by
  intro v hv
  rcases List.mem_cons.1 hv with rfl | hv
  · rfl
  · obtain ⟨i, _, rfl⟩ := List.mem_map.1 hv
    rfl
theorem keyCs_set (s : ByteArray) (k : Nat) (hk : k < s.size) (h16 : k < 16) : (keyCs s k).set (1 + k) (.int .u8 (s[k].toNat : Int)) = keyCs s (k + 1) := by
  refine List.ext_getElem (by simp [keyCs]) fun i h1 h2 => ?_
  rw [List.getElem_set]
  cases i with
  | zero => simp [keyCs]
  | succ i =>
    have hi : i < 16 := by have := h2; simp [keyCs] at this; omega
    simp only [keyCs, List.getElem_cons_succ, List.getElem_map, List.getElem_range]
    by_cases e : i = k
    · subst e
      have e2 : s.data.toList.length = s.size := by rw [Array.length_toList]; rfl
      rw [if_pos (by omega)]
      unfold kb
      rw [if_pos (by omega), List.getElem?_eq_getElem (by omega)]
      rfl
    · rw [if_neg (by omega)]
      unfold kb
      by_cases c : i < k
      · rw [if_pos c, if_pos (by omega)]
      · rw [if_neg c, if_neg (by omega)]

/-- a name's key -/
def keyV (s : ByteArray) : Value := .agg (keyCs s s.size).toArray
theorem keyV_inj {s t : ByteArray} (hs : s.size ≤ 16) (h : keyV s = keyV t) : s = t := by
  have h1 : keyCs s s.size = keyCs t t.size := by
    unfold keyV at h
    injection h with h
    exact congrArg Array.toList h
  unfold keyCs at h1
  injection h1 with h2 h3
  have hz : s.size = t.size := by injection h2 with _ h2; omega
  have e1 : s.data.toList.length = s.size := by rw [Array.length_toList]; rfl
  have e2 : t.data.toList.length = t.size := by rw [Array.length_toList]; rfl
  refine name_ext (List.ext_getElem (by omega) fun i a b => ?_)
  have hi : i < 16 := by omega
  have h4 := congrArg (fun l : List Value => l[i]?) h3
  simp only [List.getElem?_map, List.getElem?_range hi, Option.map_some, Option.some.injEq, Value.int.injEq, true_and] at h4
  unfold kb at h4
  rw [if_pos (by omega), if_pos (by omega), List.getElem?_eq_getElem a, List.getElem?_eq_getElem b] at h4
  simp only [Option.map_some, Option.getD_some] at h4
  exact UInt8.toNat_inj.1 (by omega)

/-! the key's law -/
theorem lawKey : WideMaps.KeyLaw Try.prog 119 := deep_law_laid laidOutK (m := 4) (by omega) (of_decide_eq_true (by kernel_rfl)) (by kernel_rfl) (by kernel_rfl)
theorem keyedKey : Keyed Try.prog 119 := Keyed.of_law lawKey
theorem cellsKey : Try.prog.cellsOf 119 = 17 := by kernel_rfl
theorem cells16 : Try.prog.cellsOf 117 = 16 := by kernel_rfl
theorem cellsU8 : Try.prog.cellsOf 5 = 1 := by kernel_rfl
theorem keyTypeKey : Try.prog.keyType 119 = true := by kernel_rfl
theorem wf8 {n : Int} (h0 : 0 ≤ n) (h1 : n ≤ 255) : (Lit.int .u8 n).wf = true := by
  have e1 : IntKind.u8.min = 0 := by decide
  have e2 : IntKind.u8.max = 255 := by decide
  simp only [Lit.wf, e1, e2, Bool.and_eq_true, decide_eq_true_eq]
  omega
theorem lits_u8 {P : Program} {q : TypeId} (hu : P.underlying q = some (.int .u8)) (d : Nat) {n : Int} (h : (Lit.int .u8 n).wf = true) : P.keyLits (d + 1) q [.int .u8 n] = some [.int .u8 n] := by
  unfold Program.keyLits
  rw [hu]
  simp [h]
theorem one_at {α : Type} (l : List α) (i : Nat) (h : i < l.length) : (l.drop i).take 1 = [l[i]] := by
  rw [List.drop_eq_getElem_cons h]; rfl
theorem mapM_some {α β : Type} (f : α → Option β) (g : α → β) : ∀ l : List α, (∀ x ∈ l, f x = some (g x)) → l.mapM f = some (l.map g)
  | [], _ => rfl
  | a :: r, h => by
    rw [List.mapM_cons, h a (by simp), mapM_some f g r (fun x hx => h x (by simp [hx]))]
    rfl
theorem lits_row {P : Program} {q r : TypeId} (hu : P.underlying q = some (.int .u8)) (hr : P.underlying r = some (.array 16 q)) (cq : P.cellsOf q = 1) (cr : P.cellsOf r = 16) (d : Nat) (f : Nat → Int) (hf : ∀ i, (Lit.int .u8 (f i)).wf = true) :
    P.keyLits (d + 2) r ((List.range 16).map fun i => Value.int .u8 (f i)) = some ((List.range 16).map fun i => Lit.int .u8 (f i)) := by
  unfold Program.keyLits
  rw [hr]
  simp only
  rw [if_pos (by rw [cr]; simp), cq]
  rw [mapM_some _ (fun i => [Lit.int .u8 (f i)]) _ (fun i hi => ?_)]
  · simp [show List.range 16 = [0, 1, 2, 3, 4, 5, 6, 7, 8, 9, 10, 11, 12, 13, 14, 15] from rfl]
  · have h16 : i < 16 := by simpa using hi
    rw [Nat.mul_one, one_at _ i (by simpa using h16)]
    simp only [List.getElem_map, List.getElem_range]
    exact lits_u8 hu d (hf i)
theorem lits_key {P : Program} {q r k : TypeId} {fs : Array Field} (hu : P.underlying q = some (.int .u8)) (hr : P.underlying r = some (.array 16 q)) (hk : P.underlying k = some (.struct fs)) (cq : P.cellsOf q = 1) (cr : P.cellsOf r = 16) (ck : P.cellsOf k = 17)
    (hf : ∃ f0 f1 : Field, fs.toList = [f0, f1] ∧ f0.offset = 0 ∧ f0.type = q ∧ f1.offset = 1 ∧ f1.type = r) (hn : fs.all (·.name != "_") = true) (d : Nat) (n : Int) (f : Nat → Int) (h0 : (Lit.int .u8 n).wf = true) (h1 : ∀ i, (Lit.int .u8 (f i)).wf = true) :
    P.keyLits (d + 3) k (.int .u8 n :: (List.range 16).map fun i => Value.int .u8 (f i)) = some (.int .u8 n :: (List.range 16).map fun i => Lit.int .u8 (f i)) := by
  obtain ⟨f0, f1, e, o0, t0, o1, t1⟩ := hf
  have g1 := lits_u8 hu (d + 1) h0
  have g2 := lits_row hu hr cq cr d f h1
  unfold Program.keyLits
  rw [hk]
  simp only
  rw [if_pos ⟨by rw [ck]; simp, hn⟩, e]
  rw [List.mapM_cons, List.mapM_cons, List.mapM_nil, o0, o1, t0, t1, cq, cr]
  have e1 : ((Value.int .u8 n :: (List.range 16).map fun i => Value.int .u8 (f i)).drop 0).take 1 = [.int .u8 n] := rfl
  have e2 : ((Value.int .u8 n :: (List.range 16).map fun i => Value.int .u8 (f i)).drop 1).take 16 = (List.range 16).map fun i => Value.int .u8 (f i) := by
    rw [List.drop_succ_cons, List.drop_zero, List.take_of_length_le (by simp)]
  rw [e1, e2, g1, g2]
  simp

/-- a name's key, as a literal -/
def keyL (s : ByteArray) : Lit := .string (keyBytes (.int .u8 (s.size : Int) :: (List.range 16).map fun i => Lit.int .u8 (kb s s.size i)))
theorem key_key {s : ByteArray} (hs : s.size ≤ 16) : keyOf Try.prog 119 (keyV s) = some (keyL s) := by
  obtain ⟨m, hm⟩ := types3
  have h := lits_key (P := Try.prog) Try.underlying5 Try.underlying117 Try.underlying119 cellsU8 cells16 cellsKey ⟨_, _, rfl, rfl, rfl, rfl, rfl⟩ (by decide +kernel) (m + 1) (s.size : Int) (kb s s.size) (wf8 (by omega) (by omega)) (fun i => wf8 (kb_bd s _ i).1 (kb_bd s _ i).2)
  unfold keyOf
  simp only [Try.underlying119]
  rw [if_pos (by simp [keyTypeKey, keyV, Value.formed, Try.underlying119, cellsKey, keyCs]), hm]
  have e : (keyV s).cells.toList = Value.int .u8 (s.size : Int) :: (List.range 16).map fun i => Value.int .u8 (kb s s.size i) := by simp [keyV, Value.cells, keyCs]
  rw [e, show m + 3 + 1 = m + 1 + 3 by omega, h]
  rfl
theorem keyL_inj {s t : ByteArray} (hs : s.size ≤ 16) (ht : t.size ≤ 16) (h : keyL s = keyL t) : s = t :=
  keyV_inj hs (lawKey.inj (key_key hs) (h ▸ key_key ht))

/-- where the last of the first k binds with this name stands -/
def plc (bs : List Bd) : Nat → ByteArray → Option Nat
  | 0, _ => none
  | k + 1, s => if (bs[k]?.map fun x => x.name) = some s then some k else plc bs k s
theorem plc_some {bs : List Bd} : ∀ {k : Nat} {s : ByteArray} {i : Nat}, plc bs k s = some i → i < k ∧ (bs[i]?.map fun x => x.name) = some s
  | 0, _, _, h => by cases h
  | k + 1, s, i, h => by
    rw [plc] at h
    split at h
    · rename_i hc; cases h; exact ⟨by omega, hc⟩
    · obtain ⟨h1, h2⟩ := plc_some h; exact ⟨by omega, h2⟩
/-- the map tells of the names of the first k binds where they stand -/
def PlAt (w : World) (b : Nat) (bs : List Bd) (k : Nat) : Prop := ∃ D : DataW Unit, w.ownsMap Try.prog 119 (plainElem Try.prog 3) b k D ∧
  ∀ s : ByteArray, s.size ≤ 16 → ∀ zd, D.atKey (keyL s) zd = match plc bs k s with | some i => .lit (.int .i64 (i : Int)) | none => zd
theorem PlAt.lt {w : World} {b : Nat} {bs : List Bd} {k : Nat} (h : PlAt w b bs k) : b < w.heap.size := by obtain ⟨D, h, _⟩ := h; exact h.lt
theorem PlAt.keep {w w' : World} {b : Nat} {bs : List Bd} {k : Nat} (h : PlAt w b bs k) (e : w'.heap[b]? = w.heap[b]?) : PlAt w' b bs k := by
  obtain ⟨D, ⟨es, clock, hb, F, hs, hD⟩, h2⟩ := h
  exact ⟨D, ⟨es, clock, e.trans hb, F, hs, hD⟩, h2⟩
theorem PlAt.ext {w w' : World} {b : Nat} {bs : List Bd} {k : Nat} (h : PlAt w b bs k) (x : Ext w w') : PlAt w' b bs k := h.keep (x.block b h.lt)
theorem PlAt.made (w : World) (bs : List Bd) : PlAt (w.alloc (.map #[] 0)) w.heap.size bs 0 := ⟨_, World.ownsMap_made w _ _ _, fun _ _ _ => rfl⟩
theorem PlAt.put {w : World} {b : Nat} {bs : List Bd} {k : Nat} {D : DataW Unit} (hk : k < bs.length) (hs : bs[k].name.size ≤ 16) (hm : IsMap D)
    (h : ∀ s : ByteArray, s.size ≤ 16 → ∀ zd, D.atKey (keyL s) zd = match plc bs k s with | some i => .lit (.int .i64 (i : Int)) | none => zd)
    (hown : w.ownsMap Try.prog 119 (plainElem Try.prog 3) b (k + 1) (D.put (keyL bs[k].name) (.lit (.int .i64 (k : Int))))) : PlAt w b bs (k + 1) := by
  refine ⟨_, hown, fun s hs' zd => ?_⟩
  have e : (bs[k]?.map fun x => x.name) = some bs[k].name := by rw [List.getElem?_eq_getElem hk]; rfl
  rw [plc, e]
  by_cases c : bs[k].name = s
  · subst c
    rw [if_pos rfl, atKey_put_same hm (lawKey.str (key_key hs) |>.elim fun _ e => by rw [e]; trivial)]
  · rw [if_neg (fun x => c (by injection x)), atKey_put_other (fun x => c (keyL_inj hs' hs x).symm), h s hs']
end Go.Proofs.Ythmpolifgngdiaa
