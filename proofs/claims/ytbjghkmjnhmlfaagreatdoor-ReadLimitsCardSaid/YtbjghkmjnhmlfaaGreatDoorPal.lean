/- Package read: texts as keys of a map; keyOf, keys. -/
import Derived.Test.YtbjghkmjnhmlfaaGreatDoorYH
import Derived.Test.YtbjghkmjnhmlfaaGreatDoorYE
import Derived.Deep.MidRow
import Derived.Lib.BufferWrite
import Derived.Deep.WholeRow
namespace Go.Proofs.YtbjghkmjnhmlfaaGreatDoor
open Go.RowKit Go.Maps

/-- byte i of a text; 0 beyond -/
def rkb (s : ByteArray) (i : Nat) : Int := ((s.data.toList[i]?.map UInt8.toNat).getD 0 : Nat)
theorem rkb_bd (s : ByteArray) (i : Nat) : 0 ≤ rkb s i ∧ rkb s i ≤ 255 := by
  unfold rkb
  cases h : s.data.toList[i]? with
  | none => simp
  | some b => have := b.toNat_lt; simp; omega
def rkCs (s : ByteArray) : List Value := (List.range 16).map fun i => Value.int .u8 (rkb s i)
theorem rkCs_len (s : ByteArray) : (rkCs s).length = 16 := by simp [rkCs]
theorem rkCs_one (s : ByteArray) : ∀ v ∈ rkCs s, v.oneCell' = true := by
  intro v hv
  obtain ⟨i, _, rfl⟩ := List.mem_map.1 hv
  rfl
def rkV (s : ByteArray) : Value := .agg (rkCs s).toArray

/-- what may be a key: at most sixteen bytes, none 0 -/
structure Nz (s : ByteArray) : Prop where
  le : s.size ≤ 16
  nz : ∀ b ∈ s.data.toList, b ≠ 0
theorem list_len (s : ByteArray) : s.data.toList.length = s.size := by rw [Array.length_toList]; rfl
theorem ba_ext {s t : ByteArray} (h : s.data.toList = t.data.toList) : s = t := by
  cases s; cases t; simp only at h; congr; exact Array.ext' h
theorem rkV_inj {s t : ByteArray} (hs : Nz s) (ht : Nz t) (h : rkV s = rkV t) : s = t := by
  have h1 : rkCs s = rkCs t := by
    unfold rkV at h
    injection h with h
    exact congrArg Array.toList h
  have hb : ∀ i, i < 16 → rkb s i = rkb t i := by
    intro i hi
    have h4 := congrArg (fun l : List Value => l[i]?) h1
    unfold rkCs at h4
    simp only [List.getElem?_map, List.getElem?_range hi, Option.map_some, Option.some.injEq, Value.int.injEq, true_and] at h4
    exact h4
  have e1 := list_len s
  have e2 := list_len t
  have zer : ∀ {x y : ByteArray}, Nz x → Nz y → (∀ i, i < 16 → rkb x i = rkb y i) → ¬ x.size < y.size := by
    intro x y hx hy hxy hlt
    have e1 := list_len x
    have e2 := list_len y
    have hy16 := hy.le
    have h := hxy x.size (by omega)
    unfold rkb at h
    rw [List.getElem?_eq_none (by omega), List.getElem?_eq_getElem (by omega : x.size < y.data.toList.length)] at h
    have hz := hy.nz _ (List.getElem_mem (by omega : x.size < y.data.toList.length))
    simp only [Option.map_none, Option.getD_none, Option.map_some, Option.getD_some] at h
    exact hz (UInt8.toNat_inj.1 (by rw [show (0 : UInt8).toNat = 0 from rfl]; omega))
  have z1 := zer hs ht hb
  have z2 := zer ht hs (fun i hi => (hb i hi).symm)
  have hs16 := hs.le
  refine ba_ext (List.ext_getElem (by omega) fun i a b => ?_)
  have h := hb i (by omega)
  unfold rkb at h
  rw [List.getElem?_eq_getElem a, List.getElem?_eq_getElem b] at h
  simp only [Option.map_some, Option.getD_some] at h
  exact UInt8.toNat_inj.1 (by omega)

theorem lawRk : WideMaps.KeyLaw Tryz.prog 144 := deep_law_laid laidOutK (m := 4) (by omega) (of_decide_eq_true (by kernel_rfl)) (by kernel_rfl) (by kernel_rfl)
theorem keyedRk : Keyed Tryz.prog 144 := Keyed.of_law lawRk
theorem cellsRk : Tryz.prog.cellsOf 144 = 16 := by kernel_rfl
theorem keyTypeRk : Tryz.prog.keyType 144 = true := by kernel_rfl
theorem lits_u8 {P : Program} {q : TypeId} (hu : P.underlying q = some (.int .u8)) (d : Nat) {n : Int} (h : (Lit.int .u8 n).wf = true) : P.keyLits (d + 1) q [.int .u8 n] = some [.int .u8 n] := by
  unfold Program.keyLits
  rw [hu]
  simp [h]
theorem one_at {α : Type} (l : List α) (i : Nat) (h : i < l.length) : (l.drop i).take 1 = [l[i]] := by
  rw [List.drop_eq_getElem_cons h]; rfl
theorem mapM_some {α β : Type} (f : α → Option β) (g : α → β) : ∀ l : List α, (∀ x ∈ l, f x = some (g x)) → l.mapM f = some (l.map g)
  | [], _ => rfl
  | a :: r, h => by
    rw [List.mapM_cons, h a (by simp), mapM_some f g r (fun x hx => h x (by simp [hx]))]
    rfl
theorem lits_row {P : Program} {q r : TypeId} (hu : P.underlying q = some (.int .u8)) (hr : P.underlying r = some (.array 16 q)) (cq : P.cellsOf q = 1) (cr : P.cellsOf r = 16) (d : Nat) (f : Nat → Int) (hf : ∀ i, (Lit.int .u8 (f i)).wf = true) :
    P.keyLits (d + 2) r ((List.range 16).map fun i => Value.int .u8 (f i)) = some ((List.range 16).map fun i => Lit.int .u8 (f i)) := by
  unfold Program.keyLits
  rw [hr]
  simp only
  rw [if_pos (by rw [cr]; simp), cq]
  rw [mapM_some _ (fun i => [Lit.int .u8 (f i)]) _ (fun i hi => ?_)]
  · simp [show List.range 16 = [0, 1, 2, 3, 4, 5, 6, 7, 8, 9, 10, 11, 12, 13, 14, 15] from rfl]
  · have h16 : i < 16 := by simpa using hi
    rw [Nat.mul_one, one_at _ i (by simpa using h16)]
    simp only [List.getElem_map, List.getElem_range]
    exact lits_u8 hu d (hf i)
def rkL (s : ByteArray) : Lit := .string (keyBytes ((List.range 16).map fun i => Lit.int .u8 (rkb s i)))
theorem key_rk (s : ByteArray) : keyOf Tryz.prog 144 (rkV s) = some (rkL s) := by
  obtain ⟨m, hm⟩ := types3
  have h := lits_row (P := Tryz.prog) Tryz.underlying5 Tryz.underlying144 cellsU8 cellsRk (m + 2) (rkb s) (fun i => wf8 (rkb_bd s i).1 (rkb_bd s i).2)
  unfold keyOf
  simp only [Tryz.underlying144]
  rw [if_pos (by simp [keyTypeRk, rkV, Value.formed, Tryz.underlying144, cellsRk, rkCs]), hm]
  have e : (rkV s).cells.toList = (List.range 16).map fun i => Value.int .u8 (rkb s i) := by simp [rkV, Value.cells, rkCs]
  rw [e, show m + 3 + 1 = m + 2 + 2 by omega, h]
  rfl
theorem rkL_inj {s t : ByteArray} (hs : Nz s) (ht : Nz t) (h : rkL s = rkL t) : s = t :=
  rkV_inj hs ht (lawRk.inj (key_rk s) (h ▸ key_rk t))

theorem role_nz : ∀ l ∈ roleTexts, l.length ≤ 16 ∧ ∀ b ∈ l, b ≠ 0 := by decide
theorem txt_nz {k : Nat} (h : k < roleTexts.length) : Nz (txt roleTexts[k]) := by
  obtain ⟨h1, h2⟩ := role_nz _ (List.getElem_mem h)
  exact ⟨by unfold txt; simpa [ByteArray.size] using h1, by unfold txt; simpa using h2⟩
/-- block b is a map of the first k texts to their roles -/
def RoleMap (w : World) (b k : Nat) : Prop := ∃ D : DataW Unit, w.ownsMap Tryz.prog 144 (plainElem Tryz.prog 86) b k D ∧
  ∀ s : ByteArray, Nz s → ∀ zd, D.atKey (rkL s) zd = match plr k s.data.toList with | some i => .lit (.int .u64 (roleV (4 + i))) | none => zd
theorem RoleMap.lt {w : World} {b k : Nat} (h : RoleMap w b k) : b < w.heap.size := by obtain ⟨D, h, _⟩ := h; exact h.lt
theorem RoleMap.keep {w w' : World} {b k : Nat} (h : RoleMap w b k) (e : w'.heap[b]? = w.heap[b]?) : RoleMap w' b k := by
  obtain ⟨D, ⟨es, clock, hb, F, hs, hD⟩, h2⟩ := h
  exact ⟨D, ⟨es, clock, e.trans hb, F, hs, hD⟩, h2⟩
theorem RoleMap.ext {w w' : World} {b k : Nat} (h : RoleMap w b k) (x : Ext w w') : RoleMap w' b k := h.keep (x.block b h.lt)
theorem RoleMap.made (w : World) : RoleMap (w.alloc (.map #[] 0)) w.heap.size 0 := ⟨_, World.ownsMap_made w _ _ _, fun _ _ _ => rfl⟩
theorem RoleMap.put {w : World} {b k : Nat} {D : DataW Unit} (hk : k < roleTexts.length) (hm : IsMap D)
    (h : ∀ s : ByteArray, Nz s → ∀ zd, D.atKey (rkL s) zd = match plr k s.data.toList with | some i => .lit (.int .u64 (roleV (4 + i))) | none => zd)
    (hown : w.ownsMap Tryz.prog 144 (plainElem Tryz.prog 86) b (k + 1) (D.put (rkL (txt roleTexts[k])) (.lit (.int .u64 (roleV (4 + k)))))) : RoleMap w b (k + 1) := by
  refine ⟨_, hown, fun s hs' zd => ?_⟩
  have hs := txt_nz hk
  rw [plr, List.getElem?_eq_getElem hk]
  by_cases c : roleTexts[k] = s.data.toList
  · have c' : txt roleTexts[k] = s := ba_ext (by rw [← c]; rfl)
    rw [if_pos (by rw [c]), ← c', atKey_put_same hm (lawRk.str (key_rk _) |>.elim fun _ e => by rw [e]; trivial)]
  · rw [if_neg (fun x => c (by injection x)), atKey_put_other (fun x => c (by rw [rkL_inj hs' hs x]; rfl)), h s hs']

theorem hsz_alloc (w : World) (o : Obj) : (w.alloc o).heap.size = w.heap.size + 1 := by simp
theorem infoRk : (Tryz.prog.info? 144).map (·.size) = some 16 := by kernel_rfl
abbrev zero16 : Array Value := #[.int .u8 0, .int .u8 0, .int .u8 0, .int .u8 0, .int .u8 0, .int .u8 0, .int .u8 0, .int .u8 0, .int .u8 0, .int .u8 0, .int .u8 0, .int .u8 0, .int .u8 0, .int .u8 0, .int .u8 0, .int .u8 0]

/-- a block of a key's cells -/
def BlkR (w : World) (g : Nat) (cs : List Value) : Prop := w.heap[g]? = some (.cells cs.toArray 144 (0, 0))
theorem BlkR.cell {w : World} {g : Nat} {cs : List Value} (h : BlkR w g cs) (o : Nat) : w.cell? ⟨g, o, none⟩ = cs[o]? := by
  unfold BlkR at h
  simp [World.cell?, h]
theorem BlkR.frozen {w : World} {g : Nat} {cs : List Value} (h : BlkR w g cs) (o : Nat) : w.frozen? ⟨g, o, none⟩ = false := by
  unfold BlkR at h
  simp [World.frozen?, h]
theorem BlkR.range {w : World} {g : Nat} {cs : List Value} (h : BlkR w g cs) : w.rangeAt g 0 cs := fun j v hv => by rw [Nat.zero_add, h.cell, hv]
theorem BlkR.there {w : World} {g : Nat} {cs : List Value} (h : BlkR w g cs) : w.there g 0 cs.length := fun j hj => by
  rw [Nat.zero_add, h.cell, h.frozen, List.getElem?_eq_getElem hj]; exact ⟨rfl, rfl⟩
theorem ext_setCells {w : World} {b : Nat} (vs : List Value) : ∀ (o : Nat) (u : World) (_ : w.heap.size ≤ b), Ext w u → Ext w (u.setCells b o vs) := by
  induction vs with
  | nil => intro o u _ h; exact h
  | cons v r ih => intro o u hb h; exact ih (o + 1) _ hb (h.setCell hb v)
theorem infoU8k : (Tryz.prog.info? 5).map (·.size) = some 1 := by kernel_rfl
theorem rkCs_of {s : ByteArray} (hs : s.size ≤ 16) : (zero16.toList.take 0 ++ Lib.byteCells s.data.toList ++ zero16.toList.drop (0 + s.size)) = rkCs s := by
  have e1 := list_len s
  refine List.ext_getElem (by simp [rkCs, Lib.byteCells, e1]; omega) fun i h1 h2 => ?_
  have hi : i < 16 := by simpa [rkCs] using h2
  have hr : (rkCs s)[i] = Value.int .u8 (rkb s i) := by simp [rkCs]
  refine Eq.trans ?_ hr.symm
  simp only [List.take_zero, List.nil_append, Nat.zero_add]
  by_cases hlt : i < s.size
  · rw [List.getElem_append_left (by simp [Lib.byteCells]; omega)]
    unfold rkb
    rw [List.getElem?_eq_getElem (by omega)]
    simp [Lib.byteCells]
  · rw [List.getElem_append_right (by simp [Lib.byteCells]; omega)]
    unfold rkb
    rw [List.getElem?_eq_none (by omega)]
    have hz : ∀ x ∈ zero16.toList, x = Value.int .u8 0 := by simp
    rw [hz _ (List.mem_of_mem_drop (List.getElem_mem _))]
    rfl
theorem copy_rk (s : ByteArray) (hs : s.size ≤ 16) (u : World) : (Builtin.copy_ #[27, 9] 3 #[.slice (some ⟨u.heap.size, 0, none⟩) 16 16, .string s]).run Tryz.prog (u.alloc (.cells zero16 144)) =
    .ok (goInt s.size) (u.alloc (.cells (rkCs s).toArray 144)) := by
  have h := Lib.run_copy_row_string (P := Tryz.prog) (u.alloc (.cells zero16 144)) 27 9 3 5 u.heap.size 0 16 16 s zero16 144 Tryz.underlying27 infoU8k (heap_alloc_new u _) hs (by simpa using hs)
  rw [h, rkCs_of hs, World.setRow_alloc_new]

set_option maxRecDepth 100000 in
set_option maxHeartbeats 1000000 in
theorem keyOf_any (s : ByteArray) (w : World) (hs : s.size ≤ 16) :
    Calls Tryz.prog 79 #[.string s] w fun e w' => e = .returned (rkV s) ∧ Ext w w' := by
  have hcp := copy_rk s hs (w.alloc (.cells zero16 144))
  rw [hsz_alloc] at hcp
  go_enter Tryz.func79, Tryz.ntmps79
  go_upto_region 3 with (fail)
  clear hcp
  obtain ⟨wa, hwa⟩ : ∃ wa, wa = (w.alloc (.cells zero16 144)).alloc (.cells (rkCs s).toArray 144) := ⟨_, rfl⟩
  rw [← hwa]
  have HB : Hid (BlkR wa (w.heap.size + 1) (rkCs s)) := Lib.hid (by unfold BlkR; rw [hwa, ← hsz_alloc w (.cells zero16 144)]; exact heap_alloc_new _ _)
  have HZ : Hid (BlkR wa w.heap.size (rkCs ⟨#[]⟩)) := Lib.hid (by unfold BlkR; rw [hwa]; exact (Below.heap_alloc _ _ _ (by simp)).trans (heap_alloc_new w _))
  have hx : Ext w wa := by rw [hwa]; exact ((Ext.refl w).alloc _).alloc _
  clear hwa
  have hl : ∀ j, j < 16 → wa.cell? ⟨w.heap.size + 1, j, none⟩ = some (.int .u8 (rkb s j)) := fun j hj => by
    rw [HB.out.cell, List.getElem?_eq_getElem (by rw [rkCs_len]; exact hj)]; simp [rkCs]
  have hz : ∀ j, j < 16 → wa.cell? ⟨w.heap.size, j, none⟩ = some (.int .u8 (rkb ⟨#[]⟩ j)) := fun j hj => by
    rw [HZ.out.cell, List.getElem?_eq_getElem (by rw [rkCs_len]; exact hj)]; simp [rkCs]
  have hf : ∀ j, wa.frozen? ⟨w.heap.size, j, none⟩ = false := fun j => HZ.out.frozen j
  have l0 := hl 0 (by omega)
  have z0 := hz 0 (by omega)
  have f0 := hf 0
  have l1 := hl 1 (by omega)
  have z1 := hz 1 (by omega)
  have f1 := hf 1
  have l2 := hl 2 (by omega)
  have z2 := hz 2 (by omega)
  have f2 := hf 2
  have l3 := hl 3 (by omega)
  have z3 := hz 3 (by omega)
  have f3 := hf 3
  have l4 := hl 4 (by omega)
  have z4 := hz 4 (by omega)
  have f4 := hf 4
  have l5 := hl 5 (by omega)
  have z5 := hz 5 (by omega)
  have f5 := hf 5
  have l6 := hl 6 (by omega)
  have z6 := hz 6 (by omega)
  have f6 := hf 6
  have l7 := hl 7 (by omega)
  have z7 := hz 7 (by omega)
  have f7 := hf 7
  have l8 := hl 8 (by omega)
  have z8 := hz 8 (by omega)
  have f8 := hf 8
  have l9 := hl 9 (by omega)
  have z9 := hz 9 (by omega)
  have f9 := hf 9
  have l10 := hl 10 (by omega)
  have z10 := hz 10 (by omega)
  have f10 := hf 10
  have l11 := hl 11 (by omega)
  have z11 := hz 11 (by omega)
  have f11 := hf 11
  have l12 := hl 12 (by omega)
  have z12 := hz 12 (by omega)
  have f12 := hf 12
  have l13 := hl 13 (by omega)
  have z13 := hz 13 (by omega)
  have f13 := hf 13
  have l14 := hl 14 (by omega)
  have z14 := hz 14 (by omega)
  have f14 := hf 14
  have l15 := hl 15 (by omega)
  have z15 := hz 15 (by omega)
  have f15 := hf 15
  clear HB HZ hl hz hf
  go_wp2_with fail
  refine bodyPost_ret (v := rkV s) ?_ rfl ⟨rfl, ?_⟩
  · simp [results, Tryz.results79, go_sem, *]
    rfl
  · repeat (refine Ext.setCell ?_ (Nat.le_refl _) _)
    exact hx
end Go.Proofs.YtbjghkmjnhmlfaaGreatDoor
