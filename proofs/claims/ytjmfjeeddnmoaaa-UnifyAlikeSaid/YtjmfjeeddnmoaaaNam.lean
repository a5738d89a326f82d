/- term.names: the names of a map's labels, rising. -/
import Derived.Test.YtjmfjeeddnmoaaaRis
import Derived.Test.YtjmfjeeddnmoaaaUnp
import Derived.Test.YtjmfjeeddnmoaaaLayA
import Derived.Shelf.SlSortCmp.WholeK
namespace Go.Proofs.Ytjmfjeeddnmoaaa
open Go.RowKit Go.Maps Go.Sort Go.Shelf Go.Lib

def encLab (p : Int × Int) : List Value := [.int .u64 p.1, .int .u64 p.2]
def labCells (xs : List (Int × Int)) : List Value := xs.flatMap encLab
def labCf (p q : Int × Int) : Int := labI p.1 p.2 q.1 q.2

theorem labCf_lt (p q : Int × Int) : ltOf labCf p q = decide (p.1 < q.1 ∨ p.1 = q.1 ∧ p.2 < q.2) := by
  unfold ltOf labCf labI sgn
  rw [Bool.eq_iff_iff, decide_eq_true_eq, decide_eq_true_eq]
  rcases Int.lt_trichotomy p.1 q.1 with h | h | h
  · simp [h]
  · rcases Int.lt_trichotomy p.2 q.2 with k | k | k
    · simp [h, k]
    · simp [h, k]
    · have : ¬ p.2 < q.2 := by omega
      simp [h, k, this]
  · have h1 : ¬ p.1 < q.1 := by omega
    have h2 : ¬ p.1 = q.1 := by omega
    simp [h, h1, h2]
theorem swoLab : SWO (ltOf labCf) where
  irrefl x := by rw [labCf_lt]; simp
  trans x y z h1 h2 := by rw [labCf_lt] at *; simp at *; omega
  ntrans x y z h1 h2 := by rw [labCf_lt] at *; simp at *; omega

theorem labels_grow (a b c d : Int) (w : World) :
    Calls Try.prog 112 #[.agg #[.int .u64 a, .int .u64 b], .agg #[.int .u64 c, .int .u64 d]] w fun e w' => e = .returned (.int .i64 (labI a b c d)) ∧ ∃ q os', w' = grow (w.drewN q) os' := by
  have E : Hid (labI a b c d = if (sgn a c != 0) = true then sgn a c else sgn b d) := Lib.hid rfl
  go_enter Try.func112, Try.ntmps112
  go_wp2_with (go_at_call 141; refine (cmp_u64 _ _ _).mono ?_; rintro e w' ⟨rfl, rfl⟩)
  all_goals
    go_ret
    exact ⟨ret_int (by rw [E.out]; simp [*]), 0, _, by rw [alloc_eq_grow, alloc_eq_grow, grow_grow]; rfl⟩

theorem chg_sort (w : World) (blk off n : Nat) (d : Array (Int × Int)) (os : Array Obj) : Chg (· = blk) w (sortWorldK encLab 2 w blk off n d os) := by
  refine ⟨rfl, rfl, rfl, ?_, fun k hk hne => ?_⟩
  · simp [sortWorldK, grow, putRowK, putRow, mapBlock, Sort.ahead]
  · unfold sortWorldK putRowK putRow
    rw [heap_grow_old _ _ (by simpa [mapBlock, Sort.ahead] using hk)]
    simp only [mapBlock, Sort.ahead, Array.getElem?_modify]
    rw [if_neg (fun e => hne e.symm)]

theorem labCells_at (xs : List (Int × Int)) (i j : Nat) (hi : i < xs.length) (hj : j < 2) : (labCells xs)[i * 2 + j]? = (encLab xs[i])[j]? := by
  induction xs generalizing i with
  | nil => simp at hi
  | cons p r ih =>
    cases i with
    | zero => match j, hj with
      | 0, _ => simp [labCells, encLab]
      | 1, _ => simp [labCells, encLab]
    | succ i =>
      have := ih i (by simpa using hi)
      rw [show (i + 1) * 2 + j = 2 + (i * 2 + j) by omega]
      simp only [List.getElem_cons_succ]
      rw [← this]
      show (encLab p ++ labCells r)[2 + (i * 2 + j)]? = _
      rw [List.getElem?_append_right (by simp [encLab])]
      simp [encLab]
theorem labCells_snoc (xs : List (Int × Int)) (p : Int × Int) : labCells (xs ++ [p]) = labCells xs ++ encLab p := by simp [labCells]
/-- the row as the sort takes it -/
theorem holds_lab {w : World} {base : Nat} {g c : Nat} {xs : List (Int × Int)} (h : w.ownsRow base 123 2 (.slice (some ⟨g, 0, none⟩) xs.length c) xs.length (labCells xs)) : HoldsK encLab 2 w g 0 xs.toArray := by
  intro t ht
  have ht' : t < xs.length * 2 := by simpa using ht
  have hd : t / 2 < xs.length := by omega
  rw [get_flatK _ _ _ _ (by simpa using ht'), Nat.zero_add, h.cellAt t (by omega)]
  refine ⟨?_, h.frozenAt t⟩
  have e := labCells_at xs (t / 2) (t % 2) hd (by omega)
  rw [show t / 2 * 2 + t % 2 = t by omega] at e
  rw [e, getElem!_pos xs.toArray (t / 2) (by simpa using hd)]
  have hl : t % 2 < (encLab xs[t / 2]).length := by simp [encLab]; omega
  simp only [List.getElem_toArray, id]
  rw [List.getElem?_eq_getElem hl, getElem!_pos (encLab xs[t / 2]) (t % 2) hl]
/-- .. and as it leaves it -/
theorem holdsK_lab {w : World} {g : Nat} {d : Array (Int × Int)} (h : HoldsK encLab 2 w g 0 d) (i : Nat) (hi : i < d.toList.length) :
    w.cell? ⟨g, i * 2, none⟩ = some (.int .u64 d.toList[i].1) ∧ w.cell? ⟨g, i * 2 + 1, none⟩ = some (.int .u64 d.toList[i].2) := by
  have hi' : i < d.size := by simpa using hi
  have e : d[i]! = d.toList[i] := by rw [getElem!_pos d i hi']; simp
  have h0 := (h (i * 2) (by simp; omega)).1
  have h1 := (h (i * 2 + 1) (by simp; omega)).1
  rw [get_flatK _ _ _ _ (by omega), show i * 2 / 2 = i by omega, show i * 2 % 2 = 0 by omega, e] at h0
  rw [get_flatK _ _ _ _ (by omega), show (i * 2 + 1) / 2 = i by omega, show (i * 2 + 1) % 2 = 1 by omega, e] at h1
  rw [Nat.zero_add] at h0 h1
  exact ⟨h0, h1⟩

/-- the labels that have come so far -/
structure Coll (D : DataW Unit) (left : Lit → Bool) (xs : List (Int × Int)) : Prop where
  nodup : xs.Nodup
  wf : ∀ p ∈ xs, (Lit.int .u64 p.1).wf = true ∧ (Lit.int .u64 p.2).wf = true
  mem : ∀ p : Int × Int, (Lit.int .u64 p.1).wf = true → (Lit.int .u64 p.2).wf = true → (p ∈ xs ↔ has D (labK p.1 p.2) = true ∧ left (labK p.1 p.2) = false)
theorem Coll.start (D : DataW Unit) : Coll D (has D) [] := ⟨List.nodup_nil, fun p hp => by simp at hp, fun p _ _ => by cases has D (labK p.1 p.2) <;> simp⟩
theorem Coll.step {D : DataW Unit} {left : Lit → Bool} {xs : List (Int × Int)} (h : Coll D left xs) {p : Int × Int} {y : DataW Unit} (h1 : (Lit.int .u64 p.1).wf = true) (h2 : (Lit.int .u64 p.2).wf = true) (hl : left (labK p.1 p.2) = true) (hat : ∀ zd, D.atKey (labK p.1 p.2) zd = y) :
    Coll D (fun z => left z && !z.sameKey (labK p.1 p.2)) (xs ++ [p]) := by
  have hhas : has D (labK p.1 p.2) = true := has_true_of_atKey hat
  have hnew : p ∉ xs := fun hx => by have := ((h.mem p h1 h2).1 hx).2; rw [hl] at this; cases this
  refine ⟨List.nodup_append.2 ⟨h.nodup, by simp, fun a ha b hb => by simp at hb; subst hb; exact fun e => hnew (e ▸ ha)⟩, fun q hq => ?_, fun q w1 w2 => ?_⟩
  · rcases List.mem_append.1 hq with e | e
    · exact h.wf q e
    · simp at e; subst e; exact ⟨h1, h2⟩
  · by_cases e : q = p
    · subst e
      have hs : (labK q.1 q.2).sameKey (labK q.1 q.2) = true := by simp [labK, Lit.sameKey]
      simp [hhas, hs]
    · have hne : ¬ labK q.1 q.2 = labK p.1 p.2 := fun k => by
        obtain ⟨e1, e2⟩ := labK_inj w1 w2 h1 h2 k
        exact e (Prod.ext e1 e2)
      have hs : (labK q.1 q.2).sameKey (labK p.1 p.2) = false := by
        cases hc : (labK q.1 q.2).sameKey (labK p.1 p.2)
        · rfl
        · exact absurd (WideAt.sameKey_eq hc) hne
      simp [h.mem q w1 w2, e, hs]
/-- in the end -/
theorem Coll.done {D : DataW Unit} {left : Lit → Bool} {xs : List (Int × Int)} {L : List ByteArray} (h : Coll D left xs) (hl : ∀ kl, left kl = false)
    (hD : ∀ x y, (Lit.int .u64 x).wf = true → (Lit.int .u64 y).wf = true → (has D (labK x y) = true ↔ ∃ s ∈ L, (x, y) = labOf s)) : ∀ p, p ∈ xs ↔ ∃ s ∈ L, p = labOf s := by
  intro p
  constructor
  · intro hp
    obtain ⟨w1, w2⟩ := h.wf p hp
    exact (hD p.1 p.2 w1 w2).1 ((h.mem p w1 w2).1 hp).1
  · rintro ⟨s, hs, rfl⟩
    obtain ⟨w1, w2⟩ := labOf_wf s
    exact (h.mem _ w1 w2).2 ⟨(hD _ _ w1 w2).2 ⟨s, hs, rfl⟩, hl _⟩

theorem names_of : ∀ (ys : List (Int × Int)) (L : List ByteArray), (∀ p ∈ ys, ∃ s ∈ L, p = labOf s) → ∃ ss : List ByteArray, ys = ss.map labOf ∧ ∀ s ∈ ss, s ∈ L
  | [], _, _ => ⟨[], rfl, fun s hs => by simp at hs⟩
  | p :: ys, L, h => by
    obtain ⟨s, hs, rfl⟩ := h p (by simp)
    obtain ⟨ss, rfl, hm⟩ := names_of ys L (fun q hq => h q (by simp [hq]))
    refine ⟨s :: ss, rfl, fun x hx => ?_⟩
    rcases List.mem_cons.1 hx with e | e
    · subst e; exact hs
    · exact hm x e
theorem labOf_lt {s t : ByteArray} (h : (labOf s).1 < (labOf t).1 ∨ (labOf s).1 = (labOf t).1 ∧ (labOf s).2 < (labOf t).2) : N16 s < N16 t := by
  have e : (256 : Nat) ^ 8 = 18446744073709551616 := by decide
  have h1 : nm 16 s.data.toList = nm 8 s.data.toList * 256 ^ 8 + nm 8 (s.data.toList.drop 8) := nm_join 8 8 _
  have h2 : nm 16 t.data.toList = nm 8 t.data.toList * 256 ^ 8 + nm 8 (t.data.toList.drop 8) := nm_join 8 8 _
  have b1 := nm_lt8 (s.data.toList.drop 8)
  have b2 := nm_lt8 (t.data.toList.drop 8)
  unfold N16
  unfold labOf at h
  simp only at h
  rw [e] at h1 h2
  omega
theorem labOf_inj {s t : ByteArray} (hs : Good s) (ht : Good t) (h : labOf s = labOf t) : s = t := by
  refine N16_inj hs ht ?_
  have h1 : nm 16 s.data.toList = nm 8 s.data.toList * 256 ^ 8 + nm 8 (s.data.toList.drop 8) := nm_join 8 8 _
  have h2 : nm 16 t.data.toList = nm 8 t.data.toList * 256 ^ 8 + nm 8 (t.data.toList.drop 8) := nm_join 8 8 _
  unfold labOf at h
  simp only [Prod.mk.injEq] at h
  unfold N16
  rw [h1, h2, show nm 8 s.data.toList = nm 8 t.data.toList by omega, show nm 8 (s.data.toList.drop 8) = nm 8 (t.data.toList.drop 8) by omega]

/-- what was sorted, as names -/
theorem sorted_names {xs : List (Int × Int)} {d' : Array (Int × Int)} {L : List ByteArray} (hg : ∀ s ∈ L, Good s) (hnd : xs.Nodup) (hm : ∀ p, p ∈ xs ↔ ∃ s ∈ L, p = labOf s) (hp : PermIn 0 xs.toArray.size xs.toArray d') (hs : SortedIn (ltOf labCf) 0 xs.toArray.size d') :
    ∃ ss : List ByteArray, d'.toList = ss.map labOf ∧ Rising ss ∧ (∀ s, s ∈ ss ↔ s ∈ L) ∧ d'.size = xs.length := by
  obtain ⟨h1, _, h3⟩ := hp
  have hsz : d'.size = xs.length := by simpa using h1
  have perm : d'.toList.Perm xs := by
    rw [← h1] at h3
    have e1 : d'.extract 0 d'.size = d' := by simp
    have e2 : xs.toArray.extract 0 d'.size = xs.toArray := by rw [h1]; simp
    rw [e1, e2] at h3
    exact h3
  have hm' : ∀ p, p ∈ d'.toList ↔ ∃ s ∈ L, p = labOf s := fun p => by rw [perm.mem_iff, hm]
  obtain ⟨ss, e, hss⟩ := names_of d'.toList L (fun p hp => (hm' p).1 hp)
  have hnd' : d'.toList.Nodup := perm.nodup_iff.2 hnd
  refine ⟨ss, e, ?_, fun s => ⟨hss s, fun hs => ?_⟩, hsz⟩
  · have hl : d'.toList.length = ss.length := by rw [e]; simp
    unfold Rising
    rw [List.pairwise_iff_getElem]
    intro i j hi hj hij
    have hsi : d'[i]! = labOf ss[i] := by
      have : i < d'.size := by have : d'.toList.length = d'.size := by simp
                               omega
      rw [getElem!_pos d' i this, ← Array.getElem_toList (by simpa using this)]
      simp [e]
    have hsj : d'[j]! = labOf ss[j] := by
      have : j < d'.size := by have : d'.toList.length = d'.size := by simp
                               omega
      rw [getElem!_pos d' j this, ← Array.getElem_toList (by simpa using this)]
      simp [e]
    have hlt := hs i j (Nat.zero_le _) hij (by have : d'.toList.length = d'.size := by simp
                                               simp; omega)
    rw [hsi, hsj, labCf_lt, decide_eq_false_iff_not] at hlt
    have hne : labOf ss[i] ≠ labOf ss[j] := by
      rw [e] at hnd'
      have := (List.pairwise_iff_getElem.1 hnd') i j (by simpa using hi) (by simpa using hj) hij
      simpa using this
    apply labOf_lt
    by_cases e1 : (labOf ss[i]).1 = (labOf ss[j]).1
    · have : ¬ (labOf ss[i]).2 = (labOf ss[j]).2 := fun e2 => hne (Prod.ext e1 e2)
      omega
    · omega
  · have : labOf s ∈ ss.map labOf := by rw [← e]; exact (hm' _).2 ⟨s, hs, rfl⟩
    obtain ⟨t, ht, e'⟩ := List.mem_map.1 this
    rw [← labOf_inj (hg t (hss t ht)) (hg s hs) e']
    exact ht
end Go.Proofs.Ytjmfjeeddnmoaaa
