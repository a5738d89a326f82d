/- Joined: Strs, Gat, Ris, NamW. -/
import Derived.Test.YthmpolifgngdiaaMB
import Derived.Test.YthmpolifgngdiaaOpen
import Derived.Test.YthmpolifgngdiaaKey
import Derived.Test.YthmpolifgngdiaaWf
import Derived.Test.YthmpolifgngdiaaMC

/- A slice of texts that a call has made itself. -/
namespace Go.Proofs.Ythmpolifgngdiaa
open Go.RowKit

def strCells (ss : List ByteArray) : List Value := ss.map Value.string
theorem strCells_one (ss : List ByteArray) : ∀ u ∈ strCells ss, u.oneCell' = true := by
  intro u hu
  obtain ⟨s, _, rfl⟩ := List.mem_map.1 hu
  rfl
theorem owned_strs {w : World} {base : Nat} {v : Value} {ss : List ByteArray} (h : w.ownsRow base 9 1 v ss.length (strCells ss)) (hs : ∀ s ∈ ss, s.size ≤ 140737488351232) :
    ∃ A c, v = .slice A ss.length c ∧ StrsAt w ss A := by
  rcases h.2 with ⟨rfl, h0⟩ | ⟨g, cap, cur, rfl, _, _, hc, _⟩
  · have e : ss = [] := List.eq_nil_of_length_eq_zero h0
    subst e
    exact ⟨none, 0, rfl, fun i hi => absurd hi (by simp)⟩
  · refine ⟨_, cap, rfl, fun i hi => ⟨g, 0, rfl, ?_, hs _ (List.getElem_mem hi)⟩⟩
    rw [Nat.zero_add, h.cellAt i (by omega)]
    simp [strCells, hi]
/-- what came in, as an append reads it -/
theorem StrsAt.news {w : World} {ss : List ByteArray} {ad : Addr} (h : StrsAt w ss (some ad)) : ∀ j u, (strCells ss)[j]? = some u → w.cell? (ad.add j) = some u := by
  intro j u hu
  have hj : j < ss.length := by
    rcases Nat.lt_or_ge j ss.length with h' | h'
    · exact h'
    · rw [List.getElem?_eq_none (by simpa [strCells] using h')] at hu; cases hu
  obtain ⟨b, o, e, hc, _⟩ := h j hj
  injection e with e
  subst e
  rw [add_addr, hc]
  simpa [strCells, hj] using hu
end Go.Proofs.Ythmpolifgngdiaa

/- term.gather: the labels of a term's variables, put into a map. -/
namespace Go.Proofs.Ythmpolifgngdiaa
open Go.RowKit Go.Maps

mutual
/-- the names of a term's variables, as they stand -/
def occ : Tm → List ByteArray
  | ⟨k, s, _, l⟩ => (if k = 1 then [s] else []) ++ occL l
def occL : List Tm → List ByteArray
  | [] => []
  | t :: ts => occ t ++ occL ts
end
theorem occ_eq (t : Tm) : occ t = (if t.kind = 1 then [t.name] else []) ++ occL t.args := by obtain ⟨k, s, n, l⟩ := t; rw [occ]
end Go.Proofs.Ythmpolifgngdiaa

/- Names that rise: two such lists with the same names are one; the page's variables of a term are such a list. -/
namespace Go.Proofs.Ythmpolifgngdiaa
open Go.RowKit

/-- a name as one number -/
def N16 (s : ByteArray) : Nat := nm 16 s.data.toList
/-- no byte 0, at most 16 bytes -/
def Good (s : ByteArray) : Prop := goodL s.data.toList ∧ s.size ≤ 16
theorem Good.len {s : ByteArray} (h : Good s) : s.data.toList.length ≤ 16 := by
  have e : s.data.toList.length = s.size := by rw [Array.length_toList]; rfl
  have := h.2; omega
theorem N16_inj {s t : ByteArray} (hs : Good s) (ht : Good t) (h : N16 s = N16 t) : s = t := name_ext (nm_inj 16 _ _ hs.1 ht.1 hs.len ht.len h)
theorem less_iff {s t : ByteArray} (hs : Good s) (ht : Good t) : Op.bytesLess s.toList t.toList = true ↔ N16 s < N16 t := by
  rw [ByteArray.toList_eq, ByteArray.toList_eq]; exact nm_less 16 _ _ hs.1 ht.1 hs.len ht.len
theorem beq_name {s t : ByteArray} : (s.toList == t.toList) = true ↔ s = t := by
  rw [ByteArray.toList_eq, ByteArray.toList_eq, beq_iff_eq]
  exact ⟨name_ext, fun h => by rw [h]⟩

def Rising (l : List ByteArray) : Prop := l.Pairwise fun a b => N16 a < N16 b
/-- one name put in -/
def insN : List ByteArray → ByteArray → List ByteArray
  | [], b => [b]
  | x :: l, b => if Op.bytesLess x.toList b.toList = true then x :: insN l b else if (x.toList == b.toList) = true then x :: l else b :: x :: l
theorem insN_mem {s b : ByteArray} : ∀ {l : List ByteArray}, s ∈ insN l b ↔ s ∈ l ∨ s = b
  | [] => by simp [insN]
  | x :: l => by
    rw [insN]
    split
    · simp only [List.mem_cons, insN_mem (l := l), or_assoc]
    · split
      · rename_i h
        have := beq_name.1 h
        subst this
        simp only [List.mem_cons]
        constructor
        · exact .inl
        · rintro (h | h)
          · exact h
          · exact .inl h
      · simp only [List.mem_cons]
        constructor
        · rintro (h | h)
          · exact .inr h
          · exact .inl h
        · rintro (h | h)
          · exact .inr h
          · exact .inl h
theorem insN_rising {b : ByteArray} (hb : Good b) : ∀ {l : List ByteArray}, (∀ s ∈ l, Good s) → Rising l → Rising (insN l b)
  | [], _, _ => by simp [insN, Rising]
  | x :: l, hg, h => by
    obtain ⟨h1, h2⟩ := List.pairwise_cons.1 h
    have hx := hg x (by simp)
    rw [insN]
    split
    · rename_i hl
      refine List.pairwise_cons.2 ⟨fun s hs => ?_, insN_rising hb (fun s hs => hg s (by simp [hs])) h2⟩
      rcases insN_mem.1 hs with h' | h'
      · exact h1 s h'
      · subst h'; exact (less_iff hx hb).1 hl
    · rename_i hl
      split
      · exact h
      · rename_i he
        have hlt : N16 b < N16 x := by
          rcases Nat.lt_trichotomy (N16 x) (N16 b) with c | c | c
          · exact absurd ((less_iff hx hb).2 c) hl
          · exact absurd (beq_name.2 (N16_inj hx hb c)) he
          · exact c
        refine List.pairwise_cons.2 ⟨fun s hs => ?_, h⟩
        rcases List.mem_cons.1 hs with e | e
        · subst e; exact hlt
        · have := h1 s e; omega
/-- all of one list put into another -/
def namesN (a b : List ByteArray) : List ByteArray := b.foldl insN a
theorem namesN_mem {s : ByteArray} : ∀ {b a : List ByteArray}, s ∈ namesN a b ↔ s ∈ a ∨ s ∈ b
  | [], a => by simp [namesN]
  | x :: b, a => by
    show s ∈ namesN (insN a x) b ↔ _
    rw [namesN_mem (b := b), insN_mem, List.mem_cons, or_assoc]
theorem namesN_rising : ∀ {b a : List ByteArray}, (∀ s ∈ a, Good s) → (∀ s ∈ b, Good s) → Rising a → Rising (namesN a b)
  | [], _, _, _, h => h
  | x :: b, a, ha, hb, h => by
    refine namesN_rising (b := b) (a := insN a x) (fun s hs => ?_) (fun s hs => hb s (by simp [hs])) (insN_rising (hb x (by simp)) ha h)
    rcases insN_mem.1 hs with e | e
    · exact ha s e
    · subst e; exact hb s (by simp)
theorem insN_len (b : ByteArray) : ∀ l : List ByteArray, (insN l b).length ≤ l.length + 1
  | [] => by simp [insN]
  | x :: l => by have := insN_len b l; rw [insN]; split <;> (try split) <;> simp <;> omega
theorem namesN_len : ∀ b a : List ByteArray, (namesN a b).length ≤ a.length + b.length
  | [], a => by simp [namesN]
  | x :: b, a => by
    have h1 := namesN_len b (insN a x)
    have h2 := insN_len x a
    have e : namesN a (x :: b) = namesN (insN a x) b := rfl
    rw [e]; simp only [List.length_cons]; omega

mutual
/-- the page's variables of a term -/
def varsT : Tm → List ByteArray
  | ⟨k, s, _, l⟩ => if (k == 1) = true then [s] else varsL l []
def varsL : List Tm → List ByteArray → List ByteArray
  | [], acc => acc
  | t :: ts, acc => varsL ts (namesN acc (varsT t))
end
theorem varsT_eq (t : Tm) : varsT t = if (t.kind == 1) = true then [t.name] else varsL t.args [] := by obtain ⟨k, s, n, l⟩ := t; rw [varsT]

theorem good_of_plain {t : Tm} (h : plainB t = true) (hk : t.kind = 1) : Good t.name ∧ t.args = [] := by
  refine ⟨⟨goodL_of_plain h, ?_⟩, ?_⟩
  · unfold plainB at h; simp [hk] at h
    have := h.1.1; unfold wordB at this; simp at this; omega
  · unfold plainB at h; simp [hk] at h; exact h.2
theorem vars_of (hh : Nat) : ∀ t : Tm, t.high ≤ hh → allP t → Rising (varsT t) ∧ (∀ s ∈ varsT t, Good s) ∧ ∀ s, s ∈ varsT t ↔ s ∈ occ t := by
  have step : ∀ hh : Nat, (∀ t : Tm, t.high ≤ hh → allP t → Rising (varsT t) ∧ (∀ s ∈ varsT t, Good s) ∧ ∀ s, s ∈ varsT t ↔ s ∈ occ t) →
      ∀ (ts : List Tm) (acc : List ByteArray), highs ts ≤ hh → allPs ts → Rising acc → (∀ s ∈ acc, Good s) → Rising (varsL ts acc) ∧ (∀ s ∈ varsL ts acc, Good s) ∧ ∀ s, s ∈ varsL ts acc ↔ s ∈ acc ∨ s ∈ occL ts := by
    intro hh h ts
    induction ts with
    | nil => intro acc _ _ h1 h2; exact ⟨h1, h2, fun s => by simp [varsL, occL]⟩
    | cons t ts ih =>
      intro acc hn hp h1 h2
      simp only [highs] at hn
      obtain ⟨hp1, hp2⟩ := hp
      obtain ⟨r1, r2, r3⟩ := h t (by omega) hp1
      obtain ⟨q1, q2, q3⟩ := ih (namesN acc (varsT t)) (by omega) hp2 (namesN_rising h2 r2 h1) (fun s hs => by
        rcases namesN_mem.1 hs with e | e
        · exact h2 s e
        · exact r2 s e)
      rw [varsL]
      exact ⟨q1, q2, fun s => by rw [q3, namesN_mem, r3, occL, List.mem_append, or_assoc]⟩
  induction hh with
  | zero => intro t h; have := high_pos t; omega
  | succ hh ih =>
    intro t ht hp
    rw [varsT_eq, occ_eq]
    obtain ⟨k, s, n, l⟩ := t
    obtain ⟨hp1, hp2⟩ := hp
    simp only [Tm.high] at ht
    by_cases hk : k = 1
    · obtain ⟨g, e⟩ := good_of_plain hp1 hk
      simp only at g e
      subst e
      simp [hk, occL, Rising, g]
    · have hk' : ¬ (k == 1) = true := by simpa using hk
      simp only [hk, if_false, if_neg hk', List.nil_append]
      obtain ⟨q1, q2, q3⟩ := step hh ih l [] (by omega) hp2 List.Pairwise.nil (fun s hs => by simp at hs)
      exact ⟨q1, q2, fun s => by rw [q3]; simp⟩
theorem occ_len (hh : Nat) : ∀ t : Tm, t.high ≤ hh → ((occ t).length : Int) ≤ sizeT t := by
  have step : ∀ hh : Nat, (∀ t : Tm, t.high ≤ hh → ((occ t).length : Int) ≤ sizeT t) → ∀ (ts : List Tm) (n : Int), highs ts ≤ hh → ((occL ts).length : Int) + n ≤ sizeL ts n := by
    intro hh h ts
    induction ts with
    | nil => intro n _; simp [occL, sizeL]
    | cons t ts ih =>
      intro n hn
      simp only [highs] at hn
      have h1 := h t (by omega)
      have h2 := ih (n + sizeT t) (by omega)
      rw [sizeL, occL, List.length_append]
      omega
  induction hh with
  | zero => intro t h; have := high_pos t; omega
  | succ hh ih =>
    intro t ht
    obtain ⟨k, s, n, l⟩ := t
    simp only [Tm.high] at ht
    have := step hh ih l 1 (by omega)
    rw [occ, sizeT, List.length_append]
    split <;> simp <;> omega
theorem ground_occ (hh : Nat) : ∀ t : Tm, t.high ≤ hh → (groundT t = true ↔ occ t = []) := by
  have step : ∀ hh : Nat, (∀ t : Tm, t.high ≤ hh → (groundT t = true ↔ occ t = [])) → ∀ ts : List Tm, highs ts ≤ hh → (groundL ts = true ↔ occL ts = []) := by
    intro hh h ts
    induction ts with
    | nil => intro _; simp [groundL, occL]
    | cons t ts ih =>
      intro hn
      simp only [highs] at hn
      rw [groundL, occL, Bool.and_eq_true, List.append_eq_nil_iff, h t (by omega), ih (by omega)]
  induction hh with
  | zero => intro t h; have := high_pos t; omega
  | succ hh ih =>
    intro t ht
    obtain ⟨k, s, n, l⟩ := t
    simp only [Tm.high] at ht
    rw [groundT, occ, Bool.and_eq_true, List.append_eq_nil_iff, step hh ih l (by omega)]
    by_cases hk : k = 1 <;> simp [hk]
theorem ground_vars {t : Tm} (h : mayB t = true) : (((varsT t).length : Int) == 0) = groundT t := by
  obtain ⟨_, _, h3⟩ := vars_of t.high t (Nat.le_refl _) (may_all h)
  have h4 := ground_occ t.high t (Nat.le_refl _)
  have e : varsT t = [] ↔ occ t = [] := by
    rw [List.eq_nil_iff_forall_not_mem, List.eq_nil_iff_forall_not_mem]
    exact ⟨fun h s hs => h s ((h3 s).2 hs), fun h s hs => h s ((h3 s).1 hs)⟩
  rw [Bool.eq_iff_iff, h4, ← e, beq_iff_eq]
  constructor
  · intro h; exact List.eq_nil_of_length_eq_zero (by omega)
  · intro h; rw [h]; rfl
theorem may_occ {t : Tm} (h : mayB t = true) : (occ t).length ≤ 24 := by
  have h1 := occ_len t.high t (Nat.le_refl _)
  have h2 := may_size h
  omega
end Go.Proofs.Ythmpolifgngdiaa

/- The walk of term.names. -/
namespace Go.Proofs.Ythmpolifgngdiaa
open Go.RowKit Go.Maps Go.Lib

/-- a row of texts that is nobody's else, from block g on -/
def StrOwn (w : World) (ss : List ByteArray) (g : Nat) : Prop := g < w.heap.size ∧ ∀ i (h : i < ss.length), w.cell? ⟨g, i, none⟩ = some (.string ss[i]) ∧ w.frozen? ⟨g, i, none⟩ = false
theorem StrOwn.ext {w w' : World} {ss : List ByteArray} {g : Nat} (h : StrOwn w ss g) (k : Ext w w') : StrOwn w' ss g :=
  ⟨Nat.lt_of_lt_of_le h.1 k.size, fun i hi => ⟨k.cell (h.2 i hi).1, (Below.frozen k h.1).trans (h.2 i hi).2⟩⟩
/-- .. filled so far -/
def StrFill (w : World) (ss : List ByteArray) (g k : Nat) : Prop := g < w.heap.size ∧ ∀ i (h : i < ss.length), w.cell? ⟨g, i, none⟩ = some (.string (if i < k then ss[i] else ⟨#[]⟩)) ∧ w.frozen? ⟨g, i, none⟩ = false
theorem StrFill.ext {w w' : World} {ss : List ByteArray} {g k : Nat} (h : StrFill w ss g k) (x : Ext w w') : StrFill w' ss g k :=
  ⟨Nat.lt_of_lt_of_le h.1 x.size, fun i hi => ⟨x.cell (h.2 i hi).1, (Below.frozen x h.1).trans (h.2 i hi).2⟩⟩
theorem StrFill.done {w : World} {ss : List ByteArray} {g k : Nat} (h : StrFill w ss g k) (hk : ss.length ≤ k) : StrOwn w ss g :=
  ⟨h.1, fun i hi => by have := h.2 i hi; rwa [if_pos (by omega)] at this⟩
theorem infoStr : (Try.prog.info? 9).map (fun i => (i.zero, i.size, i.bytes)) = some (some (.string ⟨#[]⟩), 1, 16) := by kernel_rfl
end Go.Proofs.Ythmpolifgngdiaa
