/- Joined: Tm, Row, Ext. -/
import Derived.Test.YtbjghkmjnhmlfaaGreatDoorRows
import Derived.WalkKit
import Derived.Lib.Hide
import Derived.Deep.Draws
import Derived.Deep.QuietTactic
import Derived.BigQuiet

/- Terms as plain data, and what it means that a value is one in memory. -/
namespace Go.Proofs.YtbjghkmjnhmlfaaGreatDoor
open Go.RowKit

theorem ret_bool {a b : Bool} (h : a = b) : Ending.returned (.bool a) = .returned (.bool b) := by rw [h]
theorem ret_int {k : IntKind} {a b : Int} (h : a = b) : Ending.returned (.int k a) = .returned (.int k b) := by rw [h]

/-- a term: its kind, name, number and arguments -/
structure Tm where
  kind : Int
  name : ByteArray
  n : Int
  args : List Tm

mutual
/-- how high the tree is: for inductions -/
def Tm.high : Tm → Nat
  | ⟨_, _, _, l⟩ => highs l + 1
def highs : List Tm → Nat
  | [] => 0
  | t :: ts => max t.high (highs ts)
end

theorem high_le {t : Tm} {ts : List Tm} (h : t ∈ ts) : t.high ≤ highs ts := by
  induction ts with
  | nil => cases h
  | cons a r ih =>
    simp only [highs]
    rcases List.mem_cons.1 h with e | e
    · subst e; omega
    · have := ih e; omega
theorem high_lt {t : Tm} {i : Nat} (h : i < t.args.length) : t.args[i].high < t.high := by
  have := high_le (List.getElem_mem h)
  obtain ⟨k, s, n, l⟩ := t
  simp only [Tm.high] at *
  omega

/-- the value of a term whose arguments lie from A on -/
abbrev Tm.val (t : Tm) (A : Option Addr) (c : Nat) : Value := .agg #[.int .i64 t.kind, .string t.name, .int .i64 t.n, .slice A t.args.length c]

/-- what any machine's term keeps to -/
structure Tm.Fits (t : Tm) : Prop where
  kind : (Lit.int .i64 t.kind).wf = true
  n : (Lit.int .i64 t.n).wf = true
  name : t.name.size ≤ 140737488351232
  args : t.args.length * 56 ≤ 140737488351232

/-- from A on lie the four cells of each term -/
def RowAt (w : World) (ts : List Tm) (A : Option Addr) (g : Nat → Option Addr) (d : Nat → Nat) : Prop :=
  ∀ i (h : i < ts.length), ∃ b o, A = some ⟨b, o, none⟩ ∧ w.cell? ⟨b, o + i * 4, none⟩ = some (.int .i64 ts[i].kind) ∧ w.cell? ⟨b, o + i * 4 + 1, none⟩ = some (.string ts[i].name) ∧
    w.cell? ⟨b, o + i * 4 + 2, none⟩ = some (.int .i64 ts[i].n) ∧ w.cell? ⟨b, o + i * 4 + 3, none⟩ = some (.slice (g i) ts[i].args.length (d i))

/-- the arguments of t, and theirs, lie in memory from A on -/
inductive TmAt (w : World) : Tm → Option Addr → Nat → Prop
  | mk (t : Tm) (A : Option Addr) (c : Nat) (g : Nat → Option Addr) (d : Nat → Nat) (fits : t.Fits) (cap : t.args.length ≤ c) (row : RowAt w t.args A g d)
      (sub : ∀ i (h : i < t.args.length), TmAt w t.args[i] (g i) (d i)) : TmAt w t A c

/-- a slice of terms from A on -/
def TmsAt (w : World) (ts : List Tm) (A : Option Addr) : Prop := ∃ g d, RowAt w ts A g d ∧ ∀ i (h : i < ts.length), TmAt w ts[i] (g i) (d i)

/-- nothing that was there has turned -/
def Ext (w w' : World) : Prop := Below w.heap.size w w'

theorem Ext.refl (w : World) : Ext w w := Below.refl _ _
theorem Ext.trans {a b c : World} (h : Ext a b) (k : Ext b c) : Ext a c := Below.trans h (Below.mono k (Below.size h))
theorem Ext.alloc {a w : World} (h : Ext a w) (o : Obj) : Ext a (w.alloc o) := Below.alloc h (Below.size h) o
theorem Ext.drew {a w : World} (h : Ext a w) : Ext a w.drew := Below.drew h
theorem Ext.drewN {a w : World} (h : Ext a w) (n : Nat) : Ext a (w.drewN n) := ⟨h.os, h.tape, h.output, h.size, h.block⟩
theorem Ext.setCell {a w : World} (h : Ext a w) {p : Addr} (hp : a.heap.size ≤ p.block) (u : Value) : Ext a (w.setCell p u) := Below.setCell h hp u
theorem Ext.cell {w w' : World} (h : Ext w w') {p : Addr} {v : Value} (hc : w.cell? p = some v) : w'.cell? p = some v := by
  rw [Below.cell h (World.block_lt_of_cell? w _ hc), hc]

theorem RowAt.ext {w w' : World} {ts : List Tm} {A : Option Addr} {g : Nat → Option Addr} {d : Nat → Nat} (h : RowAt w ts A g d) (k : Ext w w') : RowAt w' ts A g d := by
  intro i hi
  obtain ⟨b, o, e, h0, h1, h2, h3⟩ := h i hi
  exact ⟨b, o, e, k.cell h0, k.cell h1, k.cell h2, k.cell h3⟩
theorem TmAt.ext {w w' : World} {t : Tm} {A : Option Addr} {c : Nat} (h : TmAt w t A c) (k : Ext w w') : TmAt w' t A c := by
  induction h with
  | mk t A c g d fits cap row sub ih => exact .mk t A c g d fits cap (row.ext k) ih
theorem TmsAt.ext {w w' : World} {ts : List Tm} {A : Option Addr} (h : TmsAt w ts A) (k : Ext w w') : TmsAt w' ts A := by
  obtain ⟨g, d, hr, hs⟩ := h
  exact ⟨g, d, hr.ext k, fun i hi => (hs i hi).ext k⟩
theorem TmAt.fits {w : World} {t : Tm} {A : Option Addr} {c : Nat} (h : TmAt w t A c) : t.Fits := by cases h; assumption
theorem TmAt.cap {w : World} {t : Tm} {A : Option Addr} {c : Nat} (h : TmAt w t A c) : t.args.length ≤ c := by cases h; assumption
theorem TmAt.args {w : World} {t : Tm} {A : Option Addr} {c : Nat} (h : TmAt w t A c) : TmsAt w t.args A := by
  cases h with
  | mk _ _ _ g d fits cap row sub => exact ⟨g, d, row, sub⟩
/-- one of them -/
theorem TmsAt.at_ {w : World} {ts : List Tm} {A : Option Addr} (h : TmsAt w ts A) {i : Nat} (hi : i < ts.length) : ∃ b o B e, A = some ⟨b, o, none⟩ ∧ w.cell? ⟨b, o + i * 4, none⟩ = some (.int .i64 ts[i].kind) ∧
    w.cell? ⟨b, o + i * 4 + 1, none⟩ = some (.string ts[i].name) ∧ w.cell? ⟨b, o + i * 4 + 2, none⟩ = some (.int .i64 ts[i].n) ∧
    w.cell? ⟨b, o + i * 4 + 3, none⟩ = some (.slice B ts[i].args.length e) ∧ TmAt w ts[i] B e := by
  obtain ⟨g, d, hr, hs⟩ := h
  obtain ⟨b, o, e, h0, h1, h2, h3⟩ := hr i hi
  exact ⟨b, o, g i, d i, e, h0, h1, h2, h3, hs i hi⟩

/-- a slice of texts from A on -/
def StrsAt (w : World) (ss : List ByteArray) (A : Option Addr) : Prop :=
  ∀ i (h : i < ss.length), ∃ b o, A = some ⟨b, o, none⟩ ∧ w.cell? ⟨b, o + i, none⟩ = some (.string ss[i]) ∧ ss[i].size ≤ 140737488351232
theorem StrsAt.ext {w w' : World} {ss : List ByteArray} {A : Option Addr} (h : StrsAt w ss A) (k : Ext w w') : StrsAt w' ss A := by
  intro i hi
  obtain ⟨b, o, e, h0, h1⟩ := h i hi
  exact ⟨b, o, e, k.cell h0, h1⟩
end Go.Proofs.YtbjghkmjnhmlfaaGreatDoor

/- A slice of terms that a call has made itself. -/
namespace Go.Proofs.YtbjghkmjnhmlfaaGreatDoor
open Go.RowKit

/-- a term and where its arguments lie -/
abbrev Lain := Tm × Option Addr × Nat
def Lain.cells (x : Lain) : List Value := [.int .i64 x.1.kind, .string x.1.name, .int .i64 x.1.n, .slice x.2.1 x.1.args.length x.2.2]
def rowCells : List Lain → List Value
  | [] => []
  | x :: r => x.cells ++ rowCells r
theorem rowCells_len : ∀ xs : List Lain, (rowCells xs).length = xs.length * 4
  | [] => rfl
  | x :: r => by rw [rowCells, List.length_append, rowCells_len r, Lain.cells, List.length_cons]; simp; omega
theorem rowCells_snoc : ∀ (xs : List Lain) (x : Lain), rowCells (xs ++ [x]) = rowCells xs ++ x.cells
  | [], x => by simp [rowCells]
  | a :: r, x => by rw [List.cons_append, rowCells, rowCells_snoc r x, rowCells, List.append_assoc]
theorem rowCells_at : ∀ (xs : List Lain) (i j : Nat) (h : i < xs.length), j < 4 → (rowCells xs)[i * 4 + j]? = xs[i].cells[j]?
  | x :: r, 0, j, _, hj => by
    rw [rowCells, List.getElem?_append_left (by simp [Lain.cells]; omega)]
    simp
  | x :: r, i + 1, j, h, hj => by
    rw [rowCells, List.getElem?_append_right (by simp [Lain.cells]; omega)]
    have e : (i + 1) * 4 + j - x.cells.length = i * 4 + j := by simp [Lain.cells]; omega
    rw [e, rowCells_at r i j (by simpa using h) hj]
    simp
theorem Lain.one (x : Lain) : ∀ u ∈ x.cells, u.oneCell' = true := by
  intro u hu
  simp only [Lain.cells, List.mem_cons, List.not_mem_nil, or_false] at hu
  rcases hu with rfl | rfl | rfl | rfl <;> rfl

theorem Ext.grown {w w' : World} (h : Ext w w') : w.grownBy w' none := ⟨h.os, h.tape, h.output, h.size, fun i hi _ => h.block i hi⟩
theorem ownsRow_ext {w w' : World} {base : Nat} {e : TypeId} {size : Nat} {v : Value} {n : Nat} {xs : List Value} (h : w.ownsRow base e size v n xs) (k : Ext w w') : w'.ownsRow base e size v n xs := by
  refine h.kept k.grown ?_
  rcases h.2 with ⟨rfl, _⟩ | ⟨g, cap, cur, rfl, _⟩
  · exact .inl rfl
  · exact .inr (by simp [Value.ownBlock])
/-- an append onto what is owned from the end of w1 on turns nothing of w1 -/
theorem Ext.own {w1 w w' : World} {base : Nat} {e : TypeId} {size : Nat} {v : Value} {n : Nat} {xs : List Value} (k : Ext w1 w) (h : w.ownsRow base e size v n xs) (hb : w1.heap.size ≤ base) (g : w.grownBy w' v.ownBlock) : Ext w1 w' :=
  Below.grown k g k.size (fun i hi => Nat.le_trans hb (h.lt i hi).1)

/-- what is owned is a slice of terms -/
theorem owned_tms {w : World} {base : Nat} {v : Value} {xs : List Lain} (h : w.ownsRow base 58 4 v xs.length (rowCells xs)) (hx : ∀ x ∈ xs, TmAt w x.1 x.2.1 x.2.2) :
    ∃ A c, v = .slice A xs.length c ∧ xs.length ≤ c ∧ TmsAt w (xs.map (·.1)) A := by
  rcases h.2 with ⟨rfl, h0⟩ | ⟨g, cap, cur, rfl, _, _, hc, _⟩
  · have e : xs = [] := List.eq_nil_of_length_eq_zero h0
    subst e
    exact ⟨none, 0, rfl, Nat.le_refl _, fun _ => none, fun _ => 0, fun i hi => absurd hi (by simp), fun i hi => absurd hi (by simp)⟩
  · refine ⟨_, cap, rfl, hc, fun i => (xs[i]?.map (·.2.1)).getD none, fun i => (xs[i]?.map (·.2.2)).getD 0, fun i hi => ?_, fun i hi => ?_⟩
    · have hi' : i < xs.length := by simpa using hi
      have cell : ∀ j, j < 4 → w.cell? ⟨g, 0 + i * 4 + j, none⟩ = xs[i].cells[j]? := fun j hj => by
        rw [show 0 + i * 4 + j = i * 4 + j by omega, h.cellAt (i * 4 + j) (by omega), rowCells_at xs i j hi' hj]
      refine ⟨g, 0, rfl, ?_, ?_, ?_, ?_⟩
      · have := cell 0 (by omega); simpa [Lain.cells] using this
      · have := cell 1 (by omega); simpa [Lain.cells] using this
      · have := cell 2 (by omega); simpa [Lain.cells] using this
      · have := cell 3 (by omega); simpa [Lain.cells, hi'] using this
    · have hi' : i < xs.length := by simpa using hi
      have := hx _ (List.getElem_mem hi')
      simpa [hi'] using this
end Go.Proofs.YtbjghkmjnhmlfaaGreatDoor

/- Regions that draw their order, whose operations read what was there and whose callees make memory of their own: one walk, in the order of the text. -/
namespace Go.Proofs.YtbjghkmjnhmlfaaGreatDoor
open Go.RowKit

/-- a world that goes on from w -/
structure ExtOf (w : World) where
  to : World
  is : Ext w to
instance {w : World} : Inhabited (ExtOf w) := ⟨⟨w, Ext.refl w⟩⟩

theorem wp_region_ext {P : Program} {id : Nat} {Q : Exit → Act → World → Prop} {a : Act} {w : World} {l : List Oper} (hm : P.follows .mixedOrders = true) (hB : Region.lexB .any l.toArray = true)
    (h : wpQuiet P l.toArray (fun w' => ∃ p : ExtOf w, w' = p.to) (fun a' => ∀ w', (∃ p : ExtOf w, w' = p.to) → Q .normal a' w') l a) : (Code.region id l.toArray true).wp P Q a w :=
  wp_region_quiet (C := fun w' => ∃ p : ExtOf w, w' = p.to) hm hB ⟨⟨w.drew, (Ext.refl w).drew⟩, rfl⟩ (by simpa using h)

/-- a callee's contract, met in a world that goes on from w -/
theorem of_ext {P : Program} {f : FuncId} {args : Array Value} {w : World} {p : ExtOf w} {v : Value}
    (h : Calls P f args p.to fun e w' => e = .returned v ∧ Ext p.to w') : Calls P f args p.to fun e w'' => e = .returned v ∧ ∃ q : ExtOf w, w'' = q.to :=
  h.mono fun _ w' ⟨he, hx⟩ => ⟨he, ⟨w', p.is.trans hx⟩, rfl⟩

theorem ext_all {w : World} {R : World → Prop} (h : ∀ w', Ext w w' → R w') : ∀ w', (∃ p : ExtOf w, w' = p.to) → R w' := fun _ ⟨p, e⟩ => by subst e; exact h _ p.is

/-- a cell that was there -/
theorem ext_cell {w : World} {a : Addr} {v : Value} (h : w.cell? a = some v) (p : ExtOf w) : p.to.cell? a = some v := p.is.cell h
end Go.Proofs.YtbjghkmjnhmlfaaGreatDoor
