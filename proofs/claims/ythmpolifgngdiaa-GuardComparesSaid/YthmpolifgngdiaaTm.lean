/- Terms as plain data, and what it means that a value is one in memory. -/
import Derived.Test.YthmpolifgngdiaaRows
import Derived.WalkKit
import Derived.Lib.Hide
import Derived.Deep.Draws
namespace Go.Proofs.Ythmpolifgngdiaa
open Go.RowKit

theorem ret_bool {a b : Bool} (h : a = b) : Ending.returned (.bool a) = .returned (.bool b) := by rw [h]
theorem ret_int {k : IntKind} {a b : Int} (h : a = b) : Ending.returned (.int k a) = .returned (.int k b) := by rw [h]

/-- a term: its kind, name, number and arguments -/
structure Tm where
  kind : Int
  name : ByteArray
  n : Int
  args : List Tm

mutual
/-- how high the tree is: for inductions -/
def Tm.high : Tm → Nat
  | ⟨_, _, _, l⟩ => highs l + 1
def highs : List Tm → Nat
  | [] => 0
  | t :: ts => max t.high (highs ts)
end

theorem high_le {t : Tm} {ts : List Tm} (h : t ∈ ts) : t.high ≤ highs ts := by
  induction ts with
  | nil => cases h
  | cons a r ih =>
    simp only [highs]
    rcases List.mem_cons.1 h with e | e
    · subst e; omega
    · have := ih e; omega
theorem high_lt {t : Tm} {i : Nat} (h : i < t.args.length) : t.args[i].high < t.high := by
  have := high_le (List.getElem_mem h)
  obtain ⟨k, s, n, l⟩ := t
  simp only [Tm.high] at *
  omega

/-- the value of a term whose arguments lie from A on -/
abbrev Tm.val (t : Tm) (A : Option Addr) (c : Nat) : Value := .agg #[.int .i64 t.kind, .string t.name, .int .i64 t.n, .slice A t.args.length c]

/-- what any machine's term keeps to -/
structure Tm.Fits (t : Tm) : Prop where
  kind : (Lit.int .i64 t.kind).wf = true
  n : (Lit.int .i64 t.n).wf = true
  name : t.name.size ≤ 140737488351232
  args : t.args.length * 56 ≤ 140737488351232

/-- from A on lie the four cells of each term -/
def RowAt (w : World) (ts : List Tm) (A : Option Addr) (g : Nat → Option Addr) (d : Nat → Nat) : Prop :=
  ∀ i (h : i < ts.length), ∃ b o, A = some ⟨b, o, none⟩ ∧ w.cell? ⟨b, o + i * 4, none⟩ = some (.int .i64 ts[i].kind) ∧ w.cell? ⟨b, o + i * 4 + 1, none⟩ = some (.string ts[i].name) ∧
    w.cell? ⟨b, o + i * 4 + 2, none⟩ = some (.int .i64 ts[i].n) ∧ w.cell? ⟨b, o + i * 4 + 3, none⟩ = some (.slice (g i) ts[i].args.length (d i))

/-- the arguments of t, and theirs, lie in memory from A on -/
inductive TmAt (w : World) : Tm → Option Addr → Nat → Prop
  | mk (t : Tm) (A : Option Addr) (c : Nat) (g : Nat → Option Addr) (d : Nat → Nat) (fits : t.Fits) (cap : t.args.length ≤ c) (row : RowAt w t.args A g d)
      (sub : ∀ i (h : i < t.args.length), TmAt w t.args[i] (g i) (d i)) : TmAt w t A c

/-- a slice of terms from A on -/
def TmsAt (w : World) (ts : List Tm) (A : Option Addr) : Prop := ∃ g d, RowAt w ts A g d ∧ ∀ i (h : i < ts.length), TmAt w ts[i] (g i) (d i)

/-- nothing that was there has turned -/
def Ext (w w' : World) : Prop := Below w.heap.size w w'

theorem Ext.refl (w : World) : Ext w w := Below.refl _ _
theorem Ext.trans {a b c : World} (h : Ext a b) (k : Ext b c) : Ext a c := Below.trans h (Below.mono k (Below.size h))
theorem Ext.alloc {a w : World} (h : Ext a w) (o : Obj) : Ext a (w.alloc o) := Below.alloc h (Below.size h) o
theorem Ext.drew {a w : World} (h : Ext a w) : Ext a w.drew := Below.drew h
theorem Ext.drewN {a w : World} (h : Ext a w) (n : Nat) : Ext a (w.drewN n) := ⟨h.os, h.tape, h.output, h.size, h.block⟩
theorem Ext.setCell {a w : World} (h : Ext a w) {p : Addr} (hp : a.heap.size ≤ p.block) (u : Value) : Ext a (w.setCell p u) := Below.setCell h hp u
theorem Ext.cell {w w' : World} (h : Ext w w') {p : Addr} {v : Value} (hc : w.cell? p = some v) : w'.cell? p = some v := by
  rw [Below.cell h (World.block_lt_of_cell? w _ hc), hc]

theorem RowAt.ext {w w' : World} {ts : List Tm} {A : Option Addr} {g : Nat → Option Addr} {d : Nat → Nat} (h : RowAt w ts A g d) (k : Ext w w') : RowAt w' ts A g d := by
  intro i hi
  obtain ⟨b, o, e, h0, h1, h2, h3⟩ := h i hi
  exact ⟨b, o, e, k.cell h0, k.cell h1, k.cell h2, k.cell h3⟩
theorem TmAt.ext {w w' : World} {t : Tm} {A : Option Addr} {c : Nat} (h : TmAt w t A c) (k : Ext w w') : TmAt w' t A c := by
  induction h with
  | mk t A c g d fits cap row sub ih => exact .mk t A c g d fits cap (row.ext k) ih
theorem TmsAt.ext {w w' : World} {ts : List Tm} {A : Option Addr} (h : TmsAt w ts A) (k : Ext w w') : TmsAt w' ts A := by
  obtain ⟨g, d, hr, hs⟩ := h
  exact ⟨g, d, hr.ext k, fun i hi => (hs i hi).ext k⟩
theorem TmAt.fits {w : World} {t : Tm} {A : Option Addr} {c : Nat} (h : TmAt w t A c) : t.Fits := by cases h; assumption
theorem TmAt.args {w : World} {t : Tm} {A : Option Addr} {c : Nat} (h : TmAt w t A c) : TmsAt w t.args A := by
  cases h with
  | mk _ _ _ g d fits cap row sub => exact ⟨g, d, row, sub⟩
/-- one of them -/
theorem TmsAt.at_ {w : World} {ts : List Tm} {A : Option Addr} (h : TmsAt w ts A) {i : Nat} (hi : i < ts.length) : ∃ b o B e, A = some ⟨b, o, none⟩ ∧ w.cell? ⟨b, o + i * 4, none⟩ = some (.int .i64 ts[i].kind) ∧
    w.cell? ⟨b, o + i * 4 + 1, none⟩ = some (.string ts[i].name) ∧ w.cell? ⟨b, o + i * 4 + 2, none⟩ = some (.int .i64 ts[i].n) ∧
    w.cell? ⟨b, o + i * 4 + 3, none⟩ = some (.slice B ts[i].args.length e) ∧ TmAt w ts[i] B e := by
  obtain ⟨g, d, hr, hs⟩ := h
  obtain ⟨b, o, e, h0, h1, h2, h3⟩ := hr i hi
  exact ⟨b, o, g i, d i, e, h0, h1, h2, h3, hs i hi⟩

/-- a slice of texts from A on -/
def StrsAt (w : World) (ss : List ByteArray) (A : Option Addr) : Prop :=
  ∀ i (h : i < ss.length), ∃ b o, A = some ⟨b, o, none⟩ ∧ w.cell? ⟨b, o + i, none⟩ = some (.string ss[i]) ∧ ss[i].size ≤ 140737488351232
theorem StrsAt.ext {w w' : World} {ss : List ByteArray} {A : Option Addr} (h : StrsAt w ss A) (k : Ext w w') : StrsAt w' ss A := by
  intro i hi
  obtain ⟨b, o, e, h0, h1⟩ := h i hi
  exact ⟨b, o, e, k.cell h0, h1⟩
end Go.Proofs.Ythmpolifgngdiaa
