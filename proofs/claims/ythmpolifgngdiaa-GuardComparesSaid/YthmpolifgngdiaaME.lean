/- Joined: Ins, Stl, Cmp, Set. -/
import Derived.Test.YthmpolifgngdiaaRnm
import Derived.Test.YthmpolifgngdiaaBd
import Derived.Lib.AppendZerosOnto
import Derived.Lib.Overlaps
import Derived.Laws.CopyRow
import Derived.Laws.CopyOwn
import Derived.Laws.Externs
import Derived.Deep.RegionLaw
import Derived.Test.YthmpolifgngdiaaMC
import Derived.Test.YthmpolifgngdiaaExm
import Derived.Lib.Bytealg
import Derived.Lib.SliceRun

/- slices.Insert at binds: one bind more in a row of the call's own. -/
namespace Go.Proofs.Ythmpolifgngdiaa
open Go.RowKit

/-! lists -/
theorem infoBd : (Try.prog.info? 67).map (fun i => (i.zero, i.size, i.bytes)) = some (some (.agg #[.string ⟨#[]⟩, .int .i64 0, .string ⟨#[]⟩, .int .i64 0, .slice none 0 0]), 5, 72) := by kernel_rfl
end Go.Proofs.Ythmpolifgngdiaa

/- bind.settled: one bind put into all terms. -/
namespace Go.Proofs.Ythmpolifgngdiaa
open Go.RowKit Go.Maps

theorem set5_far {w : World} {b o x q : Nat} {v0 v1 v2 v3 v4 u : Value} (h : w.cell? ⟨x, q, none⟩ = some u) (hne : b ≠ x) : (set5 w b o v0 v1 v2 v3 v4).cell? ⟨x, q, none⟩ = some u :=
  cell_same (set5_block w b o v0 v1 v2 v3 v4 x (Ne.symm hne)) h

theorem CopyInv.ext' {W w w' : World} {v : Value} {xs : List Lain} {G : Nat → Nat → Prop} (h : CopyInv W w v xs G) (k : Ext w w') : CopyInv W w' v xs G :=
  ⟨fun i hi => (h.sub i hi).ext k, fun i hi x hx => by have := h.inF i hi x hx; exact ⟨this.1, Nat.lt_of_lt_of_le this.2.1 k.size, this.2.2⟩, h.apart, h.ext.trans k⟩
theorem BFill.ext {W w w' : World} {us : List Bd} {g k : Nat} {zs : List BLain} {G : Nat → Nat → Prop} {ys : List Value} (h : BFill W w us g k zs G ys) (x : Ext w w') : BFill W w' us g k zs G ys :=
  ⟨h.len, h.map, h.all, h.row, ownsRow_ext h.own x, h.inv.ext' x, h.names⟩
theorem BdsOwn.weak {w : World} {bs : List Bd} {A : Option Addr} {F F' : Nat → Prop} {B : Nat → Option Addr} {d : Nat → Nat} {G : Nat → Nat → Prop} (h : BdsOwn w bs A F B d G) (k : ∀ b, F b → F' b) : BdsOwn w bs A F' B d G :=
  ⟨h.row, h.sub, fun b o e hp => ⟨k b (h.own b o e hp).1, (h.own b o e hp).2⟩, fun i hi q hq => k q (h.inF i hi q hq), h.apart⟩

end Go.Proofs.Ythmpolifgngdiaa

/- strings.Compare, and the order of names. -/
namespace Go.Proofs.Ythmpolifgngdiaa
open Go.RowKit

/-- how two names lie -/
def cmpS (a b : ByteArray) : Int := Lib.compareBytes a.data.toList b.data.toList
def ltN (a b : ByteArray) : Bool := Op.bytesLess a.toList b.toList

theorem cmpB_bd : ∀ x y : List UInt8, -1 ≤ Lib.compareBytes x y ∧ Lib.compareBytes x y ≤ 1
  | [], [] => by simp [Lib.compareBytes]
  | [], _ :: _ => by simp [Lib.compareBytes]
  | _ :: _, [] => by simp [Lib.compareBytes]
  | a :: x, b :: y => by
    have := cmpB_bd x y
    simp only [Lib.compareBytes]
    repeat' split
    all_goals omega
theorem cmpB_eq : ∀ x y : List UInt8, Lib.compareBytes x y = 0 ↔ x = y
  | [], [] => by simp [Lib.compareBytes]
  | [], _ :: _ => by simp [Lib.compareBytes]
  | _ :: _, [] => by simp [Lib.compareBytes]
  | a :: x, b :: y => by
    have ih := cmpB_eq x y
    simp only [Lib.compareBytes, UInt8.lt_iff_toNat_lt, List.cons.injEq, ← ih, ← UInt8.toNat_inj]
    repeat' split
    all_goals omega
theorem less_cmpB : ∀ x y : List UInt8, Op.bytesLess x y = decide (Lib.compareBytes x y < 0)
  | [], [] => by simp [Op.bytesLess, Lib.compareBytes]
  | [], _ :: _ => by simp [Op.bytesLess, Lib.compareBytes]
  | _ :: _, [] => by simp [Op.bytesLess, Lib.compareBytes]
  | a :: x, b :: y => by
    rw [Op.bytesLess, less_cmpB x y, Lib.compareBytes]
    by_cases h1 : a < b
    · simp [h1]
    · by_cases h2 : b < a
      · have : a ≠ b := fun e => by subst e; exact h1 h2
        simp [h1, h2, this]
      · have : a = b := UInt8.le_antisymm (UInt8.not_lt.1 h2) (UInt8.not_lt.1 h1)
        subst this
        simp [h1]

theorem ltN_cmp (a b : ByteArray) : ltN a b = decide (cmpS a b < 0) := by unfold ltN cmpS; rw [less_cmpB, Lib.toList_data, Lib.toList_data]
theorem cmpS_eq (a b : ByteArray) : cmpS a b = 0 ↔ a = b := by
  unfold cmpS
  rw [cmpB_eq]
  exact ⟨fun h => name_ext h, fun h => by rw [h]⟩
theorem cmpS_bd (a b : ByteArray) : -1 ≤ cmpS a b ∧ cmpS a b ≤ 1 := cmpB_bd _ _
set_option maxRecDepth 100000 in
set_option maxHeartbeats 1000000 in
theorem cmpStr_any (a b : ByteArray) (w : World) :
    Calls Try.prog 51 #[.string a, .string b] w fun e w' => e = .returned (.int .i64 (cmpS a b)) ∧ w = w' := by
  go_enter Try.func51, Try.ntmps51
  go_wp2
  rw [run_callFunc_extern Try.func61 (by kernel_rfl) (by kernel_rfl) (by kernel_rfl) (e := Extern.BytealgCompare.compare) (by kernel_rfl), Lib.run_compareString]
  simp only [Result.andThen]
  rw [Oper.upon_value]
  go_wp2
  go_ret
  exact ⟨rfl, rfl⟩
theorem compare_str (a b : ByteArray) (w : World) :
    Calls Try.prog 44 #[.string a, .string b] w fun e w' => e = .returned (.int .i64 (cmpS a b)) ∧ w = w' := by
  go_enter Try.func44, Try.ntmps44
  go_wp2_with fail
  refine (cmpStr_any _ _ _).mono ?_
  rintro e w' ⟨rfl, rfl⟩
  go_wp2_with fail
  go_ret
  exact ⟨rfl, rfl⟩

/-! binds by rising names -/
def RiseB (bs : List Bd) : Prop := ∀ i j (hj : j < bs.length) (hi : i < j), ltN (bs[i]'(by omega)).name bs[j].name = true
theorem RiseB.inj {bs : List Bd} (h : RiseB bs) {i j : Nat} (hi : i < bs.length) (hj : j < bs.length) (e : bs[i].name = bs[j].name) : i = j := by
  have irr : ∀ s : ByteArray, ltN s s = false := fun s => by rw [ltN_cmp]; simp [(cmpS_eq s s).2 rfl]
  rcases Nat.lt_trichotomy i j with hl | hl | hl
  · have := h i j hj hl; rw [e, irr] at this; cases this
  · exact hl
  · have := h j i hi hl; rw [e, irr] at this; cases this

end Go.Proofs.Ythmpolifgngdiaa

/- bind.Set: what it tells; the parts of its walk. -/
namespace Go.Proofs.Ythmpolifgngdiaa
open Go.RowKit Go.Maps

theorem bds_src {w : World} {bs : List Bd} {A : Option Addr} {c : Nat} (h : BdsAt w bs A) (hc : bs.length ≤ c) {xs : List BLain} (hxs : xs.map (·.1) = bs) (hxc : ∀ b o, A = some ⟨b, o, none⟩ → ∀ j u, (browCells xs)[j]? = some u → w.cell? ⟨b, o + j, none⟩ = some u) :
    Src w A bs.length c 5 (browCells xs) := by
  have hl : xs.length = bs.length := by rw [← hxs, List.length_map]
  refine ⟨by rw [browCells_len, hl], ?_, hc⟩
  by_cases h0 : bs.length = 0
  · cases A with
    | none => exact .inl ⟨rfl, h0⟩
    | some a => exact .inr ⟨a, rfl, fun j u hj => by
        have : xs = [] := List.eq_nil_of_length_eq_zero (by omega)
        subst this
        simp [browCells] at hj⟩
  · obtain ⟨b, o, _, _, rfl, _⟩ := h 0 (by omega)
    exact .inr ⟨_, rfl, fun j u hj => by rw [add_addr]; exact hxc b o rfl j u hj⟩

end Go.Proofs.Ythmpolifgngdiaa
