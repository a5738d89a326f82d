/- Joined: Spoil, Rren, Rc, All, Apl, Bow. -/
import Derived.Test.YthmpolifgngdiaaMB
import Derived.Test.YthmpolifgngdiaaRen
import Derived.Test.YthmpolifgngdiaaRb
import Derived.Deep.Slices
import Derived.Test.YthmpolifgngdiaaOrd
import Derived.WalkLawsBesides
import Derived.Test.YthmpolifgngdiaaRpl
import Derived.Deep.DeepCutAuto
import Derived.Deep.CutBlock
import Derived.Test.YthmpolifgngdiaaFil

/- almagestlaw0.Term: an answer's arguments are written over; nothing else turns. -/
namespace Go.Proofs.Ythmpolifgngdiaa
open Go.RowKit

/-- from k on the row is as it was -/
def RowFrom (w : World) (ts : List Tm) (b o : Nat) (g : Nat → Option Addr) (d : Nat → Nat) (G : Nat → Nat → Prop) (k : Nat) : Prop :=
  (∀ i (h : i < ts.length), k ≤ i → w.cell? ⟨b, o + i * 4, none⟩ = some (.int .i64 ts[i].kind) ∧ w.cell? ⟨b, o + i * 4 + 1, none⟩ = some (.string ts[i].name) ∧
    w.cell? ⟨b, o + i * 4 + 2, none⟩ = some (.int .i64 ts[i].n) ∧ w.cell? ⟨b, o + i * 4 + 3, none⟩ = some (.slice (g i) ts[i].args.length (d i)) ∧ TmOwn w ts[i] (g i) (d i) (G i)) ∧
  ∀ j, j < ts.length * 4 → w.frozen? ⟨b, o + j, none⟩ = false

end Go.Proofs.Ythmpolifgngdiaa

/- The document's own renaming: almagestref1.Rename. -/
namespace Go.Proofs.Ythmpolifgngdiaa
open Go.RowKit

/-- a term that lies behind block lo -/
inductive TmHi (w : World) (lo : Nat) : Tm → Option Addr → Nat → Prop
  | mk (t : Tm) (A : Option Addr) (c : Nat) (g : Nat → Option Addr) (d : Nat → Nat) (fits : t.Fits) (cap : t.args.length ≤ c) (row : RowAt w t.args A g d) (hi : ∀ b o, A = some ⟨b, o, none⟩ → 0 < t.args.length → lo ≤ b)
      (sub : ∀ i (h : i < t.args.length), TmHi w lo t.args[i] (g i) (d i)) : TmHi w lo t A c
theorem TmHi.at_ {w : World} {lo : Nat} {t : Tm} {A : Option Addr} {c : Nat} (h : TmHi w lo t A c) : TmAt w t A c := by
  induction h with
  | mk t A c g d fits cap row hi sub ih => exact .mk t A c g d fits cap row ih
theorem TmHi.keep {w w' : World} {lo : Nat} {t : Tm} {A : Option Addr} {c : Nat} (h : TmHi w lo t A c) (k : ∀ b, lo ≤ b → b < w.heap.size → w'.heap[b]? = w.heap[b]?) : TmHi w' lo t A c := by
  induction h with
  | mk t A c g d fits cap row hi sub ih =>
    refine .mk t A c g d fits cap (fun i hi' => ?_) hi ih
    obtain ⟨b, o, e, h0, h1, h2, h3⟩ := row i hi'
    have hb : w'.heap[b]? = w.heap[b]? := k b (hi b o e (by omega)) (World.block_lt_of_cell? w _ h0)
    exact ⟨b, o, e, cell_same hb h0, cell_same hb h1, cell_same hb h2, cell_same hb h3⟩
theorem TmHi.weak {w : World} {lo lo' : Nat} {t : Tm} {A : Option Addr} {c : Nat} (h : TmHi w lo t A c) (k : lo' ≤ lo) : TmHi w lo' t A c := by
  induction h with
  | mk t A c g d fits cap row hi sub ih => exact .mk t A c g d fits cap row (fun b o e hl => Nat.le_trans k (hi b o e hl)) ih
theorem TmHi.ext {w w' : World} {lo : Nat} {t : Tm} {A : Option Addr} {c : Nat} (h : TmHi w lo t A c) (k : Ext w w') : TmHi w' lo t A c := h.keep fun b _ hb => k.block b hb

mutual
/-- no name too long? -/
def okR (s : ByteArray) : Tm → Bool
  | ⟨k, m, _, l⟩ => if (k == 1) = true then decide (m.size + s.size ≤ 16) else okRL s l
def okRL (s : ByteArray) : List Tm → Bool
  | [] => true
  | t :: ts => okR s t && okRL s ts
end
/-- up to k the row has the renamed ones -/
def RowDone (w : World) (s : ByteArray) (ts : List Tm) (b o lo : Nat) (k : Nat) : Prop :=
  ∀ i (h : i < ts.length), i < k → ∃ A c, w.cell? ⟨b, o + i * 4, none⟩ = some (.int .i64 (renT s ts[i]).kind) ∧ w.cell? ⟨b, o + i * 4 + 1, none⟩ = some (.string (renT s ts[i]).name) ∧
    w.cell? ⟨b, o + i * 4 + 2, none⟩ = some (.int .i64 (renT s ts[i]).n) ∧ w.cell? ⟨b, o + i * 4 + 3, none⟩ = some (.slice A (renT s ts[i]).args.length c) ∧ TmHi w lo (renT s ts[i]) A c

theorem RowFrom.ext {w w' : World} {ts : List Tm} {b o : Nat} {g : Nat → Option Addr} {d : Nat → Nat} {G : Nat → Nat → Prop} {k : Nat} (h : RowFrom w ts b o g d G k) (x : Ext w w') (hb : b < w.heap.size) : RowFrom w' ts b o g d G k :=
  ⟨fun i hi hk => by obtain ⟨h0, h1, h2, h3, h4⟩ := h.1 i hi hk; exact ⟨x.cell h0, x.cell h1, x.cell h2, x.cell h3, h4.ext x⟩, fun j hj => (Below.frozen x hb).trans (h.2 j hj)⟩
theorem RowDone.ext {w w' : World} {s : ByteArray} {ts : List Tm} {b o lo k : Nat} (h : RowDone w s ts b o lo k) (x : Ext w w') : RowDone w' s ts b o lo k := fun i hi hk => by
  obtain ⟨A, c, h0, h1, h2, h3, h4⟩ := h i hi hk
  exact ⟨A, c, x.cell h0, x.cell h1, x.cell h2, x.cell h3, h4.ext x⟩
theorem RowDone.done {w : World} {s : ByteArray} {t : Tm} {b o lo lo' k c : Nat} (h : RowDone w s t.args b o lo k) (hk : t.args.length ≤ k) (fits : (renT s t).Fits) (hc : t.args.length ≤ c) (hlo : lo' ≤ b) (hlo2 : lo' ≤ lo) : TmHi w lo' (renT s t) (some ⟨b, o, none⟩) c := by
  haveI : Inhabited (Option Addr × Nat) := ⟨(none, 0)⟩
  obtain ⟨f, hf⟩ := Go.Deep.choose_lt (α := Option Addr × Nat) (n := t.args.length) (p := fun i y => ∀ hi : i < t.args.length, w.cell? ⟨b, o + i * 4, none⟩ = some (.int .i64 (renT s t.args[i]).kind) ∧ w.cell? ⟨b, o + i * 4 + 1, none⟩ = some (.string (renT s t.args[i]).name) ∧
      w.cell? ⟨b, o + i * 4 + 2, none⟩ = some (.int .i64 (renT s t.args[i]).n) ∧ w.cell? ⟨b, o + i * 4 + 3, none⟩ = some (.slice y.1 (renT s t.args[i]).args.length y.2) ∧ TmHi w lo (renT s t.args[i]) y.1 y.2) (fun i hi => by
        obtain ⟨A, c, hall⟩ := h i hi (by omega)
        exact ⟨(A, c), fun _ => hall⟩)
  have hl : (renT s t).args.length = t.args.length := by rw [renT_args, renL_len]
  have hat : ∀ i (hi : i < (renT s t).args.length), (renT s t).args[i] = renT s (t.args[i]'(by omega)) := fun i hi => by
    have := renL_at s t.args i (by omega)
    simp only [renT_args] at hi ⊢
    exact this
  refine .mk (renT s t) _ c (fun i => (f i).1) (fun i => (f i).2) fits (by omega) (fun i hi => ?_) (fun b' o' e _ => by injection e with e; injection e with e1 e2; omega) (fun i hi => ?_)
  · obtain ⟨g0, g1, g2, g3, _⟩ := hf i (by omega) (by omega)
    rw [hat i hi]
    exact ⟨b, o, rfl, g0, g1, g2, g3⟩
  · rw [hat i hi]
    exact ((hf i (by omega) (by omega)).2.2.2.2).weak hlo2
end Go.Proofs.Ythmpolifgngdiaa

/- The document's own order: almagestref1.sign, text, Order; that it is the program's. -/
namespace Go.Proofs.Ythmpolifgngdiaa
open Go.RowKit

/-! names as numbers rise as the texts do -/
theorem nm_less : ∀ (m : Nat) (l r : List UInt8), goodL l → goodL r → l.length ≤ m → r.length ≤ m → (Op.bytesLess l r = true ↔ nm m l < nm m r)
  | 0, l, r, _, _, h1, h2 => by
    have e1 : l = [] := List.eq_nil_of_length_eq_zero (by omega)
    have e2 : r = [] := List.eq_nil_of_length_eq_zero (by omega)
    subst e1 e2
    simp [nm, Op.bytesLess]
  | m + 1, [], [], _, _, _, _ => by simp [nm, Op.bytesLess]
  | m + 1, [], b :: r, _, hr, _, _ => by
    have hb := hr b (by simp)
    have : 0 < b.toNat * 256 ^ m := Nat.mul_pos hb (Nat.pow_pos (by omega))
    simp only [nm, Op.bytesLess]
    exact ⟨fun _ => by omega, fun _ => trivial⟩
  | m + 1, a :: l, [], _, _, _, _ => by simp [nm, Op.bytesLess]
  | m + 1, a :: l, b :: r, hl, hr, h1, h2 => by
    have ih := nm_less m l r (fun x hx => hl x (by simp [hx])) (fun x hx => hr x (by simp [hx])) (by simpa using h1) (by simpa using h2)
    have x1 := nm_lt m l
    have x2 := nm_lt m r
    simp only [nm, Op.bytesLess, Bool.or_eq_true, Bool.and_eq_true, decide_eq_true_eq, beq_iff_eq, ih, UInt8.lt_iff_toNat_lt]
    constructor
    · rintro (h | ⟨rfl, h⟩)
      · have : a.toNat * 256 ^ m + 256 ^ m ≤ b.toNat * 256 ^ m := by
          have := Nat.mul_le_mul_right (256 ^ m) (show a.toNat + 1 ≤ b.toNat from h)
          rwa [Nat.add_mul, Nat.one_mul] at this
        omega
      · omega
    · intro h
      rcases Nat.lt_trichotomy a.toNat b.toNat with h' | h' | h'
      · exact .inl h'
      · have e : a = b := UInt8.toNat_inj.1 h'
        subst e
        exact .inr ⟨rfl, by omega⟩
      · exfalso
        have : b.toNat * 256 ^ m + 256 ^ m ≤ a.toNat * 256 ^ m := by
          have := Nat.mul_le_mul_right (256 ^ m) (show b.toNat + 1 ≤ a.toNat from h')
          rwa [Nat.add_mul, Nat.one_mul] at this
        omega
theorem nm_join : ∀ (m k : Nat) (l : List UInt8), nm (m + k) l = nm m l * 256 ^ k + nm k (l.drop m)
  | 0, k, l => by simp [nm]
  | m + 1, k, [] => by simp [nm_nil]
  | m + 1, k, a :: l => by
    have e : m + 1 + k = (m + k) + 1 := by omega
    rw [e]
    simp only [nm, List.drop_succ_cons]
    rw [nm_join m k l, Nat.pow_add, Nat.add_mul, Nat.mul_assoc]
    omega
end Go.Proofs.Ythmpolifgngdiaa

/- Order and Rename in one answer each, for any terms. -/
namespace Go.Proofs.Ythmpolifgngdiaa
open Go.RowKit

abbrev noTm : Tm := ⟨0, ⟨#[]⟩, 0, []⟩
def outT (s : ByteArray) (t : Tm) : Tm := if (mayB t && tailB s) = true then (if okR s t = true then renT s t else noTm) else noTm
theorem Box4.new (w : World) (v0 v1 v2 v3 : Value) : Box4 (w.alloc (.cells #[v0, v1, v2, v3] 32)) w.heap.size v0 v1 v2 v3 := ⟨by go_simp, by go_simp, by go_simp, by go_simp, by go_simp, by go_simp, by go_simp, by go_simp⟩
/-- the page's answer lies in the place for it -/
def Want (s : ByteArray) (t : Tm) (wx wz : World) : Prop :=
  Ext wx wz ∧ ∃ A c, wz.cell? ⟨wx.heap.size, 0, none⟩ = some (.int .i64 (outT s t).kind) ∧ wz.cell? ⟨wx.heap.size, 1, none⟩ = some (.string (outT s t).name) ∧ wz.cell? ⟨wx.heap.size, 2, none⟩ = some (.int .i64 (outT s t).n) ∧
    wz.cell? ⟨wx.heap.size, 3, none⟩ = some (.slice A (outT s t).args.length c) ∧ TmAt wz (outT s t) A c
theorem Want.drew {s : ByteArray} {t : Tm} {wx wz : World} (h : Want s t wx wz) : Want s t wx wz.drew := by
  obtain ⟨hx, A, c, h0, h1, h2, h3, hT⟩ := h
  exact ⟨hx.drew, A, c, h0, h1, h2, h3, hT.ext (Ext.refl _).drew⟩
end Go.Proofs.Ythmpolifgngdiaa

/- bind.Check, grounded, Apply. -/
namespace Go.Proofs.Ythmpolifgngdiaa
open Go.RowKit Go.Maps

theorem exam_yes {bs : List Bd} (hb : bindsB bs = true) (A : Option Addr) (c : Nat) (w : World) (ll : bs.length ≤ 1000000) (h : BdsAt w bs A) :
    Calls Try.prog 43 #[.slice A bs.length c] w fun e w' => e = .returned (.tuple #[.bool (grL bs), .int .i64 0]) ∧ Ext w w' :=
  (examine_any bs A c w ll h).mono fun e w' ⟨he, hx⟩ => ⟨by rw [he, hb]; simp, hx⟩
theorem exam_non {bs : List Bd} (hb : bindsB bs = false) (A : Option Addr) (c : Nat) (w : World) (ll : bs.length ≤ 1000000) (h : BdsAt w bs A) :
    Calls Try.prog 43 #[.slice A bs.length c] w fun e w' => e = .returned (.tuple #[.bool false, .int .i64 1]) ∧ Ext w w' :=
  (examine_any bs A c w ll h).mono fun e w' ⟨he, hx⟩ => ⟨by rw [he, hb]; simp, hx⟩

theorem grounded_any (bs : List Bd) (A : Option Addr) (c : Nat) (w : World) (ll : bs.length ≤ 1000000) (h : BdsAt w bs A) :
    Calls Try.prog 39 #[.slice A bs.length c] w fun e w' => e = .returned (.bool (bindsB bs && grL bs)) ∧ Ext w w' := by
  by_cases hb : bindsB bs = true
  · have HB := Lib.hid hb
    clear hb
    cases hg : grL bs
    all_goals
      have HG := Lib.hid hg
      clear hg
      go_enter Try.func39, Try.ntmps39
      go_wp2_with fail
      refine (exam_yes HB.out A c _ ll h).mono ?_
      rintro e1 w1 ⟨rfl, hx1⟩
      rw [HG.out]
      go_wp2_with fail
      go_ret
      exact ⟨by rw [HB.out]; rfl, hx1⟩
  · have hb' := not_true hb
    have HB := Lib.hid hb'
    clear hb hb'
    go_enter Try.func39, Try.ntmps39
    go_wp2_with fail
    refine (exam_non HB.out A c _ ll h).mono ?_
    rintro e1 w1 ⟨rfl, hx1⟩
    go_wp2_with fail
    go_ret
    exact ⟨by rw [HB.out]; rfl, hx1⟩

/-! what binds that may be have -/
theorem okL_may : ∀ (p : Option ByteArray) (bs : List Bd), okL p bs = true → ∀ i (h : i < bs.length), mayB bs[i].tm = true ∧ varB bs[i].name = true
  | _, [], _ => fun i hi => absurd hi (by simp)
  | p, x :: xs, h => by
    rw [okL, Bool.and_eq_true, Bool.and_eq_true, Bool.and_eq_true] at h
    intro i hi
    cases i with
    | zero => exact ⟨h.1.1.1, h.1.1.2⟩
    | succ i => exact okL_may _ xs h.2 i (by simpa using hi)
theorem binds_ok {bs : List Bd} (h : bindsB bs = true) : bs.length ≤ 16 ∧ okL none bs = true ∧ (grL bs = true ∨ crossL bs bs = false) := by
  unfold bindsB at h
  simp only [Bool.and_eq_true, decide_eq_true_eq, Bool.or_eq_true, Bool.not_eq_true'] at h
  exact ⟨h.1.1, h.1.2, h.2⟩
/-! Apply -/
end Go.Proofs.Ythmpolifgngdiaa

/- Rows of binds: in memory, of the call's own, filled from the front. -/
namespace Go.Proofs.Ythmpolifgngdiaa
open Go.RowKit

/-- a bind and where its term's arguments lie -/
abbrev BLain := Bd × Option Addr × Nat
def BLain.tl (x : BLain) : Lain := (x.1.tm, x.2.1, x.2.2)
def BLain.cells (x : BLain) : List Value := [.string x.1.name, .int .i64 x.1.tm.kind, .string x.1.tm.name, .int .i64 x.1.tm.n, .slice x.2.1 x.1.tm.args.length x.2.2]
def browCells : List BLain → List Value
  | [] => []
  | x :: r => x.cells ++ browCells r
theorem browCells_len : ∀ xs : List BLain, (browCells xs).length = xs.length * 5
  | [] => rfl
  | x :: r => by rw [browCells, List.length_append, browCells_len r, BLain.cells, List.length_cons]; simp; omega
theorem browCells_app : ∀ xs ys : List BLain, browCells (xs ++ ys) = browCells xs ++ browCells ys
  | [], ys => rfl
  | x :: r, ys => by rw [List.cons_append, browCells, browCells_app r ys, browCells, List.append_assoc]
theorem browCells_one (x : BLain) : browCells [x] = x.cells := by simp [browCells]
theorem browCells_at : ∀ (xs : List BLain) (i j : Nat) (h : i < xs.length), j < 5 → (browCells xs)[i * 5 + j]? = xs[i].cells[j]?
  | x :: r, 0, j, _, hj => by
    rw [browCells, List.getElem?_append_left (by simp [BLain.cells]; omega)]
    simp
  | x :: r, i + 1, j, h, hj => by
    rw [browCells, List.getElem?_append_right (by simp [BLain.cells]; omega)]
    have e : (i + 1) * 5 + j - x.cells.length = i * 5 + j := by simp [BLain.cells]; omega
    rw [e, browCells_at r i j (by simpa using h) hj]
    simp
theorem BLain.one (x : BLain) : ∀ u ∈ x.cells, u.oneCell' = true := by
  intro u hu
  simp only [BLain.cells, List.mem_cons, List.not_mem_nil, or_false] at hu
  rcases hu with rfl | rfl | rfl | rfl | rfl <;> rfl
theorem browCells_one' : ∀ xs : List BLain, ∀ u ∈ browCells xs, u.oneCell' = true
  | [], u, h => by cases h
  | x :: r, u, h => by
    rw [browCells, List.mem_append] at h
    exact h.elim (x.one u) (browCells_one' r u)

/-- what lies there, as a list -/
theorem bds_list {w : World} {bs : List Bd} {A : Option Addr} (h : BdsAt w bs A) :
    ∃ xs : List BLain, xs.map (·.1) = bs ∧ (∀ x ∈ xs, TmAt w x.1.tm x.2.1 x.2.2 ∧ x.1.name.size ≤ 140737488351232) ∧ ∀ b o, A = some ⟨b, o, none⟩ → ∀ j u, (browCells xs)[j]? = some u → w.cell? ⟨b, o + j, none⟩ = some u := by
  have each : ∀ i, i < bs.length → ∃ y : BLain, (bs[i]?.map fun x => x) = some y.1 ∧ TmAt w y.1.tm y.2.1 y.2.2 ∧ y.1.name.size ≤ 140737488351232 ∧ ∀ b o, A = some ⟨b, o, none⟩ → ∀ j, j < 5 → w.cell? ⟨b, o + i * 5 + j, none⟩ = y.cells[j]? := by
    intro i hi
    obtain ⟨b, o, B, e, rfl, c0, c1, c2, c3, c4, hT, hn⟩ := h i hi
    refine ⟨(bs[i], B, e), by rw [List.getElem?_eq_getElem hi]; rfl, hT, hn, fun b' o' eA j hj => ?_⟩
    injection eA with eA
    injection eA with e1 e2
    subst e1 e2
    have e5 : j = 0 ∨ j = 1 ∨ j = 2 ∨ j = 3 ∨ j = 4 := by omega
    rcases e5 with rfl | rfl | rfl | rfl | rfl <;> simpa [BLain.cells]
  haveI : Inhabited BLain := ⟨⟨⟨.empty, ⟨0, .empty, 0, []⟩⟩, none, 0⟩⟩
  obtain ⟨f, hf⟩ := Go.Deep.choose_lt (α := BLain) (h := each)
  have hl : ((List.range bs.length).map f).length = bs.length := by simp
  refine ⟨(List.range bs.length).map f, ?_, ?_, ?_⟩
  · apply List.ext_getElem (by simp)
    intro i h1 h2
    have := (hf i h2).1
    rw [List.getElem?_eq_getElem h2] at this
    simp only [Option.map_some, Option.some.injEq] at this
    simp [this]
  · intro x hx
    obtain ⟨i, hi, rfl⟩ := List.mem_map.1 hx
    have := hf i (by simpa using hi)
    exact ⟨this.2.1, this.2.2.1⟩
  · intro b o eA j u hj
    have hlt : j < ((List.range bs.length).map f).length * 5 := by
      rw [← browCells_len]
      exact (List.getElem?_eq_some_iff.1 hj).1
    rw [hl] at hlt
    have e : j = j / 5 * 5 + j % 5 := by omega
    have hi : j / 5 < bs.length := by omega
    rw [e, browCells_at _ (j / 5) (j % 5) (by rw [hl]; exact hi) (by omega)] at hj
    have := (hf (j / 5) hi).2.2.2 b o eA (j % 5) (by omega)
    rw [e, ← Nat.add_assoc, this]
    simpa using hj
/-- binds in blocks of their own -/
structure BdsOwn (w : World) (bs : List Bd) (A : Option Addr) (F : Nat → Prop) (B : Nat → Option Addr) (d : Nat → Nat) (G : Nat → Nat → Prop) : Prop where
  row : ∀ i (h : i < bs.length), ∃ b o, A = some ⟨b, o, none⟩ ∧ w.cell? ⟨b, o + i * 5, none⟩ = some (.string bs[i].name) ∧ w.cell? ⟨b, o + i * 5 + 1, none⟩ = some (.int .i64 bs[i].tm.kind) ∧
    w.cell? ⟨b, o + i * 5 + 2, none⟩ = some (.string bs[i].tm.name) ∧ w.cell? ⟨b, o + i * 5 + 3, none⟩ = some (.int .i64 bs[i].tm.n) ∧ w.cell? ⟨b, o + i * 5 + 4, none⟩ = some (.slice (B i) bs[i].tm.args.length (d i)) ∧ bs[i].name.size ≤ 140737488351232
  sub : ∀ i (h : i < bs.length), TmOwn w bs[i].tm (B i) (d i) (G i)
  own : ∀ b o, A = some ⟨b, o, none⟩ → 0 < bs.length → F b ∧ (∀ i, i < bs.length → ¬ G i b) ∧ ∀ j, j < bs.length * 5 → w.frozen? ⟨b, o + j, none⟩ = false
  inF : ∀ i, i < bs.length → ∀ k, G i k → F k
  apart : ∀ i j, i < bs.length → j < bs.length → i ≠ j → ∀ k, G i k → ¬ G j k
theorem BdsOwn.at_ {w : World} {bs : List Bd} {A : Option Addr} {F : Nat → Prop} {B : Nat → Option Addr} {d : Nat → Nat} {G : Nat → Nat → Prop} (h : BdsOwn w bs A F B d G) : BdsAt w bs A := by
  intro i hi
  obtain ⟨b, o, e, c0, c1, c2, c3, c4, hn⟩ := h.row i hi
  exact ⟨b, o, B i, d i, e, c0, c1, c2, c3, c4, (h.sub i hi).at_, hn⟩

/-! filled from the front -/
def BRowSet (ys : List Value) (zs : List BLain) : Prop := ∀ i (h : i < zs.length) j, j < 5 → ys[i * 5 + j]? = zs[i].cells[j]?
def put5 (ys : List Value) (p : Nat) (c0 c1 c2 c3 c4 : Value) : List Value := ((((ys.set p c0).set (p + 1) c1).set (p + 2) c2).set (p + 3) c3).set (p + 4) c4
theorem BRowSet.step {ys : List Value} {zs : List BLain} (h : BRowSet ys zs) (y : BLain) (hl : zs.length * 5 + 5 ≤ ys.length) : BRowSet (put5 ys (zs.length * 5) (.string y.1.name) (.int .i64 y.1.tm.kind) (.string y.1.tm.name) (.int .i64 y.1.tm.n) (.slice y.2.1 y.1.tm.args.length y.2.2)) (zs ++ [y]) := by
  intro i hi j hj
  by_cases hlt : i < zs.length
  · rw [List.getElem_append_left hlt, ← h i hlt j hj]
    unfold put5
    rw [List.getElem?_set_ne (by omega), List.getElem?_set_ne (by omega), List.getElem?_set_ne (by omega), List.getElem?_set_ne (by omega), List.getElem?_set_ne (by omega)]
  · have e : i = zs.length := by simp at hi; omega
    subst e
    rw [List.getElem_concat_length rfl]
    unfold put5
    have e5 : j = 0 ∨ j = 1 ∨ j = 2 ∨ j = 3 ∨ j = 4 := by omega
    rcases e5 with rfl | rfl | rfl | rfl | rfl <;> simp [List.getElem?_set, BLain.cells] <;> omega
theorem BRowSet.all {ys : List Value} {zs : List BLain} (h : BRowSet ys zs) (hl : ys.length = zs.length * 5) : ys = browCells zs := by
  apply List.ext_getElem?
  intro q
  by_cases hq : q < zs.length * 5
  · have e : q = (q / 5) * 5 + q % 5 := by omega
    rw [e, h (q / 5) (by omega) (q % 5) (by omega), browCells_at zs (q / 5) (q % 5) (by omega) (by omega)]
  · rw [List.getElem?_eq_none (by omega), List.getElem?_eq_none (by rw [browCells_len]; omega)]
def set5 (w : World) (b o : Nat) (v0 v1 v2 v3 v4 : Value) : World := ((((w.setCell ⟨b, o, none⟩ v0).setCell ⟨b, o + 1, none⟩ v1).setCell ⟨b, o + 2, none⟩ v2).setCell ⟨b, o + 3, none⟩ v3).setCell ⟨b, o + 4, none⟩ v4
theorem set5_size (w : World) (b o : Nat) (v0 v1 v2 v3 v4 : Value) : (set5 w b o v0 v1 v2 v3 v4).heap.size = w.heap.size := by simp [set5, World.setCell]
theorem set5_block (w : World) (b o : Nat) (v0 v1 v2 v3 v4 : Value) (k : Nat) (h : k ≠ b) : (set5 w b o v0 v1 v2 v3 v4).heap[k]? = w.heap[k]? := by
  unfold set5
  rw [Below.heap_setCell _ _ _ _ h, Below.heap_setCell _ _ _ _ h, Below.heap_setCell _ _ _ _ h, Below.heap_setCell _ _ _ _ h, Below.heap_setCell _ _ _ _ h]
theorem set5_chg (w : World) (b o : Nat) (v0 v1 v2 v3 v4 : Value) {F : Nat → Prop} (hF : F b) : Chg F w (set5 w b o v0 v1 v2 v3 v4) :=
  ⟨by simp [set5, World.setCell], by simp [set5, World.setCell], by simp [set5, World.setCell], by rw [set5_size]; exact Nat.le_refl _, fun k _ hk => set5_block _ _ _ _ _ _ _ _ _ (fun e => hk (e ▸ hF))⟩
/-- what filling has come to: us is to lie there -/
structure BFill (W w : World) (us : List Bd) (g : Nat) (k : Nat) (zs : List BLain) (G : Nat → Nat → Prop) (ys : List Value) : Prop where
  len : zs.length = k
  map : zs.map (·.1) = us.take k
  all : ys.length = us.length * 5
  row : BRowSet ys zs
  own : w.ownsRow W.heap.size 67 5 (.slice (some ⟨g, 0, none⟩) us.length us.length) us.length ys
  inv : CopyInv W w (.slice (some ⟨g, 0, none⟩) us.length us.length) (zs.map BLain.tl) G
  names : ∀ z ∈ zs, z.1.name.size ≤ 140737488351232

theorem BFill.done {W w : World} {us : List Bd} {g k : Nat} {zs : List BLain} {G : Nat → Nat → Prop} {ys : List Value} (h : BFill W w us g k zs G ys) (hk : us.length ≤ k) :
    BdsOwn w us (some ⟨g, 0, none⟩) (fun x => W.heap.size ≤ x ∧ x < w.heap.size) (fun i => (zs[i]?.map (·.2.1)).getD none) (fun i => (zs[i]?.map (·.2.2)).getD 0) G := by
  have hm : zs.map (·.1) = us := by rw [h.map, List.take_of_length_le hk]
  have hl : zs.length = us.length := by have := congrArg List.length hm; rwa [List.length_map] at this
  have hy : ys = browCells zs := h.row.all (by rw [h.all, hl])
  have hu : ∀ i (hi : i < us.length), zs[i].1 = us[i] := fun i hi => by
    have := congrArg (fun l : List Bd => l[i]?) hm
    simp only [List.getElem?_map, List.getElem?_eq_getElem (show i < zs.length by omega), List.getElem?_eq_getElem hi, Option.map_some, Option.some.injEq] at this
    exact this
  have hlt := h.own.lt g rfl
  refine ⟨fun i hi => ?_, fun i hi => ?_, fun b o e hp => ?_, fun i hi k hk => ?_, fun i j hi hj => h.inv.apart i j (by simp; omega) (by simp; omega)⟩
  · have cell : ∀ j, j < 5 → w.cell? ⟨g, 0 + i * 5 + j, none⟩ = zs[i].cells[j]? := fun j hj => by
      rw [show 0 + i * 5 + j = i * 5 + j by omega, h.own.cellAt (i * 5 + j) (by omega), hy, browCells_at zs i j (by omega) hj]
    have eu := hu i hi
    refine ⟨g, 0, rfl, ?_, ?_, ?_, ?_, ?_, ?_⟩
    · have := cell 0 (by omega); simpa [BLain.cells, eu] using this
    · have := cell 1 (by omega); simpa [BLain.cells, eu] using this
    · have := cell 2 (by omega); simpa [BLain.cells, eu] using this
    · have := cell 3 (by omega); simpa [BLain.cells, eu] using this
    · have := cell 4 (by omega); simpa [BLain.cells, eu, hl, hi] using this
    · rw [← eu]; exact h.names _ (List.getElem_mem _)
  · have := h.inv.sub i (by simp; omega)
    simp only [List.getElem_map, BLain.tl, hu i hi] at this
    simpa [hl, hi] using this
  · injection e with e
    injection e with e1 e2
    subst e1 e2
    exact ⟨hlt, fun i hi hb => (h.inv.inF i (by simp; omega) g hb).2.2 rfl, fun j hj => by rw [Nat.zero_add]; exact h.own.frozenAt j⟩
  · have := h.inv.inF i (by simp; omega) k hk
    exact ⟨this.1, this.2.1⟩
theorem BFill.cells {W w : World} {us : List Bd} {g k : Nat} {zs : List BLain} {G : Nat → Nat → Prop} {ys : List Value} (h : BFill W w us g k zs G ys) (hk : k < us.length) :
    (∃ u, w.cell? ⟨g, k * 5, none⟩ = some u) ∧ (∃ u, w.cell? ⟨g, k * 5 + 1, none⟩ = some u) ∧ (∃ u, w.cell? ⟨g, k * 5 + 2, none⟩ = some u) ∧ (∃ u, w.cell? ⟨g, k * 5 + 3, none⟩ = some u) ∧ (∃ u, w.cell? ⟨g, k * 5 + 4, none⟩ = some u) ∧
    w.frozen? ⟨g, k * 5, none⟩ = false ∧ w.frozen? ⟨g, k * 5 + 1, none⟩ = false ∧ w.frozen? ⟨g, k * 5 + 2, none⟩ = false ∧ w.frozen? ⟨g, k * 5 + 3, none⟩ = false ∧ w.frozen? ⟨g, k * 5 + 4, none⟩ = false ∧ g < w.heap.size := by
  have hy := h.all
  have c := fun j (hj : j < 5) => (h.own.cellAt (k * 5 + j) (by omega)).trans (List.getElem?_eq_getElem (by omega))
  exact ⟨⟨_, c 0 (by omega)⟩, ⟨_, c 1 (by omega)⟩, ⟨_, c 2 (by omega)⟩, ⟨_, c 3 (by omega)⟩, ⟨_, c 4 (by omega)⟩,
    h.own.frozenAt _, h.own.frozenAt _, h.own.frozenAt _, h.own.frozenAt _, h.own.frozenAt _, (h.own.lt g rfl).2⟩
end Go.Proofs.Ythmpolifgngdiaa
