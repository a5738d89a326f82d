/- Joined: Row, Own, Wdr, Grd, Copy, Nm. -/
import Derived.Test.YthmpolifgngdiaaTm
import Derived.Test.YthmpolifgngdiaaWc
import Derived.OwnWalk
import Derived.Deep.AppendLies
import Derived.Maps.AppendAt
import Derived.WalkKit

/- A slice of terms that a call has made itself. -/
namespace Go.Proofs.Ythmpolifgngdiaa
open Go.RowKit

/-- a term and where its arguments lie -/
abbrev Lain := Tm × Option Addr × Nat
def Lain.cells (x : Lain) : List Value := [.int .i64 x.1.kind, .string x.1.name, .int .i64 x.1.n, .slice x.2.1 x.1.args.length x.2.2]
def rowCells : List Lain → List Value
  | [] => []
  | x :: r => x.cells ++ rowCells r
theorem rowCells_len : ∀ xs : List Lain, (rowCells xs).length = xs.length * 4
  | [] => rfl
  | x :: r => by rw [rowCells, List.length_append, rowCells_len r, Lain.cells, List.length_cons]; simp; omega
theorem rowCells_at : ∀ (xs : List Lain) (i j : Nat) (h : i < xs.length), j < 4 → (rowCells xs)[i * 4 + j]? = xs[i].cells[j]?
  | x :: r, 0, j, _, hj => by
    rw [rowCells, List.getElem?_append_left (by simp [Lain.cells]; omega)]
    simp
  | x :: r, i + 1, j, h, hj => by
    rw [rowCells, List.getElem?_append_right (by simp [Lain.cells]; omega)]
    have e : (i + 1) * 4 + j - x.cells.length = i * 4 + j := by simp [Lain.cells]; omega
    rw [e, rowCells_at r i j (by simpa using h) hj]
    simp
theorem Lain.one (x : Lain) : ∀ u ∈ x.cells, u.oneCell' = true := by
  intro u hu
  simp only [Lain.cells, List.mem_cons, List.not_mem_nil, or_false] at hu
  rcases hu with rfl | rfl | rfl | rfl <;> rfl

theorem Ext.grown {w w' : World} (h : Ext w w') : w.grownBy w' none := ⟨h.os, h.tape, h.output, h.size, fun i hi _ => h.block i hi⟩
theorem ownsRow_ext {w w' : World} {base : Nat} {e : TypeId} {size : Nat} {v : Value} {n : Nat} {xs : List Value} (h : w.ownsRow base e size v n xs) (k : Ext w w') : w'.ownsRow base e size v n xs := by
  refine h.kept k.grown ?_
  rcases h.2 with ⟨rfl, _⟩ | ⟨g, cap, cur, rfl, _⟩
  · exact .inl rfl
  · exact .inr (by simp [Value.ownBlock])
/-- an append onto what is owned from the end of w1 on turns nothing of w1 -/
theorem Ext.own {w1 w w' : World} {base : Nat} {e : TypeId} {size : Nat} {v : Value} {n : Nat} {xs : List Value} (k : Ext w1 w) (h : w.ownsRow base e size v n xs) (hb : w1.heap.size ≤ base) (g : w.grownBy w' v.ownBlock) : Ext w1 w' :=
  Below.grown k g k.size (fun i hi => Nat.le_trans hb (h.lt i hi).1)

/-- what is owned is a slice of terms -/
theorem owned_tms {w : World} {base : Nat} {v : Value} {xs : List Lain} (h : w.ownsRow base 32 4 v xs.length (rowCells xs)) (hx : ∀ x ∈ xs, TmAt w x.1 x.2.1 x.2.2) :
    ∃ A c, v = .slice A xs.length c ∧ xs.length ≤ c ∧ TmsAt w (xs.map (·.1)) A := by
  rcases h.2 with ⟨rfl, h0⟩ | ⟨g, cap, cur, rfl, _, _, hc, _⟩
  · have e : xs = [] := List.eq_nil_of_length_eq_zero h0
    subst e
    exact ⟨none, 0, rfl, Nat.le_refl _, fun _ => none, fun _ => 0, fun i hi => absurd hi (by simp), fun i hi => absurd hi (by simp)⟩
  · refine ⟨_, cap, rfl, hc, fun i => (xs[i]?.map (·.2.1)).getD none, fun i => (xs[i]?.map (·.2.2)).getD 0, fun i hi => ?_, fun i hi => ?_⟩
    · have hi' : i < xs.length := by simpa using hi
      have cell : ∀ j, j < 4 → w.cell? ⟨g, 0 + i * 4 + j, none⟩ = xs[i].cells[j]? := fun j hj => by
        rw [show 0 + i * 4 + j = i * 4 + j by omega, h.cellAt (i * 4 + j) (by omega), rowCells_at xs i j hi' hj]
      refine ⟨g, 0, rfl, ?_, ?_, ?_, ?_⟩
      · have := cell 0 (by omega); simpa [Lain.cells] using this
      · have := cell 1 (by omega); simpa [Lain.cells] using this
      · have := cell 2 (by omega); simpa [Lain.cells] using this
      · have := cell 3 (by omega); simpa [Lain.cells, hi'] using this
    · have hi' : i < xs.length := by simpa using hi
      have := hx _ (List.getElem_mem hi')
      simpa [hi'] using this
end Go.Proofs.Ythmpolifgngdiaa

/- Terms that lie in blocks of their own: what may be written over without turning anything else. -/
namespace Go.Proofs.Ythmpolifgngdiaa
open Go.RowKit

/-- a row of terms in a block of F, the blocks G i of each apart from it and from one another -/
structure RowOwn (w : World) (ts : List Tm) (A : Option Addr) (F : Nat → Prop) (g : Nat → Option Addr) (d : Nat → Nat) (G : Nat → Nat → Prop) : Prop where
  row : RowAt w ts A g d
  own : ∀ b o, A = some ⟨b, o, none⟩ → 0 < ts.length → F b ∧ (∀ i, i < ts.length → ¬ G i b) ∧ ∀ j, j < ts.length * 4 → w.frozen? ⟨b, o + j, none⟩ = false
  inF : ∀ i, i < ts.length → ∀ k, G i k → F k
  apart : ∀ i j, i < ts.length → j < ts.length → i ≠ j → ∀ k, G i k → ¬ G j k

/-- a term whose arguments, and theirs, lie in blocks of F, no block twice -/
inductive TmOwn (w : World) : Tm → Option Addr → Nat → (Nat → Prop) → Prop
  | mk (t : Tm) (A : Option Addr) (c : Nat) (F : Nat → Prop) (g : Nat → Option Addr) (d : Nat → Nat) (G : Nat → Nat → Prop) (fits : t.Fits) (cap : t.args.length ≤ c) (row : RowOwn w t.args A F g d G)
      (sub : ∀ i (h : i < t.args.length), TmOwn w t.args[i] (g i) (d i) (G i)) : TmOwn w t A c F

theorem TmOwn.at_ {w : World} {t : Tm} {A : Option Addr} {c : Nat} {F : Nat → Prop} (h : TmOwn w t A c F) : TmAt w t A c := by
  induction h with
  | mk t A c F g d G fits cap row sub ih => exact .mk t A c g d fits cap row.row ih
theorem TmOwn.weak {w : World} {t : Tm} {A : Option Addr} {c : Nat} {F F' : Nat → Prop} (h : TmOwn w t A c F) (k : ∀ b, F b → F' b) : TmOwn w t A c F' := by
  cases h with
  | mk _ _ _ _ g d G fits cap row sub =>
    exact .mk t A c F' g d G fits cap ⟨row.row, fun b o e hl => ⟨k b (row.own b o e hl).1, (row.own b o e hl).2⟩, fun i hi b hb => k b (row.inF i hi b hb), row.apart⟩ sub

/-- outside of F nothing that was there has turned -/
structure Chg (F : Nat → Prop) (w w' : World) : Prop where
  os : w'.os = w.os
  tape : w'.tape = w.tape
  output : w'.output = w.output
  size : w.heap.size ≤ w'.heap.size
  block : ∀ k, k < w.heap.size → ¬ F k → w'.heap[k]? = w.heap[k]?

theorem Chg.of_ext {F : Nat → Prop} {w w' : World} (h : Ext w w') : Chg F w w' := ⟨h.os, h.tape, h.output, h.size, fun k hk _ => h.block k hk⟩
theorem Chg.refl (F : Nat → Prop) (w : World) : Chg F w w := Chg.of_ext (Ext.refl w)
theorem Chg.trans {F : Nat → Prop} {a b c : World} (h : Chg F a b) (k : Chg F b c) : Chg F a c :=
  ⟨k.os.trans h.os, k.tape.trans h.tape, k.output.trans h.output, Nat.le_trans h.size k.size, fun i hi hf => (k.block i (Nat.lt_of_lt_of_le hi h.size) hf).trans (h.block i hi hf)⟩
theorem Chg.weak {F F' : Nat → Prop} {w w' : World} (h : Chg F w w') (k : ∀ b, F b → F' b) : Chg F' w w' := ⟨h.os, h.tape, h.output, h.size, fun i hi hf => h.block i hi (fun x => hf (k i x))⟩
theorem Chg.cell {F : Nat → Prop} {w w' : World} (h : Chg F w w') {p : Addr} {v : Value} (hc : w.cell? p = some v) (hf : ¬ F p.block) : w'.cell? p = some v :=
  (World.cell?_of_block (w := w) (h.block p.block (World.block_lt_of_cell? w _ hc) hf)).trans hc
/-- what is changed lies behind w's end -/
theorem Chg.ext_of {F : Nat → Prop} {w w1 w' : World} (h : Ext w w1) (k : Chg F w1 w') (hf : ∀ b, F b → w.heap.size ≤ b) : Ext w w' :=
  ⟨k.os.trans h.os, k.tape.trans h.tape, k.output.trans h.output, Nat.le_trans h.size k.size, fun i hi => (k.block i (Nat.lt_of_lt_of_le hi h.size) (fun x => by have := hf i x; omega)).trans (h.block i hi)⟩
theorem Chg.drew {F : Nat → Prop} {a w : World} (h : Chg F a w) : Chg F a w.drew := ⟨h.os, h.tape, h.output, h.size, h.block⟩

theorem RowOwn.keep {w w' : World} {ts : List Tm} {A : Option Addr} {F : Nat → Prop} {g : Nat → Option Addr} {d : Nat → Nat} {G : Nat → Nat → Prop} (h : RowOwn w ts A F g d G)
    (k : ∀ b, F b → b < w.heap.size → w'.heap[b]? = w.heap[b]?) : RowOwn w' ts A F g d G := by
  refine ⟨fun i hi => ?_, fun b o e hl => ?_, h.inF, h.apart⟩
  · obtain ⟨b, o, e, h0, h1, h2, h3⟩ := h.row i hi
    have hF := (h.own b o e (by omega)).1
    have hb : w'.heap[b]? = w.heap[b]? := k b hF (World.block_lt_of_cell? w _ h0)
    exact ⟨b, o, e, (World.cell?_of_block (w := w) hb).trans h0, (World.cell?_of_block (w := w) hb).trans h1, (World.cell?_of_block (w := w) hb).trans h2, (World.cell?_of_block (w := w) hb).trans h3⟩
  · obtain ⟨h1, h2, h3⟩ := h.own b o e hl
    obtain ⟨b', o', e', h0, _⟩ := h.row 0 hl
    have eb : b' = b := by rw [e] at e'; injection e' with e'; injection e' with e1 e2; exact e1.symm
    subst eb
    have hb : w'.heap[b']? = w.heap[b']? := k b' h1 (World.block_lt_of_cell? w _ h0)
    exact ⟨h1, h2, fun j hj => (World.frozen?_of_block (w := w) hb).trans (h3 j hj)⟩
theorem TmOwn.keep {w w' : World} {t : Tm} {A : Option Addr} {c : Nat} {F : Nat → Prop} (h : TmOwn w t A c F) (k : ∀ b, F b → b < w.heap.size → w'.heap[b]? = w.heap[b]?) : TmOwn w' t A c F := by
  induction h with
  | mk t A c F g d G fits cap row sub ih => exact .mk t A c F g d G fits cap (row.keep k) fun i hi => ih i hi fun b hb hs => k b (row.inF i hi b hb) hs
theorem TmOwn.ext {w w' : World} {t : Tm} {A : Option Addr} {c : Nat} {F : Nat → Prop} (h : TmOwn w t A c F) (k : Ext w w') : TmOwn w' t A c F := h.keep fun b _ hb => k.block b hb
/-! four cells written -/
def set4 (w : World) (b o : Nat) (v0 v1 v2 v3 : Value) : World := (((w.setCell ⟨b, o, none⟩ v0).setCell ⟨b, o + 1, none⟩ v1).setCell ⟨b, o + 2, none⟩ v2).setCell ⟨b, o + 3, none⟩ v3
theorem set4_size (w : World) (b o : Nat) (v0 v1 v2 v3 : Value) : (set4 w b o v0 v1 v2 v3).heap.size = w.heap.size := by simp [set4, World.setCell]
theorem set4_block (w : World) (b o : Nat) (v0 v1 v2 v3 : Value) (k : Nat) (h : k ≠ b) : (set4 w b o v0 v1 v2 v3).heap[k]? = w.heap[k]? := by
  unfold set4
  rw [Below.heap_setCell _ _ _ _ h, Below.heap_setCell _ _ _ _ h, Below.heap_setCell _ _ _ _ h, Below.heap_setCell _ _ _ _ h]
theorem cell_same {w w' : World} {x q : Nat} {u : Value} (e : w'.heap[x]? = w.heap[x]?) (h : w.cell? ⟨x, q, none⟩ = some u) : w'.cell? ⟨x, q, none⟩ = some u := (World.cell?_of_block (w := w) e).trans h
theorem set4_far {w : World} {b o x q : Nat} {v0 v1 v2 v3 u : Value} (h : w.cell? ⟨x, q, none⟩ = some u) (hne : b ≠ x) : (set4 w b o v0 v1 v2 v3).cell? ⟨x, q, none⟩ = some u := by
  have e := set4_block w b o v0 v1 v2 v3 x (Ne.symm hne)
  exact cell_same e h
theorem set4_chg (w : World) (b o : Nat) (v0 v1 v2 v3 : Value) {F : Nat → Prop} (hF : F b) : Chg F w (set4 w b o v0 v1 v2 v3) :=
  ⟨by simp [set4, World.setCell], by simp [set4, World.setCell], by simp [set4, World.setCell], by rw [set4_size]; exact Nat.le_refl _, fun k _ hk => set4_block _ _ _ _ _ _ _ _ (fun e => hk (e ▸ hF))⟩
end Go.Proofs.Ythmpolifgngdiaa

/- How deep and how large a term is (pure), for seats that have no Depth and Size. -/
namespace Go.Proofs.Ythmpolifgngdiaa
open Go.RowKit

theorem high_pos (t : Tm) : 1 ≤ t.high := by obtain ⟨k, s, n, l⟩ := t; simp only [Tm.high]; omega

/-- the box of a term -/
abbrev boxT (w : World) (t : Tm) (A : Option Addr) (c : Nat) : World := w.alloc (.cells #[.int .i64 t.kind, .string t.name, .int .i64 t.n, .slice A t.args.length c] 32)

mutual
def sizeT : Tm → Int
  | ⟨_, _, _, l⟩ => sizeL l 1
def sizeL : List Tm → Int → Int
  | [], n => n
  | t :: ts, n => sizeL ts (n + sizeT t)
end
theorem fits_of (d : Nat) : (∀ (t : Tm) (L : Int), (fitsT t d L).1 = true → t.high ≤ d ∧ sizeT t = L - (fitsT t d L).2) ∧
    ∀ (ts : List Tm) (L n : Int), (fitsL ts d L).1 = true → highs ts ≤ d ∧ sizeL ts n = n + (L - (fitsL ts d L).2) := by
  have step : ∀ d : Nat, (∀ (t : Tm) (L : Int), (fitsT t d L).1 = true → t.high ≤ d ∧ sizeT t = L - (fitsT t d L).2) →
      ∀ (ts : List Tm) (L n : Int), (fitsL ts d L).1 = true → highs ts ≤ d ∧ sizeL ts n = n + (L - (fitsL ts d L).2) := by
    intro d h ts
    induction ts with
    | nil => intro L n _; simp [fitsL, sizeL, highs]
    | cons t ts ih =>
      intro L n hf
      by_cases ht : (fitsT t d L).1 = true
      · have h1 := h t L ht
        rw [fitsL, if_pos ht] at hf ⊢
        have h2 := ih (fitsT t d L).2 (n + sizeT t) hf
        rw [sizeL, highs]
        omega
      · rw [fitsL, if_neg ht] at hf
        cases hf
  induction d with
  | zero =>
    have h0 : ∀ (t : Tm) (L : Int), (fitsT t 0 L).1 = true → t.high ≤ 0 ∧ sizeT t = L - (fitsT t 0 L).2 := fun t L h => by obtain ⟨k, s, n, l⟩ := t; simp [fitsT] at h
    exact ⟨h0, step 0 h0⟩
  | succ d ih =>
    have h0 : ∀ (t : Tm) (L : Int), (fitsT t (d + 1) L).1 = true → t.high ≤ d + 1 ∧ sizeT t = L - (fitsT t (d + 1) L).2 := by
      intro t L h
      obtain ⟨k, s, n, l⟩ := t
      by_cases hL : L = 0
      · rw [fitsT, if_pos hL] at h; cases h
      · by_cases hp : plainB ⟨k, s, n, l⟩ = true
        · rw [fitsT, if_neg hL, if_pos hp] at h ⊢
          have := ih.2 l (L - 1) 1 h
          rw [sizeT, Tm.high]
          omega
        · rw [fitsT, if_neg hL, if_neg hp] at h; cases h
    exact ⟨h0, step (d + 1) h0⟩
theorem may_high {t : Tm} (h : mayB t = true) : t.high ≤ 5 := ((fits_of 5).1 t 24 h).1
theorem may_size {t : Tm} (h : mayB t = true) : sizeT t ≤ 24 := by
  have h1 := ((fits_of 5).1 t 24 h).2
  have h2 := (fits_bd 5).1 t 24 (by omega)
  omega

end Go.Proofs.Ythmpolifgngdiaa

/- term.ground, for seats without Depth and Size. -/
namespace Go.Proofs.Ythmpolifgngdiaa
open Go.RowKit

mutual
def groundT : Tm → Bool
  | ⟨k, _, _, l⟩ => groundL l && (k != 1)
def groundL : List Tm → Bool
  | [] => true
  | t :: ts => groundT t && groundL ts
end

set_option maxHeartbeats 1000000 in
theorem ground_any (hh : Nat) : ∀ (t : Tm) (A : Option Addr) (c : Nat) (w : World), t.high ≤ hh → TmAt w t A c →
    Calls Try.prog 56 #[t.val A c] w fun e w' => e = .returned (.bool (groundT t)) ∧ Ext w w' := by
  induction hh with
  | zero => intro t A c w h0; have := high_pos t; omega
  | succ hh ih =>
    intro t A c w hh0 h
    have IH := Lib.hid ih
    clear ih
    have hl := h.fits.args
    have H0 : Hid ((groundL t.args && (t.kind != 1)) = groundT t) := Lib.hid (by obtain ⟨k, s, n, l⟩ := t; rfl)
    go_enter Try.func56, Try.ntmps56
    go_wp2_with fail
    go_loopw [8] (fun i wr => ∃ (k : Nat), k ≤ t.args.length ∧ i = .int .i64 k ∧ Hid ((groundL (t.args.drop k) && (t.kind != 1)) = groundT t) ∧ Ext (boxT w t A c) wr) (fun i _ => t.args.length - (intOf i).toNat)
    case atStart => exact ⟨0, Nat.zero_le _, rfl, H0, Ext.refl _⟩
    case round =>
      obtain ⟨k, hk, rfl, H, hx⟩ := hrel
      have hxw : Ext w wr := ((Ext.refl w).alloc _).trans hx
      by_cases hlt : k < t.args.length
      · obtain ⟨b, o, B, e, rfl, c0, c1, c2, c3, hsub⟩ := (h.ext hxw).args.at_ hlt
        have hb := high_lt hlt
        have H2 : Hid (((groundT t.args[k] && groundL (t.args.drop (k + 1))) && (t.kind != 1)) = groundT t) := by
          have := H.out
          rw [List.drop_eq_getElem_cons hlt, groundL] at this
          exact Lib.hid this
        clear H H0
        go_wp2_with fail
        refine (IH.out _ _ _ _ (by omega) (hsub.ext ((Ext.refl _).alloc _))).mono ?_
        rintro e w1 ⟨rfl, hx1⟩
        have hx2 := hx.trans (((Ext.refl _).alloc _).trans hx1)
        by_cases hg : groundT t.args[k] = true
        · have H3 : Hid ((groundL (t.args.drop (k + 1)) && (t.kind != 1)) = groundT t) := by
            have := H2.out
            rw [hg, Bool.true_and] at this
            exact Lib.hid this
          clear H2
          go_wp2_with fail
          go_roundw
          case rel => exact ⟨k + 1, by omega, by go_num, H3, hx2⟩
          case measure => simp [intOf]; omega
        · have hg' : groundT t.args[k] = false := by simpa using hg
          have H3 : Hid (false = groundT t) := by
            have := H2.out
            rw [hg', Bool.false_and, Bool.false_and] at this
            exact Lib.hid this
          clear H2 hg
          go_wp2_with fail
          go_ret
          exact ⟨by rw [← H3.out]; rfl, ((Ext.refl w).alloc _).trans hx2⟩
      · have hbox : wr.cell? ⟨w.heap.size, 0, none⟩ = some (.int .i64 t.kind) := hx.cell (by go_simp)
        go_wp2_with fail
        go_ret
        exact ⟨ret_bool (by have := H.out; rwa [List.drop_eq_nil_of_le (by omega), groundL, Bool.true_and] at this), hxw⟩
end Go.Proofs.Ythmpolifgngdiaa

/- almagestref0.CopyTerm, CopyTerms: the same term in new memory, no block of it shared. -/
namespace Go.Proofs.Ythmpolifgngdiaa
open Go.RowKit

/-- what has been copied so far -/
structure CopyInv (w wr : World) (v : Value) (xs : List Lain) (G : Nat → Nat → Prop) : Prop where
  sub : ∀ i (h : i < xs.length), TmOwn wr xs[i].1 xs[i].2.1 xs[i].2.2 (G i)
  inF : ∀ i, i < xs.length → ∀ x, G i x → w.heap.size ≤ x ∧ x < wr.heap.size ∧ v.ownBlock ≠ some x
  apart : ∀ i j, i < xs.length → j < xs.length → i ≠ j → ∀ x, G i x → ¬ G j x
  ext : Ext w wr

theorem CopyInv.step {w wr w1 w4 : World} {v v' : Value} {xs : List Lain} {G : Nat → Nat → Prop} {y : Lain} {o : Obj} (h : CopyInv w wr v xs G)
    (hO : TmOwn w1 y.1 y.2.1 y.2.2 (fun k => wr.heap.size ≤ k ∧ k < w1.heap.size)) (hx : Ext wr w1) (hg : (w1.alloc o).grownBy w4 v.ownBlock) (hv : ∀ b, v.ownBlock = some b → w.heap.size ≤ b ∧ b < wr.heap.size)
    (hat : v'.ownBlock = v.ownBlock ∨ v'.ownBlock = some (w1.heap.size + 1)) :
    CopyInv w w4 v' (xs ++ [y]) (fun i x => if i < xs.length then G i x else wr.heap.size ≤ x ∧ x < w1.heap.size) := by
  have hs1 := hx.size
  have hs4 := hg.size
  have esz : (w1.alloc o).heap.size = w1.heap.size + 1 := by simp
  have hxa : Ext wr (w1.alloc o) := hx.alloc o
  have keep : ∀ b, b < w1.heap.size → v.ownBlock ≠ some b → w4.heap[b]? = w1.heap[b]? := fun b hb hne => (hg.block b (by omega) (fun e => hne e.symm)).trans (Below.heap_alloc w1 o b hb)
  refine ⟨fun i hi => ?_, fun i hi x hx' => ?_, fun i j hi hj hij x h1 h2 => ?_, ?_⟩
  · by_cases hlt : i < xs.length
    · simp only [List.getElem_append_left hlt, hlt, if_true]
      refine (h.sub i hlt).keep fun b hb hs => ?_
      have := h.inF i hlt b hb
      rw [keep b (by omega) this.2.2, hx.block b hs]
    · have e : i = xs.length := by simp at hi; omega
      subst e
      simp only [List.getElem_concat_length, Nat.lt_irrefl, if_false]
      refine hO.keep fun b hb hs => keep b hs (fun e => ?_)
      have := hv b e
      omega
  · by_cases hlt : i < xs.length
    · simp only [hlt, if_true] at hx'
      have := h.inF i hlt x hx'
      refine ⟨this.1, by omega, fun e => ?_⟩
      rcases hat with e' | e' <;> rw [e'] at e
      · exact this.2.2 e
      · injection e with e; omega
    · simp only [hlt, if_false] at hx'
      have hw := h.ext.size
      refine ⟨by omega, by omega, fun e => ?_⟩
      rcases hat with e' | e' <;> rw [e'] at e
      · have := hv x e; omega
      · injection e with e; omega
  · have hi' : i < xs.length + 1 := by simpa using hi
    have hj' : j < xs.length + 1 := by simpa using hj
    by_cases hli : i < xs.length <;> by_cases hlj : j < xs.length <;> simp only [hli, hlj, if_true, if_false] at h1 h2
    · exact h.apart i j hli hlj hij x h1 h2
    · have := h.inF i hli x h1; omega
    · have := h.inF j hlj x h2; omega
    · omega
  · exact Below.grown (h.ext.trans hxa) hg (by have := h.ext.size; omega) (fun b hb => (hv b hb).1)

/-- a copy -/
def Copied (t : Tm) (w : World) (e : Ending) (w' : World) : Prop := ∃ A c, e = .returned (t.val A c) ∧ TmOwn w' t A c (fun k => w.heap.size ≤ k ∧ k < w'.heap.size) ∧ Ext w w'
def CopiedL (ts : List Tm) (w : World) (e : Ending) (w' : World) : Prop := ∃ A c g d G, e = .returned (.slice A ts.length c) ∧ ts.length ≤ c ∧ RowOwn w' ts A (fun k => w.heap.size ≤ k ∧ k < w'.heap.size) g d G ∧
  (∀ i (h : i < ts.length), TmOwn w' ts[i] (g i) (d i) (G i)) ∧ Ext w w'

/-- what has been copied in the end -/
theorem CopyInv.done {w wr : World} {v : Value} {xs : List Lain} {G : Nat → Nat → Prop} {ts : List Tm} (h : CopyInv w wr v xs G) (hown : wr.ownsRow w.heap.size 32 4 v xs.length (rowCells xs)) (e : xs.map (·.1) = ts) :
    CopiedL ts w (.returned v) wr := by
  subst e
  obtain ⟨A, c, rfl, hc, g, d, hr, hs⟩ := owned_tms hown (fun x hx => by obtain ⟨i, hi, rfl⟩ := List.getElem_of_mem hx; exact (h.sub i hi).at_)
  refine ⟨A, c, fun i => (xs[i]?.map (·.2.1)).getD none, fun i => (xs[i]?.map (·.2.2)).getD 0, G, by simp, by simpa using hc, ⟨?_, ?_, ?_, ?_⟩, ?_, h.ext⟩
  · intro i hi
    have hi' : i < xs.length := by simpa using hi
    rcases hown.2 with ⟨hv, h0⟩ | ⟨b, cap, cur, hv, _, _, _, _⟩
    · omega
    · injection hv with hA _ _
      subst hA
      have cell : ∀ j, j < 4 → wr.cell? ⟨b, 0 + i * 4 + j, none⟩ = xs[i].cells[j]? := fun j hj => by
        have hown' := hown
        rw [show 0 + i * 4 + j = i * 4 + j by omega, hown'.cellAt (i * 4 + j) (by omega), rowCells_at xs i j hi' hj]
      refine ⟨b, 0, rfl, ?_, ?_, ?_, ?_⟩
      · have := cell 0 (by omega); simpa [Lain.cells] using this
      · have := cell 1 (by omega); simpa [Lain.cells] using this
      · have := cell 2 (by omega); simpa [Lain.cells] using this
      · have := cell 3 (by omega); simpa [Lain.cells, hi'] using this
  · intro b o hA hl
    subst hA
    have hl' : 0 < xs.length := by simpa using hl
    have hlt := hown.lt b rfl
    refine ⟨hlt, fun i hi hb => (h.inF i (by simpa using hi) b hb).2.2 rfl, fun j hj => ?_⟩
    rcases hown.2 with ⟨hv, h0⟩ | ⟨b', cap, cur, hv, _, _, _, _⟩
    · omega
    · injection hv with hA hB hC
      injection hA with hA
      injection hA with e1 e2
      subst e1 e2 hC
      rw [Nat.zero_add]
      exact hown.frozenAt j
  · intro i hi x hx
    have := h.inF i (by simpa using hi) x hx
    exact ⟨this.1, this.2.1⟩
  · intro i j hi hj hij x
    exact h.apart i j (by simpa using hi) (by simpa using hj) hij x
  · intro i hi
    have hi' : i < xs.length := by simpa using hi
    have := h.sub i hi'
    simpa [hi'] using this


theorem infoTm' : (Try.prog.info? 32).map (fun i => (i.zero, i.size, i.bytes)) = some (some (.agg #[.int .i64 0, .string ⟨#[]⟩, .int .i64 0, .slice none 0 0]), 4, 56) := by kernel_rfl

end Go.Proofs.Ythmpolifgngdiaa

/- Names as numbers: the words of a label, and that they rise as the names do. -/
namespace Go.Proofs.Ythmpolifgngdiaa

/-- so many bytes as one number, the first one highest; none: 0 -/
def nm : Nat → List UInt8 → Nat
  | 0, _ => 0
  | _ + 1, [] => 0
  | m + 1, b :: l => b.toNat * 256 ^ m + nm m l

theorem byte_lt (b : UInt8) : b.toNat < 256 := by have := b.toNat_lt; omega

theorem nm_lt : ∀ (m : Nat) (l : List UInt8), nm m l < 256 ^ m
  | 0, _ => by simp [nm]
  | m + 1, [] => by simp only [nm]; exact Nat.pow_pos (by omega)
  | m + 1, b :: l => by
    have h1 := nm_lt m l
    have h2 := byte_lt b
    have h3 : b.toNat * 256 ^ m ≤ 255 * 256 ^ m := Nat.mul_le_mul_right _ (by omega)
    simp only [nm, Nat.pow_succ]
    omega
theorem nm_lt8 (l : List UInt8) : nm 8 l < 18446744073709551616 := by have := nm_lt 8 l; omega

theorem nm_nil (m : Nat) : nm m [] = 0 := by cases m <;> rfl

theorem nm_snoc : ∀ (m : Nat) (l : List UInt8) (b : UInt8), l.length < m → nm m (l ++ [b]) = nm m l + b.toNat * 256 ^ (m - 1 - l.length)
  | 0, _, _, h => by omega
  | m + 1, [], b, _ => by simp [nm, nm_nil]
  | m + 1, a :: l, b, h => by
    have := nm_snoc m l b (by simpa using h)
    simp only [List.cons_append, nm, this, List.length_cons]
    have e : m + 1 - 1 - (l.length + 1) = m - 1 - l.length := by omega
    rw [e]; omega
theorem nm_dvd : ∀ (m : Nat) (l : List UInt8), l.length ≤ m → 256 ^ (m - l.length) ∣ nm m l
  | 0, _, _ => by simp [nm]
  | m + 1, [], _ => by simp [nm]
  | m + 1, a :: l, h => by
    have h1 := nm_dvd m l (by simpa using h)
    simp only [nm, List.length_cons]
    have e : m + 1 - (l.length + 1) = m - l.length := by omega
    rw [e]
    exact Nat.dvd_add (Nat.dvd_mul_left_of_dvd (Nat.pow_dvd_pow 256 (by omega)) _) h1

theorem or_add (p x y : Nat) (hx : 2 ^ p ∣ x) (hy : y < 2 ^ p) : x ||| y = x + y := by
  obtain ⟨q, rfl⟩ := hx
  exact (Nat.two_pow_add_eq_or_of_lt hy q).symm

/-- one byte more -/
theorem nm_or (m : Nat) (l : List UInt8) (b : UInt8) (h : l.length < m) : nm m l ||| b.toNat * 2 ^ (8 * (m - 1 - l.length)) = nm m (l ++ [b]) := by
  have e : (2 : Nat) ^ (8 * (m - 1 - l.length)) = 256 ^ (m - 1 - l.length) := by rw [Nat.pow_mul]
  have h1 := nm_dvd m l (by omega)
  have e2 : (256 : Nat) ^ (m - l.length) = 2 ^ (8 * (m - l.length)) := by rw [Nat.pow_mul]
  rw [e2] at h1
  have h2 := byte_lt b
  have e3 : (2 : Nat) ^ (8 * (m - l.length)) = 256 * 256 ^ (m - 1 - l.length) := by
    rw [← e2, show m - l.length = (m - 1 - l.length) + 1 by omega, Nat.pow_succ]; omega
  rw [or_add _ _ _ h1 (by rw [e, e3]; exact Nat.mul_lt_mul_of_pos_right h2 (Nat.pow_pos (by omega))), nm_snoc m l b h, e]

theorem nm_app : ∀ (m : Nat) (l r : List UInt8), m ≤ l.length → nm m (l ++ r) = nm m l
  | 0, _, _, _ => by simp [nm]
  | m + 1, [], _, h => by simp at h
  | m + 1, a :: l, r, h => by simp only [List.cons_append, nm]; rw [nm_app m l r (by simpa using h)]

/-- the word with a byte at its place, as the machine reckons it -/
theorem word_or (X k : Nat) (b : UInt8) (hX : X < 18446744073709551616) :
    bits .or .u64 (X : Int) (IntKind.u64.wrap (IntKind.u64.wrap (b.toNat : Int) * 2 ^ (8 * ((7 - k % 8 : Nat) : Int)).toNat)) = ((X ||| b.toNat * 2 ^ (8 * (7 - k % 8)) : Nat) : Int) := by
  have hb := byte_lt b
  have e : (8 * ((7 - k % 8 : Nat) : Int)).toNat = 8 * (7 - k % 8) := by omega
  have hp : b.toNat * 2 ^ (8 * (7 - k % 8)) < 18446744073709551616 := by
    have h1 : (2 : Nat) ^ (8 * (7 - k % 8)) ≤ 2 ^ 56 := Nat.pow_le_pow_right (by omega) (by omega)
    have h2 : b.toNat * 2 ^ (8 * (7 - k % 8)) ≤ 255 * 2 ^ 56 := Nat.mul_le_mul (by omega) h1
    omega
  have hw : IntKind.u64.wrap (b.toNat : Int) = (b.toNat : Int) := IntWalk.u64_in _ (by omega)
  rw [e, hw]
  have e2 : ((b.toNat : Int) * 2 ^ (8 * (7 - k % 8))) = ((b.toNat * 2 ^ (8 * (7 - k % 8)) : Nat) : Int) := by
    rw [Int.natCast_mul, Int.natCast_pow]; rfl
  rw [e2, IntWalk.u64_in _ (by omega)]
  exact u64_or_nat _ _ hX hp
end Go.Proofs.Ythmpolifgngdiaa
