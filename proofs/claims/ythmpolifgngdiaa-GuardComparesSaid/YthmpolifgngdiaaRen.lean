/- term.renamed: the same term with longer variables, in new memory. -/
import Derived.Test.YthmpolifgngdiaaMB
import Derived.Test.YthmpolifgngdiaaWh
import Derived.StillTailTactics
import Derived.Deep.RegionHeld3
import Derived.Laws.MakeOwn
namespace Go.Proofs.Ythmpolifgngdiaa
open Go.RowKit

mutual
def renT (s : ByteArray) : Tm → Tm
  | ⟨k, m, n, l⟩ => ⟨k, if (k == 1) = true then m ++ s else m, n, renL s l⟩
def renL (s : ByteArray) : List Tm → List Tm
  | [] => []
  | t :: ts => renT s t :: renL s ts
end
theorem renL_len (s : ByteArray) : ∀ ts : List Tm, (renL s ts).length = ts.length
  | [] => rfl
  | t :: ts => by rw [renL, List.length_cons, List.length_cons, renL_len s ts]
theorem renL_at (s : ByteArray) : ∀ (ts : List Tm) (i : Nat) (h : i < ts.length), (renL s ts)[i]'(by rw [renL_len]; exact h) = renT s ts[i]
  | t :: ts, 0, _ => by simp [renL]
  | t :: ts, i + 1, h => by simp only [renL, List.getElem_cons_succ]; exact renL_at s ts i (by simpa using h)
theorem renT_args (s : ByteArray) (t : Tm) : (renT s t).args = renL s t.args := by obtain ⟨k, m, n, l⟩ := t; rfl
/-- the first ones are written -/
def RowSet (ys : List Value) (zs : List Lain) : Prop := ∀ i (h : i < zs.length) j, j < 4 → ys[i * 4 + j]? = zs[i].cells[j]?
def put4 (ys : List Value) (p : Nat) (c0 c1 c2 c3 : Value) : List Value := (((ys.set p c0).set (p + 1) c1).set (p + 2) c2).set (p + 3) c3
theorem RowSet.step {ys : List Value} {zs : List Lain} (h : RowSet ys zs) (y : Lain) (hl : zs.length * 4 + 4 ≤ ys.length) : RowSet (put4 ys (zs.length * 4) (.int .i64 y.1.kind) (.string y.1.name) (.int .i64 y.1.n) (.slice y.2.1 y.1.args.length y.2.2)) (zs ++ [y]) := by
  intro i hi j hj
  by_cases hlt : i < zs.length
  · rw [List.getElem_append_left hlt, ← h i hlt j hj]
    unfold put4
    rw [List.getElem?_set_ne (by omega), List.getElem?_set_ne (by omega), List.getElem?_set_ne (by omega), List.getElem?_set_ne (by omega)]
  · have e : i = zs.length := by simp at hi; omega
    subst e
    rw [List.getElem_concat_length rfl]
    unfold put4
    have e4 : j = 0 ∨ j = 1 ∨ j = 2 ∨ j = 3 := by omega
    rcases e4 with rfl | rfl | rfl | rfl <;> simp [List.getElem?_set, Lain.cells] <;> omega
theorem RowSet.all {ys : List Value} {zs : List Lain} (h : RowSet ys zs) (hl : ys.length = zs.length * 4) : ys = rowCells zs := by
  apply List.ext_getElem?
  intro q
  by_cases hq : q < zs.length * 4
  · have e : q = (q / 4) * 4 + q % 4 := by omega
    rw [e, h (q / 4) (by omega) (q % 4) (by omega), rowCells_at zs (q / 4) (q % 4) (by omega) (by omega)]
  · rw [List.getElem?_eq_none (by omega), List.getElem?_eq_none (by rw [rowCells_len]; omega)]
theorem own_put4 {w : World} {base g n cap : Nat} {ys : List Value} (h : w.ownsRow base 32 4 (.slice (some ⟨g, 0, none⟩) n cap) n ys) (p : Nat) (c0 c1 c2 c3 : Value) :
    (set4 w g p c0 c1 c2 c3).ownsRow base 32 4 (.slice (some ⟨g, 0, none⟩) n cap) n (put4 ys p c0 c1 c2 c3) := by
  have h1 := (h.stored p c0).1
  have h2 := (h1.stored (p + 1) c1).1
  have h3 := (h2.stored (p + 2) c2).1
  exact (h3.stored (p + 3) c3).1

/-- one more, no new block behind it -/
theorem CopyInv.step2 {w wr w1 w4 : World} {v : Value} {xs : List Lain} {G : Nat → Nat → Prop} {y : Lain} (h : CopyInv w wr v xs G)
    (hO : TmOwn w1 y.1 y.2.1 y.2.2 (fun k => wr.heap.size ≤ k ∧ k < w1.heap.size)) (hx : Ext wr w1) (hk : ∀ b, b < w1.heap.size → v.ownBlock ≠ some b → w4.heap[b]? = w1.heap[b]?) (hs : w4.heap.size = w1.heap.size)
    (hv : ∀ b, v.ownBlock = some b → w.heap.size ≤ b ∧ b < wr.heap.size) (he : Ext w w4) :
    CopyInv w w4 v (xs ++ [y]) (fun i x => if i < xs.length then G i x else wr.heap.size ≤ x ∧ x < w1.heap.size) := by
  have hs1 := hx.size
  refine ⟨fun i hi => ?_, fun i hi x hx' => ?_, fun i j hi hj hij x h1 h2 => ?_, he⟩
  · by_cases hlt : i < xs.length
    · simp only [List.getElem_append_left hlt, hlt, if_true]
      refine (h.sub i hlt).keep fun b hb hs => ?_
      have := h.inF i hlt b hb
      rw [hk b (by omega) this.2.2, hx.block b hs]
    · have e : i = xs.length := by simp at hi; omega
      subst e
      simp only [List.getElem_concat_length, Nat.lt_irrefl, if_false]
      refine hO.keep fun b hb hs => hk b hs (fun e => ?_)
      have := hv b e
      omega
  · by_cases hlt : i < xs.length
    · simp only [hlt, if_true] at hx'
      have := h.inF i hlt x hx'
      exact ⟨this.1, by omega, this.2.2⟩
    · simp only [hlt, if_false] at hx'
      have hw := h.ext.size
      refine ⟨by omega, by omega, fun e => ?_⟩
      have := hv x e
      omega
  · have hi' : i < xs.length + 1 := by simpa using hi
    have hj' : j < xs.length + 1 := by simpa using hj
    by_cases hli : i < xs.length <;> by_cases hlj : j < xs.length <;> simp only [hli, hlj, if_true, if_false] at h1 h2
    · exact h.apart i j hli hlj hij x h1 h2
    · have := h.inF i hli x h1; omega
    · have := h.inF j hlj x h2; omega
    · omega

/-- a block of four cells that may be written -/
def Box4 (w : World) (g : Nat) (v0 v1 v2 v3 : Value) : Prop :=
  w.cell? ⟨g, 0, none⟩ = some v0 ∧ w.cell? ⟨g, 1, none⟩ = some v1 ∧ w.cell? ⟨g, 2, none⟩ = some v2 ∧ w.cell? ⟨g, 3, none⟩ = some v3 ∧
  w.frozen? ⟨g, 0, none⟩ = false ∧ w.frozen? ⟨g, 1, none⟩ = false ∧ w.frozen? ⟨g, 2, none⟩ = false ∧ w.frozen? ⟨g, 3, none⟩ = false
theorem Box4.same {w w' : World} {g : Nat} {v0 v1 v2 v3 : Value} (h : Box4 w g v0 v1 v2 v3) (e : w'.heap[g]? = w.heap[g]?) : Box4 w' g v0 v1 v2 v3 := by
  obtain ⟨a, b, c, d, f0, f1, f2, f3⟩ := h
  exact ⟨(World.cell?_of_block (w := w) e).trans a, (World.cell?_of_block (w := w) e).trans b, (World.cell?_of_block (w := w) e).trans c, (World.cell?_of_block (w := w) e).trans d,
    (World.frozen?_of_block (w := w) e).trans f0, (World.frozen?_of_block (w := w) e).trans f1, (World.frozen?_of_block (w := w) e).trans f2, (World.frozen?_of_block (w := w) e).trans f3⟩
theorem Box4.lt {w : World} {g : Nat} {v0 v1 v2 v3 : Value} (h : Box4 w g v0 v1 v2 v3) : g < w.heap.size := World.block_lt_of_cell? w _ h.1
theorem Box4.ext {w w' : World} {g : Nat} {v0 v1 v2 v3 : Value} (h : Box4 w g v0 v1 v2 v3) (k : Ext w w') : Box4 w' g v0 v1 v2 v3 := h.same (k.block g h.lt)

/-- what renaming has come to in the loop -/
structure RenInv (W w : World) (s : ByteArray) (ts : List Tm) (g : Nat) (k : Nat) (zs : List Lain) (G : Nat → Nat → Prop) (ys : List Value) : Prop where
  len : zs.length = k
  map : zs.map (·.1) = (renL s ts).take k
  all : ys.length = ts.length * 4
  row : RowSet ys zs
  own : w.ownsRow W.heap.size 32 4 (.slice (some ⟨g, 0, none⟩) ts.length ts.length) ts.length ys
  inv : CopyInv W w (.slice (some ⟨g, 0, none⟩) ts.length ts.length) zs G

theorem RenInv.store {W w w1 : World} {s : ByteArray} {ts : List Tm} {g k : Nat} {zs : List Lain} {G : Nat → Nat → Prop} {ys : List Value} (h : RenInv W w s ts g k zs G ys) (hk : k < ts.length) (hg : W.heap.size ≤ g)
    {A : Option Addr} {c : Nat} (hO : TmOwn w1 (renT s ts[k]) A c (fun x => w.heap.size ≤ x ∧ x < w1.heap.size)) (hx : Ext w w1) :
    ∃ G', RenInv W (set4 w1 g (k * 4) (.int .i64 (renT s ts[k]).kind) (.string (renT s ts[k]).name) (.int .i64 (renT s ts[k]).n) (.slice A (renT s ts[k]).args.length c)) s ts g (k + 1) (zs ++ [(renT s ts[k], A, c)]) G'
      (put4 ys (k * 4) (.int .i64 (renT s ts[k]).kind) (.string (renT s ts[k]).name) (.int .i64 (renT s ts[k]).n) (.slice A (renT s ts[k]).args.length c)) := by
  have hown1 := ownsRow_ext h.own hx
  have hlt := h.own.lt g rfl
  have hs1 := hx.size
  have hput := own_put4 hown1 (k * 4) (.int .i64 (renT s ts[k]).kind) (.string (renT s ts[k]).name) (.int .i64 (renT s ts[k]).n) (.slice A (renT s ts[k]).args.length c)
  have he : Ext W (set4 w1 g (k * 4) (.int .i64 (renT s ts[k]).kind) (.string (renT s ts[k]).name) (.int .i64 (renT s ts[k]).n) (.slice A (renT s ts[k]).args.length c)) :=
    Chg.ext_of (h.inv.ext.trans hx) (set4_chg w1 g (k * 4) _ _ _ _ (F := fun x => x = g) rfl) (fun b hb => hb ▸ hg)
  have hst := h.inv.step2 (y := (renT s ts[k], A, c)) hO hx (fun b _ hne => set4_block w1 g (k * 4) _ _ _ _ b (fun e => hne (by rw [e]; rfl))) (set4_size _ _ _ _ _ _ _) (fun b hb => h.own.lt b hb) he
  refine ⟨_, by rw [List.length_append, h.len]; rfl, ?_, ?_, ?_, hput, hst⟩
  · rw [List.map_append, h.map, List.take_succ_eq_append_getElem (by rw [renL_len]; exact hk), renL_at s ts k hk]; rfl
  · unfold put4; simp [h.all]
  · have := h.row.step (renT s ts[k], A, c) (by rw [h.len, h.all]; omega)
    rw [h.len] at this
    exact this
theorem RenInv.done {W w : World} {s : ByteArray} {ts : List Tm} {g k : Nat} {zs : List Lain} {G : Nat → Nat → Prop} {ys : List Value} (h : RenInv W w s ts g k zs G ys) (hk : ts.length ≤ k) :
    CopiedL (renL s ts) W (.returned (.slice (some ⟨g, 0, none⟩) ts.length ts.length)) w := by
  have hm : zs.map (·.1) = renL s ts := by rw [h.map, List.take_of_length_le (by rw [renL_len]; exact hk)]
  have hl : zs.length = ts.length := by have := congrArg List.length hm; rwa [List.length_map, renL_len] at this
  have hy : ys = rowCells zs := h.row.all (by rw [h.all, hl])
  have ho := h.own
  rw [hy, ← hl] at ho
  have hi := h.inv
  rw [← hl] at hi ⊢
  exact hi.done ho hm

theorem own_of_copiedL {t : Tm} {W w : World} {A : Option Addr} {n c : Nat} (h : CopiedL t.args W (.returned (.slice A n c)) w) (fits : t.Fits) : TmOwn w t A c (fun k => W.heap.size ≤ k ∧ k < w.heap.size) ∧ Ext W w := by
  obtain ⟨A', c', g, d, G, e, hc, hrow, hsub, hx⟩ := h
  injection e with e
  injection e with e1 e2 e3
  subst e1 e3
  exact ⟨.mk t A c _ g d G fits hc hrow hsub, hx⟩
/-- the answer's cell written: the term stays -/
theorem TmOwn.answer {w : World} {t : Tm} {A : Option Addr} {c : Nat} {lo hi r : Nat} (h : TmOwn w t A c (fun k => lo ≤ k ∧ k < hi)) (v0 v1 v2 v3 : Value) (hr : r < lo) {B : Nat} (hB : B ≤ lo) (hh : hi = w.heap.size) :
    TmOwn (set4 w r 0 v0 v1 v2 v3) t A c (fun k => B ≤ k ∧ k < (set4 w r 0 v0 v1 v2 v3).heap.size) :=
  (h.keep fun b hb _ => set4_block _ _ _ _ _ _ _ _ (by omega)).weak fun b hb => ⟨by omega, by rw [set4_size]; omega⟩
theorem TmOwn.leaf {w : World} {t : Tm} (fits : t.Fits) (h : t.args = []) (A : Option Addr) (c : Nat) (F : Nat → Prop) : TmOwn w t A c F := by
  have hl : t.args.length = 0 := by rw [h]; rfl
  exact .mk t A c F (fun _ => none) (fun _ => 0) (fun _ _ => False) fits (by omega) ⟨fun i hi => absurd hi (by omega), fun b o e hp => absurd hp (by omega), fun i hi => absurd hi (by omega), fun i j hi => absurd hi (by omega)⟩ (fun i hi => absurd hi (by omega))

theorem RenInv.cells {W w : World} {s : ByteArray} {ts : List Tm} {g k : Nat} {zs : List Lain} {G : Nat → Nat → Prop} {ys : List Value} (h : RenInv W w s ts g k zs G ys) (hk : k < ts.length) :
    (∃ u, w.cell? ⟨g, k * 4, none⟩ = some u) ∧ (∃ u, w.cell? ⟨g, k * 4 + 1, none⟩ = some u) ∧ (∃ u, w.cell? ⟨g, k * 4 + 2, none⟩ = some u) ∧ (∃ u, w.cell? ⟨g, k * 4 + 3, none⟩ = some u) ∧
    w.frozen? ⟨g, k * 4, none⟩ = false ∧ w.frozen? ⟨g, k * 4 + 1, none⟩ = false ∧ w.frozen? ⟨g, k * 4 + 2, none⟩ = false ∧ w.frozen? ⟨g, k * 4 + 3, none⟩ = false ∧ g < w.heap.size := by
  have hy := h.all
  exact ⟨⟨_, (h.own.cellAt (k * 4) (by omega)).trans (List.getElem?_eq_getElem (by omega))⟩, ⟨_, (h.own.cellAt (k * 4 + 1) (by omega)).trans (List.getElem?_eq_getElem (by omega))⟩,
    ⟨_, (h.own.cellAt (k * 4 + 2) (by omega)).trans (List.getElem?_eq_getElem (by omega))⟩, ⟨_, (h.own.cellAt (k * 4 + 3) (by omega)).trans (List.getElem?_eq_getElem (by omega))⟩,
    h.own.frozenAt _, h.own.frozenAt _, h.own.frozenAt _, h.own.frozenAt _, (h.own.lt g rfl).2⟩

theorem RenInv.start {W : World} (s : ByteArray) (ts : List Tm) {g : Nat} (cs : Array Value) (hW : W.heap.size = g) (hc : cs.size = ts.length * 4) (hm : ts.length ≤ maxLen) :
    RenInv W (W.alloc (.cells cs 32)) s ts g 0 [] (fun _ _ => False) cs.toList := by
  subst hW
  exact ⟨rfl, by simp, by simp [hc], fun i hi => absurd hi (by simp), World.ownsRow_lit W cs ts.length (Nat.le_refl _) hm hc, ⟨fun i hi => absurd hi (by simp), fun i hi => absurd hi (by simp), fun i j hi => absurd hi (by simp), (Ext.refl _).alloc _⟩⟩

end Go.Proofs.Ythmpolifgngdiaa
