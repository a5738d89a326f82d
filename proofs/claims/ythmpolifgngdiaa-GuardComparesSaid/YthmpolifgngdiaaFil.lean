/- A slice of terms of the call's own, filled from the front; what replacing makes of a term. -/
import Derived.Test.YthmpolifgngdiaaRen
import Derived.Test.YthmpolifgngdiaaBd
namespace Go.Proofs.Ythmpolifgngdiaa
open Go.RowKit

/-- what filling has come to in the loop: us is to lie there -/
structure FillInv (W w : World) (us : List Tm) (g : Nat) (k : Nat) (zs : List Lain) (G : Nat → Nat → Prop) (ys : List Value) : Prop where
  len : zs.length = k
  map : zs.map (·.1) = us.take k
  all : ys.length = us.length * 4
  row : RowSet ys zs
  own : w.ownsRow W.heap.size 32 4 (.slice (some ⟨g, 0, none⟩) us.length us.length) us.length ys
  inv : CopyInv W w (.slice (some ⟨g, 0, none⟩) us.length us.length) zs G

theorem FillInv.store {W w w1 : World} {us : List Tm} {g k : Nat} {zs : List Lain} {G : Nat → Nat → Prop} {ys : List Value} (h : FillInv W w us g k zs G ys) (hk : k < us.length) (hg : W.heap.size ≤ g)
    {A : Option Addr} {c : Nat} (hO : TmOwn w1 us[k] A c (fun x => w.heap.size ≤ x ∧ x < w1.heap.size)) (hx : Ext w w1) :
    ∃ G', FillInv W (set4 w1 g (k * 4) (.int .i64 us[k].kind) (.string us[k].name) (.int .i64 us[k].n) (.slice A us[k].args.length c)) us g (k + 1) (zs ++ [(us[k], A, c)]) G'
      (put4 ys (k * 4) (.int .i64 us[k].kind) (.string us[k].name) (.int .i64 us[k].n) (.slice A us[k].args.length c)) := by
  have hown1 := ownsRow_ext h.own hx
  have hput := own_put4 hown1 (k * 4) (.int .i64 us[k].kind) (.string us[k].name) (.int .i64 us[k].n) (.slice A us[k].args.length c)
  have he : Ext W (set4 w1 g (k * 4) (.int .i64 us[k].kind) (.string us[k].name) (.int .i64 us[k].n) (.slice A us[k].args.length c)) :=
    Chg.ext_of (h.inv.ext.trans hx) (set4_chg w1 g (k * 4) _ _ _ _ (F := fun x => x = g) rfl) (fun b hb => hb ▸ hg)
  have hst := h.inv.step2 (y := (us[k], A, c)) hO hx (fun b _ hne => set4_block w1 g (k * 4) _ _ _ _ b (fun e => hne (by rw [e]; rfl))) (set4_size _ _ _ _ _ _ _) (fun b hb => h.own.lt b hb) he
  refine ⟨_, by rw [List.length_append, h.len]; rfl, ?_, ?_, ?_, hput, hst⟩
  · rw [List.map_append, h.map, List.take_succ_eq_append_getElem hk]; rfl
  · unfold put4; simp [h.all]
  · have := h.row.step (us[k], A, c) (by rw [h.len, h.all]; omega)
    rw [h.len] at this
    exact this
theorem FillInv.done {W w : World} {us : List Tm} {g k : Nat} {zs : List Lain} {G : Nat → Nat → Prop} {ys : List Value} (h : FillInv W w us g k zs G ys) (hk : us.length ≤ k) :
    CopiedL us W (.returned (.slice (some ⟨g, 0, none⟩) us.length us.length)) w := by
  have hm : zs.map (·.1) = us := by rw [h.map, List.take_of_length_le hk]
  have hl : zs.length = us.length := by have := congrArg List.length hm; rwa [List.length_map] at this
  have hy : ys = rowCells zs := h.row.all (by rw [h.all, hl])
  have ho := h.own
  rw [hy, ← hl] at ho
  have hi := h.inv
  rw [← hl] at hi ⊢
  exact hi.done ho hm
theorem FillInv.cells {W w : World} {us : List Tm} {g k : Nat} {zs : List Lain} {G : Nat → Nat → Prop} {ys : List Value} (h : FillInv W w us g k zs G ys) (hk : k < us.length) :
    (∃ u, w.cell? ⟨g, k * 4, none⟩ = some u) ∧ (∃ u, w.cell? ⟨g, k * 4 + 1, none⟩ = some u) ∧ (∃ u, w.cell? ⟨g, k * 4 + 2, none⟩ = some u) ∧ (∃ u, w.cell? ⟨g, k * 4 + 3, none⟩ = some u) ∧
    w.frozen? ⟨g, k * 4, none⟩ = false ∧ w.frozen? ⟨g, k * 4 + 1, none⟩ = false ∧ w.frozen? ⟨g, k * 4 + 2, none⟩ = false ∧ w.frozen? ⟨g, k * 4 + 3, none⟩ = false ∧ g < w.heap.size := by
  have hy := h.all
  exact ⟨⟨_, (h.own.cellAt (k * 4) (by omega)).trans (List.getElem?_eq_getElem (by omega))⟩, ⟨_, (h.own.cellAt (k * 4 + 1) (by omega)).trans (List.getElem?_eq_getElem (by omega))⟩,
    ⟨_, (h.own.cellAt (k * 4 + 2) (by omega)).trans (List.getElem?_eq_getElem (by omega))⟩, ⟨_, (h.own.cellAt (k * 4 + 3) (by omega)).trans (List.getElem?_eq_getElem (by omega))⟩,
    h.own.frozenAt _, h.own.frozenAt _, h.own.frozenAt _, h.own.frozenAt _, (h.own.lt g rfl).2⟩
theorem FillInv.start {W : World} (us : List Tm) {n : Nat} (hn : us.length = n) {g : Nat} (cs : Array Value) (hW : W.heap.size = g) (hc : cs.size = n * 4) (hm : n ≤ maxLen) :
    FillInv W (W.alloc (.cells cs 32)) us g 0 [] (fun _ _ => False) cs.toList := by
  subst hW hn
  exact ⟨rfl, by simp, by simp [hc], fun i hi => absurd hi (by simp), World.ownsRow_lit W cs us.length (Nat.le_refl _) hm hc, ⟨fun i hi => absurd hi (by simp), fun i hi => absurd hi (by simp), fun i j hi => absurd hi (by simp), (Ext.refl _).alloc _⟩⟩

/-! what replacing makes of a term -/
/-- the term that a name is bound to -/
def bdOf (bs : List Bd) (s : ByteArray) : Option Tm := (plc bs bs.length s).bind fun i => bs[i]?.map fun x => x.tm
mutual
def repT (bs : List Bd) : Tm → Tm
  | ⟨k, s, n, l⟩ => if (k == 1) = true then (bdOf bs s).getD ⟨k, s, n, repL bs l⟩ else ⟨k, s, n, repL bs l⟩
def repL (bs : List Bd) : List Tm → List Tm
  | [] => []
  | t :: ts => repT bs t :: repL bs ts
end
theorem repL_map (bs : List Bd) : ∀ ts : List Tm, repL bs ts = ts.map (repT bs)
  | [] => rfl
  | t :: ts => by rw [repL, List.map_cons, repL_map bs ts]
theorem repL_len (bs : List Bd) (ts : List Tm) : (repL bs ts).length = ts.length := by rw [repL_map, List.length_map]
theorem repL_at (bs : List Bd) (ts : List Tm) (i : Nat) (h : i < ts.length) : (repL bs ts)[i]'(by rw [repL_len]; exact h) = repT bs ts[i] := by simp only [repL_map, List.getElem_map]
/-- the term itself, its arguments replaced -/
def innT (bs : List Bd) (t : Tm) : Tm := ⟨t.kind, t.name, t.n, repL bs t.args⟩
theorem repT_eq (bs : List Bd) (t : Tm) : repT bs t = if (t.kind == 1) = true then (bdOf bs t.name).getD (innT bs t) else innT bs t := by obtain ⟨k, s, n, l⟩ := t; rw [repT]; rfl
theorem repT_var {bs : List Bd} {t : Tm} {i : Nat} (h : i < bs.length) (hk : (t.kind == 1) = true) (hp : plc bs bs.length t.name = some i) : repT bs t = bs[i].tm := by
  rw [repT_eq, if_pos hk, bdOf, hp, Option.bind_some, List.getElem?_eq_getElem h]; rfl
theorem repT_inn {bs : List Bd} {t : Tm} (h : (t.kind == 1) = false ∨ plc bs bs.length t.name = none) : repT bs t = innT bs t := by
  rw [repT_eq]
  rcases h with h | h
  · rw [if_neg (by rw [h]; exact Bool.false_ne_true)]
  · rw [bdOf, h]; simp
theorem inn_fits {bs : List Bd} {t : Tm} (h : t.Fits) : (innT bs t).Fits := ⟨h.kind, h.n, h.name, by show (repL bs t.args).length * 56 ≤ _; rw [repL_len]; exact h.args⟩
theorem plc_nil (k : Nat) (s : ByteArray) : plc [] k s = none := by
  induction k with
  | zero => rfl
  | succ k ih => rw [plc, if_neg (by simp), ih]
mutual
theorem repT_nil : ∀ t : Tm, repT [] t = t
  | ⟨k, s, n, l⟩ => by rw [repT_inn (.inr (plc_nil _ _)), innT]; simp only [repL_nil l]
theorem repL_nil : ∀ l : List Tm, repL [] l = l
  | [] => rfl
  | t :: ts => by rw [repL, repT_nil t, repL_nil ts]
end

/-- binds and the map of their places, or none of both -/
def PArg (w : World) (bs : List Bd) (A : Option Addr) (p : Value) : Prop := (bs = [] ∧ p = .map none) ∨ ∃ b, p = .map (some b) ∧ PlAt w b bs bs.length ∧ BdsAt w bs A
theorem PArg.ext {w w' : World} {bs : List Bd} {A : Option Addr} {p : Value} (h : PArg w bs A p) (k : Ext w w') : PArg w' bs A p := by
  rcases h with h | ⟨b, e, h1, h2⟩
  · exact .inl h
  · exact .inr ⟨b, e, h1.ext k, h2.ext k⟩
end Go.Proofs.Ythmpolifgngdiaa
