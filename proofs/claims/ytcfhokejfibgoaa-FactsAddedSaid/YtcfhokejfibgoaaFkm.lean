/- Rows of facts: of the call's own, filled from the front (made by wip/dev/rowgen.py). -/
import Derived.Test.YtcfhokejfibgoaaFki
import Derived.Test.YtcfhokejfibgoaaRen
import Derived.Deep.Slices
namespace Go.Proofs.Ytcfhokejfibgoaa
open Go.RowKit

/-- one, and where its term's arguments lie -/
abbrev FLain := Fc × Option Addr × Nat
def FLain.tl (x : FLain) : Lain := (x.1.tm, x.2.1, x.2.2)
def FLain.cells (x : FLain) : List Value := [.int .i64 x.1.tm.kind, .string x.1.tm.name, .int .i64 x.1.tm.n, .slice x.2.1 x.1.tm.args.length x.2.2, .int .i64 x.1.fr, .int .i64 x.1.til]
def Frow : List FLain → List Value
  | [] => []
  | x :: r => x.cells ++ Frow r
theorem Frow_len : ∀ xs : List FLain, (Frow xs).length = xs.length * 6
  | [] => rfl
  | x :: r => by rw [Frow, List.length_append, Frow_len r, FLain.cells, List.length_cons]; simp; omega
theorem Frow_app : ∀ xs ys : List FLain, Frow (xs ++ ys) = Frow xs ++ Frow ys
  | [], ys => rfl
  | x :: r, ys => by rw [List.cons_append, Frow, Frow_app r ys, Frow, List.append_assoc]
theorem Frow_one (x : FLain) : Frow [x] = x.cells := by simp [Frow]
theorem Frow_at : ∀ (xs : List FLain) (i j : Nat) (h : i < xs.length), j < 6 → (Frow xs)[i * 6 + j]? = xs[i].cells[j]?
  | x :: r, 0, j, _, hj => by
    rw [Frow, List.getElem?_append_left (by simp [FLain.cells]; omega)]
    simp
  | x :: r, i + 1, j, h, hj => by
    rw [Frow, List.getElem?_append_right (by simp [FLain.cells]; omega)]
    have e : (i + 1) * 6 + j - x.cells.length = i * 6 + j := by simp [FLain.cells]; omega
    rw [e, Frow_at r i j (by simpa using h) hj]
    simp
theorem FLain.one (x : FLain) : ∀ u ∈ x.cells, u.oneCell' = true := by
  intro u hu
  simp only [FLain.cells, List.mem_cons, List.not_mem_nil, or_false] at hu
  rcases hu with rfl | rfl | rfl | rfl | rfl | rfl <;> rfl
theorem Frow_one' : ∀ xs : List FLain, ∀ u ∈ Frow xs, u.oneCell' = true
  | [], u, h => by cases h
  | x :: r, u, h => by
    rw [Frow, List.mem_append] at h
    exact h.elim (x.one u) (Frow_one' r u)

/-- what is owned lies there -/
theorem Fowned {w : World} {base : Nat} {v : Value} {xs : List FLain} {n : Nat} (h : w.ownsRow base 37 6 v n (Frow xs)) (hx : ∀ x ∈ xs, TmAt w x.1.tm x.2.1 x.2.2 ∧ True) :
    ∃ A c, v = .slice A xs.length c ∧ xs.length ≤ c ∧ FcsAt w (xs.map (·.1)) A := by
  have hn : xs.length = n := by have := h.1; rw [Frow_len] at this; omega
  subst hn
  rcases h.2 with ⟨rfl, h0⟩ | ⟨g, cap, cur, rfl, _, _, hc, _⟩
  · have e : xs = [] := List.eq_nil_of_length_eq_zero h0
    subst e
    exact ⟨none, 0, rfl, Nat.le_refl _, FcsAt.nil _ _⟩
  · refine ⟨_, cap, rfl, hc, fun i hi => ?_⟩
    have hi' : i < xs.length := by simpa using hi
    have cell : ∀ j, j < 6 → w.cell? ⟨g, 0 + i * 6 + j, none⟩ = xs[i].cells[j]? := fun j hj => by
      rw [show 0 + i * 6 + j = i * 6 + j by omega, h.cellAt (i * 6 + j) (by omega), Frow_at xs i j hi' hj]
    have hm := hx _ (List.getElem_mem hi')
    refine ⟨g, 0, xs[i].2.1, xs[i].2.2, rfl, ?_, ?_, ?_, ?_, ?_, ?_, ?_⟩
    · have := cell 0 (by omega); simpa [FLain.cells] using this
    · have := cell 1 (by omega); simpa [FLain.cells] using this
    · have := cell 2 (by omega); simpa [FLain.cells] using this
    · have := cell 3 (by omega); simpa [FLain.cells] using this
    · have := cell 4 (by omega); simpa [FLain.cells] using this
    · have := cell 5 (by omega); simpa [FLain.cells] using this
    · simpa using hm.1


/-- in blocks of their own -/
structure FOwn (w : World) (us : List Fc) (A : Option Addr) (F : Nat → Prop) (B : Nat → Option Addr) (d : Nat → Nat) (G : Nat → Nat → Prop) : Prop where
  row : ∀ i (h : i < us.length), ∃ b o, A = some ⟨b, o, none⟩ ∧ w.cell? ⟨b, o + i * 6, none⟩ = some (.int .i64 us[i].tm.kind) ∧ w.cell? ⟨b, o + i * 6 + 1, none⟩ = some (.string us[i].tm.name) ∧ w.cell? ⟨b, o + i * 6 + 2, none⟩ = some (.int .i64 us[i].tm.n) ∧ w.cell? ⟨b, o + i * 6 + 3, none⟩ = some (.slice (B i) us[i].tm.args.length (d i)) ∧ w.cell? ⟨b, o + i * 6 + 4, none⟩ = some (.int .i64 us[i].fr) ∧ w.cell? ⟨b, o + i * 6 + 5, none⟩ = some (.int .i64 us[i].til) ∧ True
  sub : ∀ i (h : i < us.length), TmOwn w us[i].tm (B i) (d i) (G i)
  own : ∀ b o, A = some ⟨b, o, none⟩ → 0 < us.length → F b ∧ (∀ i, i < us.length → ¬ G i b) ∧ ∀ j, j < us.length * 6 → w.frozen? ⟨b, o + j, none⟩ = false
  inF : ∀ i, i < us.length → ∀ k, G i k → F k
  apart : ∀ i j, i < us.length → j < us.length → i ≠ j → ∀ k, G i k → ¬ G j k
theorem FOwn.at_ {w : World} {us : List Fc} {A : Option Addr} {F : Nat → Prop} {B : Nat → Option Addr} {d : Nat → Nat} {G : Nat → Nat → Prop} (h : FOwn w us A F B d G) : FcsAt w us A := by
  intro i hi
  obtain ⟨b, o, e, c0, c1, c2, c3, c4, c5, hn⟩ := h.row i hi
  exact ⟨b, o, B i, d i, e, c0, c1, c2, c3, c4, c5, (h.sub i hi).at_⟩

/-! filled from the front -/
def FRowSet (ys : List Value) (zs : List FLain) : Prop := ∀ i (h : i < zs.length) j, j < 6 → ys[i * 6 + j]? = zs[i].cells[j]?
def put6 (ys : List Value) (p : Nat) (c0 c1 c2 c3 c4 c5 : Value) : List Value := (((((ys.set p c0).set (p + 1) c1).set (p + 2) c2).set (p + 3) c3).set (p + 4) c4).set (p + 5) c5
theorem FRowSet.step {ys : List Value} {zs : List FLain} (h : FRowSet ys zs) (y : FLain) (hl : zs.length * 6 + 6 ≤ ys.length) : FRowSet (put6 ys (zs.length * 6) (.int .i64 y.1.tm.kind) (.string y.1.tm.name) (.int .i64 y.1.tm.n) (.slice y.2.1 y.1.tm.args.length y.2.2) (.int .i64 y.1.fr) (.int .i64 y.1.til)) (zs ++ [y]) := by
  intro i hi j hj
  by_cases hlt : i < zs.length
  · rw [List.getElem_append_left hlt, ← h i hlt j hj]
    unfold put6
    rw [List.getElem?_set_ne (by omega), List.getElem?_set_ne (by omega), List.getElem?_set_ne (by omega), List.getElem?_set_ne (by omega), List.getElem?_set_ne (by omega), List.getElem?_set_ne (by omega)]
  · have e : i = zs.length := by simp at hi; omega
    subst e
    rw [List.getElem_concat_length rfl]
    unfold put6
    have e5 : j = 0 ∨ j = 1 ∨ j = 2 ∨ j = 3 ∨ j = 4 ∨ j = 5 := by omega
    rcases e5 with rfl | rfl | rfl | rfl | rfl | rfl <;> simp [List.getElem?_set, FLain.cells] <;> omega
theorem FRowSet.all {ys : List Value} {zs : List FLain} (h : FRowSet ys zs) (hl : ys.length = zs.length * 6) : ys = Frow zs := by
  apply List.ext_getElem?
  intro q
  by_cases hq : q < zs.length * 6
  · have e : q = (q / 6) * 6 + q % 6 := by omega
    rw [e, h (q / 6) (by omega) (q % 6) (by omega), Frow_at zs (q / 6) (q % 6) (by omega) (by omega)]
  · rw [List.getElem?_eq_none (by omega), List.getElem?_eq_none (by rw [Frow_len]; omega)]
def set6 (w : World) (b o : Nat) (v0 v1 v2 v3 v4 v5 : Value) : World := (((((w.setCell ⟨b, o, none⟩ v0).setCell ⟨b, o + 1, none⟩ v1).setCell ⟨b, o + 2, none⟩ v2).setCell ⟨b, o + 3, none⟩ v3).setCell ⟨b, o + 4, none⟩ v4).setCell ⟨b, o + 5, none⟩ v5
theorem set6_size (w : World) (b o : Nat) (v0 v1 v2 v3 v4 v5 : Value) : (set6 w b o v0 v1 v2 v3 v4 v5).heap.size = w.heap.size := by simp [set6, World.setCell]
theorem set6_block (w : World) (b o : Nat) (v0 v1 v2 v3 v4 v5 : Value) (k : Nat) (h : k ≠ b) : (set6 w b o v0 v1 v2 v3 v4 v5).heap[k]? = w.heap[k]? := by
  unfold set6
  rw [Below.heap_setCell _ _ _ _ h, Below.heap_setCell _ _ _ _ h, Below.heap_setCell _ _ _ _ h, Below.heap_setCell _ _ _ _ h, Below.heap_setCell _ _ _ _ h, Below.heap_setCell _ _ _ _ h]
theorem set6_chg (w : World) (b o : Nat) (v0 v1 v2 v3 v4 v5 : Value) {F : Nat → Prop} (hF : F b) : Chg F w (set6 w b o v0 v1 v2 v3 v4 v5) :=
  ⟨by simp [set6, World.setCell], by simp [set6, World.setCell], by simp [set6, World.setCell], by rw [set6_size]; exact Nat.le_refl _, fun k _ hk => set6_block _ _ _ _ _ _ _ _ _ _ (fun e => hk (e ▸ hF))⟩
theorem own_put6 {w : World} {base g n cap : Nat} {ys : List Value} (h : w.ownsRow base 37 6 (.slice (some ⟨g, 0, none⟩) n cap) n ys) (p : Nat) (c0 c1 c2 c3 c4 c5 : Value) :
    (set6 w g p c0 c1 c2 c3 c4 c5).ownsRow base 37 6 (.slice (some ⟨g, 0, none⟩) n cap) n (put6 ys p c0 c1 c2 c3 c4 c5) := by
  have h0 := (h.stored p c0).1
  have h1 := (h0.stored (p + 1) c1).1
  have h2 := (h1.stored (p + 2) c2).1
  have h3 := (h2.stored (p + 3) c3).1
  have h4 := (h3.stored (p + 4) c4).1
  have h5 := (h4.stored (p + 5) c5).1
  exact h5

/-- what filling has come to: us is to lie there -/
structure FFill (W w : World) (us : List Fc) (g : Nat) (k : Nat) (zs : List FLain) (G : Nat → Nat → Prop) (ys : List Value) : Prop where
  len : zs.length = k
  map : zs.map (·.1) = us.take k
  all : ys.length = us.length * 6
  row : FRowSet ys zs
  own : w.ownsRow W.heap.size 37 6 (.slice (some ⟨g, 0, none⟩) us.length us.length) us.length ys
  inv : CopyInv W w (.slice (some ⟨g, 0, none⟩) us.length us.length) (zs.map FLain.tl) G
  side : ∀ z ∈ zs, True

theorem FFill.store {W w w1 : World} {us : List Fc} {g k : Nat} {zs : List FLain} {G : Nat → Nat → Prop} {ys : List Value} (h : FFill W w us g k zs G ys) (hk : k < us.length) (hg : W.heap.size ≤ g)
    {A : Option Addr} {c : Nat} (hO : TmOwn w1 us[k].tm A c (fun x => w.heap.size ≤ x ∧ x < w1.heap.size)) (hx : Ext w w1) (hn : True) :
    ∃ G', FFill W (set6 w1 g (k * 6) (.int .i64 us[k].tm.kind) (.string us[k].tm.name) (.int .i64 us[k].tm.n) (.slice A us[k].tm.args.length c) (.int .i64 us[k].fr) (.int .i64 us[k].til)) us g (k + 1) (zs ++ [(us[k], A, c)]) G'
      (put6 ys (k * 6) (.int .i64 us[k].tm.kind) (.string us[k].tm.name) (.int .i64 us[k].tm.n) (.slice A us[k].tm.args.length c) (.int .i64 us[k].fr) (.int .i64 us[k].til)) := by
  have hown1 := ownsRow_ext h.own hx
  have hput := own_put6 hown1 (k * 6) (.int .i64 us[k].tm.kind) (.string us[k].tm.name) (.int .i64 us[k].tm.n) (.slice A us[k].tm.args.length c) (.int .i64 us[k].fr) (.int .i64 us[k].til)
  have he : Ext W (set6 w1 g (k * 6) (.int .i64 us[k].tm.kind) (.string us[k].tm.name) (.int .i64 us[k].tm.n) (.slice A us[k].tm.args.length c) (.int .i64 us[k].fr) (.int .i64 us[k].til)) :=
    Chg.ext_of (h.inv.ext.trans hx) (set6_chg w1 g (k * 6) _ _ _ _ _ _ (F := fun x => x = g) rfl) (fun b hb => hb ▸ hg)
  have hst := h.inv.step2 (y := FLain.tl (us[k], A, c)) hO hx (fun b _ hne => set6_block w1 g (k * 6) _ _ _ _ _ _ b (fun e => hne (by rw [e]; rfl))) (set6_size _ _ _ _ _ _ _ _ _) (fun b hb => h.own.lt b hb) he
  refine ⟨_, by rw [List.length_append, h.len]; rfl, ?_, ?_, ?_, hput, by rw [List.map_append]; exact hst, fun z hz => ?_⟩
  · rw [List.map_append, h.map, List.take_succ_eq_append_getElem hk]; rfl
  · unfold put6; simp [h.all]
  · have := h.row.step (us[k], A, c) (by rw [h.len, h.all]; omega)
    rw [h.len] at this
    exact this
  · rcases List.mem_append.1 hz with hz | hz
    · exact h.side z hz
    · obtain rfl := List.mem_singleton.1 hz
      exact hn
theorem FFill.done {W w : World} {us : List Fc} {g k : Nat} {zs : List FLain} {G : Nat → Nat → Prop} {ys : List Value} (h : FFill W w us g k zs G ys) (hk : us.length ≤ k) :
    FOwn w us (some ⟨g, 0, none⟩) (fun x => W.heap.size ≤ x ∧ x < w.heap.size) (fun i => (zs[i]?.map (·.2.1)).getD none) (fun i => (zs[i]?.map (·.2.2)).getD 0) G := by
  have hm : zs.map (·.1) = us := by rw [h.map, List.take_of_length_le hk]
  have hl : zs.length = us.length := by have := congrArg List.length hm; rwa [List.length_map] at this
  have hy : ys = Frow zs := h.row.all (by rw [h.all, hl])
  have hu : ∀ i (hi : i < us.length), zs[i].1 = us[i] := fun i hi => by
    have := congrArg (fun l : List Fc => l[i]?) hm
    simp only [List.getElem?_map, List.getElem?_eq_getElem (show i < zs.length by omega), List.getElem?_eq_getElem hi, Option.map_some, Option.some.injEq] at this
    exact this
  have hlt := h.own.lt g rfl
  refine ⟨fun i hi => ?_, fun i hi => ?_, fun b o e hp => ?_, fun i hi k hk => ?_, fun i j hi hj => h.inv.apart i j (by simp; omega) (by simp; omega)⟩
  · have cell : ∀ j, j < 6 → w.cell? ⟨g, 0 + i * 6 + j, none⟩ = zs[i].cells[j]? := fun j hj => by
      rw [show 0 + i * 6 + j = i * 6 + j by omega, h.own.cellAt (i * 6 + j) (by omega), hy, Frow_at zs i j (by omega) hj]
    have eu := hu i hi
    refine ⟨g, 0, rfl, ?_, ?_, ?_, ?_, ?_, ?_, ?_⟩
    · have := cell 0 (by omega); simpa [FLain.cells, eu] using this
    · have := cell 1 (by omega); simpa [FLain.cells, eu] using this
    · have := cell 2 (by omega); simpa [FLain.cells, eu] using this
    · have := cell 3 (by omega); simpa [FLain.cells, eu, hl, hi] using this
    · have := cell 4 (by omega); simpa [FLain.cells, eu] using this
    · have := cell 5 (by omega); simpa [FLain.cells, eu] using this
    · trivial
  · have := h.inv.sub i (by simp; omega)
    simp only [List.getElem_map, FLain.tl, hu i hi] at this
    simpa [hl, hi] using this
  · injection e with e
    injection e with e1 e2
    subst e1 e2
    exact ⟨hlt, fun i hi hb => (h.inv.inF i (by simp; omega) g hb).2.2 rfl, fun j hj => by rw [Nat.zero_add]; exact h.own.frozenAt j⟩
  · have := h.inv.inF i (by simp; omega) k hk
    exact ⟨this.1, this.2.1⟩
theorem FFill.cells {W w : World} {us : List Fc} {g k : Nat} {zs : List FLain} {G : Nat → Nat → Prop} {ys : List Value} (h : FFill W w us g k zs G ys) (hk : k < us.length) :
    (∃ u, w.cell? ⟨g, k * 6, none⟩ = some u) ∧ (∃ u, w.cell? ⟨g, k * 6 + 1, none⟩ = some u) ∧ (∃ u, w.cell? ⟨g, k * 6 + 2, none⟩ = some u) ∧ (∃ u, w.cell? ⟨g, k * 6 + 3, none⟩ = some u) ∧ (∃ u, w.cell? ⟨g, k * 6 + 4, none⟩ = some u) ∧ (∃ u, w.cell? ⟨g, k * 6 + 5, none⟩ = some u) ∧
    w.frozen? ⟨g, k * 6, none⟩ = false ∧ w.frozen? ⟨g, k * 6 + 1, none⟩ = false ∧ w.frozen? ⟨g, k * 6 + 2, none⟩ = false ∧ w.frozen? ⟨g, k * 6 + 3, none⟩ = false ∧ w.frozen? ⟨g, k * 6 + 4, none⟩ = false ∧ w.frozen? ⟨g, k * 6 + 5, none⟩ = false ∧ g < w.heap.size := by
  have hy := h.all
  have c := fun j (hj : j < 6) => (h.own.cellAt (k * 6 + j) (by omega)).trans (List.getElem?_eq_getElem (by omega))
  exact ⟨⟨_, c 0 (by omega)⟩, ⟨_, c 1 (by omega)⟩, ⟨_, c 2 (by omega)⟩, ⟨_, c 3 (by omega)⟩, ⟨_, c 4 (by omega)⟩, ⟨_, c 5 (by omega)⟩,
    h.own.frozenAt _, h.own.frozenAt _, h.own.frozenAt _, h.own.frozenAt _, h.own.frozenAt _, h.own.frozenAt _, (h.own.lt g rfl).2⟩
theorem FFill.start {W : World} (us : List Fc) {n : Nat} (hn : us.length = n) {g : Nat} (cs : Array Value) (hW : W.heap.size = g) (hc : cs.size = n * 6) (hm : n ≤ maxLen) :
    FFill W (W.alloc (.cells cs 37)) us g 0 [] (fun _ _ => False) cs.toList := by
  subst hW hn
  exact ⟨rfl, by simp, by simp [hc], fun i hi => absurd hi (by simp), World.ownsRow_lit W cs us.length (Nat.le_refl _) hm hc, ⟨fun i hi => absurd hi (by simp), fun i hi => absurd hi (by simp), fun i j hi => absurd hi (by simp), (Ext.refl _).alloc _⟩, fun z hz => absurd hz (by simp)⟩
end Go.Proofs.Ytcfhokejfibgoaa
