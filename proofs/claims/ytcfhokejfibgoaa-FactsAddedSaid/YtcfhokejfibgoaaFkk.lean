/- Rows of facts kept: of the call's own, filled from the front (made by wip/dev/rowgen.py). -/
import Derived.Test.YtcfhokejfibgoaaFki
import Derived.Test.YtcfhokejfibgoaaRen
import Derived.Deep.Slices
namespace Go.Proofs.Ytcfhokejfibgoaa
open Go.RowKit

/-- one, and where its term's arguments lie -/
abbrev KLain := Kp × Option Addr × Nat
def KLain.tl (x : KLain) : Lain := (x.1.fc.tm, x.2.1, x.2.2)
def KLain.cells (x : KLain) : List Value := [.int .i64 x.1.seq, .int .i64 x.1.fc.tm.kind, .string x.1.fc.tm.name, .int .i64 x.1.fc.tm.n, .slice x.2.1 x.1.fc.tm.args.length x.2.2, .int .i64 x.1.fc.fr, .int .i64 x.1.fc.til]
def Krow : List KLain → List Value
  | [] => []
  | x :: r => x.cells ++ Krow r
theorem Krow_len : ∀ xs : List KLain, (Krow xs).length = xs.length * 7
  | [] => rfl
  | x :: r => by rw [Krow, List.length_append, Krow_len r, KLain.cells, List.length_cons]; simp; omega
theorem Krow_app : ∀ xs ys : List KLain, Krow (xs ++ ys) = Krow xs ++ Krow ys
  | [], ys => rfl
  | x :: r, ys => by rw [List.cons_append, Krow, Krow_app r ys, Krow, List.append_assoc]
theorem Krow_one (x : KLain) : Krow [x] = x.cells := by simp [Krow]
theorem Krow_at : ∀ (xs : List KLain) (i j : Nat) (h : i < xs.length), j < 7 → (Krow xs)[i * 7 + j]? = xs[i].cells[j]?
  | x :: r, 0, j, _, hj => by
    rw [Krow, List.getElem?_append_left (by simp [KLain.cells]; omega)]
    simp
  | x :: r, i + 1, j, h, hj => by
    rw [Krow, List.getElem?_append_right (by simp [KLain.cells]; omega)]
    have e : (i + 1) * 7 + j - x.cells.length = i * 7 + j := by simp [KLain.cells]; omega
    rw [e, Krow_at r i j (by simpa using h) hj]
    simp
theorem KLain.one (x : KLain) : ∀ u ∈ x.cells, u.oneCell' = true := by
  intro u hu
  simp only [KLain.cells, List.mem_cons, List.not_mem_nil, or_false] at hu
  rcases hu with rfl | rfl | rfl | rfl | rfl | rfl | rfl <;> rfl
theorem Krow_one' : ∀ xs : List KLain, ∀ u ∈ Krow xs, u.oneCell' = true
  | [], u, h => by cases h
  | x :: r, u, h => by
    rw [Krow, List.mem_append] at h
    exact h.elim (x.one u) (Krow_one' r u)

/-- what is owned lies there -/
theorem Kowned {w : World} {base : Nat} {v : Value} {xs : List KLain} {n : Nat} (h : w.ownsRow base 73 7 v n (Krow xs)) (hx : ∀ x ∈ xs, TmAt w x.1.fc.tm x.2.1 x.2.2 ∧ (Lit.int .i64 x.1.seq).wf = true) :
    ∃ A c, v = .slice A xs.length c ∧ xs.length ≤ c ∧ KpsAt w (xs.map (·.1)) A := by
  have hn : xs.length = n := by have := h.1; rw [Krow_len] at this; omega
  subst hn
  rcases h.2 with ⟨rfl, h0⟩ | ⟨g, cap, cur, rfl, _, _, hc, _⟩
  · have e : xs = [] := List.eq_nil_of_length_eq_zero h0
    subst e
    exact ⟨none, 0, rfl, Nat.le_refl _, KpsAt.nil _ _⟩
  · refine ⟨_, cap, rfl, hc, fun i hi => ?_⟩
    have hi' : i < xs.length := by simpa using hi
    have cell : ∀ j, j < 7 → w.cell? ⟨g, 0 + i * 7 + j, none⟩ = xs[i].cells[j]? := fun j hj => by
      rw [show 0 + i * 7 + j = i * 7 + j by omega, h.cellAt (i * 7 + j) (by omega), Krow_at xs i j hi' hj]
    have hm := hx _ (List.getElem_mem hi')
    refine ⟨g, 0, xs[i].2.1, xs[i].2.2, rfl, ?_, ?_, ?_, ?_, ?_, ?_, ?_, ?_, ?_⟩
    · have := cell 0 (by omega); simpa [KLain.cells] using this
    · have := cell 1 (by omega); simpa [KLain.cells] using this
    · have := cell 2 (by omega); simpa [KLain.cells] using this
    · have := cell 3 (by omega); simpa [KLain.cells] using this
    · have := cell 4 (by omega); simpa [KLain.cells] using this
    · have := cell 5 (by omega); simpa [KLain.cells] using this
    · have := cell 6 (by omega); simpa [KLain.cells] using this
    · simpa using hm.1
    · simpa using hm.2

/-- in blocks of their own -/
structure KOwn (w : World) (us : List Kp) (A : Option Addr) (F : Nat → Prop) (B : Nat → Option Addr) (d : Nat → Nat) (G : Nat → Nat → Prop) : Prop where
  row : ∀ i (h : i < us.length), ∃ b o, A = some ⟨b, o, none⟩ ∧ w.cell? ⟨b, o + i * 7, none⟩ = some (.int .i64 us[i].seq) ∧ w.cell? ⟨b, o + i * 7 + 1, none⟩ = some (.int .i64 us[i].fc.tm.kind) ∧ w.cell? ⟨b, o + i * 7 + 2, none⟩ = some (.string us[i].fc.tm.name) ∧ w.cell? ⟨b, o + i * 7 + 3, none⟩ = some (.int .i64 us[i].fc.tm.n) ∧ w.cell? ⟨b, o + i * 7 + 4, none⟩ = some (.slice (B i) us[i].fc.tm.args.length (d i)) ∧ w.cell? ⟨b, o + i * 7 + 5, none⟩ = some (.int .i64 us[i].fc.fr) ∧ w.cell? ⟨b, o + i * 7 + 6, none⟩ = some (.int .i64 us[i].fc.til) ∧ (Lit.int .i64 us[i].seq).wf = true
  sub : ∀ i (h : i < us.length), TmOwn w us[i].fc.tm (B i) (d i) (G i)
  own : ∀ b o, A = some ⟨b, o, none⟩ → 0 < us.length → F b ∧ (∀ i, i < us.length → ¬ G i b) ∧ ∀ j, j < us.length * 7 → w.frozen? ⟨b, o + j, none⟩ = false
  inF : ∀ i, i < us.length → ∀ k, G i k → F k
  apart : ∀ i j, i < us.length → j < us.length → i ≠ j → ∀ k, G i k → ¬ G j k
theorem KOwn.at_ {w : World} {us : List Kp} {A : Option Addr} {F : Nat → Prop} {B : Nat → Option Addr} {d : Nat → Nat} {G : Nat → Nat → Prop} (h : KOwn w us A F B d G) : KpsAt w us A := by
  intro i hi
  obtain ⟨b, o, e, c0, c1, c2, c3, c4, c5, c6, hn⟩ := h.row i hi
  exact ⟨b, o, B i, d i, e, c0, c1, c2, c3, c4, c5, c6, (h.sub i hi).at_, hn⟩

/-! filled from the front -/
def KRowSet (ys : List Value) (zs : List KLain) : Prop := ∀ i (h : i < zs.length) j, j < 7 → ys[i * 7 + j]? = zs[i].cells[j]?
def put7 (ys : List Value) (p : Nat) (c0 c1 c2 c3 c4 c5 c6 : Value) : List Value := ((((((ys.set p c0).set (p + 1) c1).set (p + 2) c2).set (p + 3) c3).set (p + 4) c4).set (p + 5) c5).set (p + 6) c6
theorem KRowSet.step {ys : List Value} {zs : List KLain} (h : KRowSet ys zs) (y : KLain) (hl : zs.length * 7 + 7 ≤ ys.length) : KRowSet (put7 ys (zs.length * 7) (.int .i64 y.1.seq) (.int .i64 y.1.fc.tm.kind) (.string y.1.fc.tm.name) (.int .i64 y.1.fc.tm.n) (.slice y.2.1 y.1.fc.tm.args.length y.2.2) (.int .i64 y.1.fc.fr) (.int .i64 y.1.fc.til)) (zs ++ [y]) := by
  intro i hi j hj
  by_cases hlt : i < zs.length
  · rw [List.getElem_append_left hlt, ← h i hlt j hj]
    unfold put7
    rw [List.getElem?_set_ne (by omega), List.getElem?_set_ne (by omega), List.getElem?_set_ne (by omega), List.getElem?_set_ne (by omega), List.getElem?_set_ne (by omega), List.getElem?_set_ne (by omega), List.getElem?_set_ne (by omega)]
  · have e : i = zs.length := by simp at hi; omega
    subst e
    rw [List.getElem_concat_length rfl]
    unfold put7
    have e5 : j = 0 ∨ j = 1 ∨ j = 2 ∨ j = 3 ∨ j = 4 ∨ j = 5 ∨ j = 6 := by omega
    rcases e5 with rfl | rfl | rfl | rfl | rfl | rfl | rfl <;> simp [List.getElem?_set, KLain.cells] <;> omega
theorem KRowSet.all {ys : List Value} {zs : List KLain} (h : KRowSet ys zs) (hl : ys.length = zs.length * 7) : ys = Krow zs := by
  apply List.ext_getElem?
  intro q
  by_cases hq : q < zs.length * 7
  · have e : q = (q / 7) * 7 + q % 7 := by omega
    rw [e, h (q / 7) (by omega) (q % 7) (by omega), Krow_at zs (q / 7) (q % 7) (by omega) (by omega)]
  · rw [List.getElem?_eq_none (by omega), List.getElem?_eq_none (by rw [Krow_len]; omega)]
def set7 (w : World) (b o : Nat) (v0 v1 v2 v3 v4 v5 v6 : Value) : World := ((((((w.setCell ⟨b, o, none⟩ v0).setCell ⟨b, o + 1, none⟩ v1).setCell ⟨b, o + 2, none⟩ v2).setCell ⟨b, o + 3, none⟩ v3).setCell ⟨b, o + 4, none⟩ v4).setCell ⟨b, o + 5, none⟩ v5).setCell ⟨b, o + 6, none⟩ v6
theorem set7_size (w : World) (b o : Nat) (v0 v1 v2 v3 v4 v5 v6 : Value) : (set7 w b o v0 v1 v2 v3 v4 v5 v6).heap.size = w.heap.size := by simp [set7, World.setCell]
theorem set7_block (w : World) (b o : Nat) (v0 v1 v2 v3 v4 v5 v6 : Value) (k : Nat) (h : k ≠ b) : (set7 w b o v0 v1 v2 v3 v4 v5 v6).heap[k]? = w.heap[k]? := by
  unfold set7
  rw [Below.heap_setCell _ _ _ _ h, Below.heap_setCell _ _ _ _ h, Below.heap_setCell _ _ _ _ h, Below.heap_setCell _ _ _ _ h, Below.heap_setCell _ _ _ _ h, Below.heap_setCell _ _ _ _ h, Below.heap_setCell _ _ _ _ h]
theorem set7_chg (w : World) (b o : Nat) (v0 v1 v2 v3 v4 v5 v6 : Value) {F : Nat → Prop} (hF : F b) : Chg F w (set7 w b o v0 v1 v2 v3 v4 v5 v6) :=
  ⟨by simp [set7, World.setCell], by simp [set7, World.setCell], by simp [set7, World.setCell], by rw [set7_size]; exact Nat.le_refl _, fun k _ hk => set7_block _ _ _ _ _ _ _ _ _ _ _ (fun e => hk (e ▸ hF))⟩
theorem own_put7 {w : World} {base g n cap : Nat} {ys : List Value} (h : w.ownsRow base 73 7 (.slice (some ⟨g, 0, none⟩) n cap) n ys) (p : Nat) (c0 c1 c2 c3 c4 c5 c6 : Value) :
    (set7 w g p c0 c1 c2 c3 c4 c5 c6).ownsRow base 73 7 (.slice (some ⟨g, 0, none⟩) n cap) n (put7 ys p c0 c1 c2 c3 c4 c5 c6) := by
  have h0 := (h.stored p c0).1
  have h1 := (h0.stored (p + 1) c1).1
  have h2 := (h1.stored (p + 2) c2).1
  have h3 := (h2.stored (p + 3) c3).1
  have h4 := (h3.stored (p + 4) c4).1
  have h5 := (h4.stored (p + 5) c5).1
  have h6 := (h5.stored (p + 6) c6).1
  exact h6

/-- what filling has come to: us is to lie there -/
structure KFill (W w : World) (us : List Kp) (g : Nat) (k : Nat) (zs : List KLain) (G : Nat → Nat → Prop) (ys : List Value) : Prop where
  len : zs.length = k
  map : zs.map (·.1) = us.take k
  all : ys.length = us.length * 7
  row : KRowSet ys zs
  own : w.ownsRow W.heap.size 73 7 (.slice (some ⟨g, 0, none⟩) us.length us.length) us.length ys
  inv : CopyInv W w (.slice (some ⟨g, 0, none⟩) us.length us.length) (zs.map KLain.tl) G
  side : ∀ z ∈ zs, (Lit.int .i64 z.1.seq).wf = true

theorem KFill.store {W w w1 : World} {us : List Kp} {g k : Nat} {zs : List KLain} {G : Nat → Nat → Prop} {ys : List Value} (h : KFill W w us g k zs G ys) (hk : k < us.length) (hg : W.heap.size ≤ g)
    {A : Option Addr} {c : Nat} (hO : TmOwn w1 us[k].fc.tm A c (fun x => w.heap.size ≤ x ∧ x < w1.heap.size)) (hx : Ext w w1) (hn : (Lit.int .i64 us[k].seq).wf = true) :
    ∃ G', KFill W (set7 w1 g (k * 7) (.int .i64 us[k].seq) (.int .i64 us[k].fc.tm.kind) (.string us[k].fc.tm.name) (.int .i64 us[k].fc.tm.n) (.slice A us[k].fc.tm.args.length c) (.int .i64 us[k].fc.fr) (.int .i64 us[k].fc.til)) us g (k + 1) (zs ++ [(us[k], A, c)]) G'
      (put7 ys (k * 7) (.int .i64 us[k].seq) (.int .i64 us[k].fc.tm.kind) (.string us[k].fc.tm.name) (.int .i64 us[k].fc.tm.n) (.slice A us[k].fc.tm.args.length c) (.int .i64 us[k].fc.fr) (.int .i64 us[k].fc.til)) := by
  have hown1 := ownsRow_ext h.own hx
  have hput := own_put7 hown1 (k * 7) (.int .i64 us[k].seq) (.int .i64 us[k].fc.tm.kind) (.string us[k].fc.tm.name) (.int .i64 us[k].fc.tm.n) (.slice A us[k].fc.tm.args.length c) (.int .i64 us[k].fc.fr) (.int .i64 us[k].fc.til)
  have he : Ext W (set7 w1 g (k * 7) (.int .i64 us[k].seq) (.int .i64 us[k].fc.tm.kind) (.string us[k].fc.tm.name) (.int .i64 us[k].fc.tm.n) (.slice A us[k].fc.tm.args.length c) (.int .i64 us[k].fc.fr) (.int .i64 us[k].fc.til)) :=
    Chg.ext_of (h.inv.ext.trans hx) (set7_chg w1 g (k * 7) _ _ _ _ _ _ _ (F := fun x => x = g) rfl) (fun b hb => hb ▸ hg)
  have hst := h.inv.step2 (y := KLain.tl (us[k], A, c)) hO hx (fun b _ hne => set7_block w1 g (k * 7) _ _ _ _ _ _ _ b (fun e => hne (by rw [e]; rfl))) (set7_size _ _ _ _ _ _ _ _ _ _) (fun b hb => h.own.lt b hb) he
  refine ⟨_, by rw [List.length_append, h.len]; rfl, ?_, ?_, ?_, hput, by rw [List.map_append]; exact hst, fun z hz => ?_⟩
  · rw [List.map_append, h.map, List.take_succ_eq_append_getElem hk]; rfl
  · unfold put7; simp [h.all]
  · have := h.row.step (us[k], A, c) (by rw [h.len, h.all]; omega)
    rw [h.len] at this
    exact this
  · rcases List.mem_append.1 hz with hz | hz
    · exact h.side z hz
    · obtain rfl := List.mem_singleton.1 hz
      exact hn
theorem KFill.done {W w : World} {us : List Kp} {g k : Nat} {zs : List KLain} {G : Nat → Nat → Prop} {ys : List Value} (h : KFill W w us g k zs G ys) (hk : us.length ≤ k) :
    KOwn w us (some ⟨g, 0, none⟩) (fun x => W.heap.size ≤ x ∧ x < w.heap.size) (fun i => (zs[i]?.map (·.2.1)).getD none) (fun i => (zs[i]?.map (·.2.2)).getD 0) G := by
  have hm : zs.map (·.1) = us := by rw [h.map, List.take_of_length_le hk]
  have hl : zs.length = us.length := by have := congrArg List.length hm; rwa [List.length_map] at this
  have hy : ys = Krow zs := h.row.all (by rw [h.all, hl])
  have hu : ∀ i (hi : i < us.length), zs[i].1 = us[i] := fun i hi => by
    have := congrArg (fun l : List Kp => l[i]?) hm
    simp only [List.getElem?_map, List.getElem?_eq_getElem (show i < zs.length by omega), List.getElem?_eq_getElem hi, Option.map_some, Option.some.injEq] at this
    exact this
  have hlt := h.own.lt g rfl
  refine ⟨fun i hi => ?_, fun i hi => ?_, fun b o e hp => ?_, fun i hi k hk => ?_, fun i j hi hj => h.inv.apart i j (by simp; omega) (by simp; omega)⟩
  · have cell : ∀ j, j < 7 → w.cell? ⟨g, 0 + i * 7 + j, none⟩ = zs[i].cells[j]? := fun j hj => by
      rw [show 0 + i * 7 + j = i * 7 + j by omega, h.own.cellAt (i * 7 + j) (by omega), hy, Krow_at zs i j (by omega) hj]
    have eu := hu i hi
    refine ⟨g, 0, rfl, ?_, ?_, ?_, ?_, ?_, ?_, ?_, ?_⟩
    · have := cell 0 (by omega); simpa [KLain.cells, eu] using this
    · have := cell 1 (by omega); simpa [KLain.cells, eu] using this
    · have := cell 2 (by omega); simpa [KLain.cells, eu] using this
    · have := cell 3 (by omega); simpa [KLain.cells, eu] using this
    · have := cell 4 (by omega); simpa [KLain.cells, eu, hl, hi] using this
    · have := cell 5 (by omega); simpa [KLain.cells, eu] using this
    · have := cell 6 (by omega); simpa [KLain.cells, eu] using this
    · rw [← eu]; exact h.side _ (List.getElem_mem _)
  · have := h.inv.sub i (by simp; omega)
    simp only [List.getElem_map, KLain.tl, hu i hi] at this
    simpa [hl, hi] using this
  · injection e with e
    injection e with e1 e2
    subst e1 e2
    exact ⟨hlt, fun i hi hb => (h.inv.inF i (by simp; omega) g hb).2.2 rfl, fun j hj => by rw [Nat.zero_add]; exact h.own.frozenAt j⟩
  · have := h.inv.inF i (by simp; omega) k hk
    exact ⟨this.1, this.2.1⟩
theorem KFill.cells {W w : World} {us : List Kp} {g k : Nat} {zs : List KLain} {G : Nat → Nat → Prop} {ys : List Value} (h : KFill W w us g k zs G ys) (hk : k < us.length) :
    (∃ u, w.cell? ⟨g, k * 7, none⟩ = some u) ∧ (∃ u, w.cell? ⟨g, k * 7 + 1, none⟩ = some u) ∧ (∃ u, w.cell? ⟨g, k * 7 + 2, none⟩ = some u) ∧ (∃ u, w.cell? ⟨g, k * 7 + 3, none⟩ = some u) ∧ (∃ u, w.cell? ⟨g, k * 7 + 4, none⟩ = some u) ∧ (∃ u, w.cell? ⟨g, k * 7 + 5, none⟩ = some u) ∧ (∃ u, w.cell? ⟨g, k * 7 + 6, none⟩ = some u) ∧
    w.frozen? ⟨g, k * 7, none⟩ = false ∧ w.frozen? ⟨g, k * 7 + 1, none⟩ = false ∧ w.frozen? ⟨g, k * 7 + 2, none⟩ = false ∧ w.frozen? ⟨g, k * 7 + 3, none⟩ = false ∧ w.frozen? ⟨g, k * 7 + 4, none⟩ = false ∧ w.frozen? ⟨g, k * 7 + 5, none⟩ = false ∧ w.frozen? ⟨g, k * 7 + 6, none⟩ = false ∧ g < w.heap.size := by
  have hy := h.all
  have c := fun j (hj : j < 7) => (h.own.cellAt (k * 7 + j) (by omega)).trans (List.getElem?_eq_getElem (by omega))
  exact ⟨⟨_, c 0 (by omega)⟩, ⟨_, c 1 (by omega)⟩, ⟨_, c 2 (by omega)⟩, ⟨_, c 3 (by omega)⟩, ⟨_, c 4 (by omega)⟩, ⟨_, c 5 (by omega)⟩, ⟨_, c 6 (by omega)⟩,
    h.own.frozenAt _, h.own.frozenAt _, h.own.frozenAt _, h.own.frozenAt _, h.own.frozenAt _, h.own.frozenAt _, h.own.frozenAt _, (h.own.lt g rfl).2⟩
theorem KFill.start {W : World} (us : List Kp) {n : Nat} (hn : us.length = n) {g : Nat} (cs : Array Value) (hW : W.heap.size = g) (hc : cs.size = n * 7) (hm : n ≤ maxLen) :
    KFill W (W.alloc (.cells cs 73)) us g 0 [] (fun _ _ => False) cs.toList := by
  subst hW hn
  exact ⟨rfl, by simp, by simp [hc], fun i hi => absurd hi (by simp), World.ownsRow_lit W cs us.length (Nat.le_refl _) hm hc, ⟨fun i hi => absurd hi (by simp), fun i hi => absurd hi (by simp), fun i j hi => absurd hi (by simp), (Ext.refl _).alloc _⟩, fun z hz => absurd hz (by simp)⟩
end Go.Proofs.Ytcfhokejfibgoaa
