/- Joined: Pga, Pgd, Pge. -/
import Derived.Test.YtbjghkmjnhmlfaaGreatDoorYH
import Derived.Test.YtbjghkmjnhmlfaaGreatDoorYJ
import Derived.Test.YtbjghkmjnhmlfaaGreatDoorPat

/- Rows of things of any sort, of the call's own. -/
namespace Go.Proofs.YtbjghkmjnhmlfaaGreatDoor
open Go.RowKit

/-- a sort of things: its cells, and what it means that one lies in blocks of F -/
structure Srt (X : Type) where
  ty : TypeId
  sz : Nat
  pos : 0 < sz
  cells : X → List Value
  len : ∀ x, (cells x).length = sz
  In : World → (Nat → Prop) → X → Prop
  keep : ∀ {w w' : World} {F F' : Nat → Prop} {x : X}, In w F x → (∀ b, F b → b < w.heap.size → w'.heap[b]? = w.heap[b]? ∧ F' b) → In w' F' x
def Srt.row {X : Type} (S : Srt X) : List X → List Value
  | [] => []
  | x :: r => S.cells x ++ S.row r
section
variable {X : Type} {S : Srt X}
theorem srow_len : ∀ xs : List X, (S.row xs).length = xs.length * S.sz
  | [] => by simp [Srt.row]
  | x :: r => by simp only [Srt.row, List.length_append, S.len, srow_len r, List.length_cons]; rw [Nat.succ_mul]; omega
theorem srow_snoc (x : X) : ∀ xs : List X, S.row (xs ++ [x]) = S.row xs ++ S.cells x
  | [] => by simp [Srt.row]
  | y :: r => by simp [Srt.row, srow_snoc x r]
theorem srow_at : ∀ (xs : List X) (i j : Nat) (h : i < xs.length), j < S.sz → (S.row xs)[i * S.sz + j]? = (S.cells xs[i])[j]?
  | x :: r, 0, j, _, hj => by simp only [Srt.row, Nat.zero_mul, Nat.zero_add, List.getElem_cons_zero]; rw [List.getElem?_append_left (by rw [S.len]; exact hj)]
  | x :: r, i + 1, j, h, hj => by
    simp only [Srt.row, List.getElem_cons_succ]
    rw [List.getElem?_append_right (by rw [S.len, Nat.succ_mul]; omega), S.len, show (i + 1) * S.sz + j - S.sz = i * S.sz + j by rw [Nat.succ_mul]; omega]
    exact srow_at r i j (by simpa using h) hj

/-- things that were read so far: a row of the call's own, from block B on, in no block of D -/
structure GInv (S : Srt X) (B : Nat) (wr : World) (v : Value) (xs : List X) (D : Nat → Prop) : Prop where
  own : wr.ownsRow B S.ty S.sz v xs.length (S.row xs)
  out : ∀ q, v.ownBlock = some q → ¬ D q
  sub : ∀ x ∈ xs, S.In wr (fun b => (B ≤ b ∧ b < wr.heap.size) ∧ ¬ D b ∧ v.ownBlock ≠ some b) x
  size : B ≤ wr.heap.size
variable {B : Nat} {wr w1 w3 : World} {v v' : Value} {xs : List X} {D D' : Nat → Prop} {y : X}
theorem GInv.start (S : Srt X) {wr : World} (D : Nat → Prop) (h : B ≤ wr.heap.size) : GInv S B wr (.slice none 0 0) [] D := ⟨World.ownsRow_nil _ _ _ _, fun q e => (by cases e), fun x hx => absurd hx (by simp), h⟩
/-- nothing of it is turned -/
theorem GInv.far (h : GInv S B wr v xs D) (k : ∀ b, B ≤ b → b < wr.heap.size → ¬ D b → w1.heap[b]? = wr.heap[b]?) (hD : ∀ b, B ≤ b → b < wr.heap.size → D' b → D b) (hs : wr.heap.size ≤ w1.heap.size) : GInv S B w1 v xs D' := by
  refine ⟨own_same h.own fun q hq => ?_, fun q hq hd => ?_, fun x hx => S.keep (h.sub x hx) fun b hb _ => ⟨k b hb.1.1 hb.1.2 hb.2.1, ⟨hb.1.1, by have := hb.1.2; omega⟩, fun hd => hb.2.1 (hD b hb.1.1 hb.1.2 hd), hb.2.2⟩, Nat.le_trans h.size hs⟩
  · obtain ⟨h1, h2⟩ := own_lt h.own q hq
    exact k q h1 h2 (h.out q hq)
  · obtain ⟨h1, h2⟩ := own_lt h.own q hq
    exact h.out q hq (hD q h1 h2 hd)
theorem GInv.chg {F : Nat → Prop} (h : GInv S B wr v xs D) (k : Chg F wr w1) (hF : ∀ b, F b → b < B ∨ D b) : GInv S B w1 v xs D :=
  h.far (fun b h1 h2 h3 => k.block b h2 (fun f => by rcases hF b f with e | e; omega; exact h3 e)) (fun _ _ _ e => e) k.size
theorem GInv.ext (h : GInv S B wr v xs D) (k : Ext wr w1) : GInv S B w1 v xs D := h.far (fun b _ h2 _ => k.block b h2) (fun _ _ _ e => e) k.size
theorem GInv.lt (h : GInv S B wr v xs D) : ∀ q, v.ownBlock = some q → B ≤ q ∧ q < wr.heap.size := own_lt h.own
theorem GInv.app (h : GInv S B w1 v xs D) (hy : S.In w1 (fun b => (B ≤ b ∧ b < w1.heap.size) ∧ ¬ D b ∧ v.ownBlock ≠ some b) y) (hD : ∀ b, D b → b < w1.heap.size)
    (k : Chg (fun b => v.ownBlock = some b) w1 w3) (ho : w3.ownsRow B S.ty S.sz v' (xs.length + 1) (S.row xs ++ S.cells y)) (hat : v'.ownBlock = v.ownBlock ∨ ∃ q, v'.ownBlock = some q ∧ w1.heap.size ≤ q) :
    GInv S B w3 v' (xs ++ [y]) D := by
  have hs := k.size
  have far : ∀ b, b < w1.heap.size → v.ownBlock ≠ some b → v'.ownBlock ≠ some b := fun b hb hne e => by
    rcases hat with e' | ⟨q, e', hq⟩
    · exact hne (e' ▸ e)
    · rw [e'] at e; injection e with e; omega
  have key : ∀ x, S.In w1 (fun b => (B ≤ b ∧ b < w1.heap.size) ∧ ¬ D b ∧ v.ownBlock ≠ some b) x → S.In w3 (fun b => (B ≤ b ∧ b < w3.heap.size) ∧ ¬ D b ∧ v'.ownBlock ≠ some b) x := fun x hx =>
    S.keep hx fun b hb _ => ⟨k.block b hb.1.2 hb.2.2, ⟨hb.1.1, by have := hb.1.2; omega⟩, hb.2.1, far b hb.1.2 hb.2.2⟩
  refine ⟨by rw [srow_snoc, List.length_append]; exact ho, fun q hq => ?_, fun x hx => ?_, Nat.le_trans h.size hs⟩
  · rcases hat with e' | ⟨q', e', hq'⟩
    · exact h.out q (e' ▸ hq)
    · rw [e'] at hq
      obtain rfl : q' = q := by injection hq
      exact fun hd => by have := hD _ hd; omega
  · rcases List.mem_append.1 hx with hx | hx
    · exact key x (h.sub x hx)
    · obtain rfl := List.mem_singleton.1 hx
      exact key _ hy
/-- the other row, whose blocks are D', when this one has grown into v' -/
theorem GInv.beside {Y : Type} {S' : Srt Y} {u : Value} {ys : List Y} (h : GInv S' B w1 u ys (fun b => v.ownBlock = some b)) (k : Chg (fun b => v.ownBlock = some b) w1 w3) (hat : v'.ownBlock = v.ownBlock ∨ ∃ q, v'.ownBlock = some q ∧ w1.heap.size ≤ q) : GInv S' B w3 u ys (fun b => v'.ownBlock = some b) :=
  h.far (fun b _ h2 h3 => k.block b h2 h3) (fun b _ h2 e => by rcases hat with e' | ⟨q, e', hq⟩; exact e' ▸ e; rw [e'] at e; injection e with e; omega) k.size

/-! cells written one behind the other -/
theorem own_setk {e : TypeId} {q n cap sz : Nat} : ∀ (us zs pre : List Value) (w : World), zs.length = us.length → w.ownsRow B e sz (.slice (some ⟨q, 0, none⟩) n cap) n (pre ++ zs) →
    (w.setCells q pre.length us).ownsRow B e sz (.slice (some ⟨q, 0, none⟩) n cap) n (pre ++ us)
  | [], zs, pre, w, hl, h => by
    have : zs = [] := List.eq_nil_of_length_eq_zero hl
    subst this; exact h
  | u :: us, z :: zs, pre, w, hl, h => by
    have h1 := (h.stored pre.length u).1
    rw [show (pre ++ z :: zs).set pre.length u = (pre ++ [u]) ++ zs by simp] at h1
    have h2 := own_setk us zs (pre ++ [u]) _ (by simpa using hl) h1
    simpa [World.setCells] using h2
theorem own_cellsk {w : World} {e : TypeId} {q n cap sz : Nat} {pre zs : List Value} (h : w.ownsRow B e sz (.slice (some ⟨q, 0, none⟩) n cap) n (pre ++ zs)) (j : Nat) (hj : j < zs.length) : w.cell? ⟨q, pre.length + j, none⟩ = zs[j]? := by
  have hl := h.1
  rw [h.cellAt (pre.length + j) (by rw [← hl, List.length_append]; omega), List.getElem?_append_right (by omega), Nat.add_sub_cancel_left]
end
end Go.Proofs.YtbjghkmjnhmlfaaGreatDoor

/- Blocks of any number of cells. -/
namespace Go.Proofs.YtbjghkmjnhmlfaaGreatDoor
open Go.RowKit

/-! a block's cells -/
structure BoxN (w : World) (g : Nat) (cs : List Value) : Prop where
  range : w.rangeAt g 0 cs
  thr : w.there g 0 cs.length
  pos : 0 < cs.length
theorem BoxN.lt {w : World} {g : Nat} {cs : List Value} (h : BoxN w g cs) : g < w.heap.size := by
  have h0 := h.range 0 (cs[0]'h.pos) (List.getElem?_eq_getElem _)
  exact World.block_lt_of_cell? w _ h0
theorem BoxN.same {w w' : World} {g : Nat} {cs : List Value} (h : BoxN w g cs) (e : w'.heap[g]? = w.heap[g]?) : BoxN w' g cs :=
  ⟨fun j v hj => (World.cell?_of_block (w := w) e).trans (h.range j v hj), fun j hj => ⟨by rw [World.cell?_of_block (w := w) e]; exact (h.thr j hj).1, (World.frozen?_of_block (w := w) e).trans (h.thr j hj).2⟩, h.pos⟩
theorem BoxN.ext {w w' : World} {g : Nat} {cs : List Value} (h : BoxN w g cs) (k : Ext w w') : BoxN w' g cs := h.same (k.block g h.lt)
theorem BoxN.chg {w w' : World} {F : Nat → Prop} {g : Nat} {cs : List Value} (h : BoxN w g cs) (k : Chg F w w') (hF : ¬ F g) : BoxN w' g cs := h.same (k.block g h.lt hF)
theorem BoxN.new (w : World) (cs : Array Value) (t : TypeId) (hl : 0 < cs.size) : BoxN (w.alloc (.cells cs t)) w.heap.size cs.toList := by
  have hh := heap_alloc_new w (.cells cs t)
  refine ⟨fun j v hj => ?_, fun j hj => ⟨?_, ?_⟩, by simpa using hl⟩
  · rw [Nat.zero_add]
    simp only [World.cell?, hh]
    rw [← hj, Array.getElem?_toList]
    rfl
  · rw [Nat.zero_add]
    simp only [World.cell?, hh]
    have : j < cs.size := by simpa using hj
    simp [this]
  · rw [Nat.zero_add]
    go_simp
theorem BoxN.cell {w : World} {g : Nat} {cs : List Value} (h : BoxN w g cs) (j : Nat) {v : Value} (hj : cs[j]? = some v) : w.cell? ⟨g, j, none⟩ = some v := by have := h.range j v hj; rwa [Nat.zero_add] at this
theorem BoxN.fz {w : World} {g : Nat} {cs : List Value} (h : BoxN w g cs) (j : Nat) (hj : j < cs.length) : w.frozen? ⟨g, j, none⟩ = false := by have := (h.thr j hj).2; rwa [Nat.zero_add] at this
theorem there_setCells {g n : Nat} : ∀ (vs : List Value) (o : Nat) (u : World), u.there g 0 n → (u.setCells g o vs).there g 0 n := by
  intro vs
  induction vs with
  | nil => intro o u h; exact h
  | cons v r ih =>
    intro o u hu
    refine ih (o + 1) _ fun j hj => ?_
    obtain ⟨h1, h2⟩ := hu j hj
    refine ⟨?_, by simpa using h2⟩
    by_cases e : o = 0 + j
    · subst e
      rw [World.cell?_setCell_same' _ _ _ h1]
      rfl
    · rw [World.cell?_setCell_other _ _ _ _ (fun x => by injection x with _ x; exact e x)]
      exact h1
/-- all of them written -/
theorem BoxN.set {w : World} {g : Nat} {cs : List Value} (h : BoxN w g cs) (vs : List Value) (hl : vs.length = cs.length) : BoxN (w.setCells g 0 vs) g vs := by
  have ht : w.there g 0 vs.length := by rw [hl]; exact h.thr
  exact ⟨World.rangeAt_setCells_same _ _ _ _ ht, there_setCells vs 0 w ht, by rw [hl]; exact h.pos⟩
/-- one of them written -/
theorem BoxN.set1 {w : World} {g : Nat} {cs : List Value} (h : BoxN w g cs) (j : Nat) (v : Value) (hj : j < cs.length) : BoxN (w.setCell ⟨g, j, none⟩ v) g (cs.set j v) := by
  refine ⟨fun k u hk => ?_, fun k hk => ?_, by simpa using h.pos⟩
  · rw [Nat.zero_add]
    rw [List.getElem?_set] at hk
    by_cases e : j = k
    · subst e
      rw [if_pos rfl, if_pos hj] at hk
      rw [World.cell?_setCell_same' _ _ _ (by have := (h.thr j hj).1; rwa [Nat.zero_add] at this)]
      exact hk
    · rw [if_neg e] at hk
      rw [World.cell?_setCell_other _ _ _ _ (fun x => by injection x with _ x; exact e x)]
      exact h.cell k hk
  · obtain ⟨h1, h2⟩ := h.thr k (by simpa using hk)
    refine ⟨?_, by simpa using h2⟩
    by_cases e : j = 0 + k
    · subst e
      rw [World.cell?_setCell_same' _ _ _ h1]
      rfl
    · rw [World.cell?_setCell_other _ _ _ _ (fun x => by injection x with _ x; exact e x)]
      exact h1

end Go.Proofs.YtbjghkmjnhmlfaaGreatDoor

/- Package read: guards, clauses, rules as they lie in memory; add, for each sort. -/
namespace Go.Proofs.YtbjghkmjnhmlfaaGreatDoor
open Go.RowKit

/-! the sorts -/
structure GdPl where
  A : Option Addr
  ac : Nat
  B : Option Addr
  bc : Nat
abbrev GLain := Gd × GdPl
def gdCells (x : GLain) : List Value := [.int .i64 x.1.kind, .int .i64 x.1.l.kind, .string x.1.l.name, .int .i64 x.1.l.n, .slice x.2.A x.1.l.args.length x.2.ac, .int .i64 x.1.r.kind, .string x.1.r.name, .int .i64 x.1.r.n, .slice x.2.B x.1.r.args.length x.2.bc]
def GdIn (w : World) (F : Nat → Prop) (x : GLain) : Prop := TmIn w F x.1.l x.2.A x.2.ac ∧ TmIn w F x.1.r x.2.B x.2.bc
def SG : Srt GLain := ⟨95, 9, by decide, gdCells, fun _ => rfl, GdIn, fun h k => ⟨h.1.keep k, h.2.keep k⟩⟩
def ST : Srt Lain := ⟨58, 4, by decide, Lain.cells, fun _ => rfl, fun w F x => TmIn w F x.1 x.2.1 x.2.2, fun h k => h.keep k⟩
/-- a row that lies in a block of F -/
def RowIn {X : Type} (S : Srt X) (w : World) (F : Nat → Prop) (v : Value) (xs : List X) : Prop :=
  ((xs = [] ∧ ∃ A c, v = .slice A 0 c) ∨ (0 < xs.length ∧ ∃ q cap, v = .slice (some ⟨q, 0, none⟩) xs.length cap ∧ xs.length ≤ cap ∧ F q ∧ ∀ j u, (S.row xs)[j]? = some u → w.cell? ⟨q, j, none⟩ = some u)) ∧ ∀ x ∈ xs, S.In w F x
theorem RowIn.keep {X : Type} {S : Srt X} {w w' : World} {F F' : Nat → Prop} {v : Value} {xs : List X} (h : RowIn S w F v xs) (k : ∀ b, F b → b < w.heap.size → w'.heap[b]? = w.heap[b]? ∧ F' b) : RowIn S w' F' v xs := by
  refine ⟨?_, fun x hx => S.keep (h.2 x hx) k⟩
  rcases h.1 with h0 | ⟨h0, q, cap, e, hc, hF, hcs⟩
  · exact .inl h0
  · have hl : 0 < (S.row xs).length := by rw [srow_len]; exact Nat.mul_pos h0 S.pos
    have hq := World.block_lt_of_cell? w _ (hcs 0 _ (List.getElem?_eq_getElem hl))
    have := k q hF hq
    exact .inr ⟨h0, q, cap, e, hc, this.2, fun j u hu => (World.cell?_of_block (w := w) this.1).trans (hcs j u hu)⟩
theorem GInv.row {X : Type} {S : Srt X} {B : Nat} {w : World} {v : Value} {xs : List X} {D : Nat → Prop} (h : GInv S B w v xs D) : RowIn S w (fun b => (B ≤ b ∧ b < w.heap.size) ∧ ¬ D b) v xs := by
  refine ⟨?_, fun x hx => S.keep (h.sub x hx) fun b hb _ => ⟨rfl, hb.1, hb.2.1⟩⟩
  obtain ⟨A, c, e, _⟩ := src_own h.own
  by_cases h0 : xs = []
  · subst h0; exact .inl ⟨rfl, A, c, e⟩
  · have hl : 0 < xs.length := List.length_pos_iff.2 h0
    obtain ⟨q, cap, e, hc⟩ := own_form h.own hl
    have hq := own_lt h.own q (by rw [e]; rfl)
    refine .inr ⟨hl, q, cap, e, hc, ⟨hq, h.out q (by rw [e]; rfl)⟩, fun j u hu => ?_⟩
    have hj : j < xs.length * S.sz := by
      obtain ⟨h1, _⟩ := List.getElem?_eq_some_iff.1 hu
      rw [srow_len] at h1
      exact h1
    have ho := h.own
    rw [e] at ho
    rw [ho.cellAt j hj, hu]
structure ClL where
  head : Tm
  A : Option Addr
  ac : Nat
  body : List Lain
  bA : Option Addr
  bc : Nat
  guards : List GLain
  gA : Option Addr
  gc : Nat
def ClL.cl (x : ClL) : Cl := ⟨x.head, x.body.map (·.1), x.guards.map (·.1)⟩
def clCells (x : ClL) : List Value := [.int .i64 x.head.kind, .string x.head.name, .int .i64 x.head.n, .slice x.A x.head.args.length x.ac, .slice x.bA x.body.length x.bc, .slice x.gA x.guards.length x.gc]
def ClIn (w : World) (F : Nat → Prop) (x : ClL) : Prop := TmIn w F x.head x.A x.ac ∧ RowIn ST w F (.slice x.bA x.body.length x.bc) x.body ∧ RowIn SG w F (.slice x.gA x.guards.length x.gc) x.guards
def SC : Srt ClL := ⟨73, 6, by decide, clCells, fun _ => rfl, ClIn, fun h k => ⟨h.1.keep k, h.2.1.keep k, h.2.2.keep k⟩⟩
structure RlL where
  head : Tm
  A : Option Addr
  ac : Nat
  body : Pt
  pl : PtPl
  guards : List GLain
  gA : Option Addr
  gc : Nat
  within : Int
  policy : Int
def RlL.rl (x : RlL) : Rl := ⟨x.head, x.body, x.guards.map (·.1), x.within, x.policy⟩
def rlCells (x : RlL) : List Value := [.int .i64 x.head.kind, .string x.head.name, .int .i64 x.head.n, .slice x.A x.head.args.length x.ac,
  .int .i64 x.body.kind, .int .i64 x.body.tm.kind, .string x.body.tm.name, .int .i64 x.body.tm.n, .slice x.pl.A x.body.tm.args.length x.pl.ac, .int .i64 x.body.rel, .slice x.pl.L x.body.l.length x.pl.lc, .slice x.pl.R x.body.r.length x.pl.rc, .slice x.pl.C x.body.c.length x.pl.cc,
  .slice x.gA x.guards.length x.gc, .int .i64 x.within, .int .i64 x.policy]
def RlIn (w : World) (F : Nat → Prop) (x : RlL) : Prop := TmIn w F x.head x.A x.ac ∧ PtIn w F x.body x.pl ∧ RowIn SG w F (.slice x.gA x.guards.length x.gc) x.guards
def SR : Srt RlL := ⟨66, 16, by decide, rlCells, fun _ => rfl, RlIn, fun h k => ⟨h.1.keep k, h.2.1.keep k, h.2.2.keep k⟩⟩

/-! a list's place: cell o of block p -/
structure Slot {X : Type} (S : Srt X) (B : Nat) (w : World) (p o : Nat) (v : Value) (xs : List X) (D : Nat → Prop) : Prop where
  inv : GInv S B w v xs D
  cell : w.cell? ⟨p, o, none⟩ = some v
  fz : w.frozen? ⟨p, o, none⟩ = false
  lt : p < B
def Grown (w : World) (v v' : Value) : Prop := v'.ownBlock = v.ownBlock ∨ ∃ q, v'.ownBlock = some q ∧ w.heap.size ≤ q
/-- of block p only cell o may be another -/
def Beside (p o : Nat) (w w' : World) : Prop := ∀ j, (j ≠ o → w'.cell? ⟨p, j, none⟩ = w.cell? ⟨p, j, none⟩) ∧ w'.frozen? ⟨p, j, none⟩ = w.frozen? ⟨p, j, none⟩
theorem Beside.of {p o : Nat} {w w' : World} (h : w'.heap[p]? = w.heap[p]?) : Beside p o w w' := fun _ => ⟨fun _ => World.cell?_of_block (w := w) h, World.frozen?_of_block (w := w) h⟩
theorem Beside.trans {p o : Nat} {a b c : World} (h : Beside p o a b) (k : Beside p o b c) : Beside p o a c := fun j => ⟨fun hj => ((k j).1 hj).trans ((h j).1 hj), (k j).2.trans (h j).2⟩
def AddOk {X : Type} (S : Srt X) (w : World) (g : Nat) (K : RdP) (T : List Tok) (i b p o B : Nat) (v : Value) (xs : List X) (D : Nat → Prop) (y : X) (w' : World) : Prop :=
  RdAt w' g K T i b ∧ (∃ v', Slot S B w' p o v' (xs ++ [y]) D ∧ Grown w v v') ∧ Chg (fun x => x = p ∨ v.ownBlock = some x) w w' ∧ Beside p o w w'
/-- what adding y comes to -/
def AddOut {X : Type} (S : Srt X) (w : World) (g : Nat) (K : RdP) (T : List Tok) (i b p o B : Nat) (v : Value) (xs : List X) (D : Nat → Prop) (y : X) (most : Nat) (fr : Int) (e : Ending) (w' : World) : Prop :=
  if xs.length = most then e = .returned (.bool false) ∧ RdErr w' g fr 2 ∧ Chg (· = g) w w' else e = .returned (.bool true) ∧ AddOk S w g K T i b p o B v xs D y w'
theorem add_fin {X : Type} {S : Srt X} {w w5 wf : World} {g : Nat} {K : RdP} {T : List Tok} {i b p o B : Nat} {v v' : Value} {xs : List X} {D : Nat → Prop} {y : X} (h : RdAt w g K T i b) (hS : Slot S B w p o v xs D) (hpg : p ≠ g) (hpA : p ≠ K.A) (hpR : p ≠ K.R)
    (hlo : g < B ∧ K.A < B ∧ K.R < B) (hD : ∀ b, D b → b < w.heap.size) (hy : S.In w (fun b => (B ≤ b ∧ b < w.heap.size) ∧ ¬ D b ∧ v.ownBlock ≠ some b) y)
    (k : Chg (fun x => v.ownBlock = some x) w w5) (ho : w5.ownsRow B S.ty S.sz v' (xs.length + 1) (S.row xs ++ S.cells y)) (hat : Grown w v v') (hwf : wf = w5.setCell ⟨p, o, none⟩ v') : AddOk S w g K T i b p o B v xs D y wf := by
  subst hwf
  have hpl := World.block_lt_of_cell? w _ hS.cell
  have hv : ∀ x, x < B → v.ownBlock ≠ some x := fun x hx e => by have := (hS.inv.lt x e).1; omega
  have hp5 := k.block p hpl (hv p hS.lt)
  have h5 : RdAt w5 g K T i b := h.chg k (fun x _ e => by have := (hS.inv.lt x e).1; omega)
  have kp : Chg (fun x => x = p) w5 (w5.setCell ⟨p, o, none⟩ v') := (Chg.refl _ w5).setg _ _
  have hA := hS.inv.app hy hD k ho hat
  have hA' : GInv S B (w5.setCell ⟨p, o, none⟩ v') v' (xs ++ [y]) D := hA.far (fun b h1 h2 _ => kp.block b h2 (by have := hS.lt; omega)) (fun _ _ _ e => e) kp.size
  have c5 : w5.cell? ⟨p, o, none⟩ = some v := (World.cell?_of_block (w := w) hp5).trans hS.cell
  have f5 : w5.frozen? ⟨p, o, none⟩ = false := (World.frozen?_of_block (w := w) hp5).trans hS.fz
  refine ⟨h5.chg kp (fun x _ e => by subst e; exact ⟨hpg, hpA, hpR⟩), ⟨v', ⟨hA', by go_simp, by simpa using f5, hS.lt⟩, hat⟩, ?_, fun j => ⟨fun hj => ?_, ?_⟩⟩
  · exact (k.weak fun _ e => .inr e).trans (kp.weak fun _ e => .inl e)
  · rw [World.cell?_setCell_other _ _ _ _ (fun e => by injection e with _ e; exact hj e.symm), World.cell?_of_block (w := w) hp5]
  · simpa using World.frozen?_of_block (w := w) (a := ⟨p, j, none⟩) hp5
theorem Slot.keep {X : Type} {S : Srt X} {B : Nat} {w w' : World} {p o : Nat} {v : Value} {xs : List X} {D : Nat → Prop} {F : Nat → Prop} (h : Slot S B w p o v xs D) (k : Chg F w w') (hF : ∀ b, F b → (b < B ∨ D b) ∧ b ≠ p) : Slot S B w' p o v xs D := by
  have hp := k.block p (World.block_lt_of_cell? w _ h.cell) (fun f => (hF p f).2 rfl)
  exact ⟨h.inv.chg k (fun b f => (hF b f).1), (World.cell?_of_block (w := w) hp).trans h.cell, (World.frozen?_of_block (w := w) hp).trans h.fz, h.lt⟩
theorem Slot.ext {X : Type} {S : Srt X} {B : Nat} {w w' : World} {p o : Nat} {v : Value} {xs : List X} {D : Nat → Prop} (h : Slot S B w p o v xs D) (k : Ext w w') : Slot S B w' p o v xs D := h.keep (F := fun _ => False) (Chg.of_ext k) (fun _ f => f.elim)
theorem add_back {X : Type} {S : Srt X} {w w0 wf : World} {g : Nat} {K : RdP} {T : List Tok} {i b p o B : Nat} {v : Value} {xs : List X} {D : Nat → Prop} {y : X} (hx : Ext w w0) (h : AddOk S w0 g K T i b p o B v xs D y wf) (hp : p < w.heap.size) : AddOk S w g K T i b p o B v xs D y wf := by
  obtain ⟨h1, ⟨v', h2, h3⟩, h4, h5⟩ := h
  refine ⟨h1, ⟨v', h2, ?_⟩, (Chg.of_ext hx).trans h4, (Beside.of (hx.block p hp)).trans h5⟩
  rcases h3 with e | ⟨q, e, hq⟩
  · exact .inl e
  · exact .inr ⟨q, e, Nat.le_trans hx.size hq⟩
theorem infoGd : (Tryz.prog.info? 95).map (fun i => (i.zero, i.size, i.bytes)) = some (some (.agg #[.int .i64 0, .int .i64 0, .string ⟨#[]⟩, .int .i64 0, .slice none 0 0, .int .i64 0, .string ⟨#[]⟩, .int .i64 0, .slice none 0 0]), 9, 120) := by kernel_rfl
theorem gdCells_one (y : GLain) : ∀ u ∈ gdCells y, u.oneCell' = true := by
  intro u hu
  simp only [gdCells, List.mem_cons, List.not_mem_nil, or_false] at hu
  rcases hu with h | h | h | h | h | h | h | h | h <;> subst h <;> rfl
set_option maxRecDepth 100000 in
set_option maxHeartbeats 4000000 in
theorem addG_rd {w : World} {g : Nat} {K : RdP} {T : List Tok} {i b p o B : Nat} {v : Value} {xs : List GLain} {D : Nat → Prop} (y : GLain) (fr : Int) (hx : xs.length ≤ 4) (h : RdAt w g K T i b) (hS : Slot SG B w p o v xs D) (hpg : p ≠ g) (hpA : p ≠ K.A) (hpR : p ≠ K.R)
    (hlo : g < B ∧ K.A < B ∧ K.R < B) (hD : ∀ b, D b → b < w.heap.size) (hy : GdIn w (fun b => (B ≤ b ∧ b < w.heap.size) ∧ ¬ D b ∧ v.ownBlock ≠ some b) y) :
    Calls Tryz.prog 115 #[.pointer (some ⟨g, 0, none⟩), .pointer (some ⟨p, o, none⟩), .agg (gdCells y).toArray, .int .i64 4, .int .i64 fr] w (AddOut SG w g K T i b p o B v xs D y 4 fr) := by
  obtain ⟨i0, hi0, hz0, hz1, hz2⟩ := info_parts infoGd
  have hpl := World.block_lt_of_cell? w _ hS.cell
  obtain ⟨SA, sc, rfl, _⟩ := src_own hS.inv.own
  obtain ⟨w0, hw0⟩ : ∃ w0, w0 = w.alloc (.cells (gdCells y).toArray 95) := ⟨_, rfl⟩
  have hx0 : Ext w w0 := by rw [hw0]; exact (Ext.refl _).alloc _
  have hb0 : BoxN w0 w.heap.size (gdCells y) := by rw [hw0]; exact BoxN.new w _ _ (by simp [gdCells])
  have HW0 := Lib.hid hw0
  have hs0 : w0.heap.size = w.heap.size + 1 := by rw [hw0]; simp
  have hw0l : w.heap.size < w0.heap.size := hb0.lt
  have hS0 := hS.ext hx0
  have hR0 := h.ext hx0
  have hy0 : SG.In w0 (fun b => (B ≤ b ∧ b < w0.heap.size) ∧ ¬ D b ∧ (Value.slice SA xs.length sc).ownBlock ≠ some b) y := SG.keep hy fun b hb _ => ⟨hx0.block b hb.1.2, ⟨hb.1.1, by have := hb.1.2; omega⟩, hb.2⟩
  have hD0 : ∀ b, D b → b < w0.heap.size := fun b hb => by have := hD b hb; omega
  have hB0 : B ≤ w.heap.size := hS.inv.size
  have hpB := hS.lt
  unfold gdCells at hb0 hw0 ⊢
  have x0 := hb0.cell 0 rfl
  have x1 := hb0.cell 1 rfl
  have x2 := hb0.cell 2 rfl
  have x3 := hb0.cell 3 rfl
  have x4 := hb0.cell 4 rfl
  have x5 := hb0.cell 5 rfl
  have x6 := hb0.cell 6 rfl
  have x7 := hb0.cell 7 rfl
  have x8 := hb0.cell 8 rfl
  have dc := hS0.cell
  have fc := hS0.fz
  have hp0 : p < w0.heap.size := by omega
  have HFIN := Lib.hid (fun (w5 wf : World) (v' : Value) => add_fin (w5 := w5) (wf := wf) (v' := v') hR0 hS0 hpg hpA hpR hlo hD0 hy0)
  have HO := Lib.hid hS0.inv.own
  have HR0 := Lib.hid (And.intro hR0 hx0)
  have HN : Hid ((Value.slice SA xs.length sc).ownBlock ≠ some p) := Lib.hid (fun e => by have := (hS.inv.lt p e).1; omega)
  have H63 : Hid (xs.length + 1 ≤ maxLen) := Lib.hid (by unfold maxLen; omega)
  have HBY : Hid ((xs.length + 1) * 120 ≤ 140737488355328) := Lib.hid (by omega)
  have HBA : Hid (B ≤ (w0.drew.alloc (.cells (gdCells y).toArray 95)).heap.size) := Lib.hid (by simp; omega)
  have HS0 := Lib.hid hs0
  clear hx0 hb0 hS0 hR0 hy0 hD0 h hS hy hD hs0
  go_enter Tryz.func115, Tryz.ntmps115
  go_upto_region 1 with (fail)
  rw [show w.alloc (.cells #[.int .i64 y.1.kind, .int .i64 y.1.l.kind, .string y.1.l.name, .int .i64 y.1.l.n, .slice y.2.A y.1.l.args.length y.2.ac, .int .i64 y.1.r.kind, .string y.1.r.name, .int .i64 y.1.r.n, .slice y.2.B y.1.r.args.length y.2.bc] 95) = w0 from hw0.symm]
  clear hw0
  by_cases hl : xs.length = 4
  · have hle : ((xs.length : Int) == 4) = true := by rw [hl]; rfl
    have HL := Lib.hid hl
    have KF := Lib.hid (fail_any fr 2 HR0.out.1)
    clear hl
    go_wp2_with fail
    refine KF.out.mono ?_
    rintro e w1 ⟨rfl, hE, hC⟩
    have HH := Lib.hid (And.intro hE ((Chg.of_ext HR0.out.2).trans hC))
    clear hE hC
    go_wp2_with fail
    go_ret
    unfold AddOut
    rw [if_pos HL.out]
    exact ⟨rfl, HH.out.1, HH.out.2⟩
  · have hle : ((xs.length : Int) == 4) = false := by simp; omega
    have HL := Lib.hid hl
    clear hl
    go_upto_region 3 with (fail)
    have dcd : w0.drew.cell? ⟨p, o, none⟩ = some (.slice SA xs.length sc) := dc
    go_region_law
      ((refine step_app _ (by rfl) (.tmp 23) (.tmp 25) 64 (by rfl) B 95 i0 _ 9 120 Tryz.underlying64 hi0 hz0 hz1 hz2 (by rfl) (by decide) (.slice SA xs.length sc) xs.length (SG.row xs) (by rfl) (HO.out.drew.alloc _) (some ⟨w0.heap.size, 0, none⟩) 1 1 (gdCells y) (by rfl) (Src.box w0.drew (gdCells y).toArray 95 9 rfl) (gdCells_one y) H63.out HBY.out HBA.out ?_; intro v' w5 ho3 hg3 hat3; obtain ⟨q, cap', rfl, hcap⟩ := own_form ho3 (Nat.succ_pos _); have k3 := (Chg.of_ext (F := fun x => (Value.slice SA xs.length sc).ownBlock = some x) ((Ext.refl w0).drew.alloc (.cells (gdCells y).toArray 95))).trans (own_chg hg3); have q0 := k3.cell dcd HN.out; have f3' : w5.frozen? ⟨p, o, none⟩ = false := (World.frozen?_of_block (w := w0) (k3.block p hp0 HN.out)).trans fc))
    all_goals
      have hat4 : Grown w0 (.slice SA xs.length sc) (.slice (some ⟨q, 0, none⟩) (xs.length + 1) cap') := by
        rcases hat3 with e | e
        · exact .inl e
        · refine .inr ⟨q, rfl, ?_⟩
          have : q = w0.heap.size + 1 := by simpa [Value.ownBlock] using e
          omega
      obtain ⟨wf, hwf⟩ : ∃ wf, wf = w5.setCell ⟨p, o, none⟩ (.slice (some ⟨q, 0, none⟩) (xs.length + 1) cap') := ⟨_, rfl⟩
      have hfin := HFIN.out w5 wf _ k3 ho3 hat4 hwf
      rw [← hwf]
      have HH := Lib.hid hfin
      clear hfin hwf hat4 k3 ho3 hg3 hat3 q0 f3'
      go_wp2_with fail
      go_ret
      unfold AddOut
      rw [if_neg HL.out]
      exact ⟨rfl, add_back HR0.out.2 HH.out hpl⟩
end Go.Proofs.YtbjghkmjnhmlfaaGreatDoor
