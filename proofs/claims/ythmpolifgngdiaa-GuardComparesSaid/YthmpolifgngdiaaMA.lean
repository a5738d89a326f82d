/- Joined: Pap, Dat, Opd. -/
import Derived.Test.YthmpolifgngdiaaWc
import Derived.Test.YthmpolifgngdiaaTm
import Derived.Test.YthmpolifgngdiaaOpen

/- What a row of words is, as plain data (pure): terms, patterns, items; or where, and which, the first fault is. -/
namespace Go.Proofs.Ythmpolifgngdiaa

/-! a word's role -/
structure Pt where
  kind : Int
  tm : Tm
  rel : Int
  l : List Pt
  r : List Pt
  c : List Pt
structure Gd where
  kind : Int
  l : Tm
  r : Tm
structure Rl where
  head : Tm
  body : Pt
  guards : List Gd
  within : Int
  policy : Int
structure Cl where
  head : Tm
  body : List Tm
  guards : List Gd
structure Pr where
  clauses : List Cl
  rules : List Rl

/-! whole texts -/
end Go.Proofs.Ythmpolifgngdiaa

/- Patterns, guards, clauses, rules, programs, however they came: as they lie in memory, at whatever address. -/
namespace Go.Proofs.Ythmpolifgngdiaa
open Go.RowKit

/-- from A on lie things of k cells each -/
def RowA {X P : Type} (cells : X → P → List Value) (In : X → P → Prop) (k : Nat) (w : World) (xs : List X) (A : Option Addr) : Prop :=
  ∀ i (h : i < xs.length), ∃ b o p, A = some ⟨b, o, none⟩ ∧ (∀ j u, (cells xs[i] p)[j]? = some u → w.cell? ⟨b, o + i * k + j, none⟩ = some u) ∧ In xs[i] p
theorem RowA.mono {X P : Type} {cells : X → P → List Value} {In In' : X → P → Prop} {k : Nat} {w w' : World} {xs : List X} {A : Option Addr} (h : RowA cells In k w xs A) (hx : Ext w w') (hI : ∀ x p, In x p → In' x p) : RowA cells In' k w' xs A := fun i hi => by
  obtain ⟨b, o, p, e, hc, hp⟩ := h i hi
  exact ⟨b, o, p, e, fun j u hu => hx.cell (hc j u hu), hI _ _ hp⟩
theorem RowA.nil {X P : Type} {cells : X → P → List Value} {In : X → P → Prop} {k : Nat} {w : World} {A : Option Addr} : RowA cells In k w [] A := fun i hi => absurd hi (by simp)

/-- where a pattern's lists, and its term's arguments, lie -/
structure PaPl where
  A : Option Addr
  ac : Nat
  L : Option Addr
  lc : Nat
  R : Option Addr
  rc : Nat
  C : Option Addr
  cc : Nat
abbrev paCells (p : Pt) (a : PaPl) : List Value := [.int .i64 p.kind, .int .i64 p.tm.kind, .string p.tm.name, .int .i64 p.tm.n, .slice a.A p.tm.args.length a.ac, .int .i64 p.rel, .slice a.L p.l.length a.lc, .slice a.R p.r.length a.rc, .slice a.C p.c.length a.cc]
structure PaFits (p : Pt) : Prop where
  kind : (Lit.int .i64 p.kind).wf = true
  rel : (Lit.int .i64 p.rel).wf = true
  l : p.l.length * 144 ≤ 140737488351232
  r : p.r.length * 144 ≤ 140737488351232
  c : p.c.length * 144 ≤ 140737488351232
def PaRow (w : World) (ps : List Pt) (L : Option Addr) (g : Nat → PaPl) : Prop :=
  ∀ i (h : i < ps.length), ∃ b o, L = some ⟨b, o, none⟩ ∧ ∀ j u, (paCells ps[i] (g i))[j]? = some u → w.cell? ⟨b, o + i * 9 + j, none⟩ = some u
inductive PaAt (w : World) : Pt → PaPl → Prop
  | mk (p : Pt) (a : PaPl) (gl gr gc : Nat → PaPl) (fits : PaFits p) (cap : p.l.length ≤ a.lc ∧ p.r.length ≤ a.rc ∧ p.c.length ≤ a.cc) (tm : TmAt w p.tm a.A a.ac)
      (l : PaRow w p.l a.L gl) (r : PaRow w p.r a.R gr) (c : PaRow w p.c a.C gc)
      (sl : ∀ i (h : i < p.l.length), PaAt w p.l[i] (gl i)) (sr : ∀ i (h : i < p.r.length), PaAt w p.r[i] (gr i)) (sc : ∀ i (h : i < p.c.length), PaAt w p.c[i] (gc i)) : PaAt w p a
theorem PaRow.ext {w w' : World} {ps : List Pt} {L : Option Addr} {g : Nat → PaPl} (h : PaRow w ps L g) (k : Ext w w') : PaRow w' ps L g := fun i hi => by
  obtain ⟨b, o, e, hc⟩ := h i hi
  exact ⟨b, o, e, fun j u hu => k.cell (hc j u hu)⟩
theorem PaAt.ext {w w' : World} {p : Pt} {a : PaPl} (h : PaAt w p a) (k : Ext w w') : PaAt w' p a := by
  induction h with
  | mk p a gl gr gc fits cap tm l r c sl sr sc il ir ic => exact .mk p a gl gr gc fits cap (tm.ext k) (l.ext k) (r.ext k) (c.ext k) il ir ic
theorem PaAt.tm {w : World} {p : Pt} {a : PaPl} (h : PaAt w p a) : TmAt w p.tm a.A a.ac := by cases h; assumption
/-- guards -/
structure GuPl where
  A : Option Addr
  ac : Nat
  B : Option Addr
  bc : Nat
abbrev guCells (x : Gd) (p : GuPl) : List Value := [.int .i64 x.kind, .int .i64 x.l.kind, .string x.l.name, .int .i64 x.l.n, .slice p.A x.l.args.length p.ac, .int .i64 x.r.kind, .string x.r.name, .int .i64 x.r.n, .slice p.B x.r.args.length p.bc]
structure GuAt (w : World) (x : Gd) (p : GuPl) : Prop where
  l : TmAt w x.l p.A p.ac
  r : TmAt w x.r p.B p.bc
  kind : (Lit.int .i64 x.kind).wf = true
theorem GuAt.ext {w w' : World} {x : Gd} {p : GuPl} (h : GuAt w x p) (k : Ext w w') : GuAt w' x p := ⟨h.l.ext k, h.r.ext k, h.kind⟩
abbrev GusAt (w : World) (xs : List Gd) (A : Option Addr) : Prop := RowA guCells (GuAt w) 9 w xs A
theorem GusAt.ext {w w' : World} {xs : List Gd} {A : Option Addr} (h : GusAt w xs A) (k : Ext w w') : GusAt w' xs A := RowA.mono h k fun _ _ h => h.ext k

/-- clauses -/
structure CuPl where
  A : Option Addr
  ac : Nat
  bA : Option Addr
  bc : Nat
  gA : Option Addr
  gc : Nat
abbrev cuCells (x : Cl) (p : CuPl) : List Value := [.int .i64 x.head.kind, .string x.head.name, .int .i64 x.head.n, .slice p.A x.head.args.length p.ac, .slice p.bA x.body.length p.bc, .slice p.gA x.guards.length p.gc]
structure CuAt (w : World) (x : Cl) (p : CuPl) : Prop where
  head : TmAt w x.head p.A p.ac
  body : TmsAt w x.body p.bA
  guards : GusAt w x.guards p.gA
  cb : x.body.length ≤ p.bc
  cg : x.guards.length ≤ p.gc
  lb : x.body.length * 56 ≤ 140737488351232
  lg : x.guards.length * 120 ≤ 140737488351232
theorem CuAt.ext {w w' : World} {x : Cl} {p : CuPl} (h : CuAt w x p) (k : Ext w w') : CuAt w' x p := ⟨h.head.ext k, h.body.ext k, h.guards.ext k, h.cb, h.cg, h.lb, h.lg⟩
abbrev CusAt (w : World) (xs : List Cl) (A : Option Addr) : Prop := RowA cuCells (CuAt w) 6 w xs A
theorem CusAt.ext {w w' : World} {xs : List Cl} {A : Option Addr} (h : CusAt w xs A) (k : Ext w w') : CusAt w' xs A := RowA.mono h k fun _ _ h => h.ext k

/-- rules -/
structure RuPl where
  A : Option Addr
  ac : Nat
  pl : PaPl
  gA : Option Addr
  gc : Nat
abbrev ruCells (x : Rl) (p : RuPl) : List Value := [.int .i64 x.head.kind, .string x.head.name, .int .i64 x.head.n, .slice p.A x.head.args.length p.ac,
  .int .i64 x.body.kind, .int .i64 x.body.tm.kind, .string x.body.tm.name, .int .i64 x.body.tm.n, .slice p.pl.A x.body.tm.args.length p.pl.ac, .int .i64 x.body.rel, .slice p.pl.L x.body.l.length p.pl.lc, .slice p.pl.R x.body.r.length p.pl.rc, .slice p.pl.C x.body.c.length p.pl.cc,
  .slice p.gA x.guards.length p.gc, .int .i64 x.within, .int .i64 x.policy]
structure RuAt (w : World) (x : Rl) (p : RuPl) : Prop where
  head : TmAt w x.head p.A p.ac
  body : PaAt w x.body p.pl
  guards : GusAt w x.guards p.gA
  cg : x.guards.length ≤ p.gc
  lg : x.guards.length * 120 ≤ 140737488351232
  within : (Lit.int .i64 x.within).wf = true
  policy : (Lit.int .i64 x.policy).wf = true
theorem RuAt.ext {w w' : World} {x : Rl} {p : RuPl} (h : RuAt w x p) (k : Ext w w') : RuAt w' x p := ⟨h.head.ext k, h.body.ext k, h.guards.ext k, h.cg, h.lg, h.within, h.policy⟩
abbrev RusAt (w : World) (xs : List Rl) (A : Option Addr) : Prop := RowA ruCells (RuAt w) 16 w xs A
theorem RusAt.ext {w w' : World} {xs : List Rl} {A : Option Addr} (h : RusAt w xs A) (k : Ext w w') : RusAt w' xs A := RowA.mono h k fun _ _ h => h.ext k

/-- programs -/
structure PuPl where
  A : Option Addr
  ac : Nat
  B : Option Addr
  bc : Nat
structure PuAt (w : World) (x : Pr) (p : PuPl) : Prop where
  cls : CusAt w x.clauses p.A
  rls : RusAt w x.rules p.B
  cc : x.clauses.length ≤ p.ac
  cr : x.rules.length ≤ p.bc
  lc : x.clauses.length * 104 ≤ 140737488351232
  lr : x.rules.length * 240 ≤ 140737488351232
theorem PuAt.ext {w w' : World} {x : Pr} {p : PuPl} (h : PuAt w x p) (k : Ext w w') : PuAt w' x p := ⟨h.cls.ext k, h.rls.ext k, h.cc, h.cr, h.lc, h.lr⟩
end Go.Proofs.Ythmpolifgngdiaa

/- What comes in, opened: patterns, guards, clauses, rules, programs. -/
namespace Go.Proofs.Ythmpolifgngdiaa
open Go.RowKit Go.ChangeShapes Go.WideShapes

theorem cellsGu : Try.prog.cellsOf 65 = 9 := by kernel_rfl
theorem bytesGu : Try.prog.bytesOf 65 = 120 := by kernel_rfl
theorem cellsGus : Try.prog.cellsOf 27 = 1 := by kernel_rfl
theorem cellsCu : Try.prog.cellsOf 78 = 6 := by kernel_rfl
theorem bytesCu : Try.prog.bytesOf 78 = 104 := by kernel_rfl
section
variable {H : Type} {enc : TypeId × Value → H} {w : World} {base : Nat} {spare : Nat → Bool} {held : Bool}

/-- a slice of things of k cells, if each that can be read at less fuel is opened -/
theorem open_row {X P : Type} {st et : TypeId} {k bts : Nat} {cells : X → P → List Value} {In : X → P → Prop} (hst : Try.prog.underlying st = some (.slice et)) (hc : Try.prog.cellsOf et = k) (hb : Try.prog.bytesOf et = bts) (hk : 0 < k) (hcl : ∀ x p, (cells x p).length = k)
    (fuel : Nat) (ih : ∀ m, m < fuel → ∀ (cs : List Value) (x : DataW H × List MemPlace), DataW.trod enc Try.prog w base spare held m et cs = some x → Sized et x.1 → ∃ (y : X) (p : P), cs = cells y p ∧ In y p)
    {cs : List Value} {x : DataW H × List MemPlace} (h : DataW.trod enc Try.prog w base spare held fuel st cs = some x) (hz : Sized st x.1) :
    ∃ (xs : List X) (A : Option Addr) (c : Nat), cs = [.slice A xs.length c] ∧ xs.length ≤ c ∧ xs.length * bts ≤ 140737488351232 ∧ RowA cells In k w xs A := by
  rcases DataW.trod_slice hst h with ⟨rfl, rfl⟩ | ⟨a, len, cap, elems, rest, n, rfl, rfl, rfl, hbb, hl, hm, hlen, hel, _, _⟩
  · exact ⟨[], none, 0, rfl, Nat.le_refl _, by simp, RowA.nil⟩
  · have hsz : (elems.length + rest.length) * bts ≤ 140737488351232 := by
      have := hz ((elems.length + rest.length) * bts) (by simp only [DataW.weights, hst, hb, List.length_map]; exact List.mem_cons_self ..)
      rwa [reach_eq] at this
    have each : ∀ i : Fin len, ∃ y : X × P, (∀ j, j < k → w.cell? ((a.add (i.1 * k)).add j) = (cells y.1 y.2)[j]?) ∧ In y.1 y.2 := by
      intro i
      have h1 := hel i.1 i.2
      rw [hc] at h1
      have hi2 : i.1 < elems.length := by have := i.2; omega
      rw [List.getElem?_eq_getElem hi2] at h1
      obtain ⟨cs', hc', ht⟩ := Option.bind_eq_some_iff.1 h1
      obtain ⟨_, hcl', hat⟩ := World.cells?_some hc'
      have hzi : Sized et elems[i.1].1 := fun m hm => hz m (by
        simp only [DataW.weights, hst, List.mem_cons, List.mem_append]
        exact .inr (.inl (weightsAll_mem (List.mem_map.2 ⟨_, List.getElem_mem hi2, rfl⟩) m hm)))
      obtain ⟨y, p, rfl, hI⟩ := ih n (by omega) cs' _ ht hzi
      exact ⟨(y, p), hat, hI⟩
    obtain ⟨f, hf⟩ : ∃ f : Fin len → X × P, ∀ i, (∀ j, j < k → w.cell? ((a.add (i.1 * k)).add j) = (cells (f i).1 (f i).2)[j]?) ∧ In (f i).1 (f i).2 := ⟨fun i => Classical.choose (each i), fun i => Classical.choose_spec (each i)⟩
    clear each
    have hlm : (List.ofFn fun i => (f i).1).length = len := List.length_ofFn
    refine ⟨List.ofFn fun i => (f i).1, some a, cap, by rw [hlm], by rw [hlm]; exact hl, by rw [hlm]; exact Nat.le_trans (Nat.mul_le_mul_right _ (by omega)) hsz, fun i hi => ?_⟩
    have hi' : i < len := by omega
    have e0 := hf ⟨i, hi'⟩
    have ea : a = ⟨a.block, a.off, none⟩ := by
      have := (hf ⟨0, by omega⟩).1 0 hk
      simp only [Nat.zero_mul, Addr.add, if_true] at this
      have hl0 : 0 < (cells (f ⟨0, by omega⟩).1 (f ⟨0, by omega⟩).2).length := by rw [hcl]; exact hk
      rw [List.getElem?_eq_getElem hl0] at this
      exact spot_none this
    refine ⟨a.block, a.off, (f ⟨i, hi'⟩).2, by rw [← ea], fun j u hu => ?_, by rw [List.getElem_ofFn]; exact e0.2⟩
    rw [List.getElem_ofFn] at hu
    have hj : j < k := by
      obtain ⟨h1, _⟩ := List.getElem?_eq_some_iff.1 hu
      rw [hcl] at h1
      exact h1
    have := e0.1 j hj
    rw [ea, add_addr, add_addr] at this
    rw [this]; exact hu

theorem list6' {α : Type} {l : List α} (h : l.length = 6) : ∃ a b c d e f, l = [a, b, c, d, e, f] := by
  match l, h with
  | [a, b, c, d, e, f], _ => exact ⟨a, b, c, d, e, f, rfl⟩
theorem list9 {α : Type} {l : List α} (h : l.length = 9) : ∃ a b c d e f g i j, l = [a, b, c, d, e, f, g, i, j] := by
  match l, h with
  | [a, b, c, d, e, f, g, i, j], _ => exact ⟨a, b, c, d, e, f, g, i, j, rfl⟩
theorem list3 {α : Type} {l : List α} (h : l.length = 3) : ∃ a b c, l = [a, b, c] := by
  match l, h with
  | [a, b, c], _ => exact ⟨a, b, c, rfl⟩
theorem open_gu (n0 : Nat) (cs : List Value) (x : DataW H × List MemPlace) (h : DataW.trod enc Try.prog w base spare held n0 65 cs = some x) (hz : Sized 65 x.1) : ∃ (y : Gd) (p : GuPl), cs = guCells y p ∧ GuAt w y p := by
  obtain ⟨xs, n, rfl, hx, hlen, hxl, hf⟩ := DataW.trod_struct Try.underlying65 h
  rw [cellsGu] at hlen
  have hxl' : xs.length = 3 := hxl
  clear hxl
  obtain ⟨y0, y1, y2, rfl⟩ := list3 hxl'
  obtain ⟨c0, c1, c2, c3, c4, c5, c6, c7, c8, rfl⟩ := list9 hlen
  have f0 : DataW.trod enc Try.prog w base spare held n 3 (([c0, c1, c2, c3, c4, c5, c6, c7, c8].drop 0).take (Try.prog.cellsOf 3)) = some y0 := hf 0 _ rfl
  rw [cellsInt] at f0
  have f0' : DataW.trod enc Try.prog w base spare held n 3 [c0] = some y0 := f0
  clear f0
  have f1 : DataW.trod enc Try.prog w base spare held n 32 (([c0, c1, c2, c3, c4, c5, c6, c7, c8].drop 1).take (Try.prog.cellsOf 32)) = some y1 := hf 1 _ rfl
  rw [cellsTm] at f1
  have f1' : DataW.trod enc Try.prog w base spare held n 32 [c1, c2, c3, c4] = some y1 := f1
  clear f1
  have f2 : DataW.trod enc Try.prog w base spare held n 32 (([c0, c1, c2, c3, c4, c5, c6, c7, c8].drop 5).take (Try.prog.cellsOf 32)) = some y2 := hf 2 _ rfl
  rw [cellsTm] at f2
  have f2' : DataW.trod enc Try.prog w base spare held n 32 [c5, c6, c7, c8] = some y2 := f2
  clear f2
  clear hf
  obtain ⟨kd, e0, rfl, wf0⟩ := DataW.trod_int Try.underlying3 f0'
  simp only [List.map_cons, List.map_nil] at hx
  have hw : x.1 = .agg [.lit (.int .i64 kd), y1.1, y2.1] := by rw [hx]
  have hsub : ∀ (t : TypeId) (d : DataW H), (t, d) ∈ [(32, y1.1), (32, y2.1)] → Sized t d := fun t d hm q hq => hz q (by
    rw [hw]
    simp only [List.mem_cons, Prod.mk.injEq, List.not_mem_nil, or_false] at hm
    rcases hm with ⟨rfl, rfl⟩ | ⟨rfl, rfl⟩ <;> simp [DataW.weights, DataW.weightsEach, Try.underlying65, hq])
  obtain ⟨l, lA, lc, e1, h1⟩ := open_tm n _ _ f1' (hsub _ _ (by simp))
  simp only [List.cons.injEq, and_true] at e1
  obtain ⟨g1_0, g1_1, g1_2, g1_3⟩ := e1
  obtain ⟨r, rA, rc, e2, h2⟩ := open_tm n _ _ f2' (hsub _ _ (by simp))
  simp only [List.cons.injEq, and_true] at e2
  obtain ⟨g2_0, g2_1, g2_2, g2_3⟩ := e2
  injection e0 with e0
  subst e0 g1_0 g1_1 g1_2 g1_3 g2_0 g2_1 g2_2 g2_3
  exact ⟨⟨kd, l, r⟩, ⟨lA, lc, rA, rc⟩, rfl, ⟨h1, h2, wf0⟩⟩
theorem open_gus {n : Nat} {cs : List Value} {x : DataW H × List MemPlace} (h : DataW.trod enc Try.prog w base spare held n 27 cs = some x) (hz : Sized 27 x.1) :
    ∃ (xs : List Gd) (A : Option Addr) (c : Nat), cs = [.slice A xs.length c] ∧ xs.length ≤ c ∧ xs.length * 120 ≤ 140737488351232 ∧ RowA guCells (GuAt w) 9 w xs A :=
  open_row Try.underlying27 cellsGu bytesGu (by decide) (fun _ _ => rfl) n (fun m _ cs y h hz => open_gu m cs y h hz) h hz
theorem open_cu (n0 : Nat) (cs : List Value) (x : DataW H × List MemPlace) (h : DataW.trod enc Try.prog w base spare held n0 78 cs = some x) (hz : Sized 78 x.1) : ∃ (y : Cl) (p : CuPl), cs = cuCells y p ∧ CuAt w y p := by
  obtain ⟨xs, n, rfl, hx, hlen, hxl, hf⟩ := DataW.trod_struct Try.underlying78 h
  rw [cellsCu] at hlen
  have hxl' : xs.length = 3 := hxl
  clear hxl
  obtain ⟨y0, y1, y2, rfl⟩ := list3 hxl'
  obtain ⟨c0, c1, c2, c3, c4, c5, rfl⟩ := list6' hlen
  have f0 : DataW.trod enc Try.prog w base spare held n 32 (([c0, c1, c2, c3, c4, c5].drop 0).take (Try.prog.cellsOf 32)) = some y0 := hf 0 _ rfl
  rw [cellsTm] at f0
  have f0' : DataW.trod enc Try.prog w base spare held n 32 [c0, c1, c2, c3] = some y0 := f0
  clear f0
  have f1 : DataW.trod enc Try.prog w base spare held n 23 (([c0, c1, c2, c3, c4, c5].drop 4).take (Try.prog.cellsOf 23)) = some y1 := hf 1 _ rfl
  rw [cellsTms] at f1
  have f1' : DataW.trod enc Try.prog w base spare held n 23 [c4] = some y1 := f1
  clear f1
  have f2 : DataW.trod enc Try.prog w base spare held n 27 (([c0, c1, c2, c3, c4, c5].drop 5).take (Try.prog.cellsOf 27)) = some y2 := hf 2 _ rfl
  rw [cellsGus] at f2
  have f2' : DataW.trod enc Try.prog w base spare held n 27 [c5] = some y2 := f2
  clear f2
  clear hf
  simp only [List.map_cons, List.map_nil] at hx
  have hw : x.1 = .agg [y0.1, y1.1, y2.1] := by rw [hx]
  have hsub : ∀ (t : TypeId) (d : DataW H), (t, d) ∈ [(32, y0.1), (23, y1.1), (27, y2.1)] → Sized t d := fun t d hm q hq => hz q (by
    rw [hw]
    simp only [List.mem_cons, Prod.mk.injEq, List.not_mem_nil, or_false] at hm
    rcases hm with ⟨rfl, rfl⟩ | ⟨rfl, rfl⟩ | ⟨rfl, rfl⟩ <;> simp [DataW.weights, DataW.weightsEach, Try.underlying78, hq])
  obtain ⟨hd, hdA, hdc, e0, h0⟩ := open_tm n _ _ f0' (hsub _ _ (by simp))
  simp only [List.cons.injEq, and_true] at e0
  obtain ⟨g0_0, g0_1, g0_2, g0_3⟩ := e0
  obtain ⟨bd, bdA, bdc, e1, h1c, h1l, h1⟩ := open_tms f1' (hsub _ _ (by simp))
  obtain ⟨gs, gsA, gsc, e2, h2c, h2l, h2⟩ := open_gus f2' (hsub _ _ (by simp))
  injection e1 with e1
  injection e2 with e2
  subst e1 e2 g0_0 g0_1 g0_2 g0_3
  exact ⟨⟨hd, bd, gs⟩, ⟨hdA, hdc, bdA, bdc, gsA, gsc⟩, rfl, ⟨h0, h1, h2, h1c, h2c, h1l, h2l⟩⟩
theorem open_cus {n : Nat} {cs : List Value} {x : DataW H × List MemPlace} (h : DataW.trod enc Try.prog w base spare held n 22 cs = some x) (hz : Sized 22 x.1) :
    ∃ (xs : List Cl) (A : Option Addr) (c : Nat), cs = [.slice A xs.length c] ∧ xs.length ≤ c ∧ xs.length * 104 ≤ 140737488351232 ∧ RowA cuCells (CuAt w) 6 w xs A :=
  open_row Try.underlying22 cellsCu bytesCu (by decide) (fun _ _ => rfl) n (fun m _ cs y h hz => open_cu m cs y h hz) h hz
end
end Go.Proofs.Ythmpolifgngdiaa
