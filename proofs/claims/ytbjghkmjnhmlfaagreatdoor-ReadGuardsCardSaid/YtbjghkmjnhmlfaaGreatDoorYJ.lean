/- Joined: Paw, Pax, Pay. -/
import Derived.Test.YtbjghkmjnhmlfaaGreatDoorYI
import Derived.Test.YtbjghkmjnhmlfaaGreatDoorYH
import Derived.Deep.RegionWith
import Derived.Deep.DeepCutAuto

/- Package read: patterns: nine cells; put, chain. -/
namespace Go.Proofs.YtbjghkmjnhmlfaaGreatDoor
open Go.RowKit

/-! nine cells of a block -/
theorem setCells_size {w : World} {b : Nat} (vs : List Value) : ∀ (o : Nat) (u : World), u.heap.size = w.heap.size → (u.setCells b o vs).heap.size = w.heap.size := by
  induction vs with
  | nil => intro o u h; exact h
  | cons v r ih => intro o u h; exact ih (o + 1) _ (by simpa using h)
theorem setCells_block {b k : Nat} (hk : k ≠ b) (vs : List Value) : ∀ (o : Nat) (u : World), (u.setCells b o vs).heap[k]? = u.heap[k]? := by
  induction vs with
  | nil => intro o u; rfl
  | cons v r ih => intro o u; exact (ih (o + 1) _).trans (Below.heap_setCell _ _ _ _ hk)
theorem setCells_chg (w : World) (b : Nat) (vs : List Value) : ∀ (o : Nat) (u : World), Chg (· = b) w u → Chg (· = b) w (u.setCells b o vs) := by
  induction vs with
  | nil => intro o u h; exact h
  | cons v r ih => intro o u h; exact ih (o + 1) _ (h.setg o v)
structure Box9 (w : World) (g : Nat) (cs : List Value) : Prop where
  len : cs.length = 9
  range : w.rangeAt g 0 cs
  thr : w.there g 0 9
theorem Box9.lt {w : World} {g : Nat} {cs : List Value} (h : Box9 w g cs) : g < w.heap.size := by
  have h0 := h.range 0 (cs[0]'(by rw [h.len]; omega)) (List.getElem?_eq_getElem _)
  exact World.block_lt_of_cell? w _ h0
theorem Box9.same {w w' : World} {g : Nat} {cs : List Value} (h : Box9 w g cs) (e : w'.heap[g]? = w.heap[g]?) : Box9 w' g cs :=
  ⟨h.len, fun j v hj => (World.cell?_of_block (w := w) e).trans (h.range j v hj), fun j hj => ⟨by rw [World.cell?_of_block (w := w) e]; exact (h.thr j hj).1, (World.frozen?_of_block (w := w) e).trans (h.thr j hj).2⟩⟩
theorem Box9.ext {w w' : World} {g : Nat} {cs : List Value} (h : Box9 w g cs) (k : Ext w w') : Box9 w' g cs := h.same (k.block g h.lt)
theorem Box9.chg {w w' : World} {F : Nat → Prop} {g : Nat} {cs : List Value} (h : Box9 w g cs) (k : Chg F w w') (hF : ¬ F g) : Box9 w' g cs := h.same (k.block g h.lt hF)
theorem Box9.new (w : World) (cs : Array Value) (t : TypeId) (hl : cs.size = 9) : Box9 (w.alloc (.cells cs t)) w.heap.size cs.toList := by
  have hh := heap_alloc_new w (.cells cs t)
  refine ⟨by simpa using hl, fun j v hj => ?_, fun j hj => ⟨?_, ?_⟩⟩
  · rw [Nat.zero_add]
    simp only [World.cell?, hh]
    rw [← hj, Array.getElem?_toList]
    rfl
  · rw [Nat.zero_add]
    simp only [World.cell?, hh]
    simp [hl, hj]
  · rw [Nat.zero_add]
    go_simp
theorem Box9.cell {w : World} {g : Nat} {cs : List Value} (h : Box9 w g cs) (j : Nat) {v : Value} (hj : cs[j]? = some v) : w.cell? ⟨g, j, none⟩ = some v := by have := h.range j v hj; rwa [Nat.zero_add] at this
theorem Box9.fz {w : World} {g : Nat} {cs : List Value} (h : Box9 w g cs) (j : Nat) (hj : j < 9) : w.frozen? ⟨g, j, none⟩ = false := by have := (h.thr j hj).2; rwa [Nat.zero_add] at this
theorem Box9.get {w : World} {g : Nat} {c0 c1 c2 c3 c4 c5 c6 c7 c8 : Value} (h : Box9 w g [c0, c1, c2, c3, c4, c5, c6, c7, c8]) :
    w.cell? ⟨g, 0, none⟩ = some c0 ∧ w.cell? ⟨g, 1, none⟩ = some c1 ∧ w.cell? ⟨g, 2, none⟩ = some c2 ∧ w.cell? ⟨g, 3, none⟩ = some c3 ∧ w.cell? ⟨g, 4, none⟩ = some c4 ∧ w.cell? ⟨g, 5, none⟩ = some c5 ∧ w.cell? ⟨g, 6, none⟩ = some c6 ∧ w.cell? ⟨g, 7, none⟩ = some c7 ∧ w.cell? ⟨g, 8, none⟩ = some c8 :=
  ⟨h.cell 0 rfl, h.cell 1 rfl, h.cell 2 rfl, h.cell 3 rfl, h.cell 4 rfl, h.cell 5 rfl, h.cell 6 rfl, h.cell 7 rfl, h.cell 8 rfl⟩
theorem Box9.fzs {w : World} {g : Nat} {cs : List Value} (h : Box9 w g cs) : w.frozen? ⟨g, 0, none⟩ = false ∧ w.frozen? ⟨g, 1, none⟩ = false ∧ w.frozen? ⟨g, 2, none⟩ = false ∧ w.frozen? ⟨g, 3, none⟩ = false ∧ w.frozen? ⟨g, 4, none⟩ = false ∧ w.frozen? ⟨g, 5, none⟩ = false ∧ w.frozen? ⟨g, 6, none⟩ = false ∧ w.frozen? ⟨g, 7, none⟩ = false ∧ w.frozen? ⟨g, 8, none⟩ = false :=
  ⟨h.fz 0 (by omega), h.fz 1 (by omega), h.fz 2 (by omega), h.fz 3 (by omega), h.fz 4 (by omega), h.fz 5 (by omega), h.fz 6 (by omega), h.fz 7 (by omega), h.fz 8 (by omega)⟩
/-- all of them written -/
theorem Box9.set {w : World} {g : Nat} {cs : List Value} (h : Box9 w g cs) (vs : List Value) (hl : vs.length = 9) : Box9 (w.setCells g 0 vs) g vs := by
  have ht : w.there g 0 vs.length := by rw [hl]; exact h.thr
  refine ⟨hl, World.rangeAt_setCells_same _ _ _ _ ht, ?_⟩
  have key : ∀ (vs : List Value) (o : Nat) (u : World), u.there g 0 9 → (u.setCells g o vs).there g 0 9 := by
    intro vs
    induction vs with
    | nil => intro o u h; exact h
    | cons v r ih =>
      intro o u hu
      refine ih (o + 1) _ fun j hj => ?_
      obtain ⟨h1, h2⟩ := hu j hj
      refine ⟨?_, by simpa using h2⟩
      by_cases e : o = 0 + j
      · subst e
        rw [World.cell?_setCell_same' _ _ _ h1]
        rfl
      · rw [World.cell?_setCell_other _ _ _ _ (fun x => by injection x with _ x; exact e x)]
        exact h1
  exact key vs 0 w h.thr
/-- one of them written -/
theorem Box9.set1 {w : World} {g : Nat} {cs : List Value} (h : Box9 w g cs) (j : Nat) (v : Value) (hj : j < 9) : Box9 (w.setCell ⟨g, j, none⟩ v) g (cs.set j v) := by
  refine ⟨by simpa using h.len, fun k u hk => ?_, fun k hk => ?_⟩
  · rw [Nat.zero_add]
    rw [List.getElem?_set] at hk
    by_cases e : j = k
    · subst e
      rw [if_pos rfl, if_pos (by rw [h.len]; exact hj)] at hk
      rw [World.cell?_setCell_same' _ _ _ (by have := (h.thr j hj).1; rwa [Nat.zero_add] at this)]
      exact hk
    · rw [if_neg e] at hk
      rw [World.cell?_setCell_other _ _ _ _ (fun x => by injection x with _ x; exact e x)]
      exact h.cell k hk
  · obtain ⟨h1, h2⟩ := h.thr k hk
    refine ⟨?_, by simpa using h2⟩
    by_cases e : j = 0 + k
    · subst e
      rw [World.cell?_setCell_same' _ _ _ h1]
      rfl
    · rw [World.cell?_setCell_other _ _ _ _ (fun x => by injection x with _ x; exact e x)]
      exact h1

/-! what reading a pattern comes to -/
def Sh9 (cs : List Value) : Prop := ∃ k0 k1 s2 k3 A4 l4 d4 k5 A6 l6 d6 A7 l7 d7 A8 l8 d8, cs = [.int .i64 k0, .int .i64 k1, .string s2, .int .i64 k3, .slice A4 l4 d4, .int .i64 k5, .slice A6 l6 d6, .slice A7 l7 d7, .slice A8 l8 d8]
def PtOut (w : World) (g : Nat) (K : RdP) (T : List Tok) (b : Nat) (F : Rs Pt) (e : Ending) (w' : World) : Prop := Chg (· = g) w w' ∧
  match F with
  | .ok (p, j) => ∃ a, e = .returned (.tuple #[p.val a, .bool true]) ∧ PtIn w' (New w w') p a ∧ RdAt w' g K T j b
  | .error (a, x) => (∃ cs, Sh9 cs ∧ e = .returned (.tuple #[.agg cs.toArray, .bool false])) ∧ RdErr w' g a x
/-- what function f comes to -/
def PartTo (f : FuncId) (T : List Tok) (b : Nat) (F : Nat → Rs Pt) : Prop := ∀ (w : World) (g : Nat) (K : RdP) (i : Nat), RdAt w g K T i b → i < T.length → BitOk w g →
  Calls Tryz.prog f #[.pointer (some ⟨g, 0, none⟩)] w (PtOut w g K T b (F i))
def PutOut (w : World) (g p o : Nat) (K : RdP) (T : List Tok) (b : Nat) (cs : List Value) (F : Rs Pt) (e : Ending) (w' : World) : Prop := Chg (fun x => x = g ∨ x = p) w w' ∧
  match F with
  | .ok (q, j) => e = .returned (.bool true) ∧ RdAt w' g K T j b ∧ ∃ m a, New w w' m ∧ PtIn w' (New w w') q a ∧ (∀ k (hk : k < 9), w'.cell? ⟨m, k, none⟩ = some ((q.cells a)[k]'hk)) ∧ Box9 w' p (cs.set o (.slice (some ⟨m, 0, none⟩) 1 1))
  | .error (a, x) => e = .returned (.bool false) ∧ RdErr w' g a x ∧ ∃ m, Box9 w' p (cs.set o (.slice (some ⟨m, 0, none⟩) 1 1))
/-- where a pattern's cells lie alone, a list of it -/
theorem prow_one {w : World} {F : Nat → Prop} {m : Nat} {p : Pt} {a : PtPl} (hF : F m) (hc : ∀ k (hk : k < 9), w.cell? ⟨m, k, none⟩ = some ((p.cells a)[k]'hk)) : PRow w F [p] (some ⟨m, 0, none⟩) (fun _ => a) := by
  intro i hi
  obtain rfl : i = 0 := by simpa using hi
  exact ⟨m, rfl, hF, fun j hj => by rw [Nat.zero_mul, Nat.zero_add]; exact hc j hj⟩
theorem sh_val {cs : List Value} (h : Sh9 cs) : cs.length = 9 := by obtain ⟨_, _, _, _, _, _, _, _, _, _, _, _, _, _, _, _, _, rfl⟩ := h; rfl

theorem put_world {w1 wf : World} {p o : Nat} {cs : List Value} (hb : Box9 w1 p cs) (ho : o < 9) (vs : Array Value) (hv : vs.size = 9)
    (hwf : wf = ((w1.setCell ⟨p, o, none⟩ (.slice (some ⟨w1.heap.size + 1, 0, none⟩) 1 1)).alloc (.cells vs 63)).alloc (.cells vs 63)) :
    Box9 wf p (cs.set o (.slice (some ⟨w1.heap.size + 1, 0, none⟩) 1 1)) ∧ Chg (· = p) w1 wf ∧ Box9 wf (w1.heap.size + 1) vs.toList ∧ w1.heap.size + 2 ≤ wf.heap.size := by
  subst hwf
  have hs : ((w1.setCell ⟨p, o, none⟩ (.slice (some ⟨w1.heap.size + 1, 0, none⟩) 1 1)).alloc (.cells vs 63)).heap.size = w1.heap.size + 1 := by simp
  have h2 := Box9.new ((w1.setCell ⟨p, o, none⟩ (.slice (some ⟨w1.heap.size + 1, 0, none⟩) 1 1)).alloc (.cells vs 63)) vs 63 hv
  rw [hs] at h2
  exact ⟨((hb.set1 o _ ho).ext ((Ext.refl _).alloc _)).ext ((Ext.refl _).alloc _), (((Chg.refl _ w1).setg o _).trans (Chg.of_ext ((Ext.refl _).alloc _))).trans (Chg.of_ext ((Ext.refl _).alloc _)), h2, by simp⟩
set_option maxRecDepth 100000 in
set_option maxHeartbeats 2000000 in
theorem put_rd (f : FuncId) (hE : ∀ args w, (callFunc f args).run Tryz.prog w = .ok (.enter f args) w) (T : List Tok) (b : Nat) (F : Nat → Rs Pt) (hP : PartTo f T b F) (w : World) (g p o : Nat) (K : RdP) (i : Nat) (cs : List Value) (ho : o < 9)
    (h : RdAt w g K T i b) (hi : i < T.length) (hT0 : 0 < T.length) (hpg : p ≠ g) (hpA : p ≠ K.A) (hpR : p ≠ K.R) (hb : Box9 w p cs) (hbo : BitOk w g) :
    Calls Tryz.prog 112 #[.pointer (some ⟨p, o, none⟩), .func (Fn.func f) #[.pointer (some ⟨g, 0, none⟩)] #[]] w (PutOut w g p o K T b cs (F i)) := by
  have hgl := h.lt
  have hpl := hb.lt
  have hlo := h.low hT0
  have KP := Lib.hid (hP w g K i h hi hbo)
  clear h
  go_enter Tryz.func112, Tryz.ntmps112
  go_wp2_with fail
  refine KP.out.mono ?_
  rintro e w1 ⟨hC1, ho1⟩
  have hb1 := hb.chg hC1 hpg
  have hs1 := hC1.size
  have hC1' : Chg (fun x => x = g ∨ x = p) w w1 := hC1.weak fun _ e => .inl e
  match hF : F i with
  | .error (a, x) =>
    rw [hF] at ho1
    have HF := Lib.hid hF
    obtain ⟨⟨vs, hvs, rfl⟩, hE1⟩ := ho1
    obtain ⟨k0, k1, s2, k3, A4, l4, d4, k5, A6, l6, d6, A7, l7, d7, A8, l8, d8, rfl⟩ := hvs
    obtain ⟨v0, hbo⟩ : ∃ v0, w1.cell? ⟨p, o, none⟩ = some v0 := ⟨_, hb1.cell o (List.getElem?_eq_getElem (by rw [hb1.len]; exact ho))⟩
    have hfo := hb1.fz o ho
    have hpl1 := hb1.lt
    have HH := Lib.hid (And.intro hb1 hE1)
    have HC := Lib.hid hC1'
    clear hb1 hE1 hC1 hC1' KP hF hE hb
    go_wp2_with fail
    go_ret
    obtain ⟨w1', hw1'⟩ : ∃ u, u = ((w1.setCell ⟨p, o, none⟩ (.slice (some ⟨w1.heap.size + 1, 0, none⟩) 1 1)).alloc (.cells #[.int .i64 k0, .int .i64 k1, .string s2, .int .i64 k3, .slice A4 l4 d4, .int .i64 k5, .slice A6 l6 d6, .slice A7 l7 d7, .slice A8 l8 d8] 63)).alloc (.cells #[.int .i64 k0, .int .i64 k1, .string s2, .int .i64 k3, .slice A4 l4 d4, .int .i64 k5, .slice A6 l6 d6, .slice A7 l7 d7, .slice A8 l8 d8] 63) := ⟨_, rfl⟩
    obtain ⟨b1, c1, _, _⟩ := put_world HH.out.1 ho _ rfl hw1'
    rw [← hw1', HF.out]
    exact ⟨HC.out.trans (c1.weak fun _ e => .inr e), rfl, HH.out.2.chg c1 (by omega), _, b1⟩
  | .ok (q, j) =>
    rw [hF] at ho1
    have HF := Lib.hid hF
    obtain ⟨a, rfl, hIn, hR1⟩ := ho1
    obtain ⟨v0, hbo⟩ : ∃ v0, w1.cell? ⟨p, o, none⟩ = some v0 := ⟨_, hb1.cell o (List.getElem?_eq_getElem (by rw [hb1.len]; exact ho))⟩
    have hfo := hb1.fz o ho
    have hpl1 := hb1.lt
    have HH := Lib.hid (And.intro hb1 (And.intro hIn hR1))
    have HC := Lib.hid hC1'
    clear hb1 hIn hR1 hC1 hC1' KP hF hE hb
    go_wp2_with fail
    go_ret
    obtain ⟨w1', hw1'⟩ : ∃ u, u = ((w1.setCell ⟨p, o, none⟩ (.slice (some ⟨w1.heap.size + 1, 0, none⟩) 1 1)).alloc (.cells (q.cells a).toArray 63)).alloc (.cells (q.cells a).toArray 63) := ⟨_, rfl⟩
    obtain ⟨b1, c1, b2, hs2⟩ := put_world HH.out.1 ho _ rfl hw1'
    rw [show ((w1.setCell ⟨p, o, none⟩ (.slice (some ⟨w1.heap.size + 1, 0, none⟩) 1 1)).alloc (.cells #[.int .i64 q.kind, .int .i64 q.tm.kind, .string q.tm.name, .int .i64 q.tm.n, .slice a.A q.tm.args.length a.ac, .int .i64 q.rel, .slice a.L q.l.length a.lc, .slice a.R q.r.length a.rc, .slice a.C q.c.length a.cc] 63)).alloc (.cells #[.int .i64 q.kind, .int .i64 q.tm.kind, .string q.tm.name, .int .i64 q.tm.n, .slice a.A q.tm.args.length a.ac, .int .i64 q.rel, .slice a.L q.l.length a.lc, .slice a.R q.r.length a.rc, .slice a.C q.c.length a.cc] 63) = w1' from hw1'.symm, HF.out]
    refine ⟨HC.out.trans (c1.weak fun _ e => .inr e), ?_⟩
    refine ⟨rfl, HH.out.2.2.chg c1 (fun x _ e => by subst e; exact ⟨hpg, hpA, hpR⟩), w1.heap.size + 1, a, ⟨by omega, by omega⟩, HH.out.2.1.step (fun x h1 h2 => c1.block x h2 (by omega)) (by omega), fun k hk => ?_, b1⟩
    exact b2.cell k (List.getElem?_eq_getElem _)
end Go.Proofs.YtbjghkmjnhmlfaaGreatDoor

/- Package read: patterns: chain. -/
namespace Go.Proofs.YtbjghkmjnhmlfaaGreatDoor
open Go.RowKit

abbrev zero9 : List Value := [.int .i64 0, .int .i64 0, .string ⟨#[]⟩, .int .i64 0, .slice none 0 0, .int .i64 0, .slice none 0 0, .slice none 0 0, .slice none 0 0]
/-- the result's nine cells laid: nothing else is turned -/
theorem pt_fin_ok {w wx w2 wf : World} {g : Nat} {K : RdP} {T : List Tok} {j b : Nat} {p : Pt} {a : PtPl} (hC : Chg (· = g) w w2) (hx : w.heap.size < wx.heap.size) (hR : RdAt w2 g K T j b) (hg : g < w.heap.size) (hlo : K.A < w.heap.size ∧ K.R < w.heap.size)
    (hIn : PtIn w2 (New wx w2) p a) {vs : List Value} (hwf : wf = w2.setCells w.heap.size 0 vs) {e : Ending} (he : e = .returned (.tuple #[p.val a, .bool true])) : PtOut w g K T b (.ok (p, j)) e wf := by
  subst hwf
  have hs := hC.size
  have hsz : (w2.setCells w.heap.size 0 vs).heap.size = w2.heap.size := setCells_size (w := w2) vs 0 w2 rfl
  have k := setCells_chg w2 w.heap.size vs 0 w2 (Chg.refl _ _)
  refine ⟨⟨k.os.trans hC.os, k.tape.trans hC.tape, k.output.trans hC.output, by rw [hsz]; exact hs, fun x hx' hf => ?_⟩, a, he, hIn.keep fun x hx' _ => ⟨setCells_block (by have := hx'.1; omega) vs 0 w2, by have := hx'.1; omega, by rw [hsz]; exact hx'.2⟩, hR.keep fun x _ e => setCells_block (by rcases e with e | e | e <;> omega) vs 0 w2⟩
  rw [setCells_block (by omega)]
  exact hC.block x hx' hf
theorem pt_fin_err {w w2 wf : World} {g : Nat} {K : RdP} {T : List Tok} {b : Nat} {a x : Int} (hC : Chg (· = g) w w2) (hE : RdErr w2 g a x) (hg : g < w.heap.size) {vs cs : List Value} (hwf : wf = w2.setCells w.heap.size 0 vs) (hs : Sh9 cs)
    {e : Ending} (he : e = .returned (.tuple #[.agg cs.toArray, .bool false])) : PtOut w g K T b (.error (a, x)) e wf := by
  subst hwf
  have hsz : (w2.setCells w.heap.size 0 vs).heap.size = w2.heap.size := setCells_size (w := w2) vs 0 w2 rfl
  have k := setCells_chg w2 w.heap.size vs 0 w2 (Chg.refl _ _)
  have kg : (w2.setCells w.heap.size 0 vs).heap[g]? = w2.heap[g]? := setCells_block (by omega) vs 0 w2
  refine ⟨⟨k.os.trans hC.os, k.tape.trans hC.tape, k.output.trans hC.output, by rw [hsz]; exact hC.size, fun x hx' hf => ?_⟩, ⟨cs, hs, he⟩, cell_same kg hE.c4, cell_same kg hE.c5⟩
  rw [setCells_block (by omega)]
  exact hC.block x hx' hf

theorem make_world {w3 w4 : World} {pb : Nat} {cs : List Value} (hb : Box9 w3 pb cs) (vs : List Value) (hv : vs.length = 9) (ps : Array Value) (hp : ps.size = 9) (hwf : w4 = (w3.setCells pb 0 vs).alloc (.cells ps 63)) :
    Box9 w4 pb vs ∧ Chg (· = pb) w3 w4 ∧ Box9 w4 w3.heap.size ps.toList ∧ w3.heap.size + 1 ≤ w4.heap.size := by
  subst hwf
  have hs : (w3.setCells pb 0 vs).heap.size = w3.heap.size := setCells_size (w := w3) vs 0 w3 rfl
  have h2 := Box9.new (w3.setCells pb 0 vs) ps 63 hp
  rw [hs] at h2
  exact ⟨(hb.set vs hv).ext ((Ext.refl _).alloc _), (setCells_chg w3 pb vs 0 w3 (Chg.refl _ _)).trans (Chg.of_ext ((Ext.refl _).alloc _)), h2, by simp [hs]⟩
/-- two parts made one pattern -/
theorem pt_join {w0 wr w3 w4 w5 : World} {g pb q m : Nat} {p p' : Pt} {a a' : PtPl} {kind rel : Int} (hk : (Lit.int .i64 kind).wf = true) (hr : (Lit.int .i64 rel).wf = true) (hg : g < w0.heap.size) (hpb : pb < wr.heap.size) (h0r : w0.heap.size ≤ wr.heap.size) (hIn : PtIn wr (fun b => New w0 wr b ∧ b ≠ pb) p a)
    (c3 : Chg (· = g) wr w3) (c4 : Chg (· = pb) w3 w4) (hq : q = w3.heap.size) (hq4 : Box9 w4 q (p.cells a)) (c5 : Chg (fun x => x = g ∨ x = pb) w4 w5) (hm : New w4 w5 m) (hIn' : PtIn w5 (New w4 w5) p' a')
    (hmc : ∀ k (hk : k < 9), w5.cell? ⟨m, k, none⟩ = some ((p'.cells a')[k]'hk)) :
    PtIn w5 (fun b => New w0 w5 b ∧ b ≠ pb) ⟨kind, noTm, rel, [p], [p'], []⟩ ⟨none, 0, some ⟨q, 0, none⟩, 1, some ⟨m, 0, none⟩, 1, none, 0⟩ := by
  have s3 := c3.size
  have s4 := c4.size
  have s5 := c5.size
  have hql := hq4.lt
  have hm1 := hm.1
  have hm2 := hm.2
  have hqb := hq4.chg c5 (by omega)
  refine .mk _ _ (fun _ => a) (fun _ => a') (fun _ => noPl) ⟨hk, hr, by simp, by simp, by simp⟩ ⟨by simp, by simp, by simp⟩ (noTm_in _ _ _)
    (prow_one ⟨⟨by omega, by omega⟩, by omega⟩ fun k hk => hqb.cell k (List.getElem?_eq_getElem _)) (prow_one ⟨⟨by omega, by omega⟩, by omega⟩ hmc) (fun i hi => absurd hi (by simp)) (fun i hi => ?_) (fun i hi => ?_) (fun i hi => absurd hi (by simp))
  · obtain rfl : i = 0 := by simpa using hi
    exact hIn.keep fun x hx _ => by
      have h1 := hx.1.1
      have h2 := hx.1.2
      have h3 := hx.2
      exact ⟨by rw [c5.block x (by omega) (by omega), c4.block x (by omega) h3, c3.block x (by omega) (by omega)], ⟨h1, by omega⟩, h3⟩
  · obtain rfl : i = 0 := by simpa using hi
    exact hIn'.keep fun x hx _ => ⟨rfl, ⟨by have := hx.1; omega, hx.2⟩, by have := hx.1; omega⟩
def flagM (m : Value) (n : Nat) : Nat := match m with
  | .bool true => n
  | _ => 0

set_option maxRecDepth 100000 in
set_option maxHeartbeats 8000000 in
theorem chain_rd (f : FuncId) (hE : ∀ args w, (callFunc f args).run Tryz.prog w = .ok (.enter f args) w) (T : List Tok) (hT : EndLast T) (b s : Nat) (kind : Int) (hs : 2 ^ s < 18446744073709551616) (h0 : s ≠ 0) (hk : (Lit.int .i64 kind).wf = true) (part : Nat → Rs Pt) (hP : PartTo f T b part) (hpt : Takes T part) (w : World) (g : Nat) (K : RdP) (i : Nat)
    (h : RdAt w g K T i b) (hi : i < T.length) (hbo : BitOk w g) :
    Calls Tryz.prog 97 #[.pointer (some ⟨g, 0, none⟩), .int .u64 ((2 ^ s : Nat) : Int), .int .i64 kind, .func (Fn.func f) #[.pointer (some ⟨g, 0, none⟩)] #[]] w (PtOut w g K T b (chain T s kind part i)) := by
  have hgl := h.lt
  have hlo := h.low hT.1
  obtain ⟨w0, hw0⟩ : ∃ w0, w0 = w.alloc (.cells #[.int .i64 0, .int .i64 0, .string ⟨#[]⟩, .int .i64 0, .slice none 0 0, .int .i64 0, .slice none 0 0, .slice none 0 0, .slice none 0 0] 63) := ⟨_, rfl⟩
  have hr0 : Box9 w0 w.heap.size zero9 := by rw [hw0]; exact Box9.new w _ _ rfl
  have hx0 : Ext w w0 := by rw [hw0]; exact (Ext.refl _).alloc _
  have HW0 := Lib.hid hw0
  clear hw0
  have hR0 := h.ext hx0
  have KP := Lib.hid (hP w0 g K i hR0 hi (hbo.ext hx0))
  have HBO := Lib.hid hbo
  clear hbo
  have hw0l : w.heap.size < w0.heap.size := hr0.lt
  obtain ⟨sg, hsg⟩ : ∃ sg, sg = 2 ^ s := ⟨_, rfl⟩
  rw [← hsg] at hs ⊢
  have HSG := Lib.hid hsg
  obtain ⟨F, hF⟩ : ∃ F, F = chain T s kind part i := ⟨_, rfl⟩
  have HF := Lib.hid hF.symm
  clear h hF hsg
  go_enter Tryz.func97, Tryz.ntmps97
  go_upto_region 1 with (fail)
  rw [← HW0.out]
  go_wp2_with fail
  refine KP.out.mono ?_
  rintro e w1 ⟨hC1, ho1⟩
  have hr1 := hr0.chg hC1 (by omega)
  have hCw : Chg (· = g) w w1 := (Chg.of_ext hx0).trans hC1
  match hpi : part i with
  | .error (a, x) =>
    rw [hpi] at ho1
    have HFE : Hid (chain T s kind part i = .error (a, x)) := Lib.hid (by unfold chain; rw [hpi])
    obtain ⟨⟨vs, hvs, rfl⟩, hE1⟩ := ho1
    obtain ⟨k0, k1, s2, k3, A4, l4, d4, k5, A6, l6, d6, A7, l7, d7, A8, l8, d8, rfl⟩ := hvs
    obtain ⟨w2, hw2⟩ : ∃ w2, w2 = w1.alloc (.cells #[.int .i64 k0, .int .i64 k1, .string s2, .int .i64 k3, .slice A4 l4 d4, .int .i64 k5, .slice A6 l6 d6, .slice A7 l7 d7, .slice A8 l8 d8] 63) := ⟨_, rfl⟩
    have hb2 : Box9 w2 w1.heap.size [.int .i64 k0, .int .i64 k1, .string s2, .int .i64 k3, .slice A4 l4 d4, .int .i64 k5, .slice A6 l6 d6, .slice A7 l7 d7, .slice A8 l8 d8] := by rw [hw2]; exact Box9.new w1 _ _ rfl
    have hx2 : Ext w1 w2 := by rw [hw2]; exact (Ext.refl _).alloc _
    have HW2 := Lib.hid hw2
    obtain ⟨x0, x1, x2, x3, x4, x5, x6, x7, x8⟩ := hb2.get
    obtain ⟨y0, y1, y2, y3, y4, y5, y6, y7, y8⟩ := (hr1.ext hx2).get
    obtain ⟨z0, z1, z2, z3, z4, z5, z6, z7, z8⟩ := (hr1.ext hx2).fzs
    have HC2 := Lib.hid (And.intro (hCw.trans (Chg.of_ext hx2)) (hE1.ext hx2))
    have hw12 : w.heap.size < w1.heap.size := hr1.lt
    clear hb2 hx2 hw2 hr1 hCw hE1 hC1 KP hr0 hx0 hR0 hpi hE
    go_upto_region 2 with (fail)
    rw [← HW2.out]
    go_loopw [11] (fun m wr => m = .bool false ∧ wr = w2) (fun _ _ => 0)
    case atStart => exact ⟨rfl, rfl⟩
    case round =>
      obtain ⟨rfl, rfl⟩ := hrel
      go_wp2_with fail
      refine bodyPost_ret (v := .tuple #[.agg #[.int .i64 k0, .int .i64 k1, .string s2, .int .i64 k3, .slice A4 l4 d4, .int .i64 k5, .slice A6 l6 d6, .slice A7 l7 d7, .slice A8 l8 d8], .bool false]) (by simp [results, Tryz.results97, go_sem, *]) rfl ?_
      rw [HFE.out]
      exact pt_fin_err HC2.out.1 HC2.out.2 hgl (vs := [.int .i64 k0, .int .i64 k1, .string s2, .int .i64 k3, .slice A4 l4 d4, .int .i64 k5, .slice A6 l6 d6, .slice A7 l7 d7, .slice A8 l8 d8]) rfl ⟨_, _, _, _, _, _, _, _, _, _, _, _, _, _, _, _, _, rfl⟩ rfl
  | .ok (p, j) =>
    rw [hpi] at ho1
    obtain ⟨a, rfl, hIn1, hR1⟩ := ho1
    have hjj := hpt i p j hpi
    have hFE : chainP T s kind part (T.length - j) p j = F := by rw [← HF.out]; unfold chain; rw [hpi]
    obtain ⟨w2, hw2⟩ : ∃ w2, w2 = w1.alloc (.cells #[.int .i64 p.kind, .int .i64 p.tm.kind, .string p.tm.name, .int .i64 p.tm.n, .slice a.A p.tm.args.length a.ac, .int .i64 p.rel, .slice a.L p.l.length a.lc, .slice a.R p.r.length a.rc, .slice a.C p.c.length a.cc] 63) := ⟨_, rfl⟩
    obtain ⟨pb, hpb⟩ : ∃ pb, pb = w1.heap.size := ⟨_, rfl⟩
    have hb2 : Box9 w2 pb (p.cells a) := by rw [hw2, hpb]; exact Box9.new w1 _ _ rfl
    have hx2 : Ext w1 w2 := by rw [hw2]; exact (Ext.refl _).alloc _
    have HW2 := Lib.hid hw2
    have HPB := Lib.hid hpb
    have hs1 := hC1.size
    have hr2 := hr1.ext hx2
    have hC2 := hCw.trans (Chg.of_ext hx2)
    have hIn2 : PtIn w2 (fun b => New w0 w2 b ∧ b ≠ pb) p a := hIn1.keep fun x hx _ => ⟨hx2.block x hx.2, ⟨hx.1, by have := hx.2; have := hx2.size; omega⟩, by have := hx.2; omega⟩
    have hR2 := hR1.ext hx2
    have hpl2 : pb < w2.heap.size := hb2.lt
    have h0pb : w0.heap.size ≤ pb := by omega
    have HST := Lib.hid (And.intro hFE (And.intro hR2 (And.intro hIn2 hb2)))
    clear hx2 hw2 hr1 hCw hC1 KP hr0 hx0 hR0 hpi hIn1 hR1 hFE hR2 hIn2 hb2 hpb
    go_upto_region 2 with (fail)
    rw [← HPB.out, ← HW2.out]
    go_loopw [11] (fun m wr => ∃ mb : Bool, m = .bool mb ∧ Box9 wr w.heap.size zero9 ∧ Chg (· = g) w wr ∧ w2.heap.size ≤ wr.heap.size ∧
        Hid (if mb = true then ∃ n p a j, T.length ≤ n + j ∧ j < T.length ∧ chainP T s kind part n p j = F ∧ RdAt wr g K T j b ∧ PtIn wr (fun b => New w0 wr b ∧ b ≠ pb) p a ∧ Box9 wr pb (p.cells a) else ∃ a x cs, F = Except.error (a, x) ∧ RdErr wr g a x ∧ Sh9 cs ∧ Box9 wr pb cs)) (fun m wr => flagM m (T.length + 1 - nxOf wr g))
    case atStart => exact ⟨true, rfl, hr2, hC2, Nat.le_refl _, Lib.hid (by rw [if_pos rfl]; exact ⟨_, p, a, j, by omega, hjj.2, HST.out.1, HST.out.2.1, HST.out.2.2.1, HST.out.2.2.2⟩)⟩
    case round =>
      obtain ⟨mb, rfl, hrr, hCr, hsr, HX⟩ := hrel
      clear HST hr2 hC2
      cases mb with
      | false =>
        obtain ⟨ea, ex, cs, hFe, hEr, hsh, hbr⟩ : ∃ a x cs, F = Except.error (a, x) ∧ RdErr wr g a x ∧ Sh9 cs ∧ Box9 wr pb cs := by have := HX.out; rw [if_neg (by simp)] at this; exact this
        obtain ⟨k0, k1, s2, k3, A4, l4, d4, k5, A6, l6, d6, A7, l7, d7, A8, l8, d8, rfl⟩ := hsh
        obtain ⟨x0, x1, x2, x3, x4, x5, x6, x7, x8⟩ := hbr.get
        obtain ⟨y0, y1, y2, y3, y4, y5, y6, y7, y8⟩ := hrr.get
        obtain ⟨z0, z1, z2, z3, z4, z5, z6, z7, z8⟩ := hrr.fzs
        have HFe := Lib.hid hFe
        have HEr := Lib.hid hEr
        clear hbr hrr HX hFe hEr
        go_wp2_with fail
        refine bodyPost_ret (v := .tuple #[.agg #[.int .i64 k0, .int .i64 k1, .string s2, .int .i64 k3, .slice A4 l4 d4, .int .i64 k5, .slice A6 l6 d6, .slice A7 l7 d7, .slice A8 l8 d8], .bool false]) (by simp [results, Tryz.results97, go_sem, *]) rfl ?_
        rw [HF.out, HFe.out]
        exact pt_fin_err hCr HEr.out hgl (vs := [.int .i64 k0, .int .i64 k1, .string s2, .int .i64 k3, .slice A4 l4 d4, .int .i64 k5, .slice A6 l6 d6, .slice A7 l7 d7, .slice A8 l8 d8]) rfl ⟨_, _, _, _, _, _, _, _, _, _, _, _, _, _, _, _, _, rfl⟩ rfl
      | true =>
        obtain ⟨n, q, qa, jj, hn, hjl, hFq, hRr, hInr, hbr⟩ : ∃ n p a j, T.length ≤ n + j ∧ j < T.length ∧ chainP T s kind part n p j = F ∧ RdAt wr g K T j b ∧ PtIn wr (fun b => New w0 wr b ∧ b ≠ pb) p a ∧ Box9 wr pb (p.cells a) := by have := HX.out; rw [if_pos rfl] at this; exact this
        clear HX
        obtain ⟨n, rfl⟩ : ∃ m, n = m + 1 := ⟨n - 1, by omega⟩
        have HNX := Lib.hid hRr.nx
        rw [chainP] at hFq
        by_cases hjs : rl T jj = s
        · rw [if_pos hjs] at hFq
          have KT := Lib.hid (take_yes sg hs hRr hjl (by rw [HSG.out, hjs]; exact Nat.testBit_two_pow_self))
          have hj1 := hT.next s hjs h0
          have HB := Lib.hid (And.intro hbr hInr)
          have HFQ := Lib.hid hFq
          clear hRr hbr hInr hFq
          go_wp2_with fail
          refine KT.out.mono ?_
          rintro e w3 ⟨rfl, hR3, hC3⟩
          have hb3 := HB.out.1.chg hC3 (by omega)
          obtain ⟨x0, x1, x2, x3, x4, x5, x6, x7, x8⟩ := hb3.get
          obtain ⟨z0, z1, z2, z3, z4, z5, z6, z7, z8⟩ := hb3.fzs
          have hs3 := hC3.size
          have hpl3 : pb < w3.heap.size := hb3.lt
          have HR3 := Lib.hid (And.intro hR3 hb3)
          clear hR3 hb3 KT
          go_upto_region 4 with (fail)
          obtain ⟨w4, hw4⟩ : ∃ w4, w4 = (w3.setCells pb 0 [.int .i64 kind, .int .i64 0, .string ⟨#[]⟩, .int .i64 0, .slice none 0 0, .int .i64 0, .slice (some ⟨w3.heap.size, 0, none⟩) 1 1, .slice none 0 0, .slice none 0 0]).alloc (.cells #[.int .i64 q.kind, .int .i64 q.tm.kind, .string q.tm.name, .int .i64 q.tm.n, .slice qa.A q.tm.args.length qa.ac, .int .i64 q.rel, .slice qa.L q.l.length qa.lc, .slice qa.R q.r.length qa.rc, .slice qa.C q.c.length qa.cc] 63) := ⟨_, rfl⟩
          obtain ⟨b4, c4, b4q, s4⟩ := make_world HR3.out.2 _ rfl _ rfl hw4
          have HW4 := Lib.hid hw4
          have hR4 := HR3.out.1.chg c4 (fun x _ e => by subst e; omega)
          have hC4 : Chg (· = g) w w4 := chg_new hCr ((hC3.weak fun _ e => .inl e).trans (c4.weak fun _ e => .inr e)) (by omega)
          have KQ := Lib.hid (put_rd f hE T b part hP w4 g pb 7 K (jj + 1) _ (by omega) hR4 hj1 hT.1 (by omega) (by omega) (by omega) b4 (HBO.out.chg hC4))
          have hr4 := (hrr.chg hC3 (by omega)).chg c4 (by omega)
          have HB4 := Lib.hid (And.intro c4 b4q)
          clear hw4 c4 b4q hR4 b4 x0 x1 x2 x3 x4 x5 x6 x7 x8 z0 z1 z2 z3 z4 z5 z6 z7 z8 HR3 hrr
          rw [show ((((((((((w3.setCell ⟨pb, 0, none⟩ (.int .i64 kind)).setCell ⟨pb, 1, none⟩ (.int .i64 0)).setCell ⟨pb, 2, none⟩ (.string ⟨#[]⟩)).setCell ⟨pb, 3, none⟩ (.int .i64 0)).setCell ⟨pb, 4, none⟩ (.slice none 0 0)).setCell ⟨pb, 5, none⟩ (.int .i64 0)).setCell ⟨pb, 6, none⟩ (.slice (some ⟨w3.heap.size, 0, none⟩) 1 1)).setCell ⟨pb, 7, none⟩ (.slice none 0 0)).setCell ⟨pb, 8, none⟩ (.slice none 0 0)).alloc (.cells #[.int .i64 q.kind, .int .i64 q.tm.kind, .string q.tm.name, .int .i64 q.tm.n, .slice qa.A q.tm.args.length qa.ac, .int .i64 q.rel, .slice qa.L q.l.length qa.lc, .slice qa.R q.r.length qa.rc, .slice qa.C q.c.length qa.cc] 63)) = w4 from HW4.out.symm]
          go_wp2_with fail
          refine KQ.out.mono ?_
          rintro e w5 ⟨hC5, ho5⟩
          have hC5w := chg_new hC4 hC5 (by omega)
          have hr5 := hr4.chg hC5 (by omega)
          have hs5 := hC5.size
          match hpq : part (jj + 1) with
          | .error (ea, ex) =>
            rw [hpq] at ho5
            obtain ⟨rfl, hE5, m, hb5⟩ := ho5
            have HX5 : Hid (∃ a x cs, F = Except.error (a, x) ∧ RdErr w5 g a x ∧ Sh9 cs ∧ Box9 w5 pb cs) := Lib.hid ⟨ea, ex, _, by rw [← HFQ.out, hpq], hE5, ⟨_, _, _, _, _, _, _, _, _, _, _, _, _, _, _, _, _, rfl⟩, hb5⟩
            clear hpq hE5 hb5 KQ hC5 hr4 hC4 hC3 hCr HB HB4
            go_wp2_with fail
            go_roundw
            case rel => exact ⟨false, rfl, hr5, hC5w, by omega, Lib.hid (by rw [if_neg (by simp)]; exact HX5.out)⟩
            case measure => rw [HNX.out]; simp [flagM]; omega
          | .ok (q', j') =>
            rw [hpq] at ho5
            obtain ⟨rfl, hR5, m, a', hm, hIn5, hmc, hb5⟩ := ho5
            have hj' := hpt _ _ _ hpq
            have hIn6 := pt_join hk (by decide : (Lit.int .i64 0).wf = true) (by omega : g < w0.heap.size) (by omega) (by omega) HB.out.2 hC3 HB4.out.1 rfl HB4.out.2 hC5 hm hIn5 hmc
            have hF5 : chainP T s kind part n ⟨kind, noTm, 0, [q], [q'], []⟩ j' = F := by have := HFQ.out; rw [hpq] at this; exact this
            have HN5 := Lib.hid hR5.nx
            have HX5 := Lib.hid (And.intro hF5 (And.intro hR5 (And.intro hIn6 hb5)))
            clear hpq hb5 KQ hC5 hr4 hC4 hC3 hCr HB HB4 hR5 hIn5 hmc hIn6 hF5 hm
            go_wp2_with fail
            go_roundw
            case rel => exact ⟨true, rfl, hr5, hC5w, by omega, Lib.hid (by rw [if_pos rfl]; exact ⟨n, _, _, j', by omega, hj'.2, HX5.out.1, HX5.out.2.1, HX5.out.2.2.1, HX5.out.2.2.2⟩)⟩
            case measure => rw [HNX.out, HN5.out]; simp [flagM]; omega
        · rw [if_neg hjs] at hFq
          have hb0 : Nat.testBit sg (rl T jj) = false := by rw [HSG.out]; exact bit_ne hjs
          have KT := Lib.hid (take_no sg hs hRr hjl hb0)
          have HFQ := Lib.hid hFq
          have HB := Lib.hid (And.intro hbr (And.intro hInr hRr))
          clear hRr hbr hInr hFq hb0
          go_wp2_with fail
          refine KT.out.mono ?_
          rintro e w3 ⟨rfl, hx3⟩
          obtain ⟨x0, x1, x2, x3, x4, x5, x6, x7, x8⟩ := (HB.out.1.ext hx3).get
          obtain ⟨y0, y1, y2, y3, y4, y5, y6, y7, y8⟩ := (hrr.ext hx3).get
          obtain ⟨z0, z1, z2, z3, z4, z5, z6, z7, z8⟩ := (hrr.ext hx3).fzs
          have hC3 := hCr.trans (Chg.of_ext hx3)
          have HX3 := Lib.hid hx3
          clear hrr KT hx3
          go_wp2_with fail
          refine bodyPost_ret (v := .tuple #[q.val qa, .bool true]) (by simp [results, Tryz.results97, go_sem, *]) rfl ?_
          rw [HF.out, ← HFQ.out]
          exact pt_fin_ok hC3 hw0l (HB.out.2.2.ext HX3.out) hgl hlo (HB.out.2.1.keep fun x hx _ => ⟨HX3.out.block x hx.1.2, hx.1.1, by have := hx.1.2; have := HX3.out.size; omega⟩) (vs := q.cells qa) rfl rfl
end Go.Proofs.YtbjghkmjnhmlfaaGreatDoor

/- Package read: patterns: one, bracket, both, pattern. -/
namespace Go.Proofs.YtbjghkmjnhmlfaaGreatDoor
open Go.RowKit

theorem PtOut.ext {w wf wf' : World} {g : Nat} {K : RdP} {T : List Tok} {b : Nat} {F : Rs Pt} {e : Ending} (h : PtOut w g K T b F e wf) (k : Ext wf wf') : PtOut w g K T b F e wf' := by
  obtain ⟨h1, h2⟩ := h
  refine ⟨h1.trans (Chg.of_ext k), ?_⟩
  match F, h2 with
  | .error (a, x), h2 => exact ⟨h2.1, h2.2.ext k⟩
  | .ok (p, j), h2 =>
    obtain ⟨a, he, hIn, hR⟩ := h2
    exact ⟨a, he, hIn.step (fun b _ hb => k.block b hb) k.size, hR.ext k⟩
theorem ptFits_term {t : Tm} : PtFits ⟨1, t, 0, [], [], []⟩ := ⟨by simp only; decide, by simp only; decide, by simp, by simp, by simp⟩
set_option maxRecDepth 100000 in
set_option maxHeartbeats 4000000 in
theorem one_rd (T : List Tok) (hT : EndLast T) (k b : Nat) (hkb : k + b = 100) (br : Nat → Rs Pt) (hB : PartTo 127 T b br) : PartTo 125 T b (oneP T k br) := by
  intro w g K i h hi hbo
  have HBO := Lib.hid hbo
  clear hbo
  have hgl := h.lt
  have hlo := h.low hT.1
  obtain ⟨w0, hw0⟩ : ∃ w0, w0 = w.alloc (.cells #[.int .i64 0, .int .i64 0, .string ⟨#[]⟩, .int .i64 0, .slice none 0 0, .int .i64 0, .slice none 0 0, .slice none 0 0, .slice none 0 0] 63) := ⟨_, rfl⟩
  have hr0 : Box9 w0 w.heap.size zero9 := by rw [hw0]; exact Box9.new w _ _ rfl
  have hx0 : Ext w w0 := by rw [hw0]; exact (Ext.refl _).alloc _
  have HW0 := Lib.hid hw0
  clear hw0
  have hR0 := h.ext hx0
  have hw0l : w.heap.size < w0.heap.size := hr0.lt
  have KS := Lib.hid (sees_rd 16 (by omega) hR0 hi)
  clear h
  go_enter Tryz.func125, Tryz.ntmps125
  go_upto_region 1 with (fail)
  rw [← HW0.out]
  by_cases h4 : rl T i = 4
  · have HF : Hid (oneP T k br i = br i) := Lib.hid (by unfold oneP; rw [if_pos h4])
    rw [h4, show Nat.testBit 16 4 = true by decide] at KS
    go_wp2_with fail
    refine KS.out.mono ?_
    rintro e w1 ⟨rfl, hx1⟩
    have KB := Lib.hid (hB w1 g K i (hR0.ext hx1) hi (HBO.out.ext (hx0.trans hx1)))
    have hr1 := hr0.ext hx1
    have hxw := hx0.trans hx1
    have hw1 : w.heap.size < w1.heap.size := hr1.lt
    clear KS hR0 hx0 hx1 hr0
    go_wp2_with fail
    refine KB.out.mono ?_
    rintro e w2 ⟨hC2, ho⟩
    have hC := (Chg.of_ext hxw).trans hC2
    obtain ⟨y0, y1, y2, y3, y4, y5, y6, y7, y8⟩ := (hr1.chg hC2 (by omega)).get
    obtain ⟨z0, z1, z2, z3, z4, z5, z6, z7, z8⟩ := (hr1.chg hC2 (by omega)).fzs
    match hF : br i with
    | .error (a, x) =>
      rw [hF] at ho
      have HFF := Lib.hid hF
      obtain ⟨⟨vs, hvs, rfl⟩, hE⟩ := ho
      obtain ⟨k0, k1, s2, k3, A4, l4, d4, k5, A6, l6, d6, A7, l7, d7, A8, l8, d8, rfl⟩ := hvs
      have HE := Lib.hid hE
      clear KB hE hC2 hr1 hF
      go_wp2_with fail
      refine bodyPost_ret (v := .tuple #[.agg #[.int .i64 k0, .int .i64 k1, .string s2, .int .i64 k3, .slice A4 l4 d4, .int .i64 k5, .slice A6 l6 d6, .slice A7 l7 d7, .slice A8 l8 d8], .bool false]) (by simp [results, Tryz.results125, go_sem, *]) rfl ?_
      rw [HF.out, HFF.out]
      exact pt_fin_err hC HE.out hgl (vs := [.int .i64 k0, .int .i64 k1, .string s2, .int .i64 k3, .slice A4 l4 d4, .int .i64 k5, .slice A6 l6 d6, .slice A7 l7 d7, .slice A8 l8 d8]) rfl ⟨_, _, _, _, _, _, _, _, _, _, _, _, _, _, _, _, _, rfl⟩ rfl
    | .ok (q, j) =>
      rw [hF] at ho
      have HFF := Lib.hid hF
      obtain ⟨qa, rfl, hIn, hR2⟩ := ho
      have HH := Lib.hid (And.intro hIn hR2)
      clear KB hIn hR2 hC2 hr1 hF
      go_wp2_with fail
      refine bodyPost_ret (v := .tuple #[q.val qa, .bool true]) (by simp [results, Tryz.results125, go_sem, *]) rfl ?_
      rw [HF.out, HFF.out]
      exact pt_fin_ok hC hw1 HH.out.2 hgl hlo HH.out.1 (vs := q.cells qa) rfl rfl
  · have hb0 : Nat.testBit 16 (rl T i) = false := bit_ne (k := 4) h4
    rw [hb0] at KS
    have HFO : Hid (oneP T k br i = match termP T k i with | .error e => .error e | .ok (t, j) => .ok (⟨1, t, 0, [], [], []⟩, j)) := Lib.hid (by unfold oneP; rw [if_neg h4]; cases termP T k i <;> rfl)
    clear hb0
    go_wp2_with fail
    refine KS.out.mono ?_
    rintro e w1 ⟨rfl, hx1⟩
    have KB := Lib.hid (term_any T hT k w1 g K i b hkb (hR0.ext hx1) hi)
    have hr1 := hr0.ext hx1
    have hxw := hx0.trans hx1
    have hw1 : w.heap.size < w1.heap.size := hr1.lt
    clear KS hR0 hx0 hx1 hr0
    go_wp2_with fail
    refine KB.out.mono ?_
    rintro e w2 ⟨hC2, ho⟩
    have hC := (Chg.of_ext hxw).trans hC2
    have hr2 := hr1.chg hC2 (by omega)
    obtain ⟨y0, y1, y2, y3, y4, y5, y6, y7, y8⟩ := hr2.get
    obtain ⟨z0, z1, z2, z3, z4, z5, z6, z7, z8⟩ := hr2.fzs
    have hw2 : w.heap.size < w2.heap.size := hr2.lt
    match hF : termP T k i with
    | .error (a, x) =>
      rw [hF] at ho
      have HFF : Hid (oneP T k br i = .error (a, x)) := Lib.hid (by rw [HFO.out, hF])
      obtain ⟨⟨k', s, n', A, l, c, rfl⟩, hE⟩ := ho
      have HE := Lib.hid hE
      clear KB hE hC2 hr1 hF hr2
      go_wp2_with fail
      refine bodyPost_ret (v := .tuple #[.agg #[.int .i64 1, .int .i64 k', .string s, .int .i64 n', .slice A l c, .int .i64 0, .slice none 0 0, .slice none 0 0, .slice none 0 0], .bool false]) (by simp [results, Tryz.results125, go_sem, *]) rfl ?_
      rw [HFF.out]
      refine PtOut.ext (pt_fin_err hC HE.out hgl (cs := [.int .i64 1, .int .i64 k', .string s, .int .i64 n', .slice A l c, .int .i64 0, .slice none 0 0, .slice none 0 0, .slice none 0 0]) (vs := [.int .i64 1, .int .i64 k', .string s, .int .i64 n', .slice A l c, .int .i64 0, .slice none 0 0, .slice none 0 0, .slice none 0 0]) rfl ⟨_, _, _, _, _, _, _, _, _, _, _, _, _, _, _, _, _, rfl⟩ rfl) ((Ext.refl _).alloc _)
    | .ok (t, j) =>
      rw [hF] at ho
      have HFF : Hid (oneP T k br i = .ok (⟨1, t, 0, [], [], []⟩, j)) := Lib.hid (by rw [HFO.out, hF])
      obtain ⟨A, c, rfl, hIn, hR2⟩ := ho
      have HH := Lib.hid (And.intro hIn hR2)
      clear KB hIn hR2 hC2 hr1 hF hr2
      go_wp2_with fail
      refine bodyPost_ret (v := .tuple #[(⟨1, t, 0, [], [], []⟩ : Pt).val ⟨A, c, none, 0, none, 0, none, 0⟩, .bool true]) (by simp [results, Tryz.results125, go_sem, *]) rfl ?_
      rw [HFF.out]
      exact PtOut.ext (pt_fin_ok (p := ⟨1, t, 0, [], [], []⟩) (a := ⟨A, c, none, 0, none, 0, none, 0⟩) hC hw1 HH.out.2 hgl hlo (.leaf _ ptFits_term rfl rfl rfl HH.out.1) (vs := [.int .i64 1, .int .i64 t.kind, .string t.name, .int .i64 t.n, .slice A t.args.length c, .int .i64 0, .slice none 0 0, .slice none 0 0, .slice none 0 0]) rfl rfl) ((Ext.refl _).alloc _)
end Go.Proofs.YtbjghkmjnhmlfaaGreatDoor
