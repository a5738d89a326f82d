/- Package read: terms: args, anyTerm, term. -/
import Derived.Test.YtbjghkmjnhmlfaaGreatDoorYH
namespace Go.Proofs.YtbjghkmjnhmlfaaGreatDoor
open Go.RowKit

/-- arguments that were read so far: a row of the call's own -/
structure AInv (w wr : World) (v : Value) (xs : List Lain) : Prop where
  own : wr.ownsRow w.heap.size 58 4 v xs.length (rowCells xs)
  sub : ∀ x ∈ xs, TmIn wr (fun b => New w wr b ∧ v.ownBlock ≠ some b) x.1 x.2.1 x.2.2
  size : w.heap.size ≤ wr.heap.size
theorem AInv.start (w : World) : AInv w w (.slice none 0 0) [] := ⟨World.ownsRow_nil _ _ _ _, fun x hx => absurd hx (by simp), Nat.le_refl _⟩
/-- nothing of it is turned -/
theorem AInv.far {w wr w1 : World} {v : Value} {xs : List Lain} (h : AInv w wr v xs) (k : ∀ b, w.heap.size ≤ b → b < wr.heap.size → w1.heap[b]? = wr.heap[b]?) (hs : wr.heap.size ≤ w1.heap.size) : AInv w w1 v xs := by
  refine ⟨own_same h.own fun q hq => ?_, fun x hx => (h.sub x hx).keep fun b hb _ => ⟨k b hb.1.1 hb.1.2, ⟨hb.1.1, by have := hb.1.2; omega⟩, hb.2⟩, Nat.le_trans h.size hs⟩
  obtain ⟨h1, h2⟩ := own_lt h.own q hq
  exact k q h1 h2
theorem AInv.chg {w wr w1 : World} {g : Nat} {v : Value} {xs : List Lain} (h : AInv w wr v xs) (k : Chg (· = g) wr w1) (hg : g < w.heap.size) : AInv w w1 v xs :=
  h.far (fun b h1 h2 => k.block b h2 (by omega)) k.size
theorem AInv.ext {w wr w1 : World} {v : Value} {xs : List Lain} (h : AInv w wr v xs) (k : Ext wr w1) : AInv w w1 v xs := h.far (fun b _ h2 => k.block b h2) k.size
theorem AInv.set {w wr : World} {p j : Nat} {v u : Value} {xs : List Lain} (h : AInv w wr v xs) (hp : p < w.heap.size) : AInv w (wr.setCell ⟨p, j, none⟩ u) v xs :=
  h.far (fun b h1 _ => Below.heap_setCell _ _ _ _ (by simp only; omega)) (by simp)
theorem AInv.app {w wr w1 w3 : World} {v v' : Value} {xs : List Lain} {y : Lain} (h : AInv w w1 v xs) (hv : ∀ q, v.ownBlock = some q → q < wr.heap.size) (hw : w.heap.size ≤ wr.heap.size) (hy : TmIn w1 (New wr w1) y.1 y.2.1 y.2.2)
    (k : Chg (fun b => v.ownBlock = some b) w1 w3) (ho : w3.ownsRow w.heap.size 58 4 v' (xs.length + 1) (rowCells xs ++ y.cells)) (hat : v'.ownBlock = v.ownBlock ∨ ∃ q, v'.ownBlock = some q ∧ w1.heap.size ≤ q) :
    AInv w w3 v' (xs ++ [y]) := by
  have hs := k.size
  have far : ∀ b, b < w1.heap.size → v.ownBlock ≠ some b → v'.ownBlock ≠ some b := fun b hb hne e => by
    rcases hat with e' | ⟨q, e', hq⟩
    · exact hne (e' ▸ e)
    · rw [e'] at e; injection e with e; omega
  refine ⟨by rw [rowCells_snoc, List.length_append]; exact ho, fun x hx => ?_, Nat.le_trans h.size hs⟩
  rcases List.mem_append.1 hx with hx | hx
  · exact (h.sub x hx).keep fun b hb _ => ⟨k.block b hb.1.2 hb.2, ⟨hb.1.1, by have := hb.1.2; omega⟩, far b hb.1.2 hb.2⟩
  · obtain rfl := List.mem_singleton.1 hx
    refine hy.keep fun b hb _ => ?_
    have hne : v.ownBlock ≠ some b := fun e => by have := hv b e; have := hb.1; omega
    exact ⟨k.block b hb.2 hne, ⟨by have := hb.1; omega, by have := hb.2; omega⟩, far b hb.2 hne⟩
/-- the whole: a term of them -/
theorem AInv.done {w wr : World} {v : Value} {xs : List Lain} (h : AInv w wr v xs) (t : Tm) (ht : xs.map (·.1) = t.args) (hf : t.Fits) : ∃ A c, v = .slice A t.args.length c ∧ TmIn wr (New w wr) t A c := by
  have hl : xs.length = t.args.length := by rw [← ht, List.length_map]
  have hown := h.own
  rcases hown.2 with ⟨e, h0⟩ | ⟨q, cap, cur, e, hb, hheap, hc, _⟩
  · have hx : xs = [] := List.eq_nil_of_length_eq_zero h0
    have ha : t.args = [] := by rw [← ht, hx]; rfl
    exact ⟨none, 0, by rw [e, ha]; rfl, .leaf 0 hf ha⟩
  · subst e
    have hq := own_lt hown q rfl
    refine ⟨_, cap, by rw [hl], .mk t _ cap (fun i => (xs[i]?.map (·.2.1)).getD none) (fun i => (xs[i]?.map (·.2.2)).getD 0) hf (by omega) (fun i hi => ?_) (fun b o e _ => ?_) (fun i hi => ?_)⟩
    · have hi' : i < xs.length := by omega
      have cell : ∀ j, j < 4 → wr.cell? ⟨q, 0 + i * 4 + j, none⟩ = xs[i].cells[j]? := fun j hj => by
        rw [show 0 + i * 4 + j = i * 4 + j by omega, hown.cellAt (i * 4 + j) (by omega), rowCells_at xs i j hi' hj]
      have ea : t.args[i] = xs[i].1 := by
        have := List.getElem_map (l := xs) (f := (·.1)) (i := i) (h := by simpa using hi')
        rw [← this]
        congr 1
        exact ht.symm
      refine ⟨q, 0, rfl, ?_, ?_, ?_, ?_⟩
      · have := cell 0 (by omega); rw [ea]; simpa [Lain.cells] using this
      · have := cell 1 (by omega); rw [ea]; simpa [Lain.cells] using this
      · have := cell 2 (by omega); rw [ea]; simpa [Lain.cells] using this
      · have := cell 3 (by omega); rw [ea]; simpa [Lain.cells, hi'] using this
    · injection e with e
      injection e with e1
      subst e1
      exact hq
    · have hi' : i < xs.length := by omega
      have ea : t.args[i] = xs[i].1 := by
        have := List.getElem_map (l := xs) (f := (·.1)) (i := i) (h := by simpa using hi')
        rw [← this]
        congr 1
        exact ht.symm
      have := (h.sub xs[i] (List.getElem_mem hi')).keep (w' := wr) (F' := New w wr) (fun b hb _ => ⟨rfl, hb.1⟩)
      rw [ea]
      simpa [hi'] using this

theorem infoTm' : (Tryz.prog.info? 58).map (fun i => (i.zero, i.size, i.bytes)) = some (some (.agg #[.int .i64 0, .string ⟨#[]⟩, .int .i64 0, .slice none 0 0]), 4, 56) := by kernel_rfl
/-- what reading a term comes to -/
def TmOut (w : World) (g : Nat) (K : RdP) (T : List Tok) (b : Nat) (F : Rs Tm) (e : Ending) (w' : World) : Prop := Chg (· = g) w w' ∧
  match F with
  | .ok (t, j) => ∃ A c, e = .returned (.tuple #[t.val A c, .bool true]) ∧ TmIn w' (New w w') t A c ∧ RdAt w' g K T j b
  | .error (a, x) => (∃ k s n A l c, e = .returned (.tuple #[.agg #[.int .i64 k, .string s, .int .i64 n, .slice A l c], .bool false])) ∧ RdErr w' g a x
def AnyTo (T : List Tok) (k : Nat) : Prop := ∀ (w : World) (g : Nat) (K : RdP) (i b : Nat), k + b = 100 → RdAt w g K T i b → i < T.length →
  Calls Tryz.prog 80 #[.pointer (some ⟨g, 0, none⟩)] w (TmOut w g K T b (anyP T k i))
/-- .. and its arguments, into block p -/
def ArgsOut (w : World) (g p : Nat) (K : RdP) (T : List Tok) (b : Nat) (F : Rs (List Tm)) (e : Ending) (w' : World) : Prop := Chg (fun x => x = g ∨ x = p) w w' ∧ (∀ j, j < 3 → w'.cell? ⟨p, j, none⟩ = w.cell? ⟨p, j, none⟩) ∧
  match F with
  | .ok (ts, j) => e = .returned (.bool true) ∧ RdAt w' g K T j b ∧ ∃ v xs, AInv w w' v xs ∧ xs.map (·.1) = ts ∧ w'.cell? ⟨p, 3, none⟩ = some v
  | .error (a, x) => e = .returned (.bool false) ∧ RdErr w' g a x ∧ ∃ A l c, w'.cell? ⟨p, 3, none⟩ = some (.slice A l c)

theorem RdAt.low {w : World} {g : Nat} {K : RdP} {T : List Tok} {i b : Nat} (h : RdAt w g K T i b) (hT : 0 < T.length) : K.A < w.heap.size ∧ K.R < w.heap.size :=
  ⟨World.block_lt_of_cell? w _ (h.toks 0 hT).1, World.block_lt_of_cell? w _ (h.roles 0 hT)⟩
def nxOf (w : World) (g : Nat) : Nat := match w.cell? ⟨g, 2, none⟩ with
  | some (.int _ n) => n.toNat
  | _ => 0
theorem RdAt.nx {w : World} {g : Nat} {K : RdP} {T : List Tok} {i b : Nat} (h : RdAt w g K T i b) : nxOf w g = i := by unfold nxOf; rw [h.c2]; simp
/-- one argument is behind the others -/
theorem args_fin {w wr w3 w5 : World} {g p j b q cap : Nat} {K : RdP} {T : List Tok} {v : Value} {xs : List Lain} {y : Lain} (hA : AInv w w3 v xs) (hv : ∀ q, v.ownBlock = some q → q < wr.heap.size) (hwr : w.heap.size ≤ wr.heap.size) (hy : TmIn w3 (New wr w3) y.1 y.2.1 y.2.2)
    (hlo : K.A < w.heap.size ∧ K.R < w.heap.size) (hg : g < w.heap.size) (hpl : p < w.heap.size) (hp : p ≠ g) (hpA : p ≠ K.A) (hpR : p ≠ K.R) (hR : RdAt w3 g K T j b) (hC : Chg (fun x => x = g ∨ x = p) w w3) (hcs : ∀ j, j < 3 → w3.cell? ⟨p, j, none⟩ = w.cell? ⟨p, j, none⟩) (dc : w3.cell? ⟨p, 3, none⟩ = some v) (fc : w3.frozen? ⟨p, 3, none⟩ = false)
    (k5 : Chg (fun b => v.ownBlock = some b) w3 w5) (ho : w5.ownsRow w.heap.size 58 4 (.slice (some ⟨q, 0, none⟩) (xs.length + 1) cap) (xs.length + 1) (rowCells xs ++ [.int .i64 0, .string ⟨#[]⟩, .int .i64 0, .slice none 0 0])) (hat : v.ownBlock = some q ∨ w3.heap.size ≤ q)
    {wf : World} (hwf : wf = (set4 w5 q (xs.length * 4) (.int .i64 y.1.kind) (.string y.1.name) (.int .i64 y.1.n) (.slice y.2.1 y.1.args.length y.2.2)).setCell ⟨p, 3, none⟩ (.slice (some ⟨q, 0, none⟩) (xs.length + 1) cap)) :
    AInv w wf (.slice (some ⟨q, 0, none⟩) (xs ++ [y]).length cap) (xs ++ [y]) ∧ RdAt wf g K T j b ∧ wf.cell? ⟨p, 3, none⟩ = some (.slice (some ⟨q, 0, none⟩) (xs ++ [y]).length cap) ∧ wf.frozen? ⟨p, 3, none⟩ = false ∧ Chg (fun x => x = g ∨ x = p) w wf ∧ (∀ j, j < 3 → wf.cell? ⟨p, j, none⟩ = w.cell? ⟨p, j, none⟩) := by
  subst hwf
  have hs5 := k5.size
  have hs3 := hA.size
  have hql : w.heap.size ≤ q := by rcases hat with e | e; exact (own_lt hA.own q e).1; omega
  have k6 : Chg (fun b => v.ownBlock = some b) w3 (set4 w5 q (xs.length * 4) (.int .i64 y.1.kind) (.string y.1.name) (.int .i64 y.1.n) (.slice y.2.1 y.1.args.length y.2.2)) := by
    refine ⟨k5.os, k5.tape, k5.output, by rw [set4_size]; exact hs5, fun k hk hf => ?_⟩
    rw [set4_block _ _ _ _ _ _ _ _ (fun e => by rcases hat with e' | e'; exact hf (by rw [e, e']); omega)]
    exact k5.block k hk hf
  have ho6 := own_set4 ho (rowCells_len xs) (.int .i64 y.1.kind) (.string y.1.name) (.int .i64 y.1.n) (.slice y.2.1 y.1.args.length y.2.2)
  have hA6 := hA.app hv hwr hy k6 ho6 (hat.imp (fun e => e.symm) (fun e => ⟨q, rfl, e⟩))
  have el : (xs ++ [y]).length = xs.length + 1 := by simp
  generalize hw6 : set4 w5 q (xs.length * 4) (.int .i64 y.1.kind) (.string y.1.name) (.int .i64 y.1.n) (.slice y.2.1 y.1.args.length y.2.2) = w6 at *
  have hvn : ∀ x, x < w.heap.size → v.ownBlock ≠ some x := fun x hx e => by have := (own_lt hA.own x e).1; omega
  have dc6 := k6.cell dc (hvn p hpl)
  have fc6 : w6.frozen? ⟨p, 3, none⟩ = false := (World.frozen?_of_block (w := w3) (k6.block p (by omega) (hvn p hpl))).trans fc
  have kp : Chg (fun x => x = p) w6 (w6.setCell ⟨p, 3, none⟩ (.slice (some ⟨q, 0, none⟩) (xs.length + 1) cap)) := (Chg.refl _ w6).setg _ _
  rw [el]
  refine ⟨hA6.set hpl, (hR.chg k6 (fun x _ e => ?_)).chg kp (fun x _ e => by subst e; exact ⟨hp, hpA, hpR⟩), by go_simp, by simpa using fc6, ?_, fun j hj => ?_⟩
  · have := (own_lt hA.own x e).1
    omega
  · refine Chg.trans ?_ (kp.weak fun _ e => .inr e)
    refine ⟨k6.os.trans hC.os, k6.tape.trans hC.tape, k6.output.trans hC.output, Nat.le_trans hC.size k6.size, fun k hk hf => ?_⟩
    rw [k6.block k (by omega) (hvn k hk), hC.block k hk hf]
  · rw [World.cell?_setCell_other _ _ _ _ (fun e => by injection e with _ e; omega), World.cell?_of_block (w := w3) (k6.block p (by omega) (hvn p hpl)), hcs j hj]
set_option maxRecDepth 100000 in
set_option maxHeartbeats 4000000 in
theorem args_any (T : List Tok) (hT : EndLast T) (k : Nat) (hk : AnyTo T k) (w : World) (g p : Nat) (K : RdP) (i b : Nat) (hb : k + 1 + b = 100) (h : RdAt w g K T i b) (hi : i < T.length) (h4 : rl T i = 4) (hp : p ≠ g) (hpA : p ≠ K.A) (hpR : p ≠ K.R)
    (c3 : w.cell? ⟨p, 3, none⟩ = some (.slice none 0 0)) (f3 : w.frozen? ⟨p, 3, none⟩ = false) :
    Calls Tryz.prog 95 #[.pointer (some ⟨g, 0, none⟩), .pointer (some ⟨p, 0, none⟩)] w (ArgsOut w g p K T b (argsP T (anyP T k) (T.length - i) [] (i + 1))) := by
  obtain ⟨i0, hi0, hz0, hz1, hz2⟩ := info_parts infoTm'
  have hpl : p < w.heap.size := World.block_lt_of_cell? w _ c3
  have hgl := h.lt
  have hlo := h.low hT.1
  have hi1 := hT.next 4 h4 (by omega)
  go_enter Tryz.func95, Tryz.ntmps95
  go_wp2_with fail
  refine (enter_yes h hi h4 (by omega)).mono ?_
  rintro e w1 ⟨rfl, h1, hx1⟩
  have d3 := hx1.cell c3 hp
  have e3 : w1.frozen? ⟨p, 3, none⟩ = false := (World.frozen?_of_block (w := w) (hx1.block p hpl hp)).trans f3
  have hI := (AInv.start w).chg hx1 hgl
  have hx1' : Chg (fun x => x = g ∨ x = p) w w1 := hx1.weak fun _ e => .inl e
  have hcs : ∀ j, j < 3 → w1.cell? ⟨p, j, none⟩ = w.cell? ⟨p, j, none⟩ := fun j _ => World.cell?_of_block (w := w) (hx1.block p hpl hp)
  obtain ⟨F, hF⟩ : ∃ F, F = argsP T (anyP T k) (T.length - i) [] (i + 1) := ⟨_, rfl⟩
  rw [← hF]
  have HF := Lib.hid hF.symm
  clear h c3 f3 hF hx1
  go_wp2_with fail
  go_loopw [5] (fun m wr => ∃ (mb : Bool) (xs : List Lain) (j : Nat) (v : Value), m = .bool mb ∧ j < T.length ∧ RdAt wr g K T j (b + 1) ∧ AInv w wr v xs ∧ wr.cell? ⟨p, 3, none⟩ = some v ∧ wr.frozen? ⟨p, 3, none⟩ = false ∧ Chg (fun x => x = g ∨ x = p) w wr ∧ (∀ j, j < 3 → wr.cell? ⟨p, j, none⟩ = w.cell? ⟨p, j, none⟩) ∧
      Hid (xs.length ≤ j ∧ if mb = true then ∃ n, T.length ≤ n + j ∧ argsP T (anyP T k) n (xs.map (·.1)) j = F else (if rl T j = 5 then Except.ok (xs.map (·.1), j + 1) else Except.error (bad T j)) = F)) (fun _ wr => T.length - nxOf wr g)
  case atStart => exact ⟨true, [], i + 1, _, rfl, hi1, h1, hI, d3, e3, hx1', hcs, Lib.hid ⟨by simp, by rw [if_pos rfl]; exact ⟨T.length - i, by omega, HF.out⟩⟩⟩
  case round =>
    obtain ⟨mb, xs, j, v, rfl, hj, hR, hA, dc, fc, hC, hcr, HX⟩ := hrel
    obtain ⟨SA, sc, rfl, _⟩ := src_own hA.own
    have hNX := Lib.hid hR.nx
    have HCR := Lib.hid hcr
    clear hcr hcs hI d3 e3 hx1' h1
    cases mb with
    | true =>
      obtain ⟨hxj, n, hn, hG⟩ : xs.length ≤ j ∧ ∃ n, T.length ≤ n + j ∧ argsP T (anyP T k) n (xs.map (·.1)) j = F := by have := HX.out; rw [if_pos rfl] at this; exact this
      obtain ⟨n, rfl⟩ : ∃ m, n = m + 1 := ⟨n - 1, by omega⟩
      have KA := Lib.hid (hk wr g K j (b + 1) (by omega) hR hj)
      rw [argsP] at hG
      match hres : anyP T k j with
      | .error (a, x) =>
        rw [hres] at hG
        have HG := Lib.hid hG
        have HRES := Lib.hid hres
        clear hR hA HX hG hres
        go_wp2_with fail
        refine KA.out.mono ?_
        rintro e w2 ⟨hC2, ho⟩
        rw [HRES.out] at ho
        obtain ⟨⟨k', s, n', A, l, c, rfl⟩, hE⟩ := ho
        have dc2 := hC2.cell dc hp
        have hcr2 : ∀ j, j < 3 → w2.cell? ⟨p, j, none⟩ = w.cell? ⟨p, j, none⟩ := fun j hj => (World.cell?_of_block (w := wr) (hC2.block p (World.block_lt_of_cell? wr _ dc) hp)).trans (HCR.out j hj)
        have hCf : Chg (fun x => x = g ∨ x = p) w w2 := hC.trans (hC2.weak fun _ e => .inl e)
        have HCR2 := Lib.hid hcr2
        have hpl2 := World.block_lt_of_cell? w2 _ dc2
        clear hcr2 KA
        go_wp2_with fail
        go_ret
        rw [HF.out, ← HG.out]
        refine ⟨hCf.trans (Chg.of_ext ((Ext.refl _).alloc _)), fun j hj => ?_, rfl, hE.ext ((Ext.refl _).alloc _), SA, xs.length, sc, ((Ext.refl w2).alloc _).cell dc2⟩
        rw [World.cell?_of_block (w := w2) (((Ext.refl w2).alloc _).block p hpl2)]
        exact HCR2.out j hj
      | .ok (t, j') =>
        rw [hres] at hG
        have hjj := anyP_takes hT k j t j' hres
        have HG := Lib.hid hG
        have HRES := Lib.hid hres
        have hlR := hR.len
        have HA := Lib.hid hA
        clear hR hA HX hG hres
        go_wp2_with fail
        refine KA.out.mono ?_
        rintro e w2 ⟨hC2, ho⟩
        rw [HRES.out] at ho
        obtain ⟨A, c, rfl, hIn, hR2⟩ := ho
        clear KA
        go_upto_region 9 with (fail)
        obtain ⟨w3, hw3⟩ : ∃ w3, w3 = w2.alloc (.cells #[.int .i64 t.kind, .string t.name, .int .i64 t.n, .slice A t.args.length c] 58) := ⟨_, rfl⟩
        rw [← hw3]
        have hx3 : Ext w2 w3 := by rw [hw3]; exact (Ext.refl _).alloc _
        have b0 : w3.drew.cell? ⟨w2.heap.size, 0, none⟩ = some (.int .i64 t.kind) := by rw [hw3]; go_simp
        have b1 : w3.drew.cell? ⟨w2.heap.size, 1, none⟩ = some (.string t.name) := by rw [hw3]; go_simp
        have b2 : w3.drew.cell? ⟨w2.heap.size, 2, none⟩ = some (.int .i64 t.n) := by rw [hw3]; go_simp
        have b3 : w3.drew.cell? ⟨w2.heap.size, 3, none⟩ = some (.slice A t.args.length c) := by rw [hw3]; go_simp
        have hbs : w2.heap.size < w3.heap.size := by rw [hw3]; simp
        have b0' : w3.cell? ⟨w2.heap.size, 0, none⟩ = some (.int .i64 t.kind) := b0
        have b1' : w3.cell? ⟨w2.heap.size, 1, none⟩ = some (.string t.name) := b1
        have b2' : w3.cell? ⟨w2.heap.size, 2, none⟩ = some (.int .i64 t.n) := b2
        have b3' : w3.cell? ⟨w2.heap.size, 3, none⟩ = some (.slice A t.args.length c) := b3
        clear hw3
        have hCr3 : Chg (· = g) wr w3 := hC2.trans (Chg.of_ext hx3)
        have hA3 := HA.out.chg hCr3 hgl
        have hwr := HA.out.size
        have hv : ∀ q, (Value.slice SA xs.length sc).ownBlock = some q → q < wr.heap.size := fun q hq => (own_lt HA.out.own q hq).2
        have hy : TmIn w3 (New wr w3) t A c := hIn.step (fun b _ h2 => hx3.block b h2) hx3.size
        have hR3 := hR2.ext hx3
        have dcw := World.block_lt_of_cell? wr _ dc
        have dc3 := hCr3.cell dc hp
        have fc3 : w3.frozen? ⟨p, 3, none⟩ = false := (World.frozen?_of_block (w := wr) (hCr3.block p dcw hp)).trans fc
        have hC3 : Chg (fun x => x = g ∨ x = p) w w3 := hC.trans (hCr3.weak fun _ e => .inl e)
        have hcr3 : ∀ j, j < 3 → w3.cell? ⟨p, j, none⟩ = w.cell? ⟨p, j, none⟩ := fun j hj => (World.cell?_of_block (w := wr) (hCr3.block p dcw hp)).trans (HCR.out j hj)
        have dcd : w3.drew.cell? ⟨p, 3, none⟩ = some (.slice SA xs.length sc) := dc3
        have HFIN := Lib.hid (fun (w5 wf : World) (q cap : Nat) => args_fin (w5 := w5) (wf := wf) (q := q) (cap := cap) (y := (t, A, c)) hA3 hv hwr hy hlo hgl hpl hp hpA hpR hR3 hC3 hcr3 dc3 fc3)
        have HO := Lib.hid hA3.own
        have HN : Hid ((Value.slice SA xs.length sc).ownBlock ≠ some p) := Lib.hid (fun e => by have := (own_lt HA.out.own p e).1; omega)
        have HNB : Hid ((Value.slice SA xs.length sc).ownBlock ≠ some w2.heap.size) := Lib.hid (fun e => by have := (own_lt HA.out.own _ e).2; have := hC2.size; omega)
        have hx1l : xs.length ≤ 4001 := by omega
        have H63 : Hid (xs.length + 1 ≤ maxLen) := Lib.hid (by unfold maxLen; omega)
        have HBY : Hid ((xs.length + 1) * 56 ≤ 140737488355328) := Lib.hid (by omega)
        have HBA : Hid (w.heap.size ≤ (w3.drew.alloc (.cells #[.int .i64 0, .string ⟨#[]⟩, .int .i64 0, .slice none 0 0] 58)).heap.size) := Lib.hid (by have := hCr3.size; simp; omega)
        have HXJ := Lib.hid hxj
        have HXL : Hid (xs.length + 1 ≤ j + 1 ∧ (xs ++ [(t, A, c)]).length ≤ j') := Lib.hid ⟨by omega, by simp; omega⟩
        have hp3 : p < w3.heap.size := by have := hCr3.size; omega
        have qlt : (xs.length : Int) < (xs.length : Int) + 1 := by omega
        have HRC := Lib.hid (rowCells_len xs)
        clear hA3 hv hwr hy hR3 hR2 hIn hC3 hcr3 hC2 hCr3 HA hx3 HRES HCR hC dc fc hxj
        go_region_law
          ((refine step_app _ (by rfl) (.tmp 24) (.tmp 27) 56 (by rfl) w.heap.size 58 i0 _ 4 56 Tryz.underlying56 hi0 hz0 hz1 hz2 (by rfl) (by decide) (.slice SA xs.length sc) xs.length (rowCells xs) (by rfl) (HO.out.drew.alloc _) (some ⟨w3.heap.size, 0, none⟩) 1 1 [.int .i64 0, .string ⟨#[]⟩, .int .i64 0, .slice none 0 0] (by rfl) (Src.box w3.drew #[.int .i64 0, .string ⟨#[]⟩, .int .i64 0, .slice none 0 0] 58 4 rfl) (by simp [Value.oneCell']) H63.out HBY.out HBA.out ?_; intro v' w5 ho3 hg3 hat3; obtain ⟨q, cap', rfl, hcap⟩ := own_form ho3 (Nat.succ_pos _); have k3 := (Chg.of_ext (F := fun x => (Value.slice SA xs.length sc).ownBlock = some x) ((Ext.refl w3).drew.alloc (.cells #[.int .i64 0, .string ⟨#[]⟩, .int .i64 0, .slice none 0 0] 58))).trans (own_chg hg3); have q0 := k3.cell dcd HN.out; have f3' : w5.frozen? ⟨p, 3, none⟩ = false := (World.frozen?_of_block (w := w3) (k3.block p hp3 HN.out)).trans fc3; obtain ⟨⟨z0, z1, z2, z3⟩, y0, y1, y2, y3⟩ := own_cells4 ho3 HRC.out; have x0 := k3.cell b0 HNB.out; have x1 := k3.cell b1 HNB.out; have x2 := k3.cell b2 HNB.out; have x3 := k3.cell b3 HNB.out; have hpq : p ≠ q := by (intro e; have := (own_lt ho3 q rfl).1; omega)))
        all_goals
          obtain ⟨wf, hwf⟩ : ∃ wf, wf = (set4 w5 q (xs.length * 4) (.int .i64 t.kind) (.string t.name) (.int .i64 t.n) (.slice A t.args.length c)).setCell ⟨p, 3, none⟩ (.slice (some ⟨q, 0, none⟩) (xs.length + 1) cap') := ⟨_, rfl⟩
          have hfin := HFIN.out w5 wf q cap' k3 ho3 (by rcases hat3 with e | e; exact .inl e.symm; exact .inr (by have : q = w3.heap.size + 1 := by simpa [Value.ownBlock] using e
                                                                                                                  omega)) hwf
          first
            | rw [show (((((w5.setCell ⟨q, xs.length * 4, none⟩ (.int .i64 t.kind)).setCell ⟨q, xs.length * 4 + 1, none⟩ (.string t.name)).setCell ⟨q, xs.length * 4 + 2, none⟩ (.int .i64 t.n)).setCell ⟨q, xs.length * 4 + 3, none⟩ (.slice A t.args.length c)).setCell ⟨p, 3, none⟩ (.slice (some ⟨q, 0, none⟩) (xs.length + 1) cap')) = wf from hwf.symm]
            | rw [show (((((w5.setCell ⟨p, 3, none⟩ (.slice (some ⟨q, 0, none⟩) (xs.length + 1) cap')).setCell ⟨q, xs.length * 4, none⟩ (.int .i64 t.kind)).setCell ⟨q, xs.length * 4 + 1, none⟩ (.string t.name)).setCell ⟨q, xs.length * 4 + 2, none⟩ (.int .i64 t.n)).setCell ⟨q, xs.length * 4 + 3, none⟩ (.slice A t.args.length c)) = wf from (set4_swap w5 hpq 3 (xs.length * 4) _ _ _ _ _).trans hwf.symm]
          clear hwf k3 ho3 hat3 hg3 q0 f3' z0 z1 z2 z3 y0 y1 y2 y3 x0 x1 x2 x3 b0 b1 b2 b3 b0' b1' b2' b3' dcd dc3 fc3
          obtain ⟨hA6, hR6, dc6, fc6, hC6, hcr6⟩ := hfin
          have HC6 := Lib.hid hcr6
          have HXJ6 : Hid ((xs ++ [(t, A, c)]).length ≤ j' + 1) := Lib.hid (by have := HXJ.out; simp; omega)
          have HMAP : Hid ((xs ++ [(t, A, c)]).map (·.1) = xs.map (·.1) ++ [t]) := Lib.hid (by simp)
          generalize hxs : xs ++ [(t, A, c)] = ys at *
          clear hcr6 hxs HXJ
          by_cases h6 : rl T j' = 6
          · have hn6 := hT.next 6 h6 (by omega)
            have KT := Lib.hid (take_yes 64 (by omega) hR6 hjj.2 (by rw [h6]; decide))
            have HG6 : Hid (T.length ≤ n + (j' + 1) ∧ argsP T (anyP T k) n (ys.map (·.1)) (j' + 1) = F) := Lib.hid ⟨by omega, by have := HG.out; rw [if_pos h6] at this; rw [HMAP.out]; exact this⟩
            clear hR6 HG HMAP
            go_wp2_with fail
            refine KT.out.mono ?_
            rintro e w7 ⟨rfl, hR7, hC7⟩
            have hA7 := hA6.chg hC7 hgl
            have dc7 := hC7.cell dc6 hp
            have hpl6 := World.block_lt_of_cell? wf _ dc6
            have fc7 : w7.frozen? ⟨p, 3, none⟩ = false := (World.frozen?_of_block (w := wf) (hC7.block p hpl6 hp)).trans fc6
            have hC7' : Chg (fun x => x = g ∨ x = p) w w7 := hC6.trans (hC7.weak fun _ e => .inl e)
            have HC7 : Hid (∀ j, j < 3 → w7.cell? ⟨p, j, none⟩ = w.cell? ⟨p, j, none⟩) := Lib.hid (fun j hj => (World.cell?_of_block (w := wf) (hC7.block p hpl6 hp)).trans (HC6.out j hj))
            have HN7 := Lib.hid hR7.nx
            have HH7 := Lib.hid (And.intro hR7 hA7)
            clear KT hC7 hA6 dc6 fc6 hC6 HC6 hR7 hA7
            go_wp2_with fail
            go_roundw
            case rel => exact ⟨true, ys, j' + 1, _, rfl, hn6, HH7.out.1, HH7.out.2, dc7, fc7, hC7', HC7.out, Lib.hid ⟨HXJ6.out, by rw [if_pos rfl]; exact ⟨n, HG6.out⟩⟩⟩
            case measure => rw [HN7.out, hNX.out]; omega
          · have hb6 : Nat.testBit 64 (rl T j') = false := by rw [show (64 : Nat) = 2 ^ 6 from rfl, Nat.testBit_two_pow]; simp; omega
            have KT := Lib.hid (take_no 64 (by omega) hR6 hjj.2 hb6)
            have HG6 : Hid ((if rl T j' = 5 then Except.ok (ys.map (·.1), j' + 1) else Except.error (bad T j')) = F) := Lib.hid (by have := HG.out; rw [if_neg h6] at this; rw [HMAP.out]; exact this)
            have HXJ7 : Hid (ys.length ≤ j') := Lib.hid HXL.out.2
            have HH6 := Lib.hid (And.intro hR6 hA6)
            clear hR6 HG HMAP hA6
            go_wp2_with fail
            refine KT.out.mono ?_
            rintro e w7 ⟨rfl, hx7⟩
            have hR7 := HH6.out.1.ext hx7
            have hA7 := HH6.out.2.ext hx7
            have dc7 := hx7.cell dc6
            have hpl6 := World.block_lt_of_cell? wf _ dc6
            have fc7 : w7.frozen? ⟨p, 3, none⟩ = false := (World.frozen?_of_block (w := wf) (hx7.block p hpl6)).trans fc6
            have hC7' : Chg (fun x => x = g ∨ x = p) w w7 := hC6.trans (Chg.of_ext hx7)
            have HC7 : Hid (∀ j, j < 3 → w7.cell? ⟨p, j, none⟩ = w.cell? ⟨p, j, none⟩) := Lib.hid (fun j hj => (World.cell?_of_block (w := wf) (hx7.block p hpl6)).trans (HC6.out j hj))
            have HN7 := Lib.hid hR7.nx
            have HH7 := Lib.hid (And.intro hR7 hA7)
            clear KT hx7 HH6 dc6 fc6 hC6 HC6 hR7 hA7 hb6
            go_wp2_with fail
            go_roundw
            case rel => exact ⟨false, ys, j', _, rfl, hjj.2, HH7.out.1, HH7.out.2, dc7, fc7, hC7', HC7.out, Lib.hid ⟨HXJ7.out, by rw [if_neg (by simp)]; exact HG6.out⟩⟩
            case measure => rw [HN7.out, hNX.out]; omega
    | false =>
      obtain ⟨_, hG⟩ : xs.length ≤ j ∧ (if rl T j = 5 then Except.ok (xs.map (·.1), j + 1) else Except.error (bad T j)) = F := by have := HX.out; rw [if_neg (by simp)] at this; exact this
      clear HX
      by_cases h5 : rl T j = 5
      · rw [if_pos h5] at hG
        have KL := Lib.hid (leave_yes hR hj h5 (by omega))
        have HG := Lib.hid hG
        have HA := Lib.hid hA
        clear hR hA hG
        go_wp2_with fail
        refine KL.out.mono ?_
        rintro e w2 ⟨rfl, hR2, hC2⟩
        have hpl2 := World.block_lt_of_cell? wr _ dc
        have dc2 := hC2.cell dc hp
        have hCf : Chg (fun x => x = g ∨ x = p) w w2 := hC.trans (hC2.weak fun _ e => .inl e)
        have HF2 : Hid (ArgsOut w g p K T b F (.returned (.bool true)) w2) := Lib.hid (by
          rw [← HG.out]
          exact ⟨hCf, fun j hj => (World.cell?_of_block (w := wr) (hC2.block p hpl2 hp)).trans (HCR.out j hj), rfl, hR2, _, xs, HA.out.chg hC2 hgl, rfl, dc2⟩)
        clear KL hR2 hC2 dc2 hCf
        go_wp2_with fail
        go_ret
        rw [HF.out]
        exact HF2.out
      · rw [if_neg h5] at hG
        have KL := Lib.hid (leave_no hR hj h5 (by omega))
        have HG := Lib.hid hG
        clear hR hA hG
        go_wp2_with fail
        refine KL.out.mono ?_
        rintro e w2 ⟨rfl, hE2, hC2⟩
        have hpl2 := World.block_lt_of_cell? wr _ dc
        have dc2 := hC2.cell dc hp
        have hCf : Chg (fun x => x = g ∨ x = p) w w2 := hC.trans (hC2.weak fun _ e => .inl e)
        have HF2 : Hid (ArgsOut w g p K T b F (.returned (.bool false)) w2) := Lib.hid (by
          rw [← HG.out]
          exact ⟨hCf, fun j hj => (World.cell?_of_block (w := wr) (hC2.block p hpl2 hp)).trans (HCR.out j hj), rfl, hE2, _, _, _, dc2⟩)
        clear KL hE2 hC2 dc2 hCf
        go_wp2_with fail
        go_ret
        rw [HF.out]
        exact HF2.out
end Go.Proofs.YtbjghkmjnhmlfaaGreatDoor
