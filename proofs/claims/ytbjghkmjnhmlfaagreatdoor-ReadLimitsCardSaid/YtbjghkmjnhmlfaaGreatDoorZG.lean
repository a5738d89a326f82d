/- Joined: Pia, Pid, Pic. -/
import Derived.Test.YtbjghkmjnhmlfaaGreatDoorZC
import Derived.Test.YtbjghkmjnhmlfaaGreatDoorYQ
import Derived.Test.YtbjghkmjnhmlfaaGreatDoorYG
import Derived.Test.YtbjghkmjnhmlfaaGreatDoorYA
import Derived.Test.YtbjghkmjnhmlfaaGreatDoorYY
import Derived.Deep.MidRow

/- The page's reader: clause: what it comes to; its two rows as they lie there. -/
namespace Go.Proofs.YtbjghkmjnhmlfaaGreatDoor
open Go.RowKit

/-- what stands behind :- -/
def cpartsQ (T : List Tok) : Nat → Cl → Nat → Rs Cl
  | 0, _, i => .error (bad T i)
  | n + 1, c, i => match partP T c i with
    | .error e => .error e
    | .ok (d, j) => if rl T j = 6 then cpartsQ T n d (j + 1) else .ok (d, j)
theorem partsP_is (T : List Tok) : ∀ n c i, partsP T n c i = match cpartsQ T n c i with
    | .error e => .error e
    | .ok (d, j) => if rl T j = 7 then .ok (d, j + 1) else .error (bad T j)
  | 0, _, _ => rfl
  | n + 1, c, i => by
    unfold partsP cpartsQ
    match partP T c i with
    | .error e => rfl
    | .ok (d, j) =>
      by_cases h : rl T j = 6
      · simp only [if_pos h]; exact partsP_is T n d (j + 1)
      · simp only [if_neg h]
theorem cpartsQ_head (T : List Tok) : ∀ n c i d j, cpartsQ T n c i = .ok (d, j) → d.head = c.head
  | 0, _, _, _, _, h => by cases h
  | n + 1, c, i, d, j, h => by
    unfold cpartsQ at h
    match hp : partP T c i with
    | .error e => rw [hp] at h; cases h
    | .ok (d', j') =>
      have h1 : d'.head = c.head := by
        unfold partP opP at hp
        split at hp
        · cases hp
        · split at hp
          · split at hp
            · cases hp
            · injection hp with hp; injection hp with hp _; rw [← hp]
          · split at hp
            · cases hp
            · injection hp with hp; injection hp with hp _; rw [← hp]
      rw [hp] at h
      simp only at h
      by_cases h6 : rl T j' = 6
      · rw [if_pos h6] at h; rw [cpartsQ_head T n d' (j' + 1) d j h, h1]
      · rw [if_neg h6] at h; injection h with h; injection h with h _; rw [← h, h1]
/-- six cells of a clause -/
def ClSh (cs : List Value) : Prop := ∃ k s n A l c A4 l4 c4 A5 l5 c5, cs = [.int .i64 k, .string s, .int .i64 n, .slice A l c, .slice A4 l4 c4, .slice A5 l5 c5]
theorem ClSh.len {cs : List Value} (h : ClSh cs) : cs.length = 6 := by
  obtain ⟨_, _, _, _, _, _, _, _, _, _, _, _, rfl⟩ := h
  rfl
theorem ClSh.one {cs : List Value} (h : ClSh cs) : ∀ v ∈ cs, v.oneCell' = true := by
  obtain ⟨_, _, _, _, _, _, _, _, _, _, _, _, rfl⟩ := h
  intro v hv
  simp only [List.mem_cons, List.not_mem_nil, or_false] at hv
  rcases hv with rfl | rfl | rfl | rfl | rfl | rfl <;> rfl
/-- what clause comes to; the head is the caller's -/
def CqTo (w : World) (g A c : Nat) (T : List Tok) (a : Int) (hd : Tm) (B : Option Addr) (bc : Nat) (F : Rs Cl) (e : Ending) (w' : World) : Prop := Chg (· = g) w w' ∧
  match F with
  | .ok (x, m) => ∃ (xs : List Lain) (A4 : Option Addr) (c4 : Nat) (ys : List GLain) (A5 : Option Addr) (c5 : Nat), x = ⟨hd, xs.map (·.1), ys.map (·.1)⟩ ∧
      e = .returned (.agg #[.int .i64 hd.kind, .string hd.name, .int .i64 hd.n, .slice B hd.args.length bc, .slice A4 xs.length c4, .slice A5 ys.length c5]) ∧
      RowIn ST w' (New w w') (.slice A4 xs.length c4) xs ∧ RowIn SG w' (New w w') (.slice A5 ys.length c5) ys ∧ PgAt w' g A c T m 0 a ((0 : Nat) : Int)
  | .error (q, y) => y ≠ 0 ∧ (∃ cs, ClSh cs ∧ e = .returned (.agg cs.toArray)) ∧ ∃ i' d', PgAt w' g A c T i' y q d'

section
variable {X : Type} {S : Srt X} {w w5 wf : World} {p o B : Nat} {v v' : Value} {xs : List X} {D : Nat → Prop} {y : X}
/-- a thing put behind the others of a row whose place is cell o of block p -/
theorem slot_add (hS : Slot S B w p o v xs D) (hD : ∀ b, D b → b < w.heap.size) (hy : S.In w (fun b => (B ≤ b ∧ b < w.heap.size) ∧ ¬ D b ∧ v.ownBlock ≠ some b) y)
    (k : Chg (fun x => v.ownBlock = some x) w w5) (ho : w5.ownsRow B S.ty S.sz v' (xs.length + 1) (S.row xs ++ S.cells y)) (hat : Grown w v v') (hwf : wf = w5.setCell ⟨p, o, none⟩ v') :
    Slot S B wf p o v' (xs ++ [y]) D ∧ Chg (fun x => x = p ∨ v.ownBlock = some x) w wf ∧ Beside p o w wf := by
  subst hwf
  have hpl := World.block_lt_of_cell? w _ hS.cell
  have hv : ∀ x, x < B → v.ownBlock ≠ some x := fun x hx e => by have := (hS.inv.lt x e).1; omega
  have hp5 := k.block p hpl (hv p hS.lt)
  have kp : Chg (fun x => x = p) w5 (w5.setCell ⟨p, o, none⟩ v') := (Chg.refl _ w5).setg _ _
  have hA := hS.inv.app hy hD k ho hat
  have hA' : GInv S B (w5.setCell ⟨p, o, none⟩ v') v' (xs ++ [y]) D := hA.far (fun b h1 h2 _ => kp.block b h2 (by have := hS.lt; omega)) (fun _ _ _ e => e) kp.size
  have c5 : w5.cell? ⟨p, o, none⟩ = some v := (World.cell?_of_block (w := w) hp5).trans hS.cell
  have f5 : w5.frozen? ⟨p, o, none⟩ = false := (World.frozen?_of_block (w := w) hp5).trans hS.fz
  refine ⟨⟨hA', by go_simp, by simpa using f5, hS.lt⟩, ?_, fun j => ⟨fun hj => ?_, ?_⟩⟩
  · exact (k.weak fun _ e => .inr e).trans (kp.weak fun _ e => .inl e)
  · rw [World.cell?_setCell_other _ _ _ _ (fun e => by injection e with _ e; exact hj e.symm), World.cell?_of_block (w := w) hp5]
  · simpa using World.frozen?_of_block (w := w) (a := ⟨p, j, none⟩) hp5
/-- the row beside it -/
theorem slot_beside {Y : Type} {S' : Srt Y} {o2 : Nat} {u : Value} {ys : List Y} (h : Slot S' B w p o2 u ys (fun b => v.ownBlock = some b)) (k : Chg (fun x => x = p ∨ v.ownBlock = some x) w wf) (hb : Beside p o w wf) (hat : Grown w v v') (ho : o2 ≠ o) :
    Slot S' B wf p o2 u ys (fun b => v'.ownBlock = some b) := by
  refine ⟨h.inv.far (fun b h1 h2 h3 => k.block b h2 (fun e => by rcases e with e | e; have := h.lt; omega; exact h3 e)) (fun b _ h2 e => by rcases hat with e' | ⟨q, e', hq⟩; exact e' ▸ e; rw [e'] at e; injection e with e; omega) k.size, ?_, ?_, h.lt⟩
  · rw [(hb o2).1 ho]; exact h.cell
  · rw [(hb o2).2]; exact h.fz
end
theorem BoxN.beside1 {w w' : World} {p o : Nat} {cs : List Value} {v : Value} (h : BoxN w p cs) (k : Beside p o w w') (hv : w'.cell? ⟨p, o, none⟩ = some v) (ho : o < cs.length) : BoxN w' p (cs.set o v) := by
  refine ⟨fun j u hj => ?_, fun j hj => ?_, by simpa using h.pos⟩
  · rw [Nat.zero_add]
    rw [List.getElem?_set] at hj
    by_cases e : o = j
    · subst e
      rw [if_pos rfl, if_pos ho] at hj
      rw [hv]; exact hj
    · rw [if_neg e] at hj
      rw [(k j).1 (fun x => e x.symm)]
      exact h.cell j hj
  · obtain ⟨h1, h2⟩ := h.thr j (by simpa using hj)
    rw [Nat.zero_add] at h1 h2 ⊢
    refine ⟨?_, by rw [(k j).2]; exact h2⟩
    by_cases e : j = o
    · subst e; rw [hv]; rfl
    · rw [(k j).1 e]; exact h1

/-- c of clause: its block p, the rows of body and guards; the result's block r -/
structure CqIn (g B0 p r : Nat) (k : Int) (s : ByteArray) (n : Int) (B : Option Addr) (l bc : Nat) (w0 wr : World) (v4 v5 : Value) (xs : List Lain) (ys : List GLain) : Prop where
  s4 : Slot ST B0 wr p 4 v4 xs (fun b => v5.ownBlock = some b)
  s5 : Slot SG B0 wr p 5 v5 ys (fun b => v4.ownBlock = some b)
  bx : BoxN wr p [.int .i64 k, .string s, .int .i64 n, .slice B l bc, v4, v5]
  rr : ∃ zs, zs.length = 6 ∧ BoxN wr r zs
  chg : Chg (fun x => x = g ∨ x = p) w0 wr
  rp : r < B0 ∧ r ≠ p ∧ r ≠ g ∧ p ≠ g ∧ g < B0 ∧ w0.heap.size = B0
section
variable {g B0 p r : Nat} {k : Int} {s : ByteArray} {n : Int} {B : Option Addr} {l bc : Nat} {w0 wr w' w5 : World} {v4 v5 v' : Value} {xs : List Lain} {ys : List GLain}
theorem CqIn.step (h : CqIn g B0 p r k s n B l bc w0 wr v4 v5 xs ys) (c : Chg (· = g) wr w') : CqIn g B0 p r k s n B l bc w0 w' v4 v5 xs ys := by
  obtain ⟨h1, h2, h3, h4, h5, h6⟩ := h.rp
  obtain ⟨zs, hz, hb⟩ := h.rr
  exact ⟨h.s4.keep c fun b e => ⟨.inl (by omega), by omega⟩, h.s5.keep c fun b e => ⟨.inl (by omega), by omega⟩, h.bx.chg c h4, ⟨zs, hz, hb.chg c h3⟩, h.chg.trans (c.weak fun _ e => .inl e), h.rp⟩
theorem CqIn.ext (h : CqIn g B0 p r k s n B l bc w0 wr v4 v5 xs ys) (c : Ext wr w') : CqIn g B0 p r k s n B l bc w0 w' v4 v5 xs ys := h.step (Chg.of_ext c)
theorem CqIn.lt4 (h : CqIn g B0 p r k s n B l bc w0 wr v4 v5 xs ys) : ∀ q, v4.ownBlock = some q → B0 ≤ q ∧ q < wr.heap.size := h.s4.inv.lt
theorem CqIn.lt5 (h : CqIn g B0 p r k s n B l bc w0 wr v4 v5 xs ys) : ∀ q, v5.ownBlock = some q → B0 ≤ q ∧ q < wr.heap.size := h.s5.inv.lt
theorem chg_own2 {w0 w w5 : World} {g p B0 : Nat} {v : Value} (h : Chg (fun x => x = g ∨ x = p) w0 w) (k : Chg (fun x => x = p ∨ v.ownBlock = some x) w w5) (hv : ∀ q, v.ownBlock = some q → B0 ≤ q) (hB : w0.heap.size = B0) : Chg (fun x => x = g ∨ x = p) w0 w5 :=
  ⟨k.os.trans h.os, k.tape.trans h.tape, k.output.trans h.output, Nat.le_trans h.size k.size, fun x hx hf => by
    rw [k.block x (by have := h.size; omega) (fun e => by rcases e with e | e; exact hf (.inr e); have := hv x e; omega)]
    exact h.block x hx hf⟩
theorem CqIn.addT {m : Nat} {wf : World} {y : Lain} (h : CqIn g B0 p r k s n B l bc w0 wr v4 v5 xs ys) (h4 : ∀ q, v4.ownBlock = some q → q < m) (h5 : ∀ q, v5.ownBlock = some q → q < m) (hB : B0 ≤ m) (hy : TmIn wr (fun b => m ≤ b ∧ b < wr.heap.size) y.1 y.2.1 y.2.2)
    (c : Chg (fun x => v4.ownBlock = some x) wr w5) (ho : w5.ownsRow B0 ST.ty ST.sz v' (xs.length + 1) (ST.row xs ++ ST.cells y)) (hat : Grown wr v4 v') (hwf : wf = w5.setCell ⟨p, 4, none⟩ v') : CqIn g B0 p r k s n B l bc w0 wf v' v5 (xs ++ [y]) ys := by
  obtain ⟨r1, r2, r3, r4, r5, r6⟩ := h.rp
  have hy' : ST.In wr (fun b => (B0 ≤ b ∧ b < wr.heap.size) ∧ ¬ v5.ownBlock = some b ∧ v4.ownBlock ≠ some b) y := ST.keep (show ST.In wr (fun b => m ≤ b ∧ b < wr.heap.size) y from hy) fun b hb _ => ⟨rfl, ⟨by have := hb.1; omega, hb.2⟩, fun e => by have := h5 b e; have := hb.1; omega, fun e => by have := h4 b e; have := hb.1; omega⟩
  obtain ⟨k1, k2, k3⟩ := slot_add h.s4 (fun b e => (h.lt5 b e).2) hy' c ho hat hwf
  have kx : ∀ x, x < B0 → x ≠ p → wf.heap[x]? = wr.heap[x]? := fun x hx hp => k2.block x (by have := h.chg.size; omega) (fun e => by rcases e with e | e; exact hp e; have := (h.lt4 x e).1; omega)
  obtain ⟨zs, hz, hb⟩ := h.rr
  refine ⟨k1, slot_beside h.s5 k2 k3 hat (by decide), ?_, ⟨zs, hz, hb.same (kx r r1 r2)⟩, chg_own2 h.chg k2 (fun q e => (h.lt4 q e).1) r6, h.rp⟩
  have := h.bx.beside1 k3 k1.cell (by simp)
  simpa using this
theorem CqIn.addG {m : Nat} {wf : World} {y : GLain} (h : CqIn g B0 p r k s n B l bc w0 wr v4 v5 xs ys) (h4 : ∀ q, v4.ownBlock = some q → q < m) (h5 : ∀ q, v5.ownBlock = some q → q < m) (hB : B0 ≤ m) (hy : GdIn wr (fun b => m ≤ b ∧ b < wr.heap.size) y)
    (c : Chg (fun x => v5.ownBlock = some x) wr w5) (ho : w5.ownsRow B0 SG.ty SG.sz v' (ys.length + 1) (SG.row ys ++ SG.cells y)) (hat : Grown wr v5 v') (hwf : wf = w5.setCell ⟨p, 5, none⟩ v') : CqIn g B0 p r k s n B l bc w0 wf v4 v' xs (ys ++ [y]) := by
  obtain ⟨r1, r2, r3, r4, r5, r6⟩ := h.rp
  have hy' : SG.In wr (fun b => (B0 ≤ b ∧ b < wr.heap.size) ∧ ¬ v4.ownBlock = some b ∧ v5.ownBlock ≠ some b) y := SG.keep (show SG.In wr (fun b => m ≤ b ∧ b < wr.heap.size) y from hy) fun b hb _ => ⟨rfl, ⟨by have := hb.1; omega, hb.2⟩, fun e => by have := h4 b e; have := hb.1; omega, fun e => by have := h5 b e; have := hb.1; omega⟩
  obtain ⟨k1, k2, k3⟩ := slot_add h.s5 (fun b e => (h.lt4 b e).2) hy' c ho hat hwf
  have kx : ∀ x, x < B0 → x ≠ p → wf.heap[x]? = wr.heap[x]? := fun x hx hp => k2.block x (by have := h.chg.size; omega) (fun e => by rcases e with e | e; exact hp e; have := (h.lt5 x e).1; omega)
  obtain ⟨zs, hz, hb⟩ := h.rr
  refine ⟨slot_beside h.s4 k2 k3 hat (by decide), k1, ?_, ⟨zs, hz, hb.same (kx r r1 r2)⟩, chg_own2 h.chg k2 (fun q e => (h.lt5 q e).1) r6, h.rp⟩
  have := h.bx.beside1 k3 k1.cell (by simp)
  simpa using this
/-- the reader stays -/
theorem PgAt.own {w wf : World} {A c : Nat} {T : List Tok} {i : Nat} {e a d : Int} {v : Value} (h : PgAt w g A c T i e a d) (k : Chg (fun x => x = p ∨ v.ownBlock = some x) w wf) (hv : ∀ q, v.ownBlock = some q → B0 ≤ q) (hg : g < B0 ∧ p ≠ g) (hA : A < B0 ∧ p ≠ A) : PgAt wf g A c T i e a d :=
  h.keep fun x hx e => k.block x hx (fun f => by rcases f with f | f; (rcases e with e | e <;> omega); have := hv x f; rcases e with e | e <;> omega)
/-- c is told: copied into the result's block -/
theorem CqIn.done {w wf : World} {cs : List Value} (h : CqIn g B0 p r k s n B l bc w0 wr v4 v5 xs ys) (hx : Ext w w0) (hr : w.heap.size ≤ r) (hp : w.heap.size ≤ p) (hwf : wf = wr.setCells r 0 cs) :
    Chg (· = g) w wf ∧ RowIn ST wf (New w wf) v4 xs ∧ RowIn SG wf (New w wf) v5 ys ∧ Chg (· = r) wr wf := by
  obtain ⟨r1, r2, r3, r4, r5, r6⟩ := h.rp
  have hCf : Chg (· = r) wr wf := by rw [hwf]; exact setCells_chg _ _ _ 0 _ (Chg.refl _ _)
  have h1 : Chg (· = g) w wr := chg_new (Chg.of_ext hx) h.chg hp
  have hs := hCf.size
  refine ⟨chg_new h1 (hCf.weak fun x hx => .inr hx) hr, ?_, ?_, hCf⟩
  · exact h.s4.inv.row.keep fun b hb _ => ⟨hCf.block b hb.1.2 (by have := hb.1.1; omega), by have := hb.1.1; have := hx.size; omega, by have := hb.1.2; omega⟩
  · exact h.s5.inv.row.keep fun b hb _ => ⟨hCf.block b hb.1.2 (by have := hb.1.1; omega), by have := hb.1.1; have := hx.size; omega, by have := hb.1.2; omega⟩
end
end Go.Proofs.YtbjghkmjnhmlfaaGreatDoor

/- The page's reader: rule: what it comes to; must and take from either state; the rule's cells as they lie there. -/
namespace Go.Proofs.YtbjghkmjnhmlfaaGreatDoor
open Go.RowKit

section
variable {w : World} {g A c : Nat} {T : List Tok} {i : Nat} {a d : Int}
theorem wpList_move {P : Program} {ops : Array Oper} {rest : List Oper} {op : Oper} {a : Act} {w : World} {Q : Exit → Act → World → Prop} (hgd : op.guard = none) (x : Operand) (ho : op.op = .move x) (v : Value) (hv : a.eval x = v)
    (h : wpList P ops Q rest (a.put op.dst v) w) : wpList P ops Q (op :: rest) a w :=
  wpList_plain hgd fun _ hK => by
    unfold Oper.wp execOp
    simp only [ho]
    subst hv
    exact hK _ _ h
theorem wpList_assign {P : Program} {ops : Array Oper} {rest : List Oper} {op : Oper} {a : Act} {w : World} {Q : Exit → Act → World → Prop} (hgd : op.guard = none) (x : Operand) (ho : op.op = .assign x) (v : Value) (hv : a.eval x = v)
    (h : wpList P ops Q rest (a.put op.dst v) w) : wpList P ops Q (op :: rest) a w :=
  wpList_plain hgd fun _ hK => by
    unfold Oper.wp execOp
    simp only [ho]
    subst hv
    exact hK _ _ h
set_option maxRecDepth 100000 in
set_option maxHeartbeats 1000000 in
theorem must_nyes (hG : ToksG T) (m : Nat) (h15 : 15 ≤ m) (hm : m < 34) (s : ByteArray) (hs : s = txt (roleTexts[m]?.getD [])) (h : PgAt w g A c T i 0 a d) (hr : rl T i = 4 + m) :
    Calls Tryz.prog 22 #[.pointer (some ⟨g, 0, none⟩), .int .i64 1, .string s] w fun e w' => e = .returned (.tuple #[]) ∧ PgAt w' g A c T (i + 1) 0 a d ∧ Chg (· = g) w w' := by
  have KI := name_pg hG m h15 hm s hs h
  rw [decide_eq_true hr] at KI
  have KI := Lib.hid KI
  have hl := h.len
  have il := h.il
  have hi1 := hG.ends.2 i (by rw [hr]; omega)
  have hw1 : IntKind.i64.wrap ((i : Int) + 1) = (i : Int) + 1 := by rw [IntKind.wrap_i64]; omega
  have HH := Lib.hid h
  have c2 := h.c2
  clear h hl hr
  clear hs hm hG
  go_enter Tryz.func22, Tryz.ntmps22
  go_wp2_with fail
  refine KI.out.mono ?_
  rintro e w1 ⟨rfl, hx1⟩
  have h1 := HH.out.ext hx1
  have c1 := h1.c1
  have f1 := h1.fr 1 (by omega)
  have H1 := Lib.hid (h1.to (i + 1) hi1)
  clear h1
  go_wp2_with fail
  go_end0
  refine ⟨rfl, ?_, (Chg.of_ext hx1).setg _ _⟩
  have := H1.out
  rwa [Int.natCast_add] at this
set_option maxRecDepth 100000 in
set_option maxHeartbeats 1000000 in
theorem must_nno (hG : ToksG T) (m : Nat) (h15 : 15 ≤ m) (hm : m < 34) (s : ByteArray) (hs : s = txt (roleTexts[m]?.getD [])) (h : PgAt w g A c T i 0 a d) (hr : rl T i ≠ 4 + m) :
    Calls Tryz.prog 22 #[.pointer (some ⟨g, 0, none⟩), .int .i64 1, .string s] w fun e w' => e = .returned (.tuple #[]) ∧ PgAt w' g A c T i 4 (tk T i).at_ d ∧ Chg (· = g) w w' := by
  have KI := name_pg hG m h15 hm s hs h
  rw [decide_eq_false hr] at KI
  have KI := Lib.hid KI
  have HH := Lib.hid h
  have c2 := h.c2
  have q3 := fld3
  clear h hr
  clear hs hm hG
  go_enter Tryz.func22, Tryz.ntmps22
  go_wp2_with fail
  refine KI.out.mono ?_
  rintro e w1 ⟨rfl, hx1⟩
  have KN := Lib.hid (now_pg (HH.out.ext hx1))
  go_wp2_with fail
  refine KN.out.mono ?_
  rintro e w2 ⟨rfl, hx2⟩
  have KF := Lib.hid (fails_yes 4 (tk T i).at_ (HH.out.ext (hx1.trans hx2)))
  go_wp2_with fail
  refine KF.out.mono ?_
  rintro e w3 ⟨rfl, hE, hC3⟩
  have HE := Lib.hid hE
  clear hE
  go_wp2_with fail
  ((try simp only [Exit.inBlock, Exit.then]); refine bodyPost_ret (results_none rfl _ _ _) rfl ?_)
  exact ⟨rfl, HE.out, (Chg.of_ext (hx1.trans hx2)).trans hC3⟩
end
/-- a word of this role must be there -/
def mkF (T : List Tok) (r j : Nat) : Rs Unit := if rl T j = r then .ok ((), j + 1) else .error (bad T j)
theorem mustm_gs {T : List Tok} (hG : ToksG T) {w : World} {g A c b : Nat} {a : Int} {S : Rs Unit} (m : Nat) (hm : m < 15) (s : ByteArray) (hs : s = txt (roleTexts[m]?.getD [])) (h : Gs w g A c T a b S) :
    Calls Tryz.prog 22 #[.pointer (some ⟨g, 0, none⟩), .int .i64 4, .string s] w fun e w' => e = .returned (.tuple #[]) ∧ Gs w' g A c T a b (thenS S (mkF T (4 + m))) ∧ Chg (· = g) w w' := by
  match S, h with
  | .ok (_, j), h =>
    by_cases h4 : rl T j = 4 + m
    · refine (must_pyes hG m hm _ hs h h4).mono fun e w' ⟨he, h', hC⟩ => ⟨he, ?_, hC⟩
      rw [show thenS (.ok ((), j)) (mkF T (4 + m)) = .ok ((), j + 1) by simp only [thenS, mkF]; rw [if_pos h4]]
      exact h'
    · refine (must_pno hG m hm _ hs h h4).mono fun e w' ⟨he, h', hC⟩ => ⟨he, ?_, hC⟩
      rw [show thenS (.ok ((), j)) (mkF T (4 + m)) = .error (bad T j) by simp only [thenS, mkF]; rw [if_neg h4]]
      exact ⟨by decide, _, _, h'⟩
  | .error (q, x), ⟨hx, i', d', hE⟩ => exact (must_per 4 _ hE hx).mono fun e w' ⟨he, hx'⟩ => ⟨he, ⟨hx, _, _, hE.ext hx'⟩, Chg.of_ext hx'⟩
theorem mustn_gs {T : List Tok} (hG : ToksG T) {w : World} {g A c b : Nat} {a : Int} {S : Rs Unit} (m : Nat) (h15 : 15 ≤ m) (hm : m < 34) (s : ByteArray) (hs : s = txt (roleTexts[m]?.getD [])) (h : Gs w g A c T a b S) :
    Calls Tryz.prog 22 #[.pointer (some ⟨g, 0, none⟩), .int .i64 1, .string s] w fun e w' => e = .returned (.tuple #[]) ∧ Gs w' g A c T a b (thenS S (mkF T (4 + m))) ∧ Chg (· = g) w w' := by
  match S, h with
  | .ok (_, j), h =>
    by_cases h4 : rl T j = 4 + m
    · refine (must_nyes hG m h15 hm _ hs h h4).mono fun e w' ⟨he, h', hC⟩ => ⟨he, ?_, hC⟩
      rw [show thenS (.ok ((), j)) (mkF T (4 + m)) = .ok ((), j + 1) by simp only [thenS, mkF]; rw [if_pos h4]]
      exact h'
    · refine (must_nno hG m h15 hm _ hs h h4).mono fun e w' ⟨he, h', hC⟩ => ⟨he, ?_, hC⟩
      rw [show thenS (.ok ((), j)) (mkF T (4 + m)) = .error (bad T j) by simp only [thenS, mkF]; rw [if_neg h4]]
      exact ⟨by decide, _, _, h'⟩
  | .error (q, x), ⟨hx, i', d', hE⟩ => exact (must_per 1 _ hE hx).mono fun e w' ⟨he, hx'⟩ => ⟨he, ⟨hx, _, _, hE.ext hx'⟩, Chg.of_ext hx'⟩

/-! what rule comes to -/
def ruleR (hd : Tm) (p : Pt) (nw : Int) (C : Rs (List Gd × Int)) : Rs Rl := match C with
  | .error e => .error e
  | .ok ((gs, pol), m) => .ok (⟨hd, p, gs, nw, pol⟩, m)
def ruleQ (T : List Tok) (hd : Tm) (i : Nat) : Rs Rl := match patP T 100 i with
  | .error e => .error e
  | .ok (p, j0) => match thenS (mkF T 6 j0) (mkF T 23) with
    | .error e => .error e
    | .ok (_, j) => if rl T j = 2 then ruleR hd p (tk T j).n (condP T (j + 1)) else .error (bad T j)
theorem ruleP_is (T : List Tok) (hd : Tm) (i : Nat) : ruleP T hd i = match ruleQ T hd i with
    | .error e => .error e
    | .ok (x, m) => if rl T m = 7 then (if muchB x.body then .error (lim T i) else .ok (x, m + 1)) else .error (bad T m) := by
  unfold ruleP ruleQ
  match patP T 100 i with
  | .error e => rfl
  | .ok (p, j) =>
    by_cases h6 : rl T j = 6
    · by_cases h23 : rl T (j + 1) = 23
      · by_cases h2 : rl T (j + 2) = 2
        · simp only [mkF, thenS, if_pos h6, if_pos h23, if_pos h2, ruleR]
          match condP T (j + 3) with
          | .error e => rfl
          | .ok ((gs, pol), m) =>
            by_cases h7 : rl T m = 7
            · simp only [if_pos h7]
            · simp only [if_neg h7]
        · simp only [mkF, thenS, if_pos h6, if_pos h23, if_neg h2]
      · simp only [mkF, thenS, if_pos h6, if_neg h23]
    · simp only [mkF, thenS, if_neg h6]
/-- guards, then perhaps a policy: as the page has it -/
def whereQ (T : List Tok) : Nat → List Gd → Nat → Rs (List Gd × Int)
  | 0, _, i => .error (bad T i)
  | n + 1, gs, i => match guardQ T i with
    | .error e => .error e
    | .ok (x, j) => if gs.length = 4 then .error (lim T i) else if rl T j = 6 then
        (if (rl T (j + 1) = 21 ∨ rl T (j + 1) = 22) ∧ rl T (j + 1 + 1) = 7 then .ok ((gs ++ [x], (rl T (j + 1) : Nat) - 20), j + 1 + 1) else whereQ T n (gs ++ [x]) (j + 1))
      else .ok ((gs ++ [x], 0), j)
theorem whereP_is {T : List Tok} (hT : EndLast T) : ∀ n gs i, T.length ≤ n + i → i < T.length → whereP T n gs i =
    if 0 < gs.length ∧ (rl T i = 21 ∨ rl T i = 22) ∧ rl T (i + 1) = 7 then .ok ((gs, (rl T i : Nat) - 20), i + 1) else whereQ T n gs i
  | 0, _, _, h, hi => by omega
  | n + 1, gs, i, h, hi => by
    rw [whereP]
    by_cases hp : 0 < gs.length ∧ (rl T i = 21 ∨ rl T i = 22) ∧ rl T (i + 1) = 7
    · rw [if_pos hp, if_pos hp]
    · rw [if_neg hp, if_neg hp, whereQ, guardP_is]
      match hg : guardQ T i with
      | .error e => rfl
      | .ok (x, j) =>
        by_cases h4 : gs.length = 4
        · simp only [if_pos h4]
        · simp only [if_neg h4]
          by_cases h6 : rl T j = 6
          · simp only [if_pos h6]
            have hgp : guardP T gs i = .ok (gs ++ [x], j) := by rw [guardP_is, hg]; simp only [if_neg h4]
            have ht := guardP_takes hT hgp
            have hj := hT.next 6 h6 (by omega)
            rw [whereP_is hT n (gs ++ [x]) (j + 1) (by omega) hj]
            by_cases hq : (rl T (j + 1) = 21 ∨ rl T (j + 1) = 22) ∧ rl T (j + 1 + 1) = 7
            · rw [if_pos ⟨by simp, hq⟩, if_pos hq]
            · rw [if_neg (fun e => hq e.2), if_neg hq]
          · simp only [if_neg h6]
theorem guardQ_takes {T : List Tok} (hT : EndLast T) {i : Nat} {x : Gd} {j : Nat} (h : guardQ T i = .ok (x, j)) : i < j ∧ j < T.length := by
  have : guardP T [] i = .ok ([] ++ [x], j) := by rw [guardP_is, h]; rfl
  have := guardP_takes hT this
  omega
/-- the sixteen cells of a rule, by parts -/
def rx (h4 cs : List Value) (v : Value) (n p : Int) : List Value := h4 ++ cs ++ [v, .int .i64 n, .int .i64 p]
def hdL (hd : Tm) (B : Option Addr) (bc : Nat) : List Value := [.int .i64 hd.kind, .string hd.name, .int .i64 hd.n, .slice B hd.args.length bc]
/-- what rule comes to; the head is the caller's -/
def RqTo (w : World) (g A c : Nat) (T : List Tok) (a : Int) (i : Nat) (hd : Tm) (B : Option Addr) (bc : Nat) (F : Rs Rl) (e : Ending) (w' : World) : Prop := Chg (· = g) w w' ∧
  match F with
  | .ok (x, m) => ∃ (pl : PtPl) (ys : List GLain) (A5 : Option Addr) (c5 : Nat), x.head = hd ∧ x.guards = ys.map (·.1) ∧
      e = .returned (.tuple #[.agg (rx (hdL hd B bc) (x.body.cells pl) (.slice A5 ys.length c5) x.within x.policy).toArray, .int .i64 (tk T i).at_]) ∧
      PtIn w' (New w w') x.body pl ∧ RowIn SG w' (New w w') (.slice A5 ys.length c5) ys ∧ PgAt w' g A c T m 0 a ((0 : Nat) : Int)
  | .error (q, y) => y ≠ 0 ∧ (∃ cs9, Sh9 cs9 ∧ ∃ (A5 : Option Addr) (l5 c5 : Nat) (n14 n15 : Int), e = .returned (.tuple #[.agg (rx (hdL hd B bc) cs9 (.slice A5 l5 c5) n14 n15).toArray, .int .i64 (tk T i).at_])) ∧ ∃ i' d', PgAt w' g A c T i' y q d'
theorem BoxN.mid {g : Nat} : ∀ (us zs pre post : List Value) (w : World), zs.length = us.length → BoxN w g (pre ++ zs ++ post) → BoxN (w.setCells g pre.length us) g (pre ++ us ++ post)
  | [], zs, pre, post, w, hl, h => by
    have : zs = [] := List.eq_nil_of_length_eq_zero hl
    subst this; exact h
  | u :: us, z :: zs, pre, post, w, hl, h => by
    have h1 := h.set1 pre.length u (by simp)
    rw [show (pre ++ z :: zs ++ post).set pre.length u = (pre ++ [u]) ++ zs ++ post by simp] at h1
    have h2 := BoxN.mid us zs (pre ++ [u]) post _ (by simpa using hl) h1
    simpa [World.setCells] using h2
theorem rx_len {h4 cs : List Value} {v : Value} {n p : Int} (h : h4.length = 4) (hc : cs.length = 9) : (rx h4 cs v n p).length = 16 := by simp [rx, h, hc]
theorem rx_13 {h4 cs : List Value} {v : Value} {n p : Int} (h : h4.length = 4) (hc : cs.length = 9) : (rx h4 cs v n p)[13]? = some v := by
  unfold rx; rw [List.getElem?_append_right (by simp [h, hc])]; simp [h, hc]
theorem rx_14 {h4 cs : List Value} {v : Value} {n p : Int} (h : h4.length = 4) (hc : cs.length = 9) : (rx h4 cs v n p)[14]? = some (.int .i64 n) := by
  unfold rx; rw [List.getElem?_append_right (by simp [h, hc])]; simp [h, hc]
theorem rx_15 {h4 cs : List Value} {v : Value} {n p : Int} (h : h4.length = 4) (hc : cs.length = 9) : (rx h4 cs v n p)[15]? = some (.int .i64 p) := by
  unfold rx; rw [List.getElem?_append_right (by simp [h, hc])]; simp [h, hc]
theorem rx_set13 {h4 cs : List Value} {v v' : Value} {n p : Int} (h : h4.length = 4) (hc : cs.length = 9) : (rx h4 cs v n p).set 13 v' = rx h4 cs v' n p := by
  unfold rx; rw [List.set_append_right _ _ (by simp [h, hc])]; simp [h, hc]
theorem rx_set14 {h4 cs : List Value} {v : Value} {n n' p : Int} (h : h4.length = 4) (hc : cs.length = 9) : (rx h4 cs v n p).set 14 (.int .i64 n') = rx h4 cs v n' p := by
  unfold rx; rw [List.set_append_right _ _ (by simp [h, hc])]; simp [h, hc]
theorem rx_set15 {h4 cs : List Value} {v : Value} {n p p' : Int} (h : h4.length = 4) (hc : cs.length = 9) : (rx h4 cs v n p).set 15 (.int .i64 p') = rx h4 cs v n p' := by
  unfold rx; rw [List.set_append_right _ _ (by simp [h, hc])]; simp [h, hc]
def noQ : Nat → Prop := fun _ => False
/-- x of rule: its block q, the row of guards; the result's block r -/
structure RqIn (g B0 q r : Nat) (h4 cs : List Value) (n p : Int) (w0 wr : World) (v : Value) (ys : List GLain) : Prop where
  s13 : Slot SG B0 wr q 13 v ys noQ
  bx : BoxN wr q (rx h4 cs v n p)
  rr : ∃ zs, zs.length = 16 ∧ BoxN wr r zs
  chg : Chg (fun x => x = g ∨ x = q) w0 wr
  rp : r < B0 ∧ r ≠ q ∧ r ≠ g ∧ q ≠ g ∧ g < B0 ∧ w0.heap.size = B0
  h4 : h4.length = 4
  h9 : cs.length = 9
section
variable {g B0 q r : Nat} {h4 cs : List Value} {n p : Int} {w0 wr w' w5 : World} {v v' : Value} {ys : List GLain}
theorem RqIn.step (h : RqIn g B0 q r h4 cs n p w0 wr v ys) (c : Chg (· = g) wr w') : RqIn g B0 q r h4 cs n p w0 w' v ys := by
  obtain ⟨r1, r2, r3, r4, r5, r6⟩ := h.rp
  obtain ⟨zs, hz, hb⟩ := h.rr
  exact ⟨h.s13.keep c fun b e => ⟨.inl (by omega), by omega⟩, h.bx.chg c r4, ⟨zs, hz, hb.chg c r3⟩, h.chg.trans (c.weak fun _ e => .inl e), h.rp, h.h4, h.h9⟩
theorem RqIn.ext (h : RqIn g B0 q r h4 cs n p w0 wr v ys) (c : Ext wr w') : RqIn g B0 q r h4 cs n p w0 w' v ys := h.step (Chg.of_ext c)
theorem RqIn.lt (h : RqIn g B0 q r h4 cs n p w0 wr v ys) : ∀ b, v.ownBlock = some b → B0 ≤ b ∧ b < wr.heap.size := h.s13.inv.lt
/-- the window is set -/
theorem RqIn.win (h : RqIn g B0 q r h4 cs n p w0 wr v ys) (n' : Int) : RqIn g B0 q r h4 cs n' p w0 (wr.setCell ⟨q, 14, none⟩ (.int .i64 n')) v ys := by
  obtain ⟨r1, r2, r3, r4, r5, r6⟩ := h.rp
  obtain ⟨zs, hz, hb⟩ := h.rr
  have c : Chg (fun x => x = q) wr (wr.setCell ⟨q, 14, none⟩ (.int .i64 n')) := (Chg.refl _ wr).setg _ _
  have hbx := h.bx.set1 14 (.int .i64 n') (by rw [rx_len h.h4 h.h9]; decide)
  rw [rx_set14 h.h4 h.h9] at hbx
  refine ⟨⟨h.s13.inv.chg c (fun b e => .inl (by have := h.s13.lt; omega)), hbx.cell 13 (rx_13 h.h4 h.h9), hbx.fz 13 (by rw [rx_len h.h4 h.h9]; decide), h.s13.lt⟩, hbx, ⟨zs, hz, hb.chg c r2⟩, h.chg.trans (c.weak fun _ e => .inr e), h.rp, h.h4, h.h9⟩
/-- the policy is set -/
theorem RqIn.pol (h : RqIn g B0 q r h4 cs n p w0 wr v ys) {p' : Int} (c : Chg (fun x => x = g ∨ x = q) wr w') (hb' : BoxN w' q ((rx h4 cs v n p).set 15 (.int .i64 p'))) : RqIn g B0 q r h4 cs n p' w0 w' v ys := by
  obtain ⟨r1, r2, r3, r4, r5, r6⟩ := h.rp
  obtain ⟨zs, hz, hb⟩ := h.rr
  rw [rx_set15 h.h4 h.h9] at hb'
  refine ⟨⟨h.s13.inv.chg c (fun b e => .inl (by have := h.s13.lt; omega)), hb'.cell 13 (rx_13 h.h4 h.h9), hb'.fz 13 (by rw [rx_len h.h4 h.h9]; decide), h.s13.lt⟩, hb', ⟨zs, hz, hb.chg c (by omega)⟩, h.chg.trans c, h.rp, h.h4, h.h9⟩
theorem RqIn.pol1 (h : RqIn g B0 q r h4 cs n p w0 wr v ys) (p' : Int) : RqIn g B0 q r h4 cs n p' w0 (wr.setCell ⟨q, 15, none⟩ (.int .i64 p')) v ys :=
  h.pol (((Chg.refl (fun x => x = q) wr).setg _ _).weak fun _ e => .inr e) (h.bx.set1 15 (.int .i64 p') (by rw [rx_len h.h4 h.h9]; decide))
theorem RqIn.addG {m : Nat} {wf : World} {y : GLain} (h : RqIn g B0 q r h4 cs n p w0 wr v ys) (hm : ∀ b, v.ownBlock = some b → b < m) (hB : B0 ≤ m) (hy : GdIn wr (fun b => m ≤ b ∧ b < wr.heap.size) y)
    (c : Chg (fun x => v.ownBlock = some x) wr w5) (ho : w5.ownsRow B0 SG.ty SG.sz v' (ys.length + 1) (SG.row ys ++ SG.cells y)) (hat : Grown wr v v') (hwf : wf = w5.setCell ⟨q, 13, none⟩ v') : RqIn g B0 q r h4 cs n p w0 wf v' (ys ++ [y]) := by
  obtain ⟨r1, r2, r3, r4, r5, r6⟩ := h.rp
  have hy' : SG.In wr (fun b => (B0 ≤ b ∧ b < wr.heap.size) ∧ ¬ noQ b ∧ v.ownBlock ≠ some b) y := SG.keep (show SG.In wr (fun b => m ≤ b ∧ b < wr.heap.size) y from hy) fun b hb _ => ⟨rfl, ⟨by have := hb.1; omega, hb.2⟩, fun e => e, fun e => by have := hm b e; have := hb.1; omega⟩
  obtain ⟨k1, k2, k3⟩ := slot_add h.s13 (fun b e => e.elim) hy' c ho hat hwf
  have kx : ∀ x, x < B0 → x ≠ q → wf.heap[x]? = wr.heap[x]? := fun x hx hp => k2.block x (by have := h.chg.size; omega) (fun e => by rcases e with e | e; exact hp e; have := (h.lt x e).1; omega)
  obtain ⟨zs, hz, hb⟩ := h.rr
  refine ⟨k1, ?_, ⟨zs, hz, hb.same (kx r r1 r2)⟩, chg_own2 h.chg k2 (fun q e => (h.lt q e).1) r6, h.rp, h.h4, h.h9⟩
  have := h.bx.beside1 k3 k1.cell (by rw [rx_len h.h4 h.h9]; decide)
  rwa [rx_set13 h.h4 h.h9] at this
/-- x is told: copied into the result's block -/
theorem RqIn.done {w wf : World} {zz : List Value} (h : RqIn g B0 q r h4 cs n p w0 wr v ys) (hC : Chg (· = g) w w0) (hr : w.heap.size ≤ r) (hp : w.heap.size ≤ q) (hwf : wf = wr.setCells r 0 zz) :
    Chg (· = g) w wf ∧ RowIn SG wf (New w wf) v ys ∧ Chg (· = r) wr wf ∧ ∀ b, b < B0 → b ≠ g → b ≠ q → b ≠ r → wf.heap[b]? = w0.heap[b]? := by
  obtain ⟨r1, r2, r3, r4, r5, r6⟩ := h.rp
  have hCf : Chg (· = r) wr wf := by rw [hwf]; exact setCells_chg _ _ _ 0 _ (Chg.refl _ _)
  have h1 : Chg (· = g) w wr := chg_new hC h.chg hp
  have hs := hCf.size
  have hs0 := hC.size
  have hs1 := h.chg.size
  refine ⟨chg_new h1 (hCf.weak fun x hx => .inr hx) hr, ?_, hCf, fun b h1 h2 h3 h4 => ?_⟩
  · exact h.s13.inv.row.keep fun b hb _ => ⟨hCf.block b hb.1.2 (by have := hb.1.1; omega), by have := hb.1.1; omega, by have := hb.1.2; omega⟩
  · rw [hCf.block b (by omega) h4, h.chg.block b (by omega) (by omega)]
theorem Gs.chgq {w w' : World} {A c : Nat} {T : List Tok} {a : Int} {b : Nat} {S : Rs Unit} (h : Gs w g A c T a b S) (k : Chg (fun x => x = q) w w') (hq : q ≠ g ∧ q ≠ A) : Gs w' g A c T a b S := by
  match S, h with
  | .ok (_, j), h => exact PgAt.chg h k fun x _ e => by subst e; exact hq
  | .error (q', x), ⟨hx, i', d', hE⟩ => exact ⟨hx, i', d', hE.chg k fun x _ e => by subst e; exact hq⟩
theorem GdTo.val {w w' : World} {A c : Nat} {T : List Tok} {a : Int} {F : Rs Gd} {e : Ending} (h : GdTo w g A c T a F e w') : ∃ cs, GdSh cs ∧ e = .returned (.agg cs.toArray) := by
  match F, h with
  | .ok (x, m), ⟨_, p, he, _⟩ => exact ⟨gdCells (x, p), ⟨_, _, _, _, _, _, _, _, _, _, _, _, _, rfl⟩, he⟩
  | .error (q, y), ⟨_, _, he, _⟩ => exact he
end
end Go.Proofs.YtbjghkmjnhmlfaaGreatDoor

/- The page's reader: policy. -/
namespace Go.Proofs.YtbjghkmjnhmlfaaGreatDoor
open Go.RowKit

theorem dot_txt : (⟨#[46]⟩ : ByteArray) = txt (roleTexts[3]?.getD []) := by decide
theorem beq_lit {s : ByteArray} {l : List UInt8} {b : Bool} (h : decide (s.data.toList = l) = b) : (s.toList == l) = b := by
  rw [← h, Lib.toList_data]
  exact beq_dec _ _
/-- what policy comes to: the rule lies in block q -/
def PolTo (w : World) (g A c : Nat) (T : List Tok) (i : Nat) (a d : Int) (q : Nat) (cs : List Value) (e : Ending) (w' : World) : Prop :=
  (((rl T i = 21 ∨ rl T i = 22) ∧ rl T (i + 1) = 7) ∧ e = .returned (.bool true) ∧ PgAt w' g A c T (i + 1) 0 a d ∧ BoxN w' q (cs.set 15 (.int .i64 ((rl T i : Int) - 20))) ∧ Chg (fun x => x = g ∨ x = q) w w') ∨
  (¬ ((rl T i = 21 ∨ rl T i = 22) ∧ rl T (i + 1) = 7) ∧ e = .returned (.bool false) ∧ Ext w w')
set_option maxRecDepth 100000 in
set_option maxHeartbeats 4000000 in
theorem policy_pg {T : List Tok} (hG : ToksG T) {w : World} {g A c i q : Nat} {a d n : Int} {cs : List Value} (h : PgAt w g A c T i 0 a d) (hb : BoxN w q cs) (h15 : cs[15]? = some (.int .i64 n)) (hqg : q ≠ g) (hqA : q ≠ A) :
    Calls Tryz.prog 40 #[.pointer (some ⟨g, 0, none⟩), .pointer (some ⟨q, 0, none⟩)] w (PolTo w g A c T i a d q cs) := by
  have q0 := fld0
  have q1 := fld1
  have c2 := h.c2
  have hT := hG.ends
  have hil := h.il
  have hjn := h.len
  have hl15 : 15 < cs.length := by obtain ⟨h1, _⟩ := List.getElem?_eq_some_iff.1 h15; exact h1
  have KN := Lib.hid (fun (u : World) (hu : Ext w u) => now_pg (h.ext hu))
  have hk := name_kind hG h.il
  cases hnm : isName (rl T i) with
  | false =>
    rw [hnm] at hk
    have hk' : ((tk T i).kind != 1) = true := by simp [bne, hk]
    have HN : Hid (¬ ((rl T i = 21 ∨ rl T i = 22) ∧ rl T (i + 1) = 7)) := Lib.hid (by
      rintro ⟨h | h, _⟩
      · rw [h] at hnm; exact absurd hnm (by decide)
      · rw [h] at hnm; exact absurd hnm (by decide))
    clear h hb hG hk hnm
    go_enter Tryz.func40, Tryz.ntmps40
    go_wp2_with fail
    refine (KN.out _ (Ext.refl _)).mono ?_
    rintro e1 w1 ⟨rfl, hx1⟩
    go_wp2_with fail
    go_ret
    exact .inr ⟨HN.out, rfl, hx1⟩
  | true =>
    rw [hnm] at hk
    have hk' : ((tk T i).kind != 1) = false := by simp [bne, hk]
    have hi1 : i + 1 < T.length := hT.2 i (name_ne hnm).2.2
    have hm := mark_role' hG hi1 (m := 3) (by omega) (s := ⟨#[46]⟩) dot_txt (b := decide (rl T (i + 1) = 4 + 3)) rfl
    have hm17 := name_role hG hil (m := 17) (by omega) (by omega)
    have hm18 := name_role hG hil (m := 18) (by omega) (by omega)
    rw [hk, Bool.true_and, ← recent_txt] at hm17
    rw [hk, Bool.true_and, ← first_txt] at hm18
    replace hm17 : ((tk T i).text.toList == [114, 101, 99, 101, 110, 116]) = decide (rl T i = 4 + 17) := beq_lit hm17
    replace hm18 : ((tk T i).text.toList == [102, 105, 114, 115, 116]) = decide (rl T i = 4 + 18) := beq_lit hm18
    have hw1 : IntKind.i64.wrap ((i : Int) + 1) = (i : Int) + 1 := by rw [IntKind.wrap_i64]; omega
    have hi3 : (0 : Int) ≤ (i : Int) + 1 := by omega
    have hi4 : (i : Int) + 1 < (T.length : Int) := by omega
    have hi5 : ((i : Int) + 1).toNat = i + 1 := by omega
    have HH := Lib.hid (And.intro h hb)
    clear h hb hG hk hnm
    go_enter Tryz.func40, Tryz.ntmps40
    go_wp2_with fail
    refine (KN.out _ (Ext.refl _)).mono ?_
    rintro e1 w1 ⟨rfl, hx1⟩
    have HX1 := Lib.hid hx1
    have h1 := HH.out.1.ext hx1
    have hg1 := h1.lt
    have hA1 := h1.low
    have c0 := h1.c0
    have c1 := h1.c1
    obtain ⟨t0, t1, t2, t3⟩ := h1.toks (i + 1) hi1
    rw [show T[i + 1] = tk T (i + 1) from (tk_at T hi1).symm] at t0 t1 t2 t3
    clear h1 hx1 c2
    go_upto_region 3 with (fail)
    go_cut [5] from 17 to 27 (fun x wx => x = .pointer (some ⟨w1.heap.size, 0, none⟩) ∧ wx = (w1.alloc (.cells #[.int .i64 (tk T (i + 1)).kind, .string (tk T (i + 1)).text, .int .i64 (tk T (i + 1)).n, .int .i64 (tk T (i + 1)).at_] 54)).drew)
    case first =>
      go_region_with (fail)
      all_goals (go_wp2_with fail; go_meet; exact ⟨rfl, rfl⟩)
    case rest =>
      obtain ⟨rfl, hwc⟩ := hcut
      have hxc : Ext w1 wc := by rw [hwc]; exact ((Ext.refl _).alloc _).drew
      obtain ⟨e0, e1, e2, e3, _, _, _, _⟩ : Box4 wc w1.heap.size (.int .i64 (tk T (i + 1)).kind) (.string (tk T (i + 1)).text) (.int .i64 (tk T (i + 1)).n) (.int .i64 (tk T (i + 1)).at_) := by rw [hwc]; exact (Box4.new w1 _ _ _ _ _).ext (Ext.refl _).drew
      have hx := HX1.out.trans hxc
      clear hwc hxc t0 t1 t2 t3 c0 c1
      by_cases h7 : rl T (i + 1) = 7
      · rw [decide_eq_true (show rl T (i + 1) = 4 + 3 from h7)] at hm
        have hk4 : ((tk T (i + 1)).kind != 4) = false := by
          cases hq : ((tk T (i + 1)).kind == 4) with
          | true => simp [bne, hq]
          | false => rw [hq] at hm; cases hm
        have hd4 : ((tk T (i + 1)).text.toList == [46]) = true := by
          refine beq_lit ?_
          cases hq : ((tk T (i + 1)).kind == 4) with
          | true => rw [hq, Bool.true_and] at hm; exact hm
          | false => rw [hq] at hm; cases hm
        have KN3 := Lib.hid (KN.out _ hx)
        have HX := Lib.hid hx
        clear hm KN hx
        by_cases h21 : rl T i = 21
        · rw [decide_eq_true (show rl T i = 4 + 17 from h21)] at hm17
          rw [decide_eq_false (show rl T i ≠ 4 + 18 by omega)] at hm18
          go_wp2_with fail
          refine KN3.out.mono ?_
          rintro e w3 ⟨rfl, hx3⟩
          have hxw := HX.out.trans hx3
          have h3 := HH.out.1.ext hxw
          have hb3 := HH.out.2.ext hxw
          have c1 := h3.c1
          have f1 := h3.fr 1 (by omega)
          have y15 := hb3.cell 15 h15
          have z15 := hb3.fz 15 hl15
          have hqg' : g ≠ q := fun e => hqg e.symm
          have HR := Lib.hid (And.intro h3 (And.intro hb3 hxw))
          clear h3 hb3 hxw hx3 KN3 HX HH
          go_wp2_with fail
          go_ret
          have hs : BoxN (w3.setCell ⟨q, 15, none⟩ (.int .i64 1)) q (cs.set 15 (.int .i64 ((rl T i : Int) - 20))) := by
            rw [show ((rl T i : Int) - 20) = 1 by omega]; exact HR.out.2.1.set1 15 _ hl15
          have hP : PgAt (w3.setCell ⟨q, 15, none⟩ (.int .i64 1)) g A c T i 0 a d := HR.out.1.chg ((Chg.refl (fun x => x = q) _).setg _ _) fun x _ e => by subst e; exact ⟨hqg, hqA⟩
          refine .inl ⟨⟨by omega, h7⟩, rfl, ?_, hs.chg (F := fun x => x = g) ((Chg.refl (fun x => x = g) _).setg _ _) hqg, ?_⟩
          · have := hP.to (i + 1) hi1
            rwa [Int.natCast_add] at this
          · exact ((Chg.of_ext HR.out.2.2).trans (((Chg.refl (fun x => x = q) w3).setg _ _).weak fun _ e => .inr e)).trans (((Chg.refl (fun x => x = g) _).setg _ _).weak fun _ e => .inl e)
        · rw [decide_eq_false (show rl T i ≠ 4 + 17 from h21)] at hm17
          by_cases h22 : rl T i = 22
          · rw [decide_eq_true (show rl T i = 4 + 18 from h22)] at hm18
            go_wp2_with fail
            refine KN3.out.mono ?_
            rintro e w3 ⟨rfl, hx3⟩
            have hxw := HX.out.trans hx3
            have h3 := HH.out.1.ext hxw
            have hb3 := HH.out.2.ext hxw
            have c1 := h3.c1
            have f1 := h3.fr 1 (by omega)
            have y15 := hb3.cell 15 h15
            have z15 := hb3.fz 15 hl15
            have hqg' : g ≠ q := fun e => hqg e.symm
            have HR := Lib.hid (And.intro h3 (And.intro hb3 hxw))
            clear h3 hb3 hxw hx3 KN3 HX HH
            go_wp2_with fail
            go_ret
            have hs : BoxN (w3.setCell ⟨q, 15, none⟩ (.int .i64 2)) q (cs.set 15 (.int .i64 ((rl T i : Int) - 20))) := by
              rw [show ((rl T i : Int) - 20) = 2 by omega]; exact HR.out.2.1.set1 15 _ hl15
            have hP : PgAt (w3.setCell ⟨q, 15, none⟩ (.int .i64 2)) g A c T i 0 a d := HR.out.1.chg ((Chg.refl (fun x => x = q) _).setg _ _) fun x _ e => by subst e; exact ⟨hqg, hqA⟩
            refine .inl ⟨⟨by omega, h7⟩, rfl, ?_, hs.chg (F := fun x => x = g) ((Chg.refl (fun x => x = g) _).setg _ _) hqg, ?_⟩
            · have := hP.to (i + 1) hi1
              rwa [Int.natCast_add] at this
            · exact ((Chg.of_ext HR.out.2.2).trans (((Chg.refl (fun x => x = q) w3).setg _ _).weak fun _ e => .inr e)).trans (((Chg.refl (fun x => x = g) _).setg _ _).weak fun _ e => .inl e)
          · rw [decide_eq_false (show rl T i ≠ 4 + 18 from h22)] at hm18
            go_wp2_with fail
            refine KN3.out.mono ?_
            rintro e w3 ⟨rfl, hx3⟩
            have hxw := HX.out.trans hx3
            clear KN3 HX hx3 HH
            go_wp2_with fail
            go_ret
            exact .inr ⟨fun e => by omega, rfl, hxw⟩
      · rw [decide_eq_false (show ¬ rl T (i + 1) = 4 + 3 from h7)] at hm
        have HXX := Lib.hid hx
        clear KN hx hm17 hm18 HH
        cases hq : ((tk T (i + 1)).kind == 4) with
        | false =>
          have hk4 : ((tk T (i + 1)).kind != 4) = true := by simp [bne, hq]
          clear hq hm
          go_wp2_with fail
          go_ret
          exact .inr ⟨fun e => h7 e.2, rfl, HXX.out⟩
        | true =>
          rw [hq, Bool.true_and] at hm
          have hk4 : ((tk T (i + 1)).kind != 4) = false := by simp [bne, hq]
          have hd4 : ((tk T (i + 1)).text.toList == [46]) = false := beq_lit hm
          clear hq hm
          go_wp2_with fail
          go_ret
          exact .inr ⟨fun e => h7 e.2, rfl, HXX.out⟩
end Go.Proofs.YtbjghkmjnhmlfaaGreatDoor
