/- almagestref0.CopyTerm, CopyTerms: the same term in new memory, no block of it shared. -/
import Derived.Test.YtkdhpifjljkpfaaGreatOwn
import Derived.Test.YtkdhpifjljkpfaaGreatGrd
import Derived.OwnWalk
import Derived.Deep.AppendLies
import Derived.Maps.AppendAt
namespace Go.Proofs.YtkdhpifjljkpfaaGreat
open Go.RowKit

/-- what has been copied so far -/
structure CopyInv (w wr : World) (v : Value) (xs : List Lain) (G : Nat → Nat → Prop) : Prop where
  sub : ∀ i (h : i < xs.length), TmOwn wr xs[i].1 xs[i].2.1 xs[i].2.2 (G i)
  inF : ∀ i, i < xs.length → ∀ x, G i x → w.heap.size ≤ x ∧ x < wr.heap.size ∧ v.ownBlock ≠ some x
  apart : ∀ i j, i < xs.length → j < xs.length → i ≠ j → ∀ x, G i x → ¬ G j x
  ext : Ext w wr

theorem CopyInv.step {w wr w1 w4 : World} {v v' : Value} {xs : List Lain} {G : Nat → Nat → Prop} {y : Lain} {o : Obj} (h : CopyInv w wr v xs G)
    (hO : TmOwn w1 y.1 y.2.1 y.2.2 (fun k => wr.heap.size ≤ k ∧ k < w1.heap.size)) (hx : Ext wr w1) (hg : (w1.alloc o).grownBy w4 v.ownBlock) (hv : ∀ b, v.ownBlock = some b → w.heap.size ≤ b ∧ b < wr.heap.size)
    (hat : v'.ownBlock = v.ownBlock ∨ v'.ownBlock = some (w1.heap.size + 1)) :
    CopyInv w w4 v' (xs ++ [y]) (fun i x => if i < xs.length then G i x else wr.heap.size ≤ x ∧ x < w1.heap.size) := by
  have hs1 := hx.size
  have hs4 := hg.size
  have esz : (w1.alloc o).heap.size = w1.heap.size + 1 := by simp
  have hxa : Ext wr (w1.alloc o) := hx.alloc o
  have keep : ∀ b, b < w1.heap.size → v.ownBlock ≠ some b → w4.heap[b]? = w1.heap[b]? := fun b hb hne => (hg.block b (by omega) (fun e => hne e.symm)).trans (Below.heap_alloc w1 o b hb)
  refine ⟨fun i hi => ?_, fun i hi x hx' => ?_, fun i j hi hj hij x h1 h2 => ?_, ?_⟩
  · by_cases hlt : i < xs.length
    · simp only [List.getElem_append_left hlt, hlt, if_true]
      refine (h.sub i hlt).keep fun b hb hs => ?_
      have := h.inF i hlt b hb
      rw [keep b (by omega) this.2.2, hx.block b hs]
    · have e : i = xs.length := by simp at hi; omega
      subst e
      simp only [List.getElem_concat_length, Nat.lt_irrefl, if_false]
      refine hO.keep fun b hb hs => keep b hs (fun e => ?_)
      have := hv b e
      omega
  · by_cases hlt : i < xs.length
    · simp only [hlt, if_true] at hx'
      have := h.inF i hlt x hx'
      refine ⟨this.1, by omega, fun e => ?_⟩
      rcases hat with e' | e' <;> rw [e'] at e
      · exact this.2.2 e
      · injection e with e; omega
    · simp only [hlt, if_false] at hx'
      have hw := h.ext.size
      refine ⟨by omega, by omega, fun e => ?_⟩
      rcases hat with e' | e' <;> rw [e'] at e
      · have := hv x e; omega
      · injection e with e; omega
  · have hi' : i < xs.length + 1 := by simpa using hi
    have hj' : j < xs.length + 1 := by simpa using hj
    by_cases hli : i < xs.length <;> by_cases hlj : j < xs.length <;> simp only [hli, hlj, if_true, if_false] at h1 h2
    · exact h.apart i j hli hlj hij x h1 h2
    · have := h.inF i hli x h1; omega
    · have := h.inF j hlj x h2; omega
    · omega
  · exact Below.grown (h.ext.trans hxa) hg (by have := h.ext.size; omega) (fun b hb => (hv b hb).1)

/-- a copy -/
def Copied (t : Tm) (w : World) (e : Ending) (w' : World) : Prop := ∃ A c, e = .returned (t.val A c) ∧ TmOwn w' t A c (fun k => w.heap.size ≤ k ∧ k < w'.heap.size) ∧ Ext w w'
def CopiedL (ts : List Tm) (w : World) (e : Ending) (w' : World) : Prop := ∃ A c g d G, e = .returned (.slice A ts.length c) ∧ ts.length ≤ c ∧ RowOwn w' ts A (fun k => w.heap.size ≤ k ∧ k < w'.heap.size) g d G ∧
  (∀ i (h : i < ts.length), TmOwn w' ts[i] (g i) (d i) (G i)) ∧ Ext w w'

/-- what has been copied in the end -/
theorem CopyInv.done {w wr : World} {v : Value} {xs : List Lain} {G : Nat → Nat → Prop} {ts : List Tm} (h : CopyInv w wr v xs G) (hown : wr.ownsRow w.heap.size 40 4 v xs.length (rowCells xs)) (e : xs.map (·.1) = ts) :
    CopiedL ts w (.returned v) wr := by
  subst e
  obtain ⟨A, c, rfl, hc, g, d, hr, hs⟩ := owned_tms hown (fun x hx => by obtain ⟨i, hi, rfl⟩ := List.getElem_of_mem hx; exact (h.sub i hi).at_)
  refine ⟨A, c, fun i => (xs[i]?.map (·.2.1)).getD none, fun i => (xs[i]?.map (·.2.2)).getD 0, G, by simp, by simpa using hc, ⟨?_, ?_, ?_, ?_⟩, ?_, h.ext⟩
  · intro i hi
    have hi' : i < xs.length := by simpa using hi
    rcases hown.2 with ⟨hv, h0⟩ | ⟨b, cap, cur, hv, _, _, _, _⟩
    · omega
    · injection hv with hA _ _
      subst hA
      have cell : ∀ j, j < 4 → wr.cell? ⟨b, 0 + i * 4 + j, none⟩ = xs[i].cells[j]? := fun j hj => by
        have hown' := hown
        rw [show 0 + i * 4 + j = i * 4 + j by omega, hown'.cellAt (i * 4 + j) (by omega), rowCells_at xs i j hi' hj]
      refine ⟨b, 0, rfl, ?_, ?_, ?_, ?_⟩
      · have := cell 0 (by omega); simpa [Lain.cells] using this
      · have := cell 1 (by omega); simpa [Lain.cells] using this
      · have := cell 2 (by omega); simpa [Lain.cells] using this
      · have := cell 3 (by omega); simpa [Lain.cells, hi'] using this
  · intro b o hA hl
    subst hA
    have hl' : 0 < xs.length := by simpa using hl
    have hlt := hown.lt b rfl
    refine ⟨hlt, fun i hi hb => (h.inF i (by simpa using hi) b hb).2.2 rfl, fun j hj => ?_⟩
    rcases hown.2 with ⟨hv, h0⟩ | ⟨b', cap, cur, hv, _, _, _, _⟩
    · omega
    · injection hv with hA hB hC
      injection hA with hA
      injection hA with e1 e2
      subst e1 e2 hC
      rw [Nat.zero_add]
      exact hown.frozenAt j
  · intro i hi x hx
    have := h.inF i (by simpa using hi) x hx
    exact ⟨this.1, this.2.1⟩
  · intro i j hi hj hij x
    exact h.apart i j (by simpa using hi) (by simpa using hj) hij x
  · intro i hi
    have hi' : i < xs.length := by simpa using hi
    have := h.sub i hi'
    simpa [hi'] using this

def CopyTo (hh : Nat) : Prop := ∀ (t : Tm) (A : Option Addr) (c : Nat) (w : World), t.high ≤ hh → TmAt w t A c → Calls Tryz.prog 63 #[t.val A c] w (Copied t w)

theorem infoTm' : (Tryz.prog.info? 40).map (fun i => (i.zero, i.size, i.bytes)) = some (some (.agg #[.int .i64 0, .string ⟨#[]⟩, .int .i64 0, .slice none 0 0]), 4, 56) := by kernel_rfl

set_option maxRecDepth 100000 in
set_option maxHeartbeats 1000000 in
theorem copyTerms_any (hh : Nat) (hc : CopyTo hh) (ts : List Tm) (A : Option Addr) (c : Nat) (w : World) (h1 : highs ts ≤ hh) (ll : ts.length * 56 ≤ 140737488351232) (ha : TmsAt w ts A) :
    Calls Tryz.prog 88 #[.slice A ts.length c] w (CopiedL ts w) := by
  obtain ⟨i0, hi0, hz0, hz1, hz2⟩ := info_parts infoTm'
  go_enter Tryz.func88, Tryz.ntmps88
  go_wp2_with fail
  go_loopw [3, 4] (fun v i wr => ∃ (k : Nat) (xs : List Lain) (G : Nat → Nat → Prop), k ≤ ts.length ∧ i = .int .i64 k ∧ Hid (xs.length = k) ∧ Hid (xs.map (·.1) = ts.take k) ∧ wr.ownsRow w.heap.size 40 4 v xs.length (rowCells xs) ∧ CopyInv w wr v xs G) (fun _ i _ => ts.length - (intOf i).toNat)
  case atStart => exact ⟨0, [], fun _ _ => False, Nat.zero_le _, rfl, Lib.hid rfl, Lib.hid (by simp), World.ownsRow_nil _ _ _ _, ⟨fun i hi => absurd hi (by simp), fun i hi => absurd hi (by simp), fun i j hi => absurd hi (by simp), Ext.refl _⟩⟩
  case round =>
    obtain ⟨k, xs, G, hk, rfl, hxl, hxm, hown, hinv⟩ := hrel
    have hx := hinv.ext
    by_cases hlt : k < ts.length
    · obtain ⟨b, o, C, e, rfl, c0, c1, c2, c3, hsub⟩ := (ha.ext hx).at_ hlt
      have hh1 : ts[k].high ≤ hh := Nat.le_trans (high_le (List.getElem_mem hlt)) h1
      go_wp2_with fail
      refine (hc ts[k] C e _ hh1 hsub).mono ?_
      rintro e1 w1 ⟨A', c', rfl, hO, hx1⟩
      have hown1 := ownsRow_ext hown hx1
      have hsz := hx.size
      have hsz1 := hx1.size
      have hn1 : xs.length + 1 ≤ ts.length := by have := hxl.out; omega
      go_wp2_with (at_builtin; refine wpList_append_own_at _ rfl _ _ 38 rfl w.heap.size 40 i0 _ 4 56 Tryz.underlying38 hi0 hz0 hz1 hz2 rfl (by decide) _ xs.length (rowCells xs) rfl (hown1.alloc _) ⟨w1.heap.size, 0, none⟩ 1 1 (Lain.cells (ts[k], A', c')) rfl rfl ?c1 ?c2 ?c3 ?c4 ?c5 ?_)
      case c1 => exact World.news_of_block (cs := #[.int .i64 ts[k].kind, .string ts[k].name, .int .i64 ts[k].n, .slice A' ts[k].args.length c']) (t := 40) (fr := (0, 0)) (heap_alloc_new w1 _)
      case c2 => exact Lain.one _
      case c3 => simp only [maxLen]; omega
      case c4 => omega
      case c5 => simp; omega
      intro v' w4 hown4 hgrow _ hat
      rw [← rowCells_snoc] at hown4
      have hat' : v'.ownBlock = u3.ownBlock ∨ v'.ownBlock = some (w1.heap.size + 1) := by simpa using hat
      have hinv4 := hinv.step (y := (ts[k], A', c')) hO hx1 hgrow (fun b hb => hown.lt b hb) hat'
      have HL4 : Hid ((xs ++ [(ts[k], A', c')]).length = k + 1) := Lib.hid (by have := hxl.out; simp; omega)
      have HM4 : Hid ((xs ++ [(ts[k], A', c')]).map (·.1) = ts.take (k + 1)) := Lib.hid (by rw [List.map_append, hxm.out, List.take_succ_eq_append_getElem hlt]; rfl)
      clear hat hat' hgrow hown1 hxl hxm hn1
      go_wp2_with fail
      go_roundw
      case rel => exact ⟨k + 1, xs ++ [(ts[k], A', c')], _, by omega, by go_num, HL4, HM4, by simpa using hown4, hinv4⟩
      case measure => simp [intOf]; omega
    · have hfin := Lib.hid (hinv.done hown (by rw [hxm.out, List.take_of_length_le (by omega)]))
      go_wp2_with fail
      go_ret
      exact hfin.out
set_option maxRecDepth 100000 in
set_option maxHeartbeats 1000000 in
theorem copy_all (hh : Nat) : CopyTo hh := by
  induction hh with
  | zero => intro t A c w h0; have := high_pos t; omega
  | succ hh ih =>
    intro t A c w h0 h
    have hl := h.fits.args
    have HL : highs t.args ≤ hh := by obtain ⟨k, s, n, l⟩ := t; rw [Tm.high] at h0; simp only; omega
    go_enter Tryz.func63, Tryz.ntmps63
    go_wp2_with fail
    refine (copyTerms_any hh ih t.args A c _ HL hl (h.args.ext ((((Ext.refl _).alloc _).alloc _).alloc _))).mono ?_
    rintro e w1 ⟨A', c', g, d, G, rfl, hc, hrow, hsub, hx1⟩
    have hx := ((((Ext.refl w).alloc _).alloc _).alloc _).trans hx1
    have x0 : w1.cell? ⟨w.heap.size + 1 + 1, 0, none⟩ = some (.int .i64 t.kind) := hx1.cell (by go_simp)
    have x1 : w1.cell? ⟨w.heap.size + 1 + 1, 1, none⟩ = some (.string t.name) := hx1.cell (by go_simp)
    have x2 : w1.cell? ⟨w.heap.size + 1 + 1, 2, none⟩ = some (.int .i64 t.n) := hx1.cell (by go_simp)
    have x3 : w1.cell? ⟨w.heap.size + 1 + 1, 3, none⟩ = some (.slice A t.args.length c) := hx1.cell (by go_simp)
    have r0 : w1.cell? ⟨w.heap.size + 1, 0, none⟩ = some (.int .i64 0) := hx1.cell (by go_simp)
    have r1 : w1.cell? ⟨w.heap.size + 1, 1, none⟩ = some (.string ⟨#[]⟩) := hx1.cell (by go_simp)
    have r2 : w1.cell? ⟨w.heap.size + 1, 2, none⟩ = some (.int .i64 0) := hx1.cell (by go_simp)
    have r3 : w1.cell? ⟨w.heap.size + 1, 3, none⟩ = some (.slice none 0 0) := hx1.cell (by go_simp)
    have fz : ∀ b j, b < w.heap.size + 1 + 1 + 1 → w.heap.size ≤ b → w1.frozen? ⟨b, j, none⟩ = false := fun b j hb hb' => by
      rw [Below.frozen hx1 (p := ⟨b, j, none⟩) (by simpa using hb)]
      have e : b = w.heap.size ∨ b = w.heap.size + 1 ∨ b = w.heap.size + 1 + 1 := by omega
      rcases e with rfl | rfl | rfl <;> go_simp
    have fx3 := fz (w.heap.size + 1 + 1) 3 (by omega) (by omega)
    have f0 := fz (w.heap.size + 1) 0 (by omega) (by omega)
    have f1 := fz (w.heap.size + 1) 1 (by omega) (by omega)
    have f2 := fz (w.heap.size + 1) 2 (by omega) (by omega)
    have f3 := fz (w.heap.size + 1) 3 (by omega) (by omega)
    have hsz : w.heap.size + 1 + 1 + 1 ≤ w1.heap.size := by have := hx1.size; simpa using this
    have hF : ∀ b, (((w.alloc (Obj.cells #[.int .i64 t.kind, .string t.name, .int .i64 t.n, .slice A t.args.length c] 40)).alloc (Obj.cells #[.int .i64 0, .string ⟨#[]⟩, .int .i64 0, .slice none 0 0] 40)).alloc (Obj.cells #[.int .i64 t.kind, .string t.name, .int .i64 t.n, .slice A t.args.length c] 40)).heap.size ≤ b ∧ b < w1.heap.size → w.heap.size + 1 + 1 + 1 ≤ b ∧ b < w1.heap.size := fun b hb => by simpa using hb
    have HOwn : Hid (TmOwn w1 t A' c' (fun b => w.heap.size + 1 + 1 + 1 ≤ b ∧ b < w1.heap.size)) := Lib.hid ((TmOwn.mk t A' c' _ g d G h.fits hc hrow hsub).weak hF)
    clear fz hrow hsub hF
    go_wp2_with fail
    refine bodyPost_ret (v := t.val A' c') (by simp [results, Tryz.results63, go_sem, *]) rfl ⟨A', c', rfl, ?_, ?_⟩
    · refine (HOwn.out.keep fun b hb _ => ?_).weak fun b hb => ?_
      · have n1 : b ≠ w.heap.size + 1 := by omega
        have n2 : b ≠ w.heap.size + 1 + 1 := by omega
        rw [Below.heap_setCell _ _ _ _ n1, Below.heap_setCell _ _ _ _ n1, Below.heap_setCell _ _ _ _ n1, Below.heap_setCell _ _ _ _ n1, Below.heap_setCell _ _ _ _ n2]
      · have := hb.1
        have := hb.2
        simp [World.setCell]
        omega
    · have l1 : w.heap.size ≤ w.heap.size + 1 := by omega
      have l2 : w.heap.size ≤ w.heap.size + 1 + 1 := by omega
      exact ((((hx.setCell (p := ⟨w.heap.size + 1 + 1, 3, none⟩) l2 _).setCell (p := ⟨w.heap.size + 1, 0, none⟩) l1 _).setCell (p := ⟨w.heap.size + 1, 1, none⟩) l1 _).setCell (p := ⟨w.heap.size + 1, 2, none⟩) l1 _).setCell (p := ⟨w.heap.size + 1, 3, none⟩) l1 _
end Go.Proofs.YtkdhpifjljkpfaaGreat
