/- (*facts.key).lay: a term's parts laid into a key, one behind the other. -/
import Derived.Test.YtcfhokejfibgoaaFka
import Derived.Test.YtcfhokejfibgoaaRen
import Derived.Test.YtcfhokejfibgoaaOwn
import Derived.Deep.RegionHeld3
namespace Go.Proofs.Ytcfhokejfibgoaa
open Go.RowKit

mutual
def partsT : Tm → List Pr3
  | ⟨k, s, n, l⟩ => partT ⟨k, s, n, l⟩ :: partsL l
def partsL : List Tm → List Pr3
  | [] => []
  | t :: ts => partsT t ++ partsL ts
end
theorem partsT_eq (t : Tm) : partsT t = partT t :: partsL t.args := by obtain ⟨k, s, n, l⟩ := t; rw [partsT]
theorem partsL_take {ts : List Tm} {j : Nat} (h : j < ts.length) : partsL (ts.take (j + 1)) = partsL (ts.take j) ++ partsT ts[j] := by
  induction ts generalizing j with
  | nil => simp at h
  | cons t ts ih =>
    cases j with
    | zero => simp [partsL]
    | succ j => simp only [List.take_succ_cons, partsL, List.getElem_cons_succ]; rw [ih (by simpa using h), List.append_assoc]
theorem partsL_len_take {ts : List Tm} {j : Nat} (h : j < ts.length) : (partsL (ts.take j)).length + (partsT ts[j]).length ≤ (partsL ts).length := by
  induction ts generalizing j with
  | nil => simp at h
  | cons t ts ih =>
    cases j with
    | zero => simp [partsL]
    | succ j => have := ih (j := j) (by simpa using h); simp only [List.take_succ_cons, partsL, List.getElem_cons_succ, List.length_append]; omega

/-- a key's block -/
def BlkQ (w : World) (g : Nat) (cs : List Value) : Prop := w.heap[g]? = some (.cells cs.toArray 68 (0, 0))
theorem BlkQ.cell {w : World} {g : Nat} {cs : List Value} (h : BlkQ w g cs) (o : Nat) : w.cell? ⟨g, o, none⟩ = cs[o]? := by
  unfold BlkQ at h
  simp [World.cell?, h]
theorem BlkQ.frozen {w : World} {g : Nat} {cs : List Value} (h : BlkQ w g cs) (o : Nat) : w.frozen? ⟨g, o, none⟩ = false := by
  unfold BlkQ at h
  simp [World.frozen?, h]
theorem BlkQ.set {w : World} {g : Nat} {cs : List Value} (h : BlkQ w g cs) (o : Nat) (v : Value) : BlkQ (w.setCell ⟨g, o, none⟩ v) g (cs.set o v) := by
  unfold BlkQ at *
  simp [World.setCell, Array.getElem?_modify, h]
theorem BlkQ.lt {w : World} {g : Nat} {cs : List Value} (h : BlkQ w g cs) : g < w.heap.size := by
  unfold BlkQ at h
  rcases Nat.lt_or_ge g w.heap.size with k | k
  · exact k
  · rw [Array.getElem?_eq_none k] at h; cases h
theorem BlkQ.ext {w w' : World} {g : Nat} {cs : List Value} (h : BlkQ w g cs) (k : Ext w w') : BlkQ w' g cs := (k.block g h.lt).trans h
theorem BlkQ.range {w : World} {g : Nat} {cs : List Value} (h : BlkQ w g cs) : w.rangeAt g 0 cs := fun j v hv => by rw [Nat.zero_add, h.cell, hv]
theorem BlkQ.there {w : World} {g : Nat} {cs : List Value} (h : BlkQ w g cs) : w.there g 0 cs.length := fun j hj => by
  rw [Nat.zero_add, h.cell, h.frozen, List.getElem?_eq_getElem hj]; exact ⟨rfl, rfl⟩
/-- one part laid -/
def put3 (cs : List Value) (a : Nat) (p : Pr3) : List Value := ((cs.set (a * 3) (.int .u64 (p.1 : Int))).set (a * 3 + 1) (.int .u64 (p.2.1 : Int))).set (a * 3 + 2) (.int .i64 p.2.2)
def putP : List Value → Nat → List Pr3 → List Value
  | cs, _, [] => cs
  | cs, a, p :: ps => putP (put3 cs a p) (a + 1) ps
theorem put3_len (cs : List Value) (a : Nat) (p : Pr3) : (put3 cs a p).length = cs.length := by simp [put3]
theorem putP_len : ∀ (ps : List Pr3) (cs : List Value) (a : Nat), (putP cs a ps).length = cs.length
  | [], _, _ => rfl
  | p :: ps, cs, a => by rw [putP, putP_len ps, put3_len]
theorem putP_app : ∀ (l r : List Pr3) (cs : List Value) (a : Nat), putP cs a (l ++ r) = putP (putP cs a l) (a + l.length) r
  | [], r, cs, a => by simp [putP]
  | p :: l, r, cs, a => by rw [List.cons_append, putP, putP, putP_app l r, List.length_cons]; congr 1; omega
theorem BlkQ.put3 {w : World} {g : Nat} {cs : List Value} (h : BlkQ w g cs) (a : Nat) (p : Pr3) : BlkQ (((w.setCell ⟨g, a * 3, none⟩ (.int .u64 (p.1 : Int))).setCell ⟨g, a * 3 + 1, none⟩ (.int .u64 (p.2.1 : Int))).setCell ⟨g, a * 3 + 2, none⟩ (.int .i64 p.2.2)) g (put3 cs a p) :=
  ((h.set _ _).set _ _).set _ _
theorem chg3 {w : World} {g : Nat} (o1 o2 o3 : Nat) (v1 v2 v3 : Value) : Chg (· = g) w (((w.setCell ⟨g, o1, none⟩ v1).setCell ⟨g, o2, none⟩ v2).setCell ⟨g, o3, none⟩ v3) := by
  refine ⟨by simp [World.setCell], by simp [World.setCell], by simp [World.setCell], by simp [World.setCell], fun k _ hk => ?_⟩
  rw [Below.heap_setCell _ _ _ _ hk, Below.heap_setCell _ _ _ _ hk, Below.heap_setCell _ _ _ _ hk]

/-- what lay comes to -/
def LayTo (W0 : World) (g : Nat) (cs : List Value) (a : Nat) (ps : List Pr3) (e : Ending) (w' : World) : Prop :=
  e = .returned (.int .i64 ((a + ps.length : Nat) : Int)) ∧ BlkQ w' g (putP cs a ps) ∧ Ext W0 w'
def LayAny (hh : Nat) : Prop := ∀ (t : Tm) (A : Option Addr) (c : Nat) (W0 w : World) (g a : Nat) (cs : List Value), t.high ≤ hh → shortT t → TmAt W0 t A c → Ext W0 w → W0.heap.size ≤ g → BlkQ w g cs → cs.length = 74 → a + (partsT t).length ≤ 24 →
    Calls Try.prog 44 #[.pointer (some ⟨g, 0, none⟩), t.val A c, .int .i64 (a : Int)] w (LayTo W0 g cs a (partsT t))

set_option maxRecDepth 100000 in
set_option maxHeartbeats 4000000 in
theorem lay_any (hh : Nat) : LayAny hh := by
  induction hh with
  | zero => intro t A c W0 w g a cs h0; have := high_pos t; omega
  | succ hh ih =>
    intro t A c W0 w g a cs h0 hsh h hx hg hB hl ha
    have IH := Lib.hid ih
    clear ih
    have hn := hsh.name
    have hal := h.fits.args
    have HSH := Lib.hid hsh
    have KP := Lib.hid (fun u => partOf_any t A c u hn)
    have HPT := Lib.hid (partsT_eq t)
    have HLEN : Hid ((partsT t).length = (partsL t.args).length + 1) := Lib.hid (by rw [partsT_eq, List.length_cons])
    obtain ⟨W1, hW1⟩ : ∃ W1, W1 = w.alloc (.cells #[.int .i64 t.kind, .string t.name, .int .i64 t.n, .slice A t.args.length c] 33) := ⟨_, rfl⟩
    have hx1 : Ext w W1 := by rw [hW1]; exact (Ext.refl w).alloc _
    have q0 : W1.cell? ⟨w.heap.size, 0, none⟩ = some (.int .i64 t.kind) := by rw [hW1]; go_simp
    have q1 : W1.cell? ⟨w.heap.size, 1, none⟩ = some (.string t.name) := by rw [hW1]; go_simp
    have q2 : W1.cell? ⟨w.heap.size, 2, none⟩ = some (.int .i64 t.n) := by rw [hW1]; go_simp
    have q3 : W1.cell? ⟨w.heap.size, 3, none⟩ = some (.slice A t.args.length c) := by rw [hW1]; go_simp
    have HW := Lib.hid hW1
    have hB1 := hB.ext hx1
    have HX1 := Lib.hid (hx.trans hx1)
    have hgl := hB.lt
    clear hW1 hx1
    obtain ⟨b, hb⟩ : ∃ b, b = w.heap.size := ⟨_, rfl⟩
    have hgb : g ≠ b := by omega
    have ha24 : (a : Int) < 24 := by have := HLEN.out; omega
    have ha0 : (0 : Int) ≤ (a : Int) := by omega
    have c0 := hB1.cell (a * 3)
    have c1 := hB1.cell (a * 3 + 1)
    have c2 := hB1.cell (a * 3 + 2)
    rw [List.getElem?_eq_getElem (by omega)] at c0 c1 c2
    have f0 := hB1.frozen (a * 3)
    have f1 := hB1.frozen (a * 3 + 1)
    have f2 := hB1.frozen (a * 3 + 2)
    generalize cs[a * 3] = v0 at c0
    generalize cs[a * 3 + 1] = v1 at c1
    generalize cs[a * 3 + 2] = v2 at c2
    go_enter Try.func44, Try.ntmps44
    go_upto_region 1 with (fail)
    rw [← HW.out, ← hb]
    rw [← hb] at q0 q1 q2 q3
    clear HW hb
    go_cut [] (fun wx => BlkQ wx g (put3 cs a (partT t)) ∧ wx.cell? ⟨b, 3, none⟩ = some (.slice A t.args.length c) ∧ Ext W0 wx)
    case first =>
      have F0 : ∀ o, W1.frozen? ⟨g, o, none⟩ = false := hB1.frozen
      have hgl1 := hB1.lt
      have HB1 := Lib.hid hB1
      clear hB1 hB
      go_region_with ((with_reducible refine (KP.out _).mono ?_); rintro e wb ⟨rfl, hxb⟩; have d0 := hxb.cell c0; have d1 := hxb.cell c1; have d2 := hxb.cell c2; have e0 : wb.frozen? ⟨g, a * 3, none⟩ = false := (Below.frozen hxb (p := ⟨g, a * 3, none⟩) hgl1).trans (F0 _); have e1 : wb.frozen? ⟨g, a * 3 + 1, none⟩ = false := (Below.frozen hxb (p := ⟨g, a * 3 + 1, none⟩) hgl1).trans (F0 _); have e2 : wb.frozen? ⟨g, a * 3 + 2, none⟩ = false := (Below.frozen hxb (p := ⟨g, a * 3 + 2, none⟩) hgl1).trans (F0 _))
      have hxw : Ext W0 wb := by first | exact HX1.out.trans hxb | exact HX1.out.drew.trans hxb
      obtain ⟨wz, hwz⟩ : ∃ wz, wz = ((wb.setCell ⟨g, a * 3, none⟩ (.int .u64 ((partT t).1 : Int))).setCell ⟨g, a * 3 + 1, none⟩ (.int .u64 ((partT t).2.1 : Int))).setCell ⟨g, a * 3 + 2, none⟩ (.int .i64 (partT t).2.2) := ⟨_, rfl⟩
      rw [← hwz]
      have hC : Chg (· = g) wb wz := by rw [hwz]; exact chg3 _ _ _ _ _ _
      have hBz : BlkQ wz g (put3 cs a (partT t)) := by rw [hwz]; exact (BlkQ.ext (w := W1.drew) HB1.out hxb).put3 a (partT t)
      have hcz : wz.cell? ⟨b, 3, none⟩ = some (.slice A t.args.length c) := hC.cell (hxb.cell q3) (fun e => hgb e.symm)
      have hxz : Ext W0 wz := Chg.ext_of hxw hC (fun x e => by have e' : x = g := e; rw [e']; exact hg)
      have HF := Lib.hid (And.intro hBz (And.intro hcz hxz))
      clear hwz hC hBz hcz hxz
      clear hxb hxw d0 d1 d2 e0 e1 e2 F0
      go_wp2_with fail
      go_meet
      exact HF.out
    case rest =>
      obtain ⟨hB2, r3, hx2⟩ := hcut
      obtain ⟨w2, hw2⟩ : ∃ w2 : World, w2 = wc := ⟨_, rfl⟩
      rw [← hw2] at hB2 r3 hx2
      rw [← hw2]
      have HH := Lib.hid h
      have HG := Lib.hid hg
      have HL := Lib.hid hl
      clear hw2 c0 c1 c2 f0 f1 f2 q0 q1 q2 q3 HX1 hB hB1 hgl h hg hl hgb KP hx
      go_wp2_with fail
      go_loopw [2, 8, 21] (fun p _ i wr => ∃ j : Nat, j ≤ t.args.length ∧ i = .int .i64 j ∧ p = .int .i64 ((a + 1 + (partsL (t.args.take j)).length : Nat) : Int) ∧ BlkQ wr g (putP (put3 cs a (partT t)) (a + 1) (partsL (t.args.take j))) ∧ Ext W0 wr) (fun _ _ i _ => t.args.length - (intOf i).toNat)
      case atStart => exact ⟨0, Nat.zero_le _, rfl, by simp [partsL], hB2, hx2⟩
      case round =>
        obtain ⟨j, hj, rfl, rfl, hBr, hxr⟩ := hrel
        by_cases hlt : j < t.args.length
        · have hji : (j : Int) < (t.args.length : Int) := by omega
          have hj0 : (0 : Int) ≤ (j : Int) := by omega
          obtain ⟨b', o', B, e, hA, y0, y1, y2, y3, hsub⟩ := HH.out.args.at_ hlt
          subst hA
          have z0 := hxr.cell y0
          have z1 := hxr.cell y1
          have z2 := hxr.cell y2
          have z3 := hxr.cell y3
          have hb1 := high_lt hlt
          have HT := Lib.hid (partsL_take hlt)
          have hlen := partsL_len_take hlt
          have hsz : a + 1 + (partsL (t.args.take j)).length + (partsT t.args[j]).length ≤ 24 := by have := HLEN.out; omega
          have KI := Lib.hid (fun u (k : Ext wr u) => IH.out t.args[j] B e W0 u g (a + 1 + (partsL (t.args.take j)).length) (putP (put3 cs a (partT t)) (a + 1) (partsL (t.args.take j))) (by omega) (shortL_mem HSH.out.args (List.getElem_mem hlt)) hsub (hxr.trans k) HG.out (hBr.ext k) (by rw [putP_len, put3_len]; exact HL.out) hsz)
          have hx9 : Ext wr (wr.alloc (.cells #[.int .i64 t.args[j].kind, .string t.args[j].name, .int .i64 t.args[j].n, .slice B t.args[j].args.length e] 33)) := (Ext.refl wr).alloc _
          have HJ := Lib.hid hlt
          clear y0 y1 y2 y3 hlen hBr hxr hsub hB2 hx2 hsz
          go_wp2_with fail
          refine (KI.out _ hx9).mono ?_
          rintro e' w5 ⟨rfl, hB5, hx5⟩
          have HB5 : Hid (BlkQ w5 g (putP (put3 cs a (partT t)) (a + 1) (partsL (t.args.take (j + 1))))) := Lib.hid (by rw [HT.out, putP_app]; exact hB5)
          have HN5 : Hid (((a : Int) + 1 + ((partsL (t.args.take j)).length : Int) + ((partsT t.args[j]).length : Int)) = ((a + 1 + (partsL (t.args.take (j + 1))).length : Nat) : Int)) := Lib.hid (by rw [HT.out, List.length_append]; omega)
          have HX5 := Lib.hid hx5
          clear hB5 hx5 hx9
          go_wp2_with fail
          go_roundw
          case rel => exact ⟨j + 1, HJ.out, by go_num, congrArg (Value.int .i64) HN5.out, HB5.out, HX5.out⟩
          case measure => simp [intOf]; omega
        · have hji : ¬ ((j : Int) < (t.args.length : Int)) := by omega
          have HTA : Hid (t.args.take j = t.args) := Lib.hid (List.take_of_length_le (by omega))
          rw [HTA.out] at hBr
          have HF : Hid (BlkQ wr g (putP cs a (partsT t)) ∧ Ext W0 wr) := Lib.hid ⟨by rw [HPT.out, putP]; exact hBr, hxr⟩
          have HNF : Hid (((a : Int) + 1 + ((partsL (t.args.take j)).length : Int)) = ((a + (partsT t).length : Nat) : Int)) := Lib.hid (by rw [HTA.out, HLEN.out]; omega)
          clear hBr hxr
          go_wp2_with fail
          go_ret
          exact ⟨ret_int HNF.out, HF.out⟩
end Go.Proofs.Ytcfhokejfibgoaa
