/- Joined: Fka, Fkb, Fkc, Fkd, Fke. -/
import Derived.Test.YtkdhpifjljkpfaaGreatWX
import Derived.Test.YtkdhpifjljkpfaaGreatRc
import Derived.StillTailTactics
import Derived.Deep.DeepCutAuto
import Derived.Test.YtkdhpifjljkpfaaGreatRen
import Derived.Test.YtkdhpifjljkpfaaGreatOwn
import Derived.Deep.RegionHeld3
import Derived.Deep.MidRow
import Derived.Test.YtkdhpifjljkpfaaGreatOrd
import Derived.Test.YtkdhpifjljkpfaaGreatRis
import Derived.Test.YtkdhpifjljkpfaaGreatKey

/- facts.partOf: a term's own part of a key: its name in two words, and a number. -/
namespace Go.Proofs.YtkdhpifjljkpfaaGreat
open Go.RowKit

/-- bytes as a number, the first one the least -/
def nmL : List UInt8 → Nat
  | [] => 0
  | b :: r => b.toNat + 256 * nmL r
theorem nmL_lt : ∀ l : List UInt8, nmL l < 256 ^ l.length
  | [] => by simp [nmL]
  | b :: r => by
    have h := nmL_lt r
    have hb := byte_lt b
    rw [nmL, List.length_cons, Nat.pow_succ]
    omega
theorem nmL_snoc : ∀ (l : List UInt8) (b : UInt8), nmL (l ++ [b]) = nmL l + b.toNat * 256 ^ l.length
  | [], b => by simp [nmL]
  | a :: l, b => by
    rw [List.cons_append, nmL, nmL, nmL_snoc l b, List.length_cons, Nat.pow_succ, Nat.mul_add, ← Nat.add_assoc]
    congr 1
    rw [Nat.mul_comm 256, Nat.mul_assoc]
theorem nmL_inj : ∀ (l r : List UInt8), goodL l → goodL r → nmL l = nmL r → l = r
  | [], [], _, _, _ => rfl
  | [], b :: r, _, hr, h => by
    have := hr b (by simp)
    simp only [nmL] at h
    omega
  | b :: l, [], hl, _, h => by
    have := hl b (by simp)
    simp only [nmL] at h
    omega
  | a :: l, b :: r, hl, hr, h => by
    have ha := byte_lt a
    have hb := byte_lt b
    simp only [nmL] at h
    have e1 : a.toNat = b.toNat := by omega
    have e2 : nmL l = nmL r := by omega
    rw [UInt8.toNat_inj.1 e1, nmL_inj l r (fun x hx => hl x (by simp [hx])) (fun x hx => hr x (by simp [hx])) e2]
theorem nmL_lt8 (l : List UInt8) (h : l.length ≤ 8) : nmL l < 18446744073709551616 := by
  have h1 := nmL_lt l
  have h2 : (256 : Nat) ^ l.length ≤ 256 ^ 8 := Nat.pow_le_pow_right (by omega) h
  have h3 : (256 : Nat) ^ 8 = 18446744073709551616 := by decide
  omega
theorem nmL_or (l : List UInt8) (b : UInt8) : nmL l ||| b.toNat * 2 ^ (8 * l.length) = nmL (l ++ [b]) := by
  have e : (2 : Nat) ^ (8 * l.length) = 256 ^ l.length := by rw [Nat.pow_mul]
  have h1 := nmL_lt l
  rw [← e] at h1
  rw [Nat.or_comm, or_add (8 * l.length) _ _ (Nat.dvd_mul_left _ _) h1, nmL_snoc, e, Nat.add_comm]
/-- the two words of a name -/
def wd0 (s : ByteArray) (k : Nat) : Nat := nmL ((s.data.toList.take k).take 8)
def wd1 (s : ByteArray) (k : Nat) : Nat := nmL ((s.data.toList.take k).drop 8)
theorem wd0_lt (s : ByteArray) (k : Nat) : wd0 s k < 18446744073709551616 := nmL_lt8 _ (by simp; omega)
theorem wd1_lt (s : ByteArray) (k : Nat) (h : s.size ≤ 16) : wd1 s k < 18446744073709551616 := nmL_lt8 _ (by
  have e : s.data.toList.length = s.size := by rw [Array.length_toList]; rfl
  simp only [List.length_drop, List.length_take]
  omega)
/-- the word with a byte at its place, as the machine reckons it -/
theorem wordL_or (X k : Nat) (b : UInt8) (hX : X < 18446744073709551616) (hk : k < 8) :
    bits .or .u64 (X : Int) (IntKind.u64.wrap (IntKind.u64.wrap (b.toNat : Int) * 2 ^ (k * 8))) = ((X ||| b.toNat * 2 ^ (8 * k) : Nat) : Int) := by
  have hb := byte_lt b
  have hw : IntKind.u64.wrap (b.toNat : Int) = (b.toNat : Int) := IntWalk.u64_in _ (by omega)
  rw [hw, Nat.mul_comm k 8]
  have hp : b.toNat * 2 ^ (8 * k) < 18446744073709551616 := by
    have h1 : (2 : Nat) ^ (8 * k) ≤ 2 ^ 56 := Nat.pow_le_pow_right (by omega) (by omega)
    have h2 : b.toNat * 2 ^ (8 * k) ≤ 255 * 2 ^ 56 := Nat.mul_le_mul (by omega) h1
    omega
  have e2 : ((b.toNat : Int) * 2 ^ (8 * k)) = ((b.toNat * 2 ^ (8 * k) : Nat) : Int) := by
    rw [Int.natCast_mul, Int.natCast_pow]; rfl
  rw [e2, IntWalk.u64_in _ (by omega)]
  exact u64_or_nat _ _ hX hp

theorem low_stepL (s : ByteArray) (k : Nat) (h : k < s.size) (h8 : k < 8) :
    bits .or .u64 (wd0 s k : Int) (IntKind.u64.wrap (IntKind.u64.wrap (s[k].toNat : Int) * 2 ^ (k * 8))) = (wd0 s (k + 1) : Int) ∧ wd1 s (k + 1) = wd1 s k := by
  have hl := take_len s k (by omega)
  have e1 : (s.data.toList.take k).take 8 = s.data.toList.take k := List.take_of_length_le (by omega)
  have e2 : (s.data.toList.take (k + 1)).take 8 = s.data.toList.take k ++ [s[k]] := by rw [take_snoc s k h]; exact List.take_of_length_le (by simp; omega)
  refine ⟨?_, ?_⟩
  · rw [wordL_or _ k _ (wd0_lt s k) h8]
    unfold wd0
    rw [e1, e2, ← nmL_or, hl]
  · unfold wd1
    rw [List.drop_eq_nil_of_le (by have := take_len s (k + 1) (by omega); omega), List.drop_eq_nil_of_le (by omega)]
theorem high_stepL (s : ByteArray) (k : Nat) (h : k < s.size) (h8 : 8 ≤ k) (h16 : s.size ≤ 16) :
    bits .or .u64 (wd1 s k : Int) (IntKind.u64.wrap (IntKind.u64.wrap (s[k].toNat : Int) * 2 ^ ((k - 8) * 8))) = (wd1 s (k + 1) : Int) ∧ wd0 s (k + 1) = wd0 s k := by
  have hl := take_len s k (by omega)
  have e2 : (s.data.toList.take (k + 1)).drop 8 = (s.data.toList.take k).drop 8 ++ [s[k]] := by rw [take_snoc s k h, List.drop_append_of_le_length (by omega)]
  refine ⟨?_, ?_⟩
  · rw [wordL_or _ (k - 8) _ (wd1_lt s k h16) (by omega)]
    unfold wd1
    rw [e2, ← nmL_or, List.length_drop, hl]
  · unfold wd0
    rw [take_snoc s k h, List.take_append_of_le_length (by omega)]
/-- a part's block -/
def TriP (w : World) (g : Nat) (x y n : Int) : Prop := w.cell? ⟨g, 0, none⟩ = some (.int .u64 x) ∧ w.cell? ⟨g, 1, none⟩ = some (.int .u64 y) ∧ w.cell? ⟨g, 2, none⟩ = some (.int .i64 n) ∧ w.frozen? ⟨g, 0, none⟩ = false ∧ w.frozen? ⟨g, 1, none⟩ = false ∧ w.frozen? ⟨g, 2, none⟩ = false
theorem TriP.drew {w : World} {g : Nat} {x y n : Int} (h : TriP w g x y n) : TriP w.drew g x y n := h
theorem TriP.set0 {w : World} {g : Nat} {x y n : Int} (h : TriP w g x y n) (z : Int) : TriP (w.setCell ⟨g, 0, none⟩ (.int .u64 z)) g z y n := by
  obtain ⟨h0, h1, h2, f0, f1, f2⟩ := h
  exact ⟨by go_simp, by go_simp, by go_simp, by go_simp, by go_simp, by go_simp⟩
theorem TriP.set1 {w : World} {g : Nat} {x y n : Int} (h : TriP w g x y n) (z : Int) : TriP (w.setCell ⟨g, 1, none⟩ (.int .u64 z)) g x z n := by
  obtain ⟨h0, h1, h2, f0, f1, f2⟩ := h
  exact ⟨by go_simp, by go_simp, by go_simp, by go_simp, by go_simp, by go_simp⟩
theorem TriP.far {w : World} {g : Nat} {x y n : Int} (h : TriP w g x y n) {p : Addr} (v : Value) (hne : p.block ≠ g) : TriP (w.setCell p v) g x y n := by
  have e := Below.heap_setCell w p v g (fun k => hne k.symm)
  obtain ⟨h0, h1, h2, f0, f1, f2⟩ := h
  exact ⟨(World.cell?_of_block (w := w) e).trans h0, (World.cell?_of_block (w := w) e).trans h1, (World.cell?_of_block (w := w) e).trans h2, (World.frozen?_of_block (w := w) e).trans f0, (World.frozen?_of_block (w := w) e).trans f1, (World.frozen?_of_block (w := w) e).trans f2⟩

/-- a term's own part -/
abbrev Pr3 := Nat × Nat × Int
def partT (t : Tm) : Pr3 := if (t.kind == 2) = true then (0, 0, t.n) else (wd0 t.name t.name.size, wd1 t.name t.name.size, (t.args.length : Int))
abbrev pv (p : Pr3) : Value := .agg #[.int .u64 (p.1 : Int), .int .u64 (p.2.1 : Int), .int .i64 p.2.2]

set_option maxRecDepth 100000 in
set_option maxHeartbeats 2000000 in
theorem partOf_any (t : Tm) (A : Option Addr) (c : Nat) (w : World) (hs : t.name.size ≤ 16) :
    Calls Tryz.prog 86 #[t.val A c] w fun e w' => e = .returned (pv (partT t)) ∧ Ext w w' := by
  cases hk : (t.kind == 2) with
  | true =>
    have HP : Hid (partT t = (0, 0, t.n)) := Lib.hid (by unfold partT; rw [hk]; rfl)
    go_enter Tryz.func86, Tryz.ntmps86
    go_wp2_with fail
    refine bodyPost_ret (v := pv (partT t)) (by rw [HP.out]; simp [results, Tryz.results86, go_sem]) rfl ⟨rfl, ((Ext.refl w).alloc _).alloc _⟩
  | false =>
    have HP : Hid (partT t = (wd0 t.name t.name.size, wd1 t.name t.name.size, (t.args.length : Int))) := Lib.hid (by unfold partT; rw [hk]; rfl)
    go_enter Tryz.func86, Tryz.ntmps86
    go_wp2_with fail
    go_loopw [18, 4] (fun i j wr => ∃ (k : Nat), k ≤ t.name.size ∧ i = .int .i64 k ∧ Hid (TriP wr (w.heap.size + 2) (wd0 t.name k : Int) (wd1 t.name k : Int) (t.args.length : Int)) ∧ Hid (TriP wr (w.heap.size + 1) 0 0 0) ∧ wr.cell? ⟨w.heap.size, 1, none⟩ = some (.string t.name) ∧ Ext w wr ∧ w.heap.size + 2 < wr.heap.size) (fun i _ _ => t.name.size - (intOf i).toNat)
    case atStart => exact ⟨0, Nat.zero_le _, rfl, Lib.hid ⟨by go_simp; rfl, by go_simp; rfl, by go_simp, by go_simp, by go_simp, by go_simp⟩, Lib.hid ⟨by go_simp, by go_simp, by go_simp, by go_simp, by go_simp, by go_simp⟩, by go_simp, (((Ext.refl w).alloc _).alloc _).alloc _, by simp⟩
    case round =>
      obtain ⟨k, hkk, rfl, HT, HZ, c1, hx, hsz⟩ := hrel
      by_cases hlt : k < t.name.size
      · obtain ⟨p0, p1, p2, f0, f1, f2⟩ := HT.out
        by_cases h8 : k < 8
        · have hk8 : (k : Int) / 8 = 0 := by omega
          have hr8 : (k : Int) % 8 = k := by omega
          go_wp2_with fail
          obtain ⟨v1, v2⟩ := low_stepL t.name k hlt h8
          have V1 := Lib.hid v1
          have V2 := Lib.hid v2
          clear v1 v2
          go_region
          rw [V1.out]
          go_wp2_with fail
          go_roundw
          case rel => exact ⟨k + 1, by omega, by go_num, Lib.hid (by rw [V2.out]; exact (HT.out.set0 _).drew), Lib.hid ((HZ.out.far _ (by simp)).drew), by go_simp, (hx.setCell (by simp; omega) _).drew, by simpa using hsz⟩
          case measure => simp [intOf]; omega
        · have hk8 : (k : Int) / 8 = 1 := by omega
          have hr8 : (k : Int) % 8 = ((k - 8 : Nat) : Int) := by omega
          obtain ⟨v1, v2⟩ := high_stepL t.name k hlt (by omega) hs
          have V1 := Lib.hid v1
          have V2 := Lib.hid v2
          clear v1 v2
          go_wp2_with fail
          go_region
          rw [V1.out]
          go_wp2_with fail
          go_roundw
          case rel => exact ⟨k + 1, by omega, by go_num, Lib.hid (by rw [V2.out]; exact (HT.out.set1 _).drew), Lib.hid ((HZ.out.far _ (by simp)).drew), by go_simp, (hx.setCell (by simp; omega) _).drew, by simpa using hsz⟩
          case measure => simp [intOf]; omega
      · obtain rfl : k = t.name.size := by omega
        obtain ⟨p0, p1, p2, f0, f1, f2⟩ := HT.out
        obtain ⟨q0, q1, q2, g0, g1, g2⟩ := HZ.out
        clear HT HZ
        go_wp2_with fail
        refine bodyPost_ret (v := pv (partT t)) (by rw [HP.out]; simp [results, Tryz.results86, go_sem, *]) rfl ⟨rfl, ?_⟩
        exact ((hx.setCell (by simp; try omega) _).setCell (by simp; try omega) _).setCell (by simp; try omega) _
end Go.Proofs.YtkdhpifjljkpfaaGreat

/- (*facts.key).lay: a term's parts laid into a key, one behind the other. -/
namespace Go.Proofs.YtkdhpifjljkpfaaGreat
open Go.RowKit

mutual
def partsT : Tm → List Pr3
  | ⟨k, s, n, l⟩ => partT ⟨k, s, n, l⟩ :: partsL l
def partsL : List Tm → List Pr3
  | [] => []
  | t :: ts => partsT t ++ partsL ts
end
theorem partsT_eq (t : Tm) : partsT t = partT t :: partsL t.args := by obtain ⟨k, s, n, l⟩ := t; rw [partsT]
theorem partsL_take {ts : List Tm} {j : Nat} (h : j < ts.length) : partsL (ts.take (j + 1)) = partsL (ts.take j) ++ partsT ts[j] := by
  induction ts generalizing j with
  | nil => simp at h
  | cons t ts ih =>
    cases j with
    | zero => simp [partsL]
    | succ j => simp only [List.take_succ_cons, partsL, List.getElem_cons_succ]; rw [ih (by simpa using h), List.append_assoc]
theorem partsL_len_take {ts : List Tm} {j : Nat} (h : j < ts.length) : (partsL (ts.take j)).length + (partsT ts[j]).length ≤ (partsL ts).length := by
  induction ts generalizing j with
  | nil => simp at h
  | cons t ts ih =>
    cases j with
    | zero => simp [partsL]
    | succ j => have := ih (j := j) (by simpa using h); simp only [List.take_succ_cons, partsL, List.getElem_cons_succ, List.length_append]; omega

/-- a key's block -/
def BlkQ (w : World) (g : Nat) (cs : List Value) : Prop := w.heap[g]? = some (.cells cs.toArray 83 (0, 0))
theorem BlkQ.cell {w : World} {g : Nat} {cs : List Value} (h : BlkQ w g cs) (o : Nat) : w.cell? ⟨g, o, none⟩ = cs[o]? := by
  unfold BlkQ at h
  simp [World.cell?, h]
theorem BlkQ.frozen {w : World} {g : Nat} {cs : List Value} (h : BlkQ w g cs) (o : Nat) : w.frozen? ⟨g, o, none⟩ = false := by
  unfold BlkQ at h
  simp [World.frozen?, h]
theorem BlkQ.set {w : World} {g : Nat} {cs : List Value} (h : BlkQ w g cs) (o : Nat) (v : Value) : BlkQ (w.setCell ⟨g, o, none⟩ v) g (cs.set o v) := by
  unfold BlkQ at *
  simp [World.setCell, Array.getElem?_modify, h]
theorem BlkQ.lt {w : World} {g : Nat} {cs : List Value} (h : BlkQ w g cs) : g < w.heap.size := by
  unfold BlkQ at h
  rcases Nat.lt_or_ge g w.heap.size with k | k
  · exact k
  · rw [Array.getElem?_eq_none k] at h; cases h
theorem BlkQ.ext {w w' : World} {g : Nat} {cs : List Value} (h : BlkQ w g cs) (k : Ext w w') : BlkQ w' g cs := (k.block g h.lt).trans h
theorem BlkQ.range {w : World} {g : Nat} {cs : List Value} (h : BlkQ w g cs) : w.rangeAt g 0 cs := fun j v hv => by rw [Nat.zero_add, h.cell, hv]
theorem BlkQ.there {w : World} {g : Nat} {cs : List Value} (h : BlkQ w g cs) : w.there g 0 cs.length := fun j hj => by
  rw [Nat.zero_add, h.cell, h.frozen, List.getElem?_eq_getElem hj]; exact ⟨rfl, rfl⟩
/-- one part laid -/
def put3 (cs : List Value) (a : Nat) (p : Pr3) : List Value := ((cs.set (a * 3) (.int .u64 (p.1 : Int))).set (a * 3 + 1) (.int .u64 (p.2.1 : Int))).set (a * 3 + 2) (.int .i64 p.2.2)
def putP : List Value → Nat → List Pr3 → List Value
  | cs, _, [] => cs
  | cs, a, p :: ps => putP (put3 cs a p) (a + 1) ps
theorem put3_len (cs : List Value) (a : Nat) (p : Pr3) : (put3 cs a p).length = cs.length := by simp [put3]
theorem putP_len : ∀ (ps : List Pr3) (cs : List Value) (a : Nat), (putP cs a ps).length = cs.length
  | [], _, _ => rfl
  | p :: ps, cs, a => by rw [putP, putP_len ps, put3_len]
theorem putP_app : ∀ (l r : List Pr3) (cs : List Value) (a : Nat), putP cs a (l ++ r) = putP (putP cs a l) (a + l.length) r
  | [], r, cs, a => by simp [putP]
  | p :: l, r, cs, a => by rw [List.cons_append, putP, putP, putP_app l r, List.length_cons]; congr 1; omega
theorem BlkQ.put3 {w : World} {g : Nat} {cs : List Value} (h : BlkQ w g cs) (a : Nat) (p : Pr3) : BlkQ (((w.setCell ⟨g, a * 3, none⟩ (.int .u64 (p.1 : Int))).setCell ⟨g, a * 3 + 1, none⟩ (.int .u64 (p.2.1 : Int))).setCell ⟨g, a * 3 + 2, none⟩ (.int .i64 p.2.2)) g (put3 cs a p) :=
  ((h.set _ _).set _ _).set _ _
theorem chg3 {w : World} {g : Nat} (o1 o2 o3 : Nat) (v1 v2 v3 : Value) : Chg (· = g) w (((w.setCell ⟨g, o1, none⟩ v1).setCell ⟨g, o2, none⟩ v2).setCell ⟨g, o3, none⟩ v3) := by
  refine ⟨by simp [World.setCell], by simp [World.setCell], by simp [World.setCell], by simp [World.setCell], fun k _ hk => ?_⟩
  rw [Below.heap_setCell _ _ _ _ hk, Below.heap_setCell _ _ _ _ hk, Below.heap_setCell _ _ _ _ hk]

/-- what lay comes to -/
def LayTo (W0 : World) (g : Nat) (cs : List Value) (a : Nat) (ps : List Pr3) (e : Ending) (w' : World) : Prop :=
  e = .returned (.int .i64 ((a + ps.length : Nat) : Int)) ∧ BlkQ w' g (putP cs a ps) ∧ Ext W0 w'
def LayAny (hh : Nat) : Prop := ∀ (t : Tm) (A : Option Addr) (c : Nat) (W0 w : World) (g a : Nat) (cs : List Value), t.high ≤ hh → shortT t → TmAt W0 t A c → Ext W0 w → W0.heap.size ≤ g → BlkQ w g cs → cs.length = 74 → a + (partsT t).length ≤ 24 →
    Calls Tryz.prog 59 #[.pointer (some ⟨g, 0, none⟩), t.val A c, .int .i64 (a : Int)] w (LayTo W0 g cs a (partsT t))

set_option maxRecDepth 100000 in
set_option maxHeartbeats 4000000 in
theorem lay_any (hh : Nat) : LayAny hh := by
  induction hh with
  | zero => intro t A c W0 w g a cs h0; have := high_pos t; omega
  | succ hh ih =>
    intro t A c W0 w g a cs h0 hsh h hx hg hB hl ha
    have IH := Lib.hid ih
    clear ih
    have hn := hsh.name
    have hal := h.fits.args
    have HSH := Lib.hid hsh
    have KP := Lib.hid (fun u => partOf_any t A c u hn)
    have HPT := Lib.hid (partsT_eq t)
    have HLEN : Hid ((partsT t).length = (partsL t.args).length + 1) := Lib.hid (by rw [partsT_eq, List.length_cons])
    obtain ⟨W1, hW1⟩ : ∃ W1, W1 = w.alloc (.cells #[.int .i64 t.kind, .string t.name, .int .i64 t.n, .slice A t.args.length c] 40) := ⟨_, rfl⟩
    have hx1 : Ext w W1 := by rw [hW1]; exact (Ext.refl w).alloc _
    have q0 : W1.cell? ⟨w.heap.size, 0, none⟩ = some (.int .i64 t.kind) := by rw [hW1]; go_simp
    have q1 : W1.cell? ⟨w.heap.size, 1, none⟩ = some (.string t.name) := by rw [hW1]; go_simp
    have q2 : W1.cell? ⟨w.heap.size, 2, none⟩ = some (.int .i64 t.n) := by rw [hW1]; go_simp
    have q3 : W1.cell? ⟨w.heap.size, 3, none⟩ = some (.slice A t.args.length c) := by rw [hW1]; go_simp
    have HW := Lib.hid hW1
    have hB1 := hB.ext hx1
    have HX1 := Lib.hid (hx.trans hx1)
    have hgl := hB.lt
    clear hW1 hx1
    obtain ⟨b, hb⟩ : ∃ b, b = w.heap.size := ⟨_, rfl⟩
    have hgb : g ≠ b := by omega
    have ha24 : (a : Int) < 24 := by have := HLEN.out; omega
    have ha0 : (0 : Int) ≤ (a : Int) := by omega
    have c0 := hB1.cell (a * 3)
    have c1 := hB1.cell (a * 3 + 1)
    have c2 := hB1.cell (a * 3 + 2)
    rw [List.getElem?_eq_getElem (by omega)] at c0 c1 c2
    have f0 := hB1.frozen (a * 3)
    have f1 := hB1.frozen (a * 3 + 1)
    have f2 := hB1.frozen (a * 3 + 2)
    generalize cs[a * 3] = v0 at c0
    generalize cs[a * 3 + 1] = v1 at c1
    generalize cs[a * 3 + 2] = v2 at c2
    go_enter Tryz.func59, Tryz.ntmps59
    go_upto_region 1 with (fail)
    rw [← HW.out, ← hb]
    rw [← hb] at q0 q1 q2 q3
    clear HW hb
    go_cut [] (fun wx => BlkQ wx g (put3 cs a (partT t)) ∧ wx.cell? ⟨b, 3, none⟩ = some (.slice A t.args.length c) ∧ Ext W0 wx)
    case first =>
      have F0 : ∀ o, W1.frozen? ⟨g, o, none⟩ = false := hB1.frozen
      have hgl1 := hB1.lt
      have HB1 := Lib.hid hB1
      clear hB1 hB
      go_region_with ((with_reducible refine (KP.out _).mono ?_); rintro e wb ⟨rfl, hxb⟩; have d0 := hxb.cell c0; have d1 := hxb.cell c1; have d2 := hxb.cell c2; have e0 : wb.frozen? ⟨g, a * 3, none⟩ = false := (Below.frozen hxb (p := ⟨g, a * 3, none⟩) hgl1).trans (F0 _); have e1 : wb.frozen? ⟨g, a * 3 + 1, none⟩ = false := (Below.frozen hxb (p := ⟨g, a * 3 + 1, none⟩) hgl1).trans (F0 _); have e2 : wb.frozen? ⟨g, a * 3 + 2, none⟩ = false := (Below.frozen hxb (p := ⟨g, a * 3 + 2, none⟩) hgl1).trans (F0 _))
      have hxw : Ext W0 wb := by first | exact HX1.out.trans hxb | exact HX1.out.drew.trans hxb
      obtain ⟨wz, hwz⟩ : ∃ wz, wz = ((wb.setCell ⟨g, a * 3, none⟩ (.int .u64 ((partT t).1 : Int))).setCell ⟨g, a * 3 + 1, none⟩ (.int .u64 ((partT t).2.1 : Int))).setCell ⟨g, a * 3 + 2, none⟩ (.int .i64 (partT t).2.2) := ⟨_, rfl⟩
      rw [← hwz]
      have hC : Chg (· = g) wb wz := by rw [hwz]; exact chg3 _ _ _ _ _ _
      have hBz : BlkQ wz g (put3 cs a (partT t)) := by rw [hwz]; exact (BlkQ.ext (w := W1.drew) HB1.out hxb).put3 a (partT t)
      have hcz : wz.cell? ⟨b, 3, none⟩ = some (.slice A t.args.length c) := hC.cell (hxb.cell q3) (fun e => hgb e.symm)
      have hxz : Ext W0 wz := Chg.ext_of hxw hC (fun x e => by have e' : x = g := e; rw [e']; exact hg)
      have HF := Lib.hid (And.intro hBz (And.intro hcz hxz))
      clear hwz hC hBz hcz hxz
      clear hxb hxw d0 d1 d2 e0 e1 e2 F0
      go_wp2_with fail
      go_meet
      exact HF.out
    case rest =>
      obtain ⟨hB2, r3, hx2⟩ := hcut
      obtain ⟨w2, hw2⟩ : ∃ w2 : World, w2 = wc := ⟨_, rfl⟩
      rw [← hw2] at hB2 r3 hx2
      rw [← hw2]
      have HH := Lib.hid h
      have HG := Lib.hid hg
      have HL := Lib.hid hl
      clear hw2 c0 c1 c2 f0 f1 f2 q0 q1 q2 q3 HX1 hB hB1 hgl h hg hl hgb KP hx
      go_wp2_with fail
      go_loopw [2, 8, 21] (fun p _ i wr => ∃ j : Nat, j ≤ t.args.length ∧ i = .int .i64 j ∧ p = .int .i64 ((a + 1 + (partsL (t.args.take j)).length : Nat) : Int) ∧ BlkQ wr g (putP (put3 cs a (partT t)) (a + 1) (partsL (t.args.take j))) ∧ Ext W0 wr) (fun _ _ i _ => t.args.length - (intOf i).toNat)
      case atStart => exact ⟨0, Nat.zero_le _, rfl, by simp [partsL], hB2, hx2⟩
      case round =>
        obtain ⟨j, hj, rfl, rfl, hBr, hxr⟩ := hrel
        by_cases hlt : j < t.args.length
        · have hji : (j : Int) < (t.args.length : Int) := by omega
          have hj0 : (0 : Int) ≤ (j : Int) := by omega
          obtain ⟨b', o', B, e, hA, y0, y1, y2, y3, hsub⟩ := HH.out.args.at_ hlt
          subst hA
          have z0 := hxr.cell y0
          have z1 := hxr.cell y1
          have z2 := hxr.cell y2
          have z3 := hxr.cell y3
          have hb1 := high_lt hlt
          have HT := Lib.hid (partsL_take hlt)
          have hlen := partsL_len_take hlt
          have hsz : a + 1 + (partsL (t.args.take j)).length + (partsT t.args[j]).length ≤ 24 := by have := HLEN.out; omega
          have KI := Lib.hid (fun u (k : Ext wr u) => IH.out t.args[j] B e W0 u g (a + 1 + (partsL (t.args.take j)).length) (putP (put3 cs a (partT t)) (a + 1) (partsL (t.args.take j))) (by omega) (shortL_mem HSH.out.args (List.getElem_mem hlt)) hsub (hxr.trans k) HG.out (hBr.ext k) (by rw [putP_len, put3_len]; exact HL.out) hsz)
          have hx9 : Ext wr (wr.alloc (.cells #[.int .i64 t.args[j].kind, .string t.args[j].name, .int .i64 t.args[j].n, .slice B t.args[j].args.length e] 40)) := (Ext.refl wr).alloc _
          have HJ := Lib.hid hlt
          clear y0 y1 y2 y3 hlen hBr hxr hsub hB2 hx2 hsz
          go_wp2_with fail
          refine (KI.out _ hx9).mono ?_
          rintro e' w5 ⟨rfl, hB5, hx5⟩
          have HB5 : Hid (BlkQ w5 g (putP (put3 cs a (partT t)) (a + 1) (partsL (t.args.take (j + 1))))) := Lib.hid (by rw [HT.out, putP_app]; exact hB5)
          have HN5 : Hid (((a : Int) + 1 + ((partsL (t.args.take j)).length : Int) + ((partsT t.args[j]).length : Int)) = ((a + 1 + (partsL (t.args.take (j + 1))).length : Nat) : Int)) := Lib.hid (by rw [HT.out, List.length_append]; omega)
          have HX5 := Lib.hid hx5
          clear hB5 hx5 hx9
          go_wp2_with fail
          go_roundw
          case rel => exact ⟨j + 1, HJ.out, by go_num, congrArg (Value.int .i64) HN5.out, HB5.out, HX5.out⟩
          case measure => simp [intOf]; omega
        · have hji : ¬ ((j : Int) < (t.args.length : Int)) := by omega
          have HTA : Hid (t.args.take j = t.args) := Lib.hid (List.take_of_length_le (by omega))
          rw [HTA.out] at hBr
          have HF : Hid (BlkQ wr g (putP cs a (partsT t)) ∧ Ext W0 wr) := Lib.hid ⟨by rw [HPT.out, putP]; exact hBr, hxr⟩
          have HNF : Hid (((a : Int) + 1 + ((partsL (t.args.take j)).length : Int)) = ((a + (partsT t).length : Nat) : Int)) := Lib.hid (by rw [HTA.out, HLEN.out]; omega)
          clear hBr hxr
          go_wp2_with fail
          go_ret
          exact ⟨ret_int HNF.out, HF.out⟩
end Go.Proofs.YtkdhpifjljkpfaaGreat

/- facts.keyOf: a fact as a key. -/
namespace Go.Proofs.YtkdhpifjljkpfaaGreat
open Go.RowKit

abbrev factV (t : Tm) (A : Option Addr) (c : Nat) (f u : Int) : Value := .agg #[.int .i64 t.kind, .string t.name, .int .i64 t.n, .slice A t.args.length c, .int .i64 f, .int .i64 u]
def zero3 : Nat → List Value
  | 0 => []
  | n + 1 => .int .u64 0 :: .int .u64 0 :: .int .i64 0 :: zero3 n
/-- a key's cells -/
def keyCs (ps : List Pr3) (f u : Int) : List Value := putP (zero3 24 ++ [.int .i64 f, .int .i64 u]) 0 ps

theorem zero3_len : ∀ n, (zero3 n).length = n * 3
  | 0 => rfl
  | n + 1 => by simp only [zero3, List.length_cons, zero3_len n]; omega
theorem keyCs_len (ps : List Pr3) (f u : Int) : (keyCs ps f u).length = 74 := by unfold keyCs; rw [putP_len]; simp [zero3_len]
theorem one_set {cs : List Value} (h : ∀ v ∈ cs, v.oneCell' = true) (o : Nat) {v : Value} (hv : v.oneCell' = true) : ∀ x ∈ cs.set o v, x.oneCell' = true := fun x hx => by
  rcases List.mem_or_eq_of_mem_set hx with h1 | rfl
  · exact h x h1
  · exact hv
theorem putP_one : ∀ (ps : List Pr3) (cs : List Value) (a : Nat), (∀ v ∈ cs, v.oneCell' = true) → ∀ v ∈ putP cs a ps, v.oneCell' = true
  | [], _, _, h => h
  | _ :: ps, _, _, h => putP_one ps _ _ (one_set (one_set (one_set h _ rfl) _ rfl) _ rfl)
theorem zero3_one : ∀ n, ∀ v ∈ zero3 n, v.oneCell' = true
  | 0, v, h => by cases h
  | n + 1, v, h => by
    simp only [zero3, List.mem_cons] at h
    rcases h with rfl | rfl | rfl | h
    · rfl
    · rfl
    · rfl
    · exact zero3_one n v h
theorem keyCs_one (ps : List Pr3) (f u : Int) : ∀ v ∈ keyCs ps f u, v.oneCell' = true := putP_one ps _ _ (fun v h => by
  rcases List.mem_append.1 h with h | h
  · exact zero3_one 24 v h
  · simp only [List.mem_cons, List.not_mem_nil, or_false] at h
    rcases h with rfl | rfl <;> rfl)
theorem zero_key : Tryz.zeroCells83 = (zero3 24 ++ [Value.int .i64 0, Value.int .i64 0]).toArray := by kernel_rfl
theorem key_start (f u : Int) : (Tryz.zeroCells83.setIfInBounds 72 (Value.int .i64 f)).setIfInBounds 73 (Value.int .i64 u) = (keyCs [] f u).toArray := by rw [zero_key]; rfl
theorem blk_made (w : World) (cs : List Value) (Z : Array Value) (h : Z = cs.toArray) : BlkQ (w.alloc (.cells Z 83)) w.heap.size cs := by subst h; exact heap_alloc_new w _
theorem infoKey : (Tryz.prog.info? 83).map (·.size) = some 74 := by kernel_rfl
theorem ext_setCells {w : World} {b : Nat} (vs : List Value) : ∀ (o : Nat) (u : World) (_ : w.heap.size ≤ b), Ext w u → Ext w (u.setCells b o vs) := by
  induction vs with
  | nil => intro o u _ h; exact h
  | cons v r ih => intro o u hb h; exact ih (o + 1) _ hb (h.setCell hb v)
def setAll : List Value → Nat → List Value → List Value
  | cs, _, [] => cs
  | cs, o, v :: r => setAll (cs.set o v) (o + 1) r
theorem BlkQ.setCells {g : Nat} (vs : List Value) : ∀ (o : Nat) (w : World) (cs : List Value), BlkQ w g cs → BlkQ (w.setCells g o vs) g (setAll cs o vs) := by
  induction vs with
  | nil => intro o w cs h; exact h
  | cons v r ih => intro o w cs h; exact ih (o + 1) _ _ (h.set o v)
theorem setAll_eq : ∀ (vs cs : List Value) (o : Nat), o + vs.length = cs.length → setAll cs o vs = cs.take o ++ vs
  | [], cs, o, h => by simp only [setAll, List.append_nil]; rw [List.take_of_length_le (by simp at h; omega)]
  | v :: r, cs, o, h => by
    simp only [List.length_cons] at h
    rw [setAll, setAll_eq r _ _ (by rw [List.length_set]; omega), List.take_succ_eq_append_getElem (by rw [List.length_set]; omega), List.getElem_set_self, List.take_set_of_le (Nat.le_refl _), List.append_assoc]
    rfl
theorem BlkQ.all {w : World} {g : Nat} {cs vs : List Value} (h : BlkQ w g cs) (hl : vs.length = cs.length) : BlkQ (w.setCells g 0 vs) g vs := by
  have := BlkQ.setCells vs 0 w cs h
  rwa [setAll_eq vs cs 0 (by omega), List.take_zero, List.nil_append] at this

set_option maxRecDepth 100000 in
set_option maxHeartbeats 1000000 in
theorem keyOf_any (t : Tm) (A : Option Addr) (c : Nat) (f u : Int) (w : World) (h : TmAt w t A c) (hsh : shortT t) (hp : (partsT t).length ≤ 24) :
    Calls Tryz.prog 39 #[factV t A c f u] w fun e w' => e = .returned (.agg (keyCs (partsT t) f u).toArray) ∧ Ext w w' := by
  obtain ⟨W1, hW1⟩ : ∃ W1, W1 = w.alloc (.cells #[.int .i64 t.kind, .string t.name, .int .i64 t.n, .slice A t.args.length c, .int .i64 f, .int .i64 u] 44) := ⟨_, rfl⟩
  obtain ⟨W2, hW2⟩ : ∃ W2, W2 = W1.alloc (.cells Tryz.zeroCells83 83) := ⟨_, rfl⟩
  obtain ⟨W3, hW3⟩ : ∃ W3, W3 = W2.alloc (.cells Tryz.zeroCells83 83) := ⟨_, rfl⟩
  have hx1 : Ext w W1 := by rw [hW1]; exact (Ext.refl w).alloc _
  have hx2 : Ext W1 W2 := by rw [hW2]; exact (Ext.refl W1).alloc _
  have hx3 : Ext W2 W3 := by rw [hW3]; exact (Ext.refl W2).alloc _
  have hs1 : W1.heap.size = w.heap.size + 1 := by rw [hW1]; simp
  have hs2 : W2.heap.size = w.heap.size + 1 + 1 := by rw [hW2]; simp [hs1]
  have q0 : W1.cell? ⟨w.heap.size, 0, none⟩ = some (.int .i64 t.kind) := by rw [hW1]; go_simp
  have q1 : W1.cell? ⟨w.heap.size, 1, none⟩ = some (.string t.name) := by rw [hW1]; go_simp
  have q2 : W1.cell? ⟨w.heap.size, 2, none⟩ = some (.int .i64 t.n) := by rw [hW1]; go_simp
  have q3 : W1.cell? ⟨w.heap.size, 3, none⟩ = some (.slice A t.args.length c) := by rw [hW1]; go_simp
  have q4 : W1.cell? ⟨w.heap.size, 4, none⟩ = some (.int .i64 f) := by rw [hW1]; go_simp
  have q5 : W1.cell? ⟨w.heap.size, 5, none⟩ = some (.int .i64 u) := by rw [hW1]; go_simp
  obtain ⟨ZL, hZL⟩ : ∃ ZL : List Value, ZL = zero3 24 ++ [.int .i64 0, .int .i64 0] := ⟨_, rfl⟩
  have hZ : Tryz.zeroCells83 = ZL.toArray := by rw [hZL]; exact zero_key
  have hzl : ZL.length = 74 := by rw [hZL]; rfl
  obtain ⟨KL, hKL⟩ : ∃ KL : List Value, KL = keyCs [] f u := ⟨_, rfl⟩
  have hS : (Tryz.zeroCells83.setIfInBounds 72 (Value.int .i64 f)).setIfInBounds 73 (Value.int .i64 u) = KL.toArray := by rw [hKL]; exact key_start f u
  have hl0 : KL.length = 74 := by rw [hKL]; exact keyCs_len _ _ _
  have h1 : KL.toArray.all (·.oneCell') = true := by rw [hKL]; simp; exact keyCs_one _ _ _
  have HKL := Lib.hid hKL
  clear hKL hZL
  have hR2 : BlkQ W2 W1.heap.size ZL := by rw [hW2]; exact blk_made _ _ _ hZ
  have hK3 : BlkQ W3 W2.heap.size ZL := by rw [hW3]; exact blk_made _ _ _ hZ
  have hth : W3.there W2.heap.size 0 KL.toArray.size := by have := hK3.there; rw [hzl] at this; simpa [hl0] using this
  have hi' : (Tryz.prog.info? 83).map (·.size) = some KL.toArray.size := by simpa [hl0] using infoKey
  have hB4 : BlkQ (W3.setCells W2.heap.size 0 KL) W2.heap.size KL := hK3.all (by rw [hl0, hzl])
  have hx4 : Ext W2 (W3.setCells W2.heap.size 0 KL) := ext_setCells _ _ _ (Nat.le_refl _) hx3
  have HW3 : Hid (W3 = ((w.alloc (.cells #[.int .i64 t.kind, .string t.name, .int .i64 t.n, .slice A t.args.length c, .int .i64 f, .int .i64 u] 44)).alloc (.cells Tryz.zeroCells83 83)).alloc (.cells Tryz.zeroCells83 83)) := Lib.hid (by rw [hW3, hW2, hW1])
  rw [hs2] at hth hB4 hx4
  rw [hs1] at hR2
  have HS := Lib.hid hS
  have HTH := Lib.hid hth
  clear hW1 hW2 hW3 hZ hK3 hx3 hS hth
  go_enter Tryz.func39, Tryz.ntmps39
  go_upto_region 2 with (refine wpList_store_mid (op := ⟨none, _, _, _, _, _⟩) rfl 83 (.tmp 3) (.tmp 6) rfl (w.heap.size + 1 + 1) 0 KL.toArray rfl (congrArg Value.agg HS.out) (HW3.out ▸ HTH.out) hi' h1 ?_)
  rw [← HW3.out]
  have hx24 := hx2.trans hx4
  replace q0 := hx24.cell q0
  replace q1 := hx24.cell q1
  replace q2 := hx24.cell q2
  replace q3 := hx24.cell q3
  have HLAY := Lib.hid (lay_any t.high t A c W2 (W3.setCells (w.heap.size + 1 + 1) 0 KL) (w.heap.size + 1 + 1) 0 KL (Nat.le_refl _) hsh (h.ext (hx1.trans hx2)) hx4 (by omega) hB4 hl0 (by omega))
  have HX2 := Lib.hid (hx1.trans hx2)
  have HR2 := Lib.hid hR2
  have HK : Hid (putP KL 0 (partsT t) = keyCs (partsT t) f u) := Lib.hid (by rw [HKL.out]; rfl)
  have HSZ := Lib.hid hs2
  have HZ := Lib.hid hzl
  have hrb : w.heap.size + 1 ≠ w.heap.size := by omega
  generalize W3.setCells (w.heap.size + 1 + 1) 0 KL = W4 at *
  clear hx24 q4 q5 hR2 hl0 h1 hi' hB4 hx4 HTH HS HW3 hx1 hx2 hs1 hs2 HKL hsh hp
  go_wp2_with fail
  refine HLAY.out.mono ?_
  rintro e w5 ⟨rfl, hB5, hx5⟩
  have hR5 := HR2.out.ext hx5
  have HX5 := Lib.hid (HX2.out.trans hx5)
  rw [HK.out] at hB5
  obtain ⟨KF, hKF⟩ : ∃ KF : List Value, KF = keyCs (partsT t) f u := ⟨_, rfl⟩
  rw [← hKF] at hB5
  have HKF := Lib.hid hKF
  have hlf : KF.length = 74 := by rw [hKF]; exact keyCs_len _ _ _
  have h1 : KF.toArray.all (·.oneCell') = true := by rw [hKF]; simp; exact keyCs_one _ _ _
  have hi : (Tryz.prog.info? 83).map (·.size) = some KF.length := by rw [hlf]; exact infoKey
  have hi' : (Tryz.prog.info? 83).map (·.size) = some KF.toArray.size := by simpa using hi
  have hth : w5.there (w.heap.size + 1) 0 KF.toArray.size := by have := hR5.there; rw [HZ.out] at this; simpa [hlf] using this
  have hrg := hB5.range
  have hfin : Ext w (w5.setCells (w.heap.size + 1) 0 KF) := ext_setCells _ _ _ (by omega) HX5.out
  have hrs : (w5.setCells (w.heap.size + 1) 0 KF).rangeAt (w.heap.size + 1) 0 KF := World.rangeAt_setCells_same _ _ _ _ (by simpa using hth)
  have hres := run_loadVar_mid (P := Tryz.prog) _ (w.heap.size + 1) 0 83 KF _ hrs Tryz.underlying83 rfl hi
  clear hKF hB5 hR5 hx5 HLAY hrs
  go_wp2_with (first
    | (refine wpList_load_mid (op := ⟨some 10, _, _, _, _, _⟩) rfl 83 (.tmp 3) rfl (w.heap.size + 1 + 1) 0 rfl KF _ hrg Tryz.underlying83 rfl hi ?_)
    | (refine wpList_store_mid (op := ⟨none, _, _, _, _, _⟩) rfl 83 (.tmp 2) (.tmp 10) rfl (w.heap.size + 1) 0 KF.toArray rfl rfl hth hi' h1 ?_))
  refine bodyPost_ret (v := .agg KF.toArray) ?_ rfl ⟨by rw [HKF.out], hfin⟩
  simp [results, Tryz.results39, Act.put, asAddr, hres]
end Go.Proofs.YtkdhpifjljkpfaaGreat

/- Facts as keys of a map: each has one, and two alike are one fact. -/
namespace Go.Proofs.YtkdhpifjljkpfaaGreat
open Go.RowKit Go.Maps

/-! a key's cells as parts -/
def c3 (p : Pr3) : List Value := [.int .u64 (p.1 : Int), .int .u64 (p.2.1 : Int), .int .i64 p.2.2]
def cellsP : List Pr3 → List Value
  | [] => []
  | p :: ps => c3 p ++ cellsP ps
theorem cellsP_len : ∀ ps : List Pr3, (cellsP ps).length = ps.length * 3
  | [] => rfl
  | p :: ps => by rw [cellsP, List.length_append, cellsP_len ps, List.length_cons]; simp [c3]; omega
theorem cellsP_set (tl : List Value) (p : Pr3) : ∀ (X : List Pr3) (a : Nat), a < X.length → put3 (cellsP X ++ tl) a p = cellsP (X.set a p) ++ tl
  | x :: X, 0, _ => by simp [put3, cellsP, c3]
  | x :: X, a + 1, h => by
    have ih := cellsP_set tl p X a (by simpa using h)
    unfold put3 at ih ⊢
    have e : (a + 1) * 3 = a * 3 + 3 := by omega
    rw [List.set_cons_succ, cellsP, cellsP, e, List.append_assoc, List.append_assoc, ← ih]
    simp [c3, List.set_cons_succ]
  | [], _, h => by simp at h
def setP : List Pr3 → Nat → List Pr3 → List Pr3
  | X, _, [] => X
  | X, a, p :: ps => setP (X.set a p) (a + 1) ps
theorem putP_cells (tl : List Value) : ∀ (ps X : List Pr3) (a : Nat), a + ps.length ≤ X.length → putP (cellsP X ++ tl) a ps = cellsP (setP X a ps) ++ tl
  | [], _, _, _ => rfl
  | p :: ps, X, a, h => by
    simp only [List.length_cons] at h
    rw [putP, cellsP_set tl p X a (by omega), putP_cells tl ps _ _ (by rw [List.length_set]; omega), setP]
theorem setP_eq : ∀ (ps X : List Pr3) (a : Nat), a + ps.length ≤ X.length → setP X a ps = X.take a ++ ps ++ X.drop (a + ps.length)
  | [], X, a, _ => by simp [setP]
  | p :: ps, X, a, h => by
    simp only [List.length_cons] at h
    rw [setP, setP_eq ps _ _ (by rw [List.length_set]; omega), List.take_succ_eq_append_getElem (by rw [List.length_set]; omega), List.getElem_set_self, List.take_set_of_le (Nat.le_refl _), List.drop_set_of_lt (by omega)]
    simp only [List.append_assoc, List.singleton_append, List.length_cons]
    rw [show a + 1 + ps.length = a + (ps.length + 1) by omega]
theorem zero3_cells : ∀ n, zero3 n = cellsP (List.replicate n (0, 0, 0))
  | 0 => rfl
  | n + 1 => by rw [zero3, List.replicate_succ, cellsP, zero3_cells n]; rfl
/-- the parts, made twenty-four -/
def padP (ps : List Pr3) : List Pr3 := ps ++ List.replicate (24 - ps.length) (0, 0, 0)
theorem padP_len {ps : List Pr3} (h : ps.length ≤ 24) : (padP ps).length = 24 := by simp [padP]; omega
theorem keyCs_eq {ps : List Pr3} (h : ps.length ≤ 24) (f u : Int) : keyCs ps f u = cellsP (padP ps) ++ [.int .i64 f, .int .i64 u] := by
  unfold keyCs padP
  rw [zero3_cells, putP_cells _ _ _ _ (by rw [List.length_replicate]; omega), setP_eq _ _ _ (by rw [List.length_replicate]; omega), List.take_zero, List.nil_append, Nat.zero_add, List.drop_replicate]
theorem cellsP_inj {tl tl' : List Value} : ∀ {X Y : List Pr3}, X.length = Y.length → cellsP X ++ tl = cellsP Y ++ tl' → X = Y ∧ tl = tl'
  | [], [], _, h => ⟨rfl, h⟩
  | x :: X, [], h, _ => by simp at h
  | [], y :: Y, h, _ => by simp at h
  | x :: X, y :: Y, hl, h => by
    rw [cellsP, cellsP, List.append_assoc, List.append_assoc] at h
    simp only [c3, List.cons_append, List.nil_append, List.cons.injEq, Value.int.injEq, true_and] at h
    obtain ⟨h1, h2, h3, h4⟩ := h
    obtain ⟨e, e'⟩ := cellsP_inj (by simpa using hl) h4
    refine ⟨?_, e'⟩
    rw [e]
    congr 1
    exact Prod.ext (by omega) (Prod.ext (by omega) h3)
theorem cellsP_at (tl : List Value) : ∀ {X : List Pr3} {i : Nat} (h : i < X.length), ((cellsP X ++ tl).drop (i * 3)).take 3 = c3 X[i]
  | x :: X, 0, _ => by simp [cellsP, c3]
  | x :: X, i + 1, h => by
    rw [show (i + 1) * 3 = i * 3 + 3 by omega, cellsP, List.append_assoc, Nat.add_comm, ← List.drop_drop]
    have e : (c3 x ++ (cellsP X ++ tl)).drop 3 = cellsP X ++ tl := rfl
    rw [e, cellsP_at tl (by simpa using h)]
    rfl

/-! what a term's parts tell of it -/
theorem bytes_empty {s : ByteArray} (h : s.size = 0) : s = ⟨#[]⟩ := by
  obtain ⟨a⟩ := s
  have : a = #[] := Array.size_eq_zero_iff.1 h
  rw [this]
theorem take_all (s : ByteArray) : s.data.toList.take s.size = s.data.toList := List.take_of_length_le (by rw [Array.length_toList]; exact Nat.le_refl _)
theorem plain2 {t : Tm} (h : plainB t = true) (k2 : t.kind = 2) : t.name = ⟨#[]⟩ ∧ t.args = [] := by
  unfold plainB at h
  simp [k2] at h
  obtain ⟨⟨⟨h1, _⟩, _⟩, h4⟩ := h
  refine ⟨?_, h4⟩
  have h0 := toList_empty t.name (by simpa using h1)
  exact bytes_empty h0
theorem plain_kinds {t : Tm} (h : plainB t = true) (hg : t.kind ≠ 1) : t.kind = 2 ∨ t.kind = 3 := by
  unfold plainB at h
  by_cases h2 : t.kind = 2
  · exact .inl h2
  · by_cases h3 : t.kind = 3
    · exact .inr h3
    · simp [hg, h2, h3] at h
theorem plain3n {t : Tm} (h : plainB t = true) (k3 : t.kind = 3) : t.n = 0 ∧ 0 < t.name.size := by
  unfold plainB at h
  simp [k3] at h
  obtain ⟨⟨h1, h2⟩, _⟩ := h
  unfold wordB at h1
  simp at h1
  exact ⟨h2, h1.1.1.1⟩
theorem wd_inj {s t : ByteArray} (hs : goodL s.data.toList) (ht : goodL t.data.toList) (h0 : wd0 s s.size = wd0 t t.size) (h1 : wd1 s s.size = wd1 t t.size) : s = t := by
  have es : s.data.toList.length = s.size := by rw [Array.length_toList]; rfl
  have et : t.data.toList.length = t.size := by rw [Array.length_toList]; rfl
  unfold wd0 at h0
  unfold wd1 at h1
  rw [take_all, take_all] at h0 h1
  have a := nmL_inj _ _ (fun b hb => hs b (List.mem_of_mem_take hb)) (fun b hb => ht b (List.mem_of_mem_take hb)) h0
  have b := nmL_inj _ _ (fun b hb => hs b (List.mem_of_mem_drop hb)) (fun b hb => ht b (List.mem_of_mem_drop hb)) h1
  refine name_ext ?_
  rw [← List.take_append_drop 8 s.data.toList, ← List.take_append_drop 8 t.data.toList, a, b]
theorem wd_none {s : ByteArray} (hs : goodL s.data.toList) (hp : 0 < s.size) : ¬ wd0 s s.size = 0 := by
  have es : s.data.toList.length = s.size := by rw [Array.length_toList]; rfl
  unfold wd0
  rw [take_all]
  intro h
  have : s.data.toList.take 8 = [] := nmL_inj _ [] (fun b hb => hs b (List.mem_of_mem_take hb)) (fun b hb => by cases hb) h
  have hl := congrArg List.length this
  simp only [List.length_take, List.length_nil] at hl
  omega
theorem groundT_parts {t : Tm} (h : groundT t = true) : groundL t.args = true ∧ t.kind ≠ 1 := by
  obtain ⟨k, s, n, l⟩ := t
  simpa [groundT] using h
theorem parts_inj (hh : Nat) : ∀ t u : Tm, t.high ≤ hh → allP t → allP u → groundT t = true → groundT u = true → ∀ r r', partsT t ++ r = partsT u ++ r' → t = u ∧ r = r' := by
  have step : ∀ hh : Nat, (∀ t u : Tm, t.high ≤ hh → allP t → allP u → groundT t = true → groundT u = true → ∀ r r', partsT t ++ r = partsT u ++ r' → t = u ∧ r = r') →
      ∀ ts us : List Tm, ts.length = us.length → highs ts ≤ hh → allPs ts → allPs us → groundL ts = true → groundL us = true → ∀ r r', partsL ts ++ r = partsL us ++ r' → ts = us ∧ r = r' := by
    intro hh ih ts
    induction ts with
    | nil =>
      intro us hl _ _ _ _ _ r r' h
      obtain rfl : us = [] := List.eq_nil_of_length_eq_zero (by simpa using hl.symm)
      exact ⟨rfl, h⟩
    | cons a ts ihl =>
      intro us hl hhi pa pu ga gu r r' h
      cases us with
      | nil => simp at hl
      | cons b us =>
        simp only [highs] at hhi
        simp only [allPs] at pa pu
        simp only [groundL, Bool.and_eq_true] at ga gu
        rw [partsL, partsL, List.append_assoc, List.append_assoc] at h
        obtain ⟨e1, h2⟩ := ih a b (by omega) pa.1 pu.1 ga.1 gu.1 _ _ h
        obtain ⟨e2, e3⟩ := ihl us (by simpa using hl) (by omega) pa.2 pu.2 ga.2 gu.2 _ _ h2
        exact ⟨by rw [e1, e2], e3⟩
  induction hh with
  | zero => intro t u h0; have := high_pos t; omega
  | succ hh ih =>
    intro t u h0 pt pu gt gu r r' h
    have kt := plain_kinds pt.plain (groundT_parts gt).2
    have ku := plain_kinds pu.plain (groundT_parts gu).2
    rw [partsT_eq, partsT_eq, List.cons_append, List.cons_append] at h
    injection h with hp hl
    have hth : highs t.args ≤ hh := by obtain ⟨k, s, n, l⟩ := t; simp only [Tm.high] at h0; simp only; omega
    rcases kt with kt | kt
    · obtain ⟨nt, at_⟩ := plain2 pt.plain kt
      have ept : partT t = (0, 0, t.n) := by unfold partT; rw [kt]; rfl
      rcases ku with ku | ku
      · obtain ⟨nu, au⟩ := plain2 pu.plain ku
        have epu : partT u = (0, 0, u.n) := by unfold partT; rw [ku]; rfl
        rw [ept, epu] at hp
        have hn : t.n = u.n := congrArg (fun p : Pr3 => p.2.2) hp
        rw [at_, au] at hl
        refine ⟨?_, by simpa [partsL] using hl⟩
        obtain ⟨k, s, n, l⟩ := t
        obtain ⟨k', s', n', l'⟩ := u
        simp only at *
        subst kt ku nt nu at_ au hn
        rfl
      · have epu : partT u = (wd0 u.name u.name.size, wd1 u.name u.name.size, (u.args.length : Int)) := by unfold partT; rw [ku]; rfl
        rw [ept, epu] at hp
        exact absurd (congrArg (fun p : Pr3 => p.1) hp).symm (wd_none (goodL_of_plain pu.plain) (plain3n pu.plain ku).2)
    · have ept : partT t = (wd0 t.name t.name.size, wd1 t.name t.name.size, (t.args.length : Int)) := by unfold partT; rw [kt]; rfl
      rcases ku with ku | ku
      · have epu : partT u = (0, 0, u.n) := by unfold partT; rw [ku]; rfl
        rw [ept, epu] at hp
        exact absurd (congrArg (fun p : Pr3 => p.1) hp) (wd_none (goodL_of_plain pt.plain) (plain3n pt.plain kt).2)
      · have epu : partT u = (wd0 u.name u.name.size, wd1 u.name u.name.size, (u.args.length : Int)) := by unfold partT; rw [ku]; rfl
        rw [ept, epu] at hp
        have e0 := congrArg (fun p : Pr3 => p.1) hp
        have e1 := congrArg (fun p : Pr3 => p.2.1) hp
        have e2 := congrArg (fun p : Pr3 => p.2.2) hp
        simp only at e0 e1 e2
        have en := wd_inj (goodL_of_plain pt.plain) (goodL_of_plain pu.plain) e0 e1
        obtain ⟨ea, er⟩ := step hh ih t.args u.args (by omega) hth pt.args pu.args (groundT_parts gt).1 (groundT_parts gu).1 _ _ hl
        have nt := (plain3n pt.plain kt).1
        have nu := (plain3n pu.plain ku).1
        refine ⟨?_, er⟩
        obtain ⟨k, s, n, l⟩ := t
        obtain ⟨k', s', n', l'⟩ := u
        simp only at *
        subst kt ku nt nu en ea
        rfl
end Go.Proofs.YtkdhpifjljkpfaaGreat

/- Facts as keys of a map: the key's law; a map of Seqs. -/
namespace Go.Proofs.YtkdhpifjljkpfaaGreat
open Go.RowKit Go.Maps

theorem lawFk : WideMaps.KeyLaw Tryz.prog 83 := deep_law_laid laidOutK (m := 6) (by omega) (of_decide_eq_true (by kernel_rfl)) (by kernel_rfl) (by kernel_rfl)
theorem keyedFk : Keyed Tryz.prog 83 := Keyed.of_law lawFk
theorem cellsFk : Tryz.prog.cellsOf 83 = 74 := by kernel_rfl
theorem cellsPart : Tryz.prog.cellsOf 80 = 3 := by kernel_rfl
theorem cellsParts : Tryz.prog.cellsOf 81 = 72 := by kernel_rfl
theorem cellsSpan : Tryz.prog.cellsOf 42 = 2 := by kernel_rfl
theorem cellsI : Tryz.prog.cellsOf 3 = 1 := by kernel_rfl
theorem keyTypeFk : Tryz.prog.keyType 83 = true := by kernel_rfl
theorem types6 : ∃ m, Tryz.prog.types.size = m + 5 := ⟨Tryz.prog.types.size - 5, by have : 5 ≤ Tryz.prog.types.size := of_decide_eq_true (by kernel_rfl); omega⟩
def wf3 (p : Pr3) : Prop := p.1 < 18446744073709551616 ∧ p.2.1 < 18446744073709551616 ∧ (Lit.int .i64 p.2.2).wf = true

theorem mapM_is {α β : Type} (f : α → Option β) : ∀ l : List α, (∀ x ∈ l, ∃ y, f x = some y) → ∃ ys, l.mapM f = some ys
  | [], _ => ⟨[], rfl⟩
  | a :: r, h => by
    obtain ⟨y, hy⟩ := h a (by simp)
    obtain ⟨ys, hys⟩ := mapM_is f r (fun x hx => h x (by simp [hx]))
    exact ⟨y :: ys, by rw [List.mapM_cons, hy]; show (r.mapM f).bind _ = _; rw [hys]; rfl⟩
theorem lits_i {P : Program} {q : TypeId} {k : IntKind} (hu : P.underlying q = some (.int k)) (d : Nat) {n : Int} (h : (Lit.int k n).wf = true) : P.keyLits (d + 1) q [.int k n] = some [.int k n] := by
  unfold Program.keyLits
  rw [hu]
  simp [h]
theorem is_part {p : Pr3} (h : wf3 p) (d : Nat) : ∃ L, Tryz.prog.keyLits (d + 3) 80 (c3 p) = some L := by
  have g0 := lits_i (P := Tryz.prog) Tryz.underlying77 d (wf64 h.1)
  have g1 := lits_i (P := Tryz.prog) Tryz.underlying77 d (wf64 h.2.1)
  have g2 := lits_i (P := Tryz.prog) Tryz.underlying3 (d + 1) h.2.2
  refine ⟨[.int .u64 (p.1 : Int), .int .u64 (p.2.1 : Int), .int .i64 p.2.2], ?_⟩
  simp [Program.keyLits, Tryz.underlying80, Tryz.underlying78, Tryz.underlying77, Tryz.underlying3, cellsPart, cellsArr, cellsU64, cellsI, c3, show List.range 2 = [0, 1] from rfl, wf64 h.1, wf64 h.2.1, h.2.2]
theorem is_parts {X : List Pr3} {tl : List Value} (hl : X.length = 24) (h : ∀ p ∈ X, wf3 p) (d : Nat) : ∃ L, Tryz.prog.keyLits (d + 4) 81 ((cellsP X ++ tl).take 72) = some L := by
  have e : (cellsP X ++ tl).take 72 = cellsP X := by rw [List.take_append_of_le_length (by rw [cellsP_len, hl]; exact Nat.le_refl _), List.take_of_length_le (by rw [cellsP_len, hl]; exact Nat.le_refl _)]
  rw [e]
  unfold Program.keyLits
  rw [Tryz.underlying81]
  simp only
  rw [if_pos (by rw [cellsP_len, hl, cellsParts]), cellsPart]
  obtain ⟨ys, hy⟩ := mapM_is (fun i => Tryz.prog.keyLits (d + 3) 80 (((cellsP X).drop (i * 3)).take 3)) (List.range 24) (fun i hi => by
    have hi' : i < X.length := by rw [hl]; simpa using hi
    have := cellsP_at [] hi'
    rw [List.append_nil] at this
    simp only [this]
    exact is_part (h _ (List.getElem_mem hi')) d)
  exact ⟨ys.flatten, by rw [hy]; rfl⟩
theorem two_fields {P : Program} {q r k : TypeId} {o : Nat} {fs : Array Field} {d : Nat} {cs : List Value} (hk : P.underlying k = some (.struct fs)) (hf : ∃ f0 f1 : Field, fs.toList = [f0, f1] ∧ f0.offset = 0 ∧ f0.type = q ∧ f1.offset = o ∧ f1.type = r) (hn : fs.all (·.name != "_") = true)
    (ck : cs.length = P.cellsOf k) (h0 : ∃ L, P.keyLits d q ((cs.drop 0).take (P.cellsOf q)) = some L) (h1 : ∃ L, P.keyLits d r ((cs.drop o).take (P.cellsOf r)) = some L) : ∃ L, P.keyLits (d + 1) k cs = some L := by
  obtain ⟨f0, f1, e, o0, t0, o1, t1⟩ := hf
  obtain ⟨L0, h0⟩ := h0
  obtain ⟨L1, h1⟩ := h1
  unfold Program.keyLits
  rw [hk]
  simp only
  rw [if_pos ⟨ck, hn⟩, e]
  rw [List.mapM_cons, List.mapM_cons, List.mapM_nil, o0, o1, t0, t1, h0, h1]
  exact ⟨_, rfl⟩
theorem is_key {ps : List Pr3} {f u : Int} (hl : ps.length ≤ 24) (h : ∀ p ∈ ps, wf3 p) (hf : (Lit.int .i64 f).wf = true) (hu : (Lit.int .i64 u).wf = true) : ∃ s, keyOf Tryz.prog 83 (.agg (keyCs ps f u).toArray) = some (.string s) := by
  obtain ⟨m, hm⟩ := types6
  have hx : ∀ p ∈ padP ps, wf3 p := fun p hp => by
    rcases List.mem_append.1 hp with h1 | h1
    · exact h p h1
    · rw [List.eq_of_mem_replicate h1]; exact ⟨by decide, by decide, by decide⟩
  obtain ⟨L1, h1⟩ := is_parts (tl := [.int .i64 f, .int .i64 u]) (padP_len hl) hx (m + 1)
  have h2 : Tryz.prog.keyLits (m + 5) 42 [.int .i64 f, .int .i64 u] = some [.int .i64 f, .int .i64 u] := by
    simp [Program.keyLits, Tryz.underlying42, Tryz.underlying3, cellsSpan, cellsI, hf, hu]
  have hlen : (keyCs ps f u).length = 74 := keyCs_len _ _ _
  have hc1 : ((keyCs ps f u).drop 0).take 72 = (cellsP (padP ps) ++ [Value.int .i64 f, Value.int .i64 u]).take 72 := by rw [keyCs_eq hl, List.drop_zero]
  have hc2 : ((keyCs ps f u).drop 72).take 2 = [Value.int .i64 f, Value.int .i64 u] := by
    rw [keyCs_eq hl, List.drop_append_of_le_length (by rw [cellsP_len, padP_len hl]; exact Nat.le_refl _), List.drop_of_length_le (by rw [cellsP_len, padP_len hl]; exact Nat.le_refl _)]
    rfl
  have h3 : ∃ L, Tryz.prog.keyLits (m + 6) 83 (keyCs ps f u) = some L :=
    two_fields Tryz.underlying83 ⟨_, _, rfl, rfl, rfl, rfl, rfl⟩ (by decide +kernel) (by rw [hlen, cellsFk]) ⟨L1, by rw [cellsParts, hc1]; exact h1⟩ ⟨_, by rw [cellsSpan, hc2]; exact h2⟩
  obtain ⟨L, h3⟩ := h3
  refine ⟨keyBytes L, ?_⟩
  unfold keyOf
  simp only [Tryz.underlying83]
  rw [if_pos (by simp [keyTypeFk, Value.formed, Tryz.underlying83, cellsFk, hlen]), hm]
  have e : (Value.agg (keyCs ps f u).toArray).cells.toList = keyCs ps f u := by simp [Value.cells]
  rw [e, h3]
  rfl
end Go.Proofs.YtkdhpifjljkpfaaGreat
