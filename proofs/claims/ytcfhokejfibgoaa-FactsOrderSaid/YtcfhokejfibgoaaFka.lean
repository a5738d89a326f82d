/- facts.partOf: a term's own part of a key: its name in two words, and a number. -/
import Derived.Test.YtcfhokejfibgoaaWh
import Derived.Test.YtcfhokejfibgoaaRc
import Derived.StillTailTactics
import Derived.Deep.DeepCutAuto
namespace Go.Proofs.Ytcfhokejfibgoaa
open Go.RowKit

/-- bytes as a number, the first one the least -/
def nmL : List UInt8 → Nat
  | [] => 0
  | b :: r => b.toNat + 256 * nmL r
theorem nmL_lt : ∀ l : List UInt8, nmL l < 256 ^ l.length
  | [] => by simp [nmL]
  | b :: r => by
    have h := nmL_lt r
    have hb := byte_lt b
    rw [nmL, List.length_cons, Nat.pow_succ]
    omega
theorem nmL_snoc : ∀ (l : List UInt8) (b : UInt8), nmL (l ++ [b]) = nmL l + b.toNat * 256 ^ l.length
  | [], b => by simp [nmL]
  | a :: l, b => by
    rw [List.cons_append, nmL, nmL, nmL_snoc l b, List.length_cons, Nat.pow_succ, Nat.mul_add, ← Nat.add_assoc]
    congr 1
    rw [Nat.mul_comm 256, Nat.mul_assoc]
theorem nmL_inj : ∀ (l r : List UInt8), goodL l → goodL r → nmL l = nmL r → l = r
  | [], [], _, _, _ => rfl
  | [], b :: r, _, hr, h => by
    have := hr b (by simp)
    simp only [nmL] at h
    omega
  | b :: l, [], hl, _, h => by
    have := hl b (by simp)
    simp only [nmL] at h
    omega
  | a :: l, b :: r, hl, hr, h => by
    have ha := byte_lt a
    have hb := byte_lt b
    simp only [nmL] at h
    have e1 : a.toNat = b.toNat := by omega
    have e2 : nmL l = nmL r := by omega
    rw [UInt8.toNat_inj.1 e1, nmL_inj l r (fun x hx => hl x (by simp [hx])) (fun x hx => hr x (by simp [hx])) e2]
theorem nmL_lt8 (l : List UInt8) (h : l.length ≤ 8) : nmL l < 18446744073709551616 := by
  have h1 := nmL_lt l
  have h2 : (256 : Nat) ^ l.length ≤ 256 ^ 8 := Nat.pow_le_pow_right (by omega) h
  have h3 : (256 : Nat) ^ 8 = 18446744073709551616 := by decide
  omega
theorem nmL_or (l : List UInt8) (b : UInt8) : nmL l ||| b.toNat * 2 ^ (8 * l.length) = nmL (l ++ [b]) := by
  have e : (2 : Nat) ^ (8 * l.length) = 256 ^ l.length := by rw [Nat.pow_mul]
  have h1 := nmL_lt l
  rw [← e] at h1
  rw [Nat.or_comm, or_add (8 * l.length) _ _ (Nat.dvd_mul_left _ _) h1, nmL_snoc, e, Nat.add_comm]
/-- the two words of a name -/
def wd0 (s : ByteArray) (k : Nat) : Nat := nmL ((s.data.toList.take k).take 8)
def wd1 (s : ByteArray) (k : Nat) : Nat := nmL ((s.data.toList.take k).drop 8)
theorem wd0_lt (s : ByteArray) (k : Nat) : wd0 s k < 18446744073709551616 := nmL_lt8 _ (by simp; omega)
theorem wd1_lt (s : ByteArray) (k : Nat) (h : s.size ≤ 16) : wd1 s k < 18446744073709551616 := nmL_lt8 _ (by
  have e : s.data.toList.length = s.size := by rw [Array.length_toList]; rfl
  simp only [List.length_drop, List.length_take]
  omega)
/-- the word with a byte at its place, as the machine reckons it -/
theorem wordL_or (X k : Nat) (b : UInt8) (hX : X < 18446744073709551616) (hk : k < 8) :
    bits .or .u64 (X : Int) (IntKind.u64.wrap (IntKind.u64.wrap (b.toNat : Int) * 2 ^ (k * 8))) = ((X ||| b.toNat * 2 ^ (8 * k) : Nat) : Int) := by
  have hb := byte_lt b
  have hw : IntKind.u64.wrap (b.toNat : Int) = (b.toNat : Int) := IntWalk.u64_in _ (by omega)
  rw [hw, Nat.mul_comm k 8]
  have hp : b.toNat * 2 ^ (8 * k) < 18446744073709551616 := by
    have h1 : (2 : Nat) ^ (8 * k) ≤ 2 ^ 56 := Nat.pow_le_pow_right (by omega) (by omega)
    have h2 : b.toNat * 2 ^ (8 * k) ≤ 255 * 2 ^ 56 := Nat.mul_le_mul (by omega) h1
    omega
  have e2 : ((b.toNat : Int) * 2 ^ (8 * k)) = ((b.toNat * 2 ^ (8 * k) : Nat) : Int) := by
    rw [Int.natCast_mul, Int.natCast_pow]; rfl
  rw [e2, IntWalk.u64_in _ (by omega)]
  exact u64_or_nat _ _ hX hp

theorem low_stepL (s : ByteArray) (k : Nat) (h : k < s.size) (h8 : k < 8) :
    bits .or .u64 (wd0 s k : Int) (IntKind.u64.wrap (IntKind.u64.wrap (s[k].toNat : Int) * 2 ^ (k * 8))) = (wd0 s (k + 1) : Int) ∧ wd1 s (k + 1) = wd1 s k := by
  have hl := take_len s k (by omega)
  have e1 : (s.data.toList.take k).take 8 = s.data.toList.take k := List.take_of_length_le (by omega)
  have e2 : (s.data.toList.take (k + 1)).take 8 = s.data.toList.take k ++ [s[k]] := by rw [take_snoc s k h]; exact List.take_of_length_le (by simp; omega)
  refine ⟨?_, ?_⟩
  · rw [wordL_or _ k _ (wd0_lt s k) h8]
    unfold wd0
    rw [e1, e2, ← nmL_or, hl]
  · unfold wd1
    rw [List.drop_eq_nil_of_le (by have := take_len s (k + 1) (by omega); omega), List.drop_eq_nil_of_le (by omega)]
theorem high_stepL (s : ByteArray) (k : Nat) (h : k < s.size) (h8 : 8 ≤ k) (h16 : s.size ≤ 16) :
    bits .or .u64 (wd1 s k : Int) (IntKind.u64.wrap (IntKind.u64.wrap (s[k].toNat : Int) * 2 ^ ((k - 8) * 8))) = (wd1 s (k + 1) : Int) ∧ wd0 s (k + 1) = wd0 s k := by
  have hl := take_len s k (by omega)
  have e2 : (s.data.toList.take (k + 1)).drop 8 = (s.data.toList.take k).drop 8 ++ [s[k]] := by rw [take_snoc s k h, List.drop_append_of_le_length (by omega)]
  refine ⟨?_, ?_⟩
  · rw [wordL_or _ (k - 8) _ (wd1_lt s k h16) (by omega)]
    unfold wd1
    rw [e2, ← nmL_or, List.length_drop, hl]
  · unfold wd0
    rw [take_snoc s k h, List.take_append_of_le_length (by omega)]
/-- a part's block -/
def TriP (w : World) (g : Nat) (x y n : Int) : Prop := w.cell? ⟨g, 0, none⟩ = some (.int .u64 x) ∧ w.cell? ⟨g, 1, none⟩ = some (.int .u64 y) ∧ w.cell? ⟨g, 2, none⟩ = some (.int .i64 n) ∧ w.frozen? ⟨g, 0, none⟩ = false ∧ w.frozen? ⟨g, 1, none⟩ = false ∧ w.frozen? ⟨g, 2, none⟩ = false
theorem TriP.drew {w : World} {g : Nat} {x y n : Int} (h : TriP w g x y n) : TriP w.drew g x y n := h
theorem TriP.set0 {w : World} {g : Nat} {x y n : Int} (h : TriP w g x y n) (z : Int) : TriP (w.setCell ⟨g, 0, none⟩ (.int .u64 z)) g z y n := by
  obtain ⟨h0, h1, h2, f0, f1, f2⟩ := h
  exact ⟨by go_simp, by go_simp, by go_simp, by go_simp, by go_simp, by go_simp⟩
theorem TriP.set1 {w : World} {g : Nat} {x y n : Int} (h : TriP w g x y n) (z : Int) : TriP (w.setCell ⟨g, 1, none⟩ (.int .u64 z)) g x z n := by
  obtain ⟨h0, h1, h2, f0, f1, f2⟩ := h
  exact ⟨by go_simp, by go_simp, by go_simp, by go_simp, by go_simp, by go_simp⟩
theorem TriP.far {w : World} {g : Nat} {x y n : Int} (h : TriP w g x y n) {p : Addr} (v : Value) (hne : p.block ≠ g) : TriP (w.setCell p v) g x y n := by
  have e := Below.heap_setCell w p v g (fun k => hne k.symm)
  obtain ⟨h0, h1, h2, f0, f1, f2⟩ := h
  exact ⟨(World.cell?_of_block (w := w) e).trans h0, (World.cell?_of_block (w := w) e).trans h1, (World.cell?_of_block (w := w) e).trans h2, (World.frozen?_of_block (w := w) e).trans f0, (World.frozen?_of_block (w := w) e).trans f1, (World.frozen?_of_block (w := w) e).trans f2⟩

/-- a term's own part -/
abbrev Pr3 := Nat × Nat × Int
def partT (t : Tm) : Pr3 := if (t.kind == 2) = true then (0, 0, t.n) else (wd0 t.name t.name.size, wd1 t.name t.name.size, (t.args.length : Int))
abbrev pv (p : Pr3) : Value := .agg #[.int .u64 (p.1 : Int), .int .u64 (p.2.1 : Int), .int .i64 p.2.2]

set_option maxRecDepth 100000 in
set_option maxHeartbeats 2000000 in
theorem partOf_any (t : Tm) (A : Option Addr) (c : Nat) (w : World) (hs : t.name.size ≤ 16) :
    Calls Try.prog 56 #[t.val A c] w fun e w' => e = .returned (pv (partT t)) ∧ Ext w w' := by
  cases hk : (t.kind == 2) with
  | true =>
    have HP : Hid (partT t = (0, 0, t.n)) := Lib.hid (by unfold partT; rw [hk]; rfl)
    go_enter Try.func56, Try.ntmps56
    go_wp2_with fail
    refine bodyPost_ret (v := pv (partT t)) (by rw [HP.out]; simp [results, Try.results56, go_sem]) rfl ⟨rfl, ((Ext.refl w).alloc _).alloc _⟩
  | false =>
    have HP : Hid (partT t = (wd0 t.name t.name.size, wd1 t.name t.name.size, (t.args.length : Int))) := Lib.hid (by unfold partT; rw [hk]; rfl)
    go_enter Try.func56, Try.ntmps56
    go_wp2_with fail
    go_loopw [18, 4] (fun i j wr => ∃ (k : Nat), k ≤ t.name.size ∧ i = .int .i64 k ∧ Hid (TriP wr (w.heap.size + 2) (wd0 t.name k : Int) (wd1 t.name k : Int) (t.args.length : Int)) ∧ Hid (TriP wr (w.heap.size + 1) 0 0 0) ∧ wr.cell? ⟨w.heap.size, 1, none⟩ = some (.string t.name) ∧ Ext w wr ∧ w.heap.size + 2 < wr.heap.size) (fun i _ _ => t.name.size - (intOf i).toNat)
    case atStart => exact ⟨0, Nat.zero_le _, rfl, Lib.hid ⟨by go_simp; rfl, by go_simp; rfl, by go_simp, by go_simp, by go_simp, by go_simp⟩, Lib.hid ⟨by go_simp, by go_simp, by go_simp, by go_simp, by go_simp, by go_simp⟩, by go_simp, (((Ext.refl w).alloc _).alloc _).alloc _, by simp⟩
    case round =>
      obtain ⟨k, hkk, rfl, HT, HZ, c1, hx, hsz⟩ := hrel
      by_cases hlt : k < t.name.size
      · obtain ⟨p0, p1, p2, f0, f1, f2⟩ := HT.out
        by_cases h8 : k < 8
        · have hk8 : (k : Int) / 8 = 0 := by omega
          have hr8 : (k : Int) % 8 = k := by omega
          go_wp2_with fail
          obtain ⟨v1, v2⟩ := low_stepL t.name k hlt h8
          have V1 := Lib.hid v1
          have V2 := Lib.hid v2
          clear v1 v2
          go_region
          rw [V1.out]
          go_wp2_with fail
          go_roundw
          case rel => exact ⟨k + 1, by omega, by go_num, Lib.hid (by rw [V2.out]; exact (HT.out.set0 _).drew), Lib.hid ((HZ.out.far _ (by simp)).drew), by go_simp, (hx.setCell (by simp; omega) _).drew, by simpa using hsz⟩
          case measure => simp [intOf]; omega
        · have hk8 : (k : Int) / 8 = 1 := by omega
          have hr8 : (k : Int) % 8 = ((k - 8 : Nat) : Int) := by omega
          obtain ⟨v1, v2⟩ := high_stepL t.name k hlt (by omega) hs
          have V1 := Lib.hid v1
          have V2 := Lib.hid v2
          clear v1 v2
          go_wp2_with fail
          go_region
          rw [V1.out]
          go_wp2_with fail
          go_roundw
          case rel => exact ⟨k + 1, by omega, by go_num, Lib.hid (by rw [V2.out]; exact (HT.out.set1 _).drew), Lib.hid ((HZ.out.far _ (by simp)).drew), by go_simp, (hx.setCell (by simp; omega) _).drew, by simpa using hsz⟩
          case measure => simp [intOf]; omega
      · obtain rfl : k = t.name.size := by omega
        obtain ⟨p0, p1, p2, f0, f1, f2⟩ := HT.out
        obtain ⟨q0, q1, q2, g0, g1, g2⟩ := HZ.out
        clear HT HZ
        go_wp2_with fail
        refine bodyPost_ret (v := pv (partT t)) (by rw [HP.out]; simp [results, Try.results56, go_sem, *]) rfl ⟨rfl, ?_⟩
        exact ((hx.setCell (by simp; try omega) _).setCell (by simp; try omega) _).setCell (by simp; try omega) _
end Go.Proofs.Ytcfhokejfibgoaa
