/- Sets of relations as numbers; the program's table and the page's: pure. -/
import Derived.WalkKit
import Derived.Lib.Hide
namespace Go.Proofs.YtjldokhomohdbaaDoor
open Go.RowKit

theorem ofInt_small {n a : Nat} (h : a < 2 ^ n) : (BitVec.ofInt n (a : Int)).toNat = a := by
  rw [BitVec.ofInt_natCast, BitVec.toNat_ofNat]; exact Nat.mod_eq_of_lt h
theorem or16 (a b : Nat) (ha : a < 65536) (hb : b < 65536) : bits .or .u16 (a : Int) (b : Int) = ((a ||| b : Nat) : Int) := by
  have hx : a ||| b < 2 ^ 16 := Nat.or_lt_two_pow (by omega) (by omega)
  show IntKind.u16.wrap ((BitVec.ofInt 16 (a : Int) ||| BitVec.ofInt 16 (b : Int)).toNat : Int) = _
  rw [BitVec.toNat_or, ofInt_small (by omega), ofInt_small (by omega), IntKind.wrap_u16]
  omega
theorem and16 (a b : Nat) (ha : a < 65536) (hb : b < 65536) : bits .and .u16 (a : Int) (b : Int) = ((a &&& b : Nat) : Int) := by
  have hx : a &&& b < 2 ^ 16 := Nat.and_lt_two_pow _ (by omega)
  show IntKind.u16.wrap ((BitVec.ofInt 16 (a : Int) &&& BitVec.ofInt 16 (b : Int)).toNat : Int) = _
  rw [BitVec.toNat_and, ofInt_small (by omega), ofInt_small (by omega), IntKind.wrap_u16]
  omega
theorem or64 (a b : Nat) (ha : a < 65536) (hb : b < 65536) : bits .or .i64 (a : Int) (b : Int) = ((a ||| b : Nat) : Int) := by
  have hx : a ||| b < 2 ^ 16 := Nat.or_lt_two_pow (by omega) (by omega)
  show IntKind.i64.wrap ((BitVec.ofInt 64 (a : Int) ||| BitVec.ofInt 64 (b : Int)).toNat : Int) = _
  rw [BitVec.toNat_or, ofInt_small (by omega), ofInt_small (by omega), IntKind.wrap_i64]
  omega
theorem and64 (a b : Nat) (ha : a < 65536) (hb : b < 65536) : bits .and .i64 (a : Int) (b : Int) = ((a &&& b : Nat) : Int) := by
  have hx : a &&& b < 2 ^ 16 := Nat.and_lt_two_pow _ (by omega)
  show IntKind.i64.wrap ((BitVec.ofInt 64 (a : Int) &&& BitVec.ofInt 64 (b : Int)).toNat : Int) = _
  rw [BitVec.toNat_and, ofInt_small (by omega), ofInt_small (by omega), IntKind.wrap_i64]
  omega

theorem two_lt {k : Nat} (h : k < 13) : 2 ^ k < 8192 := Nat.lt_of_lt_of_le (Nat.pow_lt_pow_right (by omega) h) (by decide)
theorem or_lt {a b : Nat} (ha : a < 8192) (hb : b < 8192) : a ||| b < 8192 := Nat.or_lt_two_pow (n := 13) ha hb
theorem and_lt {a b : Nat} (ha : a < 8192) : a &&& b < 8192 := Nat.lt_of_le_of_lt Nat.and_le_left ha
theorem and_two (s k : Nat) : s &&& 2 ^ k = if s.testBit k then 2 ^ k else 0 := by
  refine Nat.eq_of_testBit_eq fun i => ?_
  rw [Nat.testBit_and, Nat.testBit_two_pow]
  by_cases e : k = i
  · subst e
    cases h : s.testBit k <;> simp
  · have : ∀ b : Bool, (if b = true then 2 ^ k else 0).testBit i = false := by intro b; cases b <;> simp [e]
    rw [this]; simp [e]
/-- s & only(r) != 0 -/
theorem has_bit {s k : Nat} (hs : s < 8192) (hk : k < 13) : (bits .and .u16 (s : Int) ((2 ^ k : Nat) : Int) != 0) = s.testBit k := by
  have := two_lt hk
  have hp : 0 < 2 ^ k := Nat.two_pow_pos k
  rw [and16 s _ (by omega) (by omega), and_two]
  cases h : s.testBit k
  · simp
  · rw [if_pos rfl, bne_iff_ne]
    omega
/-- s >> k & 1 == 1 -/
theorem shr_bit {s k : Nat} (hs : s < 8192) : (bits .and .i64 ((s : Int) / 2 ^ k) 1 == 1) = s.testBit k := by
  have e : (s : Int) / 2 ^ k = ((s / 2 ^ k : Nat) : Int) := by rw [Int.natCast_ediv, Int.natCast_pow]; rfl
  have h1 : s / 2 ^ k < 65536 := Nat.lt_of_le_of_lt (Nat.div_le_self _ _) (by omega)
  have h2 := and64 (s / 2 ^ k) 1 h1 (by omega)
  rw [show ((1 : Nat) : Int) = 1 from rfl] at h2
  rw [e, h2, Nat.and_one_is_mod, Nat.testBit_eq_decide_div_mod_eq]
  rw [Bool.eq_iff_iff, beq_iff_eq, decide_eq_true_iff]
  omega

/-- what comes of those of the first n bits that are set -/
def orUp (f : Nat → Nat) (s : Nat) : Nat → Nat
  | 0 => 0
  | k + 1 => orUp f s k ||| if s.testBit k then f k else 0
theorem orUp_lt {f : Nat → Nat} {s : Nat} (hf : ∀ k, f k < 8192) : ∀ n, orUp f s n < 8192
  | 0 => Nat.zero_lt_succ _
  | n + 1 => by
    rw [orUp]
    refine or_lt (orUp_lt hf n) ?_
    split
    · exact hf n
    · omega
theorem orUp_bit {f : Nat → Nat} {s i : Nat} : ∀ n, (orUp f s n).testBit i = true ↔ ∃ k, k < n ∧ s.testBit k = true ∧ (f k).testBit i = true
  | 0 => by simp [orUp]
  | n + 1 => by
    rw [orUp, Nat.testBit_or, Bool.or_eq_true, orUp_bit n]
    constructor
    · rintro (⟨k, hk, h⟩ | h)
      · exact ⟨k, by omega, h⟩
      · refine ⟨n, by omega, ?_⟩
        split at h
        · rename_i hs; exact ⟨hs, h⟩
        · simp at h
    · rintro ⟨k, hk, hs, h⟩
      by_cases e : k = n
      · subst e; exact .inr (by rw [if_pos hs]; exact h)
      · exact .inl ⟨k, by omega, hs, h⟩

/-- the relations of a set, up to k -/
def lsUp (s : Nat) : Nat → List Int
  | 0 => []
  | k + 1 => lsUp s k ++ if s.testBit k then [(k : Int) + 1] else []
theorem lsUp_len (s : Nat) : ∀ k, (lsUp s k).length ≤ k
  | 0 => Nat.le_refl _
  | k + 1 => by
    rw [lsUp, List.length_append]
    have := lsUp_len s k
    split <;> simp <;> omega
theorem lsUp_mem {s : Nat} {r : Int} : ∀ {n}, r ∈ lsUp s n → ∃ k : Nat, k < n ∧ r = (k : Int) + 1 ∧ s.testBit k = true
  | 0, h => by cases h
  | n + 1, h => by
    rw [lsUp, List.mem_append] at h
    rcases h with h | h
    · obtain ⟨k, h1, h2⟩ := lsUp_mem h; exact ⟨k, by omega, h2⟩
    · split at h
      · rename_i hs
        exact ⟨n, by omega, by simpa using h, hs⟩
      · cases h
/-- what comes of relations in a row -/
def orL (f : Nat → Nat) (l : List Int) : Nat := l.foldl (fun x r => x ||| f (r - 1).toNat) 0
theorem orL_snoc (f : Nat → Nat) (l : List Int) (r : Int) : orL f (l ++ [r]) = orL f l ||| f (r - 1).toNat := by simp [orL]
theorem orL_ls (f : Nat → Nat) (s : Nat) : ∀ n, orL f (lsUp s n) = orUp f s n
  | 0 => rfl
  | n + 1 => by
    rw [lsUp, orUp]
    split
    · rw [orL_snoc, orL_ls f s n]
      congr 2
      omega
    · rw [List.append_nil, orL_ls f s n, Nat.or_zero]
theorem orL_take {f : Nat → Nat} {l : List Int} {k : Nat} (h : k < l.length) : orL f (l.take (k + 1)) = orL f (l.take k) ||| f (l[k] - 1).toNat := by
  rw [List.take_succ_eq_append_getElem h, orL_snoc]
theorem orL_lt {f : Nat → Nat} (hf : ∀ k, f k < 8192) (l : List Int) : ∀ k, orL f (l.take k) < 8192
  | 0 => Nat.zero_lt_succ _
  | k + 1 => by
    by_cases h : k < l.length
    · rw [orL_take h]; exact or_lt (orL_lt hf l k) (hf _)
    · have := orL_lt hf l k
      rw [List.take_of_length_le (by omega)] at this ⊢
      exact this

/-- a set turned -/
def turnS (s : Nat) : Nat := orUp (fun k => 2 ^ (12 - k)) s 13
/-- what may come of two sets by a table -/
def thenS (W : Nat → Nat → Nat) (s t : Nat) : Nat := orUp (fun i => orUp (W i) t 13) s 13

/-! the program's table: by zones -/
/-- may a point of zone x be ahead of one of zone y -/
def ahB (x y : Nat) : Bool := decide (x < y) || (x == y && x % 2 == 0)
/-- the zones of c in which a point of z may be -/
def wiN (z f t : Nat) : Nat := (if ahB z f then 1 else 0) ||| (if z == f then 2 else 0) ||| (if ahB f z && ahB z t then 4 else 0) ||| (if z == t then 8 else 0) ||| (if ahB t z then 16 else 0)
/-- the ends of each relation, as the program lays them -/
def endF : List Nat := [0, 0, 0, 1, 2, 2, 1, 0, 0, 1, 2, 3, 4]
def endT : List Nat := [0, 1, 2, 2, 2, 3, 3, 3, 4, 4, 4, 4, 4]
def endf (r : Nat) : Nat := endF.getD r 0
def endt (r : Nat) : Nat := endT.getD r 0
/-- what may come of ends in zones f and t -/
def thrU (f t : Nat) : Nat → Nat
  | 0 => 0
  | k + 1 => thrU f t k ||| if f.testBit (endf k) && t.testBit (endt k) then 2 ^ k else 0
def thruN (r q : Nat) : Nat := thrU (wiN (endf r) (endf (12 - q)) (endt (12 - q))) (wiN (endt r) (endf (12 - q)) (endt (12 - q))) 13
theorem thrU_lt (f t : Nat) : ∀ n, n ≤ 13 → thrU f t n < 8192
  | 0, _ => Nat.zero_lt_succ _
  | n + 1, h => by
    rw [thrU]
    refine or_lt (thrU_lt f t n (by omega)) ?_
    split
    · exact two_lt (by omega)
    · omega
theorem thruN_lt (r q : Nat) : thruN r q < 8192 := thrU_lt _ _ 13 (Nat.le_refl _)

/-! the page's table: by all spans -/
/-- a relation, as a number from 0 on, of two spans that are no points -/
def onlyN (a b c d : Nat) : Nat :=
  if b < c then 0 else if b == c then 1 else if d < a then 12 else if a == d then 11
  else if a < c then (if b < d then 2 else if b == d then 7 else 8)
  else if a == c then (if b < d then 3 else if b == d then 6 else 9)
  else (if b < d then 4 else if b == d then 5 else 10)
def spsN : List (Nat × Nat) := [(0, 1), (0, 2), (0, 3), (0, 4), (0, 5), (1, 2), (1, 3), (1, 4), (1, 5), (2, 3), (2, 4), (2, 5), (3, 4), (3, 5), (4, 5)]
def spN (i : Nat) : Nat × Nat := spsN.getD i (0, 0)
def oN (i j : Nat) : Nat := onlyN (spN i).1 (spN i).2 (spN j).1 (spN j).2
/-- the cell of the table that the n-th three spans speak of, and the bit -/
def ixN (n : Nat) : Nat := (oN (n / 225) (n / 15 % 15) + 1) * 14 + (oN (n / 15 % 15) (n % 15) + 1)
def btN (n : Nat) : Nat := oN (n / 225) (n % 15)
/-- a cell behind the first n threes -/
def tabU (i : Nat) : Nat → Nat
  | 0 => 0
  | n + 1 => tabU i n ||| if ixN n = i then 2 ^ btN n else 0
def tabN (i : Nat) : Nat := tabU i 3375
theorem tabU_bit {i u : Nat} : ∀ n, (tabU i n).testBit u = true ↔ ∃ m, m < n ∧ ixN m = i ∧ btN m = u
  | 0 => by simp [tabU]
  | n + 1 => by
    rw [tabU, Nat.testBit_or, Bool.or_eq_true, tabU_bit n]
    constructor
    · rintro (⟨m, hm, h⟩ | h)
      · exact ⟨m, by omega, h⟩
      · split at h
        · rename_i e
          rw [Nat.testBit_two_pow] at h
          exact ⟨n, by omega, e, of_decide_eq_true h⟩
        · simp at h
    · rintro ⟨m, hm, h1, h2⟩
      by_cases e : m = n
      · subst e; exact .inr (by rw [if_pos h1, h2, Nat.testBit_two_pow]; simp)
      · exact .inl ⟨m, by omega, h1, h2⟩
theorem oN_lt : ∀ i, i < 15 → ∀ j, j < 15 → oN i j < 13 := by decide +kernel
theorem btN_lt {n : Nat} (h : n < 3375) : btN n < 13 := oN_lt _ (by omega) _ (by omega)
theorem tabU_lt (i : Nat) : ∀ n, n ≤ 3375 → tabU i n < 8192
  | 0, _ => Nat.zero_lt_succ _
  | n + 1, h => by
    rw [tabU]
    refine or_lt (tabU_lt i n (by omega)) ?_
    split
    · exact two_lt (btN_lt (by omega))
    · omega
set_option maxRecDepth 100000 in
theorem thru_all : ∀ i, i < 15 → ∀ j, j < 15 → ∀ k, k < 15 → (thruN (oN i j) (oN j k)).testBit (oN i k) = true := by decide +kernel
def hasW (r q u : Nat) : Bool := (List.range 15).any fun i => (List.range 15).any fun j => oN i j == r && (List.range 15).any fun k => oN j k == q && oN i k == u
set_option maxRecDepth 100000 in
theorem thru_has : ∀ r, r < 13 → ∀ q, q < 13 → ∀ u, u < 13 → (!(thruN r q).testBit u || hasW r q u) = true := by decide +kernel
theorem ix_inj {a b r q : Nat} (ha : b + 1 < 14) (hb : q + 1 < 14) (h : (a + 1) * 14 + (b + 1) = (r + 1) * 14 + (q + 1)) : a = r ∧ b = q := by omega
theorem bit_high {x u : Nat} (h : x < 8192) (hu : 13 ≤ u) : x.testBit u = false := Nat.testBit_lt_two_pow (Nat.lt_of_lt_of_le h (Nat.le_trans (by decide : 8192 ≤ 2 ^ 13) (Nat.pow_le_pow_right (by omega) hu)))
/-- the page's table is the program's -/
theorem tab_thru {r q : Nat} (hr : r < 13) (hq : q < 13) : tabN ((r + 1) * 14 + (q + 1)) = thruN r q := by
  refine Nat.eq_of_testBit_eq fun u => ?_
  by_cases hu : u < 13
  · rw [Bool.eq_iff_iff]
    constructor
    · intro h
      obtain ⟨m, hm, h1, h2⟩ := (tabU_bit 3375).1 h
      obtain ⟨e1, e2⟩ := ix_inj (by have := oN_lt (m / 15 % 15) (by omega) (m % 15) (by omega); omega) (by omega) h1
      have := thru_all (m / 225) (by omega) (m / 15 % 15) (by omega) (m % 15) (by omega)
      rw [e1, e2] at this
      rw [← h2]
      exact this
    · intro h
      have hw := thru_has r hr q hq u hu
      rw [h, Bool.not_true, Bool.false_or, hasW] at hw
      obtain ⟨i, hi, hw⟩ := List.any_eq_true.1 hw
      obtain ⟨j, hj, hw⟩ := List.any_eq_true.1 hw
      rw [Bool.and_eq_true] at hw
      obtain ⟨h1, hw⟩ := hw
      obtain ⟨k, hk, hw⟩ := List.any_eq_true.1 hw
      rw [Bool.and_eq_true] at hw
      obtain ⟨h2, h3⟩ := hw
      rw [beq_iff_eq] at h1 h2 h3
      rw [List.mem_range] at hi hj hk
      refine (tabU_bit 3375).2 ⟨(i * 15 + j) * 15 + k, by omega, ?_, ?_⟩
      · rw [ixN, show ((i * 15 + j) * 15 + k) / 225 = i by omega, show ((i * 15 + j) * 15 + k) / 15 % 15 = j by omega, show ((i * 15 + j) * 15 + k) % 15 = k by omega, h1, h2]
      · rw [btN, show ((i * 15 + j) * 15 + k) / 225 = i by omega, show ((i * 15 + j) * 15 + k) % 15 = k by omega, h3]
  · rw [tabN, bit_high (tabU_lt _ 3375 (Nat.le_refl _)) (by omega : 13 ≤ u), bit_high (thruN_lt r q) (by omega)]

theorem orUp_congr {f g : Nat → Nat} {s : Nat} : ∀ {n}, (∀ k, k < n → f k = g k) → orUp f s n = orUp g s n
  | 0, _ => rfl
  | n + 1, h => by rw [orUp, orUp, orUp_congr (fun k hk => h k (by omega)), h n (by omega)]
theorem thenS_congr {W V : Nat → Nat → Nat} (h : ∀ r, r < 13 → ∀ q, q < 13 → W r q = V r q) (s t : Nat) : thenS W s t = thenS V s t :=
  orUp_congr fun r hr => orUp_congr fun q hq => h r hr q hq
end Go.Proofs.YtjldokhomohdbaaDoor
