/- Then in any brackets, and turned; nets: pure. -/
import Derived.Test.YtjldokhomohdbaaDoorWva
namespace Go.Proofs.YtjldokhomohdbaaDoor
open Go.RowKit

/-- the table, as one number -/
def wN (r q : Nat) : Nat := (11532500863595108661388537645610545565999198224314442701894555880523860162744410459226021931844887418815160608858319592843697687662021021360276084242642007018883276405889114085177290533134741121609665130619049270358408784775713534961648146554646073031952451716479155781349912614651353520058769592308218169059668756793856247183543877569728520811842172405323072743852736918201846976435705774359245949326552468443054851365429248925319115965374390638582252021137861798345743841250241029063026847369029120329055180985801802468671542335529534542507262816162038587225981581613032254467221080995861830949674618842566825166040007874987850210060833382311944241283105562625 >>> (13 * (13 * r + q))) % 8192
theorem w_thru : ∀ r, r < 13 → ∀ q, q < 13 → thruN r q = wN r q := by decide +kernel
theorem wN_lt (r q : Nat) : wN r q < 8192 := Nat.mod_lt _ (by decide)
/-- the program's Then -/
def thn (s t : Nat) : Nat := thenS thruN s t
theorem thn_w (s t : Nat) : thn s t = thenS wN s t := thenS_congr w_thru s t
theorem thn_lt (s t : Nat) : thn s t < 8192 := orUp_lt (fun _ => orUp_lt (fun _ => thruN_lt _ _) _) _
theorem thn_bit {s t u : Nat} : (thn s t).testBit u = true ↔ ∃ i, i < 13 ∧ s.testBit i = true ∧ ∃ j, j < 13 ∧ t.testBit j = true ∧ (wN i j).testBit u = true := by
  rw [thn_w, thenS, orUp_bit]
  constructor
  · rintro ⟨i, hi, hs, h⟩; exact ⟨i, hi, hs, (orUp_bit 13).1 h⟩
  · rintro ⟨i, hi, hs, h⟩; exact ⟨i, hi, hs, (orUp_bit 13).2 h⟩
/-- of one and a set, of a set and one -/
def lftW (W : Nat → Nat → Nat) (i x : Nat) : Nat := orUp (fun p => W i p) x 13
def rgtW (W : Nat → Nat → Nat) (x k : Nat) : Nat := orUp (fun p => W p k) x 13
set_option maxRecDepth 100000 in
theorem assoc_all : ∀ i, i < 13 → ∀ j, j < 13 → ∀ k, k < 13 → rgtW wN (wN i j) k = lftW wN i (wN j k) := by decide +kernel
theorem bit13 {x p : Nat} (hx : x < 8192) (h : x.testBit p = true) : p < 13 := by
  by_cases hp : p < 13
  · exact hp
  · rw [bit_high hx (by omega)] at h; cases h
/-- Then goes in any brackets -/
theorem thn_assoc (a b c : Nat) : thn (thn a b) c = thn a (thn b c) := by
  refine Nat.eq_of_testBit_eq fun u => ?_
  rw [Bool.eq_iff_iff, thn_bit, thn_bit]
  constructor
  · rintro ⟨p, hp, h1, k, hk, hc, h2⟩
    obtain ⟨i, hi, ha, j, hj, hb, h3⟩ := thn_bit.1 h1
    have : (rgtW wN (wN i j) k).testBit u = true := (orUp_bit 13).2 ⟨p, hp, h3, h2⟩
    rw [assoc_all i hi j hj k hk] at this
    obtain ⟨q, hq, h4, h5⟩ := (orUp_bit 13).1 this
    exact ⟨i, hi, ha, q, hq, thn_bit.2 ⟨j, hj, hb, k, hk, hc, h4⟩, h5⟩
  · rintro ⟨i, hi, ha, q, hq, h1, h2⟩
    obtain ⟨j, hj, hb, k, hk, hc, h3⟩ := thn_bit.1 h1
    have : (lftW wN i (wN j k)).testBit u = true := (orUp_bit 13).2 ⟨q, hq, h3, h2⟩
    rw [← assoc_all i hi j hj k hk] at this
    obtain ⟨p, hp, h4, h5⟩ := (orUp_bit 13).1 this
    exact ⟨p, hp, thn_bit.2 ⟨i, hi, ha, j, hj, hb, h4⟩, k, hk, hc, h5⟩
theorem turn_bit {s u : Nat} : (turnS s).testBit u = true ↔ u < 13 ∧ s.testBit (12 - u) = true := by
  rw [turnS, orUp_bit]
  constructor
  · rintro ⟨k, hk, hs, h⟩
    rw [Nat.testBit_two_pow] at h
    have := of_decide_eq_true h
    exact ⟨by omega, by rw [show 12 - u = k by omega]; exact hs⟩
  · rintro ⟨hu, h⟩
    exact ⟨12 - u, by omega, h, by rw [Nat.testBit_two_pow]; exact decide_eq_true (by omega)⟩
theorem turnS_lt (s : Nat) : turnS s < 8192 := by
  have h : ∀ n, n ≤ 13 → orUp (fun k => 2 ^ (12 - k)) s n < 8192 := by
    intro n
    induction n with
    | zero => intro _; exact Nat.zero_lt_succ _
    | succ n ih =>
      intro hn
      rw [orUp]
      refine or_lt (ih (by omega)) ?_
      split
      · exact two_lt (by omega)
      · omega
  exact h 13 (Nat.le_refl _)
set_option maxRecDepth 100000 in
theorem wturn_all : ∀ i, i < 13 → ∀ j, j < 13 → turnS (wN i j) = wN (12 - j) (12 - i) := by decide +kernel
/-- turned the other way round -/
theorem thn_turn (a b : Nat) : turnS (thn a b) = thn (turnS b) (turnS a) := by
  refine Nat.eq_of_testBit_eq fun u => ?_
  rw [Bool.eq_iff_iff, turn_bit, thn_bit, thn_bit]
  constructor
  · rintro ⟨hu, i, hi, ha, j, hj, hb, h⟩
    refine ⟨12 - j, by omega, turn_bit.2 ⟨by omega, by rw [show 12 - (12 - j) = j by omega]; exact hb⟩, 12 - i, by omega, turn_bit.2 ⟨by omega, by rw [show 12 - (12 - i) = i by omega]; exact ha⟩, ?_⟩
    rw [← wturn_all i hi j hj]
    exact turn_bit.2 ⟨hu, h⟩
  · rintro ⟨i, hi, hb, j, hj, ha, h⟩
    obtain ⟨_, hb⟩ := turn_bit.1 hb
    obtain ⟨_, ha⟩ := turn_bit.1 ha
    have hu : u < 13 := bit13 (wN_lt _ _) h
    refine ⟨hu, 12 - j, by omega, ha, 12 - i, by omega, hb, ?_⟩
    have e := wturn_all (12 - j) (by omega) (12 - i) (by omega)
    rw [show 12 - (12 - i) = i by omega, show 12 - (12 - j) = j by omega] at e
    rw [← e] at h
    exact (turn_bit.1 h).2

/-! nets: a set for each two of n -/
/-- one set lies in another one -/
def Sub (x y : Nat) : Prop := ∀ u, x.testBit u = true → y.testBit u = true
theorem Sub.refl (x : Nat) : Sub x x := fun _ h => h
theorem Sub.trans {x y z : Nat} (h : Sub x y) (k : Sub y z) : Sub x z := fun u hu => k u (h u hu)
theorem Sub.le {x y : Nat} (h : Sub x y) : x ≤ y := Nat.le_of_testBit h
theorem Sub.anti {x y : Nat} (h : Sub x y) (k : Sub y x) : x = y := Nat.le_antisymm h.le k.le
theorem sub_and {x y z : Nat} (h : Sub x y) (k : Sub x z) : Sub x (y &&& z) := fun u hu => by rw [Nat.testBit_and, h u hu, k u hu]; rfl
theorem and_subl (y z : Nat) : Sub (y &&& z) y := fun u hu => by rw [Nat.testBit_and, Bool.and_eq_true] at hu; exact hu.1
theorem and_subr (y z : Nat) : Sub (y &&& z) z := fun u hu => by rw [Nat.testBit_and, Bool.and_eq_true] at hu; exact hu.2
theorem turn_mono {x y : Nat} (h : Sub x y) : Sub (turnS x) (turnS y) := fun u hu => by
  obtain ⟨a, b⟩ := turn_bit.1 hu
  exact turn_bit.2 ⟨a, h _ b⟩
theorem thn_mono {x y a b : Nat} (h : Sub x y) (k : Sub a b) : Sub (thn x a) (thn y b) := fun u hu => by
  obtain ⟨i, hi, ha, j, hj, hb, hw⟩ := thn_bit.1 hu
  exact thn_bit.2 ⟨i, hi, h _ ha, j, hj, k _ hb, hw⟩
/-- a set of the net -/
def nt (n : Nat) (l : List Nat) (i j : Nat) : Nat := l.getD (i * n + j) 0
/-- what Then leaves of s at (i, j), of the first k -/
def cutU (n : Nat) (l : List Nat) (i j s : Nat) : Nat → Nat
  | 0 => s
  | k + 1 => cutU n l i j s k &&& thn (nt n l i k) (nt n l k j)
theorem cutU_sub (n : Nat) (l : List Nat) (i j s : Nat) : ∀ k, Sub (cutU n l i j s k) s
  | 0 => Sub.refl _
  | k + 1 => (and_subl _ _).trans (cutU_sub n l i j s k)
theorem cutU_thn {n : Nat} {l : List Nat} {i j s k : Nat} : ∀ {m}, k < m → Sub (cutU n l i j s m) (thn (nt n l i k) (nt n l k j))
  | 0, h => by omega
  | m + 1, h => by
    rw [cutU]
    by_cases e : k = m
    · subst e; exact and_subr _ _
    · exact (and_subl _ _).trans (cutU_thn (by omega))
theorem cutU_of {n : Nat} {l : List Nat} {i j s x : Nat} : ∀ {m}, Sub x s → (∀ k, k < m → Sub x (thn (nt n l i k) (nt n l k j))) → Sub x (cutU n l i j s m)
  | 0, h, _ => h
  | m + 1, h, hk => sub_and (cutU_of h fun k hm => hk k (by omega)) (hk m (by omega))
/-- what loses no more -/
def Still (n : Nat) (x : List Nat) : Prop := ∀ i, i < n → ∀ j, j < n → Sub (nt n x i j) (turnS (nt n x j i)) ∧ (i = j → Sub (nt n x i j) 64) ∧ ∀ k, k < n → Sub (nt n x i j) (thn (nt n x i k) (nt n x k j))
/-- a net within another one -/
def Within (n : Nat) (x y : List Nat) : Prop := ∀ i, i < n → ∀ j, j < n → Sub (nt n x i j) (nt n y i j)
/-- what any net that loses no more keeps within y, it has within z, too -/
def Keeps (n : Nat) (y z : List Nat) : Prop := ∀ x, Still n x → Within n x y → Within n x z
theorem Keeps.refl (n : Nat) (y : List Nat) : Keeps n y y := fun _ _ h => h
theorem Keeps.trans {n : Nat} {a b c : List Nat} (h : Keeps n a b) (k : Keeps n b c) : Keeps n a c := fun x hs hw => k x hs (h x hs hw)
theorem nt_set {n : Nat} {l : List Nat} {i j v a b : Nat} (hl : l.length = n * n) (hi : i < n) (hj : j < n) (ha : a < n) (hb : b < n) : nt n (l.set (i * n + j) v) a b = if a = i ∧ b = j then v else nt n l a b := by
  have h1 : i * n + j < n * n := by
    have : (i + 1) * n ≤ n * n := Nat.mul_le_mul_right n hi
    rw [Nat.add_mul] at this
    omega
  unfold nt
  rw [List.getD_eq_getElem?_getD, List.getD_eq_getElem?_getD, List.getElem?_set]
  by_cases e : i * n + j = a * n + b
  · have e1 : i = a := by
      have h2 := congrArg (· / n) e
      simp only [Nat.mul_comm _ n] at h2
      rw [Nat.mul_add_div (by omega), Nat.mul_add_div (by omega), Nat.div_eq_of_lt hj, Nat.div_eq_of_lt hb] at h2
      omega
    subst e1
    have e2 : j = b := by omega
    subst e2
    rw [if_pos rfl, if_pos (by omega), if_pos ⟨rfl, rfl⟩]
    rfl
  · rw [if_neg e, if_neg (by rintro ⟨rfl, rfl⟩; exact e rfl)]
theorem within_set {n : Nat} {l : List Nat} {i j v : Nat} (hl : l.length = n * n) (hi : i < n) (hj : j < n) (hv : Sub v (nt n l i j)) : Within n (l.set (i * n + j) v) l := by
  intro a ha b hb
  rw [nt_set hl hi hj ha hb]
  split
  · rename_i h; obtain ⟨rfl, rfl⟩ := h; exact hv
  · exact Sub.refl _
theorem Within.refl (n : Nat) (x : List Nat) : Within n x x := fun _ _ _ _ => Sub.refl _
theorem Within.trans {n : Nat} {x y z : List Nat} (h : Within n x y) (k : Within n y z) : Within n x z := fun i hi j hj => (h i hi j hj).trans (k i hi j hj)
/-- a step loses nothing that a still net has -/
theorem keeps_set {n : Nat} {l : List Nat} {i j v : Nat} (hl : l.length = n * n) (hi : i < n) (hj : j < n) (hv : ∀ x, Still n x → Within n x l → Sub (nt n x i j) v) : Keeps n l (l.set (i * n + j) v) := by
  intro x hs hw a ha b hb
  rw [nt_set hl hi hj ha hb]
  split
  · rename_i h; obtain ⟨rfl, rfl⟩ := h; exact hv x hs hw
  · exact hw a ha b hb
/-- what is left of (i, j) by the program -/
def leftN (n : Nat) (l : List Nat) (i j : Nat) : Nat := cutU n l i j (if i = j then (nt n l i j &&& turnS (nt n l j i)) &&& 64 else nt n l i j &&& turnS (nt n l j i)) n
/-- and by the page -/
def nowN (n : Nat) (l : List Nat) (i j : Nat) : Nat := cutU n l i j (nt n l i j &&& turnS (nt n l j i)) n
theorem left_sub (n : Nat) (l : List Nat) (i j : Nat) : Sub (leftN n l i j) (nt n l i j) := by
  refine (cutU_sub _ _ _ _ _ _).trans ?_
  split
  · exact (and_subl _ _).trans (and_subl _ _)
  · exact and_subl _ _
theorem now_sub (n : Nat) (l : List Nat) (i j : Nat) : Sub (nowN n l i j) (nt n l i j) := (cutU_sub _ _ _ _ _ _).trans (and_subl _ _)
theorem still_cut {n : Nat} {l x : List Nat} {i j : Nat} (hi : i < n) (hj : j < n) (hs : Still n x) (hw : Within n x l) : Sub (nt n x i j) (nowN n l i j) := by
  obtain ⟨h1, _, h3⟩ := hs i hi j hj
  exact cutU_of (sub_and (hw i hi j hj) (h1.trans (turn_mono (hw j hj i hi)))) fun k hk => (h3 k hk).trans (thn_mono (hw i hi k hk) (hw k hk j hj))
theorem left_now (n : Nat) (l : List Nat) (i j : Nat) : Sub (leftN n l i j) (nowN n l i j) := by
  refine cutU_of ((cutU_sub _ _ _ _ _ _).trans ?_) fun k hk => cutU_thn hk
  split
  · exact and_subl _ _
  · exact Sub.refl _
theorem still_left {n : Nat} {l x : List Nat} {i j : Nat} (hi : i < n) (hj : j < n) (hs : Still n x) (hw : Within n x l) : Sub (nt n x i j) (leftN n l i j) := by
  obtain ⟨h1, h2, h3⟩ := hs i hi j hj
  refine cutU_of ?_ fun k hk => (h3 k hk).trans (thn_mono (hw i hi k hk) (hw k hk j hj))
  split
  · rename_i e; exact sub_and (sub_and (hw i hi j hj) (h1.trans (turn_mono (hw j hj i hi)))) (h2 e)
  · exact sub_and (hw i hi j hj) (h1.trans (turn_mono (hw j hj i hi)))
theorem left_keeps {n : Nat} {l : List Nat} {i j : Nat} (hl : l.length = n * n) (hi : i < n) (hj : j < n) : Keeps n l (l.set (i * n + j) (leftN n l i j)) := keeps_set hl hi hj fun _ hs hw => still_left hi hj hs hw
theorem now_keeps {n : Nat} {l : List Nat} {i j : Nat} (hl : l.length = n * n) (hi : i < n) (hj : j < n) : Keeps n l (l.set (i * n + j) (nowN n l i j)) := keeps_set hl hi hj fun _ hs hw => still_cut hi hj hs hw
theorem diag_keeps {n : Nat} {l : List Nat} {i : Nat} (hl : l.length = n * n) (hi : i < n) : Keeps n l (l.set (i * n + i) (nt n l i i &&& 64)) := keeps_set hl hi hi fun _ hs hw => sub_and (hw i hi i hi) ((hs i hi i hi).2.1 rfl)
/-- where nothing is lost the net is still -/
theorem still_of_left {n : Nat} {l : List Nat} (h : ∀ i, i < n → ∀ j, j < n → leftN n l i j = nt n l i j) : Still n l := by
  intro i hi j hj
  have e := h i hi j hj
  refine ⟨?_, fun hij => ?_, fun k hk => ?_⟩
  · rw [← e]
    refine (cutU_sub _ _ _ _ _ _).trans ?_
    split
    · exact (and_subl _ _).trans (and_subr _ _)
    · exact and_subr _ _
  · rw [← e]
    refine (cutU_sub _ _ _ _ _ _).trans ?_
    rw [if_pos hij]
    exact and_subr _ _
  · rw [← e]
    exact cutU_thn hk
theorem still_of_now {n : Nat} {l : List Nat} (hd : ∀ i, i < n → Sub (nt n l i i) 64) (h : ∀ i, i < n → ∀ j, j < n → nowN n l i j = nt n l i j) : Still n l := by
  intro i hi j hj
  have e := h i hi j hj
  refine ⟨?_, fun hij => ?_, fun k hk => ?_⟩
  · rw [← e]
    exact (cutU_sub _ _ _ _ _ _).trans (and_subr _ _)
  · subst hij; exact hd i hi
  · rw [← e]
    exact cutU_thn hk
/-- two still nets that keep the same are one -/
theorem still_same {n : Nat} {l a b : List Nat} (ha : Still n a) (hb : Still n b) (wa : Within n a l) (wb : Within n b l) (ka : Keeps n l a) (kb : Keeps n l b) (la : a.length = n * n) (lb : b.length = n * n) : a = b := by
  have h1 := ka b hb wb
  have h2 := kb a ha wa
  refine List.ext_getElem (by omega) fun m m1 m2 => ?_
  have hm : m < n * n := by omega
  have hn : 0 < n := by rcases Nat.eq_zero_or_pos n with e | e; · subst e; simp at hm
                        · exact e
  have hi : m / n < n := Nat.div_lt_of_lt_mul hm
  have hj : m % n < n := Nat.mod_lt _ hn
  have e : m / n * n + m % n = m := by rw [Nat.mul_comm]; exact Nat.div_add_mod m n
  have := (h2 _ hi _ hj).anti (h1 _ hi _ hj)
  unfold nt at this
  rw [e, List.getD_eq_getElem?_getD, List.getD_eq_getElem?_getD, List.getElem?_eq_getElem m1, List.getElem?_eq_getElem m2] at this
  simpa using this
end Go.Proofs.YtjldokhomohdbaaDoor
