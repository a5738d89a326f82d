/- Joined: Lyd, Lyp. -/
import Derived.Test.YtbjghkmjnhmlfaaGreatDoorYE

/- almagestref4: digit, letter; Tokens. -/
namespace Go.Proofs.YtbjghkmjnhmlfaaGreatDoor
open Go.RowKit Go.Maps

theorem digit_any (b : UInt8) (w : World) : Calls Tryz.prog 60 #[.int .u8 b.toNat] w fun e w' => e = .returned (.bool (digB b)) ∧ w' = w := by
  have hb : b.toNat < 256 := b.toNat_lt
  by_cases h1 : 48 ≤ b.toNat
  · have h1' : decide ((48 : Int) ≤ (b.toNat : Int)) = true := decide_eq_true (by omega)
    have HE : Hid (decide ((b.toNat : Int) ≤ 57) = digB b) := Lib.hid (by unfold digB; rw [Bool.eq_iff_iff]; simp; omega)
    go_enter Tryz.func60, Tryz.ntmps60
    go_wp2_with fail
    go_ret
    exact ⟨ret_bool HE.out, rfl⟩
  · have h1' : decide ((48 : Int) ≤ (b.toNat : Int)) = false := decide_eq_false (by omega)
    have HE : Hid (false = digB b) := Lib.hid (by unfold digB; simp; omega)
    clear h1
    go_enter Tryz.func60, Tryz.ntmps60
    go_wp2_with fail
    go_ret
    exact ⟨ret_bool HE.out, rfl⟩
theorem digit_be (b : UInt8) (r : Bool) (w : World) (h : digB b = r) : Calls Tryz.prog 60 #[.int .u8 b.toNat] w fun e w' => e = .returned (.bool r) ∧ w' = w := h ▸ digit_any b w
theorem letter_any (b : UInt8) (w : World) : Calls Tryz.prog 59 #[.int .u8 b.toNat] w fun e w' => e = .returned (.bool (innB b)) ∧ w' = w := by
  have hb : b.toNat < 256 := b.toNat_lt
  have h : (97 ≤ b.toNat ∧ b.toNat ≤ 122) ∨ (65 ≤ b.toNat ∧ b.toNat ≤ 90) ∨ (48 ≤ b.toNat ∧ b.toNat ≤ 57) ∨ (b.toNat < 65 ∧ ¬ (48 ≤ b.toNat ∧ b.toNat ≤ 57)) ∨ (91 ≤ b.toNat ∧ b.toNat ≤ 96) ∨ 123 ≤ b.toNat := by omega
  rcases h with h | h | h | h | h | h
  · have f97 : decide ((97 : Int) ≤ (b.toNat : Int)) = true := decide_eq_true (by omega)
    have f122 : decide ((b.toNat : Int) ≤ (122 : Int)) = true := decide_eq_true (by omega)
    have HE : Hid (true = innB b) := Lib.hid (by unfold innB smlB grtB digB; rw [Bool.eq_iff_iff]; simp; omega)
    clear h
    go_enter Tryz.func59, Tryz.ntmps59
    go_wp2_with fail
    go_ret
    exact ⟨ret_bool HE.out, rfl⟩
  · have f97 : decide ((97 : Int) ≤ (b.toNat : Int)) = false := decide_eq_false (by omega)
    have f65 : decide ((65 : Int) ≤ (b.toNat : Int)) = true := decide_eq_true (by omega)
    have f90 : decide ((b.toNat : Int) ≤ (90 : Int)) = true := decide_eq_true (by omega)
    have HE : Hid (true = innB b) := Lib.hid (by unfold innB smlB grtB digB; rw [Bool.eq_iff_iff]; simp; omega)
    clear h
    go_enter Tryz.func59, Tryz.ntmps59
    go_wp2_with fail
    go_ret
    exact ⟨ret_bool HE.out, rfl⟩
  · have f97 : decide ((97 : Int) ≤ (b.toNat : Int)) = false := decide_eq_false (by omega)
    have f65 : decide ((65 : Int) ≤ (b.toNat : Int)) = false := decide_eq_false (by omega)
    have KD := fun u => Lib.hid (digit_be b true u (by unfold digB; rw [Bool.eq_iff_iff]; simp; omega))
    have HE : Hid (true = innB b) := Lib.hid (by unfold innB smlB grtB digB; rw [Bool.eq_iff_iff]; simp; omega)
    clear h
    go_enter Tryz.func59, Tryz.ntmps59
    go_wp2_with (go_at_call 60; refine (KD _).out.mono ?_; rintro e w' ⟨rfl, rfl⟩)
    go_ret
    exact ⟨ret_bool HE.out, rfl⟩
  · have f97 : decide ((97 : Int) ≤ (b.toNat : Int)) = false := decide_eq_false (by omega)
    have f65 : decide ((65 : Int) ≤ (b.toNat : Int)) = false := decide_eq_false (by omega)
    have KD := fun u => Lib.hid (digit_be b false u (by unfold digB; rw [Bool.eq_iff_iff]; simp; omega))
    have HE : Hid (((b.toNat : Int) == 95) = innB b) := Lib.hid (by unfold innB smlB grtB digB; rw [Bool.eq_iff_iff, beq_iff_eq]; simp; rw [show (b = 95 ↔ b.toNat = 95) from ⟨fun e => by rw [e]; rfl, fun e => UInt8.toNat_inj.1 e⟩]; omega)
    clear h
    go_enter Tryz.func59, Tryz.ntmps59
    go_wp2_with (go_at_call 60; refine (KD _).out.mono ?_; rintro e w' ⟨rfl, rfl⟩)
    go_ret
    exact ⟨ret_bool HE.out, rfl⟩
  · have f97 : decide ((97 : Int) ≤ (b.toNat : Int)) = false := decide_eq_false (by omega)
    have f65 : decide ((65 : Int) ≤ (b.toNat : Int)) = true := decide_eq_true (by omega)
    have f90 : decide ((b.toNat : Int) ≤ (90 : Int)) = false := decide_eq_false (by omega)
    have KD := fun u => Lib.hid (digit_be b false u (by unfold digB; rw [Bool.eq_iff_iff]; simp; omega))
    have HE : Hid (((b.toNat : Int) == 95) = innB b) := Lib.hid (by unfold innB smlB grtB digB; rw [Bool.eq_iff_iff, beq_iff_eq]; simp; rw [show (b = 95 ↔ b.toNat = 95) from ⟨fun e => by rw [e]; rfl, fun e => UInt8.toNat_inj.1 e⟩]; omega)
    clear h
    go_enter Tryz.func59, Tryz.ntmps59
    go_wp2_with (go_at_call 60; refine (KD _).out.mono ?_; rintro e w' ⟨rfl, rfl⟩)
    go_ret
    exact ⟨ret_bool HE.out, rfl⟩
  · have f97 : decide ((97 : Int) ≤ (b.toNat : Int)) = true := decide_eq_true (by omega)
    have f122 : decide ((b.toNat : Int) ≤ (122 : Int)) = false := decide_eq_false (by omega)
    have f65 : decide ((65 : Int) ≤ (b.toNat : Int)) = true := decide_eq_true (by omega)
    have f90 : decide ((b.toNat : Int) ≤ (90 : Int)) = false := decide_eq_false (by omega)
    have KD := fun u => Lib.hid (digit_be b false u (by unfold digB; rw [Bool.eq_iff_iff]; simp; omega))
    have HE : Hid (((b.toNat : Int) == 95) = innB b) := Lib.hid (by unfold innB smlB grtB digB; rw [Bool.eq_iff_iff, beq_iff_eq]; simp; rw [show (b = 95 ↔ b.toNat = 95) from ⟨fun e => by rw [e]; rfl, fun e => UInt8.toNat_inj.1 e⟩]; omega)
    clear h
    go_enter Tryz.func59, Tryz.ntmps59
    go_wp2_with (go_at_call 60; refine (KD _).out.mono ?_; rintro e w' ⟨rfl, rfl⟩)
    go_ret
    exact ⟨ret_bool HE.out, rfl⟩
theorem letter_be (b : UInt8) (r : Bool) (w : World) (h : innB b = r) : Calls Tryz.prog 59 #[.int .u8 b.toNat] w fun e w' => e = .returned (.bool r) ∧ w' = w := h ▸ letter_any b w
end Go.Proofs.YtbjghkmjnhmlfaaGreatDoor

/- almagestref4.Tokens: what its walk leans on (pure). -/
namespace Go.Proofs.YtbjghkmjnhmlfaaGreatDoor
open Go.RowKit Go.Maps

theorem toksL_same {n : Nat} {l m : List UInt8} (h : passL false l = passL false m) : toksL n l = toksL n m := by rw [← toksL_pass n l, h, toksL_pass]
theorem blk_next {s : ByteArray} {j : Nat} (hj : j < s.size) (h : blkB s[j] = true) : passL false (lft s j) = passL false (lft s (j + 1)) := by
  rw [lft_cons s j hj]; simp only [passL, h, if_true]
theorem joinT_same {s : ByteArray} {j i : Nat} {ts : List Tok} (h : passL false (lft s j) = passL false (lft s i)) (hJ : joinT ts (toksL s.size (lft s j)) = toksL s.size (lft s 0)) : joinT ts (toksL s.size (lft s i)) = toksL s.size (lft s 0) := by
  rw [← hJ, toksL_same h]

theorem remark_end {s : ByteArray} {i j : Nat} (hj : j < s.size) (h37 : s[j] = 37) (hi : s.size ≤ i ∨ ∃ h : i < s.size, s[i] = 10) (hT : passL true (lft s i) = passL true (lft s j)) : passL false (lft s j) = passL false (lft s i) := by
  have e1 : passL false (lft s j) = passL true (lft s (j + 1)) := by
    rw [lft_cons s j hj]
    simp only [passL, h37]
    rfl
  have e2 : passL true (lft s j) = passL true (lft s (j + 1)) := by
    rw [lft_cons s j hj]
    simp only [passL, h37]
    rfl
  have e3 : passL true (lft s i) = passL false (lft s i) := by
    rcases hi with h | ⟨h, h10⟩
    · rw [show lft s i = [] from List.drop_eq_nil_of_le (by simpa using h)]; rfl
    · rw [lft_cons s i h]
      simp only [passL, h10]
      rfl
  rw [e1, ← e2, ← hT, e3]
theorem remark_next {s : ByteArray} {i j : Nat} (hi : i < s.size) (h : (s[i] == 10) = false) (hT : passL true (lft s i) = passL true (lft s j)) : passL true (lft s (i + 1)) = passL true (lft s j) := by
  rw [← hT, lft_cons s i hi]
  simp only [passL, h]
  rfl
theorem remark_lt {s : ByteArray} {i j : Nat} (hj : j < s.size) (h37 : s[j] = 37) (hji : j ≤ i) (hi : i < s.size) (h : s[i] = 10) : j < i := by
  rcases Nat.lt_or_ge j i with h' | h'
  · exact h'
  · have : i = j := by omega
    subst this
    rw [h37] at h
    exact absurd h (by decide)

/-- a word stands at j, up to i -/
def ResT (s : ByteArray) (j : Nat) (t : Tok) (i : Nat) : Prop := tokL (lft s j) = .inr (t, lft s i) ∧ j < i ∧ i ≤ s.size
theorem toks_step {s : ByteArray} {j i : Nat} {t : Tok} {ts : List Tok} (hj : j < s.size) (hp : passL false (lft s j) = lft s j) (hR : ResT s j t i) (hJ : joinT ts (toksL s.size (lft s j)) = toksL s.size (lft s 0)) :
    joinT (ts ++ [{ t with at_ := (j : Int) }]) (toksL s.size (lft s i)) = toksL s.size (lft s 0) := by
  have h3 := hR.1
  have hc := lft_cons s j hj
  have hl := lft_len s j
  rw [← hJ]
  rw [hc] at hp h3 hl
  rw [hc, toksL_go hp h3, hl]
  have : s.size - (s.size - j) = j := by omega
  rw [this]
  cases toksL s.size (lft s i) with
  | inl e => rfl
  | inr r => simp [joinT]
theorem toks_err {s : ByteArray} {j : Nat} {x : Int} {ts : List Tok} (hj : j < s.size) (hp : passL false (lft s j) = lft s j) (h : tokL (lft s j) = .inl x) (hJ : joinT ts (toksL s.size (lft s j)) = toksL s.size (lft s 0)) : toksL s.size (lft s 0) = .inl ((j : Int), x) := by
  have hc := lft_cons s j hj
  have hl := lft_len s j
  rw [hc] at hp h hl
  rw [← hJ, hc, toksL_bad hp h, hl]
  simp only [joinT]
  congr 2
  omega
theorem word_res {s : ByteArray} {j : Nat} (hj : j < s.size) (h : (smlB s[j] || grtB s[j]) = true) (K : Int) (hK : K = if smlB s[j] then 1 else 2) :
    (runN innB s j ≤ 16 → ResT s j ⟨K, s.extract j (j + runN innB s j), 0, 0⟩ (j + runN innB s j)) ∧ (16 < runN innB s j → tokL (lft s j) = .inl 2) := by
  have hs := word_same K hj h hK
  unfold wordR at hs
  constructor
  · intro hn
    rw [if_pos (show ((lft s j).takeWhile innB).length ≤ 16 from hn)] at hs
    obtain ⟨h1, h2, h3⟩ := hs
    exact ⟨by rw [run_extract innB rfl]; exact h3, h1, h2⟩
  · intro hn
    rw [if_neg (show ¬ ((lft s j).takeWhile innB).length ≤ 16 by unfold runN at hn; omega)] at hs
    exact hs

theorem number_res {s : ByteArray} {j v i : Nat} (hj : j < s.size) (h1 : (smlB s[j] || grtB s[j]) = false) (h : (digB s[j] || minB s j) = true) (hv : numL 0 ((lft s (numK s j)).takeWhile digB) = v) (hi : numK s j + runN digB s (numK s j) = i) :
    (v ≤ 1073741824 → ResT s j ⟨3, ⟨#[]⟩, if s[j] == 45 then -(v : Int) else (v : Int), 0⟩ i) ∧ (1073741824 < v → tokL (lft s j) = .inl 2) := by
  have hs := number_same hj h1 h
  have hh : headIs s j 45 = (s[j] == 45) := headIs_in hj 45
  unfold numberR at hs
  rw [hv, hi, hh] at hs
  constructor
  · intro hn
    rw [if_pos hn] at hs
    obtain ⟨a, b, c⟩ := hs
    refine ⟨?_, a, b⟩
    rw [c]
    congr 3
    split <;> simp
  · intro hn
    rw [if_neg (by omega)] at hs
    exact hs
theorem num_start {s : ByteArray} {j : Nat} (hj : j < s.size) (hd : digB s[j] = true) : numL (s[j].toNat - 48) ((lft s (j + 1)).takeWhile digB) = numL 0 ((lft s j).takeWhile digB) := by
  have := digB_range hd
  rw [lft_cons s j hj, List.takeWhile_cons_of_pos hd, numL_go (v := 0) (by omega)]
  congr 1
  omega
theorem num_step {s : ByteArray} {i v x : Nat} (hi : i < s.size) (hd : digB s[i] = true) (hx : x = min (10 * v + (s[i].toNat - 48)) 1073741825) : numL x ((lft s (i + 1)).takeWhile digB) = numL v ((lft s i).takeWhile digB) := by
  rw [lft_cons s i hi, List.takeWhile_cons_of_pos hd, numL_cons, hx, capN_eq]
theorem num_stop {s : ByteArray} {i v : Nat} (h : s.size ≤ i ∨ ∃ h : i < s.size, digB s[i] = false) : numL v ((lft s i).takeWhile digB) = v ∧ runN digB s i = 0 := by
  rcases h with h | ⟨h, hd⟩
  · rw [runN_end h, show lft s i = [] from List.drop_eq_nil_of_le (by simpa using h)]
    exact ⟨numL_nil _, rfl⟩
  · rw [runN_no h hd, lft_cons s i h, List.takeWhile_cons_of_neg (by simp [hd])]
    exact ⟨numL_nil _, rfl⟩

/-- the page's marks, as they are laid -/
def rmkL : List (List UInt8) := [[58, 45], [60, 45], [61, 60], [92, 61], [92, 43], [40], [41], [44], [46], [59], [60], [61], [38], [124], [64]]
def rfind (l : List UInt8) : Option (List UInt8) := rmkL.find? (fun m => l.take m.length == m)
theorem rfind_eq (l : List UInt8) : rfind l = if 2 ≤ l.length ∧ l.take 2 ∈ marks2 then some (l.take 2) else if l.take 1 ∈ marks1 then some (l.take 1) else none := by
  match l with
  | [] => rfl
  | [c] =>
    have : ¬ (2 ≤ [c].length ∧ [c].take 2 ∈ marks2) := fun h => by have := h.1; simp at this
    rw [if_neg this]
    by_cases h : c ∈ ([40, 41, 44, 46, 59, 60, 61, 38, 124, 64] : List UInt8)
    · have hh := h
      simp only [List.mem_cons, List.not_mem_nil, or_false] at h
      rcases h with rfl | rfl | rfl | rfl | rfl | rfl | rfl | rfl | rfl | rfl <;> rfl
    · have e : [c].take 1 = [c] := rfl
      have h2 : ¬ [c] ∈ marks1 := fun x => h (by simpa [marks1] using x)
      rw [e, if_neg h2]
      unfold rfind
      rw [List.find?_eq_none]
      intro m hm
      simp only [rmkL, List.mem_cons, List.not_mem_nil, or_false] at hm
      simp only [List.mem_cons, List.not_mem_nil, or_false, not_or] at h
      rcases hm with rfl | rfl | rfl | rfl | rfl | rfl | rfl | rfl | rfl | rfl | rfl | rfl | rfl | rfl | rfl <;> simp [h]
  | c :: d :: r =>
    have e2 : (c :: d :: r).take 2 = [c, d] := rfl
    have e1 : (c :: d :: r).take 1 = [c] := rfl
    have hl : 2 ≤ (c :: d :: r).length := by simp
    rw [e2, e1]
    simp only [hl, true_and]
    by_cases h : [c, d] ∈ marks2
    · rw [if_pos h]
      simp only [marks2, List.mem_cons, List.not_mem_nil, or_false, List.cons.injEq, and_true] at h
      rcases h with ⟨rfl, rfl⟩ | ⟨rfl, rfl⟩ | ⟨rfl, rfl⟩ | ⟨rfl, rfl⟩ | ⟨rfl, rfl⟩ <;> rfl
    · rw [if_neg h]
      have hn : ∀ m ∈ ([[58, 45], [60, 45], [61, 60], [92, 61], [92, 43]] : List (List UInt8)), ((c :: d :: r).take m.length == m) = false := fun m hm => by
        have hm2 : m ∈ marks2 := hm
        have hlen : m.length = 2 := by
          have : ∀ x ∈ marks2, x.length = 2 := by decide
          exact this m hm2
        rw [hlen, e2]
        rw [Bool.eq_false_iff]
        intro hh
        exact h (by rw [beq_iff_eq.1 hh]; exact hm2)
      have hs : rfind (c :: d :: r) = ([[40], [41], [44], [46], [59], [60], [61], [38], [124], [64]] : List (List UInt8)).find? (fun m => (c :: d :: r).take m.length == m) := by
        unfold rfind
        have : rmkL = ([[58, 45], [60, 45], [61, 60], [92, 61], [92, 43]] : List (List UInt8)) ++ [[40], [41], [44], [46], [59], [60], [61], [38], [124], [64]] := rfl
        rw [this, List.find?_append, List.find?_eq_none.2 (fun m hm => by simpa using hn m hm)]
        rfl
      rw [hs]
      by_cases h1 : c ∈ ([40, 41, 44, 46, 59, 60, 61, 38, 124, 64] : List UInt8)
      · simp only [List.mem_cons, List.not_mem_nil, or_false] at h1
        rcases h1 with rfl | rfl | rfl | rfl | rfl | rfl | rfl | rfl | rfl | rfl <;> rfl
      · have h2 : ¬ [c] ∈ marks1 := fun x => h1 (by simpa [marks1] using x)
        rw [if_neg h2, List.find?_eq_none]
        intro m hm
        simp only [List.mem_cons, List.not_mem_nil, or_false] at hm
        simp only [List.mem_cons, List.not_mem_nil, or_false, not_or] at h1
        rcases hm with rfl | rfl | rfl | rfl | rfl | rfl | rfl | rfl | rfl | rfl <;> simp [h1]
theorem marks_res {s : ByteArray} {j : Nat} (hj : j < s.size) (h1 : (smlB s[j] || grtB s[j]) = false) (h2 : digB s[j] = false) (h3 : minB s j = false) :
    (∀ mk, rfind (lft s j) = some mk → ResT s j ⟨4, ⟨mk.toArray⟩, 0, 0⟩ (j + mk.length)) ∧ (rfind (lft s j) = none → tokL (lft s j) = .inl 4) := by
  have hs := mark_same hj h1 h2 h3
  unfold markR at hs
  rw [mtry_eq] at hs
  have hlen := lft_len s j
  rw [rfind_eq]
  by_cases hA : 2 ≤ (lft s j).length ∧ (lft s j).take 2 ∈ marks2
  · simp only [if_pos hA] at hs ⊢
    rw [if_neg (by omega)] at hs
    refine ⟨fun mk e => ?_, fun e => by cases e⟩
    cases e
    have : ((lft s j).take 2).length = 2 := by rw [List.length_take]; omega
    rw [this]
    exact ⟨hs.2.2, hs.1, hs.2.1⟩
  · simp only [if_neg hA] at hs ⊢
    by_cases hB : (lft s j).take 1 ∈ marks1
    · simp only [if_pos hB] at hs ⊢
      rw [if_neg (by omega)] at hs
      refine ⟨fun mk e => ?_, fun e => by cases e⟩
      cases e
      have : ((lft s j).take 1).length = 1 := by rw [List.length_take]; omega
      rw [this]
      exact ⟨hs.2.2, hs.1, hs.2.1⟩
    · simp only [if_neg hB] at hs ⊢
      rw [if_pos trivial] at hs
      exact ⟨fun mk e => (by cases e), fun _ => hs⟩
abbrev rmkO : Obj := .cells #[.string ⟨#[58, 45]⟩, .string ⟨#[60, 45]⟩, .string ⟨#[61, 60]⟩, .string ⟨#[92, 61]⟩, .string ⟨#[92, 43]⟩, .string ⟨#[40]⟩, .string ⟨#[41]⟩, .string ⟨#[44]⟩, .string ⟨#[46]⟩, .string ⟨#[59]⟩, .string ⟨#[60]⟩, .string ⟨#[61]⟩, .string ⟨#[38]⟩, .string ⟨#[124]⟩, .string ⟨#[64]⟩] 9
def RmkAt (w : World) (m : Nat) : Prop := ∀ i (h : i < 15), w.cell? ⟨m, i, none⟩ = some (.string ⟨(rmkL[i]'h).toArray⟩)
theorem RmkAt.made (w : World) : RmkAt (w.alloc rmkO) w.heap.size := fun k hk => by
  have : k = 0 ∨ k = 1 ∨ k = 2 ∨ k = 3 ∨ k = 4 ∨ k = 5 ∨ k = 6 ∨ k = 7 ∨ k = 8 ∨ k = 9 ∨ k = 10 ∨ k = 11 ∨ k = 12 ∨ k = 13 ∨ k = 14 := by omega
  rcases this with rfl | rfl | rfl | rfl | rfl | rfl | rfl | rfl | rfl | rfl | rfl | rfl | rfl | rfl | rfl <;> simp [rmkL]
theorem RmkAt.ext {w w' : World} {m : Nat} (h : RmkAt w m) (k : Ext w w') : RmkAt w' m := fun i hi => k.cell (h i hi)

end Go.Proofs.YtbjghkmjnhmlfaaGreatDoor
