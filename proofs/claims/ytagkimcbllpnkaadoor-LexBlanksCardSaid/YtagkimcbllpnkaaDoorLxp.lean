/- Words of a text, as plain data (pure): what is passed over, one word, all of them, and where the first fault is. -/
import Derived.Test.YtagkimcbllpnkaaDoorRows
import Derived.Lib.Hide
namespace Go.Proofs.YtagkimcbllpnkaaDoor

def blkB (c : UInt8) : Bool := c == 32 || c == 9 || c == 10 || c == 13
def smlB (c : UInt8) : Bool := decide (97 ≤ c.toNat) && decide (c.toNat ≤ 122)
def grtB (c : UInt8) : Bool := decide (65 ≤ c.toNat) && decide (c.toNat ≤ 90)
def digB (c : UInt8) : Bool := decide (48 ≤ c.toNat) && decide (c.toNat ≤ 57)
def innB (c : UInt8) : Bool := smlB c || grtB c || digB c || c == 95
def rowB (c : UInt8) : Bool := c != 10

/-- what is left behind blanks and remarks; true: within a remark -/
def passL : Bool → List UInt8 → List UInt8
  | _, [] => []
  | false, c :: r => if blkB c then passL false r else if c == 37 then passL true r else c :: r
  | true, c :: r => if c == 10 then passL false r else passL true r

theorem passL_le (l : List UInt8) : ∀ b, (passL b l).length ≤ l.length := by
  induction l with
  | nil => intro b; cases b <;> simp [passL]
  | cons c r ih =>
    intro b
    cases b
    · simp only [passL]
      split
      · have := ih false; simp; omega
      · split
        · have := ih true; simp; omega
        · simp
    · simp only [passL]
      split
      · have := ih false; simp; omega
      · have := ih true; simp; omega

/-- a word: its kind, text and number, and where it stands -/
structure Tok where
  kind : Int
  text : ByteArray
  n : Int
  at_ : Int

/-- digits' number; more than may be stays just more -/
def capN : Nat := 1073741825
def numL (n : Nat) (l : List UInt8) : Nat := l.foldl (fun n d => min (10 * n + (d.toNat - 48)) capN) n

def marks2 : List (List UInt8) := [[58, 45], [60, 45], [61, 60], [92, 61], [92, 43]]
def marks1 : List (List UInt8) := [[40], [41], [44], [46], [59], [60], [61], [38], [124], [64]]

/-- the first word and what is left, or the error -/
def tokL (l : List UInt8) : Sum Int (Tok × List UInt8) :=
  match l with
  | [] => .inl 4
  | c :: r =>
    if smlB c || grtB c then
      if (l.takeWhile innB).length ≤ 16 then .inr (⟨if smlB c then 1 else 2, ⟨(l.takeWhile innB).toArray⟩, 0, 0⟩, l.dropWhile innB) else .inl 2
    else if digB c then
      if numL 0 (l.takeWhile digB) ≤ 1073741824 then .inr (⟨3, ⟨#[]⟩, (numL 0 (l.takeWhile digB) : Nat), 0⟩, l.dropWhile digB) else .inl 2
    else if c == 45 && digB (r.headD 0) then
      if numL 0 (r.takeWhile digB) ≤ 1073741824 then .inr (⟨3, ⟨#[]⟩, -((numL 0 (r.takeWhile digB) : Nat) : Int), 0⟩, r.dropWhile digB) else .inl 2
    else if 2 ≤ l.length ∧ l.take 2 ∈ marks2 then .inr (⟨4, ⟨(l.take 2).toArray⟩, 0, 0⟩, l.drop 2)
    else if l.take 1 ∈ marks1 then .inr (⟨4, ⟨(l.take 1).toArray⟩, 0, 0⟩, r)
    else .inl 4

theorem dropWhile_le (p : UInt8 → Bool) (l : List UInt8) : (l.dropWhile p).length ≤ l.length := by
  induction l with
  | nil => simp
  | cons c r ih => rw [List.dropWhile_cons]; split <;> simp <;> omega

theorem tokL_lt {l : List UInt8} {t : Tok} {r : List UInt8} (h : tokL l = .inr (t, r)) : r.length < l.length := by
  cases l with
  | nil => simp [tokL] at h
  | cons c s =>
    simp only [tokL] at h
    have hin : ∀ c, (smlB c || grtB c) = true → innB c = true := fun c h => by simp only [innB]; rw [h]; rfl
    split at h
    · rename_i hc
      split at h
      · cases h
        rw [List.dropWhile_cons_of_pos (hin c hc)]
        have := dropWhile_le innB s
        simp; omega
      · cases h
    · split at h
      · rename_i hd
        split at h
        · cases h
          rw [List.dropWhile_cons_of_pos hd]
          have := dropWhile_le digB s
          simp; omega
        · cases h
      · split at h
        · split at h
          · cases h
            have := dropWhile_le digB s
            simp; omega
          · cases h
        · split at h
          · rename_i h2
            cases h
            simp; have := h2.1; simp at this; omega
          · split at h
            · cases h; simp
            · cases h

/-- all words of what is left of a text of so many bytes; or where, and which, the first fault is -/
def toksL (n : Nat) (l : List UInt8) : Sum (Int × Int) (List Tok) :=
  match _hp : passL false l with
  | [] => .inr [⟨5, ⟨#[]⟩, 0, (n : Nat)⟩]
  | c :: r =>
    match _ht : tokL (c :: r) with
    | .inl e => .inl (((n - (c :: r).length : Nat) : Int), e)
    | .inr (t, s) =>
      match toksL n s with
      | .inl e => .inl e
      | .inr ts => .inr ({ t with at_ := ((n - (c :: r).length : Nat) : Int) } :: ts)
termination_by l.length
decreasing_by
  have h1 := tokL_lt _ht
  have h2 := passL_le l false
  rw [_hp] at h2
  omega

theorem toksL_nil {n : Nat} {l : List UInt8} (h : passL false l = []) : toksL n l = .inr [⟨5, ⟨#[]⟩, 0, (n : Nat)⟩] := by
  rw [toksL]
  split
  · rfl
  · rename_i h2; rw [h] at h2; cases h2
theorem toksL_bad {n : Nat} {l : List UInt8} {c : UInt8} {r : List UInt8} {e : Int} (h : passL false l = c :: r) (ht : tokL (c :: r) = .inl e) : toksL n l = .inl (((n - (c :: r).length : Nat) : Int), e) := by
  rw [toksL]
  split
  · rename_i h2; rw [h] at h2; cases h2
  · rename_i c' r' h2
    rw [h] at h2
    cases h2
    split
    · rename_i e' h3; rw [ht] at h3; cases h3; rfl
    · rename_i h3; rw [ht] at h3; cases h3
theorem toksL_go {n : Nat} {l : List UInt8} {c : UInt8} {r : List UInt8} {t : Tok} {s : List UInt8} (h : passL false l = c :: r) (ht : tokL (c :: r) = .inr (t, s)) :
    toksL n l = match toksL n s with | .inl e => .inl e | .inr ts => .inr ({ t with at_ := ((n - (c :: r).length : Nat) : Int) } :: ts) := by
  rw [toksL]
  split
  · rename_i h2; rw [h] at h2; cases h2
  · rename_i c' r' h2
    rw [h] at h2
    cases h2
    split
    · rename_i e' h3; rw [ht] at h3; cases h3
    · rename_i t' s' h3; rw [ht] at h3; cases h3; rfl
theorem passL_twice (l : List UInt8) : ∀ b, passL false (passL b l) = passL b l := by
  induction l with
  | nil => intro b; cases b <;> rfl
  | cons c r ih =>
    intro b
    cases b
    · simp only [passL]
      split
      · exact ih false
      · split
        · exact ih true
        · rename_i h1 h2; simp only [passL, h1, h2]; rfl
    · simp only [passL]
      split
      · exact ih false
      · exact ih true
theorem toksL_pass (n : Nat) (l : List UInt8) : toksL n (passL false l) = toksL n l := by
  have h := passL_twice l false
  match hp : passL false l with
  | [] => rw [hp] at h; rw [toksL_nil h, toksL_nil hp]
  | c :: r =>
    rw [hp] at h
    match ht : tokL (c :: r) with
    | .inl e => rw [toksL_bad h ht, toksL_bad hp ht]
    | .inr (t, s) => rw [toksL_go h ht, toksL_go hp ht]

/-- what a call tells: the words, where the fault is, and which -/
def lexT (s : ByteArray) : List Tok := if 4000 < s.size then [] else match toksL s.size s.data.toList with | .inl _ => [] | .inr ts => ts
def lexA (s : ByteArray) : Int := if 4000 < s.size then 0 else match toksL s.size s.data.toList with | .inl (a, _) => a | .inr _ => 0
def lexE (s : ByteArray) : Int := if 4000 < s.size then 2 else match toksL s.size s.data.toList with | .inl (_, e) => e | .inr _ => 0
end Go.Proofs.YtagkimcbllpnkaaDoor
