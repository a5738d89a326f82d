/- Joined: Pap, Paq, Pam, Pgb. -/
import Derived.Test.YtbjghkmjnhmlfaaGreatDoorYD
import Derived.Test.YtbjghkmjnhmlfaaGreatDoorYB
import Derived.Test.YtbjghkmjnhmlfaaGreatDoorYA

/- What a row of words is, as plain data (pure): terms, patterns, items; or where, and which, the first fault is. -/
namespace Go.Proofs.YtbjghkmjnhmlfaaGreatDoor

/-! a word's role -/
def txt (l : List UInt8) : ByteArray := ⟨l.toArray⟩
def roleTexts : List (List UInt8) := [[40], [41], [44], [46], [59], [38], [124], [64], [92, 43], [58, 45], [60, 45], [60], [61, 60], [61], [92, 61],
  [107, 110, 111, 119, 110], [117, 110, 107, 110, 111, 119, 110], [114, 101, 99, 101, 110, 116], [102, 105, 114, 115, 116], [119, 105, 116, 104, 105, 110], [119, 104, 101, 114, 101],
  [98, 101, 102, 111, 114, 101], [109, 101, 101, 116, 115], [111, 118, 101, 114, 108, 97, 112, 115], [115, 116, 97, 114, 116, 115], [100, 117, 114, 105, 110, 103], [101, 110, 100, 115], [101, 113, 117, 97, 108], [101, 110, 100, 101, 100], [104, 111, 108, 100, 115], [115, 116, 97, 114, 116, 101, 100], [111, 118, 101, 114, 108, 97, 112, 112, 101, 100], [109, 101, 116], [97, 102, 116, 101, 114]]
/-- which of the first k texts it is -/
def plr : Nat → List UInt8 → Option Nat
  | 0, _ => none
  | k + 1, l => if roleTexts[k]? = some l then some k else plr k l
theorem plr_some : ∀ {k : Nat} {l : List UInt8} {i : Nat}, plr k l = some i → i < k ∧ roleTexts[i]? = some l
  | 0, _, _, h => by cases h
  | k + 1, l, i, h => by
    rw [plr] at h
    split at h
    · rename_i hc; cases h; exact ⟨by omega, hc⟩
    · obtain ⟨h1, h2⟩ := plr_some h; exact ⟨by omega, h2⟩
theorem plr_none : ∀ {k : Nat} {l : List UInt8}, plr k l = none → ∀ i, i < k → roleTexts[i]? ≠ some l
  | 0, _, _, i, hi => by omega
  | k + 1, l, h, i, hi => by
    rw [plr] at h
    split at h
    · cases h
    · rename_i hc
      by_cases e : i = k
      · rw [e]; exact hc
      · exact plr_none h i (by omega)
/-- 0 the end, 1 a variable, 2 a number, 3 a name, from 4 on what has a text of its own -/
def roleN (t : Tok) : Nat :=
  if t.kind = 5 then 0 else if t.kind = 2 then 1 else if t.kind = 3 then 2
  else match plr 34 t.text.data.toList with
    | some i => 4 + i
    | none => 3
def isName (r : Nat) : Bool := r == 3 || decide (19 ≤ r)
def isOp (r : Nat) : Bool := decide (15 ≤ r) && decide (r ≤ 18)

structure Pt where
  kind : Int
  tm : Tm
  rel : Int
  l : List Pt
  r : List Pt
  c : List Pt
structure Gd where
  kind : Int
  l : Tm
  r : Tm
structure Rl where
  head : Tm
  body : Pt
  guards : List Gd
  within : Int
  policy : Int
structure Cl where
  head : Tm
  body : List Tm
  guards : List Gd
structure Pr where
  clauses : List Cl
  rules : List Rl

def noTm : Tm := ⟨0, .empty, 0, []⟩
def noPt : Pt := ⟨0, noTm, 0, [], [], []⟩
def endT : Tok := ⟨5, .empty, 0, 0⟩

section
variable (T : List Tok)
def tk (i : Nat) : Tok := T.getD i endT
def rl (i : Nat) : Nat := roleN (tk T i)
abbrev Rs (α : Type) := Except (Int × Int) (α × Nat)
def bad (i : Nat) : Int × Int := ((tk T i).at_, 4)
def lim (i : Nat) : Int × Int := ((tk T i).at_, 2)

/-! terms: k is how many brackets more may be opened -/
def argsP (f : Nat → Rs Tm) : Nat → List Tm → Nat → Rs (List Tm)
  | 0, _, i => .error (bad T i)
  | n + 1, acc, i => match f i with
    | .error e => .error e
    | .ok (t, j) => if rl T j = 6 then argsP f n (acc ++ [t]) (j + 1) else if rl T j = 5 then .ok (acc ++ [t], j + 1) else .error (bad T j)
def headP (g : ByteArray → Nat → Rs Tm) (i : Nat) : Rs Tm :=
  if rl T i = 1 then .ok (⟨1, (tk T i).text, 0, []⟩, i + 1)
  else if rl T i = 2 then .ok (⟨2, .empty, (tk T i).n, []⟩, i + 1)
  else if isName (rl T i) then (if rl T (i + 1) = 4 then g (tk T i).text (i + 1) else .ok (⟨3, (tk T i).text, 0, []⟩, i + 1))
  else .error (bad T i)
def anyP : Nat → Nat → Rs Tm
  | 0 => headP T (fun _ i => .error (lim T i))
  | k + 1 => headP T (fun s i => match argsP T (anyP k) (T.length - i) [] (i + 1) with
    | .error e => .error e
    | .ok (l, j) => .ok (⟨3, s, 0, l⟩, j))
def termP (k i : Nat) : Rs Tm := match anyP T k i with
  | .error e => .error e
  | .ok (t, j) => if mayB t then .ok (t, j) else .error (lim T i)

/-! patterns -/
def chainP (sign : Nat) (kind : Int) (part : Nat → Rs Pt) : Nat → Pt → Nat → Rs Pt
  | 0, p, i => .ok (p, i)
  | n + 1, p, i => if rl T i = sign then
      match part (i + 1) with
      | .error e => .error e
      | .ok (q, j) => chainP sign kind part n ⟨kind, noTm, 0, [p], [q], []⟩ j
    else .ok (p, i)
def chain (sign : Nat) (kind : Int) (part : Nat → Rs Pt) (i : Nat) : Rs Pt := match part i with
  | .error e => .error e
  | .ok (p, j) => chainP T sign kind part (T.length - j) p j
def oneP (k : Nat) (br : Nat → Rs Pt) (i : Nat) : Rs Pt :=
  if rl T i = 4 then br i else match termP T k i with
    | .error e => .error e
    | .ok (t, j) => .ok (⟨1, t, 0, [], [], []⟩, j)
/-- what is behind a ;  -/
def gapP (k : Nat) (br : Nat → Rs Pt) (p : Pt) (i : Nat) : Rs Pt :=
  if rl T i = 12 then
    match br (i + 1) with
    | .error e => .error e
    | .ok (c, j) => if rl T j = 8 then
        match oneP T k br (j + 1) with
        | .error e => .error e
        | .ok (q, m) => .ok (⟨5, noTm, 0, [p], [q], [c]⟩, m)
      else .error (bad T j)
  else match oneP T k br i with
    | .error e => .error e
    | .ok (q, m) => .ok (⟨2, noTm, 0, [p], [q], []⟩, m)
def rowL (k : Nat) (br : Nat → Rs Pt) : Nat → Pt → Nat → Rs Pt
  | 0, p, i => .ok (p, i)
  | n + 1, p, i => if rl T i = 8 then
      match gapP T k br p (i + 1) with
      | .error e => .error e
      | .ok (q, j) => rowL k br n q j
    else .ok (p, i)
def rowP (k : Nat) (br : Nat → Rs Pt) (i : Nat) : Rs Pt := match oneP T k br i with
  | .error e => .error e
  | .ok (p, j) => rowL T k br (T.length - j) p j
def pairP (k : Nat) (br : Nat → Rs Pt) (i : Nat) : Rs Pt := match rowP T k br i with
  | .error e => .error e
  | .ok (p, j) => if rl T j = 11 then
      if 25 ≤ rl T (j + 1) then
        match rowP T k br (j + 2) with
        | .error e => .error e
        | .ok (q, m) => .ok (⟨6, noTm, (rl T (j + 1) : Nat) - 24, [p], [q], []⟩, m)
      else .error (bad T (j + 1))
    else .ok (p, j)
def patF (k : Nat) (br : Nat → Rs Pt) : Nat → Rs Pt := chain T 10 4 (chain T 9 3 (pairP T k br))
def brF (p : Nat → Rs Pt) (i : Nat) : Rs Pt :=
  if rl T i = 4 then
    match p (i + 1) with
    | .error e => .error e
    | .ok (q, j) => if rl T j = 5 then .ok (q, j + 1) else .error (bad T j)
  else .error (bad T i)
def patP : Nat → Nat → Rs Pt
  | 0 => patF T 0 (fun i => .error (if rl T i = 4 then lim T i else bad T i))
  | k + 1 => patF T (k + 1) (brF T (patP k))
def brP : Nat → Nat → Rs Pt
  | 0 => fun i => .error (if rl T i = 4 then lim T i else bad T i)
  | k + 1 => brF T (patP T k)
theorem patP_eq (k : Nat) : patP T k = patF T k (brP T k) := by cases k <;> rfl

/-! items -/
mutual
def Pt.parts : Pt → Int
  | ⟨kind, _, _, l, r, c⟩ => if kind = 1 then 1 else partsL l + partsL r + partsL c
def partsL : List Pt → Int
  | [] => 0
  | p :: ps => p.parts + partsL ps
end
mutual
def Pt.deep : Pt → Int
  | ⟨_, _, _, l, r, c⟩ => max (max (deepL l) (deepL r)) (deepL c) + 1
def deepL : List Pt → Int
  | [] => 0
  | p :: ps => max p.deep (deepL ps)
end
def muchB (p : Pt) : Bool := decide (12 < p.parts) || decide (8 < p.deep)

def opP (gs : List Gd) (t : Tm) (from_ i : Nat) : Rs (List Gd) :=
  match termP T 100 (i + 1) with
  | .error e => .error e
  | .ok (u, j) => if gs.length = 4 then .error (lim T from_) else .ok (gs ++ [⟨(rl T i : Nat) - 14, t, u⟩], j)
def guardP (gs : List Gd) (i : Nat) : Rs (List Gd) :=
  if (rl T i = 19 ∨ rl T i = 20) ∧ isName (rl T (i + 1)) = true then
    match termP T 100 (i + 1) with
    | .error e => .error e
    | .ok (t, j) => if gs.length = 4 then .error (lim T i) else .ok (gs ++ [⟨(rl T i : Nat) - 14, t, noTm⟩], j)
  else match termP T 100 i with
    | .error e => .error e
    | .ok (t, j) => if isOp (rl T j) then opP T gs t i j else .error (bad T j)
/-- guards, then perhaps a policy -/
def whereP : Nat → List Gd → Nat → Rs (List Gd × Int)
  | 0, _, i => .error (bad T i)
  | n + 1, gs, i =>
    if 0 < gs.length ∧ (rl T i = 21 ∨ rl T i = 22) ∧ rl T (i + 1) = 7 then .ok ((gs, (rl T i : Nat) - 20), i + 1)
    else match guardP T gs i with
      | .error e => .error e
      | .ok (hs, j) => if rl T j = 6 then whereP n hs (j + 1) else .ok ((hs, 0), j)
def condP (i : Nat) : Rs (List Gd × Int) :=
  if rl T i = 6 then
    if rl T (i + 1) = 24 then whereP T (T.length - i) [] (i + 2)
    else if rl T (i + 1) = 21 ∨ rl T (i + 1) = 22 then .ok (([], (rl T (i + 1) : Nat) - 20), i + 2) else .error (bad T (i + 1))
  else .ok (([], 0), i)
def ruleP (head : Tm) (i : Nat) : Rs Rl :=
  match patP T 100 i with
  | .error e => .error e
  | .ok (p, j) =>
    if rl T j = 6 then
      if rl T (j + 1) = 23 then
        if rl T (j + 2) = 2 then
          match condP T (j + 3) with
          | .error e => .error e
          | .ok ((gs, pol), m) => if rl T m = 7 then (if muchB p then .error (lim T i) else .ok (⟨head, p, gs, (tk T (j + 2)).n, pol⟩, m + 1)) else .error (bad T m)
        else .error (bad T (j + 2))
      else .error (bad T (j + 1))
    else .error (bad T j)
def partP (c : Cl) (i : Nat) : Rs Cl :=
  match termP T 100 i with
  | .error e => .error e
  | .ok (t, j) =>
    if isOp (rl T j) then
      match opP T c.guards t i j with
      | .error e => .error e
      | .ok (gs, m) => .ok (⟨c.head, c.body, gs⟩, m)
    else if c.body.length = 3 then .error (lim T i) else .ok (⟨c.head, c.body ++ [t], c.guards⟩, j)
def partsP : Nat → Cl → Nat → Rs Cl
  | 0, _, i => .error (bad T i)
  | n + 1, c, i => match partP T c i with
    | .error e => .error e
    | .ok (d, j) => if rl T j = 6 then partsP n d (j + 1) else if rl T j = 7 then .ok (d, j + 1) else .error (bad T j)
def clauseP (head : Tm) (i : Nat) : Rs Cl :=
  if rl T i = 13 then partsP T (T.length - i) ⟨head, [], []⟩ (i + 1)
  else if rl T i = 7 then .ok (⟨head, [], []⟩, i + 1) else .error (bad T i)
def itemP (p : Pr) (i : Nat) : Rs Pr :=
  match termP T 100 i with
  | .error e => .error e
  | .ok (t, j) =>
    if rl T j = 14 then
      match ruleP T t (j + 1) with
      | .error e => .error e
      | .ok (x, m) => if p.rules.length = 20 then .error (lim T i) else .ok (⟨p.clauses, p.rules ++ [x]⟩, m)
    else match clauseP T t j with
      | .error e => .error e
      | .ok (x, m) => if p.clauses.length = 30 then .error (lim T i) else .ok (⟨p.clauses ++ [x], p.rules⟩, m)
def itemsP : Nat → Pr → Nat → Rs Pr
  | 0, _, i => .error (bad T i)
  | n + 1, p, i => if rl T i = 0 then .ok (p, i) else match itemP T p i with
    | .error e => .error e
    | .ok (q, j) => itemsP n q j
end

/-! whole texts -/
def wholeT (T : List Tok) : Except (Int × Int) Tm := match termP T 100 0 with
  | .error e => .error e
  | .ok (t, j) => if rl T j = 0 then .ok t else .error (bad T j)
def wholeG (T : List Tok) : Except (Int × Int) Pr := match itemsP T T.length ⟨[], []⟩ 0 with
  | .error e => .error e
  | .ok (p, _) => .ok p
end Go.Proofs.YtbjghkmjnhmlfaaGreatDoor

/- What a row of words is: each part takes at least one word, and never the end (pure). -/
namespace Go.Proofs.YtbjghkmjnhmlfaaGreatDoor

/-- the end stands last, and nowhere else -/
def EndLast (T : List Tok) : Prop := 0 < T.length ∧ ∀ i, rl T i ≠ 0 → i + 1 < T.length

theorem rl_end (T : List Tok) {i : Nat} (h : T.length ≤ i) : rl T i = 0 := by
  unfold rl tk
  rw [List.getD_eq_getElem?_getD, List.getElem?_eq_none h]
  rfl
theorem tk_at (T : List Tok) {i : Nat} (h : i < T.length) : tk T i = T[i] := by
  unfold tk; rw [List.getD_eq_getElem?_getD, List.getElem?_eq_getElem h]; rfl

section
variable {T : List Tok} (hT : EndLast T)
include hT

/-- a part that succeeds takes at least one word -/
def Takes (T : List Tok) {α : Type} (f : Nat → Rs α) : Prop := ∀ i x j, f i = .ok (x, j) → i < j ∧ j < T.length

theorem EndLast.next {i : Nat} (r : Nat) (h : rl T i = r) (h0 : r ≠ 0) : i + 1 < T.length := hT.2 i (by rw [h]; exact h0)
theorem argsP_takes {f : Nat → Rs Tm} (hf : Takes T f) : ∀ n acc i x j, argsP T f n acc i = .ok (x, j) → i < j ∧ j < T.length := by
  intro n
  induction n with
  | zero => intro acc i x j h; simp [argsP] at h
  | succ n ih =>
    intro acc i x j h
    simp only [argsP] at h
    match hfi : f i with
    | .error e => rw [hfi] at h; cases h
    | .ok (t, m) =>
      rw [hfi] at h
      have h1 := hf i t m hfi
      simp only at h
      by_cases h6 : rl T m = 6
      · rw [if_pos h6] at h
        have := ih _ _ _ _ h
        omega
      · rw [if_neg h6] at h
        by_cases h5 : rl T m = 5
        · rw [if_pos h5] at h
          cases h
          have := hT.next 5 h5 (by omega)
          omega
        · rw [if_neg h5] at h; cases h
omit hT in
theorem argsP_len {f : Nat → Rs Tm} (hf : Takes T f) : ∀ n acc i ts j, argsP T f n acc i = .ok (ts, j) → ts.length + i ≤ acc.length + j := by
  intro n
  induction n with
  | zero => intro acc i x j h; simp [argsP] at h
  | succ n ih =>
    intro acc i x j h
    simp only [argsP] at h
    match hfi : f i with
    | .error e => rw [hfi] at h; cases h
    | .ok (t, m) =>
      rw [hfi] at h
      have h1 := hf i t m hfi
      simp only at h
      by_cases h6 : rl T m = 6
      · rw [if_pos h6] at h
        have := ih _ _ _ _ h
        simp at this
        omega
      · rw [if_neg h6] at h
        by_cases h5 : rl T m = 5
        · rw [if_pos h5] at h
          cases h
          simp
          omega
        · rw [if_neg h5] at h; cases h
theorem headP_takes {g : ByteArray → Nat → Rs Tm} (hg : ∀ s i x j, g s i = .ok (x, j) → i < j ∧ j < T.length) : Takes T (headP T g) := by
  intro i x j h
  unfold headP at h
  by_cases h1 : rl T i = 1
  · rw [if_pos h1] at h; cases h; have := hT.next 1 h1 (by omega); omega
  · rw [if_neg h1] at h
    by_cases h2 : rl T i = 2
    · rw [if_pos h2] at h; cases h; have := hT.next 2 h2 (by omega); omega
    · rw [if_neg h2] at h
      by_cases h3 : isName (rl T i) = true
      · rw [if_pos h3] at h
        have h30 : rl T i ≠ 0 := by intro e; rw [e] at h3; revert h3; decide
        have := hT.2 i h30
        by_cases h4 : rl T (i + 1) = 4
        · rw [if_pos h4] at h
          have := hg _ _ _ _ h
          omega
        · rw [if_neg h4] at h; cases h; omega
      · rw [if_neg h3] at h; cases h
theorem anyP_takes : ∀ k, Takes T (anyP T k) := by
  intro k
  induction k with
  | zero => exact headP_takes hT (fun s i x j h => by cases h)
  | succ k ih =>
    refine headP_takes hT (fun s i x j h => ?_)
    match ha : argsP T (anyP T k) (T.length - i) [] (i + 1) with
    | .error e => rw [ha] at h; cases h
    | .ok (l, m) =>
      rw [ha] at h
      cases h
      have := argsP_takes hT ih _ _ _ _ _ ha
      omega
theorem termP_takes (k : Nat) : Takes T (termP T k) := by
  intro i x j h
  unfold termP at h
  match ha : anyP T k i with
  | .error e => rw [ha] at h; cases h
  | .ok (t, m) =>
    rw [ha] at h
    simp only at h
    split at h
    · cases h; exact anyP_takes hT k i _ _ ha
    · cases h
omit hT in
theorem chainP_takes {sign : Nat} {kind : Int} {part : Nat → Rs Pt} (hf : Takes T part) : ∀ n p i x j, i < T.length → chainP T sign kind part n p i = .ok (x, j) → i ≤ j ∧ j < T.length := by
  intro n
  induction n with
  | zero => intro p i x j hi h; simp only [chainP] at h; cases h; omega
  | succ n ih =>
    intro p i x j hi h
    simp only [chainP] at h
    split at h
    · match hf1 : part (i + 1) with
      | .error e => rw [hf1] at h; cases h
      | .ok (q, m) =>
        rw [hf1] at h
        have h1 := hf _ _ _ hf1
        have := ih _ _ _ _ h1.2 h
        omega
    · cases h; omega
omit hT in
theorem chain_takes {sign : Nat} {kind : Int} {part : Nat → Rs Pt} (hf : Takes T part) : Takes T (chain T sign kind part) := by
  intro i x j h
  unfold chain at h
  match hp : part i with
  | .error e => rw [hp] at h; cases h
  | .ok (p, m) =>
    rw [hp] at h
    have h1 := hf _ _ _ hp
    have := chainP_takes hf _ _ _ _ _ h1.2 h
    omega
theorem oneP_takes (k : Nat) {br : Nat → Rs Pt} (hb : Takes T br) : Takes T (oneP T k br) := by
  intro i x j h
  unfold oneP at h
  split at h
  · exact hb _ _ _ h
  · match ht : termP T k i with
    | .error e => rw [ht] at h; cases h
    | .ok (t, m) => rw [ht] at h; cases h; exact termP_takes hT k _ _ _ ht
theorem gapP_takes (k : Nat) {br : Nat → Rs Pt} (hb : Takes T br) (p : Pt) : Takes T (gapP T k br p) := by
  intro i x j h
  unfold gapP at h
  split at h
  · match h1 : br (i + 1) with
    | .error e => rw [h1] at h; cases h
    | .ok (c, m) =>
      rw [h1] at h
      simp only at h
      split at h
      · match h2 : oneP T k br (m + 1) with
        | .error e => rw [h2] at h; cases h
        | .ok (q, l) =>
          rw [h2] at h; cases h
          have := hb _ _ _ h1
          have := oneP_takes hT k hb _ _ _ h2
          omega
      · cases h
  · match h2 : oneP T k br i with
    | .error e => rw [h2] at h; cases h
    | .ok (q, l) => rw [h2] at h; cases h; exact oneP_takes hT k hb _ _ _ h2
theorem rowL_takes (k : Nat) {br : Nat → Rs Pt} (hb : Takes T br) : ∀ n p i x j, i < T.length → rowL T k br n p i = .ok (x, j) → i ≤ j ∧ j < T.length := by
  intro n
  induction n with
  | zero => intro p i x j hi h; simp only [rowL] at h; cases h; omega
  | succ n ih =>
    intro p i x j hi h
    simp only [rowL] at h
    split at h
    · match hf1 : gapP T k br p (i + 1) with
      | .error e => rw [hf1] at h; cases h
      | .ok (q, m) =>
        rw [hf1] at h
        have h1 := gapP_takes hT k hb p _ _ _ hf1
        have := ih _ _ _ _ h1.2 h
        omega
    · cases h; omega
theorem rowP_takes (k : Nat) {br : Nat → Rs Pt} (hb : Takes T br) : Takes T (rowP T k br) := by
  intro i x j h
  unfold rowP at h
  match hp : oneP T k br i with
  | .error e => rw [hp] at h; cases h
  | .ok (p, m) =>
    rw [hp] at h
    have h1 := oneP_takes hT k hb _ _ _ hp
    have := rowL_takes hT k hb _ _ _ _ _ h1.2 h
    omega
theorem pairP_takes (k : Nat) {br : Nat → Rs Pt} (hb : Takes T br) : Takes T (pairP T k br) := by
  intro i x j h
  unfold pairP at h
  match hp : rowP T k br i with
  | .error e => rw [hp] at h; cases h
  | .ok (p, m) =>
    rw [hp] at h
    have h1 := rowP_takes hT k hb _ _ _ hp
    simp only at h
    split at h
    · split at h
      · match h2 : rowP T k br (m + 2) with
        | .error e => rw [h2] at h; cases h
        | .ok (q, l) =>
          rw [h2] at h; cases h
          have := rowP_takes hT k hb _ _ _ h2
          omega
      · cases h
    · cases h; exact h1
theorem patF_takes (k : Nat) {br : Nat → Rs Pt} (hb : Takes T br) : Takes T (patF T k br) := chain_takes (chain_takes (pairP_takes hT k hb))
theorem brF_takes {p : Nat → Rs Pt} (hp : Takes T p) : Takes T (brF T p) := by
  intro i x j h
  unfold brF at h
  split at h
  · match h2 : p (i + 1) with
    | .error e => rw [h2] at h; cases h
    | .ok (q, m) =>
      rw [h2] at h
      have := hp _ _ _ h2
      simp only at h
      split at h
      · rename_i h5
        cases h
        have := hT.next 5 h5 (by omega)
        omega
      · cases h
  · cases h
theorem patP_takes : ∀ k, Takes T (patP T k) := by
  intro k
  induction k with
  | zero => exact patF_takes hT 0 (fun i x j h => by cases h)
  | succ k ih => exact patF_takes hT (k + 1) (brF_takes hT ih)
theorem brP_takes : ∀ k, Takes T (brP T k) := by
  intro k
  cases k with
  | zero => exact fun i x j h => by cases h
  | succ k => exact brF_takes hT (patP_takes hT k)
end
end Go.Proofs.YtbjghkmjnhmlfaaGreatDoor

/- Terms and patterns that lie in blocks of F: what is written elsewhere turns none of them. -/
namespace Go.Proofs.YtbjghkmjnhmlfaaGreatDoor
open Go.RowKit

/-- a term whose rows lie in blocks of F -/
inductive TmIn (w : World) (F : Nat → Prop) : Tm → Option Addr → Nat → Prop
  | mk (t : Tm) (A : Option Addr) (c : Nat) (g : Nat → Option Addr) (d : Nat → Nat) (fits : t.Fits) (cap : t.args.length ≤ c) (row : RowAt w t.args A g d)
      (inF : ∀ b o, A = some ⟨b, o, none⟩ → 0 < t.args.length → F b) (sub : ∀ i (h : i < t.args.length), TmIn w F t.args[i] (g i) (d i)) : TmIn w F t A c

theorem TmIn.at_ {w : World} {F : Nat → Prop} {t : Tm} {A : Option Addr} {c : Nat} (h : TmIn w F t A c) : TmAt w t A c := by
  induction h with
  | mk t A c g d fits cap row inF sub ih => exact .mk t A c g d fits cap row ih
/-- what of F is as it was, turns no term -/
theorem TmIn.keep {w w' : World} {F F' : Nat → Prop} {t : Tm} {A : Option Addr} {c : Nat} (h : TmIn w F t A c) (k : ∀ b, F b → b < w.heap.size → w'.heap[b]? = w.heap[b]? ∧ F' b) : TmIn w' F' t A c := by
  induction h with
  | mk t A c g d fits cap row inF sub ih =>
    refine .mk t A c g d fits cap (fun i hi => ?_) (fun b o e hl => ?_) ih
    · obtain ⟨b, o, e, h0, h1, h2, h3⟩ := row i hi
      have hb := (k b (inF b o e (by omega)) (World.block_lt_of_cell? w _ h0)).1
      exact ⟨b, o, e, (World.cell?_of_block (w := w) hb).trans h0, (World.cell?_of_block (w := w) hb).trans h1, (World.cell?_of_block (w := w) hb).trans h2, (World.cell?_of_block (w := w) hb).trans h3⟩
    · obtain ⟨b', o', e', h0, _⟩ := row 0 hl
      have eb : b' = b := by rw [e] at e'; injection e' with e'; injection e' with e1 e2; exact e1.symm
      subst eb
      exact (k b' (inF b' o e hl) (World.block_lt_of_cell? w _ h0)).2
theorem TmIn.leaf {w : World} {F : Nat → Prop} {t : Tm} (c : Nat) (h : t.Fits) (ha : t.args = []) : TmIn w F t none c := by
  refine .mk t none c (fun _ => none) (fun _ => 0) h (by rw [ha]; exact Nat.zero_le _) (fun i hi => ?_) (fun b o e => by cases e) (fun i hi => ?_)
  · rw [ha] at hi; exact absurd hi (by simp)
  · rw [ha] at hi; exact absurd hi (by simp)
theorem noTm_fits : noTm.Fits := ⟨by decide, by decide, by decide, by decide⟩
theorem noTm_in (w : World) (F : Nat → Prop) (c : Nat) : TmIn w F noTm none c := .leaf c noTm_fits rfl

/-- what is outside of F is new -/
def New (w w' : World) (b : Nat) : Prop := w.heap.size ≤ b ∧ b < w'.heap.size
theorem TmIn.step {w0 w w' : World} {t : Tm} {A : Option Addr} {c : Nat} (h : TmIn w (New w0 w) t A c) (k : ∀ b, w0.heap.size ≤ b → b < w.heap.size → w'.heap[b]? = w.heap[b]?) (hs : w.heap.size ≤ w'.heap.size) : TmIn w' (New w0 w') t A c :=
  h.keep fun b hb _ => ⟨k b hb.1 hb.2, hb.1, by have := hb.2; omega⟩
theorem TmIn.back {w0 w1 w : World} {t : Tm} {A : Option Addr} {c : Nat} (h : TmIn w (New w1 w) t A c) (hs : w0.heap.size ≤ w1.heap.size) : TmIn w (New w0 w) t A c :=
  h.keep fun b hb _ => ⟨rfl, by have := hb.1; omega, hb.2⟩
/-- block g alone is turned, and it is older -/
theorem TmIn.chg {w0 w w' : World} {g : Nat} {t : Tm} {A : Option Addr} {c : Nat} (h : TmIn w (New w0 w) t A c) (k : Chg (· = g) w w') (hg : g < w0.heap.size) : TmIn w' (New w0 w') t A c :=
  h.step (fun b h1 h2 => k.block b h2 (by omega)) k.size

/-! patterns -/
structure PtFits (p : Pt) : Prop where
  kind : (Lit.int .i64 p.kind).wf = true
  rel : (Lit.int .i64 p.rel).wf = true
  l : p.l.length ≤ 1
  r : p.r.length ≤ 1
  c : p.c.length ≤ 1

/-- where a pattern's lists, and its term's arguments, lie -/
structure PtPl where
  A : Option Addr
  ac : Nat
  L : Option Addr
  lc : Nat
  R : Option Addr
  rc : Nat
  C : Option Addr
  cc : Nat
abbrev Pt.cells (p : Pt) (a : PtPl) : List Value := [.int .i64 p.kind, .int .i64 p.tm.kind, .string p.tm.name, .int .i64 p.tm.n, .slice a.A p.tm.args.length a.ac, .int .i64 p.rel, .slice a.L p.l.length a.lc, .slice a.R p.r.length a.rc, .slice a.C p.c.length a.cc]
abbrev Pt.val (p : Pt) (a : PtPl) : Value := .agg #[.int .i64 p.kind, .int .i64 p.tm.kind, .string p.tm.name, .int .i64 p.tm.n, .slice a.A p.tm.args.length a.ac, .int .i64 p.rel, .slice a.L p.l.length a.lc, .slice a.R p.r.length a.rc, .slice a.C p.c.length a.cc]

/-- from L on lie the nine cells of each pattern -/
def PRow (w : World) (F : Nat → Prop) (ps : List Pt) (L : Option Addr) (g : Nat → PtPl) : Prop :=
  ∀ i (h : i < ps.length), ∃ b, L = some ⟨b, 0, none⟩ ∧ F b ∧ ∀ j (hj : j < 9), w.cell? ⟨b, i * 9 + j, none⟩ = some ((ps[i].cells (g i))[j]'hj)
inductive PtIn (w : World) (F : Nat → Prop) : Pt → PtPl → Prop
  | mk (p : Pt) (a : PtPl) (gl gr gc : Nat → PtPl) (fits : PtFits p) (cap : p.l.length ≤ a.lc ∧ p.r.length ≤ a.rc ∧ p.c.length ≤ a.cc) (tm : TmIn w F p.tm a.A a.ac)
      (l : PRow w F p.l a.L gl) (r : PRow w F p.r a.R gr) (c : PRow w F p.c a.C gc)
      (sl : ∀ i (h : i < p.l.length), PtIn w F p.l[i] (gl i)) (sr : ∀ i (h : i < p.r.length), PtIn w F p.r[i] (gr i)) (sc : ∀ i (h : i < p.c.length), PtIn w F p.c[i] (gc i)) : PtIn w F p a
theorem PRow.keep {w w' : World} {F F' : Nat → Prop} {ps : List Pt} {L : Option Addr} {g : Nat → PtPl} (h : PRow w F ps L g) (k : ∀ b, F b → b < w.heap.size → w'.heap[b]? = w.heap[b]? ∧ F' b) : PRow w' F' ps L g := by
  intro i hi
  obtain ⟨b, e, hF, hc⟩ := h i hi
  have hb := k b hF (World.block_lt_of_cell? w _ (hc 0 (by omega)))
  exact ⟨b, e, hb.2, fun j hj => (World.cell?_of_block (w := w) hb.1).trans (hc j hj)⟩
theorem PtIn.keep {w w' : World} {F F' : Nat → Prop} {p : Pt} {a : PtPl} (h : PtIn w F p a) (k : ∀ b, F b → b < w.heap.size → w'.heap[b]? = w.heap[b]? ∧ F' b) : PtIn w' F' p a := by
  induction h with
  | mk p a gl gr gc fits cap tm l r c sl sr sc il ir ic => exact .mk p a gl gr gc fits cap (tm.keep k) (l.keep k) (r.keep k) (c.keep k) il ir ic
theorem PtIn.step {w0 w w' : World} {p : Pt} {a : PtPl} (h : PtIn w (New w0 w) p a) (k : ∀ b, w0.heap.size ≤ b → b < w.heap.size → w'.heap[b]? = w.heap[b]?) (hs : w.heap.size ≤ w'.heap.size) : PtIn w' (New w0 w') p a :=
  h.keep fun b hb _ => ⟨k b hb.1 hb.2, hb.1, by have := hb.2; omega⟩
theorem PtIn.back {w0 w1 w : World} {p : Pt} {a : PtPl} (h : PtIn w (New w1 w) p a) (hs : w0.heap.size ≤ w1.heap.size) : PtIn w (New w0 w) p a :=
  h.keep fun b hb _ => ⟨rfl, by have := hb.1; omega, hb.2⟩
theorem PtIn.chg {w0 w w' : World} {g : Nat} {p : Pt} {a : PtPl} (h : PtIn w (New w0 w) p a) (k : Chg (· = g) w w') (hg : g < w0.heap.size) : PtIn w' (New w0 w') p a :=
  h.step (fun b h1 h2 => k.block b h2 (by omega)) k.size
theorem PtIn.fits {w : World} {F : Nat → Prop} {p : Pt} {a : PtPl} (h : PtIn w F p a) : PtFits p := by cases h; assumption
theorem PtIn.tm {w : World} {F : Nat → Prop} {p : Pt} {a : PtPl} (h : PtIn w F p a) : TmIn w F p.tm a.A a.ac := by cases h; assumption
def noPl : PtPl := ⟨none, 0, none, 0, none, 0, none, 0⟩
theorem PtIn.leaf {w : World} {F : Nat → Prop} {p : Pt} (a : PtPl) (h : PtFits p) (hl : p.l = []) (hr : p.r = []) (hc : p.c = []) (tm : TmIn w F p.tm a.A a.ac) : PtIn w F p a := by
  refine .mk p a (fun _ => noPl) (fun _ => noPl) (fun _ => noPl) h ⟨by rw [hl]; exact Nat.zero_le _, by rw [hr]; exact Nat.zero_le _, by rw [hc]; exact Nat.zero_le _⟩ tm ?_ ?_ ?_ ?_ ?_ ?_ <;> intro i hi
  · rw [hl] at hi; exact absurd hi (by simp)
  · rw [hr] at hi; exact absurd hi (by simp)
  · rw [hc] at hi; exact absurd hi (by simp)
  · rw [hl] at hi; exact absurd hi (by simp)
  · rw [hr] at hi; exact absurd hi (by simp)
  · rw [hc] at hi; exact absurd hi (by simp)
end Go.Proofs.YtbjghkmjnhmlfaaGreatDoor

/- What a row of words is: items, each part takes at least one word, and never the end (pure). -/
namespace Go.Proofs.YtbjghkmjnhmlfaaGreatDoor

section
variable {T : List Tok} (hT : EndLast T)
include hT
theorem opP_takes {gs : List Gd} {t : Tm} {fr i : Nat} {x : List Gd} {j : Nat} (h : opP T gs t fr i = .ok (x, j)) : i + 1 < j ∧ j < T.length ∧ ∃ u, x = gs ++ [⟨(rl T i : Nat) - 14, t, u⟩] := by
  unfold opP at h
  match ht : termP T 100 (i + 1) with
  | .error e => rw [ht] at h; cases h
  | .ok (u, m) =>
    rw [ht] at h
    simp only at h
    have := termP_takes hT 100 _ _ _ ht
    split at h
    · cases h
    · cases h; exact ⟨this.1, this.2, u, rfl⟩
theorem guardP_takes {gs : List Gd} {i : Nat} {x : List Gd} {j : Nat} (h : guardP T gs i = .ok (x, j)) : i < j ∧ j < T.length ∧ x.length = gs.length + 1 := by
  unfold guardP at h
  split at h
  · match ht : termP T 100 (i + 1) with
    | .error e => rw [ht] at h; cases h
    | .ok (u, m) =>
      rw [ht] at h
      simp only at h
      have := termP_takes hT 100 _ _ _ ht
      split at h
      · cases h
      · cases h; exact ⟨by omega, this.2, by simp⟩
  · match ht : termP T 100 i with
    | .error e => rw [ht] at h; cases h
    | .ok (t, m) =>
      rw [ht] at h
      simp only at h
      have h1 := termP_takes hT 100 _ _ _ ht
      split at h
      · obtain ⟨h2, h3, u, hx⟩ := opP_takes hT h
        exact ⟨by omega, h3, by rw [hx]; simp⟩
      · cases h
theorem whereP_takes : ∀ n {gs : List Gd} {i : Nat} {x : List Gd × Int} {j : Nat}, whereP T n gs i = .ok (x, j) → i < j ∧ j < T.length := by
  intro n
  induction n with
  | zero => intro gs i x j h; simp [whereP] at h
  | succ n ih =>
    intro gs i x j h
    simp only [whereP] at h
    split at h
    · rename_i hc
      cases h
      have := hT.2 i (by rcases hc.2.1 with e | e <;> omega)
      omega
    · match hg : guardP T gs i with
      | .error e => rw [hg] at h; cases h
      | .ok (hs, m) =>
        rw [hg] at h
        simp only at h
        have h1 := guardP_takes hT hg
        split at h
        · have := ih h; omega
        · cases h; exact ⟨h1.1, h1.2.1⟩
theorem condP_takes {i : Nat} {x : List Gd × Int} {j : Nat} (hi : i < T.length) (h : condP T i = .ok (x, j)) : i ≤ j ∧ j < T.length := by
  unfold condP at h
  split at h
  · split at h
    · have := whereP_takes hT _ h; omega
    · split at h
      · rename_i hc
        cases h
        have := hT.2 (i + 1) (by rcases hc with e | e <;> omega)
        omega
      · cases h
  · cases h; omega
theorem ruleP_takes {hd : Tm} {i : Nat} {x : Rl} {j : Nat} (h : ruleP T hd i = .ok (x, j)) : i < j ∧ j < T.length := by
  unfold ruleP at h
  match hp : patP T 100 i with
  | .error e => rw [hp] at h; cases h
  | .ok (p, m) =>
    rw [hp] at h
    simp only at h
    have h1 := patP_takes hT 100 _ _ _ hp
    split at h
    · split at h
      · split at h
        · rename_i h2
          have h3 := hT.next 2 h2 (by omega)
          match hc : condP T (m + 3) with
          | .error e => rw [hc] at h; cases h
          | .ok ((gs, pol), l) =>
            rw [hc] at h
            simp only at h
            have h4 := condP_takes hT h3 hc
            split at h
            · rename_i h7
              have := hT.next 7 h7 (by omega)
              split at h
              · cases h
              · cases h; omega
            · cases h
        · cases h
      · cases h
    · cases h
theorem partP_takes {c : Cl} {i : Nat} {x : Cl} {j : Nat} (h : partP T c i = .ok (x, j)) : i < j ∧ j < T.length := by
  unfold partP at h
  match ht : termP T 100 i with
  | .error e => rw [ht] at h; cases h
  | .ok (t, m) =>
    rw [ht] at h
    simp only at h
    have h1 := termP_takes hT 100 _ _ _ ht
    split at h
    · match ho : opP T c.guards t i m with
      | .error e => rw [ho] at h; cases h
      | .ok (gs, l) =>
        rw [ho] at h
        cases h
        have := opP_takes hT ho
        omega
    · split at h
      · cases h
      · cases h; exact h1
theorem partsP_takes : ∀ n {c : Cl} {i : Nat} {x : Cl} {j : Nat}, partsP T n c i = .ok (x, j) → i < j ∧ j < T.length := by
  intro n
  induction n with
  | zero => intro c i x j h; simp [partsP] at h
  | succ n ih =>
    intro c i x j h
    simp only [partsP] at h
    match hp : partP T c i with
    | .error e => rw [hp] at h; cases h
    | .ok (d, m) =>
      rw [hp] at h
      simp only at h
      have h1 := partP_takes hT hp
      split at h
      · have := ih h; omega
      · split at h
        · rename_i h7
          have := hT.next 7 h7 (by omega)
          cases h; omega
        · cases h
theorem clauseP_takes {hd : Tm} {i : Nat} {x : Cl} {j : Nat} (h : clauseP T hd i = .ok (x, j)) : i < j ∧ j < T.length := by
  unfold clauseP at h
  split at h
  · have := partsP_takes hT _ h; omega
  · split at h
    · rename_i h7
      have := hT.next 7 h7 (by omega)
      cases h; omega
    · cases h
theorem itemP_takes {p : Pr} {i : Nat} {x : Pr} {j : Nat} (h : itemP T p i = .ok (x, j)) : i < j ∧ j < T.length := by
  unfold itemP at h
  match ht : termP T 100 i with
  | .error e => rw [ht] at h; cases h
  | .ok (t, m) =>
    rw [ht] at h
    simp only at h
    have h1 := termP_takes hT 100 _ _ _ ht
    split at h
    · match hr : ruleP T t (m + 1) with
      | .error e => rw [hr] at h; cases h
      | .ok (y, l) =>
        rw [hr] at h
        simp only at h
        have := ruleP_takes hT hr
        split at h
        · cases h
        · cases h; omega
    · match hr : clauseP T t m with
      | .error e => rw [hr] at h; cases h
      | .ok (y, l) =>
        rw [hr] at h
        simp only at h
        have := clauseP_takes hT hr
        split at h
        · cases h
        · cases h; omega
end
end Go.Proofs.YtbjghkmjnhmlfaaGreatDoor
