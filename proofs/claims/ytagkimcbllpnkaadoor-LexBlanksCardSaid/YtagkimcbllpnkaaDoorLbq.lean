/- A text with blanks and remarks put between its words (pure). -/
import Derived.Test.YtagkimcbllpnkaaDoorLbp
namespace Go.Proofs.YtagkimcbllpnkaaDoor

/-- what is put behind word k -/
def blkK (k : Nat) : List UInt8 := match k % 4 with
  | 0 => [32]
  | 1 => [10]
  | 2 => [9, 32, 37, 32, 114, 101, 109, 97, 114, 107, 10]
  | _ => [13, 10, 32]
theorem blkK_cases (k : Nat) : blkK k = [32] ∨ blkK k = [10] ∨ blkK k = [9, 32, 37, 32, 114, 101, 109, 97, 114, 107, 10] ∨ blkK k = [13, 10, 32] := by
  unfold blkK
  split <;> simp
theorem blkK_pass (k : Nat) : psG false (blkK k) = some false ∧ (∀ b, passL b (blkK k) = []) ∧ ∃ c r, blkK k = c :: r ∧ blkB c = true := by
  rcases blkK_cases k with h | h | h | h <;> rw [h] <;> exact ⟨rfl, fun b => by cases b <;> rfl, _, _, rfl, rfl⟩

/-- the text anew, from word k on -/
def bld (X : List UInt8) : Nat → List Tok → List UInt8
  | k, t :: u :: r => (X.drop t.at_.toNat).take (u.at_ - t.at_).toNat ++ blkK k ++ bld X (k + 1) (u :: r)
  | _, _ => []
def z0 (t : Tok) : Tok := { t with at_ := 0 }

/-- where the words stand -/
def Rise (n : Nat) : Int → List Tok → Prop
  | _, [] => True
  | a, t :: r => a ≤ t.at_ ∧ t.at_ ≤ n ∧ Rise n t.at_ r

theorem toksL_head {n : Nat} {l : List UInt8} {u : Tok} {r : List Tok} (h : toksL n l = .inr (u :: r)) : u.at_ = ((n - (passL false l).length : Nat) : Int) := by
  match hp : passL false l with
  | [] => rw [toksL_nil hp] at h; cases h; simp
  | c :: s =>
    match ht : tokL (c :: s) with
    | .inl e => rw [toksL_bad hp ht] at h; cases h
    | .inr (t, s') =>
      rw [toksL_go hp ht] at h
      match hs : toksL n s' with
      | .inl e => rw [hs] at h; cases h
      | .inr r' => rw [hs] at h; cases h; rfl
theorem toksL_ne {n : Nat} {l : List UInt8} {ts : List Tok} (h : toksL n l = .inr ts) : ∃ u r, ts = u :: r := by
  match hp : passL false l with
  | [] => rw [toksL_nil hp] at h; cases h; exact ⟨_, _, rfl⟩
  | c :: s =>
    match ht : tokL (c :: s) with
    | .inl e => rw [toksL_bad hp ht] at h; cases h
    | .inr (t, s') =>
      rw [toksL_go hp ht] at h
      match hs : toksL n s' with
      | .inl e => rw [hs] at h; cases h
      | .inr r' => rw [hs] at h; cases h; exact ⟨_, _, rfl⟩

theorem weave (X : List UInt8) : ∀ (m : Nat) (l : List UInt8) (ts : List Tok), l.length ≤ m → (∃ H, X = H ++ l) → toksL X.length l = .inr ts →
    Rise X.length ((X.length - l.length : Nat) : Int) ts ∧ ∀ (n' k : Nat), passL false (bld X k ts) = bld X k ts ∧ ∃ ts', toksL n' (bld X k ts) = .inr ts' ∧ ts'.map z0 = ts.map z0 := by
  intro m
  induction m with
  | zero =>
    intro l ts hl _ h
    have : l = [] := List.eq_nil_of_length_eq_zero (by omega)
    subst this
    rw [toksL_nil rfl] at h
    cases h
    refine ⟨⟨by simp, by simp, trivial⟩, fun n' k => ⟨rfl, _, toksL_nil rfl, rfl⟩⟩
  | succ m ih =>
    intro l ts hl hH h
    obtain ⟨H, hX⟩ := hH
    have hXl : X.length = H.length + l.length := by rw [hX, List.length_append]
    obtain ⟨G0, b0, hG0, _, _⟩ := pass_split l false
    have hle := passL_le l false
    match hp : passL false l with
    | [] =>
      rw [toksL_nil hp] at h
      cases h
      exact ⟨⟨by simp, by simp, trivial⟩, fun n' k => ⟨rfl, _, toksL_nil rfl, rfl⟩⟩
    | c :: r =>
      rw [hp] at hle hG0
      match ht : tokL (c :: r) with
      | .inl e => rw [toksL_bad hp ht] at h; cases h
      | .inr (t, s') =>
        have hlt := tokL_lt ht
        obtain ⟨P, hPn, hP, hcut⟩ := tokL_cut ht
        rw [toksL_go hp ht] at h
        match hs : toksL X.length s' with
        | .inl e => rw [hs] at h; cases h
        | .inr ts1 =>
          rw [hs] at h
          cases h
          obtain ⟨u, r1, hu⟩ := toksL_ne hs
          subst hu
          have hXs : X = (H ++ G0 ++ P) ++ s' := by rw [hX, hG0, hP]; simp
          have hXsl : X.length = H.length + G0.length + P.length + s'.length := by rw [hXs]; simp; omega
          obtain ⟨ihR, ihB⟩ := ih s' (u :: r1) (by omega) ⟨_, hXs⟩ hs
          have hua := toksL_head hs
          obtain ⟨G, b', hG, hpG, hbf⟩ := pass_split s' false
          have hGl : s'.length = G.length + (passL false s').length := by have := congrArg List.length hG; rw [List.length_append] at this; exact this
          have hPl : (c :: r).length = P.length + s'.length := by rw [hP, List.length_append]
          have hta : X.length - (c :: r).length = H.length + G0.length := by omega
          refine ⟨⟨?_, ?_, ?_⟩, fun n' k => ?_⟩
          · simp only; omega
          · simp only; omega
          · obtain ⟨ra, rb, rc⟩ := ihR
            exact ⟨by simp only; omega, rb, rc⟩
          · have hseg : (X.drop (X.length - (c :: r).length)).take (u.at_ - ((X.length - (c :: r).length : Nat) : Int)).toNat = P ++ G := by
              have e1 : X.drop (X.length - (c :: r).length) = P ++ (G ++ passL false s') := by
                rw [hta, hXs]
                conv => lhs; rw [hG]
                rw [show H ++ G0 ++ P ++ (G ++ passL false s') = (H ++ G0) ++ (P ++ (G ++ passL false s')) by simp]
                exact List.drop_left' (by simp)
              rw [e1, hua]
              have e2 : (((X.length - (passL false s').length : Nat) : Int) - ((X.length - (c :: r).length : Nat) : Int)).toNat = (P ++ G).length := by
                rw [List.length_append]; omega
              rw [e2, ← List.append_assoc]
              exact List.take_left' rfl
            obtain ⟨hW, ts', hts', hz'⟩ := ihB n' (k + 1)
            have hb : bld X k ({ t with at_ := ((X.length - (c :: r).length : Nat) : Int) } :: u :: r1) = P ++ (G ++ (blkK k ++ bld X (k + 1) (u :: r1))) := by
              rw [bld]
              simp only [Int.toNat_natCast]
              rw [hseg]
              simp
            obtain ⟨kp, kq, kc, kr, kh, kb⟩ := blkK_pass k
            have hst : Stops (G ++ (blkK k ++ bld X (k + 1) (u :: r1))) := by
              intro a q e
              cases G with
              | nil =>
                rw [kh] at e
                simp only [List.nil_append, List.cons_append, List.cons.injEq] at e
                rw [← e.1]; exact .inl kb
              | cons g0 g1 =>
                simp only [List.cons_append, List.cons.injEq] at e
                rw [← e.1]
                simp only [psG] at hpG
                by_cases hbb : blkB g0 = true
                · exact .inl hbb
                · rw [if_neg hbb] at hpG
                  by_cases h37 : (g0 == 37) = true
                  · exact .inr (beq_iff_eq.1 h37)
                  · rw [if_neg h37] at hpG; cases hpG
            have hpass : passL false (G ++ (blkK k ++ bld X (k + 1) (u :: r1))) = passL false (bld X (k + 1) (u :: r1)) := by
              rw [psG_go G false b' _ hpG]
              by_cases hq : passL false s' = []
              · have hr1 : r1 = [] := by rw [toksL_nil hq] at hs; cases hs; rfl
                rw [hr1]
                show passL b' (blkK k ++ []) = passL false []
                rw [List.append_nil, kq b']
                rfl
              · rw [hbf hq, psG_go _ false false _ kp]
            obtain ⟨p0, p1, hP0⟩ : ∃ p0 p1, P = p0 :: p1 := by
              cases P with
              | nil => exact absurd rfl hPn
              | cons a b => exact ⟨a, b, rfl⟩
            have hpc : p0 = c := by rw [hP0] at hP; simp only [List.cons_append, List.cons.injEq] at hP; exact hP.1.symm
            have hfix : passL false (c :: r) = c :: r := by have := passL_twice l false; rw [hp] at this; exact this
            have hwh : passL false (P ++ (G ++ (blkK k ++ bld X (k + 1) (u :: r1)))) = P ++ (G ++ (blkK k ++ bld X (k + 1) (u :: r1))) := by
              rw [hP0, hpc, List.cons_append]
              simp only [passL] at hfix ⊢
              by_cases hbb : blkB c = true
              · rw [if_pos hbb] at hfix
                have := passL_le r false
                rw [hfix] at this
                simp at this
                omega
              · rw [if_neg hbb] at hfix ⊢
                by_cases h37 : (c == 37) = true
                · rw [if_pos h37] at hfix
                  have := passL_le r true
                  rw [hfix] at this
                  simp at this
                  omega
                · rw [if_neg h37]
            refine ⟨by rw [hb]; exact hwh, ?_⟩
            rw [hb]
            have htk := hcut _ hst
            have hgo : toksL n' (P ++ (G ++ (blkK k ++ bld X (k + 1) (u :: r1)))) = match toksL n' (G ++ (blkK k ++ bld X (k + 1) (u :: r1))) with | .inl e => .inl e | .inr q => .inr ({ t with at_ := ((n' - (P ++ (G ++ (blkK k ++ bld X (k + 1) (u :: r1)))).length : Nat) : Int) } :: q) := by
              rw [hP0, List.cons_append] at hwh htk ⊢
              exact toksL_go hwh htk
            rw [hgo, toksL_same hpass, hts']
            exact ⟨_, rfl, by simp only [List.map_cons, hz']; rfl⟩

theorem toksL_err0 {n : Nat} : ∀ {m : Nat} {l : List UInt8} {a e : Int}, l.length ≤ m → toksL n l = .inl (a, e) → e ≠ 0 := by
  intro m
  induction m with
  | zero =>
    intro l a e hl h
    have : l = [] := List.eq_nil_of_length_eq_zero (by omega)
    subst this
    rw [toksL_nil rfl] at h; cases h
  | succ m ih =>
    intro l a e hl h
    have hle := passL_le l false
    match hp : passL false l with
    | [] => rw [toksL_nil hp] at h; cases h
    | c :: s =>
      rw [hp] at hle
      match ht : tokL (c :: s) with
      | .inl x =>
        rw [toksL_bad hp ht] at h
        cases h
        rcases tokL_err ht with rfl | rfl <;> decide
      | .inr (t, s') =>
        have hlt := tokL_lt ht
        rw [toksL_go hp ht] at h
        match hs : toksL n s' with
        | .inl (a', e') => rw [hs] at h; cases h; exact ih (by omega) hs
        | .inr r' => rw [hs] at h; cases h

def phi (k : Nat) : Int := match k % 4 with
  | 0 => 0
  | 1 => 3
  | 2 => 6
  | _ => -1
theorem blkK_len (k : Nat) : ((blkK k).length : Int) = 4 + phi k - phi (k + 1) ∧ -1 ≤ phi k := by
  have h : k % 4 = 0 ∨ k % 4 = 1 ∨ k % 4 = 2 ∨ k % 4 = 3 := by omega
  rcases h with h | h | h | h
  · have h' : (k + 1) % 4 = 1 := by omega
    unfold blkK phi; rw [h, h']; exact ⟨rfl, by decide⟩
  · have h' : (k + 1) % 4 = 2 := by omega
    unfold blkK phi; rw [h, h']; exact ⟨rfl, by decide⟩
  · have h' : (k + 1) % 4 = 3 := by omega
    unfold blkK phi; rw [h, h']; exact ⟨rfl, by decide⟩
  · have h' : (k + 1) % 4 = 0 := by omega
    unfold blkK phi; rw [h, h']; exact ⟨rfl, by decide⟩
theorem bld_len (X : List UInt8) : ∀ (r : List Tok) (t : Tok) (k : Nat) (a : Int), Rise X.length a (t :: r) → ((bld X k (t :: r)).length : Int) ≤ (X.length - t.at_) + 4 * r.length + phi k + 1
  | [], t, k, a, h => by
    have := (blkK_len k).2
    have := h.2.1
    simp only [bld, List.length_nil]
    omega
  | u :: r, t, k, a, h => by
    have ih := bld_len X r u (k + 1) t.at_ h.2.2
    have hb := (blkK_len k).1
    have h1 := h.2.2.1
    rw [bld, List.length_append, List.length_append, List.length_take]
    simp only [List.length_cons]
    have : min (u.at_ - t.at_).toNat (X.drop t.at_.toNat).length ≤ (u.at_ - t.at_).toNat := Nat.min_le_left _ _
    omega

/-- what the law asks: the words' places rise, the text anew is not too long, and has the same words -/
theorem blanks_of {s : ByteArray} (hE : lexE s = 0) (hs : s.size ≤ 600) : Rise s.size 0 (lexT s) ∧ (bld s.data.toList 0 (lexT s)).length ≤ 4000 ∧
    ∀ x : ByteArray, x.data.toList = bld s.data.toList 0 (lexT s) → lexE x = 0 ∧ (lexT x).map z0 = (lexT s).map z0 := by
  have hsl : s.data.toList.length = s.size := by rw [Array.length_toList]; rfl
  unfold lexE at hE
  rw [if_neg (by omega)] at hE
  have hT0 : lexT s = match toksL s.size s.data.toList with | .inl _ => [] | .inr ts => ts := by unfold lexT; rw [if_neg (by omega)]; rfl
  match hT : toksL s.size s.data.toList with
  | .inl (a, e) =>
    exfalso
    rw [hT] at hE
    exact toksL_err0 (Nat.le_refl _) hT hE
  | .inr ts =>
    rw [hT] at hT0
    have hT0 : lexT s = ts := hT0
    rw [hT0]
    have hw := weave s.data.toList s.data.toList.length s.data.toList ts (Nat.le_refl _) ⟨[], rfl⟩ (by rw [hsl]; exact hT)
    obtain ⟨hR, hB⟩ := hw
    have hR0 : Rise s.size 0 ts := by rw [hsl] at hR; simpa using hR
    obtain ⟨u, r, rfl⟩ := toksL_ne hT
    have hlen := toksL_len s.size _ _ _ (Nat.le_refl _) hT
    have hbl := bld_len s.data.toList r u 0 0 (by rw [hsl]; exact hR0)
    have h0 : phi 0 = 0 := rfl
    have hua := hR0.1
    have hl4 : (bld s.data.toList 0 (u :: r)).length ≤ 4000 := by
      simp only [List.length_cons] at hlen
      omega
    refine ⟨hR0, hl4, fun x hx => ?_⟩
    have hxl : x.data.toList.length = x.size := by rw [Array.length_toList]; rfl
    have hx4 : x.size ≤ 4000 := by rw [← hxl, hx]; exact hl4
    obtain ⟨_, ts', hts, hz⟩ := hB x.size 0
    unfold lexE lexT
    rw [if_neg (by omega), if_neg (by omega), hx, hts]
    exact ⟨rfl, hz⟩
end Go.Proofs.YtagkimcbllpnkaaDoor
