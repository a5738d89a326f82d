/- Blanks and remarks between words change them by their places alone (pure). -/
import Derived.Test.YtagkimcbllpnkaaDoorLzt
namespace Go.Proofs.YtagkimcbllpnkaaDoor

/-- how a text that is passed over ends: within a remark or not; none: a word stands in it -/
def psG : Bool → List UInt8 → Option Bool
  | b, [] => some b
  | false, c :: r => if blkB c then psG false r else if c == 37 then psG true r else none
  | true, c :: r => if c == 10 then psG false r else psG true r
theorem psG_go : ∀ (G : List UInt8) (b b' : Bool) (z : List UInt8), psG b G = some b' → passL b (G ++ z) = passL b' z
  | [], b, b', z, h => by
    have : b = b' := by cases b <;> simpa [psG] using h
    rw [this]; rfl
  | c :: r, false, b', z, h => by
    simp only [psG] at h
    simp only [List.cons_append, passL]
    split
    · rename_i hb; rw [if_pos hb] at h; exact psG_go r false b' z h
    · rename_i hb
      rw [if_neg hb] at h
      split
      · rename_i h37; rw [if_pos h37] at h; exact psG_go r true b' z h
      · rename_i h37; rw [if_neg h37] at h; cases h
  | c :: r, true, b', z, h => by
    simp only [psG] at h
    simp only [List.cons_append, passL]
    split
    · rename_i hb; rw [if_pos hb] at h; exact psG_go r false b' z h
    · rename_i hb; rw [if_neg hb] at h; exact psG_go r true b' z h
/-- what is passed over, and what is left -/
theorem pass_split : ∀ (l : List UInt8) (b : Bool), ∃ G b', l = G ++ passL b l ∧ psG b G = some b' ∧ (passL b l ≠ [] → b' = false)
  | [], b => ⟨[], b, by cases b <;> rfl, by cases b <;> rfl, fun h => absurd (by cases b <;> rfl) h⟩
  | c :: r, false => by
    by_cases hb : blkB c = true
    · obtain ⟨G, b', h1, h2, h3⟩ := pass_split r false
      have e : passL false (c :: r) = passL false r := by simp only [passL, hb, if_true]
      exact ⟨c :: G, b', by rw [e, List.cons_append, ← h1], by simp only [psG, hb, if_true]; exact h2, by rw [e]; exact h3⟩
    · by_cases h37 : (c == 37) = true
      · obtain ⟨G, b', h1, h2, h3⟩ := pass_split r true
        have e : passL false (c :: r) = passL true r := by simp only [passL, hb, h37, if_true]; rfl
        exact ⟨c :: G, b', by rw [e, List.cons_append, ← h1], by simp only [psG, hb, h37, if_true]; exact h2, by rw [e]; exact h3⟩
      · have e : passL false (c :: r) = c :: r := by simp only [passL, hb, h37]; rfl
        exact ⟨[], false, by rw [e]; rfl, rfl, fun _ => rfl⟩
  | c :: r, true => by
    by_cases hb : (c == 10) = true
    · obtain ⟨G, b', h1, h2, h3⟩ := pass_split r false
      have e : passL true (c :: r) = passL false r := by simp only [passL, hb, if_true]
      exact ⟨c :: G, b', by rw [e, List.cons_append, ← h1], by simp only [psG, hb, if_true]; exact h2, by rw [e]; exact h3⟩
    · obtain ⟨G, b', h1, h2, h3⟩ := pass_split r true
      have e : passL true (c :: r) = passL true r := by simp only [passL, hb]; rfl
      exact ⟨c :: G, b', by rw [e, List.cons_append, ← h1], by simp only [psG, hb]; exact h2, by rw [e]; exact h3⟩

/-- nothing, a blank, or a remark follows -/
def Stops (z : List UInt8) : Prop := ∀ c r, z = c :: r → blkB c = true ∨ c = 37
theorem Stops.no {z : List UInt8} (h : Stops z) {c : UInt8} {r : List UInt8} (e : z = c :: r) : innB c = false ∧ digB c = false ∧ c ≠ 45 ∧ c ≠ 60 ∧ c ≠ 61 ∧ c ≠ 43 := by
  have h4 : c = 32 ∨ c = 9 ∨ c = 10 ∨ c = 13 ∨ c = 37 := by
    rcases h c r e with hb | h37
    · unfold blkB at hb
      simp only [Bool.or_eq_true, beq_iff_eq] at hb
      rcases hb with ((h | h) | h) | h
      · exact .inl h
      · exact .inr (.inl h)
      · exact .inr (.inr (.inl h))
      · exact .inr (.inr (.inr (.inl h)))
    · exact .inr (.inr (.inr (.inr h37)))
  rcases h4 with rfl | rfl | rfl | rfl | rfl <;> decide
theorem takeWhile_stop {p : UInt8 → Bool} {P z : List UInt8} (hP : ∀ x ∈ P, p x = true) (hz : ∀ c r, z = c :: r → p c = false) : (P ++ z).takeWhile p = P ∧ (P ++ z).dropWhile p = z := by
  induction P with
  | nil =>
    cases z with
    | nil => exact ⟨rfl, rfl⟩
    | cons c r =>
      have := hz c r rfl
      exact ⟨by rw [List.nil_append, List.takeWhile_cons_of_neg (by simp [this])], by rw [List.nil_append, List.dropWhile_cons_of_neg (by simp [this])]⟩
  | cons a t ih =>
    have ha := hP a (by simp)
    obtain ⟨h1, h2⟩ := ih (fun x hx => hP x (by simp [hx]))
    exact ⟨by rw [List.cons_append, List.takeWhile_cons_of_pos ha, h1], by rw [List.cons_append, List.dropWhile_cons_of_pos ha, h2]⟩

/-- a word stays it, whatever blanks follow -/
theorem tokL_cut {l s' : List UInt8} {t : Tok} (h : tokL l = .inr (t, s')) : ∃ P, P ≠ [] ∧ l = P ++ s' ∧ ∀ z, Stops z → tokL (P ++ z) = .inr (t, z) := by
  cases l with
  | nil => simp [tokL] at h
  | cons c r =>
    simp only [tokL] at h
    split at h
    · rename_i hw
      split at h
      · rename_i h16
        cases h
        have hin := inn_of hw
        refine ⟨(c :: r).takeWhile innB, by rw [List.takeWhile_cons_of_pos hin]; simp, (List.takeWhile_append_dropWhile).symm, fun z hz => ?_⟩
        obtain ⟨e1, e2⟩ := takeWhile_stop (p := innB) (P := (c :: r).takeWhile innB) (z := z) (fun x hx => takeWhile_all x hx) (fun a b e => (hz.no e).1)
        have hc : (c :: r).takeWhile innB ++ z = c :: (r.takeWhile innB ++ z) := by rw [List.takeWhile_cons_of_pos hin]; rfl
        rw [hc] at e1 e2 ⊢
        simp only [tokL]
        rw [if_pos hw, e1, e2, if_pos h16]
      · cases h
    · rename_i hw
      split at h
      · rename_i hd
        split at h
        · rename_i hn
          cases h
          refine ⟨(c :: r).takeWhile digB, by rw [List.takeWhile_cons_of_pos hd]; simp, (List.takeWhile_append_dropWhile).symm, fun z hz => ?_⟩
          obtain ⟨e1, e2⟩ := takeWhile_stop (p := digB) (P := (c :: r).takeWhile digB) (z := z) (fun x hx => takeWhile_all x hx) (fun a b e => (hz.no e).2.1)
          have hc : (c :: r).takeWhile digB ++ z = c :: (r.takeWhile digB ++ z) := by rw [List.takeWhile_cons_of_pos hd]; rfl
          rw [hc] at e1 e2 ⊢
          simp only [tokL]
          rw [if_neg hw, if_pos hd, e1, e2, if_pos hn]
        · cases h
      · rename_i hd
        split at h
        · rename_i h45
          split at h
          · rename_i hn
            cases h
            refine ⟨c :: r.takeWhile digB, by simp, by rw [List.cons_append, List.takeWhile_append_dropWhile], fun z hz => ?_⟩
            obtain ⟨e1, e2⟩ := takeWhile_stop (p := digB) (P := r.takeWhile digB) (z := z) (fun x hx => takeWhile_all x hx) (fun a b e => (hz.no e).2.1)
            have hh : (c == 45 && digB ((r.takeWhile digB ++ z).headD 0)) = true := by
              rw [Bool.and_eq_true] at h45 ⊢
              refine ⟨h45.1, ?_⟩
              have h2 := h45.2
              cases r with
              | nil => exact absurd h2 (by decide)
              | cons a b =>
                have ha : digB a = true := h2
                rw [List.takeWhile_cons_of_pos ha]
                exact ha
            rw [List.cons_append]
            simp only [tokL]
            rw [if_neg hw, if_neg hd, if_pos hh, e1, e2, if_pos hn]
          · cases h
        · rename_i h45
          split at h
          · rename_i h2
            cases h
            obtain ⟨hl, hm⟩ := h2
            cases r with
            | nil => simp at hl
            | cons d s =>
              refine ⟨[c, d], by simp, rfl, fun z hz => ?_⟩
              have hh : ¬ (c == 45 && digB ((d :: z).headD 0)) = true := h45
              show tokL (c :: d :: z) = _
              simp only [tokL]
              rw [if_neg hw, if_neg hd, if_neg hh, if_pos ⟨by simp, hm⟩]
              rfl
          · rename_i h2
            split at h
            · rename_i h1
              cases h
              refine ⟨[c], by simp, rfl, fun z hz => ?_⟩
              have hm : [c] ∈ marks1 := h1
              have hc45 : (c == 45) = false := by
                rw [Bool.eq_false_iff]; intro e
                rw [beq_iff_eq.1 e] at hm
                exact absurd hm (by decide)
              have hh : ¬ (c == 45 && digB (z.headD 0)) = true := by rw [hc45]; simp
              have h2' : ¬ (2 ≤ (c :: z).length ∧ (c :: z).take 2 ∈ marks2) := by
                rintro ⟨hl, hm2⟩
                cases z with
                | nil => simp at hl
                | cons d s =>
                  obtain ⟨_, _, n1, n2, n3, n4⟩ := hz.no rfl
                  have hm3 : [c, d] ∈ marks2 := hm2
                  simp only [marks2, List.mem_cons, List.not_mem_nil, or_false, List.cons.injEq, and_true] at hm3
                  rcases hm3 with ⟨_, e⟩ | ⟨_, e⟩ | ⟨_, e⟩ | ⟨_, e⟩ | ⟨_, e⟩
                  · exact n1 e
                  · exact n1 e
                  · exact n2 e
                  · exact n3 e
                  · exact n4 e
              show tokL (c :: z) = _
              simp only [tokL]
              rw [if_neg hw, if_neg hd, if_neg hh, if_neg h2', if_pos (show List.take 1 (c :: z) ∈ marks1 from hm)]
              rfl
            · cases h
end Go.Proofs.YtagkimcbllpnkaaDoor
