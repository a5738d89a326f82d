/- Facts as keys of a map: each has one, and two alike are one fact. -/
import Derived.Test.YtcfhokejfibgoaaFkc
import Derived.Test.YtcfhokejfibgoaaOrd
import Derived.Test.YtcfhokejfibgoaaRis
import Derived.Test.YtcfhokejfibgoaaKey
namespace Go.Proofs.Ytcfhokejfibgoaa
open Go.RowKit Go.Maps

/-! a key's cells as parts -/
def c3 (p : Pr3) : List Value := [.int .u64 (p.1 : Int), .int .u64 (p.2.1 : Int), .int .i64 p.2.2]
def cellsP : List Pr3 → List Value
  | [] => []
  | p :: ps => c3 p ++ cellsP ps
theorem cellsP_len : ∀ ps : List Pr3, (cellsP ps).length = ps.length * 3
  | [] => rfl
  | p :: ps => by rw [cellsP, List.length_append, cellsP_len ps, List.length_cons]; simp [c3]; omega
theorem cellsP_set (tl : List Value) (p : Pr3) : ∀ (X : List Pr3) (a : Nat), a < X.length → put3 (cellsP X ++ tl) a p = cellsP (X.set a p) ++ tl
  | x :: X, 0, _ => by simp [put3, cellsP, c3]
  | x :: X, a + 1, h => by
    have ih := cellsP_set tl p X a (by simpa using h)
    unfold put3 at ih ⊢
    have e : (a + 1) * 3 = a * 3 + 3 := by omega
    rw [List.set_cons_succ, cellsP, cellsP, e, List.append_assoc, List.append_assoc, ← ih]
    simp [c3, List.set_cons_succ]
  | [], _, h => by simp at h
def setP : List Pr3 → Nat → List Pr3 → List Pr3
  | X, _, [] => X
  | X, a, p :: ps => setP (X.set a p) (a + 1) ps
theorem putP_cells (tl : List Value) : ∀ (ps X : List Pr3) (a : Nat), a + ps.length ≤ X.length → putP (cellsP X ++ tl) a ps = cellsP (setP X a ps) ++ tl
  | [], _, _, _ => rfl
  | p :: ps, X, a, h => by
    simp only [List.length_cons] at h
    rw [putP, cellsP_set tl p X a (by omega), putP_cells tl ps _ _ (by rw [List.length_set]; omega), setP]
theorem setP_eq : ∀ (ps X : List Pr3) (a : Nat), a + ps.length ≤ X.length → setP X a ps = X.take a ++ ps ++ X.drop (a + ps.length)
  | [], X, a, _ => by simp [setP]
  | p :: ps, X, a, h => by
    simp only [List.length_cons] at h
    rw [setP, setP_eq ps _ _ (by rw [List.length_set]; omega), List.take_succ_eq_append_getElem (by rw [List.length_set]; omega), List.getElem_set_self, List.take_set_of_le (Nat.le_refl _), List.drop_set_of_lt (by omega)]
    simp only [List.append_assoc, List.singleton_append, List.length_cons]
    rw [show a + 1 + ps.length = a + (ps.length + 1) by omega]
theorem zero3_cells : ∀ n, zero3 n = cellsP (List.replicate n (0, 0, 0))
  | 0 => rfl
  | n + 1 => by rw [zero3, List.replicate_succ, cellsP, zero3_cells n]; rfl
/-- the parts, made twenty-four -/
def padP (ps : List Pr3) : List Pr3 := ps ++ List.replicate (24 - ps.length) (0, 0, 0)
theorem padP_len {ps : List Pr3} (h : ps.length ≤ 24) : (padP ps).length = 24 := by simp [padP]; omega
theorem keyCs_eq {ps : List Pr3} (h : ps.length ≤ 24) (f u : Int) : keyCs ps f u = cellsP (padP ps) ++ [.int .i64 f, .int .i64 u] := by
  unfold keyCs padP
  rw [zero3_cells, putP_cells _ _ _ _ (by rw [List.length_replicate]; omega), setP_eq _ _ _ (by rw [List.length_replicate]; omega), List.take_zero, List.nil_append, Nat.zero_add, List.drop_replicate]
theorem cellsP_inj {tl tl' : List Value} : ∀ {X Y : List Pr3}, X.length = Y.length → cellsP X ++ tl = cellsP Y ++ tl' → X = Y ∧ tl = tl'
  | [], [], _, h => ⟨rfl, h⟩
  | x :: X, [], h, _ => by simp at h
  | [], y :: Y, h, _ => by simp at h
  | x :: X, y :: Y, hl, h => by
    rw [cellsP, cellsP, List.append_assoc, List.append_assoc] at h
    simp only [c3, List.cons_append, List.nil_append, List.cons.injEq, Value.int.injEq, true_and] at h
    obtain ⟨h1, h2, h3, h4⟩ := h
    obtain ⟨e, e'⟩ := cellsP_inj (by simpa using hl) h4
    refine ⟨?_, e'⟩
    rw [e]
    congr 1
    exact Prod.ext (by omega) (Prod.ext (by omega) h3)
theorem cellsP_at (tl : List Value) : ∀ {X : List Pr3} {i : Nat} (h : i < X.length), ((cellsP X ++ tl).drop (i * 3)).take 3 = c3 X[i]
  | x :: X, 0, _ => by simp [cellsP, c3]
  | x :: X, i + 1, h => by
    rw [show (i + 1) * 3 = i * 3 + 3 by omega, cellsP, List.append_assoc, Nat.add_comm, ← List.drop_drop]
    have e : (c3 x ++ (cellsP X ++ tl)).drop 3 = cellsP X ++ tl := rfl
    rw [e, cellsP_at tl (by simpa using h)]
    rfl

/-! what a term's parts tell of it -/
theorem bytes_empty {s : ByteArray} (h : s.size = 0) : s = ⟨#[]⟩ := by
  obtain ⟨a⟩ := s
  have : a = #[] := Array.size_eq_zero_iff.1 h
  rw [this]
theorem take_all (s : ByteArray) : s.data.toList.take s.size = s.data.toList := List.take_of_length_le (by rw [Array.length_toList]; exact Nat.le_refl _)
theorem plain2 {t : Tm} (h : plainB t = true) (k2 : t.kind = 2) : t.name = ⟨#[]⟩ ∧ t.args = [] := by
  unfold plainB at h
  simp [k2] at h
  obtain ⟨⟨⟨h1, _⟩, _⟩, h4⟩ := h
  refine ⟨?_, h4⟩
  have h0 := toList_empty t.name (by simpa using h1)
  exact bytes_empty h0
theorem plain_kinds {t : Tm} (h : plainB t = true) (hg : t.kind ≠ 1) : t.kind = 2 ∨ t.kind = 3 := by
  unfold plainB at h
  by_cases h2 : t.kind = 2
  · exact .inl h2
  · by_cases h3 : t.kind = 3
    · exact .inr h3
    · simp [hg, h2, h3] at h
theorem plain3n {t : Tm} (h : plainB t = true) (k3 : t.kind = 3) : t.n = 0 ∧ 0 < t.name.size := by
  unfold plainB at h
  simp [k3] at h
  obtain ⟨⟨h1, h2⟩, _⟩ := h
  unfold wordB at h1
  simp at h1
  exact ⟨h2, h1.1.1.1⟩
theorem wd_inj {s t : ByteArray} (hs : goodL s.data.toList) (ht : goodL t.data.toList) (h0 : wd0 s s.size = wd0 t t.size) (h1 : wd1 s s.size = wd1 t t.size) : s = t := by
  have es : s.data.toList.length = s.size := by rw [Array.length_toList]; rfl
  have et : t.data.toList.length = t.size := by rw [Array.length_toList]; rfl
  unfold wd0 at h0
  unfold wd1 at h1
  rw [take_all, take_all] at h0 h1
  have a := nmL_inj _ _ (fun b hb => hs b (List.mem_of_mem_take hb)) (fun b hb => ht b (List.mem_of_mem_take hb)) h0
  have b := nmL_inj _ _ (fun b hb => hs b (List.mem_of_mem_drop hb)) (fun b hb => ht b (List.mem_of_mem_drop hb)) h1
  refine name_ext ?_
  rw [← List.take_append_drop 8 s.data.toList, ← List.take_append_drop 8 t.data.toList, a, b]
theorem wd_none {s : ByteArray} (hs : goodL s.data.toList) (hp : 0 < s.size) : ¬ wd0 s s.size = 0 := by
  have es : s.data.toList.length = s.size := by rw [Array.length_toList]; rfl
  unfold wd0
  rw [take_all]
  intro h
  have : s.data.toList.take 8 = [] := nmL_inj _ [] (fun b hb => hs b (List.mem_of_mem_take hb)) (fun b hb => by cases hb) h
  have hl := congrArg List.length this
  simp only [List.length_take, List.length_nil] at hl
  omega
theorem groundT_parts {t : Tm} (h : groundT t = true) : groundL t.args = true ∧ t.kind ≠ 1 := by
  obtain ⟨k, s, n, l⟩ := t
  simpa [groundT] using h
theorem parts_inj (hh : Nat) : ∀ t u : Tm, t.high ≤ hh → allP t → allP u → groundT t = true → groundT u = true → ∀ r r', partsT t ++ r = partsT u ++ r' → t = u ∧ r = r' := by
  have step : ∀ hh : Nat, (∀ t u : Tm, t.high ≤ hh → allP t → allP u → groundT t = true → groundT u = true → ∀ r r', partsT t ++ r = partsT u ++ r' → t = u ∧ r = r') →
      ∀ ts us : List Tm, ts.length = us.length → highs ts ≤ hh → allPs ts → allPs us → groundL ts = true → groundL us = true → ∀ r r', partsL ts ++ r = partsL us ++ r' → ts = us ∧ r = r' := by
    intro hh ih ts
    induction ts with
    | nil =>
      intro us hl _ _ _ _ _ r r' h
      obtain rfl : us = [] := List.eq_nil_of_length_eq_zero (by simpa using hl.symm)
      exact ⟨rfl, h⟩
    | cons a ts ihl =>
      intro us hl hhi pa pu ga gu r r' h
      cases us with
      | nil => simp at hl
      | cons b us =>
        simp only [highs] at hhi
        simp only [allPs] at pa pu
        simp only [groundL, Bool.and_eq_true] at ga gu
        rw [partsL, partsL, List.append_assoc, List.append_assoc] at h
        obtain ⟨e1, h2⟩ := ih a b (by omega) pa.1 pu.1 ga.1 gu.1 _ _ h
        obtain ⟨e2, e3⟩ := ihl us (by simpa using hl) (by omega) pa.2 pu.2 ga.2 gu.2 _ _ h2
        exact ⟨by rw [e1, e2], e3⟩
  induction hh with
  | zero => intro t u h0; have := high_pos t; omega
  | succ hh ih =>
    intro t u h0 pt pu gt gu r r' h
    have kt := plain_kinds pt.plain (groundT_parts gt).2
    have ku := plain_kinds pu.plain (groundT_parts gu).2
    rw [partsT_eq, partsT_eq, List.cons_append, List.cons_append] at h
    injection h with hp hl
    have hth : highs t.args ≤ hh := by obtain ⟨k, s, n, l⟩ := t; simp only [Tm.high] at h0; simp only; omega
    rcases kt with kt | kt
    · obtain ⟨nt, at_⟩ := plain2 pt.plain kt
      have ept : partT t = (0, 0, t.n) := by unfold partT; rw [kt]; rfl
      rcases ku with ku | ku
      · obtain ⟨nu, au⟩ := plain2 pu.plain ku
        have epu : partT u = (0, 0, u.n) := by unfold partT; rw [ku]; rfl
        rw [ept, epu] at hp
        have hn : t.n = u.n := congrArg (fun p : Pr3 => p.2.2) hp
        rw [at_, au] at hl
        refine ⟨?_, by simpa [partsL] using hl⟩
        obtain ⟨k, s, n, l⟩ := t
        obtain ⟨k', s', n', l'⟩ := u
        simp only at *
        subst kt ku nt nu at_ au hn
        rfl
      · have epu : partT u = (wd0 u.name u.name.size, wd1 u.name u.name.size, (u.args.length : Int)) := by unfold partT; rw [ku]; rfl
        rw [ept, epu] at hp
        exact absurd (congrArg (fun p : Pr3 => p.1) hp).symm (wd_none (goodL_of_plain pu.plain) (plain3n pu.plain ku).2)
    · have ept : partT t = (wd0 t.name t.name.size, wd1 t.name t.name.size, (t.args.length : Int)) := by unfold partT; rw [kt]; rfl
      rcases ku with ku | ku
      · have epu : partT u = (0, 0, u.n) := by unfold partT; rw [ku]; rfl
        rw [ept, epu] at hp
        exact absurd (congrArg (fun p : Pr3 => p.1) hp) (wd_none (goodL_of_plain pt.plain) (plain3n pt.plain kt).2)
      · have epu : partT u = (wd0 u.name u.name.size, wd1 u.name u.name.size, (u.args.length : Int)) := by unfold partT; rw [ku]; rfl
        rw [ept, epu] at hp
        have e0 := congrArg (fun p : Pr3 => p.1) hp
        have e1 := congrArg (fun p : Pr3 => p.2.1) hp
        have e2 := congrArg (fun p : Pr3 => p.2.2) hp
        simp only at e0 e1 e2
        have en := wd_inj (goodL_of_plain pt.plain) (goodL_of_plain pu.plain) e0 e1
        obtain ⟨ea, er⟩ := step hh ih t.args u.args (by omega) hth pt.args pu.args (groundT_parts gt).1 (groundT_parts gu).1 _ _ hl
        have nt := (plain3n pt.plain kt).1
        have nu := (plain3n pu.plain ku).1
        refine ⟨?_, er⟩
        obtain ⟨k, s, n, l⟩ := t
        obtain ⟨k', s', n', l'⟩ := u
        simp only at *
        subst kt ku nt nu en ea
        rfl
end Go.Proofs.Ytcfhokejfibgoaa
