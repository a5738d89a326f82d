/- The order of terms is one of all: without any program. -/
import Derived.Test.YtkdhpifjljkpfaaGreatWX
import Derived.Test.YtkdhpifjljkpfaaGreatWi
namespace Go.Proofs.YtkdhpifjljkpfaaGreat

theorem tm_ext {a b : Tm} (h1 : a.kind = b.kind) (h2 : a.name = b.name) (h3 : a.n = b.n) (h4 : a.args = b.args) : a = b := by
  cases a; cases b; simp_all

theorem name_ext {s t : ByteArray} (h : s.data.toList = t.data.toList) : s = t := by
  obtain ⟨a⟩ := s
  obtain ⟨b⟩ := t
  have e : a = b := Array.toList_inj.1 h
  rw [e]

/-! equal -/
theorem eqL_iff_of (hh : Nat) (h : ∀ a b : Tm, a.high ≤ hh → (eqT a b = true ↔ a = b)) : ∀ (l r : List Tm), highs l ≤ hh → (eqL l r = true ↔ l = r)
  | [], [], _ => by simp [eqL]
  | [], _ :: _, _ => by simp [eqL]
  | _ :: _, [], _ => by simp [eqL]
  | a :: l, b :: r, hl => by
    rw [highs] at hl
    rw [eqL, Bool.and_eq_true, h a b (by omega), eqL_iff_of hh h l r (by omega)]
    simp
theorem eqT_iff_of (hh : Nat) : ∀ a b : Tm, a.high ≤ hh → (eqT a b = true ↔ a = b) := by
  induction hh with
  | zero => intro a b h; have := high_pos a; omega
  | succ hh ih =>
    intro a b h
    have ha := highs_eq a
    rw [eqT_eq]
    simp only [Bool.and_eq_true, beq_iff_eq]
    rw [eqL_iff_of hh ih a.args b.args (by omega), ByteArray.toList_eq, ByteArray.toList_eq]
    constructor
    · rintro ⟨⟨⟨h1, h2⟩, h3⟩, h4⟩
      exact tm_ext h1 (name_ext h2) h3 h4
    · rintro rfl
      simp
theorem eqT_iff (a b : Tm) : eqT a b = true ↔ a = b := eqT_iff_of a.high a b (Nat.le_refl _)

/-! -1, 0, 1 -/
theorem sgn_neg (a b : Int) : sgn a b = - sgn b a := by unfold sgn; split <;> split <;> (try split) <;> omega
theorem sgn_zero {a b : Int} : sgn a b = 0 ↔ a = b := by unfold sgn; constructor <;> intro h <;> (repeat' split at h) <;> (repeat' split) <;> omega
theorem sgn_self (a : Int) : sgn a a = 0 := sgn_zero.2 rfl

/-- the first that is not 0 -/
def lexI (x y : Int) : Int := if (x != 0) = true then x else y
theorem lexI_zero {x y : Int} : lexI x y = 0 ↔ x = 0 ∧ y = 0 := by
  unfold lexI
  by_cases h : x = 0 <;> simp [h]
theorem lexI_neg {x y x' y' : Int} (h : x = - x') (k : y = - y') : lexI x y = - lexI x' y' := by
  subst h k
  unfold lexI
  by_cases h : x' = 0 <;> simp [h]
theorem lexI_le {x y : Int} (h : lexI x y ≤ 0) : x ≤ 0 := by
  unfold lexI at h
  by_cases h0 : x = 0
  · omega
  · simpa [h0] using h
theorem lexI_ne {x y : Int} (h : x ≠ 0) : lexI x y = x := by simp [lexI, h]
theorem lexI_eq {x y : Int} (h : x = 0) : lexI x y = y := by simp [lexI, h]

/-- three answers that fit: of first and second, of second and third, of first and third -/
def Tri (x y z : Int) : Prop := x ≤ 0 → y ≤ 0 → z ≤ 0 ∧ (z = 0 → x = 0 ∧ y = 0)
theorem Tri.lex {x y z x' y' z' : Int} (h : Tri x y z) (k : x = 0 → y = 0 → z = 0 → Tri x' y' z') : Tri (lexI x x') (lexI y y') (lexI z z') := by
  intro h1 h2
  obtain ⟨a, b⟩ := h (lexI_le h1) (lexI_le h2)
  by_cases hz : z = 0
  · obtain ⟨hx, hy⟩ := b hz
    rw [lexI_eq hx] at h1 ⊢
    rw [lexI_eq hy] at h2 ⊢
    rw [lexI_eq hz]
    exact k hx hy hz h1 h2
  · rw [lexI_ne hz]
    exact ⟨a, fun e => absurd e hz⟩
theorem Tri.sgn (a b c : Int) : Tri (sgn a b) (Go.Proofs.YtkdhpifjljkpfaaGreat.sgn b c) (Go.Proofs.YtkdhpifjljkpfaaGreat.sgn a c) := by
  intro h1 h2
  unfold Go.Proofs.YtkdhpifjljkpfaaGreat.sgn at *
  (repeat' split at h1) <;> (repeat' split at h2) <;> (repeat' split) <;> omega

theorem labI_eq (a b c d : Int) : labI a b c d = lexI (sgn a c) (sgn b d) := rfl
theorem cmpT_lex (a b : Tm) : cmpT a b = lexI (sgn a.kind b.kind) (lexI (sgn a.n b.n) (lexI (sgn a.args.length b.args.length) (lexI (cmpN a.name b.name) (cmpL a.args b.args)))) := cmpT_eq a b

theorem cmpN_neg (s t : ByteArray) : cmpN s t = - cmpN t s := by
  unfold cmpN
  rw [labI_eq, labI_eq]
  exact lexI_neg (sgn_neg _ _) (sgn_neg _ _)
theorem Tri.cmpN (s t u : ByteArray) : Tri (cmpN s t) (Go.Proofs.YtkdhpifjljkpfaaGreat.cmpN t u) (Go.Proofs.YtkdhpifjljkpfaaGreat.cmpN s u) := by
  unfold Go.Proofs.YtkdhpifjljkpfaaGreat.cmpN
  rw [labI_eq, labI_eq, labI_eq]
  exact (Tri.sgn _ _ _).lex fun _ _ _ => Tri.sgn _ _ _

theorem cmpL_neg_of (hh : Nat) (h : ∀ a b : Tm, a.high ≤ hh → cmpT a b = - cmpT b a) : ∀ (l r : List Tm), highs l ≤ hh → cmpL l r = - cmpL r l
  | [], [], _ => by simp [cmpL]
  | [], _ :: _, _ => by simp [cmpL]
  | _ :: _, [], _ => by simp [cmpL]
  | a :: l, b :: r, hl => by
    rw [highs] at hl
    rw [cmpL, cmpL]
    exact lexI_neg (h a b (by omega)) (cmpL_neg_of hh h l r (by omega))
theorem cmpT_neg_of (hh : Nat) : ∀ a b : Tm, a.high ≤ hh → cmpT a b = - cmpT b a := by
  induction hh with
  | zero => intro a b h; have := high_pos a; omega
  | succ hh ih =>
    intro a b h
    have ha := highs_eq a
    rw [cmpT_lex, cmpT_lex]
    exact lexI_neg (sgn_neg _ _) (lexI_neg (sgn_neg _ _) (lexI_neg (sgn_neg _ _) (lexI_neg (cmpN_neg _ _) (cmpL_neg_of hh ih _ _ (by omega)))))
theorem cmpT_neg (a b : Tm) : cmpT a b = - cmpT b a := cmpT_neg_of a.high a b (Nat.le_refl _)

theorem Tri.cmpL_of (hh : Nat) (h : ∀ a b c : Tm, a.high ≤ hh → Tri (cmpT a b) (cmpT b c) (cmpT a c)) : ∀ (l r s : List Tm), highs l ≤ hh → Tri (cmpL l r) (cmpL r s) (cmpL l s)
  | [], [], [], _ => by simp [cmpL, Tri]
  | [], [], _ :: _, _ => by simp [cmpL, Tri]
  | [], _ :: _, [], _ => by simp [cmpL, Tri]
  | [], _ :: _, _ :: _, _ => by simp [cmpL, Tri]
  | _ :: _, [], [], _ => by simp [cmpL, Tri]
  | _ :: _, [], _ :: _, _ => by simp [cmpL, Tri]
  | _ :: _, _ :: _, [], _ => by simp [cmpL, Tri]
  | a :: l, b :: r, c :: s, hl => by
    rw [highs] at hl
    rw [cmpL, cmpL, cmpL]
    exact (h a b c (by omega)).lex fun _ _ _ => Tri.cmpL_of hh h l r s (by omega)
theorem Tri.cmpT_of (hh : Nat) : ∀ a b c : Tm, a.high ≤ hh → Tri (cmpT a b) (cmpT b c) (cmpT a c) := by
  induction hh with
  | zero => intro a b c h; have := high_pos a; omega
  | succ hh ih =>
    intro a b c h
    have ha := highs_eq a
    rw [cmpT_lex, cmpT_lex, cmpT_lex]
    exact (Tri.sgn _ _ _).lex fun _ _ _ => (Tri.sgn _ _ _).lex fun _ _ _ => (Tri.sgn _ _ _).lex fun _ _ _ => (Tri.cmpN _ _ _).lex fun _ _ _ => Tri.cmpL_of hh ih _ _ _ (by omega)
theorem cmpT_trans {a b c : Tm} (h : cmpT a b < 0) (k : cmpT b c < 0) : cmpT a c < 0 := by
  obtain ⟨x, y⟩ := Tri.cmpT_of a.high a b c (Nat.le_refl _) (by omega) (by omega)
  by_cases e : cmpT a c = 0
  · have := (y e).1; omega
  · omega

/-! -1, 0, 1 -/
theorem sgn_bd (a b : Int) : -1 ≤ sgn a b ∧ sgn a b ≤ 1 := by unfold sgn; split <;> (try split) <;> omega
theorem lexI_bd {x y : Int} (h : -1 ≤ x ∧ x ≤ 1) (k : -1 ≤ y ∧ y ≤ 1) : -1 ≤ lexI x y ∧ lexI x y ≤ 1 := by unfold lexI; split <;> assumption
theorem cmpL_bd_of (hh : Nat) (h : ∀ a b : Tm, a.high ≤ hh → -1 ≤ cmpT a b ∧ cmpT a b ≤ 1) : ∀ (l r : List Tm), highs l ≤ hh → -1 ≤ cmpL l r ∧ cmpL l r ≤ 1
  | [], [], _ => by simp [cmpL]
  | [], _ :: _, _ => by simp [cmpL]
  | _ :: _, [], _ => by simp [cmpL]
  | a :: l, b :: r, hl => by
    rw [highs] at hl
    rw [cmpL]
    exact lexI_bd (h a b (by omega)) (cmpL_bd_of hh h l r (by omega))
theorem cmpT_bd_of (hh : Nat) : ∀ a b : Tm, a.high ≤ hh → -1 ≤ cmpT a b ∧ cmpT a b ≤ 1 := by
  induction hh with
  | zero => intro a b h; have := high_pos a; omega
  | succ hh ih =>
    intro a b h
    have ha := highs_eq a
    rw [cmpT_lex]
    exact lexI_bd (sgn_bd _ _) (lexI_bd (sgn_bd _ _) (lexI_bd (sgn_bd _ _) (lexI_bd (by unfold cmpN; rw [labI_eq]; exact lexI_bd (sgn_bd _ _) (sgn_bd _ _)) (cmpL_bd_of hh ih _ _ (by omega)))))
theorem cmpT_bd (a b : Tm) : -1 ≤ cmpT a b ∧ cmpT a b ≤ 1 := cmpT_bd_of a.high a b (Nat.le_refl _)
theorem cmpT_wrap (a b : Tm) : IntKind.i64.wrap (-(cmpT b a)) = cmpT a b := by
  have h := cmpT_bd b a
  rw [IntWalk.i64_in _ (by omega)]
  exact (cmpT_neg a b).symm

/-! alike just where they are the same -/
def goodL (l : List UInt8) : Prop := ∀ b ∈ l, 0 < b.toNat
theorem nm_inj : ∀ (m : Nat) (l r : List UInt8), goodL l → goodL r → l.length ≤ m → r.length ≤ m → nm m l = nm m r → l = r
  | 0, l, r, _, _, h1, h2, _ => by
    have e1 : l = [] := List.eq_nil_of_length_eq_zero (by omega)
    have e2 : r = [] := List.eq_nil_of_length_eq_zero (by omega)
    rw [e1, e2]
  | m + 1, [], [], _, _, _, _, _ => rfl
  | m + 1, [], b :: r, _, hr, _, _, h => by
    have hb := hr b (by simp)
    simp only [nm] at h
    have : 0 < b.toNat * 256 ^ m := Nat.mul_pos hb (Nat.pow_pos (by omega))
    omega
  | m + 1, a :: l, [], hl, _, _, _, h => by
    have hb := hl a (by simp)
    simp only [nm] at h
    have : 0 < a.toNat * 256 ^ m := Nat.mul_pos hb (Nat.pow_pos (by omega))
    omega
  | m + 1, a :: l, b :: r, hl, hr, h1, h2, h => by
    simp only [nm] at h
    have x1 := nm_lt m l
    have x2 := nm_lt m r
    have hp : 0 < 256 ^ m := Nat.pow_pos (by omega)
    have d1 : (a.toNat * 256 ^ m + nm m l) / 256 ^ m = a.toNat := by rw [Nat.mul_comm, Nat.mul_add_div hp, Nat.div_eq_of_lt x1, Nat.add_zero]
    have d2 : (b.toNat * 256 ^ m + nm m r) / 256 ^ m = b.toNat := by rw [Nat.mul_comm, Nat.mul_add_div hp, Nat.div_eq_of_lt x2, Nat.add_zero]
    have e : a.toNat = b.toNat := by rw [← d1, ← d2, h]
    have e' : a = b := UInt8.toNat_inj.1 e
    subst e'
    have := nm_inj m l r (fun b hb => hl b (by simp [hb])) (fun b hb => hr b (by simp [hb])) (by simpa using h1) (by simpa using h2) (by omega)
    rw [this]
theorem goodL_of_tail {s : ByteArray} (h : tailB s = true) : goodL s.data.toList := by
  intro b hb
  have h1 := (List.all_eq_true.1 h) b hb
  simp only [chB, inB, Bool.or_eq_true, decide_eq_true_eq, beq_iff_eq] at h1
  omega
theorem goodL_of_plain {t : Tm} (h : plainB t = true) : goodL t.name.data.toList := by
  unfold plainB at h
  split at h
  · simp only [Bool.and_eq_true, wordB] at h; exact goodL_of_tail h.1.1.2
  · split at h
    · simp only [Bool.and_eq_true] at h
      have h1 := toList_empty _ h.1.1.1
      have e : t.name.data.toList.length = t.name.size := by rw [Array.length_toList]; rfl
      intro b hb
      rw [show t.name.data.toList = [] from List.eq_nil_of_length_eq_zero (by omega)] at hb
      cases hb
    · split at h
      · simp only [Bool.and_eq_true, wordB] at h; exact goodL_of_tail h.1.1.2
      · cases h
theorem nm_split (l : List UInt8) : nm 8 l = nm 8 (l.take 8) := by
  rcases Nat.lt_or_ge l.length 8 with h | h
  · rw [List.take_of_length_le (by omega)]
  · have := nm_app 8 (l.take 8) (l.drop 8) (by rw [List.length_take]; omega)
    rwa [List.take_append_drop] at this
theorem cmpN_zero {s t : ByteArray} (hs : goodL s.data.toList) (ht : goodL t.data.toList) (ls : s.size ≤ 16) (lt : t.size ≤ 16) (h : cmpN s t = 0) : s = t := by
  unfold cmpN at h
  rw [labI_eq, lexI_zero, sgn_zero, sgn_zero] at h
  have e1 : s.data.toList.length = s.size := by rw [Array.length_toList]; rfl
  have e2 : t.data.toList.length = t.size := by rw [Array.length_toList]; rfl
  have h1 : nm 8 s.data.toList = nm 8 t.data.toList := by omega
  have h2 : nm 8 (s.data.toList.drop 8) = nm 8 (t.data.toList.drop 8) := by omega
  rw [nm_split, nm_split t.data.toList] at h1
  have a := nm_inj 8 _ _ (fun b hb => hs b (List.mem_of_mem_take hb)) (fun b hb => ht b (List.mem_of_mem_take hb)) (by rw [List.length_take]; omega) (by rw [List.length_take]; omega) h1
  have b := nm_inj 8 _ _ (fun b hb => hs b (List.mem_of_mem_drop hb)) (fun b hb => ht b (List.mem_of_mem_drop hb)) (by rw [List.length_drop]; omega) (by rw [List.length_drop]; omega) h2
  refine name_ext ?_
  rw [← List.take_append_drop 8 s.data.toList, a, b, List.take_append_drop]
theorem cmpN_self (s : ByteArray) : cmpN s s = 0 := by unfold cmpN; rw [labI_eq, lexI_zero, sgn_zero, sgn_zero]; exact ⟨rfl, rfl⟩
theorem cmpL_zero_of (hh : Nat) (h : ∀ a b : Tm, a.high ≤ hh → allP a → allP b → (cmpT a b = 0 ↔ a = b)) : ∀ (l r : List Tm), highs l ≤ hh → allPs l → allPs r → (cmpL l r = 0 ↔ l = r)
  | [], [], _, _, _ => by simp [cmpL]
  | [], _ :: _, _, _, _ => by simp [cmpL]
  | _ :: _, [], _, _, _ => by simp [cmpL]
  | a :: l, b :: r, hl, p, q => by
    rw [highs] at hl
    rw [allPs] at p q
    rw [cmpL]
    show lexI _ _ = 0 ↔ _
    rw [lexI_zero, h a b (by omega) p.1 q.1, cmpL_zero_of hh h l r (by omega) p.2 q.2]
    simp
theorem cmpT_zero_of (hh : Nat) : ∀ a b : Tm, a.high ≤ hh → allP a → allP b → (cmpT a b = 0 ↔ a = b) := by
  induction hh with
  | zero => intro a b h; have := high_pos a; omega
  | succ hh ih =>
    intro a b h pa pb
    have ha := highs_eq a
    rw [cmpT_lex, lexI_zero, lexI_zero, lexI_zero, lexI_zero, sgn_zero, sgn_zero, sgn_zero, cmpL_zero_of hh ih _ _ (by omega) pa.args pb.args]
    constructor
    · rintro ⟨h1, h2, _, h4, h5⟩
      exact tm_ext h1 (cmpN_zero (goodL_of_plain pa.plain) (goodL_of_plain pb.plain) (plain_name pa.plain) (plain_name pb.plain) h4) h2 h5
    · rintro rfl
      exact ⟨rfl, rfl, rfl, cmpN_self _, rfl⟩
theorem cmpT_zero {a b : Tm} (ha : mayB a = true) (hb : mayB b = true) : cmpT a b = 0 ↔ a = b := cmpT_zero_of a.high a b (Nat.le_refl _) (may_all ha) (may_all hb)
theorem cmpT_eqT {a b : Tm} (ha : mayB a = true) (hb : mayB b = true) : (cmpT a b == 0) = eqT a b := by
  rw [Bool.eq_iff_iff, beq_iff_eq, cmpT_zero ha hb, eqT_iff]
end Go.Proofs.YtkdhpifjljkpfaaGreat
