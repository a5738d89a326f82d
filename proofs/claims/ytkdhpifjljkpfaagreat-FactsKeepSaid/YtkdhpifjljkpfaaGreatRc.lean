/- The document's own order: almagestref1.sign, text, Order; that it is the program's. -/
import Derived.Test.YtkdhpifjljkpfaaGreatRb
import Derived.Test.YtkdhpifjljkpfaaGreatOrd
import Derived.WalkLawsBesides
namespace Go.Proofs.YtkdhpifjljkpfaaGreat
open Go.RowKit

/-- how two texts compare -/
def textC (s t : ByteArray) : Int := if Op.bytesLess s.toList t.toList = true then -1 else if s.toList = t.toList then 0 else 1

theorem sign_any (a b : Int) (w : World) : Calls Tryz.prog 98 #[.int .i64 a, .int .i64 b] w fun e w' => e = .returned (.int .i64 (sgn a b)) ∧ w = w' := by
  have E : Hid (sgn a b = if a < b then -1 else if b < a then 1 else 0) := Lib.hid rfl
  go_enter Tryz.func98, Tryz.ntmps98
  go_wp2
  all_goals
    go_ret
    exact ⟨ret_int (by rw [E.out]; first | (rw [if_pos (by omega)]; done) | (rw [if_neg (by omega), if_pos (by omega)]; done) | (rw [if_neg (by omega), if_neg (by omega)]; done)), rfl⟩
theorem text_any (s t : ByteArray) (w : World) : Calls Tryz.prog 99 #[.string s, .string t] w fun e w' => e = .returned (.int .i64 (textC s t)) ∧ w = w' := by
  have E : Hid (textC s t = if Op.bytesLess s.toList t.toList = true then -1 else if s.toList = t.toList then 0 else 1) := Lib.hid rfl
  go_enter Tryz.func99, Tryz.ntmps99
  go_wp2
  all_goals
    go_ret
    exact ⟨ret_int (by rw [E.out]; simp_all), rfl⟩

/-! names as numbers rise as the texts do -/
theorem nm_less : ∀ (m : Nat) (l r : List UInt8), goodL l → goodL r → l.length ≤ m → r.length ≤ m → (Op.bytesLess l r = true ↔ nm m l < nm m r)
  | 0, l, r, _, _, h1, h2 => by
    have e1 : l = [] := List.eq_nil_of_length_eq_zero (by omega)
    have e2 : r = [] := List.eq_nil_of_length_eq_zero (by omega)
    subst e1 e2
    simp [nm, Op.bytesLess]
  | m + 1, [], [], _, _, _, _ => by simp [nm, Op.bytesLess]
  | m + 1, [], b :: r, _, hr, _, _ => by
    have hb := hr b (by simp)
    have : 0 < b.toNat * 256 ^ m := Nat.mul_pos hb (Nat.pow_pos (by omega))
    simp only [nm, Op.bytesLess]
    exact ⟨fun _ => by omega, fun _ => trivial⟩
  | m + 1, a :: l, [], _, _, _, _ => by simp [nm, Op.bytesLess]
  | m + 1, a :: l, b :: r, hl, hr, h1, h2 => by
    have ih := nm_less m l r (fun x hx => hl x (by simp [hx])) (fun x hx => hr x (by simp [hx])) (by simpa using h1) (by simpa using h2)
    have x1 := nm_lt m l
    have x2 := nm_lt m r
    simp only [nm, Op.bytesLess, Bool.or_eq_true, Bool.and_eq_true, decide_eq_true_eq, beq_iff_eq, ih, UInt8.lt_iff_toNat_lt]
    constructor
    · rintro (h | ⟨rfl, h⟩)
      · have : a.toNat * 256 ^ m + 256 ^ m ≤ b.toNat * 256 ^ m := by
          have := Nat.mul_le_mul_right (256 ^ m) (show a.toNat + 1 ≤ b.toNat from h)
          rwa [Nat.add_mul, Nat.one_mul] at this
        omega
      · omega
    · intro h
      rcases Nat.lt_trichotomy a.toNat b.toNat with h' | h' | h'
      · exact .inl h'
      · have e : a = b := UInt8.toNat_inj.1 h'
        subst e
        exact .inr ⟨rfl, by omega⟩
      · exfalso
        have : b.toNat * 256 ^ m + 256 ^ m ≤ a.toNat * 256 ^ m := by
          have := Nat.mul_le_mul_right (256 ^ m) (show b.toNat + 1 ≤ a.toNat from h')
          rwa [Nat.add_mul, Nat.one_mul] at this
        omega
theorem nm_join : ∀ (m k : Nat) (l : List UInt8), nm (m + k) l = nm m l * 256 ^ k + nm k (l.drop m)
  | 0, k, l => by simp [nm]
  | m + 1, k, [] => by simp [nm_nil]
  | m + 1, k, a :: l => by
    have e : m + 1 + k = (m + k) + 1 := by omega
    rw [e]
    simp only [nm, List.drop_succ_cons]
    rw [nm_join m k l, Nat.pow_add, Nat.add_mul, Nat.mul_assoc]
    omega
theorem sgn_lt {a b : Int} (h : a < b) : sgn a b = -1 := by simp [sgn, h]
theorem sgn_gt {a b : Int} (h : b < a) : sgn a b = 1 := by unfold sgn; rw [if_neg (by omega), if_pos h]
theorem lab_sgn (a b c d : Nat) (hb : b < 18446744073709551616) (hd : d < 18446744073709551616) : labI a b c d = sgn ((a * 18446744073709551616 + b : Nat) : Int) ((c * 18446744073709551616 + d : Nat) : Int) := by
  rw [labI_eq]
  rcases Nat.lt_trichotomy a c with h | h | h
  · rw [sgn_lt (show (a : Int) < c by omega), lexI_ne (by omega), sgn_lt (by omega)]
  · subst h
    rw [sgn_self, lexI_eq rfl]
    rcases Nat.lt_trichotomy b d with h | h | h
    · rw [sgn_lt (by omega), sgn_lt (by omega)]
    · subst h; rw [sgn_self, sgn_self]
    · rw [sgn_gt (by omega), sgn_gt (by omega)]
  · rw [sgn_gt (show (c : Int) < a by omega), lexI_ne (by omega), sgn_gt (by omega)]
theorem labI_nm (l r : List UInt8) : labI (nm 8 l : Nat) (nm 8 (l.drop 8) : Nat) (nm 8 r : Nat) (nm 8 (r.drop 8) : Nat) = sgn (nm 16 l : Nat) (nm 16 r : Nat) := by
  have e : (256 : Nat) ^ 8 = 18446744073709551616 := by decide
  have h1 : nm 16 l = nm 8 l * 256 ^ 8 + nm 8 (l.drop 8) := nm_join 8 8 l
  have h2 : nm 16 r = nm 8 r * 256 ^ 8 + nm 8 (r.drop 8) := nm_join 8 8 r
  rw [e] at h1 h2
  rw [lab_sgn _ _ _ _ (nm_lt8 _) (nm_lt8 _), h1, h2]
theorem cmpN_text {s t : ByteArray} (hs : goodL s.data.toList) (ht : goodL t.data.toList) (ls : s.size ≤ 16) (lt : t.size ≤ 16) : cmpN s t = textC s t := by
  have e1 : s.data.toList.length = s.size := by rw [Array.length_toList]; rfl
  have e2 : t.data.toList.length = t.size := by rw [Array.length_toList]; rfl
  have h := nm_less 16 s.data.toList t.data.toList hs ht (by omega) (by omega)
  unfold cmpN textC
  rw [labI_nm, ByteArray.toList_eq, ByteArray.toList_eq]
  rcases Nat.lt_trichotomy (nm 16 s.data.toList) (nm 16 t.data.toList) with c | c | c
  · rw [sgn_lt (by omega), if_pos (h.2 c)]
  · have e : s.data.toList = t.data.toList := nm_inj 16 _ _ hs ht (by omega) (by omega) c
    rw [c, sgn_self, if_neg (fun x => by have := h.1 x; omega), if_pos e]
  · have e : ¬ s.data.toList = t.data.toList := fun x => by rw [x] at c; omega
    rw [sgn_gt (by omega), if_neg (fun x => by have := h.1 x; omega), if_neg e]

mutual
/-- the page's order -/
def ordR : Tm → Tm → Int
  | ⟨k, s, n, l⟩, b =>
    if (k != b.kind) = true then sgn k b.kind
    else if (k == 1) = true then textC s b.name
    else if (k == 2) = true then sgn n b.n
    else ordRL l b.args (if (sgn l.length b.args.length == 0) = true then textC s b.name else sgn l.length b.args.length)
def ordRL : List Tm → List Tm → Int → Int
  | [], _, n => n
  | _ :: _, [], n => n
  | a :: l, b :: r, n => if (n == 0) = true then ordRL l r (ordR a b) else n
end
theorem ordR_eq (a b : Tm) : ordR a b = if (a.kind != b.kind) = true then sgn a.kind b.kind
    else if (a.kind == 1) = true then textC a.name b.name
    else if (a.kind == 2) = true then sgn a.n b.n
    else ordRL a.args b.args (if (sgn a.args.length b.args.length == 0) = true then textC a.name b.name else sgn a.args.length b.args.length) := by obtain ⟨k, s, n, l⟩ := a; rw [ordR]
theorem ordRL_ne : ∀ (l r : List Tm) (n : Int), n ≠ 0 → ordRL l r n = n
  | [], _, n, _ => by simp [ordRL]
  | _ :: _, [], n, _ => by simp [ordRL]
  | a :: l, b :: r, n, h => by simp [ordRL, h]

/-- the page's is the program's, of terms that may be -/
theorem ordRL_cmp (hh : Nat) (h : ∀ a b : Tm, a.high ≤ hh → allP a → allP b → ordR a b = cmpT a b) : ∀ (l r : List Tm), highs l ≤ hh → allPs l → allPs r → l.length = r.length → ordRL l r 0 = cmpL l r
  | [], [], _, _, _, _ => by simp [ordRL, cmpL]
  | a :: l, b :: r, hl, p, q, e => by
    rw [highs] at hl
    rw [allPs] at p q
    rw [ordRL, if_pos (by simp), cmpL, h a b (by omega) p.1 q.1]
    by_cases hz : cmpT a b = 0
    · rw [hz, if_neg (by simp)]
      exact ordRL_cmp hh h l r (by omega) p.2 q.2 (by simpa using e)
    · rw [ordRL_ne _ _ _ hz, if_pos (by simp [hz])]
theorem ordR_cmp_of (hh : Nat) : ∀ a b : Tm, a.high ≤ hh → allP a → allP b → ordR a b = cmpT a b := by
  induction hh with
  | zero => intro a b h; have := high_pos a; omega
  | succ hh ih =>
    intro a b h pa pb
    have ha := highs_eq a
    have hN := cmpN_text (goodL_of_plain pa.plain) (goodL_of_plain pb.plain) (plain_name pa.plain) (plain_name pb.plain)
    rw [ordR_eq, cmpT_lex]
    by_cases hk : a.kind = b.kind
    · rw [if_neg (by simp [hk]), lexI_eq (by rw [hk, sgn_self])]
      have qa := pa.plain
      have qb := pb.plain
      unfold plainB at qa qb
      by_cases k1 : a.kind = 1
      · have k1b : b.kind = 1 := hk ▸ k1
        simp [k1] at qa
        simp [k1b] at qb
        rw [if_pos (by simp [k1]), qa.1.2, qb.1.2, sgn_self, lexI_eq rfl, qa.2, qb.2, sgn_self, lexI_eq rfl, hN]
        by_cases hz : textC a.name b.name = 0
        · rw [lexI_eq hz, hz]; simp [cmpL]
        · rw [lexI_ne hz]
      · by_cases k2 : a.kind = 2
        · have k2b : b.kind = 2 := hk ▸ k2
          simp [k2] at qa
          simp [k2b] at qb
          rw [if_neg (by simp [k1]), if_pos (by simp [k2]), qa.2, qb.2, sgn_self]
          have ea : a.name = ⟨#[]⟩ := name_ext (by have := qa.1.1.1; rw [ByteArray.toList_eq] at this; simpa using this)
          have eb : b.name = ⟨#[]⟩ := name_ext (by have := qb.1.1.1; rw [ByteArray.toList_eq] at this; simpa using this)
          rw [ea, eb, cmpN_self]
          by_cases hz : sgn a.n b.n = 0
          · rw [lexI_eq hz, hz, lexI_eq rfl, lexI_eq rfl]; simp [cmpL]
          · rw [lexI_ne hz]
        · by_cases k3 : a.kind = 3
          · have k3b : b.kind = 3 := hk ▸ k3
            simp [k3] at qa
            simp [k3b] at qb
            rw [if_neg (by simp [k1]), if_neg (by simp [k2]), qa.1.2, qb.1.2, sgn_self, lexI_eq rfl]
            by_cases hl : a.args.length = b.args.length
            · have el : sgn a.args.length b.args.length = 0 := by rw [hl, sgn_self]
              rw [if_pos (by simp [el]), lexI_eq el, hN]
              by_cases hz : textC a.name b.name = 0
              · rw [hz, lexI_eq rfl]
                exact ordRL_cmp hh ih a.args b.args (by omega) pa.args pb.args hl
              · rw [lexI_ne hz, ordRL_ne _ _ _ hz]
            · have el : sgn a.args.length b.args.length ≠ 0 := fun e => hl (by have := sgn_zero.1 e; omega)
              rw [if_neg (by simp [el]), lexI_ne el, ordRL_ne _ _ _ el]
          · simp [k1, k2, k3] at qa
    · rw [if_pos (by simp [hk]), lexI_ne (fun e => hk (sgn_zero.1 e))]
theorem ordR_cmp {a b : Tm} (ha : mayB a = true) (hb : mayB b = true) : ordR a b = cmpT a b := ordR_cmp_of a.high a b (Nat.le_refl _) (may_all ha) (may_all hb)
end Go.Proofs.YtkdhpifjljkpfaaGreat
