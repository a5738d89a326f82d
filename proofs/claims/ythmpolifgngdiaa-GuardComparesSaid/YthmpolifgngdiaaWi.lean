/- Are two terms the same: EqTerm, EqTerms. -/
import Derived.Test.YthmpolifgngdiaaMB
import Derived.StillTailTactics
namespace Go.Proofs.Ythmpolifgngdiaa
open Go.RowKit

mutual
def eqT : Tm → Tm → Bool
  | ⟨k, s, n, l⟩, b => (k == b.kind) && (s.toList == b.name.toList) && (n == b.n) && eqL l b.args
def eqL : List Tm → List Tm → Bool
  | [], [] => true
  | [], _ :: _ => false
  | _ :: _, [] => false
  | a :: l, b :: r => eqT a b && eqL l r
end
theorem eqL_len : ∀ (l r : List Tm), l.length ≠ r.length → eqL l r = false
  | [], [], h => by simp at h
  | [], _ :: _, _ => by simp [eqL]
  | _ :: _, [], _ => by simp [eqL]
  | a :: l, b :: r, h => by rw [eqL, eqL_len l r (by simpa using h), Bool.and_false]
theorem eqT_eq (a b : Tm) : eqT a b = ((a.kind == b.kind) && (a.name.toList == b.name.toList) && (a.n == b.n) && eqL a.args b.args) := by
  obtain ⟨k, s, n, l⟩ := a; rw [eqT]

/-- EqTerm's contract, for terms not higher than so -/
def EqTo (hh : Nat) : Prop := ∀ (a b : Tm) (A B : Option Addr) (c d : Nat) (w : World), a.high ≤ hh → TmAt w a A c → TmAt w b B d →
    Calls Try.prog 21 #[a.val A c, b.val B d] w fun e w' => e = .returned (.bool (eqT a b)) ∧ Ext w w'

set_option maxRecDepth 100000 in
set_option maxHeartbeats 1000000 in
theorem eqTerms_any (hh : Nat) (hc : EqTo hh) (l r : List Tm) (A B : Option Addr) (c d : Nat) (w : World) (h1 : highs l ≤ hh) (ll : l.length * 56 ≤ 140737488351232)
    (ha : TmsAt w l A) (hb : TmsAt w r B) :
    Calls Try.prog 32 #[.slice A l.length c, .slice B r.length d] w fun e w' => e = .returned (.bool (eqL l r)) ∧ Ext w w' := by
  by_cases hlen : l.length = r.length
  · have H0 : Hid (eqL (l.drop 0) (r.drop 0) = eqL l r) := Lib.hid (by rw [List.drop_zero, List.drop_zero])
    have hne : ((l.length : Int) != (r.length : Int)) = false := by simp [hlen]
    have HL := Lib.hid hlen
    clear hlen
    go_enter Try.func32, Try.ntmps32
    go_wp2_with fail
    go_loopw [5] (fun i wr => ∃ (k : Nat), k ≤ l.length ∧ i = .int .i64 k ∧ Hid (eqL (l.drop k) (r.drop k) = eqL l r) ∧ Ext w wr) (fun i _ => l.length - (intOf i).toNat)
    case atStart => exact ⟨0, Nat.zero_le _, rfl, H0, Ext.refl _⟩
    case round =>
      obtain ⟨k, hk, rfl, H, hx⟩ := hrel
      by_cases hlt : k < l.length
      · have hlt2 : k < r.length := by have := HL.out; omega
        obtain ⟨b, o, C, e, rfl, c0, c1, c2, c3, hsub⟩ := (ha.ext hx).at_ hlt
        obtain ⟨b2, o2, C2, e2, rfl, d0, d1, d2, d3, hsub2⟩ := (hb.ext hx).at_ hlt2
        have H2 : Hid ((eqT l[k] r[k] && eqL (l.drop (k + 1)) (r.drop (k + 1))) = eqL l r) := by
          have := H.out
          rw [List.drop_eq_getElem_cons hlt, List.drop_eq_getElem_cons hlt2, eqL] at this
          exact Lib.hid this
        have hh1 : l[k].high ≤ hh := Nat.le_trans (high_le (List.getElem_mem hlt)) h1
        have i0 : (0 : Int) ≤ (k : Int) := Int.natCast_nonneg _
        have i1 : (k : Int) < (l.length : Int) := by omega
        have i2 : (k : Int) < (r.length : Int) := by omega
        clear H H0
        go_wp2_with fail
        go_still_tail 8, (by kernel_rfl)
        change wpList _ _ _ _ _ wr.drew
        go_wp2_with fail
        refine (hc l[k] r[k] _ _ _ _ _ hh1 (hsub.ext (Ext.refl _).drew) (hsub2.ext (Ext.refl _).drew)).mono ?_
        rintro e w1 ⟨rfl, hx1⟩
        have hx2 := hx.trans ((Ext.refl _).drew.trans hx1)
        by_cases hz : eqT l[k] r[k] = true
        · have H3 : Hid (eqL (l.drop (k + 1)) (r.drop (k + 1)) = eqL l r) := Lib.hid (by have := H2.out; rwa [hz, Bool.true_and] at this)
          clear H2
          go_wp2_with fail
          go_roundw
          case rel => exact ⟨k + 1, by omega, by go_num, H3, hx2⟩
          case measure => simp [intOf]; omega
        · have hz' : eqT l[k] r[k] = false := by simpa using hz
          have H3 : Hid (false = eqL l r) := Lib.hid (by have := H2.out; rwa [hz', Bool.false_and] at this)
          clear H2 hz
          go_wp2_with fail
          go_ret
          exact ⟨ret_bool H3.out, hx2⟩
      · have H3 : Hid (true = eqL l r) := by
          have := H.out
          have := HL.out
          rw [show l.drop k = [] from List.drop_eq_nil_of_le (by omega), show r.drop k = [] from List.drop_eq_nil_of_le (by omega), eqL] at *
          exact Lib.hid H.out
        go_wp2_with fail
        go_ret
        exact ⟨ret_bool H3.out, hx⟩
  · have hne : ((l.length : Int) != (r.length : Int)) = true := by simp; omega
    have H3 : Hid (false = eqL l r) := Lib.hid (eqL_len l r hlen).symm
    clear hlen
    go_enter Try.func32, Try.ntmps32
    go_wp2_with fail
    go_ret
    exact ⟨ret_bool H3.out, Ext.refl _⟩

set_option maxRecDepth 100000 in
set_option maxHeartbeats 1000000 in
theorem eqTerm_all (hh : Nat) : EqTo hh := by
  induction hh with
  | zero => intro a b A B c d w h0; have := high_pos a; omega
  | succ hh ih =>
    intro a b A B c d w h0 ha hb
    have la := ha.fits.args
    have HL : highs a.args ≤ hh := by obtain ⟨k, s, n, l⟩ := a; rw [Tm.high] at h0; simp only; omega
    have E := Lib.hid (eqT_eq a b)
    have hx0 := ((Ext.refl w).alloc (.cells #[.int .i64 a.kind, .string a.name, .int .i64 a.n, .slice A a.args.length c] 32)).alloc (.cells #[.int .i64 b.kind, .string b.name, .int .i64 b.n, .slice B b.args.length d] 32)
    by_cases h1 : (a.kind == b.kind) = true
    · by_cases h2 : (a.name.toList == b.name.toList) = true
      · by_cases h3 : (a.n == b.n) = true
        · have E1 := Lib.hid (show eqT a b = eqL a.args b.args by rw [E.out, h1, h2, h3]; simp)
          clear E
          go_enter Try.func21, Try.ntmps21
          go_wp2_with fail
          refine (eqTerms_any hh ih a.args b.args A B c d _ HL la (ha.args.ext (((Ext.refl _).alloc _).alloc _)) (hb.args.ext (((Ext.refl _).alloc _).alloc _))).mono ?_
          rintro e w2 ⟨rfl, hx2⟩
          go_wp2_with fail
          go_ret
          exact ⟨ret_bool E1.out.symm, hx0.trans hx2⟩
        · have h3' : (a.n == b.n) = false := by simpa using h3
          have E1 := Lib.hid (show false = eqT a b by rw [E.out, h3']; simp)
          clear E h3
          go_enter Try.func21, Try.ntmps21
          go_wp2_with fail
          go_ret
          exact ⟨ret_bool E1.out, hx0⟩
      · have h2' : (a.name.toList == b.name.toList) = false := by simpa using h2
        have E1 := Lib.hid (show false = eqT a b by rw [E.out, h2']; simp)
        clear E h2
        go_enter Try.func21, Try.ntmps21
        go_wp2_with fail
        go_ret
        exact ⟨ret_bool E1.out, hx0⟩
    · have h1' : (a.kind == b.kind) = false := by simpa using h1
      have E1 := Lib.hid (show false = eqT a b by rw [E.out, h1']; simp)
      clear E h1
      go_enter Try.func21, Try.ntmps21
      go_wp2_with fail
      go_ret
      exact ⟨ret_bool E1.out, hx0⟩
end Go.Proofs.Ythmpolifgngdiaa
