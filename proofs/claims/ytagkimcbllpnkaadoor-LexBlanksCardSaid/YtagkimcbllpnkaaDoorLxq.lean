/- Package lex: the cursor: sees, seesMinus, pass. -/
import Derived.Test.YtagkimcbllpnkaaDoorLxs
namespace Go.Proofs.YtagkimcbllpnkaaDoor
open Go.RowKit

def headIs (s : ByteArray) (k : Nat) (x : UInt8) : Bool := match lft s k with
  | [] => false
  | c :: _ => c == x
theorem headIs_in {s : ByteArray} {k : Nat} (h : k < s.size) (x : UInt8) : headIs s k x = (s[k] == x) := by unfold headIs; rw [lft_cons s k h]
theorem headIs_end {s : ByteArray} {k : Nat} (h : s.size ≤ k) (x : UInt8) : headIs s k x = false := by
  unfold headIs lft; rw [List.drop_eq_nil_of_le (by simpa using h)]
theorem u8_beq (a b : UInt8) : (((a.toNat : Nat) : Int) == ((b.toNat : Nat) : Int)) = (a == b) := by
  rw [Bool.eq_iff_iff, beq_iff_eq, beq_iff_eq]
  constructor
  · intro h; exact UInt8.toNat_inj.1 (by omega)
  · intro h; rw [h]
theorem drewN_add (w : World) (a b : Nat) : (w.drewN a).drewN b = w.drewN (a + b) := by
  simp [World.drewN, Nat.add_assoc]

set_option maxHeartbeats 1000000 in
theorem sees_any (x : UInt8) (g : Nat) (s : ByteArray) (k b : Nat) (w : World) (h : CurAt w g s k b) (hs : s.size ≤ 4000) :
    Calls Tryd.prog 20 #[.pointer (some ⟨g, 0, none⟩), .int .u8 x.toNat] w fun e w' => e = .returned (.bool (headIs s k x)) ∧ ∃ n, w' = w.drewN n := by
  have hc0 := h.c0
  have hc1 := h.c1
  have _ := hs
  by_cases hlt : k < s.size
  · have hl : decide ((k : Int) < (s.size : Int)) = true := decide_eq_true (by omega)
    have j0 : (0 : Int) ≤ (k : Int) := Int.natCast_nonneg _
    have HE := Lib.hid ((u8_beq s[k] x).trans (headIs_in hlt x).symm)
    go_enter Tryd.func20, Tryd.ntmps20
    go_wp2_with fail
    go_quiet (fail)
    go_wp2_with fail
    go_ret
    exact ⟨ret_bool HE.out, _, rfl⟩
  · have hl : decide ((k : Int) < (s.size : Int)) = false := decide_eq_false (by omega)
    have HE := Lib.hid (headIs_end (s := s) (k := k) (by omega) x)
    go_enter Tryd.func20, Tryd.ntmps20
    go_wp2_with fail
    go_quiet (fail)
    go_wp2_with fail
    go_ret
    exact ⟨by rw [HE.out]; rfl, _, rfl⟩
theorem sees_be (x : UInt8) (g : Nat) (s : ByteArray) (k b : Nat) (r : Bool) (w : World) (h : CurAt w g s k b) (hs : s.size ≤ 4000) (hr : headIs s k x = r) (n : Nat) :
    Calls Tryd.prog 20 #[.pointer (some ⟨g, 0, none⟩), .int .u8 x.toNat] (w.drewN n) fun e w' => e = .returned (.bool r) ∧ ∃ n, w' = w.drewN n :=
  (sees_any x g s k b _ (h.drewN n) hs).mono fun _ _ ⟨e, m, k⟩ => ⟨hr ▸ e, n + m, k.trans (drewN_add _ _ _)⟩

theorem sees_any' (x : UInt8) (g : Nat) (s : ByteArray) (k b : Nat) (r : Bool) (w : World) (h : CurAt w g s k b) (hs : s.size ≤ 4000) (hr : headIs s k x = r) :
    Calls Tryd.prog 20 #[.pointer (some ⟨g, 0, none⟩), .int .u8 x.toNat] w fun e w' => e = .returned (.bool r) ∧ ∃ n, w' = w.drewN n :=
  (sees_any x g s k b _ h hs).mono fun _ _ ⟨e, k⟩ => ⟨hr ▸ e, k⟩

/-- a - with a digit right behind it -/
def minB (s : ByteArray) (k : Nat) : Bool := match lft s k with
  | [] => false
  | c :: r => c == 45 && digB (r.headD 0)

set_option maxHeartbeats 1000000 in
theorem minus_any (g : Nat) (s : ByteArray) (k b : Nat) (w : World) (hC : ClsAt w) (h : CurAt w g s k b) (hs : s.size ≤ 4000) :
    Calls Tryd.prog 23 #[.pointer (some ⟨g, 0, none⟩)] w fun e w' => e = .returned (.bool (minB s k)) ∧ ∃ n, w' = w.drewN n := by
  have hc0 := h.c0
  have hc1 := h.c1
  have HS := fun r hr n => Lib.hid (sees_be 45 g s k b r w h hs hr n)
  cases hb : headIs s k 45 with
  | false =>
    have HE : Hid (minB s k = false) := Lib.hid (by
      unfold headIs at hb; unfold minB
      cases hl : lft s k with
      | nil => rfl
      | cons c r => rw [hl] at hb; simp only at hb ⊢; rw [hb]; rfl)
    have KS := HS false hb
    go_enter Tryd.func23, Tryd.ntmps23
    go_wp2_with fail
    go_quiet ((go_at_call 20; exact (KS _).out))
    go_wp2_with fail
    go_ret
    exact ⟨by rw [HE.out]; rfl, _, rfl⟩
  | true =>
    have KS := HS true hb
    have hk : k < s.size := by
      rcases Nat.lt_or_ge k s.size with h | h
      · exact h
      · rw [headIs_end h] at hb; cases hb
    have hk1 : s[k] == 45 := by rw [← headIs_in hk]; exact hb
    by_cases h2 : k + 1 < s.size
    · obtain ⟨m, hm⟩ : ∃ m, m = k + 1 := ⟨_, rfl⟩
      have hmk : m < s.size := by omega
      have hl : decide ((m : Int) < (s.size : Int)) = true := decide_eq_true (by omega)
      have j0 : (0 : Int) ≤ (m : Int) := by omega
      have hw1 : IntKind.i64.wrap ((k : Int) + 1) = (m : Int) := by rw [IntKind.wrap_i64]; omega
      have HE : Hid (minB s k = clsB 3 s[m]) := Lib.hid (by
        unfold minB
        rw [lft_cons s k hk, ← hm, lft_cons s m hmk]
        simp only [hk1, Bool.true_and, List.headD_cons]; rfl)
      generalize hd : clsB 3 s[m] = D at HE
      have KI := fun n => Lib.hid (Calls.quiet_of_same (n := n) (is_be 3 s[m] D _ (by omega) (hC.ext ((Ext.refl _).drewN n)) hd))
      clear hb hk1 HS hd hm
      go_enter Tryd.func23, Tryd.ntmps23
      go_wp2_with fail
      go_quiet (first
        | (go_at_call 20; exact (KS _).out)
        | (go_at_call 21; exact (KI _).out))
      go_wp2_with fail
      go_ret
      exact ⟨by rw [HE.out]; rfl, _, rfl⟩
    · have hl : decide ((k : Int) + 1 < (s.size : Int)) = false := decide_eq_false (by omega)
      have hw1 : IntKind.i64.wrap ((k : Int) + 1) = (k : Int) + 1 := by rw [IntKind.wrap_i64]; omega
      have HE : Hid (minB s k = false) := Lib.hid (by
        unfold minB
        rw [lft_cons s k hk, show lft s (k + 1) = [] from List.drop_eq_nil_of_le (by simpa using h2)]
        simp only [List.headD_nil]
        rw [Bool.and_eq_false_iff]; exact .inr rfl)
      clear hb hk1 HS
      go_enter Tryd.func23, Tryd.ntmps23
      go_wp2_with fail
      go_quiet (first
        | (go_at_call 20; exact (KS _).out))
      go_wp2_with fail
      go_ret
      exact ⟨by rw [HE.out]; rfl, _, rfl⟩

theorem lft_run (p : UInt8 → Bool) (s : ByteArray) (k : Nat) : lft s (k + runN p s k) = (lft s k).dropWhile p := by
  have h : ∀ l : List UInt8, l.drop (l.takeWhile p).length = l.dropWhile p := by
    intro l
    induction l with
    | nil => rfl
    | cons c r ih => rw [List.takeWhile_cons, List.dropWhile_cons]; split <;> simp [ih]
  unfold runN
  rw [← h (lft s k)]
  unfold lft
  rw [List.drop_drop]
theorem passL_blk (l : List UInt8) : passL false (l.dropWhile blkB) = passL false l := by
  induction l with
  | nil => rfl
  | cons c r ih => rw [List.dropWhile_cons]; split
                   · rename_i h; rw [ih]; simp only [passL, h, if_true]
                   · rfl
theorem passL_row (l : List UInt8) : passL false (l.dropWhile rowB) = passL true l := by
  induction l with
  | nil => rfl
  | cons c r ih =>
    rw [List.dropWhile_cons]; split
    · rename_i h
      rw [ih]
      have : (c == 10) = false := by simpa [rowB] using h
      simp only [passL, this]; rfl
    · rename_i h
      have : (c == 10) = true := by simpa [rowB] using h
      have hb : blkB c = true := by rw [beq_iff_eq.1 this]; rfl
      simp only [passL, this, hb, if_true]
theorem head_run (p : UInt8 → Bool) (s : ByteArray) (k : Nat) : ∀ c r, lft s (k + runN p s k) = c :: r → p c = false := by
  rw [lft_run]
  generalize lft s k = l
  induction l with
  | nil => intro c r h; cases h
  | cons a t ih =>
    intro c r
    rw [List.dropWhile_cons]; split
    · exact ih c r
    · rename_i h; intro e; cases e; simpa using h
/-- a remark, and the blanks behind it -/
theorem passL_remark {s : ByteArray} {k : Nat} (h : headIs s k 37 = true) : passL false (lft s (k + runN rowB s k + runN blkB s (k + runN rowB s k))) = passL false (lft s k) ∧ k + 1 ≤ k + runN rowB s k := by
  unfold headIs at h
  have hk : k < s.size := by
    rcases Nat.lt_or_ge k s.size with h' | h'
    · exact h'
    · rw [show lft s k = [] from List.drop_eq_nil_of_le (by simpa using h')] at h; cases h
  rw [lft_cons s k hk] at h
  simp only at h
  have e : s[k] = 37 := beq_iff_eq.1 h
  have hr : rowB s[k] = true := by rw [e]; rfl
  have hb : blkB s[k] = false := by rw [e]; rfl
  have hn : (s[k] == 10) = false := by rw [e]; rfl
  refine ⟨?_, by rw [runN_yes hk hr]; omega⟩
  rw [lft_run, passL_blk, lft_run, passL_row, lft_cons s k hk]
  simp only [passL, hb, hn, h, if_true, Bool.false_eq_true, if_false]
/-- neither a blank nor a remark stands here -/
theorem passL_stay {s : ByteArray} {k : Nat} (h : headIs s k 37 = false) (hb : ∀ c r, lft s k = c :: r → blkB c = false) : passL false (lft s k) = lft s k := by
  unfold headIs at h
  cases hl : lft s k with
  | nil => rfl
  | cons c r =>
    rw [hl] at h
    simp only at h
    simp only [passL, hb c r hl, h]
    rfl

set_option maxRecDepth 100000 in
set_option maxHeartbeats 1000000 in
theorem pass_any (g : Nat) (s : ByteArray) (k b : Nat) (w : World) (hC : ClsAt w) (h : CurAt w g s k b) (hk : k ≤ s.size) (hs : s.size ≤ 4000) :
    Calls Tryd.prog 14 #[.pointer (some ⟨g, 0, none⟩)] w fun e w' => e = .returned (.tuple #[]) ∧ ∃ j, k ≤ j ∧ j ≤ s.size ∧ lft s j = passL false (lft s k) ∧ CurAt w' g s j b ∧ Chg (· = g) w w' := by
  have hg := h.ne
  go_enter Tryd.func14, Tryd.ntmps14
  go_wp2_with fail
  refine (skip_any 0 g s k b _ (by omega) hC h hk hs).mono ?_
  rintro e w1 ⟨rfl, h1, hx1⟩
  have P1 := Lib.hid ((lft_run blkB s k) ▸ passL_blk (lft s k))
  have Q1 := Lib.hid (head_run blkB s k)
  have l1 := runN_le blkB hk
  have l0 : k ≤ k + runN blkB s k := by omega
  change CurAt w1 g s (k + runN blkB s k) b at h1
  generalize k + runN blkB s k = k1 at *
  go_wp2_with fail
  go_loopg [] (s.size - k1) (fun n wr => ∃ j, k ≤ j ∧ j + n = s.size ∧ Hid (passL false (lft s j) = passL false (lft s k)) ∧ Hid (∀ c r, lft s j = c :: r → blkB c = false) ∧ Hid (CurAt wr g s j b) ∧ Chg (· = g) w wr)
  case atStart => exact ⟨k1, by omega, by omega, P1, Q1, Lib.hid h1, hx1⟩
  case round =>
    obtain ⟨j, hkj, hj, HP, HQ, HC, hx⟩ := hrel
    have HS := fun r hr => Lib.hid (sees_any' 37 g s j b r wr HC.out hs hr)
    have hcls := Lib.hid (hC.chg hx hg)
    cases hb : headIs s j 37 with
    | false =>
      have KS := HS false hb
      have FIN := Lib.hid ((passL_stay hb HQ.out).symm.trans HP.out)
      clear HS hb
      go_wp2_with (go_at_call 20; refine KS.out.mono ?_; rintro e w2 ⟨rfl, n2, rfl⟩)
      go_end0
      exact ⟨rfl, j, by omega, by omega, FIN.out, HC.out.drewN _, hx.drewN _⟩
    | true =>
      have KS := HS true hb
      obtain ⟨hr1, hr2⟩ := passL_remark hb
      have HR1 := Lib.hid (hr1.trans HP.out)
      clear HS hb hr1
      go_wp2_with (go_at_call 20; refine KS.out.mono ?_; rintro e w2 ⟨rfl, n2, rfl⟩)
      refine (skip_any 5 g s j b _ (by omega) (hcls.out.ext ((Ext.refl _).drewN _)) (HC.out.drewN _) (by omega) hs).mono ?_
      rintro e w3 ⟨rfl, h3, hx3⟩
      have hx3' : Chg (· = g) w w3 := (hx.drewN _).trans hx3
      have l3 := runN_le rowB (s := s) (k := j) (by omega)
      have Q3 := Lib.hid (head_run blkB s (j + runN rowB s j))
      change CurAt w3 g s (j + runN rowB s j) b at h3
      generalize j + runN rowB s j = j3 at *
      have H3 := Lib.hid h3
      clear h3
      go_wp2_with fail
      refine (skip_any 0 g s j3 b _ (by omega) (hC.chg hx3' hg) H3.out (by omega) hs).mono ?_
      rintro e w4 ⟨rfl, h4, hx4⟩
      have l4 := runN_le blkB (s := s) (k := j3) (by omega)
      change CurAt w4 g s (j3 + runN blkB s j3) b at h4
      have l5 : j3 ≤ j3 + runN blkB s j3 := by omega
      generalize j3 + runN blkB s j3 = j4 at *
      have H4 := Lib.hid h4
      clear h4
      go_wp2_with fail
      go_roundg (s.size - j4)
      case rel => exact ⟨j4, by omega, by omega, HR1, Q3, H4, hx3'.trans hx4⟩
      case measure => omega
end Go.Proofs.YtagkimcbllpnkaaDoor
