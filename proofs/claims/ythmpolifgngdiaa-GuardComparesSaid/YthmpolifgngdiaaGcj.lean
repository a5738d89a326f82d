/- GuardCompares: the page's own comparison, what is asked to be awake. -/
import Derived.Test.YthmpolifgngdiaaGcg
import Derived.Test.YthmpolifgngdiaaRb
import Derived.Test.YthmpolifgngdiaaRva
namespace Go.Proofs.Ythmpolifgngdiaa
open Go.RowKit

theorem betweenG_any (n lo hi : Int) (w : World) : Calls Try.prog 6 #[.int .i64 n, .int .i64 lo, .int .i64 hi] w fun e w' => e = .returned (.bool (decide (lo ≤ n) && decide (n ≤ hi))) ∧ Ext w w' := by
  go_enter Try.func6, Try.ntmps6
  cases h1 : decide (lo ≤ n) <;> cases h2 : decide (n ≤ hi)
  all_goals
    go_wp2_with fail
    go_ret
    exact ⟨rfl, Ext.refl w⟩
theorem num12_any (n : Int) (w : World) : Calls Try.prog 10 #[.int .i64 n] w fun e w' => e = .returned (.int .i64 n) ∧ w = w' := by
  go_enter Try.func10, Try.ntmps10
  go_wp2_with fail
  go_ret
  exact ⟨rfl, rfl⟩

/-- the page's comparison -/
def rcP (kind : Int) (a b : Tm) : Bool × Bool :=
  if kind = 3 then (eqT a b, true) else if kind = 4 then (!eqT a b, true) else
    if a.kind ≠ 2 ∨ b.kind ≠ 2 then (false, false) else if kind = 1 then (decide (a.n < b.n), true) else (decide (a.n ≤ b.n), true)
theorem ptOf_two (t : Tm) : (ptOf t).k = 2 ↔ t.kind = 2 := by
  unfold ptOf
  split
  · rename_i h; exact ⟨fun _ => h, fun _ => rfl⟩
  · exact Iff.rfl
theorem ptOf_n {t : Tm} (h : t.kind = 2) : (ptOf t).n = t.n := by unfold ptOf; rw [if_pos h]
theorem rc_page {kind : Int} {a b : Tm} (hk : kindB kind = true) (ma : mayB a = true) (mb : mayB b = true) (ga : groundT a = true) (gb : groundT b = true) : rcT kind a b = rcP kind a b := by
  have he : ptsEq (gpT a) (gpT b) = eqT a b := by
    have h1 := ptsEq_iff (gpT a) (gpT b)
    have h2 := gp_same (may_all ma) (may_all mb) ga gb
    cases hx : ptsEq (gpT a) (gpT b) <;> cases hy : eqT a b <;> simp_all
  unfold rcT rcB rcP
  rw [he]
  by_cases h3 : kind = 3
  · rw [if_pos h3, if_pos h3]
  · by_cases h4 : kind = 4
    · rw [if_neg h3, if_neg h3, if_pos h4, if_pos h4]
    · rw [if_neg h3, if_neg h3, if_neg h4, if_neg h4]
      have e1 := ptOf_two a
      have e2 := ptOf_two b
      by_cases hab : a.kind ≠ 2 ∨ b.kind ≠ 2
      · rw [if_pos hab, if_pos (by rcases hab with h | h; exact .inl (fun k => h (e1.1 k)); exact .inr (fun k => h (e2.1 k)))]
      · have h1 : a.kind = 2 := Classical.byContradiction fun h => hab (.inl h)
        have h2 : b.kind = 2 := Classical.byContradiction fun h => hab (.inr h)
        rw [if_neg hab, if_neg (by rintro (h | h); exact h (e1.2 h1); exact h (e2.2 h2)), ptOf_n h1, ptOf_n h2]
        unfold kindB at hk
        simp only [Bool.and_eq_true, decide_eq_true_eq] at hk
        have hk2 : kind = 1 ∨ kind = 2 := by omega
        rcases hk2 with rfl | rfl
        · rw [if_pos rfl]; simp
        · rw [if_neg (by decide)]
          by_cases hlt : a.n < b.n
          · have : a.n ≤ b.n := by omega
            simp [hlt, this]
          · by_cases heq : a.n = b.n
            · simp [heq]
            · have : ¬ a.n ≤ b.n := by omega
              simp [hlt, heq, this]

set_option maxRecDepth 100000 in
set_option maxHeartbeats 2000000 in
theorem rCompare_any (kind : Int) (a b : Tm) (A B : Option Addr) (c d : Nat) (w : World) (hA : TmAt w a A c) (hB : TmAt w b B d) :
    Calls Try.prog 9 #[.int .i64 kind, a.val A c, b.val B d] w fun e w' => e = .returned (.tuple #[.bool (rcP kind a b).1, .bool (rcP kind a b).2]) ∧ Ext w w' := by
  have hb : Ext w ((w.alloc (.cells #[.int .i64 a.kind, .string a.name, .int .i64 a.n, .slice A a.args.length c] 32)).alloc (.cells #[.int .i64 b.kind, .string b.name, .int .i64 b.n, .slice B b.args.length d] 32)) := ((Ext.refl w).alloc _).alloc _
  have KE := Lib.hid (fun (u : World) (hu : Ext w u) => eqTerm_all a.high a b A B c d u (Nat.le_refl _) (hA.ext hu) (hB.ext hu))
  by_cases h3 : kind = 3
  · have hq : (kind == 3) = true := by rw [h3]; rfl
    have E : Hid (rcP kind a b = (eqT a b, true)) := Lib.hid (by unfold rcP; rw [if_pos h3])
    clear h3
    go_enter Try.func9, Try.ntmps9
    go_wp2_with fail
    refine (KE.out _ hb).mono ?_
    rintro e1 w1 ⟨rfl, hx1⟩
    go_wp2_with fail
    go_ret2
    exact ⟨by rw [E.out]; rfl, hb.trans hx1⟩
  · by_cases h4 : kind = 4
    · have hq3 : (kind == 3) = false := by rw [h4]; rfl
      have hq : (kind == 4) = true := by rw [h4]; rfl
      have E : Hid (rcP kind a b = (!eqT a b, true)) := Lib.hid (by unfold rcP; rw [if_neg h3, if_pos h4])
      clear h3 h4
      go_enter Try.func9, Try.ntmps9
      go_wp2_with fail
      refine (KE.out _ hb).mono ?_
      rintro e1 w1 ⟨rfl, hx1⟩
      go_wp2_with fail
      go_ret2
      exact ⟨by rw [E.out]; rfl, hb.trans hx1⟩
    · have hq3 : (kind == 3) = false := by simpa using h3
      have hq4 : (kind == 4) = false := by simpa using h4
      have E : Hid (rcP kind a b = if a.kind ≠ 2 ∨ b.kind ≠ 2 then (false, false) else if kind = 1 then (decide (a.n < b.n), true) else (decide (a.n ≤ b.n), true)) := Lib.hid (by unfold rcP; rw [if_neg h3, if_neg h4])
      clear h3 h4
      by_cases ha : a.kind = 2
      · have e1 : (a.kind != 2) = false := by rw [ha]; rfl
        by_cases hb2 : b.kind = 2
        · have e2 : (b.kind != 2) = false := by rw [hb2]; rfl
          have E2 : Hid (rcP kind a b = if kind = 1 then (decide (a.n < b.n), true) else (decide (a.n ≤ b.n), true)) := Lib.hid (by rw [E.out, if_neg (by omega)])
          clear E ha hb2
          by_cases h1 : kind = 1
          · have e5 : (kind == 1) = true := by rw [h1]; rfl
            have E3 : Hid (rcP kind a b = (decide (a.n < b.n), true)) := Lib.hid (by rw [E2.out, if_pos h1])
            clear E2 h1
            go_enter Try.func9, Try.ntmps9
            go_wp2_with fail
            go_ret2
            exact ⟨by rw [E3.out]; rfl, hb⟩
          · have e5 : (kind == 1) = false := by simpa using h1
            have E3 : Hid (rcP kind a b = (decide (a.n ≤ b.n), true)) := Lib.hid (by rw [E2.out, if_neg h1])
            clear E2 h1
            go_enter Try.func9, Try.ntmps9
            go_wp2_with fail
            go_ret2
            exact ⟨by rw [E3.out]; rfl, hb⟩
        · have e2 : (b.kind != 2) = true := by simpa using hb2
          have E2 : Hid (rcP kind a b = (false, false)) := Lib.hid (by rw [E.out, if_pos (.inr hb2)])
          clear E ha hb2
          go_enter Try.func9, Try.ntmps9
          go_wp2_with fail
          go_ret2
          exact ⟨by rw [E2.out]; rfl, hb⟩
      · have e1 : (a.kind != 2) = true := by simpa using ha
        have E2 : Hid (rcP kind a b = (false, false)) := Lib.hid (by rw [E.out, if_pos (.inl ha)])
        clear E ha
        go_enter Try.func9, Try.ntmps9
        go_wp2_with fail
        go_ret2
        exact ⟨by rw [E2.out]; rfl, hb⟩

def nTm (n : Int) : Tm := ⟨2, ⟨#[]⟩, n, []⟩
theorem nTm_at (n : Int) (hn : (Lit.int .i64 n).wf = true) (w : World) : TmAt w (nTm n) none 0 :=
  .mk (nTm n) none 0 (fun _ => none) (fun _ => 0) ⟨by show (Lit.int .i64 2).wf = true; decide, hn, (by decide : (⟨#[]⟩ : ByteArray).size ≤ 140737488351232), by simp [nTm]⟩ (Nat.le_refl _) (fun i hi => absurd hi (by simp [nTm])) (fun i hi => absurd hi (by simp [nTm]))
theorem wakes_gc : gcR 1 (nTm 1) (nTm 2) = (true, 0) := by kernel_rfl
theorem wakes12_any (w : World) : Calls Try.prog 11 #[] w fun e w' => e = .returned (.bool true) ∧ Ext w w' := by
  have KC := Lib.hid (fun u : World => Compare_any 1 (nTm 1) (nTm 2) none none 0 0 u (nTm_at 1 (by decide) u) (nTm_at 2 (by decide) u))
  rw [wakes_gc] at KC
  go_enter Try.func11, Try.ntmps11
  go_wp2_with fail
  refine (KC.out _).mono ?_
  rintro e1 w1 ⟨rfl, hx1⟩
  go_wp2_with fail
  refine (num12_any _ _).mono ?_
  rintro e2 w2 ⟨rfl, rfl⟩
  go_wp2_with fail
  go_ret
  exact ⟨rfl, hx1⟩
end Go.Proofs.Ythmpolifgngdiaa
