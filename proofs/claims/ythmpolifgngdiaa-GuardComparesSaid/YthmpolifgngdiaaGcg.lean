/- guard.Compare. -/
import Derived.Test.YthmpolifgngdiaaGce
namespace Go.Proofs.Ythmpolifgngdiaa
open Go.RowKit

theorem gp_fits (d : Nat) : ∀ (t : Tm) (L : Int), 0 ≤ L → (fitsT t d L).1 = true → ((gpT t).length : Int) = L - (fitsT t d L).2 := by
  have step : ∀ d : Nat, (∀ (t : Tm) (L : Int), 0 ≤ L → (fitsT t d L).1 = true → ((gpT t).length : Int) = L - (fitsT t d L).2) → ∀ (ts : List Tm) (L : Int), 0 ≤ L → (fitsL ts d L).1 = true → ((gpL ts).length : Int) = L - (fitsL ts d L).2 := by
    intro d ih ts
    induction ts with
    | nil => intro L _ _; simp [gpL, fitsL]
    | cons t ts ihl =>
      intro L hL h
      rw [fitsL] at h ⊢
      by_cases ht : (fitsT t d L).1 = true
      · rw [if_pos ht] at h ⊢
        have h0 := ((fits_bd d).1 t L hL).1
        have h1 := ih t L hL ht
        have h2 := ihl _ h0 h
        rw [gpL, List.length_append]
        omega
      · rw [if_neg ht] at h
        cases h
  induction d with
  | zero => intro t L _ h; obtain ⟨k, s, n, l⟩ := t; rw [fitsT] at h; cases h
  | succ d ih =>
    intro t L hL h
    obtain ⟨k, s, n, l⟩ := t
    rw [fitsT] at h ⊢
    by_cases h0 : L = 0
    · rw [if_pos h0] at h; cases h
    · rw [if_neg h0] at h ⊢
      by_cases hp : plainB ⟨k, s, n, l⟩ = true
      · rw [if_pos hp] at h ⊢
        have := step d ih l (L - 1) (by omega) h
        rw [gpT, List.length_cons]
        omega
      · rw [if_neg hp] at h; cases h
theorem gp_len {t : Tm} (h : mayB t = true) : (gpT t).length ≤ 24 := by
  have h1 := gp_fits 5 t 24 (by omega) h
  have h2 := ((fits_bd 5).1 t 24 (by omega)).1
  omega

/-- what compare tells of two terms -/
def rcT (kind : Int) (a b : Tm) : Bool × Bool := rcB kind (ptOf a) (ptOf b) (ptsEq (gpT a) (gpT b))
theorem rowCmpT (kind : Int) (a b : Tm) (A B : Option Addr) (c d : Nat) (R : Value) (w : World) (ma : mayB a = true) (mb : mayB b = true) (ga : groundT a = true) (gb : groundT b = true) (hA : GptsAt w (gpT a) A) (hB : GptsAt w (gpT b) B) (hRv : ∃ a, R = .pointer (some ⟨a, 0, none⟩)) :
    Calls Try.prog 17 #[R, .int .i64 kind, .slice A (gpT a).length c, .slice B (gpT b).length d] w fun e w' => e = .returned (.tuple #[.bool (rcT kind a b).1, .bool (rcT kind a b).2]) ∧ Ext w w' := by
  have la := gp_len ma
  have na := ground_ne a (Nat.le_refl _) (may_all ma) ga
  have nb := ground_ne b (Nat.le_refl _) (may_all mb) gb
  unfold rcT
  rw [gpT_eq a] at hA na la ⊢
  rw [gpT_eq b] at hB nb ⊢
  rw [List.length_cons] at la
  exact rowCmp_any kind (ptOf a) (ptOf b) (gpL a.args) (gpL b.args) A B c d R w (by omega) hA hB na nb hRv

def nXg : ByteArray := ⟨#[88]⟩
theorem varB_X : varB nXg = true := by decide
theorem join_one (t : Tm) : joinB [⟨nXg, t⟩] [] = (mayB t && groundT t) := by
  have h1 : bindsB [] = true := by decide
  have h2 : grL [] = true := by decide
  unfold joinB
  rw [h1, h2]
  unfold bindsB
  cases hm : mayB t <;> cases hg : groundT t <;> simp [okL, grL, upB, hm, hg, varB_X]

set_option maxRecDepth 100000 in
set_option maxHeartbeats 2000000 in
theorem bindsMay_any (bs : List Bd) (A : Option Addr) (c : Nat) (w : World) (hB : BdsAt w bs A) (hc : bs.length ≤ c) (hl : bs.length ≤ 1000000) :
    Calls Try.prog 25 #[.slice A bs.length c] w fun e w' => e = .returned (.bool (joinB bs [])) ∧ Ext w w' := by
  have KJ := Lib.hid (Join_any bs [] A none c 0 w hB (BdsAt.nil _ _) hc (by simp) hl (by simp))
  clear hB
  go_enter Try.func25, Try.ntmps25
  go_wp2_with fail
  refine KJ.out.mono ?_
  rintro e1 w1 ⟨hx1, ⟨hj, rfl⟩ | ⟨hj, hm, rfl⟩ | ⟨us, hj, hm, ⟨h16, rfl⟩ | ⟨h16, A', c', B', d', G', rfl, _, _⟩⟩⟩
  · have HJ := Lib.hid hj
    clear hj
    go_wp2_with fail
    go_ret
    exact ⟨by rw [HJ.out]; rfl, hx1⟩
  · rw [mergeL_nil] at hm
    cases hm
  · rw [mergeL_nil] at hm
    injection hm with hm
    subst hm
    have h2 : bindsB bs = true := by unfold joinB at hj; simp only [Bool.and_eq_true] at hj; exact hj.1.1
    have := (binds_ok h2).1
    omega
  · have HJ := Lib.hid hj
    clear hj hm h16
    go_wp2_with fail
    go_ret
    exact ⟨by rw [HJ.out]; rfl, hx1⟩

set_option maxRecDepth 100000 in
set_option maxHeartbeats 2000000 in
theorem groundMay_any (t : Tm) (A : Option Addr) (c : Nat) (w : World) (h : TmAt w t A c) :
    Calls Try.prog 16 #[t.val A c] w fun e w' => e = .returned (.bool (mayB t && groundT t)) ∧ Ext w w' := by
  obtain ⟨W, hW⟩ : ∃ W, W = (w.alloc (.cells #[.int .i64 t.kind, .string t.name, .int .i64 t.n, .slice A t.args.length c] 32)).alloc (.cells #[.string nXg, .int .i64 t.kind, .string t.name, .int .i64 t.n, .slice A t.args.length c] 67) := ⟨_, rfl⟩
  have hb : Ext w W := by rw [hW]; exact ((Ext.refl w).alloc _).alloc _
  have hB : BdsAt W [⟨nXg, t⟩] (some ⟨w.heap.size + 1, 0, none⟩) := by
    intro i hi
    obtain rfl : i = 0 := by simp at hi; omega
    refine ⟨w.heap.size + 1, 0, A, c, rfl, ?_, ?_, ?_, ?_, ?_, h.ext hb, (by decide : nXg.size ≤ 140737488351232)⟩ <;> (rw [hW]; simp only [List.getElem_cons_zero]; go_simp)
  have KB := Lib.hid (bindsMay_any [⟨nXg, t⟩] (some ⟨w.heap.size + 1, 0, none⟩) 1 W hB (by simp) (by simp))
  rw [join_one] at KB
  have HW := Lib.hid hW
  clear hB hW
  go_enter Try.func16, Try.ntmps16
  go_wp2_with fail
  have hW2 := HW.out
  unfold nXg at hW2
  rw [← hW2]
  refine KB.out.mono ?_
  rintro e1 w1 ⟨rfl, hx1⟩
  clear HW hW2
  go_wp2_with fail
  go_ret
  exact ⟨rfl, hb.trans hx1⟩

def kindB (kind : Int) : Bool := decide (1 ≤ kind) && decide (kind ≤ 4)
theorem compares_any (kind : Int) (w : World) : Calls Try.prog 15 #[.int .i64 kind] w fun e w' => e = .returned (.bool (kindB kind)) ∧ w' = w := by
  have E : Hid (kindB kind = (decide (1 ≤ kind) && decide (kind ≤ 4))) := Lib.hid rfl
  cases h1 : decide (1 ≤ kind) <;> cases h2 : decide (kind ≤ 4)
  all_goals
    rw [h1, h2] at E
    go_enter Try.func15, Try.ntmps15
    go_wp2_with fail
    go_ret
    exact ⟨by rw [E.out]; rfl, rfl⟩

/-- what guard.Compare tells: so, and the error -/
def gcR (kind : Int) (a b : Tm) : Bool × Int :=
  if (kindB kind && ((mayB a && groundT a) && (mayB b && groundT b))) = true then (if (rcT kind a b).2 = true then ((rcT kind a b).1, 0) else (false, 3)) else (false, 1)

set_option maxRecDepth 100000 in
set_option maxHeartbeats 8000000 in
theorem Compare_any (kind : Int) (a b : Tm) (A B : Option Addr) (c d : Nat) (w : World) (hA : TmAt w a A c) (hB : TmAt w b B d) :
    Calls Try.prog 5 #[.int .i64 kind, a.val A c, b.val B d] w fun e w' => e = .returned (.tuple #[.bool (gcR kind a b).1, .int .i64 (gcR kind a b).2]) ∧ Ext w w' := by
  obtain ⟨W, hW⟩ : ∃ W, W = (w.alloc (.cells #[.int .i64 a.kind, .string a.name, .int .i64 a.n, .slice A a.args.length c] 32)).alloc (.cells #[.int .i64 b.kind, .string b.name, .int .i64 b.n, .slice B b.args.length d] 32) := ⟨_, rfl⟩
  have hb : Ext w W := by rw [hW]; exact ((Ext.refl w).alloc _).alloc _
  have a0 : W.cell? ⟨w.heap.size, 0, none⟩ = some (.int .i64 a.kind) := by rw [hW]; go_simp
  have a1 : W.cell? ⟨w.heap.size, 1, none⟩ = some (.string a.name) := by rw [hW]; go_simp
  have a2 : W.cell? ⟨w.heap.size, 2, none⟩ = some (.int .i64 a.n) := by rw [hW]; go_simp
  have a3 : W.cell? ⟨w.heap.size, 3, none⟩ = some (.slice A a.args.length c) := by rw [hW]; go_simp
  have b0 : W.cell? ⟨w.heap.size + 1, 0, none⟩ = some (.int .i64 b.kind) := by rw [hW]; go_simp
  have b1 : W.cell? ⟨w.heap.size + 1, 1, none⟩ = some (.string b.name) := by rw [hW]; go_simp
  have b2 : W.cell? ⟨w.heap.size + 1, 2, none⟩ = some (.int .i64 b.n) := by rw [hW]; go_simp
  have b3 : W.cell? ⟨w.heap.size + 1, 3, none⟩ = some (.slice B b.args.length d) := by rw [hW]; go_simp
  have HW := Lib.hid hW
  clear hW
  have KK := Lib.hid (fun u : World => compares_any kind u)
  have KA := Lib.hid (fun (u : World) (hu : Ext w u) => groundMay_any a A c u (hA.ext hu))
  have KB := Lib.hid (fun (u : World) (hu : Ext w u) => groundMay_any b B d u (hB.ext hu))
  have E : Hid (gcR kind a b = if (kindB kind && ((mayB a && groundT a) && (mayB b && groundT b))) = true then (if (rcT kind a b).2 = true then ((rcT kind a b).1, 0) else (false, 3)) else (false, 1)) := Lib.hid rfl
  have GA := Lib.hid (show (mayB a && groundT a) = true → mayB a = true ∧ groundT a = true from fun h => by simpa using h)
  have GB := Lib.hid (show (mayB b && groundT b) = true → mayB b = true ∧ groundT b = true from fun h => by simpa using h)
  generalize (mayB a && groundT a) = ma at *
  generalize (mayB b && groundT b) = mb at *
  generalize kindB kind = kb at *
  cases kb with
  | false =>
    go_enter Try.func5, Try.ntmps5
    go_upto_region 1 with (fail)
    rw [← HW.out]
    go_wp2_with (go_at_call 15; refine (KK.out _).mono ?_; rintro e1 w1 ⟨rfl, rfl⟩)
    go_ret2
    exact ⟨by rw [E.out]; rfl, hb⟩
  | true =>
    cases ma with
    | false =>
      go_enter Try.func5, Try.ntmps5
      go_upto_region 1 with (fail)
      rw [← HW.out]
      go_wp2_with (go_at_call 15; refine (KK.out _).mono ?_; rintro e1 w1 ⟨rfl, rfl⟩)
      refine (KA.out _ hb).mono ?_
      rintro e2 w2 ⟨rfl, hx2⟩
      go_wp2_with fail
      go_ret2
      exact ⟨by rw [E.out]; rfl, hb.trans hx2⟩
    | true =>
      cases mb with
      | false =>
        go_enter Try.func5, Try.ntmps5
        go_upto_region 1 with (fail)
        rw [← HW.out]
        go_wp2_with (go_at_call 15; refine (KK.out _).mono ?_; rintro e1 w1 ⟨rfl, rfl⟩)
        refine (KA.out _ hb).mono ?_
        rintro e2 w2 ⟨rfl, hx2⟩
        have b0' := hx2.cell b0
        have b1' := hx2.cell b1
        have b2' := hx2.cell b2
        have b3' := hx2.cell b3
        go_wp2_with fail
        refine (KB.out _ (hb.trans hx2)).mono ?_
        rintro e3 w3 ⟨rfl, hx3⟩
        go_wp2_with fail
        go_ret2
        exact ⟨by rw [E.out]; rfl, (hb.trans hx2).trans hx3⟩
      | true =>
        go_enter Try.func5, Try.ntmps5
        go_upto_region 1 with (fail)
        rw [← HW.out]
        go_wp2_with (go_at_call 15; refine (KK.out _).mono ?_; rintro e1 w1 ⟨rfl, rfl⟩)
        refine (KA.out _ hb).mono ?_
        rintro e2 w2 ⟨rfl, hx2⟩
        have b0' := hx2.cell b0
        have b1' := hx2.cell b1
        have b2' := hx2.cell b2
        have b3' := hx2.cell b3
        go_wp2_with fail
        refine (KB.out _ (hb.trans hx2)).mono ?_
        rintro e3 w3 ⟨rfl, hx3⟩
        clear b0' b1' b2' b3'
        have hx03 := hb.trans (hx2.trans hx3)
        have hxW3 := hx2.trans hx3
        have c0 := hxW3.cell a0
        have c1 := hxW3.cell a1
        have c2 := hxW3.cell a2
        have c3 := hxW3.cell a3
        have d0 := hxW3.cell b0
        have d1 := hxW3.cell b1
        have d2 := hxW3.cell b2
        have d3 := hxW3.cell b3
        clear a0 a1 a2 a3 b0 b1 b2 b3 HW KA KB KK
        have HTA := Lib.hid (hA.ext hx03)
        have HTB := Lib.hid (hB.ext hx03)
        obtain ⟨ma, ga⟩ := GA.out trivial
        obtain ⟨mb, gb⟩ := GB.out trivial
        have la := gp_len ma
        have lb := gp_len mb
        have KPA := Lib.hid (fun (u : World) (hu : Ext w3 u) => (parts_any a.high a (.map none) A c u (Nat.le_refl _) (may_all ma) ga (by omega) (HTA.out.ext hu)).mono fun _ _ h => pts_out h)
        have KPB := Lib.hid (fun (u : World) (hu : Ext w3 u) => (parts_any b.high b (.map none) B d u (Nat.le_refl _) (may_all mb) gb (by omega) (HTB.out.ext hu)).mono fun _ _ h => pts_out h)
        have KC := Lib.hid (fun (u : World) (g : Nat) (A' B' : Option Addr) (c' d' : Nat) (h1 : GptsAt u (gpT a) A') (h2 : GptsAt u (gpT b) B') => rowCmpT kind a b A' B' c' d' (.pointer (some ⟨g, 0, none⟩)) u ma mb ga gb h1 h2 ⟨g, rfl⟩)
        have E2 : Hid (gcR kind a b = if (rcT kind a b).2 = true then ((rcT kind a b).1, 0) else (false, 3)) := Lib.hid (by rw [E.out]; rfl)
        clear E GA GB hA hB hx2 hxW3 hx3 HTA HTB ma ga mb gb la lb
        generalize rcT kind a b = rr at *
        obtain ⟨r1, r2⟩ := rr
        have rulesI := fun (u : World) (k : Ext w3 u) => And.intro (k.cell c0) (And.intro (k.cell c1) (And.intro (k.cell c2) (And.intro (k.cell c3) (And.intro (k.cell d0) (And.intro (k.cell d1) (And.intro (k.cell d2) (k.cell d3)))))))
        have hI0 := Ext.refl w3
        go_upto_region 4 with (fail)
        go_cut [9, 10] (fun v9 v10 wx => v9 = .bool r1 ∧ v10 = .bool r2 ∧ Ext w3 wx)
        case first =>
          go_region_held3 (fun u => Ext w3 u) (first | ((repeat (any_goals (first | with_reducible assumption | with_reducible exact hI0 | with_reducible apply Ext.drew | with_reducible apply Ext.alloc))); done))
            (first
              | (go_at_call 18; (with_reducible refine (KPA.out _ (by first | with_reducible assumption | with_reducible exact hI0.drew | with_reducible exact (Ext.alloc hI0 _).drew | with_reducible exact Ext.alloc hI0.drew _)).mono ?_); rintro e5 w5 ⟨A5, c5, rfl, hP5, hx5⟩; have hS5 : Ext w3 w5 := Ext.trans (by first | with_reducible assumption | with_reducible exact hI0.drew | with_reducible exact (Ext.alloc hI0 _).drew | with_reducible exact Ext.alloc hI0.drew _) hx5)
              | (go_at_call 18; (with_reducible refine (KPB.out _ (by first | with_reducible assumption | with_reducible exact hS5 | with_reducible exact Ext.alloc hS5 _)).mono ?_); rintro e6 w6 ⟨A6, c6, rfl, hP6, hx6⟩; have hx56 : Ext w5 w6 := Ext.trans (by first | with_reducible exact Ext.refl _ | with_reducible exact Ext.alloc (Ext.refl _) _) hx6; have hS6 : Ext w3 w6 := hS5.trans hx56; have hP56 := hP5.ext hx56)
              | (go_at_call 17; (with_reducible refine (KC.out _ _ _ _ _ _ (by first | with_reducible exact hP56 | with_reducible exact hP56.ext (Ext.alloc (Ext.refl _) _)) (by first | with_reducible exact hP6 | with_reducible exact hP6.ext (Ext.alloc (Ext.refl _) _))).mono ?_); rintro e7 w7 ⟨rfl, hx7⟩; have hS7 : Ext w3 w7 := hS6.trans (Ext.trans (by first | with_reducible exact Ext.refl _ | with_reducible exact Ext.alloc (Ext.refl _) _) hx7)))
          all_goals
            go_wp2_with fail
            go_meet
            exact ⟨rfl, rfl, hS7⟩
        case rest =>
          obtain ⟨rfl, rfl, hx⟩ := hcut
          cases r2 with
          | true =>
            go_wp2_with fail
            go_ret2
            exact ⟨by rw [E2.out]; rfl, hx03.trans hx⟩
          | false =>
            go_wp2_with fail
            go_ret2
            exact ⟨by rw [E2.out]; rfl, hx03.trans hx⟩
end Go.Proofs.Ythmpolifgngdiaa
