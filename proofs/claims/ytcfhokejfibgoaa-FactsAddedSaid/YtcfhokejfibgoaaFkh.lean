/- The order of facts, and whether two are alike: the program's and the page's. -/
import Derived.Test.YtcfhokejfibgoaaFkg
namespace Go.Proofs.Ytcfhokejfibgoaa
open Go.RowKit

set_option maxHeartbeats 2000000 in
theorem compare_any (x y : Fc) (A B : Option Addr) (c d : Nat) (w : World) (hx : TmAt w x.tm A c) (hy : TmAt w y.tm B d) (mx : mayB x.tm = true) (my : mayB y.tm = true) :
    Calls Try.prog 19 #[x.val A c, y.val B d] w fun e w' => e = .returned (.int .i64 (cmpF x y)) ∧ Ext w w' := by
  have HR : Hid (cmpF x y = if (cmpT x.tm y.tm != 0) = true then cmpT x.tm y.tm else if (sgn x.fr y.fr != 0) = true then sgn x.fr y.fr else sgn x.til y.til) := Lib.hid rfl
  generalize cmpF x y = RES at HR ⊢
  obtain ⟨W, hW⟩ : ∃ W, W = boxF (boxF w x A c) y B d := ⟨_, rfl⟩
  have hT : Two w W x y A B c d := by rw [hW]; exact two_made w x y A B c d
  have KO := Lib.hid (Order_yes x.tm y.tm A B c d W (hx.ext hT.ext) (hy.ext hT.ext) mx my)
  simp only [boxF] at hW
  have HW := Lib.hid hW
  have KC := Lib.hid (fun a b u => cmp_int a b u)
  obtain ⟨a0, a1, a2, a3, a4, a5, b0, b1, b2, b3, b4, b5⟩ := And.intro hT.a0 (And.intro hT.a1 (And.intro hT.a2 (And.intro hT.a3 (And.intro hT.a4 (And.intro hT.a5 (And.intro hT.b0 (And.intro hT.b1 (And.intro hT.b2 (And.intro hT.b3 (And.intro hT.b4 hT.b5))))))))))
  have HT := Lib.hid hT
  clear hW hT hx hy mx my
  go_enter Try.func19, Try.ntmps19
  go_upto_region 1 with (fail)
  rw [← HW.out]
  clear HW
  go_wp2_with fail
  refine KO.out.mono ?_
  rintro e w2 ⟨rfl, hx2⟩
  replace a4 := hx2.cell a4
  replace a5 := hx2.cell a5
  replace b4 := hx2.cell b4
  replace b5 := hx2.cell b5
  have hx12 := HT.out.ext.trans hx2
  generalize cmpT x.tm y.tm = C at *
  clear a0 a1 a2 a3 b0 b1 b2 b3 hx2 KO HT
  cases h1 : (C != 0) with
  | true =>
    have HF : Hid (C = RES) := Lib.hid (by rw [HR.out, h1]; rfl)
    go_wp2_with fail
    go_ret
    exact ⟨ret_int HF.out, hx12⟩
  | false =>
    go_wp2_with fail
    refine (KC.out _ _ _).mono ?_
    rintro e w3 ⟨rfl, hw3⟩
    rw [← hw3]
    clear hw3
    obtain ⟨S, hS⟩ : ∃ S, S = sgn x.fr y.fr := ⟨_, rfl⟩
    rw [← hS] at HR ⊢
    cases h2 : (S != 0) with
    | true =>
      have HF : Hid (S = RES) := Lib.hid (by rw [HR.out, h1, h2]; rfl)
      clear hS
      go_wp2_with fail
      go_ret
      exact ⟨ret_int HF.out, hx12⟩
    | false =>
      have HF : Hid (sgn x.til y.til = RES) := Lib.hid (by rw [HR.out, h1, h2]; rfl)
      clear hS
      go_wp2_with fail
      refine (KC.out _ _ _).mono ?_
      rintro e w4 ⟨rfl, hw4⟩
      rw [← hw4]
      clear hw4
      go_wp2_with fail
      go_ret
      exact ⟨ret_int HF.out, hx12⟩

def ordFE (x y : Fc) : Int := badE (fmB x && fmB y)
def ordFV (x y : Fc) : Int := if (fmB x && fmB y) = true then cmpF x y else 0
set_option maxHeartbeats 2000000 in
theorem FOrder_any (x y : Fc) (A B : Option Addr) (c d : Nat) (w : World) (hx : TmAt w x.tm A c) (hy : TmAt w y.tm B d) :
    Calls Try.prog 6 #[x.val A c, y.val B d] w fun e w' => e = .returned (.tuple #[.int .i64 (ordFV x y), .int .i64 (ordFE x y)]) ∧ Ext w w' := by
  have HR : Hid (ordFV x y = (if (fmB x && fmB y) = true then cmpF x y else 0) ∧ ordFE x y = badE (fmB x && fmB y)) := Lib.hid ⟨rfl, rfl⟩
  generalize ordFV x y = RV at HR ⊢
  generalize ordFE x y = RE at HR ⊢
  obtain ⟨W, hW⟩ : ∃ W, W = boxF (boxF w x A c) y B d := ⟨_, rfl⟩
  have hT : Two w W x y A B c d := by rw [hW]; exact two_made w x y A B c d
  have KX := Lib.hid (May_any x A c W (hx.ext hT.ext))
  have KY := Lib.hid (fun u (k : Ext W u) => May_any y B d u ((hy.ext hT.ext).ext k))
  have KC := Lib.hid (fun u (k : Ext W u) (mx : fmB x = true) (my : fmB y = true) => compare_any x y A B c d u ((hx.ext hT.ext).ext k) ((hy.ext hT.ext).ext k) (fm_may mx).may (fm_may my).may)
  simp only [boxF] at hW
  have HW := Lib.hid hW
  obtain ⟨a0, a1, a2, a3, a4, a5, b0, b1, b2, b3, b4, b5⟩ := And.intro hT.a0 (And.intro hT.a1 (And.intro hT.a2 (And.intro hT.a3 (And.intro hT.a4 (And.intro hT.a5 (And.intro hT.b0 (And.intro hT.b1 (And.intro hT.b2 (And.intro hT.b3 (And.intro hT.b4 hT.b5))))))))))
  have HT := Lib.hid hT
  clear hW hT hx hy
  go_enter Try.func6, Try.ntmps6
  go_upto_region 1 with (fail)
  rw [← HW.out]
  clear HW
  go_wp2_with fail
  refine KX.out.mono ?_
  rintro e w2 ⟨rfl, hx2⟩
  have hT2 := HT.out.to hx2
  have HX2 := Lib.hid hx2
  clear a0 a1 a2 a3 a4 a5 b0 b1 b2 b3 b4 b5 hx2 KX HT
  obtain ⟨a0, a1, a2, a3, a4, a5, b0, b1, b2, b3, b4, b5⟩ := And.intro hT2.a0 (And.intro hT2.a1 (And.intro hT2.a2 (And.intro hT2.a3 (And.intro hT2.a4 (And.intro hT2.a5 (And.intro hT2.b0 (And.intro hT2.b1 (And.intro hT2.b2 (And.intro hT2.b3 (And.intro hT2.b4 hT2.b5))))))))))
  have HT2 := Lib.hid hT2
  clear hT2
  cases hm : fmB x with
  | false =>
    have HF : Hid (RV = 0 ∧ RE = 1) := Lib.hid (by rw [HR.out.1, HR.out.2, hm]; exact ⟨rfl, rfl⟩)
    simp only [badE]
    go_wp2_with fail
    go_ret2
    obtain ⟨e1, e2⟩ := HF.out
    subst e1 e2
    exact ⟨rfl, HT2.out.ext⟩
  | true =>
    simp only [badE]
    go_wp2_with fail
    refine (KY.out _ HX2.out).mono ?_
    rintro e w3 ⟨rfl, hx3⟩
    have hT3 := HT2.out.to hx3
    have HX3 := Lib.hid (HX2.out.trans hx3)
    clear a0 a1 a2 a3 a4 a5 b0 b1 b2 b3 b4 b5 hx3 HT2
    obtain ⟨a0, a1, a2, a3, a4, a5, b0, b1, b2, b3, b4, b5⟩ := And.intro hT3.a0 (And.intro hT3.a1 (And.intro hT3.a2 (And.intro hT3.a3 (And.intro hT3.a4 (And.intro hT3.a5 (And.intro hT3.b0 (And.intro hT3.b1 (And.intro hT3.b2 (And.intro hT3.b3 (And.intro hT3.b4 hT3.b5))))))))))
    have HT3 := Lib.hid hT3
    clear hT3
    cases hn : fmB y with
    | false =>
      have HF : Hid (RV = 0 ∧ RE = 1) := Lib.hid (by rw [HR.out.1, HR.out.2, hm, hn]; exact ⟨rfl, rfl⟩)
      simp only [badE]
      go_wp2_with fail
      go_ret2
      obtain ⟨e1, e2⟩ := HF.out
      subst e1 e2
      exact ⟨rfl, HT3.out.ext⟩
    | true =>
      have HF : Hid (RV = cmpF x y ∧ RE = 0) := Lib.hid (by rw [HR.out.1, HR.out.2, hm, hn]; exact ⟨rfl, rfl⟩)
      have KD := Lib.hid (KC.out w3 HX3.out hm hn)
      simp only [badE]
      clear hm hn KC KY
      go_wp2_with fail
      refine KD.out.mono ?_
      rintro e w4 ⟨rfl, hx4⟩
      have HX4 := Lib.hid (HT3.out.ext.trans hx4)
      clear hx4
      go_wp2_with fail
      go_ret2
      obtain ⟨e1, e2⟩ := HF.out
      subst e1 e2
      exact ⟨rfl, HX4.out⟩

/-! the page's -/
theorem rsgn_any (a b : Int) (w : World) : Calls Try.prog 24 #[.int .i64 a, .int .i64 b] w fun e w' => e = .returned (.int .i64 (sgn a b)) ∧ w' = w := by
  have HS : Hid (sgn a b = if a < b then -1 else if b < a then 1 else 0) := Lib.hid rfl
  by_cases h1 : a < b
  · go_enter Try.func24, Try.ntmps24
    go_wp2_with fail
    go_ret
    exact ⟨ret_int (by rw [HS.out]; (repeat' split) <;> omega), rfl⟩
  · have h1' : decide (a < b) = false := decide_eq_false h1
    by_cases h2 : b < a
    · go_enter Try.func24, Try.ntmps24
      go_wp2_with fail
      go_ret
      exact ⟨ret_int (by rw [HS.out]; (repeat' split) <;> omega), rfl⟩
    · have h2' : decide (b < a) = false := decide_eq_false h2
      go_enter Try.func24, Try.ntmps24
      go_wp2_with fail
      go_ret
      exact ⟨ret_int (by rw [HS.out]; (repeat' split) <;> omega), rfl⟩

set_option maxHeartbeats 2000000 in
theorem rFact_any (x : Fc) (A : Option Addr) (c : Nat) (w : World) (h : TmAt w x.tm A c) (hh : x.tm.high ≤ 1000000) : Calls Try.prog 7 #[x.val A c] w fun e w' => e = .returned (.bool (fmB x)) ∧ Ext w w' := by
  obtain ⟨t, f, u⟩ := x
  simp only at h hh
  have HB : Hid (fmB ⟨t, f, u⟩ = (mayB t && groundT t && (t.kind == 3) && spB f u)) := Lib.hid rfl
  generalize fmB ⟨t, f, u⟩ = RES at HB ⊢
  obtain ⟨W1, hW1⟩ : ∃ W1, W1 = w.alloc (.cells #[.int .i64 t.kind, .string t.name, .int .i64 t.n, .slice A t.args.length c, .int .i64 f, .int .i64 u] 37) := ⟨_, rfl⟩
  have hx1 : Ext w W1 := by rw [hW1]; exact (Ext.refl w).alloc _
  have q0 : W1.cell? ⟨w.heap.size, 0, none⟩ = some (.int .i64 t.kind) := by rw [hW1]; go_simp
  have q1 : W1.cell? ⟨w.heap.size, 1, none⟩ = some (.string t.name) := by rw [hW1]; go_simp
  have q2 : W1.cell? ⟨w.heap.size, 2, none⟩ = some (.int .i64 t.n) := by rw [hW1]; go_simp
  have q3 : W1.cell? ⟨w.heap.size, 3, none⟩ = some (.slice A t.args.length c) := by rw [hW1]; go_simp
  have q4 : W1.cell? ⟨w.heap.size, 4, none⟩ = some (.int .i64 f) := by rw [hW1]; go_simp
  have q5 : W1.cell? ⟨w.heap.size, 5, none⟩ = some (.int .i64 u) := by rw [hW1]; go_simp
  have KT := Lib.hid (rTerm_any t A c W1 (h.ext hx1) hh)
  have KG := Lib.hid (fun w2 (k : Ext W1 w2) (hm : mayB t = true) => rGround_any t A c w2 ((h.ext hx1).ext k) hm)
  have KS := Lib.hid (fun w2 => rSpan_any f u w2)
  have HW := Lib.hid hW1
  clear hW1 h hh
  go_enter Try.func7, Try.ntmps7
  go_upto_region 1 with (fail)
  rw [← HW.out]
  clear HW
  by_cases hk : t.kind = 3
  · have HK := Lib.hid hk
    have hk3 : (t.kind == 3) = true := by simp [hk]
    clear hk
    go_wp2_with fail
    refine KT.out.mono ?_
    rintro e w2 ⟨rfl, hx2⟩
    replace q0 := hx2.cell q0
    replace q1 := hx2.cell q1
    replace q2 := hx2.cell q2
    replace q3 := hx2.cell q3
    replace q4 := hx2.cell q4
    replace q5 := hx2.cell q5
    have HX2 := Lib.hid hx2
    have HX1 := Lib.hid hx1
    clear hx2 hx1 KT
    cases hm : mayB t with
    | false =>
      have HR : Hid (false = RES) := Lib.hid (by rw [HB.out, hm]; rfl)
      go_wp2_with fail
      go_ret
      exact ⟨ret_bool HR.out, HX1.out.trans HX2.out⟩
    | true =>
      have KG2 := Lib.hid (KG.out w2 HX2.out hm)
      have HM := Lib.hid hm
      clear hm
      go_wp2_with fail
      refine KG2.out.mono ?_
      rintro e w3 ⟨rfl, hx3⟩
      replace q4 := hx3.cell q4
      replace q5 := hx3.cell q5
      have HX3 := Lib.hid (HX1.out.trans (HX2.out.trans hx3))
      clear hx3 q0 q1 q2 q3 KG KG2
      cases hg : groundT t with
      | false =>
        have HR : Hid (false = RES) := Lib.hid (by rw [HB.out, hg, Bool.and_false]; rfl)
        go_wp2_with fail
        go_ret
        exact ⟨ret_bool HR.out, HX3.out⟩
      | true =>
        have HR : Hid (spB f u = RES) := Lib.hid (by rw [HB.out, HM.out, hg, HK.out]; rfl)
        clear hg
        go_wp2_with fail
        refine (KS.out _).mono ?_
        rintro e w4 ⟨rfl, hx4⟩
        have HX4 := Lib.hid (HX3.out.trans hx4)
        clear hx4
        generalize spB f u = SB at *
        go_wp2_with fail
        go_ret
        exact ⟨ret_bool HR.out, HX4.out⟩
  · have hk3 : (t.kind == 3) = false := by simp [hk]
    have HR : Hid (false = RES) := Lib.hid (by rw [HB.out]; simp [hk])
    clear hk
    go_wp2_with fail
    go_ret
    exact ⟨ret_bool HR.out, hx1⟩

set_option maxHeartbeats 2000000 in
theorem rFOrder_any (x y : Fc) (A B : Option Addr) (c d : Nat) (w : World) (hx : TmAt w x.tm A c) (hy : TmAt w y.tm B d) (mx : mayB x.tm = true) (my : mayB y.tm = true) :
    Calls Try.prog 8 #[x.val A c, y.val B d] w fun e w' => e = .returned (.int .i64 (cmpF x y)) ∧ Ext w w' := by
  have HR : Hid (cmpF x y = if (cmpT x.tm y.tm != 0) = true then cmpT x.tm y.tm else if (sgn x.fr y.fr != 0) = true then sgn x.fr y.fr else sgn x.til y.til) := Lib.hid rfl
  generalize cmpF x y = RES at HR ⊢
  obtain ⟨W, hW⟩ : ∃ W, W = boxF (boxF w x A c) y B d := ⟨_, rfl⟩
  have hT : Two w W x y A B c d := by rw [hW]; exact two_made w x y A B c d
  have KO := Lib.hid (rOrder_any x.tm.high x.tm y.tm A B c d W (Nat.le_refl _) (hx.ext hT.ext) (hy.ext hT.ext))
  rw [ordR_cmp mx my] at KO
  simp only [boxF] at hW
  have HW := Lib.hid hW
  have KC := Lib.hid (fun a b u => rsgn_any a b u)
  obtain ⟨a0, a1, a2, a3, a4, a5, b0, b1, b2, b3, b4, b5⟩ := And.intro hT.a0 (And.intro hT.a1 (And.intro hT.a2 (And.intro hT.a3 (And.intro hT.a4 (And.intro hT.a5 (And.intro hT.b0 (And.intro hT.b1 (And.intro hT.b2 (And.intro hT.b3 (And.intro hT.b4 hT.b5))))))))))
  have HT := Lib.hid hT
  clear hW hT hx hy mx my
  go_enter Try.func8, Try.ntmps8
  go_upto_region 1 with (fail)
  rw [← HW.out]
  clear HW
  go_wp2_with fail
  refine KO.out.mono ?_
  rintro e w2 ⟨rfl, hx2⟩
  replace a4 := hx2.cell a4
  replace a5 := hx2.cell a5
  replace b4 := hx2.cell b4
  replace b5 := hx2.cell b5
  have hx12 := HT.out.ext.trans hx2
  generalize cmpT x.tm y.tm = C at *
  clear a0 a1 a2 a3 b0 b1 b2 b3 hx2 KO HT
  cases h1 : (C == 0) with
  | false =>
    have HF : Hid (C = RES) := Lib.hid (by rw [HR.out, bne, h1]; rfl)
    go_wp2_with fail
    go_ret
    exact ⟨ret_int HF.out, hx12⟩
  | true =>
    go_wp2_with fail
    refine (KC.out _ _ _).mono ?_
    rintro e w3 ⟨rfl, hw3⟩
    rw [hw3]
    clear hw3
    obtain ⟨S, hS⟩ : ∃ S, S = sgn x.fr y.fr := ⟨_, rfl⟩
    rw [← hS] at HR ⊢
    cases h2 : (S == 0) with
    | false =>
      have HF : Hid (S = RES) := Lib.hid (by rw [HR.out, bne, h1, bne, h2]; rfl)
      clear hS
      go_wp2_with fail
      go_ret
      exact ⟨ret_int HF.out, hx12⟩
    | true =>
      have HF : Hid (sgn x.til y.til = RES) := Lib.hid (by rw [HR.out, bne, h1, bne, h2]; rfl)
      clear hS
      go_wp2_with fail
      refine (KC.out _ _ _).mono ?_
      rintro e w4 ⟨rfl, hw4⟩
      rw [hw4]
      clear hw4
      go_wp2_with fail
      go_ret
      exact ⟨ret_int HF.out, hx12⟩

set_option maxHeartbeats 2000000 in
theorem eqFact_any (x y : Fc) (A B : Option Addr) (c d : Nat) (w : World) (hx : TmAt w x.tm A c) (hy : TmAt w y.tm B d) :
    Calls Try.prog 10 #[x.val A c, y.val B d] w fun e w' => e = .returned (.bool (eqF x y)) ∧ Ext w w' := by
  have HR : Hid (eqF x y = (eqT x.tm y.tm && ((x.fr == y.fr) && (x.til == y.til)))) := Lib.hid rfl
  generalize eqF x y = RES at HR ⊢
  obtain ⟨W, hW⟩ : ∃ W, W = boxF (boxF w x A c) y B d := ⟨_, rfl⟩
  have hT : Two w W x y A B c d := by rw [hW]; exact two_made w x y A B c d
  have KO := Lib.hid (eqTerm_all x.tm.high x.tm y.tm A B c d W (Nat.le_refl _) (hx.ext hT.ext) (hy.ext hT.ext))
  simp only [boxF] at hW
  have HW := Lib.hid hW
  obtain ⟨a0, a1, a2, a3, a4, a5, b0, b1, b2, b3, b4, b5⟩ := And.intro hT.a0 (And.intro hT.a1 (And.intro hT.a2 (And.intro hT.a3 (And.intro hT.a4 (And.intro hT.a5 (And.intro hT.b0 (And.intro hT.b1 (And.intro hT.b2 (And.intro hT.b3 (And.intro hT.b4 hT.b5))))))))))
  have HT := Lib.hid hT
  clear hW hT hx hy
  go_enter Try.func10, Try.ntmps10
  go_upto_region 1 with (fail)
  rw [← HW.out]
  clear HW
  go_wp2_with fail
  refine KO.out.mono ?_
  rintro e w2 ⟨rfl, hx2⟩
  replace a4 := hx2.cell a4
  replace a5 := hx2.cell a5
  replace b4 := hx2.cell b4
  replace b5 := hx2.cell b5
  have hx12 := HT.out.ext.trans hx2
  clear a0 a1 a2 a3 b0 b1 b2 b3 hx2 KO HT
  cases h1 : eqT x.tm y.tm with
  | false =>
    have HF : Hid (false = RES) := Lib.hid (by rw [HR.out, h1]; rfl)
    go_wp2_with fail
    go_ret
    exact ⟨ret_bool HF.out, hx12⟩
  | true =>
    have HF : Hid (((x.fr == y.fr) && (x.til == y.til)) = RES) := Lib.hid (by rw [HR.out, h1, Bool.true_and])
    clear h1 HR
    go_wp2_with fail
    all_goals
      go_ret
      refine ⟨ret_bool ?_, hx12⟩
      rw [← HF.out]
      simp_all
end Go.Proofs.Ytcfhokejfibgoaa
