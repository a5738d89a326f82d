/- What a fact that may be is, the order of facts, and whether two are alike: the program's and the page's. -/
import Derived.Test.YtcfhokejfibgoaaFkf
import Derived.Test.YtcfhokejfibgoaaRva
import Derived.Test.YtcfhokejfibgoaaRd
import Derived.Test.YtcfhokejfibgoaaTa
namespace Go.Proofs.Ytcfhokejfibgoaa
open Go.RowKit

abbrev spV (f t : Int) : Value := .agg #[.int .i64 f, .int .i64 t]
theorem spanMay_any (f t : Int) (w : World) : Calls Try.prog 50 #[spV f t] w fun e w' => e = .returned (.bool (spB f t)) ∧ Ext w w' := by
  have HS : Hid (spB f t = (decide (-1073741824 ≤ f) && decide (f ≤ t) && decide (t ≤ 1073741824))) := Lib.hid rfl
  by_cases h1 : -1073741824 ≤ f
  · by_cases h2 : f ≤ t
    · by_cases h3 : t ≤ 1073741824
      · go_enter Try.func50, Try.ntmps50
        go_wp2_with fail
        go_ret
        exact ⟨ret_bool (by rw [HS.out]; simp [h1, h2, h3]), (Ext.refl w).alloc _⟩
      · have h3' : decide (t ≤ 1073741824) = false := decide_eq_false h3
        go_enter Try.func50, Try.ntmps50
        go_wp2_with fail
        go_ret
        exact ⟨ret_bool (by rw [HS.out]; simp [h1, h2, h3]), (Ext.refl w).alloc _⟩
    · have h2' : decide (f ≤ t) = false := decide_eq_false h2
      go_enter Try.func50, Try.ntmps50
      go_wp2_with fail
      go_ret
      exact ⟨ret_bool (by rw [HS.out, h2', Bool.and_false, Bool.false_and]), (Ext.refl w).alloc _⟩
  · have h1' : decide (-1073741824 ≤ f) = false := decide_eq_false h1
    go_enter Try.func50, Try.ntmps50
    go_wp2_with fail
    go_ret
    exact ⟨ret_bool (by rw [HS.out, h1', Bool.false_and, Bool.false_and]), (Ext.refl w).alloc _⟩
theorem rSpan_any (f t : Int) (w : World) : Calls Try.prog 22 #[spV f t] w fun e w' => e = .returned (.bool (spB f t)) ∧ Ext w w' := by
  have HS : Hid (spB f t = (decide (-1073741824 ≤ f) && decide (f ≤ t) && decide (t ≤ 1073741824))) := Lib.hid rfl
  by_cases h1 : -1073741824 ≤ f
  · by_cases h2 : f ≤ t
    · by_cases h3 : t ≤ 1073741824
      · go_enter Try.func22, Try.ntmps22
        go_wp2_with fail
        go_ret
        exact ⟨ret_bool (by rw [HS.out]; simp [h1, h2, h3]), (Ext.refl w).alloc _⟩
      · have h3' : decide (t ≤ 1073741824) = false := decide_eq_false h3
        go_enter Try.func22, Try.ntmps22
        go_wp2_with fail
        go_ret
        exact ⟨ret_bool (by rw [HS.out]; simp [h1, h2, h3]), (Ext.refl w).alloc _⟩
    · have h2' : decide (f ≤ t) = false := decide_eq_false h2
      go_enter Try.func22, Try.ntmps22
      go_wp2_with fail
      go_ret
      exact ⟨ret_bool (by rw [HS.out, h2', Bool.and_false, Bool.false_and]), (Ext.refl w).alloc _⟩
  · have h1' : decide (-1073741824 ≤ f) = false := decide_eq_false h1
    go_enter Try.func22, Try.ntmps22
    go_wp2_with fail
    go_ret
    exact ⟨ret_bool (by rw [HS.out, h1', Bool.false_and, Bool.false_and]), (Ext.refl w).alloc _⟩
def badE (b : Bool) : Int := if b then 0 else 1
theorem spCheck_any (f t : Int) (w : World) : Calls Try.prog 35 #[spV f t] w fun e w' => e = .returned (.int .i64 (badE (spB f t))) ∧ Ext w w' := by
  have KS := Lib.hid (fun u => spanMay_any f t u)
  cases hs : spB f t
  all_goals
    rw [hs] at KS
    clear hs
    go_enter Try.func35, Try.ntmps35
    go_wp2_with fail
    refine (KS.out _).mono ?_
    rintro e w1 ⟨rfl, hx⟩
    have hx1 := ((Ext.refl w).alloc _).trans hx
    go_wp2_with fail
    go_ret
    exact ⟨rfl, hx1⟩

abbrev Fc.val (x : Fc) (A : Option Addr) (c : Nat) : Value := factV x.tm A c x.fr x.til
theorem Ground_all (t : Tm) (A : Option Addr) (c : Nat) (w : World) (h : TmAt w t A c) : Calls Try.prog 34 #[t.val A c] w fun e w' => e = .returned (.tuple #[.bool (mayB t && groundT t), .int .i64 (badE (mayB t))]) ∧ Ext w w' := by
  cases hm : mayB t with
  | true => exact Ground_yes t A c w h hm
  | false => exact Ground_no t A c w h hm

set_option maxHeartbeats 2000000 in
theorem May_any (x : Fc) (A : Option Addr) (c : Nat) (w : World) (h : TmAt w x.tm A c) : Calls Try.prog 18 #[x.val A c] w fun e w' => e = .returned (.int .i64 (badE (fmB x))) ∧ Ext w w' := by
  obtain ⟨t, f, u⟩ := x
  simp only at h
  have HB : Hid (fmB ⟨t, f, u⟩ = (mayB t && groundT t && (t.kind == 3) && spB f u)) := Lib.hid rfl
  generalize fmB ⟨t, f, u⟩ = RES at HB ⊢
  obtain ⟨W1, hW1⟩ : ∃ W1, W1 = w.alloc (.cells #[.int .i64 t.kind, .string t.name, .int .i64 t.n, .slice A t.args.length c, .int .i64 f, .int .i64 u] 37) := ⟨_, rfl⟩
  have hx1 : Ext w W1 := by rw [hW1]; exact (Ext.refl w).alloc _
  have q0 : W1.cell? ⟨w.heap.size, 0, none⟩ = some (.int .i64 t.kind) := by rw [hW1]; go_simp
  have q1 : W1.cell? ⟨w.heap.size, 1, none⟩ = some (.string t.name) := by rw [hW1]; go_simp
  have q2 : W1.cell? ⟨w.heap.size, 2, none⟩ = some (.int .i64 t.n) := by rw [hW1]; go_simp
  have q3 : W1.cell? ⟨w.heap.size, 3, none⟩ = some (.slice A t.args.length c) := by rw [hW1]; go_simp
  have q4 : W1.cell? ⟨w.heap.size, 4, none⟩ = some (.int .i64 f) := by rw [hW1]; go_simp
  have q5 : W1.cell? ⟨w.heap.size, 5, none⟩ = some (.int .i64 u) := by rw [hW1]; go_simp
  have KG := Lib.hid (Ground_all t A c W1 (h.ext hx1))
  have KS := Lib.hid (fun w2 => spCheck_any f u w2)
  have HW := Lib.hid hW1
  clear hW1 h
  go_enter Try.func18, Try.ntmps18
  go_upto_region 1 with (fail)
  rw [← HW.out]
  clear HW
  go_wp2_with fail
  refine KG.out.mono ?_
  rintro e w2 ⟨rfl, hx2⟩
  replace q0 := hx2.cell q0
  replace q4 := hx2.cell q4
  replace q5 := hx2.cell q5
  have hx12 := hx1.trans hx2
  clear q1 q2 q3 hx2 hx1 KG
  cases hm : mayB t with
  | false =>
    have HR : Hid (RES = false) := Lib.hid (by rw [HB.out, hm]; rfl)
    clear HB
    simp only [Bool.false_and, badE]
    go_wp2_with fail
    go_ret
    exact ⟨by rw [HR.out]; rfl, hx12⟩
  | true =>
    cases hg : groundT t with
    | false =>
      have HR : Hid (RES = false) := Lib.hid (by rw [HB.out, hg, Bool.and_false]; rfl)
      clear HB
      simp only [Bool.and_false, badE]
      go_wp2_with fail
      go_ret
      exact ⟨by rw [HR.out]; rfl, hx12⟩
    | true =>
      by_cases hk : t.kind = 3
      · have hk3 : (t.kind != 3) = false := by simp [hk]
        have HR : Hid (RES = spB f u) := Lib.hid (by rw [HB.out, hm, hg, hk]; rfl)
        clear HB
        simp only [Bool.and_self, badE]
        clear hm hg hk
        generalize t.kind = K at *
        cases hs : spB f u
        all_goals
          rw [hs] at KS HR
          clear hs
          go_wp2_with fail
          refine (KS.out _).mono ?_
          rintro e w3 ⟨rfl, hx3⟩
          have hx13 := hx12.trans hx3
          clear hx3 hx12
          go_wp2_with fail
          go_ret
          exact ⟨by rw [HR.out]; rfl, hx13⟩
      · have hk3 : (t.kind != 3) = true := by simp [hk]
        have HR : Hid (RES = false) := Lib.hid (by rw [HB.out]; simp [hk])
        clear HB
        simp only [Bool.and_self, badE]
        clear hm hg hk
        generalize t.kind = K at *
        go_wp2_with fail
        go_ret
        exact ⟨by rw [HR.out]; rfl, hx12⟩

/-- the order of facts that may be -/
def cmpF (x y : Fc) : Int := if (cmpT x.tm y.tm != 0) = true then cmpT x.tm y.tm else if (sgn x.fr y.fr != 0) = true then sgn x.fr y.fr else sgn x.til y.til
/-- two facts in boxes of the call's own -/
structure Two (w W : World) (x y : Fc) (A B : Option Addr) (c d : Nat) : Prop where
  ext : Ext w W
  a0 : W.cell? ⟨w.heap.size, 0, none⟩ = some (.int .i64 x.tm.kind)
  a1 : W.cell? ⟨w.heap.size, 1, none⟩ = some (.string x.tm.name)
  a2 : W.cell? ⟨w.heap.size, 2, none⟩ = some (.int .i64 x.tm.n)
  a3 : W.cell? ⟨w.heap.size, 3, none⟩ = some (.slice A x.tm.args.length c)
  a4 : W.cell? ⟨w.heap.size, 4, none⟩ = some (.int .i64 x.fr)
  a5 : W.cell? ⟨w.heap.size, 5, none⟩ = some (.int .i64 x.til)
  b0 : W.cell? ⟨w.heap.size + 1, 0, none⟩ = some (.int .i64 y.tm.kind)
  b1 : W.cell? ⟨w.heap.size + 1, 1, none⟩ = some (.string y.tm.name)
  b2 : W.cell? ⟨w.heap.size + 1, 2, none⟩ = some (.int .i64 y.tm.n)
  b3 : W.cell? ⟨w.heap.size + 1, 3, none⟩ = some (.slice B y.tm.args.length d)
  b4 : W.cell? ⟨w.heap.size + 1, 4, none⟩ = some (.int .i64 y.fr)
  b5 : W.cell? ⟨w.heap.size + 1, 5, none⟩ = some (.int .i64 y.til)
abbrev boxF (w : World) (x : Fc) (A : Option Addr) (c : Nat) : World := w.alloc (.cells #[.int .i64 x.tm.kind, .string x.tm.name, .int .i64 x.tm.n, .slice A x.tm.args.length c, .int .i64 x.fr, .int .i64 x.til] 37)
theorem two_made (w : World) (x y : Fc) (A B : Option Addr) (c d : Nat) : Two w (boxF (boxF w x A c) y B d) x y A B c d :=
  ⟨((Ext.refl w).alloc _).alloc _, by go_simp, by go_simp, by go_simp, by go_simp, by go_simp, by go_simp, by go_simp, by go_simp, by go_simp, by go_simp, by go_simp, by go_simp⟩
theorem Two.to {w W W' : World} {x y : Fc} {A B : Option Addr} {c d : Nat} (h : Two w W x y A B c d) (k : Ext W W') : Two w W' x y A B c d :=
  ⟨h.ext.trans k, k.cell h.a0, k.cell h.a1, k.cell h.a2, k.cell h.a3, k.cell h.a4, k.cell h.a5, k.cell h.b0, k.cell h.b1, k.cell h.b2, k.cell h.b3, k.cell h.b4, k.cell h.b5⟩
end Go.Proofs.Ytcfhokejfibgoaa
