/- guard's rows at ground parts: compare; guard.Compare. -/
import Derived.Test.YthmpolifgngdiaaGcd
import Derived.Test.YthmpolifgngdiaaJoi
import Derived.Test.YthmpolifgngdiaaMB
namespace Go.Proofs.Ythmpolifgngdiaa
open Go.RowKit

/-- a part in a block of its own -/
structure PBx (w : World) (g : Nat) (p : Gpt) : Prop where
  c0 : w.cell? ⟨g, 0, none⟩ = some (.int .i64 p.k)
  c1 : w.cell? ⟨g, 1, none⟩ = some (.int .i64 p.n)
  c2 : w.cell? ⟨g, 2, none⟩ = some (.int .u64 p.x)
  c3 : w.cell? ⟨g, 3, none⟩ = some (.int .u64 p.y)
  f0 : w.frozen? ⟨g, 0, none⟩ = false
  f1 : w.frozen? ⟨g, 1, none⟩ = false
  f2 : w.frozen? ⟨g, 2, none⟩ = false
  f3 : w.frozen? ⟨g, 3, none⟩ = false
theorem PBx.lt {w : World} {g : Nat} {p : Gpt} (h : PBx w g p) : g < w.heap.size := World.block_lt_of_cell? w _ h.c0
theorem PBx.ext {w w' : World} {g : Nat} {p : Gpt} (h : PBx w g p) (k : Ext w w') : PBx w' g p :=
  have hg := h.lt
  ⟨k.cell h.c0, k.cell h.c1, k.cell h.c2, k.cell h.c3, (Below.frozen k (p := ⟨g, 0, none⟩) hg).trans h.f0, (Below.frozen k (p := ⟨g, 1, none⟩) hg).trans h.f1, (Below.frozen k (p := ⟨g, 2, none⟩) hg).trans h.f2, (Below.frozen k (p := ⟨g, 3, none⟩) hg).trans h.f3⟩
theorem PBx.new (u : World) (p : Gpt) : PBx (u.alloc (.cells #[.int .i64 p.k, .int .i64 p.n, .int .u64 p.x, .int .u64 p.y] 54)) u.heap.size p :=
  ⟨by go_simp, by go_simp, by go_simp, by go_simp, by go_simp, by go_simp, by go_simp, by go_simp⟩
abbrev pt0 : Gpt := ⟨0, 0, 0, 0⟩
abbrev pO : Obj := .cells #[.int .i64 0, .int .i64 0, .int .u64 0, .int .u64 0] 54
theorem pbx1 {u w' : World} (n : Nat) (h : Ext (u.alloc pO) w') (hn : u.heap.size = n) : PBx w' n pt0 := by subst hn; exact (PBx.new u pt0).ext h
theorem pbx2 {u w' : World} (n : Nat) (h : Ext ((u.alloc pO).alloc pO) w') (hn : u.heap.size = n) : PBx w' n pt0 ∧ PBx w' (n + 1) pt0 := by
  subst hn
  refine ⟨(PBx.new u pt0).ext (((Ext.refl _).alloc _).trans h), ?_⟩
  have := (PBx.new (u.alloc pO) pt0).ext h
  simpa using this

/-- what compare tells of parts: whether, and whether there is an answer -/
def rcB (kind : Int) (p q : Gpt) (F : Bool) : Bool × Bool :=
  if kind = 3 then (F, true) else if kind = 4 then (!F, true) else
    if p.k ≠ 2 ∨ q.k ≠ 2 then (false, false) else (decide (p.n < q.n) || ((p.n == q.n) && (kind == 2)), true)

set_option maxRecDepth 100000 in
set_option maxHeartbeats 16000000 in
theorem rowCmp_any (kind : Int) (p q : Gpt) (L M : List Gpt) (A B : Option Addr) (c d : Nat) (R : Value) (w : World) (hl : L.length < 1000000) (hA : GptsAt w (p :: L) A) (hB : GptsAt w (q :: M) B) (hL1 : ∀ x ∈ p :: L, x.k ≠ 1) (hM1 : ∀ x ∈ q :: M, x.k ≠ 1) (hRv : ∃ a, R = .pointer (some ⟨a, 0, none⟩)) :
    Calls Try.prog 17 #[R, .int .i64 kind, .slice A (p :: L).length c, .slice B (q :: M).length d] w fun e w' => e = .returned (.tuple #[.bool (rcB kind p q (ptsEq (p :: L) (q :: M))).1, .bool (rcB kind p q (ptsEq (p :: L) (q :: M))).2]) ∧ Ext w w' := by
  have KS := Lib.hid (fun (u : World) (hu : Ext w u) => same_any (p :: L) (q :: M) A B c d R u (show (p :: L).length ≤ 1000000 by simp; omega) (hA.ext hu) (hB.ext hu) hL1 hM1 hRv)
  generalize ptsEq (p :: L) (q :: M) = F at *
  by_cases h3 : kind = 3
  · have hq : (kind == 3) = true := by rw [h3]; rfl
    have E : Hid (rcB kind p q F = (F, true)) := Lib.hid (by unfold rcB; rw [if_pos h3])
    clear h3
    go_enter Try.func17, Try.ntmps17
    go_wp2_with fail
    refine (KS.out _ (Ext.refl w)).mono ?_
    rintro e1 w1 ⟨rfl, hx1⟩
    go_wp2_with fail
    go_ret2
    exact ⟨by rw [E.out]; rfl, hx1⟩
  · by_cases h4 : kind = 4
    · have hq3 : (kind == 3) = false := by rw [h4]; rfl
      have hq : (kind == 4) = true := by rw [h4]; rfl
      have E : Hid (rcB kind p q F = (!F, true)) := Lib.hid (by unfold rcB; rw [if_neg h3, if_pos h4])
      clear h3 h4
      go_enter Try.func17, Try.ntmps17
      go_wp2_with fail
      refine (KS.out _ (Ext.refl w)).mono ?_
      rintro e1 w1 ⟨rfl, hx1⟩
      go_wp2_with fail
      go_ret2
      exact ⟨by rw [E.out]; rfl, hx1⟩
    · have hq3 : (kind == 3) = false := by simpa using h3
      have hq4 : (kind == 4) = false := by simpa using h4
      have hp1 := hL1 p (by simp)
      have hq1 := hM1 q (by simp)
      obtain ⟨b, o, rfl, a0, a1, a2, a3⟩ := hA 0 (by simp)
      obtain ⟨b', o', rfl, b0, b1, b2, b3⟩ := hB 0 (by simp)
      simp only [List.getElem_cons_zero, Nat.zero_mul, Nat.add_zero] at a0 a1 a2 a3 b0 b1 b2 b3
      go_enter Try.func17, Try.ntmps17
      go_upto_region 6 with (fail)
      have KP := Lib.hid (fun u : World => put_any p R u hp1)
      have KQ := Lib.hid (fun u : World => put_any q R u hq1)
      have rulesI := fun (u : World) (k : Ext w u) => And.intro (k.cell a0) (And.intro (k.cell a1) (And.intro (k.cell a2) (And.intro (k.cell a3) (And.intro (k.cell b0) (And.intro (k.cell b1) (And.intro (k.cell b2) (k.cell b3)))))))
      have hI0 := Ext.refl w
      clear hA hB hL1 hM1 KS
      go_cut [10, 11] (fun v10 v11 wx => ∃ g1 g2 : Nat, v10 = .pointer (some ⟨g1, 0, none⟩) ∧ v11 = .pointer (some ⟨g2, 0, none⟩) ∧ Hid (PBx wx g1 p) ∧ Hid (PBx wx g2 q) ∧ Ext w wx)
      case first =>
        go_region_held3 (fun u => Ext w u) (first | ((repeat (any_goals (first | with_reducible assumption | with_reducible exact hI0 | with_reducible apply Ext.drew | with_reducible apply Ext.alloc | with_reducible refine Ext.setCell ?_ ?_ _ | omega | (dsimp only; omega)))); done))
          (first
            | (go_at_call 27; (with_reducible refine (KP.out _).mono ?_); rintro e5 w5 ⟨rfl, hx5⟩; have hS5 : Ext w w5 := Ext.trans (by first | with_reducible assumption | with_reducible exact hI0.drew | with_reducible exact Ext.alloc hI0.drew _ | with_reducible exact Ext.alloc (Ext.alloc hI0.drew _) _ | with_reducible exact (Ext.alloc hI0 _).drew | with_reducible exact Ext.alloc (Ext.alloc hI0 _).drew _ | with_reducible exact (Ext.alloc (Ext.alloc hI0 _) _).drew) hx5; have hs5 := hS5.size
               (first | (have PAB := pbx2 (u := w.drew) w.heap.size hx5 rfl; have PA := Lib.hid PAB.1; have PB := Lib.hid PAB.2; clear PAB; have na5 := Nat.ne_of_lt PA.out.lt; have nb5 := na5.symm; have nc5 := Nat.ne_of_lt PB.out.lt; have nd5 := nc5.symm) | (have PA := Lib.hid (pbx1 (u := w.drew) w.heap.size hx5 rfl); have na5 := Nat.ne_of_lt PA.out.lt; have nb5 := na5.symm) | skip))
            | (go_at_call 27; (with_reducible refine (KQ.out _).mono ?_); rintro e6 w6 ⟨rfl, hx6⟩; have hx56 : Ext w5 w6 := Ext.trans (by first | with_reducible exact Ext.refl _ | with_reducible exact Ext.alloc (Ext.refl _) _ | with_reducible exact Ext.alloc (Ext.alloc (Ext.refl _) _) _) hx6; have hs56 := hx56.size
               (have hS6 : Ext w w6 := hS5.trans hx56)
               (first | (obtain ⟨qa0, qa1, qa2, qa3, qa4, qa5, qa6, qa7⟩ := PA.out.ext hx56; have la := (PA.out.ext hx56).lt) | skip)
               (first | (obtain ⟨qb0, qb1, qb2, qb3, qb4, qb5, qb6, qb7⟩ := PB.out.ext hx56; have lb := (PB.out.ext hx56).lt) | skip)
               (first | (have QCD := pbx2 w5.heap.size hx6 rfl; have QC := QCD.1; have QD := QCD.2; clear QCD; have lc := QC.lt; have ld := QD.lt; obtain ⟨qc0, qc1, qc2, qc3, qc4, qc5, qc6, qc7⟩ := QC; obtain ⟨qd0, qd1, qd2, qd3, qd4, qd5, qd6, qd7⟩ := QD) | (have QC := pbx1 w5.heap.size hx6 rfl; have lc := QC.lt; obtain ⟨qc0, qc1, qc2, qc3, qc4, qc5, qc6, qc7⟩ := QC) | skip)))
        all_goals
          clear rulesI KP KQ
          go_wp2_with fail
          go_meet
          refine ⟨_, _, rfl, rfl, Lib.hid ⟨?_, ?_, ?_, ?_, ?_, ?_, ?_, ?_⟩, Lib.hid ⟨?_, ?_, ?_, ?_, ?_, ?_, ?_, ?_⟩, ?_⟩
          any_goals go_simp
          all_goals (repeat (any_goals (first | with_reducible assumption | with_reducible exact hI0 | with_reducible apply Ext.drew | with_reducible apply Ext.alloc | with_reducible refine Ext.setCell ?_ ?_ _ | omega | (dsimp only; omega))))
      case rest =>
        obtain ⟨g1, g2, rfl, rfl, HP, HQ, hx⟩ := hcut
        obtain ⟨wx, rfl⟩ : ∃ wx : World, wx = wc := ⟨_, rfl⟩
        obtain ⟨p0, p1, _, _, _, _, _, _⟩ := HP.out
        obtain ⟨r0, r1, _, _, _, _, _, _⟩ := HQ.out
        clear rulesI KP KQ a0 a1 a2 a3 b0 b1 b2 b3 hI0
        by_cases hpk : p.k = 2
        · by_cases hqk : q.k = 2
          · have e1 : (p.k != 2) = false := by rw [hpk]; rfl
            have e2 : (q.k != 2) = false := by rw [hqk]; rfl
            have E : Hid (rcB kind p q F = (decide (p.n < q.n) || ((p.n == q.n) && (kind == 2)), true)) := Lib.hid (by unfold rcB; rw [if_neg h3, if_neg h4, if_neg (by omega)])
            clear hpk hqk h3 h4
            cases h5 : decide (p.n < q.n)
            · cases h6 : (p.n == q.n)
              · go_wp2_with fail
                go_ret2
                exact ⟨by rw [E.out, h5, h6]; rfl, hx⟩
              · cases h7 : (kind == 2)
                · go_wp2_with fail
                  go_ret2
                  exact ⟨by rw [E.out, h5, h6, h7]; rfl, hx⟩
                · go_wp2_with fail
                  go_ret2
                  exact ⟨by rw [E.out, h5, h6, h7]; rfl, hx⟩
            · go_wp2_with fail
              go_ret2
              exact ⟨by rw [E.out, h5]; rfl, hx⟩
          · have e1 : (p.k != 2) = false := by rw [hpk]; rfl
            have e2 : (q.k != 2) = true := by simpa using hqk
            have E : Hid (rcB kind p q F = (false, false)) := Lib.hid (by unfold rcB; rw [if_neg h3, if_neg h4, if_pos (.inr hqk)])
            clear hpk hqk h3 h4
            go_wp2_with fail
            go_ret2
            exact ⟨by rw [E.out]; rfl, hx⟩
        · have e1 : (p.k != 2) = true := by simpa using hpk
          have E : Hid (rcB kind p q F = (false, false)) := Lib.hid (by unfold rcB; rw [if_neg h3, if_neg h4, if_pos (.inl hpk)])
          clear hpk h3 h4
          go_wp2_with fail
          go_ret2
          exact ⟨by rw [E.out]; rfl, hx⟩
end Go.Proofs.Ythmpolifgngdiaa
