/- facts.copiedFact: a ground fact in new memory. -/
import Derived.Test.YtcfhokejfibgoaaFkk
import Derived.Test.YtcfhokejfibgoaaFkm
namespace Go.Proofs.Ytcfhokejfibgoaa
open Go.RowKit

theorem ren_ground (hh : Nat) : ∀ t : Tm, t.high ≤ hh → groundT t = true → renT ⟨#[]⟩ t = t := by
  have step : ∀ hh : Nat, (∀ t : Tm, t.high ≤ hh → groundT t = true → renT ⟨#[]⟩ t = t) → ∀ ts : List Tm, highs ts ≤ hh → groundL ts = true → renL ⟨#[]⟩ ts = ts := by
    intro hh ih ts
    induction ts with
    | nil => intro _ _; rfl
    | cons a ts ihl =>
      intro h g
      simp only [highs] at h
      simp only [groundL, Bool.and_eq_true] at g
      rw [renL, ih a (by omega) g.1, ihl (by omega) g.2]
  induction hh with
  | zero => intro t h; have := high_pos t; omega
  | succ hh ih =>
    intro t h g
    obtain ⟨ga, gk⟩ := groundT_parts g
    obtain ⟨k, s, n, l⟩ := t
    simp only [Tm.high] at h
    simp only at ga gk
    rw [renT, step hh ih l (by omega) ga, if_neg (by simpa using gk)]

set_option maxRecDepth 100000 in
set_option maxHeartbeats 4000000 in
theorem Rename_g (t : Tm) (A : Option Addr) (c : Nat) (w : World) (h : TmAt w t A c) (hm : mayB t = true) (hg : groundT t = true) :
    Calls Try.prog 45 #[t.val A c, .string ⟨#[]⟩] w fun e w' => ∃ A' c', e = .returned (.tuple #[t.val A' c', .int .i64 0]) ∧ TmOwn w' t A' c' (fun k => w.heap.size ≤ k ∧ k < w'.heap.size) ∧ Ext w w' := by
  have HRN := Lib.hid (ren_ground t.high t (Nat.le_refl _) hg)
  have R := Lib.hid hm
  have hsh := may_short hm
  have hh := may_high hm
  have KT := Lib.hid (fun u => tail_any ⟨#[]⟩ u (by decide))
  have htl : tailB ⟨#[]⟩ = true := by decide
  rw [htl] at KT
  clear hm htl
  go_enter Try.func45, Try.ntmps45
  go_wp2_with fail
  refine (check_yes t A c _ (h.ext (((Ext.refl _).alloc _).alloc _)) R.out).mono ?_
  rintro e w1 ⟨rfl, hx1⟩
  have hx01 := (((Ext.refl w).alloc _).alloc _).trans hx1
  have HR : Hid (Box4 w1 (w.heap.size + 1) (.int .i64 0) (.string ⟨#[]⟩) (.int .i64 0) (.slice none 0 0)) := Lib.hid (Box4.ext ⟨by go_simp, by go_simp, by go_simp, by go_simp, by go_simp, by go_simp, by go_simp, by go_simp⟩ hx1)
  have HT : Hid (Box4 w1 w.heap.size (.int .i64 t.kind) (.string t.name) (.int .i64 t.n) (.slice A t.args.length c)) := Lib.hid (Box4.ext ⟨by go_simp, by go_simp, by go_simp, by go_simp, by go_simp, by go_simp, by go_simp, by go_simp⟩ hx1)
  obtain ⟨b0, b1, b2, b3, _, _, _, _⟩ := HT.out
  go_wp2_with (go_at_call 57; refine (KT.out _).mono ?_; rintro e w' ⟨rfl, rfl⟩)
  refine (ground_any 5 t A c _ hh (h.ext hx01)).mono ?_
  rintro e w2 ⟨rfl, hx2⟩
  have hx02 := hx01.trans hx2
  have HR2 := Lib.hid (HR.out.ext hx2)
  have HT2 := Lib.hid (HT.out.ext hx2)
  clear b0 b1 b2 b3 HR HT
  obtain ⟨b0, b1, b2, b3, _, _, _, _⟩ := HT2.out
  go_wp2_with fail
  refine (renamed_any 5 t ⟨#[]⟩ A c _ hh hsh (by decide) (h.ext hx02)).mono ?_
  rintro e w3 ⟨A', c', rfl, hO, hx3⟩
  rw [HRN.out] at hO
  obtain ⟨r0, r1, r2, r3, g0, g1, g2, g3⟩ := HR2.out.ext hx3
  have hsz := hx02.size
  have lr := HR2.out.lt
  have HO := Lib.hid hO
  clear hO
  go_wp2_with fail
  refine bodyPost_ret (v := .tuple #[(renT ⟨#[]⟩ t).val A' c', .int .i64 0]) (by simp [results, Try.results45, go_sem, *]) rfl ⟨A', c', by rw [HRN.out], HO.out.answer (r := w.heap.size + 1) (B := w.heap.size) _ _ _ _ (by omega) (by omega) rfl, Chg.ext_of (hx02.trans hx3) (set4_chg w3 (w.heap.size + 1) 0 _ _ _ _ (F := fun x => x = w.heap.size + 1) rfl) (fun b hb => by omega)⟩

/-- a fact in new memory -/
def FCopied (x : Fc) (w : World) (e : Ending) (w' : World) : Prop := ∃ A c, e = .returned (x.val A c) ∧ TmOwn w' x.tm A c (fun k => w.heap.size ≤ k ∧ k < w'.heap.size) ∧ Ext w w'
set_option maxRecDepth 100000 in
set_option maxHeartbeats 4000000 in
theorem copiedFact_any (x : Fc) (A : Option Addr) (c : Nat) (w : World) (h : TmAt w x.tm A c) (hx : May x) :
    Calls Try.prog 31 #[x.val A c] w (FCopied x w) := by
  obtain ⟨t, f, u⟩ := x
  simp only at h
  obtain ⟨W1, hW1⟩ : ∃ W1, W1 = (w.alloc (.cells #[.int .i64 t.kind, .string t.name, .int .i64 t.n, .slice A t.args.length c, .int .i64 f, .int .i64 u] 37)).alloc (.cells #[.int .i64 0, .string ⟨#[]⟩, .int .i64 0, .slice none 0 0, .int .i64 0, .int .i64 0] 37) := ⟨_, rfl⟩
  have hx1 : Ext w W1 := by rw [hW1]; exact ((Ext.refl w).alloc _).alloc _
  have q0 : W1.cell? ⟨w.heap.size, 0, none⟩ = some (.int .i64 t.kind) := by rw [hW1]; go_simp
  have q1 : W1.cell? ⟨w.heap.size, 1, none⟩ = some (.string t.name) := by rw [hW1]; go_simp
  have q2 : W1.cell? ⟨w.heap.size, 2, none⟩ = some (.int .i64 t.n) := by rw [hW1]; go_simp
  have q3 : W1.cell? ⟨w.heap.size, 3, none⟩ = some (.slice A t.args.length c) := by rw [hW1]; go_simp
  have q4 : W1.cell? ⟨w.heap.size, 4, none⟩ = some (.int .i64 f) := by rw [hW1]; go_simp
  have q5 : W1.cell? ⟨w.heap.size, 5, none⟩ = some (.int .i64 u) := by rw [hW1]; go_simp
  have hs1 : W1.heap.size = w.heap.size + 1 + 1 := by rw [hW1]; simp
  have KR := Lib.hid (Rename_g t A c W1 (h.ext hx1) hx.may hx.ground)
  have z : ∀ j, j < 6 → (∃ v, W1.cell? ⟨w.heap.size + 1, j, none⟩ = some v) ∧ W1.frozen? ⟨w.heap.size + 1, j, none⟩ = false := fun j hj => by
    have e5 : j = 0 ∨ j = 1 ∨ j = 2 ∨ j = 3 ∨ j = 4 ∨ j = 5 := by omega
    rw [hW1]
    rcases e5 with rfl | rfl | rfl | rfl | rfl | rfl <;> exact ⟨⟨_, by go_simp; try rfl⟩, by go_simp⟩
  have HW := Lib.hid hW1
  have HZ := Lib.hid z
  clear hW1 h z
  go_enter Try.func31, Try.ntmps31
  go_upto_region 1 with (fail)
  rw [← HW.out]
  clear HW
  go_wp2_with fail
  refine KR.out.mono ?_
  rintro e w2 ⟨A', c', rfl, hO, hx2⟩
  replace q4 := hx2.cell q4
  replace q5 := hx2.cell q5
  have hlt1 : w.heap.size + 1 < W1.heap.size := by omega
  obtain ⟨⟨z0, y0⟩, s0⟩ := HZ.out 0 (by omega)
  obtain ⟨⟨z1, y1⟩, s1⟩ := HZ.out 1 (by omega)
  obtain ⟨⟨z2, y2⟩, s2⟩ := HZ.out 2 (by omega)
  obtain ⟨⟨z3, y3⟩, s3⟩ := HZ.out 3 (by omega)
  obtain ⟨⟨z4, y4⟩, s4⟩ := HZ.out 4 (by omega)
  obtain ⟨⟨z5, y5⟩, s5⟩ := HZ.out 5 (by omega)
  replace y0 := hx2.cell y0
  replace y1 := hx2.cell y1
  replace y2 := hx2.cell y2
  replace y3 := hx2.cell y3
  replace y4 := hx2.cell y4
  replace y5 := hx2.cell y5
  replace s0 := (Below.frozen hx2 (p := ⟨w.heap.size + 1, 0, none⟩) hlt1).trans s0
  replace s1 := (Below.frozen hx2 (p := ⟨w.heap.size + 1, 1, none⟩) hlt1).trans s1
  replace s2 := (Below.frozen hx2 (p := ⟨w.heap.size + 1, 2, none⟩) hlt1).trans s2
  replace s3 := (Below.frozen hx2 (p := ⟨w.heap.size + 1, 3, none⟩) hlt1).trans s3
  replace s4 := (Below.frozen hx2 (p := ⟨w.heap.size + 1, 4, none⟩) hlt1).trans s4
  replace s5 := (Below.frozen hx2 (p := ⟨w.heap.size + 1, 5, none⟩) hlt1).trans s5
  have hlt2 : w.heap.size + 1 < w2.heap.size := Nat.lt_of_lt_of_le hlt1 hx2.size
  have HX2 := Lib.hid (hx1.trans hx2)
  have HO := Lib.hid hO
  have HS1 := Lib.hid hs1
  have hsz0 : w.heap.size < w2.heap.size := by omega
  clear q0 q1 q2 q3 hx2 hx1 hO HZ KR hs1
  go_wp2_with fail
  have hC : Chg (· = w.heap.size + 1) w2 (set6 w2 (w.heap.size + 1) 0 (.int .i64 t.kind) (.string t.name) (.int .i64 t.n) (.slice A' t.args.length c') (.int .i64 f) (.int .i64 u)) := set6_chg _ _ _ _ _ _ _ _ _ rfl
  have hO2 := (HO.out.chg hC (fun b hb e => by have := HS1.out; have e' : b = w.heap.size + 1 := e; omega))
  refine bodyPost_ret (v := .agg #[.int .i64 t.kind, .string t.name, .int .i64 t.n, .slice A' t.args.length c', .int .i64 f, .int .i64 u]) (by simp [results, Try.results31, go_sem, *]) rfl ⟨A', c', rfl, (hO2.ext ((Ext.refl _).alloc _)).weak (fun b hb => ⟨by have := HS1.out; omega, ?_⟩), Chg.ext_of HX2.out (hC.trans (Chg.of_ext ((Ext.refl _).alloc _))) (fun b e => by have e' : b = w.heap.size + 1 := e; omega)⟩
  have := hb.2
  simp
  omega
end Go.Proofs.Ytcfhokejfibgoaa
