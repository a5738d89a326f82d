/- Joined: Pqf, Pqg, Pqh. -/
import Derived.Test.YtnkbdjfanmehfaaDoorPqd
import Derived.Test.YtnkbdjfanmehfaaDoorYC
import Derived.Test.YtnkbdjfanmehfaaDoorYM
import Derived.Test.YtnkbdjfanmehfaaDoorLyf

/- The page's reader: term, ended. -/
namespace Go.Proofs.YtnkbdjfanmehfaaDoor
open Go.RowKit

theorem argsP_all {T : List Tok} {f : Nat → Rs Tm} {Q : Tm → Prop} (hf : ∀ i t j, f i = .ok (t, j) → Q t) : ∀ n acc i ts j, (∀ t ∈ acc, Q t) → argsP T f n acc i = .ok (ts, j) → ∀ t ∈ ts, Q t := by
  intro n
  induction n with
  | zero => intro acc i ts j _ h; simp [argsP] at h
  | succ n ih =>
    intro acc i ts j ha h
    rw [argsP] at h
    match hr : f i with
    | .error e => rw [hr] at h; cases h
    | .ok (t, j') =>
      rw [hr] at h
      have hq : ∀ x ∈ acc ++ [t], Q x := fun x hx => by
        rcases List.mem_append.1 hx with hx | hx
        · exact ha x hx
        · obtain rfl := List.mem_singleton.1 hx; exact hf _ _ _ hr
      simp only at h
      split at h
      · exact ih _ _ _ _ hq h
      · split at h
        · cases h; exact hq
        · cases h
theorem highs_all {h : Nat} : ∀ {l : List Tm}, (∀ t ∈ l, t.high ≤ h) → highs l ≤ h
  | [], _ => by simp [highs]
  | t :: l, H => by
    rw [highs]
    exact Nat.max_le.2 ⟨H t (List.mem_cons_self ..), highs_all fun x hx => H x (List.mem_cons_of_mem _ hx)⟩
theorem head_high {T : List Tok} {g : ByteArray → Nat → Rs Tm} {h : Nat} (h1 : 1 ≤ h) (hg : ∀ s i t j, g s i = .ok (t, j) → t.high ≤ h) (i : Nat) (t : Tm) (j : Nat) (e : headP T g i = .ok (t, j)) : t.high ≤ h := by
  unfold headP at e
  split at e
  · cases e; simpa [Tm.high, highs] using h1
  · split at e
    · cases e; simpa [Tm.high, highs] using h1
    · split at e
      · split at e
        · exact hg _ _ _ _ e
        · cases e; simpa [Tm.high, highs] using h1
      · cases e
theorem anyP_high {T : List Tok} : ∀ k i t j, anyP T k i = .ok (t, j) → t.high ≤ k + 1 := by
  intro k
  induction k with
  | zero => exact head_high (by omega) (fun s i t j h => by cases h)
  | succ k ih =>
    refine head_high (by omega) (fun s i t j h => ?_)
    match hr : argsP T (anyP T k) (T.length - i) [] (i + 1) with
    | .error e => rw [hr] at h; cases h
    | .ok (l, j') =>
      rw [hr] at h
      cases h
      have := highs_all (argsP_all ih _ _ _ _ _ (fun t ht => by simp at ht) hr)
      simp only [Tm.high]
      omega
set_option maxRecDepth 100000 in
set_option maxHeartbeats 4000000 in
theorem pterm_any {T : List Tok} (hG : ToksG T) {k : Nat} (hk : k ≤ 100) {w : World} {g A c i b : Nat} {a : Int} (hb : k + b = 100) (h : PgAt w g A c T i 0 a b) :
    Calls Tryd.prog 14 #[.pointer (some ⟨g, 0, none⟩)] w (PgOut w g A c T a b (termP T k i)) := by
  have hgl := h.lt
  have hlo := h.low
  obtain ⟨w0, hw0⟩ : ∃ w0, w0 = w.alloc (.cells #[.int .i64 0, .string ⟨#[]⟩, .int .i64 0, .slice none 0 0] 28) := ⟨_, rfl⟩
  have hr0 : Box4 w0 w.heap.size (.int .i64 0) (.string ⟨#[]⟩) (.int .i64 0) (.slice none 0 0) := by rw [hw0]; exact Box4.new w _ _ _ _ _
  have hx0 : Ext w w0 := by rw [hw0]; exact (Ext.refl _).alloc _
  have HW0 := Lib.hid hw0
  have hR0 := h.ext hx0
  have c2 := hR0.c2
  have q3 := fld3
  have KN := Lib.hid (now_pg hR0)
  have hwl : w.heap.size < w0.heap.size := hr0.lt
  clear h hw0
  go_enter Tryd.func14, Tryd.ntmps14
  go_upto_region 1 with (fail)
  rw [← HW0.out]
  go_wp2_with fail
  refine KN.out.mono ?_
  rintro e w1 ⟨rfl, hx1⟩
  have hxw := hx0.trans hx1
  have hr1 := hr0.ext hx1
  have hw1 : w.heap.size < w1.heap.size := hr1.lt
  have KW := Lib.hid (wi_all T hG k w1 g A c i b a hb (hR0.ext hx1))
  clear KN hr0 hx0 hR0 hx1 c2 HW0
  go_wp2_with fail
  refine KW.out.mono ?_
  rintro e w2 hPO
  obtain ⟨k', s', n', A', l', c', rfl⟩ := hPO.val
  have hC2 := hPO.1
  have hr2 := hr1.chg hC2 (by omega)
  have hCw := (Chg.of_ext (F := (· = g)) hxw).trans hC2
  have hs2 := hC2.size
  have HPO := Lib.hid hPO
  clear hr1 hxw hC2 hPO KW
  go_upto_region 5 with (fail)
  obtain ⟨w3, hw3⟩ : ∃ w3, w3 = w2.alloc (.cells #[.int .i64 k', .string s', .int .i64 n', .slice A' l' c'] 28) := ⟨_, rfl⟩
  have hb3 : Box4 w3 w2.heap.size (.int .i64 k') (.string s') (.int .i64 n') (.slice A' l' c') := by rw [hw3]; exact Box4.new w2 _ _ _ _ _
  have hx3 : Ext w2 w3 := by rw [hw3]; exact (Ext.refl _).alloc _
  rw [← hw3]
  clear hw3
  have hr3 := hr2.ext hx3
  have hC3 := hCw.trans (Chg.of_ext hx3)
  clear hr2 hCw
  match hF : anyP T k i with
  | .error (p, x) =>
    have HA : Hid (termP T k i = .error (p, x)) := Lib.hid (by unfold termP; rw [hF])
    obtain ⟨_, ho⟩ := HPO.out
    rw [hF] at ho
    obtain ⟨hx, _, i', d', hP⟩ := ho
    have hP3 := hP.ext hx3
    have c2 := hP3.c2
    have q : (x == 0) = false := by simp [hx]
    have HP := Lib.hid hP3
    have HX := Lib.hid hx
    obtain ⟨b0, b1, b2, b3, _, _, _, _⟩ := hb3
    obtain ⟨y0, y1, y2, y3, f0, f1, f2, f3⟩ := hr3
    clear hP hP3 hx hF HPO hx3
    go_wp2_with fail
    refine bodyPost_ret (v := .agg #[.int .i64 k', .string s', .int .i64 n', .slice A' l' c']) (by simp [results, Tryd.results14, go_sem, *]) rfl ?_
    rw [HA.out]
    exact pg_fin_err HX.out hC3 HP.out hgl hlo rfl ⟨_, _, _, _, _, _, rfl⟩
  | .ok (t, j) =>
    obtain ⟨_, ho⟩ := HPO.out
    rw [hF] at ho
    obtain ⟨A2, c2, he, hIn, hP⟩ := ho
    injection he with he
    injection he with he
    have e0 := congrArg (fun l : Array Value => l.toList) he
    simp only [List.cons.injEq, and_true] at e0
    obtain ⟨e1, e2, e3, e4⟩ := e0
    rw [e1, e2, e3, e4] at hb3 ⊢
    have hIn3 := hIn.step (fun b _ hb => hx3.block b hb) hx3.size
    have hP3 := hP.ext hx3
    have pc2 := hP3.c2
    have KT := Lib.hid (rTerm_any t A2 c2 w3 hIn3.at_ (by have := anyP_high _ _ _ _ hF; omega))
    have HP := Lib.hid hP3
    have HI := Lib.hid hIn3
    have hs3 : w2.heap.size < w3.heap.size := hb3.lt
    cases hm : mayB t with
    | true =>
      have HA : Hid (termP T k i = .ok (t, j)) := Lib.hid (by unfold termP; rw [hF]; simp only; rw [if_pos hm])
      rw [hm] at KT
      obtain ⟨b0, b1, b2, b3, _, _, _, _⟩ := hb3
      clear hP hP3 hIn hIn3 hF HPO hx3 he e1 e2 e3 e4 hm
      go_wp2_with fail
      refine KT.out.mono ?_
      rintro e w4 ⟨rfl, hx4⟩
      obtain ⟨y0, y1, y2, y3, f0, f1, f2, f3⟩ := hr3.ext hx4
      have d0 := hx4.cell b0
      have d1 := hx4.cell b1
      have d2 := hx4.cell b2
      have d3 := hx4.cell b3
      have hC4 := hC3.trans (Chg.of_ext hx4)
      have HH := Lib.hid (And.intro (HP.out.ext hx4) (HI.out.step (fun b _ h2 => hx4.block b h2) hx4.size))
      clear KT hr3 b0 b1 b2 b3 hx4 hC3
      go_wp2_with fail
      refine bodyPost_ret (v := t.val A2 c2) (by simp [results, Tryd.results14, go_sem, *]) rfl ?_
      rw [HA.out]
      exact pg_fin_ok hC4 hw1 HH.out.1 hgl hlo HH.out.2 rfl rfl
    | false =>
      have HA : Hid (termP T k i = .error (lim T i)) := Lib.hid (by unfold termP; rw [hF]; simp only; rw [if_neg (by rw [hm]; simp)])
      rw [hm] at KT
      obtain ⟨b0, b1, b2, b3, _, _, _, _⟩ := hb3
      clear hP hP3 hIn hIn3 hF HPO hx3 he e1 e2 e3 e4 hm
      go_wp2_with fail
      refine KT.out.mono ?_
      rintro e w4 ⟨rfl, hx4⟩
      have hr4 := hr3.ext hx4
      have d0 := hx4.cell b0
      have d1 := hx4.cell b1
      have d2 := hx4.cell b2
      have d3 := hx4.cell b3
      have hC4 := hC3.trans (Chg.of_ext hx4)
      have KF := Lib.hid (fails_yes 2 (tk T i).at_ (HP.out.ext hx4))
      clear KT hr3 b0 b1 b2 b3 hx4 hC3
      go_wp2_with fail
      refine KF.out.mono ?_
      rintro e w5 ⟨rfl, hE, hC5⟩
      have hgne : ¬ w2.heap.size = g := by omega
      obtain ⟨y0, y1, y2, y3, f0, f1, f2, f3⟩ := hr4.chg hC5 (by omega)
      have e0 := hC5.cell d0 hgne
      have e1 := hC5.cell d1 hgne
      have e2 := hC5.cell d2 hgne
      have e3 := hC5.cell d3 hgne
      have hC6 := hC4.trans hC5
      have HE := Lib.hid hE
      clear KF hE hC5 hr4 d0 d1 d2 d3
      go_wp2_with fail
      refine bodyPost_ret (v := t.val A2 c2) (by simp [results, Tryd.results14, go_sem, *]) rfl ?_
      rw [HA.out]
      exact pg_fin_err (x := 2) (by decide) hC6 HE.out hgl hlo rfl ⟨_, _, _, _, _, _, rfl⟩
end Go.Proofs.YtnkbdjfanmehfaaDoor

/- The page's reader: ended, reading, ReadTerm. -/
namespace Go.Proofs.YtnkbdjfanmehfaaDoor
open Go.RowKit

section
variable {w : World} {g A c : Nat} {T : List Tok} {i : Nat} {a d : Int}
theorem end_of (hG : ToksG T) (hi : i < T.length) : rl T i = 0 ↔ (tk T i).kind = 5 := by
  have g := hG.2.1 _ (List.getElem_mem hi)
  rw [show rl T i = roleN (T[i]) by unfold rl; rw [tk_at T hi], tk_at T hi]
  exact (role_kind g).1.symm
set_option maxRecDepth 100000 in
set_option maxHeartbeats 1000000 in
theorem ended_yes (hG : ToksG T) (h : PgAt w g A c T i 0 a d) (hr : rl T i = 0) :
    Calls Tryd.prog 15 #[.pointer (some ⟨g, 0, none⟩)] w fun e w' => e = .returned (.tuple #[]) ∧ Ext w w' := by
  have hk := (end_of hG h.il).1 hr
  have KN := Lib.hid (fun (u : World) (hu : Ext w u) => now_pg (h.ext hu))
  have c2 := h.c2
  have q0 := fld0
  clear h hr
  go_enter Tryd.func15, Tryd.ntmps15
  go_wp2_with fail
  refine (KN.out _ (Ext.refl _)).mono ?_
  rintro e w1 ⟨rfl, hx1⟩
  go_wp2_with fail
  go_end0
  exact ⟨rfl, hx1⟩
set_option maxRecDepth 100000 in
set_option maxHeartbeats 1000000 in
theorem ended_no (hG : ToksG T) (h : PgAt w g A c T i 0 a d) (hr : rl T i ≠ 0) :
    Calls Tryd.prog 15 #[.pointer (some ⟨g, 0, none⟩)] w fun e w' => e = .returned (.tuple #[]) ∧ PgAt w' g A c T i 4 (tk T i).at_ d ∧ Chg (· = g) w w' := by
  have hk : ((tk T i).kind != 5) = true := by have := mt (end_of hG h.il).2 hr; simp [this]
  have HH := Lib.hid h
  have c2 := h.c2
  have q0 := fld0
  have q3 := fld3
  clear h hr
  go_enter Tryd.func15, Tryd.ntmps15
  go_wp2_with fail
  refine (now_pg HH.out).mono ?_
  rintro e w1 ⟨rfl, hx1⟩
  have K1 := Lib.hid (now_pg (HH.out.ext hx1))
  go_wp2_with fail
  refine K1.out.mono ?_
  rintro e w2 ⟨rfl, hx2⟩
  have K2 := Lib.hid (fails_yes 4 (tk T i).at_ (HH.out.ext (hx1.trans hx2)))
  go_wp2_with fail
  refine K2.out.mono ?_
  rintro e w3 ⟨rfl, hE, hC3⟩
  have HE := Lib.hid hE
  clear hE
  go_wp2_with fail
  go_end0
  exact ⟨rfl, HE.out, (Chg.of_ext (hx1.trans hx2)).trans hC3⟩
set_option maxRecDepth 100000 in
theorem ended_er {e0 : Int} (h : PgAt w g A c T i e0 a d) (he : e0 ≠ 0) :
    Calls Tryd.prog 15 #[.pointer (some ⟨g, 0, none⟩)] w fun e w' => e = .returned (.tuple #[]) ∧ Ext w w' := by
  have c2 := h.c2
  have q : (e0 == 0) = false := by simp [he]
  clear h he
  go_enter Tryd.func15, Tryd.ntmps15
  go_wp2_with fail
  go_end0
  exact ⟨rfl, Ext.refl _⟩
end
theorem pg_new {w w' : World} {A c : Nat} {T : List Tok} (hg : w' = w.alloc (.cells #[.slice (some ⟨A, 0, none⟩) T.length c, .int .i64 0, .int .i64 0, .int .i64 0, .int .i64 0] 48)) (hl : T.length ≤ 4001) (hT : 0 < T.length)
    (ht : ∀ j (h : j < T.length), w.cell? ⟨A, j * 4, none⟩ = some (.int .i64 T[j].kind) ∧ w.cell? ⟨A, j * 4 + 1, none⟩ = some (.string T[j].text) ∧ w.cell? ⟨A, j * 4 + 2, none⟩ = some (.int .i64 T[j].n) ∧ w.cell? ⟨A, j * 4 + 3, none⟩ = some (.int .i64 T[j].at_)) : PgAt w' w.heap.size A c T 0 0 0 0 := by
  subst hg
  have hx := (Ext.refl w).alloc (.cells #[.slice (some ⟨A, 0, none⟩) T.length c, .int .i64 0, .int .i64 0, .int .i64 0, .int .i64 0] 48)
  have hA := World.block_lt_of_cell? w _ (ht 0 hT).1
  simp only at hA
  refine ⟨by go_simp, by go_simp, by go_simp, by go_simp, by go_simp, fun j _ => by go_simp, fun j hj => ?_, by omega, hT, hl⟩
  obtain ⟨a0, a1, a2, a3⟩ := ht j hj
  exact ⟨hx.cell a0, hx.cell a1, hx.cell a2, hx.cell a3⟩
set_option maxRecDepth 100000 in
set_option maxHeartbeats 1000000 in
theorem reading_no (s : ByteArray) (w : World) (hS : s.size ≤ 140737488351232) (hE : lexE s ≠ 0) :
    Calls Tryd.prog 13 #[.string s] w fun e w' => e = .returned (.tuple #[.pointer none, .int .i64 (lexA s), .int .i64 (lexE s)]) ∧ Ext w w' := by
  have KT := Lib.hid (rTokens_any s w hS)
  have q : (lexE s != 0) = true := by simp [hE]
  clear hS hE
  go_enter Tryd.func13, Tryd.ntmps13
  go_wp2_with fail
  refine KT.out.mono ?_
  rintro e w1 ⟨v, base, rfl, _, _, hx1⟩
  go_wp2_with fail
  refine bodyPost_ret (v := .tuple #[.pointer none, .int .i64 (lexA s), .int .i64 (lexE s)]) (by simp [results, Tryd.results13, go_sem, *]) rfl ?_
  exact ⟨rfl, hx1⟩
set_option maxRecDepth 100000 in
set_option maxHeartbeats 1000000 in
theorem reading_yes (s : ByteArray) (w : World) (hS : s.size ≤ 140737488351232) (hE : lexE s = 0) :
    Calls Tryd.prog 13 #[.string s] w fun e w' => ∃ g A c, e = .returned (.tuple #[.pointer (some ⟨g, 0, none⟩), .int .i64 0, .int .i64 0]) ∧ PgAt w' g A c (lexT s) 0 0 0 0 ∧ w.heap.size ≤ g ∧ Ext w w' := by
  have KT := Lib.hid (rTokens_any s w hS)
  have q : (lexE s != 0) = false := by simp [hE]
  obtain ⟨hG, hL⟩ := lexT_good hE
  have HG := Lib.hid hG
  clear hS hG
  go_enter Tryd.func13, Tryd.ntmps13
  go_wp2_with fail
  refine KT.out.mono ?_
  rintro e w1 ⟨v, base, rfl, hown, hb, hx1⟩
  obtain ⟨A, c, rfl, _, _, hc⟩ := toks_cells hown HG.out.1
  have HP := Lib.hid (pg_new (c := c) rfl hL HG.out.1 hc)
  clear hc hown KT
  go_wp2_with fail
  refine bodyPost_ret (v := .tuple #[.pointer (some ⟨w1.heap.size, 0, none⟩), .int .i64 0, .int .i64 0]) (by simp [results, Tryd.results13, go_sem, *]) rfl ?_
  exact ⟨_, A, c, rfl, HP.out, hx1.size, hx1.trans ((Ext.refl _).alloc _)⟩
end Go.Proofs.YtnkbdjfanmehfaaDoor

/- The page's ReadTerm. -/
namespace Go.Proofs.YtnkbdjfanmehfaaDoor
open Go.RowKit

set_option maxRecDepth 100000 in
set_option maxHeartbeats 4000000 in
theorem rReadTerm_any (s : ByteArray) (w : World) (hS : s.size ≤ 140737488351232) : Calls Tryd.prog 6 #[.string s] w (TermRet w (readT s)) := by
  obtain ⟨w0, hw0⟩ : ∃ w0, w0 = w.alloc (.cells #[.int .i64 0, .string ⟨#[]⟩, .int .i64 0, .slice none 0 0] 28) := ⟨_, rfl⟩
  have hr0 : Box4 w0 w.heap.size (.int .i64 0) (.string ⟨#[]⟩) (.int .i64 0) (.slice none 0 0) := by rw [hw0]; exact Box4.new w _ _ _ _ _
  have hx0 : Ext w w0 := by rw [hw0]; exact (Ext.refl _).alloc _
  have HW0 := Lib.hid hw0
  have hw0l : w.heap.size < w0.heap.size := hr0.lt
  clear hw0
  by_cases hE : lexE s = 0
  · have KR := Lib.hid (reading_yes s w0 hS hE)
    obtain ⟨hG, hL⟩ := lexT_good hE
    have HFR : Hid (readT s = wholeT (lexT s)) := Lib.hid (by unfold readT; rw [if_pos hE])
    obtain ⟨T, hTT⟩ : ∃ T, T = lexT s := ⟨_, rfl⟩
    rw [← hTT] at KR hG HFR
    clear hTT hL hE
    go_enter Tryd.func6, Tryd.ntmps6
    go_upto_region 1 with (fail)
    rw [← HW0.out]
    go_wp2_with fail
    refine KR.out.mono ?_
    rintro e w1 ⟨g, A, c, rfl, hP, hg, hx1⟩
    have hr1 := hr0.ext hx1
    have hxw := hx0.trans hx1
    have hgl := hP.lt
    have KT := Lib.hid (pterm_any (T := T) hG (k := 100) (by omega) (b := 0) (by omega) hP)
    clear KR hr0 hx0 hx1 hP HW0
    go_wp2_with fail
    refine KT.out.mono ?_
    rintro e w2 hPO
    obtain ⟨k', s', n', A', l', c', rfl⟩ := hPO.val
    have hC2 := hPO.1
    have hr2 := hr1.chg hC2 (by omega)
    have hx2 : Ext w w2 := Chg.ext_of hxw hC2 (fun b hb => by omega)
    have hs2 := hC2.size
    have HPO := Lib.hid hPO
    clear KT hr1 hPO hC2
    go_upto_region 5 with (fail)
    obtain ⟨w3, hw3⟩ : ∃ w3, w3 = w2.alloc (.cells #[.int .i64 k', .string s', .int .i64 n', .slice A' l' c'] 28) := ⟨_, rfl⟩
    have hb3 : Box4 w3 w2.heap.size (.int .i64 k') (.string s') (.int .i64 n') (.slice A' l' c') := by rw [hw3]; exact Box4.new w2 _ _ _ _ _
    have hx23 : Ext w2 w3 := by rw [hw3]; exact (Ext.refl _).alloc _
    rw [← hw3]
    clear hw3
    have hr3 := hr2.ext hx23
    have hx3 := hx2.trans hx23
    clear hr2 hx2
    match hF : termP T 100 0 with
    | .error (p, x) =>
      have HA : Hid (readT s = .error (p, x)) := Lib.hid (by rw [HFR.out]; unfold wholeT; rw [hF])
      obtain ⟨_, ho⟩ := HPO.out
      rw [hF] at ho
      obtain ⟨hx, _, i', d', hP⟩ := ho
      have KE := Lib.hid (ended_er (hP.ext hx23) hx)
      have HP := Lib.hid (hP.ext hx23)
      have q : (x != 0) = true := by simp [hx]
      clear hP hF HPO hx hb3
      go_wp2_with fail
      refine KE.out.mono ?_
      rintro e w4 ⟨rfl, hx4⟩
      have hP4 := HP.out.ext hx4
      have p2 := hP4.c2
      have p3 := hP4.c3
      obtain ⟨y0, y1, y2, y3, f0, f1, f2, f3⟩ := hr3.ext hx4
      have hxf := hx3.trans hx4
      have hg4 : g < w4.heap.size := hP4.lt
      have hgw : g ≠ w.heap.size := by omega
      clear hP4 KE hr3 hx4 hx3 HP
      go_upto_region 7 with (fail)
      first | go_region_with (fail) | fail
      all_goals
        go_wp2_with fail
        try go_simp
        refine bodyPost_ret (v := .tuple #[.agg #[.int .i64 0, .string ⟨#[]⟩, .int .i64 0, .slice none 0 0], .int .i64 p, .int .i64 x]) (by simp [results, Tryd.results6, go_sem, *]) rfl ?_
        rw [HA.out]
        exact TermRet.ext (whole_err hxf (v0 := .int .i64 0) (v1 := .string ⟨#[]⟩) (v2 := .int .i64 0) (v3 := .slice none 0 0) rfl rfl) (Ext.refl _).drew
    | .ok (t, j) =>
      obtain ⟨_, ho⟩ := HPO.out
      rw [hF] at ho
      obtain ⟨A2, c2, he, hIn, hP⟩ := ho
      injection he with he
      injection he with he
      have e0 := congrArg (fun l : Array Value => l.toList) he
      simp only [List.cons.injEq, and_true] at e0
      obtain ⟨e1, e2, e3, e4⟩ := e0
      rw [e1, e2, e3, e4] at hb3 ⊢
      have HP := Lib.hid (hP.ext hx23)
      have HI := Lib.hid (hIn.step (fun b _ hb => hx23.block b hb) hx23.size)
      by_cases h0 : rl T j = 0
      · have HA : Hid (readT s = .ok t) := Lib.hid (by rw [HFR.out]; unfold wholeT; rw [hF]; simp only; rw [if_pos h0])
        have KE := Lib.hid (ended_yes hG HP.out h0)
        obtain ⟨b0, b1, b2, b3, _, _, _, _⟩ := hb3
        clear hP hF HPO hIn he e1 e2 e3 e4 h0 HFR
        go_wp2_with fail
        refine KE.out.mono ?_
        rintro e w4 ⟨rfl, hx4⟩
        have hP4 := HP.out.ext hx4
        have p2 := hP4.c2
        obtain ⟨y0, y1, y2, y3, f0, f1, f2, f3⟩ := hr3.ext hx4
        have d0 := hx4.cell b0
        have d1 := hx4.cell b1
        have d2 := hx4.cell b2
        have d3 := hx4.cell b3
        have hxf := hx3.trans hx4
        have hw1 : w.heap.size < w1.heap.size := by omega
        have HH := Lib.hid (HI.out.step (fun b _ h2 => hx4.block b h2) hx4.size)
        clear hP4 KE hr3 hx4 hx3 HP b0 b1 b2 b3
        go_wp2_with fail
        refine bodyPost_ret (v := .tuple #[t.val A2 c2, .int .i64 0, .int .i64 0]) (by simp [results, Tryd.results6, go_sem, *]) rfl ?_
        rw [HA.out]
        exact whole_ok hxf hw1 HH.out rfl rfl
      · have HA : Hid (readT s = .error (bad T j)) := Lib.hid (by rw [HFR.out]; unfold wholeT; rw [hF]; simp only; rw [if_neg h0])
        have KE := Lib.hid (ended_no hG HP.out h0)
        clear hP hF HPO hIn he e1 e2 e3 e4 h0 HFR hb3
        go_wp2_with fail
        refine KE.out.mono ?_
        rintro e w4 ⟨rfl, hP4, hC4⟩
        have p2 := hP4.c2
        have p3 := hP4.c3
        obtain ⟨y0, y1, y2, y3, f0, f1, f2, f3⟩ := hr3.chg hC4 (by omega)
        have hxf : Ext w w4 := Chg.ext_of hx3 hC4 (fun b hb => by omega)
        have hg4 : g < w4.heap.size := hP4.lt
        have hgw : g ≠ w.heap.size := by omega
        clear hP4 KE hr3 hC4 hx3 HP
        go_upto_region 7 with (fail)
        first | go_region_with (fail) | fail
        all_goals
          go_wp2_with fail
          try go_simp
          refine bodyPost_ret (v := .tuple #[.agg #[.int .i64 0, .string ⟨#[]⟩, .int .i64 0, .slice none 0 0], .int .i64 (bad T j).1, .int .i64 (bad T j).2]) (by simp [results, Tryd.results6, go_sem, *, bad]) rfl ?_
          rw [HA.out]
          exact TermRet.ext (whole_err hxf (v0 := .int .i64 0) (v1 := .string ⟨#[]⟩) (v2 := .int .i64 0) (v3 := .slice none 0 0) rfl rfl) (Ext.refl _).drew
  · have KR := Lib.hid (reading_no s w0 hS hE)
    have q : (lexE s != 0) = true := by simp [hE]
    have HFF : Hid (readT s = .error (lexA s, lexE s)) := Lib.hid (by unfold readT; rw [if_neg hE])
    clear hE
    go_enter Tryd.func6, Tryd.ntmps6
    go_upto_region 1 with (fail)
    rw [← HW0.out]
    go_wp2_with fail
    refine KR.out.mono ?_
    rintro e w1 ⟨rfl, hx1⟩
    obtain ⟨y0, y1, y2, y3, f0, f1, f2, f3⟩ := hr0.ext hx1
    have hxw := hx0.trans hx1
    clear KR hr0 hx0
    go_wp2_with fail
    refine bodyPost_ret (v := .tuple #[.agg #[.int .i64 0, .string ⟨#[]⟩, .int .i64 0, .slice none 0 0], .int .i64 (lexA s), .int .i64 (lexE s)]) (by simp [results, Tryd.results6, go_sem, *]) rfl ?_
    rw [HFF.out]
    exact whole_err hxw rfl rfl
end Go.Proofs.YtnkbdjfanmehfaaDoor
