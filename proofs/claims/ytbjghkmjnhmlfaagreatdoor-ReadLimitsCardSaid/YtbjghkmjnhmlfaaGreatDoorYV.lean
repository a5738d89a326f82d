/- Joined: Pqd, Pqf. -/
import Derived.Test.YtbjghkmjnhmlfaaGreatDoorYN
import Derived.Test.YtbjghkmjnhmlfaaGreatDoorYC

/- The page's reader: within. -/
namespace Go.Proofs.YtbjghkmjnhmlfaaGreatDoor
open Go.RowKit

def WiTo (T : List Tok) (k : Nat) : Prop := ∀ (w : World) (g A c i b : Nat) (a : Int), k + b = 100 → PgAt w g A c T i 0 a b →
  Calls Tryz.prog 34 #[.pointer (some ⟨g, 0, none⟩)] w (PgOut w g A c T a b (anyP T k i))
theorem pg_fin_ok {w wx w2 wf : World} {g A c : Nat} {T : List Tok} {j b : Nat} {a : Int} {t : Tm} {A' : Option Addr} {c' : Nat} (hC : Chg (· = g) w w2) (hx : w.heap.size < wx.heap.size) (hR : PgAt w2 g A c T j 0 a b) (hg : g < w.heap.size) (hlo : A < w.heap.size)
    (hIn : TmIn w2 (New wx w2) t A' c') (hwf : wf = set4 w2 w.heap.size 0 (.int .i64 t.kind) (.string t.name) (.int .i64 t.n) (.slice A' t.args.length c')) {e : Ending} (he : e = .returned (t.val A' c')) : PgOut w g A c T a b (.ok (t, j)) e wf := by
  subst hwf
  have ks : ∀ k, k ≠ w.heap.size → (set4 w2 w.heap.size 0 (.int .i64 t.kind) (.string t.name) (.int .i64 t.n) (.slice A' t.args.length c')).heap[k]? = w2.heap[k]? := fun k hk => set4_block _ _ _ _ _ _ _ _ hk
  refine ⟨set4_new hC _ _ _ _, A', c', he, hIn.keep fun k hk _ => ⟨ks k (by have := hk.1; omega), by have := hk.1; omega, by rw [set4_size]; exact hk.2⟩, hR.keep fun k _ e => ks k (by rcases e with e | e <;> omega)⟩
theorem pg_fin_err {w w2 wf : World} {g A c : Nat} {T : List Tok} {b i' : Nat} {a p x d' : Int} (hx : x ≠ 0) (hC : Chg (· = g) w w2) (hR : PgAt w2 g A c T i' x p d') (hg : g < w.heap.size) (hlo : A < w.heap.size) {v0 v1 v2 v3 : Value} (hwf : wf = set4 w2 w.heap.size 0 v0 v1 v2 v3)
    {e : Ending} (he : ∃ k s n A l c, e = .returned (.agg #[.int .i64 k, .string s, .int .i64 n, .slice A l c])) : PgOut w g A c T a b (.error (p, x)) e wf := by
  subst hwf
  have ks : ∀ k, k ≠ w.heap.size → (set4 w2 w.heap.size 0 v0 v1 v2 v3).heap[k]? = w2.heap[k]? := fun k hk => set4_block _ _ _ _ _ _ _ _ hk
  exact ⟨set4_new hC _ _ _ _, hx, he, _, _, hR.keep fun k _ e => ks k (by rcases e with e | e <;> omega)⟩
set_option maxRecDepth 100000 in
set_option maxHeartbeats 1000000 in
theorem within_er {w : World} {g A c : Nat} {T : List Tok} {i : Nat} {e0 a d : Int} (h : PgAt w g A c T i e0 a d) (he : e0 ≠ 0) :
    Calls Tryz.prog 34 #[.pointer (some ⟨g, 0, none⟩)] w fun e w' => e = .returned (noTm.val none 0) ∧ Ext w w' := by
  obtain ⟨w0, hw0⟩ : ∃ w0, w0 = w.alloc (.cells #[.int .i64 0, .string ⟨#[]⟩, .int .i64 0, .slice none 0 0] 58) := ⟨_, rfl⟩
  obtain ⟨y0, y1, y2, y3, f0, f1, f2, f3⟩ : Box4 w0 w.heap.size (.int .i64 0) (.string ⟨#[]⟩) (.int .i64 0) (.slice none 0 0) := by rw [hw0]; exact Box4.new w _ _ _ _ _
  have hx0 : Ext w w0 := by rw [hw0]; exact (Ext.refl _).alloc _
  have HW0 := Lib.hid hw0
  have c2 := (h.ext hx0).c2
  have q : (e0 != 0) = true := by simp [he]
  clear h he hw0
  go_enter Tryz.func34, Tryz.ntmps34
  go_upto_region 1 with (fail)
  rw [← HW0.out]
  go_wp2_with fail
  refine bodyPost_ret (v := .agg #[.int .i64 0, .string ⟨#[]⟩, .int .i64 0, .slice none 0 0]) (by simp [results, Tryz.results34, go_sem, *]) rfl ?_
  exact ⟨rfl, ext_set4 hx0 _ _ _ _⟩
theorem er_out {w : World} {g A c : Nat} {T : List Tok} {i : Nat} {e0 p d : Int} (a : Int) (b : Nat) (h : PgAt w g A c T i e0 p d) (he : e0 ≠ 0) :
    Calls Tryz.prog 34 #[.pointer (some ⟨g, 0, none⟩)] w (PgOut w g A c T a b (.error (p, e0))) :=
  (within_er h he).mono fun _ _ ⟨h1, h2⟩ => ⟨Chg.of_ext h2, he, ⟨_, _, _, _, _, _, h1⟩, _, _, h.ext h2⟩
def argTm (s : ByteArray) : Rs (List Tm) → Rs Tm
  | .error e => .error e
  | .ok (l, j) => .ok (⟨3, s, 0, l⟩, j)
/-- a bracket is open: what reading an argument comes to, the first and each behind it -/
structure OpenSt (T : List Tok) (g A c : Nat) (a : Int) (b k i : Nat) (w' : World) (F1 : Rs Tm) (f : Nat → Rs Tm) (n : Nat) (F : Rs (List Tm)) : Prop where
  near : ∀ t j, F1 = .ok (t, j) → i + 1 < j
  lim : ∀ y, F1 = .ok y → b + 1 ≤ 100
  next : nextP T f n [] F1 = F
  long : T.length ≤ n + 1 + (i + 1)
  first : ∀ u, Ext w' u → Calls Tryz.prog 34 #[.pointer (some ⟨g, 0, none⟩)] u (PgOut u g A c T a (b + 1) F1)
  more : ∀ u j, b + 1 ≤ 100 → PgAt u g A c T j 0 a ((b + 1 : Nat) : Int) → Calls Tryz.prog 34 #[.pointer (some ⟨g, 0, none⟩)] u (PgOut u g A c T a (b + 1) (f j))
  up : Takes T f
  len : ∀ ts j, F = .ok (ts, j) → ts.length ≤ 8004
  whole : ∀ q, q + 1 = i → isName (rl T q) = true → anyP T k q = argTm (tk T q).text F
theorem open_both {T : List Tok} (hG : ToksG T) {k : Nat} (ih : ∀ m, k = m + 1 → WiTo T m) {w : World} {g A c i b : Nat} {a : Int} (hb : k + b = 100) (h : PgAt w g A c T i 0 a b) (h4 : rl T i = 4) :
    Calls Tryz.prog 61 #[.pointer (some ⟨g, 0, none⟩)] w fun e w' => e = .returned (.tuple #[]) ∧ Chg (· = g) w w' ∧ ∃ F1 f n F, OpenSt T g A c a b k i w' F1 f n F := by
  have hT := hG.ends
  cases k with
  | zero =>
    obtain rfl : b = 100 := by omega
    refine (open_lim hG h h4).mono fun e w' ⟨he, hP, hC⟩ => ⟨he, hC, .error (lim T i), fun _ => .error (0, 0), T.length, .error (lim T i), ⟨fun t j e => (by cases e), fun y e => (by cases e), rfl, by omega, fun u hu => er_out (e0 := 2) _ _ (hP.ext hu) (by decide), fun u j hb => absurd hb (by omega), fun i x j e => (by cases e), fun ts j e => (by cases e), fun q hq hn => ?_⟩⟩
    subst hq
    exact any_lim hn h4
  | succ m =>
    have hi1 := hT.next 4 h4 (by omega)
    refine (open_yes hG (by omega) h h4).mono fun e w' ⟨he, hP, hC⟩ => ⟨he, hC, anyP T m (i + 1), anyP T m, T.length - i - 1, argsP T (anyP T m) (T.length - i) [] (i + 1), ⟨fun t j e => (anyP_takes hT m _ _ _ e).1, fun y _ => by omega, ?_, by omega, fun u hu => ih m rfl u g A c (i + 1) (b + 1) a (by omega) (hP.ext hu), fun u j _ hu => ih m rfl u g A c j (b + 1) a (by omega) hu, anyP_takes hT m, fun ts j e => ?_, fun q hq hn => ?_⟩⟩
    · rw [show T.length - i = (T.length - i - 1) + 1 by omega, argsP_next, show (T.length - i - 1) + 1 - 1 = T.length - i - 1 by omega]
    · have h1 := argsP_len (anyP_takes hT m) _ _ _ _ _ e
      have h2 := (argsP_takes hT (anyP_takes hT m) _ _ _ _ _ e).2
      have := h.len
      simp at h1
      omega
    · subst hq
      rw [any_args hn h4]
      rcases argsP T (anyP T m) (T.length - (q + 1)) [] (q + 1 + 1) with e | ⟨l, j⟩ <;> rfl
theorem kind_of {T : List Tok} (hG : ToksG T) {i : Nat} (hi : i < T.length) : (rl T i = 1 ↔ (tk T i).kind = 2) ∧ (rl T i = 2 ↔ (tk T i).kind = 3) ∧ (isName (rl T i) = true ↔ (tk T i).kind = 1) := by
  have g := hG.2.1 _ (List.getElem_mem hi)
  rw [show rl T i = roleN (T[i]) by unfold rl; rw [tk_at T hi], tk_at T hi]
  have hk := role_kind g
  exact ⟨hk.2.1.symm, hk.2.2.1.symm, hk.2.2.2.1.symm⟩
set_option maxRecDepth 100000 in
set_option maxHeartbeats 4000000 in
theorem wi_step (T : List Tok) (hG : ToksG T) (k : Nat) (ih : ∀ m, k = m + 1 → WiTo T m) : WiTo T k := by
  intro w g A c i b a hb h
  have hT := hG.ends
  have hi := h.il
  have hgl := h.lt
  have hlo := h.low
  have hK := kind_of hG hi
  obtain ⟨w0, hw0⟩ : ∃ w0, w0 = w.alloc (.cells #[.int .i64 0, .string ⟨#[]⟩, .int .i64 0, .slice none 0 0] 58) := ⟨_, rfl⟩
  have hr0 : Box4 w0 w.heap.size (.int .i64 0) (.string ⟨#[]⟩) (.int .i64 0) (.slice none 0 0) := by rw [hw0]; exact Box4.new w _ _ _ _ _
  have hx0 : Ext w w0 := by rw [hw0]; exact (Ext.refl _).alloc _
  have HW0 := Lib.hid hw0
  have hR0 := h.ext hx0
  have c2 := hR0.c2
  have KN := Lib.hid (now_pg hR0)
  have hwl : w.heap.size < w0.heap.size := hr0.lt
  clear h hw0
  go_enter Tryz.func34, Tryz.ntmps34
  go_upto_region 1 with (fail)
  rw [← HW0.out]
  go_wp2_with fail
  refine KN.out.mono ?_
  rintro e w1 ⟨rfl, hx1⟩
  go_upto_region 4 with (fail)
  obtain ⟨w2, hw2⟩ : ∃ w2, w2 = w1.alloc (.cells #[.int .i64 (tk T i).kind, .string (tk T i).text, .int .i64 (tk T i).n, .int .i64 (tk T i).at_] 54) := ⟨_, rfl⟩
  rw [← hw2]
  obtain ⟨z, hz⟩ : ∃ z, z = w1.heap.size := ⟨_, rfl⟩
  have hb2 : Box4 w2 z (.int .i64 (tk T i).kind) (.string (tk T i).text) (.int .i64 (tk T i).n) (.int .i64 (tk T i).at_) := by rw [hw2, hz]; exact Box4.new w1 _ _ _ _ _
  have hx2 : Ext w1 w2 := by rw [hw2]; exact (Ext.refl _).alloc _
  rw [← hz]
  have hzw : w.heap.size < z := by have := hx1.size; omega
  have hr2 := (hr0.ext hx1).ext hx2
  have hR2 := (hR0.ext hx1).ext hx2
  have hxc := (hx0.trans hx1).trans hx2
  have hw := hG.1
  have hfn : (Lit.int .i64 (tk T i).n).wf = true ∧ (tk T i).text.size ≤ 4000 := by
    have g := hG.2.1 _ (List.getElem_mem hi)
    rw [tk_at T hi]
    have e1 : IntKind.i64.min = -9223372036854775808 := by decide
    have e2 : IntKind.i64.max = 9223372036854775807 := by decide
    have := g.n
    have := g.le
    refine ⟨?_, by omega⟩
    simp only [Lit.wf, e1, e2, Bool.and_eq_true, decide_eq_true_eq]
    omega
  have HFN := Lib.hid hfn
  clear KN hr0 hx0 hR0 hx1 hx2 hw2 hz c2 hw hfn
  obtain ⟨z0, z1, z2, z3, _, _, _, _⟩ := hb2
  by_cases hv : rl T i = 1
  · have hkk := hK.1.1 hv
    have HA := Lib.hid (any_var (k := k) hv)
    have hi1 := hT.2 i (by omega)
    have hw1 : IntKind.i64.wrap ((i : Int) + 1) = (i : Int) + 1 := by have := hR2.len; rw [IntKind.wrap_i64]; omega
    have p1 := hR2.c1
    have pf := hR2.fr 1 (by omega)
    have H2 := Lib.hid (hR2.to (i + 1) hi1)
    obtain ⟨y0, y1, y2, y3, f0, f1, f2, f3⟩ := hr2
    have HC : Hid (Chg (· = g) w (w2.setCell ⟨g, 1, none⟩ (.int .i64 ((i + 1 : Nat) : Int)))) := Lib.hid ((Chg.of_ext hxc).setg _ _)
    have hgz : g ≠ z := by omega
    have hgw : g ≠ w.heap.size := by omega
    rw [hkk] at z0
    clear hR2 hK hv
    go_wp2_with fail
    refine bodyPost_ret (v := (⟨1, (tk T i).text, 0, []⟩ : Tm).val none 0) (by simp [results, Tryz.results34, go_sem, *]) rfl ?_
    rw [HA.out]
    exact pg_fin_ok HC.out hwl H2.out hgl hlo (.leaf 0 (leaf_fits (by decide) (by decide) HFN.out.2) rfl) rfl rfl
  · have hk1 : ((tk T i).kind == 2) = false := by have := mt hK.1.2 hv; simp [this]
    by_cases hn : rl T i = 2
    · have hkk := hK.2.1.1 hn
      have HA := Lib.hid (any_num (k := k) hn)
      have hi1 := hT.2 i (by omega)
      have hw1 : IntKind.i64.wrap ((i : Int) + 1) = (i : Int) + 1 := by have := hR2.len; rw [IntKind.wrap_i64]; omega
      have p1 := hR2.c1
      have pf := hR2.fr 1 (by omega)
      have H2 := Lib.hid (hR2.to (i + 1) hi1)
      obtain ⟨y0, y1, y2, y3, f0, f1, f2, f3⟩ := hr2
      have HC : Hid (Chg (· = g) w (w2.setCell ⟨g, 1, none⟩ (.int .i64 ((i + 1 : Nat) : Int)))) := Lib.hid ((Chg.of_ext hxc).setg _ _)
      have hgz : g ≠ z := by omega
      have hgw : g ≠ w.heap.size := by omega
      rw [hkk] at z0 hk1
      clear hR2 hK hv hn
      go_wp2_with fail
      refine bodyPost_ret (v := (⟨2, .empty, (tk T i).n, []⟩ : Tm).val none 0) (by simp [results, Tryz.results34, go_sem, *]; rfl) rfl ?_
      rw [HA.out]
      exact pg_fin_ok HC.out hwl H2.out hgl hlo (.leaf 0 (leaf_fits (by decide) HFN.out.1 (by decide)) rfl) rfl rfl
    · have hk2 : ((tk T i).kind == 3) = false := by have := mt hK.2.1.2 hn; simp [this]
      cases hnm : isName (rl T i) with
      | false =>
        have hk3 : ((tk T i).kind == 1) = false := by
          have : ¬ (tk T i).kind = 1 := fun e => by rw [hK.2.2.2 e] at hnm; cases hnm
          simp [this]
        have HA := Lib.hid (any_bad (k := k) hv hn hnm)
        have KF := Lib.hid (fails_yes 4 (tk T i).at_ hR2)
        clear hR2 hK hv hn hnm
        go_wp2_with fail
        refine KF.out.mono ?_
        rintro e w3 ⟨rfl, hE, hC3⟩
        obtain ⟨y0, y1, y2, y3, f0, f1, f2, f3⟩ := hr2.chg hC3 (by omega)
        have hC := (Chg.of_ext hxc).trans hC3
        have HE := Lib.hid hE
        clear hE KF
        go_wp2_with fail
        refine bodyPost_ret (v := .agg #[.int .i64 0, .string ⟨#[]⟩, .int .i64 0, .slice none 0 0]) (by simp [results, Tryz.results34, go_sem, *]) rfl ?_
        rw [HA.out]
        exact pg_fin_err (x := 4) (by decide) hC HE.out hgl hlo (v0 := .int .i64 0) (v1 := .string ⟨#[]⟩) (v2 := .int .i64 0) (v3 := .slice none 0 0) rfl ⟨_, _, _, _, _, _, rfl⟩
      | true =>
        have hkk := hK.2.2.1 hnm
        have hi1 := hT.2 i (name_ne hnm).2.2
        have hw1 : IntKind.i64.wrap ((i : Int) + 1) = (i : Int) + 1 := by have := hR2.len; rw [IntKind.wrap_i64]; omega
        have p1 := hR2.c1
        have pf := hR2.fr 1 (by omega)
        have HR3 := Lib.hid (hR2.to (i + 1) hi1)
        have HC3 : Hid (Chg (· = g) w (w2.setCell ⟨g, 1, none⟩ (.int .i64 ((i + 1 : Nat) : Int)))) := Lib.hid ((Chg.of_ext hxc).setg _ _)
        have HC23 : Hid (Chg (· = g) w2 (w2.setCell ⟨g, 1, none⟩ (.int .i64 ((i + 1 : Nat) : Int)))) := Lib.hid ((Chg.refl _ _).setg _ _)
        have hgz : g ≠ z := by omega
        have HNM := Lib.hid hnm
        rw [hkk] at z0 hk1 hk2
        clear hR2 hK hv hn hnm
        go_upto_region 14 with (fail)
        have hs3 : (w2.setCell ⟨g, 1, none⟩ (.int .i64 ((i + 1 : Nat) : Int))).heap.size = w2.heap.size := by simp
        have hr3 := hr2.chg HC23.out (by omega)
        rw [Int.natCast_add] at HC3 HC23 HR3 hs3 hr3
        simp only [Int.cast_ofNat_Int] at HC3 HC23 HR3 hs3 hr3
        obtain ⟨w3, hw3⟩ : ∃ w3, w3 = (w2.setCell ⟨g, 1, none⟩ (.int .i64 ((i : Int) + 1))) := ⟨_, rfl⟩
        rw [← hw3] at HC3 HC23 HR3 hs3 hr3
        rw [← hw3]
        obtain ⟨w4, hw4⟩ : ∃ w4, w4 = w3.alloc (.cells #[.int .i64 3, .string (tk T i).text, .int .i64 0, .slice none 0 0] 58) := ⟨_, rfl⟩
        rw [← hw4]
        obtain ⟨p, hp⟩ : ∃ p, p = w2.heap.size := ⟨_, rfl⟩
        rw [← hp]
        have hb4 : Box4 w4 p (.int .i64 3) (.string (tk T i).text) (.int .i64 0) (.slice none 0 0) := by rw [hw4, hp, ← hs3]; exact Box4.new w3 _ _ _ _ _
        have hx4 : Ext w3 w4 := by rw [hw4]; exact (Ext.refl _).alloc _
        have hpl : p < w4.heap.size := hb4.lt
        have hwp : w.heap.size < p := by have := hr2.lt; omega
        have hr4 := hr3.ext hx4
        have hR4 := HR3.out.ext hx4
        have hC4 := HC3.out.trans (Chg.of_ext hx4)
        have hpg : p ≠ g := by omega
        have hpA : p ≠ A := by omega
        have hg4 : g < w4.heap.size := by omega
        have hA4 : A < w4.heap.size := by omega
        clear hw3 hw4 hp HR3 HC3 HC23 hs3 hr3 hr2 hx4 z0 z1 z2 z3 p1 pf hgz
        by_cases h4 : rl T (i + 1) = 4
        · have KM := Lib.hid (mark_pg hG 0 (by omega) _ open_txt hR4)
          rw [decide_eq_true h4] at KM
          have KO := Lib.hid (fun (u : World) (hu : Ext w4 u) => open_both hG ih hb (hR4.ext hu) h4)
          obtain ⟨i0, hi0, hz0, hz1, hz2⟩ := info_parts infoTm'
          clear hR4 h4
          go_wp2_with fail
          refine KM.out.mono ?_
          rintro e w5 ⟨rfl, hx5⟩
          have K2 := Lib.hid (KO.out _ hx5)
          go_wp2_with fail
          refine K2.out.mono ?_
          rintro e w6 ⟨rfl, hC6, F1, f, n, F, hS⟩
          have hC46 := (Chg.of_ext (F := (· = g)) hx5).trans hC6
          obtain ⟨t0, t1, t2, t3, _, _, _, ft3⟩ := hb4.chg hC46 hpg
          have hr6 := hr4.chg hC46 (by omega)
          have hs6 := hC46.size
          have hC06 := hC4.trans hC46
          have dcd : w6.drew.cell? ⟨p, 3, none⟩ = some (.slice none 0 0) := t3
          have hp6 : p < w6.heap.size := by omega
          have hg6 : g < w6.heap.size := by omega
          have hA6 : A < w6.heap.size := by omega
          have KF := Lib.hid (hS.first w6.drew (Ext.refl _).drew)
          have HS := Lib.hid hS
          clear KM KO K2 hr4 hb4 hC4 hC6 hC46 hx5 hS
          go_upto_region 16 with (fail)
          go_cut [] (fun wx => ∃ v, wx.cell? ⟨p, 3, none⟩ = some v ∧ wx.frozen? ⟨p, 3, none⟩ = false ∧ Chg (fun x => x = g ∨ x = p) w6 wx ∧ (∀ j, j < 3 → wx.cell? ⟨p, j, none⟩ = w6.cell? ⟨p, j, none⟩) ∧ Hid (ArgSt w6 g A c T a (b + 1) f F wx v))
          case first =>
            go_region_law
              (first
                | (go_simp; go_at_call 34; refine KF.out.mono ?_; rintro e7 w7 hPO; obtain ⟨k', s', n', A', l', c', rfl⟩ := hPO.val; have d7 := hPO.1.cell dcd hpg; have hs7 : w6.heap.size ≤ w7.heap.size := hPO.1.size; have hp7 : p < w7.heap.size := by omega)
                | (refine step_app _ (by rfl) (.tmp 56) (.tmp 59) 56 (by rfl) w6.heap.size 58 i0 _ 4 56 Tryz.underlying56 hi0 hz0 hz1 hz2 (by rfl) (by decide) (.slice none 0 0) 0 [] (by rfl) (World.ownsRow_nil _ _ _ _) (some ⟨w7.heap.size, 0, none⟩) 1 1 [.int .i64 k', .string s', .int .i64 n', .slice A' l' c'] (by rfl) (Src.box w7 #[.int .i64 k', .string s', .int .i64 n', .slice A' l' c'] 58 4 rfl) (by simp [Value.oneCell']) (by decide) (by decide) (by simpa using Nat.le_succ_of_le hs7) ?_; intro v' w8 ho8 hg8 hat8; obtain ⟨q, cap', rfl, hcap⟩ := own_form ho8 (Nat.succ_pos _); have k8 := (Chg.of_ext (F := fun x => (Value.slice none 0 0).ownBlock = some x) ((Ext.refl w7).alloc (.cells #[.int .i64 k', .string s', .int .i64 n', .slice A' l' c'] 58))).trans (own_chg hg8); have q8 := k8.cell d7 (by simp [Value.ownBlock]); have f8 : w8.frozen? ⟨p, 3, none⟩ = false := (World.frozen?_of_block (w := w6) ((k8.block p (by omega) (by simp [Value.ownBlock])).trans (hPO.1.block p hp6 hpg))).trans ft3))
            all_goals
              have hq8 : (Value.slice none 0 0).ownBlock = some q ∨ w7.heap.size ≤ q := by
                rcases hat8 with e | e
                · exact .inl e.symm
                · right
                  have : q = w7.heap.size + 1 := by simpa [Value.ownBlock] using e
                  omega
              have hfin := pg_arg HS.out.lim HS.out.near HS.out.next ((AInv.start w6).ext (Ext.refl w6).drew) (Nat.zero_le _) HS.out.long hPO ((Chg.of_ext (Ext.refl w6).drew)) hg6 hA6 hp6 hpg hpA (fun j _ => rfl) ft3 dcd k8 ho8 hq8 rfl
              have HH := Lib.hid hfin
              clear hfin k8 ho8 hg8 hat8 hq8 q8 f8 hPO d7
              go_wp2_with fail
              go_meet
              exact ⟨_, HH.out.1, HH.out.2.1, HH.out.2.2.1, HH.out.2.2.2.1, Lib.hid HH.out.2.2.2.2.1⟩
          case rest =>
            obtain ⟨v, dc, fc, hC, hcs, HST⟩ := hcut
            have hgb : w.heap.size ≠ g := by omega
            have hpb : w.heap.size ≠ p := by omega
            go_wp2_with fail
            go_loopw [] (fun wr => ∃ v, wr.cell? ⟨p, 3, none⟩ = some v ∧ wr.frozen? ⟨p, 3, none⟩ = false ∧ Chg (fun x => x = g ∨ x = p) w6 wr ∧ (∀ j, j < 3 → wr.cell? ⟨p, j, none⟩ = w6.cell? ⟨p, j, none⟩) ∧ Hid (ArgSt w6 g A c T a (b + 1) f F wr v)) (fun wr => pgM T.length wr g)
            case atStart => exact ⟨v, dc, fc, hC, hcs, HST⟩
            case round =>
              clear dc fc hC hcs HST
              obtain ⟨v, dc, fc, hC, hcs, HST⟩ := hrel
              have HCS := Lib.hid hcs
              clear hcs
              rcases HST.out with ⟨xs, j, n', hb1, hP, hAI, hxj, hn, hF⟩ | ⟨i', x, p', d', SA, l, sc, hx, hP, rfl, hF⟩
              · by_cases h6 : rl T j = 6
                · have KT := Lib.hid (take_pyes hG 2 (by omega) _ comma_txt hP h6)
                  have HM := Lib.hid (hP.m0 T.length)
                  have hxl := hP.len
                  have hjl := hP.il
                  have HAI := Lib.hid hAI
                  obtain ⟨n', rfl⟩ : ∃ m, n' = m + 1 := ⟨n' - 1, by omega⟩
                  have HF : Hid (nextP T f n' (xs.map (·.1)) (f (j + 1)) = F) := Lib.hid (by rw [← hF]; unfold contP; rw [if_pos h6, argsP_next])
                  have HUP : Hid (∀ t i, f (j + 1) = .ok (t, i) → j + 1 < i) := Lib.hid (fun t i e => (HS.out.up _ _ _ e).1)
                  clear hP hF HST h6
                  go_wp2_with fail
                  refine KT.out.mono ?_
                  rintro e w7 ⟨rfl, hP7, hC7⟩
                  have hA7 := hAI.chg hC7 hg6
                  have hpr := World.block_lt_of_cell? _ _ dc
                  have kb7 := hC7.block p hpr hpg
                  have dc7 := hC7.cell dc hpg
                  have fc7 : w7.frozen? ⟨p, 3, none⟩ = false := (World.frozen?_of_block (w := wr) kb7).trans fc
                  have hC67 : Chg (fun x => x = g ∨ x = p) w6 w7 := hC.trans (hC7.weak fun _ e => .inl e)
                  have HCS7 : Hid (∀ j, j < 3 → w7.cell? ⟨p, j, none⟩ = w6.cell? ⟨p, j, none⟩) := Lib.hid (fun j hj => (World.cell?_of_block (w := wr) kb7).trans (HCS.out j hj))
                  have dcd7 : w7.drew.cell? ⟨p, 3, none⟩ = some v := dc7
                  have hp7 : p < w7.heap.size := World.block_lt_of_cell? _ _ dc7
                  have KF := Lib.hid (HS.out.more w7.drew (j + 1) hb1 (hP7.ext (Ext.refl _).drew))
                  have HA7 := Lib.hid (hA7.ext (Ext.refl w7).drew)
                  have HC67 := Lib.hid (hC67.trans (Chg.of_ext (Ext.refl w7).drew))
                  have h67 := hC67.size
                  have H63 : Hid (xs.length + 1 ≤ maxLen) := Lib.hid (by unfold maxLen; omega)
                  have HBY : Hid ((xs.length + 1) * 56 ≤ 140737488355328) := Lib.hid (by omega)
                  have HN : Hid (v.ownBlock ≠ some p) := Lib.hid (fun e => by have := (own_lt HA7.out.own p e).1; omega)
                  have HXJ : Hid (xs.length ≤ j + 1 ∧ T.length ≤ n' + 1 + (j + 1)) := Lib.hid (by omega)
                  clear KT hP7 hC7 hA7 hC67 kb7 dc fc hC HAI hAI HCS dc7 t0 t1 t2 t3 dcd hr6
                  go_upto_region 18 with (fail)
                  go_region_law
                    (first
                      | (go_simp; go_at_call 34; refine KF.out.mono ?_; rintro e8 w8 hPO; obtain ⟨k', s', n8, A', l', c', rfl⟩ := hPO.val; have d8 := hPO.1.cell dcd7 hpg; have hs8 : w7.heap.size ≤ w8.heap.size := hPO.1.size; have hp8 : p < w8.heap.size := by omega)
                      | (refine step_app _ (by rfl) (.tmp 65) (.tmp 68) 56 (by rfl) w6.heap.size 58 i0 _ 4 56 Tryz.underlying56 hi0 hz0 hz1 hz2 (by rfl) (by decide) v xs.length (rowCells xs) (by rfl) ((HA7.out.chg hPO.1 hg6).own.alloc _) (some ⟨w8.heap.size, 0, none⟩) 1 1 [.int .i64 k', .string s', .int .i64 n8, .slice A' l' c'] (by rfl) (Src.box w8 #[.int .i64 k', .string s', .int .i64 n8, .slice A' l' c'] 58 4 rfl) (by simp [Value.oneCell']) H63.out HBY.out (by simp; omega) ?_; intro v' w9 ho9 hg9 hat9; obtain ⟨q, cap', rfl, hcap⟩ := own_form ho9 (Nat.succ_pos _); have k9 := (Chg.of_ext (F := fun x => v.ownBlock = some x) ((Ext.refl w8).alloc (.cells #[.int .i64 k', .string s', .int .i64 n8, .slice A' l' c'] 58))).trans (own_chg hg9); have q9 := k9.cell d8 HN.out; have f9 : w9.frozen? ⟨p, 3, none⟩ = false := (World.frozen?_of_block (w := w7) ((k9.block p hp8 HN.out).trans (hPO.1.block p hp7 hpg))).trans fc7))
                  all_goals
                    have hq9 : v.ownBlock = some q ∨ w8.heap.size ≤ q := by
                      rcases hat9 with e | e
                      · exact .inl e.symm
                      · right
                        have : q = w8.heap.size + 1 := by simpa [Value.ownBlock] using e
                        omega
                    have hfin := pg_arg (fun _ _ => hb1) HUP.out HF.out HA7.out HXJ.out.1 HXJ.out.2 hPO HC67.out hg6 hA6 hp6 hpg hpA (fun j hj => HCS7.out j hj) fc7 dcd7 k9 ho9 hq9 rfl
                    have HH := Lib.hid hfin
                    clear hfin k9 ho9 hg9 hat9 hq9 q9 f9 hPO d8
                    go_wp2_with fail
                    go_roundw
                    case rel => exact ⟨_, HH.out.1, HH.out.2.1, HH.out.2.2.1, HH.out.2.2.2.1, Lib.hid HH.out.2.2.2.2.1⟩
                    case measure => rw [HM.out]; have := HH.out.2.2.2.2.2; omega
                · have KT := Lib.hid (take_pno hG 2 (by omega) _ comma_txt hP (by omega))
                  have HP := Lib.hid hP
                  have HAI := Lib.hid hAI
                  have hxl := hP.len
                  have hjl := hP.il
                  by_cases h5 : rl T j = 5
                  · obtain ⟨ts, hts⟩ : ∃ ts, ts = xs.map (·.1) := ⟨_, rfl⟩
                    have HTS := Lib.hid hts.symm
                    have HTL : Hid (ts.length ≤ 8004) := Lib.hid (by rw [hts]; simp; omega)
                    have HF : Hid (F = .ok (ts, j + 1)) := Lib.hid (by rw [hts]; rw [← hF]; unfold contP; rw [if_neg h6, if_pos h5])
                    have KC := Lib.hid (fun (u : World) (hu : Ext wr u) => close_yes hG (by omega) (HP.out.ext hu) h5)
                    clear hP hF HST hAI h5 h6 hts
                    go_wp2_with fail
                    refine KT.out.mono ?_
                    rintro e w7 ⟨rfl, hx7⟩
                    have K2 := Lib.hid (KC.out _ hx7)
                    go_wp2_with fail
                    refine K2.out.mono ?_
                    rintro e w8 ⟨rfl, hP8, hC8⟩
                    have hC78 := (Chg.of_ext (F := (· = g)) hx7).trans hC8
                    obtain ⟨A', c', rfl, hIn⟩ := (HAI.out.chg hC78 hg6).done ⟨3, (tk T i).text, 0, ts⟩ HTS.out (args_fits HFN.out.2 HTL.out)
                    have hpr := World.block_lt_of_cell? _ _ dc
                    have kb := hC78.block p hpr hpg
                    have s0 := (World.cell?_of_block (a := ⟨p, 0, none⟩) kb).trans ((HCS.out 0 (by omega)).trans t0)
                    have s1 := (World.cell?_of_block (a := ⟨p, 1, none⟩) kb).trans ((HCS.out 1 (by omega)).trans t1)
                    have s2 := (World.cell?_of_block (a := ⟨p, 2, none⟩) kb).trans ((HCS.out 2 (by omega)).trans t2)
                    have s3 := hC78.cell dc hpg
                    obtain ⟨y0, y1, y2, y3, f0, f1, f2, f3⟩ := (hr6.chg hC (by omega)).chg hC78 (by omega)
                    have hCf := (chg_new hC06 hC (by omega)).trans hC78
                    have HH := Lib.hid (And.intro hP8 hIn)
                    have HA : Hid (anyP T k i = .ok (⟨3, (tk T i).text, 0, ts⟩, j + 1)) := Lib.hid (by rw [HS.out.whole i rfl HNM.out, HF.out]; rfl)
                    have hw6 : w.heap.size < w6.heap.size := by omega
                    clear KC K2 KT hP8 hIn hC8 hx7 hC78 kb dc fc t0 t1 t2 t3 hr6 dcd
                    go_wp2_with fail
                    refine bodyPost_ret (v := (⟨3, (tk T i).text, 0, ts⟩ : Tm).val A' c') (by simp [results, Tryz.results34, go_sem, *]) rfl ?_
                    rw [HA.out]
                    exact pg_fin_ok hCf hw6 HH.out.1 hgl hlo HH.out.2 rfl rfl
                  · have HF : Hid (F = .error (bad T j)) := Lib.hid (by rw [← hF]; unfold contP; rw [if_neg h6, if_neg h5])
                    have KC := Lib.hid (fun (u : World) (hu : Ext wr u) => close_no hG (HP.out.ext hu) h5)
                    obtain ⟨SA, sc, rfl, _⟩ := src_own hAI.own
                    clear hP hF HST hAI h5 h6
                    go_wp2_with fail
                    refine KT.out.mono ?_
                    rintro e w7 ⟨rfl, hx7⟩
                    have K2 := Lib.hid (KC.out _ hx7)
                    go_wp2_with fail
                    refine K2.out.mono ?_
                    rintro e w8 ⟨rfl, ⟨d8, hP8⟩, hC8⟩
                    have hC78 := (Chg.of_ext (F := (· = g)) hx7).trans hC8
                    have hpr := World.block_lt_of_cell? _ _ dc
                    have kb := hC78.block p hpr hpg
                    have s0 := (World.cell?_of_block (a := ⟨p, 0, none⟩) kb).trans ((HCS.out 0 (by omega)).trans t0)
                    have s1 := (World.cell?_of_block (a := ⟨p, 1, none⟩) kb).trans ((HCS.out 1 (by omega)).trans t1)
                    have s2 := (World.cell?_of_block (a := ⟨p, 2, none⟩) kb).trans ((HCS.out 2 (by omega)).trans t2)
                    have s3 := hC78.cell dc hpg
                    obtain ⟨y0, y1, y2, y3, f0, f1, f2, f3⟩ := (hr6.chg hC (by omega)).chg hC78 (by omega)
                    have hCf := (chg_new hC06 hC (by omega)).trans hC78
                    have HP8 := Lib.hid hP8
                    have HA : Hid (anyP T k i = .error (bad T j)) := Lib.hid (by rw [HS.out.whole i rfl HNM.out, HF.out]; rfl)
                    clear KC K2 KT hP8 hC8 hx7 hC78 kb dc fc t0 t1 t2 t3 hr6 dcd
                    go_wp2_with fail
                    refine bodyPost_ret (v := .agg #[.int .i64 3, .string (tk T i).text, .int .i64 0, .slice SA xs.length sc]) (by simp [results, Tryz.results34, go_sem, *]) rfl ?_
                    rw [HA.out]
                    exact pg_fin_err (x := 4) (by decide) hCf HP8.out hgl hlo rfl ⟨_, _, _, _, _, _, rfl⟩
              · have KT := Lib.hid (take_per ⟨#[44]⟩ hP hx)
                have HP := Lib.hid hP
                have HX := Lib.hid hx
                have HF := Lib.hid hF
                clear hP hx hF HST
                go_wp2_with fail
                refine KT.out.mono ?_
                rintro e w7 ⟨rfl, hx7⟩
                have KC := Lib.hid (close_er (HP.out.ext hx7) HX.out)
                go_wp2_with fail
                refine KC.out.mono ?_
                rintro e w8 ⟨rfl, ⟨d8, hP8⟩, hC8⟩
                have hC78 := (Chg.of_ext (F := (· = g)) hx7).trans hC8
                have hpr := World.block_lt_of_cell? _ _ dc
                have kb := hC78.block p hpr hpg
                have s0 := (World.cell?_of_block (a := ⟨p, 0, none⟩) kb).trans ((HCS.out 0 (by omega)).trans t0)
                have s1 := (World.cell?_of_block (a := ⟨p, 1, none⟩) kb).trans ((HCS.out 1 (by omega)).trans t1)
                have s2 := (World.cell?_of_block (a := ⟨p, 2, none⟩) kb).trans ((HCS.out 2 (by omega)).trans t2)
                have s3 := hC78.cell dc hpg
                obtain ⟨y0, y1, y2, y3, f0, f1, f2, f3⟩ := (hr6.chg hC (by omega)).chg hC78 (by omega)
                have hCf := (chg_new hC06 hC (by omega)).trans hC78
                have HP8 := Lib.hid hP8
                have HA : Hid (anyP T k i = .error (p', x)) := Lib.hid (by rw [HS.out.whole i rfl HNM.out, HF.out]; rfl)
                clear KC KT hP8 hC8 hx7 hC78 kb dc fc t0 t1 t2 t3 hr6 dcd
                go_wp2_with fail
                refine bodyPost_ret (v := .agg #[.int .i64 3, .string (tk T i).text, .int .i64 0, .slice SA l sc]) (by simp [results, Tryz.results34, go_sem, *]) rfl ?_
                rw [HA.out]
                exact pg_fin_err HX.out hCf HP8.out hgl hlo rfl ⟨_, _, _, _, _, _, rfl⟩
        · have KM := Lib.hid (mark_pg hG 0 (by omega) _ open_txt hR4)
          rw [decide_eq_false h4] at KM
          have HA := Lib.hid (any_name (k := k) HNM.out h4)
          have HR4 := Lib.hid hR4
          clear hR4 h4
          go_wp2_with fail
          refine KM.out.mono ?_
          rintro e w5 ⟨rfl, hx5⟩
          obtain ⟨y0, y1, y2, y3, f0, f1, f2, f3⟩ := hr4.ext hx5
          obtain ⟨t0, t1, t2, t3, _, _, _, _⟩ := hb4.ext hx5
          have hC5 := hC4.trans (Chg.of_ext hx5)
          have HR5 := Lib.hid (HR4.out.ext hx5)
          clear KM hr4 hb4 hC4 hx5 HR4
          go_wp2_with fail
          refine bodyPost_ret (v := (⟨3, (tk T i).text, 0, []⟩ : Tm).val none 0) (by simp [results, Tryz.results34, go_sem, *]) rfl ?_
          rw [HA.out]
          exact pg_fin_ok hC5 hwl HR5.out hgl hlo (.leaf 0 (leaf_fits (by decide) (by decide) HFN.out.2) rfl) rfl rfl
theorem wi_all (T : List Tok) (hG : ToksG T) (k : Nat) : WiTo T k := by
  induction k with
  | zero => exact wi_step T hG 0 (fun m h => by omega)
  | succ k ih => exact wi_step T hG (k + 1) (fun m h => by obtain rfl : k = m := by omega
                                                           exact ih)
end Go.Proofs.YtbjghkmjnhmlfaaGreatDoor

/- The page's reader: term, ended. -/
namespace Go.Proofs.YtbjghkmjnhmlfaaGreatDoor
open Go.RowKit

theorem argsP_all {T : List Tok} {f : Nat → Rs Tm} {Q : Tm → Prop} (hf : ∀ i t j, f i = .ok (t, j) → Q t) : ∀ n acc i ts j, (∀ t ∈ acc, Q t) → argsP T f n acc i = .ok (ts, j) → ∀ t ∈ ts, Q t := by
  intro n
  induction n with
  | zero => intro acc i ts j _ h; simp [argsP] at h
  | succ n ih =>
    intro acc i ts j ha h
    rw [argsP] at h
    match hr : f i with
    | .error e => rw [hr] at h; cases h
    | .ok (t, j') =>
      rw [hr] at h
      have hq : ∀ x ∈ acc ++ [t], Q x := fun x hx => by
        rcases List.mem_append.1 hx with hx | hx
        · exact ha x hx
        · obtain rfl := List.mem_singleton.1 hx; exact hf _ _ _ hr
      simp only at h
      split at h
      · exact ih _ _ _ _ hq h
      · split at h
        · cases h; exact hq
        · cases h
theorem highs_all {h : Nat} : ∀ {l : List Tm}, (∀ t ∈ l, t.high ≤ h) → highs l ≤ h
  | [], _ => by simp [highs]
  | t :: l, H => by
    rw [highs]
    exact Nat.max_le.2 ⟨H t (List.mem_cons_self ..), highs_all fun x hx => H x (List.mem_cons_of_mem _ hx)⟩
theorem head_high {T : List Tok} {g : ByteArray → Nat → Rs Tm} {h : Nat} (h1 : 1 ≤ h) (hg : ∀ s i t j, g s i = .ok (t, j) → t.high ≤ h) (i : Nat) (t : Tm) (j : Nat) (e : headP T g i = .ok (t, j)) : t.high ≤ h := by
  unfold headP at e
  split at e
  · cases e; simpa [Tm.high, highs] using h1
  · split at e
    · cases e; simpa [Tm.high, highs] using h1
    · split at e
      · split at e
        · exact hg _ _ _ _ e
        · cases e; simpa [Tm.high, highs] using h1
      · cases e
theorem anyP_high {T : List Tok} : ∀ k i t j, anyP T k i = .ok (t, j) → t.high ≤ k + 1 := by
  intro k
  induction k with
  | zero => exact head_high (by omega) (fun s i t j h => by cases h)
  | succ k ih =>
    refine head_high (by omega) (fun s i t j h => ?_)
    match hr : argsP T (anyP T k) (T.length - i) [] (i + 1) with
    | .error e => rw [hr] at h; cases h
    | .ok (l, j') =>
      rw [hr] at h
      cases h
      have := highs_all (argsP_all ih _ _ _ _ _ (fun t ht => by simp at ht) hr)
      simp only [Tm.high]
      omega
set_option maxRecDepth 100000 in
set_option maxHeartbeats 4000000 in
theorem pterm_any {T : List Tok} (hG : ToksG T) {k : Nat} (hk : k ≤ 100) {w : World} {g A c i b : Nat} {a : Int} (hb : k + b = 100) (h : PgAt w g A c T i 0 a b) :
    Calls Tryz.prog 19 #[.pointer (some ⟨g, 0, none⟩)] w (PgOut w g A c T a b (termP T k i)) := by
  have hgl := h.lt
  have hlo := h.low
  obtain ⟨w0, hw0⟩ : ∃ w0, w0 = w.alloc (.cells #[.int .i64 0, .string ⟨#[]⟩, .int .i64 0, .slice none 0 0] 58) := ⟨_, rfl⟩
  have hr0 : Box4 w0 w.heap.size (.int .i64 0) (.string ⟨#[]⟩) (.int .i64 0) (.slice none 0 0) := by rw [hw0]; exact Box4.new w _ _ _ _ _
  have hx0 : Ext w w0 := by rw [hw0]; exact (Ext.refl _).alloc _
  have HW0 := Lib.hid hw0
  have hR0 := h.ext hx0
  have c2 := hR0.c2
  have q3 := fld3
  have KN := Lib.hid (now_pg hR0)
  have hwl : w.heap.size < w0.heap.size := hr0.lt
  clear h hw0
  go_enter Tryz.func19, Tryz.ntmps19
  go_upto_region 1 with (fail)
  rw [← HW0.out]
  go_wp2_with fail
  refine KN.out.mono ?_
  rintro e w1 ⟨rfl, hx1⟩
  have hxw := hx0.trans hx1
  have hr1 := hr0.ext hx1
  have hw1 : w.heap.size < w1.heap.size := hr1.lt
  have KW := Lib.hid (wi_all T hG k w1 g A c i b a hb (hR0.ext hx1))
  clear KN hr0 hx0 hR0 hx1 c2 HW0
  go_wp2_with fail
  refine KW.out.mono ?_
  rintro e w2 hPO
  obtain ⟨k', s', n', A', l', c', rfl⟩ := hPO.val
  have hC2 := hPO.1
  have hr2 := hr1.chg hC2 (by omega)
  have hCw := (Chg.of_ext (F := (· = g)) hxw).trans hC2
  have hs2 := hC2.size
  have HPO := Lib.hid hPO
  clear hr1 hxw hC2 hPO KW
  go_upto_region 5 with (fail)
  obtain ⟨w3, hw3⟩ : ∃ w3, w3 = w2.alloc (.cells #[.int .i64 k', .string s', .int .i64 n', .slice A' l' c'] 58) := ⟨_, rfl⟩
  have hb3 : Box4 w3 w2.heap.size (.int .i64 k') (.string s') (.int .i64 n') (.slice A' l' c') := by rw [hw3]; exact Box4.new w2 _ _ _ _ _
  have hx3 : Ext w2 w3 := by rw [hw3]; exact (Ext.refl _).alloc _
  rw [← hw3]
  clear hw3
  have hr3 := hr2.ext hx3
  have hC3 := hCw.trans (Chg.of_ext hx3)
  clear hr2 hCw
  match hF : anyP T k i with
  | .error (p, x) =>
    have HA : Hid (termP T k i = .error (p, x)) := Lib.hid (by unfold termP; rw [hF])
    obtain ⟨_, ho⟩ := HPO.out
    rw [hF] at ho
    obtain ⟨hx, _, i', d', hP⟩ := ho
    have hP3 := hP.ext hx3
    have c2 := hP3.c2
    have q : (x == 0) = false := by simp [hx]
    have HP := Lib.hid hP3
    have HX := Lib.hid hx
    obtain ⟨b0, b1, b2, b3, _, _, _, _⟩ := hb3
    obtain ⟨y0, y1, y2, y3, f0, f1, f2, f3⟩ := hr3
    clear hP hP3 hx hF HPO hx3
    go_wp2_with fail
    refine bodyPost_ret (v := .agg #[.int .i64 k', .string s', .int .i64 n', .slice A' l' c']) (by simp [results, Tryz.results19, go_sem, *]) rfl ?_
    rw [HA.out]
    exact pg_fin_err HX.out hC3 HP.out hgl hlo rfl ⟨_, _, _, _, _, _, rfl⟩
  | .ok (t, j) =>
    obtain ⟨_, ho⟩ := HPO.out
    rw [hF] at ho
    obtain ⟨A2, c2, he, hIn, hP⟩ := ho
    injection he with he
    injection he with he
    have e0 := congrArg (fun l : Array Value => l.toList) he
    simp only [List.cons.injEq, and_true] at e0
    obtain ⟨e1, e2, e3, e4⟩ := e0
    rw [e1, e2, e3, e4] at hb3 ⊢
    have hIn3 := hIn.step (fun b _ hb => hx3.block b hb) hx3.size
    have hP3 := hP.ext hx3
    have pc2 := hP3.c2
    have KT := Lib.hid (rTerm_any t A2 c2 w3 hIn3.at_ (by have := anyP_high _ _ _ _ hF; omega))
    have HP := Lib.hid hP3
    have HI := Lib.hid hIn3
    have hs3 : w2.heap.size < w3.heap.size := hb3.lt
    cases hm : mayB t with
    | true =>
      have HA : Hid (termP T k i = .ok (t, j)) := Lib.hid (by unfold termP; rw [hF]; simp only; rw [if_pos hm])
      rw [hm] at KT
      obtain ⟨b0, b1, b2, b3, _, _, _, _⟩ := hb3
      clear hP hP3 hIn hIn3 hF HPO hx3 he e1 e2 e3 e4 hm
      go_wp2_with fail
      refine KT.out.mono ?_
      rintro e w4 ⟨rfl, hx4⟩
      obtain ⟨y0, y1, y2, y3, f0, f1, f2, f3⟩ := hr3.ext hx4
      have d0 := hx4.cell b0
      have d1 := hx4.cell b1
      have d2 := hx4.cell b2
      have d3 := hx4.cell b3
      have hC4 := hC3.trans (Chg.of_ext hx4)
      have HH := Lib.hid (And.intro (HP.out.ext hx4) (HI.out.step (fun b _ h2 => hx4.block b h2) hx4.size))
      clear KT hr3 b0 b1 b2 b3 hx4 hC3
      go_wp2_with fail
      refine bodyPost_ret (v := t.val A2 c2) (by simp [results, Tryz.results19, go_sem, *]) rfl ?_
      rw [HA.out]
      exact pg_fin_ok hC4 hw1 HH.out.1 hgl hlo HH.out.2 rfl rfl
    | false =>
      have HA : Hid (termP T k i = .error (lim T i)) := Lib.hid (by unfold termP; rw [hF]; simp only; rw [if_neg (by rw [hm]; simp)])
      rw [hm] at KT
      obtain ⟨b0, b1, b2, b3, _, _, _, _⟩ := hb3
      clear hP hP3 hIn hIn3 hF HPO hx3 he e1 e2 e3 e4 hm
      go_wp2_with fail
      refine KT.out.mono ?_
      rintro e w4 ⟨rfl, hx4⟩
      have hr4 := hr3.ext hx4
      have d0 := hx4.cell b0
      have d1 := hx4.cell b1
      have d2 := hx4.cell b2
      have d3 := hx4.cell b3
      have hC4 := hC3.trans (Chg.of_ext hx4)
      have KF := Lib.hid (fails_yes 2 (tk T i).at_ (HP.out.ext hx4))
      clear KT hr3 b0 b1 b2 b3 hx4 hC3
      go_wp2_with fail
      refine KF.out.mono ?_
      rintro e w5 ⟨rfl, hE, hC5⟩
      have hgne : ¬ w2.heap.size = g := by omega
      obtain ⟨y0, y1, y2, y3, f0, f1, f2, f3⟩ := hr4.chg hC5 (by omega)
      have e0 := hC5.cell d0 hgne
      have e1 := hC5.cell d1 hgne
      have e2 := hC5.cell d2 hgne
      have e3 := hC5.cell d3 hgne
      have hC6 := hC4.trans hC5
      have HE := Lib.hid hE
      clear KF hE hC5 hr4 d0 d1 d2 d3
      go_wp2_with fail
      refine bodyPost_ret (v := t.val A2 c2) (by simp [results, Tryz.results19, go_sem, *]) rfl ?_
      rw [HA.out]
      exact pg_fin_err (x := 2) (by decide) hC6 HE.out hgl hlo rfl ⟨_, _, _, _, _, _, rfl⟩
end Go.Proofs.YtbjghkmjnhmlfaaGreatDoor
