/- Joined: Fkf, Fkg, Fkh, Fki, Fkx. -/
import Derived.Test.YtkdhpifjljkpfaaGreatFA
import Derived.Test.YtkdhpifjljkpfaaGreatWi
import Derived.Test.YtkdhpifjljkpfaaGreatRva
import Derived.Test.YtkdhpifjljkpfaaGreatRd
import Derived.Test.YtkdhpifjljkpfaaGreatTa
import Derived.Test.YtkdhpifjljkpfaaGreatHeavy
import Derived.BigQuiet
import Derived.Test.YtkdhpifjljkpfaaGreatExt

/- Facts as plain data, and in memory; a map of Seqs by facts. -/
namespace Go.Proofs.YtkdhpifjljkpfaaGreat
open Go.RowKit Go.Maps

/-- a fact: its term, and from when to when -/
structure Fc where
  tm : Tm
  fr : Int
  til : Int
/-- a fact kept: its Seq beside it -/
structure Kp where
  seq : Int
  fc : Fc
/-- may a span be? -/
def spB (f t : Int) : Bool := decide (-1073741824 ≤ f) && decide (f ≤ t) && decide (t ≤ 1073741824)
/-- may a fact be? -/
def fmB (x : Fc) : Bool := mayB x.tm && groundT x.tm && (x.tm.kind == 3) && spB x.fr x.til
structure May (x : Fc) : Prop where
  may : mayB x.tm = true
  ground : groundT x.tm = true
  kind : x.tm.kind = 3
  span : spB x.fr x.til = true
theorem fm_may {x : Fc} (h : fmB x = true) : May x := by
  unfold fmB at h
  simp only [Bool.and_eq_true, beq_iff_eq] at h
  exact ⟨h.1.1.1, h.1.1.2, h.1.2, h.2⟩
theorem wf_i64 {n : Int} (h0 : -4611686018427387904 ≤ n) (h1 : n ≤ 4611686018427387904) : (Lit.int .i64 n).wf = true := by
  have e1 : IntKind.i64.min = -9223372036854775808 := by decide
  have e2 : IntKind.i64.max = 9223372036854775807 := by decide
  simp only [Lit.wf, e1, e2, Bool.and_eq_true, decide_eq_true_eq]
  omega
theorem sp_bd {f t : Int} (h : spB f t = true) : -1073741824 ≤ f ∧ f ≤ t ∧ t ≤ 1073741824 := by
  unfold spB at h
  simp only [Bool.and_eq_true, decide_eq_true_eq] at h
  exact ⟨h.1.1, h.1.2, h.2⟩
theorem part_wf {t : Tm} (h : plainB t = true) (hs : t.name.size ≤ 16) (hl : t.args.length * 56 ≤ 140737488351232) : wf3 (partT t) := by
  unfold partT
  split
  · rename_i h2
    have k2 : t.kind = 2 := by simpa using h2
    unfold plainB at h
    simp [k2] at h
    unfold wf3
    simp only
    exact ⟨by omega, by omega, wf_i64 (by omega) (by omega)⟩
  · unfold wf3
    simp only
    exact ⟨wd0_lt _ _, wd1_lt _ _ hs, wf_i64 (by omega) (by omega)⟩
theorem plain_args {t : Tm} (h : plainB t = true) : (t.args.length : Int) ≤ 4 := by
  unfold plainB at h
  by_cases k1 : t.kind = 1
  · simp [k1] at h; rw [h.2]; decide
  · by_cases k2 : t.kind = 2
    · simp [k2] at h; rw [h.2]; decide
    · by_cases k3 : t.kind = 3
      · simp [k3] at h; omega
      · simp [k1, k2, k3] at h
theorem parts_of (hh : Nat) : ∀ t : Tm, t.high ≤ hh → allP t → ((partsT t).length : Int) = sizeT t ∧ ∀ p ∈ partsT t, wf3 p := by
  have step : ∀ hh : Nat, (∀ t : Tm, t.high ≤ hh → allP t → ((partsT t).length : Int) = sizeT t ∧ ∀ p ∈ partsT t, wf3 p) →
      ∀ (ts : List Tm) (n : Int), highs ts ≤ hh → allPs ts → n + ((partsL ts).length : Int) = sizeL ts n ∧ ∀ p ∈ partsL ts, wf3 p := by
    intro hh ih ts
    induction ts with
    | nil => intro n _ _; exact ⟨by simp [partsL, sizeL], fun p hp => by cases hp⟩
    | cons a ts ihl =>
      intro n hhi pa
      simp only [highs] at hhi
      simp only [allPs] at pa
      obtain ⟨e1, w1⟩ := ih a (by omega) pa.1
      obtain ⟨e2, w2⟩ := ihl (n + sizeT a) (by omega) pa.2
      refine ⟨?_, fun p hp => ?_⟩
      · rw [partsL, List.length_append, sizeL, ← e2, ← e1]; omega
      · rw [partsL] at hp
        rcases List.mem_append.1 hp with h | h
        · exact w1 p h
        · exact w2 p h
  induction hh with
  | zero => intro t h0; have := high_pos t; omega
  | succ hh ih =>
    intro t h0 pt
    have hth : highs t.args ≤ hh := by obtain ⟨k, s, n, l⟩ := t; simp only [Tm.high] at h0; simp only; omega
    obtain ⟨e1, w1⟩ := step hh ih t.args 1 hth pt.args
    have ha := plain_args pt.plain
    refine ⟨?_, fun p hp => ?_⟩
    · rw [partsT_eq, List.length_cons]
      have : sizeT t = sizeL t.args 1 := by obtain ⟨k, s, n, l⟩ := t; rw [sizeT]
      rw [this, ← e1]; omega
    · rw [partsT_eq] at hp
      rcases List.mem_cons.1 hp with rfl | h
      · exact part_wf pt.plain (plain_name pt.plain) (by omega)
      · exact w1 p h
theorem May.parts {x : Fc} (h : May x) : (partsT x.tm).length ≤ 24 ∧ ∀ p ∈ partsT x.tm, wf3 p := by
  obtain ⟨e, w⟩ := parts_of x.tm.high x.tm (Nat.le_refl _) (may_all h.may)
  exact ⟨by have := may_size h.may; omega, w⟩
abbrev Fc.keyV (x : Fc) : Value := .agg (keyCs (partsT x.tm) x.fr x.til).toArray
/-- this is a fact's key, as a literal -/
def KeyIs (x : Fc) (kl : Lit) : Prop := keyOf Tryz.prog 83 x.keyV = some kl
theorem key_is {x : Fc} (h : May x) : ∃ kl, KeyIs x kl := by
  obtain ⟨hl, hw⟩ := h.parts
  obtain ⟨h1, h2, h3⟩ := sp_bd h.span
  obtain ⟨s, e⟩ := is_key hl hw (wf_i64 (by omega) (by omega) : (Lit.int .i64 x.fr).wf = true) (wf_i64 (by omega) (by omega) : (Lit.int .i64 x.til).wf = true)
  exact ⟨_, e⟩
theorem KeyIs.lit {x : Fc} {kl : Lit} (h : KeyIs x kl) : WideAt.IsKeyLit kl := by
  obtain ⟨s, e⟩ := lawFk.str h
  rw [e]
  trivial
theorem keyV_inj {x y : Fc} (hx : May x) (hy : May y) (e : x.keyV = y.keyV) : x = y := by
  have e1 : keyCs (partsT x.tm) x.fr x.til = keyCs (partsT y.tm) y.fr y.til := by
    injection e with e
    exact List.toArray_inj e
  rw [keyCs_eq hx.parts.1, keyCs_eq hy.parts.1] at e1
  obtain ⟨e2, e3⟩ := cellsP_inj (by rw [padP_len hx.parts.1, padP_len hy.parts.1]) e1
  obtain ⟨e4, _⟩ := parts_inj x.tm.high x.tm y.tm (Nat.le_refl _) (may_all hx.may) (may_all hy.may) hx.ground hy.ground _ _ e2
  simp only [List.cons.injEq, Value.int.injEq, true_and, and_true] at e3
  obtain ⟨t, f, u⟩ := x
  obtain ⟨t', f', u'⟩ := y
  simp only at e3 e4
  rw [e3.1, e3.2, e4]
theorem KeyIs.inj {x y : Fc} {kl : Lit} (hx : May x) (hy : May y) (h : KeyIs x kl) (k : KeyIs y kl) : x = y := keyV_inj hx hy (lawFk.inj h k)

/-! which of the first k facts kept is this one -/
def eqF (x y : Fc) : Bool := eqT x.tm y.tm && ((x.fr == y.fr) && (x.til == y.til))
theorem eqF_iff (x y : Fc) : eqF x y = true ↔ x = y := by
  unfold eqF
  rw [Bool.and_eq_true, Bool.and_eq_true, eqT_iff, beq_iff_eq, beq_iff_eq]
  obtain ⟨t, f, u⟩ := x
  obtain ⟨t', f', u'⟩ := y
  simp
def fpl (ks : List Kp) : Nat → Fc → Option Nat
  | 0, _ => none
  | k + 1, x => if (ks[k]?.map fun y => eqF y.fc x) = some true then some k else fpl ks k x
theorem fpl_step {ks : List Kp} {k : Nat} (h : k < ks.length) (x : Fc) : fpl ks (k + 1) x = if eqF ks[k].fc x = true then some k else fpl ks k x := by
  rw [fpl, List.getElem?_eq_getElem h]
  simp
theorem fpl_some {ks : List Kp} {x : Fc} : ∀ {k i : Nat}, fpl ks k x = some i → ∃ h : i < ks.length, i < k ∧ ks[i].fc = x
  | 0, _, h => by cases h
  | k + 1, i, h => by
    rw [fpl] at h
    split at h
    · rename_i hc
      cases h
      cases hk : ks[k]? with
      | none => rw [hk] at hc; cases hc
      | some y =>
        obtain ⟨h1, h2⟩ := List.getElem?_eq_some_iff.1 hk
        rw [hk] at hc
        simp only [Option.map_some, Option.some.injEq] at hc
        exact ⟨h1, Nat.lt_succ_self _, by rw [h2]; exact (eqF_iff _ _).1 hc⟩
    · obtain ⟨h1, h2, h3⟩ := fpl_some h
      exact ⟨h1, by omega, h3⟩
theorem fpl_none {ks : List Kp} {x : Fc} : ∀ {k : Nat}, fpl ks k x = none → ∀ i (h : i < ks.length), i < k → ks[i].fc ≠ x
  | 0, _, i, _, hi => by omega
  | k + 1, h, i, hl, hi => by
    rw [fpl] at h
    split at h
    · cases h
    · rename_i hc
      by_cases e : i = k
      · subst e
        intro hx
        rw [List.getElem?_eq_getElem hl] at hc
        exact hc (by simp [(eqF_iff _ _).2 hx])
      · exact fpl_none h i hl (by omega)
/-- how many different facts among the first k -/
def dist (ks : List Kp) : Nat → Nat
  | 0 => 0
  | k + 1 => if (ks[k]?.map fun y => (fpl ks k y.fc).isSome) = some true then dist ks k else dist ks k + 1
theorem dist_step {ks : List Kp} {k : Nat} (h : k < ks.length) : dist ks (k + 1) = if (fpl ks k ks[k].fc).isSome = true then dist ks k else dist ks k + 1 := by
  rw [dist, List.getElem?_eq_getElem h]
  simp
theorem dist_le (ks : List Kp) : ∀ k, dist ks k ≤ k
  | 0 => Nat.le_refl _
  | k + 1 => by
    have := dist_le ks k
    rw [dist]
    by_cases c : (ks[k]?.map fun y => (fpl ks k y.fc).isSome) = some true
    · rw [if_pos c]; omega
    · rw [if_neg c]; omega

/-- what a map that has the Seqs of the first k facts kept tells -/
def FmTells (D : DataW Unit) (ks : List Kp) (k : Nat) : Prop := Maps.size D = dist ks k ∧
  ∀ x : Fc, May x → ∀ kl, KeyIs x kl → has D kl = (fpl ks k x).isSome ∧ ∀ zd, D.atKey kl zd = match fpl ks k x with | some i => .lit (.int .i64 (ks[i]?.map Kp.seq |>.getD 0)) | none => zd
/-- block b is one -/
def FmAt (w : World) (b : Nat) (ks : List Kp) (k : Nat) : Prop := ∃ D : DataW Unit, w.ownsMap Tryz.prog 83 (plainElem Tryz.prog 3) b k D ∧ FmTells D ks k
theorem FmAt.lt {w : World} {b : Nat} {ks : List Kp} {k : Nat} (h : FmAt w b ks k) : b < w.heap.size := by obtain ⟨D, h, _⟩ := h; exact h.lt
theorem FmAt.keep {w w' : World} {b : Nat} {ks : List Kp} {k : Nat} (h : FmAt w b ks k) (e : w'.heap[b]? = w.heap[b]?) : FmAt w' b ks k := by
  obtain ⟨D, ⟨es, clock, hb, F, hs, hD⟩, h2⟩ := h
  exact ⟨D, ⟨es, clock, e.trans hb, F, hs, hD⟩, h2⟩
theorem FmAt.ext {w w' : World} {b : Nat} {ks : List Kp} {k : Nat} (h : FmAt w b ks k) (x : Ext w w') : FmAt w' b ks k := h.keep (x.block b h.lt)
theorem FmAt.made (w : World) (ks : List Kp) : FmAt (w.alloc (.map #[] 0)) w.heap.size ks 0 := ⟨_, World.ownsMap_made w _ _ _, rfl, fun _ _ _ _ => ⟨rfl, fun _ => rfl⟩⟩
theorem FmTells.put {ks : List Kp} {k : Nat} {D : DataW Unit} {kl : Lit} (h : FmTells D ks k) (hk : k < ks.length) (hs : May ks[k].fc) (hkl : KeyIs ks[k].fc kl) (hm : IsMap D) (ht : Tidy D) : FmTells (D.put kl (.lit (.int .i64 ks[k].seq))) ks (k + 1) := by
  refine ⟨?_, fun x hx kx hkx => ?_⟩
  · rw [size_put ht, (h.2 _ hs _ hkl).1, h.1, dist_step hk]
  · rw [fpl_step hk]
    by_cases e : ks[k].fc = x
    · rw [if_pos ((eqF_iff _ _).2 e)]
      subst e
      have ek : kx = kl := Option.some.inj (hkx.symm.trans hkl)
      subst ek
      refine ⟨has_put_same hm hkl.lit _, fun zd => ?_⟩
      rw [atKey_put_same hm hkl.lit]
      simp [List.getElem?_eq_getElem hk]
    · rw [if_neg (fun c => e ((eqF_iff _ _).1 c))]
      have hne : kx ≠ kl := fun c => e (KeyIs.inj hs hx (c ▸ hkl) hkx)
      exact ⟨(has_put_other hne _).trans (h.2 x hx kx hkx).1, fun zd => (atKey_put_other hne _ _).trans ((h.2 x hx kx hkx).2 zd)⟩
end Go.Proofs.YtkdhpifjljkpfaaGreat

/- What a fact that may be is, the order of facts, and whether two are alike: the program's and the page's. -/
namespace Go.Proofs.YtkdhpifjljkpfaaGreat
open Go.RowKit

abbrev spV (f t : Int) : Value := .agg #[.int .i64 f, .int .i64 t]
theorem spanMay_any (f t : Int) (w : World) : Calls Tryz.prog 62 #[spV f t] w fun e w' => e = .returned (.bool (spB f t)) ∧ Ext w w' := by
  have HS : Hid (spB f t = (decide (-1073741824 ≤ f) && decide (f ≤ t) && decide (t ≤ 1073741824))) := Lib.hid rfl
  by_cases h1 : -1073741824 ≤ f
  · by_cases h2 : f ≤ t
    · by_cases h3 : t ≤ 1073741824
      · go_enter Tryz.func62, Tryz.ntmps62
        go_wp2_with fail
        go_ret
        exact ⟨ret_bool (by rw [HS.out]; simp [h1, h2, h3]), (Ext.refl w).alloc _⟩
      · have h3' : decide (t ≤ 1073741824) = false := decide_eq_false h3
        go_enter Tryz.func62, Tryz.ntmps62
        go_wp2_with fail
        go_ret
        exact ⟨ret_bool (by rw [HS.out]; simp [h1, h2, h3]), (Ext.refl w).alloc _⟩
    · have h2' : decide (f ≤ t) = false := decide_eq_false h2
      go_enter Tryz.func62, Tryz.ntmps62
      go_wp2_with fail
      go_ret
      exact ⟨ret_bool (by rw [HS.out, h2', Bool.and_false, Bool.false_and]), (Ext.refl w).alloc _⟩
  · have h1' : decide (-1073741824 ≤ f) = false := decide_eq_false h1
    go_enter Tryz.func62, Tryz.ntmps62
    go_wp2_with fail
    go_ret
    exact ⟨ret_bool (by rw [HS.out, h1', Bool.false_and, Bool.false_and]), (Ext.refl w).alloc _⟩
theorem rSpan_any (f t : Int) (w : World) : Calls Tryz.prog 38 #[spV f t] w fun e w' => e = .returned (.bool (spB f t)) ∧ Ext w w' := by
  have HS : Hid (spB f t = (decide (-1073741824 ≤ f) && decide (f ≤ t) && decide (t ≤ 1073741824))) := Lib.hid rfl
  by_cases h1 : -1073741824 ≤ f
  · by_cases h2 : f ≤ t
    · by_cases h3 : t ≤ 1073741824
      · go_enter Tryz.func38, Tryz.ntmps38
        go_wp2_with fail
        go_ret
        exact ⟨ret_bool (by rw [HS.out]; simp [h1, h2, h3]), (Ext.refl w).alloc _⟩
      · have h3' : decide (t ≤ 1073741824) = false := decide_eq_false h3
        go_enter Tryz.func38, Tryz.ntmps38
        go_wp2_with fail
        go_ret
        exact ⟨ret_bool (by rw [HS.out]; simp [h1, h2, h3]), (Ext.refl w).alloc _⟩
    · have h2' : decide (f ≤ t) = false := decide_eq_false h2
      go_enter Tryz.func38, Tryz.ntmps38
      go_wp2_with fail
      go_ret
      exact ⟨ret_bool (by rw [HS.out, h2', Bool.and_false, Bool.false_and]), (Ext.refl w).alloc _⟩
  · have h1' : decide (-1073741824 ≤ f) = false := decide_eq_false h1
    go_enter Tryz.func38, Tryz.ntmps38
    go_wp2_with fail
    go_ret
    exact ⟨ret_bool (by rw [HS.out, h1', Bool.false_and, Bool.false_and]), (Ext.refl w).alloc _⟩
def badE (b : Bool) : Int := if b then 0 else 1
theorem spCheck_any (f t : Int) (w : World) : Calls Tryz.prog 41 #[spV f t] w fun e w' => e = .returned (.int .i64 (badE (spB f t))) ∧ Ext w w' := by
  have KS := Lib.hid (fun u => spanMay_any f t u)
  cases hs : spB f t
  all_goals
    rw [hs] at KS
    clear hs
    go_enter Tryz.func41, Tryz.ntmps41
    go_wp2_with fail
    refine (KS.out _).mono ?_
    rintro e w1 ⟨rfl, hx⟩
    have hx1 := ((Ext.refl w).alloc _).trans hx
    go_wp2_with fail
    go_ret
    exact ⟨rfl, hx1⟩

abbrev Fc.val (x : Fc) (A : Option Addr) (c : Nat) : Value := factV x.tm A c x.fr x.til
theorem Ground_all (t : Tm) (A : Option Addr) (c : Nat) (w : World) (h : TmAt w t A c) : Calls Tryz.prog 40 #[t.val A c] w fun e w' => e = .returned (.tuple #[.bool (mayB t && groundT t), .int .i64 (badE (mayB t))]) ∧ Ext w w' := by
  cases hm : mayB t with
  | true => exact Ground_yes t A c w h hm
  | false => exact Ground_no t A c w h hm

set_option maxHeartbeats 2000000 in
theorem May_any (x : Fc) (A : Option Addr) (c : Nat) (w : World) (h : TmAt w x.tm A c) : Calls Tryz.prog 16 #[x.val A c] w fun e w' => e = .returned (.int .i64 (badE (fmB x))) ∧ Ext w w' := by
  obtain ⟨t, f, u⟩ := x
  simp only at h
  have HB : Hid (fmB ⟨t, f, u⟩ = (mayB t && groundT t && (t.kind == 3) && spB f u)) := Lib.hid rfl
  generalize fmB ⟨t, f, u⟩ = RES at HB ⊢
  obtain ⟨W1, hW1⟩ : ∃ W1, W1 = w.alloc (.cells #[.int .i64 t.kind, .string t.name, .int .i64 t.n, .slice A t.args.length c, .int .i64 f, .int .i64 u] 44) := ⟨_, rfl⟩
  have hx1 : Ext w W1 := by rw [hW1]; exact (Ext.refl w).alloc _
  have q0 : W1.cell? ⟨w.heap.size, 0, none⟩ = some (.int .i64 t.kind) := by rw [hW1]; go_simp
  have q1 : W1.cell? ⟨w.heap.size, 1, none⟩ = some (.string t.name) := by rw [hW1]; go_simp
  have q2 : W1.cell? ⟨w.heap.size, 2, none⟩ = some (.int .i64 t.n) := by rw [hW1]; go_simp
  have q3 : W1.cell? ⟨w.heap.size, 3, none⟩ = some (.slice A t.args.length c) := by rw [hW1]; go_simp
  have q4 : W1.cell? ⟨w.heap.size, 4, none⟩ = some (.int .i64 f) := by rw [hW1]; go_simp
  have q5 : W1.cell? ⟨w.heap.size, 5, none⟩ = some (.int .i64 u) := by rw [hW1]; go_simp
  have KG := Lib.hid (Ground_all t A c W1 (h.ext hx1))
  have KS := Lib.hid (fun w2 => spCheck_any f u w2)
  have HW := Lib.hid hW1
  clear hW1 h
  go_enter Tryz.func16, Tryz.ntmps16
  go_upto_region 1 with (fail)
  rw [← HW.out]
  clear HW
  go_wp2_with fail
  refine KG.out.mono ?_
  rintro e w2 ⟨rfl, hx2⟩
  replace q0 := hx2.cell q0
  replace q4 := hx2.cell q4
  replace q5 := hx2.cell q5
  have hx12 := hx1.trans hx2
  clear q1 q2 q3 hx2 hx1 KG
  cases hm : mayB t with
  | false =>
    have HR : Hid (RES = false) := Lib.hid (by rw [HB.out, hm]; rfl)
    clear HB
    simp only [Bool.false_and, badE]
    go_wp2_with fail
    go_ret
    exact ⟨by rw [HR.out]; rfl, hx12⟩
  | true =>
    cases hg : groundT t with
    | false =>
      have HR : Hid (RES = false) := Lib.hid (by rw [HB.out, hg, Bool.and_false]; rfl)
      clear HB
      simp only [Bool.and_false, badE]
      go_wp2_with fail
      go_ret
      exact ⟨by rw [HR.out]; rfl, hx12⟩
    | true =>
      by_cases hk : t.kind = 3
      · have hk3 : (t.kind != 3) = false := by simp [hk]
        have HR : Hid (RES = spB f u) := Lib.hid (by rw [HB.out, hm, hg, hk]; rfl)
        clear HB
        simp only [Bool.and_self, badE]
        clear hm hg hk
        generalize t.kind = K at *
        cases hs : spB f u
        all_goals
          rw [hs] at KS HR
          clear hs
          go_wp2_with fail
          refine (KS.out _).mono ?_
          rintro e w3 ⟨rfl, hx3⟩
          have hx13 := hx12.trans hx3
          clear hx3 hx12
          go_wp2_with fail
          go_ret
          exact ⟨by rw [HR.out]; rfl, hx13⟩
      · have hk3 : (t.kind != 3) = true := by simp [hk]
        have HR : Hid (RES = false) := Lib.hid (by rw [HB.out]; simp [hk])
        clear HB
        simp only [Bool.and_self, badE]
        clear hm hg hk
        generalize t.kind = K at *
        go_wp2_with fail
        go_ret
        exact ⟨by rw [HR.out]; rfl, hx12⟩

/-- the order of facts that may be -/
def cmpF (x y : Fc) : Int := if (cmpT x.tm y.tm != 0) = true then cmpT x.tm y.tm else if (sgn x.fr y.fr != 0) = true then sgn x.fr y.fr else sgn x.til y.til
/-- two facts in boxes of the call's own -/
structure Two (w W : World) (x y : Fc) (A B : Option Addr) (c d : Nat) : Prop where
  ext : Ext w W
  a0 : W.cell? ⟨w.heap.size, 0, none⟩ = some (.int .i64 x.tm.kind)
  a1 : W.cell? ⟨w.heap.size, 1, none⟩ = some (.string x.tm.name)
  a2 : W.cell? ⟨w.heap.size, 2, none⟩ = some (.int .i64 x.tm.n)
  a3 : W.cell? ⟨w.heap.size, 3, none⟩ = some (.slice A x.tm.args.length c)
  a4 : W.cell? ⟨w.heap.size, 4, none⟩ = some (.int .i64 x.fr)
  a5 : W.cell? ⟨w.heap.size, 5, none⟩ = some (.int .i64 x.til)
  b0 : W.cell? ⟨w.heap.size + 1, 0, none⟩ = some (.int .i64 y.tm.kind)
  b1 : W.cell? ⟨w.heap.size + 1, 1, none⟩ = some (.string y.tm.name)
  b2 : W.cell? ⟨w.heap.size + 1, 2, none⟩ = some (.int .i64 y.tm.n)
  b3 : W.cell? ⟨w.heap.size + 1, 3, none⟩ = some (.slice B y.tm.args.length d)
  b4 : W.cell? ⟨w.heap.size + 1, 4, none⟩ = some (.int .i64 y.fr)
  b5 : W.cell? ⟨w.heap.size + 1, 5, none⟩ = some (.int .i64 y.til)
abbrev boxF (w : World) (x : Fc) (A : Option Addr) (c : Nat) : World := w.alloc (.cells #[.int .i64 x.tm.kind, .string x.tm.name, .int .i64 x.tm.n, .slice A x.tm.args.length c, .int .i64 x.fr, .int .i64 x.til] 44)
theorem two_made (w : World) (x y : Fc) (A B : Option Addr) (c d : Nat) : Two w (boxF (boxF w x A c) y B d) x y A B c d :=
  ⟨((Ext.refl w).alloc _).alloc _, by go_simp, by go_simp, by go_simp, by go_simp, by go_simp, by go_simp, by go_simp, by go_simp, by go_simp, by go_simp, by go_simp, by go_simp⟩
theorem Two.to {w W W' : World} {x y : Fc} {A B : Option Addr} {c d : Nat} (h : Two w W x y A B c d) (k : Ext W W') : Two w W' x y A B c d :=
  ⟨h.ext.trans k, k.cell h.a0, k.cell h.a1, k.cell h.a2, k.cell h.a3, k.cell h.a4, k.cell h.a5, k.cell h.b0, k.cell h.b1, k.cell h.b2, k.cell h.b3, k.cell h.b4, k.cell h.b5⟩
end Go.Proofs.YtkdhpifjljkpfaaGreat

/- The order of facts, and whether two are alike: the program's and the page's. -/
namespace Go.Proofs.YtkdhpifjljkpfaaGreat
open Go.RowKit

set_option maxHeartbeats 2000000 in
theorem compare_any (x y : Fc) (A B : Option Addr) (c d : Nat) (w : World) (hx : TmAt w x.tm A c) (hy : TmAt w y.tm B d) (mx : mayB x.tm = true) (my : mayB y.tm = true) :
    Calls Tryz.prog 32 #[x.val A c, y.val B d] w fun e w' => e = .returned (.int .i64 (cmpF x y)) ∧ Ext w w' := by
  have HR : Hid (cmpF x y = if (cmpT x.tm y.tm != 0) = true then cmpT x.tm y.tm else if (sgn x.fr y.fr != 0) = true then sgn x.fr y.fr else sgn x.til y.til) := Lib.hid rfl
  generalize cmpF x y = RES at HR ⊢
  obtain ⟨W, hW⟩ : ∃ W, W = boxF (boxF w x A c) y B d := ⟨_, rfl⟩
  have hT : Two w W x y A B c d := by rw [hW]; exact two_made w x y A B c d
  have KO := Lib.hid (Order_yes x.tm y.tm A B c d W (hx.ext hT.ext) (hy.ext hT.ext) mx my)
  simp only [boxF] at hW
  have HW := Lib.hid hW
  have KC := Lib.hid (fun a b u => cmp_int a b u)
  obtain ⟨a0, a1, a2, a3, a4, a5, b0, b1, b2, b3, b4, b5⟩ := And.intro hT.a0 (And.intro hT.a1 (And.intro hT.a2 (And.intro hT.a3 (And.intro hT.a4 (And.intro hT.a5 (And.intro hT.b0 (And.intro hT.b1 (And.intro hT.b2 (And.intro hT.b3 (And.intro hT.b4 hT.b5))))))))))
  have HT := Lib.hid hT
  clear hW hT hx hy mx my
  go_enter Tryz.func32, Tryz.ntmps32
  go_upto_region 1 with (fail)
  rw [← HW.out]
  clear HW
  go_wp2_with fail
  refine KO.out.mono ?_
  rintro e w2 ⟨rfl, hx2⟩
  replace a4 := hx2.cell a4
  replace a5 := hx2.cell a5
  replace b4 := hx2.cell b4
  replace b5 := hx2.cell b5
  have hx12 := HT.out.ext.trans hx2
  generalize cmpT x.tm y.tm = C at *
  clear a0 a1 a2 a3 b0 b1 b2 b3 hx2 KO HT
  cases h1 : (C != 0) with
  | true =>
    have HF : Hid (C = RES) := Lib.hid (by rw [HR.out, h1]; rfl)
    go_wp2_with fail
    go_ret
    exact ⟨ret_int HF.out, hx12⟩
  | false =>
    go_wp2_with fail
    refine (KC.out _ _ _).mono ?_
    rintro e w3 ⟨rfl, hw3⟩
    rw [← hw3]
    clear hw3
    obtain ⟨S, hS⟩ : ∃ S, S = sgn x.fr y.fr := ⟨_, rfl⟩
    rw [← hS] at HR ⊢
    cases h2 : (S != 0) with
    | true =>
      have HF : Hid (S = RES) := Lib.hid (by rw [HR.out, h1, h2]; rfl)
      clear hS
      go_wp2_with fail
      go_ret
      exact ⟨ret_int HF.out, hx12⟩
    | false =>
      have HF : Hid (sgn x.til y.til = RES) := Lib.hid (by rw [HR.out, h1, h2]; rfl)
      clear hS
      go_wp2_with fail
      refine (KC.out _ _ _).mono ?_
      rintro e w4 ⟨rfl, hw4⟩
      rw [← hw4]
      clear hw4
      go_wp2_with fail
      go_ret
      exact ⟨ret_int HF.out, hx12⟩

def ordFE (x y : Fc) : Int := badE (fmB x && fmB y)
def ordFV (x y : Fc) : Int := if (fmB x && fmB y) = true then cmpF x y else 0

/-! the page's -/
theorem rsgn_any (a b : Int) (w : World) : Calls Tryz.prog 81 #[.int .i64 a, .int .i64 b] w fun e w' => e = .returned (.int .i64 (sgn a b)) ∧ w' = w := by
  have HS : Hid (sgn a b = if a < b then -1 else if b < a then 1 else 0) := Lib.hid rfl
  by_cases h1 : a < b
  · go_enter Tryz.func81, Tryz.ntmps81
    go_wp2_with fail
    go_ret
    exact ⟨ret_int (by rw [HS.out]; (repeat' split) <;> omega), rfl⟩
  · have h1' : decide (a < b) = false := decide_eq_false h1
    by_cases h2 : b < a
    · go_enter Tryz.func81, Tryz.ntmps81
      go_wp2_with fail
      go_ret
      exact ⟨ret_int (by rw [HS.out]; (repeat' split) <;> omega), rfl⟩
    · have h2' : decide (b < a) = false := decide_eq_false h2
      go_enter Tryz.func81, Tryz.ntmps81
      go_wp2_with fail
      go_ret
      exact ⟨ret_int (by rw [HS.out]; (repeat' split) <;> omega), rfl⟩

set_option maxHeartbeats 2000000 in
theorem rFact_any (x : Fc) (A : Option Addr) (c : Nat) (w : World) (h : TmAt w x.tm A c) (hh : x.tm.high ≤ 1000000) : Calls Tryz.prog 13 #[x.val A c] w fun e w' => e = .returned (.bool (fmB x)) ∧ Ext w w' := by
  obtain ⟨t, f, u⟩ := x
  simp only at h hh
  have HB : Hid (fmB ⟨t, f, u⟩ = (mayB t && groundT t && (t.kind == 3) && spB f u)) := Lib.hid rfl
  generalize fmB ⟨t, f, u⟩ = RES at HB ⊢
  obtain ⟨W1, hW1⟩ : ∃ W1, W1 = w.alloc (.cells #[.int .i64 t.kind, .string t.name, .int .i64 t.n, .slice A t.args.length c, .int .i64 f, .int .i64 u] 44) := ⟨_, rfl⟩
  have hx1 : Ext w W1 := by rw [hW1]; exact (Ext.refl w).alloc _
  have q0 : W1.cell? ⟨w.heap.size, 0, none⟩ = some (.int .i64 t.kind) := by rw [hW1]; go_simp
  have q1 : W1.cell? ⟨w.heap.size, 1, none⟩ = some (.string t.name) := by rw [hW1]; go_simp
  have q2 : W1.cell? ⟨w.heap.size, 2, none⟩ = some (.int .i64 t.n) := by rw [hW1]; go_simp
  have q3 : W1.cell? ⟨w.heap.size, 3, none⟩ = some (.slice A t.args.length c) := by rw [hW1]; go_simp
  have q4 : W1.cell? ⟨w.heap.size, 4, none⟩ = some (.int .i64 f) := by rw [hW1]; go_simp
  have q5 : W1.cell? ⟨w.heap.size, 5, none⟩ = some (.int .i64 u) := by rw [hW1]; go_simp
  have KT := Lib.hid (rTerm_any t A c W1 (h.ext hx1) hh)
  have KG := Lib.hid (fun w2 (k : Ext W1 w2) (hm : mayB t = true) => rGround_any t A c w2 ((h.ext hx1).ext k) hm)
  have KS := Lib.hid (fun w2 => rSpan_any f u w2)
  have HW := Lib.hid hW1
  clear hW1 h hh
  go_enter Tryz.func13, Tryz.ntmps13
  go_upto_region 1 with (fail)
  rw [← HW.out]
  clear HW
  by_cases hk : t.kind = 3
  · have HK := Lib.hid hk
    have hk3 : (t.kind == 3) = true := by simp [hk]
    clear hk
    go_wp2_with fail
    refine KT.out.mono ?_
    rintro e w2 ⟨rfl, hx2⟩
    replace q0 := hx2.cell q0
    replace q1 := hx2.cell q1
    replace q2 := hx2.cell q2
    replace q3 := hx2.cell q3
    replace q4 := hx2.cell q4
    replace q5 := hx2.cell q5
    have HX2 := Lib.hid hx2
    have HX1 := Lib.hid hx1
    clear hx2 hx1 KT
    cases hm : mayB t with
    | false =>
      have HR : Hid (false = RES) := Lib.hid (by rw [HB.out, hm]; rfl)
      go_wp2_with fail
      go_ret
      exact ⟨ret_bool HR.out, HX1.out.trans HX2.out⟩
    | true =>
      have KG2 := Lib.hid (KG.out w2 HX2.out hm)
      have HM := Lib.hid hm
      clear hm
      go_wp2_with fail
      refine KG2.out.mono ?_
      rintro e w3 ⟨rfl, hx3⟩
      replace q4 := hx3.cell q4
      replace q5 := hx3.cell q5
      have HX3 := Lib.hid (HX1.out.trans (HX2.out.trans hx3))
      clear hx3 q0 q1 q2 q3 KG KG2
      cases hg : groundT t with
      | false =>
        have HR : Hid (false = RES) := Lib.hid (by rw [HB.out, hg, Bool.and_false]; rfl)
        go_wp2_with fail
        go_ret
        exact ⟨ret_bool HR.out, HX3.out⟩
      | true =>
        have HR : Hid (spB f u = RES) := Lib.hid (by rw [HB.out, HM.out, hg, HK.out]; rfl)
        clear hg
        go_wp2_with fail
        refine (KS.out _).mono ?_
        rintro e w4 ⟨rfl, hx4⟩
        have HX4 := Lib.hid (HX3.out.trans hx4)
        clear hx4
        generalize spB f u = SB at *
        go_wp2_with fail
        go_ret
        exact ⟨ret_bool HR.out, HX4.out⟩
  · have hk3 : (t.kind == 3) = false := by simp [hk]
    have HR : Hid (false = RES) := Lib.hid (by rw [HB.out]; simp [hk])
    clear hk
    go_wp2_with fail
    go_ret
    exact ⟨ret_bool HR.out, hx1⟩

set_option maxHeartbeats 2000000 in
theorem rFOrder_any (x y : Fc) (A B : Option Addr) (c d : Nat) (w : World) (hx : TmAt w x.tm A c) (hy : TmAt w y.tm B d) (mx : mayB x.tm = true) (my : mayB y.tm = true) :
    Calls Tryz.prog 55 #[x.val A c, y.val B d] w fun e w' => e = .returned (.int .i64 (cmpF x y)) ∧ Ext w w' := by
  have HR : Hid (cmpF x y = if (cmpT x.tm y.tm != 0) = true then cmpT x.tm y.tm else if (sgn x.fr y.fr != 0) = true then sgn x.fr y.fr else sgn x.til y.til) := Lib.hid rfl
  generalize cmpF x y = RES at HR ⊢
  obtain ⟨W, hW⟩ : ∃ W, W = boxF (boxF w x A c) y B d := ⟨_, rfl⟩
  have hT : Two w W x y A B c d := by rw [hW]; exact two_made w x y A B c d
  have KO := Lib.hid (rOrder_any x.tm.high x.tm y.tm A B c d W (Nat.le_refl _) (hx.ext hT.ext) (hy.ext hT.ext))
  rw [ordR_cmp mx my] at KO
  simp only [boxF] at hW
  have HW := Lib.hid hW
  have KC := Lib.hid (fun a b u => rsgn_any a b u)
  obtain ⟨a0, a1, a2, a3, a4, a5, b0, b1, b2, b3, b4, b5⟩ := And.intro hT.a0 (And.intro hT.a1 (And.intro hT.a2 (And.intro hT.a3 (And.intro hT.a4 (And.intro hT.a5 (And.intro hT.b0 (And.intro hT.b1 (And.intro hT.b2 (And.intro hT.b3 (And.intro hT.b4 hT.b5))))))))))
  have HT := Lib.hid hT
  clear hW hT hx hy mx my
  go_enter Tryz.func55, Tryz.ntmps55
  go_upto_region 1 with (fail)
  rw [← HW.out]
  clear HW
  go_wp2_with fail
  refine KO.out.mono ?_
  rintro e w2 ⟨rfl, hx2⟩
  replace a4 := hx2.cell a4
  replace a5 := hx2.cell a5
  replace b4 := hx2.cell b4
  replace b5 := hx2.cell b5
  have hx12 := HT.out.ext.trans hx2
  generalize cmpT x.tm y.tm = C at *
  clear a0 a1 a2 a3 b0 b1 b2 b3 hx2 KO HT
  cases h1 : (C == 0) with
  | false =>
    have HF : Hid (C = RES) := Lib.hid (by rw [HR.out, bne, h1]; rfl)
    go_wp2_with fail
    go_ret
    exact ⟨ret_int HF.out, hx12⟩
  | true =>
    go_wp2_with fail
    refine (KC.out _ _ _).mono ?_
    rintro e w3 ⟨rfl, hw3⟩
    rw [hw3]
    clear hw3
    obtain ⟨S, hS⟩ : ∃ S, S = sgn x.fr y.fr := ⟨_, rfl⟩
    rw [← hS] at HR ⊢
    cases h2 : (S == 0) with
    | false =>
      have HF : Hid (S = RES) := Lib.hid (by rw [HR.out, bne, h1, bne, h2]; rfl)
      clear hS
      go_wp2_with fail
      go_ret
      exact ⟨ret_int HF.out, hx12⟩
    | true =>
      have HF : Hid (sgn x.til y.til = RES) := Lib.hid (by rw [HR.out, bne, h1, bne, h2]; rfl)
      clear hS
      go_wp2_with fail
      refine (KC.out _ _ _).mono ?_
      rintro e w4 ⟨rfl, hw4⟩
      rw [hw4]
      clear hw4
      go_wp2_with fail
      go_ret
      exact ⟨ret_int HF.out, hx12⟩

set_option maxHeartbeats 2000000 in
theorem eqFact_any (x y : Fc) (A B : Option Addr) (c d : Nat) (w : World) (hx : TmAt w x.tm A c) (hy : TmAt w y.tm B d) :
    Calls Tryz.prog 29 #[x.val A c, y.val B d] w fun e w' => e = .returned (.bool (eqF x y)) ∧ Ext w w' := by
  have HR : Hid (eqF x y = (eqT x.tm y.tm && ((x.fr == y.fr) && (x.til == y.til)))) := Lib.hid rfl
  generalize eqF x y = RES at HR ⊢
  obtain ⟨W, hW⟩ : ∃ W, W = boxF (boxF w x A c) y B d := ⟨_, rfl⟩
  have hT : Two w W x y A B c d := by rw [hW]; exact two_made w x y A B c d
  have KO := Lib.hid (eqTerm_all x.tm.high x.tm y.tm A B c d W (Nat.le_refl _) (hx.ext hT.ext) (hy.ext hT.ext))
  simp only [boxF] at hW
  have HW := Lib.hid hW
  obtain ⟨a0, a1, a2, a3, a4, a5, b0, b1, b2, b3, b4, b5⟩ := And.intro hT.a0 (And.intro hT.a1 (And.intro hT.a2 (And.intro hT.a3 (And.intro hT.a4 (And.intro hT.a5 (And.intro hT.b0 (And.intro hT.b1 (And.intro hT.b2 (And.intro hT.b3 (And.intro hT.b4 hT.b5))))))))))
  have HT := Lib.hid hT
  clear hW hT hx hy
  go_enter Tryz.func29, Tryz.ntmps29
  go_upto_region 1 with (fail)
  rw [← HW.out]
  clear HW
  go_wp2_with fail
  refine KO.out.mono ?_
  rintro e w2 ⟨rfl, hx2⟩
  replace a4 := hx2.cell a4
  replace a5 := hx2.cell a5
  replace b4 := hx2.cell b4
  replace b5 := hx2.cell b5
  have hx12 := HT.out.ext.trans hx2
  clear a0 a1 a2 a3 b0 b1 b2 b3 hx2 KO HT
  cases h1 : eqT x.tm y.tm with
  | false =>
    have HF : Hid (false = RES) := Lib.hid (by rw [HR.out, h1]; rfl)
    go_wp2_with fail
    go_ret
    exact ⟨ret_bool HF.out, hx12⟩
  | true =>
    have HF : Hid (((x.fr == y.fr) && (x.til == y.til)) = RES) := Lib.hid (by rw [HR.out, h1, Bool.true_and])
    clear h1 HR
    go_wp2_with fail
    all_goals
      go_ret
      refine ⟨ret_bool ?_, hx12⟩
      rw [← HF.out]
      simp_all
end Go.Proofs.YtkdhpifjljkpfaaGreat

/- Facts, and facts kept, in memory; how much they weigh. -/
namespace Go.Proofs.YtkdhpifjljkpfaaGreat
open Go.RowKit

/-- from A on lie the six cells of each fact, and its term -/
def FcsAt (w : World) (fs : List Fc) (A : Option Addr) : Prop :=
  ∀ i (h : i < fs.length), ∃ b o B e, A = some ⟨b, o, none⟩ ∧ w.cell? ⟨b, o + i * 6, none⟩ = some (.int .i64 fs[i].tm.kind) ∧ w.cell? ⟨b, o + i * 6 + 1, none⟩ = some (.string fs[i].tm.name) ∧
    w.cell? ⟨b, o + i * 6 + 2, none⟩ = some (.int .i64 fs[i].tm.n) ∧ w.cell? ⟨b, o + i * 6 + 3, none⟩ = some (.slice B fs[i].tm.args.length e) ∧
    w.cell? ⟨b, o + i * 6 + 4, none⟩ = some (.int .i64 fs[i].fr) ∧ w.cell? ⟨b, o + i * 6 + 5, none⟩ = some (.int .i64 fs[i].til) ∧ TmAt w fs[i].tm B e
theorem FcsAt.ext {w w' : World} {fs : List Fc} {A : Option Addr} (h : FcsAt w fs A) (k : Ext w w') : FcsAt w' fs A := by
  intro i hi
  obtain ⟨b, o, B, e, eA, h0, h1, h2, h3, h4, h5, hT⟩ := h i hi
  exact ⟨b, o, B, e, eA, k.cell h0, k.cell h1, k.cell h2, k.cell h3, k.cell h4, k.cell h5, hT.ext k⟩
theorem FcsAt.nil (w : World) (A : Option Addr) : FcsAt w [] A := fun i hi => absurd hi (by simp)
/-- from A on lie the seven cells of each fact kept, and its term -/
def KpsAt (w : World) (ks : List Kp) (A : Option Addr) : Prop :=
  ∀ i (h : i < ks.length), ∃ b o B e, A = some ⟨b, o, none⟩ ∧ w.cell? ⟨b, o + i * 7, none⟩ = some (.int .i64 ks[i].seq) ∧ w.cell? ⟨b, o + i * 7 + 1, none⟩ = some (.int .i64 ks[i].fc.tm.kind) ∧
    w.cell? ⟨b, o + i * 7 + 2, none⟩ = some (.string ks[i].fc.tm.name) ∧ w.cell? ⟨b, o + i * 7 + 3, none⟩ = some (.int .i64 ks[i].fc.tm.n) ∧ w.cell? ⟨b, o + i * 7 + 4, none⟩ = some (.slice B ks[i].fc.tm.args.length e) ∧
    w.cell? ⟨b, o + i * 7 + 5, none⟩ = some (.int .i64 ks[i].fc.fr) ∧ w.cell? ⟨b, o + i * 7 + 6, none⟩ = some (.int .i64 ks[i].fc.til) ∧ TmAt w ks[i].fc.tm B e ∧ (Lit.int .i64 ks[i].seq).wf = true
theorem KpsAt.ext {w w' : World} {ks : List Kp} {A : Option Addr} (h : KpsAt w ks A) (k : Ext w w') : KpsAt w' ks A := by
  intro i hi
  obtain ⟨b, o, B, e, eA, h0, h1, h2, h3, h4, h5, h6, hT, hw⟩ := h i hi
  exact ⟨b, o, B, e, eA, k.cell h0, k.cell h1, k.cell h2, k.cell h3, k.cell h4, k.cell h5, k.cell h6, hT.ext k, hw⟩
theorem KpsAt.nil (w : World) (A : Option Addr) : KpsAt w [] A := fun i hi => absurd hi (by simp)

/-! how much they are -/
def ktms (ks : List Kp) : List Tm := ks.map fun k => k.fc.tm
def ftms (fs : List Fc) : List Tm := fs.map fun f => f.tm
theorem ktms_drop {ks : List Kp} {k : Nat} (h : k < ks.length) : (ktms ks).drop k = ks[k].fc.tm :: (ktms ks).drop (k + 1) := by
  unfold ktms
  rw [List.drop_eq_getElem_cons (by simpa using h)]
  simp
theorem ftms_drop {fs : List Fc} {k : Nat} (h : k < fs.length) : (ftms fs).drop k = fs[k].tm :: (ftms fs).drop (k + 1) := by
  unfold ftms
  rw [List.drop_eq_getElem_cons (by simpa using h)]
  simp
theorem kpw_any (ks : List Kp) (A : Option Addr) (c : Nat) (w : World) (hl : ks.length * 80 ≤ 140737488351232) (h : KpsAt w ks A) :
    Calls Tryz.prog 26 #[.slice A ks.length c] w fun e w' => e = .returned (.int .i64 (weightL (ktms ks) 30 ks.length)) ∧ Ext w w' := by
  have H0 : Hid (weightL ((ktms ks).drop 0) 30 ks.length = weightL (ktms ks) 30 ks.length) := Lib.hid (by rw [List.drop_zero])
  go_enter Tryz.func26, Tryz.ntmps26
  go_wp2_with fail
  go_loopw [3, 4] (fun m i wr => ∃ (k : Nat) (n : Int), k ≤ ks.length ∧ 0 ≤ n ∧ n ≤ 9007199254740992 ∧ i = .int .i64 k ∧ m = .int .i64 n ∧ Hid (weightL ((ktms ks).drop k) 30 n = weightL (ktms ks) 30 ks.length) ∧
    Ext w wr) (fun _ i _ => ks.length - (intOf i).toNat)
  case atStart => exact ⟨0, _, Nat.zero_le _, by omega, by omega, rfl, rfl, H0, Ext.refl _⟩
  case round =>
    obtain ⟨k, n, hk, hn0, hn1, rfl, rfl, H, hx⟩ := hrel
    by_cases hlt : k < ks.length
    · obtain ⟨b, o, B, e, rfl, c0, c1, c2, c3, c4, c5, c6, hsub, _⟩ := (h.ext hx) k hlt
      have hb := weight_le 30 _ _ _ _ hsub
      have H2 : Hid ((if n < 1048576 then weightL ((ktms ks).drop (k + 1)) 30 (n + weightT ks[k].fc.tm 30) else n) = weightL (ktms ks) 30 ks.length) := by
        have := H.out
        rw [ktms_drop hlt, weightL] at this
        exact Lib.hid this
      clear H H0
      by_cases hn : n < 1048576
      · go_wp2_with fail
        refine (weight_any 30 _ _ _ _ _ (Lib.hid rfl) (by omega) hsub).mono ?_
        rintro e w1 ⟨rfl, hx1⟩
        go_wp2_with fail
        go_roundw
        case rel => exact ⟨k + 1, n + weightT ks[k].fc.tm 30, by omega, by omega, by omega, by go_num, rfl, Lib.hid (by have := H2.out; rwa [if_pos (by omega)] at this), hx.trans hx1⟩
        case measure => simp [intOf]; omega
      · have hn' : decide (n < 1048576) = false := decide_eq_false hn
        go_wp2_with fail
        go_ret
        exact ⟨ret_int (by have := H2.out; rwa [if_neg (by omega)] at this), hx⟩
    · go_wp2_with fail
      go_ret
      exact ⟨ret_int (by have := H.out; rwa [List.drop_eq_nil_of_le (by simp [ktms]; omega), weightL] at this), hx⟩
theorem kpw_bd {ks : List Kp} {w : World} {A : Option Addr} (hl : ks.length * 80 ≤ 140737488351232) (h : KpsAt w ks A) : (ks.length : Int) ≤ weightL (ktms ks) 30 ks.length ∧ weightL (ktms ks) 30 ks.length ≤ 9007199254740992 := by
  have := weightL_le 30 8725724278030336 (by decide) (ktms ks) ks.length (fun t ht => by
    obtain ⟨x, hx, rfl⟩ := List.mem_map.1 ht
    obtain ⟨i, hi, rfl⟩ := List.getElem_of_mem hx
    obtain ⟨b, o, B, e, _, _, _, _, _, _, _, _, hT, _⟩ := h i hi
    have := weight_le 30 w _ B e hT
    omega)
  omega
/-- what is too much -/
def heavyF (ks : List Kp) (fs : List Fc) (m : Nat) : Bool := decide (2500 < weightL (ftms fs) 30 (weightL (ktms ks) 30 ks.length + fs.length + m))
abbrev askV (A : Option Addr) (n c : Nat) (B : Option Addr) (m d : Nat) (C : Option Addr) (l e : Nat) : Array Value := #[.slice A n c, .slice B m d, .slice C l e]

set_option maxHeartbeats 2000000 in
theorem heavyF_any (ks : List Kp) (fs : List Fc) (m : Nat) (A B C : Option Addr) (c d e' : Nat) (w : World) (hk : ks.length * 80 ≤ 140737488351232) (hf : fs.length * 72 ≤ 140737488351232) (hm : m * 8 ≤ 140737488351232) (hK : KpsAt w ks A) (hF : FcsAt w fs B) :
    Calls Tryz.prog 4 #[.agg (askV A ks.length c B fs.length d C m e')] w fun e w' => e = .returned (.bool (heavyF ks fs m)) ∧ Ext w w' := by
  have HH : Hid (heavyF ks fs m = decide (2500 < weightL (ftms fs) 30 (weightL (ktms ks) 30 ks.length + fs.length + m))) := Lib.hid rfl
  generalize heavyF ks fs m = RES at HH ⊢
  obtain ⟨W1, hW1⟩ : ∃ W1, W1 = w.alloc (.cells (askV A ks.length c B fs.length d C m e') 26) := ⟨_, rfl⟩
  have hx1 : Ext w W1 := by rw [hW1]; exact (Ext.refl w).alloc _
  have q0 : W1.cell? ⟨w.heap.size, 0, none⟩ = some (.slice A ks.length c) := by rw [hW1]; go_simp
  have q1 : W1.cell? ⟨w.heap.size, 1, none⟩ = some (.slice B fs.length d) := by rw [hW1]; go_simp
  have q2 : W1.cell? ⟨w.heap.size, 2, none⟩ = some (.slice C m e') := by rw [hW1]; go_simp
  have KW := Lib.hid (fun u (k : Ext W1 u) => kpw_any ks A c u hk ((hK.ext hx1).ext k))
  obtain ⟨hb0, hb1⟩ := kpw_bd hk hK
  have HW := Lib.hid hW1
  have HF := Lib.hid (hF.ext hx1)
  clear hW1 hK hF
  generalize weightL (ktms ks) 30 ks.length = KW0 at *
  obtain ⟨N0, hN0⟩ : ∃ N0 : Int, N0 = KW0 + fs.length + m := ⟨_, rfl⟩
  have hN1 : 0 ≤ N0 ∧ N0 ≤ 9100000000000000 := by omega
  rw [← hN0] at HH
  have HN0 := Lib.hid hN0
  go_enter Tryz.func4, Tryz.ntmps4
  go_upto_region 1 with (fail)
  rw [← HW.out]
  obtain ⟨g, hg⟩ : ∃ g, g = w.heap.size := ⟨_, rfl⟩
  rw [← hg] at q0 q1 q2
  rw [← hg]
  clear HW hg hN0
  go_cut [3] (fun v wx => v = .int .i64 N0 ∧ Ext W1 wx)
  case first =>
    have d0 : ∀ p : ExtOf W1, p.to.cell? _ = _ := ext_cell q0
    have d1 : ∀ p : ExtOf W1, p.to.cell? _ = _ := ext_cell q1
    have d2 : ∀ p : ExtOf W1, p.to.cell? _ = _ := ext_cell q2
    refine wp_region_ext (by kernel_rfl) (by kernel_rfl) ?_
    repeat (go_big_quiet_step ((go_at_call 26; with_reducible exact of_ext (KW.out _ (ExtOf.is _)))))
    refine wpQuiet_nil ?_
    refine ext_all ?_
    intro w3 hx3
    clear d0 d1 d2
    go_wp2_with fail
    go_meet
    exact ⟨by rw [HN0.out], hx3⟩
  case rest =>
    obtain ⟨rfl, hx2⟩ := hcut
    obtain ⟨w2, hw2⟩ : ∃ w2 : World, w2 = wc := ⟨_, rfl⟩
    rw [← hw2] at hx2
    rw [← hw2]
    replace q1 := hx2.cell q1
    have hF2 := HF.out.ext hx2
    have HX2 := Lib.hid (hx1.trans hx2)
    have H0 : Hid (decide (2500 < weightL ((ftms fs).drop 0) 30 N0) = RES) := Lib.hid (by rw [List.drop_zero, HH.out])
    clear hw2 hx2 hx1 q0 q2 HF KW HH HN0 hb0 hb1 hk hm
    go_wp2_with fail
    go_loopw [3, 4] (fun m i wr => ∃ (k : Nat) (n : Int), k ≤ fs.length ∧ 0 ≤ n ∧ n ≤ 9100000000000000 ∧ i = .int .i64 k ∧ m = .int .i64 n ∧ Hid (decide (2500 < weightL ((ftms fs).drop k) 30 n) = RES) ∧
      Ext w2 wr) (fun _ i _ => fs.length - (intOf i).toNat)
    case atStart => exact ⟨0, _, Nat.zero_le _, hN1.1, hN1.2, rfl, rfl, H0, Ext.refl _⟩
    case round =>
      obtain ⟨k, n, hk, hn0, hn1, rfl, rfl, H, hx⟩ := hrel
      have p1 := hx.cell q1
      by_cases hlt : k < fs.length
      · obtain ⟨b, o, B', e, rfl, c0, c1, c2, c3, c4, c5, hsub⟩ := (hF2.ext hx) k hlt
        have hb := weight_le 30 _ _ _ _ hsub
        have H2 : Hid (decide (2500 < (if n < 1048576 then weightL ((ftms fs).drop (k + 1)) 30 (n + weightT fs[k].tm 30) else n)) = RES) := by
          have := H.out
          rw [ftms_drop hlt, weightL] at this
          exact Lib.hid this
        have hki : (k : Int) < (fs.length : Int) := by omega
        have hk0 : (0 : Int) ≤ (k : Int) := by omega
        clear H H0
        by_cases hn : n < 1048576
        · go_wp2_with fail
          refine (weight_any 30 _ _ _ _ _ (Lib.hid rfl) (by omega) hsub).mono ?_
          rintro e w3 ⟨rfl, hx3⟩
          go_wp2_with fail
          go_roundw
          case rel => exact ⟨k + 1, n + weightT fs[k].tm 30, by omega, by omega, by omega, by go_num, rfl, Lib.hid (by have := H2.out; rwa [if_pos (by omega)] at this), hx.trans hx3⟩
          case measure => simp [intOf]; omega
        · have hn' : decide (n < 1048576) = false := decide_eq_false hn
          have HR : Hid (decide (2500 < n) = RES) := Lib.hid (by have := H2.out; rwa [if_neg (by omega)] at this)
          go_wp2_with fail
          go_ret
          exact ⟨ret_bool HR.out, HX2.out.trans hx⟩
      · have hki : ¬ ((k : Int) < (fs.length : Int)) := by omega
        have HR : Hid (decide (2500 < n) = RES) := Lib.hid (by have := H.out; rwa [List.drop_eq_nil_of_le (by simp [ftms]; omega), weightL] at this)
        go_wp2_with fail
        go_ret
        exact ⟨ret_bool HR.out, HX2.out.trans hx⟩
/-- what is not too much is small -/
theorem light_facts {ks : List Kp} {fs : List Fc} {m : Nat} (h : heavyF ks fs m = false) : ks.length ≤ 2500 ∧ fs.length ≤ 2500 ∧ m ≤ 2500 ∧ (∀ x ∈ fs, x.tm.high ≤ 30) ∧ ∀ x ∈ ks, x.fc.tm.high ≤ 30 := by
  unfold heavyF at h
  have h0 := of_decide_eq_false h
  have hw := weightT_pos 30
  have g1 := weightL_ge 30 hw (ktms ks) ks.length
  have g2 := weightL_ge 30 hw (ftms fs) (weightL (ktms ks) 30 ks.length + fs.length + m)
  refine ⟨by omega, by omega, by omega, fun x hx => ?_, fun x hx => ?_⟩
  · exact weight_high 30 x.tm (weightL_each 30 (ftms fs) (weightL (ktms ks) 30 ks.length + fs.length + m) (by omega) (by omega) _ (List.mem_map.2 ⟨x, hx, rfl⟩))
  · exact weight_high 30 x.fc.tm (weightL_each 30 (ktms ks) ks.length (by omega) (by omega) _ (List.mem_map.2 ⟨x, hx, rfl⟩))
end Go.Proofs.YtkdhpifjljkpfaaGreat

/- When two facts compare as alike; what comes in. -/
namespace Go.Proofs.YtkdhpifjljkpfaaGreat
open Go.RowKit

theorem cmpF_zero {x y : Fc} (hx : May x) (hy : May y) : (cmpF x y == 0) = eqF x y := by
  rw [Bool.eq_iff_iff, beq_iff_eq, eqF_iff]
  unfold cmpF
  have h1 := cmpT_zero hx.may hy.may
  constructor
  · intro h
    by_cases c : cmpT x.tm y.tm = 0
    · rw [if_neg (by simp [c])] at h
      by_cases d : sgn x.fr y.fr = 0
      · rw [if_neg (by simp [d])] at h
        obtain ⟨t, f, u⟩ := x
        obtain ⟨t', f', u'⟩ := y
        have e1 := h1.1 c
        have e2 := sgn_zero.1 d
        have e3 := sgn_zero.1 h
        simp only at e1 e2 e3
        rw [e1, e2, e3]
      · rw [if_pos (by simpa using d)] at h
        exact absurd h d
    · rw [if_pos (by simpa using c)] at h
      exact absurd h c
  · rintro rfl
    rw [if_neg (by simp [h1.2 rfl]), if_neg (by simp [sgn_zero.2 rfl])]
    exact sgn_zero.2 rfl

/-- what came in -/
structure In9 (ks : List Kp) (A : Option Addr) (c : Nat) (fs : List Fc) (B : Option Addr) (d : Nat) (ns : Nat) (w : World) : Prop where
  kps : KpsAt w ks A
  klen : ks.length * 80 ≤ 140737488351232
  kcap : ks.length ≤ c
  fcs : FcsAt w fs B
  flen : fs.length * 72 ≤ 140737488351232
  nlen : ns * 8 ≤ 140737488351232

end Go.Proofs.YtkdhpifjljkpfaaGreat
