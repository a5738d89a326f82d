/- Facts as plain data, and in memory; a map of Seqs by facts. -/
import Derived.Test.YtcfhokejfibgoaaFA
import Derived.Test.YtcfhokejfibgoaaWi
namespace Go.Proofs.Ytcfhokejfibgoaa
open Go.RowKit Go.Maps

/-- a fact: its term, and from when to when -/
structure Fc where
  tm : Tm
  fr : Int
  til : Int
/-- a fact kept: its Seq beside it -/
structure Kp where
  seq : Int
  fc : Fc
/-- may a span be? -/
def spB (f t : Int) : Bool := decide (-1073741824 ≤ f) && decide (f ≤ t) && decide (t ≤ 1073741824)
/-- may a fact be? -/
def fmB (x : Fc) : Bool := mayB x.tm && groundT x.tm && (x.tm.kind == 3) && spB x.fr x.til
structure May (x : Fc) : Prop where
  may : mayB x.tm = true
  ground : groundT x.tm = true
  kind : x.tm.kind = 3
  span : spB x.fr x.til = true
theorem fm_may {x : Fc} (h : fmB x = true) : May x := by
  unfold fmB at h
  simp only [Bool.and_eq_true, beq_iff_eq] at h
  exact ⟨h.1.1.1, h.1.1.2, h.1.2, h.2⟩
theorem wf_i64 {n : Int} (h0 : -4611686018427387904 ≤ n) (h1 : n ≤ 4611686018427387904) : (Lit.int .i64 n).wf = true := by
  have e1 : IntKind.i64.min = -9223372036854775808 := by decide
  have e2 : IntKind.i64.max = 9223372036854775807 := by decide
  simp only [Lit.wf, e1, e2, Bool.and_eq_true, decide_eq_true_eq]
  omega
theorem sp_bd {f t : Int} (h : spB f t = true) : -1073741824 ≤ f ∧ f ≤ t ∧ t ≤ 1073741824 := by
  unfold spB at h
  simp only [Bool.and_eq_true, decide_eq_true_eq] at h
  exact ⟨h.1.1, h.1.2, h.2⟩
theorem part_wf {t : Tm} (h : plainB t = true) (hs : t.name.size ≤ 16) (hl : t.args.length * 56 ≤ 140737488351232) : wf3 (partT t) := by
  unfold partT
  split
  · rename_i h2
    have k2 : t.kind = 2 := by simpa using h2
    unfold plainB at h
    simp [k2] at h
    unfold wf3
    simp only
    exact ⟨by omega, by omega, wf_i64 (by omega) (by omega)⟩
  · unfold wf3
    simp only
    exact ⟨wd0_lt _ _, wd1_lt _ _ hs, wf_i64 (by omega) (by omega)⟩
theorem plain_args {t : Tm} (h : plainB t = true) : (t.args.length : Int) ≤ 4 := by
  unfold plainB at h
  by_cases k1 : t.kind = 1
  · simp [k1] at h; rw [h.2]; decide
  · by_cases k2 : t.kind = 2
    · simp [k2] at h; rw [h.2]; decide
    · by_cases k3 : t.kind = 3
      · simp [k3] at h; omega
      · simp [k1, k2, k3] at h
theorem parts_of (hh : Nat) : ∀ t : Tm, t.high ≤ hh → allP t → ((partsT t).length : Int) = sizeT t ∧ ∀ p ∈ partsT t, wf3 p := by
  have step : ∀ hh : Nat, (∀ t : Tm, t.high ≤ hh → allP t → ((partsT t).length : Int) = sizeT t ∧ ∀ p ∈ partsT t, wf3 p) →
      ∀ (ts : List Tm) (n : Int), highs ts ≤ hh → allPs ts → n + ((partsL ts).length : Int) = sizeL ts n ∧ ∀ p ∈ partsL ts, wf3 p := by
    intro hh ih ts
    induction ts with
    | nil => intro n _ _; exact ⟨by simp [partsL, sizeL], fun p hp => by cases hp⟩
    | cons a ts ihl =>
      intro n hhi pa
      simp only [highs] at hhi
      simp only [allPs] at pa
      obtain ⟨e1, w1⟩ := ih a (by omega) pa.1
      obtain ⟨e2, w2⟩ := ihl (n + sizeT a) (by omega) pa.2
      refine ⟨?_, fun p hp => ?_⟩
      · rw [partsL, List.length_append, sizeL, ← e2, ← e1]; omega
      · rw [partsL] at hp
        rcases List.mem_append.1 hp with h | h
        · exact w1 p h
        · exact w2 p h
  induction hh with
  | zero => intro t h0; have := high_pos t; omega
  | succ hh ih =>
    intro t h0 pt
    have hth : highs t.args ≤ hh := by obtain ⟨k, s, n, l⟩ := t; simp only [Tm.high] at h0; simp only; omega
    obtain ⟨e1, w1⟩ := step hh ih t.args 1 hth pt.args
    have ha := plain_args pt.plain
    refine ⟨?_, fun p hp => ?_⟩
    · rw [partsT_eq, List.length_cons]
      have : sizeT t = sizeL t.args 1 := by obtain ⟨k, s, n, l⟩ := t; rw [sizeT]
      rw [this, ← e1]; omega
    · rw [partsT_eq] at hp
      rcases List.mem_cons.1 hp with rfl | h
      · exact part_wf pt.plain (plain_name pt.plain) (by omega)
      · exact w1 p h
theorem May.parts {x : Fc} (h : May x) : (partsT x.tm).length ≤ 24 ∧ ∀ p ∈ partsT x.tm, wf3 p := by
  obtain ⟨e, w⟩ := parts_of x.tm.high x.tm (Nat.le_refl _) (may_all h.may)
  exact ⟨by have := may_size h.may; omega, w⟩
abbrev Fc.keyV (x : Fc) : Value := .agg (keyCs (partsT x.tm) x.fr x.til).toArray
/-- this is a fact's key, as a literal -/
def KeyIs (x : Fc) (kl : Lit) : Prop := keyOf Try.prog 68 x.keyV = some kl
theorem key_is {x : Fc} (h : May x) : ∃ kl, KeyIs x kl := by
  obtain ⟨hl, hw⟩ := h.parts
  obtain ⟨h1, h2, h3⟩ := sp_bd h.span
  obtain ⟨s, e⟩ := is_key hl hw (wf_i64 (by omega) (by omega) : (Lit.int .i64 x.fr).wf = true) (wf_i64 (by omega) (by omega) : (Lit.int .i64 x.til).wf = true)
  exact ⟨_, e⟩
theorem KeyIs.lit {x : Fc} {kl : Lit} (h : KeyIs x kl) : WideAt.IsKeyLit kl := by
  obtain ⟨s, e⟩ := lawFk.str h
  rw [e]
  trivial
theorem keyV_inj {x y : Fc} (hx : May x) (hy : May y) (e : x.keyV = y.keyV) : x = y := by
  have e1 : keyCs (partsT x.tm) x.fr x.til = keyCs (partsT y.tm) y.fr y.til := by
    injection e with e
    exact List.toArray_inj e
  rw [keyCs_eq hx.parts.1, keyCs_eq hy.parts.1] at e1
  obtain ⟨e2, e3⟩ := cellsP_inj (by rw [padP_len hx.parts.1, padP_len hy.parts.1]) e1
  obtain ⟨e4, _⟩ := parts_inj x.tm.high x.tm y.tm (Nat.le_refl _) (may_all hx.may) (may_all hy.may) hx.ground hy.ground _ _ e2
  simp only [List.cons.injEq, Value.int.injEq, true_and, and_true] at e3
  obtain ⟨t, f, u⟩ := x
  obtain ⟨t', f', u'⟩ := y
  simp only at e3 e4
  rw [e3.1, e3.2, e4]
theorem KeyIs.inj {x y : Fc} {kl : Lit} (hx : May x) (hy : May y) (h : KeyIs x kl) (k : KeyIs y kl) : x = y := keyV_inj hx hy (lawFk.inj h k)

/-! which of the first k facts kept is this one -/
def eqF (x y : Fc) : Bool := eqT x.tm y.tm && ((x.fr == y.fr) && (x.til == y.til))
theorem eqF_iff (x y : Fc) : eqF x y = true ↔ x = y := by
  unfold eqF
  rw [Bool.and_eq_true, Bool.and_eq_true, eqT_iff, beq_iff_eq, beq_iff_eq]
  obtain ⟨t, f, u⟩ := x
  obtain ⟨t', f', u'⟩ := y
  simp
def fpl (ks : List Kp) : Nat → Fc → Option Nat
  | 0, _ => none
  | k + 1, x => if (ks[k]?.map fun y => eqF y.fc x) = some true then some k else fpl ks k x
theorem fpl_step {ks : List Kp} {k : Nat} (h : k < ks.length) (x : Fc) : fpl ks (k + 1) x = if eqF ks[k].fc x = true then some k else fpl ks k x := by
  rw [fpl, List.getElem?_eq_getElem h]
  simp
theorem fpl_some {ks : List Kp} {x : Fc} : ∀ {k i : Nat}, fpl ks k x = some i → ∃ h : i < ks.length, i < k ∧ ks[i].fc = x
  | 0, _, h => by cases h
  | k + 1, i, h => by
    rw [fpl] at h
    split at h
    · rename_i hc
      cases h
      cases hk : ks[k]? with
      | none => rw [hk] at hc; cases hc
      | some y =>
        obtain ⟨h1, h2⟩ := List.getElem?_eq_some_iff.1 hk
        rw [hk] at hc
        simp only [Option.map_some, Option.some.injEq] at hc
        exact ⟨h1, Nat.lt_succ_self _, by rw [h2]; exact (eqF_iff _ _).1 hc⟩
    · obtain ⟨h1, h2, h3⟩ := fpl_some h
      exact ⟨h1, by omega, h3⟩
theorem fpl_none {ks : List Kp} {x : Fc} : ∀ {k : Nat}, fpl ks k x = none → ∀ i (h : i < ks.length), i < k → ks[i].fc ≠ x
  | 0, _, i, _, hi => by omega
  | k + 1, h, i, hl, hi => by
    rw [fpl] at h
    split at h
    · cases h
    · rename_i hc
      by_cases e : i = k
      · subst e
        intro hx
        rw [List.getElem?_eq_getElem hl] at hc
        exact hc (by simp [(eqF_iff _ _).2 hx])
      · exact fpl_none h i hl (by omega)
/-- how many different facts among the first k -/
def dist (ks : List Kp) : Nat → Nat
  | 0 => 0
  | k + 1 => if (ks[k]?.map fun y => (fpl ks k y.fc).isSome) = some true then dist ks k else dist ks k + 1
theorem dist_step {ks : List Kp} {k : Nat} (h : k < ks.length) : dist ks (k + 1) = if (fpl ks k ks[k].fc).isSome = true then dist ks k else dist ks k + 1 := by
  rw [dist, List.getElem?_eq_getElem h]
  simp
theorem dist_le (ks : List Kp) : ∀ k, dist ks k ≤ k
  | 0 => Nat.le_refl _
  | k + 1 => by
    have := dist_le ks k
    rw [dist]
    by_cases c : (ks[k]?.map fun y => (fpl ks k y.fc).isSome) = some true
    · rw [if_pos c]; omega
    · rw [if_neg c]; omega

/-- what a map that has the Seqs of the first k facts kept tells -/
def FmTells (D : DataW Unit) (ks : List Kp) (k : Nat) : Prop := Maps.size D = dist ks k ∧
  ∀ x : Fc, May x → ∀ kl, KeyIs x kl → has D kl = (fpl ks k x).isSome ∧ ∀ zd, D.atKey kl zd = match fpl ks k x with | some i => .lit (.int .i64 (ks[i]?.map Kp.seq |>.getD 0)) | none => zd
/-- block b is one -/
def FmAt (w : World) (b : Nat) (ks : List Kp) (k : Nat) : Prop := ∃ D : DataW Unit, w.ownsMap Try.prog 68 (plainElem Try.prog 3) b k D ∧ FmTells D ks k
theorem FmAt.lt {w : World} {b : Nat} {ks : List Kp} {k : Nat} (h : FmAt w b ks k) : b < w.heap.size := by obtain ⟨D, h, _⟩ := h; exact h.lt
theorem FmAt.keep {w w' : World} {b : Nat} {ks : List Kp} {k : Nat} (h : FmAt w b ks k) (e : w'.heap[b]? = w.heap[b]?) : FmAt w' b ks k := by
  obtain ⟨D, ⟨es, clock, hb, F, hs, hD⟩, h2⟩ := h
  exact ⟨D, ⟨es, clock, e.trans hb, F, hs, hD⟩, h2⟩
theorem FmAt.ext {w w' : World} {b : Nat} {ks : List Kp} {k : Nat} (h : FmAt w b ks k) (x : Ext w w') : FmAt w' b ks k := h.keep (x.block b h.lt)
theorem FmAt.made (w : World) (ks : List Kp) : FmAt (w.alloc (.map #[] 0)) w.heap.size ks 0 := ⟨_, World.ownsMap_made w _ _ _, rfl, fun _ _ _ _ => ⟨rfl, fun _ => rfl⟩⟩
theorem FmTells.put {ks : List Kp} {k : Nat} {D : DataW Unit} {kl : Lit} (h : FmTells D ks k) (hk : k < ks.length) (hs : May ks[k].fc) (hkl : KeyIs ks[k].fc kl) (hm : IsMap D) (ht : Tidy D) : FmTells (D.put kl (.lit (.int .i64 ks[k].seq))) ks (k + 1) := by
  refine ⟨?_, fun x hx kx hkx => ?_⟩
  · rw [size_put ht, (h.2 _ hs _ hkl).1, h.1, dist_step hk]
  · rw [fpl_step hk]
    by_cases e : ks[k].fc = x
    · rw [if_pos ((eqF_iff _ _).2 e)]
      subst e
      have ek : kx = kl := Option.some.inj (hkx.symm.trans hkl)
      subst ek
      refine ⟨has_put_same hm hkl.lit _, fun zd => ?_⟩
      rw [atKey_put_same hm hkl.lit]
      simp [List.getElem?_eq_getElem hk]
    · rw [if_neg (fun c => e ((eqF_iff _ _).1 c))]
      have hne : kx ≠ kl := fun c => e (KeyIs.inj hs hx (c ▸ hkl) hkx)
      exact ⟨(has_put_other hne _).trans (h.2 x hx kx hkx).1, fun zd => (atKey_put_other hne _ _).trans ((h.2 x hx kx hkx).2 zd)⟩
end Go.Proofs.Ytcfhokejfibgoaa
