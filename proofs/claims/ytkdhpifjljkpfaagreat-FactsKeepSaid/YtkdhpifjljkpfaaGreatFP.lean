/- Joined: Fko, Fkp, Fkq. -/
import Derived.Test.YtkdhpifjljkpfaaGreatFC

/- facts.Find. -/
namespace Go.Proofs.YtkdhpifjljkpfaaGreat
open Go.RowKit Go.Maps

theorem zeroInt (w : World) : (zeroValue 3).run Tryz.prog w = .ok (.int .i64 0) w := Tryz.zeroValue3 w
/-- is it there; its Seq -/
def hasK (ks : List Kp) (x : Fc) : Bool := (fpl ks ks.length x).isSome
def seqK (ks : List Kp) (x : Fc) : Int := match fpl ks ks.length x with | some i => (ks[i]?.map Kp.seq).getD 0 | none => 0
theorem look_fm {D : DataW Unit} {ks : List Kp} {w : World} {b : Nat} {x : Fc} {kl : Lit} (hown : w.ownsMap Tryz.prog 83 (plainElem Tryz.prog 3) b ks.length D) (hT : FmTells D ks ks.length) (hx : May x) (hkl : KeyIs x kl) :
    (Instr.lookup 70 (.map (some b)) x.keyV true).run Tryz.prog w = .ok (.tuple #[.int .i64 (seqK ks x), .bool (hasK ks x)]) w := by
  have hwz : (Lit.int .i64 0).wf = true := by decide
  obtain ⟨v, ps, hrun, hv⟩ := hown.look_ok keyedFk Tryz.underlying70 (zeroInt w) (plainElem_int Tryz.underlying3 hwz) hkl
  obtain ⟨q, rfl, hq, _⟩ := plainElem_int_inv Tryz.underlying3 hv
  obtain ⟨h1, h2⟩ := hT.2 x hx kl hkl
  rw [hrun, h1]
  simp only [Prod.mk.injEq] at hq
  have e1 := hq.1
  rw [h2] at e1
  unfold seqK hasK
  cases hp : fpl ks ks.length x with
  | none => rw [hp] at e1; simp only [DataW.lit.injEq, Lit.int.injEq, true_and] at e1; rw [← e1]
  | some i => rw [hp] at e1; simp only [DataW.lit.injEq, Lit.int.injEq, true_and] at e1; rw [← e1]

def fndE (ks : List Kp) (x : Fc) : Int := if (kpsB ks && fmB x) = true then (if hasK ks x = true then 0 else 3) else 1
def fndV (ks : List Kp) (x : Fc) : Int := if (kpsB ks && fmB x) = true then (if hasK ks x = true then seqK ks x else 0) else 0
set_option maxHeartbeats 4000000 in
theorem Find_any (ks : List Kp) (x : Fc) (A B : Option Addr) (c d : Nat) (w : World) (hc : ks.length ≤ c) (hl : ks.length ≤ 1000000) (h : KpsAt w ks A) (hx : TmAt w x.tm B d) :
    Calls Tryz.prog 14 #[.slice A ks.length c, x.val B d] w fun e w' => e = .returned (.tuple #[.int .i64 (fndV ks x), .int .i64 (fndE ks x)]) ∧ Ext w w' := by
  have HE : Hid (fndE ks x = (if (kpsB ks && fmB x) = true then (if hasK ks x = true then 0 else 3) else 1) ∧ fndV ks x = if (kpsB ks && fmB x) = true then (if hasK ks x = true then seqK ks x else 0) else 0) := Lib.hid ⟨rfl, rfl⟩
  generalize fndE ks x = RE at HE ⊢
  generalize fndV ks x = RV at HE ⊢
  obtain ⟨W1, hW1⟩ : ∃ W1, W1 = w.alloc (.cells #[.int .i64 x.tm.kind, .string x.tm.name, .int .i64 x.tm.n, .slice B x.tm.args.length d, .int .i64 x.fr, .int .i64 x.til] 44) := ⟨_, rfl⟩
  have hx1 : Ext w W1 := by rw [hW1]; exact (Ext.refl w).alloc _
  have q0 : W1.cell? ⟨w.heap.size, 0, none⟩ = some (.int .i64 x.tm.kind) := by rw [hW1]; go_simp
  have q1 : W1.cell? ⟨w.heap.size, 1, none⟩ = some (.string x.tm.name) := by rw [hW1]; go_simp
  have q2 : W1.cell? ⟨w.heap.size, 2, none⟩ = some (.int .i64 x.tm.n) := by rw [hW1]; go_simp
  have q3 : W1.cell? ⟨w.heap.size, 3, none⟩ = some (.slice B x.tm.args.length d) := by rw [hW1]; go_simp
  have q4 : W1.cell? ⟨w.heap.size, 4, none⟩ = some (.int .i64 x.fr) := by rw [hW1]; go_simp
  have q5 : W1.cell? ⟨w.heap.size, 5, none⟩ = some (.int .i64 x.til) := by rw [hW1]; go_simp
  have KS := Lib.hid (seqsOf_any ks A c W1 hc hl (h.ext hx1))
  have KM := Lib.hid (fun u (k : Ext W1 u) => May_any x B d u ((hx.ext hx1).ext k))
  have KK := Lib.hid (fun u (k : Ext W1 u) (hm : May x) => keyOf_any x.tm B d x.fr x.til u ((hx.ext hx1).ext k) (may_short hm.may) hm.parts.1)
  have HW := Lib.hid hW1
  have HX1 := Lib.hid hx1
  clear hW1 h hx hx1
  go_enter Tryz.func14, Tryz.ntmps14
  go_upto_region 1 with (fail)
  rw [← HW.out]
  clear HW
  go_wp2_with fail
  refine KS.out.mono ?_
  intro e w2 hs
  rcases hs with ⟨hkb, b, rfl, hFm, hbw, hx2⟩ | ⟨hkb, rfl, hx2⟩
  · replace q0 := hx2.cell q0
    replace q1 := hx2.cell q1
    replace q2 := hx2.cell q2
    replace q3 := hx2.cell q3
    replace q4 := hx2.cell q4
    replace q5 := hx2.cell q5
    have HX2 := Lib.hid hx2
    have HFM := Lib.hid hFm
    have HKB := Lib.hid hkb
    clear hFm hx2 hkb KS hbw
    go_wp2_with fail
    refine (KM.out _ HX2.out).mono ?_
    rintro e w3 ⟨rfl, hx3⟩
    replace q0 := hx3.cell q0
    replace q1 := hx3.cell q1
    replace q2 := hx3.cell q2
    replace q3 := hx3.cell q3
    replace q4 := hx3.cell q4
    replace q5 := hx3.cell q5
    have HX3 := Lib.hid (HX2.out.trans hx3)
    have HX23 := Lib.hid hx3
    clear hx3 KM
    cases hm : fmB x with
    | false =>
      have HF : Hid (RV = 0 ∧ RE = 1) := Lib.hid (by rw [HE.out.1, HE.out.2, hm, Bool.and_false]; exact ⟨rfl, rfl⟩)
      simp only [badE]
      clear hm
      go_wp2_with fail
      go_ret2
      obtain ⟨e1, e2⟩ := HF.out
      subst e1 e2
      exact ⟨rfl, HX1.out.trans HX3.out⟩
    | true =>
      have HMAY := Lib.hid (fm_may hm)
      have HF : Hid (RE = (if hasK ks x = true then 0 else 3) ∧ RV = if hasK ks x = true then seqK ks x else 0) := Lib.hid (by rw [HE.out.1, HE.out.2, hm, HKB.out]; exact ⟨rfl, rfl⟩)
      have KK2 := Lib.hid (KK.out w3 HX3.out HMAY.out)
      simp only [badE]
      clear hm KK
      go_wp2_with fail
      refine KK2.out.mono ?_
      rintro e w4 ⟨rfl, hx4⟩
      obtain ⟨D, hown, hT⟩ := (HFM.out.ext HX23.out).ext hx4
      obtain ⟨kl, hkl⟩ := key_is HMAY.out
      have hrun := look_fm hown hT HMAY.out hkl
      have HX4 := Lib.hid (HX1.out.trans (HX3.out.trans hx4))
      clear hown hT hkl hx4 KK2 HFM HX23
      cases hh : hasK ks x with
      | false =>
        rw [hh] at hrun HF
        go_wp2_with fail
        go_ret2
        obtain ⟨e1, e2⟩ := HF.out
        subst e1 e2
        exact ⟨rfl, HX4.out⟩
      | true =>
        rw [hh] at hrun HF
        go_wp2_with fail
        go_ret2
        obtain ⟨e1, e2⟩ := HF.out
        subst e1 e2
        exact ⟨rfl, HX4.out⟩
  · have HF : Hid (RV = 0 ∧ RE = 1) := Lib.hid (by rw [HE.out.1, HE.out.2, hkb, Bool.false_and]; exact ⟨rfl, rfl⟩)
    have HX2 := Lib.hid (HX1.out.trans hx2)
    clear hx2 hkb KS KM KK
    go_wp2_with fail
    go_ret2
    obtain ⟨e1, e2⟩ := HF.out
    subst e1 e2
    exact ⟨rfl, HX2.out⟩
end Go.Proofs.YtkdhpifjljkpfaaGreat

/- facts.Add. -/
namespace Go.Proofs.YtkdhpifjljkpfaaGreat
open Go.RowKit Go.Maps

theorem okS_at {ks : List Kp} : ∀ {n : Nat}, okS ks n = true → ∀ i (h : i < ks.length), i < n → fmB ks[i].fc = true ∧ lastI ks i < ks[i].seq
  | 0, _, i, _, hi => by omega
  | n + 1, h, i, hl, hi => by
    rw [okS, Bool.and_eq_true] at h
    by_cases e : i = n
    · subst e
      have h2 := h.2
      rw [List.getElem?_eq_getElem hl] at h2
      simp only [Bool.and_eq_true, decide_eq_true_eq] at h2
      exact ⟨h2.2, h2.1⟩
    · exact okS_at h.1 i hl (by omega)
theorem kpsB_all {ks : List Kp} (h : kpsB ks = true) : ks.length ≤ 300 ∧ ∀ i (h : i < ks.length), May ks[i].fc := by
  unfold kpsB at h
  simp only [Bool.and_eq_true, decide_eq_true_eq] at h
  exact ⟨h.1, fun i hi => fm_may (okS_at h.2.1 i hi hi).1⟩
theorem KOwned.weak {ks : List Kp} {w w5 w' : World} {v : Value} {zs : List KLain} {G : Nat → Nat → Prop} (h : KOwned ks w5 w' v zs G) (k : Ext w w5) : KOwned ks w w' v zs G :=
  ⟨h.map, ownsRow_base h.own k.size, ⟨h.inv.sub, fun i hi x hx => by have := h.inv.inF i hi x hx; exact ⟨Nat.le_trans k.size this.1, this.2⟩, h.inv.apart, k.trans h.inv.ext⟩, h.side⟩
/-- one more behind them -/
theorem KOwned.snoc {ks : List Kp} {w w6 w7 w8 : World} {v v' : Value} {zs : List KLain} {G : Nat → Nat → Prop} {q : Kp} {A : Option Addr} {c : Nat} {o : Obj} (h : KOwned ks w w6 v zs G)
    (hO : TmOwn w7 q.fc.tm A c (fun k => w6.heap.size ≤ k ∧ k < w7.heap.size)) (hx : Ext w6 w7) (hg : (w7.alloc o).grownBy w8 v.ownBlock) (hat : v'.ownBlock = v.ownBlock ∨ v'.ownBlock = some (w7.heap.size + 1))
    (ho : w8.ownsRow w.heap.size 50 7 v' (ks.length + 1) (Krow zs ++ KLain.cells (q, A, c))) (hw : (Lit.int .i64 q.seq).wf = true) : ∃ G', KOwned (ks ++ [q]) w w8 v' (zs ++ [(q, A, c)]) G' := by
  have hst := h.inv.step (y := KLain.tl (q, A, c)) (v' := v') hO hx hg (fun b hb => h.own.lt b hb) hat
  refine ⟨_, by rw [List.map_append, h.map]; rfl, ?_, by rw [List.map_append]; exact hst, fun z hz => ?_⟩
  · rw [Krow_app, Krow_one, List.length_append]
    exact ho
  · rcases List.mem_append.1 hz with h1 | h1
    · exact h.side z h1
    · obtain rfl := List.mem_singleton.1 h1
      exact hw

def addG (ks : List Kp) (n : Int) (x : Fc) : Bool := kpsB ks && (fmB x && (decide (lastI ks ks.length < n) && decide (n ≤ 1073741824)))
def addE (ks : List Kp) (n : Int) (x : Fc) : Int := if addG ks n x = true then (if hasK ks x = true then 4 else if ks.length = 300 then 2 else 0) else 1
def AddTo (ks : List Kp) (n : Int) (x : Fc) (w : World) (e : Ending) (w' : World) : Prop :=
  (addE ks n x = 0 ∧ ∃ v zs G, e = .returned (.tuple #[v, .int .i64 0]) ∧ KOwned (ks ++ [⟨n, x⟩]) w w' v zs G) ∨ (addE ks n x ≠ 0 ∧ e = .returned (.tuple #[.slice none 0 0, .int .i64 (addE ks n x)]) ∧ Ext w w')
theorem AddTo.no {ks : List Kp} {n : Int} {x : Fc} {w w' : World} {k : Int} (h : addE ks n x = k) (hk : k ≠ 0) (hx : Ext w w') : AddTo ks n x w (.returned (.tuple #[.slice none 0 0, .int .i64 k])) w' := .inr ⟨by rw [h]; exact hk, by rw [h], hx⟩

set_option maxRecDepth 100000 in
set_option maxHeartbeats 8000000 in
theorem Add_any (ks : List Kp) (n : Int) (x : Fc) (A B : Option Addr) (c d : Nat) (w : World) (hc : ks.length ≤ c) (hl : ks.length ≤ 1000000) (h : KpsAt w ks A) (hx : TmAt w x.tm B d) (hn : (Lit.int .i64 n).wf = true) :
    Calls Tryz.prog 17 #[.slice A ks.length c, .int .i64 n, x.val B d] w (AddTo ks n x w) := by
  have HE : Hid (addE ks n x = if (kpsB ks && (fmB x && (decide (lastI ks ks.length < n) && decide (n ≤ 1073741824)))) = true then (if hasK ks x = true then 4 else if ks.length = 300 then 2 else 0) else 1) := Lib.hid rfl
  have HNO : Hid (∀ (k : Int) (w' : World), addE ks n x = k → k ≠ 0 → Ext w w' → AddTo ks n x w (.returned (.tuple #[.slice none 0 0, .int .i64 k])) w') := Lib.hid fun k w' h hk hx => AddTo.no h hk hx
  have HYES : Hid (∀ (v : Value) (zs : List KLain) (G : Nat → Nat → Prop) (w' : World), addE ks n x = 0 → KOwned (ks ++ [⟨n, x⟩]) w w' v zs G → AddTo ks n x w (.returned (.tuple #[v, .int .i64 0])) w') := Lib.hid fun v zs G w' h hk => .inl ⟨h, v, zs, G, rfl, hk⟩
  generalize AddTo ks n x w = Z at HNO HYES ⊢
  obtain ⟨i0, hi0, hz0, hz1, hz2⟩ := info_parts infoKp
  have HI := Lib.hid (And.intro hi0 (And.intro hz0 (And.intro hz1 hz2)))
  obtain ⟨W1, hW1⟩ : ∃ W1, W1 = w.alloc (.cells #[.int .i64 x.tm.kind, .string x.tm.name, .int .i64 x.tm.n, .slice B x.tm.args.length d, .int .i64 x.fr, .int .i64 x.til] 44) := ⟨_, rfl⟩
  have hx1 : Ext w W1 := by rw [hW1]; exact (Ext.refl w).alloc _
  have q0 : W1.cell? ⟨w.heap.size, 0, none⟩ = some (.int .i64 x.tm.kind) := by rw [hW1]; go_simp
  have q1 : W1.cell? ⟨w.heap.size, 1, none⟩ = some (.string x.tm.name) := by rw [hW1]; go_simp
  have q2 : W1.cell? ⟨w.heap.size, 2, none⟩ = some (.int .i64 x.tm.n) := by rw [hW1]; go_simp
  have q3 : W1.cell? ⟨w.heap.size, 3, none⟩ = some (.slice B x.tm.args.length d) := by rw [hW1]; go_simp
  have q4 : W1.cell? ⟨w.heap.size, 4, none⟩ = some (.int .i64 x.fr) := by rw [hW1]; go_simp
  have q5 : W1.cell? ⟨w.heap.size, 5, none⟩ = some (.int .i64 x.til) := by rw [hW1]; go_simp
  have KS := Lib.hid (seqsOf_any ks A c W1 hc hl (h.ext hx1))
  have KM := Lib.hid (fun u (k : Ext W1 u) => May_any x B d u ((hx.ext hx1).ext k))
  have KK := Lib.hid (fun u (k : Ext W1 u) (hm : May x) => keyOf_any x.tm B d x.fr x.til u ((hx.ext hx1).ext k) (may_short hm.may) hm.parts.1)
  have KL := Lib.hid (fun u (k : Ext W1 u) => last_any ks A ks.length c u ((h.ext hx1).ext k) (Nat.le_refl _) hl)
  have KC := Lib.hid (fun u (k : Ext W1 u) (hm : ∀ i (h : i < ks.length), May ks[i].fc) => copied_any ks A c u hl ((h.ext hx1).ext k) hm)
  have KF := Lib.hid (fun u (k : Ext W1 u) (hm : May x) => copiedFact_any x B d u ((hx.ext hx1).ext k) hm)
  have HW := Lib.hid hW1
  have HX1 := Lib.hid hx1
  have HN := Lib.hid hn
  clear hW1 h hx hx1 hn hi0 hz0 hz1 hz2
  go_enter Tryz.func17, Tryz.ntmps17
  go_upto_region 1 with (fail)
  rw [← HW.out]
  clear HW
  go_wp2_with fail
  refine KS.out.mono ?_
  intro e w2 hs
  rcases hs with ⟨hkb, b, rfl, hFm, hbw, hx2⟩ | ⟨hkb, rfl, hx2⟩
  case inr =>
    have HF : Hid (addE ks n x = 1) := Lib.hid (by rw [HE.out, hkb, Bool.false_and]; rfl)
    have HX2 := Lib.hid (HX1.out.trans hx2)
    clear hx2 hkb KS KM KK KL KC KF
    go_wp2_with fail
    exact HNO.out _ _ HF.out (by decide) HX2.out
  case inl =>
  replace q0 := hx2.cell q0
  replace q1 := hx2.cell q1
  replace q2 := hx2.cell q2
  replace q3 := hx2.cell q3
  replace q4 := hx2.cell q4
  replace q5 := hx2.cell q5
  have HX2 := Lib.hid hx2
  have HFM := Lib.hid hFm
  have HALL := Lib.hid (kpsB_all hkb)
  rw [hkb] at HE
  clear hFm hx2 hkb KS hbw
  go_wp2_with fail
  refine (KM.out _ HX2.out).mono ?_
  rintro e w3 ⟨rfl, hx3⟩
  replace q0 := hx3.cell q0
  replace q1 := hx3.cell q1
  replace q2 := hx3.cell q2
  replace q3 := hx3.cell q3
  replace q4 := hx3.cell q4
  replace q5 := hx3.cell q5
  have HX3 := Lib.hid (HX2.out.trans hx3)
  have HX23 := Lib.hid hx3
  clear hx3 KM
  cases hm : fmB x with
  | false =>
    have HF : Hid (addE ks n x = 1) := Lib.hid (by rw [HE.out, hm]; rfl)
    simp only [badE]
    clear hm
    go_wp2_with fail
    exact HNO.out _ _ HF.out (by decide) (HX1.out.trans HX3.out)
  | true =>
    have HMAY := Lib.hid (fm_may hm)
    rw [hm] at HE
    have KK2 := Lib.hid (KK.out w3 HX3.out HMAY.out)
    have KL2 := Lib.hid (KL.out w3 HX3.out)
    simp only [badE]
    clear hm KK KL
    go_wp2_with fail
    refine KL2.out.mono ?_
    rintro e w3' ⟨rfl, hw3⟩
    rw [hw3]
    clear hw3 KL2
    generalize lastI ks ks.length = LI at *
    by_cases hln : n ≤ LI
    · have hln' : decide (n ≤ LI) = true := decide_eq_true hln
      have HF : Hid (addE ks n x = 1) := Lib.hid (by rw [HE.out, decide_eq_false (by omega : ¬ LI < n)]; rfl)
      go_wp2_with fail
      exact HNO.out _ _ HF.out (by decide) (HX1.out.trans HX3.out)
    · have hln' : decide (n ≤ LI) = false := decide_eq_false hln
      by_cases hnm : 1073741824 < n
      · have hnm' : decide (1073741824 < n) = true := decide_eq_true hnm
        have HF : Hid (addE ks n x = 1) := Lib.hid (by rw [HE.out, decide_eq_false (by omega : ¬ n ≤ 1073741824), Bool.and_false]; rfl)
        go_wp2_with fail
        exact HNO.out _ _ HF.out (by decide) (HX1.out.trans HX3.out)
      · have hnm' : decide (1073741824 < n) = false := decide_eq_false hnm
        rw [decide_eq_true (by omega : LI < n), decide_eq_true (by omega : n ≤ 1073741824)] at HE
        have HE2 : Hid (addE ks n x = if hasK ks x = true then 4 else if ks.length = 300 then 2 else 0) := Lib.hid HE.out
        clear HE
        go_wp2_with fail
        refine KK2.out.mono ?_
        rintro e w4 ⟨rfl, hx4⟩
        obtain ⟨D, hown, hT⟩ := (HFM.out.ext HX23.out).ext hx4
        obtain ⟨kl, hkl⟩ := key_is HMAY.out
        have hrun := look_fm hown hT HMAY.out hkl
        replace q0 := hx4.cell q0
        replace q1 := hx4.cell q1
        replace q2 := hx4.cell q2
        replace q3 := hx4.cell q3
        replace q4 := hx4.cell q4
        replace q5 := hx4.cell q5
        have HX4 := Lib.hid (HX3.out.trans hx4)
        clear hown hT hkl hx4 KK2 HFM HX23
        cases hh : hasK ks x with
        | true =>
          rw [hh] at hrun HE2
          go_wp2_with fail
          exact HNO.out _ _ HE2.out (by decide) (HX1.out.trans HX4.out)
        | false =>
          rw [hh] at hrun HE2
          by_cases h3 : ks.length = 300
          · have h3' : ((ks.length : Int) == 300) = true := by simp [h3]
            have HF : Hid (addE ks n x = 2) := Lib.hid (by rw [HE2.out, if_pos h3]; rfl)
            go_wp2_with fail
            exact HNO.out _ _ HF.out (by decide) (HX1.out.trans HX4.out)
          · have h3' : ((ks.length : Int) == 300) = false := by simp; omega
            have HF : Hid (addE ks n x = 0) := Lib.hid (by rw [HE2.out, if_neg h3]; rfl)
            have KC2 := Lib.hid (fun u (k : Ext w4 u) => KC.out u (HX4.out.trans k) HALL.out.2)
            have KF2 := Lib.hid (fun u (k : Ext w4 u) => KF.out u (HX4.out.trans k) HMAY.out)
            have HLL := Lib.hid HALL.out.1
            clear KC KF h3 hh
            go_wp2_with fail
            clear hrun
            obtain ⟨hi0, hz0, hz1, hz2⟩ := HI.out
            have H63 : Hid (ks.length + 1 ≤ maxLen) := Lib.hid (by have := HLL.out; unfold maxLen; omega)
            have HBY : Hid ((ks.length + 1) * 80 ≤ 140737488355328) := Lib.hid (by have := HLL.out; omega)
            go_cut [6, 7] (fun v e wx => e = .int .i64 0 ∧ ∃ zs G, KOwned (ks ++ [⟨n, x⟩]) w4 wx v zs G)
            case first =>
              go_region_law
                (first
                  | (go_simp; go_at_call 43; refine (KC2.out _ (by first | exact Ext.refl _ | exact (Ext.refl _).drew)).mono ?_; rintro e6 w6 ⟨v6, zs, G, rfl, hKO⟩; obtain ⟨A6, c6, rfl, hc6, hK6⟩ := hKO.at_; have r0 := hKO.inv.ext.cell (show w4.cell? _ = _ from q0); have r1 := hKO.inv.ext.cell (show w4.cell? _ = _ from q1); have r2 := hKO.inv.ext.cell (show w4.cell? _ = _ from q2); have r3 := hKO.inv.ext.cell (show w4.cell? _ = _ from q3); have r4 := hKO.inv.ext.cell (show w4.cell? _ = _ from q4); have r5 := hKO.inv.ext.cell (show w4.cell? _ = _ from q5); have hs6 : w4.heap.size ≤ w6.heap.size := hKO.inv.ext.size)
                  | (go_simp; go_at_call 30; refine (KF2.out _ (by first | exact hKO.inv.ext | exact (Ext.refl _).drew.trans hKO.inv.ext)).mono ?_; rintro e7 w7 ⟨A', c', rfl, hO, hx7⟩; have hs7 := hx7.size)
                  | (refine step_app _ (by rfl) (.tmp 46) (.tmp 51) 22 (by rfl) w4.heap.size 50 i0 _ 7 80 Tryz.underlying22 hi0 hz0 hz1 hz2 (by rfl) (by decide) (.slice A6 ks.length c6) ks.length (Krow zs) (by rfl) (ownsRow_ext hKO.own (hx7.alloc _)) (some ⟨w7.heap.size, 0, none⟩) 1 1 [.int .i64 n, .int .i64 x.tm.kind, .string x.tm.name, .int .i64 x.tm.n, .slice A' x.tm.args.length c', .int .i64 x.fr, .int .i64 x.til] (by rfl) (Src.box w7 #[.int .i64 n, .int .i64 x.tm.kind, .string x.tm.name, .int .i64 x.tm.n, .slice A' x.tm.args.length c', .int .i64 x.fr, .int .i64 x.til] 50 7 rfl) (by simp [Value.oneCell']) H63.out HBY.out (Nat.le_trans hs6 (Nat.le_trans hs7 (by simp))) ?_; intro v' w8 ho8 hg8 hat8))
              all_goals
                have hat' : v'.ownBlock = (Value.slice A6 ks.length c6).ownBlock ∨ v'.ownBlock = some (w7.heap.size + 1) := by simpa using hat8
                obtain ⟨G', hKO'⟩ := KOwned.snoc (q := ⟨n, x⟩) hKO hO hx7 hg8 hat' ho8 HN.out
                have HF2 := Lib.hid hKO'
                clear hKO' hat' hat8 ho8 hg8 hx7 hO hs7 hs6 r0 r1 r2 r3 r4 r5 hK6
                go_wp2_with fail
                go_meet
                exact ⟨rfl, _, G', by first | exact HF2.out | exact HF2.out.weak (Ext.refl _).drew⟩
            case rest =>
              obtain ⟨rfl, zs, G, hKO⟩ := hcut
              have HKO := Lib.hid (hKO.weak (HX1.out.trans HX4.out))
              clear hKO KC2 KF2
              go_wp2_with fail
              exact HYES.out _ _ _ _ HF.out HKO.out
end Go.Proofs.YtkdhpifjljkpfaaGreat

/- almagestlaw9.wakes. -/
namespace Go.Proofs.YtkdhpifjljkpfaaGreat
open Go.RowKit

abbrev wkF : Fc := ⟨⟨3, ⟨#[97]⟩, 0, []⟩, 1, 2⟩
theorem wk_add : addE [] 7 wkF = 0 := by decide +kernel
theorem wk_find : fndE [⟨7, wkF⟩] wkF = 0 ∧ fndV [⟨7, wkF⟩] wkF = 7 := by decide +kernel
theorem wk_tm (w : World) : TmAt w wkF.tm none 0 :=
  .mk _ none 0 (fun _ => none) (fun _ => 0) ⟨by decide, by decide, by decide, by decide⟩ (Nat.le_refl _) (fun i hi => absurd hi (by simp)) (fun i hi => absurd hi (by simp))
theorem fnum_any (n : Int) (w : World) : Calls Tryz.prog 9 #[.int .i64 n] w fun e w' => e = .returned (.int .i64 n) ∧ w' = w := by
  go_enter Tryz.func9, Tryz.ntmps9
  go_wp2_with fail
  go_ret
  exact ⟨rfl, rfl⟩
set_option maxHeartbeats 2000000 in
theorem wakesF_any (w : World) : Calls Tryz.prog 25 #[] w fun e w' => e = .returned (.bool true) ∧ Ext w w' := by
  have KN := Lib.hid (fun n u => fnum_any n u)
  have HA := Lib.hid wk_add
  have HF := Lib.hid wk_find
  obtain ⟨W1, hW1⟩ : ∃ W1, W1 = w.alloc (.cells #[.int .i64 3, .string ⟨#[97]⟩, .int .i64 0, .slice none 0 0, .int .i64 1, .int .i64 2] 44) := ⟨_, rfl⟩
  have hx1 : Ext w W1 := by rw [hW1]; exact (Ext.refl w).alloc _
  have q0 : W1.cell? ⟨w.heap.size, 0, none⟩ = some (.int .i64 3) := by rw [hW1]; go_simp
  have q1 : W1.cell? ⟨w.heap.size, 1, none⟩ = some (.string ⟨#[97]⟩) := by rw [hW1]; go_simp
  have q2 : W1.cell? ⟨w.heap.size, 2, none⟩ = some (.int .i64 0) := by rw [hW1]; go_simp
  have q3 : W1.cell? ⟨w.heap.size, 3, none⟩ = some (.slice none 0 0) := by rw [hW1]; go_simp
  have q4 : W1.cell? ⟨w.heap.size, 4, none⟩ = some (.int .i64 1) := by rw [hW1]; go_simp
  have q5 : W1.cell? ⟨w.heap.size, 5, none⟩ = some (.int .i64 2) := by rw [hW1]; go_simp
  have KA : Hid (∀ u, Calls Tryz.prog 17 #[.slice none 0 0, .int .i64 7, .agg #[.int .i64 3, .string ⟨#[97]⟩, .int .i64 0, .slice none 0 0, .int .i64 1, .int .i64 2]] u (AddTo [] 7 wkF u)) :=
    Lib.hid fun u => Add_any [] 7 wkF none none 0 0 u (Nat.le_refl _) (by decide) (KpsAt.nil _ _) (wk_tm u) (by decide)
  have KF : Hid (∀ u A c, 1 ≤ c → KpsAt u [⟨7, wkF⟩] A → Calls Tryz.prog 14 #[.slice A 1 c, .agg #[.int .i64 3, .string ⟨#[97]⟩, .int .i64 0, .slice none 0 0, .int .i64 1, .int .i64 2]] u fun e w' => e = .returned (.tuple #[.int .i64 7, .int .i64 0]) ∧ Ext u w') :=
    Lib.hid fun u A c hc hK => by
      have := Find_any [⟨7, wkF⟩] wkF A none c 0 u hc (by decide) hK (wk_tm u)
      rwa [HF.out.1, HF.out.2] at this
  have HW := Lib.hid hW1
  clear hW1
  go_enter Tryz.func25, Tryz.ntmps25
  go_upto_region 2 with (fail)
  rw [← HW.out]
  clear HW
  go_wp2_with fail
  refine (KA.out _).mono ?_
  intro e w2 h
  rcases h with ⟨_, v, zs, G, rfl, hKO⟩ | ⟨hne, _⟩
  case inr => exact absurd HA.out hne
  obtain ⟨A', c', rfl, hc', hK⟩ := hKO.at_
  have hx2 := hKO.inv.ext
  replace q0 := hx2.cell q0
  replace q1 := hx2.cell q1
  replace q2 := hx2.cell q2
  replace q3 := hx2.cell q3
  replace q4 := hx2.cell q4
  replace q5 := hx2.cell q5
  have KF2 := Lib.hid (KF.out w2 A' c' hc' hK)
  have HX2 := Lib.hid (hx1.trans hx2)
  clear hKO hK hx2 hx1 KA KF hc'
  go_wp2_with fail
  refine KF2.out.mono ?_
  rintro e w3 ⟨rfl, hx3⟩
  have HX3 := Lib.hid (HX2.out.trans hx3)
  clear hx3 KF2 q0 q1 q2 q3 q4 q5
  go_wp2_with fail
  refine (KN.out _ _).mono ?_
  rintro e w4 ⟨rfl, hw4⟩
  rw [hw4]
  clear hw4
  go_wp2_with fail
  refine (KN.out _ _).mono ?_
  rintro e w5 ⟨rfl, hw5⟩
  rw [hw5]
  clear hw5
  go_wp2_with fail
  go_ret
  exact ⟨rfl, HX3.out⟩
end Go.Proofs.YtkdhpifjljkpfaaGreat
