/- facts.Find. -/
import Derived.Test.YtcfhokejfibgoaaFkn
namespace Go.Proofs.Ytcfhokejfibgoaa
open Go.RowKit Go.Maps

theorem zeroInt (w : World) : (zeroValue 3).run Try.prog w = .ok (.int .i64 0) w := Try.zeroValue3 w
/-- is it there; its Seq -/
def hasK (ks : List Kp) (x : Fc) : Bool := (fpl ks ks.length x).isSome
def seqK (ks : List Kp) (x : Fc) : Int := match fpl ks ks.length x with | some i => (ks[i]?.map Kp.seq).getD 0 | none => 0
theorem look_fm {D : DataW Unit} {ks : List Kp} {w : World} {b : Nat} {x : Fc} {kl : Lit} (hown : w.ownsMap Try.prog 68 (plainElem Try.prog 3) b ks.length D) (hT : FmTells D ks ks.length) (hx : May x) (hkl : KeyIs x kl) :
    (Instr.lookup 58 (.map (some b)) x.keyV true).run Try.prog w = .ok (.tuple #[.int .i64 (seqK ks x), .bool (hasK ks x)]) w := by
  have hwz : (Lit.int .i64 0).wf = true := by decide
  obtain ⟨v, ps, hrun, hv⟩ := hown.look_ok keyedFk Try.underlying58 (zeroInt w) (plainElem_int Try.underlying3 hwz) hkl
  obtain ⟨q, rfl, hq, _⟩ := plainElem_int_inv Try.underlying3 hv
  obtain ⟨h1, h2⟩ := hT.2 x hx kl hkl
  rw [hrun, h1]
  simp only [Prod.mk.injEq] at hq
  have e1 := hq.1
  rw [h2] at e1
  unfold seqK hasK
  cases hp : fpl ks ks.length x with
  | none => rw [hp] at e1; simp only [DataW.lit.injEq, Lit.int.injEq, true_and] at e1; rw [← e1]
  | some i => rw [hp] at e1; simp only [DataW.lit.injEq, Lit.int.injEq, true_and] at e1; rw [← e1]

def fndE (ks : List Kp) (x : Fc) : Int := if (kpsB ks && fmB x) = true then (if hasK ks x = true then 0 else 3) else 1
def fndV (ks : List Kp) (x : Fc) : Int := if (kpsB ks && fmB x) = true then (if hasK ks x = true then seqK ks x else 0) else 0
set_option maxHeartbeats 4000000 in
theorem Find_any (ks : List Kp) (x : Fc) (A B : Option Addr) (c d : Nat) (w : World) (hc : ks.length ≤ c) (hl : ks.length ≤ 1000000) (h : KpsAt w ks A) (hx : TmAt w x.tm B d) :
    Calls Try.prog 14 #[.slice A ks.length c, x.val B d] w fun e w' => e = .returned (.tuple #[.int .i64 (fndV ks x), .int .i64 (fndE ks x)]) ∧ Ext w w' := by
  have HE : Hid (fndE ks x = (if (kpsB ks && fmB x) = true then (if hasK ks x = true then 0 else 3) else 1) ∧ fndV ks x = if (kpsB ks && fmB x) = true then (if hasK ks x = true then seqK ks x else 0) else 0) := Lib.hid ⟨rfl, rfl⟩
  generalize fndE ks x = RE at HE ⊢
  generalize fndV ks x = RV at HE ⊢
  obtain ⟨W1, hW1⟩ : ∃ W1, W1 = w.alloc (.cells #[.int .i64 x.tm.kind, .string x.tm.name, .int .i64 x.tm.n, .slice B x.tm.args.length d, .int .i64 x.fr, .int .i64 x.til] 37) := ⟨_, rfl⟩
  have hx1 : Ext w W1 := by rw [hW1]; exact (Ext.refl w).alloc _
  have q0 : W1.cell? ⟨w.heap.size, 0, none⟩ = some (.int .i64 x.tm.kind) := by rw [hW1]; go_simp
  have q1 : W1.cell? ⟨w.heap.size, 1, none⟩ = some (.string x.tm.name) := by rw [hW1]; go_simp
  have q2 : W1.cell? ⟨w.heap.size, 2, none⟩ = some (.int .i64 x.tm.n) := by rw [hW1]; go_simp
  have q3 : W1.cell? ⟨w.heap.size, 3, none⟩ = some (.slice B x.tm.args.length d) := by rw [hW1]; go_simp
  have q4 : W1.cell? ⟨w.heap.size, 4, none⟩ = some (.int .i64 x.fr) := by rw [hW1]; go_simp
  have q5 : W1.cell? ⟨w.heap.size, 5, none⟩ = some (.int .i64 x.til) := by rw [hW1]; go_simp
  have KS := Lib.hid (seqsOf_any ks A c W1 hc hl (h.ext hx1))
  have KM := Lib.hid (fun u (k : Ext W1 u) => May_any x B d u ((hx.ext hx1).ext k))
  have KK := Lib.hid (fun u (k : Ext W1 u) (hm : May x) => keyOf_any x.tm B d x.fr x.til u ((hx.ext hx1).ext k) (may_short hm.may) hm.parts.1)
  have HW := Lib.hid hW1
  have HX1 := Lib.hid hx1
  clear hW1 h hx hx1
  go_enter Try.func14, Try.ntmps14
  go_upto_region 1 with (fail)
  rw [← HW.out]
  clear HW
  go_wp2_with fail
  refine KS.out.mono ?_
  intro e w2 hs
  rcases hs with ⟨hkb, b, rfl, hFm, hbw, hx2⟩ | ⟨hkb, rfl, hx2⟩
  · replace q0 := hx2.cell q0
    replace q1 := hx2.cell q1
    replace q2 := hx2.cell q2
    replace q3 := hx2.cell q3
    replace q4 := hx2.cell q4
    replace q5 := hx2.cell q5
    have HX2 := Lib.hid hx2
    have HFM := Lib.hid hFm
    have HKB := Lib.hid hkb
    clear hFm hx2 hkb KS hbw
    go_wp2_with fail
    refine (KM.out _ HX2.out).mono ?_
    rintro e w3 ⟨rfl, hx3⟩
    replace q0 := hx3.cell q0
    replace q1 := hx3.cell q1
    replace q2 := hx3.cell q2
    replace q3 := hx3.cell q3
    replace q4 := hx3.cell q4
    replace q5 := hx3.cell q5
    have HX3 := Lib.hid (HX2.out.trans hx3)
    have HX23 := Lib.hid hx3
    clear hx3 KM
    cases hm : fmB x with
    | false =>
      have HF : Hid (RV = 0 ∧ RE = 1) := Lib.hid (by rw [HE.out.1, HE.out.2, hm, Bool.and_false]; exact ⟨rfl, rfl⟩)
      simp only [badE]
      clear hm
      go_wp2_with fail
      go_ret2
      obtain ⟨e1, e2⟩ := HF.out
      subst e1 e2
      exact ⟨rfl, HX1.out.trans HX3.out⟩
    | true =>
      have HMAY := Lib.hid (fm_may hm)
      have HF : Hid (RE = (if hasK ks x = true then 0 else 3) ∧ RV = if hasK ks x = true then seqK ks x else 0) := Lib.hid (by rw [HE.out.1, HE.out.2, hm, HKB.out]; exact ⟨rfl, rfl⟩)
      have KK2 := Lib.hid (KK.out w3 HX3.out HMAY.out)
      simp only [badE]
      clear hm KK
      go_wp2_with fail
      refine KK2.out.mono ?_
      rintro e w4 ⟨rfl, hx4⟩
      obtain ⟨D, hown, hT⟩ := (HFM.out.ext HX23.out).ext hx4
      obtain ⟨kl, hkl⟩ := key_is HMAY.out
      have hrun := look_fm hown hT HMAY.out hkl
      have HX4 := Lib.hid (HX1.out.trans (HX3.out.trans hx4))
      clear hown hT hkl hx4 KK2 HFM HX23
      cases hh : hasK ks x with
      | false =>
        rw [hh] at hrun HF
        go_wp2_with fail
        go_ret2
        obtain ⟨e1, e2⟩ := HF.out
        subst e1 e2
        exact ⟨rfl, HX4.out⟩
      | true =>
        rw [hh] at hrun HF
        go_wp2_with fail
        go_ret2
        obtain ⟨e1, e2⟩ := HF.out
        subst e1 e2
        exact ⟨rfl, HX4.out⟩
  · have HF : Hid (RV = 0 ∧ RE = 1) := Lib.hid (by rw [HE.out.1, HE.out.2, hkb, Bool.false_and]; exact ⟨rfl, rfl⟩)
    have HX2 := Lib.hid (HX1.out.trans hx2)
    clear hx2 hkb KS KM KK
    go_wp2_with fail
    go_ret2
    obtain ⟨e1, e2⟩ := HF.out
    subst e1 e2
    exact ⟨rfl, HX2.out⟩
end Go.Proofs.Ytcfhokejfibgoaa
