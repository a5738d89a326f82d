/- bind.Check, grounded, Apply. -/
import Derived.Test.YtnkfchniagdigaaRpl
import Derived.Test.YtnkfchniagdigaaAll
import Derived.Deep.DeepCutAuto
import Derived.Deep.CutBlock
namespace Go.Proofs.Ytnkfchniagdigaa
open Go.RowKit Go.Maps

theorem exam_yes {bs : List Bd} (hb : bindsB bs = true) (A : Option Addr) (c : Nat) (w : World) (ll : bs.length ≤ 1000000) (h : BdsAt w bs A) :
    Calls Try.prog 85 #[.slice A bs.length c] w fun e w' => e = .returned (.tuple #[.bool (grL bs), .int .i64 0]) ∧ Ext w w' :=
  (examine_any bs A c w ll h).mono fun e w' ⟨he, hx⟩ => ⟨by rw [he, hb]; simp, hx⟩
theorem exam_non {bs : List Bd} (hb : bindsB bs = false) (A : Option Addr) (c : Nat) (w : World) (ll : bs.length ≤ 1000000) (h : BdsAt w bs A) :
    Calls Try.prog 85 #[.slice A bs.length c] w fun e w' => e = .returned (.tuple #[.bool false, .int .i64 1]) ∧ Ext w w' :=
  (examine_any bs A c w ll h).mono fun e w' ⟨he, hx⟩ => ⟨by rw [he, hb]; simp, hx⟩

/-- Check's answer -/
def bindsE (bs : List Bd) : Int := if bindsB bs = true then 0 else 1
theorem bcheck_any (bs : List Bd) (A : Option Addr) (c : Nat) (w : World) (ll : bs.length ≤ 1000000) (h : BdsAt w bs A) :
    Calls Try.prog 41 #[.slice A bs.length c] w fun e w' => e = .returned (.int .i64 (bindsE bs)) ∧ Ext w w' := by
  by_cases hb : bindsB bs = true
  · have E := Lib.hid (show bindsE bs = 0 by unfold bindsE; rw [if_pos hb])
    have HB := Lib.hid hb
    clear hb
    go_enter Try.func41, Try.ntmps41
    go_wp2_with fail
    refine (exam_yes HB.out A c _ ll h).mono ?_
    rintro e1 w1 ⟨rfl, hx1⟩
    go_wp2_with fail
    go_ret
    exact ⟨ret_int E.out.symm, hx1⟩
  · have hb' := not_true hb
    have E := Lib.hid (show bindsE bs = 1 by unfold bindsE; rw [if_neg hb])
    have HB := Lib.hid hb'
    clear hb hb'
    go_enter Try.func41, Try.ntmps41
    go_wp2_with fail
    refine (exam_non HB.out A c _ ll h).mono ?_
    rintro e1 w1 ⟨rfl, hx1⟩
    go_wp2_with fail
    go_ret
    exact ⟨ret_int E.out.symm, hx1⟩
theorem bcheck_yes {bs : List Bd} (hb : bindsB bs = true) (A : Option Addr) (c : Nat) (w : World) (ll : bs.length ≤ 1000000) (h : BdsAt w bs A) :
    Calls Try.prog 41 #[.slice A bs.length c] w fun e w' => e = .returned (.int .i64 0) ∧ Ext w w' :=
  (bcheck_any bs A c w ll h).mono fun e w' ⟨he, hx⟩ => ⟨by rw [he, bindsE, if_pos hb], hx⟩
theorem bcheck_no {bs : List Bd} (hb : bindsB bs = false) (A : Option Addr) (c : Nat) (w : World) (ll : bs.length ≤ 1000000) (h : BdsAt w bs A) :
    Calls Try.prog 41 #[.slice A bs.length c] w fun e w' => e = .returned (.int .i64 1) ∧ Ext w w' :=
  (bcheck_any bs A c w ll h).mono fun e w' ⟨he, hx⟩ => ⟨by rw [he, bindsE, if_neg (by rw [hb]; exact Bool.false_ne_true)], hx⟩
theorem grounded_any (bs : List Bd) (A : Option Addr) (c : Nat) (w : World) (ll : bs.length ≤ 1000000) (h : BdsAt w bs A) :
    Calls Try.prog 97 #[.slice A bs.length c] w fun e w' => e = .returned (.bool (bindsB bs && grL bs)) ∧ Ext w w' := by
  by_cases hb : bindsB bs = true
  · have HB := Lib.hid hb
    clear hb
    cases hg : grL bs
    all_goals
      have HG := Lib.hid hg
      clear hg
      go_enter Try.func97, Try.ntmps97
      go_wp2_with fail
      refine (exam_yes HB.out A c _ ll h).mono ?_
      rintro e1 w1 ⟨rfl, hx1⟩
      rw [HG.out]
      go_wp2_with fail
      go_ret
      exact ⟨by rw [HB.out]; rfl, hx1⟩
  · have hb' := not_true hb
    have HB := Lib.hid hb'
    clear hb hb'
    go_enter Try.func97, Try.ntmps97
    go_wp2_with fail
    refine (exam_non HB.out A c _ ll h).mono ?_
    rintro e1 w1 ⟨rfl, hx1⟩
    go_wp2_with fail
    go_ret
    exact ⟨by rw [HB.out]; rfl, hx1⟩

/-! what binds that may be have -/
theorem okL_may : ∀ (p : Option ByteArray) (bs : List Bd), okL p bs = true → ∀ i (h : i < bs.length), mayB bs[i].tm = true ∧ varB bs[i].name = true
  | _, [], _ => fun i hi => absurd hi (by simp)
  | p, x :: xs, h => by
    rw [okL, Bool.and_eq_true, Bool.and_eq_true, Bool.and_eq_true] at h
    intro i hi
    cases i with
    | zero => exact ⟨h.1.1.1, h.1.1.2⟩
    | succ i => exact okL_may _ xs h.2 i (by simpa using hi)
theorem binds_ok {bs : List Bd} (h : bindsB bs = true) : bs.length ≤ 16 ∧ okL none bs = true ∧ (grL bs = true ∨ crossL bs bs = false) := by
  unfold bindsB at h
  simp only [Bool.and_eq_true, decide_eq_true_eq, Bool.or_eq_true, Bool.not_eq_true'] at h
  exact ⟨h.1.1, h.1.2, h.2⟩
theorem binds_short {bs : List Bd} (h : bindsB bs = true) : Short bs := okL_short _ _ (binds_ok h).2.1
theorem binds_all {bs : List Bd} (h : bindsB bs = true) : AllB bs := fun i hi => may_all (okL_may _ _ (binds_ok h).2.1 i hi).1
theorem binds_len {bs : List Bd} (h : bindsB bs = true) : bs.length ≤ 1000000 := by have := (binds_ok h).1; omega

/-! Apply -/
def applyE (bs : List Bd) (t : Tm) : Int := if (bindsB bs && mayB t) = true then (if mayB (repT bs t) = true then 0 else 2) else 1
def applyT (bs : List Bd) (t : Tm) : Tm := if (bindsB bs && mayB t) = true then (if mayB (repT bs t) = true then repT bs t else noTm) else noTm
def ApplyOut (bs : List Bd) (t : Tm) (w : World) (e : Ending) (w' : World) : Prop :=
  ∃ A c, e = .returned (.tuple #[(applyT bs t).val A c, .int .i64 (applyE bs t)]) ∧ TmOwn w' (applyT bs t) A c (fun k => w.heap.size ≤ k ∧ k < w'.heap.size) ∧ Ext w w'
theorem apply_form {bs : List Bd} {t : Tm} (h : bindsB bs = false ∨ mayB t = false) {w w' : World} (hx : Ext w w') : ApplyOut bs t w (.returned (.tuple #[zeroTm, .int .i64 1])) w' := by
  have hb : ¬ (bindsB bs && mayB t) = true := by rcases h with h | h <;> simp [h]
  unfold ApplyOut applyT applyE
  rw [if_neg hb, if_neg hb]
  exact ⟨none, 0, rfl, TmOwn.leaf noTm_fits rfl _ _ _, hx⟩

set_option maxRecDepth 100000 in
set_option maxHeartbeats 2000000 in
theorem Apply_form (bs : List Bd) (t : Tm) (LA A : Option Addr) (lc c : Nat) (w : World) (hl : bs.length ≤ 1000000) (hL : BdsAt w bs LA) (h : TmAt w t A c) (hr : bindsB bs = false ∨ mayB t = false) :
    Calls Try.prog 49 #[.slice LA bs.length lc, t.val A c] w (ApplyOut bs t w) := by
  have HR := Lib.hid hr
  have hx0 := ((Ext.refl w).alloc (.cells #[.int .i64 t.kind, .string t.name, .int .i64 t.n, .slice A t.args.length c] 28)).alloc (.cells #[.int .i64 0, .string ⟨#[]⟩, .int .i64 0, .slice none 0 0] 28)
  by_cases hb : bindsB bs = true
  · have hm : mayB t = false := by rcases hr with e | e; rw [hb] at e; cases e; exact e
    have HB := Lib.hid hb
    have HM := Lib.hid hm
    clear hb hm hr
    go_enter Try.func49, Try.ntmps49
    go_wp2_with fail
    refine (bcheck_yes HB.out LA lc _ hl (hL.ext hx0)).mono ?_
    rintro e1 w1 ⟨rfl, hx1⟩
    have HB0 : Hid (Box4 w1 w.heap.size (.int .i64 t.kind) (.string t.name) (.int .i64 t.n) (.slice A t.args.length c)) := Lib.hid (Box4.ext ⟨by go_simp, by go_simp, by go_simp, by go_simp, by go_simp, by go_simp, by go_simp, by go_simp⟩ hx1)
    have HB1 : Hid (Box4 w1 (w.heap.size + 1) (.int .i64 0) (.string ⟨#[]⟩) (.int .i64 0) (.slice none 0 0)) := Lib.hid (Box4.ext ⟨by go_simp, by go_simp, by go_simp, by go_simp, by go_simp, by go_simp, by go_simp, by go_simp⟩ hx1)
    obtain ⟨b0, b1, b2, b3, _, _, _, _⟩ := HB0.out
    go_wp2_with fail
    refine (check_no t A c _ (h.ext (hx0.trans hx1)) HM.out).mono ?_
    rintro e2 w2 ⟨rfl, hx2⟩
    obtain ⟨r0, r1, r2, r3, g0, g1, g2, g3⟩ := HB1.out.ext hx2
    clear b0 b1 b2 b3
    go_wp2_with fail
    refine bodyPost_ret (v := .tuple #[zeroTm, .int .i64 1]) (by simp [results, Try.results49, go_sem, *]) rfl (apply_form HR.out ?_)
    exact Chg.ext_of ((hx0.trans hx1).trans hx2) (set4_chg w2 (w.heap.size + 1) 0 _ _ _ _ (F := fun x => x = w.heap.size + 1) rfl) (fun b hb => by omega)
  · have hb' := not_true hb
    have HB := Lib.hid hb'
    clear hb hb' hr
    go_enter Try.func49, Try.ntmps49
    go_wp2_with fail
    refine (bcheck_no HB.out LA lc _ hl (hL.ext hx0)).mono ?_
    rintro e1 w1 ⟨rfl, hx1⟩
    obtain ⟨r0, r1, r2, r3, g0, g1, g2, g3⟩ : Box4 w1 (w.heap.size + 1) (.int .i64 0) (.string ⟨#[]⟩) (.int .i64 0) (.slice none 0 0) := Box4.ext ⟨by go_simp, by go_simp, by go_simp, by go_simp, by go_simp, by go_simp, by go_simp, by go_simp⟩ hx1
    go_wp2_with fail
    refine bodyPost_ret (v := .tuple #[zeroTm, .int .i64 1]) (by simp [results, Try.results49, go_sem, *]) rfl (apply_form HR.out ?_)
    exact Chg.ext_of (hx0.trans hx1) (set4_chg w1 (w.heap.size + 1) 0 _ _ _ _ (F := fun x => x = w.heap.size + 1) rfl) (fun b hb => by omega)

end Go.Proofs.Ytnkfchniagdigaa
