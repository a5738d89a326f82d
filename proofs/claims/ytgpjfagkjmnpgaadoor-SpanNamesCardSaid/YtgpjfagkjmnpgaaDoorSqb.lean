/- Package span: is a relation so, and what may be; the document's own. -/
import Derived.Test.YtgpjfagkjmnpgaaDoorSqa
namespace Go.Proofs.YtgpjfagkjmnpgaaDoor
open Go.RowKit

theorem low_is {r : Int} (h : r ≤ 7) (af at' bf bt : Int) : lowB r af at' bf bt = isB r af at' bf bt := by unfold isB; rw [if_pos h]
theorem high_is {r : Int} (h : 7 < r) (af at' bf bt : Int) : lowB (14 - r) bf bt af at' = isB r af at' bf bt := by unfold isB; rw [if_neg (by omega)]

set_option maxHeartbeats 1000000 in
theorem so_any (r af at' bf bt : Int) (w : World) (hA : AskAt w) (h1 : 1 ≤ r) (h13 : r ≤ 13) :
    Calls Tryd.prog 43 #[.int .i64 r, spV af at', spV bf bt] w fun e w' => e = .returned (.bool (isB r af at' bf bt)) ∧ Ext w w' := by
  by_cases h7 : r ≤ 7
  · rw [← low_is h7]
    exact so_low r af at' bf bt w hA h1 h7
  · have HE := Lib.hid (high_is (by omega : 7 < r) af at' bf bt)
    have KT := Lib.hid (fun u => turned_any r u ⟨h1, h13⟩)
    have hg : (7 : Int) < r := by omega
    have hx0 := ((Ext.refl w).alloc (.cells #[.int .i64 af, .int .i64 at'] 32)).alloc (.cells #[.int .i64 bf, .int .i64 bt] 32)
    have KS := Lib.hid (fun u (hu : AskAt u) => so_low (14 - r) bf bt af at' u hu (by omega) (by omega))
    go_enter Tryd.func43, Tryd.ntmps43
    go_wp2_with fail
    have q1 : (((w.alloc (.cells #[.int .i64 af, .int .i64 at'] 32)).alloc (.cells #[.int .i64 bf, .int .i64 bt] 32))).cell? ⟨w.heap.size, 0, none⟩ = some (.int .i64 af) := by go_simp
    have q2 : (((w.alloc (.cells #[.int .i64 af, .int .i64 at'] 32)).alloc (.cells #[.int .i64 bf, .int .i64 bt] 32))).cell? ⟨w.heap.size, 1, none⟩ = some (.int .i64 at') := by go_simp
    have q3 : (((w.alloc (.cells #[.int .i64 af, .int .i64 at'] 32)).alloc (.cells #[.int .i64 bf, .int .i64 bt] 32))).cell? ⟨w.heap.size + 1, 0, none⟩ = some (.int .i64 bf) := by go_simp
    have q4 : (((w.alloc (.cells #[.int .i64 af, .int .i64 at'] 32)).alloc (.cells #[.int .i64 bf, .int .i64 bt] 32))).cell? ⟨w.heap.size + 1, 1, none⟩ = some (.int .i64 bt) := by go_simp
    have hA0 := hA.ext hx0
    generalize ((w.alloc (.cells #[.int .i64 af, .int .i64 at'] 32)).alloc (.cells #[.int .i64 bf, .int .i64 bt] 32)) = W0 at *
    replace q1 : ∀ p : ExtOf W0, _ := ext_cell q1
    replace q2 : ∀ p : ExtOf W0, _ := ext_cell q2
    replace q3 : ∀ p : ExtOf W0, _ := ext_cell q3
    replace q4 : ∀ p : ExtOf W0, _ := ext_cell q4
    have KS' : Hid (∀ p : ExtOf W0, Calls Tryd.prog 43 #[.int .i64 (14 - r), spV bf bt, spV af at'] p.to fun e w' => e = .returned (.bool (lowB (14 - r) bf bt af at')) ∧ Ext p.to w') := Lib.hid fun p => KS.out _ (hA0.ext p.is)
    have KT' : Hid (∀ p : ExtOf W0, Calls Tryd.prog 45 #[.int .i64 r] p.to fun e w' => e = .returned (.int .i64 (14 - r)) ∧ Ext p.to w') := Lib.hid fun p => (KT.out _).mono fun _ _ ⟨e, k⟩ => ⟨e, k ▸ Ext.refl _⟩
    clear hA hA0 KS KT
    refine wp_region_ext (by kernel_rfl) (by kernel_rfl) ?_
    repeat (go_big_quiet_step (first | (go_at_call 45; exact of_ext (KT'.out _)) | (go_at_call 43; exact of_ext (KS'.out _))))
    refine wpQuiet_nil ?_
    refine ext_all ?_
    intro w2 hx2
    go_wp2_with fail
    go_ret
    exact ⟨ret_bool HE.out, hx0.trans hx2⟩

/-- may a span be? -/
def spB (f t : Int) : Bool := decide (-1073741824 ≤ f) && decide (f ≤ t) && decide (t ≤ 1073741824)
/-- may a relation be? -/
def rlB (r : Int) : Bool := decide (1 ≤ r) && decide (r ≤ 13)

theorem spanMay_any (f t : Int) (w : World) : Calls Tryd.prog 41 #[spV f t] w fun e w' => e = .returned (.bool (spB f t)) ∧ Ext w w' := by
  have HS : Hid (spB f t = (decide (-1073741824 ≤ f) && decide (f ≤ t) && decide (t ≤ 1073741824))) := Lib.hid rfl
  by_cases h1 : -1073741824 ≤ f
  · by_cases h2 : f ≤ t
    · by_cases h3 : t ≤ 1073741824
      · go_enter Tryd.func41, Tryd.ntmps41
        go_wp2_with fail
        go_ret
        exact ⟨ret_bool (by rw [HS.out]; simp [h1, h2, h3]), (Ext.refl w).alloc _⟩
      · have h3' : decide (t ≤ 1073741824) = false := decide_eq_false h3
        go_enter Tryd.func41, Tryd.ntmps41
        go_wp2_with fail
        go_ret
        exact ⟨ret_bool (by rw [HS.out]; simp [h1, h2, h3]), (Ext.refl w).alloc _⟩
    · have h2' : decide (f ≤ t) = false := decide_eq_false h2
      go_enter Tryd.func41, Tryd.ntmps41
      go_wp2_with fail
      go_ret
      exact ⟨ret_bool (by rw [HS.out, h2', Bool.and_false, Bool.false_and]), (Ext.refl w).alloc _⟩
  · have h1' : decide (-1073741824 ≤ f) = false := decide_eq_false h1
    go_enter Tryd.func41, Tryd.ntmps41
    go_wp2_with fail
    go_ret
    exact ⟨ret_bool (by rw [HS.out, h1', Bool.false_and, Bool.false_and]), (Ext.refl w).alloc _⟩

theorem rSpan_any (f t : Int) (w : World) : Calls Tryd.prog 22 #[spV f t] w fun e w' => e = .returned (.bool (spB f t)) ∧ Ext w w' := by
  have HS : Hid (spB f t = (decide (-1073741824 ≤ f) && decide (f ≤ t) && decide (t ≤ 1073741824))) := Lib.hid rfl
  by_cases h1 : -1073741824 ≤ f
  · by_cases h2 : f ≤ t
    · by_cases h3 : t ≤ 1073741824
      · go_enter Tryd.func22, Tryd.ntmps22
        go_wp2_with fail
        go_ret
        exact ⟨ret_bool (by rw [HS.out]; simp [h1, h2, h3]), (Ext.refl w).alloc _⟩
      · have h3' : decide (t ≤ 1073741824) = false := decide_eq_false h3
        go_enter Tryd.func22, Tryd.ntmps22
        go_wp2_with fail
        go_ret
        exact ⟨ret_bool (by rw [HS.out]; simp [h1, h2, h3]), (Ext.refl w).alloc _⟩
    · have h2' : decide (f ≤ t) = false := decide_eq_false h2
      go_enter Tryd.func22, Tryd.ntmps22
      go_wp2_with fail
      go_ret
      exact ⟨ret_bool (by rw [HS.out, h2', Bool.and_false, Bool.false_and]), (Ext.refl w).alloc _⟩
  · have h1' : decide (-1073741824 ≤ f) = false := decide_eq_false h1
    go_enter Tryd.func22, Tryd.ntmps22
    go_wp2_with fail
    go_ret
    exact ⟨ret_bool (by rw [HS.out, h1', Bool.false_and, Bool.false_and]), (Ext.refl w).alloc _⟩

theorem relMay_any (r : Int) (w : World) : Calls Tryd.prog 42 #[.int .i64 r] w fun e w' => e = .returned (.bool (rlB r)) ∧ w = w' := by
  have HS : Hid (rlB r = (decide (1 ≤ r) && decide (r ≤ 13))) := Lib.hid rfl
  by_cases h1 : 1 ≤ r
  · go_enter Tryd.func42, Tryd.ntmps42
    go_wp2_with fail
    go_ret
    exact ⟨ret_bool (by rw [HS.out]; simp [h1]), rfl⟩
  · have h1' : decide (1 ≤ r) = false := decide_eq_false h1
    go_enter Tryd.func42, Tryd.ntmps42
    go_wp2_with fail
    go_ret
    exact ⟨ret_bool (by rw [HS.out, h1', Bool.false_and]), rfl⟩

/-- what Is tells -/
def isE (r af at' bf bt : Int) : Int := if rlB r && spB af at' && spB bf bt then 0 else 1
def isT (r af at' bf bt : Int) : Bool := rlB r && spB af at' && spB bf bt && isB r af at' bf bt

set_option maxHeartbeats 1000000 in
theorem Is_any (r af at' bf bt : Int) (w : World) (hA : AskAt w) :
    Calls Tryd.prog 23 #[.int .i64 r, spV af at', spV bf bt] w fun e w' => e = .returned (.tuple #[.bool (isT r af at' bf bt), .int .i64 (isE r af at' bf bt)]) ∧ Ext w w' := by
  have KR := Lib.hid (fun u => relMay_any r u)
  have KA := Lib.hid (fun u => spanMay_any af at' u)
  have KB := Lib.hid (fun u => spanMay_any bf bt u)
  have HT : Hid (isT r af at' bf bt = (rlB r && spB af at' && spB bf bt && isB r af at' bf bt)) := Lib.hid rfl
  have HE : Hid (isE r af at' bf bt = if rlB r && spB af at' && spB bf bt then 0 else 1) := Lib.hid rfl
  have hx0 := ((Ext.refl w).alloc (.cells #[.int .i64 af, .int .i64 at'] 32)).alloc (.cells #[.int .i64 bf, .int .i64 bt] 32)
  have hx9 := Lib.hid hx0
  cases h1 : rlB r with
  | false =>
    rw [h1] at KR
    go_enter Tryd.func23, Tryd.ntmps23
    go_wp2_with (go_at_call 42; refine (KR.out _).mono ?_; rintro e w1 ⟨rfl, rfl⟩)
    go_ret2
    exact ⟨by rw [HT.out, HE.out, h1]; rfl, hx9.out⟩
  | true =>
    rw [h1] at KR
    have hh : 1 ≤ r ∧ r ≤ 13 := by simpa [rlB] using h1
    obtain ⟨h11, h13⟩ := hh
    have KS := Lib.hid (fun u (hu : AskAt u) => so_any r af at' bf bt u hu h11 h13)
    have q1 : (((w.alloc (.cells #[.int .i64 af, .int .i64 at'] 32)).alloc (.cells #[.int .i64 bf, .int .i64 bt] 32))).cell? ⟨w.heap.size, 0, none⟩ = some (.int .i64 af) := by go_simp
    have q2 : (((w.alloc (.cells #[.int .i64 af, .int .i64 at'] 32)).alloc (.cells #[.int .i64 bf, .int .i64 bt] 32))).cell? ⟨w.heap.size, 1, none⟩ = some (.int .i64 at') := by go_simp
    have q3 : (((w.alloc (.cells #[.int .i64 af, .int .i64 at'] 32)).alloc (.cells #[.int .i64 bf, .int .i64 bt] 32))).cell? ⟨w.heap.size + 1, 0, none⟩ = some (.int .i64 bf) := by go_simp
    have q4 : (((w.alloc (.cells #[.int .i64 af, .int .i64 at'] 32)).alloc (.cells #[.int .i64 bf, .int .i64 bt] 32))).cell? ⟨w.heap.size + 1, 1, none⟩ = some (.int .i64 bt) := by go_simp
    have hA0 := Lib.hid (hA.ext hx0)
    clear hA
    go_enter Tryd.func23, Tryd.ntmps23
    go_upto_region 1 with (fail)
    generalize ((w.alloc (.cells #[.int .i64 af, .int .i64 at'] 32)).alloc (.cells #[.int .i64 bf, .int .i64 bt] 32)) = W0 at *
    cases h2 : spB af at' with
    | false =>
      rw [h2] at KA
      go_wp2_with (go_at_call 42; refine (KR.out _).mono ?_; rintro e w1 ⟨rfl, rfl⟩)
      refine (KA.out _).mono ?_
      rintro e w1 ⟨rfl, hx1⟩
      go_wp2_with fail
      go_ret2
      exact ⟨by rw [HT.out, HE.out, h1, h2]; rfl, hx9.out.trans hx1⟩
    | true =>
      rw [h2] at KA
      go_wp2_with (go_at_call 42; refine (KR.out _).mono ?_; rintro e w1 ⟨rfl, rfl⟩)
      refine (KA.out _).mono ?_
      rintro e w1 ⟨rfl, hx1⟩
      replace q1 := hx1.cell q1
      replace q2 := hx1.cell q2
      replace q3 := hx1.cell q3
      replace q4 := hx1.cell q4
      cases h3 : spB bf bt with
      | false =>
        rw [h3] at KB
        go_wp2_with fail
        refine (KB.out _).mono ?_
        rintro e w2 ⟨rfl, hx2⟩
        go_wp2_with fail
        go_ret2
        exact ⟨by rw [HT.out, HE.out, h1, h2, h3]; rfl, (hx9.out.trans hx1).trans hx2⟩
      | true =>
        rw [h3] at KB
        go_wp2_with fail
        refine (KB.out _).mono ?_
        rintro e w2 ⟨rfl, hx2⟩
        replace q1 := hx2.cell q1
        replace q2 := hx2.cell q2
        replace q3 := hx2.cell q3
        replace q4 := hx2.cell q4
        go_wp2_with fail
        refine (KS.out _ ((hA0.out.ext hx1).ext hx2)).mono ?_
        rintro e w3 ⟨rfl, hx3⟩
        go_wp2_with fail
        go_ret2
        exact ⟨by rw [HT.out, HE.out, h1, h2, h3]; rfl, ((hx9.out.trans hx1).trans hx2).trans hx3⟩
end Go.Proofs.YtgpjfagkjmnpgaaDoor
