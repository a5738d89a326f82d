/- span.Check, Hull; almagestref7's Rel, All, Hull. -/
import Derived.Test.YtgpjfagkjmnpgaaDoorSqe
namespace Go.Proofs.YtgpjfagkjmnpgaaDoor
open Go.RowKit Go.Maps

def chkE (f t : Int) : Int := if spB f t then 0 else 1
theorem Check_any (f t : Int) (w : World) : Calls Tryd.prog 21 #[spV f t] w fun e w' => e = .returned (.int .i64 (chkE f t)) ∧ Ext w w' := by
  have KA := Lib.hid (fun u => spanMay_any f t u)
  have HE : Hid (chkE f t = if spB f t then 0 else 1) := Lib.hid rfl
  cases h : spB f t with
  | true =>
    rw [h] at KA
    go_enter Tryd.func21, Tryd.ntmps21
    go_wp2_with fail
    refine (KA.out _).mono ?_
    rintro e w1 ⟨rfl, hx⟩
    go_wp2_with fail
    go_ret
    exact ⟨ret_int (by rw [HE.out, h]; rfl), ((Ext.refl w).alloc _).trans hx⟩
  | false =>
    rw [h] at KA
    go_enter Tryd.func21, Tryd.ntmps21
    go_wp2_with fail
    refine (KA.out _).mono ?_
    rintro e w1 ⟨rfl, hx⟩
    go_wp2_with fail
    go_ret
    exact ⟨ret_int (by rw [HE.out, h]; rfl), ((Ext.refl w).alloc _).trans hx⟩

theorem between_any (r : Int) (w : World) : Calls Tryd.prog 44 #[.int .i64 r, .int .i64 1, .int .i64 13] w fun e w' => e = .returned (.bool (rlB r)) ∧ w' = w := by
  have HS : Hid (rlB r = (decide (1 ≤ r) && decide (r ≤ 13))) := Lib.hid rfl
  by_cases h1 : 1 ≤ r
  · go_enter Tryd.func44, Tryd.ntmps44
    go_wp2_with fail
    go_ret
    exact ⟨ret_bool (by rw [HS.out]; simp [h1]), rfl⟩
  · have h1' : decide (1 ≤ r) = false := decide_eq_false h1
    go_enter Tryd.func44, Tryd.ntmps44
    go_wp2_with fail
    go_ret
    exact ⟨ret_bool (by rw [HS.out, h1', Bool.false_and]), rfl⟩
theorem rRel_any (r : Int) (w : World) : Calls Tryd.prog 24 #[.int .i64 r] w fun e w' => e = .returned (.bool (rlB r)) ∧ w' = w := by
  have KB := Lib.hid (between_any r w)
  go_enter Tryd.func24, Tryd.ntmps24
  go_wp2_with fail
  refine KB.out.mono ?_
  rintro e w1 ⟨rfl, rfl⟩
  go_wp2_with fail
  go_ret
  exact ⟨rfl, rfl⟩

def mnI (a b : Int) : Int := if b < a then b else a
def mxI (a b : Int) : Int := if a < b then b else a
theorem mn_cases (a b : Int) : (b < a ∧ mnI a b = b) ∨ (¬ b < a ∧ mnI a b = a) := by unfold mnI; split <;> simp_all
theorem mx_cases (a b : Int) : (a < b ∧ mxI a b = b) ∨ (¬ a < b ∧ mxI a b = a) := by unfold mxI; split <;> simp_all
theorem rHull_any (af at' bf bt : Int) (w : World) : Calls Tryd.prog 29 #[spV af at', spV bf bt] w fun e w' => e = .returned (spV (mnI af bf) (mxI at' bt)) ∧ Ext w w' := by
  rcases mn_cases af bf with ⟨h1, h1'⟩ | ⟨h1, h1'⟩ <;> rcases mx_cases at' bt with ⟨h2, h2'⟩ | ⟨h2, h2'⟩
  all_goals
    rw [h1', h2']
    clear h1' h2'
    go_enter Tryd.func29, Tryd.ntmps29
    go_wp2_with fail
  · refine bodyPost_ret (v := spV bf bt) (by simp [results, Tryd.results29, go_sem, *]) rfl ?_
    exact ⟨rfl, (((Ext.refl w).alloc _).alloc _).alloc _⟩
  · refine bodyPost_ret (v := spV bf at') (by simp [results, Tryd.results29, go_sem, *]) rfl ?_
    exact ⟨rfl, (((Ext.refl w).alloc _).alloc _).alloc _⟩
  · refine bodyPost_ret (v := spV af bt) (by simp [results, Tryd.results29, go_sem, *]) rfl ?_
    exact ⟨rfl, (((Ext.refl w).alloc _).alloc _).alloc _⟩
  · refine bodyPost_ret (v := spV af at') (by simp [results, Tryd.results29, go_sem, *]) rfl ?_
    exact ⟨rfl, (((Ext.refl w).alloc _).alloc _).alloc _⟩

/-- what Hull tells -/
def hullOut (af at' bf bt : Int) : Value := if spB af at' && spB bf bt then .tuple #[spV (mnI af bf) (mxI at' bt), .int .i64 0] else .tuple #[spV 0 0, .int .i64 1]
theorem Hull_any (af at' bf bt : Int) (w : World) : Calls Tryd.prog 27 #[spV af at', spV bf bt] w fun e w' => e = .returned (hullOut af at' bf bt) ∧ Ext w w' := by
  have KA := Lib.hid (fun u => spanMay_any af at' u)
  have KB := Lib.hid (fun u => spanMay_any bf bt u)
  have HO : Hid (hullOut af at' bf bt = if spB af at' && spB bf bt then .tuple #[spV (mnI af bf) (mxI at' bt), .int .i64 0] else .tuple #[spV 0 0, .int .i64 1]) := Lib.hid rfl
  obtain ⟨W0, hW0⟩ : ∃ W0, W0 = ((w.alloc (.cells #[.int .i64 af, .int .i64 at'] 32)).alloc (.cells #[.int .i64 bf, .int .i64 bt] 32)).alloc (.cells #[.int .i64 0, .int .i64 0] 32) := ⟨_, rfl⟩
  have hx0 : Ext w W0 := by rw [hW0]; exact (((Ext.refl w).alloc _).alloc _).alloc _
  have q1 : W0.cell? ⟨w.heap.size, 0, none⟩ = some (.int .i64 af) := by rw [hW0]; go_simp
  have q2 : W0.cell? ⟨w.heap.size, 1, none⟩ = some (.int .i64 at') := by rw [hW0]; go_simp
  have q3 : W0.cell? ⟨w.heap.size + 1, 0, none⟩ = some (.int .i64 bf) := by rw [hW0]; go_simp
  have q4 : W0.cell? ⟨w.heap.size + 1, 1, none⟩ = some (.int .i64 bt) := by rw [hW0]; go_simp
  have q5 : W0.cell? ⟨w.heap.size + 1 + 1, 0, none⟩ = some (.int .i64 0) := by rw [hW0]; go_simp
  have q6 : W0.cell? ⟨w.heap.size + 1 + 1, 1, none⟩ = some (.int .i64 0) := by rw [hW0]; go_simp
  have q7 : W0.frozen? ⟨w.heap.size + 1 + 1, 0, none⟩ = false := by rw [hW0]; go_simp
  have q8 : W0.frozen? ⟨w.heap.size + 1 + 1, 1, none⟩ = false := by rw [hW0]; go_simp
  have HW := Lib.hid hW0
  clear hW0
  have hlt := World.block_lt_of_cell? W0 _ q5
  have KF : Hid (∀ u, Ext W0 u → (u.cell? ⟨w.heap.size, 0, none⟩ = some (.int .i64 af) ∧ u.cell? ⟨w.heap.size, 1, none⟩ = some (.int .i64 at') ∧ u.cell? ⟨w.heap.size + 1, 0, none⟩ = some (.int .i64 bf) ∧ u.cell? ⟨w.heap.size + 1, 1, none⟩ = some (.int .i64 bt)) ∧
      u.cell? ⟨w.heap.size + 1 + 1, 0, none⟩ = some (.int .i64 0) ∧ u.cell? ⟨w.heap.size + 1 + 1, 1, none⟩ = some (.int .i64 0) ∧ u.frozen? ⟨w.heap.size + 1 + 1, 0, none⟩ = false ∧ u.frozen? ⟨w.heap.size + 1 + 1, 1, none⟩ = false) := Lib.hid fun u k =>
    ⟨⟨k.cell q1, k.cell q2, k.cell q3, k.cell q4⟩, k.cell q5, k.cell q6, (World.frozen?_of_block (w := W0) (k.block _ hlt)).trans q7, (World.frozen?_of_block (w := W0) (a := ⟨w.heap.size + 1 + 1, 1, none⟩) (k.block _ hlt)).trans q8⟩
  clear q3 q4 q5 q6 q7 q8 hlt
  go_enter Tryd.func27, Tryd.ntmps27
  go_upto_region 1 with (fail)
  rw [← HW.out]
  cases h2 : spB af at' with
  | false =>
    have HO2 : Hid (.tuple #[spV 0 0, .int .i64 1] = hullOut af at' bf bt) := Lib.hid (by rw [HO.out, h2]; rfl)
    rw [h2] at KA
    go_wp2_with fail
    refine (KA.out _).mono ?_
    rintro e w1 ⟨rfl, hx1⟩
    obtain ⟨-, p5, p6, p7, p8⟩ := KF.out w1 hx1
    have hxx := hx0.trans hx1
    clear q1 q2 hx0 hx1 KA KB
    go_wp2_with fail
    refine bodyPost_ret (v := .tuple #[spV 0 0, .int .i64 1]) (by simp [results, Tryd.results27, go_sem, *]) rfl ?_
    exact ⟨by rw [HO2.out], (hxx.setCell (by show w.heap.size ≤ w.heap.size + 1 + 1; omega) _).setCell (by show w.heap.size ≤ w.heap.size + 1 + 1; omega) _⟩
  | true =>
    rw [h2] at KA
    go_wp2_with fail
    refine (KA.out _).mono ?_
    rintro e w1 ⟨rfl, hx1⟩
    obtain ⟨⟨-, -, p3, p4⟩, -⟩ := KF.out w1 hx1
    clear q1 q2
    cases h3 : spB bf bt with
    | false =>
      have HO2 : Hid (.tuple #[spV 0 0, .int .i64 1] = hullOut af at' bf bt) := Lib.hid (by rw [HO.out, h2, h3]; rfl)
      rw [h3] at KB
      go_wp2_with fail
      refine (KB.out _).mono ?_
      rintro e w2 ⟨rfl, hx2⟩
      obtain ⟨-, p5, p6, p7, p8⟩ := KF.out w2 (hx1.trans hx2)
      have hxx := (hx0.trans hx1).trans hx2
      clear p3 p4 hx0 hx1 hx2 KA KB
      go_wp2_with fail
      refine bodyPost_ret (v := .tuple #[spV 0 0, .int .i64 1]) (by simp [results, Tryd.results27, go_sem, *]) rfl ?_
      exact ⟨by rw [HO2.out], (hxx.setCell (by show w.heap.size ≤ w.heap.size + 1 + 1; omega) _).setCell (by show w.heap.size ≤ w.heap.size + 1 + 1; omega) _⟩
    | true =>
      have HO2 : Hid (.tuple #[spV (mnI af bf) (mxI at' bt), .int .i64 0] = hullOut af at' bf bt) := Lib.hid (by rw [HO.out, h2, h3]; rfl)
      rw [h3] at KB
      go_wp2_with fail
      refine (KB.out _).mono ?_
      rintro e w2 ⟨rfl, hx2⟩
      obtain ⟨⟨n1, n2, n3, n4⟩, p5, p6, p7, p8⟩ := KF.out w2 (hx1.trans hx2)
      have hxx := (hx0.trans hx1).trans hx2
      clear p3 p4 hx0 hx1 hx2 KA KB
      rcases mn_cases af bf with ⟨g1, g1'⟩ | ⟨g1, g1'⟩ <;> rcases mx_cases at' bt with ⟨g2, g2'⟩ | ⟨g2, g2'⟩
      all_goals
        rw [g1', g2'] at HO2
        clear g1' g2'
        go_wp2_with fail
      · refine bodyPost_ret (v := .tuple #[spV bf bt, .int .i64 0]) (by simp [results, Tryd.results27, go_sem, *]) rfl ?_
        exact ⟨by rw [HO2.out], (hxx.setCell (by show w.heap.size ≤ w.heap.size + 1 + 1; omega) _).setCell (by show w.heap.size ≤ w.heap.size + 1 + 1; omega) _⟩
      · refine bodyPost_ret (v := .tuple #[spV bf at', .int .i64 0]) (by simp [results, Tryd.results27, go_sem, *]) rfl ?_
        exact ⟨by rw [HO2.out], (hxx.setCell (by show w.heap.size ≤ w.heap.size + 1 + 1; omega) _).setCell (by show w.heap.size ≤ w.heap.size + 1 + 1; omega) _⟩
      · refine bodyPost_ret (v := .tuple #[spV af bt, .int .i64 0]) (by simp [results, Tryd.results27, go_sem, *]) rfl ?_
        exact ⟨by rw [HO2.out], (hxx.setCell (by show w.heap.size ≤ w.heap.size + 1 + 1; omega) _).setCell (by show w.heap.size ≤ w.heap.size + 1 + 1; omega) _⟩
      · refine bodyPost_ret (v := .tuple #[spV af at', .int .i64 0]) (by simp [results, Tryd.results27, go_sem, *]) rfl ?_
        exact ⟨by rw [HO2.out], (hxx.setCell (by show w.heap.size ≤ w.heap.size + 1 + 1; omega) _).setCell (by show w.heap.size ≤ w.heap.size + 1 + 1; omega) _⟩
def RAllOut (w : World) (af at' bf bt : Int) (e : Ending) (w' : World) : Prop := ∃ v, e = .returned v ∧ IntsOut w (allI af at' bf bt) v w'
set_option maxRecDepth 100000 in
set_option maxHeartbeats 2000000 in
theorem rAll_any (af at' bf bt : Int) (w : World) :
    Calls Tryd.prog 28 #[spV af at', spV bf bt] w (RAllOut w af at' bf bt) := by
  obtain ⟨i0, hi0, hz0, hz1, hz2⟩ := info_parts infoInt
  obtain ⟨w2, hw2⟩ : ∃ w2, w2 = ((w.alloc (.cells #[.int .i64 af, .int .i64 at'] 32)).alloc (.cells #[.int .i64 bf, .int .i64 bt] 32)) := ⟨_, rfl⟩
  have hx02 : Ext w w2 := by rw [hw2]; exact ((Ext.refl w).alloc _).alloc _
  have q1 : w2.cell? ⟨w.heap.size, 0, none⟩ = some (.int .i64 af) := by rw [hw2]; go_simp
  have q2 : w2.cell? ⟨w.heap.size, 1, none⟩ = some (.int .i64 at') := by rw [hw2]; go_simp
  have q3 : w2.cell? ⟨w.heap.size + 1, 0, none⟩ = some (.int .i64 bf) := by rw [hw2]; go_simp
  have q4 : w2.cell? ⟨w.heap.size + 1, 1, none⟩ = some (.int .i64 bt) := by rw [hw2]; go_simp
  have HW := Lib.hid hw2
  have hszz := hx02.size
  have HXX := Lib.hid hx02
  clear hw2 hx02
  go_enter Tryd.func28, Tryd.ntmps28
  go_upto_region 1 with (fail)
  rw [← HW.out]
  go_wp2_with fail
  go_loopw [5, 6] (fun v r wr => ∃ k : Nat, k ≤ 13 ∧ r = .int .i64 ((k : Int) + 1) ∧ wr.ownsRow w2.heap.size 3 1 v (allUp af at' bf bt k).length (intCells (allUp af at' bf bt k)) ∧ Ext w2 wr) (fun _ r _ => 14 - (intOf r).toNat)
  case atStart => exact ⟨0, by omega, rfl, World.ownsRow_nil _ _ _ _, Ext.refl _⟩
  case round =>
    obtain ⟨k, hk, rfl, hown, hx⟩ := hrel
    by_cases hlt : k < 13
    · have p1 := hx.cell q1
      have p2 := hx.cell q2
      have p3 := hx.cell q3
      have p4 := hx.cell q4
      have KS := Lib.hid (rIs_any ((k : Int) + 1) af at' bf bt wr (by omega) (by omega))
      have hle : (k : Int) + 1 ≤ 13 := by omega
      have hlen := allUp_len af at' bf bt k
      have hxs := hx.size
      have HS : Hid (allUp af at' bf bt (k + 1) = allUp af at' bf bt k ++ if isB ((k : Int) + 1) af at' bf bt then [(k : Int) + 1] else []) := Lib.hid rfl
      cases h4 : isB ((k : Int) + 1) af at' bf bt with
      | true =>
        rw [h4] at KS
        have HS2 : Hid (allUp af at' bf bt (k + 1) = allUp af at' bf bt k ++ [(k : Int) + 1]) := Lib.hid (by rw [HS.out, h4]; rfl)
        go_wp2_with fail
        refine KS.out.mono ?_
        rintro e w3 ⟨rfl, hx3⟩
        have hown3 := ownsRow_ext hown hx3
        have hx3s := hx3.size
        go_wp2_with (at_builtin; refine wpList_app _ rfl _ _ 23 rfl w2.heap.size 3 i0 _ 1 8 Tryd.underlying23 hi0 hz0 hz1 hz2 rfl (by decide) _ _ (intCells (allUp af at' bf bt k)) rfl (hown3.alloc _) (some ⟨w3.heap.size, 0, none⟩) 1 1 [.int .i64 ((k : Int) + 1)] rfl (Src.box w3 #[.int .i64 ((k : Int) + 1)] 3 1 rfl) ?c2 ?c3 ?c4 ?c5 ?_)
        case c2 => intro u hu; simp at hu; subst hu; rfl
        case c3 => simp only [maxLen]; omega
        case c4 => omega
        case c5 => simp; omega
        intro v' w4 hown4 hgrow _
        have hx4 : Ext w2 w4 := Below.grown ((hx.trans hx3).alloc _) hgrow (by simp; omega) (fun b hb => (hown3.lt b hb).1)
        have hown5 : w4.ownsRow w2.heap.size 3 1 v' (allUp af at' bf bt (k + 1)).length (intCells (allUp af at' bf bt (k + 1))) := by rw [HS2.out, intCells_snoc, List.length_append]; exact hown4
        clear hown4 hgrow hown hown3 KS HS
        go_wp2_with fail
        go_roundw
        case rel => exact ⟨k + 1, by omega, by go_num, hown5, hx4⟩
        case measure => simp [intOf]; omega
      | false =>
        rw [h4] at KS
        have HS2 : Hid (allUp af at' bf bt (k + 1) = allUp af at' bf bt k) := Lib.hid (by rw [HS.out, h4]; exact List.append_nil _)
        go_wp2_with fail
        refine KS.out.mono ?_
        rintro e w3 ⟨rfl, hx3⟩
        have hown3 := ownsRow_ext hown hx3
        go_wp2_with fail
        go_roundw
        case rel => exact ⟨k + 1, by omega, by go_num, by rw [HS2.out]; exact hown3, hx.trans hx3⟩
        case measure => simp [intOf]; omega
    · have e : k = 13 := by omega
      subst e
      go_wp2_with fail
      go_ret
      exact ⟨_, rfl, ownsRow_base hown hszz, HXX.out.trans hx⟩
end Go.Proofs.YtgpjfagkjmnpgaaDoor
