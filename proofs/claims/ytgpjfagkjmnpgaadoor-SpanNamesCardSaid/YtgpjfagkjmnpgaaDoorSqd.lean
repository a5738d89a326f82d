/- span.All and almagestref7.All; numbers alike; almagestlaw7's small ones. -/
import Derived.Test.YtgpjfagkjmnpgaaDoorSqp
namespace Go.Proofs.YtgpjfagkjmnpgaaDoor
open Go.RowKit Go.Maps

/-- all relations up to k that are so -/
def allUp (af at' bf bt : Int) : Nat → List Int
  | 0 => []
  | k + 1 => allUp af at' bf bt k ++ if isB ((k : Int) + 1) af at' bf bt then [(k : Int) + 1] else []
def allI (af at' bf bt : Int) : List Int := allUp af at' bf bt 13
theorem allUp_len (af at' bf bt : Int) : ∀ k, (allUp af at' bf bt k).length ≤ k
  | 0 => Nat.le_refl _
  | k + 1 => by
    rw [allUp, List.length_append]
    have := allUp_len af at' bf bt k
    split <;> simp <;> omega

/-- numbers in a row of the call's own -/
def IntsOut (w : World) (ns : List Int) (v : Value) (w' : World) : Prop := w'.ownsRow w.heap.size 3 1 v ns.length (intCells ns) ∧ Ext w w'
def AllOut (w : World) (af at' bf bt : Int) (e : Ending) (w' : World) : Prop :=
  if spB af at' && spB bf bt then ∃ v, e = .returned (.tuple #[v, .int .i64 0]) ∧ IntsOut w (allI af at' bf bt) v w' else e = .returned (.tuple #[.slice none 0 0, .int .i64 1]) ∧ Ext w w'

set_option maxRecDepth 100000 in
set_option maxHeartbeats 2000000 in
theorem All_any (af at' bf bt : Int) (w : World) (hA : AskAt w) :
    Calls Tryd.prog 26 #[spV af at', spV bf bt] w (AllOut w af at' bf bt) := by
  obtain ⟨i0, hi0, hz0, hz1, hz2⟩ := info_parts infoInt
  have KA := Lib.hid (fun u => spanMay_any af at' u)
  have KB := Lib.hid (fun u => spanMay_any bf bt u)
  have HO : Hid (∀ e w', AllOut w af at' bf bt e w' = if spB af at' && spB bf bt then ∃ v, e = .returned (.tuple #[v, .int .i64 0]) ∧ IntsOut w (allI af at' bf bt) v w' else e = .returned (.tuple #[.slice none 0 0, .int .i64 1]) ∧ Ext w w') := Lib.hid fun _ _ => rfl
  have hx0 := ((Ext.refl w).alloc (.cells #[.int .i64 af, .int .i64 at'] 32)).alloc (.cells #[.int .i64 bf, .int .i64 bt] 32)
  have q1 : (((w.alloc (.cells #[.int .i64 af, .int .i64 at'] 32)).alloc (.cells #[.int .i64 bf, .int .i64 bt] 32))).cell? ⟨w.heap.size, 0, none⟩ = some (.int .i64 af) := by go_simp
  have q2 : (((w.alloc (.cells #[.int .i64 af, .int .i64 at'] 32)).alloc (.cells #[.int .i64 bf, .int .i64 bt] 32))).cell? ⟨w.heap.size, 1, none⟩ = some (.int .i64 at') := by go_simp
  have q3 : (((w.alloc (.cells #[.int .i64 af, .int .i64 at'] 32)).alloc (.cells #[.int .i64 bf, .int .i64 bt] 32))).cell? ⟨w.heap.size + 1, 0, none⟩ = some (.int .i64 bf) := by go_simp
  have q4 : (((w.alloc (.cells #[.int .i64 af, .int .i64 at'] 32)).alloc (.cells #[.int .i64 bf, .int .i64 bt] 32))).cell? ⟨w.heap.size + 1, 1, none⟩ = some (.int .i64 bt) := by go_simp
  have hA0 := hA.ext hx0
  have hz := hx0.size
  clear hA
  go_enter Tryd.func26, Tryd.ntmps26
  go_upto_region 1 with (fail)
  generalize ((w.alloc (.cells #[.int .i64 af, .int .i64 at'] 32)).alloc (.cells #[.int .i64 bf, .int .i64 bt] 32)) = W0 at *
  cases h2 : spB af at' with
  | false =>
    rw [h2] at KA
    go_wp2_with fail
    refine (KA.out _).mono ?_
    rintro e w1 ⟨rfl, hx1⟩
    go_wp2_with fail
    go_ret2
    rw [HO.out, h2]
    exact ⟨rfl, hx0.trans hx1⟩
  | true =>
    rw [h2] at KA
    go_wp2_with fail
    refine (KA.out _).mono ?_
    rintro e w1 ⟨rfl, hx1⟩
    replace q1 := hx1.cell q1
    replace q2 := hx1.cell q2
    replace q3 := hx1.cell q3
    replace q4 := hx1.cell q4
    cases h3 : spB bf bt with
    | false =>
      rw [h3] at KB
      go_wp2_with fail
      refine (KB.out _).mono ?_
      rintro e w2 ⟨rfl, hx2⟩
      go_wp2_with fail
      go_ret2
      rw [HO.out, h2, h3]
      exact ⟨rfl, (hx0.trans hx1).trans hx2⟩
    | true =>
      rw [h3] at KB
      go_wp2_with fail
      refine (KB.out _).mono ?_
      rintro e w2 ⟨rfl, hx2⟩
      replace q1 := hx2.cell q1
      replace q2 := hx2.cell q2
      replace q3 := hx2.cell q3
      replace q4 := hx2.cell q4
      have hx02 := (hx0.trans hx1).trans hx2
      have HA := Lib.hid ((hA0.ext hx1).ext hx2)
      have HXX := Lib.hid hx02
      have hszz := hx02.size
      clear hx0 hx1 hx2 hA0 KA KB hz
      go_wp2_with fail
      go_loopw [6, 7] (fun v r wr => ∃ k : Nat, k ≤ 13 ∧ r = .int .i64 ((k : Int) + 1) ∧ wr.ownsRow w2.heap.size 3 1 v (allUp af at' bf bt k).length (intCells (allUp af at' bf bt k)) ∧ Ext w2 wr) (fun _ r _ => 14 - (intOf r).toNat)
      case atStart => exact ⟨0, by omega, rfl, World.ownsRow_nil _ _ _ _, Ext.refl _⟩
      case round =>
        obtain ⟨k, hk, rfl, hown, hx⟩ := hrel
        by_cases hlt : k < 13
        · have p1 := hx.cell q1
          have p2 := hx.cell q2
          have p3 := hx.cell q3
          have p4 := hx.cell q4
          have KS := Lib.hid (so_any ((k : Int) + 1) af at' bf bt wr (HA.out.ext hx) (by omega) (by omega))
          have hle : (k : Int) + 1 ≤ 13 := by omega
          have hlen := allUp_len af at' bf bt k
          have hxs := hx.size
          have HS : Hid (allUp af at' bf bt (k + 1) = allUp af at' bf bt k ++ if isB ((k : Int) + 1) af at' bf bt then [(k : Int) + 1] else []) := Lib.hid rfl
          cases h4 : isB ((k : Int) + 1) af at' bf bt with
          | true =>
            rw [h4] at KS
            have HS2 : Hid (allUp af at' bf bt (k + 1) = allUp af at' bf bt k ++ [(k : Int) + 1]) := Lib.hid (by rw [HS.out, h4]; rfl)
            go_wp2_with fail
            refine KS.out.mono ?_
            rintro e w3 ⟨rfl, hx3⟩
            have hown3 := ownsRow_ext hown hx3
            have hx3s := hx3.size
            obtain ⟨m, hm⟩ : ∃ m : Int, m = (k : Int) + 1 := ⟨_, rfl⟩
            go_wp2_with (at_builtin; refine wpList_app _ rfl _ _ 23 rfl w2.heap.size 3 i0 _ 1 8 Tryd.underlying23 hi0 hz0 hz1 hz2 rfl (by decide) _ _ (intCells (allUp af at' bf bt k)) rfl (hown3.alloc _) (some ⟨w3.heap.size, 0, none⟩) 1 1 [.int .i64 ((k : Int) + 1)] rfl (Src.box w3 #[.int .i64 ((k : Int) + 1)] 3 1 rfl) ?c2 ?c3 ?c4 ?c5 ?_)
            case c2 => intro u hu; simp at hu; subst hu; rfl
            case c3 => simp only [maxLen]; omega
            case c4 => omega
            case c5 => simp; omega
            intro v' w4 hown4 hgrow _
            have hx4 : Ext w2 w4 := Below.grown ((hx.trans hx3).alloc _) hgrow (by simp; omega) (fun b hb => (hown3.lt b hb).1)
            have hown5 : w4.ownsRow w2.heap.size 3 1 v' (allUp af at' bf bt (k + 1)).length (intCells (allUp af at' bf bt (k + 1))) := by rw [HS2.out, intCells_snoc, List.length_append]; exact hown4
            clear hown4 hgrow hown hown3 KS HS hm
            go_wp2_with fail
            go_roundw
            case rel => exact ⟨k + 1, by omega, by go_num, hown5, hx4⟩
            case measure => simp [intOf]; omega
          | false =>
            rw [h4] at KS
            have HS2 : Hid (allUp af at' bf bt (k + 1) = allUp af at' bf bt k) := Lib.hid (by rw [HS.out, h4]; exact List.append_nil _)
            go_wp2_with fail
            refine KS.out.mono ?_
            rintro e w3 ⟨rfl, hx3⟩
            have hown3 := ownsRow_ext hown hx3
            go_wp2_with fail
            go_roundw
            case rel => exact ⟨k + 1, by omega, by go_num, by rw [HS2.out]; exact hown3, hx.trans hx3⟩
            case measure => simp [intOf]; omega
        · have e : k = 13 := by omega
          subst e
          go_wp2_with fail
          go_ret2
          rw [HO.out, h2, h3]
          exact ⟨_, rfl, ownsRow_base hown hszz, HXX.out.trans hx⟩
end Go.Proofs.YtgpjfagkjmnpgaaDoor
