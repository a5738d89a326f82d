/- almagestref7.All, Rel; numbers alike. -/
import Derived.Test.YtjldokhomohdbaaDoorWvq
namespace Go.Proofs.YtjldokhomohdbaaDoor
open Go.RowKit Go.Maps

/-- all relations up to k that are so -/
def allUp (af at' bf bt : Int) : Nat → List Int
  | 0 => []
  | k + 1 => allUp af at' bf bt k ++ if isB ((k : Int) + 1) af at' bf bt then [(k : Int) + 1] else []
def allI (af at' bf bt : Int) : List Int := allUp af at' bf bt 13
theorem allUp_len (af at' bf bt : Int) : ∀ k, (allUp af at' bf bt k).length ≤ k
  | 0 => Nat.le_refl _
  | k + 1 => by
    rw [allUp, List.length_append]
    have := allUp_len af at' bf bt k
    split <;> simp <;> omega

/-- numbers in a row of the call's own -/
def IntsOut (w : World) (ns : List Int) (v : Value) (w' : World) : Prop := w'.ownsRow w.heap.size 3 1 v ns.length (intCells ns) ∧ Ext w w'
theorem between_any (r : Int) (w : World) : Calls Tryd.prog 23 #[.int .i64 r, .int .i64 1, .int .i64 13] w fun e w' => e = .returned (.bool (rlB r)) ∧ w' = w := by
  have HS : Hid (rlB r = (decide (1 ≤ r) && decide (r ≤ 13))) := Lib.hid rfl
  by_cases h1 : 1 ≤ r
  · go_enter Tryd.func23, Tryd.ntmps23
    go_wp2_with fail
    go_ret
    exact ⟨ret_bool (by rw [HS.out]; simp [h1]), rfl⟩
  · have h1' : decide (1 ≤ r) = false := decide_eq_false h1
    go_enter Tryd.func23, Tryd.ntmps23
    go_wp2_with fail
    go_ret
    exact ⟨ret_bool (by rw [HS.out, h1', Bool.false_and]), rfl⟩
theorem rRel_any (r : Int) (w : World) : Calls Tryd.prog 9 #[.int .i64 r] w fun e w' => e = .returned (.bool (rlB r)) ∧ w' = w := by
  have KB := Lib.hid (between_any r w)
  go_enter Tryd.func9, Tryd.ntmps9
  go_wp2_with fail
  refine KB.out.mono ?_
  rintro e w1 ⟨rfl, rfl⟩
  go_wp2_with fail
  go_ret
  exact ⟨rfl, rfl⟩

set_option maxHeartbeats 1000000 in
theorem eqInts_any (a b : List Int) (A B : Option Addr) (c d : Nat) (w : World) (hl : a.length ≤ 1000000) (ha : IntsAt w a A) (hb : IntsAt w b B) :
    Calls Tryd.prog 15 #[.slice A a.length c, .slice B b.length d] w fun e w' => e = .returned (.bool (a == b)) ∧ Ext w w' := by
  by_cases hlen : a.length = b.length
  · have hne : ((a.length : Int) != (b.length : Int)) = false := by simp [hlen]
    have HL := Lib.hid hlen
    have H0 : Hid ((a.drop 0 == b.drop 0) = (a == b)) := Lib.hid rfl
    clear hlen
    go_enter Tryd.func15, Tryd.ntmps15
    go_wp2_with fail
    go_loopw [5] (fun i wr => ∃ (k : Nat), k ≤ a.length ∧ i = .int .i64 k ∧ Hid ((a.drop k == b.drop k) = (a == b)) ∧ Ext w wr) (fun i _ => a.length - (intOf i).toNat)
    case atStart => exact ⟨0, Nat.zero_le _, rfl, H0, Ext.refl _⟩
    case round =>
      obtain ⟨k, hk, rfl, H, hx⟩ := hrel
      by_cases hlt : k < a.length
      · have hlt2 : k < b.length := by have := HL.out; omega
        obtain ⟨g, o, rfl, c0⟩ := (ha.ext hx) k hlt
        obtain ⟨g', o', rfl, c1⟩ := (hb.ext hx) k hlt2
        have H2 : Hid ((a[k] == b[k] && a.drop (k + 1) == b.drop (k + 1)) = (a == b)) := by
          have := H.out
          rw [List.drop_eq_getElem_cons hlt, List.drop_eq_getElem_cons hlt2, List.cons_beq_cons] at this
          exact Lib.hid this
        have i0 : (0 : Int) ≤ (k : Int) := Int.natCast_nonneg _
        have i1 : (k : Int) < (a.length : Int) := by omega
        have i2 : (k : Int) < (b.length : Int) := by omega
        obtain ⟨x, hxx⟩ : ∃ x, x = a[k] := ⟨_, rfl⟩
        obtain ⟨y, hyy⟩ : ∃ y, y = b[k] := ⟨_, rfl⟩
        rw [← hxx] at H2 c0
        rw [← hyy] at H2 c1
        clear H hxx hyy
        by_cases hxy : x = y
        · have hq : (x != y) = false := by simp [hxy]
          have H3 : Hid ((a.drop (k + 1) == b.drop (k + 1)) = (a == b)) := Lib.hid (by rw [← H2.out, hxy]; simp)
          clear H2 hxy
          go_wp2_with fail
          go_quiet (fail)
          go_wp2_with fail
          go_roundw
          case rel => exact ⟨k + 1, by omega, by go_num, H3, hx.drewN _⟩
          case measure => simp [intOf]; omega
        · have hq : (x != y) = true := by simp [hxy]
          have H3 : Hid (false = (a == b)) := Lib.hid (by rw [← H2.out]; simp [hxy])
          clear H2 hxy
          go_wp2_with fail
          go_quiet (fail)
          go_wp2_with fail
          go_ret
          exact ⟨ret_bool H3.out, hx.drewN _⟩
      · have H3 : Hid (true = (a == b)) := by
          have := H.out
          have := HL.out
          rw [← H.out, List.drop_eq_nil_of_le (by omega), List.drop_eq_nil_of_le (by omega)]
          exact Lib.hid rfl
        clear H
        go_wp2_with fail
        go_ret
        exact ⟨ret_bool H3.out, hx⟩
  · have hne : ((a.length : Int) != (b.length : Int)) = true := by simp; omega
    have H3 : Hid (false = (a == b)) := Lib.hid (by
      symm; rw [beq_eq_false_iff_ne]; intro h; exact hlen (by rw [h]))
    go_enter Tryd.func15, Tryd.ntmps15
    go_wp2_with fail
    go_ret
    exact ⟨ret_bool H3.out, Ext.refl _⟩

def RAllOut (w : World) (af at' bf bt : Int) (e : Ending) (w' : World) : Prop := ∃ v, e = .returned v ∧ IntsOut w (allI af at' bf bt) v w'
set_option maxRecDepth 100000 in
set_option maxHeartbeats 2000000 in
theorem rAll_any (af at' bf bt : Int) (w : World) :
    Calls Tryd.prog 41 #[spV af at', spV bf bt] w (RAllOut w af at' bf bt) := by
  obtain ⟨i0, hi0, hz0, hz1, hz2⟩ := info_parts infoInt
  obtain ⟨w2, hw2⟩ : ∃ w2, w2 = ((w.alloc (.cells #[.int .i64 af, .int .i64 at'] 52)).alloc (.cells #[.int .i64 bf, .int .i64 bt] 52)) := ⟨_, rfl⟩
  have hx02 : Ext w w2 := by rw [hw2]; exact ((Ext.refl w).alloc _).alloc _
  have q1 : w2.cell? ⟨w.heap.size, 0, none⟩ = some (.int .i64 af) := by rw [hw2]; go_simp
  have q2 : w2.cell? ⟨w.heap.size, 1, none⟩ = some (.int .i64 at') := by rw [hw2]; go_simp
  have q3 : w2.cell? ⟨w.heap.size + 1, 0, none⟩ = some (.int .i64 bf) := by rw [hw2]; go_simp
  have q4 : w2.cell? ⟨w.heap.size + 1, 1, none⟩ = some (.int .i64 bt) := by rw [hw2]; go_simp
  have HW := Lib.hid hw2
  have hszz := hx02.size
  have HXX := Lib.hid hx02
  clear hw2 hx02
  go_enter Tryd.func41, Tryd.ntmps41
  go_upto_region 1 with (fail)
  rw [← HW.out]
  go_wp2_with fail
  go_loopw [5, 6] (fun v r wr => ∃ k : Nat, k ≤ 13 ∧ r = .int .i64 ((k : Int) + 1) ∧ wr.ownsRow w2.heap.size 3 1 v (allUp af at' bf bt k).length (intCells (allUp af at' bf bt k)) ∧ Ext w2 wr) (fun _ r _ => 14 - (intOf r).toNat)
  case atStart => exact ⟨0, by omega, rfl, World.ownsRow_nil _ _ _ _, Ext.refl _⟩
  case round =>
    obtain ⟨k, hk, rfl, hown, hx⟩ := hrel
    by_cases hlt : k < 13
    · have p1 := hx.cell q1
      have p2 := hx.cell q2
      have p3 := hx.cell q3
      have p4 := hx.cell q4
      have KS := Lib.hid (rIs_any ((k : Int) + 1) af at' bf bt wr (by omega) (by omega))
      have hle : (k : Int) + 1 ≤ 13 := by omega
      have hlen := allUp_len af at' bf bt k
      have hxs := hx.size
      have HS : Hid (allUp af at' bf bt (k + 1) = allUp af at' bf bt k ++ if isB ((k : Int) + 1) af at' bf bt then [(k : Int) + 1] else []) := Lib.hid rfl
      cases h4 : isB ((k : Int) + 1) af at' bf bt with
      | true =>
        rw [h4] at KS
        have HS2 : Hid (allUp af at' bf bt (k + 1) = allUp af at' bf bt k ++ [(k : Int) + 1]) := Lib.hid (by rw [HS.out, h4]; rfl)
        go_wp2_with fail
        refine KS.out.mono ?_
        rintro e w3 ⟨rfl, hx3⟩
        have hown3 := ownsRow_ext hown hx3
        have hx3s := hx3.size
        go_wp2_with (at_builtin; refine wpList_app _ rfl _ _ 22 rfl w2.heap.size 3 i0 _ 1 8 Tryd.underlying22 hi0 hz0 hz1 hz2 rfl (by decide) _ _ (intCells (allUp af at' bf bt k)) rfl (hown3.alloc _) (some ⟨w3.heap.size, 0, none⟩) 1 1 [.int .i64 ((k : Int) + 1)] rfl (Src.box w3 #[.int .i64 ((k : Int) + 1)] 3 1 rfl) ?c2 ?c3 ?c4 ?c5 ?_)
        case c2 => intro u hu; simp at hu; subst hu; rfl
        case c3 => simp only [maxLen]; omega
        case c4 => omega
        case c5 => simp; omega
        intro v' w4 hown4 hgrow _
        have hx4 : Ext w2 w4 := Below.grown ((hx.trans hx3).alloc _) hgrow (by simp; omega) (fun b hb => (hown3.lt b hb).1)
        have hown5 : w4.ownsRow w2.heap.size 3 1 v' (allUp af at' bf bt (k + 1)).length (intCells (allUp af at' bf bt (k + 1))) := by rw [HS2.out, intCells_snoc, List.length_append]; exact hown4
        clear hown4 hgrow hown hown3 KS HS
        go_wp2_with fail
        go_roundw
        case rel => exact ⟨k + 1, by omega, by go_num, hown5, hx4⟩
        case measure => simp [intOf]; omega
      | false =>
        rw [h4] at KS
        have HS2 : Hid (allUp af at' bf bt (k + 1) = allUp af at' bf bt k) := Lib.hid (by rw [HS.out, h4]; exact List.append_nil _)
        go_wp2_with fail
        refine KS.out.mono ?_
        rintro e w3 ⟨rfl, hx3⟩
        have hown3 := ownsRow_ext hown hx3
        go_wp2_with fail
        go_roundw
        case rel => exact ⟨k + 1, by omega, by go_num, by rw [HS2.out]; exact hown3, hx.trans hx3⟩
        case measure => simp [intOf]; omega
    · have e : k = 13 := by omega
      subst e
      go_wp2_with fail
      go_ret
      exact ⟨_, rfl, ownsRow_base hown hszz, HXX.out.trans hx⟩
end Go.Proofs.YtjldokhomohdbaaDoor
