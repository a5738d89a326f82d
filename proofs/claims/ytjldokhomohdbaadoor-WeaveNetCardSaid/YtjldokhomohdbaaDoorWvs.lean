/- weave.Set, List, Turn; almagestref7.TurnSet. -/
import Derived.Test.YtjldokhomohdbaaDoorWvt
namespace Go.Proofs.YtjldokhomohdbaaDoor
open Go.RowKit Go.Maps

/-- the set of those in a row that are relations -/
def orR (l : List Int) : Nat := l.foldl (fun x r => if rlB r then x ||| 2 ^ (r - 1).toNat else x) 0
def allR (l : List Int) : Bool := l.all rlB
theorem orR_snoc (l : List Int) (r : Int) : orR (l ++ [r]) = if rlB r then orR l ||| 2 ^ (r - 1).toNat else orR l := by simp [orR]
theorem allR_snoc (l : List Int) (r : Int) : allR (l ++ [r]) = (allR l && rlB r) := by simp [allR]
theorem rl_nat {r : Int} (h : rlB r = true) : ∃ k : Nat, k < 13 ∧ r = (k : Int) + 1 := by
  have : 1 ≤ r ∧ r ≤ 13 := by simpa [rlB] using h
  exact ⟨(r - 1).toNat, by omega, by omega⟩
theorem orR_lt : ∀ (l : List Int) (k : Nat), orR (l.take k) < 8192
  | l, 0 => Nat.zero_lt_succ _
  | l, k + 1 => by
    by_cases h : k < l.length
    · rw [List.take_succ_eq_append_getElem h, orR_snoc]
      split
      · rename_i hr
        obtain ⟨q, hq, e⟩ := rl_nat hr
        exact or_lt (orR_lt l k) (by rw [e, show ((q : Int) + 1 - 1).toNat = q by omega]; exact two_lt hq)
      · exact orR_lt l k
    · have := orR_lt l k
      rw [List.take_of_length_le (by omega)] at this ⊢
      exact this
theorem allR_take {l : List Int} (h : allR l = true) (k : Nat) : allR (l.take k) = true := by
  unfold allR at *
  rw [List.all_eq_true] at *
  exact fun x hx => h x (List.mem_of_mem_take hx)
theorem allR_false {l : List Int} {k : Nat} (h : k < l.length) (hr : rlB l[k] = false) : allR l = false := by
  unfold allR
  rw [List.all_eq_false]
  exact ⟨l[k], List.getElem_mem h, by rw [hr]; simp⟩
def setE (l : List Int) : Int := if allR l then 0 else 1
def setV (l : List Int) : Int := if allR l then (orR l : Int) else 0

set_option maxHeartbeats 2000000 in
theorem Set_any (l : List Int) (A : Option Addr) (c : Nat) (w : World) (hl : l.length ≤ 1000000) (hI : IntsAt w l A) :
    Calls Tryd.prog 8 #[.slice A l.length c] w fun e w' => e = .returned (.tuple #[.int .i64 (setV l), .int .i64 (setE l)]) ∧ w' = w := by
  have HV : Hid (setV l = if allR l then (orR l : Int) else 0) := Lib.hid rfl
  have HE : Hid (setE l = if allR l then 0 else 1) := Lib.hid rfl
  go_enter Tryd.func8, Tryd.ntmps8
  go_wp2_with fail
  go_loop [4, 9] (fun x i => ∃ k : Nat, k ≤ l.length ∧ i = .int .i64 k ∧ x = .int .u16 (orR (l.take k) : Int) ∧ Hid (allR (l.take k) = true)) (fun _ i => l.length - (intOf i).toNat)
  case atStart => exact ⟨0, Nat.zero_le _, rfl, rfl, Lib.hid rfl⟩
  case round =>
    obtain ⟨k, hk, rfl, rfl, HA⟩ := hrel
    by_cases hlt : k < l.length
    · obtain ⟨b, o, rfl, c0⟩ := hI k hlt
      have hki : (k : Int) < (l.length : Int) := by omega
      have hk0 : (0 : Int) ≤ (k : Int) := by omega
      have KR := Lib.hid (fun u => wrelMay_any l[k] u)
      have HT : Hid (l.take (k + 1) = l.take k ++ [l[k]]) := Lib.hid (List.take_succ_eq_append_getElem hlt)
      have h8 := orR_lt l k
      cases hr : rlB l[k] with
      | false =>
        rw [hr] at KR
        have HF := Lib.hid (allR_false hlt hr)
        generalize l[k] = x at *
        generalize orR (l.take k) = X at *
        clear hr HT
        go_wp2_with fail
        refine (KR.out _).mono ?_
        rintro e w1 ⟨rfl, rfl⟩
        go_wp2_with fail
        go_ret2
        exact ⟨by rw [HV.out, HE.out, HF.out]; rfl, rfl⟩
      | true =>
        rw [hr] at KR
        obtain ⟨q, hq, hqe⟩ := rl_nat hr
        have HN : Hid (orR (l.take (k + 1)) = orR (l.take k) ||| 2 ^ q) := Lib.hid (by rw [HT.out, orR_snoc, hr, hqe, show ((q : Int) + 1 - 1).toNat = q by omega]; rfl)
        have HA2 : Hid (allR (l.take (k + 1)) = true) := Lib.hid (by rw [HT.out, allR_snoc, HA.out, hr]; rfl)
        have KO := Lib.hid (fun u => only_any q hq u)
        have HOR := Lib.hid (or16 (orR (l.take k)) (2 ^ q) (by omega) (p16 hq))
        rw [hqe] at c0 KR
        generalize ((2 ^ q : Nat) : Int) = P at KO HOR
        generalize orR (l.take k) = X at HN HOR ⊢
        clear hqe hr HT h8
        go_wp2_with fail
        refine (KR.out _).mono ?_
        rintro e w1 ⟨rfl, rfl⟩
        go_wp2_with fail
        refine (KO.out _).mono ?_
        rintro e w1 ⟨rfl, rfl⟩
        go_wp2_with fail
        go_round
        case rel => exact ⟨k + 1, by omega, by go_num, by rw [HN.out, HOR.out], HA2⟩
        case measure => simp [intOf]; omega
    · have hki : ¬ ((k : Int) < (l.length : Int)) := by omega
      have HK : Hid (l.take k = l) := Lib.hid (List.take_of_length_le (by omega))
      have hw := wrap64 (orR_lt l k)
      go_wp2_with fail
      go_ret2
      have ha := HA.out
      rw [HK.out] at ha
      exact ⟨by rw [HV.out, HE.out, ha, HK.out]; rfl, rfl⟩

def listE (s : Int) : Int := if stB s then 0 else 1
def listL (s : Int) : List Int := if stB s then lsUp s.toNat 13 else []
def turnV (s : Int) : Int := if stB s then (turnS s.toNat : Int) else 0
def LsOut (w : World) (s : Int) (e : Ending) (w' : World) : Prop := ∃ v, e = .returned (.tuple #[v, .int .i64 (listE s)]) ∧ IntsOut w (listL s) v w'
set_option maxHeartbeats 1000000 in
theorem List_any (s : Int) (w : World) : Calls Tryd.prog 11 #[.int .i64 s] w (LsOut w s) := by
  have KM := Lib.hid (setMay_any s w)
  cases h : stB s with
  | false =>
    rw [h] at KM
    have HO : Hid (∀ e w', LsOut w s e w' = ∃ v, e = .returned (.tuple #[v, .int .i64 1]) ∧ IntsOut w [] v w') := Lib.hid (by intro e w'; unfold LsOut listE listL; rw [h]; rfl)
    generalize LsOut w s = Z at HO ⊢
    go_enter Tryd.func11, Tryd.ntmps11
    go_wp2_with fail
    refine KM.out.mono ?_
    rintro e w1 ⟨rfl, rfl⟩
    go_wp2_with fail
    first
      | (go_ret2; rw [HO.out]; exact ⟨_, rfl, World.ownsRow_nil _ _ _ _, Ext.refl _⟩)
      | (rw [HO.out]; exact ⟨_, rfl, World.ownsRow_nil _ _ _ _, Ext.refl _⟩)
  | true =>
    rw [h] at KM
    obtain ⟨x, rfl, hx⟩ := st_nat h
    have HO : Hid (∀ e w', LsOut w (x : Int) e w' = ∃ v, e = .returned (.tuple #[v, .int .i64 0]) ∧ IntsOut w (lsUp x 13) v w') := Lib.hid (by intro e w'; unfold LsOut listE listL; rw [h]; rfl)
    have KL := Lib.hid (list_any x hx w)
    unfold ListOut at KL
    have hw := wrap16 hx
    generalize LsOut w (x : Int) = Z at HO ⊢
    clear h hx
    go_enter Tryd.func11, Tryd.ntmps11
    go_wp2_with fail
    refine KM.out.mono ?_
    rintro e w1 ⟨rfl, rfl⟩
    go_wp2_with fail
    refine KL.out.mono ?_
    rintro e w2 ⟨v, rfl, hown⟩
    go_wp2_with fail
    first
      | (go_ret2; rw [HO.out]; exact ⟨_, rfl, hown⟩)
      | (rw [HO.out]; exact ⟨_, rfl, hown⟩)
set_option maxHeartbeats 1000000 in
theorem Turn_any (s : Int) (w : World) : Calls Tryd.prog 12 #[.int .i64 s] w fun e w' => e = .returned (.tuple #[.int .i64 (turnV s), .int .i64 (listE s)]) ∧ Ext w w' := by
  have KM := Lib.hid (setMay_any s w)
  have HV : Hid (turnV s = if stB s then (turnS s.toNat : Int) else 0) := Lib.hid rfl
  have HE : Hid (listE s = if stB s then 0 else 1) := Lib.hid rfl
  cases h : stB s with
  | false =>
    rw [h] at KM HV HE
    go_enter Tryd.func12, Tryd.ntmps12
    go_wp2_with fail
    refine KM.out.mono ?_
    rintro e w1 ⟨rfl, rfl⟩
    go_wp2_with fail
    go_ret2
    exact ⟨by rw [HV.out, HE.out]; rfl, Ext.refl _⟩
  | true =>
    rw [h] at KM HV HE
    obtain ⟨x, rfl, hx⟩ := st_nat h
    have KS := Lib.hid (sturned_any x hx w)
    have hw := wrap16 hx
    have hw2 := wrap64 (turnS_lt x)
    simp only [Int.toNat_natCast, if_true] at HV HE
    generalize turnS x = R at *
    clear h hx
    go_enter Tryd.func12, Tryd.ntmps12
    go_wp2_with fail
    refine KM.out.mono ?_
    rintro e w1 ⟨rfl, rfl⟩
    go_wp2_with fail
    refine KS.out.mono ?_
    rintro e w2 ⟨rfl, hx2⟩
    go_wp2_with fail
    go_ret2
    exact ⟨by rw [HV.out, HE.out]; rfl, hx2⟩

set_option maxHeartbeats 2000000 in
theorem rTurnSet_any (s : Nat) (hs : s < 8192) (w : World) : Calls Tryd.prog 14 #[.int .i64 (s : Int)] w fun e w' => e = .returned (.int .i64 (turnS s : Int)) ∧ w' = w := by
  have HT : Hid (turnS s = orUp (fun k => 2 ^ (12 - k)) s 13) := Lib.hid rfl
  generalize turnS s = R at HT ⊢
  go_enter Tryd.func14, Tryd.ntmps14
  go_wp2_with fail
  go_loop [3, 4] (fun x i => ∃ k : Nat, k ≤ 13 ∧ i = .int .i64 ((k : Int) + 1) ∧ x = .int .i64 (orUp (fun k => 2 ^ (12 - k)) s k : Int) ∧ orUp (fun k => 2 ^ (12 - k)) s k < 8192) (fun _ i => 14 - (intOf i).toNat)
  case atStart => exact ⟨0, by omega, rfl, rfl, Nat.zero_lt_succ _⟩
  case round =>
    obtain ⟨k, hk, rfl, rfl, h8⟩ := hrel
    by_cases hlt : k < 13
    · have hle : (k : Int) + 1 ≤ 13 := by omega
      have HN : Hid (orUp (fun k => 2 ^ (12 - k)) s (k + 1) = orUp (fun k => 2 ^ (12 - k)) s k ||| if s.testBit k then 2 ^ (12 - k) else 0) := Lib.hid rfl
      have HS := Lib.hid (bitsI s k hs)
      have H8 : Hid (orUp (fun k => 2 ^ (12 - k)) s (k + 1) < 8192) := Lib.hid (by rw [HN.out]; refine or_lt h8 ?_; split; exact two_lt (by omega); omega)
      have KT := Lib.hid (fun u => rTurn_any ((k : Int) + 1) u (by omega))
      have HOR := Lib.hid (or64 (orUp (fun k => 2 ^ (12 - k)) s k) (2 ^ (12 - k)) (by omega) (p16 (by omega)))
      generalize orUp (fun k => 2 ^ (12 - k)) s k = X at *
      obtain ⟨q, hq, hqe⟩ : ∃ q : Nat, q < 13 ∧ 12 - k = q := ⟨12 - k, by omega, rfl⟩
      have h14 : (14 - ((k : Int) + 1)) = (q : Int) + 1 := by omega
      rw [hqe] at HN HOR
      rw [h14] at KT
      have h2 := two64 hq
      have hq0 : (0 : Int) ≤ (q : Int) := by omega
      have hq13 : (q : Int) < 13 := by omega
      generalize ((2 ^ q : Nat) : Int) = P at *
      clear hqe h14 h8
      cases h1 : s.testBit k with
      | true =>
        have HS1 : (bits .and .i64 ((s : Int) / 2 ^ k) 1 == 1) = true := HS.out.trans h1
        rw [h1] at HN
        go_wp2_with fail
        refine (KT.out _).mono ?_
        rintro e w1 ⟨rfl, rfl⟩
        go_wp2_with fail
        go_round
        case rel => exact ⟨k + 1, by omega, by go_num, by rw [HN.out, HOR.out]; rfl, H8.out⟩
        case measure => simp [intOf]; omega
      | false =>
        have HS1 : (bits .and .i64 ((s : Int) / 2 ^ k) 1 == 1) = false := HS.out.trans h1
        rw [h1] at HN
        have HN2 : Hid (orUp (fun k => 2 ^ (12 - k)) s (k + 1) = X) := Lib.hid (by rw [HN.out]; exact Nat.or_zero _)
        go_wp2_with fail
        go_round
        case rel => exact ⟨k + 1, by omega, by go_num, by rw [HN2.out], H8.out⟩
        case measure => simp [intOf]; omega
    · have hge : ¬ ((k : Int) + 1 ≤ 13) := by omega
      go_wp2_with fail
      go_ret
      obtain rfl : k = 13 := by omega
      exact ⟨by rw [HT.out]; rfl, rfl⟩
end Go.Proofs.YtjldokhomohdbaaDoor
