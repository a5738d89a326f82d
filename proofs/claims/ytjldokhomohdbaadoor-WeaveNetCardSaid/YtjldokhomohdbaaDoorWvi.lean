/- Package weave: Then. -/
import Derived.Test.YtjldokhomohdbaaDoorWvh
namespace Go.Proofs.YtjldokhomohdbaaDoor
open Go.RowKit Go.Maps

/-- what may come of one relation and those in a row -/
def rowN (b : List Int) (i : Nat) : Nat := orL (thruN i) b
theorem rowN_lt (b : List Int) (i : Nat) : rowN b i < 8192 := by
  have := orL_lt (f := thruN i) (fun _ => thruN_lt _ _) b b.length
  rwa [List.take_length] at this
theorem thn_rows (s t : Nat) : thn s t = orL (rowN (lsUp t 13)) (lsUp s 13) := by
  rw [orL_ls]
  exact orUp_congr fun k _ => (orL_ls _ _ _).symm
theorem zeroSet (w : World) : (zeroValue 55).run Tryd.prog w = .ok (.int .u16 0) w := Tryd.zeroValue55 w

set_option maxRecDepth 100000 in
set_option maxHeartbeats 4000000 in
theorem of_any (b s t : Nat) (hs : s < 8192) (ht : t < 8192) (w : World) (hT : TabAt w b 169) : Calls Tryd.prog 36 #[.map (some b), .int .u16 (s : Int), .int .u16 (t : Int)] w fun e w' => e = .returned (.int .u16 (thn s t : Int)) ∧ Ext w w' := by
  have KT := Lib.hid (list_any t ht w)
  have KS := Lib.hid (fun u => list_any s hs u)
  have HR := Lib.hid (thn_rows s t)
  have ls1 := ls_len13 s
  have ls2 := ls_len13 t
  generalize thn s t = R at HR ⊢
  have atS : ∀ i (h : i < (lsUp s 13).length), ∃ k : Nat, k < 13 ∧ (lsUp s 13)[i] = (k : Int) + 1 := fun i h => ls_at h
  have atT : ∀ i (h : i < (lsUp t 13).length), ∃ k : Nat, k < 13 ∧ (lsUp t 13)[i] = (k : Int) + 1 := fun i h => ls_at h
  unfold ListOut at KT KS
  go_enter Tryd.func36, Tryd.ntmps36
  go_wp2_with fail
  refine KT.out.mono ?_
  rintro e w1 ⟨v, rfl, hown, hx1⟩
  obtain ⟨B, d, rfl, hd, hJ⟩ := owned_ints hown
  clear hown KT
  go_wp2_with fail
  refine (KS.out _).mono ?_
  rintro e w2 ⟨v, rfl, hown, hx2⟩
  obtain ⟨A, c, rfl, hc, hI⟩ := owned_ints hown
  clear hown KS
  replace hJ := hJ.ext hx2
  replace hT := (hT.ext hx1).ext hx2
  have HX := Lib.hid (hx1.trans hx2)
  clear hx1 hx2 hs ht
  generalize lsUp s 13 = a at *
  generalize lsUp t 13 = l at *
  go_wp2_with fail
  go_loopw [7, 18] (fun x i wr => ∃ k : Nat, k ≤ a.length ∧ i = .int .i64 k ∧ x = .int .u16 (orL (rowN l) (a.take k) : Int) ∧ orL (rowN l) (a.take k) < 8192 ∧ wr = w2) (fun _ i _ => a.length - (intOf i).toNat)
  case atStart => exact ⟨0, Nat.zero_le _, rfl, rfl, Nat.zero_lt_succ _, rfl⟩
  case round =>
    obtain ⟨k, hk, rfl, rfl, hlt8, hwr⟩ := hrel
    by_cases hlt : k < a.length
    · obtain ⟨g, o, rfl, c0⟩ := hI k hlt
      obtain ⟨p, hp, hpe⟩ := atS k hlt
      have HN := Lib.hid (orL_take (f := rowN l) hlt)
      rw [hpe] at c0 HN
      replace HN : Hid (orL (rowN l) (a.take (k + 1)) = orL (rowN l) (a.take k) ||| orL (thruN p) l) := Lib.hid (by rw [HN.out, show ((p : Int) + 1 - 1).toNat = p by omega]; rfl)
      have HR8 : Hid (orL (rowN l) (a.take k) < 8192) := Lib.hid hlt8
      generalize orL (rowN l) (a.take k) = X at HN HR8 ⊢
      clear hpe hlt8
      have hwr2 := hwr
      rw [← hwr2] at c0
      have HW := Lib.hid hwr2
      clear hwr hwr2
      obtain ⟨wo, hwo⟩ : ∃ wo, wo = wr := ⟨_, rfl⟩
      rw [← hwo] at c0 HW
      rw [← hwo]
      clear hwo
      go_wp2_with fail
      go_loopw [7, 24] (fun x i wr => ∃ j : Nat, j ≤ l.length ∧ i = .int .i64 j ∧ x = .int .u16 ((X ||| orL (thruN p) (l.take j) : Nat) : Int) ∧ orL (thruN p) (l.take j) < 8192 ∧ wr = wo) (fun _ i _ => l.length - (intOf i).toNat)
      case atStart => exact ⟨0, Nat.zero_le _, rfl, by simp [orL], Nat.zero_lt_succ _, rfl⟩
      case round =>
        obtain ⟨j, hj, rfl, rfl, hj8, hwj⟩ := hrel
        by_cases hjl : j < l.length
        · obtain ⟨g2, o2, rfl, c2⟩ := hJ j hjl
          obtain ⟨q, hq, hqe⟩ := atT j hjl
          have HM := Lib.hid (orL_take (f := thruN p) hjl)
          rw [hqe] at c2 HM
          rw [← HW.out, ← hwj] at c2
          have hTj : TabAt wr b 169 := by rw [hwj, HW.out]; exact hT
          obtain ⟨D, hown, hD⟩ := hTj
          obtain ⟨z, hrun, hz, _⟩ := hown.lookup_int keyedPair Tryd.underlying62 Tryd.underlying55 (zeroSet wr) (key_pair (x := (p : Int) + 1) (y := (q : Int) + 1) (wf_small (by omega) (by omega)) (wf_small (by omega) (by omega)))
          have hze : z = (thruN p q : Int) := by
            rw [show pairK ((p : Int) + 1) ((q : Int) + 1) = relK p q from rfl, hD p q hp hq (by omega)] at hz
            have h2 : (thruN p q : Int) = z := by simpa using hz
            exact h2.symm
          have HM2 : Hid (bits .or .u16 ((X ||| orL (thruN p) (l.take j) : Nat) : Int) z = ((X ||| orL (thruN p) (l.take (j + 1)) : Nat) : Int)) := Lib.hid (by
            have h1 := or_lt HR8.out hj8
            have h2 := thruN_lt p q
            rw [hze, or16 _ _ (by omega) (by omega), HM.out, show ((q : Int) + 1 - 1).toNat = q by omega, Nat.or_assoc])
          have hj9 : orL (thruN p) (l.take (j + 1)) < 8192 := by rw [HM.out]; exact or_lt hj8 (thruN_lt _ _)
          clear HM hze hz hown hD hqe
          have HWJ := Lib.hid hwj
          clear hwj
          go_wp2_with fail
          go_roundw
          case rel => exact ⟨j + 1, by omega, by go_num, by rw [HM2.out], hj9, HWJ.out⟩
          case measure => simp [intOf]; omega
        · have hge : ¬ ((j : Int) < (l.length : Int)) := by omega
          have HWJ := Lib.hid hwj
          clear hwj
          go_wp2_with fail
          go_roundw
          case rel => exact ⟨k + 1, by omega, by go_num, by rw [HN.out]; obtain rfl : j = l.length := by omega
                                                            rw [List.take_length], by rw [HN.out]; exact or_lt HR8.out (rowN_lt l p), by rw [HWJ.out, HW.out]⟩
          case measure => simp [intOf]; omega
    · have hge : ¬ ((k : Int) < (a.length : Int)) := by omega
      have HWJ := Lib.hid hwr
      clear hwr
      go_wp2_with fail
      go_ret
      obtain rfl : k = a.length := by omega
      exact ⟨by rw [HR.out, List.take_length]; rfl, by rw [HWJ.out]; exact HX.out⟩

/-- what Then tells -/
def thenE (s t : Int) : Int := if stB s && stB t then 0 else 1
def thenV (s t : Int) : Int := if stB s && stB t then (thn s.toNat t.toNat : Int) else 0
theorem wrap16 {x : Nat} (h : x < 8192) : IntKind.u16.wrap (x : Int) = x := by rw [IntKind.wrap_u16]; omega
theorem wrap64 {x : Nat} (h : x < 8192) : IntKind.i64.wrap (x : Int) = x := by rw [IntKind.wrap_i64] <;> omega
set_option maxHeartbeats 2000000 in
theorem Then_any (s t : Int) (w : World) (hE : EndAt w) : Calls Tryd.prog 18 #[.int .i64 s, .int .i64 t] w fun e w' => e = .returned (.tuple #[.int .i64 (thenV s t), .int .i64 (thenE s t)]) ∧ Ext w w' := by
  have KA := Lib.hid (fun u => setMay_any s u)
  have KB := Lib.hid (fun u => setMay_any t u)
  have HV : Hid (thenV s t = if stB s && stB t then (thn s.toNat t.toNat : Int) else 0) := Lib.hid rfl
  have HE : Hid (thenE s t = if stB s && stB t then 0 else 1) := Lib.hid rfl
  cases h1 : stB s with
  | false =>
    rw [h1, Bool.false_and] at HV HE
    rw [h1] at KA
    go_enter Tryd.func18, Tryd.ntmps18
    go_wp2_with fail
    refine (KA.out _).mono ?_
    rintro e w1 ⟨rfl, rfl⟩
    go_wp2_with fail
    go_ret2
    exact ⟨by rw [HV.out, HE.out]; rfl, Ext.refl _⟩
  | true =>
    rw [h1, Bool.true_and] at HV HE
    rw [h1] at KA
    cases h2 : stB t with
    | false =>
      rw [h2] at HV HE KB
      go_enter Tryd.func18, Tryd.ntmps18
      go_wp2_with fail
      refine (KA.out _).mono ?_
      rintro e w1 ⟨rfl, rfl⟩
      go_wp2_with fail
      refine (KB.out _).mono ?_
      rintro e w1 ⟨rfl, rfl⟩
      go_wp2_with fail
      go_ret2
      exact ⟨by rw [HV.out, HE.out]; rfl, Ext.refl _⟩
    | true =>
      rw [h2] at HV HE KB
      obtain ⟨x, rfl, hx⟩ := st_nat h1
      obtain ⟨y, rfl, hy⟩ := st_nat h2
      have KT := Lib.hid (thens_any w hE)
      have KO := Lib.hid (fun b u => of_any b x y hx hy u)
      have hwx := wrap16 hx
      have hwy := wrap16 hy
      have hwr := wrap64 (thn_lt x y)
      simp only [Int.toNat_natCast, if_true] at HV HE
      generalize thn x y = R at KO HV hwr
      clear hE h1 h2
      go_enter Tryd.func18, Tryd.ntmps18
      go_wp2_with fail
      refine (KA.out _).mono ?_
      rintro e w1 ⟨rfl, rfl⟩
      go_wp2_with fail
      refine (KB.out _).mono ?_
      rintro e w1 ⟨rfl, rfl⟩
      go_wp2_with fail
      refine KT.out.mono ?_
      rintro e w2 ⟨b, rfl, hT, _, hx1⟩
      go_wp2_with fail
      refine (KO.out _ _ hT).mono ?_
      rintro e w3 ⟨rfl, hx2⟩
      go_wp2_with fail
      go_ret2
      exact ⟨by rw [HV.out, HE.out]; rfl, hx1.trans hx2⟩
end Go.Proofs.YtjldokhomohdbaaDoor
