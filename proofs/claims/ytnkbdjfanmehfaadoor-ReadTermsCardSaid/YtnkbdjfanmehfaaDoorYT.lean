/- Joined: Pgr, Pgs. -/
import Derived.Test.YtnkbdjfanmehfaaDoorYS
import Derived.Test.YtnkbdjfanmehfaaDoorYO
import Derived.Test.YtnkbdjfanmehfaaDoorYB
import Derived.Test.YtnkbdjfanmehfaaDoorYM

/- almagestlaw5: awake: the made text is a rule. -/
namespace Go.Proofs.YtnkbdjfanmehfaaDoor
open Go.RowKit

def wkS : ByteArray := ⟨#[97, 32, 60, 45, 32, 98, 32, 59, 32, 99, 44, 32, 119, 105, 116, 104, 105, 110, 32, 53, 46]⟩
def wkB (F : Except (Int × Int) Pr) : Bool := match F with
  | .ok P => match P.rules with
    | [r] => r.within == 5 && r.body.kind == 2
    | _ => false
  | .error _ => false
theorem wk_ok : wkB (readG wkS) = true := by kernel_rfl
theorem wk_read : ∃ P r, readG wkS = .ok P ∧ P.rules = [r] ∧ r.within = 5 ∧ r.body.kind = 2 := by
  have h := wk_ok
  unfold wkB at h
  match hF : readG wkS with
  | .error e => rw [hF] at h; simp at h
  | .ok P =>
    rw [hF] at h
    simp only at h
    match hr : P.rules with
    | [] => rw [hr] at h; simp at h
    | [r] =>
      rw [hr] at h
      simp only [Bool.and_eq_true, beq_iff_eq] at h
      exact ⟨P, r, rfl, hr, h.1, h.2⟩
    | _ :: _ :: _ => rw [hr] at h; simp at h
theorem num5_any (n : Int) (w : World) : Calls Tryd.prog 7 #[.int .i64 n] w fun e w' => e = .returned (.int .i64 n) ∧ w = w' := by
  go_enter Tryd.func7, Tryd.ntmps7
  go_wp2_with fail
  go_ret
  exact ⟨rfl, rfl⟩
set_option maxRecDepth 100000 in
set_option maxHeartbeats 2000000 in
theorem wakes5_any (w : World) (hC : ClsAt w) (hX : TxtAt w) (hB : BitAt w) : Calls Tryd.prog 9 #[] w fun e w' => e = .returned (.bool true) ∧ Ext w w' := by
  obtain ⟨P, r, hF, hr, hw5, hk2⟩ := wk_read
  have KP := Lib.hid (Program_rd wkS w hC hX (by unfold wkS; decide) hB)
  have HF := Lib.hid hF
  unfold wkS at KP
  clear hF hC hX hB
  go_enter Tryd.func9, Tryd.ntmps9
  go_wp2_with fail
  refine KP.out.mono ?_
  rintro e w1 ⟨hx1, ho⟩
  rw [show readG ⟨#[97, 32, 60, 45, 32, 98, 32, 59, 32, 99, 44, 32, 119, 105, 116, 104, 105, 110, 32, 53, 46]⟩ = .ok P from HF.out] at ho
  obtain ⟨A0, c0, cs, A1, c1, rs, hcs, hrs, rfl, hra, hrb⟩ := ho
  rw [hr] at hrs
  obtain ⟨y, rfl, hy⟩ : ∃ y, rs = [y] ∧ y.rl = r := by
    match rs, hrs with
    | [y], hrs => exact ⟨y, rfl, by simpa using hrs⟩
  rcases hrb.1 with ⟨h0, _⟩ | ⟨_, q, cap, eA, hcap, hq, hcell⟩
  · cases h0
  · simp only [Value.slice.injEq] at eA
    obtain ⟨rfl, _, rfl⟩ := eA
    obtain ⟨w2, hw2⟩ : ∃ w2, w2 = w1.alloc (.cells #[.slice A0 cs.length c0, .slice (some ⟨q, 0, none⟩) 1 c1] 53) := ⟨_, rfl⟩
    have hx2 : Ext w1 w2 := by rw [hw2]; exact (Ext.refl _).alloc _
    have hb2 : BoxN w2 w1.heap.size [.slice A0 cs.length c0, .slice (some ⟨q, 0, none⟩) 1 c1] := by rw [hw2]; exact BoxN.new w1 _ _ (by simp)
    have e14 : w2.cell? ⟨q, 14, none⟩ = some (.int .i64 5) := by
      have := hx2.cell (hcell 14 (.int .i64 y.within) rfl)
      rw [show y.within = 5 by rw [← hw5, ← hy]; rfl] at this
      exact this
    have e4 : w2.cell? ⟨q, 4, none⟩ = some (.int .i64 2) := by
      have := hx2.cell (hcell 4 (.int .i64 y.body.kind) rfl)
      rw [show y.body.kind = 2 by rw [← hk2, ← hy]; rfl] at this
      exact this
    have b0 := hb2.cell 0 rfl
    have b1 := hb2.cell 1 rfl
    have HW2 := Lib.hid hw2
    have HX := Lib.hid (hx1.trans hx2)
    have KN := Lib.hid (num5_any 0 w2)
    clear hw2 hx2 hb2 hx1 hcell hra hrb KP
    go_upto_region 2 with (fail)
    rw [show w1.alloc (.cells #[.slice A0 cs.length c0, .slice (some ⟨q, 0, none⟩) 1 c1] 53) = w2 from HW2.out.symm]
    go_wp2_with fail
    refine KN.out.mono ?_
    rintro e w3 ⟨rfl, rfl⟩
    go_wp2_with fail
    go_ret
    exact ⟨rfl, HX.out⟩
end Go.Proofs.YtnkbdjfanmehfaaDoor

/- ReadTerms: the walk. -/
namespace Go.Proofs.YtnkbdjfanmehfaaDoor
open Go.RowKit

mutual
theorem eqT_rfl : ∀ t : Tm, eqT t t = true
  | ⟨k, s, n, l⟩ => by rw [eqT, eqL_rfl l]; simp
theorem eqL_rfl : ∀ l : List Tm, eqL l l = true
  | [] => by rw [eqL]
  | a :: l => by rw [eqL, eqT_rfl a, eqL_rfl l]; rfl
end
/-- how much texts are -/
def textsL : List ByteArray → Int → Int
  | [], n => n
  | s :: ss, n => if n < 1048576 then textsL ss (n + s.size) else n
set_option maxHeartbeats 1000000 in
theorem texts_any (ss : List ByteArray) (A : Option Addr) (c : Nat) (w : World) (hl : ss.length * 16 ≤ 140737488351232) (h : StrsAt w ss A) :
    Calls Tryd.prog 10 #[.slice A ss.length c] w fun e w' => e = .returned (.int .i64 (textsL ss ss.length)) ∧ w = w' := by
  have H0 : Hid (textsL (ss.drop 0) ss.length = textsL ss ss.length) := Lib.hid (by rw [List.drop_zero])
  go_enter Tryd.func10, Tryd.ntmps10
  go_wp2_with fail
  go_loop [3, 4] (fun m i => ∃ (k : Nat) (n : Int), k ≤ ss.length ∧ 0 ≤ n ∧ n ≤ 9007199254740992 ∧ i = .int .i64 k ∧ m = .int .i64 n ∧ Hid (textsL (ss.drop k) n = textsL ss ss.length)) (fun _ i => ss.length - (intOf i).toNat)
  case atStart => exact ⟨0, _, Nat.zero_le _, by omega, by omega, rfl, rfl, H0⟩
  case round =>
    obtain ⟨k, n, hk, hn0, hn1, rfl, rfl, H⟩ := hrel
    by_cases hlt : k < ss.length
    · obtain ⟨b, o, rfl, c0, hb⟩ := h k hlt
      have H2 : Hid ((if n < 1048576 then textsL (ss.drop (k + 1)) (n + ss[k].size) else n) = textsL ss ss.length) := by
        have := H.out
        rw [List.drop_eq_getElem_cons hlt, textsL] at this
        exact Lib.hid this
      clear H H0
      by_cases hn : n < 1048576
      · go_wp2_with fail
        go_round
        case rel => exact ⟨k + 1, n + ss[k].size, by omega, by omega, by omega, by go_num, rfl, Lib.hid (by have := H2.out; rwa [if_pos (by omega)] at this)⟩
        case measure => simp [intOf]; omega
      · have hn' : decide (n < 1048576) = false := decide_eq_false hn
        go_wp2_with fail
        go_ret
        exact ⟨ret_int (by have := H2.out; rwa [if_neg (by omega)] at this), rfl⟩
    · go_wp2_with fail
      go_ret
      exact ⟨ret_int (by have := H.out; rwa [List.drop_eq_nil_of_le (by omega), textsL] at this), rfl⟩
def heavyB (ss : List ByteArray) : Bool := decide (9000 < textsL ss ss.length)
theorem heavy_any (ss : List ByteArray) (A : Option Addr) (c : Nat) (w : World) (hl : ss.length * 16 ≤ 140737488351232) (h : StrsAt w ss A) :
    Calls Tryd.prog 4 #[.agg #[.slice A ss.length c]] w fun e w' => e = .returned (.bool (heavyB ss)) ∧ Ext w w' := by
  go_enter Tryd.func4, Tryd.ntmps4
  go_wp2_with fail
  refine (texts_any ss A c _ hl (h.ext ((Ext.refl _).alloc _))).mono ?_
  rintro e w1 ⟨rfl, rfl⟩
  go_wp2_with fail
  go_ret
  exact ⟨rfl, (Ext.refl w).alloc _⟩

def resT : Except (Int × Int) Tm → Tm
  | .ok t => t
  | .error _ => noTm
def resA {α : Type} : Except (Int × Int) α → Int
  | .ok _ => 0
  | .error (a, _) => a
def resE {α : Type} : Except (Int × Int) α → Int
  | .ok _ => 0
  | .error (_, x) => x
theorem TermRet.all {w w' : World} {F : Except (Int × Int) Tm} {e : Ending} (h : TermRet w F e w') : ∃ A c, e = .returned (.tuple #[(resT F).val A c, .int .i64 (resA F), .int .i64 (resE F)]) ∧ TmAt w' (resT F) A c ∧ Ext w w' := by
  obtain ⟨hx, h2⟩ := h
  match F, h2 with
  | .ok t, ⟨A, c, he, hT⟩ => exact ⟨A, c, he, hT.at_, hx⟩
  | .error (a, x), h2 => exact ⟨none, 0, h2, (noTm_in w' (fun _ => False) 0).at_, hx⟩
set_option maxRecDepth 100000 in
set_option maxHeartbeats 4000000 in
theorem terms_walk (ss : List ByteArray) (A : Option Addr) (c : Nat) (w : World) (hl : ss.length * 16 ≤ 140737488351232) (hS : StrsAt w ss A) (hC : ClsAt w) (hX : TxtAt w) (hB : BitAt w) :
    Calls Tryd.prog 3 #[.agg #[.slice A ss.length c]] w fun e w' => e = .returned (.bool true) ∧ Ext w w' := by
  have hx0 : Ext w (w.alloc (.cells #[.slice A ss.length c] 24)) := (Ext.refl w).alloc _
  go_enter Tryd.func3, Tryd.ntmps3
  go_wp2_with fail
  refine (heavy_any ss A c _ hl (hS.ext hx0)).mono ?_
  rintro e1 w1 ⟨rfl, hx1⟩
  have hx01 := hx0.trans hx1
  have p0 : w1.cell? ⟨w.heap.size, 0, none⟩ = some (.slice A ss.length c) := hx1.cell (by go_simp)
  have hS1 := hS.ext hx01
  have HG1 := Lib.hid (And.intro (hC.ext hx01) (And.intro (hX.ext hx01) (hB.ext hx01)))
  clear hx1 hx0 hC hX hB
  cases hv : heavyB ss with
  | true =>
    go_wp2_with fail
    go_ret
    exact ⟨rfl, hx01⟩
  | false =>
    clear hv
    go_wp2_with fail
    go_loopw [3] (fun i wr => ∃ k : Nat, k ≤ ss.length ∧ i = .int .i64 k ∧ Ext w1 wr) (fun i _ => ss.length - (intOf i).toNat)
    case atStart => exact ⟨0, Nat.zero_le _, rfl, Ext.refl _⟩
    case round =>
      obtain ⟨i, hi, rfl, hxa⟩ := hrel
      have pa0 := hxa.cell p0
      by_cases hboth : i < ss.length ∧ i < 6
      · obtain ⟨hlt, h8⟩ := hboth
        have h8' : decide ((i : Int) < 6) = true := decide_eq_true (by omega)
        have i0 : (0 : Int) ≤ (i : Int) := Int.natCast_nonneg _
        have i1 : (i : Int) < (ss.length : Int) := by omega
        obtain ⟨b, o, rfl, cS, hsz⟩ := (hS1.ext hxa) i hlt
        have K1 := Lib.hid (Term_rd ss[i] wr (HG1.out.1.ext hxa) (HG1.out.2.1.ext hxa) hsz)
        go_wp2_with fail
        refine K1.out.mono ?_
        rintro e w2 h2
        obtain ⟨A1, c1, rfl, hT1, hx2⟩ := h2.all
        obtain ⟨w3, hw3⟩ : ∃ w3, w3 = w2.alloc (.cells #[.int .i64 (resT (readT ss[i])).kind, .string (resT (readT ss[i])).name, .int .i64 (resT (readT ss[i])).n, .slice A1 (resT (readT ss[i])).args.length c1] 28) := ⟨_, rfl⟩
        have hx3 : Ext w2 w3 := by rw [hw3]; exact (Ext.refl _).alloc _
        have hb3 : Box4 w3 w2.heap.size (.int .i64 (resT (readT ss[i])).kind) (.string (resT (readT ss[i])).name) (.int .i64 (resT (readT ss[i])).n) (.slice A1 (resT (readT ss[i])).args.length c1) := by rw [hw3]; exact Box4.new w2 _ _ _ _ _
        have HW3 := Lib.hid hw3
        have hx23 := hx2.trans hx3
        have pb0 := hx23.cell pa0
        have cS2 := hx23.cell cS
        have K2 := Lib.hid (rReadTerm_any ss[i] w3 hsz)
        have HT1 := Lib.hid (hT1.ext hx3)
        clear K1 h2 hw3 hT1 hx2 hx3
        go_upto_region 7 with (fail)
        rw [← HW3.out]
        go_wp2_with fail
        refine K2.out.mono ?_
        rintro e w4 h4
        obtain ⟨A2, c2, rfl, hT2, hx4⟩ := h4.all
        obtain ⟨w5, hw5⟩ : ∃ w5, w5 = w4.alloc (.cells #[.int .i64 (resT (readT ss[i])).kind, .string (resT (readT ss[i])).name, .int .i64 (resT (readT ss[i])).n, .slice A2 (resT (readT ss[i])).args.length c2] 28) := ⟨_, rfl⟩
        have hx5 : Ext w4 w5 := by rw [hw5]; exact (Ext.refl _).alloc _
        have hb5 : Box4 w5 w4.heap.size (.int .i64 (resT (readT ss[i])).kind) (.string (resT (readT ss[i])).name) (.int .i64 (resT (readT ss[i])).n) (.slice A2 (resT (readT ss[i])).args.length c2) := by rw [hw5]; exact Box4.new w4 _ _ _ _ _
        have HW5 := Lib.hid hw5
        have hx45 := hx4.trans hx5
        have hxb := (hxa.trans hx23).trans hx45
        have pc0 := hx45.cell pb0
        obtain ⟨a0, a1, a2, a3, _, _, _, _⟩ := hb3.ext hx45
        obtain ⟨d0, d1, d2, d3, _, _, _, _⟩ := hb5
        have HT2 := Lib.hid (And.intro (HT1.out.ext hx45) (hT2.ext hx5))
        clear K2 h4 hw5 hT2 hx4 hx5 hb3 cS cS2
        generalize resT (readT ss[i]) = t at *
        generalize resA (readT ss[i]) = ra at *
        generalize resE (readT ss[i]) = re at *
        go_upto_region 8 with (fail)
        rw [← HW5.out]
        have KN := Lib.hid (num5_any re w5)
        have KE := Lib.hid (eqTerm_all t.high t t A1 A2 c1 c2 w5 (Nat.le_refl _) HT2.out.1 HT2.out.2)
        rw [eqT_rfl] at KE
        go_wp2_with fail
        refine KN.out.mono ?_
        rintro e w6 ⟨rfl, rfl⟩
        go_wp2_with fail
        refine KE.out.mono ?_
        rintro e w7 ⟨rfl, hx7⟩
        have HX7 := Lib.hid (hxb.trans hx7)
        clear hx7 KE KN HT2 hx45 hxb
        go_wp2_with fail
        go_roundw
        case rel => exact ⟨i + 1, by omega, by go_num, HX7.out⟩
        case measure => simp [intOf]; omega
      · have KW := Lib.hid (wakes5_any wr (HG1.out.1.ext hxa) (HG1.out.2.1.ext hxa) (HG1.out.2.2.ext hxa))
        by_cases hlt : i < ss.length
        · have h8' : decide ((i : Int) < 6) = false := decide_eq_false (by omega)
          go_wp2_with fail
          refine KW.out.mono ?_
          rintro e w2 ⟨rfl, hx2⟩
          have HX := Lib.hid ((hx01.trans hxa).trans hx2)
          clear KW hx2
          go_wp2_with fail
          go_ret
          exact ⟨rfl, HX.out⟩
        · go_wp2_with fail
          refine KW.out.mono ?_
          rintro e w2 ⟨rfl, hx2⟩
          have HX := Lib.hid ((hx01.trans hxa).trans hx2)
          clear KW hx2
          go_wp2_with fail
          go_ret
          exact ⟨rfl, HX.out⟩
end Go.Proofs.YtnkbdjfanmehfaaDoor
