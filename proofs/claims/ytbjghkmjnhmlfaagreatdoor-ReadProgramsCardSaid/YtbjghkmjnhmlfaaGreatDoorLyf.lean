/- almagestref4.Tokens: the walk. -/
import Derived.Test.YtbjghkmjnhmlfaaGreatDoorYF
import Derived.Deep.DeepCutAuto
import Derived.Deep.CutBlock
import Derived.BigRegion
import Derived.RegionTactic
namespace Go.Proofs.YtbjghkmjnhmlfaaGreatDoor
open Go.RowKit Go.Maps

set_option maxRecDepth 100000 in
set_option maxHeartbeats 4000000 in
theorem rTokens_any (s : ByteArray) (w : World) (hS : s.size ≤ 140737488351232) :
  Calls Tryz.prog 33 #[.string s] w (LexOut w (lexT s) (lexA s) (lexE s)) := by
 obtain ⟨i0, hi0, hz0, hz1, hz2⟩ := info_parts infoTok
 by_cases hs : s.size ≤ 4000
 ·
  have hl0 : decide ((4000 : Int) < (s.size : Int)) = false := decide_eq_false (by omega)
  have HR : Hid (lexT s = (match toksL s.size (lft s 0) with | .inl _ => [] | .inr ts => ts) ∧ lexA s = (match toksL s.size (lft s 0) with | .inl (a, _) => a | .inr _ => 0) ∧ lexE s = (match toksL s.size (lft s 0) with | .inl (_, e) => e | .inr _ => 0)) := Lib.hid (by
   unfold lexT lexA lexE lft
   rw [if_neg (by omega), if_neg (by omega), if_neg (by omega), List.drop_zero]
   exact ⟨rfl, rfl, rfl⟩)
  go_enter Tryz.func33, Tryz.ntmps33
  go_wp2_with fail
  obtain ⟨w1, hw1⟩ : ∃ w1, w1 = w.alloc rmkO := ⟨_, rfl⟩
  have hx1 : Ext w w1 := by rw [hw1]; exact (Ext.refl w).alloc _
  have HM : Hid (RmkAt w1 w.heap.size) := Lib.hid (by rw [hw1]; exact RmkAt.made w)
  have hl1 : w.heap.size < w1.heap.size := by rw [hw1]; simp
  rw [← hw1]
  clear hw1
  have HJ0 : Hid (joinT [] (toksL s.size (lft s 0)) = toksL s.size (lft s 0)) := Lib.hid (by unfold joinT; cases toksL s.size (lft s 0) <;> rfl)
  go_loopg [5, 7] s.size (fun n v a wr => ∃ (j : Nat) (ts : List Tok), j + n = s.size ∧ a = .int .i64 j ∧ Hid (joinT ts (toksL s.size (lft s j)) = toksL s.size (lft s 0)) ∧ Hid (ts.length ≤ j) ∧ wr.ownsRow w1.heap.size 54 4 v ts.length (tokCells ts) ∧ Ext w1 wr)
  case atStart => exact ⟨0, [], by omega, rfl, HJ0, Lib.hid (Nat.zero_le _), World.ownsRow_nil _ _ _ _, Ext.refl _⟩
  case round =>
   obtain ⟨j, ts, hj, rfl, HJ, HL, hown, hxr⟩ := hrel
   by_cases hlt : j < s.size
   ·
    have hl : decide ((j : Int) < (s.size : Int)) = true := decide_eq_true (by omega)
    have j0 : (0 : Int) ≤ (j : Int) := Int.natCast_nonneg _
    have hw1 : IntKind.i64.wrap ((j : Int) + 1) = ((j + 1 : Nat) : Int) := by rw [IntKind.wrap_i64]; omega
    by_cases hb : blkB s[j] = true
    ·
     have HJ2 := Lib.hid (joinT_same (blk_next hlt hb) HJ.out)
     have HL2 : Hid (ts.length ≤ j + 1) := Lib.hid (by have := HL.out; omega)
     have h4 : s[j] = 32 ∨ s[j] = 9 ∨ s[j] = 10 ∨ s[j] = 13 := by
      unfold blkB at hb; simpa [or_assoc] using hb
     clear HJ HL hb
     rcases h4 with e | e | e | e
     ·
      have q1 : (((s[j].toNat : Nat) : Int) == 32) = true := (u8_beq s[j] 32).trans (by rw [e]; rfl)
      clear e
      go_wp2_with fail
      go_roundg (s.size - (j + 1))
      case rel => exact ⟨j + 1, ts, by omega, rfl, HJ2, HL2, hown, hxr⟩
      case measure => omega
     ·
      have q1 : (((s[j].toNat : Nat) : Int) == 32) = false := (u8_beq s[j] 32).trans (by rw [e]; rfl)
      have q2 : (((s[j].toNat : Nat) : Int) == 9) = true := (u8_beq s[j] 9).trans (by rw [e]; rfl)
      clear e
      go_wp2_with fail
      go_roundg (s.size - (j + 1))
      case rel => exact ⟨j + 1, ts, by omega, rfl, HJ2, HL2, hown, hxr⟩
      case measure => omega
     ·
      have q1 : (((s[j].toNat : Nat) : Int) == 32) = false := (u8_beq s[j] 32).trans (by rw [e]; rfl)
      have q2 : (((s[j].toNat : Nat) : Int) == 9) = false := (u8_beq s[j] 9).trans (by rw [e]; rfl)
      have q3 : (((s[j].toNat : Nat) : Int) == 10) = true := (u8_beq s[j] 10).trans (by rw [e]; rfl)
      clear e
      go_wp2_with fail
      go_roundg (s.size - (j + 1))
      case rel => exact ⟨j + 1, ts, by omega, rfl, HJ2, HL2, hown, hxr⟩
      case measure => omega
     ·
      have q1 : (((s[j].toNat : Nat) : Int) == 32) = false := (u8_beq s[j] 32).trans (by rw [e]; rfl)
      have q2 : (((s[j].toNat : Nat) : Int) == 9) = false := (u8_beq s[j] 9).trans (by rw [e]; rfl)
      have q3 : (((s[j].toNat : Nat) : Int) == 10) = false := (u8_beq s[j] 10).trans (by rw [e]; rfl)
      have q4 : (((s[j].toNat : Nat) : Int) == 13) = true := (u8_beq s[j] 13).trans (by rw [e]; rfl)
      clear e
      go_wp2_with fail
      go_roundg (s.size - (j + 1))
      case rel => exact ⟨j + 1, ts, by omega, rfl, HJ2, HL2, hown, hxr⟩
      case measure => omega
    ·
     have hb' : blkB s[j] = false := by simpa using hb
     obtain ⟨q1, q2, q3, q4⟩ : (((s[j].toNat : Nat) : Int) == 32) = false ∧ (((s[j].toNat : Nat) : Int) == 9) = false ∧ (((s[j].toNat : Nat) : Int) == 10) = false ∧ (((s[j].toNat : Nat) : Int) == 13) = false := by
      have h1 := u8_beq s[j] 32
      have h2 := u8_beq s[j] 9
      have h3 := u8_beq s[j] 10
      have h4 := u8_beq s[j] 13
      unfold blkB at hb'
      simp only [Bool.or_eq_false_iff] at hb'
      obtain ⟨⟨⟨a, b⟩, c⟩, d⟩ := hb'
      exact ⟨h1.trans a, h2.trans b, h3.trans c, h4.trans d⟩
     clear hb
     by_cases h37 : s[j] = 37
     ·
      have q5 : (((s[j].toNat : Nat) : Int) == 37) = true := by rw [h37]; rfl
      have H37 := Lib.hid h37
      clear h37 hb'
      go_wp2_with fail
      go_loopg [7] (s.size - j) (fun n a wq => ∃ i : Nat, j ≤ i ∧ i + n = s.size ∧ a = .int .i64 i ∧ Hid (passL true (lft s i) = passL true (lft s j)) ∧ wq = wr)
      case atStart => exact ⟨j, Nat.le_refl _, by omega, rfl, Lib.hid rfl, rfl⟩
      case round =>
       obtain ⟨i, hji, hi, rfl, HT, rfl⟩ := hrel
       by_cases hli : i < s.size
       ·
        have hl' : decide ((i : Int) < (s.size : Int)) = true := decide_eq_true (by omega)
        have i0 : (0 : Int) ≤ (i : Int) := Int.natCast_nonneg _
        have hw2 : IntKind.i64.wrap ((i : Int) + 1) = ((i + 1 : Nat) : Int) := by rw [IntKind.wrap_i64]; omega
        by_cases h10 : s[i] = 10
        ·
         have q6 : (((s[i].toNat : Nat) : Int) != 10) = false := by rw [h10]; rfl
         have HJ2 := Lib.hid (joinT_same (remark_end hlt H37.out (.inr ⟨hli, h10⟩) HT.out) HJ.out)
         have HL2 : Hid (ts.length ≤ i) := Lib.hid (by have := HL.out; omega)
         have hm := remark_lt hlt H37.out hji hli h10
         clear h10 HT HJ HL
         go_wp2_with fail
         go_roundg (s.size - i)
         case rel => exact ⟨i, ts, by omega, rfl, HJ2, HL2, hown, hxr⟩
         case measure => omega
        ·
         have q6 : (((s[i].toNat : Nat) : Int) != 10) = true := by
          have := u8_beq s[i] 10
          have h2 : (s[i] == 10) = false := by simpa using h10
          rw [h2] at this
          simp only [bne]
          rw [show ((10 : Int)) = (((10 : UInt8).toNat : Nat) : Int) from rfl, this]; rfl
         have HT2 := Lib.hid (remark_next hli (by simpa using h10) HT.out)
         clear h10 HT
         go_wp2_with fail
         go_roundg (s.size - (i + 1))
         case rel => exact ⟨i + 1, by omega, by omega, rfl, HT2, rfl⟩
         case measure => omega
       ·
        have hl' : decide ((i : Int) < (s.size : Int)) = false := decide_eq_false (by omega)
        have HJ2 := Lib.hid (joinT_same (remark_end hlt H37.out (.inl (by omega)) HT.out) HJ.out)
        have HL2 : Hid (ts.length ≤ i) := Lib.hid (by have := HL.out; omega)
        clear HT HJ HL
        go_wp2_with fail
        go_roundg (s.size - i)
        case rel => exact ⟨i, ts, by omega, rfl, HJ2, HL2, hown, hxr⟩
        case measure => omega
     ·
      have q5 : (((s[j].toNat : Nat) : Int) == 37) = false := by
       have := u8_beq s[j] 37
       rw [show (s[j] == 37) = false by simpa using h37] at this
       exact this
      have HP : Hid (passL false (lft s j) = lft s j) := Lib.hid (passL_stay (by rw [headIs_in hlt]; simpa using h37) (fun c r h => by rw [lft_cons s j hlt] at h; cases h; exact hb'))
      clear h37 hb'
      go_upto_block 4 with (fail)
      clear q1 q2 q3 q4 q5 hw1
      obtain ⟨wo, rfl⟩ : ∃ wo : World, wo = wr := ⟨_, rfl⟩
      obtain ⟨wb, hwb⟩ : ∃ wb, wb = wo.alloc (.cells #[.int .i64 0, .string ⟨#[]⟩, .int .i64 0, .int .i64 (j : Int)] 54) := ⟨_, rfl⟩
      have HB : Hid (Box4 wb wo.heap.size (.int .i64 0) (.string ⟨#[]⟩) (.int .i64 0) (.int .i64 (j : Int))) := Lib.hid (by rw [hwb]; exact Box4.new wo _ _ _ _ _)
      have hxb : Ext wo wb := by rw [hwb]; exact (Ext.refl wo).alloc _
      rw [← hwb]
      clear hwb
      go_cut [9] (fun v9 wx => ∃ (t : Tok) (i : Nat), v9 = .int .i64 i ∧ Hid (ResT s j t i) ∧ Hid (Box4 wx wo.heap.size (.int .i64 t.kind) (.string t.text) (.int .i64 t.n) (.int .i64 (j : Int))) ∧ Ext wo wx)
      case first =>
       as_aux_lemma =>
        have FAIL : Hid (∀ (x : Int) (wz : World), tokL (lft s j) = .inl x → Ext wo wz → LexOut w (lexT s) (lexA s) (lexE s) (.returned (.tuple #[.slice none 0 0, .int .i64 (j : Int), .int .i64 x])) wz) := Lib.hid (fun x wz hx hz => by
         have hT := toks_err hlt HP.out hx HJ.out
         have h1 : lexT s = [] := by rw [HR.out.1, hT]
         have h2 : lexA s = (j : Int) := by rw [HR.out.2.1, hT]
         have h3 : lexE s = x := by rw [HR.out.2.2, hT]
         exact ⟨.slice none 0 0, w.heap.size, by rw [h2, h3], by rw [h1]; exact World.ownsRow_nil _ _ _ _, Nat.le_refl _, hx1.trans (hxr.trans hz)⟩)
        obtain ⟨b0, b1, b2, b3, f0, f1, f2, f3⟩ := HB.out
        clear HJ HR HL hown HP
        by_cases hw : (smlB s[j] || grtB s[j]) = true
        ·
         have hin := inn_of hw
         have hnd : digB s[j] = false := by
          unfold smlB grtB at hw; unfold digB
          simp at hw ⊢; omega
         have hn95 : (((s[j].toNat : Nat) : Int) != 95) = true := by
          unfold smlB grtB at hw
          simp at hw ⊢; omega
         have KL := fun u => Lib.hid (letter_be s[j] true u hin)
         have KD := fun u => Lib.hid (digit_be s[j] false u hnd)
         have HW := Lib.hid hw
         clear hw hin hnd
         go_upto_block 7 with (first
          | (go_at_call 59; refine (KL _).out.mono ?_; rintro e wb ⟨rfl, rfl⟩)
          | (go_at_call 60; refine (KD _).out.mono ?_; rintro e wb ⟨rfl, rfl⟩))
         go_cut [9] (fun a wq => a = .int .i64 ((j + runN innB s j : Nat) : Int) ∧ wq = wb)
         case first =>
          as_aux_lemma =>
           go_wp2_with fail
           go_loopg [9] (s.size - j) (fun n a wq => ∃ i : Nat, j ≤ i ∧ i + n = s.size ∧ a = .int .i64 i ∧ Hid (j + runN innB s j = i + runN innB s i) ∧ wq = wb)
           case atStart => exact ⟨j, Nat.le_refl _, by omega, rfl, Lib.hid rfl, rfl⟩
           case round =>
            obtain ⟨i, hji, hi, rfl, HT, rfl⟩ := hrel
            by_cases hli : i < s.size
            ·
             have hl' : decide ((i : Int) < (s.size : Int)) = true := decide_eq_true (by omega)
             have i0 : (0 : Int) ≤ (i : Int) := Int.natCast_nonneg _
             have hw2 : IntKind.i64.wrap ((i : Int) + 1) = ((i + 1 : Nat) : Int) := by rw [IntKind.wrap_i64]; omega
             cases hi2 : innB s[i] with
             | true =>
              have KI := fun u => Lib.hid (letter_be s[i] true u hi2)
              have HT2 : Hid (j + runN innB s j = (i + 1) + runN innB s (i + 1)) := Lib.hid (by rw [HT.out, runN_yes hli hi2]; omega)
              clear HT hi2
              go_wp2_with (go_at_call 59; refine (KI _).out.mono ?_; rintro e w' ⟨rfl, rfl⟩)
              go_roundg (s.size - (i + 1))
              case rel => exact ⟨i + 1, by omega, by omega, rfl, HT2, rfl⟩
              case measure => omega
             | false =>
              have KI := fun u => Lib.hid (letter_be s[i] false u hi2)
              have HT2 : Hid (j + runN innB s j = i) := Lib.hid (by rw [HT.out, runN_no hli hi2]; omega)
              clear HT hi2
              go_wp2_with (go_at_call 59; refine (KI _).out.mono ?_; rintro e w' ⟨rfl, rfl⟩)
              go_meet
              exact ⟨by rw [HT2.out], rfl⟩
            ·
             have hl' : decide ((i : Int) < (s.size : Int)) = false := decide_eq_false (by omega)
             have HT2 : Hid (j + runN innB s j = i) := Lib.hid (by rw [HT.out, runN_end (by omega)]; omega)
             clear HT
             go_wp2_with fail
             go_meet
             exact ⟨by rw [HT2.out], rfl⟩
         case rest =>
          as_aux_lemma =>
           obtain ⟨rfl, rfl⟩ := hcut
           have his := runN_le innB (s := s) (k := j) (by omega)
           obtain ⟨i, hi⟩ : ∃ i, i = j + runN innB s j := ⟨_, rfl⟩
           have hji : j ≤ i := by omega
           rw [← hi] at his ⊢
           have HI := Lib.hid hi
           clear hi
           have j0' : (0 : Int) ≤ (j : Int) := Int.natCast_nonneg _
           have hjs : (j : Int) ≤ (i : Int) := by omega
           have his' : (i : Int) ≤ (s.size : Int) := by omega
           have hwl := HB.out.lt
           go_wp2_with fail
           go_region
           have HBd := Lib.hid ((HB.out.set01 (.int .i64 1) (.string (s.extract j i))).ext ((Ext.refl _).drew))
           have hxd : Ext wo ((wc.setCell ⟨wo.heap.size, 0, none⟩ (.int .i64 1)).setCell ⟨wo.heap.size, 1, none⟩ (.string (s.extract j i))).drew := ((hxb.setCell (Nat.le_refl _) _).setCell (Nat.le_refl _) _).drew
           generalize ((wc.setCell ⟨wo.heap.size, 0, none⟩ (.int .i64 1)).setCell ⟨wo.heap.size, 1, none⟩ (.string (s.extract j i))).drew = wd at HBd hxd ⊢
           clear b0 b1 b2 b3 f0 f1 f2 f3
           obtain ⟨b0, b1, b2, b3, f0, f1, f2, f3⟩ := HBd.out
           have hw3 : IntKind.i64.wrap ((i : Int) - (j : Int)) = ((i - j : Nat) : Int) := by rw [IntKind.wrap_i64]; omega
           cases hsm : smlB s[j] with
           | true =>
            have q90 : decide (((s[j].toNat : Nat) : Int) ≤ 90) = false := decide_eq_false (by unfold smlB at hsm; simp at hsm; omega)
            have HS := Lib.hid hsm
            clear hsm HB
            by_cases hn : runN innB s j ≤ 16
            ·
             have h16 : decide ((16 : Int) < ((i - j : Nat) : Int)) = false := decide_eq_false (by have := HI.out; omega)
             have HRT : Hid (ResT s j ⟨1, s.extract j i, 0, 0⟩ i) := Lib.hid (by have := (word_res hlt HW.out 1 (by rw [HS.out]; rfl)).1 hn; rw [← HI.out] at this; exact this)
             go_wp2_with fail
             go_meet
             exact ⟨⟨1, s.extract j i, 0, 0⟩, i, rfl, HRT, HBd, hxd⟩
            ·
             have h16 : decide ((16 : Int) < ((i - j : Nat) : Int)) = true := decide_eq_true (by have := HI.out; omega)
             have HRT := Lib.hid ((word_res hlt HW.out 1 (by rw [HS.out]; rfl)).2 (by omega))
             go_wp2_with fail
             go_ret3
             exact FAIL.out 2 _ HRT.out hxd
           | false =>
            have q90 : decide (((s[j].toNat : Nat) : Int) ≤ 90) = true := decide_eq_true (by have h1 := HW.out; rw [hsm, Bool.false_or] at h1; unfold grtB at h1; simp at h1; omega)
            have HS := Lib.hid hsm
            have HBe := Lib.hid (HBd.out.set0 (.int .i64 2))
            have hxe : Ext wo (wd.setCell ⟨wo.heap.size, 0, none⟩ (.int .i64 2)) := hxd.setCell (Nat.le_refl _) _
            clear hsm HB
            by_cases hn : runN innB s j ≤ 16
            ·
             have h16 : decide ((16 : Int) < ((i - j : Nat) : Int)) = false := decide_eq_false (by have := HI.out; omega)
             have HRT : Hid (ResT s j ⟨2, s.extract j i, 0, 0⟩ i) := Lib.hid (by have := (word_res hlt HW.out 2 (by rw [HS.out]; rfl)).1 hn; rw [← HI.out] at this; exact this)
             go_wp2_with fail
             go_meet
             exact ⟨⟨2, s.extract j i, 0, 0⟩, i, rfl, HRT, HBe, hxe⟩
            ·
             have h16 : decide ((16 : Int) < ((i - j : Nat) : Int)) = true := decide_eq_true (by have := HI.out; omega)
             have HRT := Lib.hid ((word_res hlt HW.out 2 (by rw [HS.out]; rfl)).2 (by omega))
             go_wp2_with fail
             go_ret3
             exact FAIL.out 2 _ HRT.out hxe
        ·
         have hw' : (smlB s[j] || grtB s[j]) = false := by simpa using hw
         clear hw
         have hw1 : IntKind.i64.wrap ((j : Int) + 1) = ((j + 1 : Nat) : Int) := by rw [IntKind.wrap_i64]; omega
         cases hdig : digB s[j] with
         | true =>
          have hrg := digB_range hdig
          have KL := fun u => Lib.hid (letter_be s[j] true u (by unfold innB; rw [hdig]; simp))
          have KD := fun u => Lib.hid (digit_be s[j] true u hdig)
          have q45 : (((s[j].toNat : Nat) : Int) == 45) = false := by simp; omega
          have q45' : (s[j] == 45) = false := by rw [← u8_beq s[j] 45]; exact q45
          have hK : numK s j = j := by unfold numK; rw [headIs_in hlt, q45']; rfl
          have HRES := Lib.hid (fun v i hv hi => number_res (v := v) (i := i) hlt hw' (by rw [hdig]; rfl) hv hi)
          rw [hK, q45'] at HRES
          have HS0 : Hid (numL (s[j].toNat - 48) ((lft s (j + 1)).takeWhile digB) = numL 0 ((lft s j).takeWhile digB)) := Lib.hid (num_start hlt hdig)
          have HS1 : Hid ((j + 1) + runN digB s (j + 1) = j + runN digB s j) := Lib.hid (by rw [runN_yes hlt hdig]; omega)
          have hw8 : IntKind.u8.wrap ((s[j].toNat : Int) - 48) = ((s[j].toNat - 48 : Nat) : Int) := by rw [IntKind.wrap_u8]; omega
          obtain ⟨v0, hv0⟩ : ∃ v0, v0 = s[j].toNat - 48 := ⟨_, rfl⟩
          have hvb : v0 ≤ 9 := by omega
          rw [← hv0] at hw8 HS0
          clear hv0 hdig q45' hK hw'
          go_upto_block 9 with (first
           | (go_at_call 59; refine (KL _).out.mono ?_; rintro e wb ⟨rfl, rfl⟩)
           | (go_at_call 60; refine (KD _).out.mono ?_; rintro e wb ⟨rfl, rfl⟩))
          go_cut [9, 11] (fun a v wq => ∃ i x : Nat, a = .int .i64 i ∧ v = .int .i64 x ∧ x ≤ 1073741825 ∧ Hid (numL 0 ((lft s j).takeWhile digB) = x ∧ j + runN digB s j = i) ∧ wq = wb)
          case first =>
           as_aux_lemma =>
            go_wp2_with fail
            go_loopg [9, 11] (s.size - (j + 1)) (fun n a v wq => ∃ i x : Nat, i + n = s.size ∧ j + 1 ≤ i ∧ a = .int .i64 i ∧ v = .int .i64 x ∧ x ≤ 1073741825 ∧ Hid (numL x ((lft s i).takeWhile digB) = numL 0 ((lft s j).takeWhile digB)) ∧ Hid (i + runN digB s i = j + runN digB s j) ∧ wq = wb)
            case atStart => exact ⟨j + 1, v0, by omega, by omega, rfl, rfl, by omega, HS0, HS1, rfl⟩
            case round =>
             obtain ⟨i, x, hi, hji, rfl, rfl, hx, HX, HI, rfl⟩ := hrel
             by_cases hli : i < s.size
             ·
              have hl' : decide ((i : Int) < (s.size : Int)) = true := decide_eq_true (by omega)
              have i0 : (0 : Int) ≤ (i : Int) := Int.natCast_nonneg _
              have hw2 : IntKind.i64.wrap ((i : Int) + 1) = ((i + 1 : Nat) : Int) := by rw [IntKind.wrap_i64]; omega
              cases hi2 : digB s[i] with
              | true =>
               have hrg2 := digB_range hi2
               have KI := fun u => Lib.hid (digit_be s[i] true u hi2)
               have hw9 : IntKind.u8.wrap ((s[i].toNat : Int) - 48) = ((s[i].toNat - 48 : Nat) : Int) := by rw [IntKind.wrap_u8]; omega
               obtain ⟨y, hy⟩ : ∃ y, y = min (10 * x + (s[i].toNat - 48)) 1073741825 := ⟨_, rfl⟩
               have hmin : min (10 * (x : Int) + ((s[i].toNat - 48 : Nat) : Int)) 1073741825 = (y : Int) := by omega
               have HX2 : Hid (numL y ((lft s (i + 1)).takeWhile digB) = numL 0 ((lft s j).takeWhile digB)) := Lib.hid ((num_step hli hi2 hy).trans HX.out)
               have HI2 : Hid ((i + 1) + runN digB s (i + 1) = j + runN digB s j) := Lib.hid (by rw [← HI.out, runN_yes hli hi2]; omega)
               have hyb : y ≤ 1073741825 := by omega
               clear HX HI hi2 hy
               go_wp2_with (go_at_call 60; refine (KI _).out.mono ?_; rintro e w' ⟨rfl, rfl⟩)
               go_roundg (s.size - (i + 1))
               case rel => exact ⟨i + 1, y, by omega, by omega, rfl, rfl, hyb, HX2, HI2, rfl⟩
               case measure => omega
              | false =>
               have KI := fun u => Lib.hid (digit_be s[i] false u hi2)
               obtain ⟨hs1, hs2⟩ := num_stop (v := x) (.inr ⟨hli, hi2⟩)
               have HT2 : Hid (numL 0 ((lft s j).takeWhile digB) = x ∧ j + runN digB s j = i) := Lib.hid ⟨by rw [← HX.out, hs1], by rw [← HI.out, hs2]; rfl⟩
               clear HX HI hi2 hs1 hs2
               go_wp2_with (go_at_call 60; refine (KI _).out.mono ?_; rintro e w' ⟨rfl, rfl⟩)
               go_meet
               exact ⟨i, x, rfl, rfl, hx, HT2, rfl⟩
             ·
              have hl' : decide ((i : Int) < (s.size : Int)) = false := decide_eq_false (by omega)
              obtain ⟨hs1, hs2⟩ := num_stop (v := x) (.inl (show s.size ≤ i by omega))
              have HT2 : Hid (numL 0 ((lft s j).takeWhile digB) = x ∧ j + runN digB s j = i) := Lib.hid ⟨by rw [← HX.out, hs1], by rw [← HI.out, hs2]; rfl⟩
              clear HX HI hs1 hs2
              go_wp2_with fail
              go_meet
              exact ⟨i, x, rfl, rfl, hx, HT2, rfl⟩
          case rest =>
           as_aux_lemma =>
            obtain ⟨i, x, rfl, rfl, hx, HT, rfl⟩ := hcut
            have HRES := Lib.hid (HRES.out x i HT.out.1 HT.out.2)
            by_cases hn : x ≤ 1073741824
            ·
             have h16 : decide ((1073741824 : Int) < (x : Int)) = false := decide_eq_false (by omega)
             have HRT := Lib.hid (HRES.out.1 hn)
             have HBe := Lib.hid (HB.out.set02 (.int .i64 3) (.int .i64 (x : Int)))
             have hxe : Ext wo ((wc.setCell ⟨wo.heap.size, 0, none⟩ (.int .i64 3)).setCell ⟨wo.heap.size, 2, none⟩ (.int .i64 (x : Int))) := (hxb.setCell (Nat.le_refl _) _).setCell (Nat.le_refl _) _
             clear HRES HT HB
             go_wp2_with fail
             go_meet
             exact ⟨⟨3, ⟨#[]⟩, (x : Int), 0⟩, i, rfl, HRT, HBe, hxe⟩
            ·
             have h16 : decide ((1073741824 : Int) < (x : Int)) = true := decide_eq_true (by omega)
             have HRT := Lib.hid (HRES.out.2 (by omega))
             clear HRES HT
             go_wp2_with fail
             go_ret3
             exact FAIL.out 2 _ HRT.out hxb
         | false =>
          have KD := fun u => Lib.hid (digit_be s[j] false u hdig)
          obtain ⟨m, hm⟩ : ∃ m, m = j + 1 := ⟨_, rfl⟩
          clear hw1
          have hw1 : IntKind.i64.wrap ((j : Int) + 1) = (m : Int) := by rw [IntKind.wrap_i64]; omega
          cases hmin : minB s j with
          | true =>
           have hm2 : (s[j] == 45) = true ∧ digB ((lft s m).headD 0) = true := by
            have h := hmin
            unfold minB at h
            rw [lft_cons s j hlt] at h
            simp only [Bool.and_eq_true] at h
            rw [hm]
            exact h
           obtain ⟨h45, hd2⟩ := hm2
           have hms : m < s.size := by
            rcases Nat.lt_or_ge m s.size with h | h
            ·
             exact h
            ·
             rw [show lft s m = [] from List.drop_eq_nil_of_le (by simpa using h)] at hd2
             exact absurd hd2 (by decide)
           have hdm : digB s[m] = true := by rw [lft_cons s m hms] at hd2; exact hd2
           have q45 : (((s[j].toNat : Nat) : Int) == 45) = true := (u8_beq s[j] 45).trans h45
           have KL := fun u => Lib.hid (letter_be s[j] false u (by rw [beq_iff_eq.1 h45]; rfl))
           have KD2 := fun u => Lib.hid (digit_be s[m] true u hdm)
           have hK : numK s j = m := by unfold numK; rw [headIs_in hlt, h45, hm]; rfl
           have HRES := Lib.hid (fun v i hv hi => number_res (v := v) (i := i) hlt hw' (by rw [hmin]; simp) hv hi)
           rw [hK, h45] at HRES
           have hl3 : decide ((m : Int) < (s.size : Int)) = true := decide_eq_true (by omega)
           have m0 : (0 : Int) ≤ (m : Int) := Int.natCast_nonneg _
           have hjm : j < m := by omega
           clear hmin h45 hd2 hdm hK hw' hdig hm
           go_wp2_with fail
           refine (KL _).out.mono ?_
           rintro e wb ⟨rfl, rfl⟩
           go_wp2_with fail
           refine (KD _).out.mono ?_
           rintro e wb ⟨rfl, rfl⟩
           go_wp2_with fail
           refine (KD2 _).out.mono ?_
           rintro e wb ⟨rfl, rfl⟩
           go_wp2_with fail
           refine (KD _).out.mono ?_
           rintro e wb ⟨rfl, rfl⟩
           go_upto_block 9 with (fail)
           go_cut [9, 11] (fun a v wq => ∃ i x : Nat, a = .int .i64 i ∧ v = .int .i64 x ∧ x ≤ 1073741825 ∧ Hid (numL 0 ((lft s m).takeWhile digB) = x ∧ m + runN digB s m = i) ∧ wq = wb)
           case first =>
            as_aux_lemma =>
             go_wp2_with fail
             go_loopg [9, 11] (s.size - m) (fun n a v wq => ∃ i x : Nat, i + n = s.size ∧ m ≤ i ∧ a = .int .i64 i ∧ v = .int .i64 x ∧ x ≤ 1073741825 ∧ Hid (numL x ((lft s i).takeWhile digB) = numL 0 ((lft s m).takeWhile digB)) ∧ Hid (i + runN digB s i = m + runN digB s m) ∧ wq = wb)
             case atStart => exact ⟨m, 0, by omega, by omega, rfl, rfl, by omega, Lib.hid rfl, Lib.hid rfl, rfl⟩
             case round =>
              obtain ⟨i, x, hi, hji, rfl, rfl, hx, HX, HI, rfl⟩ := hrel
              by_cases hli : i < s.size
              ·
               have hl' : decide ((i : Int) < (s.size : Int)) = true := decide_eq_true (by omega)
               have i0 : (0 : Int) ≤ (i : Int) := Int.natCast_nonneg _
               have hw2 : IntKind.i64.wrap ((i : Int) + 1) = ((i + 1 : Nat) : Int) := by rw [IntKind.wrap_i64]; omega
               cases hi2 : digB s[i] with
               | true =>
                have hrg2 := digB_range hi2
                have KI := fun u => Lib.hid (digit_be s[i] true u hi2)
                have hw9 : IntKind.u8.wrap ((s[i].toNat : Int) - 48) = ((s[i].toNat - 48 : Nat) : Int) := by rw [IntKind.wrap_u8]; omega
                obtain ⟨y, hy⟩ : ∃ y, y = min (10 * x + (s[i].toNat - 48)) 1073741825 := ⟨_, rfl⟩
                have hmin : min (10 * (x : Int) + ((s[i].toNat - 48 : Nat) : Int)) 1073741825 = (y : Int) := by omega
                have HX2 : Hid (numL y ((lft s (i + 1)).takeWhile digB) = numL 0 ((lft s m).takeWhile digB)) := Lib.hid ((num_step hli hi2 hy).trans HX.out)
                have HI2 : Hid ((i + 1) + runN digB s (i + 1) = m + runN digB s m) := Lib.hid (by rw [← HI.out, runN_yes hli hi2]; omega)
                have hyb : y ≤ 1073741825 := by omega
                clear HX HI hi2 hy
                go_wp2_with (go_at_call 60; refine (KI _).out.mono ?_; rintro e w' ⟨rfl, rfl⟩)
                go_roundg (s.size - (i + 1))
                case rel => exact ⟨i + 1, y, by omega, by omega, rfl, rfl, hyb, HX2, HI2, rfl⟩
                case measure => omega
               | false =>
                have KI := fun u => Lib.hid (digit_be s[i] false u hi2)
                obtain ⟨hs1, hs2⟩ := num_stop (v := x) (.inr ⟨hli, hi2⟩)
                have HT2 : Hid (numL 0 ((lft s m).takeWhile digB) = x ∧ m + runN digB s m = i) := Lib.hid ⟨by rw [← HX.out, hs1], by rw [← HI.out, hs2]; rfl⟩
                clear HX HI hi2 hs1 hs2
                go_wp2_with (go_at_call 60; refine (KI _).out.mono ?_; rintro e w' ⟨rfl, rfl⟩)
                go_meet
                exact ⟨i, x, rfl, rfl, hx, HT2, rfl⟩
              ·
               have hl' : decide ((i : Int) < (s.size : Int)) = false := decide_eq_false (by omega)
               obtain ⟨hs1, hs2⟩ := num_stop (v := x) (.inl (show s.size ≤ i by omega))
               have HT2 : Hid (numL 0 ((lft s m).takeWhile digB) = x ∧ m + runN digB s m = i) := Lib.hid ⟨by rw [← HX.out, hs1], by rw [← HI.out, hs2]; rfl⟩
               clear HX HI hs1 hs2
               go_wp2_with fail
               go_meet
               exact ⟨i, x, rfl, rfl, hx, HT2, rfl⟩
           case rest =>
            as_aux_lemma =>
             obtain ⟨i, x, rfl, rfl, hx, HT, rfl⟩ := hcut
             have HRES := Lib.hid (HRES.out x i HT.out.1 HT.out.2)
             by_cases hn : x ≤ 1073741824
             ·
              have h16 : decide ((1073741824 : Int) < (x : Int)) = false := decide_eq_false (by omega)
              have HRT := Lib.hid (HRES.out.1 hn)
              have HBe := Lib.hid (HB.out.set02 (.int .i64 3) (.int .i64 (-(x : Int))))
              have hxe : Ext wo ((wc.setCell ⟨wo.heap.size, 0, none⟩ (.int .i64 3)).setCell ⟨wo.heap.size, 2, none⟩ (.int .i64 (-(x : Int)))) := (hxb.setCell (Nat.le_refl _) _).setCell (Nat.le_refl _) _
              have hw7 : IntKind.i64.wrap (-(x : Int)) = -(x : Int) := by rw [IntKind.wrap_i64]; omega
              clear HRES HT HB
              go_wp2_with fail
              go_meet
              exact ⟨⟨3, ⟨#[]⟩, (-(x : Int)), 0⟩, i, rfl, HRT, HBe, hxe⟩
             ·
              have h16 : decide ((1073741824 : Int) < (x : Int)) = true := decide_eq_true (by omega)
              have HRT := Lib.hid (HRES.out.2 (by omega))
              clear HRES HT
              go_wp2_with fail
              go_ret3
              exact FAIL.out 2 _ HRT.out hxb
          | false =>
           have hcase : (∃ r r2 : Bool, innB s[j] = r ∧ (r = true → (((s[j].toNat : Nat) : Int) != 95) = false) ∧ (((s[j].toNat : Nat) : Int) == 45) = false ∧ r2 = true) ∨ (innB s[j] = false ∧ (((s[j].toNat : Nat) : Int) == 45) = true ∧ s.size ≤ m) ∨ (innB s[j] = false ∧ (((s[j].toNat : Nat) : Int) == 45) = true ∧ ∃ h : m < s.size, digB s[m] = false) := by
            cases h45 : (((s[j].toNat : Nat) : Int) == 45) with
            | false =>
             refine .inl ⟨innB s[j], true, rfl, fun hr => ?_, rfl, rfl⟩
             unfold innB at hr
             rw [hw', hdig, Bool.false_or, Bool.false_or] at hr
             rw [beq_iff_eq.1 hr]; rfl
            | true =>
             have h45' : (s[j] == 45) = true := (u8_beq s[j] 45).symm.trans h45
             have hin : innB s[j] = false := by rw [beq_iff_eq.1 h45']; rfl
             rcases Nat.lt_or_ge m s.size with h | h
             ·
              refine .inr (.inr ⟨hin, rfl, h, ?_⟩)
              unfold minB at hmin
              rw [lft_cons s j hlt] at hmin
              simp only [h45', Bool.true_and] at hmin
              rw [← hm, lft_cons s m h] at hmin
              exact hmin
             ·
              exact .inr (.inl ⟨hin, rfl, h⟩)
           have HMK := Lib.hid (marks_res hlt hw' hdig hmin)
           have HRM := Lib.hid (HM.out.ext (hxr.trans hxb))
           clear hw' hmin hdig hm
           rcases hcase with ⟨r, _, hin, h95, q45, _⟩ | ⟨hin, q45, hms⟩ | ⟨hin, q45, hms, hdm⟩
           ·
            cases r with
            | true =>
             have q95 := h95 rfl
             have KL := fun u => Lib.hid (letter_be s[j] true u hin)
             clear h95 hin
             go_wp2_with fail
             refine (KL _).out.mono ?_
             rintro e wb ⟨rfl, rfl⟩
             go_wp2_with fail
             refine (KD _).out.mono ?_
             rintro e wb ⟨rfl, rfl⟩
             go_wp2_with fail
             refine (KD _).out.mono ?_
             rintro e wb ⟨rfl, rfl⟩
             go_upto_block 5 with (fail)
             go_cut [9] (fun a wq => Hid (rfind (lft s j) = none ∧ a = .int .i64 (j : Int) ∧ Box4 wq wo.heap.size (.int .i64 0) (.string ⟨#[]⟩) (.int .i64 0) (.int .i64 (j : Int)) ∧ Ext wo wq) ∨ Hid (∃ mk i, rfind (lft s j) = some mk ∧ i = j + mk.length ∧ a = .int .i64 ((i : Nat) : Int) ∧ Box4 wq wo.heap.size (.int .i64 4) (.string ⟨mk.toArray⟩) (.int .i64 0) (.int .i64 (j : Int)) ∧ Ext wo wq))
             case first =>
              as_aux_lemma =>
               go_wp2_with fail
               go_loopg [9, 12] 15 (fun n a q wq => ∃ i : Nat, i + n = 15 ∧ q = .int .i64 i ∧ (Hid (rfind (lft s j) = (rmkL.drop i).find? (fun m => (lft s j).take m.length == m) ∧ a = .int .i64 (j : Int) ∧ Box4 wq wo.heap.size (.int .i64 0) (.string ⟨#[]⟩) (.int .i64 0) (.int .i64 (j : Int)) ∧ Ext wo wq) ∨ Hid (∃ mk i, rfind (lft s j) = some mk ∧ i = j + mk.length ∧ a = .int .i64 ((i : Nat) : Int) ∧ Box4 wq wo.heap.size (.int .i64 4) (.string ⟨mk.toArray⟩) (.int .i64 0) (.int .i64 (j : Int)) ∧ Ext wo wq)))
               case atStart => exact ⟨0, rfl, rfl, .inl (Lib.hid ⟨rfl, rfl, HB.out, hxb⟩)⟩
               case round =>
                obtain ⟨q, hq, rfl, hAB⟩ := hrel
                clear b0 b1 b2 b3 f0 f1 f2 f3
                rcases hAB with HA | HA
                ·
                 obtain ⟨hfind, rfl, HBq, hxq⟩ := HA.out
                 have HFD := Lib.hid hfind
                 have HBq := Lib.hid HBq
                 obtain ⟨b0, b1, b2, b3, f0, f1, f2, f3⟩ := HBq.out
                 clear hfind HA
                 by_cases hq15 : q < 15
                 ·
                  have hlq : decide ((q : Int) < 15) = true := decide_eq_true (by omega)
                  have q0 : (0 : Int) ≤ (q : Int) := Int.natCast_nonneg _
                  have qq : (q : Int) < 15 := by omega
                  have hc := (HM.out.ext (hxr.trans hxq)) q hq15
                  have hrs := hxr.size
                  have hneA : w.heap.size ≠ wo.heap.size := by omega
                  have hneB : wo.heap.size ≠ w.heap.size := by omega
                  have HDR : Hid (rmkL.drop q = (rmkL[q]'hq15) :: rmkL.drop (q + 1)) := Lib.hid (List.drop_eq_getElem_cons (show q < rmkL.length from hq15))
                  have hmk2 : 1 ≤ (rmkL[q]'hq15).length ∧ (rmkL[q]'hq15).length ≤ 2 := by
                   have : ∀ l ∈ rmkL, 1 ≤ l.length ∧ l.length ≤ 2 := by decide
                   exact this _ (List.getElem_mem _)
                  generalize (rmkL[q]'hq15) = mk at hc hmk2 HDR
                  obtain ⟨tm, htm⟩ : ∃ tm : ByteArray, tm = ⟨mk.toArray⟩ := ⟨_, rfl⟩
                  obtain ⟨z, hz⟩ : ∃ z, z = mk.length := ⟨_, rfl⟩
                  have htz : tm.size = z := by rw [htm, hz]; simp [ByteArray.size]
                  rw [← htm] at hc
                  obtain ⟨i2, hi2⟩ : ∃ i2, i2 = j + z := ⟨_, rfl⟩
                  have hw5 : IntKind.i64.wrap ((j : Int) + (z : Int)) = (i2 : Int) := by rw [IntKind.wrap_i64]; omega
                  have hwq : IntKind.i64.wrap ((q : Int) + 1) = ((q + 1 : Nat) : Int) := by rw [IntKind.wrap_i64]; omega
                  have j00 : (0 : Int) ≤ (j : Int) := Int.natCast_nonneg _
                  have j01 : (j : Int) ≤ (i2 : Int) := by omega
                  have hll := lft_len s j
                  have hex : i2 ≤ s.size → (s.extract j i2).data.toList = (lft s j).take z := fun h => by rw [ext_list, hi2]; congr 1; omega
                  by_cases hP : ((lft s j).take mk.length == mk) = true
                  ·
                   have hP2 := beq_iff_eq.1 hP
                   have hle : i2 ≤ s.size := by
                    have := congrArg List.length hP2
                    rw [List.length_take] at this
                    omega
                   have hxe : s.extract j i2 = tm := by
                    apply ByteArray.ext
                    apply Array.ext'
                    rw [hex hle, hz, hP2, htm]
                   have HN : Hid (∃ mk' i', rfind (lft s j) = some mk' ∧ i' = j + mk'.length ∧ i2 = i' ∧ tm = ⟨mk'.toArray⟩) := Lib.hid ⟨mk, i2, by rw [HFD.out, HDR.out]; exact List.find?_cons_of_pos (p := fun m => (lft s j).take m.length == m) hP, by rw [hi2, hz], rfl, htm⟩
                   have hl6 : decide ((i2 : Int) ≤ (s.size : Int)) = true := decide_eq_true (by omega)
                   have hle' : (i2 : Int) ≤ (s.size : Int) := by omega
                   have hjz : j ≤ i2 := by omega
                   clear hP hP2 hex hll htm hz hi2 HDR HFD hmk2
                   go_wp2_with fail
                   go_quiet (fail)
                   go_wp2_with fail
                   go_region
                   all_goals
                    have HBd := Lib.hid ((HBq.out.ext ((Ext.refl _).drewN (nq + 1))).set01 (.int .i64 4) (.string tm))
                    have hxd : Ext wo (((wr.drewN (nq + 1)).setCell ⟨wo.heap.size, 0, none⟩ (.int .i64 4)).setCell ⟨wo.heap.size, 1, none⟩ (.string tm)) := ((hxq.drewN (nq + 1)).setCell (Nat.le_refl _) _).setCell (Nat.le_refl _) _
                    generalize ((wr.drewN (nq + 1)).setCell ⟨wo.heap.size, 0, none⟩ (.int .i64 4)).setCell ⟨wo.heap.size, 1, none⟩ (.string tm) = wd at HBd hxd ⊢
                    clear b0 b1 b2 b3 f0 f1 f2 f3 hc
                    go_wp2_with fail
                    go_roundg (15 - (q + 1))
                    case rel =>
                     obtain ⟨mk', i', h1, h2, h3, h4⟩ := HN.out
                     exact ⟨q + 1, by omega, rfl, .inr (Lib.hid ⟨mk', i', h1, h2, by rw [h3], by rw [← h4]; exact HBd.out, hxd⟩)⟩
                    case measure => omega
                  ·
                   have HFD2 : Hid (rfind (lft s j) = (rmkL.drop (q + 1)).find? (fun m => (lft s j).take m.length == m)) := Lib.hid (by rw [HFD.out, HDR.out]; exact List.find?_cons_of_neg (p := fun m => (lft s j).take m.length == m) hP)
                   by_cases hle : i2 ≤ s.size
                   ·
                    have hxn : ¬ s.extract j i2 = tm := fun e => hP (by
                     rw [← hz, ← hex hle, e, htm]; simp)
                    have hxb1 : ((s.extract j i2).toList == tm.toList) = false := by
                     rw [Lib.toList_data, Lib.toList_data, beq_eq_false_iff_ne]
                     exact fun e => hxn (ByteArray.ext (Array.ext' e))
                    have hl6 : decide ((i2 : Int) ≤ (s.size : Int)) = true := decide_eq_true (by omega)
                    have hle' : (i2 : Int) ≤ (s.size : Int) := by omega
                    have hjz : j ≤ i2 := by omega
                    clear hP hex hll htm hz hi2 HDR HFD hmk2
                    go_wp2_with fail
                    go_quiet (fail)
                    go_wp2_with fail
                    go_roundg (15 - (q + 1))
                    case rel => exact ⟨q + 1, by omega, rfl, .inl (Lib.hid ⟨HFD2.out, rfl, HBq.out.ext ((Ext.refl _).drewN _), hxq.drewN _⟩)⟩
                    case measure => omega
                   ·
                    have hl6 : decide ((i2 : Int) ≤ (s.size : Int)) = false := decide_eq_false (by omega)
                    clear hP hex hll htm hz hi2 HDR HFD hmk2
                    go_wp2_with fail
                    go_quiet (fail)
                    go_wp2_with fail
                    go_roundg (15 - (q + 1))
                    case rel => exact ⟨q + 1, by omega, rfl, .inl (Lib.hid ⟨HFD2.out, rfl, HBq.out.ext ((Ext.refl _).drewN _), hxq.drewN _⟩)⟩
                    case measure => omega
                 ·
                  have hlq : decide ((q : Int) < 15) = false := decide_eq_false (by omega)
                  have HFN : Hid (rfind (lft s j) = none) := Lib.hid (by rw [HFD.out, List.drop_eq_nil_of_le (show rmkL.length ≤ q by show 15 ≤ q; omega)]; rfl)
                  clear HFD
                  go_wp2_with fail
                  go_meet
                  exact .inl (Lib.hid ⟨HFN.out, rfl, HBq.out, hxq⟩)
                ·
                 obtain ⟨mk, i, h1, h2, rfl, h4, h5⟩ := HA.out
                 have HBq := Lib.hid h4
                 obtain ⟨b0, b1, b2, b3, f0, f1, f2, f3⟩ := HBq.out
                 have HN := Lib.hid (And.intro h1 h2)
                 clear h1 h2 h4 HA
                 by_cases hq15 : q < 15
                 ·
                  have hlq : decide ((q : Int) < 15) = true := decide_eq_true (by omega)
                  go_wp2_with fail
                  go_meet
                  exact .inr (Lib.hid ⟨mk, i, HN.out.1, HN.out.2, rfl, HBq.out, h5⟩)
                 ·
                  have hlq : decide ((q : Int) < 15) = false := decide_eq_false (by omega)
                  go_wp2_with fail
                  go_meet
                  exact .inr (Lib.hid ⟨mk, i, HN.out.1, HN.out.2, rfl, HBq.out, h5⟩)
             case rest =>
              as_aux_lemma =>
               rcases hcut with H | H
               ·
                obtain ⟨hf, rfl, HBq, hxq⟩ := H.out
                have HRT := Lib.hid (HMK.out.2 hf)
                obtain ⟨c0, c1, c2, c3, _, _, _, _⟩ := HBq
                clear H hf b0 b1 b2 b3 f0 f1 f2 f3
                go_wp2_with fail
                go_ret3
                exact FAIL.out 4 _ HRT.out hxq
               ·
                obtain ⟨mk, i, hf, hi, rfl, HBq, hxq⟩ := H.out
                have HRT : Hid (ResT s j ⟨4, ⟨mk.toArray⟩, 0, 0⟩ i) := Lib.hid (by rw [hi]; exact HMK.out.1 mk hf)
                have HBq := Lib.hid HBq
                obtain ⟨c0, c1, c2, c3, _, _, _, _⟩ := HBq.out
                clear H hf hi b0 b1 b2 b3 f0 f1 f2 f3
                go_wp2_with fail
                go_meet
                exact ⟨⟨4, ⟨mk.toArray⟩, 0, 0⟩, i, rfl, HRT, HBq, hxq⟩
            | false =>
             have KL := fun u => Lib.hid (letter_be s[j] false u hin)
             clear h95 hin
             go_wp2_with fail
             refine (KL _).out.mono ?_
             rintro e wb ⟨rfl, rfl⟩
             go_wp2_with fail
             refine (KD _).out.mono ?_
             rintro e wb ⟨rfl, rfl⟩
             go_upto_block 5 with (fail)
             go_cut [9] (fun a wq => Hid (rfind (lft s j) = none ∧ a = .int .i64 (j : Int) ∧ Box4 wq wo.heap.size (.int .i64 0) (.string ⟨#[]⟩) (.int .i64 0) (.int .i64 (j : Int)) ∧ Ext wo wq) ∨ Hid (∃ mk i, rfind (lft s j) = some mk ∧ i = j + mk.length ∧ a = .int .i64 ((i : Nat) : Int) ∧ Box4 wq wo.heap.size (.int .i64 4) (.string ⟨mk.toArray⟩) (.int .i64 0) (.int .i64 (j : Int)) ∧ Ext wo wq))
             case first =>
              as_aux_lemma =>
               go_wp2_with fail
               go_loopg [9, 12] 15 (fun n a q wq => ∃ i : Nat, i + n = 15 ∧ q = .int .i64 i ∧ (Hid (rfind (lft s j) = (rmkL.drop i).find? (fun m => (lft s j).take m.length == m) ∧ a = .int .i64 (j : Int) ∧ Box4 wq wo.heap.size (.int .i64 0) (.string ⟨#[]⟩) (.int .i64 0) (.int .i64 (j : Int)) ∧ Ext wo wq) ∨ Hid (∃ mk i, rfind (lft s j) = some mk ∧ i = j + mk.length ∧ a = .int .i64 ((i : Nat) : Int) ∧ Box4 wq wo.heap.size (.int .i64 4) (.string ⟨mk.toArray⟩) (.int .i64 0) (.int .i64 (j : Int)) ∧ Ext wo wq)))
               case atStart => exact ⟨0, rfl, rfl, .inl (Lib.hid ⟨rfl, rfl, HB.out, hxb⟩)⟩
               case round =>
                obtain ⟨q, hq, rfl, hAB⟩ := hrel
                clear b0 b1 b2 b3 f0 f1 f2 f3
                rcases hAB with HA | HA
                ·
                 obtain ⟨hfind, rfl, HBq, hxq⟩ := HA.out
                 have HFD := Lib.hid hfind
                 have HBq := Lib.hid HBq
                 obtain ⟨b0, b1, b2, b3, f0, f1, f2, f3⟩ := HBq.out
                 clear hfind HA
                 by_cases hq15 : q < 15
                 ·
                  have hlq : decide ((q : Int) < 15) = true := decide_eq_true (by omega)
                  have q0 : (0 : Int) ≤ (q : Int) := Int.natCast_nonneg _
                  have qq : (q : Int) < 15 := by omega
                  have hc := (HM.out.ext (hxr.trans hxq)) q hq15
                  have hrs := hxr.size
                  have hneA : w.heap.size ≠ wo.heap.size := by omega
                  have hneB : wo.heap.size ≠ w.heap.size := by omega
                  have HDR : Hid (rmkL.drop q = (rmkL[q]'hq15) :: rmkL.drop (q + 1)) := Lib.hid (List.drop_eq_getElem_cons (show q < rmkL.length from hq15))
                  have hmk2 : 1 ≤ (rmkL[q]'hq15).length ∧ (rmkL[q]'hq15).length ≤ 2 := by
                   have : ∀ l ∈ rmkL, 1 ≤ l.length ∧ l.length ≤ 2 := by decide
                   exact this _ (List.getElem_mem _)
                  generalize (rmkL[q]'hq15) = mk at hc hmk2 HDR
                  obtain ⟨tm, htm⟩ : ∃ tm : ByteArray, tm = ⟨mk.toArray⟩ := ⟨_, rfl⟩
                  obtain ⟨z, hz⟩ : ∃ z, z = mk.length := ⟨_, rfl⟩
                  have htz : tm.size = z := by rw [htm, hz]; simp [ByteArray.size]
                  rw [← htm] at hc
                  obtain ⟨i2, hi2⟩ : ∃ i2, i2 = j + z := ⟨_, rfl⟩
                  have hw5 : IntKind.i64.wrap ((j : Int) + (z : Int)) = (i2 : Int) := by rw [IntKind.wrap_i64]; omega
                  have hwq : IntKind.i64.wrap ((q : Int) + 1) = ((q + 1 : Nat) : Int) := by rw [IntKind.wrap_i64]; omega
                  have j00 : (0 : Int) ≤ (j : Int) := Int.natCast_nonneg _
                  have j01 : (j : Int) ≤ (i2 : Int) := by omega
                  have hll := lft_len s j
                  have hex : i2 ≤ s.size → (s.extract j i2).data.toList = (lft s j).take z := fun h => by rw [ext_list, hi2]; congr 1; omega
                  by_cases hP : ((lft s j).take mk.length == mk) = true
                  ·
                   have hP2 := beq_iff_eq.1 hP
                   have hle : i2 ≤ s.size := by
                    have := congrArg List.length hP2
                    rw [List.length_take] at this
                    omega
                   have hxe : s.extract j i2 = tm := by
                    apply ByteArray.ext
                    apply Array.ext'
                    rw [hex hle, hz, hP2, htm]
                   have HN : Hid (∃ mk' i', rfind (lft s j) = some mk' ∧ i' = j + mk'.length ∧ i2 = i' ∧ tm = ⟨mk'.toArray⟩) := Lib.hid ⟨mk, i2, by rw [HFD.out, HDR.out]; exact List.find?_cons_of_pos (p := fun m => (lft s j).take m.length == m) hP, by rw [hi2, hz], rfl, htm⟩
                   have hl6 : decide ((i2 : Int) ≤ (s.size : Int)) = true := decide_eq_true (by omega)
                   have hle' : (i2 : Int) ≤ (s.size : Int) := by omega
                   have hjz : j ≤ i2 := by omega
                   clear hP hP2 hex hll htm hz hi2 HDR HFD hmk2
                   go_wp2_with fail
                   go_quiet (fail)
                   go_wp2_with fail
                   go_region
                   all_goals
                    have HBd := Lib.hid ((HBq.out.ext ((Ext.refl _).drewN (nq + 1))).set01 (.int .i64 4) (.string tm))
                    have hxd : Ext wo (((wr.drewN (nq + 1)).setCell ⟨wo.heap.size, 0, none⟩ (.int .i64 4)).setCell ⟨wo.heap.size, 1, none⟩ (.string tm)) := ((hxq.drewN (nq + 1)).setCell (Nat.le_refl _) _).setCell (Nat.le_refl _) _
                    generalize ((wr.drewN (nq + 1)).setCell ⟨wo.heap.size, 0, none⟩ (.int .i64 4)).setCell ⟨wo.heap.size, 1, none⟩ (.string tm) = wd at HBd hxd ⊢
                    clear b0 b1 b2 b3 f0 f1 f2 f3 hc
                    go_wp2_with fail
                    go_roundg (15 - (q + 1))
                    case rel =>
                     obtain ⟨mk', i', h1, h2, h3, h4⟩ := HN.out
                     exact ⟨q + 1, by omega, rfl, .inr (Lib.hid ⟨mk', i', h1, h2, by rw [h3], by rw [← h4]; exact HBd.out, hxd⟩)⟩
                    case measure => omega
                  ·
                   have HFD2 : Hid (rfind (lft s j) = (rmkL.drop (q + 1)).find? (fun m => (lft s j).take m.length == m)) := Lib.hid (by rw [HFD.out, HDR.out]; exact List.find?_cons_of_neg (p := fun m => (lft s j).take m.length == m) hP)
                   by_cases hle : i2 ≤ s.size
                   ·
                    have hxn : ¬ s.extract j i2 = tm := fun e => hP (by
                     rw [← hz, ← hex hle, e, htm]; simp)
                    have hxb1 : ((s.extract j i2).toList == tm.toList) = false := by
                     rw [Lib.toList_data, Lib.toList_data, beq_eq_false_iff_ne]
                     exact fun e => hxn (ByteArray.ext (Array.ext' e))
                    have hl6 : decide ((i2 : Int) ≤ (s.size : Int)) = true := decide_eq_true (by omega)
                    have hle' : (i2 : Int) ≤ (s.size : Int) := by omega
                    have hjz : j ≤ i2 := by omega
                    clear hP hex hll htm hz hi2 HDR HFD hmk2
                    go_wp2_with fail
                    go_quiet (fail)
                    go_wp2_with fail
                    go_roundg (15 - (q + 1))
                    case rel => exact ⟨q + 1, by omega, rfl, .inl (Lib.hid ⟨HFD2.out, rfl, HBq.out.ext ((Ext.refl _).drewN _), hxq.drewN _⟩)⟩
                    case measure => omega
                   ·
                    have hl6 : decide ((i2 : Int) ≤ (s.size : Int)) = false := decide_eq_false (by omega)
                    clear hP hex hll htm hz hi2 HDR HFD hmk2
                    go_wp2_with fail
                    go_quiet (fail)
                    go_wp2_with fail
                    go_roundg (15 - (q + 1))
                    case rel => exact ⟨q + 1, by omega, rfl, .inl (Lib.hid ⟨HFD2.out, rfl, HBq.out.ext ((Ext.refl _).drewN _), hxq.drewN _⟩)⟩
                    case measure => omega
                 ·
                  have hlq : decide ((q : Int) < 15) = false := decide_eq_false (by omega)
                  have HFN : Hid (rfind (lft s j) = none) := Lib.hid (by rw [HFD.out, List.drop_eq_nil_of_le (show rmkL.length ≤ q by show 15 ≤ q; omega)]; rfl)
                  clear HFD
                  go_wp2_with fail
                  go_meet
                  exact .inl (Lib.hid ⟨HFN.out, rfl, HBq.out, hxq⟩)
                ·
                 obtain ⟨mk, i, h1, h2, rfl, h4, h5⟩ := HA.out
                 have HBq := Lib.hid h4
                 obtain ⟨b0, b1, b2, b3, f0, f1, f2, f3⟩ := HBq.out
                 have HN := Lib.hid (And.intro h1 h2)
                 clear h1 h2 h4 HA
                 by_cases hq15 : q < 15
                 ·
                  have hlq : decide ((q : Int) < 15) = true := decide_eq_true (by omega)
                  go_wp2_with fail
                  go_meet
                  exact .inr (Lib.hid ⟨mk, i, HN.out.1, HN.out.2, rfl, HBq.out, h5⟩)
                 ·
                  have hlq : decide ((q : Int) < 15) = false := decide_eq_false (by omega)
                  go_wp2_with fail
                  go_meet
                  exact .inr (Lib.hid ⟨mk, i, HN.out.1, HN.out.2, rfl, HBq.out, h5⟩)
             case rest =>
              as_aux_lemma =>
               rcases hcut with H | H
               ·
                obtain ⟨hf, rfl, HBq, hxq⟩ := H.out
                have HRT := Lib.hid (HMK.out.2 hf)
                obtain ⟨c0, c1, c2, c3, _, _, _, _⟩ := HBq
                clear H hf b0 b1 b2 b3 f0 f1 f2 f3
                go_wp2_with fail
                go_ret3
                exact FAIL.out 4 _ HRT.out hxq
               ·
                obtain ⟨mk, i, hf, hi, rfl, HBq, hxq⟩ := H.out
                have HRT : Hid (ResT s j ⟨4, ⟨mk.toArray⟩, 0, 0⟩ i) := Lib.hid (by rw [hi]; exact HMK.out.1 mk hf)
                have HBq := Lib.hid HBq
                obtain ⟨c0, c1, c2, c3, _, _, _, _⟩ := HBq.out
                clear H hf hi b0 b1 b2 b3 f0 f1 f2 f3
                go_wp2_with fail
                go_meet
                exact ⟨⟨4, ⟨mk.toArray⟩, 0, 0⟩, i, rfl, HRT, HBq, hxq⟩
           ·
            have hl3 : decide ((m : Int) < (s.size : Int)) = false := decide_eq_false (by omega)
            have KL := fun u => Lib.hid (letter_be s[j] false u hin)
            clear hin
            go_wp2_with fail
            refine (KL _).out.mono ?_
            rintro e wb ⟨rfl, rfl⟩
            go_wp2_with fail
            refine (KD _).out.mono ?_
            rintro e wb ⟨rfl, rfl⟩
            go_upto_block 5 with (fail)
            go_cut [9] (fun a wq => Hid (rfind (lft s j) = none ∧ a = .int .i64 (j : Int) ∧ Box4 wq wo.heap.size (.int .i64 0) (.string ⟨#[]⟩) (.int .i64 0) (.int .i64 (j : Int)) ∧ Ext wo wq) ∨ Hid (∃ mk i, rfind (lft s j) = some mk ∧ i = j + mk.length ∧ a = .int .i64 ((i : Nat) : Int) ∧ Box4 wq wo.heap.size (.int .i64 4) (.string ⟨mk.toArray⟩) (.int .i64 0) (.int .i64 (j : Int)) ∧ Ext wo wq))
            case first =>
             as_aux_lemma =>
              go_wp2_with fail
              go_loopg [9, 12] 15 (fun n a q wq => ∃ i : Nat, i + n = 15 ∧ q = .int .i64 i ∧ (Hid (rfind (lft s j) = (rmkL.drop i).find? (fun m => (lft s j).take m.length == m) ∧ a = .int .i64 (j : Int) ∧ Box4 wq wo.heap.size (.int .i64 0) (.string ⟨#[]⟩) (.int .i64 0) (.int .i64 (j : Int)) ∧ Ext wo wq) ∨ Hid (∃ mk i, rfind (lft s j) = some mk ∧ i = j + mk.length ∧ a = .int .i64 ((i : Nat) : Int) ∧ Box4 wq wo.heap.size (.int .i64 4) (.string ⟨mk.toArray⟩) (.int .i64 0) (.int .i64 (j : Int)) ∧ Ext wo wq)))
              case atStart => exact ⟨0, rfl, rfl, .inl (Lib.hid ⟨rfl, rfl, HB.out, hxb⟩)⟩
              case round =>
               obtain ⟨q, hq, rfl, hAB⟩ := hrel
               clear b0 b1 b2 b3 f0 f1 f2 f3
               rcases hAB with HA | HA
               ·
                obtain ⟨hfind, rfl, HBq, hxq⟩ := HA.out
                have HFD := Lib.hid hfind
                have HBq := Lib.hid HBq
                obtain ⟨b0, b1, b2, b3, f0, f1, f2, f3⟩ := HBq.out
                clear hfind HA
                by_cases hq15 : q < 15
                ·
                 have hlq : decide ((q : Int) < 15) = true := decide_eq_true (by omega)
                 have q0 : (0 : Int) ≤ (q : Int) := Int.natCast_nonneg _
                 have qq : (q : Int) < 15 := by omega
                 have hc := (HM.out.ext (hxr.trans hxq)) q hq15
                 have hrs := hxr.size
                 have hneA : w.heap.size ≠ wo.heap.size := by omega
                 have hneB : wo.heap.size ≠ w.heap.size := by omega
                 have HDR : Hid (rmkL.drop q = (rmkL[q]'hq15) :: rmkL.drop (q + 1)) := Lib.hid (List.drop_eq_getElem_cons (show q < rmkL.length from hq15))
                 have hmk2 : 1 ≤ (rmkL[q]'hq15).length ∧ (rmkL[q]'hq15).length ≤ 2 := by
                  have : ∀ l ∈ rmkL, 1 ≤ l.length ∧ l.length ≤ 2 := by decide
                  exact this _ (List.getElem_mem _)
                 generalize (rmkL[q]'hq15) = mk at hc hmk2 HDR
                 obtain ⟨tm, htm⟩ : ∃ tm : ByteArray, tm = ⟨mk.toArray⟩ := ⟨_, rfl⟩
                 obtain ⟨z, hz⟩ : ∃ z, z = mk.length := ⟨_, rfl⟩
                 have htz : tm.size = z := by rw [htm, hz]; simp [ByteArray.size]
                 rw [← htm] at hc
                 obtain ⟨i2, hi2⟩ : ∃ i2, i2 = j + z := ⟨_, rfl⟩
                 have hw5 : IntKind.i64.wrap ((j : Int) + (z : Int)) = (i2 : Int) := by rw [IntKind.wrap_i64]; omega
                 have hwq : IntKind.i64.wrap ((q : Int) + 1) = ((q + 1 : Nat) : Int) := by rw [IntKind.wrap_i64]; omega
                 have j00 : (0 : Int) ≤ (j : Int) := Int.natCast_nonneg _
                 have j01 : (j : Int) ≤ (i2 : Int) := by omega
                 have hll := lft_len s j
                 have hex : i2 ≤ s.size → (s.extract j i2).data.toList = (lft s j).take z := fun h => by rw [ext_list, hi2]; congr 1; omega
                 by_cases hP : ((lft s j).take mk.length == mk) = true
                 ·
                  have hP2 := beq_iff_eq.1 hP
                  have hle : i2 ≤ s.size := by
                   have := congrArg List.length hP2
                   rw [List.length_take] at this
                   omega
                  have hxe : s.extract j i2 = tm := by
                   apply ByteArray.ext
                   apply Array.ext'
                   rw [hex hle, hz, hP2, htm]
                  have HN : Hid (∃ mk' i', rfind (lft s j) = some mk' ∧ i' = j + mk'.length ∧ i2 = i' ∧ tm = ⟨mk'.toArray⟩) := Lib.hid ⟨mk, i2, by rw [HFD.out, HDR.out]; exact List.find?_cons_of_pos (p := fun m => (lft s j).take m.length == m) hP, by rw [hi2, hz], rfl, htm⟩
                  have hl6 : decide ((i2 : Int) ≤ (s.size : Int)) = true := decide_eq_true (by omega)
                  have hle' : (i2 : Int) ≤ (s.size : Int) := by omega
                  have hjz : j ≤ i2 := by omega
                  clear hP hP2 hex hll htm hz hi2 HDR HFD hmk2
                  go_wp2_with fail
                  go_quiet (fail)
                  go_wp2_with fail
                  go_region
                  all_goals
                   have HBd := Lib.hid ((HBq.out.ext ((Ext.refl _).drewN (nq + 1))).set01 (.int .i64 4) (.string tm))
                   have hxd : Ext wo (((wr.drewN (nq + 1)).setCell ⟨wo.heap.size, 0, none⟩ (.int .i64 4)).setCell ⟨wo.heap.size, 1, none⟩ (.string tm)) := ((hxq.drewN (nq + 1)).setCell (Nat.le_refl _) _).setCell (Nat.le_refl _) _
                   generalize ((wr.drewN (nq + 1)).setCell ⟨wo.heap.size, 0, none⟩ (.int .i64 4)).setCell ⟨wo.heap.size, 1, none⟩ (.string tm) = wd at HBd hxd ⊢
                   clear b0 b1 b2 b3 f0 f1 f2 f3 hc
                   go_wp2_with fail
                   go_roundg (15 - (q + 1))
                   case rel =>
                    obtain ⟨mk', i', h1, h2, h3, h4⟩ := HN.out
                    exact ⟨q + 1, by omega, rfl, .inr (Lib.hid ⟨mk', i', h1, h2, by rw [h3], by rw [← h4]; exact HBd.out, hxd⟩)⟩
                   case measure => omega
                 ·
                  have HFD2 : Hid (rfind (lft s j) = (rmkL.drop (q + 1)).find? (fun m => (lft s j).take m.length == m)) := Lib.hid (by rw [HFD.out, HDR.out]; exact List.find?_cons_of_neg (p := fun m => (lft s j).take m.length == m) hP)
                  by_cases hle : i2 ≤ s.size
                  ·
                   have hxn : ¬ s.extract j i2 = tm := fun e => hP (by
                    rw [← hz, ← hex hle, e, htm]; simp)
                   have hxb1 : ((s.extract j i2).toList == tm.toList) = false := by
                    rw [Lib.toList_data, Lib.toList_data, beq_eq_false_iff_ne]
                    exact fun e => hxn (ByteArray.ext (Array.ext' e))
                   have hl6 : decide ((i2 : Int) ≤ (s.size : Int)) = true := decide_eq_true (by omega)
                   have hle' : (i2 : Int) ≤ (s.size : Int) := by omega
                   have hjz : j ≤ i2 := by omega
                   clear hP hex hll htm hz hi2 HDR HFD hmk2
                   go_wp2_with fail
                   go_quiet (fail)
                   go_wp2_with fail
                   go_roundg (15 - (q + 1))
                   case rel => exact ⟨q + 1, by omega, rfl, .inl (Lib.hid ⟨HFD2.out, rfl, HBq.out.ext ((Ext.refl _).drewN _), hxq.drewN _⟩)⟩
                   case measure => omega
                  ·
                   have hl6 : decide ((i2 : Int) ≤ (s.size : Int)) = false := decide_eq_false (by omega)
                   clear hP hex hll htm hz hi2 HDR HFD hmk2
                   go_wp2_with fail
                   go_quiet (fail)
                   go_wp2_with fail
                   go_roundg (15 - (q + 1))
                   case rel => exact ⟨q + 1, by omega, rfl, .inl (Lib.hid ⟨HFD2.out, rfl, HBq.out.ext ((Ext.refl _).drewN _), hxq.drewN _⟩)⟩
                   case measure => omega
                ·
                 have hlq : decide ((q : Int) < 15) = false := decide_eq_false (by omega)
                 have HFN : Hid (rfind (lft s j) = none) := Lib.hid (by rw [HFD.out, List.drop_eq_nil_of_le (show rmkL.length ≤ q by show 15 ≤ q; omega)]; rfl)
                 clear HFD
                 go_wp2_with fail
                 go_meet
                 exact .inl (Lib.hid ⟨HFN.out, rfl, HBq.out, hxq⟩)
               ·
                obtain ⟨mk, i, h1, h2, rfl, h4, h5⟩ := HA.out
                have HBq := Lib.hid h4
                obtain ⟨b0, b1, b2, b3, f0, f1, f2, f3⟩ := HBq.out
                have HN := Lib.hid (And.intro h1 h2)
                clear h1 h2 h4 HA
                by_cases hq15 : q < 15
                ·
                 have hlq : decide ((q : Int) < 15) = true := decide_eq_true (by omega)
                 go_wp2_with fail
                 go_meet
                 exact .inr (Lib.hid ⟨mk, i, HN.out.1, HN.out.2, rfl, HBq.out, h5⟩)
                ·
                 have hlq : decide ((q : Int) < 15) = false := decide_eq_false (by omega)
                 go_wp2_with fail
                 go_meet
                 exact .inr (Lib.hid ⟨mk, i, HN.out.1, HN.out.2, rfl, HBq.out, h5⟩)
            case rest =>
             as_aux_lemma =>
              rcases hcut with H | H
              ·
               obtain ⟨hf, rfl, HBq, hxq⟩ := H.out
               have HRT := Lib.hid (HMK.out.2 hf)
               obtain ⟨c0, c1, c2, c3, _, _, _, _⟩ := HBq
               clear H hf b0 b1 b2 b3 f0 f1 f2 f3
               go_wp2_with fail
               go_ret3
               exact FAIL.out 4 _ HRT.out hxq
              ·
               obtain ⟨mk, i, hf, hi, rfl, HBq, hxq⟩ := H.out
               have HRT : Hid (ResT s j ⟨4, ⟨mk.toArray⟩, 0, 0⟩ i) := Lib.hid (by rw [hi]; exact HMK.out.1 mk hf)
               have HBq := Lib.hid HBq
               obtain ⟨c0, c1, c2, c3, _, _, _, _⟩ := HBq.out
               clear H hf hi b0 b1 b2 b3 f0 f1 f2 f3
               go_wp2_with fail
               go_meet
               exact ⟨⟨4, ⟨mk.toArray⟩, 0, 0⟩, i, rfl, HRT, HBq, hxq⟩
           ·
            have hl3 : decide ((m : Int) < (s.size : Int)) = true := decide_eq_true (by omega)
            have m0 : (0 : Int) ≤ (m : Int) := Int.natCast_nonneg _
            have KL := fun u => Lib.hid (letter_be s[j] false u hin)
            have KD2 := fun u => Lib.hid (digit_be s[m] false u hdm)
            clear hin hdm
            go_wp2_with fail
            refine (KL _).out.mono ?_
            rintro e wb ⟨rfl, rfl⟩
            go_wp2_with fail
            refine (KD _).out.mono ?_
            rintro e wb ⟨rfl, rfl⟩
            go_wp2_with fail
            refine (KD2 _).out.mono ?_
            rintro e wb ⟨rfl, rfl⟩
            go_upto_block 5 with (fail)
            go_cut [9] (fun a wq => Hid (rfind (lft s j) = none ∧ a = .int .i64 (j : Int) ∧ Box4 wq wo.heap.size (.int .i64 0) (.string ⟨#[]⟩) (.int .i64 0) (.int .i64 (j : Int)) ∧ Ext wo wq) ∨ Hid (∃ mk i, rfind (lft s j) = some mk ∧ i = j + mk.length ∧ a = .int .i64 ((i : Nat) : Int) ∧ Box4 wq wo.heap.size (.int .i64 4) (.string ⟨mk.toArray⟩) (.int .i64 0) (.int .i64 (j : Int)) ∧ Ext wo wq))
            case first =>
             as_aux_lemma =>
              go_wp2_with fail
              go_loopg [9, 12] 15 (fun n a q wq => ∃ i : Nat, i + n = 15 ∧ q = .int .i64 i ∧ (Hid (rfind (lft s j) = (rmkL.drop i).find? (fun m => (lft s j).take m.length == m) ∧ a = .int .i64 (j : Int) ∧ Box4 wq wo.heap.size (.int .i64 0) (.string ⟨#[]⟩) (.int .i64 0) (.int .i64 (j : Int)) ∧ Ext wo wq) ∨ Hid (∃ mk i, rfind (lft s j) = some mk ∧ i = j + mk.length ∧ a = .int .i64 ((i : Nat) : Int) ∧ Box4 wq wo.heap.size (.int .i64 4) (.string ⟨mk.toArray⟩) (.int .i64 0) (.int .i64 (j : Int)) ∧ Ext wo wq)))
              case atStart => exact ⟨0, rfl, rfl, .inl (Lib.hid ⟨rfl, rfl, HB.out, hxb⟩)⟩
              case round =>
               obtain ⟨q, hq, rfl, hAB⟩ := hrel
               clear b0 b1 b2 b3 f0 f1 f2 f3
               rcases hAB with HA | HA
               ·
                obtain ⟨hfind, rfl, HBq, hxq⟩ := HA.out
                have HFD := Lib.hid hfind
                have HBq := Lib.hid HBq
                obtain ⟨b0, b1, b2, b3, f0, f1, f2, f3⟩ := HBq.out
                clear hfind HA
                by_cases hq15 : q < 15
                ·
                 have hlq : decide ((q : Int) < 15) = true := decide_eq_true (by omega)
                 have q0 : (0 : Int) ≤ (q : Int) := Int.natCast_nonneg _
                 have qq : (q : Int) < 15 := by omega
                 have hc := (HM.out.ext (hxr.trans hxq)) q hq15
                 have hrs := hxr.size
                 have hneA : w.heap.size ≠ wo.heap.size := by omega
                 have hneB : wo.heap.size ≠ w.heap.size := by omega
                 have HDR : Hid (rmkL.drop q = (rmkL[q]'hq15) :: rmkL.drop (q + 1)) := Lib.hid (List.drop_eq_getElem_cons (show q < rmkL.length from hq15))
                 have hmk2 : 1 ≤ (rmkL[q]'hq15).length ∧ (rmkL[q]'hq15).length ≤ 2 := by
                  have : ∀ l ∈ rmkL, 1 ≤ l.length ∧ l.length ≤ 2 := by decide
                  exact this _ (List.getElem_mem _)
                 generalize (rmkL[q]'hq15) = mk at hc hmk2 HDR
                 obtain ⟨tm, htm⟩ : ∃ tm : ByteArray, tm = ⟨mk.toArray⟩ := ⟨_, rfl⟩
                 obtain ⟨z, hz⟩ : ∃ z, z = mk.length := ⟨_, rfl⟩
                 have htz : tm.size = z := by rw [htm, hz]; simp [ByteArray.size]
                 rw [← htm] at hc
                 obtain ⟨i2, hi2⟩ : ∃ i2, i2 = j + z := ⟨_, rfl⟩
                 have hw5 : IntKind.i64.wrap ((j : Int) + (z : Int)) = (i2 : Int) := by rw [IntKind.wrap_i64]; omega
                 have hwq : IntKind.i64.wrap ((q : Int) + 1) = ((q + 1 : Nat) : Int) := by rw [IntKind.wrap_i64]; omega
                 have j00 : (0 : Int) ≤ (j : Int) := Int.natCast_nonneg _
                 have j01 : (j : Int) ≤ (i2 : Int) := by omega
                 have hll := lft_len s j
                 have hex : i2 ≤ s.size → (s.extract j i2).data.toList = (lft s j).take z := fun h => by rw [ext_list, hi2]; congr 1; omega
                 by_cases hP : ((lft s j).take mk.length == mk) = true
                 ·
                  have hP2 := beq_iff_eq.1 hP
                  have hle : i2 ≤ s.size := by
                   have := congrArg List.length hP2
                   rw [List.length_take] at this
                   omega
                  have hxe : s.extract j i2 = tm := by
                   apply ByteArray.ext
                   apply Array.ext'
                   rw [hex hle, hz, hP2, htm]
                  have HN : Hid (∃ mk' i', rfind (lft s j) = some mk' ∧ i' = j + mk'.length ∧ i2 = i' ∧ tm = ⟨mk'.toArray⟩) := Lib.hid ⟨mk, i2, by rw [HFD.out, HDR.out]; exact List.find?_cons_of_pos (p := fun m => (lft s j).take m.length == m) hP, by rw [hi2, hz], rfl, htm⟩
                  have hl6 : decide ((i2 : Int) ≤ (s.size : Int)) = true := decide_eq_true (by omega)
                  have hle' : (i2 : Int) ≤ (s.size : Int) := by omega
                  have hjz : j ≤ i2 := by omega
                  clear hP hP2 hex hll htm hz hi2 HDR HFD hmk2
                  go_wp2_with fail
                  go_quiet (fail)
                  go_wp2_with fail
                  go_region
                  all_goals
                   have HBd := Lib.hid ((HBq.out.ext ((Ext.refl _).drewN (nq + 1))).set01 (.int .i64 4) (.string tm))
                   have hxd : Ext wo (((wr.drewN (nq + 1)).setCell ⟨wo.heap.size, 0, none⟩ (.int .i64 4)).setCell ⟨wo.heap.size, 1, none⟩ (.string tm)) := ((hxq.drewN (nq + 1)).setCell (Nat.le_refl _) _).setCell (Nat.le_refl _) _
                   generalize ((wr.drewN (nq + 1)).setCell ⟨wo.heap.size, 0, none⟩ (.int .i64 4)).setCell ⟨wo.heap.size, 1, none⟩ (.string tm) = wd at HBd hxd ⊢
                   clear b0 b1 b2 b3 f0 f1 f2 f3 hc
                   go_wp2_with fail
                   go_roundg (15 - (q + 1))
                   case rel =>
                    obtain ⟨mk', i', h1, h2, h3, h4⟩ := HN.out
                    exact ⟨q + 1, by omega, rfl, .inr (Lib.hid ⟨mk', i', h1, h2, by rw [h3], by rw [← h4]; exact HBd.out, hxd⟩)⟩
                   case measure => omega
                 ·
                  have HFD2 : Hid (rfind (lft s j) = (rmkL.drop (q + 1)).find? (fun m => (lft s j).take m.length == m)) := Lib.hid (by rw [HFD.out, HDR.out]; exact List.find?_cons_of_neg (p := fun m => (lft s j).take m.length == m) hP)
                  by_cases hle : i2 ≤ s.size
                  ·
                   have hxn : ¬ s.extract j i2 = tm := fun e => hP (by
                    rw [← hz, ← hex hle, e, htm]; simp)
                   have hxb1 : ((s.extract j i2).toList == tm.toList) = false := by
                    rw [Lib.toList_data, Lib.toList_data, beq_eq_false_iff_ne]
                    exact fun e => hxn (ByteArray.ext (Array.ext' e))
                   have hl6 : decide ((i2 : Int) ≤ (s.size : Int)) = true := decide_eq_true (by omega)
                   have hle' : (i2 : Int) ≤ (s.size : Int) := by omega
                   have hjz : j ≤ i2 := by omega
                   clear hP hex hll htm hz hi2 HDR HFD hmk2
                   go_wp2_with fail
                   go_quiet (fail)
                   go_wp2_with fail
                   go_roundg (15 - (q + 1))
                   case rel => exact ⟨q + 1, by omega, rfl, .inl (Lib.hid ⟨HFD2.out, rfl, HBq.out.ext ((Ext.refl _).drewN _), hxq.drewN _⟩)⟩
                   case measure => omega
                  ·
                   have hl6 : decide ((i2 : Int) ≤ (s.size : Int)) = false := decide_eq_false (by omega)
                   clear hP hex hll htm hz hi2 HDR HFD hmk2
                   go_wp2_with fail
                   go_quiet (fail)
                   go_wp2_with fail
                   go_roundg (15 - (q + 1))
                   case rel => exact ⟨q + 1, by omega, rfl, .inl (Lib.hid ⟨HFD2.out, rfl, HBq.out.ext ((Ext.refl _).drewN _), hxq.drewN _⟩)⟩
                   case measure => omega
                ·
                 have hlq : decide ((q : Int) < 15) = false := decide_eq_false (by omega)
                 have HFN : Hid (rfind (lft s j) = none) := Lib.hid (by rw [HFD.out, List.drop_eq_nil_of_le (show rmkL.length ≤ q by show 15 ≤ q; omega)]; rfl)
                 clear HFD
                 go_wp2_with fail
                 go_meet
                 exact .inl (Lib.hid ⟨HFN.out, rfl, HBq.out, hxq⟩)
               ·
                obtain ⟨mk, i, h1, h2, rfl, h4, h5⟩ := HA.out
                have HBq := Lib.hid h4
                obtain ⟨b0, b1, b2, b3, f0, f1, f2, f3⟩ := HBq.out
                have HN := Lib.hid (And.intro h1 h2)
                clear h1 h2 h4 HA
                by_cases hq15 : q < 15
                ·
                 have hlq : decide ((q : Int) < 15) = true := decide_eq_true (by omega)
                 go_wp2_with fail
                 go_meet
                 exact .inr (Lib.hid ⟨mk, i, HN.out.1, HN.out.2, rfl, HBq.out, h5⟩)
                ·
                 have hlq : decide ((q : Int) < 15) = false := decide_eq_false (by omega)
                 go_wp2_with fail
                 go_meet
                 exact .inr (Lib.hid ⟨mk, i, HN.out.1, HN.out.2, rfl, HBq.out, h5⟩)
            case rest =>
             as_aux_lemma =>
              rcases hcut with H | H
              ·
               obtain ⟨hf, rfl, HBq, hxq⟩ := H.out
               have HRT := Lib.hid (HMK.out.2 hf)
               obtain ⟨c0, c1, c2, c3, _, _, _, _⟩ := HBq
               clear H hf b0 b1 b2 b3 f0 f1 f2 f3
               go_wp2_with fail
               go_ret3
               exact FAIL.out 4 _ HRT.out hxq
              ·
               obtain ⟨mk, i, hf, hi, rfl, HBq, hxq⟩ := H.out
               have HRT : Hid (ResT s j ⟨4, ⟨mk.toArray⟩, 0, 0⟩ i) := Lib.hid (by rw [hi]; exact HMK.out.1 mk hf)
               have HBq := Lib.hid HBq
               obtain ⟨c0, c1, c2, c3, _, _, _, _⟩ := HBq.out
               clear H hf hi b0 b1 b2 b3 f0 f1 f2 f3
               go_wp2_with fail
               go_meet
               exact ⟨⟨4, ⟨mk.toArray⟩, 0, 0⟩, i, rfl, HRT, HBq, hxq⟩
      case rest =>
       as_aux_lemma =>
        obtain ⟨t, i, rfl, HT, HBt, hxq⟩ := hcut
        obtain ⟨wx, rfl⟩ : ∃ wx : World, wx = wc := ⟨_, rfl⟩
        obtain ⟨b0, b1, b2, b3, _, _, _, _⟩ := HBt.out
        have HJ2 := Lib.hid (toks_step hlt HP.out HT.out HJ.out)
        have hji := HT.out.2.1
        have his := HT.out.2.2
        have HL2 : Hid ((ts ++ [{ t with at_ := (j : Int) }]).length ≤ i) := Lib.hid (by have := HL.out; simp; omega)
        have hwrs := hxr.size
        have hwxs := hxq.size
        clear HT HBt HJ
        go_wp2_with (at_builtin; refine wpList_append_own_at _ rfl _ _ 50 rfl w1.heap.size 54 i0 _ 4 40 Tryz.underlying50 hi0 hz0 hz1 hz2 rfl (by decide) _ ts.length (tokCells ts) rfl (lownsRow_ext hown (hxq.alloc _)) ⟨wx.heap.size, 0, none⟩ 1 1 (Tok.cells { t with at_ := (j : Int) }) rfl rfl ?c1 ?c2 ?c3 ?c4 ?c5 ?_)
        case c1 => exact World.news_of_block (cs := #[.int .i64 t.kind, .string t.text, .int .i64 t.n, .int .i64 (j : Int)]) (t := 54) (fr := (0, 0)) (heap_alloc_new _ _)
        case c2 => exact Tok.one _
        case c3 => simp only [maxLen]; have := HL.out; omega
        case c4 => have := HL.out; omega
        case c5 => simp; omega
        intro v' w5 hown5 hgrow _ hat
        rw [← tokCells_snoc] at hown5
        have hx5 : Ext w1 w5 := Ext.lown ((hxr.trans hxq).alloc _) (lownsRow_ext hown (hxq.alloc _)) (Nat.le_refl _) hgrow
        have hown5' : w5.ownsRow w1.heap.size 54 4 v' (ts ++ [{ t with at_ := (j : Int) }]).length (tokCells (ts ++ [{ t with at_ := (j : Int) }])) := by rw [List.length_append]; exact hown5
        generalize (ts ++ [{ t with at_ := (j : Int) }]) = ts5 at hown5' HL2 HJ2
        clear hat hgrow hown hown5 HL
        go_wp2_with fail
        go_roundg (s.size - i)
        case rel => exact ⟨i, ts5, by omega, rfl, HJ2, HL2, hown5', hx5⟩
        case measure => omega
   ·
    have hl : decide ((j : Int) < (s.size : Int)) = false := decide_eq_false (by omega)
    have hT := toks_end (by omega) HJ.out
    have HF : Hid (lexT s = ts ++ [⟨5, ⟨#[]⟩, 0, (s.size : Nat)⟩] ∧ lexA s = 0 ∧ lexE s = 0) := Lib.hid (by rw [HR.out.1, HR.out.2.1, HR.out.2.2, hT]; exact ⟨rfl, rfl, rfl⟩)
    have hwrs := hxr.size
    clear hT HJ HR
    go_wp2_with (at_builtin; refine wpList_append_own_at _ rfl _ _ 50 rfl w1.heap.size 54 i0 _ 4 40 Tryz.underlying50 hi0 hz0 hz1 hz2 rfl (by decide) _ ts.length (tokCells ts) rfl (lownsRow_ext hown ((Ext.refl _).alloc _)) ⟨wr.heap.size, 0, none⟩ 1 1 (Tok.cells ⟨5, ⟨#[]⟩, 0, (s.size : Nat)⟩) rfl rfl ?c1 ?c2 ?c3 ?c4 ?c5 ?_)
    case c1 => exact World.news_of_block (cs := #[.int .i64 5, .string ⟨#[]⟩, .int .i64 0, .int .i64 (s.size : Nat)]) (t := 54) (fr := (0, 0)) (heap_alloc_new _ _)
    case c2 => exact Tok.one _
    case c3 => simp only [maxLen]; have := HL.out; omega
    case c4 => have := HL.out; omega
    case c5 => simp; omega
    intro v' w5 hown5 hgrow _ hat
    rw [← tokCells_snoc] at hown5
    have hx5 : Ext w1 w5 := Ext.lown (hxr.alloc _) (lownsRow_ext hown ((Ext.refl _).alloc _)) (Nat.le_refl _) hgrow
    clear hat hgrow hown HL
    go_wp2_with fail
    go_ret3
    exact ⟨v', w1.heap.size, by rw [HF.out.2.1, HF.out.2.2]; rfl, by rw [HF.out.1, List.length_append]; exact hown5, hx1.size, hx1.trans hx5⟩
 ·
  have hl0 : decide ((4000 : Int) < (s.size : Int)) = true := decide_eq_true (by omega)
  have HF : Hid (lexT s = [] ∧ lexA s = 0 ∧ lexE s = 2) := Lib.hid (by unfold lexT lexA lexE; rw [if_pos (by omega), if_pos (by omega), if_pos (by omega)]; exact ⟨rfl, rfl, rfl⟩)
  go_enter Tryz.func33, Tryz.ntmps33
  go_wp2_with fail
  go_ret3
  exact ⟨.slice none 0 0, w.heap.size, by rw [HF.out.2.1, HF.out.2.2]; rfl, by rw [HF.out.1]; exact World.ownsRow_nil _ _ _ _, Nat.le_refl _, Ext.refl _⟩
end Go.Proofs.YtbjghkmjnhmlfaaGreatDoor
