/- Package weave: what may come of two relations, by zones. -/
import Derived.Test.YtjldokhomohdbaaDoorWvf
namespace Go.Proofs.YtjldokhomohdbaaDoor
open Go.RowKit Go.Maps

/-- the table of ends, as the program lays it -/
def EndAt (w : World) : Prop := ∀ k, k < 13 → w.cell? ⟨0, (k + 1) * 2, none⟩ = some (.int .u8 (endf k : Int)) ∧ w.cell? ⟨0, (k + 1) * 2 + 1, none⟩ = some (.int .u8 (endt k : Int))
theorem EndAt.ext {w w' : World} (h : EndAt w) (k : Ext w w') : EndAt w' := fun i hi => ⟨k.cell (h i hi).1, k.cell (h i hi).2⟩
theorem end_lt : ∀ k, k < 13 → endf k < 5 ∧ endt k < 5 := by decide

abbrev edV (f t : Int) : Value := .agg #[.int .u8 f, .int .u8 t]
theorem zwithin_ext (z f t : Nat) (hz : z < 5) (hf : f < 5) (ht : t < 5) (w : World) :
    Calls Tryd.prog 48 #[.int .u8 (z : Int), edV f t] w fun e w' => e = .returned (.int .u8 (wiN z f t : Int)) ∧ Ext w w' := zwithin_any z f t hz hf ht w

/-- what through tells of ends by any zones -/
def thrN (a b c d : Nat) : Nat := thrU (wiN a c d) (wiN b c d) 13
set_option maxRecDepth 100000 in
set_option maxHeartbeats 2000000 in
theorem through_any (a b c d : Nat) (ha : a < 5) (hb : b < 5) (hc : c < 5) (hd : d < 5) (w : World) (hE : EndAt w) :
    Calls Tryd.prog 44 #[edV a b, edV c d] w fun e w' => e = .returned (.int .u16 (thrN a b c d : Int)) ∧ Ext w w' := by
  have K1 := Lib.hid (fun u => zwithin_ext a c d ha hc hd u)
  have K2 := Lib.hid (fun u => zwithin_ext b c d hb hc hd u)
  have HT : Hid (thrN a b c d = thrU (wiN a c d) (wiN b c d) 13) := Lib.hid rfl
  have l1 := wiN_lt a c d
  have l2 := wiN_lt b c d
  generalize wiN a c d = X at K1 HT l1
  generalize wiN b c d = Y at K2 HT l2
  generalize thrN a b c d = R at HT ⊢
  obtain ⟨ai, hai⟩ : ∃ zi : Int, zi = a := ⟨_, rfl⟩
  obtain ⟨bi, hbi⟩ : ∃ zi : Int, zi = b := ⟨_, rfl⟩
  obtain ⟨ci, hci⟩ : ∃ zi : Int, zi = c := ⟨_, rfl⟩
  obtain ⟨di, hdi⟩ : ∃ zi : Int, zi = d := ⟨_, rfl⟩
  rw [← hai, ← hci, ← hdi] at K1
  rw [← hbi, ← hci, ← hdi] at K2
  rw [← hai, ← hbi, ← hci, ← hdi]
  clear hai hbi hci hdi ha hb hc hd
  have hx0 := ((Ext.refl w).alloc (.cells #[.int .u8 ai, .int .u8 bi] 75)).alloc (.cells #[.int .u8 ci, .int .u8 di] 75)
  go_enter Tryd.func44, Tryd.ntmps44
  go_wp2_with fail
  have q1 : (((w.alloc (.cells #[.int .u8 ai, .int .u8 bi] 75)).alloc (.cells #[.int .u8 ci, .int .u8 di] 75))).cell? ⟨w.heap.size, 0, none⟩ = some (.int .u8 ai) := by go_simp
  have q2 : (((w.alloc (.cells #[.int .u8 ai, .int .u8 bi] 75)).alloc (.cells #[.int .u8 ci, .int .u8 di] 75))).cell? ⟨w.heap.size, 1, none⟩ = some (.int .u8 bi) := by go_simp
  have q3 : (((w.alloc (.cells #[.int .u8 ai, .int .u8 bi] 75)).alloc (.cells #[.int .u8 ci, .int .u8 di] 75))).cell? ⟨w.heap.size + 1, 0, none⟩ = some (.int .u8 ci) := by go_simp
  have q4 : (((w.alloc (.cells #[.int .u8 ai, .int .u8 bi] 75)).alloc (.cells #[.int .u8 ci, .int .u8 di] 75))).cell? ⟨w.heap.size + 1, 1, none⟩ = some (.int .u8 di) := by go_simp
  have hE0 := Lib.hid (hE.ext hx0)
  generalize ((w.alloc (.cells #[.int .u8 ai, .int .u8 bi] 75)).alloc (.cells #[.int .u8 ci, .int .u8 di] 75)) = W0 at *
  replace q1 : ∀ p : ExtOf W0, _ := ext_cell q1
  replace q2 : ∀ p : ExtOf W0, _ := ext_cell q2
  replace q3 : ∀ p : ExtOf W0, _ := ext_cell q3
  replace q4 : ∀ p : ExtOf W0, _ := ext_cell q4
  clear hE
  refine wp_region_ext (by kernel_rfl) (by kernel_rfl) ?_
  repeat (go_big_quiet_step (first | (go_at_call 48; with_reducible exact of_ext (K1.out _)) | (go_at_call 48; with_reducible exact of_ext (K2.out _))))
  refine wpQuiet_nil ?_
  refine ext_all ?_
  intro w1 hx1
  have HX := Lib.hid (hx0.trans hx1)
  replace hE0 := Lib.hid (hE0.out.ext hx1)
  clear q1 q2 q3 q4 hx0 hx1 K1 K2
  go_wp2_with fail
  go_loopw [7, 8] (fun x r wr => ∃ k : Nat, k ≤ 13 ∧ r = .int .i64 ((k : Int) + 1) ∧ x = .int .u16 (thrU X Y k : Int) ∧ wr = w1) (fun _ r _ => 14 - (intOf r).toNat)
  case atStart => exact ⟨0, by omega, rfl, rfl, rfl⟩
  case round =>
    obtain ⟨k, hk, rfl, rfl, rfl⟩ := hrel
    by_cases hlt : k < 13
    · obtain ⟨c0, c1⟩ := hE0.out k hlt
      have hle : (k : Int) + 1 ≤ 13 := by omega
      have H3 := fun u => Lib.hid (zhas_any X (endf k) l1 (end_lt k hlt).1 u)
      have H4 := fun u => Lib.hid (zhas_any Y (endt k) l2 (end_lt k hlt).2 u)
      have KO := fun u => Lib.hid (only_any k hlt u)
      have HS : Hid (thrU X Y (k + 1) = thrU X Y k ||| if X.testBit (endf k) && Y.testBit (endt k) then 2 ^ k else 0) := Lib.hid rfl
      have h8 := thrU_lt X Y k (by omega)
      have HO := Lib.hid (or16 (thrU X Y k) (2 ^ k) (by omega) (p16 hlt))
      generalize endf k = F at c0 H3 HS
      generalize endt k = T at c1 H4 HS
      generalize thrU X Y k = Z at HS HO ⊢
      generalize ((2 ^ k : Nat) : Int) = p at KO HO
      clear h8
      cases h1 : X.testBit F with
      | true =>
        rw [h1, Bool.true_and] at HS
        rw [h1] at H3
        cases h2 : Y.testBit T with
        | true =>
          rw [h2] at HS
          rw [h2] at H4
          clear h1 h2
          go_wp2_with fail
          refine (H3 _).out.mono ?_
          rintro e w3 ⟨rfl, rfl⟩
          go_wp2_with fail
          refine (H4 _).out.mono ?_
          rintro e w3 ⟨rfl, rfl⟩
          go_wp2_with fail
          refine (KO _).out.mono ?_
          rintro e w3 ⟨rfl, rfl⟩
          go_wp2_with fail
          go_roundw
          case rel => exact ⟨k + 1, by omega, by go_num, by rw [HS.out, HO.out]; rfl, trivial⟩
          case measure => simp [intOf]; omega
        | false =>
          rw [h2] at HS
          rw [h2] at H4
          clear h1 h2
          have HS2 := Lib.hid (show thrU X Y (k + 1) = Z by rw [HS.out]; exact Nat.or_zero _)
          go_wp2_with fail
          refine (H3 _).out.mono ?_
          rintro e w3 ⟨rfl, rfl⟩
          go_wp2_with fail
          refine (H4 _).out.mono ?_
          rintro e w3 ⟨rfl, rfl⟩
          go_wp2_with fail
          go_roundw
          case rel => exact ⟨k + 1, by omega, by go_num, by rw [HS2.out], trivial⟩
          case measure => simp [intOf]; omega
      | false =>
        rw [h1, Bool.false_and] at HS
        rw [h1] at H3
        clear h1
        have HS2 := Lib.hid (show thrU X Y (k + 1) = Z by rw [HS.out]; exact Nat.or_zero _)
        go_wp2_with fail
        refine (H3 _).out.mono ?_
        rintro e w3 ⟨rfl, rfl⟩
        go_wp2_with fail
        go_roundw
        case rel => exact ⟨k + 1, by omega, by go_num, by rw [HS2.out], trivial⟩
        case measure => simp [intOf]; omega
    · have hge : ¬ ((k : Int) + 1 ≤ 13) := by omega
      go_wp2_with fail
      go_ret
      obtain rfl : k = 13 := by omega
      exact ⟨by rw [HT.out]; rfl, HX.out⟩
end Go.Proofs.YtjldokhomohdbaaDoor
