/- almagestlaw9.wakes. -/
import Derived.Test.YtcfhokejfibgoaaFkp
namespace Go.Proofs.Ytcfhokejfibgoaa
open Go.RowKit

abbrev wkF : Fc := ⟨⟨3, ⟨#[97]⟩, 0, []⟩, 1, 2⟩
theorem wk_add : addE [] 7 wkF = 0 := by decide +kernel
theorem wk_find : fndE [⟨7, wkF⟩] wkF = 0 ∧ fndV [⟨7, wkF⟩] wkF = 7 := by decide +kernel
theorem wk_tm (w : World) : TmAt w wkF.tm none 0 :=
  .mk _ none 0 (fun _ => none) (fun _ => 0) ⟨by decide, by decide, by decide, by decide⟩ (Nat.le_refl _) (fun i hi => absurd hi (by simp)) (fun i hi => absurd hi (by simp))
theorem fnum_any (n : Int) (w : World) : Calls Try.prog 9 #[.int .i64 n] w fun e w' => e = .returned (.int .i64 n) ∧ w' = w := by
  go_enter Try.func9, Try.ntmps9
  go_wp2_with fail
  go_ret
  exact ⟨rfl, rfl⟩
set_option maxHeartbeats 2000000 in
theorem wakesF_any (w : World) : Calls Try.prog 12 #[] w fun e w' => e = .returned (.bool true) ∧ Ext w w' := by
  have KN := Lib.hid (fun n u => fnum_any n u)
  have HA := Lib.hid wk_add
  have HF := Lib.hid wk_find
  obtain ⟨W1, hW1⟩ : ∃ W1, W1 = w.alloc (.cells #[.int .i64 3, .string ⟨#[97]⟩, .int .i64 0, .slice none 0 0, .int .i64 1, .int .i64 2] 37) := ⟨_, rfl⟩
  have hx1 : Ext w W1 := by rw [hW1]; exact (Ext.refl w).alloc _
  have q0 : W1.cell? ⟨w.heap.size, 0, none⟩ = some (.int .i64 3) := by rw [hW1]; go_simp
  have q1 : W1.cell? ⟨w.heap.size, 1, none⟩ = some (.string ⟨#[97]⟩) := by rw [hW1]; go_simp
  have q2 : W1.cell? ⟨w.heap.size, 2, none⟩ = some (.int .i64 0) := by rw [hW1]; go_simp
  have q3 : W1.cell? ⟨w.heap.size, 3, none⟩ = some (.slice none 0 0) := by rw [hW1]; go_simp
  have q4 : W1.cell? ⟨w.heap.size, 4, none⟩ = some (.int .i64 1) := by rw [hW1]; go_simp
  have q5 : W1.cell? ⟨w.heap.size, 5, none⟩ = some (.int .i64 2) := by rw [hW1]; go_simp
  have KA : Hid (∀ u, Calls Try.prog 13 #[.slice none 0 0, .int .i64 7, .agg #[.int .i64 3, .string ⟨#[97]⟩, .int .i64 0, .slice none 0 0, .int .i64 1, .int .i64 2]] u (AddTo [] 7 wkF u)) :=
    Lib.hid fun u => Add_any [] 7 wkF none none 0 0 u (Nat.le_refl _) (by decide) (KpsAt.nil _ _) (wk_tm u) (by decide)
  have KF : Hid (∀ u A c, 1 ≤ c → KpsAt u [⟨7, wkF⟩] A → Calls Try.prog 14 #[.slice A 1 c, .agg #[.int .i64 3, .string ⟨#[97]⟩, .int .i64 0, .slice none 0 0, .int .i64 1, .int .i64 2]] u fun e w' => e = .returned (.tuple #[.int .i64 7, .int .i64 0]) ∧ Ext u w') :=
    Lib.hid fun u A c hc hK => by
      have := Find_any [⟨7, wkF⟩] wkF A none c 0 u hc (by decide) hK (wk_tm u)
      rwa [HF.out.1, HF.out.2] at this
  have HW := Lib.hid hW1
  clear hW1
  go_enter Try.func12, Try.ntmps12
  go_upto_region 2 with (fail)
  rw [← HW.out]
  clear HW
  go_wp2_with fail
  refine (KA.out _).mono ?_
  intro e w2 h
  rcases h with ⟨_, v, zs, G, rfl, hKO⟩ | ⟨hne, _⟩
  case inr => exact absurd HA.out hne
  obtain ⟨A', c', rfl, hc', hK⟩ := hKO.at_
  have hx2 := hKO.inv.ext
  replace q0 := hx2.cell q0
  replace q1 := hx2.cell q1
  replace q2 := hx2.cell q2
  replace q3 := hx2.cell q3
  replace q4 := hx2.cell q4
  replace q5 := hx2.cell q5
  have KF2 := Lib.hid (KF.out w2 A' c' hc' hK)
  have HX2 := Lib.hid (hx1.trans hx2)
  clear hKO hK hx2 hx1 KA KF hc'
  go_wp2_with fail
  refine KF2.out.mono ?_
  rintro e w3 ⟨rfl, hx3⟩
  have HX3 := Lib.hid (HX2.out.trans hx3)
  clear hx3 KF2 q0 q1 q2 q3 q4 q5
  go_wp2_with fail
  refine (KN.out _ _).mono ?_
  rintro e w4 ⟨rfl, hw4⟩
  rw [hw4]
  clear hw4
  go_wp2_with fail
  refine (KN.out _ _).mono ?_
  rintro e w5 ⟨rfl, hw5⟩
  rw [hw5]
  clear hw5
  go_wp2_with fail
  go_ret
  exact ⟨rfl, HX3.out⟩
end Go.Proofs.Ytcfhokejfibgoaa
