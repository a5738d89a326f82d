/- ReadLimits: the walk. -/
import Derived.Test.YtbjghkmjnhmlfaaGreatDoorPja
namespace Go.Proofs.YtbjghkmjnhmlfaaGreatDoor
open Go.RowKit

set_option maxRecDepth 100000 in
set_option maxHeartbeats 8000000 in
theorem limits_walk (ss : List ByteArray) (A : Option Addr) (c : Nat) (w : World) (hC : ClsAt w) (hX : TxtAt w) (hB : BitAt w) :
  Calls Tryz.prog 4 #[.agg #[.slice A ss.length c]] w fun e w' => e = .returned (.bool true) ∧ Ext w w' := by
 have hx0 : Ext w (w.alloc (.cells #[.slice A ss.length c] 24)) := (Ext.refl w).alloc _
 have p0 : (w.alloc (.cells #[.slice A ss.length c] 24)).cell? ⟨w.heap.size, 0, none⟩ = some (.slice A ss.length c) := by go_simp
 have HG0 := Lib.hid (And.intro (hC.ext hx0) (And.intro (hX.ext hx0) (hB.ext hx0)))
 clear hC hX hB
 go_enter Tryz.func4, Tryz.ntmps4
 go_upto_region 1 with (fail)
 generalize w.alloc (.cells #[.slice A ss.length c] 24) = w1 at hx0 p0 HG0 ⊢
 go_wp2_with fail
 refine (repeated_any _ 20 (by decide) (by decide) _).mono ?_
 rintro e _w0 ⟨r0, rfl, hr, hxr0⟩
 have HR0 : r0.data.size ≤ 2000 := by
  have e : r0.data.size = _ := hr
  rw [e]; decide
 have HR0s : r0.size ≤ 2000 := HR0
 clear hr
 go_wp2_with fail
 refine (repeated_any _ 100 (by decide) (by decide) _).mono ?_
 rintro e _w1 ⟨r1, rfl, hr, hxr1⟩
 have HR1 : r1.data.size ≤ 2000 := by
  have e : r1.data.size = _ := hr
  rw [e]; decide
 have HR1s : r1.size ≤ 2000 := HR1
 clear hr
 go_wp2_with fail
 refine (repeated_any _ 100 (by decide) (by decide) _).mono ?_
 rintro e _w2 ⟨r2, rfl, hr, hxr2⟩
 have HR2 : r2.data.size ≤ 2000 := by
  have e : r2.data.size = _ := hr
  rw [e]; decide
 have HR2s : r2.size ≤ 2000 := HR2
 clear hr
 go_wp2_with fail
 refine (repeated_any _ 30 (by decide) (by decide) _).mono ?_
 rintro e _w3 ⟨r3, rfl, hr, hxr3⟩
 have HR3 : r3.data.size ≤ 2000 := by
  have e : r3.data.size = _ := hr
  rw [e]; decide
 have HR3s : r3.size ≤ 2000 := HR3
 clear hr
 go_wp2_with fail
 refine (repeated_any _ 31 (by decide) (by decide) _).mono ?_
 rintro e _w4 ⟨r4, rfl, hr, hxr4⟩
 have HR4 : r4.data.size ≤ 2000 := by
  have e : r4.data.size = _ := hr
  rw [e]; decide
 have HR4s : r4.size ≤ 2000 := HR4
 clear hr
 go_wp2_with fail
 refine (repeated_any _ 11 (by decide) (by decide) _).mono ?_
 rintro e _w5 ⟨r5, rfl, hr, hxr5⟩
 have HR5 : r5.data.size ≤ 2000 := by
  have e : r5.data.size = _ := hr
  rw [e]; decide
 have HR5s : r5.size ≤ 2000 := HR5
 clear hr
 go_wp2_with fail
 refine (repeated_any _ 12 (by decide) (by decide) _).mono ?_
 rintro e _w6 ⟨r6, rfl, hr, hxr6⟩
 have HR6 : r6.data.size ≤ 2000 := by
  have e : r6.data.size = _ := hr
  rw [e]; decide
 have HR6s : r6.size ≤ 2000 := HR6
 clear hr
 go_wp2_with fail
 refine (repeated_any _ 6 (by decide) (by decide) _).mono ?_
 rintro e _w7 ⟨r7, rfl, hr, hxr7⟩
 have HR7 : r7.data.size ≤ 2000 := by
  have e : r7.data.size = _ := hr
  rw [e]; decide
 have HR7s : r7.size ≤ 2000 := HR7
 clear hr
 go_wp2_with fail
 refine (repeated_any _ 4 (by decide) (by decide) _).mono ?_
 rintro e _w8 ⟨r8, rfl, hr, hxr8⟩
 have HR8 : r8.data.size ≤ 2000 := by
  have e : r8.data.size = _ := hr
  rw [e]; decide
 have HR8s : r8.size ≤ 2000 := HR8
 clear hr
 go_wp2_with fail
 refine (repeated_any _ 4 (by decide) (by decide) _).mono ?_
 rintro e _w9 ⟨r9, rfl, hr, hxr9⟩
 have HR9 : r9.data.size ≤ 2000 := by
  have e : r9.data.size = _ := hr
  rw [e]; decide
 have HR9s : r9.size ≤ 2000 := HR9
 clear hr
 go_upto_region 4 with (fail)
 have hxr := ((((((((hxr0.trans hxr1).trans hxr2).trans hxr3).trans hxr4).trans hxr5).trans hxr6).trans hxr7).trans hxr8).trans hxr9
 generalize hw5 : _w9.alloc (.cells _ 9) = w5
 obtain ⟨tt, htl, hS5, _⟩ := strs_alloc hw5.symm (by
  intro v hv
  simp only [List.mem_cons, List.not_mem_nil, or_false] at hv
  rcases hv with rfl | rfl | rfl | rfl | rfl | rfl | rfl | rfl | rfl | rfl | rfl | rfl | rfl | rfl | rfl | rfl | rfl | rfl | rfl <;>
   exact ⟨_, rfl, by first | decide | ((try simp only [ByteArray.size_append]); (try simp only [ByteArray.size, List.size_toArray, List.length_cons, List.length_nil]); omega)⟩)
 have hx5 : Ext w1 w5 := by rw [← hw5]; exact hxr.alloc _
 have htl : tt.length = 19 := htl
 have HS5 := Lib.hid hS5
 have HG1 := Lib.hid (And.intro (HG0.out.1.ext hx5) (And.intro (HG0.out.2.1.ext hx5) (HG0.out.2.2.ext hx5)))
 have HX5 := Lib.hid hx5
 obtain ⟨tb, htb⟩ : ∃ tb, tb = _w9.heap.size := ⟨_, rfl⟩
 rw [← htb] at HS5 ⊢
 have hTL := Lib.hid htl
 have p5 := hx5.cell p0
 clear hw5 hS5 hx5 HG0 HR0 HR1 HR2 HR3 HR4 HR5 HR6 HR7 HR8 HR9 HR0s HR1s HR2s HR3s HR4s HR5s HR6s HR7s HR8s HR9s htb htl p0
 have HX0 := Lib.hid hx0
 clear hx0
 go_wp2_with fail
 go_loopw [6] (fun i wr => ∃ k : Nat, k ≤ 19 ∧ i = .int .i64 k ∧ Ext w5 wr) (fun i _ => 19 - (intOf i).toNat)
 case atStart => exact ⟨0, Nat.zero_le _, rfl, Ext.refl _⟩
 case round =>
  obtain ⟨i, hi, rfl, hxa⟩ := hrel
  have pa := hxa.cell p5
  by_cases hlt : i < 19
  ·
   have hl : decide ((i : Int) < 19) = true := decide_eq_true (by omega)
   have i0 : (0 : Int) ≤ (i : Int) := Int.natCast_nonneg _
   have i1 : (i : Int) < 19 := by omega
   obtain ⟨b, o, e, cS, hsz⟩ := (HS5.out.ext hxa) i (by rw [hTL.out]; exact hlt)
   injection e with e
   injection e with e1 e2
   subst e1 e2
   rw [Nat.zero_add] at cS
   generalize tt[i]'(by rw [hTL.out]; exact hlt) = s at cS hsz
   obtain ⟨P, hP⟩ : ∃ P, P = resP (readG s) := ⟨_, rfl⟩
   obtain ⟨ra, hra⟩ : ∃ ra, ra = resPA (readG s) := ⟨_, rfl⟩
   obtain ⟨re, hre⟩ : ∃ re, re = resPE (readG s) := ⟨_, rfl⟩
   have K1 := Lib.hid (Program_rd s wr (HG1.out.1.ext hxa) (HG1.out.2.1.ext hxa) hsz (HG1.out.2.2.ext hxa))
   have HPE := Lib.hid (And.intro hP (And.intro hra hre))
   clear hP hra hre
   go_wp2_with fail
   refine K1.out.mono ?_
   rintro e w2 h2
   obtain ⟨A0, c0, A1, c1, he, hPa, hx2⟩ := h2.all
   rw [← HPE.out.1, ← HPE.out.2.1, ← HPE.out.2.2] at he
   rw [← HPE.out.1] at hPa
   subst he
   obtain ⟨w3, hw3⟩ : ∃ w3, w3 = w2.alloc (.cells #[.slice A0 P.clauses.length c0, .slice A1 P.rules.length c1] 31) := ⟨_, rfl⟩
   obtain ⟨xa, hxa'⟩ : ∃ xa, xa = w2.heap.size := ⟨_, rfl⟩
   have hx3 : Ext w2 w3 := by rw [hw3]; exact (Ext.refl _).alloc _
   have hb3 : BoxN w3 xa [.slice A0 P.clauses.length c0, .slice A1 P.rules.length c1] := by rw [hw3, hxa']; exact BoxN.new w2 _ _ (by simp)
   have HW3 := Lib.hid (And.intro hw3 hxa')
   have hx23 := hx2.trans hx3
   have cS2 := hx23.cell cS
   have K2 := Lib.hid (readProgram_pg s w3 hsz)
   have HPa := Lib.hid (hPa.ext hx3)
   clear K1 h2 hw3 hPa hx2 hx3 hxa'
   go_upto_region 8 with (fail)
   rw [← HW3.out.2, ← HW3.out.1]
   go_wp2_with fail
   refine K2.out.mono ?_
   rintro e w4 h4
   obtain ⟨B0, e0, B1, e1, he, hPb, hx4⟩ := h4.all
   rw [← HPE.out.1, ← HPE.out.2.1, ← HPE.out.2.2] at he
   rw [← HPE.out.1] at hPb
   subst he
   obtain ⟨w5, hw5⟩ : ∃ w5, w5 = w4.alloc (.cells #[.slice B0 P.clauses.length e0, .slice B1 P.rules.length e1] 31) := ⟨_, rfl⟩
   obtain ⟨xb, hxb'⟩ : ∃ xb, xb = w4.heap.size := ⟨_, rfl⟩
   have hx5 : Ext w4 w5 := by rw [hw5]; exact (Ext.refl _).alloc _
   have hb5 : BoxN w5 xb [.slice B0 P.clauses.length e0, .slice B1 P.rules.length e1] := by rw [hw5, hxb']; exact BoxN.new w4 _ _ (by simp)
   have HW5 := Lib.hid (And.intro hw5 hxb')
   have hx45 := hx4.trans hx5
   have hxb := (hxa.trans hx23).trans hx45
   have hba := hb3.ext hx45
   have a0 := hba.cell 0 rfl
   have a1 := hba.cell 1 rfl
   have d0 := hb5.cell 0 rfl
   have d1 := hb5.cell 1 rfl
   have KN := Lib.hid (num5_any re w5)
   have KE := Lib.hid (eqProgram_yes P ⟨A0, c0, A1, c1⟩ ⟨B0, e0, B1, e1⟩ w5 (HPa.out.ext hx45) (hPb.ext hx5))
   have HXB := Lib.hid hxb
   clear K2 h4 hw5 hPb hx4 hx5 hb3 hb5 hba cS cS2 hx23 hx45 hxb' HPa HPE hxb
   go_upto_region 9 with (fail)
   rw [← HW5.out.2, ← HW5.out.1]
   go_wp2_with fail
   refine KN.out.mono ?_
   rintro e w6 ⟨rfl, rfl⟩
   go_wp2_with fail
   refine KE.out.mono ?_
   rintro e w7 ⟨rfl, hx7⟩
   have HX7 := Lib.hid (HXB.out.trans hx7)
   clear hx7 KE KN HXB a0 a1 d0 d1
   go_wp2_with fail
   go_roundw
   case rel => exact ⟨i + 1, by omega, by go_num, HX7.out⟩
   case measure => simp [intOf]; omega
  ·
   have hl : decide ((i : Int) < 19) = false := decide_eq_false (by omega)
   have hge : decide ((0 : Int) ≤ (ss.length : Int)) = true := decide_eq_true (by omega)
   have KW := Lib.hid (wakes5_any wr (HG1.out.1.ext hxa) (HG1.out.2.1.ext hxa) (HG1.out.2.2.ext hxa))
   go_wp2_with fail
   refine KW.out.mono ?_
   rintro e w2 ⟨rfl, hx2⟩
   have HX := Lib.hid ((HX0.out.trans (HX5.out.trans hxa)).trans hx2)
   clear KW hx2
   go_wp2_with fail
   go_ret
   exact ⟨rfl, HX.out⟩
end Go.Proofs.YtbjghkmjnhmlfaaGreatDoor
