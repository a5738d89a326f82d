/- ReadGuards: the walk. -/
import Derived.Test.YtbjghkmjnhmlfaaGreatDoorPja
namespace Go.Proofs.YtbjghkmjnhmlfaaGreatDoor
open Go.RowKit

set_option maxRecDepth 100000 in
set_option maxHeartbeats 16000000 in
theorem guards_walk (ss : List ByteArray) (A : Option Addr) (c : Nat) (w : World) (hl : ss.length * 16 ≤ 140737488351232) (hc : ss.length ≤ c) (hS : StrsAt w ss A) (hC : ClsAt w) (hX : TxtAt w) (hB : BitAt w) :
  Calls Tryz.prog 5 #[.agg #[.slice A ss.length c]] w fun e w' => e = .returned (.bool true) ∧ Ext w w' := by
 have hx0 : Ext w (w.alloc (.cells #[.slice A ss.length c] 24)) := (Ext.refl w).alloc _
 obtain ⟨i0, hi0, hz0, hz1, hz2⟩ := info_parts infoStrQ
 go_enter Tryz.func5, Tryz.ntmps5
 go_wp2_with fail
 refine (heavy_any ss A c _ hl (hS.ext hx0)).mono ?_
 rintro e1 w1 ⟨rfl, hx1⟩
 have hx01 := hx0.trans hx1
 have p0 : w1.cell? ⟨w.heap.size, 0, none⟩ = some (.slice A ss.length c) := hx1.cell (by go_simp)
 have hS1 := hS.ext hx01
 have HG0 := Lib.hid (And.intro (hC.ext hx01) (And.intro (hX.ext hx01) (hB.ext hx01)))
 have HX01 := Lib.hid hx01
 clear hx1 hx0 hC hX hB hS
 cases hv : heavyB ss with
 | true =>
  go_wp2_with fail
  go_ret
  exact ⟨rfl, HX01.out⟩
 | false =>
  clear hv
  have HS1 := Lib.hid hS1
  have hlit : (strQ [⟨#[88]⟩, ⟨#[49]⟩, ⟨#[107, 110, 111, 119, 110]⟩, ⟨#[102, 40, 88, 41]⟩]) = [.string ⟨#[88]⟩, .string ⟨#[49]⟩, .string ⟨#[107, 110, 111, 119, 110]⟩, .string ⟨#[102, 40, 88, 41]⟩] := rfl
  have hown := own_box w1 #[.string ⟨#[88]⟩, .string ⟨#[49]⟩, .string ⟨#[107, 110, 111, 119, 110]⟩, .string ⟨#[102, 40, 88, 41]⟩] 9 4 rfl (by decide)
  have hpl := World.block_lt_of_cell? _ _ p0
  have HL := Lib.hid hl
  have HC := Lib.hid hc
  clear hS1 hx01 hl hc
  go_wp2_with (at_builtin; refine wpList_app _ rfl _ _ 22 rfl w1.heap.size 9 i0 _ 1 16 Tryz.underlying22 hi0 hz0 hz1 hz2 rfl (by decide) (.slice (some ⟨w1.heap.size, 0, none⟩) 4 4) 4 [.string ⟨#[88]⟩, .string ⟨#[49]⟩, .string ⟨#[107, 110, 111, 119, 110]⟩, .string ⟨#[102, 40, 88, 41]⟩] rfl hown A ss.length c (strQ ss) rfl ((src_strQ HS1.out HC.out).ext ((Ext.refl _).alloc _)) (strQ_one ss) ?qc3 ?qc4 ?qc5 ?_)
  case qc3 => have := HL.out; unfold maxLen; omega
  case qc4 => have := HL.out; omega
  case qc5 => first | omega | simp
  intro v' w5 ho5 hg5 hat5
  have hx5 : Ext w1 w5 := Chg.ext_of ((Ext.refl w1).alloc (.cells #[.string ⟨#[88]⟩, .string ⟨#[49]⟩, .string ⟨#[107, 110, 111, 119, 110]⟩, .string ⟨#[102, 40, 88, 41]⟩] 9)) (own_chg hg5) (fun b hb => by simp [Value.ownBlock] at hb; omega)
  have hsz5 : ∀ s ∈ ([⟨#[88]⟩, ⟨#[49]⟩, ⟨#[107, 110, 111, 119, 110]⟩, ⟨#[102, 40, 88, 41]⟩] ++ ss : List ByteArray), s.size ≤ 140737488351232 := fun s hs => by
   rcases List.mem_append.1 hs with h | h
   ·
    simp only [List.mem_cons, List.not_mem_nil, or_false] at h
    rcases h with rfl | rfl | rfl | rfl <;> decide
   ·
    obtain ⟨i, hi, rfl⟩ := List.getElem_of_mem h
    obtain ⟨_, _, _, _, hz⟩ := HS1.out i hi
    exact hz
  obtain ⟨tx, htx⟩ : ∃ tx : List ByteArray, tx = [⟨#[88]⟩, ⟨#[49]⟩, ⟨#[107, 110, 111, 119, 110]⟩, ⟨#[102, 40, 88, 41]⟩] ++ ss := ⟨_, rfl⟩
  have htl : tx.length = 4 + ss.length := by rw [htx]; simp only [List.length_append, List.length_cons, List.length_nil]
  have ho6 : w5.ownsRow w1.heap.size 9 1 v' tx.length (strQ tx) := by
   rw [htl, htx, strQ_app, hlit]
   exact ho5
  rw [← htx] at hsz5
  obtain ⟨B, d, rfl, hS5⟩ := owned_strQ ho6 hsz5
  have HG1 := Lib.hid (And.intro (HG0.out.1.ext hx5) (And.intro (HG0.out.2.1.ext hx5) (HG0.out.2.2.ext hx5)))
  have HS5 := Lib.hid hS5
  have HX05 := Lib.hid (HX01.out.trans hx5)
  have htb : tx.length ≤ 10000000000000000 := by have := HL.out; omega
  clear ho5 hg5 hat5 hx5 hsz5 ho6 hS5 htx htl hlit hown p0 hpl HG0 HX01 HS1 HL HC
  obtain ⟨tn, htn⟩ : ∃ tn, tn = tx.length := ⟨_, rfl⟩
  rw [← htn] at htb ⊢
  have HTN := Lib.hid htn.symm
  clear htn
  go_wp2_with fail
  go_loopw [4] (fun iv wr => ∃ i : Nat, i ≤ tn ∧ iv = .int .i64 i ∧ Ext w5 wr) (fun iv _ => tn - (intOf iv).toNat)
  case atStart => exact ⟨0, Nat.zero_le _, rfl, Ext.refl _⟩
  case round =>
   obtain ⟨i, hi, rfl, hxa⟩ := hrel
   have HXA := Lib.hid hxa
   clear hxa
   by_cases hboth : i < tn ∧ i < 7
   case neg =>
    have KW := Lib.hid (wakes5_any wr (HG1.out.1.ext HXA.out) (HG1.out.2.1.ext HXA.out) (HG1.out.2.2.ext HXA.out))
    by_cases hlt : i < tn
    ·
     have hl1 : decide ((i : Int) < (tn : Int)) = true := decide_eq_true (by omega)
     have hl7 : decide ((i : Int) < 7) = false := decide_eq_false (by omega)
     go_wp2_with fail
     refine KW.out.mono ?_
     rintro e w6 ⟨rfl, hx6⟩
     have HX := Lib.hid ((HX05.out.trans HXA.out).trans hx6)
     clear KW hx6
     go_wp2_with fail
     go_ret
     exact ⟨rfl, HX.out⟩
    ·
     have hl1 : decide ((i : Int) < (tn : Int)) = false := decide_eq_false (by omega)
     go_wp2_with fail
     refine KW.out.mono ?_
     rintro e w6 ⟨rfl, hx6⟩
     have HX := Lib.hid ((HX05.out.trans HXA.out).trans hx6)
     clear KW hx6
     go_wp2_with fail
     go_ret
     exact ⟨rfl, HX.out⟩
   case pos =>
    obtain ⟨hlt, h7⟩ := hboth
    have hl1 : decide ((i : Int) < (tn : Int)) = true := decide_eq_true (by omega)
    have hl7 : decide ((i : Int) < 7) = true := decide_eq_true (by omega)
    have i0 : (0 : Int) ≤ (i : Int) := Int.natCast_nonneg _
    have i1 : (i : Int) < (tn : Int) := by omega
    go_wp2_with fail
    go_loopw [5] (fun kv wr2 => ∃ k : Nat, k ≤ tn ∧ kv = .int .i64 k ∧ Ext wr wr2) (fun kv _ => tn - (intOf kv).toNat)
    case atStart => exact ⟨0, Nat.zero_le _, rfl, Ext.refl _⟩
    case round =>
     obtain ⟨wk, rfl⟩ : ∃ u : World, u = wr := ⟨_, rfl⟩
     obtain ⟨k, hk, rfl, hxb⟩ := hrel
     have HXB := Lib.hid hxb
     clear hxb
     by_cases hboth : k < tn ∧ k < 7
     case neg =>
      by_cases hlt2 : k < tn
      ·
       have hl2 : decide ((k : Int) < (tn : Int)) = true := decide_eq_true (by omega)
       have hl72 : decide ((k : Int) < 7) = false := decide_eq_false (by omega)
       go_wp2_with fail
       go_roundw
       case rel => exact ⟨i + 1, by omega, by go_num, HXA.out.trans HXB.out⟩
       case measure => simp [intOf]; omega
      ·
       have hl2 : decide ((k : Int) < (tn : Int)) = false := decide_eq_false (by omega)
       go_wp2_with fail
       go_roundw
       case rel => exact ⟨i + 1, by omega, by go_num, HXA.out.trans HXB.out⟩
       case measure => simp [intOf]; omega
     case pos =>
      obtain ⟨hlt2, h72⟩ := hboth
      have hl2 : decide ((k : Int) < (tn : Int)) = true := decide_eq_true (by omega)
      have hl72 : decide ((k : Int) < 7) = true := decide_eq_true (by omega)
      have k0 : (0 : Int) ≤ (k : Int) := Int.natCast_nonneg _
      have k1 : (k : Int) < (tn : Int) := by omega
      obtain ⟨b, o, rfl, cI, hzI⟩ := (HS5.out.ext (HXA.out.trans HXB.out)) i (by rw [HTN.out]; exact hlt)
      obtain ⟨b', o', e, cK, hzK⟩ := (HS5.out.ext (HXA.out.trans HXB.out)) k (by rw [HTN.out]; exact hlt2)
      injection e with e
      injection e with e1 e2
      subst e1 e2
      generalize tx[i]'(by rw [HTN.out]; exact hlt) = sa at cI hzI
      generalize tx[k]'(by rw [HTN.out]; exact hlt2) = sb at cK hzK
      have hwr : IntKind.i64.wrap ((sa.size : Int) + (sb.size : Int)) = (sa.size : Int) + (sb.size : Int) := by rw [IntKind.wrap_i64]; omega
      by_cases hbig : 1500 < sa.size + sb.size
      case pos =>
       have hd : decide (1500 < (sa.size : Int) + (sb.size : Int)) = true := decide_eq_true (by omega)
       go_upto_region 10 with (fail)
       have q1 : ∀ p : ExtOf wk, p.to.cell? _ = _ := ext_cell cI
       have q2 : ∀ p : ExtOf wk, p.to.cell? _ = _ := ext_cell cK
       refine wp_region_ext (by kernel_rfl) (by kernel_rfl) ?_
       repeat (go_big_quiet_step (fail))
       refine wpQuiet_nil ?_
       refine ext_all ?_
       clear q1 q2
       intro w6 hx6
       have HX6 := Lib.hid (HXB.out.trans hx6)
       clear hx6 cI cK
       go_wp2_with fail
       go_roundw
       case rel => exact ⟨k + 1, by omega, by go_num, HX6.out⟩
       case measure => simp [intOf]; omega
      case neg =>
       have hd : decide (1500 < (sa.size : Int) + (sb.size : Int)) = false := decide_eq_false (by omega)
       go_upto_region 10 with (fail)
       have q1 : ∀ p : ExtOf wk, p.to.cell? _ = _ := ext_cell cI
       have q2 : ∀ p : ExtOf wk, p.to.cell? _ = _ := ext_cell cK
       refine wp_region_ext (by kernel_rfl) (by kernel_rfl) ?_
       repeat (go_big_quiet_step (fail))
       refine wpQuiet_nil ?_
       refine ext_all ?_
       clear q1 q2
       intro w6 hx6
       replace cI := hx6.cell cI
       replace cK := hx6.cell cK
       have HX6 := Lib.hid (HXB.out.trans hx6)
       clear hx6
       go_upto_region 11 with (fail)
       have q1 : ∀ p : ExtOf w6, p.to.cell? _ = _ := ext_cell cI
       have q2 : ∀ p : ExtOf w6, p.to.cell? _ = _ := ext_cell cK
       refine wp_region_ext (by kernel_rfl) (by kernel_rfl) ?_
       repeat (go_big_quiet_step (fail))
       refine wpQuiet_nil ?_
       refine ext_all ?_
       clear q1 q2
       intro w7 hx7
       have HX7 := Lib.hid (HX6.out.trans hx7)
       have ha : sa.size ≤ 1500 := by omega
       have hb : sb.size ≤ 1500 := by omega
       clear hx7 cI cK HX6 hzI hzK
       go_upto_region 13 with (fail)
       generalize hw8 : w7.alloc (.cells _ 9) = w8
       obtain ⟨tt, htl, hS8, hsz8⟩ := strs_alloc hw8.symm (by
        intro v hv
        simp only [List.mem_cons, List.not_mem_nil, or_false] at hv
        have ha' : sa.data.size ≤ 1500 := ha
        have hb' : sb.data.size ≤ 1500 := hb
        rcases hv with rfl | rfl | rfl | rfl | rfl | rfl | rfl <;>
         exact ⟨_, rfl, by (try simp only [ByteArray.size_append]); (try simp only [ByteArray.size, List.size_toArray, List.length_cons, List.length_nil]); omega⟩)
       have hx8 : Ext w7 w8 := by rw [← hw8]; exact (Ext.refl _).alloc _
       have htl : tt.length = 7 := htl
       obtain ⟨tb, htb⟩ : ∃ tb, tb = w7.heap.size := ⟨_, rfl⟩
       rw [← htb] at hS8 ⊢
       have HX8 := Lib.hid (HX7.out.trans hx8)
       have HS8 := Lib.hid (And.intro hS8 hsz8)
       have HTL := Lib.hid htl
       clear hw8 hS8 hsz8 htl htb hx8 HX7 ha hb
       have HXW := Lib.hid (HXA.out.trans HX8.out)
       go_wp2_with fail
       go_loopw [9] (fun jv wr => ∃ j : Nat, j ≤ 7 ∧ jv = .int .i64 j ∧ Ext w8 wr) (fun jv _ => 7 - (intOf jv).toNat)
       case atStart => exact ⟨0, Nat.zero_le _, rfl, Ext.refl _⟩
       case round =>
        obtain ⟨wj, rfl⟩ : ∃ u : World, u = wr := ⟨_, rfl⟩
        obtain ⟨j, hj, rfl, hxc⟩ := hrel
        by_cases hj7 : j < 7
        case neg =>
         have hl9 : decide ((j : Int) < 7) = false := decide_eq_false (by omega)
         go_wp2_with fail
         go_roundw
         case rel => exact ⟨k + 1, by omega, by go_num, HX8.out.trans hxc⟩
         case measure => simp [intOf]; omega
        case pos =>
         have hl9 : decide ((j : Int) < 7) = true := decide_eq_true (by omega)
         have j0 : (0 : Int) ≤ (j : Int) := Int.natCast_nonneg _
         have j1 : (j : Int) < 7 := by omega
         obtain ⟨b2, o2, e, cS, _⟩ := (HS8.out.1.ext hxc) j (by rw [HTL.out]; exact hj7)
         have hz2 := HS8.out.2 _ (List.getElem_mem (by rw [HTL.out]; exact hj7 : j < tt.length))
         injection e with e
         injection e with e1 e2
         subst e1 e2
         rw [Nat.zero_add] at cS
         generalize tt[j]'(by rw [HTL.out]; exact hj7) = x at cS hz2
         have hz3 : x.data.size ≤ 1000000 := hz2
         have hzC : (⟨#[102, 40, 88, 41, 32, 58, 45, 32, 103, 40, 88, 41, 44, 32]⟩ ++ x ++ ⟨#[46]⟩ : ByteArray).size ≤ 140737488351232 := by
          simp only [ByteArray.size_append]
          simp only [ByteArray.size, List.size_toArray, List.length_cons, List.length_nil]
          omega
         have hzT : ((⟨#[104, 32, 60, 45, 32, 97, 44, 32, 119, 105, 116, 104, 105, 110, 32, 51, 44, 32, 119, 104, 101, 114, 101, 32]⟩ ++ x ++ ⟨#[46]⟩) ++ (⟨#[102, 40, 88, 41, 32, 58, 45, 32, 103, 40, 88, 41, 44, 32]⟩ ++ x ++ ⟨#[46]⟩) : ByteArray).size ≤ 140737488351232 := by
          simp only [ByteArray.size_append]
          simp only [ByteArray.size, List.size_toArray, List.length_cons, List.length_nil]
          omega
         have HZC := Lib.hid hzC
         have HZT := Lib.hid hzT
         have HXC := Lib.hid hxc
         have hxW := HXW.out.trans hxc
         clear hzC hzT hxc
         obtain ⟨Pa, hP⟩ : ∃ P, P = resP (readG ((⟨#[104, 32, 60, 45, 32, 97, 44, 32, 119, 105, 116, 104, 105, 110, 32, 51, 44, 32, 119, 104, 101, 114, 101, 32]⟩ ++ x ++ ⟨#[46]⟩) ++ (⟨#[102, 40, 88, 41, 32, 58, 45, 32, 103, 40, 88, 41, 44, 32]⟩ ++ x ++ ⟨#[46]⟩))) := ⟨_, rfl⟩
         obtain ⟨raa, hra⟩ : ∃ ra, ra = resPA (readG ((⟨#[104, 32, 60, 45, 32, 97, 44, 32, 119, 105, 116, 104, 105, 110, 32, 51, 44, 32, 119, 104, 101, 114, 101, 32]⟩ ++ x ++ ⟨#[46]⟩) ++ (⟨#[102, 40, 88, 41, 32, 58, 45, 32, 103, 40, 88, 41, 44, 32]⟩ ++ x ++ ⟨#[46]⟩))) := ⟨_, rfl⟩
         obtain ⟨rea, hre⟩ : ∃ re, re = resPE (readG ((⟨#[104, 32, 60, 45, 32, 97, 44, 32, 119, 105, 116, 104, 105, 110, 32, 51, 44, 32, 119, 104, 101, 114, 101, 32]⟩ ++ x ++ ⟨#[46]⟩) ++ (⟨#[102, 40, 88, 41, 32, 58, 45, 32, 103, 40, 88, 41, 44, 32]⟩ ++ x ++ ⟨#[46]⟩))) := ⟨_, rfl⟩
         have K1 := Lib.hid (Program_rd ((⟨#[104, 32, 60, 45, 32, 97, 44, 32, 119, 105, 116, 104, 105, 110, 32, 51, 44, 32, 119, 104, 101, 114, 101, 32]⟩ ++ x ++ ⟨#[46]⟩) ++ (⟨#[102, 40, 88, 41, 32, 58, 45, 32, 103, 40, 88, 41, 44, 32]⟩ ++ x ++ ⟨#[46]⟩)) wj (HG1.out.1.ext hxW) (HG1.out.2.1.ext hxW) HZT.out (HG1.out.2.2.ext hxW))
         have HPE := Lib.hid (And.intro hP (And.intro hra hre))
         clear hP hra hre
         go_wp2_with fail
         refine K1.out.mono ?_
         rintro e wa2 h2
         obtain ⟨Aa0, ca0, Aa1, ca1, he, hPa, hx2⟩ := h2.all
         rw [← HPE.out.1, ← HPE.out.2.1, ← HPE.out.2.2] at he
         rw [← HPE.out.1] at hPa
         subst he
         obtain ⟨wa3, hw3⟩ : ∃ w3, w3 = wa2.alloc (.cells #[.slice Aa0 Pa.clauses.length ca0, .slice Aa1 Pa.rules.length ca1] 31) := ⟨_, rfl⟩
         obtain ⟨xaa, hxa'⟩ : ∃ xa, xa = wa2.heap.size := ⟨_, rfl⟩
         have hx3 : Ext wa2 wa3 := by rw [hw3]; exact (Ext.refl _).alloc _
         have hb3 : BoxN wa3 xaa [.slice Aa0 Pa.clauses.length ca0, .slice Aa1 Pa.rules.length ca1] := by rw [hw3, hxa']; exact BoxN.new wa2 _ _ (by simp)
         have HW3 := Lib.hid (And.intro hw3 hxa')
         have HXa3 := Lib.hid (And.intro ((hxW.trans hx2).trans hx3) (hx2.trans hx3))
         have K2 := Lib.hid (readProgram_pg ((⟨#[104, 32, 60, 45, 32, 97, 44, 32, 119, 105, 116, 104, 105, 110, 32, 51, 44, 32, 119, 104, 101, 114, 101, 32]⟩ ++ x ++ ⟨#[46]⟩) ++ (⟨#[102, 40, 88, 41, 32, 58, 45, 32, 103, 40, 88, 41, 44, 32]⟩ ++ x ++ ⟨#[46]⟩)) wa3 HZT.out)
         have HPa := Lib.hid (And.intro (hPa.ext hx3) hb3)
         clear K1 h2 hw3 hPa hx2 hx3 hxa' hb3
         go_upto_region 19 with (fail)
         rw [← HW3.out.2, ← HW3.out.1]
         clear HW3
         go_wp2_with fail
         refine K2.out.mono ?_
         rintro e wa4 h4
         obtain ⟨Ba0, ea0, Ba1, ea1, he, hPb, hx4⟩ := h4.all
         rw [← HPE.out.1, ← HPE.out.2.1, ← HPE.out.2.2] at he
         rw [← HPE.out.1] at hPb
         subst he
         obtain ⟨wa5, hw5⟩ : ∃ w5, w5 = wa4.alloc (.cells #[.slice Ba0 Pa.clauses.length ea0, .slice Ba1 Pa.rules.length ea1] 31) := ⟨_, rfl⟩
         obtain ⟨xab, hxb'⟩ : ∃ xb, xb = wa4.heap.size := ⟨_, rfl⟩
         have hx5 : Ext wa4 wa5 := by rw [hw5]; exact (Ext.refl _).alloc _
         have hb5 : BoxN wa5 xab [.slice Ba0 Pa.clauses.length ea0, .slice Ba1 Pa.rules.length ea1] := by rw [hw5, hxb']; exact BoxN.new wa4 _ _ (by simp)
         have HW5 := Lib.hid (And.intro hw5 hxb')
         have hx45 := hx4.trans hx5
         have hxa := HXa3.out.1.trans hx45
         have HSa := Lib.hid (HXa3.out.2.trans hx45)
         have HBa := Lib.hid (And.intro (HPa.out.2.ext hx45) hb5)
         have HPPa := Lib.hid (And.intro (HPa.out.1.ext hx45) (hPb.ext hx5))
         clear K2 h4 hw5 hPb hx4 hx5 hb5 hx45 hxb' HPa HPE HXa3
         go_upto_region 20 with (fail)
         rw [← HW5.out.2, ← HW5.out.1]
         clear HW5

         obtain ⟨Pb, hP⟩ : ∃ P, P = resP (readG (⟨#[102, 40, 88, 41, 32, 58, 45, 32, 103, 40, 88, 41, 44, 32]⟩ ++ x ++ ⟨#[46]⟩)) := ⟨_, rfl⟩
         obtain ⟨rab, hra⟩ : ∃ ra, ra = resPA (readG (⟨#[102, 40, 88, 41, 32, 58, 45, 32, 103, 40, 88, 41, 44, 32]⟩ ++ x ++ ⟨#[46]⟩)) := ⟨_, rfl⟩
         obtain ⟨reb, hre⟩ : ∃ re, re = resPE (readG (⟨#[102, 40, 88, 41, 32, 58, 45, 32, 103, 40, 88, 41, 44, 32]⟩ ++ x ++ ⟨#[46]⟩)) := ⟨_, rfl⟩
         have K1 := Lib.hid (Program_rd (⟨#[102, 40, 88, 41, 32, 58, 45, 32, 103, 40, 88, 41, 44, 32]⟩ ++ x ++ ⟨#[46]⟩) wa5 (HG1.out.1.ext hxa) (HG1.out.2.1.ext hxa) HZC.out (HG1.out.2.2.ext hxa))
         have HPE := Lib.hid (And.intro hP (And.intro hra hre))
         clear hP hra hre
         go_wp2_with fail
         refine K1.out.mono ?_
         rintro e wb2 h2
         obtain ⟨Ab0, cb0, Ab1, cb1, he, hPa, hx2⟩ := h2.all
         rw [← HPE.out.1, ← HPE.out.2.1, ← HPE.out.2.2] at he
         rw [← HPE.out.1] at hPa
         subst he
         obtain ⟨wb3, hw3⟩ : ∃ w3, w3 = wb2.alloc (.cells #[.slice Ab0 Pb.clauses.length cb0, .slice Ab1 Pb.rules.length cb1] 31) := ⟨_, rfl⟩
         obtain ⟨xba, hxa'⟩ : ∃ xa, xa = wb2.heap.size := ⟨_, rfl⟩
         have hx3 : Ext wb2 wb3 := by rw [hw3]; exact (Ext.refl _).alloc _
         have hb3 : BoxN wb3 xba [.slice Ab0 Pb.clauses.length cb0, .slice Ab1 Pb.rules.length cb1] := by rw [hw3, hxa']; exact BoxN.new wb2 _ _ (by simp)
         have HW3 := Lib.hid (And.intro hw3 hxa')
         have HXb3 := Lib.hid (And.intro ((hxa.trans hx2).trans hx3) (hx2.trans hx3))
         have K2 := Lib.hid (readProgram_pg (⟨#[102, 40, 88, 41, 32, 58, 45, 32, 103, 40, 88, 41, 44, 32]⟩ ++ x ++ ⟨#[46]⟩) wb3 HZC.out)
         have HPa := Lib.hid (And.intro (hPa.ext hx3) hb3)
         clear K1 h2 hw3 hPa hx2 hx3 hxa' hb3
         go_upto_region 21 with (fail)
         rw [← HW3.out.2, ← HW3.out.1]
         clear HW3
         go_wp2_with fail
         refine K2.out.mono ?_
         rintro e wb4 h4
         obtain ⟨Bb0, eb0, Bb1, eb1, he, hPb, hx4⟩ := h4.all
         rw [← HPE.out.1, ← HPE.out.2.1, ← HPE.out.2.2] at he
         rw [← HPE.out.1] at hPb
         subst he
         obtain ⟨wb5, hw5⟩ : ∃ w5, w5 = wb4.alloc (.cells #[.slice Bb0 Pb.clauses.length eb0, .slice Bb1 Pb.rules.length eb1] 31) := ⟨_, rfl⟩
         obtain ⟨xbb, hxb'⟩ : ∃ xb, xb = wb4.heap.size := ⟨_, rfl⟩
         have hx5 : Ext wb4 wb5 := by rw [hw5]; exact (Ext.refl _).alloc _
         have hb5 : BoxN wb5 xbb [.slice Bb0 Pb.clauses.length eb0, .slice Bb1 Pb.rules.length eb1] := by rw [hw5, hxb']; exact BoxN.new wb4 _ _ (by simp)
         have HW5 := Lib.hid (And.intro hw5 hxb')
         have hx45 := hx4.trans hx5
         have hxb := HXb3.out.1.trans hx45
         have HSb := Lib.hid (HXb3.out.2.trans hx45)
         have HBb := Lib.hid (And.intro (HPa.out.2.ext hx45) hb5)
         have HPPb := Lib.hid (And.intro (HPa.out.1.ext hx45) (hPb.ext hx5))
         clear K2 h4 hw5 hPb hx4 hx5 hb5 hx45 hxb' HPa HPE HXb3
         go_upto_region 22 with (fail)
         rw [← HW5.out.2, ← HW5.out.1]
         clear HW5

         have HXB2 := Lib.hid (And.intro hxb (HXC.out.trans (HSa.out.trans HSb.out)))
         have KN1 := Lib.hid (num5_any rea wb5)
         have KN2 := Lib.hid (fun u => num5_any reb u)
         have KE1 := Lib.hid (eqProgram_yes Pa ⟨Aa0, ca0, Aa1, ca1⟩ ⟨Ba0, ea0, Ba1, ea1⟩ wb5 (HPPa.out.1.ext HSb.out) (HPPa.out.2.ext HSb.out))
         have KE2 := Lib.hid (fun u (hu : Ext wb5 u) => eqProgram_yes Pb ⟨Ab0, cb0, Ab1, cb1⟩ ⟨Bb0, eb0, Bb1, eb1⟩ u (HPPb.out.1.ext hu) (HPPb.out.2.ext hu))
         have hba := HBa.out.1.ext HSb.out
         have hbb := HBa.out.2.ext HSb.out
         have a0 := hba.cell 0 rfl
         have a1 := hba.cell 1 rfl
         have d0 := hbb.cell 0 rfl
         have d1 := hbb.cell 1 rfl
         clear hba hbb hxa hxb hxW cS
         go_wp2_with fail
         refine KN1.out.mono ?_
         rintro e wn ⟨rfl, rfl⟩
         go_wp2_with fail
         refine KE1.out.mono ?_
         rintro e wq ⟨rfl, hxq⟩
         have KN3 := Lib.hid (KN2.out wq)
         have KE3 := Lib.hid (KE2.out wq hxq)
         have hbc := HBb.out.1.ext hxq
         have hbd := HBb.out.2.ext hxq
         have f0 := hbc.cell 0 rfl
         have f1 := hbc.cell 1 rfl
         have g0 := hbd.cell 0 rfl
         have g1 := hbd.cell 1 rfl
         have HXQ := Lib.hid (HXB2.out.2.trans hxq)
         clear hbc hbd hxq KN1 KN2 KE1 KE2 a0 a1 d0 d1
         go_wp2_with fail
         refine KN3.out.mono ?_
         rintro e wn ⟨rfl, rfl⟩
         go_wp2_with fail
         refine KE3.out.mono ?_
         rintro e wz ⟨rfl, hxz⟩
         have HXZ := Lib.hid (HXQ.out.trans hxz)
         clear hxz KN3 KE3 f0 f1 g0 g1
         go_wp2_with fail
         go_roundw
         case rel => exact ⟨j + 1, by omega, by go_num, HXZ.out⟩
         case measure => simp [intOf]; omega
end Go.Proofs.YtbjghkmjnhmlfaaGreatDoor
