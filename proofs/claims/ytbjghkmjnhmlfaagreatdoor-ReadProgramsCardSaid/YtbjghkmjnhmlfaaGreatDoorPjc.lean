/- ReadPrograms: the walk. -/
import Derived.Test.YtbjghkmjnhmlfaaGreatDoorPja
namespace Go.Proofs.YtbjghkmjnhmlfaaGreatDoor
open Go.RowKit

theorem within_big (x : Int) (n : Nat) (h0 : 0 < n) (h1 : n ≤ 140737488351232) (w : World) : Calls Tryz.prog 7 #[.int .i64 x, .int .i64 (n : Int)] w fun e w' => ∃ f : Nat, f < n ∧ e = .returned (.int .i64 (f : Int)) ∧ w' = w := by
 have hwn : IntKind.u64.wrap (n : Int) = n := by rw [IntKind.wrap_u64]; omega
 have hne : (n : Int) ≠ 0 := by omega
 have hm0 : 0 ≤ IntKind.u64.wrap x % (n : Int) := Int.emod_nonneg _ (by omega)
 have hm1 : IntKind.u64.wrap x % (n : Int) < n := Int.emod_lt_of_pos _ (by omega)
 have hwx : 0 ≤ IntKind.u64.wrap x := by rw [IntKind.wrap_u64]; exact Int.emod_nonneg _ (by decide)
 obtain ⟨f, hf⟩ : ∃ f : Nat, (f : Int) = IntKind.u64.wrap x % (n : Int) := ⟨(IntKind.u64.wrap x % (n : Int)).toNat, by omega⟩
 have HM : Hid (RowKit.wrap64 (IntKind.u64.wrap x % (n : Int)) = (f : Int)) := Lib.hid (by
  rw [← hf]
  unfold RowKit.wrap64
  omega)
 have HF : Hid (f < n) := Lib.hid (by omega)
 clear hf hm0 hm1
 go_enter Tryz.func7, Tryz.ntmps7
 go_wp2_with fail
 go_ret
 exact ⟨f, HF.out, by rw [← HM.out]; rfl, rfl⟩
/-- a text as a slice of its bytes, which may be written -/
theorem conv_strF (s : ByteArray) (w : World) : ∃ (cap : Nat) (w' : World), (convert 9 27 (.string s)).run Tryz.prog w = .ok (.slice (some ⟨w.heap.size, 0, none⟩) s.size cap) w' ∧ Ext w w' ∧
  (∀ j (h : j < s.size), w'.cell? ⟨w.heap.size, j, none⟩ = some (.int .u8 s[j].toNat)) ∧ ∀ j, j < s.size → w'.frozen? ⟨w.heap.size, j, none⟩ = false := by
 have hcell : ∀ j (hj : j < s.size), (bytesRow s (grownCap w s.size 0 5))[j]? = some (.int .u8 s[j].toNat) := fun j hj => by
  have hj' : j < s.data.size := hj
  unfold bytesRow
  rw [Array.getElem?_append_left (by simpa using hj'), Array.getElem?_map, Array.getElem?_eq_getElem hj']
  rfl
 have hh := heap_alloc_new w.drew (.cells (bytesRow s (grownCap w s.size 0 5)) 5 ((bytesRow s (grownCap w s.size 0 5)).size, (bytesRow s (grownCap w s.size 0 5)).size + 1))
 refine ⟨_, _, run_bytes_of_string w _ _ _ s Tryz.underlying9 Tryz.underlying27 Tryz.underlying5, (Ext.refl _).drew.alloc _, fun j hj => ?_, fun j hj => ?_⟩
 ·
  have e := hcell j hj
  simp only [World.cell?]
  rw [show w.heap.size = w.drew.heap.size from rfl, hh]
  exact e
 ·
  have e := hcell j hj
  have hl : j < (bytesRow s (grownCap w s.size 0 5)).size := by
   rcases Nat.lt_or_ge j (bytesRow s (grownCap w s.size 0 5)).size with h | h
   ·
    exact h
   ·
    rw [Array.getElem?_eq_none h] at e; cases e
  simp only [World.frozen?]
  rw [show w.heap.size = w.drew.heap.size from rfl, hh]
  simp
  omega
theorem src_box2 (w : World) (cs : Array Value) (t : TypeId) (hs : cs.size = 2) : Src (w.alloc (.cells cs t)) (some ⟨w.heap.size, 0, none⟩) 2 2 1 cs.toList :=
 ⟨by simp [hs], .inr ⟨_, rfl, World.news_of_block (t := t) (fr := (0, 0)) (heap_alloc_new w _)⟩, Nat.le_refl _⟩
set_option maxRecDepth 100000 in
set_option maxHeartbeats 16000000 in
theorem programs_walk (ss : List ByteArray) (A : Option Addr) (c : Nat) (w : World) (hl : ss.length * 16 ≤ 140737488351232) (hS : StrsAt w ss A) (hC : ClsAt w) (hX : TxtAt w) (hB : BitAt w) :
  Calls Tryz.prog 3 #[.agg #[.slice A ss.length c]] w fun e w' => e = .returned (.bool true) ∧ Ext w w' := by
 have hx0 : Ext w (w.alloc (.cells #[.slice A ss.length c] 24)) := (Ext.refl w).alloc _
 obtain ⟨i0, hi0, hz0, hz1, hz2⟩ := info_parts infoStrQ
 go_enter Tryz.func3, Tryz.ntmps3
 go_wp2_with fail
 refine (heavy_any ss A c _ hl (hS.ext hx0)).mono ?_
 rintro e1 w1 ⟨rfl, hx1⟩
 have hx01 := hx0.trans hx1
 have p0 : w1.cell? ⟨w.heap.size, 0, none⟩ = some (.slice A ss.length c) := hx1.cell (by go_simp)
 have HS1 := Lib.hid (hS.ext hx01)
 have HG0 := Lib.hid (And.intro (hC.ext hx01) (And.intro (hX.ext hx01) (hB.ext hx01)))
 have HX01 := Lib.hid hx01
 clear hx1 hx0 hC hX hB hS hx01
 cases hv : heavyB ss with
 | true =>
  go_wp2_with fail
  go_ret
  exact ⟨rfl, HX01.out⟩
 | false =>
  clear hv
  have hlb : ss.length ≤ 10000000000000000 := by omega
  go_wp2_with fail
  go_loopw [3] (fun iv wr => ∃ i : Nat, i ≤ ss.length ∧ iv = .int .i64 i ∧ Ext w1 wr) (fun iv _ => ss.length - (intOf iv).toNat)
  case atStart => exact ⟨0, Nat.zero_le _, rfl, Ext.refl _⟩
  case round =>
   obtain ⟨wb, rfl⟩ : ∃ u : World, u = wr := ⟨_, rfl⟩
   obtain ⟨i, hi, rfl, hxa⟩ := hrel
   have pa := hxa.cell p0
   have HXA := Lib.hid hxa
   by_cases hboth : i < ss.length ∧ i < 6
   case neg =>
    have KW := Lib.hid (wakes5_any wb (HG0.out.1.ext hxa) (HG0.out.2.1.ext hxa) (HG0.out.2.2.ext hxa))
    by_cases hlt : i < ss.length
    ·
     have hl1 : decide ((i : Int) < (ss.length : Int)) = true := decide_eq_true (by omega)
     have hl6 : decide ((i : Int) < 6) = false := decide_eq_false (by omega)
     clear hxa
     go_wp2_with fail
     refine KW.out.mono ?_
     rintro e w2 ⟨rfl, hx2⟩
     have HX := Lib.hid ((HX01.out.trans HXA.out).trans hx2)
     clear KW hx2
     go_wp2_with fail
     go_ret
     exact ⟨rfl, HX.out⟩
    ·
     have hl1 : decide ((i : Int) < (ss.length : Int)) = false := decide_eq_false (by omega)
     clear hxa
     go_wp2_with fail
     refine KW.out.mono ?_
     rintro e w2 ⟨rfl, hx2⟩
     have HX := Lib.hid ((HX01.out.trans HXA.out).trans hx2)
     clear KW hx2
     go_wp2_with fail
     go_ret
     exact ⟨rfl, HX.out⟩
   case pos =>
    obtain ⟨hlt, h6⟩ := hboth
    have hl1 : decide ((i : Int) < (ss.length : Int)) = true := decide_eq_true (by omega)
    have hl6 : decide ((i : Int) < 6) = true := decide_eq_true (by omega)
    have i00 : (0 : Int) ≤ (i : Int) := Int.natCast_nonneg _
    have i1 : (i : Int) < (ss.length : Int) := by omega
    obtain ⟨b, o, rfl, cS, hsz⟩ := (HS1.out.ext hxa) i hlt
    generalize ss[i] = s at cS hsz
    go_upto_region 8 with (fail)
    have hown0 := own_box wb #[.string s] 9 1 rfl (by decide)
    have hxb0 : Ext wb (wb.alloc (.cells #[.string s] 9)) := (Ext.refl wb).alloc _
    have HO0 := Lib.hid (And.intro hown0 hxb0)
    clear hown0 hxb0 hxa
    go_wp2_with fail
    go_loopw [5, 6] (fun v kv wr => ∃ (k : Nat) (tx : List ByteArray), k ≤ 6 ∧ kv = .int .i64 k ∧ tx.length = 1 + 2 * k ∧ (∀ t ∈ tx, t.size ≤ s.size) ∧ wr.ownsRow wb.heap.size 9 1 v tx.length (strQ tx) ∧ Ext wb wr) (fun _ kv _ => 6 - (intOf kv).toNat)
    case atStart => exact ⟨0, [s], by omega, rfl, rfl, fun t ht => by obtain rfl := List.mem_singleton.1 ht; exact Nat.le_refl _, HO0.out.1, HO0.out.2⟩
    case round =>
     clear HO0
     obtain ⟨wk, rfl⟩ : ∃ u : World, u = wr := ⟨_, rfl⟩
     obtain ⟨k, tx, hk, rfl, htl, hts, hown, hxk⟩ := hrel
     obtain ⟨SA, sc, rfl, _⟩ := src_own hown
     have hlt5 := own_lt hown
     by_cases hgo : k < 6 ∧ 0 < s.size
     case neg =>
      obtain ⟨B, d, ev, hST⟩ := owned_strQ hown (fun t ht => Nat.le_trans (hts t ht) hsz)
      injection ev with eA eL eC
      subst eA eC
      have HST := Lib.hid hST
      have HXK := Lib.hid (HXA.out.trans hxk)
      have HG1 := Lib.hid (And.intro (HG0.out.1.ext HXK.out) (And.intro (HG0.out.2.1.ext HXK.out) (HG0.out.2.2.ext HXK.out)))
      have htn : tx.length ≤ 1000 := by omega
      obtain ⟨tn, htn'⟩ : ∃ tn, tn = tx.length := ⟨_, rfl⟩
      rw [← htn'] at htn
      have HTN := Lib.hid htn'.symm
      rw [← htn']
      by_cases hk6 : k < 6
      ·
       have hlk : decide ((k : Int) < 6) = true := decide_eq_true (by omega)
       have hs0 : s.size = 0 := by omega
       have hl0 : decide ((0 : Int) < (s.size : Int)) = false := decide_eq_false (by omega)
       clear hs0
       clear hown hxk hts htl hST htn' hlt5
       go_wp2_with fail
       go_loopw [9] (fun qv wr => ∃ q : Nat, q ≤ tn ∧ qv = .int .i64 q ∧ Ext wk wr) (fun qv _ => tn - (intOf qv).toNat)
       case atStart => exact ⟨0, Nat.zero_le _, rfl, Ext.refl _⟩
       case round =>
        obtain ⟨q, hq, rfl, hxa⟩ := hrel
        by_cases hq7 : q < tn
        case neg =>
         have hl9 : decide ((q : Int) < (tn : Int)) = false := decide_eq_false (by omega)
         go_wp2_with fail
         go_roundw
         case rel => exact ⟨i + 1, by omega, by go_num, HXK.out.trans hxa⟩
         case measure => simp [intOf]; omega
        case pos =>
         have hl9 : decide ((q : Int) < (tn : Int)) = true := decide_eq_true (by omega)
         have j0 : (0 : Int) ≤ (q : Int) := Int.natCast_nonneg _
         have j1 : (q : Int) < (tn : Int) := by omega
         obtain ⟨b2, o2, rfl, cS, hz2⟩ := (HST.out.ext hxa) q (by rw [HTN.out]; exact hq7)
         generalize tx[q]'(by rw [HTN.out]; exact hq7) = x at cS hz2
         have hsz := hz2
         obtain ⟨P, hP⟩ : ∃ P, P = resP (readG x) := ⟨_, rfl⟩
         obtain ⟨ra, hra⟩ : ∃ ra, ra = resPA (readG x) := ⟨_, rfl⟩
         obtain ⟨re, hre⟩ : ∃ re, re = resPE (readG x) := ⟨_, rfl⟩
         have K1 := Lib.hid (Program_rd x wr (HG1.out.1.ext hxa) (HG1.out.2.1.ext hxa) hsz (HG1.out.2.2.ext hxa))
         have HPE := Lib.hid (And.intro hP (And.intro hra hre))
         clear hP hra hre
         go_wp2_with fail
         refine K1.out.mono ?_
         rintro e w2 h2
         obtain ⟨A0, c0, A1, c1, he, hPa, hx2⟩ := h2.all
         rw [← HPE.out.1, ← HPE.out.2.1, ← HPE.out.2.2] at he
         rw [← HPE.out.1] at hPa
         subst he
         obtain ⟨w3, hw3⟩ : ∃ w3, w3 = w2.alloc (.cells #[.slice A0 P.clauses.length c0, .slice A1 P.rules.length c1] 31) := ⟨_, rfl⟩
         obtain ⟨xa, hxa'⟩ : ∃ xa, xa = w2.heap.size := ⟨_, rfl⟩
         have hx3 : Ext w2 w3 := by rw [hw3]; exact (Ext.refl _).alloc _
         have hb3 : BoxN w3 xa [.slice A0 P.clauses.length c0, .slice A1 P.rules.length c1] := by rw [hw3, hxa']; exact BoxN.new w2 _ _ (by simp)
         have HW3 := Lib.hid (And.intro hw3 hxa')
         have hx23 := hx2.trans hx3
         have cS2 := hx23.cell cS
         have K2 := Lib.hid (readProgram_pg x w3 hsz)
         have HPa := Lib.hid (hPa.ext hx3)
         clear K1 h2 hw3 hPa hx2 hx3 hxa'
         go_upto_region 19 with (fail)
         rw [← HW3.out.2, ← HW3.out.1]
         go_wp2_with fail
         refine K2.out.mono ?_
         rintro e w4 h4
         obtain ⟨B0, e0, B1, e1, he, hPb, hx4⟩ := h4.all
         rw [← HPE.out.1, ← HPE.out.2.1, ← HPE.out.2.2] at he
         rw [← HPE.out.1] at hPb
         subst he
         obtain ⟨w5, hw5⟩ : ∃ w5, w5 = w4.alloc (.cells #[.slice B0 P.clauses.length e0, .slice B1 P.rules.length e1] 31) := ⟨_, rfl⟩
         obtain ⟨xb, hxb'⟩ : ∃ xb, xb = w4.heap.size := ⟨_, rfl⟩
         have hx5 : Ext w4 w5 := by rw [hw5]; exact (Ext.refl _).alloc _
         have hb5 : BoxN w5 xb [.slice B0 P.clauses.length e0, .slice B1 P.rules.length e1] := by rw [hw5, hxb']; exact BoxN.new w4 _ _ (by simp)
         have HW5 := Lib.hid (And.intro hw5 hxb')
         have hx45 := hx4.trans hx5
         have hxb := (hxa.trans hx23).trans hx45
         have hba := hb3.ext hx45
         have a0 := hba.cell 0 rfl
         have a1 := hba.cell 1 rfl
         have d0 := hb5.cell 0 rfl
         have d1 := hb5.cell 1 rfl
         have KN := Lib.hid (num5_any re w5)
         have KE := Lib.hid (eqProgram_yes P ⟨A0, c0, A1, c1⟩ ⟨B0, e0, B1, e1⟩ w5 (HPa.out.ext hx45) (hPb.ext hx5))
         have HXB := Lib.hid hxb
         clear K2 h4 hw5 hPb hx4 hx5 hb3 hb5 hba cS cS2 hx23 hx45 hxb' HPa HPE hxb
         go_upto_region 20 with (fail)
         rw [← HW5.out.2, ← HW5.out.1]
         go_wp2_with fail
         refine KN.out.mono ?_
         rintro e w6 ⟨rfl, rfl⟩
         go_wp2_with fail
         refine KE.out.mono ?_
         rintro e w7 ⟨rfl, hx7⟩
         have HX7 := Lib.hid (HXB.out.trans hx7)
         clear hx7 KE KN HXB a0 a1 d0 d1
         go_wp2_with fail
         go_roundw
         case rel => exact ⟨q + 1, by omega, by go_num, HX7.out⟩
         case measure => simp [intOf]; omega
      ·
       have hlk : decide ((k : Int) < 6) = false := decide_eq_false (by omega)
       clear hown hxk hts htl hST htn' hlt5
       go_wp2_with fail
       go_loopw [9] (fun qv wr => ∃ q : Nat, q ≤ tn ∧ qv = .int .i64 q ∧ Ext wk wr) (fun qv _ => tn - (intOf qv).toNat)
       case atStart => exact ⟨0, Nat.zero_le _, rfl, Ext.refl _⟩
       case round =>
        obtain ⟨q, hq, rfl, hxa⟩ := hrel
        by_cases hq7 : q < tn
        case neg =>
         have hl9 : decide ((q : Int) < (tn : Int)) = false := decide_eq_false (by omega)
         go_wp2_with fail
         go_roundw
         case rel => exact ⟨i + 1, by omega, by go_num, HXK.out.trans hxa⟩
         case measure => simp [intOf]; omega
        case pos =>
         have hl9 : decide ((q : Int) < (tn : Int)) = true := decide_eq_true (by omega)
         have j0 : (0 : Int) ≤ (q : Int) := Int.natCast_nonneg _
         have j1 : (q : Int) < (tn : Int) := by omega
         obtain ⟨b2, o2, rfl, cS, hz2⟩ := (HST.out.ext hxa) q (by rw [HTN.out]; exact hq7)
         generalize tx[q]'(by rw [HTN.out]; exact hq7) = x at cS hz2
         have hsz := hz2
         obtain ⟨P, hP⟩ : ∃ P, P = resP (readG x) := ⟨_, rfl⟩
         obtain ⟨ra, hra⟩ : ∃ ra, ra = resPA (readG x) := ⟨_, rfl⟩
         obtain ⟨re, hre⟩ : ∃ re, re = resPE (readG x) := ⟨_, rfl⟩
         have K1 := Lib.hid (Program_rd x wr (HG1.out.1.ext hxa) (HG1.out.2.1.ext hxa) hsz (HG1.out.2.2.ext hxa))
         have HPE := Lib.hid (And.intro hP (And.intro hra hre))
         clear hP hra hre
         go_wp2_with fail
         refine K1.out.mono ?_
         rintro e w2 h2
         obtain ⟨A0, c0, A1, c1, he, hPa, hx2⟩ := h2.all
         rw [← HPE.out.1, ← HPE.out.2.1, ← HPE.out.2.2] at he
         rw [← HPE.out.1] at hPa
         subst he
         obtain ⟨w3, hw3⟩ : ∃ w3, w3 = w2.alloc (.cells #[.slice A0 P.clauses.length c0, .slice A1 P.rules.length c1] 31) := ⟨_, rfl⟩
         obtain ⟨xa, hxa'⟩ : ∃ xa, xa = w2.heap.size := ⟨_, rfl⟩
         have hx3 : Ext w2 w3 := by rw [hw3]; exact (Ext.refl _).alloc _
         have hb3 : BoxN w3 xa [.slice A0 P.clauses.length c0, .slice A1 P.rules.length c1] := by rw [hw3, hxa']; exact BoxN.new w2 _ _ (by simp)
         have HW3 := Lib.hid (And.intro hw3 hxa')
         have hx23 := hx2.trans hx3
         have cS2 := hx23.cell cS
         have K2 := Lib.hid (readProgram_pg x w3 hsz)
         have HPa := Lib.hid (hPa.ext hx3)
         clear K1 h2 hw3 hPa hx2 hx3 hxa'
         go_upto_region 19 with (fail)
         rw [← HW3.out.2, ← HW3.out.1]
         go_wp2_with fail
         refine K2.out.mono ?_
         rintro e w4 h4
         obtain ⟨B0, e0, B1, e1, he, hPb, hx4⟩ := h4.all
         rw [← HPE.out.1, ← HPE.out.2.1, ← HPE.out.2.2] at he
         rw [← HPE.out.1] at hPb
         subst he
         obtain ⟨w5, hw5⟩ : ∃ w5, w5 = w4.alloc (.cells #[.slice B0 P.clauses.length e0, .slice B1 P.rules.length e1] 31) := ⟨_, rfl⟩
         obtain ⟨xb, hxb'⟩ : ∃ xb, xb = w4.heap.size := ⟨_, rfl⟩
         have hx5 : Ext w4 w5 := by rw [hw5]; exact (Ext.refl _).alloc _
         have hb5 : BoxN w5 xb [.slice B0 P.clauses.length e0, .slice B1 P.rules.length e1] := by rw [hw5, hxb']; exact BoxN.new w4 _ _ (by simp)
         have HW5 := Lib.hid (And.intro hw5 hxb')
         have hx45 := hx4.trans hx5
         have hxb := (hxa.trans hx23).trans hx45
         have hba := hb3.ext hx45
         have a0 := hba.cell 0 rfl
         have a1 := hba.cell 1 rfl
         have d0 := hb5.cell 0 rfl
         have d1 := hb5.cell 1 rfl
         have KN := Lib.hid (num5_any re w5)
         have KE := Lib.hid (eqProgram_yes P ⟨A0, c0, A1, c1⟩ ⟨B0, e0, B1, e1⟩ w5 (HPa.out.ext hx45) (hPb.ext hx5))
         have HXB := Lib.hid hxb
         clear K2 h4 hw5 hPb hx4 hx5 hb3 hb5 hba cS cS2 hx23 hx45 hxb' HPa HPE hxb
         go_upto_region 20 with (fail)
         rw [← HW5.out.2, ← HW5.out.1]
         go_wp2_with fail
         refine KN.out.mono ?_
         rintro e w6 ⟨rfl, rfl⟩
         go_wp2_with fail
         refine KE.out.mono ?_
         rintro e w7 ⟨rfl, hx7⟩
         have HX7 := Lib.hid (HXB.out.trans hx7)
         clear hx7 KE KN HXB a0 a1 d0 d1
         go_wp2_with fail
         go_roundw
         case rel => exact ⟨q + 1, by omega, by go_num, HX7.out⟩
         case measure => simp [intOf]; omega
     case pos =>
      obtain ⟨hk6, hs0⟩ := hgo
      have hlk : decide ((k : Int) < 6) = true := decide_eq_true (by omega)
      have hl0 : decide ((0 : Int) < (s.size : Int)) = true := decide_eq_true (by omega)
      have hTK : tx.length ≤ 20 := by omega
      have KW := Lib.hid (fun x => within_big x s.size hs0 hsz wk)
      obtain ⟨cap, w6, hcv, hx6, hcells, hfrz⟩ := conv_strF s wk
      have HO := Lib.hid hown
      have HTS := Lib.hid (And.intro hts htl)
      have HXK := Lib.hid hxk
      have HCF := Lib.hid (And.intro hcells hfrz)
      clear hown hts hxk hcells hfrz htl hlt5
      go_wp2_with fail
      refine (KW.out _).mono ?_
      rintro e wn ⟨f, hf, rfl, hwn⟩
      have hwn' := hwn.symm
      subst hwn'
      have f0 : (0 : Int) ≤ (f : Int) := Int.natCast_nonneg _
      have f1 : (f : Int) < (s.size : Int) := by omega
      have f2 : (f : Int) ≤ (s.size : Int) := by omega
      go_upto_region 13 with (fail)
      obtain ⟨g, hg⟩ : ∃ g, g = wk.heap.size := ⟨_, rfl⟩
      have HG := Lib.hid hg
      rw [← hg] at hcv ⊢
      have hcf := HCF.out.1 f hf
      have hff := HCF.out.2 f hf
      rw [← hg] at hcf hff
      have HX6 := Lib.hid hx6
      clear hg hcv KW
      go_cut [] from 55 to 59 (fun wx => ∃ y : UInt8, wx = w6.setCell ⟨g, f, none⟩ (.int .u8 (y.toNat : Nat)))
      case first =>
       have hk6' : k = 0 ∨ k = 1 ∨ k = 2 ∨ k = 3 ∨ k = 4 ∨ k = 5 := by omega
       clear hlk hl0
       rcases hk6' with rfl | rfl | rfl | rfl | rfl | rfl
       ·
        go_wp2_with fail
        go_meet
        exact ⟨97, rfl⟩
       ·
        go_wp2_with fail
        go_meet
        exact ⟨40, rfl⟩
       ·
        go_wp2_with fail
        go_meet
        exact ⟨88, rfl⟩
       ·
        go_wp2_with fail
        go_meet
        exact ⟨41, rfl⟩
       ·
        go_wp2_with fail
        go_meet
        exact ⟨44, rfl⟩
       ·
        go_wp2_with fail
        go_meet
        exact ⟨46, rfl⟩
      case rest =>
       obtain ⟨y, hwc⟩ := hcut
       have hCw : Chg (· = g) w6 wc := by rw [hwc]; exact (Chg.refl _ _).setg _ _
       have hgk : g = wk.heap.size := HG.out
       have hxc : Ext wk wc := Chg.ext_of HX6.out hCw (fun b hb => by subst hb; omega)
       obtain ⟨l, hl'⟩ : ∃ l : List UInt8, l = s.data.toList.set f y := ⟨_, rfl⟩
       have hll : l.length = s.size := by rw [hl', List.length_set, Array.length_toList]; rfl
       have hcl : ∀ j (h : j < l.length), wc.drew.cell? ⟨g, 0 + j, none⟩ = some (.int .u8 (l[j].toNat : Nat)) := fun j hj => by
        have hj' : j < s.size := by omega
        have hcj := HCF.out.1 j hj'
        rw [← hgk] at hcj
        show wc.cell? _ = _
        rw [hwc, Nat.zero_add]
        by_cases e : f = j
        ·
         subst e
         rw [World.cell?_setCell_same' _ _ _ (by rw [hcf]; rfl)]
         simp [hl']
        ·
         rw [World.cell?_setCell_other _ _ _ _ (fun x => by injection x with _ x; exact e x), hcj]
         simp only [hl', List.getElem_set_ne e]
         rfl
       have hcv2 := conv_bytes l g 0 cap wc.drew hcl
       rw [hll] at hcv2
       have hownc : wc.ownsRow wb.heap.size 9 1 (.slice SA tx.length sc) tx.length (strQ tx) := own_same HO.out fun q hq => hxc.block q (own_lt HO.out q hq).2
       have hbas := (own_lt HO.out)
       have HXC := Lib.hid (HXK.out.trans hxc)
       have HL := Lib.hid (And.intro hll hwc)
       have HOC := Lib.hid (And.intro hownc hbas)
       have hsc : wb.heap.size ≤ wc.heap.size := HXC.out.size
       clear hwc hCw hgk hxc hll hl' hcl hownc hbas hcf hff HO HCF HX6 HG
       go_upto_region 14 with (fail)
       go_region_law
        ((refine step_app _ (by rfl) (.tmp 60) (.tmp 66) 22 (by rfl) wb.heap.size 9 i0 _ 1 16 Tryz.underlying22 hi0 hz0 hz1 hz2 (by rfl) (by decide) (.slice SA tx.length sc) tx.length (strQ tx) (by rfl) (HOC.out.1.drew.alloc _) (some ⟨wc.heap.size, 0, none⟩) 2 2 [.string (s.extract 0 f), .string ⟨l.toArray⟩] (by rfl) (src_box2 wc.drew #[.string (s.extract 0 f), .string ⟨l.toArray⟩] 9 rfl) (strQ_one [s.extract 0 f, ⟨l.toArray⟩]) (by unfold maxLen; omega) (by omega) (by simp; omega) ?_; intro v' w8 ho8 hg8 hat8))
       all_goals
        have hx8 : Ext wb w8 := Chg.ext_of (HXC.out.trans ((Ext.refl wc).drew.alloc (.cells #[.string (s.extract 0 f), .string ⟨l.toArray⟩] 9))) (own_chg hg8) (fun b hb => (HOC.out.2 b hb).1)
        have htx : ∃ tx2 : List ByteArray, tx2.length = 1 + 2 * (k + 1) ∧ (∀ t ∈ tx2, t.size ≤ s.size) ∧ w8.ownsRow wb.heap.size 9 1 v' tx2.length (strQ tx2) := by
         refine ⟨tx ++ [s.extract 0 f, ⟨l.toArray⟩], by rw [List.length_append, HTS.out.2]; simp; omega, fun t ht => ?_, ?_⟩
         ·
          rcases List.mem_append.1 ht with h | h
          ·
           exact HTS.out.1 t h
          ·
           simp only [List.mem_cons, List.not_mem_nil, or_false] at h
           rcases h with rfl | rfl
           ·
            simp; omega
           ·
            show l.toArray.size ≤ s.size
            rw [List.size_toArray, HL.out.1]
            exact Nat.le_refl _
         ·
          rw [strQ_app, List.length_append]
          exact ho8
        have HH := Lib.hid (And.intro hx8 htx)
        clear hx8 htx ho8 hg8 hat8
        go_wp2_with fail
        go_roundw
        case rel =>
         obtain ⟨tx2, h1, h2, h3⟩ := HH.out.2
         exact ⟨k + 1, tx2, by omega, by go_num, h1, h2, h3, HH.out.1⟩
        case measure => simp [intOf]; omega
end Go.Proofs.YtbjghkmjnhmlfaaGreatDoor
