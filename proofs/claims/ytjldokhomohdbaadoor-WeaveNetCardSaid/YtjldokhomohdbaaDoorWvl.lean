/- almagestref7: Table. -/
import Derived.Test.YtjldokhomohdbaaDoorWvk
import Derived.Test.YtjldokhomohdbaaDoorZc
namespace Go.Proofs.YtjldokhomohdbaaDoor
open Go.RowKit Go.Maps

/-- the table's cells behind the first n threes -/
def tabL (n : Nat) : List Value := (List.range 196).map fun i => .int .i64 (tabU i n : Int)
theorem tabL_len (n : Nat) : (tabL n).length = 196 := by simp [tabL]
theorem tabL_at {n i : Nat} (h : i < 196) : (tabL n)[i]? = some (.int .i64 (tabU i n : Int)) := by
  unfold tabL
  rw [List.getElem?_map, List.getElem?_range h]
  rfl
theorem tabL_all : tabL 3375 = tabCs := rfl
theorem tabL_set (n : Nat) : (tabL n).set (ixN n) (.int .i64 ((tabU (ixN n) n ||| 2 ^ btN n : Nat) : Int)) = tabL (n + 1) := by
  refine List.ext_getElem (by simp [tabL]) fun i h1 h2 => ?_
  rw [List.getElem_set]
  simp only [tabL, List.getElem_map, List.getElem_range]
  by_cases e : ixN n = i
  · rw [if_pos e, ← e, tabU, if_pos rfl]
  · rw [if_neg e, tabU, if_neg e, Nat.or_zero]
theorem BlkT.far {w : World} {g : Nat} {cs : List Value} (h : BlkT w g cs) {p : Addr} (v : Value) (hne : g ≠ p.block) : BlkT (w.setCell p v) g cs := (Below.heap_setCell _ _ _ _ hne).trans h

/-- what stands behind the first n threes -/
structure TS (w : World) (gt g0 g n : Nat) (u : World) : Prop where
  t : BlkT u gt (tabL n)
  z : BlkT u g0 (tabL 0)
  l : SpsAt u spsZ (some ⟨g, 0, none⟩)
  e : Ext w u
theorem TS.ext {w u u' : World} {gt g0 g n : Nat} (h : TS w gt g0 g n u) (k : Ext u u') : TS w gt g0 g n u' := ⟨h.t.ext k, h.z.ext k, h.l.ext k, h.e.trans k⟩
theorem TS.put {w u : World} {gt g0 g n : Nat} (h : TS w gt g0 g n u) (h1 : g ≠ gt) (h0 : g0 ≠ gt) (hb : w.heap.size ≤ gt) :
    TS w gt g0 g (n + 1) (u.setCell ⟨gt, ixN n, none⟩ (.int .i64 ((tabU (ixN n) n ||| 2 ^ btN n : Nat) : Int))) := by
  refine ⟨?_, h.z.far _ h0, fun i hi => ?_, h.e.setCell hb _⟩
  · rw [← tabL_set n]; exact h.t.set _ _
  · obtain ⟨b, o, e, c0, c1⟩ := h.l i hi
    injection e with e; injection e with e1 e2; subst e1; subst e2
    exact ⟨g, 0, rfl, by rw [World.cell?_setCell_other _ _ _ _ (by intro e; injection e with e; exact h1 e.symm)]; exact c0, by rw [World.cell?_setCell_other _ _ _ _ (by intro e; injection e with e; exact h1 e.symm)]; exact c1⟩

theorem all_small : ∀ i, i < 15 → ∀ j, j < 15 → allI ((spN i).1 : Int) ((spN i).2 : Int) ((spN j).1 : Int) ((spN j).2 : Int) = [(oN i j : Int) + 1] := by decide +kernel
theorem spZ_at {i : Nat} (h : i < spsZ.length) : spsZ[i] = (((spN i).1 : Int), ((spN i).2 : Int)) := by
  have h15 : i < spsN.length := by rw [spsZ_len] at h; exact h
  simp [spsZ, spN, List.getD_eq_getElem?_getD, List.getElem?_eq_getElem h15]
theorem TS.sp {w u : World} {gt g0 g n i : Nat} (h : TS w gt g0 g n u) (hi : i < 15) : u.cell? ⟨g, i * 2, none⟩ = some (.int .i64 ((spN i).1 : Int)) ∧ u.cell? ⟨g, i * 2 + 1, none⟩ = some (.int .i64 ((spN i).2 : Int)) := by
  have hi' : i < spsZ.length := by rw [spsZ_len]; exact hi
  obtain ⟨b, o, e, c0, c1⟩ := h.l i hi'
  injection e with e; injection e with e1 e2; subst e1; subst e2
  rw [spZ_at hi'] at c0 c1
  rw [Nat.zero_add] at c0 c1
  exact ⟨c0, c1⟩

theorem two64 {U : Nat} (h : U < 13) : RowKit.wrap64 ((2 : Int) ^ U) = ((2 ^ U : Nat) : Int) := by
  obtain rfl | rfl | rfl | rfl | rfl | rfl | rfl | rfl | rfl | rfl | rfl | rfl | rfl : U = 0 ∨ U = 1 ∨ U = 2 ∨ U = 3 ∨ U = 4 ∨ U = 5 ∨ U = 6 ∨ U = 7 ∨ U = 8 ∨ U = 9 ∨ U = 10 ∨ U = 11 ∨ U = 12 := by omega
  all_goals decide +kernel
theorem ext_setCells {w : World} {b : Nat} (vs : List Value) : ∀ (o : Nat) (u : World) (_ : w.heap.size ≤ b), Ext w u → Ext w (u.setCells b o vs) := by
  induction vs with
  | nil => intro o u _ h; exact h
  | cons v r ih => intro o u hb h; exact ih (o + 1) _ hb (h.setCell hb v)
theorem zeros_tab : Tryd.zeroCells39 = (tabL 0).toArray := by kernel_rfl
theorem spans_form {w : World} {base : Nat} {v : Value} (h : w.ownsRow base 52 2 v spsZ.length (spCells spsZ)) : ∃ g c, v = .slice (some ⟨g, 0, none⟩) 15 c ∧ 15 ≤ c ∧ base ≤ g ∧ SpsAt w spsZ (some ⟨g, 0, none⟩) := by
  obtain ⟨A, c, e, hc, hS⟩ := owned_sps h
  rcases h.2 with ⟨_, h0⟩ | ⟨g, cap, cur, rfl, hb, _⟩
  · rw [spsZ_len] at h0; cases h0
  · injection e with e1 e2 e3
    subst e1
    exact ⟨g, cap, by rw [spsZ_len], by rw [spsZ_len] at hc; omega, hb, hS⟩
theorem n_split {i j k : Nat} (hj : j < 15) (hk : k < 15) : ((i * 15 + j) * 15 + k) / 225 = i ∧ ((i * 15 + j) * 15 + k) / 15 % 15 = j ∧ ((i * 15 + j) * 15 + k) % 15 = k := by omega

set_option maxRecDepth 100000 in
set_option maxHeartbeats 4000000 in
theorem Table_any (w : World) : Calls Tryd.prog 17 #[] w fun e w' => e = .returned tabV ∧ Ext w w' := by
  have KS := Lib.hid (fun u => spans_any u)
  unfold SpansOut at KS
  obtain ⟨W0, hW0⟩ : ∃ W0, W0 = (w.alloc (.cells Tryd.zeroCells39 39)).alloc (.cells Tryd.zeroCells39 39) := ⟨_, rfl⟩
  have hx0 : Ext w W0 := by rw [hW0]; exact ((Ext.refl w).alloc _).alloc _
  have hB0 : BlkT W0 w.heap.size (tabL 0) := by rw [hW0, zeros_tab]; exact (BlkT.made w _).ext ((Ext.refl _).alloc _)
  have hB1 : BlkT W0 (w.heap.size + 1) (tabL 0) := by
    rw [hW0, zeros_tab, show w.heap.size + 1 = (w.alloc (.cells (tabL 0).toArray 39)).heap.size by simp]
    exact BlkT.made _ _
  have hsz := hB1.lt
  have HW := Lib.hid hW0
  clear hW0
  go_enter Tryd.func17, Tryd.ntmps17
  go_upto_region 2 with (fail)
  rw [← HW.out]
  obtain ⟨g0, hg0⟩ : ∃ g0, g0 = w.heap.size := ⟨_, rfl⟩
  obtain ⟨gt, hgt⟩ : ∃ gt, gt = w.heap.size + 1 := ⟨_, rfl⟩
  rw [← hgt] at hB1 hsz
  rw [← hgt, ← hg0]
  rw [← hg0] at hB0
  have hne0 : g0 ≠ gt := by omega
  have hbg : w.heap.size ≤ gt := by omega
  have HG0 : Hid (w.heap.size ≤ g0) := Lib.hid (by omega)
  clear hg0 hgt HW
  go_wp2_with fail
  refine (KS.out _).mono ?_
  rintro e w1 ⟨v, rfl, hown, hx1⟩
  obtain ⟨g, c, rfl, hc, hbs, hS⟩ := spans_form hown
  have hne1 : g ≠ gt := by omega
  have HT0 : TS w gt g0 g 0 w1 := ⟨hB1.ext hx1, hB0.ext hx1, hS, hx0.trans hx1⟩
  have HNE := Lib.hid (And.intro hne1 (And.intro hne0 hbg))
  clear hown hB0 hB1 hsz hx0 hx1 hS KS hne0 hne1 hbg hbs
  go_wp2_with fail
  go_loopw [3] (fun i wr => ∃ a : Nat, a ≤ 15 ∧ i = .int .i64 a ∧ TS w gt g0 g (a * 15 * 15) wr) (fun i _ => 15 - (intOf i).toNat)
  case atStart => exact ⟨0, by omega, rfl, HT0⟩
  case round =>
    obtain ⟨a, ha, rfl, hT⟩ := hrel
    by_cases hlt : a < 15
    · have ha5 : (a : Int) < 15 := by omega
      have ha0 : (0 : Int) ≤ (a : Int) := by omega
      clear HT0
      obtain ⟨wo, hwo⟩ : ∃ wo, wo = wr := ⟨_, rfl⟩
      rw [← hwo] at hT
      rw [← hwo]
      clear hwo
      go_wp2_with fail
      go_loopw [4] (fun i wr => ∃ b : Nat, b ≤ 15 ∧ i = .int .i64 b ∧ TS w gt g0 g ((a * 15 + b) * 15) wr) (fun i _ => 15 - (intOf i).toNat)
      case atStart => exact ⟨0, by omega, rfl, hT⟩
      case round =>
        obtain ⟨b, hb, rfl, hT2⟩ := hrel
        by_cases hlb : b < 15
        · have hb5 : (b : Int) < 15 := by omega
          have hb0 : (0 : Int) ≤ (b : Int) := by omega
          clear hT
          obtain ⟨wp, hwp⟩ : ∃ wp, wp = wr := ⟨_, rfl⟩
          rw [← hwp] at hT2
          rw [← hwp]
          clear hwp
          go_wp2_with fail
          go_loopw [5] (fun i wr => ∃ d : Nat, d ≤ 15 ∧ i = .int .i64 d ∧ TS w gt g0 g ((a * 15 + b) * 15 + d) wr) (fun i _ => 15 - (intOf i).toNat)
          case atStart => exact ⟨0, by omega, rfl, hT2⟩
          case round =>
            obtain ⟨d, hd, rfl, hT3⟩ := hrel
            by_cases hld : d < 15
            · have hd5 : (d : Int) < 15 := by omega
              have hd0 : (0 : Int) ≤ (d : Int) := by omega
              clear hT2
              obtain ⟨wq, hwq⟩ : ∃ wq, wq = wr := ⟨_, rfl⟩
              rw [← hwq] at hT3
              rw [← hwq]
              clear hwq
              obtain ⟨p0, p1⟩ := hT3.sp hlt
              obtain ⟨p2, p3⟩ := hT3.sp hlb
              obtain ⟨p4, p5⟩ := hT3.sp hld
              have K1 := Lib.hid (fun u => Only_any _ _ _ _ _ u (all_small a hlt b hlb))
              have K2 := Lib.hid (fun u => Only_any _ _ _ _ _ u (all_small b hlb d hld))
              have K3 := Lib.hid (fun u => Only_any _ _ _ _ _ u (all_small a hlt d hld))
              have hN := Lib.hid (n_split (i := a) hlb hld)
              have r13 := oN_lt a hlt b hlb
              have s13 := oN_lt b hlb d hld
              have u13 := oN_lt a hlt d hld
              have HIX : Hid (ixN ((a * 15 + b) * 15 + d) = (oN a b + 1) * 14 + (oN b d + 1)) := Lib.hid (by unfold ixN; rw [hN.out.1, hN.out.2.1, hN.out.2.2])
              have HBT : Hid (btN ((a * 15 + b) * 15 + d) = oN a d) := Lib.hid (by unfold btN; rw [hN.out.1, hN.out.2.2])
              generalize oN a b = R at K1 HIX r13
              generalize oN b d = S at K2 HIX s13
              generalize oN a d = U at K3 HBT u13
              generalize ((spN a).1 : Int) = xa at *
              generalize ((spN a).2 : Int) = ya at *
              generalize ((spN b).1 : Int) = xb at *
              generalize ((spN b).2 : Int) = yb at *
              generalize ((spN d).1 : Int) = xd at *
              generalize ((spN d).2 : Int) = yd at *
              replace p0 : ∀ p : ExtOf wq, _ := ext_cell p0
              replace p1 : ∀ p : ExtOf wq, _ := ext_cell p1
              replace p2 : ∀ p : ExtOf wq, _ := ext_cell p2
              replace p3 : ∀ p : ExtOf wq, _ := ext_cell p3
              replace p4 : ∀ p : ExtOf wq, _ := ext_cell p4
              replace p5 : ∀ p : ExtOf wq, _ := ext_cell p5
              go_upto_region 12 with (fail)
              refine wp_region_ext (by kernel_rfl) (by kernel_rfl) ?_
              repeat (go_big_quiet_step (first | (go_at_call 26; with_reducible exact of_ext (K1.out _)) | (go_at_call 26; with_reducible exact of_ext (K2.out _)) | (go_at_call 26; with_reducible exact of_ext (K3.out _))))
              refine wpQuiet_nil ?_
              refine ext_all ?_
              intro w3 hx3
              replace hT3 := hT3.ext hx3
              clear p0 p1 p2 p3 p4 p5 hx3 K1 K2 K3
              go_upto_region 13 with (fail)
              have hix : (R + 1) * 14 + (S + 1) < 196 := by omega
              have c0 := hT3.t.cell ((R + 1) * 14 + (S + 1))
              rw [tabL_at hix] at c0
              have f0 := hT3.t.frozen ((R + 1) * 14 + (S + 1))
              have b0 : (0 : Int) ≤ (R : Int) + 1 := by omega
              have b1 : (R : Int) + 1 < 14 := by omega
              have b2 : (0 : Int) ≤ (S : Int) + 1 := by omega
              have b3 : (S : Int) + 1 < 14 := by omega
              have HP := Lib.hid (hT3.put HNE.out.1 HNE.out.2.1 HNE.out.2.2)
              rw [HIX.out, HBT.out] at HP
              have HX := Lib.hid (tabU_lt ((R + 1) * 14 + (S + 1)) ((a * 15 + b) * 15 + d) (by omega))
              generalize tabU ((R + 1) * 14 + (S + 1)) ((a * 15 + b) * 15 + d) = X at c0 HP HX
              have HOR := Lib.hid (or64 X (2 ^ U) (by have := HX.out; omega) (p16 u13))
              clear hT3
              go_region
              have HP2 : Hid (TS w gt g0 g ((a * 15 + b) * 15 + (d + 1)) (w3.setCell ⟨gt, (R + 1) * 14 + (S + 1), none⟩ (.int .i64 (bits .or .i64 (X : Int) (RowKit.wrap64 (2 ^ U))))).drew) := Lib.hid (by
                rw [two64 u13, HOR.out]
                exact HP.out.ext (Ext.refl _).drew)
              clear HP HOR c0 f0
              generalize (w3.setCell ⟨gt, (R + 1) * 14 + (S + 1), none⟩ (.int .i64 (bits .or .i64 (X : Int) (RowKit.wrap64 (2 ^ U))))).drew = w4 at HP2 ⊢
              go_wp2_with fail
              go_roundw
              case rel => exact ⟨d + 1, by omega, by go_num, HP2.out⟩
              case measure => simp [intOf]; omega
            · have hge : ¬ ((d : Int) < 15) := by omega
              have HT4 : Hid (TS w gt g0 g ((a * 15 + (b + 1)) * 15) wr) := Lib.hid (by
                obtain rfl : d = 15 := by omega
                rw [show (a * 15 + (b + 1)) * 15 = (a * 15 + b) * 15 + 15 by omega]
                exact hT3)
              clear hT3 hT2
              go_wp2_with fail
              go_roundw
              case rel => exact ⟨b + 1, by omega, by go_num, HT4.out⟩
              case measure => simp [intOf]; omega
        · have hge : ¬ ((b : Int) < 15) := by omega
          have HT4 : Hid (TS w gt g0 g ((a + 1) * 15 * 15) wr) := Lib.hid (by
            obtain rfl : b = 15 := by omega
            rw [show (a + 1) * 15 * 15 = (a * 15 + 15) * 15 by omega]
            exact hT2)
          clear hT2 hT
          go_wp2_with fail
          go_roundw
          case rel => exact ⟨a + 1, by omega, by go_num, HT4.out⟩
          case measure => simp [intOf]; omega
    · have hge : ¬ ((a : Int) < 15) := by omega
      obtain rfl : a = 15 := by omega
      have hB : BlkT wr gt tabCs := by have := hT.t; rwa [show 15 * 15 * 15 = 3375 from rfl, tabL_all] at this
      have hZ := hT.z
      have HE := Lib.hid hT.e
      have hbg0 : w.heap.size ≤ g0 := HG0.out
      have hi : (Tryd.prog.info? 39).map (·.size) = some tabCs.length := by rw [tabCs_len]; exact infoTab
      have hth : wr.there g0 0 tabCs.toArray.size := by have := hZ.there; rw [tabL_len] at this; simpa [tabCs_len] using this
      have h1 : tabCs.toArray.all (·.oneCell') = true := all_oneCell_toArray (fun v hv => by obtain ⟨i, _, rfl⟩ := List.mem_map.1 hv; rfl)
      have hi' : (Tryd.prog.info? 39).map (·.size) = some tabCs.toArray.size := by simpa using hi
      have hrg := hB.range
      have hrs : (wr.setCells g0 0 tabCs).rangeAt g0 0 tabCs := World.rangeAt_setCells_same _ _ _ _ (by simpa using hth)
      have hres := run_loadVar_mid (P := Tryd.prog) _ g0 0 39 tabCs _ hrs Tryd.underlying39 rfl hi
      have hfin : Ext w (wr.setCells g0 0 tabCs) := ext_setCells _ _ _ hbg0 HE.out
      clear hB hZ hT
      go_wp2_with (first
        | (refine wpList_load_mid (op := ⟨some 68, _, _, _, _, _⟩) rfl 39 (.tmp 1) rfl gt 0 rfl tabCs _ hrg Tryd.underlying39 rfl hi ?_)
        | (refine wpList_store_mid (op := ⟨none, _, _, _, _, _⟩) rfl 39 (.tmp 0) (.tmp 68) rfl g0 0 tabCs.toArray rfl rfl hth hi' h1 ?_))
      refine bodyPost_ret (v := tabV) ?_ rfl ⟨rfl, hfin⟩
      simp [results, Tryd.results17, asAddr, hres, tabV]
end Go.Proofs.YtjldokhomohdbaaDoor
