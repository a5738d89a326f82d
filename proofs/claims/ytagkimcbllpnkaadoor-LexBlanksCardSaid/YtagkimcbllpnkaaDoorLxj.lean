/- Package lex: the cursor: mark. -/
import Derived.Test.YtagkimcbllpnkaaDoorLxk
import Derived.BigRegion
import Derived.Deep.DeepCutAuto
import Derived.Deep.CutBlock
namespace Go.Proofs.YtagkimcbllpnkaaDoor
open Go.RowKit Go.Maps

/-- the longest mark of at most so many bytes that stands first; 0: none -/
def mtry (l : List UInt8) : Nat → Nat
  | 0 => 0
  | z + 1 => if l.take (z + 1) ∈ mksL then z + 1 else mtry l z
def markR (s : ByteArray) (k : Nat) : Sum Int (Tok × Nat) :=
  if mtry (lft s k) (min 2 (lft s k).length) = 0 then .inl 4
  else .inr (⟨4, ⟨((lft s k).take (mtry (lft s k) (min 2 (lft s k).length))).toArray⟩, 0, 0⟩, k + mtry (lft s k) (min 2 (lft s k).length))

theorem zeroUnit (w : World) : (zeroValue 46).run Tryd.prog w = .ok (.agg #[]) w := Tryd.zeroValue46 w
/-- is it a mark? -/
theorem MkSet.look {w : World} {b : Nat} {L : List (List UInt8)} (h : MkSet w b L) {l : List UInt8} (hl : l.length ≤ 2) :
    (Instr.lookup 39 (.map (some b)) (mkV l) true).run Tryd.prog w = .ok (.tuple #[.agg #[], .bool (decide (l ∈ L))]) w := by
  obtain ⟨D, hown, hD⟩ := h
  obtain ⟨v, ps, hrun, hv⟩ := hown.look_ok keyedMk Tryd.underlying39 (zeroUnit w) unitElem_mk (key_mk hl)
  obtain ⟨rfl, _⟩ := unitElem_inv hv
  have e : has D (mkL l) = decide (l ∈ L) := by rw [Bool.eq_iff_iff, decide_eq_true_iff]; exact hD l hl
  rw [hrun, e]

theorem markOf_ag (s : ByteArray) (w : World) (hs : s.size ≤ 2) :
    Calls Tryd.prog 18 #[.string s] w fun e w' => ∃ n x y : Int, e = .returned (.agg #[.int .u8 n, .int .u8 x, .int .u8 y]) ∧ Hid (mkV s.data.toList = .agg #[.int .u8 n, .int .u8 x, .int .u8 y]) ∧ Ext w w' :=
  (markOf_any s w hs).mono fun _ _ ⟨e, k⟩ => ⟨_, _, _, e, Lib.hid rfl, k⟩
theorem ext_list (t : ByteArray) (a b : Nat) : (t.extract a b).data.toList = (t.data.toList.drop a).take (b - a) := by
  simp [ByteArray.data_extract, Array.toList_extract, List.extract_eq_take_drop]
theorem take_data (s : ByteArray) (k z : Nat) (h : k + z ≤ s.size) : ((s.extract k s.size).extract 0 z).data.toList = (lft s k).take z ∧ ((s.extract k s.size).extract 0 z).size = z := by
  have e : ((s.extract k s.size).extract 0 z).data.toList = (lft s k).take z := by
    rw [ext_list, ext_list, List.drop_zero, Nat.sub_zero, List.take_of_length_le (l := s.data.toList.drop k)]
    have := lft_len s k
    unfold lft at this
    omega
  refine ⟨e, ?_⟩
  have h2 : ((s.extract k s.size).extract 0 z).data.toList.length = z := by rw [e, List.length_take, lft_len]; omega
  rw [Array.length_toList] at h2
  exact h2

set_option maxRecDepth 100000 in
set_option maxHeartbeats 1000000 in
theorem mark_any (g : Nat) (s : ByteArray) (k b : Nat) (w : World) (h : CurAt w g s k b) (hM : MkSet w b mksL) (hk : k ≤ s.size) (hs : s.size ≤ 4000) :
    Calls Tryd.prog 25 #[.pointer (some ⟨g, 0, none⟩)] w (TokOut s g b w (markR s k)) := by
  have hgl := World.block_lt_of_cell? w _ h.c0
  simp only at hgl
  have hne : w.heap.size ≠ g := by omega
  have c0 := h.c0
  have c1 := h.c1
  have k0 : (0 : Int) ≤ (k : Int) := Int.natCast_nonneg _
  have k1 : (k : Int) ≤ (s.size : Int) := by omega
  obtain ⟨rs, hrs⟩ : ∃ rs, rs = s.extract k s.size := ⟨_, rfl⟩
  have hrz : rs.size = s.size - k := by rw [hrs]; simp
  obtain ⟨z0, hz0⟩ : ∃ z0, z0 = min 2 (s.size - k) := ⟨_, rfl⟩
  have hmin : min (2 : Int) ((s.size - k : Nat) : Int) = (z0 : Int) := by omega
  have HTD : Hid (∀ z, z ≤ z0 → (rs.extract 0 z).data.toList = (lft s k).take z ∧ (rs.extract 0 z).size = z) := Lib.hid (fun z hz => by rw [hrs]; exact take_data s k z (by omega))
  have HZ : Hid (min 2 (lft s k).length = z0) := Lib.hid (by rw [lft_len, hz0])
  have HRS := Lib.hid hrs
  have z2 : z0 ≤ 2 := by omega
  have zr : z0 ≤ rs.size := by omega
  clear hrs hz0
  go_enter Tryd.func25, Tryd.ntmps25
  go_wp2_with fail
  go_quiet (fail)
  go_wp2_with fail
  rw [← HRS.out]
  clear hmin
  obtain ⟨w1, hw1⟩ : ∃ w1, w1 = (w.alloc (.cells #[.int .i64 0, .string ⟨#[]⟩, .int .i64 0, .int .i64 0] 37)).drewN nq := ⟨_, rfl⟩
  rw [← hw1]
  have hx1 : Ext w w1 := by rw [hw1]; exact ((Ext.refl w).alloc _).drewN _
  have HB : Hid (Box4 w1 w.heap.size (.int .i64 0) (.string ⟨#[]⟩) (.int .i64 0) (.int .i64 0)) := Lib.hid (by rw [hw1]; exact (Box4.new w (.int .i64 0) (.string ⟨#[]⟩) (.int .i64 0) (.int .i64 0) 37).ext ((Ext.refl _).drewN nq))
  have HC := Lib.hid (h.ext hx1)
  have hM1 := hM.ext hx1
  clear hw1 c0 c1
  go_loopw [5] (fun v wr => ∃ z : Nat, v = .int .i64 z ∧ z ≤ z0 ∧ Hid (mtry (lft s k) z = mtry (lft s k) z0) ∧ Ext w1 wr) (fun v _ => (intOf v).toNat)
  case atStart => exact ⟨z0, rfl, Nat.le_refl _, Lib.hid rfl, Ext.refl _⟩
  case round =>
    obtain ⟨z, rfl, hz, HT, hxr⟩ := hrel
    by_cases hpos : 0 < z
    · obtain ⟨hd, hsz⟩ := HTD.out z hz
      have hl0 : decide ((0 : Int) < (z : Int)) = true := decide_eq_true (by omega)
      have zr' : (z : Int) ≤ (rs.size : Int) := by omega
      have zr0 : (0 : Int) ≤ (z : Int) := by omega
      have HD := Lib.hid hd
      clear hd
      go_wp2_with fail
      refine (markOf_ag (rs.extract 0 z) _ (by omega)).mono ?_
      rintro e w3 ⟨mn, mx, my, rfl, HV, hx3⟩
      go_upto_region 6 with (fail)
      obtain ⟨w4, hw4⟩ : ∃ w4, w4 = w3.alloc (.cells #[.int .u8 mn, .int .u8 mx, .int .u8 my] 49) := ⟨_, rfl⟩
      rw [← hw4]
      have hx14 : Ext w1 w4 := by rw [hw4]; exact (hxr.trans hx3).alloc _
      have m0 : w4.cell? ⟨w3.heap.size, 0, none⟩ = some (.int .u8 mn) := by rw [hw4]; go_simp
      have m1 : w4.cell? ⟨w3.heap.size, 1, none⟩ = some (.int .u8 mx) := by rw [hw4]; go_simp
      have m2 : w4.cell? ⟨w3.heap.size, 2, none⟩ = some (.int .u8 my) := by rw [hw4]; go_simp
      have c2 := (HC.out.ext hx14).c2
      have HM4 := Lib.hid (hM1.ext hx14)
      generalize hD : decide ((lft s k).take z ∈ mksL) = D
      have look : ∀ u, Ext w4 u → (Instr.lookup 39 (.map (some b)) (.agg #[.int .u8 mn, .int .u8 mx, .int .u8 my]) true).run Tryd.prog u = .ok (.tuple #[.agg #[], .bool D]) u := fun u hu => by
        have := (HM4.out.ext hu).look (l := (lft s k).take z) (by rw [List.length_take]; omega)
        rw [hD, ← HD.out, HV.out] at this
        exact this
      have rulesI := fun (u : World) (k : Ext w4 u) => And.intro (k.cell m0) (And.intro (k.cell m1) (And.intro (k.cell m2) (And.intro (k.cell c2) (look u k))))
      have hI0 := Ext.refl w4
      have KS : Hid (∀ u, Calls Tryd.prog 27 #[.agg #[.int .u8 mn, .int .u8 mx, .int .u8 my]] u fun e w' => e = .returned (.string ⟨((lft s k).take z).toArray⟩) ∧ Ext u w') := Lib.hid (fun u => by
        rw [← HV.out, HD.out]
        exact String_any _ u (by rw [List.length_take, lft_len]; omega) (by rw [List.length_take]; omega))
      have hsz3 : w1.heap.size ≤ w3.heap.size := by have h1 := hxr.size; have h3 := hx3.size; omega
      have hwl : w.heap.size < w1.heap.size := HB.out.lt
      have hw43 : w3.heap.size < w4.heap.size := by rw [hw4]; simp
      clear hw4 look HV HD
      go_region_held3 (fun u => Ext w4 u) (first | assumption | exact hI0.drew | exact Ext.alloc hI0.drew _ | exact (Ext.alloc hI0 _).drew) (first | fail)
      all_goals
        have hxz : Ext w4 (w4.alloc (.cells #[] 46)).drew := ((Ext.refl w4).alloc _).drew
        obtain ⟨wz, hwz⟩ : ∃ wz, wz = (w4.alloc (.cells #[] 46)).drew := ⟨_, rfl⟩
        rw [← hwz] at hxz
        rw [← hwz]
        have n0 := hxz.cell m0
        have n1 := hxz.cell m1
        have n2 := hxz.cell m2
        have HCz := Lib.hid (HC.out.ext (hx14.trans hxz))
        have HBz := Lib.hid (HB.out.ext (hx14.trans hxz))
        have hxw := hx1.trans (hx14.trans hxz)
        clear hwz m0 m1 m2 c2 rulesI hI0
        cases D with
        | false =>
          have HT2 : Hid (mtry (lft s k) (z - 1) = mtry (lft s k) z0) := Lib.hid (by
            have h1 := HT.out
            obtain ⟨y, rfl⟩ : ∃ y, z = y + 1 := ⟨z - 1, by omega⟩
            rw [mtry, if_neg (of_decide_eq_false hD)] at h1
            exact h1)
          have hw1 : IntKind.i64.wrap ((z : Int) - 1) = ((z - 1 : Nat) : Int) := by rw [IntKind.wrap_i64]; omega
          clear hD HT
          go_wp2_with fail
          go_roundw
          case rel => exact ⟨z - 1, rfl, by omega, HT2, hx14.trans hxz⟩
          case measure => simp [intOf]; omega
        | true =>
          obtain ⟨kz, hkz⟩ : ∃ kz, kz = k + z := ⟨_, rfl⟩
          have hw1 : IntKind.i64.wrap ((k : Int) + (z : Int)) = (kz : Int) := by rw [IntKind.wrap_i64]; omega
          have HR : Hid (markR s k = .inr (⟨4, ⟨((lft s k).take z).toArray⟩, 0, 0⟩, kz)) := Lib.hid (by
            have h1 := HT.out
            obtain ⟨y, rfl⟩ : ∃ y, z = y + 1 := ⟨z - 1, by omega⟩
            rw [mtry, if_pos (of_decide_eq_true hD)] at h1
            unfold markR
            rw [HZ.out, ← h1, if_neg (by omega), hkz])
          have e1 := HCz.out.c1
          have e2 := HCz.out.f1
          have hn3 : w3.heap.size ≠ g := by omega
          have hn4 : g ≠ w3.heap.size := by omega
          obtain ⟨wy, hwy⟩ : ∃ wy, wy = wz.setCell ⟨g, 1, none⟩ (.int .i64 kz) := ⟨_, rfl⟩
          have HCy : Hid (CurAt wy g s kz b) := Lib.hid (by rw [hwy]; exact HCz.out.to kz)
          have HBy : Hid (Box4 wy w.heap.size (.int .i64 0) (.string ⟨#[]⟩) (.int .i64 0) (.int .i64 0)) := Lib.hid (by rw [hwy]; exact HBz.out.same (Below.heap_setCell _ _ _ _ hne))
          have hcy : Chg (· = g) w wy := by rw [hwy]; exact Chg.set (F := (· = g)) (Chg.of_ext hxw) rfl _
          have HWY := Lib.hid hwy
          clear hwy hD HT HZ hkz
          go_wp2_with fail
          rw [← HWY.out]
          refine (KS.out _).mono ?_
          rintro e w6 ⟨rfl, hx6⟩
          obtain ⟨b0, b1, b2, b3, f0, f1, f2, f3⟩ := HBy.out.ext hx6
          have HC6 := Lib.hid (HCy.out.ext hx6)
          clear n0 n1 n2 e1 e2
          go_wp2_with fail
          refine bodyPost_ret (v := .tuple #[Tok.val ⟨4, ⟨((lft s k).take z).toArray⟩, 0, 0⟩, .int .i64 0]) (by simp [results, Tryd.results25, go_sem, *]) rfl ?_
          exact out_ok HR.out (hcy.trans (Chg.of_ext hx6)) HC6.out hgl
    · obtain rfl : z = 0 := by omega
      have HR : Hid (markR s k = .inl 4) := Lib.hid (by
        have h1 := HT.out
        unfold markR
        rw [HZ.out, ← h1]
        rfl)
      obtain ⟨b0, b1, b2, b3, f0, f1, f2, f3⟩ := HB.out.ext hxr
      clear HT HZ
      go_wp2_with fail
      refine bodyPost_ret (v := .tuple #[tok0.val, .int .i64 4]) (by simp [results, Tryd.results25, go_sem, *]) rfl ?_
      exact out_bad HR.out (Chg.of_ext (hx1.trans hxr))
end Go.Proofs.YtagkimcbllpnkaaDoor
