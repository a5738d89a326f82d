/- span.Of, Name; almagestref4.Rel, Rels. -/
import Derived.Test.YtgpjfagkjmnpgaaDoorSql
namespace Go.Proofs.YtgpjfagkjmnpgaaDoor
open Go.RowKit Go.Maps

/-- which relation a text names; 0: none -/
def relI (s : ByteArray) : Int := match plc nmsV 13 s with
  | some i => (i : Int) + 1
  | none => 0
def ofE (s : ByteArray) : Int := if (plc nmsV 13 s).isSome then 0 else 3
theorem rel_cases (s : ByteArray) : (∃ i, i < 13 ∧ plc nmsV 13 s = some i ∧ relI s = (i : Int) + 1 ∧ ofE s = 0) ∨ (plc nmsV 13 s = none ∧ relI s = 0 ∧ ofE s = 3) := by
  unfold relI ofE
  cases h : plc nmsV 13 s with
  | none => exact .inr ⟨rfl, rfl, rfl⟩
  | some i => exact .inl ⟨i, (plc_some h).1, rfl, rfl, rfl⟩
theorem plc_at {i : Nat} (hi : i < nmsV.length) : plc nmsV 13 nmsV[i] = some i := by
  cases h : plc nmsV 13 nmsV[i] with
  | none => exact absurd (List.getElem?_eq_getElem hi) (plc_none h i hi)
  | some k =>
    obtain ⟨h1, h2⟩ := plc_some h
    have hk : k < nmsV.length := h1
    rw [List.getElem?_eq_getElem hk] at h2
    injection h2 with h2
    rw [(List.getElem_inj nms_nodup).1 h2]
theorem zeroInt (w : World) : (zeroValue 3).run Tryd.prog w = .ok (.int .i64 0) w := Tryd.zeroValue3 w

set_option maxHeartbeats 1000000 in
theorem Of_any (s : ByteArray) (w : World) (h : NmsAt w) (hs : s.size ≤ 140737488351232) :
    Calls Tryd.prog 36 #[.string s] w fun e w' => e = .returned (.tuple #[.int .i64 (relI s), .int .i64 (ofE s)]) ∧ Ext w w' := by
  by_cases h16 : s.size ≤ 16
  · have KR := Lib.hid (relations_any w h)
    have KK := Lib.hid (fun u => keyOf_any s u h16)
    clear h
    go_enter Tryd.func36, Tryd.ntmps36
    go_wp2_with fail
    refine KR.out.mono ?_
    rintro e1 w1 ⟨b, rfl, hP, _, hx1⟩
    go_wp2_with fail
    refine (KK.out _).mono ?_
    rintro e2 w2 ⟨rfl, hx2⟩
    obtain ⟨D, hown, hD⟩ := hP.ext hx2
    have hwz : (Lit.int .i64 0).wf = true := by decide
    obtain ⟨v, ps, hrun, hv⟩ := hown.look_ok keyedKey Tryd.underlying60 (zeroInt w2) (plainElem_int Tryd.underlying3 hwz) (key_key h16)
    obtain ⟨q, rfl, hq, _⟩ := plainElem_int_inv Tryd.underlying3 hv
    have hd := hD s h16
    have hxx := hx1.trans hx2
    rcases rel_cases s with ⟨i, hi, hp, hr, he⟩ | ⟨hp, hr, he⟩
    · have e2 : q = (i : Int) + 1 := by
        simp only [Prod.mk.injEq] at hq
        have h1 := hq.1
        rw [hd, hp] at h1
        have h2 : (i : Int) + 1 = q := by simpa using h1
        exact h2.symm
      have e3 : Maps.has D (keyL s) = true := by rw [hp] at hd; exact has_true_of_atKey hd
      rw [e2, e3] at hrun
      have HF := Lib.hid (And.intro hr he)
      clear hown hD hv hq hd e2 e3 hwz hp hr he hP hx1 hx2 KR KK
      go_wp2_with fail
      go_ret2
      exact ⟨by rw [HF.out.1, HF.out.2]; rfl, hxx⟩
    · have e2 : q = 0 := by
        simp only [Prod.mk.injEq] at hq
        have h1 := hq.1
        rw [hd, hp] at h1
        have h2 : 0 = q := by simpa using h1
        exact h2.symm
      have e3 : Maps.has D (keyL s) = false := by rw [hp] at hd; exact has_false_of_atKey hd
      rw [e2, e3] at hrun
      have HF := Lib.hid (And.intro hr he)
      clear hown hD hv hq hd e2 e3 hwz hp hr he hP hx1 hx2 KR KK
      go_wp2_with fail
      go_ret2
      exact ⟨by rw [HF.out.1, HF.out.2]; rfl, hxx⟩
  · have hno : plc nmsV 13 s = none := by
      cases hp : plc nmsV 13 s with
      | none => rfl
      | some i =>
        obtain ⟨h1, h2⟩ := plc_some hp
        have hl : i < nmsV.length := h1
        rw [List.getElem?_eq_getElem hl] at h2
        injection h2 with h2
        have := nms_short _ (List.getElem_mem hl)
        rw [h2] at this
        omega
    have HI := Lib.hid (show relI s = 0 by unfold relI; rw [hno])
    have HB := Lib.hid (show ofE s = 3 by unfold ofE; rw [hno]; rfl)
    have hgt : 16 < s.size := by omega
    clear hno h16 h
    go_enter Tryd.func36, Tryd.ntmps36
    go_wp2_with fail
    go_ret2
    exact ⟨by rw [HI.out, HB.out]; rfl, Ext.refl _⟩

/-- a relation's name -/
def nameS (r : Int) : ByteArray := if rlB r then nmsV.getD (r.toNat - 1) ⟨#[]⟩ else ⟨#[]⟩
def nameE (r : Int) : Int := if rlB r then 0 else 1
theorem Name_any (r : Int) (w : World) (h : NmsAt w) : Calls Tryd.prog 32 #[.int .i64 r] w fun e w' => e = .returned (.tuple #[.string (nameS r), .int .i64 (nameE r)]) ∧ w' = w := by
  have KR := Lib.hid (relMay_any r w)
  have H1 : Hid (nameS r = if rlB r then nmsV.getD (r.toNat - 1) ⟨#[]⟩ else ⟨#[]⟩) := Lib.hid rfl
  have H2 : Hid (nameE r = if rlB r then 0 else 1) := Lib.hid rfl
  cases hr : rlB r with
  | false =>
    rw [hr] at KR
    clear h
    go_enter Tryd.func32, Tryd.ntmps32
    go_wp2_with fail
    refine KR.out.mono ?_
    rintro e w1 ⟨rfl, rfl⟩
    go_wp2_with fail
    go_ret2
    exact ⟨by rw [H1.out, H2.out, hr]; rfl, rfl⟩
  | true =>
    rw [hr] at KR
    have hrr : 1 ≤ r ∧ r ≤ 13 := by simpa [rlB] using hr
    obtain ⟨k, rfl⟩ : ∃ k : Nat, r = (k : Int) + 1 := ⟨(r - 1).toNat, by omega⟩
    have hk : k < 13 := by omega
    have hkl : k < nmsV.length := hk
    have c0 := h k hkl
    have HN : Hid (nameS ((k : Int) + 1) = nmsV[k]) := Lib.hid (by
      rw [H1.out, hr, show ((k : Int) + 1).toNat - 1 = k by omega, List.getD_eq_getElem?_getD, List.getElem?_eq_getElem hkl]; rfl)
    have hw1 : IntKind.i64.wrap ((k : Int) + 1 - 1) = (k : Int) := by rw [IntKind.wrap_i64] <;> omega
    have hw2 : ((k : Int) + 1 - 1) = (k : Int) := by omega
    have k0 : (0 : Int) ≤ (k : Int) := Int.natCast_nonneg _
    have k1 : (k : Int) < 13 := by omega
    clear hrr h
    go_enter Tryd.func32, Tryd.ntmps32
    go_wp2_with fail
    refine KR.out.mono ?_
    rintro e w1 ⟨rfl, rfl⟩
    go_wp2_with fail
    go_ret2
    exact ⟨by rw [HN.out, H2.out, hr]; rfl, rfl⟩
def strCells (ss : List ByteArray) : List Value := ss.map Value.string
theorem strCells_one (ss : List ByteArray) : ∀ u ∈ strCells ss, u.oneCell' = true := by
  intro u hu
  obtain ⟨s, _, rfl⟩ := List.mem_map.1 hu
  rfl
theorem owned_strs {w : World} {base : Nat} {v : Value} {ss : List ByteArray} (h : w.ownsRow base 9 1 v ss.length (strCells ss)) (hs : ∀ s ∈ ss, s.size ≤ 140737488351232) :
    ∃ A c, v = .slice A ss.length c ∧ StrsAt w ss A := by
  rcases h.2 with ⟨rfl, h0⟩ | ⟨g, cap, cur, rfl, _, _, hc, _⟩
  · have e : ss = [] := List.eq_nil_of_length_eq_zero h0
    subst e
    exact ⟨none, 0, rfl, fun i hi => absurd hi (by simp)⟩
  · refine ⟨_, cap, rfl, fun i hi => ⟨g, 0, rfl, ?_, hs _ (List.getElem_mem hi)⟩⟩
    rw [Nat.zero_add, h.cellAt i (by omega)]
    simp [strCells, hi]
/-- what came in, as an append reads it -/
theorem StrsAt.news {w : World} {ss : List ByteArray} {ad : Addr} (h : StrsAt w ss (some ad)) : ∀ j u, (strCells ss)[j]? = some u → w.cell? (ad.add j) = some u := by
  intro j u hu
  have hj : j < ss.length := by
    rcases Nat.lt_or_ge j ss.length with h' | h'
    · exact h'
    · rw [List.getElem?_eq_none (by simpa [strCells] using h')] at hu; cases hu
  obtain ⟨b, o, e, hc, _⟩ := h j hj
  injection e with e
  subst e
  rw [add_addr, hc]
  simpa [strCells, hj] using hu

theorem infoStr : (Tryd.prog.info? 9).map (fun i => (i.zero, i.size, i.bytes)) = some (some (.string ⟨#[]⟩), 1, 16) := by kernel_rfl
/-- the document's names, in a row of the call's own -/
theorem Rels_any (w : World) : Calls Tryd.prog 34 #[] w fun e w' => e = .returned (.slice (some ⟨w.heap.size, 0, none⟩) 13 13) ∧ w'.ownsRow w.heap.size 9 1 (.slice (some ⟨w.heap.size, 0, none⟩) 13 13) 13 (strCells nmsV) ∧ Ext w w' := by
  have hown := World.ownsRow_lit (e := 9) (size := 1) w (strCells nmsV).toArray 13 (Nat.le_refl _) (by unfold maxLen; omega) rfl
  go_enter Tryd.func34, Tryd.ntmps34
  go_wp2_with fail
  go_ret
  exact ⟨rfl, hown, (Ext.refl w).alloc _⟩
theorem name_eq {s t : ByteArray} (h : s.toList = t.toList) : s = t := by
  rw [ByteArray.toList_eq, ByteArray.toList_eq] at h
  exact name_ext h
set_option maxHeartbeats 1000000 in
theorem Rel_any (s : ByteArray) (w : World) : Calls Tryd.prog 37 #[.string s] w fun e w' => e = .returned (.int .i64 (relI s)) ∧ Ext w w' := by
  have KR := Lib.hid (Rels_any w)
  go_enter Tryd.func37, Tryd.ntmps37
  go_wp2_with fail
  refine KR.out.mono ?_
  rintro e w1 ⟨rfl, hown, hx⟩
  have HC : Hid (∀ k (h : k < nmsV.length), w1.cell? ⟨w.heap.size, k, none⟩ = some (.string nmsV[k])) := Lib.hid fun k hk => by
    obtain ⟨A, c, e1, hA⟩ := owned_strs (ss := nmsV) hown (fun x hx => by have := nms_short x hx; omega)
    obtain ⟨b, o, e2, h1, _⟩ := hA k hk
    simp only [Value.slice.injEq] at e1
    obtain ⟨e3, _, _⟩ := e1
    rw [← e3] at e2
    injection e2 with e2
    injection e2 with e4 e5
    subst e4 e5
    simpa using h1
  clear hown KR
  go_wp2_with fail
  go_loopw [4] (fun i wr => ∃ k : Nat, k ≤ 13 ∧ i = .int .i64 k ∧ wr = w1 ∧ Hid (∀ j (h : j < nmsV.length), j < k → nmsV[j] ≠ s)) (fun i _ => 13 - (intOf i).toNat)
  case atStart => exact ⟨0, by omega, rfl, rfl, Lib.hid fun j _ h => by omega⟩
  case round =>
    obtain ⟨k, hk, rfl, rfl, H⟩ := hrel
    by_cases hlt : k < 13
    · have hkl : k < nmsV.length := hlt
      have c0 := HC.out k hkl
      have k13 : (k : Int) < 13 := by omega
      have k0 : (0 : Int) ≤ (k : Int) := Int.natCast_nonneg _
      have HP := Lib.hid (plc_at hkl)
      obtain ⟨nm, hnm⟩ : ∃ nm, nm = nmsV[k] := ⟨_, rfl⟩
      rw [← hnm] at c0 HP
      have HN := Lib.hid hnm
      clear hnm
      by_cases hq : nm = s
      · have hqt : (nm.toList == s.toList) = true := by rw [hq]; simp
        have HR : Hid (relI s = (k : Int) + 1) := Lib.hid (by rw [← hq]; unfold relI; rw [HP.out])
        clear hq
        go_wp2_with fail
        go_ret
        exact ⟨ret_int (by rw [HR.out]), hx⟩
      · have hqt : (nm.toList == s.toList) = false := by
          rw [beq_eq_false_iff_ne]; exact fun h => hq (name_eq h)
        have H2 : Hid (∀ j (h : j < nmsV.length), j < k + 1 → nmsV[j] ≠ s) := Lib.hid fun j hj hjk => by
          by_cases e : j = k
          · subst e; rw [← HN.out]; exact hq
          · exact H.out j hj (by omega)
        clear hq
        go_wp2_with fail
        go_roundw
        case rel => exact ⟨k + 1, by omega, by go_num, by first | trivial | rfl, H2⟩
        case measure => simp [intOf]; omega
    · have HR : Hid (relI s = 0) := Lib.hid (by
        rcases rel_cases s with ⟨i, hi, hp, _, _⟩ | ⟨_, h, _⟩
        · obtain ⟨_, h2⟩ := plc_some hp
          have hl : i < nmsV.length := hi
          rw [List.getElem?_eq_getElem hl] at h2
          injection h2 with h2
          exact absurd h2 (H.out i hl (by omega))
        · exact h)
      go_wp2_with fail
      go_ret
      exact ⟨ret_int (by rw [HR.out]), hx⟩
end Go.Proofs.YtgpjfagkjmnpgaaDoor
