/- Package read: keys, roleOf, rolesOf. -/
import Derived.Test.YtnkbdjfanmehfaaDoorPal
namespace Go.Proofs.YtnkbdjfanmehfaaDoor
open Go.RowKit Go.Maps

theorem run_makeMapN {P : Program} {t k e : TypeId} (hu : P.underlying t = some (.map k e)) (n : Int) (w : World) : (Instr.makeMap t (some (.int .i64 n))).run P w = .ok (.map (some w.heap.size)) (w.alloc (.map #[] 0)) := by
  simp [Instr.makeMap, run_underlying hu, Result.andThen, asInt]
  rfl
/-- the table of texts lies where it was laid -/
def txtCs : List Value := roleTexts.map fun l => Value.string (txt l)
def TxtAt (w : World) : Prop := ∀ i, i < 34 → w.cell? ⟨0, i, none⟩ = txtCs[i]?
theorem TxtAt.ext {w w' : World} (h : TxtAt w) (k : Ext w w') : TxtAt w' := fun i hi => by
  have h1 := h i hi
  rw [List.getElem?_eq_getElem (show i < txtCs.length from hi)] at h1 ⊢
  exact k.cell h1
theorem wfR (k : Nat) (h : k < 34) : (Lit.int .u64 (roleV (4 + k))).wf = true := by
  have e1 : IntKind.u64.min = 0 := by decide
  have e2 : IntKind.u64.max = 18446744073709551615 := by decide
  have h2 : 2 ^ (4 + k) ≤ 2 ^ 38 := Nat.pow_le_pow_right (by omega) (by omega)
  unfold roleV
  generalize 2 ^ (4 + k) = n at *
  simp only [Lit.wf, e1, e2, Bool.and_eq_true, decide_eq_true_eq]
  omega
theorem shl_role (k : Nat) (h : k < 34) : IntKind.u64.wrap (16 * 2 ^ k) = roleV (4 + k) := by
  have h2 : 2 ^ (4 + k) ≤ 2 ^ 38 := Nat.pow_le_pow_right (by omega) (by omega)
  have e : (16 : Int) * 2 ^ k = ((2 ^ (4 + k) : Nat) : Int) := by rw [Nat.pow_add, Int.natCast_mul, Int.natCast_pow]; rfl
  rw [e]
  unfold roleV
  generalize 2 ^ (4 + k) = n at *
  rw [IntKind.wrap_u64]
  omega
theorem txtCs_at {k : Nat} (h : k < roleTexts.length) : txtCs[k]? = some (.string (txt roleTexts[k])) := by
  unfold txtCs
  rw [List.getElem?_map, List.getElem?_eq_getElem h]
  rfl
theorem rt_len : roleTexts.length = 34 := by decide
theorem idx_txt {k : Nat} (h : k < roleTexts.length) (w : World) : (Instr.index 113 (.agg txtCs.toArray) (.int .i64 (k : Int))).run Tryd.prog w = .ok (.string (txt roleTexts[k])) w := by
  have h34 : k < 34 := by rw [rt_len] at h; exact h
  simp only [Instr.index, asIntOf]
  simp [run_underlying Tryd.underlying113, part, Tryd.sizeOf9, Tryd.isAgg9, Result.andThen]
  rw [if_pos h34, txtCs_at h]
  rfl
set_option maxRecDepth 100000 in
set_option maxHeartbeats 1000000 in
theorem keys_any (w : World) (hT : TxtAt w) : Calls Tryd.prog 35 #[] w fun e w' => ∃ b, e = .returned (.map (some b)) ∧ RoleMap w' b 34 ∧ w.heap.size ≤ b ∧ Ext w w' := by
  have hmm := run_makeMapN Tryd.underlying91 34
  have hrt : w.rangeAt 0 0 txtCs := fun j v hj => by
    have hlt : j < txtCs.length := (List.getElem?_eq_some_iff.1 hj).1
    rw [Nat.zero_add, hT j hlt, hj]
  have hi : (Tryd.prog.info? 113).map (·.size) = some txtCs.length := by kernel_rfl
  have hrtA : (w.alloc (.map #[] 0)).rangeAt 0 0 txtCs := fun j v hj => by
    have := hrt j v hj
    exact ((Ext.refl w).alloc _).cell this
  go_enter Tryd.func35, Tryd.ntmps35
  go_upto_region 2 with (fail)
  clear hmm
  go_step
  refine wpList_load_mid (op := ⟨some 5, _, _, _, _, _⟩) rfl 113 (.global 0) rfl 0 0 rfl txtCs _ hrtA Tryd.underlying113 rfl hi ?_
  have hM : RoleMap (w.alloc (.map #[] 0)) w.heap.size 0 := RoleMap.made w
  have hx0 : Ext w (w.alloc (.map #[] 0)) := (Ext.refl w).alloc _
  clear hrt hrtA hi
  generalize w.alloc (.map #[] 0) = wm at *
  go_wp2_with fail
  go_loopw [6] (fun i wr => ∃ k : Nat, k ≤ 34 ∧ i = .int .i64 k ∧ RoleMap wr w.heap.size k ∧ Ext w wr) (fun i _ => 34 - (intOf i).toNat)
  case atStart => exact ⟨0, by omega, rfl, hM, hx0⟩
  case round =>
    obtain ⟨k, hk, rfl, hP, hx⟩ := hrel
    by_cases hlt : k < 34
    · have hl : decide ((k : Int) < 34) = true := decide_eq_true (by omega)
      have k0 : (0 : Int) ≤ (k : Int) := Int.natCast_nonneg _
      have k1 : (k : Int) < 34 := by omega
      have hkl : k < roleTexts.length := by rw [rt_len]; exact hlt
      have hix := idx_txt hkl wr
      have hnz := txt_nz hkl
      obtain ⟨tx, htx⟩ : ∃ tx, tx = txt roleTexts[k] := ⟨_, rfl⟩
      rw [← htx] at hix hnz
      have hPl := hP.lt
      have HP := Lib.hid hP
      have HTX := Lib.hid htx
      have KK := Lib.hid (fun (u : World) (hu : Ext wr u) => (keyOf_any tx u hnz.le).mono (fun e w' ⟨he, hx'⟩ => (⟨he, hu.trans hx'⟩ : e = Ending.returned (rkV tx) ∧ Ext wr w')))
      have hI0 : Chg (· = w.heap.size) wr wr := Chg.refl _ wr
      have HE := Lib.hid (shl_role k hlt)
      clear hP htx hnz
      go_upto_region 5 with (fail)
      go_region_held3 (fun u => Chg (· = w.heap.size) wr u) (first | with_reducible assumption | with_reducible exact Chg.of_ext (Ext.drew (Ext.refl _)) | with_reducible exact Chg.of_ext hx1 | with_reducible exact (Chg.of_ext hx1).trans (Chg.of_grown hg2))
        (first
          | (go_at_call 57; refine (KK.out _ (by first | assumption | exact Ext.drew (Ext.refl _))).mono ?_; rintro e1 w1 ⟨rfl, hx1⟩; obtain ⟨D, hown, hD⟩ := HP.out.ext hx1; obtain ⟨w2, hrun, hown2, hg2⟩ := hown.update keyedRk Tryd.underlying91 (by unfold maxLen; omega) (key_rk tx) (plainElem_int Tryd.underlying71 (wfR k hlt)); rw [← HE.out] at hrun))
      have hown2' : w2.ownsMap Tryd.prog 115 (plainElem Tryd.prog 71) w.heap.size (k + 1) (D.put (rkL (txt roleTexts[k])) (.lit (.int .u64 (roleV (4 + k))))) := by rw [← HTX.out]; exact hown2
      have hP2 := RoleMap.put hkl hown.isMap hD hown2'
      have hx2 : Ext w w2 := Chg.ext_of hx ((Chg.of_ext hx1).trans (Chg.of_grown hg2)) (fun x e => by subst e; exact Nat.le_refl _)
      clear hown hD hown2 hown2' hg2 hrun hix KK HE HTX HP hI0
      go_wp2_with fail
      go_roundw
      case rel => exact ⟨k + 1, by omega, by go_num, hP2, hx2⟩
      case measure => simp [intOf]; omega
    · obtain rfl : k = 34 := by omega
      have hP' : RoleMap wr w.heap.size 34 := hP
      clear hP
      go_wp2_with fail
      go_ret
      exact ⟨_, rfl, hP', Nat.le_refl _, hx⟩

theorem zeroRole (w : World) : (zeroValue 71).run Tryd.prog w = .ok (.int .u64 0) w := Tryd.zeroValue71 w

/-- a word whose text may be a key, where it may be looked up -/
def TokOk (t : Tok) : Prop := t.kind = 5 ∨ t.kind = 2 ∨ t.kind = 3 ∨ Nz t.text
set_option maxRecDepth 100000 in
set_option maxHeartbeats 1000000 in
theorem roleOf_any (t : Tok) (b : Nat) (w : World) (h : RoleMap w b 34) (hT : TokOk t) :
    Calls Tryd.prog 36 #[t.val, .map (some b)] w fun e w' => e = .returned (.int .u64 (roleV (roleN t))) ∧ Ext w w' := by
  by_cases h5 : t.kind = 5
  · have HR : Hid (roleV (roleN t) = 1) := Lib.hid (by unfold roleN; rw [if_pos h5]; rfl)
    rw [HR.out]
    have q5 : (t.kind == 5) = true := by simp [h5]
    clear hT h h5
    go_enter Tryd.func36, Tryd.ntmps36
    go_wp2_with fail
    go_ret
    exact ⟨rfl, (Ext.refl w).alloc _⟩
  · have q5 : (t.kind == 5) = false := by simp [h5]
    by_cases h2 : t.kind = 2
    · have HR : Hid (roleV (roleN t) = 2) := Lib.hid (by unfold roleN; rw [if_neg h5, if_pos h2]; rfl)
      rw [HR.out]
      have q2 : (t.kind == 2) = true := by simp [h2]
      clear hT h h5 h2
      go_enter Tryd.func36, Tryd.ntmps36
      go_wp2_with fail
      go_ret
      exact ⟨rfl, (Ext.refl w).alloc _⟩
    · have q2 : (t.kind == 2) = false := by simp [h2]
      by_cases h3 : t.kind = 3
      · have HR : Hid (roleV (roleN t) = 4) := Lib.hid (by unfold roleN; rw [if_neg h5, if_neg h2, if_pos h3]; rfl)
        rw [HR.out]
        have q3 : (t.kind == 3) = true := by simp [h3]
        clear hT h h5 h2 h3
        go_enter Tryd.func36, Tryd.ntmps36
        go_wp2_with fail
        go_ret
        exact ⟨rfl, (Ext.refl w).alloc _⟩
      · have q3 : (t.kind == 3) = false := by simp [h3]
        have hz : Nz t.text := by rcases hT with e | e | e | e; exact absurd e h5; exact absurd e h2; exact absurd e h3; exact e
        have HRN : Hid (roleN t = match plr 34 t.text.data.toList with | some i => 4 + i | none => 3) := Lib.hid (by unfold roleN; rw [if_neg h5, if_neg h2, if_neg h3]; cases plr 34 t.text.data.toList <;> rfl)
        have HZ := Lib.hid hz
        have hs := hz.le
        clear hT h5 h2 h3 hz
        go_enter Tryd.func36, Tryd.ntmps36
        go_wp2_with fail
        refine (keyOf_any t.text _ hs).mono ?_
        rintro e1 w1 ⟨rfl, hx1⟩
        have hx01 : Ext w w1 := ((Ext.refl w).alloc _).trans hx1
        obtain ⟨D, hown, hD⟩ := h.ext hx01
        have hwz : (Lit.int .u64 0).wf = true := by decide
        obtain ⟨v, ps, hrun, hv⟩ := hown.look_ok keyedRk Tryd.underlying91 (zeroRole w1) (plainElem_int Tryd.underlying71 hwz) (key_rk t.text)
        obtain ⟨q, rfl, hq, _⟩ := plainElem_int_inv Tryd.underlying71 hv
        have hd := hD t.text HZ.out
        simp only [Prod.mk.injEq] at hq
        have h1 := hq.1
        rw [hd] at h1
        cases hp : plr 34 t.text.data.toList with
        | none =>
          rw [hp] at h1 hd
          have hh := has_false_of_atKey hd
          have HV : Hid (roleV (roleN t) = 8) := Lib.hid (by rw [HRN.out, hp]; rfl)
          rw [hh] at hrun
          clear hown hD hv hq hd hwz h1 hh
          go_wp2_with fail
          go_ret
          exact ⟨by rw [HV.out]; rfl, hx01⟩
        | some i =>
          rw [hp] at h1 hd
          have hh := has_true_of_atKey hd
          simp only [DataW.lit.injEq, Lit.int.injEq, true_and] at h1
          have HV : Hid (roleV (roleN t) = q) := Lib.hid (by rw [HRN.out, hp]; exact h1)
          rw [hh] at hrun
          clear hown hD hv hq hd hwz h1 hh
          go_wp2_with fail
          go_ret
          exact ⟨by rw [HV.out]; rfl, hx01⟩

/-- .. of all words -/
def RolesAt (w : World) (g : Nat) (T : List Tok) (k : Nat) : Prop := (∀ j, j < k → w.cell? ⟨g, j, none⟩ = some (.int .u64 (roleV (rl T j)))) ∧ (∀ j, k ≤ j → j < T.length → ∃ v, w.cell? ⟨g, j, none⟩ = some v) ∧ ∀ j, j < T.length → w.frozen? ⟨g, j, none⟩ = false
theorem infoRole : (Tryd.prog.info? 71).map (fun i => (i.zero, i.size, i.bytes)) = some (some (.int .u64 0), 1, 8) := by kernel_rfl
set_option maxRecDepth 100000 in
set_option maxHeartbeats 1000000 in
theorem rolesOf_any (T : List Tok) (A c : Nat) (w : World) (hX : TxtAt w) (hl : T.length ≤ 4001) (hT : ∀ t ∈ T, TokOk t)
    (hc : ∀ j (h : j < T.length), w.cell? ⟨A, j * 4, none⟩ = some (.int .i64 T[j].kind) ∧ w.cell? ⟨A, j * 4 + 1, none⟩ = some (.string T[j].text) ∧ w.cell? ⟨A, j * 4 + 2, none⟩ = some (.int .i64 T[j].n) ∧ w.cell? ⟨A, j * 4 + 3, none⟩ = some (.int .i64 T[j].at_)) :
    Calls Tryd.prog 19 #[.slice (some ⟨A, 0, none⟩) T.length c] w fun e w' => ∃ R, e = .returned (.slice (some ⟨R, 0, none⟩) T.length T.length) ∧ RolesAt w' R T T.length ∧ w.heap.size ≤ R ∧ R < w'.heap.size ∧ Ext w w' := by
  obtain ⟨i0, hi0, hz0, hz1, hz2⟩ := info_parts infoRole
  have hmk : ∀ u : World, (Instr.makeSlice 64 (.int .i64 (T.length : Int)) (.int .i64 (T.length : Int))).run Tryd.prog u =
      .ok (.slice (some ⟨u.heap.size, 0, none⟩) T.length T.length) (u.alloc (.cells (madeCells #[.int .u64 0] T.length) 71)) := fun u => by
    have := run_make (P := Tryd.prog) u 64 71 i0 (.int .u64 0) Tryd.underlying64 hi0 hz0 .i64 .i64 T.length T.length (by omega) (by omega) (by rw [hz2]; omega) (by omega)
    rw [hz1] at this
    simpa [Value.cells] using this
  go_enter Tryd.func19, Tryd.ntmps19
  go_wp2_with fail
  refine (keys_any w hX).mono ?_
  rintro e1 w1 ⟨b, rfl, hR, _, hx1⟩
  go_upto_region 3 with (fail)
  clear hmk
  obtain ⟨R, hRR⟩ : ∃ R, R = w1.heap.size := ⟨_, rfl⟩
  obtain ⟨w2, hw2⟩ : ∃ w2, w2 = w1.alloc (.cells (madeCells #[.int .u64 0] T.length) 71) := ⟨_, rfl⟩
  have hA0 : RolesAt w2 R T 0 := by
    rw [hw2, hRR]
    refine ⟨fun j hj => absurd hj (by omega), fun j _ hj => ?_, fun j _ => by go_simp⟩
    have hh := heap_alloc_new w1 (.cells (madeCells #[.int .u64 0] T.length) 71)
    simp only [World.cell?, hh]
    refine ⟨Value.int .u64 0, ?_⟩
    rw [← Array.getElem?_toList]
    have e := toList_madeCells_one (.int .u64 0) T.length
    rw [e, List.getElem?_eq_getElem (by rw [List.length_replicate]; exact hj), List.getElem_replicate]
    rfl
  have hx2 : Ext w1 w2 := by rw [hw2]; exact (Ext.refl _).alloc _
  have hlt2 : R < w2.heap.size := by rw [hw2, hRR]; simp
  rw [← hRR, ← hw2]
  have hge : w1.heap.size ≤ R := by omega
  clear hw2 hRR
  go_wp2_with fail
  go_loopw [13] (fun i wr => ∃ k : Nat, k ≤ T.length ∧ i = .int .i64 k ∧ RolesAt wr R T k ∧ Ext w1 wr ∧ R < wr.heap.size) (fun i _ => T.length - (intOf i).toNat)
  case atStart => exact ⟨0, by omega, rfl, hA0, hx2, hlt2⟩
  case round =>
    obtain ⟨k, hk, rfl, hA, hx, hRl⟩ := hrel
    by_cases hlt : k < T.length
    · have hl' : decide ((k : Int) < (T.length : Int)) = true := decide_eq_true (by omega)
      have k0 : (0 : Int) ≤ (k : Int) := Int.natCast_nonneg _
      have k1 : (k : Int) < (T.length : Int) := by omega
      obtain ⟨a0, a1, a2, a3⟩ := hc k hlt
      have hxw := hx1.trans hx
      have b0 := hxw.cell a0
      have b1 := hxw.cell a1
      have b2 := hxw.cell a2
      have b3 := hxw.cell a3
      have hrk : rl T k = roleN T[k] := by unfold rl; rw [tk_at T hlt]
      have hTk := hT _ (List.getElem_mem hlt)
      have HA := Lib.hid hA
      have HRK := Lib.hid hrk
      generalize T[k] = tt at *
      have KR := Lib.hid (roleOf_any tt b (wr.alloc (.cells #[.int .i64 tt.kind, .string tt.text, .int .i64 tt.n, .int .i64 tt.at_] 78)) (hR.ext (hx.trans ((Ext.refl _).alloc _))) hTk)
      clear hA hrk hTk a0 a1 a2 a3
      go_wp2_with fail
      refine KR.out.mono ?_
      rintro e3 w3 ⟨rfl, hx3⟩
      have hx13 := ((Ext.refl wr).alloc _).trans hx3
      obtain ⟨v, hv⟩ := HA.out.2.1 k (Nat.le_refl _) hlt
      have hv3 := hx13.cell hv
      have hf3 : w3.frozen? ⟨R, k, none⟩ = false := (Below.frozen hx13 hRl).trans (HA.out.2.2 k hlt)
      have hfin : Hid (RolesAt (w3.setCell ⟨R, k, none⟩ (.int .u64 (roleV (roleN tt)))) R T (k + 1)) := Lib.hid (by
        have ne : ∀ j, j ≠ k → (⟨R, k, none⟩ : Addr) ≠ ⟨R, j, none⟩ := fun j hj e => by injection e with _ e; exact hj e.symm
        refine ⟨fun j hj => ?_, fun j hj hjl => ?_, fun j hj => ?_⟩
        · by_cases e : j = k
          · subst e
            rw [HRK.out]
            go_simp
          · rw [World.cell?_setCell_other _ _ _ _ (ne j e)]
            exact hx13.cell (HA.out.1 j (by omega))
        · obtain ⟨v', hv'⟩ := HA.out.2.1 j (by omega) hjl
          exact ⟨v', by rw [World.cell?_setCell_other _ _ _ _ (ne j (by omega))]; exact hx13.cell hv'⟩
        · have := (Below.frozen hx13 (p := ⟨R, j, none⟩) hRl).trans (HA.out.2.2 j hj)
          simpa using this)
      have hxf : Ext w1 (w3.setCell ⟨R, k, none⟩ (.int .u64 (roleV (roleN tt)))) := (hx.trans hx13).setCell hge _
      have hRf : R < (w3.setCell ⟨R, k, none⟩ (.int .u64 (roleV (roleN tt)))).heap.size := by have := hx13.size; simp; omega
      clear KR HA HRK b0 b1 b2 b3 hv
      go_wp2_with fail
      go_roundw
      case rel => exact ⟨k + 1, by omega, by go_num, hfin.out, hxf, hRf⟩
      case measure => simp [intOf]; omega
    · obtain rfl : k = T.length := by omega
      have hl' : decide ((T.length : Int) < (T.length : Int)) = false := decide_eq_false (by omega)
      have HA := Lib.hid hA
      clear hA
      go_wp2_with fail
      go_ret
      exact ⟨R, rfl, HA.out, by have := hx1.size; omega, hRl, hx1.trans hx⟩
end Go.Proofs.YtnkbdjfanmehfaaDoor
