/- Joined: Pak, Pbe, Pqa. -/
import Derived.Test.YtbjghkmjnhmlfaaGreatDoorPal
import Derived.StillTailTactics

/- Package read: keys, roleOf, rolesOf. -/
namespace Go.Proofs.YtbjghkmjnhmlfaaGreatDoor
open Go.RowKit Go.Maps

theorem run_makeMapN {P : Program} {t k e : TypeId} (hu : P.underlying t = some (.map k e)) (n : Int) (w : World) : (Instr.makeMap t (some (.int .i64 n))).run P w = .ok (.map (some w.heap.size)) (w.alloc (.map #[] 0)) := by
  simp [Instr.makeMap, run_underlying hu, Result.andThen, asInt]
  rfl
/-- the table of texts lies where it was laid -/
def txtCs : List Value := roleTexts.map fun l => Value.string (txt l)
def TxtAt (w : World) : Prop := ∀ i, i < 34 → w.cell? ⟨0, i, none⟩ = txtCs[i]?
theorem TxtAt.ext {w w' : World} (h : TxtAt w) (k : Ext w w') : TxtAt w' := fun i hi => by
  have h1 := h i hi
  rw [List.getElem?_eq_getElem (show i < txtCs.length from hi)] at h1 ⊢
  exact k.cell h1
theorem wfR (k : Nat) (h : k < 34) : (Lit.int .u64 (roleV (4 + k))).wf = true := by
  have e1 : IntKind.u64.min = 0 := by decide
  have e2 : IntKind.u64.max = 18446744073709551615 := by decide
  have h2 : 2 ^ (4 + k) ≤ 2 ^ 38 := Nat.pow_le_pow_right (by omega) (by omega)
  unfold roleV
  generalize 2 ^ (4 + k) = n at *
  simp only [Lit.wf, e1, e2, Bool.and_eq_true, decide_eq_true_eq]
  omega
theorem shl_role (k : Nat) (h : k < 34) : IntKind.u64.wrap (16 * 2 ^ k) = roleV (4 + k) := by
  have h2 : 2 ^ (4 + k) ≤ 2 ^ 38 := Nat.pow_le_pow_right (by omega) (by omega)
  have e : (16 : Int) * 2 ^ k = ((2 ^ (4 + k) : Nat) : Int) := by rw [Nat.pow_add, Int.natCast_mul, Int.natCast_pow]; rfl
  rw [e]
  unfold roleV
  generalize 2 ^ (4 + k) = n at *
  rw [IntKind.wrap_u64]
  omega
theorem txtCs_at {k : Nat} (h : k < roleTexts.length) : txtCs[k]? = some (.string (txt roleTexts[k])) := by
  unfold txtCs
  rw [List.getElem?_map, List.getElem?_eq_getElem h]
  rfl
theorem rt_len : roleTexts.length = 34 := by decide
theorem idx_txt {k : Nat} (h : k < roleTexts.length) (w : World) : (Instr.index 142 (.agg txtCs.toArray) (.int .i64 (k : Int))).run Tryz.prog w = .ok (.string (txt roleTexts[k])) w := by
  have h34 : k < 34 := by rw [rt_len] at h; exact h
  simp only [Instr.index, asIntOf]
  simp [run_underlying Tryz.underlying142, part, Tryz.sizeOf9, Tryz.isAgg9, Result.andThen]
  rw [if_pos h34, txtCs_at h]
  rfl
set_option maxRecDepth 100000 in
set_option maxHeartbeats 1000000 in
theorem keys_any (w : World) (hT : TxtAt w) : Calls Tryz.prog 49 #[] w fun e w' => ∃ b, e = .returned (.map (some b)) ∧ RoleMap w' b 34 ∧ w.heap.size ≤ b ∧ Ext w w' := by
  have hmm := run_makeMapN Tryz.underlying110 34
  have hrt : w.rangeAt 0 0 txtCs := fun j v hj => by
    have hlt : j < txtCs.length := (List.getElem?_eq_some_iff.1 hj).1
    rw [Nat.zero_add, hT j hlt, hj]
  have hi : (Tryz.prog.info? 142).map (·.size) = some txtCs.length := by kernel_rfl
  have hrtA : (w.alloc (.map #[] 0)).rangeAt 0 0 txtCs := fun j v hj => by
    have := hrt j v hj
    exact ((Ext.refl w).alloc _).cell this
  go_enter Tryz.func49, Tryz.ntmps49
  go_upto_region 2 with (fail)
  clear hmm
  go_step
  refine wpList_load_mid (op := ⟨some 5, _, _, _, _, _⟩) rfl 142 (.global 0) rfl 0 0 rfl txtCs _ hrtA Tryz.underlying142 rfl hi ?_
  have hM : RoleMap (w.alloc (.map #[] 0)) w.heap.size 0 := RoleMap.made w
  have hx0 : Ext w (w.alloc (.map #[] 0)) := (Ext.refl w).alloc _
  clear hrt hrtA hi
  generalize w.alloc (.map #[] 0) = wm at *
  go_wp2_with fail
  go_loopw [6] (fun i wr => ∃ k : Nat, k ≤ 34 ∧ i = .int .i64 k ∧ RoleMap wr w.heap.size k ∧ Ext w wr) (fun i _ => 34 - (intOf i).toNat)
  case atStart => exact ⟨0, by omega, rfl, hM, hx0⟩
  case round =>
    obtain ⟨k, hk, rfl, hP, hx⟩ := hrel
    by_cases hlt : k < 34
    · have hl : decide ((k : Int) < 34) = true := decide_eq_true (by omega)
      have k0 : (0 : Int) ≤ (k : Int) := Int.natCast_nonneg _
      have k1 : (k : Int) < 34 := by omega
      have hkl : k < roleTexts.length := by rw [rt_len]; exact hlt
      have hix := idx_txt hkl wr
      have hnz := txt_nz hkl
      obtain ⟨tx, htx⟩ : ∃ tx, tx = txt roleTexts[k] := ⟨_, rfl⟩
      rw [← htx] at hix hnz
      have hPl := hP.lt
      have HP := Lib.hid hP
      have HTX := Lib.hid htx
      have KK := Lib.hid (fun (u : World) (hu : Ext wr u) => (keyOf_any tx u hnz.le).mono (fun e w' ⟨he, hx'⟩ => (⟨he, hu.trans hx'⟩ : e = Ending.returned (rkV tx) ∧ Ext wr w')))
      have hI0 : Chg (· = w.heap.size) wr wr := Chg.refl _ wr
      have HE := Lib.hid (shl_role k hlt)
      clear hP htx hnz
      go_upto_region 5 with (fail)
      go_region_held3 (fun u => Chg (· = w.heap.size) wr u) (first | with_reducible assumption | with_reducible exact Chg.of_ext (Ext.drew (Ext.refl _)) | with_reducible exact Chg.of_ext hx1 | with_reducible exact (Chg.of_ext hx1).trans (Chg.of_grown hg2))
        (first
          | (go_at_call 79; refine (KK.out _ (by first | assumption | exact Ext.drew (Ext.refl _))).mono ?_; rintro e1 w1 ⟨rfl, hx1⟩; obtain ⟨D, hown, hD⟩ := HP.out.ext hx1; obtain ⟨w2, hrun, hown2, hg2⟩ := hown.update keyedRk Tryz.underlying110 (by unfold maxLen; omega) (key_rk tx) (plainElem_int Tryz.underlying86 (wfR k hlt)); rw [← HE.out] at hrun))
      have hown2' : w2.ownsMap Tryz.prog 144 (plainElem Tryz.prog 86) w.heap.size (k + 1) (D.put (rkL (txt roleTexts[k])) (.lit (.int .u64 (roleV (4 + k))))) := by rw [← HTX.out]; exact hown2
      have hP2 := RoleMap.put hkl hown.isMap hD hown2'
      have hx2 : Ext w w2 := Chg.ext_of hx ((Chg.of_ext hx1).trans (Chg.of_grown hg2)) (fun x e => by subst e; exact Nat.le_refl _)
      clear hown hD hown2 hown2' hg2 hrun hix KK HE HTX HP hI0
      go_wp2_with fail
      go_roundw
      case rel => exact ⟨k + 1, by omega, by go_num, hP2, hx2⟩
      case measure => simp [intOf]; omega
    · obtain rfl : k = 34 := by omega
      have hP' : RoleMap wr w.heap.size 34 := hP
      clear hP
      go_wp2_with fail
      go_ret
      exact ⟨_, rfl, hP', Nat.le_refl _, hx⟩

theorem zeroRole (w : World) : (zeroValue 86).run Tryz.prog w = .ok (.int .u64 0) w := Tryz.zeroValue86 w

/-- a word whose text may be a key, where it may be looked up -/
def TokOk (t : Tok) : Prop := t.kind = 5 ∨ t.kind = 2 ∨ t.kind = 3 ∨ Nz t.text
set_option maxRecDepth 100000 in
set_option maxHeartbeats 1000000 in
theorem roleOf_any (t : Tok) (b : Nat) (w : World) (h : RoleMap w b 34) (hT : TokOk t) :
    Calls Tryz.prog 50 #[t.val, .map (some b)] w fun e w' => e = .returned (.int .u64 (roleV (roleN t))) ∧ Ext w w' := by
  by_cases h5 : t.kind = 5
  · have HR : Hid (roleV (roleN t) = 1) := Lib.hid (by unfold roleN; rw [if_pos h5]; rfl)
    rw [HR.out]
    have q5 : (t.kind == 5) = true := by simp [h5]
    clear hT h h5
    go_enter Tryz.func50, Tryz.ntmps50
    go_wp2_with fail
    go_ret
    exact ⟨rfl, (Ext.refl w).alloc _⟩
  · have q5 : (t.kind == 5) = false := by simp [h5]
    by_cases h2 : t.kind = 2
    · have HR : Hid (roleV (roleN t) = 2) := Lib.hid (by unfold roleN; rw [if_neg h5, if_pos h2]; rfl)
      rw [HR.out]
      have q2 : (t.kind == 2) = true := by simp [h2]
      clear hT h h5 h2
      go_enter Tryz.func50, Tryz.ntmps50
      go_wp2_with fail
      go_ret
      exact ⟨rfl, (Ext.refl w).alloc _⟩
    · have q2 : (t.kind == 2) = false := by simp [h2]
      by_cases h3 : t.kind = 3
      · have HR : Hid (roleV (roleN t) = 4) := Lib.hid (by unfold roleN; rw [if_neg h5, if_neg h2, if_pos h3]; rfl)
        rw [HR.out]
        have q3 : (t.kind == 3) = true := by simp [h3]
        clear hT h h5 h2 h3
        go_enter Tryz.func50, Tryz.ntmps50
        go_wp2_with fail
        go_ret
        exact ⟨rfl, (Ext.refl w).alloc _⟩
      · have q3 : (t.kind == 3) = false := by simp [h3]
        have hz : Nz t.text := by rcases hT with e | e | e | e; exact absurd e h5; exact absurd e h2; exact absurd e h3; exact e
        have HRN : Hid (roleN t = match plr 34 t.text.data.toList with | some i => 4 + i | none => 3) := Lib.hid (by unfold roleN; rw [if_neg h5, if_neg h2, if_neg h3]; cases plr 34 t.text.data.toList <;> rfl)
        have HZ := Lib.hid hz
        have hs := hz.le
        clear hT h5 h2 h3 hz
        go_enter Tryz.func50, Tryz.ntmps50
        go_wp2_with fail
        refine (keyOf_any t.text _ hs).mono ?_
        rintro e1 w1 ⟨rfl, hx1⟩
        have hx01 : Ext w w1 := ((Ext.refl w).alloc _).trans hx1
        obtain ⟨D, hown, hD⟩ := h.ext hx01
        have hwz : (Lit.int .u64 0).wf = true := by decide
        obtain ⟨v, ps, hrun, hv⟩ := hown.look_ok keyedRk Tryz.underlying110 (zeroRole w1) (plainElem_int Tryz.underlying86 hwz) (key_rk t.text)
        obtain ⟨q, rfl, hq, _⟩ := plainElem_int_inv Tryz.underlying86 hv
        have hd := hD t.text HZ.out
        simp only [Prod.mk.injEq] at hq
        have h1 := hq.1
        rw [hd] at h1
        cases hp : plr 34 t.text.data.toList with
        | none =>
          rw [hp] at h1 hd
          have hh := has_false_of_atKey hd
          have HV : Hid (roleV (roleN t) = 8) := Lib.hid (by rw [HRN.out, hp]; rfl)
          rw [hh] at hrun
          clear hown hD hv hq hd hwz h1 hh
          go_wp2_with fail
          go_ret
          exact ⟨by rw [HV.out]; rfl, hx01⟩
        | some i =>
          rw [hp] at h1 hd
          have hh := has_true_of_atKey hd
          simp only [DataW.lit.injEq, Lit.int.injEq, true_and] at h1
          have HV : Hid (roleV (roleN t) = q) := Lib.hid (by rw [HRN.out, hp]; exact h1)
          rw [hh] at hrun
          clear hown hD hv hq hd hwz h1 hh
          go_wp2_with fail
          go_ret
          exact ⟨by rw [HV.out]; rfl, hx01⟩

/-- .. of all words -/
def RolesAt (w : World) (g : Nat) (T : List Tok) (k : Nat) : Prop := (∀ j, j < k → w.cell? ⟨g, j, none⟩ = some (.int .u64 (roleV (rl T j)))) ∧ (∀ j, k ≤ j → j < T.length → ∃ v, w.cell? ⟨g, j, none⟩ = some v) ∧ ∀ j, j < T.length → w.frozen? ⟨g, j, none⟩ = false
theorem infoRole : (Tryz.prog.info? 86).map (fun i => (i.zero, i.size, i.bytes)) = some (some (.int .u64 0), 1, 8) := by kernel_rfl
set_option maxRecDepth 100000 in
set_option maxHeartbeats 1000000 in
theorem rolesOf_any (T : List Tok) (A c : Nat) (w : World) (hX : TxtAt w) (hl : T.length ≤ 4001) (hT : ∀ t ∈ T, TokOk t)
    (hc : ∀ j (h : j < T.length), w.cell? ⟨A, j * 4, none⟩ = some (.int .i64 T[j].kind) ∧ w.cell? ⟨A, j * 4 + 1, none⟩ = some (.string T[j].text) ∧ w.cell? ⟨A, j * 4 + 2, none⟩ = some (.int .i64 T[j].n) ∧ w.cell? ⟨A, j * 4 + 3, none⟩ = some (.int .i64 T[j].at_)) :
    Calls Tryz.prog 29 #[.slice (some ⟨A, 0, none⟩) T.length c] w fun e w' => ∃ R, e = .returned (.slice (some ⟨R, 0, none⟩) T.length T.length) ∧ RolesAt w' R T T.length ∧ w.heap.size ≤ R ∧ R < w'.heap.size ∧ Ext w w' := by
  obtain ⟨i0, hi0, hz0, hz1, hz2⟩ := info_parts infoRole
  have hmk : ∀ u : World, (Instr.makeSlice 79 (.int .i64 (T.length : Int)) (.int .i64 (T.length : Int))).run Tryz.prog u =
      .ok (.slice (some ⟨u.heap.size, 0, none⟩) T.length T.length) (u.alloc (.cells (madeCells #[.int .u64 0] T.length) 86)) := fun u => by
    have := run_make (P := Tryz.prog) u 79 86 i0 (.int .u64 0) Tryz.underlying79 hi0 hz0 .i64 .i64 T.length T.length (by omega) (by omega) (by rw [hz2]; omega) (by omega)
    rw [hz1] at this
    simpa [Value.cells] using this
  go_enter Tryz.func29, Tryz.ntmps29
  go_wp2_with fail
  refine (keys_any w hX).mono ?_
  rintro e1 w1 ⟨b, rfl, hR, _, hx1⟩
  go_upto_region 3 with (fail)
  clear hmk
  obtain ⟨R, hRR⟩ : ∃ R, R = w1.heap.size := ⟨_, rfl⟩
  obtain ⟨w2, hw2⟩ : ∃ w2, w2 = w1.alloc (.cells (madeCells #[.int .u64 0] T.length) 86) := ⟨_, rfl⟩
  have hA0 : RolesAt w2 R T 0 := by
    rw [hw2, hRR]
    refine ⟨fun j hj => absurd hj (by omega), fun j _ hj => ?_, fun j _ => by go_simp⟩
    have hh := heap_alloc_new w1 (.cells (madeCells #[.int .u64 0] T.length) 86)
    simp only [World.cell?, hh]
    refine ⟨Value.int .u64 0, ?_⟩
    rw [← Array.getElem?_toList]
    have e := toList_madeCells_one (.int .u64 0) T.length
    rw [e, List.getElem?_eq_getElem (by rw [List.length_replicate]; exact hj), List.getElem_replicate]
    rfl
  have hx2 : Ext w1 w2 := by rw [hw2]; exact (Ext.refl _).alloc _
  have hlt2 : R < w2.heap.size := by rw [hw2, hRR]; simp
  rw [← hRR, ← hw2]
  have hge : w1.heap.size ≤ R := by omega
  clear hw2 hRR
  go_wp2_with fail
  go_loopw [13] (fun i wr => ∃ k : Nat, k ≤ T.length ∧ i = .int .i64 k ∧ RolesAt wr R T k ∧ Ext w1 wr ∧ R < wr.heap.size) (fun i _ => T.length - (intOf i).toNat)
  case atStart => exact ⟨0, by omega, rfl, hA0, hx2, hlt2⟩
  case round =>
    obtain ⟨k, hk, rfl, hA, hx, hRl⟩ := hrel
    by_cases hlt : k < T.length
    · have hl' : decide ((k : Int) < (T.length : Int)) = true := decide_eq_true (by omega)
      have k0 : (0 : Int) ≤ (k : Int) := Int.natCast_nonneg _
      have k1 : (k : Int) < (T.length : Int) := by omega
      obtain ⟨a0, a1, a2, a3⟩ := hc k hlt
      have hxw := hx1.trans hx
      have b0 := hxw.cell a0
      have b1 := hxw.cell a1
      have b2 := hxw.cell a2
      have b3 := hxw.cell a3
      have hrk : rl T k = roleN T[k] := by unfold rl; rw [tk_at T hlt]
      have hTk := hT _ (List.getElem_mem hlt)
      have HA := Lib.hid hA
      have HRK := Lib.hid hrk
      generalize T[k] = tt at *
      have KR := Lib.hid (roleOf_any tt b (wr.alloc (.cells #[.int .i64 tt.kind, .string tt.text, .int .i64 tt.n, .int .i64 tt.at_] 54)) (hR.ext (hx.trans ((Ext.refl _).alloc _))) hTk)
      clear hA hrk hTk a0 a1 a2 a3
      go_wp2_with fail
      refine KR.out.mono ?_
      rintro e3 w3 ⟨rfl, hx3⟩
      have hx13 := ((Ext.refl wr).alloc _).trans hx3
      obtain ⟨v, hv⟩ := HA.out.2.1 k (Nat.le_refl _) hlt
      have hv3 := hx13.cell hv
      have hf3 : w3.frozen? ⟨R, k, none⟩ = false := (Below.frozen hx13 hRl).trans (HA.out.2.2 k hlt)
      have hfin : Hid (RolesAt (w3.setCell ⟨R, k, none⟩ (.int .u64 (roleV (roleN tt)))) R T (k + 1)) := Lib.hid (by
        have ne : ∀ j, j ≠ k → (⟨R, k, none⟩ : Addr) ≠ ⟨R, j, none⟩ := fun j hj e => by injection e with _ e; exact hj e.symm
        refine ⟨fun j hj => ?_, fun j hj hjl => ?_, fun j hj => ?_⟩
        · by_cases e : j = k
          · subst e
            rw [HRK.out]
            go_simp
          · rw [World.cell?_setCell_other _ _ _ _ (ne j e)]
            exact hx13.cell (HA.out.1 j (by omega))
        · obtain ⟨v', hv'⟩ := HA.out.2.1 j (by omega) hjl
          exact ⟨v', by rw [World.cell?_setCell_other _ _ _ _ (ne j (by omega))]; exact hx13.cell hv'⟩
        · have := (Below.frozen hx13 (p := ⟨R, j, none⟩) hRl).trans (HA.out.2.2 j hj)
          simpa using this)
      have hxf : Ext w1 (w3.setCell ⟨R, k, none⟩ (.int .u64 (roleV (roleN tt)))) := (hx.trans hx13).setCell hge _
      have hRf : R < (w3.setCell ⟨R, k, none⟩ (.int .u64 (roleV (roleN tt)))).heap.size := by have := hx13.size; simp; omega
      clear KR HA HRK b0 b1 b2 b3 hv
      go_wp2_with fail
      go_roundw
      case rel => exact ⟨k + 1, by omega, by go_num, hfin.out, hxf, hRf⟩
      case measure => simp [intOf]; omega
    · obtain rfl : k = T.length := by omega
      have hl' : decide ((T.length : Int) < (T.length : Int)) = false := decide_eq_false (by omega)
      have HA := Lib.hid hA
      clear hA
      go_wp2_with fail
      go_ret
      exact ⟨R, rfl, HA.out, by have := hx1.size; omega, hRl, hx1.trans hx⟩
end Go.Proofs.YtbjghkmjnhmlfaaGreatDoor

/- What words of a text are (pure): the end stands last and nowhere else; what each word's text may be; its role and its kind. -/
namespace Go.Proofs.YtbjghkmjnhmlfaaGreatDoor

/-- a word, as lex tells it -/
structure TokG (t : Tok) : Prop where
  le : t.text.size ≤ 16
  nz : ∀ b ∈ t.text.data.toList, b ≠ 0
  n : -1073741824 ≤ t.n ∧ t.n ≤ 1073741824
  at_ : 0 ≤ t.at_ ∧ t.at_ ≤ 4000
  kind : (t.kind = 1 ∧ ∃ c r, t.text.data.toList = c :: r ∧ smlB c = true) ∨ t.kind = 2 ∨ t.kind = 3 ∨ (t.kind = 4 ∧ (t.text.data.toList ∈ marks2 ∨ t.text.data.toList ∈ marks1)) ∨ t.kind = 5
theorem inn_nz {c : UInt8} (h : innB c = true) : c ≠ 0 := by
  intro e
  subst e
  revert h
  decide
theorem takeWhile_all' {α : Type} (p : α → Bool) : ∀ (l : List α), ∀ x ∈ l.takeWhile p, p x = true := by
  intro l
  induction l with
  | nil => intro x hx; simp at hx
  | cons a r ih =>
    intro x hx
    rw [List.takeWhile_cons] at hx
    split at hx
    · rename_i h
      rcases List.mem_cons.1 hx with rfl | hx
      · exact h
      · exact ih x hx
    · simp at hx
theorem sml_inn {c : UInt8} (h : (smlB c || grtB c) = true) : innB c = true := by unfold innB; rw [h]; rfl
theorem tokL_good {l r : List UInt8} {t : Tok} (h : tokL l = .inr (t, r)) (a : Int) (ha : 0 ≤ a ∧ a ≤ 4000) : TokG { t with at_ := a } ∧ t.kind ≠ 5 := by
  cases l with
  | nil => simp [tokL] at h
  | cons c s =>
    simp only [tokL] at h
    split at h
    · rename_i hc
      split at h
      · rename_i hl
        cases h
        have e : (c :: s).takeWhile innB = c :: s.takeWhile innB := List.takeWhile_cons_of_pos (sml_inn hc)
        have hsz : (⟨((c :: s).takeWhile innB).toArray⟩ : ByteArray).size ≤ 16 := by simpa [ByteArray.size] using hl
        have hnz : ∀ b ∈ (⟨((c :: s).takeWhile innB).toArray⟩ : ByteArray).data.toList, b ≠ 0 := fun b hb => inn_nz (takeWhile_all' innB (c :: s) b hb)
        cases hs : smlB c with
        | true => exact ⟨⟨hsz, hnz, by simp, ha, .inl ⟨rfl, c, s.takeWhile innB, e, hs⟩⟩, by simp⟩
        | false => exact ⟨⟨hsz, hnz, by simp, ha, .inr (.inl rfl)⟩, by simp⟩
      · cases h
    · split at h
      · split at h
        · rename_i hn
          cases h
          exact ⟨⟨by simp [ByteArray.size], by simp, by simp only; omega, ha, .inr (.inr (.inl rfl))⟩, by simp⟩
        · cases h
      · split at h
        · split at h
          · rename_i hn
            cases h
            exact ⟨⟨by simp [ByteArray.size], by simp, by simp only; omega, ha, .inr (.inr (.inl rfl))⟩, by simp⟩
          · cases h
        · have m2 : ∀ x ∈ marks2, x.length ≤ 16 ∧ ∀ b ∈ x, b ≠ 0 := by decide
          have m1 : ∀ x ∈ marks1, x.length ≤ 16 ∧ ∀ b ∈ x, b ≠ 0 := by decide
          split at h
          · rename_i hm
            cases h
            obtain ⟨h1, h2⟩ := m2 _ hm.2
            exact ⟨⟨by simpa [ByteArray.size] using h1, h2, by simp, ha, .inr (.inr (.inr (.inl ⟨rfl, .inl hm.2⟩)))⟩, by simp⟩
          · split at h
            · rename_i hm
              cases h
              obtain ⟨_, h2⟩ := m1 _ hm
              exact ⟨⟨by simp [ByteArray.size], h2, by simp, ha, .inr (.inr (.inr (.inl ⟨rfl, .inr hm⟩)))⟩, by simp⟩
            · cases h
theorem toksL_len' (n : Nat) : ∀ (m : Nat) (l : List UInt8) (ts : List Tok), l.length ≤ m → toksL n l = .inr ts → ts.length ≤ l.length + 1 := by
  intro m
  induction m with
  | zero =>
    intro l ts hl h
    have : l = [] := List.eq_nil_of_length_eq_zero (by omega)
    subst this
    rw [toksL_nil rfl] at h
    cases h
    simp
  | succ m ih =>
    intro l ts hl h
    have hle := passL_le l false
    match hp : passL false l with
    | [] => rw [toksL_nil hp] at h; cases h; simp
    | c :: r =>
      rw [hp] at hle
      match ht : tokL (c :: r) with
      | .inl e => rw [toksL_bad hp ht] at h; cases h
      | .inr (t, s) =>
        have hlt := tokL_lt ht
        rw [toksL_go hp ht] at h
        match hs : toksL n s with
        | .inl e => rw [hs] at h; cases h
        | .inr r' =>
          rw [hs] at h
          cases h
          have := ih s r' (by omega) hs
          simp only [List.length_cons] at *
          omega
theorem tokL_e0 {l : List UInt8} {e : Int} (h : tokL l = .inl e) : e ≠ 0 := by
  cases l with
  | nil => simp [tokL] at h; omega
  | cons c s =>
    simp only [tokL] at h
    split at h
    · split at h
      · cases h
      · cases h; decide
    · split at h
      · split at h
        · cases h
        · cases h; decide
      · split at h
        · split at h
          · cases h
          · cases h; decide
        · split at h
          · cases h
          · split at h
            · cases h
            · cases h; decide
theorem toksL_e0 {n : Nat} : ∀ {m : Nat} {l : List UInt8} {a e : Int}, l.length ≤ m → toksL n l = .inl (a, e) → e ≠ 0 := by
  intro m
  induction m with
  | zero =>
    intro l a e hl h
    have : l = [] := List.eq_nil_of_length_eq_zero (by omega)
    subst this
    rw [toksL_nil rfl] at h
    cases h
  | succ m ih =>
    intro l a e hl h
    have hle := passL_le l false
    match hp : passL false l with
    | [] => rw [toksL_nil hp] at h; cases h
    | c :: r =>
      rw [hp] at hle
      match ht : tokL (c :: r) with
      | .inl e' => rw [toksL_bad hp ht] at h; cases h; exact tokL_e0 ht
      | .inr (t, s) =>
        have hlt := tokL_lt ht
        rw [toksL_go hp ht] at h
        match hs : toksL n s with
        | .inl (a', e') => rw [hs] at h; cases h; exact ih (by omega) hs
        | .inr r' => rw [hs] at h; cases h
/-- good words, the end last and nowhere else -/
def ToksG (T : List Tok) : Prop := 0 < T.length ∧ (∀ t ∈ T, TokG t) ∧ ∀ i (h : i < T.length), T[i].kind = 5 ↔ i + 1 = T.length
theorem toksL_good (n : Nat) (hn : n ≤ 4000) : ∀ (m : Nat) (l : List UInt8) (T : List Tok), l.length ≤ m → toksL n l = .inr T → ToksG T := by
  intro m
  induction m with
  | zero =>
    intro l T hl h
    have : l = [] := List.eq_nil_of_length_eq_zero (by omega)
    subst this
    rw [toksL_nil rfl] at h
    cases h
    refine ⟨by simp, fun t ht => ?_, fun i hi => ?_⟩
    · obtain rfl := List.mem_singleton.1 ht
      exact ⟨by simp [ByteArray.size], by simp, by simp, by simp only; omega, .inr (.inr (.inr (.inr rfl)))⟩
    · obtain rfl : i = 0 := by simpa using hi
      simp
  | succ m ih =>
    intro l T hl h
    have hle := passL_le l false
    match hp : passL false l with
    | [] =>
      rw [toksL_nil hp] at h
      cases h
      refine ⟨by simp, fun t ht => ?_, fun i hi => ?_⟩
      · obtain rfl := List.mem_singleton.1 ht
        exact ⟨by simp [ByteArray.size], by simp, by simp, by simp only; omega, .inr (.inr (.inr (.inr rfl)))⟩
      · obtain rfl : i = 0 := by simpa using hi
        simp
    | c :: r =>
      rw [hp] at hle
      match ht : tokL (c :: r) with
      | .inl e => rw [toksL_bad hp ht] at h; cases h
      | .inr (t, s) =>
        have hlt := tokL_lt ht
        rw [toksL_go hp ht] at h
        match hs : toksL n s with
        | .inl e => rw [hs] at h; cases h
        | .inr T' =>
          rw [hs] at h
          cases h
          obtain ⟨h1, h2, h3⟩ := ih s T' (by omega) hs
          obtain ⟨g1, g2⟩ := tokL_good ht ((n - (c :: r).length : Nat) : Int) (by omega)
          refine ⟨by simp, fun x hx => ?_, fun i hi => ?_⟩
          · rcases List.mem_cons.1 hx with rfl | hx
            · exact g1
            · exact h2 x hx
          · cases i with
            | zero => simp only [List.getElem_cons_zero, List.length_cons]; constructor
                      · intro e; exact absurd e g2
                      · intro e; omega
            | succ i =>
              have := h3 i (by simpa using hi)
              simp only [List.getElem_cons_succ, List.length_cons]
              omega
theorem lexT_good {s : ByteArray} (h : lexE s = 0) : ToksG (lexT s) ∧ (lexT s).length ≤ 4001 := by
  unfold lexE at h
  unfold lexT
  by_cases hs : 4000 < s.size
  · rw [if_pos hs] at h; cases h
  · rw [if_neg hs] at h ⊢
    match hT : toksL s.size s.data.toList with
    | .inl (a, e) =>
      exfalso
      rw [hT] at h
      simp only at h
      exact toksL_e0 (Nat.le_refl _) hT h
    | .inr T => exact ⟨toksL_good s.size (by omega) _ _ _ (Nat.le_refl _) hT, by have := toksL_len' s.size _ _ T (Nat.le_refl _) hT; rw [list_len] at this; simp only; omega⟩

/-! roles -/
theorem rt_nodup : ∀ i j, i < 34 → j < 34 → roleTexts[i]? = roleTexts[j]? → i = j := by
  have : ∀ i, i < 34 → ∀ j, j < 34 → roleTexts[i]? = roleTexts[j]? → i = j := by decide
  exact fun i j hi hj h => this i hi j hj h
theorem plr_at {l : List UInt8} {i : Nat} (hi : i < 34) (h : roleTexts[i]? = some l) : plr 34 l = some i := by
  match hp : plr 34 l with
  | none => exact absurd h (plr_none hp i hi)
  | some j =>
    obtain ⟨h1, h2⟩ := plr_some hp
    rw [rt_nodup i j hi h1 (h.trans h2.symm)]
theorem roleN_txt {t : Tok} (h5 : t.kind ≠ 5) (h2 : t.kind ≠ 2) (h3 : t.kind ≠ 3) {i : Nat} : roleN t = 4 + i ↔ plr 34 t.text.data.toList = some i := by
  unfold roleN
  rw [if_neg h5, if_neg h2, if_neg h3]
  cases hp : plr 34 t.text.data.toList with
  | none => simp; omega
  | some j => simp
theorem marks_at {l : List UInt8} (h : l ∈ marks2 ∨ l ∈ marks1) : ∃ i, i < 15 ∧ roleTexts[i]? = some l := by
  have m2 : ∀ x ∈ marks2, ∃ i, i < 15 ∧ roleTexts[i]? = some x := by decide
  have m1 : ∀ x ∈ marks1, ∃ i, i < 15 ∧ roleTexts[i]? = some x := by decide
  rcases h with h | h
  · exact m2 _ h
  · exact m1 _ h
theorem marks_first : ∀ i, i < 15 → ∀ c r, roleTexts[i]? = some (c :: r) → smlB c = false := by
  have : ∀ i, i < 15 → ((roleTexts[i]?.getD []).head?.map smlB).getD false = false := by decide
  intro i hi c r h
  have := this i hi
  rw [h] at this
  simpa using this
/-- a word's kind by its role -/
theorem role_kind {t : Tok} (h : TokG t) : (t.kind = 5 ↔ roleN t = 0) ∧ (t.kind = 2 ↔ roleN t = 1) ∧ (t.kind = 3 ↔ roleN t = 2) ∧ (t.kind = 1 ↔ isName (roleN t) = true) ∧ (t.kind = 4 ↔ (4 ≤ roleN t ∧ roleN t ≤ 18)) := by
  rcases h.kind with ⟨hk, c, r, hc, hs⟩ | hk | hk | ⟨hk, hm⟩ | hk
  · have hr : isName (roleN t) = true ∧ 2 < roleN t := by
      match hp : plr 34 t.text.data.toList with
      | none =>
        have : roleN t = 3 := by unfold roleN; rw [if_neg (by omega), if_neg (by omega), if_neg (by omega), hp]
        rw [this]; exact ⟨by decide, by omega⟩
      | some i =>
        have e := (roleN_txt (t := t) (by omega) (by omega) (by omega)).2 hp
        obtain ⟨h1, h2⟩ := plr_some hp
        have h15 : 15 ≤ i := by
          rcases Nat.lt_or_ge i 15 with hlt | hge
          · rw [hc] at h2
            have := marks_first i hlt c r h2
            rw [this] at hs; cases hs
          · exact hge
        rw [e]
        exact ⟨by unfold isName; simp; omega, by omega⟩
    have hn : ¬ (4 ≤ roleN t ∧ roleN t ≤ 18) := by
      intro h'
      have := hr.1
      unfold isName at this
      simp at this
      omega
    exact ⟨by omega, by omega, by omega, ⟨fun _ => hr.1, fun _ => hk⟩, ⟨fun e => absurd e (by omega), fun e => absurd e hn⟩⟩
  · have e : roleN t = 1 := by unfold roleN; rw [if_neg (by omega), if_pos hk]
    rw [e, hk]; decide
  · have e : roleN t = 2 := by unfold roleN; rw [if_neg (by omega), if_neg (by omega), if_pos hk]
    rw [e, hk]; decide
  · obtain ⟨i, hi, hi2⟩ := marks_at hm
    have e := (roleN_txt (t := t) (by omega) (by omega) (by omega)).2 (plr_at (by omega) hi2)
    have hni : isName (roleN t) = false := by rw [e]; unfold isName; simp; omega
    rw [hni, e, hk]
    refine ⟨by omega, by omega, by omega, by simp, by omega⟩
  · have e : roleN t = 0 := by unfold roleN; rw [if_pos hk]
    rw [e, hk]; decide
/-- which text it is, by its role -/
theorem role_text {t : Tok} (hk : t.kind = 4 ∨ t.kind = 1) {i : Nat} (hi : i < 34) : t.text.data.toList = roleTexts[i]?.getD [] ↔ roleN t = 4 + i := by
  have hl : i < roleTexts.length := by rw [rt_len]; exact hi
  rw [roleN_txt (by omega) (by omega) (by omega), List.getElem?_eq_getElem hl]
  constructor
  · intro e; exact plr_at hi (by rw [List.getElem?_eq_getElem hl, e]; rfl)
  · intro e
    have := (plr_some e).2
    rw [List.getElem?_eq_getElem hl] at this
    injection this with this
    exact this.symm
theorem ToksG.ends {T : List Tok} (h : ToksG T) : EndLast T := by
  refine ⟨h.1, fun i hr => ?_⟩
  have hi : i < T.length := by
    rcases Nat.lt_or_ge i T.length with hlt | hge
    · exact hlt
    · exact absurd (rl_end T hge) hr
  have hg := h.2.1 _ (List.getElem_mem hi)
  have h5 := (role_kind hg).1
  have := h.2.2 i hi
  unfold rl at hr
  rw [tk_at T hi] at hr
  omega
theorem ToksG.ok {T : List Tok} (h : ToksG T) : ∀ t ∈ T, TokOk t := fun t ht => .inr (.inr (.inr ⟨(h.2.1 t ht).le, (h.2.1 t ht).nz⟩))
end Go.Proofs.YtbjghkmjnhmlfaaGreatDoor

/- The page's reader: now, fails, is, mark, take, must, open, close. -/
namespace Go.Proofs.YtbjghkmjnhmlfaaGreatDoor
open Go.RowKit

/-- the page's reader in block g: at word i, its error e at a, so many brackets open -/
structure PgAt (w : World) (g A c : Nat) (T : List Tok) (i : Nat) (e a d : Int) : Prop where
  c0 : w.cell? ⟨g, 0, none⟩ = some (.slice (some ⟨A, 0, none⟩) T.length c)
  c1 : w.cell? ⟨g, 1, none⟩ = some (.int .i64 i)
  c2 : w.cell? ⟨g, 2, none⟩ = some (.int .i64 e)
  c3 : w.cell? ⟨g, 3, none⟩ = some (.int .i64 a)
  c4 : w.cell? ⟨g, 4, none⟩ = some (.int .i64 d)
  fr : ∀ j, j < 5 → w.frozen? ⟨g, j, none⟩ = false
  toks : ∀ j (h : j < T.length), w.cell? ⟨A, j * 4, none⟩ = some (.int .i64 T[j].kind) ∧ w.cell? ⟨A, j * 4 + 1, none⟩ = some (.string T[j].text) ∧ w.cell? ⟨A, j * 4 + 2, none⟩ = some (.int .i64 T[j].n) ∧ w.cell? ⟨A, j * 4 + 3, none⟩ = some (.int .i64 T[j].at_)
  ne : A ≠ g
  il : i < T.length
  len : T.length ≤ 4001
section
variable {w w' : World} {g A c : Nat} {T : List Tok} {i : Nat} {e a d : Int}
theorem PgAt.lt (h : PgAt w g A c T i e a d) : g < w.heap.size := World.block_lt_of_cell? w _ h.c0
theorem PgAt.low (h : PgAt w g A c T i e a d) : A < w.heap.size := World.block_lt_of_cell? w _ (h.toks 0 (by have := h.il; omega)).1
theorem PgAt.keep (h : PgAt w g A c T i e a d) (k : ∀ x, x < w.heap.size → x = g ∨ x = A → w'.heap[x]? = w.heap[x]?) : PgAt w' g A c T i e a d := by
  have kg := k g h.lt (.inl rfl)
  have cg : ∀ {j : Nat} {v : Value}, w.cell? ⟨g, j, none⟩ = some v → w'.cell? ⟨g, j, none⟩ = some v := fun hc => (World.cell?_of_block (w := w) kg).trans hc
  refine ⟨cg h.c0, cg h.c1, cg h.c2, cg h.c3, cg h.c4, fun j hj => (World.frozen?_of_block (w := w) kg).trans (h.fr j hj), fun j hj => ?_, h.ne, h.il, h.len⟩
  obtain ⟨a0, a1, a2, a3⟩ := h.toks j hj
  have kA := k A (World.block_lt_of_cell? w _ a0) (.inr rfl)
  exact ⟨(World.cell?_of_block (w := w) kA).trans a0, (World.cell?_of_block (w := w) kA).trans a1, (World.cell?_of_block (w := w) kA).trans a2, (World.cell?_of_block (w := w) kA).trans a3⟩
theorem PgAt.ext (h : PgAt w g A c T i e a d) (k : Ext w w') : PgAt w' g A c T i e a d := h.keep fun x hx _ => k.block x hx
theorem PgAt.chg {F : Nat → Prop} (h : PgAt w g A c T i e a d) (k : Chg F w w') (hF : ∀ x, x < w.heap.size → F x → x ≠ g ∧ x ≠ A) : PgAt w' g A c T i e a d :=
  h.keep fun x hx e => k.block x hx fun f => by have := hF x hx f; rcases e with e | e <;> omega
theorem PgAt.tok (h : PgAt w g A c T i e a d) : w.cell? ⟨A, i * 4, none⟩ = some (.int .i64 (tk T i).kind) ∧ w.cell? ⟨A, i * 4 + 1, none⟩ = some (.string (tk T i).text) ∧ w.cell? ⟨A, i * 4 + 2, none⟩ = some (.int .i64 (tk T i).n) ∧ w.cell? ⟨A, i * 4 + 3, none⟩ = some (.int .i64 (tk T i).at_) := by
  rw [tk_at T h.il]; exact h.toks i h.il
theorem PgAt.toks' (h : PgAt w g A c T i e a d) (j : Nat) (v : Value) : ∀ q (hq : q < T.length), (w.setCell ⟨g, j, none⟩ v).cell? ⟨A, q * 4, none⟩ = some (.int .i64 T[q].kind) ∧ (w.setCell ⟨g, j, none⟩ v).cell? ⟨A, q * 4 + 1, none⟩ = some (.string T[q].text) ∧ (w.setCell ⟨g, j, none⟩ v).cell? ⟨A, q * 4 + 2, none⟩ = some (.int .i64 T[q].n) ∧ (w.setCell ⟨g, j, none⟩ v).cell? ⟨A, q * 4 + 3, none⟩ = some (.int .i64 T[q].at_) := fun q hq => by
  obtain ⟨a0, a1, a2, a3⟩ := h.toks q hq
  have := h.ne
  have ne : ∀ z, (⟨g, j, none⟩ : Addr) ≠ ⟨A, z, none⟩ := fun z e => by injection e with e; exact this e.symm
  refine ⟨?_, ?_, ?_, ?_⟩ <;> rw [World.cell?_setCell_other _ _ _ _ (ne _)] <;> assumption
theorem PgAt.to (h : PgAt w g A c T i e a d) (j : Nat) (hj : j < T.length) : PgAt (w.setCell ⟨g, 1, none⟩ (.int .i64 j)) g A c T j e a d := by
  obtain ⟨h0, h1, h2, h3, h4, hf, ht, hn, hi, hl⟩ := h
  have f1 := hf 1 (by omega)
  exact ⟨by go_simp, by go_simp, by go_simp, by go_simp, by go_simp, fun j hj => by have := hf j hj; go_simp, PgAt.toks' ⟨h0, h1, h2, h3, h4, hf, ht, hn, hi, hl⟩ 1 _, hn, hj, hl⟩
theorem PgAt.toE (h : PgAt w g A c T i e a d) (e' a' : Int) : PgAt ((w.setCell ⟨g, 2, none⟩ (.int .i64 e')).setCell ⟨g, 3, none⟩ (.int .i64 a')) g A c T i e' a' d := by
  obtain ⟨h0, h1, h2, h3, h4, hf, ht, hn, hi, hl⟩ := h
  have f2 := hf 2 (by omega)
  have f3 := hf 3 (by omega)
  have hA : PgAt (w.setCell ⟨g, 2, none⟩ (.int .i64 e')) g A c T i e' a d := ⟨by go_simp, by go_simp, by go_simp, by go_simp, by go_simp, fun j hj => by have := hf j hj; go_simp, PgAt.toks' ⟨h0, h1, h2, h3, h4, hf, ht, hn, hi, hl⟩ 2 _, hn, hi, hl⟩
  exact ⟨by go_simp, by go_simp, by go_simp, by go_simp, by go_simp, fun j hj => by have := hf j hj; go_simp, hA.toks' 3 _, hn, hi, hl⟩
theorem PgAt.toD (h : PgAt w g A c T i e a d) (d' : Int) : PgAt (w.setCell ⟨g, 4, none⟩ (.int .i64 d')) g A c T i e a d' := by
  obtain ⟨h0, h1, h2, h3, h4, hf, ht, hn, hi, hl⟩ := h
  have f4 := hf 4 (by omega)
  exact ⟨by go_simp, by go_simp, by go_simp, by go_simp, by go_simp, fun j hj => by have := hf j hj; go_simp, PgAt.toks' ⟨h0, h1, h2, h3, h4, hf, ht, hn, hi, hl⟩ 4 _, hn, hi, hl⟩
end

theorem beq_dec (x y : List UInt8) : (x == y) = decide (x = y) := by
  by_cases h : x = y
  · rw [decide_eq_true h, h]; exact beq_self_eq_true _
  · rw [decide_eq_false h]; exact beq_false_of_ne h
theorem fld0 (k : Int) (t : ByteArray) (n p : Int) (w : World) : (Instr.field 54 (.agg #[.int .i64 k, .string t, .int .i64 n, .int .i64 p]) 0).run Tryz.prog w = .ok (.int .i64 k) w := by kernel_rfl
theorem fld1 (k : Int) (t : ByteArray) (n p : Int) (w : World) : (Instr.field 54 (.agg #[.int .i64 k, .string t, .int .i64 n, .int .i64 p]) 1).run Tryz.prog w = .ok (.string t) w := by kernel_rfl
theorem fld3 (k : Int) (t : ByteArray) (n p : Int) (w : World) : (Instr.field 54 (.agg #[.int .i64 k, .string t, .int .i64 n, .int .i64 p]) 3).run Tryz.prog w = .ok (.int .i64 p) w := by kernel_rfl
theorem ext_set4 {w w5 : World} (h : Ext w w5) (v0 v1 v2 v3 : Value) : Ext w (set4 w5 w.heap.size 0 v0 v1 v2 v3) :=
  Chg.ext_of h (set4_chg w5 w.heap.size 0 v0 v1 v2 v3 (F := fun x => x = w.heap.size) rfl) (fun b hb => by omega)
set_option maxRecDepth 100000 in
set_option maxHeartbeats 1000000 in
theorem now_pg {w : World} {g A c : Nat} {T : List Tok} {i : Nat} {e a d : Int} (h : PgAt w g A c T i e a d) :
    Calls Tryz.prog 18 #[.pointer (some ⟨g, 0, none⟩)] w fun e w' => e = .returned (.agg #[.int .i64 (tk T i).kind, .string (tk T i).text, .int .i64 (tk T i).n, .int .i64 (tk T i).at_]) ∧ Ext w w' := by
  obtain ⟨w0, hw0⟩ : ∃ w0, w0 = w.alloc (.cells #[.int .i64 0, .string ⟨#[]⟩, .int .i64 0, .int .i64 0] 54) := ⟨_, rfl⟩
  have hb0 : Box4 w0 w.heap.size (.int .i64 0) (.string ⟨#[]⟩) (.int .i64 0) (.int .i64 0) := by rw [hw0]; exact Box4.new w _ _ _ _ _
  have hx0 : Ext w w0 := by rw [hw0]; exact (Ext.refl _).alloc _
  have HW0 := Lib.hid hw0
  have h' := h.ext hx0
  have h0 := h'.c0
  have h1 := h'.c1
  obtain ⟨a0, a1, a2, a3⟩ := h'.tok
  have il := h.il
  have i0 : (0 : Int) ≤ (i : Int) := Int.natCast_nonneg _
  have i1 : (i : Int) < (T.length : Int) := by omega
  clear hw0 h h'
  go_enter Tryz.func18, Tryz.ntmps18
  go_upto_region 1 with (fail)
  rw [← HW0.out]
  go_still_tail 10, (by kernel_rfl)
  change wpList _ _ _ _ _ w0.drew
  have hxd : Ext w0 w0.drew := (Ext.refl _).drew
  generalize w0.drew = wd at hxd ⊢
  obtain ⟨y0, y1, y2, y3, f0, f1, f2, f3⟩ := hb0.ext hxd
  have hxf := hx0.trans hxd
  clear hb0 hx0 hxd h0 h1 a0 a1 a2 a3
  go_wp2_with fail
  refine bodyPost_ret (v := .agg #[.int .i64 (tk T i).kind, .string (tk T i).text, .int .i64 (tk T i).n, .int .i64 (tk T i).at_]) (by simp [results, Tryz.results18, go_sem, *]) rfl ⟨rfl, ?_⟩
  exact ext_set4 hxf _ _ _ _
set_option maxRecDepth 100000 in
set_option maxHeartbeats 1000000 in
theorem fails_yes {w : World} {g A c : Nat} {T : List Tok} {i : Nat} {a d : Int} (x b : Int) (h : PgAt w g A c T i 0 a d) :
    Calls Tryz.prog 24 #[.pointer (some ⟨g, 0, none⟩), .int .i64 x, .int .i64 b] w fun e w' => e = .returned (.tuple #[]) ∧ PgAt w' g A c T i x b d ∧ Chg (· = g) w w' := by
  have h2 := h.c2
  have h3 := h.c3
  have f2 := h.fr 2 (by omega)
  have f3 := h.fr 3 (by omega)
  have H := Lib.hid (h.toE x b)
  clear h
  go_enter Tryz.func24, Tryz.ntmps24
  go_wp2_with fail
  go_end0
  exact ⟨rfl, H.out, ((Chg.refl _ w).setg _ _).setg _ _⟩
set_option maxRecDepth 100000 in
set_option maxHeartbeats 1000000 in
theorem fails_no {w : World} {g A c : Nat} {T : List Tok} {i : Nat} {e0 a d : Int} (x b : Int) (h : PgAt w g A c T i e0 a d) (he : e0 ≠ 0) :
    Calls Tryz.prog 24 #[.pointer (some ⟨g, 0, none⟩), .int .i64 x, .int .i64 b] w fun e w' => e = .returned (.tuple #[]) ∧ Ext w w' := by
  have h2 := h.c2
  have q : (e0 == 0) = false := by simp [he]
  clear h he
  go_enter Tryz.func24, Tryz.ntmps24
  go_wp2_with fail
  go_end0
  exact ⟨rfl, Ext.refl _⟩
set_option maxRecDepth 100000 in
set_option maxHeartbeats 1000000 in
theorem is_err {w : World} {g A c : Nat} {T : List Tok} {i : Nat} {e0 a d : Int} (k : Int) (s : ByteArray) (h : PgAt w g A c T i e0 a d) (he : e0 ≠ 0) :
    Calls Tryz.prog 38 #[.pointer (some ⟨g, 0, none⟩), .int .i64 k, .string s] w fun e w' => e = .returned (.bool false) ∧ Ext w w' := by
  have h2 := h.c2
  have q : (e0 == 0) = false := by simp [he]
  clear h he
  go_enter Tryz.func38, Tryz.ntmps38
  go_wp2_with fail
  go_ret
  exact ⟨rfl, Ext.refl _⟩
set_option maxRecDepth 100000 in
set_option maxHeartbeats 1000000 in
theorem is_ok {w : World} {g A c : Nat} {T : List Tok} {i : Nat} {a d : Int} (k : Int) (s : ByteArray) (h : PgAt w g A c T i 0 a d) :
    Calls Tryz.prog 38 #[.pointer (some ⟨g, 0, none⟩), .int .i64 k, .string s] w fun e w' => e = .returned (.bool (((tk T i).kind == k) && decide ((tk T i).text.data.toList = s.data.toList))) ∧ Ext w w' := by
  have h2 := h.c2
  have KN := Lib.hid (fun (u : World) (hu : Ext w u) => now_pg (h.ext hu))
  clear h
  have q0 := fld0
  have q1 := fld1
  go_enter Tryz.func38, Tryz.ntmps38
  cases hk : ((tk T i).kind == k) with
  | false =>
    go_wp2_with fail
    refine (KN.out _ (Ext.refl _)).mono ?_
    rintro e1 w1 ⟨rfl, hx1⟩
    go_wp2_with fail
    go_ret
    exact ⟨rfl, hx1⟩
  | true =>
    go_wp2_with fail
    refine (KN.out _ (Ext.refl _)).mono ?_
    rintro e1 w1 ⟨rfl, hx1⟩
    go_wp2_with fail
    refine (KN.out _ hx1).mono ?_
    rintro e2 w2 ⟨rfl, hx2⟩
    go_wp2_with fail
    go_ret
    exact ⟨congrArg (fun x => Ending.returned (.bool x)) (by rw [Bool.true_and, ByteArray.toList_eq, ByteArray.toList_eq]; exact beq_dec _ _), hx1.trans hx2⟩
end Go.Proofs.YtbjghkmjnhmlfaaGreatDoor
