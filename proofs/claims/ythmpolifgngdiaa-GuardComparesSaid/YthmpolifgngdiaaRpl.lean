/- bind.replaced at terms that are not bound variables; copied; copiedBind. -/
import Derived.Test.YthmpolifgngdiaaRep
namespace Go.Proofs.Ythmpolifgngdiaa
open Go.RowKit

set_option maxRecDepth 100000 in
set_option maxHeartbeats 2000000 in
/-- a variable that is not bound -/
theorem rep_free (bs : List Bd) (hn : Short bs) (LA : Option Addr) (lc : Nat) (p : Value) (t : Tm) (A : Option Addr) (c : Nat) (w : World) (h : TmAt w t A c) (ha : allP t) (hp : PArg w bs LA p)
    (hk : (t.kind == 1) = true) (hi : plc bs bs.length t.name = none) :
    Calls Try.prog 62 #[t.val A c, .slice LA bs.length lc, p] w (Copied (repT bs t) w) := by
  have E := Lib.hid (repT_inn (bs := bs) (t := t) (.inr hi))
  have HF := Lib.hid (inn_fits (bs := bs) h.fits)
  have hnm := h.fits.name
  have hz := allP_var ha hk
  have HE : Hid ((innT bs t).args = []) := Lib.hid (List.eq_nil_of_length_eq_zero (by show (repL bs t.args).length = 0; rw [repL_len, hz]))
  have hzd : decide (0 < t.args.length) = false := decide_eq_false (by omega)
  have hx0 := ((Ext.refl w).alloc (.cells #[.int .i64 t.kind, .string t.name, .int .i64 t.n, .slice A t.args.length c] 32)).alloc (.cells #[.int .i64 0, .string ⟨#[]⟩, .int .i64 0, .slice none 0 0] 32)
  have HP := Lib.hid hp
  have HI := Lib.hid hi
  have HN := Lib.hid hn
  have HZ := Lib.hid hz
  clear hi hn hp hz ha
  go_enter Try.func62, Try.ntmps62
  go_wp2_with fail
  refine (find_no bs LA p t.name _ (HP.out.ext hx0) HN.out hnm HI.out).mono ?_
  rintro e1 w1 ⟨rfl, hx1⟩
  have hx01 := hx0.trans hx1
  have HB1 : Hid (Box4 w1 (w.heap.size + 1) (.int .i64 0) (.string ⟨#[]⟩) (.int .i64 0) (.slice none 0 0)) := Lib.hid (Box4.ext ⟨by go_simp, by go_simp, by go_simp, by go_simp, by go_simp, by go_simp, by go_simp, by go_simp⟩ hx1)
  have HB0 : Hid (Box4 w1 w.heap.size (.int .i64 t.kind) (.string t.name) (.int .i64 t.n) (.slice A t.args.length c)) := Lib.hid (Box4.ext ⟨by go_simp, by go_simp, by go_simp, by go_simp, by go_simp, by go_simp, by go_simp, by go_simp⟩ hx1)
  obtain ⟨b0, b1, b2, b3, _, _, _, _⟩ := HB0.out
  have hl0 : w.heap.size < w1.heap.size := HB0.out.lt
  go_wp2_with fail
  clear b0 b1 b2 b3
  go_loopw [48] (fun i wr => i = .int .i64 0 ∧ Hid (Box4 wr w1.heap.size (.int .i64 t.kind) (.string t.name) (.int .i64 t.n) (.slice none 0 0)) ∧
    Hid (Box4 wr (w.heap.size + 1) (.int .i64 0) (.string ⟨#[]⟩) (.int .i64 0) (.slice none 0 0)) ∧ Ext w wr) (fun _ _ => 0)
  case atStart => exact ⟨rfl, Lib.hid ⟨by go_simp, by go_simp, by go_simp, by go_simp, by go_simp, by go_simp, by go_simp, by go_simp⟩, Lib.hid (HB1.out.ext ((Ext.refl _).alloc _)), hx01.alloc _⟩
  case round =>
    obtain ⟨rfl, HB2, HB1', hxr⟩ := hrel
    obtain ⟨b0, b1, b2, b3, _, _, _, _⟩ := HB2.out
    obtain ⟨r0, r1, r2, r3, f0, f1, f2, f3⟩ := HB1'.out
    have hz := HZ.out
    clear HB1 HB1' HB0
    go_wp2_with fail
    refine bodyPost_ret (v := .agg #[.int .i64 t.kind, .string t.name, .int .i64 t.n, .slice none 0 0]) (by simp [results, Try.results62, go_sem, *]) rfl ⟨none, 0, ?_, ?_, ?_⟩
    · rw [E.out]; simp only [Tm.val, innT, repL_len, HZ.out]
    · rw [E.out]; exact TmOwn.leaf HF.out HE.out _ _ _
    · exact Chg.ext_of hxr (set4_chg wr (w.heap.size + 1) 0 _ _ _ _ (F := fun x => x = w.heap.size + 1) rfl) (fun b hb => by omega)

set_option maxRecDepth 100000 in
set_option maxHeartbeats 4000000 in
theorem rep_all (bs : List Bd) (hn : Short bs) (hC : CopTo bs) (LA : Option Addr) (lc : Nat) (ll : bs.length ≤ 1000000) (p : Value) (hh : Nat) : ∀ (t : Tm) (A : Option Addr) (c : Nat) (w : World), t.high ≤ hh → allP t → TmAt w t A c → PArg w bs LA p →
    Calls Try.prog 62 #[t.val A c, .slice LA bs.length lc, p] w (Copied (repT bs t) w) := by
  obtain ⟨i0, hi0, hz0, hz1, hz2⟩ := info_parts infoTm'
  induction hh with
  | zero => intro t A c w h0; have := high_pos t; omega
  | succ hh ih =>
    intro t A c w h0 ha h hp
    by_cases hk1 : (t.kind == 1) = true
    · cases hi : plc bs bs.length t.name with
      | some i => exact rep_found bs hn hC LA lc ll p t A c w h hp hk1 hi
      | none => exact rep_free bs hn LA lc p t A c w h ha hp hk1 hi
    have hk1' := not_true hk1
    have IH := Lib.hid ih
    have E := Lib.hid (repT_inn (bs := bs) (t := t) (.inl hk1'))
    have HF := Lib.hid (inn_fits (bs := bs) h.fits)
    have hl := h.fits.args
    have HAL : Hid ((innT bs t).args.length = t.args.length) := Lib.hid (by show (repL bs t.args).length = _; rw [repL_len])
    have HLL : Hid ((repL bs t.args).length = t.args.length) := Lib.hid (repL_len bs t.args)
    have HP := Lib.hid hp
    have HALLP := Lib.hid ha.args
    clear ih hk1 hn hC ha hp
    by_cases hpos : 0 < t.args.length
    · have hmk : ∀ u : World, (Instr.makeSlice 23 (.int .i64 (t.args.length : Int)) (.int .i64 (t.args.length : Int))).run Try.prog u =
          .ok (.slice (some ⟨u.heap.size, 0, none⟩) t.args.length t.args.length) (u.alloc (.cells (madeCells #[.int .i64 0, .string ⟨#[]⟩, .int .i64 0, .slice none 0 0] (t.args.length * 4)) 32)) := fun u => by
        have h := run_make (P := Try.prog) u 23 32 i0 _ Try.underlying23 hi0 hz0 .i64 .i64 (t.args.length : Int) (t.args.length : Int) (by omega) (Int.le_refl _) (by rw [hz2]; omega) (by omega)
        simp only [Int.toNat_natCast, hz1] at h
        exact h
      go_enter Try.func62, Try.ntmps62
      go_wp2_with fail
      clear hmk
      go_loopw [48] (fun i wr => ∃ (k : Nat) (zs : List Lain) (G : Nat → Nat → Prop) (ys : List Value) (W : World), k ≤ t.args.length ∧ i = .int .i64 k ∧ Hid (W.heap.size = w.heap.size + 1 + 1 + 1) ∧ Ext w W ∧ FillInv W wr (repL bs t.args) (w.heap.size + 1 + 1 + 1) k zs G ys ∧
        Hid (Box4 wr (w.heap.size + 1 + 1) (.int .i64 t.kind) (.string t.name) (.int .i64 t.n) (.slice (some ⟨w.heap.size + 1 + 1 + 1, 0, none⟩) t.args.length t.args.length)) ∧
        Hid (Box4 wr (w.heap.size + 1) (.int .i64 0) (.string ⟨#[]⟩) (.int .i64 0) (.slice none 0 0))) (fun i _ => t.args.length - (intOf i).toNat)
      case atStart =>
        refine ⟨0, [], _, _, _, Nat.zero_le _, rfl, ?_, ?_, FillInv.start (repL bs t.args) HLL.out _ ?_ (size_madeCells _ _) (by unfold maxLen; omega), Lib.hid ⟨by go_simp, by go_simp, by go_simp, by go_simp, by go_simp, by go_simp, by go_simp, by go_simp⟩, Lib.hid ⟨by go_simp, by go_simp, by go_simp, by go_simp, by go_simp, by go_simp, by go_simp, by go_simp⟩⟩
        · exact Lib.hid (by simp)
        · exact (((Ext.refl w).alloc _).alloc _).alloc _
        · simp
      case round =>
        obtain ⟨k, zs, G, ys, W, hk, rfl, HW, hxW, hri, HB2, HB1⟩ := hrel
        have hxr : Ext w wr := hxW.trans hri.inv.ext
        by_cases hlt : k < t.args.length
        · obtain ⟨b, o, B, e, rfl, c0, c1, c2, c3, hsub⟩ := (h.ext hxr).args.at_ hlt
          have hb1 := high_lt hlt
          have hlt' : Hid (k < (repL bs t.args).length) := Lib.hid (by have := HLL.out; omega)
          have HU : Hid ((repL bs t.args)[k]'hlt'.out = repT bs t.args[k]) := Lib.hid (repL_at bs t.args k hlt)
          have b3 := HB2.out.2.2.2.1
          have lb2 := HB2.out.lt
          obtain ⟨⟨q0, y0⟩, ⟨q1, y1⟩, ⟨q2, y2⟩, ⟨q3, y3⟩, z0, z1, z2, z3, hgl2⟩ := hri.cells hlt'.out
          have i0 : (0 : Int) ≤ (k : Int) := Int.natCast_nonneg _
          have i1 : (k : Int) < (t.args.length : Int) := by omega
          go_wp2_with fail
          have hxa : Ext wr (wr.alloc (Obj.cells #[.int .i64 t.args[k].kind, .string t.args[k].name, .int .i64 t.args[k].n, .slice B t.args[k].args.length e] 32)) := (Ext.refl _).alloc _
          have a0 : (wr.alloc (Obj.cells #[.int .i64 t.args[k].kind, .string t.args[k].name, .int .i64 t.args[k].n, .slice B t.args[k].args.length e] 32)).cell? ⟨wr.heap.size, 0, none⟩ = some (.int .i64 t.args[k].kind) := by go_simp
          have a1 : (wr.alloc (Obj.cells #[.int .i64 t.args[k].kind, .string t.args[k].name, .int .i64 t.args[k].n, .slice B t.args[k].args.length e] 32)).cell? ⟨wr.heap.size, 1, none⟩ = some (.string t.args[k].name) := by go_simp
          have a2 : (wr.alloc (Obj.cells #[.int .i64 t.args[k].kind, .string t.args[k].name, .int .i64 t.args[k].n, .slice B t.args[k].args.length e] 32)).cell? ⟨wr.heap.size, 2, none⟩ = some (.int .i64 t.args[k].n) := by go_simp
          have a3 : (wr.alloc (Obj.cells #[.int .i64 t.args[k].kind, .string t.args[k].name, .int .i64 t.args[k].n, .slice B t.args[k].args.length e] 32)).cell? ⟨wr.heap.size, 3, none⟩ = some (.slice B t.args[k].args.length e) := by go_simp
          have b3a := hxa.cell b3
          have hsa := hxa.size
          generalize (wr.alloc (Obj.cells #[.int .i64 t.args[k].kind, .string t.args[k].name, .int .i64 t.args[k].n, .slice B t.args[k].args.length e] 32)) = wa at *
          have lba := World.block_lt_of_cell? wa _ b3a
          have laa := World.block_lt_of_cell? wa _ a0
          simp only at lba laa
          have hne1 : w.heap.size + 1 + 1 + 1 ≠ wr.heap.size := by omega
          have hne2 : w.heap.size + 1 + 1 + 1 ≠ w.heap.size + 1 + 1 := by omega
          have KEY : Hid (Calls Try.prog 62 #[t.args[k].val B e, .slice LA bs.length lc, p] wa.drew (Copied (repT bs t.args[k]) wa.drew)) := Lib.hid (IH.out t.args[k] B e _ (by omega) (allPs_mem HALLP.out (List.getElem_mem hlt)) (hsub.ext hxa.drew) (HP.out.ext (hxr.trans hxa.drew)))
          have d3 : wa.drew.cell? ⟨w.heap.size + 1 + 1, 3, none⟩ = some (.slice (some ⟨w.heap.size + 1 + 1 + 1, 0, none⟩) t.args.length t.args.length) := b3a
          have e0 : wa.drew.cell? ⟨wr.heap.size, 0, none⟩ = some (.int .i64 t.args[k].kind) := a0
          have e1 : wa.drew.cell? ⟨wr.heap.size, 1, none⟩ = some (.string t.args[k].name) := a1
          have e2 : wa.drew.cell? ⟨wr.heap.size, 2, none⟩ = some (.int .i64 t.args[k].n) := a2
          have e3 : wa.drew.cell? ⟨wr.heap.size, 3, none⟩ = some (.slice B t.args[k].args.length e) := a3
          go_region_held3 (fun u => u.cell? ⟨w.heap.size + 1 + 1, 3, none⟩ = some (.slice (some ⟨w.heap.size + 1 + 1 + 1, 0, none⟩) t.args.length t.args.length) ∧ u.cell? ⟨wr.heap.size, 0, none⟩ = some (.int .i64 t.args[k].kind) ∧ u.cell? ⟨wr.heap.size, 1, none⟩ = some (.string t.args[k].name) ∧
              u.cell? ⟨wr.heap.size, 2, none⟩ = some (.int .i64 t.args[k].n) ∧ u.cell? ⟨wr.heap.size, 3, none⟩ = some (.slice B t.args[k].args.length e))
            (first | (with_reducible exact ⟨b3a, a0, a1, a2, a3⟩) | (with_reducible exact ⟨d3, e0, e1, e2, e3⟩) | (with_reducible exact ⟨hx1.cell d3, hx1.cell e0, hx1.cell e1, hx1.cell e2, hx1.cell e3⟩) | exact ⟨set4_far (hx1.cell d3) hne2, set4_far (hx1.cell e0) hne1, set4_far (hx1.cell e1) hne1, set4_far (hx1.cell e2) hne1, set4_far (hx1.cell e3) hne1⟩)
            (first | (go_at_call 62; refine KEY.out.mono ?_; rintro ee w1 ⟨A', c', rfl, hO, hx1⟩; have hx1' : Ext wr w1 := hxa.drew.trans hx1; have v0 := hx1'.cell y0; have v1 := hx1'.cell y1; have v2 := hx1'.cell y2; have v3 := hx1'.cell y3; have g0 := (Below.frozen hx1' (p := ⟨w.heap.size + 1 + 1 + 1, k * 4, none⟩) hgl2).trans z0; have g1 := (Below.frozen hx1' (p := ⟨w.heap.size + 1 + 1 + 1, k * 4 + 1, none⟩) hgl2).trans z1; have g2 := (Below.frozen hx1' (p := ⟨w.heap.size + 1 + 1 + 1, k * 4 + 2, none⟩) hgl2).trans z2; have g3 := (Below.frozen hx1' (p := ⟨w.heap.size + 1 + 1 + 1, k * 4 + 3, none⟩) hgl2).trans z3))
          have hO' := hO.weak (F' := fun x => wr.heap.size ≤ x ∧ x < w1.heap.size) (fun x hx => ⟨Nat.le_trans hsa hx.1, hx.2⟩)
          have hst := hri.store (us := repL bs t.args) hlt'.out (by have := HW.out; omega) (A := A') (c := c') (by rw [HU.out]; exact hO') hx1'
          rw [HU.out] at hst
          have HST := Lib.hid hst
          have HB2' := Lib.hid (HB2.out.ext hx1')
          have HB1' := Lib.hid (HB1.out.ext hx1')
          clear hst d3 e0 e1 e2 e3 y0 y1 y2 y3 z0 z1 z2 z3 c0 c1 c2 c3 a0 a1 a2 a3 b3 b3a hO hO' HB1 HB2 hri v0 v1 v2 v3 g0 g1 g2 g3 KEY
          go_wp2_with fail
          go_roundw
          case rel =>
            obtain ⟨G', hst⟩ := HST.out
            exact ⟨k + 1, _, G', _, W, by omega, by go_num, HW, hxW, hst, Lib.hid (HB2'.out.same (set4_block _ _ _ _ _ _ _ _ (by omega))), Lib.hid (HB1'.out.same (set4_block _ _ _ _ _ _ _ _ (by omega)))⟩
          case measure => simp [intOf]; omega
        · have hdone := hri.done (by have := HLL.out; omega)
          rw [HLL.out] at hdone
          obtain ⟨hO, _⟩ := own_of_copiedL (t := innT bs t) hdone HF.out
          have HO := Lib.hid hO
          have hxW2 := hri.inv.ext
          obtain ⟨b0, b1, b2, b3, _, _, _, _⟩ := HB2.out
          obtain ⟨r0, r1, r2, r3, f0, f1, f2, f3⟩ := HB1.out
          clear hdone hO hri HB2 HB1
          go_wp2_with fail
          refine bodyPost_ret (v := .agg #[.int .i64 t.kind, .string t.name, .int .i64 t.n, .slice (some ⟨w.heap.size + 1 + 1 + 1, 0, none⟩) t.args.length t.args.length]) (by simp [results, Try.results62, go_sem, *]) rfl ⟨some ⟨w.heap.size + 1 + 1 + 1, 0, none⟩, t.args.length, ?_, ?_, ?_⟩
          · rw [E.out]; simp only [Tm.val, HAL.out]; rfl
          · rw [E.out]; exact HO.out.answer (r := w.heap.size + 1) (B := w.heap.size) _ _ _ _ (by have := HW.out; omega) (by have := HW.out; omega) rfl
          · exact Chg.ext_of (hxW.trans hxW2) (set4_chg wr (w.heap.size + 1) 0 _ _ _ _ (F := fun x => x = w.heap.size + 1) rfl) (fun b hb => by omega)
    · have hz : decide (0 < t.args.length) = false := decide_eq_false hpos
      have HE : Hid ((innT bs t).args = []) := Lib.hid (List.eq_nil_of_length_eq_zero (by have := HAL.out; omega))
      have HZ : Hid (t.args.length = 0) := Lib.hid (by omega)
      clear hpos
      go_enter Try.func62, Try.ntmps62
      go_wp2_with fail
      go_loopw [48] (fun i wr => i = .int .i64 0 ∧ Hid (Box4 wr (w.heap.size + 1 + 1) (.int .i64 t.kind) (.string t.name) (.int .i64 t.n) (.slice none 0 0)) ∧
        Hid (Box4 wr (w.heap.size + 1) (.int .i64 0) (.string ⟨#[]⟩) (.int .i64 0) (.slice none 0 0)) ∧ Ext w wr) (fun _ _ => 0)
      case atStart => exact ⟨rfl, Lib.hid ⟨by go_simp, by go_simp, by go_simp, by go_simp, by go_simp, by go_simp, by go_simp, by go_simp⟩, Lib.hid ⟨by go_simp, by go_simp, by go_simp, by go_simp, by go_simp, by go_simp, by go_simp, by go_simp⟩, (((Ext.refl w).alloc _).alloc _).alloc _⟩
      case round =>
        obtain ⟨rfl, HB2, HB1, hxr⟩ := hrel
        obtain ⟨b0, b1, b2, b3, _, _, _, _⟩ := HB2.out
        obtain ⟨r0, r1, r2, r3, f0, f1, f2, f3⟩ := HB1.out
        clear HB2 HB1
        go_wp2_with fail
        refine bodyPost_ret (v := .agg #[.int .i64 t.kind, .string t.name, .int .i64 t.n, .slice none 0 0]) (by simp [results, Try.results62, go_sem, *]) rfl ⟨none, 0, ?_, ?_, ?_⟩
        · rw [E.out]; simp only [Tm.val, HAL.out, HZ.out]; rfl
        · rw [E.out]; exact TmOwn.leaf HF.out HE.out _ _ _
        · exact Chg.ext_of hxr (set4_chg wr (w.heap.size + 1) 0 _ _ _ _ (F := fun x => x = w.heap.size + 1) rfl) (fun b hb => by omega)

theorem cop_nil : CopTo [] := fun i hi => absurd hi (by simp)
theorem short_nil : Short [] := fun i hi => absurd hi (by simp)

set_option maxRecDepth 100000 in
set_option maxHeartbeats 1000000 in
theorem copied_any (t : Tm) (A : Option Addr) (c : Nat) (w : World) (ha : allP t) (h : TmAt w t A c) :
    Calls Try.prog 52 #[t.val A c] w (Copied t w) := by
  have HA := Lib.hid ha
  have hx0 := ((Ext.refl w).alloc (.cells #[.int .i64 t.kind, .string t.name, .int .i64 t.n, .slice A t.args.length c] 32)).alloc (.cells #[.int .i64 0, .string ⟨#[]⟩, .int .i64 0, .slice none 0 0] 32)
  clear ha
  go_enter Try.func52, Try.ntmps52
  go_wp2_with fail
  refine (rep_all [] short_nil cop_nil none 0 (by simp) (.map none) t.high t A c _ (Nat.le_refl _) HA.out (h.ext hx0) (.inl ⟨rfl, rfl⟩)).mono ?_
  rintro e1 w1 ⟨A', c', rfl, hO, hx1⟩
  rw [repT_nil] at hO ⊢
  obtain ⟨r0, r1, r2, r3, g0, g1, g2, g3⟩ : Box4 w1 (w.heap.size + 1) (.int .i64 0) (.string ⟨#[]⟩) (.int .i64 0) (.slice none 0 0) := Box4.ext ⟨by go_simp, by go_simp, by go_simp, by go_simp, by go_simp, by go_simp, by go_simp, by go_simp⟩ hx1
  have HO := Lib.hid hO
  clear hO
  go_wp2_with fail
  refine bodyPost_ret (v := t.val A' c') (by simp [results, Try.results52, go_sem, *]) rfl ⟨A', c', rfl, HO.out.answer (r := w.heap.size + 1) (B := w.heap.size) _ _ _ _ (by simp only [heap_size_alloc]; omega) (by simp only [heap_size_alloc]; omega) rfl, ?_⟩
  exact Chg.ext_of (hx0.trans hx1) (set4_chg w1 (w.heap.size + 1) 0 _ _ _ _ (F := fun x => x = w.heap.size + 1) rfl) (fun b hb => by omega)
/-- the binds' terms may be -/
def AllB (bs : List Bd) : Prop := ∀ i (h : i < bs.length), allP bs[i].tm
end Go.Proofs.Ythmpolifgngdiaa
