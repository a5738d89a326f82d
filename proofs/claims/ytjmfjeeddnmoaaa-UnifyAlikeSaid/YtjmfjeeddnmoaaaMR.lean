/- Joined: Rep, Rpl, Apl, Apm. -/
import Derived.Test.YtjmfjeeddnmoaaaFil
import Derived.Test.YtjmfjeeddnmoaaaMK
import Derived.Maps.OwnSet
import Derived.Test.YtjmfjeeddnmoaaaAll
import Derived.Deep.DeepCutAuto
import Derived.Deep.CutBlock

/- bind.replaced, copied: a term in new memory, each bound variable its term. -/
namespace Go.Proofs.Ytjmfjeeddnmoaaa
open Go.RowKit Go.Maps

set_option maxHeartbeats 1000000 in
theorem find_nil (s : ByteArray) (w : World) (hs : s.size ≤ 140737488351232) :
    Calls Try.prog 99 #[.map none, .string s] w fun e w' => e = .returned (.tuple #[.int .i64 0, .bool false]) ∧ Ext w w' := by
  by_cases h16 : s.size ≤ 16
  · go_enter Try.func99, Try.ntmps99
    go_wp2_with fail
    refine (keyOf_any s _ h16).mono ?_
    rintro e1 w1 ⟨rfl, hx1⟩
    have hrun := Maps.look_nil (w := w1) true keyedKey Try.underlying105 (zeroInt w1) (key_key h16)
    rw [if_pos rfl] at hrun
    go_wp2_with fail
    go_ret2
    exact ⟨rfl, hx1⟩
  · have hgt : 16 < s.size := by omega
    clear h16
    go_enter Try.func99, Try.ntmps99
    go_wp2_with fail
    go_ret2
    exact ⟨rfl, Ext.refl _⟩

theorem find_arg (bs : List Bd) (A : Option Addr) (p : Value) (s : ByteArray) (w : World) (h : PArg w bs A p) (hn : Short bs) (hs : s.size ≤ 140737488351232) :
    Calls Try.prog 99 #[p, .string s] w fun e w' => e = .returned (.tuple #[.int .i64 (plI bs s), .bool (plB bs s)]) ∧ Ext w w' := by
  rcases h with ⟨rfl, rfl⟩ | ⟨b, rfl, hP, _⟩
  · exact find_nil s w hs
  · exact find_any bs b s w hP hn hs
/-- .. where it stands -/
theorem find_at (bs : List Bd) (A : Option Addr) (p : Value) (s : ByteArray) (w : World) (h : PArg w bs A p) (hn : Short bs) (hs : s.size ≤ 140737488351232) {i : Nat} (hp : plc bs bs.length s = some i) :
    Calls Try.prog 99 #[p, .string s] w fun e w' => e = .returned (.tuple #[.int .i64 (i : Int), .bool true]) ∧ Ext w w' := by
  refine (find_arg bs A p s w h hn hs).mono fun e w' ⟨he, hx⟩ => ⟨?_, hx⟩
  rw [he, plI, plB, hp]; rfl
theorem find_no (bs : List Bd) (A : Option Addr) (p : Value) (s : ByteArray) (w : World) (h : PArg w bs A p) (hn : Short bs) (hs : s.size ≤ 140737488351232) (hp : plc bs bs.length s = none) :
    Calls Try.prog 99 #[p, .string s] w fun e w' => e = .returned (.tuple #[.int .i64 0, .bool false]) ∧ Ext w w' := by
  refine (find_arg bs A p s w h hn hs).mono fun e w' ⟨he, hx⟩ => ⟨?_, hx⟩
  rw [he, plI, plB, hp]; rfl

/-- what copied is to give of the binds' terms -/
def CopTo (bs : List Bd) : Prop := ∀ i (h : i < bs.length) (A : Option Addr) (c : Nat) (w : World), TmAt w bs[i].tm A c → Calls Try.prog 87 #[bs[i].tm.val A c] w (Copied bs[i].tm w)

theorem allP_var {t : Tm} (h : allP t) (hk : (t.kind == 1) = true) : t.args.length = 0 := by
  have hq := h.plain
  unfold plainB at hq
  rw [if_pos hk] at hq
  simp at hq
  exact List.length_eq_zero_iff.2 (by simpa using hq.2)

/-- a term at two worlds' cost: the copy of what is copied -/
theorem Copied.from {t : Tm} {w u w' : World} {e : Ending} (h : Copied t u e w') (hx : Ext w u) : Copied t w e w' := by
  obtain ⟨A, c, he, hO, hx'⟩ := h
  exact ⟨A, c, he, hO.weak fun k hk => ⟨Nat.le_trans hx.size hk.1, hk.2⟩, hx.trans hx'⟩

set_option maxRecDepth 100000 in
set_option maxHeartbeats 4000000 in
/-- a bound variable -/
theorem rep_found (bs : List Bd) (hn : Short bs) (hC : CopTo bs) (LA : Option Addr) (lc : Nat) (ll : bs.length ≤ 1000000) (p : Value) (t : Tm) (A : Option Addr) (c : Nat) (w : World) (h : TmAt w t A c) (hp : PArg w bs LA p)
    (hk : (t.kind == 1) = true) {i : Nat} (hi : plc bs bs.length t.name = some i) :
    Calls Try.prog 95 #[t.val A c, .slice LA bs.length lc, p] w (Copied (repT bs t) w) := by
  have hlt : i < bs.length := (plc_some hi).1
  have E := Lib.hid (repT_var hlt hk hi)
  have hnm := h.fits.name
  have hx0 := ((Ext.refl w).alloc (.cells #[.int .i64 t.kind, .string t.name, .int .i64 t.n, .slice A t.args.length c] 28)).alloc (.cells #[.int .i64 0, .string ⟨#[]⟩, .int .i64 0, .slice none 0 0] 28)
  have hB : BdsAt w bs LA := by
    rcases hp with ⟨rfl, _⟩ | ⟨_, _, _, h⟩
    · exact absurd hlt (by simp)
    · exact h
  have HP := Lib.hid hp
  have HI := Lib.hid hi
  have HN := Lib.hid hn
  have HC := Lib.hid hC
  clear hi hn hC hp
  have i0 : (0 : Int) ≤ (i : Int) := Int.natCast_nonneg _
  have i1 : (i : Int) < (bs.length : Int) := by omega
  go_enter Try.func95, Try.ntmps95
  go_wp2_with fail
  refine (find_at bs LA p t.name _ (HP.out.ext hx0) HN.out hnm HI.out).mono ?_
  rintro e1 w1 ⟨rfl, hx1⟩
  have hx01 := hx0.trans hx1
  obtain ⟨b, o, B, e, rfl, c0, c1, c2, c3, c4, hT, _⟩ := (hB.ext hx01) i hlt
  obtain ⟨r0, r1, r2, r3, g0, g1, g2, g3⟩ : Box4 w1 (w.heap.size + 1) (.int .i64 0) (.string ⟨#[]⟩) (.int .i64 0) (.slice none 0 0) := Box4.ext ⟨by go_simp, by go_simp, by go_simp, by go_simp, by go_simp, by go_simp, by go_simp, by go_simp⟩ hx1
  have hs1 := hx1.size
  have hlr := World.block_lt_of_cell? w1 _ r0
  go_wp2_with fail
  refine (HC.out i hlt B e _ hT).mono ?_
  rintro e2 w2 ⟨A', c', rfl, hO, hx2⟩
  have s0 := hx2.cell r0
  have s1 := hx2.cell r1
  have s2 := hx2.cell r2
  have s3 := hx2.cell r3
  have f0 := (Below.frozen hx2 (p := ⟨w.heap.size + 1, 0, none⟩) hlr).trans g0
  have f1 := (Below.frozen hx2 (p := ⟨w.heap.size + 1, 1, none⟩) hlr).trans g1
  have f2 := (Below.frozen hx2 (p := ⟨w.heap.size + 1, 2, none⟩) hlr).trans g2
  have f3 := (Below.frozen hx2 (p := ⟨w.heap.size + 1, 3, none⟩) hlr).trans g3
  have HO := Lib.hid hO
  have hsz : w.heap.size + 1 < w1.heap.size := hlr
  clear hO r0 r1 r2 r3 g0 g1 g2 g3 c0 c1 c2 c3 c4
  go_wp2_with fail
  refine bodyPost_ret (v := bs[i].tm.val A' c') (by simp [results, Try.results95, go_sem, *]) rfl ⟨A', c', by rw [E.out], ?_, ?_⟩
  · rw [E.out]
    exact HO.out.answer (r := w.heap.size + 1) (B := w.heap.size) _ _ _ _ (by omega) (by omega) rfl
  · exact Chg.ext_of (hx01.trans hx2) (set4_chg w2 (w.heap.size + 1) 0 _ _ _ _ (F := fun x => x = w.heap.size + 1) rfl) (fun b hb => by omega)
end Go.Proofs.Ytjmfjeeddnmoaaa

/- bind.replaced at terms that are not bound variables; copied; copiedBind. -/
namespace Go.Proofs.Ytjmfjeeddnmoaaa
open Go.RowKit

set_option maxRecDepth 100000 in
set_option maxHeartbeats 2000000 in
/-- a variable that is not bound -/
theorem rep_free (bs : List Bd) (hn : Short bs) (LA : Option Addr) (lc : Nat) (p : Value) (t : Tm) (A : Option Addr) (c : Nat) (w : World) (h : TmAt w t A c) (ha : allP t) (hp : PArg w bs LA p)
    (hk : (t.kind == 1) = true) (hi : plc bs bs.length t.name = none) :
    Calls Try.prog 95 #[t.val A c, .slice LA bs.length lc, p] w (Copied (repT bs t) w) := by
  have E := Lib.hid (repT_inn (bs := bs) (t := t) (.inr hi))
  have HF := Lib.hid (inn_fits (bs := bs) h.fits)
  have hnm := h.fits.name
  have hz := allP_var ha hk
  have HE : Hid ((innT bs t).args = []) := Lib.hid (List.eq_nil_of_length_eq_zero (by show (repL bs t.args).length = 0; rw [repL_len, hz]))
  have hzd : decide (0 < t.args.length) = false := decide_eq_false (by omega)
  have hx0 := ((Ext.refl w).alloc (.cells #[.int .i64 t.kind, .string t.name, .int .i64 t.n, .slice A t.args.length c] 28)).alloc (.cells #[.int .i64 0, .string ⟨#[]⟩, .int .i64 0, .slice none 0 0] 28)
  have HP := Lib.hid hp
  have HI := Lib.hid hi
  have HN := Lib.hid hn
  have HZ := Lib.hid hz
  clear hi hn hp hz ha
  go_enter Try.func95, Try.ntmps95
  go_wp2_with fail
  refine (find_no bs LA p t.name _ (HP.out.ext hx0) HN.out hnm HI.out).mono ?_
  rintro e1 w1 ⟨rfl, hx1⟩
  have hx01 := hx0.trans hx1
  have HB1 : Hid (Box4 w1 (w.heap.size + 1) (.int .i64 0) (.string ⟨#[]⟩) (.int .i64 0) (.slice none 0 0)) := Lib.hid (Box4.ext ⟨by go_simp, by go_simp, by go_simp, by go_simp, by go_simp, by go_simp, by go_simp, by go_simp⟩ hx1)
  have HB0 : Hid (Box4 w1 w.heap.size (.int .i64 t.kind) (.string t.name) (.int .i64 t.n) (.slice A t.args.length c)) := Lib.hid (Box4.ext ⟨by go_simp, by go_simp, by go_simp, by go_simp, by go_simp, by go_simp, by go_simp, by go_simp⟩ hx1)
  obtain ⟨b0, b1, b2, b3, _, _, _, _⟩ := HB0.out
  have hl0 : w.heap.size < w1.heap.size := HB0.out.lt
  go_wp2_with fail
  clear b0 b1 b2 b3
  go_loopw [48] (fun i wr => i = .int .i64 0 ∧ Hid (Box4 wr w1.heap.size (.int .i64 t.kind) (.string t.name) (.int .i64 t.n) (.slice none 0 0)) ∧
    Hid (Box4 wr (w.heap.size + 1) (.int .i64 0) (.string ⟨#[]⟩) (.int .i64 0) (.slice none 0 0)) ∧ Ext w wr) (fun _ _ => 0)
  case atStart => exact ⟨rfl, Lib.hid ⟨by go_simp, by go_simp, by go_simp, by go_simp, by go_simp, by go_simp, by go_simp, by go_simp⟩, Lib.hid (HB1.out.ext ((Ext.refl _).alloc _)), hx01.alloc _⟩
  case round =>
    obtain ⟨rfl, HB2, HB1', hxr⟩ := hrel
    obtain ⟨b0, b1, b2, b3, _, _, _, _⟩ := HB2.out
    obtain ⟨r0, r1, r2, r3, f0, f1, f2, f3⟩ := HB1'.out
    have hz := HZ.out
    clear HB1 HB1' HB0
    go_wp2_with fail
    refine bodyPost_ret (v := .agg #[.int .i64 t.kind, .string t.name, .int .i64 t.n, .slice none 0 0]) (by simp [results, Try.results95, go_sem, *]) rfl ⟨none, 0, ?_, ?_, ?_⟩
    · rw [E.out]; simp only [Tm.val, innT, repL_len, HZ.out]
    · rw [E.out]; exact TmOwn.leaf HF.out HE.out _ _ _
    · exact Chg.ext_of hxr (set4_chg wr (w.heap.size + 1) 0 _ _ _ _ (F := fun x => x = w.heap.size + 1) rfl) (fun b hb => by omega)

set_option maxRecDepth 100000 in
set_option maxHeartbeats 4000000 in
theorem rep_all (bs : List Bd) (hn : Short bs) (hC : CopTo bs) (LA : Option Addr) (lc : Nat) (ll : bs.length ≤ 1000000) (p : Value) (hh : Nat) : ∀ (t : Tm) (A : Option Addr) (c : Nat) (w : World), t.high ≤ hh → allP t → TmAt w t A c → PArg w bs LA p →
    Calls Try.prog 95 #[t.val A c, .slice LA bs.length lc, p] w (Copied (repT bs t) w) := by
  obtain ⟨i0, hi0, hz0, hz1, hz2⟩ := info_parts infoTm'
  induction hh with
  | zero => intro t A c w h0; have := high_pos t; omega
  | succ hh ih =>
    intro t A c w h0 ha h hp
    by_cases hk1 : (t.kind == 1) = true
    · cases hi : plc bs bs.length t.name with
      | some i => exact rep_found bs hn hC LA lc ll p t A c w h hp hk1 hi
      | none => exact rep_free bs hn LA lc p t A c w h ha hp hk1 hi
    have hk1' := not_true hk1
    have IH := Lib.hid ih
    have E := Lib.hid (repT_inn (bs := bs) (t := t) (.inl hk1'))
    have HF := Lib.hid (inn_fits (bs := bs) h.fits)
    have hl := h.fits.args
    have HAL : Hid ((innT bs t).args.length = t.args.length) := Lib.hid (by show (repL bs t.args).length = _; rw [repL_len])
    have HLL : Hid ((repL bs t.args).length = t.args.length) := Lib.hid (repL_len bs t.args)
    have HP := Lib.hid hp
    have HALLP := Lib.hid ha.args
    clear ih hk1 hn hC ha hp
    by_cases hpos : 0 < t.args.length
    · have hmk : ∀ u : World, (Instr.makeSlice 22 (.int .i64 (t.args.length : Int)) (.int .i64 (t.args.length : Int))).run Try.prog u =
          .ok (.slice (some ⟨u.heap.size, 0, none⟩) t.args.length t.args.length) (u.alloc (.cells (madeCells #[.int .i64 0, .string ⟨#[]⟩, .int .i64 0, .slice none 0 0] (t.args.length * 4)) 28)) := fun u => by
        have h := run_make (P := Try.prog) u 22 28 i0 _ Try.underlying22 hi0 hz0 .i64 .i64 (t.args.length : Int) (t.args.length : Int) (by omega) (Int.le_refl _) (by rw [hz2]; omega) (by omega)
        simp only [Int.toNat_natCast, hz1] at h
        exact h
      go_enter Try.func95, Try.ntmps95
      go_wp2_with fail
      clear hmk
      go_loopw [48] (fun i wr => ∃ (k : Nat) (zs : List Lain) (G : Nat → Nat → Prop) (ys : List Value) (W : World), k ≤ t.args.length ∧ i = .int .i64 k ∧ Hid (W.heap.size = w.heap.size + 1 + 1 + 1) ∧ Ext w W ∧ FillInv W wr (repL bs t.args) (w.heap.size + 1 + 1 + 1) k zs G ys ∧
        Hid (Box4 wr (w.heap.size + 1 + 1) (.int .i64 t.kind) (.string t.name) (.int .i64 t.n) (.slice (some ⟨w.heap.size + 1 + 1 + 1, 0, none⟩) t.args.length t.args.length)) ∧
        Hid (Box4 wr (w.heap.size + 1) (.int .i64 0) (.string ⟨#[]⟩) (.int .i64 0) (.slice none 0 0))) (fun i _ => t.args.length - (intOf i).toNat)
      case atStart =>
        refine ⟨0, [], _, _, _, Nat.zero_le _, rfl, ?_, ?_, FillInv.start (repL bs t.args) HLL.out _ ?_ (size_madeCells _ _) (by unfold maxLen; omega), Lib.hid ⟨by go_simp, by go_simp, by go_simp, by go_simp, by go_simp, by go_simp, by go_simp, by go_simp⟩, Lib.hid ⟨by go_simp, by go_simp, by go_simp, by go_simp, by go_simp, by go_simp, by go_simp, by go_simp⟩⟩
        · exact Lib.hid (by simp)
        · exact (((Ext.refl w).alloc _).alloc _).alloc _
        · simp
      case round =>
        obtain ⟨k, zs, G, ys, W, hk, rfl, HW, hxW, hri, HB2, HB1⟩ := hrel
        have hxr : Ext w wr := hxW.trans hri.inv.ext
        by_cases hlt : k < t.args.length
        · obtain ⟨b, o, B, e, rfl, c0, c1, c2, c3, hsub⟩ := (h.ext hxr).args.at_ hlt
          have hb1 := high_lt hlt
          have hlt' : Hid (k < (repL bs t.args).length) := Lib.hid (by have := HLL.out; omega)
          have HU : Hid ((repL bs t.args)[k]'hlt'.out = repT bs t.args[k]) := Lib.hid (repL_at bs t.args k hlt)
          have b3 := HB2.out.2.2.2.1
          have lb2 := HB2.out.lt
          obtain ⟨⟨q0, y0⟩, ⟨q1, y1⟩, ⟨q2, y2⟩, ⟨q3, y3⟩, z0, z1, z2, z3, hgl2⟩ := hri.cells hlt'.out
          have i0 : (0 : Int) ≤ (k : Int) := Int.natCast_nonneg _
          have i1 : (k : Int) < (t.args.length : Int) := by omega
          go_wp2_with fail
          have hxa : Ext wr (wr.alloc (Obj.cells #[.int .i64 t.args[k].kind, .string t.args[k].name, .int .i64 t.args[k].n, .slice B t.args[k].args.length e] 28)) := (Ext.refl _).alloc _
          have a0 : (wr.alloc (Obj.cells #[.int .i64 t.args[k].kind, .string t.args[k].name, .int .i64 t.args[k].n, .slice B t.args[k].args.length e] 28)).cell? ⟨wr.heap.size, 0, none⟩ = some (.int .i64 t.args[k].kind) := by go_simp
          have a1 : (wr.alloc (Obj.cells #[.int .i64 t.args[k].kind, .string t.args[k].name, .int .i64 t.args[k].n, .slice B t.args[k].args.length e] 28)).cell? ⟨wr.heap.size, 1, none⟩ = some (.string t.args[k].name) := by go_simp
          have a2 : (wr.alloc (Obj.cells #[.int .i64 t.args[k].kind, .string t.args[k].name, .int .i64 t.args[k].n, .slice B t.args[k].args.length e] 28)).cell? ⟨wr.heap.size, 2, none⟩ = some (.int .i64 t.args[k].n) := by go_simp
          have a3 : (wr.alloc (Obj.cells #[.int .i64 t.args[k].kind, .string t.args[k].name, .int .i64 t.args[k].n, .slice B t.args[k].args.length e] 28)).cell? ⟨wr.heap.size, 3, none⟩ = some (.slice B t.args[k].args.length e) := by go_simp
          have b3a := hxa.cell b3
          have hsa := hxa.size
          generalize (wr.alloc (Obj.cells #[.int .i64 t.args[k].kind, .string t.args[k].name, .int .i64 t.args[k].n, .slice B t.args[k].args.length e] 28)) = wa at *
          have lba := World.block_lt_of_cell? wa _ b3a
          have laa := World.block_lt_of_cell? wa _ a0
          simp only at lba laa
          have hne1 : w.heap.size + 1 + 1 + 1 ≠ wr.heap.size := by omega
          have hne2 : w.heap.size + 1 + 1 + 1 ≠ w.heap.size + 1 + 1 := by omega
          have KEY : Hid (Calls Try.prog 95 #[t.args[k].val B e, .slice LA bs.length lc, p] wa.drew (Copied (repT bs t.args[k]) wa.drew)) := Lib.hid (IH.out t.args[k] B e _ (by omega) (allPs_mem HALLP.out (List.getElem_mem hlt)) (hsub.ext hxa.drew) (HP.out.ext (hxr.trans hxa.drew)))
          have d3 : wa.drew.cell? ⟨w.heap.size + 1 + 1, 3, none⟩ = some (.slice (some ⟨w.heap.size + 1 + 1 + 1, 0, none⟩) t.args.length t.args.length) := b3a
          have e0 : wa.drew.cell? ⟨wr.heap.size, 0, none⟩ = some (.int .i64 t.args[k].kind) := a0
          have e1 : wa.drew.cell? ⟨wr.heap.size, 1, none⟩ = some (.string t.args[k].name) := a1
          have e2 : wa.drew.cell? ⟨wr.heap.size, 2, none⟩ = some (.int .i64 t.args[k].n) := a2
          have e3 : wa.drew.cell? ⟨wr.heap.size, 3, none⟩ = some (.slice B t.args[k].args.length e) := a3
          go_region_held3 (fun u => u.cell? ⟨w.heap.size + 1 + 1, 3, none⟩ = some (.slice (some ⟨w.heap.size + 1 + 1 + 1, 0, none⟩) t.args.length t.args.length) ∧ u.cell? ⟨wr.heap.size, 0, none⟩ = some (.int .i64 t.args[k].kind) ∧ u.cell? ⟨wr.heap.size, 1, none⟩ = some (.string t.args[k].name) ∧
              u.cell? ⟨wr.heap.size, 2, none⟩ = some (.int .i64 t.args[k].n) ∧ u.cell? ⟨wr.heap.size, 3, none⟩ = some (.slice B t.args[k].args.length e))
            (first | (with_reducible exact ⟨b3a, a0, a1, a2, a3⟩) | (with_reducible exact ⟨d3, e0, e1, e2, e3⟩) | (with_reducible exact ⟨hx1.cell d3, hx1.cell e0, hx1.cell e1, hx1.cell e2, hx1.cell e3⟩) | exact ⟨set4_far (hx1.cell d3) hne2, set4_far (hx1.cell e0) hne1, set4_far (hx1.cell e1) hne1, set4_far (hx1.cell e2) hne1, set4_far (hx1.cell e3) hne1⟩)
            (first | (go_at_call 95; refine KEY.out.mono ?_; rintro ee w1 ⟨A', c', rfl, hO, hx1⟩; have hx1' : Ext wr w1 := hxa.drew.trans hx1; have v0 := hx1'.cell y0; have v1 := hx1'.cell y1; have v2 := hx1'.cell y2; have v3 := hx1'.cell y3; have g0 := (Below.frozen hx1' (p := ⟨w.heap.size + 1 + 1 + 1, k * 4, none⟩) hgl2).trans z0; have g1 := (Below.frozen hx1' (p := ⟨w.heap.size + 1 + 1 + 1, k * 4 + 1, none⟩) hgl2).trans z1; have g2 := (Below.frozen hx1' (p := ⟨w.heap.size + 1 + 1 + 1, k * 4 + 2, none⟩) hgl2).trans z2; have g3 := (Below.frozen hx1' (p := ⟨w.heap.size + 1 + 1 + 1, k * 4 + 3, none⟩) hgl2).trans z3))
          have hO' := hO.weak (F' := fun x => wr.heap.size ≤ x ∧ x < w1.heap.size) (fun x hx => ⟨Nat.le_trans hsa hx.1, hx.2⟩)
          have hst := hri.store (us := repL bs t.args) hlt'.out (by have := HW.out; omega) (A := A') (c := c') (by rw [HU.out]; exact hO') hx1'
          rw [HU.out] at hst
          have HST := Lib.hid hst
          have HB2' := Lib.hid (HB2.out.ext hx1')
          have HB1' := Lib.hid (HB1.out.ext hx1')
          clear hst d3 e0 e1 e2 e3 y0 y1 y2 y3 z0 z1 z2 z3 c0 c1 c2 c3 a0 a1 a2 a3 b3 b3a hO hO' HB1 HB2 hri v0 v1 v2 v3 g0 g1 g2 g3 KEY
          go_wp2_with fail
          go_roundw
          case rel =>
            obtain ⟨G', hst⟩ := HST.out
            exact ⟨k + 1, _, G', _, W, by omega, by go_num, HW, hxW, hst, Lib.hid (HB2'.out.same (set4_block _ _ _ _ _ _ _ _ (by omega))), Lib.hid (HB1'.out.same (set4_block _ _ _ _ _ _ _ _ (by omega)))⟩
          case measure => simp [intOf]; omega
        · have hdone := hri.done (by have := HLL.out; omega)
          rw [HLL.out] at hdone
          obtain ⟨hO, _⟩ := own_of_copiedL (t := innT bs t) hdone HF.out
          have HO := Lib.hid hO
          have hxW2 := hri.inv.ext
          obtain ⟨b0, b1, b2, b3, _, _, _, _⟩ := HB2.out
          obtain ⟨r0, r1, r2, r3, f0, f1, f2, f3⟩ := HB1.out
          clear hdone hO hri HB2 HB1
          go_wp2_with fail
          refine bodyPost_ret (v := .agg #[.int .i64 t.kind, .string t.name, .int .i64 t.n, .slice (some ⟨w.heap.size + 1 + 1 + 1, 0, none⟩) t.args.length t.args.length]) (by simp [results, Try.results95, go_sem, *]) rfl ⟨some ⟨w.heap.size + 1 + 1 + 1, 0, none⟩, t.args.length, ?_, ?_, ?_⟩
          · rw [E.out]; simp only [Tm.val, HAL.out]; rfl
          · rw [E.out]; exact HO.out.answer (r := w.heap.size + 1) (B := w.heap.size) _ _ _ _ (by have := HW.out; omega) (by have := HW.out; omega) rfl
          · exact Chg.ext_of (hxW.trans hxW2) (set4_chg wr (w.heap.size + 1) 0 _ _ _ _ (F := fun x => x = w.heap.size + 1) rfl) (fun b hb => by omega)
    · have hz : decide (0 < t.args.length) = false := decide_eq_false hpos
      have HE : Hid ((innT bs t).args = []) := Lib.hid (List.eq_nil_of_length_eq_zero (by have := HAL.out; omega))
      have HZ : Hid (t.args.length = 0) := Lib.hid (by omega)
      clear hpos
      go_enter Try.func95, Try.ntmps95
      go_wp2_with fail
      go_loopw [48] (fun i wr => i = .int .i64 0 ∧ Hid (Box4 wr (w.heap.size + 1 + 1) (.int .i64 t.kind) (.string t.name) (.int .i64 t.n) (.slice none 0 0)) ∧
        Hid (Box4 wr (w.heap.size + 1) (.int .i64 0) (.string ⟨#[]⟩) (.int .i64 0) (.slice none 0 0)) ∧ Ext w wr) (fun _ _ => 0)
      case atStart => exact ⟨rfl, Lib.hid ⟨by go_simp, by go_simp, by go_simp, by go_simp, by go_simp, by go_simp, by go_simp, by go_simp⟩, Lib.hid ⟨by go_simp, by go_simp, by go_simp, by go_simp, by go_simp, by go_simp, by go_simp, by go_simp⟩, (((Ext.refl w).alloc _).alloc _).alloc _⟩
      case round =>
        obtain ⟨rfl, HB2, HB1, hxr⟩ := hrel
        obtain ⟨b0, b1, b2, b3, _, _, _, _⟩ := HB2.out
        obtain ⟨r0, r1, r2, r3, f0, f1, f2, f3⟩ := HB1.out
        clear HB2 HB1
        go_wp2_with fail
        refine bodyPost_ret (v := .agg #[.int .i64 t.kind, .string t.name, .int .i64 t.n, .slice none 0 0]) (by simp [results, Try.results95, go_sem, *]) rfl ⟨none, 0, ?_, ?_, ?_⟩
        · rw [E.out]; simp only [Tm.val, HAL.out, HZ.out]; rfl
        · rw [E.out]; exact TmOwn.leaf HF.out HE.out _ _ _
        · exact Chg.ext_of hxr (set4_chg wr (w.heap.size + 1) 0 _ _ _ _ (F := fun x => x = w.heap.size + 1) rfl) (fun b hb => by omega)

theorem cop_nil : CopTo [] := fun i hi => absurd hi (by simp)
theorem short_nil : Short [] := fun i hi => absurd hi (by simp)

set_option maxRecDepth 100000 in
set_option maxHeartbeats 1000000 in
theorem copied_any (t : Tm) (A : Option Addr) (c : Nat) (w : World) (ha : allP t) (h : TmAt w t A c) :
    Calls Try.prog 87 #[t.val A c] w (Copied t w) := by
  have HA := Lib.hid ha
  have hx0 := ((Ext.refl w).alloc (.cells #[.int .i64 t.kind, .string t.name, .int .i64 t.n, .slice A t.args.length c] 28)).alloc (.cells #[.int .i64 0, .string ⟨#[]⟩, .int .i64 0, .slice none 0 0] 28)
  clear ha
  go_enter Try.func87, Try.ntmps87
  go_wp2_with fail
  refine (rep_all [] short_nil cop_nil none 0 (by simp) (.map none) t.high t A c _ (Nat.le_refl _) HA.out (h.ext hx0) (.inl ⟨rfl, rfl⟩)).mono ?_
  rintro e1 w1 ⟨A', c', rfl, hO, hx1⟩
  rw [repT_nil] at hO ⊢
  obtain ⟨r0, r1, r2, r3, g0, g1, g2, g3⟩ : Box4 w1 (w.heap.size + 1) (.int .i64 0) (.string ⟨#[]⟩) (.int .i64 0) (.slice none 0 0) := Box4.ext ⟨by go_simp, by go_simp, by go_simp, by go_simp, by go_simp, by go_simp, by go_simp, by go_simp⟩ hx1
  have HO := Lib.hid hO
  clear hO
  go_wp2_with fail
  refine bodyPost_ret (v := t.val A' c') (by simp [results, Try.results87, go_sem, *]) rfl ⟨A', c', rfl, HO.out.answer (r := w.heap.size + 1) (B := w.heap.size) _ _ _ _ (by simp only [heap_size_alloc]; omega) (by simp only [heap_size_alloc]; omega) rfl, ?_⟩
  exact Chg.ext_of (hx0.trans hx1) (set4_chg w1 (w.heap.size + 1) 0 _ _ _ _ (F := fun x => x = w.heap.size + 1) rfl) (fun b hb => by omega)
/-- the binds' terms may be -/
def AllB (bs : List Bd) : Prop := ∀ i (h : i < bs.length), allP bs[i].tm
theorem cop_all {bs : List Bd} (h : AllB bs) : CopTo bs := fun i hi A c w hT => copied_any bs[i].tm A c w (h i hi) hT
theorem rep_any (bs : List Bd) (hn : Short bs) (hb : AllB bs) (LA : Option Addr) (lc : Nat) (ll : bs.length ≤ 1000000) (p : Value) (t : Tm) (A : Option Addr) (c : Nat) (w : World) (ha : allP t) (h : TmAt w t A c) (hp : PArg w bs LA p) :
    Calls Try.prog 95 #[t.val A c, .slice LA bs.length lc, p] w (Copied (repT bs t) w) :=
  rep_all bs hn (cop_all hb) LA lc ll p t.high t A c w (Nat.le_refl _) ha h hp
end Go.Proofs.Ytjmfjeeddnmoaaa

/- bind.Check, grounded, Apply. -/
namespace Go.Proofs.Ytjmfjeeddnmoaaa
open Go.RowKit Go.Maps

theorem exam_yes {bs : List Bd} (hb : bindsB bs = true) (A : Option Addr) (c : Nat) (w : World) (ll : bs.length ≤ 1000000) (h : BdsAt w bs A) :
    Calls Try.prog 85 #[.slice A bs.length c] w fun e w' => e = .returned (.tuple #[.bool (grL bs), .int .i64 0]) ∧ Ext w w' :=
  (examine_any bs A c w ll h).mono fun e w' ⟨he, hx⟩ => ⟨by rw [he, hb]; simp, hx⟩
theorem exam_non {bs : List Bd} (hb : bindsB bs = false) (A : Option Addr) (c : Nat) (w : World) (ll : bs.length ≤ 1000000) (h : BdsAt w bs A) :
    Calls Try.prog 85 #[.slice A bs.length c] w fun e w' => e = .returned (.tuple #[.bool false, .int .i64 1]) ∧ Ext w w' :=
  (examine_any bs A c w ll h).mono fun e w' ⟨he, hx⟩ => ⟨by rw [he, hb]; simp, hx⟩

/-- Check's answer -/
def bindsE (bs : List Bd) : Int := if bindsB bs = true then 0 else 1
theorem bcheck_any (bs : List Bd) (A : Option Addr) (c : Nat) (w : World) (ll : bs.length ≤ 1000000) (h : BdsAt w bs A) :
    Calls Try.prog 41 #[.slice A bs.length c] w fun e w' => e = .returned (.int .i64 (bindsE bs)) ∧ Ext w w' := by
  by_cases hb : bindsB bs = true
  · have E := Lib.hid (show bindsE bs = 0 by unfold bindsE; rw [if_pos hb])
    have HB := Lib.hid hb
    clear hb
    go_enter Try.func41, Try.ntmps41
    go_wp2_with fail
    refine (exam_yes HB.out A c _ ll h).mono ?_
    rintro e1 w1 ⟨rfl, hx1⟩
    go_wp2_with fail
    go_ret
    exact ⟨ret_int E.out.symm, hx1⟩
  · have hb' := not_true hb
    have E := Lib.hid (show bindsE bs = 1 by unfold bindsE; rw [if_neg hb])
    have HB := Lib.hid hb'
    clear hb hb'
    go_enter Try.func41, Try.ntmps41
    go_wp2_with fail
    refine (exam_non HB.out A c _ ll h).mono ?_
    rintro e1 w1 ⟨rfl, hx1⟩
    go_wp2_with fail
    go_ret
    exact ⟨ret_int E.out.symm, hx1⟩
theorem bcheck_yes {bs : List Bd} (hb : bindsB bs = true) (A : Option Addr) (c : Nat) (w : World) (ll : bs.length ≤ 1000000) (h : BdsAt w bs A) :
    Calls Try.prog 41 #[.slice A bs.length c] w fun e w' => e = .returned (.int .i64 0) ∧ Ext w w' :=
  (bcheck_any bs A c w ll h).mono fun e w' ⟨he, hx⟩ => ⟨by rw [he, bindsE, if_pos hb], hx⟩
theorem bcheck_no {bs : List Bd} (hb : bindsB bs = false) (A : Option Addr) (c : Nat) (w : World) (ll : bs.length ≤ 1000000) (h : BdsAt w bs A) :
    Calls Try.prog 41 #[.slice A bs.length c] w fun e w' => e = .returned (.int .i64 1) ∧ Ext w w' :=
  (bcheck_any bs A c w ll h).mono fun e w' ⟨he, hx⟩ => ⟨by rw [he, bindsE, if_neg (by rw [hb]; exact Bool.false_ne_true)], hx⟩
theorem grounded_any (bs : List Bd) (A : Option Addr) (c : Nat) (w : World) (ll : bs.length ≤ 1000000) (h : BdsAt w bs A) :
    Calls Try.prog 97 #[.slice A bs.length c] w fun e w' => e = .returned (.bool (bindsB bs && grL bs)) ∧ Ext w w' := by
  by_cases hb : bindsB bs = true
  · have HB := Lib.hid hb
    clear hb
    cases hg : grL bs
    all_goals
      have HG := Lib.hid hg
      clear hg
      go_enter Try.func97, Try.ntmps97
      go_wp2_with fail
      refine (exam_yes HB.out A c _ ll h).mono ?_
      rintro e1 w1 ⟨rfl, hx1⟩
      rw [HG.out]
      go_wp2_with fail
      go_ret
      exact ⟨by rw [HB.out]; rfl, hx1⟩
  · have hb' := not_true hb
    have HB := Lib.hid hb'
    clear hb hb'
    go_enter Try.func97, Try.ntmps97
    go_wp2_with fail
    refine (exam_non HB.out A c _ ll h).mono ?_
    rintro e1 w1 ⟨rfl, hx1⟩
    go_wp2_with fail
    go_ret
    exact ⟨by rw [HB.out]; rfl, hx1⟩

/-! what binds that may be have -/
theorem okL_may : ∀ (p : Option ByteArray) (bs : List Bd), okL p bs = true → ∀ i (h : i < bs.length), mayB bs[i].tm = true ∧ varB bs[i].name = true
  | _, [], _ => fun i hi => absurd hi (by simp)
  | p, x :: xs, h => by
    rw [okL, Bool.and_eq_true, Bool.and_eq_true, Bool.and_eq_true] at h
    intro i hi
    cases i with
    | zero => exact ⟨h.1.1.1, h.1.1.2⟩
    | succ i => exact okL_may _ xs h.2 i (by simpa using hi)
theorem binds_ok {bs : List Bd} (h : bindsB bs = true) : bs.length ≤ 16 ∧ okL none bs = true ∧ (grL bs = true ∨ crossL bs bs = false) := by
  unfold bindsB at h
  simp only [Bool.and_eq_true, decide_eq_true_eq, Bool.or_eq_true, Bool.not_eq_true'] at h
  exact ⟨h.1.1, h.1.2, h.2⟩
theorem binds_short {bs : List Bd} (h : bindsB bs = true) : Short bs := okL_short _ _ (binds_ok h).2.1
theorem binds_all {bs : List Bd} (h : bindsB bs = true) : AllB bs := fun i hi => may_all (okL_may _ _ (binds_ok h).2.1 i hi).1
theorem binds_len {bs : List Bd} (h : bindsB bs = true) : bs.length ≤ 1000000 := by have := (binds_ok h).1; omega

/-! Apply -/
def applyE (bs : List Bd) (t : Tm) : Int := if (bindsB bs && mayB t) = true then (if mayB (repT bs t) = true then 0 else 2) else 1
def applyT (bs : List Bd) (t : Tm) : Tm := if (bindsB bs && mayB t) = true then (if mayB (repT bs t) = true then repT bs t else noTm) else noTm
def ApplyOut (bs : List Bd) (t : Tm) (w : World) (e : Ending) (w' : World) : Prop :=
  ∃ A c, e = .returned (.tuple #[(applyT bs t).val A c, .int .i64 (applyE bs t)]) ∧ TmOwn w' (applyT bs t) A c (fun k => w.heap.size ≤ k ∧ k < w'.heap.size) ∧ Ext w w'
theorem apply_form {bs : List Bd} {t : Tm} (h : bindsB bs = false ∨ mayB t = false) {w w' : World} (hx : Ext w w') : ApplyOut bs t w (.returned (.tuple #[zeroTm, .int .i64 1])) w' := by
  have hb : ¬ (bindsB bs && mayB t) = true := by rcases h with h | h <;> simp [h]
  unfold ApplyOut applyT applyE
  rw [if_neg hb, if_neg hb]
  exact ⟨none, 0, rfl, TmOwn.leaf noTm_fits rfl _ _ _, hx⟩

set_option maxRecDepth 100000 in
set_option maxHeartbeats 2000000 in
theorem Apply_form (bs : List Bd) (t : Tm) (LA A : Option Addr) (lc c : Nat) (w : World) (hl : bs.length ≤ 1000000) (hL : BdsAt w bs LA) (h : TmAt w t A c) (hr : bindsB bs = false ∨ mayB t = false) :
    Calls Try.prog 49 #[.slice LA bs.length lc, t.val A c] w (ApplyOut bs t w) := by
  have HR := Lib.hid hr
  have hx0 := ((Ext.refl w).alloc (.cells #[.int .i64 t.kind, .string t.name, .int .i64 t.n, .slice A t.args.length c] 28)).alloc (.cells #[.int .i64 0, .string ⟨#[]⟩, .int .i64 0, .slice none 0 0] 28)
  by_cases hb : bindsB bs = true
  · have hm : mayB t = false := by rcases hr with e | e; rw [hb] at e; cases e; exact e
    have HB := Lib.hid hb
    have HM := Lib.hid hm
    clear hb hm hr
    go_enter Try.func49, Try.ntmps49
    go_wp2_with fail
    refine (bcheck_yes HB.out LA lc _ hl (hL.ext hx0)).mono ?_
    rintro e1 w1 ⟨rfl, hx1⟩
    have HB0 : Hid (Box4 w1 w.heap.size (.int .i64 t.kind) (.string t.name) (.int .i64 t.n) (.slice A t.args.length c)) := Lib.hid (Box4.ext ⟨by go_simp, by go_simp, by go_simp, by go_simp, by go_simp, by go_simp, by go_simp, by go_simp⟩ hx1)
    have HB1 : Hid (Box4 w1 (w.heap.size + 1) (.int .i64 0) (.string ⟨#[]⟩) (.int .i64 0) (.slice none 0 0)) := Lib.hid (Box4.ext ⟨by go_simp, by go_simp, by go_simp, by go_simp, by go_simp, by go_simp, by go_simp, by go_simp⟩ hx1)
    obtain ⟨b0, b1, b2, b3, _, _, _, _⟩ := HB0.out
    go_wp2_with fail
    refine (check_no t A c _ (h.ext (hx0.trans hx1)) HM.out).mono ?_
    rintro e2 w2 ⟨rfl, hx2⟩
    obtain ⟨r0, r1, r2, r3, g0, g1, g2, g3⟩ := HB1.out.ext hx2
    clear b0 b1 b2 b3
    go_wp2_with fail
    refine bodyPost_ret (v := .tuple #[zeroTm, .int .i64 1]) (by simp [results, Try.results49, go_sem, *]) rfl (apply_form HR.out ?_)
    exact Chg.ext_of ((hx0.trans hx1).trans hx2) (set4_chg w2 (w.heap.size + 1) 0 _ _ _ _ (F := fun x => x = w.heap.size + 1) rfl) (fun b hb => by omega)
  · have hb' := not_true hb
    have HB := Lib.hid hb'
    clear hb hb' hr
    go_enter Try.func49, Try.ntmps49
    go_wp2_with fail
    refine (bcheck_no HB.out LA lc _ hl (hL.ext hx0)).mono ?_
    rintro e1 w1 ⟨rfl, hx1⟩
    obtain ⟨r0, r1, r2, r3, g0, g1, g2, g3⟩ : Box4 w1 (w.heap.size + 1) (.int .i64 0) (.string ⟨#[]⟩) (.int .i64 0) (.slice none 0 0) := Box4.ext ⟨by go_simp, by go_simp, by go_simp, by go_simp, by go_simp, by go_simp, by go_simp, by go_simp⟩ hx1
    go_wp2_with fail
    refine bodyPost_ret (v := .tuple #[zeroTm, .int .i64 1]) (by simp [results, Try.results49, go_sem, *]) rfl (apply_form HR.out ?_)
    exact Chg.ext_of (hx0.trans hx1) (set4_chg w1 (w.heap.size + 1) 0 _ _ _ _ (F := fun x => x = w.heap.size + 1) rfl) (fun b hb => by omega)

end Go.Proofs.Ytjmfjeeddnmoaaa

/- bind.Apply of what may be. -/
namespace Go.Proofs.Ytjmfjeeddnmoaaa
open Go.RowKit Go.Maps

abbrev zObj : Obj := .cells #[.int .i64 0, .string ⟨#[]⟩, .int .i64 0, .slice none 0 0] 28

section
variable {bs : List Bd} {t : Tm} {LA A : Option Addr} {lc c : Nat} {wi : World}
theorem ap_PA (hL : BdsAt wi bs LA) (hn : Short bs) (ll : bs.length ≤ 1000000) (u : World) (hu : Ext wi u) :
    Calls Try.prog 92 #[.slice LA bs.length lc] u fun e w' => ∃ b, e = .returned (.map (some b)) ∧ PlAt w' b bs bs.length ∧ Ext wi w' :=
  (placesOf_any bs LA lc u (hL.ext hu) hn ll).mono fun _ _ ⟨b, he, hP, _, hx⟩ => ⟨b, he, hP, hu.trans hx⟩
theorem ap_PB (hL : BdsAt wi bs LA) (hn : Short bs) (ll : bs.length ≤ 1000000) (u : World) (hu : Ext (wi.alloc zObj) u) :
    Calls Try.prog 92 #[.slice LA bs.length lc] u fun e w' => ∃ b, e = .returned (.map (some b)) ∧ PlAt w' b bs bs.length ∧ Ext wi w' ∧ Hid (Ext (wi.alloc zObj) w') :=
  (placesOf_any bs LA lc u (hL.ext (((Ext.refl _).alloc _).trans hu)) hn ll).mono fun _ _ ⟨b, he, hP, _, hx⟩ => ⟨b, he, hP, (((Ext.refl _).alloc _).trans hu).trans hx, Lib.hid (hu.trans hx)⟩
theorem ap_RA (hL : BdsAt wi bs LA) (hn : Short bs) (hb : AllB bs) (ll : bs.length ≤ 1000000) (ha : allP t) (h : TmAt wi t A c) (u : World) (b : Nat) (hu : Ext wi u) (hP : PlAt u b bs bs.length) :
    Calls Try.prog 95 #[t.val A c, .slice LA bs.length lc, .map (some b)] u fun e w' => ∃ A' c', e = .returned ((repT bs t).val A' c') ∧ TmOwn w' (repT bs t) A' c' (fun k => wi.heap.size ≤ k ∧ k < w'.heap.size) ∧ Ext wi w' :=
  (rep_any bs hn hb LA lc ll (.map (some b)) t A c u ha (h.ext hu) (.inr ⟨b, rfl, hP, hL.ext hu⟩)).mono fun _ _ ⟨A', c', he, hO, hx⟩ => ⟨A', c', he, hO.weak fun _ hk => ⟨Nat.le_trans hu.size hk.1, hk.2⟩, hu.trans hx⟩
/-- the place was made ahead of it all -/
theorem ap_RB1 (hL : BdsAt wi bs LA) (hn : Short bs) (hb : AllB bs) (ll : bs.length ≤ 1000000) (ha : allP t) (h : TmAt wi t A c) (u : World) (b : Nat) (hu : Hid (Ext (wi.alloc zObj) u)) (hP : PlAt u b bs bs.length) :
    Calls Try.prog 95 #[t.val A c, .slice LA bs.length lc, .map (some b)] u fun e w' => ∃ A' c', e = .returned ((repT bs t).val A' c') ∧ TmOwn w' (repT bs t) A' c' (fun k => wi.heap.size + 1 ≤ k ∧ k < w'.heap.size) ∧ Ext wi w' ∧ Box4 w' wi.heap.size (.int .i64 0) (.string ⟨#[]⟩) (.int .i64 0) (.slice none 0 0) := by
  have hx0 : Ext wi u := ((Ext.refl _).alloc _).trans hu.out
  have hsz : wi.heap.size + 1 ≤ u.heap.size := by have := hu.out.size; simpa using this
  exact (rep_any bs hn hb LA lc ll (.map (some b)) t A c u ha (h.ext hx0) (.inr ⟨b, rfl, hP, hL.ext hx0⟩)).mono fun _ _ ⟨A', c', he, hO, hx⟩ => ⟨A', c', he, hO.weak fun _ hk => ⟨Nat.le_trans hsz hk.1, hk.2⟩, hx0.trans hx, (Box4.new wi _ _ _ _).ext (hu.out.trans hx)⟩
/-- the place was made between -/
theorem ap_RB2 (hL : BdsAt wi bs LA) (hn : Short bs) (hb : AllB bs) (ll : bs.length ≤ 1000000) (ha : allP t) (h : TmAt wi t A c) (u : World) (b : Nat) (hu : Ext wi u) (hP : PlAt u b bs bs.length) :
    Calls Try.prog 95 #[t.val A c, .slice LA bs.length lc, .map (some b)] (u.alloc zObj) fun e w' => ∃ A' c', e = .returned ((repT bs t).val A' c') ∧ TmOwn w' (repT bs t) A' c' (fun k => u.heap.size + 1 ≤ k ∧ k < w'.heap.size) ∧ Ext wi w' ∧ Box4 w' u.heap.size (.int .i64 0) (.string ⟨#[]⟩) (.int .i64 0) (.slice none 0 0) := by
  have hx0 : Ext wi (u.alloc zObj) := hu.alloc _
  exact (rep_any bs hn hb LA lc ll (.map (some b)) t A c _ ha (h.ext hx0) (.inr ⟨b, rfl, hP.ext ((Ext.refl _).alloc _), hL.ext hx0⟩)).mono fun _ _ ⟨A', c', he, hO, hx⟩ => ⟨A', c', he, hO.weak fun _ hk => ⟨by have := hk.1; simp only [heap_size_alloc] at this; exact this, hk.2⟩, hx0.trans hx, (Box4.new u _ _ _ _).ext hx⟩
end

set_option maxRecDepth 100000 in
set_option maxHeartbeats 4000000 in
theorem Apply_may (bs : List Bd) (t : Tm) (LA A : Option Addr) (lc c : Nat) (w : World) (hL : BdsAt w bs LA) (h : TmAt w t A c) (hb : bindsB bs = true) (hm : mayB t = true) :
    Calls Try.prog 49 #[.slice LA bs.length lc, t.val A c] w (ApplyOut bs t w) := by
  have ll := binds_len hb
  have HN := Lib.hid (binds_short hb)
  have HA := Lib.hid (binds_all hb)
  have HT := Lib.hid (may_all hm)
  have HB := Lib.hid hb
  have HM := Lib.hid hm
  have hx0 := ((Ext.refl w).alloc (.cells #[.int .i64 t.kind, .string t.name, .int .i64 t.n, .slice A t.args.length c] 28)).alloc zObj
  clear hb hm
  go_enter Try.func49, Try.ntmps49
  go_wp2_with fail
  refine (bcheck_yes HB.out LA lc _ ll (hL.ext hx0)).mono ?_
  rintro e1 w1 ⟨rfl, hx1⟩
  have HB0 : Hid (Box4 w1 w.heap.size (.int .i64 t.kind) (.string t.name) (.int .i64 t.n) (.slice A t.args.length c)) := Lib.hid (Box4.ext ⟨by go_simp, by go_simp, by go_simp, by go_simp, by go_simp, by go_simp, by go_simp, by go_simp⟩ hx1)
  have HB1 : Hid (Box4 w1 (w.heap.size + 1) (.int .i64 0) (.string ⟨#[]⟩) (.int .i64 0) (.slice none 0 0)) := Lib.hid (Box4.ext ⟨by go_simp, by go_simp, by go_simp, by go_simp, by go_simp, by go_simp, by go_simp, by go_simp⟩ hx1)
  have hx01 := hx0.trans hx1
  obtain ⟨b0, b1, b2, b3, _, _, _, _⟩ := HB0.out
  clear hx1
  go_wp2_with fail
  refine (check_yes t A c _ (h.ext hx01) HM.out).mono ?_
  rintro e2 wi ⟨rfl, hx2⟩
  have hxi := hx01.trans hx2
  have HB0i := Lib.hid (HB0.out.ext hx2)
  have HB1i := Lib.hid (HB1.out.ext hx2)
  have hLi := hL.ext hxi
  have hTi := h.ext hxi
  clear b0 b1 b2 b3 HB0 HB1 hx2 hx01 hx0
  go_upto_region 3 with (fail)
  go_cut [6] (fun p6 wx => ∃ (g : Nat) (A1 : Option Addr) (c1 : Nat), p6 = .pointer (some ⟨g, 0, none⟩) ∧ Hid (wi.heap.size ≤ g ∧ wx.cell? ⟨g, 0, none⟩ = some (.int .i64 (repT bs t).kind) ∧ wx.cell? ⟨g, 1, none⟩ = some (.string (repT bs t).name) ∧
      wx.cell? ⟨g, 2, none⟩ = some (.int .i64 (repT bs t).n) ∧ wx.cell? ⟨g, 3, none⟩ = some (.slice A1 (repT bs t).args.length c1)) ∧ Hid (TmOwn wx (repT bs t) A1 c1 (fun k => wi.heap.size ≤ k ∧ k < wx.heap.size)) ∧ Ext wi wx)
  case first =>
    as_aux_lemma =>
      obtain ⟨n0, n1, n2, n3, _, _, _, _⟩ := HB0i.out
      have rulesI := fun (u : World) (k : Ext wi u) => And.intro (k.cell n0) (And.intro (k.cell n1) (And.intro (k.cell n2) (k.cell n3)))
      have hI0 := Ext.refl wi
      have PA := Lib.hid (fun u hu => ap_PA (lc := lc) hLi HN.out ll u hu)
      have PB := Lib.hid (fun u hu => ap_PB (lc := lc) hLi HN.out ll u hu)
      have RA := Lib.hid (fun u b hu hP => ap_RA (lc := lc) hLi HN.out HA.out ll HT.out hTi u b hu hP)
      have RB1 := Lib.hid (fun u b hu hP => ap_RB1 (lc := lc) hLi HN.out HA.out ll HT.out hTi u b hu hP)
      have RB2 := Lib.hid (fun u b hu hP => ap_RB2 (lc := lc) hLi HN.out HA.out ll HT.out hTi u b hu hP)
      clear n0 n1 n2 n3 HB0i HB1i hLi hTi hL h HN HA HT HB HM
      go_region_held3 (fun u => Ext wi u) (first | assumption | exact hI0.drew | exact Ext.alloc hI0.drew _ | exact (Ext.alloc hI0 _).drew | exact hS4 | exact Ext.alloc hS3 _ | exact Ext.alloc hS4 _ | exact (Ext.setCell (Ext.setCell (Ext.setCell (Ext.setCell hS4 (by first | exact Nat.le_refl _ | exact hS3.size) _) (by first | exact Nat.le_refl _ | exact hS3.size) _) (by first | exact Nat.le_refl _ | exact hS3.size) _) (by first | exact Nat.le_refl _ | exact hS3.size) _))
        (first
          | (go_at_call 92; refine (PB.out _ ?_).mono ?_; (first | exact Ext.refl _ | exact (Ext.refl _).drew); rintro e3 w3 ⟨b, rfl, hP, hS3, hAl⟩)
          | (go_at_call 92; refine (PA.out _ (by assumption)).mono ?_; rintro e3 w3 ⟨b, rfl, hP, hS3⟩)
          | (go_at_call 95; refine (RB2.out _ _ hS3 hP).mono ?_; rintro e5 w4 ⟨A1, c1, rfl, hO5, hS4, y0, y1, y2, y3, z0, z1, z2, z3⟩)
          | (go_at_call 95; refine (RB1.out _ _ hAl hP).mono ?_; rintro e5 w4 ⟨A1, c1, rfl, hO5, hS4, y0, y1, y2, y3, z0, z1, z2, z3⟩)
          | (go_at_call 95; refine (RA.out _ _ hS3 hP).mono ?_; rintro e5 w4 ⟨A1, c1, rfl, hO5, hS4⟩))
      · have hsz := hS4.size
        go_wp2_with fail
        go_meet
        refine ⟨w4.heap.size, A1, c1, rfl, Lib.hid ⟨hsz, by go_simp, by go_simp, by go_simp, by go_simp⟩, Lib.hid ((hO5.ext ((Ext.refl _).alloc _)).weak fun k hk => ⟨hk.1, ?_⟩), hS4.alloc _⟩
        simp only [heap_size_alloc]; omega
      · have hs3 := hS3.size
        have HC := Lib.hid (set4_cells (o := 0) (.int .i64 (repT bs t).kind) (.string (repT bs t).name) (.int .i64 (repT bs t).n) (.slice A1 (repT bs t).args.length c1) y0 y1 y2 y3)
        go_wp2_with fail
        go_meet
        refine ⟨w3.heap.size, A1, c1, rfl, Lib.hid ⟨hs3, HC.out⟩, Lib.hid ((hO5.keep fun k hk _ => set4_block w4 w3.heap.size 0 _ _ _ _ k (by omega)).weak fun k hk => ⟨by omega, ?_⟩), Chg.ext_of hS4 (set4_chg w4 w3.heap.size 0 _ _ _ _ (F := fun x => x = w3.heap.size) rfl) (fun b hb => by omega)⟩
        have := set4_size w4 w3.heap.size 0 (.int .i64 (repT bs t).kind) (.string (repT bs t).name) (.int .i64 (repT bs t).n) (.slice A1 (repT bs t).args.length c1)
        exact Nat.lt_of_lt_of_eq hk.2 this.symm
      · have HC := Lib.hid (set4_cells (o := 0) (.int .i64 (repT bs t).kind) (.string (repT bs t).name) (.int .i64 (repT bs t).n) (.slice A1 (repT bs t).args.length c1) y0 y1 y2 y3)
        go_wp2_with fail
        go_meet
        refine ⟨wi.heap.size, A1, c1, rfl, Lib.hid ⟨Nat.le_refl _, HC.out⟩, Lib.hid ((hO5.keep fun k hk _ => set4_block w4 wi.heap.size 0 _ _ _ _ k (by omega)).weak fun k hk => ⟨by omega, ?_⟩), Chg.ext_of hS4 (set4_chg w4 wi.heap.size 0 _ _ _ _ (F := fun x => x = wi.heap.size) rfl) (fun b hb => by omega)⟩
        have := set4_size w4 wi.heap.size 0 (.int .i64 (repT bs t).kind) (.string (repT bs t).name) (.int .i64 (repT bs t).n) (.slice A1 (repT bs t).args.length c1)
        exact Nat.lt_of_lt_of_eq hk.2 this.symm
  case rest =>
    as_aux_lemma =>
      obtain ⟨g, A1, c1, rfl, HG, HO, hxg⟩ := hcut
      obtain ⟨wx, rfl⟩ : ∃ wx : World, wx = wc := ⟨_, rfl⟩
      obtain ⟨hgi, n0, n1, n2, n3⟩ := HG.out
      have hTx := HO.out.at_
      have HBM : Hid ((bindsB bs && mayB t) = true) := Lib.hid (by rw [HB.out, HM.out]; rfl)
      have hsz : Hid (w.heap.size + 1 < wi.heap.size) := Lib.hid HB1i.out.lt
      clear HB HM HA HN HT hLi hTi hL h HB0i
      by_cases hr : mayB (repT bs t) = true
      · have R := Lib.hid hr
        clear hr
        go_wp2_with fail
        refine (check_yes (repT bs t) A1 c1 _ hTx R.out).mono ?_
        rintro e5 w5 ⟨rfl, hx5⟩
        have m0 := hx5.cell n0
        have m1 := hx5.cell n1
        have m2 := hx5.cell n2
        have m3 := hx5.cell n3
        obtain ⟨r0, r1, r2, r3, g0, g1, g2, g3⟩ := HB1i.out.ext (hxg.trans hx5)
        have HO5 := Lib.hid (HO.out.ext hx5)
        clear n0 n1 n2 n3 hTx HG hgi
        go_wp2_with fail
        have ET : Hid (applyT bs t = repT bs t) := Lib.hid (by unfold applyT; rw [if_pos HBM.out, if_pos R.out])
        have EE : Hid (applyE bs t = 0) := Lib.hid (by unfold applyE; rw [if_pos HBM.out, if_pos R.out])
        have hx05 := (hxi.trans hxg).trans hx5
        refine bodyPost_ret (v := .tuple #[(repT bs t).val A1 c1, .int .i64 0]) (by simp [results, Try.results49, go_sem, *]) rfl ⟨A1, c1, by rw [ET.out, EE.out], ?_, Chg.ext_of hx05 (set4_chg w5 (w.heap.size + 1) 0 _ _ _ _ (F := fun x => x = w.heap.size + 1) rfl) (fun b hb => by omega)⟩
        rw [ET.out]
        have hs := hxi.size
        have hs5 := hx5.size
        exact (HO5.out.weak (F' := fun k => wi.heap.size ≤ k ∧ k < w5.heap.size) fun k hk => ⟨hk.1, by omega⟩).answer (r := w.heap.size + 1) (B := w.heap.size) _ _ _ _ hsz.out hs rfl
      · have R := Lib.hid (not_true hr)
        clear hr
        go_wp2_with fail
        refine (check_no (repT bs t) A1 c1 _ hTx R.out).mono ?_
        rintro e5 w5 ⟨rfl, hx5⟩
        obtain ⟨r0, r1, r2, r3, g0, g1, g2, g3⟩ := HB1i.out.ext (hxg.trans hx5)
        clear n0 n1 n2 n3 hTx HG hgi
        go_wp2_with fail
        have ET : Hid (applyT bs t = noTm) := Lib.hid (by unfold applyT; rw [if_pos HBM.out, if_neg (by rw [R.out]; exact Bool.false_ne_true)])
        have EE : Hid (applyE bs t = 2) := Lib.hid (by unfold applyE; rw [if_pos HBM.out, if_neg (by rw [R.out]; exact Bool.false_ne_true)])
        have hx05 := (hxi.trans hxg).trans hx5
        refine bodyPost_ret (v := .tuple #[zeroTm, .int .i64 2]) (by simp [results, Try.results49, go_sem, *]) rfl ⟨none, 0, by rw [ET.out, EE.out]; rfl, ?_, Chg.ext_of hx05 (set4_chg w5 (w.heap.size + 1) 0 _ _ _ _ (F := fun x => x = w.heap.size + 1) rfl) (fun b hb => by omega)⟩
        rw [ET.out]
        exact TmOwn.leaf noTm_fits rfl _ _ _

theorem Apply_all (bs : List Bd) (t : Tm) (LA A : Option Addr) (lc c : Nat) (w : World) (hl : bs.length ≤ 1000000) (hL : BdsAt w bs LA) (h : TmAt w t A c) :
    Calls Try.prog 49 #[.slice LA bs.length lc, t.val A c] w (ApplyOut bs t w) := by
  by_cases hb : bindsB bs = true
  · by_cases hm : mayB t = true
    · exact Apply_may bs t LA A lc c w hL h hb hm
    · exact Apply_form bs t LA A lc c w hl hL h (.inr (not_true hm))
  · exact Apply_form bs t LA A lc c w hl hL h (.inl (not_true hb))
end Go.Proofs.Ytjmfjeeddnmoaaa
