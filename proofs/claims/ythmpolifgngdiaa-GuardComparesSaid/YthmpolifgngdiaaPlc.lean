/- bind.placesOf, find: where each bound name stands. -/
import Derived.Test.YthmpolifgngdiaaKof
namespace Go.Proofs.Ythmpolifgngdiaa
open Go.RowKit Go.Maps

theorem run_makeMapN {P : Program} {t k e : TypeId} (hu : P.underlying t = some (.map k e)) (n : Int) (w : World) : (Instr.makeMap t (some (.int .i64 n))).run P w = .ok (.map (some w.heap.size)) (w.alloc (.map #[] 0)) := by
  simp [Instr.makeMap, run_underlying hu, Result.andThen, asInt]
  rfl

/-- a map of places, of the call's own -/
def Placed (bs : List Bd) (w : World) (e : Ending) (w' : World) : Prop := ∃ b, e = .returned (.map (some b)) ∧ PlAt w' b bs bs.length ∧ w.heap.size ≤ b ∧ Ext w w'

set_option maxRecDepth 100000 in
set_option maxHeartbeats 1000000 in
theorem placesOf_any (bs : List Bd) (A : Option Addr) (c : Nat) (w : World) (h : BdsAt w bs A) (hn : ∀ i (h : i < bs.length), bs[i].name.size ≤ 16) (hl : bs.length ≤ 1000000) :
    Calls Try.prog 57 #[.slice A bs.length c] w (Placed bs w) := by
  have hmm := run_makeMapN Try.underlying103 (bs.length : Int)
  have HN := Lib.hid hn
  clear hn
  go_enter Try.func57, Try.ntmps57
  go_wp2_with fail
  clear hmm
  go_loopw [11] (fun i wr => ∃ (k : Nat), k ≤ bs.length ∧ i = .int .i64 k ∧ PlAt wr w.heap.size bs k ∧ Ext w wr) (fun i _ => bs.length - (intOf i).toNat)
  case atStart => exact ⟨0, Nat.zero_le _, rfl, PlAt.made w bs, (Ext.refl w).alloc _⟩
  case round =>
    obtain ⟨k, hk, rfl, hP, hx⟩ := hrel
    by_cases hlt : k < bs.length
    · obtain ⟨b, o, B, e, rfl, c0, c1, c2, c3, c4, _, _⟩ := (h.ext hx) k hlt
      have hs := HN.out k hlt
      have hlw := hP.lt
      go_wp2_with fail
      refine (keyOf_any bs[k].name _ hs).mono ?_
      rintro e1 w1 ⟨rfl, hx1⟩
      have hxr1 : Ext wr w1 := ((Ext.refl wr).alloc _).trans hx1
      obtain ⟨D, hown, hD⟩ := hP.ext hxr1
      have wfk : (Lit.int .i64 (k : Int)).wf = true := by
        have e1 : IntKind.i64.min = -9223372036854775808 := by decide
        have e2 : IntKind.i64.max = 9223372036854775807 := by decide
        simp only [Lit.wf, e1, e2, Bool.and_eq_true, decide_eq_true_eq]
        omega
      obtain ⟨w2, hrun, hown2, hg2⟩ := hown.update keyedKey Try.underlying103 (by unfold maxLen; omega) (key_key hs) (plainElem_int Try.underlying3 wfk)
      have hP2 := PlAt.put hlt hs hown.isMap hD hown2
      have hx2 : Ext w w2 := Chg.ext_of (hx.trans hxr1) (Chg.of_grown hg2) (fun x e => by subst e; exact Nat.le_refl _)
      clear hown hD hown2 hg2 wfk hP
      go_wp2_with fail
      go_roundw
      case rel => exact ⟨k + 1, by omega, by go_num, hP2, hx2⟩
      case measure => simp [intOf]; omega
    · obtain rfl : k = bs.length := by omega
      have HF : Hid (Placed bs w (.returned (.map (some w.heap.size))) wr) := Lib.hid ⟨_, rfl, hP, Nat.le_refl _, hx⟩
      go_wp2_with fail
      go_ret
      exact HF.out

/-- where a name stands; 0 where it does not -/
def plI (bs : List Bd) (s : ByteArray) : Int := ((plc bs bs.length s).getD 0 : Nat)
def plB (bs : List Bd) (s : ByteArray) : Bool := (plc bs bs.length s).isSome

theorem zeroInt (w : World) : (zeroValue 3).run Try.prog w = .ok (.int .i64 0) w := Try.zeroValue3 w

set_option maxHeartbeats 1000000 in
theorem find_any (bs : List Bd) (b : Nat) (s : ByteArray) (w : World) (h : PlAt w b bs bs.length) (hn : ∀ i (h : i < bs.length), bs[i].name.size ≤ 16) (hs : s.size ≤ 140737488351232) :
    Calls Try.prog 70 #[.map (some b), .string s] w fun e w' => e = .returned (.tuple #[.int .i64 (plI bs s), .bool (plB bs s)]) ∧ Ext w w' := by
  by_cases h16 : s.size ≤ 16
  · go_enter Try.func70, Try.ntmps70
    go_wp2_with fail
    refine (keyOf_any s _ h16).mono ?_
    rintro e1 w1 ⟨rfl, hx1⟩
    obtain ⟨D, hown, hD⟩ := h.ext hx1
    have hwz : (Lit.int .i64 0).wf = true := by decide
    obtain ⟨v, ps, hrun, hv⟩ := hown.look_ok keyedKey Try.underlying103 (zeroInt w1) (plainElem_int Try.underlying3 hwz) (key_key h16)
    obtain ⟨q, rfl, hq, _⟩ := plainElem_int_inv Try.underlying3 hv
    have hd := hD s h16
    have eq : q = plI bs s ∧ Maps.has D (keyL s) = plB bs s := by
      simp only [Prod.mk.injEq] at hq
      have h1 := hq.1
      rw [hd] at h1
      unfold plI plB
      cases hp : plc bs bs.length s with
      | none =>
        rw [hp] at h1 hd
        refine ⟨?_, has_false_of_atKey hd⟩
        simp only [DataW.lit.injEq, Lit.int.injEq, true_and] at h1
        simp [h1]
      | some i =>
        rw [hp] at h1 hd
        refine ⟨?_, has_true_of_atKey hd⟩
        simp only [DataW.lit.injEq, Lit.int.injEq, true_and] at h1
        simp [h1]
    obtain ⟨e2, e3⟩ := eq
    rw [e2, e3] at hrun
    clear hown hD hv hq hd e2 e3 hwz
    go_wp2_with fail
    go_ret2
    exact ⟨rfl, hx1⟩
  · have hno : plc bs bs.length s = none := by
      cases hp : plc bs bs.length s with
      | none => rfl
      | some i =>
        obtain ⟨h1, h2⟩ := plc_some hp
        rw [List.getElem?_eq_getElem h1] at h2
        simp only [Option.map_some, Option.some.injEq] at h2
        have := hn i h1
        rw [h2] at this
        omega
    have HI := Lib.hid (show plI bs s = 0 by unfold plI; rw [hno]; rfl)
    have HB := Lib.hid (show plB bs s = false by unfold plB; rw [hno]; rfl)
    have hgt : 16 < s.size := by omega
    clear hno h16
    go_enter Try.func70, Try.ntmps70
    go_wp2_with fail
    go_ret2
    exact ⟨by rw [HI.out, HB.out]; rfl, Ext.refl _⟩
end Go.Proofs.Ythmpolifgngdiaa
