/- Joined: Kof, Plc, Men, Exa, Exm, Exw. -/
import Derived.Test.YtjmfjeeddnmoaaaBd
import Derived.Deep.MidRow
import Derived.Test.YtjmfjeeddnmoaaaWd
import Derived.Test.YtjmfjeeddnmoaaaWg
import Derived.Test.YtjmfjeeddnmoaaaTa
import Derived.Deep.RegionHeld3
import Derived.Test.YtjmfjeeddnmoaaaExt
import Derived.WalkLawsBesides

/- bind.keyOf: a name as a key. -/
namespace Go.Proofs.Ytjmfjeeddnmoaaa
open Go.RowKit

theorem infoKey : (Try.prog.info? 140).map (·.size) = some 17 := by kernel_rfl
/-- a block of a key's cells -/
def BlkK (w : World) (g : Nat) (cs : List Value) : Prop := w.heap[g]? = some (.cells cs.toArray 140 (0, 0))
theorem BlkK.cell {w : World} {g : Nat} {cs : List Value} (h : BlkK w g cs) (o : Nat) : w.cell? ⟨g, o, none⟩ = cs[o]? := by
  unfold BlkK at h
  simp [World.cell?, h]
theorem BlkK.frozen {w : World} {g : Nat} {cs : List Value} (h : BlkK w g cs) (o : Nat) : w.frozen? ⟨g, o, none⟩ = false := by
  unfold BlkK at h
  simp [World.frozen?, h]
theorem BlkK.set {w : World} {g : Nat} {cs : List Value} (h : BlkK w g cs) (o : Nat) (v : Value) : BlkK (w.setCell ⟨g, o, none⟩ v) g (cs.set o v) := by
  unfold BlkK at *
  simp [World.setCell, Array.getElem?_modify, h]
theorem BlkK.far {w : World} {g : Nat} {cs : List Value} (h : BlkK w g cs) {p : Addr} (v : Value) (hne : g ≠ p.block) : BlkK (w.setCell p v) g cs := (Below.heap_setCell _ _ _ _ hne).trans h
theorem BlkK.range {w : World} {g : Nat} {cs : List Value} (h : BlkK w g cs) : w.rangeAt g 0 cs := fun j v hv => by rw [Nat.zero_add, h.cell, hv]
theorem BlkK.there {w : World} {g : Nat} {cs : List Value} (h : BlkK w g cs) : w.there g 0 cs.length := fun j hj => by
  rw [Nat.zero_add, h.cell, h.frozen, List.getElem?_eq_getElem hj]; exact ⟨rfl, rfl⟩

abbrev zero17 : Array Value := #[.int .u8 0, .int .u8 0, .int .u8 0, .int .u8 0, .int .u8 0, .int .u8 0, .int .u8 0, .int .u8 0, .int .u8 0, .int .u8 0, .int .u8 0, .int .u8 0, .int .u8 0, .int .u8 0, .int .u8 0, .int .u8 0, .int .u8 0]
theorem keyCs_zero (s : ByteArray) : keyCs s 0 = [.int .u8 (s.size : Int), .int .u8 0, .int .u8 0, .int .u8 0, .int .u8 0, .int .u8 0, .int .u8 0, .int .u8 0, .int .u8 0, .int .u8 0, .int .u8 0, .int .u8 0, .int .u8 0, .int .u8 0, .int .u8 0, .int .u8 0, .int .u8 0] := rfl
theorem heap_size_alloc (w : World) (o : Obj) : (w.alloc o).heap.size = w.heap.size + 1 := by simp
theorem ext_setCells {w : World} {b : Nat} (vs : List Value) : ∀ (o : Nat) (u : World) (_ : w.heap.size ≤ b), Ext w u → Ext w (u.setCells b o vs) := by
  induction vs with
  | nil => intro o u _ h; exact h
  | cons v r ih => intro o u hb h; exact ih (o + 1) _ hb (h.setCell hb v)

set_option maxRecDepth 100000 in
set_option maxHeartbeats 1000000 in
theorem keyOf_any (s : ByteArray) (w : World) (hs : s.size ≤ 16) :
    Calls Try.prog 130 #[.string s] w fun e w' => e = .returned (keyV s) ∧ Ext w w' := by
  go_enter Try.func130, Try.ntmps130
  go_wp2_with fail
  go_loopw [11] (fun i wr => ∃ (k : Nat), k ≤ s.size ∧ i = .int .i64 k ∧ Hid (BlkK wr (w.heap.size + 1) (keyCs s k)) ∧ Hid (BlkK wr w.heap.size (keyCs ⟨#[]⟩ 0)) ∧ Ext w wr) (fun i _ => s.size - (intOf i).toNat)
  case atStart =>
    refine ⟨0, Nat.zero_le _, rfl, Lib.hid ?_, Lib.hid ?_, ((Ext.refl w).alloc _).alloc _⟩
    · unfold BlkK
      rw [keyCs_zero, ← heap_size_alloc w (.cells zero17 140)]
      exact heap_alloc_new _ _
    · unfold BlkK
      rw [keyCs_zero]
      exact (Below.heap_alloc _ _ _ (by simp)).trans (heap_alloc_new w _)
  case round =>
    obtain ⟨k, hk, rfl, HB, HZ, hx⟩ := hrel
    by_cases hlt : k < s.size
    · have h16 : (k : Int) < 16 := by omega
      have hk0 : (0 : Int) ≤ (k : Int) := by omega
      have hc := HB.out.cell (1 + k)
      rw [List.getElem?_eq_getElem (by rw [keyCs_len]; omega)] at hc
      have hf := HB.out.frozen (1 + k)
      have hset : Hid (BlkK (wr.setCell ⟨w.heap.size + 1, 1 + k, none⟩ (.int .u8 (s[k].toNat : Int))) (w.heap.size + 1) (keyCs s (k + 1))) := Lib.hid (by rw [← keyCs_set s k hlt (by omega)]; exact HB.out.set _ _)
      have hfar : Hid (BlkK (wr.setCell ⟨w.heap.size + 1, 1 + k, none⟩ (.int .u8 (s[k].toNat : Int))) w.heap.size (keyCs ⟨#[]⟩ 0)) := Lib.hid (HZ.out.far _ (by simp))
      go_wp2_with fail
      exact ⟨⟨k + 1, by omega, by go_num, hset, hfar, hx.setCell (by simp) _⟩, by simp [intOf]; omega⟩
    · obtain rfl : k = s.size := by omega
      have hi : (Try.prog.info? 140).map (·.size) = some (keyCs s s.size).length := by rw [keyCs_len]; exact infoKey
      have hth : wr.there w.heap.size 0 (keyCs s s.size).toArray.size := by have := HZ.out.there; rw [keyCs_len] at this; simpa [keyCs_len] using this
      have h1 : (keyCs s s.size).toArray.all (·.oneCell') = true := by simp; exact keyCs_one s s.size
      have hi' : (Try.prog.info? 140).map (·.size) = some (keyCs s s.size).toArray.size := by simpa using hi
      have hrg := HB.out.range
      have hfin : Ext w (wr.setCells w.heap.size 0 (keyCs s s.size)) := ext_setCells _ _ _ (Nat.le_refl _) hx
      have hrs : (wr.setCells w.heap.size 0 (keyCs s s.size)).rangeAt w.heap.size 0 (keyCs s s.size) := World.rangeAt_setCells_same _ _ _ _ (by simpa using hth)
      have hres := run_loadVar_mid (P := Try.prog) _ w.heap.size 0 140 (keyCs s s.size) _ hrs Try.underlying140 rfl hi
      clear HB HZ
      go_wp2_with (first
        | (refine wpList_load_mid (op := ⟨some 21, _, _, _, _, _⟩) rfl 140 (.tmp 3) rfl (w.heap.size + 1) 0 rfl (keyCs s s.size) _ hrg Try.underlying140 rfl hi ?_)
        | (refine wpList_store_mid (op := ⟨none, _, _, _, _, _⟩) rfl 140 (.tmp 2) (.tmp 21) rfl w.heap.size 0 (keyCs s s.size).toArray rfl rfl hth hi' h1 ?_))
      refine bodyPost_ret (v := keyV s) ?_ rfl ⟨rfl, hfin⟩
      simp [results, Try.results130, Act.put, asAddr, hres, keyV]
end Go.Proofs.Ytjmfjeeddnmoaaa

/- bind.placesOf, find: where each bound name stands. -/
namespace Go.Proofs.Ytjmfjeeddnmoaaa
open Go.RowKit Go.Maps

theorem run_makeMapN {P : Program} {t k e : TypeId} (hu : P.underlying t = some (.map k e)) (n : Int) (w : World) : (Instr.makeMap t (some (.int .i64 n))).run P w = .ok (.map (some w.heap.size)) (w.alloc (.map #[] 0)) := by
  simp [Instr.makeMap, run_underlying hu, Result.andThen, asInt]
  rfl

/-- a map of places, of the call's own -/
def Placed (bs : List Bd) (w : World) (e : Ending) (w' : World) : Prop := ∃ b, e = .returned (.map (some b)) ∧ PlAt w' b bs bs.length ∧ w.heap.size ≤ b ∧ Ext w w'

set_option maxRecDepth 100000 in
set_option maxHeartbeats 1000000 in
theorem placesOf_any (bs : List Bd) (A : Option Addr) (c : Nat) (w : World) (h : BdsAt w bs A) (hn : ∀ i (h : i < bs.length), bs[i].name.size ≤ 16) (hl : bs.length ≤ 1000000) :
    Calls Try.prog 92 #[.slice A bs.length c] w (Placed bs w) := by
  have hmm := run_makeMapN Try.underlying105 (bs.length : Int)
  have HN := Lib.hid hn
  clear hn
  go_enter Try.func92, Try.ntmps92
  go_wp2_with fail
  clear hmm
  go_loopw [11] (fun i wr => ∃ (k : Nat), k ≤ bs.length ∧ i = .int .i64 k ∧ PlAt wr w.heap.size bs k ∧ Ext w wr) (fun i _ => bs.length - (intOf i).toNat)
  case atStart => exact ⟨0, Nat.zero_le _, rfl, PlAt.made w bs, (Ext.refl w).alloc _⟩
  case round =>
    obtain ⟨k, hk, rfl, hP, hx⟩ := hrel
    by_cases hlt : k < bs.length
    · obtain ⟨b, o, B, e, rfl, c0, c1, c2, c3, c4, _, _⟩ := (h.ext hx) k hlt
      have hs := HN.out k hlt
      have hlw := hP.lt
      go_wp2_with fail
      refine (keyOf_any bs[k].name _ hs).mono ?_
      rintro e1 w1 ⟨rfl, hx1⟩
      have hxr1 : Ext wr w1 := ((Ext.refl wr).alloc _).trans hx1
      obtain ⟨D, hown, hD⟩ := hP.ext hxr1
      have wfk : (Lit.int .i64 (k : Int)).wf = true := by
        have e1 : IntKind.i64.min = -9223372036854775808 := by decide
        have e2 : IntKind.i64.max = 9223372036854775807 := by decide
        simp only [Lit.wf, e1, e2, Bool.and_eq_true, decide_eq_true_eq]
        omega
      obtain ⟨w2, hrun, hown2, hg2⟩ := hown.update keyedKey Try.underlying105 (by unfold maxLen; omega) (key_key hs) (plainElem_int Try.underlying3 wfk)
      have hP2 := PlAt.put hlt hs hown.isMap hD hown2
      have hx2 : Ext w w2 := Chg.ext_of (hx.trans hxr1) (Chg.of_grown hg2) (fun x e => by subst e; exact Nat.le_refl _)
      clear hown hD hown2 hg2 wfk hP
      go_wp2_with fail
      go_roundw
      case rel => exact ⟨k + 1, by omega, by go_num, hP2, hx2⟩
      case measure => simp [intOf]; omega
    · obtain rfl : k = bs.length := by omega
      have HF : Hid (Placed bs w (.returned (.map (some w.heap.size))) wr) := Lib.hid ⟨_, rfl, hP, Nat.le_refl _, hx⟩
      go_wp2_with fail
      go_ret
      exact HF.out

/-- where a name stands; 0 where it does not -/
def plI (bs : List Bd) (s : ByteArray) : Int := ((plc bs bs.length s).getD 0 : Nat)
def plB (bs : List Bd) (s : ByteArray) : Bool := (plc bs bs.length s).isSome

theorem zeroInt (w : World) : (zeroValue 3).run Try.prog w = .ok (.int .i64 0) w := Try.zeroValue3 w

set_option maxHeartbeats 1000000 in
theorem find_any (bs : List Bd) (b : Nat) (s : ByteArray) (w : World) (h : PlAt w b bs bs.length) (hn : ∀ i (h : i < bs.length), bs[i].name.size ≤ 16) (hs : s.size ≤ 140737488351232) :
    Calls Try.prog 99 #[.map (some b), .string s] w fun e w' => e = .returned (.tuple #[.int .i64 (plI bs s), .bool (plB bs s)]) ∧ Ext w w' := by
  by_cases h16 : s.size ≤ 16
  · go_enter Try.func99, Try.ntmps99
    go_wp2_with fail
    refine (keyOf_any s _ h16).mono ?_
    rintro e1 w1 ⟨rfl, hx1⟩
    obtain ⟨D, hown, hD⟩ := h.ext hx1
    have hwz : (Lit.int .i64 0).wf = true := by decide
    obtain ⟨v, ps, hrun, hv⟩ := hown.look_ok keyedKey Try.underlying105 (zeroInt w1) (plainElem_int Try.underlying3 hwz) (key_key h16)
    obtain ⟨q, rfl, hq, _⟩ := plainElem_int_inv Try.underlying3 hv
    have hd := hD s h16
    have eq : q = plI bs s ∧ Maps.has D (keyL s) = plB bs s := by
      simp only [Prod.mk.injEq] at hq
      have h1 := hq.1
      rw [hd] at h1
      unfold plI plB
      cases hp : plc bs bs.length s with
      | none =>
        rw [hp] at h1 hd
        refine ⟨?_, has_false_of_atKey hd⟩
        simp only [DataW.lit.injEq, Lit.int.injEq, true_and] at h1
        simp [h1]
      | some i =>
        rw [hp] at h1 hd
        refine ⟨?_, has_true_of_atKey hd⟩
        simp only [DataW.lit.injEq, Lit.int.injEq, true_and] at h1
        simp [h1]
    obtain ⟨e2, e3⟩ := eq
    rw [e2, e3] at hrun
    clear hown hD hv hq hd e2 e3 hwz
    go_wp2_with fail
    go_ret2
    exact ⟨rfl, hx1⟩
  · have hno : plc bs bs.length s = none := by
      cases hp : plc bs bs.length s with
      | none => rfl
      | some i =>
        obtain ⟨h1, h2⟩ := plc_some hp
        rw [List.getElem?_eq_getElem h1] at h2
        simp only [Option.map_some, Option.some.injEq] at h2
        have := hn i h1
        rw [h2] at this
        omega
    have HI := Lib.hid (show plI bs s = 0 by unfold plI; rw [hno]; rfl)
    have HB := Lib.hid (show plB bs s = false by unfold plB; rw [hno]; rfl)
    have hgt : 16 < s.size := by omega
    clear hno h16
    go_enter Try.func99, Try.ntmps99
    go_wp2_with fail
    go_ret2
    exact ⟨by rw [HI.out, HB.out]; rfl, Ext.refl _⟩
end Go.Proofs.Ytjmfjeeddnmoaaa

/- bind.mentions: whether a term has a variable that is bound; crossed: whether some bind's has. -/
namespace Go.Proofs.Ytjmfjeeddnmoaaa
open Go.RowKit

mutual
/-- has it a bound variable? -/
def mentT (bs : List Bd) : Tm → Bool
  | ⟨k, s, _, l⟩ => if (k == 1) = true then plB bs s else mentL bs l
def mentL (bs : List Bd) : List Tm → Bool
  | [] => false
  | t :: ts => mentT bs t || mentL bs ts
end
theorem mentT_eq (bs : List Bd) (t : Tm) : mentT bs t = if (t.kind == 1) = true then plB bs t.name else mentL bs t.args := by obtain ⟨k, s, n, l⟩ := t; rw [mentT]
/-- the first one that has, counted from k on; -1: none -/
def mentI (bs : List Bd) : List Tm → Int → Int
  | [], _ => -1
  | t :: ts, k => if mentT bs t = true then k else mentI bs ts (k + 1)
theorem mentI_nn (bs : List Bd) : ∀ (ts : List Tm) (k : Int), 0 ≤ k → decide (0 ≤ mentI bs ts k) = mentL bs ts
  | [], k, _ => by simp [mentI, mentL]
  | t :: ts, k, h => by
    rw [mentI, mentL]
    cases hm : mentT bs t
    · rw [if_neg (by simp), mentI_nn bs ts (k + 1) (by omega), Bool.false_or]
    · rw [if_pos rfl, Bool.true_or]; simp [h]

/-- the names of binds have room in keys -/
def Short (bs : List Bd) : Prop := ∀ i (h : i < bs.length), bs[i].name.size ≤ 16
def MentTo (bs : List Bd) (hh : Nat) : Prop := ∀ (t : Tm) (A : Option Addr) (c b : Nat) (w : World), t.high ≤ hh → TmAt w t A c → PlAt w b bs bs.length →
  Calls Try.prog 91 #[t.val A c, .map (some b)] w fun e w' => e = .returned (.bool (mentT bs t)) ∧ Ext w w'

theorem ment1_any (bs : List Bd) (hh : Nat) (hc : MentTo bs hh) (t : Tm) (A : Option Addr) (c b g : Nat) (w : World) (h0 : t.high ≤ hh) (h : TmAt w t A c) (hp : PlAt w b bs bs.length) (hg : w.cell? ⟨g, 0, none⟩ = some (.map (some b))) :
    Calls Try.prog 129 #[t.val A c, .pointer (some ⟨g, 0, none⟩)] w fun e w' => e = .returned (.bool (mentT bs t)) ∧ Ext w w' := by
  have hlt : g < w.heap.size := World.block_lt_of_cell? w _ hg
  go_enter Try.func129, Try.ntmps129
  go_wp2_with fail
  refine (hc t A c b _ h0 (h.ext ((Ext.refl _).alloc _)) (hp.ext ((Ext.refl _).alloc _))).mono ?_
  rintro e w1 ⟨rfl, hx1⟩
  go_wp2_with fail
  go_ret
  exact ⟨rfl, ((Ext.refl _).alloc _).trans hx1⟩

set_option maxRecDepth 100000 in
set_option maxHeartbeats 1000000 in
theorem mentI_any (bs : List Bd) (hh : Nat) (hc : MentTo bs hh) (ts : List Tm) (A : Option Addr) (c b g : Nat) (w : World) (h0 : highs ts ≤ hh) (ll : ts.length * 56 ≤ 140737488351232) (h : TmsAt w ts A) (hp : PlAt w b bs bs.length) (hg : w.cell? ⟨g, 0, none⟩ = some (.map (some b))) :
    Calls Try.prog 148 #[.slice A ts.length c, .func (.func 129) #[] #[.pointer (some ⟨g, 0, none⟩)]] w fun e w' => e = .returned (.int .i64 (mentI bs ts 0)) ∧ Ext w w' := by
  have H0 : Hid (mentI bs (ts.drop 0) ((0 : Nat) : Int) = mentI bs ts 0) := Lib.hid rfl
  go_enter Try.func148, Try.ntmps148
  go_wp2_with fail
  go_loopw [8] (fun i wr => ∃ (k : Nat), k ≤ ts.length ∧ i = .int .i64 k ∧ Hid (mentI bs (ts.drop k) (k : Int) = mentI bs ts 0) ∧ Ext w wr) (fun i _ => ts.length - (intOf i).toNat)
  case atStart => exact ⟨0, Nat.zero_le _, rfl, H0, Ext.refl _⟩
  case round =>
    obtain ⟨k, hk, rfl, H, hx⟩ := hrel
    by_cases hlt : k < ts.length
    · obtain ⟨b', o, B, e, rfl, c0, c1, c2, c3, hsub⟩ := (h.ext hx).at_ hlt
      have hh1 : ts[k].high ≤ hh := Nat.le_trans (high_le (List.getElem_mem hlt)) h0
      have hg' := hx.cell hg
      have H2 : Hid ((if mentT bs ts[k] = true then (k : Int) else mentI bs (ts.drop (k + 1)) ((k + 1 : Nat) : Int)) = mentI bs ts 0) := by
        have := H.out
        rw [List.drop_eq_getElem_cons hlt, mentI] at this
        exact Lib.hid (by simpa using this)
      clear H H0
      go_wp2_with fail
      refine (ment1_any bs hh hc ts[k] B e b g _ hh1 hsub (hp.ext hx) hg').mono ?_
      rintro e1 w1 ⟨rfl, hx1⟩
      by_cases hm : mentT bs ts[k] = true
      · have H3 := Lib.hid ((if_pos hm).symm.trans H2.out)
        clear H2
        go_wp2_with fail
        go_ret
        exact ⟨ret_int H3.out, hx.trans hx1⟩
      · have hm' := not_true hm
        have H3 := Lib.hid ((if_neg hm).symm.trans H2.out)
        clear H2 hm
        go_wp2_with fail
        go_roundw
        case rel => exact ⟨k + 1, by omega, by go_num, H3, hx.trans hx1⟩
        case measure => simp [intOf]; omega
    · have H3 : Hid (-1 = mentI bs ts 0) := by
        have := H.out
        rw [List.drop_eq_nil_of_le (by omega), mentI] at this
        exact Lib.hid this
      clear H H0
      go_wp2_with fail
      go_ret
      exact ⟨ret_int H3.out, hx⟩
theorem mentC_any (bs : List Bd) (hh : Nat) (hc : MentTo bs hh) (ts : List Tm) (A : Option Addr) (c b g : Nat) (w : World) (h0 : highs ts ≤ hh) (ll : ts.length * 56 ≤ 140737488351232) (h : TmsAt w ts A) (hp : PlAt w b bs bs.length) (hg : w.cell? ⟨g, 0, none⟩ = some (.map (some b))) :
    Calls Try.prog 128 #[.slice A ts.length c, .func (.func 129) #[] #[.pointer (some ⟨g, 0, none⟩)]] w fun e w' => e = .returned (.bool (mentL bs ts)) ∧ Ext w w' := by
  have E := Lib.hid (mentI_nn bs ts 0 (by omega))
  go_enter Try.func128, Try.ntmps128
  go_wp2_with fail
  refine (mentI_any bs hh hc ts A c b g w h0 ll h hp hg).mono ?_
  rintro e1 w1 ⟨rfl, hx1⟩
  go_wp2_with fail
  go_ret
  exact ⟨ret_bool E.out, hx1⟩

set_option maxHeartbeats 1000000 in
theorem ment_all (bs : List Bd) (hs : Short bs) (hh : Nat) : MentTo bs hh := by
  induction hh with
  | zero => intro t A c b w h0; have := high_pos t; omega
  | succ hh ih =>
    intro t A c b w h0 h hp
    have IH := Lib.hid ih
    have HS := Lib.hid hs
    clear ih hs
    have E := Lib.hid (mentT_eq bs t)
    have hnm := h.fits.name
    have hx0 := ((Ext.refl w).alloc (.cells #[.int .i64 t.kind, .string t.name, .int .i64 t.n, .slice A t.args.length c] 28)).alloc (.cells #[.map (some b)] 105)
    by_cases hk : (t.kind == 1) = true
    · have E2 := Lib.hid (E.out.trans (if_pos hk))
      clear E
      go_enter Try.func91, Try.ntmps91
      go_wp2_with fail
      refine (find_any bs b t.name _ (hp.ext hx0) HS.out hnm).mono ?_
      rintro e1 w1 ⟨rfl, hx1⟩
      go_wp2_with fail
      go_ret
      exact ⟨ret_bool E2.out.symm, hx0.trans hx1⟩
    · have E2 := Lib.hid (E.out.trans (if_neg hk))
      have hk' := not_true hk
      have HL : highs t.args ≤ hh := by obtain ⟨k, s, n, l⟩ := t; rw [Tm.high] at h0; simp only; omega
      have hl := h.fits.args
      clear E hk
      go_enter Try.func91, Try.ntmps91
      go_wp2_with fail
      refine (mentC_any bs hh IH.out t.args A c b (w.heap.size + 1) _ HL hl (h.args.ext hx0) (hp.ext hx0) (by go_simp)).mono ?_
      rintro e1 w1 ⟨rfl, hx1⟩
      go_wp2_with fail
      go_ret
      exact ⟨ret_bool E2.out.symm, hx0.trans hx1⟩
end Go.Proofs.Ytjmfjeeddnmoaaa

/- bind.crossed, variable, examine, Check: which binds may be. -/
namespace Go.Proofs.Ytjmfjeeddnmoaaa
open Go.RowKit

/-- some bind's term has a bound variable -/
def crossL (bs : List Bd) : List Bd → Bool
  | [] => false
  | x :: xs => mentT bs x.tm || crossL bs xs
def crossI (bs : List Bd) : List Bd → Int → Int
  | [], _ => -1
  | x :: xs, k => if mentT bs x.tm = true then k else crossI bs xs (k + 1)
theorem crossI_nn (bs : List Bd) : ∀ (xs : List Bd) (k : Int), 0 ≤ k → decide (0 ≤ crossI bs xs k) = crossL bs xs
  | [], k, _ => by simp [crossI, crossL]
  | x :: xs, k, h => by
    rw [crossI, crossL]
    cases hm : mentT bs x.tm
    · rw [if_neg (by simp), crossI_nn bs xs (k + 1) (by omega), Bool.false_or]
    · rw [if_pos rfl, Bool.true_or]; simp [h]

theorem cross1_any (bs : List Bd) (hs : Short bs) (x : Bd) (A : Option Addr) (c b g : Nat) (w : World) (h : TmAt w x.tm A c) (hp : PlAt w b bs bs.length) (hg : w.cell? ⟨g, 0, none⟩ = some (.map (some b))) :
    Calls Try.prog 145 #[x.val A c, .pointer (some ⟨g, 0, none⟩)] w fun e w' => e = .returned (.bool (mentT bs x.tm)) ∧ Ext w w' := by
  have hlt : g < w.heap.size := World.block_lt_of_cell? w _ hg
  go_enter Try.func145, Try.ntmps145
  go_wp2_with fail
  refine (ment_all bs hs x.tm.high x.tm A c b _ (Nat.le_refl _) (h.ext ((Ext.refl _).alloc _)) (hp.ext ((Ext.refl _).alloc _))).mono ?_
  rintro e w1 ⟨rfl, hx1⟩
  go_wp2_with fail
  go_ret
  exact ⟨rfl, ((Ext.refl _).alloc _).trans hx1⟩

set_option maxRecDepth 100000 in
set_option maxHeartbeats 1000000 in
theorem crossI_any (bs : List Bd) (hs : Short bs) (xs : List Bd) (A : Option Addr) (c b g : Nat) (w : World) (ll : xs.length ≤ 1000000) (h : BdsAt w xs A) (hp : PlAt w b bs bs.length) (hg : w.cell? ⟨g, 0, none⟩ = some (.map (some b))) :
    Calls Try.prog 163 #[.slice A xs.length c, .func (.func 145) #[] #[.pointer (some ⟨g, 0, none⟩)]] w fun e w' => e = .returned (.int .i64 (crossI bs xs 0)) ∧ Ext w w' := by
  have H0 : Hid (crossI bs (xs.drop 0) ((0 : Nat) : Int) = crossI bs xs 0) := Lib.hid rfl
  have HS := Lib.hid hs
  clear hs
  go_enter Try.func163, Try.ntmps163
  go_wp2_with fail
  go_loopw [8] (fun i wr => ∃ (k : Nat), k ≤ xs.length ∧ i = .int .i64 k ∧ Hid (crossI bs (xs.drop k) (k : Int) = crossI bs xs 0) ∧ Ext w wr) (fun i _ => xs.length - (intOf i).toNat)
  case atStart => exact ⟨0, Nat.zero_le _, rfl, H0, Ext.refl _⟩
  case round =>
    obtain ⟨k, hk, rfl, H, hx⟩ := hrel
    by_cases hlt : k < xs.length
    · obtain ⟨b', o, B, e, rfl, c0, c1, c2, c3, c4, hsub, _⟩ := (h.ext hx) k hlt
      have hg' := hx.cell hg
      have H2 : Hid ((if mentT bs xs[k].tm = true then (k : Int) else crossI bs (xs.drop (k + 1)) ((k + 1 : Nat) : Int)) = crossI bs xs 0) := by
        have := H.out
        rw [List.drop_eq_getElem_cons hlt, crossI] at this
        exact Lib.hid (by simpa using this)
      clear H H0
      go_wp2_with fail
      refine (cross1_any bs HS.out xs[k] B e b g _ hsub (hp.ext hx) hg').mono ?_
      rintro e1 w1 ⟨rfl, hx1⟩
      by_cases hm : mentT bs xs[k].tm = true
      · have H3 := Lib.hid ((if_pos hm).symm.trans H2.out)
        clear H2
        go_wp2_with fail
        go_ret
        exact ⟨ret_int H3.out, hx.trans hx1⟩
      · have hm' := not_true hm
        have H3 := Lib.hid ((if_neg hm).symm.trans H2.out)
        clear H2 hm
        go_wp2_with fail
        go_roundw
        case rel => exact ⟨k + 1, by omega, by go_num, H3, hx.trans hx1⟩
        case measure => simp [intOf]; omega
    · have H3 : Hid (-1 = crossI bs xs 0) := by
        have := H.out
        rw [List.drop_eq_nil_of_le (by omega), crossI] at this
        exact Lib.hid this
      clear H H0
      go_wp2_with fail
      go_ret
      exact ⟨ret_int H3.out, hx⟩
theorem crossC_any (bs : List Bd) (hs : Short bs) (xs : List Bd) (A : Option Addr) (c b g : Nat) (w : World) (ll : xs.length ≤ 1000000) (h : BdsAt w xs A) (hp : PlAt w b bs bs.length) (hg : w.cell? ⟨g, 0, none⟩ = some (.map (some b))) :
    Calls Try.prog 144 #[.slice A xs.length c, .func (.func 145) #[] #[.pointer (some ⟨g, 0, none⟩)]] w fun e w' => e = .returned (.bool (crossL bs xs)) ∧ Ext w w' := by
  have E := Lib.hid (crossI_nn bs xs 0 (by omega))
  go_enter Try.func144, Try.ntmps144
  go_wp2_with fail
  refine (crossI_any bs hs xs A c b g w ll h hp hg).mono ?_
  rintro e1 w1 ⟨rfl, hx1⟩
  go_wp2_with fail
  go_ret
  exact ⟨ret_bool E.out, hx1⟩
theorem crossed_any (bs : List Bd) (hs : Short bs) (A : Option Addr) (c : Nat) (w : World) (ll : bs.length ≤ 1000000) (h : BdsAt w bs A) :
    Calls Try.prog 122 #[.slice A bs.length c] w fun e w' => e = .returned (.bool (crossL bs bs)) ∧ Ext w w' := by
  have HS := Lib.hid hs
  clear hs
  go_enter Try.func122, Try.ntmps122
  go_wp2_with fail
  refine (placesOf_any bs A c _ h HS.out ll).mono ?_
  rintro e1 w1 ⟨b, rfl, hP, _, hx1⟩
  have hxa := hx1.alloc (.cells #[.map (some b)] 105)
  go_wp2_with fail
  refine (crossC_any bs HS.out bs A c b w1.heap.size _ ll (h.ext hxa) (hP.ext ((Ext.refl _).alloc _)) (by go_simp)).mono ?_
  rintro e2 w2 ⟨rfl, hx2⟩
  go_wp2_with fail
  go_ret
  exact ⟨rfl, hxa.trans hx2⟩

/-- a variable's name? -/
def varTm (s : ByteArray) : Tm := ⟨1, s, 0, []⟩
def varB (s : ByteArray) : Bool := mayB (varTm s)
theorem varTm_at (w : World) (s : ByteArray) (hs : s.size ≤ 140737488351232) : TmAt w (varTm s) none 0 :=
  .mk (varTm s) none 0 (fun _ => none) (fun _ => 0) ⟨by show (Lit.int .i64 1).wf = true; decide, by show (Lit.int .i64 0).wf = true; decide, hs, by simp [varTm]⟩ (Nat.le_refl _) (fun i hi => absurd hi (by simp [varTm])) (fun i hi => absurd hi (by simp [varTm]))
theorem variable_any (s : ByteArray) (w : World) (hs : s.size ≤ 140737488351232) : Calls Try.prog 88 #[.string s] w fun e w' => e = .returned (.bool (varB s)) ∧ Ext w w' := by
  by_cases hv : mayB (varTm s) = true
  · have E := Lib.hid (show varB s = true from hv)
    have hk := Lib.hid (fun u => check_yes (varTm s) none 0 u (varTm_at u s hs) hv)
    clear hv
    go_enter Try.func88, Try.ntmps88
    go_wp2_with fail
    refine (hk.out _).mono ?_
    rintro e1 w1 ⟨rfl, hx1⟩
    go_wp2_with fail
    go_ret
    exact ⟨by rw [E.out]; rfl, hx1⟩
  · have hv' := not_true hv
    have E := Lib.hid (show varB s = false from hv')
    have hk := Lib.hid (fun u => check_no (varTm s) none 0 u (varTm_at u s hs) hv')
    clear hv hv'
    go_enter Try.func88, Try.ntmps88
    go_wp2_with fail
    refine (hk.out _).mono ?_
    rintro e1 w1 ⟨rfl, hx1⟩
    go_wp2_with fail
    go_ret
    exact ⟨by rw [E.out]; rfl, hx1⟩
theorem var_short {s : ByteArray} (h : varB s = true) : s.size ≤ 16 := by
  have hp : plainB (varTm s) = true := (may_all h).plain
  unfold plainB at hp
  simp [varTm] at hp
  unfold wordB at hp
  simp at hp
  omega
end Go.Proofs.Ytjmfjeeddnmoaaa

/- Which binds may be, and whether all their terms are ground: what bind.examine is to tell (its walk is not here yet). -/
namespace Go.Proofs.Ytjmfjeeddnmoaaa
open Go.RowKit

/-- behind the name ahead, if there is one -/
def upB : Option ByteArray → ByteArray → Bool
  | none, _ => true
  | some q, s => Op.bytesLess q.toList s.toList
/-- terms may be, names are variables', and rise -/
def okL (p : Option ByteArray) : List Bd → Bool
  | [] => true
  | x :: xs => (mayB x.tm && varB x.name && upB p x.name) && okL (some x.name) xs
def grL (bs : List Bd) : Bool := bs.all fun x => groundT x.tm
theorem okL_short : ∀ (p : Option ByteArray) (bs : List Bd), okL p bs = true → Short bs
  | _, [], _ => fun i hi => absurd hi (by simp)
  | p, x :: xs, h => by
    rw [okL, Bool.and_eq_true, Bool.and_eq_true, Bool.and_eq_true] at h
    intro i hi
    cases i with
    | zero => exact var_short h.1.1.2
    | succ i => exact okL_short _ xs h.2 i (by simpa using hi)
/-- the name ahead of the k-th bind -/
def ahead (bs : List Bd) (k : Nat) : Option ByteArray := if k = 0 then none else (bs[k - 1]?).map fun x => x.name
/-- what examine tells -/
def bindsB (bs : List Bd) : Bool := decide (bs.length ≤ 16) && okL none bs && (grL bs || !crossL bs bs)

theorem okL_step {bs : List Bd} {k : Nat} (hk : k < bs.length) : okL (ahead bs k) (bs.drop k) =
    ((mayB bs[k].tm && varB bs[k].name && upB (ahead bs k) bs[k].name) && okL (ahead bs (k + 1)) (bs.drop (k + 1))) := by
  rw [List.drop_eq_getElem_cons hk, okL]
  have e : ahead bs (k + 1) = some bs[k].name := by
    unfold ahead
    rw [if_neg (by omega), Nat.add_sub_cancel, List.getElem?_eq_getElem hk]
    rfl
  rw [e]

/-- (are all ground?, the error) -/
def ExamOut (bs : List Bd) (w : World) (e : Ending) (w' : World) : Prop := e = .returned (.tuple #[.bool (bindsB bs && grL bs), .int .i64 (if bindsB bs = true then 0 else 1)]) ∧ Ext w w'

end Go.Proofs.Ytjmfjeeddnmoaaa

/- bind.examine, Check, grounded: which binds may be. -/
namespace Go.Proofs.Ytjmfjeeddnmoaaa
open Go.RowKit

theorem var_yes {s : ByteArray} {w : World} (hs : s.size ≤ 140737488351232) (hv : varB s = true) : Calls Try.prog 88 #[.string s] w fun e w' => e = .returned (.bool true) ∧ Ext w w' :=
  (variable_any s w hs).mono fun _ _ ⟨he, hx⟩ => ⟨by rw [he, hv], hx⟩
theorem var_no {s : ByteArray} {w : World} (hs : s.size ≤ 140737488351232) (hv : varB s = false) : Calls Try.prog 88 #[.string s] w fun e w' => e = .returned (.bool false) ∧ Ext w w' :=
  (variable_any s w hs).mono fun _ _ ⟨he, hx⟩ => ⟨by rw [he, hv], hx⟩

theorem bindsB_no {bs : List Bd} (h : okL none bs = false) : bindsB bs = false := by unfold bindsB; rw [h]; simp
theorem exam_no {bs : List Bd} {w w' : World} (h : bindsB bs = false) (hx : Ext w w') : ExamOut bs w (.returned (.tuple #[.bool false, .int .i64 1])) w' := by
  unfold ExamOut
  rw [h]
  exact ⟨rfl, hx⟩
theorem ahead_succ {bs : List Bd} {j : Nat} (h : j < bs.length) : ahead bs (j + 1) = some bs[j].name := by
  unfold ahead
  rw [if_neg (by omega), Nat.add_sub_cancel, List.getElem?_eq_getElem h]; rfl

set_option maxRecDepth 100000 in
set_option maxHeartbeats 2000000 in
theorem examine_any (bs : List Bd) (A : Option Addr) (c : Nat) (w : World) (ll : bs.length ≤ 1000000) (h : BdsAt w bs A) :
    Calls Try.prog 85 #[.slice A bs.length c] w (ExamOut bs w) := by
  by_cases h16 : bs.length ≤ 16
  · have H16 : decide ((16 : Int) < (bs.length : Int)) = false := decide_eq_false (by omega)
    go_enter Try.func85, Try.ntmps85
    go_wp2_with fail
    go_loopw [4, 14] (fun g i wr => ∃ (k : Nat) (G : Bool), k ≤ bs.length ∧ i = .int .i64 k ∧ g = .bool G ∧ Hid ((G && grL (bs.drop k)) = grL bs) ∧ Hid (okL (ahead bs k) (bs.drop k) = okL none bs) ∧ Ext w wr) (fun _ i _ => bs.length - (intOf i).toNat)
    case atStart => exact ⟨0, true, Nat.zero_le _, rfl, rfl, Lib.hid rfl, Lib.hid rfl, Ext.refl _⟩
    case round =>
      obtain ⟨k, G, hk, rfl, rfl, HG, HO, hx⟩ := hrel
      by_cases hlt : k < bs.length
      · have HO2 : Hid (((mayB bs[k].tm && varB bs[k].name && upB (ahead bs k) bs[k].name) && okL (ahead bs (k + 1)) (bs.drop (k + 1))) = okL none bs) := Lib.hid ((okL_step hlt).symm.trans HO.out)
        have HG2 : Hid ((G && (groundT bs[k].tm && grL (bs.drop (k + 1)))) = grL bs) := Lib.hid (by have := HG.out; rw [List.drop_eq_getElem_cons hlt] at this; exact this)
        clear HO HG
        obtain ⟨b, o, B, e, rfl, c0, c1, c2, c3, c4, hT, hn⟩ := (h.ext hx) k hlt
        have hxa : Ext w (boxB wr bs[k] B e) := hx.alloc _
        by_cases hm : mayB bs[k].tm = true
        · have R := Lib.hid hm
          have hTa := hT.ext ((Ext.refl wr).alloc (.cells #[.string bs[k].name, .int .i64 bs[k].tm.kind, .string bs[k].tm.name, .int .i64 bs[k].tm.n, .slice B bs[k].tm.args.length e] 65))
          clear hm
          go_wp2_with fail
          refine (Ground_yes bs[k].tm B e _ hTa R.out).mono ?_
          rintro e1 w1 ⟨rfl, hx1⟩
          have n0 : w1.cell? ⟨wr.heap.size, 0, none⟩ = some (.string bs[k].name) := hx1.cell (by go_simp)
          have hx01 : Ext w w1 := hxa.trans hx1
          clear c0 c1 c2 c3 c4 hTa hT
          go_wp2_with fail
          have N0 : ∀ p : ExtOf w1, p.to.cell? ⟨wr.heap.size, 0, none⟩ = some (.string bs[k].name) := ext_cell n0
          by_cases hv : varB bs[k].name = true
          · have V := Lib.hid hv
            clear hv
            cases k with
            | zero =>
              refine wp_region_ext (by kernel_rfl) (by kernel_rfl) ?_
              repeat (go_big_quiet_step ((go_at_call 88; exact of_ext (var_yes hn V.out))))
              refine wpQuiet_nil ?_
              refine ext_all ?_
              intro w2 hx2
              have HO3 : Hid (okL (ahead bs 1) (bs.drop 1) = okL none bs) := Lib.hid (by have := HO2.out; rw [R.out, V.out] at this; exact this)
              have hx02 := hx01.trans hx2
              clear N0 n0 HO2
              cases G
              · go_wp2_with fail
                go_roundw
                case rel => exact ⟨1, false, by omega, by go_num, rfl, Lib.hid (by rw [← HG2.out]; simp), HO3, hx02⟩
                case measure => simp [intOf]; omega
              · go_wp2_with fail
                go_roundw
                case rel => exact ⟨1, _, by omega, by go_num, rfl, Lib.hid (by rw [← HG2.out]; simp), HO3, hx02⟩
                case measure => simp [intOf]; omega
            | succ j =>
              have hj : j < bs.length := by omega
              obtain ⟨b', o', B', e', eA, q0, _, _, _, _, _, _⟩ := h j hj
              obtain ⟨rfl, rfl⟩ : b = b' ∧ o = o' := by injection eA with e; injection e with e1 e2; exact ⟨e1, e2⟩
              have N1 : ∀ p : ExtOf w1, p.to.cell? ⟨b, o + j * 5, none⟩ = some (.string bs[j].name) := ext_cell (hx01.cell q0)
              clear eA q0
              have j0 : (0 : Int) ≤ (j : Int) := Int.natCast_nonneg _
              have j1 : (j : Int) < (bs.length : Int) := by omega
              have hup := ahead_succ hj
              by_cases hu : Op.bytesLess bs[j].name.toList bs[j + 1].name.toList = true
              · have U := Lib.hid hu
                refine wp_region_ext (by kernel_rfl) (by kernel_rfl) ?_
                repeat (go_big_quiet_step ((go_at_call 88; exact of_ext (var_yes hn V.out))))
                refine wpQuiet_nil ?_
                refine ext_all ?_
                intro w2 hx2
                have HO3 : Hid (okL (ahead bs (j + 1 + 1)) (bs.drop (j + 1 + 1)) = okL none bs) := Lib.hid (by have := HO2.out; rw [R.out, V.out, hup, upB, hu] at this; exact this)
                have hx02 := hx01.trans hx2
                clear N0 n0 HO2 N1 hu hup
                cases G
                · go_wp2_with fail
                  go_roundw
                  case rel => exact ⟨j + 1 + 1, false, by omega, by go_num, rfl, Lib.hid (by rw [← HG2.out]; simp), HO3, hx02⟩
                  case measure => simp [intOf]; omega
                · go_wp2_with fail
                  go_roundw
                  case rel => exact ⟨j + 1 + 1, _, by omega, by go_num, rfl, Lib.hid (by rw [← HG2.out]; simp), HO3, hx02⟩
                  case measure => simp [intOf]; omega
              · have hu' := not_true hu
                clear hu
                refine wp_region_ext (by kernel_rfl) (by kernel_rfl) ?_
                repeat (go_big_quiet_step ((go_at_call 88; exact of_ext (var_yes hn V.out))))
                refine wpQuiet_nil ?_
                refine ext_all ?_
                intro w2 hx2
                have hno : Hid (bindsB bs = false) := Lib.hid (bindsB_no (by rw [← HO2.out, hup, upB, hu']; simp))
                clear N0 n0 HO2 N1 hup
                go_wp2_with fail
                go_ret2
                exact exam_no hno.out (hx01.trans hx2)
          · have hv' := not_true hv
            have V := Lib.hid hv'
            clear hv
            refine wp_region_ext (by kernel_rfl) (by kernel_rfl) ?_
            repeat (go_big_quiet_step ((go_at_call 88; exact of_ext (var_no hn V.out))))
            refine wpQuiet_nil ?_
            refine ext_all ?_
            intro w2 hx2
            have hno : Hid (bindsB bs = false) := Lib.hid (bindsB_no (by rw [← HO2.out, hv']; simp))
            clear hv' N0 n0
            go_wp2_with fail
            go_ret2
            exact exam_no hno.out (hx01.trans hx2)
        · have hm' := not_true hm
          have R := Lib.hid hm'
          have hno : Hid (bindsB bs = false) := Lib.hid (bindsB_no (by rw [← HO2.out, hm']; simp))
          have hTa := hT.ext ((Ext.refl wr).alloc (.cells #[.string bs[k].name, .int .i64 bs[k].tm.kind, .string bs[k].tm.name, .int .i64 bs[k].tm.n, .slice B bs[k].tm.args.length e] 65))
          clear hm hm'
          go_wp2_with fail
          refine (Ground_no bs[k].tm B e _ hTa R.out).mono ?_
          rintro e1 w1 ⟨rfl, hx1⟩
          clear c0 c1 c2 c3 c4
          go_wp2_with fail
          go_quiet (fail)
          go_wp2_with fail
          go_ret2
          exact exam_no hno.out ((hxa.trans hx1).trans ((Ext.refl _).drewN _))
      · have hg : Hid (G = grL bs) := Lib.hid (by have := HG.out; rw [List.drop_eq_nil_of_le (by omega)] at this; simpa [grL] using this)
        have ho : Hid (okL none bs = true) := Lib.hid (by have := HO.out; rw [List.drop_eq_nil_of_le (by omega)] at this; exact this.symm)
        clear HG HO
        cases G
        · have hgr : Hid (grL bs = false) := Lib.hid hg.out.symm
          go_wp2_with fail
          refine (crossed_any bs (okL_short _ _ ho.out) A c _ ll (h.ext hx)).mono ?_
          rintro e1 w1 ⟨rfl, hx1⟩
          by_cases hc : crossL bs bs = true
          · have hno : Hid (bindsB bs = false) := Lib.hid (by unfold bindsB; rw [hgr.out, hc]; simp)
            go_wp2_with fail
            go_ret2
            exact exam_no hno.out (hx.trans hx1)
          · have hc' := not_true hc
            have hyes : Hid (bindsB bs = true) := Lib.hid (by unfold bindsB; rw [hgr.out, hc', ho.out]; simp; omega)
            clear hc
            go_wp2_with fail
            go_ret2
            unfold ExamOut
            rw [hyes.out, hgr.out]
            exact ⟨rfl, hx.trans hx1⟩
        · have hyes : Hid (bindsB bs = true) := Lib.hid (by unfold bindsB; rw [← hg.out, ho.out]; simp; omega)
          go_wp2_with fail
          go_ret2
          unfold ExamOut
          rw [hyes.out, ← hg.out]
          exact ⟨rfl, hx⟩
  · have hno : Hid (bindsB bs = false) := Lib.hid (by unfold bindsB; simp; omega)
    have H16 : decide ((16 : Int) < (bs.length : Int)) = true := decide_eq_true (by omega)
    go_enter Try.func85, Try.ntmps85
    go_wp2_with fail
    go_ret2
    exact exam_no hno.out (Ext.refl _)
end Go.Proofs.Ytjmfjeeddnmoaaa
