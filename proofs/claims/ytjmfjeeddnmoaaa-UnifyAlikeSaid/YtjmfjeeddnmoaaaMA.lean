/- Joined: Cmp, Sea, Get, Bow, Stl, Set, Stw, Cpb, Mrg, Mrw, Joi. -/
import Derived.Test.YtjmfjeeddnmoaaaMK
import Derived.Lib.Bytealg
import Derived.Deep.LoopGhost
import Derived.Test.YtjmfjeeddnmoaaaMR
import Derived.Test.YtjmfjeeddnmoaaaFil
import Derived.Deep.Slices
import Derived.Test.YtjmfjeeddnmoaaaIns
import Derived.Lib.SliceRun
import Derived.Lib.AppendZeros

/- strings.Compare, and the order of names. -/
namespace Go.Proofs.Ytjmfjeeddnmoaaa
open Go.RowKit

/-- how two names lie -/
def cmpS (a b : ByteArray) : Int := Lib.compareBytes a.data.toList b.data.toList
def ltN (a b : ByteArray) : Bool := Op.bytesLess a.toList b.toList

theorem cmpB_flip : ∀ x y : List UInt8, Lib.compareBytes y x = - Lib.compareBytes x y
  | [], [] => rfl
  | [], _ :: _ => rfl
  | _ :: _, [] => rfl
  | a :: x, b :: y => by
    have := cmpB_flip x y
    simp only [Lib.compareBytes, UInt8.lt_iff_toNat_lt]
    repeat' split
    all_goals omega
theorem cmpB_bd : ∀ x y : List UInt8, -1 ≤ Lib.compareBytes x y ∧ Lib.compareBytes x y ≤ 1
  | [], [] => by simp [Lib.compareBytes]
  | [], _ :: _ => by simp [Lib.compareBytes]
  | _ :: _, [] => by simp [Lib.compareBytes]
  | a :: x, b :: y => by
    have := cmpB_bd x y
    simp only [Lib.compareBytes]
    repeat' split
    all_goals omega
theorem cmpB_eq : ∀ x y : List UInt8, Lib.compareBytes x y = 0 ↔ x = y
  | [], [] => by simp [Lib.compareBytes]
  | [], _ :: _ => by simp [Lib.compareBytes]
  | _ :: _, [] => by simp [Lib.compareBytes]
  | a :: x, b :: y => by
    have ih := cmpB_eq x y
    simp only [Lib.compareBytes, UInt8.lt_iff_toNat_lt, List.cons.injEq, ← ih, ← UInt8.toNat_inj]
    repeat' split
    all_goals omega
theorem cmpB_trans : ∀ x y z : List UInt8, Lib.compareBytes x y < 0 → Lib.compareBytes y z < 0 → Lib.compareBytes x z < 0
  | [], [], _, h, _ => by simp [Lib.compareBytes] at h
  | [], _ :: _, [], _, h => by simp [Lib.compareBytes] at h
  | [], _ :: _, _ :: _, _, _ => by simp [Lib.compareBytes]
  | _ :: _, [], _, h, _ => by simp [Lib.compareBytes] at h
  | _ :: _, _ :: _, [], _, h => by simp [Lib.compareBytes] at h
  | a :: x, b :: y, c :: z, h, k => by
    have ih := cmpB_trans x y z
    simp only [Lib.compareBytes, UInt8.lt_iff_toNat_lt] at *
    repeat' split at h
    all_goals repeat' split at k
    all_goals repeat' split
    all_goals omega
theorem less_cmpB : ∀ x y : List UInt8, Op.bytesLess x y = decide (Lib.compareBytes x y < 0)
  | [], [] => by simp [Op.bytesLess, Lib.compareBytes]
  | [], _ :: _ => by simp [Op.bytesLess, Lib.compareBytes]
  | _ :: _, [] => by simp [Op.bytesLess, Lib.compareBytes]
  | a :: x, b :: y => by
    rw [Op.bytesLess, less_cmpB x y, Lib.compareBytes]
    by_cases h1 : a < b
    · simp [h1]
    · by_cases h2 : b < a
      · have : a ≠ b := fun e => by subst e; exact h1 h2
        simp [h1, h2, this]
      · have : a = b := UInt8.le_antisymm (UInt8.not_lt.1 h2) (UInt8.not_lt.1 h1)
        subst this
        simp [h1]

theorem ltN_cmp (a b : ByteArray) : ltN a b = decide (cmpS a b < 0) := by unfold ltN cmpS; rw [less_cmpB, Lib.toList_data, Lib.toList_data]
theorem cmpS_eq (a b : ByteArray) : cmpS a b = 0 ↔ a = b := by
  unfold cmpS
  rw [cmpB_eq]
  exact ⟨fun h => name_ext h, fun h => by rw [h]⟩
theorem cmpS_flip (a b : ByteArray) : cmpS b a = - cmpS a b := cmpB_flip _ _
theorem cmpS_bd (a b : ByteArray) : -1 ≤ cmpS a b ∧ cmpS a b ≤ 1 := cmpB_bd _ _
theorem cmpS_trans {a b c : ByteArray} : cmpS a b < 0 → cmpS b c < 0 → cmpS a c < 0 := cmpB_trans _ _ _
theorem ltN_trans {a b c : ByteArray} (h : ltN a b = true) (k : ltN b c = true) : ltN a c = true := by
  rw [ltN_cmp, decide_eq_true_eq] at *
  exact cmpS_trans h k

set_option maxRecDepth 100000 in
set_option maxHeartbeats 1000000 in
theorem cmpStr_any (a b : ByteArray) (w : World) :
    Calls Try.prog 146 #[.string a, .string b] w fun e w' => e = .returned (.int .i64 (cmpS a b)) ∧ w = w' := by
  go_enter Try.func146, Try.ntmps146
  go_wp2
  rw [run_callFunc_extern Try.func164 (by kernel_rfl) (by kernel_rfl) (by kernel_rfl) (e := Extern.BytealgCompare.compare) (by kernel_rfl), Lib.run_compareString]
  simp only [Result.andThen]
  rw [Oper.upon_value]
  go_wp2
  go_ret
  exact ⟨rfl, rfl⟩
theorem compare_str (a b : ByteArray) (w : World) :
    Calls Try.prog 125 #[.string a, .string b] w fun e w' => e = .returned (.int .i64 (cmpS a b)) ∧ w = w' := by
  go_enter Try.func125, Try.ntmps125
  go_wp2_with fail
  refine (cmpStr_any _ _ _).mono ?_
  rintro e w' ⟨rfl, rfl⟩
  go_wp2_with fail
  go_ret
  exact ⟨rfl, rfl⟩

/-! binds by rising names -/
def RiseB (bs : List Bd) : Prop := ∀ i j (hj : j < bs.length) (hi : i < j), ltN (bs[i]'(by omega)).name bs[j].name = true
theorem okL_next : ∀ (p : Option ByteArray) (bs : List Bd), okL p bs = true → ∀ i (h : i + 1 < bs.length), ltN bs[i].name bs[i + 1].name = true
  | _, [], _ => fun i hi => absurd hi (by simp)
  | p, x :: xs, h => by
    rw [okL, Bool.and_eq_true] at h
    intro i hi
    cases i with
    | zero =>
      cases xs with
      | nil => simp at hi
      | cons y ys =>
        have := h.2
        rw [okL, Bool.and_eq_true, Bool.and_eq_true] at this
        exact this.1.2
    | succ i => exact okL_next _ xs h.2 i (by simpa using hi)
theorem rise_of {bs : List Bd} (h : ∀ i (h : i + 1 < bs.length), ltN bs[i].name bs[i + 1].name = true) : RiseB bs := by
  intro i j hj hi
  induction j with
  | zero => omega
  | succ j ih =>
    by_cases e : i = j
    · subst e; exact h i hj
    · exact ltN_trans (ih (by omega) (by omega)) (h j hj)
theorem okL_rise {bs : List Bd} {p : Option ByteArray} (h : okL p bs = true) : RiseB bs := rise_of (okL_next p bs h)
theorem RiseB.inj {bs : List Bd} (h : RiseB bs) {i j : Nat} (hi : i < bs.length) (hj : j < bs.length) (e : bs[i].name = bs[j].name) : i = j := by
  have irr : ∀ s : ByteArray, ltN s s = false := fun s => by rw [ltN_cmp]; simp [(cmpS_eq s s).2 rfl]
  rcases Nat.lt_trichotomy i j with hl | hl | hl
  · have := h i j hj hl; rw [e, irr] at this; cases this
  · exact hl
  · have := h j i hi hl; rw [e, irr] at this; cases this

/-- where a name stands, or would stand -/
structure SeaAt (bs : List Bd) (s : ByteArray) (i : Nat) (f : Bool) : Prop where
  le : i ≤ bs.length
  lo : ∀ q (h : q < bs.length), q < i → cmpS bs[q].name s < 0
  hi : ∀ q (h : q < bs.length), i ≤ q → 0 ≤ cmpS bs[q].name s
  at_ : f = true ↔ ∃ h : i < bs.length, bs[i].name = s
theorem plc_of {bs : List Bd} (hr : RiseB bs) {s : ByteArray} {i : Nat} (hi : i < bs.length) (e : bs[i].name = s) : plc bs bs.length s = some i := by
  cases hp : plc bs bs.length s with
  | none =>
    have := plc_none hp i hi
    rw [List.getElem?_eq_getElem hi] at this
    exact absurd (by simp [e]) this
  | some j =>
    obtain ⟨hj, h2⟩ := plc_some hp
    rw [List.getElem?_eq_getElem hj] at h2
    simp only [Option.map_some, Option.some.injEq] at h2
    rw [hr.inj hi hj (e.trans h2.symm)]
theorem SeaAt.found {bs : List Bd} {s : ByteArray} {i : Nat} (h : SeaAt bs s i true) (hr : RiseB bs) : i < bs.length ∧ plc bs bs.length s = some i := by
  obtain ⟨hi, e⟩ := h.at_.1 rfl
  exact ⟨hi, plc_of hr hi e⟩
theorem SeaAt.missing {bs : List Bd} {s : ByteArray} {i : Nat} (h : SeaAt bs s i false) (hr : RiseB bs) : plc bs bs.length s = none := by
  cases hp : plc bs bs.length s with
  | none => rfl
  | some j =>
    obtain ⟨hj, h2⟩ := plc_some hp
    rw [List.getElem?_eq_getElem hj] at h2
    simp only [Option.map_some, Option.some.injEq] at h2
    have hc : cmpS bs[j].name s = 0 := (cmpS_eq _ _).2 h2
    have hij : i ≤ j := by
      rcases Nat.lt_or_ge j i with hl | hl
      · have := h.lo j hj hl; omega
      · exact hl
    by_cases e : i = j
    · subst e
      exact absurd (h.at_.2 ⟨hj, h2⟩) (by simp)
    · have h1 := hr i j hj (by omega)
      rw [ltN_cmp, decide_eq_true_eq, h2] at h1
      have := h.hi i (by omega) (Nat.le_refl _)
      omega
end Go.Proofs.Ytjmfjeeddnmoaaa

/- bind.search: the binary search for a name. -/
namespace Go.Proofs.Ytjmfjeeddnmoaaa
open Go.RowKit

theorem sea1_any (x : Bd) (s : ByteArray) (A : Option Addr) (c : Nat) (w : World) :
    Calls Try.prog 124 #[x.val A c, .string s] w fun e w' => e = .returned (.int .i64 (cmpS x.name s)) ∧ Ext w w' := by
  go_enter Try.func124, Try.ntmps124
  go_wp2_with fail
  refine (compare_str _ _ _).mono ?_
  rintro e1 w1 ⟨rfl, rfl⟩
  go_wp2_with fail
  go_ret
  exact ⟨rfl, (Ext.refl _).alloc _⟩

def SeaOut (bs : List Bd) (s : ByteArray) (w : World) (e : Ending) (w' : World) : Prop := ∃ (i : Nat) (f : Bool), e = .returned (.tuple #[.int .i64 (i : Int), .bool f]) ∧ SeaAt bs s i f ∧ Ext w w'

set_option maxRecDepth 100000 in
set_option maxHeartbeats 4000000 in
theorem bsearch_any (bs : List Bd) (hr : RiseB bs) (s : ByteArray) (A : Option Addr) (c : Nat) (w : World) (ll : bs.length ≤ 1000000) (h : BdsAt w bs A) :
    Calls Try.prog 123 #[.slice A bs.length c, .string s, .func (.func 124) #[] #[]] w (SeaOut bs s w) := by
  have HR := Lib.hid hr
  clear hr
  go_enter Try.func123, Try.ntmps123
  go_wp2_with fail
  go_loopg [9, 10] bs.length (fun kx s9 s10 wr => ∃ lo hi : Nat, s9 = .int .i64 lo ∧ s10 = .int .i64 hi ∧ lo ≤ hi ∧ hi ≤ bs.length ∧ hi - lo ≤ kx ∧ Ext w wr ∧
    Hid ((∀ q (h : q < bs.length), q < lo → cmpS bs[q].name s < 0) ∧ (∀ q (h : q < bs.length), hi ≤ q → 0 ≤ cmpS bs[q].name s)))
  case atStart => exact ⟨0, bs.length, rfl, rfl, Nat.zero_le _, Nat.le_refl _, by omega, Ext.refl _, Lib.hid ⟨fun q _ hq => absurd hq (Nat.not_lt_zero _), fun q h1 h2 => by omega⟩⟩
  case round =>
    obtain ⟨lo, hi, rfl, rfl, hlh, hin, hg, hx, I⟩ := hrel
    by_cases hlt : lo < hi
    · have hm : (lo + hi) / 2 < bs.length := by omega
      obtain ⟨b, o, B, e, rfl, c0, c1, c2, c3, c4, _, _⟩ := (h.ext hx) ((lo + hi) / 2) hm
      by_cases hyx : cmpS bs[(lo + hi) / 2].name s < 0
      · have I2 : Hid ((∀ q (h : q < bs.length), q < (lo + hi) / 2 + 1 → cmpS bs[q].name s < 0) ∧ (∀ q (h : q < bs.length), hi ≤ q → 0 ≤ cmpS bs[q].name s)) := Lib.hid ⟨fun q hq hl => by
          by_cases e : q = (lo + hi) / 2
          · subst e; exact hyx
          · have := HR.out q ((lo + hi) / 2) hm (by omega)
            rw [ltN_cmp, decide_eq_true_eq] at this
            exact cmpS_trans this hyx, I.out.2⟩
        go_wp2_with fail
        refine (sea1_any bs[(lo + hi) / 2] s B e _).mono ?_
        rintro e1 w1 ⟨rfl, hx1⟩
        go_wp2_with fail
        go_roundg (hi - ((lo + hi) / 2 + 1))
        case measure => omega
        case rel => exact ⟨(lo + hi) / 2 + 1, hi, by rw [show ((lo : Int) + (hi : Int)) / 2 + 1 = (((lo + hi) / 2 + 1 : Nat) : Int) by omega], rfl, by omega, hin, Nat.le_refl _, hx.trans hx1, I2⟩
      · have I2 : Hid ((∀ q (h : q < bs.length), q < lo → cmpS bs[q].name s < 0) ∧ (∀ q (h : q < bs.length), (lo + hi) / 2 ≤ q → 0 ≤ cmpS bs[q].name s)) := Lib.hid ⟨I.out.1, fun q hq hl => by
          by_cases e : q = (lo + hi) / 2
          · subst e; omega
          · have := HR.out ((lo + hi) / 2) q hq (by omega)
            rw [ltN_cmp, decide_eq_true_eq] at this
            rcases Int.lt_or_le (cmpS bs[q].name s) 0 with hc | hc
            · exact absurd (cmpS_trans this hc) hyx
            · exact hc⟩
        go_wp2_with fail
        refine (sea1_any bs[(lo + hi) / 2] s B e _).mono ?_
        rintro e1 w1 ⟨rfl, hx1⟩
        go_wp2_with fail
        go_roundg ((lo + hi) / 2 - lo)
        case measure => omega
        case rel => exact ⟨lo, (lo + hi) / 2, rfl, by rw [show ((lo : Int) + (hi : Int)) / 2 = (((lo + hi) / 2 : Nat) : Int) by omega], by omega, by omega, Nat.le_refl _, hx.trans hx1, I2⟩
    · obtain rfl : hi = lo := by omega
      by_cases hn : hi < bs.length
      · obtain ⟨b, o, B, e, rfl, c0, c1, c2, c3, c4, _, _⟩ := (h.ext hx) hi hn
        have S1 : Hid (SeaAt bs s hi (cmpS bs[hi].name s == 0)) := Lib.hid ⟨by omega, I.out.1, I.out.2, ⟨fun h => ⟨hn, (cmpS_eq _ _).1 (by simpa using h)⟩, fun ⟨_, e⟩ => by rw [(cmpS_eq _ _).2 e]; rfl⟩⟩
        go_wp2_with fail
        refine (sea1_any bs[hi] s B e _).mono ?_
        rintro e1 w1 ⟨rfl, hx1⟩
        go_wp2_with fail
        go_ret2
        exact ⟨hi, _, rfl, S1.out, hx.trans hx1⟩
      · have S1 : Hid (SeaAt bs s hi false) := Lib.hid ⟨by omega, I.out.1, I.out.2, ⟨(fun h => by cases h), fun ⟨h, _⟩ => absurd h hn⟩⟩
        go_wp2_with fail
        go_ret2
        exact ⟨hi, false, rfl, S1.out, hx⟩
theorem search_any (bs : List Bd) (hr : RiseB bs) (s : ByteArray) (A : Option Addr) (c : Nat) (w : World) (ll : bs.length ≤ 1000000) (h : BdsAt w bs A) :
    Calls Try.prog 86 #[.slice A bs.length c, .string s] w (SeaOut bs s w) := by
  have HR := Lib.hid hr
  clear hr
  go_enter Try.func86, Try.ntmps86
  go_wp2_with fail
  refine (bsearch_any bs HR.out s A c _ ll h).mono ?_
  rintro e1 w1 ⟨i, f, rfl, hS, hx⟩
  have HS := Lib.hid hS
  clear hS
  go_wp2_with fail
  go_ret2
  exact ⟨i, f, rfl, HS.out, hx⟩
end Go.Proofs.Ytjmfjeeddnmoaaa

/- bind.Get. -/
namespace Go.Proofs.Ytjmfjeeddnmoaaa
open Go.RowKit

def getE (bs : List Bd) (s : ByteArray) : Int := if bindsB bs = true then (if (bdOf bs s).isSome = true then 0 else 3) else 1
def getT (bs : List Bd) (s : ByteArray) : Tm := if bindsB bs = true then (bdOf bs s).getD noTm else noTm
def GetOut (bs : List Bd) (s : ByteArray) (w : World) (e : Ending) (w' : World) : Prop :=
  ∃ A c, e = .returned (.tuple #[(getT bs s).val A c, .int .i64 (getE bs s)]) ∧ TmOwn w' (getT bs s) A c (fun k => w.heap.size ≤ k ∧ k < w'.heap.size) ∧ Ext w w'
theorem bdOf_some {bs : List Bd} {s : ByteArray} {i : Nat} (h : i < bs.length) (hp : plc bs bs.length s = some i) : bdOf bs s = some bs[i].tm := by
  rw [bdOf, hp, Option.bind_some, List.getElem?_eq_getElem h]; rfl
theorem bdOf_none {bs : List Bd} {s : ByteArray} (hp : plc bs bs.length s = none) : bdOf bs s = none := by rw [bdOf, hp]; rfl
theorem get_none {bs : List Bd} {s : ByteArray} {k : Int} {w w' : World} (hE : getE bs s = k) (hT : getT bs s = noTm) (hx : Ext w w') : GetOut bs s w (.returned (.tuple #[zeroTm, .int .i64 k])) w' := by
  unfold GetOut
  rw [hE, hT]
  exact ⟨none, 0, rfl, TmOwn.leaf noTm_fits rfl _ _ _, hx⟩

set_option maxRecDepth 100000 in
set_option maxHeartbeats 2000000 in
theorem Get_any (bs : List Bd) (s : ByteArray) (A : Option Addr) (c : Nat) (w : World) (hl : bs.length ≤ 1000000) (h : BdsAt w bs A) :
    Calls Try.prog 42 #[.slice A bs.length c, .string s] w (GetOut bs s w) := by
  have hx0 := (Ext.refl w).alloc zObj
  by_cases hb : bindsB bs = true
  · have HB := Lib.hid hb
    have HRi := Lib.hid (okL_rise (binds_ok hb).2.1)
    have HA := Lib.hid (binds_all hb)
    clear hb
    go_enter Try.func42, Try.ntmps42
    go_wp2_with fail
    refine (bcheck_yes HB.out A c _ hl (h.ext hx0)).mono ?_
    rintro e1 w1 ⟨rfl, hx1⟩
    have hx01 := hx0.trans hx1
    have HB1 : Hid (Box4 w1 w.heap.size (.int .i64 0) (.string ⟨#[]⟩) (.int .i64 0) (.slice none 0 0)) := Lib.hid (Box4.ext ⟨by go_simp, by go_simp, by go_simp, by go_simp, by go_simp, by go_simp, by go_simp, by go_simp⟩ hx1)
    clear hx1
    go_wp2_with fail
    refine (search_any bs HRi.out s A c _ hl (h.ext hx01)).mono ?_
    rintro e2 w2 ⟨i, f, rfl, hS, hx2⟩
    have hx02 := hx01.trans hx2
    have HB2 := Lib.hid (HB1.out.ext hx2)
    cases f with
    | false =>
      have HP := hS.missing HRi.out
      have HE : Hid (getE bs s = 3) := Lib.hid (by unfold getE; rw [if_pos HB.out, bdOf_none HP]; rfl)
      have HT : Hid (getT bs s = noTm) := Lib.hid (by unfold getT; rw [if_pos HB.out, bdOf_none HP]; rfl)
      obtain ⟨r0, r1, r2, r3, g0, g1, g2, g3⟩ := HB2.out
      clear hS HP
      go_wp2_with fail
      refine bodyPost_ret (v := .tuple #[zeroTm, .int .i64 3]) (by simp [results, Try.results42, go_sem, *]) rfl (get_none HE.out HT.out ?_)
      exact Chg.ext_of hx02 (set4_chg w2 w.heap.size 0 _ _ _ _ (F := fun x => x = w.heap.size) rfl) (fun b hb => by omega)
    | true =>
      obtain ⟨hi, HP⟩ := hS.found HRi.out
      have HE : Hid (getE bs s = 0) := Lib.hid (by unfold getE; rw [if_pos HB.out, bdOf_some hi HP]; rfl)
      have HT : Hid (getT bs s = bs[i].tm) := Lib.hid (by unfold getT; rw [if_pos HB.out, bdOf_some hi HP]; rfl)
      have hal := HA.out i hi
      obtain ⟨b, o, B, e, rfl, c0, c1, c2, c3, c4, hTm, _⟩ := (h.ext hx02) i hi
      have i0 : (0 : Int) ≤ (i : Int) := Int.natCast_nonneg _
      have i1 : (i : Int) < (bs.length : Int) := by omega
      clear hS HP
      go_wp2_with fail
      refine (copied_any bs[i].tm B e _ hal hTm).mono ?_
      rintro e3 w3 ⟨A', c', rfl, hO, hx3⟩
      obtain ⟨r0, r1, r2, r3, g0, g1, g2, g3⟩ := HB2.out.ext hx3
      have HO := Lib.hid hO
      have hsz := HB2.out.lt
      clear hO c0 c1 c2 c3 c4
      go_wp2_with fail
      refine bodyPost_ret (v := .tuple #[bs[i].tm.val A' c', .int .i64 0]) (by simp [results, Try.results42, go_sem, *]) rfl ⟨A', c', by rw [HT.out, HE.out], ?_, Chg.ext_of (hx02.trans hx3) (set4_chg w3 w.heap.size 0 _ _ _ _ (F := fun x => x = w.heap.size) rfl) (fun b hb => by omega)⟩
      rw [HT.out]
      exact HO.out.answer (r := w.heap.size) (B := w.heap.size) _ _ _ _ hsz (by omega) rfl
  · have hb' := not_true hb
    have HB := Lib.hid hb'
    have HE : Hid (getE bs s = 1) := Lib.hid (by unfold getE; rw [if_neg hb])
    have HT : Hid (getT bs s = noTm) := Lib.hid (by unfold getT; rw [if_neg hb])
    clear hb hb'
    go_enter Try.func42, Try.ntmps42
    go_wp2_with fail
    refine (bcheck_no HB.out A c _ hl (h.ext hx0)).mono ?_
    rintro e1 w1 ⟨rfl, hx1⟩
    obtain ⟨r0, r1, r2, r3, g0, g1, g2, g3⟩ : Box4 w1 w.heap.size (.int .i64 0) (.string ⟨#[]⟩) (.int .i64 0) (.slice none 0 0) := Box4.ext ⟨by go_simp, by go_simp, by go_simp, by go_simp, by go_simp, by go_simp, by go_simp, by go_simp⟩ hx1
    go_wp2_with fail
    refine bodyPost_ret (v := .tuple #[zeroTm, .int .i64 1]) (by simp [results, Try.results42, go_sem, *]) rfl (get_none HE.out HT.out ?_)
    exact Chg.ext_of (hx0.trans hx1) (set4_chg w1 w.heap.size 0 _ _ _ _ (F := fun x => x = w.heap.size) rfl) (fun b hb => by omega)
end Go.Proofs.Ytjmfjeeddnmoaaa

/- Rows of binds: in memory, of the call's own, filled from the front. -/
namespace Go.Proofs.Ytjmfjeeddnmoaaa
open Go.RowKit

/-- a bind and where its term's arguments lie -/
abbrev BLain := Bd × Option Addr × Nat
def BLain.tl (x : BLain) : Lain := (x.1.tm, x.2.1, x.2.2)
def BLain.cells (x : BLain) : List Value := [.string x.1.name, .int .i64 x.1.tm.kind, .string x.1.tm.name, .int .i64 x.1.tm.n, .slice x.2.1 x.1.tm.args.length x.2.2]
def browCells : List BLain → List Value
  | [] => []
  | x :: r => x.cells ++ browCells r
theorem browCells_len : ∀ xs : List BLain, (browCells xs).length = xs.length * 5
  | [] => rfl
  | x :: r => by rw [browCells, List.length_append, browCells_len r, BLain.cells, List.length_cons]; simp; omega
theorem browCells_app : ∀ xs ys : List BLain, browCells (xs ++ ys) = browCells xs ++ browCells ys
  | [], ys => rfl
  | x :: r, ys => by rw [List.cons_append, browCells, browCells_app r ys, browCells, List.append_assoc]
theorem browCells_one (x : BLain) : browCells [x] = x.cells := by simp [browCells]
theorem browCells_at : ∀ (xs : List BLain) (i j : Nat) (h : i < xs.length), j < 5 → (browCells xs)[i * 5 + j]? = xs[i].cells[j]?
  | x :: r, 0, j, _, hj => by
    rw [browCells, List.getElem?_append_left (by simp [BLain.cells]; omega)]
    simp
  | x :: r, i + 1, j, h, hj => by
    rw [browCells, List.getElem?_append_right (by simp [BLain.cells]; omega)]
    have e : (i + 1) * 5 + j - x.cells.length = i * 5 + j := by simp [BLain.cells]; omega
    rw [e, browCells_at r i j (by simpa using h) hj]
    simp
theorem browCells_take (xs : List BLain) (i : Nat) (h : i ≤ xs.length) : (browCells xs).take (i * 5) = browCells (xs.take i) := by
  have e := browCells_app (xs.take i) (xs.drop i)
  rw [List.take_append_drop] at e
  rw [e, List.take_append_of_le_length (by rw [browCells_len, List.length_take]; omega)]
  exact List.take_of_length_le (by rw [browCells_len, List.length_take]; omega)
theorem browCells_drop (xs : List BLain) (i : Nat) (h : i ≤ xs.length) : (browCells xs).drop (i * 5) = browCells (xs.drop i) := by
  have e := browCells_app (xs.take i) (xs.drop i)
  rw [List.take_append_drop] at e
  have hl : (browCells (xs.take i)).length = i * 5 := by rw [browCells_len, List.length_take]; omega
  rw [e, List.drop_append_of_le_length (by omega), List.drop_eq_nil_of_le (by omega), List.nil_append]
theorem BLain.one (x : BLain) : ∀ u ∈ x.cells, u.oneCell' = true := by
  intro u hu
  simp only [BLain.cells, List.mem_cons, List.not_mem_nil, or_false] at hu
  rcases hu with rfl | rfl | rfl | rfl | rfl <;> rfl
theorem browCells_one' : ∀ xs : List BLain, ∀ u ∈ browCells xs, u.oneCell' = true
  | [], u, h => by cases h
  | x :: r, u, h => by
    rw [browCells, List.mem_append] at h
    exact h.elim (x.one u) (browCells_one' r u)

/-- what lies there, as a list -/
theorem bds_list {w : World} {bs : List Bd} {A : Option Addr} (h : BdsAt w bs A) :
    ∃ xs : List BLain, xs.map (·.1) = bs ∧ (∀ x ∈ xs, TmAt w x.1.tm x.2.1 x.2.2 ∧ x.1.name.size ≤ 140737488351232) ∧ ∀ b o, A = some ⟨b, o, none⟩ → ∀ j u, (browCells xs)[j]? = some u → w.cell? ⟨b, o + j, none⟩ = some u := by
  have each : ∀ i, i < bs.length → ∃ y : BLain, (bs[i]?.map fun x => x) = some y.1 ∧ TmAt w y.1.tm y.2.1 y.2.2 ∧ y.1.name.size ≤ 140737488351232 ∧ ∀ b o, A = some ⟨b, o, none⟩ → ∀ j, j < 5 → w.cell? ⟨b, o + i * 5 + j, none⟩ = y.cells[j]? := by
    intro i hi
    obtain ⟨b, o, B, e, rfl, c0, c1, c2, c3, c4, hT, hn⟩ := h i hi
    refine ⟨(bs[i], B, e), by rw [List.getElem?_eq_getElem hi]; rfl, hT, hn, fun b' o' eA j hj => ?_⟩
    injection eA with eA
    injection eA with e1 e2
    subst e1 e2
    have e5 : j = 0 ∨ j = 1 ∨ j = 2 ∨ j = 3 ∨ j = 4 := by omega
    rcases e5 with rfl | rfl | rfl | rfl | rfl <;> simpa [BLain.cells]
  haveI : Inhabited BLain := ⟨⟨⟨.empty, ⟨0, .empty, 0, []⟩⟩, none, 0⟩⟩
  obtain ⟨f, hf⟩ := Go.Deep.choose_lt (α := BLain) (h := each)
  have hl : ((List.range bs.length).map f).length = bs.length := by simp
  refine ⟨(List.range bs.length).map f, ?_, ?_, ?_⟩
  · apply List.ext_getElem (by simp)
    intro i h1 h2
    have := (hf i h2).1
    rw [List.getElem?_eq_getElem h2] at this
    simp only [Option.map_some, Option.some.injEq] at this
    simp [this]
  · intro x hx
    obtain ⟨i, hi, rfl⟩ := List.mem_map.1 hx
    have := hf i (by simpa using hi)
    exact ⟨this.2.1, this.2.2.1⟩
  · intro b o eA j u hj
    have hlt : j < ((List.range bs.length).map f).length * 5 := by
      rw [← browCells_len]
      exact (List.getElem?_eq_some_iff.1 hj).1
    rw [hl] at hlt
    have e : j = j / 5 * 5 + j % 5 := by omega
    have hi : j / 5 < bs.length := by omega
    rw [e, browCells_at _ (j / 5) (j % 5) (by rw [hl]; exact hi) (by omega)] at hj
    have := (hf (j / 5) hi).2.2.2 b o eA (j % 5) (by omega)
    rw [e, ← Nat.add_assoc, this]
    simpa using hj
/-- what is owned is a slice of binds -/
theorem owned_bds {w : World} {base : Nat} {v : Value} {xs : List BLain} {n : Nat} (h : w.ownsRow base 65 5 v n (browCells xs)) (hx : ∀ x ∈ xs, TmAt w x.1.tm x.2.1 x.2.2 ∧ x.1.name.size ≤ 140737488351232) :
    ∃ A c, v = .slice A xs.length c ∧ xs.length ≤ c ∧ BdsAt w (xs.map (·.1)) A := by
  have hn : xs.length = n := by have := h.1; rw [browCells_len] at this; omega
  subst hn
  rcases h.2 with ⟨rfl, h0⟩ | ⟨g, cap, cur, rfl, _, _, hc, _⟩
  · have e : xs = [] := List.eq_nil_of_length_eq_zero h0
    subst e
    exact ⟨none, 0, rfl, Nat.le_refl _, BdsAt.nil _ _⟩
  · refine ⟨_, cap, rfl, hc, fun i hi => ?_⟩
    have hi' : i < xs.length := by simpa using hi
    have cell : ∀ j, j < 5 → w.cell? ⟨g, 0 + i * 5 + j, none⟩ = xs[i].cells[j]? := fun j hj => by
      rw [show 0 + i * 5 + j = i * 5 + j by omega, h.cellAt (i * 5 + j) (by omega), browCells_at xs i j hi' hj]
    have hm := hx _ (List.getElem_mem hi')
    refine ⟨g, 0, xs[i].2.1, xs[i].2.2, rfl, ?_, ?_, ?_, ?_, ?_, ?_, ?_⟩
    · have := cell 0 (by omega); simpa [BLain.cells] using this
    · have := cell 1 (by omega); simpa [BLain.cells] using this
    · have := cell 2 (by omega); simpa [BLain.cells] using this
    · have := cell 3 (by omega); simpa [BLain.cells] using this
    · have := cell 4 (by omega); simpa [BLain.cells] using this
    · simpa using hm.1
    · simpa using hm.2

/-- binds in blocks of their own -/
structure BdsOwn (w : World) (bs : List Bd) (A : Option Addr) (F : Nat → Prop) (B : Nat → Option Addr) (d : Nat → Nat) (G : Nat → Nat → Prop) : Prop where
  row : ∀ i (h : i < bs.length), ∃ b o, A = some ⟨b, o, none⟩ ∧ w.cell? ⟨b, o + i * 5, none⟩ = some (.string bs[i].name) ∧ w.cell? ⟨b, o + i * 5 + 1, none⟩ = some (.int .i64 bs[i].tm.kind) ∧
    w.cell? ⟨b, o + i * 5 + 2, none⟩ = some (.string bs[i].tm.name) ∧ w.cell? ⟨b, o + i * 5 + 3, none⟩ = some (.int .i64 bs[i].tm.n) ∧ w.cell? ⟨b, o + i * 5 + 4, none⟩ = some (.slice (B i) bs[i].tm.args.length (d i)) ∧ bs[i].name.size ≤ 140737488351232
  sub : ∀ i (h : i < bs.length), TmOwn w bs[i].tm (B i) (d i) (G i)
  own : ∀ b o, A = some ⟨b, o, none⟩ → 0 < bs.length → F b ∧ (∀ i, i < bs.length → ¬ G i b) ∧ ∀ j, j < bs.length * 5 → w.frozen? ⟨b, o + j, none⟩ = false
  inF : ∀ i, i < bs.length → ∀ k, G i k → F k
  apart : ∀ i j, i < bs.length → j < bs.length → i ≠ j → ∀ k, G i k → ¬ G j k
theorem BdsOwn.at_ {w : World} {bs : List Bd} {A : Option Addr} {F : Nat → Prop} {B : Nat → Option Addr} {d : Nat → Nat} {G : Nat → Nat → Prop} (h : BdsOwn w bs A F B d G) : BdsAt w bs A := by
  intro i hi
  obtain ⟨b, o, e, c0, c1, c2, c3, c4, hn⟩ := h.row i hi
  exact ⟨b, o, B i, d i, e, c0, c1, c2, c3, c4, (h.sub i hi).at_, hn⟩

/-! filled from the front -/
def BRowSet (ys : List Value) (zs : List BLain) : Prop := ∀ i (h : i < zs.length) j, j < 5 → ys[i * 5 + j]? = zs[i].cells[j]?
def put5 (ys : List Value) (p : Nat) (c0 c1 c2 c3 c4 : Value) : List Value := ((((ys.set p c0).set (p + 1) c1).set (p + 2) c2).set (p + 3) c3).set (p + 4) c4
theorem BRowSet.step {ys : List Value} {zs : List BLain} (h : BRowSet ys zs) (y : BLain) (hl : zs.length * 5 + 5 ≤ ys.length) : BRowSet (put5 ys (zs.length * 5) (.string y.1.name) (.int .i64 y.1.tm.kind) (.string y.1.tm.name) (.int .i64 y.1.tm.n) (.slice y.2.1 y.1.tm.args.length y.2.2)) (zs ++ [y]) := by
  intro i hi j hj
  by_cases hlt : i < zs.length
  · rw [List.getElem_append_left hlt, ← h i hlt j hj]
    unfold put5
    rw [List.getElem?_set_ne (by omega), List.getElem?_set_ne (by omega), List.getElem?_set_ne (by omega), List.getElem?_set_ne (by omega), List.getElem?_set_ne (by omega)]
  · have e : i = zs.length := by simp at hi; omega
    subst e
    rw [List.getElem_concat_length rfl]
    unfold put5
    have e5 : j = 0 ∨ j = 1 ∨ j = 2 ∨ j = 3 ∨ j = 4 := by omega
    rcases e5 with rfl | rfl | rfl | rfl | rfl <;> simp [List.getElem?_set, BLain.cells] <;> omega
theorem BRowSet.all {ys : List Value} {zs : List BLain} (h : BRowSet ys zs) (hl : ys.length = zs.length * 5) : ys = browCells zs := by
  apply List.ext_getElem?
  intro q
  by_cases hq : q < zs.length * 5
  · have e : q = (q / 5) * 5 + q % 5 := by omega
    rw [e, h (q / 5) (by omega) (q % 5) (by omega), browCells_at zs (q / 5) (q % 5) (by omega) (by omega)]
  · rw [List.getElem?_eq_none (by omega), List.getElem?_eq_none (by rw [browCells_len]; omega)]
def set5 (w : World) (b o : Nat) (v0 v1 v2 v3 v4 : Value) : World := ((((w.setCell ⟨b, o, none⟩ v0).setCell ⟨b, o + 1, none⟩ v1).setCell ⟨b, o + 2, none⟩ v2).setCell ⟨b, o + 3, none⟩ v3).setCell ⟨b, o + 4, none⟩ v4
theorem set5_size (w : World) (b o : Nat) (v0 v1 v2 v3 v4 : Value) : (set5 w b o v0 v1 v2 v3 v4).heap.size = w.heap.size := by simp [set5, World.setCell]
theorem set5_block (w : World) (b o : Nat) (v0 v1 v2 v3 v4 : Value) (k : Nat) (h : k ≠ b) : (set5 w b o v0 v1 v2 v3 v4).heap[k]? = w.heap[k]? := by
  unfold set5
  rw [Below.heap_setCell _ _ _ _ h, Below.heap_setCell _ _ _ _ h, Below.heap_setCell _ _ _ _ h, Below.heap_setCell _ _ _ _ h, Below.heap_setCell _ _ _ _ h]
theorem set5_chg (w : World) (b o : Nat) (v0 v1 v2 v3 v4 : Value) {F : Nat → Prop} (hF : F b) : Chg F w (set5 w b o v0 v1 v2 v3 v4) :=
  ⟨by simp [set5, World.setCell], by simp [set5, World.setCell], by simp [set5, World.setCell], by rw [set5_size]; exact Nat.le_refl _, fun k _ hk => set5_block _ _ _ _ _ _ _ _ _ (fun e => hk (e ▸ hF))⟩
theorem own_put5 {w : World} {base g n cap : Nat} {ys : List Value} (h : w.ownsRow base 65 5 (.slice (some ⟨g, 0, none⟩) n cap) n ys) (p : Nat) (c0 c1 c2 c3 c4 : Value) :
    (set5 w g p c0 c1 c2 c3 c4).ownsRow base 65 5 (.slice (some ⟨g, 0, none⟩) n cap) n (put5 ys p c0 c1 c2 c3 c4) := by
  have h1 := (h.stored p c0).1
  have h2 := (h1.stored (p + 1) c1).1
  have h3 := (h2.stored (p + 2) c2).1
  have h4 := (h3.stored (p + 3) c3).1
  exact (h4.stored (p + 4) c4).1

/-- what filling has come to: us is to lie there -/
structure BFill (W w : World) (us : List Bd) (g : Nat) (k : Nat) (zs : List BLain) (G : Nat → Nat → Prop) (ys : List Value) : Prop where
  len : zs.length = k
  map : zs.map (·.1) = us.take k
  all : ys.length = us.length * 5
  row : BRowSet ys zs
  own : w.ownsRow W.heap.size 65 5 (.slice (some ⟨g, 0, none⟩) us.length us.length) us.length ys
  inv : CopyInv W w (.slice (some ⟨g, 0, none⟩) us.length us.length) (zs.map BLain.tl) G
  names : ∀ z ∈ zs, z.1.name.size ≤ 140737488351232

theorem BFill.store {W w w1 : World} {us : List Bd} {g k : Nat} {zs : List BLain} {G : Nat → Nat → Prop} {ys : List Value} (h : BFill W w us g k zs G ys) (hk : k < us.length) (hg : W.heap.size ≤ g)
    {A : Option Addr} {c : Nat} (hO : TmOwn w1 us[k].tm A c (fun x => w.heap.size ≤ x ∧ x < w1.heap.size)) (hx : Ext w w1) (hn : us[k].name.size ≤ 140737488351232) :
    ∃ G', BFill W (set5 w1 g (k * 5) (.string us[k].name) (.int .i64 us[k].tm.kind) (.string us[k].tm.name) (.int .i64 us[k].tm.n) (.slice A us[k].tm.args.length c)) us g (k + 1) (zs ++ [(us[k], A, c)]) G'
      (put5 ys (k * 5) (.string us[k].name) (.int .i64 us[k].tm.kind) (.string us[k].tm.name) (.int .i64 us[k].tm.n) (.slice A us[k].tm.args.length c)) := by
  have hown1 := ownsRow_ext h.own hx
  have hput := own_put5 hown1 (k * 5) (.string us[k].name) (.int .i64 us[k].tm.kind) (.string us[k].tm.name) (.int .i64 us[k].tm.n) (.slice A us[k].tm.args.length c)
  have he : Ext W (set5 w1 g (k * 5) (.string us[k].name) (.int .i64 us[k].tm.kind) (.string us[k].tm.name) (.int .i64 us[k].tm.n) (.slice A us[k].tm.args.length c)) :=
    Chg.ext_of (h.inv.ext.trans hx) (set5_chg w1 g (k * 5) _ _ _ _ _ (F := fun x => x = g) rfl) (fun b hb => hb ▸ hg)
  have hst := h.inv.step2 (y := BLain.tl (us[k], A, c)) hO hx (fun b _ hne => set5_block w1 g (k * 5) _ _ _ _ _ b (fun e => hne (by rw [e]; rfl))) (set5_size _ _ _ _ _ _ _ _) (fun b hb => h.own.lt b hb) he
  refine ⟨_, by rw [List.length_append, h.len]; rfl, ?_, ?_, ?_, hput, by rw [List.map_append]; exact hst, fun z hz => ?_⟩
  · rw [List.map_append, h.map, List.take_succ_eq_append_getElem hk]; rfl
  · unfold put5; simp [h.all]
  · have := h.row.step (us[k], A, c) (by rw [h.len, h.all]; omega)
    rw [h.len] at this
    exact this
  · rcases List.mem_append.1 hz with hz | hz
    · exact h.names z hz
    · obtain rfl := List.mem_singleton.1 hz
      exact hn
theorem BFill.done {W w : World} {us : List Bd} {g k : Nat} {zs : List BLain} {G : Nat → Nat → Prop} {ys : List Value} (h : BFill W w us g k zs G ys) (hk : us.length ≤ k) :
    BdsOwn w us (some ⟨g, 0, none⟩) (fun x => W.heap.size ≤ x ∧ x < w.heap.size) (fun i => (zs[i]?.map (·.2.1)).getD none) (fun i => (zs[i]?.map (·.2.2)).getD 0) G := by
  have hm : zs.map (·.1) = us := by rw [h.map, List.take_of_length_le hk]
  have hl : zs.length = us.length := by have := congrArg List.length hm; rwa [List.length_map] at this
  have hy : ys = browCells zs := h.row.all (by rw [h.all, hl])
  have hu : ∀ i (hi : i < us.length), zs[i].1 = us[i] := fun i hi => by
    have := congrArg (fun l : List Bd => l[i]?) hm
    simp only [List.getElem?_map, List.getElem?_eq_getElem (show i < zs.length by omega), List.getElem?_eq_getElem hi, Option.map_some, Option.some.injEq] at this
    exact this
  have hlt := h.own.lt g rfl
  refine ⟨fun i hi => ?_, fun i hi => ?_, fun b o e hp => ?_, fun i hi k hk => ?_, fun i j hi hj => h.inv.apart i j (by simp; omega) (by simp; omega)⟩
  · have cell : ∀ j, j < 5 → w.cell? ⟨g, 0 + i * 5 + j, none⟩ = zs[i].cells[j]? := fun j hj => by
      rw [show 0 + i * 5 + j = i * 5 + j by omega, h.own.cellAt (i * 5 + j) (by omega), hy, browCells_at zs i j (by omega) hj]
    have eu := hu i hi
    refine ⟨g, 0, rfl, ?_, ?_, ?_, ?_, ?_, ?_⟩
    · have := cell 0 (by omega); simpa [BLain.cells, eu] using this
    · have := cell 1 (by omega); simpa [BLain.cells, eu] using this
    · have := cell 2 (by omega); simpa [BLain.cells, eu] using this
    · have := cell 3 (by omega); simpa [BLain.cells, eu] using this
    · have := cell 4 (by omega); simpa [BLain.cells, eu, hl, hi] using this
    · rw [← eu]; exact h.names _ (List.getElem_mem _)
  · have := h.inv.sub i (by simp; omega)
    simp only [List.getElem_map, BLain.tl, hu i hi] at this
    simpa [hl, hi] using this
  · injection e with e
    injection e with e1 e2
    subst e1 e2
    exact ⟨hlt, fun i hi hb => (h.inv.inF i (by simp; omega) g hb).2.2 rfl, fun j hj => by rw [Nat.zero_add]; exact h.own.frozenAt j⟩
  · have := h.inv.inF i (by simp; omega) k hk
    exact ⟨this.1, this.2.1⟩
theorem BFill.cells {W w : World} {us : List Bd} {g k : Nat} {zs : List BLain} {G : Nat → Nat → Prop} {ys : List Value} (h : BFill W w us g k zs G ys) (hk : k < us.length) :
    (∃ u, w.cell? ⟨g, k * 5, none⟩ = some u) ∧ (∃ u, w.cell? ⟨g, k * 5 + 1, none⟩ = some u) ∧ (∃ u, w.cell? ⟨g, k * 5 + 2, none⟩ = some u) ∧ (∃ u, w.cell? ⟨g, k * 5 + 3, none⟩ = some u) ∧ (∃ u, w.cell? ⟨g, k * 5 + 4, none⟩ = some u) ∧
    w.frozen? ⟨g, k * 5, none⟩ = false ∧ w.frozen? ⟨g, k * 5 + 1, none⟩ = false ∧ w.frozen? ⟨g, k * 5 + 2, none⟩ = false ∧ w.frozen? ⟨g, k * 5 + 3, none⟩ = false ∧ w.frozen? ⟨g, k * 5 + 4, none⟩ = false ∧ g < w.heap.size := by
  have hy := h.all
  have c := fun j (hj : j < 5) => (h.own.cellAt (k * 5 + j) (by omega)).trans (List.getElem?_eq_getElem (by omega))
  exact ⟨⟨_, c 0 (by omega)⟩, ⟨_, c 1 (by omega)⟩, ⟨_, c 2 (by omega)⟩, ⟨_, c 3 (by omega)⟩, ⟨_, c 4 (by omega)⟩,
    h.own.frozenAt _, h.own.frozenAt _, h.own.frozenAt _, h.own.frozenAt _, h.own.frozenAt _, (h.own.lt g rfl).2⟩
theorem BFill.start {W : World} (us : List Bd) {n : Nat} (hn : us.length = n) {g : Nat} (cs : Array Value) (hW : W.heap.size = g) (hc : cs.size = n * 5) (hm : n ≤ maxLen) :
    BFill W (W.alloc (.cells cs 65)) us g 0 [] (fun _ _ => False) cs.toList := by
  subst hW hn
  exact ⟨rfl, by simp, by simp [hc], fun i hi => absurd hi (by simp), World.ownsRow_lit W cs us.length (Nat.le_refl _) hm hc, ⟨fun i hi => absurd hi (by simp), fun i hi => absurd hi (by simp), fun i j hi => absurd hi (by simp), (Ext.refl _).alloc _⟩, fun z hz => absurd hz (by simp)⟩
end Go.Proofs.Ytjmfjeeddnmoaaa

/- bind.settled: one bind put into all terms. -/
namespace Go.Proofs.Ytjmfjeeddnmoaaa
open Go.RowKit Go.Maps

/-- one bind put into the others -/
def stlL (x : Bd) (bs : List Bd) : List Bd := bs.map fun b => ⟨b.name, repT [x] b.tm⟩
theorem stlL_len (x : Bd) (bs : List Bd) : (stlL x bs).length = bs.length := by unfold stlL; simp
theorem stlL_at (x : Bd) (bs : List Bd) (k : Nat) (h : k < bs.length) : (stlL x bs)[k]'(by rw [stlL_len]; exact h) = ⟨bs[k].name, repT [x] bs[k].tm⟩ := by unfold stlL; simp
/-- may all their terms be? -/
def mayL (bs : List Bd) : Bool := bs.all fun x => mayB x.tm
def StlOut (us : List Bd) (w : World) (e : Ending) (w' : World) : Prop :=
  Ext w w' ∧ ((mayL us = true ∧ ∃ A c B d G, e = .returned (.tuple #[.slice A us.length c, .int .i64 0]) ∧ us.length ≤ c ∧ BdsOwn w' us A (fun k => w.heap.size ≤ k ∧ k < w'.heap.size) B d G) ∨
    (mayL us = false ∧ e = .returned (.tuple #[.slice none 0 0, .int .i64 2])))

theorem set5_cells {w : World} {b o : Nat} {u0 u1 u2 u3 u4 : Value} (v0 v1 v2 v3 v4 : Value) (h0 : w.cell? ⟨b, o, none⟩ = some u0) (h1 : w.cell? ⟨b, o + 1, none⟩ = some u1) (h2 : w.cell? ⟨b, o + 2, none⟩ = some u2) (h3 : w.cell? ⟨b, o + 3, none⟩ = some u3) (h4 : w.cell? ⟨b, o + 4, none⟩ = some u4) :
    (set5 w b o v0 v1 v2 v3 v4).cell? ⟨b, o, none⟩ = some v0 ∧ (set5 w b o v0 v1 v2 v3 v4).cell? ⟨b, o + 1, none⟩ = some v1 ∧ (set5 w b o v0 v1 v2 v3 v4).cell? ⟨b, o + 2, none⟩ = some v2 ∧ (set5 w b o v0 v1 v2 v3 v4).cell? ⟨b, o + 3, none⟩ = some v3 ∧ (set5 w b o v0 v1 v2 v3 v4).cell? ⟨b, o + 4, none⟩ = some v4 := by
  unfold set5
  refine ⟨?_, ?_, ?_, ?_, ?_⟩ <;> go_simp
theorem set5_far {w : World} {b o x q : Nat} {v0 v1 v2 v3 v4 u : Value} (h : w.cell? ⟨x, q, none⟩ = some u) (hne : b ≠ x) : (set5 w b o v0 v1 v2 v3 v4).cell? ⟨x, q, none⟩ = some u :=
  cell_same (set5_block w b o v0 v1 v2 v3 v4 x (Ne.symm hne)) h

theorem CopyInv.ext' {W w w' : World} {v : Value} {xs : List Lain} {G : Nat → Nat → Prop} (h : CopyInv W w v xs G) (k : Ext w w') : CopyInv W w' v xs G :=
  ⟨fun i hi => (h.sub i hi).ext k, fun i hi x hx => by have := h.inF i hi x hx; exact ⟨this.1, Nat.lt_of_lt_of_le this.2.1 k.size, this.2.2⟩, h.apart, h.ext.trans k⟩
theorem BFill.ext {W w w' : World} {us : List Bd} {g k : Nat} {zs : List BLain} {G : Nat → Nat → Prop} {ys : List Value} (h : BFill W w us g k zs G ys) (x : Ext w w') : BFill W w' us g k zs G ys :=
  ⟨h.len, h.map, h.all, h.row, ownsRow_ext h.own x, h.inv.ext' x, h.names⟩
theorem BdsOwn.weak {w : World} {bs : List Bd} {A : Option Addr} {F F' : Nat → Prop} {B : Nat → Option Addr} {d : Nat → Nat} {G : Nat → Nat → Prop} (h : BdsOwn w bs A F B d G) (k : ∀ b, F b → F' b) : BdsOwn w bs A F' B d G :=
  ⟨h.row, h.sub, fun b o e hp => ⟨k b (h.own b o e hp).1, (h.own b o e hp).2⟩, fun i hi q hq => k q (h.inF i hi q hq), h.apart⟩

set_option maxRecDepth 100000 in
set_option maxHeartbeats 4000000 in
theorem settled_any (bs : List Bd) (x : Bd) (A LA : Option Addr) (c lc : Nat) (w : World) (hl : bs.length ≤ 1000) (hb : AllB bs) (hx : allP x.tm) (hxn : x.name.size ≤ 16) (h : BdsAt w bs A) (h1 : BdsAt w [x] LA) :
    Calls Try.prog 93 #[.slice A bs.length c, .slice LA 1 lc] w (StlOut (stlL x bs) w) := by
  obtain ⟨i0', hi0, hz0, hz1, hz2⟩ := info_parts infoBd
  have hmk : ∀ u : World, (Instr.makeSlice 58 (.int .i64 (bs.length : Int)) (.int .i64 (bs.length : Int))).run Try.prog u =
      .ok (.slice (some ⟨u.heap.size, 0, none⟩) bs.length bs.length) (u.alloc (.cells (madeCells #[.string ⟨#[]⟩, .int .i64 0, .string ⟨#[]⟩, .int .i64 0, .slice none 0 0] (bs.length * 5)) 65)) := fun u => by
    have h := run_make (P := Try.prog) u 58 65 i0' _ Try.underlying58 hi0 hz0 .i64 .i64 (bs.length : Int) (bs.length : Int) (by omega) (Int.le_refl _) (by rw [hz2]; omega) (by omega)
    simp only [Int.toNat_natCast, hz1] at h
    exact h
  have HS : Hid (Short [x]) := Lib.hid (fun i hi => by simp at hi; subst hi; exact hxn)
  have HA1 : Hid (AllB [x]) := Lib.hid (fun i hi => by simp at hi; subst hi; exact hx)
  have HAB := Lib.hid hb
  have HLL : Hid ((stlL x bs).length = bs.length) := Lib.hid (stlL_len x bs)
  clear hb hx hxn hz0 hz1 hz2 hi0
  go_enter Try.func93, Try.ntmps93
  go_wp2_with fail
  refine (placesOf_any [x] LA lc _ h1 HS.out (by simp)).mono ?_
  rintro e1 w1 ⟨b1, rfl, hP, _, hx1⟩
  go_wp2_with fail
  clear hmk
  go_loopw [17] (fun i wr => ∃ (k : Nat) (zs : List BLain) (G : Nat → Nat → Prop) (ys : List Value), k ≤ bs.length ∧ i = .int .i64 k ∧ BFill w1 wr (stlL x bs) w1.heap.size k zs G ys ∧ Hid (∀ i (h : i < (stlL x bs).length), i < k → mayB (stlL x bs)[i].tm = true)) (fun i _ => bs.length - (intOf i).toNat)
  case atStart => exact ⟨0, [], _, _, Nat.zero_le _, rfl, BFill.start (stlL x bs) HLL.out _ rfl (size_madeCells _ _) (by unfold maxLen; omega), Lib.hid fun i _ hi => absurd hi (Nat.not_lt_zero _)⟩
  case round =>
    obtain ⟨k, zs, G, ys, hk, rfl, hri, HM⟩ := hrel
    have hx1r := hri.inv.ext
    have hxr : Ext w wr := hx1.trans hx1r
    by_cases hlt : k < bs.length
    · obtain ⟨b, o, B, e, rfl, c0, c1, c2, c3, c4, hsub, hnm⟩ := (h.ext hxr) k hlt
      have hlt' : Hid (k < (stlL x bs).length) := Lib.hid (by have := HLL.out; omega)
      have HU : Hid ((stlL x bs)[k]'hlt'.out = ⟨bs[k].name, repT [x] bs[k].tm⟩) := Lib.hid (stlL_at x bs k hlt)
      obtain ⟨⟨q0, y0⟩, ⟨q1, y1⟩, ⟨q2, y2⟩, ⟨q3, y3⟩, ⟨q4, y4⟩, z0, z1, z2, z3, z4, hgl2⟩ := hri.cells hlt'.out
      have i0 : (0 : Int) ≤ (k : Int) := Int.natCast_nonneg _
      have i1 : (k : Int) < (bs.length : Int) := by omega
      go_wp2_with fail
      have hxa : Ext wr (wr.alloc (Obj.cells #[.string bs[k].name, .int .i64 bs[k].tm.kind, .string bs[k].tm.name, .int .i64 bs[k].tm.n, .slice B bs[k].tm.args.length e] 65)) := (Ext.refl _).alloc _
      have a0 : (wr.alloc (Obj.cells #[.string bs[k].name, .int .i64 bs[k].tm.kind, .string bs[k].tm.name, .int .i64 bs[k].tm.n, .slice B bs[k].tm.args.length e] 65)).cell? ⟨wr.heap.size, 0, none⟩ = some (.string bs[k].name) := by go_simp
      have a1 : (wr.alloc (Obj.cells #[.string bs[k].name, .int .i64 bs[k].tm.kind, .string bs[k].tm.name, .int .i64 bs[k].tm.n, .slice B bs[k].tm.args.length e] 65)).cell? ⟨wr.heap.size, 1, none⟩ = some (.int .i64 bs[k].tm.kind) := by go_simp
      have a2 : (wr.alloc (Obj.cells #[.string bs[k].name, .int .i64 bs[k].tm.kind, .string bs[k].tm.name, .int .i64 bs[k].tm.n, .slice B bs[k].tm.args.length e] 65)).cell? ⟨wr.heap.size, 2, none⟩ = some (.string bs[k].tm.name) := by go_simp
      have a3 : (wr.alloc (Obj.cells #[.string bs[k].name, .int .i64 bs[k].tm.kind, .string bs[k].tm.name, .int .i64 bs[k].tm.n, .slice B bs[k].tm.args.length e] 65)).cell? ⟨wr.heap.size, 3, none⟩ = some (.int .i64 bs[k].tm.n) := by go_simp
      have a4 : (wr.alloc (Obj.cells #[.string bs[k].name, .int .i64 bs[k].tm.kind, .string bs[k].tm.name, .int .i64 bs[k].tm.n, .slice B bs[k].tm.args.length e] 65)).cell? ⟨wr.heap.size, 4, none⟩ = some (.slice B bs[k].tm.args.length e) := by go_simp
      have hsa := hxa.size
      generalize (wr.alloc (Obj.cells #[.string bs[k].name, .int .i64 bs[k].tm.kind, .string bs[k].tm.name, .int .i64 bs[k].tm.n, .slice B bs[k].tm.args.length e] 65)) = wa at *
      have laa := World.block_lt_of_cell? wa _ a0
      simp only at laa
      have hne1 : w1.heap.size ≠ wr.heap.size := by omega
      have KEY : Hid (Calls Try.prog 95 #[bs[k].tm.val B e, .slice LA 1 lc, .map (some b1)] wa.drew (Copied (repT [x] bs[k].tm) wa.drew)) :=
        Lib.hid (rep_any [x] HS.out HA1.out LA lc (by simp) (.map (some b1)) bs[k].tm B e _ (HAB.out k hlt) (hsub.ext hxa.drew) (.inr ⟨b1, rfl, hP.ext (hx1r.trans hxa.drew), h1.ext (hxr.trans hxa.drew)⟩))
      have e0 : wa.drew.cell? ⟨wr.heap.size, 0, none⟩ = some (.string bs[k].name) := a0
      have e1 : wa.drew.cell? ⟨wr.heap.size, 1, none⟩ = some (.int .i64 bs[k].tm.kind) := a1
      have e2 : wa.drew.cell? ⟨wr.heap.size, 2, none⟩ = some (.string bs[k].tm.name) := a2
      have e3 : wa.drew.cell? ⟨wr.heap.size, 3, none⟩ = some (.int .i64 bs[k].tm.n) := a3
      have e4 : wa.drew.cell? ⟨wr.heap.size, 4, none⟩ = some (.slice B bs[k].tm.args.length e) := a4
      go_region_held3 (fun u => u.cell? ⟨wr.heap.size, 0, none⟩ = some (.string bs[k].name) ∧ u.cell? ⟨wr.heap.size, 1, none⟩ = some (.int .i64 bs[k].tm.kind) ∧ u.cell? ⟨wr.heap.size, 2, none⟩ = some (.string bs[k].tm.name) ∧
          u.cell? ⟨wr.heap.size, 3, none⟩ = some (.int .i64 bs[k].tm.n) ∧ u.cell? ⟨wr.heap.size, 4, none⟩ = some (.slice B bs[k].tm.args.length e))
        (first | (with_reducible exact ⟨a0, a1, a2, a3, a4⟩) | (with_reducible exact ⟨e0, e1, e2, e3, e4⟩) | (with_reducible exact ⟨hx2.cell e0, hx2.cell e1, hx2.cell e2, hx2.cell e3, hx2.cell e4⟩) | exact ⟨set5_far (hx2.cell e0) hne1, set5_far (hx2.cell e1) hne1, set5_far (hx2.cell e2) hne1, set5_far (hx2.cell e3) hne1, set5_far (hx2.cell e4) hne1⟩)
        (first | (go_at_call 95; refine KEY.out.mono ?_; rintro ee w2 ⟨A', c', rfl, hO, hx2⟩; have hx2' : Ext wr w2 := hxa.drew.trans hx2; have v0 := hx2'.cell y0; have v1 := hx2'.cell y1; have v2 := hx2'.cell y2; have v3 := hx2'.cell y3; have v4 := hx2'.cell y4; have g0 := (Below.frozen hx2' (p := ⟨w1.heap.size, k * 5, none⟩) hgl2).trans z0; have g1 := (Below.frozen hx2' (p := ⟨w1.heap.size, k * 5 + 1, none⟩) hgl2).trans z1; have g2 := (Below.frozen hx2' (p := ⟨w1.heap.size, k * 5 + 2, none⟩) hgl2).trans z2; have g3 := (Below.frozen hx2' (p := ⟨w1.heap.size, k * 5 + 3, none⟩) hgl2).trans z3; have g4 := (Below.frozen hx2' (p := ⟨w1.heap.size, k * 5 + 4, none⟩) hgl2).trans z4))
      have hO' := hO.weak (F' := fun x => wr.heap.size ≤ x ∧ x < w2.heap.size) (fun x hx => ⟨Nat.le_trans hsa hx.1, hx.2⟩)
      have hst := hri.store (us := stlL x bs) hlt'.out (Nat.le_refl _) (A := A') (c := c') (by rw [HU.out]; exact hO') hx2' (by rw [HU.out]; exact hnm)
      rw [HU.out] at hst
      have HC := set5_cells (.string bs[k].name) (.int .i64 (repT [x] bs[k].tm).kind) (.string (repT [x] bs[k].tm).name) (.int .i64 (repT [x] bs[k].tm).n) (.slice A' (repT [x] bs[k].tm).args.length c') v0 v1 v2 v3 v4
      have HST := Lib.hid hst
      have hT5 : TmAt (set5 w2 w1.heap.size (k * 5) (.string bs[k].name) (.int .i64 (repT [x] bs[k].tm).kind) (.string (repT [x] bs[k].tm).name) (.int .i64 (repT [x] bs[k].tm).n) (.slice A' (repT [x] bs[k].tm).args.length c')) (repT [x] bs[k].tm) A' c' :=
        (hO'.keep fun q hq _ => set5_block w2 w1.heap.size (k * 5) _ _ _ _ _ q (by have := hx1r.size; omega)).at_
      have hxs : Ext w (set5 w2 w1.heap.size (k * 5) (.string bs[k].name) (.int .i64 (repT [x] bs[k].tm).kind) (.string (repT [x] bs[k].tm).name) (.int .i64 (repT [x] bs[k].tm).n) (.slice A' (repT [x] bs[k].tm).args.length c')) :=
        Chg.ext_of (hxr.trans hx2') (set5_chg w2 w1.heap.size (k * 5) _ _ _ _ _ (F := fun x => x = w1.heap.size) rfl) (fun b hb => by have := hx1.size; omega)
      have hfold : ((((w2.setCell ⟨w1.heap.size, k * 5, none⟩ (.string bs[k].name)).setCell ⟨w1.heap.size, k * 5 + 1, none⟩ (.int .i64 (repT [x] bs[k].tm).kind)).setCell ⟨w1.heap.size, k * 5 + 2, none⟩ (.string (repT [x] bs[k].tm).name)).setCell ⟨w1.heap.size, k * 5 + 3, none⟩ (.int .i64 (repT [x] bs[k].tm).n)).setCell ⟨w1.heap.size, k * 5 + 4, none⟩ (.slice A' (repT [x] bs[k].tm).args.length c') =
        set5 w2 w1.heap.size (k * 5) (.string bs[k].name) (.int .i64 (repT [x] bs[k].tm).kind) (.string (repT [x] bs[k].tm).name) (.int .i64 (repT [x] bs[k].tm).n) (.slice A' (repT [x] bs[k].tm).args.length c') := rfl
      clear e0 e1 e2 e3 e4 y0 y1 y2 y3 y4 z0 z1 z2 z3 z4 c0 c1 c2 c3 c4 a0 a1 a2 a3 a4 hO hO' hri g0 g1 g2 g3 g4 KEY hst hsub v0 v1 v2 v3 v4
      rw [hfold]
      clear hfold
      generalize set5 w2 w1.heap.size (k * 5) (.string bs[k].name) (.int .i64 (repT [x] bs[k].tm).kind) (.string (repT [x] bs[k].tm).name) (.int .i64 (repT [x] bs[k].tm).n) (.slice A' (repT [x] bs[k].tm).args.length c') = w5 at *
      obtain ⟨d0, d1, d2, d3, d4⟩ := HC
      by_cases hm : mayB (repT [x] bs[k].tm) = true
      · have R := Lib.hid hm
        clear hm
        go_wp2_with fail
        refine (check_yes (repT [x] bs[k].tm) A' c' _ hT5 R.out).mono ?_
        rintro e6 w6 ⟨rfl, hx6⟩
        have HST6 : Hid (∃ G' zs' ys', BFill w1 w6 (stlL x bs) w1.heap.size (k + 1) zs' G' ys') := Lib.hid (by
          obtain ⟨G', hst⟩ := HST.out
          exact ⟨G', _, _, hst.ext hx6⟩)
        have HM6 : Hid (∀ i (h : i < (stlL x bs).length), i < k + 1 → mayB (stlL x bs)[i].tm = true) := Lib.hid fun i hi hik => by
          by_cases e : i = k
          · subst e; rw [HU.out]; exact R.out
          · exact HM.out i hi (by omega)
        clear d0 d1 d2 d3 d4 hT5
        go_wp2_with fail
        go_roundw
        case rel =>
          obtain ⟨G', zs', ys', hst⟩ := HST6.out
          exact ⟨k + 1, zs', G', ys', by omega, by go_num, hst, HM6⟩
        case measure => simp [intOf]; omega
      · have R := Lib.hid (not_true hm)
        clear hm
        have HNo : Hid (mayL (stlL x bs) = false) := Lib.hid (by
          unfold mayL
          rw [List.all_eq_false]
          exact ⟨_, List.getElem_mem hlt'.out, by rw [HU.out, R.out]; exact Bool.false_ne_true⟩)
        go_wp2_with fail
        refine (check_no (repT [x] bs[k].tm) A' c' _ hT5 R.out).mono ?_
        rintro e6 w6 ⟨rfl, hx6⟩
        clear d0 d1 d2 d3 d4 hT5
        go_wp2_with fail
        go_ret2
        exact ⟨hxs.trans hx6, .inr ⟨HNo.out, rfl⟩⟩
    · have hdone := Lib.hid (hri.done (by have := HLL.out; omega))
      have HY : Hid (mayL (stlL x bs) = true) := Lib.hid (by
        unfold mayL
        rw [List.all_eq_true]
        intro b hb
        obtain ⟨i, hi, rfl⟩ := List.getElem_of_mem hb
        exact HM.out i hi (by have := HLL.out; omega))
      have hs1 := hx1.size
      clear hri
      go_wp2_with fail
      go_ret2
      refine ⟨hxr, .inl ⟨HY.out, some ⟨w1.heap.size, 0, none⟩, bs.length, _, _, _, (by rw [HLL.out]; rfl), (by rw [HLL.out]; exact Nat.le_refl _), hdone.out.weak fun q hq => ⟨Nat.le_trans hs1 hq.1, hq.2⟩⟩⟩
end Go.Proofs.Ytjmfjeeddnmoaaa

/- bind.Set: what it tells; the parts of its walk. -/
namespace Go.Proofs.Ytjmfjeeddnmoaaa
open Go.RowKit Go.Maps

theorem bds_src {w : World} {bs : List Bd} {A : Option Addr} {c : Nat} (h : BdsAt w bs A) (hc : bs.length ≤ c) {xs : List BLain} (hxs : xs.map (·.1) = bs) (hxc : ∀ b o, A = some ⟨b, o, none⟩ → ∀ j u, (browCells xs)[j]? = some u → w.cell? ⟨b, o + j, none⟩ = some u) :
    Src w A bs.length c 5 (browCells xs) := by
  have hl : xs.length = bs.length := by rw [← hxs, List.length_map]
  refine ⟨by rw [browCells_len, hl], ?_, hc⟩
  by_cases h0 : bs.length = 0
  · cases A with
    | none => exact .inl ⟨rfl, h0⟩
    | some a => exact .inr ⟨a, rfl, fun j u hj => by
        have : xs = [] := List.eq_nil_of_length_eq_zero (by omega)
        subst this
        simp [browCells] at hj⟩
  · obtain ⟨b, o, _, _, rfl, _⟩ := h 0 (by omega)
    exact .inr ⟨_, rfl, fun j u hj => by rw [add_addr]; exact hxc b o rfl j u hj⟩

set_option maxRecDepth 100000 in
set_option maxHeartbeats 2000000 in
theorem clone_any (bs : List Bd) (A : Option Addr) (c : Nat) (w : World) (hl : bs.length ≤ 1000000) (hc : bs.length ≤ c) (h : BdsAt w bs A) (xs : List BLain) (hxs : xs.map (·.1) = bs) (hxc : ∀ b o, A = some ⟨b, o, none⟩ → ∀ j u, (browCells xs)[j]? = some u → w.cell? ⟨b, o + j, none⟩ = some u) :
    Calls Try.prog 90 #[.slice A bs.length c] w fun e w' => ∃ v', e = .returned v' ∧ w'.ownsRow w.heap.size 65 5 v' bs.length (browCells xs) ∧ Ext w w' := by
  obtain ⟨i0, hi0, hz0, hz1, hz2⟩ := info_parts infoBd
  have q := fun (w : World) (a : Option Addr) (n c n' c' : Nat) => Lib.run_eql_slice_nil (P := Try.prog) w 58 65 a n c n' c' Try.underlying58
  have hsrc := Lib.hid (bds_src h hc hxs hxc)
  clear hxs hxc
  cases A with
  | none =>
    have h0 : bs.length = 0 := by
      rcases Nat.eq_zero_or_pos bs.length with e | e
      · exact e
      · obtain ⟨_, _, _, _, e, _⟩ := h 0 e; cases e
    have hx0 : browCells xs = [] := List.eq_nil_of_length_eq_zero (by rw [hsrc.out.1, h0])
    have H0 := Lib.hid h0
    have HX := Lib.hid hx0
    clear h0 hx0
    go_enter Try.func90, Try.ntmps90
    go_wp2_with fail
    go_ret
    exact ⟨_, rfl, by rw [HX.out, H0.out]; exact World.ownsRow_nil _ _ _ _, Ext.refl _⟩
  | some a =>
    go_enter Try.func90, Try.ntmps90
    have hsrc1 : Hid (Src (w.alloc (.cells #[] 65)) (some a) bs.length c 5 (browCells xs)) := Lib.hid (hsrc.out.ext ((Ext.refl _).alloc _))
    go_wp2_with (at_builtin; refine wpList_app _ rfl _ _ 58 rfl w.heap.size 65 i0 _ 5 72 Try.underlying58 hi0 hz0 hz1 hz2 rfl (by decide) _ 0 [] rfl (World.ownsRow_made w #[] 0 (Nat.le_refl _) (Nat.zero_le _) (by simp)) (some a) bs.length c (browCells xs) rfl hsrc1.out (browCells_one' xs) ?qc3 ?qc4 ?qc5 ?_)
    case qc3 => unfold maxLen; omega
    case qc4 => omega
    case qc5 => simp
    intro v' w1 hown hgr _
    have HO := Lib.hid hown
    have HG := Lib.hid hgr
    clear hown hgr
    go_wp2_with fail
    go_ret
    refine ⟨_, rfl, by have := HO.out; simpa using this, ?_⟩
    exact ((Below.refl _ w).alloc (Nat.le_refl _) _).grown HG.out (by simp) (by intro k hk; simp [Value.ownBlock] at hk; omega)

/-- with one bind more -/
def insB (bs : List Bd) (i : Nat) (x : Bd) : List Bd := bs.take i ++ [x] ++ bs.drop i
theorem insB_len (bs : List Bd) (i : Nat) (x : Bd) (h : i ≤ bs.length) : (insB bs i x).length = bs.length + 1 := by
  unfold insB; rw [List.length_append, List.length_append, List.length_take, List.length_drop]; simp; omega
theorem insB_mem {bs : List Bd} {i : Nat} {x y : Bd} : y ∈ insB bs i x ↔ y ∈ bs ∨ y = x := by
  unfold insB
  have e : y ∈ bs ↔ y ∈ bs.take i ∨ y ∈ bs.drop i := by rw [← List.mem_append, List.take_append_drop]
  rw [List.mem_append, List.mem_append, e, List.mem_singleton]
  constructor
  · rintro ((h | h) | h)
    · exact .inl (.inl h)
    · exact .inr h
    · exact .inl (.inr h)
  · rintro ((h | h) | h)
    · exact .inl (.inl h)
    · exact .inr h
    · exact .inl (.inr h)
theorem insB_at (bs : List Bd) (i : Nat) (x : Bd) (h : i ≤ bs.length) : (insB bs i x)[i]'(by rw [insB_len _ _ _ h]; omega) = x := by
  unfold insB
  have hl : (bs.take i).length = i := by rw [List.length_take]; omega
  rw [List.getElem_append_left (by rw [List.length_append, hl]; simp), List.getElem_append_right (by omega)]
  simp [hl]
theorem insB_short {bs : List Bd} {i : Nat} {x : Bd} (h : Short bs) (hx : x.name.size ≤ 16) : Short (insB bs i x) := by
  intro k hk
  rcases insB_mem.1 (List.getElem_mem hk) with e | e
  · obtain ⟨j, hj, e⟩ := List.getElem_of_mem e; rw [← e]; exact h j hj
  · rw [e]; exact hx
theorem insB_all {bs : List Bd} {i : Nat} {x : Bd} (h : AllB bs) (hx : allP x.tm) : AllB (insB bs i x) := by
  intro k hk
  rcases insB_mem.1 (List.getElem_mem hk) with e | e
  · obtain ⟨j, hj, e⟩ := List.getElem_of_mem e; rw [← e]; exact h j hj
  · rw [e]; exact hx

/-- the cells of a bind -/
abbrev bObj (s : ByteArray) (t : Tm) (A : Option Addr) (c : Nat) : Obj := .cells #[.string s, .int .i64 t.kind, .string t.name, .int .i64 t.n, .slice A t.args.length c] 65
def InsRes (bs : List Bd) (i : Nat) (x : Bd) (wi : World) (e : Ending) (w' : World) : Prop := ∃ A' c', e = .returned (.slice A' (bs.length + 1) c') ∧ bs.length + 1 ≤ c' ∧ BdsAt w' (insB bs i x) A' ∧ Ext wi w'

theorem ins_res {bs : List Bd} {s : ByteArray} {t : Tm} {A : Option Addr} {c i base : Nat} {wi u : World} (hu : Ext wi u) (hb : wi.heap.size ≤ base) (hbu : base ≤ u.heap.size) (hi : i ≤ bs.length) (hl : bs.length ≤ 1000000) (xs : List BLain) (hxs : xs.map (·.1) = bs) (hxt : ∀ x ∈ xs, TmAt wi x.1.tm x.2.1 x.2.2 ∧ x.1.name.size ≤ 140737488351232)
    (hs : s.size ≤ 140737488351232) (hT : TmAt wi t A c) {v : Value} (hown : u.ownsRow base 65 5 v bs.length (browCells xs)) {vb : Nat} (hvb : v.ownBlock ≠ some vb) (hv : u.heap[vb]? = some (bObj s t A c)) :
    Calls Try.prog 89 #[v, .int .i64 i, .slice (some ⟨vb, 0, none⟩) 1 1] u (InsRes bs i ⟨s, t⟩ wi) := by
  have hln : xs.length = bs.length := by rw [← hxs, List.length_map]
  refine (insert_any base bs.length i v (browCells xs) u hown (browCells_one' xs) hbu hi hl vb 1 (BLain.cells (⟨s, t⟩, A, c)) hvb rfl hv (BLain.one _)).mono ?_
  rintro e w' ⟨v', rfl, hown', hgr⟩
  have hx : Ext wi w' := Ext.own hu hown hb hgr
  rw [browCells_take xs i (by omega), browCells_drop xs i (by omega), ← browCells_one (⟨s, t⟩, A, c), ← browCells_app, ← browCells_app] at hown'
  have hxt' : ∀ y ∈ xs.take i ++ [((⟨s, t⟩ : Bd), A, c)] ++ xs.drop i, TmAt w' y.1.tm y.2.1 y.2.2 ∧ y.1.name.size ≤ 140737488351232 := by
    intro y hy
    rw [List.mem_append, List.mem_append, List.mem_singleton] at hy
    rcases hy with (hy | rfl) | hy
    · exact ⟨(hxt y (List.mem_of_mem_take hy)).1.ext hx, (hxt y (List.mem_of_mem_take hy)).2⟩
    · exact ⟨hT.ext hx, hs⟩
    · exact ⟨(hxt y (List.mem_of_mem_drop hy)).1.ext hx, (hxt y (List.mem_of_mem_drop hy)).2⟩
  have hl' : (xs.take i ++ [((⟨s, t⟩ : Bd), A, c)] ++ xs.drop i).length = bs.length + 1 := by
    rw [List.length_append, List.length_append, List.length_take, List.length_drop]; simp; omega
  obtain ⟨A', c', rfl, hc', hB⟩ := owned_bds hown' hxt'
  rw [hl'] at hc' ⊢
  refine ⟨A', c', rfl, hc', ?_, hx⟩
  have e : (xs.take i ++ [((⟨s, t⟩ : Bd), A, c)] ++ xs.drop i).map (·.1) = insB bs i ⟨s, t⟩ := by
    unfold insB
    rw [List.map_append, List.map_append, List.map_take, List.map_drop, hxs]; rfl
  rw [e] at hB
  exact hB
end Go.Proofs.Ytjmfjeeddnmoaaa

/- bind.Set: the walk. -/
namespace Go.Proofs.Ytjmfjeeddnmoaaa
open Go.RowKit Go.Maps

theorem plB_iff (bs : List Bd) (s : ByteArray) : plB bs s = true ↔ ∃ x ∈ bs, x.name = s := by
  unfold plB
  cases hp : plc bs bs.length s with
  | none =>
    constructor
    · intro h; cases h
    · rintro ⟨x, hx, rfl⟩
      obtain ⟨i, hi, rfl⟩ := List.getElem_of_mem hx
      have := plc_none hp i hi
      rw [List.getElem?_eq_getElem hi] at this
      exact absurd rfl this
  | some i =>
    obtain ⟨hi, h2⟩ := plc_some hp
    rw [List.getElem?_eq_getElem hi] at h2
    exact ⟨fun _ => ⟨bs[i], List.getElem_mem hi, by simpa using h2⟩, fun _ => rfl⟩
mutual
theorem mentT_congr {bs cs : List Bd} (h : ∀ s, plB bs s = plB cs s) : ∀ t : Tm, mentT bs t = mentT cs t
  | ⟨k, s, n, l⟩ => by rw [mentT, mentT, h s, mentL_congr h l]
theorem mentL_congr {bs cs : List Bd} (h : ∀ s, plB bs s = plB cs s) : ∀ l : List Tm, mentL bs l = mentL cs l
  | [] => rfl
  | t :: ts => by rw [mentL, mentL, mentT_congr h t, mentL_congr h ts]
end
theorem plB_ins (bs : List Bd) (i : Nat) (x : Bd) (s : ByteArray) : plB (insB bs i x) s = plB (x :: bs) s := by
  rw [Bool.eq_iff_iff, plB_iff, plB_iff]
  constructor
  · rintro ⟨y, hy, e⟩
    rcases insB_mem.1 hy with h | h
    · exact ⟨y, by simp [h], e⟩
    · exact ⟨y, by simp [h], e⟩
  · rintro ⟨y, hy, e⟩
    rcases List.mem_cons.1 hy with h | h
    · exact ⟨y, insB_mem.2 (.inr h), e⟩
    · exact ⟨y, insB_mem.2 (.inl h), e⟩

/-- what Set asks ahead -/
def setB (bs : List Bd) (s : ByteArray) (t : Tm) : Bool := bindsB bs && mayB t && varB s && !plB bs s && !mentT (⟨s, t⟩ :: bs) t
def okSet (bs : List Bd) (s : ByteArray) (t : Tm) (i : Nat) : Bool := decide (bs.length < 16) && mayL (stlL ⟨s, t⟩ (insB bs i ⟨s, t⟩))
def SetOut (bs : List Bd) (s : ByteArray) (t : Tm) (w : World) (e : Ending) (w' : World) : Prop :=
  Ext w w' ∧ ((setB bs s t = false ∧ e = .returned (.tuple #[.slice none 0 0, .int .i64 1])) ∨
    (setB bs s t = true ∧ ∃ i, SeaAt bs s i false ∧
      ((okSet bs s t i = true ∧ ∃ A c B d G, e = .returned (.tuple #[.slice A (bs.length + 1) c, .int .i64 0]) ∧ bs.length + 1 ≤ c ∧ BdsOwn w' (stlL ⟨s, t⟩ (insB bs i ⟨s, t⟩)) A (fun k => w.heap.size ≤ k ∧ k < w'.heap.size) B d G) ∨
       (okSet bs s t i = false ∧ e = .returned (.tuple #[.slice none 0 0, .int .i64 2])))))
theorem set_form {bs : List Bd} {s : ByteArray} {t : Tm} (h : setB bs s t = false) {w w' : World} (hx : Ext w w') : SetOut bs s t w (.returned (.tuple #[.slice none 0 0, .int .i64 1])) w' := ⟨hx, .inl ⟨h, rfl⟩⟩

set_option maxRecDepth 100000 in
set_option maxHeartbeats 2000000 in
theorem Set_form (bs : List Bd) (s : ByteArray) (t : Tm) (LA A : Option Addr) (lc c : Nat) (w : World) (hl : bs.length ≤ 1000000) (hL : BdsAt w bs LA) (h : TmAt w t A c) (hs : s.size ≤ 140737488351232) (hr : (bindsB bs && mayB t && varB s) = false) :
    Calls Try.prog 44 #[.slice LA bs.length lc, .string s, t.val A c] w (SetOut bs s t w) := by
  have HNo : Hid (setB bs s t = false) := Lib.hid (by unfold setB; rw [hr]; rfl)
  have hx0 := (Ext.refl w).alloc (.cells #[.int .i64 t.kind, .string t.name, .int .i64 t.n, .slice A t.args.length c] 28)
  by_cases hb : bindsB bs = true
  · by_cases hm : mayB t = true
    · have hv : varB s = false := by rw [hb, hm] at hr; simpa using hr
      have HB := Lib.hid hb
      have HM := Lib.hid hm
      have HV := Lib.hid hv
      clear hb hm hv hr
      go_enter Try.func44, Try.ntmps44
      go_wp2_with fail
      refine (bcheck_yes HB.out LA lc _ hl (hL.ext hx0)).mono ?_
      rintro e1 w1 ⟨rfl, hx1⟩
      obtain ⟨b0, b1, b2, b3, _, _, _, _⟩ : Box4 w1 w.heap.size (.int .i64 t.kind) (.string t.name) (.int .i64 t.n) (.slice A t.args.length c) := Box4.ext ⟨by go_simp, by go_simp, by go_simp, by go_simp, by go_simp, by go_simp, by go_simp, by go_simp⟩ hx1
      go_wp2_with fail
      refine (check_yes t A c _ (h.ext (hx0.trans hx1)) HM.out).mono ?_
      rintro e2 w2 ⟨rfl, hx2⟩
      clear b0 b1 b2 b3
      go_wp2_with fail
      refine (var_no hs HV.out).mono ?_
      rintro e3 w3 ⟨rfl, hx3⟩
      go_wp2_with fail
      go_ret2
      exact set_form HNo.out (((hx0.trans hx1).trans hx2).trans hx3)
    · have HB := Lib.hid hb
      have HM := Lib.hid (not_true hm)
      clear hb hm hr
      go_enter Try.func44, Try.ntmps44
      go_wp2_with fail
      refine (bcheck_yes HB.out LA lc _ hl (hL.ext hx0)).mono ?_
      rintro e1 w1 ⟨rfl, hx1⟩
      obtain ⟨b0, b1, b2, b3, _, _, _, _⟩ : Box4 w1 w.heap.size (.int .i64 t.kind) (.string t.name) (.int .i64 t.n) (.slice A t.args.length c) := Box4.ext ⟨by go_simp, by go_simp, by go_simp, by go_simp, by go_simp, by go_simp, by go_simp, by go_simp⟩ hx1
      go_wp2_with fail
      refine (check_no t A c _ (h.ext (hx0.trans hx1)) HM.out).mono ?_
      rintro e2 w2 ⟨rfl, hx2⟩
      clear b0 b1 b2 b3
      go_wp2_with fail
      go_ret2
      exact set_form HNo.out ((hx0.trans hx1).trans hx2)
  · have HB := Lib.hid (not_true hb)
    clear hb hr
    go_enter Try.func44, Try.ntmps44
    go_wp2_with fail
    refine (bcheck_no HB.out LA lc _ hl (hL.ext hx0)).mono ?_
    rintro e1 w1 ⟨rfl, hx1⟩
    go_wp2_with fail
    go_ret2
    exact set_form HNo.out (hx0.trans hx1)

set_option maxRecDepth 100000 in
set_option maxHeartbeats 4000000 in
theorem Set_may (bs : List Bd) (s : ByteArray) (t : Tm) (LA A : Option Addr) (lc c : Nat) (w : World) (hlc : bs.length ≤ lc) (hL : BdsAt w bs LA) (h : TmAt w t A c) (hs : s.size ≤ 140737488351232) (hb : bindsB bs = true) (hm : mayB t = true) (hv : varB s = true) :
    Calls Try.prog 44 #[.slice LA bs.length lc, .string s, t.val A c] w (SetOut bs s t w) := by
  have hl := binds_len hb
  have hl16 := (binds_ok hb).1
  have hx0 := (Ext.refl w).alloc (.cells #[.int .i64 t.kind, .string t.name, .int .i64 t.n, .slice A t.args.length c] 28)
  have HR := Lib.hid (okL_rise (binds_ok hb).2.1)
  have HSh := Lib.hid (binds_short hb)
  have HAll := Lib.hid (binds_all hb)
  have HTa := Lib.hid (may_all hm)
  have HVs := Lib.hid (var_short hv)
  have HB := Lib.hid hb
  have HM := Lib.hid hm
  have HV := Lib.hid hv
  clear hb hm hv
  go_enter Try.func44, Try.ntmps44
  go_wp2_with fail
  refine (bcheck_yes HB.out LA lc _ hl (hL.ext hx0)).mono ?_
  rintro e1 w1 ⟨rfl, hx1⟩
  have HB0 : Hid (Box4 w1 w.heap.size (.int .i64 t.kind) (.string t.name) (.int .i64 t.n) (.slice A t.args.length c)) := Lib.hid (Box4.ext ⟨by go_simp, by go_simp, by go_simp, by go_simp, by go_simp, by go_simp, by go_simp, by go_simp⟩ hx1)
  obtain ⟨b0, b1, b2, b3, _, _, _, _⟩ := HB0.out
  have hx01 := hx0.trans hx1
  clear hx1
  go_wp2_with fail
  refine (check_yes t A c _ (h.ext hx01) HM.out).mono ?_
  rintro e2 w2 ⟨rfl, hx2⟩
  clear b0 b1 b2 b3
  go_wp2_with fail
  refine (var_yes hs HV.out).mono ?_
  rintro e3 w3 ⟨rfl, hx3⟩
  have hx03 := (hx01.trans hx2).trans hx3
  go_wp2_with fail
  refine (search_any bs HR.out s LA lc _ hl (hL.ext hx03)).mono ?_
  rintro e4 wi ⟨i, f, rfl, hS, hx4⟩
  have hxi := hx03.trans hx4
  cases f with
  | true =>
    have HNo : Hid (setB bs s t = false) := Lib.hid (by
      have := (hS.found HR.out).2
      unfold setB plB; rw [this]; simp)
    clear hS
    go_wp2_with fail
    go_ret2
    exact set_form HNo.out hxi
  | false =>
    have HS := Lib.hid hS
    have hile := hS.le
    have HPl : Hid (plB bs s = false) := Lib.hid (by unfold plB; rw [hS.missing HR.out]; rfl)
    have HB0i := Lib.hid ((HB0.out.ext (hx2.trans hx3)).ext hx4)
    have hLi := hL.ext hxi
    have hTi := h.ext hxi
    obtain ⟨xs, hxs, hxt, hxc⟩ := bds_list hLi
    have HXs := Lib.hid hxs
    have HXt := Lib.hid hxt
    have HXc := Lib.hid hxc
    clear hS hxs hxt hxc HB0 hx2 hx3 hx4 hx01 hx0 hx03
    go_upto_region 6 with (fail)
    go_cut [10] (fun v10 wx => ∃ (A' : Option Addr) (c' : Nat), v10 = .slice A' (bs.length + 1) c' ∧ bs.length + 1 ≤ c' ∧ BdsAt wx (insB bs i ⟨s, t⟩) A' ∧ Ext wi wx)
    case first =>
        obtain ⟨n0, n1, n2, n3, _, _, _, _⟩ := HB0i.out
        have rulesI := fun (u : World) (k : Ext wi u) => And.intro (k.cell n0) (And.intro (k.cell n1) (And.intro (k.cell n2) (k.cell n3)))
        have hI0 := Ext.refl wi
        have CA : Hid (∀ u, Ext wi u → Calls Try.prog 90 #[.slice LA bs.length lc] u fun e w' => ∃ v', e = .returned v' ∧ Hid (w'.ownsRow wi.heap.size 65 5 v' bs.length (browCells xs)) ∧ Ext wi w') := Lib.hid (fun u hu =>
          (clone_any bs LA lc u hl hlc (hLi.ext hu) xs HXs.out (fun b o e j v hj => hu.cell (HXc.out b o e j v hj))).mono fun _ _ ⟨v', he, ho, hx⟩ => ⟨v', he, Lib.hid (ownsRow_base ho hu.size), hu.trans hx⟩)
        have CB : Hid (∀ u, Ext (wi.alloc (bObj s t A c)) u → Calls Try.prog 90 #[.slice LA bs.length lc] u fun e w' => ∃ v', e = .returned v' ∧ Hid (w'.ownsRow (wi.heap.size + 1) 65 5 v' bs.length (browCells xs)) ∧ Ext wi w' ∧ Hid (w'.heap[wi.heap.size]? = some (bObj s t A c))) := Lib.hid (fun u hu =>
          (clone_any bs LA lc u hl hlc (hLi.ext (((Ext.refl _).alloc _).trans hu)) xs HXs.out (fun b o e j v hj => (((Ext.refl _).alloc _).trans hu).cell (HXc.out b o e j v hj))).mono fun _ _ ⟨v', he, ho, hx⟩ => ⟨v', he, Lib.hid (ownsRow_base ho (by have := hu.size; simpa using this)), (((Ext.refl _).alloc _).trans hu).trans hx, Lib.hid (((hu.trans hx).block wi.heap.size (by simp)).trans (heap_alloc_new wi _))⟩)
        have IA : Hid (∀ u v, Ext wi u → Hid (u.ownsRow wi.heap.size 65 5 v bs.length (browCells xs)) → Calls Try.prog 89 #[v, .int .i64 i, .slice (some ⟨u.heap.size, 0, none⟩) 1 1] (u.alloc (bObj s t A c)) (InsRes bs i ⟨s, t⟩ wi)) := Lib.hid (fun u v hu ho =>
          ins_res (hu.alloc _) (Nat.le_refl _) (by have := hu.size; simp only [heap_size_alloc]; omega) hile hl xs HXs.out HXt.out hs hTi (ho.out.alloc _) (vb := u.heap.size) (fun e => by have := ho.out.lt _ e; omega) (heap_alloc_new u _))
        have IB : Hid (∀ u v, Ext wi u → Hid (u.heap[wi.heap.size]? = some (bObj s t A c)) → Hid (u.ownsRow (wi.heap.size + 1) 65 5 v bs.length (browCells xs)) → Calls Try.prog 89 #[v, .int .i64 i, .slice (some ⟨wi.heap.size, 0, none⟩) 1 1] u (InsRes bs i ⟨s, t⟩ wi)) := Lib.hid (fun u v hu hv ho =>
          ins_res hu (Nat.le_succ _) (by have := (Array.getElem?_eq_some_iff.1 hv.out).1; omega) hile hl xs HXs.out HXt.out hs hTi ho.out (vb := wi.heap.size) (fun e => by have := ho.out.lt _ e; omega) hv.out)
        clear n0 n1 n2 n3 HB0i hLi hTi hL h HXs HXt HXc HR HSh HAll HTa HVs HB HM HV HS HPl
        go_region_held3 (fun u => Ext wi u) (first | assumption | exact hI0.drew | exact Ext.alloc hI0.drew _ | exact (Ext.alloc hI0 _).drew | exact Ext.alloc hS5 _)
          (first
            | (go_at_call 90; refine (CB.out _ ?_).mono ?_; (first | exact Ext.refl _ | exact (Ext.refl _).drew); rintro e5 w5 ⟨v5, rfl, hOb, hS5, hV5⟩)
            | (go_at_call 90; refine (CA.out _ (by assumption)).mono ?_; rintro e5 w5 ⟨v5, rfl, hOa, hS5⟩)
            | (go_at_call 89; refine (IB.out _ _ hS5 hV5 hOb).mono ?_; rintro e6 w6 ⟨A6, c6, rfl, hc6, hB6, hS6⟩; have hB7 := Lib.hid hB6; clear hB6)
            | (go_at_call 89; refine (IA.out _ _ hS5 hOa).mono ?_; rintro e6 w6 ⟨A6, c6, rfl, hc6, hB6, hS6⟩; have hB7 := Lib.hid hB6; clear hB6))
        all_goals
          go_wp2_with fail
          go_meet
          exact ⟨A6, c6, rfl, hc6, hB7.out, hS6⟩
    case rest =>
        obtain ⟨A', c', rfl, hc', hBg, hxg⟩ := hcut
        obtain ⟨wx, rfl⟩ : ∃ wx : World, wx = wc := ⟨_, rfl⟩
        have HG := Lib.hid hBg
        have hlg : Hid ((insB bs i ⟨s, t⟩).length = bs.length + 1) := Lib.hid (insB_len _ _ _ hile)
        have hTx := hTi.ext hxg
        obtain ⟨n0, n1, n2, n3, _, _, _, _⟩ := HB0i.out.ext hxg
        have rulesI := fun (u : World) (k : Ext wx u) => And.intro (k.cell n0) (And.intro (k.cell n1) (And.intro (k.cell n2) (k.cell n3)))
        have hI0 := Ext.refl wx
        have hSg := Lib.hid (insB_short (i := i) (x := ⟨s, t⟩) HSh.out HVs.out)
        have hAg := Lib.hid (insB_all (i := i) (x := ⟨s, t⟩) HAll.out HTa.out)
        have PA : Hid (∀ u, Ext wx u → Calls Try.prog 92 #[.slice A' (bs.length + 1) c'] u fun e w' => ∃ b, e = .returned (.map (some b)) ∧ Hid (PlAt w' b (insB bs i ⟨s, t⟩) (insB bs i ⟨s, t⟩).length) ∧ Ext wx w') := Lib.hid (fun u hu => by
          have := placesOf_any (insB bs i ⟨s, t⟩) A' c' u (HG.out.ext hu) hSg.out (by rw [hlg.out]; omega)
          rw [hlg.out] at this
          refine this.mono fun _ _ ⟨b, he, hP, _, hx⟩ => ⟨b, he, Lib.hid ?_, hu.trans hx⟩
          exact hP)
        have MA : Hid (∀ u b, Ext wx u → Hid (PlAt u b (insB bs i ⟨s, t⟩) (insB bs i ⟨s, t⟩).length) → Calls Try.prog 91 #[t.val A c, .map (some b)] u fun e w' => e = .returned (.bool (mentT (⟨s, t⟩ :: bs) t)) ∧ Ext wx w') := Lib.hid (fun u b hu hP =>
          (ment_all (insB bs i ⟨s, t⟩) hSg.out t.high t A c b u (Nat.le_refl _) (hTx.ext hu) hP.out).mono fun _ _ ⟨he, hx⟩ => ⟨by rw [he, mentT_congr (plB_ins bs i ⟨s, t⟩)], hu.trans hx⟩)
        have hxx := hxi.trans hxg
        clear n0 n1 n2 n3 hBg hTx HB0i hLi hTi hL h HXs HXt HXc HR
        go_wp2_with fail
        go_region_held3 (fun u => Ext wx u) (first | assumption | exact hI0.drew)
          (first
            | (go_at_call 92; refine (PA.out _ (by assumption)).mono ?_; rintro e5 w5 ⟨b5, rfl, hP5, hS5⟩)
            | (go_at_call 91; refine (MA.out _ _ hS5 hP5).mono ?_; rintro e6 w6 ⟨rfl, hS6⟩))
        cases hmt : mentT (⟨s, t⟩ :: bs) t with
        | true =>
          have HNo : Hid (setB bs s t = false) := Lib.hid (by unfold setB; rw [hmt]; simp)
          go_wp2_with fail
          go_ret2
          exact set_form HNo.out (hxx.trans hS6)
        | false =>
          have HYes : Hid (setB bs s t = true) := Lib.hid (by unfold setB; rw [HB.out, HM.out, HV.out, HPl.out, hmt]; rfl)
          clear hmt
          by_cases h16 : bs.length < 16
          · have g0 := HG.out 0 (by rw [hlg.out]; omega)
            obtain ⟨b, o, _, _, rfl, _⟩ := g0
            have cut : ∀ u, (Instr.slice 58 (.slice (some ⟨b, o, none⟩) (bs.length + 1) c') (some (.int .i64 (i : Int))) (some (.int .i64 ((i : Int) + 1))) none).run Try.prog u = .ok (.slice (some ⟨b, o + i * 5, none⟩) 1 (c' - i)) u := fun u => by
              have he : Try.prog.elem 58 = 65 := by simp [Program.elem, Try.underlying58]
              rw [run_slice_lh u _ _ _ _ (by rw [he]; exact Try.underlying58) .i64 .i64 i (i + 1) (by omega) (by omega) (by omega), he, Try.sizeOf65]
              simp only [Result.andThen, sliced, Int.toNat_natCast, show ((i : Int) + 1).toNat = i + 1 by omega]
              rw [if_neg (by omega)]
              simp [add_addr]
            have hone : BdsAt w6 [⟨s, t⟩] (some ⟨b, o + i * 5, none⟩) := by
              intro q hq
              have hq0 : q = 0 := by simpa using hq
              subst hq0
              obtain ⟨b', o', B', e', eA, c0, c1, c2, c3, c4, hT', hn'⟩ := (HG.out.ext hS6) i (by rw [hlg.out]; omega)
              injection eA with eA
              injection eA with e1 e2
              subst e1 e2
              rw [insB_at bs i ⟨s, t⟩ hile] at c0 c1 c2 c3 c4 hT' hn'
              exact ⟨b, o + i * 5, B', e', rfl, by simpa using c0, by simpa using c1, by simpa using c2, by simpa using c3, by simpa using c4, hT', hn'⟩
            have KEY : Hid (Calls Try.prog 93 #[.slice (some ⟨b, o, none⟩) (bs.length + 1) c', .slice (some ⟨b, o + i * 5, none⟩) 1 (c' - i)] w6 (StlOut (stlL ⟨s, t⟩ (insB bs i ⟨s, t⟩)) w6)) := Lib.hid (by
              have := settled_any (insB bs i ⟨s, t⟩) ⟨s, t⟩ (some ⟨b, o, none⟩) (some ⟨b, o + i * 5, none⟩) c' (c' - i) w6 (by rw [hlg.out]; omega) hAg.out HTa.out HVs.out (HG.out.ext hS6) hone
              rw [hlg.out] at this
              exact this)
            clear hone rulesI
            have i0 : (0 : Int) ≤ (i : Int) := Int.natCast_nonneg _
            have i1 : (i : Int) ≤ (bs.length : Int) := by omega
            have hgt : decide ((16 : Int) < (bs.length : Int) + 1) = false := decide_eq_false (by omega)
            go_wp2_with fail
            refine KEY.out.mono ?_
            rintro e7 w7 ⟨hx7, hc⟩
            rcases hc with ⟨hy, A7, c7, B7, d7, G7, rfl, hc7, hO7⟩ | ⟨hno, rfl⟩
            · have HO := Lib.hid hO7
              have HY := Lib.hid (show okSet bs s t i = true by unfold okSet; rw [hy]; simp [h16])
              have hll : Hid ((stlL ⟨s, t⟩ (insB bs i ⟨s, t⟩)).length = bs.length + 1) := Lib.hid (by rw [stlL_len, hlg.out])
              have hc7' : bs.length + 1 ≤ c7 := by have := hll.out; omega
              have hs6 := (hxx.trans hS6).size
              rw [hll.out]
              clear hO7 hy hc7 cut
              go_wp2_with fail
              go_ret2
              exact ⟨(hxx.trans hS6).trans hx7, .inr ⟨HYes.out, i, HS.out, .inl ⟨HY.out, A7, c7, _, _, _, rfl, hc7', HO.out.weak fun q hq => ⟨Nat.le_trans hs6 hq.1, hq.2⟩⟩⟩⟩
            · have HNo := Lib.hid (show okSet bs s t i = false by unfold okSet; rw [hno]; simp)
              clear hno cut
              go_wp2_with fail
              go_ret2
              exact ⟨(hxx.trans hS6).trans hx7, .inr ⟨HYes.out, i, HS.out, .inr ⟨HNo.out, rfl⟩⟩⟩
          · have hgt : decide ((16 : Int) < (bs.length : Int) + 1) = true := decide_eq_true (by omega)
            have HNo := Lib.hid (show okSet bs s t i = false by unfold okSet; simp [h16])
            clear h16
            go_wp2_with fail
            go_ret2
            exact ⟨hxx.trans hS6, .inr ⟨HYes.out, i, HS.out, .inr ⟨HNo.out, rfl⟩⟩⟩

theorem Set_all (bs : List Bd) (s : ByteArray) (t : Tm) (LA A : Option Addr) (lc c : Nat) (w : World) (hl : bs.length ≤ 1000000) (hlc : bs.length ≤ lc) (hL : BdsAt w bs LA) (h : TmAt w t A c) (hs : s.size ≤ 140737488351232) :
    Calls Try.prog 44 #[.slice LA bs.length lc, .string s, t.val A c] w (SetOut bs s t w) := by
  by_cases hr : (bindsB bs && mayB t && varB s) = true
  · rw [Bool.and_eq_true, Bool.and_eq_true] at hr
    exact Set_may bs s t LA A lc c w hlc hL h hs hr.1.1 hr.1.2 hr.2
  · exact Set_form bs s t LA A lc c w hl hL h hs (not_true hr)
end Go.Proofs.Ytjmfjeeddnmoaaa

/- bind.copiedBind; slices.Grow, Concat at binds. -/
namespace Go.Proofs.Ytjmfjeeddnmoaaa
open Go.RowKit

/-- a copy of a bind -/
def CopiedB (x : Bd) (w : World) (e : Ending) (w' : World) : Prop := ∃ A c, e = .returned (x.val A c) ∧ TmOwn w' x.tm A c (fun k => w.heap.size ≤ k ∧ k < w'.heap.size) ∧ Ext w w'
theorem TmOwn.answer5 {w : World} {t : Tm} {A : Option Addr} {c : Nat} {lo hi r : Nat} (h : TmOwn w t A c (fun k => lo ≤ k ∧ k < hi)) (v0 v1 v2 v3 v4 : Value) (hr : r < lo) {B : Nat} (hB : B ≤ lo) (hh : hi = w.heap.size) :
    TmOwn (set5 w r 0 v0 v1 v2 v3 v4) t A c (fun k => B ≤ k ∧ k < (set5 w r 0 v0 v1 v2 v3 v4).heap.size) :=
  (h.keep fun b hb _ => set5_block _ _ _ _ _ _ _ _ _ (by omega)).weak fun b hb => ⟨by omega, by rw [set5_size]; omega⟩

set_option maxRecDepth 100000 in
set_option maxHeartbeats 2000000 in
theorem copiedBind_any (x : Bd) (A : Option Addr) (c : Nat) (w : World) (ha : allP x.tm) (h : TmAt w x.tm A c) :
    Calls Try.prog 100 #[x.val A c] w (CopiedB x w) := by
  have HA := Lib.hid ha
  clear ha
  go_enter Try.func100, Try.ntmps100
  go_wp2_with fail
  obtain ⟨wi, hwi⟩ : ∃ wi, wi = (w.alloc (.cells #[.string x.name, .int .i64 x.tm.kind, .string x.tm.name, .int .i64 x.tm.n, .slice A x.tm.args.length c] 65)).alloc (.cells #[.string ⟨#[]⟩, .int .i64 0, .string ⟨#[]⟩, .int .i64 0, .slice none 0 0] 65) := ⟨_, rfl⟩
  have hxi : Ext w wi := by rw [hwi]; exact ((Ext.refl w).alloc _).alloc _
  have hsi : wi.heap.size = w.heap.size + 1 + 1 := by rw [hwi]; simp
  have a0 : wi.cell? ⟨w.heap.size, 0, none⟩ = some (.string x.name) := by rw [hwi]; go_simp
  have a1 : wi.cell? ⟨w.heap.size, 1, none⟩ = some (.int .i64 x.tm.kind) := by rw [hwi]; go_simp
  have a2 : wi.cell? ⟨w.heap.size, 2, none⟩ = some (.string x.tm.name) := by rw [hwi]; go_simp
  have a3 : wi.cell? ⟨w.heap.size, 3, none⟩ = some (.int .i64 x.tm.n) := by rw [hwi]; go_simp
  have a4 : wi.cell? ⟨w.heap.size, 4, none⟩ = some (.slice A x.tm.args.length c) := by rw [hwi]; go_simp
  have y0 : wi.cell? ⟨w.heap.size + 1, 0, none⟩ = some (.string ⟨#[]⟩) := by rw [hwi]; go_simp
  have y1 : wi.cell? ⟨w.heap.size + 1, 1, none⟩ = some (.int .i64 0) := by rw [hwi]; go_simp
  have y2 : wi.cell? ⟨w.heap.size + 1, 2, none⟩ = some (.string ⟨#[]⟩) := by rw [hwi]; go_simp
  have y3 : wi.cell? ⟨w.heap.size + 1, 3, none⟩ = some (.int .i64 0) := by rw [hwi]; go_simp
  have y4 : wi.cell? ⟨w.heap.size + 1, 4, none⟩ = some (.slice none 0 0) := by rw [hwi]; go_simp
  have z := fun o => (show wi.frozen? ⟨w.heap.size + 1, o, none⟩ = false by rw [hwi]; go_simp)
  rw [← hwi]
  have hTi := h.ext hxi
  have HSI := Lib.hid hsi
  clear hwi hsi
  have hgl : w.heap.size + 1 < wi.heap.size := World.block_lt_of_cell? wi _ y0
  have hne1 : w.heap.size + 1 ≠ w.heap.size := by omega
  have Z := Lib.hid z
  clear z
  have KEY : Hid (Calls Try.prog 87 #[x.tm.val A c] wi.drew (Copied x.tm wi.drew)) := Lib.hid (copied_any x.tm A c _ HA.out (hTi.ext (Ext.refl _).drew))
  have e0 : wi.drew.cell? ⟨w.heap.size, 0, none⟩ = some (.string x.name) := a0
  have e1 : wi.drew.cell? ⟨w.heap.size, 1, none⟩ = some (.int .i64 x.tm.kind) := a1
  have e2 : wi.drew.cell? ⟨w.heap.size, 2, none⟩ = some (.string x.tm.name) := a2
  have e3 : wi.drew.cell? ⟨w.heap.size, 3, none⟩ = some (.int .i64 x.tm.n) := a3
  have e4 : wi.drew.cell? ⟨w.heap.size, 4, none⟩ = some (.slice A x.tm.args.length c) := a4
  go_region_held3 (fun u => u.cell? ⟨w.heap.size, 0, none⟩ = some (.string x.name) ∧ u.cell? ⟨w.heap.size, 1, none⟩ = some (.int .i64 x.tm.kind) ∧ u.cell? ⟨w.heap.size, 2, none⟩ = some (.string x.tm.name) ∧
      u.cell? ⟨w.heap.size, 3, none⟩ = some (.int .i64 x.tm.n) ∧ u.cell? ⟨w.heap.size, 4, none⟩ = some (.slice A x.tm.args.length c))
    (first | (with_reducible exact ⟨a0, a1, a2, a3, a4⟩) | (with_reducible exact ⟨e0, e1, e2, e3, e4⟩) | (with_reducible exact ⟨hx2.cell e0, hx2.cell e1, hx2.cell e2, hx2.cell e3, hx2.cell e4⟩) | exact ⟨set5_far (o := 0) (hx2.cell e0) hne1, set5_far (o := 0) (hx2.cell e1) hne1, set5_far (o := 0) (hx2.cell e2) hne1, set5_far (o := 0) (hx2.cell e3) hne1, set5_far (o := 0) (hx2.cell e4) hne1⟩)
    (first | (go_at_call 87; refine KEY.out.mono ?_; rintro ee w2 ⟨A', c', rfl, hO, hx2⟩; have hx2' : Ext wi w2 := (Ext.refl _).drew.trans hx2; have v0 := hx2'.cell y0; have v1 := hx2'.cell y1; have v2 := hx2'.cell y2; have v3 := hx2'.cell y3; have v4 := hx2'.cell y4; have g0 := (Below.frozen hx2' (p := ⟨w.heap.size + 1, 0, none⟩) hgl).trans (Z.out 0); have g1 := (Below.frozen hx2' (p := ⟨w.heap.size + 1, 1, none⟩) hgl).trans (Z.out 1); have g2 := (Below.frozen hx2' (p := ⟨w.heap.size + 1, 2, none⟩) hgl).trans (Z.out 2); have g3 := (Below.frozen hx2' (p := ⟨w.heap.size + 1, 3, none⟩) hgl).trans (Z.out 3); have g4 := (Below.frozen hx2' (p := ⟨w.heap.size + 1, 4, none⟩) hgl).trans (Z.out 4)))
  have HO := Lib.hid (hO.weak (F' := fun k => wi.heap.size ≤ k ∧ k < w2.heap.size) fun k hk => hk)
  clear e0 e1 e2 e3 e4 y0 y1 y2 y3 y4 a0 a1 a2 a3 a4 KEY hO g0 g1 g2 g3 g4
  go_wp2_with fail
  refine bodyPost_ret (v := x.val A' c') (by simp [results, Try.results100, go_sem, *]) rfl ⟨A', c', rfl, HO.out.answer5 (r := w.heap.size + 1) (B := w.heap.size) _ _ _ _ _ hgl (by have := HSI.out; omega) rfl, ?_⟩
  exact Chg.ext_of (hxi.trans hx2') (set5_chg w2 (w.heap.size + 1) 0 _ _ _ _ _ (F := fun x => x = w.heap.size + 1) rfl) (fun b hb => by omega)

set_option maxRecDepth 100000 in
set_option maxHeartbeats 2000000 in
/-- room for n binds -/
theorem grow_any (n : Nat) (w : World) (hn : n ≤ 1000000) :
    Calls Try.prog 149 #[.slice none 0 0, .int .i64 n] w fun e w' => ∃ v', e = .returned v' ∧ w'.ownsRow w.heap.size 65 5 v' 0 [] ∧ Ext w w' := by
  obtain ⟨i0', hi0, hz0, hz1, hz2⟩ := info_parts infoBd
  by_cases h0 : n = 0
  · subst h0
    go_enter Try.func149, Try.ntmps149
    go_wp2_with fail
    go_ret
    exact ⟨_, rfl, World.ownsRow_nil _ _ _ _, Ext.refl _⟩
  · have hp : (0 : Int) < (n : Int) := by omega
    have hrun : ∀ ty, (Builtin.append_ #[58, 3] ty #[.slice none 0 0, .int .i64 (n : Int)]).run Try.prog w = _ := fun ty =>
      Lib.run_append_nil_zeros (P := Try.prog) w 58 3 ty 65 i0' _ .i64 .i64 Try.underlying58 Try.underlying3 hi0 hz0 n (by omega) (by omega) (by omega) (by rw [hz2]; omega)
    have hG := grownCap_le_maxLen w n 0 65 (by unfold maxLen; omega)
    have hGn := grownCap_ge w n 0 65
    obtain ⟨G, hGe⟩ : ∃ G, G = grownCap w n 0 65 := ⟨_, rfl⟩
    rw [← hGe] at hrun hG hGn
    obtain ⟨ROW, hROW⟩ : ∃ ROW : Array Value, ROW = Builtin.zeroCells (Value.agg #[.string ⟨#[]⟩, .int .i64 0, .string ⟨#[]⟩, .int .i64 0, .slice none 0 0]).cells n ++ Builtin.zeroCells (Value.agg #[.string ⟨#[]⟩, .int .i64 0, .string ⟨#[]⟩, .int .i64 0, .slice none 0 0]).cells (G - n) := ⟨_, rfl⟩
    rw [← hROW] at hrun
    have hsz : Hid (ROW.size = G * 5) := Lib.hid (by
      rw [hROW, Array.size_append, size_zeroCells, size_zeroCells]
      simp only [Value.cells, List.size_toArray, List.length_cons, List.length_nil]; omega)
    have HRun := Lib.hid hrun
    clear hGe hROW hrun hz0 hz1 hz2 hi0 h0
    have r1 := fun u => run_to (P := Try.prog) Try.underlying58 Try.sizeOf65 u (some ⟨w.heap.size, 0, none⟩) n G 0 (Nat.zero_le _)
    go_enter Try.func149, Try.ntmps149
    go_wp2_with (at_builtin; refine Lib.wpList_append_run _ rfl _ _ _ _ rfl _ _ rfl rfl _ _ (HRun.out _) ?_)
    go_ret
    refine ⟨_, rfl, World.ownsRow_made w.drew ROW G (Nat.le_refl _) hG hsz.out, ((Ext.refl w).drew).alloc _⟩

set_option maxRecDepth 100000 in
set_option maxHeartbeats 4000000 in
theorem concat_any (aa bb : List Bd) (A B : Option Addr) (ca cb : Nat) (w : World) (ha : BdsAt w aa A) (hb : BdsAt w bb B) (hla : aa.length ≤ 1000) (hlb : bb.length ≤ 1000) (hca : aa.length ≤ ca) (hcb : bb.length ≤ cb)
    (xs ys : List BLain) (hxs : xs.map (·.1) = aa) (hys : ys.map (·.1) = bb) (hxc : ∀ b o, A = some ⟨b, o, none⟩ → ∀ j u, (browCells xs)[j]? = some u → w.cell? ⟨b, o + j, none⟩ = some u) (hyc : ∀ b o, B = some ⟨b, o, none⟩ → ∀ j u, (browCells ys)[j]? = some u → w.cell? ⟨b, o + j, none⟩ = some u)
    (vb : Nat) (h0 : w.cell? ⟨vb, 0, none⟩ = some (.slice A aa.length ca)) (h1 : w.cell? ⟨vb, 1, none⟩ = some (.slice B bb.length cb)) :
    Calls Try.prog 131 #[.slice (some ⟨vb, 0, none⟩) 2 2] w fun e w' => ∃ v', e = .returned v' ∧ w'.ownsRow w.heap.size 65 5 v' (aa.length + bb.length) (browCells xs ++ browCells ys) ∧ Ext w w' := by
  obtain ⟨i0, hi0, hz0, hz1, hz2⟩ := info_parts infoBd
  have HSA := Lib.hid (bds_src ha hca hxs hxc)
  have HSB := Lib.hid (bds_src hb hcb hys hyc)
  clear hxs hys hxc hyc ha hb
  go_enter Try.func131, Try.ntmps131
  go_wp2_with fail
  go_loop [3, 11] (fun s i => (s = .int .i64 0 ∧ i = .int .i64 0) ∨ (s = .int .i64 aa.length ∧ i = .int .i64 1) ∨ (s = .int .i64 ((aa.length : Int) + bb.length) ∧ i = .int .i64 2)) (fun _ i => 2 - (intOf i).toNat)
  case atStart => exact .inl ⟨rfl, rfl⟩
  case round =>
    rcases hrel with ⟨rfl, rfl⟩ | ⟨rfl, rfl⟩ | ⟨rfl, rfl⟩
    · go_wp2_with fail
      go_round
      case rel => exact .inr (.inl ⟨by go_num, rfl⟩)
      case measure => simp [intOf]
    · go_wp2_with fail
      go_round
      case rel => exact .inr (.inr ⟨by go_num, rfl⟩)
      case measure => simp [intOf]
    · have hnn : (0 : Int) ≤ (aa.length : Int) + bb.length := by omega
      go_wp2_with fail
      refine (grow_any (aa.length + bb.length) _ (by omega)).mono ?_
      rintro e1 w1 ⟨v1, rfl, hown, hx1⟩
      have h0' := h0
      have h1' := h1
      have HO := Lib.hid hown
      clear hown h0 h1
      go_wp2_with fail
      go_loopw [6, 27] (fun v i wr => Ext w wr ∧ ((i = .int .i64 0 ∧ Hid (wr.ownsRow w.heap.size 65 5 v 0 [])) ∨ (i = .int .i64 1 ∧ Hid (wr.ownsRow w.heap.size 65 5 v aa.length (browCells xs))) ∨ (i = .int .i64 2 ∧ Hid (wr.ownsRow w.heap.size 65 5 v (aa.length + bb.length) (browCells xs ++ browCells ys))))) (fun _ i _ => 2 - (intOf i).toNat)
      case atStart => exact ⟨hx1, .inl ⟨rfl, HO⟩⟩
      case round =>
        obtain ⟨hx, hcase⟩ := hrel
        obtain ⟨wp, rfl⟩ : ∃ wp : World, wp = wr := ⟨_, rfl⟩
        have hsz := hx.size
        rcases hcase with ⟨rfl, HW⟩ | ⟨rfl, HW⟩ | ⟨rfl, HW⟩
        · have q0 := hx.cell h0'
          have HS := Lib.hid (HSA.out.ext hx)
          go_wp2_with (at_builtin; refine wpList_app _ rfl _ _ 58 rfl w.heap.size 65 i0 _ 5 72 Try.underlying58 hi0 hz0 hz1 hz2 rfl (by decide) _ 0 [] rfl HW.out A aa.length ca (browCells xs) rfl HS.out (browCells_one' xs) ?qc3 ?qc4 ?qc5 ?_)
          case qc3 => unfold maxLen; omega
          case qc4 => omega
          case qc5 => exact hsz
          intro v' w2 hown hgr _
          have HO2 := Lib.hid (show w2.ownsRow w.heap.size 65 5 v' aa.length (browCells xs) by simpa using hown)
          have hx2 : Ext w w2 := Ext.own hx HW.out (Nat.le_refl _) hgr
          clear hown hgr
          go_wp2_with fail
          go_roundw
          case rel => exact ⟨hx2, .inr (.inl ⟨rfl, HO2⟩)⟩
          case measure => simp [intOf]
        · have q0 := hx.cell h1'
          have HS := Lib.hid (HSB.out.ext hx)
          go_wp2_with (at_builtin; refine wpList_app _ rfl _ _ 58 rfl w.heap.size 65 i0 _ 5 72 Try.underlying58 hi0 hz0 hz1 hz2 rfl (by decide) _ aa.length (browCells xs) rfl HW.out B bb.length cb (browCells ys) rfl HS.out (browCells_one' ys) ?qc3 ?qc4 ?qc5 ?_)
          case qc3 => unfold maxLen; omega
          case qc4 => omega
          case qc5 => exact hsz
          intro v' w2 hown hgr _
          have HO2 := Lib.hid hown
          have hx2 : Ext w w2 := Ext.own hx HW.out (Nat.le_refl _) hgr
          clear hown hgr
          go_wp2_with fail
          go_roundw
          case rel => exact ⟨hx2, .inr (.inr ⟨rfl, HO2⟩)⟩
          case measure => simp [intOf]
        · go_wp2_with fail
          go_ret
          exact ⟨_, rfl, HW.out, hx⟩
end Go.Proofs.Ytjmfjeeddnmoaaa

/- bind.merged: what it tells; what its loops keep. -/
namespace Go.Proofs.Ytjmfjeeddnmoaaa
open Go.RowKit

/-- one bind ahead of the others, and what is merged with those behind it -/
def mergeIn (x : Bd) (xs : List Bd) (rest : List Bd → Option (List Bd)) : List Bd → Option (List Bd)
  | [] => some (x :: xs)
  | y :: ys => if cmpS x.name y.name = -1 then (rest (y :: ys)).map (x :: ·) else if cmpS x.name y.name = 1 then (mergeIn x xs rest ys).map (y :: ·) else if cmpT x.tm y.tm = 0 then (rest ys).map (x :: ·) else none
/-- both together; none: one name stands for two terms -/
def mergeL : List Bd → List Bd → Option (List Bd)
  | [], ys => some ys
  | x :: xs, ys => mergeIn x xs (mergeL xs) ys
theorem mergeL_nil (xs : List Bd) : mergeL xs [] = some xs := by cases xs <;> rfl
theorem mergeL_cons (x : Bd) (xs : List Bd) (y : Bd) (ys : List Bd) : mergeL (x :: xs) (y :: ys) =
    if cmpS x.name y.name = -1 then (mergeL xs (y :: ys)).map (x :: ·) else if cmpS x.name y.name = 1 then (mergeL (x :: xs) ys).map (y :: ·) else if cmpT x.tm y.tm = 0 then (mergeL xs ys).map (x :: ·) else none := by
  rw [mergeL, mergeIn]; rfl

/-- binds collected so far, in memory of the call's own -/
structure MgAt (W wr : World) (v : Value) (zs : List BLain) (G : Nat → Nat → Prop) : Prop where
  own : wr.ownsRow W.heap.size 65 5 v zs.length (browCells zs)
  inv : CopyInv W wr v (zs.map BLain.tl) G
  names : ∀ z ∈ zs, z.1.name.size ≤ 140737488351232
def MgS (W wr : World) (v : Value) (us : List Bd) : Prop := ∃ zs G, zs.map (·.1) = us ∧ MgAt W wr v zs G
theorem MgAt.ext {W wr w' : World} {v : Value} {zs : List BLain} {G : Nat → Nat → Prop} (h : MgAt W wr v zs G) (k : Ext wr w') : MgAt W w' v zs G := ⟨ownsRow_ext h.own k, h.inv.ext' k, h.names⟩
theorem MgS.ext {W wr w' : World} {v : Value} {us : List Bd} (h : MgS W wr v us) (k : Ext wr w') : MgS W w' v us := by
  obtain ⟨zs, G, e, hM⟩ := h
  exact ⟨zs, G, e, hM.ext k⟩
theorem MgAt.step {W wr w1 w4 : World} {v v' : Value} {zs : List BLain} {G : Nat → Nat → Prop} (h : MgAt W wr v zs G) {x : Bd} {A : Option Addr} {c : Nat} (hn : x.name.size ≤ 140737488351232) {o : Obj}
    (hO : TmOwn w1 x.tm A c (fun k => wr.heap.size ≤ k ∧ k < w1.heap.size)) (hx : Ext wr w1) (hown : w4.ownsRow W.heap.size 65 5 v' (zs.length + 1) (browCells zs ++ BLain.cells (x, A, c))) (hg : (w1.alloc o).grownBy w4 v.ownBlock)
    (hat : v'.ownBlock = v.ownBlock ∨ v'.ownBlock = some (w1.alloc o).heap.size) : MgS W w4 v' (zs.map (·.1) ++ [x]) := by
  have hst := h.inv.step (y := BLain.tl (x, A, c)) (o := o) (v' := v') hO hx hg (fun b hb => h.own.lt b hb) (by simpa using hat)
  rw [← browCells_one (x, A, c), ← browCells_app] at hown
  refine ⟨zs ++ [(x, A, c)], _, by simp, by simpa using hown, by rw [List.map_append]; exact hst, fun z hz => ?_⟩
  rcases List.mem_append.1 hz with hz | hz
  · exact h.names z hz
  · obtain rfl := List.mem_singleton.1 hz
    exact hn
/-- what has been collected in the end -/
theorem MgS.done {W w : World} {v : Value} {us : List Bd} (h : MgS W w v us) : ∃ A c B d G, v = .slice A us.length c ∧ us.length ≤ c ∧ BdsOwn w us A (fun k => W.heap.size ≤ k ∧ k < w.heap.size) B d G := by
  obtain ⟨zs, G, rfl, hM⟩ := h
  have hl : (zs.map (·.1)).length = zs.length := List.length_map ..
  rcases hM.own.2 with ⟨rfl, h0⟩ | ⟨g, cap, cur, rfl, hgb, hg, hc, _⟩
  · have e : zs = [] := List.eq_nil_of_length_eq_zero h0
    subst e
    exact ⟨none, 0, fun _ => none, fun _ => 0, G, rfl, Nat.le_refl _, ⟨fun i hi => absurd hi (by simp), fun i hi => absurd hi (by simp), (fun b o e => by cases e), fun i hi => absurd hi (by simp), fun i j hi => absurd hi (by simp)⟩⟩
  · refine ⟨some ⟨g, 0, none⟩, cap, fun i => (zs[i]?.map (·.2.1)).getD none, fun i => (zs[i]?.map (·.2.2)).getD 0, G, by rw [hl], by rw [hl]; exact hc, ?_⟩
    have hlt := hM.own.lt g rfl
    refine ⟨fun i hi => ?_, fun i hi => ?_, fun b o e hp => ?_, fun i hi k hk => ?_, fun i j hi hj => hM.inv.apart i j (by simpa using hi) (by simpa using hj)⟩
    · rw [hl] at hi
      have cell : ∀ j, j < 5 → w.cell? ⟨g, 0 + i * 5 + j, none⟩ = zs[i].cells[j]? := fun j hj => by
        rw [show 0 + i * 5 + j = i * 5 + j by omega, hM.own.cellAt (i * 5 + j) (by omega), browCells_at zs i j (by omega) hj]
      refine ⟨g, 0, rfl, ?_, ?_, ?_, ?_, ?_, ?_⟩
      · have := cell 0 (by omega); simpa [BLain.cells] using this
      · have := cell 1 (by omega); simpa [BLain.cells] using this
      · have := cell 2 (by omega); simpa [BLain.cells] using this
      · have := cell 3 (by omega); simpa [BLain.cells] using this
      · have := cell 4 (by omega); simpa [BLain.cells, hi] using this
      · simpa using hM.names _ (List.getElem_mem hi)
    · rw [hl] at hi
      have := hM.inv.sub i (by simpa using hi)
      simp only [List.getElem_map, BLain.tl] at this
      simpa [hi] using this
    · injection e with e
      injection e with e1 e2
      subst e1 e2
      exact ⟨hlt, fun i hi hb => (hM.inv.inF i (by simpa using hi) g hb).2.2 rfl, fun j hj => by rw [Nat.zero_add]; exact hM.own.frozenAt j⟩
    · have := hM.inv.inF i (by simpa using hi) k hk
      exact ⟨this.1, this.2.1⟩

theorem bds_drop1 {w : World} {x : Bd} {r : List Bd} {A : Option Addr} {cap : Nat} (h : BdsAt w (x :: r) A) (hc : r.length + 1 ≤ cap) : BdsAt w r (cutA A cap 1 5) := by
  intro i hi
  obtain ⟨b, o, B, e, rfl, c0, c1, c2, c3, c4, hT, hn⟩ := h (i + 1) (by simpa using hi)
  simp only [List.getElem_cons_succ] at c0 c1 c2 c3 c4 hT hn
  refine ⟨b, o + 5, B, e, ?_, ?_, ?_, ?_, ?_, ?_, hT, hn⟩
  · unfold cutA
    rw [if_neg (by omega)]
    simp [add_addr]
  · rw [← c0]; congr 2; omega
  · rw [← c1]; congr 2; omega
  · rw [← c2]; congr 2; omega
  · rw [← c3]; congr 2; omega
  · rw [← c4]; congr 2; omega
end Go.Proofs.Ytjmfjeeddnmoaaa

/- bind.merged: the walk. -/
namespace Go.Proofs.Ytjmfjeeddnmoaaa
open Go.RowKit

/-- merged: the binds, or none -/
def MgdOut (aa bb : List Bd) (w : World) (e : Ending) (w' : World) : Prop :=
  Ext w w' ∧ ((mergeL aa bb = none ∧ e = .returned (.tuple #[.slice none 0 0, .bool false])) ∨
    ∃ us A c B d G, mergeL aa bb = some us ∧ e = .returned (.tuple #[.slice A us.length c, .bool true]) ∧ us.length ≤ c ∧ us.length ≤ aa.length + bb.length ∧ BdsOwn w' us A (fun k => w.heap.size ≤ k ∧ k < w'.heap.size) B d G)

theorem compare_ext (a b : ByteArray) (w : World) : Calls Try.prog 125 #[.string a, .string b] w fun e w' => e = .returned (.int .i64 (cmpS a b)) ∧ Ext w w' :=
  (compare_str a b w).mono fun _ _ ⟨he, h⟩ => ⟨he, h ▸ Ext.refl _⟩
theorem compare_is {a b : ByteArray} {k : Int} (hk : cmpS a b = k) (w : World) : Calls Try.prog 125 #[.string a, .string b] w fun e w' => e = .returned (.int .i64 k) ∧ Ext w w' := hk ▸ compare_ext a b w

theorem copy_in {x : Bd} {A : Option Addr} {c : Nat} {wr : World} (ha : allP x.tm) (h : TmAt wr x.tm A c) (u : World) (hu : Ext wr u) :
    Calls Try.prog 100 #[x.val A c] u fun e w' => ∃ A' c', e = .returned (x.val A' c') ∧ Hid (TmOwn w' x.tm A' c' (fun k => wr.heap.size ≤ k ∧ k < w'.heap.size)) ∧ Ext wr w' :=
  (copiedBind_any x A c u ha (h.ext hu)).mono fun _ _ ⟨A', c', he, hO, hx⟩ => ⟨A', c', he, Lib.hid (hO.weak fun _ hk => ⟨Nat.le_trans hu.size hk.1, hk.2⟩), hu.trans hx⟩

/-- the first loop's state -/
structure MgLoop (aa bb : List Bd) (w wr : World) (s0 s1 s6 : Value) (xs ys us : List Bd) : Prop where
  at0 : ∃ A c, s0 = .slice A xs.length c ∧ xs.length ≤ c ∧ BdsAt w xs A
  at1 : ∃ B c, s1 = .slice B ys.length c ∧ ys.length ≤ c ∧ BdsAt w ys B
  got : MgS w wr s6 us
  val : (mergeL xs ys).map (us ++ ·) = mergeL aa bb
  num : us.length + xs.length + ys.length ≤ aa.length + bb.length
  mayA : AllB xs ∧ ∀ i (h : i < xs.length), mayB xs[i].tm = true
  mayC : AllB ys ∧ ∀ i (h : i < ys.length), mayB ys[i].tm = true

theorem allTail {x : Bd} {xs : List Bd} (h : AllB (x :: xs) ∧ ∀ i (h : i < (x :: xs).length), mayB (x :: xs)[i].tm = true) : AllB xs ∧ ∀ i (h : i < xs.length), mayB xs[i].tm = true :=
  ⟨fun i hi => by have := h.1 (i + 1) (by simpa using hi); simpa using this, fun i hi => by have := h.2 (i + 1) (by simpa using hi); simpa using this⟩
theorem map_app {m : Option (List Bd)} (us : List Bd) (x : Bd) : (m.map (x :: ·)).map (us ++ ·) = m.map ((us ++ [x]) ++ ·) := by cases m <;> simp
section
variable {aa bb : List Bd} {w wr w' : World} {s0 s1 s6 s0' s1' s6' : Value} {x y : Bd} {xs ys us : List Bd}
theorem MgLoop.goA (h : MgLoop aa bb w wr s0 s1 s6 (x :: xs) ys us) (hv : mergeL (x :: xs) ys = (mergeL xs ys).map (x :: ·)) (hg : MgS w w' s6' (us ++ [x])) (h0 : ∃ A c, s0' = .slice A xs.length c ∧ xs.length ≤ c ∧ BdsAt w xs A) : MgLoop aa bb w w' s0' s1 s6' xs ys (us ++ [x]) :=
  ⟨h0, h.at1, hg, by rw [← h.val, hv, map_app], by have := h.num; simp only [List.length_append, List.length_cons, List.length_nil] at *; omega, allTail h.mayA, h.mayC⟩
theorem MgLoop.goB (h : MgLoop aa bb w wr s0 s1 s6 xs (y :: ys) us) (hv : mergeL xs (y :: ys) = (mergeL xs ys).map (y :: ·)) (hg : MgS w w' s6' (us ++ [y])) (h1 : ∃ A c, s1' = .slice A ys.length c ∧ ys.length ≤ c ∧ BdsAt w ys A) : MgLoop aa bb w w' s0 s1' s6' xs ys (us ++ [y]) :=
  ⟨h.at0, h1, hg, by rw [← h.val, hv, map_app], by have := h.num; simp only [List.length_append, List.length_cons, List.length_nil] at *; omega, h.mayA, allTail h.mayC⟩
theorem MgLoop.goC (h : MgLoop aa bb w wr s0 s1 s6 (x :: xs) (y :: ys) us) (hv : mergeL (x :: xs) (y :: ys) = (mergeL xs ys).map (x :: ·)) (hg : MgS w w' s6' (us ++ [x])) (h0 : ∃ A c, s0' = .slice A xs.length c ∧ xs.length ≤ c ∧ BdsAt w xs A) (h1 : ∃ A c, s1' = .slice A ys.length c ∧ ys.length ≤ c ∧ BdsAt w ys A) : MgLoop aa bb w w' s0' s1' s6' xs ys (us ++ [x]) :=
  ⟨h0, h1, hg, by rw [← h.val, hv, map_app], by have := h.num; simp only [List.length_append, List.length_cons, List.length_nil] at *; omega, allTail h.mayA, allTail h.mayC⟩
end
theorem MgS.ext_ {W wr : World} {v : Value} {us : List Bd} (h : MgS W wr v us) : Ext W wr := by
  obtain ⟨zs, G, _, hM⟩ := h
  exact hM.inv.ext
/-- what has been laid between lo and w4's end is as it was, and none of it is v's -/
def Far (w4 wq : World) (lo : Nat) (v : Value) : Prop := w4.heap.size ≤ wq.heap.size ∧ ∀ b, lo ≤ b → b < w4.heap.size → v.ownBlock ≠ some b ∧ wq.heap[b]? = w4.heap[b]?
/-- what the step of a merge does to a slice that is cut -/
theorem cutRule {A : Option Addr} {n cap : Nat} (u : World) : (Instr.slice 58 (.slice A (n + 1) cap) (some (.int .i64 1)) none none).run Try.prog u = .ok (.slice (cutA A cap 1 5) n (cap - 1)) u := by
  have := run_from (P := Try.prog) Try.underlying58 Try.sizeOf65 u A (n + 1) cap 1 (by omega)
  simpa using this

set_option maxRecDepth 100000 in
set_option maxHeartbeats 8000000 in
theorem merged_any (aa bb : List Bd) (A B : Option Addr) (ca cb : Nat) (w : World) (hA : BdsAt w aa A) (hB : BdsAt w bb B) (hca : aa.length ≤ ca) (hcb : bb.length ≤ cb) (hla : aa.length ≤ 100) (hlb : bb.length ≤ 100) (ma : ∀ i (h : i < aa.length), mayB aa[i].tm = true) (mb : ∀ i (h : i < bb.length), mayB bb[i].tm = true) :
    Calls Try.prog 98 #[.slice A aa.length ca, .slice B bb.length cb] w (MgdOut aa bb w) := by
  obtain ⟨i0', hi0, hz0, hz1, hz2⟩ := info_parts infoBd
  have hmk : ∀ u : World, (Instr.makeSlice 58 (.int .i64 0) (.int .i64 ((aa.length : Int) + bb.length))).run Try.prog u =
      .ok (.slice (some ⟨u.heap.size, 0, none⟩) 0 (aa.length + bb.length)) (u.alloc (.cells (madeCells #[.string ⟨#[]⟩, .int .i64 0, .string ⟨#[]⟩, .int .i64 0, .slice none 0 0] ((aa.length + bb.length) * 5)) 65)) := fun u => by
    have h := run_make (P := Try.prog) u 58 65 i0' _ Try.underlying58 hi0 hz0 .i64 .i64 0 ((aa.length : Int) + bb.length) (by omega) (by omega) (by rw [hz2]; omega) (by omega)
    rw [show ((aa.length : Int) + bb.length).toNat = aa.length + bb.length by omega] at h
    simp only [Int.toNat_zero, hz1] at h
    exact h
  have L0 : Hid (MgLoop aa bb w (w.alloc (.cells (madeCells #[.string ⟨#[]⟩, .int .i64 0, .string ⟨#[]⟩, .int .i64 0, .slice none 0 0] ((aa.length + bb.length) * 5)) 65)) (.slice A aa.length ca) (.slice B bb.length cb) (.slice (some ⟨w.heap.size, 0, none⟩) 0 (aa.length + bb.length)) aa bb []) :=
    Lib.hid ⟨⟨A, ca, rfl, hca, hA⟩, ⟨B, cb, rfl, hcb, hB⟩, ⟨[], fun _ _ => False, rfl, World.ownsRow_made w _ _ (Nat.le_refl _) (by unfold maxLen; omega) (size_madeCells _ _), ⟨fun i hi => absurd hi (by simp), fun i hi => absurd hi (by simp), fun i j hi => absurd hi (by simp), (Ext.refl _).alloc _⟩, fun z hz => absurd hz (by simp)⟩,
      by cases mergeL aa bb <;> simp, by simp, ⟨fun i hi => may_all (ma i hi), ma⟩, ⟨fun i hi => may_all (mb i hi), mb⟩⟩
  clear hA hB ma mb
  go_enter Try.func98, Try.ntmps98
  go_wp2_with fail
  clear hmk
  go_loopg [0, 1, 6] (aa.length + bb.length) (fun kx s0 s1 s6 wr => ∃ xs ys us, Hid (MgLoop aa bb w wr s0 s1 s6 xs ys us) ∧ xs.length + ys.length ≤ kx)
  case atStart => exact ⟨aa, bb, [], L0, Nat.le_refl _⟩
  case round =>
    obtain ⟨xs, ys, us, HL, hk⟩ := hrel
    clear L0
    obtain ⟨A', ca', rfl, hca', hA'⟩ := HL.out.at0
    obtain ⟨B', cb', rfl, hcb', hB'⟩ := HL.out.at1
    have hxr : Ext w wr := HL.out.got.ext_
    by_cases hend : 0 < xs.length ∧ 0 < ys.length
    · cases xs with
      | nil => exact absurd hend.1 (by simp)
      | cons x xs' =>
      cases ys with
      | nil => exact absurd hend.2 (by simp)
      | cons y ys' =>
        clear hend
        obtain ⟨b, o, Bx, ex, rfl, c0, c1, c2, c3, c4, hTx, hnx⟩ := hA' 0 (by simp)
        obtain ⟨b2, o2, By, ey, rfl, d0, d1, d2, d3, d4, hTy, hny⟩ := hB' 0 (by simp)
        simp only [Nat.zero_mul, Nat.add_zero, List.getElem_cons_zero, List.length_cons] at c0 c1 c2 c3 c4 hTx hnx d0 d1 d2 d3 d4 hTy hny hca' hcb' hk
        have HA2 := Lib.hid (bds_drop1 hA' hca')
        have HB2 := Lib.hid (bds_drop1 hB' hcb')
        have hax : allP x.tm := HL.out.mayA.1 0 (by simp)
        have hay : allP y.tm := HL.out.mayC.1 0 (by simp)
        have HX := Lib.hid hax
        have HY := Lib.hid hay
        obtain ⟨A2, hA2⟩ : ∃ A2, A2 = cutA (some ⟨b, o, none⟩) ca' 1 5 := ⟨_, rfl⟩
        obtain ⟨B2, hB2⟩ : ∃ B2, B2 = cutA (some ⟨b2, o2, none⟩) cb' 1 5 := ⟨_, rfl⟩
        rw [← hA2] at HA2
        rw [← hB2] at HB2
        have r1 := fun (u : World) => (cutRule (A := some ⟨b, o, none⟩) (n := xs'.length) (cap := ca') u).trans (congrArg (fun A => Result.ok (Value.slice A xs'.length (ca' - 1)) u) hA2.symm)
        have r2 := fun (u : World) => (cutRule (A := some ⟨b2, o2, none⟩) (n := ys'.length) (cap := cb') u).trans (congrArg (fun A => Result.ok (Value.slice A ys'.length (cb' - 1)) u) hB2.symm)
        clear hA2 hB2 hA' hB' hax hay
        have N0 : ∀ p : ExtOf wr, p.to.cell? ⟨b, o, none⟩ = some (.string x.name) := ext_cell (hxr.cell c0)
        have N1 : ∀ p : ExtOf wr, p.to.cell? ⟨b2, o2, none⟩ = some (.string y.name) := ext_cell (hxr.cell d0)
        have hbd := cmpS_bd x.name y.name
        have hcases : cmpS x.name y.name = -1 ∨ cmpS x.name y.name = 1 ∨ cmpS x.name y.name = 0 := by omega
        clear hbd
        go_wp2_with fail
        rcases hcases with hc | hc | hc
        · have HC := Lib.hid hc
          clear hc
          refine wp_region_ext (by kernel_rfl) (by kernel_rfl) ?_
          repeat (go_big_quiet_step ((go_at_call 125; exact of_ext (compare_is HC.out _))))
          refine wpQuiet_nil ?_
          refine ext_all ?_
          intro w2 hx2
          have hxw2 := hxr.trans hx2
          obtain ⟨zs, G, hzs, hM⟩ := HL.out.got.ext hx2
          have hown := hM.own
          have HM := Lib.hid hM
          have HZ := Lib.hid hzs
          have hzl : zs.length ≤ 200 := by have := HL.out.num; have : zs.length = us.length := by rw [← hzs, List.length_map]
                                           omega
          have hsz := hxw2.size
          have rulesI := fun (u : World) (k : Ext w u) => And.intro (k.cell c0) (And.intro (k.cell c1) (And.intro (k.cell c2) (And.intro (k.cell c3) (k.cell c4))))
          have CBp := Lib.hid (fun u hu => copy_in (wr := w2) HX.out (hTx.ext hxw2) u hu)
          clear N0 N1 hzs hM
          go_wp2_with fail
          go_region_held3 (fun u => Ext w u) (first | assumption | exact hxw2.drew | exact Ext.alloc hS5 _)
            (first
              | (go_at_call 100; refine (CBp.out _ (Ext.refl _).drew).mono ?_; rintro e5 w5 ⟨A5, c5, rfl, hO5, hx5⟩; have hS5 := hxw2.trans hx5; have hown5 := ownsRow_ext hown hx5)
              | (refine step_app _ (by rfl) _ _ 58 (by rfl) w.heap.size 65 i0' _ 5 72 Try.underlying58 hi0 hz0 hz1 hz2 rfl (by decide) _ zs.length (browCells zs) (by rfl) (hown5.alloc _) (some ⟨w5.heap.size, 0, none⟩) 1 1 (BLain.cells (x, A5, c5)) (by rfl) (Src.box w5 #[.string x.name, .int .i64 x.tm.kind, .string x.tm.name, .int .i64 x.tm.n, .slice A5 x.tm.args.length c5] 65 5 rfl) (BLain.one _) (by simp only [maxLen]; omega) (by omega) (hS5.alloc _).size ?_; intro v7 w7 ho7 hg7 hat7; have hS7 : Ext w w7 := (hS5.alloc _).own (hown5.alloc _) (Nat.le_refl _) hg7; have HS7 := Lib.hid (HM.out.step hnx hO5.out hx5 ho7 hg7 hat7); clear ho7 hg7 hat7))
          go_wp2_with fail
          have HG := Lib.hid (show MgS w w7 v7 (us ++ [x]) by rw [← HZ.out]; exact HS7.out)
          go_roundg (xs'.length + (ys'.length + 1))
          case measure => omega
          case rel => exact ⟨xs', y :: ys', us ++ [x], Lib.hid (HL.out.goA (by rw [mergeL_cons, if_pos HC.out]) HG.out ⟨A2, ca' - 1, rfl, by omega, HA2.out⟩), by simp⟩
        · have HC := Lib.hid hc
          clear hc
          refine wp_region_ext (by kernel_rfl) (by kernel_rfl) ?_
          repeat (go_big_quiet_step ((go_at_call 125; exact of_ext (compare_is HC.out _))))
          refine wpQuiet_nil ?_
          refine ext_all ?_
          intro w2 hx2
          have hxw2 := hxr.trans hx2
          obtain ⟨zs, G, hzs, hM⟩ := HL.out.got.ext hx2
          have hown := hM.own
          have HM := Lib.hid hM
          have HZ := Lib.hid hzs
          have hzl : zs.length ≤ 200 := by have := HL.out.num; have : zs.length = us.length := by rw [← hzs, List.length_map]
                                           omega
          have hsz := hxw2.size
          have rulesI := fun (u : World) (k : Ext w u) => And.intro (k.cell d0) (And.intro (k.cell d1) (And.intro (k.cell d2) (And.intro (k.cell d3) (k.cell d4))))
          have CBp := Lib.hid (fun u hu => copy_in (wr := w2) HY.out (hTy.ext hxw2) u hu)
          clear N0 N1 hzs hM
          go_wp2_with fail
          go_region_held3 (fun u => Ext w u) (first | assumption | exact hxw2.drew | exact Ext.alloc hS5 _)
            (first
              | (go_at_call 100; refine (CBp.out _ (Ext.refl _).drew).mono ?_; rintro e5 w5 ⟨A5, c5, rfl, hO5, hx5⟩; have hS5 := hxw2.trans hx5; have hown5 := ownsRow_ext hown hx5)
              | (refine step_app _ (by rfl) _ _ 58 (by rfl) w.heap.size 65 i0' _ 5 72 Try.underlying58 hi0 hz0 hz1 hz2 rfl (by decide) _ zs.length (browCells zs) (by rfl) (hown5.alloc _) (some ⟨w5.heap.size, 0, none⟩) 1 1 (BLain.cells (y, A5, c5)) (by rfl) (Src.box w5 #[.string y.name, .int .i64 y.tm.kind, .string y.tm.name, .int .i64 y.tm.n, .slice A5 y.tm.args.length c5] 65 5 rfl) (BLain.one _) (by simp only [maxLen]; omega) (by omega) (hS5.alloc _).size ?_; intro v7 w7 ho7 hg7 hat7; have hS7 : Ext w w7 := (hS5.alloc _).own (hown5.alloc _) (Nat.le_refl _) hg7; have HS7 := Lib.hid (HM.out.step hny hO5.out hx5 ho7 hg7 hat7); clear ho7 hg7 hat7))
          go_wp2_with fail
          have HG := Lib.hid (show MgS w w7 v7 (us ++ [y]) by rw [← HZ.out]; exact HS7.out)
          go_roundg (xs'.length + 1 + ys'.length)
          case measure => omega
          case rel => exact ⟨x :: xs', ys', us ++ [y], Lib.hid (HL.out.goB (by rw [mergeL_cons, if_neg (by rw [HC.out]; decide), if_pos HC.out]) HG.out ⟨B2, cb' - 1, rfl, by omega, HB2.out⟩), by simp⟩
        · have HC := Lib.hid hc
          clear hc
          refine wp_region_ext (by kernel_rfl) (by kernel_rfl) ?_
          repeat (go_big_quiet_step ((go_at_call 125; exact of_ext (compare_is HC.out _))))
          refine wpQuiet_nil ?_
          refine ext_all ?_
          intro w2 hx2
          have hxw2 := hxr.trans hx2
          have Q0 : ∀ p : ExtOf w2, p.to.cell? ⟨b, o + 1, none⟩ = some (.int .i64 x.tm.kind) := ext_cell (hxw2.cell c1)
          have Q1 : ∀ p : ExtOf w2, p.to.cell? ⟨b, o + 2, none⟩ = some (.string x.tm.name) := ext_cell (hxw2.cell c2)
          have Q2 : ∀ p : ExtOf w2, p.to.cell? ⟨b, o + 3, none⟩ = some (.int .i64 x.tm.n) := ext_cell (hxw2.cell c3)
          have Q3 : ∀ p : ExtOf w2, p.to.cell? ⟨b, o + 4, none⟩ = some (.slice Bx x.tm.args.length ex) := ext_cell (hxw2.cell c4)
          have Q4 : ∀ p : ExtOf w2, p.to.cell? ⟨b2, o2 + 1, none⟩ = some (.int .i64 y.tm.kind) := ext_cell (hxw2.cell d1)
          have Q5 : ∀ p : ExtOf w2, p.to.cell? ⟨b2, o2 + 2, none⟩ = some (.string y.tm.name) := ext_cell (hxw2.cell d2)
          have Q6 : ∀ p : ExtOf w2, p.to.cell? ⟨b2, o2 + 3, none⟩ = some (.int .i64 y.tm.n) := ext_cell (hxw2.cell d3)
          have Q7 : ∀ p : ExtOf w2, p.to.cell? ⟨b2, o2 + 4, none⟩ = some (.slice By y.tm.args.length ey) := ext_cell (hxw2.cell d4)
          have hmx : mayB x.tm = true := HL.out.mayA.2 0 (by simp)
          have hmy : mayB y.tm = true := HL.out.mayC.2 0 (by simp)
          have ORD : Hid (∀ p : ExtOf w2, Calls Try.prog 31 #[x.tm.val Bx ex, y.tm.val By ey] p.to fun e w' => e = .returned (.tuple #[.int .i64 (cmpT x.tm y.tm), .int .i64 0]) ∧ Ext p.to w') := Lib.hid fun p => Order_yes _ _ _ _ _ _ _ (hTx.ext (hxw2.trans p.is)) (hTy.ext (hxw2.trans p.is)) hmx hmy
          clear N0 N1 hmx hmy
          go_wp2_with fail
          refine wp_region_ext (by kernel_rfl) (by kernel_rfl) ?_
          repeat (go_big_quiet_step ((go_at_call 31; exact of_ext (ORD.out _))))
          refine wpQuiet_nil ?_
          refine ext_all ?_
          intro w3 hx3
          have hxw3 := hxw2.trans hx3
          clear Q0 Q1 Q2 Q3 Q4 Q5 Q6 Q7
          by_cases hct : cmpT x.tm y.tm = 0
          · have HCT := Lib.hid hct
            obtain ⟨zs, G, hzs, hM⟩ := (HL.out.got.ext hx2).ext hx3
            have hown := hM.own
            have HM := Lib.hid hM
            have HZ := Lib.hid hzs
            have hzl : zs.length ≤ 200 := by have := HL.out.num; have : zs.length = us.length := by rw [← hzs, List.length_map]
                                             omega
            have hsz := hxw3.size
            have rulesI := fun (u : World) (k : Ext w u) => And.intro (k.cell c0) (And.intro (k.cell c1) (And.intro (k.cell c2) (And.intro (k.cell c3) (k.cell c4))))
            have CBp := Lib.hid (fun u hu => copy_in (wr := w3) HX.out (hTx.ext hxw3) u hu)
            clear hzs hM hx3
            go_wp2_with fail
            go_region_held3 (fun u => Ext w u) (first | assumption | exact hxw3.drew | exact Ext.alloc hS5 _)
              (first
                | (go_at_call 100; refine (CBp.out _ (Ext.refl _).drew).mono ?_; rintro e5 w5 ⟨A5, c5, rfl, hO5, hx5⟩; have hS5 := hxw3.trans hx5; have hown5 := ownsRow_ext hown hx5)
                | (refine step_app _ (by rfl) _ _ 58 (by rfl) w.heap.size 65 i0' _ 5 72 Try.underlying58 hi0 hz0 hz1 hz2 rfl (by decide) _ zs.length (browCells zs) (by rfl) (hown5.alloc _) (some ⟨w5.heap.size, 0, none⟩) 1 1 (BLain.cells (x, A5, c5)) (by rfl) (Src.box w5 #[.string x.name, .int .i64 x.tm.kind, .string x.tm.name, .int .i64 x.tm.n, .slice A5 x.tm.args.length c5] 65 5 rfl) (BLain.one _) (by simp only [maxLen]; omega) (by omega) (hS5.alloc _).size ?_; intro v7 w7 ho7 hg7 hat7; have hS7 : Ext w w7 := (hS5.alloc _).own (hown5.alloc _) (Nat.le_refl _) hg7; have HS7 := Lib.hid (HM.out.step hnx hO5.out hx5 ho7 hg7 hat7); clear ho7 hg7 hat7))
            go_wp2_with fail
            have HG := Lib.hid (show MgS w w7 v7 (us ++ [x]) by rw [← HZ.out]; exact HS7.out)
            go_roundg (xs'.length + ys'.length)
            case measure => omega
            case rel => exact ⟨xs', ys', us ++ [x], Lib.hid (HL.out.goC (by rw [mergeL_cons, if_neg (by rw [HC.out]; decide), if_neg (by rw [HC.out]; decide), if_pos HCT.out]) HG.out ⟨A2, ca' - 1, rfl, by omega, HA2.out⟩ ⟨B2, cb' - 1, rfl, by omega, HB2.out⟩), Nat.le_refl _⟩
          · have HNo : Hid (mergeL aa bb = none) := Lib.hid (by rw [← HL.out.val, mergeL_cons, if_neg (by rw [HC.out]; decide), if_neg (by rw [HC.out]; decide), if_neg hct]; rfl)
            have hne : (cmpT x.tm y.tm != 0) = true := by simpa using hct
            go_wp2_with fail
            go_ret2
            exact ⟨hxw3, .inl ⟨HNo.out, rfl⟩⟩
    · have HV : Hid (mergeL aa bb = some (us ++ (xs ++ ys))) := Lib.hid (by
        rw [← HL.out.val]
        cases xs with
        | nil => simp [mergeL]
        | cons x xs' =>
          cases ys with
          | nil => rw [mergeL_nil]; simp
          | cons y ys' => exact absurd ⟨by simp, by simp⟩ hend)
      obtain ⟨wp, rfl⟩ : ∃ wp : World, wp = wr := ⟨_, rfl⟩
      obtain ⟨xl, hxl, hxt, hxc⟩ := bds_list hA'
      obtain ⟨yl, hyl, hyt, hyc⟩ := bds_list hB'
      obtain ⟨us', hus'⟩ : ∃ us', us' = us := ⟨us, rfl⟩
      have hM0 := Lib.hid HL.out.got
      have hnum := HL.out.num
      have hsr := hxr.size
      have HAll : Hid (∀ x ∈ xl ++ yl, allP x.1.tm) := Lib.hid (fun x hx => by
        rcases List.mem_append.1 hx with hx | hx
        · have : x.1 ∈ xs := by rw [← hxl]; exact List.mem_map.2 ⟨x, hx, rfl⟩
          obtain ⟨i, hi, e⟩ := List.getElem_of_mem this
          rw [← e]; exact HL.out.mayA.1 i hi
        · have : x.1 ∈ ys := by rw [← hyl]; exact List.mem_map.2 ⟨x, hx, rfl⟩
          obtain ⟨i, hi, e⟩ := List.getElem_of_mem this
          rw [← e]; exact HL.out.mayC.1 i hi)
      have HT : Hid (∀ x ∈ xl ++ yl, TmAt w x.1.tm x.2.1 x.2.2 ∧ x.1.name.size ≤ 140737488351232) := Lib.hid (fun x hx => (List.mem_append.1 hx).elim (hxt x) (hyt x))
      have HMap : Hid ((xl ++ yl).map (·.1) = xs ++ ys) := Lib.hid (by rw [List.map_append, hxl, hyl])
      have hlenx : xl.length = xs.length := by rw [← hxl, List.length_map]
      have hleny : yl.length = ys.length := by rw [← hyl, List.length_map]
      have HLL : Hid ((xl ++ yl).length = xs.length + ys.length) := Lib.hid (by rw [List.length_append, hlenx, hleny])
      obtain ⟨OBJ, hOBJ⟩ : ∃ OBJ, OBJ = Obj.cells #[.slice A' xs.length ca', .slice B' ys.length cb'] 58 := ⟨_, rfl⟩
      have KEY : Hid (Calls Try.prog 131 #[.slice (some ⟨wp.heap.size, 0, none⟩) 2 2] (wp.alloc (.cells #[.slice A' xs.length ca', .slice B' ys.length cb'] 58)) fun e w' => ∃ A4 c4, e = .returned (.slice A4 (xs.length + ys.length) c4) ∧ Hid (w'.ownsRow (wp.heap.size + 1) 65 5 (.slice A4 (xs.length + ys.length) c4) (xs.length + ys.length) (browCells (xl ++ yl))) ∧ Ext wp w') := Lib.hid (by
        have hxa : Ext w (wp.alloc (.cells #[.slice A' xs.length ca', .slice B' ys.length cb'] 58)) := hxr.alloc _
        refine (concat_any xs ys A' B' ca' cb' _ (hA'.ext hxa) (hB'.ext hxa) (by omega) (by omega) hca' hcb' xl yl hxl hyl (fun b o e j u hj => hxa.cell (hxc b o e j u hj)) (fun b o e j u hj => hxa.cell (hyc b o e j u hj)) wp.heap.size (by go_simp) (by go_simp)).mono ?_
        rintro e w' ⟨v', rfl, hown, hx⟩
        rw [← browCells_app] at hown
        simp only [heap_size_alloc] at hown
        rcases src_own hown with ⟨A4, c4, rfl, _⟩
        exact ⟨A4, c4, rfl, Lib.hid hown, ((Ext.refl _).alloc _).trans hx⟩)
      clear hxl hyl hxt hyt hxc hyc hlenx hleny hOBJ hus'
      have hcase : (0 < xs.length ∧ ¬ 0 < ys.length) ∨ ¬ 0 < xs.length := by omega
      clear hend
      have h0case : (decide (0 < xs.length) = true ∧ decide (0 < ys.length) = false) ∨ decide (0 < xs.length) = false := by
        rcases hcase with ⟨g0, g1⟩ | g0
        · exact .inl ⟨decide_eq_true g0, decide_eq_false g1⟩
        · exact .inr (decide_eq_false g0)
      clear hcase
      rcases h0case with ⟨hd0, hd1⟩ | hd0
      all_goals
        first | (have hq0 : 0 < xs.length := of_decide_eq_true hd0) | skip
        go_wp2_with fail
        refine KEY.out.mono ?_
        rintro e4 w4 ⟨A4, c4, rfl, HO4, hx4⟩
        have HROW : Hid (∀ i (h : i < (xl ++ yl).length), ∃ b, A4 = some ⟨b, 0, none⟩ ∧ wp.heap.size + 1 ≤ b ∧ b < w4.heap.size ∧ ∀ j, j < 5 → w4.cell? ⟨b, i * 5 + j, none⟩ = (xl ++ yl)[i].cells[j]?) := Lib.hid (fun i hi => by
          have ho := HO4.out
          rcases ho.2 with ⟨e, h0⟩ | ⟨g, cap, cur, e, hgb, hgc, _⟩
          · have := HLL.out; omega
          · injection e with e1 e2 e3
            subst e1 e3
            exact ⟨g, rfl, hgb, (Array.getElem?_eq_some_iff.1 hgc).1, fun j hj => by rw [ho.cellAt (i * 5 + j) (by have := HLL.out; omega), browCells_at _ i j hi hj]⟩)
        have hsz4 := hx4.size
        have HM4 : Hid (MgS w w4 u6 (us ++ (xs ++ ys).take 0)) := Lib.hid (by rw [List.take_zero, List.append_nil]; exact hM0.out.ext hx4)
        have HF4 : Hid (Far w4 w4 (wp.heap.size + 1) u6) := Lib.hid ⟨Nat.le_refl _, fun b hb _ => ⟨fun e => by
          obtain ⟨zs, G, _, hM⟩ := hM0.out
          have := hM.own.lt b e
          omega, rfl⟩⟩
        clear KEY HO4 hM0
        go_wp2_with fail
        go_loopw [6, 86] (fun v i wq => ∃ k : Nat, k ≤ xs.length + ys.length ∧ i = .int .i64 k ∧ Hid (MgS w wq v (us ++ (xs ++ ys).take k)) ∧ Hid (Far w4 wq (wp.heap.size + 1) v)) (fun _ i _ => xs.length + ys.length - (intOf i).toNat)
        case atStart => exact ⟨0, Nat.zero_le _, rfl, HM4, HF4⟩
        case round =>
          clear HM4 HF4
          obtain ⟨k, hkn, rfl, HMk, HFk⟩ := hrel
          obtain ⟨wq, rfl⟩ : ∃ wq : World, wq = wr := ⟨_, rfl⟩
          have hxq := HMk.out.ext_
          have hszq := HFk.out.1
          by_cases hlt : k < xs.length + ys.length
          · have hkl : Hid (k < (xl ++ yl).length) := Lib.hid (by have := HLL.out; omega)
            obtain ⟨b, rfl, hb0, hb1, hcell⟩ := HROW.out k hkl.out
            obtain ⟨x, hxk⟩ : ∃ x : BLain, x = (xl ++ yl)[k]'hkl.out := ⟨_, rfl⟩
            have hmem : x ∈ xl ++ yl := by rw [hxk]; exact List.getElem_mem _
            have hax := Lib.hid (HAll.out x hmem)
            obtain ⟨hTx0, hnx⟩ := HT.out x hmem
            have hTx := hTx0.ext hxq
            have hxm : Hid (x.1 = (xs ++ ys)[k]'(by have := HLL.out; rw [List.length_append]; exact hlt)) := Lib.hid (by
              have := congrArg (fun l : List Bd => l[k]?) HMap.out
              simp only [List.getElem?_map, List.getElem?_eq_getElem hkl.out, Option.map_some] at this
              rw [List.getElem?_eq_getElem (by rw [List.length_append]; exact hlt)] at this
              rw [hxk]; exact Option.some.inj this)
            rw [← hxk] at hcell
            have heq : ∀ o, wq.cell? ⟨b, o, none⟩ = w4.cell? ⟨b, o, none⟩ := fun o => World.cell?_of_block (w := w4) (HFk.out.2 b hb0 hb1).2
            have c0 : wq.cell? ⟨b, k * 5, none⟩ = some (.string x.1.name) := (heq _).trans (hcell 0 (by omega))
            have c1 : wq.cell? ⟨b, k * 5 + 1, none⟩ = some (.int .i64 x.1.tm.kind) := (heq _).trans (hcell 1 (by omega))
            have c2 : wq.cell? ⟨b, k * 5 + 2, none⟩ = some (.string x.1.tm.name) := (heq _).trans (hcell 2 (by omega))
            have c3 : wq.cell? ⟨b, k * 5 + 3, none⟩ = some (.int .i64 x.1.tm.n) := (heq _).trans (hcell 3 (by omega))
            have c4' : wq.cell? ⟨b, k * 5 + 4, none⟩ = some (.slice x.2.1 x.1.tm.args.length x.2.2) := (heq _).trans (hcell 4 (by omega))
            clear hcell heq hxk hmem hTx0
            obtain ⟨zs, G, hzs, hM⟩ := HMk.out
            have hown := hM.own
            have HM := Lib.hid hM
            have HZ := Lib.hid hzs
            have hzl : zs.length ≤ 200 := by
              have e : zs.length = (us ++ (xs ++ ys).take k).length := by rw [← hzs, List.length_map]
              rw [List.length_append, List.length_take, List.length_append] at e
              omega
            clear hM hzs
            go_wp2_with fail
            refine (copy_in (wr := wq) hax.out hTx _ ((Ext.refl _).alloc _)).mono ?_
            rintro e5 w5 ⟨A5, c5, rfl, hO5, hx5⟩
            have hown5 := ownsRow_ext hown hx5
            have hs5 := hx5.size
            have hsw := hxq.size
            go_wp2_with (at_builtin; refine wpList_app _ rfl _ _ 58 rfl w.heap.size 65 i0' _ 5 72 Try.underlying58 hi0 hz0 hz1 hz2 rfl (by decide) _ zs.length (browCells zs) rfl (hown5.alloc _) (some ⟨w5.heap.size, 0, none⟩) 1 1 (BLain.cells (x.1, A5, c5)) rfl (Src.box w5 #[.string x.1.name, .int .i64 x.1.tm.kind, .string x.1.tm.name, .int .i64 x.1.tm.n, .slice A5 x.1.tm.args.length c5] 65 5 rfl) (BLain.one _) ?qc3 ?qc4 ?qc5 ?_)
            case qc3 => unfold maxLen; omega
            case qc4 => omega
            case qc5 => simp only [heap_size_alloc]; omega
            intro v7 w7 ho7 hg7 hat7
            have HS7 : Hid (MgS w w7 v7 (us ++ (xs ++ ys).take (k + 1))) := Lib.hid (by
              have := HM.out.step hnx hO5.out hx5 ho7 hg7 (by simpa using hat7)
              rw [HZ.out, hxm.out] at this
              rw [List.take_succ_eq_append_getElem (by rw [List.length_append]; exact hlt), ← List.append_assoc]
              exact this)
            have HF7 : Hid (Far w4 w7 (wp.heap.size + 1) v7) := Lib.hid ⟨by have := hg7.size; simp only [heap_size_alloc] at this; omega, fun q hq0 hq1 => by
              obtain ⟨hne, hqe⟩ := HFk.out.2 q hq0 hq1
              refine ⟨fun e => ?_, ?_⟩
              · rcases hat7 with h | h
                · exact hne (h ▸ e)
                · rw [h] at e; have := Option.some.inj e; omega
              · rw [hg7.block q (by simp only [heap_size_alloc]; omega) (fun e => hne e.symm), Below.heap_alloc w5 _ q (by omega), hx5.block q (by omega), hqe]⟩
            clear ho7 hg7 hat7 hown5 hown c0 c1 c2 c3 c4' hTx
            go_wp2_with fail
            go_roundw
            case rel => exact ⟨k + 1, by omega, by go_num, HS7, HF7⟩
            case measure => simp [intOf]; omega
          · have hk : k = xs.length + ys.length := by omega
            have HD := HMk.out
            rw [List.take_of_length_le (by rw [List.length_append]; omega)] at HD
            obtain ⟨A7, c7, B7, d7, G7, hv7, hc7, hO7⟩ := HD.done
            have HO := Lib.hid hO7
            have hv := Lib.hid hv7
            clear hO7 HD hv7
            go_wp2_with fail
            go_ret2
            exact ⟨hxq, .inr ⟨_, A7, c7, B7, d7, G7, HV.out, by rw [← hv.out]; rfl, hc7, by rw [List.length_append, List.length_append]; omega, HO.out⟩⟩
end Go.Proofs.Ytjmfjeeddnmoaaa

/- bind.Join. -/
namespace Go.Proofs.Ytjmfjeeddnmoaaa
open Go.RowKit

def joinB (aa bb : List Bd) : Bool := (bindsB aa && grL aa) && (bindsB bb && grL bb)
def JoinOut (aa bb : List Bd) (w : World) (e : Ending) (w' : World) : Prop :=
  Ext w w' ∧ ((joinB aa bb = false ∧ e = .returned (.tuple #[.slice none 0 0, .int .i64 1])) ∨ (joinB aa bb = true ∧ mergeL aa bb = none ∧ e = .returned (.tuple #[.slice none 0 0, .int .i64 3])) ∨
    ∃ us, joinB aa bb = true ∧ mergeL aa bb = some us ∧ ((16 < us.length ∧ e = .returned (.tuple #[.slice none 0 0, .int .i64 2])) ∨
      (us.length ≤ 16 ∧ ∃ A c B d G, e = .returned (.tuple #[.slice A us.length c, .int .i64 0]) ∧ us.length ≤ c ∧ BdsOwn w' us A (fun k => w.heap.size ≤ k ∧ k < w'.heap.size) B d G)))

theorem grounded_yes {bs : List Bd} (h : (bindsB bs && grL bs) = true) (A : Option Addr) (c : Nat) (w : World) (ll : bs.length ≤ 1000000) (hb : BdsAt w bs A) :
    Calls Try.prog 97 #[.slice A bs.length c] w fun e w' => e = .returned (.bool true) ∧ Ext w w' := (grounded_any bs A c w ll hb).mono fun _ _ ⟨he, hx⟩ => ⟨by rw [he, h], hx⟩
theorem grounded_no {bs : List Bd} (h : (bindsB bs && grL bs) = false) (A : Option Addr) (c : Nat) (w : World) (ll : bs.length ≤ 1000000) (hb : BdsAt w bs A) :
    Calls Try.prog 97 #[.slice A bs.length c] w fun e w' => e = .returned (.bool false) ∧ Ext w w' := (grounded_any bs A c w ll hb).mono fun _ _ ⟨he, hx⟩ => ⟨by rw [he, h], hx⟩
theorem binds_may {bs : List Bd} (h : bindsB bs = true) : ∀ i (h : i < bs.length), mayB bs[i].tm = true := fun i hi => (okL_may _ _ (binds_ok h).2.1 i hi).1

set_option maxRecDepth 100000 in
set_option maxHeartbeats 2000000 in
theorem Join_any (aa bb : List Bd) (A B : Option Addr) (ca cb : Nat) (w : World) (hA : BdsAt w aa A) (hB : BdsAt w bb B) (hca : aa.length ≤ ca) (hcb : bb.length ≤ cb) (hla : aa.length ≤ 1000000) (hlb : bb.length ≤ 1000000) :
    Calls Try.prog 52 #[.slice A aa.length ca, .slice B bb.length cb] w (JoinOut aa bb w) := by
  by_cases ga : (bindsB aa && grL aa) = true
  · by_cases gb : (bindsB bb && grL bb) = true
    · have HJ : Hid (joinB aa bb = true) := Lib.hid (by unfold joinB; rw [ga, gb]; rfl)
      have GA := Lib.hid ga
      have GB := Lib.hid gb
      have hba : bindsB aa = true := by simp only [Bool.and_eq_true] at ga; exact ga.1
      have hbb : bindsB bb = true := by simp only [Bool.and_eq_true] at gb; exact gb.1
      have h16a := (binds_ok hba).1
      have h16b := (binds_ok hbb).1
      have MA := Lib.hid (binds_may hba)
      have MB := Lib.hid (binds_may hbb)
      clear ga gb hba hbb
      go_enter Try.func52, Try.ntmps52
      go_wp2_with fail
      refine (grounded_yes GA.out A ca _ hla hA).mono ?_
      rintro e1 w1 ⟨rfl, hx1⟩
      go_wp2_with fail
      refine (grounded_yes GB.out B cb _ hlb (hB.ext hx1)).mono ?_
      rintro e2 w2 ⟨rfl, hx2⟩
      have hx02 := hx1.trans hx2
      go_wp2_with fail
      refine (merged_any aa bb A B ca cb _ (hA.ext hx02) (hB.ext hx02) hca hcb (by omega) (by omega) MA.out MB.out).mono ?_
      rintro e3 w3 ⟨hx3, hc⟩
      have hx03 := hx02.trans hx3
      have hs2 := hx02.size
      rcases hc with ⟨hno, rfl⟩ | ⟨us, A', c', B', d', G', hyes, rfl, hc', hul, hO⟩
      · have HN := Lib.hid hno
        clear hno
        go_wp2_with fail
        go_ret2
        exact ⟨hx03, .inr (.inl ⟨HJ.out, HN.out, rfl⟩)⟩
      · have HY := Lib.hid hyes
        have HO := Lib.hid hO
        clear hyes hO
        by_cases h16 : us.length ≤ 16
        · have hd : decide ((16 : Int) < (us.length : Int)) = false := decide_eq_false (by omega)
          go_wp2_with fail
          go_ret2
          exact ⟨hx03, .inr (.inr ⟨us, HJ.out, HY.out, .inr ⟨h16, A', c', B', d', G', rfl, hc', HO.out.weak fun q hq => ⟨Nat.le_trans hs2 hq.1, hq.2⟩⟩⟩)⟩
        · have hd : decide ((16 : Int) < (us.length : Int)) = true := decide_eq_true (by omega)
          have h17 : 16 < us.length := by omega
          clear h16
          go_wp2_with fail
          go_ret2
          exact ⟨hx03, .inr (.inr ⟨us, HJ.out, HY.out, .inl ⟨h17, rfl⟩⟩)⟩
    · have GB := Lib.hid (not_true gb)
      have GA := Lib.hid ga
      have HJ : Hid (joinB aa bb = false) := Lib.hid (by unfold joinB; rw [GB.out]; simp)
      clear ga gb
      go_enter Try.func52, Try.ntmps52
      go_wp2_with fail
      refine (grounded_yes GA.out A ca _ hla hA).mono ?_
      rintro e1 w1 ⟨rfl, hx1⟩
      go_wp2_with fail
      refine (grounded_no GB.out B cb _ hlb (hB.ext hx1)).mono ?_
      rintro e2 w2 ⟨rfl, hx2⟩
      go_wp2_with fail
      go_ret2
      exact ⟨hx1.trans hx2, .inl ⟨HJ.out, rfl⟩⟩
  · have GA := Lib.hid (not_true ga)
    have HJ : Hid (joinB aa bb = false) := Lib.hid (by unfold joinB; rw [GA.out]; simp)
    clear ga
    go_enter Try.func52, Try.ntmps52
    go_wp2_with fail
    refine (grounded_no GA.out A ca _ hla hA).mono ?_
    rintro e1 w1 ⟨rfl, hx1⟩
    go_wp2_with fail
    go_ret2
    exact ⟨hx1, .inl ⟨HJ.out, rfl⟩⟩
end Go.Proofs.Ytjmfjeeddnmoaaa
