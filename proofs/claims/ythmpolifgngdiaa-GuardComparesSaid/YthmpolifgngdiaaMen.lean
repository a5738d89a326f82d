/- bind.mentions: whether a term has a variable that is bound; crossed: whether some bind's has. -/
import Derived.Test.YthmpolifgngdiaaPlc
import Derived.Test.YthmpolifgngdiaaMB
import Derived.Test.YthmpolifgngdiaaWg
namespace Go.Proofs.Ythmpolifgngdiaa
open Go.RowKit

mutual
/-- has it a bound variable? -/
def mentT (bs : List Bd) : Tm → Bool
  | ⟨k, s, _, l⟩ => if (k == 1) = true then plB bs s else mentL bs l
def mentL (bs : List Bd) : List Tm → Bool
  | [] => false
  | t :: ts => mentT bs t || mentL bs ts
end
theorem mentT_eq (bs : List Bd) (t : Tm) : mentT bs t = if (t.kind == 1) = true then plB bs t.name else mentL bs t.args := by obtain ⟨k, s, n, l⟩ := t; rw [mentT]
/-- the first one that has, counted from k on; -1: none -/
def mentI (bs : List Bd) : List Tm → Int → Int
  | [], _ => -1
  | t :: ts, k => if mentT bs t = true then k else mentI bs ts (k + 1)
theorem mentI_nn (bs : List Bd) : ∀ (ts : List Tm) (k : Int), 0 ≤ k → decide (0 ≤ mentI bs ts k) = mentL bs ts
  | [], k, _ => by simp [mentI, mentL]
  | t :: ts, k, h => by
    rw [mentI, mentL]
    cases hm : mentT bs t
    · rw [if_neg (by simp), mentI_nn bs ts (k + 1) (by omega), Bool.false_or]
    · rw [if_pos rfl, Bool.true_or]; simp [h]

/-- the names of binds have room in keys -/
def Short (bs : List Bd) : Prop := ∀ i (h : i < bs.length), bs[i].name.size ≤ 16
def MentTo (bs : List Bd) (hh : Nat) : Prop := ∀ (t : Tm) (A : Option Addr) (c b : Nat) (w : World), t.high ≤ hh → TmAt w t A c → PlAt w b bs bs.length →
  Calls Try.prog 60 #[t.val A c, .map (some b)] w fun e w' => e = .returned (.bool (mentT bs t)) ∧ Ext w w'

theorem ment1_any (bs : List Bd) (hh : Nat) (hc : MentTo bs hh) (t : Tm) (A : Option Addr) (c b g : Nat) (w : World) (h0 : t.high ≤ hh) (h : TmAt w t A c) (hp : PlAt w b bs bs.length) (hg : w.cell? ⟨g, 0, none⟩ = some (.map (some b))) :
    Calls Try.prog 72 #[t.val A c, .pointer (some ⟨g, 0, none⟩)] w fun e w' => e = .returned (.bool (mentT bs t)) ∧ Ext w w' := by
  have hlt : g < w.heap.size := World.block_lt_of_cell? w _ hg
  go_enter Try.func72, Try.ntmps72
  go_wp2_with fail
  refine (hc t A c b _ h0 (h.ext ((Ext.refl _).alloc _)) (hp.ext ((Ext.refl _).alloc _))).mono ?_
  rintro e w1 ⟨rfl, hx1⟩
  go_wp2_with fail
  go_ret
  exact ⟨rfl, ((Ext.refl _).alloc _).trans hx1⟩

set_option maxRecDepth 100000 in
set_option maxHeartbeats 1000000 in
theorem mentI_any (bs : List Bd) (hh : Nat) (hc : MentTo bs hh) (ts : List Tm) (A : Option Addr) (c b g : Nat) (w : World) (h0 : highs ts ≤ hh) (ll : ts.length * 56 ≤ 140737488351232) (h : TmsAt w ts A) (hp : PlAt w b bs bs.length) (hg : w.cell? ⟨g, 0, none⟩ = some (.map (some b))) :
    Calls Try.prog 77 #[.slice A ts.length c, .func (.func 72) #[] #[.pointer (some ⟨g, 0, none⟩)]] w fun e w' => e = .returned (.int .i64 (mentI bs ts 0)) ∧ Ext w w' := by
  have H0 : Hid (mentI bs (ts.drop 0) ((0 : Nat) : Int) = mentI bs ts 0) := Lib.hid rfl
  go_enter Try.func77, Try.ntmps77
  go_wp2_with fail
  go_loopw [8] (fun i wr => ∃ (k : Nat), k ≤ ts.length ∧ i = .int .i64 k ∧ Hid (mentI bs (ts.drop k) (k : Int) = mentI bs ts 0) ∧ Ext w wr) (fun i _ => ts.length - (intOf i).toNat)
  case atStart => exact ⟨0, Nat.zero_le _, rfl, H0, Ext.refl _⟩
  case round =>
    obtain ⟨k, hk, rfl, H, hx⟩ := hrel
    by_cases hlt : k < ts.length
    · obtain ⟨b', o, B, e, rfl, c0, c1, c2, c3, hsub⟩ := (h.ext hx).at_ hlt
      have hh1 : ts[k].high ≤ hh := Nat.le_trans (high_le (List.getElem_mem hlt)) h0
      have hg' := hx.cell hg
      have H2 : Hid ((if mentT bs ts[k] = true then (k : Int) else mentI bs (ts.drop (k + 1)) ((k + 1 : Nat) : Int)) = mentI bs ts 0) := by
        have := H.out
        rw [List.drop_eq_getElem_cons hlt, mentI] at this
        exact Lib.hid (by simpa using this)
      clear H H0
      go_wp2_with fail
      refine (ment1_any bs hh hc ts[k] B e b g _ hh1 hsub (hp.ext hx) hg').mono ?_
      rintro e1 w1 ⟨rfl, hx1⟩
      by_cases hm : mentT bs ts[k] = true
      · have H3 := Lib.hid ((if_pos hm).symm.trans H2.out)
        clear H2
        go_wp2_with fail
        go_ret
        exact ⟨ret_int H3.out, hx.trans hx1⟩
      · have hm' := not_true hm
        have H3 := Lib.hid ((if_neg hm).symm.trans H2.out)
        clear H2 hm
        go_wp2_with fail
        go_roundw
        case rel => exact ⟨k + 1, by omega, by go_num, H3, hx.trans hx1⟩
        case measure => simp [intOf]; omega
    · have H3 : Hid (-1 = mentI bs ts 0) := by
        have := H.out
        rw [List.drop_eq_nil_of_le (by omega), mentI] at this
        exact Lib.hid this
      clear H H0
      go_wp2_with fail
      go_ret
      exact ⟨ret_int H3.out, hx⟩
theorem mentC_any (bs : List Bd) (hh : Nat) (hc : MentTo bs hh) (ts : List Tm) (A : Option Addr) (c b g : Nat) (w : World) (h0 : highs ts ≤ hh) (ll : ts.length * 56 ≤ 140737488351232) (h : TmsAt w ts A) (hp : PlAt w b bs bs.length) (hg : w.cell? ⟨g, 0, none⟩ = some (.map (some b))) :
    Calls Try.prog 71 #[.slice A ts.length c, .func (.func 72) #[] #[.pointer (some ⟨g, 0, none⟩)]] w fun e w' => e = .returned (.bool (mentL bs ts)) ∧ Ext w w' := by
  have E := Lib.hid (mentI_nn bs ts 0 (by omega))
  go_enter Try.func71, Try.ntmps71
  go_wp2_with fail
  refine (mentI_any bs hh hc ts A c b g w h0 ll h hp hg).mono ?_
  rintro e1 w1 ⟨rfl, hx1⟩
  go_wp2_with fail
  go_ret
  exact ⟨ret_bool E.out, hx1⟩

set_option maxHeartbeats 1000000 in
theorem ment_all (bs : List Bd) (hs : Short bs) (hh : Nat) : MentTo bs hh := by
  induction hh with
  | zero => intro t A c b w h0; have := high_pos t; omega
  | succ hh ih =>
    intro t A c b w h0 h hp
    have IH := Lib.hid ih
    have HS := Lib.hid hs
    clear ih hs
    have E := Lib.hid (mentT_eq bs t)
    have hnm := h.fits.name
    have hx0 := ((Ext.refl w).alloc (.cells #[.int .i64 t.kind, .string t.name, .int .i64 t.n, .slice A t.args.length c] 32)).alloc (.cells #[.map (some b)] 103)
    by_cases hk : (t.kind == 1) = true
    · have E2 := Lib.hid (E.out.trans (if_pos hk))
      clear E
      go_enter Try.func60, Try.ntmps60
      go_wp2_with fail
      refine (find_any bs b t.name _ (hp.ext hx0) HS.out hnm).mono ?_
      rintro e1 w1 ⟨rfl, hx1⟩
      go_wp2_with fail
      go_ret
      exact ⟨ret_bool E2.out.symm, hx0.trans hx1⟩
    · have E2 := Lib.hid (E.out.trans (if_neg hk))
      have hk' := not_true hk
      have HL : highs t.args ≤ hh := by obtain ⟨k, s, n, l⟩ := t; rw [Tm.high] at h0; simp only; omega
      have hl := h.fits.args
      clear E hk
      go_enter Try.func60, Try.ntmps60
      go_wp2_with fail
      refine (mentC_any bs hh IH.out t.args A c b (w.heap.size + 1) _ HL hl (h.args.ext hx0) (hp.ext hx0) (by go_simp)).mono ?_
      rintro e1 w1 ⟨rfl, hx1⟩
      go_wp2_with fail
      go_ret
      exact ⟨ret_bool E2.out.symm, hx0.trans hx1⟩
end Go.Proofs.Ythmpolifgngdiaa
