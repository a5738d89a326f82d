/- Joined: Uas, Uat, Uav, Uaw, Uma, Umk, Utk, Umg, Umh, Umw, Umx, Umy, Una, Unb, Ual. -/
import Derived.Test.YtjmfjeeddnmoaaaPA
import Derived.Test.YtjmfjeeddnmoaaaMC
import Derived.Test.YtjmfjeeddnmoaaaTa
import Derived.Deep.RegionLaw
import Derived.StillTailTactics
import Derived.Test.YtjmfjeeddnmoaaaLayC
import Derived.Test.YtjmfjeeddnmoaaaNamW

/- unify by fuel (pure): what was bound grows, and both are made alike; it ends; it goes both ways. -/
namespace Go.Proofs.Ytjmfjeeddnmoaaa
open Go.RowKit

/-! the parts of what may be may be -/
theorem fits_mono (d : Nat) : ∀ (t : Tm) (L : Int) (d' : Nat) (D : Int), d ≤ d' → 0 ≤ L → 0 ≤ D → (fitsT t d L).1 = true → fitsT t d' (L + D) = (true, (fitsT t d L).2 + D) := by
  induction d with
  | zero => intro t L d' D _ _ _ h; obtain ⟨k, s, n, l⟩ := t; simp [fitsT] at h
  | succ d ih =>
    have step : ∀ (ts : List Tm) (L : Int) (d' : Nat) (D : Int), d ≤ d' → 0 ≤ L → 0 ≤ D → (fitsL ts d L).1 = true → fitsL ts d' (L + D) = (true, (fitsL ts d L).2 + D) := by
      intro ts
      induction ts with
      | nil => intro L d' D _ _ _ _; rw [fitsL, fitsL]
      | cons t ts iht =>
        intro L d' D hd hL hD hf
        by_cases ht : (fitsT t d L).1 = true
        · have h1 := ih t L d' D hd hL hD ht
          have hb := ((fits_bd d).1 t L hL).1
          rw [fitsL, if_pos ht] at hf
          have h2 := iht (fitsT t d L).2 d' D hd hb hD hf
          have e1 : fitsL (t :: ts) d L = fitsL ts d (fitsT t d L).2 := by rw [fitsL, if_pos ht]
          have e2 : fitsL (t :: ts) d' (L + D) = fitsL ts d' ((fitsT t d L).2 + D) := by rw [fitsL, h1]; rfl
          rw [e1, e2, h2]
        · rw [fitsL, if_neg ht] at hf; cases hf
    intro t L d' D hd hL hD h
    obtain ⟨k, s, n, l⟩ := t
    obtain ⟨d', rfl⟩ : ∃ m, d' = m + 1 := ⟨d' - 1, by omega⟩
    by_cases h0 : L = 0
    · rw [fitsT, if_pos h0] at h; cases h
    · by_cases hp : plainB ⟨k, s, n, l⟩ = true
      · have e1 : fitsT ⟨k, s, n, l⟩ (d + 1) L = fitsL l d (L - 1) := by rw [fitsT, if_neg h0, if_pos hp]
        have e2 : fitsT ⟨k, s, n, l⟩ (d' + 1) (L + D) = fitsL l d' ((L - 1) + D) := by
          rw [fitsT, if_neg (by omega), if_pos hp]
          congr 1; omega
        rw [e1] at h ⊢
        rw [e2]
        exact step l (L - 1) d' D (by omega) (by omega) hD h
      · rw [fitsT, if_neg h0, if_neg hp] at h; cases h
theorem fitsL_in {d : Nat} {x : Tm} : ∀ {ts : List Tm} {L : Int}, 0 ≤ L → (fitsL ts d L).1 = true → x ∈ ts → ∃ M, 0 ≤ M ∧ M ≤ L ∧ (fitsT x d M).1 = true
  | [], _, _, _, hx => by cases hx
  | t :: ts, L, hL, h, hx => by
    by_cases ht : (fitsT t d L).1 = true
    · rw [fitsL, if_pos ht] at h
      have hb := (fits_bd d).1 t L hL
      rcases List.mem_cons.1 hx with e | e
      · exact ⟨L, hL, Int.le_refl _, by rw [e]; exact ht⟩
      · obtain ⟨M, h1, h2, h3⟩ := fitsL_in hb.1 h e
        exact ⟨M, h1, Int.le_trans h2 hb.2, h3⟩
    · rw [fitsL, if_neg ht] at h; cases h
theorem may_args {t x : Tm} (h : mayB t = true) (hx : x ∈ t.args) : mayB x = true := by
  obtain ⟨k, s, n, l⟩ := t
  unfold mayB at h ⊢
  by_cases hp : plainB ⟨k, s, n, l⟩ = true
  · rw [fitsT, if_neg (by omega), if_pos hp] at h
    obtain ⟨M, h1, h2, h3⟩ := fitsL_in (by omega) h hx
    have := fits_mono 4 x M 5 (24 - M) (by omega) h1 (by omega) h3
    rw [show M + (24 - M) = 24 by omega] at this
    rw [this]
  · rw [fitsT, if_neg (by omega), if_neg hp] at h; cases h
theorem may_plain {t : Tm} (h : mayB t = true) : plainB t = true := by
  have := may_all h
  obtain ⟨k, s, n, l⟩ := t
  rw [allP] at this
  exact this.1
/-- a variable that may be is its name alone -/
theorem may_var {t : Tm} (h : mayB t = true) (hk : t.kind = 1) : t = ⟨1, t.name, 0, []⟩ := by
  have hp := may_plain h
  obtain ⟨k, s, n, l⟩ := t
  simp only at hk
  subst hk
  unfold plainB at hp
  simp at hp
  obtain ⟨⟨_, h1⟩, h2⟩ := hp
  rw [h1, h2]
/-! replaced: plain all through -/
theorem plain_args {k : Int} {s : ByteArray} {n : Int} {l l' : List Tm} (h : plainB ⟨k, s, n, l⟩ = true) (e : l'.length = l.length) : plainB ⟨k, s, n, l'⟩ = true := by
  unfold plainB at h ⊢
  simp only [e] at h ⊢
  exact h
mutual
theorem rep_plain {bs : List Bd} (hb : ∀ x ∈ bs, allP x.tm) : ∀ t : Tm, allP t → allP (repT bs t)
  | ⟨k, s, n, l⟩, h => by
    rw [allP] at h
    rw [repT]
    have hin : allP ⟨k, s, n, repL bs l⟩ := by
      rw [allP]; exact ⟨plain_args h.1 (repL_len bs l), repL_plain hb l h.2⟩
    by_cases hk : (k == 1) = true
    · rw [if_pos hk]
      cases hs : bdOf bs s with
      | some u => obtain ⟨x, hx, e, _⟩ := bdOf_mem hs; rw [← e]; exact hb x hx
      | none => exact hin
    · rw [if_neg hk]; exact hin
theorem repL_plain {bs : List Bd} (hb : ∀ x ∈ bs, allP x.tm) : ∀ l : List Tm, allPs l → allPs (repL bs l)
  | [], _ => by rw [repL]; trivial
  | t :: ts, h => by
    rw [allPs] at h
    rw [repL, allPs]; exact ⟨rep_plain hb t h.1, repL_plain hb ts h.2⟩
end
theorem binds_plain {bs : List Bd} (hb : bindsB bs = true) : ∀ x ∈ bs, allP x.tm := fun x hx => by
  obtain ⟨i, hi, e⟩ := List.getElem_of_mem hx
  rw [← e]; exact binds_all hb i hi
/-- replaced twice is as once -/
theorem rep_twice {bs : List Bd} (hb : bindsB bs = true) {t : Tm} (h : allP t) : repT bs (repT bs t) = repT bs t :=
  rep_id _ (rep_plain (binds_plain hb) t h) (ment_rep (binds_ment hb) (fun s h1 h2 => by rw [bdOf_plB h1] at h2; cases h2) t)
/-! one more bind put in -/
theorem bdOf_in {bs : List Bd} (hr : RiseB bs) {x : Bd} (hx : x ∈ bs) : bdOf bs x.name = some x.tm := by
  obtain ⟨i, hi, e⟩ := List.getElem_of_mem hx
  have := bdOf_some hi (plc_of hr hi (by rw [e]))
  rw [this, e]
theorem bdOf_one (s : ByteArray) (t : Tm) : bdOf [⟨s, t⟩] s = some t := by
  have hr : RiseB [⟨s, t⟩] := fun p q hq hp => by simp at hq; omega
  exact bdOf_in hr (x := ⟨s, t⟩) (by simp)
theorem bdOf_other {s n : ByteArray} {t : Tm} (h : n ≠ s) : bdOf [⟨s, t⟩] n = none := by
  apply plB_bdOf
  cases hc : plB [⟨s, t⟩] n with
  | false => rfl
  | true =>
    obtain ⟨x, hx, e⟩ := (plB_iff _ _).1 hc
    simp at hx
    rw [hx] at e
    exact absurd e.symm h
theorem low_sea {bs : List Bd} {s : ByteArray} (hb : bindsB bs = true) (hp : plB bs s = false) : SeaAt bs s (lowK bs s) false := by
  have hr := okL_rise (binds_ok hb).2.1
  have lt_iff : ∀ a b : ByteArray, ltN a b = true ↔ cmpS a b < 0 := fun a b => by rw [ltN_cmp, decide_eq_true_eq]
  have hne : ∀ k (h : k < bs.length), bs[k].name ≠ s := fun k h e => by
    have : plB bs s = true := (plB_iff _ _).2 ⟨bs[k], List.getElem_mem h, e⟩
    rw [hp] at this; cases this
  refine ⟨lowK_le bs s, fun k hk h => (lt_iff _ _).1 (lowK_lt bs s k hk h), fun k hk h => ?_, ⟨(fun h => by cases h), fun ⟨h, e⟩ => absurd e (hne _ h)⟩⟩
  by_cases hc : cmpS bs[k].name s < 0
  · have h0 : lowK bs s < bs.length := by omega
    have h1 := lowK_at bs s h0
    have h2 : cmpS bs[lowK bs s].name s < 0 := by
      rcases Nat.lt_or_eq_of_le h with h3 | h3
      · exact cmpS_trans ((lt_iff _ _).1 (hr _ k hk h3)) hc
      · simp only [h3]; exact hc
    have h4 := (lt_iff _ _).2 h2
    rw [h1] at h4; cases h4
  · omega
structure SetTo (bs : List Bd) (s : ByteArray) (t : Tm) (L : List Bd) : Prop where
  binds : bindsB L = true
  len : L.length = bs.length + 1
  own : bdOf L s = some t
  same : repT [⟨s, t⟩] t = t
  old : ∀ n u, bdOf bs n = some u → bdOf L n = some (repT [⟨s, t⟩] u)
  none : ∀ n, bdOf bs n = none → n ≠ s → bdOf L n = none
theorem set_to {bs : List Bd} {s : ByteArray} {t : Tm} (h : setE bs s t = 0) : SetTo bs s t (setL bs s t) ∧ setB bs s t = true := by
  unfold setE at h
  split at h
  · rename_i hy
    split at h
    · rename_i ho
      have hS : SeaAt bs s (lowK bs s) false := by
        have hb : bindsB bs = true := by
          unfold setB at hy; simp only [Bool.and_eq_true] at hy; exact hy.1.1.1.1
        have hpl : plB bs s = false := by
          unfold setB at hy; simp only [Bool.and_eq_true, Bool.not_eq_true'] at hy; exact hy.1.2
        exact low_sea hb hpl
      have e : setL bs s t = stlL ⟨s, t⟩ (insB bs (lowK bs s) ⟨s, t⟩) := by unfold setL; rw [hy, ho]; rfl
      rw [e]
      obtain ⟨h1, h2⟩ := set_got hy hS ho
      have hri := okL_rise (binds_ok h1).2.1
      refine ⟨⟨h1, by rw [stlL_len, insB_len _ _ _ hS.le], h2, ?_, ?_, ?_⟩, hy⟩
      · unfold setB at hy
        simp only [Bool.and_eq_true, Bool.not_eq_true'] at hy
        refine rep_id _ (may_all hy.1.1.1.2) (ment_sub ?_ _ hy.2)
        intro n hn
        cases hc : plB [⟨s, t⟩] n with
        | false => rfl
        | true =>
          obtain ⟨x, hx, e⟩ := (plB_iff _ _).1 hc
          have : plB (⟨s, t⟩ :: bs) n = true := (plB_iff _ _).2 ⟨x, by simp at hx; simp [hx], e⟩
          rw [hn] at this; cases this
      · intro n u hu
        obtain ⟨x, hx, e1, e2⟩ := bdOf_mem hu
        have hm : (⟨x.name, repT [⟨s, t⟩] x.tm⟩ : Bd) ∈ stlL ⟨s, t⟩ (insB bs (lowK bs s) ⟨s, t⟩) := List.mem_map.2 ⟨x, insB_mem.2 (.inl hx), rfl⟩
        have := bdOf_in hri hm
        rw [e2] at this
        rw [this, e1]
      · intro n hn hne
        apply plB_bdOf
        rw [plB_names (stlL_names _ _), plB_ins]
        cases hc : plB (⟨s, t⟩ :: bs) n with
        | false => rfl
        | true =>
          obtain ⟨x, hx, e⟩ := (plB_iff _ _).1 hc
          rcases List.mem_cons.1 hx with hx | hx
          · rw [hx] at e; exact absurd e.symm hne
          · have h3 := bdOf_plB hn
            have : plB bs n = true := (plB_iff _ _).2 ⟨x, hx, e⟩
            rw [h3] at this; cases this
    · cases h
  · cases h
mutual
theorem rep_set {bs L : List Bd} {s : ByteArray} {t : Tm} (h : SetTo bs s t L) : ∀ u : Tm, allP u → repT L u = repT [⟨s, t⟩] (repT bs u)
  | ⟨k, n, m, l⟩, hu => by
    by_cases hk : (k == 1) = true
    · have hl : l = [] := List.eq_nil_of_length_eq_zero (allP_var hu hk)
      subst hl
      cases hs : bdOf bs n with
      | some v =>
        rw [repT, if_pos hk, h.old n v hs, repT, if_pos hk, hs]; rfl
      | none =>
        have e : repT bs ⟨k, n, m, []⟩ = ⟨k, n, m, []⟩ := by rw [repT, if_pos hk, hs]; rfl
        rw [e]
        by_cases hn : n = s
        · subst hn
          rw [repT, if_pos hk, h.own, repT, if_pos hk, bdOf_one]; rfl
        · rw [repT, if_pos hk, h.none n hs hn, repT, if_pos hk, bdOf_other hn]; rfl
    · have e1 : repT L ⟨k, n, m, l⟩ = ⟨k, n, m, repL L l⟩ := by rw [repT, if_neg hk]
      have e2 : repT bs ⟨k, n, m, l⟩ = ⟨k, n, m, repL bs l⟩ := by rw [repT, if_neg hk]
      have e3 : repT [⟨s, t⟩] ⟨k, n, m, repL bs l⟩ = ⟨k, n, m, repL [⟨s, t⟩] (repL bs l)⟩ := by rw [repT, if_neg hk]
      rw [allP] at hu
      rw [e1, e2, e3, repL_set h l hu.2]
theorem repL_set {bs L : List Bd} {s : ByteArray} {t : Tm} (h : SetTo bs s t L) : ∀ l : List Tm, allPs l → repL L l = repL [⟨s, t⟩] (repL bs l)
  | [], _ => rfl
  | u :: us, hu => by
    rw [allPs] at hu
    have e2 : repL bs (u :: us) = repT bs u :: repL bs us := by rw [repL]
    rw [repL, e2, repL, rep_set h u hu.1, repL_set h us hu.2]
end
/-- what was bound is bound on -/
structure Grow (bs L : List Bd) : Prop where
  len : L = bs ∨ bs.length < L.length
  rep : ∀ u, allP u → repT L (repT bs u) = repT L u
theorem Grow.refl {bs : List Bd} (hb : bindsB bs = true) : Grow bs bs := ⟨.inl rfl, fun _ hu => rep_twice hb hu⟩
theorem Grow.trans {bs L M : List Bd} (hb : bindsB bs = true) (h : Grow bs L) (k : Grow L M) : Grow bs M := by
  refine ⟨?_, fun u hu => ?_⟩
  · rcases h.len with rfl | h1
    · exact k.len
    · rcases k.len with rfl | h2
      · exact .inr h1
      · exact .inr (by omega)
  · rw [← k.rep _ (rep_plain (binds_plain hb) u hu), h.rep u hu, k.rep u hu]
theorem SetTo.grow {bs L : List Bd} {s : ByteArray} {t : Tm} (hb : bindsB bs = true) (h : SetTo bs s t L) : Grow bs L :=
  ⟨.inr (by rw [h.len]; omega), fun u hu => by rw [rep_set h _ (rep_plain (binds_plain hb) u hu), rep_twice hb hu, ← rep_set h u hu]⟩
end Go.Proofs.Ytjmfjeeddnmoaaa

/- unify by fuel (pure): both are made alike; it ends; it goes both ways. -/
namespace Go.Proofs.Ytjmfjeeddnmoaaa
open Go.RowKit

theorem name_eq {a b : ByteArray} (h : a.toList = b.toList) : a = b := by
  rw [Lib.toList_data, Lib.toList_data] at h
  exact ByteArray.ext (Array.toList_inj.1 h)
/-- applied: what it tells -/
theorem apply_is {bs : List Bd} {t : Tm} (h : applyE bs t = 0) : applyT bs t = repT bs t ∧ mayB (repT bs t) = true := ⟨(apply_twice h).1, (apply_twice h).2.2.1⟩
theorem apply_err {bs : List Bd} {t : Tm} (hb : bindsB bs = true) (hm : mayB t = true) (h : applyE bs t ≠ 0) : applyE bs t = 2 := by
  unfold applyE at h ⊢
  rw [hb, hm] at h ⊢
  simp only [Bool.and_self, if_true] at h ⊢
  split
  · rename_i h1; rw [if_pos h1] at h; exact absurd rfl h
  · rfl
/-- a pair with a variable in it -/
theorem bnd_grow {bs : List Bd} {a b : Tm} (hb : bindsB bs = true) (ha : mayB a = true) (hbm : mayB b = true) (ra : repT bs a = a) (rb : repT bs b = b) (hk : a.kind = 1 ∨ b.kind = 1) (h : (bndP bs a b).1 = 0) :
    bindsB (bndP bs a b).2 = true ∧ Grow bs (bndP bs a b).2 ∧ repT (bndP bs a b).2 a = repT (bndP bs a b).2 b := by
  unfold bndP at h ⊢
  by_cases hs : (decide (a.kind = b.kind) && (a.name.toList == b.name.toList)) = true
  · rw [if_pos hs] at h ⊢
    simp only [Bool.and_eq_true, decide_eq_true_eq, beq_iff_eq] at hs
    have hka : a.kind = 1 := by rcases hk with h1 | h1; exact h1; rw [hs.1]; exact h1
    have e : a.name = b.name := by
      exact name_eq hs.2
    have : a = b := by rw [may_var ha hka, may_var hbm (by rw [← hs.1]; exact hka), e]
    subst this
    exact ⟨hb, Grow.refl hb, rfl⟩
  · rw [if_neg hs] at h ⊢
    have key : ∀ x y : Tm, x.kind = 1 → mayB x = true → repT bs x = x → repT bs y = y → mayB y = true → (if setE bs x.name y = 1 then ((3 : Int), ([] : List Bd)) else (setE bs x.name y, setL bs x.name y)).1 = 0 →
        bindsB (if setE bs x.name y = 1 then ((3 : Int), ([] : List Bd)) else (setE bs x.name y, setL bs x.name y)).2 = true ∧ Grow bs (if setE bs x.name y = 1 then ((3 : Int), ([] : List Bd)) else (setE bs x.name y, setL bs x.name y)).2 ∧ repT (if setE bs x.name y = 1 then ((3 : Int), ([] : List Bd)) else (setE bs x.name y, setL bs x.name y)).2 x = repT (if setE bs x.name y = 1 then ((3 : Int), ([] : List Bd)) else (setE bs x.name y, setL bs x.name y)).2 y := by
      intro x y hx hxm rx ry hym h
      by_cases h1 : setE bs x.name y = 1
      · rw [if_pos h1] at h; cases h
      · rw [if_neg h1] at h ⊢
        obtain ⟨hS, hy⟩ := set_to h
        refine ⟨hS.binds, hS.grow hb, ?_⟩
        show repT (setL bs x.name y) x = repT (setL bs x.name y) y
        rw [rep_set hS x (may_all hxm), rep_set hS y (may_all hym), rx, ry, hS.same]
        have hxk : (x.kind == 1) = true := by rw [hx]; rfl
        rw [repT_eq, if_pos hxk, bdOf_one]; rfl
    by_cases hsw : swapB a b = true
    · simp only [hsw, if_true] at h ⊢
      have hkb : b.kind = 1 := by
        rcases hk with h1 | h1
        · unfold swapB at hsw
          simp only [h1, ne_eq, not_true_eq_false, decide_false, Bool.false_or, Bool.and_eq_true, decide_eq_true_eq] at hsw
          exact hsw.1.symm
        · exact h1
      have := key b a hkb hbm rb ra ha h
      exact ⟨this.1, this.2.1, this.2.2.symm⟩
    · rw [Bool.not_eq_true] at hsw
      simp only [hsw] at h ⊢
      have hka : a.kind = 1 := by
        unfold swapB at hsw
        rw [Bool.or_eq_false_iff] at hsw
        have h1 := hsw.1
        rw [decide_eq_false_iff_not] at h1
        exact Decidable.not_not.1 h1
      exact key a b hka ha ra rb hbm h
/-- pair by pair -/
theorem fold_grow {f : List Bd → Tm → Tm → Int × List Bd} (hf : ∀ bs a b, bindsB bs = true → mayB a = true → mayB b = true → (f bs a b).1 = 0 → bindsB (f bs a b).2 = true ∧ Grow bs (f bs a b).2 ∧ repT (f bs a b).2 a = repT (f bs a b).2 b) :
    ∀ (xs ys : List Tm) (bs : List Bd), xs.length = ys.length → bindsB bs = true → (∀ x ∈ xs, mayB x = true) → (∀ y ∈ ys, mayB y = true) → (foldU f bs xs ys).1 = 0 →
      bindsB (foldU f bs xs ys).2 = true ∧ Grow bs (foldU f bs xs ys).2 ∧ repL (foldU f bs xs ys).2 xs = repL (foldU f bs xs ys).2 ys
  | [], [], bs, _, hb, _, _, _ => ⟨hb, Grow.refl hb, rfl⟩
  | [], _ :: _, _, hl, _, _, _, _ => by simp at hl
  | _ :: _, [], _, hl, _, _, _, _ => by simp at hl
  | x :: xs, y :: ys, bs, hl, hb, hx, hy, h => by
    by_cases h0 : (f bs x y).1 = 0
    · rw [foldU, if_pos h0] at h ⊢
      obtain ⟨b1, g1, e1⟩ := hf bs x y hb (hx x (by simp)) (hy y (by simp)) h0
      obtain ⟨b2, g2, e2⟩ := fold_grow hf xs ys (f bs x y).2 (by simpa using hl) b1 (fun z hz => hx z (by simp [hz])) (fun z hz => hy z (by simp [hz])) h
      refine ⟨b2, g1.trans hb g2, ?_⟩
      rw [repL, repL, e2, ← g2.rep x (may_all (hx x (by simp))), e1, g2.rep y (may_all (hy y (by simp)))]
    · rw [foldU, if_neg h0] at h
      exact absurd h h0
theorem head_is {a b : Tm} (h : headB a b = true) : a.kind = b.kind ∧ a.name = b.name ∧ a.n = b.n ∧ a.args.length = b.args.length := by
  unfold headB at h
  simp only [Bool.and_eq_true, decide_eq_true_eq, beq_iff_eq] at h
  obtain ⟨⟨⟨h1, h2⟩, h3⟩, h4⟩ := h
  exact ⟨h1, name_eq h2, h3, h4⟩
theorem rep_inn {L : List Bd} {t : Tm} (hk : t.kind ≠ 1) : repT L t = ⟨t.kind, t.name, t.n, repL L t.args⟩ := by
  rw [repT_eq, if_neg (by simpa using hk)]; rfl
theorem unif_grow : ∀ (n : Nat) (bs : List Bd) (a b : Tm), bindsB bs = true → mayB a = true → mayB b = true → (unifP n bs a b).1 = 0 →
    bindsB (unifP n bs a b).2 = true ∧ Grow bs (unifP n bs a b).2 ∧ repT (unifP n bs a b).2 a = repT (unifP n bs a b).2 b
  | 0, bs, a, b, _, _, _, h => by rw [unifP] at h; cases h
  | n + 1, bs, a, b, hb, ha, hbm, h => by
    by_cases h1 : applyE bs a = 0
    · by_cases h2 : applyE bs b = 0
      · obtain ⟨ea, ma⟩ := apply_is h1
        obtain ⟨eb, mb⟩ := apply_is h2
        have ra := rep_twice hb (may_all ha)
        have rb := rep_twice hb (may_all hbm)
        have fin : ∀ L, Grow bs L → repT L (repT bs a) = repT L (repT bs b) → repT L a = repT L b := fun L g e => by
          rw [← g.rep a (may_all ha), e, g.rep b (may_all hbm)]
        rw [unifP, if_pos h1, if_pos h2, ea, eb] at h ⊢
        by_cases hk : (repT bs a).kind = 1 ∨ (repT bs b).kind = 1
        · rw [if_pos hk] at h ⊢
          obtain ⟨b1, g1, e1⟩ := bnd_grow hb ma mb ra rb hk h
          exact ⟨b1, g1, fin _ g1 e1⟩
        · rw [if_neg hk] at h ⊢
          by_cases hh : headB (repT bs a) (repT bs b) = true
          · rw [if_pos hh] at h ⊢
            obtain ⟨k1, k2, k3, k4⟩ := head_is hh
            obtain ⟨b1, g1, e1⟩ := fold_grow (fun bs a b => unif_grow n bs a b) _ _ bs k4 hb (fun x hx => may_args ma hx) (fun x hx => may_args mb hx) h
            refine ⟨b1, g1, fin _ g1 ?_⟩
            rw [rep_inn (fun e => hk (.inl e)), rep_inn (fun e => hk (.inr e)), e1, k1, k2, k3]
          · rw [if_neg hh] at h; cases h
      · rw [unifP, if_pos h1, if_neg h2] at h
        exact absurd h h2
    · rw [unifP, if_neg h1] at h
      exact absurd h h1
/-! it ends -/
theorem binds_room {bs : List Bd} (h : bindsB bs = true) : bs.length ≤ 16 := (binds_ok h).1
theorem bnd_ends {bs : List Bd} {a b : Tm} : (bndP bs a b).1 ≠ 99 := by
  have hE : ∀ s t, setE bs s t ≠ 99 := fun s t => by unfold setE; split; split <;> decide; decide
  have key : ∀ (x y : Tm), (if setE bs x.name y = 1 then ((3 : Int), ([] : List Bd)) else (setE bs x.name y, setL bs x.name y)).1 ≠ 99 := fun x y => by
    by_cases h : setE bs x.name y = 1
    · rw [if_pos h]; show (3 : Int) ≠ 99; decide
    · rw [if_neg h]; exact hE _ _
  unfold bndP
  by_cases h : (decide (a.kind = b.kind) && (a.name.toList == b.name.toList)) = true
  · rw [if_pos h]; show (0 : Int) ≠ 99; decide
  · rw [if_neg h]; exact key _ _
theorem rep_argL {bs : List Bd} : ∀ {l : List Tm}, repL bs l = l → ∀ x ∈ l, repT bs x = x
  | t :: ts, h, x, hx => by
    rw [repL] at h
    injection h with h1 h2
    rcases List.mem_cons.1 hx with e | e
    · rw [e]; exact h1
    · exact rep_argL h2 x e
theorem arg_high {t x : Tm} (h : x ∈ t.args) : x.high + 1 ≤ t.high := by
  obtain ⟨k, s, n, l⟩ := t
  have := high_le h
  show x.high + 1 ≤ highs l + 1
  exact Nat.succ_le_succ this
def Fuel (n : Nat) (bs : List Bd) (a : Tm) : Prop := (17 - bs.length) * 6 ≤ n ∨ (repT bs a = a ∧ (16 - bs.length) * 6 + 1 + a.high ≤ n)
theorem fold_ends {n : Nat} (hf : ∀ bs a b, bindsB bs = true → mayB a = true → mayB b = true → Fuel n bs a → (unifP n bs a b).1 ≠ 99) :
    ∀ (xs ys : List Tm) (bs : List Bd), xs.length = ys.length → bindsB bs = true → (∀ x ∈ xs, mayB x = true) → (∀ y ∈ ys, mayB y = true) → ((17 - bs.length) * 6 ≤ n ∨ ((16 - bs.length) * 6 ≤ n ∧ ∀ x ∈ xs, Fuel n bs x)) → (foldU (unifP n) bs xs ys).1 ≠ 99
  | [], [], bs, _, _, _, _, _ => by show (0 : Int) ≠ 99; decide
  | [], _ :: _, _, hl, _, _, _, _ => by simp at hl
  | _ :: _, [], _, hl, _, _, _, _ => by simp at hl
  | x :: xs, y :: ys, bs, hl, hb, hx, hy, hF => by
    have hF0 : Fuel n bs x := by
      rcases hF with h | h
      · exact .inl h
      · exact h.2 x (by simp)
    rw [foldU]
    by_cases h0 : (unifP n bs x y).1 = 0
    · rw [if_pos h0]
      obtain ⟨b1, g1, _⟩ := unif_grow n bs x y hb (hx x (by simp)) (hy y (by simp)) h0
      refine fold_ends hf xs ys _ (by simpa using hl) b1 (fun z hz => hx z (by simp [hz])) (fun z hz => hy z (by simp [hz])) ?_
      rcases g1.len with e | e
      · rw [e]
        rcases hF with h | h
        · exact .inl h
        · exact .inr ⟨h.1, fun z hz => h.2 z (by simp [hz])⟩
      · left
        have := binds_room b1
        rcases hF with h | h
        · omega
        · have := h.1; omega
    · rw [if_neg h0]
      exact hf bs x y hb (hx x (by simp)) (hy y (by simp)) hF0
theorem unif_ends : ∀ (n : Nat) (bs : List Bd) (a b : Tm), bindsB bs = true → mayB a = true → mayB b = true → Fuel n bs a → (unifP n bs a b).1 ≠ 99
  | 0, bs, a, b, hb, _, _, hF => by
    have := binds_room hb
    rcases hF with h | ⟨_, h⟩ <;> omega
  | n + 1, bs, a, b, hb, ha, hbm, hF => by
    have hroom := binds_room hb
    rw [unifP]
    by_cases h1 : applyE bs a = 0
    · rw [if_pos h1]
      by_cases h2 : applyE bs b = 0
      · rw [if_pos h2]
        obtain ⟨ea, ma⟩ := apply_is h1
        obtain ⟨eb, mb⟩ := apply_is h2
        rw [ea, eb]
        by_cases hk : (repT bs a).kind = 1 ∨ (repT bs b).kind = 1
        · rw [if_pos hk]; exact bnd_ends
        · rw [if_neg hk]
          by_cases hh : headB (repT bs a) (repT bs b) = true
          · rw [if_pos hh]
            have ra := rep_twice hb (may_all ha)
            have rl : repL bs (repT bs a).args = (repT bs a).args := by
              rw [rep_inn (fun e => hk (.inl e))] at ra
              exact congrArg Tm.args ra
            have h5 := may_high ma
            refine fold_ends (fun bs a b => unif_ends n bs a b) _ _ bs (head_is hh).2.2.2 hb (fun x hx => may_args ma hx) (fun x hx => may_args mb hx) (.inr ?_)
            rcases hF with h | ⟨e, h⟩
            · refine ⟨by omega, fun x hx => .inr ⟨rep_argL rl x hx, ?_⟩⟩
              have := arg_high hx
              omega
            · refine ⟨by omega, fun x hx => .inr ⟨rep_argL rl x hx, ?_⟩⟩
              have := arg_high hx
              rw [e] at this
              omega
          · rw [if_neg hh]; decide
      · rw [if_neg h2]
        have := apply_err hb hbm h2
        show applyE bs b ≠ 99
        rw [this]; decide
    · rw [if_neg h1]
      have := apply_err hb ha h1
      show applyE bs a ≠ 99
      rw [this]; decide
/-! it goes both ways -/
theorem lt_two {a b : ByteArray} (h : a ≠ b) : ltN b a = !ltN a b := by
  rw [ltN_cmp, ltN_cmp, cmpS_flip]
  have h1 : cmpS a b ≠ 0 := fun e => h ((cmpS_eq _ _).1 e)
  by_cases h2 : cmpS a b < 0
  · rw [decide_eq_true h2]; simp; omega
  · rw [decide_eq_false h2]; simp; omega
theorem bnd_comm {bs : List Bd} {a b : Tm} (hk : a.kind = 1 ∨ b.kind = 1) : bndP bs a b = bndP bs b a := by
  have hs : (decide (b.kind = a.kind) && (b.name.toList == a.name.toList)) = (decide (a.kind = b.kind) && (a.name.toList == b.name.toList)) := by
    rw [Bool.eq_iff_iff]
    simp only [Bool.and_eq_true, decide_eq_true_eq, beq_iff_eq]
    exact ⟨fun h => ⟨h.1.symm, h.2.symm⟩, fun h => ⟨h.1.symm, h.2.symm⟩⟩
  unfold bndP
  rw [hs]
  by_cases h : (decide (a.kind = b.kind) && (a.name.toList == b.name.toList)) = true
  · rw [if_pos h, if_pos h]
  · rw [if_neg h, if_neg h]
    have hsw : swapB b a = !swapB a b := by
      unfold swapB
      by_cases h1 : a.kind = 1
      · by_cases h2 : b.kind = 1
        · have hne : a.name ≠ b.name := fun e => h (by rw [h1, h2, e]; simp)
          simp [h1, h2, lt_two hne]
        · have h3 : ¬ (1 : Int) = b.kind := fun e => h2 e.symm
          simp [h1, h2, h3]
      · rcases hk with e | e
        · exact absurd e h1
        · have h3 : ¬ (1 : Int) = a.kind := fun e => h1 e.symm
          simp [h1, e, h3]
    rw [hsw]
    cases swapB a b <;> rfl
theorem head_comm (a b : Tm) : headB b a = headB a b := by
  unfold headB
  rw [Bool.eq_iff_iff]
  simp only [Bool.and_eq_true, decide_eq_true_eq, beq_iff_eq]
  exact ⟨fun ⟨⟨⟨h1, h2⟩, h3⟩, h4⟩ => ⟨⟨⟨h1.symm, h2.symm⟩, h3.symm⟩, h4.symm⟩, fun ⟨⟨⟨h1, h2⟩, h3⟩, h4⟩ => ⟨⟨⟨h1.symm, h2.symm⟩, h3.symm⟩, h4.symm⟩⟩
theorem fold_comm {n : Nat} (hf : ∀ bs a b, bindsB bs = true → mayB a = true → mayB b = true → unifP n bs a b = unifP n bs b a) :
    ∀ (xs ys : List Tm) (bs : List Bd), xs.length = ys.length → bindsB bs = true → (∀ x ∈ xs, mayB x = true) → (∀ y ∈ ys, mayB y = true) → foldU (unifP n) bs xs ys = foldU (unifP n) bs ys xs
  | [], [], bs, _, _, _, _ => rfl
  | [], _ :: _, _, hl, _, _, _ => by simp at hl
  | _ :: _, [], _, hl, _, _, _ => by simp at hl
  | x :: xs, y :: ys, bs, hl, hb, hx, hy => by
    have e := hf bs x y hb (hx x (by simp)) (hy y (by simp))
    rw [foldU, foldU, ← e]
    by_cases h0 : (unifP n bs x y).1 = 0
    · rw [if_pos h0, if_pos h0]
      obtain ⟨b1, _, _⟩ := unif_grow n bs x y hb (hx x (by simp)) (hy y (by simp)) h0
      exact fold_comm hf xs ys _ (by simpa using hl) b1 (fun z hz => hx z (by simp [hz])) (fun z hz => hy z (by simp [hz]))
    · rw [if_neg h0, if_neg h0]
theorem unif_comm : ∀ (n : Nat) (bs : List Bd) (a b : Tm), bindsB bs = true → mayB a = true → mayB b = true → unifP n bs a b = unifP n bs b a
  | 0, bs, a, b, _, _, _ => by rw [unifP, unifP]
  | n + 1, bs, a, b, hb, ha, hbm => by
    rw [unifP, unifP]
    by_cases h1 : applyE bs a = 0
    · by_cases h2 : applyE bs b = 0
      · rw [if_pos h1, if_pos h2, if_pos h2, if_pos h1]
        obtain ⟨ea, ma⟩ := apply_is h1
        obtain ⟨eb, mb⟩ := apply_is h2
        rw [ea, eb]
        by_cases hk : (repT bs a).kind = 1 ∨ (repT bs b).kind = 1
        · rw [if_pos hk, if_pos hk.symm]; exact bnd_comm hk
        · rw [if_neg hk, if_neg (fun h : (repT bs b).kind = 1 ∨ (repT bs a).kind = 1 => hk h.symm), head_comm (repT bs a)]
          by_cases hh : headB (repT bs a) (repT bs b) = true
          · rw [if_pos hh, if_pos hh]
            exact fold_comm (fun bs a b => unif_comm n bs a b) _ _ bs (head_is hh).2.2.2 hb (fun x hx => may_args ma hx) (fun x hx => may_args mb hx)
          · rw [if_neg hh, if_neg hh]
      · rw [if_pos h1, if_neg h2, if_neg h2]
    · by_cases h2 : applyE bs b = 0
      · rw [if_neg h1, if_pos h2, if_neg h1]
      · rw [if_neg h1, if_neg h2, apply_err hb ha h1, apply_err hb hbm h2]
end Go.Proofs.Ytjmfjeeddnmoaaa

/- What may be, by its size and depth (pure); what replaced may be may be. -/
namespace Go.Proofs.Ytjmfjeeddnmoaaa
open Go.RowKit

theorem sizeL_add : ∀ (ts : List Tm) (n : Int), sizeL ts n = n + sizeL ts 0
  | [], n => by rw [sizeL, sizeL]; omega
  | t :: ts, n => by
    rw [sizeL, sizeL_add ts (n + sizeT t), sizeL, sizeL_add ts (0 + sizeT t)]; omega
theorem size_is (k : Int) (s : ByteArray) (n : Int) (l : List Tm) : sizeT ⟨k, s, n, l⟩ = 1 + sizeL l 0 := by rw [sizeT, sizeL_add]
theorem size_one (t : Tm) : 1 ≤ sizeT t := size_pos t.high t (Nat.le_refl _)
theorem sizeL_pos : ∀ ts : List Tm, 0 ≤ sizeL ts 0
  | [] => by rw [sizeL]; omega
  | t :: ts => by
    have := size_one t
    have := sizeL_pos ts
    rw [sizeL, sizeL_add]; omega
theorem fits_mk (d : Nat) : ∀ (t : Tm) (L : Int), allP t → t.high ≤ d → sizeT t ≤ L → fitsT t d L = (true, L - sizeT t) := by
  induction d with
  | zero => intro t L _ h _; obtain ⟨k, s, n, l⟩ := t; rw [Tm.high] at h; omega
  | succ d ih =>
    have step : ∀ (ts : List Tm) (L : Int), allPs ts → highs ts ≤ d → sizeL ts 0 ≤ L → fitsL ts d L = (true, L - sizeL ts 0) := by
      intro ts
      induction ts with
      | nil => intro L _ _ _; rw [fitsL, sizeL, Int.sub_zero]
      | cons t ts iht =>
        intro L ha hh hs
        rw [allPs] at ha
        rw [highs] at hh
        rw [sizeL, sizeL_add] at hs
        have hp := sizeL_pos ts
        have h1 := ih t L ha.1 (by omega) (by omega)
        have h2 := iht (L - sizeT t) ha.2 (by omega) (by omega)
        rw [fitsL, h1, sizeL, sizeL_add]
        show fitsL ts d (L - sizeT t) = _
        rw [h2]
        congr 1; omega
    intro t L ha hh hs
    obtain ⟨k, s, n, l⟩ := t
    rw [size_is] at hs ⊢
    have hp := sizeL_pos l
    rw [allP] at ha
    rw [Tm.high] at hh
    rw [fitsT, if_neg (by omega), if_pos ha.1, step l (L - 1) ha.2 (by omega) (by omega)]
    congr 1; omega
theorem may_mk {t : Tm} (ha : allP t) (hh : t.high ≤ 5) (hs : sizeT t ≤ 24) : mayB t = true := by
  unfold mayB
  rw [fits_mk 5 t 24 ha hh hs]
theorem high_one (t : Tm) : 1 ≤ t.high := by obtain ⟨k, s, n, l⟩ := t; rw [Tm.high]; omega
mutual
theorem rep_more {bs : List Bd} : ∀ t : Tm, allP t → t.high ≤ (repT bs t).high ∧ sizeT t ≤ sizeT (repT bs t)
  | ⟨k, s, n, l⟩, h => by
    by_cases hk : (k == 1) = true
    · have hl : l = [] := List.eq_nil_of_length_eq_zero (allP_var h hk)
      subst hl
      have h1 := high_one (repT bs ⟨k, s, n, []⟩)
      have h2 := size_one (repT bs ⟨k, s, n, []⟩)
      refine ⟨?_, ?_⟩
      · rw [Tm.high, highs]; exact h1
      · rw [size_is, sizeL]; exact h2
    · rw [allP] at h
      have := repL_more (bs := bs) l h.2
      rw [repT, if_neg hk, Tm.high, Tm.high, size_is, size_is]
      omega
theorem repL_more {bs : List Bd} : ∀ l : List Tm, allPs l → highs l ≤ highs (repL bs l) ∧ sizeL l 0 ≤ sizeL (repL bs l) 0
  | [], _ => by rw [repL]; exact ⟨Nat.le_refl _, Int.le_refl _⟩
  | t :: ts, h => by
    rw [allPs] at h
    have h1 := rep_more (bs := bs) t h.1
    have h2 := repL_more (bs := bs) ts h.2
    rw [repL, highs, highs, sizeL, sizeL_add, sizeL, sizeL_add (repL bs ts)]
    omega
end
theorem may_back {bs : List Bd} {t : Tm} (ha : allP t) (h : mayB (repT bs t) = true) : mayB t = true := by
  have h1 := may_high h
  have h2 := may_size h
  have h3 := rep_more (bs := bs) t ha
  exact may_mk ha (by omega) (by omega)
/-! ground terms -/
theorem ground_var {t : Tm} (h : groundT t = true) : t.kind ≠ 1 := by
  obtain ⟨k, s, n, l⟩ := t
  rw [groundT, Bool.and_eq_true] at h
  simpa using h.2
theorem groundL_in : ∀ {l : List Tm} {x : Tm}, groundL l = true → x ∈ l → groundT x = true
  | t :: ts, x, h, hx => by
    rw [groundL, Bool.and_eq_true] at h
    rcases List.mem_cons.1 hx with e | e
    · rw [e]; exact h.1
    · exact groundL_in h.2 e
theorem ground_args {t x : Tm} (h : groundT t = true) (hx : x ∈ t.args) : groundT x = true := by
  obtain ⟨k, s, n, l⟩ := t
  rw [groundT, Bool.and_eq_true] at h
  exact groundL_in h.1 hx
theorem rep_ground {bs : List Bd} {t : Tm} (ha : allP t) (h : groundT t = true) : repT bs t = t := rep_id t ha (ment_ground bs t h)
mutual
/-- two that make one term the same ground one: each variable of it stands for the same -/
theorem rep_occ {bs cs : List Bd} : ∀ t : Tm, allP t → groundT (repT bs t) = true → repT cs t = repT bs t → ∀ v ∈ occ t, (bdOf bs v).isSome = true ∧ bdOf cs v = bdOf bs v
  | ⟨k, s, n, l⟩, ha, hg, he => by
    intro v hv
    by_cases hk : (k == 1) = true
    · have hl : l = [] := List.eq_nil_of_length_eq_zero (allP_var ha hk)
      subst hl
      have hv : v = s := by
        rw [occ, if_pos (by simpa using hk), occL] at hv
        simpa using hv
      subst hv
      rw [repT, if_pos hk] at hg
      have h2 : ∀ xs : List Bd, repT xs ⟨k, v, n, []⟩ = (bdOf xs v).getD ⟨k, v, n, []⟩ := fun xs => by rw [repT, if_pos hk]; rfl
      rw [h2, h2] at he
      have hnv : ¬ groundT ⟨k, v, n, []⟩ = true := fun h => absurd (by simpa using hk) (ground_var h)
      cases hb : bdOf bs v with
      | none => rw [hb] at hg; exact absurd hg hnv
      | some u =>
        rw [hb] at hg he
        cases hc : bdOf cs v with
        | none =>
          rw [hc] at he
          have e : (⟨k, v, n, []⟩ : Tm) = u := he
          rw [← e] at hg
          exact absurd hg hnv
        | some u' =>
          rw [hc] at he
          have e : u' = u := he
          exact ⟨rfl, by rw [e]⟩
    · have e1 : repT bs ⟨k, s, n, l⟩ = ⟨k, s, n, repL bs l⟩ := by rw [repT, if_neg hk]
      have e2 : repT cs ⟨k, s, n, l⟩ = ⟨k, s, n, repL cs l⟩ := by rw [repT, if_neg hk]
      rw [e1, groundT, Bool.and_eq_true] at hg
      rw [e1, e2] at he
      rw [allP] at ha
      rw [occ, if_neg (by simpa using hk), List.nil_append] at hv
      exact repL_occ l ha.2 hg.1 (by injection he) v hv
theorem repL_occ {bs cs : List Bd} : ∀ l : List Tm, allPs l → groundL (repL bs l) = true → repL cs l = repL bs l → ∀ v ∈ occL l, (bdOf bs v).isSome = true ∧ bdOf cs v = bdOf bs v
  | [], _, _, _ => by intro v hv; rw [occL] at hv; cases hv
  | t :: ts, ha, hg, he => by
    intro v hv
    rw [allPs] at ha
    rw [repL, groundL, Bool.and_eq_true] at hg
    rw [repL, repL] at he
    injection he with h1 h2
    rw [occL] at hv
    rcases List.mem_append.1 hv with h | h
    · exact rep_occ t ha.1 hg.1 h1 v h
    · exact repL_occ ts ha.2 hg.2 h2 v h
end
end Go.Proofs.Ytjmfjeeddnmoaaa

/- What a ground term is made by, unify finds (pure). -/
namespace Go.Proofs.Ytjmfjeeddnmoaaa
open Go.RowKit

/-! lists that rise -/
theorem sub_len {α : Type} : ∀ (xs ys : List α), xs.Pairwise (· ≠ ·) → (∀ x ∈ xs, x ∈ ys) → xs.length ≤ ys.length
  | [], ys, _, _ => Nat.zero_le _
  | x :: xs, ys, hp, hs => by
    obtain ⟨l1, l2, rfl⟩ := List.append_of_mem (hs x (by simp))
    rw [List.pairwise_cons] at hp
    have := sub_len xs (l1 ++ l2) hp.2 (fun z hz => by
      have h1 := hs z (by simp [hz])
      have h2 := hp.1 z hz
      simp only [List.mem_append, List.mem_cons] at h1 ⊢
      rcases h1 with h | h | h
      · exact .inl h
      · exact absurd h.symm h2
      · exact .inr h)
    simp only [List.length_append, List.length_cons] at this ⊢
    omega
theorem lt_irr (s : ByteArray) : ltN s s = false := by rw [ltN_cmp]; simp [(cmpS_eq s s).2 rfl]
theorem rise_pair {bs : List Bd} (h : RiseB bs) : bs.Pairwise (fun x y => ltN x.name y.name = true) :=
  List.pairwise_iff_getElem.2 fun i j _ hj hij => h i j hj hij
theorem pair_rise {bs : List Bd} (h : bs.Pairwise (fun x y => ltN x.name y.name = true)) : RiseB bs :=
  fun i j hj hij => List.pairwise_iff_getElem.1 h i j (by omega) hj hij
theorem rise_ne {bs : List Bd} (h : RiseB bs) : bs.Pairwise (· ≠ ·) := (rise_pair h).imp fun hxy e => by
  rw [e, lt_irr] at hxy; cases hxy
theorem pair_eq : ∀ (xs ys : List Bd), xs.Pairwise (fun x y => ltN x.name y.name = true) → ys.Pairwise (fun x y => ltN x.name y.name = true) → (∀ x ∈ xs, x ∈ ys) → (∀ y ∈ ys, y ∈ xs) → xs = ys
  | [], [], _, _, _, _ => rfl
  | [], y :: ys, _, _, _, h => by have := h y (by simp); cases this
  | x :: xs, [], _, _, h, _ => by have := h x (by simp); cases this
  | x :: xs, y :: ys, hx, hy, h1, h2 => by
    rw [List.pairwise_cons] at hx hy
    have e : x = y := by
      rcases List.mem_cons.1 (h1 x (by simp)) with e | e
      · exact e
      · rcases List.mem_cons.1 (h2 y (by simp)) with e' | e'
        · exact e'.symm
        · have a := hy.1 x e
          have b := ltN_trans a (hx.1 y e')
          rw [lt_irr] at b; cases b
    subst e
    rw [pair_eq xs ys hx.2 hy.2 (fun z hz => by
      rcases List.mem_cons.1 (h1 z (by simp [hz])) with e | e
      · have := hx.1 z hz; rw [e, lt_irr] at this; cases this
      · exact e) (fun z hz => by
      rcases List.mem_cons.1 (h2 z (by simp [hz])) with e | e
      · have := hy.1 z hz; rw [e, lt_irr] at this; cases this
      · exact e)]
/-! binds of a matcher -/
structure MatchB (m : List Bd) : Prop where
  rise : RiseB m
  len : m.length ≤ 16
  ground : ∀ x ∈ m, groundT x.tm = true
  may : ∀ x ∈ m, mayB x.tm = true
mutual
theorem rep_sub {bs m : List Bd} (hm : MatchB m) (hs : ∀ x ∈ bs, x ∈ m) : ∀ u : Tm, allP u → repT m (repT bs u) = repT m u
  | ⟨k, s, n, l⟩, hu => by
    by_cases hk : (k == 1) = true
    · have hl : l = [] := List.eq_nil_of_length_eq_zero (allP_var hu hk)
      subst hl
      cases hb : bdOf bs s with
      | none =>
        have e : repT bs ⟨k, s, n, []⟩ = ⟨k, s, n, []⟩ := by rw [repT, if_pos hk, hb]; rfl
        rw [e]
      | some v =>
        have e : repT bs ⟨k, s, n, []⟩ = v := by rw [repT, if_pos hk, hb]; rfl
        obtain ⟨x, hx, e1, e2⟩ := bdOf_mem hb
        have hxm := hs x hx
        have h1 := bdOf_in hm.rise hxm
        rw [e, repT, if_pos hk, ← e2, h1, ← e1, rep_ground (may_all (hm.may x hxm)) (hm.ground x hxm)]; rfl
    · rw [allP] at hu
      have e1 : repT bs ⟨k, s, n, l⟩ = ⟨k, s, n, repL bs l⟩ := by rw [repT, if_neg hk]
      have e2 : repT m ⟨k, s, n, l⟩ = ⟨k, s, n, repL m l⟩ := by rw [repT, if_neg hk]
      rw [e1, e2, repT, if_neg hk, repL_sub hm hs l hu.2]
theorem repL_sub {bs m : List Bd} (hm : MatchB m) (hs : ∀ x ∈ bs, x ∈ m) : ∀ l : List Tm, allPs l → repL m (repL bs l) = repL m l
  | [], _ => rfl
  | t :: ts, h => by
    rw [allPs] at h
    have e : repL bs (t :: ts) = repT bs t :: repL bs ts := by rw [repL]
    rw [e, repL, repL, rep_sub hm hs t h.1, repL_sub hm hs ts h.2]
end
theorem bnd_match {bs m : List Bd} (hm : MatchB m) (hb : bindsB bs = true) (hs : ∀ x ∈ bs, x ∈ m) {a b : Tm} (ha : mayB a = true) (hbm : mayB b = true) (hg : groundT b = true) (ra : repT bs a = a) (hk : a.kind = 1) (e : repT m a = b) :
    (bndP bs a b).1 = 0 ∧ ∀ x ∈ (bndP bs a b).2, x ∈ m := by
  have hkb := ground_var hg
  have hne : ¬ a.kind = b.kind := fun h => hkb (by rw [← h]; exact hk)
  have hk1 : (a.kind == 1) = true := by simpa using hk
  have hsw : swapB a b = false := by
    unfold swapB
    simp [hk]
    intro h; exact absurd h.symm hkb
  have hbm2 : bdOf m a.name = some b := by
    rw [repT_eq, if_pos hk1] at e
    cases hc : bdOf m a.name with
    | none =>
      rw [hc] at e
      have : (innT m a).kind = b.kind := by rw [← e]; rfl
      exact absurd this hne
    | some u => rw [hc] at e; exact congrArg some e
  have hpl : plB bs a.name = false := by
    cases hc : bdOf bs a.name with
    | none => exact bdOf_plB hc
    | some u =>
      obtain ⟨x, hx, e1, e2⟩ := bdOf_mem hc
      rw [repT_eq, if_pos hk1, hc] at ra
      have e3 : u = a := ra
      have := ground_var (hm.ground x (hs x hx))
      rw [e1, e3] at this
      exact absurd hk this
  obtain ⟨y, hy, y1, y2⟩ := bdOf_mem hbm2
  have hym : (⟨a.name, b⟩ : Bd) ∈ m := by
    obtain ⟨yn, yt⟩ := y
    simp only at y1 y2
    rw [← y1, ← y2]; exact hy
  have hv : varB a.name = true := by
    unfold varB
    rw [may_var ha hk] at ha
    exact ha
  have hset : setB bs a.name b = true := by
    unfold setB
    rw [hb, hbm, hv, hpl, ment_ground _ _ hg]; rfl
  have hlen : bs.length < 16 := by
    have := sub_len (⟨a.name, b⟩ :: bs) m (List.pairwise_cons.2 ⟨(fun x hx he => by
      have : plB bs a.name = true := (plB_iff _ _).2 ⟨x, hx, by rw [← he]⟩
      rw [hpl] at this; cases this), rise_ne (okL_rise (binds_ok hb).2.1)⟩) (fun x hx => by
      rcases List.mem_cons.1 hx with h | h
      · rw [h]; exact hym
      · exact hs x h)
    have := hm.len
    simp only [List.length_cons] at *
    omega
  have hmem : ∀ x ∈ stlL ⟨a.name, b⟩ (insB bs (lowK bs a.name) ⟨a.name, b⟩), x ∈ m := by
    intro x hx
    obtain ⟨z, hz, rfl⟩ := List.mem_map.1 hx
    have hzm : z ∈ m := by
      rcases insB_mem.1 hz with h | h
      · exact hs z h
      · rw [h]; exact hym
    rw [rep_ground (may_all (hm.may z hzm)) (hm.ground z hzm)]
    exact hzm
  have hok : okSet bs a.name b (lowK bs a.name) = true := by
    unfold okSet mayL
    rw [Bool.and_eq_true, decide_eq_true_eq, List.all_eq_true]
    exact ⟨hlen, fun x hx => hm.may x (hmem x hx)⟩
  have hE : setE bs a.name b = 0 := by unfold setE; rw [hset, hok]; rfl
  have hL : setL bs a.name b = stlL ⟨a.name, b⟩ (insB bs (lowK bs a.name) ⟨a.name, b⟩) := by unfold setL; rw [hset, hok]; rfl
  have hB : bndP bs a b = (0, stlL ⟨a.name, b⟩ (insB bs (lowK bs a.name) ⟨a.name, b⟩)) := by
    unfold bndP
    rw [if_neg (by simp [hne])]
    simp only [hsw]
    rw [← hL, ← hE]
    show (if setE bs a.name b = 1 then _ else _) = _
    rw [if_neg (by rw [hE]; decide)]
    rfl
  rw [hB]
  exact ⟨rfl, hmem⟩
theorem fold_match {n : Nat} {m : List Bd} (hf : ∀ bs a b, bindsB bs = true → (∀ x ∈ bs, x ∈ m) → mayB a = true → mayB b = true → groundT b = true → repT m a = b → Fuel n bs a → (unifP n bs a b).1 = 0 ∧ ∀ x ∈ (unifP n bs a b).2, x ∈ m) :
    ∀ (xs ys : List Tm) (bs : List Bd), bindsB bs = true → (∀ x ∈ bs, x ∈ m) → (∀ x ∈ xs, mayB x = true) → (∀ y ∈ ys, mayB y = true ∧ groundT y = true) → repL m xs = ys → ((17 - bs.length) * 6 ≤ n ∨ ((16 - bs.length) * 6 ≤ n ∧ ∀ x ∈ xs, Fuel n bs x)) →
      (foldU (unifP n) bs xs ys).1 = 0 ∧ ∀ x ∈ (foldU (unifP n) bs xs ys).2, x ∈ m
  | [], _, bs, _, hs, _, _, e, _ => by rw [← e]; exact ⟨rfl, hs⟩
  | x :: xs, ys, bs, hb, hs, hx, hy, e, hF => by
    rw [repL] at e
    subst e
    have hF0 : Fuel n bs x := by
      rcases hF with h | h
      · exact .inl h
      · exact h.2 x (by simp)
    have hy0 := hy (repT m x) (by simp)
    obtain ⟨h0, hs1⟩ := hf bs x (repT m x) hb hs (hx x (by simp)) hy0.1 hy0.2 rfl hF0
    rw [foldU, if_pos h0]
    obtain ⟨b1, g1, _⟩ := unif_grow n bs x _ hb (hx x (by simp)) hy0.1 h0
    refine fold_match hf xs _ _ b1 hs1 (fun z hz => hx z (by simp [hz])) (fun z hz => hy z (by simp [hz])) rfl ?_
    rcases g1.len with e | e
    · rw [e]
      rcases hF with h | h
      · exact .inl h
      · exact .inr ⟨h.1, fun z hz => h.2 z (by simp [hz])⟩
    · left
      have := binds_room b1
      rcases hF with h | h
      · omega
      · have := h.1; omega
theorem unif_match {m : List Bd} (hm : MatchB m) : ∀ (n : Nat) (bs : List Bd) (a b : Tm), bindsB bs = true → (∀ x ∈ bs, x ∈ m) → mayB a = true → mayB b = true → groundT b = true → repT m a = b → Fuel n bs a → (unifP n bs a b).1 = 0 ∧ ∀ x ∈ (unifP n bs a b).2, x ∈ m
  | 0, bs, a, b, hb, _, _, _, _, _, hF => by
    have := binds_room hb
    rcases hF with h | ⟨_, h⟩ <;> omega
  | n + 1, bs, a, b, hb, hs, ha, hbm, hg, e, hF => by
    have hroom := binds_room hb
    have hpl := rep_plain (binds_plain hb) a (may_all ha)
    have em : repT m (repT bs a) = b := by rw [rep_sub hm hs a (may_all ha), e]
    have ma : mayB (repT bs a) = true := may_back hpl (by rw [em]; exact hbm)
    have rb : repT bs b = b := rep_ground (may_all hbm) hg
    have h1 : applyE bs a = 0 := by unfold applyE; rw [hb, ha, ma]; rfl
    have h2 : applyE bs b = 0 := by unfold applyE; rw [hb, hbm, rb, hbm]; rfl
    have ra := rep_twice hb (may_all ha)
    rw [unifP, if_pos h1, if_pos h2, (apply_is h1).1, (apply_is h2).1, rb]
    by_cases hk : (repT bs a).kind = 1
    · rw [if_pos (.inl hk)]
      exact bnd_match hm hb hs ma hbm hg ra hk em
    · rw [if_neg (fun h => h.elim hk (ground_var hg))]
      rw [rep_inn hk] at em
      have hh : headB (repT bs a) b = true := by
        rw [← em]; unfold headB
        simp [repL_len]
      rw [if_pos hh]
      have rl : repL bs (repT bs a).args = (repT bs a).args := by
        rw [rep_inn (L := bs) hk] at ra
        exact congrArg Tm.args ra
      have h5 := may_high ma
      refine fold_match (fun bs a b => unif_match hm n bs a b) _ _ bs hb hs (fun x hx => may_args ma hx) (fun y hy => ⟨may_args hbm hy, ground_args hg hy⟩) (congrArg Tm.args em) (.inr ?_)
      rcases hF with h | ⟨e1, h⟩
      · refine ⟨by omega, fun x hx => .inr ⟨rep_argL rl x hx, ?_⟩⟩
        have := arg_high hx
        omega
      · refine ⟨by omega, fun x hx => .inr ⟨rep_argL rl x hx, ?_⟩⟩
        have := arg_high hx
        rw [e1] at this
        omega
/-- a ground term that matches unifies, by the same binds -/
theorem match_unif {m : List Bd} (hm : MatchB m) {n : Nat} (hn : 102 ≤ n) {a b : Tm} (ha : mayB a = true) (hb : mayB b = true) (hg : groundT b = true) (e : repT m a = b) (hv : ∀ x ∈ m, x.name ∈ occ a) : unifP n [] a b = (0, m) := by
  have hF : Fuel n [] a := .inl (by simp; omega)
  have hnil : bindsB [] = true := by decide
  obtain ⟨h0, hs⟩ := unif_match hm n [] a b hnil (fun x hx => by cases hx) ha hb hg e hF
  obtain ⟨b1, g1, e1⟩ := unif_grow n [] a b hnil ha hb h0
  rw [rep_ground (bs := (unifP n [] a b).2) (may_all hb) hg] at e1
  have key := rep_occ (bs := m) (cs := (unifP n [] a b).2) a (may_all ha) (by rw [e]; exact hg) (by rw [e1, e])
  have hback : ∀ x ∈ m, x ∈ (unifP n [] a b).2 := fun x hx => by
    have h1 := (key x.name (hv x hx)).2
    rw [bdOf_in hm.rise hx] at h1
    obtain ⟨y, hy, y1, y2⟩ := bdOf_mem h1
    have : y = x := by cases y; cases x; simp only at y1 y2; rw [y1, y2]
    rw [← this]; exact hy
  have := pair_eq _ _ (rise_pair (okL_rise (binds_ok b1).2.1)) (rise_pair hm.rise) hs hback
  rw [← this, ← h0]
end Go.Proofs.Ytjmfjeeddnmoaaa

/- unify's marks: names as two words. -/
namespace Go.Proofs.Ytjmfjeeddnmoaaa
open Go.RowKit

/-- bytes as one number -/
def wd (l : List UInt8) : Nat := l.foldl (fun a b => a * 256 + b.toNat) 0
theorem wd_snoc (l : List UInt8) (b : UInt8) : wd (l ++ [b]) = wd l * 256 + b.toNat := by unfold wd; rw [List.foldl_append]; rfl
theorem wd_lt : ∀ (n : Nat) (l : List UInt8), l.length = n → wd l < 256 ^ n
  | 0, [], _ => by decide
  | n + 1, l, h => by
    obtain ⟨l', b, rfl⟩ : ∃ l' b, l = l' ++ [b] := ⟨l.dropLast, l.getLast (by intro e; rw [e] at h; cases h), (List.dropLast_concat_getLast _).symm⟩
    have := wd_lt n l' (by simpa using h)
    have hb := byte_lt b
    rw [wd_snoc, Nat.pow_succ]; omega
theorem wd_inj : ∀ (n : Nat) (l r : List UInt8), l.length = n → (∀ b ∈ l, b.toNat ≠ 0) → (∀ b ∈ r, b.toNat ≠ 0) → wd l = wd r → l = r := by
  intro n
  induction n with
  | zero =>
    intro l r h _ hr e
    obtain rfl : l = [] := List.eq_nil_of_length_eq_zero h
    cases hc : r with
    | nil => rfl
    | cons a r' =>
      obtain ⟨x, b, hx⟩ : ∃ x b, r = x ++ [b] := ⟨r.dropLast, r.getLast (by rw [hc]; simp), (List.dropLast_concat_getLast _).symm⟩
      have hb := hr b (by rw [hx]; simp)
      rw [hx, wd_snoc] at e
      have : wd [] = 0 := rfl
      omega
  | succ n ih =>
    intro l r h hl hr e
    obtain ⟨l', b, rfl⟩ : ∃ l' b, l = l' ++ [b] := ⟨l.dropLast, l.getLast (by intro e; rw [e] at h; cases h), (List.dropLast_concat_getLast _).symm⟩
    have hb := hl b (by simp)
    rw [wd_snoc] at e
    by_cases hr0 : r = []
    · rw [hr0] at e
      have : wd [] = 0 := rfl
      omega
    · obtain ⟨r', c, rfl⟩ : ∃ r' c, r = r' ++ [c] := ⟨r.dropLast, r.getLast hr0, (List.dropLast_concat_getLast _).symm⟩
      rw [wd_snoc] at e
      have h1 := byte_lt b
      have h2 := byte_lt c
      have e1 : b = c := UInt8.toNat_inj.1 (by omega)
      have e2 : wd l' = wd r' := by omega
      rw [e1, ih l' r' (by simpa using h) (fun z hz => hl z (by simp [hz])) (fun z hz => hr z (by simp [hz])) e2]
/-- so many bytes from p on -/
def sub8 (s : ByteArray) (p k : Nat) : List UInt8 := (s.data.toList.drop p).take k
theorem sub8_len (s : ByteArray) (p k : Nat) (h : p + k ≤ s.size) : (sub8 s p k).length = k := by
  unfold sub8
  have : s.data.toList.length = s.size := by rw [Array.length_toList]; rfl
  rw [List.length_take, List.length_drop]; omega
theorem sub8_snoc (s : ByteArray) (p k : Nat) (h : p + k < s.size) : sub8 s p (k + 1) = sub8 s p k ++ [s[p + k]] := by
  have hl : s.data.toList.length = s.size := by rw [Array.length_toList]; rfl
  unfold sub8
  rw [List.take_succ_eq_append_getElem (by rw [List.length_drop]; omega)]
  congr 1
  rw [List.getElem_drop]
  rfl
theorem wd_step (s : ByteArray) (p k : Nat) (h : p + k < s.size) (h8 : k < 8) :
    bits .or .u64 (IntKind.u64.wrap ((wd (sub8 s p k) : Nat) * 256)) (IntKind.u64.wrap (s[p + k].toNat : Int)) = ((wd (sub8 s p (k + 1)) : Nat) : Int) := by
  have h1 := wd_lt k (sub8 s p k) (sub8_len s p k (by omega))
  have h2 : (256 : Nat) ^ k ≤ 256 ^ 7 := Nat.pow_le_pow_right (by omega) (by omega)
  have hb := byte_lt s[p + k]
  rw [sub8_snoc s p k h, wd_snoc]
  have e1 : IntKind.u64.wrap (s[p + k].toNat : Int) = (s[p + k].toNat : Int) := by
    exact IntWalk.u64_in _ (by omega)
  have e2 : IntKind.u64.wrap ((wd (sub8 s p k) : Nat) * 256) = ((wd (sub8 s p k) * 256 : Nat) : Int) := by
    have e3 : (((wd (sub8 s p k) : Nat) : Int) * 256) = ((wd (sub8 s p k) * 256 : Nat) : Int) := by omega
    rw [e3]
    exact IntWalk.u64_in _ (by omega)
  rw [e1, e2, u64_or_nat _ _ (by omega) (by omega), or_add 8 _ _ (by omega) (by omega)]
set_option maxRecDepth 100000 in
set_option maxHeartbeats 1000000 in
theorem wordAt_any (s : ByteArray) (p : Nat) (w : World) (hs : s.size ≤ 16) (hp : p ≤ 8) :
    Calls Try.prog 166 #[.string s, .int .i64 p] w fun e w' => e = .returned (.int .u64 ((wd (sub8 s p 8) : Nat) : Int)) ∧ Ext w w' := by
  go_enter Try.func166, Try.ntmps166
  go_wp2_with fail
  go_loop [5, 6] (fun x i => ∃ (k : Nat), k ≤ 8 ∧ (p + k ≤ s.size ∨ k = 0) ∧ i = .int .i64 ((p + k : Nat) : Int) ∧ x = .int .u64 ((wd (sub8 s p k) : Nat) : Int)) (fun _ i => p + 8 - (intOf i).toNat)
  case atStart => exact ⟨0, by omega, .inr rfl, rfl, rfl⟩
  case round =>
    obtain ⟨k, hk, hk2, rfl, rfl⟩ := hrel
    by_cases hlt : (p : Int) + (k : Int) < min ((p : Int) + 8) (s.size : Int)
    · have h1 : p + k < s.size := by omega
      have h2 : k < 8 := by omega
      have HS := Lib.hid (wd_step s p k h1 h2)
      go_wp2_with fail
      go_round
      case rel => exact ⟨k + 1, by omega, .inl (by omega), by go_num, by rw [HS.out]⟩
      case measure => simp [intOf]; omega
    · have HE : Hid (sub8 s p k = sub8 s p 8) := Lib.hid (by
        rcases Nat.lt_or_eq_of_le hk with h | h
        · unfold sub8
          have hl : s.data.toList.length = s.size := by rw [Array.length_toList]; rfl
          rw [List.take_of_length_le (by rw [List.length_drop]; omega), List.take_of_length_le (by rw [List.length_drop]; omega)]
        · rw [h])
      go_wp2_with fail
      go_ret
      exact ⟨by rw [HE.out]; rfl, Ext.refl w⟩
/-- a name's mark, as a value -/
def markV (s : ByteArray) : Value := .agg #[.int .u64 ((wd (sub8 s 0 8) : Nat) : Int), .int .u64 ((wd (sub8 s 8 8) : Nat) : Int)]
set_option maxRecDepth 100000 in
set_option maxHeartbeats 1000000 in
theorem markOf_any (s : ByteArray) (w : World) (hs : s.size ≤ 16) :
    Calls Try.prog 150 #[.string s] w fun e w' => e = .returned (markV s) ∧ Ext w w' := by
  have HW0 : Hid (wd (sub8 s 0 8) = wd (sub8 s 0 8)) := Lib.hid rfl
  obtain ⟨W0, hw0⟩ : ∃ W0 : Int, W0 = ((wd (sub8 s 0 8) : Nat) : Int) := ⟨_, rfl⟩
  obtain ⟨W1, hw1⟩ : ∃ W1 : Int, W1 = ((wd (sub8 s 8 8) : Nat) : Int) := ⟨_, rfl⟩
  have K0 : Hid (∀ u, Calls Try.prog 166 #[.string s, .int .i64 0] u fun e w' => e = .returned (.int .u64 W0) ∧ Ext u w') := Lib.hid (fun u => by rw [hw0]; exact wordAt_any s 0 u hs (by omega))
  have K1 : Hid (∀ u, Calls Try.prog 166 #[.string s, .int .i64 8] u fun e w' => e = .returned (.int .u64 W1) ∧ Ext u w') := Lib.hid (fun u => by rw [hw1]; exact wordAt_any s 8 u hs (by omega))
  unfold markV
  rw [← hw0, ← hw1]
  clear hw0 hw1 HW0
  go_enter Try.func150, Try.ntmps150
  go_wp2_with fail
  go_loopw [5] (fun i wr => ∃ (k : Nat) (x y : Int), k ≤ 2 ∧ i = .int .i64 k ∧ (k = 0 ∨ x = W0) ∧ (k ≤ 1 ∨ y = W1) ∧ Hid (Pair wr (w.heap.size + 1) x y) ∧ Hid (Pair wr w.heap.size 0 0) ∧ Ext w wr ∧ w.heap.size + 1 < wr.heap.size) (fun i _ => 2 - (intOf i).toNat)
  case atStart => exact ⟨0, 0, 0, by omega, rfl, .inl rfl, .inl (by omega), Lib.hid ⟨by go_simp, by go_simp, by go_simp, by go_simp⟩, Lib.hid ⟨by go_simp, by go_simp, by go_simp, by go_simp⟩, ((Ext.refl w).alloc _).alloc _, by simp⟩
  case round =>
    obtain ⟨k, x, y, hk, rfl, h1, h2, HP, HZ, hx, hsz⟩ := hrel
    obtain ⟨p0, p1, f0, f1⟩ := HP.out
    by_cases c0 : k = 0
    · subst c0
      clear h1 h2
      go_wp2_with fail
      refine (K0.out _).mono ?_
      rintro e1 w1 ⟨rfl, hx1⟩
      have HP1 := Lib.hid (HP.out.ext hx1 hsz)
      have HZ1 := Lib.hid (HZ.out.ext hx1 (by omega))
      obtain ⟨q0, q1, g0, g1⟩ := HP1.out
      have hxw := hx.trans hx1
      have hsz1 : w.heap.size + 1 < w1.heap.size := Nat.lt_of_lt_of_le hsz hx1.size
      clear HP HZ p0 p1 f0 f1
      go_wp2_with fail
      go_roundw
      case rel => exact ⟨1, W0, y, by omega, by go_num, .inr rfl, .inl (by omega), Lib.hid (HP1.out.set0 _), Lib.hid (HZ1.out.far _ (by omega)), hxw.setCell (show w.heap.size ≤ w.heap.size + 1 by omega) _, by simpa using hsz1⟩
      case measure => simp [intOf]
    · by_cases c1 : k = 1
      · subst c1
        obtain rfl : x = W0 := by rcases h1 with h | h; cases h; exact h
        clear h2 c0
        go_wp2_with fail
        refine (K1.out _).mono ?_
        rintro e1 w1 ⟨rfl, hx1⟩
        have HP1 := Lib.hid (HP.out.ext hx1 hsz)
        have HZ1 := Lib.hid (HZ.out.ext hx1 (by omega))
        obtain ⟨q0, q1, g0, g1⟩ := HP1.out
        have hxw := hx.trans hx1
        have hsz1 : w.heap.size + 1 < w1.heap.size := Nat.lt_of_lt_of_le hsz hx1.size
        clear HP HZ p0 p1 f0 f1
        go_wp2_with fail
        go_roundw
        case rel => exact ⟨2, x, W1, by omega, by go_num, .inr rfl, .inr rfl, Lib.hid (HP1.out.set1 _), Lib.hid (HZ1.out.far _ (by omega)), hxw.setCell (show w.heap.size ≤ w.heap.size + 1 by omega) _, by simpa using hsz1⟩
        case measure => simp [intOf]
      · obtain rfl : k = 2 := by omega
        obtain rfl : x = W0 := by rcases h1 with h | h; cases h; exact h
        obtain rfl : y = W1 := by rcases h2 with h | h; omega; exact h
        obtain ⟨z0, z1, g0, g1⟩ := HZ.out
        clear c0 c1 h1 h2
        go_wp2_with fail
        refine bodyPost_ret (v := .agg #[.int .u64 x, .int .u64 y]) (by simp [results, Try.results150, go_sem, *]) rfl ⟨rfl, ?_⟩
        exact (hx.setCell (Nat.le_refl _) _).setCell (Nat.le_refl _) _
end Go.Proofs.Ytjmfjeeddnmoaaa

/- Marks as keys of a map; a map of marks to places. -/
namespace Go.Proofs.Ytjmfjeeddnmoaaa
open Go.RowKit Go.Maps

theorem lawMark : WideMaps.KeyLaw Try.prog 161 := deep_law_laid laidOutK (m := 4) (by omega) (of_decide_eq_true (by kernel_rfl)) (by kernel_rfl) (by kernel_rfl)
theorem keyedMark : Keyed Try.prog 161 := Keyed.of_law lawMark
theorem cellsMark : Try.prog.cellsOf 161 = 2 := by kernel_rfl
theorem keyTypeMark : Try.prog.keyType 161 = true := by kernel_rfl
theorem key_two {x y : Int} (hx : (Lit.int .u64 x).wf = true) (hy : (Lit.int .u64 y).wf = true) : keyOf Try.prog 161 (labV x y) = some (labK x y) := by
  obtain ⟨m, hm⟩ := types3
  unfold keyOf
  simp only [Try.underlying161]
  rw [if_pos (by simp [keyTypeMark, Value.formed, Try.underlying161, cellsMark]), hm]
  simp [Program.keyLits, Try.underlying161, Try.underlying121, Try.underlying120, cellsMark, cellsArr, cellsU64, Value.cells, hx, hy, show List.range 2 = [0, 1] from rfl, labK]
theorem wd8 (s : ByteArray) (p : Nat) : wd (sub8 s p 8) < 18446744073709551616 := by
  have h1 := wd_lt _ (sub8 s p 8) rfl
  have h2 : (sub8 s p 8).length ≤ 8 := by unfold sub8; rw [List.length_take]; omega
  have h3 : (256 : Nat) ^ (sub8 s p 8).length ≤ 256 ^ 8 := Nat.pow_le_pow_right (by omega) h2
  omega
/-- a name's mark, as a key -/
def markL (s : ByteArray) : Lit := labK ((wd (sub8 s 0 8) : Nat) : Int) ((wd (sub8 s 8 8) : Nat) : Int)
theorem key_mark (s : ByteArray) : keyOf Try.prog 161 (markV s) = some (markL s) := key_two (wf64 (wd8 s 0)) (wf64 (wd8 s 8))
theorem sub8_all {s : ByteArray} (h : s.size ≤ 16) : s.data.toList = sub8 s 0 8 ++ sub8 s 8 8 := by
  have hl : s.data.toList.length = s.size := by rw [Array.length_toList]; rfl
  unfold sub8
  rw [List.drop_zero, List.take_of_length_le (l := s.data.toList.drop 8) (by rw [List.length_drop]; omega), List.take_append_drop]
theorem markL_inj {s t : ByteArray} (hs : Good s) (ht : Good t) (h : markL s = markL t) : s = t := by
  obtain ⟨h1, h2⟩ := labK_inj (wf64 (wd8 s 0)) (wf64 (wd8 s 8)) (wf64 (wd8 t 0)) (wf64 (wd8 t 8)) h
  have hn : ∀ {x : ByteArray}, Good x → ∀ p, ∀ b ∈ sub8 x p 8, b.toNat ≠ 0 := fun {x} hx p b hb => by
    have := hx.1 b (List.mem_of_mem_drop (List.mem_of_mem_take hb))
    omega
  have e1 := wd_inj _ (sub8 s 0 8) (sub8 t 0 8) rfl (hn hs 0) (hn ht 0) (by omega)
  have e2 := wd_inj _ (sub8 s 8 8) (sub8 t 8 8) rfl (hn hs 8) (hn ht 8) (by omega)
  exact name_ext (by rw [sub8_all hs.2, sub8_all ht.2, e1, e2])

/-- the map tells of the names of all binds where they stand -/
def MkAt (w : World) (b : Nat) (bs : List Bd) : Prop := ∃ D : DataW Unit, w.ownsMap Try.prog 161 (plainElem Try.prog 3) b bs.length D ∧
  ∀ s : ByteArray, Good s → ∀ zd, D.atKey (markL s) zd = match plc bs bs.length s with | some i => .lit (.int .i64 (i : Int)) | none => zd
theorem MkAt.lt {w : World} {b : Nat} {bs : List Bd} (h : MkAt w b bs) : b < w.heap.size := by obtain ⟨D, h, _⟩ := h; exact h.lt
theorem MkAt.keep {w w' : World} {b : Nat} {bs : List Bd} (h : MkAt w b bs) (e : w'.heap[b]? = w.heap[b]?) : MkAt w' b bs := by
  obtain ⟨D, ⟨es, clock, hb, F, hs, hD⟩, h2⟩ := h
  exact ⟨D, ⟨es, clock, e.trans hb, F, hs, hD⟩, h2⟩
theorem MkAt.ext {w w' : World} {b : Nat} {bs : List Bd} (h : MkAt w b bs) (x : Ext w w') : MkAt w' b bs := h.keep (x.block b h.lt)
theorem MkAt.made (w : World) : MkAt (w.alloc (.map #[] 0)) w.heap.size [] := ⟨_, World.ownsMap_made w _ _ _, fun _ _ _ => rfl⟩
theorem plc_app {bs : List Bd} {x : Bd} (k : Nat) (h : k ≤ bs.length) (s : ByteArray) : plc (bs ++ [x]) k s = plc bs k s := by
  induction k with
  | zero => rfl
  | succ k ih => rw [plc, plc, ih (by omega), List.getElem?_append_left (by omega)]
theorem plc_snoc (bs : List Bd) (x : Bd) (s : ByteArray) : plc (bs ++ [x]) (bs ++ [x]).length s = if x.name = s then some bs.length else plc bs bs.length s := by
  rw [List.length_append, List.length_singleton, plc, plc_app _ (Nat.le_refl _), List.getElem?_append_right (Nat.le_refl _)]
  simp
theorem MkAt.put {w : World} {b : Nat} {bs : List Bd} {x : Bd} {D : DataW Unit} (hs : Good x.name) (hm : IsMap D)
    (h : ∀ s : ByteArray, Good s → ∀ zd, D.atKey (markL s) zd = match plc bs bs.length s with | some i => .lit (.int .i64 (i : Int)) | none => zd)
    (hown : w.ownsMap Try.prog 161 (plainElem Try.prog 3) b (bs.length + 1) (D.put (markL x.name) (.lit (.int .i64 (bs.length : Int))))) : MkAt w b (bs ++ [x]) := by
  refine ⟨_, by rw [List.length_append, List.length_singleton]; exact hown, fun s hs' zd => ?_⟩
  rw [plc_snoc]
  by_cases c : x.name = s
  · subst c
    rw [if_pos rfl, atKey_put_same hm (lawMark.str (key_mark x.name) |>.elim fun _ e => by rw [e]; trivial)]
  · rw [if_neg c, atKey_put_other (fun e => c (markL_inj hs' hs e).symm), h s hs']
theorem MkAt.noCell {w : World} {b : Nat} {bs : List Bd} (h : MkAt w b bs) {p : Addr} {v : Value} (hc : w.cell? p = some v) : p.block ≠ b := by
  intro e
  obtain ⟨D, ⟨es, clock, hb, _⟩, _⟩ := h
  obtain ⟨bl, o, s⟩ := p
  simp only at e
  subst e
  simp [World.cell?, hb] at hc
end Go.Proofs.Ytjmfjeeddnmoaaa

/- Match, as plain functions (pure): what it finds makes the ground term. -/
namespace Go.Proofs.Ytjmfjeeddnmoaaa
open Go.RowKit

def stdP (W : List Bd) (s : ByteArray) (t : Tm) : Int × List Bd :=
  match bdOf W s with
  | some u => if cmpT u t = 0 then (0, W) else (3, W)
  | none => if W.length = 16 then (2, W) else (0, W ++ [⟨s, t⟩])
mutual
def takT : Tm → Tm → List Bd → Int × List Bd
  | ⟨k, s, n, l⟩, b, W => if (k == 1) = true then stdP W s b else if headB ⟨k, s, n, l⟩ b = true then takL l b.args W else (3, W)
def takL : List Tm → List Tm → List Bd → Int × List Bd
  | [], _, W => (0, W)
  | _ :: _, [], W => (0, W)
  | t :: ts, u :: us, W => if (takT t u W).1 = 0 then takL ts us (takT t u W).2 else takT t u W
end
theorem takT_eq (a b : Tm) (W : List Bd) : takT a b W = if (a.kind == 1) = true then stdP W a.name b else if headB a b = true then takL a.args b.args W else (3, W) := by
  obtain ⟨k, s, n, l⟩ := a; rw [takT]
structure TakB (W : List Bd) : Prop where
  inj : ∀ x ∈ W, ∀ y ∈ W, x.name = y.name → x = y
  nodup : W.Pairwise (fun x y => x.name ≠ y.name)
  len : W.length ≤ 16
  ground : ∀ x ∈ W, groundT x.tm = true
  may : ∀ x ∈ W, mayB x.tm = true
  good : ∀ x ∈ W, Good x.name
theorem TakB.nil : TakB [] := ⟨by simp, .nil, by simp, by simp, by simp, by simp⟩
theorem bdOf_inj {W : List Bd} (h : ∀ x ∈ W, ∀ y ∈ W, x.name = y.name → x = y) {x : Bd} (hx : x ∈ W) : bdOf W x.name = some x.tm := by
  cases hb : bdOf W x.name with
  | none =>
    have h1 := bdOf_plB hb
    have : plB W x.name = true := (plB_iff _ _).2 ⟨x, hx, rfl⟩
    rw [h1] at this; cases this
  | some u =>
    obtain ⟨y, hy, e1, e2⟩ := bdOf_mem hb
    rw [← e1, h y hy x hx e2]
theorem bdOf_snoc (W : List Bd) (s : ByteArray) (t : Tm) (v : ByteArray) : bdOf (W ++ [⟨s, t⟩]) v = if s = v then some t else bdOf W v := by
  unfold bdOf
  rw [plc_snoc]
  by_cases h : s = v
  · rw [if_pos h, if_pos h]; simp
  · rw [if_neg h, if_neg h]
    cases hp : plc W W.length v with
    | none => rfl
    | some i =>
      have := (plc_some hp).1
      simp [List.getElem?_append_left this]
mutual
theorem rep_old {W V : List Bd} (ho : ∀ v u, bdOf W v = some u → bdOf V v = some u) : ∀ t : Tm, allP t → groundT (repT W t) = true → repT V t = repT W t
  | ⟨k, s, n, l⟩, ha, hg => by
    by_cases hk : (k == 1) = true
    · have hl : l = [] := List.eq_nil_of_length_eq_zero (allP_var ha hk)
      subst hl
      have h2 : ∀ xs : List Bd, repT xs ⟨k, s, n, []⟩ = (bdOf xs s).getD ⟨k, s, n, []⟩ := fun xs => by rw [repT, if_pos hk]; rfl
      rw [h2] at hg
      rw [h2, h2]
      cases hb : bdOf W s with
      | none =>
        rw [hb] at hg
        exact absurd (by simpa using hk) (ground_var (t := ⟨k, s, n, []⟩) hg)
      | some u => rw [ho s u hb]
    · rw [repT, if_neg hk, groundT, Bool.and_eq_true] at hg
      rw [allP] at ha
      have e1 : repT W ⟨k, s, n, l⟩ = ⟨k, s, n, repL W l⟩ := by rw [repT, if_neg hk]
      have e2 : repT V ⟨k, s, n, l⟩ = ⟨k, s, n, repL V l⟩ := by rw [repT, if_neg hk]
      rw [e1, e2, repL_old ho l ha.2 hg.1]
theorem repL_old {W V : List Bd} (ho : ∀ v u, bdOf W v = some u → bdOf V v = some u) : ∀ l : List Tm, allPs l → groundL (repL W l) = true → repL V l = repL W l
  | [], _, _ => rfl
  | t :: ts, ha, hg => by
    rw [allPs] at ha
    rw [repL, groundL, Bool.and_eq_true] at hg
    rw [repL, repL, rep_old ho t ha.1 hg.1, repL_old ho ts ha.2 hg.2]
end
/-- what a match makes of what was found: more, for these names -/
structure Taken (W V : List Bd) (vs : List ByteArray) : Prop where
  binds : TakB V
  old : ∀ v u, bdOf W v = some u → bdOf V v = some u
  new : ∀ x ∈ V, x ∈ W ∨ x.name ∈ vs
theorem std_ok {W : List Bd} (hW : TakB W) {s : ByteArray} {t : Tm} (hs : Good s) (ht : mayB t = true) (hg : groundT t = true) (h : (stdP W s t).1 = 0) : Taken W (stdP W s t).2 [s] ∧ bdOf (stdP W s t).2 s = some t := by
  unfold stdP at h ⊢
  cases hb : bdOf W s with
  | some u =>
    rw [hb] at h
    simp only at h ⊢
    by_cases hc : cmpT u t = 0
    · rw [if_pos hc]
      obtain ⟨x, hx, e1, _⟩ := bdOf_mem hb
      have : u = t := (cmpT_zero (by rw [← e1]; exact hW.may x hx) ht).1 hc
      exact ⟨⟨hW, fun _ _ h => h, fun x hx => .inl hx⟩, by rw [hb, this]⟩
    · rw [if_neg hc] at h; cases h
  | none =>
    rw [hb] at h
    simp only at h ⊢
    by_cases hc : W.length = 16
    · rw [if_pos hc] at h; cases h
    · rw [if_neg hc]
      have hp := bdOf_plB hb
      have hne : ∀ x ∈ W, x.name ≠ s := fun x hx e => by
        have : plB W s = true := (plB_iff _ _).2 ⟨x, hx, e⟩
        rw [hp] at this; cases this
      have hl := hW.len
      refine ⟨⟨⟨?_, ?_, ?_, ?_, ?_, ?_⟩, ?_, ?_⟩, ?_⟩
      · intro x hx y hy e
        simp only [List.mem_append, List.mem_singleton] at hx hy
        rcases hx with hx | hx
        · rcases hy with hy | hy
          · exact hW.inj x hx y hy e
          · rw [hy] at e; exact absurd e (hne x hx)
        · rcases hy with hy | hy
          · rw [hx] at e; exact absurd e.symm (hne y hy)
          · rw [hx, hy]
      · rw [List.pairwise_append]
        refine ⟨hW.nodup, List.pairwise_singleton _ _, fun x hx y hy => ?_⟩
        simp only [List.mem_singleton] at hy
        rw [hy]; exact hne x hx
      · simp only [List.length_append, List.length_singleton]; omega
      · intro x hx
        simp only [List.mem_append, List.mem_singleton] at hx
        rcases hx with hx | hx
        · exact hW.ground x hx
        · rw [hx]; exact hg
      · intro x hx
        simp only [List.mem_append, List.mem_singleton] at hx
        rcases hx with hx | hx
        · exact hW.may x hx
        · rw [hx]; exact ht
      · intro x hx
        simp only [List.mem_append, List.mem_singleton] at hx
        rcases hx with hx | hx
        · exact hW.good x hx
        · rw [hx]; exact hs
      · intro v u hv
        rw [bdOf_snoc]
        by_cases e : s = v
        · rw [← e, hb] at hv; cases hv
        · rw [if_neg e]; exact hv
      · intro x hx
        simp only [List.mem_append, List.mem_singleton] at hx
        rcases hx with hx | hx
        · exact .inl hx
        · exact .inr (by rw [hx]; simp)
      · rw [bdOf_snoc, if_pos rfl]
mutual
theorem tak_ok : ∀ (a b : Tm) (W : List Bd), TakB W → allP a → (∀ s ∈ occ a, Good s) → mayB b = true → groundT b = true → (takT a b W).1 = 0 → Taken W (takT a b W).2 (occ a) ∧ repT (takT a b W).2 a = b
  | ⟨k, s, n, l⟩, b, W, hW, ha, hs, hb, hg, h => by
    by_cases hk : (k == 1) = true
    · have hl : l = [] := List.eq_nil_of_length_eq_zero (allP_var ha hk)
      subst hl
      have ho : occ ⟨k, s, n, []⟩ = [s] := by rw [occ, if_pos (by simpa using hk), occL]; rfl
      rw [ho] at hs ⊢
      rw [takT, if_pos hk] at h ⊢
      obtain ⟨h1, h2⟩ := std_ok hW (hs s (by simp)) hb hg h
      exact ⟨h1, by rw [repT, if_pos hk, h2]; rfl⟩
    · rw [takT, if_neg hk] at h ⊢
      by_cases hh : headB ⟨k, s, n, l⟩ b = true
      · rw [if_pos hh] at h ⊢
        obtain ⟨k1, k2, k3, k4⟩ := head_is hh
        have ho : occ ⟨k, s, n, l⟩ = occL l := by rw [occ, if_neg (by simpa using hk)]; rfl
        rw [ho] at hs ⊢
        rw [allP] at ha
        obtain ⟨h1, h2⟩ := takL_ok l b.args W hW k4 ha.2 hs (fun y hy => ⟨may_args hb hy, ground_args hg hy⟩) h
        refine ⟨h1, ?_⟩
        rw [repT, if_neg hk, h2]
        obtain ⟨k', s', n', l'⟩ := b
        simp only at k1 k2 k3
        rw [k1, k2, k3]
      · rw [if_neg hh] at h; cases h
theorem takL_ok : ∀ (l r : List Tm) (W : List Bd), TakB W → l.length = r.length → allPs l → (∀ s ∈ occL l, Good s) → (∀ y ∈ r, mayB y = true ∧ groundT y = true) → (takL l r W).1 = 0 → Taken W (takL l r W).2 (occL l) ∧ repL (takL l r W).2 l = r
  | [], [], W, hW, _, _, _, _, _ => by
    rw [takL]; exact ⟨⟨hW, fun _ _ h => h, fun x hx => .inl hx⟩, rfl⟩
  | [], _ :: _, _, _, hl, _, _, _, _ => by simp at hl
  | _ :: _, [], _, _, hl, _, _, _, _ => by simp at hl
  | t :: ts, u :: us, W, hW, hl, ha, hs, hy, h => by
    rw [takL] at h ⊢
    rw [allPs] at ha
    have hu := hy u (by simp)
    by_cases h0 : (takT t u W).1 = 0
    · rw [if_pos h0] at h ⊢
      obtain ⟨h1, h2⟩ := tak_ok t u W hW ha.1 (fun s hm => hs s (by rw [occL]; exact List.mem_append_left _ hm)) hu.1 hu.2 h0
      obtain ⟨h3, h4⟩ := takL_ok ts us _ h1.binds (by simpa using hl) ha.2 (fun s hm => hs s (by rw [occL]; exact List.mem_append_right _ hm)) (fun y hm => hy y (by simp [hm])) h
      refine ⟨⟨h3.binds, fun v x hv => h3.old v x (h1.old v x hv), fun x hx => ?_⟩, ?_⟩
      · rw [occL]
        rcases h3.new x hx with h | h
        · rcases h1.new x h with h' | h'
          · exact .inl h'
          · exact .inr (List.mem_append_left _ h')
        · exact .inr (List.mem_append_right _ h)
      · rw [repL, h4, rep_old h3.old t ha.1 (by rw [h2]; exact hu.2), h2]
    · rw [if_neg h0] at h; exact absurd h h0
end
/-- sorted by their names: a matcher's binds -/
theorem sorted_match {W m : List Bd} (hW : TakB W) (hp : ∀ x, x ∈ m ↔ x ∈ W) (hl : m.length = W.length) (hr : RiseB m) : MatchB m ∧ ∀ v, bdOf m v = bdOf W v := by
  refine ⟨⟨hr, by rw [hl]; exact hW.len, fun x hx => hW.ground x ((hp x).1 hx), fun x hx => hW.may x ((hp x).1 hx)⟩, fun v => ?_⟩
  cases hb : bdOf W v with
  | some u =>
    obtain ⟨x, hx, e1, e2⟩ := bdOf_mem hb
    have := bdOf_in hr ((hp x).2 hx)
    rw [← e2, this, e1]
  | none =>
    apply plB_bdOf
    cases hc : plB m v with
    | false => rfl
    | true =>
      obtain ⟨x, hx, e⟩ := (plB_iff _ _).1 hc
      have h1 := bdOf_plB hb
      have : plB W v = true := (plB_iff _ _).2 ⟨x, (hp x).1 hx, e⟩
      rw [h1] at this; cases this
/-- what Match finds, Unify finds -/
theorem take_unif {a b : Tm} (ha : mayB a = true) (hb : mayB b = true) (hg : groundT b = true) (h : (takT a b []).1 = 0) {m : List Bd} (hp : ∀ x, x ∈ m ↔ x ∈ (takT a b []).2) (hl : m.length = (takT a b []).2.length) (hr : RiseB m) : unifP 102 [] a b = (0, m) := by
  obtain ⟨h1, h2⟩ := tak_ok a b [] TakB.nil (may_all ha) (may_good ha) hb hg h
  obtain ⟨hm, hbd⟩ := sorted_match h1.binds hp hl hr
  refine match_unif hm (Nat.le_refl _) ha hb hg ?_ ?_
  · rw [rep_old (W := (takT a b []).2) (fun v u hv => by rw [hbd]; exact hv) a (may_all ha) (by rw [h2]; exact hg), h2]
  · intro x hx
    rcases h1.new x ((hp x).1 hx) with h | h
    · cases h
    · exact h
end Go.Proofs.Ytjmfjeeddnmoaaa

/- unify.ground. -/
namespace Go.Proofs.Ytjmfjeeddnmoaaa
open Go.RowKit

set_option maxHeartbeats 1000000 in
theorem uground_any (t : Tm) (A : Option Addr) (c : Nat) (w : World) (h : TmAt w t A c) :
    Calls Try.prog 105 #[t.val A c] w fun e w' => e = .returned (.bool (mayB t && groundT t)) ∧ Ext w w' := by
  cases hr : mayB t with
  | true =>
    cases hg : groundT t with
    | true =>
      have KG := Lib.hid (fun u (hu : Ext w u) => Ground_yes t A c u (h.ext hu) hr)
      rw [hg] at KG
      clear hr hg
      go_enter Try.func105, Try.ntmps105
      go_wp2_with fail
      refine (KG.out _ ((Ext.refl w).alloc _)).mono ?_
      rintro e w1 ⟨rfl, hx1⟩
      go_wp2_with fail
      go_ret
      exact ⟨rfl, ((Ext.refl w).alloc _).trans hx1⟩
    | false =>
      have KG := Lib.hid (fun u (hu : Ext w u) => Ground_yes t A c u (h.ext hu) hr)
      rw [hg] at KG
      clear hr hg
      go_enter Try.func105, Try.ntmps105
      go_wp2_with fail
      refine (KG.out _ ((Ext.refl w).alloc _)).mono ?_
      rintro e w1 ⟨rfl, hx1⟩
      go_wp2_with fail
      go_ret
      exact ⟨rfl, ((Ext.refl w).alloc _).trans hx1⟩
  | false =>
    have KG := Lib.hid (fun u (hu : Ext w u) => Ground_no t A c u (h.ext hu) hr)
    clear hr
    go_enter Try.func105, Try.ntmps105
    go_wp2_with fail
    refine (KG.out _ ((Ext.refl w).alloc _)).mono ?_
    rintro e w1 ⟨rfl, hx1⟩
    go_wp2_with fail
    go_ret
    exact ⟨rfl, ((Ext.refl w).alloc _).trans hx1⟩
end Go.Proofs.Ytjmfjeeddnmoaaa

/- unify.groundBinds. -/
namespace Go.Proofs.Ytjmfjeeddnmoaaa
open Go.RowKit

set_option maxRecDepth 100000 in
set_option maxHeartbeats 2000000 in
theorem groundBinds_any (bs : List Bd) (A : Option Addr) (c : Nat) (w : World) (ll : bs.length ≤ 1000000) (h : BdsAt w bs A) :
    Calls Try.prog 104 #[.slice A bs.length c] w fun e w' => e = .returned (.bool (bindsB bs && grL bs)) ∧ Ext w w' := by
  cases hb : bindsB bs with
  | false =>
    have KB := Lib.hid (bcheck_no hb A c w ll h)
    clear hb
    go_enter Try.func104, Try.ntmps104
    go_wp2_with fail
    refine KB.out.mono ?_
    rintro e1 w1 ⟨rfl, hx1⟩
    go_wp2_with fail
    go_ret
    exact ⟨rfl, hx1⟩
  | true =>
    have KB := Lib.hid (bcheck_yes hb A c w ll h)
    have HM := Lib.hid (okL_may _ _ (binds_ok hb).2.1)
    clear hb
    rw [Bool.true_and]
    go_enter Try.func104, Try.ntmps104
    go_wp2_with fail
    refine KB.out.mono ?_
    rintro e1 w1 ⟨rfl, hx1⟩
    clear KB
    go_wp2_with fail
    go_loopw [10] (fun i wr => ∃ (k : Nat), k ≤ bs.length ∧ i = .int .i64 k ∧ Hid (grL bs = grL (bs.drop k)) ∧ Ext w wr) (fun i _ => bs.length - (intOf i).toNat)
    case atStart => exact ⟨0, Nat.zero_le _, rfl, Lib.hid (by rw [List.drop_zero]), hx1⟩
    case round =>
      obtain ⟨k, hk, rfl, HG, hx⟩ := hrel
      by_cases hlt : k < bs.length
      · obtain ⟨b, o, B, e, rfl, c0, c1, c2, c3, c4, hT, _⟩ := (h.ext hx) k hlt
        obtain ⟨u, hu⟩ : ∃ u, u = wr.alloc (.cells #[.string bs[k].name, .int .i64 bs[k].tm.kind, .string bs[k].tm.name, .int .i64 bs[k].tm.n, .slice B bs[k].tm.args.length e] 65) := ⟨_, rfl⟩
        have hxu : Ext wr u := by rw [hu]; exact (Ext.refl _).alloc _
        have hgl : Hid (grL (bs.drop k) = (groundT bs[k].tm && grL (bs.drop (k + 1)))) := Lib.hid (by
          rw [List.drop_eq_getElem_cons hlt]; unfold grL; rw [List.all_cons])
        have hm := (HM.out k hlt).1
        have KG := Lib.hid (uground_any bs[k].tm B e u (hT.ext hxu))
        rw [hm, Bool.true_and] at KG
        clear hm
        have i0 : (0 : Int) ≤ (k : Int) := Int.natCast_nonneg _
        have i1 : (k : Int) < (bs.length : Int) := by omega
        cases hg : groundT bs[k].tm with
        | true =>
          rw [hg] at KG
          have HG2 : Hid (grL bs = grL (bs.drop (k + 1))) := Lib.hid (by rw [HG.out, hgl.out, hg, Bool.true_and])
          clear hg hgl HG
          go_wp2_with fail
          rw [← hu]
          refine KG.out.mono ?_
          rintro e2 w2 ⟨rfl, hx2⟩
          clear KG hu
          go_wp2_with fail
          go_roundw
          case rel => exact ⟨k + 1, by omega, by go_num, HG2, (hx.trans hxu).trans hx2⟩
          case measure => simp [intOf]; omega
        | false =>
          rw [hg] at KG
          have HG2 : Hid (grL bs = false) := Lib.hid (by rw [HG.out, hgl.out, hg, Bool.false_and])
          clear hg hgl HG
          go_wp2_with fail
          rw [← hu]
          refine KG.out.mono ?_
          rintro e2 w2 ⟨rfl, hx2⟩
          clear KG hu
          go_wp2_with fail
          go_ret
          exact ⟨by rw [HG2.out]; rfl, (hx.trans hxu).trans hx2⟩
      · obtain rfl : k = bs.length := by omega
        have HG2 : Hid (grL bs = true) := Lib.hid (by rw [HG.out, List.drop_eq_nil_of_le (Nat.le_refl _)]; rfl)
        clear HG
        go_wp2_with fail
        go_ret
        exact ⟨by rw [HG2.out]; rfl, hx⟩
end Go.Proofs.Ytjmfjeeddnmoaaa

/- unify's way: what is found, and where. -/
namespace Go.Proofs.Ytjmfjeeddnmoaaa
open Go.RowKit Go.Maps

/-- block g is the way: its binds' slice v, its map b; their terms lie in w0 -/
structure WayAt (w0 w : World) (g b : Nat) (v : Value) (zs : List BLain) : Prop where
  ext : Ext w0 w
  lo : w0.heap.size ≤ g ∧ w0.heap.size ≤ b
  c0 : w.cell? ⟨g, 0, none⟩ = some v
  c1 : w.cell? ⟨g, 1, none⟩ = some (.map (some b))
  fr : w.frozen? ⟨g, 0, none⟩ = false
  own : w.ownsRow w0.heap.size 65 5 v zs.length (browCells zs)
  ne : v.ownBlock ≠ some g
  nb : v.ownBlock ≠ some b
  map : MkAt w b (zs.map (·.1))
  tm : ∀ x ∈ zs, TmAt w0 x.1.tm x.2.1 x.2.2

theorem own_chg {w w' : World} {r : Option Nat} (h : w.grownBy w' r) : Chg (fun x => r = some x) w w' :=
  ⟨h.os, h.tape, h.output, h.size, fun i hi hne => h.block i hi (fun e => hne (by first | exact e | exact e.symm))⟩
theorem own_lt {w : World} {base : Nat} {e : TypeId} {size : Nat} {v : Value} {n : Nat} {xs : List Value} (h : w.ownsRow base e size v n xs) : ∀ q, v.ownBlock = some q → base ≤ q ∧ q < w.heap.size := by
  intro q hq
  rcases h.2 with ⟨e1, _⟩ | ⟨q', cap, cur, e1, hb, hheap, _⟩
  · rw [e1] at hq; cases hq
  · rw [e1] at hq
    obtain rfl : q' = q := by injection hq
    refine ⟨hb, ?_⟩
    by_cases hlt : q' < w.heap.size
    · exact hlt
    · rw [Array.getElem?_eq_none (by omega)] at hheap; cases hheap
/-- what a step leaves of a way, and of all else that was there -/
def WayStep (g b : Nat) (w : World) (v : Value) (w' : World) (v' : Value) : Prop :=
  Chg (fun x => x = g ∨ x = b ∨ v.ownBlock = some x) w w' ∧ (v'.ownBlock = v.ownBlock ∨ ∃ q, v'.ownBlock = some q ∧ w.heap.size ≤ q)
theorem WayStep.refl (g b : Nat) (w : World) (v : Value) : WayStep g b w v w v := ⟨Chg.refl _ _, .inl rfl⟩
theorem WayStep.of_ext {g b : Nat} {w w' : World} (v : Value) (h : Ext w w') : WayStep g b w v w' v := ⟨Chg.of_ext h, .inl rfl⟩
theorem WayStep.trans {g b : Nat} {w w1 w2 : World} {v v1 v2 : Value} (h : WayStep g b w v w1 v1) (k : WayStep g b w1 v1 w2 v2) : WayStep g b w v w2 v2 := by
  have hs := h.1.size
  refine ⟨⟨k.1.os.trans h.1.os, k.1.tape.trans h.1.tape, k.1.output.trans h.1.output, Nat.le_trans h.1.size k.1.size, fun i hi hf => ?_⟩, ?_⟩
  · refine (k.1.block i (by omega) (fun x => hf ?_)).trans (h.1.block i hi hf)
    rcases x with x | x | x
    · exact .inl x
    · exact .inr (.inl x)
    · rcases h.2 with e | ⟨q, e, hq⟩
      · exact .inr (.inr (e ▸ x))
      · rw [e] at x; injection x with x; omega
  · rcases k.2 with e | ⟨q, e, hq⟩
    · rcases h.2 with e' | ⟨q, e', hq⟩
      · exact .inl (e.trans e')
      · exact .inr ⟨q, e.trans e', hq⟩
    · exact .inr ⟨q, e, by omega⟩
theorem WayStep.cell {g b : Nat} {w w' : World} {v v' : Value} (h : WayStep g b w v w' v') {p : Addr} {u : Value} (hc : w.cell? p = some u) (hg : p.block ≠ g) (hb : p.block ≠ b) (hv : v.ownBlock ≠ some p.block) : w'.cell? p = some u :=
  h.1.cell hc (fun x => by rcases x with x | x | x; exact hg x; exact hb x; exact hv x)
theorem WayAt.ext' {w0 w w' : World} {g b : Nat} {v : Value} {zs : List BLain} (h : WayAt w0 w g b v zs) (k : Ext w w') : WayAt w0 w' g b v zs := by
  have hg := World.block_lt_of_cell? w _ h.c0
  exact ⟨h.ext.trans k, h.lo, k.cell h.c0, k.cell h.c1, (Below.frozen k (p := ⟨g, 0, none⟩) hg).trans h.fr, ownsRow_ext h.own k, h.ne, h.nb, h.map.ext k, h.tm⟩
theorem own_form {w : World} {base : Nat} {e : TypeId} {size : Nat} {v : Value} {n : Nat} {xs : List Value} (h : w.ownsRow base e size v n xs) (hn : 0 < n) : ∃ q cap, v = .slice (some ⟨q, 0, none⟩) n cap ∧ n ≤ cap := by
  rcases h.2 with ⟨_, e1⟩ | ⟨q, cap, cur, e1, _, _, h3, _⟩
  · omega
  · exact ⟨q, cap, e1, h3⟩
theorem chg_set1 {F : Nat → Prop} (w : World) (p : Addr) (v : Value) (hF : F p.block) : Chg F w (w.setCell p v) :=
  ⟨by simp [World.setCell], by simp [World.setCell], by simp [World.setCell], by simp [World.setCell], fun k _ hk => Below.heap_setCell _ _ _ _ (fun e => hk (e ▸ hF))⟩
theorem put_fin {w0 w w2 w3 : World} {g b : Nat} {v v' : Value} {zs : List BLain} {x : BLain} (h : WayAt w0 w g b v zs) (k12 : Chg (· = b) w w2) (hm : MkAt w2 b (zs.map (·.1) ++ [x.1])) (k3 : Chg (fun y => v.ownBlock = some y) w2 w3)
    (ho : w3.ownsRow w0.heap.size 65 5 v' (zs.length + 1) (browCells zs ++ x.cells)) (hat : v'.ownBlock = v.ownBlock ∨ ∃ q, v'.ownBlock = some q ∧ w2.heap.size ≤ q) (hx : TmAt w0 x.1.tm x.2.1 x.2.2) :
    WayAt w0 (w3.setCell ⟨g, 0, none⟩ v') g b v' (zs ++ [x]) ∧ WayStep g b w v (w3.setCell ⟨g, 0, none⟩ v') v' := by
  have hgw : g < w.heap.size := World.block_lt_of_cell? w _ h.c0
  have hbw : b < w.heap.size := h.map.lt
  have hgb : g ≠ b := h.map.noCell h.c0
  have s12 := k12.size
  have s23 := k3.size
  have hne : v'.ownBlock ≠ some g := by
    rcases hat with e | ⟨q, e, hq⟩
    · rw [e]; exact h.ne
    · rw [e]; intro e2; injection e2; omega
  have hnb : v'.ownBlock ≠ some b := by
    rcases hat with e | ⟨q, e, hq⟩
    · rw [e]; exact h.nb
    · rw [e]; intro e2; injection e2; omega
  have st : WayStep g b w v (w3.setCell ⟨g, 0, none⟩ v') v' :=
    ⟨((k12.weak (fun _ e => .inr (.inl e))).trans (k3.weak (fun _ e => .inr (.inr e)))).trans (chg_set1 w3 ⟨g, 0, none⟩ v' (.inl rfl)), hat.imp id (fun ⟨q, e, hq⟩ => ⟨q, e, by omega⟩)⟩
  have d1 := k3.cell (k12.cell h.c1 hgb) h.ne
  have d0 := k3.cell (k12.cell h.c0 hgb) h.ne
  refine ⟨⟨Chg.ext_of h.ext st.1 (fun y hy => ?_), h.lo, ?_, ?_, ?_, ?_, hne, hnb, ?_, ?_⟩, st⟩
  · rcases hy with rfl | rfl | hy
    · exact h.lo.1
    · exact h.lo.2
    · exact (h.own.lt y hy).1
  · go_simp
  · rw [World.cell?_setCell_other _ _ _ _ (by intro e; injection e with _ e; cases e)]; exact d1
  · have f1 := World.frozen?_of_block (w := w) (w' := w2) (a := ⟨g, 0, none⟩) (k12.block g hgw hgb)
    have f2 := World.frozen?_of_block (w := w2) (w' := w3) (a := ⟨g, 0, none⟩) (k3.block g (by omega) h.ne)
    have := (f2.trans f1).trans h.fr
    simpa using this
  · have e1 : browCells (zs ++ [x]) = browCells zs ++ x.cells := by rw [browCells_app, browCells_one]
    rw [e1, List.length_append, List.length_singleton]
    exact ownsRow_same ho (fun q hq => Below.heap_setCell _ _ _ _ (fun e => hne (by rw [hq]; exact congrArg some e)))
  · rw [List.map_append]
    refine hm.keep ((Below.heap_setCell _ _ _ _ (fun e => hgb e.symm)).trans (k3.block b (by omega) h.nb))
  · intro y hy
    rcases List.mem_append.1 hy with hy | hy
    · exact h.tm y hy
    · obtain rfl := List.mem_singleton.1 hy; exact hx

set_option maxRecDepth 100000 in
set_option maxHeartbeats 2000000 in
theorem put_any (s : ByteArray) (t : Tm) (A : Option Addr) (c : Nat) (w0 w : World) (g b : Nat) (v : Value) (zs : List BLain) (h : WayAt w0 w g b v zs) (hl : zs.length < 16) (hs : Good s) (hT : TmAt w0 t A c) :
    Calls Try.prog 134 #[.pointer (some ⟨g, 0, none⟩), .string s, t.val A c] w fun e w' => e = .returned (.tuple #[]) ∧ ∃ v', WayAt w0 w' g b v' (zs ++ [(⟨s, t⟩, A, c)]) ∧ WayStep g b w v w' v' := by
  obtain ⟨SA, sc, rfl, _⟩ := src_own h.own
  have c0 := h.c0
  have c1 := h.c1
  go_enter Try.func134, Try.ntmps134
  go_upto_region 1 with (fail)
  obtain ⟨wb, hwb⟩ : ∃ wb, wb = w.alloc (.cells #[.int .i64 t.kind, .string t.name, .int .i64 t.n, .slice A t.args.length c] 28) := ⟨_, rfl⟩
  rw [← hwb]
  have hxb : Ext w wb := by rw [hwb]; exact (Ext.refl _).alloc _
  have HW := Lib.hid hwb
  clear hwb
  have d0 := hxb.cell c0
  have d1 := hxb.cell c1
  clear c0 c1
  have KM := Lib.hid (fun (u : World) (hu : Ext wb u) => (markOf_any s u hs.2).mono (fun e w' ⟨he, hx⟩ => (⟨he, hu.trans hx⟩ : e = Ending.returned (markV s) ∧ Ext wb w')))
  have hgb : g ≠ b := h.map.noCell h.c0
  have hI0 : Chg (· = b) wb wb := Chg.refl _ wb
  have rulesI := fun (u : World) (z : Chg (· = b) wb u) => And.intro (z.cell d0 hgb) (z.cell d1 hgb)
  have hml : (zs.map (·.1)).length = zs.length := List.length_map _
  have wfk : (Lit.int .i64 (zs.length : Int)).wf = true := by
    have e1 : IntKind.i64.min = -9223372036854775808 := by decide
    have e2 : IntKind.i64.max = 9223372036854775807 := by decide
    simp only [Lit.wf, e1, e2, Bool.and_eq_true, decide_eq_true_eq]
    omega
  have HML := Lib.hid hml
  have HWF := Lib.hid wfk
  clear hml wfk
  go_region_held3 (fun u => Chg (· = b) wb u) (first | with_reducible assumption | with_reducible exact Chg.of_ext (Ext.drew (Ext.refl _)) | with_reducible exact Chg.of_ext hx1 | with_reducible exact (Chg.of_ext hx1).trans (Chg.of_grown hg2))
    (first
      | (go_at_call 150; refine (KM.out _ (by first | assumption | exact Ext.drew (Ext.refl _))).mono ?_; rintro e1 w1 ⟨rfl, hx1⟩; obtain ⟨D, hown, hD⟩ := (h.map.ext hxb).ext hx1; obtain ⟨w2, hrun, hown2, hg2⟩ := hown.update keyedMark Try.underlying143 (by rw [HML.out]; unfold maxLen; omega) (key_mark s) (plainElem_int Try.underlying3 HWF.out)))
  have k12 : Chg (· = b) wb w2 := (Chg.of_ext hx1).trans (Chg.of_grown hg2)
  have hbw : b < w.heap.size := h.map.lt
  have hbs : wb.heap.size = w.heap.size + 1 := by rw [HW.out]; simp
  have x0 : wb.cell? ⟨w.heap.size, 0, none⟩ = some (.int .i64 t.kind) := by rw [HW.out]; go_simp
  have x1 : wb.cell? ⟨w.heap.size, 1, none⟩ = some (.string t.name) := by rw [HW.out]; go_simp
  have x2 : wb.cell? ⟨w.heap.size, 2, none⟩ = some (.int .i64 t.n) := by rw [HW.out]; go_simp
  have x3 : wb.cell? ⟨w.heap.size, 3, none⟩ = some (.slice A t.args.length c) := by rw [HW.out]; go_simp
  have hnb : ¬ w.heap.size = b := by omega
  have y0 := k12.cell x0 hnb
  have y1 := k12.cell x1 hnb
  have y2 := k12.cell x2 hnb
  have y3 := k12.cell x3 hnb
  have e0 := k12.cell d0 hgb
  have ow := ownsRow_same h.own (w' := w2) (fun q hq => by
    have hlt : q < w.heap.size := (own_lt h.own q hq).2
    have hqb : q ≠ b := fun e => h.nb (by rw [hq, e])
    rw [k12.block q (by omega) hqb, hxb.block q hlt])
  have HO := Lib.hid ow
  have HMP : Hid (MkAt w2 b (zs.map (·.1) ++ [⟨s, t⟩])) := Lib.hid (MkAt.put hs hown.isMap hD (by rw [HML.out] at hown2 ⊢; exact hown2))
  clear hrun hown2 hg2 hown hD d0 d1 x0 x1 x2 x3 ow
  go_upto_region 2 with (fail)
  obtain ⟨i0, hi0, hz0, hz1, hz2⟩ := info_parts infoBd
  have d0 : w2.drew.cell? ⟨g, 0, none⟩ = some (.slice SA zs.length sc) := e0
  have z0 : w2.drew.cell? ⟨w.heap.size, 0, none⟩ = some (.int .i64 t.kind) := y0
  have z1 : w2.drew.cell? ⟨w.heap.size, 1, none⟩ = some (.string t.name) := y1
  have z2 : w2.drew.cell? ⟨w.heap.size, 2, none⟩ = some (.int .i64 t.n) := y2
  have z3 : w2.drew.cell? ⟨w.heap.size, 3, none⟩ = some (.slice A t.args.length c) := y3
  have hw2s : w0.heap.size ≤ w2.heap.size := by have := h.ext.size; have := hxb.size; have := k12.size; omega
  have hgw : g < w.heap.size := World.block_lt_of_cell? w _ h.c0
  have fr2 : w2.frozen? ⟨g, 0, none⟩ = false := by
    have e := k12.block g (by omega) hgb
    have e' := hxb.block g hgw
    rw [World.frozen?_of_block (w := wb) e, World.frozen?_of_block (w := w) e']
    exact h.fr
  have H63 : Hid (zs.length + 1 ≤ maxLen) := Lib.hid (by unfold maxLen; omega)
  have HBY : Hid ((zs.length + 1) * 72 ≤ 140737488355328) := Lib.hid (by omega)
  have HBA : Hid (w0.heap.size ≤ (w2.drew.alloc (.cells #[.string s, .int .i64 t.kind, .string t.name, .int .i64 t.n, .slice A t.args.length c] 65)).heap.size) := Lib.hid (by simp; omega)
  have HN : Hid ((Value.slice SA zs.length sc).ownBlock ≠ some g) := Lib.hid h.ne
  have K12 : Hid (Chg (· = b) w w2) := Lib.hid ((Chg.of_ext hxb).trans k12)
  have HH := Lib.hid h
  have HTT := Lib.hid hT
  have hgs2 : g < w2.heap.size := by have := k12.size; have := hxb.size; omega
  go_region_law
    ((refine step_app _ (by rfl) (.tmp 21) (.tmp 25) 58 (by rfl) w0.heap.size 65 i0 _ 5 72 Try.underlying58 hi0 hz0 hz1 hz2 (by rfl) (by decide) (.slice SA zs.length sc) zs.length (browCells zs) (by rfl) (HO.out.drew.alloc _) (some ⟨w2.heap.size, 0, none⟩) 1 1 (BLain.cells (⟨s, t⟩, A, c)) (by rfl) (Src.box w2.drew #[.string s, .int .i64 t.kind, .string t.name, .int .i64 t.n, .slice A t.args.length c] 65 5 rfl) (BLain.one _) H63.out HBY.out HBA.out ?_; intro v' w3 ho3 hg3 hat3; obtain ⟨q, cap', rfl, hcap⟩ := own_form ho3 (Nat.succ_pos _); have k3 := (Chg.of_ext (F := fun x => (Value.slice SA zs.length sc).ownBlock = some x) ((Ext.refl w2).drew.alloc (.cells #[.string s, .int .i64 t.kind, .string t.name, .int .i64 t.n, .slice A t.args.length c] 65))).trans (own_chg hg3); have q0 := k3.cell e0 HN.out; have f3 : w3.frozen? ⟨g, 0, none⟩ = false := (World.frozen?_of_block (w := w2) (k3.block g hgs2 HN.out)).trans fr2))
  all_goals
    have HF := Lib.hid (put_fin HH.out K12.out HMP.out k3 ho3 (by rcases hat3 with e | e; exact .inl e; exact .inr ⟨_, e, by simp⟩) HTT.out)
    clear ho3 hg3 hat3 k3 q0 f3
    go_wp2_with fail
    go_end0
    exact ⟨rfl, _, HF.out⟩
end Go.Proofs.Ytjmfjeeddnmoaaa

/- unify.wayOf of no binds; stand. -/
namespace Go.Proofs.Ytjmfjeeddnmoaaa
open Go.RowKit Go.Maps

/-- a way with nothing on it -/
def Wayed (w : World) (e : Ending) (w' : World) : Prop := ∃ g b v, e = .returned (.pointer (some ⟨g, 0, none⟩)) ∧ WayAt w w' g b v []
set_option maxRecDepth 100000 in
set_option maxHeartbeats 2000000 in
theorem wayOf_nil (w : World) : Calls Try.prog 106 #[.slice none 0 0] w (Wayed w) := by
  obtain ⟨i0', hi0, hz0, hz1, hz2⟩ := info_parts infoBd
  have hmk : ∀ u : World, (Instr.makeSlice 58 (.int .i64 0) (.int .i64 16)).run Try.prog u =
      .ok (.slice (some ⟨u.heap.size, 0, none⟩) 0 16) (u.alloc (.cells (madeCells #[.string ⟨#[]⟩, .int .i64 0, .string ⟨#[]⟩, .int .i64 0, .slice none 0 0] (16 * 5)) 65)) := fun u => by
    have h := run_make (P := Try.prog) u 58 65 i0' _ Try.underlying58 hi0 hz0 .i64 .i64 0 16 (by omega) (by omega) (by rw [hz2]; omega) (by omega)
    simp only [hz1] at h
    exact h
  have hmm := run_makeMapN Try.underlying143 16
  go_enter Try.func106, Try.ntmps106
  go_wp2_with fail
  clear hmk hmm
  go_loop [12] (fun i => i = .int .i64 0) (fun _ => 0)
  case atStart => rfl
  case round =>
    subst hrel
    go_wp2_with fail
    go_ret
    refine ⟨w.heap.size + 1 + 1, w.heap.size + 1, .slice (some ⟨w.heap.size, 0, none⟩) 0 16, rfl, ?_⟩
    obtain ⟨w1, hw1⟩ : ∃ w1, w1 = w.alloc (.cells (madeCells #[.string ⟨#[]⟩, .int .i64 0, .string ⟨#[]⟩, .int .i64 0, .slice none 0 0] (16 * 5)) 65) := ⟨_, rfl⟩
    have ho1 : w1.ownsRow w.heap.size 65 5 (.slice (some ⟨w.heap.size, 0, none⟩) 0 16) 0 [] := by rw [hw1]; exact World.ownsRow_made w _ 16 (Nat.le_refl _) (by unfold maxLen; omega) (size_madeCells _ _)
    have hx1 : Ext w w1 := by rw [hw1]; exact (Ext.refl _).alloc _
    have hs1 : w1.heap.size = w.heap.size + 1 := by rw [hw1]; simp
    rw [← hw1]
    clear hw1
    have hx2 := (Ext.refl w1).alloc (.map #[] 0)
    have hm2 := MkAt.made w1
    rw [hs1] at hm2
    refine ⟨(hx1.trans hx2).alloc _, ⟨by omega, by omega⟩, by go_simp, by go_simp, by go_simp, ownsRow_ext ho1 (hx2.alloc _), ?_, ?_, hm2.ext ((Ext.refl _).alloc _), fun x hx => absurd hx (by simp)⟩
    · intro e; injection e with e; simp at e; omega
    · intro e; injection e with e; simp at e

/-- a lookup of a name in the way's map -/
theorem look_mark {w : World} {b : Nat} {bs : List Bd} (h : MkAt w b bs) (s : ByteArray) (hs : Good s) :
    (Instr.lookup 143 (.map (some b)) (markV s) true).run Try.prog w = .ok (.tuple #[.int .i64 (plI bs s), .bool (plB bs s)]) w := by
  obtain ⟨D, hown, hD⟩ := h
  have hwz : (Lit.int .i64 0).wf = true := by decide
  obtain ⟨v, ps, hrun, hv⟩ := hown.look_ok keyedMark Try.underlying143 (zeroInt w) (plainElem_int Try.underlying3 hwz) (key_mark s)
  obtain ⟨q, rfl, hq, _⟩ := plainElem_int_inv Try.underlying3 hv
  have hd := hD s hs
  have eq : q = plI bs s ∧ Maps.has D (markL s) = plB bs s := by
    simp only [Prod.mk.injEq] at hq
    have h1 := hq.1
    rw [hd] at h1
    unfold plI plB
    cases hp : plc bs bs.length s with
    | none =>
      rw [hp] at h1 hd
      refine ⟨?_, has_false_of_atKey hd⟩
      simp only [DataW.lit.injEq, Lit.int.injEq, true_and] at h1
      simp [h1]
    | some i =>
      rw [hp] at h1 hd
      refine ⟨?_, has_true_of_atKey hd⟩
      simp only [DataW.lit.injEq, Lit.int.injEq, true_and] at h1
      simp [h1]
  obtain ⟨e2, e3⟩ := eq
  rw [e2, e3] at hrun
  exact hrun

theorem std_some {W : List Bd} {s : ByteArray} {t : Tm} {i : Nat} (hi : i < W.length) (hp : plc W W.length s = some i) : stdP W s t = if cmpT W[i].tm t = 0 then (0, W) else (3, W) := by
  unfold stdP bdOf
  rw [hp, Option.bind_some, List.getElem?_eq_getElem hi]; rfl
theorem std_at {zs : List BLain} {s : ByteArray} {t : Tm} {i : Nat} (hi : i < zs.length) (hp : plc (zs.map (·.1)) (zs.map (·.1)).length s = some i) : stdP (zs.map (·.1)) s t = if cmpT zs[i].1.tm t = 0 then (0, zs.map (·.1)) else (3, zs.map (·.1)) := by
  rw [std_some (by simpa using hi) hp, List.getElem_map]
theorem std_none {W : List Bd} {s : ByteArray} {t : Tm} (hp : plc W W.length s = none) : stdP W s t = if W.length = 16 then (2, W) else (0, W ++ [⟨s, t⟩]) := by
  unfold stdP bdOf
  rw [hp]; rfl

/-- what stand, take tell, and leave -/
def WayOut (r : Int × List Bd) (w0 : World) (g b : Nat) (w : World) (v : Value) (e : Ending) (w' : World) : Prop :=
  e = .returned (.int .i64 r.1) ∧ ∃ v' zs', zs'.map (·.1) = r.2 ∧ WayAt w0 w' g b v' zs' ∧ WayStep g b w v w' v'

set_option maxRecDepth 100000 in
set_option maxHeartbeats 4000000 in
theorem stand_any (s : ByteArray) (t : Tm) (A : Option Addr) (c : Nat) (w0 w : World) (g b : Nat) (v : Value) (zs : List BLain) (h : WayAt w0 w g b v zs) (hW : TakB (zs.map (·.1))) (hs : Good s) (hm : mayB t = true) (hT : TmAt w0 t A c) :
    Calls Try.prog 135 #[.pointer (some ⟨g, 0, none⟩), .string s, t.val A c] w (WayOut (stdP (zs.map (·.1)) s t) w0 g b w v) := by
  have hml : (zs.map (·.1)).length = zs.length := List.length_map _
  have hl16 := hW.len
  rw [hml] at hl16
  obtain ⟨wb, hwb⟩ : ∃ wb, wb = w.alloc (.cells #[.int .i64 t.kind, .string t.name, .int .i64 t.n, .slice A t.args.length c] 28) := ⟨_, rfl⟩
  have hxb : Ext w wb := by rw [hwb]; exact (Ext.refl _).alloc _
  have x0 : wb.cell? ⟨w.heap.size, 0, none⟩ = some (.int .i64 t.kind) := by rw [hwb]; go_simp
  have x1 : wb.cell? ⟨w.heap.size, 1, none⟩ = some (.string t.name) := by rw [hwb]; go_simp
  have x2 : wb.cell? ⟨w.heap.size, 2, none⟩ = some (.int .i64 t.n) := by rw [hwb]; go_simp
  have x3 : wb.cell? ⟨w.heap.size, 3, none⟩ = some (.slice A t.args.length c) := by rw [hwb]; go_simp
  have hb := h.ext' hxb
  have HB := Lib.hid hb
  have HW := Lib.hid hwb
  have HS := Lib.hid hs
  clear hwb
  have N1 : ∀ p : ExtOf wb, p.to.cell? ⟨g, 1, none⟩ = some (.map (some b)) := ext_cell hb.c1
  have KM : Hid (∀ p : ExtOf wb, Calls Try.prog 150 #[.string s] p.to fun e w' => e = .returned (markV s) ∧ Ext p.to w') := Lib.hid fun p => markOf_any s p.to hs.2
  have LK : ∀ p : ExtOf wb, (Instr.lookup 143 (.map (some b)) (markV s) true).run Try.prog p.to = .ok (.tuple #[.int .i64 (plI (zs.map (·.1)) s), .bool (plB (zs.map (·.1)) s)]) p.to := fun p => look_mark (hb.map.ext p.is) s HS.out
  cases hp : plc (zs.map (·.1)) (zs.map (·.1)).length s with
  | some i =>
    have hi : i < zs.length := by have := (plc_some hp).1; omega
    have eI : plI (zs.map (·.1)) s = (i : Int) := by unfold plI; rw [hp]; rfl
    have eB : plB (zs.map (·.1)) s = true := by unfold plB; rw [hp]; rfl
    simp only [eI, eB] at LK
    have HR := Lib.hid (std_at (t := t) hi hp)
    have HX : Hid (mayB zs[i].1.tm = true) := Lib.hid (hW.may _ (List.mem_map.2 ⟨_, List.getElem_mem hi, rfl⟩))
    have HTX := Lib.hid (h.tm _ (List.getElem_mem hi))
    obtain ⟨q, cap, rfl, hcap⟩ := own_form h.own (by omega)
    have cell : ∀ j, j < 5 → wb.cell? ⟨q, 0 + i * 5 + j, none⟩ = zs[i].cells[j]? := fun j hj => by
      rw [show 0 + i * 5 + j = i * 5 + j by omega, hb.own.cellAt (i * 5 + j) (by omega), browCells_at zs i j hi hj]
    have y1 : wb.cell? ⟨q, i * 5 + 1, none⟩ = some (.int .i64 zs[i].1.tm.kind) := by have := cell 1 (by omega); simpa [BLain.cells] using this
    have y2 : wb.cell? ⟨q, i * 5 + 2, none⟩ = some (.string zs[i].1.tm.name) := by have := cell 2 (by omega); simpa [BLain.cells] using this
    have y3 : wb.cell? ⟨q, i * 5 + 3, none⟩ = some (.int .i64 zs[i].1.tm.n) := by have := cell 3 (by omega); simpa [BLain.cells] using this
    have y4 : wb.cell? ⟨q, i * 5 + 4, none⟩ = some (.slice zs[i].2.1 zs[i].1.tm.args.length zs[i].2.2) := by have := cell 4 (by omega); simpa [BLain.cells] using this
    have i0 : (0 : Int) ≤ (i : Int) := Int.natCast_nonneg _
    have i1 : (i : Int) < (zs.length : Int) := by omega
    have HM := Lib.hid hm
    have HTT := Lib.hid (hT.ext hb.ext)
    have HC0 := Lib.hid hb.c0
    have HTXb := Lib.hid (HTX.out.ext hb.ext)
    clear eI eB hp cell hb HTX hml hm hT hW h hs
    go_enter Try.func135, Try.ntmps135
    go_upto_region 1 with (fail)
    rw [← HW.out]
    refine wp_region_ext (by kernel_rfl) (by kernel_rfl) ?_
    repeat (go_big_quiet_step ((go_at_call 150; exact of_ext (KM.out _))))
    refine wpQuiet_nil ?_
    refine ext_all ?_
    intro w2 hx2
    clear N1 KM LK HW
    have N0 := ext_cell (hx2.cell HC0.out)
    have M1 := ext_cell (hx2.cell y1)
    have M2 := ext_cell (hx2.cell y2)
    have M3 := ext_cell (hx2.cell y3)
    have M4 := ext_cell (hx2.cell y4)
    have P0 := ext_cell (hx2.cell x0)
    have P1 := ext_cell (hx2.cell x1)
    have P2 := ext_cell (hx2.cell x2)
    have P3 := ext_cell (hx2.cell x3)
    obtain ⟨Z, hZ⟩ : ∃ Z : Int, Z = cmpT zs[i].1.tm t := ⟨_, rfl⟩
    have KO : Hid (∀ p : ExtOf w2, Calls Try.prog 31 #[zs[i].1.tm.val zs[i].2.1 zs[i].2.2, t.val A c] p.to fun e w' => e = .returned (.tuple #[.int .i64 Z, .int .i64 0]) ∧ Ext p.to w') := Lib.hid fun p => by
      rw [hZ]
      exact Order_yes zs[i].1.tm t zs[i].2.1 A zs[i].2.2 c p.to (HTXb.out.ext (hx2.trans p.is)) (HTT.out.ext (hx2.trans p.is)) HX.out HM.out
    rw [← hZ] at HR
    clear hZ x0 x1 x2 x3 y1 y2 y3 y4 HTT HTXb HC0 HX HM HS
    go_upto_region 3 with (fail)
    refine wp_region_ext (by kernel_rfl) (by kernel_rfl) ?_
    repeat (go_big_quiet_step ((go_at_call 31; exact of_ext (KO.out _))))
    refine wpQuiet_nil ?_
    refine ext_all ?_
    intro w3 hx3
    clear N0 M1 M2 M3 M4 P0 P1 P2 P3 KO
    have hxb3 := hx2.trans hx3
    by_cases hZ : Z = 0
    · have q1 : (Z != 0) = false := by simp [hZ]
      have HR2 : Hid (stdP (zs.map (·.1)) s t = (0, zs.map (·.1))) := Lib.hid (by rw [HR.out, if_pos hZ])
      clear hZ HR
      go_wp2_with fail
      go_ret
      exact ⟨by rw [HR2.out]; rfl, _, zs, by rw [HR2.out], HB.out.ext' hxb3, WayStep.of_ext _ (hxb.trans hxb3)⟩
    · have q1 : (Z != 0) = true := by simp [hZ]
      have HR2 : Hid (stdP (zs.map (·.1)) s t = (3, zs.map (·.1))) := Lib.hid (by rw [HR.out, if_neg hZ])
      clear hZ HR
      go_wp2_with fail
      go_ret
      exact ⟨by rw [HR2.out]; rfl, _, zs, by rw [HR2.out], HB.out.ext' hxb3, WayStep.of_ext _ (hxb.trans hxb3)⟩
  | none =>
    have eI : plI (zs.map (·.1)) s = 0 := by unfold plI; rw [hp]; rfl
    have eB : plB (zs.map (·.1)) s = false := by unfold plB; rw [hp]; rfl
    simp only [eI, eB] at LK
    have HR := Lib.hid (std_none (t := t) hp)
    obtain ⟨SA, sc, rfl, _⟩ := src_own h.own
    have HM := Lib.hid hm
    have HTT := Lib.hid hT
    have HC0 := Lib.hid hb.c0
    have HML := Lib.hid hml
    clear eI eB hp hb hml hm hT hW h hs
    go_enter Try.func135, Try.ntmps135
    go_upto_region 1 with (fail)
    rw [← HW.out]
    refine wp_region_ext (by kernel_rfl) (by kernel_rfl) ?_
    repeat (go_big_quiet_step ((go_at_call 150; exact of_ext (KM.out _))))
    refine wpQuiet_nil ?_
    refine ext_all ?_
    intro w2 hx2
    clear N1 KM LK HW
    have d0 := hx2.cell HC0.out
    have z0 := hx2.cell x0
    have z1 := hx2.cell x1
    have z2 := hx2.cell x2
    have z3 := hx2.cell x3
    clear x0 x1 x2 x3
    by_cases h16 : zs.length = 16
    · have HR2 : Hid (stdP (zs.map (·.1)) s t = (2, zs.map (·.1))) := Lib.hid (by rw [HR.out, if_pos (by rw [HML.out, h16])])
      have q1 : ((zs.length : Int) == 16) = true := by simp [h16]
      clear HR h16
      go_wp2_with fail
      go_ret
      exact ⟨by rw [HR2.out]; rfl, _, zs, by rw [HR2.out], HB.out.ext' hx2, WayStep.of_ext _ (hxb.trans hx2)⟩
    · have HR2 : Hid (stdP (zs.map (·.1)) s t = (0, zs.map (·.1) ++ [⟨s, t⟩])) := Lib.hid (by rw [HR.out, if_neg (by rw [HML.out]; exact h16)])
      have q1 : ((zs.length : Int) == 16) = false := by simp; omega
      have KP := Lib.hid (put_any s t A c w0 w2 g b _ zs (HB.out.ext' hx2) (by omega) HS.out HTT.out)
      clear HR h16
      go_wp2_with fail
      refine KP.out.mono ?_
      rintro e3 w3 ⟨rfl, v3, hW3, hS3⟩
      clear KP d0 z0 z1 z2 z3
      go_wp2_with fail
      go_ret
      exact ⟨by rw [HR2.out]; rfl, v3, _, by rw [HR2.out]; simp, hW3, (WayStep.of_ext _ (hxb.trans hx2)).trans hS3⟩
end Go.Proofs.Ytjmfjeeddnmoaaa

/- unify.way.take. -/
namespace Go.Proofs.Ytjmfjeeddnmoaaa
open Go.RowKit Go.Maps

theorem takL_step {l r : List Tm} {W : List Bd} {k : Nat} (h1 : k < l.length) (h2 : k < r.length) : takL (l.drop k) (r.drop k) W = if (takT l[k] r[k] W).1 = 0 then takL (l.drop (k + 1)) (r.drop (k + 1)) (takT l[k] r[k] W).2 else takT l[k] r[k] W := by
  rw [List.drop_eq_getElem_cons h1, List.drop_eq_getElem_cons h2, takL]
theorem occ_arg {t : Tm} {k : Nat} (hk : t.kind ≠ 1) (h : k < t.args.length) : ∀ s ∈ occ t.args[k], s ∈ occ t := by
  have hL : ∀ (l : List Tm) (j : Nat) (hj : j < l.length), ∀ s ∈ occ l[j], s ∈ occL l := by
    intro l
    induction l with
    | nil => intro j hj; exact absurd hj (by simp)
    | cons x xs ih =>
      intro j hj s hs
      rw [occL]
      cases j with
      | zero => exact List.mem_append_left _ hs
      | succ j => exact List.mem_append_right _ (ih j (by simpa using hj) s hs)
  obtain ⟨k1, s1, n1, l1⟩ := t
  intro s hs
  have ho : occ ⟨k1, s1, n1, l1⟩ = occL l1 := by rw [occ, if_neg (by simpa using hk)]; rfl
  rw [ho]
  exact hL l1 k h s hs

set_option maxRecDepth 100000 in
set_option maxHeartbeats 8000000 in
theorem take_any (hh : Nat) : ∀ (a y : Tm) (A Y : Option Addr) (c d : Nat) (w0 w : World) (g b : Nat) (v : Value) (zs : List BLain), a.high ≤ hh → WayAt w0 w g b v zs → TakB (zs.map (·.1)) → allP a → (∀ s ∈ occ a, Good s) → mayB y = true → groundT y = true → TmAt w0 a A c → TmAt w0 y Y d →
    Calls Try.prog 107 #[.pointer (some ⟨g, 0, none⟩), a.val A c, y.val Y d] w (WayOut (takT a y (zs.map (·.1))) w0 g b w v) := by
  induction hh with
  | zero => intro a y A Y c d w0 w g b v zs h0; have := high_pos a; omega
  | succ hh ih =>
    intro a y A Y c d w0 w g b v zs h0 h hW ha hs hm hgr hA hY
    have IH := Lib.hid ih
    clear ih
    obtain ⟨w2, hw2⟩ : ∃ w2, w2 = (w.alloc (.cells #[.int .i64 a.kind, .string a.name, .int .i64 a.n, .slice A a.args.length c] 28)).alloc (.cells #[.int .i64 y.kind, .string y.name, .int .i64 y.n, .slice Y y.args.length d] 28) := ⟨_, rfl⟩
    have hx2 : Ext w w2 := by rw [hw2]; exact ((Ext.refl w).alloc _).alloc _
    have x0 : w2.cell? ⟨w.heap.size, 0, none⟩ = some (.int .i64 a.kind) := by rw [hw2]; go_simp
    have x1 : w2.cell? ⟨w.heap.size, 1, none⟩ = some (.string a.name) := by rw [hw2]; go_simp
    have x2 : w2.cell? ⟨w.heap.size, 2, none⟩ = some (.int .i64 a.n) := by rw [hw2]; go_simp
    have x3 : w2.cell? ⟨w.heap.size, 3, none⟩ = some (.slice A a.args.length c) := by rw [hw2]; go_simp
    have y0 : w2.cell? ⟨w.heap.size + 1, 0, none⟩ = some (.int .i64 y.kind) := by rw [hw2]; go_simp
    have y1 : w2.cell? ⟨w.heap.size + 1, 1, none⟩ = some (.string y.name) := by rw [hw2]; go_simp
    have y2 : w2.cell? ⟨w.heap.size + 1, 2, none⟩ = some (.int .i64 y.n) := by rw [hw2]; go_simp
    have y3 : w2.cell? ⟨w.heap.size + 1, 3, none⟩ = some (.slice Y y.args.length d) := by rw [hw2]; go_simp
    have HW2 := Lib.hid hw2
    have hgw : g < w.heap.size := World.block_lt_of_cell? w _ h.c0
    have hbw : b < w.heap.size := h.map.lt
    have hvw : ∀ q, v.ownBlock = some q → q < w.heap.size := fun q hq => (h.own.lt q hq).2
    have h2 := Lib.hid (h.ext' hx2)
    have HWT := Lib.hid hW
    have HVW := Lib.hid hvw
    have HM := Lib.hid hm
    have HGR := Lib.hid hgr
    have HSS := Lib.hid hs
    have HAP := Lib.hid ha
    have HTA := Lib.hid hA
    have HTY := Lib.hid hY
    clear hw2 h hW hvw hm hgr hs ha hA hY
    by_cases hk : a.kind = 1
    · have HR : Hid (takT a y (zs.map (·.1)) = stdP (zs.map (·.1)) a.name y) := Lib.hid (by rw [takT_eq, if_pos (by simpa using hk)])
      have hgd : Good a.name := HSS.out _ (by obtain ⟨k1, s1, n1, l1⟩ := a; simp only at hk; rw [occ, if_pos (by simpa using hk)]; simp)
      have KS := Lib.hid (stand_any a.name y Y d w0 w2 g b v zs h2.out HWT.out hgd HM.out HTY.out)
      have q1 : (a.kind == 1) = true := by simpa using hk
      clear hk hgd
      go_enter Try.func107, Try.ntmps107
      go_wp2_with fail
      rw [← HW2.out]
      refine KS.out.mono ?_
      rintro e3 w3 ⟨rfl, v3, zs3, hz3, hW3, hS3⟩
      clear KS
      go_wp2_with fail
      go_ret
      exact ⟨by rw [HR.out]; rfl, v3, zs3, by rw [HR.out]; exact hz3, hW3, (WayStep.of_ext _ hx2).trans hS3⟩
    · have q1 : (a.kind == 1) = false := by simpa using hk
      have KH := Lib.hid (sameHead_any a y A Y c d w2)
      have HK := Lib.hid hk
      cases hhd : headB a y with
      | false =>
        have HR : Hid (takT a y (zs.map (·.1)) = (3, zs.map (·.1))) := Lib.hid (by rw [takT_eq, if_neg (by simpa using hk), hhd]; rfl)
        rw [hhd] at KH
        clear hk hhd
        go_enter Try.func107, Try.ntmps107
        go_wp2_with fail
        rw [← HW2.out]
        refine KH.out.mono ?_
        rintro e3 w3 ⟨rfl, hx3⟩
        go_wp2_with fail
        go_ret
        exact ⟨by rw [HR.out]; rfl, v, zs, by rw [HR.out], h2.out.ext' hx3, WayStep.of_ext _ (hx2.trans hx3)⟩
      | true =>
        have HR : Hid (takT a y (zs.map (·.1)) = takL a.args y.args (zs.map (·.1))) := Lib.hid (by rw [takT_eq, if_neg (by simpa using hk), hhd]; rfl)
        have HLEN := Lib.hid (head_is hhd).2.2.2
        have hla := HTA.out.fits.args
        rw [hhd] at KH
        clear hk hhd
        go_enter Try.func107, Try.ntmps107
        go_wp2_with fail
        rw [← HW2.out]
        refine KH.out.mono ?_
        rintro e3 w3 ⟨rfl, hx3⟩
        have z0 := hx3.cell x0
        have z1 := hx3.cell x1
        have z2 := hx3.cell x2
        have z3 := hx3.cell x3
        have t3 := hx3.cell y3
        have hs3 : w.heap.size + 2 ≤ w3.heap.size := by
          have := World.block_lt_of_cell? w3 _ t3
          simp only at this; omega
        clear KH x0 x1 x2 x3 y0 y1 y2 y3
        go_wp2_with fail
        go_loopw [24] (fun i wr => ∃ (k : Nat) (vr : Value) (zr : List BLain), k ≤ a.args.length ∧ i = .int .i64 k ∧ Hid (WayAt w0 wr g b vr zr) ∧ Hid (WayStep g b w3 v wr vr) ∧ Hid (TakB (zr.map (·.1))) ∧ Hid (takL (a.args.drop k) (y.args.drop k) (zr.map (·.1)) = takT a y (zs.map (·.1)))) (fun i _ => a.args.length - (intOf i).toNat)
        case atStart => exact ⟨0, v, zs, Nat.zero_le _, rfl, Lib.hid (h2.out.ext' hx3), Lib.hid (WayStep.refl _ _ _ _), HWT, Lib.hid HR.out.symm⟩
        case round =>
          obtain ⟨k, vr, zr, hkk, rfl, HWr, HSr, HTr, HF⟩ := hrel
          obtain ⟨wr', rfl⟩ : ∃ wr' : World, wr' = wr := ⟨_, rfl⟩
          have a3 : wr'.cell? ⟨w.heap.size, 3, none⟩ = some (.slice A a.args.length c) := HSr.out.cell z3 (by simp only; omega) (by simp only; omega) (fun e => by have := HVW.out _ e; simp only at this; omega)
          have b3 : wr'.cell? ⟨w.heap.size + 1, 3, none⟩ = some (.slice Y y.args.length d) := HSr.out.cell t3 (by simp only; omega) (by simp only; omega) (fun e => by have := HVW.out _ e; simp only at this; omega)
          by_cases hlt : k < a.args.length
          · have hlt2 : k < y.args.length := by have := HLEN.out; omega
            obtain ⟨ab, ao, AB, ae, rfl, c0, c1, c2, c3, hTx⟩ := HTA.out.args.at_ hlt
            obtain ⟨bb, bo, BB, be, rfl, d0, d1, d2, d3, hTy⟩ := HTY.out.args.at_ hlt2
            have e0 := HWr.out.ext.cell c0
            have e1 := HWr.out.ext.cell c1
            have e2 := HWr.out.ext.cell c2
            have e3 := HWr.out.ext.cell c3
            have f0 := HWr.out.ext.cell d0
            have f1 := HWr.out.ext.cell d1
            have f2 := HWr.out.ext.cell d2
            have f3 := HWr.out.ext.cell d3
            have HF2 := Lib.hid ((takL_step (W := zr.map (·.1)) hlt hlt2).symm.trans HF.out)
            have i0 : (0 : Int) ≤ (k : Int) := Int.natCast_nonneg _
            have i1 : (k : Int) < (a.args.length : Int) := by omega
            have i2 : (k : Int) < (y.args.length : Int) := by omega
            have hax := allPs_mem HAP.out.args (List.getElem_mem hlt)
            have hsx : ∀ s ∈ occ a.args[k], Good s := fun s hs => HSS.out s (occ_arg HK.out hlt s hs)
            have hmy := may_args HM.out (List.getElem_mem hlt2)
            have hgy := ground_args HGR.out (List.getElem_mem hlt2)
            have hhx : a.args[k].high ≤ hh := by have := high_lt hlt; omega
            have KT := Lib.hid (IH.out a.args[k] y.args[k] AB BB ae be w0 wr'.drew g b vr zr hhx (HWr.out.ext' (Ext.refl _).drew) HTr.out hax hsx hmy hgy hTx hTy)
            have KO := Lib.hid (tak_ok a.args[k] y.args[k] (zr.map (·.1)) HTr.out hax hsx hmy hgy)
            clear c0 c1 c2 c3 d0 d1 d2 d3 hTx hTy HF hax hsx hmy hgy hhx
            obtain ⟨r, hr⟩ : ∃ r, r = takT a.args[k] y.args[k] (zr.map (·.1)) := ⟨_, rfl⟩
            rw [← hr] at KT KO HF2
            clear hr
            obtain ⟨E1, L1⟩ := r
            go_upto_region 8 with (fail)
            go_still_tail 11, (by kernel_rfl)
            change wpList _ _ _ _ _ wr'.drew
            go_wp2_with fail
            refine KT.out.mono ?_
            rintro e4 w4 ⟨rfl, v4, zs4, hz4, hW4, hS4⟩
            have HW4 := Lib.hid hW4
            have HS4 := Lib.hid (HSr.out.trans ((WayStep.of_ext vr (Ext.refl wr').drew).trans hS4))
            have HZ4 : Hid (zs4.map (·.1) = L1) := Lib.hid hz4
            clear KT hW4 hS4 hz4 e0 e1 e2 e3 f0 f1 f2 f3 a3 b3
            by_cases hE : E1 = 0
            · have q2 : (E1 != 0) = false := by simp [hE]
              have HF3 : Hid (takL (a.args.drop (k + 1)) (y.args.drop (k + 1)) (zs4.map (·.1)) = takT a y (zs.map (·.1))) := Lib.hid (by have := HF2.out; rw [if_pos hE] at this; rw [HZ4.out]; exact this)
              have HT4 : Hid (TakB (zs4.map (·.1))) := Lib.hid (by rw [HZ4.out]; exact (KO.out hE).1.binds)
              clear hE HF2 KO
              go_wp2_with fail
              go_roundw
              case rel => exact ⟨k + 1, v4, zs4, by omega, by go_num, HW4, HS4, HT4, HF3⟩
              case measure => simp [intOf]; omega
            · have q2 : (E1 != 0) = true := by simp [hE]
              have HF3 : Hid (takT a y (zs.map (·.1)) = (E1, L1)) := Lib.hid (by have := HF2.out; rw [if_neg hE] at this; exact this.symm)
              clear hE HF2 KO
              go_wp2_with fail
              go_ret
              exact ⟨by rw [HF3.out]; rfl, v4, zs4, by rw [HF3.out]; exact HZ4.out, HW4.out, ((WayStep.of_ext _ hx2).trans (WayStep.of_ext _ hx3)).trans HS4.out⟩
          · have HF3 : Hid (takT a y (zs.map (·.1)) = (0, zr.map (·.1))) := Lib.hid (by
              have := HF.out
              rw [List.drop_eq_nil_of_le (by omega), takL] at this
              exact this.symm)
            clear HF
            go_wp2_with fail
            go_ret
            exact ⟨by rw [HF3.out]; rfl, vr, zr, by rw [HF3.out], HWr.out, ((WayStep.of_ext _ hx2).trans (WayStep.of_ext _ hx3)).trans HSr.out⟩
end Go.Proofs.Ytjmfjeeddnmoaaa

/- unify.way.rising: what was found, by rising names. -/
namespace Go.Proofs.Ytjmfjeeddnmoaaa
open Go.RowKit Go.Maps Go.Sort Go.Shelf Go.Lib

def bdCf (p q : BLain) : Int := cmpS p.1.name q.1.name
theorem bdCf_lt (p q : BLain) : ltOf bdCf p q = ltN p.1.name q.1.name := by unfold ltOf bdCf; rw [ltN_cmp]
theorem swoBd : SWO (ltOf bdCf) where
  irrefl x := by rw [bdCf_lt]; exact lt_irr _
  trans x y z h1 h2 := by rw [bdCf_lt] at *; exact ltN_trans h1 h2
  ntrans x y z h1 h2 := by
    rw [bdCf_lt, ltN_cmp, decide_eq_false_iff_not] at *
    intro h3
    by_cases e1 : cmpS y.1.name x.1.name = 0
    · rw [(cmpS_eq _ _).1 e1] at h2; exact h2 h3
    · by_cases e2 : cmpS z.1.name y.1.name = 0
      · rw [(cmpS_eq _ _).1 e2] at h3; exact h1 h3
      · have f1 := cmpS_flip x.1.name y.1.name
        have f2 := cmpS_flip y.1.name z.1.name
        have f3 := cmpS_flip x.1.name z.1.name
        have := cmpS_trans (a := z.1.name) (b := y.1.name) (c := x.1.name) (by omega) (by omega)
        omega

instance : Inhabited BLain := ⟨⟨⟨.empty, ⟨0, .empty, 0, []⟩⟩, none, 0⟩⟩
theorem chg_sortB (w : World) (blk off n : Nat) (d : Array BLain) (os : Array Obj) : Chg (· = blk) w (sortWorldK BLain.cells 5 w blk off n d os) := by
  refine ⟨rfl, rfl, rfl, ?_, fun k hk hne => ?_⟩
  · simp [sortWorldK, grow, putRowK, putRow, mapBlock, Sort.ahead]
  · unfold sortWorldK putRowK putRow
    rw [heap_grow_old _ _ (by simpa [mapBlock, Sort.ahead] using hk)]
    simp only [mapBlock, Sort.ahead, Array.getElem?_modify]
    rw [if_neg (fun e => hne e.symm)]
theorem holds_bd {w : World} {base : Nat} {g c n : Nat} {xs : List BLain} (h : w.ownsRow base 65 5 (.slice (some ⟨g, 0, none⟩) n c) n (browCells xs)) (hn : n = xs.length) : HoldsK BLain.cells 5 w g 0 xs.toArray := by
  subst hn
  intro t ht
  have ht' : t < xs.length * 5 := by simpa using ht
  have hd : t / 5 < xs.length := by omega
  rw [get_flatK _ _ _ _ (by simpa using ht'), Nat.zero_add, h.cellAt t (by omega)]
  refine ⟨?_, h.frozenAt t⟩
  have e := browCells_at xs (t / 5) (t % 5) hd (by omega)
  rw [show t / 5 * 5 + t % 5 = t by omega] at e
  rw [e, getElem!_pos xs.toArray (t / 5) (by simpa using hd)]
  have hl : t % 5 < (BLain.cells xs[t / 5]).length := by simp [BLain.cells]; omega
  simp only [List.getElem_toArray, id]
  rw [List.getElem?_eq_getElem hl, getElem!_pos (BLain.cells xs[t / 5]) (t % 5) hl]
theorem holdsK_bd {w : World} {g : Nat} {d : Array BLain} (h : HoldsK BLain.cells 5 w g 0 d) (i : Nat) (hi : i < d.toList.length) (j : Nat) (hj : j < 5) :
    w.cell? ⟨g, 0 + i * 5 + j, none⟩ = (BLain.cells d.toList[i])[j]? := by
  have hi' : i < d.size := by simpa using hi
  have e : d[i]! = d.toList[i] := by rw [getElem!_pos d i hi']; simp
  have h0 := (h (i * 5 + j) (by simp; omega)).1
  rw [get_flatK _ _ _ _ (by omega), show (i * 5 + j) / 5 = i by omega, show (i * 5 + j) % 5 = j by omega, e, Nat.zero_add] at h0
  rw [show 0 + i * 5 + j = i * 5 + j by omega, h0]
  have hl : j < (BLain.cells d.toList[i]).length := by simp [BLain.cells]; omega
  rw [List.getElem?_eq_getElem hl, getElem!_pos (BLain.cells d.toList[i]) j hl]
  rfl

theorem rising1_any (x y : BLain) (w : World) :
    Calls Try.prog 137 #[.agg (BLain.cells x).toArray, .agg (BLain.cells y).toArray] w fun e w' => e = .returned (.int .i64 (bdCf x y)) ∧ ∃ q os', w' = grow (w.drewN q) os' := by
  show Calls Try.prog 137 #[.agg #[.string x.1.name, .int .i64 x.1.tm.kind, .string x.1.tm.name, .int .i64 x.1.tm.n, .slice x.2.1 x.1.tm.args.length x.2.2], .agg #[.string y.1.name, .int .i64 y.1.tm.kind, .string y.1.tm.name, .int .i64 y.1.tm.n, .slice y.2.1 y.1.tm.args.length y.2.2]] w _
  go_enter Try.func137, Try.ntmps137
  go_wp2_with fail
  refine (compare_str _ _ _).mono ?_
  rintro e w' ⟨rfl, rfl⟩
  go_wp2_with fail
  go_ret
  exact ⟨rfl, 0, _, by rw [alloc_eq_grow, alloc_eq_grow, grow_grow]; rfl⟩
theorem enterRis : ∀ args w, (callFunc 137 args).run Try.prog w = .ok (.enter 137 args) w := enters_of Try.func137 (by kernel_rfl) rfl
set_option maxHeartbeats 1000000 in
theorem sortB_any (g c : Nat) (xs : List BLain) (w : World) (hH : HoldsK BLain.cells 5 w g 0 xs.toArray) (hg : g < w.heap.size) (hn : xs.length ≤ 1000000) :
    Calls Try.prog 136 #[.slice (some ⟨g, 0, none⟩) xs.length c, .func (.func 137) #[] #[]] w fun e w' =>
      e = .returned (.tuple #[]) ∧ ∃ d' n os, PermIn 0 xs.toArray.size xs.toArray d' ∧ SortedIn (ltOf bdCf) 0 xs.toArray.size d' ∧ w' = sortWorldK BLain.cells 5 w g 0 n d' os := by
  have h := AnyQ.slices_SortFunc sortBd 5 Try.isAgg65 Try.sizeOf65 BLain.cells (fun _ => rfl) (fun x v hv => BLain.one x v hv) bdCf swoBd 137 #[] g 0 c xs.toArray w enterRis (fun _ _ _ _ x y => rising1_any _ _ _) hH hg (by simp; omega)
  exact h

/-- the binds of a way, by rising names -/
def Risen (W : List Bd) (w : World) (e : Ending) (w' : World) : Prop :=
  ∃ ms A c, e = .returned (.slice A ms.length c) ∧ ms.length ≤ c ∧ BdsAt w' ms A ∧ Ext w w' ∧ RiseB ms ∧ (∀ x, x ∈ ms ↔ x ∈ W) ∧ ms.length = W.length
theorem sorted_bds {xs : List BLain} {W : List Bd} {d' : Array BLain} (hW : TakB W) (hm : xs.map (·.1) = W) (hp : PermIn 0 xs.toArray.size xs.toArray d') (hs : SortedIn (ltOf bdCf) 0 xs.toArray.size d') :
    d'.toList.Perm xs ∧ RiseB (d'.toList.map (·.1)) ∧ (∀ x, x ∈ d'.toList.map (·.1) ↔ x ∈ W) ∧ (d'.toList.map (·.1)).length = W.length := by
  obtain ⟨h1, _, h3⟩ := hp
  have hsz : d'.size = xs.length := by simpa using h1
  have perm : d'.toList.Perm xs := by
    rw [← h1] at h3
    have e1 : d'.extract 0 d'.size = d' := by simp
    have e2 : xs.toArray.extract 0 d'.size = xs.toArray := by rw [h1]; simp
    rw [e1, e2] at h3
    exact h3
  have pm := perm.map (fun x : BLain => x.1)
  rw [hm] at pm
  refine ⟨perm, ?_, fun x => pm.mem_iff, pm.length_eq⟩
  have hnd : (d'.toList.map (fun x : BLain => x.1)).Pairwise (fun x y => x.name ≠ y.name) := (pm.pairwise_iff (fun h => Ne.symm h)).2 hW.nodup
  intro i j hj hij
  have hi : i < (d'.toList.map (fun x : BLain => x.1)).length := by omega
  have hjd : j < d'.toList.length := by simpa using hj
  have hid : i < d'.toList.length := by omega
  have h2 := hs i j (Nat.zero_le _) hij (by simp at hjd ⊢; omega)
  have gi : d'[i]! = d'.toList[i] := by rw [getElem!_pos d' i (by simpa using hid)]; simp
  have gj : d'[j]! = d'.toList[j] := by rw [getElem!_pos d' j (by simpa using hjd)]; simp
  rw [gi, gj, bdCf_lt] at h2
  have hne := (List.pairwise_iff_getElem.1 hnd) i j hi hj hij
  simp only [List.getElem_map] at hne ⊢
  rw [lt_two (Ne.symm hne), h2]; rfl

set_option maxRecDepth 100000 in
set_option maxHeartbeats 4000000 in
theorem rising_any (w0 w : World) (g b : Nat) (v : Value) (zs : List BLain) (h : WayAt w0 w g b v zs) (hW : TakB (zs.map (·.1))) :
    Calls Try.prog 108 #[.pointer (some ⟨g, 0, none⟩)] w (Risen (zs.map (·.1)) w) := by
  have hlen := hW.len
  rw [List.length_map] at hlen
  obtain ⟨A, c, rfl, hc, hB⟩ : ∃ A c, v = .slice A (zs.map (·.1)).length c ∧ (zs.map (·.1)).length ≤ c ∧ BdsAt w (zs.map (·.1)) A := by
    obtain ⟨A, c, e, hc, hB⟩ := owned_bds h.own (fun x hx => ⟨(h.tm x hx).ext h.ext, by
      have := (hW.good x.1 (List.mem_map.2 ⟨x, hx, rfl⟩)).2; omega⟩)
    exact ⟨A, c, by rw [e, List.length_map], by rw [List.length_map]; exact hc, hB⟩
  have c0 := h.c0
  have HW := Lib.hid hW
  have hl : (zs.map (·.1)).length ≤ 16 := by rw [List.length_map]; exact hlen
  have KC := Lib.hid (ucopied_fr (zs.map (·.1)) A c w (by omega) (fun i hi => hW.may _ (List.getElem_mem hi)) hB)
  clear h hW hB hc hlen
  generalize zs.map (·.1) = W at *
  go_enter Try.func108, Try.ntmps108
  go_wp2_with fail
  refine KC.out.mono ?_
  rintro e1 w1 ⟨rfl, ⟨xs, G, hxs, ho, hsub⟩, hx1⟩
  have hxl : W.length = xs.length := by rw [← hxs, List.length_map]
  have hg1 : w.heap.size < w1.heap.size := (ho.lt _ rfl).2
  have HH := Lib.hid (holds_bd ho hxl)
  have HS := Lib.hid hsub
  have HX := Lib.hid hxs
  clear KC ho hsub hxs
  have KS := Lib.hid (sortB_any w.heap.size W.length xs w1 HH.out hg1 (by omega))
  rw [← hxl] at KS
  have HXL := Lib.hid hxl
  clear hxl
  go_wp2_with fail
  refine KS.out.mono ?_
  rintro e2 w2 ⟨rfl, d', n, os, hp, hs, hw2⟩
  have HR : Hid (Risen W w (.returned (.slice (some ⟨w.heap.size, 0, none⟩) W.length W.length)) w2) := Lib.hid (by
    obtain ⟨hpm, hr, hmm, hll⟩ := sorted_bds HW.out HX.out hp hs
    have hsz : d'.size = xs.toArray.size := hp.1
    have hC : Chg (· = w.heap.size) w1 w2 := by rw [hw2]; exact chg_sortB w1 _ 0 n d' os
    have hH2 : HoldsK BLain.cells 5 w2 w.heap.size 0 d' := by rw [hw2]; exact holdsK_sortWorldK BLain.cells 5 w1 w.heap.size 0 n xs.toArray d' os hg1 HH.out hsz
    refine ⟨d'.toList.map (·.1), some ⟨w.heap.size, 0, none⟩, W.length, by rw [hll], by omega, fun i hi => ?_, Chg.ext_of hx1 hC (fun b e => by omega), hr, hmm, hll⟩
    have hid : i < d'.toList.length := by simpa using hi
    have hmem := hpm.mem_iff.1 (List.getElem_mem hid)
    obtain ⟨q, hq, eq⟩ := List.mem_iff_getElem.1 hmem
    obtain ⟨s1, s2, s3⟩ := HS.out q hq
    rw [eq] at s1 s3
    have cell := holdsK_bd hH2 i hid
    have hT := (s1.chg hC (fun b hb e => s2 (e ▸ hb))).at_
    refine ⟨w.heap.size, 0, d'.toList[i].2.1, d'.toList[i].2.2, rfl, ?_, ?_, ?_, ?_, ?_, ?_, ?_⟩
    · have := cell 0 (by omega); simpa [BLain.cells] using this
    · have := cell 1 (by omega); simpa [BLain.cells] using this
    · have := cell 2 (by omega); simpa [BLain.cells] using this
    · have := cell 3 (by omega); simpa [BLain.cells] using this
    · have := cell 4 (by omega); simpa [BLain.cells] using this
    · simpa using hT
    · simpa using s3)
  clear KS hp hs hw2 HS HH HX
  go_wp2_with fail
  go_ret
  exact HR.out
end Go.Proofs.Ytjmfjeeddnmoaaa

/- unify.Match from no binds on: what it finds, Unify finds. -/
namespace Go.Proofs.Ytjmfjeeddnmoaaa
open Go.RowKit Go.Maps

/-- what Match tells: if it is no error, Unify's own binds -/
def MatOut (a b : Tm) (w : World) (e : Ending) (w' : World) : Prop :=
  ∃ (q : Int) (ms : List Bd) (M : Option Addr) (c : Nat), e = .returned (.tuple #[.slice M ms.length c, .int .i64 q]) ∧ ms.length ≤ c ∧ BdsAt w' ms M ∧ Ext w w' ∧ (q = 0 → unyP 102 [] a b = (0, ms))
theorem mat_no {a b : Tm} {w w' : World} {q : Int} (hq : q ≠ 0) (hx : Ext w w') : MatOut a b w (.returned (.tuple #[.slice none 0 0, .int .i64 q])) w' :=
  ⟨q, [], none, 0, rfl, Nat.le_refl _, BdsAt.nil _ _, hx, fun h => absurd h hq⟩
theorem mat_uny {a b : Tm} (ha : mayB a = true) (hb : mayB b = true) {ms : List Bd} (h : unifP 102 [] a b = (0, ms)) : unyP 102 [] a b = (0, ms) := by
  have hbb : bindsB [] = true := by decide
  unfold unyP
  rw [hbb, ha, hb, h]; rfl

set_option maxRecDepth 100000 in
set_option maxHeartbeats 4000000 in
theorem match_nil (a b : Tm) (A B : Option Addr) (c d : Nat) (w : World) (hA : TmAt w a A c) (hB : TmAt w b B d) :
    Calls Try.prog 59 #[.slice none 0 0, a.val A c, b.val B d] w (MatOut a b w) := by
  obtain ⟨w1, hw1⟩ : ∃ w1, w1 = (w.alloc (.cells #[.int .i64 a.kind, .string a.name, .int .i64 a.n, .slice A a.args.length c] 28)).alloc (.cells #[.int .i64 b.kind, .string b.name, .int .i64 b.n, .slice B b.args.length d] 28) := ⟨_, rfl⟩
  have hx0 : Ext w w1 := by rw [hw1]; exact ((Ext.refl w).alloc _).alloc _
  have a0 : w1.cell? ⟨w.heap.size, 0, none⟩ = some (.int .i64 a.kind) := by rw [hw1]; go_simp
  have a1 : w1.cell? ⟨w.heap.size, 1, none⟩ = some (.string a.name) := by rw [hw1]; go_simp
  have a2 : w1.cell? ⟨w.heap.size, 2, none⟩ = some (.int .i64 a.n) := by rw [hw1]; go_simp
  have a3 : w1.cell? ⟨w.heap.size, 3, none⟩ = some (.slice A a.args.length c) := by rw [hw1]; go_simp
  have b0 : w1.cell? ⟨w.heap.size + 1, 0, none⟩ = some (.int .i64 b.kind) := by rw [hw1]; go_simp
  have b1 : w1.cell? ⟨w.heap.size + 1, 1, none⟩ = some (.string b.name) := by rw [hw1]; go_simp
  have b2 : w1.cell? ⟨w.heap.size + 1, 2, none⟩ = some (.int .i64 b.n) := by rw [hw1]; go_simp
  have b3 : w1.cell? ⟨w.heap.size + 1, 3, none⟩ = some (.slice B b.args.length d) := by rw [hw1]; go_simp
  have HW := Lib.hid hw1
  clear hw1
  have hg0 : (bindsB [] && grL []) = true := by decide
  have KG0 := groundBinds_any [] none 0 w1 (by simp) (BdsAt.nil _ _)
  rw [hg0] at KG0
  have KG := Lib.hid KG0
  clear hg0 KG0
  have HA1 := Lib.hid (hA.ext hx0)
  have HB1 := Lib.hid (hB.ext hx0)
  cases hma : mayB a with
  | false =>
    have HMA := Lib.hid hma
    clear hma
    go_enter Try.func59, Try.ntmps59
    go_wp2_with fail
    rw [← HW.out]
    refine KG.out.mono ?_
    rintro e2 w2 ⟨rfl, hx2⟩
    have c0 := hx2.cell a0
    have c1 := hx2.cell a1
    have c2 := hx2.cell a2
    have c3 := hx2.cell a3
    go_wp2_with fail
    refine (check_no a A c _ (HA1.out.ext hx2) HMA.out).mono ?_
    rintro e3 w3 ⟨rfl, hx3⟩
    go_wp2_with fail
    go_ret2
    exact mat_no (by decide) ((hx0.trans hx2).trans hx3)
  | true =>
    have HMA := Lib.hid hma
    clear hma
    cases hmb : (mayB b && groundT b) with
    | false =>
      have HMB := Lib.hid hmb
      clear hmb
      go_enter Try.func59, Try.ntmps59
      go_wp2_with fail
      rw [← HW.out]
      refine KG.out.mono ?_
      rintro e2 w2 ⟨rfl, hx2⟩
      have c0 := hx2.cell a0
      have c1 := hx2.cell a1
      have c2 := hx2.cell a2
      have c3 := hx2.cell a3
      go_wp2_with fail
      refine (check_yes a A c _ (HA1.out.ext hx2) HMA.out).mono ?_
      rintro e3 w3 ⟨rfl, hx3⟩
      have d0 := (hx2.trans hx3).cell b0
      have d1 := (hx2.trans hx3).cell b1
      have d2 := (hx2.trans hx3).cell b2
      have d3 := (hx2.trans hx3).cell b3
      have KU := uground_any b B d w3 (HB1.out.ext (hx2.trans hx3))
      rw [HMB.out] at KU
      have KUH := Lib.hid KU
      clear KU
      go_wp2_with fail
      refine KUH.out.mono ?_
      rintro e4 w4 ⟨rfl, hx4⟩
      go_wp2_with fail
      go_ret2
      exact mat_no (by decide) (((hx0.trans hx2).trans hx3).trans hx4)
    | true =>
      have HMB := Lib.hid hmb
      clear hmb
      go_enter Try.func59, Try.ntmps59
      go_wp2_with fail
      rw [← HW.out]
      refine KG.out.mono ?_
      rintro e2 w2 ⟨rfl, hx2⟩
      have c0 := hx2.cell a0
      have c1 := hx2.cell a1
      have c2 := hx2.cell a2
      have c3 := hx2.cell a3
      go_wp2_with fail
      refine (check_yes a A c _ (HA1.out.ext hx2) HMA.out).mono ?_
      rintro e3 w3 ⟨rfl, hx3⟩
      have hx13 := hx2.trans hx3
      have d0 := hx13.cell b0
      have d1 := hx13.cell b1
      have d2 := hx13.cell b2
      have d3 := hx13.cell b3
      have KU := uground_any b B d w3 (HB1.out.ext hx13)
      rw [HMB.out] at KU
      have KUH := Lib.hid KU
      clear KU c0 c1 c2 c3 KG HW
      go_wp2_with fail
      refine KUH.out.mono ?_
      rintro e4 w4 ⟨rfl, hx4⟩
      clear KUH d0 d1 d2 d3
      have hx14 := hx13.trans hx4
      have HA4 := Lib.hid (HA1.out.ext hx14)
      have HB4 := Lib.hid (HB1.out.ext hx14)
      clear HA1 HB1
      go_wp2_with fail
      refine (wayOf_nil w4).mono ?_
      rintro e5 w5 ⟨g, bb, v, rfl, hW5⟩
      have hx5 := hW5.ext
      have hx15 := hx14.trans hx5
      have c0 := hx15.cell a0
      have c1 := hx15.cell a1
      have c2 := hx15.cell a2
      have c3 := hx15.cell a3
      have d0 := hx15.cell b0
      have d1 := hx15.cell b1
      have d2 := hx15.cell b2
      have d3 := hx15.cell b3
      have hmb2 : mayB b = true ∧ groundT b = true := by have := HMB.out; rwa [Bool.and_eq_true] at this
      have HMB2 := Lib.hid hmb2
      have KT : Hid (Calls Try.prog 107 #[.pointer (some ⟨g, 0, none⟩), a.val A c, b.val B d] w5 (WayOut (takT a b []) w4 g bb w5 v)) :=
        Lib.hid (take_any a.high a b A B c d w4 w5 g bb v [] (Nat.le_refl _) hW5 TakB.nil (may_all HMA.out) (may_good HMA.out) hmb2.1 hmb2.2 HA4.out HB4.out)
      have KO := Lib.hid (tak_ok a b [] TakB.nil (may_all HMA.out) (may_good HMA.out) hmb2.1 hmb2.2)
      have KM : Hid (∀ m : List Bd, (takT a b []).1 = 0 → (∀ x, x ∈ m ↔ x ∈ (takT a b []).2) → m.length = (takT a b []).2.length → RiseB m → unyP 102 [] a b = (0, m)) :=
        Lib.hid (fun m h0 hp hl hr => mat_uny HMA.out HMB2.out.1 (take_unif HMA.out HMB2.out.1 HMB2.out.2 h0 hp hl hr))
      obtain ⟨r, hr⟩ : ∃ r, r = takT a b [] := ⟨_, rfl⟩
      rw [← hr] at KT KO KM
      clear hr hmb2 hW5 a0 a1 a2 a3 b0 b1 b2 b3
      obtain ⟨E1, L1⟩ := r
      go_wp2_with fail
      refine KT.out.mono ?_
      rintro e6 w6 ⟨rfl, v6, zs6, hz6, hW6, _⟩
      have hx06 : Ext w w6 := (hx0.trans hx14).trans hW6.ext
      clear KT c0 c1 c2 c3 d0 d1 d2 d3
      by_cases hE : E1 = 0
      · have q2 : (E1 != 0) = false := by simp [hE]
        have hT6 : TakB (zs6.map (·.1)) := by rw [hz6]; exact (KO.out hE).1.binds
        have KR := Lib.hid (rising_any w4 w6 g bb v6 zs6 hW6 hT6)
        have KM2 : Hid (∀ m : List Bd, (∀ x, x ∈ m ↔ x ∈ zs6.map (·.1)) → m.length = (zs6.map (·.1)).length → RiseB m → unyP 102 [] a b = (0, m)) := Lib.hid (fun m hp hl hr => KM.out m hE (by rw [hz6] at hp; exact hp) (by rw [hz6] at hl; exact hl) hr)
        clear hE KM KO hT6 hz6 hW6
        go_wp2_with fail
        refine KR.out.mono ?_
        rintro e7 w7 ⟨ms, M, mc, rfl, hmc, hBm, hx7, hrs, hmm, hml⟩
        have HRR : Hid (MatOut a b w (.returned (.tuple #[.slice M ms.length mc, .int .i64 0])) w7) := Lib.hid ⟨0, ms, M, mc, rfl, hmc, hBm, hx06.trans hx7, fun _ => KM2.out ms hmm hml hrs⟩
        clear KR KM2 hmm hml hrs hBm
        go_wp2_with fail
        go_ret2
        exact HRR.out
      · have q2 : (E1 != 0) = true := by simp [hE]
        have HRR : Hid (MatOut a b w (.returned (.tuple #[.slice none 0 0, .int .i64 E1])) w6) := Lib.hid (mat_no hE hx06)
        clear hE KM KO hz6 hW6
        go_wp2_with fail
        go_ret2
        exact HRR.out
end Go.Proofs.Ytjmfjeeddnmoaaa

/- UnifyAlike: what its callees tell. -/
namespace Go.Proofs.Ytjmfjeeddnmoaaa
open Go.RowKit

theorem nil_binds : bindsB [] = true := by decide
theorem appE_nil {t : Tm} (h : mayB t = false) : applyE [] t = 1 := by unfold applyE; rw [h]; simp
theorem uny_99 (a b : Tm) : (unifP 102 [] a b).1 ≠ 99 := by
  cases ha : mayB a with
  | true =>
    cases hb : mayB b with
    | true => exact unif_ends 102 [] a b nil_binds ha hb (.inl (by simp))
    | false =>
      rw [show (102 : Nat) = 101 + 1 from rfl, unifP, if_pos (apply_nil ha).1, if_neg (by rw [appE_nil hb]; decide), appE_nil hb]; decide
  | false => rw [show (102 : Nat) = 101 + 1 from rfl, unifP, if_neg (by rw [appE_nil ha]; decide), appE_nil ha]; decide
theorem uny_may0 {a b : Tm} (h : (unifP 102 [] a b).1 = 0) : mayB a = true ∧ mayB b = true := by
  cases ha : mayB a with
  | true =>
    cases hb : mayB b with
    | true => exact ⟨rfl, rfl⟩
    | false =>
      rw [show (102 : Nat) = 101 + 1 from rfl, unifP, if_pos (apply_nil ha).1, if_neg (by rw [appE_nil hb]; decide), appE_nil hb] at h; cases h
  | false => rw [show (102 : Nat) = 101 + 1 from rfl, unifP, if_neg (by rw [appE_nil ha]; decide), appE_nil ha] at h; cases h
theorem uny_may {a b : Tm} (h : (unifP 102 [] a b).1 = 0) : mayL (unifP 102 [] a b).2 = true := by
  obtain ⟨ha, hb⟩ := uny_may0 h
  have hg := (unif_grow 102 [] a b nil_binds ha hb h).1
  unfold mayL
  rw [List.all_eq_true]
  intro x hx
  obtain ⟨i, hi, rfl⟩ := List.mem_iff_getElem.1 hx
  exact binds_may hg i hi
theorem uny_comm (a b : Tm) : unyP 102 [] b a = unyP 102 [] a b := by
  unfold unyP
  cases ha : mayB a with
  | true =>
    cases hb : mayB b with
    | true => rw [unif_comm 102 [] b a nil_binds hb ha]
    | false => simp
  | false => simp
theorem uny_zero {a b : Tm} {L : List Bd} (h : unyP 102 [] a b = (0, L)) : bindsB L = true ∧ L.length ≤ 16 ∧ applyE L a = applyE L b ∧ (applyE L a = 0 → applyT L a = applyT L b) := by
  unfold unyP at h
  by_cases hm : (bindsB [] && mayB a && mayB b) = true
  · rw [if_pos hm] at h
    have hm' := hm
    simp only [Bool.and_eq_true] at hm'
    obtain ⟨⟨_, ha⟩, hb⟩ := hm'
    by_cases h0 : (unifP 102 [] a b).1 = 0
    · rw [if_pos h0] at h
      have hL : (unifP 102 [] a b).2 = L := by injection h
      obtain ⟨g1, _, g3⟩ := unif_grow 102 [] a b nil_binds ha hb h0
      rw [hL] at g1 g3
      refine ⟨g1, binds_room g1, ?_, ?_⟩
      · unfold applyE; rw [g1, ha, hb, g3]
      · intro _; unfold applyT; rw [g1, ha, hb, g3]
    · rw [if_neg h0] at h
      injection h with h
      exact absurd h h0
  · rw [if_neg hm] at h; cases h
theorem uny_short (a b : Tm) : (unyP 102 [] a b).2.length ≤ 1000000 := by
  unfold unyP
  split
  · split
    · exact unifP_short 102 [] a b (by simp)
    · simp
  · simp
theorem uny_call (a b : Tm) (A B : Option Addr) (c d : Nat) (w : World) (hA : TmAt w a A c) (hB : TmAt w b B d) :
    Calls Try.prog 57 #[.slice none 0 0, a.val A c, b.val B d] w (BndOut (unyP 102 [] a b) w) :=
  Unify_any 102 [] a b none A B 0 c d w (uny_99 a b) uny_may (by simp) (by simp) (BdsAt.nil _ _) hA hB

set_option maxRecDepth 100000 in
set_option maxHeartbeats 2000000 in
theorem heavy2_nil (w : World) : Calls Try.prog 37 #[.agg #[.slice none 0 0, .slice none 0 0, .slice none 0 0]] w fun e w' => e = .returned (.bool false) ∧ Ext w w' := by
  obtain ⟨wi, hwi⟩ : ∃ wi, wi = w.alloc (.cells #[.slice none 0 0, .slice none 0 0, .slice none 0 0] 56) := ⟨_, rfl⟩
  have a0 : wi.cell? ⟨w.heap.size, 0, none⟩ = some (.slice none 0 0) := by rw [hwi]; go_simp
  have a1 : wi.cell? ⟨w.heap.size, 1, none⟩ = some (.slice none 0 0) := by rw [hwi]; go_simp
  have a2 : wi.cell? ⟨w.heap.size, 2, none⟩ = some (.slice none 0 0) := by rw [hwi]; go_simp
  have hx0 : Ext w wi := by rw [hwi]; exact (Ext.refl w).alloc _
  have HWI := Lib.hid hwi
  clear hwi
  have K1 : Hid (∀ p : ExtOf wi, Calls Try.prog 63 #[.slice none 0 0] p.to fun e w' => e = .returned (.int .i64 0) ∧ Ext p.to w') := Lib.hid fun p => terms_any [] none 0 p.to (by simp) ⟨fun _ => none, fun _ => 0, fun i hi => absurd hi (by simp), fun i hi => absurd hi (by simp)⟩
  have K2 : Hid (∀ p : ExtOf wi, Calls Try.prog 64 #[.slice none 0 0] p.to fun e w' => e = .returned (.int .i64 0) ∧ Ext p.to w') := Lib.hid fun p => (texts_any [] none 0 p.to (by simp) (fun i hi => absurd hi (by simp))).mono fun _ _ ⟨he, hx⟩ => ⟨he, hx ▸ Ext.refl _⟩
  have q0 := ext_cell a0
  have q1 := ext_cell a1
  have q2 := ext_cell a2
  go_enter Try.func37, Try.ntmps37
  go_wp2_with fail
  rw [← HWI.out]
  refine wp_region_ext (by kernel_rfl) (by kernel_rfl) ?_
  repeat (go_big_quiet_step (first | (go_at_call 63; exact of_ext (K1.out _)) | (go_at_call 64; exact of_ext (K2.out _))))
  refine wpQuiet_nil ?_
  refine ext_all ?_
  intro w2 hx2
  have b0 := hx2.cell a0
  clear q0 q1 q2 a0 a1 a2 K1 K2
  go_wp2_with fail
  go_loop [3, 4] (fun n i => n = .int .i64 0 ∧ i = .int .i64 0) (fun _ _ => 0)
  case atStart => exact ⟨rfl, rfl⟩
  case round =>
    obtain ⟨rfl, rfl⟩ := hrel
    go_wp2_with fail
    go_ret
    exact ⟨rfl, hx0.trans hx2⟩
end Go.Proofs.Ytjmfjeeddnmoaaa
