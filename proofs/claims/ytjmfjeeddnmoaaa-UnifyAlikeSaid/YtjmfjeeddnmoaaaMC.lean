/- Joined: Bpu, Wk2, Twc. -/
import Derived.Test.YtjmfjeeddnmoaaaMA
import Derived.Test.YtjmfjeeddnmoaaaMB

/- What follows of binds: applied twice is as once; what is set is got; joined the other way round is the same. -/
namespace Go.Proofs.Ytjmfjeeddnmoaaa
open Go.RowKit

/-! applied twice -/
mutual
theorem ment_ground (bs : List Bd) : ∀ t : Tm, groundT t = true → mentT bs t = false
  | ⟨k, s, n, l⟩, h => by
    rw [groundT, Bool.and_eq_true] at h
    rw [mentT, if_neg (by simpa using h.2), mentL_ground bs l h.1]
theorem mentL_ground (bs : List Bd) : ∀ l : List Tm, groundL l = true → mentL bs l = false
  | [], _ => rfl
  | t :: ts, h => by
    rw [groundL, Bool.and_eq_true] at h
    rw [mentL, ment_ground bs t h.1, mentL_ground bs ts h.2]; rfl
end
theorem crossL_mem {bs : List Bd} : ∀ {xs : List Bd}, crossL bs xs = false → ∀ x ∈ xs, mentT bs x.tm = false
  | [], _, x, hx => by cases hx
  | y :: ys, h, x, hx => by
    rw [crossL, Bool.or_eq_false_iff] at h
    rcases List.mem_cons.1 hx with e | e
    · rw [e]; exact h.1
    · exact crossL_mem h.2 x e
theorem crossL_of {bs : List Bd} : ∀ {xs : List Bd}, (∀ x ∈ xs, mentT bs x.tm = false) → crossL bs xs = false
  | [], _ => rfl
  | y :: ys, h => by rw [crossL, h y (by simp), crossL_of (fun x hx => h x (by simp [hx]))]; rfl
theorem binds_ment {bs : List Bd} (h : bindsB bs = true) : ∀ x ∈ bs, mentT bs x.tm = false := by
  intro x hx
  rcases (binds_ok h).2.2 with hg | hc
  · exact ment_ground bs _ (by unfold grL at hg; rw [List.all_eq_true] at hg; exact hg x hx)
  · exact crossL_mem hc x hx
theorem bdOf_mem {bs : List Bd} {s : ByteArray} {u : Tm} (h : bdOf bs s = some u) : ∃ x ∈ bs, x.tm = u ∧ x.name = s := by
  unfold bdOf at h
  cases hp : plc bs bs.length s with
  | none => rw [hp] at h; cases h
  | some i =>
    obtain ⟨hi, h2⟩ := plc_some hp
    rw [hp, Option.bind_some, List.getElem?_eq_getElem hi] at h
    rw [List.getElem?_eq_getElem hi] at h2
    exact ⟨bs[i], List.getElem_mem hi, by simpa using h, by simpa using h2⟩
theorem bdOf_plB {bs : List Bd} {s : ByteArray} (h : bdOf bs s = none) : plB bs s = false := by
  unfold plB
  cases hp : plc bs bs.length s with
  | none => rfl
  | some i => rw [bdOf_some (plc_some hp).1 hp] at h; cases h
theorem plB_bdOf {bs : List Bd} {s : ByteArray} (h : plB bs s = false) : bdOf bs s = none := by
  unfold plB at h
  cases hp : plc bs bs.length s with
  | none => exact bdOf_none hp
  | some i => rw [hp] at h; cases h
mutual
/-- what is replaced by binds whose terms mention none of ds mentions none of ds, if it had them bound alone -/
theorem ment_rep {bs ds : List Bd} (hb : ∀ x ∈ bs, mentT ds x.tm = false) (hd : ∀ s, bdOf bs s = none → plB ds s = true → False) : ∀ t : Tm, mentT ds (repT bs t) = false
  | ⟨k, s, n, l⟩ => by
    rw [repT]
    by_cases hk : (k == 1) = true
    · rw [if_pos hk]
      cases hs : bdOf bs s with
      | some u => obtain ⟨x, hx, e, _⟩ := bdOf_mem hs; rw [← e]; exact hb x hx
      | none =>
        rw [Option.getD_none, mentT, if_pos hk]
        cases hp : plB ds s with
        | true => exact (hd s hs hp).elim
        | false => rfl
    · rw [if_neg hk, mentT, if_neg hk, mentL_rep hb hd l]
theorem mentL_rep {bs ds : List Bd} (hb : ∀ x ∈ bs, mentT ds x.tm = false) (hd : ∀ s, bdOf bs s = none → plB ds s = true → False) : ∀ l : List Tm, mentL ds (repL bs l) = false
  | [] => rfl
  | t :: ts => by rw [repL, mentL, ment_rep hb hd t, mentL_rep hb hd ts]; rfl
end
mutual
theorem rep_id {bs : List Bd} : ∀ t : Tm, allP t → mentT bs t = false → repT bs t = t
  | ⟨k, s, n, l⟩, ha, h => by
    rw [repT]
    by_cases hk : (k == 1) = true
    · have hl : l = [] := List.eq_nil_of_length_eq_zero (allP_var ha hk)
      subst hl
      rw [mentT, if_pos hk] at h
      rw [if_pos hk, plB_bdOf h]; rfl
    · rw [mentT, if_neg hk] at h
      rw [if_neg hk, repL_id l (by have := ha.args; exact this) h]
theorem repL_id {bs : List Bd} : ∀ l : List Tm, allPs l → mentL bs l = false → repL bs l = l
  | [], _, _ => rfl
  | t :: ts, ha, h => by
    rw [mentL, Bool.or_eq_false_iff] at h
    rw [repL, rep_id t (allPs_mem ha (by simp)) h.1, repL_id ts (by rw [allPs] at ha; exact ha.2) h.2]
end
mutual
theorem ment_sub {bs ds : List Bd} (h : ∀ n, plB ds n = false → plB bs n = false) : ∀ t : Tm, mentT ds t = false → mentT bs t = false
  | ⟨k, s, n, l⟩, ht => by
    rw [mentT] at ht ⊢
    by_cases hk : (k == 1) = true
    · rw [if_pos hk] at ht ⊢; exact h s ht
    · rw [if_neg hk] at ht ⊢; exact mentL_sub h l ht
theorem mentL_sub {bs ds : List Bd} (h : ∀ n, plB ds n = false → plB bs n = false) : ∀ l : List Tm, mentL ds l = false → mentL bs l = false
  | [], _ => rfl
  | t :: ts, ht => by
    rw [mentL, Bool.or_eq_false_iff] at ht
    rw [mentL, ment_sub h t ht.1, mentL_sub h ts ht.2]; rfl
end
mutual
/-- one more bind put in: nothing bound is left -/
theorem ment_one {bs : List Bd} {x : Bd} (hx : mentT (x :: bs) x.tm = false) : ∀ u : Tm, mentT bs u = false → mentT (x :: bs) (repT [x] u) = false
  | ⟨k, n, m, l⟩, hu => by
    rw [mentT] at hu
    rw [repT]
    by_cases hk : (k == 1) = true
    · rw [if_pos hk] at hu ⊢
      cases hs : bdOf [x] n with
      | some v =>
        obtain ⟨y, hy, e, _⟩ := bdOf_mem hs
        obtain rfl : y = x := by simpa using hy
        rw [← e]; exact hx
      | none =>
        rw [Option.getD_none, mentT, if_pos hk]
        cases hc : plB (x :: bs) n with
        | false => rfl
        | true =>
          obtain ⟨y, hy, e⟩ := (plB_iff _ _).1 hc
          rcases List.mem_cons.1 hy with h | h
          · have h1 := bdOf_plB hs
            have : plB [x] n = true := (plB_iff _ _).2 ⟨y, by simp [h], e⟩
            rw [h1] at this; cases this
          · have : plB bs n = true := (plB_iff _ _).2 ⟨y, h, e⟩
            rw [hu] at this; cases this
    · rw [if_neg hk] at hu ⊢
      rw [mentT, if_neg hk, mentL_one hx l hu]
theorem mentL_one {bs : List Bd} {x : Bd} (hx : mentT (x :: bs) x.tm = false) : ∀ l : List Tm, mentL bs l = false → mentL (x :: bs) (repL [x] l) = false
  | [], _ => rfl
  | t :: ts, h => by
    rw [mentL, Bool.or_eq_false_iff] at h
    rw [repL, mentL, ment_one hx t h.1, mentL_one hx ts h.2]; rfl
end
theorem apply_twice {bs : List Bd} {t : Tm} (h : applyE bs t = 0) : applyT bs t = repT bs t ∧ bindsB bs = true ∧ mayB (repT bs t) = true ∧ applyE bs (repT bs t) = 0 ∧ applyT bs (repT bs t) = repT bs t := by
  unfold applyE at h
  split at h
  · rename_i hb
    split at h
    · rename_i hm
      rw [Bool.and_eq_true] at hb
      have hid : repT bs (repT bs t) = repT bs t := rep_id _ (may_all hm) (ment_rep (binds_ment hb.1) (fun s h1 h2 => by rw [bdOf_plB h1] at h2; cases h2) t)
      refine ⟨?_, hb.1, hm, ?_, ?_⟩
      · unfold applyT; rw [if_pos (by simp [hb.1, hb.2]), if_pos hm]
      · unfold applyE; rw [if_pos (by simp [hb.1, hm]), if_pos (by rw [hid]; exact hm)]
      · unfold applyT; rw [if_pos (by simp [hb.1, hm]), if_pos (by rw [hid]; exact hm), hid]
    · cases h
  · cases h

/-! joined the other way round -/
theorem joinB_comm (aa bb : List Bd) : joinB aa bb = joinB bb aa := by unfold joinB; rw [Bool.and_comm]
theorem mergeL_comm (n : Nat) : ∀ aa bb : List Bd, aa.length + bb.length ≤ n → (∀ x ∈ aa, mayB x.tm = true) → (∀ x ∈ bb, mayB x.tm = true) → mergeL aa bb = mergeL bb aa := by
  induction n with
  | zero =>
    intro aa bb h _ _
    have e1 : aa = [] := List.eq_nil_of_length_eq_zero (by omega)
    have e2 : bb = [] := List.eq_nil_of_length_eq_zero (by omega)
    rw [e1, e2]
  | succ n ih =>
    intro aa bb h ha hb
    cases aa with
    | nil => rw [mergeL_nil, mergeL]
    | cons x xs =>
      cases bb with
      | nil => rw [mergeL_nil, mergeL]
      | cons y ys =>
        rw [mergeL_cons, mergeL_cons]
        have hf := cmpS_flip x.name y.name
        have hbd := cmpS_bd x.name y.name
        simp only [List.length_cons] at h
        have i1 := ih xs (y :: ys) (by simp only [List.length_cons]; omega) (fun z hz => ha z (by simp [hz])) hb
        have i2 := ih (x :: xs) ys (by simp only [List.length_cons]; omega) ha (fun z hz => hb z (by simp [hz]))
        have i3 := ih xs ys (by omega) (fun z hz => ha z (by simp [hz])) (fun z hz => hb z (by simp [hz]))
        have hc : cmpS x.name y.name = -1 ∨ cmpS x.name y.name = 0 ∨ cmpS x.name y.name = 1 := by omega
        rcases hc with hc | hc | hc
        · have c1 : ¬ cmpS y.name x.name = -1 := by omega
          have c2 : cmpS y.name x.name = 1 := by omega
          rw [if_pos hc, if_neg c1, if_pos c2, i1]
        · have c1 : ¬ cmpS x.name y.name = -1 := by omega
          have c2 : ¬ cmpS x.name y.name = 1 := by omega
          have c3 : ¬ cmpS y.name x.name = -1 := by omega
          have c4 : ¬ cmpS y.name x.name = 1 := by omega
          rw [if_neg c1, if_neg c2, if_neg c3, if_neg c4]
          have hcn := cmpT_neg x.tm y.tm
          by_cases ht : cmpT x.tm y.tm = 0
          · have hexy : x = y := by
              have e1 := (cmpS_eq _ _).1 hc
              have e2 : x.tm = y.tm := (eqT_iff _ _).1 (by
                have := cmpT_eqT (ha x (by simp)) (hb y (by simp))
                simpa [ht] using this)
              cases x; cases y; simp_all
            have ht2 : cmpT y.tm x.tm = 0 := by omega
            rw [if_pos ht, if_pos ht2, i3, hexy]
          · have ht2 : ¬ cmpT y.tm x.tm = 0 := by omega
            rw [if_neg ht, if_neg ht2]
        · have c1 : ¬ cmpS x.name y.name = -1 := by omega
          have c2 : cmpS y.name x.name = -1 := by omega
          rw [if_neg c1, if_pos hc, if_pos c2, i2]

/-! what is set is got -/
theorem insB_get (bs : List Bd) (i : Nat) (x : Bd) (h : i ≤ bs.length) (k : Nat) (hk : k < (insB bs i x).length) :
    (k < i ∧ ∃ h : k < bs.length, (insB bs i x)[k] = bs[k]) ∨ (k = i ∧ (insB bs i x)[k] = x) ∨ (i < k ∧ ∃ h : k - 1 < bs.length, (insB bs i x)[k] = bs[k - 1]) := by
  have hl : (bs.take i).length = i := by rw [List.length_take]; omega
  have hn := insB_len bs i x h
  have g : (insB bs i x)[k]? = some (insB bs i x)[k] := List.getElem?_eq_getElem hk
  rcases Nat.lt_trichotomy k i with e | e | e
  · have hb : k < bs.length := by omega
    refine .inl ⟨e, hb, ?_⟩
    have : (insB bs i x)[k]? = some bs[k] := by
      unfold insB
      rw [List.getElem?_append_left (by rw [List.length_append, hl]; simp; omega), List.getElem?_append_left (by omega), List.getElem?_take, if_pos e, List.getElem?_eq_getElem hb]
    exact Option.some.inj (g.symm.trans this)
  · subst e
    exact .inr (.inl ⟨rfl, insB_at bs k x h⟩)
  · have hb : k - 1 < bs.length := by omega
    refine .inr (.inr ⟨e, hb, ?_⟩)
    have hl2 : (bs.take i ++ [x]).length = i + 1 := by rw [List.length_append, hl]; rfl
    have : (insB bs i x)[k]? = some bs[k - 1] := by
      unfold insB
      rw [List.getElem?_append_right (by omega), List.getElem?_drop, hl2, show i + (k - (i + 1)) = k - 1 by omega, List.getElem?_eq_getElem hb]
    exact Option.some.inj (g.symm.trans this)
theorem insB_rise {bs : List Bd} {s : ByteArray} {t : Tm} {i : Nat} (hr : RiseB bs) (hs : SeaAt bs s i false) : RiseB (insB bs i ⟨s, t⟩) := by
  have lt_iff : ∀ a b : ByteArray, ltN a b = true ↔ cmpS a b < 0 := fun a b => by rw [ltN_cmp, decide_eq_true_eq]
  refine rise_of fun k hk => ?_
  have hn := insB_len bs i ⟨s, t⟩ hs.le
  rcases insB_get bs i ⟨s, t⟩ hs.le k (by omega) with ⟨e, h1, e1⟩ | ⟨e, e1⟩ | ⟨e, h1, e1⟩
  · rcases insB_get bs i ⟨s, t⟩ hs.le (k + 1) hk with ⟨f, g1, f1⟩ | ⟨f, f1⟩ | ⟨f, g1, f1⟩
    · rw [e1, f1]; exact hr k (k + 1) g1 (by omega)
    · rw [e1, f1, lt_iff]; exact hs.lo k h1 e
    · omega
  · rcases insB_get bs i ⟨s, t⟩ hs.le (k + 1) hk with ⟨f, g1, f1⟩ | ⟨f, f1⟩ | ⟨f, g1, f1⟩
    · omega
    · omega
    · rw [e1, f1, lt_iff]
      simp only [Nat.add_sub_cancel] at g1 ⊢
      have hhi := hs.hi k g1 (by omega)
      have hne : cmpS bs[k].name s ≠ 0 := fun h0 => by
        have := hs.at_.2 ⟨by omega, by subst e; exact (cmpS_eq _ _).1 h0⟩
        cases this
      have := cmpS_flip bs[k].name s
      show cmpS s bs[k].name < 0
      omega
  · rcases insB_get bs i ⟨s, t⟩ hs.le (k + 1) hk with ⟨f, g1, f1⟩ | ⟨f, f1⟩ | ⟨f, g1, f1⟩
    · omega
    · omega
    · rw [e1, f1]
      simp only [Nat.add_sub_cancel] at g1 ⊢
      exact hr (k - 1) k g1 (by omega)
theorem okL_mk : ∀ (p : Option ByteArray) (l : List Bd), (∀ x ∈ l, mayB x.tm = true ∧ varB x.name = true) → (∀ i (h : i + 1 < l.length), ltN l[i].name l[i + 1].name = true) → (∀ x, l.head? = some x → upB p x.name = true) → okL p l = true
  | _, [], _, _, _ => rfl
  | p, x :: xs, h, hr, hp => by
    rw [okL, (h x (by simp)).1, (h x (by simp)).2, hp x rfl, Bool.true_and, Bool.true_and, Bool.true_and]
    refine okL_mk _ xs (fun y hy => h y (by simp [hy])) (fun i hi => by have := hr (i + 1) (by simpa using hi); simpa using this) (fun y hy => ?_)
    cases xs with
    | nil => cases hy
    | cons z zs =>
      obtain rfl : z = y := by simpa using hy
      have := hr 0 (by simp)
      simpa [upB, ltN] using this
theorem plB_names {bs cs : List Bd} (h : bs.map (·.name) = cs.map (·.name)) (s : ByteArray) : plB bs s = plB cs s := by
  rw [Bool.eq_iff_iff, plB_iff, plB_iff]
  have key : ∀ l : List Bd, (∃ x ∈ l, x.name = s) ↔ s ∈ l.map (·.name) := fun l => by simp
  rw [key, key, h]
theorem stlL_names (x : Bd) (bs : List Bd) : (stlL x bs).map (·.name) = bs.map (·.name) := by unfold stlL; simp

theorem set_got {bs : List Bd} {s : ByteArray} {t : Tm} {i : Nat} (h : setB bs s t = true) (hs : SeaAt bs s i false) (ho : okSet bs s t i = true) :
    bindsB (stlL ⟨s, t⟩ (insB bs i ⟨s, t⟩)) = true ∧ bdOf (stlL ⟨s, t⟩ (insB bs i ⟨s, t⟩)) s = some t := by
  unfold setB at h
  simp only [Bool.and_eq_true, Bool.not_eq_true'] at h
  obtain ⟨⟨⟨⟨hb, hm⟩, hv⟩, hpl⟩, hmt⟩ := h
  unfold okSet at ho
  rw [Bool.and_eq_true, decide_eq_true_eq] at ho
  obtain ⟨h16, hmay⟩ := ho
  unfold mayL at hmay
  rw [List.all_eq_true] at hmay
  have hrise := okL_rise (binds_ok hb).2.1
  have hri := insB_rise (t := t) hrise hs
  have hlen : (stlL ⟨s, t⟩ (insB bs i ⟨s, t⟩)).length = bs.length + 1 := by rw [stlL_len, insB_len _ _ _ hs.le]
  have hnm := stlL_names ⟨s, t⟩ (insB bs i ⟨s, t⟩)
  have hat : ∀ k (h : k < (stlL ⟨s, t⟩ (insB bs i ⟨s, t⟩)).length), (stlL ⟨s, t⟩ (insB bs i ⟨s, t⟩))[k] = ⟨((insB bs i ⟨s, t⟩)[k]'(by rw [stlL_len] at h; exact h)).name, repT [⟨s, t⟩] ((insB bs i ⟨s, t⟩)[k]'(by rw [stlL_len] at h; exact h)).tm⟩ := fun k h => stlL_at _ _ k (by rw [stlL_len] at h; exact h)
  have hriX : RiseB (stlL ⟨s, t⟩ (insB bs i ⟨s, t⟩)) := fun p q hq hp => by
    rw [hat p (by omega), hat q hq]
    exact hri p q (by rw [stlL_len] at hq; exact hq) hp
  have hmtS : mentT [⟨s, t⟩] t = false := by
    -- what has none of more names has none of fewer
    have sub : ∀ u : Tm, mentT (⟨s, t⟩ :: bs) u = false → mentT [⟨s, t⟩] u = false := by
      have hh : ∀ n : ByteArray, plB (⟨s, t⟩ :: bs) n = false → plB [⟨s, t⟩] n = false := fun n hn => by
        cases hc : plB [⟨s, t⟩] n with
        | false => rfl
        | true =>
          obtain ⟨x, hx, e⟩ := (plB_iff _ _).1 hc
          have : plB (⟨s, t⟩ :: bs) n = true := (plB_iff _ _).2 ⟨x, by simp at hx; simp [hx], e⟩
          rw [hn] at this; cases this
      exact ment_sub hh
    exact sub t hmt
  have hidt : repT [⟨s, t⟩] t = t := rep_id t (may_all hm) hmtS
  have hXat : (stlL ⟨s, t⟩ (insB bs i ⟨s, t⟩))[i]'(by have := hs.le; omega) = ⟨s, t⟩ := by
    rw [hat i (by have := hs.le; omega), insB_at bs i ⟨s, t⟩ hs.le, hidt]
  have hplX : ∀ n, plB (stlL ⟨s, t⟩ (insB bs i ⟨s, t⟩)) n = plB (⟨s, t⟩ :: bs) n := fun n => by rw [plB_names hnm, plB_ins]
  refine ⟨?_, ?_⟩
  · have hok : okL none (stlL ⟨s, t⟩ (insB bs i ⟨s, t⟩)) = true := okL_mk none _ (fun x hx => ⟨hmay x hx, by
      obtain ⟨b, hb', rfl⟩ := List.mem_map.1 hx
      rcases insB_mem.1 hb' with e | e
      · obtain ⟨k, hk, e⟩ := List.getElem_of_mem e
        rw [← e]; exact (okL_may _ _ (binds_ok hb).2.1 k hk).2
      · rw [e]; exact hv⟩) (fun k hk => hriX k (k + 1) hk (by omega)) (fun _ _ => rfl)
    have hcr : crossL (stlL ⟨s, t⟩ (insB bs i ⟨s, t⟩)) (stlL ⟨s, t⟩ (insB bs i ⟨s, t⟩)) = false := crossL_of fun x hx => by
      obtain ⟨b, hb', rfl⟩ := List.mem_map.1 hx
      have hment : ∀ u : Tm, mentT bs u = false → mentT (stlL ⟨s, t⟩ (insB bs i ⟨s, t⟩)) (repT [⟨s, t⟩] u) = false := by
        intro u hu
        rw [mentT_congr hplX]
        exact ment_one hmt u hu
      rcases insB_mem.1 hb' with e | e
      · exact hment _ (binds_ment hb b e)
      · rw [e]
        show mentT _ (repT [⟨s, t⟩] t) = false
        rw [hidt, mentT_congr hplX]; exact hmt
    unfold bindsB
    rw [hok, hcr, hlen]
    simp; omega
  · have := plc_of hriX (i := i) (by have := hs.le; omega) (by rw [hXat])
    rw [bdOf_some (by have := hs.le; omega) this, hXat]
end Go.Proofs.Ytjmfjeeddnmoaaa

/- almagestlaw2.wakes. -/
namespace Go.Proofs.Ytjmfjeeddnmoaaa
open Go.RowKit

abbrev nmX : ByteArray := ⟨#[88]⟩
abbrev tm5 : Tm := ⟨2, ⟨#[]⟩, 5, []⟩
abbrev bdX : Bd := ⟨nmX, tm5⟩
theorem tm5_at (w : World) : TmAt w tm5 none 0 :=
  .mk tm5 none 0 (fun _ => none) (fun _ => 0) ⟨by decide, by decide, by decide, by decide⟩ (Nat.le_refl _) (fun i hi => absurd hi (by simp)) (fun i hi => absurd hi (by simp))
theorem wk_set : setB [] nmX tm5 = true := by decide +kernel
theorem wk_ok : okSet [] nmX tm5 0 = true := by decide +kernel
theorem wk_stl : stlL bdX (insB [] 0 bdX) = [bdX] := by kernel_rfl
theorem wk_ap : applyE [bdX] tmX = 0 := by decide +kernel
theorem wk_at : applyT [bdX] tmX = tm5 := by kernel_rfl

set_option maxRecDepth 100000 in
set_option maxHeartbeats 2000000 in
theorem wakes2_any (w : World) : Calls Try.prog 51 #[] w fun e w' => e = .returned (.bool true) ∧ Ext w w' := by
  have K1 : Hid (∀ u, Calls Try.prog 44 #[.slice none 0 0, .string nmX, tm5.val none 0] u fun e w' => ∃ A c, e = .returned (.tuple #[.slice A 1 c, .int .i64 0]) ∧ Hid (BdsAt w' [bdX] A) ∧ Ext u w') := Lib.hid fun u => by
    refine (Set_all [] nmX tm5 none none 0 0 u (by simp) (Nat.le_refl _) (BdsAt.nil _ _) (tm5_at u) (by decide)).mono ?_
    rintro e w' ⟨hx, hc⟩
    rcases hc with ⟨h, _⟩ | ⟨_, i, hS, hc⟩
    · rw [wk_set] at h; cases h
    · have hi : i = 0 := by have := hS.le; simpa using this
      subst hi
      rcases hc with ⟨_, A, c, B, d, G, rfl, _, hO⟩ | ⟨h, _⟩
      · exact ⟨A, c, rfl, Lib.hid (by have := hO.at_; rwa [wk_stl] at this), hx⟩
      · rw [wk_ok] at h; cases h
  have K2 : Hid (∀ u A c, Hid (BdsAt u [bdX] A) → Calls Try.prog 49 #[.slice A 1 c, tmX.val none 0] u fun e w' => ∃ A' c', e = .returned (.tuple #[tm5.val A' c', .int .i64 0]) ∧ Ext u w') := Lib.hid fun u A c hB => by
    refine (Apply_all [bdX] tmX A none c 0 u (by simp) hB.out (tmX_at u)).mono ?_
    rintro e w' ⟨A', c', rfl, _, hx⟩
    rw [wk_at, wk_ap]
    exact ⟨A', c', rfl, hx⟩
  go_enter Try.func51, Try.ntmps51
  go_wp2_with fail
  refine (K1.out _).mono ?_
  rintro e1 w1 ⟨A1, c1, rfl, hB1, hx1⟩
  go_wp2_with fail
  refine (K2.out _ A1 c1 hB1).mono ?_
  rintro e2 w2 ⟨A2, c2, rfl, hx2⟩
  go_wp2_with (go_at_call 40; refine (num2_any _ _).mono ?_; rintro e w' ⟨rfl, rfl⟩)
  go_ret
  exact ⟨rfl, (hx1.trans hx2).alloc _⟩
end Go.Proofs.Ytjmfjeeddnmoaaa

/- BindTwice: its callees as its walk meets them. -/
namespace Go.Proofs.Ytjmfjeeddnmoaaa
open Go.RowKit

theorem applyE_bd (bs : List Bd) (t : Tm) : 0 ≤ applyE bs t ∧ applyE bs t ≤ 2 := by unfold applyE; split <;> (try split) <;> omega
section
variable {bs : List Bd} {t : Tm} {LA A : Option Addr} {lc c : Nat} {wi : World}
def ApA (bs : List Bd) (t : Tm) (wi : World) (e : Ending) (w' : World) : Prop :=
  ∃ A1 c1, e = .returned (.tuple #[(applyT bs t).val A1 c1, .int .i64 (applyE bs t)]) ∧ Hid (TmOwn w' (applyT bs t) A1 c1 (fun k => wi.heap.size ≤ k ∧ k < w'.heap.size)) ∧ Ext wi w'
def ApB (bs : List Bd) (t : Tm) (wi : World) (e : Ending) (w' : World) : Prop :=
  ∃ A1 c1, e = .returned (.tuple #[(applyT bs t).val A1 c1, .int .i64 (applyE bs t)]) ∧ Hid (TmOwn w' (applyT bs t) A1 c1 (fun k => wi.heap.size + 1 ≤ k ∧ k < w'.heap.size)) ∧ Ext wi w' ∧ Box4 w' wi.heap.size (.int .i64 0) (.string ⟨#[]⟩) (.int .i64 0) (.slice none 0 0)
theorem ap_A (hl : bs.length ≤ 1000000) (hL : BdsAt wi bs LA) (h : TmAt wi t A c) (u : World) (hu : Ext wi u) :
    Calls Try.prog 49 #[.slice LA bs.length lc, t.val A c] u (ApA bs t wi) :=
  (Apply_all bs t LA A lc c u hl (hL.ext hu) (h.ext hu)).mono fun _ _ ⟨A1, c1, he, hO, hx⟩ => ⟨A1, c1, he, Lib.hid (hO.weak fun _ hk => ⟨Nat.le_trans hu.size hk.1, hk.2⟩), hu.trans hx⟩
theorem ap_B (hl : bs.length ≤ 1000000) (hL : BdsAt wi bs LA) (h : TmAt wi t A c) (u : World) (hu : Ext (wi.alloc zObj) u) :
    Calls Try.prog 49 #[.slice LA bs.length lc, t.val A c] u (ApB bs t wi) := by
  have hx0 : Ext wi u := ((Ext.refl _).alloc _).trans hu
  have hsz : wi.heap.size + 1 ≤ u.heap.size := by have := hu.size; simpa using this
  exact (Apply_all bs t LA A lc c u hl (hL.ext hx0) (h.ext hx0)).mono fun _ _ ⟨A1, c1, he, hO, hx⟩ => ⟨A1, c1, he, Lib.hid (hO.weak fun _ hk => ⟨Nat.le_trans hsz hk.1, hk.2⟩), hx0.trans hx, (Box4.new wi _ _ _ _).ext (hu.trans hx)⟩
/-- Set: binds, or an error -/
def SetP (s : ByteArray) (t : Tm) (wi : World) (e : Ending) (w' : World) : Prop :=
  ∃ (X : List Bd) (A : Option Addr) (c : Nat) (k : Int), e = .returned (.tuple #[.slice A X.length c, .int .i64 k]) ∧ Hid (BdsAt w' X A) ∧ X.length ≤ 17 ∧ 0 ≤ k ∧ k ≤ 2 ∧ Hid (k = 0 → bindsB X = true ∧ bdOf X s = some t) ∧ Ext wi w'
theorem set_P {s : ByteArray} (hs : s.size ≤ 140737488351232) (hl : bs.length ≤ 1000000) (hlc : bs.length ≤ lc) (hL : BdsAt wi bs LA) (h : TmAt wi t A c) (u : World) (hu : Ext wi u) :
    Calls Try.prog 44 #[.slice LA bs.length lc, .string s, t.val A c] u (SetP s t wi) := by
  refine (Set_all bs s t LA A lc c u hl hlc (hL.ext hu) (h.ext hu) hs).mono ?_
  rintro e w' ⟨hx, hc⟩
  rcases hc with ⟨_, rfl⟩ | ⟨hy, i, hS, ⟨ho, A', c', B, d, G, rfl, _, hO⟩ | ⟨_, rfl⟩⟩
  · exact ⟨[], none, 0, 1, rfl, Lib.hid (BdsAt.nil _ _), by simp, by omega, by omega, Lib.hid (fun h => absurd h (by omega)), hu.trans hx⟩
  · have hlen : (stlL ⟨s, t⟩ (insB bs i ⟨s, t⟩)).length = bs.length + 1 := by rw [stlL_len, insB_len _ _ _ hS.le]
    have hg := set_got hy hS ho
    refine ⟨stlL ⟨s, t⟩ (insB bs i ⟨s, t⟩), A', c', 0, by rw [hlen], Lib.hid hO.at_, ?_, by omega, by omega, Lib.hid fun _ => hg, hu.trans hx⟩
    have := (binds_ok hg.1).1
    omega
  · exact ⟨[], none, 0, 2, rfl, Lib.hid (BdsAt.nil _ _), by simp, by omega, by omega, Lib.hid (fun h => absurd h (by omega)), hu.trans hx⟩
end
/-- Join's answer -/
def joinE (aa bb : List Bd) : Int := if joinB aa bb = true then (match mergeL aa bb with | none => 3 | some us => if 16 < us.length then 2 else 0) else 1
def joinL (aa bb : List Bd) : List Bd := if joinB aa bb = true then (match mergeL aa bb with | none => [] | some us => if 16 < us.length then [] else us) else []
theorem joinE_bd (aa bb : List Bd) : 0 ≤ joinE aa bb ∧ joinE aa bb ≤ 3 := by unfold joinE; split <;> (try split) <;> (try split) <;> omega
theorem join_may {aa bb : List Bd} (h : joinB aa bb = true) : (∀ x ∈ aa, mayB x.tm = true) ∧ ∀ x ∈ bb, mayB x.tm = true := by
  unfold joinB at h
  simp only [Bool.and_eq_true] at h
  exact ⟨fun x hx => by obtain ⟨i, hi, e⟩ := List.getElem_of_mem hx; rw [← e]; exact binds_may h.1.1 i hi, fun x hx => by obtain ⟨i, hi, e⟩ := List.getElem_of_mem hx; rw [← e]; exact binds_may h.2.1 i hi⟩
theorem join_comm (aa bb : List Bd) : joinE aa bb = joinE bb aa ∧ joinL aa bb = joinL bb aa := by
  unfold joinE joinL
  rw [joinB_comm bb aa]
  by_cases h : joinB aa bb = true
  · have hm := join_may h
    rw [mergeL_comm _ aa bb (Nat.le_refl _) hm.1 hm.2]
    exact ⟨rfl, rfl⟩
  · rw [if_neg h, if_neg h, if_neg h, if_neg h]
    exact ⟨rfl, rfl⟩
theorem joinL_len (aa bb : List Bd) : (joinL aa bb).length ≤ 16 := by
  unfold joinL
  split
  · split
    · simp
    · split
      · simp
      · omega
  · simp
def JoinP (aa bb : List Bd) (wi : World) (e : Ending) (w' : World) : Prop :=
  ∃ A c, e = .returned (.tuple #[.slice A (joinL aa bb).length c, .int .i64 (joinE aa bb)]) ∧ Hid (BdsAt w' (joinL aa bb) A) ∧ Ext wi w'
theorem join_P {aa bb : List Bd} {A B : Option Addr} {ca cb : Nat} {wi : World} (hA : BdsAt wi aa A) (hB : BdsAt wi bb B) (hca : aa.length ≤ ca) (hcb : bb.length ≤ cb) (hla : aa.length ≤ 1000000) (hlb : bb.length ≤ 1000000) (u : World) (hu : Ext wi u) :
    Calls Try.prog 52 #[.slice A aa.length ca, .slice B bb.length cb] u (JoinP aa bb wi) := by
  refine (Join_any aa bb A B ca cb u (hA.ext hu) (hB.ext hu) hca hcb hla hlb).mono ?_
  rintro e w' ⟨hx, hc⟩
  unfold JoinP joinE joinL
  rcases hc with ⟨h, rfl⟩ | ⟨h, hm, rfl⟩ | ⟨us, h, hm, ⟨h16, rfl⟩ | ⟨h16, A', c', B', d, G, rfl, _, hO⟩⟩
  · rw [if_neg (by rw [h]; exact Bool.false_ne_true), if_neg (by rw [h]; exact Bool.false_ne_true)]
    exact ⟨none, 0, rfl, Lib.hid (BdsAt.nil _ _), hu.trans hx⟩
  · rw [if_pos h, if_pos h, hm]
    exact ⟨none, 0, rfl, Lib.hid (BdsAt.nil _ _), hu.trans hx⟩
  · rw [if_pos h, if_pos h, hm]
    simp only [if_pos h16]
    exact ⟨none, 0, rfl, Lib.hid (BdsAt.nil _ _), hu.trans hx⟩
  · rw [if_pos h, if_pos h, hm]
    simp only [if_neg (show ¬ 16 < us.length by omega)]
    exact ⟨A', c', rfl, Lib.hid hO.at_, hu.trans hx⟩
end Go.Proofs.Ytjmfjeeddnmoaaa
