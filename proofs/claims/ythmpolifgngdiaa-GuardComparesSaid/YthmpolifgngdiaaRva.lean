/- almagestref1.Vars, Ground, Atom; term.Vars: the variables of a term. -/
import Derived.Test.YthmpolifgngdiaaRnm
namespace Go.Proofs.Ythmpolifgngdiaa
open Go.RowKit Go.Maps

theorem vars_sub (hh : Nat) : ∀ t : Tm, t.high ≤ hh → (∀ s ∈ varsT t, s ∈ occ t) ∧ (varsT t).length ≤ (occ t).length := by
  have step : ∀ hh : Nat, (∀ t : Tm, t.high ≤ hh → (∀ s ∈ varsT t, s ∈ occ t) ∧ (varsT t).length ≤ (occ t).length) →
      ∀ (ts : List Tm) (acc : List ByteArray), highs ts ≤ hh → (∀ s ∈ varsL ts acc, s ∈ acc ∨ s ∈ occL ts) ∧ (varsL ts acc).length ≤ acc.length + (occL ts).length := by
    intro hh h ts
    induction ts with
    | nil => intro acc _; exact ⟨fun s hs => .inl hs, by simp [varsL]⟩
    | cons t ts ih =>
      intro acc hn
      simp only [highs] at hn
      obtain ⟨r1, r2⟩ := h t (by omega)
      obtain ⟨q1, q2⟩ := ih (namesN acc (varsT t)) (by omega)
      have h3 := namesN_len (varsT t) acc
      rw [varsL, occL]
      refine ⟨fun s hs => ?_, by rw [List.length_append]; omega⟩
      rcases q1 s hs with e | e
      · rcases namesN_mem.1 e with e | e
        · exact .inl e
        · exact .inr (List.mem_append_left _ (r1 s e))
      · exact .inr (List.mem_append_right _ e)
  induction hh with
  | zero => intro t h; have := high_pos t; omega
  | succ hh ih =>
    intro t ht
    rw [varsT_eq, occ_eq]
    obtain ⟨k, s, n, l⟩ := t
    simp only [Tm.high] at ht
    by_cases hk : k = 1
    · simp [hk]
    · have hk' : ¬ (k == 1) = true := by simpa using hk
      simp only [hk, if_false, if_neg hk', List.nil_append]
      obtain ⟨q1, q2⟩ := step hh ih l [] (by omega)
      exact ⟨fun s hs => (q1 s hs).resolve_left (by simp), by simpa using q2⟩
theorem TmAt.names {w : World} {t : Tm} {A : Option Addr} {c : Nat} (h : TmAt w t A c) : ∀ s ∈ occ t, s.size ≤ 140737488351232 := by
  induction h with
  | mk t A c g d fits cap row sub ih =>
    have each : ∀ ts : List Tm, (∀ i (h : i < ts.length), ∀ s ∈ occ ts[i], s.size ≤ 140737488351232) → ∀ s ∈ occL ts, s.size ≤ 140737488351232 := by
      intro ts
      induction ts with
      | nil => intro _ s hs; simp [occL] at hs
      | cons a r ihr =>
        intro h s hs
        rw [occL, List.mem_append] at hs
        rcases hs with e | e
        · exact h 0 (by simp) s e
        · exact ihr (fun i hi => by have := h (i + 1) (by simpa using hi); simpa using this) s e
    intro s hs
    rw [occ_eq, List.mem_append] at hs
    rcases hs with e | e
    · split at e
      · simp at e; subst e; exact fits.name
      · simp at e
    · exact each t.args ih s e

theorem own_box {w : World} {base : Nat} (s : ByteArray) (hb : base ≤ w.heap.size) : (w.alloc (.cells #[.string s] 9)).ownsRow base 9 1 (.slice (some ⟨w.heap.size, 0, none⟩) 1 1) 1 (strCells [s]) :=
  ⟨rfl, .inr ⟨w.heap.size, 1, #[.string s], rfl, hb, heap_alloc_new w _, Nat.le_refl _, by simp [maxLen], rfl, rfl⟩⟩

set_option maxRecDepth 100000 in
set_option maxHeartbeats 2000000 in
theorem rVars_any (hh : Nat) : ∀ (t : Tm) (A : Option Addr) (c : Nat) (w : World), t.high ≤ hh → (occ t).length ≤ 1000000 → TmAt w t A c →
    Calls Try.prog 20 #[t.val A c] w (StrsCopied (varsT t) w) := by
  induction hh with
  | zero => intro t A c w h0; have := high_pos t; omega
  | succ hh ih =>
    intro t A c w hh0 hoc h
    have IH := Lib.hid ih
    clear ih
    have hl := h.fits.args
    have E := Lib.hid (varsT_eq t)
    have hx0 : Ext w (boxT w t A c) := (Ext.refl w).alloc _
    by_cases hk : (t.kind == 1) = true
    · have HF : Hid (StrsCopied (varsT t) w (.returned (.slice (some ⟨w.heap.size + 1, 0, none⟩) 1 1)) ((boxT w t A c).alloc (.cells #[.string t.name] 9))) := Lib.hid (by
        rw [E.out, if_pos hk]
        refine ⟨_, rfl, ?_, hx0.alloc _⟩
        have := own_box (w := boxT w t A c) (base := w.heap.size) t.name (by simp)
        simpa using this)
      clear E
      go_enter Try.func20, Try.ntmps20
      go_wp2_with fail
      go_ret
      exact HF.out
    · have hk' := not_tr hk
      have E2 : Hid (varsL t.args [] = varsT t) := Lib.hid (by rw [E.out, if_neg hk])
      have hoc2 : (occL t.args).length ≤ 1000000 := by have := occ_eq t; rw [this, List.length_append] at hoc; omega
      have HN := Lib.hid h.names
      clear E hk
      go_enter Try.func20, Try.ntmps20
      go_wp2_with fail
      go_loopw [3, 4] (fun v i wr => ∃ (k : Nat) (l : List ByteArray), k ≤ t.args.length ∧ i = .int .i64 k ∧ Hid (varsL (t.args.drop k) l = varsT t) ∧ l.length + (occL (t.args.drop k)).length ≤ 1000000 ∧ Hid (∀ s ∈ l, s.size ≤ 140737488351232) ∧ wr.ownsRow w.heap.size 9 1 v l.length (strCells l) ∧ Ext (boxT w t A c) wr) (fun _ i _ => t.args.length - (intOf i).toNat)
      case atStart => exact ⟨0, [], Nat.zero_le _, rfl, E2, by simpa using hoc2, Lib.hid (fun s hs => by simp at hs), World.ownsRow_nil _ _ _ _, Ext.refl _⟩
      case round =>
        obtain ⟨k, l, hkl, rfl, H, hll, ZL, hown, hx⟩ := hrel
        have hxw : Ext w wr := hx0.trans hx
        have hbox : wr.cell? ⟨w.heap.size, 3, none⟩ = some (.slice A t.args.length c) := hx.cell (by go_simp)
        by_cases hlt : k < t.args.length
        · obtain ⟨b, o, B, e, rfl, c0, c1, c2, c3, hsub⟩ := (h.ext hxw).args.at_ hlt
          have hb := high_lt hlt
          have eo : occL (t.args.drop k) = occ t.args[k] ++ occL (t.args.drop (k + 1)) := by rw [List.drop_eq_getElem_cons hlt, occL]
          have hlo : l.length + (occ t.args[k]).length + (occL (t.args.drop (k + 1))).length ≤ 1000000 := by rw [eo, List.length_append] at hll; omega
          have H2 : Hid (varsL (t.args.drop (k + 1)) (namesN l (varsT t.args[k])) = varsT t) := by
            have := H.out
            rw [List.drop_eq_getElem_cons hlt, varsL] at this
            exact Lib.hid this
          obtain ⟨hsb, hsl⟩ := vars_sub t.args[k].high t.args[k] (Nat.le_refl _)
          have ZV : Hid (∀ s ∈ varsT t.args[k], s.size ≤ 140737488351232) := Lib.hid fun s hs => hsub.names s (hsb s hs)
          have HM : Hid (∀ s ∈ namesN l (varsT t.args[k]), s.size ≤ 140737488351232) := Lib.hid fun s hs => by
            rcases namesN_mem.1 hs with e | e
            · exact ZL.out s e
            · exact ZV.out s e
          have hnl := namesN_len (varsT t.args[k]) l
          obtain ⟨AL, cl, rfl, hS, hcl, _⟩ := owned_strs2 hown ZL.out
          clear H eo hsb E2
          go_wp2_with fail
          refine (IH.out _ _ _ _ (by omega) (by omega) hsub).mono ?_
          rintro e1 w1 ⟨v1, rfl, hown1, hx1⟩
          obtain ⟨AV, cv, rfl, hSV, hcv, _⟩ := owned_strs2 hown1 ZV.out
          go_wp2_with fail
          refine (rNames_any l (varsT t.args[k]) AL AV cl cv _ (hS.ext hx1) hSV (by omega)).mono ?_
          rintro e2 w2 ⟨v2, rfl, hown2, hx2⟩
          have hown3 := ownsRow_base hown2 (Nat.le_trans hxw.size hx1.size)
          clear hown hown1 hown2
          go_wp2_with fail
          go_roundw
          case rel => exact ⟨k + 1, _, by omega, by go_num, H2, by omega, HM, hown3, (hx.trans hx1).trans hx2⟩
          case measure => simp [intOf]; omega
        · have e : l = varsT t := by have := H.out; rwa [List.drop_eq_nil_of_le (by omega), varsL] at this
          subst e
          have HF : Hid (StrsCopied (varsT t) w (.returned u3) wr) := Lib.hid ⟨_, rfl, hown, hxw⟩
          clear hown
          go_wp2_with fail
          go_ret
          exact HF.out

theorem rGround_any (t : Tm) (A : Option Addr) (c : Nat) (w : World) (h : TmAt w t A c) (hr : mayB t = true) :
    Calls Try.prog 8 #[t.val A c] w fun e w' => e = .returned (.bool (groundT t)) ∧ Ext w w' := by
  have E := Lib.hid (ground_vars hr)
  have hoc := may_occ hr
  have ZV : Hid (∀ s ∈ varsT t, s.size ≤ 140737488351232) := Lib.hid fun s hs => h.names s ((vars_sub t.high t (Nat.le_refl _)).1 s hs)
  clear hr
  go_enter Try.func8, Try.ntmps8
  go_wp2_with fail
  refine (rVars_any t.high t A c _ (Nat.le_refl _) (by omega) (h.ext ((Ext.refl _).alloc _))).mono ?_
  rintro e1 w1 ⟨v1, rfl, hown1, hx1⟩
  obtain ⟨AV, cv, rfl, hSV, hcv, _⟩ := owned_strs2 hown1 ZV.out
  clear hown1
  go_wp2_with fail
  go_ret
  exact ⟨ret_bool E.out, ((Ext.refl _).alloc _).trans hx1⟩

end Go.Proofs.Ythmpolifgngdiaa
