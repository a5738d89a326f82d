/- The document's own size of a term, and which may be: almagestref1.size, Term; that it is the program's. -/
import Derived.Test.YthmpolifgngdiaaRa
namespace Go.Proofs.Ythmpolifgngdiaa
open Go.RowKit

mutual
/-- the page's size: more than 24 where it may not be -/
def sizeR : Tm → Nat → Int
  | ⟨k, s, n, l⟩, d => if plainB ⟨k, s, n, l⟩ = true then (if k = 3 then (if 0 < l.length ∧ d = 1 then 25 else sizeRL l (d - 1) 1) else 1) else 25
def sizeRL : List Tm → Nat → Int → Int
  | [], _, n => n
  | t :: ts, d, n => if n ≤ 24 then sizeRL ts d (n + sizeR t d) else n
end
theorem sizeR_eq (t : Tm) (d : Nat) : sizeR t d = if plainB t = true then (if t.kind = 3 then (if 0 < t.args.length ∧ d = 1 then 25 else sizeRL t.args (d - 1) 1) else 1) else 25 := by
  obtain ⟨k, s, n, l⟩ := t; rw [sizeR]

theorem sizeRL_le (d : Nat) (M : Int) (hM : 1 ≤ M) : ∀ (ts : List Tm) (n : Int), (∀ t ∈ ts, 1 ≤ sizeR t d ∧ sizeR t d ≤ M) → n ≤ sizeRL ts d n ∧ (sizeRL ts d n ≤ n ∨ sizeRL ts d n ≤ 24 + M)
  | [], n, _ => by simp [sizeRL]
  | t :: ts, n, h => by
    have ht := h t (by simp)
    by_cases hn : n ≤ 24
    · simp only [sizeRL, hn, if_true]
      have := sizeRL_le d M hM ts (n + sizeR t d) (fun x hx => h x (by simp [hx]))
      omega
    · simp [sizeRL, hn]
theorem sizeR_bd (hh : Nat) : ∀ (t : Tm) (d : Nat), t.high ≤ hh → 1 ≤ sizeR t d ∧ sizeR t d ≤ 25 * (hh + 1) := by
  induction hh with
  | zero => intro t d h; have := high_pos t; omega
  | succ hh ih =>
    intro t d h
    have hl : ∀ x ∈ t.args, 1 ≤ sizeR x (d - 1) ∧ sizeR x (d - 1) ≤ 25 * (hh + 1) := fun x hx => ih x _ (by
      have := high_le hx
      obtain ⟨k, s, n, l⟩ := t
      rw [Tm.high] at h
      simp only at this
      omega)
    have := sizeRL_le (d - 1) (25 * (hh + 1)) (by omega) t.args 1 hl
    rw [sizeR_eq]
    split
    · split
      · split <;> omega
      · omega
    · omega
theorem sizeR_pos (t : Tm) (d : Nat) : 1 ≤ sizeR t d := (sizeR_bd t.high t d (Nat.le_refl _)).1
theorem sizeRL_ge (d : Nat) : ∀ (ts : List Tm) (n : Int), n ≤ sizeRL ts d n
  | [], n => by simp [sizeRL]
  | t :: ts, n => by
    have h1 := sizeR_pos t d
    rw [sizeRL]
    split
    · have := sizeRL_ge d ts (n + sizeR t d); omega
    · omega

/-- the page's is the program's -/
theorem fits_ref : ∀ (d : Nat) (t : Tm) (L : Int), 1 ≤ d → 0 ≤ L → L ≤ 24 → ((fitsT t d L).1 = true ↔ sizeR t d ≤ L) ∧ ((fitsT t d L).1 = true → (fitsT t d L).2 = L - sizeR t d) := by
  have step : ∀ d : Nat, (∀ (t : Tm) (L : Int), 1 ≤ d → 0 ≤ L → L ≤ 24 → ((fitsT t d L).1 = true ↔ sizeR t d ≤ L) ∧ ((fitsT t d L).1 = true → (fitsT t d L).2 = L - sizeR t d)) →
      ∀ (ts : List Tm) (L n : Int), 1 ≤ d ∨ ts = [] → 0 ≤ L → n + L ≤ 24 → 0 ≤ n → ((fitsL ts d L).1 = true ↔ sizeRL ts d n ≤ n + L) ∧ ((fitsL ts d L).1 = true → (fitsL ts d L).2 = n + L - sizeRL ts d n) := by
    intro d h ts
    induction ts with
    | nil => intro L n _ hL _ _; simp [fitsL, sizeRL]; omega
    | cons t ts ih =>
      intro L n hd hL hn hn0
      have hd1 : 1 ≤ d := by rcases hd with h | h; exact h; cases h
      obtain ⟨h1, h2⟩ := h t L hd1 hL (by omega)
      have hn24 : n ≤ 24 := by omega
      rw [fitsL, sizeRL, if_pos hn24]
      by_cases ht : (fitsT t d L).1 = true
      · have e := h2 ht
        have hp := sizeR_pos t d
        have hle := h1.1 ht
        rw [if_pos ht]
        have := ih (fitsT t d L).2 (n + sizeR t d) (.inl hd1) (by omega) (by omega) (by omega)
        rw [e] at this ⊢
        have e2 : n + sizeR t d + (L - sizeR t d) = n + L := by omega
        rw [e2] at this
        exact this
      · rw [if_neg ht]
        have hgt : ¬ sizeR t d ≤ L := fun h => ht (h1.2 h)
        have := sizeRL_ge d ts (n + sizeR t d)
        exact ⟨⟨(fun h => nomatch h), fun h => by omega⟩, (fun h => nomatch h)⟩
  intro d
  induction d with
  | zero => intro t L h; omega
  | succ d ih =>
    intro t L _ hL hL2
    have hpos := sizeR_pos t (d + 1)
    obtain ⟨k, s, n, l⟩ := t
    by_cases h0 : L = 0
    · rw [fitsT, if_pos h0]
      exact ⟨⟨(fun h => nomatch h), fun h => by omega⟩, (fun h => nomatch h)⟩
    · by_cases hp : plainB ⟨k, s, n, l⟩ = true
      · rw [fitsT, if_neg h0, if_pos hp, sizeR, if_pos hp]
        by_cases k3 : k = 3
        · rw [if_pos k3]
          by_cases hc : 0 < l.length ∧ d + 1 = 1
          · rw [if_pos hc]
            have hd : d = 0 := by omega
            subst hd
            match l, hc with
            | a :: r, _ =>
              have e : fitsL (a :: r) 0 (L - 1) = (false, L - 1) := by
                obtain ⟨k', s', n', l'⟩ := a
                rw [fitsL, fitsT]; rfl
              rw [e]
              exact ⟨⟨(fun h => nomatch h), fun h => by omega⟩, (fun h => nomatch h)⟩
          · rw [if_neg hc]
            have hd : 1 ≤ d ∨ l = [] := by
              rcases Nat.eq_zero_or_pos d with h | h
              · right
                exact List.eq_nil_of_length_eq_zero (by omega)
              · exact .inl h
            have := step d ih l (L - 1) 1 hd (by omega) (by omega) (by omega)
            have e : 1 + (L - 1) = L := by omega
            rw [e] at this
            exact this
        · rw [if_neg k3]
          have hl : l = [] := by
            unfold plainB at hp
            simp only at hp
            split at hp
            · simp only [Bool.and_eq_true, beq_iff_eq] at hp; exact List.eq_nil_of_length_eq_zero (by omega)
            · split at hp
              · simp only [Bool.and_eq_true, beq_iff_eq] at hp; exact List.eq_nil_of_length_eq_zero (by omega)
              · split at hp
                · rename_i h; simp at h; exact absurd h k3
                · cases hp
          subst hl
          rw [fitsL]
          exact ⟨⟨fun _ => by omega, fun _ => rfl⟩, fun _ => rfl⟩
      · rw [fitsT, if_neg h0, if_neg hp, sizeR, if_neg hp]
        exact ⟨⟨(fun h => nomatch h), fun h => by omega⟩, (fun h => nomatch h)⟩
theorem may_ref (t : Tm) : mayB t = decide (sizeR t 5 ≤ 24) := by
  rw [Bool.eq_iff_iff, decide_eq_true_eq]
  exact (fits_ref 5 t 24 (by omega) (by omega) (by omega)).1
/-- the parts of a name's term that may be -/
theorem plain3 {t : Tm} (h : plainB t = true) (k3 : t.kind = 3) : wordB t.name 97 122 = true ∧ t.n = 0 ∧ (t.args.length : Int) ≤ 4 := by
  unfold plainB at h
  simp [k3] at h
  exact ⟨h.1.1, h.1.2, by omega⟩

set_option maxRecDepth 100000 in
set_option maxHeartbeats 4000000 in
theorem rsize_any (hh : Nat) : ∀ (D : Int) (d : Nat) (t : Tm) (A : Option Addr) (c : Nat) (w : World), Hid (D = d) → 1 ≤ d → d ≤ 5 → t.high ≤ hh → hh ≤ 1000000 → TmAt w t A c →
    Calls Try.prog 19 #[t.val A c, .int .i64 D] w fun e w' => e = .returned (.int .i64 (sizeR t d)) ∧ Ext w w' := by
  induction hh with
  | zero => intro D d t A c w _ _ _ h; have := high_pos t; omega
  | succ hh ih =>
    intro D d t A c w hD hd1 hd5 hh0 hh1 h
    have IH := Lib.hid ih
    clear ih
    have hs : t.name.size ≤ maxLen := by have := h.fits.name; unfold maxLen; omega
    have hl := h.fits.args
    have hD1 : 1 ≤ D := by have := hD.out; omega
    have hD5 : D ≤ 5 := by have := hD.out; omega
    have E := Lib.hid (sizeR_eq t d)
    by_cases hp : plainB t = true
    · by_cases k3 : t.kind = 3
      · obtain ⟨p1, p2, p3⟩ := plain3 hp k3
        have k1' : (t.kind == 1) = false := by simp [k3]
        have k2' : (t.kind == 2) = false := by simp [k3]
        have k3' : (t.kind == 3) = true := by simp [k3]
        have p2' : (t.n == 0) = true := by simp [p2]
        have p2'' : (t.n != 0) = false := by simp [p2]
        have p3' : decide ((4 : Int) < (t.args.length : Int)) = false := decide_eq_false (by omega)
        have E1 := Lib.hid (E.out.trans (by rw [if_pos hp, if_pos k3]))
        clear E hp k3 p2
        by_cases hc : 0 < t.args.length ∧ d = 1
        · have E2 := Lib.hid (E1.out.trans (if_pos hc))
          have hD' : (D == 1) = true := by have := hD.out; simp; omega
          have hpos : 0 < t.args.length := hc.1
          clear E1 hc
          go_enter Try.func19, Try.ntmps19
          go_wp2_with (go_at_call 30; refine (Name_any _ _ hs).mono ?_; rintro e w' ⟨rfl, rfl⟩)
          all_goals first
            | (exfalso; omega)
            | (go_ret; exact ⟨ret_int E2.out.symm, (Ext.refl _).alloc _⟩)
        · have E2 := Lib.hid (E1.out.trans (if_neg hc))
          have HC : Hid ((decide (0 < t.args.length) && (D == 1)) = false) := Lib.hid (by
            have := hD.out
            rcases Nat.eq_zero_or_pos t.args.length with h | h
            · simp [h]
            · have : ¬ D = 1 := fun e => hc ⟨h, by omega⟩
              simp [this])
          clear E1 hc
          have hor : (0 < t.args.length ∧ (D == 1) = false) ∨ decide (0 < t.args.length) = false := by
            rcases Nat.eq_zero_or_pos t.args.length with h | h
            · exact .inr (by simp [h])
            · exact .inl ⟨h, by have := HC.out; simpa [h] using this⟩
          clear HC
          rcases hor with ⟨hpos, hD'⟩ | hpos
          all_goals
            go_enter Try.func19, Try.ntmps19
            go_wp2_with (go_at_call 30; refine (Name_any _ _ hs).mono ?_; rintro e w' ⟨rfl, rfl⟩)
            go_loopw [5, 6] (fun m i wr => ∃ (k : Nat) (n : Int), k ≤ t.args.length ∧ 0 ≤ n ∧ n ≤ 1000000000 ∧ i = .int .i64 k ∧ m = .int .i64 n ∧ Hid (sizeRL (t.args.drop k) (d - 1) n = sizeR t d) ∧ Ext (boxT w t A c) wr) (fun _ i _ => t.args.length - (intOf i).toNat)
            case atStart => exact ⟨0, 1, Nat.zero_le _, by omega, by omega, rfl, rfl, Lib.hid E2.out.symm, Ext.refl _⟩
            case round =>
              obtain ⟨k, n, hk, hn0, hn1, rfl, rfl, H, hx⟩ := hrel
              have hbox : wr.cell? ⟨w.heap.size, 3, none⟩ = some (.slice A t.args.length c) := hx.cell (by go_simp)
              have hxw : Ext w wr := ((Ext.refl w).alloc _).trans hx
              by_cases hlt : k < t.args.length
              · obtain ⟨b, o, B, e, rfl, c0, c1, c2, c3, hsub⟩ := (h.ext hxw).args.at_ hlt
                have hb := high_lt hlt
                have hbd := sizeR_bd hh t.args[k] (d - 1) (by omega)
                have H2 : Hid ((if n ≤ 24 then sizeRL (t.args.drop (k + 1)) (d - 1) (n + sizeR t.args[k] (d - 1)) else n) = sizeR t d) := by
                  have := H.out
                  rw [List.drop_eq_getElem_cons hlt, sizeRL] at this
                  exact Lib.hid this
                have hd2 : 2 ≤ d := by
                  first
                    | (have h1 := hD.out; have h2 : ¬ D = 1 := by simpa using hD'
                       omega)
                    | (have h3 : ¬ 0 < t.args.length := by simpa using hpos
                       omega)
                clear H E2
                by_cases hn : n ≤ 24
                · go_wp2_with fail
                  refine (IH.out _ (d - 1) _ _ _ _ (Lib.hid (by have := hD.out; omega)) (by omega) (by omega) (by omega) (by omega) hsub).mono ?_
                  rintro e w1 ⟨rfl, hx1⟩
                  go_wp2_with fail
                  go_roundw
                  case rel => exact ⟨k + 1, n + sizeR t.args[k] (d - 1), by omega, by omega, by omega, by go_num, rfl, Lib.hid (by have := H2.out; rwa [if_pos (by omega)] at this), hx.trans hx1⟩
                  case measure => simp [intOf]; omega
                · have hn' : decide (n ≤ 24) = false := decide_eq_false hn
                  go_wp2_with fail
                  go_ret
                  exact ⟨ret_int (by have := H2.out; rwa [if_neg (by omega)] at this), hxw⟩
              · go_wp2_with fail
                go_ret
                exact ⟨ret_int (by have := H.out; rwa [List.drop_eq_nil_of_le (by omega), sizeRL] at this), hxw⟩
      · have E1 := Lib.hid (E.out.trans (by rw [if_pos hp, if_neg k3]))
        have k3' : (t.kind == 3) = false := by simpa using k3
        clear E
        by_cases k1 : t.kind = 1
        · have hq : wordB t.name 65 90 = true ∧ t.n = 0 ∧ t.args.length = 0 := by
            unfold plainB at hp; simp [k1] at hp; exact ⟨hp.1.1, hp.1.2, by simp [hp.2]⟩
          obtain ⟨p1, p2, p3⟩ := hq
          have k1' : (t.kind == 1) = true := by simp [k1]
          have p2' : (t.n == 0) = true := by simp [p2]
          have p3' : ((t.args.length : Int) == 0) = true := by simp [p3]
          clear hp k3 k1 p2 p3
          go_enter Try.func19, Try.ntmps19
          go_wp2_with (go_at_call 29; refine (Var_any _ _ hs).mono ?_; rintro e w' ⟨rfl, rfl⟩)
          all_goals first
            | (go_ret; exact ⟨ret_int E1.out.symm, (Ext.refl _).alloc _⟩)
            | (exfalso; simp_all; done)
        · have hq : t.kind = 2 ∧ t.name.toList.isEmpty = true ∧ inB t.n (-1073741824) 1073741824 = true ∧ t.args.length = 0 := by
            unfold plainB at hp
            by_cases k2 : t.kind = 2
            · simp [k2] at hp; exact ⟨k2, by simp [hp.1.1.1], by simp [inB]; omega, by simp [hp.2]⟩
            · simp [k1, k2, k3] at hp
          obtain ⟨k2, p1, p2, p3⟩ := hq
          have k1' : (t.kind == 1) = false := by simpa using k1
          have k2' : (t.kind == 2) = true := by simp [k2]
          have p3' : ((t.args.length : Int) == 0) = true := by simp [p3]
          clear hp k3 k1 p3 k2
          go_enter Try.func19, Try.ntmps19
          go_wp2_with (go_at_call 6; refine (between_any _ _ _ _).mono ?_; rintro e w' ⟨rfl, rfl⟩)
          all_goals first
            | (go_ret; exact ⟨ret_int E1.out.symm, (Ext.refl _).alloc _⟩)
            | (exfalso; simp_all; done)
    · have E1 := Lib.hid (E.out.trans (if_neg hp))
      have HP := Lib.hid (not_tr hp)
      clear E hp
      go_enter Try.func19, Try.ntmps19
      go_wp2_with (first
        | (go_at_call 30; refine (Name_any _ _ hs).mono ?_; rintro e w' ⟨rfl, rfl⟩)
        | (go_at_call 29; refine (Var_any _ _ hs).mono ?_; rintro e w' ⟨rfl, rfl⟩)
        | (go_at_call 6; refine (between_any _ _ _ _).mono ?_; rintro e w' ⟨rfl, rfl⟩))
      all_goals first
        | (go_ret; exact ⟨ret_int E1.out.symm, (Ext.refl _).alloc _⟩)
        | (exfalso; have hq := HP.out; clear HP E1 IH; unfold plainB at hq; simp_all [inB]; done)
        | (exfalso; have hq := HP.out; clear HP E1 IH; unfold plainB at hq; simp_all [inB]; omega)

theorem rTerm_any (t : Tm) (A : Option Addr) (c : Nat) (w : World) (h : TmAt w t A c) (hh : t.high ≤ 1000000) :
    Calls Try.prog 7 #[t.val A c] w fun e w' => e = .returned (.bool (mayB t)) ∧ Ext w w' := by
  have E := Lib.hid (may_ref t)
  go_enter Try.func7, Try.ntmps7
  go_wp2_with fail
  refine (rsize_any t.high 5 5 t A c _ (Lib.hid rfl) (by omega) (by omega) (Nat.le_refl _) hh (h.ext ((Ext.refl _).alloc _))).mono ?_
  rintro e w1 ⟨rfl, hx1⟩
  go_wp2_with fail
  go_ret
  exact ⟨ret_bool E.out.symm, ((Ext.refl _).alloc _).trans hx1⟩
end Go.Proofs.Ythmpolifgngdiaa
