/- term.Rename: longest, and the whole. -/
import Derived.Test.YtjmfjeeddnmoaaaRen
import Derived.Test.YtjmfjeeddnmoaaaRren
namespace Go.Proofs.Ytjmfjeeddnmoaaa
open Go.RowKit

mutual
def longT : Tm → Int
  | ⟨k, m, _, l⟩ => if (k == 1) = true then m.size else longL l 0
def longL : List Tm → Int → Int
  | [], m => m
  | t :: ts, m => longL ts (max m (longT t))
end
theorem longT_eq (t : Tm) : longT t = if (t.kind == 1) = true then (t.name.size : Int) else longL t.args 0 := by obtain ⟨k, m, n, l⟩ := t; rw [longT]
theorem longL_bd : ∀ (ts : List Tm) (m : Int), 0 ≤ m → m ≤ 16 → (∀ t ∈ ts, 0 ≤ longT t ∧ longT t ≤ 16) → m ≤ longL ts m ∧ longL ts m ≤ 16
  | [], m, h0, h1, _ => by simp [longL]; omega
  | t :: ts, m, h0, h1, hb => by
    have := hb t (by simp)
    have := longL_bd ts (max m (longT t)) (by omega) (by omega) (fun x hx => hb x (by simp [hx]))
    rw [longL]; omega
theorem long_bd (hh : Nat) : ∀ t : Tm, t.high ≤ hh → shortT t → 0 ≤ longT t ∧ longT t ≤ 16 := by
  induction hh with
  | zero => intro t h; have := high_pos t; omega
  | succ hh ih =>
    intro t h hs
    have hn := hs.name
    rw [longT_eq]
    split
    · omega
    · exact (longL_bd t.args 0 (by omega) (by omega) (fun x hx => ih x (by have := high_le hx; have := highs_eq t; omega) (shortL_mem hs.args hx))).imp (fun h => h) (fun h => h)

set_option maxHeartbeats 1000000 in
theorem longest_any (hh : Nat) : ∀ (t : Tm) (A : Option Addr) (c : Nat) (w : World), t.high ≤ hh → shortT t → TmAt w t A c →
    Calls Try.prog 79 #[t.val A c] w fun e w' => e = .returned (.int .i64 (longT t)) ∧ Ext w w' := by
  induction hh with
  | zero => intro t A c w h0; have := high_pos t; omega
  | succ hh ih =>
    intro t A c w hh0 hsh h
    have IH := Lib.hid ih
    clear ih
    have hl := h.fits.args
    have hn := hsh.name
    have E := Lib.hid (longT_eq t)
    by_cases hk1 : (t.kind == 1) = true
    · have E1 := Lib.hid (E.out.trans (if_pos hk1))
      go_enter Try.func79, Try.ntmps79
      go_wp2_with fail
      go_ret
      exact ⟨ret_int E1.out.symm, (Ext.refl _).alloc _⟩
    · have E1 := Lib.hid (E.out.trans (if_neg hk1))
      have hk1' := not_true hk1
      clear hk1 E
      go_enter Try.func79, Try.ntmps79
      go_wp2_with fail
      go_loopw [3, 15] (fun m i wr => ∃ (k : Nat) (n : Int), k ≤ t.args.length ∧ i = .int .i64 k ∧ m = .int .i64 n ∧ Hid (longL (t.args.drop k) n = longT t) ∧ Ext (boxT w t A c) wr) (fun _ i _ => t.args.length - (intOf i).toNat)
      case atStart => exact ⟨0, _, Nat.zero_le _, rfl, rfl, Lib.hid E1.out.symm, Ext.refl _⟩
      case round =>
        obtain ⟨k, n, hk, rfl, rfl, H, hx⟩ := hrel
        have hxw : Ext w wr := ((Ext.refl w).alloc _).trans hx
        by_cases hlt : k < t.args.length
        · obtain ⟨b, o, B, e, rfl, c0, c1, c2, c3, hsub⟩ := (h.ext hxw).args.at_ hlt
          have hb := high_lt hlt
          have H2 : Hid (longL (t.args.drop (k + 1)) (max n (longT t.args[k])) = longT t) := by
            have := H.out
            rw [List.drop_eq_getElem_cons hlt, longL] at this
            exact Lib.hid this
          clear H E1
          go_wp2_with fail
          refine (IH.out _ _ _ _ (by omega) (shortL_mem hsh.args (List.getElem_mem hlt)) (hsub.ext ((Ext.refl _).alloc _))).mono ?_
          rintro e w1 ⟨rfl, hx1⟩
          go_wp2_with fail
          go_roundw
          case rel => exact ⟨k + 1, max n (longT t.args[k]), by omega, by go_num, by rw [max_if], H2, hx.trans (((Ext.refl _).alloc _).trans hx1)⟩
          case measure => simp [intOf]; omega
        · go_wp2_with fail
          go_ret
          exact ⟨ret_int (by have := H.out; rwa [List.drop_eq_nil_of_le (by omega), longL] at this), hxw⟩

/-! a name too long: the page's and the program's way -/
def condS (s : ByteArray) (m : Int) : Prop := m = 0 ∨ (s.size : Int) + m ≤ 16
theorem condS_max {s : ByteArray} {a b : Int} (ha : 0 ≤ a) (hb : 0 ≤ b) : condS s (max a b) ↔ condS s a ∧ condS s b := by unfold condS; omega
theorem longL_of (s : ByteArray) : ∀ (ts : List Tm) (m : Int), 0 ≤ m → (∀ t ∈ ts, 0 ≤ longT t ∧ (groundT t = true ↔ longT t = 0) ∧ (okR s t = true ↔ condS s (longT t))) →
    0 ≤ longL ts m ∧ ((groundL ts = true ∧ m = 0) ↔ longL ts m = 0) ∧ ((okRL s ts = true ∧ condS s m) ↔ condS s (longL ts m))
  | [], m, hm, _ => by simp [longL, groundL, okRL, hm]
  | t :: ts, m, hm, h => by
    obtain ⟨h1, h2, h3⟩ := h t (by simp)
    obtain ⟨i1, i2, i3⟩ := longL_of s ts (max m (longT t)) (by omega) (fun x hx => h x (by simp [hx]))
    rw [longL, groundL, okRL, Bool.and_eq_true, Bool.and_eq_true, ← i2, ← i3, condS_max hm h1, h2, h3]
    refine ⟨i1, ?_, ?_⟩
    · constructor
      · rintro ⟨⟨a, b⟩, c⟩; exact ⟨b, by omega⟩
      · rintro ⟨a, b⟩; exact ⟨⟨by omega, a⟩, by omega⟩
    · constructor
      · rintro ⟨⟨a, b⟩, c⟩; exact ⟨b, c, a⟩
      · rintro ⟨a, b, c⟩; exact ⟨⟨c, a⟩, b⟩
theorem long_of (s : ByteArray) (hh : Nat) : ∀ t : Tm, t.high ≤ hh → allP t → 0 ≤ longT t ∧ (groundT t = true ↔ longT t = 0) ∧ (okR s t = true ↔ condS s (longT t)) := by
  induction hh with
  | zero => intro t h; have := high_pos t; omega
  | succ hh ih =>
    intro t h hp
    have hl := longL_of s t.args 0 (by omega) (fun x hx => ih x (by have := high_le hx; have := highs_eq t; omega) (allPs_mem hp.args hx))
    have hg : groundT t = (groundL t.args && (t.kind != 1)) := by obtain ⟨k, m, n, l⟩ := t; rw [groundT]
    rw [longT_eq, okR_eq, hg]
    by_cases hk : (t.kind == 1) = true
    · have hk' : t.kind = 1 := by simpa using hk
      have hq := hp.plain
      unfold plainB at hq
      rw [if_pos hk] at hq
      simp [wordB] at hq
      rw [if_pos hk, if_pos hk]
      refine ⟨by omega, ?_, ?_⟩
      · constructor
        · intro h; simp [hk'] at h
        · intro h; omega
      · rw [decide_eq_true_eq]; unfold condS; omega
    · have hk' : ¬ t.kind = 1 := by simpa using hk
      rw [if_neg hk, if_neg hk]
      refine ⟨hl.1, ?_, ?_⟩
      · rw [← hl.2.1]; simp [hk']
      · rw [← hl.2.2]; simp [condS]
/-- the program's test for 'too long' is the page's -/
theorem too_long (s : ByteArray) {t : Tm} (hp : allP t) : okR s t = !(!groundT t && decide (16 - longT t < (s.size : Int))) := by
  obtain ⟨h1, h2, h3⟩ := long_of s t.high t (Nat.le_refl _) hp
  rw [Bool.eq_iff_iff, h3]
  unfold condS
  by_cases hg : groundT t = true
  · simp [hg, h2.1 hg]
  · have hz : ¬ longT t = 0 := fun e => hg (h2.2 e)
    rw [not_true hg]
    simp [hz]
    omega

/-! the whole -/
abbrev zeroTm : Value := .agg #[.int .i64 0, .string ⟨#[]⟩, .int .i64 0, .slice none 0 0]

set_option maxRecDepth 100000 in
set_option maxHeartbeats 1000000 in
theorem Rename_form (t : Tm) (s : ByteArray) (A : Option Addr) (c : Nat) (w : World) (h : TmAt w t A c) (hs : s.size ≤ 100000) (hr : mayB t = false ∨ tailB s = false) :
    Calls Try.prog 33 #[t.val A c, .string s] w fun e w' => e = .returned (.tuple #[zeroTm, .int .i64 1]) ∧ Ext w w' := by
  have hs' : s.size ≤ maxLen := by unfold maxLen; omega
  by_cases hm : mayB t = true
  · have ht : tailB s = false := by rcases hr with e | e; rw [hm] at e; cases e; exact e
    have R := Lib.hid hm
    clear hr hm
    go_enter Try.func33, Try.ntmps33
    go_wp2_with fail
    refine (check_yes t A c _ (h.ext (((Ext.refl _).alloc _).alloc _)) R.out).mono ?_
    rintro e w1 ⟨rfl, hx1⟩
    obtain ⟨r0, r1, r2, r3, g0, g1, g2, g3⟩ : Box4 w1 (w.heap.size + 1) (.int .i64 0) (.string ⟨#[]⟩) (.int .i64 0) (.slice none 0 0) := Box4.ext ⟨by go_simp, by go_simp, by go_simp, by go_simp, by go_simp, by go_simp, by go_simp, by go_simp⟩ hx1
    go_wp2_with (go_at_call 78; refine (tail_any _ _ hs').mono ?_; rintro e w' ⟨rfl, rfl⟩)
    refine bodyPost_ret (v := .tuple #[zeroTm, .int .i64 1]) (by simp [results, Try.results33, go_sem, *]) rfl ⟨rfl, ?_⟩
    exact Chg.ext_of ((((Ext.refl w).alloc _).alloc _).trans hx1) (set4_chg w1 (w.heap.size + 1) 0 _ _ _ _ (F := fun x => x = w.heap.size + 1) rfl) (fun b hb => by omega)
  · have R := Lib.hid (not_true hm)
    clear hr hm
    go_enter Try.func33, Try.ntmps33
    go_wp2_with fail
    refine (check_no t A c _ (h.ext (((Ext.refl _).alloc _).alloc _)) R.out).mono ?_
    rintro e w1 ⟨rfl, hx1⟩
    obtain ⟨r0, r1, r2, r3, g0, g1, g2, g3⟩ : Box4 w1 (w.heap.size + 1) (.int .i64 0) (.string ⟨#[]⟩) (.int .i64 0) (.slice none 0 0) := Box4.ext ⟨by go_simp, by go_simp, by go_simp, by go_simp, by go_simp, by go_simp, by go_simp, by go_simp⟩ hx1
    go_wp2_with fail
    refine bodyPost_ret (v := .tuple #[zeroTm, .int .i64 1]) (by simp [results, Try.results33, go_sem, *]) rfl ⟨rfl, ?_⟩
    exact Chg.ext_of ((((Ext.refl w).alloc _).alloc _).trans hx1) (set4_chg w1 (w.heap.size + 1) 0 _ _ _ _ (F := fun x => x = w.heap.size + 1) rfl) (fun b hb => by omega)

/-- what Rename tells of what may be -/
def Renamed (s : ByteArray) (t : Tm) (w : World) (e : Ending) (w' : World) : Prop :=
  Ext w w' ∧ ((okR s t = true ∧ ∃ A c, e = .returned (.tuple #[(renT s t).val A c, .int .i64 0]) ∧ TmOwn w' (renT s t) A c (fun k => w.heap.size ≤ k ∧ k < w'.heap.size)) ∨
    (okR s t = false ∧ e = .returned (.tuple #[zeroTm, .int .i64 2])))

set_option maxRecDepth 100000 in
set_option maxHeartbeats 4000000 in
theorem Rename_may (t : Tm) (s : ByteArray) (A : Option Addr) (c : Nat) (w : World) (h : TmAt w t A c) (hs : s.size ≤ 100000) (hm : mayB t = true) (ht : tailB s = true) :
    Calls Try.prog 33 #[t.val A c, .string s] w (Renamed s t w) := by
  have hs' : s.size ≤ maxLen := by unfold maxLen; omega
  have R := Lib.hid hm
  have hsh := may_short hm
  have hh := may_high hm
  have hlb := long_bd t.high t (Nat.le_refl _) hsh
  have TL := Lib.hid (too_long s (may_all hm))
  clear hm
  go_enter Try.func33, Try.ntmps33
  go_wp2_with fail
  refine (check_yes t A c _ (h.ext (((Ext.refl _).alloc _).alloc _)) R.out).mono ?_
  rintro e w1 ⟨rfl, hx1⟩
  have hx01 := (((Ext.refl w).alloc _).alloc _).trans hx1
  have HR : Hid (Box4 w1 (w.heap.size + 1) (.int .i64 0) (.string ⟨#[]⟩) (.int .i64 0) (.slice none 0 0)) := Lib.hid (Box4.ext ⟨by go_simp, by go_simp, by go_simp, by go_simp, by go_simp, by go_simp, by go_simp, by go_simp⟩ hx1)
  have HT : Hid (Box4 w1 w.heap.size (.int .i64 t.kind) (.string t.name) (.int .i64 t.n) (.slice A t.args.length c)) := Lib.hid (Box4.ext ⟨by go_simp, by go_simp, by go_simp, by go_simp, by go_simp, by go_simp, by go_simp, by go_simp⟩ hx1)
  obtain ⟨b0, b1, b2, b3, _, _, _, _⟩ := HT.out
  go_wp2_with (go_at_call 78; refine (tail_any _ _ hs').mono ?_; rintro e w' ⟨rfl, rfl⟩)
  refine (ground_any 5 t A c _ hh (h.ext hx01)).mono ?_
  rintro e w2 ⟨rfl, hx2⟩
  have hx02 := hx01.trans hx2
  have HR2 := Lib.hid (HR.out.ext hx2)
  have HT2 := Lib.hid (HT.out.ext hx2)
  clear b0 b1 b2 b3 HR HT
  obtain ⟨b0, b1, b2, b3, _, _, _, _⟩ := HT2.out
  by_cases hg : groundT t = true
  · have OK1 : Hid (okR s t = true) := Lib.hid (by rw [TL.out, hg]; rfl)
    go_wp2_with fail
    refine (renamed_any 5 t s A c _ hh hsh hs (h.ext hx02)).mono ?_
    rintro e w3 ⟨A', c', rfl, hO, hx3⟩
    obtain ⟨r0, r1, r2, r3, g0, g1, g2, g3⟩ := HR2.out.ext hx3
    have hsz := hx02.size
    have lr := HR2.out.lt
    have HO := Lib.hid hO
    clear hO
    go_wp2_with fail
    refine bodyPost_ret (v := .tuple #[(renT s t).val A' c', .int .i64 0]) (by simp [results, Try.results33, go_sem, *]) rfl ⟨Chg.ext_of (hx02.trans hx3) (set4_chg w3 (w.heap.size + 1) 0 _ _ _ _ (F := fun x => x = w.heap.size + 1) rfl) (fun b hb => by omega), .inl ⟨OK1.out, A', c', rfl, HO.out.answer (r := w.heap.size + 1) (B := w.heap.size) _ _ _ _ (by omega) (by omega) rfl⟩⟩
  · have hg' := not_true hg
    clear hg
    go_wp2_with fail
    refine (longest_any 5 t A c _ hh hsh (h.ext hx02)).mono ?_
    rintro e w3 ⟨rfl, hx3⟩
    have hx03 := hx02.trans hx3
    have HR3 := Lib.hid (HR2.out.ext hx3)
    have HT3 := Lib.hid (HT2.out.ext hx3)
    clear b0 b1 b2 b3 HR2 HT2
    obtain ⟨b0, b1, b2, b3, _, _, _, _⟩ := HT3.out
    by_cases hlim : 16 - longT t < (s.size : Int)
    · have OK1 : Hid (okR s t = false) := Lib.hid (by rw [TL.out, hg']; simp [hlim])
      have hd : decide (16 - longT t < (s.size : Int)) = true := decide_eq_true hlim
      obtain ⟨r0, r1, r2, r3, g0, g1, g2, g3⟩ := HR3.out
      clear TL
      go_wp2_with fail
      refine bodyPost_ret (v := .tuple #[zeroTm, .int .i64 2]) (by simp [results, Try.results33, go_sem, *]) rfl ⟨Chg.ext_of hx03 (set4_chg w3 (w.heap.size + 1) 0 _ _ _ _ (F := fun x => x = w.heap.size + 1) rfl) (fun b hb => by omega), .inr ⟨OK1.out, rfl⟩⟩
    · have OK1 : Hid (okR s t = true) := Lib.hid (by rw [TL.out, hg']; simp [hlim])
      have hd : decide (16 - longT t < (s.size : Int)) = false := decide_eq_false hlim
      clear TL hlim
      go_wp2_with fail
      refine (renamed_any 5 t s A c _ hh hsh hs (h.ext hx03)).mono ?_
      rintro e w4 ⟨A', c', rfl, hO, hx4⟩
      obtain ⟨r0, r1, r2, r3, g0, g1, g2, g3⟩ := HR3.out.ext hx4
      have hsz := hx03.size
      have lr := HR3.out.lt
      have HO := Lib.hid hO
      clear hO
      go_wp2_with fail
      refine bodyPost_ret (v := .tuple #[(renT s t).val A' c', .int .i64 0]) (by simp [results, Try.results33, go_sem, *]) rfl ⟨Chg.ext_of (hx03.trans hx4) (set4_chg w4 (w.heap.size + 1) 0 _ _ _ _ (F := fun x => x = w.heap.size + 1) rfl) (fun b hb => by omega), .inl ⟨OK1.out, A', c', rfl, HO.out.answer (r := w.heap.size + 1) (B := w.heap.size) _ _ _ _ (by omega) (by omega) rfl⟩⟩
end Go.Proofs.Ytjmfjeeddnmoaaa
