/- Which terms may be: plain, fits, Check. -/
import Derived.Test.YthmpolifgngdiaaWa
namespace Go.Proofs.Ythmpolifgngdiaa
open Go.RowKit

/-- t's own fields -/
def plainB (t : Tm) : Bool :=
  if (t.kind == 1) = true then wordB t.name 65 90 && (t.n == 0) && ((t.args.length : Int) == 0)
  else if (t.kind == 2) = true then t.name.toList.isEmpty && decide (-1073741824 ≤ t.n) && decide (t.n ≤ 1073741824) && ((t.args.length : Int) == 0)
  else if (t.kind == 3) = true then wordB t.name 97 122 && (t.n == 0) && decide ((t.args.length : Int) ≤ 4)
  else false

set_option maxHeartbeats 1000000 in
theorem plain_any (t : Tm) (A : Option Addr) (c : Nat) (w : World) (hf : t.Fits) :
    Calls Try.prog 73 #[t.val A c] w fun e w' => e = .returned (.bool (plainB t)) ∧ Ext w w' := by
  have hs : t.name.size ≤ maxLen := by have := hf.name; unfold maxLen; omega
  go_enter Try.func73, Try.ntmps73
  go_wp2_with (go_at_call 78; refine (word_any _ _ _ _ hs).mono ?_; rintro e w' ⟨rfl, rfl⟩)
  all_goals go_ret
  all_goals refine ⟨ret_bool ?_, (Ext.refl _).alloc _⟩
  all_goals clear hs hf
  all_goals simp_all [plainB]
  all_goals omega

/-- block g is one number -/
def NumAt (w : World) (g : Nat) (L : Int) : Prop := w.heap[g]? = some (.cells #[.int .i64 L] 3 (0, 0))
/-- nothing that was there has turned, but for block g -/
def But (g : Nat) (w w' : World) : Prop := w.grownBy w' (some g)

theorem NumAt.lt {w : World} {g : Nat} {L : Int} (h : NumAt w g L) : g < w.heap.size := by
  rcases Nat.lt_or_ge g w.heap.size with hlt | hge
  · exact hlt
  · unfold NumAt at h; rw [Array.getElem?_eq_none hge] at h; cases h
theorem NumAt.cell {w : World} {g : Nat} {L : Int} (h : NumAt w g L) : w.cell? ⟨g, 0, none⟩ = some (.int .i64 L) := by
  unfold NumAt at h; simp [World.cell?, h]
theorem NumAt.only {w : World} {g o : Nat} {L : Int} {v : Value} (h : NumAt w g L) (hc : w.cell? ⟨g, o, none⟩ = some v) : o = 0 := by
  unfold NumAt at h
  cases o with
  | zero => rfl
  | succ o => simp [World.cell?, h] at hc
theorem NumAt.frozen {w : World} {g : Nat} {L : Int} (h : NumAt w g L) : w.frozen? ⟨g, 0, none⟩ = false := by
  unfold NumAt at h; simp [World.frozen?, h]
theorem NumAt.alloc {w : World} {g : Nat} {L : Int} (h : NumAt w g L) (o : Obj) : NumAt (w.alloc o) g L := (Below.heap_alloc w o g h.lt).trans h
theorem NumAt.ext {w w' : World} {g : Nat} {L : Int} (h : NumAt w g L) (k : Ext w w') : NumAt w' g L := (Below.block k g h.lt).trans h
theorem NumAt.set {w : World} {g : Nat} {L : Int} (h : NumAt w g L) (M : Int) : NumAt (w.setCell ⟨g, 0, none⟩ (.int .i64 M)) g M := by
  unfold NumAt at h ⊢
  simp [World.setCell, Array.getElem?_modify, h]
theorem NumAt.new (w : World) (o : Obj) (L : Int) : NumAt ((w.alloc o).alloc (.cells #[.int .i64 L] 3)) (w.heap.size + 1) L := by
  have h := heap_alloc_new (w.alloc o) (.cells #[.int .i64 L] 3)
  have e : (w.alloc o).heap.size = w.heap.size + 1 := by simp
  rw [e] at h
  exact h
theorem But.of_ext {g : Nat} {w w' : World} (h : Ext w w') : But g w w' := ⟨h.os, h.tape, h.output, h.size, fun i hi _ => h.block i hi⟩
theorem But.refl (g : Nat) (w : World) : But g w w := But.of_ext (Ext.refl w)
theorem But.trans {g : Nat} {a b c : World} (h : But g a b) (k : But g b c) : But g a c :=
  ⟨k.os.trans h.os, k.tape.trans h.tape, k.output.trans h.output, Nat.le_trans h.size k.size, fun i hi hne => (k.block i (Nat.lt_of_lt_of_le hi h.size) hne).trans (h.block i hi hne)⟩
theorem But.set (g : Nat) (w : World) (v : Value) : But g w (w.setCell ⟨g, 0, none⟩ v) :=
  ⟨rfl, rfl, rfl, by simp [World.setCell], fun i _ hne => Below.heap_setCell w _ v i (fun e => hne (by rw [e]))⟩
theorem But.cell {g : Nat} {w w' : World} (h : But g w w') {p : Addr} {v : Value} (hc : w.cell? p = some v) (hne : p.block ≠ g) : w'.cell? p = some v :=
  (World.cell?_of_block (w := w) (h.block p.block (World.block_lt_of_cell? w _ hc) (fun e => hne (by injection e)))).trans hc
/-- the blocks from w's end on are the call's own -/
theorem But.ext_of {g : Nat} {w w1 w' : World} (h : Ext w w1) (k : But g w1 w') (hg : w.heap.size ≤ g) : Ext w w' :=
  ⟨k.os.trans h.os, k.tape.trans h.tape, k.output.trans h.output, Nat.le_trans h.size k.size,
    fun i hi => (k.block i (Nat.lt_of_lt_of_le hi h.size) (fun e => by injection e with e; omega)).trans (h.block i hi)⟩
theorem RowAt.but {g : Nat} {L : Int} {w w' : World} {ts : List Tm} {A : Option Addr} {f : Nat → Option Addr} {d : Nat → Nat} (h : RowAt w ts A f d) (hn : NumAt w g L) (k : But g w w') : RowAt w' ts A f d := by
  intro i hi
  obtain ⟨b, o, e, h0, h1, h2, h3⟩ := h i hi
  have hb : b ≠ g := by
    rintro rfl
    have := hn.only h1
    omega
  exact ⟨b, o, e, k.cell h0 hb, k.cell h1 hb, k.cell h2 hb, k.cell h3 hb⟩
theorem TmAt.but {g : Nat} {L : Int} {w w' : World} {t : Tm} {A : Option Addr} {c : Nat} (h : TmAt w t A c) (hn : NumAt w g L) (k : But g w w') : TmAt w' t A c := by
  induction h with
  | mk t A c f d fits cap row sub ih => exact .mk t A c f d fits cap (row.but hn k) ih

mutual
/-- may it be, with so much depth and size left; what is left then -/
def fitsT : Tm → Nat → Int → Bool × Int
  | ⟨_, _, _, _⟩, 0, L => (false, L)
  | ⟨k, s, n, l⟩, d + 1, L => if L = 0 then (false, L) else if plainB ⟨k, s, n, l⟩ = true then fitsL l d (L - 1) else (false, L)
def fitsL : List Tm → Nat → Int → Bool × Int
  | [], _, L => (true, L)
  | t :: ts, d, L => if (fitsT t d L).1 = true then fitsL ts d (fitsT t d L).2 else (false, (fitsT t d L).2)
end

theorem fits_bd (d : Nat) : (∀ (t : Tm) (L : Int), 0 ≤ L → 0 ≤ (fitsT t d L).2 ∧ (fitsT t d L).2 ≤ L) ∧ ∀ (ts : List Tm) (L : Int), 0 ≤ L → 0 ≤ (fitsL ts d L).2 ∧ (fitsL ts d L).2 ≤ L := by
  have step : ∀ d : Nat, (∀ (t : Tm) (L : Int), 0 ≤ L → 0 ≤ (fitsT t d L).2 ∧ (fitsT t d L).2 ≤ L) → ∀ (ts : List Tm) (L : Int), 0 ≤ L → 0 ≤ (fitsL ts d L).2 ∧ (fitsL ts d L).2 ≤ L := by
    intro d h ts
    induction ts with
    | nil => intro L hL; simp [fitsL, hL]
    | cons t ts ih =>
      intro L hL
      have h1 := h t L hL
      have h2 := ih (fitsT t d L).2 h1.1
      unfold fitsL
      split
      · omega
      · exact h1
  induction d with
  | zero => exact ⟨fun t L hL => by obtain ⟨k, s, n, l⟩ := t; simp [fitsT, hL], step 0 (fun t L hL => by obtain ⟨k, s, n, l⟩ := t; simp [fitsT, hL])⟩
  | succ d ih =>
    have h : ∀ (t : Tm) (L : Int), 0 ≤ L → 0 ≤ (fitsT t (d + 1) L).2 ∧ (fitsT t (d + 1) L).2 ≤ L := by
      intro t L hL
      obtain ⟨k, s, n, l⟩ := t
      unfold fitsT
      split
      · exact ⟨hL, Int.le_refl _⟩
      · split
        · have := ih.2 l (L - 1) (by omega); omega
        · exact ⟨hL, Int.le_refl _⟩
    exact ⟨h, step (d + 1) h⟩

set_option maxHeartbeats 1000000 in
theorem fits_any (d : Nat) : ∀ (D L : Int) (t : Tm) (A : Option Addr) (c g : Nat) (w : World), Hid (D = d) → d ≤ 5 → 0 ≤ L → L ≤ 24 → TmAt w t A c → NumAt w g L →
    Calls Try.prog 63 #[t.val A c, .int .i64 D, .pointer (some ⟨g, 0, none⟩)] w fun e w' => e = .returned (.bool (fitsT t d L).1) ∧ NumAt w' g (fitsT t d L).2 ∧ But g w w' := by
  induction d with
  | zero =>
    intro D L t A c g w hD _ hL0 hL1 h hn
    obtain rfl : D = 0 := hD.out
    have H : Hid (fitsT t 0 L = (false, L)) := Lib.hid (by obtain ⟨k, s, n, l⟩ := t; rfl)
    have HN := Lib.hid hn
    clear hn
    go_enter Try.func63, Try.ntmps63
    go_wp2_with fail
    go_ret
    exact ⟨by rw [H.out]; rfl, by rw [H.out]; exact HN.out.alloc _, But.of_ext ((Ext.refl _).alloc _)⟩
  | succ d ih =>
    intro D L t A c g w hD hd hL0 hL1 h hn
    have IH := Lib.hid ih
    have HN := Lib.hid hn
    have hD1 : 1 ≤ D := by have := hD.out; omega
    have hD2 : D ≤ 5 := by have := hD.out; omega
    have hz : (D == 0) = false := beq_eq_false_iff_ne.2 (by omega)
    have hf := h.fits
    have hl := hf.args
    have hg := hn.lt
    have hcell := hn.cell
    have hfro := hn.frozen
    clear ih hn
    by_cases hL : L = 0
    · subst hL
      have H : Hid (fitsT t (d + 1) 0 = (false, 0)) := Lib.hid (by obtain ⟨k, s, n, l⟩ := t; rfl)
      go_enter Try.func63, Try.ntmps63
      go_wp2_with fail
      go_ret
      exact ⟨by rw [H.out]; rfl, by rw [H.out]; exact HN.out.alloc _, But.of_ext ((Ext.refl _).alloc _)⟩
    · have hLz : (L == 0) = false := beq_eq_false_iff_ne.2 hL
      by_cases hp : plainB t = true
      · have H : Hid (fitsL t.args d (L - 1) = fitsT t (d + 1) L) := Lib.hid (by obtain ⟨k, s, n, l⟩ := t; rw [fitsT, if_neg hL, if_pos hp])
        go_enter Try.func63, Try.ntmps63
        go_wp2_with fail
        refine (plain_any t A c _ hf).mono ?_
        rintro e w1 ⟨rfl, hx1⟩
        have hn1 : NumAt w1 g L := (HN.out.alloc _).ext hx1
        have hcell1 := hn1.cell
        have hfro1 := hn1.frozen
        have HN1 := Lib.hid hn1
        clear hn1
        have hbox : w1.cell? ⟨w.heap.size, 3, none⟩ = some (.slice A t.args.length c) := hx1.cell (by go_simp)
        go_wp2_with fail
        go_loopw [30] (fun i wr => ∃ (k : Nat) (M : Int), k ≤ t.args.length ∧ 0 ≤ M ∧ M ≤ 24 ∧ i = .int .i64 k ∧ NumAt wr g M ∧ But g w wr ∧ Hid (fitsL (t.args.drop k) d M = fitsT t (d + 1) L)) (fun i _ => t.args.length - (intOf i).toNat)
        case atStart => exact ⟨0, L - 1, Nat.zero_le _, by omega, by omega, rfl, HN1.out.set _, (But.of_ext (((Ext.refl _).alloc _).trans hx1)).trans (But.set _ _ _), H⟩
        case round =>
          obtain ⟨k, M, hk, hM0, hM1, rfl, hnr, hbr, Hr⟩ := hrel
          by_cases hlt : k < t.args.length
          · obtain ⟨b, o, B, e, rfl, c0, c1, c2, c3, hsub⟩ := (h.but HN.out hbr).args.at_ hlt
            have hbd := (fits_bd d).1 t.args[k] M hM0
            have H2 : Hid ((if (fitsT t.args[k] d M).1 = true then fitsL (t.args.drop (k + 1)) d (fitsT t.args[k] d M).2 else (false, (fitsT t.args[k] d M).2)) = fitsT t (d + 1) L) := by
              have := Hr.out
              rw [List.drop_eq_getElem_cons hlt, fitsL] at this
              exact Lib.hid this
            clear Hr H
            go_wp2_with fail
            refine (IH.out _ M _ _ _ _ _ (Lib.hid (by have := hD.out; omega)) (by omega) hM0 hM1 (hsub.ext ((Ext.refl _).alloc _)) (hnr.alloc _)).mono ?_
            rintro e w2 ⟨rfl, hn2, hb2⟩
            have hb3 := hbr.trans ((But.of_ext ((Ext.refl _).alloc _)).trans hb2)
            by_cases hr : (fitsT t.args[k] d M).1 = true
            · go_wp2_with fail
              go_roundw
              case rel => exact ⟨k + 1, (fitsT t.args[k] d M).2, by omega, by omega, by omega, by go_num, hn2, hb3, Lib.hid (by have := H2.out; rwa [if_pos hr] at this)⟩
              case measure => simp [intOf]; omega
            · have hr' : (fitsT t.args[k] d M).1 = false := by simpa using hr
              have H3 : Hid ((false, (fitsT t.args[k] d M).2) = fitsT t (d + 1) L) := Lib.hid (by have := H2.out; rwa [if_neg hr] at this)
              clear hr
              go_wp2_with fail
              go_ret
              exact ⟨by rw [← H3.out]; rfl, by rw [← H3.out]; exact hn2, hb3⟩
          · have H3 : Hid ((true, M) = fitsT t (d + 1) L) := Lib.hid (by have := Hr.out; rwa [List.drop_eq_nil_of_le (by omega), fitsL] at this)
            go_wp2_with fail
            go_ret
            exact ⟨by rw [← H3.out]; rfl, by rw [← H3.out]; exact hnr, hbr⟩
      · have hp' : plainB t = false := by simpa using hp
        have H : Hid (fitsT t (d + 1) L = (false, L)) := Lib.hid (by obtain ⟨k, s, n, l⟩ := t; rw [fitsT, if_neg hL, if_neg hp])
        clear hp
        go_enter Try.func63, Try.ntmps63
        go_wp2_with fail
        refine (plain_any t A c _ hf).mono ?_
        rintro e w1 ⟨rfl, hx1⟩
        go_wp2_with fail
        go_ret
        exact ⟨by rw [H.out]; rfl, by rw [H.out]; exact (HN.out.alloc _).ext hx1, But.of_ext (((Ext.refl _).alloc _).trans hx1)⟩
/-- may it be? -/
def mayB (t : Tm) : Bool := (fitsT t 5 24).1

theorem check_fits (t : Tm) (A : Option Addr) (c : Nat) (w : World) (h : TmAt w t A c) (W : World) (g : Nat) (hx : Ext w W) (hg : w.heap.size ≤ g) (hn : NumAt W g 24) :
    Calls Try.prog 63 #[t.val A c, .int .i64 5, .pointer (some ⟨g, 0, none⟩)] W fun e w' => e = .returned (.bool (mayB t)) ∧ Ext w w' :=
  (fits_any 5 5 24 t A c g W (Lib.hid rfl) (by omega) (by omega) (by omega) (h.ext hx) hn).mono fun e w' ⟨he, _, hb⟩ => ⟨he, But.ext_of hx hb hg⟩

theorem check_yes (t : Tm) (A : Option Addr) (c : Nat) (w : World) (h : TmAt w t A c) (hr : mayB t = true) :
    Calls Try.prog 53 #[t.val A c] w fun e w' => e = .returned (.int .i64 0) ∧ Ext w w' := by
  go_enter Try.func53, Try.ntmps53
  go_wp2_with fail
  refine (check_fits t A c w h _ (w.heap.size + 1) (((Ext.refl w).alloc _).alloc _) (by omega) (NumAt.new w _ 24)).mono ?_
  rintro e w1 ⟨rfl, hx1⟩
  go_wp2_with fail
  go_ret
  exact ⟨rfl, hx1⟩
theorem check_no (t : Tm) (A : Option Addr) (c : Nat) (w : World) (h : TmAt w t A c) (hr : mayB t = false) :
    Calls Try.prog 53 #[t.val A c] w fun e w' => e = .returned (.int .i64 1) ∧ Ext w w' := by
  go_enter Try.func53, Try.ntmps53
  go_wp2_with fail
  refine (check_fits t A c w h _ (w.heap.size + 1) (((Ext.refl w).alloc _).alloc _) (by omega) (NumAt.new w _ 24)).mono ?_
  rintro e w1 ⟨rfl, hx1⟩
  go_wp2_with fail
  go_ret
  exact ⟨rfl, hx1⟩
end Go.Proofs.Ythmpolifgngdiaa
