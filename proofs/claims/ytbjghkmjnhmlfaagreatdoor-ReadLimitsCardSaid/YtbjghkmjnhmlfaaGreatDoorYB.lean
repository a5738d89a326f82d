/- Joined: Wa, Wc, Wdr, Wi. -/
import Derived.Test.YtbjghkmjnhmlfaaGreatDoorYA
import Derived.WalkSpells
import Derived.Lib.Hide
import Derived.Deep.QuietTactic
import Derived.BigQuiet
import Derived.BigGuardPart
import Derived.StillTailTactics

/- The small contracts of package term: within, tail, word: what each answers, the world left as it was. -/
namespace Go.Proofs.YtbjghkmjnhmlfaaGreatDoor
open Go.RowKit

/-- from b to c -/
def inB (a b c : Int) : Bool := decide (b ≤ a ∧ a ≤ c)

theorem within_any (a b c : Int) (w : World) :
    Calls Tryz.prog 123 #[.int .u8 a, .int .u8 b, .int .u8 c] w fun e w' => e = .returned (.bool (inB a b c)) ∧ w = w' := by
  by_cases h : b ≤ a
  · go_enter Tryz.func123, Tryz.ntmps123
    go_wp2
    go_ret
    exact ⟨by simp [inB, h], rfl⟩
  · have h' : inB a b c = false := by simp [inB, h]
    have H := Lib.hid h'
    clear h'
    go_enter Tryz.func123, Tryz.ntmps123
    go_wp2
    go_ret
    exact ⟨by rw [H.out]; rfl, rfl⟩

/-- letters, digits and the low line -/
def chB (c : UInt8) : Bool := inB c.toNat 97 122 || inB c.toNat 65 90 || inB c.toNat 48 57 || (c.toNat : Int) == 95
def tailB (s : ByteArray) : Bool := s.data.toList.all chB

theorem chB_no {c : UInt8} (h1 : inB c.toNat 97 122 = false) (h2 : inB c.toNat 65 90 = false) (h3 : inB c.toNat 48 57 = false) (h4 : ((c.toNat : Int) != 95) = true) : chB c = false := by
  have h5 : ((c.toNat : Int) == 95) = false := by simpa using h4
  simp only [chB, h1, h2, h3, h5, Bool.or_false]

theorem drop_cons (s : ByteArray) (k : Nat) (h : k < s.size) : s.data.toList.drop k = s[k] :: s.data.toList.drop (k + 1) := by
  rw [List.drop_eq_getElem_cons (by simpa using h)]; rfl

set_option maxHeartbeats 400000 in
theorem tail_any (s : ByteArray) (w : World) (hs : s.size ≤ maxLen) :
    Calls Tryz.prog 124 #[.string s] w fun e w' => e = .returned (.bool (tailB s)) ∧ w = w' := by
  unfold maxLen at hs
  go_enter Tryz.func124, Tryz.ntmps124
  go_wp2
  go_loop [7] (fun i => ∃ k : Nat, k ≤ s.size ∧ i = .int .i64 k ∧ Hid ((s.data.toList.drop k).all chB = tailB s)) (fun i => s.size - (intOf i).toNat)
  case atStart => exact ⟨0, Nat.zero_le _, rfl, Lib.hid rfl⟩
  case round =>
    obtain ⟨k, hk, rfl, H⟩ := hrel
    by_cases hlt : k < s.size
    · have hdc := drop_cons s k hlt
      have H2 : Hid ((chB s[k] && (s.data.toList.drop (k + 1)).all chB) = tailB s) := by
        have := H.out; rw [hdc] at this; exact Lib.hid (by simpa using this)
      clear hdc H
      go_wp2_with (go_at_call 123; refine (within_any _ _ _ _).mono ?_; rintro e w' ⟨rfl, rfl⟩)
      · go_ret
        exact ⟨ret_bool (by rw [← H2.out, chB_no ‹_› ‹_› ‹_› ‹_›]; rfl), rfl⟩
      all_goals
        go_round
        case rel => exact ⟨k + 1, by omega, by go_num, Lib.hid (by rw [← H2.out]; simp_all [chB])⟩
        case measure => simp [intOf]; omega
    · go_wp2
      go_ret
      refine ⟨?_, rfl⟩
      rw [← H.out, List.drop_eq_nil_of_le (by simpa using hlt)]
      rfl

/-- a name: its first letter, how long it is, the rest -/
def wordB (s : ByteArray) (lo hi : Int) : Bool := decide (0 < s.size) && decide (s.size ≤ 16) && inB (s.data.toList.headD 0).toNat lo hi && tailB s

theorem head_of (s : ByteArray) (h : 0 < s.size) : s.data.toList.headD 0 = s[0] := by
  have := drop_cons s 0 h
  rw [List.drop_zero] at this
  rw [this]; rfl

set_option maxHeartbeats 400000 in
theorem word_any (s : ByteArray) (lo hi : Int) (w : World) (hs : s.size ≤ maxLen) :
    Calls Tryz.prog 120 #[.string s, .int .u8 lo, .int .u8 hi] w fun e w' => e = .returned (.bool (wordB s lo hi)) ∧ w = w' := by
  have hs' : s.size ≤ 9223372036854775807 := by unfold maxLen at hs; omega
  by_cases h0 : 0 < s.size
  · have h0' : decide ((0 : Int) < (s.size : Int)) = true := by simp; omega
    have hh := Lib.hid (head_of s h0)
    by_cases h1 : s.size ≤ 16
    · have h1' : decide ((s.size : Int) ≤ 16) = true := by simp; omega
      by_cases h2 : inB s[0].toNat lo hi = true
      · have hw : wordB s lo hi = tailB s := by unfold wordB; rw [hh.out]; simp [h0, h1, h2]
        have H := Lib.hid hw
        clear hw
        go_enter Tryz.func120, Tryz.ntmps120
        go_wp2_with (first
          | (go_at_call 123; refine (within_any _ _ _ _).mono ?_; rintro e w' ⟨rfl, rfl⟩)
          | (go_at_call 124; refine (tail_any _ _ hs).mono ?_; rintro e w' ⟨rfl, rfl⟩))
        go_ret
        exact ⟨by rw [H.out]; rfl, rfl⟩
      · have h2' : inB s[0].toNat lo hi = false := by simpa using h2
        have hw : wordB s lo hi = false := by unfold wordB; rw [hh.out]; simp [h2']
        have H := Lib.hid hw
        clear hw h2
        go_enter Tryz.func120, Tryz.ntmps120
        go_wp2_with (go_at_call 123; refine (within_any _ _ _ _).mono ?_; rintro e w' ⟨rfl, rfl⟩)
        go_ret
        exact ⟨by rw [H.out]; rfl, rfl⟩
    · have h1' : decide ((s.size : Int) ≤ 16) = false := by simp; omega
      have hw : wordB s lo hi = false := by simp [wordB, h1]
      have H := Lib.hid hw
      clear hw h1
      go_enter Tryz.func120, Tryz.ntmps120
      go_wp2
      go_ret
      exact ⟨by rw [H.out]; rfl, rfl⟩
  · have hw : wordB s lo hi = false := by simp [wordB, h0]
    have H := Lib.hid hw
    have h0' : decide (0 < s.size) = false := decide_eq_false h0
    clear hw h0
    go_enter Tryz.func120, Tryz.ntmps120
    go_wp2
    go_ret
    exact ⟨by rw [H.out]; rfl, rfl⟩
end Go.Proofs.YtbjghkmjnhmlfaaGreatDoor

/- Which terms may be: plain, fits, Check. -/
namespace Go.Proofs.YtbjghkmjnhmlfaaGreatDoor
open Go.RowKit

/-- t's own fields -/
def plainB (t : Tm) : Bool :=
  if (t.kind == 1) = true then wordB t.name 65 90 && (t.n == 0) && ((t.args.length : Int) == 0)
  else if (t.kind == 2) = true then t.name.toList.isEmpty && decide (-1073741824 ≤ t.n) && decide (t.n ≤ 1073741824) && ((t.args.length : Int) == 0)
  else if (t.kind == 3) = true then wordB t.name 97 122 && (t.n == 0) && decide ((t.args.length : Int) ≤ 4)
  else false

set_option maxHeartbeats 1000000 in
theorem plain_any (t : Tm) (A : Option Addr) (c : Nat) (w : World) (hf : t.Fits) :
    Calls Tryz.prog 111 #[t.val A c] w fun e w' => e = .returned (.bool (plainB t)) ∧ Ext w w' := by
  have hs : t.name.size ≤ maxLen := by have := hf.name; unfold maxLen; omega
  go_enter Tryz.func111, Tryz.ntmps111
  go_wp2_with (go_at_call 120; refine (word_any _ _ _ _ hs).mono ?_; rintro e w' ⟨rfl, rfl⟩)
  all_goals go_ret
  all_goals refine ⟨ret_bool ?_, (Ext.refl _).alloc _⟩
  all_goals clear hs hf
  all_goals simp_all [plainB]
  all_goals omega

/-- block g is one number -/
def NumAt (w : World) (g : Nat) (L : Int) : Prop := w.heap[g]? = some (.cells #[.int .i64 L] 3 (0, 0))
/-- nothing that was there has turned, but for block g -/
def But (g : Nat) (w w' : World) : Prop := w.grownBy w' (some g)

theorem NumAt.lt {w : World} {g : Nat} {L : Int} (h : NumAt w g L) : g < w.heap.size := by
  rcases Nat.lt_or_ge g w.heap.size with hlt | hge
  · exact hlt
  · unfold NumAt at h; rw [Array.getElem?_eq_none hge] at h; cases h
theorem NumAt.cell {w : World} {g : Nat} {L : Int} (h : NumAt w g L) : w.cell? ⟨g, 0, none⟩ = some (.int .i64 L) := by
  unfold NumAt at h; simp [World.cell?, h]
theorem NumAt.only {w : World} {g o : Nat} {L : Int} {v : Value} (h : NumAt w g L) (hc : w.cell? ⟨g, o, none⟩ = some v) : o = 0 := by
  unfold NumAt at h
  cases o with
  | zero => rfl
  | succ o => simp [World.cell?, h] at hc
theorem NumAt.frozen {w : World} {g : Nat} {L : Int} (h : NumAt w g L) : w.frozen? ⟨g, 0, none⟩ = false := by
  unfold NumAt at h; simp [World.frozen?, h]
theorem NumAt.alloc {w : World} {g : Nat} {L : Int} (h : NumAt w g L) (o : Obj) : NumAt (w.alloc o) g L := (Below.heap_alloc w o g h.lt).trans h
theorem NumAt.ext {w w' : World} {g : Nat} {L : Int} (h : NumAt w g L) (k : Ext w w') : NumAt w' g L := (Below.block k g h.lt).trans h
theorem NumAt.set {w : World} {g : Nat} {L : Int} (h : NumAt w g L) (M : Int) : NumAt (w.setCell ⟨g, 0, none⟩ (.int .i64 M)) g M := by
  unfold NumAt at h ⊢
  simp [World.setCell, Array.getElem?_modify, h]
theorem NumAt.new (w : World) (o : Obj) (L : Int) : NumAt ((w.alloc o).alloc (.cells #[.int .i64 L] 3)) (w.heap.size + 1) L := by
  have h := heap_alloc_new (w.alloc o) (.cells #[.int .i64 L] 3)
  have e : (w.alloc o).heap.size = w.heap.size + 1 := by simp
  rw [e] at h
  exact h
theorem But.of_ext {g : Nat} {w w' : World} (h : Ext w w') : But g w w' := ⟨h.os, h.tape, h.output, h.size, fun i hi _ => h.block i hi⟩
theorem But.refl (g : Nat) (w : World) : But g w w := But.of_ext (Ext.refl w)
theorem But.trans {g : Nat} {a b c : World} (h : But g a b) (k : But g b c) : But g a c :=
  ⟨k.os.trans h.os, k.tape.trans h.tape, k.output.trans h.output, Nat.le_trans h.size k.size, fun i hi hne => (k.block i (Nat.lt_of_lt_of_le hi h.size) hne).trans (h.block i hi hne)⟩
theorem But.set (g : Nat) (w : World) (v : Value) : But g w (w.setCell ⟨g, 0, none⟩ v) :=
  ⟨rfl, rfl, rfl, by simp [World.setCell], fun i _ hne => Below.heap_setCell w _ v i (fun e => hne (by rw [e]))⟩
theorem But.cell {g : Nat} {w w' : World} (h : But g w w') {p : Addr} {v : Value} (hc : w.cell? p = some v) (hne : p.block ≠ g) : w'.cell? p = some v :=
  (World.cell?_of_block (w := w) (h.block p.block (World.block_lt_of_cell? w _ hc) (fun e => hne (by injection e)))).trans hc
/-- the blocks from w's end on are the call's own -/
theorem But.ext_of {g : Nat} {w w1 w' : World} (h : Ext w w1) (k : But g w1 w') (hg : w.heap.size ≤ g) : Ext w w' :=
  ⟨k.os.trans h.os, k.tape.trans h.tape, k.output.trans h.output, Nat.le_trans h.size k.size,
    fun i hi => (k.block i (Nat.lt_of_lt_of_le hi h.size) (fun e => by injection e with e; omega)).trans (h.block i hi)⟩
theorem RowAt.but {g : Nat} {L : Int} {w w' : World} {ts : List Tm} {A : Option Addr} {f : Nat → Option Addr} {d : Nat → Nat} (h : RowAt w ts A f d) (hn : NumAt w g L) (k : But g w w') : RowAt w' ts A f d := by
  intro i hi
  obtain ⟨b, o, e, h0, h1, h2, h3⟩ := h i hi
  have hb : b ≠ g := by
    rintro rfl
    have := hn.only h1
    omega
  exact ⟨b, o, e, k.cell h0 hb, k.cell h1 hb, k.cell h2 hb, k.cell h3 hb⟩
theorem TmAt.but {g : Nat} {L : Int} {w w' : World} {t : Tm} {A : Option Addr} {c : Nat} (h : TmAt w t A c) (hn : NumAt w g L) (k : But g w w') : TmAt w' t A c := by
  induction h with
  | mk t A c f d fits cap row sub ih => exact .mk t A c f d fits cap (row.but hn k) ih

mutual
/-- may it be, with so much depth and size left; what is left then -/
def fitsT : Tm → Nat → Int → Bool × Int
  | ⟨_, _, _, _⟩, 0, L => (false, L)
  | ⟨k, s, n, l⟩, d + 1, L => if L = 0 then (false, L) else if plainB ⟨k, s, n, l⟩ = true then fitsL l d (L - 1) else (false, L)
def fitsL : List Tm → Nat → Int → Bool × Int
  | [], _, L => (true, L)
  | t :: ts, d, L => if (fitsT t d L).1 = true then fitsL ts d (fitsT t d L).2 else (false, (fitsT t d L).2)
end

theorem fits_bd (d : Nat) : (∀ (t : Tm) (L : Int), 0 ≤ L → 0 ≤ (fitsT t d L).2 ∧ (fitsT t d L).2 ≤ L) ∧ ∀ (ts : List Tm) (L : Int), 0 ≤ L → 0 ≤ (fitsL ts d L).2 ∧ (fitsL ts d L).2 ≤ L := by
  have step : ∀ d : Nat, (∀ (t : Tm) (L : Int), 0 ≤ L → 0 ≤ (fitsT t d L).2 ∧ (fitsT t d L).2 ≤ L) → ∀ (ts : List Tm) (L : Int), 0 ≤ L → 0 ≤ (fitsL ts d L).2 ∧ (fitsL ts d L).2 ≤ L := by
    intro d h ts
    induction ts with
    | nil => intro L hL; simp [fitsL, hL]
    | cons t ts ih =>
      intro L hL
      have h1 := h t L hL
      have h2 := ih (fitsT t d L).2 h1.1
      unfold fitsL
      split
      · omega
      · exact h1
  induction d with
  | zero => exact ⟨fun t L hL => by obtain ⟨k, s, n, l⟩ := t; simp [fitsT, hL], step 0 (fun t L hL => by obtain ⟨k, s, n, l⟩ := t; simp [fitsT, hL])⟩
  | succ d ih =>
    have h : ∀ (t : Tm) (L : Int), 0 ≤ L → 0 ≤ (fitsT t (d + 1) L).2 ∧ (fitsT t (d + 1) L).2 ≤ L := by
      intro t L hL
      obtain ⟨k, s, n, l⟩ := t
      unfold fitsT
      split
      · exact ⟨hL, Int.le_refl _⟩
      · split
        · have := ih.2 l (L - 1) (by omega); omega
        · exact ⟨hL, Int.le_refl _⟩
    exact ⟨h, step (d + 1) h⟩

set_option maxHeartbeats 1000000 in
theorem fits_any (d : Nat) : ∀ (D L : Int) (t : Tm) (A : Option Addr) (c g : Nat) (w : World), Hid (D = d) → d ≤ 5 → 0 ≤ L → L ≤ 24 → TmAt w t A c → NumAt w g L →
    Calls Tryz.prog 96 #[t.val A c, .int .i64 D, .pointer (some ⟨g, 0, none⟩)] w fun e w' => e = .returned (.bool (fitsT t d L).1) ∧ NumAt w' g (fitsT t d L).2 ∧ But g w w' := by
  induction d with
  | zero =>
    intro D L t A c g w hD _ hL0 hL1 h hn
    obtain rfl : D = 0 := hD.out
    have H : Hid (fitsT t 0 L = (false, L)) := Lib.hid (by obtain ⟨k, s, n, l⟩ := t; rfl)
    have HN := Lib.hid hn
    clear hn
    go_enter Tryz.func96, Tryz.ntmps96
    go_wp2_with fail
    go_ret
    exact ⟨by rw [H.out]; rfl, by rw [H.out]; exact HN.out.alloc _, But.of_ext ((Ext.refl _).alloc _)⟩
  | succ d ih =>
    intro D L t A c g w hD hd hL0 hL1 h hn
    have IH := Lib.hid ih
    have HN := Lib.hid hn
    have hD1 : 1 ≤ D := by have := hD.out; omega
    have hD2 : D ≤ 5 := by have := hD.out; omega
    have hz : (D == 0) = false := beq_eq_false_iff_ne.2 (by omega)
    have hf := h.fits
    have hl := hf.args
    have hg := hn.lt
    have hcell := hn.cell
    have hfro := hn.frozen
    clear ih hn
    by_cases hL : L = 0
    · subst hL
      have H : Hid (fitsT t (d + 1) 0 = (false, 0)) := Lib.hid (by obtain ⟨k, s, n, l⟩ := t; rfl)
      go_enter Tryz.func96, Tryz.ntmps96
      go_wp2_with fail
      go_ret
      exact ⟨by rw [H.out]; rfl, by rw [H.out]; exact HN.out.alloc _, But.of_ext ((Ext.refl _).alloc _)⟩
    · have hLz : (L == 0) = false := beq_eq_false_iff_ne.2 hL
      by_cases hp : plainB t = true
      · have H : Hid (fitsL t.args d (L - 1) = fitsT t (d + 1) L) := Lib.hid (by obtain ⟨k, s, n, l⟩ := t; rw [fitsT, if_neg hL, if_pos hp])
        go_enter Tryz.func96, Tryz.ntmps96
        go_wp2_with fail
        refine (plain_any t A c _ hf).mono ?_
        rintro e w1 ⟨rfl, hx1⟩
        have hn1 : NumAt w1 g L := (HN.out.alloc _).ext hx1
        have hcell1 := hn1.cell
        have hfro1 := hn1.frozen
        have HN1 := Lib.hid hn1
        clear hn1
        have hbox : w1.cell? ⟨w.heap.size, 3, none⟩ = some (.slice A t.args.length c) := hx1.cell (by go_simp)
        go_wp2_with fail
        go_loopw [30] (fun i wr => ∃ (k : Nat) (M : Int), k ≤ t.args.length ∧ 0 ≤ M ∧ M ≤ 24 ∧ i = .int .i64 k ∧ NumAt wr g M ∧ But g w wr ∧ Hid (fitsL (t.args.drop k) d M = fitsT t (d + 1) L)) (fun i _ => t.args.length - (intOf i).toNat)
        case atStart => exact ⟨0, L - 1, Nat.zero_le _, by omega, by omega, rfl, HN1.out.set _, (But.of_ext (((Ext.refl _).alloc _).trans hx1)).trans (But.set _ _ _), H⟩
        case round =>
          obtain ⟨k, M, hk, hM0, hM1, rfl, hnr, hbr, Hr⟩ := hrel
          by_cases hlt : k < t.args.length
          · obtain ⟨b, o, B, e, rfl, c0, c1, c2, c3, hsub⟩ := (h.but HN.out hbr).args.at_ hlt
            have hbd := (fits_bd d).1 t.args[k] M hM0
            have H2 : Hid ((if (fitsT t.args[k] d M).1 = true then fitsL (t.args.drop (k + 1)) d (fitsT t.args[k] d M).2 else (false, (fitsT t.args[k] d M).2)) = fitsT t (d + 1) L) := by
              have := Hr.out
              rw [List.drop_eq_getElem_cons hlt, fitsL] at this
              exact Lib.hid this
            clear Hr H
            go_wp2_with fail
            refine (IH.out _ M _ _ _ _ _ (Lib.hid (by have := hD.out; omega)) (by omega) hM0 hM1 (hsub.ext ((Ext.refl _).alloc _)) (hnr.alloc _)).mono ?_
            rintro e w2 ⟨rfl, hn2, hb2⟩
            have hb3 := hbr.trans ((But.of_ext ((Ext.refl _).alloc _)).trans hb2)
            by_cases hr : (fitsT t.args[k] d M).1 = true
            · go_wp2_with fail
              go_roundw
              case rel => exact ⟨k + 1, (fitsT t.args[k] d M).2, by omega, by omega, by omega, by go_num, hn2, hb3, Lib.hid (by have := H2.out; rwa [if_pos hr] at this)⟩
              case measure => simp [intOf]; omega
            · have hr' : (fitsT t.args[k] d M).1 = false := by simpa using hr
              have H3 : Hid ((false, (fitsT t.args[k] d M).2) = fitsT t (d + 1) L) := Lib.hid (by have := H2.out; rwa [if_neg hr] at this)
              clear hr
              go_wp2_with fail
              go_ret
              exact ⟨by rw [← H3.out]; rfl, by rw [← H3.out]; exact hn2, hb3⟩
          · have H3 : Hid ((true, M) = fitsT t (d + 1) L) := Lib.hid (by have := Hr.out; rwa [List.drop_eq_nil_of_le (by omega), fitsL] at this)
            go_wp2_with fail
            go_ret
            exact ⟨by rw [← H3.out]; rfl, by rw [← H3.out]; exact hnr, hbr⟩
      · have hp' : plainB t = false := by simpa using hp
        have H : Hid (fitsT t (d + 1) L = (false, L)) := Lib.hid (by obtain ⟨k, s, n, l⟩ := t; rw [fitsT, if_neg hL, if_neg hp])
        clear hp
        go_enter Tryz.func96, Tryz.ntmps96
        go_wp2_with fail
        refine (plain_any t A c _ hf).mono ?_
        rintro e w1 ⟨rfl, hx1⟩
        go_wp2_with fail
        go_ret
        exact ⟨by rw [H.out]; rfl, by rw [H.out]; exact (HN.out.alloc _).ext hx1, But.of_ext (((Ext.refl _).alloc _).trans hx1)⟩
/-- may it be? -/
def mayB (t : Tm) : Bool := (fitsT t 5 24).1

theorem check_fits (t : Tm) (A : Option Addr) (c : Nat) (w : World) (h : TmAt w t A c) (W : World) (g : Nat) (hx : Ext w W) (hg : w.heap.size ≤ g) (hn : NumAt W g 24) :
    Calls Tryz.prog 96 #[t.val A c, .int .i64 5, .pointer (some ⟨g, 0, none⟩)] W fun e w' => e = .returned (.bool (mayB t)) ∧ Ext w w' :=
  (fits_any 5 5 24 t A c g W (Lib.hid rfl) (by omega) (by omega) (by omega) (h.ext hx) hn).mono fun e w' ⟨he, _, hb⟩ => ⟨he, But.ext_of hx hb hg⟩

theorem check_yes (t : Tm) (A : Option Addr) (c : Nat) (w : World) (h : TmAt w t A c) (hr : mayB t = true) :
    Calls Tryz.prog 81 #[t.val A c] w fun e w' => e = .returned (.int .i64 0) ∧ Ext w w' := by
  go_enter Tryz.func81, Tryz.ntmps81
  go_wp2_with fail
  refine (check_fits t A c w h _ (w.heap.size + 1) (((Ext.refl w).alloc _).alloc _) (by omega) (NumAt.new w _ 24)).mono ?_
  rintro e w1 ⟨rfl, hx1⟩
  go_wp2_with fail
  go_ret
  exact ⟨rfl, hx1⟩
theorem check_no (t : Tm) (A : Option Addr) (c : Nat) (w : World) (h : TmAt w t A c) (hr : mayB t = false) :
    Calls Tryz.prog 81 #[t.val A c] w fun e w' => e = .returned (.int .i64 1) ∧ Ext w w' := by
  go_enter Tryz.func81, Tryz.ntmps81
  go_wp2_with fail
  refine (check_fits t A c w h _ (w.heap.size + 1) (((Ext.refl w).alloc _).alloc _) (by omega) (NumAt.new w _ 24)).mono ?_
  rintro e w1 ⟨rfl, hx1⟩
  go_wp2_with fail
  go_ret
  exact ⟨rfl, hx1⟩
end Go.Proofs.YtbjghkmjnhmlfaaGreatDoor

/- How deep and how large a term is (pure), for seats that have no Depth and Size. -/
namespace Go.Proofs.YtbjghkmjnhmlfaaGreatDoor
open Go.RowKit

theorem high_pos (t : Tm) : 1 ≤ t.high := by obtain ⟨k, s, n, l⟩ := t; simp only [Tm.high]; omega

/-- the box of a term -/
abbrev boxT (w : World) (t : Tm) (A : Option Addr) (c : Nat) : World := w.alloc (.cells #[.int .i64 t.kind, .string t.name, .int .i64 t.n, .slice A t.args.length c] 58)

def depthL : List Tm → Int → Int
  | [], m => m
  | t :: ts, m => depthL ts (max m t.high)
theorem depthL_eq : ∀ (ts : List Tm) (m : Int), 0 ≤ m → depthL ts m = max m (highs ts)
  | [], m, h => by simp [depthL, highs]; omega
  | t :: ts, m, h => by rw [depthL, depthL_eq ts _ (by omega), highs]; omega

theorem max_if (a b : Int) : (if a < b then b else a) = max a b := by split <;> omega

mutual
def sizeT : Tm → Int
  | ⟨_, _, _, l⟩ => sizeL l 1
def sizeL : List Tm → Int → Int
  | [], n => n
  | t :: ts, n => sizeL ts (n + sizeT t)
end
theorem size_pos (hh : Nat) : ∀ t : Tm, t.high ≤ hh → 1 ≤ sizeT t := by
  have step : ∀ hh : Nat, (∀ t : Tm, t.high ≤ hh → 1 ≤ sizeT t) → ∀ (ts : List Tm) (n : Int), highs ts ≤ hh → n ≤ sizeL ts n := by
    intro hh h ts
    induction ts with
    | nil => intro n _; simp [sizeL]
    | cons t ts ih =>
      intro n hn
      simp only [highs] at hn
      have h1 := h t (by omega)
      have h2 := ih (n + sizeT t) (by omega)
      rw [sizeL]; omega
  induction hh with
  | zero => intro t h; have := high_pos t; omega
  | succ hh ih =>
    intro t ht
    obtain ⟨k, s, n, l⟩ := t
    simp only [Tm.high] at ht
    rw [sizeT]
    exact step hh ih l 1 (by omega)
theorem sizeL_ge : ∀ (ts : List Tm) (n : Int), n ≤ sizeL ts n
  | [], n => by simp [sizeL]
  | t :: ts, n => by
    have h1 := size_pos t.high t (Nat.le_refl _)
    have h2 := sizeL_ge ts (n + sizeT t)
    rw [sizeL]; omega

theorem fits_of (d : Nat) : (∀ (t : Tm) (L : Int), (fitsT t d L).1 = true → t.high ≤ d ∧ sizeT t = L - (fitsT t d L).2) ∧
    ∀ (ts : List Tm) (L n : Int), (fitsL ts d L).1 = true → highs ts ≤ d ∧ sizeL ts n = n + (L - (fitsL ts d L).2) := by
  have step : ∀ d : Nat, (∀ (t : Tm) (L : Int), (fitsT t d L).1 = true → t.high ≤ d ∧ sizeT t = L - (fitsT t d L).2) →
      ∀ (ts : List Tm) (L n : Int), (fitsL ts d L).1 = true → highs ts ≤ d ∧ sizeL ts n = n + (L - (fitsL ts d L).2) := by
    intro d h ts
    induction ts with
    | nil => intro L n _; simp [fitsL, sizeL, highs]
    | cons t ts ih =>
      intro L n hf
      by_cases ht : (fitsT t d L).1 = true
      · have h1 := h t L ht
        rw [fitsL, if_pos ht] at hf ⊢
        have h2 := ih (fitsT t d L).2 (n + sizeT t) hf
        rw [sizeL, highs]
        omega
      · rw [fitsL, if_neg ht] at hf
        cases hf
  induction d with
  | zero =>
    have h0 : ∀ (t : Tm) (L : Int), (fitsT t 0 L).1 = true → t.high ≤ 0 ∧ sizeT t = L - (fitsT t 0 L).2 := fun t L h => by obtain ⟨k, s, n, l⟩ := t; simp [fitsT] at h
    exact ⟨h0, step 0 h0⟩
  | succ d ih =>
    have h0 : ∀ (t : Tm) (L : Int), (fitsT t (d + 1) L).1 = true → t.high ≤ d + 1 ∧ sizeT t = L - (fitsT t (d + 1) L).2 := by
      intro t L h
      obtain ⟨k, s, n, l⟩ := t
      by_cases hL : L = 0
      · rw [fitsT, if_pos hL] at h; cases h
      · by_cases hp : plainB ⟨k, s, n, l⟩ = true
        · rw [fitsT, if_neg hL, if_pos hp] at h ⊢
          have := ih.2 l (L - 1) 1 h
          rw [sizeT, Tm.high]
          omega
        · rw [fitsT, if_neg hL, if_neg hp] at h; cases h
    exact ⟨h0, step (d + 1) h0⟩
theorem may_high {t : Tm} (h : mayB t = true) : t.high ≤ 5 := ((fits_of 5).1 t 24 h).1
theorem may_size {t : Tm} (h : mayB t = true) : sizeT t ≤ 24 := by
  have h1 := ((fits_of 5).1 t 24 h).2
  have h2 := (fits_bd 5).1 t 24 (by omega)
  omega

end Go.Proofs.YtbjghkmjnhmlfaaGreatDoor

/- Are two terms the same: EqTerm, EqTerms. -/
namespace Go.Proofs.YtbjghkmjnhmlfaaGreatDoor
open Go.RowKit

mutual
def eqT : Tm → Tm → Bool
  | ⟨k, s, n, l⟩, b => (k == b.kind) && (s.toList == b.name.toList) && (n == b.n) && eqL l b.args
def eqL : List Tm → List Tm → Bool
  | [], [] => true
  | [], _ :: _ => false
  | _ :: _, [] => false
  | a :: l, b :: r => eqT a b && eqL l r
end
theorem eqL_len : ∀ (l r : List Tm), l.length ≠ r.length → eqL l r = false
  | [], [], h => by simp at h
  | [], _ :: _, _ => by simp [eqL]
  | _ :: _, [], _ => by simp [eqL]
  | a :: l, b :: r, h => by rw [eqL, eqL_len l r (by simpa using h), Bool.and_false]
theorem eqT_eq (a b : Tm) : eqT a b = ((a.kind == b.kind) && (a.name.toList == b.name.toList) && (a.n == b.n) && eqL a.args b.args) := by
  obtain ⟨k, s, n, l⟩ := a; rw [eqT]

/-- EqTerm's contract, for terms not higher than so -/
def EqTo (hh : Nat) : Prop := ∀ (a b : Tm) (A B : Option Addr) (c d : Nat) (w : World), a.high ≤ hh → TmAt w a A c → TmAt w b B d →
    Calls Tryz.prog 67 #[a.val A c, b.val B d] w fun e w' => e = .returned (.bool (eqT a b)) ∧ Ext w w'

set_option maxRecDepth 100000 in
set_option maxHeartbeats 1000000 in
theorem eqTerms_any (hh : Nat) (hc : EqTo hh) (l r : List Tm) (A B : Option Addr) (c d : Nat) (w : World) (h1 : highs l ≤ hh) (ll : l.length * 56 ≤ 140737488351232)
    (ha : TmsAt w l A) (hb : TmsAt w r B) :
    Calls Tryz.prog 68 #[.slice A l.length c, .slice B r.length d] w fun e w' => e = .returned (.bool (eqL l r)) ∧ Ext w w' := by
  by_cases hlen : l.length = r.length
  · have H0 : Hid (eqL (l.drop 0) (r.drop 0) = eqL l r) := Lib.hid (by rw [List.drop_zero, List.drop_zero])
    have hne : ((l.length : Int) != (r.length : Int)) = false := by simp [hlen]
    have HL := Lib.hid hlen
    clear hlen
    go_enter Tryz.func68, Tryz.ntmps68
    go_wp2_with fail
    go_loopw [5] (fun i wr => ∃ (k : Nat), k ≤ l.length ∧ i = .int .i64 k ∧ Hid (eqL (l.drop k) (r.drop k) = eqL l r) ∧ Ext w wr) (fun i _ => l.length - (intOf i).toNat)
    case atStart => exact ⟨0, Nat.zero_le _, rfl, H0, Ext.refl _⟩
    case round =>
      obtain ⟨k, hk, rfl, H, hx⟩ := hrel
      by_cases hlt : k < l.length
      · have hlt2 : k < r.length := by have := HL.out; omega
        obtain ⟨b, o, C, e, rfl, c0, c1, c2, c3, hsub⟩ := (ha.ext hx).at_ hlt
        obtain ⟨b2, o2, C2, e2, rfl, d0, d1, d2, d3, hsub2⟩ := (hb.ext hx).at_ hlt2
        have H2 : Hid ((eqT l[k] r[k] && eqL (l.drop (k + 1)) (r.drop (k + 1))) = eqL l r) := by
          have := H.out
          rw [List.drop_eq_getElem_cons hlt, List.drop_eq_getElem_cons hlt2, eqL] at this
          exact Lib.hid this
        have hh1 : l[k].high ≤ hh := Nat.le_trans (high_le (List.getElem_mem hlt)) h1
        have i0 : (0 : Int) ≤ (k : Int) := Int.natCast_nonneg _
        have i1 : (k : Int) < (l.length : Int) := by omega
        have i2 : (k : Int) < (r.length : Int) := by omega
        clear H H0
        go_wp2_with fail
        go_still_tail 8, (by kernel_rfl)
        change wpList _ _ _ _ _ wr.drew
        go_wp2_with fail
        refine (hc l[k] r[k] _ _ _ _ _ hh1 (hsub.ext (Ext.refl _).drew) (hsub2.ext (Ext.refl _).drew)).mono ?_
        rintro e w1 ⟨rfl, hx1⟩
        have hx2 := hx.trans ((Ext.refl _).drew.trans hx1)
        by_cases hz : eqT l[k] r[k] = true
        · have H3 : Hid (eqL (l.drop (k + 1)) (r.drop (k + 1)) = eqL l r) := Lib.hid (by have := H2.out; rwa [hz, Bool.true_and] at this)
          clear H2
          go_wp2_with fail
          go_roundw
          case rel => exact ⟨k + 1, by omega, by go_num, H3, hx2⟩
          case measure => simp [intOf]; omega
        · have hz' : eqT l[k] r[k] = false := by simpa using hz
          have H3 : Hid (false = eqL l r) := Lib.hid (by have := H2.out; rwa [hz', Bool.false_and] at this)
          clear H2 hz
          go_wp2_with fail
          go_ret
          exact ⟨ret_bool H3.out, hx2⟩
      · have H3 : Hid (true = eqL l r) := by
          have := H.out
          have := HL.out
          rw [show l.drop k = [] from List.drop_eq_nil_of_le (by omega), show r.drop k = [] from List.drop_eq_nil_of_le (by omega), eqL] at *
          exact Lib.hid H.out
        go_wp2_with fail
        go_ret
        exact ⟨ret_bool H3.out, hx⟩
  · have hne : ((l.length : Int) != (r.length : Int)) = true := by simp; omega
    have H3 : Hid (false = eqL l r) := Lib.hid (eqL_len l r hlen).symm
    clear hlen
    go_enter Tryz.func68, Tryz.ntmps68
    go_wp2_with fail
    go_ret
    exact ⟨ret_bool H3.out, Ext.refl _⟩

set_option maxRecDepth 100000 in
set_option maxHeartbeats 1000000 in
theorem eqTerm_all (hh : Nat) : EqTo hh := by
  induction hh with
  | zero => intro a b A B c d w h0; have := high_pos a; omega
  | succ hh ih =>
    intro a b A B c d w h0 ha hb
    have la := ha.fits.args
    have HL : highs a.args ≤ hh := by obtain ⟨k, s, n, l⟩ := a; rw [Tm.high] at h0; simp only; omega
    have E := Lib.hid (eqT_eq a b)
    have hx0 := ((Ext.refl w).alloc (.cells #[.int .i64 a.kind, .string a.name, .int .i64 a.n, .slice A a.args.length c] 58)).alloc (.cells #[.int .i64 b.kind, .string b.name, .int .i64 b.n, .slice B b.args.length d] 58)
    by_cases h1 : (a.kind == b.kind) = true
    · by_cases h2 : (a.name.toList == b.name.toList) = true
      · by_cases h3 : (a.n == b.n) = true
        · have E1 := Lib.hid (show eqT a b = eqL a.args b.args by rw [E.out, h1, h2, h3]; simp)
          clear E
          go_enter Tryz.func67, Tryz.ntmps67
          go_wp2_with fail
          refine (eqTerms_any hh ih a.args b.args A B c d _ HL la (ha.args.ext (((Ext.refl _).alloc _).alloc _)) (hb.args.ext (((Ext.refl _).alloc _).alloc _))).mono ?_
          rintro e w2 ⟨rfl, hx2⟩
          go_wp2_with fail
          go_ret
          exact ⟨ret_bool E1.out.symm, hx0.trans hx2⟩
        · have h3' : (a.n == b.n) = false := by simpa using h3
          have E1 := Lib.hid (show false = eqT a b by rw [E.out, h3']; simp)
          clear E h3
          go_enter Tryz.func67, Tryz.ntmps67
          go_wp2_with fail
          go_ret
          exact ⟨ret_bool E1.out, hx0⟩
      · have h2' : (a.name.toList == b.name.toList) = false := by simpa using h2
        have E1 := Lib.hid (show false = eqT a b by rw [E.out, h2']; simp)
        clear E h2
        go_enter Tryz.func67, Tryz.ntmps67
        go_wp2_with fail
        go_ret
        exact ⟨ret_bool E1.out, hx0⟩
    · have h1' : (a.kind == b.kind) = false := by simpa using h1
      have E1 := Lib.hid (show false = eqT a b by rw [E.out, h1']; simp)
      clear E h1
      go_enter Tryz.func67, Tryz.ntmps67
      go_wp2_with fail
      go_ret
      exact ⟨ret_bool E1.out, hx0⟩
end Go.Proofs.YtbjghkmjnhmlfaaGreatDoor
