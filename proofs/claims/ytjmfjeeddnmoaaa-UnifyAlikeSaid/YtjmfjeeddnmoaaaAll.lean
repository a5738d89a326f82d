/- Order and Rename in one answer each, for any terms. -/
import Derived.Test.YtjmfjeeddnmoaaaPren
import Derived.Test.YtjmfjeeddnmoaaaRd
namespace Go.Proofs.Ytjmfjeeddnmoaaa
open Go.RowKit

def ordE (a b : Tm) : Int := if (mayB a && mayB b) = true then 0 else 1
def ordV (a b : Tm) : Int := if (mayB a && mayB b) = true then cmpT a b else 0
theorem Order_all (a b : Tm) (A B : Option Addr) (c d : Nat) (w : World) (ha : TmAt w a A c) (hb : TmAt w b B d) :
    Calls Try.prog 31 #[a.val A c, b.val B d] w fun e w' => e = .returned (.tuple #[.int .i64 (ordV a b), .int .i64 (ordE a b)]) ∧ Ext w w' := by
  unfold ordV ordE
  by_cases ra : mayB a = true
  · by_cases rb : mayB b = true
    · rw [if_pos (by simp [ra, rb]), if_pos (by simp [ra, rb])]
      exact Order_yes a b A B c d w ha hb ra rb
    · rw [if_neg (by simp [rb]), if_neg (by simp [rb])]
      exact Order_no2 a b A B c d w ha hb ra (not_true rb)
  · rw [if_neg (by simp [ra]), if_neg (by simp [ra])]
    exact Order_no1 a b A B c d w ha (not_true ra)

def goB (s : ByteArray) (t : Tm) : Bool := mayB t && tailB s
abbrev noTm : Tm := ⟨0, ⟨#[]⟩, 0, []⟩
theorem noTm_fits : noTm.Fits := ⟨by decide, by decide, by decide, by decide⟩
def outE (s : ByteArray) (t : Tm) : Int := if (mayB t && tailB s) = true then (if okR s t = true then 0 else 2) else 1
def outT (s : ByteArray) (t : Tm) : Tm := if (mayB t && tailB s) = true then (if okR s t = true then renT s t else noTm) else noTm
def RenOut (s : ByteArray) (t : Tm) (w : World) (e : Ending) (w' : World) : Prop :=
  ∃ A c, e = .returned (.tuple #[(outT s t).val A c, .int .i64 (outE s t)]) ∧ TmOwn w' (outT s t) A c (fun k => w.heap.size ≤ k ∧ k < w'.heap.size) ∧ Ext w w'
theorem Rename_all (t : Tm) (s : ByteArray) (A : Option Addr) (c : Nat) (w : World) (h : TmAt w t A c) (hs : s.size ≤ 100000) :
    Calls Try.prog 33 #[t.val A c, .string s] w (RenOut s t w) := by
  by_cases hm : mayB t = true
  · by_cases ht : tailB s = true
    · refine (Rename_may t s A c w h hs hm ht).mono fun e w' ⟨hx, hc⟩ => ?_
      have hb : (mayB t && tailB s) = true := by simp [hm, ht]
      rcases hc with ⟨ho, A', c', rfl, hO⟩ | ⟨ho, rfl⟩
      · have e1 : outT s t = renT s t := by unfold outT; rw [if_pos hb, if_pos ho]
        have e2 : outE s t = 0 := by unfold outE; rw [if_pos hb, if_pos ho]
        unfold RenOut
        rw [e1, e2]
        exact ⟨A', c', rfl, hO, hx⟩
      · have e1 : outT s t = noTm := by unfold outT; rw [if_pos hb, if_neg (by simp [ho])]
        have e2 : outE s t = 2 := by unfold outE; rw [if_pos hb, if_neg (by simp [ho])]
        unfold RenOut
        rw [e1, e2]
        exact ⟨none, 0, rfl, TmOwn.leaf noTm_fits rfl _ _ _, hx⟩
    · refine (Rename_form t s A c w h hs (.inr (not_true ht))).mono fun e w' ⟨he, hx⟩ => ?_
      have hb : ¬ (mayB t && tailB s) = true := by simp [ht]
      have e1 : outT s t = noTm := by unfold outT; rw [if_neg hb]
      have e2 : outE s t = 1 := by unfold outE; rw [if_neg hb]
      unfold RenOut
      rw [e1, e2]
      exact ⟨none, 0, he, TmOwn.leaf noTm_fits rfl _ _ _, hx⟩
  · refine (Rename_form t s A c w h hs (.inl (not_true hm))).mono fun e w' ⟨he, hx⟩ => ?_
    have hb : ¬ (mayB t && tailB s) = true := by simp [hm]
    have e1 : outT s t = noTm := by unfold outT; rw [if_neg hb]
    have e2 : outE s t = 1 := by unfold outE; rw [if_neg hb]
    unfold RenOut
    rw [e1, e2]
    exact ⟨none, 0, he, TmOwn.leaf noTm_fits rfl _ _ _, hx⟩
/-- Rename, from a world that is wi grown, or wi with one new term's place -/
def RenA (s : ByteArray) (t : Tm) (wi : World) (e : Ending) (w' : World) : Prop :=
  ∃ A c, e = .returned (.tuple #[(outT s t).val A c, .int .i64 (outE s t)]) ∧ TmOwn w' (outT s t) A c (fun k => wi.heap.size ≤ k ∧ k < w'.heap.size) ∧ Ext wi w'
def RenB (s : ByteArray) (t : Tm) (wi : World) (e : Ending) (w' : World) : Prop :=
  ∃ A c, e = .returned (.tuple #[(outT s t).val A c, .int .i64 (outE s t)]) ∧ TmOwn w' (outT s t) A c (fun k => wi.heap.size + 1 ≤ k ∧ k < w'.heap.size) ∧ Ext wi w' ∧ Box4 w' wi.heap.size (.int .i64 0) (.string ⟨#[]⟩) (.int .i64 0) (.slice none 0 0)
theorem Rename_A (t : Tm) (s : ByteArray) (A : Option Addr) (c : Nat) (wi u : World) (h : TmAt wi t A c) (hs : s.size ≤ 100000) (hu : Ext wi u) :
    Calls Try.prog 33 #[t.val A c, .string s] u (RenA s t wi) :=
  (Rename_all t s A c u (h.ext hu) hs).mono fun _ _ ⟨A', c', he, hO, hx⟩ => ⟨A', c', he, hO.weak fun _ hk => ⟨Nat.le_trans hu.size hk.1, hk.2⟩, hu.trans hx⟩
theorem Rename_B (t : Tm) (s : ByteArray) (A : Option Addr) (c : Nat) (wi u : World) (h : TmAt wi t A c) (hs : s.size ≤ 100000) (hu : Ext (wi.alloc (.cells #[.int .i64 0, .string ⟨#[]⟩, .int .i64 0, .slice none 0 0] 28)) u) :
    Calls Try.prog 33 #[t.val A c, .string s] u (RenB s t wi) := by
  have hx0 : Ext wi u := ((Ext.refl _).alloc _).trans hu
  have hsz : wi.heap.size + 1 ≤ u.heap.size := by have := hu.size; simpa using this
  have hb : Box4 u wi.heap.size (.int .i64 0) (.string ⟨#[]⟩) (.int .i64 0) (.slice none 0 0) := Box4.ext ⟨by go_simp, by go_simp, by go_simp, by go_simp, by go_simp, by go_simp, by go_simp, by go_simp⟩ hu
  exact (Rename_all t s A c u (h.ext hx0) hs).mono fun _ _ ⟨A', c', he, hO, hx⟩ => ⟨A', c', he, hO.weak fun _ hk => ⟨Nat.le_trans hsz hk.1, hk.2⟩, hx0.trans hx, hb.ext hx⟩
/-- the page's renaming, from such worlds -/
theorem Rren_A (t : Tm) (s : ByteArray) (A : Option Addr) (c : Nat) (wi u : World) (h : TmAt wi t A c) (hp : allP t) (hs : s.size ≤ 100000) (hok : okR s t = true) (hu : Ext wi u) :
    Calls Try.prog 35 #[t.val A c, .string s] u fun e w' => ∃ A c, e = .returned (.tuple #[(renT s t).val A c, .bool true]) ∧ TmHi w' wi.heap.size (renT s t) A c ∧ Ext wi w' :=
  (rren_any t.high t s A c u (Nat.le_refl _) hp hs (h.ext hu)).mono fun _ _ ⟨hx, hc⟩ => by
    rcases hc with ⟨_, A', c', he, hH⟩ | ⟨hno, _⟩
    · exact ⟨A', c', he, hH.weak hu.size, hu.trans hx⟩
    · rw [hok] at hno; cases hno
theorem Rren_B (t : Tm) (s : ByteArray) (A : Option Addr) (c : Nat) (wi u : World) (h : TmAt wi t A c) (hp : allP t) (hs : s.size ≤ 100000) (hok : okR s t = true) (hu : Ext (wi.alloc (.cells #[.int .i64 0, .string ⟨#[]⟩, .int .i64 0, .slice none 0 0] 28)) u) :
    Calls Try.prog 35 #[t.val A c, .string s] u fun e w' => ∃ A c, e = .returned (.tuple #[(renT s t).val A c, .bool true]) ∧ TmHi w' (wi.heap.size + 1) (renT s t) A c ∧ Ext wi w' ∧ Box4 w' wi.heap.size (.int .i64 0) (.string ⟨#[]⟩) (.int .i64 0) (.slice none 0 0) := by
  have hx0 : Ext wi u := ((Ext.refl _).alloc _).trans hu
  have hsz : wi.heap.size + 1 ≤ u.heap.size := by have := hu.size; simpa using this
  have hb : Box4 u wi.heap.size (.int .i64 0) (.string ⟨#[]⟩) (.int .i64 0) (.slice none 0 0) := Box4.ext ⟨by go_simp, by go_simp, by go_simp, by go_simp, by go_simp, by go_simp, by go_simp, by go_simp⟩ hu
  exact (rren_any t.high t s A c u (Nat.le_refl _) hp hs (h.ext hx0)).mono fun _ _ ⟨hx, hc⟩ => by
    rcases hc with ⟨_, A', c', he, hH⟩ | ⟨hno, _⟩
    · exact ⟨A', c', he, hH.weak hsz, hx0.trans hx, hb.ext hx⟩
    · rw [hok] at hno; cases hno
theorem Rren_C (t : Tm) (s : ByteArray) (A : Option Addr) (c : Nat) (wi u : World) (h : TmAt wi t A c) (hp : allP t) (hs : s.size ≤ 100000) (hok : okR s t = false) (hu : Ext wi u) :
    Calls Try.prog 35 #[t.val A c, .string s] u fun e w' => ∃ k m n B l c, e = .returned (.tuple #[.agg #[.int .i64 k, .string m, .int .i64 n, .slice B l c], .bool false]) ∧ Ext wi w' :=
  (rren_any t.high t s A c u (Nat.le_refl _) hp hs (h.ext hu)).mono fun _ _ ⟨hx, hc⟩ => by
    rcases hc with ⟨hyes, _⟩ | ⟨_, k, m, n, B, l, c, he⟩
    · rw [hok] at hyes; cases hyes
    · exact ⟨k, m, n, B, l, c, he, hu.trans hx⟩
theorem Rren_D (t : Tm) (s : ByteArray) (A : Option Addr) (c : Nat) (wi u : World) (h : TmAt wi t A c) (hp : allP t) (hs : s.size ≤ 100000) (hok : okR s t = false) (hu : Ext (wi.alloc (.cells #[.int .i64 0, .string ⟨#[]⟩, .int .i64 0, .slice none 0 0] 28)) u) :
    Calls Try.prog 35 #[t.val A c, .string s] u fun e w' => ∃ k m n B l c, e = .returned (.tuple #[.agg #[.int .i64 k, .string m, .int .i64 n, .slice B l c], .bool false]) ∧ Ext wi w' ∧ Box4 w' wi.heap.size (.int .i64 0) (.string ⟨#[]⟩) (.int .i64 0) (.slice none 0 0) := by
  have hx0 : Ext wi u := ((Ext.refl _).alloc _).trans hu
  have hb : Box4 u wi.heap.size (.int .i64 0) (.string ⟨#[]⟩) (.int .i64 0) (.slice none 0 0) := Box4.ext ⟨by go_simp, by go_simp, by go_simp, by go_simp, by go_simp, by go_simp, by go_simp, by go_simp⟩ hu
  exact (rren_any t.high t s A c u (Nat.le_refl _) hp hs (h.ext hx0)).mono fun _ _ ⟨hx, hc⟩ => by
    rcases hc with ⟨hyes, _⟩ | ⟨_, k, m, n, B, l, c, he⟩
    · rw [hok] at hyes; cases hyes
    · exact ⟨k, m, n, B, l, c, he, hx0.trans hx, hb.ext hx⟩
theorem noTm_at (w : World) : TmAt w noTm none 0 := (TmOwn.leaf (w := w) noTm_fits rfl none 0 (fun _ => False)).at_
theorem Box4.new (w : World) (v0 v1 v2 v3 : Value) : Box4 (w.alloc (.cells #[v0, v1, v2, v3] 28)) w.heap.size v0 v1 v2 v3 := ⟨by go_simp, by go_simp, by go_simp, by go_simp, by go_simp, by go_simp, by go_simp, by go_simp⟩
/-- the page's answer lies in the place for it -/
def Want (s : ByteArray) (t : Tm) (wx wz : World) : Prop :=
  Ext wx wz ∧ ∃ A c, wz.cell? ⟨wx.heap.size, 0, none⟩ = some (.int .i64 (outT s t).kind) ∧ wz.cell? ⟨wx.heap.size, 1, none⟩ = some (.string (outT s t).name) ∧ wz.cell? ⟨wx.heap.size, 2, none⟩ = some (.int .i64 (outT s t).n) ∧
    wz.cell? ⟨wx.heap.size, 3, none⟩ = some (.slice A (outT s t).args.length c) ∧ TmAt wz (outT s t) A c
theorem Want.nil_ {s : ByteArray} {t : Tm} {wx wz : World} (hx : Ext wx wz) (hb : Box4 wz wx.heap.size (.int .i64 0) (.string ⟨#[]⟩) (.int .i64 0) (.slice none 0 0)) (ht : outT s t = noTm) : Want s t wx wz := by
  unfold Want
  rw [ht]
  exact ⟨hx, _, _, hb.1, hb.2.1, hb.2.2.1, hb.2.2.2.1, noTm_at _⟩
theorem Want.some_ {s : ByteArray} {t : Tm} {wx wy : World} {A : Option Addr} {c lo : Nat} (hx : Ext wx wy) (hb : Box4 wy wx.heap.size (.int .i64 0) (.string ⟨#[]⟩) (.int .i64 0) (.slice none 0 0)) (ht : outT s t = renT s t) (hH : TmHi wy lo (renT s t) A c) (hlo : wx.heap.size < lo) :
    Want s t wx (set4 wy wx.heap.size 0 (.int .i64 (renT s t).kind) (.string (renT s t).name) (.int .i64 (renT s t).n) (.slice A (renT s t).args.length c)) := by
  unfold Want
  rw [ht]
  have hc := set4_cells (o := 0) (.int .i64 (renT s t).kind) (.string (renT s t).name) (.int .i64 (renT s t).n) (.slice A (renT s t).args.length c) hb.1 hb.2.1 hb.2.2.1 hb.2.2.2.1
  exact ⟨Chg.ext_of hx (set4_chg wy wx.heap.size 0 _ _ _ _ (F := fun x => x = wx.heap.size) rfl) (fun b hb => by omega), _, _, hc.1, hc.2.1, hc.2.2.1, hc.2.2.2, (hH.keep fun k hk _ => set4_block wy wx.heap.size 0 _ _ _ _ k (by omega)).at_⟩
theorem Want.drew {s : ByteArray} {t : Tm} {wx wz : World} (h : Want s t wx wz) : Want s t wx wz.drew := by
  obtain ⟨hx, A, c, h0, h1, h2, h3, hT⟩ := h
  exact ⟨hx.drew, A, c, h0, h1, h2, h3, hT.ext (Ext.refl _).drew⟩
/-- what is left of a world is what is said of it -/
theorem wp_at {P : Program} {c : Code} {Q : Exit → Act → World → Prop} {a : Act} {W : World} (Φ : World → Prop) (hW : Φ W) (h : ∀ wz, Φ wz → Code.wp P c Q a wz) : Code.wp P c Q a W := h W hW
theorem eqT_self (t : Tm) : eqT t t = true := (eqT_iff t t).2 rfl
theorem EqTerm_self (t : Tm) (A B : Option Addr) (c d : Nat) (w : World) (ha : TmAt w t A c) (hb : TmAt w t B d) :
    Calls Try.prog 28 #[t.val A c, t.val B d] w fun e w' => e = .returned (.bool true) ∧ Ext w w' :=
  (eqTerm_all t.high t t A B c d w (Nat.le_refl _) ha hb).mono fun _ _ ⟨he, hx⟩ => ⟨by rw [he, eqT_self], hx⟩
theorem outE_bd (s : ByteArray) (t : Tm) : 0 ≤ outE s t ∧ outE s t ≤ 2 := by unfold outE; split <;> (try split) <;> omega
theorem ordE_bd (a b : Tm) : 0 ≤ ordE a b ∧ ordE a b ≤ 1 := by unfold ordE; split <;> omega
end Go.Proofs.Ytjmfjeeddnmoaaa
