/- What terms that may be are like; Order. -/
import Derived.Test.YthmpolifgngdiaaWg
namespace Go.Proofs.Ythmpolifgngdiaa
open Go.RowKit

mutual
/-- each term within is one that may be, by its own fields -/
def allP : Tm → Prop
  | ⟨k, s, n, l⟩ => plainB ⟨k, s, n, l⟩ = true ∧ allPs l
def allPs : List Tm → Prop
  | [] => True
  | t :: ts => allP t ∧ allPs ts
end
theorem allPs_mem : ∀ {ts : List Tm} {t : Tm}, allPs ts → t ∈ ts → allP t
  | a :: ts, t, h, m => by
    rw [allPs] at h
    rcases List.mem_cons.1 m with e | e
    · subst e; exact h.1
    · exact allPs_mem h.2 e
theorem allP.plain {t : Tm} (h : allP t) : plainB t = true := by obtain ⟨k, s, n, l⟩ := t; rw [allP] at h; exact h.1
theorem allP.args {t : Tm} (h : allP t) : allPs t.args := by obtain ⟨k, s, n, l⟩ := t; rw [allP] at h; exact h.2

theorem fits_all (d : Nat) : ∀ (t : Tm) (L : Int), (fitsT t d L).1 = true → allP t := by
  induction d with
  | zero => intro t L h; obtain ⟨k, s, n, l⟩ := t; simp [fitsT] at h
  | succ d ih =>
    have step : ∀ (ts : List Tm) (L : Int), (fitsL ts d L).1 = true → allPs ts := by
      intro ts
      induction ts with
      | nil => intro L _; simp [allPs]
      | cons t ts ih2 =>
        intro L hf
        by_cases ht : (fitsT t d L).1 = true
        · rw [fitsL, if_pos ht] at hf
          rw [allPs]
          exact ⟨ih t L ht, ih2 _ hf⟩
        · rw [fitsL, if_neg ht] at hf; cases hf
    intro t L h
    obtain ⟨k, s, n, l⟩ := t
    by_cases hL : L = 0
    · rw [fitsT, if_pos hL] at h; cases h
    · by_cases hp : plainB ⟨k, s, n, l⟩ = true
      · rw [fitsT, if_neg hL, if_pos hp] at h
        rw [allP]
        exact ⟨hp, step l _ h⟩
      · rw [fitsT, if_neg hL, if_neg hp] at h; cases h
theorem may_all {t : Tm} (h : mayB t = true) : allP t := fits_all 5 t 24 h

theorem toList_empty (s : ByteArray) (h : s.toList.isEmpty = true) : s.size = 0 := by
  have h1 : s.toList = [] := by simpa using h
  have h2 : s.toList.length = s.size := by rw [ByteArray.toList_eq, Array.length_toList]; rfl
  rw [h1] at h2
  exact h2.symm

theorem plain_name {t : Tm} (h : plainB t = true) : t.name.size ≤ 16 := by
  unfold plainB at h
  split at h
  · simp [wordB] at h; omega
  · split at h
    · simp only [Bool.and_eq_true] at h
      have := toList_empty _ h.1.1.1
      omega
    · split at h
      · simp [wordB] at h; omega
      · cases h
theorem allP_short (hh : Nat) : ∀ t : Tm, t.high ≤ hh → allP t → shortT t := by
  induction hh with
  | zero => intro t h; have := high_pos t; omega
  | succ hh ih =>
    have step : ∀ ts : List Tm, highs ts ≤ hh → allPs ts → shortL ts := by
      intro ts
      induction ts with
      | nil => intro _ _; simp [shortL]
      | cons t ts ih2 =>
        intro h1 h2
        rw [highs] at h1
        rw [allPs] at h2
        rw [shortL]
        exact ⟨ih t (by omega) h2.1, ih2 (by omega) h2.2⟩
    intro t h1 h2
    have h3 := plain_name h2.plain
    obtain ⟨k, s, n, l⟩ := t
    rw [Tm.high] at h1
    rw [allP] at h2
    rw [shortT]
    exact ⟨h3, step l (by omega) h2.2⟩
theorem may_short {t : Tm} (h : mayB t = true) : shortT t := allP_short 5 t (may_high h) (may_all h)

set_option maxHeartbeats 1000000 in
theorem Order_yes (a b : Tm) (A B : Option Addr) (c d : Nat) (w : World) (ha : TmAt w a A c) (hb : TmAt w b B d) (ra : mayB a = true) (rb : mayB b = true) :
    Calls Try.prog 46 #[a.val A c, b.val B d] w fun e w' => e = .returned (.tuple #[.int .i64 (cmpT a b), .int .i64 0]) ∧ Ext w w' := by
  have RA := Lib.hid ra
  have RB := Lib.hid rb
  clear ra rb
  go_enter Try.func46, Try.ntmps46
  go_wp2_with fail
  refine (check_yes a A c _ (ha.ext (((Ext.refl _).alloc _).alloc _)) RA.out).mono ?_
  rintro e w1 ⟨rfl, hx1⟩
  have hx := (((Ext.refl w).alloc _).alloc _).trans hx1
  have b0 : w1.cell? ⟨w.heap.size + 1, 0, none⟩ = some (.int .i64 b.kind) := hx1.cell (by go_simp)
  have b1 : w1.cell? ⟨w.heap.size + 1, 1, none⟩ = some (.string b.name) := hx1.cell (by go_simp)
  have b2 : w1.cell? ⟨w.heap.size + 1, 2, none⟩ = some (.int .i64 b.n) := hx1.cell (by go_simp)
  have b3 : w1.cell? ⟨w.heap.size + 1, 3, none⟩ = some (.slice B b.args.length d) := hx1.cell (by go_simp)
  have a0 : w1.cell? ⟨w.heap.size, 0, none⟩ = some (.int .i64 a.kind) := hx1.cell (by go_simp)
  have a1 : w1.cell? ⟨w.heap.size, 1, none⟩ = some (.string a.name) := hx1.cell (by go_simp)
  have a2 : w1.cell? ⟨w.heap.size, 2, none⟩ = some (.int .i64 a.n) := hx1.cell (by go_simp)
  have a3 : w1.cell? ⟨w.heap.size, 3, none⟩ = some (.slice A a.args.length c) := hx1.cell (by go_simp)
  go_wp2_with fail
  refine (check_yes b B d _ (hb.ext hx) RB.out).mono ?_
  rintro e w2 ⟨rfl, hx2⟩
  have c0 := hx2.cell a0
  have c1 := hx2.cell a1
  have c2 := hx2.cell a2
  have c3 := hx2.cell a3
  have d0 := hx2.cell b0
  have d1 := hx2.cell b1
  have d2 := hx2.cell b2
  have d3 := hx2.cell b3
  have hxx := hx.trans hx2
  clear a0 a1 a2 a3 b0 b1 b2 b3
  go_wp2_with fail
  refine (compare_all 5 a b A B c d _ (may_high RA.out) (may_short RA.out) (may_short RB.out) (ha.ext hxx) (hb.ext hxx)).mono ?_
  rintro e w3 ⟨rfl, hx3⟩
  go_wp2_with fail
  go_ret2
  exact ⟨rfl, hxx.trans hx3⟩
end Go.Proofs.Ythmpolifgngdiaa
