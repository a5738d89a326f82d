/- Joined: Wg, Wh. -/
import Derived.Test.YtkdhpifjljkpfaaGreatGrd
import Derived.Test.YtkdhpifjljkpfaaGreatWf
import Derived.Deep.RegionHeld3

/- The order of terms: compare, slices.CompareFunc over it, Order. -/
namespace Go.Proofs.YtkdhpifjljkpfaaGreat
open Go.RowKit

/-- how two names compare -/
def cmpN (s t : ByteArray) : Int := labI (nm 8 s.data.toList : Nat) (nm 8 (s.data.toList.drop 8) : Nat) (nm 8 t.data.toList : Nat) (nm 8 (t.data.toList.drop 8) : Nat)

mutual
/-- how two terms compare -/
def cmpT : Tm → Tm → Int
  | ⟨k, s, n, l⟩, b =>
    if (sgn k b.kind != 0) = true then sgn k b.kind
    else if (sgn n b.n != 0) = true then sgn n b.n
    else if (sgn l.length b.args.length != 0) = true then sgn l.length b.args.length
    else if (cmpN s b.name != 0) = true then cmpN s b.name
    else cmpL l b.args
def cmpL : List Tm → List Tm → Int
  | [], [] => 0
  | [], _ :: _ => -1
  | _ :: _, [] => 1
  | a :: l, b :: r => if (cmpT a b != 0) = true then cmpT a b else cmpL l r
end

mutual
/-- all names have room in a label -/
def shortT : Tm → Prop
  | ⟨_, s, _, l⟩ => s.size ≤ 16 ∧ shortL l
def shortL : List Tm → Prop
  | [] => True
  | t :: ts => shortT t ∧ shortL ts
end
theorem shortL_mem : ∀ {ts : List Tm} {t : Tm}, shortL ts → t ∈ ts → shortT t
  | a :: ts, t, h, m => by
    rw [shortL] at h
    rcases List.mem_cons.1 m with e | e
    · subst e; exact h.1
    · exact shortL_mem h.2 e
theorem shortT.name {t : Tm} (h : shortT t) : t.name.size ≤ 16 := by obtain ⟨k, s, n, l⟩ := t; rw [shortT] at h; exact h.1
theorem shortT.args {t : Tm} (h : shortT t) : shortL t.args := by obtain ⟨k, s, n, l⟩ := t; rw [shortT] at h; exact h.2

theorem highs_eq (t : Tm) : t.high = highs t.args + 1 := by obtain ⟨k, s, n, l⟩ := t; rfl

/-- compare's contract, for terms not higher than so -/
def CompareTo (hh : Nat) : Prop := ∀ (a b : Tm) (A B : Option Addr) (c d : Nat) (w : World), a.high ≤ hh → shortT a → shortT b → TmAt w a A c → TmAt w b B d →
    Calls Tryz.prog 78 #[a.val A c, b.val B d] w fun e w' => e = .returned (.int .i64 (cmpT a b)) ∧ Ext w w'

set_option maxHeartbeats 1000000 in
theorem compareFunc_any (hh : Nat) (hc : CompareTo hh) (l r : List Tm) (A B : Option Addr) (c d : Nat) (w : World) (h1 : highs l ≤ hh) (hl : shortL l) (hr : shortL r) (ll : l.length * 56 ≤ 140737488351232)
    (ha : TmsAt w l A) (hb : TmsAt w r B) :
    Calls Tryz.prog 97 #[.slice A l.length c, .slice B r.length d, .func (.func 78) #[] #[]] w
      fun e w' => e = .returned (.int .i64 (cmpL l r)) ∧ Ext w w' := by
  have H0 : Hid (cmpL (l.drop 0) (r.drop 0) = cmpL l r) := Lib.hid (by rw [List.drop_zero, List.drop_zero])
  go_enter Tryz.func97, Tryz.ntmps97
  go_wp2_with fail
  go_loopw [13] (fun i wr => ∃ (k : Nat), k ≤ l.length ∧ k ≤ r.length ∧ i = .int .i64 k ∧ Hid (cmpL (l.drop k) (r.drop k) = cmpL l r) ∧ Ext w wr) (fun i _ => l.length - (intOf i).toNat)
  case atStart => exact ⟨0, Nat.zero_le _, Nat.zero_le _, rfl, H0, Ext.refl _⟩
  case round =>
    obtain ⟨k, hk, hk2, rfl, H, hx⟩ := hrel
    by_cases hlt : k < l.length
    · obtain ⟨b, o, C, e, rfl, c0, c1, c2, c3, hsub⟩ := (ha.ext hx).at_ hlt
      by_cases hlt2 : k < r.length
      · obtain ⟨b2, o2, C2, e2, rfl, d0, d1, d2, d3, hsub2⟩ := (hb.ext hx).at_ hlt2
        have H2 : Hid ((if (cmpT l[k] r[k] != 0) = true then cmpT l[k] r[k] else cmpL (l.drop (k + 1)) (r.drop (k + 1))) = cmpL l r) := by
          have := H.out
          rw [List.drop_eq_getElem_cons hlt, List.drop_eq_getElem_cons hlt2, cmpL] at this
          exact Lib.hid this
        have hh1 : l[k].high ≤ hh := Nat.le_trans (high_le (List.getElem_mem hlt)) h1
        have s1 := shortL_mem hl (List.getElem_mem hlt)
        have s2 := shortL_mem hr (List.getElem_mem hlt2)
        have lb2 := World.block_lt_of_cell? wr _ d0
        simp only at lb2
        clear H H0
        go_wp2_with fail
        refine (hc l[k] r[k] _ _ _ _ _ hh1 s1 s2 (hsub.ext (((Ext.refl _).alloc _).alloc _)) (hsub2.ext (((Ext.refl _).alloc _).alloc _))).mono ?_
        rintro e w1 ⟨rfl, hx1⟩
        have hx2 := hx.trans ((((Ext.refl _).alloc _).alloc _).trans hx1)
        by_cases hz : (cmpT l[k] r[k] != 0) = true
        · have H3 : Hid (cmpT l[k] r[k] = cmpL l r) := Lib.hid (by have := H2.out; rwa [if_pos hz] at this)
          clear H2
          go_wp2_with fail
          go_ret
          exact ⟨ret_int H3.out, hx2⟩
        · have hz' : (cmpT l[k] r[k] != 0) = false := by simpa using hz
          have H3 : Hid (cmpL (l.drop (k + 1)) (r.drop (k + 1)) = cmpL l r) := Lib.hid (by have := H2.out; rwa [if_neg hz] at this)
          clear H2 hz
          go_wp2_with fail
          go_roundw
          case rel => exact ⟨k + 1, by omega, by omega, by go_num, H3, hx2⟩
          case measure => simp [intOf]; omega
      · have H3 : Hid (1 = cmpL l r) := by
          have := H.out
          rw [List.drop_eq_getElem_cons hlt, show r.drop k = [] from List.drop_eq_nil_of_le (by omega), cmpL] at this
          exact Lib.hid this
        have hge : decide (r.length ≤ k) = true := decide_eq_true (by omega)
        clear H H0
        go_wp2_with fail
        go_ret
        exact ⟨ret_int H3.out, hx.trans ((Ext.refl _).alloc _)⟩
    · by_cases hlt2 : k < r.length
      · have H3 : Hid (-1 = cmpL l r) := by
          have := H.out
          rw [List.drop_eq_nil_of_le (by omega), List.drop_eq_getElem_cons hlt2, cmpL] at this
          exact Lib.hid this
        have hll : l.length < r.length := by omega
        clear H H0
        go_wp2_with fail
        go_ret
        exact ⟨ret_int H3.out, hx⟩
      · have H3 : Hid (0 = cmpL l r) := by
          have := H.out
          rw [show l.drop k = [] from List.drop_eq_nil_of_le (by omega), show r.drop k = [] from List.drop_eq_nil_of_le (by omega), cmpL] at this
          exact Lib.hid this
        have hll : decide (l.length < r.length) = false := decide_eq_false (by omega)
        clear H H0
        go_wp2_with fail
        go_ret
        exact ⟨ret_int H3.out, hx⟩
theorem cmpT_eq (a b : Tm) : cmpT a b = if (sgn a.kind b.kind != 0) = true then sgn a.kind b.kind
    else if (sgn a.n b.n != 0) = true then sgn a.n b.n
    else if (sgn a.args.length b.args.length != 0) = true then sgn a.args.length b.args.length
    else if (cmpN a.name b.name != 0) = true then cmpN a.name b.name
    else cmpL a.args b.args := by obtain ⟨k, s, n, l⟩ := a; rw [cmpT]

theorem not_true {b : Bool} (h : ¬ b = true) : b = false := by simpa using h

theorem pack_keep (S : World → Prop) (hS : ∀ u v : World, S u → Ext u v → S v) (s : ByteArray) (w : World) (hs : s.size ≤ 16) (h : S w) :
    Calls Tryz.prog 96 #[.string s] w fun e w' => e = .returned (.agg #[.int .u64 (nm 8 s.data.toList : Nat), .int .u64 (nm 8 (s.data.toList.drop 8) : Nat)]) ∧ S w' :=
  (pack_any s w hs).mono fun _ _ ⟨he, hx⟩ => ⟨he, hS _ _ h hx⟩
theorem labels_keep (S : World → Prop) (hS : ∀ u v : World, S u → Ext u v → S v) (a b c d : Int) (w : World) (h : S w) :
    Calls Tryz.prog 95 #[.agg #[.int .u64 a, .int .u64 b], .agg #[.int .u64 c, .int .u64 d]] w fun e w' => e = .returned (.int .i64 (labI a b c d)) ∧ S w' :=
  (labels_any a b c d w).mono fun _ _ ⟨he, hx⟩ => ⟨he, hS _ _ h hx⟩

set_option maxRecDepth 100000 in
set_option maxHeartbeats 4000000 in
theorem compare_all (hh : Nat) : CompareTo hh := by
  induction hh with
  | zero => intro a b A B c d w h0; have := high_pos a; omega
  | succ hh ih =>
    intro a b A B c d w h0 sa sb ha hb
    have la := ha.fits.args
    have lb := hb.fits.args
    have na := sa.name
    have nb := sb.name
    have ea := highs_eq a
    have HL : highs a.args ≤ hh := by omega
    clear ea
    have E := Lib.hid (cmpT_eq a b)
    have hx0 := ((Ext.refl w).alloc (.cells #[.int .i64 a.kind, .string a.name, .int .i64 a.n, .slice A a.args.length c] 40)).alloc (.cells #[.int .i64 b.kind, .string b.name, .int .i64 b.n, .slice B b.args.length d] 40)
    by_cases h1 : (sgn a.kind b.kind != 0) = true
    · have E1 := Lib.hid (E.out.trans (if_pos h1))
      go_enter Tryz.func78, Tryz.ntmps78
      go_wp2_with (go_at_call 54; refine (cmp_int _ _ _).mono ?_; rintro e w' ⟨rfl, rfl⟩)
      go_ret
      exact ⟨ret_int E1.out.symm, hx0⟩
    · have E1 := Lib.hid (E.out.trans (if_neg h1))
      have h1' := not_true h1
      clear h1 E
      by_cases h2 : (sgn a.n b.n != 0) = true
      · have E2 := Lib.hid (E1.out.trans (if_pos h2))
        go_enter Tryz.func78, Tryz.ntmps78
        go_wp2_with (go_at_call 54; refine (cmp_int _ _ _).mono ?_; rintro e w' ⟨rfl, rfl⟩)
        go_ret
        exact ⟨ret_int E2.out.symm, hx0⟩
      · have E2 := Lib.hid (E1.out.trans (if_neg h2))
        have h2' := not_true h2
        clear h2 E1
        by_cases h3 : (sgn a.args.length b.args.length != 0) = true
        · have E3 := Lib.hid (E2.out.trans (if_pos h3))
          go_enter Tryz.func78, Tryz.ntmps78
          go_wp2_with (go_at_call 54; refine (cmp_int _ _ _).mono ?_; rintro e w' ⟨rfl, rfl⟩)
          go_ret
          exact ⟨ret_int E3.out.symm, hx0⟩
        · have E3 := Lib.hid (E2.out.trans (if_neg h3))
          have h3' := not_true h3
          clear h3 E2
          go_enter Tryz.func78, Tryz.ntmps78
          go_wp2_with (go_at_call 54; refine (cmp_int _ _ _).mono ?_; rintro e w' ⟨rfl, rfl⟩)
          have q1 : (((w.alloc (.cells #[.int .i64 a.kind, .string a.name, .int .i64 a.n, .slice A a.args.length c] 40)).alloc (.cells #[.int .i64 b.kind, .string b.name, .int .i64 b.n, .slice B b.args.length d] 40))).cell? ⟨w.heap.size, 1, none⟩ = some (.string a.name) := by go_simp
          have q2 : (((w.alloc (.cells #[.int .i64 a.kind, .string a.name, .int .i64 a.n, .slice A a.args.length c] 40)).alloc (.cells #[.int .i64 b.kind, .string b.name, .int .i64 b.n, .slice B b.args.length d] 40))).cell? ⟨w.heap.size + 1, 1, none⟩ = some (.string b.name) := by go_simp
          have q3 : (((w.alloc (.cells #[.int .i64 a.kind, .string a.name, .int .i64 a.n, .slice A a.args.length c] 40)).alloc (.cells #[.int .i64 b.kind, .string b.name, .int .i64 b.n, .slice B b.args.length d] 40))).cell? ⟨w.heap.size, 3, none⟩ = some (.slice A a.args.length c) := by go_simp
          have q4 : (((w.alloc (.cells #[.int .i64 a.kind, .string a.name, .int .i64 a.n, .slice A a.args.length c] 40)).alloc (.cells #[.int .i64 b.kind, .string b.name, .int .i64 b.n, .slice B b.args.length d] 40))).cell? ⟨w.heap.size + 1, 3, none⟩ = some (.slice B b.args.length d) := by go_simp
          generalize ((w.alloc (.cells #[.int .i64 a.kind, .string a.name, .int .i64 a.n, .slice A a.args.length c] 40)).alloc (.cells #[.int .i64 b.kind, .string b.name, .int .i64 b.n, .slice B b.args.length d] 40)) = W0 at *
          have HM : Hid (∀ u v : World, (u.cell? ⟨w.heap.size, 1, none⟩ = some (.string a.name) ∧ u.cell? ⟨w.heap.size + 1, 1, none⟩ = some (.string b.name) ∧ Ext W0 u) → Ext u v →
            (v.cell? ⟨w.heap.size, 1, none⟩ = some (.string a.name) ∧ v.cell? ⟨w.heap.size + 1, 1, none⟩ = some (.string b.name) ∧ Ext W0 v)) :=
            Lib.hid fun u v h k => ⟨k.cell h.1, k.cell h.2.1, h.2.2.trans k⟩
          have hx00 := Ext.refl W0
          go_region_held3 (fun u => u.cell? ⟨w.heap.size, 1, none⟩ = some (.string a.name) ∧ u.cell? ⟨w.heap.size + 1, 1, none⟩ = some (.string b.name) ∧ Ext W0 u)
            (first | assumption | exact ⟨q1, q2, hx00⟩ | exact ⟨q1, q2, hx00.drew⟩ | go_keep)
            (first
              | (go_at_call 96; refine (pack_keep _ HM.out _ _ (by assumption) (by assumption)).mono ?_; rintro e w' ⟨rfl, hS⟩)
              | (go_at_call 95; refine (labels_keep _ HM.out _ _ _ _ _ (by assumption)).mono ?_; rintro e w' ⟨rfl, hS⟩))
          obtain ⟨r1, r2, r3⟩ := hS
          have p3 := r3.cell q3
          have p4 := r3.cell q4
          have hxe := hx0.trans r3
          have eN : cmpN a.name b.name = labI (nm 8 a.name.data.toList : Nat) (nm 8 (a.name.data.toList.drop 8) : Nat) (nm 8 b.name.data.toList : Nat) (nm 8 (b.name.data.toList.drop 8) : Nat) := rfl
          have E4 := E3.out
          rw [eN] at E4
          clear E3 eN HM q1 q2 q3 q4
          generalize labI (nm 8 a.name.data.toList : Nat) (nm 8 (a.name.data.toList.drop 8) : Nat) (nm 8 b.name.data.toList : Nat) (nm 8 (b.name.data.toList.drop 8) : Nat) = N at *
          by_cases h4 : (N != 0) = true
          · have E5 := Lib.hid (E4.trans (if_pos h4))
            clear E4
            go_wp2_with fail
            go_ret
            exact ⟨ret_int E5.out.symm, hxe⟩
          · have E5 := Lib.hid (E4.trans (if_neg h4))
            have h4' := not_true h4
            clear E4 h4
            go_wp2_with fail
            refine (compareFunc_any hh ih a.args b.args A B c d _ HL sa.args sb.args la (ha.args.ext hxe) (hb.args.ext hxe)).mono ?_
            rintro e w2 ⟨rfl, hx2⟩
            go_wp2_with fail
            go_ret
            exact ⟨ret_int E5.out.symm, hxe.trans hx2⟩
end Go.Proofs.YtkdhpifjljkpfaaGreat

/- What terms that may be are like; Order. -/
namespace Go.Proofs.YtkdhpifjljkpfaaGreat
open Go.RowKit

mutual
/-- each term within is one that may be, by its own fields -/
def allP : Tm → Prop
  | ⟨k, s, n, l⟩ => plainB ⟨k, s, n, l⟩ = true ∧ allPs l
def allPs : List Tm → Prop
  | [] => True
  | t :: ts => allP t ∧ allPs ts
end
theorem allPs_mem : ∀ {ts : List Tm} {t : Tm}, allPs ts → t ∈ ts → allP t
  | a :: ts, t, h, m => by
    rw [allPs] at h
    rcases List.mem_cons.1 m with e | e
    · subst e; exact h.1
    · exact allPs_mem h.2 e
theorem allP.plain {t : Tm} (h : allP t) : plainB t = true := by obtain ⟨k, s, n, l⟩ := t; rw [allP] at h; exact h.1
theorem allP.args {t : Tm} (h : allP t) : allPs t.args := by obtain ⟨k, s, n, l⟩ := t; rw [allP] at h; exact h.2

theorem fits_all (d : Nat) : ∀ (t : Tm) (L : Int), (fitsT t d L).1 = true → allP t := by
  induction d with
  | zero => intro t L h; obtain ⟨k, s, n, l⟩ := t; simp [fitsT] at h
  | succ d ih =>
    have step : ∀ (ts : List Tm) (L : Int), (fitsL ts d L).1 = true → allPs ts := by
      intro ts
      induction ts with
      | nil => intro L _; simp [allPs]
      | cons t ts ih2 =>
        intro L hf
        by_cases ht : (fitsT t d L).1 = true
        · rw [fitsL, if_pos ht] at hf
          rw [allPs]
          exact ⟨ih t L ht, ih2 _ hf⟩
        · rw [fitsL, if_neg ht] at hf; cases hf
    intro t L h
    obtain ⟨k, s, n, l⟩ := t
    by_cases hL : L = 0
    · rw [fitsT, if_pos hL] at h; cases h
    · by_cases hp : plainB ⟨k, s, n, l⟩ = true
      · rw [fitsT, if_neg hL, if_pos hp] at h
        rw [allP]
        exact ⟨hp, step l _ h⟩
      · rw [fitsT, if_neg hL, if_neg hp] at h; cases h
theorem may_all {t : Tm} (h : mayB t = true) : allP t := fits_all 5 t 24 h

theorem toList_empty (s : ByteArray) (h : s.toList.isEmpty = true) : s.size = 0 := by
  have h1 : s.toList = [] := by simpa using h
  have h2 : s.toList.length = s.size := by rw [ByteArray.toList_eq, Array.length_toList]; rfl
  rw [h1] at h2
  exact h2.symm

theorem plain_name {t : Tm} (h : plainB t = true) : t.name.size ≤ 16 := by
  unfold plainB at h
  split at h
  · simp [wordB] at h; omega
  · split at h
    · simp only [Bool.and_eq_true] at h
      have := toList_empty _ h.1.1.1
      omega
    · split at h
      · simp [wordB] at h; omega
      · cases h
theorem allP_short (hh : Nat) : ∀ t : Tm, t.high ≤ hh → allP t → shortT t := by
  induction hh with
  | zero => intro t h; have := high_pos t; omega
  | succ hh ih =>
    have step : ∀ ts : List Tm, highs ts ≤ hh → allPs ts → shortL ts := by
      intro ts
      induction ts with
      | nil => intro _ _; simp [shortL]
      | cons t ts ih2 =>
        intro h1 h2
        rw [highs] at h1
        rw [allPs] at h2
        rw [shortL]
        exact ⟨ih t (by omega) h2.1, ih2 (by omega) h2.2⟩
    intro t h1 h2
    have h3 := plain_name h2.plain
    obtain ⟨k, s, n, l⟩ := t
    rw [Tm.high] at h1
    rw [allP] at h2
    rw [shortT]
    exact ⟨h3, step l (by omega) h2.2⟩
theorem may_short {t : Tm} (h : mayB t = true) : shortT t := allP_short 5 t (may_high h) (may_all h)

set_option maxHeartbeats 1000000 in
theorem Order_yes (a b : Tm) (A B : Option Addr) (c d : Nat) (w : World) (ha : TmAt w a A c) (hb : TmAt w b B d) (ra : mayB a = true) (rb : mayB b = true) :
    Calls Tryz.prog 53 #[a.val A c, b.val B d] w fun e w' => e = .returned (.tuple #[.int .i64 (cmpT a b), .int .i64 0]) ∧ Ext w w' := by
  have RA := Lib.hid ra
  have RB := Lib.hid rb
  clear ra rb
  go_enter Tryz.func53, Tryz.ntmps53
  go_wp2_with fail
  refine (check_yes a A c _ (ha.ext (((Ext.refl _).alloc _).alloc _)) RA.out).mono ?_
  rintro e w1 ⟨rfl, hx1⟩
  have hx := (((Ext.refl w).alloc _).alloc _).trans hx1
  have b0 : w1.cell? ⟨w.heap.size + 1, 0, none⟩ = some (.int .i64 b.kind) := hx1.cell (by go_simp)
  have b1 : w1.cell? ⟨w.heap.size + 1, 1, none⟩ = some (.string b.name) := hx1.cell (by go_simp)
  have b2 : w1.cell? ⟨w.heap.size + 1, 2, none⟩ = some (.int .i64 b.n) := hx1.cell (by go_simp)
  have b3 : w1.cell? ⟨w.heap.size + 1, 3, none⟩ = some (.slice B b.args.length d) := hx1.cell (by go_simp)
  have a0 : w1.cell? ⟨w.heap.size, 0, none⟩ = some (.int .i64 a.kind) := hx1.cell (by go_simp)
  have a1 : w1.cell? ⟨w.heap.size, 1, none⟩ = some (.string a.name) := hx1.cell (by go_simp)
  have a2 : w1.cell? ⟨w.heap.size, 2, none⟩ = some (.int .i64 a.n) := hx1.cell (by go_simp)
  have a3 : w1.cell? ⟨w.heap.size, 3, none⟩ = some (.slice A a.args.length c) := hx1.cell (by go_simp)
  go_wp2_with fail
  refine (check_yes b B d _ (hb.ext hx) RB.out).mono ?_
  rintro e w2 ⟨rfl, hx2⟩
  have c0 := hx2.cell a0
  have c1 := hx2.cell a1
  have c2 := hx2.cell a2
  have c3 := hx2.cell a3
  have d0 := hx2.cell b0
  have d1 := hx2.cell b1
  have d2 := hx2.cell b2
  have d3 := hx2.cell b3
  have hxx := hx.trans hx2
  clear a0 a1 a2 a3 b0 b1 b2 b3
  go_wp2_with fail
  refine (compare_all 5 a b A B c d _ (may_high RA.out) (may_short RA.out) (may_short RB.out) (ha.ext hxx) (hb.ext hxx)).mono ?_
  rintro e w3 ⟨rfl, hx3⟩
  go_wp2_with fail
  go_ret2
  exact ⟨rfl, hxx.trans hx3⟩
set_option maxHeartbeats 1000000 in
theorem Order_no1 (a b : Tm) (A B : Option Addr) (c d : Nat) (w : World) (ha : TmAt w a A c) (ra : mayB a = false) :
    Calls Tryz.prog 53 #[a.val A c, b.val B d] w fun e w' => e = .returned (.tuple #[.int .i64 0, .int .i64 1]) ∧ Ext w w' := by
  have RA := Lib.hid ra
  clear ra
  go_enter Tryz.func53, Tryz.ntmps53
  go_wp2_with fail
  refine (check_no a A c _ (ha.ext (((Ext.refl _).alloc _).alloc _)) RA.out).mono ?_
  rintro e w1 ⟨rfl, hx1⟩
  go_wp2_with fail
  go_ret2
  exact ⟨rfl, (((Ext.refl w).alloc _).alloc _).trans hx1⟩
set_option maxHeartbeats 1000000 in
theorem Order_no2 (a b : Tm) (A B : Option Addr) (c d : Nat) (w : World) (ha : TmAt w a A c) (hb : TmAt w b B d) (ra : mayB a = true) (rb : mayB b = false) :
    Calls Tryz.prog 53 #[a.val A c, b.val B d] w fun e w' => e = .returned (.tuple #[.int .i64 0, .int .i64 1]) ∧ Ext w w' := by
  have RA := Lib.hid ra
  have RB := Lib.hid rb
  clear ra rb
  go_enter Tryz.func53, Tryz.ntmps53
  go_wp2_with fail
  refine (check_yes a A c _ (ha.ext (((Ext.refl _).alloc _).alloc _)) RA.out).mono ?_
  rintro e w1 ⟨rfl, hx1⟩
  have hx := (((Ext.refl w).alloc _).alloc _).trans hx1
  have b0 : w1.cell? ⟨w.heap.size + 1, 0, none⟩ = some (.int .i64 b.kind) := hx1.cell (by go_simp)
  have b1 : w1.cell? ⟨w.heap.size + 1, 1, none⟩ = some (.string b.name) := hx1.cell (by go_simp)
  have b2 : w1.cell? ⟨w.heap.size + 1, 2, none⟩ = some (.int .i64 b.n) := hx1.cell (by go_simp)
  have b3 : w1.cell? ⟨w.heap.size + 1, 3, none⟩ = some (.slice B b.args.length d) := hx1.cell (by go_simp)
  go_wp2_with fail
  refine (check_no b B d _ (hb.ext hx) RB.out).mono ?_
  rintro e w2 ⟨rfl, hx2⟩
  go_wp2_with fail
  go_ret2
  exact ⟨rfl, hx.trans hx2⟩
end Go.Proofs.YtkdhpifjljkpfaaGreat
