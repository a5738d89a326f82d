/- The order of terms: compare, slices.CompareFunc over it, Order. -/
import Derived.Test.YthmpolifgngdiaaMB
import Derived.Test.YthmpolifgngdiaaWf
import Derived.Deep.RegionHeld3
namespace Go.Proofs.Ythmpolifgngdiaa
open Go.RowKit

/-- how two names compare -/
def cmpN (s t : ByteArray) : Int := labI (nm 8 s.data.toList : Nat) (nm 8 (s.data.toList.drop 8) : Nat) (nm 8 t.data.toList : Nat) (nm 8 (t.data.toList.drop 8) : Nat)

mutual
/-- how two terms compare -/
def cmpT : Tm → Tm → Int
  | ⟨k, s, n, l⟩, b =>
    if (sgn k b.kind != 0) = true then sgn k b.kind
    else if (sgn n b.n != 0) = true then sgn n b.n
    else if (sgn l.length b.args.length != 0) = true then sgn l.length b.args.length
    else if (cmpN s b.name != 0) = true then cmpN s b.name
    else cmpL l b.args
def cmpL : List Tm → List Tm → Int
  | [], [] => 0
  | [], _ :: _ => -1
  | _ :: _, [] => 1
  | a :: l, b :: r => if (cmpT a b != 0) = true then cmpT a b else cmpL l r
end

mutual
/-- all names have room in a label -/
def shortT : Tm → Prop
  | ⟨_, s, _, l⟩ => s.size ≤ 16 ∧ shortL l
def shortL : List Tm → Prop
  | [] => True
  | t :: ts => shortT t ∧ shortL ts
end
theorem shortL_mem : ∀ {ts : List Tm} {t : Tm}, shortL ts → t ∈ ts → shortT t
  | a :: ts, t, h, m => by
    rw [shortL] at h
    rcases List.mem_cons.1 m with e | e
    · subst e; exact h.1
    · exact shortL_mem h.2 e
theorem shortT.name {t : Tm} (h : shortT t) : t.name.size ≤ 16 := by obtain ⟨k, s, n, l⟩ := t; rw [shortT] at h; exact h.1
theorem shortT.args {t : Tm} (h : shortT t) : shortL t.args := by obtain ⟨k, s, n, l⟩ := t; rw [shortT] at h; exact h.2

theorem highs_eq (t : Tm) : t.high = highs t.args + 1 := by obtain ⟨k, s, n, l⟩ := t; rfl

/-- compare's contract, for terms not higher than so -/
def CompareTo (hh : Nat) : Prop := ∀ (a b : Tm) (A B : Option Addr) (c d : Nat) (w : World), a.high ≤ hh → shortT a → shortT b → TmAt w a A c → TmAt w b B d →
    Calls Try.prog 54 #[a.val A c, b.val B d] w fun e w' => e = .returned (.int .i64 (cmpT a b)) ∧ Ext w w'

set_option maxHeartbeats 1000000 in
theorem compareFunc_any (hh : Nat) (hc : CompareTo hh) (l r : List Tm) (A B : Option Addr) (c d : Nat) (w : World) (h1 : highs l ≤ hh) (hl : shortL l) (hr : shortL r) (ll : l.length * 56 ≤ 140737488351232)
    (ha : TmsAt w l A) (hb : TmsAt w r B) :
    Calls Try.prog 67 #[.slice A l.length c, .slice B r.length d, .func (.func 54) #[] #[]] w
      fun e w' => e = .returned (.int .i64 (cmpL l r)) ∧ Ext w w' := by
  have H0 : Hid (cmpL (l.drop 0) (r.drop 0) = cmpL l r) := Lib.hid (by rw [List.drop_zero, List.drop_zero])
  go_enter Try.func67, Try.ntmps67
  go_wp2_with fail
  go_loopw [13] (fun i wr => ∃ (k : Nat), k ≤ l.length ∧ k ≤ r.length ∧ i = .int .i64 k ∧ Hid (cmpL (l.drop k) (r.drop k) = cmpL l r) ∧ Ext w wr) (fun i _ => l.length - (intOf i).toNat)
  case atStart => exact ⟨0, Nat.zero_le _, Nat.zero_le _, rfl, H0, Ext.refl _⟩
  case round =>
    obtain ⟨k, hk, hk2, rfl, H, hx⟩ := hrel
    by_cases hlt : k < l.length
    · obtain ⟨b, o, C, e, rfl, c0, c1, c2, c3, hsub⟩ := (ha.ext hx).at_ hlt
      by_cases hlt2 : k < r.length
      · obtain ⟨b2, o2, C2, e2, rfl, d0, d1, d2, d3, hsub2⟩ := (hb.ext hx).at_ hlt2
        have H2 : Hid ((if (cmpT l[k] r[k] != 0) = true then cmpT l[k] r[k] else cmpL (l.drop (k + 1)) (r.drop (k + 1))) = cmpL l r) := by
          have := H.out
          rw [List.drop_eq_getElem_cons hlt, List.drop_eq_getElem_cons hlt2, cmpL] at this
          exact Lib.hid this
        have hh1 : l[k].high ≤ hh := Nat.le_trans (high_le (List.getElem_mem hlt)) h1
        have s1 := shortL_mem hl (List.getElem_mem hlt)
        have s2 := shortL_mem hr (List.getElem_mem hlt2)
        have lb2 := World.block_lt_of_cell? wr _ d0
        simp only at lb2
        clear H H0
        go_wp2_with fail
        refine (hc l[k] r[k] _ _ _ _ _ hh1 s1 s2 (hsub.ext (((Ext.refl _).alloc _).alloc _)) (hsub2.ext (((Ext.refl _).alloc _).alloc _))).mono ?_
        rintro e w1 ⟨rfl, hx1⟩
        have hx2 := hx.trans ((((Ext.refl _).alloc _).alloc _).trans hx1)
        by_cases hz : (cmpT l[k] r[k] != 0) = true
        · have H3 : Hid (cmpT l[k] r[k] = cmpL l r) := Lib.hid (by have := H2.out; rwa [if_pos hz] at this)
          clear H2
          go_wp2_with fail
          go_ret
          exact ⟨ret_int H3.out, hx2⟩
        · have hz' : (cmpT l[k] r[k] != 0) = false := by simpa using hz
          have H3 : Hid (cmpL (l.drop (k + 1)) (r.drop (k + 1)) = cmpL l r) := Lib.hid (by have := H2.out; rwa [if_neg hz] at this)
          clear H2 hz
          go_wp2_with fail
          go_roundw
          case rel => exact ⟨k + 1, by omega, by omega, by go_num, H3, hx2⟩
          case measure => simp [intOf]; omega
      · have H3 : Hid (1 = cmpL l r) := by
          have := H.out
          rw [List.drop_eq_getElem_cons hlt, show r.drop k = [] from List.drop_eq_nil_of_le (by omega), cmpL] at this
          exact Lib.hid this
        have hge : decide (r.length ≤ k) = true := decide_eq_true (by omega)
        clear H H0
        go_wp2_with fail
        go_ret
        exact ⟨ret_int H3.out, hx.trans ((Ext.refl _).alloc _)⟩
    · by_cases hlt2 : k < r.length
      · have H3 : Hid (-1 = cmpL l r) := by
          have := H.out
          rw [List.drop_eq_nil_of_le (by omega), List.drop_eq_getElem_cons hlt2, cmpL] at this
          exact Lib.hid this
        have hll : l.length < r.length := by omega
        clear H H0
        go_wp2_with fail
        go_ret
        exact ⟨ret_int H3.out, hx⟩
      · have H3 : Hid (0 = cmpL l r) := by
          have := H.out
          rw [show l.drop k = [] from List.drop_eq_nil_of_le (by omega), show r.drop k = [] from List.drop_eq_nil_of_le (by omega), cmpL] at this
          exact Lib.hid this
        have hll : decide (l.length < r.length) = false := decide_eq_false (by omega)
        clear H H0
        go_wp2_with fail
        go_ret
        exact ⟨ret_int H3.out, hx⟩
theorem cmpT_eq (a b : Tm) : cmpT a b = if (sgn a.kind b.kind != 0) = true then sgn a.kind b.kind
    else if (sgn a.n b.n != 0) = true then sgn a.n b.n
    else if (sgn a.args.length b.args.length != 0) = true then sgn a.args.length b.args.length
    else if (cmpN a.name b.name != 0) = true then cmpN a.name b.name
    else cmpL a.args b.args := by obtain ⟨k, s, n, l⟩ := a; rw [cmpT]

theorem not_true {b : Bool} (h : ¬ b = true) : b = false := by simpa using h

theorem pack_keep (S : World → Prop) (hS : ∀ u v : World, S u → Ext u v → S v) (s : ByteArray) (w : World) (hs : s.size ≤ 16) (h : S w) :
    Calls Try.prog 66 #[.string s] w fun e w' => e = .returned (.agg #[.int .u64 (nm 8 s.data.toList : Nat), .int .u64 (nm 8 (s.data.toList.drop 8) : Nat)]) ∧ S w' :=
  (pack_any s w hs).mono fun _ _ ⟨he, hx⟩ => ⟨he, hS _ _ h hx⟩
theorem labels_keep (S : World → Prop) (hS : ∀ u v : World, S u → Ext u v → S v) (a b c d : Int) (w : World) (h : S w) :
    Calls Try.prog 65 #[.agg #[.int .u64 a, .int .u64 b], .agg #[.int .u64 c, .int .u64 d]] w fun e w' => e = .returned (.int .i64 (labI a b c d)) ∧ S w' :=
  (labels_any a b c d w).mono fun _ _ ⟨he, hx⟩ => ⟨he, hS _ _ h hx⟩

set_option maxRecDepth 100000 in
set_option maxHeartbeats 4000000 in
theorem compare_all (hh : Nat) : CompareTo hh := by
  induction hh with
  | zero => intro a b A B c d w h0; have := high_pos a; omega
  | succ hh ih =>
    intro a b A B c d w h0 sa sb ha hb
    have la := ha.fits.args
    have lb := hb.fits.args
    have na := sa.name
    have nb := sb.name
    have ea := highs_eq a
    have HL : highs a.args ≤ hh := by omega
    clear ea
    have E := Lib.hid (cmpT_eq a b)
    have hx0 := ((Ext.refl w).alloc (.cells #[.int .i64 a.kind, .string a.name, .int .i64 a.n, .slice A a.args.length c] 32)).alloc (.cells #[.int .i64 b.kind, .string b.name, .int .i64 b.n, .slice B b.args.length d] 32)
    by_cases h1 : (sgn a.kind b.kind != 0) = true
    · have E1 := Lib.hid (E.out.trans (if_pos h1))
      go_enter Try.func54, Try.ntmps54
      go_wp2_with (go_at_call 64; refine (cmp_int _ _ _).mono ?_; rintro e w' ⟨rfl, rfl⟩)
      go_ret
      exact ⟨ret_int E1.out.symm, hx0⟩
    · have E1 := Lib.hid (E.out.trans (if_neg h1))
      have h1' := not_true h1
      clear h1 E
      by_cases h2 : (sgn a.n b.n != 0) = true
      · have E2 := Lib.hid (E1.out.trans (if_pos h2))
        go_enter Try.func54, Try.ntmps54
        go_wp2_with (go_at_call 64; refine (cmp_int _ _ _).mono ?_; rintro e w' ⟨rfl, rfl⟩)
        go_ret
        exact ⟨ret_int E2.out.symm, hx0⟩
      · have E2 := Lib.hid (E1.out.trans (if_neg h2))
        have h2' := not_true h2
        clear h2 E1
        by_cases h3 : (sgn a.args.length b.args.length != 0) = true
        · have E3 := Lib.hid (E2.out.trans (if_pos h3))
          go_enter Try.func54, Try.ntmps54
          go_wp2_with (go_at_call 64; refine (cmp_int _ _ _).mono ?_; rintro e w' ⟨rfl, rfl⟩)
          go_ret
          exact ⟨ret_int E3.out.symm, hx0⟩
        · have E3 := Lib.hid (E2.out.trans (if_neg h3))
          have h3' := not_true h3
          clear h3 E2
          go_enter Try.func54, Try.ntmps54
          go_wp2_with (go_at_call 64; refine (cmp_int _ _ _).mono ?_; rintro e w' ⟨rfl, rfl⟩)
          have q1 : (((w.alloc (.cells #[.int .i64 a.kind, .string a.name, .int .i64 a.n, .slice A a.args.length c] 32)).alloc (.cells #[.int .i64 b.kind, .string b.name, .int .i64 b.n, .slice B b.args.length d] 32))).cell? ⟨w.heap.size, 1, none⟩ = some (.string a.name) := by go_simp
          have q2 : (((w.alloc (.cells #[.int .i64 a.kind, .string a.name, .int .i64 a.n, .slice A a.args.length c] 32)).alloc (.cells #[.int .i64 b.kind, .string b.name, .int .i64 b.n, .slice B b.args.length d] 32))).cell? ⟨w.heap.size + 1, 1, none⟩ = some (.string b.name) := by go_simp
          have q3 : (((w.alloc (.cells #[.int .i64 a.kind, .string a.name, .int .i64 a.n, .slice A a.args.length c] 32)).alloc (.cells #[.int .i64 b.kind, .string b.name, .int .i64 b.n, .slice B b.args.length d] 32))).cell? ⟨w.heap.size, 3, none⟩ = some (.slice A a.args.length c) := by go_simp
          have q4 : (((w.alloc (.cells #[.int .i64 a.kind, .string a.name, .int .i64 a.n, .slice A a.args.length c] 32)).alloc (.cells #[.int .i64 b.kind, .string b.name, .int .i64 b.n, .slice B b.args.length d] 32))).cell? ⟨w.heap.size + 1, 3, none⟩ = some (.slice B b.args.length d) := by go_simp
          generalize ((w.alloc (.cells #[.int .i64 a.kind, .string a.name, .int .i64 a.n, .slice A a.args.length c] 32)).alloc (.cells #[.int .i64 b.kind, .string b.name, .int .i64 b.n, .slice B b.args.length d] 32)) = W0 at *
          have HM : Hid (∀ u v : World, (u.cell? ⟨w.heap.size, 1, none⟩ = some (.string a.name) ∧ u.cell? ⟨w.heap.size + 1, 1, none⟩ = some (.string b.name) ∧ Ext W0 u) → Ext u v →
            (v.cell? ⟨w.heap.size, 1, none⟩ = some (.string a.name) ∧ v.cell? ⟨w.heap.size + 1, 1, none⟩ = some (.string b.name) ∧ Ext W0 v)) :=
            Lib.hid fun u v h k => ⟨k.cell h.1, k.cell h.2.1, h.2.2.trans k⟩
          have hx00 := Ext.refl W0
          go_region_held3 (fun u => u.cell? ⟨w.heap.size, 1, none⟩ = some (.string a.name) ∧ u.cell? ⟨w.heap.size + 1, 1, none⟩ = some (.string b.name) ∧ Ext W0 u)
            (first | assumption | exact ⟨q1, q2, hx00⟩ | exact ⟨q1, q2, hx00.drew⟩ | go_keep)
            (first
              | (go_at_call 66; refine (pack_keep _ HM.out _ _ (by assumption) (by assumption)).mono ?_; rintro e w' ⟨rfl, hS⟩)
              | (go_at_call 65; refine (labels_keep _ HM.out _ _ _ _ _ (by assumption)).mono ?_; rintro e w' ⟨rfl, hS⟩))
          obtain ⟨r1, r2, r3⟩ := hS
          have p3 := r3.cell q3
          have p4 := r3.cell q4
          have hxe := hx0.trans r3
          have eN : cmpN a.name b.name = labI (nm 8 a.name.data.toList : Nat) (nm 8 (a.name.data.toList.drop 8) : Nat) (nm 8 b.name.data.toList : Nat) (nm 8 (b.name.data.toList.drop 8) : Nat) := rfl
          have E4 := E3.out
          rw [eN] at E4
          clear E3 eN HM q1 q2 q3 q4
          generalize labI (nm 8 a.name.data.toList : Nat) (nm 8 (a.name.data.toList.drop 8) : Nat) (nm 8 b.name.data.toList : Nat) (nm 8 (b.name.data.toList.drop 8) : Nat) = N at *
          by_cases h4 : (N != 0) = true
          · have E5 := Lib.hid (E4.trans (if_pos h4))
            clear E4
            go_wp2_with fail
            go_ret
            exact ⟨ret_int E5.out.symm, hxe⟩
          · have E5 := Lib.hid (E4.trans (if_neg h4))
            have h4' := not_true h4
            clear E4 h4
            go_wp2_with fail
            refine (compareFunc_any hh ih a.args b.args A B c d _ HL sa.args sb.args la (ha.args.ext hxe) (hb.args.ext hxe)).mono ?_
            rintro e w2 ⟨rfl, hx2⟩
            go_wp2_with fail
            go_ret
            exact ⟨ret_int E5.out.symm, hxe.trans hx2⟩
end Go.Proofs.Ythmpolifgngdiaa
