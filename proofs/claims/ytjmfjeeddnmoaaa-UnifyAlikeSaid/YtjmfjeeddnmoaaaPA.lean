/- Joined: Ush, Upu, Ubn, Uni, Ucp, Unm, Ute, Ude. -/
import Derived.Test.YtjmfjeeddnmoaaaME
import Derived.Test.YtjmfjeeddnmoaaaNF

/- unify.sameHead. -/
namespace Go.Proofs.Ytjmfjeeddnmoaaa
open Go.RowKit

/-- alike but for their arguments, of which there are as many -/
def headB (a b : Tm) : Bool := decide (a.kind = b.kind) && (a.name.toList == b.name.toList) && decide (a.n = b.n) && decide (a.args.length = b.args.length)

set_option maxRecDepth 100000 in
set_option maxHeartbeats 1000000 in
theorem sameHead_any (a b : Tm) (A B : Option Addr) (c d : Nat) (w : World) :
    Calls Try.prog 133 #[a.val A c, b.val B d] w fun e w' => e = .returned (.bool (headB a b)) ∧ Ext w w' := by
  have hx : Ext w ((w.alloc (.cells #[.int .i64 a.kind, .string a.name, .int .i64 a.n, .slice A a.args.length c] 28)).alloc (.cells #[.int .i64 b.kind, .string b.name, .int .i64 b.n, .slice B b.args.length d] 28)) := ((Ext.refl w).alloc _).alloc _
  by_cases hk : a.kind = b.kind
  · have h1 : (a.kind == b.kind) = true := by simp [hk]
    cases hn : (a.name.toList == b.name.toList) with
    | false =>
      have HF : Hid (false = headB a b) := Lib.hid (by unfold headB; rw [hn]; simp)
      clear hk
      go_enter Try.func133, Try.ntmps133
      go_wp2_with fail
      go_ret
      exact ⟨ret_bool HF.out, hx⟩
    | true =>
      by_cases hm : a.n = b.n
      · have h2 : (a.n == b.n) = true := by simp [hm]
        have HF : Hid (decide (a.args.length = b.args.length) = headB a b) := Lib.hid (by unfold headB; rw [hn, decide_eq_true hk, decide_eq_true hm]; simp)
        clear hk hm
        by_cases hl : a.args.length = b.args.length
        · have h3 : ((a.args.length : Int) == (b.args.length : Int)) = true := by simp [hl]
          have HT : Hid (true = headB a b) := Lib.hid (by rw [← HF.out, decide_eq_true hl])
          clear hl
          go_enter Try.func133, Try.ntmps133
          go_wp2_with fail
          go_ret
          exact ⟨ret_bool HT.out, hx⟩
        · have h3 : ((a.args.length : Int) == (b.args.length : Int)) = false := beq_eq_false_iff_ne.2 (by omega)
          have HT : Hid (false = headB a b) := Lib.hid (by rw [← HF.out, decide_eq_false hl])
          clear hl
          go_enter Try.func133, Try.ntmps133
          go_wp2_with fail
          go_ret
          exact ⟨ret_bool HT.out, hx⟩
      · have h2 : (a.n == b.n) = false := beq_eq_false_iff_ne.2 hm
        have HF : Hid (false = headB a b) := Lib.hid (by unfold headB; rw [decide_eq_false hm]; simp)
        clear hk hm
        go_enter Try.func133, Try.ntmps133
        go_wp2_with fail
        go_ret
        exact ⟨ret_bool HF.out, hx⟩
  · have h1 : (a.kind == b.kind) = false := beq_eq_false_iff_ne.2 hk
    have HF : Hid (false = headB a b) := Lib.hid (by unfold headB; rw [decide_eq_false hk]; simp)
    clear hk
    go_enter Try.func133, Try.ntmps133
    go_wp2_with fail
    go_ret
    exact ⟨ret_bool HF.out, hx⟩
end Go.Proofs.Ytjmfjeeddnmoaaa

/- What unify tells, as plain functions (pure). -/
namespace Go.Proofs.Ytjmfjeeddnmoaaa

theorem sea_low {bs : List Bd} {s : ByteArray} {i : Nat} (h : SeaAt bs s i false) : i = lowK bs s := by
  have lt_iff : ∀ a b : ByteArray, ltN a b = true ↔ cmpS a b < 0 := fun a b => by rw [ltN_cmp, decide_eq_true_eq]
  have hle := h.le
  have hl := lowK_le bs s
  by_cases h1 : i < lowK bs s
  · have := (lt_iff _ _).1 (lowK_lt bs s i (by omega) h1)
    have := h.hi i (by omega) (Nat.le_refl _)
    omega
  · by_cases h2 : lowK bs s < i
    · have h3 := lowK_at bs s (by omega)
      have := (lt_iff _ _).2 (h.lo (lowK bs s) (by omega) h2)
      rw [h3] at this; cases this
    · omega
/-- Set, as plain functions -/
def setE (bs : List Bd) (s : ByteArray) (t : Tm) : Int := if setB bs s t = true then (if okSet bs s t (lowK bs s) = true then 0 else 2) else 1
def setL (bs : List Bd) (s : ByteArray) (t : Tm) : List Bd := if (setB bs s t && okSet bs s t (lowK bs s)) = true then stlL ⟨s, t⟩ (insB bs (lowK bs s) ⟨s, t⟩) else []
theorem SetRel.is {bs : List Bd} {s : ByteArray} {t : Tm} {E : Int} {L : List Bd} (h : SetRel bs s t E L) : E = setE bs s t ∧ L = setL bs s t := by
  unfold setE setL
  rcases h with ⟨hn, rfl, rfl⟩ | ⟨hy, p, hp, ⟨ho, rfl, rfl⟩ | ⟨ho, rfl, rfl⟩⟩
  · rw [hn]; exact ⟨rfl, rfl⟩
  · have e := sea_low hp
    subst e
    rw [hy, ho]; exact ⟨rfl, rfl⟩
  · have e := sea_low hp
    subst e
    rw [hy, ho]; exact ⟨rfl, rfl⟩
/-- a pair with a variable in it: which one is set, and what to -/
def swapB (a b : Tm) : Bool := decide (a.kind ≠ 1) || (decide (a.kind = b.kind) && ltN a.name b.name)
def bndP (bs : List Bd) (a b : Tm) : Int × List Bd :=
  if (decide (a.kind = b.kind) && (a.name.toList == b.name.toList)) = true then (0, bs)
  else let x := if swapB a b = true then b else a
       let y := if swapB a b = true then a else b
       if setE bs x.name y = 1 then (3, []) else (setE bs x.name y, setL bs x.name y)
/-- pair by pair -/
def foldU (f : List Bd → Tm → Tm → Int × List Bd) : List Bd → List Tm → List Tm → Int × List Bd
  | bs, x :: xs, y :: ys => if (f bs x y).1 = 0 then foldU f (f bs x y).2 xs ys else ((f bs x y).1, [])
  | bs, _, _ => (0, bs)
def unifP : Nat → List Bd → Tm → Tm → Int × List Bd
  | 0, _, _, _ => (99, [])
  | n + 1, bs, a, b =>
    if applyE bs a = 0 then
      if applyE bs b = 0 then
        if (applyT bs a).kind = 1 ∨ (applyT bs b).kind = 1 then bndP bs (applyT bs a) (applyT bs b)
        else if headB (applyT bs a) (applyT bs b) = true then foldU (unifP n) bs (applyT bs a).args (applyT bs b).args else (3, [])
      else (applyE bs b, [])
    else (applyE bs a, [])
end Go.Proofs.Ytjmfjeeddnmoaaa

/- unify.bound. -/
namespace Go.Proofs.Ytjmfjeeddnmoaaa
open Go.RowKit

theorem set_U {bs : List Bd} {s : ByteArray} {t : Tm} {LA A : Option Addr} {lc c : Nat} {wi : World} (hs : s.size ≤ 140737488351232) (hl : bs.length ≤ 1000000) (hlc : bs.length ≤ lc) (hL : BdsAt wi bs LA) (h : TmAt wi t A c) (u : World) (hu : Ext wi u) :
    Calls Try.prog 44 #[.slice LA bs.length lc, .string s, t.val A c] u fun e w' => ∃ X xc, e = .returned (.tuple #[.slice X (setL bs s t).length xc, .int .i64 (setE bs s t)]) ∧ (setL bs s t).length ≤ xc ∧ BdsAt w' (setL bs s t) X ∧ Ext wi w' := by
  refine (Set_all bs s t LA A lc c u hl hlc (hL.ext hu) (h.ext hu) hs).mono ?_
  rintro e w' ⟨hx, hc⟩
  unfold setE setL
  rcases hc with ⟨hn, rfl⟩ | ⟨hy, i, hS, ⟨ho, A', c', B, d, G, rfl, hcc, hO⟩ | ⟨ho, rfl⟩⟩
  · rw [hn]; exact ⟨none, 0, rfl, by simp, BdsAt.nil _ _, hu.trans hx⟩
  · have hlen : (stlL ⟨s, t⟩ (insB bs i ⟨s, t⟩)).length = bs.length + 1 := by rw [stlL_len, insB_len _ _ _ hS.le]
    have e := sea_low hS
    subst e
    rw [hy, ho]
    simp only [Bool.and_self, if_true]
    exact ⟨A', c', by rw [hlen], by rw [hlen]; exact hcc, hO.at_, hu.trans hx⟩
  · have e := sea_low hS
    subst e
    rw [hy, ho]; exact ⟨none, 0, rfl, by simp, BdsAt.nil _ _, hu.trans hx⟩

def BndOut (r : Int × List Bd) (w : World) (e : Ending) (w' : World) : Prop :=
  ∃ X xc, e = .returned (.tuple #[.slice X r.2.length xc, .int .i64 r.1]) ∧ r.2.length ≤ xc ∧ BdsAt w' r.2 X ∧ Ext w w'
theorem bnd_set {bs : List Bd} {a b x y : Tm} (hne : (decide (a.kind = b.kind) && (a.name.toList == b.name.toList)) = false) (hx : (if swapB a b = true then b else a) = x) (hy : (if swapB a b = true then a else b) = y) :
    bndP bs a b = if setE bs x.name y = 1 then (3, []) else (setE bs x.name y, setL bs x.name y) := by
  unfold bndP
  rw [if_neg (by rw [hne]; exact Bool.false_ne_true)]
  simp only [hx, hy]

set_option maxRecDepth 100000 in
set_option maxHeartbeats 4000000 in
theorem bound_any (bs : List Bd) (a b : Tm) (LA A B : Option Addr) (lc c d : Nat) (w : World) (hl : bs.length ≤ 1000000) (hlc : bs.length ≤ lc) (hL : BdsAt w bs LA) (hA : TmAt w a A c) (hB : TmAt w b B d) :
    Calls Try.prog 132 #[.slice LA bs.length lc, a.val A c, b.val B d] w (BndOut (bndP bs a b) w) := by
  have hx : Ext w ((w.alloc (.cells #[.int .i64 a.kind, .string a.name, .int .i64 a.n, .slice A a.args.length c] 28)).alloc (.cells #[.int .i64 b.kind, .string b.name, .int .i64 b.n, .slice B b.args.length d] 28)) := ((Ext.refl w).alloc _).alloc _
  have hna : a.name.size ≤ 140737488351232 := hA.fits.name
  have hnb : b.name.size ≤ 140737488351232 := hB.fits.name
  by_cases hk : a.kind = b.kind
  · have h1 : (a.kind == b.kind) = true := by simp [hk]
    cases hn : (a.name.toList == b.name.toList) with
    | true =>
      have HR : Hid (bndP bs a b = (0, bs)) := Lib.hid (by unfold bndP; rw [if_pos (by rw [hn, decide_eq_true hk]; rfl)])
      have hLx := hL.ext hx
      clear hk
      go_enter Try.func132, Try.ntmps132
      go_wp2_with fail
      go_ret2
      exact ⟨LA, lc, by rw [HR.out]; rfl, by rw [HR.out]; exact hlc, by rw [HR.out]; exact hLx, hx⟩
    | false =>
      by_cases h1k : a.kind = 1
      · have h2 : (a.kind != 1) = false := by simp [h1k]
        cases hlt : Op.bytesLess a.name.toList b.name.toList with
        | true =>
          have hsw : swapB a b = true := by unfold swapB; rw [decide_eq_true hk]; unfold ltN; rw [hlt]; simp
          have HRB := Lib.hid (bnd_set (bs := bs) (a := a) (b := b) (x := b) (y := a) (by rw [hn]; simp) (by rw [if_pos hsw]) (by rw [if_pos hsw]))
          have hk0 := hk
          clear hk h1k hsw
          clear hk0
          go_enter Try.func132, Try.ntmps132
          go_wp2_with fail
          refine (set_U (s := b.name) (t := a) hnb hl hlc hL hA _ (by repeat (first | exact Ext.refl _ | refine Ext.alloc ?_ _ | refine Ext.setCell ?_ (by simp) _))).mono ?_
          rintro e w3 ⟨X3, x3, rfl, hc3, hB3, hx3⟩
          by_cases hE : setE bs b.name a = 1
          · have HR : Hid (bndP bs a b = (3, [])) := Lib.hid (by rw [HRB.out, if_pos hE])
            have hE' : (setE bs b.name a == 1) = true := by simp [hE]
            clear hE
            go_wp2_with fail
            go_ret2
            exact ⟨none, 0, by rw [HR.out]; rfl, by rw [HR.out]; simp, by rw [HR.out]; exact BdsAt.nil _ _, hx3⟩
          · have HR : Hid (bndP bs a b = (setE bs b.name a, setL bs b.name a)) := Lib.hid (by rw [HRB.out, if_neg hE])
            have hE' : (setE bs b.name a == 1) = false := by simp [hE]
            clear hE
            go_wp2_with fail
            go_ret2
            exact ⟨X3, x3, by rw [HR.out]; rfl, by rw [HR.out]; exact hc3, by rw [HR.out]; exact hB3, hx3⟩
        | false =>
          have hsw : swapB a b = false := by unfold swapB; rw [decide_eq_false (by simp [h1k])]; unfold ltN; rw [hlt]; simp
          have HRB := Lib.hid (bnd_set (bs := bs) (a := a) (b := b) (x := a) (y := b) (by rw [hn]; simp) (by rw [if_neg (by rw [hsw]; exact Bool.false_ne_true)]) (by rw [if_neg (by rw [hsw]; exact Bool.false_ne_true)]))
          have hk0 := hk
          clear hk h1k hsw
          clear hk0
          go_enter Try.func132, Try.ntmps132
          go_wp2_with fail
          refine (set_U (s := a.name) (t := b) hna hl hlc hL hB _ (by repeat (first | exact Ext.refl _ | refine Ext.alloc ?_ _ | refine Ext.setCell ?_ (by simp) _))).mono ?_
          rintro e w3 ⟨X3, x3, rfl, hc3, hB3, hx3⟩
          by_cases hE : setE bs a.name b = 1
          · have HR : Hid (bndP bs a b = (3, [])) := Lib.hid (by rw [HRB.out, if_pos hE])
            have hE' : (setE bs a.name b == 1) = true := by simp [hE]
            clear hE
            go_wp2_with fail
            go_ret2
            exact ⟨none, 0, by rw [HR.out]; rfl, by rw [HR.out]; simp, by rw [HR.out]; exact BdsAt.nil _ _, hx3⟩
          · have HR : Hid (bndP bs a b = (setE bs a.name b, setL bs a.name b)) := Lib.hid (by rw [HRB.out, if_neg hE])
            have hE' : (setE bs a.name b == 1) = false := by simp [hE]
            clear hE
            go_wp2_with fail
            go_ret2
            exact ⟨X3, x3, by rw [HR.out]; rfl, by rw [HR.out]; exact hc3, by rw [HR.out]; exact hB3, hx3⟩
      · have h2 : (a.kind != 1) = true := by simp [h1k]
        have hsw : swapB a b = true := by unfold swapB; rw [decide_eq_true (by simp [h1k])]; simp
        have HRB := Lib.hid (bnd_set (bs := bs) (a := a) (b := b) (x := b) (y := a) (by rw [hn]; simp) (by rw [if_pos hsw]) (by rw [if_pos hsw]))
        have hk0 := hk
        clear hk h1k hsw
        clear hk0
        go_enter Try.func132, Try.ntmps132
        go_wp2_with fail
        refine (set_U (s := b.name) (t := a) hnb hl hlc hL hA _ (by repeat (first | exact Ext.refl _ | refine Ext.alloc ?_ _ | refine Ext.setCell ?_ (by simp) _))).mono ?_
        rintro e w3 ⟨X3, x3, rfl, hc3, hB3, hx3⟩
        by_cases hE : setE bs b.name a = 1
        · have HR : Hid (bndP bs a b = (3, [])) := Lib.hid (by rw [HRB.out, if_pos hE])
          have hE' : (setE bs b.name a == 1) = true := by simp [hE]
          clear hE
          go_wp2_with fail
          go_ret2
          exact ⟨none, 0, by rw [HR.out]; rfl, by rw [HR.out]; simp, by rw [HR.out]; exact BdsAt.nil _ _, hx3⟩
        · have HR : Hid (bndP bs a b = (setE bs b.name a, setL bs b.name a)) := Lib.hid (by rw [HRB.out, if_neg hE])
          have hE' : (setE bs b.name a == 1) = false := by simp [hE]
          clear hE
          go_wp2_with fail
          go_ret2
          exact ⟨X3, x3, by rw [HR.out]; rfl, by rw [HR.out]; exact hc3, by rw [HR.out]; exact hB3, hx3⟩
  · have h1 : (a.kind == b.kind) = false := beq_eq_false_iff_ne.2 hk
    by_cases h1k : a.kind = 1
    · have h2 : (a.kind != 1) = false := by simp [h1k]
      have hsw : swapB a b = false := by unfold swapB; rw [decide_eq_false (by simp [h1k]), decide_eq_false hk]; rfl
      have HRB := Lib.hid (bnd_set (bs := bs) (a := a) (b := b) (x := a) (y := b) (by rw [decide_eq_false hk]; rfl) (by rw [if_neg (by rw [hsw]; exact Bool.false_ne_true)]) (by rw [if_neg (by rw [hsw]; exact Bool.false_ne_true)]))
      have hk0 := hk
      clear hk h1k hsw
      clear hk0
      go_enter Try.func132, Try.ntmps132
      go_wp2_with fail
      refine (set_U (s := a.name) (t := b) hna hl hlc hL hB _ (by repeat (first | exact Ext.refl _ | refine Ext.alloc ?_ _ | refine Ext.setCell ?_ (by simp) _))).mono ?_
      rintro e w3 ⟨X3, x3, rfl, hc3, hB3, hx3⟩
      by_cases hE : setE bs a.name b = 1
      · have HR : Hid (bndP bs a b = (3, [])) := Lib.hid (by rw [HRB.out, if_pos hE])
        have hE' : (setE bs a.name b == 1) = true := by simp [hE]
        clear hE
        go_wp2_with fail
        go_ret2
        exact ⟨none, 0, by rw [HR.out]; rfl, by rw [HR.out]; simp, by rw [HR.out]; exact BdsAt.nil _ _, hx3⟩
      · have HR : Hid (bndP bs a b = (setE bs a.name b, setL bs a.name b)) := Lib.hid (by rw [HRB.out, if_neg hE])
        have hE' : (setE bs a.name b == 1) = false := by simp [hE]
        clear hE
        go_wp2_with fail
        go_ret2
        exact ⟨X3, x3, by rw [HR.out]; rfl, by rw [HR.out]; exact hc3, by rw [HR.out]; exact hB3, hx3⟩
    · have h2 : (a.kind != 1) = true := by simp [h1k]
      have hsw : swapB a b = true := by unfold swapB; rw [decide_eq_true (by simp [h1k])]; simp
      have HRB := Lib.hid (bnd_set (bs := bs) (a := a) (b := b) (x := b) (y := a) (by rw [decide_eq_false hk]; rfl) (by rw [if_pos hsw]) (by rw [if_pos hsw]))
      have hk0 := hk
      clear hk h1k hsw
      clear hk0
      go_enter Try.func132, Try.ntmps132
      go_wp2_with fail
      refine (set_U (s := b.name) (t := a) hnb hl hlc hL hA _ (by repeat (first | exact Ext.refl _ | refine Ext.alloc ?_ _ | refine Ext.setCell ?_ (by simp) _))).mono ?_
      rintro e w3 ⟨X3, x3, rfl, hc3, hB3, hx3⟩
      by_cases hE : setE bs b.name a = 1
      · have HR : Hid (bndP bs a b = (3, [])) := Lib.hid (by rw [HRB.out, if_pos hE])
        have hE' : (setE bs b.name a == 1) = true := by simp [hE]
        clear hE
        go_wp2_with fail
        go_ret2
        exact ⟨none, 0, by rw [HR.out]; rfl, by rw [HR.out]; simp, by rw [HR.out]; exact BdsAt.nil _ _, hx3⟩
      · have HR : Hid (bndP bs a b = (setE bs b.name a, setL bs b.name a)) := Lib.hid (by rw [HRB.out, if_neg hE])
        have hE' : (setE bs b.name a == 1) = false := by simp [hE]
        clear hE
        go_wp2_with fail
        go_ret2
        exact ⟨X3, x3, by rw [HR.out]; rfl, by rw [HR.out]; exact hc3, by rw [HR.out]; exact hB3, hx3⟩
end Go.Proofs.Ytjmfjeeddnmoaaa

/- unify.unified. -/
namespace Go.Proofs.Ytjmfjeeddnmoaaa
open Go.RowKit

theorem setL_len (bs : List Bd) (s : ByteArray) (t : Tm) : (setL bs s t).length ≤ bs.length + 1 := by
  unfold setL
  split
  · rw [stlL_len, insB_len _ _ _ (lowK_le _ _)]; exact Nat.le_refl _
  · simp
theorem setL_short (bs : List Bd) (s : ByteArray) (t : Tm) (hl : bs.length ≤ 1000000) : (setL bs s t).length ≤ 1000000 := by
  unfold setL
  split
  · rename_i h
    rw [Bool.and_eq_true] at h
    have := h.2
    unfold okSet at this
    rw [Bool.and_eq_true, decide_eq_true_eq] at this
    rw [stlL_len, insB_len _ _ _ (lowK_le _ _)]; omega
  · simp
theorem bndP_short (bs : List Bd) (a b : Tm) (hl : bs.length ≤ 1000000) : (bndP bs a b).2.length ≤ 1000000 := by
  by_cases h : (decide (a.kind = b.kind) && (a.name.toList == b.name.toList)) = true
  · unfold bndP; rw [if_pos h]; exact hl
  · have h' : (decide (a.kind = b.kind) && (a.name.toList == b.name.toList)) = false := by simpa using h
    rw [bnd_set (bs := bs) h' rfl rfl]
    by_cases hE : setE bs (if swapB a b = true then b else a).name (if swapB a b = true then a else b) = 1
    · rw [if_pos hE]; simp
    · rw [if_neg hE]; exact setL_short _ _ _ hl
theorem foldU_short {f : List Bd → Tm → Tm → Int × List Bd} (hf : ∀ bs a b, bs.length ≤ 1000000 → (f bs a b).2.length ≤ 1000000) : ∀ (xs ys : List Tm) (bs : List Bd), bs.length ≤ 1000000 → (foldU f bs xs ys).2.length ≤ 1000000
  | [], _, bs, h => by rw [foldU]; exact h; intros; simp_all
  | x :: xs, [], bs, h => by rw [foldU]; exact h; intros; simp_all
  | x :: xs, y :: ys, bs, h => by
    rw [foldU]
    split
    · exact foldU_short hf xs ys _ (hf _ _ _ h)
    · simp
theorem unifP_short : ∀ (n : Nat) (bs : List Bd) (a b : Tm), bs.length ≤ 1000000 → (unifP n bs a b).2.length ≤ 1000000
  | 0, _, _, _, _ => by simp [unifP]
  | n + 1, bs, a, b, h => by
    rw [unifP]
    split
    · split
      · split
        · exact bndP_short _ _ _ h
        · split
          · exact foldU_short (unifP_short n) _ _ _ h
          · simp
      · simp
    · simp
theorem chain_block (w : World) (g k : Nat) (u0 u1 u2 u3 : Value) (h : k ≠ g) : ((((w.setCell ⟨g, 0, none⟩ u0).setCell ⟨g, 1, none⟩ u1).setCell ⟨g, 2, none⟩ u2).setCell ⟨g, 3, none⟩ u3).heap[k]? = w.heap[k]? := by
  rw [Below.heap_setCell _ _ _ _ h, Below.heap_setCell _ _ _ _ h, Below.heap_setCell _ _ _ _ h, Below.heap_setCell _ _ _ _ h]
theorem Box4.chain {w : World} {g : Nat} {v0 v1 v2 v3 : Value} (h : Box4 w g v0 v1 v2 v3) (u0 u1 u2 u3 : Value) : Box4 ((((w.setCell ⟨g, 0, none⟩ u0).setCell ⟨g, 1, none⟩ u1).setCell ⟨g, 2, none⟩ u2).setCell ⟨g, 3, none⟩ u3) g u0 u1 u2 u3 := by
  obtain ⟨a, b, c, d, f0, f1, f2, f3⟩ := h
  exact ⟨by go_simp, by go_simp, by go_simp, by go_simp, by go_simp, by go_simp, by go_simp, by go_simp⟩
theorem chain_ext {w0 w : World} {g : Nat} (h : Ext w0 w) (hg : w0.heap.size ≤ g) (u0 u1 u2 u3 : Value) : Ext w0 ((((w.setCell ⟨g, 0, none⟩ u0).setCell ⟨g, 1, none⟩ u1).setCell ⟨g, 2, none⟩ u2).setCell ⟨g, 3, none⟩ u3) :=
  Ext.setCell (Ext.setCell (Ext.setCell (Ext.setCell h hg _) hg _) hg _) hg _

def UnifTo (n : Nat) : Prop := ∀ (bs : List Bd) (a b : Tm) (LA A B : Option Addr) (lc c d : Nat) (w : World), (unifP n bs a b).1 ≠ 99 → bs.length ≤ 1000000 → bs.length ≤ lc → BdsAt w bs LA → TmAt w a A c → TmAt w b B d →
    Calls Try.prog 102 #[.slice LA bs.length lc, a.val A c, b.val B d] w (BndOut (unifP n bs a b) w)

set_option maxRecDepth 100000 in
set_option maxHeartbeats 8000000 in
theorem unified_any (n : Nat) : UnifTo n := by
  induction n with
  | zero => intro bs a b LA A B lc c d w h99; exact absurd rfl h99
  | succ n ih =>
    intro bs a b LA A B lc c d w h99 hl hlc hL hA hB
    have IH := Lib.hid ih
    have H99 := Lib.hid h99
    clear ih h99
    have hx0 : Ext w ((w.alloc (.cells #[.int .i64 a.kind, .string a.name, .int .i64 a.n, .slice A a.args.length c] 28)).alloc (.cells #[.int .i64 b.kind, .string b.name, .int .i64 b.n, .slice B b.args.length d] 28)) := ((Ext.refl w).alloc _).alloc _
    go_enter Try.func102, Try.ntmps102
    go_wp2_with fail
    refine (Apply_all bs a LA A lc c _ hl (hL.ext hx0) (hA.ext hx0)).mono ?_
    rintro e2 w2 ⟨A2, c2, rfl, hO2, hx2⟩
    have HBa : Hid (Box4 w2 w.heap.size (.int .i64 a.kind) (.string a.name) (.int .i64 a.n) (.slice A a.args.length c)) := Lib.hid (Box4.ext ⟨by go_simp, by go_simp, by go_simp, by go_simp, by go_simp, by go_simp, by go_simp, by go_simp⟩ hx2)
    have HBb : Hid (Box4 w2 (w.heap.size + 1) (.int .i64 b.kind) (.string b.name) (.int .i64 b.n) (.slice B b.args.length d)) := Lib.hid (Box4.ext ⟨by go_simp, by go_simp, by go_simp, by go_simp, by go_simp, by go_simp, by go_simp, by go_simp⟩ hx2)
    have hs2 : w.heap.size + 1 + 1 ≤ w2.heap.size := by have := hx2.size; simpa using this
    have hx02 := hx0.trans hx2
    have HO2 : Hid (TmOwn w2 (applyT bs a) A2 c2 (fun k => w.heap.size + 2 ≤ k ∧ k < w2.heap.size)) := Lib.hid (hO2.weak fun k hk => ⟨by have := hk.1; simpa using this, hk.2⟩)
    clear hO2 hx2 hx0
    obtain ⟨x0, x1, x2, x3, f0, f1, f2, f3⟩ := HBa.out
    by_cases hEa : applyE bs a = 0
    · have q1 : (applyE bs a != 0) = false := by rw [hEa]; rfl
      have HEa := Lib.hid hEa
      clear hEa
      go_upto_region 4 with (fail)
      obtain ⟨w3, hw3⟩ : ∃ w3, w3 = (((w2.setCell ⟨w.heap.size, 0, none⟩ (.int .i64 (applyT bs a).kind)).setCell ⟨w.heap.size, 1, none⟩ (.string (applyT bs a).name)).setCell ⟨w.heap.size, 2, none⟩ (.int .i64 (applyT bs a).n)).setCell ⟨w.heap.size, 3, none⟩ (.slice A2 (applyT bs a).args.length c2) := ⟨_, rfl⟩
      rw [← hw3]
      have HB3a : Hid (Box4 w3 w.heap.size (.int .i64 (applyT bs a).kind) (.string (applyT bs a).name) (.int .i64 (applyT bs a).n) (.slice A2 (applyT bs a).args.length c2)) := Lib.hid (by rw [hw3]; exact HBa.out.chain _ _ _ _)
      have HB3b : Hid (Box4 w3 (w.heap.size + 1) (.int .i64 b.kind) (.string b.name) (.int .i64 b.n) (.slice B b.args.length d)) := Lib.hid (by rw [hw3]; exact HBb.out.same (chain_block _ _ _ _ _ _ _ (by omega)))
      have hx03 : Ext w w3 := by rw [hw3]; exact chain_ext hx02 (Nat.le_refl _) _ _ _ _
      have HO3 : Hid (TmOwn w3 (applyT bs a) A2 c2 (fun k => w.heap.size + 2 ≤ k ∧ k < w2.heap.size)) := Lib.hid (by rw [hw3]; exact HO2.out.keep fun k hk _ => chain_block _ _ _ _ _ _ _ (by omega))
      have hs3 : w3.heap.size = w2.heap.size := by rw [hw3]; simp [World.setCell]
      clear hw3 HBa HBb HO2 x0 x1 x2 x3 f0 f1 f2 f3 q1
      obtain ⟨x0, x1, x2, x3, f0, f1, f2, f3⟩ := HB3b.out
      have hL3 := hL.ext hx03
      have hB3 := hB.ext hx03
      go_wp2_with fail
      refine (Apply_all bs b LA B lc d _ hl hL3 hB3).mono ?_
      rintro e4 w4 ⟨B4, d4, rfl, hO4, hx4⟩
      have HB4a := Lib.hid (HB3a.out.ext hx4)
      have HB4b := Lib.hid (HB3b.out.ext hx4)
      have HO4a := Lib.hid (HO3.out.ext hx4)
      have HO4b : Hid (TmOwn w4 (applyT bs b) B4 d4 (fun k => w.heap.size + 2 ≤ k ∧ k < w4.heap.size)) := Lib.hid (hO4.weak fun k hk => ⟨by have := hk.1; omega, hk.2⟩)
      have hx04 := hx03.trans hx4
      clear hO4 HB3a HB3b HO3 x0 x1 x2 x3 f0 f1 f2 f3 hL3 hB3
      obtain ⟨x0, x1, x2, x3, f0, f1, f2, f3⟩ := HB4b.out
      by_cases hEb : applyE bs b = 0
      · have q1 : (applyE bs b != 0) = false := by rw [hEb]; rfl
        have HEb := Lib.hid hEb
        clear hEb
        go_upto_region 7 with (fail)
        obtain ⟨w5, hw5⟩ : ∃ w5, w5 = (((w4.setCell ⟨w.heap.size + 1, 0, none⟩ (.int .i64 (applyT bs b).kind)).setCell ⟨w.heap.size + 1, 1, none⟩ (.string (applyT bs b).name)).setCell ⟨w.heap.size + 1, 2, none⟩ (.int .i64 (applyT bs b).n)).setCell ⟨w.heap.size + 1, 3, none⟩ (.slice B4 (applyT bs b).args.length d4) := ⟨_, rfl⟩
        rw [← hw5]
        have HB5b : Hid (Box4 w5 (w.heap.size + 1) (.int .i64 (applyT bs b).kind) (.string (applyT bs b).name) (.int .i64 (applyT bs b).n) (.slice B4 (applyT bs b).args.length d4)) := Lib.hid (by rw [hw5]; exact HB4b.out.chain _ _ _ _)
        have HB5a : Hid (Box4 w5 w.heap.size (.int .i64 (applyT bs a).kind) (.string (applyT bs a).name) (.int .i64 (applyT bs a).n) (.slice A2 (applyT bs a).args.length c2)) := Lib.hid (by rw [hw5]; exact HB4a.out.same (chain_block _ _ _ _ _ _ _ (by omega)))
        have hx05 : Ext w w5 := by rw [hw5]; exact chain_ext hx04 (by omega) _ _ _ _
        have hTa : TmAt w5 (applyT bs a) A2 c2 := by rw [hw5]; exact (HO4a.out.keep fun k hk _ => chain_block _ _ _ _ _ _ _ (by omega)).at_
        have hTb : TmAt w5 (applyT bs b) B4 d4 := by rw [hw5]; exact (HO4b.out.keep fun k hk _ => chain_block _ _ _ _ _ _ _ (by omega)).at_
        have hL5 := hL.ext hx05
        have HU : Hid (unifP (n + 1) bs a b = if (applyT bs a).kind = 1 ∨ (applyT bs b).kind = 1 then bndP bs (applyT bs a) (applyT bs b) else if headB (applyT bs a) (applyT bs b) = true then foldU (unifP n) bs (applyT bs a).args (applyT bs b).args else (3, [])) := Lib.hid (by rw [unifP, if_pos HEa.out, if_pos HEb.out])
        clear hw5 HB4a HB4b HO4a HO4b x0 x1 x2 x3 f0 f1 f2 f3 q1
        generalize applyT bs a = a1 at *
        generalize applyT bs b = b1 at *
        obtain ⟨x0, x1, x2, x3, _, _, _, _⟩ := HB5a.out
        obtain ⟨y0, y1, y2, y3, _, _, _, _⟩ := HB5b.out
        by_cases hv : a1.kind = 1 ∨ b1.kind = 1
        · have HR : Hid (unifP (n + 1) bs a b = bndP bs a1 b1) := Lib.hid (by rw [HU.out, if_pos hv])
          have KB := Lib.hid (bound_any bs a1 b1 LA A2 B4 lc c2 d4 w5 hl hlc hL5 hTa hTb)
          by_cases ha1 : a1.kind = 1
          · have q1 : (a1.kind == 1) = true := by simp [ha1]
            clear hv ha1
            go_wp2_with fail
            refine KB.out.mono ?_
            rintro e6 w6 ⟨X, xc, rfl, hc6, hB6, hx6⟩
            go_wp2_with fail
            go_ret2
            exact ⟨X, xc, by rw [HR.out]; rfl, by rw [HR.out]; exact hc6, by rw [HR.out]; exact hB6, hx05.trans hx6⟩
          · have q1 : (a1.kind == 1) = false := by simp [ha1]
            have q2 : (b1.kind == 1) = true := by simpa [ha1] using hv
            clear hv ha1
            go_wp2_with fail
            refine KB.out.mono ?_
            rintro e6 w6 ⟨X, xc, rfl, hc6, hB6, hx6⟩
            go_wp2_with fail
            go_ret2
            exact ⟨X, xc, by rw [HR.out]; rfl, by rw [HR.out]; exact hc6, by rw [HR.out]; exact hB6, hx05.trans hx6⟩
        · have q1 : (a1.kind == 1) = false := by simp; exact fun e => hv (.inl e)
          have q2 : (b1.kind == 1) = false := by simp; exact fun e => hv (.inr e)
          have HV : Hid (unifP (n + 1) bs a b = if headB a1 b1 = true then foldU (unifP n) bs a1.args b1.args else (3, [])) := Lib.hid (by rw [HU.out, if_neg hv])
          clear hv HU
          cases hh : headB a1 b1 with
          | false =>
            have HR : Hid (unifP (n + 1) bs a b = (3, [])) := Lib.hid (by rw [HV.out, hh]; rfl)
            have KH := Lib.hid (sameHead_any a1 b1 A2 B4 c2 d4 w5)
            rw [hh] at KH
            clear hh
            go_wp2_with fail
            refine KH.out.mono ?_
            rintro e6 w6 ⟨rfl, hx6⟩
            go_wp2_with fail
            go_ret2
            exact ⟨none, 0, by rw [HR.out]; rfl, by rw [HR.out]; simp, by rw [HR.out]; exact BdsAt.nil _ _, hx05.trans hx6⟩
          | true =>
            have HR : Hid (unifP (n + 1) bs a b = foldU (unifP n) bs a1.args b1.args) := Lib.hid (by rw [HV.out, hh]; rfl)
            have hlen : a1.args.length = b1.args.length := by
              unfold headB at hh
              simp only [Bool.and_eq_true, decide_eq_true_eq] at hh
              exact hh.2
            have HLEN := Lib.hid hlen
            clear hlen
            have KH := Lib.hid (sameHead_any a1 b1 A2 B4 c2 d4 w5)
            rw [hh] at KH
            clear hh HV
            go_wp2_with fail
            refine KH.out.mono ?_
            rintro e6 w6 ⟨rfl, hx6⟩
            have hx06 := hx05.trans hx6
            have z3 := hx6.cell x3
            have t3 := hx6.cell y3
            have hfa : a1.args.length * 56 ≤ 140737488351232 := hTa.fits.args
            have hTa6 := hTa.ext hx6
            have hTb6 := hTb.ext hx6
            have hL6 := hL5.ext hx6
            clear KH x0 x1 x2 x3 y0 y1 y2 y3 hTa hTb hL5 HB5a HB5b q1 q2 hL hA hB
            go_wp2_with fail
            go_loopw [0, 49] (fun lv kv wr => ∃ (k : Nat) (cs : List Bd) (X : Option Addr) (xc : Nat), k ≤ a1.args.length ∧ lv = .slice X cs.length xc ∧ kv = .int .i64 k ∧ cs.length ≤ xc ∧ cs.length ≤ 1000000 ∧ BdsAt wr cs X ∧ Hid (foldU (unifP n) cs (a1.args.drop k) (b1.args.drop k) = unifP (n + 1) bs a b) ∧ Ext w6 wr) (fun _ kv _ => a1.args.length - (intOf kv).toNat)
            case atStart => exact ⟨0, bs, LA, lc, Nat.zero_le _, rfl, rfl, hlc, hl, hL6, Lib.hid (by rw [List.drop_zero, List.drop_zero, HR.out]), Ext.refl _⟩
            case round =>
              obtain ⟨k, cs, X, xc, hk, rfl, rfl, hcx, hcl, hCs, HF, hxr⟩ := hrel
              obtain ⟨wr', rfl⟩ : ∃ wr' : World, wr' = wr := ⟨_, rfl⟩
              have hk4 : (0 : Int) ≤ (k : Int) := Int.natCast_nonneg _
              by_cases hka : k < a1.args.length
              · have hkb : k < b1.args.length := by have := HLEN.out; omega
                obtain ⟨ab, ao, AA, ac, rfl, a0, a1', a2, a3, hTx⟩ := (hTa6.args.ext hxr).at_ hka
                obtain ⟨bb, bo, BB, bc, rfl, b0, b1', b2, b3, hTy⟩ := (hTb6.args.ext hxr).at_ hkb
                have HF2 : Hid ((if (unifP n cs a1.args[k] b1.args[k]).1 = 0 then foldU (unifP n) (unifP n cs a1.args[k] b1.args[k]).2 (a1.args.drop (k + 1)) (b1.args.drop (k + 1)) else ((unifP n cs a1.args[k] b1.args[k]).1, [])) = unifP (n + 1) bs a b) := Lib.hid (by
                  have := HF.out
                  rw [List.drop_eq_getElem_cons hka, List.drop_eq_getElem_cons hkb, foldU] at this
                  exact this)
                obtain ⟨x, hx⟩ : ∃ x, x = a1.args[k] := ⟨_, rfl⟩
                obtain ⟨y, hy⟩ : ∃ y, y = b1.args[k] := ⟨_, rfl⟩
                rw [← hx] at a0 a1' a2 a3 hTx HF2
                rw [← hy] at b0 b1' b2 b3 hTy HF2
                have hn99 : (unifP n cs x y).1 ≠ 99 := fun e => by
                  have h0 : ¬ (unifP n cs x y).1 = 0 := by omega
                  have h2 := HF2.out
                  rw [if_neg h0] at h2
                  apply H99.out
                  rw [← h2]; exact e
                have hsh := unifP_short n cs x y hcl
                have k1 : (k : Int) < (a1.args.length : Int) := by omega
                have k2 : (k : Int) < (b1.args.length : Int) := by omega
                have z3' := hxr.cell z3
                have t3' := hxr.cell t3
                have rulesI := fun (u : World) (z : Ext wr' u) => And.intro (z.cell z3') (And.intro (z.cell t3') (And.intro (z.cell a0) (And.intro (z.cell a1') (And.intro (z.cell a2) (And.intro (z.cell a3) (And.intro (z.cell b0) (And.intro (z.cell b1') (And.intro (z.cell b2) (z.cell b3)))))))))
                have hI0 := Ext.refl wr'
                have KU := Lib.hid (fun (u : World) (hu : Ext wr' u) => (IH.out cs x y X AA BB xc ac bc u hn99 hcl hcx (hCs.ext hu) (hTx.ext hu) (hTy.ext hu)).mono fun e' w' h' => (⟨h', hu⟩ : BndOut (unifP n cs x y) u e' w' ∧ Ext wr' u))
                clear hn99 hx hy HF a0 a1' a2 a3 b0 b1' b2 b3 hTx hTy hCs hTa6 hTb6 z3 t3 z3' t3'
                obtain ⟨r, hr⟩ : ∃ r, r = unifP n cs x y := ⟨_, rfl⟩
                rw [← hr] at HF2 hsh KU
                clear hr
                obtain ⟨E1, L1⟩ := r
                go_wp2_with fail
                go_region_held3 (fun u => Ext wr' u) (first | assumption | exact hI0.drew | exact hS7)
                  ((go_at_call 102; refine (KU.out _ (by assumption)).mono ?_; rintro e7 w7 ⟨⟨X7, x7, rfl, hc7, hB7, hx7⟩, hu7⟩; have hS7 := hu7.trans hx7))
                all_goals
                  clear rulesI KU
                  by_cases hE : E1 = 0
                  · have HF3 : Hid (foldU (unifP n) L1 (a1.args.drop (k + 1)) (b1.args.drop (k + 1)) = unifP (n + 1) bs a b) := Lib.hid (by have := HF2.out; rwa [if_pos hE] at this)
                    have q1 : (E1 != 0) = false := by simp [hE]
                    clear hE HF2
                    go_wp2_with fail
                    go_roundw
                    case rel => exact ⟨k + 1, L1, X7, x7, by omega, rfl, by go_num, hc7, hsh, hB7, HF3, hxr.trans hS7⟩
                    case measure => simp [intOf]; omega
                  · have HF3 : Hid (unifP (n + 1) bs a b = (E1, [])) := Lib.hid (by have := HF2.out; rw [if_neg hE] at this; exact this.symm)
                    have q1 : (E1 != 0) = true := by simp [hE]
                    clear hE HF2
                    go_wp2_with fail
                    go_ret2
                    exact ⟨none, 0, by rw [HF3.out]; rfl, by rw [HF3.out]; simp, by rw [HF3.out]; exact BdsAt.nil _ _, (hx06.trans hxr).trans hS7⟩
              · have HF3 : Hid (unifP (n + 1) bs a b = (0, cs)) := Lib.hid (by
                  have := HF.out
                  rw [List.drop_eq_nil_of_le (by omega), List.drop_eq_nil_of_le (by have := HLEN.out; omega)] at this
                  rw [← this, foldU]
                  intros; simp_all)
                clear HF
                go_wp2_with fail
                go_ret2
                exact ⟨X, xc, by rw [HF3.out]; rfl, by rw [HF3.out]; exact hcx, by rw [HF3.out]; exact hCs, hx06.trans hxr⟩
      · have q1 : (applyE bs b != 0) = true := by simp [hEb]
        have HR : Hid (unifP (n + 1) bs a b = (applyE bs b, [])) := Lib.hid (by rw [unifP, if_pos HEa.out, if_neg hEb])
        clear hEb
        go_wp2_with fail
        go_ret2
        exact ⟨none, 0, by rw [HR.out]; rfl, by rw [HR.out]; simp, by rw [HR.out]; exact BdsAt.nil _ _, chain_ext hx04 (by omega) _ _ _ _⟩
    · have q1 : (applyE bs a != 0) = true := by simp [hEa]
      have HR : Hid (unifP (n + 1) bs a b = (applyE bs a, [])) := Lib.hid (by rw [unifP, if_neg hEa])
      clear hEa
      go_wp2_with fail
      go_ret2
      exact ⟨none, 0, by rw [HR.out]; rfl, by rw [HR.out]; simp, by rw [HR.out]; exact BdsAt.nil _ _, chain_ext hx02 (Nat.le_refl _) _ _ _ _⟩
end Go.Proofs.Ytjmfjeeddnmoaaa

/- unify.copied; unify.Unify. -/
namespace Go.Proofs.Ytjmfjeeddnmoaaa
open Go.RowKit

theorem apply_nil {t : Tm} (h : mayB t = true) : applyE [] t = 0 ∧ applyT [] t = t := by
  have hb : bindsB [] = true := by decide
  unfold applyE applyT
  simp [hb, h, repT_nil]
theorem apply_none {t : Tm} (h : mayB t = true) (A : Option Addr) (c : Nat) (w : World) (hT : TmAt w t A c) :
    Calls Try.prog 49 #[.slice none 0 0, t.val A c] w fun e w' => ∃ A1 c1, e = .returned (.tuple #[t.val A1 c1, .int .i64 0]) ∧ TmOwn w' t A1 c1 (fun k => w.heap.size ≤ k ∧ k < w'.heap.size) ∧ Ext w w' := by
  have hA := Apply_all [] t none A 0 c w (by simp) (BdsAt.nil _ _) hT
  obtain ⟨h1, h2⟩ := apply_nil h
  unfold ApplyOut at hA
  rw [h1, h2] at hA
  exact hA

/-- binds in a row of its own, each term apart from it -/
def BdsFr (w : World) (g : Nat) (bs : List Bd) : Prop := ∃ (xs : List BLain) (G : Nat → Nat → Prop), xs.map (·.1) = bs ∧ w.ownsRow g 65 5 (.slice (some ⟨g, 0, none⟩) bs.length bs.length) bs.length (browCells xs) ∧
  ∀ i (hi : i < xs.length), TmOwn w xs[i].1.tm xs[i].2.1 xs[i].2.2 (G i) ∧ ¬ G i g ∧ xs[i].1.name.size ≤ 140737488351232
theorem BFill.lain {W w : World} {us : List Bd} {k : Nat} {zs : List BLain} {G : Nat → Nat → Prop} {ys : List Value} (h : BFill W w us W.heap.size k zs G ys) (hk : us.length ≤ k) : BdsFr w W.heap.size us := by
  have hm : zs.map (·.1) = us := by rw [h.map, List.take_of_length_le hk]
  have hl : zs.length = us.length := by have := congrArg List.length hm; rwa [List.length_map] at this
  have hy : ys = browCells zs := h.row.all (by rw [h.all, hl])
  refine ⟨zs, G, hm, by have := h.own; rwa [hy] at this, fun i hi => ⟨?_, fun hb => (h.inv.inF i (by simpa using hi) W.heap.size hb).2.2 rfl, h.names _ (List.getElem_mem _)⟩⟩
  have := h.inv.sub i (by simpa using hi)
  simpa only [List.getElem_map, BLain.tl] using this
theorem BdsFr.at_ {w : World} {g : Nat} {bs : List Bd} (h : BdsFr w g bs) : BdsAt w bs (some ⟨g, 0, none⟩) := by
  obtain ⟨xs, G, rfl, ho, hx⟩ := h
  obtain ⟨A, c, e, _, hB⟩ := owned_bds ho (fun x hx' => by
    obtain ⟨i, hi, rfl⟩ := List.mem_iff_getElem.1 hx'
    exact ⟨(hx i hi).1.at_, (hx i hi).2.2⟩)
  injection e with e
  rw [e]; exact hB
/-- .. and that is what copied tells -/
def CopiedFr (bs : List Bd) (w : World) (e : Ending) (w' : World) : Prop :=
  e = .returned (.slice (some ⟨w.heap.size, 0, none⟩) bs.length bs.length) ∧ BdsFr w' w.heap.size bs ∧ Ext w w'
set_option maxRecDepth 100000 in
set_option maxHeartbeats 4000000 in
theorem ucopied_fr (bs : List Bd) (A : Option Addr) (c : Nat) (w : World) (hl : bs.length ≤ 1000000) (hm : ∀ i (hi : i < bs.length), mayB bs[i].tm = true) (h : BdsAt w bs A) :
    Calls Try.prog 103 #[.slice A bs.length c] w (CopiedFr bs w) := by
  obtain ⟨i0', hi0, hz0, hz1, hz2⟩ := info_parts infoBd
  have hmk : ∀ u : World, (Instr.makeSlice 58 (.int .i64 (bs.length : Int)) (.int .i64 (bs.length : Int))).run Try.prog u =
      .ok (.slice (some ⟨u.heap.size, 0, none⟩) bs.length bs.length) (u.alloc (.cells (madeCells #[.string ⟨#[]⟩, .int .i64 0, .string ⟨#[]⟩, .int .i64 0, .slice none 0 0] (bs.length * 5)) 65)) := fun u => by
    have h := run_make (P := Try.prog) u 58 65 i0' _ Try.underlying58 hi0 hz0 .i64 .i64 (bs.length : Int) (bs.length : Int) (by omega) (Int.le_refl _) (by rw [hz2]; omega) (by omega)
    simp only [Int.toNat_natCast, hz1] at h
    exact h
  have HM := Lib.hid hm
  clear hm hz0 hz1 hz2 hi0
  go_enter Try.func103, Try.ntmps103
  go_wp2_with fail
  clear hmk
  go_loopw [13] (fun i wr => ∃ (k : Nat) (zs : List BLain) (G : Nat → Nat → Prop) (ys : List Value), k ≤ bs.length ∧ i = .int .i64 k ∧ BFill w wr bs w.heap.size k zs G ys) (fun i _ => bs.length - (intOf i).toNat)
  case atStart => exact ⟨0, [], _, _, Nat.zero_le _, rfl, BFill.start bs rfl _ rfl (size_madeCells _ _) (by unfold maxLen; omega)⟩
  case round =>
    obtain ⟨k, zs, G, ys, hk, rfl, hri⟩ := hrel
    obtain ⟨wa, rfl⟩ : ∃ wa : World, wa = wr := ⟨_, rfl⟩
    have hxr := hri.inv.ext
    by_cases hlt : k < bs.length
    · obtain ⟨b, o, B, e, rfl, c0, c1, c2, c3, c4, hsub, hnm⟩ := (h.ext hxr) k hlt
      obtain ⟨⟨q0, y0⟩, ⟨q1, y1⟩, ⟨q2, y2⟩, ⟨q3, y3⟩, ⟨q4, y4⟩, z0, z1, z2, z3, z4, hgl2⟩ := hri.cells hlt
      have i0 : (0 : Int) ≤ (k : Int) := Int.natCast_nonneg _
      have i1 : (k : Int) < (bs.length : Int) := by omega
      obtain ⟨wb, hwb⟩ : ∃ wb, wb = wa.alloc (.cells #[.string bs[k].name, .int .i64 bs[k].tm.kind, .string bs[k].tm.name, .int .i64 bs[k].tm.n, .slice B bs[k].tm.args.length e] 65) := ⟨_, rfl⟩
      have hxb : Ext wa wb := by rw [hwb]; exact (Ext.refl _).alloc _
      have HMK := Lib.hid (HM.out k hlt)
      have a0 : wb.cell? ⟨wa.heap.size, 0, none⟩ = some (.string bs[k].name) := by rw [hwb]; go_simp
      have KA := Lib.hid (apply_none HMK.out B e wb (hsub.ext hxb))
      go_wp2_with fail
      rw [← hwb]
      refine KA.out.mono ?_
      rintro e2 w2 ⟨A2, c2', rfl, hO2, hx2⟩
      have hsb := hxb.size
      have hs2 := hx2.size
      have hx2a := hxb.trans hx2
      have a0' := hx2.cell a0
      have HOA : Hid (TmOwn w2 bs[k].tm A2 c2' (fun x => wa.heap.size ≤ x ∧ x < w2.heap.size)) := Lib.hid (hO2.weak fun q hq => ⟨by have := hq.1; omega, hq.2⟩)
      clear KA hO2 hwb
      go_upto_region 6 with (fail)
      obtain ⟨w3, hw3⟩ : ∃ w3, w3 = w2.alloc (.cells #[.int .i64 bs[k].tm.kind, .string bs[k].tm.name, .int .i64 bs[k].tm.n, .slice A2 bs[k].tm.args.length c2'] 28) := ⟨_, rfl⟩
      rw [← hw3]
      have hx23 : Ext w2 w3 := by rw [hw3]; exact (Ext.refl _).alloc _
      have r0 : w3.cell? ⟨w2.heap.size, 0, none⟩ = some (.int .i64 bs[k].tm.kind) := by rw [hw3]; go_simp
      have r1 : w3.cell? ⟨w2.heap.size, 1, none⟩ = some (.string bs[k].tm.name) := by rw [hw3]; go_simp
      have r2 : w3.cell? ⟨w2.heap.size, 2, none⟩ = some (.int .i64 bs[k].tm.n) := by rw [hw3]; go_simp
      have r3 : w3.cell? ⟨w2.heap.size, 3, none⟩ = some (.slice A2 bs[k].tm.args.length c2') := by rw [hw3]; go_simp
      have hxa3 := hx2a.trans hx23
      have n0 := hx23.cell a0'
      have v0 := hxa3.cell y0
      have v1 := hxa3.cell y1
      have v2 := hxa3.cell y2
      have v3 := hxa3.cell y3
      have v4 := hxa3.cell y4
      have g0 := (Below.frozen hxa3 (p := ⟨w.heap.size, k * 5, none⟩) hgl2).trans z0
      have g1 := (Below.frozen hxa3 (p := ⟨w.heap.size, k * 5 + 1, none⟩) hgl2).trans z1
      have g2 := (Below.frozen hxa3 (p := ⟨w.heap.size, k * 5 + 2, none⟩) hgl2).trans z2
      have g3 := (Below.frozen hxa3 (p := ⟨w.heap.size, k * 5 + 3, none⟩) hgl2).trans z3
      have g4 := (Below.frozen hxa3 (p := ⟨w.heap.size, k * 5 + 4, none⟩) hgl2).trans z4
      have hs23 := hx23.size
      have hst := hri.store (us := bs) hlt (Nat.le_refl _) (A := A2) (c := c2') ((HOA.out.ext hx23).weak (fun q hq => ⟨hq.1, Nat.lt_of_lt_of_le hq.2 hs23⟩)) hxa3 hnm
      have HST := Lib.hid hst
      have hfold : ((((w3.setCell ⟨w.heap.size, k * 5, none⟩ (.string bs[k].name)).setCell ⟨w.heap.size, k * 5 + 1, none⟩ (.int .i64 bs[k].tm.kind)).setCell ⟨w.heap.size, k * 5 + 2, none⟩ (.string bs[k].tm.name)).setCell ⟨w.heap.size, k * 5 + 3, none⟩ (.int .i64 bs[k].tm.n)).setCell ⟨w.heap.size, k * 5 + 4, none⟩ (.slice A2 bs[k].tm.args.length c2') =
        set5 w3 w.heap.size (k * 5) (.string bs[k].name) (.int .i64 bs[k].tm.kind) (.string bs[k].tm.name) (.int .i64 bs[k].tm.n) (.slice A2 bs[k].tm.args.length c2') := rfl
      have HFO := Lib.hid hfold
      clear hw3 hfold hst hri HOA y0 y1 y2 y3 y4 z0 z1 z2 z3 z4 c0 c1 c2 c3 c4 a0 a0' hsub h
      go_wp2_with fail
      rw [HFO.out]
      go_roundw
      case rel =>
        obtain ⟨G', hst⟩ := HST.out
        exact ⟨k + 1, _, G', _, by omega, by go_num, hst⟩
      case measure => simp [intOf]; omega
    · have hd := Lib.hid (hri.lain (by omega))
      clear hri
      go_wp2_with fail
      go_ret
      exact ⟨rfl, hd.out, hxr⟩
theorem ucopied_any (bs : List Bd) (A : Option Addr) (c : Nat) (w : World) (hl : bs.length ≤ 1000000) (hm : ∀ i (hi : i < bs.length), mayB bs[i].tm = true) (h : BdsAt w bs A) :
    Calls Try.prog 103 #[.slice A bs.length c] w (CopiedBs bs w) :=
  (ucopied_fr bs A c w hl hm h).mono fun _ _ ⟨he, hB, hx⟩ => ⟨_, _, he, Nat.le_refl _, hB.at_, hx⟩

def unyP (n : Nat) (bs : List Bd) (a b : Tm) : Int × List Bd := if (bindsB bs && mayB a && mayB b) = true then (if (unifP n bs a b).1 = 0 then (0, (unifP n bs a b).2) else ((unifP n bs a b).1, [])) else (1, [])

set_option maxRecDepth 100000 in
set_option maxHeartbeats 4000000 in
theorem Unify_any (n : Nat) (bs : List Bd) (a b : Tm) (LA A B : Option Addr) (lc c d : Nat) (w : World) (h99 : (unifP n bs a b).1 ≠ 99) (hmay : (unifP n bs a b).1 = 0 → mayL (unifP n bs a b).2 = true) (hl : bs.length ≤ 1000000) (hlc : bs.length ≤ lc)
    (hL : BdsAt w bs LA) (hA : TmAt w a A c) (hB : TmAt w b B d) :
    Calls Try.prog 57 #[.slice LA bs.length lc, a.val A c, b.val B d] w (BndOut (unyP n bs a b) w) := by
  have hx0 : Ext w ((w.alloc (.cells #[.int .i64 a.kind, .string a.name, .int .i64 a.n, .slice A a.args.length c] 28)).alloc (.cells #[.int .i64 b.kind, .string b.name, .int .i64 b.n, .slice B b.args.length d] 28)) := ((Ext.refl w).alloc _).alloc _
  have HM := Lib.hid hmay
  have H99 := Lib.hid h99
  clear hmay h99
  obtain ⟨w1, hw1⟩ : ∃ w1, w1 = (w.alloc (.cells #[.int .i64 a.kind, .string a.name, .int .i64 a.n, .slice A a.args.length c] 28)).alloc (.cells #[.int .i64 b.kind, .string b.name, .int .i64 b.n, .slice B b.args.length d] 28) := ⟨_, rfl⟩
  rw [← hw1] at hx0
  have a0 : w1.cell? ⟨w.heap.size, 0, none⟩ = some (.int .i64 a.kind) := by rw [hw1]; go_simp
  have a1 : w1.cell? ⟨w.heap.size, 1, none⟩ = some (.string a.name) := by rw [hw1]; go_simp
  have a2 : w1.cell? ⟨w.heap.size, 2, none⟩ = some (.int .i64 a.n) := by rw [hw1]; go_simp
  have a3 : w1.cell? ⟨w.heap.size, 3, none⟩ = some (.slice A a.args.length c) := by rw [hw1]; go_simp
  have b0 : w1.cell? ⟨w.heap.size + 1, 0, none⟩ = some (.int .i64 b.kind) := by rw [hw1]; go_simp
  have b1 : w1.cell? ⟨w.heap.size + 1, 1, none⟩ = some (.string b.name) := by rw [hw1]; go_simp
  have b2 : w1.cell? ⟨w.heap.size + 1, 2, none⟩ = some (.int .i64 b.n) := by rw [hw1]; go_simp
  have b3 : w1.cell? ⟨w.heap.size + 1, 3, none⟩ = some (.slice B b.args.length d) := by rw [hw1]; go_simp
  have HW := Lib.hid hw1
  clear hw1
  cases hbb : bindsB bs with
  | false =>
    have HR : Hid (unyP n bs a b = (1, [])) := Lib.hid (by unfold unyP; rw [hbb]; rfl)
    have KC := Lib.hid (bcheck_no hbb LA lc w1 hl (hL.ext hx0))
    clear hbb
    go_enter Try.func57, Try.ntmps57
    go_wp2_with fail
    rw [← HW.out]
    refine KC.out.mono ?_
    rintro e2 w2 ⟨rfl, hx2⟩
    go_wp2_with fail
    go_ret2
    exact ⟨none, 0, by rw [HR.out]; rfl, by rw [HR.out]; simp, by rw [HR.out]; exact BdsAt.nil _ _, hx0.trans hx2⟩
  | true =>
    have KC := Lib.hid (bcheck_yes hbb LA lc w1 hl (hL.ext hx0))
    cases hma : mayB a with
    | false =>
      have HR : Hid (unyP n bs a b = (1, [])) := Lib.hid (by unfold unyP; rw [hma]; simp)
      have HMA := Lib.hid hma
      clear hbb hma
      go_enter Try.func57, Try.ntmps57
      go_wp2_with fail
      rw [← HW.out]
      refine KC.out.mono ?_
      rintro e2 w2 ⟨rfl, hx2⟩
      have c0 := hx2.cell a0
      have c1 := hx2.cell a1
      have c2 := hx2.cell a2
      have c3 := hx2.cell a3
      go_wp2_with fail
      refine (check_no a A c _ ((hA.ext hx0).ext hx2) HMA.out).mono ?_
      rintro e3 w3 ⟨rfl, hx3⟩
      go_wp2_with fail
      go_ret2
      exact ⟨none, 0, by rw [HR.out]; rfl, by rw [HR.out]; simp, by rw [HR.out]; exact BdsAt.nil _ _, (hx0.trans hx2).trans hx3⟩
    | true =>
      cases hmb : mayB b with
      | false =>
        have HR : Hid (unyP n bs a b = (1, [])) := Lib.hid (by unfold unyP; rw [hmb]; simp)
        have HMA := Lib.hid hma
        have HMB := Lib.hid hmb
        clear hbb hma hmb
        go_enter Try.func57, Try.ntmps57
        go_wp2_with fail
        rw [← HW.out]
        refine KC.out.mono ?_
        rintro e2 w2 ⟨rfl, hx2⟩
        have c0 := hx2.cell a0
        have c1 := hx2.cell a1
        have c2 := hx2.cell a2
        have c3 := hx2.cell a3
        go_wp2_with fail
        refine (check_yes a A c _ ((hA.ext hx0).ext hx2) HMA.out).mono ?_
        rintro e3 w3 ⟨rfl, hx3⟩
        have d0 := (hx2.trans hx3).cell b0
        have d1 := (hx2.trans hx3).cell b1
        have d2 := (hx2.trans hx3).cell b2
        have d3 := (hx2.trans hx3).cell b3
        go_wp2_with fail
        refine (check_no b B d _ ((hB.ext hx0).ext (hx2.trans hx3)) HMB.out).mono ?_
        rintro e4 w4 ⟨rfl, hx4⟩
        go_wp2_with fail
        go_ret2
        exact ⟨none, 0, by rw [HR.out]; rfl, by rw [HR.out]; simp, by rw [HR.out]; exact BdsAt.nil _ _, ((hx0.trans hx2).trans hx3).trans hx4⟩
      | true =>
        have HR : Hid (unyP n bs a b = if (unifP n bs a b).1 = 0 then (0, (unifP n bs a b).2) else ((unifP n bs a b).1, [])) := Lib.hid (by unfold unyP; rw [hbb, hma, hmb]; rfl)
        have HMA := Lib.hid hma
        have HMB := Lib.hid hmb
        clear hbb hma hmb
        have hsh := unifP_short n bs a b hl
        go_enter Try.func57, Try.ntmps57
        go_wp2_with fail
        rw [← HW.out]
        refine KC.out.mono ?_
        rintro e2 w2 ⟨rfl, hx2⟩
        have c0 := hx2.cell a0
        have c1 := hx2.cell a1
        have c2 := hx2.cell a2
        have c3 := hx2.cell a3
        go_wp2_with fail
        refine (check_yes a A c _ ((hA.ext hx0).ext hx2) HMA.out).mono ?_
        rintro e3 w3 ⟨rfl, hx3⟩
        have d0 := (hx2.trans hx3).cell b0
        have d1 := (hx2.trans hx3).cell b1
        have d2 := (hx2.trans hx3).cell b2
        have d3 := (hx2.trans hx3).cell b3
        go_wp2_with fail
        refine (check_yes b B d _ ((hB.ext hx0).ext (hx2.trans hx3)) HMB.out).mono ?_
        rintro e4 w4 ⟨rfl, hx4⟩
        have hx14 := (hx2.trans hx3).trans hx4
        have hx04 := hx0.trans hx14
        have f0 := hx14.cell a0
        have f1 := hx14.cell a1
        have f2 := hx14.cell a2
        have f3 := hx14.cell a3
        have g0 := hx14.cell b0
        have g1 := hx14.cell b1
        have g2 := hx14.cell b2
        have g3 := hx14.cell b3
        clear c0 c1 c2 c3 d0 d1 d2 d3 a0 a1 a2 a3 b0 b1 b2 b3 KC HW
        have KU := Lib.hid (unified_any n bs a b LA A B lc c d w4 H99.out hl hlc (hL.ext hx04) (hA.ext hx04) (hB.ext hx04))
        obtain ⟨r, hr⟩ : ∃ r, r = unifP n bs a b := ⟨_, rfl⟩
        rw [← hr] at HR HM hsh KU
        clear hr H99
        obtain ⟨E1, L1⟩ := r
        go_wp2_with fail
        refine KU.out.mono ?_
        rintro e5 w5 ⟨X5, x5, rfl, hc5, hB5, hx5⟩
        by_cases hE : E1 = 0
        · have q1 : (E1 != 0) = false := by simp [hE]
          have HR2 : Hid (unyP n bs a b = (0, L1)) := Lib.hid (by rw [HR.out, if_pos hE])
          have hmy := HM.out hE
          have HMY : Hid (∀ i (hi : i < L1.length), mayB L1[i].tm = true) := Lib.hid fun i hi => by
            unfold mayL at hmy
            rw [List.all_eq_true] at hmy
            exact hmy _ (List.getElem_mem hi)
          clear hE hmy HM HR KU
          go_wp2_with fail
          refine (ucopied_any L1 X5 x5 _ hsh HMY.out hB5).mono ?_
          rintro e6 w6 ⟨A6, c6, rfl, hc6, hB6, hx6⟩
          go_wp2_with fail
          go_ret2
          exact ⟨A6, c6, by rw [HR2.out]; rfl, by rw [HR2.out]; exact hc6, by rw [HR2.out]; exact hB6, (hx04.trans hx5).trans hx6⟩
        · have q1 : (E1 != 0) = true := by simp [hE]
          have HR2 : Hid (unyP n bs a b = (E1, [])) := Lib.hid (by rw [HR.out, if_neg hE])
          clear hE HM HR KU
          go_wp2_with fail
          go_ret2
          exact ⟨none, 0, by rw [HR2.out]; rfl, by rw [HR2.out]; simp, by rw [HR2.out]; exact BdsAt.nil _ _, hx04.trans hx5⟩
end Go.Proofs.Ytjmfjeeddnmoaaa

/- almagestlaw3: variable, name, num. -/
namespace Go.Proofs.Ytjmfjeeddnmoaaa
open Go.RowKit

theorem num3_any (n : Int) (w : World) : Calls Try.prog 58 #[.int .i64 n] w fun e w' => e = .returned (.int .i64 n) ∧ w = w' := by
  go_enter Try.func58, Try.ntmps58
  go_wp2_with fail
  go_ret
  exact ⟨rfl, rfl⟩
def vTm (s : ByteArray) : Tm := ⟨1, s, 0, []⟩
theorem vTm_at (s : ByteArray) (hs : s.size ≤ 140737488351232) (w : World) : TmAt w (vTm s) none 0 :=
  (TmOwn.leaf (w := w) ⟨rfl, rfl, hs, by simp [vTm]⟩ rfl none 0 (fun _ => True)).at_

set_option maxRecDepth 100000 in
set_option maxHeartbeats 1000000 in
theorem var3_any (s : ByteArray) (w : World) : Calls Try.prog 61 #[.string s] w fun e w' => e = .returned ((vTm s).val none 0) ∧ Ext w w' := by
  go_enter Try.func61, Try.ntmps61
  go_wp2_with fail
  refine bodyPost_ret (v := (vTm s).val none 0) (by simp [results, Try.results61, go_sem, *]; exact ⟨rfl, rfl, rfl, rfl⟩) rfl ⟨rfl, ?_⟩
  exact (Ext.refl w).alloc _

theorem ownsRow_same {w w' : World} {base : Nat} {e : TypeId} {size : Nat} {v : Value} {n : Nat} {xs : List Value} (h : w.ownsRow base e size v n xs) (k : ∀ g, v.ownBlock = some g → w'.heap[g]? = w.heap[g]?) : w'.ownsRow base e size v n xs := by
  refine ⟨h.1, ?_⟩
  rcases h.2 with h0 | ⟨g, cap, cur, e1, h2, h3, h4⟩
  · exact .inl h0
  · exact .inr ⟨g, cap, cur, e1, h2, (k g (by rw [e1]; rfl)).trans h3, h4⟩
theorem infoTm4 : (Try.prog.info? 28).map (fun i => (i.zero, i.size, i.bytes)) = some (some (.agg #[.int .i64 0, .string ⟨#[]⟩, .int .i64 0, .slice none 0 0]), 4, 56) := by kernel_rfl
theorem rowCells_one' : ∀ xs : List Lain, ∀ u ∈ rowCells xs, u.oneCell' = true
  | [], u, h => by simp [rowCells] at h
  | x :: xs, u, h => by
    rw [rowCells] at h
    rcases List.mem_append.1 h with h | h
    · exact Lain.one x u h
    · exact rowCells_one' xs u h

/-- what is owned is a slice of terms, all of it behind lo -/
theorem owned_hi {w : World} {base lo : Nat} {v : Value} {xs : List Lain} (h : w.ownsRow base 28 4 v xs.length (rowCells xs)) (hlo : lo ≤ base) (hx : ∀ x ∈ xs, TmHi w lo x.1 x.2.1 x.2.2) :
    ∃ A c, v = .slice A xs.length c ∧ xs.length ≤ c ∧ (∀ b o, A = some ⟨b, o, none⟩ → lo ≤ b) ∧ ∃ g d, RowAt w (xs.map (·.1)) A g d ∧ ∀ i (h : i < (xs.map (·.1)).length), TmHi w lo (xs.map (·.1))[i] (g i) (d i) := by
  rcases h.2 with ⟨rfl, h0⟩ | ⟨g, cap, cur, rfl, hb, _, hc, _⟩
  · have e : xs = [] := List.eq_nil_of_length_eq_zero h0
    subst e
    exact ⟨none, 0, rfl, Nat.le_refl _, (fun b o e => by cases e), fun _ => none, fun _ => 0, fun i hi => absurd hi (by simp), fun i hi => absurd hi (by simp)⟩
  · refine ⟨_, cap, rfl, hc, (fun b o e => by injection e with e; injection e with e1; omega), fun i => (xs[i]?.map (·.2.1)).getD none, fun i => (xs[i]?.map (·.2.2)).getD 0, fun i hi => ?_, fun i hi => ?_⟩
    · have hi' : i < xs.length := by simpa using hi
      have cell : ∀ j, j < 4 → w.cell? ⟨g, 0 + i * 4 + j, none⟩ = xs[i].cells[j]? := fun j hj => by
        rw [show 0 + i * 4 + j = i * 4 + j by omega, h.cellAt (i * 4 + j) (by omega), rowCells_at xs i j hi' hj]
      refine ⟨g, 0, rfl, ?_, ?_, ?_, ?_⟩
      · have := cell 0 (by omega); simpa [Lain.cells] using this
      · have := cell 1 (by omega); simpa [Lain.cells] using this
      · have := cell 2 (by omega); simpa [Lain.cells] using this
      · have := cell 3 (by omega); simpa [Lain.cells, hi'] using this
    · have hi' : i < xs.length := by simpa using hi
      have := hx _ (List.getElem_mem hi')
      simpa [hi'] using this

set_option maxRecDepth 100000 in
set_option maxHeartbeats 2000000 in
theorem name_hi (s : ByteArray) (xs : List Lain) (L : Option Addr) (lc : Nat) (w : World) (hs : s.size ≤ 140737488351232) (hl : xs.length ≤ 1000) (hsrc : Src w L xs.length lc 4 (rowCells xs)) (lo : Nat) (hlo : lo ≤ w.heap.size + 1) (hx : ∀ x ∈ xs, TmHi w lo x.1 x.2.1 x.2.2) :
    Calls Try.prog 62 #[.string s, .slice L xs.length lc] w fun e w' => ∃ A c, e = .returned ((⟨3, s, 0, xs.map (·.1)⟩ : Tm).val A c) ∧ TmHi w' lo ⟨3, s, 0, xs.map (·.1)⟩ A c ∧ Ext w w' := by
  obtain ⟨i0, hi0, hz0, hz1, hz2⟩ := info_parts infoTm4
  have HX := Lib.hid hx
  have hxn : Ext w ((w.alloc (.cells #[.int .i64 0, .string ⟨#[]⟩, .int .i64 0, .slice none 0 0] 28)).alloc (.cells #[] 28)) := ((Ext.refl w).alloc _).alloc _
  have hown0 : ((w.alloc (.cells #[.int .i64 0, .string ⟨#[]⟩, .int .i64 0, .slice none 0 0] 28)).alloc (.cells #[] 28)).ownsRow (w.heap.size + 1) 28 4 (.slice (some ⟨w.heap.size + 1, 0, none⟩) 0 0) 0 [] := by
    refine ⟨rfl, .inr ⟨w.heap.size + 1, 0, #[], rfl, Nat.le_refl _, ?_, Nat.le_refl _, by decide, rfl, rfl⟩⟩
    have := heap_alloc_new (w.alloc (.cells #[.int .i64 0, .string ⟨#[]⟩, .int .i64 0, .slice none 0 0] 28)) (.cells #[] 28)
    simpa using this
  have HBX : Hid (Box4 ((w.alloc (.cells #[.int .i64 0, .string ⟨#[]⟩, .int .i64 0, .slice none 0 0] 28)).alloc (.cells #[] 28)) w.heap.size (.int .i64 0) (.string ⟨#[]⟩) (.int .i64 0) (.slice none 0 0)) := Lib.hid ⟨by go_simp, by go_simp, by go_simp, by go_simp, by go_simp, by go_simp, by go_simp, by go_simp⟩
  have hsr := hsrc.ext hxn
  clear hx hsrc
  go_enter Try.func62, Try.ntmps62
  go_wp2_with (at_builtin; refine wpList_app _ rfl _ _ 22 rfl (w.heap.size + 1) 28 i0 _ 4 56 Try.underlying22 hi0 hz0 hz1 hz2 rfl (by decide) _ 0 [] rfl hown0 L xs.length lc (rowCells xs) rfl hsr (rowCells_one' xs) ?c3 ?c4 ?c5 ?_)
  case c3 => simp only [maxLen]; omega
  case c4 => omega
  case c5 => simp
  intro v3 w3 hown3 hg3 _
  have hx3 : Ext w w3 := hxn.own hown0 (by omega) hg3
  have HB3 : Hid (Box4 w3 w.heap.size (.int .i64 0) (.string ⟨#[]⟩) (.int .i64 0) (.slice none 0 0)) := Lib.hid (HBX.out.same (hg3.block w.heap.size (by simp; omega) (fun e => by have e2 : some w.heap.size = some (w.heap.size + 1) := e; injection e2; omega)))
  obtain ⟨A3, c3, rfl, hc3, _⟩ := owned_hi hown3 hlo (fun x hx => (HX.out x hx).ext hx3)
  clear hown0 hg3 HBX hsr hxn
  obtain ⟨x0, x1, x2, x3, f0, f1, f2, f3⟩ := HB3.out
  have HWF : Hid (∀ w', w' = (((w3.setCell ⟨w.heap.size, 0, none⟩ (.int .i64 3)).setCell ⟨w.heap.size, 1, none⟩ (.string s)).setCell ⟨w.heap.size, 2, none⟩ (.int .i64 0)).setCell ⟨w.heap.size, 3, none⟩ (.slice A3 xs.length c3) → TmHi w' lo ⟨3, s, 0, xs.map (·.1)⟩ A3 c3 ∧ Ext w w') := Lib.hid fun w' e => by
    have hxf : Ext w w' := by rw [e]; exact chain_ext hx3 (Nat.le_refl _) _ _ _ _
    have hown4 := ownsRow_same (w' := w') hown3 (fun g hg => by
      rw [e]
      have := (hown3.lt g hg).1
      exact chain_block _ _ _ _ _ _ _ (by omega))
    obtain ⟨A4, c4, e4, hc4, hA4, g, dd, hr, hsub⟩ := owned_hi hown4 hlo (fun x hx => (HX.out x hx).ext hxf)
    injection e4 with e5 _ e6
    subst e5 e6
    exact ⟨.mk _ A3 c3 g dd ⟨rfl, rfl, hs, by simp; omega⟩ (by simpa using hc4) hr (fun b o e _ => hA4 b o e) hsub, hxf⟩
  clear hown3 HB3
  go_wp2_with fail
  refine bodyPost_ret (v := (⟨3, s, 0, xs.map (·.1)⟩ : Tm).val A3 c3) (by simp [results, Try.results62, go_sem, *]) rfl ⟨A3, c3, rfl, HWF.out _ rfl⟩
end Go.Proofs.Ytjmfjeeddnmoaaa

/- What the made terms come to (pure). -/
namespace Go.Proofs.Ytjmfjeeddnmoaaa
def nTm (n : Int) : Tm := ⟨2, ⟨#[]⟩, n, []⟩
def fTm (s : ByteArray) (l : List Tm) : Tm := ⟨3, s, 0, l⟩
def nX : ByteArray := ⟨#[88]⟩
def nY : ByteArray := ⟨#[89]⟩
def nW : ByteArray := ⟨#[87]⟩
def cT : Tm := fTm ⟨#[99]⟩ []
def sT (t : Tm) : Tm := fTm ⟨#[115]⟩ [t]
def dT : Tm := sT (sT (sT (sT cT)))
def wkA : Tm := fTm ⟨#[102]⟩ [vTm nX, nTm 1]
def wkB : Tm := fTm ⟨#[102]⟩ [nTm 2, vTm nY]
set_option maxRecDepth 100000 in
theorem wk_is : unifP 8 [] wkA wkB = (0, [⟨nX, nTm 2⟩, ⟨nY, nTm 1⟩]) := by kernel_rfl
set_option maxRecDepth 100000 in
theorem wk_may : bindsB [] = true ∧ mayB wkA = true ∧ mayB wkB = true := ⟨by kernel_rfl, by kernel_rfl, by kernel_rfl⟩
set_option maxRecDepth 100000 in
theorem dp_1 : unifP 8 [] (vTm nX) dT = (0, [⟨nX, dT⟩]) := by kernel_rfl
set_option maxRecDepth 100000 in
theorem dp_2 : unifP 8 [⟨nX, dT⟩] (sT (vTm nX)) (vTm nY) = (2, []) := by kernel_rfl
set_option maxRecDepth 100000 in
theorem dp_3 : unifP 8 [⟨nX, dT⟩] (vTm nX) (vTm nY) = (0, [⟨nX, dT⟩, ⟨nY, dT⟩]) := by kernel_rfl
end Go.Proofs.Ytjmfjeeddnmoaaa

/- UnifyDeep: awake; the walk. -/
namespace Go.Proofs.Ytjmfjeeddnmoaaa
open Go.RowKit

theorem tm_two {w : World} {s : ByteArray} {x y : Tm} {X Y : Option Addr} {cx cy g : Nat} (hs : s.size ≤ 140737488351232)
    (a0 : w.cell? ⟨g, 0, none⟩ = some (.int .i64 x.kind)) (a1 : w.cell? ⟨g, 1, none⟩ = some (.string x.name)) (a2 : w.cell? ⟨g, 2, none⟩ = some (.int .i64 x.n)) (a3 : w.cell? ⟨g, 3, none⟩ = some (.slice X x.args.length cx))
    (b0 : w.cell? ⟨g, 4, none⟩ = some (.int .i64 y.kind)) (b1 : w.cell? ⟨g, 5, none⟩ = some (.string y.name)) (b2 : w.cell? ⟨g, 6, none⟩ = some (.int .i64 y.n)) (b3 : w.cell? ⟨g, 7, none⟩ = some (.slice Y y.args.length cy))
    (hx : TmAt w x X cx) (hy : TmAt w y Y cy) : TmAt w ⟨3, s, 0, [x, y]⟩ (some ⟨g, 0, none⟩) 2 := by
  refine .mk _ _ _ (fun i => if i = 0 then X else Y) (fun i => if i = 0 then cx else cy) ⟨rfl, rfl, hs, by simp⟩ (by simp) (fun i hi => ?_) (fun i hi => ?_)
  · have h2 : i = 0 ∨ i = 1 := by simp at hi; omega
    rcases h2 with rfl | rfl
    · exact ⟨g, 0, rfl, by simpa using a0, by simpa using a1, by simpa using a2, by simpa using a3⟩
    · exact ⟨g, 0, rfl, by simpa using b0, by simpa using b1, by simpa using b2, by simpa using b3⟩
  · have h2 : i = 0 ∨ i = 1 := by simp at hi; omega
    rcases h2 with rfl | rfl
    · simpa using hx
    · simpa using hy
theorem leaf_at {t : Tm} (hf : t.Fits) (he : t.args = []) (w : World) : TmAt w t none 0 := (TmOwn.leaf (w := w) hf (by simp [he]) none 0 (fun _ => True)).at_

theorem wk_uny : unyP 8 [] wkA wkB = (0, [⟨nX, nTm 2⟩, ⟨nY, nTm 1⟩]) := by kernel_rfl
theorem wk_call (A B : Option Addr) (c d : Nat) (w : World) (hA : TmAt w wkA A c) (hB : TmAt w wkB B d) :
    Calls Try.prog 57 #[.slice none 0 0, wkA.val A c, wkB.val B d] w fun e w' => ∃ b o xc, e = .returned (.tuple #[.slice (some ⟨b, o, none⟩) 2 xc, .int .i64 0]) ∧ 2 ≤ xc ∧ w'.cell? ⟨b, o + 3, none⟩ = some (.int .i64 2) ∧ w'.cell? ⟨b, o + 5 + 3, none⟩ = some (.int .i64 1) ∧ Ext w w' := by
  have K := Unify_any 8 [] wkA wkB none A B 0 c d w (by rw [wk_is]; decide) (fun _ => by rw [wk_is]; kernel_rfl) (by simp) (by simp) (BdsAt.nil _ _) hA hB
  rw [wk_uny] at K
  refine K.mono ?_
  rintro e w' ⟨X, xc, rfl, hc, hB', hx⟩
  obtain ⟨b, o, B0, e0, rfl, _, _, _, h3, _⟩ := hB' 0 (by decide)
  obtain ⟨b', o', B1, e1, e', _, _, _, h8, _⟩ := hB' 1 (by decide)
  injection e' with e'
  injection e' with e1' e2'
  subst e1' e2'
  exact ⟨b, o, xc, rfl, hc, by simpa [nTm] using h3, by simpa [nTm] using h8, hx⟩

set_option maxRecDepth 100000 in
set_option maxHeartbeats 4000000 in
theorem wakes3_any (w : World) : Calls Try.prog 60 #[] w fun e w' => e = .returned (.bool true) ∧ Ext w w' := by
  go_enter Try.func60, Try.ntmps60
  go_wp2_with fail
  refine (var3_any nX w).mono ?_
  rintro e1 w1 ⟨rfl, hx1⟩
  go_wp2_with fail
  refine (var3_any nY _).mono ?_
  rintro e2 w2 ⟨rfl, hx2⟩
  have b0 : w2.cell? ⟨w1.heap.size, 0, none⟩ = some (.int .i64 1) := hx2.cell (by go_simp; rfl)
  have b1 : w2.cell? ⟨w1.heap.size, 1, none⟩ = some (.string nX) := hx2.cell (by go_simp; rfl)
  have b2 : w2.cell? ⟨w1.heap.size, 2, none⟩ = some (.int .i64 0) := hx2.cell (by go_simp; rfl)
  have b3 : w2.cell? ⟨w1.heap.size, 3, none⟩ = some (.slice none 0 0) := hx2.cell (by go_simp; rfl)
  have hx02 : Ext w w2 := (hx1.alloc _).trans hx2
  clear hx1 hx2
  go_upto_region 3 with (fail)
  obtain ⟨w3, hw3⟩ : ∃ w3, w3 = w2.alloc (.cells #[.int .i64 (vTm nY).kind, .string (vTm nY).name, .int .i64 (vTm nY).n, .slice none (vTm nY).args.length 0] 28) := ⟨_, rfl⟩
  rw [← hw3]
  have hx23 : Ext w2 w3 := by rw [hw3]; exact (Ext.refl _).alloc _
  have c0 : w3.cell? ⟨w2.heap.size, 0, none⟩ = some (.int .i64 1) := by rw [hw3]; go_simp; rfl
  have c1 : w3.cell? ⟨w2.heap.size, 1, none⟩ = some (.string nY) := by rw [hw3]; go_simp; rfl
  have c2 : w3.cell? ⟨w2.heap.size, 2, none⟩ = some (.int .i64 0) := by rw [hw3]; go_simp; rfl
  have c3 : w3.cell? ⟨w2.heap.size, 3, none⟩ = some (.slice none 0 0) := by rw [hw3]; go_simp; rfl
  have d0 := hx23.cell b0
  have d1 := hx23.cell b1
  have d2 := hx23.cell b2
  have d3 := hx23.cell b3
  have hx03 := hx02.trans hx23
  clear hw3 b0 b1 b2 b3
  go_upto_region 4 with (fail)
  obtain ⟨w4, hw4⟩ : ∃ w4, w4 = (w3.alloc (.cells #[.int .i64 1, .string nX, .int .i64 0, .slice none 0 0, .int .i64 2, .string ⟨#[]⟩, .int .i64 1, .slice none 0 0] 28)).alloc (.cells #[.int .i64 3, .string ⟨#[102]⟩, .int .i64 0, .slice (some ⟨w3.heap.size, 0, none⟩) 2 2] 28) := ⟨_, rfl⟩
  rw [← hw4]
  have hx34 : Ext w3 w4 := by rw [hw4]; exact ((Ext.refl _).alloc _).alloc _
  have HA4 : Hid (TmAt w4 wkA (some ⟨w3.heap.size, 0, none⟩) 2) := Lib.hid (tm_two (x := vTm nX) (y := nTm 1) (by decide) (by rw [hw4]; go_simp; rfl) (by rw [hw4]; go_simp; rfl) (by rw [hw4]; go_simp; rfl) (by rw [hw4]; go_simp; rfl) (by rw [hw4]; go_simp; rfl) (by rw [hw4]; go_simp; rfl) (by rw [hw4]; go_simp; rfl) (by rw [hw4]; go_simp; rfl) (vTm_at nX (by decide) _) (leaf_at ⟨rfl, rfl, by decide, by decide⟩ rfl _))
  have e0 : w4.cell? ⟨w3.heap.size + 1, 0, none⟩ = some (.int .i64 3) := by rw [hw4]; go_simp
  have e1 : w4.cell? ⟨w3.heap.size + 1, 1, none⟩ = some (.string ⟨#[102]⟩) := by rw [hw4]; go_simp
  have e2 : w4.cell? ⟨w3.heap.size + 1, 2, none⟩ = some (.int .i64 0) := by rw [hw4]; go_simp
  have e3 : w4.cell? ⟨w3.heap.size + 1, 3, none⟩ = some (.slice (some ⟨w3.heap.size, 0, none⟩) 2 2) := by rw [hw4]; go_simp
  have f0 := hx34.cell c0
  have f1 := hx34.cell c1
  have f2 := hx34.cell c2
  have f3 := hx34.cell c3
  have hx04 := hx03.trans hx34
  clear hw4 c0 c1 c2 c3 d0 d1 d2 d3
  go_upto_region 5 with (fail)
  obtain ⟨w5, hw5⟩ : ∃ w5, w5 = (w4.alloc (.cells #[.int .i64 2, .string ⟨#[]⟩, .int .i64 2, .slice none 0 0, .int .i64 1, .string nY, .int .i64 0, .slice none 0 0] 28)).alloc (.cells #[.int .i64 3, .string ⟨#[102]⟩, .int .i64 0, .slice (some ⟨w4.heap.size, 0, none⟩) 2 2] 28) := ⟨_, rfl⟩
  rw [← hw5]
  have hx45 : Ext w4 w5 := by rw [hw5]; exact ((Ext.refl _).alloc _).alloc _
  have HB5 : Hid (TmAt w5 wkB (some ⟨w4.heap.size, 0, none⟩) 2) := Lib.hid (tm_two (x := nTm 2) (y := vTm nY) (by decide) (by rw [hw5]; go_simp; rfl) (by rw [hw5]; go_simp; rfl) (by rw [hw5]; go_simp; rfl) (by rw [hw5]; go_simp; rfl) (by rw [hw5]; go_simp; rfl) (by rw [hw5]; go_simp; rfl) (by rw [hw5]; go_simp; rfl) (by rw [hw5]; go_simp; rfl) (leaf_at ⟨rfl, rfl, by decide, by decide⟩ rfl _) (vTm_at nY (by decide) _))
  have g0 : w5.cell? ⟨w4.heap.size + 1, 0, none⟩ = some (.int .i64 3) := by rw [hw5]; go_simp
  have g1 : w5.cell? ⟨w4.heap.size + 1, 1, none⟩ = some (.string ⟨#[102]⟩) := by rw [hw5]; go_simp
  have g2 : w5.cell? ⟨w4.heap.size + 1, 2, none⟩ = some (.int .i64 0) := by rw [hw5]; go_simp
  have g3 : w5.cell? ⟨w4.heap.size + 1, 3, none⟩ = some (.slice (some ⟨w4.heap.size, 0, none⟩) 2 2) := by rw [hw5]; go_simp
  have h0 := hx45.cell e0
  have h1 := hx45.cell e1
  have h2 := hx45.cell e2
  have h3 := hx45.cell e3
  have hx05 := hx04.trans hx45
  have KW := Lib.hid (wk_call _ _ _ _ w5 (HA4.out.ext hx45) HB5.out)
  clear hw5 e0 e1 e2 e3 f0 f1 f2 f3
  go_wp2_with fail
  refine KW.out.mono ?_
  rintro e6 w6 ⟨b, o, xc, rfl, hxc, y0, y1, hx6⟩
  go_wp2_with fail
  refine (num3_any _ _).mono ?_
  rintro e7 w7 ⟨rfl, rfl⟩
  go_wp2_with fail
  go_ret
  exact ⟨rfl, hx05.trans hx6⟩
end Go.Proofs.Ytjmfjeeddnmoaaa
