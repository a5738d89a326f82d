/- Joined: Eqb, Hv2. -/
import Derived.Test.YtjmfjeeddnmoaaaBd
import Derived.Test.YtjmfjeeddnmoaaaWi
import Derived.Test.YtjmfjeeddnmoaaaExt
import Derived.Test.YtjmfjeeddnmoaaaMA
import Derived.Test.YtjmfjeeddnmoaaaHeavy

/- almagestref0.EqBind, EqBinds: the same binds? -/
namespace Go.Proofs.Ytjmfjeeddnmoaaa
open Go.RowKit

def eqB (x y : Bd) : Bool := (x.name.toList == y.name.toList) && eqT x.tm y.tm
def eqBs : List Bd → List Bd → Bool
  | [], [] => true
  | x :: xs, y :: ys => eqB x y && eqBs xs ys
  | _, _ => false

set_option maxRecDepth 100000 in
set_option maxHeartbeats 1000000 in
theorem eqBind_any (x y : Bd) (A B : Option Addr) (c d : Nat) (w : World) (ha : TmAt w x.tm A c) (hb : TmAt w y.tm B d) :
    Calls Try.prog 94 #[x.val A c, y.val B d] w fun e w' => e = .returned (.bool (eqB x y)) ∧ Ext w w' := by
  have hx0 : Ext w ((boxB w x A c).alloc (.cells #[.string y.name, .int .i64 y.tm.kind, .string y.tm.name, .int .i64 y.tm.n, .slice B y.tm.args.length d] 65)) := ((Ext.refl w).alloc _).alloc _
  by_cases hn : (x.name.toList == y.name.toList) = true
  · have E : Hid (eqB x y = eqT x.tm y.tm) := Lib.hid (by unfold eqB; rw [hn]; rfl)
    go_enter Try.func94, Try.ntmps94
    go_wp2_with fail
    refine (eqTerm_all x.tm.high x.tm y.tm A B c d _ (Nat.le_refl _) (ha.ext hx0) (hb.ext hx0)).mono ?_
    rintro e1 w1 ⟨rfl, hx1⟩
    go_wp2_with fail
    go_ret
    exact ⟨ret_bool E.out.symm, hx0.trans hx1⟩
  · have hn' := not_true hn
    have E : Hid (eqB x y = false) := Lib.hid (by unfold eqB; rw [hn']; rfl)
    clear hn
    go_enter Try.func94, Try.ntmps94
    go_wp2_with fail
    go_ret
    exact ⟨ret_bool E.out.symm, hx0⟩

theorem eqBs_len : ∀ xs ys : List Bd, xs.length ≠ ys.length → eqBs xs ys = false
  | [], [], h => absurd rfl h
  | [], _ :: _, _ => rfl
  | _ :: _, [], _ => rfl
  | x :: xs, y :: ys, h => by rw [eqBs, eqBs_len xs ys (fun e => h (by simp [e])), Bool.and_false]

set_option maxRecDepth 100000 in
set_option maxHeartbeats 2000000 in
theorem eqBinds_any (xs ys : List Bd) (A B : Option Addr) (c d : Nat) (w : World) (hl : xs.length ≤ 1000000) (_hm : ys.length ≤ 1000000) (ha : BdsAt w xs A) (hb : BdsAt w ys B) :
    Calls Try.prog 47 #[.slice A xs.length c, .slice B ys.length d] w fun e w' => e = .returned (.bool (eqBs xs ys)) ∧ Ext w w' := by
  by_cases hlen : xs.length = ys.length
  · have hne : ((xs.length : Int) != (ys.length : Int)) = false := by simp [hlen]
    have HLen := Lib.hid hlen
    clear hlen
    go_enter Try.func47, Try.ntmps47
    go_wp2_with fail
    go_loopw [5] (fun i wr => ∃ k : Nat, k ≤ xs.length ∧ i = .int .i64 k ∧ Hid (eqBs (xs.drop k) (ys.drop k) = eqBs xs ys) ∧ Ext w wr) (fun i _ => xs.length - (intOf i).toNat)
    case atStart => exact ⟨0, Nat.zero_le _, rfl, Lib.hid rfl, Ext.refl _⟩
    case round =>
      obtain ⟨k, hk, rfl, HE, hx⟩ := hrel
      by_cases hlt : k < xs.length
      · have hlt2 : k < ys.length := by have := HLen.out; omega
        obtain ⟨b, o, C, e, rfl, c0, c1, c2, c3, c4, hT, _⟩ := (ha.ext hx) k hlt
        obtain ⟨b2, o2, C2, e2, rfl, d0, d1, d2, d3, d4, hT2, _⟩ := (hb.ext hx) k hlt2
        have H2 : Hid ((eqB xs[k] ys[k] && eqBs (xs.drop (k + 1)) (ys.drop (k + 1))) = eqBs xs ys) := Lib.hid (by
          have := HE.out
          rw [List.drop_eq_getElem_cons hlt, List.drop_eq_getElem_cons hlt2, eqBs] at this
          exact this)
        have q0 : ∀ p : ExtOf wr, p.to.cell? ⟨b, o + k * 5, none⟩ = some (.string xs[k].name) := ext_cell c0
        have q1 : ∀ p : ExtOf wr, p.to.cell? ⟨b, o + k * 5 + 1, none⟩ = some (.int .i64 xs[k].tm.kind) := ext_cell c1
        have q2 : ∀ p : ExtOf wr, p.to.cell? ⟨b, o + k * 5 + 2, none⟩ = some (.string xs[k].tm.name) := ext_cell c2
        have q3 : ∀ p : ExtOf wr, p.to.cell? ⟨b, o + k * 5 + 3, none⟩ = some (.int .i64 xs[k].tm.n) := ext_cell c3
        have q4 : ∀ p : ExtOf wr, p.to.cell? ⟨b, o + k * 5 + 4, none⟩ = some (.slice C xs[k].tm.args.length e) := ext_cell c4
        have p0 : ∀ p : ExtOf wr, p.to.cell? ⟨b2, o2 + k * 5, none⟩ = some (.string ys[k].name) := ext_cell d0
        have p1 : ∀ p : ExtOf wr, p.to.cell? ⟨b2, o2 + k * 5 + 1, none⟩ = some (.int .i64 ys[k].tm.kind) := ext_cell d1
        have p2 : ∀ p : ExtOf wr, p.to.cell? ⟨b2, o2 + k * 5 + 2, none⟩ = some (.string ys[k].tm.name) := ext_cell d2
        have p3 : ∀ p : ExtOf wr, p.to.cell? ⟨b2, o2 + k * 5 + 3, none⟩ = some (.int .i64 ys[k].tm.n) := ext_cell d3
        have p4 : ∀ p : ExtOf wr, p.to.cell? ⟨b2, o2 + k * 5 + 4, none⟩ = some (.slice C2 ys[k].tm.args.length e2) := ext_cell d4
        have i0 : (0 : Int) ≤ (k : Int) := Int.natCast_nonneg _
        have i1 : (k : Int) < (xs.length : Int) := by omega
        have i2 : (k : Int) < (ys.length : Int) := by omega
        clear HE c0 c1 c2 c3 c4 d0 d1 d2 d3 d4
        cases heq : eqB xs[k] ys[k] with
        | true =>
          have KEY : Hid (∀ p : ExtOf wr, Calls Try.prog 94 #[xs[k].val C e, ys[k].val C2 e2] p.to fun e w' => e = .returned (.bool true) ∧ Ext p.to w') := Lib.hid fun p => (eqBind_any _ _ _ _ _ _ _ (hT.ext p.is) (hT2.ext p.is)).mono fun _ _ ⟨he, hx⟩ => ⟨by rw [he, heq], hx⟩
          have H3 : Hid (eqBs (xs.drop (k + 1)) (ys.drop (k + 1)) = eqBs xs ys) := Lib.hid (by have := H2.out; rwa [heq, Bool.true_and] at this)
          clear heq H2 hT hT2
          go_wp2_with fail
          refine wp_region_ext (by kernel_rfl) (by kernel_rfl) ?_
          repeat (go_big_quiet_step ((go_at_call 94; exact of_ext (KEY.out _))))
          refine wpQuiet_nil ?_
          refine ext_all ?_
          intro w2 hx2
          clear q0 q1 q2 q3 q4 p0 p1 p2 p3 p4 KEY
          go_wp2_with fail
          go_roundw
          case rel => exact ⟨k + 1, by omega, by go_num, H3, hx.trans hx2⟩
          case measure => simp [intOf]; omega
        | false =>
          have KEY : Hid (∀ p : ExtOf wr, Calls Try.prog 94 #[xs[k].val C e, ys[k].val C2 e2] p.to fun e w' => e = .returned (.bool false) ∧ Ext p.to w') := Lib.hid fun p => (eqBind_any _ _ _ _ _ _ _ (hT.ext p.is) (hT2.ext p.is)).mono fun _ _ ⟨he, hx⟩ => ⟨by rw [he, heq], hx⟩
          have H3 : Hid (eqBs xs ys = false) := Lib.hid (by rw [← H2.out, heq, Bool.false_and])
          clear heq H2 hT hT2
          go_wp2_with fail
          refine wp_region_ext (by kernel_rfl) (by kernel_rfl) ?_
          repeat (go_big_quiet_step ((go_at_call 94; exact of_ext (KEY.out _))))
          refine wpQuiet_nil ?_
          refine ext_all ?_
          intro w2 hx2
          clear q0 q1 q2 q3 q4 p0 p1 p2 p3 p4 KEY
          go_wp2_with fail
          go_ret
          exact ⟨ret_bool H3.out.symm, hx.trans hx2⟩
      · have H3 : Hid (eqBs xs ys = true) := Lib.hid (by rw [← HE.out, List.drop_eq_nil_of_le (by omega), List.drop_eq_nil_of_le (by have := HLen.out; omega)]; rfl)
        clear HE
        go_wp2_with fail
        go_ret
        exact ⟨ret_bool H3.out.symm, hx⟩
  · have hne : ((xs.length : Int) != (ys.length : Int)) = true := by simp; omega
    have H3 := Lib.hid (eqBs_len xs ys hlen)
    clear hlen
    go_enter Try.func47, Try.ntmps47
    go_wp2_with fail
    go_ret
    exact ⟨ret_bool H3.out.symm, Ext.refl _⟩

theorem eqT_refl (t : Tm) : eqT t t = true := (eqT_iff t t).2 rfl
theorem eqBs_refl : ∀ xs : List Bd, eqBs xs xs = true
  | [] => rfl
  | x :: xs => by rw [eqBs, eqBs_refl xs, eqB, eqT_refl]; simp
end Go.Proofs.Ytjmfjeeddnmoaaa

/- almagestlaw2: how much binds weigh; Heavy; wakes; num. -/
namespace Go.Proofs.Ytjmfjeeddnmoaaa
open Go.RowKit

/-- slices of binds in a slice -/
def BssAt (w : World) (Bs : List (List Bd)) (A : Option Addr) : Prop :=
  ∀ i (h : i < Bs.length), ∃ b o B c, A = some ⟨b, o, none⟩ ∧ w.cell? ⟨b, o + i, none⟩ = some (.slice B Bs[i].length c) ∧ BdsAt w Bs[i] B ∧ Bs[i].length ≤ c ∧ Bs[i].length * 72 ≤ 140737488351232
theorem BssAt.ext {w w' : World} {Bs : List (List Bd)} {A : Option Addr} (h : BssAt w Bs A) (k : Ext w w') : BssAt w' Bs A := by
  intro i hi
  obtain ⟨b, o, B, c, e, h0, h1, h2⟩ := h i hi
  exact ⟨b, o, B, c, e, k.cell h0, h1.ext k, h2⟩

theorem weightL_each3 (d : Nat) : ∀ (ts : List Tm) (n : Int), 0 ≤ n → weightL ts d n ≤ 3000 → ∀ t ∈ ts, weightT t d ≤ 3000
  | a :: ts, n, h0, h, t, ht => by
    have hp := weightT_pos d a
    have hn : n < 1048576 := by
      have := weightL_ge d (weightT_pos d) (a :: ts) n
      omega
    rw [weightL, if_pos hn] at h
    have hge := weightL_ge d (weightT_pos d) ts (n + weightT a d)
    rcases List.mem_cons.1 ht with e | e
    · subst e; omega
    · exact weightL_each3 d ts (n + weightT a d) (by omega) h t e
theorem weight_high3 (d : Nat) : ∀ t : Tm, weightT t d ≤ 3000 → t.high ≤ d := by
  induction d with
  | zero => intro t h; obtain ⟨k, s, n, l⟩ := t; simp [weightT] at h
  | succ d ih =>
    intro t h
    obtain ⟨k, s, n, l⟩ := t
    rw [weightT] at h
    have he := weightL_each3 d l (1 + s.size) (by omega) h
    have hl : ∀ ts : List Tm, (∀ t ∈ ts, t.high ≤ d) → highs ts ≤ d := by
      intro ts
      induction ts with
      | nil => intro _; simp [highs]
      | cons a r ih2 => intro hh; rw [highs]; have := hh a (by simp); have := ih2 (fun x hx => hh x (by simp [hx])); omega
    have := hl l (fun x hx => ih x (he x hx))
    rw [Tm.high]; omega

/-- no bind's term weighs more -/
def BwLe (bs : List Bd) (k : Nat) (n : Int) : Prop := ∀ j (h : j < bs.length), j < k → weightT bs[j].tm 30 ≤ n
def BwOut (bs : List Bd) (w : World) (e : Ending) (w' : World) : Prop := ∃ n : Int, e = .returned (.int .i64 n) ∧ (bs.length : Int) ≤ n ∧ n ≤ 18014398509481984 ∧ Hid (n ≤ 3000 → BwLe bs bs.length n) ∧ Ext w w'

set_option maxRecDepth 100000 in
set_option maxHeartbeats 2000000 in
theorem bweight_any (bs : List Bd) (A : Option Addr) (c : Nat) (w : World) (hl : bs.length * 72 ≤ 140737488351232) (h : BdsAt w bs A) :
    Calls Try.prog 82 #[.slice A bs.length c] w (BwOut bs w) := by
  go_enter Try.func82, Try.ntmps82
  go_wp2_with fail
  go_loopw [3, 4] (fun m i wr => ∃ (k : Nat) (n : Int), k ≤ bs.length ∧ (bs.length : Int) ≤ n ∧ n ≤ 18014398509481984 ∧ i = .int .i64 k ∧ m = .int .i64 n ∧ Hid (BwLe bs k n) ∧ Ext w wr) (fun _ i _ => bs.length - (intOf i).toNat)
  case atStart => exact ⟨0, _, Nat.zero_le _, Int.le_refl _, by omega, rfl, rfl, Lib.hid fun j _ h0 => absurd h0 (Nat.not_lt_zero _), Ext.refl _⟩
  case round =>
    obtain ⟨k, n, hk, hn0, hn1, rfl, rfl, HL, hx⟩ := hrel
    by_cases hlt : k < bs.length
    · by_cases hn : n < 1048576
      · obtain ⟨b, o, B, e, rfl, c0, c1, c2, c3, c4, hT, hnm⟩ := (h.ext hx) k hlt
        have hb := weight_le 30 _ _ _ _ hT
        have KEY : Hid (∀ p : ExtOf wr, Calls Try.prog 109 #[bs[k].tm.val B e, .int .i64 30] p.to fun e w' => e = .returned (.int .i64 (weightT bs[k].tm 30)) ∧ Ext p.to w') := Lib.hid fun p => weight_any 30 30 _ _ _ _ (Lib.hid rfl) (by omega) (hT.ext p.is)
        have q0 : ∀ p : ExtOf wr, p.to.cell? ⟨b, o + k * 5, none⟩ = some (.string bs[k].name) := ext_cell c0
        have q1 : ∀ p : ExtOf wr, p.to.cell? ⟨b, o + k * 5 + 1, none⟩ = some (.int .i64 bs[k].tm.kind) := ext_cell c1
        have q2 : ∀ p : ExtOf wr, p.to.cell? ⟨b, o + k * 5 + 2, none⟩ = some (.string bs[k].tm.name) := ext_cell c2
        have q3 : ∀ p : ExtOf wr, p.to.cell? ⟨b, o + k * 5 + 3, none⟩ = some (.int .i64 bs[k].tm.n) := ext_cell c3
        have q4 : ∀ p : ExtOf wr, p.to.cell? ⟨b, o + k * 5 + 4, none⟩ = some (.slice B bs[k].tm.args.length e) := ext_cell c4
        have i0 : (0 : Int) ≤ (k : Int) := Int.natCast_nonneg _
        have i1 : (k : Int) < (bs.length : Int) := by omega
        have HL2 : Hid (BwLe bs (k + 1) (n + (bs[k].name.size : Int) + weightT bs[k].tm 30)) := Lib.hid fun j hj hjk => by
          have := weightT_pos 30 bs[k].tm
          by_cases e : j = k
          · subst e; omega
          · have := HL.out j hj (by omega); omega
        clear c0 c1 c2 c3 c4 hT HL
        generalize weightT bs[k].tm 30 = W at *
        obtain ⟨W0, W1⟩ := hb
        have hnn : 0 ≤ n := by omega
        have s1 : IntKind.i64.wrap (n + (bs[k].name.size : Int)) = n + (bs[k].name.size : Int) := by rw [IntKind.wrap_i64]; omega
        have s2 : IntKind.i64.wrap (n + (bs[k].name.size : Int) + W) = n + (bs[k].name.size : Int) + W := by rw [IntKind.wrap_i64]; omega
        go_wp2_with fail
        refine wp_region_ext (by kernel_rfl) (by kernel_rfl) ?_
        repeat (go_big_quiet_step ((go_at_call 109; exact of_ext (KEY.out _))))
        refine wpQuiet_nil ?_
        refine ext_all ?_
        intro w2 hx2
        clear q0 q1 q2 q3 q4 KEY s1 s2
        go_wp2_with fail
        go_roundw
        case rel => exact ⟨k + 1, n + (bs[k].name.size : Int) + W, by omega, by omega, by omega, by go_num, rfl, HL2, hx.trans hx2⟩
        case measure => simp [intOf]; omega
      · have hn' : decide (n < 1048576) = false := decide_eq_false hn
        have HZ : Hid (n ≤ 3000 → BwLe bs bs.length n) := Lib.hid fun h3 => by omega
        clear HL
        go_wp2_with fail
        go_ret
        exact ⟨n, rfl, hn0, hn1, HZ, hx⟩
    · have HZ : Hid (n ≤ 3000 → BwLe bs bs.length n) := Lib.hid fun _ j hj _ => HL.out j hj (by omega)
      clear HL
      go_wp2_with fail
      go_ret
      exact ⟨n, rfl, hn0, hn1, HZ, hx⟩

theorem num2_any (n : Int) (w : World) : Calls Try.prog 40 #[.int .i64 n] w fun e w' => e = .returned (.int .i64 n) ∧ w = w' := by
  go_enter Try.func40, Try.ntmps40
  go_wp2_with fail
  go_ret
  exact ⟨rfl, rfl⟩

theorem textsL_le : ∀ (ss : List ByteArray) (n : Int), 0 ≤ n → (∀ s ∈ ss, s.size ≤ 140737488351232) → n ≤ textsL ss n ∧ (textsL ss n ≤ n ∨ textsL ss n ≤ 1048576 + 140737488351232)
  | [], n, _, _ => by simp [textsL]
  | s :: ss, n, h0, h => by
    rw [textsL]
    split
    · have hs := h s (by simp)
      have := textsL_le ss (n + s.size) (by omega) (fun x hx => h x (by simp [hx]))
      omega
    · omega

/-- what Heavy tells -/
def Hv2Out (Bs : List (List Bd)) (ts : List Tm) (ss : List ByteArray) (w : World) (e : Ending) (w' : World) : Prop :=
  ∃ h : Bool, e = .returned (.bool h) ∧ (h = false → (∀ i (hi : i < Bs.length), Bs[i].length ≤ 3000) ∧ (∀ i (hi : i < Bs.length) j (hj : j < Bs[i].length), Bs[i][j].tm.high ≤ 30) ∧ Bs.length ≤ 3000 ∧ weightL ts 30 ts.length ≤ 3000 ∧ textsL ss ss.length ≤ 3000) ∧ Ext w w'

set_option maxRecDepth 100000 in
set_option maxHeartbeats 2000000 in
theorem heavy2_any (Bs : List (List Bd)) (ts : List Tm) (ss : List ByteArray) (A T S : Option Addr) (ca ct cs : Nat) (w : World) (hbl : Bs.length * 24 ≤ 140737488351232) (hB : BssAt w Bs A) (hl : ts.length * 56 ≤ 140737488351232) (h : TmsAt w ts T) (hm : ss.length * 16 ≤ 140737488351232) (hs : StrsAt w ss S) :
    Calls Try.prog 37 #[.agg #[.slice A Bs.length ca, .slice T ts.length ct, .slice S ss.length cs]] w (Hv2Out Bs ts ss w) := by
  have hwb : (0 : Int) ≤ weightL ts 30 ts.length ∧ weightL ts 30 ts.length ≤ 9007199254740992 := by
    have := weightL_le 30 (31 * 281474976710656) (by omega) ts ts.length (fun t ht => by
      obtain ⟨g, d, _, hsub⟩ := h
      obtain ⟨i, hi, rfl⟩ := List.getElem_of_mem ht
      have := weight_le 30 _ _ _ _ (hsub i hi)
      omega)
    omega
  have htb : (0 : Int) ≤ textsL ss ss.length ∧ textsL ss ss.length ≤ 9007199254740992 := by
    have := textsL_le ss ss.length (by omega) (fun s hs' => by
      obtain ⟨i, hi, rfl⟩ := List.getElem_of_mem hs'
      obtain ⟨_, _, _, _, h⟩ := hs i hi; exact h)
    omega
  obtain ⟨WT, hWT⟩ : ∃ WT, WT = weightL ts 30 ts.length := ⟨_, rfl⟩
  obtain ⟨TX, hTX⟩ : ∃ TX, TX = textsL ss ss.length := ⟨_, rfl⟩
  have hx0 : Ext w (w.alloc (.cells #[.slice A Bs.length ca, .slice T ts.length ct, .slice S ss.length cs] 56)) := (Ext.refl w).alloc _
  obtain ⟨wi, hwi⟩ : ∃ wi, wi = w.alloc (.cells #[.slice A Bs.length ca, .slice T ts.length ct, .slice S ss.length cs] 56) := ⟨_, rfl⟩
  have a0 : wi.cell? ⟨w.heap.size, 0, none⟩ = some (.slice A Bs.length ca) := by rw [hwi]; go_simp
  have a1 : wi.cell? ⟨w.heap.size, 1, none⟩ = some (.slice T ts.length ct) := by rw [hwi]; go_simp
  have a2 : wi.cell? ⟨w.heap.size, 2, none⟩ = some (.slice S ss.length cs) := by rw [hwi]; go_simp
  rw [← hwi] at hx0
  have K1 : Hid (∀ p : ExtOf wi, Calls Try.prog 63 #[.slice T ts.length ct] p.to fun e w' => e = .returned (.int .i64 WT) ∧ Ext p.to w') := Lib.hid fun p => (terms_any ts T ct p.to hl (h.ext (hx0.trans p.is))).mono fun _ _ ⟨he, hx⟩ => ⟨by rw [he, hWT], hx⟩
  have K2 : Hid (∀ p : ExtOf wi, Calls Try.prog 64 #[.slice S ss.length cs] p.to fun e w' => e = .returned (.int .i64 TX) ∧ Ext p.to w') := Lib.hid fun p => (texts_any ss S cs p.to hm (hs.ext (hx0.trans p.is))).mono fun _ _ ⟨he, hx⟩ => ⟨by rw [he, hTX], hx ▸ Ext.refl _⟩
  have HWT := Lib.hid hWT
  have HTX := Lib.hid hTX
  rw [← hWT] at hwb
  rw [← hTX] at htb
  have HWI := Lib.hid hwi
  clear hWT hTX h hs hwi
  have q0 : ∀ p : ExtOf wi, p.to.cell? ⟨w.heap.size, 0, none⟩ = some (.slice A Bs.length ca) := ext_cell a0
  have q1 : ∀ p : ExtOf wi, p.to.cell? ⟨w.heap.size, 1, none⟩ = some (.slice T ts.length ct) := ext_cell a1
  have q2 : ∀ p : ExtOf wi, p.to.cell? ⟨w.heap.size, 2, none⟩ = some (.slice S ss.length cs) := ext_cell a2
  have s1 : IntKind.i64.wrap (WT + TX) = WT + TX := by rw [IntKind.wrap_i64]; omega
  have s2 : IntKind.i64.wrap (WT + TX + (Bs.length : Int)) = WT + TX + (Bs.length : Int) := by rw [IntKind.wrap_i64]; omega
  go_enter Try.func37, Try.ntmps37
  go_wp2_with fail
  rw [← HWI.out]
  refine wp_region_ext (by kernel_rfl) (by kernel_rfl) ?_
  repeat (go_big_quiet_step (first | (go_at_call 63; exact of_ext (K1.out _)) | (go_at_call 64; exact of_ext (K2.out _))))
  refine wpQuiet_nil ?_
  refine ext_all ?_
  intro w2 hx2
  have hx02 := hx0.trans hx2
  have b0 := hx2.cell a0
  clear q0 q1 q2 a0 a1 a2 s1 s2 K1 K2
  go_wp2_with fail
  go_loopw [3, 4] (fun m i wr => ∃ (k : Nat) (n : Int), k ≤ Bs.length ∧ WT + TX + (Bs.length : Int) ≤ n ∧ n ≤ 36028797018963968 ∧ i = .int .i64 k ∧ m = .int .i64 n ∧ Hid (∀ j (hj : j < Bs.length), j < k → (Bs[j].length : Int) ≤ n ∧ (n ≤ 3000 → BwLe Bs[j] Bs[j].length n)) ∧ Ext w2 wr) (fun _ i _ => Bs.length - (intOf i).toNat)
  case atStart => exact ⟨0, _, Nat.zero_le _, Int.le_refl _, by omega, rfl, rfl, Lib.hid fun j _ hj => absurd hj (Nat.not_lt_zero _), Ext.refl _⟩
  case round =>
    obtain ⟨k, n, hk, hn0, hn1, rfl, rfl, HJ, hx⟩ := hrel
    have c0 := hx.cell b0
    have hxr := hx02.trans hx
    have hfin : ∀ (hk' : k = Bs.length ∨ 1048576 ≤ n), Hid (Hv2Out Bs ts ss w (.returned (.bool (decide (3000 < n)))) wr) := fun hk' => Lib.hid ⟨_, rfl, fun hd => by
      have hd' : ¬ 3000 < n := of_decide_eq_false hd
      rcases hk' with e | e
      · exact ⟨fun i hi => by have := (HJ.out i hi (by omega)).1; omega, fun i hi j hj => by
          have h1 := (HJ.out i hi (by omega)).2 (by omega) j hj hj
          exact weight_high3 30 _ (by omega), by omega, by rw [← HWT.out]; omega, by rw [← HTX.out]; omega⟩
      · omega, hxr⟩
    by_cases hlt : k < Bs.length
    · by_cases hn : n < 1048576
      · obtain ⟨b, o, B, cb, rfl, d0, hBd, _, hlen⟩ := (hB.ext hxr) k hlt
        clear hfin
        go_wp2_with fail
        refine (bweight_any Bs[k] B cb _ hlen hBd).mono ?_
        rintro e3 w3 ⟨n3, rfl, h30, h31, HB3, hx3⟩
        have HJ2 : Hid (∀ j (hj : j < Bs.length), j < k + 1 → (Bs[j].length : Int) ≤ n + n3 ∧ (n + n3 ≤ 3000 → BwLe Bs[j] Bs[j].length (n + n3))) := Lib.hid fun j hj hjk => by
          by_cases e : j = k
          · subst e
            refine ⟨by omega, fun hle => ?_⟩
            have := HB3.out (by omega)
            intro q hq hql
            have := this q hq hql; omega
          · obtain ⟨h1, h2⟩ := HJ.out j hj (by omega)
            refine ⟨by omega, fun hle => ?_⟩
            have := h2 (by omega)
            intro q hq hql
            have := this q hq hql; omega
        clear c0 d0 HB3 HJ
        go_wp2_with fail
        go_roundw
        case rel => exact ⟨k + 1, n + n3, by omega, by omega, by omega, by go_num, rfl, HJ2, hx.trans hx3⟩
        case measure => simp [intOf]; omega
      · have hn' : decide (n < 1048576) = false := decide_eq_false hn
        have HF := hfin (.inr (by omega))
        clear hfin
        go_wp2_with fail
        go_ret
        exact HF.out
    · have HF := hfin (.inl (by omega))
      clear hfin
      go_wp2_with fail
      go_ret
      exact HF.out
end Go.Proofs.Ytjmfjeeddnmoaaa
