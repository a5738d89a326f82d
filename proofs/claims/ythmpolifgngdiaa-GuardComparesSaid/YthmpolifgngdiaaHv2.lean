/- almagestlaw2: how much binds weigh; Heavy; wakes; num. -/
import Derived.Test.YthmpolifgngdiaaME
import Derived.Test.YthmpolifgngdiaaBd
import Derived.Test.YthmpolifgngdiaaWi
import Derived.Test.YthmpolifgngdiaaExt
import Derived.Test.YthmpolifgngdiaaHeavy
namespace Go.Proofs.Ythmpolifgngdiaa
open Go.RowKit

/-- slices of binds in a slice -/
def BssAt (w : World) (Bs : List (List Bd)) (A : Option Addr) : Prop :=
  ∀ i (h : i < Bs.length), ∃ b o B c, A = some ⟨b, o, none⟩ ∧ w.cell? ⟨b, o + i, none⟩ = some (.slice B Bs[i].length c) ∧ BdsAt w Bs[i] B ∧ Bs[i].length ≤ c ∧ Bs[i].length * 72 ≤ 140737488351232
theorem BssAt.ext {w w' : World} {Bs : List (List Bd)} {A : Option Addr} (h : BssAt w Bs A) (k : Ext w w') : BssAt w' Bs A := by
  intro i hi
  obtain ⟨b, o, B, c, e, h0, h1, h2⟩ := h i hi
  exact ⟨b, o, B, c, e, k.cell h0, h1.ext k, h2⟩

theorem weightL_each3 (d : Nat) : ∀ (ts : List Tm) (n : Int), 0 ≤ n → weightL ts d n ≤ 3000 → ∀ t ∈ ts, weightT t d ≤ 3000
  | a :: ts, n, h0, h, t, ht => by
    have hp := weightT_pos d a
    have hn : n < 1048576 := by
      have := weightL_ge d (weightT_pos d) (a :: ts) n
      omega
    rw [weightL, if_pos hn] at h
    have hge := weightL_ge d (weightT_pos d) ts (n + weightT a d)
    rcases List.mem_cons.1 ht with e | e
    · subst e; omega
    · exact weightL_each3 d ts (n + weightT a d) (by omega) h t e
theorem weight_high3 (d : Nat) : ∀ t : Tm, weightT t d ≤ 3000 → t.high ≤ d := by
  induction d with
  | zero => intro t h; obtain ⟨k, s, n, l⟩ := t; simp [weightT] at h
  | succ d ih =>
    intro t h
    obtain ⟨k, s, n, l⟩ := t
    rw [weightT] at h
    have he := weightL_each3 d l (1 + s.size) (by omega) h
    have hl : ∀ ts : List Tm, (∀ t ∈ ts, t.high ≤ d) → highs ts ≤ d := by
      intro ts
      induction ts with
      | nil => intro _; simp [highs]
      | cons a r ih2 => intro hh; rw [highs]; have := hh a (by simp); have := ih2 (fun x hx => hh x (by simp [hx])); omega
    have := hl l (fun x hx => ih x (he x hx))
    rw [Tm.high]; omega

/-- no bind's term weighs more -/
def BwLe (bs : List Bd) (k : Nat) (n : Int) : Prop := ∀ j (h : j < bs.length), j < k → weightT bs[j].tm 30 ≤ n
def BwOut (bs : List Bd) (w : World) (e : Ending) (w' : World) : Prop := ∃ n : Int, e = .returned (.int .i64 n) ∧ (bs.length : Int) ≤ n ∧ n ≤ 18014398509481984 ∧ Hid (n ≤ 3000 → BwLe bs bs.length n) ∧ Ext w w'

set_option maxRecDepth 100000 in
set_option maxHeartbeats 2000000 in
theorem bweight_any (bs : List Bd) (A : Option Addr) (c : Nat) (w : World) (hl : bs.length * 72 ≤ 140737488351232) (h : BdsAt w bs A) :
    Calls Try.prog 13 #[.slice A bs.length c] w (BwOut bs w) := by
  go_enter Try.func13, Try.ntmps13
  go_wp2_with fail
  go_loopw [3, 4] (fun m i wr => ∃ (k : Nat) (n : Int), k ≤ bs.length ∧ (bs.length : Int) ≤ n ∧ n ≤ 18014398509481984 ∧ i = .int .i64 k ∧ m = .int .i64 n ∧ Hid (BwLe bs k n) ∧ Ext w wr) (fun _ i _ => bs.length - (intOf i).toNat)
  case atStart => exact ⟨0, _, Nat.zero_le _, Int.le_refl _, by omega, rfl, rfl, Lib.hid fun j _ h0 => absurd h0 (Nat.not_lt_zero _), Ext.refl _⟩
  case round =>
    obtain ⟨k, n, hk, hn0, hn1, rfl, rfl, HL, hx⟩ := hrel
    by_cases hlt : k < bs.length
    · by_cases hn : n < 1048576
      · obtain ⟨b, o, B, e, rfl, c0, c1, c2, c3, c4, hT, hnm⟩ := (h.ext hx) k hlt
        have hb := weight_le 30 _ _ _ _ hT
        have KEY : Hid (∀ p : ExtOf wr, Calls Try.prog 22 #[bs[k].tm.val B e, .int .i64 30] p.to fun e w' => e = .returned (.int .i64 (weightT bs[k].tm 30)) ∧ Ext p.to w') := Lib.hid fun p => weight_any 30 30 _ _ _ _ (Lib.hid rfl) (by omega) (hT.ext p.is)
        have q0 : ∀ p : ExtOf wr, p.to.cell? ⟨b, o + k * 5, none⟩ = some (.string bs[k].name) := ext_cell c0
        have q1 : ∀ p : ExtOf wr, p.to.cell? ⟨b, o + k * 5 + 1, none⟩ = some (.int .i64 bs[k].tm.kind) := ext_cell c1
        have q2 : ∀ p : ExtOf wr, p.to.cell? ⟨b, o + k * 5 + 2, none⟩ = some (.string bs[k].tm.name) := ext_cell c2
        have q3 : ∀ p : ExtOf wr, p.to.cell? ⟨b, o + k * 5 + 3, none⟩ = some (.int .i64 bs[k].tm.n) := ext_cell c3
        have q4 : ∀ p : ExtOf wr, p.to.cell? ⟨b, o + k * 5 + 4, none⟩ = some (.slice B bs[k].tm.args.length e) := ext_cell c4
        have i0 : (0 : Int) ≤ (k : Int) := Int.natCast_nonneg _
        have i1 : (k : Int) < (bs.length : Int) := by omega
        have HL2 : Hid (BwLe bs (k + 1) (n + (bs[k].name.size : Int) + weightT bs[k].tm 30)) := Lib.hid fun j hj hjk => by
          have := weightT_pos 30 bs[k].tm
          by_cases e : j = k
          · subst e; omega
          · have := HL.out j hj (by omega); omega
        clear c0 c1 c2 c3 c4 hT HL
        generalize weightT bs[k].tm 30 = W at *
        obtain ⟨W0, W1⟩ := hb
        have hnn : 0 ≤ n := by omega
        have s1 : IntKind.i64.wrap (n + (bs[k].name.size : Int)) = n + (bs[k].name.size : Int) := by rw [IntKind.wrap_i64]; omega
        have s2 : IntKind.i64.wrap (n + (bs[k].name.size : Int) + W) = n + (bs[k].name.size : Int) + W := by rw [IntKind.wrap_i64]; omega
        go_wp2_with fail
        refine wp_region_ext (by kernel_rfl) (by kernel_rfl) ?_
        repeat (go_big_quiet_step ((go_at_call 22; exact of_ext (KEY.out _))))
        refine wpQuiet_nil ?_
        refine ext_all ?_
        intro w2 hx2
        clear q0 q1 q2 q3 q4 KEY s1 s2
        go_wp2_with fail
        go_roundw
        case rel => exact ⟨k + 1, n + (bs[k].name.size : Int) + W, by omega, by omega, by omega, by go_num, rfl, HL2, hx.trans hx2⟩
        case measure => simp [intOf]; omega
      · have hn' : decide (n < 1048576) = false := decide_eq_false hn
        have HZ : Hid (n ≤ 3000 → BwLe bs bs.length n) := Lib.hid fun h3 => by omega
        clear HL
        go_wp2_with fail
        go_ret
        exact ⟨n, rfl, hn0, hn1, HZ, hx⟩
    · have HZ : Hid (n ≤ 3000 → BwLe bs bs.length n) := Lib.hid fun _ j hj _ => HL.out j hj (by omega)
      clear HL
      go_wp2_with fail
      go_ret
      exact ⟨n, rfl, hn0, hn1, HZ, hx⟩

end Go.Proofs.Ythmpolifgngdiaa
