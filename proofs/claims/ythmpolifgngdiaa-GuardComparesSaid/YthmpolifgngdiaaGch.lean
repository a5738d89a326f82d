/- How much guards and clauses weigh; almagestlaw11.Heavy. -/
import Derived.Test.YthmpolifgngdiaaHv2
import Derived.Test.YthmpolifgngdiaaMA
import Derived.Test.YthmpolifgngdiaaExt
namespace Go.Proofs.Ythmpolifgngdiaa
open Go.RowKit

/-- no guard's term weighs more -/
def GwLe (gs : List Gd) (k : Nat) (n : Int) : Prop := ∀ j (h : j < gs.length), j < k → weightT gs[j].l 30 ≤ n ∧ weightT gs[j].r 30 ≤ n
def GwOut (gs : List Gd) (w : World) (e : Ending) (w' : World) : Prop := ∃ n : Int, e = .returned (.int .i64 n) ∧ (gs.length : Int) ≤ n ∧ n ≤ 18014398509481984 ∧ Hid (n ≤ 3000 → GwLe gs gs.length n) ∧ Ext w w'

set_option maxRecDepth 100000 in
set_option maxHeartbeats 2000000 in
theorem gweight_any (gs : List Gd) (A : Option Addr) (c : Nat) (w : World) (hl : gs.length * 120 ≤ 140737488351232) (h : GusAt w gs A) :
    Calls Try.prog 12 #[.slice A gs.length c] w (GwOut gs w) := by
  go_enter Try.func12, Try.ntmps12
  go_wp2_with fail
  go_loopw [3, 4] (fun m i wr => ∃ (k : Nat) (n : Int), k ≤ gs.length ∧ (gs.length : Int) ≤ n ∧ n ≤ 18014398509481984 ∧ i = .int .i64 k ∧ m = .int .i64 n ∧ Hid (GwLe gs k n) ∧ Ext w wr) (fun _ i _ => gs.length - (intOf i).toNat)
  case atStart => exact ⟨0, _, Nat.zero_le _, Int.le_refl _, by omega, rfl, rfl, Lib.hid fun j _ h0 => absurd h0 (Nat.not_lt_zero _), Ext.refl _⟩
  case round =>
    obtain ⟨k, n, hk, hn0, hn1, rfl, rfl, HL, hx⟩ := hrel
    by_cases hlt : k < gs.length
    · by_cases hn : n < 1048576
      · obtain ⟨b, o, p, rfl, hc, hT⟩ := (h.ext hx) k hlt
        have hb1 := weight_le 30 _ _ _ _ hT.l
        have hb2 := weight_le 30 _ _ _ _ hT.r
        have KL : Hid (∀ q : ExtOf wr, Calls Try.prog 22 #[gs[k].l.val p.A p.ac, .int .i64 30] q.to fun e w' => e = .returned (.int .i64 (weightT gs[k].l 30)) ∧ Ext q.to w') := Lib.hid fun q => weight_any 30 30 _ _ _ _ (Lib.hid rfl) (by omega) (hT.l.ext q.is)
        have KR : Hid (∀ q : ExtOf wr, Calls Try.prog 22 #[gs[k].r.val p.B p.bc, .int .i64 30] q.to fun e w' => e = .returned (.int .i64 (weightT gs[k].r 30)) ∧ Ext q.to w') := Lib.hid fun q => weight_any 30 30 _ _ _ _ (Lib.hid rfl) (by omega) (hT.r.ext q.is)
        have q1 : ∀ q : ExtOf wr, q.to.cell? ⟨b, o + k * 9 + 1, none⟩ = some (.int .i64 gs[k].l.kind) := ext_cell (hc 1 _ rfl)
        have q2 : ∀ q : ExtOf wr, q.to.cell? ⟨b, o + k * 9 + 2, none⟩ = some (.string gs[k].l.name) := ext_cell (hc 2 _ rfl)
        have q3 : ∀ q : ExtOf wr, q.to.cell? ⟨b, o + k * 9 + 3, none⟩ = some (.int .i64 gs[k].l.n) := ext_cell (hc 3 _ rfl)
        have q4 : ∀ q : ExtOf wr, q.to.cell? ⟨b, o + k * 9 + 4, none⟩ = some (.slice p.A gs[k].l.args.length p.ac) := ext_cell (hc 4 _ rfl)
        have q5 : ∀ q : ExtOf wr, q.to.cell? ⟨b, o + k * 9 + 5, none⟩ = some (.int .i64 gs[k].r.kind) := ext_cell (hc 5 _ rfl)
        have q6 : ∀ q : ExtOf wr, q.to.cell? ⟨b, o + k * 9 + 6, none⟩ = some (.string gs[k].r.name) := ext_cell (hc 6 _ rfl)
        have q7 : ∀ q : ExtOf wr, q.to.cell? ⟨b, o + k * 9 + 7, none⟩ = some (.int .i64 gs[k].r.n) := ext_cell (hc 7 _ rfl)
        have q8 : ∀ q : ExtOf wr, q.to.cell? ⟨b, o + k * 9 + 8, none⟩ = some (.slice p.B gs[k].r.args.length p.bc) := ext_cell (hc 8 _ rfl)
        have i0 : (0 : Int) ≤ (k : Int) := Int.natCast_nonneg _
        have i1 : (k : Int) < (gs.length : Int) := by omega
        have HL2 : Hid (GwLe gs (k + 1) (n + weightT gs[k].l 30 + weightT gs[k].r 30)) := Lib.hid fun j hj hjk => by
          have h1 := weightT_pos 30 gs[k].l
          have h2 := weightT_pos 30 gs[k].r
          by_cases e : j = k
          · subst e; omega
          · have := HL.out j hj (by omega); omega
        clear hc hT HL
        generalize weightT gs[k].l 30 = W at *
        generalize weightT gs[k].r 30 = V at *
        obtain ⟨W0, W1⟩ := hb1
        obtain ⟨V0, V1⟩ := hb2
        have hnn : 0 ≤ n := by omega
        have s1 : IntKind.i64.wrap (n + W) = n + W := by rw [IntKind.wrap_i64]; omega
        have s2 : IntKind.i64.wrap (n + W + V) = n + W + V := by rw [IntKind.wrap_i64]; omega
        go_wp2_with fail
        refine wp_region_ext (by kernel_rfl) (by kernel_rfl) ?_
        repeat (go_big_quiet_step (first | (go_at_call 22; with_reducible exact of_ext (KL.out _)) | (go_at_call 22; with_reducible exact of_ext (KR.out _))))
        refine wpQuiet_nil ?_
        refine ext_all ?_
        intro w2 hx2
        clear q1 q2 q3 q4 q5 q6 q7 q8 KL KR s1 s2
        go_wp2_with fail
        go_roundw
        case rel => exact ⟨k + 1, n + W + V, by omega, by omega, by omega, by go_num, rfl, HL2, hx.trans hx2⟩
        case measure => simp [intOf]; omega
      · have hn' : decide (n < 1048576) = false := decide_eq_false hn
        have HZ : Hid (n ≤ 3000 → GwLe gs gs.length n) := Lib.hid fun h3 => by omega
        clear HL
        go_wp2_with fail
        go_ret
        exact ⟨n, rfl, hn0, hn1, HZ, hx⟩
    · have HZ : Hid (n ≤ 3000 → GwLe gs gs.length n) := Lib.hid fun _ j hj _ => HL.out j hj (by omega)
      clear HL
      go_wp2_with fail
      go_ret
      exact ⟨n, rfl, hn0, hn1, HZ, hx⟩

/-- a clause's parts weigh no more -/
def CwLe (cs : List Cl) (k : Nat) (n : Int) : Prop := ∀ j (h : j < cs.length), j < k → weightT cs[j].head 30 ≤ n ∧ weightL cs[j].body 30 cs[j].body.length ≤ n ∧ (cs[j].guards.length : Int) ≤ n ∧ (n ≤ 3000 → GwLe cs[j].guards cs[j].guards.length n)
theorem CwLe.mono {cs : List Cl} {k : Nat} {n m : Int} (h : CwLe cs k n) (hm : n ≤ m) (h3 : m ≤ 3000 → n ≤ 3000) : CwLe cs k m := fun j hj hk => by
  obtain ⟨h1, h2, h4, h5⟩ := h j hj hk
  refine ⟨by omega, by omega, by omega, fun hle q hq hql => ?_⟩
  have := h5 (h3 hle) q hq hql
  omega
def CwOut (cs : List Cl) (w : World) (e : Ending) (w' : World) : Prop := ∃ n : Int, e = .returned (.int .i64 n) ∧ (cs.length : Int) ≤ n ∧ n ≤ 36028797018963968 ∧ Hid (n ≤ 3000 → CwLe cs cs.length n) ∧ Ext w w'
theorem terms_bd {w : World} {ts : List Tm} {A : Option Addr} (h : TmsAt w ts A) (hl : ts.length * 56 ≤ 140737488351232) : (ts.length : Int) ≤ weightL ts 30 ts.length ∧ weightL ts 30 ts.length ≤ 9007199254740992 := by
  have := weightL_le 30 (31 * 281474976710656) (by omega) ts ts.length (fun t ht => by
    obtain ⟨g, d, _, hsub⟩ := h
    obtain ⟨i, hi, rfl⟩ := List.getElem_of_mem ht
    have := weight_le 30 _ _ _ _ (hsub i hi)
    omega)
  omega

set_option maxRecDepth 100000 in
set_option maxHeartbeats 4000000 in
theorem cweight_any (cs : List Cl) (A : Option Addr) (c : Nat) (w : World) (hl : cs.length * 104 ≤ 140737488351232) (h : CusAt w cs A) :
    Calls Try.prog 23 #[.slice A cs.length c] w (CwOut cs w) := by
  go_enter Try.func23, Try.ntmps23
  go_wp2_with fail
  go_loopw [3, 4] (fun m i wr => ∃ (k : Nat) (n : Int), k ≤ cs.length ∧ (cs.length : Int) ≤ n ∧ n ≤ 36028797018963968 ∧ i = .int .i64 k ∧ m = .int .i64 n ∧ Hid (CwLe cs k n) ∧ Ext w wr) (fun _ i _ => cs.length - (intOf i).toNat)
  case atStart => exact ⟨0, _, Nat.zero_le _, Int.le_refl _, by omega, rfl, rfl, Lib.hid fun j _ h0 => absurd h0 (Nat.not_lt_zero _), Ext.refl _⟩
  case round =>
    obtain ⟨k, n, hk, hn0, hn1, rfl, rfl, HL, hx⟩ := hrel
    by_cases hlt : k < cs.length
    · by_cases hn : n < 1048576
      · obtain ⟨b, o, p, rfl, hc, hT⟩ := (h.ext hx) k hlt
        have hb1 := weight_le 30 _ _ _ _ hT.head
        have hb2 := terms_bd hT.body hT.lb
        have q0 : wr.cell? ⟨b, o + k * 6, none⟩ = some (.int .i64 cs[k].head.kind) := hc 0 _ rfl
        have q1 : wr.cell? ⟨b, o + k * 6 + 1, none⟩ = some (.string cs[k].head.name) := hc 1 _ rfl
        have q2 : wr.cell? ⟨b, o + k * 6 + 2, none⟩ = some (.int .i64 cs[k].head.n) := hc 2 _ rfl
        have q3 : wr.cell? ⟨b, o + k * 6 + 3, none⟩ = some (.slice p.A cs[k].head.args.length p.ac) := hc 3 _ rfl
        have q4 : wr.cell? ⟨b, o + k * 6 + 4, none⟩ = some (.slice p.bA cs[k].body.length p.bc) := hc 4 _ rfl
        have q5 : wr.cell? ⟨b, o + k * 6 + 5, none⟩ = some (.slice p.gA cs[k].guards.length p.gc) := hc 5 _ rfl
        have KH : Hid (∀ u : World, Ext wr u → Calls Try.prog 22 #[cs[k].head.val p.A p.ac, .int .i64 30] u fun e w' => e = .returned (.int .i64 (weightT cs[k].head 30)) ∧ Ext u w') := Lib.hid fun u hu => weight_any 30 30 _ _ _ _ (Lib.hid rfl) (by omega) (hT.head.ext hu)
        have KB : Hid (∀ u : World, Ext wr u → Calls Try.prog 24 #[.slice p.bA cs[k].body.length p.bc] u fun e w' => e = .returned (.int .i64 (weightL cs[k].body 30 cs[k].body.length)) ∧ Ext u w') := Lib.hid fun u hu => terms_any _ _ _ _ hT.lb (hT.body.ext hu)
        have KG : Hid (∀ u : World, Ext wr u → Calls Try.prog 12 #[.slice p.gA cs[k].guards.length p.gc] u (GwOut cs[k].guards u)) := Lib.hid fun u hu => gweight_any _ _ _ _ hT.lg (hT.guards.ext hu)
        have HLo := HL
        have HP1 := Lib.hid (weightT_pos 30 cs[k].head)
        have i0 : (0 : Int) ≤ (k : Int) := Int.natCast_nonneg _
        have i1 : (k : Int) < (cs.length : Int) := by omega
        clear hc hT HL
        have rulesI := fun (u : World) (k : Ext wr u) => And.intro (k.cell q0) (And.intro (k.cell q1) (And.intro (k.cell q2) (And.intro (k.cell q3) (And.intro (k.cell q4) (k.cell q5)))))
        have hI0 := Ext.refl wr
        have HGN := Lib.hid (show ∀ n3 : Int, (cs[k].guards.length : Int) ≤ n3 → n3 ≤ 18014398509481984 → (n3 ≤ 3000 → GwLe cs[k].guards cs[k].guards.length n3) → CwLe cs (k + 1) (n + weightT cs[k].head 30 + weightL cs[k].body 30 cs[k].body.length + n3) from fun n3 h1 _ h4 j hj hjk => by
          have hp := HP1.out
          by_cases e : j = k
          · subst e
            refine ⟨by omega, by omega, by omega, fun hle q hq hql => ?_⟩
            have := h4 (by omega) q hq hql
            omega
          · obtain ⟨g1, g2, g3, g4⟩ := HLo.out j hj (by omega)
            refine ⟨by omega, by omega, by omega, fun hle q hq hql => ?_⟩
            have := g4 (by omega) q hq hql
            omega)
        clear HLo HP1
        generalize weightT cs[k].head 30 = W at *
        generalize weightL cs[k].body 30 cs[k].body.length = V at *
        obtain ⟨W0, W1⟩ := hb1
        obtain ⟨V0, V1⟩ := hb2
        have hnn : 0 ≤ n := by omega
        have s1 : IntKind.i64.wrap (n + W) = n + W := by rw [IntKind.wrap_i64]; omega
        have s2 : IntKind.i64.wrap (n + W + V) = n + W + V := by rw [IntKind.wrap_i64]; omega
        go_wp2_with fail
        go_region_held3 (fun u => Ext wr u) (first | with_reducible assumption | with_reducible exact hI0.drew)
          (first
            | (go_at_call 22; (with_reducible refine (KH.out _ (by first | with_reducible assumption | with_reducible exact hI0.drew)).mono ?_); rintro e5 w5 ⟨rfl, hx5⟩; have hS5 : Ext wr w5 := Ext.trans (by first | with_reducible assumption | with_reducible exact hI0.drew) hx5)
            | (go_at_call 24; (with_reducible refine (KB.out _ (by with_reducible assumption)).mono ?_); rintro e6 w6 ⟨rfl, hx6⟩; have hS6 : Ext wr w6 := Ext.trans hS5 hx6)
            | (go_at_call 12; (with_reducible refine (KG.out _ (by with_reducible assumption)).mono ?_); rintro e7 w7 ⟨n3, rfl, h30, h31, HB3, hx7⟩; have hS7 : Ext wr w7 := Ext.trans hS6 hx7; have s3 : IntKind.i64.wrap (n + W + V + n3) = n + W + V + n3 := by rw [IntKind.wrap_i64]; omega))
        all_goals
          have HL2 := Lib.hid (HGN.out n3 h30 h31 HB3.out)
          clear q0 q1 q2 q3 q4 q5 KH KB KG s1 s2 s3 HGN rulesI
          go_wp2_with fail
          go_roundw
          case rel => exact ⟨k + 1, n + W + V + n3, by omega, by omega, by omega, by go_num, rfl, HL2, hx.trans hS7⟩
          case measure => simp [intOf]; omega
      · have hn' : decide (n < 1048576) = false := decide_eq_false hn
        have HZ : Hid (n ≤ 3000 → CwLe cs cs.length n) := Lib.hid fun h3 => by omega
        clear HL
        go_wp2_with fail
        go_ret
        exact ⟨n, rfl, hn0, hn1, HZ, hx⟩
    · have HZ : Hid (n ≤ 3000 → CwLe cs cs.length n) := Lib.hid fun _ j hj _ => HL.out j hj (by omega)
      clear HL
      go_wp2_with fail
      go_ret
      exact ⟨n, rfl, hn0, hn1, HZ, hx⟩
end Go.Proofs.Ythmpolifgngdiaa
