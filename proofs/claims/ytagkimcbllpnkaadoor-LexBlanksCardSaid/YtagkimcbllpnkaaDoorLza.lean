/- almagestlaw4: how heavy, alike, awake. -/
import Derived.Test.YtagkimcbllpnkaaDoorLxx
namespace Go.Proofs.YtagkimcbllpnkaaDoor
open Go.RowKit Go.Maps

/-- how much texts are -/
def textsL : List ByteArray → Int → Int
  | [], n => n
  | s :: ss, n => if n < 1048576 then textsL ss (n + s.size) else n

set_option maxHeartbeats 1000000 in
theorem texts_any (ss : List ByteArray) (A : Option Addr) (c : Nat) (w : World) (hl : ss.length * 16 ≤ 140737488351232) (h : StrsAt w ss A) :
    Calls Tryd.prog 12 #[.slice A ss.length c] w fun e w' => e = .returned (.int .i64 (textsL ss ss.length)) ∧ w = w' := by
  have H0 : Hid (textsL (ss.drop 0) ss.length = textsL ss ss.length) := Lib.hid (by rw [List.drop_zero])
  go_enter Tryd.func12, Tryd.ntmps12
  go_wp2_with fail
  go_loop [3, 4] (fun m i => ∃ (k : Nat) (n : Int), k ≤ ss.length ∧ 0 ≤ n ∧ n ≤ 9007199254740992 ∧ i = .int .i64 k ∧ m = .int .i64 n ∧ Hid (textsL (ss.drop k) n = textsL ss ss.length)) (fun _ i => ss.length - (intOf i).toNat)
  case atStart => exact ⟨0, _, Nat.zero_le _, by omega, by omega, rfl, rfl, H0⟩
  case round =>
    obtain ⟨k, n, hk, hn0, hn1, rfl, rfl, H⟩ := hrel
    by_cases hlt : k < ss.length
    · obtain ⟨b, o, rfl, c0, hb⟩ := h k hlt
      have H2 : Hid ((if n < 1048576 then textsL (ss.drop (k + 1)) (n + ss[k].size) else n) = textsL ss ss.length) := by
        have := H.out
        rw [List.drop_eq_getElem_cons hlt, textsL] at this
        exact Lib.hid this
      clear H H0
      by_cases hn : n < 1048576
      · go_wp2_with fail
        go_round
        case rel => exact ⟨k + 1, n + ss[k].size, by omega, by omega, by omega, by go_num, rfl, Lib.hid (by have := H2.out; rwa [if_pos (by omega)] at this)⟩
        case measure => simp [intOf]; omega
      · have hn' : decide (n < 1048576) = false := decide_eq_false hn
        go_wp2_with fail
        go_ret
        exact ⟨ret_int (by have := H2.out; rwa [if_neg (by omega)] at this), rfl⟩
    · go_wp2_with fail
      go_ret
      exact ⟨ret_int (by have := H.out; rwa [List.drop_eq_nil_of_le (by omega), textsL] at this), rfl⟩


theorem num_any (n : Int) (w : World) : Calls Tryd.prog 9 #[.int .i64 n] w fun e w' => e = .returned (.int .i64 n) ∧ w = w' := by
  go_enter Tryd.func9, Tryd.ntmps9
  go_wp2_with fail
  go_ret
  exact ⟨rfl, rfl⟩

def heavyB (ss : List ByteArray) : Bool := decide (9000 < textsL ss ss.length)
theorem heavy_any (ss : List ByteArray) (A : Option Addr) (c : Nat) (w : World) (hl : ss.length * 16 ≤ 140737488351232) (h : StrsAt w ss A) :
    Calls Tryd.prog 6 #[.agg #[.slice A ss.length c]] w fun e w' => e = .returned (.bool (heavyB ss)) ∧ Ext w w' := by
  go_enter Tryd.func6, Tryd.ntmps6
  go_wp2_with fail
  refine (texts_any ss A c _ hl (h.ext ((Ext.refl _).alloc _))).mono ?_
  rintro e w1 ⟨rfl, rfl⟩
  go_wp2_with fail
  go_ret
  exact ⟨rfl, (Ext.refl w).alloc _⟩

/-- from A on lie these words -/
def ToksAt (w : World) (ts : List Tok) (A : Option Addr) : Prop := ∀ i (h : i < ts.length), ∃ b o, A = some ⟨b, o, none⟩ ∧ w.cell? ⟨b, o + i * 4, none⟩ = some (.int .i64 ts[i].kind) ∧ w.cell? ⟨b, o + i * 4 + 1, none⟩ = some (.string ts[i].text) ∧
  w.cell? ⟨b, o + i * 4 + 2, none⟩ = some (.int .i64 ts[i].n) ∧ w.cell? ⟨b, o + i * 4 + 3, none⟩ = some (.int .i64 ts[i].at_)
theorem ToksAt.ext {w w' : World} {ts : List Tok} {A : Option Addr} (h : ToksAt w ts A) (k : Ext w w') : ToksAt w' ts A := fun i hi => by
  obtain ⟨b, o, e, c0, c1, c2, c3⟩ := h i hi
  exact ⟨b, o, e, k.cell c0, k.cell c1, k.cell c2, k.cell c3⟩
theorem owned_toks {w : World} {base : Nat} {v : Value} {ts : List Tok} (h : w.ownsRow base 37 4 v ts.length (tokCells ts)) : ∃ A c, v = .slice A ts.length c ∧ ts.length ≤ c ∧ ToksAt w ts A := by
  rcases h.2 with ⟨rfl, h0⟩ | ⟨g, cap, cur, rfl, _, _, hc, _⟩
  · have e : ts = [] := List.eq_nil_of_length_eq_zero h0
    subst e
    exact ⟨none, 0, rfl, Nat.le_refl _, fun i hi => absurd hi (by simp)⟩
  · refine ⟨_, cap, rfl, hc, fun i hi => ⟨g, 0, rfl, ?_⟩⟩
    have cell : ∀ j, j < 4 → w.cell? ⟨g, 0 + i * 4 + j, none⟩ = ts[i].cells[j]? := fun j hj => by
      rw [show 0 + i * 4 + j = i * 4 + j by omega, h.cellAt (i * 4 + j) (by omega), tokCells_at ts i j hi hj]
    refine ⟨?_, ?_, ?_, ?_⟩
    · have := cell 0 (by omega); simpa [Tok.cells] using this
    · have := cell 1 (by omega); simpa [Tok.cells] using this
    · have := cell 2 (by omega); simpa [Tok.cells] using this
    · have := cell 3 (by omega); simpa [Tok.cells] using this

set_option maxRecDepth 100000 in
set_option maxHeartbeats 1000000 in
theorem eqToks_any (ts : List Tok) (A B : Option Addr) (c d : Nat) (w : World) (hl : ts.length ≤ 1000000) (hA : ToksAt w ts A) (hB : ToksAt w ts B) :
    Calls Tryd.prog 10 #[.slice A ts.length c, .slice B ts.length d] w fun e w' => e = .returned (.bool true) ∧ Ext w w' := by
  go_enter Tryd.func10, Tryd.ntmps10
  go_wp2_with fail
  go_loopw [5] (fun i wr => ∃ k : Nat, k ≤ ts.length ∧ i = .int .i64 k ∧ Ext w wr) (fun i _ => ts.length - (intOf i).toNat)
  case atStart => exact ⟨0, Nat.zero_le _, rfl, Ext.refl _⟩
  case round =>
    obtain ⟨k, hk, rfl, hx⟩ := hrel
    by_cases hlt : k < ts.length
    · obtain ⟨b, o, rfl, a0, a1, a2, a3⟩ := (hA.ext hx) k hlt
      obtain ⟨b', o', rfl, b0, b1, b2, b3⟩ := (hB.ext hx) k hlt
      have k0 : (0 : Int) ≤ (k : Int) := Int.natCast_nonneg _
      have k1 : (k : Int) < (ts.length : Int) := by omega
      go_wp2_with fail
      go_quiet (fail)
      go_wp2_with fail
      go_roundw
      case rel => exact ⟨k + 1, by omega, by go_num, hx.drewN _⟩
      case measure => simp [intOf]; omega
    · go_wp2_with fail
      go_ret
      exact ⟨rfl, hx⟩

/-- what is asked to be awake -/
theorem lex_fx : lexT ⟨#[102, 40, 88, 41]⟩ = [⟨1, ⟨#[102]⟩, 0, 0⟩, ⟨4, ⟨#[40]⟩, 0, 1⟩, ⟨2, ⟨#[88]⟩, 0, 2⟩, ⟨4, ⟨#[41]⟩, 0, 3⟩, ⟨5, ⟨#[]⟩, 0, 4⟩] ∧ lexE ⟨#[102, 40, 88, 41]⟩ = 0 := by
  have h1 : tokL [102, 40, 88, 41] = .inr (⟨1, ⟨#[102]⟩, 0, 0⟩, [40, 88, 41]) := by rfl
  have h2 : tokL [40, 88, 41] = .inr (⟨4, ⟨#[40]⟩, 0, 0⟩, [88, 41]) := by rfl
  have h3 : tokL [88, 41] = .inr (⟨2, ⟨#[88]⟩, 0, 0⟩, [41]) := by rfl
  have h4 : tokL [41] = .inr (⟨4, ⟨#[41]⟩, 0, 0⟩, []) := by rfl
  have ht : toksL 4 [102, 40, 88, 41] = .inr [⟨1, ⟨#[102]⟩, 0, 0⟩, ⟨4, ⟨#[40]⟩, 0, 1⟩, ⟨2, ⟨#[88]⟩, 0, 2⟩, ⟨4, ⟨#[41]⟩, 0, 3⟩, ⟨5, ⟨#[]⟩, 0, 4⟩] := by
    rw [toksL_go (by rfl) h1, toksL_go (by rfl) h2, toksL_go (by rfl) h3, toksL_go (by rfl) h4, toksL_nil (by rfl)]
    rfl
  have hs : (⟨#[102, 40, 88, 41]⟩ : ByteArray).size = 4 := rfl
  have hd : (⟨#[102, 40, 88, 41]⟩ : ByteArray).data.toList = [102, 40, 88, 41] := rfl
  unfold lexT lexE
  rw [hs, hd, ht]
  exact ⟨rfl, rfl⟩
theorem wakes_any (w : World) (hC : ClsAt w) : Calls Tryd.prog 11 #[] w fun e w' => e = .returned (.bool true) ∧ Ext w w' := by
  have hz : w.heap.size ≠ 0 := by have := World.block_lt_of_cell? w _ (hC 0 (by omega)); simp only at this; omega
  have KT := fun u hu hn => Lib.hid (Tokens_any ⟨#[102, 40, 88, 41]⟩ u hu hn (by decide))
  rw [lex_fx.1, lex_fx.2] at KT
  go_enter Tryd.func11, Tryd.ntmps11
  go_wp2_with fail
  refine (KT _ hC hz).out.mono ?_
  rintro e w1 ⟨v, base, rfl, hown, _, hx⟩
  obtain ⟨A, c, rfl, hc, hT⟩ := owned_toks hown
  obtain ⟨b, o, rfl, _, a1, _, _⟩ := hT 2 (by decide)
  obtain ⟨_, _, e, c0, _, _, _⟩ := hT 4 (by decide)
  cases e
  simp only [List.getElem_cons_succ, List.getElem_cons_zero, Nat.reduceMul, List.length_cons, List.length_nil, Nat.reduceAdd] at a1 c0 hc
  clear hown hT KT
  go_wp2_with fail
  refine (num_any _ _).mono ?_
  rintro e w2 ⟨rfl, rfl⟩
  go_wp2_with fail
  go_ret
  exact ⟨rfl, hx⟩
end Go.Proofs.YtagkimcbllpnkaaDoor
