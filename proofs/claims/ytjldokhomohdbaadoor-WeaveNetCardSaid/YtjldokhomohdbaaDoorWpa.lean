/- WeaveSpans: what some spans have, a net keeps: pure; almagestlaw0.Within at small numbers. -/
import Derived.Test.YtjldokhomohdbaaDoorWne
namespace Go.Proofs.YtjldokhomohdbaaDoor
open Go.RowKit Go.Maps

/-- a span from f on, d + 1 long -/
def oSp (a b : Nat × Nat) : Nat := onlyN a.1 (a.1 + 1 + a.2) b.1 (b.1 + 1 + b.2)
set_option maxRecDepth 100000 in
theorem sp_only : ∀ f : Nat, f < 6 → ∀ d : Nat, d < 4 → ∀ g : Nat, g < 6 → ∀ e : Nat, e < 4 → allI (f : Int) ((f + 1 + d : Nat) : Int) (g : Int) ((g + 1 + e : Nat) : Int) = [(oSp (f, d) (g, e) : Int) + 1] := by decide +kernel
theorem sp_lt : ∀ f, f < 6 → ∀ d, d < 4 → ∀ g, g < 6 → ∀ e, e < 4 → oSp (f, d) (g, e) < 13 := by decide +kernel
theorem sp_turn : ∀ f, f < 6 → ∀ d, d < 4 → ∀ g, g < 6 → ∀ e, e < 4 → oSp (f, d) (g, e) = 12 - oSp (g, e) (f, d) := by decide +kernel
theorem sp_same : ∀ f, f < 6 → ∀ d, d < 4 → oSp (f, d) (f, d) = 6 := by decide +kernel
set_option maxRecDepth 100000 in
theorem sp_thru : ∀ f, f < 6 → ∀ d, d < 4 → ∀ g, g < 6 → ∀ e, e < 4 → ∀ h, h < 6 → ∀ c, c < 4 → (wN (oSp (f, d) (g, e)) (oSp (g, e) (h, c))).testBit (oSp (f, d) (h, c)) = true := by decide +kernel

/-- four small spans -/
def Small (ss : List (Nat × Nat)) : Prop := ss.length = 4 ∧ ∀ x ∈ ss, x.1 < 6 ∧ x.2 < 4
def spAt (ss : List (Nat × Nat)) (i : Nat) : Nat × Nat := ss.getD i (0, 0)
theorem Small.at_ {ss : List (Nat × Nat)} (h : Small ss) {i : Nat} (hi : i < 4) : (spAt ss i).1 < 6 ∧ (spAt ss i).2 < 4 := by
  unfold spAt
  rw [List.getD_eq_getElem?_getD, List.getElem?_eq_getElem (by rw [h.1]; exact hi)]
  exact h.2 _ (List.getElem_mem _)
/-- how they lie to each other, as a net -/
def relX (ss : List (Nat × Nat)) : List Nat := (List.range 16).map fun m => 2 ^ oSp (spAt ss (m / 4)) (spAt ss (m % 4))
theorem relX_nt (ss : List (Nat × Nat)) {i j : Nat} (hi : i < 4) (hj : j < 4) : nt 4 (relX ss) i j = 2 ^ oSp (spAt ss i) (spAt ss j) := by
  unfold nt relX
  rw [List.getD_eq_getElem?_getD, List.getElem?_map, List.getElem?_range (by omega)]
  simp only [Option.map_some, Option.getD_some]
  rw [show (i * 4 + j) / 4 = i by omega, show (i * 4 + j) % 4 = j by omega]
theorem bit_two {o u : Nat} (h : (2 ^ o).testBit u = true) : u = o := by
  rw [Nat.testBit_two_pow] at h
  exact (of_decide_eq_true h).symm
theorem relX_still {ss : List (Nat × Nat)} (h : Small ss) : Still 4 (relX ss) := by
  intro i hi j hj
  obtain ⟨i1, i2⟩ := h.at_ hi
  obtain ⟨j1, j2⟩ := h.at_ hj
  refine ⟨fun u hu => ?_, fun e u hu => ?_, fun k hk u hu => ?_⟩
  · rw [relX_nt ss hi hj] at hu
    rw [relX_nt ss hj hi]
    obtain rfl := bit_two hu
    refine turn_bit.2 ⟨sp_lt _ i1 _ i2 _ j1 _ j2, ?_⟩
    rw [Nat.testBit_two_pow, decide_eq_true_iff]
    exact sp_turn _ j1 _ j2 _ i1 _ i2
  · subst e
    rw [relX_nt ss hi hi] at hu
    obtain rfl := bit_two hu
    rw [show oSp (spAt ss i) (spAt ss i) = 6 from sp_same _ i1 _ i2]
    decide
  · obtain ⟨k1, k2⟩ := h.at_ hk
    rw [relX_nt ss hi hj] at hu
    rw [relX_nt ss hi hk, relX_nt ss hk hj]
    obtain rfl := bit_two hu
    refine thn_bit.2 ⟨_, sp_lt _ i1 _ i2 _ k1 _ k2, by rw [Nat.testBit_two_pow]; simp, _, sp_lt _ k1 _ k2 _ j1 _ j2, by rw [Nat.testBit_two_pow]; simp, ?_⟩
    exact sp_thru _ i1 _ i2 _ k1 _ k2 _ j1 _ j2
/-- a net that has what is so of some spans keeps it -/
theorem spans_kept {ss : List (Nat × Nat)} {W R : List Nat} (h : Small ss) (hw : Within 4 (relX ss) W) (hR : NInv 4 W R) : ∀ i, i < 4 → ∀ k, k < 4 → (nt 4 R i k).testBit (oSp (spAt ss i) (spAt ss k)) = true ∧ Sub (nt 4 R i k) (nt 4 W i k) := by
  intro i hi k hk
  refine ⟨hR.ke _ (relX_still h) hw i hi k hk _ ?_, hR.wi i hi k hk⟩
  rw [relX_nt ss hi hk, Nat.testBit_two_pow]
  simp
theorem spans_net {ss : List (Nat × Nat)} {W : List Nat} (h : Small ss) (hw : Within 4 (relX ss) W) : ¬ NoNet 4 W := by
  intro hn
  obtain ⟨i, j, hi, hj, h0⟩ := hn _ (relX_still h) hw
  rw [relX_nt ss hi hj] at h0
  exact absurd h0 (Nat.pos_iff_ne_zero.1 (Nat.two_pow_pos _))

/-- a number from 0 below n -/
def winI (x n : Int) : Int := (IntKind.u64.wrap x) % n
theorem win_bd (x : Int) {n : Int} (h : 0 < n) : 0 ≤ winI x n ∧ winI x n < n := ⟨Int.emod_nonneg _ (by omega), Int.emod_lt_of_pos _ h⟩
theorem within_any (x : Int) (n : Nat) (h0 : 0 < n) (h1 : n < 100) (w : World) : Calls Tryd.prog 20 #[.int .i64 x, .int .i64 (n : Int)] w fun e w' => e = .returned (.int .i64 (winI x n)) ∧ w' = w := by
  have hwx : 0 ≤ IntKind.u64.wrap x := by rw [IntKind.wrap_u64]; exact Int.emod_nonneg _ (by decide)
  have hbd := win_bd x (n := (n : Int)) (by omega)
  have hwn : IntKind.u64.wrap (n : Int) = n := by rw [IntKind.wrap_u64]; omega
  have hne : (n : Int) ≠ 0 := by omega
  have HM : Hid (RowKit.wrap64 (IntKind.u64.wrap x % (n : Int)) = winI x n) := Lib.hid (by
    show RowKit.wrap64 (winI x n) = winI x n
    unfold RowKit.wrap64
    omega)
  go_enter Tryd.func20, Tryd.ntmps20
  go_wp2_with fail
  go_ret
  exact ⟨by rw [← HM.out]; rfl, rfl⟩
end Go.Proofs.YtjldokhomohdbaaDoor
