/- almagestref7.Net: what it keeps to, pure; CopyNumbers. -/
import Derived.Test.YtjldokhomohdbaaDoorWne
namespace Go.Proofs.YtjldokhomohdbaaDoor
open Go.RowKit Go.Maps

set_option maxRecDepth 100000 in
set_option maxHeartbeats 4000000 in
theorem copyNumbers_any (ns : List Int) (A : Option Addr) (c : Nat) (w2 : World) (hl : ns.length ≤ 1000000) (hI : IntsAt w2 ns A) :
    Calls Tryd.prog 21 #[.slice A ns.length c] w2 fun e w' => ∃ v, e = .returned v ∧ IntsOut w2 ns v w' := by
  obtain ⟨i0, hi0, hz0, hz1, hz2⟩ := info_parts infoInt
  go_enter Tryd.func21, Tryd.ntmps21
  go_wp2_with fail
  go_loopw [3, 4] (fun v i wr => ∃ k : Nat, k ≤ ns.length ∧ i = .int .i64 k ∧ wr.ownsRow w2.heap.size 3 1 v (ns.take k).length (intCells (ns.take k)) ∧ Ext w2 wr) (fun _ i _ => ns.length - (intOf i).toNat)
  case atStart => exact ⟨0, Nat.zero_le _, rfl, World.ownsRow_nil _ _ _ _, Ext.refl _⟩
  case round =>
    obtain ⟨k, hk, rfl, hown, hx⟩ := hrel
    by_cases hlt : k < ns.length
    · have hki : (k : Int) < (ns.length : Int) := by omega
      have hk0 : (0 : Int) ≤ (k : Int) := by omega
      obtain ⟨b, o, rfl, c0⟩ := (hI.ext hx) k hlt
      have HS : Hid (ns.take (k + 1) = ns.take k ++ [ns[k]]) := Lib.hid (List.take_succ_eq_append_getElem hlt)
      have hlen : (ns.take k).length = k := by rw [List.length_take]; omega
      have hxs := hx.size
      generalize ns[k] = x at *
      rw [hlen] at hown
      have HLN := Lib.hid hlen
      clear hlen
      go_wp2_with (at_builtin; refine wpList_app _ rfl _ _ 22 rfl w2.heap.size 3 i0 _ 1 8 Tryd.underlying22 hi0 hz0 hz1 hz2 rfl (by decide) _ k (intCells (ns.take k)) rfl (hown.alloc _) (some ⟨wr.heap.size, 0, none⟩) 1 1 [.int .i64 x] rfl (Src.box wr #[.int .i64 x] 3 1 rfl) ?c2 ?c3 ?c4 ?c5 ?_)
      case c2 => intro u hu; simp at hu; subst hu; rfl
      case c3 => simp only [maxLen]; omega
      case c4 => omega
      case c5 => simp; omega
      intro v' w4 hown4 hgrow _
      have hx4 : Ext w2 w4 := Below.grown (hx.alloc _) hgrow (by simp; omega) (fun b hb => (hown.lt b hb).1)
      have hown5 : w4.ownsRow w2.heap.size 3 1 v' (ns.take (k + 1)).length (intCells (ns.take (k + 1))) := by rw [HS.out, intCells_snoc, List.length_append, HLN.out]; exact hown4
      clear hown4 hgrow hown
      go_wp2_with fail
      go_roundw
      case rel => exact ⟨k + 1, by omega, by go_num, hown5, hx4⟩
      case measure => simp [intOf]; omega
    · have hki : ¬ ((k : Int) < (ns.length : Int)) := by omega
      have HK : Hid (ns.take k = ns) := Lib.hid (List.take_of_length_le (by omega))
      rw [HK.out] at hown
      have HO := Lib.hid hown
      have HX := Lib.hid hx
      clear hown hx
      go_wp2_with fail
      go_ret
      exact ⟨_, rfl, HO.out, HX.out⟩

/-- a row of the call's own that is a net -/
structure OwnN (u : World) (base g M cap : Nat) (R : List Nat) : Prop where
  len : R.length = M
  own : u.ownsRow base 3 1 (.slice (some ⟨g, 0, none⟩) M cap) M (intCells (toI R))
theorem OwnN.ext {u u' : World} {base g M cap : Nat} {R : List Nat} (h : OwnN u base g M cap R) (k : Ext u u') : OwnN u' base g M cap R := ⟨h.len, ownsRow_ext h.own k⟩
theorem OwnN.cell {u : World} {base g M cap : Nat} {R : List Nat} (h : OwnN u base g M cap R) {j : Nat} (hj : j < M) : u.cell? ⟨g, j, none⟩ = some (.int .i64 (R.getD j 0 : Int)) := by
  rw [h.own.cellAt j (by omega), toI_at (by rw [h.len]; exact hj)]
theorem OwnN.frozen {u : World} {base g M cap : Nat} {R : List Nat} (h : OwnN u base g M cap R) (j : Nat) : u.frozen? ⟨g, j, none⟩ = false := by
  rcases h.own.2 with ⟨h', _⟩ | ⟨g', cap', cur, h', hb, hg, _⟩
  · cases h'
  · injection h' with h1 _ _
    injection h1 with h1
    injection h1 with h1
    subst h1
    simp [World.frozen?, hg]
theorem OwnN.ge {u : World} {base g M cap : Nat} {R : List Nat} (h : OwnN u base g M cap R) : base ≤ g := (h.own.lt g rfl).1
theorem OwnN.set {u : World} {base g M cap : Nat} {R : List Nat} (h : OwnN u base g M cap R) (j v : Nat) : OwnN (u.setCell ⟨g, j, none⟩ (.int .i64 (v : Int))) base g M cap (R.set j v) := by
  refine ⟨by rw [List.length_set]; exact h.len, ?_⟩
  rw [← toI_set]
  exact (h.own.stored j _).1
theorem sumW_own {u : World} {base g M cap : Nat} {R : List Nat} (h : OwnN u base g M cap R) : sumW u g M = R.sum := by
  have e : ((List.range M).map fun i => cellN (u.cell? ⟨g, i, none⟩)) = R := by
    refine List.ext_getElem (by simp [h.len]) fun i h1 h2 => ?_
    simp only [List.getElem_map, List.getElem_range]
    rw [h.cell (by rw [← h.len]; exact h2)]
    simp [cellN, List.getD_eq_getElem?_getD, List.getElem?_eq_getElem h2]
  unfold sumW
  rw [e]

/-- and with nothing but equal on the way down -/
structure DInv (N : Nat) (L R : List Nat) : Prop where
  inv : NInv N L R
  dg : ∀ i, i < N → Sub (nt N R i i) 64
/-- the first k of the way down done -/
structure GInvD (N : Nat) (L R : List Nat) (k : Nat) : Prop where
  inv : NInv N L R
  dg : ∀ i, i < k → Sub (nt N R i i) 64
theorem nt_setm {N i j v a b : Nat} {R : List Nat} (hl : R.length = N * N) (hi : i < N) (hj : j < N) (ha : a < N) (hb : b < N) : nt N (R.set (i * N + j) v) a b = if a = i ∧ b = j then v else nt N R a b := nt_set hl hi hj ha hb
theorem GInvD.step {N k : Nat} {L R : List Nat} (h : GInvD N L R k) (hk : k < N) : GInvD N L (R.set (k * N + k) (nt N R k k &&& 64)) (k + 1) := by
  have hp := pos_lt hk hk
  have h1 := within_set (l := R) (v := nt N R k k &&& 64) h.inv.len hk hk (and_subl _ _)
  have h2 := diag_keeps (l := R) h.inv.len hk
  refine ⟨⟨by rw [List.length_set]; exact h.inv.len, h1.trans h.inv.wi, h.inv.ke.trans h2, fun x => ?_⟩, fun i hi => ?_⟩
  · rw [getD_set (by rw [h.inv.len]; exact hp)]
    split
    · exact and_lt (h.inv.b8 _)
    · exact h.inv.b8 x
  · rw [nt_setm h.inv.len hk hk (by omega) (by omega)]
    split
    · exact and_subr _ _
    · exact h.dg i (by omega)
theorem DInv.step {N m : Nat} {L R : List Nat} (h : DInv N L R) (hm : m < N * N) : DInv N L (R.set m (nowN N R (m / N) (m % N))) := by
  obtain ⟨hi, hj⟩ := ij_lt hm
  have e : m / N * N + m % N = m := by rw [Nat.mul_comm]; exact Nat.div_add_mod m N
  have h1 := within_set (l := R) (v := nowN N R (m / N) (m % N)) h.inv.len hi hj (now_sub N R _ _)
  have h2 := now_keeps (l := R) h.inv.len hi hj
  rw [e] at h1 h2
  refine ⟨⟨by rw [List.length_set]; exact h.inv.len, h1.trans h.inv.wi, h.inv.ke.trans h2, fun x => ?_⟩, fun i hi2 => (h1 i hi2 i hi2).trans (h.dg i hi2)⟩
  rw [getD_set (by rw [h.inv.len]; exact hm)]
  split
  · exact Nat.lt_of_le_of_lt (now_sub N R _ _).le (h.inv.b8 _)
  · exact h.inv.b8 x
/-- within a round -/
structure PInv (N : Nat) (L R0 R : List Nat) (m : Nat) (lost : Bool) : Prop where
  inv : DInv N L R
  le : R.sum ≤ R0.sum
  lt : lost = true → R.sum < R0.sum
  eq : lost = false → R = R0 ∧ ∀ q, q < m → nowN N R0 (q / N) (q % N) = R0.getD q 0
theorem PInv.start {N : Nat} {L R : List Nat} (h : DInv N L R) : PInv N L R R 0 false := ⟨h, Nat.le_refl _, fun e => by (cases e), fun _ => ⟨rfl, fun q hq => by omega⟩⟩
theorem PInv.step {N m : Nat} {L R0 R : List Nat} {lost : Bool} (h : PInv N L R0 R m lost) (hm : m < N * N) :
    PInv N L R0 (R.set m (nowN N R (m / N) (m % N))) (m + 1) (lost || (nowN N R (m / N) (m % N) != R.getD m 0)) := by
  have hml : m < R.length := by rw [h.inv.inv.len]; exact hm
  have hs := sum_set R m (nowN N R (m / N) (m % N)) hml
  have hle : nowN N R (m / N) (m % N) ≤ R.getD m 0 := by
    have := (now_sub N R (m / N) (m % N)).le
    rwa [nt_at] at this
  refine ⟨h.inv.step hm, by have := h.le; omega, fun e => ?_, fun e => ?_⟩
  · rw [Bool.or_eq_true] at e
    rcases e with e | e
    · have := h.lt e; omega
    · rw [bne_iff_ne] at e
      have := h.le; omega
  · rw [Bool.or_eq_false_iff] at e
    obtain ⟨e1, e2⟩ := e
    obtain ⟨rfl, hq⟩ := h.eq e1
    have e3 : nowN N R (m / N) (m % N) = R.getD m 0 := by simpa using e2
    refine ⟨?_, fun q hq2 => ?_⟩
    · rw [e3]
      refine List.ext_getElem (by simp) fun i h1 h2 => ?_
      rw [List.getElem_set]
      split
      · rename_i he; subst he; rw [List.getD_eq_getElem?_getD, List.getElem?_eq_getElem h2]; rfl
      · rfl
    · by_cases c : q = m
      · subst c; exact e3
      · exact hq q (by omega)
theorem PInv.still {N : Nat} {L R0 R : List Nat} (h : PInv N L R0 R (N * N) false) : Still N R := by
  have hd := h.inv.dg
  obtain ⟨rfl, hq⟩ := h.eq rfl
  refine still_of_now hd fun i hi j hj => ?_
  have hn : 0 < N := by omega
  have h1 := hq (i * N + j) (pos_lt hi hj)
  have e1 : (i * N + j) / N = i := by rw [Nat.mul_comm, Nat.mul_add_div hn, Nat.div_eq_of_lt hj, Nat.add_zero]
  have e2 : (i * N + j) % N = j := by rw [Nat.mul_comm, Nat.mul_add_mod, Nat.mod_eq_of_lt hj]
  rw [e1, e2] at h1
  exact h1
theorem ij_div {N i j : Nat} (hj : j < N) : (i * N + j) / N = i ∧ (i * N + j) % N = j := by
  have hn : 0 < N := by omega
  exact ⟨by rw [Nat.mul_comm, Nat.mul_add_div hn, Nat.div_eq_of_lt hj, Nat.add_zero], by rw [Nat.mul_comm, Nat.mul_add_mod, Nat.mod_eq_of_lt hj]⟩
end Go.Proofs.YtjldokhomohdbaaDoor
