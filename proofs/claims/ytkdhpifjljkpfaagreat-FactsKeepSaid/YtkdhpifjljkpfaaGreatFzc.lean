/- FactsKeep's walk for every argument. -/
import Derived.Test.YtkdhpifjljkpfaaGreatFzb
import Derived.Test.YtkdhpifjljkpfaaGreatFY
namespace Go.Proofs.YtkdhpifjljkpfaaGreat
open Go.RowKit

/-- the facts, sorted, where they may be -/
def srtK (ks : List Kp) : List Fc := if kpsB ks = true then srtF (ks.map (·.fc)) else []
theorem srtF_perm {ks : List Kp} (hk : kpsB ks = true) : (srtF (ks.map (·.fc))).Perm (ks.map (·.fc)) := by
  have := (foldl_put (ks.map (·.fc)) [] List.Pairwise.nil (by rw [List.nil_append]; exact kps_pair hk) (by
    rw [List.nil_append]
    intro x hx
    obtain ⟨q, hq, rfl⟩ := List.mem_map.1 hx
    obtain ⟨i, hi, rfl⟩ := List.getElem_of_mem hq
    exact (kpsB_all hk).2 i hi)).2
  rwa [List.nil_append] at this
theorem srtK_len (ks : List Kp) : (srtK ks).length ≤ 300 := by
  unfold srtK
  cases hk : kpsB ks with
  | false => simp
  | true =>
    rw [if_pos rfl, (srtF_perm hk).length_eq, List.length_map]
    exact (kpsB_all hk).1
theorem sort_k (ks : List Kp) (hl : ks.length ≤ 1000000) : SortK ks (srtK ks) := fun T tc u hc hT => by
  refine (Sorted_any ks T tc u hc hT kps_pair hl).mono fun e u' h => ?_
  rcases h with ⟨hk, us, U, uc, B, d, G, rfl, hO, hR, hP, hx⟩ | ⟨hk, rfl, hx⟩
  · have hm : ∀ x ∈ ks.map (·.fc), May x := fun x hx => by
      obtain ⟨q, hq, rfl⟩ := List.mem_map.1 hx
      obtain ⟨i, hi, rfl⟩ := List.getElem_of_mem hq
      exact (kpsB_all hk).2 i hi
    have he : us = srtK ks := by unfold srtK; rw [if_pos hk]; exact srtF_is (kps_pair hk) hm hR hP
    subst he
    exact ⟨U, uc, B, d, G, by rw [hk]; rfl, hO, hx⟩
  · have he : srtK ks = [] := by unfold srtK; rw [hk]; rfl
    rw [he, hk]
    exact ⟨none, 0, fun _ => none, fun _ => 0, fun _ _ => False, rfl, FOwn.none _ _, hx⟩
theorem sort_p (ks : List Kp) (hl : ks.length ≤ 100000) (hk : kpsB ks = true) : SortP ks (srtK ks) := fun T tc u hT => by
  refine (rSorted_any ks T tc u hl hT (kps_pair hk) (kpsB_all hk).2).mono fun e u' h => ?_
  obtain ⟨U, uc, he, _, hU, hx⟩ := h
  have e2 : srtK ks = srtF (ks.map (·.fc)) := by unfold srtK; rw [if_pos hk]
  rw [e2]
  exact ⟨U, uc, he, hU, hx⟩

set_option maxRecDepth 100000 in
set_option maxHeartbeats 4000000 in
theorem keep_heavy (ks : List Kp) (A : Option Addr) (c : Nat) (fs : List Fc) (B : Option Addr) (d : Nat) (ns : Nat) (C : Option Addr) (e' : Nat) (w : World) (h : In9 ks A c fs B d ns w) (hh : heavyF ks fs ns = true) :
    Calls Tryz.prog 3 #[.agg (askV A ks.length c B fs.length d C ns e')] w fun e w' => e = .returned (.bool true) ∧ Ext w w' := by
  obtain ⟨W0, hW0⟩ : ∃ W0, W0 = w.alloc (.cells (askV A ks.length c B fs.length d C ns e') 26) := ⟨_, rfl⟩
  have hx0 : Ext w W0 := by rw [hW0]; exact (Ext.refl w).alloc _
  have q0 : W0.cell? ⟨w.heap.size, 0, none⟩ = some (.slice A ks.length c) := by rw [hW0]; go_simp
  have q1 : W0.cell? ⟨w.heap.size, 1, none⟩ = some (.slice B fs.length d) := by rw [hW0]; go_simp
  have q2 : W0.cell? ⟨w.heap.size, 2, none⟩ = some (.slice C ns e') := by rw [hW0]; go_simp
  have KH := Lib.hid (heavyF_any ks fs ns A B C c d e' W0 h.klen h.flen h.nlen (h.kps.ext hx0) (h.fcs.ext hx0))
  rw [hh] at KH
  have HW := Lib.hid hW0
  clear hW0 h hh
  go_enter Tryz.func3, Tryz.ntmps3
  go_upto_region 1 with (fail)
  rw [← HW.out]
  clear HW
  go_wp2_with fail
  refine KH.out.mono ?_
  rintro e w1 ⟨rfl, hx1⟩
  go_wp2_with fail
  go_ret
  exact ⟨rfl, hx0.trans hx1⟩
theorem keep_any (ks : List Kp) (A : Option Addr) (c : Nat) (fs : List Fc) (B : Option Addr) (d : Nat) (ns : List Int) (C : Option Addr) (e' : Nat) (w : World) (h : In9 ks A c fs B d ns.length w) (hN : IntsAt w ns C) (hce : ns.length ≤ e') (hnw : ∀ n ∈ ns, (Lit.int .i64 n).wf = true) :
    Calls Tryz.prog 3 #[.agg (askV A ks.length c B fs.length d C ns.length e')] w fun e w' => e = .returned (.bool true) ∧ Ext w w' := by
  cases hh : heavyF ks fs ns.length with
  | true => exact keep_heavy ks A c fs B d ns.length C e' w h hh
  | false =>
    obtain ⟨hl, _⟩ := light_facts hh
    refine keep_walk ks A c fs B d ns C e' w h hN hce hnw hh (srtK ks) (Lib.hid (sort_k ks (by omega))) (Lib.hid (sort_p ks (by omega))) (by have := srtK_len ks; omega) (fun hk => ?_)
    unfold srtK
    rw [hk]
    rfl
end Go.Proofs.YtkdhpifjljkpfaaGreat
