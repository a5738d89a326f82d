/- weave.Net. -/
import Derived.Test.YtjldokhomohdbaaDoorWnd
namespace Go.Proofs.YtjldokhomohdbaaDoor
open Go.RowKit Go.Maps

theorem net_nat {n : Int} {l : List Int} (h : netB n l = true) : ∃ (N : Nat) (L : List Nat), n = N ∧ l = toI L ∧ N ≤ 5 ∧ 0 < N ∧ L.length = N * N ∧ (∀ x, L.getD x 0 < 8192) ∧ ∀ x ∈ L, x < 8192 := by
  unfold netB at h
  rw [Bool.and_eq_true, Bool.and_eq_true, Bool.and_eq_true, decide_eq_true_iff, decide_eq_true_iff, decide_eq_true_iff, List.all_eq_true] at h
  obtain ⟨⟨⟨h1, h2⟩, h3⟩, h4⟩ := h
  have hL : ∀ x ∈ l.map Int.toNat, x < 8192 := by
    intro x hx
    obtain ⟨y, hy, rfl⟩ := List.mem_map.1 hx
    obtain ⟨z, e, hz⟩ := st_nat (h4 y hy)
    omega
  refine ⟨n.toNat, l.map Int.toNat, by omega, ?_, by omega, by omega, ?_, fun x => ?_, hL⟩
  · unfold toI
    rw [List.map_map]
    have e : l.map ((fun (x : Nat) => (x : Int)) ∘ Int.toNat) = l.map id := List.map_congr_left fun x hx => by
      obtain ⟨z, e, hz⟩ := st_nat (h4 x hx)
      simp [e]
    rw [e, List.map_id]
  · rw [List.length_map]
    have e : n = (n.toNat : Int) := by omega
    rw [e, ← Int.natCast_mul] at h3
    exact Int.ofNat.inj h3
  · rw [List.getD_eq_getElem?_getD]
    cases hx : (l.map Int.toNat)[x]? with
    | none => exact Nat.zero_lt_succ _
    | some y => exact hL y (List.mem_of_getElem? hx)
/-- what Net tells of a net that may be -/
def NetTo (w : World) (N : Nat) (L : List Nat) (e : Ending) (w' : World) : Prop :=
  (∃ R v, NInv N L R ∧ Still N R ∧ NonZ N R ∧ e = .returned (.tuple #[v, .int .i64 0]) ∧ IntsOut w (toI R) v w') ∨ (NoNet N L ∧ e = .returned (.tuple #[.slice none 0 0, .int .i64 4]) ∧ Ext w w')
theorem TightOut.ending {w : World} {N g : Nat} {L : List Nat} {e : Ending} {w' : World} (h : TightOut w N g L e w') : e = .returned (.bool true) ∨ e = .returned (.bool false) := by
  rcases h.2 with ⟨h, _⟩ | ⟨h, _⟩
  · exact .inl h
  · exact .inr h

theorem Net_no (n : Int) (l : List Int) (A : Option Addr) (c : Nat) (w : World) (hl : l.length ≤ 1000000) (hI : IntsAt w l A) (hb : netB n l = false) :
    Calls Tryd.prog 22 #[.int .i64 n, .slice A l.length c] w fun e w' => e = .returned (.tuple #[.slice none 0 0, .int .i64 1]) ∧ w' = w := by
  have KM := Lib.hid (netMay_any n l A c w hl hI)
  rw [hb] at KM
  clear hb hI hl
  go_enter Tryd.func22, Tryd.ntmps22
  go_wp2_with fail
  refine KM.out.mono ?_
  rintro e w1 ⟨rfl, rfl⟩
  go_wp2_with fail
  go_ret2
  exact ⟨rfl, rfl⟩

set_option maxRecDepth 100000 in
set_option maxHeartbeats 4000000 in
theorem Net_yes (N : Nat) (L : List Nat) (A : Option Addr) (c : Nat) (w : World) (hN : N ≤ 5) (hN0 : 0 < N) (hl : L.length = N * N) (h8 : ∀ x, L.getD x 0 < 8192) (h8m : ∀ x ∈ L, x < 8192) (hb : netB (N : Int) (toI L) = true)
    (hI : IntsAt w (toI L) A) (hE : EndAt w) :
    Calls Tryd.prog 22 #[.int .i64 (N : Int), .slice A (N * N) c] w (NetTo w N L) := by
  have h25 : N * N ≤ 5 * 5 := Nat.mul_le_mul hN hN
  have hll : (toI L).length = N * N := by rw [toI_len, hl]
  have KM := Lib.hid (netMay_any (N : Int) (toI L) A c w (by omega) hI)
  rw [hb, hll] at KM
  have KO := Lib.hid (netOf_any N L A c w hN hl h8m hI hE)
  have KT := Lib.hid (fun g b u hB hT hgb => tighten_any N g b L u hN hN0 hl h8 hB hT hgb)
  have KL := Lib.hid (fun g b R u (hR : NInv N L R) hB => netList_any N g b R u hN hR.len hR.b8 hB)
  have HO : Hid (∀ e w', NetTo w N L e w' = ((∃ R v, NInv N L R ∧ Still N R ∧ NonZ N R ∧ e = .returned (.tuple #[v, .int .i64 0]) ∧ IntsOut w (toI R) v w') ∨ (NoNet N L ∧ e = .returned (.tuple #[.slice none 0 0, .int .i64 4]) ∧ Ext w w'))) := Lib.hid fun _ _ => rfl
  generalize NetTo w N L = Z at HO ⊢
  obtain ⟨M, hM⟩ : ∃ M, M = N * N := ⟨_, rfl⟩
  rw [← hM] at KM KO KT KL
  rw [← hM]
  clear hb hI hE hll hl hM h8 h8m
  go_enter Tryd.func22, Tryd.ntmps22
  go_wp2_with fail
  refine KM.out.mono ?_
  rintro e w1 ⟨rfl, rfl⟩
  go_wp2_with fail
  refine KO.out.mono ?_
  rintro e w2 ⟨g, b, rfl, ⟨hB, hT, hgb⟩, hge, hx2⟩
  have hg2 := hB.lt
  obtain ⟨W3, hW3⟩ : ∃ W3, W3 = w2.alloc (.cells #[.int .i64 (N : Int), .slice (some ⟨g, 0, none⟩) M M, .map (some b)] 69) := ⟨_, rfl⟩
  have HXB : Hid (Ext w2 W3) := Lib.hid (by rw [hW3]; exact (Ext.refl w2).alloc _)
  have q0 : W3.cell? ⟨w2.heap.size, 0, none⟩ = some (.int .i64 (N : Int)) := by rw [hW3]; go_simp
  have q1 : W3.cell? ⟨w2.heap.size, 1, none⟩ = some (.slice (some ⟨g, 0, none⟩) M M) := by rw [hW3]; go_simp
  have q2 : W3.cell? ⟨w2.heap.size, 2, none⟩ = some (.map (some b)) := by rw [hW3]; go_simp
  have HW3 := Lib.hid hW3
  clear hW3
  go_upto_region 4 with (fail)
  rw [← HW3.out]
  obtain ⟨gx, hgx⟩ : ∃ gx, gx = w2.heap.size := ⟨_, rfl⟩
  rw [← hgx] at q0 q1 q2 hg2
  rw [← hgx]
  have hne : gx ≠ g := by omega
  have KT3 := Lib.hid (KT.out g b W3 (hB.ext HXB.out) (hT.ext HXB.out) hgb)
  have HX3 := Lib.hid (hx2.trans HXB.out)
  have HGE := Lib.hid hge
  clear hgx HW3 hB hT hgb hx2 KT KO KM HXB hge
  go_wp2_with fail
  refine KT3.out.mono ?_
  intro e w4 ht
  have hC := ht.1
  rcases ht.2 with ⟨rfl, R, hR, hS, hZ, hBR⟩ | ⟨rfl, hno⟩
  · have c0 := hC.cell q0 hne
    have c1 := hC.cell q1 hne
    have c2 := hC.cell q2 hne
    have KL4 := Lib.hid (KL.out g b R w4 hR hBR)
    have HRR := Lib.hid (And.intro hR (And.intro hS hZ))
    have HX4 : Hid (Ext w1 w4) := Lib.hid (Chg.ext_of HX3.out hC (fun x e => by subst e; exact HGE.out))
    clear hC ht hR hS hZ hBR KT3 KL q0 q1 q2
    go_wp2_with fail
    refine KL4.out.mono ?_
    rintro e w5 ⟨v, rfl, hown, hx5⟩
    go_wp2_with fail
    rw [HO.out]
    exact .inl ⟨R, v, HRR.out.1, HRR.out.2.1, HRR.out.2.2, rfl, ownsRow_base hown HX4.out.size, HX4.out.trans hx5⟩
  · have HNO := Lib.hid hno
    have HX4 : Hid (Ext w1 w4) := Lib.hid (Chg.ext_of HX3.out hC (fun x e => by subst e; exact HGE.out))
    clear hC ht hno KT3 KL q0 q1 q2
    go_wp2_with fail
    rw [HO.out]
    exact .inr ⟨HNO.out, rfl, HX4.out⟩
end Go.Proofs.YtjldokhomohdbaaDoor
