/- almagestref7: Only, spans. -/
import Derived.Test.YtjldokhomohdbaaDoorWvi
namespace Go.Proofs.YtjldokhomohdbaaDoor
open Go.RowKit Go.Maps

/-- the one relation of two spans -/
theorem Only_any (af at' bf bt o : Int) (w : World) (h : allI af at' bf bt = [o]) : Calls Tryd.prog 26 #[spV af at', spV bf bt] w fun e w' => e = .returned (.int .i64 o) ∧ Ext w w' := by
  have KA := Lib.hid (fun u => rAll_any af at' bf bt u)
  unfold RAllOut at KA
  rw [h] at KA
  clear h
  go_enter Tryd.func26, Tryd.ntmps26
  go_wp2_with fail
  refine (KA.out _).mono ?_
  rintro e w1 ⟨v, rfl, hown, hx1⟩
  have hxx := (((Ext.refl w).alloc (.cells #[.int .i64 af, .int .i64 at'] 52)).alloc (.cells #[.int .i64 bf, .int .i64 bt] 52)).trans hx1
  obtain ⟨A, c, rfl, hc, hI⟩ := owned_ints hown
  obtain ⟨g, o', rfl, c0⟩ := hI 0 (by simp)
  simp only [List.getElem_cons_zero, Nat.add_zero] at c0
  simp only [List.length_singleton] at hc ⊢
  clear hown hI KA hx1
  go_wp2_with fail
  go_ret
  exact ⟨rfl, hxx⟩

/-- the small spans, in their order -/
def spsZ : List Sp := spsN.map fun x => ((x.1 : Int), (x.2 : Int))
/-- how many begin ahead of a -/
def cntN (a : Nat) : Nat := [0, 5, 9, 12, 14, 15].getD a 0
theorem spsZ_len : spsZ.length = 15 := rfl
theorem cnt_at : ∀ a, a < 5 → ∀ b, b < 6 → a < b → spsZ[cntN a + (b - a - 1)]? = some ((a : Int), (b : Int)) := by decide
theorem cnt_next : ∀ a, a < 5 → cntN a + (6 - a - 1) = cntN (a + 1) ∧ cntN a + (6 - a - 1) ≤ 15 := by decide
theorem cnt_le : ∀ a, a < 5 → ∀ b, b < 7 → a < b → cntN a + (b - a - 1) ≤ 15 := by decide
theorem take_snoc {α : Type} {l : List α} {k : Nat} {x : α} (h : l[k]? = some x) : l.take (k + 1) = l.take k ++ [x] := by
  obtain ⟨hk, rfl⟩ := List.getElem?_eq_some_iff.1 h
  exact List.take_succ_eq_append_getElem hk

def SpansOut (w : World) (e : Ending) (w' : World) : Prop := ∃ v, e = .returned v ∧ w'.ownsRow w.heap.size 52 2 v spsZ.length (spCells spsZ) ∧ Ext w w'
set_option maxRecDepth 100000 in
set_option maxHeartbeats 4000000 in
theorem spans_any (w2 : World) : Calls Tryd.prog 34 #[.int .i64 5] w2 (SpansOut w2) := by
  obtain ⟨i0, hi0, hz0, hz1, hz2⟩ := info_parts infoSp
  have HO : Hid (∀ e w', SpansOut w2 e w' = (∃ v, e = .returned v ∧ w'.ownsRow w2.heap.size 52 2 v spsZ.length (spCells spsZ) ∧ Ext w2 w')) := Lib.hid fun _ _ => rfl
  generalize SpansOut w2 = Z at HO ⊢
  go_enter Tryd.func34, Tryd.ntmps34
  go_wp2_with fail
  go_loopw [3, 4] (fun v i wr => ∃ a : Nat, a ≤ 5 ∧ i = .int .i64 a ∧ wr.ownsRow w2.heap.size 52 2 v (spsZ.take (cntN a)).length (spCells (spsZ.take (cntN a))) ∧ Ext w2 wr) (fun _ i _ => 5 - (intOf i).toNat)
  case atStart => exact ⟨0, by omega, rfl, World.ownsRow_nil _ _ _ _, Ext.refl _⟩
  case round =>
    obtain ⟨a, ha, rfl, hown0, hx0⟩ := hrel
    by_cases hlt : a < 5
    · have ha5 : (a : Int) < 5 := by omega
      obtain ⟨wo, hwo⟩ : ∃ wo, wo = wr := ⟨_, rfl⟩
      rw [← hwo] at hown0 hx0
      rw [← hwo]
      clear hwo
      go_wp2_with fail
      go_loopw [3, 5] (fun v i wr => ∃ b : Nat, a < b ∧ b ≤ 6 ∧ i = .int .i64 b ∧ wr.ownsRow w2.heap.size 52 2 v (spsZ.take (cntN a + (b - a - 1))).length (spCells (spsZ.take (cntN a + (b - a - 1)))) ∧ Ext w2 wr) (fun _ i _ => 6 - (intOf i).toNat)
      case atStart => exact ⟨a + 1, by omega, by omega, by go_num, by rw [show cntN a + (a + 1 - a - 1) = cntN a by omega]; exact hown0, hx0⟩
      case round =>
        obtain ⟨b, hab, hb6, rfl, hown, hx⟩ := hrel
        by_cases hlb : b < 6
        · have hb5 : (b : Int) ≤ 5 := by omega
          have hcl := cnt_le a hlt b (by omega) hab
          have HS := Lib.hid (take_snoc (cnt_at a hlt b hlb hab))
          rw [show cntN a + (b - a - 1) + 1 = cntN a + (b + 1 - a - 1) by omega] at HS
          have hlen : (spsZ.take (cntN a + (b - a - 1))).length = cntN a + (b - a - 1) := by rw [List.length_take, spsZ_len]; omega
          have HL := Lib.hid hlen
          rw [hlen] at hown
          have hm15 : cntN a + (b - a - 1) ≤ 15 := hcl
          clear hlen hcl
          generalize spsZ.take (cntN a + (b - a - 1)) = L at hown HS HL
          generalize cntN a + (b - a - 1) = m at hown HL hm15
          have hxs := hx.size
          go_wp2_with (at_builtin; refine wpList_app _ rfl _ _ 50 rfl w2.heap.size 52 i0 _ 2 16 Tryd.underlying50 hi0 hz0 hz1 hz2 rfl (by decide) _ _ (spCells L) rfl (hown.alloc _) (some ⟨wr.heap.size, 0, none⟩) 1 1 [.int .i64 (a : Int), .int .i64 (b : Int)] rfl (Src.box wr #[.int .i64 (a : Int), .int .i64 (b : Int)] 52 2 rfl) ?c2 ?c3 ?c4 ?c5 ?_)
          case c2 => intro u hu; simp at hu; rcases hu with rfl | rfl <;> rfl
          case c3 => simp only [maxLen]; omega
          case c4 => omega
          case c5 => simp; omega
          intro v' w4 hown4 hgrow _
          have hx4 : Ext w2 w4 := Below.grown (hx.alloc _) hgrow (by simp; omega) (fun b hb => (hown.lt b hb).1)
          have hown5 : w4.ownsRow w2.heap.size 52 2 v' (spsZ.take (cntN a + (b + 1 - a - 1))).length (spCells (spsZ.take (cntN a + (b + 1 - a - 1)))) := by rw [HS.out, spCells_snoc, List.length_append, HL.out]; exact hown4
          clear hown4 hgrow hown
          go_wp2_with fail
          go_roundw
          case rel => exact ⟨b + 1, by omega, by omega, by go_num, hown5, hx4⟩
          case measure => simp [intOf]; omega
        · have hge : ¬ ((b : Int) ≤ 5) := by omega
          have HC := Lib.hid (cnt_next a hlt).1
          have hb : b = 6 := by omega
          rw [hb, HC.out] at hown
          clear hb
          go_wp2_with fail
          go_roundw
          case rel => exact ⟨a + 1, by omega, by go_num, hown, hx⟩
          case measure => simp [intOf]; omega
    · have hge : ¬ ((a : Int) < 5) := by omega
      go_wp2_with fail
      obtain rfl : a = 5 := by omega
      rw [HO.out]
      exact ⟨_, rfl, hown0, hx0⟩
end Go.Proofs.YtjldokhomohdbaaDoor
