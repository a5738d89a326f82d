/- almagestlaw0.Term: an answer's arguments are written over; nothing else turns. -/
import Derived.Test.YtkdhpifjljkpfaaGreatOwn
import Derived.Test.YtkdhpifjljkpfaaGreatGrd
namespace Go.Proofs.YtkdhpifjljkpfaaGreat
open Go.RowKit

/-- from k on the row is as it was -/
def RowFrom (w : World) (ts : List Tm) (b o : Nat) (g : Nat → Option Addr) (d : Nat → Nat) (G : Nat → Nat → Prop) (k : Nat) : Prop :=
  (∀ i (h : i < ts.length), k ≤ i → w.cell? ⟨b, o + i * 4, none⟩ = some (.int .i64 ts[i].kind) ∧ w.cell? ⟨b, o + i * 4 + 1, none⟩ = some (.string ts[i].name) ∧
    w.cell? ⟨b, o + i * 4 + 2, none⟩ = some (.int .i64 ts[i].n) ∧ w.cell? ⟨b, o + i * 4 + 3, none⟩ = some (.slice (g i) ts[i].args.length (d i)) ∧ TmOwn w ts[i] (g i) (d i) (G i)) ∧
  ∀ j, j < ts.length * 4 → w.frozen? ⟨b, o + j, none⟩ = false

theorem RowFrom.next {w : World} {ts : List Tm} {b o : Nat} {g : Nat → Option Addr} {d : Nat → Nat} {G : Nat → Nat → Prop} {k : Nat} (h : RowFrom w ts b o g d G k) (hk : k < ts.length) {w1 : World} (hc : Chg (G k) w w1)
    (hG : ∀ i, i < ts.length → ¬ G i b) (hap : ∀ i j, i < ts.length → j < ts.length → i ≠ j → ∀ x, G i x → ¬ G j x) (v0 v1 v2 v3 : Value) (hb : b < w.heap.size) : RowFrom (set4 w1 b (o + k * 4) v0 v1 v2 v3) ts b o g d G (k + 1) := by
  have eb : w1.heap[b]? = w.heap[b]? := hc.block b hb (hG k hk)
  refine ⟨fun i hi hki => ?_, fun j hj => ?_⟩
  · obtain ⟨h0, h1, h2, h3, h4⟩ := h.1 i hi (by omega)
    refine ⟨?_, ?_, ?_, ?_, ?_⟩
    · rw [set4_other _ _ _ _ _ _ _ _ (by omega), World.cell?_of_block (w := w) eb]; exact h0
    · rw [set4_other _ _ _ _ _ _ _ _ (by omega), World.cell?_of_block (w := w) eb]; exact h1
    · rw [set4_other _ _ _ _ _ _ _ _ (by omega), World.cell?_of_block (w := w) eb]; exact h2
    · rw [set4_other _ _ _ _ _ _ _ _ (by omega), World.cell?_of_block (w := w) eb]; exact h3
    · refine (h4.chg hc (hap i k hi hk (by omega))).keep fun x hx _ => set4_block _ _ _ _ _ _ _ _ (fun e => hG i hi (e ▸ hx))
  · rw [set4_frozen, World.frozen?_of_block (w := w) eb]
    exact h.2 j hj

set_option maxHeartbeats 1000000 in
theorem spoil_any (hh : Nat) : ∀ (t : Tm) (A : Option Addr) (c : Nat) (F : Nat → Prop) (w : World), t.high ≤ hh → Hid (∀ b, F b → b < w.heap.size) → TmOwn w t A c F →
    Calls Tryz.prog 35 #[t.val A c] w fun e w' => e = .returned (.tuple #[]) ∧ Chg F w w' := by
  induction hh with
  | zero => intro t A c F w h0; have := high_pos t; omega
  | succ hh ih =>
    intro t A c F w hh0 HF h
    have IH := Lib.hid ih
    clear ih
    have hl := h.at_.fits.args
    by_cases hemp : t.args.length = 0
    · have he : decide ((0 : Int) < (t.args.length : Int)) = false := decide_eq_false (by omega)
      have he2 : decide (0 < t.args.length) = false := decide_eq_false (by omega)
      clear hemp
      go_enter Tryz.func35, Tryz.ntmps35
      go_wp2_with fail
      go_loopw [2] (fun i wr => i = .int .i64 0 ∧ Ext (boxT w t A c) wr) (fun _ _ => 0)
      case atStart => exact ⟨rfl, Ext.refl _⟩
      case round =>
        obtain ⟨rfl, hx⟩ := hrel
        have hbox : wr.cell? ⟨w.heap.size, 3, none⟩ = some (.slice A t.args.length c) := hx.cell (by go_simp)
        go_wp2_with fail
        go_end0
        exact ⟨rfl, Chg.of_ext (((Ext.refl w).alloc _).trans hx)⟩
    · have hpos : 0 < t.args.length := by omega
      clear hemp
      cases h with
      | mk _ _ _ _ g d G fits cap row sub =>
      obtain ⟨b, o, rfl, _⟩ := row.row 0 hpos
      obtain ⟨hFb, hGb, hfz⟩ := row.own b o rfl hpos
      have hap := Lib.hid row.apart
      have hGB := Lib.hid hGb
      have R0 : RowFrom w t.args b o g d G 0 := ⟨fun i hi _ => by
        obtain ⟨b', o', e, h0, h1, h2, h3⟩ := row.row i hi
        injection e with e; injection e with e1 e2; subst e1 e2
        exact ⟨h0, h1, h2, h3, sub i hi⟩, hfz⟩
      have hbs : b < w.heap.size := World.block_lt_of_cell? w _ (R0.1 0 hpos (Nat.le_refl _)).1
      have HG : Hid (∀ i, i < t.args.length → ∀ x, G i x → F x) := Lib.hid row.inF
      clear row sub hfz hGb
      have hRb : RowFrom (boxT w t (some ⟨b, o, none⟩) c) t.args b o g d G 0 := by
        have hx : Ext w (boxT w t (some ⟨b, o, none⟩) c) := (Ext.refl w).alloc _
        refine ⟨fun i hi hk => ?_, fun j hj => (Below.frozen hx hbs).trans (R0.2 j hj)⟩
        obtain ⟨h0, h1, h2, h3, h4⟩ := R0.1 i hi hk
        exact ⟨hx.cell h0, hx.cell h1, hx.cell h2, hx.cell h3, h4.ext hx⟩
      go_enter Tryz.func35, Tryz.ntmps35
      go_wp2_with fail
      go_loopw [2] (fun i wr => ∃ k : Nat, k ≤ t.args.length ∧ i = .int .i64 k ∧ Hid (RowFrom wr t.args b o g d G k) ∧ Hid (Chg F (boxT w t (some ⟨b, o, none⟩) c) wr)) (fun i _ => t.args.length - (intOf i).toNat)
      case atStart => exact ⟨0, Nat.zero_le _, rfl, Lib.hid hRb, Lib.hid (Chg.refl _ _)⟩
      case round =>
        obtain ⟨k, hk, rfl, HR, HC⟩ := hrel
        have hbox : wr.cell? ⟨w.heap.size, 3, none⟩ = some (.slice (some ⟨b, o, none⟩) t.args.length c) := HC.out.cell (by go_simp) (fun x => by have := HF.out _ x; simp at this)
        have hsz : w.heap.size < wr.heap.size := World.block_lt_of_cell? wr _ hbox
        by_cases hlt : k < t.args.length
        · obtain ⟨c0, c1, c2, c3, hsub⟩ := HR.out.1 k hlt (Nat.le_refl _)
          have f0 := HR.out.2 (k * 4) (by omega)
          have f1 := HR.out.2 (k * 4 + 1) (by omega)
          have f2 := HR.out.2 (k * 4 + 2) (by omega)
          have f3 := HR.out.2 (k * 4 + 3) (by omega)
          simp only [← Nat.add_assoc] at f1 f2 f3
          have hb1 := high_lt hlt
          have hFk : Hid (∀ x, G k x → x < wr.heap.size) := Lib.hid fun x hx => by have := HF.out x (HG.out k hlt x hx); omega
          go_wp2_with fail
          refine (IH.out _ _ _ _ _ (by omega) hFk hsub).mono ?_
          rintro e w1 ⟨rfl, hc1⟩
          have nb : ¬ G k b := hGB.out k hlt
          have eb : w1.heap[b]? = wr.heap[b]? := hc1.block b (World.block_lt_of_cell? wr _ c0) nb
          have c0' : w1.cell? ⟨b, o + k * 4, none⟩ = some (.int .i64 t.args[k].kind) := (World.cell?_of_block (w := wr) eb).trans c0
          have c1' : w1.cell? ⟨b, o + k * 4 + 1, none⟩ = some (.string t.args[k].name) := (World.cell?_of_block (w := wr) eb).trans c1
          have c2' : w1.cell? ⟨b, o + k * 4 + 2, none⟩ = some (.int .i64 t.args[k].n) := (World.cell?_of_block (w := wr) eb).trans c2
          have c3' : w1.cell? ⟨b, o + k * 4 + 3, none⟩ = some (.slice (g k) t.args[k].args.length (d k)) := (World.cell?_of_block (w := wr) eb).trans c3
          have f0' : w1.frozen? ⟨b, o + k * 4, none⟩ = false := (World.frozen?_of_block (w := wr) eb).trans f0
          have f1' : w1.frozen? ⟨b, o + k * 4 + 1, none⟩ = false := (World.frozen?_of_block (w := wr) eb).trans f1
          have f2' : w1.frozen? ⟨b, o + k * 4 + 2, none⟩ = false := (World.frozen?_of_block (w := wr) eb).trans f2
          have f3' : w1.frozen? ⟨b, o + k * 4 + 3, none⟩ = false := (World.frozen?_of_block (w := wr) eb).trans f3
          have hbox1 : w1.cell? ⟨w.heap.size, 3, none⟩ = some (.slice (some ⟨b, o, none⟩) t.args.length c) := hc1.cell hbox (fun x => by have := HF.out _ (HG.out k hlt _ x); simp at this)
          have HR1 := fun v0 v1 v2 v3 => HR.out.next hlt hc1 hGB.out hap.out v0 v1 v2 v3 (World.block_lt_of_cell? wr _ c0)
          have HR2 := Lib.hid HR1
          have HC1 : Hid (Chg F (boxT w t (some ⟨b, o, none⟩) c) w1) := Lib.hid (HC.out.trans (hc1.weak (HG.out k hlt)))
          clear HR1 eb c0 c1 c2 c3 f0 f1 f2 f3 hbox hsub hc1
          go_wp2_with fail
          go_roundw
          case rel => exact ⟨k + 1, by omega, by go_num, Lib.hid (HR2.out _ _ _ _), Lib.hid (HC1.out.trans (set4_chg w1 b (o + k * 4) _ _ _ _ hFb))⟩
          case measure => simp [intOf]; omega
        · go_wp2_with fail
          go_end0
          exact ⟨rfl, (Chg.of_ext ((Ext.refl w).alloc _)).trans HC.out⟩
end Go.Proofs.YtkdhpifjljkpfaaGreat
