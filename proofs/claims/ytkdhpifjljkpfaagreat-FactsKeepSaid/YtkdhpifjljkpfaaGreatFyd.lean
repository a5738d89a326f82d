/- almagestlaw0.Facts, Kepts: an answer's facts are written over; nothing else turns. -/
import Derived.Test.YtkdhpifjljkpfaaGreatSpoil
import Derived.Test.YtkdhpifjljkpfaaGreatFP
namespace Go.Proofs.YtkdhpifjljkpfaaGreat
open Go.RowKit

theorem set6_other (w : World) (b o q : Nat) (v0 v1 v2 v3 v4 v5 : Value) (h : q < o ∨ o + 6 ≤ q) : (set6 w b o v0 v1 v2 v3 v4 v5).cell? ⟨b, q, none⟩ = w.cell? ⟨b, q, none⟩ := by
  have ne : ∀ j, j < 6 → (⟨b, o + j, none⟩ : Addr) ≠ ⟨b, q, none⟩ := fun j hj e => by injection e with _ e2; omega
  unfold set6
  rw [World.cell?_setCell_other _ _ _ _ (ne 5 (by omega)), World.cell?_setCell_other _ _ _ _ (ne 4 (by omega)), World.cell?_setCell_other _ _ _ _ (ne 3 (by omega)), World.cell?_setCell_other _ _ _ _ (ne 2 (by omega)), World.cell?_setCell_other _ _ _ _ (ne 1 (by omega)), World.cell?_setCell_other _ _ _ _ (show (⟨b, o, none⟩ : Addr) ≠ ⟨b, q, none⟩ from ne 0 (by omega))]
theorem set6_frozen (w : World) (b o : Nat) (v0 v1 v2 v3 v4 v5 : Value) (a : Addr) : (set6 w b o v0 v1 v2 v3 v4 v5).frozen? a = w.frozen? a := by
  unfold set6
  simp
/-- from k on the row is as it was -/
def FFrom (w : World) (us : List Fc) (b o : Nat) (B : Nat → Option Addr) (d : Nat → Nat) (G : Nat → Nat → Prop) (k : Nat) : Prop :=
  (∀ i (h : i < us.length), k ≤ i → w.cell? ⟨b, o + i * 6, none⟩ = some (.int .i64 us[i].tm.kind) ∧ w.cell? ⟨b, o + i * 6 + 1, none⟩ = some (.string us[i].tm.name) ∧ w.cell? ⟨b, o + i * 6 + 2, none⟩ = some (.int .i64 us[i].tm.n) ∧ w.cell? ⟨b, o + i * 6 + 3, none⟩ = some (.slice (B i) us[i].tm.args.length (d i)) ∧ w.cell? ⟨b, o + i * 6 + 4, none⟩ = some (.int .i64 us[i].fr) ∧ w.cell? ⟨b, o + i * 6 + 5, none⟩ = some (.int .i64 us[i].til) ∧ TmOwn w us[i].tm (B i) (d i) (G i)) ∧ ∀ j, j < us.length * 6 → w.frozen? ⟨b, o + j, none⟩ = false
theorem FFrom.next {w : World} {us : List Fc} {b o : Nat} {B : Nat → Option Addr} {d : Nat → Nat} {G : Nat → Nat → Prop} {k : Nat} (h : FFrom w us b o B d G k) (hk : k < us.length) {w1 : World} (hc : Chg (G k) w w1)
    (hG : ∀ i, i < us.length → ¬ G i b) (hap : ∀ i j, i < us.length → j < us.length → i ≠ j → ∀ x, G i x → ¬ G j x) (v0 v1 v2 v3 v4 v5 : Value) (hb : b < w.heap.size) : FFrom (set6 w1 b (o + k * 6) v0 v1 v2 v3 v4 v5) us b o B d G (k + 1) := by
  have eb : w1.heap[b]? = w.heap[b]? := hc.block b hb (hG k hk)
  refine ⟨fun i hi hki => ?_, fun j hj => ?_⟩
  · obtain ⟨h0, h1, h2, h3, h4, h5, h6⟩ := h.1 i hi (by omega)
    refine ⟨?_, ?_, ?_, ?_, ?_, ?_, ?_⟩
    · rw [set6_other _ _ _ _ _ _ _ _ _ _ (by omega), World.cell?_of_block (w := w) eb]; exact h0
    · rw [set6_other _ _ _ _ _ _ _ _ _ _ (by omega), World.cell?_of_block (w := w) eb]; exact h1
    · rw [set6_other _ _ _ _ _ _ _ _ _ _ (by omega), World.cell?_of_block (w := w) eb]; exact h2
    · rw [set6_other _ _ _ _ _ _ _ _ _ _ (by omega), World.cell?_of_block (w := w) eb]; exact h3
    · rw [set6_other _ _ _ _ _ _ _ _ _ _ (by omega), World.cell?_of_block (w := w) eb]; exact h4
    · rw [set6_other _ _ _ _ _ _ _ _ _ _ (by omega), World.cell?_of_block (w := w) eb]; exact h5
    · refine (h6.chg hc (hap i k hi hk (by omega))).keep fun x hx _ => set6_block _ _ _ _ _ _ _ _ _ _ (fun e => hG i hi (e ▸ hx))
  · rw [set6_frozen, World.frozen?_of_block (w := w) eb]
    exact h.2 j hj

set_option maxRecDepth 100000 in
set_option maxHeartbeats 4000000 in
theorem spoilFs_any (us : List Fc) (A : Option Addr) (c : Nat) (F : Nat → Prop) (B : Nat → Option Addr) (d : Nat → Nat) (G : Nat → Nat → Prop) (w : World) (ll : us.length ≤ 1000000) (hF : ∀ b, F b → b < w.heap.size) (h : FOwn w us A F B d G) :
    Calls Tryz.prog 12 #[.slice A us.length c] w fun e w' => e = .returned (.tuple #[]) ∧ Chg F w w' := by
  by_cases hemp : us.length = 0
  · have he : decide ((0 : Int) < (us.length : Int)) = false := decide_eq_false (by omega)
    clear h
    go_enter Tryz.func12, Tryz.ntmps12
    go_wp2_with fail
    go_loopw [2] (fun i wr => i = .int .i64 0 ∧ Ext w wr) (fun _ _ => 0)
    case atStart => exact ⟨rfl, Ext.refl _⟩
    case round =>
      obtain ⟨rfl, hx⟩ := hrel
      go_wp2_with fail
      go_end0
      exact ⟨rfl, Chg.of_ext hx⟩
  · have hpos : 0 < us.length := by omega
    clear hemp
    obtain ⟨b, o, rfl, _⟩ := h.row 0 hpos
    obtain ⟨hFb, hGb, hfz⟩ := h.own b o rfl hpos
    have hap := Lib.hid h.apart
    have hGB := Lib.hid hGb
    have HF := Lib.hid hF
    have R0 : Hid (FFrom w us b o B d G 0) := Lib.hid ⟨fun i hi _ => by
      obtain ⟨b', o', e, h0, h1, h2, h3, h4, h5, _⟩ := h.row i hi
      injection e with e; injection e with e1 e2; subst e1 e2
      exact ⟨h0, h1, h2, h3, h4, h5, h.sub i hi⟩, hfz⟩
    have HG : Hid (∀ i, i < us.length → ∀ x, G i x → F x) := Lib.hid h.inF
    clear h hfz hGb hF
    go_enter Tryz.func12, Tryz.ntmps12
    go_wp2_with fail
    go_loopw [2] (fun i wr => ∃ k : Nat, k ≤ us.length ∧ i = .int .i64 k ∧ Hid (FFrom wr us b o B d G k) ∧ Hid (Chg F w wr)) (fun i _ => us.length - (intOf i).toNat)
    case atStart => exact ⟨0, Nat.zero_le _, rfl, R0, Lib.hid (Chg.refl _ _)⟩
    case round =>
      obtain ⟨k, hk, rfl, HR, HC⟩ := hrel
      clear R0
      by_cases hlt : k < us.length
      · obtain ⟨c0, c1, c2, c3, c4, c5, hsub⟩ := HR.out.1 k hlt (Nat.le_refl _)
        have f0 := HR.out.2 (k * 6) (by omega)
        have f1 := HR.out.2 (k * 6 + 1) (by omega)
        have f2 := HR.out.2 (k * 6 + 2) (by omega)
        have f3 := HR.out.2 (k * 6 + 3) (by omega)
        have f4 := HR.out.2 (k * 6 + 4) (by omega)
        have f5 := HR.out.2 (k * 6 + 5) (by omega)
        simp only [← Nat.add_assoc] at f1 f2 f3 f4 f5
        have k0 : (0 : Int) ≤ (k : Int) := Int.natCast_nonneg _
        have k1 : (k : Int) < (us.length : Int) := by omega
        have hFk : Hid (∀ x, G k x → x < wr.heap.size) := Lib.hid fun x hx => Nat.lt_of_lt_of_le (HF.out x (HG.out k hlt x hx)) HC.out.size
        go_wp2_with fail
        refine (spoil_any us[k].tm.high us[k].tm _ _ _ _ (Nat.le_refl _) hFk hsub).mono ?_
        rintro e w1 ⟨rfl, hc1⟩
        have nb : ¬ G k b := hGB.out k hlt
        have eb : w1.heap[b]? = wr.heap[b]? := hc1.block b (World.block_lt_of_cell? wr _ c0) nb
        have c0' : w1.cell? ⟨b, o + k * 6, none⟩ = some (.int .i64 us[k].tm.kind) := (World.cell?_of_block (w := wr) eb).trans c0
        have c1' : w1.cell? ⟨b, o + k * 6 + 1, none⟩ = some (.string us[k].tm.name) := (World.cell?_of_block (w := wr) eb).trans c1
        have c2' : w1.cell? ⟨b, o + k * 6 + 2, none⟩ = some (.int .i64 us[k].tm.n) := (World.cell?_of_block (w := wr) eb).trans c2
        have c3' : w1.cell? ⟨b, o + k * 6 + 3, none⟩ = some (.slice (B k) us[k].tm.args.length (d k)) := (World.cell?_of_block (w := wr) eb).trans c3
        have c4' : w1.cell? ⟨b, o + k * 6 + 4, none⟩ = some (.int .i64 us[k].fr) := (World.cell?_of_block (w := wr) eb).trans c4
        have c5' : w1.cell? ⟨b, o + k * 6 + 5, none⟩ = some (.int .i64 us[k].til) := (World.cell?_of_block (w := wr) eb).trans c5
        have f0' : w1.frozen? ⟨b, o + k * 6, none⟩ = false := (World.frozen?_of_block (w := wr) eb).trans f0
        have f1' : w1.frozen? ⟨b, o + k * 6 + 1, none⟩ = false := (World.frozen?_of_block (w := wr) eb).trans f1
        have f2' : w1.frozen? ⟨b, o + k * 6 + 2, none⟩ = false := (World.frozen?_of_block (w := wr) eb).trans f2
        have f3' : w1.frozen? ⟨b, o + k * 6 + 3, none⟩ = false := (World.frozen?_of_block (w := wr) eb).trans f3
        have f4' : w1.frozen? ⟨b, o + k * 6 + 4, none⟩ = false := (World.frozen?_of_block (w := wr) eb).trans f4
        have f5' : w1.frozen? ⟨b, o + k * 6 + 5, none⟩ = false := (World.frozen?_of_block (w := wr) eb).trans f5
        have HR2 := Lib.hid (fun v0 v1 v2 v3 v4 v5 => HR.out.next hlt hc1 hGB.out hap.out v0 v1 v2 v3 v4 v5 (World.block_lt_of_cell? wr _ c0))
        have HC1 : Hid (Chg F w w1) := Lib.hid (HC.out.trans (hc1.weak (HG.out k hlt)))
        have HLT := Lib.hid (And.intro hlt ll)
        clear eb c0 c1 c2 c3 c4 c5 f0 f1 f2 f3 f4 f5 hsub hc1
        go_wp2_with fail
        go_roundw
        case rel => exact ⟨k + 1, HLT.out.1, by go_num, Lib.hid (HR2.out _ _ _ _ _ _), Lib.hid (HC1.out.trans (set6_chg w1 b (o + k * 6) _ _ _ _ _ _ hFb))⟩
        case measure => have := HLT.out; simp [intOf]; omega
      · go_wp2_with fail
        go_end0
        exact ⟨rfl, HC.out⟩

theorem set7_other (w : World) (b o q : Nat) (v0 v1 v2 v3 v4 v5 v6 : Value) (h : q < o ∨ o + 7 ≤ q) : (set7 w b o v0 v1 v2 v3 v4 v5 v6).cell? ⟨b, q, none⟩ = w.cell? ⟨b, q, none⟩ := by
  have ne : ∀ j, j < 7 → (⟨b, o + j, none⟩ : Addr) ≠ ⟨b, q, none⟩ := fun j hj e => by injection e with _ e2; omega
  unfold set7
  rw [World.cell?_setCell_other _ _ _ _ (ne 6 (by omega)), World.cell?_setCell_other _ _ _ _ (ne 5 (by omega)), World.cell?_setCell_other _ _ _ _ (ne 4 (by omega)), World.cell?_setCell_other _ _ _ _ (ne 3 (by omega)), World.cell?_setCell_other _ _ _ _ (ne 2 (by omega)), World.cell?_setCell_other _ _ _ _ (ne 1 (by omega)), World.cell?_setCell_other _ _ _ _ (show (⟨b, o, none⟩ : Addr) ≠ ⟨b, q, none⟩ from ne 0 (by omega))]
theorem set7_frozen (w : World) (b o : Nat) (v0 v1 v2 v3 v4 v5 v6 : Value) (a : Addr) : (set7 w b o v0 v1 v2 v3 v4 v5 v6).frozen? a = w.frozen? a := by
  unfold set7
  simp
/-- from k on the row is as it was -/
def KFrom (w : World) (us : List Kp) (b o : Nat) (B : Nat → Option Addr) (d : Nat → Nat) (G : Nat → Nat → Prop) (k : Nat) : Prop :=
  (∀ i (h : i < us.length), k ≤ i → w.cell? ⟨b, o + i * 7, none⟩ = some (.int .i64 us[i].seq) ∧ w.cell? ⟨b, o + i * 7 + 1, none⟩ = some (.int .i64 us[i].fc.tm.kind) ∧ w.cell? ⟨b, o + i * 7 + 2, none⟩ = some (.string us[i].fc.tm.name) ∧ w.cell? ⟨b, o + i * 7 + 3, none⟩ = some (.int .i64 us[i].fc.tm.n) ∧ w.cell? ⟨b, o + i * 7 + 4, none⟩ = some (.slice (B i) us[i].fc.tm.args.length (d i)) ∧ w.cell? ⟨b, o + i * 7 + 5, none⟩ = some (.int .i64 us[i].fc.fr) ∧ w.cell? ⟨b, o + i * 7 + 6, none⟩ = some (.int .i64 us[i].fc.til) ∧ TmOwn w us[i].fc.tm (B i) (d i) (G i)) ∧ ∀ j, j < us.length * 7 → w.frozen? ⟨b, o + j, none⟩ = false
theorem KFrom.next {w : World} {us : List Kp} {b o : Nat} {B : Nat → Option Addr} {d : Nat → Nat} {G : Nat → Nat → Prop} {k : Nat} (h : KFrom w us b o B d G k) (hk : k < us.length) {w1 : World} (hc : Chg (G k) w w1)
    (hG : ∀ i, i < us.length → ¬ G i b) (hap : ∀ i j, i < us.length → j < us.length → i ≠ j → ∀ x, G i x → ¬ G j x) (v0 v1 v2 v3 v4 v5 v6 : Value) (hb : b < w.heap.size) : KFrom (set7 w1 b (o + k * 7) v0 v1 v2 v3 v4 v5 v6) us b o B d G (k + 1) := by
  have eb : w1.heap[b]? = w.heap[b]? := hc.block b hb (hG k hk)
  refine ⟨fun i hi hki => ?_, fun j hj => ?_⟩
  · obtain ⟨h0, h1, h2, h3, h4, h5, h6, h7⟩ := h.1 i hi (by omega)
    refine ⟨?_, ?_, ?_, ?_, ?_, ?_, ?_, ?_⟩
    · rw [set7_other _ _ _ _ _ _ _ _ _ _ _ (by omega), World.cell?_of_block (w := w) eb]; exact h0
    · rw [set7_other _ _ _ _ _ _ _ _ _ _ _ (by omega), World.cell?_of_block (w := w) eb]; exact h1
    · rw [set7_other _ _ _ _ _ _ _ _ _ _ _ (by omega), World.cell?_of_block (w := w) eb]; exact h2
    · rw [set7_other _ _ _ _ _ _ _ _ _ _ _ (by omega), World.cell?_of_block (w := w) eb]; exact h3
    · rw [set7_other _ _ _ _ _ _ _ _ _ _ _ (by omega), World.cell?_of_block (w := w) eb]; exact h4
    · rw [set7_other _ _ _ _ _ _ _ _ _ _ _ (by omega), World.cell?_of_block (w := w) eb]; exact h5
    · rw [set7_other _ _ _ _ _ _ _ _ _ _ _ (by omega), World.cell?_of_block (w := w) eb]; exact h6
    · refine (h7.chg hc (hap i k hi hk (by omega))).keep fun x hx _ => set7_block _ _ _ _ _ _ _ _ _ _ _ (fun e => hG i hi (e ▸ hx))
  · rw [set7_frozen, World.frozen?_of_block (w := w) eb]
    exact h.2 j hj

set_option maxRecDepth 100000 in
set_option maxHeartbeats 4000000 in
theorem spoilKs_any (us : List Kp) (A : Option Addr) (c : Nat) (F : Nat → Prop) (B : Nat → Option Addr) (d : Nat → Nat) (G : Nat → Nat → Prop) (w : World) (ll : us.length ≤ 1000000) (hF : ∀ b, F b → b < w.heap.size) (h : KOwn w us A F B d G) :
    Calls Tryz.prog 20 #[.slice A us.length c] w fun e w' => e = .returned (.tuple #[]) ∧ Chg F w w' := by
  by_cases hemp : us.length = 0
  · have he : decide ((0 : Int) < (us.length : Int)) = false := decide_eq_false (by omega)
    clear h
    go_enter Tryz.func20, Tryz.ntmps20
    go_wp2_with fail
    go_loopw [2] (fun i wr => i = .int .i64 0 ∧ Ext w wr) (fun _ _ => 0)
    case atStart => exact ⟨rfl, Ext.refl _⟩
    case round =>
      obtain ⟨rfl, hx⟩ := hrel
      go_wp2_with fail
      go_end0
      exact ⟨rfl, Chg.of_ext hx⟩
  · have hpos : 0 < us.length := by omega
    clear hemp
    obtain ⟨b, o, rfl, _⟩ := h.row 0 hpos
    obtain ⟨hFb, hGb, hfz⟩ := h.own b o rfl hpos
    have hap := Lib.hid h.apart
    have hGB := Lib.hid hGb
    have HF := Lib.hid hF
    have R0 : Hid (KFrom w us b o B d G 0) := Lib.hid ⟨fun i hi _ => by
      obtain ⟨b', o', e, h0, h1, h2, h3, h4, h5, h6, _⟩ := h.row i hi
      injection e with e; injection e with e1 e2; subst e1 e2
      exact ⟨h0, h1, h2, h3, h4, h5, h6, h.sub i hi⟩, hfz⟩
    have HG : Hid (∀ i, i < us.length → ∀ x, G i x → F x) := Lib.hid h.inF
    clear h hfz hGb hF
    go_enter Tryz.func20, Tryz.ntmps20
    go_wp2_with fail
    go_loopw [2] (fun i wr => ∃ k : Nat, k ≤ us.length ∧ i = .int .i64 k ∧ Hid (KFrom wr us b o B d G k) ∧ Hid (Chg F w wr)) (fun i _ => us.length - (intOf i).toNat)
    case atStart => exact ⟨0, Nat.zero_le _, rfl, R0, Lib.hid (Chg.refl _ _)⟩
    case round =>
      obtain ⟨k, hk, rfl, HR, HC⟩ := hrel
      clear R0
      by_cases hlt : k < us.length
      · obtain ⟨c0, c1, c2, c3, c4, c5, c6, hsub⟩ := HR.out.1 k hlt (Nat.le_refl _)
        have f0 := HR.out.2 (k * 7) (by omega)
        have f1 := HR.out.2 (k * 7 + 1) (by omega)
        have f2 := HR.out.2 (k * 7 + 2) (by omega)
        have f3 := HR.out.2 (k * 7 + 3) (by omega)
        have f4 := HR.out.2 (k * 7 + 4) (by omega)
        have f5 := HR.out.2 (k * 7 + 5) (by omega)
        have f6 := HR.out.2 (k * 7 + 6) (by omega)
        simp only [← Nat.add_assoc] at f1 f2 f3 f4 f5 f6
        have k0 : (0 : Int) ≤ (k : Int) := Int.natCast_nonneg _
        have k1 : (k : Int) < (us.length : Int) := by omega
        have hFk : Hid (∀ x, G k x → x < wr.heap.size) := Lib.hid fun x hx => Nat.lt_of_lt_of_le (HF.out x (HG.out k hlt x hx)) HC.out.size
        go_wp2_with fail
        refine (spoil_any us[k].fc.tm.high us[k].fc.tm _ _ _ _ (Nat.le_refl _) hFk hsub).mono ?_
        rintro e w1 ⟨rfl, hc1⟩
        have nb : ¬ G k b := hGB.out k hlt
        have eb : w1.heap[b]? = wr.heap[b]? := hc1.block b (World.block_lt_of_cell? wr _ c0) nb
        have c0' : w1.cell? ⟨b, o + k * 7, none⟩ = some (.int .i64 us[k].seq) := (World.cell?_of_block (w := wr) eb).trans c0
        have c1' : w1.cell? ⟨b, o + k * 7 + 1, none⟩ = some (.int .i64 us[k].fc.tm.kind) := (World.cell?_of_block (w := wr) eb).trans c1
        have c2' : w1.cell? ⟨b, o + k * 7 + 2, none⟩ = some (.string us[k].fc.tm.name) := (World.cell?_of_block (w := wr) eb).trans c2
        have c3' : w1.cell? ⟨b, o + k * 7 + 3, none⟩ = some (.int .i64 us[k].fc.tm.n) := (World.cell?_of_block (w := wr) eb).trans c3
        have c4' : w1.cell? ⟨b, o + k * 7 + 4, none⟩ = some (.slice (B k) us[k].fc.tm.args.length (d k)) := (World.cell?_of_block (w := wr) eb).trans c4
        have c5' : w1.cell? ⟨b, o + k * 7 + 5, none⟩ = some (.int .i64 us[k].fc.fr) := (World.cell?_of_block (w := wr) eb).trans c5
        have c6' : w1.cell? ⟨b, o + k * 7 + 6, none⟩ = some (.int .i64 us[k].fc.til) := (World.cell?_of_block (w := wr) eb).trans c6
        have f0' : w1.frozen? ⟨b, o + k * 7, none⟩ = false := (World.frozen?_of_block (w := wr) eb).trans f0
        have f1' : w1.frozen? ⟨b, o + k * 7 + 1, none⟩ = false := (World.frozen?_of_block (w := wr) eb).trans f1
        have f2' : w1.frozen? ⟨b, o + k * 7 + 2, none⟩ = false := (World.frozen?_of_block (w := wr) eb).trans f2
        have f3' : w1.frozen? ⟨b, o + k * 7 + 3, none⟩ = false := (World.frozen?_of_block (w := wr) eb).trans f3
        have f4' : w1.frozen? ⟨b, o + k * 7 + 4, none⟩ = false := (World.frozen?_of_block (w := wr) eb).trans f4
        have f5' : w1.frozen? ⟨b, o + k * 7 + 5, none⟩ = false := (World.frozen?_of_block (w := wr) eb).trans f5
        have f6' : w1.frozen? ⟨b, o + k * 7 + 6, none⟩ = false := (World.frozen?_of_block (w := wr) eb).trans f6
        have HR2 := Lib.hid (fun v0 v1 v2 v3 v4 v5 v6 => HR.out.next hlt hc1 hGB.out hap.out v0 v1 v2 v3 v4 v5 v6 (World.block_lt_of_cell? wr _ c0))
        have HC1 : Hid (Chg F w w1) := Lib.hid (HC.out.trans (hc1.weak (HG.out k hlt)))
        have HLT := Lib.hid (And.intro hlt ll)
        clear eb c0 c1 c2 c3 c4 c5 c6 f0 f1 f2 f3 f4 f5 f6 hsub hc1
        go_wp2_with fail
        go_roundw
        case rel => exact ⟨k + 1, HLT.out.1, by go_num, Lib.hid (HR2.out _ _ _ _ _ _ _), Lib.hid (HC1.out.trans (set7_chg w1 b (o + k * 7) _ _ _ _ _ _ _ hFb))⟩
        case measure => have := HLT.out; simp [intOf]; omega
      · go_wp2_with fail
        go_end0
        exact ⟨rfl, HC.out⟩

end Go.Proofs.YtkdhpifjljkpfaaGreat
