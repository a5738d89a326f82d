/- FactsKeep: rows of numbers put behind four; what a spoil leaves; when facts may be no two are alike. -/
import Derived.Test.YtkdhpifjljkpfaaGreatFks
import Derived.Test.YtkdhpifjljkpfaaGreatApp
import Derived.Test.YtkdhpifjljkpfaaGreatFyc
import Derived.Test.YtkdhpifjljkpfaaGreatFye
import Derived.Test.YtkdhpifjljkpfaaGreatFky
namespace Go.Proofs.YtkdhpifjljkpfaaGreat
open Go.RowKit

theorem infoInt9 : (Tryz.prog.info? 3).map (fun i => (i.zero, i.size, i.bytes)) = some (some (.int .i64 0), 1, 8) := by kernel_rfl
def intCells (ns : List Int) : List Value := ns.map (Value.int .i64)
theorem intCells_one (ns : List Int) : ∀ u ∈ intCells ns, u.oneCell' = true := by
  intro u hu
  obtain ⟨s, _, rfl⟩ := List.mem_map.1 hu
  rfl
theorem IntsAt.ext {w w' : World} {ns : List Int} {A : Option Addr} (h : IntsAt w ns A) (k : Ext w w') : IntsAt w' ns A := by
  intro i hi
  obtain ⟨b, o, e, h0⟩ := h i hi
  exact ⟨b, o, e, k.cell h0⟩
theorem IntsAt.news {w : World} {ns : List Int} {ad : Addr} (h : IntsAt w ns (some ad)) : ∀ j u, (intCells ns)[j]? = some u → w.cell? (ad.add j) = some u := by
  intro j u hu
  have hj : j < ns.length := by
    rcases Nat.lt_or_ge j ns.length with h' | h'
    · exact h'
    · rw [List.getElem?_eq_none (by simpa [intCells] using h')] at hu; cases hu
  obtain ⟨b, o, e, hc⟩ := h j hj
  injection e with e
  subst e
  rw [add_addr, hc]
  simpa [intCells, hj] using hu
theorem src_ints {w : World} {ns : List Int} {A : Option Addr} {c : Nat} (h : IntsAt w ns A) (hc : ns.length ≤ c) : Src w A ns.length c 1 (intCells ns) := by
  refine ⟨by simp [intCells], ?_, hc⟩
  rcases A with _ | ad
  · cases ns with
    | nil => exact .inl ⟨rfl, rfl⟩
    | cons s r =>
      obtain ⟨_, _, e, _⟩ := h 0 (by simp)
      cases e
  · exact .inr ⟨ad, rfl, h.news⟩
theorem owned_ints {w : World} {base n : Nat} {v : Value} {ns : List Int} (h : w.ownsRow base 3 1 v n (intCells ns)) (hn : n = ns.length) :
    ∃ A c, v = .slice A n c ∧ n ≤ c ∧ IntsAt w ns A := by
  subst hn
  rcases h.2 with ⟨rfl, h0⟩ | ⟨g, cap, cur, rfl, _, _, hc, _⟩
  · have e : ns = [] := List.eq_nil_of_length_eq_zero h0
    subst e
    exact ⟨none, 0, rfl, Nat.le_refl _, fun i hi => absurd hi (by simp)⟩
  · refine ⟨_, cap, rfl, hc, fun i hi => ⟨g, 0, rfl, ?_⟩⟩
    rw [Nat.zero_add, h.cellAt i (by omega)]
    simp [intCells, hi]
/-- the four numbers that the law itself tries -/
theorem own_four (w : World) (a b : Int) : (w.alloc (.cells #[.int .i64 a, .int .i64 b, .int .i64 1073741824, .int .i64 1073741825] 3)).ownsRow w.heap.size 3 1 (.slice (some ⟨w.heap.size, 0, none⟩) 4 4) 4 (intCells [a, b, 1073741824, 1073741825]) :=
  ⟨rfl, .inr ⟨w.heap.size, 4, _, rfl, Nat.le_refl _, heap_alloc_new w _, Nat.le_refl _, by decide, rfl, rfl⟩⟩
theorem wf_all4 {a b : Int} {ns : List Int} (ha : (Lit.int .i64 a).wf = true) (hb : (Lit.int .i64 b).wf = true) (h : ∀ n ∈ ns, (Lit.int .i64 n).wf = true) : ∀ n ∈ [a, b, 1073741824, 1073741825] ++ ns, (Lit.int .i64 n).wf = true := by
  intro n hn
  simp only [List.cons_append, List.nil_append, List.mem_cons] at hn
  rcases hn with rfl | rfl | rfl | rfl | hn
  · exact ha
  · exact hb
  · rfl
  · rfl
  · exact h n hn
theorem wf_wrap (n : Int) : (Lit.int .i64 (RowKit.wrap64 n)).wf = true := by
  have h1 : -9223372036854775808 ≤ RowKit.wrap64 n := by unfold RowKit.wrap64; omega
  have h2 : RowKit.wrap64 n < 9223372036854775808 := by unfold RowKit.wrap64; omega
  have e1 : IntKind.i64.min = -9223372036854775808 := by decide
  have e2 : IntKind.i64.max = 9223372036854775807 := by decide
  simp only [Lit.wf, e1, e2, Bool.and_eq_true, decide_eq_true_eq]
  omega

/-- what was made behind w1 and then turned leaves w1 as it was -/
theorem spoil_ext {w1 w2 w3 w4 : World} (h1 : Ext w1 w2) (h2 : Ext w2 w3) (h3 : Chg (fun x => w2.heap.size ≤ x ∧ x < w3.heap.size) w3 w4) : Ext w2 w4 ∧ Ext w1 w4 :=
  have h := Chg.ext_of h2 h3 (fun _ hb => hb.1)
  ⟨h, h1.trans h⟩
theorem FOwn.ext {w w' : World} {us : List Fc} {A : Option Addr} {F : Nat → Prop} {B : Nat → Option Addr} {d : Nat → Nat} {G : Nat → Nat → Prop} (h : FOwn w us A F B d G) (k : Ext w w') : FOwn w' us A F B d G := by
  refine ⟨fun i hi => ?_, fun i hi => (h.sub i hi).ext k, fun b o e hp => ?_, h.inF, h.apart⟩
  · obtain ⟨b, o, e, c0, c1, c2, c3, c4, c5, t⟩ := h.row i hi
    exact ⟨b, o, e, k.cell c0, k.cell c1, k.cell c2, k.cell c3, k.cell c4, k.cell c5, t⟩
  · obtain ⟨b', o', e2, c0, _⟩ := h.row 0 hp
    rw [e] at e2
    injection e2 with e2
    injection e2 with e3 _
    subst e3
    obtain ⟨h1, h2, h3⟩ := h.own b o e hp
    have hb := World.block_lt_of_cell? w _ c0
    exact ⟨h1, h2, fun j hj => (Below.frozen k (p := ⟨b, o + j, none⟩) hb).trans (h3 j hj)⟩
theorem KOwn.ext {w w' : World} {us : List Kp} {A : Option Addr} {F : Nat → Prop} {B : Nat → Option Addr} {d : Nat → Nat} {G : Nat → Nat → Prop} (h : KOwn w us A F B d G) (k : Ext w w') : KOwn w' us A F B d G := by
  refine ⟨fun i hi => ?_, fun i hi => (h.sub i hi).ext k, fun b o e hp => ?_, h.inF, h.apart⟩
  · obtain ⟨b, o, e, c0, c1, c2, c3, c4, c5, c6, t⟩ := h.row i hi
    exact ⟨b, o, e, k.cell c0, k.cell c1, k.cell c2, k.cell c3, k.cell c4, k.cell c5, k.cell c6, t⟩
  · obtain ⟨b', o', e2, c0, _⟩ := h.row 0 hp
    rw [e] at e2
    injection e2 with e2
    injection e2 with e3 _
    subst e3
    obtain ⟨h1, h2, h3⟩ := h.own b o e hp
    have hb := World.block_lt_of_cell? w _ c0
    exact ⟨h1, h2, fun j hj => (Below.frozen k (p := ⟨b, o + j, none⟩) hb).trans (h3 j hj)⟩
theorem FOwn.none (w : World) (F : Nat → Prop) : FOwn w [] none F (fun _ => none) (fun _ => 0) (fun _ _ => False) :=
  ⟨fun i hi => absurd hi (Nat.not_lt_zero _), fun i hi => absurd hi (Nat.not_lt_zero _), (fun b o e => by injection e), fun i hi => absurd hi (Nat.not_lt_zero _), fun i j hi => absurd hi (Nat.not_lt_zero _)⟩
theorem KOwn.none (w : World) (F : Nat → Prop) : KOwn w [] none F (fun _ => none) (fun _ => 0) (fun _ _ => False) :=
  ⟨fun i hi => absurd hi (Nat.not_lt_zero _), fun i hi => absurd hi (Nat.not_lt_zero _), (fun b o e => by injection e), fun i hi => absurd hi (Nat.not_lt_zero _), fun i j hi => absurd hi (Nat.not_lt_zero _)⟩
theorem badE_ok (b : Bool) : (badE b == 0) = b := by cases b <;> rfl
/-- no two of facts that may be are alike -/
theorem kps_pair {ks : List Kp} (h : kpsB ks = true) : (ks.map (·.fc)).Pairwise (fun x y => x ≠ y) := by
  rw [List.pairwise_iff_getElem]
  intro i j hi hj hij
  simp only [List.getElem_map]
  intro e
  have := kps_no_dup (ks := ks) (k := j) (j := i) (by simpa using hj) hij e
  rw [h] at this
  cases this
theorem fpl_is {ks : List Kp} (hk : kpsB ks = true) {x : Fc} {i : Nat} (h : i < ks.length) (e : ks[i].fc = x) : fpl ks ks.length x = some i := by
  cases hf : fpl ks ks.length x with
  | none => exact absurd e (fpl_none hf i h h)
  | some j =>
    obtain ⟨hj, _, ej⟩ := fpl_some hf
    have hp := List.pairwise_iff_getElem.1 (kps_pair hk)
    simp only [List.length_map, List.getElem_map] at hp
    rcases Nat.lt_trichotomy i j with c | c | c
    · exact absurd (e.trans ej.symm) (hp i j h hj c)
    · rw [c]
    · exact absurd (ej.trans e.symm) (hp j i hj h c)
theorem fpl_not {ks : List Kp} {x : Fc} (h : ∀ i (_ : i < ks.length), ks[i].fc ≠ x) : fpl ks ks.length x = none := by
  cases hf : fpl ks ks.length x with
  | none => rfl
  | some j =>
    obtain ⟨hj, _, ej⟩ := fpl_some hf
    exact absurd ej (h j hj)
theorem fnd_yes {ks : List Kp} (hk : kpsB ks = true) {x : Fc} (hx : fmB x = true) {i : Nat} (h : i < ks.length) (e : ks[i].fc = x) : fndE ks x = 0 ∧ fndV ks x = ks[i].seq := by
  unfold fndE fndV hasK seqK
  rw [hk, hx, fpl_is hk h e]
  simp [h]
theorem fnd_none {ks : List Kp} (hk : kpsB ks = true) {x : Fc} (hx : fmB x = true) (h : ∀ i (_ : i < ks.length), ks[i].fc ≠ x) : fndE ks x = 3 ∧ fndV ks x = 0 := by
  unfold fndE fndV hasK
  rw [hk, hx, fpl_not h]
  exact ⟨rfl, rfl⟩
theorem fnd_bad {ks : List Kp} {x : Fc} (h : (kpsB ks && fmB x) = false) : fndE ks x = 1 ∧ fndV ks x = 0 := by
  unfold fndE fndV
  rw [h]
  exact ⟨rfl, rfl⟩
/-- may this number and this fact be put behind them, as the page asks it? -/
def addB (ks : List Kp) (n : Int) (x : Fc) : Bool := kpsB ks && (fmB x && (numB n 1073741824 && decide (lastI ks ks.length < n)))
theorem addB_is {ks : List Kp} {n : Int} {x : Fc} : addG ks n x = addB ks n x := by
  unfold addG addB numB
  cases hk : kpsB ks with
  | false => rfl
  | true =>
    have hl : -1 ≤ lastI ks ks.length := by
      unfold kpsB at hk
      simp only [Bool.and_eq_true, decide_eq_true_eq] at hk
      exact okS_last _ hk.2.1 (Nat.le_refl _)
    rw [Bool.eq_iff_iff]
    simp only [Bool.and_eq_true, decide_eq_true_eq, Bool.true_and]
    constructor
    · rintro ⟨a, b, c⟩; exact ⟨a, ⟨by omega, c⟩, b⟩
    · rintro ⟨a, ⟨_, c⟩, b⟩; exact ⟨a, b, c⟩
theorem add_bad {ks : List Kp} {n : Int} {x : Fc} (h : addB ks n x = false) : addE ks n x = 1 := by
  unfold addE
  rw [addB_is, h]
  rfl
theorem add_there {ks : List Kp} {n : Int} {x : Fc} (h : addB ks n x = true) {i : Nat} (hi : i < ks.length) (e : ks[i].fc = x) : addE ks n x = 4 := by
  have hk : kpsB ks = true := by unfold addB at h; simp only [Bool.and_eq_true] at h; exact h.1
  unfold addE hasK
  rw [addB_is, h, fpl_is hk hi e]
  rfl
theorem add_full {ks : List Kp} {n : Int} {x : Fc} (h : addB ks n x = true) (hn : ∀ i (_ : i < ks.length), ks[i].fc ≠ x) (hl : ¬ ks.length < 300) : addE ks n x = 2 := by
  have hk : kpsB ks = true := by unfold addB at h; simp only [Bool.and_eq_true] at h; exact h.1
  have := (kpsB_all hk).1
  unfold addE hasK
  rw [addB_is, h, fpl_not hn, if_pos rfl, if_neg (by simp), if_pos (by omega)]
theorem add_good {ks : List Kp} {n : Int} {x : Fc} (h : addB ks n x = true) (hn : ∀ i (_ : i < ks.length), ks[i].fc ≠ x) (hl : ks.length < 300) : addE ks n x = 0 := by
  unfold addE hasK
  rw [addB_is, h, fpl_not hn, if_pos rfl, if_neg (by simp), if_neg (by omega)]
/-- what Add tells -/
def addL (ks : List Kp) (n : Int) (x : Fc) : List Kp := if addE ks n x = 0 then ks ++ [⟨n, x⟩] else []
theorem addL_len (ks : List Kp) (n : Int) (x : Fc) : (addL ks n x).length ≤ ks.length + 1 := by
  unfold addL
  by_cases h : addE ks n x = 0
  · rw [if_pos h]; simp
  · rw [if_neg h]; simp
theorem add_to {ks : List Kp} {n : Int} {x : Fc} {w w' : World} {e : Ending} (h : AddTo ks n x w e w') : ∃ Y yc D dd G, e = .returned (.tuple #[.slice Y (addL ks n x).length yc, .int .i64 (addE ks n x)]) ∧ KOwn w' (addL ks n x) Y (fun z => w.heap.size ≤ z ∧ z < w'.heap.size) D dd G ∧ Ext w w' := by
  rcases h with ⟨he, v, zs, G, rfl, hK⟩ | ⟨he, rfl, hx⟩
  · obtain ⟨Y, yc, D, dd, rfl, _, hO⟩ := hK.done
    refine ⟨Y, yc, D, dd, G, ?_, ?_, hK.inv.ext⟩
    · unfold addL; rw [if_pos he, he]
    · unfold addL; rw [if_pos he]; exact hO
  · refine ⟨none, 0, fun _ => none, fun _ => 0, fun _ _ => False, ?_, ?_, hx⟩
    · unfold addL; rw [if_neg he]; rfl
    · unfold addL; rw [if_neg he]; exact KOwn.none _ _
/-- what is chosen of them -/
def chL (ks : List Kp) (p : Kp → Bool) : List Kp := if kpsB ks = true then ks.filter p else []
theorem chL_len (ks : List Kp) (p : Kp → Bool) : (chL ks p).length ≤ ks.length := by
  unfold chL
  by_cases h : kpsB ks = true
  · rw [if_pos h]; exact List.length_filter_le _ _
  · rw [if_neg h]; simp
theorem ch_to {ks : List Kp} {p : Kp → Bool} {w w' : World} {e : Ending} (h : ChTo ks p w e w') : ∃ Y yc, e = .returned (.tuple #[.slice Y (chL ks p).length yc, .int .i64 (badE (kpsB ks))]) ∧ KpsAt w' (chL ks p) Y ∧ Ext w w' := by
  rcases h with ⟨he, v, zs, G, rfl, hK⟩ | ⟨he, rfl, hx⟩
  · obtain ⟨Y, yc, rfl, _, hY⟩ := hK.at_
    refine ⟨Y, yc, ?_, ?_, hK.inv.ext⟩
    · unfold chL; rw [if_pos he, he]; rfl
    · unfold chL; rw [if_pos he]; exact hY
  · refine ⟨none, 0, ?_, ?_, hx⟩
    · unfold chL; rw [he]; rfl
    · unfold chL; rw [he]; exact KpsAt.nil _ _
theorem copied_at {ks : List Kp} {w w' : World} {e : Ending} (h : KCopied ks w e w') : ∃ Y yc, e = .returned (.slice Y ks.length yc) ∧ KpsAt w' ks Y ∧ Ext w w' := by
  obtain ⟨v, zs, G, rfl, hK⟩ := h
  obtain ⟨Y, yc, rfl, _, hY⟩ := hK.at_
  exact ⟨Y, yc, rfl, hY, hK.inv.ext⟩
theorem last_at {ks : List Kp} (hp : 0 < ks.length) : lastI ks ks.length = ks[ks.length - 1].seq := by
  have := lastI_at (ks := ks) (k := ks.length - 1) (by omega)
  rwa [Nat.sub_add_cancel hp] at this
theorem last_wf {w : World} {ks : List Kp} {A : Option Addr} (h : KpsAt w ks A) : (Lit.int .i64 (lastI ks ks.length)).wf = true := by
  rcases Nat.eq_zero_or_pos ks.length with e | hp
  · rw [e]; rfl
  · obtain ⟨_, _, _, _, _, _, _, _, _, _, _, _, _, hw⟩ := h (ks.length - 1) (by omega)
    rw [last_at hp]
    exact hw
/-- what KOwned gives of a copy that something old is put behind -/
structure CopK (ks : List Kp) (W w' : World) (v : Value) (zs : List KLain) : Prop where
  map : zs.map (·.1) = ks
  own : w'.ownsRow W.heap.size 50 7 v ks.length (Krow zs)
  at_ : ∀ w2, w'.heap.size ≤ w2.heap.size → (∀ b, b < w'.heap.size → v.ownBlock ≠ some b → w2.heap[b]? = w'.heap[b]?) → ∀ z ∈ zs, TmAt w2 z.1.fc.tm z.2.1 z.2.2 ∧ (Lit.int .i64 z.1.seq).wf = true
theorem copK_any (ks : List Kp) (A : Option Addr) (c : Nat) (W u : World) (hl : ks.length ≤ 1000000) (h : KpsAt W ks A) (hu : Ext W u) :
    Calls Tryz.prog 5 #[.slice A ks.length c] u fun e w' => ∃ v zs, e = .returned v ∧ Hid (CopK ks W w' v zs) ∧ w'.ownsRow W.heap.size 50 7 v ks.length (Krow zs) ∧ Ext u w' ∧ Ext W w' := by
  refine (copyKepts_any ks A c u hl (h.ext hu)).mono fun e w' ⟨v, zs, G, he, hK⟩ => ⟨v, zs, he, Lib.hid ⟨hK.map, ownsRow_base hK.own hu.size, fun w2 _ hb z hz => ?_⟩, ownsRow_base hK.own hu.size, hK.inv.ext, hu.trans hK.inv.ext⟩
  obtain ⟨i, hi, rfl⟩ := List.getElem_of_mem hz
  refine ⟨?_, hK.side _ hz⟩
  have ht := ((hK.inv.sub i (by simpa using hi)).keep (w' := w2) fun b hg hs => hb b hs (hK.inv.inF i (by simpa using hi) b hg).2.2).at_
  simpa [KLain.tl] using ht
theorem CopK.snoc {ks : List Kp} {W w6 w7 w8 : World} {v v' : Value} {zs : List KLain} {q : Kp} {A : Option Addr} {c base n : Nat} {o : Obj} (h : CopK ks W w6 v zs) (hx : Ext w6 w7) (hq : TmAt W q.fc.tm A c) (hw : (Lit.int .i64 q.seq).wf = true)
    (hg : (w7.alloc o).grownBy w8 v.ownBlock) (hS : Ext W w8) (ho : w8.ownsRow base 50 7 v' n (Krow zs ++ KLain.cells (q, A, c))) : ∃ Y yc, v' = .slice Y (ks.length + 1) yc ∧ KpsAt w8 (ks ++ [q]) Y := by
  rw [← Krow_one, ← Krow_app] at ho
  have hs7 := hx.size
  have hs8 := hg.size
  have hal : (w7.alloc o).heap.size = w7.heap.size + 1 := by simp
  obtain ⟨Y, yc, hv, _, hY⟩ := Kowned ho fun z hz => by
    rcases List.mem_append.1 hz with hz | hz
    · refine h.at_ w8 (by omega) (fun b hb hne => ?_) z hz
      rw [hg.block b (by omega) (fun e => hne e.symm)]
      rw [((Ext.refl w7).alloc o).block b (by omega)]
      exact hx.block b hb
    · obtain rfl := List.mem_singleton.1 hz
      exact ⟨hq.ext hS, hw⟩
  have hl : zs.length = ks.length := by rw [← h.map, List.length_map]
  refine ⟨Y, yc, ?_, ?_⟩
  · rw [hv, List.length_append, hl]; rfl
  · rw [List.map_append, h.map] at hY
    exact hY
/-- .. where what is put behind was laid ahead of the copying -/
theorem CopK.snoc2 {ks : List Kp} {W w6 w8 : World} {v v' : Value} {zs : List KLain} {q : Kp} {A : Option Addr} {c base n : Nat} (h : CopK ks W w6 v zs) (hq : TmAt W q.fc.tm A c) (hw : (Lit.int .i64 q.seq).wf = true)
    (hg : w6.grownBy w8 v.ownBlock) (hS : Ext W w8) (ho : w8.ownsRow base 50 7 v' n (Krow zs ++ KLain.cells (q, A, c))) : ∃ Y yc, v' = .slice Y (ks.length + 1) yc ∧ KpsAt w8 (ks ++ [q]) Y := by
  rw [← Krow_one, ← Krow_app] at ho
  have hs8 := hg.size
  obtain ⟨Y, yc, hv, _, hY⟩ := Kowned ho fun z hz => by
    rcases List.mem_append.1 hz with hz | hz
    · exact h.at_ w8 (by omega) (fun b hb hne => hg.block b hb (fun e => hne e.symm)) z hz
    · obtain rfl := List.mem_singleton.1 hz
      exact ⟨hq.ext hS, hw⟩
  have hl : zs.length = ks.length := by rw [← h.map, List.length_map]
  refine ⟨Y, yc, ?_, ?_⟩
  · rw [hv, List.length_append, hl]; rfl
  · rw [List.map_append, h.map] at hY
    exact hY
end Go.Proofs.YtkdhpifjljkpfaaGreat
