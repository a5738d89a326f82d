/- The walk of term.names. -/
import Derived.Test.YtjmfjeeddnmoaaaNam
namespace Go.Proofs.Ytjmfjeeddnmoaaa
open Go.RowKit Go.Maps Go.Sort Go.Shelf Go.Lib

/-- a row of texts that is nobody's else, from block g on -/
def StrOwn (w : World) (ss : List ByteArray) (g : Nat) : Prop := g < w.heap.size ∧ ∀ i (h : i < ss.length), w.cell? ⟨g, i, none⟩ = some (.string ss[i]) ∧ w.frozen? ⟨g, i, none⟩ = false
theorem StrOwn.ext {w w' : World} {ss : List ByteArray} {g : Nat} (h : StrOwn w ss g) (k : Ext w w') : StrOwn w' ss g :=
  ⟨Nat.lt_of_lt_of_le h.1 k.size, fun i hi => ⟨k.cell (h.2 i hi).1, (Below.frozen k h.1).trans (h.2 i hi).2⟩⟩
/-- .. filled so far -/
def StrFill (w : World) (ss : List ByteArray) (g k : Nat) : Prop := g < w.heap.size ∧ ∀ i (h : i < ss.length), w.cell? ⟨g, i, none⟩ = some (.string (if i < k then ss[i] else ⟨#[]⟩)) ∧ w.frozen? ⟨g, i, none⟩ = false
theorem StrFill.ext {w w' : World} {ss : List ByteArray} {g k : Nat} (h : StrFill w ss g k) (x : Ext w w') : StrFill w' ss g k :=
  ⟨Nat.lt_of_lt_of_le h.1 x.size, fun i hi => ⟨x.cell (h.2 i hi).1, (Below.frozen x h.1).trans (h.2 i hi).2⟩⟩
theorem StrFill.set {w : World} {ss : List ByteArray} {g k : Nat} (h : StrFill w ss g k) (hk : k < ss.length) : StrFill (w.setCell ⟨g, k, none⟩ (.string ss[k])) ss g (k + 1) := by
  refine ⟨by simpa [World.setCell] using h.1, fun i hi => ⟨?_, by simpa using (h.2 i hi).2⟩⟩
  by_cases e : i = k
  · subst e
    rw [if_pos (by omega)]
    have hc := (h.2 i hi).1
    go_simp
  · rw [World.cell?_setCell_other _ _ _ _ (fun k => e (by injection k with _ k; exact k.symm)), (h.2 i hi).1]
    by_cases c : i < k
    · rw [if_pos c, if_pos (by omega)]
    · rw [if_neg c, if_neg (by omega)]
theorem StrFill.done {w : World} {ss : List ByteArray} {g k : Nat} (h : StrFill w ss g k) (hk : ss.length ≤ k) : StrOwn w ss g :=
  ⟨h.1, fun i hi => by have := h.2 i hi; rwa [if_pos (by omega)] at this⟩
theorem StrFill.start {w : World} {base g c : Nat} {ss : List ByteArray} {n : Nat} (h : w.ownsRow base 9 1 (.slice (some ⟨g, 0, none⟩) n c) n (madeCells #[.string ⟨#[]⟩] (n * 1)).toList) (e : n = ss.length) : StrFill w ss g 0 := by
  subst e
  refine ⟨(h.lt g rfl).2, fun i hi => ⟨?_, h.frozenAt i⟩⟩
  rw [h.cellAt i (by omega)]
  simp [madeCells, hi, Nat.mod_one]

/-- the names of a map's labels -/
def Named (L : List ByteArray) (w : World) (e : Ending) (w' : World) : Prop :=
  ∃ (ss : List ByteArray) (g c : Nat), e = .returned (.slice (some ⟨g, 0, none⟩) ss.length c) ∧ Rising ss ∧ (∀ s, s ∈ ss ↔ s ∈ L) ∧ StrOwn w' ss g ∧ w.heap.size ≤ g ∧ ss.length ≤ c ∧ Ext w w'

theorem infoLab : (Try.prog.info? 123).map (fun i => (i.zero, i.size, i.bytes)) = some (some (.agg #[.int .u64 0, .int .u64 0]), 2, 16) := by kernel_rfl
theorem infoStr : (Try.prog.info? 9).map (fun i => (i.zero, i.size, i.bytes)) = some (some (.string ⟨#[]⟩), 1, 16) := by kernel_rfl
theorem enterLab : ∀ args w, (callFunc 112 args).run Try.prog w = .ok (.enter 112 args) w := enters_of Try.func112 (by kernel_rfl) rfl

set_option maxHeartbeats 1000000 in
theorem sort_any (g c : Nat) (xs : List (Int × Int)) (w : World) (hH : HoldsK encLab 2 w g 0 xs.toArray) (hg : g < w.heap.size) (hn : xs.length ≤ 1000000) :
    Calls Try.prog 111 #[.slice (some ⟨g, 0, none⟩) xs.length c, .func (.func 112) #[] #[]] w fun e w' =>
      e = .returned (.tuple #[]) ∧ ∃ d' n os, PermIn 0 xs.toArray.size xs.toArray d' ∧ SortedIn (ltOf labCf) 0 xs.toArray.size d' ∧ w' = sortWorldK encLab 2 w g 0 n d' os := by
  have h := AnyQ.slices_SortFunc sortLab 2 Try.isAgg123 Try.sizeOf123 encLab (fun _ => rfl) (fun x v hv => by simp [encLab] at hv; rcases hv with rfl | rfl <;> rfl) labCf swoLab 112 #[] g 0 c xs.toArray w enterLab (fun _ _ _ _ x y => labels_grow _ _ _ _ _) hH hg (by simp; omega)
  exact h

theorem Ext.of_grown {w w' : World} (h : w.grownBy w' none) : Ext w w' := ⟨h.os, h.tape, h.output, h.size, fun k hk => h.block k hk (by simp)⟩
theorem ownsRow_grown {w w' : World} {base : Nat} {e : TypeId} {size : Nat} {v : Value} {n : Nat} {xs : List Value} {r : Option Nat} (h : w.ownsRow base e size v n xs) (k : w.grownBy w' r) (hne : v.ownBlock = r → False) : w'.ownsRow base e size v n xs := by
  refine ⟨h.1, ?_⟩
  rcases h.2 with h0 | ⟨g, cap, cur, rfl, hb, hc, h3⟩
  · exact .inl h0
  · exact .inr ⟨g, cap, cur, rfl, hb, (k.block g (Array.getElem?_eq_some_iff.1 hc).1 (fun e => hne e)).trans hc, h3⟩

/-- what the loop over the map has made -/
structure Ranged (w w1 wr : World) (b : Nat) (L : List ByteArray) (D : DataW Unit) (left : Lit → Bool) (cnt : Nat) (v : Value) (xs : List (Int × Int)) : Prop where
  rng : wr.ranges Try.prog 123 unitElem b w1.heap.size L.length D left cnt
  coll : Coll D left xs
  own : wr.ownsRow w.heap.size 123 2 v xs.length (labCells xs)
  some_ : v ≠ .slice none 0 0
  apart : v.ownBlock ≠ some w1.heap.size
  ext : Ext w wr
  len : xs.length + cnt ≤ L.length

set_option maxRecDepth 100000 in
set_option maxHeartbeats 4000000 in
theorem names_any (b : Nat) (L : List ByteArray) (w : World) (hS : LabSet w b L) (hg : ∀ s ∈ L, Good s) (hn : L.length ≤ 1000000) :
    Calls Try.prog 70 #[.map (some b)] w (Named L w) := by
  obtain ⟨i0, hi0, hz0, hz1, hz2⟩ := info_parts infoLab
  obtain ⟨i1, hi1, hy0, hy1, hy2⟩ := info_parts infoStr
  obtain ⟨D, hown, hD⟩ := hS
  have hsz := hown.size_le
  have hlen := fun ty => hown.len Try.underlying86 ty
  have HG := Lib.hid hg
  have HD := Lib.hid hD
  have hbl := hown.lt
  clear hg hD
  go_enter Try.func70, Try.ntmps70
  go_wp2_with (first
    | (at_make; refine wpList_make_own _ rfl _ _ 125 rfl w.heap.size 123 i0 _ 2 Try.underlying125 hi0 hz0 hz1 .i64 .i64 _ (Maps.size D) rfl rfl rfl (by rw [hz2]; omega) (by unfold maxLen; omega) (Nat.le_refl _) ?_; intro w1 hrow1 hg1; have hown1 := hown.kept hg1 (by simp); clear hlen)
    | (at_range; refine wpList_range_own _ rfl _ 86 rfl 123 119 keyedLab Try.underlying86 _ b L.length D rfl hown1 ?_; intro w2 hrg2 hg2 hsz2))
  go_frame
  have hx1 : Ext w w1 := Ext.of_grown hg1
  have hx2 : Ext w1 w2 := Ext.of_grown hg2
  have hlt1 : w.heap.size < w1.heap.size := (hrow1.lt _ rfl).2
  go_loopw [3] (fun v wr => ∃ (xs : List (Int × Int)) (left : Lit → Bool) (cnt : Nat), Ranged w w1 wr b L D left cnt v xs) (fun _ wr => wr.rangeLeft b w1.heap.size)
  case atStart => exact ⟨[], has D, Maps.size D, hrg2, Coll.start D, ownsRow_ext hrow1 hx2, by simp, by simp [Value.ownBlock]; omega, hx1.trans hx2, by simpa using hsz⟩
  case round =>
    obtain ⟨xs, left, cnt, R⟩ := hrel
    go_wp2_with (at_next; refine wpList_next_ranges _ rfl _ rfl 123 keyedLab unitElem (fun p : Int × Int => labV p.1 p.2) (fun _ : Unit => Value.agg #[]) (fun key kl h => by obtain ⟨p, e, _⟩ := key_lab_inv h; exact ⟨p, e⟩) (fun v y h => ⟨(), (unitElem_inv h).1⟩) b w1.heap.size L.length D left cnt rfl R.rng ?_ ?_)
    · intro hc0 hl0
      obtain ⟨g, c, rfl, hgw, hgr⟩ : ∃ g c, u3 = .slice (some ⟨g, 0, none⟩) xs.length c ∧ w.heap.size ≤ g ∧ g < wr.heap.size := by
        rcases R.own.2 with ⟨e, _⟩ | ⟨g, c, cur, e, hb, hc, _⟩
        · exact absurd e R.some_
        · exact ⟨g, c, e, hb, (Array.getElem?_eq_some_iff.1 hc).1⟩
      have hll := R.len
      have HM := Lib.hid (R.coll.done hl0 HD.out)
      have hH := holds_lab R.own
      clear hl0 hlt1
      go_wp2_with fail
      refine (sort_any g c xs wr hH hgr (by omega)).mono ?_
      rintro e w5 ⟨rfl, d', n, os, hp, hs, hw5⟩
      obtain ⟨ss, e1, hris, hmem, hds⟩ := sorted_names HG.out R.coll.nodup HM.out hp hs
      have hsl : d'.toList.length = ss.length := by rw [e1]; simp
      have hsl2 : xs.length = ss.length := by rw [← hsl, ← hds]; simp
      have hH5 : HoldsK encLab 2 w5 g 0 d' := by rw [hw5]; exact holdsK_sortWorldK encLab 2 wr g 0 n xs.toArray d' os hgr hH (by simpa using hds)
      have hx5 : Ext w w5 := by rw [hw5]; exact Chg.ext_of R.ext (chg_sort wr g 0 n d' os) (fun k e => by subst e; exact hgw)
      have hg5 : g < w5.heap.size := by rw [hw5]; exact Nat.lt_of_lt_of_le hgr (chg_sort wr g 0 n d' os).size
      have hn5 : ss.length ≤ 1000000 := by omega
      have hcell : ∀ i (h : i < ss.length), w5.cell? ⟨g, i * 2, none⟩ = some (.int .u64 (labOf ss[i]).1) ∧ w5.cell? ⟨g, i * 2 + 1, none⟩ = some (.int .u64 (labOf ss[i]).2) := fun i h => by
        have := holdsK_lab hH5 i (by omega)
        simpa [e1] using this
      have HC := Lib.hid hcell
      have HM2 := Lib.hid hmem
      clear hw5 hp hs hds hsl hcell hmem hH hH5 HM HD e1
      rw [hsl2]
      clear hsl2 hll
      go_wp2_with (at_make; refine wpList_make_full _ rfl _ _ 23 rfl w5.heap.size 9 i1 _ 1 Try.underlying23 hi1 hy0 hy1 .i64 .i64 _ _ ss.length rfl rfl rfl rfl (by rw [hy2]; omega) (by unfold maxLen; omega) (Nat.le_refl _) ?_; intro w6 hrow6 hg6)
      have hx6 : Ext w5 w6 := Ext.of_grown hg6
      have hf6 : StrFill w6 ss w5.heap.size 0 := StrFill.start hrow6 rfl
      go_loopw [28] (fun i wr => ∃ (k : Nat), k ≤ ss.length ∧ i = .int .i64 k ∧ StrFill wr ss w5.heap.size k ∧ Ext w5 wr) (fun i _ => ss.length - (intOf i).toNat)
      case atStart => exact ⟨0, Nat.zero_le _, rfl, hf6, hx6⟩
      case round =>
        obtain ⟨k, hk, rfl, hf, hxr⟩ := hrel
        by_cases hlt : k < ss.length
        · obtain ⟨c0, c1⟩ := HC.out k hlt
          have d0 := hxr.cell c0
          have d1 := hxr.cell c1
          have hgd : Good ss[k] := HG.out _ ((HM2.out _).1 (List.getElem_mem hlt))
          clear c0 c1
          unfold labOf at d0 d1
          go_wp2_with fail
          refine (unpack_any ss[k] _ hgd.2 hgd.1).mono ?_
          rintro e w7 ⟨rfl, hx7⟩
          have hx8 := ((Ext.refl _).alloc _).trans hx7
          have hf7 := hf.ext hx8
          obtain ⟨f0, f1⟩ := hf7.2 k hlt
          have hset := hf7.set hlt
          have hxs : Ext w5 (w7.setCell ⟨w5.heap.size, k, none⟩ (.string ss[k])) := (hxr.trans hx8).setCell (Nat.le_refl _) _
          go_wp2_with fail
          go_roundw
          case rel => exact ⟨k + 1, by omega, by go_num, hset, hxs⟩
          case measure => simp [intOf]; omega
        · have hdone := hf.done (by omega)
          have HF : Hid (Named L w (.returned (.slice (some ⟨w5.heap.size, 0, none⟩) ss.length ss.length)) wr) := Lib.hid ⟨ss, _, _, rfl, hris, HM2.out, hdone, hx5.size, Nat.le_refl _, hx5.trans hxr⟩
          go_wp2_with fail
          go_ret
          exact HF.out
    · intro p1 p2 kl y1 y2 w3 cnt3 hkey hlk hv hat hrg3 hlt hg3 hsz3 hen
      obtain ⟨q, e, wq1, wq2, rfl⟩ := key_lab_inv hkey
      obtain ⟨rfl, rfl⟩ : p1 = q.1 ∧ p2 = q.2 := by simpa [labV] using e
      have hown3 : w3.ownsRow w.heap.size 123 2 u3 xs.length (labCells xs) := ownsRow_grown R.own hg3 (fun e => R.apart e)
      have hx3 : Ext w w3 := Below.grown R.ext hg3 R.ext.size (fun k hk => by injection hk with hk; omega)
      have hC := R.coll.step wq1 wq2 hlk hat
      have hll := R.len
      have hsz4 := hx3.size
      have hlt3 : w1.heap.size < w3.heap.size := hrg3.lt
      clear hkey hv hat e hlk hsz3
      go_wp2_with (at_builtin; refine wpList_append_own_at _ rfl _ _ 125 rfl w.heap.size 123 i0 _ 2 16 Try.underlying125 hi0 hz0 hz1 hz2 rfl (by decide) _ xs.length (labCells xs) rfl ((hown3.alloc _).alloc _) ⟨w3.heap.size + 1, 0, none⟩ 1 1 (encLab q) rfl rfl ?c1 ?c2 ?c3 ?c4 ?c5 ?_)
      case c1 => exact World.news_of_block (cs := #[.int .u64 q.1, .int .u64 q.2]) (t := 123) (fr := (0, 0)) (by have := heap_alloc_new (w3.alloc (.cells #[.int .u64 q.1, .int .u64 q.2] 123)) (.cells #[.int .u64 q.1, .int .u64 q.2] 123); simpa using this)
      case c2 => intro u hu; simp [encLab] at hu; rcases hu with rfl | rfl <;> rfl
      case c3 => simp only [maxLen]; omega
      case c4 => omega
      case c5 => simp; omega
      intro v' w4 hown4 hgrow hnil hat4
      rw [← labCells_snoc] at hown4
      have hle : w3.heap.size + 1 + 1 ≤ w4.heap.size := by have := hgrow.size; simpa using this
      have hown5 : w4.ownsRow w.heap.size 123 2 v' (xs ++ [q]).length (labCells (xs ++ [q])) := by simpa using hown4
      have hv3 : ∀ k, u3.ownBlock = some k → w.heap.size ≤ k ∧ k < w3.heap.size := fun k hk => hown3.lt k hk
      have hR : Ranged w w1 w4 b L D (fun z => left z && !z.sameKey (labK q.1 q.2)) cnt3 v' (xs ++ [q]) := by
        refine ⟨((hrg3.alloc _).alloc _).kept hgrow (fun e => by have := (hv3 b e.symm).1; omega) (fun e => R.apart e.symm), hC, hown5, fun e => ?_, fun e => ?_, ?_, by simp; omega⟩
        · exact hnil e
        · rcases hat4 with h | h <;> rw [h] at e
          · exact R.apart e
          · simp at e; omega
        · exact Below.grown ((hx3.alloc _).alloc _) hgrow (by simp; omega) (fun k hk => (hv3 k hk).1)
      clear hown4 hown5 hgrow hnil hat4 hown3 hC hle hv3
      go_wp2_with fail
      go_roundw
      case rel => exact ⟨_, _, _, hR⟩
      case measure => rw [hR.rng.left_eq, R.rng.left_eq]; exact hlt
end Go.Proofs.Ytjmfjeeddnmoaaa
