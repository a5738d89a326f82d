/- bind.merged: what it tells; what its loops keep. -/
import Derived.Test.YthmpolifgngdiaaCpb
import Derived.Test.YthmpolifgngdiaaME
namespace Go.Proofs.Ythmpolifgngdiaa
open Go.RowKit

/-- one bind ahead of the others, and what is merged with those behind it -/
def mergeIn (x : Bd) (xs : List Bd) (rest : List Bd → Option (List Bd)) : List Bd → Option (List Bd)
  | [] => some (x :: xs)
  | y :: ys => if cmpS x.name y.name = -1 then (rest (y :: ys)).map (x :: ·) else if cmpS x.name y.name = 1 then (mergeIn x xs rest ys).map (y :: ·) else if cmpT x.tm y.tm = 0 then (rest ys).map (x :: ·) else none
/-- both together; none: one name stands for two terms -/
def mergeL : List Bd → List Bd → Option (List Bd)
  | [], ys => some ys
  | x :: xs, ys => mergeIn x xs (mergeL xs) ys
theorem mergeL_nil (xs : List Bd) : mergeL xs [] = some xs := by cases xs <;> rfl
theorem mergeL_cons (x : Bd) (xs : List Bd) (y : Bd) (ys : List Bd) : mergeL (x :: xs) (y :: ys) =
    if cmpS x.name y.name = -1 then (mergeL xs (y :: ys)).map (x :: ·) else if cmpS x.name y.name = 1 then (mergeL (x :: xs) ys).map (y :: ·) else if cmpT x.tm y.tm = 0 then (mergeL xs ys).map (x :: ·) else none := by
  rw [mergeL, mergeIn]; rfl

/-- binds collected so far, in memory of the call's own -/
structure MgAt (W wr : World) (v : Value) (zs : List BLain) (G : Nat → Nat → Prop) : Prop where
  own : wr.ownsRow W.heap.size 67 5 v zs.length (browCells zs)
  inv : CopyInv W wr v (zs.map BLain.tl) G
  names : ∀ z ∈ zs, z.1.name.size ≤ 140737488351232
def MgS (W wr : World) (v : Value) (us : List Bd) : Prop := ∃ zs G, zs.map (·.1) = us ∧ MgAt W wr v zs G
theorem MgAt.ext {W wr w' : World} {v : Value} {zs : List BLain} {G : Nat → Nat → Prop} (h : MgAt W wr v zs G) (k : Ext wr w') : MgAt W w' v zs G := ⟨ownsRow_ext h.own k, h.inv.ext' k, h.names⟩
theorem MgS.ext {W wr w' : World} {v : Value} {us : List Bd} (h : MgS W wr v us) (k : Ext wr w') : MgS W w' v us := by
  obtain ⟨zs, G, e, hM⟩ := h
  exact ⟨zs, G, e, hM.ext k⟩
theorem MgAt.step {W wr w1 w4 : World} {v v' : Value} {zs : List BLain} {G : Nat → Nat → Prop} (h : MgAt W wr v zs G) {x : Bd} {A : Option Addr} {c : Nat} (hn : x.name.size ≤ 140737488351232) {o : Obj}
    (hO : TmOwn w1 x.tm A c (fun k => wr.heap.size ≤ k ∧ k < w1.heap.size)) (hx : Ext wr w1) (hown : w4.ownsRow W.heap.size 67 5 v' (zs.length + 1) (browCells zs ++ BLain.cells (x, A, c))) (hg : (w1.alloc o).grownBy w4 v.ownBlock)
    (hat : v'.ownBlock = v.ownBlock ∨ v'.ownBlock = some (w1.alloc o).heap.size) : MgS W w4 v' (zs.map (·.1) ++ [x]) := by
  have hst := h.inv.step (y := BLain.tl (x, A, c)) (o := o) (v' := v') hO hx hg (fun b hb => h.own.lt b hb) (by simpa using hat)
  rw [← browCells_one (x, A, c), ← browCells_app] at hown
  refine ⟨zs ++ [(x, A, c)], _, by simp, by simpa using hown, by rw [List.map_append]; exact hst, fun z hz => ?_⟩
  rcases List.mem_append.1 hz with hz | hz
  · exact h.names z hz
  · obtain rfl := List.mem_singleton.1 hz
    exact hn
/-- what has been collected in the end -/
theorem MgS.done {W w : World} {v : Value} {us : List Bd} (h : MgS W w v us) : ∃ A c B d G, v = .slice A us.length c ∧ us.length ≤ c ∧ BdsOwn w us A (fun k => W.heap.size ≤ k ∧ k < w.heap.size) B d G := by
  obtain ⟨zs, G, rfl, hM⟩ := h
  have hl : (zs.map (·.1)).length = zs.length := List.length_map ..
  rcases hM.own.2 with ⟨rfl, h0⟩ | ⟨g, cap, cur, rfl, hgb, hg, hc, _⟩
  · have e : zs = [] := List.eq_nil_of_length_eq_zero h0
    subst e
    exact ⟨none, 0, fun _ => none, fun _ => 0, G, rfl, Nat.le_refl _, ⟨fun i hi => absurd hi (by simp), fun i hi => absurd hi (by simp), (fun b o e => by cases e), fun i hi => absurd hi (by simp), fun i j hi => absurd hi (by simp)⟩⟩
  · refine ⟨some ⟨g, 0, none⟩, cap, fun i => (zs[i]?.map (·.2.1)).getD none, fun i => (zs[i]?.map (·.2.2)).getD 0, G, by rw [hl], by rw [hl]; exact hc, ?_⟩
    have hlt := hM.own.lt g rfl
    refine ⟨fun i hi => ?_, fun i hi => ?_, fun b o e hp => ?_, fun i hi k hk => ?_, fun i j hi hj => hM.inv.apart i j (by simpa using hi) (by simpa using hj)⟩
    · rw [hl] at hi
      have cell : ∀ j, j < 5 → w.cell? ⟨g, 0 + i * 5 + j, none⟩ = zs[i].cells[j]? := fun j hj => by
        rw [show 0 + i * 5 + j = i * 5 + j by omega, hM.own.cellAt (i * 5 + j) (by omega), browCells_at zs i j (by omega) hj]
      refine ⟨g, 0, rfl, ?_, ?_, ?_, ?_, ?_, ?_⟩
      · have := cell 0 (by omega); simpa [BLain.cells] using this
      · have := cell 1 (by omega); simpa [BLain.cells] using this
      · have := cell 2 (by omega); simpa [BLain.cells] using this
      · have := cell 3 (by omega); simpa [BLain.cells] using this
      · have := cell 4 (by omega); simpa [BLain.cells, hi] using this
      · simpa using hM.names _ (List.getElem_mem hi)
    · rw [hl] at hi
      have := hM.inv.sub i (by simpa using hi)
      simp only [List.getElem_map, BLain.tl] at this
      simpa [hi] using this
    · injection e with e
      injection e with e1 e2
      subst e1 e2
      exact ⟨hlt, fun i hi hb => (hM.inv.inF i (by simpa using hi) g hb).2.2 rfl, fun j hj => by rw [Nat.zero_add]; exact hM.own.frozenAt j⟩
    · have := hM.inv.inF i (by simpa using hi) k hk
      exact ⟨this.1, this.2.1⟩

theorem bds_drop1 {w : World} {x : Bd} {r : List Bd} {A : Option Addr} {cap : Nat} (h : BdsAt w (x :: r) A) (hc : r.length + 1 ≤ cap) : BdsAt w r (cutA A cap 1 5) := by
  intro i hi
  obtain ⟨b, o, B, e, rfl, c0, c1, c2, c3, c4, hT, hn⟩ := h (i + 1) (by simpa using hi)
  simp only [List.getElem_cons_succ] at c0 c1 c2 c3 c4 hT hn
  refine ⟨b, o + 5, B, e, ?_, ?_, ?_, ?_, ?_, ?_, hT, hn⟩
  · unfold cutA
    rw [if_neg (by omega)]
    simp [add_addr]
  · rw [← c0]; congr 2; omega
  · rw [← c1]; congr 2; omega
  · rw [← c2]; congr 2; omega
  · rw [← c3]; congr 2; omega
  · rw [← c4]; congr 2; omega
end Go.Proofs.Ythmpolifgngdiaa
