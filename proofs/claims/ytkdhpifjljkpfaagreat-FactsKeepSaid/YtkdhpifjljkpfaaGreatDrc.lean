/- slices.SortFunc over facts by facts.compare: whose terms lie in blocks apart from the row. -/
import Derived.Test.YtkdhpifjljkpfaaGreatDR
import Derived.Test.YtkdhpifjljkpfaaGreatFC
import Derived.Test.YtkdhpifjljkpfaaGreatFB
import Derived.Test.YtkdhpifjljkpfaaGreatLayD
import Derived.Shelf.SlSortCmp.WholeK
import Derived.Lib.QuietBelow
namespace Go.Proofs.YtkdhpifjljkpfaaGreat
open Go.RowKit Go.Maps Go.Sort Go.Shelf Go.Lib

theorem grown_of_dx {w w' : World} (h : Dx w w') : ∃ q os', w' = grow (w.drewN q) os' := by
  obtain ⟨p, hp⟩ := regrown_of_below h.ext
  have hd : w.drawn ≤ p.d := by have := h.drawn; rw [hp] at this; exact this
  refine ⟨p.d - w.drawn, p.os, ?_⟩
  have e : redrawn w p.d = w.drewN (p.d - w.drawn) := by
    unfold redrawn World.drewN
    congr 1
    omega
  rw [hp, e]

theorem cmpF_lex (x y : Fc) : cmpF x y = lexI (cmpT x.tm y.tm) (lexI (sgn x.fr y.fr) (sgn x.til y.til)) := rfl
theorem cmpF_neg (x y : Fc) : cmpF x y = - cmpF y x := by
  rw [cmpF_lex, cmpF_lex]
  exact lexI_neg (cmpT_neg _ _) (lexI_neg (sgn_neg _ _) (sgn_neg _ _))
theorem cmpF_tri (x y z : Fc) : Tri (cmpF x y) (cmpF y z) (cmpF x z) := by
  rw [cmpF_lex, cmpF_lex, cmpF_lex]
  exact (Tri.cmpT_of x.tm.high _ _ _ (Nat.le_refl _)).lex fun _ _ _ => (Tri.sgn _ _ _).lex fun _ _ _ => Tri.sgn _ _ _

/-- a fact laid in w, its term's blocks (they are named beside it) all others than g -/
def FOk (w : World) (g : Nat) (z : FLain × (Nat → Prop)) : Prop := (TmOwn w z.1.1.tm z.1.2.1 z.1.2.2 z.2 ∧ ∀ b, z.2 b → b ≠ g) ∧ May z.1.1
abbrev FS (w : World) (g : Nat) := {z : FLain × (Nat → Prop) // FOk w g z}
def fc0 : Fc := ⟨⟨3, ⟨#[97]⟩, 0, []⟩, 0, 0⟩
theorem may0 : May fc0 := fm_may (by decide +kernel)
theorem fok0 (w : World) (g : Nat) : FOk w g ((fc0, none, 0), fun _ => False) :=
  ⟨⟨.mk _ _ _ _ (fun _ => none) (fun _ => 0) (fun _ _ => False) ⟨by decide, by decide, by decide, by decide⟩ (Nat.le_refl _)
    ⟨fun i hi => absurd hi (by simp [fc0]), fun b o e => (by cases e), fun i hi => absurd hi (by simp [fc0]), fun i j hi => absurd hi (by simp [fc0])⟩ (fun i hi => absurd hi (by simp [fc0])), fun _ h => h.elim⟩, may0⟩
instance {w : World} {g : Nat} : Inhabited (FS w g) := ⟨⟨_, fok0 w g⟩⟩
def fsCf {w : World} {g : Nat} (x y : FS w g) : Int := cmpF x.1.1.1 y.1.1.1
def fsEnc {w : World} {g : Nat} (x : FS w g) : List Value := x.1.1.cells
theorem swoFs (w : World) (g : Nat) : SWO (ltOf (fsCf (w := w) (g := g))) where
  irrefl x := by
    unfold ltOf fsCf
    have := cmpF_neg x.1.1.1 x.1.1.1
    exact decide_eq_false (by omega)
  trans x y z h1 h2 := by
    unfold ltOf fsCf at *
    simp only [decide_eq_true_eq] at *
    obtain ⟨a, b⟩ := cmpF_tri x.1.1.1 y.1.1.1 z.1.1.1 (by omega) (by omega)
    by_cases e : cmpF x.1.1.1 z.1.1.1 = 0
    · have := (b e).1; omega
    · omega
  ntrans x y z h1 h2 := by
    unfold ltOf fsCf at *
    simp only [decide_eq_false_iff_not] at *
    have f1 := cmpF_neg x.1.1.1 y.1.1.1
    have f2 := cmpF_neg y.1.1.1 z.1.1.1
    have f3 := cmpF_neg x.1.1.1 z.1.1.1
    obtain ⟨a, _⟩ := cmpF_tri z.1.1.1 y.1.1.1 x.1.1.1 (by omega) (by omega)
    omega

theorem chg_sortF {w0 : World} {g0 : Nat} (w : World) (blk off n : Nat) (d : Array (FS w0 g0)) (os : Array Obj) : Chg (· = blk) w (sortWorldK fsEnc 6 w blk off n d os) := by
  refine ⟨rfl, rfl, rfl, ?_, fun k hk hne => ?_⟩
  · simp [sortWorldK, grow, putRowK, putRow, mapBlock, Sort.ahead]
  · unfold sortWorldK putRowK putRow
    rw [heap_grow_old _ _ (by simpa [mapBlock, Sort.ahead] using hk)]
    simp only [mapBlock, Sort.ahead, Array.getElem?_modify]
    rw [if_neg (fun e => hne e.symm)]
theorem holds_fs {w0 w : World} {base : Nat} {g0 g c n : Nat} {xs : List (FS w0 g0)} (h : w.ownsRow base 44 6 (.slice (some ⟨g, 0, none⟩) n c) n (Frow (xs.map (·.1.1)))) (hn : n = xs.length) : HoldsK fsEnc 6 w g 0 xs.toArray := by
  subst hn
  intro t ht
  have ht' : t < xs.length * 6 := by simpa using ht
  have hd : t / 6 < xs.length := by omega
  rw [get_flatK _ _ _ _ (by simpa using ht'), Nat.zero_add, h.cellAt t (by omega)]
  refine ⟨?_, h.frozenAt t⟩
  have e := Frow_at (xs.map (·.1.1)) (t / 6) (t % 6) (by simpa using hd) (by omega)
  rw [show t / 6 * 6 + t % 6 = t by omega] at e
  rw [e, getElem!_pos xs.toArray (t / 6) (by simpa using hd)]
  have hl : t % 6 < (fsEnc xs[t / 6]).length := by simp [fsEnc, FLain.cells]; omega
  simp only [List.getElem_toArray, id, List.getElem_map]
  show (fsEnc xs[t / 6])[t % 6]? = _
  rw [List.getElem?_eq_getElem hl, getElem!_pos (fsEnc xs[t / 6]) (t % 6) hl]
theorem holdsK_fs {w0 w : World} {g0 g : Nat} {d : Array (FS w0 g0)} (h : HoldsK fsEnc 6 w g 0 d) (i : Nat) (hi : i < d.toList.length) (j : Nat) (hj : j < 6) :
    w.cell? ⟨g, 0 + i * 6 + j, none⟩ = (fsEnc d.toList[i])[j]? := by
  have hi' : i < d.size := by simpa using hi
  have e : d[i]! = d.toList[i] := by rw [getElem!_pos d i hi']; simp
  have h0 := (h (i * 6 + j) (by simp; omega)).1
  rw [get_flatK _ _ _ _ (by omega), show (i * 6 + j) / 6 = i by omega, show (i * 6 + j) % 6 = j by omega, e, Nat.zero_add] at h0
  rw [show 0 + i * 6 + j = i * 6 + j by omega, h0]
  have hl : j < (fsEnc d.toList[i]).length := by simp [fsEnc, FLain.cells]; omega
  rw [List.getElem?_eq_getElem hl, getElem!_pos (fsEnc d.toList[i]) j hl]
  rfl

theorem enterCmp : ∀ args w, (callFunc 32 args).run Tryz.prog w = .ok (.enter 32 args) w := enters_of Tryz.func32 (by kernel_rfl) rfl
theorem cmp_fs (w : World) (g : Nat) (W : World) (hC : Chg (· = g) w W) (x y : FS w g) :
    Calls Tryz.prog 32 #[.agg (fsEnc x).toArray, .agg (fsEnc y).toArray] W fun e w' => e = .returned (.int .i64 (fsCf x y)) ∧ ∃ q os', w' = grow (W.drewN q) os' := by
  obtain ⟨⟨⟨x, A, c⟩, G⟩, ⟨hO, hg⟩, hm⟩ := x
  obtain ⟨⟨⟨y, B, d⟩, G2⟩, ⟨hO2, hg2⟩, hm2⟩ := y
  have h1 := (hO.chg hC (fun b hb e => hg b hb e)).at_
  have h2 := (hO2.chg hC (fun b hb e => hg2 b hb e)).at_
  exact (compare_anyD x y A B c d W h1 h2 hm.may hm2.may).mono fun e w' ⟨he, hx⟩ => ⟨he, grown_of_dx hx⟩
set_option maxHeartbeats 1000000 in
theorem sortF_any (g c : Nat) (w : World) (xs : List (FS w g)) (hH : HoldsK fsEnc 6 w g 0 xs.toArray) (hg : g < w.heap.size) (hn : xs.length ≤ 1000000) :
    Calls Tryz.prog 31 #[.slice (some ⟨g, 0, none⟩) xs.length c, .func (.func 32) #[] #[]] w fun e w' =>
      e = .returned (.tuple #[]) ∧ ∃ d' n os, PermIn 0 xs.toArray.size xs.toArray d' ∧ SortedIn (ltOf fsCf) 0 xs.toArray.size d' ∧ w' = sortWorldK fsEnc 6 w g 0 n d' os := by
  have h := AnyQ.slices_SortFunc sortFa 6 Tryz.isAgg44 Tryz.sizeOf44 fsEnc (fun _ => rfl) (fun x v hv => FLain.one x.1.1 v hv) fsCf (swoFs w g) 32 #[] g 0 c xs.toArray w enterCmp (fun m os dk _ x y => cmp_fs w g _ (chg_sortF w g 0 m dk os) x y) hH hg (by simp; omega)
  exact h
theorem fs_list {w : World} {g : Nat} {zs : List (FLain × (Nat → Prop))} (h : ∀ z ∈ zs, FOk w g z) : ∃ xs : List (FS w g), xs.map (·.1) = zs :=
  ⟨zs.pmap Subtype.mk h, by simp [List.map_pmap]⟩

/-- by rising order -/
def RisF (us : List Fc) : Prop := ∀ i j (hj : j < us.length) (h : i < j), cmpF (us[i]'(Nat.lt_trans h hj)) us[j] < 0
theorem sorted_fs {w : World} {g : Nat} {xs : List (FS w g)} {L : List Fc} {d' : Array (FS w g)} (hL : xs.map (·.1.1.1) = L) (hnd : L.Pairwise (fun x y => x ≠ y)) (hp : PermIn 0 xs.toArray.size xs.toArray d') (hs : SortedIn (ltOf fsCf) 0 xs.toArray.size d') :
    RisF (d'.toList.map (·.1.1.1)) ∧ (d'.toList.map (·.1.1.1)).Perm L ∧ d'.toList.Perm xs := by
  obtain ⟨h1, _, h3⟩ := hp
  have hsz : d'.size = xs.length := by simpa using h1
  have perm : d'.toList.Perm xs := by
    rw [← h1] at h3
    have e1 : d'.extract 0 d'.size = d' := by simp
    have e2 : xs.toArray.extract 0 d'.size = xs.toArray := by rw [h1]; simp
    rw [e1, e2] at h3
    exact h3
  have pm := perm.map (fun x : FS w g => x.1.1.1)
  rw [hL] at pm
  refine ⟨?_, pm, perm⟩
  have hnd' : (d'.toList.map (fun x : FS w g => x.1.1.1)).Pairwise (fun x y => x ≠ y) := (pm.pairwise_iff (fun h => Ne.symm h)).2 hnd
  intro i j hj hij
  have hi : i < (d'.toList.map (fun x : FS w g => x.1.1.1)).length := by omega
  have hjd : j < d'.toList.length := by simpa using hj
  have hid : i < d'.toList.length := by omega
  have h2 := hs i j (Nat.zero_le _) hij (by simp at hjd ⊢; omega)
  have gi : d'[i]! = d'.toList[i] := by rw [getElem!_pos d' i (by simpa using hid)]; simp
  have gj : d'[j]! = d'.toList[j] := by rw [getElem!_pos d' j (by simpa using hjd)]; simp
  rw [gi, gj] at h2
  have hne := (List.pairwise_iff_getElem.1 hnd') i j hi hj hij
  simp only [List.getElem_map] at hne ⊢
  unfold ltOf fsCf at h2
  simp only [decide_eq_false_iff_not] at h2
  have hz := cmpF_zero d'.toList[i].2.2 d'.toList[j].2.2
  have hf := cmpF_neg d'.toList[i].1.1.1 d'.toList[j].1.1.1
  have hq : cmpF d'.toList[i].1.1.1 d'.toList[j].1.1.1 ≠ 0 := fun e => by
    rw [e] at hz
    exact hne ((eqF_iff _ _).1 hz.symm)
  omega
end Go.Proofs.YtkdhpifjljkpfaaGreat
