/- bind.merged: the walk. -/
import Derived.Test.YthmpolifgngdiaaMrg
namespace Go.Proofs.Ythmpolifgngdiaa
open Go.RowKit

/-- merged: the binds, or none -/
def MgdOut (aa bb : List Bd) (w : World) (e : Ending) (w' : World) : Prop :=
  Ext w w' ∧ ((mergeL aa bb = none ∧ e = .returned (.tuple #[.slice none 0 0, .bool false])) ∨
    ∃ us A c B d G, mergeL aa bb = some us ∧ e = .returned (.tuple #[.slice A us.length c, .bool true]) ∧ us.length ≤ c ∧ us.length ≤ aa.length + bb.length ∧ BdsOwn w' us A (fun k => w.heap.size ≤ k ∧ k < w'.heap.size) B d G)

theorem compare_ext (a b : ByteArray) (w : World) : Calls Try.prog 44 #[.string a, .string b] w fun e w' => e = .returned (.int .i64 (cmpS a b)) ∧ Ext w w' :=
  (compare_str a b w).mono fun _ _ ⟨he, h⟩ => ⟨he, h ▸ Ext.refl _⟩
theorem compare_is {a b : ByteArray} {k : Int} (hk : cmpS a b = k) (w : World) : Calls Try.prog 44 #[.string a, .string b] w fun e w' => e = .returned (.int .i64 k) ∧ Ext w w' := hk ▸ compare_ext a b w

theorem copy_in {x : Bd} {A : Option Addr} {c : Nat} {wr : World} (ha : allP x.tm) (h : TmAt wr x.tm A c) (u : World) (hu : Ext wr u) :
    Calls Try.prog 45 #[x.val A c] u fun e w' => ∃ A' c', e = .returned (x.val A' c') ∧ Hid (TmOwn w' x.tm A' c' (fun k => wr.heap.size ≤ k ∧ k < w'.heap.size)) ∧ Ext wr w' :=
  (copiedBind_any x A c u ha (h.ext hu)).mono fun _ _ ⟨A', c', he, hO, hx⟩ => ⟨A', c', he, Lib.hid (hO.weak fun _ hk => ⟨Nat.le_trans hu.size hk.1, hk.2⟩), hu.trans hx⟩

/-- the first loop's state -/
structure MgLoop (aa bb : List Bd) (w wr : World) (s0 s1 s6 : Value) (xs ys us : List Bd) : Prop where
  at0 : ∃ A c, s0 = .slice A xs.length c ∧ xs.length ≤ c ∧ BdsAt w xs A
  at1 : ∃ B c, s1 = .slice B ys.length c ∧ ys.length ≤ c ∧ BdsAt w ys B
  got : MgS w wr s6 us
  val : (mergeL xs ys).map (us ++ ·) = mergeL aa bb
  num : us.length + xs.length + ys.length ≤ aa.length + bb.length
  mayA : AllB xs ∧ ∀ i (h : i < xs.length), mayB xs[i].tm = true
  mayC : AllB ys ∧ ∀ i (h : i < ys.length), mayB ys[i].tm = true

theorem allTail {x : Bd} {xs : List Bd} (h : AllB (x :: xs) ∧ ∀ i (h : i < (x :: xs).length), mayB (x :: xs)[i].tm = true) : AllB xs ∧ ∀ i (h : i < xs.length), mayB xs[i].tm = true :=
  ⟨fun i hi => by have := h.1 (i + 1) (by simpa using hi); simpa using this, fun i hi => by have := h.2 (i + 1) (by simpa using hi); simpa using this⟩
theorem map_app {m : Option (List Bd)} (us : List Bd) (x : Bd) : (m.map (x :: ·)).map (us ++ ·) = m.map ((us ++ [x]) ++ ·) := by cases m <;> simp
section
variable {aa bb : List Bd} {w wr w' : World} {s0 s1 s6 s0' s1' s6' : Value} {x y : Bd} {xs ys us : List Bd}
theorem MgLoop.goA (h : MgLoop aa bb w wr s0 s1 s6 (x :: xs) ys us) (hv : mergeL (x :: xs) ys = (mergeL xs ys).map (x :: ·)) (hg : MgS w w' s6' (us ++ [x])) (h0 : ∃ A c, s0' = .slice A xs.length c ∧ xs.length ≤ c ∧ BdsAt w xs A) : MgLoop aa bb w w' s0' s1 s6' xs ys (us ++ [x]) :=
  ⟨h0, h.at1, hg, by rw [← h.val, hv, map_app], by have := h.num; simp only [List.length_append, List.length_cons, List.length_nil] at *; omega, allTail h.mayA, h.mayC⟩
theorem MgLoop.goB (h : MgLoop aa bb w wr s0 s1 s6 xs (y :: ys) us) (hv : mergeL xs (y :: ys) = (mergeL xs ys).map (y :: ·)) (hg : MgS w w' s6' (us ++ [y])) (h1 : ∃ A c, s1' = .slice A ys.length c ∧ ys.length ≤ c ∧ BdsAt w ys A) : MgLoop aa bb w w' s0 s1' s6' xs ys (us ++ [y]) :=
  ⟨h.at0, h1, hg, by rw [← h.val, hv, map_app], by have := h.num; simp only [List.length_append, List.length_cons, List.length_nil] at *; omega, h.mayA, allTail h.mayC⟩
theorem MgLoop.goC (h : MgLoop aa bb w wr s0 s1 s6 (x :: xs) (y :: ys) us) (hv : mergeL (x :: xs) (y :: ys) = (mergeL xs ys).map (x :: ·)) (hg : MgS w w' s6' (us ++ [x])) (h0 : ∃ A c, s0' = .slice A xs.length c ∧ xs.length ≤ c ∧ BdsAt w xs A) (h1 : ∃ A c, s1' = .slice A ys.length c ∧ ys.length ≤ c ∧ BdsAt w ys A) : MgLoop aa bb w w' s0' s1' s6' xs ys (us ++ [x]) :=
  ⟨h0, h1, hg, by rw [← h.val, hv, map_app], by have := h.num; simp only [List.length_append, List.length_cons, List.length_nil] at *; omega, allTail h.mayA, allTail h.mayC⟩
end
theorem MgS.ext_ {W wr : World} {v : Value} {us : List Bd} (h : MgS W wr v us) : Ext W wr := by
  obtain ⟨zs, G, _, hM⟩ := h
  exact hM.inv.ext
/-- what has been laid between lo and w4's end is as it was, and none of it is v's -/
def Far (w4 wq : World) (lo : Nat) (v : Value) : Prop := w4.heap.size ≤ wq.heap.size ∧ ∀ b, lo ≤ b → b < w4.heap.size → v.ownBlock ≠ some b ∧ wq.heap[b]? = w4.heap[b]?
/-- what the step of a merge does to a slice that is cut -/
theorem cutRule {A : Option Addr} {n cap : Nat} (u : World) : (Instr.slice 44 (.slice A (n + 1) cap) (some (.int .i64 1)) none none).run Try.prog u = .ok (.slice (cutA A cap 1 5) n (cap - 1)) u := by
  have := run_from (P := Try.prog) Try.underlying44 Try.sizeOf67 u A (n + 1) cap 1 (by omega)
  simpa using this

set_option maxRecDepth 100000 in
set_option maxHeartbeats 8000000 in
theorem merged_any (aa bb : List Bd) (A B : Option Addr) (ca cb : Nat) (w : World) (hA : BdsAt w aa A) (hB : BdsAt w bb B) (hca : aa.length ≤ ca) (hcb : bb.length ≤ cb) (hla : aa.length ≤ 100) (hlb : bb.length ≤ 100) (ma : ∀ i (h : i < aa.length), mayB aa[i].tm = true) (mb : ∀ i (h : i < bb.length), mayB bb[i].tm = true) :
    Calls Try.prog 40 #[.slice A aa.length ca, .slice B bb.length cb] w (MgdOut aa bb w) := by
  obtain ⟨i0', hi0, hz0, hz1, hz2⟩ := info_parts infoBd
  have hmk : ∀ u : World, (Instr.makeSlice 44 (.int .i64 0) (.int .i64 ((aa.length : Int) + bb.length))).run Try.prog u =
      .ok (.slice (some ⟨u.heap.size, 0, none⟩) 0 (aa.length + bb.length)) (u.alloc (.cells (madeCells #[.string ⟨#[]⟩, .int .i64 0, .string ⟨#[]⟩, .int .i64 0, .slice none 0 0] ((aa.length + bb.length) * 5)) 67)) := fun u => by
    have h := run_make (P := Try.prog) u 44 67 i0' _ Try.underlying44 hi0 hz0 .i64 .i64 0 ((aa.length : Int) + bb.length) (by omega) (by omega) (by rw [hz2]; omega) (by omega)
    rw [show ((aa.length : Int) + bb.length).toNat = aa.length + bb.length by omega] at h
    simp only [Int.toNat_zero, hz1] at h
    exact h
  have L0 : Hid (MgLoop aa bb w (w.alloc (.cells (madeCells #[.string ⟨#[]⟩, .int .i64 0, .string ⟨#[]⟩, .int .i64 0, .slice none 0 0] ((aa.length + bb.length) * 5)) 67)) (.slice A aa.length ca) (.slice B bb.length cb) (.slice (some ⟨w.heap.size, 0, none⟩) 0 (aa.length + bb.length)) aa bb []) :=
    Lib.hid ⟨⟨A, ca, rfl, hca, hA⟩, ⟨B, cb, rfl, hcb, hB⟩, ⟨[], fun _ _ => False, rfl, World.ownsRow_made w _ _ (Nat.le_refl _) (by unfold maxLen; omega) (size_madeCells _ _), ⟨fun i hi => absurd hi (by simp), fun i hi => absurd hi (by simp), fun i j hi => absurd hi (by simp), (Ext.refl _).alloc _⟩, fun z hz => absurd hz (by simp)⟩,
      by cases mergeL aa bb <;> simp, by simp, ⟨fun i hi => may_all (ma i hi), ma⟩, ⟨fun i hi => may_all (mb i hi), mb⟩⟩
  clear hA hB ma mb
  go_enter Try.func40, Try.ntmps40
  go_wp2_with fail
  clear hmk
  go_loopg [0, 1, 6] (aa.length + bb.length) (fun kx s0 s1 s6 wr => ∃ xs ys us, Hid (MgLoop aa bb w wr s0 s1 s6 xs ys us) ∧ xs.length + ys.length ≤ kx)
  case atStart => exact ⟨aa, bb, [], L0, Nat.le_refl _⟩
  case round =>
    obtain ⟨xs, ys, us, HL, hk⟩ := hrel
    clear L0
    obtain ⟨A', ca', rfl, hca', hA'⟩ := HL.out.at0
    obtain ⟨B', cb', rfl, hcb', hB'⟩ := HL.out.at1
    have hxr : Ext w wr := HL.out.got.ext_
    by_cases hend : 0 < xs.length ∧ 0 < ys.length
    · cases xs with
      | nil => exact absurd hend.1 (by simp)
      | cons x xs' =>
      cases ys with
      | nil => exact absurd hend.2 (by simp)
      | cons y ys' =>
        clear hend
        obtain ⟨b, o, Bx, ex, rfl, c0, c1, c2, c3, c4, hTx, hnx⟩ := hA' 0 (by simp)
        obtain ⟨b2, o2, By, ey, rfl, d0, d1, d2, d3, d4, hTy, hny⟩ := hB' 0 (by simp)
        simp only [Nat.zero_mul, Nat.add_zero, List.getElem_cons_zero, List.length_cons] at c0 c1 c2 c3 c4 hTx hnx d0 d1 d2 d3 d4 hTy hny hca' hcb' hk
        have HA2 := Lib.hid (bds_drop1 hA' hca')
        have HB2 := Lib.hid (bds_drop1 hB' hcb')
        have hax : allP x.tm := HL.out.mayA.1 0 (by simp)
        have hay : allP y.tm := HL.out.mayC.1 0 (by simp)
        have HX := Lib.hid hax
        have HY := Lib.hid hay
        obtain ⟨A2, hA2⟩ : ∃ A2, A2 = cutA (some ⟨b, o, none⟩) ca' 1 5 := ⟨_, rfl⟩
        obtain ⟨B2, hB2⟩ : ∃ B2, B2 = cutA (some ⟨b2, o2, none⟩) cb' 1 5 := ⟨_, rfl⟩
        rw [← hA2] at HA2
        rw [← hB2] at HB2
        have r1 := fun (u : World) => (cutRule (A := some ⟨b, o, none⟩) (n := xs'.length) (cap := ca') u).trans (congrArg (fun A => Result.ok (Value.slice A xs'.length (ca' - 1)) u) hA2.symm)
        have r2 := fun (u : World) => (cutRule (A := some ⟨b2, o2, none⟩) (n := ys'.length) (cap := cb') u).trans (congrArg (fun A => Result.ok (Value.slice A ys'.length (cb' - 1)) u) hB2.symm)
        clear hA2 hB2 hA' hB' hax hay
        have N0 : ∀ p : ExtOf wr, p.to.cell? ⟨b, o, none⟩ = some (.string x.name) := ext_cell (hxr.cell c0)
        have N1 : ∀ p : ExtOf wr, p.to.cell? ⟨b2, o2, none⟩ = some (.string y.name) := ext_cell (hxr.cell d0)
        have hbd := cmpS_bd x.name y.name
        have hcases : cmpS x.name y.name = -1 ∨ cmpS x.name y.name = 1 ∨ cmpS x.name y.name = 0 := by omega
        clear hbd
        go_wp2_with fail
        rcases hcases with hc | hc | hc
        · have HC := Lib.hid hc
          clear hc
          refine wp_region_ext (by kernel_rfl) (by kernel_rfl) ?_
          repeat (go_big_quiet_step ((go_at_call 44; exact of_ext (compare_is HC.out _))))
          refine wpQuiet_nil ?_
          refine ext_all ?_
          intro w2 hx2
          have hxw2 := hxr.trans hx2
          obtain ⟨zs, G, hzs, hM⟩ := HL.out.got.ext hx2
          have hown := hM.own
          have HM := Lib.hid hM
          have HZ := Lib.hid hzs
          have hzl : zs.length ≤ 200 := by have := HL.out.num; have : zs.length = us.length := by rw [← hzs, List.length_map]
                                           omega
          have hsz := hxw2.size
          have rulesI := fun (u : World) (k : Ext w u) => And.intro (k.cell c0) (And.intro (k.cell c1) (And.intro (k.cell c2) (And.intro (k.cell c3) (k.cell c4))))
          have CBp := Lib.hid (fun u hu => copy_in (wr := w2) HX.out (hTx.ext hxw2) u hu)
          clear N0 N1 hzs hM
          go_wp2_with fail
          go_region_held3 (fun u => Ext w u) (first | assumption | exact hxw2.drew | exact Ext.alloc hS5 _)
            (first
              | (go_at_call 45; refine (CBp.out _ (Ext.refl _).drew).mono ?_; rintro e5 w5 ⟨A5, c5, rfl, hO5, hx5⟩; have hS5 := hxw2.trans hx5; have hown5 := ownsRow_ext hown hx5)
              | (refine step_app _ (by rfl) _ _ 44 (by rfl) w.heap.size 67 i0' _ 5 72 Try.underlying44 hi0 hz0 hz1 hz2 rfl (by decide) _ zs.length (browCells zs) (by rfl) (hown5.alloc _) (some ⟨w5.heap.size, 0, none⟩) 1 1 (BLain.cells (x, A5, c5)) (by rfl) (Src.box w5 #[.string x.name, .int .i64 x.tm.kind, .string x.tm.name, .int .i64 x.tm.n, .slice A5 x.tm.args.length c5] 67 5 rfl) (BLain.one _) (by simp only [maxLen]; omega) (by omega) (hS5.alloc _).size ?_; intro v7 w7 ho7 hg7 hat7; have hS7 : Ext w w7 := (hS5.alloc _).own (hown5.alloc _) (Nat.le_refl _) hg7; have HS7 := Lib.hid (HM.out.step hnx hO5.out hx5 ho7 hg7 hat7); clear ho7 hg7 hat7))
          go_wp2_with fail
          have HG := Lib.hid (show MgS w w7 v7 (us ++ [x]) by rw [← HZ.out]; exact HS7.out)
          go_roundg (xs'.length + (ys'.length + 1))
          case measure => omega
          case rel => exact ⟨xs', y :: ys', us ++ [x], Lib.hid (HL.out.goA (by rw [mergeL_cons, if_pos HC.out]) HG.out ⟨A2, ca' - 1, rfl, by omega, HA2.out⟩), by simp⟩
        · have HC := Lib.hid hc
          clear hc
          refine wp_region_ext (by kernel_rfl) (by kernel_rfl) ?_
          repeat (go_big_quiet_step ((go_at_call 44; exact of_ext (compare_is HC.out _))))
          refine wpQuiet_nil ?_
          refine ext_all ?_
          intro w2 hx2
          have hxw2 := hxr.trans hx2
          obtain ⟨zs, G, hzs, hM⟩ := HL.out.got.ext hx2
          have hown := hM.own
          have HM := Lib.hid hM
          have HZ := Lib.hid hzs
          have hzl : zs.length ≤ 200 := by have := HL.out.num; have : zs.length = us.length := by rw [← hzs, List.length_map]
                                           omega
          have hsz := hxw2.size
          have rulesI := fun (u : World) (k : Ext w u) => And.intro (k.cell d0) (And.intro (k.cell d1) (And.intro (k.cell d2) (And.intro (k.cell d3) (k.cell d4))))
          have CBp := Lib.hid (fun u hu => copy_in (wr := w2) HY.out (hTy.ext hxw2) u hu)
          clear N0 N1 hzs hM
          go_wp2_with fail
          go_region_held3 (fun u => Ext w u) (first | assumption | exact hxw2.drew | exact Ext.alloc hS5 _)
            (first
              | (go_at_call 45; refine (CBp.out _ (Ext.refl _).drew).mono ?_; rintro e5 w5 ⟨A5, c5, rfl, hO5, hx5⟩; have hS5 := hxw2.trans hx5; have hown5 := ownsRow_ext hown hx5)
              | (refine step_app _ (by rfl) _ _ 44 (by rfl) w.heap.size 67 i0' _ 5 72 Try.underlying44 hi0 hz0 hz1 hz2 rfl (by decide) _ zs.length (browCells zs) (by rfl) (hown5.alloc _) (some ⟨w5.heap.size, 0, none⟩) 1 1 (BLain.cells (y, A5, c5)) (by rfl) (Src.box w5 #[.string y.name, .int .i64 y.tm.kind, .string y.tm.name, .int .i64 y.tm.n, .slice A5 y.tm.args.length c5] 67 5 rfl) (BLain.one _) (by simp only [maxLen]; omega) (by omega) (hS5.alloc _).size ?_; intro v7 w7 ho7 hg7 hat7; have hS7 : Ext w w7 := (hS5.alloc _).own (hown5.alloc _) (Nat.le_refl _) hg7; have HS7 := Lib.hid (HM.out.step hny hO5.out hx5 ho7 hg7 hat7); clear ho7 hg7 hat7))
          go_wp2_with fail
          have HG := Lib.hid (show MgS w w7 v7 (us ++ [y]) by rw [← HZ.out]; exact HS7.out)
          go_roundg (xs'.length + 1 + ys'.length)
          case measure => omega
          case rel => exact ⟨x :: xs', ys', us ++ [y], Lib.hid (HL.out.goB (by rw [mergeL_cons, if_neg (by rw [HC.out]; decide), if_pos HC.out]) HG.out ⟨B2, cb' - 1, rfl, by omega, HB2.out⟩), by simp⟩
        · have HC := Lib.hid hc
          clear hc
          refine wp_region_ext (by kernel_rfl) (by kernel_rfl) ?_
          repeat (go_big_quiet_step ((go_at_call 44; exact of_ext (compare_is HC.out _))))
          refine wpQuiet_nil ?_
          refine ext_all ?_
          intro w2 hx2
          have hxw2 := hxr.trans hx2
          have Q0 : ∀ p : ExtOf w2, p.to.cell? ⟨b, o + 1, none⟩ = some (.int .i64 x.tm.kind) := ext_cell (hxw2.cell c1)
          have Q1 : ∀ p : ExtOf w2, p.to.cell? ⟨b, o + 2, none⟩ = some (.string x.tm.name) := ext_cell (hxw2.cell c2)
          have Q2 : ∀ p : ExtOf w2, p.to.cell? ⟨b, o + 3, none⟩ = some (.int .i64 x.tm.n) := ext_cell (hxw2.cell c3)
          have Q3 : ∀ p : ExtOf w2, p.to.cell? ⟨b, o + 4, none⟩ = some (.slice Bx x.tm.args.length ex) := ext_cell (hxw2.cell c4)
          have Q4 : ∀ p : ExtOf w2, p.to.cell? ⟨b2, o2 + 1, none⟩ = some (.int .i64 y.tm.kind) := ext_cell (hxw2.cell d1)
          have Q5 : ∀ p : ExtOf w2, p.to.cell? ⟨b2, o2 + 2, none⟩ = some (.string y.tm.name) := ext_cell (hxw2.cell d2)
          have Q6 : ∀ p : ExtOf w2, p.to.cell? ⟨b2, o2 + 3, none⟩ = some (.int .i64 y.tm.n) := ext_cell (hxw2.cell d3)
          have Q7 : ∀ p : ExtOf w2, p.to.cell? ⟨b2, o2 + 4, none⟩ = some (.slice By y.tm.args.length ey) := ext_cell (hxw2.cell d4)
          have hmx : mayB x.tm = true := HL.out.mayA.2 0 (by simp)
          have hmy : mayB y.tm = true := HL.out.mayC.2 0 (by simp)
          have ORD : Hid (∀ p : ExtOf w2, Calls Try.prog 46 #[x.tm.val Bx ex, y.tm.val By ey] p.to fun e w' => e = .returned (.tuple #[.int .i64 (cmpT x.tm y.tm), .int .i64 0]) ∧ Ext p.to w') := Lib.hid fun p => Order_yes _ _ _ _ _ _ _ (hTx.ext (hxw2.trans p.is)) (hTy.ext (hxw2.trans p.is)) hmx hmy
          clear N0 N1 hmx hmy
          go_wp2_with fail
          refine wp_region_ext (by kernel_rfl) (by kernel_rfl) ?_
          repeat (go_big_quiet_step ((go_at_call 46; exact of_ext (ORD.out _))))
          refine wpQuiet_nil ?_
          refine ext_all ?_
          intro w3 hx3
          have hxw3 := hxw2.trans hx3
          clear Q0 Q1 Q2 Q3 Q4 Q5 Q6 Q7
          by_cases hct : cmpT x.tm y.tm = 0
          · have HCT := Lib.hid hct
            obtain ⟨zs, G, hzs, hM⟩ := (HL.out.got.ext hx2).ext hx3
            have hown := hM.own
            have HM := Lib.hid hM
            have HZ := Lib.hid hzs
            have hzl : zs.length ≤ 200 := by have := HL.out.num; have : zs.length = us.length := by rw [← hzs, List.length_map]
                                             omega
            have hsz := hxw3.size
            have rulesI := fun (u : World) (k : Ext w u) => And.intro (k.cell c0) (And.intro (k.cell c1) (And.intro (k.cell c2) (And.intro (k.cell c3) (k.cell c4))))
            have CBp := Lib.hid (fun u hu => copy_in (wr := w3) HX.out (hTx.ext hxw3) u hu)
            clear hzs hM hx3
            go_wp2_with fail
            go_region_held3 (fun u => Ext w u) (first | assumption | exact hxw3.drew | exact Ext.alloc hS5 _)
              (first
                | (go_at_call 45; refine (CBp.out _ (Ext.refl _).drew).mono ?_; rintro e5 w5 ⟨A5, c5, rfl, hO5, hx5⟩; have hS5 := hxw3.trans hx5; have hown5 := ownsRow_ext hown hx5)
                | (refine step_app _ (by rfl) _ _ 44 (by rfl) w.heap.size 67 i0' _ 5 72 Try.underlying44 hi0 hz0 hz1 hz2 rfl (by decide) _ zs.length (browCells zs) (by rfl) (hown5.alloc _) (some ⟨w5.heap.size, 0, none⟩) 1 1 (BLain.cells (x, A5, c5)) (by rfl) (Src.box w5 #[.string x.name, .int .i64 x.tm.kind, .string x.tm.name, .int .i64 x.tm.n, .slice A5 x.tm.args.length c5] 67 5 rfl) (BLain.one _) (by simp only [maxLen]; omega) (by omega) (hS5.alloc _).size ?_; intro v7 w7 ho7 hg7 hat7; have hS7 : Ext w w7 := (hS5.alloc _).own (hown5.alloc _) (Nat.le_refl _) hg7; have HS7 := Lib.hid (HM.out.step hnx hO5.out hx5 ho7 hg7 hat7); clear ho7 hg7 hat7))
            go_wp2_with fail
            have HG := Lib.hid (show MgS w w7 v7 (us ++ [x]) by rw [← HZ.out]; exact HS7.out)
            go_roundg (xs'.length + ys'.length)
            case measure => omega
            case rel => exact ⟨xs', ys', us ++ [x], Lib.hid (HL.out.goC (by rw [mergeL_cons, if_neg (by rw [HC.out]; decide), if_neg (by rw [HC.out]; decide), if_pos HCT.out]) HG.out ⟨A2, ca' - 1, rfl, by omega, HA2.out⟩ ⟨B2, cb' - 1, rfl, by omega, HB2.out⟩), Nat.le_refl _⟩
          · have HNo : Hid (mergeL aa bb = none) := Lib.hid (by rw [← HL.out.val, mergeL_cons, if_neg (by rw [HC.out]; decide), if_neg (by rw [HC.out]; decide), if_neg hct]; rfl)
            have hne : (cmpT x.tm y.tm != 0) = true := by simpa using hct
            go_wp2_with fail
            go_ret2
            exact ⟨hxw3, .inl ⟨HNo.out, rfl⟩⟩
    · have HV : Hid (mergeL aa bb = some (us ++ (xs ++ ys))) := Lib.hid (by
        rw [← HL.out.val]
        cases xs with
        | nil => simp [mergeL]
        | cons x xs' =>
          cases ys with
          | nil => rw [mergeL_nil]; simp
          | cons y ys' => exact absurd ⟨by simp, by simp⟩ hend)
      obtain ⟨wp, rfl⟩ : ∃ wp : World, wp = wr := ⟨_, rfl⟩
      obtain ⟨xl, hxl, hxt, hxc⟩ := bds_list hA'
      obtain ⟨yl, hyl, hyt, hyc⟩ := bds_list hB'
      obtain ⟨us', hus'⟩ : ∃ us', us' = us := ⟨us, rfl⟩
      have hM0 := Lib.hid HL.out.got
      have hnum := HL.out.num
      have hsr := hxr.size
      have HAll : Hid (∀ x ∈ xl ++ yl, allP x.1.tm) := Lib.hid (fun x hx => by
        rcases List.mem_append.1 hx with hx | hx
        · have : x.1 ∈ xs := by rw [← hxl]; exact List.mem_map.2 ⟨x, hx, rfl⟩
          obtain ⟨i, hi, e⟩ := List.getElem_of_mem this
          rw [← e]; exact HL.out.mayA.1 i hi
        · have : x.1 ∈ ys := by rw [← hyl]; exact List.mem_map.2 ⟨x, hx, rfl⟩
          obtain ⟨i, hi, e⟩ := List.getElem_of_mem this
          rw [← e]; exact HL.out.mayC.1 i hi)
      have HT : Hid (∀ x ∈ xl ++ yl, TmAt w x.1.tm x.2.1 x.2.2 ∧ x.1.name.size ≤ 140737488351232) := Lib.hid (fun x hx => (List.mem_append.1 hx).elim (hxt x) (hyt x))
      have HMap : Hid ((xl ++ yl).map (·.1) = xs ++ ys) := Lib.hid (by rw [List.map_append, hxl, hyl])
      have hlenx : xl.length = xs.length := by rw [← hxl, List.length_map]
      have hleny : yl.length = ys.length := by rw [← hyl, List.length_map]
      have HLL : Hid ((xl ++ yl).length = xs.length + ys.length) := Lib.hid (by rw [List.length_append, hlenx, hleny])
      obtain ⟨OBJ, hOBJ⟩ : ∃ OBJ, OBJ = Obj.cells #[.slice A' xs.length ca', .slice B' ys.length cb'] 44 := ⟨_, rfl⟩
      have KEY : Hid (Calls Try.prog 47 #[.slice (some ⟨wp.heap.size, 0, none⟩) 2 2] (wp.alloc (.cells #[.slice A' xs.length ca', .slice B' ys.length cb'] 44)) fun e w' => ∃ A4 c4, e = .returned (.slice A4 (xs.length + ys.length) c4) ∧ Hid (w'.ownsRow (wp.heap.size + 1) 67 5 (.slice A4 (xs.length + ys.length) c4) (xs.length + ys.length) (browCells (xl ++ yl))) ∧ Ext wp w') := Lib.hid (by
        have hxa : Ext w (wp.alloc (.cells #[.slice A' xs.length ca', .slice B' ys.length cb'] 44)) := hxr.alloc _
        refine (concat_any xs ys A' B' ca' cb' _ (hA'.ext hxa) (hB'.ext hxa) (by omega) (by omega) hca' hcb' xl yl hxl hyl (fun b o e j u hj => hxa.cell (hxc b o e j u hj)) (fun b o e j u hj => hxa.cell (hyc b o e j u hj)) wp.heap.size (by go_simp) (by go_simp)).mono ?_
        rintro e w' ⟨v', rfl, hown, hx⟩
        rw [← browCells_app] at hown
        simp only [heap_size_alloc] at hown
        rcases src_own hown with ⟨A4, c4, rfl, _⟩
        exact ⟨A4, c4, rfl, Lib.hid hown, ((Ext.refl _).alloc _).trans hx⟩)
      clear hxl hyl hxt hyt hxc hyc hlenx hleny hOBJ hus'
      have hcase : (0 < xs.length ∧ ¬ 0 < ys.length) ∨ ¬ 0 < xs.length := by omega
      clear hend
      have h0case : (decide (0 < xs.length) = true ∧ decide (0 < ys.length) = false) ∨ decide (0 < xs.length) = false := by
        rcases hcase with ⟨g0, g1⟩ | g0
        · exact .inl ⟨decide_eq_true g0, decide_eq_false g1⟩
        · exact .inr (decide_eq_false g0)
      clear hcase
      rcases h0case with ⟨hd0, hd1⟩ | hd0
      all_goals
        first | (have hq0 : 0 < xs.length := of_decide_eq_true hd0) | skip
        go_wp2_with fail
        refine KEY.out.mono ?_
        rintro e4 w4 ⟨A4, c4, rfl, HO4, hx4⟩
        have HROW : Hid (∀ i (h : i < (xl ++ yl).length), ∃ b, A4 = some ⟨b, 0, none⟩ ∧ wp.heap.size + 1 ≤ b ∧ b < w4.heap.size ∧ ∀ j, j < 5 → w4.cell? ⟨b, i * 5 + j, none⟩ = (xl ++ yl)[i].cells[j]?) := Lib.hid (fun i hi => by
          have ho := HO4.out
          rcases ho.2 with ⟨e, h0⟩ | ⟨g, cap, cur, e, hgb, hgc, _⟩
          · have := HLL.out; omega
          · injection e with e1 e2 e3
            subst e1 e3
            exact ⟨g, rfl, hgb, (Array.getElem?_eq_some_iff.1 hgc).1, fun j hj => by rw [ho.cellAt (i * 5 + j) (by have := HLL.out; omega), browCells_at _ i j hi hj]⟩)
        have hsz4 := hx4.size
        have HM4 : Hid (MgS w w4 u6 (us ++ (xs ++ ys).take 0)) := Lib.hid (by rw [List.take_zero, List.append_nil]; exact hM0.out.ext hx4)
        have HF4 : Hid (Far w4 w4 (wp.heap.size + 1) u6) := Lib.hid ⟨Nat.le_refl _, fun b hb _ => ⟨fun e => by
          obtain ⟨zs, G, _, hM⟩ := hM0.out
          have := hM.own.lt b e
          omega, rfl⟩⟩
        clear KEY HO4 hM0
        go_wp2_with fail
        go_loopw [6, 86] (fun v i wq => ∃ k : Nat, k ≤ xs.length + ys.length ∧ i = .int .i64 k ∧ Hid (MgS w wq v (us ++ (xs ++ ys).take k)) ∧ Hid (Far w4 wq (wp.heap.size + 1) v)) (fun _ i _ => xs.length + ys.length - (intOf i).toNat)
        case atStart => exact ⟨0, Nat.zero_le _, rfl, HM4, HF4⟩
        case round =>
          clear HM4 HF4
          obtain ⟨k, hkn, rfl, HMk, HFk⟩ := hrel
          obtain ⟨wq, rfl⟩ : ∃ wq : World, wq = wr := ⟨_, rfl⟩
          have hxq := HMk.out.ext_
          have hszq := HFk.out.1
          by_cases hlt : k < xs.length + ys.length
          · have hkl : Hid (k < (xl ++ yl).length) := Lib.hid (by have := HLL.out; omega)
            obtain ⟨b, rfl, hb0, hb1, hcell⟩ := HROW.out k hkl.out
            obtain ⟨x, hxk⟩ : ∃ x : BLain, x = (xl ++ yl)[k]'hkl.out := ⟨_, rfl⟩
            have hmem : x ∈ xl ++ yl := by rw [hxk]; exact List.getElem_mem _
            have hax := Lib.hid (HAll.out x hmem)
            obtain ⟨hTx0, hnx⟩ := HT.out x hmem
            have hTx := hTx0.ext hxq
            have hxm : Hid (x.1 = (xs ++ ys)[k]'(by have := HLL.out; rw [List.length_append]; exact hlt)) := Lib.hid (by
              have := congrArg (fun l : List Bd => l[k]?) HMap.out
              simp only [List.getElem?_map, List.getElem?_eq_getElem hkl.out, Option.map_some] at this
              rw [List.getElem?_eq_getElem (by rw [List.length_append]; exact hlt)] at this
              rw [hxk]; exact Option.some.inj this)
            rw [← hxk] at hcell
            have heq : ∀ o, wq.cell? ⟨b, o, none⟩ = w4.cell? ⟨b, o, none⟩ := fun o => World.cell?_of_block (w := w4) (HFk.out.2 b hb0 hb1).2
            have c0 : wq.cell? ⟨b, k * 5, none⟩ = some (.string x.1.name) := (heq _).trans (hcell 0 (by omega))
            have c1 : wq.cell? ⟨b, k * 5 + 1, none⟩ = some (.int .i64 x.1.tm.kind) := (heq _).trans (hcell 1 (by omega))
            have c2 : wq.cell? ⟨b, k * 5 + 2, none⟩ = some (.string x.1.tm.name) := (heq _).trans (hcell 2 (by omega))
            have c3 : wq.cell? ⟨b, k * 5 + 3, none⟩ = some (.int .i64 x.1.tm.n) := (heq _).trans (hcell 3 (by omega))
            have c4' : wq.cell? ⟨b, k * 5 + 4, none⟩ = some (.slice x.2.1 x.1.tm.args.length x.2.2) := (heq _).trans (hcell 4 (by omega))
            clear hcell heq hxk hmem hTx0
            obtain ⟨zs, G, hzs, hM⟩ := HMk.out
            have hown := hM.own
            have HM := Lib.hid hM
            have HZ := Lib.hid hzs
            have hzl : zs.length ≤ 200 := by
              have e : zs.length = (us ++ (xs ++ ys).take k).length := by rw [← hzs, List.length_map]
              rw [List.length_append, List.length_take, List.length_append] at e
              omega
            clear hM hzs
            go_wp2_with fail
            refine (copy_in (wr := wq) hax.out hTx _ ((Ext.refl _).alloc _)).mono ?_
            rintro e5 w5 ⟨A5, c5, rfl, hO5, hx5⟩
            have hown5 := ownsRow_ext hown hx5
            have hs5 := hx5.size
            have hsw := hxq.size
            go_wp2_with (at_builtin; refine wpList_app _ rfl _ _ 44 rfl w.heap.size 67 i0' _ 5 72 Try.underlying44 hi0 hz0 hz1 hz2 rfl (by decide) _ zs.length (browCells zs) rfl (hown5.alloc _) (some ⟨w5.heap.size, 0, none⟩) 1 1 (BLain.cells (x.1, A5, c5)) rfl (Src.box w5 #[.string x.1.name, .int .i64 x.1.tm.kind, .string x.1.tm.name, .int .i64 x.1.tm.n, .slice A5 x.1.tm.args.length c5] 67 5 rfl) (BLain.one _) ?qc3 ?qc4 ?qc5 ?_)
            case qc3 => unfold maxLen; omega
            case qc4 => omega
            case qc5 => simp only [heap_size_alloc]; omega
            intro v7 w7 ho7 hg7 hat7
            have HS7 : Hid (MgS w w7 v7 (us ++ (xs ++ ys).take (k + 1))) := Lib.hid (by
              have := HM.out.step hnx hO5.out hx5 ho7 hg7 (by simpa using hat7)
              rw [HZ.out, hxm.out] at this
              rw [List.take_succ_eq_append_getElem (by rw [List.length_append]; exact hlt), ← List.append_assoc]
              exact this)
            have HF7 : Hid (Far w4 w7 (wp.heap.size + 1) v7) := Lib.hid ⟨by have := hg7.size; simp only [heap_size_alloc] at this; omega, fun q hq0 hq1 => by
              obtain ⟨hne, hqe⟩ := HFk.out.2 q hq0 hq1
              refine ⟨fun e => ?_, ?_⟩
              · rcases hat7 with h | h
                · exact hne (h ▸ e)
                · rw [h] at e; have := Option.some.inj e; omega
              · rw [hg7.block q (by simp only [heap_size_alloc]; omega) (fun e => hne e.symm), Below.heap_alloc w5 _ q (by omega), hx5.block q (by omega), hqe]⟩
            clear ho7 hg7 hat7 hown5 hown c0 c1 c2 c3 c4' hTx
            go_wp2_with fail
            go_roundw
            case rel => exact ⟨k + 1, by omega, by go_num, HS7, HF7⟩
            case measure => simp [intOf]; omega
          · have hk : k = xs.length + ys.length := by omega
            have HD := HMk.out
            rw [List.take_of_length_le (by rw [List.length_append]; omega)] at HD
            obtain ⟨A7, c7, B7, d7, G7, hv7, hc7, hO7⟩ := HD.done
            have HO := Lib.hid hO7
            have hv := Lib.hid hv7
            clear hO7 HD hv7
            go_wp2_with fail
            go_ret2
            exact ⟨hxq, .inr ⟨_, A7, c7, B7, d7, G7, HV.out, by rw [← hv.out]; rfl, hc7, by rw [List.length_append, List.length_append]; omega, HO.out⟩⟩
end Go.Proofs.Ythmpolifgngdiaa
