/- facts.Sorted. -/
import Derived.Test.YtkdhpifjljkpfaaGreatFkt
import Derived.Test.YtkdhpifjljkpfaaGreatDrc
namespace Go.Proofs.YtkdhpifjljkpfaaGreat
open Go.RowKit Go.Maps Go.Sort Go.Shelf Go.Lib

theorem chg6 {w : World} {g : Nat} (o0 o1 o2 o3 o4 o5 : Nat) (v0 v1 v2 v3 v4 v5 : Value) : Chg (· = g) w ((((((w.setCell ⟨g, o0, none⟩ v0).setCell ⟨g, o1, none⟩ v1).setCell ⟨g, o2, none⟩ v2).setCell ⟨g, o3, none⟩ v3).setCell ⟨g, o4, none⟩ v4).setCell ⟨g, o5, none⟩ v5) := by
  refine ⟨by simp [World.setCell], by simp [World.setCell], by simp [World.setCell], by simp [World.setCell], fun k _ hk => ?_⟩
  rw [Below.heap_setCell _ _ _ _ hk, Below.heap_setCell _ _ _ _ hk, Below.heap_setCell _ _ _ _ hk, Below.heap_setCell _ _ _ _ hk, Below.heap_setCell _ _ _ _ hk, Below.heap_setCell _ _ _ _ hk]
theorem infoFc : (Tryz.prog.info? 44).map (fun i => (i.zero, i.size, i.bytes)) = some (some (.agg #[.int .i64 0, .string ⟨#[]⟩, .int .i64 0, .slice none 0 0, .int .i64 0, .int .i64 0]), 6, 72) := by kernel_rfl
theorem FOwn.weak {w : World} {us : List Fc} {A : Option Addr} {F F' : Nat → Prop} {B : Nat → Option Addr} {d : Nat → Nat} {G : Nat → Nat → Prop} (h : FOwn w us A F B d G) (k : ∀ x, F x → F' x) : FOwn w us A F' B d G :=
  ⟨h.row, h.sub, fun b o e hl => ⟨k b (h.own b o e hl).1, (h.own b o e hl).2⟩, fun i hi x hx => k x (h.inF i hi x hx), h.apart⟩
/-- what Sorted gives: the facts, by rising order -/
def SrtTo (ks : List Kp) (w : World) (e : Ending) (w' : World) : Prop :=
  (kpsB ks = true ∧ ∃ us A c B d G, e = .returned (.tuple #[.slice A us.length c, .int .i64 0]) ∧ FOwn w' us A (fun x => w.heap.size ≤ x ∧ x < w'.heap.size) B d G ∧ RisF us ∧ us.Perm (ks.map (·.fc)) ∧ Ext w w') ∨ (kpsB ks = false ∧ e = .returned (.tuple #[.slice none 0 0, .int .i64 1]) ∧ Ext w w')

/-- behind the sorting -/
theorem sorted_end {W w2 : World} {ks : List Kp} {g : Nat} {zs : List FLain} {G : Nat → Nat → Prop} {ys : List Value} (hF : FFill W w2 (ks.map (·.fc)) g ks.length zs G ys) (hm : ∀ i (h : i < ks.length), May ks[i].fc) (hp : (ks.map (·.fc)).Pairwise (fun x y => x ≠ y)) (hg : W.heap.size ≤ g) :
    ∃ xs : List (FS w2 g), xs.length = ks.length ∧ HoldsK fsEnc 6 w2 g 0 xs.toArray ∧ g < w2.heap.size ∧ ∀ (d' : Array (FS w2 g)) n os, PermIn 0 xs.toArray.size xs.toArray d' → SortedIn (ltOf fsCf) 0 xs.toArray.size d' →
      ∃ (us : List Fc) (B : Nat → Option Addr) (d : Nat → Nat) (G : Nat → Nat → Prop), us.length = ks.length ∧ FOwn (sortWorldK fsEnc 6 w2 g 0 n d' os) us (some ⟨g, 0, none⟩) (fun x => W.heap.size ≤ x ∧ x < (sortWorldK fsEnc 6 w2 g 0 n d' os).heap.size) B d G ∧ RisF us ∧ us.Perm (ks.map (·.fc)) ∧ Ext W (sortWorldK fsEnc 6 w2 g 0 n d' os) := by
  have hmap : zs.map (·.1) = ks.map (·.fc) := by rw [hF.map, List.take_of_length_le (by simp)]
  have hzl : zs.length = ks.length := hF.len
  obtain ⟨ps, hps⟩ : ∃ ps : List (FLain × (Nat → Prop)), ps = zs.mapIdx fun i z => (z, G i) := ⟨_, rfl⟩
  have hpl : ps.length = zs.length := by rw [hps]; simp
  have hpi : ∀ i (h : i < ps.length) (h' : i < zs.length), ps[i] = (zs[i], G i) := fun i h h' => by subst hps; simp
  have hp1 : ps.map (·.1) = zs := by
    apply List.ext_getElem (by simpa using hpl)
    intro i h1 h2
    rw [List.getElem_map, hpi i (by omega) h2]
  have hsub : ∀ i (h : i < zs.length), TmOwn w2 zs[i].1.tm zs[i].2.1 zs[i].2.2 (G i) := fun i hi => by
    have hs := hF.inv.sub i (by simpa using hi)
    simp only [List.getElem_map, FLain.tl] at hs
    exact hs
  have hinF : ∀ i, i < zs.length → ∀ x, G i x → W.heap.size ≤ x ∧ x < w2.heap.size ∧ x ≠ g := fun i hi x hx => by
    have := hF.inv.inF i (by simpa using hi) x hx
    exact ⟨this.1, this.2.1, fun e => this.2.2 (by rw [e]; rfl)⟩
  have hok : ∀ z ∈ ps, FOk w2 g z := by
    intro z hz
    obtain ⟨i, hi, rfl⟩ := List.getElem_of_mem hz
    have hi2 : i < zs.length := by omega
    have hik : i < ks.length := by omega
    rw [hpi i hi hi2]
    have e : zs[i].1 = ks[i].fc := by
      have := congrArg (fun l : List Fc => l[i]?) hmap
      simp only [List.getElem?_map, List.getElem?_eq_getElem hi2, List.getElem?_eq_getElem hik, Option.map_some, Option.some.injEq] at this
      exact this
    exact ⟨⟨hsub i hi2, fun b hb => (hinF i hi2 b hb).2.2⟩, by rw [e]; exact hm i hik⟩
  obtain ⟨xs, hxs⟩ := fs_list hok
  have hxl : xs.length = ks.length := by have := congrArg List.length hxs; rw [List.length_map] at this; omega
  have hx1 : xs.map (·.1.1) = zs := by rw [← hp1, ← hxs, List.map_map]; rfl
  have hrow : ys = Frow (xs.map (·.1.1)) := by rw [hx1]; exact hF.row.all (by rw [hF.all]; simp [hzl])
  have hown := hF.own
  rw [hrow] at hown
  have hH := holds_fs hown (by simp [hxl])
  have hlt := (hF.own.lt g rfl).2
  have hL : xs.map (·.1.1.1) = ks.map (·.fc) := by rw [← hmap, ← hx1, List.map_map]; rfl
  have hxin : ∀ x ∈ xs, ∀ k, x.1.2 k → W.heap.size ≤ k ∧ k < w2.heap.size := by
    intro x hx k hk
    have hm1 : x.1 ∈ ps := by rw [← hxs]; exact List.mem_map.2 ⟨x, hx, rfl⟩
    obtain ⟨i, hi, e⟩ := List.getElem_of_mem hm1
    rw [hpi i hi (by omega)] at e
    rw [← e] at hk
    have := hinF i (by omega) k hk
    exact ⟨this.1, this.2.1⟩
  have hxap : xs.Pairwise (fun x y => ∀ k, x.1.2 k → ¬ y.1.2 k) := by
    rw [List.pairwise_iff_getElem]
    intro i j hi hj hij k hk
    have ei : xs[i].1 = (zs[i]'(by omega), G i) := by
      rw [← hpi i (by omega) (by omega)]
      have := congrArg (fun l : List (FLain × (Nat → Prop)) => l[i]?) hxs
      simp only [List.getElem?_map, List.getElem?_eq_getElem hi, List.getElem?_eq_getElem (show i < ps.length by omega), Option.map_some, Option.some.injEq] at this
      exact this
    have ej : xs[j].1 = (zs[j]'(by omega), G j) := by
      rw [← hpi j (by omega) (by omega)]
      have := congrArg (fun l : List (FLain × (Nat → Prop)) => l[j]?) hxs
      simp only [List.getElem?_map, List.getElem?_eq_getElem hj, List.getElem?_eq_getElem (show j < ps.length by omega), Option.map_some, Option.some.injEq] at this
      exact this
    rw [ei] at hk
    rw [ej]
    exact hF.inv.apart i j (by simp; omega) (by simp; omega) (by omega) k hk
  refine ⟨xs, hxl, hH, hlt, fun d' n os hpm hs => ?_⟩
  obtain ⟨hr, hpr, hdp⟩ := sorted_fs hL hp hpm hs
  have hC := chg_sortF w2 g 0 n d' os
  have hsz : d'.size = xs.toArray.size := hpm.1
  have hH2 : HoldsK fsEnc 6 (sortWorldK fsEnc 6 w2 g 0 n d' os) g 0 d' := holdsK_sortWorldK fsEnc 6 w2 g 0 n xs.toArray d' os hlt hH hsz
  have hdl : d'.toList.length = ks.length := by rw [hdp.length_eq, hxl]
  have hdap : d'.toList.Pairwise (fun x y => ∀ k, x.1.2 k → ¬ y.1.2 k) := (hdp.pairwise_iff (fun h k a b => h k b a)).2 hxap
  refine ⟨d'.toList.map (·.1.1.1), fun i => (d'.toList[i]?.map (·.1.1.2.1)).getD none, fun i => (d'.toList[i]?.map (·.1.1.2.2)).getD 0, fun i k => ∃ h : i < d'.toList.length, d'.toList[i].1.2 k, by have := hpr.length_eq; simpa using this, ⟨fun i hi => ?_, fun i hi => ?_, fun b o e hp => ?_, fun i hi k hk => ?_, fun i j hi hj hij k hk hk2 => ?_⟩, hr, hpr, Chg.ext_of hF.inv.ext hC (fun b e => by rw [e]; exact hg)⟩
  · have hid : i < d'.toList.length := by simpa using hi
    have cell := holdsK_fs hH2 i hid
    have e1 : (d'.toList[i]?.map (·.1.1.2.1)).getD none = d'.toList[i].1.1.2.1 := by rw [List.getElem?_eq_getElem hid]; rfl
    have e2 : (d'.toList[i]?.map (·.1.1.2.2)).getD 0 = d'.toList[i].1.1.2.2 := by rw [List.getElem?_eq_getElem hid]; rfl
    refine ⟨g, 0, rfl, ?_, ?_, ?_, ?_, ?_, ?_, trivial⟩
    · have := cell 0 (by omega); simpa [fsEnc, FLain.cells] using this
    · have := cell 1 (by omega); simpa [fsEnc, FLain.cells] using this
    · have := cell 2 (by omega); simpa [fsEnc, FLain.cells] using this
    · have := cell 3 (by omega); rw [e1, e2]; simpa [fsEnc, FLain.cells] using this
    · have := cell 4 (by omega); simpa [fsEnc, FLain.cells] using this
    · have := cell 5 (by omega); simpa [fsEnc, FLain.cells] using this
  · have hid : i < d'.toList.length := by simpa using hi
    have e1 : (d'.toList[i]?.map (·.1.1.2.1)).getD none = d'.toList[i].1.1.2.1 := by rw [List.getElem?_eq_getElem hid]; rfl
    have e2 : (d'.toList[i]?.map (·.1.1.2.2)).getD 0 = d'.toList[i].1.1.2.2 := by rw [List.getElem?_eq_getElem hid]; rfl
    obtain ⟨⟨hO, hne⟩, _⟩ := d'.toList[i].2
    rw [e1, e2, List.getElem_map]
    exact (hO.chg hC (fun b hb e => hne b hb e)).weak fun b hb => ⟨hid, hb⟩
  · injection e with e
    injection e with e1 e2
    subst e1 e2
    refine ⟨⟨hg, Nat.lt_of_lt_of_le hlt hC.size⟩, fun i hi hb => ?_, fun j hj => ?_⟩
    · obtain ⟨h, hb⟩ := hb
      obtain ⟨⟨_, hne⟩, _⟩ := d'.toList[i].2
      exact hne _ hb rfl
    · rw [Nat.zero_add]
      have := (hH2 j (by simp at hj ⊢; omega)).2
      simpa using this
  · obtain ⟨h, hk⟩ := hk
    have := hxin _ (hdp.mem_iff.1 (List.getElem_mem h)) k hk
    exact ⟨this.1, Nat.lt_of_lt_of_le this.2 hC.size⟩
  · obtain ⟨h1, hk⟩ := hk
    obtain ⟨h2, hk2⟩ := hk2
    rcases Nat.lt_or_gt_of_ne hij with c | c
    · exact (List.pairwise_iff_getElem.1 hdap) i j h1 h2 c k hk hk2
    · exact (List.pairwise_iff_getElem.1 hdap) j i h2 h1 c k hk2 hk

set_option maxRecDepth 100000 in
set_option maxHeartbeats 8000000 in
theorem Sorted_any (ks : List Kp) (A : Option Addr) (c : Nat) (w : World) (hc : ks.length ≤ c) (h : KpsAt w ks A) (hp : kpsB ks = true → (ks.map (·.fc)).Pairwise (fun x y => x ≠ y)) (hl : ks.length ≤ 1000000) :
    Calls Tryz.prog 7 #[.slice A ks.length c] w (SrtTo ks w) := by
  obtain ⟨i0, hi0, hz0, hz1, hz2⟩ := info_parts infoFc
  have HNO : Hid (∀ w', kpsB ks = false → Ext w w' → SrtTo ks w (.returned (.tuple #[.slice none 0 0, .int .i64 1])) w') := Lib.hid fun w' h hx => .inr ⟨h, rfl, hx⟩
  have HYES : Hid (∀ us g w' B d G, kpsB ks = true → us.length = ks.length → FOwn w' us (some ⟨g, 0, none⟩) (fun x => w.heap.size ≤ x ∧ x < w'.heap.size) B d G → RisF us → us.Perm (ks.map (·.fc)) → Ext w w' → SrtTo ks w (.returned (.tuple #[.slice (some ⟨g, 0, none⟩) ks.length ks.length, .int .i64 0])) w') := Lib.hid fun us g w' B d G h hl hF hr hp hx => .inl ⟨h, us, _, ks.length, B, d, G, by rw [hl], hF, hr, hp, hx⟩
  generalize SrtTo ks w = Z at HNO HYES ⊢
  have KC := Lib.hid (Check_any ks A c w hc hl h)
  have HH := Lib.hid h
  have HL := Lib.hid hl
  have HP := Lib.hid hp
  have HI := Lib.hid (And.intro hi0 (And.intro hz0 (And.intro hz1 hz2)))
  clear hi0 hz0 hz1 hz2 h hp hl
  go_enter Tryz.func7, Tryz.ntmps7
  go_wp2_with fail
  refine KC.out.mono ?_
  rintro e w1 ⟨rfl, hx1⟩
  cases hkb : kpsB ks with
  | false =>
    have HB : Hid (kpsB ks = false) := Lib.hid hkb
    have HX := Lib.hid hx1
    simp only [badE]
    clear hkb hx1 KC
    go_wp2_with fail
    exact HNO.out _ HB.out HX.out
  | true =>
    have HB : Hid (kpsB ks = true) := Lib.hid hkb
    have HM := Lib.hid (kpsB_all hkb).2
    have HX1 := Lib.hid hx1
    have hl3 := (kpsB_all hkb).1
    simp only [badE]
    obtain ⟨hi0, hz0, hz1, hz2⟩ := HI.out
    have hmk : ∀ u : World, (Instr.makeSlice 23 (.int .i64 (ks.length : Int)) (.int .i64 (ks.length : Int))).run Tryz.prog u =
        .ok (.slice (some ⟨u.heap.size, 0, none⟩) ks.length ks.length) (u.alloc (.cells (madeCells #[.int .i64 0, .string ⟨#[]⟩, .int .i64 0, .slice none 0 0, .int .i64 0, .int .i64 0] (ks.length * 6)) 44)) := fun u => by
      have h := run_make (P := Tryz.prog) u 23 44 i0 _ Tryz.underlying23 hi0 hz0 .i64 .i64 (ks.length : Int) (ks.length : Int) (by omega) (Int.le_refl _) (by rw [hz2]; omega) (by omega)
      simp only [Int.toNat_natCast, hz1] at h
      exact h
    have hST := FFill.start (W := w1) (ks.map (·.fc)) (by simp) (g := w1.heap.size) (madeCells #[.int .i64 0, .string ⟨#[]⟩, .int .i64 0, .slice none 0 0, .int .i64 0, .int .i64 0] (ks.length * 6)) rfl (size_madeCells _ _) (by unfold maxLen; omega)
    clear hkb hx1 KC hi0 hz0 hz1 hz2
    go_wp2_with fail
    clear hmk
    obtain ⟨g, hg⟩ : ∃ g, g = w1.heap.size := ⟨_, rfl⟩
    rw [← hg] at hST
    rw [← hg]
    generalize w1.alloc (.cells (madeCells #[.int .i64 0, .string ⟨#[]⟩, .int .i64 0, .slice none 0 0, .int .i64 0, .int .i64 0] (ks.length * 6)) 44) = W1 at *
    have HG : Hid (w1.heap.size ≤ g) := Lib.hid (by omega)
    have HL3 := Lib.hid hl3
    clear hg hl3
    have HW1 := Lib.hid HX1.out.size
    clear hc
    have hL9 : (ks.map (·.fc)).length = ks.length := by simp
    have hfe : ∀ i (h : i < ks.length), (ks.map (·.fc))[i]'(by simpa using h) = ks[i].fc := fun i h => by simp
    obtain ⟨fs, hfs⟩ : ∃ fs, fs = ks.map (·.fc) := ⟨_, rfl⟩
    rw [← hfs] at hST
    have HFS := Lib.hid hfs
    have HFE : Hid (∀ i (h : i < ks.length) (h' : i < fs.length), fs[i] = ks[i].fc) := Lib.hid (by subst hfs; intro i h h'; exact hfe i h)
    have HL9 : Hid (fs.length = ks.length) := Lib.hid (by rw [hfs]; exact hL9)
    clear hfe hL9 hfs
    go_loopw [15, 5, 6] (fun i _ _ wr => ∃ (k : Nat) (zs : List FLain) (G : Nat → Nat → Prop) (ys : List Value), k ≤ ks.length ∧ i = .int .i64 k ∧ FFill w1 wr fs g k zs G ys) (fun i _ _ _ => ks.length - (intOf i).toNat)
    case atStart => exact ⟨0, [], _, _, Nat.zero_le _, rfl, hST⟩
    case round =>
      obtain ⟨k, zs, G, ys, hk, rfl, hF⟩ := hrel
      have hx := hF.inv.ext
      by_cases hlt : k < ks.length
      · have hkf : k < fs.length := by have := HL9.out; omega
        obtain ⟨b, o, B, e, rfl, c0, c1, c2, c3, c4, c5, c6, hsub, hwf⟩ := ((HH.out.ext HX1.out).ext hx) k hlt
        have hki : (k : Int) < (ks.length : Int) := by omega
        have hk0 : (0 : Int) ≤ (k : Int) := by omega
        have KCP := Lib.hid (fun u (k' : Ext wr u) => copiedFact_any ks[k].fc B e u (hsub.ext k') (HM.out k hlt))
        obtain ⟨⟨y0, e0⟩, ⟨y1, e1⟩, ⟨y2, e2⟩, ⟨y3, e3⟩, ⟨y4, e4⟩, ⟨y5, e5⟩, f0, f1, f2, f3, f4, f5, hgl⟩ := hF.cells hkf
        have HK := Lib.hid hlt
        have hek := HFE.out k hlt hkf
        have HFST : Hid (∀ (w2 : World) (A' : Option Addr) (c' : Nat), TmOwn w2 ks[k].fc.tm A' c' (fun x => wr.heap.size ≤ x ∧ x < w2.heap.size) → Ext wr w2 → ∃ zs' G' ys', FFill w1 (set6 w2 g (k * 6) (.int .i64 ks[k].fc.tm.kind) (.string ks[k].fc.tm.name) (.int .i64 ks[k].fc.tm.n) (.slice A' ks[k].fc.tm.args.length c') (.int .i64 ks[k].fc.fr) (.int .i64 ks[k].fc.til)) fs g (k + 1) zs' G' ys') := Lib.hid fun w2 A' c' hO hx1 => by
          obtain ⟨G', h'⟩ := hF.store hkf HG.out (by rw [hek]; exact hO) hx1 trivial
          rw [hek] at h'
          exact ⟨_, G', _, h'⟩
        generalize ks[k] = q at *
        clear hF hsub hwf hx hST hek
        go_upto_region 7 with (fail)
        obtain ⟨wb, hwb⟩ : ∃ wb, wb = wr.alloc (.cells #[.int .i64 q.seq, .int .i64 q.fc.tm.kind, .string q.fc.tm.name, .int .i64 q.fc.tm.n, .slice B q.fc.tm.args.length e, .int .i64 q.fc.fr, .int .i64 q.fc.til] 50) := ⟨_, rfl⟩
        rw [← hwb]
        have hxb : Ext wr wb := by rw [hwb]; exact (Ext.refl _).alloc _
        have n1 : wb.cell? ⟨wr.heap.size, 1, none⟩ = some (.int .i64 q.fc.tm.kind) := by rw [hwb]; go_simp
        have n2 : wb.cell? ⟨wr.heap.size, 2, none⟩ = some (.string q.fc.tm.name) := by rw [hwb]; go_simp
        have n3 : wb.cell? ⟨wr.heap.size, 3, none⟩ = some (.int .i64 q.fc.tm.n) := by rw [hwb]; go_simp
        have n4 : wb.cell? ⟨wr.heap.size, 4, none⟩ = some (.slice B q.fc.tm.args.length e) := by rw [hwb]; go_simp
        have n5 : wb.cell? ⟨wr.heap.size, 5, none⟩ = some (.int .i64 q.fc.fr) := by rw [hwb]; go_simp
        have n6 : wb.cell? ⟨wr.heap.size, 6, none⟩ = some (.int .i64 q.fc.til) := by rw [hwb]; go_simp
        have KC2 := Lib.hid ((KCP.out wb hxb).mono (fun e w' (hc : FCopied q.fc wb e w') => (show ∃ A' c', e = Ending.returned (q.fc.val A' c') ∧ TmOwn w' q.fc.tm A' c' (fun x => wr.heap.size ≤ x ∧ x < w'.heap.size) ∧ Ext wr w' from by
          obtain ⟨A', c', he, hO, hx⟩ := hc
          have hs := hxb.size
          exact ⟨A', c', he, hO.weak (fun x hx => ⟨Nat.le_trans hs hx.1, hx.2⟩), hxb.trans hx⟩)))
        clear hwb c0 c1 c2 c3 c4 c5 c6 KCP hxb
        go_wp2_with fail
        refine KC2.out.mono ?_
        rintro e1' w2 ⟨A', c', rfl, hO, hx1⟩
        have v0 := hx1.cell e0
        have v1 := hx1.cell e1
        have v2 := hx1.cell e2
        have v3 := hx1.cell e3
        have v4 := hx1.cell e4
        have v5 := hx1.cell e5
        have g0 := (Below.frozen hx1 (p := ⟨g, k * 6, none⟩) hgl).trans f0
        have g1 := (Below.frozen hx1 (p := ⟨g, k * 6 + 1, none⟩) hgl).trans f1
        have g2 := (Below.frozen hx1 (p := ⟨g, k * 6 + 2, none⟩) hgl).trans f2
        have g3 := (Below.frozen hx1 (p := ⟨g, k * 6 + 3, none⟩) hgl).trans f3
        have g4 := (Below.frozen hx1 (p := ⟨g, k * 6 + 4, none⟩) hgl).trans f4
        have g5 := (Below.frozen hx1 (p := ⟨g, k * 6 + 5, none⟩) hgl).trans f5
        have HST := Lib.hid (HFST.out w2 A' c' hO hx1)
        have hgl2 : g < w2.heap.size := Nat.lt_of_lt_of_le hgl hx1.size
        have hkb3 : k < 300 := Nat.lt_of_lt_of_le HK.out HL3.out
        clear n1 n2 n3 n4 n5 n6 e0 e1 e2 e3 e4 e5 f0 f1 f2 f3 f4 f5 HFST KC2 hO hx1 hgl
        go_wp2_with fail
        go_roundw
        case rel =>
          obtain ⟨zs', G', ys', h'⟩ := HST.out
          exact ⟨k + 1, zs', G', ys', HK.out, by go_num, h'⟩
        case measure => have := HK.out; simp [intOf]; omega
      · have hki : ¬ ((k : Int) < (ks.length : Int)) := by omega
        obtain rfl : k = ks.length := by omega
        have HE : Hid (∃ xs : List (FS wr g), xs.length = ks.length ∧ HoldsK fsEnc 6 wr g 0 xs.toArray ∧ g < wr.heap.size ∧ ∀ (d' : Array (FS wr g)) n os, PermIn 0 xs.toArray.size xs.toArray d' → SortedIn (ltOf fsCf) 0 xs.toArray.size d' →
            ∃ (us : List Fc) (B : Nat → Option Addr) (d : Nat → Nat) (G : Nat → Nat → Prop), us.length = ks.length ∧ FOwn (sortWorldK fsEnc 6 wr g 0 n d' os) us (some ⟨g, 0, none⟩) (fun x => w1.heap.size ≤ x ∧ x < (sortWorldK fsEnc 6 wr g 0 n d' os).heap.size) B d G ∧ RisF us ∧ us.Perm (ks.map (·.fc)) ∧ Ext w1 (sortWorldK fsEnc 6 wr g 0 n d' os)) := Lib.hid (by
          have hfs := HFS.out
          subst hfs
          exact sorted_end hF HM.out (HP.out HB.out) HG.out)
        obtain ⟨xs, hxl, hH, hgl, hend⟩ := HE.out
        have KSO := Lib.hid (sortF_any g ks.length wr xs hH hgl (by have := HL3.out; omega))
        rw [hxl] at KSO
        have HEND := Lib.hid hend
        clear hF hx HE hH hgl hend hST
        go_wp2_with fail
        refine KSO.out.mono ?_
        rintro e w3 ⟨rfl, d', n, os, hp1, hs1, hw3⟩
        have HF : Hid (∃ (us : List Fc) (B : Nat → Option Addr) (d : Nat → Nat) (G : Nat → Nat → Prop), us.length = ks.length ∧ FOwn w3 us (some ⟨g, 0, none⟩) (fun x => w1.heap.size ≤ x ∧ x < w3.heap.size) B d G ∧ RisF us ∧ us.Perm (ks.map (·.fc)) ∧ Ext w1 w3) := Lib.hid (by rw [hw3]; exact HEND.out d' n os hp1 hs1)
        clear hp1 hs1 hw3 KSO HEND
        go_wp2_with fail
        obtain ⟨us, B, d, G, h1, h2, h3, h4, h5⟩ := HF.out
        exact HYES.out us g w3 B d G HB.out h1 (h2.weak fun x hx => ⟨Nat.le_trans HX1.out.size hx.1, hx.2⟩) h3 h4 (HX1.out.trans h5)
end Go.Proofs.YtkdhpifjljkpfaaGreat
