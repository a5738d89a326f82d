/- facts.copied: a list of facts kept in new memory. -/
import Derived.Test.YtcfhokejfibgoaaFkl
import Derived.Test.YtcfhokejfibgoaaFkj
import Derived.Laws.MakeOwn
namespace Go.Proofs.Ytcfhokejfibgoaa
open Go.RowKit

theorem chg7 {w : World} {g : Nat} (o0 o1 o2 o3 o4 o5 o6 : Nat) (v0 v1 v2 v3 v4 v5 v6 : Value) : Chg (· = g) w (((((((w.setCell ⟨g, o0, none⟩ v0).setCell ⟨g, o1, none⟩ v1).setCell ⟨g, o2, none⟩ v2).setCell ⟨g, o3, none⟩ v3).setCell ⟨g, o4, none⟩ v4).setCell ⟨g, o5, none⟩ v5).setCell ⟨g, o6, none⟩ v6) := by
  refine ⟨by simp [World.setCell], by simp [World.setCell], by simp [World.setCell], by simp [World.setCell], fun k _ hk => ?_⟩
  rw [Below.heap_setCell _ _ _ _ hk, Below.heap_setCell _ _ _ _ hk, Below.heap_setCell _ _ _ _ hk, Below.heap_setCell _ _ _ _ hk, Below.heap_setCell _ _ _ _ hk, Below.heap_setCell _ _ _ _ hk, Below.heap_setCell _ _ _ _ hk]
theorem infoKp : (Try.prog.info? 73).map (fun i => (i.zero, i.size, i.bytes)) = some (some (.agg #[.int .i64 0, .int .i64 0, .string ⟨#[]⟩, .int .i64 0, .slice none 0 0, .int .i64 0, .int .i64 0]), 7, 80) := by kernel_rfl
/-- facts kept, in blocks that lie behind w's end, none twice -/
structure KOwned (ks : List Kp) (w w' : World) (v : Value) (zs : List KLain) (G : Nat → Nat → Prop) : Prop where
  map : zs.map (·.1) = ks
  own : w'.ownsRow w.heap.size 73 7 v ks.length (Krow zs)
  inv : CopyInv w w' v (zs.map KLain.tl) G
  side : ∀ z ∈ zs, (Lit.int .i64 z.1.seq).wf = true
theorem KOwned.len {ks : List Kp} {w w' : World} {v : Value} {zs : List KLain} {G : Nat → Nat → Prop} (h : KOwned ks w w' v zs G) : zs.length = ks.length := by rw [← h.map, List.length_map]
theorem KOwned.at_ {ks : List Kp} {w w' : World} {v : Value} {zs : List KLain} {G : Nat → Nat → Prop} (h : KOwned ks w w' v zs G) : ∃ A c, v = .slice A ks.length c ∧ ks.length ≤ c ∧ KpsAt w' ks A := by
  obtain ⟨A, c, e, hc, hK⟩ := Kowned h.own (fun x hx => by
    obtain ⟨i, hi, rfl⟩ := List.getElem_of_mem hx
    refine ⟨?_, h.side _ hx⟩
    have := h.inv.sub i (by simpa using hi)
    simp only [List.getElem_map, KLain.tl] at this
    exact this.at_)
  rw [h.len] at e hc
  rw [h.map] at hK
  exact ⟨A, c, e, hc, hK⟩
def KCopied (ks : List Kp) (w : World) (e : Ending) (w' : World) : Prop := ∃ v zs G, e = .returned v ∧ KOwned ks w w' v zs G

set_option maxRecDepth 100000 in
set_option maxHeartbeats 8000000 in
theorem copied_any (ks : List Kp) (A : Option Addr) (c : Nat) (w : World) (hl : ks.length ≤ 1000000) (h : KpsAt w ks A) (hm : ∀ i (h : i < ks.length), May ks[i].fc) :
    Calls Try.prog 30 #[.slice A ks.length c] w (KCopied ks w) := by
  obtain ⟨i0, hi0, hz0, hz1, hz2⟩ := info_parts infoKp
  have hmk : ∀ u : World, (Instr.makeSlice 22 (.int .i64 (ks.length : Int)) (.int .i64 (ks.length : Int))).run Try.prog u =
      .ok (.slice (some ⟨u.heap.size, 0, none⟩) ks.length ks.length) (u.alloc (.cells (madeCells #[.int .i64 0, .int .i64 0, .string ⟨#[]⟩, .int .i64 0, .slice none 0 0, .int .i64 0, .int .i64 0] (ks.length * 7)) 73)) := fun u => by
    have h := run_make (P := Try.prog) u 22 73 i0 _ Try.underlying22 hi0 hz0 .i64 .i64 (ks.length : Int) (ks.length : Int) (by omega) (Int.le_refl _) (by rw [hz2]; omega) (by omega)
    simp only [Int.toNat_natCast, hz1] at h
    exact h
  have hST := KFill.start (W := w) ks rfl (g := w.heap.size) (madeCells #[.int .i64 0, .int .i64 0, .string ⟨#[]⟩, .int .i64 0, .slice none 0 0, .int .i64 0, .int .i64 0] (ks.length * 7)) rfl (size_madeCells _ _) (by unfold maxLen; omega)
  go_enter Try.func30, Try.ntmps30
  go_upto_region 2 with (fail)
  clear hmk
  obtain ⟨g, hg⟩ : ∃ g, g = w.heap.size := ⟨_, rfl⟩
  rw [← hg] at hST
  rw [← hg]
  generalize w.alloc (.cells (madeCells #[.int .i64 0, .int .i64 0, .string ⟨#[]⟩, .int .i64 0, .slice none 0 0, .int .i64 0, .int .i64 0] (ks.length * 7)) 73) = W1 at *
  have HG : Hid (w.heap.size ≤ g) := Lib.hid (by omega)
  have HL := Lib.hid hl
  have HM := Lib.hid hm
  have HH := Lib.hid h
  clear hg h hm hl i0 hi0 hz0 hz1 hz2
  go_wp2_with fail
  go_loopw [11, 4, 5] (fun i _ _ wr => ∃ (k : Nat) (zs : List KLain) (G : Nat → Nat → Prop) (ys : List Value), k ≤ ks.length ∧ i = .int .i64 k ∧ KFill w wr ks g k zs G ys) (fun i _ _ _ => ks.length - (intOf i).toNat)
  case atStart => exact ⟨0, [], _, _, Nat.zero_le _, rfl, hST⟩
  case round =>
    obtain ⟨k, zs, G, ys, hk, rfl, hF⟩ := hrel
    have hx := hF.inv.ext
    by_cases hlt : k < ks.length
    · obtain ⟨b, o, B, e, rfl, c0, c1, c2, c3, c4, c5, c6, hsub, hwf⟩ := (HH.out.ext hx) k hlt
      have hki : (k : Int) < (ks.length : Int) := by omega
      have hk0 : (0 : Int) ≤ (k : Int) := by omega
      have KC := Lib.hid (fun u (k' : Ext wr u) => copiedFact_any ks[k].fc B e u (hsub.ext k') (HM.out k hlt))
      obtain ⟨⟨y0, e0⟩, ⟨y1, e1⟩, ⟨y2, e2⟩, ⟨y3, e3⟩, ⟨y4, e4⟩, ⟨y5, e5⟩, ⟨y6, e6⟩, f0, f1, f2, f3, f4, f5, f6, hgl⟩ := hF.cells hlt
      have HF := Lib.hid hF
      have HK := Lib.hid hlt
      have HWF := Lib.hid hwf
      have HFST : Hid (∀ (w1 : World) (A' : Option Addr) (c' : Nat), TmOwn w1 ks[k].fc.tm A' c' (fun x => wr.heap.size ≤ x ∧ x < w1.heap.size) → Ext wr w1 → ∃ zs' G' ys', KFill w (set7 w1 g (k * 7) (.int .i64 ks[k].seq) (.int .i64 ks[k].fc.tm.kind) (.string ks[k].fc.tm.name) (.int .i64 ks[k].fc.tm.n) (.slice A' ks[k].fc.tm.args.length c') (.int .i64 ks[k].fc.fr) (.int .i64 ks[k].fc.til)) ks g (k + 1) zs' G' ys') := Lib.hid fun w1 A' c' hO hx1 => by
        obtain ⟨G', h'⟩ := hF.store hlt HG.out hO hx1 hwf
        exact ⟨_, G', _, h'⟩
      generalize ks[k] = q at *
      clear hF hsub hwf hx hST
      go_upto_region 5 with (fail)
      obtain ⟨wb, hwb⟩ : ∃ wb, wb = wr.alloc (.cells #[.int .i64 q.seq, .int .i64 q.fc.tm.kind, .string q.fc.tm.name, .int .i64 q.fc.tm.n, .slice B q.fc.tm.args.length e, .int .i64 q.fc.fr, .int .i64 q.fc.til] 73) := ⟨_, rfl⟩
      rw [← hwb]
      have hxb : Ext wr wb := by rw [hwb]; exact (Ext.refl _).alloc _
      have n0 : wb.cell? ⟨wr.heap.size, 0, none⟩ = some (.int .i64 q.seq) := by rw [hwb]; go_simp
      have n1 : wb.cell? ⟨wr.heap.size, 1, none⟩ = some (.int .i64 q.fc.tm.kind) := by rw [hwb]; go_simp
      have n2 : wb.cell? ⟨wr.heap.size, 2, none⟩ = some (.string q.fc.tm.name) := by rw [hwb]; go_simp
      have n3 : wb.cell? ⟨wr.heap.size, 3, none⟩ = some (.int .i64 q.fc.tm.n) := by rw [hwb]; go_simp
      have n4 : wb.cell? ⟨wr.heap.size, 4, none⟩ = some (.slice B q.fc.tm.args.length e) := by rw [hwb]; go_simp
      have n5 : wb.cell? ⟨wr.heap.size, 5, none⟩ = some (.int .i64 q.fc.fr) := by rw [hwb]; go_simp
      have n6 : wb.cell? ⟨wr.heap.size, 6, none⟩ = some (.int .i64 q.fc.til) := by rw [hwb]; go_simp
      have hgb : wr.heap.size ≠ g := by omega
      have hsb := hxb.size
      clear hwb c0 c1 c2 c3 c4 c5 c6
      have rulesI := fun (u : World) (z : Chg (· = g) wb u) => And.intro (z.cell n0 hgb) (And.intro (z.cell n1 hgb) (And.intro (z.cell n2 hgb) (And.intro (z.cell n3 hgb) (And.intro (z.cell n4 hgb) (And.intro (z.cell n5 hgb) (z.cell n6 hgb))))))
      have KC2 := Lib.hid (fun (u : World) (hu : Ext wb u) => (KC.out u (hxb.trans hu)).mono (fun e w' (hc : FCopied q.fc u e w') => (show ∃ A' c', e = Ending.returned (q.fc.val A' c') ∧ TmOwn w' q.fc.tm A' c' (fun x => wr.heap.size ≤ x ∧ x < w'.heap.size) ∧ Ext wr w' ∧ Ext wb w' from by
        obtain ⟨A', c', he, hO, hx⟩ := hc
        have hs := (hxb.trans hu).size
        exact ⟨A', c', he, hO.weak (fun x hx => ⟨Nat.le_trans hs hx.1, hx.2⟩), (hxb.trans hu).trans hx, hu.trans hx⟩)))
      have hI0 : Chg (· = g) wb wb := Chg.refl _ wb
      clear n0 n1 n2 n3 n4 n5 n6
      obtain ⟨m0, m1, m2, m3, m4, m5, m6⟩ := rulesI wb hI0
      go_region_with (go_at_call 31; refine (KC2.out _ (by first | assumption | exact Ext.refl _ | exact Ext.drew (Ext.refl _))).mono ?_; rintro e1 w1 ⟨A', c', rfl, hO, hx1, hx2⟩; have v0 := hx1.cell e0; have v1 := hx1.cell e1; have v2 := hx1.cell e2; have v3 := hx1.cell e3; have v4 := hx1.cell e4; have v5 := hx1.cell e5; have v6 := hx1.cell e6; have g0 := (Below.frozen hx1 (p := ⟨g, k * 7, none⟩) hgl).trans f0; have g1 := (Below.frozen hx1 (p := ⟨g, k * 7 + 1, none⟩) hgl).trans f1; have g2 := (Below.frozen hx1 (p := ⟨g, k * 7 + 2, none⟩) hgl).trans f2; have g3 := (Below.frozen hx1 (p := ⟨g, k * 7 + 3, none⟩) hgl).trans f3; have g4 := (Below.frozen hx1 (p := ⟨g, k * 7 + 4, none⟩) hgl).trans f4; have g5 := (Below.frozen hx1 (p := ⟨g, k * 7 + 5, none⟩) hgl).trans f5; have g6 := (Below.frozen hx1 (p := ⟨g, k * 7 + 6, none⟩) hgl).trans f6; obtain ⟨p0, p1, p2, p3, p4, p5, p6⟩ := rulesI w1 (Chg.of_ext hx2))
      all_goals
        have hst := HFST.out w1 A' c' hO hx1
        have HST := Lib.hid hst
        have hkb : k < 1000000 := Nat.lt_of_lt_of_le HK.out HL.out
        clear hst rulesI hI0 hO hx1 hx2 v0 v1 v2 v3 v4 v5 v6 g0 g1 g2 g3 g4 g5 g6 p0 p1 p2 p3 p4 p5 p6 m0 m1 m2 m3 m4 m5 m6 e0 e1 e2 e3 e4 e5 e6 f0 f1 f2 f3 f4 f5 f6 HFST KC KC2
        go_wp2_with fail
        go_roundw
        case rel =>
          obtain ⟨zs', G', ys', h'⟩ := HST.out
          exact ⟨k + 1, zs', G', ys', HK.out, by have := HL.out; go_num, h'⟩
        case measure => have := HK.out; have := HL.out; simp [intOf]; omega
    · have hki : ¬ ((k : Int) < (ks.length : Int)) := by omega
      have HF : Hid (KCopied ks w (.returned (.slice (some ⟨g, 0, none⟩) ks.length ks.length)) wr) := Lib.hid (by
        have hrow : ys = Krow zs := hF.row.all (by rw [hF.all, hF.len]; omega)
        refine ⟨_, zs, G, rfl, by rw [hF.map, List.take_of_length_le (by omega)], ?_, hF.inv, hF.side⟩
        rw [← hrow]
        exact hF.own)
      clear hF hx
      go_wp2_with fail
      go_ret
      exact HF.out
end Go.Proofs.Ytcfhokejfibgoaa
