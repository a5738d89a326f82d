/- Joined: Phj, Phk, Phl. -/
import Derived.Test.YtbjghkmjnhmlfaaGreatDoorYZ

/- The page's reader: Parts: how many parts a pattern has. -/
namespace Go.Proofs.YtbjghkmjnhmlfaaGreatDoor
open Go.RowKit

mutual
theorem Pt.parts_nn : ∀ p : Pt, 0 ≤ p.parts
  | ⟨kind, t, r0, l, r, c⟩ => by
    have h1 := partsL_nn l
    have h2 := partsL_nn r
    have h3 := partsL_nn c
    simp only [Pt.parts]
    split <;> omega
theorem partsL_nn : ∀ l : List Pt, 0 ≤ partsL l
  | [] => by simp [partsL]
  | p :: ps => by
    have h1 := Pt.parts_nn p
    have h2 := partsL_nn ps
    simp only [partsL]
    omega
end
theorem partsL_take : ∀ (l : List Pt) (k : Nat) (h : k < l.length), partsL (l.take (k + 1)) = partsL (l.take k) + l[k].parts
  | p :: ps, 0, _ => by simp [partsL]
  | p :: ps, k + 1, h => by
    have := partsL_take ps k (by simpa using h)
    simp only [List.take_succ_cons, partsL, List.getElem_cons_succ] at this ⊢
    omega
theorem partsL_take_le : ∀ (l : List Pt) (k : Nat), partsL (l.take k) ≤ partsL l
  | [], k => by simp [partsL]
  | p :: ps, 0 => by
    have h := partsL_nn (p :: ps)
    simpa [partsL] using h
  | p :: ps, k + 1 => by
    have := partsL_take_le ps k
    simp only [List.take_succ_cons, partsL]
    omega
theorem wf_of {n : Int} (h0 : 0 ≤ n) (h1 : n ≤ 1099511627776) : IntKind.i64.wrap n = n := by rw [IntKind.wrap_i64]; omega
set_option maxRecDepth 100000 in
set_option maxHeartbeats 4000000 in
theorem parts_pg {w : World} {F : Nat → Prop} {p : Pt} {a : PtPl} (h : PtIn w F p a) : ∀ wx, Ext w wx → p.parts ≤ 1099511627776 → Calls Tryz.prog 41 #[p.val a] wx fun e w' => e = .returned (.int .i64 p.parts) ∧ Ext wx w' := by
  induction h with
  | mk p a gl gr gc fits cap tm l r c sl sr sc il ir ic =>
  intro wx hwx hM
  obtain ⟨pk, ptm, prl, pl, pr, pc⟩ := p
  obtain ⟨w0, hw0⟩ : ∃ w0, w0 = wx.alloc (.cells #[.int .i64 pk, .int .i64 ptm.kind, .string ptm.name, .int .i64 ptm.n, .slice a.A ptm.args.length a.ac, .int .i64 prl, .slice a.L pl.length a.lc, .slice a.R pr.length a.rc, .slice a.C pc.length a.cc] 63) := ⟨_, rfl⟩
  have hb0 : Box9 w0 wx.heap.size [.int .i64 pk, .int .i64 ptm.kind, .string ptm.name, .int .i64 ptm.n, .slice a.A ptm.args.length a.ac, .int .i64 prl, .slice a.L pl.length a.lc, .slice a.R pr.length a.rc, .slice a.C pc.length a.cc] := by rw [hw0]; exact Box9.new wx _ _ rfl
  have hx0 : Ext wx w0 := by rw [hw0]; exact (Ext.refl _).alloc _
  have hw00 := hwx.trans hx0
  have HW0 := Lib.hid hw0
  have fl := fits.l
  have fr := fits.r
  have fc := fits.c
  have nl := partsL_nn pl
  have nr := partsL_nn pr
  have nc := partsL_nn pc
  simp only at l r c sl sr sc il ir ic fl fr fc
  clear hw0 tm cap fits sl sr sc
  obtain ⟨y0, y1, y2, y3, y4, y5, y6, y7, y8⟩ := hb0.get
  by_cases hk : pk = 1
  · subst hk
    have hv : Hid ((⟨1, ptm, prl, pl, pr, pc⟩ : Pt).parts = 1) := Lib.hid (by simp [Pt.parts])
    clear hM
    go_enter Tryz.func41, Tryz.ntmps41
    go_upto_region 1 with (fail)
    rw [← HW0.out]
    go_wp2_with fail
    go_ret
    exact ⟨by rw [hv.out]; rfl, hx0⟩
  · have hkk : (pk == 1) = false := by simp [hk]
    have hv : Hid ((⟨pk, ptm, prl, pl, pr, pc⟩ : Pt).parts = partsL pl + partsL pr + partsL pc) := Lib.hid (by simp [Pt.parts, hk])
    rw [hv.out] at hM
    go_enter Tryz.func41, Tryz.ntmps41
    go_upto_region 1 with (fail)
    rw [← HW0.out]
    go_upto_region 5 with (fail)
    clear y0 y1 y2 y3 y4 y5 y6 y7 y8 hkk
    go_loopw [3, 4] (fun n i wr => ∃ k : Nat, k ≤ pl.length ∧ i = .int .i64 k ∧ n = .int .i64 (partsL (pl.take k)) ∧ Ext w0 wr) (fun _ i _ => pl.length - (intOf i).toNat)
    case atStart => exact ⟨0, Nat.zero_le _, rfl, by simp [partsL], Ext.refl _⟩
    case round =>
      obtain ⟨k, hkl, rfl, rfl, hx⟩ := hrel
      obtain ⟨y0, y1, y2, y3, y4, y5, y6, y7, y8⟩ := (hb0.ext hx).get
      by_cases hlt : k < pl.length
      · obtain ⟨b, hL, _, hc⟩ := l k hlt
        have hwr := hw00.trans hx
        have e0 := hwr.cell (hc 0 (by omega))
        have e1 := hwr.cell (hc 1 (by omega))
        have e2 := hwr.cell (hc 2 (by omega))
        have e3 := hwr.cell (hc 3 (by omega))
        have e4 := hwr.cell (hc 4 (by omega))
        have e5 := hwr.cell (hc 5 (by omega))
        have e6 := hwr.cell (hc 6 (by omega))
        have e7 := hwr.cell (hc 7 (by omega))
        have e8 := hwr.cell (hc 8 (by omega))
        simp only [List.getElem_cons_zero, List.getElem_cons_succ, Nat.add_zero] at e0 e1 e2 e3 e4 e5 e6 e7 e8
        rw [hL] at y6
        have i0 : (0 : Int) ≤ (k : Int) := Int.natCast_nonneg _
        have i1 : (k : Int) < (pl.length : Int) := by omega
        have hs := partsL_take pl k hlt
        have hs1 := partsL_take_le pl (k + 1)
        have hs0 := partsL_nn (pl.take k)
        have hsp := Pt.parts_nn (pl[k])
        have KQ := Lib.hid (il k hlt wr hwr (by omega))
        have hw1 : IntKind.i64.wrap (partsL (pl.take k) + (pl[k]).parts) = partsL (pl.take (k + 1)) := by rw [wf_of (by omega) (by omega), hs]; try omega
        have hw2 : IntKind.i64.wrap ((k : Int) + 1) = ((k + 1 : Nat) : Int) := by rw [IntKind.wrap_i64]; omega
        clear hc hs hs1 hs0 hsp
        go_wp2_with fail
        refine KQ.out.mono ?_
        rintro e w1 ⟨rfl, hx1⟩
        clear KQ e0 e1 e2 e3 e4 e5 e6 e7 e8
        go_wp2_with fail
        go_roundw
        case rel => exact ⟨k + 1, by omega, rfl, rfl, hx.trans hx1⟩
        case measure => simp [intOf]; omega
      · have hke : pl.take k = pl := List.take_of_length_le (by omega)
        rw [hke]
        clear hke
        go_upto_region 9 with (fail)
        clear y0 y1 y2 y3 y4 y5 y6 y7 y8
        go_loopw [3, 5] (fun n i wr => ∃ k : Nat, k ≤ pr.length ∧ i = .int .i64 k ∧ n = .int .i64 (partsL pl + partsL (pr.take k)) ∧ Ext w0 wr) (fun _ i _ => pr.length - (intOf i).toNat)
        case atStart => exact ⟨0, Nat.zero_le _, rfl, by simp [partsL], hx⟩
        case round =>
          obtain ⟨k, hkl, rfl, rfl, hx⟩ := hrel
          obtain ⟨y0, y1, y2, y3, y4, y5, y6, y7, y8⟩ := (hb0.ext hx).get
          by_cases hlt : k < pr.length
          · obtain ⟨b, hL, _, hc⟩ := r k hlt
            have hwr := hw00.trans hx
            have e0 := hwr.cell (hc 0 (by omega))
            have e1 := hwr.cell (hc 1 (by omega))
            have e2 := hwr.cell (hc 2 (by omega))
            have e3 := hwr.cell (hc 3 (by omega))
            have e4 := hwr.cell (hc 4 (by omega))
            have e5 := hwr.cell (hc 5 (by omega))
            have e6 := hwr.cell (hc 6 (by omega))
            have e7 := hwr.cell (hc 7 (by omega))
            have e8 := hwr.cell (hc 8 (by omega))
            simp only [List.getElem_cons_zero, List.getElem_cons_succ, Nat.add_zero] at e0 e1 e2 e3 e4 e5 e6 e7 e8
            rw [hL] at y7
            have i0 : (0 : Int) ≤ (k : Int) := Int.natCast_nonneg _
            have i1 : (k : Int) < (pr.length : Int) := by omega
            have hs := partsL_take pr k hlt
            have hs1 := partsL_take_le pr (k + 1)
            have hs0 := partsL_nn (pr.take k)
            have hsp := Pt.parts_nn (pr[k])
            have KQ := Lib.hid (ir k hlt wr hwr (by omega))
            have hw1 : IntKind.i64.wrap (partsL pl + partsL (pr.take k) + (pr[k]).parts) = partsL pl + partsL (pr.take (k + 1)) := by rw [wf_of (by omega) (by omega), hs]; try omega
            have hw2 : IntKind.i64.wrap ((k : Int) + 1) = ((k + 1 : Nat) : Int) := by rw [IntKind.wrap_i64]; omega
            clear hc hs hs1 hs0 hsp
            go_wp2_with fail
            refine KQ.out.mono ?_
            rintro e w1 ⟨rfl, hx1⟩
            clear KQ e0 e1 e2 e3 e4 e5 e6 e7 e8
            go_wp2_with fail
            go_roundw
            case rel => exact ⟨k + 1, by omega, rfl, rfl, hx.trans hx1⟩
            case measure => simp [intOf]; omega
          · have hke : pr.take k = pr := List.take_of_length_le (by omega)
            rw [hke]
            clear hke
            go_upto_region 13 with (fail)
            clear y0 y1 y2 y3 y4 y5 y6 y7 y8
            go_loopw [3, 6] (fun n i wr => ∃ k : Nat, k ≤ pc.length ∧ i = .int .i64 k ∧ n = .int .i64 (partsL pl + partsL pr + partsL (pc.take k)) ∧ Ext w0 wr) (fun _ i _ => pc.length - (intOf i).toNat)
            case atStart => exact ⟨0, Nat.zero_le _, rfl, by simp [partsL], hx⟩
            case round =>
              obtain ⟨k, hkl, rfl, rfl, hx⟩ := hrel
              obtain ⟨y0, y1, y2, y3, y4, y5, y6, y7, y8⟩ := (hb0.ext hx).get
              by_cases hlt : k < pc.length
              · obtain ⟨b, hL, _, hc⟩ := c k hlt
                have hwr := hw00.trans hx
                have e0 := hwr.cell (hc 0 (by omega))
                have e1 := hwr.cell (hc 1 (by omega))
                have e2 := hwr.cell (hc 2 (by omega))
                have e3 := hwr.cell (hc 3 (by omega))
                have e4 := hwr.cell (hc 4 (by omega))
                have e5 := hwr.cell (hc 5 (by omega))
                have e6 := hwr.cell (hc 6 (by omega))
                have e7 := hwr.cell (hc 7 (by omega))
                have e8 := hwr.cell (hc 8 (by omega))
                simp only [List.getElem_cons_zero, List.getElem_cons_succ, Nat.add_zero] at e0 e1 e2 e3 e4 e5 e6 e7 e8
                rw [hL] at y8
                have i0 : (0 : Int) ≤ (k : Int) := Int.natCast_nonneg _
                have i1 : (k : Int) < (pc.length : Int) := by omega
                have hs := partsL_take pc k hlt
                have hs1 := partsL_take_le pc (k + 1)
                have hs0 := partsL_nn (pc.take k)
                have hsp := Pt.parts_nn (pc[k])
                have KQ := Lib.hid (ic k hlt wr hwr (by omega))
                have hw1 : IntKind.i64.wrap (partsL pl + partsL pr + partsL (pc.take k) + (pc[k]).parts) = partsL pl + partsL pr + partsL (pc.take (k + 1)) := by rw [wf_of (by omega) (by omega), hs]; try omega
                have hw2 : IntKind.i64.wrap ((k : Int) + 1) = ((k + 1 : Nat) : Int) := by rw [IntKind.wrap_i64]; omega
                clear hc hs hs1 hs0 hsp
                go_wp2_with fail
                refine KQ.out.mono ?_
                rintro e w1 ⟨rfl, hx1⟩
                clear KQ e0 e1 e2 e3 e4 e5 e6 e7 e8
                go_wp2_with fail
                go_roundw
                case rel => exact ⟨k + 1, by omega, rfl, rfl, hx.trans hx1⟩
                case measure => simp [intOf]; omega
              · have hke : pc.take k = pc := List.take_of_length_le (by omega)
                rw [hke]
                clear hke
                go_wp2_with fail
                go_ret
                exact ⟨by rw [hv.out]; rfl, hx0.trans hx⟩

end Go.Proofs.YtbjghkmjnhmlfaaGreatDoor

/- The page's reader: Deep, much. -/
namespace Go.Proofs.YtbjghkmjnhmlfaaGreatDoor
open Go.RowKit

mutual
theorem Pt.deep_nn : ∀ p : Pt, 0 ≤ p.deep
  | ⟨kind, t, r0, l, r, c⟩ => by
    have h1 := deepL_nn l
    have h2 := deepL_nn r
    have h3 := deepL_nn c
    simp only [Pt.deep]
    omega
theorem deepL_nn : ∀ l : List Pt, 0 ≤ deepL l
  | [] => by simp [deepL]
  | p :: ps => by
    have h1 := Pt.deep_nn p
    have h2 := deepL_nn ps
    simp only [deepL]
    omega
end
theorem deepL_take : ∀ (l : List Pt) (k : Nat) (h : k < l.length), deepL (l.take (k + 1)) = max (deepL (l.take k)) l[k].deep
  | p :: ps, 0, _ => by
    have := Pt.deep_nn p
    simp only [List.take_succ_cons, List.take_zero, deepL, List.getElem_cons_zero]
    omega
  | p :: ps, k + 1, h => by
    have := deepL_take ps k (by simpa using h)
    simp only [List.take_succ_cons, deepL, List.getElem_cons_succ] at this ⊢
    omega
theorem deepL_take_le : ∀ (l : List Pt) (k : Nat), deepL (l.take k) ≤ deepL l
  | [], k => by simp [deepL]
  | p :: ps, 0 => by
    have h := deepL_nn (p :: ps)
    simpa [deepL] using h
  | p :: ps, k + 1 => by
    have := deepL_take_le ps k
    simp only [List.take_succ_cons, deepL]
    omega
theorem max_of (a b : Int) : (if b < a then a else b) = max a b := by omega
set_option maxRecDepth 100000 in
set_option maxHeartbeats 4000000 in
theorem deep_pg {w : World} {F : Nat → Prop} {p : Pt} {a : PtPl} (h : PtIn w F p a) : ∀ wx, Ext w wx → p.deep ≤ 1099511627776 → Calls Tryz.prog 42 #[p.val a] wx fun e w' => e = .returned (.int .i64 p.deep) ∧ Ext wx w' := by
  induction h with
  | mk p a gl gr gc fits cap tm l r c sl sr sc il ir ic =>
  intro wx hwx hM
  obtain ⟨pk, ptm, prl, pl, pr, pc⟩ := p
  obtain ⟨w0, hw0⟩ : ∃ w0, w0 = wx.alloc (.cells #[.int .i64 pk, .int .i64 ptm.kind, .string ptm.name, .int .i64 ptm.n, .slice a.A ptm.args.length a.ac, .int .i64 prl, .slice a.L pl.length a.lc, .slice a.R pr.length a.rc, .slice a.C pc.length a.cc] 63) := ⟨_, rfl⟩
  have hb0 : Box9 w0 wx.heap.size [.int .i64 pk, .int .i64 ptm.kind, .string ptm.name, .int .i64 ptm.n, .slice a.A ptm.args.length a.ac, .int .i64 prl, .slice a.L pl.length a.lc, .slice a.R pr.length a.rc, .slice a.C pc.length a.cc] := by rw [hw0]; exact Box9.new wx _ _ rfl
  have hx0 : Ext wx w0 := by rw [hw0]; exact (Ext.refl _).alloc _
  have hw00 := hwx.trans hx0
  have HW0 := Lib.hid hw0
  have fl := fits.l
  have fr := fits.r
  have fc := fits.c
  have nl := deepL_nn pl
  have nr := deepL_nn pr
  have nc := deepL_nn pc
  simp only at l r c sl sr sc il ir ic fl fr fc
  clear hw0 tm cap fits sl sr sc
  obtain ⟨y0, y1, y2, y3, y4, y5, y6, y7, y8⟩ := hb0.get
  have hv : Hid ((⟨pk, ptm, prl, pl, pr, pc⟩ : Pt).deep = max (max (deepL pl) (deepL pr)) (deepL pc) + 1) := Lib.hid (by simp [Pt.deep])
  rw [hv.out] at hM
  go_enter Tryz.func42, Tryz.ntmps42
  go_upto_region 1 with (fail)
  rw [← HW0.out]
  go_upto_region 3 with (fail)
  clear y0 y1 y2 y3 y4 y5 y6 y7 y8
  go_loopw [3, 4] (fun n i wr => ∃ k : Nat, k ≤ pl.length ∧ i = .int .i64 k ∧ n = .int .i64 ((deepL (pl.take k))) ∧ Ext w0 wr) (fun _ i _ => pl.length - (intOf i).toNat)
  case atStart => exact ⟨0, Nat.zero_le _, rfl, by simp [deepL]; try omega, Ext.refl _⟩
  case round =>
    obtain ⟨k, hkl, rfl, rfl, hx⟩ := hrel
    obtain ⟨y0, y1, y2, y3, y4, y5, y6, y7, y8⟩ := (hb0.ext hx).get
    by_cases hlt : k < pl.length
    · obtain ⟨b, hL, _, hc⟩ := l k hlt
      have hwr := hw00.trans hx
      have e0 := hwr.cell (hc 0 (by omega))
      have e1 := hwr.cell (hc 1 (by omega))
      have e2 := hwr.cell (hc 2 (by omega))
      have e3 := hwr.cell (hc 3 (by omega))
      have e4 := hwr.cell (hc 4 (by omega))
      have e5 := hwr.cell (hc 5 (by omega))
      have e6 := hwr.cell (hc 6 (by omega))
      have e7 := hwr.cell (hc 7 (by omega))
      have e8 := hwr.cell (hc 8 (by omega))
      simp only [List.getElem_cons_zero, List.getElem_cons_succ, Nat.add_zero] at e0 e1 e2 e3 e4 e5 e6 e7 e8
      rw [hL] at y6
      have i0 : (0 : Int) ≤ (k : Int) := Int.natCast_nonneg _
      have i1 : (k : Int) < (pl.length : Int) := by omega
      have hs := deepL_take pl k hlt
      have hs1 := deepL_take_le pl (k + 1)
      have hs0 := deepL_nn (pl.take k)
      have hsp := Pt.deep_nn (pl[k])
      have KQ := Lib.hid (il k hlt wr hwr (by omega))
      have hw2 : IntKind.i64.wrap ((k : Int) + 1) = ((k + 1 : Nat) : Int) := by rw [IntKind.wrap_i64]; omega
      clear hc hs1 hs0 hsp
      have HS := Lib.hid hs
      clear hs
      go_wp2_with fail
      refine KQ.out.mono ?_
      rintro e w1 ⟨rfl, hx1⟩
      clear KQ e0 e1 e2 e3 e4 e5 e6 e7 e8
      go_wp2_with fail
      go_roundw
      case rel => exact ⟨k + 1, by omega, rfl, by have := HS.out; first | (congr 1; omega) | omega, hx.trans hx1⟩
      case measure => simp [intOf]; omega
    · have hke : pl.take k = pl := List.take_of_length_le (by omega)
      rw [hke]
      clear hke
      go_upto_region 7 with (fail)
      clear y0 y1 y2 y3 y4 y5 y6 y7 y8
      go_loopw [3, 5] (fun n i wr => ∃ k : Nat, k ≤ pr.length ∧ i = .int .i64 k ∧ n = .int .i64 (max (deepL pl) (deepL (pr.take k))) ∧ Ext w0 wr) (fun _ i _ => pr.length - (intOf i).toNat)
      case atStart => exact ⟨0, Nat.zero_le _, rfl, by simp [deepL]; try omega, hx⟩
      case round =>
        obtain ⟨k, hkl, rfl, rfl, hx⟩ := hrel
        obtain ⟨y0, y1, y2, y3, y4, y5, y6, y7, y8⟩ := (hb0.ext hx).get
        by_cases hlt : k < pr.length
        · obtain ⟨b, hL, _, hc⟩ := r k hlt
          have hwr := hw00.trans hx
          have e0 := hwr.cell (hc 0 (by omega))
          have e1 := hwr.cell (hc 1 (by omega))
          have e2 := hwr.cell (hc 2 (by omega))
          have e3 := hwr.cell (hc 3 (by omega))
          have e4 := hwr.cell (hc 4 (by omega))
          have e5 := hwr.cell (hc 5 (by omega))
          have e6 := hwr.cell (hc 6 (by omega))
          have e7 := hwr.cell (hc 7 (by omega))
          have e8 := hwr.cell (hc 8 (by omega))
          simp only [List.getElem_cons_zero, List.getElem_cons_succ, Nat.add_zero] at e0 e1 e2 e3 e4 e5 e6 e7 e8
          rw [hL] at y7
          have i0 : (0 : Int) ≤ (k : Int) := Int.natCast_nonneg _
          have i1 : (k : Int) < (pr.length : Int) := by omega
          have hs := deepL_take pr k hlt
          have hs1 := deepL_take_le pr (k + 1)
          have hs0 := deepL_nn (pr.take k)
          have hsp := Pt.deep_nn (pr[k])
          have KQ := Lib.hid (ir k hlt wr hwr (by omega))
          have hw2 : IntKind.i64.wrap ((k : Int) + 1) = ((k + 1 : Nat) : Int) := by rw [IntKind.wrap_i64]; omega
          clear hc hs1 hs0 hsp
          have HS := Lib.hid hs
          clear hs
          go_wp2_with fail
          refine KQ.out.mono ?_
          rintro e w1 ⟨rfl, hx1⟩
          clear KQ e0 e1 e2 e3 e4 e5 e6 e7 e8
          go_wp2_with fail
          go_roundw
          case rel => exact ⟨k + 1, by omega, rfl, by have := HS.out; first | (congr 1; omega) | omega, hx.trans hx1⟩
          case measure => simp [intOf]; omega
        · have hke : pr.take k = pr := List.take_of_length_le (by omega)
          rw [hke]
          clear hke
          go_upto_region 11 with (fail)
          clear y0 y1 y2 y3 y4 y5 y6 y7 y8
          go_loopw [3, 6] (fun n i wr => ∃ k : Nat, k ≤ pc.length ∧ i = .int .i64 k ∧ n = .int .i64 (max (max (deepL pl) (deepL pr)) (deepL (pc.take k))) ∧ Ext w0 wr) (fun _ i _ => pc.length - (intOf i).toNat)
          case atStart => exact ⟨0, Nat.zero_le _, rfl, by simp [deepL]; try omega, hx⟩
          case round =>
            obtain ⟨k, hkl, rfl, rfl, hx⟩ := hrel
            obtain ⟨y0, y1, y2, y3, y4, y5, y6, y7, y8⟩ := (hb0.ext hx).get
            by_cases hlt : k < pc.length
            · obtain ⟨b, hL, _, hc⟩ := c k hlt
              have hwr := hw00.trans hx
              have e0 := hwr.cell (hc 0 (by omega))
              have e1 := hwr.cell (hc 1 (by omega))
              have e2 := hwr.cell (hc 2 (by omega))
              have e3 := hwr.cell (hc 3 (by omega))
              have e4 := hwr.cell (hc 4 (by omega))
              have e5 := hwr.cell (hc 5 (by omega))
              have e6 := hwr.cell (hc 6 (by omega))
              have e7 := hwr.cell (hc 7 (by omega))
              have e8 := hwr.cell (hc 8 (by omega))
              simp only [List.getElem_cons_zero, List.getElem_cons_succ, Nat.add_zero] at e0 e1 e2 e3 e4 e5 e6 e7 e8
              rw [hL] at y8
              have i0 : (0 : Int) ≤ (k : Int) := Int.natCast_nonneg _
              have i1 : (k : Int) < (pc.length : Int) := by omega
              have hs := deepL_take pc k hlt
              have hs1 := deepL_take_le pc (k + 1)
              have hs0 := deepL_nn (pc.take k)
              have hsp := Pt.deep_nn (pc[k])
              have KQ := Lib.hid (ic k hlt wr hwr (by omega))
              have hw2 : IntKind.i64.wrap ((k : Int) + 1) = ((k + 1 : Nat) : Int) := by rw [IntKind.wrap_i64]; omega
              clear hc hs1 hs0 hsp
              have HS := Lib.hid hs
              clear hs
              go_wp2_with fail
              refine KQ.out.mono ?_
              rintro e w1 ⟨rfl, hx1⟩
              clear KQ e0 e1 e2 e3 e4 e5 e6 e7 e8
              go_wp2_with fail
              go_roundw
              case rel => exact ⟨k + 1, by omega, rfl, by have := HS.out; first | (congr 1; omega) | omega, hx.trans hx1⟩
              case measure => simp [intOf]; omega
            · have hke : pc.take k = pc := List.take_of_length_le (by omega)
              rw [hke]
              clear hke
              have hw3 : IntKind.i64.wrap (max (max (deepL pl) (deepL pr)) (deepL pc) + 1) = max (max (deepL pl) (deepL pr)) (deepL pc) + 1 := wf_of (by omega) (by omega)
              go_wp2_with fail
              go_ret
              exact ⟨by rw [hv.out, show max (max (deepL pl) (deepL pr)) (deepL pc) + 1 = max (deepL pl) (max (deepL pr) (deepL pc)) + 1 by omega]; rfl, hx0.trans hx⟩
set_option maxRecDepth 100000 in
set_option maxHeartbeats 4000000 in
theorem much_pg {w : World} {F : Nat → Prop} {p : Pt} {a : PtPl} (h : PtIn w F p a) (h1 : p.parts ≤ 1099511627776) (h2 : p.deep ≤ 1099511627776) : Calls Tryz.prog 23 #[p.val a] w fun e w' => e = .returned (.bool (muchB p)) ∧ Ext w w' := by
  obtain ⟨w0, hw0⟩ : ∃ w0, w0 = w.alloc (.cells #[.int .i64 p.kind, .int .i64 p.tm.kind, .string p.tm.name, .int .i64 p.tm.n, .slice a.A p.tm.args.length a.ac, .int .i64 p.rel, .slice a.L p.l.length a.lc, .slice a.R p.r.length a.rc, .slice a.C p.c.length a.cc] 63) := ⟨_, rfl⟩
  have hb0 : Box9 w0 w.heap.size (p.cells a) := by rw [hw0]; exact Box9.new w _ _ rfl
  have hx0 : Ext w w0 := by rw [hw0]; exact (Ext.refl _).alloc _
  have HW0 := Lib.hid hw0
  have KP := Lib.hid (parts_pg h w0 hx0 h1)
  have KD := Lib.hid (fun wx (hx : Ext w wx) => deep_pg h wx hx h2)
  clear hw0 h
  obtain ⟨y0, y1, y2, y3, y4, y5, y6, y7, y8⟩ := hb0.get
  by_cases h12 : 12 < p.parts
  · have hv : Hid (muchB p = true) := Lib.hid (by simp [muchB, h12])
    have hd : decide (p.parts > 12) = true := decide_eq_true h12
    go_enter Tryz.func23, Tryz.ntmps23
    go_upto_region 1 with (fail)
    rw [← HW0.out]
    go_wp2_with fail
    refine KP.out.mono ?_
    rintro e w1 ⟨rfl, hx1⟩
    clear KP KD
    go_wp2_with fail
    go_ret
    exact ⟨by rw [hv.out]; rfl, hx0.trans hx1⟩
  · have hd : decide (p.parts > 12) = false := decide_eq_false h12
    have hv : Hid (muchB p = decide (p.deep > 8)) := Lib.hid (by simp [muchB, h12])
    go_enter Tryz.func23, Tryz.ntmps23
    go_upto_region 1 with (fail)
    rw [← HW0.out]
    go_wp2_with fail
    refine KP.out.mono ?_
    rintro e w1 ⟨rfl, hx1⟩
    have K2 := Lib.hid (KD.out w1 (hx0.trans hx1))
    obtain ⟨z0, z1, z2, z3, z4, z5, z6, z7, z8⟩ := (hb0.ext hx1).get
    clear KP KD y0 y1 y2 y3 y4 y5 y6 y7 y8
    go_wp2_with fail
    refine K2.out.mono ?_
    rintro e w2 ⟨rfl, hx2⟩
    clear K2
    go_wp2_with fail
    go_ret
    exact ⟨by rw [hv.out]; rfl, (hx0.trans hx1).trans hx2⟩

end Go.Proofs.YtbjghkmjnhmlfaaGreatDoor

/- Pure: a pattern that was read has no more parts than words, and is no deeper. -/
namespace Go.Proofs.YtbjghkmjnhmlfaaGreatDoor
open Go.RowKit

def SmF (f : Nat → Rs Pt) : Prop := ∀ i p j, f i = .ok (p, j) → p.parts ≤ (j : Int) - i ∧ p.deep ≤ (j : Int) - i
section
variable {T : List Tok}
theorem two_sm {kind rel : Int} {t : Tm} {p q : Pt} (hk : kind ≠ 1) : (⟨kind, t, rel, [p], [q], []⟩ : Pt).parts = p.parts + q.parts ∧ (⟨kind, t, rel, [p], [q], []⟩ : Pt).deep ≤ max p.deep q.deep + 1 := by
  have h1 := Pt.deep_nn p
  have h2 := Pt.deep_nn q
  simp only [Pt.parts, Pt.deep, deepL, partsL, if_neg hk]
  omega
theorem three_sm {kind rel : Int} {t : Tm} {p q c : Pt} (hk : kind ≠ 1) : (⟨kind, t, rel, [p], [q], [c]⟩ : Pt).parts = p.parts + q.parts + c.parts ∧ (⟨kind, t, rel, [p], [q], [c]⟩ : Pt).deep ≤ max (max p.deep q.deep) c.deep + 1 := by
  have h1 := Pt.deep_nn p
  have h2 := Pt.deep_nn q
  have h3 := Pt.deep_nn c
  simp only [Pt.parts, Pt.deep, deepL, partsL, if_neg hk]
  omega
theorem chainP_sm {sign : Nat} {kind : Int} (hk : kind ≠ 1) {part : Nat → Rs Pt} (hf : SmF part) : ∀ (n : Nat) (p : Pt) (i0 i : Nat) (x : Pt) (j : Nat), i0 ≤ i → p.parts ≤ (i : Int) - i0 → p.deep ≤ (i : Int) - i0 → chainP T sign kind part n p i = .ok (x, j) → x.parts ≤ (j : Int) - i0 ∧ x.deep ≤ (j : Int) - i0 := by
  intro n
  induction n with
  | zero => intro p i0 i x j hi hp hd h; simp only [chainP] at h; cases h; exact ⟨hp, hd⟩
  | succ n ih =>
    intro p i0 i x j hi hp hd h
    simp only [chainP] at h
    split at h
    · match hf1 : part (i + 1) with
      | .error e => rw [hf1] at h; cases h
      | .ok (q, m) =>
        rw [hf1] at h
        have h1 := hf _ _ _ hf1
        have h2 := two_sm (p := p) (q := q) (rel := 0) (t := noTm) hk
        have h3 := Pt.deep_nn q
        have h4 := Pt.deep_nn p
        have h5 := Pt.parts_nn q
        exact ih _ i0 _ _ _ (by omega) (by omega) (by omega) h
    · cases h; exact ⟨hp, hd⟩
theorem chain_sm {sign : Nat} {kind : Int} (hk : kind ≠ 1) {part : Nat → Rs Pt} (hf : SmF part) : SmF (chain T sign kind part) := by
  intro i x j h
  unfold chain at h
  match hp : part i with
  | .error e => rw [hp] at h; cases h
  | .ok (p, m) =>
    rw [hp] at h
    have h1 := hf _ _ _ hp
    have h4 := Pt.deep_nn p
    exact chainP_sm hk hf _ _ i _ _ _ (by omega) h1.1 h1.2 h
theorem oneP_sm (hT : EndLast T) (k : Nat) {br : Nat → Rs Pt} (hb : SmF br) : SmF (oneP T k br) := by
  intro i x j h
  unfold oneP at h
  split at h
  · exact hb _ _ _ h
  · match ht : termP T k i with
    | .error e => rw [ht] at h; cases h
    | .ok (t, m) =>
      rw [ht] at h; cases h
      have := termP_takes hT k _ _ _ ht
      simp only [Pt.parts, Pt.deep, deepL, if_true]
      omega
theorem gapP_sm (hT : EndLast T) (k : Nat) {br : Nat → Rs Pt} (hb : SmF br) {p : Pt} {i0 : Nat} : ∀ i x j, i0 ≤ i → p.parts ≤ (i : Int) - i0 → p.deep ≤ (i : Int) - i0 → gapP T k br p (i + 1) = .ok (x, j) → x.parts ≤ (j : Int) - i0 ∧ x.deep ≤ (j : Int) - i0 := by
  intro i x j hi hp hd h
  have g1 := Pt.deep_nn p
  unfold gapP at h
  split at h
  · match h1 : br (i + 1 + 1) with
    | .error e => rw [h1] at h; cases h
    | .ok (c, m) =>
      rw [h1] at h
      simp only at h
      split at h
      · match h2 : oneP T k br (m + 1) with
        | .error e => rw [h2] at h; cases h
        | .ok (q, l) =>
          rw [h2] at h; cases h
          have q1 := hb _ _ _ h1
          have q2 := oneP_sm hT k hb _ _ _ h2
          have g2 := Pt.deep_nn q
          have g3 := Pt.deep_nn c
          have h3 := three_sm (p := p) (q := q) (c := c) (kind := 5) (rel := 0) (t := noTm) (by decide)
          omega
      · cases h
  · match h2 : oneP T k br (i + 1) with
    | .error e => rw [h2] at h; cases h
    | .ok (q, l) =>
      rw [h2] at h; cases h
      have q2 := oneP_sm hT k hb _ _ _ h2
      have g2 := Pt.deep_nn q
      have h3 := two_sm (p := p) (q := q) (kind := 2) (rel := 0) (t := noTm) (by decide)
      omega
theorem rowL_sm (hT : EndLast T) (k : Nat) {br : Nat → Rs Pt} (hb : SmF br) (hbt : Takes T br) : ∀ (n : Nat) (p : Pt) (i0 i : Nat) (x : Pt) (j : Nat), i0 ≤ i → p.parts ≤ (i : Int) - i0 → p.deep ≤ (i : Int) - i0 → rowL T k br n p i = .ok (x, j) → x.parts ≤ (j : Int) - i0 ∧ x.deep ≤ (j : Int) - i0 := by
  intro n
  induction n with
  | zero => intro p i0 i x j hi hp hd h; simp only [rowL] at h; cases h; exact ⟨hp, hd⟩
  | succ n ih =>
    intro p i0 i x j hi hp hd h
    simp only [rowL] at h
    split at h
    · match hf1 : gapP T k br p (i + 1) with
      | .error e => rw [hf1] at h; cases h
      | .ok (q, m) =>
        rw [hf1] at h
        have h1 := gapP_sm hT k hb i _ _ hi hp hd hf1
        have h2 := gapP_takes hT k hbt p _ _ _ hf1
        exact ih _ i0 _ _ _ (by omega) h1.1 h1.2 h
    · cases h; exact ⟨hp, hd⟩
theorem rowP_sm (hT : EndLast T) (k : Nat) {br : Nat → Rs Pt} (hb : SmF br) (hbt : Takes T br) : SmF (rowP T k br) := by
  intro i x j h
  unfold rowP at h
  match hp : oneP T k br i with
  | .error e => rw [hp] at h; cases h
  | .ok (p, m) =>
    rw [hp] at h
    have h1 := oneP_sm hT k hb _ _ _ hp
    have h4 := Pt.deep_nn p
    exact rowL_sm hT k hb hbt _ _ i _ _ _ (by omega) h1.1 h1.2 h
theorem pairP_sm (hT : EndLast T) (k : Nat) {br : Nat → Rs Pt} (hb : SmF br) (hbt : Takes T br) : SmF (pairP T k br) := by
  intro i x j h
  unfold pairP at h
  match hp : rowP T k br i with
  | .error e => rw [hp] at h; cases h
  | .ok (p, m) =>
    rw [hp] at h
    have q1 := rowP_sm hT k hb hbt _ _ _ hp
    simp only at h
    split at h
    · split at h
      · match h2 : rowP T k br (m + 2) with
        | .error e => rw [h2] at h; cases h
        | .ok (q, l) =>
          rw [h2] at h; cases h
          have q2 := rowP_sm hT k hb hbt _ _ _ h2
          have g1 := Pt.deep_nn p
          have g2 := Pt.deep_nn q
          have h3 := two_sm (p := p) (q := q) (kind := 6) (rel := (rl T (m + 1) : Nat) - 24) (t := noTm) (by decide)
          omega
      · cases h
    · cases h; exact q1
theorem patF_sm (hT : EndLast T) (k : Nat) {br : Nat → Rs Pt} (hb : SmF br) (hbt : Takes T br) : SmF (patF T k br) := chain_sm (by decide) (chain_sm (by decide) (pairP_sm hT k hb hbt))
theorem brF_sm {p : Nat → Rs Pt} (hp : SmF p) : SmF (brF T p) := by
  intro i x j h
  unfold brF at h
  split at h
  · match h2 : p (i + 1) with
    | .error e => rw [h2] at h; cases h
    | .ok (q, m) =>
      rw [h2] at h
      simp only at h
      split at h
      · cases h
        have := hp _ _ _ h2
        omega
      · cases h
  · cases h
theorem patP_sm (hT : EndLast T) : ∀ k, SmF (patP T k) := by
  intro k
  induction k with
  | zero => exact patF_sm hT 0 (fun i x j h => by cases h) (fun i x j h => by cases h)
  | succ k ih => exact patF_sm hT (k + 1) (brF_sm ih) (brF_takes hT (patP_takes hT k))
/-- what Parts and Deep want -/
theorem patP_fits (hT : EndLast T) (hl : T.length ≤ 4001) {k i : Nat} {p : Pt} {j : Nat} (h : patP T k i = .ok (p, j)) : p.parts ≤ 1099511627776 ∧ p.deep ≤ 1099511627776 := by
  have h1 := patP_sm hT k _ _ _ h
  have h2 := patP_takes hT k _ _ _ h
  omega
end
end Go.Proofs.YtbjghkmjnhmlfaaGreatDoor
