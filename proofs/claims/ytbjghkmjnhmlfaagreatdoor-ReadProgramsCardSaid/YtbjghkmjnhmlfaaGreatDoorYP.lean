/- Joined: Pra, Prb, Pgc. -/
import Derived.Test.YtbjghkmjnhmlfaaGreatDoorYK

/- Package read: fits, measure. -/
namespace Go.Proofs.YtbjghkmjnhmlfaaGreatDoor
open Go.RowKit

def fitLs (f : Pt → Int → Bool × Int) : List (List Pt) → Int → Bool × Int
  | [], L => (true, L)
  | [q] :: r, L => if (f q L).1 = true then fitLs f r (f q L).2 else (false, (f q L).2)
  | _ :: r, L => fitLs f r L
/-- does it fit? and how many parts are left -/
def fitF : Nat → Pt → Int → Bool × Int
  | 0, _, L => (false, L)
  | d + 1, p, L => if p.kind = 1 then (decide (0 ≤ L - 1), L - 1) else fitLs (fitF d) [p.l, p.c, p.r] L
theorem fitLs_ok {f : Pt → Int → Bool × Int} (hf : ∀ p L, 0 ≤ L → (f p L).2 ≤ L ∧ -1 ≤ (f p L).2 ∧ ((f p L).1 = true → 0 ≤ (f p L).2)) : ∀ ls L, 0 ≤ L → (fitLs f ls L).2 ≤ L ∧ -1 ≤ (fitLs f ls L).2 ∧ ((fitLs f ls L).1 = true → 0 ≤ (fitLs f ls L).2) := by
  intro ls
  induction ls with
  | nil => intro L h; simp only [fitLs]; omega
  | cons xs r ih =>
    intro L h
    match xs with
    | [] => simp only [fitLs]; exact ih L h
    | [q] =>
      have h1 := hf q L h
      simp only [fitLs]
      split
      · rename_i e
        have := ih _ (h1.2.2 e)
        exact ⟨by omega, by omega, this.2.2⟩
      · exact ⟨h1.1, h1.2.1, fun e => by cases e⟩
    | _ :: _ :: _ => simp only [fitLs]; exact ih L h
theorem fitF_ok : ∀ d p L, 0 ≤ L → (fitF d p L).2 ≤ L ∧ -1 ≤ (fitF d p L).2 ∧ ((fitF d p L).1 = true → 0 ≤ (fitF d p L).2) := by
  intro d
  induction d with
  | zero => intro p L h; simp only [fitF]; exact ⟨by omega, by omega, fun e => by cases e⟩
  | succ d ih =>
    intro p L h
    rw [fitF]
    split
    · exact ⟨by simp only; omega, by simp only; omega, fun e => of_decide_eq_true e⟩
    · exact fitLs_ok ih _ L h
theorem idx0 (A B C : Option Addr) (l m n a b c : Nat) (w : World) : (Instr.index 177 (.agg #[.slice A l a, .slice B m b, .slice C n c]) (.int .i64 0)).run Tryz.prog w = .ok (.slice A l a) w := by kernel_rfl
theorem idx1 (A B C : Option Addr) (l m n a b c : Nat) (w : World) : (Instr.index 177 (.agg #[.slice A l a, .slice B m b, .slice C n c]) (.int .i64 1)).run Tryz.prog w = .ok (.slice B m b) w := by kernel_rfl
theorem idx2 (A B C : Option Addr) (l m n a b c : Nat) (w : World) : (Instr.index 177 (.agg #[.slice A l a, .slice B m b, .slice C n c]) (.int .i64 2)).run Tryz.prog w = .ok (.slice C n c) w := by kernel_rfl
theorem PRow.get0 {w : World} {F : Nat → Prop} {q : Pt} {L : Option Addr} {g : Nat → PtPl} (h : PRow w F [q] L g) : ∃ b, L = some ⟨b, 0, none⟩ ∧ F b ∧
    (w.cell? ⟨b, 0, none⟩ = some (.int .i64 q.kind) ∧ w.cell? ⟨b, 1, none⟩ = some (.int .i64 q.tm.kind) ∧ w.cell? ⟨b, 2, none⟩ = some (.string q.tm.name) ∧ w.cell? ⟨b, 3, none⟩ = some (.int .i64 q.tm.n) ∧ w.cell? ⟨b, 4, none⟩ = some (.slice (g 0).A q.tm.args.length (g 0).ac) ∧ w.cell? ⟨b, 5, none⟩ = some (.int .i64 q.rel) ∧
      w.cell? ⟨b, 6, none⟩ = some (.slice (g 0).L q.l.length (g 0).lc) ∧ w.cell? ⟨b, 7, none⟩ = some (.slice (g 0).R q.r.length (g 0).rc) ∧ w.cell? ⟨b, 8, none⟩ = some (.slice (g 0).C q.c.length (g 0).cc)) := by
  obtain ⟨b, e, hF, hc⟩ := h 0 (by simp)
  refine ⟨b, e, hF, ?_, ?_, ?_, ?_, ?_, ?_, ?_, ?_, ?_⟩
  · simpa using hc 0 (by omega)
  · simpa using hc 1 (by omega)
  · simpa using hc 2 (by omega)
  · simpa using hc 3 (by omega)
  · simpa using hc 4 (by omega)
  · simpa using hc 5 (by omega)
  · simpa using hc 6 (by omega)
  · simpa using hc 7 (by omega)
  · simpa using hc 8 (by omega)
def FitOut (w : World) (m : Nat) (F : Bool × Int) (e : Ending) (w' : World) : Prop := e = .returned (.bool F.1) ∧ Chg (· = m) w w' ∧ w'.cell? ⟨m, 0, none⟩ = some (.int .i64 F.2) ∧ w'.frozen? ⟨m, 0, none⟩ = false
def FitTo (d : Nat) : Prop := ∀ (w : World) (F : Nat → Prop) (m : Nat) (p : Pt) (a : PtPl) (L : Int), PtIn w F p a → ¬ F m → w.cell? ⟨m, 0, none⟩ = some (.int .i64 L) → w.frozen? ⟨m, 0, none⟩ = false → 0 ≤ L → L ≤ 12 → d ≤ 8 →
  Calls Tryz.prog 102 #[p.val a, .int .i64 d, .pointer (some ⟨m, 0, none⟩)] w (FitOut w m (fitF d p L))
set_option maxRecDepth 100000 in
set_option maxHeartbeats 1000000 in
theorem fits_zero : FitTo 0 := by
  intro w F m p a L hp hm c0 f0 h0 h12 hd
  have hml := World.block_lt_of_cell? w _ c0
  simp only at hml
  have d0 : (w.alloc (.cells #[.int .i64 p.kind, .int .i64 p.tm.kind, .string p.tm.name, .int .i64 p.tm.n, .slice a.A p.tm.args.length a.ac, .int .i64 p.rel, .slice a.L p.l.length a.lc, .slice a.R p.r.length a.rc, .slice a.C p.c.length a.cc] 63)).cell? ⟨m, 0, none⟩ = some (.int .i64 L) := ((Ext.refl w).alloc _).cell c0
  clear hp
  go_enter Tryz.func102, Tryz.ntmps102
  go_wp2_with fail
  go_ret
  refine ⟨rfl, Chg.of_ext ((Ext.refl w).alloc _), d0, ?_⟩
  go_simp
set_option maxRecDepth 100000 in
set_option maxHeartbeats 4000000 in
theorem fits_succ (d : Nat) (ih : FitTo d) : FitTo (d + 1) := by
  intro w F m p a L hp hm c0 f0 h0 h12 hd
  have hml := World.block_lt_of_cell? w _ c0
  simp only at hml
  obtain ⟨w0, hw0⟩ : ∃ w0, w0 = w.alloc (.cells #[.int .i64 p.kind, .int .i64 p.tm.kind, .string p.tm.name, .int .i64 p.tm.n, .slice a.A p.tm.args.length a.ac, .int .i64 p.rel, .slice a.L p.l.length a.lc, .slice a.R p.r.length a.rc, .slice a.C p.c.length a.cc] 63) := ⟨_, rfl⟩
  have hx0 : Ext w w0 := by rw [hw0]; exact (Ext.refl _).alloc _
  have hb0 : Box9 w0 w.heap.size (p.cells a) := by rw [hw0]; exact Box9.new w _ _ rfl
  have d0 := hx0.cell c0
  have g0 : w0.frozen? ⟨m, 0, none⟩ = false := (World.frozen?_of_block (w := w) (hx0.block m hml)).trans f0
  have hp0 : PtIn w0 F p a := hp.keep fun b hb hl => ⟨hx0.block b hl, hb⟩
  have HW0 := Lib.hid hw0
  obtain ⟨b0, b1, b2, b3, b4, b5, b6, b7, b8⟩ := hb0.get
  have wd : ((d + 1 : Nat) : Int) = (d : Int) + 1 := by omega
  have hdz : (((d : Int) + 1) == 0) = false := by simp; omega
  rw [wd]
  clear hw0 hb0 c0 f0 hp
  go_enter Tryz.func102, Tryz.ntmps102
  go_upto_region 1 with (fail)
  rw [← HW0.out]
  by_cases hk : p.kind = 1
  · have HF : Hid (fitF (d + 1) p L = (decide (1 ≤ L), L - 1)) := Lib.hid (by rw [fitF, if_pos hk]; exact Prod.ext (decide_eq_decide.2 (by omega)) rfl)
    have hw1 : IntKind.i64.wrap (L - 1) = L - 1 := by rw [IntKind.wrap_i64]; omega
    rw [hk] at b0
    go_wp2_with fail
    go_ret
    rw [HF.out]
    exact ⟨rfl, (Chg.of_ext hx0).setg _ _, by go_simp, by go_simp⟩
  · have HF : Hid (fitLs (fitF d) [p.l, p.c, p.r] L = fitF (d + 1) p L) := Lib.hid (by rw [fitF, if_neg hk])
    have hkk : (p.kind == 1) = false := by simp [hk]
    obtain ⟨R, hR⟩ : ∃ R, R = fitF (d + 1) p L := ⟨_, rfl⟩
    rw [← hR] at HF
    have HRR := Lib.hid hR.symm
    have hw1 : IntKind.i64.wrap ((d : Int) + 1 - 1) = (d : Int) := by rw [IntKind.wrap_i64]; omega
    clear hk hdz hR
    have hdz : (((d : Int) + 1) == 0) = false := by simp; omega
    obtain ⟨pk, ptm, prl, pl, pr, pc⟩ := p
    cases hp0 with
    | mk _ _ gl gr gc fits cap tm l r c sl sr sc =>
    have HI : Hid (∀ k, k < 3 → ∃ g, PRow w0 F ([pl, pc, pr][k]?.getD []) ([a.L, a.C, a.R][k]?.getD none) g ∧ ∀ i (h : i < ([pl, pc, pr][k]?.getD []).length), PtIn w0 F (([pl, pc, pr][k]?.getD [])[i]) (g i)) := Lib.hid (fun k hk => by
      match k, hk with
      | 0, _ => exact ⟨gl, l, sl⟩
      | 1, _ => exact ⟨gc, c, sc⟩
      | 2, _ => exact ⟨gr, r, sr⟩)
    have HL : Hid (∀ k, k < 3 → ([pl, pc, pr][k]?.getD []).length ≤ 1) := Lib.hid (fun k hk => by
      match k, hk with
      | 0, _ => exact fits.l
      | 1, _ => exact fits.c
      | 2, _ => exact fits.r)
    clear l r c sl sr sc tm cap fits
    simp only at b0 b1 b2 b3 b4 b5 b6 b7 b8 hkk HF HRR ⊢
    go_wp2_with fail
    go_loopw [30] (fun i wr => ∃ (k : Nat) (M : Int), k ≤ 3 ∧ i = .int .i64 k ∧ wr.cell? ⟨m, 0, none⟩ = some (.int .i64 M) ∧ wr.frozen? ⟨m, 0, none⟩ = false ∧ 0 ≤ M ∧ M ≤ 12 ∧ Chg (· = m) w0 wr ∧ Hid (fitLs (fitF d) ([pl, pc, pr].drop k) M = R)) (fun i _ => 3 - (intOf i).toNat)
    case atStart => exact ⟨0, L, by omega, rfl, d0, g0, h0, h12, Chg.refl _ _, HF⟩
    case round =>
      clear d0 g0 HF h0 h12
      obtain ⟨k, M, hk3, rfl, dc, fc, h0, h12, hC, HF⟩ := hrel
      match k, hk3 with
      | 3, _ =>
        have hR : R = (true, M) := by rw [← HF.out]; rfl
        have HR := Lib.hid (hR.symm.trans HRR.out.symm)
        clear HF hR
        go_wp2_with fail
        go_ret
        rw [← HR.out]
        exact ⟨rfl, (Chg.of_ext hx0).trans hC, dc, fc⟩
      | 0, _ =>
        rw [show ((0 : Nat) : Int) = 0 from rfl]
        have hix := idx0
        obtain ⟨gg, hrow, hsub⟩ := HI.out 0 (by omega)
        have hlen := HL.out 0 (by omega)
        rcases pl with _ | ⟨q, _ | ⟨q2, qr⟩⟩
        · have HF2 : Hid (fitLs (fitF d) [pc, pr] M = R) := Lib.hid HF.out
          clear HF hrow hsub hlen
          go_wp2_with fail
          go_roundw
          case rel => exact ⟨1, M, by omega, by go_num, dc, fc, h0, h12, hC, HF2⟩
          case measure => simp [intOf]
        · obtain ⟨bb, hbb, hFb, x0, x1, x2, x3, x4, x5, x6, x7, x8⟩ := PRow.get0 (q := q) hrow
          have hbm : bb ≠ m := fun e => hm (e ▸ hFb)
          have z0 := hC.cell x0 hbm
          have z1 := hC.cell x1 hbm
          have z2 := hC.cell x2 hbm
          have z3 := hC.cell x3 hbm
          have z4 := hC.cell x4 hbm
          have z5 := hC.cell x5 hbm
          have z6 := hC.cell x6 hbm
          have z7 := hC.cell x7 hbm
          have z8 := hC.cell x8 hbm
          have haL : a.L = some ⟨bb, 0, none⟩ := hbb
          have hq : PtIn wr F q (gg 0) := (hsub 0 (by simp)).keep fun b hb hl => ⟨hC.block b hl (fun e => hm (e ▸ hb)), hb⟩
          have KF := Lib.hid (ih wr F m q (gg 0) M hq hm dc fc h0 h12 (by omega))
          have hok := fitF_ok d q M h0
          have HOK := Lib.hid hok
          have HF2 : Hid ((if (fitF d q M).1 = true then fitLs (fitF d) [pc, pr] (fitF d q M).2 else (false, (fitF d q M).2)) = R) := Lib.hid HF.out
          clear HF hrow hsub hlen x0 x1 x2 x3 x4 x5 x6 x7 x8 hbb hq hok
          rw [haL]
          go_wp2_with fail
          refine KF.out.mono ?_
          rintro e w1 ⟨rfl, hC1, dc1, fc1⟩
          have hCC := hC.trans hC1
          cases hb : (fitF d q M).1 with
          | true =>
            have HF3 : Hid (fitLs (fitF d) [pc, pr] (fitF d q M).2 = R) := Lib.hid (by rw [← HF2.out, if_pos hb])
            have HB := Lib.hid (HOK.out.2.2 hb)
            clear HF2 KF hC1 hb
            go_wp2_with fail
            refine ⟨?_, ?measure⟩
            refine ⟨_, _, _, _, _, _, _, _, _, _, _, _, _, _, _, _, _, _, _, ?rel, rfl⟩
            case rel => exact ⟨1, _, by omega, by go_num, dc1, fc1, HB.out, by have := HOK.out.1; omega, hCC, HF3⟩
            case measure => simp [intOf]
          | false =>
            have HR : Hid (R = (false, (fitF d q M).2)) := Lib.hid (by rw [← HF2.out, if_neg (by rw [hb]; simp)])
            clear HF2 KF hC1 hb
            go_wp2_with fail
            go_ret
            rw [HRR.out, HR.out]
            exact ⟨rfl, (Chg.of_ext hx0).trans hCC, dc1, fc1⟩
        · simp at hlen
      | 1, _ =>
        rw [show ((1 : Nat) : Int) = 1 from rfl]
        have hix := idx1
        obtain ⟨gg, hrow, hsub⟩ := HI.out 1 (by omega)
        have hlen := HL.out 1 (by omega)
        rcases pc with _ | ⟨q, _ | ⟨q2, qr⟩⟩
        · have HF2 : Hid (fitLs (fitF d) [pr] M = R) := Lib.hid HF.out
          clear HF hrow hsub hlen
          go_wp2_with fail
          go_roundw
          case rel => exact ⟨2, M, by omega, by go_num, dc, fc, h0, h12, hC, HF2⟩
          case measure => simp [intOf]
        · obtain ⟨bb, hbb, hFb, x0, x1, x2, x3, x4, x5, x6, x7, x8⟩ := PRow.get0 (q := q) hrow
          have hbm : bb ≠ m := fun e => hm (e ▸ hFb)
          have z0 := hC.cell x0 hbm
          have z1 := hC.cell x1 hbm
          have z2 := hC.cell x2 hbm
          have z3 := hC.cell x3 hbm
          have z4 := hC.cell x4 hbm
          have z5 := hC.cell x5 hbm
          have z6 := hC.cell x6 hbm
          have z7 := hC.cell x7 hbm
          have z8 := hC.cell x8 hbm
          have haL : a.C = some ⟨bb, 0, none⟩ := hbb
          have hq : PtIn wr F q (gg 0) := (hsub 0 (by simp)).keep fun b hb hl => ⟨hC.block b hl (fun e => hm (e ▸ hb)), hb⟩
          have KF := Lib.hid (ih wr F m q (gg 0) M hq hm dc fc h0 h12 (by omega))
          have hok := fitF_ok d q M h0
          have HOK := Lib.hid hok
          have HF2 : Hid ((if (fitF d q M).1 = true then fitLs (fitF d) [pr] (fitF d q M).2 else (false, (fitF d q M).2)) = R) := Lib.hid HF.out
          clear HF hrow hsub hlen x0 x1 x2 x3 x4 x5 x6 x7 x8 hbb hq hok
          rw [haL]
          go_wp2_with fail
          refine KF.out.mono ?_
          rintro e w1 ⟨rfl, hC1, dc1, fc1⟩
          have hCC := hC.trans hC1
          cases hb : (fitF d q M).1 with
          | true =>
            have HF3 : Hid (fitLs (fitF d) [pr] (fitF d q M).2 = R) := Lib.hid (by rw [← HF2.out, if_pos hb])
            have HB := Lib.hid (HOK.out.2.2 hb)
            clear HF2 KF hC1 hb
            go_wp2_with fail
            refine ⟨?_, ?measure⟩
            refine ⟨_, _, _, _, _, _, _, _, _, _, _, _, _, _, _, _, _, _, _, ?rel, rfl⟩
            case rel => exact ⟨2, _, by omega, by go_num, dc1, fc1, HB.out, by have := HOK.out.1; omega, hCC, HF3⟩
            case measure => simp [intOf]
          | false =>
            have HR : Hid (R = (false, (fitF d q M).2)) := Lib.hid (by rw [← HF2.out, if_neg (by rw [hb]; simp)])
            clear HF2 KF hC1 hb
            go_wp2_with fail
            go_ret
            rw [HRR.out, HR.out]
            exact ⟨rfl, (Chg.of_ext hx0).trans hCC, dc1, fc1⟩
        · simp at hlen
      | 2, _ =>
        rw [show ((2 : Nat) : Int) = 2 from rfl]
        have hix := idx2
        obtain ⟨gg, hrow, hsub⟩ := HI.out 2 (by omega)
        have hlen := HL.out 2 (by omega)
        rcases pr with _ | ⟨q, _ | ⟨q2, qr⟩⟩
        · have HF2 : Hid (fitLs (fitF d) [] M = R) := Lib.hid HF.out
          clear HF hrow hsub hlen
          go_wp2_with fail
          go_roundw
          case rel => exact ⟨3, M, by omega, by go_num, dc, fc, h0, h12, hC, HF2⟩
          case measure => simp [intOf]
        · obtain ⟨bb, hbb, hFb, x0, x1, x2, x3, x4, x5, x6, x7, x8⟩ := PRow.get0 (q := q) hrow
          have hbm : bb ≠ m := fun e => hm (e ▸ hFb)
          have z0 := hC.cell x0 hbm
          have z1 := hC.cell x1 hbm
          have z2 := hC.cell x2 hbm
          have z3 := hC.cell x3 hbm
          have z4 := hC.cell x4 hbm
          have z5 := hC.cell x5 hbm
          have z6 := hC.cell x6 hbm
          have z7 := hC.cell x7 hbm
          have z8 := hC.cell x8 hbm
          have haL : a.R = some ⟨bb, 0, none⟩ := hbb
          have hq : PtIn wr F q (gg 0) := (hsub 0 (by simp)).keep fun b hb hl => ⟨hC.block b hl (fun e => hm (e ▸ hb)), hb⟩
          have KF := Lib.hid (ih wr F m q (gg 0) M hq hm dc fc h0 h12 (by omega))
          have hok := fitF_ok d q M h0
          have HOK := Lib.hid hok
          have HF2 : Hid ((if (fitF d q M).1 = true then fitLs (fitF d) [] (fitF d q M).2 else (false, (fitF d q M).2)) = R) := Lib.hid HF.out
          clear HF hrow hsub hlen x0 x1 x2 x3 x4 x5 x6 x7 x8 hbb hq hok
          rw [haL]
          go_wp2_with fail
          refine KF.out.mono ?_
          rintro e w1 ⟨rfl, hC1, dc1, fc1⟩
          have hCC := hC.trans hC1
          cases hb : (fitF d q M).1 with
          | true =>
            have HF3 : Hid (fitLs (fitF d) [] (fitF d q M).2 = R) := Lib.hid (by rw [← HF2.out, if_pos hb])
            have HB := Lib.hid (HOK.out.2.2 hb)
            clear HF2 KF hC1 hb
            go_wp2_with fail
            refine ⟨?_, ?measure⟩
            refine ⟨_, _, _, _, _, _, _, _, _, _, _, _, _, _, _, _, _, _, _, ?rel, rfl⟩
            case rel => exact ⟨3, _, by omega, by go_num, dc1, fc1, HB.out, by have := HOK.out.1; omega, hCC, HF3⟩
            case measure => simp [intOf]
          | false =>
            have HR : Hid (R = (false, (fitF d q M).2)) := Lib.hid (by rw [← HF2.out, if_neg (by rw [hb]; simp)])
            clear HF2 KF hC1 hb
            go_wp2_with fail
            go_ret
            rw [HRR.out, HR.out]
            exact ⟨rfl, (Chg.of_ext hx0).trans hCC, dc1, fc1⟩
        · simp at hlen
end Go.Proofs.YtbjghkmjnhmlfaaGreatDoor

/- Package read: measure. -/
namespace Go.Proofs.YtbjghkmjnhmlfaaGreatDoor
open Go.RowKit

theorem fits_all (d : Nat) : FitTo d := by
  induction d with
  | zero => exact fits_zero
  | succ d ih => exact fits_succ d ih
set_option maxRecDepth 100000 in
set_option maxHeartbeats 1000000 in
theorem measure_yes {w : World} {F : Nat → Prop} {p : Pt} {a : PtPl} (g : Nat) (from_ : Int) (hp : PtIn w F p a) (hF : ∀ b, F b → b < w.heap.size) (hf : (fitF 8 p 12).1 = true) :
    Calls Tryz.prog 85 #[.pointer (some ⟨g, 0, none⟩), p.val a, .int .i64 from_] w fun e w' => e = .returned (.bool true) ∧ Ext w w' := by
  obtain ⟨R, hR⟩ : ∃ R, R = fitF 8 p 12 := ⟨_, rfl⟩
  rw [← hR] at hf
  have HR0 := Lib.hid hR
  have HFB := Lib.hid hf
  clear hR hf
  obtain ⟨w0, hw0⟩ : ∃ w0, w0 = w.alloc (.cells #[.int .i64 p.kind, .int .i64 p.tm.kind, .string p.tm.name, .int .i64 p.tm.n, .slice a.A p.tm.args.length a.ac, .int .i64 p.rel, .slice a.L p.l.length a.lc, .slice a.R p.r.length a.rc, .slice a.C p.c.length a.cc] 63) := ⟨_, rfl⟩
  have hx0 : Ext w w0 := by rw [hw0]; exact (Ext.refl _).alloc _
  have hb0 : Box9 w0 w.heap.size (p.cells a) := by rw [hw0]; exact Box9.new w _ _ rfl
  have hz0 : w0.heap.size = w.heap.size + 1 := by rw [hw0]; simp
  have HW0 := Lib.hid hw0
  have HZ0 := Lib.hid hz0
  clear hw0 hz0
  go_enter Tryz.func85, Tryz.ntmps85
  go_upto_region 1 with (fail)
  rw [← HW0.out]
  go_upto_region 2 with (fail)
  obtain ⟨w1, hw1⟩ : ∃ w1, w1 = w0.alloc (.cells #[.int .i64 12] 3) := ⟨_, rfl⟩
  rw [← hw1]
  have hx1 : Ext w0 w1 := by rw [hw1]; exact (Ext.refl _).alloc _
  obtain ⟨b0, b1, b2, b3, b4, b5, b6, b7, b8⟩ := (hb0.ext hx1).get
  have c0 : w1.cell? ⟨w0.heap.size, 0, none⟩ = some (.int .i64 12) := by rw [hw1]; go_simp
  have f0 : w1.frozen? ⟨w0.heap.size, 0, none⟩ = false := by rw [hw1]; go_simp
  have K0 := (fits_all 8 w1 F w0.heap.size p a 12 (hp.keep fun b hb hl => ⟨(hx0.trans hx1).block b hl, hb⟩) (fun h => by have := hF _ h; have := HZ0.out; omega) c0 f0 (by omega) (by omega) (by omega))
  rw [← HR0.out, show ((8 : Nat) : Int) = 8 from rfl] at K0
  have KF := Lib.hid K0
  clear K0 HR0
  have HX := Lib.hid (hx0.trans hx1)
  clear hw1 hp hF
  go_wp2_with fail
  refine KF.out.mono ?_
  rintro e w2 ⟨rfl, hC2, _, _⟩
  rw [HFB.out]
  go_wp2_with fail
  go_ret
  exact ⟨rfl, Chg.ext_of HX.out hC2 (fun b hb => by have := HZ0.out; omega)⟩
set_option maxRecDepth 100000 in
set_option maxHeartbeats 1000000 in
theorem measure_no {w : World} {F : Nat → Prop} {p : Pt} {a : PtPl} {g : Nat} {K : RdP} {T : List Tok} {i b : Nat} (from_ : Int) (h : RdAt w g K T i b) (hlo : K.A < w.heap.size ∧ K.R < w.heap.size) (hp : PtIn w F p a) (hF : ∀ b, F b → b < w.heap.size) (hf : (fitF 8 p 12).1 = false) :
    Calls Tryz.prog 85 #[.pointer (some ⟨g, 0, none⟩), p.val a, .int .i64 from_] w fun e w' => e = .returned (.bool false) ∧ RdErr w' g from_ 2 ∧ Chg (· = g) w w' := by
  have hgl := h.lt
  obtain ⟨R, hR⟩ : ∃ R, R = fitF 8 p 12 := ⟨_, rfl⟩
  rw [← hR] at hf
  have HR0 := Lib.hid hR
  have HFB := Lib.hid hf
  clear hR hf
  obtain ⟨w0, hw0⟩ : ∃ w0, w0 = w.alloc (.cells #[.int .i64 p.kind, .int .i64 p.tm.kind, .string p.tm.name, .int .i64 p.tm.n, .slice a.A p.tm.args.length a.ac, .int .i64 p.rel, .slice a.L p.l.length a.lc, .slice a.R p.r.length a.rc, .slice a.C p.c.length a.cc] 63) := ⟨_, rfl⟩
  have hx0 : Ext w w0 := by rw [hw0]; exact (Ext.refl _).alloc _
  have hb0 : Box9 w0 w.heap.size (p.cells a) := by rw [hw0]; exact Box9.new w _ _ rfl
  have hz0 : w0.heap.size = w.heap.size + 1 := by rw [hw0]; simp
  have HW0 := Lib.hid hw0
  have HZ0 := Lib.hid hz0
  clear hw0 hz0
  go_enter Tryz.func85, Tryz.ntmps85
  go_upto_region 1 with (fail)
  rw [← HW0.out]
  go_upto_region 2 with (fail)
  obtain ⟨w1, hw1⟩ : ∃ w1, w1 = w0.alloc (.cells #[.int .i64 12] 3) := ⟨_, rfl⟩
  rw [← hw1]
  have hx1 : Ext w0 w1 := by rw [hw1]; exact (Ext.refl _).alloc _
  obtain ⟨b0, b1, b2, b3, b4, b5, b6, b7, b8⟩ := (hb0.ext hx1).get
  have c0 : w1.cell? ⟨w0.heap.size, 0, none⟩ = some (.int .i64 12) := by rw [hw1]; go_simp
  have f0 : w1.frozen? ⟨w0.heap.size, 0, none⟩ = false := by rw [hw1]; go_simp
  have K0 := (fits_all 8 w1 F w0.heap.size p a 12 (hp.keep fun b hb hl => ⟨(hx0.trans hx1).block b hl, hb⟩) (fun h => by have := hF _ h; have := HZ0.out; omega) c0 f0 (by omega) (by omega) (by omega))
  rw [← HR0.out, show ((8 : Nat) : Int) = 8 from rfl] at K0
  have KF := Lib.hid K0
  clear K0 HR0
  have HX := Lib.hid (hx0.trans hx1)
  have HR := Lib.hid (h.ext (hx0.trans hx1))
  clear hw1 hp hF h
  go_wp2_with fail
  refine KF.out.mono ?_
  rintro e w2 ⟨rfl, hC2, _, _⟩
  rw [HFB.out]
  have hx2 : Ext w w2 := Chg.ext_of HX.out hC2 (fun b hb => by have := HZ0.out; omega)
  have KE := Lib.hid (fail_any from_ 2 (HR.out.chg hC2 (fun x _ e => by have := HZ0.out; omega)))
  go_wp2_with fail
  refine KE.out.mono ?_
  rintro e w3 ⟨rfl, hE, hC3⟩
  have HE := Lib.hid hE
  clear hE
  go_wp2_with fail
  go_ret
  exact ⟨rfl, HE.out, (Chg.of_ext hx2).trans hC3⟩
end Go.Proofs.YtbjghkmjnhmlfaaGreatDoor

/- Patterns as they are read: two parts, or a term; what fits is not too much (pure). -/
namespace Go.Proofs.YtbjghkmjnhmlfaaGreatDoor

inductive OkP : Pt → Prop
  | leaf (t : Tm) : OkP ⟨1, t, 0, [], [], []⟩
  | two (k : Int) (t : Tm) (r : Int) (p q : Pt) (hk : k ≠ 1) (hp : OkP p) (hq : OkP q) : OkP ⟨k, t, r, [p], [q], []⟩
  | three (k : Int) (t : Tm) (r : Int) (p q c : Pt) (hk : k ≠ 1) (hp : OkP p) (hq : OkP q) (hc : OkP c) : OkP ⟨k, t, r, [p], [q], [c]⟩
theorem OkP.pos {p : Pt} (h : OkP p) : 1 ≤ p.parts ∧ 1 ≤ p.deep := by
  induction h with
  | leaf t => simp only [Pt.parts, Pt.deep, deepL]; decide
  | two k t r p q hk hp hq ip iq => simp only [Pt.parts, if_neg hk, Pt.deep, deepL, partsL]; omega
  | three k t r p q c hk hp hq hc ip iq ic => simp only [Pt.parts, if_neg hk, Pt.deep, deepL, partsL]; omega
def FitsAs (d : Nat) (p : Pt) : Prop := ∀ L : Int, 0 ≤ L → ((p.deep ≤ d ∧ p.parts ≤ L → fitF d p L = (true, L - p.parts)) ∧ (¬ (p.deep ≤ d ∧ p.parts ≤ L) → (fitF d p L).1 = false))
theorem fits_as (d : Nat) : ∀ p, OkP p → FitsAs d p := by
  induction d with
  | zero =>
    intro p h L h0
    have := h.pos
    refine ⟨fun h1 => by have := h1.1; omega, fun _ => rfl⟩
  | succ d ih =>
    intro p h L h0
    cases h with
    | leaf t =>
      have e : fitF (d + 1) ⟨1, t, 0, [], [], []⟩ L = (decide (0 ≤ L - 1), L - 1) := by rw [fitF]; rfl
      rw [e]
      simp only [Pt.parts, Pt.deep, deepL, if_pos]
      refine ⟨fun h1 => Prod.ext (decide_eq_true (by omega)) rfl, fun h1 => decide_eq_false (fun h2 => h1 ⟨?_, by omega⟩)⟩
      have : (max (max (0 : Int) 0) 0) + 1 = 1 := by decide
      omega
    | two k t r p q hk hp hq =>
      have e : fitF (d + 1) ⟨k, t, r, [p], [q], []⟩ L = fitLs (fitF d) [[p], [], [q]] L := by rw [fitF, if_neg hk]
      have pp := hp.pos
      have pq := hq.pos
      rw [e]
      simp only [Pt.parts, Pt.deep, deepL, partsL, if_neg hk, fitLs]
      have hP := ih p hp L h0
      by_cases h1 : p.deep ≤ d ∧ p.parts ≤ L
      · rw [hP.1 h1]
        have hQ := ih q hq (L - p.parts) (by omega)
        by_cases h2 : q.deep ≤ d ∧ q.parts ≤ L - p.parts
        · rw [hQ.1 h2]
          refine ⟨fun _ => ?_, fun h3 => absurd ⟨by omega, by omega⟩ h3⟩
          simp only [if_true, Prod.mk.injEq, true_and]
          omega
        · have hq2 := hQ.2 h2
          refine ⟨fun h3 => absurd ⟨by omega, by omega⟩ h2, fun _ => ?_⟩
          simp only [if_true]
          rw [hq2]
          simp
      · have hp2 := hP.2 h1
        rw [hp2]
        refine ⟨fun h3 => absurd ⟨by omega, by omega⟩ h1, fun _ => by simp⟩
    | three k t r p q c hk hp hq hc =>
      have e : fitF (d + 1) ⟨k, t, r, [p], [q], [c]⟩ L = fitLs (fitF d) [[p], [c], [q]] L := by rw [fitF, if_neg hk]
      have pp := hp.pos
      have pq := hq.pos
      have pc := hc.pos
      rw [e]
      simp only [Pt.parts, Pt.deep, deepL, partsL, if_neg hk, fitLs]
      have hP := ih p hp L h0
      by_cases h1 : p.deep ≤ d ∧ p.parts ≤ L
      · rw [hP.1 h1]
        have hC := ih c hc (L - p.parts) (by omega)
        by_cases h2 : c.deep ≤ d ∧ c.parts ≤ L - p.parts
        · rw [hC.1 h2]
          have hQ := ih q hq (L - p.parts - c.parts) (by omega)
          by_cases h3 : q.deep ≤ d ∧ q.parts ≤ L - p.parts - c.parts
          · rw [hQ.1 h3]
            refine ⟨fun _ => ?_, fun h4 => absurd ⟨by omega, by omega⟩ h4⟩
            simp only [if_true, Prod.mk.injEq, true_and]
            omega
          · have hq2 := hQ.2 h3
            refine ⟨fun h4 => absurd ⟨by omega, by omega⟩ h3, fun _ => ?_⟩
            simp only [if_true]
            rw [hq2]
            simp
        · have hc2 := hC.2 h2
          refine ⟨fun h4 => absurd ⟨by omega, by omega⟩ h2, fun _ => ?_⟩
          simp only [if_true]
          rw [hc2]
          simp
      · have hp2 := hP.2 h1
        rw [hp2]
        refine ⟨fun h4 => absurd ⟨by omega, by omega⟩ h1, fun _ => by simp⟩
theorem fit_much {p : Pt} (h : OkP p) : (fitF 8 p 12).1 = !muchB p := by
  have := fits_as 8 p h 12 (by omega)
  unfold muchB
  by_cases h1 : p.deep ≤ (8 : Nat) ∧ p.parts ≤ 12
  · rw [this.1 h1]
    have e1 : decide (12 < p.parts) = false := decide_eq_false (by omega)
    have e2 : decide (8 < p.deep) = false := decide_eq_false (by omega)
    rw [e1, e2]; rfl
  · rw [this.2 h1]
    by_cases h2 : 12 < p.parts
    · rw [decide_eq_true h2]; rfl
    · have h3 : 8 < p.deep := by
        have : ¬ p.deep ≤ (8 : Nat) := fun h4 => h1 ⟨h4, by omega⟩
        omega
      rw [decide_eq_true h3]; simp

def OkF (f : Nat → Rs Pt) : Prop := ∀ i x j, f i = .ok (x, j) → OkP x
section
variable {T : List Tok}
theorem chainP_okp {sign : Nat} {kind : Int} (hk : kind ≠ 1) {part : Nat → Rs Pt} (hf : OkF part) : ∀ n p i x j, OkP p → chainP T sign kind part n p i = .ok (x, j) → OkP x := by
  intro n
  induction n with
  | zero => intro p i x j hp h; simp only [chainP] at h; cases h; exact hp
  | succ n ih =>
    intro p i x j hp h
    simp only [chainP] at h
    split at h
    · match hf1 : part (i + 1) with
      | .error e => rw [hf1] at h; cases h
      | .ok (q, m) => rw [hf1] at h; exact ih _ _ _ _ (.two _ _ _ _ _ hk hp (hf _ _ _ hf1)) h
    · cases h; exact hp
theorem chain_okp {sign : Nat} {kind : Int} (hk : kind ≠ 1) {part : Nat → Rs Pt} (hf : OkF part) : OkF (chain T sign kind part) := by
  intro i x j h
  unfold chain at h
  match hp : part i with
  | .error e => rw [hp] at h; cases h
  | .ok (p, m) => rw [hp] at h; exact chainP_okp hk hf _ _ _ _ _ (hf _ _ _ hp) h
theorem oneP_okp (k : Nat) {br : Nat → Rs Pt} (hb : OkF br) : OkF (oneP T k br) := by
  intro i x j h
  unfold oneP at h
  split at h
  · exact hb _ _ _ h
  · match ht : termP T k i with
    | .error e => rw [ht] at h; cases h
    | .ok (t, m) => rw [ht] at h; cases h; exact .leaf t
theorem gapP_okp (k : Nat) {br : Nat → Rs Pt} (hb : OkF br) {p : Pt} (hp : OkP p) : OkF (gapP T k br p) := by
  intro i x j h
  unfold gapP at h
  split at h
  · match h1 : br (i + 1) with
    | .error e => rw [h1] at h; cases h
    | .ok (c, m) =>
      rw [h1] at h
      simp only at h
      split at h
      · match h2 : oneP T k br (m + 1) with
        | .error e => rw [h2] at h; cases h
        | .ok (q, l) => rw [h2] at h; cases h; exact .three _ _ _ _ _ _ (by decide) hp (oneP_okp k hb _ _ _ h2) (hb _ _ _ h1)
      · cases h
  · match h2 : oneP T k br i with
    | .error e => rw [h2] at h; cases h
    | .ok (q, l) => rw [h2] at h; cases h; exact .two _ _ _ _ _ (by decide) hp (oneP_okp k hb _ _ _ h2)
theorem rowL_okp (k : Nat) {br : Nat → Rs Pt} (hb : OkF br) : ∀ n p i x j, OkP p → rowL T k br n p i = .ok (x, j) → OkP x := by
  intro n
  induction n with
  | zero => intro p i x j hp h; simp only [rowL] at h; cases h; exact hp
  | succ n ih =>
    intro p i x j hp h
    simp only [rowL] at h
    split at h
    · match hf1 : gapP T k br p (i + 1) with
      | .error e => rw [hf1] at h; cases h
      | .ok (q, m) => rw [hf1] at h; exact ih _ _ _ _ (gapP_okp k hb hp _ _ _ hf1) h
    · cases h; exact hp
theorem rowP_okp (k : Nat) {br : Nat → Rs Pt} (hb : OkF br) : OkF (rowP T k br) := by
  intro i x j h
  unfold rowP at h
  match hp : oneP T k br i with
  | .error e => rw [hp] at h; cases h
  | .ok (p, m) => rw [hp] at h; exact rowL_okp k hb _ _ _ _ _ (oneP_okp k hb _ _ _ hp) h
theorem pairP_okp (k : Nat) {br : Nat → Rs Pt} (hb : OkF br) : OkF (pairP T k br) := by
  intro i x j h
  unfold pairP at h
  match hp : rowP T k br i with
  | .error e => rw [hp] at h; cases h
  | .ok (p, m) =>
    rw [hp] at h
    simp only at h
    split at h
    · split at h
      · match h2 : rowP T k br (m + 2) with
        | .error e => rw [h2] at h; cases h
        | .ok (q, l) => rw [h2] at h; cases h; exact .two _ _ _ _ _ (by decide) (rowP_okp k hb _ _ _ hp) (rowP_okp k hb _ _ _ h2)
      · cases h
    · cases h; exact rowP_okp k hb _ _ _ hp
theorem patF_okp (k : Nat) {br : Nat → Rs Pt} (hb : OkF br) : OkF (patF T k br) := chain_okp (by decide) (chain_okp (by decide) (pairP_okp k hb))
theorem brF_okp {p : Nat → Rs Pt} (hp : OkF p) : OkF (brF T p) := by
  intro i x j h
  unfold brF at h
  split at h
  · match h2 : p (i + 1) with
    | .error e => rw [h2] at h; cases h
    | .ok (q, m) =>
      rw [h2] at h
      simp only at h
      split at h
      · cases h; exact hp _ _ _ h2
      · cases h
  · cases h
theorem patP_okp : ∀ k, OkF (patP T k) := by
  intro k
  induction k with
  | zero => exact patF_okp 0 (fun i x j h => by cases h)
  | succ k ih => exact patF_okp (k + 1) (brF_okp ih)
end
end Go.Proofs.YtbjghkmjnhmlfaaGreatDoor
