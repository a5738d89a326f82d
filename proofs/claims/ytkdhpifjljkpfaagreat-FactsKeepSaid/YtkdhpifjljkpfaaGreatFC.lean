/- Joined: Fkj, Fkk, Fkm, Fkl, Fkn. -/
import Derived.Test.YtkdhpifjljkpfaaGreatFB
import Derived.Test.YtkdhpifjljkpfaaGreatRnm
import Derived.Deep.RegionHeld3
import Derived.Test.YtkdhpifjljkpfaaGreatRen
import Derived.Deep.Slices
import Derived.Laws.MakeOwn

/- facts.last, seqsOf: the Seqs of a list that may be. -/
namespace Go.Proofs.YtkdhpifjljkpfaaGreat
open Go.RowKit Go.Maps

/-- the Seq ahead of place k -/
def lastI (ks : List Kp) : Nat → Int
  | 0 => -1
  | k + 1 => (ks[k]?.map Kp.seq).getD 0
theorem lastI_at {ks : List Kp} {k : Nat} (h : k < ks.length) : lastI ks (k + 1) = ks[k].seq := by rw [lastI, List.getElem?_eq_getElem h]; rfl
theorem last_any (ks : List Kp) (A : Option Addr) (n c : Nat) (w : World) (h : KpsAt w ks A) (hn : n ≤ ks.length) (hl : ks.length ≤ 1000000) :
    Calls Tryz.prog 42 #[.slice A n c] w fun e w' => e = .returned (.int .i64 (lastI ks n)) ∧ w' = w := by
  cases n with
  | zero =>
    go_enter Tryz.func42, Tryz.ntmps42
    go_wp2_with fail
    go_ret
    exact ⟨rfl, rfl⟩
  | succ n =>
    obtain ⟨b, o, B, e, rfl, c0, c1, c2, c3, c4, c5, c6, hsub, _⟩ := h n (by omega)
    have HV := Lib.hid (lastI_at (ks := ks) (k := n) (by omega))
    have hne : (((n + 1 : Nat) : Int) == 0) = false := by simp; omega
    have hw : RowKit.wrap64 (((n + 1 : Nat) : Int) - 1) = (n : Int) := by unfold RowKit.wrap64; omega
    have h0 : (0 : Int) ≤ (n : Int) := by omega
    have h1 : (n : Int) < ((n + 1 : Nat) : Int) := by omega
    clear h c1 c2 c3 c4 c5 c6 hsub
    go_enter Tryz.func42, Tryz.ntmps42
    go_wp2_with fail
    go_ret
    exact ⟨ret_int HV.out.symm, rfl⟩

/-- may the first k facts kept be, but that two may be alike? -/
def okS (ks : List Kp) : Nat → Bool
  | 0 => true
  | k + 1 => okS ks k && (match ks[k]? with | some y => decide (lastI ks k < y.seq) && fmB y.fc | none => true)
theorem okS_step {ks : List Kp} {k : Nat} (h : k < ks.length) : okS ks (k + 1) = (okS ks k && (decide (lastI ks k < ks[k].seq) && fmB ks[k].fc)) := by
  rw [okS, List.getElem?_eq_getElem h]
theorem okS_down {ks : List Kp} {k : Nat} (h : okS ks k = false) : ∀ {n}, k ≤ n → okS ks n = false := by
  intro n hn
  induction n with
  | zero => obtain rfl : k = 0 := by omega
            exact h
  | succ n ih =>
    by_cases e : k = n + 1
    · rw [← e]; exact h
    · rw [okS, ih (by omega), Bool.false_and]
/-- may a list of facts kept be? -/
def kpsB (ks : List Kp) : Bool := decide (ks.length ≤ 300) && (okS ks ks.length && decide (ks.length ≤ dist ks ks.length))
def SeqsTo (ks : List Kp) (w : World) (e : Ending) (w' : World) : Prop :=
  (kpsB ks = true ∧ ∃ b, e = .returned (.tuple #[.map (some b), .int .i64 0]) ∧ FmAt w' b ks ks.length ∧ w.heap.size ≤ b ∧ Ext w w') ∨ (kpsB ks = false ∧ e = .returned (.tuple #[.map none, .int .i64 1]) ∧ Ext w w')
theorem run_makeMapN {P : Program} {t k e : TypeId} (hu : P.underlying t = some (.map k e)) (n : Int) (w : World) : (Instr.makeMap t (some (.int .i64 n))).run P w = .ok (.map (some w.heap.size)) (w.alloc (.map #[] 0)) := by
  simp [Instr.makeMap, run_underlying hu, Result.andThen, asInt]
  rfl

set_option maxRecDepth 100000 in
set_option maxHeartbeats 4000000 in
theorem seqsOf_any (ks : List Kp) (A : Option Addr) (c : Nat) (w : World) (hc : ks.length ≤ c) (hl : ks.length ≤ 1000000) (h : KpsAt w ks A) :
    Calls Tryz.prog 34 #[.slice A ks.length c] w (SeqsTo ks w) := by
  have HO : Hid (∀ e w', SeqsTo ks w e w' = ((kpsB ks = true ∧ ∃ b, e = .returned (.tuple #[.map (some b), .int .i64 0]) ∧ FmAt w' b ks ks.length ∧ w.heap.size ≤ b ∧ Ext w w') ∨ (kpsB ks = false ∧ e = .returned (.tuple #[.map none, .int .i64 1]) ∧ Ext w w'))) := Lib.hid fun _ _ => rfl
  have HB : Hid (kpsB ks = (decide (ks.length ≤ 300) && (okS ks ks.length && decide (ks.length ≤ dist ks ks.length)))) := Lib.hid rfl
  generalize SeqsTo ks w = Z at HO ⊢
  by_cases h3 : ks.length ≤ 300
  · have h3' : decide ((300 : Int) < (ks.length : Int)) = false := decide_eq_false (by omega)
    have hmm := run_makeMapN Tryz.underlying70 (ks.length : Int)
    have hA := FmAt.made w ks
    have hx1 : Ext w (w.alloc (.map #[] 0)) := (Ext.refl w).alloc _
    go_enter Tryz.func34, Tryz.ntmps34
    go_upto_region 4 with (fail)
    clear hmm
    obtain ⟨b, hb⟩ : ∃ b, b = w.heap.size := ⟨_, rfl⟩
    rw [← hb] at hA
    rw [← hb]
    generalize w.alloc (.map #[] 0) = W1 at *
    have HBW : Hid (w.heap.size ≤ b) := Lib.hid (by omega)
    have HH := Lib.hid h
    clear hb h
    go_wp2_with fail
    go_loopw [15, 5, 6] (fun i _ _ wr => ∃ k : Nat, k ≤ ks.length ∧ i = .int .i64 k ∧ okS ks k = true ∧ FmAt wr b ks k ∧ Ext w wr) (fun i _ _ _ => ks.length - (intOf i).toNat)
    case atStart => exact ⟨0, Nat.zero_le _, rfl, rfl, hA, hx1⟩
    case round =>
      obtain ⟨k, hk, rfl, hok, hA, hx⟩ := hrel
      have hKr := HH.out.ext hx
      by_cases hlt : k < ks.length
      · obtain ⟨kb, ko, B, e, rfl, c0, c1, c2, c3, c4, c5, c6, hsub, hwf⟩ := hKr k hlt
        have hki : (k : Int) < (ks.length : Int) := by omega
        have hk0 : (0 : Int) ≤ (k : Int) := by omega
        have hkc : (k : Int) ≤ (c : Int) := by omega
        have HST := Lib.hid (okS_step hlt)
        have HK9 := Lib.hid hlt
        have HKR := Lib.hid hKr
        have HA := Lib.hid hA
        have HX := Lib.hid hx
        have HOK := Lib.hid hok
        have HWF := Lib.hid hwf
        have KL := Lib.hid (fun u (k' : Ext wr u) => last_any ks (some ⟨kb, ko, none⟩) k c u (hKr.ext k') (by omega) hl)
        have KM := Lib.hid (fun u (k' : Ext wr u) => May_any ks[k].fc B e u (hsub.ext k'))
        have HSUB := Lib.hid hsub
        have r1 := fun (u : World) => run_to Tryz.underlying22 Tryz.sizeOf50 u (some ⟨kb, ko, none⟩) ks.length c k (by omega)
        have HFC : Hid (∃ q : Kp, q = ks[k]) := Lib.hid ⟨_, rfl⟩
        generalize hq : ks[k] = q at *
        have HQ := Lib.hid hq
        have HL3 := Lib.hid h3
        clear hq hKr hA hx hsub hwf hok hl h3 h3' hc
        go_upto_region 7 with (fail)
        obtain ⟨wb, hwb⟩ : ∃ wb, wb = wr.alloc (.cells #[.int .i64 q.seq, .int .i64 q.fc.tm.kind, .string q.fc.tm.name, .int .i64 q.fc.tm.n, .slice B q.fc.tm.args.length e, .int .i64 q.fc.fr, .int .i64 q.fc.til] 50) := ⟨_, rfl⟩
        rw [← hwb]
        have hxb : Ext wr wb := by rw [hwb]; exact (Ext.refl _).alloc _
        have n0 : wb.cell? ⟨wr.heap.size, 0, none⟩ = some (.int .i64 q.seq) := by rw [hwb]; go_simp
        have n1 : wb.cell? ⟨wr.heap.size, 1, none⟩ = some (.int .i64 q.fc.tm.kind) := by rw [hwb]; go_simp
        have n2 : wb.cell? ⟨wr.heap.size, 2, none⟩ = some (.string q.fc.tm.name) := by rw [hwb]; go_simp
        have n3 : wb.cell? ⟨wr.heap.size, 3, none⟩ = some (.int .i64 q.fc.tm.n) := by rw [hwb]; go_simp
        have n4 : wb.cell? ⟨wr.heap.size, 4, none⟩ = some (.slice B q.fc.tm.args.length e) := by rw [hwb]; go_simp
        have n5 : wb.cell? ⟨wr.heap.size, 5, none⟩ = some (.int .i64 q.fc.fr) := by rw [hwb]; go_simp
        have n6 : wb.cell? ⟨wr.heap.size, 6, none⟩ = some (.int .i64 q.fc.til) := by rw [hwb]; go_simp
        obtain ⟨g, hg⟩ : ∃ g, g = wr.heap.size := ⟨_, rfl⟩
        rw [← hg] at n0 n1 n2 n3 n4 n5 n6
        rw [← hg]
        have HG := Lib.hid hg
        have HXB := Lib.hid hxb
        have KL2 : Hid (∀ p : ExtOf wb, Calls Tryz.prog 42 #[.slice (some ⟨kb, ko, none⟩) k c] p.to fun e w' => e = .returned (.int .i64 (lastI ks k)) ∧ Ext p.to w') := Lib.hid fun p => (KL.out p.to (hxb.trans p.is)).mono fun _ _ ⟨he, hw⟩ => ⟨he, hw ▸ Ext.refl _⟩
        have KM2 : Hid (∀ p : ExtOf wb, Calls Tryz.prog 16 #[q.fc.val B e] p.to fun e w' => e = .returned (.int .i64 (badE (fmB q.fc))) ∧ Ext p.to w') := Lib.hid fun p => KM.out p.to (hxb.trans p.is)
        obtain ⟨LI, hLI⟩ : ∃ LI, LI = lastI ks k := ⟨_, rfl⟩
        rw [← hLI] at KL2 HST
        obtain ⟨FB, hFB⟩ : ∃ FB, FB = fmB q.fc := ⟨_, rfl⟩
        rw [← hFB] at KM2 HST
        have HFB := Lib.hid hFB
        clear hwb hg hxb c0 c1 c2 c3 c4 c5 c6 hLI hFB KL KM
        go_cut [32] (fun v wx => v = .bool (!(decide (LI < q.seq) && FB)) ∧ Ext wb wx)
        case first =>
          have d0 : ∀ p : ExtOf wb, p.to.cell? _ = _ := ext_cell n0
          have d1 : ∀ p : ExtOf wb, p.to.cell? _ = _ := ext_cell n1
          have d2 : ∀ p : ExtOf wb, p.to.cell? _ = _ := ext_cell n2
          have d3 : ∀ p : ExtOf wb, p.to.cell? _ = _ := ext_cell n3
          have d4 : ∀ p : ExtOf wb, p.to.cell? _ = _ := ext_cell n4
          have d5 : ∀ p : ExtOf wb, p.to.cell? _ = _ := ext_cell n5
          have d6 : ∀ p : ExtOf wb, p.to.cell? _ = _ := ext_cell n6
          clear n0 n1 n2 n3 n4 n5 n6
          by_cases hle : q.seq ≤ LI
          · have hle' : decide (q.seq ≤ LI) = true := decide_eq_true hle
            have HV : Hid ((!(decide (LI < q.seq) && FB)) = true) := Lib.hid (by rw [decide_eq_false (by omega : ¬ LI < q.seq)]; rfl)
            refine wp_region_ext (by kernel_rfl) (by kernel_rfl) ?_
            repeat (go_big_quiet_step ((go_at_call 42; with_reducible exact of_ext (KL2.out _))))
            refine wpQuiet_nil ?_
            refine ext_all ?_
            intro w3 hx3
            clear d0 d1 d2 d3 d4 d5 d6
            go_wp2_with fail
            go_meet
            exact ⟨by rw [HV.out], hx3⟩
          · have hle' : decide (q.seq ≤ LI) = false := decide_eq_false hle
            have HV : Hid ((!(decide (LI < q.seq) && FB)) = !FB) := Lib.hid (by rw [decide_eq_true (by omega : LI < q.seq)]; rfl)
            refine wp_region_ext (by kernel_rfl) (by kernel_rfl) ?_
            repeat (go_big_quiet_step (first
              | (go_at_call 42; with_reducible exact of_ext (KL2.out _))
              | (go_at_call 16; with_reducible exact of_ext (KM2.out _))))
            refine wpQuiet_nil ?_
            refine ext_all ?_
            intro w3 hx3
            clear d0 d1 d2 d3 d4 d5 d6
            cases FB
            all_goals
              simp only [badE]
              go_wp2_with fail
              go_meet
              exact ⟨by rw [HV.out]; rfl, hx3⟩
        case rest =>
          obtain ⟨rfl, hx2⟩ := hcut
          obtain ⟨w2, hw2⟩ : ∃ w2 : World, w2 = wc := ⟨_, rfl⟩
          rw [← hw2] at hx2
          rw [← hw2]
          replace n0 := hx2.cell n0
          replace n1 := hx2.cell n1
          replace n2 := hx2.cell n2
          replace n3 := hx2.cell n3
          replace n4 := hx2.cell n4
          replace n5 := hx2.cell n5
          replace n6 := hx2.cell n6
          have HXR2 := Lib.hid (HXB.out.trans hx2)
          clear hw2 hx2
          rename_i hKK
          refine hKK _ _ ?_
          clear hKK
          cases hgo : (decide (LI < q.seq) && FB) with
          | false =>
            have HN : Hid (kpsB ks = false) := Lib.hid (by
              have h1 : okS ks (k + 1) = false := by rw [HST.out, hgo, Bool.and_false]
              rw [HB.out, okS_down h1 HK9.out, Bool.false_and, Bool.and_false])
            simp only [Bool.not_false]
            clear hgo n0 n1 n2 n3 n4 n5 n6
            go_wp2_with fail
            rw [HO.out]
            exact .inr ⟨HN.out, rfl, HX.out.trans HXR2.out⟩
          | true =>
            have HOK1 : Hid (okS ks (k + 1) = true) := Lib.hid (by rw [HST.out, hgo, HOK.out]; rfl)
            have HMAY : Hid (May q.fc) := Lib.hid (fm_may (by rw [← HFB.out]; exact ((Bool.and_eq_true _ _ ▸ hgo : _ ∧ _)).2))
            have KK := Lib.hid (fun u (k' : Ext w2 u) => (keyOf_any q.fc.tm B e q.fc.fr q.fc.til u ((HSUB.out.ext HXR2.out).ext k') (may_short HMAY.out.may) HMAY.out.parts.1).mono (fun e w' ⟨he, hx⟩ => (⟨he, k'.trans hx⟩ : e = Ending.returned q.fc.keyV ∧ Ext w2 w')))
            simp only [Bool.not_true]
            clear hgo
            have hgb : g ≠ b := by have := HA.out.lt; have := HG.out; omega
            have hI0 : Chg (· = b) w2 w2 := Chg.refl _ w2
            have rulesI := fun (u : World) (z : Chg (· = b) w2 u) => And.intro (z.cell n0 hgb) (And.intro (z.cell n1 hgb) (And.intro (z.cell n2 hgb) (And.intro (z.cell n3 hgb) (And.intro (z.cell n4 hgb) (And.intro (z.cell n5 hgb) (z.cell n6 hgb))))))
            obtain ⟨kl, hkl⟩ := key_is HMAY.out
            have HKL := Lib.hid hkl
            clear n0 n1 n2 n3 n4 n5 n6 hkl
            go_wp2_with fail
            go_region_held3 (fun u => Chg (· = b) w2 u) (first | with_reducible assumption | with_reducible exact Chg.of_ext (Ext.drew (Ext.refl _)) | with_reducible exact Chg.of_ext hx1 | with_reducible exact (Chg.of_ext hx1).trans (Chg.of_grown hg2))
              (first
                | (go_at_call 39; refine (KK.out _ (by first | assumption | exact Ext.drew (Ext.refl _))).mono ?_; rintro e1 w1 ⟨rfl, hx1⟩; obtain ⟨D, hown, hT⟩ := (HA.out.ext HXR2.out).ext hx1; obtain ⟨w4, hrun, hown2, hg2⟩ := hown.update keyedFk Tryz.underlying70 (by have := HK9.out; have := HL3.out; unfold maxLen; omega) HKL.out (plainElem_int Tryz.underlying3 HWF.out)))
            have k12 : Chg (· = b) w2 w4 := (Chg.of_ext hx1).trans (Chg.of_grown hg2)
            have hq := HQ.out
            subst hq
            have HP2 : Hid (FmAt w4 b ks (k + 1)) := Lib.hid ⟨_, hown2, hT.put HK9.out HMAY.out HKL.out hown.isMap (hown.tidy keyedFk)⟩
            have HX4 : Hid (Ext w w4) := Lib.hid (Chg.ext_of (HX.out.trans HXR2.out) k12 (fun x e => by subst e; exact HBW.out))
            have hk300 : k < 300 := Nat.lt_of_lt_of_le HK9.out HL3.out
            clear k12 hx1 hown hT hown2 hg2 rulesI hI0 hrun
            go_wp2_with fail
            go_roundw
            case rel => exact ⟨k + 1, HK9.out, by have := HL3.out; go_num, HOK1.out, HP2.out, HX4.out⟩
            case measure => have := HK9.out; have := HL3.out; simp [intOf]; omega
      · have hki : ¬ ((k : Int) < (ks.length : Int)) := by omega
        obtain rfl : k = ks.length := by omega
        have hA2 := hA
        obtain ⟨D, hown, hT⟩ := hA2
        have hlen := fun ty => hown.len Tryz.underlying70 ty
        simp only [hT.1] at hlen
        have HF := Lib.hid (And.intro hA hx)
        have HOK := Lib.hid hok
        clear hown hT hA hx hKr hok
        by_cases hd : dist ks ks.length < ks.length
        · have hdi : ((dist ks ks.length : Nat) : Int) < (ks.length : Int) := by omega
          have HN : Hid (kpsB ks = false) := Lib.hid (by rw [HB.out, decide_eq_false (by omega : ¬ ks.length ≤ dist ks ks.length), Bool.and_false, Bool.and_false])
          generalize dist ks ks.length = DD at *
          go_wp2_with fail
          rw [HO.out]
          exact .inr ⟨HN.out, rfl, HF.out.2⟩
        · have hdi : ¬ (((dist ks ks.length : Nat) : Int) < (ks.length : Int)) := by omega
          have HN : Hid (kpsB ks = true) := Lib.hid (by rw [HB.out, decide_eq_true h3, HOK.out, decide_eq_true (by omega : ks.length ≤ dist ks ks.length)]; rfl)
          generalize dist ks ks.length = DD at *
          go_wp2_with fail
          rw [HO.out]
          exact .inl ⟨HN.out, b, rfl, HF.out.1, HBW.out, HF.out.2⟩
  · have h3' : decide ((300 : Int) < (ks.length : Int)) = true := decide_eq_true (by omega)
    have HN : Hid (kpsB ks = false) := Lib.hid (by rw [HB.out, decide_eq_false h3]; rfl)
    go_enter Tryz.func34, Tryz.ntmps34
    go_wp2_with fail
    rw [HO.out]
    exact .inr ⟨HN.out, rfl, Ext.refl _⟩
end Go.Proofs.YtkdhpifjljkpfaaGreat

/- Rows of facts kept: of the call's own, filled from the front (made by wip/dev/rowgen.py). -/
namespace Go.Proofs.YtkdhpifjljkpfaaGreat
open Go.RowKit

/-- one, and where its term's arguments lie -/
abbrev KLain := Kp × Option Addr × Nat
def KLain.tl (x : KLain) : Lain := (x.1.fc.tm, x.2.1, x.2.2)
def KLain.cells (x : KLain) : List Value := [.int .i64 x.1.seq, .int .i64 x.1.fc.tm.kind, .string x.1.fc.tm.name, .int .i64 x.1.fc.tm.n, .slice x.2.1 x.1.fc.tm.args.length x.2.2, .int .i64 x.1.fc.fr, .int .i64 x.1.fc.til]
def Krow : List KLain → List Value
  | [] => []
  | x :: r => x.cells ++ Krow r
theorem Krow_len : ∀ xs : List KLain, (Krow xs).length = xs.length * 7
  | [] => rfl
  | x :: r => by rw [Krow, List.length_append, Krow_len r, KLain.cells, List.length_cons]; simp; omega
theorem Krow_app : ∀ xs ys : List KLain, Krow (xs ++ ys) = Krow xs ++ Krow ys
  | [], ys => rfl
  | x :: r, ys => by rw [List.cons_append, Krow, Krow_app r ys, Krow, List.append_assoc]
theorem Krow_one (x : KLain) : Krow [x] = x.cells := by simp [Krow]
theorem Krow_at : ∀ (xs : List KLain) (i j : Nat) (h : i < xs.length), j < 7 → (Krow xs)[i * 7 + j]? = xs[i].cells[j]?
  | x :: r, 0, j, _, hj => by
    rw [Krow, List.getElem?_append_left (by simp [KLain.cells]; omega)]
    simp
  | x :: r, i + 1, j, h, hj => by
    rw [Krow, List.getElem?_append_right (by simp [KLain.cells]; omega)]
    have e : (i + 1) * 7 + j - x.cells.length = i * 7 + j := by simp [KLain.cells]; omega
    rw [e, Krow_at r i j (by simpa using h) hj]
    simp
theorem KLain.one (x : KLain) : ∀ u ∈ x.cells, u.oneCell' = true := by
  intro u hu
  simp only [KLain.cells, List.mem_cons, List.not_mem_nil, or_false] at hu
  rcases hu with rfl | rfl | rfl | rfl | rfl | rfl | rfl <;> rfl
theorem Krow_one' : ∀ xs : List KLain, ∀ u ∈ Krow xs, u.oneCell' = true
  | [], u, h => by cases h
  | x :: r, u, h => by
    rw [Krow, List.mem_append] at h
    exact h.elim (x.one u) (Krow_one' r u)

/-- what is owned lies there -/
theorem Kowned {w : World} {base : Nat} {v : Value} {xs : List KLain} {n : Nat} (h : w.ownsRow base 50 7 v n (Krow xs)) (hx : ∀ x ∈ xs, TmAt w x.1.fc.tm x.2.1 x.2.2 ∧ (Lit.int .i64 x.1.seq).wf = true) :
    ∃ A c, v = .slice A xs.length c ∧ xs.length ≤ c ∧ KpsAt w (xs.map (·.1)) A := by
  have hn : xs.length = n := by have := h.1; rw [Krow_len] at this; omega
  subst hn
  rcases h.2 with ⟨rfl, h0⟩ | ⟨g, cap, cur, rfl, _, _, hc, _⟩
  · have e : xs = [] := List.eq_nil_of_length_eq_zero h0
    subst e
    exact ⟨none, 0, rfl, Nat.le_refl _, KpsAt.nil _ _⟩
  · refine ⟨_, cap, rfl, hc, fun i hi => ?_⟩
    have hi' : i < xs.length := by simpa using hi
    have cell : ∀ j, j < 7 → w.cell? ⟨g, 0 + i * 7 + j, none⟩ = xs[i].cells[j]? := fun j hj => by
      rw [show 0 + i * 7 + j = i * 7 + j by omega, h.cellAt (i * 7 + j) (by omega), Krow_at xs i j hi' hj]
    have hm := hx _ (List.getElem_mem hi')
    refine ⟨g, 0, xs[i].2.1, xs[i].2.2, rfl, ?_, ?_, ?_, ?_, ?_, ?_, ?_, ?_, ?_⟩
    · have := cell 0 (by omega); simpa [KLain.cells] using this
    · have := cell 1 (by omega); simpa [KLain.cells] using this
    · have := cell 2 (by omega); simpa [KLain.cells] using this
    · have := cell 3 (by omega); simpa [KLain.cells] using this
    · have := cell 4 (by omega); simpa [KLain.cells] using this
    · have := cell 5 (by omega); simpa [KLain.cells] using this
    · have := cell 6 (by omega); simpa [KLain.cells] using this
    · simpa using hm.1
    · simpa using hm.2

/-- in blocks of their own -/
structure KOwn (w : World) (us : List Kp) (A : Option Addr) (F : Nat → Prop) (B : Nat → Option Addr) (d : Nat → Nat) (G : Nat → Nat → Prop) : Prop where
  row : ∀ i (h : i < us.length), ∃ b o, A = some ⟨b, o, none⟩ ∧ w.cell? ⟨b, o + i * 7, none⟩ = some (.int .i64 us[i].seq) ∧ w.cell? ⟨b, o + i * 7 + 1, none⟩ = some (.int .i64 us[i].fc.tm.kind) ∧ w.cell? ⟨b, o + i * 7 + 2, none⟩ = some (.string us[i].fc.tm.name) ∧ w.cell? ⟨b, o + i * 7 + 3, none⟩ = some (.int .i64 us[i].fc.tm.n) ∧ w.cell? ⟨b, o + i * 7 + 4, none⟩ = some (.slice (B i) us[i].fc.tm.args.length (d i)) ∧ w.cell? ⟨b, o + i * 7 + 5, none⟩ = some (.int .i64 us[i].fc.fr) ∧ w.cell? ⟨b, o + i * 7 + 6, none⟩ = some (.int .i64 us[i].fc.til) ∧ (Lit.int .i64 us[i].seq).wf = true
  sub : ∀ i (h : i < us.length), TmOwn w us[i].fc.tm (B i) (d i) (G i)
  own : ∀ b o, A = some ⟨b, o, none⟩ → 0 < us.length → F b ∧ (∀ i, i < us.length → ¬ G i b) ∧ ∀ j, j < us.length * 7 → w.frozen? ⟨b, o + j, none⟩ = false
  inF : ∀ i, i < us.length → ∀ k, G i k → F k
  apart : ∀ i j, i < us.length → j < us.length → i ≠ j → ∀ k, G i k → ¬ G j k
theorem KOwn.at_ {w : World} {us : List Kp} {A : Option Addr} {F : Nat → Prop} {B : Nat → Option Addr} {d : Nat → Nat} {G : Nat → Nat → Prop} (h : KOwn w us A F B d G) : KpsAt w us A := by
  intro i hi
  obtain ⟨b, o, e, c0, c1, c2, c3, c4, c5, c6, hn⟩ := h.row i hi
  exact ⟨b, o, B i, d i, e, c0, c1, c2, c3, c4, c5, c6, (h.sub i hi).at_, hn⟩

/-! filled from the front -/
def KRowSet (ys : List Value) (zs : List KLain) : Prop := ∀ i (h : i < zs.length) j, j < 7 → ys[i * 7 + j]? = zs[i].cells[j]?
def put7 (ys : List Value) (p : Nat) (c0 c1 c2 c3 c4 c5 c6 : Value) : List Value := ((((((ys.set p c0).set (p + 1) c1).set (p + 2) c2).set (p + 3) c3).set (p + 4) c4).set (p + 5) c5).set (p + 6) c6
theorem KRowSet.step {ys : List Value} {zs : List KLain} (h : KRowSet ys zs) (y : KLain) (hl : zs.length * 7 + 7 ≤ ys.length) : KRowSet (put7 ys (zs.length * 7) (.int .i64 y.1.seq) (.int .i64 y.1.fc.tm.kind) (.string y.1.fc.tm.name) (.int .i64 y.1.fc.tm.n) (.slice y.2.1 y.1.fc.tm.args.length y.2.2) (.int .i64 y.1.fc.fr) (.int .i64 y.1.fc.til)) (zs ++ [y]) := by
  intro i hi j hj
  by_cases hlt : i < zs.length
  · rw [List.getElem_append_left hlt, ← h i hlt j hj]
    unfold put7
    rw [List.getElem?_set_ne (by omega), List.getElem?_set_ne (by omega), List.getElem?_set_ne (by omega), List.getElem?_set_ne (by omega), List.getElem?_set_ne (by omega), List.getElem?_set_ne (by omega), List.getElem?_set_ne (by omega)]
  · have e : i = zs.length := by simp at hi; omega
    subst e
    rw [List.getElem_concat_length rfl]
    unfold put7
    have e5 : j = 0 ∨ j = 1 ∨ j = 2 ∨ j = 3 ∨ j = 4 ∨ j = 5 ∨ j = 6 := by omega
    rcases e5 with rfl | rfl | rfl | rfl | rfl | rfl | rfl <;> simp [List.getElem?_set, KLain.cells] <;> omega
theorem KRowSet.all {ys : List Value} {zs : List KLain} (h : KRowSet ys zs) (hl : ys.length = zs.length * 7) : ys = Krow zs := by
  apply List.ext_getElem?
  intro q
  by_cases hq : q < zs.length * 7
  · have e : q = (q / 7) * 7 + q % 7 := by omega
    rw [e, h (q / 7) (by omega) (q % 7) (by omega), Krow_at zs (q / 7) (q % 7) (by omega) (by omega)]
  · rw [List.getElem?_eq_none (by omega), List.getElem?_eq_none (by rw [Krow_len]; omega)]
def set7 (w : World) (b o : Nat) (v0 v1 v2 v3 v4 v5 v6 : Value) : World := ((((((w.setCell ⟨b, o, none⟩ v0).setCell ⟨b, o + 1, none⟩ v1).setCell ⟨b, o + 2, none⟩ v2).setCell ⟨b, o + 3, none⟩ v3).setCell ⟨b, o + 4, none⟩ v4).setCell ⟨b, o + 5, none⟩ v5).setCell ⟨b, o + 6, none⟩ v6
theorem set7_size (w : World) (b o : Nat) (v0 v1 v2 v3 v4 v5 v6 : Value) : (set7 w b o v0 v1 v2 v3 v4 v5 v6).heap.size = w.heap.size := by simp [set7, World.setCell]
theorem set7_block (w : World) (b o : Nat) (v0 v1 v2 v3 v4 v5 v6 : Value) (k : Nat) (h : k ≠ b) : (set7 w b o v0 v1 v2 v3 v4 v5 v6).heap[k]? = w.heap[k]? := by
  unfold set7
  rw [Below.heap_setCell _ _ _ _ h, Below.heap_setCell _ _ _ _ h, Below.heap_setCell _ _ _ _ h, Below.heap_setCell _ _ _ _ h, Below.heap_setCell _ _ _ _ h, Below.heap_setCell _ _ _ _ h, Below.heap_setCell _ _ _ _ h]
theorem set7_chg (w : World) (b o : Nat) (v0 v1 v2 v3 v4 v5 v6 : Value) {F : Nat → Prop} (hF : F b) : Chg F w (set7 w b o v0 v1 v2 v3 v4 v5 v6) :=
  ⟨by simp [set7, World.setCell], by simp [set7, World.setCell], by simp [set7, World.setCell], by rw [set7_size]; exact Nat.le_refl _, fun k _ hk => set7_block _ _ _ _ _ _ _ _ _ _ _ (fun e => hk (e ▸ hF))⟩
theorem own_put7 {w : World} {base g n cap : Nat} {ys : List Value} (h : w.ownsRow base 50 7 (.slice (some ⟨g, 0, none⟩) n cap) n ys) (p : Nat) (c0 c1 c2 c3 c4 c5 c6 : Value) :
    (set7 w g p c0 c1 c2 c3 c4 c5 c6).ownsRow base 50 7 (.slice (some ⟨g, 0, none⟩) n cap) n (put7 ys p c0 c1 c2 c3 c4 c5 c6) := by
  have h0 := (h.stored p c0).1
  have h1 := (h0.stored (p + 1) c1).1
  have h2 := (h1.stored (p + 2) c2).1
  have h3 := (h2.stored (p + 3) c3).1
  have h4 := (h3.stored (p + 4) c4).1
  have h5 := (h4.stored (p + 5) c5).1
  have h6 := (h5.stored (p + 6) c6).1
  exact h6

/-- what filling has come to: us is to lie there -/
structure KFill (W w : World) (us : List Kp) (g : Nat) (k : Nat) (zs : List KLain) (G : Nat → Nat → Prop) (ys : List Value) : Prop where
  len : zs.length = k
  map : zs.map (·.1) = us.take k
  all : ys.length = us.length * 7
  row : KRowSet ys zs
  own : w.ownsRow W.heap.size 50 7 (.slice (some ⟨g, 0, none⟩) us.length us.length) us.length ys
  inv : CopyInv W w (.slice (some ⟨g, 0, none⟩) us.length us.length) (zs.map KLain.tl) G
  side : ∀ z ∈ zs, (Lit.int .i64 z.1.seq).wf = true

theorem KFill.store {W w w1 : World} {us : List Kp} {g k : Nat} {zs : List KLain} {G : Nat → Nat → Prop} {ys : List Value} (h : KFill W w us g k zs G ys) (hk : k < us.length) (hg : W.heap.size ≤ g)
    {A : Option Addr} {c : Nat} (hO : TmOwn w1 us[k].fc.tm A c (fun x => w.heap.size ≤ x ∧ x < w1.heap.size)) (hx : Ext w w1) (hn : (Lit.int .i64 us[k].seq).wf = true) :
    ∃ G', KFill W (set7 w1 g (k * 7) (.int .i64 us[k].seq) (.int .i64 us[k].fc.tm.kind) (.string us[k].fc.tm.name) (.int .i64 us[k].fc.tm.n) (.slice A us[k].fc.tm.args.length c) (.int .i64 us[k].fc.fr) (.int .i64 us[k].fc.til)) us g (k + 1) (zs ++ [(us[k], A, c)]) G'
      (put7 ys (k * 7) (.int .i64 us[k].seq) (.int .i64 us[k].fc.tm.kind) (.string us[k].fc.tm.name) (.int .i64 us[k].fc.tm.n) (.slice A us[k].fc.tm.args.length c) (.int .i64 us[k].fc.fr) (.int .i64 us[k].fc.til)) := by
  have hown1 := ownsRow_ext h.own hx
  have hput := own_put7 hown1 (k * 7) (.int .i64 us[k].seq) (.int .i64 us[k].fc.tm.kind) (.string us[k].fc.tm.name) (.int .i64 us[k].fc.tm.n) (.slice A us[k].fc.tm.args.length c) (.int .i64 us[k].fc.fr) (.int .i64 us[k].fc.til)
  have he : Ext W (set7 w1 g (k * 7) (.int .i64 us[k].seq) (.int .i64 us[k].fc.tm.kind) (.string us[k].fc.tm.name) (.int .i64 us[k].fc.tm.n) (.slice A us[k].fc.tm.args.length c) (.int .i64 us[k].fc.fr) (.int .i64 us[k].fc.til)) :=
    Chg.ext_of (h.inv.ext.trans hx) (set7_chg w1 g (k * 7) _ _ _ _ _ _ _ (F := fun x => x = g) rfl) (fun b hb => hb ▸ hg)
  have hst := h.inv.step2 (y := KLain.tl (us[k], A, c)) hO hx (fun b _ hne => set7_block w1 g (k * 7) _ _ _ _ _ _ _ b (fun e => hne (by rw [e]; rfl))) (set7_size _ _ _ _ _ _ _ _ _ _) (fun b hb => h.own.lt b hb) he
  refine ⟨_, by rw [List.length_append, h.len]; rfl, ?_, ?_, ?_, hput, by rw [List.map_append]; exact hst, fun z hz => ?_⟩
  · rw [List.map_append, h.map, List.take_succ_eq_append_getElem hk]; rfl
  · unfold put7; simp [h.all]
  · have := h.row.step (us[k], A, c) (by rw [h.len, h.all]; omega)
    rw [h.len] at this
    exact this
  · rcases List.mem_append.1 hz with hz | hz
    · exact h.side z hz
    · obtain rfl := List.mem_singleton.1 hz
      exact hn
theorem KFill.done {W w : World} {us : List Kp} {g k : Nat} {zs : List KLain} {G : Nat → Nat → Prop} {ys : List Value} (h : KFill W w us g k zs G ys) (hk : us.length ≤ k) :
    KOwn w us (some ⟨g, 0, none⟩) (fun x => W.heap.size ≤ x ∧ x < w.heap.size) (fun i => (zs[i]?.map (·.2.1)).getD none) (fun i => (zs[i]?.map (·.2.2)).getD 0) G := by
  have hm : zs.map (·.1) = us := by rw [h.map, List.take_of_length_le hk]
  have hl : zs.length = us.length := by have := congrArg List.length hm; rwa [List.length_map] at this
  have hy : ys = Krow zs := h.row.all (by rw [h.all, hl])
  have hu : ∀ i (hi : i < us.length), zs[i].1 = us[i] := fun i hi => by
    have := congrArg (fun l : List Kp => l[i]?) hm
    simp only [List.getElem?_map, List.getElem?_eq_getElem (show i < zs.length by omega), List.getElem?_eq_getElem hi, Option.map_some, Option.some.injEq] at this
    exact this
  have hlt := h.own.lt g rfl
  refine ⟨fun i hi => ?_, fun i hi => ?_, fun b o e hp => ?_, fun i hi k hk => ?_, fun i j hi hj => h.inv.apart i j (by simp; omega) (by simp; omega)⟩
  · have cell : ∀ j, j < 7 → w.cell? ⟨g, 0 + i * 7 + j, none⟩ = zs[i].cells[j]? := fun j hj => by
      rw [show 0 + i * 7 + j = i * 7 + j by omega, h.own.cellAt (i * 7 + j) (by omega), hy, Krow_at zs i j (by omega) hj]
    have eu := hu i hi
    refine ⟨g, 0, rfl, ?_, ?_, ?_, ?_, ?_, ?_, ?_, ?_⟩
    · have := cell 0 (by omega); simpa [KLain.cells, eu] using this
    · have := cell 1 (by omega); simpa [KLain.cells, eu] using this
    · have := cell 2 (by omega); simpa [KLain.cells, eu] using this
    · have := cell 3 (by omega); simpa [KLain.cells, eu] using this
    · have := cell 4 (by omega); simpa [KLain.cells, eu, hl, hi] using this
    · have := cell 5 (by omega); simpa [KLain.cells, eu] using this
    · have := cell 6 (by omega); simpa [KLain.cells, eu] using this
    · rw [← eu]; exact h.side _ (List.getElem_mem _)
  · have := h.inv.sub i (by simp; omega)
    simp only [List.getElem_map, KLain.tl, hu i hi] at this
    simpa [hl, hi] using this
  · injection e with e
    injection e with e1 e2
    subst e1 e2
    exact ⟨hlt, fun i hi hb => (h.inv.inF i (by simp; omega) g hb).2.2 rfl, fun j hj => by rw [Nat.zero_add]; exact h.own.frozenAt j⟩
  · have := h.inv.inF i (by simp; omega) k hk
    exact ⟨this.1, this.2.1⟩
theorem KFill.cells {W w : World} {us : List Kp} {g k : Nat} {zs : List KLain} {G : Nat → Nat → Prop} {ys : List Value} (h : KFill W w us g k zs G ys) (hk : k < us.length) :
    (∃ u, w.cell? ⟨g, k * 7, none⟩ = some u) ∧ (∃ u, w.cell? ⟨g, k * 7 + 1, none⟩ = some u) ∧ (∃ u, w.cell? ⟨g, k * 7 + 2, none⟩ = some u) ∧ (∃ u, w.cell? ⟨g, k * 7 + 3, none⟩ = some u) ∧ (∃ u, w.cell? ⟨g, k * 7 + 4, none⟩ = some u) ∧ (∃ u, w.cell? ⟨g, k * 7 + 5, none⟩ = some u) ∧ (∃ u, w.cell? ⟨g, k * 7 + 6, none⟩ = some u) ∧
    w.frozen? ⟨g, k * 7, none⟩ = false ∧ w.frozen? ⟨g, k * 7 + 1, none⟩ = false ∧ w.frozen? ⟨g, k * 7 + 2, none⟩ = false ∧ w.frozen? ⟨g, k * 7 + 3, none⟩ = false ∧ w.frozen? ⟨g, k * 7 + 4, none⟩ = false ∧ w.frozen? ⟨g, k * 7 + 5, none⟩ = false ∧ w.frozen? ⟨g, k * 7 + 6, none⟩ = false ∧ g < w.heap.size := by
  have hy := h.all
  have c := fun j (hj : j < 7) => (h.own.cellAt (k * 7 + j) (by omega)).trans (List.getElem?_eq_getElem (by omega))
  exact ⟨⟨_, c 0 (by omega)⟩, ⟨_, c 1 (by omega)⟩, ⟨_, c 2 (by omega)⟩, ⟨_, c 3 (by omega)⟩, ⟨_, c 4 (by omega)⟩, ⟨_, c 5 (by omega)⟩, ⟨_, c 6 (by omega)⟩,
    h.own.frozenAt _, h.own.frozenAt _, h.own.frozenAt _, h.own.frozenAt _, h.own.frozenAt _, h.own.frozenAt _, h.own.frozenAt _, (h.own.lt g rfl).2⟩
theorem KFill.start {W : World} (us : List Kp) {n : Nat} (hn : us.length = n) {g : Nat} (cs : Array Value) (hW : W.heap.size = g) (hc : cs.size = n * 7) (hm : n ≤ maxLen) :
    KFill W (W.alloc (.cells cs 50)) us g 0 [] (fun _ _ => False) cs.toList := by
  subst hW hn
  exact ⟨rfl, by simp, by simp [hc], fun i hi => absurd hi (by simp), World.ownsRow_lit W cs us.length (Nat.le_refl _) hm hc, ⟨fun i hi => absurd hi (by simp), fun i hi => absurd hi (by simp), fun i j hi => absurd hi (by simp), (Ext.refl _).alloc _⟩, fun z hz => absurd hz (by simp)⟩
end Go.Proofs.YtkdhpifjljkpfaaGreat

/- Rows of facts: of the call's own, filled from the front (made by wip/dev/rowgen.py). -/
namespace Go.Proofs.YtkdhpifjljkpfaaGreat
open Go.RowKit

/-- one, and where its term's arguments lie -/
abbrev FLain := Fc × Option Addr × Nat
def FLain.tl (x : FLain) : Lain := (x.1.tm, x.2.1, x.2.2)
def FLain.cells (x : FLain) : List Value := [.int .i64 x.1.tm.kind, .string x.1.tm.name, .int .i64 x.1.tm.n, .slice x.2.1 x.1.tm.args.length x.2.2, .int .i64 x.1.fr, .int .i64 x.1.til]
def Frow : List FLain → List Value
  | [] => []
  | x :: r => x.cells ++ Frow r
theorem Frow_len : ∀ xs : List FLain, (Frow xs).length = xs.length * 6
  | [] => rfl
  | x :: r => by rw [Frow, List.length_append, Frow_len r, FLain.cells, List.length_cons]; simp; omega
theorem Frow_app : ∀ xs ys : List FLain, Frow (xs ++ ys) = Frow xs ++ Frow ys
  | [], ys => rfl
  | x :: r, ys => by rw [List.cons_append, Frow, Frow_app r ys, Frow, List.append_assoc]
theorem Frow_one (x : FLain) : Frow [x] = x.cells := by simp [Frow]
theorem Frow_at : ∀ (xs : List FLain) (i j : Nat) (h : i < xs.length), j < 6 → (Frow xs)[i * 6 + j]? = xs[i].cells[j]?
  | x :: r, 0, j, _, hj => by
    rw [Frow, List.getElem?_append_left (by simp [FLain.cells]; omega)]
    simp
  | x :: r, i + 1, j, h, hj => by
    rw [Frow, List.getElem?_append_right (by simp [FLain.cells]; omega)]
    have e : (i + 1) * 6 + j - x.cells.length = i * 6 + j := by simp [FLain.cells]; omega
    rw [e, Frow_at r i j (by simpa using h) hj]
    simp
theorem FLain.one (x : FLain) : ∀ u ∈ x.cells, u.oneCell' = true := by
  intro u hu
  simp only [FLain.cells, List.mem_cons, List.not_mem_nil, or_false] at hu
  rcases hu with rfl | rfl | rfl | rfl | rfl | rfl <;> rfl
theorem Frow_one' : ∀ xs : List FLain, ∀ u ∈ Frow xs, u.oneCell' = true
  | [], u, h => by cases h
  | x :: r, u, h => by
    rw [Frow, List.mem_append] at h
    exact h.elim (x.one u) (Frow_one' r u)

/-- what is owned lies there -/
theorem Fowned {w : World} {base : Nat} {v : Value} {xs : List FLain} {n : Nat} (h : w.ownsRow base 44 6 v n (Frow xs)) (hx : ∀ x ∈ xs, TmAt w x.1.tm x.2.1 x.2.2 ∧ True) :
    ∃ A c, v = .slice A xs.length c ∧ xs.length ≤ c ∧ FcsAt w (xs.map (·.1)) A := by
  have hn : xs.length = n := by have := h.1; rw [Frow_len] at this; omega
  subst hn
  rcases h.2 with ⟨rfl, h0⟩ | ⟨g, cap, cur, rfl, _, _, hc, _⟩
  · have e : xs = [] := List.eq_nil_of_length_eq_zero h0
    subst e
    exact ⟨none, 0, rfl, Nat.le_refl _, FcsAt.nil _ _⟩
  · refine ⟨_, cap, rfl, hc, fun i hi => ?_⟩
    have hi' : i < xs.length := by simpa using hi
    have cell : ∀ j, j < 6 → w.cell? ⟨g, 0 + i * 6 + j, none⟩ = xs[i].cells[j]? := fun j hj => by
      rw [show 0 + i * 6 + j = i * 6 + j by omega, h.cellAt (i * 6 + j) (by omega), Frow_at xs i j hi' hj]
    have hm := hx _ (List.getElem_mem hi')
    refine ⟨g, 0, xs[i].2.1, xs[i].2.2, rfl, ?_, ?_, ?_, ?_, ?_, ?_, ?_⟩
    · have := cell 0 (by omega); simpa [FLain.cells] using this
    · have := cell 1 (by omega); simpa [FLain.cells] using this
    · have := cell 2 (by omega); simpa [FLain.cells] using this
    · have := cell 3 (by omega); simpa [FLain.cells] using this
    · have := cell 4 (by omega); simpa [FLain.cells] using this
    · have := cell 5 (by omega); simpa [FLain.cells] using this
    · simpa using hm.1


/-- in blocks of their own -/
structure FOwn (w : World) (us : List Fc) (A : Option Addr) (F : Nat → Prop) (B : Nat → Option Addr) (d : Nat → Nat) (G : Nat → Nat → Prop) : Prop where
  row : ∀ i (h : i < us.length), ∃ b o, A = some ⟨b, o, none⟩ ∧ w.cell? ⟨b, o + i * 6, none⟩ = some (.int .i64 us[i].tm.kind) ∧ w.cell? ⟨b, o + i * 6 + 1, none⟩ = some (.string us[i].tm.name) ∧ w.cell? ⟨b, o + i * 6 + 2, none⟩ = some (.int .i64 us[i].tm.n) ∧ w.cell? ⟨b, o + i * 6 + 3, none⟩ = some (.slice (B i) us[i].tm.args.length (d i)) ∧ w.cell? ⟨b, o + i * 6 + 4, none⟩ = some (.int .i64 us[i].fr) ∧ w.cell? ⟨b, o + i * 6 + 5, none⟩ = some (.int .i64 us[i].til) ∧ True
  sub : ∀ i (h : i < us.length), TmOwn w us[i].tm (B i) (d i) (G i)
  own : ∀ b o, A = some ⟨b, o, none⟩ → 0 < us.length → F b ∧ (∀ i, i < us.length → ¬ G i b) ∧ ∀ j, j < us.length * 6 → w.frozen? ⟨b, o + j, none⟩ = false
  inF : ∀ i, i < us.length → ∀ k, G i k → F k
  apart : ∀ i j, i < us.length → j < us.length → i ≠ j → ∀ k, G i k → ¬ G j k
theorem FOwn.at_ {w : World} {us : List Fc} {A : Option Addr} {F : Nat → Prop} {B : Nat → Option Addr} {d : Nat → Nat} {G : Nat → Nat → Prop} (h : FOwn w us A F B d G) : FcsAt w us A := by
  intro i hi
  obtain ⟨b, o, e, c0, c1, c2, c3, c4, c5, hn⟩ := h.row i hi
  exact ⟨b, o, B i, d i, e, c0, c1, c2, c3, c4, c5, (h.sub i hi).at_⟩

/-! filled from the front -/
def FRowSet (ys : List Value) (zs : List FLain) : Prop := ∀ i (h : i < zs.length) j, j < 6 → ys[i * 6 + j]? = zs[i].cells[j]?
def put6 (ys : List Value) (p : Nat) (c0 c1 c2 c3 c4 c5 : Value) : List Value := (((((ys.set p c0).set (p + 1) c1).set (p + 2) c2).set (p + 3) c3).set (p + 4) c4).set (p + 5) c5
theorem FRowSet.step {ys : List Value} {zs : List FLain} (h : FRowSet ys zs) (y : FLain) (hl : zs.length * 6 + 6 ≤ ys.length) : FRowSet (put6 ys (zs.length * 6) (.int .i64 y.1.tm.kind) (.string y.1.tm.name) (.int .i64 y.1.tm.n) (.slice y.2.1 y.1.tm.args.length y.2.2) (.int .i64 y.1.fr) (.int .i64 y.1.til)) (zs ++ [y]) := by
  intro i hi j hj
  by_cases hlt : i < zs.length
  · rw [List.getElem_append_left hlt, ← h i hlt j hj]
    unfold put6
    rw [List.getElem?_set_ne (by omega), List.getElem?_set_ne (by omega), List.getElem?_set_ne (by omega), List.getElem?_set_ne (by omega), List.getElem?_set_ne (by omega), List.getElem?_set_ne (by omega)]
  · have e : i = zs.length := by simp at hi; omega
    subst e
    rw [List.getElem_concat_length rfl]
    unfold put6
    have e5 : j = 0 ∨ j = 1 ∨ j = 2 ∨ j = 3 ∨ j = 4 ∨ j = 5 := by omega
    rcases e5 with rfl | rfl | rfl | rfl | rfl | rfl <;> simp [List.getElem?_set, FLain.cells] <;> omega
theorem FRowSet.all {ys : List Value} {zs : List FLain} (h : FRowSet ys zs) (hl : ys.length = zs.length * 6) : ys = Frow zs := by
  apply List.ext_getElem?
  intro q
  by_cases hq : q < zs.length * 6
  · have e : q = (q / 6) * 6 + q % 6 := by omega
    rw [e, h (q / 6) (by omega) (q % 6) (by omega), Frow_at zs (q / 6) (q % 6) (by omega) (by omega)]
  · rw [List.getElem?_eq_none (by omega), List.getElem?_eq_none (by rw [Frow_len]; omega)]
def set6 (w : World) (b o : Nat) (v0 v1 v2 v3 v4 v5 : Value) : World := (((((w.setCell ⟨b, o, none⟩ v0).setCell ⟨b, o + 1, none⟩ v1).setCell ⟨b, o + 2, none⟩ v2).setCell ⟨b, o + 3, none⟩ v3).setCell ⟨b, o + 4, none⟩ v4).setCell ⟨b, o + 5, none⟩ v5
theorem set6_size (w : World) (b o : Nat) (v0 v1 v2 v3 v4 v5 : Value) : (set6 w b o v0 v1 v2 v3 v4 v5).heap.size = w.heap.size := by simp [set6, World.setCell]
theorem set6_block (w : World) (b o : Nat) (v0 v1 v2 v3 v4 v5 : Value) (k : Nat) (h : k ≠ b) : (set6 w b o v0 v1 v2 v3 v4 v5).heap[k]? = w.heap[k]? := by
  unfold set6
  rw [Below.heap_setCell _ _ _ _ h, Below.heap_setCell _ _ _ _ h, Below.heap_setCell _ _ _ _ h, Below.heap_setCell _ _ _ _ h, Below.heap_setCell _ _ _ _ h, Below.heap_setCell _ _ _ _ h]
theorem set6_chg (w : World) (b o : Nat) (v0 v1 v2 v3 v4 v5 : Value) {F : Nat → Prop} (hF : F b) : Chg F w (set6 w b o v0 v1 v2 v3 v4 v5) :=
  ⟨by simp [set6, World.setCell], by simp [set6, World.setCell], by simp [set6, World.setCell], by rw [set6_size]; exact Nat.le_refl _, fun k _ hk => set6_block _ _ _ _ _ _ _ _ _ _ (fun e => hk (e ▸ hF))⟩
theorem own_put6 {w : World} {base g n cap : Nat} {ys : List Value} (h : w.ownsRow base 44 6 (.slice (some ⟨g, 0, none⟩) n cap) n ys) (p : Nat) (c0 c1 c2 c3 c4 c5 : Value) :
    (set6 w g p c0 c1 c2 c3 c4 c5).ownsRow base 44 6 (.slice (some ⟨g, 0, none⟩) n cap) n (put6 ys p c0 c1 c2 c3 c4 c5) := by
  have h0 := (h.stored p c0).1
  have h1 := (h0.stored (p + 1) c1).1
  have h2 := (h1.stored (p + 2) c2).1
  have h3 := (h2.stored (p + 3) c3).1
  have h4 := (h3.stored (p + 4) c4).1
  have h5 := (h4.stored (p + 5) c5).1
  exact h5

/-- what filling has come to: us is to lie there -/
structure FFill (W w : World) (us : List Fc) (g : Nat) (k : Nat) (zs : List FLain) (G : Nat → Nat → Prop) (ys : List Value) : Prop where
  len : zs.length = k
  map : zs.map (·.1) = us.take k
  all : ys.length = us.length * 6
  row : FRowSet ys zs
  own : w.ownsRow W.heap.size 44 6 (.slice (some ⟨g, 0, none⟩) us.length us.length) us.length ys
  inv : CopyInv W w (.slice (some ⟨g, 0, none⟩) us.length us.length) (zs.map FLain.tl) G
  side : ∀ z ∈ zs, True

theorem FFill.store {W w w1 : World} {us : List Fc} {g k : Nat} {zs : List FLain} {G : Nat → Nat → Prop} {ys : List Value} (h : FFill W w us g k zs G ys) (hk : k < us.length) (hg : W.heap.size ≤ g)
    {A : Option Addr} {c : Nat} (hO : TmOwn w1 us[k].tm A c (fun x => w.heap.size ≤ x ∧ x < w1.heap.size)) (hx : Ext w w1) (hn : True) :
    ∃ G', FFill W (set6 w1 g (k * 6) (.int .i64 us[k].tm.kind) (.string us[k].tm.name) (.int .i64 us[k].tm.n) (.slice A us[k].tm.args.length c) (.int .i64 us[k].fr) (.int .i64 us[k].til)) us g (k + 1) (zs ++ [(us[k], A, c)]) G'
      (put6 ys (k * 6) (.int .i64 us[k].tm.kind) (.string us[k].tm.name) (.int .i64 us[k].tm.n) (.slice A us[k].tm.args.length c) (.int .i64 us[k].fr) (.int .i64 us[k].til)) := by
  have hown1 := ownsRow_ext h.own hx
  have hput := own_put6 hown1 (k * 6) (.int .i64 us[k].tm.kind) (.string us[k].tm.name) (.int .i64 us[k].tm.n) (.slice A us[k].tm.args.length c) (.int .i64 us[k].fr) (.int .i64 us[k].til)
  have he : Ext W (set6 w1 g (k * 6) (.int .i64 us[k].tm.kind) (.string us[k].tm.name) (.int .i64 us[k].tm.n) (.slice A us[k].tm.args.length c) (.int .i64 us[k].fr) (.int .i64 us[k].til)) :=
    Chg.ext_of (h.inv.ext.trans hx) (set6_chg w1 g (k * 6) _ _ _ _ _ _ (F := fun x => x = g) rfl) (fun b hb => hb ▸ hg)
  have hst := h.inv.step2 (y := FLain.tl (us[k], A, c)) hO hx (fun b _ hne => set6_block w1 g (k * 6) _ _ _ _ _ _ b (fun e => hne (by rw [e]; rfl))) (set6_size _ _ _ _ _ _ _ _ _) (fun b hb => h.own.lt b hb) he
  refine ⟨_, by rw [List.length_append, h.len]; rfl, ?_, ?_, ?_, hput, by rw [List.map_append]; exact hst, fun z hz => ?_⟩
  · rw [List.map_append, h.map, List.take_succ_eq_append_getElem hk]; rfl
  · unfold put6; simp [h.all]
  · have := h.row.step (us[k], A, c) (by rw [h.len, h.all]; omega)
    rw [h.len] at this
    exact this
  · rcases List.mem_append.1 hz with hz | hz
    · exact h.side z hz
    · obtain rfl := List.mem_singleton.1 hz
      exact hn
theorem FFill.done {W w : World} {us : List Fc} {g k : Nat} {zs : List FLain} {G : Nat → Nat → Prop} {ys : List Value} (h : FFill W w us g k zs G ys) (hk : us.length ≤ k) :
    FOwn w us (some ⟨g, 0, none⟩) (fun x => W.heap.size ≤ x ∧ x < w.heap.size) (fun i => (zs[i]?.map (·.2.1)).getD none) (fun i => (zs[i]?.map (·.2.2)).getD 0) G := by
  have hm : zs.map (·.1) = us := by rw [h.map, List.take_of_length_le hk]
  have hl : zs.length = us.length := by have := congrArg List.length hm; rwa [List.length_map] at this
  have hy : ys = Frow zs := h.row.all (by rw [h.all, hl])
  have hu : ∀ i (hi : i < us.length), zs[i].1 = us[i] := fun i hi => by
    have := congrArg (fun l : List Fc => l[i]?) hm
    simp only [List.getElem?_map, List.getElem?_eq_getElem (show i < zs.length by omega), List.getElem?_eq_getElem hi, Option.map_some, Option.some.injEq] at this
    exact this
  have hlt := h.own.lt g rfl
  refine ⟨fun i hi => ?_, fun i hi => ?_, fun b o e hp => ?_, fun i hi k hk => ?_, fun i j hi hj => h.inv.apart i j (by simp; omega) (by simp; omega)⟩
  · have cell : ∀ j, j < 6 → w.cell? ⟨g, 0 + i * 6 + j, none⟩ = zs[i].cells[j]? := fun j hj => by
      rw [show 0 + i * 6 + j = i * 6 + j by omega, h.own.cellAt (i * 6 + j) (by omega), hy, Frow_at zs i j (by omega) hj]
    have eu := hu i hi
    refine ⟨g, 0, rfl, ?_, ?_, ?_, ?_, ?_, ?_, ?_⟩
    · have := cell 0 (by omega); simpa [FLain.cells, eu] using this
    · have := cell 1 (by omega); simpa [FLain.cells, eu] using this
    · have := cell 2 (by omega); simpa [FLain.cells, eu] using this
    · have := cell 3 (by omega); simpa [FLain.cells, eu, hl, hi] using this
    · have := cell 4 (by omega); simpa [FLain.cells, eu] using this
    · have := cell 5 (by omega); simpa [FLain.cells, eu] using this
    · trivial
  · have := h.inv.sub i (by simp; omega)
    simp only [List.getElem_map, FLain.tl, hu i hi] at this
    simpa [hl, hi] using this
  · injection e with e
    injection e with e1 e2
    subst e1 e2
    exact ⟨hlt, fun i hi hb => (h.inv.inF i (by simp; omega) g hb).2.2 rfl, fun j hj => by rw [Nat.zero_add]; exact h.own.frozenAt j⟩
  · have := h.inv.inF i (by simp; omega) k hk
    exact ⟨this.1, this.2.1⟩
theorem FFill.cells {W w : World} {us : List Fc} {g k : Nat} {zs : List FLain} {G : Nat → Nat → Prop} {ys : List Value} (h : FFill W w us g k zs G ys) (hk : k < us.length) :
    (∃ u, w.cell? ⟨g, k * 6, none⟩ = some u) ∧ (∃ u, w.cell? ⟨g, k * 6 + 1, none⟩ = some u) ∧ (∃ u, w.cell? ⟨g, k * 6 + 2, none⟩ = some u) ∧ (∃ u, w.cell? ⟨g, k * 6 + 3, none⟩ = some u) ∧ (∃ u, w.cell? ⟨g, k * 6 + 4, none⟩ = some u) ∧ (∃ u, w.cell? ⟨g, k * 6 + 5, none⟩ = some u) ∧
    w.frozen? ⟨g, k * 6, none⟩ = false ∧ w.frozen? ⟨g, k * 6 + 1, none⟩ = false ∧ w.frozen? ⟨g, k * 6 + 2, none⟩ = false ∧ w.frozen? ⟨g, k * 6 + 3, none⟩ = false ∧ w.frozen? ⟨g, k * 6 + 4, none⟩ = false ∧ w.frozen? ⟨g, k * 6 + 5, none⟩ = false ∧ g < w.heap.size := by
  have hy := h.all
  have c := fun j (hj : j < 6) => (h.own.cellAt (k * 6 + j) (by omega)).trans (List.getElem?_eq_getElem (by omega))
  exact ⟨⟨_, c 0 (by omega)⟩, ⟨_, c 1 (by omega)⟩, ⟨_, c 2 (by omega)⟩, ⟨_, c 3 (by omega)⟩, ⟨_, c 4 (by omega)⟩, ⟨_, c 5 (by omega)⟩,
    h.own.frozenAt _, h.own.frozenAt _, h.own.frozenAt _, h.own.frozenAt _, h.own.frozenAt _, h.own.frozenAt _, (h.own.lt g rfl).2⟩
theorem FFill.start {W : World} (us : List Fc) {n : Nat} (hn : us.length = n) {g : Nat} (cs : Array Value) (hW : W.heap.size = g) (hc : cs.size = n * 6) (hm : n ≤ maxLen) :
    FFill W (W.alloc (.cells cs 44)) us g 0 [] (fun _ _ => False) cs.toList := by
  subst hW hn
  exact ⟨rfl, by simp, by simp [hc], fun i hi => absurd hi (by simp), World.ownsRow_lit W cs us.length (Nat.le_refl _) hm hc, ⟨fun i hi => absurd hi (by simp), fun i hi => absurd hi (by simp), fun i j hi => absurd hi (by simp), (Ext.refl _).alloc _⟩, fun z hz => absurd hz (by simp)⟩
end Go.Proofs.YtkdhpifjljkpfaaGreat

/- facts.copiedFact: a ground fact in new memory. -/
namespace Go.Proofs.YtkdhpifjljkpfaaGreat
open Go.RowKit

theorem ren_ground (hh : Nat) : ∀ t : Tm, t.high ≤ hh → groundT t = true → renT ⟨#[]⟩ t = t := by
  have step : ∀ hh : Nat, (∀ t : Tm, t.high ≤ hh → groundT t = true → renT ⟨#[]⟩ t = t) → ∀ ts : List Tm, highs ts ≤ hh → groundL ts = true → renL ⟨#[]⟩ ts = ts := by
    intro hh ih ts
    induction ts with
    | nil => intro _ _; rfl
    | cons a ts ihl =>
      intro h g
      simp only [highs] at h
      simp only [groundL, Bool.and_eq_true] at g
      rw [renL, ih a (by omega) g.1, ihl (by omega) g.2]
  induction hh with
  | zero => intro t h; have := high_pos t; omega
  | succ hh ih =>
    intro t h g
    obtain ⟨ga, gk⟩ := groundT_parts g
    obtain ⟨k, s, n, l⟩ := t
    simp only [Tm.high] at h
    simp only at ga gk
    rw [renT, step hh ih l (by omega) ga, if_neg (by simpa using gk)]

set_option maxRecDepth 100000 in
set_option maxHeartbeats 4000000 in
theorem Rename_g (t : Tm) (A : Option Addr) (c : Nat) (w : World) (h : TmAt w t A c) (hm : mayB t = true) (hg : groundT t = true) :
    Calls Tryz.prog 50 #[t.val A c, .string ⟨#[]⟩] w fun e w' => ∃ A' c', e = .returned (.tuple #[t.val A' c', .int .i64 0]) ∧ TmOwn w' t A' c' (fun k => w.heap.size ≤ k ∧ k < w'.heap.size) ∧ Ext w w' := by
  have HRN := Lib.hid (ren_ground t.high t (Nat.le_refl _) hg)
  have R := Lib.hid hm
  have hsh := may_short hm
  have hh := may_high hm
  have KT := Lib.hid (fun u => tail_any ⟨#[]⟩ u (by decide))
  have htl : tailB ⟨#[]⟩ = true := by decide
  rw [htl] at KT
  clear hm htl
  go_enter Tryz.func50, Tryz.ntmps50
  go_wp2_with fail
  refine (check_yes t A c _ (h.ext (((Ext.refl _).alloc _).alloc _)) R.out).mono ?_
  rintro e w1 ⟨rfl, hx1⟩
  have hx01 := (((Ext.refl w).alloc _).alloc _).trans hx1
  have HR : Hid (Box4 w1 (w.heap.size + 1) (.int .i64 0) (.string ⟨#[]⟩) (.int .i64 0) (.slice none 0 0)) := Lib.hid (Box4.ext ⟨by go_simp, by go_simp, by go_simp, by go_simp, by go_simp, by go_simp, by go_simp, by go_simp⟩ hx1)
  have HT : Hid (Box4 w1 w.heap.size (.int .i64 t.kind) (.string t.name) (.int .i64 t.n) (.slice A t.args.length c)) := Lib.hid (Box4.ext ⟨by go_simp, by go_simp, by go_simp, by go_simp, by go_simp, by go_simp, by go_simp, by go_simp⟩ hx1)
  obtain ⟨b0, b1, b2, b3, _, _, _, _⟩ := HT.out
  go_wp2_with (go_at_call 65; refine (KT.out _).mono ?_; rintro e w' ⟨rfl, rfl⟩)
  refine (ground_any 5 t A c _ hh (h.ext hx01)).mono ?_
  rintro e w2 ⟨rfl, hx2⟩
  have hx02 := hx01.trans hx2
  have HR2 := Lib.hid (HR.out.ext hx2)
  have HT2 := Lib.hid (HT.out.ext hx2)
  clear b0 b1 b2 b3 HR HT
  obtain ⟨b0, b1, b2, b3, _, _, _, _⟩ := HT2.out
  go_wp2_with fail
  refine (renamed_any 5 t ⟨#[]⟩ A c _ hh hsh (by decide) (h.ext hx02)).mono ?_
  rintro e w3 ⟨A', c', rfl, hO, hx3⟩
  rw [HRN.out] at hO
  obtain ⟨r0, r1, r2, r3, g0, g1, g2, g3⟩ := HR2.out.ext hx3
  have hsz := hx02.size
  have lr := HR2.out.lt
  have HO := Lib.hid hO
  clear hO
  go_wp2_with fail
  refine bodyPost_ret (v := .tuple #[(renT ⟨#[]⟩ t).val A' c', .int .i64 0]) (by simp [results, Tryz.results50, go_sem, *]) rfl ⟨A', c', by rw [HRN.out], HO.out.answer (r := w.heap.size + 1) (B := w.heap.size) _ _ _ _ (by omega) (by omega) rfl, Chg.ext_of (hx02.trans hx3) (set4_chg w3 (w.heap.size + 1) 0 _ _ _ _ (F := fun x => x = w.heap.size + 1) rfl) (fun b hb => by omega)⟩

/-- a fact in new memory -/
def FCopied (x : Fc) (w : World) (e : Ending) (w' : World) : Prop := ∃ A c, e = .returned (x.val A c) ∧ TmOwn w' x.tm A c (fun k => w.heap.size ≤ k ∧ k < w'.heap.size) ∧ Ext w w'
set_option maxRecDepth 100000 in
set_option maxHeartbeats 4000000 in
theorem copiedFact_any (x : Fc) (A : Option Addr) (c : Nat) (w : World) (h : TmAt w x.tm A c) (hx : May x) :
    Calls Tryz.prog 30 #[x.val A c] w (FCopied x w) := by
  obtain ⟨t, f, u⟩ := x
  simp only at h
  obtain ⟨W1, hW1⟩ : ∃ W1, W1 = (w.alloc (.cells #[.int .i64 t.kind, .string t.name, .int .i64 t.n, .slice A t.args.length c, .int .i64 f, .int .i64 u] 44)).alloc (.cells #[.int .i64 0, .string ⟨#[]⟩, .int .i64 0, .slice none 0 0, .int .i64 0, .int .i64 0] 44) := ⟨_, rfl⟩
  have hx1 : Ext w W1 := by rw [hW1]; exact ((Ext.refl w).alloc _).alloc _
  have q0 : W1.cell? ⟨w.heap.size, 0, none⟩ = some (.int .i64 t.kind) := by rw [hW1]; go_simp
  have q1 : W1.cell? ⟨w.heap.size, 1, none⟩ = some (.string t.name) := by rw [hW1]; go_simp
  have q2 : W1.cell? ⟨w.heap.size, 2, none⟩ = some (.int .i64 t.n) := by rw [hW1]; go_simp
  have q3 : W1.cell? ⟨w.heap.size, 3, none⟩ = some (.slice A t.args.length c) := by rw [hW1]; go_simp
  have q4 : W1.cell? ⟨w.heap.size, 4, none⟩ = some (.int .i64 f) := by rw [hW1]; go_simp
  have q5 : W1.cell? ⟨w.heap.size, 5, none⟩ = some (.int .i64 u) := by rw [hW1]; go_simp
  have hs1 : W1.heap.size = w.heap.size + 1 + 1 := by rw [hW1]; simp
  have KR := Lib.hid (Rename_g t A c W1 (h.ext hx1) hx.may hx.ground)
  have z : ∀ j, j < 6 → (∃ v, W1.cell? ⟨w.heap.size + 1, j, none⟩ = some v) ∧ W1.frozen? ⟨w.heap.size + 1, j, none⟩ = false := fun j hj => by
    have e5 : j = 0 ∨ j = 1 ∨ j = 2 ∨ j = 3 ∨ j = 4 ∨ j = 5 := by omega
    rw [hW1]
    rcases e5 with rfl | rfl | rfl | rfl | rfl | rfl <;> exact ⟨⟨_, by go_simp; try rfl⟩, by go_simp⟩
  have HW := Lib.hid hW1
  have HZ := Lib.hid z
  clear hW1 h z
  go_enter Tryz.func30, Tryz.ntmps30
  go_upto_region 1 with (fail)
  rw [← HW.out]
  clear HW
  go_wp2_with fail
  refine KR.out.mono ?_
  rintro e w2 ⟨A', c', rfl, hO, hx2⟩
  replace q4 := hx2.cell q4
  replace q5 := hx2.cell q5
  have hlt1 : w.heap.size + 1 < W1.heap.size := by omega
  obtain ⟨⟨z0, y0⟩, s0⟩ := HZ.out 0 (by omega)
  obtain ⟨⟨z1, y1⟩, s1⟩ := HZ.out 1 (by omega)
  obtain ⟨⟨z2, y2⟩, s2⟩ := HZ.out 2 (by omega)
  obtain ⟨⟨z3, y3⟩, s3⟩ := HZ.out 3 (by omega)
  obtain ⟨⟨z4, y4⟩, s4⟩ := HZ.out 4 (by omega)
  obtain ⟨⟨z5, y5⟩, s5⟩ := HZ.out 5 (by omega)
  replace y0 := hx2.cell y0
  replace y1 := hx2.cell y1
  replace y2 := hx2.cell y2
  replace y3 := hx2.cell y3
  replace y4 := hx2.cell y4
  replace y5 := hx2.cell y5
  replace s0 := (Below.frozen hx2 (p := ⟨w.heap.size + 1, 0, none⟩) hlt1).trans s0
  replace s1 := (Below.frozen hx2 (p := ⟨w.heap.size + 1, 1, none⟩) hlt1).trans s1
  replace s2 := (Below.frozen hx2 (p := ⟨w.heap.size + 1, 2, none⟩) hlt1).trans s2
  replace s3 := (Below.frozen hx2 (p := ⟨w.heap.size + 1, 3, none⟩) hlt1).trans s3
  replace s4 := (Below.frozen hx2 (p := ⟨w.heap.size + 1, 4, none⟩) hlt1).trans s4
  replace s5 := (Below.frozen hx2 (p := ⟨w.heap.size + 1, 5, none⟩) hlt1).trans s5
  have hlt2 : w.heap.size + 1 < w2.heap.size := Nat.lt_of_lt_of_le hlt1 hx2.size
  have HX2 := Lib.hid (hx1.trans hx2)
  have HO := Lib.hid hO
  have HS1 := Lib.hid hs1
  have hsz0 : w.heap.size < w2.heap.size := by omega
  clear q0 q1 q2 q3 hx2 hx1 hO HZ KR hs1
  go_wp2_with fail
  have hC : Chg (· = w.heap.size + 1) w2 (set6 w2 (w.heap.size + 1) 0 (.int .i64 t.kind) (.string t.name) (.int .i64 t.n) (.slice A' t.args.length c') (.int .i64 f) (.int .i64 u)) := set6_chg _ _ _ _ _ _ _ _ _ rfl
  have hO2 := (HO.out.chg hC (fun b hb e => by have := HS1.out; have e' : b = w.heap.size + 1 := e; omega))
  refine bodyPost_ret (v := .agg #[.int .i64 t.kind, .string t.name, .int .i64 t.n, .slice A' t.args.length c', .int .i64 f, .int .i64 u]) (by simp [results, Tryz.results30, go_sem, *]) rfl ⟨A', c', rfl, (hO2.ext ((Ext.refl _).alloc _)).weak (fun b hb => ⟨by have := HS1.out; omega, ?_⟩), Chg.ext_of HX2.out (hC.trans (Chg.of_ext ((Ext.refl _).alloc _))) (fun b e => by have e' : b = w.heap.size + 1 := e; omega)⟩
  have := hb.2
  simp
  omega
end Go.Proofs.YtkdhpifjljkpfaaGreat

/- facts.copied: a list of facts kept in new memory. -/
namespace Go.Proofs.YtkdhpifjljkpfaaGreat
open Go.RowKit

theorem chg7 {w : World} {g : Nat} (o0 o1 o2 o3 o4 o5 o6 : Nat) (v0 v1 v2 v3 v4 v5 v6 : Value) : Chg (· = g) w (((((((w.setCell ⟨g, o0, none⟩ v0).setCell ⟨g, o1, none⟩ v1).setCell ⟨g, o2, none⟩ v2).setCell ⟨g, o3, none⟩ v3).setCell ⟨g, o4, none⟩ v4).setCell ⟨g, o5, none⟩ v5).setCell ⟨g, o6, none⟩ v6) := by
  refine ⟨by simp [World.setCell], by simp [World.setCell], by simp [World.setCell], by simp [World.setCell], fun k _ hk => ?_⟩
  rw [Below.heap_setCell _ _ _ _ hk, Below.heap_setCell _ _ _ _ hk, Below.heap_setCell _ _ _ _ hk, Below.heap_setCell _ _ _ _ hk, Below.heap_setCell _ _ _ _ hk, Below.heap_setCell _ _ _ _ hk, Below.heap_setCell _ _ _ _ hk]
theorem infoKp : (Tryz.prog.info? 50).map (fun i => (i.zero, i.size, i.bytes)) = some (some (.agg #[.int .i64 0, .int .i64 0, .string ⟨#[]⟩, .int .i64 0, .slice none 0 0, .int .i64 0, .int .i64 0]), 7, 80) := by kernel_rfl
/-- facts kept, in blocks that lie behind w's end, none twice -/
structure KOwned (ks : List Kp) (w w' : World) (v : Value) (zs : List KLain) (G : Nat → Nat → Prop) : Prop where
  map : zs.map (·.1) = ks
  own : w'.ownsRow w.heap.size 50 7 v ks.length (Krow zs)
  inv : CopyInv w w' v (zs.map KLain.tl) G
  side : ∀ z ∈ zs, (Lit.int .i64 z.1.seq).wf = true
theorem KOwned.len {ks : List Kp} {w w' : World} {v : Value} {zs : List KLain} {G : Nat → Nat → Prop} (h : KOwned ks w w' v zs G) : zs.length = ks.length := by rw [← h.map, List.length_map]
theorem KOwned.at_ {ks : List Kp} {w w' : World} {v : Value} {zs : List KLain} {G : Nat → Nat → Prop} (h : KOwned ks w w' v zs G) : ∃ A c, v = .slice A ks.length c ∧ ks.length ≤ c ∧ KpsAt w' ks A := by
  obtain ⟨A, c, e, hc, hK⟩ := Kowned h.own (fun x hx => by
    obtain ⟨i, hi, rfl⟩ := List.getElem_of_mem hx
    refine ⟨?_, h.side _ hx⟩
    have := h.inv.sub i (by simpa using hi)
    simp only [List.getElem_map, KLain.tl] at this
    exact this.at_)
  rw [h.len] at e hc
  rw [h.map] at hK
  exact ⟨A, c, e, hc, hK⟩
def KCopied (ks : List Kp) (w : World) (e : Ending) (w' : World) : Prop := ∃ v zs G, e = .returned v ∧ KOwned ks w w' v zs G

set_option maxRecDepth 100000 in
set_option maxHeartbeats 8000000 in
theorem copied_any (ks : List Kp) (A : Option Addr) (c : Nat) (w : World) (hl : ks.length ≤ 1000000) (h : KpsAt w ks A) (hm : ∀ i (h : i < ks.length), May ks[i].fc) :
    Calls Tryz.prog 43 #[.slice A ks.length c] w (KCopied ks w) := by
  obtain ⟨i0, hi0, hz0, hz1, hz2⟩ := info_parts infoKp
  have hmk : ∀ u : World, (Instr.makeSlice 22 (.int .i64 (ks.length : Int)) (.int .i64 (ks.length : Int))).run Tryz.prog u =
      .ok (.slice (some ⟨u.heap.size, 0, none⟩) ks.length ks.length) (u.alloc (.cells (madeCells #[.int .i64 0, .int .i64 0, .string ⟨#[]⟩, .int .i64 0, .slice none 0 0, .int .i64 0, .int .i64 0] (ks.length * 7)) 50)) := fun u => by
    have h := run_make (P := Tryz.prog) u 22 50 i0 _ Tryz.underlying22 hi0 hz0 .i64 .i64 (ks.length : Int) (ks.length : Int) (by omega) (Int.le_refl _) (by rw [hz2]; omega) (by omega)
    simp only [Int.toNat_natCast, hz1] at h
    exact h
  have hST := KFill.start (W := w) ks rfl (g := w.heap.size) (madeCells #[.int .i64 0, .int .i64 0, .string ⟨#[]⟩, .int .i64 0, .slice none 0 0, .int .i64 0, .int .i64 0] (ks.length * 7)) rfl (size_madeCells _ _) (by unfold maxLen; omega)
  go_enter Tryz.func43, Tryz.ntmps43
  go_upto_region 2 with (fail)
  clear hmk
  obtain ⟨g, hg⟩ : ∃ g, g = w.heap.size := ⟨_, rfl⟩
  rw [← hg] at hST
  rw [← hg]
  generalize w.alloc (.cells (madeCells #[.int .i64 0, .int .i64 0, .string ⟨#[]⟩, .int .i64 0, .slice none 0 0, .int .i64 0, .int .i64 0] (ks.length * 7)) 50) = W1 at *
  have HG : Hid (w.heap.size ≤ g) := Lib.hid (by omega)
  have HL := Lib.hid hl
  have HM := Lib.hid hm
  have HH := Lib.hid h
  clear hg h hm hl i0 hi0 hz0 hz1 hz2
  go_wp2_with fail
  go_loopw [11, 4, 5] (fun i _ _ wr => ∃ (k : Nat) (zs : List KLain) (G : Nat → Nat → Prop) (ys : List Value), k ≤ ks.length ∧ i = .int .i64 k ∧ KFill w wr ks g k zs G ys) (fun i _ _ _ => ks.length - (intOf i).toNat)
  case atStart => exact ⟨0, [], _, _, Nat.zero_le _, rfl, hST⟩
  case round =>
    obtain ⟨k, zs, G, ys, hk, rfl, hF⟩ := hrel
    have hx := hF.inv.ext
    by_cases hlt : k < ks.length
    · obtain ⟨b, o, B, e, rfl, c0, c1, c2, c3, c4, c5, c6, hsub, hwf⟩ := (HH.out.ext hx) k hlt
      have hki : (k : Int) < (ks.length : Int) := by omega
      have hk0 : (0 : Int) ≤ (k : Int) := by omega
      have KC := Lib.hid (fun u (k' : Ext wr u) => copiedFact_any ks[k].fc B e u (hsub.ext k') (HM.out k hlt))
      obtain ⟨⟨y0, e0⟩, ⟨y1, e1⟩, ⟨y2, e2⟩, ⟨y3, e3⟩, ⟨y4, e4⟩, ⟨y5, e5⟩, ⟨y6, e6⟩, f0, f1, f2, f3, f4, f5, f6, hgl⟩ := hF.cells hlt
      have HF := Lib.hid hF
      have HK := Lib.hid hlt
      have HWF := Lib.hid hwf
      have HFST : Hid (∀ (w1 : World) (A' : Option Addr) (c' : Nat), TmOwn w1 ks[k].fc.tm A' c' (fun x => wr.heap.size ≤ x ∧ x < w1.heap.size) → Ext wr w1 → ∃ zs' G' ys', KFill w (set7 w1 g (k * 7) (.int .i64 ks[k].seq) (.int .i64 ks[k].fc.tm.kind) (.string ks[k].fc.tm.name) (.int .i64 ks[k].fc.tm.n) (.slice A' ks[k].fc.tm.args.length c') (.int .i64 ks[k].fc.fr) (.int .i64 ks[k].fc.til)) ks g (k + 1) zs' G' ys') := Lib.hid fun w1 A' c' hO hx1 => by
        obtain ⟨G', h'⟩ := hF.store hlt HG.out hO hx1 hwf
        exact ⟨_, G', _, h'⟩
      generalize ks[k] = q at *
      clear hF hsub hwf hx hST
      go_upto_region 5 with (fail)
      obtain ⟨wb, hwb⟩ : ∃ wb, wb = wr.alloc (.cells #[.int .i64 q.seq, .int .i64 q.fc.tm.kind, .string q.fc.tm.name, .int .i64 q.fc.tm.n, .slice B q.fc.tm.args.length e, .int .i64 q.fc.fr, .int .i64 q.fc.til] 50) := ⟨_, rfl⟩
      rw [← hwb]
      have hxb : Ext wr wb := by rw [hwb]; exact (Ext.refl _).alloc _
      have n0 : wb.cell? ⟨wr.heap.size, 0, none⟩ = some (.int .i64 q.seq) := by rw [hwb]; go_simp
      have n1 : wb.cell? ⟨wr.heap.size, 1, none⟩ = some (.int .i64 q.fc.tm.kind) := by rw [hwb]; go_simp
      have n2 : wb.cell? ⟨wr.heap.size, 2, none⟩ = some (.string q.fc.tm.name) := by rw [hwb]; go_simp
      have n3 : wb.cell? ⟨wr.heap.size, 3, none⟩ = some (.int .i64 q.fc.tm.n) := by rw [hwb]; go_simp
      have n4 : wb.cell? ⟨wr.heap.size, 4, none⟩ = some (.slice B q.fc.tm.args.length e) := by rw [hwb]; go_simp
      have n5 : wb.cell? ⟨wr.heap.size, 5, none⟩ = some (.int .i64 q.fc.fr) := by rw [hwb]; go_simp
      have n6 : wb.cell? ⟨wr.heap.size, 6, none⟩ = some (.int .i64 q.fc.til) := by rw [hwb]; go_simp
      have hgb : wr.heap.size ≠ g := by omega
      have hsb := hxb.size
      clear hwb c0 c1 c2 c3 c4 c5 c6
      have rulesI := fun (u : World) (z : Chg (· = g) wb u) => And.intro (z.cell n0 hgb) (And.intro (z.cell n1 hgb) (And.intro (z.cell n2 hgb) (And.intro (z.cell n3 hgb) (And.intro (z.cell n4 hgb) (And.intro (z.cell n5 hgb) (z.cell n6 hgb))))))
      have KC2 := Lib.hid (fun (u : World) (hu : Ext wb u) => (KC.out u (hxb.trans hu)).mono (fun e w' (hc : FCopied q.fc u e w') => (show ∃ A' c', e = Ending.returned (q.fc.val A' c') ∧ TmOwn w' q.fc.tm A' c' (fun x => wr.heap.size ≤ x ∧ x < w'.heap.size) ∧ Ext wr w' ∧ Ext wb w' from by
        obtain ⟨A', c', he, hO, hx⟩ := hc
        have hs := (hxb.trans hu).size
        exact ⟨A', c', he, hO.weak (fun x hx => ⟨Nat.le_trans hs hx.1, hx.2⟩), (hxb.trans hu).trans hx, hu.trans hx⟩)))
      have hI0 : Chg (· = g) wb wb := Chg.refl _ wb
      clear n0 n1 n2 n3 n4 n5 n6
      obtain ⟨m0, m1, m2, m3, m4, m5, m6⟩ := rulesI wb hI0
      go_region_with (go_at_call 30; refine (KC2.out _ (by first | assumption | exact Ext.refl _ | exact Ext.drew (Ext.refl _))).mono ?_; rintro e1 w1 ⟨A', c', rfl, hO, hx1, hx2⟩; have v0 := hx1.cell e0; have v1 := hx1.cell e1; have v2 := hx1.cell e2; have v3 := hx1.cell e3; have v4 := hx1.cell e4; have v5 := hx1.cell e5; have v6 := hx1.cell e6; have g0 := (Below.frozen hx1 (p := ⟨g, k * 7, none⟩) hgl).trans f0; have g1 := (Below.frozen hx1 (p := ⟨g, k * 7 + 1, none⟩) hgl).trans f1; have g2 := (Below.frozen hx1 (p := ⟨g, k * 7 + 2, none⟩) hgl).trans f2; have g3 := (Below.frozen hx1 (p := ⟨g, k * 7 + 3, none⟩) hgl).trans f3; have g4 := (Below.frozen hx1 (p := ⟨g, k * 7 + 4, none⟩) hgl).trans f4; have g5 := (Below.frozen hx1 (p := ⟨g, k * 7 + 5, none⟩) hgl).trans f5; have g6 := (Below.frozen hx1 (p := ⟨g, k * 7 + 6, none⟩) hgl).trans f6; obtain ⟨p0, p1, p2, p3, p4, p5, p6⟩ := rulesI w1 (Chg.of_ext hx2))
      all_goals
        have hst := HFST.out w1 A' c' hO hx1
        have HST := Lib.hid hst
        have hkb : k < 1000000 := Nat.lt_of_lt_of_le HK.out HL.out
        clear hst rulesI hI0 hO hx1 hx2 v0 v1 v2 v3 v4 v5 v6 g0 g1 g2 g3 g4 g5 g6 p0 p1 p2 p3 p4 p5 p6 m0 m1 m2 m3 m4 m5 m6 e0 e1 e2 e3 e4 e5 e6 f0 f1 f2 f3 f4 f5 f6 HFST KC KC2
        go_wp2_with fail
        go_roundw
        case rel =>
          obtain ⟨zs', G', ys', h'⟩ := HST.out
          exact ⟨k + 1, zs', G', ys', HK.out, by have := HL.out; go_num, h'⟩
        case measure => have := HK.out; have := HL.out; simp [intOf]; omega
    · have hki : ¬ ((k : Int) < (ks.length : Int)) := by omega
      have HF : Hid (KCopied ks w (.returned (.slice (some ⟨g, 0, none⟩) ks.length ks.length)) wr) := Lib.hid (by
        have hrow : ys = Krow zs := hF.row.all (by rw [hF.all, hF.len]; omega)
        refine ⟨_, zs, G, rfl, by rw [hF.map, List.take_of_length_le (by omega)], ?_, hF.inv, hF.side⟩
        rw [← hrow]
        exact hF.own)
      clear hF hx
      go_wp2_with fail
      go_ret
      exact HF.out
end Go.Proofs.YtkdhpifjljkpfaaGreat
