/- facts.last, seqsOf: the Seqs of a list that may be. -/
import Derived.Test.YtcfhokejfibgoaaFki
import Derived.Test.YtcfhokejfibgoaaRnm
import Derived.Deep.RegionHeld3
namespace Go.Proofs.Ytcfhokejfibgoaa
open Go.RowKit Go.Maps

/-- the Seq ahead of place k -/
def lastI (ks : List Kp) : Nat → Int
  | 0 => -1
  | k + 1 => (ks[k]?.map Kp.seq).getD 0
theorem lastI_at {ks : List Kp} {k : Nat} (h : k < ks.length) : lastI ks (k + 1) = ks[k].seq := by rw [lastI, List.getElem?_eq_getElem h]; rfl
theorem last_any (ks : List Kp) (A : Option Addr) (n c : Nat) (w : World) (h : KpsAt w ks A) (hn : n ≤ ks.length) (hl : ks.length ≤ 1000000) :
    Calls Try.prog 28 #[.slice A n c] w fun e w' => e = .returned (.int .i64 (lastI ks n)) ∧ w' = w := by
  cases n with
  | zero =>
    go_enter Try.func28, Try.ntmps28
    go_wp2_with fail
    go_ret
    exact ⟨rfl, rfl⟩
  | succ n =>
    obtain ⟨b, o, B, e, rfl, c0, c1, c2, c3, c4, c5, c6, hsub, _⟩ := h n (by omega)
    have HV := Lib.hid (lastI_at (ks := ks) (k := n) (by omega))
    have hne : (((n + 1 : Nat) : Int) == 0) = false := by simp; omega
    have hw : RowKit.wrap64 (((n + 1 : Nat) : Int) - 1) = (n : Int) := by unfold RowKit.wrap64; omega
    have h0 : (0 : Int) ≤ (n : Int) := by omega
    have h1 : (n : Int) < ((n + 1 : Nat) : Int) := by omega
    clear h c1 c2 c3 c4 c5 c6 hsub
    go_enter Try.func28, Try.ntmps28
    go_wp2_with fail
    go_ret
    exact ⟨ret_int HV.out.symm, rfl⟩

/-- may the first k facts kept be, but that two may be alike? -/
def okS (ks : List Kp) : Nat → Bool
  | 0 => true
  | k + 1 => okS ks k && (match ks[k]? with | some y => decide (lastI ks k < y.seq) && fmB y.fc | none => true)
theorem okS_step {ks : List Kp} {k : Nat} (h : k < ks.length) : okS ks (k + 1) = (okS ks k && (decide (lastI ks k < ks[k].seq) && fmB ks[k].fc)) := by
  rw [okS, List.getElem?_eq_getElem h]
theorem okS_down {ks : List Kp} {k : Nat} (h : okS ks k = false) : ∀ {n}, k ≤ n → okS ks n = false := by
  intro n hn
  induction n with
  | zero => obtain rfl : k = 0 := by omega
            exact h
  | succ n ih =>
    by_cases e : k = n + 1
    · rw [← e]; exact h
    · rw [okS, ih (by omega), Bool.false_and]
/-- may a list of facts kept be? -/
def kpsB (ks : List Kp) : Bool := decide (ks.length ≤ 300) && (okS ks ks.length && decide (ks.length ≤ dist ks ks.length))
def SeqsTo (ks : List Kp) (w : World) (e : Ending) (w' : World) : Prop :=
  (kpsB ks = true ∧ ∃ b, e = .returned (.tuple #[.map (some b), .int .i64 0]) ∧ FmAt w' b ks ks.length ∧ w.heap.size ≤ b ∧ Ext w w') ∨ (kpsB ks = false ∧ e = .returned (.tuple #[.map none, .int .i64 1]) ∧ Ext w w')
theorem run_makeMapN {P : Program} {t k e : TypeId} (hu : P.underlying t = some (.map k e)) (n : Int) (w : World) : (Instr.makeMap t (some (.int .i64 n))).run P w = .ok (.map (some w.heap.size)) (w.alloc (.map #[] 0)) := by
  simp [Instr.makeMap, run_underlying hu, Result.andThen, asInt]
  rfl

set_option maxRecDepth 100000 in
set_option maxHeartbeats 4000000 in
theorem seqsOf_any (ks : List Kp) (A : Option Addr) (c : Nat) (w : World) (hc : ks.length ≤ c) (hl : ks.length ≤ 1000000) (h : KpsAt w ks A) :
    Calls Try.prog 27 #[.slice A ks.length c] w (SeqsTo ks w) := by
  have HO : Hid (∀ e w', SeqsTo ks w e w' = ((kpsB ks = true ∧ ∃ b, e = .returned (.tuple #[.map (some b), .int .i64 0]) ∧ FmAt w' b ks ks.length ∧ w.heap.size ≤ b ∧ Ext w w') ∨ (kpsB ks = false ∧ e = .returned (.tuple #[.map none, .int .i64 1]) ∧ Ext w w'))) := Lib.hid fun _ _ => rfl
  have HB : Hid (kpsB ks = (decide (ks.length ≤ 300) && (okS ks ks.length && decide (ks.length ≤ dist ks ks.length)))) := Lib.hid rfl
  generalize SeqsTo ks w = Z at HO ⊢
  by_cases h3 : ks.length ≤ 300
  · have h3' : decide ((300 : Int) < (ks.length : Int)) = false := decide_eq_false (by omega)
    have hmm := run_makeMapN Try.underlying58 (ks.length : Int)
    have hA := FmAt.made w ks
    have hx1 : Ext w (w.alloc (.map #[] 0)) := (Ext.refl w).alloc _
    go_enter Try.func27, Try.ntmps27
    go_upto_region 4 with (fail)
    clear hmm
    obtain ⟨b, hb⟩ : ∃ b, b = w.heap.size := ⟨_, rfl⟩
    rw [← hb] at hA
    rw [← hb]
    generalize w.alloc (.map #[] 0) = W1 at *
    have HBW : Hid (w.heap.size ≤ b) := Lib.hid (by omega)
    have HH := Lib.hid h
    clear hb h
    go_wp2_with fail
    go_loopw [15, 5, 6] (fun i _ _ wr => ∃ k : Nat, k ≤ ks.length ∧ i = .int .i64 k ∧ okS ks k = true ∧ FmAt wr b ks k ∧ Ext w wr) (fun i _ _ _ => ks.length - (intOf i).toNat)
    case atStart => exact ⟨0, Nat.zero_le _, rfl, rfl, hA, hx1⟩
    case round =>
      obtain ⟨k, hk, rfl, hok, hA, hx⟩ := hrel
      have hKr := HH.out.ext hx
      by_cases hlt : k < ks.length
      · obtain ⟨kb, ko, B, e, rfl, c0, c1, c2, c3, c4, c5, c6, hsub, hwf⟩ := hKr k hlt
        have hki : (k : Int) < (ks.length : Int) := by omega
        have hk0 : (0 : Int) ≤ (k : Int) := by omega
        have hkc : (k : Int) ≤ (c : Int) := by omega
        have HST := Lib.hid (okS_step hlt)
        have HK9 := Lib.hid hlt
        have HKR := Lib.hid hKr
        have HA := Lib.hid hA
        have HX := Lib.hid hx
        have HOK := Lib.hid hok
        have HWF := Lib.hid hwf
        have KL := Lib.hid (fun u (k' : Ext wr u) => last_any ks (some ⟨kb, ko, none⟩) k c u (hKr.ext k') (by omega) hl)
        have KM := Lib.hid (fun u (k' : Ext wr u) => May_any ks[k].fc B e u (hsub.ext k'))
        have HSUB := Lib.hid hsub
        have r1 := fun (u : World) => run_to Try.underlying22 Try.sizeOf73 u (some ⟨kb, ko, none⟩) ks.length c k (by omega)
        have HFC : Hid (∃ q : Kp, q = ks[k]) := Lib.hid ⟨_, rfl⟩
        generalize hq : ks[k] = q at *
        have HQ := Lib.hid hq
        have HL3 := Lib.hid h3
        clear hq hKr hA hx hsub hwf hok hl h3 h3' hc
        go_upto_region 7 with (fail)
        obtain ⟨wb, hwb⟩ : ∃ wb, wb = wr.alloc (.cells #[.int .i64 q.seq, .int .i64 q.fc.tm.kind, .string q.fc.tm.name, .int .i64 q.fc.tm.n, .slice B q.fc.tm.args.length e, .int .i64 q.fc.fr, .int .i64 q.fc.til] 73) := ⟨_, rfl⟩
        rw [← hwb]
        have hxb : Ext wr wb := by rw [hwb]; exact (Ext.refl _).alloc _
        have n0 : wb.cell? ⟨wr.heap.size, 0, none⟩ = some (.int .i64 q.seq) := by rw [hwb]; go_simp
        have n1 : wb.cell? ⟨wr.heap.size, 1, none⟩ = some (.int .i64 q.fc.tm.kind) := by rw [hwb]; go_simp
        have n2 : wb.cell? ⟨wr.heap.size, 2, none⟩ = some (.string q.fc.tm.name) := by rw [hwb]; go_simp
        have n3 : wb.cell? ⟨wr.heap.size, 3, none⟩ = some (.int .i64 q.fc.tm.n) := by rw [hwb]; go_simp
        have n4 : wb.cell? ⟨wr.heap.size, 4, none⟩ = some (.slice B q.fc.tm.args.length e) := by rw [hwb]; go_simp
        have n5 : wb.cell? ⟨wr.heap.size, 5, none⟩ = some (.int .i64 q.fc.fr) := by rw [hwb]; go_simp
        have n6 : wb.cell? ⟨wr.heap.size, 6, none⟩ = some (.int .i64 q.fc.til) := by rw [hwb]; go_simp
        obtain ⟨g, hg⟩ : ∃ g, g = wr.heap.size := ⟨_, rfl⟩
        rw [← hg] at n0 n1 n2 n3 n4 n5 n6
        rw [← hg]
        have HG := Lib.hid hg
        have HXB := Lib.hid hxb
        have KL2 : Hid (∀ p : ExtOf wb, Calls Try.prog 28 #[.slice (some ⟨kb, ko, none⟩) k c] p.to fun e w' => e = .returned (.int .i64 (lastI ks k)) ∧ Ext p.to w') := Lib.hid fun p => (KL.out p.to (hxb.trans p.is)).mono fun _ _ ⟨he, hw⟩ => ⟨he, hw ▸ Ext.refl _⟩
        have KM2 : Hid (∀ p : ExtOf wb, Calls Try.prog 18 #[q.fc.val B e] p.to fun e w' => e = .returned (.int .i64 (badE (fmB q.fc))) ∧ Ext p.to w') := Lib.hid fun p => KM.out p.to (hxb.trans p.is)
        obtain ⟨LI, hLI⟩ : ∃ LI, LI = lastI ks k := ⟨_, rfl⟩
        rw [← hLI] at KL2 HST
        obtain ⟨FB, hFB⟩ : ∃ FB, FB = fmB q.fc := ⟨_, rfl⟩
        rw [← hFB] at KM2 HST
        have HFB := Lib.hid hFB
        clear hwb hg hxb c0 c1 c2 c3 c4 c5 c6 hLI hFB KL KM
        go_cut [32] (fun v wx => v = .bool (!(decide (LI < q.seq) && FB)) ∧ Ext wb wx)
        case first =>
          have d0 : ∀ p : ExtOf wb, p.to.cell? _ = _ := ext_cell n0
          have d1 : ∀ p : ExtOf wb, p.to.cell? _ = _ := ext_cell n1
          have d2 : ∀ p : ExtOf wb, p.to.cell? _ = _ := ext_cell n2
          have d3 : ∀ p : ExtOf wb, p.to.cell? _ = _ := ext_cell n3
          have d4 : ∀ p : ExtOf wb, p.to.cell? _ = _ := ext_cell n4
          have d5 : ∀ p : ExtOf wb, p.to.cell? _ = _ := ext_cell n5
          have d6 : ∀ p : ExtOf wb, p.to.cell? _ = _ := ext_cell n6
          clear n0 n1 n2 n3 n4 n5 n6
          by_cases hle : q.seq ≤ LI
          · have hle' : decide (q.seq ≤ LI) = true := decide_eq_true hle
            have HV : Hid ((!(decide (LI < q.seq) && FB)) = true) := Lib.hid (by rw [decide_eq_false (by omega : ¬ LI < q.seq)]; rfl)
            refine wp_region_ext (by kernel_rfl) (by kernel_rfl) ?_
            repeat (go_big_quiet_step ((go_at_call 28; with_reducible exact of_ext (KL2.out _))))
            refine wpQuiet_nil ?_
            refine ext_all ?_
            intro w3 hx3
            clear d0 d1 d2 d3 d4 d5 d6
            go_wp2_with fail
            go_meet
            exact ⟨by rw [HV.out], hx3⟩
          · have hle' : decide (q.seq ≤ LI) = false := decide_eq_false hle
            have HV : Hid ((!(decide (LI < q.seq) && FB)) = !FB) := Lib.hid (by rw [decide_eq_true (by omega : LI < q.seq)]; rfl)
            refine wp_region_ext (by kernel_rfl) (by kernel_rfl) ?_
            repeat (go_big_quiet_step (first
              | (go_at_call 28; with_reducible exact of_ext (KL2.out _))
              | (go_at_call 18; with_reducible exact of_ext (KM2.out _))))
            refine wpQuiet_nil ?_
            refine ext_all ?_
            intro w3 hx3
            clear d0 d1 d2 d3 d4 d5 d6
            cases FB
            all_goals
              simp only [badE]
              go_wp2_with fail
              go_meet
              exact ⟨by rw [HV.out]; rfl, hx3⟩
        case rest =>
          obtain ⟨rfl, hx2⟩ := hcut
          obtain ⟨w2, hw2⟩ : ∃ w2 : World, w2 = wc := ⟨_, rfl⟩
          rw [← hw2] at hx2
          rw [← hw2]
          replace n0 := hx2.cell n0
          replace n1 := hx2.cell n1
          replace n2 := hx2.cell n2
          replace n3 := hx2.cell n3
          replace n4 := hx2.cell n4
          replace n5 := hx2.cell n5
          replace n6 := hx2.cell n6
          have HXR2 := Lib.hid (HXB.out.trans hx2)
          clear hw2 hx2
          rename_i hKK
          refine hKK _ _ ?_
          clear hKK
          cases hgo : (decide (LI < q.seq) && FB) with
          | false =>
            have HN : Hid (kpsB ks = false) := Lib.hid (by
              have h1 : okS ks (k + 1) = false := by rw [HST.out, hgo, Bool.and_false]
              rw [HB.out, okS_down h1 HK9.out, Bool.false_and, Bool.and_false])
            simp only [Bool.not_false]
            clear hgo n0 n1 n2 n3 n4 n5 n6
            go_wp2_with fail
            rw [HO.out]
            exact .inr ⟨HN.out, rfl, HX.out.trans HXR2.out⟩
          | true =>
            have HOK1 : Hid (okS ks (k + 1) = true) := Lib.hid (by rw [HST.out, hgo, HOK.out]; rfl)
            have HMAY : Hid (May q.fc) := Lib.hid (fm_may (by rw [← HFB.out]; exact ((Bool.and_eq_true _ _ ▸ hgo : _ ∧ _)).2))
            have KK := Lib.hid (fun u (k' : Ext w2 u) => (keyOf_any q.fc.tm B e q.fc.fr q.fc.til u ((HSUB.out.ext HXR2.out).ext k') (may_short HMAY.out.may) HMAY.out.parts.1).mono (fun e w' ⟨he, hx⟩ => (⟨he, k'.trans hx⟩ : e = Ending.returned q.fc.keyV ∧ Ext w2 w')))
            simp only [Bool.not_true]
            clear hgo
            have hgb : g ≠ b := by have := HA.out.lt; have := HG.out; omega
            have hI0 : Chg (· = b) w2 w2 := Chg.refl _ w2
            have rulesI := fun (u : World) (z : Chg (· = b) w2 u) => And.intro (z.cell n0 hgb) (And.intro (z.cell n1 hgb) (And.intro (z.cell n2 hgb) (And.intro (z.cell n3 hgb) (And.intro (z.cell n4 hgb) (And.intro (z.cell n5 hgb) (z.cell n6 hgb))))))
            obtain ⟨kl, hkl⟩ := key_is HMAY.out
            have HKL := Lib.hid hkl
            clear n0 n1 n2 n3 n4 n5 n6 hkl
            go_wp2_with fail
            go_region_held3 (fun u => Chg (· = b) w2 u) (first | with_reducible assumption | with_reducible exact Chg.of_ext (Ext.drew (Ext.refl _)) | with_reducible exact Chg.of_ext hx1 | with_reducible exact (Chg.of_ext hx1).trans (Chg.of_grown hg2))
              (first
                | (go_at_call 29; refine (KK.out _ (by first | assumption | exact Ext.drew (Ext.refl _))).mono ?_; rintro e1 w1 ⟨rfl, hx1⟩; obtain ⟨D, hown, hT⟩ := (HA.out.ext HXR2.out).ext hx1; obtain ⟨w4, hrun, hown2, hg2⟩ := hown.update keyedFk Try.underlying58 (by have := HK9.out; have := HL3.out; unfold maxLen; omega) HKL.out (plainElem_int Try.underlying3 HWF.out)))
            have k12 : Chg (· = b) w2 w4 := (Chg.of_ext hx1).trans (Chg.of_grown hg2)
            have hq := HQ.out
            subst hq
            have HP2 : Hid (FmAt w4 b ks (k + 1)) := Lib.hid ⟨_, hown2, hT.put HK9.out HMAY.out HKL.out hown.isMap (hown.tidy keyedFk)⟩
            have HX4 : Hid (Ext w w4) := Lib.hid (Chg.ext_of (HX.out.trans HXR2.out) k12 (fun x e => by subst e; exact HBW.out))
            have hk300 : k < 300 := Nat.lt_of_lt_of_le HK9.out HL3.out
            clear k12 hx1 hown hT hown2 hg2 rulesI hI0 hrun
            go_wp2_with fail
            go_roundw
            case rel => exact ⟨k + 1, HK9.out, by have := HL3.out; go_num, HOK1.out, HP2.out, HX4.out⟩
            case measure => have := HK9.out; have := HL3.out; simp [intOf]; omega
      · have hki : ¬ ((k : Int) < (ks.length : Int)) := by omega
        obtain rfl : k = ks.length := by omega
        have hA2 := hA
        obtain ⟨D, hown, hT⟩ := hA2
        have hlen := fun ty => hown.len Try.underlying58 ty
        simp only [hT.1] at hlen
        have HF := Lib.hid (And.intro hA hx)
        have HOK := Lib.hid hok
        clear hown hT hA hx hKr hok
        by_cases hd : dist ks ks.length < ks.length
        · have hdi : ((dist ks ks.length : Nat) : Int) < (ks.length : Int) := by omega
          have HN : Hid (kpsB ks = false) := Lib.hid (by rw [HB.out, decide_eq_false (by omega : ¬ ks.length ≤ dist ks ks.length), Bool.and_false, Bool.and_false])
          generalize dist ks ks.length = DD at *
          go_wp2_with fail
          rw [HO.out]
          exact .inr ⟨HN.out, rfl, HF.out.2⟩
        · have hdi : ¬ (((dist ks ks.length : Nat) : Int) < (ks.length : Int)) := by omega
          have HN : Hid (kpsB ks = true) := Lib.hid (by rw [HB.out, decide_eq_true h3, HOK.out, decide_eq_true (by omega : ks.length ≤ dist ks ks.length)]; rfl)
          generalize dist ks ks.length = DD at *
          go_wp2_with fail
          rw [HO.out]
          exact .inl ⟨HN.out, b, rfl, HF.out.1, HBW.out, HF.out.2⟩
  · have h3' : decide ((300 : Int) < (ks.length : Int)) = true := decide_eq_true (by omega)
    have HN : Hid (kpsB ks = false) := Lib.hid (by rw [HB.out, decide_eq_false h3]; rfl)
    go_enter Try.func27, Try.ntmps27
    go_wp2_with fail
    rw [HO.out]
    exact .inr ⟨HN.out, rfl, Ext.refl _⟩
end Go.Proofs.Ytcfhokejfibgoaa
