/- Joined: Raw, Rpa, Rsp, Rse, Bsc. -/
import Derived.Test.YtjmfjeeddnmoaaaME
import Derived.Test.YtjmfjeeddnmoaaaMC

/- almagestref1.applied: the walk. -/
namespace Go.Proofs.Ytjmfjeeddnmoaaa
open Go.RowKit

theorem at_found {bs : List Bd} {s : ByteArray} {A : Option Addr} {c : Nat} {w : World} {i : Nat} (ll : bs.length ≤ 1000000) (h : BdsAt w bs A) (he : atB bs s = (i : Int)) :
    Calls Try.prog 43 #[.slice A bs.length c, .string s] w fun e w' => e = .returned (.int .i64 (i : Int)) ∧ Ext w w' := he ▸ At_any bs s A c w ll h

set_option maxRecDepth 100000 in
set_option maxHeartbeats 4000000 in
theorem applied_any (bs : List Bd) (hr : RiseB bs) (hm : ∀ i (h : i < bs.length), mayB bs[i].tm = true) (ll : bs.length ≤ 1000000) (hh : Nat) : ∀ (t : Tm) (LA A : Option Addr) (lc c : Nat) (w : World), t.high ≤ hh → allP t → BdsAt w bs LA → TmAt w t A c →
    Calls Try.prog 96 #[.slice LA bs.length lc, t.val A c] w (RAppl bs t w) := by
  have HM := Lib.hid hm
  clear hm
  induction hh with
  | zero => intro t LA A lc c w h0; have := high_pos t; omega
  | succ hh ih =>
    intro t LA A lc c w h0 hp hL h
    have IH := Lib.hid ih
    clear ih
    have HPP := Lib.hid hp
    have hl := h.fits.args
    have HF := Lib.hid (inn_fits (bs := bs) h.fits)
    have HAL : Hid ((innT bs t).args.length = t.args.length) := Lib.hid (repL_len bs t.args)
    go_enter Try.func96, Try.ntmps96
    go_wp2_with fail
    refine (copy_all _ t A c _ (Nat.le_refl _) (h.ext (((Ext.refl _).alloc _).alloc _))).mono ?_
    rintro e w1 ⟨A1, c1, rfl, hO, hx1⟩
    have hx01 := (((Ext.refl w).alloc _).alloc _).trans hx1
    have hsz : w.heap.size + 1 + 1 ≤ w1.heap.size := by have := hx1.size; simpa using this
    have HO : Hid (TmOwn w1 t A1 c1 (fun k => w.heap.size + 1 + 1 ≤ k ∧ k < w1.heap.size)) := Lib.hid (hO.weak fun b hb => by simpa using hb)
    have HT : Hid (Box4 w1 w.heap.size (.int .i64 t.kind) (.string t.name) (.int .i64 t.n) (.slice A t.args.length c)) := Lib.hid (Box4.ext ⟨by go_simp, by go_simp, by go_simp, by go_simp, by go_simp, by go_simp, by go_simp, by go_simp⟩ hx1)
    have HR : Hid (Box4 w1 (w.heap.size + 1) (.int .i64 0) (.string ⟨#[]⟩) (.int .i64 0) (.slice none 0 0)) := Lib.hid (Box4.ext ⟨by go_simp, by go_simp, by go_simp, by go_simp, by go_simp, by go_simp, by go_simp, by go_simp⟩ hx1)
    obtain ⟨b0, b1, b2, b3, f0, f1, f2, f3⟩ := HT.out
    obtain ⟨r0, r1, r2, r3, g0, g1, g2, g3⟩ := HR.out
    clear hO hx1 hp
    obtain ⟨w2, hw2⟩ : ∃ w2, w2 = (((w1.setCell ⟨w.heap.size, 0, none⟩ (.int .i64 t.kind)).setCell ⟨w.heap.size, 1, none⟩ (.string t.name)).setCell ⟨w.heap.size, 2, none⟩ (.int .i64 t.n)).setCell ⟨w.heap.size, 3, none⟩ (.slice A1 t.args.length c1) := ⟨_, rfl⟩
    have hw3 : w2 = set4 w1 w.heap.size 0 (.int .i64 t.kind) (.string t.name) (.int .i64 t.n) (.slice A1 t.args.length c1) := hw2
    have HT2 : Hid (Box4 w2 w.heap.size (.int .i64 t.kind) (.string t.name) (.int .i64 t.n) (.slice A1 t.args.length c1)) := Lib.hid (by rw [hw3]; exact HT.out.set_all _ _ _ _)
    have HR2 : Hid (Box4 w2 (w.heap.size + 1) (.int .i64 0) (.string ⟨#[]⟩) (.int .i64 0) (.slice none 0 0)) := Lib.hid (by rw [hw3]; exact HR.out.same (set4_block w1 w.heap.size 0 _ _ _ _ (w.heap.size + 1) (by omega)))
    have hx2 : Ext w w2 := by rw [hw3]; exact Chg.ext_of hx01 (set4_chg w1 w.heap.size 0 _ _ _ _ (F := fun x => x = w.heap.size) rfl) (fun b hb => by omega)
    have HO2 : Hid (TmOwn w2 t A1 c1 (fun k => w.heap.size + 1 + 1 ≤ k ∧ k < w1.heap.size)) := Lib.hid (by rw [hw3]; exact HO.out.keep fun b hb _ => set4_block w1 w.heap.size 0 _ _ _ _ b (by omega))
    have HS2 : Hid (w2.heap.size = w1.heap.size) := Lib.hid (by rw [hw3]; exact set4_size w1 w.heap.size 0 _ _ _ _)
    have HL2 : Hid (BdsAt w2 bs LA) := Lib.hid (hL.ext hx2)
    have HLw := Lib.hid hL
    clear hL hw3 HT HR HO
    go_upto_region 2 with (fail)
    rw [← hw2]
    clear hw2 b0 b1 b2 b3 f0 f1 f2 f3 r0 r1 r2 r3 g0 g1 g2 g3 hx01 h
    obtain ⟨b0, b1, b2, b3, f0, f1, f2, f3⟩ := HT2.out
    obtain ⟨r0, r1, r2, r3, g0, g1, g2, g3⟩ := HR2.out
    have lb := World.block_lt_of_cell? w2 _ r0
    simp only at lb
    by_cases hk1 : (t.kind == 1) = true
    · have hz : t.args = [] := by
        have := HPP.out.plain
        unfold plainB at this
        rw [if_pos hk1] at this
        simp at this
        exact this.2
      have HZ : Hid (t.args.length = 0) := Lib.hid (by rw [hz]; rfl)
      clear hz
      by_cases hat : 0 ≤ atB bs t.name
      · obtain ⟨i, hi, he, hpl, _⟩ := atB_plc hr hat
        have HE := Lib.hid he
        have HV := Lib.hid (repT_var hi hk1 hpl)
        have i0 : (0 : Int) ≤ (i : Int) := Int.natCast_nonneg _
        have i1 : (i : Int) < (bs.length : Int) := by omega
        obtain ⟨b, o, B, e, rfl, c0, c1', c2, c3, c4, hT, hn⟩ := HL2.out i hi
        clear hat he hpl
        go_wp2_with (first
          | (go_at_call 43; refine (at_found ll HL2.out HE.out).mono ?_; rintro e2 w3 ⟨rfl, hx3⟩; have d1 := hx3.cell c1'; have d2 := hx3.cell c2; have d3 := hx3.cell c3; have d4 := hx3.cell c4)
          | (go_at_call 13; refine (copy_all _ bs[i].tm _ _ _ (Nat.le_refl _) (hT.ext hx3)).mono ?_; rintro e4 w4 ⟨A4, c4', rfl, hO4, hx4⟩; have hx34 := hx3.trans hx4; have HO4 := Lib.hid (hO4.hi (lo := w.heap.size + 1 + 1) fun b hb => (by have := hx3.size; omega)); have HR4 := Lib.hid (HR2.out.ext hx34); obtain ⟨y0, y1, y2, y3, z0, z1, z2, z3⟩ := HR2.out.ext hx34; clear hO4))
        refine bodyPost_ret (v := bs[i].tm.val A4 c4') (by simp [results, Try.results96, go_sem, *]) rfl ⟨A4, c4', by rw [HV.out], ?_, ?_⟩
        · rw [HV.out]
          exact (HO4.out.keep fun x hx _ => set4_block w4 (w.heap.size + 1) 0 _ _ _ _ x (by omega)).weak (by omega)
        · exact Chg.ext_of (hx2.trans hx34) (set4_chg w4 (w.heap.size + 1) 0 _ _ _ _ (F := fun x => x = w.heap.size + 1) rfl) (fun b hb => by omega)
      · have hneg : decide (0 ≤ atB bs t.name) = false := decide_eq_false hat
        have HV := Lib.hid (repT_inn (t := t) (.inr (atB_none hat)))
        clear hat
        go_wp2_with (go_at_call 43; refine (At_any bs t.name LA lc _ ll HL2.out).mono ?_; rintro e2 w3 ⟨rfl, hx3⟩; have d0 := hx3.cell b0; have d1 := hx3.cell b1; have d2 := hx3.cell b2; have d3 := hx3.cell b3; obtain ⟨y0, y1, y2, y3, z0, z1, z2, z3⟩ := HR2.out.ext hx3)
        refine bodyPost_ret (v := .agg #[.int .i64 t.kind, .string t.name, .int .i64 t.n, .slice A1 t.args.length c1]) (by simp [results, Try.results96, go_sem, *]) rfl ⟨A1, c1, ?_, ?_, ?_⟩
        · rw [HV.out]; simp only [Tm.val, innT, repL_len]
        · rw [HV.out]
          exact .mk _ _ _ (fun _ => none) (fun _ => 0) HF.out (by have := HAL.out; have := HZ.out; omega) (fun i hi => absurd hi (by have := HAL.out; have := HZ.out; omega)) (fun b o e hl => absurd hl (by have := HAL.out; have := HZ.out; omega)) (fun i hi => absurd hi (by have := HAL.out; have := HZ.out; omega))
        · exact Chg.ext_of (hx2.trans hx3) (set4_chg w3 (w.heap.size + 1) 0 _ _ _ _ (F := fun x => x = w.heap.size + 1) rfl) (fun b hb => by omega)
    · have hk1' := not_true hk1
      have HV := Lib.hid (repT_inn (bs := bs) (t := t) (.inl hk1'))
      clear hk1
      by_cases hpos : 0 < t.args.length
      · have hall := Lib.hid HPP.out.args
        have hown := HO2.out
        cases hown with
        | mk _ _ _ _ g d G fits cap row sub =>
        obtain ⟨b, o, rfl, _⟩ := row.row 0 hpos
        obtain ⟨hFb, hGb, hfz⟩ := row.own b o rfl hpos
        have hap := Lib.hid row.apart
        have hGB := Lib.hid hGb
        have R0 : Hid (RowFrom w2 t.args b o g d G 0) := Lib.hid ⟨fun i hi _ => by
          obtain ⟨b', o', e, h0, h1, h2, h3⟩ := row.row i hi
          injection e with e; injection e with e1 e2; subst e1 e2
          exact ⟨h0, h1, h2, h3, sub i hi⟩, hfz⟩
        have hb2 : w.heap.size + 1 + 1 ≤ b := hFb.1
        have hb1 : b < w1.heap.size := hFb.2
        have D0 : Hid (RowDoneF w2 (repT bs) t.args b o w1.heap.size 0) := Lib.hid (fun i hi h => absurd h (by omega))
        clear row sub hfz hGb hFb HO2
        go_wp2_with fail
        clear b0 b1 b2 b3 f0 f1 f2 f3 r0 r1 r2 r3 g0 g1 g2 g3
        go_loopw [6] (fun i wr => ∃ k : Nat, k ≤ t.args.length ∧ i = .int .i64 k ∧ Hid (RowFrom wr t.args b o g d G k) ∧ Hid (RowDoneF wr (repT bs) t.args b o w1.heap.size k) ∧ Ext w wr ∧ w1.heap.size ≤ wr.heap.size ∧
          Hid (Box4 wr w.heap.size (.int .i64 t.kind) (.string t.name) (.int .i64 t.n) (.slice (some ⟨b, o, none⟩) t.args.length c1)) ∧ Hid (Box4 wr (w.heap.size + 1) (.int .i64 0) (.string ⟨#[]⟩) (.int .i64 0) (.slice none 0 0))) (fun i _ => t.args.length - (intOf i).toNat)
        case atStart => exact ⟨0, Nat.zero_le _, rfl, R0, D0, hx2, by have := HS2.out; omega, HT2, HR2⟩
        case round =>
          obtain ⟨k, hk, rfl, HRF, HRD, hxr, hsr, HBT, HBR⟩ := hrel
          have HLr := Lib.hid (HLw.out.ext hxr)
          obtain ⟨wa, rfl⟩ : ∃ wa : World, wa = wr := ⟨_, rfl⟩
          clear R0 D0 HL2 HT2 HR2
          have t3 := HBT.out.2.2.2.1
          have lt3 := World.block_lt_of_cell? wa _ t3
          simp only at lt3
          by_cases hlt : k < t.args.length
          · obtain ⟨c0, c1', c2, c3, hsub⟩ := HRF.out.1 k hlt (Nat.le_refl _)
            have hbw : b < wa.heap.size := by omega
            have hh1 := high_lt hlt
            have k0 : (0 : Int) ≤ (k : Int) := Int.natCast_nonneg _
            have k1 : (k : Int) < (t.args.length : Int) := by omega
            have hne2 : b ≠ w.heap.size := by omega
            go_upto_region 10 with (fail)
            have d3 : wa.drew.cell? ⟨w.heap.size, 3, none⟩ = some (.slice (some ⟨b, o, none⟩) t.args.length c1) := t3
            have e0 : wa.drew.cell? ⟨b, o + k * 4, none⟩ = some (.int .i64 t.args[k].kind) := c0
            have e1 : wa.drew.cell? ⟨b, o + k * 4 + 1, none⟩ = some (.string t.args[k].name) := c1'
            have e2 : wa.drew.cell? ⟨b, o + k * 4 + 2, none⟩ = some (.int .i64 t.args[k].n) := c2
            have e3 : wa.drew.cell? ⟨b, o + k * 4 + 3, none⟩ = some (.slice (g k) t.args[k].args.length (d k)) := c3
            have z0 := HRF.out.2 (k * 4) (by omega)
            have z1 := HRF.out.2 (k * 4 + 1) (by omega)
            have z2 := HRF.out.2 (k * 4 + 2) (by omega)
            have z3 := HRF.out.2 (k * 4 + 3) (by omega)
            simp only [← Nat.add_assoc] at z1 z2 z3
            have KEY : Hid (Calls Try.prog 96 #[.slice LA bs.length lc, t.args[k].val (g k) (d k)] wa.drew (RAppl bs t.args[k] wa.drew)) := Lib.hid (IH.out t.args[k] LA (g k) lc (d k) _ (by omega) (allPs_mem hall.out (List.getElem_mem hlt)) (HLr.out.ext (Ext.refl _).drew) (hsub.at_.ext (Ext.refl _).drew))
            have HLd := Lib.hid (HLr.out.ext (Ext.refl wa).drew)
            go_region_with
              (first | (go_at_call 96; refine KEY.out.mono ?_; rintro ee w3 ⟨A', c', rfl, hH, hx3⟩; have hx3' : Ext wa w3 := (Ext.refl _).drew.trans hx3; have t3x := hx3'.cell t3; have y0 := hx3'.cell c0; have y1 := hx3'.cell c1'; have y2 := hx3'.cell c2; have y3 := hx3'.cell c3; have q0 := (Below.frozen hx3' (p := ⟨b, o + k * 4, none⟩) hbw).trans z0; have q1 := (Below.frozen hx3' (p := ⟨b, o + k * 4 + 1, none⟩) hbw).trans z1; have q2 := (Below.frozen hx3' (p := ⟨b, o + k * 4 + 2, none⟩) hbw).trans z2; have q3 := (Below.frozen hx3' (p := ⟨b, o + k * 4 + 3, none⟩) hbw).trans z3))
            all_goals
              have hs3 := hx3'.size
              have NX1 := Lib.hid (HRF.out.next hlt (Chg.of_ext hx3') hGB.out hap.out (.int .i64 (repT bs t.args[k]).kind) (.string (repT bs t.args[k]).name) (.int .i64 (repT bs t.args[k]).n) (.slice A' (repT bs t.args[k]).args.length c') hbw)
              have NX2 := Lib.hid (HRD.out.next hlt hx3' (hH.weak (show w1.heap.size ≤ wa.drew.heap.size from hsr)) hb1 c0 c1' c2 c3)
              have HBT3 := Lib.hid (HBT.out.ext hx3')
              have HBR3 := Lib.hid (HBR.out.ext hx3')
              clear z0 z1 z2 z3 q0 q1 q2 q3 y0 y1 y2 y3 e0 e1 e2 e3 d3 c0 c1' c2 c3 t3 t3x hH HRF HRD HBT HBR hsub KEY HLd
              go_wp2_with fail
              go_roundw
              case rel =>
                refine ⟨k + 1, by omega, by go_num, NX1, NX2, ?_, ?_, ?_, ?_⟩
                · exact Chg.ext_of (hxr.trans hx3') (set4_chg w3 b (o + k * 4) _ _ _ _ (F := fun x => x = b) rfl) (fun x hx => by omega)
                · have := set4_size w3 b (o + k * 4) (.int .i64 (repT bs t.args[k]).kind) (.string (repT bs t.args[k]).name) (.int .i64 (repT bs t.args[k]).n) (.slice A' (repT bs t.args[k]).args.length c')
                  show w1.heap.size ≤ (set4 w3 b (o + k * 4) (.int .i64 (repT bs t.args[k]).kind) (.string (repT bs t.args[k]).name) (.int .i64 (repT bs t.args[k]).n) (.slice A' (repT bs t.args[k]).args.length c')).heap.size
                  omega
                · exact Lib.hid (HBT3.out.same (set4_block w3 b (o + k * 4) _ _ _ _ _ (Ne.symm hne2)))
                · exact Lib.hid (HBR3.out.same (set4_block w3 b (o + k * 4) _ _ _ _ _ (by omega)))
              case measure => simp [intOf]; omega
          · have HH : Hid (TmHi wa (w.heap.size + 1 + 1) (innT bs t) (some ⟨b, o, none⟩) c1) := Lib.hid (HRD.out.done (by omega) HF.out cap hb2 (by omega))
            obtain ⟨b0, b1, b2, b3, _, _, _, _⟩ := HBT.out
            obtain ⟨r0, r1, r2, r3, g0, g1, g2, g3⟩ := HBR.out
            clear HRF HRD HBT HBR
            go_wp2_with fail
            refine bodyPost_ret (v := .agg #[.int .i64 t.kind, .string t.name, .int .i64 t.n, .slice (some ⟨b, o, none⟩) t.args.length c1]) (by simp [results, Try.results96, go_sem, *]) rfl ⟨_, _, ?_, by rw [HV.out]; exact (HH.out.keep fun x hx _ => set4_block wa (w.heap.size + 1) 0 _ _ _ _ x (by omega)).weak (by omega), Chg.ext_of hxr (set4_chg wa (w.heap.size + 1) 0 _ _ _ _ (F := fun x => x = w.heap.size + 1) rfl) (fun b hb => by omega)⟩
            rw [HV.out]; simp only [Tm.val, innT, repL_len]
      · have hz : decide (0 < t.args.length) = false := decide_eq_false hpos
        have HE : Hid ((innT bs t).args.length = 0) := Lib.hid (by have := HAL.out; omega)
        clear hpos HO2
        go_wp2_with fail
        clear b0 b1 b2 b3 f0 f1 f2 f3 r0 r1 r2 r3 g0 g1 g2 g3
        go_loopw [6] (fun i wr => i = .int .i64 0 ∧ Ext w wr ∧ Hid (Box4 wr w.heap.size (.int .i64 t.kind) (.string t.name) (.int .i64 t.n) (.slice A1 t.args.length c1)) ∧ Hid (Box4 wr (w.heap.size + 1) (.int .i64 0) (.string ⟨#[]⟩) (.int .i64 0) (.slice none 0 0))) (fun _ _ => 0)
        case atStart => exact ⟨rfl, hx2, HT2, HR2⟩
        case round =>
          obtain ⟨rfl, hxr, HBT, HBR⟩ := hrel
          obtain ⟨b0, b1, b2, b3, _, _, _, _⟩ := HBT.out
          obtain ⟨r0, r1, r2, r3, g0, g1, g2, g3⟩ := HBR.out
          clear HBT HBR HT2 HR2
          go_wp2_with fail
          refine bodyPost_ret (v := .agg #[.int .i64 t.kind, .string t.name, .int .i64 t.n, .slice A1 t.args.length c1]) (by simp [results, Try.results96, go_sem, *]) rfl ⟨A1, c1, ?_, ?_, Chg.ext_of hxr (set4_chg wr (w.heap.size + 1) 0 _ _ _ _ (F := fun x => x = w.heap.size + 1) rfl) (fun b hb => by omega)⟩
          · rw [HV.out]; simp only [Tm.val, innT, repL_len]
          · rw [HV.out]
            exact .mk _ _ _ (fun _ => none) (fun _ => 0) HF.out (by have := HE.out; omega) (fun i hi => absurd hi (by have := HE.out; omega)) (fun b o e hl => absurd hl (by have := HE.out; omega)) (fun i hi => absurd hi (by have := HE.out; omega))
end Go.Proofs.Ytjmfjeeddnmoaaa

/- almagestref1.Apply. -/
namespace Go.Proofs.Ytjmfjeeddnmoaaa
open Go.RowKit

theorem rep_high {bs : List Bd} (hm : ∀ x ∈ bs, x.tm.high ≤ 5) (hh : Nat) : ∀ t : Tm, t.high ≤ hh → (repT bs t).high ≤ hh + 5 := by
  induction hh with
  | zero => intro t h; have := high_pos t; omega
  | succ hh ih =>
    have step : ∀ ts : List Tm, highs ts ≤ hh → highs (repL bs ts) ≤ hh + 5 := by
      intro ts
      induction ts with
      | nil => intro _; rw [repL]; simp [highs]
      | cons t ts ihs =>
        intro h
        simp only [highs] at h
        rw [repL]
        simp only [highs]
        have h1 := ih t (by omega)
        have h2 := ihs (by omega)
        omega
    intro t ht
    have hi : (innT bs t).high ≤ hh + 1 + 5 := by
      obtain ⟨k, s, n, l⟩ := t
      simp only [Tm.high] at ht
      have := step l (by omega)
      simp only [innT, Tm.high]
      omega
    rw [repT_eq]
    split
    · cases hb : bdOf bs t.name with
      | none => exact hi
      | some u =>
        obtain ⟨x, hx, rfl, _⟩ := bdOf_mem hb
        have := hm x hx
        simp only [Option.getD_some]
        omega
    · exact hi
/-- the page's answer -/
def RApp (bs : List Bd) (t : Tm) (w : World) (e : Ending) (w' : World) : Prop :=
  ∃ A c, e = .returned (.tuple #[(if mayB (repT bs t) = true then repT bs t else noTm).val A c, .bool (mayB (repT bs t))]) ∧ TmAt w' (if mayB (repT bs t) = true then repT bs t else noTm) A c ∧ Ext w w'
def RAppHi (bs : List Bd) (t : Tm) (w : World) (e : Ending) (w' : World) : Prop :=
  ∃ A c, e = .returned (.tuple #[(if mayB (repT bs t) = true then repT bs t else noTm).val A c, .bool (mayB (repT bs t))]) ∧ TmHi w' w.heap.size (if mayB (repT bs t) = true then repT bs t else noTm) A c ∧ Ext w w'

set_option maxRecDepth 100000 in
set_option maxHeartbeats 2000000 in
theorem rApply_hi (bs : List Bd) (hb : bindsB bs = true) (ll : bs.length ≤ 1000000) (t : Tm) (ht : mayB t = true) (LA A : Option Addr) (lc c : Nat) (w : World) (hL : BdsAt w bs LA) (h : TmAt w t A c) :
    Calls Try.prog 50 #[.slice LA bs.length lc, t.val A c] w (RAppHi bs t w) := by
  have hr := okL_rise (binds_ok hb).2.1
  have hm := fun i hi => (okL_may none bs (binds_ok hb).2.1 i hi).1
  have hhi : (repT bs t).high ≤ 1000000 := by
    have := rep_high (bs := bs) (fun x hx => may_high (okL_mem (binds_ok hb).2.1 x hx)) 5 t (may_high ht)
    omega
  have KEY := Lib.hid (fun (u : World) (hu : Ext w u) => applied_any bs hr hm ll t.high t LA A lc c u (Nat.le_refl _) (may_all ht) (hL.ext hu) (h.ext hu))
  have hx0 : Ext w ((w.alloc (.cells #[.int .i64 t.kind, .string t.name, .int .i64 t.n, .slice A t.args.length c] 28)).alloc (.cells #[.int .i64 0, .string ⟨#[]⟩, .int .i64 0, .slice none 0 0] 28)) := ((Ext.refl w).alloc _).alloc _
  clear hr hm hL h
  go_enter Try.func50, Try.ntmps50
  go_wp2_with fail
  refine (KEY.out _ hx0).mono ?_
  rintro e w1 ⟨A1, c1, rfl, hH, hx1⟩
  have HR : Hid (Box4 w1 (w.heap.size + 1) (.int .i64 0) (.string ⟨#[]⟩) (.int .i64 0) (.slice none 0 0)) := Lib.hid (Box4.ext ⟨by go_simp, by go_simp, by go_simp, by go_simp, by go_simp, by go_simp, by go_simp, by go_simp⟩ hx1)
  have hT1 := hH.at_
  have hx01 := hx0.trans hx1
  have hsz : w.heap.size + 1 + 1 ≤ w1.heap.size := by have := hx1.size; simpa using this
  generalize hrt : repT bs t = r at *
  have HRT := Lib.hid hrt
  have hxa : Ext w1 (w1.alloc (.cells #[.int .i64 r.kind, .string r.name, .int .i64 r.n, .slice A1 r.args.length c1] 28)) := (Ext.refl w1).alloc _
  have hTa := hT1.ext hxa
  have HH := Lib.hid (hH.ext hxa)
  clear hH hT1 hrt KEY hx0 hx1
  by_cases hmr : mayB r = true
  · have HM := Lib.hid hmr
    clear hmr
    go_wp2_with (go_at_call 19; refine (rterm_is hTa hhi HM.out).mono ?_; rintro e2 w2 ⟨rfl, hx2⟩; have x0 : w2.cell? ⟨w1.heap.size, 0, none⟩ = some (.int .i64 r.kind) := hx2.cell (by go_simp); have x1 : w2.cell? ⟨w1.heap.size, 1, none⟩ = some (.string r.name) := hx2.cell (by go_simp); have x2 : w2.cell? ⟨w1.heap.size, 2, none⟩ = some (.int .i64 r.n) := hx2.cell (by go_simp); have x3 : w2.cell? ⟨w1.heap.size, 3, none⟩ = some (.slice A1 r.args.length c1) := hx2.cell (by go_simp); obtain ⟨r0, r1, r2, r3, g0, g1, g2, g3⟩ := (HR.out.ext hxa).ext hx2)
    refine bodyPost_ret (v := .tuple #[r.val A1 c1, .bool true]) (by simp [results, Try.results50, go_sem, *]) rfl ⟨A1, c1, by rw [HRT.out, HM.out]; rfl, ?_, Chg.ext_of ((hx01.trans hxa).trans hx2) (set4_chg w2 (w.heap.size + 1) 0 _ _ _ _ (F := fun x => x = w.heap.size + 1) rfl) (fun b hb => by omega)⟩
    rw [HRT.out, if_pos HM.out]
    exact (((HH.out.ext hx2).keep fun x hx _ => set4_block w2 (w.heap.size + 1) 0 _ _ _ _ x (by simp at hx; omega))).weak (by simp; omega)
  · have hmr' := not_true hmr
    have HM := Lib.hid hmr'
    clear hmr
    go_wp2_with (go_at_call 19; refine (rterm_is hTa hhi HM.out).mono ?_; rintro e2 w2 ⟨rfl, hx2⟩; obtain ⟨r0, r1, r2, r3, g0, g1, g2, g3⟩ := (HR.out.ext hxa).ext hx2)
    refine bodyPost_ret (v := .tuple #[zeroTm, .bool false]) (by simp [results, Try.results50, go_sem, *]) rfl ⟨none, 0, by rw [HRT.out, HM.out]; rfl, ?_, Chg.ext_of ((hx01.trans hxa).trans hx2) (set4_chg w2 (w.heap.size + 1) 0 _ _ _ _ (F := fun x => x = w.heap.size + 1) rfl) (fun b hb => by omega)⟩
    rw [HRT.out, if_neg (by rw [HM.out]; exact Bool.false_ne_true)]
    exact (TmOwn.leaf noTm_fits rfl none 0 (fun b => w.heap.size ≤ b)).hi (fun _ h => h)
theorem rApply_any (bs : List Bd) (hb : bindsB bs = true) (ll : bs.length ≤ 1000000) (t : Tm) (ht : mayB t = true) (LA A : Option Addr) (lc c : Nat) (w : World) (hL : BdsAt w bs LA) (h : TmAt w t A c) :
    Calls Try.prog 50 #[.slice LA bs.length lc, t.val A c] w (RApp bs t w) :=
  (rApply_hi bs hb ll t ht LA A lc c w hL h).mono fun _ _ ⟨A', c', he, hT, hx⟩ => ⟨A', c', he, hT.at_, hx⟩
end Go.Proofs.Ytjmfjeeddnmoaaa

/- What the page's Set puts together (pure). -/
namespace Go.Proofs.Ytjmfjeeddnmoaaa

/-- behind k rounds -/
def resK (bs : List Bd) (x : Bd) (p k : Nat) : List Bd := if k ≤ p then stlL x (bs.take k) else stlL x (bs.take p) ++ [x] ++ stlL x ((bs.take k).drop p)
/-- within round k, behind what is put in -/
def resH (bs : List Bd) (x : Bd) (p k : Nat) : List Bd := if k < p then stlL x (bs.take k) else stlL x (bs.take p) ++ [x] ++ stlL x ((bs.take k).drop p)
theorem resH_eq {bs : List Bd} {x : Bd} {p k : Nat} (h : k ≠ p) : resH bs x p k = resK bs x p k := by
  unfold resH resK
  by_cases hk : k < p
  · rw [if_pos hk, if_pos (by omega)]
  · rw [if_neg hk, if_neg (by omega)]
theorem resH_put {bs : List Bd} {x : Bd} {p : Nat} (hp : p ≤ bs.length) : resH bs x p p = resK bs x p p ++ [x] := by
  unfold resH resK
  rw [if_neg (by omega), if_pos (by omega), List.drop_eq_nil_of_le (by rw [List.length_take]; omega)]
  simp [stlL]
theorem resK_next {bs : List Bd} {x : Bd} {p k : Nat} (hk : k < bs.length) : resK bs x p (k + 1) = resH bs x p k ++ [⟨bs[k].name, repT [x] bs[k].tm⟩] := by
  unfold resH resK
  by_cases h : k < p
  · rw [if_pos (by omega), if_pos h, List.take_succ_eq_append_getElem hk]
    unfold stlL
    rw [List.map_append]; rfl
  · rw [if_neg (by omega), if_neg h, List.take_succ_eq_append_getElem hk, List.drop_append_of_le_length (by rw [List.length_take]; omega)]
    unfold stlL
    rw [List.map_append, ← List.append_assoc]; rfl
theorem resH_end {bs : List Bd} {x : Bd} {p : Nat} (hp : p ≤ bs.length) : resH bs x p bs.length = resK bs x p (bs.length + 1) := by
  unfold resH resK
  rw [if_neg (by omega), if_neg (by omega), List.take_of_length_le (l := bs) (i := bs.length) (Nat.le_refl _), List.take_of_length_le (l := bs) (i := bs.length + 1) (by omega)]
theorem resK_done {bs : List Bd} {x : Bd} {p k : Nat} (hp : p ≤ bs.length) (hk : bs.length < k) (hx : repT [x] x.tm = x.tm) : resK bs x p k = stlL x (insB bs p x) := by
  unfold resK insB
  rw [if_neg (by omega), List.take_of_length_le (l := bs) (i := k) (by omega)]
  unfold stlL
  rw [List.map_append, List.map_append]
  simp [hx]
theorem resK_zero (bs : List Bd) (x : Bd) (p : Nat) : resK bs x p 0 = [] := by unfold resK; rw [if_pos (Nat.zero_le _)]; simp [stlL]

/-- what is set has itself not within -/
theorem sett_one {bs : List Bd} {s : ByteArray} {t : Tm} (hm : mayB t = true) (h : settB bs s t = true) : bindsB [⟨s, t⟩] = true ∧ repT [⟨s, t⟩] t = t := by
  unfold settB at h
  simp only [Bool.and_eq_true, Bool.not_eq_true'] at h
  obtain ⟨⟨hv, _⟩, hmt⟩ := h
  have hmtS : mentT [⟨s, t⟩] t = false := by
    have hh : ∀ n : ByteArray, plB (⟨s, t⟩ :: bs) n = false → plB [⟨s, t⟩] n = false := fun n hn => by
      cases hc : plB [⟨s, t⟩] n with
      | false => rfl
      | true =>
        obtain ⟨x, hx, e⟩ := (plB_iff _ _).1 hc
        have : plB (⟨s, t⟩ :: bs) n = true := (plB_iff _ _).2 ⟨x, by simp at hx; simp [hx], e⟩
        rw [hn] at this; cases this
    exact ment_sub hh t hmt
  refine ⟨?_, rep_id t (may_all hm) hmtS⟩
  have hok : okL none [⟨s, t⟩] = true := okL_mk none _ (fun x hx => by obtain rfl := List.mem_singleton.1 hx; exact ⟨hm, hv⟩) (fun i hi => absurd hi (by simp)) (fun _ _ => rfl)
  have hcr : crossL [(⟨s, t⟩ : Bd)] [⟨s, t⟩] = false := crossL_of fun x hx => by obtain rfl := List.mem_singleton.1 hx; exact hmtS
  unfold bindsB
  rw [hok, hcr]
  simp
/-- the place: names ahead are less, names from it on greater -/
theorem sea_less {bs : List Bd} {s : ByteArray} {i : Nat} (hs : SeaAt bs s i false) (k : Nat) (hk : k < bs.length) (h : k < i) : Op.bytesLess bs[k].name.toList s.toList = true := by
  have lt_iff : ∀ a b : ByteArray, ltN a b = true ↔ cmpS a b < 0 := fun a b => by rw [ltN_cmp, decide_eq_true_eq]
  exact (lt_iff _ _).2 (hs.lo k hk h)
theorem sea_more {bs : List Bd} {s : ByteArray} {i : Nat} (hs : SeaAt bs s i false) (hi : i < bs.length) : Op.bytesLess bs[i].name.toList s.toList = false ∧ (bs[i].name.toList == s.toList) = false := by
  have lt_iff : ∀ a b : ByteArray, ltN a b = true ↔ cmpS a b < 0 := fun a b => by rw [ltN_cmp, decide_eq_true_eq]
  have hhi := hs.hi i hi (Nat.le_refl _)
  have hne : bs[i].name ≠ s := fun e => by
    have := hs.at_.2 ⟨hi, e⟩
    cases this
  refine ⟨?_, ?_⟩
  · cases h : Op.bytesLess bs[i].name.toList s.toList with
    | false => rfl
    | true => have := (lt_iff _ _).1 h; omega
  · rw [Bool.eq_false_iff]; intro h; exact hne (beq_name.1 h)
end Go.Proofs.Ytjmfjeeddnmoaaa

/- almagestref1.Set: the page's. -/
namespace Go.Proofs.Ytjmfjeeddnmoaaa
open Go.RowKit

/-- a term that lies beside the row -/
def TmBe (wr : World) (own : Option Nat) (t : Tm) (A : Option Addr) (c : Nat) : Prop :=
  ∃ (w0 : World) (lo : Nat), TmHi w0 lo t A c ∧ w0.heap.size ≤ wr.heap.size ∧ ∀ x, lo ≤ x → x < w0.heap.size → wr.heap[x]? = w0.heap[x]? ∧ own ≠ some x
theorem TmBe.at_ {wr : World} {own : Option Nat} {t : Tm} {A : Option Addr} {c : Nat} (h : TmBe wr own t A c) : TmAt wr t A c := by
  obtain ⟨w0, lo, hT, _, hk⟩ := h
  exact (hT.keep fun b h1 h2 => (hk b h1 h2).1).at_
theorem TmBe.ext {wr w' : World} {own : Option Nat} {t : Tm} {A : Option Addr} {c : Nat} (h : TmBe wr own t A c) (k : Ext wr w') : TmBe w' own t A c := by
  obtain ⟨w0, lo, hT, hle, hk⟩ := h
  exact ⟨w0, lo, hT, Nat.le_trans hle k.size, fun x h1 h2 => ⟨(k.block x (by omega)).trans (hk x h1 h2).1, (hk x h1 h2).2⟩⟩
theorem TmBe.grow {wr w' : World} {own own' : Option Nat} {t : Tm} {A : Option Addr} {c : Nat} (h : TmBe wr own t A c) (hg : wr.grownBy w' own) (hat : own' = own ∨ own' = some wr.heap.size) : TmBe w' own' t A c := by
  obtain ⟨w0, lo, hT, hle, hk⟩ := h
  refine ⟨w0, lo, hT, Nat.le_trans hle hg.size, fun x h1 h2 => ⟨(hg.block x (by omega) (Ne.symm (hk x h1 h2).2)).trans (hk x h1 h2).1, ?_⟩⟩
  rcases hat with e | e
  · rw [e]; exact (hk x h1 h2).2
  · rw [e]; intro e2; injection e2; omega

/-- a row of the call's own, of binds whose terms lie beside it -/
def RowB (W wr : World) (v : Value) (us : List Bd) : Prop :=
  ∃ zs : List BLain, zs.map (·.1) = us ∧ wr.ownsRow W.heap.size 65 5 v zs.length (browCells zs) ∧ (∀ z ∈ zs, TmBe wr v.ownBlock z.1.tm z.2.1 z.2.2 ∧ z.1.name.size ≤ 140737488351232) ∧ Ext W wr
theorem RowB.step {W wr w1 w7 : World} {v v7 : Value} {zs : List BLain} {o : Obj} {x : Bd} {A : Option Addr} {c : Nat} (hown : wr.ownsRow W.heap.size 65 5 v zs.length (browCells zs))
    (hz : ∀ z ∈ zs, TmBe wr v.ownBlock z.1.tm z.2.1 z.2.2 ∧ z.1.name.size ≤ 140737488351232) (hW : Ext W wr) (hn : x.name.size ≤ 140737488351232) (hT : TmHi w1 wr.heap.size x.tm A c) (hx : Ext wr w1)
    (ho : w7.ownsRow W.heap.size 65 5 v7 (zs.length + 1) (browCells zs ++ BLain.cells (x, A, c))) (hg : (w1.alloc o).grownBy w7 v.ownBlock) (hat : v7.ownBlock = v.ownBlock ∨ v7.ownBlock = some (w1.alloc o).heap.size) :
    RowB W w7 v7 (zs.map (·.1) ++ [x]) := by
  have hx1 := hx.size
  have hsz : (w1.alloc o).heap.size = w1.heap.size + 1 := by simp
  have hlt := hown.lt
  rw [← browCells_one (x, A, c), ← browCells_app] at ho
  refine ⟨zs ++ [(x, A, c)], by simp, by simpa using ho, fun z hzm => ?_, (hW.trans (hx.alloc o)).own (ownsRow_ext hown (hx.alloc o)) (Nat.le_refl _) hg⟩
  rcases List.mem_append.1 hzm with hzm | hzm
  · exact ⟨((hz z hzm).1.ext (hx.alloc o)).grow hg hat, (hz z hzm).2⟩
  · obtain rfl := List.mem_singleton.1 hzm
    refine ⟨⟨w1, wr.heap.size, hT, by have := hg.size; omega, fun y h1 h2 => ⟨(hg.block y (by omega) (fun e => by have := (hlt y e.symm).2; omega)).trans (((Ext.refl w1).alloc o).block y h2), ?_⟩⟩, hn⟩
    rcases hat with e | e
    · rw [e]; intro e2; have := (hlt y e2).2; omega
    · rw [e, hsz]; intro e2; injection e2; omega
theorem RowB.done {W w : World} {v : Value} {us : List Bd} (h : RowB W w v us) : ∃ A c, v = .slice A us.length c ∧ us.length ≤ c ∧ BdsAt w us A := by
  obtain ⟨zs, rfl, ho, hz, _⟩ := h
  obtain ⟨A, c, e, hc, hB⟩ := owned_bds ho fun z hzm => ⟨(hz z hzm).1.at_, (hz z hzm).2⟩
  exact ⟨A, c, by rw [List.length_map]; exact e, by rw [List.length_map]; exact hc, hB⟩

theorem chg_grow {w w1 w7 : World} {own : Option Nat} (hx : Ext w w1) (hg : w1.grownBy w7 own) : Chg (fun b => own = some b) w w7 :=
  ⟨hg.os.trans hx.os, hg.tape.trans hx.tape, hg.output.trans hx.output, Nat.le_trans hx.size hg.size, fun k hk hn => (hg.block k (Nat.lt_of_lt_of_le hk hx.size) (fun e => hn e.symm)).trans (hx.block k hk)⟩
theorem Src.drewn {w : World} {A : Option Addr} {m c size : Nat} {xs : List Value} (h : Src w A m c size xs) : Src w.drew A m c size xs := h
theorem resK_len (bs : List Bd) (x : Bd) (p k : Nat) : (resK bs x p k).length ≤ bs.length + bs.length + 1 := by
  unfold resK stlL
  split
  · simp; omega
  · simp; omega
theorem rApply_yes {bs : List Bd} (hb : bindsB bs = true) (ll : bs.length ≤ 1000000) {t : Tm} (ht : mayB t = true) (hr : mayB (repT bs t) = true) (LA A : Option Addr) (lc c : Nat) (w : World) (hL : BdsAt w bs LA) (h : TmAt w t A c) :
    Calls Try.prog 50 #[.slice LA bs.length lc, t.val A c] w fun e w' => ∃ A' c', e = .returned (.tuple #[(repT bs t).val A' c', .bool true]) ∧ TmHi w' w.heap.size (repT bs t) A' c' ∧ Ext w w' :=
  (rApply_hi bs hb ll t ht LA A lc c w hL h).mono fun _ _ ⟨A', c', he, hT, hx⟩ => by
    rw [if_pos hr] at he hT
    exact ⟨A', c', by rw [he, hr], hT, hx⟩
theorem rApply_no {bs : List Bd} (hb : bindsB bs = true) (ll : bs.length ≤ 1000000) {t : Tm} (ht : mayB t = true) (hr : mayB (repT bs t) = false) (LA A : Option Addr) (lc c : Nat) (w : World) (hL : BdsAt w bs LA) (h : TmAt w t A c) :
    Calls Try.prog 50 #[.slice LA bs.length lc, t.val A c] w fun e w' => ∃ A' c', e = .returned (.tuple #[noTm.val A' c', .bool false]) ∧ Ext w w' :=
  (rApply_hi bs hb ll t ht LA A lc c w hL h).mono fun _ _ ⟨A', c', he, _, hx⟩ => by
    rw [if_neg (by rw [hr]; exact Bool.false_ne_true)] at he
    exact ⟨A', c', by rw [he, hr], hx⟩

def RSetOut (bs : List Bd) (s : ByteArray) (t : Tm) (p : Nat) (w : World) (e : Ending) (w' : World) : Prop :=
  Ext w w' ∧ ((mayL (stlL ⟨s, t⟩ (insB bs p ⟨s, t⟩)) = true ∧ ∃ A c, e = .returned (.tuple #[.slice A (bs.length + 1) c, .bool (decide (bs.length + 1 ≤ 16))]) ∧ bs.length + 1 ≤ c ∧ BdsAt w' (stlL ⟨s, t⟩ (insB bs p ⟨s, t⟩)) A) ∨
    (mayL (stlL ⟨s, t⟩ (insB bs p ⟨s, t⟩)) = false ∧ e = .returned (.tuple #[.slice none 0 0, .bool false])))
theorem set_no {bs : List Bd} {s : ByteArray} {t : Tm} {p k : Nat} (hk : k < bs.length) (h : mayB (repT [⟨s, t⟩] bs[k].tm) = false) : mayL (stlL ⟨s, t⟩ (insB bs p ⟨s, t⟩)) = false := by
  rw [Bool.eq_false_iff]
  intro ha
  unfold mayL at ha
  rw [List.all_eq_true] at ha
  have := ha ⟨bs[k].name, repT [⟨s, t⟩] bs[k].tm⟩ (List.mem_map.2 ⟨bs[k], insB_mem.2 (.inl (List.getElem_mem hk)), rfl⟩)
  simp only [h] at this
  cases this
theorem set_yes {bs : List Bd} {s : ByteArray} {t : Tm} {p : Nat} (hm : mayB t = true) (hx : repT [⟨s, t⟩] t = t) (h : ∀ j (hj : j < bs.length), mayB (repT [⟨s, t⟩] bs[j].tm) = true) : mayL (stlL ⟨s, t⟩ (insB bs p ⟨s, t⟩)) = true := by
  unfold mayL
  rw [List.all_eq_true]
  intro x hxm
  obtain ⟨b, hb, rfl⟩ := List.mem_map.1 hxm
  rcases insB_mem.1 hb with e | e
  · obtain ⟨j, hj, rfl⟩ := List.getElem_of_mem e
    exact h j hj
  · rw [e]; simp only [hx]; exact hm

set_option maxRecDepth 100000 in
set_option maxHeartbeats 8000000 in
theorem rSet_any (bs : List Bd) (s : ByteArray) (t : Tm) (p : Nat) (LA A : Option Addr) (lc c : Nat) (w : World) (hb : bindsB bs = true) (hm : mayB t = true) (hse : settB bs s t = true) (hp : SeaAt bs s p false) (hs : s.size ≤ 140737488351232) (hL : BdsAt w bs LA) (hT : TmAt w t A c) :
    Calls Try.prog 46 #[.slice LA bs.length lc, .string s, t.val A c] w (RSetOut bs s t p w) := by
  obtain ⟨i0, hi0, hz0, hz1, hz2⟩ := info_parts infoBd
  have h16 := (binds_ok hb).1
  have hle := hp.le
  obtain ⟨ho1, hid⟩ := sett_one hm hse
  have HMB := Lib.hid (fun i hi => (binds_may hb i hi : mayB bs[i].tm = true))
  have HO := Lib.hid ho1
  have HID := Lib.hid hid
  have HMT := Lib.hid hm
  have HLS := Lib.hid (sea_less hp)
  have HMR := Lib.hid (sea_more hp)
  obtain ⟨x0, hx0⟩ : ∃ x0 : Bd, x0 = ⟨s, t⟩ := ⟨_, rfl⟩
  clear hb hm hse ho1 hid hp
  go_enter Try.func46, Try.ntmps46
  go_wp2_with fail
  obtain ⟨w2, hw2⟩ : ∃ w2, w2 = (w.alloc (.cells #[.int .i64 t.kind, .string t.name, .int .i64 t.n, .slice A t.args.length c] 28)).alloc (.cells #[.string s, .int .i64 t.kind, .string t.name, .int .i64 t.n, .slice A t.args.length c] 65) := ⟨_, rfl⟩
  rw [← hw2]
  have hx2 : Ext w w2 := by rw [hw2]; exact ((Ext.refl w).alloc _).alloc _
  have t0 : w2.cell? ⟨w.heap.size, 0, none⟩ = some (.int .i64 t.kind) := by rw [hw2]; go_simp
  have t1 : w2.cell? ⟨w.heap.size, 1, none⟩ = some (.string t.name) := by rw [hw2]; go_simp
  have t2 : w2.cell? ⟨w.heap.size, 2, none⟩ = some (.int .i64 t.n) := by rw [hw2]; go_simp
  have t3 : w2.cell? ⟨w.heap.size, 3, none⟩ = some (.slice A t.args.length c) := by rw [hw2]; go_simp
  have hOne : BdsAt w2 [x0] (some ⟨w.heap.size + 1, 0, none⟩) := by
    intro i hi
    have : i = 0 := by simpa using hi
    subst this
    rw [hw2, hx0]
    exact ⟨w.heap.size + 1, 0, A, c, rfl, by go_simp, by go_simp, by go_simp, by go_simp, by go_simp, hT.ext (((Ext.refl w).alloc _).alloc _), hs⟩
  clear hw2
  have hL2 := hL.ext hx2
  have hT2 := hT.ext hx2
  clear hL hT
  go_loopw [9, 10, 11] (fun xv dv iv wr => ∃ k : Nat, k ≤ bs.length + 1 ∧ iv = .int .i64 k ∧ dv = .bool (decide (p < k)) ∧ Hid (RowB w2 wr xv (resK bs x0 p k)) ∧ Hid (∀ j (hj : j < bs.length), j < k → mayB (repT [x0] bs[j].tm) = true)) (fun _ _ iv _ => bs.length + 1 - (intOf iv).toNat)
  case atStart => exact ⟨0, Nat.zero_le _, rfl, by simp, Lib.hid ⟨[], by rw [resK_zero]; rfl, World.ownsRow_nil _ _ _ _, fun z hz => absurd hz (by simp), Ext.refl _⟩, Lib.hid fun j _ hj => absurd hj (Nat.not_lt_zero _)⟩
  case round =>
    obtain ⟨k, hk, rfl, rfl, HR, HY⟩ := hrel
    obtain ⟨wa, rfl⟩ : ∃ wa : World, wa = wr := ⟨_, rfl⟩
    obtain ⟨zs, hzs, hown, hzm, hxa⟩ := HR.out
    have k0 : (0 : Int) ≤ (k : Int) := Int.natCast_nonneg _
    by_cases hkl : k ≤ bs.length
    · by_cases hkp : k < p
      · have hd : decide (p < k) = false := decide_eq_false (by omega)
        have hlt : k < bs.length := by omega
        have hne : ((k : Int) == (bs.length : Int)) = false := beq_eq_false_iff_ne.2 (by omega)
        obtain ⟨b, o, C, e, rfl, c0, c1, c2, c3, c4, hTk, hn⟩ := hL2 k hlt
        have b0 := hxa.cell c0
        have b1 := hxa.cell c1
        have b2 := hxa.cell c2
        have b3 := hxa.cell c3
        have b4 := hxa.cell c4
        have hls : Op.bytesLess bs[k].name.toList s.toList = true := HLS.out k hlt hkp
        rw [hd]
        have k1 : (k : Int) < (bs.length : Int) := by omega
        clear hd HR
        go_wp2_with fail
        clear b0 b1 b2 b3 b4 hls
        have hOne' := hOne.ext hxa
        obtain ⟨y, hy⟩ : ∃ y, y = bs[k] := ⟨_, rfl⟩
        have HMY : Hid (mayB y.tm = true) := Lib.hid (by rw [hy]; exact HMB.out k hlt)
        have HYK : Hid (resK bs x0 p (k + 1) = zs.map (·.1) ++ [⟨y.name, repT [x0] y.tm⟩]) := Lib.hid (by rw [resK_next hlt, hy]; rw [hzs, resH_eq (by omega)])
        have HYM : Hid (mayB (repT [x0] y.tm) = true → ∀ j (hj : j < bs.length), j < k + 1 → mayB (repT [x0] bs[j].tm) = true) := Lib.hid fun hh j hj hjk => by
          by_cases e : j = k
          · subst e; rw [← hy]; exact hh
          · exact HY.out j hj (by omega)
        have HNO : Hid (mayB (repT [x0] y.tm) = false → mayL (stlL ⟨s, t⟩ (insB bs p ⟨s, t⟩)) = false) := Lib.hid fun hh => set_no hlt (by rw [← hx0, ← hy]; exact hh)
        have HOx : bindsB [x0] = true := by rw [hx0]; exact HO.out
        rw [← hy] at c0 c1 c2 c3 c4 hTk hn
        rw [← hy]
        have hb0 : b < w2.heap.size := World.block_lt_of_cell? w2 _ c0
        have d0 := hxa.cell c0
        clear hy
        cases hmr : mayB (repT [x0] y.tm) with
        | false =>
          have K1 : Hid (Calls Try.prog 50 #[.slice (some ⟨w.heap.size + 1, 0, none⟩) 1 1, y.tm.val C e] wa _) := Lib.hid (rApply_no (bs := [x0]) HOx (by simp) HMY.out hmr (some ⟨w.heap.size + 1, 0, none⟩) C 1 e wa hOne' (hTk.ext hxa))
          refine K1.out.mono ?_
          rintro e3 w3 ⟨A3, c3', rfl, hx3⟩
          have HN := Lib.hid (HNO.out hmr)
          clear K1 hmr
          go_wp2_with fail
          go_ret2
          exact ⟨(hx2.trans (hxa.trans hx3)).alloc _, .inr ⟨HN.out, rfl⟩⟩
        | true =>
          have K1 : Hid (Calls Try.prog 50 #[.slice (some ⟨w.heap.size + 1, 0, none⟩) 1 1, y.tm.val C e] wa _) := Lib.hid (rApply_yes (bs := [x0]) HOx (by simp) HMY.out hmr (some ⟨w.heap.size + 1, 0, none⟩) C 1 e wa hOne' (hTk.ext hxa))
          refine K1.out.mono ?_
          rintro e3 w3 ⟨A3, c3', rfl, hH3, hx3⟩
          have HN := Lib.hid (HYM.out hmr)
          clear K1 hmr HYM HNO
          generalize repT [x0] y.tm = r at *
          go_wp2_with fail
          obtain ⟨wz, hwz⟩ : ∃ wz, wz = w3.alloc (.cells #[.int .i64 r.kind, .string r.name, .int .i64 r.n, .slice A3 r.args.length c3'] 28) := ⟨_, rfl⟩
          rw [← hwz]
          have hxz : Ext w3 wz := by rw [hwz]; exact (Ext.refl w3).alloc _
          have r0 : wz.cell? ⟨w3.heap.size, 0, none⟩ = some (.int .i64 r.kind) := by rw [hwz]; go_simp
          have r1 : wz.cell? ⟨w3.heap.size, 1, none⟩ = some (.string r.name) := by rw [hwz]; go_simp
          have r2 : wz.cell? ⟨w3.heap.size, 2, none⟩ = some (.int .i64 r.n) := by rw [hwz]; go_simp
          have r3 : wz.cell? ⟨w3.heap.size, 3, none⟩ = some (.slice A3 r.args.length c3') := by rw [hwz]; go_simp
          have n0 := (hx3.trans hxz).cell d0
          have hlt' := hown.lt
          have hs3 := hx3.size
          have hnb : ¬ u9.ownBlock = some b := fun e' => by have := (hlt' b e').1; omega
          have hnw : ¬ u9.ownBlock = some w3.heap.size := fun e' => by have := (hlt' _ e').2; omega
          have hownz : wz.ownsRow w2.heap.size 65 5 u9 zs.length (browCells zs) := ownsRow_ext hown (hx3.trans hxz)
          have rulesI := fun (u : World) (q : Chg (fun x => u9.ownBlock = some x) wz u) => And.intro (q.cell n0 hnb) (And.intro (q.cell r0 hnw) (And.intro (q.cell r1 hnw) (And.intro (q.cell r2 hnw) (q.cell r3 hnw))))
          have HHZ : Hid (TmHi wz.drew wa.heap.size r A3 c3') := Lib.hid (hH3.ext hxz.drew)
          have hzsl : zs.length ≤ 40 := by
            have := congrArg List.length HYK.out
            rw [List.length_append, List.length_map] at this
            have := resK_len bs x0 p (k + 1)
            simp at *; omega
          have hxzd := (hx3.trans hxz).drew
          have hxW := hxa
          have HZM := Lib.hid hzm
          have hw2z : w2.heap.size ≤ wz.drew.heap.size := by have := (hxa.trans hxzd).size; omega
          clear hwz r0 r1 r2 r3 n0 hH3 hlt' c0 c1 c2 c3 c4 d0 hTk hOne'
          go_region_held3 (fun u => Chg (fun x => u9.ownBlock = some x) wz u) (first | assumption | exact (Chg.refl _ wz).drew | exact Chg.of_ext ((Ext.refl wz).alloc _).drew | exact hS7)
            ((refine step_app _ (by rfl) _ _ 58 (by rfl) w2.heap.size 65 i0 _ 5 72 Try.underlying58 hi0 hz0 hz1 hz2 rfl (by decide) u9 zs.length (browCells zs) (by rfl) (ownsRow_ext hownz ((Ext.refl wz).alloc _).drew) (some ⟨wz.heap.size, 0, none⟩) 1 1 (BLain.cells (⟨y.name, r⟩, A3, c3')) (by rfl) (Src.drewn (Src.box wz #[.string y.name, .int .i64 r.kind, .string r.name, .int .i64 r.n, .slice A3 r.args.length c3'] 65 5 rfl)) (BLain.one _) (by simp only [maxLen]; omega) (by omega) (by simp at hw2z ⊢; omega) ?_; intro v7 w7 ho7 hg7 hat7; have hS7 : Chg (fun x => u9.ownBlock = some x) wz w7 := chg_grow ((Ext.refl wz).alloc _).drew hg7))
          all_goals
            have HR7 : Hid (RowB w2 w7 v7 (resK bs x0 p (k + 1))) := Lib.hid (by rw [HYK.out]; exact RowB.step (x := ⟨y.name, r⟩) hown HZM.out hxW hn HHZ.out hxzd ho7 hg7 hat7)
            clear ho7 hg7 hat7 hownz rulesI HYK hS7 HZM
            go_wp2_with fail
            go_roundw
            case rel => exact ⟨k + 1, by omega, by go_num, by congr 1; simp; omega, HR7, HN⟩
            case measure => simp [intOf]; omega
      · by_cases hkq : k = p
        · subst hkq
          have hd : decide (k < k) = false := decide_eq_false (by omega)
          rw [hd]
          have KC := Lib.hid (copy_all t.high t A c wa (Nat.le_refl _) (hT2.ext hxa))
          have a0 := hxa.cell t0
          have a1 := hxa.cell t1
          have a2 := hxa.cell t2
          have a3 := hxa.cell t3
          have hzl : zs.length ≤ 40 := by
            have := congrArg List.length hzs
            rw [List.length_map] at this
            have := resK_len bs x0 k k
            omega
          have PUT : Hid (∀ (w1 w7 : World) (v7 : Value) (o : Obj) (A' : Option Addr) (c' : Nat), TmHi w1 wa.heap.size t A' c' → Ext wa w1 → w7.ownsRow w2.heap.size 65 5 v7 (zs.length + 1) (browCells zs ++ BLain.cells (⟨s, t⟩, A', c')) → (w1.alloc o).grownBy w7 u9.ownBlock → (v7.ownBlock = u9.ownBlock ∨ v7.ownBlock = some (w1.alloc o).heap.size) → RowB w2 w7 v7 (resK bs x0 k k ++ [x0])) := Lib.hid fun w1 w7 v7 o A' c' h1 h2 h3 h4 h5 => by
            have := RowB.step (x := ⟨s, t⟩) hown hzm hxa hs h1 h2 h3 h4 h5
            rwa [hzs, ← hx0] at this
          by_cases hlt : k < bs.length
          · obtain ⟨b, o, C, e, rfl, c0, c1, c2, c3, c4, hTk, hn⟩ := hL2 k hlt
            have b0 := hxa.cell c0
            have k1 : (k : Int) < (bs.length : Int) := by omega
            have hne : ((k : Int) == (bs.length : Int)) = false := beq_eq_false_iff_ne.2 (by omega)
            obtain ⟨hm1, hm2⟩ := HMR.out hlt
            clear hd HR hzm
            go_wp2_with fail
            refine KC.out.mono ?_
            rintro e1 w1 ⟨A', c', rfl, hO, hx1⟩
            have hown1 := ownsRow_ext hown hx1
            have hsz1 := (hxa.trans hx1).size
            have HO1 : Hid (TmHi w1 wa.heap.size t A' c') := Lib.hid (hO.hi fun b hb => hb.1)
            clear KC hO b0 hm1 hm2 hne a0 a1 a2 a3
            go_wp2_with (at_builtin; refine wpList_app _ rfl _ _ 58 rfl w2.heap.size 65 i0 _ 5 72 Try.underlying58 hi0 hz0 hz1 hz2 rfl (by decide) _ zs.length (browCells zs) rfl (hown1.alloc _) (some ⟨w1.heap.size, 0, none⟩) 1 1 (BLain.cells (⟨s, t⟩, A', c')) rfl (Src.box w1 #[.string s, .int .i64 t.kind, .string t.name, .int .i64 t.n, .slice A' t.args.length c'] 65 5 rfl) (BLain.one _) ?c3 ?c4 ?c5 ?_)
            case c3 => simp only [maxLen]; omega
            case c4 => omega
            case c5 => simp; omega
            intro v7 w7 ho7 hg7 hat7
            have HP := Lib.hid (PUT.out w1 w7 v7 _ A' c' HO1.out hx1 ho7 hg7 (by simpa using hat7))
            clear ho7 hg7 hat7 hown1 hown PUT HO1
            obtain ⟨zs2, hzs2, hown2, hzm2, hxp⟩ := HP.out
            obtain ⟨wp, rfl⟩ : ∃ wp : World, wp = w7 := ⟨_, rfl⟩
            obtain ⟨vp, rfl⟩ : ∃ vp : Value, vp = v7 := ⟨_, rfl⟩
            have b1 := hxp.cell c1
            have b2 := hxp.cell c2
            have b3 := hxp.cell c3
            have b4 := hxp.cell c4
            clear HP
            go_wp2_with fail
            clear b1 b2 b3 b4
            have hOne' := hOne.ext hxp
            obtain ⟨y, hy⟩ : ∃ y, y = bs[k] := ⟨_, rfl⟩
            have HMY : Hid (mayB y.tm = true) := Lib.hid (by rw [hy]; exact HMB.out k hlt)
            have HYK : Hid (resK bs x0 k (k + 1) = zs2.map (·.1) ++ [⟨y.name, repT [x0] y.tm⟩]) := Lib.hid (by rw [resK_next hlt, hy]; rw [resH_put hle, hzs2])
            have HYM : Hid (mayB (repT [x0] y.tm) = true → ∀ j (hj : j < bs.length), j < k + 1 → mayB (repT [x0] bs[j].tm) = true) := Lib.hid fun hh j hj hjk => by
              by_cases e : j = k
              · subst e; rw [← hy]; exact hh
              · exact HY.out j hj (by omega)
            have HNO : Hid (mayB (repT [x0] y.tm) = false → mayL (stlL ⟨s, t⟩ (insB bs k ⟨s, t⟩)) = false) := Lib.hid fun hh => set_no hlt (by rw [← hx0, ← hy]; exact hh)
            have HOx : bindsB [x0] = true := by rw [hx0]; exact HO.out
            rw [← hy] at c0 c1 c2 c3 c4 hTk hn
            rw [← hy]
            have hb0 : b < w2.heap.size := World.block_lt_of_cell? w2 _ c0
            have d0 := hxp.cell c0
            clear hy
            cases hmr : mayB (repT [x0] y.tm) with
            | false =>
              have K1 : Hid (Calls Try.prog 50 #[.slice (some ⟨w.heap.size + 1, 0, none⟩) 1 1, y.tm.val C e] wp _) := Lib.hid (rApply_no (bs := [x0]) HOx (by simp) HMY.out hmr (some ⟨w.heap.size + 1, 0, none⟩) C 1 e wp hOne' (hTk.ext hxp))
              refine K1.out.mono ?_
              rintro e3 w3 ⟨A3, c3', rfl, hx3⟩
              have HN := Lib.hid (HNO.out hmr)
              clear K1 hmr
              go_wp2_with fail
              go_ret2
              exact ⟨(hx2.trans (hxp.trans hx3)).alloc _, .inr ⟨HN.out, rfl⟩⟩
            | true =>
              have K1 : Hid (Calls Try.prog 50 #[.slice (some ⟨w.heap.size + 1, 0, none⟩) 1 1, y.tm.val C e] wp _) := Lib.hid (rApply_yes (bs := [x0]) HOx (by simp) HMY.out hmr (some ⟨w.heap.size + 1, 0, none⟩) C 1 e wp hOne' (hTk.ext hxp))
              refine K1.out.mono ?_
              rintro e3 w3 ⟨A3, c3', rfl, hH3, hx3⟩
              have HN := Lib.hid (HYM.out hmr)
              clear K1 hmr HYM HNO
              generalize repT [x0] y.tm = r at *
              go_wp2_with fail
              obtain ⟨wz, hwz⟩ : ∃ wz, wz = w3.alloc (.cells #[.int .i64 r.kind, .string r.name, .int .i64 r.n, .slice A3 r.args.length c3'] 28) := ⟨_, rfl⟩
              rw [← hwz]
              have hxz : Ext w3 wz := by rw [hwz]; exact (Ext.refl w3).alloc _
              have r0 : wz.cell? ⟨w3.heap.size, 0, none⟩ = some (.int .i64 r.kind) := by rw [hwz]; go_simp
              have r1 : wz.cell? ⟨w3.heap.size, 1, none⟩ = some (.string r.name) := by rw [hwz]; go_simp
              have r2 : wz.cell? ⟨w3.heap.size, 2, none⟩ = some (.int .i64 r.n) := by rw [hwz]; go_simp
              have r3 : wz.cell? ⟨w3.heap.size, 3, none⟩ = some (.slice A3 r.args.length c3') := by rw [hwz]; go_simp
              have n0 := (hx3.trans hxz).cell d0
              have hlt' := hown2.lt
              have hs3 := hx3.size
              have hnb : ¬ vp.ownBlock = some b := fun e' => by have := (hlt' b e').1; omega
              have hnw : ¬ vp.ownBlock = some w3.heap.size := fun e' => by have := (hlt' _ e').2; omega
              have hownz : wz.ownsRow w2.heap.size 65 5 vp zs2.length (browCells zs2) := ownsRow_ext hown2 (hx3.trans hxz)
              have rulesI := fun (u : World) (q : Chg (fun x => vp.ownBlock = some x) wz u) => And.intro (q.cell n0 hnb) (And.intro (q.cell r0 hnw) (And.intro (q.cell r1 hnw) (And.intro (q.cell r2 hnw) (q.cell r3 hnw))))
              have HHZ : Hid (TmHi wz.drew wp.heap.size r A3 c3') := Lib.hid (hH3.ext hxz.drew)
              have hzsl : zs2.length ≤ 40 := by
                have := congrArg List.length HYK.out
                rw [List.length_append, List.length_map] at this
                have := resK_len bs x0 k (k + 1)
                simp at *; omega
              have hxzd := (hx3.trans hxz).drew
              have hxW := hxp
              have HZM := Lib.hid hzm2
              have hw2z : w2.heap.size ≤ wz.drew.heap.size := by have := (hxp.trans hxzd).size; omega
              clear hwz r0 r1 r2 r3 n0 hH3 hlt' c0 c1 c2 c3 c4 d0 hTk hOne'
              go_region_held3 (fun u => Chg (fun x => vp.ownBlock = some x) wz u) (first | assumption | exact (Chg.refl _ wz).drew | exact Chg.of_ext ((Ext.refl wz).alloc _).drew | exact hS7)
                ((refine step_app _ (by rfl) _ _ 58 (by rfl) w2.heap.size 65 i0 _ 5 72 Try.underlying58 hi0 hz0 hz1 hz2 rfl (by decide) vp zs2.length (browCells zs2) (by rfl) (ownsRow_ext hownz ((Ext.refl wz).alloc _).drew) (some ⟨wz.heap.size, 0, none⟩) 1 1 (BLain.cells (⟨y.name, r⟩, A3, c3')) (by rfl) (Src.drewn (Src.box wz #[.string y.name, .int .i64 r.kind, .string r.name, .int .i64 r.n, .slice A3 r.args.length c3'] 65 5 rfl)) (BLain.one _) (by simp only [maxLen]; omega) (by omega) (by simp at hw2z ⊢; omega) ?_; intro v7 w7 ho7 hg7 hat7; have hS7 : Chg (fun x => vp.ownBlock = some x) wz w7 := chg_grow ((Ext.refl wz).alloc _).drew hg7))
              all_goals
                have HR7 : Hid (RowB w2 w7 v7 (resK bs x0 k (k + 1))) := Lib.hid (by rw [HYK.out]; exact RowB.step (x := ⟨y.name, r⟩) hown2 HZM.out hxW hn HHZ.out hxzd ho7 hg7 hat7)
                clear ho7 hg7 hat7 hownz rulesI HYK hS7 HZM
                go_wp2_with fail
                go_roundw
                case rel => exact ⟨k + 1, by omega, by go_num, by congr 1; simp, HR7, HN⟩
                case measure => simp [intOf]; omega
          · have he : k = bs.length := by omega
            have heq : ((k : Int) == (bs.length : Int)) = true := by rw [he]; simp
            have hlf : decide ((k : Int) < (bs.length : Int)) = false := decide_eq_false (by omega)
            have HE : Hid (resK bs x0 k k ++ [x0] = resK bs x0 k (k + 1)) := Lib.hid (by rw [← resH_put hle]; subst he; exact resH_end (Nat.le_refl _))
            have HY2 : Hid (∀ j (hj : j < bs.length), j < k + 1 → mayB (repT [x0] bs[j].tm) = true) := Lib.hid fun j hj _ => HY.out j hj (by omega)
            clear hd HR hzm HY he
            go_wp2_with fail
            refine KC.out.mono ?_
            rintro e1 w1 ⟨A', c', rfl, hO, hx1⟩
            have hown1 := ownsRow_ext hown hx1
            have hsz1 := (hxa.trans hx1).size
            have HO1 : Hid (TmHi w1 wa.heap.size t A' c') := Lib.hid (hO.hi fun b hb => hb.1)
            clear KC hO a0 a1 a2 a3
            go_wp2_with (at_builtin; refine wpList_app _ rfl _ _ 58 rfl w2.heap.size 65 i0 _ 5 72 Try.underlying58 hi0 hz0 hz1 hz2 rfl (by decide) _ zs.length (browCells zs) rfl (hown1.alloc _) (some ⟨w1.heap.size, 0, none⟩) 1 1 (BLain.cells (⟨s, t⟩, A', c')) rfl (Src.box w1 #[.string s, .int .i64 t.kind, .string t.name, .int .i64 t.n, .slice A' t.args.length c'] 65 5 rfl) (BLain.one _) ?c3 ?c4 ?c5 ?_)
            case c3 => simp only [maxLen]; omega
            case c4 => omega
            case c5 => simp; omega
            intro v7 w7 ho7 hg7 hat7
            have HP := Lib.hid (PUT.out w1 w7 v7 _ A' c' HO1.out hx1 ho7 hg7 (by simpa using hat7))
            clear ho7 hg7 hat7 hown1 hown PUT HO1
            rw [HE.out] at HP
            clear heq
            go_wp2_with fail
            go_roundw
            case rel => exact ⟨k + 1, by omega, by go_num, by congr 1; simp, HP, HY2⟩
            case measure => simp [intOf]; omega
        · have hd : decide (p < k) = true := decide_eq_true (by omega)
          rw [hd]
          by_cases hlt : k < bs.length
          · obtain ⟨b, o, C, e, rfl, c0, c1, c2, c3, c4, hTk, hn⟩ := hL2 k hlt
            have b1 := hxa.cell c1
            have b2 := hxa.cell c2
            have b3 := hxa.cell c3
            have b4 := hxa.cell c4
            have k1 : (k : Int) < (bs.length : Int) := by omega
            clear hd HR
            go_wp2_with fail
            clear b1 b2 b3 b4
            have hOne' := hOne.ext hxa
            obtain ⟨y, hy⟩ : ∃ y, y = bs[k] := ⟨_, rfl⟩
            have HMY : Hid (mayB y.tm = true) := Lib.hid (by rw [hy]; exact HMB.out k hlt)
            have HYK : Hid (resK bs x0 p (k + 1) = zs.map (·.1) ++ [⟨y.name, repT [x0] y.tm⟩]) := Lib.hid (by rw [resK_next hlt, hy]; rw [hzs, resH_eq (by omega)])
            have HYM : Hid (mayB (repT [x0] y.tm) = true → ∀ j (hj : j < bs.length), j < k + 1 → mayB (repT [x0] bs[j].tm) = true) := Lib.hid fun hh j hj hjk => by
              by_cases e : j = k
              · subst e; rw [← hy]; exact hh
              · exact HY.out j hj (by omega)
            have HNO : Hid (mayB (repT [x0] y.tm) = false → mayL (stlL ⟨s, t⟩ (insB bs p ⟨s, t⟩)) = false) := Lib.hid fun hh => set_no hlt (by rw [← hx0, ← hy]; exact hh)
            have HOx : bindsB [x0] = true := by rw [hx0]; exact HO.out
            rw [← hy] at c0 c1 c2 c3 c4 hTk hn
            rw [← hy]
            have hb0 : b < w2.heap.size := World.block_lt_of_cell? w2 _ c0
            have d0 := hxa.cell c0
            clear hy
            cases hmr : mayB (repT [x0] y.tm) with
            | false =>
              have K1 : Hid (Calls Try.prog 50 #[.slice (some ⟨w.heap.size + 1, 0, none⟩) 1 1, y.tm.val C e] wa _) := Lib.hid (rApply_no (bs := [x0]) HOx (by simp) HMY.out hmr (some ⟨w.heap.size + 1, 0, none⟩) C 1 e wa hOne' (hTk.ext hxa))
              refine K1.out.mono ?_
              rintro e3 w3 ⟨A3, c3', rfl, hx3⟩
              have HN := Lib.hid (HNO.out hmr)
              clear K1 hmr
              go_wp2_with fail
              go_ret2
              exact ⟨(hx2.trans (hxa.trans hx3)).alloc _, .inr ⟨HN.out, rfl⟩⟩
            | true =>
              have K1 : Hid (Calls Try.prog 50 #[.slice (some ⟨w.heap.size + 1, 0, none⟩) 1 1, y.tm.val C e] wa _) := Lib.hid (rApply_yes (bs := [x0]) HOx (by simp) HMY.out hmr (some ⟨w.heap.size + 1, 0, none⟩) C 1 e wa hOne' (hTk.ext hxa))
              refine K1.out.mono ?_
              rintro e3 w3 ⟨A3, c3', rfl, hH3, hx3⟩
              have HN := Lib.hid (HYM.out hmr)
              clear K1 hmr HYM HNO
              generalize repT [x0] y.tm = r at *
              go_wp2_with fail
              obtain ⟨wz, hwz⟩ : ∃ wz, wz = w3.alloc (.cells #[.int .i64 r.kind, .string r.name, .int .i64 r.n, .slice A3 r.args.length c3'] 28) := ⟨_, rfl⟩
              rw [← hwz]
              have hxz : Ext w3 wz := by rw [hwz]; exact (Ext.refl w3).alloc _
              have r0 : wz.cell? ⟨w3.heap.size, 0, none⟩ = some (.int .i64 r.kind) := by rw [hwz]; go_simp
              have r1 : wz.cell? ⟨w3.heap.size, 1, none⟩ = some (.string r.name) := by rw [hwz]; go_simp
              have r2 : wz.cell? ⟨w3.heap.size, 2, none⟩ = some (.int .i64 r.n) := by rw [hwz]; go_simp
              have r3 : wz.cell? ⟨w3.heap.size, 3, none⟩ = some (.slice A3 r.args.length c3') := by rw [hwz]; go_simp
              have n0 := (hx3.trans hxz).cell d0
              have hlt' := hown.lt
              have hs3 := hx3.size
              have hnb : ¬ u9.ownBlock = some b := fun e' => by have := (hlt' b e').1; omega
              have hnw : ¬ u9.ownBlock = some w3.heap.size := fun e' => by have := (hlt' _ e').2; omega
              have hownz : wz.ownsRow w2.heap.size 65 5 u9 zs.length (browCells zs) := ownsRow_ext hown (hx3.trans hxz)
              have rulesI := fun (u : World) (q : Chg (fun x => u9.ownBlock = some x) wz u) => And.intro (q.cell n0 hnb) (And.intro (q.cell r0 hnw) (And.intro (q.cell r1 hnw) (And.intro (q.cell r2 hnw) (q.cell r3 hnw))))
              have HHZ : Hid (TmHi wz.drew wa.heap.size r A3 c3') := Lib.hid (hH3.ext hxz.drew)
              have hzsl : zs.length ≤ 40 := by
                have := congrArg List.length HYK.out
                rw [List.length_append, List.length_map] at this
                have := resK_len bs x0 p (k + 1)
                simp at *; omega
              have hxzd := (hx3.trans hxz).drew
              have hxW := hxa
              have HZM := Lib.hid hzm
              have hw2z : w2.heap.size ≤ wz.drew.heap.size := by have := (hxa.trans hxzd).size; omega
              clear hwz r0 r1 r2 r3 n0 hH3 hlt' c0 c1 c2 c3 c4 d0 hTk hOne'
              go_region_held3 (fun u => Chg (fun x => u9.ownBlock = some x) wz u) (first | assumption | exact (Chg.refl _ wz).drew | exact Chg.of_ext ((Ext.refl wz).alloc _).drew | exact hS7)
                ((refine step_app _ (by rfl) _ _ 58 (by rfl) w2.heap.size 65 i0 _ 5 72 Try.underlying58 hi0 hz0 hz1 hz2 rfl (by decide) u9 zs.length (browCells zs) (by rfl) (ownsRow_ext hownz ((Ext.refl wz).alloc _).drew) (some ⟨wz.heap.size, 0, none⟩) 1 1 (BLain.cells (⟨y.name, r⟩, A3, c3')) (by rfl) (Src.drewn (Src.box wz #[.string y.name, .int .i64 r.kind, .string r.name, .int .i64 r.n, .slice A3 r.args.length c3'] 65 5 rfl)) (BLain.one _) (by simp only [maxLen]; omega) (by omega) (by simp at hw2z ⊢; omega) ?_; intro v7 w7 ho7 hg7 hat7; have hS7 : Chg (fun x => u9.ownBlock = some x) wz w7 := chg_grow ((Ext.refl wz).alloc _).drew hg7))
              all_goals
                have HR7 : Hid (RowB w2 w7 v7 (resK bs x0 p (k + 1))) := Lib.hid (by rw [HYK.out]; exact RowB.step (x := ⟨y.name, r⟩) hown HZM.out hxW hn HHZ.out hxzd ho7 hg7 hat7)
                clear ho7 hg7 hat7 hownz rulesI HYK hS7 HZM
                go_wp2_with fail
                go_roundw
                case rel => exact ⟨k + 1, by omega, by go_num, by congr 1; simp; omega, HR7, HN⟩
                case measure => simp [intOf]; omega
          · have HE : Hid (RowB w2 wa u9 (resK bs x0 p (k + 1))) := Lib.hid (by
              have e : k = bs.length := by omega
              subst e
              rw [← resH_end hle, resH_eq hkq]; exact HR.out)
            have HY2 : Hid (∀ j (hj : j < bs.length), j < k + 1 → mayB (repT [x0] bs[j].tm) = true) := Lib.hid fun j hj _ => HY.out j hj (by omega)
            clear hd HR HY
            go_wp2_with fail
            go_roundw
            case rel => exact ⟨k + 1, by omega, by go_num, by congr 1; simp; omega, HE, HY2⟩
            case measure => simp [intOf]; omega
    · have HD : Hid (RowB w2 wa u9 (stlL ⟨s, t⟩ (insB bs p ⟨s, t⟩))) := Lib.hid (by
        have := HR.out
        rw [resK_done hle (by omega) (by rw [hx0]; exact HID.out), hx0] at this
        exact this)
      have HM : Hid (mayL (stlL ⟨s, t⟩ (insB bs p ⟨s, t⟩)) = true) := Lib.hid (set_yes HMT.out HID.out fun j hj => by have := HY.out j hj (by omega); rwa [hx0] at this)
      have hlen : (stlL ⟨s, t⟩ (insB bs p ⟨s, t⟩)).length = bs.length + 1 := by rw [stlL_len, insB_len _ _ _ hle]
      obtain ⟨A9, c9, rfl, hc9, hB9⟩ := HD.out.done
      rw [hlen] at hc9
      rw [hlen]
      clear HR HY HD hlen hown hzm
      go_wp2_with fail
      go_ret2
      refine ⟨hx2.trans hxa, .inl ⟨HM.out, A9, c9, ?_, hc9, hB9⟩⟩
      have e : decide (bs.length + 1 ≤ 16) = decide ((bs.length : Int) + 1 ≤ 16) := by rw [Bool.eq_iff_iff, decide_eq_true_eq, decide_eq_true_eq]; omega
      first | rfl | (rw [e]; rfl)
end Go.Proofs.Ytjmfjeeddnmoaaa

/- BindSets: its callees as its walk meets them. -/
namespace Go.Proofs.Ytjmfjeeddnmoaaa
open Go.RowKit

/-- what Set answers: an error, and binds -/
def SetRel (bs : List Bd) (s : ByteArray) (t : Tm) (E : Int) (L : List Bd) : Prop :=
  (setB bs s t = false ∧ E = 1 ∧ L = []) ∨ (setB bs s t = true ∧ ∃ p, SeaAt bs s p false ∧ ((okSet bs s t p = true ∧ E = 0 ∧ L = stlL ⟨s, t⟩ (insB bs p ⟨s, t⟩)) ∨ (okSet bs s t p = false ∧ E = 2 ∧ L = [])))
def SetQ (bs : List Bd) (s : ByteArray) (t : Tm) (wi : World) (e : Ending) (w' : World) : Prop :=
  ∃ X c BX dX GX L E, e = .returned (.tuple #[.slice X L.length c, .int .i64 E]) ∧ Hid (BdsOwn w' L X (fun k => wi.heap.size ≤ k ∧ k < w'.heap.size) BX dX GX) ∧ L.length ≤ 16 ∧ Hid (SetRel bs s t E L) ∧ Ext wi w'
section
variable {bs : List Bd} {s : ByteArray} {t : Tm} {LA A : Option Addr} {lc c : Nat} {wi : World}
theorem set_Q (hs : s.size ≤ 140737488351232) (hl : bs.length ≤ 1000000) (hlc : bs.length ≤ lc) (hL : BdsAt wi bs LA) (h : TmAt wi t A c) (u : World) (hu : Ext wi u) :
    Calls Try.prog 44 #[.slice LA bs.length lc, .string s, t.val A c] u (SetQ bs s t wi) := by
  refine (Set_all bs s t LA A lc c u hl hlc (hL.ext hu) (h.ext hu) hs).mono ?_
  rintro e w' ⟨hx, hc⟩
  rcases hc with ⟨hn, rfl⟩ | ⟨hy, i, hS, ⟨ho, A', c', B, d, G, rfl, _, hO⟩ | ⟨ho, rfl⟩⟩
  · exact ⟨none, 0, _, _, _, [], 1, rfl, Lib.hid (BdsOwn.nil _ _), by simp, Lib.hid (.inl ⟨hn, rfl, rfl⟩), hu.trans hx⟩
  · have hlen : (stlL ⟨s, t⟩ (insB bs i ⟨s, t⟩)).length = bs.length + 1 := by rw [stlL_len, insB_len _ _ _ hS.le]
    have h16 := (binds_ok (set_got hy hS ho).1).1
    exact ⟨A', c', B, d, G, _, 0, by rw [hlen], Lib.hid (hO.weak fun _ hk => ⟨Nat.le_trans hu.size hk.1, hk.2⟩), h16, Lib.hid (.inr ⟨hy, i, hS, .inl ⟨ho, rfl, rfl⟩⟩), hu.trans hx⟩
  · exact ⟨none, 0, _, _, _, [], 2, rfl, Lib.hid (BdsOwn.nil _ _), by simp, Lib.hid (.inr ⟨hy, i, hS, .inr ⟨ho, rfl, rfl⟩⟩), hu.trans hx⟩
theorem rset_yes {p : Nat} (hb : bindsB bs = true) (hm : mayB t = true) (hse : settB bs s t = true) (hp : SeaAt bs s p false) (ho : okSet bs s t p = true) (hs : s.size ≤ 140737488351232) (hL : BdsAt wi bs LA) (h : TmAt wi t A c) (u : World) (hu : Ext wi u) :
    Calls Try.prog 46 #[.slice LA bs.length lc, .string s, t.val A c] u fun e w' => ∃ A' c', e = .returned (.tuple #[.slice A' (stlL ⟨s, t⟩ (insB bs p ⟨s, t⟩)).length c', .bool true]) ∧ Hid (BdsAt w' (stlL ⟨s, t⟩ (insB bs p ⟨s, t⟩)) A') ∧ Ext wi w' := by
  have hlen : (stlL ⟨s, t⟩ (insB bs p ⟨s, t⟩)).length = bs.length + 1 := by rw [stlL_len, insB_len _ _ _ hp.le]
  unfold okSet at ho
  rw [Bool.and_eq_true, decide_eq_true_eq] at ho
  refine (rSet_any bs s t p LA A lc c u hb hm hse hp hs (hL.ext hu) (h.ext hu)).mono ?_
  rintro e w' ⟨hx, ⟨_, A', c', rfl, _, hB⟩ | ⟨hn, _⟩⟩
  · exact ⟨A', c', by rw [hlen, decide_eq_true (by omega)], Lib.hid hB, hu.trans hx⟩
  · rw [ho.2] at hn; cases hn
theorem rset_no {p : Nat} (hb : bindsB bs = true) (hm : mayB t = true) (hse : settB bs s t = true) (hp : SeaAt bs s p false) (ho : okSet bs s t p = false) (hs : s.size ≤ 140737488351232) (hL : BdsAt wi bs LA) (h : TmAt wi t A c) (u : World) (hu : Ext wi u) :
    Calls Try.prog 46 #[.slice LA bs.length lc, .string s, t.val A c] u fun e w' => ∃ A' n' c', e = .returned (.tuple #[.slice A' n' c', .bool false]) ∧ Ext wi w' := by
  unfold okSet at ho
  refine (rSet_any bs s t p LA A lc c u hb hm hse hp hs (hL.ext hu) (h.ext hu)).mono ?_
  rintro e w' ⟨hx, ⟨hy, A', c', rfl, _, _⟩ | ⟨_, rfl⟩⟩
  · rw [hy, Bool.and_true, decide_eq_false_iff_not] at ho
    exact ⟨A', _, c', by rw [decide_eq_false (by omega)], hu.trans hx⟩
  · exact ⟨none, 0, 0, rfl, hu.trans hx⟩
/-- what Set answers, where it may not be -/
theorem SetRel.no {E : Int} {L : List Bd} (h : SetRel bs s t E L) (hn : setB bs s t = false) : E = 1 ∧ L = [] := by
  rcases h with ⟨_, h1, h2⟩ | ⟨h, _⟩
  · exact ⟨h1, h2⟩
  · rw [hn] at h; cases h
theorem SetRel.yes {E : Int} {L : List Bd} (h : SetRel bs s t E L) (hy : setB bs s t = true) : ∃ p, SeaAt bs s p false ∧ ((okSet bs s t p = true ∧ E = 0 ∧ L = stlL ⟨s, t⟩ (insB bs p ⟨s, t⟩)) ∨ (okSet bs s t p = false ∧ E = 2 ∧ L = [])) := by
  rcases h with ⟨hn, _⟩ | ⟨_, h⟩
  · rw [hy] at hn; cases hn
  · exact h
end
/-- Get's answer, by the place -/
theorem get_at {bs : List Bd} {s : ByteArray} (hb : bindsB bs = true) (h : 0 ≤ atB bs s) : ∃ (i : Nat) (hi : i < bs.length), atB bs s = (i : Int) ∧ getE bs s = 0 ∧ getT bs s = bs[i].tm := by
  obtain ⟨i, hi, ea, hp, _⟩ := atB_plc (okL_rise (binds_ok hb).2.1) h
  refine ⟨i, hi, ea, ?_, ?_⟩
  · unfold getE; rw [if_pos hb, bdOf_some hi hp]; rfl
  · unfold getT; rw [if_pos hb, bdOf_some hi hp]; rfl
theorem get_out {bs : List Bd} {s : ByteArray} (hb : bindsB bs = true) (h : ¬ 0 ≤ atB bs s) : getE bs s = 3 ∧ getT bs s = noTm := by
  have hp := atB_none h
  refine ⟨?_, ?_⟩
  · unfold getE; rw [if_pos hb, bdOf_none hp]; rfl
  · unfold getT; rw [if_pos hb, bdOf_none hp]; rfl
theorem get_bad {bs : List Bd} {s : ByteArray} (hb : bindsB bs = false) : getE bs s = 1 ∧ getT bs s = noTm := by
  refine ⟨?_, ?_⟩
  · unfold getE; rw [if_neg (by rw [hb]; exact Bool.false_ne_true)]
  · unfold getT; rw [if_neg (by rw [hb]; exact Bool.false_ne_true)]
section
variable {bs : List Bd} {t : Tm} {LA A : Option Addr} {lc c : Nat} {wi : World}
theorem rap_A (hb : bindsB bs = true) (hl : bs.length ≤ 1000000) (ht : mayB t = true) (hL : BdsAt wi bs LA) (h : TmAt wi t A c) (u : World) (hu : Ext wi u) :
    Calls Try.prog 50 #[.slice LA bs.length lc, t.val A c] u fun e w' => ∃ A1 c1, e = .returned (.tuple #[(applyT bs t).val A1 c1, .bool (mayB (repT bs t))]) ∧ Hid (TmHi w' wi.heap.size (applyT bs t) A1 c1) ∧ Ext wi w' :=
  (rApply_hi bs hb hl t ht LA A lc c u (hL.ext hu) (h.ext hu)).mono fun _ _ ⟨A1, c1, he, hO, hx⟩ => by
    have e : applyT bs t = if mayB (repT bs t) = true then repT bs t else noTm := by unfold applyT; rw [if_pos (by rw [hb, ht]; rfl)]
    exact ⟨A1, c1, by rw [e]; exact he, Lib.hid (by rw [e]; exact hO.weak hu.size), hu.trans hx⟩
theorem rap_B (hb : bindsB bs = true) (hl : bs.length ≤ 1000000) (ht : mayB t = true) (hL : BdsAt wi bs LA) (h : TmAt wi t A c) (u : World) (hu : Ext (wi.alloc zObj) u) :
    Calls Try.prog 50 #[.slice LA bs.length lc, t.val A c] u fun e w' => ∃ A1 c1, e = .returned (.tuple #[(applyT bs t).val A1 c1, .bool (mayB (repT bs t))]) ∧ Hid (TmHi w' (wi.heap.size + 1) (applyT bs t) A1 c1) ∧ Ext wi w' ∧ Box4 w' wi.heap.size (.int .i64 0) (.string ⟨#[]⟩) (.int .i64 0) (.slice none 0 0) := by
  have hx0 : Ext wi u := ((Ext.refl _).alloc _).trans hu
  have hsz : wi.heap.size + 1 ≤ u.heap.size := by have := hu.size; simpa using this
  exact (rApply_hi bs hb hl t ht LA A lc c u (hL.ext hx0) (h.ext hx0)).mono fun _ _ ⟨A1, c1, he, hO, hx⟩ => by
    have e : applyT bs t = if mayB (repT bs t) = true then repT bs t else noTm := by unfold applyT; rw [if_pos (by rw [hb, ht]; rfl)]
    exact ⟨A1, c1, by rw [e]; exact he, Lib.hid (by rw [e]; exact hO.weak hsz), hx0.trans hx, (Box4.new wi _ _ _ _).ext (hu.trans hx)⟩
end
theorem applyE_yes {bs : List Bd} {t : Tm} (hb : bindsB bs = true) (ht : mayB t = true) : applyE bs t = if mayB (repT bs t) = true then 0 else 2 := by unfold applyE; rw [if_pos (by rw [hb, ht]; rfl)]
theorem apply_no {bs : List Bd} {t : Tm} (h : (bindsB bs && mayB t) = false) : applyE bs t = 1 ∧ applyT bs t = noTm := by
  unfold applyE applyT
  rw [if_neg (by rw [h]; exact Bool.false_ne_true), if_neg (by rw [h]; exact Bool.false_ne_true)]
  exact ⟨rfl, rfl⟩
theorem applyT_no {bs : List Bd} {t : Tm} (hm : mayB (repT bs t) = false) : applyT bs t = noTm := by
  unfold applyT
  split
  · rw [if_neg (by rw [hm]; exact Bool.false_ne_true)]
  · rfl
end Go.Proofs.Ytjmfjeeddnmoaaa
