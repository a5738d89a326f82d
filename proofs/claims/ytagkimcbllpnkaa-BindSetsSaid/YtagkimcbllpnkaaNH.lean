/- Joined: Bsf. -/
import Derived.Test.YtagkimcbllpnkaaNF
import Derived.Deep.DeepCutAuto
import Derived.Deep.CutBlock

/- BindSets: the walk. -/
namespace Go.Proofs.Ytagkimcbllpnkaa
open Go.RowKit

theorem Chg.setCell {F : Nat → Prop} {w w1 : World} {g o : Nat} (h : Chg F w w1) (hF : F g) (v : Value) : Chg F w (w1.setCell ⟨g, o, none⟩ v) :=
  h.trans ⟨by simp [World.setCell], by simp [World.setCell], by simp [World.setCell], by simp [World.setCell], fun k _ hk => Below.heap_setCell _ _ _ _ (fun e => hk (e ▸ hF))⟩
theorem Box4.put {w w' : World} {g : Nat} {v0 v1 v2 v3 : Value} (h : Box4 w g v0 v1 v2 v3) (u0 u1 u2 u3 : Value) (e : w' = (((w.setCell ⟨g, 0, none⟩ u0).setCell ⟨g, 1, none⟩ u1).setCell ⟨g, 2, none⟩ u2).setCell ⟨g, 3, none⟩ u3) :
    w'.cell? ⟨g, 0, none⟩ = some u0 ∧ w'.cell? ⟨g, 1, none⟩ = some u1 ∧ w'.cell? ⟨g, 2, none⟩ = some u2 ∧ w'.cell? ⟨g, 3, none⟩ = some u3 := by
  obtain ⟨a, b, c, d, _, _, _, _⟩ := h
  subst e
  exact ⟨by go_simp, by go_simp, by go_simp, by go_simp⟩
/-- a term in a box -/
def InBox (w : World) (g : Nat) (t : Tm) : Prop :=
  ∃ A c, (w.cell? ⟨g, 0, none⟩ = some (.int .i64 t.kind) ∧ w.cell? ⟨g, 1, none⟩ = some (.string t.name) ∧ w.cell? ⟨g, 2, none⟩ = some (.int .i64 t.n) ∧ w.cell? ⟨g, 3, none⟩ = some (.slice A t.args.length c)) ∧ TmAt w t A c
theorem InBox.ext {w w' : World} {g : Nat} {t : Tm} (h : InBox w g t) (k : Ext w w') : InBox w' g t := by
  obtain ⟨A, c, ⟨h0, h1, h2, h3⟩, hT⟩ := h
  exact ⟨A, c, ⟨k.cell h0, k.cell h1, k.cell h2, k.cell h3⟩, hT.ext k⟩
theorem Box4.none_ {w : World} {g : Nat} (h : Box4 w g (.int .i64 0) (.string ⟨#[]⟩) (.int .i64 0) (.slice none 0 0)) : InBox w g noTm := by
  obtain ⟨a, b, c, d, _, _, _, _⟩ := h
  exact ⟨none, 0, ⟨a, b, c, d⟩, (TmOwn.leaf noTm_fits rfl none 0 (fun _ => True)).at_⟩

set_option maxRecDepth 100000 in
set_option maxHeartbeats 40000000 in
theorem sets_walk (Bs : List (List Bd)) (ts : List Tm) (ss : List ByteArray) (A T S : Option Addr) (ca ct cs : Nat) (w : World) (hbl : Bs.length * 24 ≤ 140737488351232) (hB : BssAt w Bs A) (hl : ts.length * 56 ≤ 140737488351232) (h : TmsAt w ts T) (hm : ss.length * 16 ≤ 140737488351232) (hs : StrsAt w ss S) (hcs : ss.length ≤ cs) :
    Calls Try.prog 6 #[.agg #[.slice A Bs.length ca, .slice T ts.length ct, .slice S ss.length cs]] w fun e w' => e = .returned (.bool true) ∧ Ext w w' := by
  have hx0 : Ext w (w.alloc (.cells #[.slice A Bs.length ca, .slice T ts.length ct, .slice S ss.length cs] 56)) := (Ext.refl w).alloc _
  obtain ⟨i0, hi0, hz0, hz1, hz2⟩ := info_parts infoStr
  go_enter Try.func6, Try.ntmps6
  go_wp2_with fail
  refine (heavy2_any Bs ts ss A T S ca ct cs _ hbl (hB.ext hx0) hl (h.ext hx0) hm (hs.ext hx0)).mono ?_
  rintro e1 w1 ⟨hv, rfl, HV, hx1⟩
  have hx01 := hx0.trans hx1
  have p0 : w1.cell? ⟨w.heap.size, 0, none⟩ = some (.slice A Bs.length ca) := hx1.cell (by go_simp)
  have p1 : w1.cell? ⟨w.heap.size, 1, none⟩ = some (.slice T ts.length ct) := hx1.cell (by go_simp)
  have p2 : w1.cell? ⟨w.heap.size, 2, none⟩ = some (.slice S ss.length cs) := hx1.cell (by go_simp)
  clear hx1 hx0
  cases hv with
  | true =>
    go_wp2_with fail
    go_ret
    exact ⟨rfl, hx01⟩
  | false =>
    obtain ⟨hlen, hhg, hbn, htw, htx⟩ := HV rfl
    have HLEN := Lib.hid hlen
    have HHG := Lib.hid hhg
    have HTH : Hid (∀ i (hi : i < ts.length), ts[i].high ≤ 1000000) := Lib.hid fun i hi => by
      have h0 : (0 : Int) ≤ (ts.length : Int) := by omega
      have := weight_high3 30 ts[i] (weightL_each3 30 ts ts.length h0 htw ts[i] (List.getElem_mem hi))
      omega
    have htn : ts.length ≤ 3000 := by have := weightL_ge 30 (weightT_pos 30) ts ts.length; omega
    have hsn : ss.length ≤ 3000 := by have := textsL_ge ss ss.length; omega
    have hB1 := hB.ext hx01
    have hT1 := h.ext hx01
    have hS1 := hs.ext hx01
    clear HV hlen hhg htw htx hB h hs
    obtain ⟨n3, hn3⟩ : ∃ n3 : List ByteArray, n3 = [⟨#[88]⟩, ⟨#[89]⟩, ⟨#[120]⟩] := ⟨_, rfl⟩
    have hxn : Ext w1 (w1.alloc (.cells #[.string ⟨#[88]⟩, .string ⟨#[89]⟩, .string ⟨#[120]⟩] 9)) := (Ext.refl w1).alloc _
    have hown3 : (w1.alloc (.cells #[.string ⟨#[88]⟩, .string ⟨#[89]⟩, .string ⟨#[120]⟩] 9)).ownsRow w1.heap.size 9 1 (.slice (some ⟨w1.heap.size, 0, none⟩) 3 3) 3 (strCells n3) := by
      refine ⟨by rw [hn3]; rfl, .inr ⟨w1.heap.size, 3, _, rfl, Nat.le_refl _, heap_alloc_new _ _, Nat.le_refl _, by decide, rfl, by rw [hn3]; rfl⟩⟩
    have p2n := hxn.cell p2
    have hnl : n3.length ≤ 3 := by rw [hn3]; decide
    have HNS : Hid (∀ s ∈ n3, s.size ≤ 140737488351232) := Lib.hid (by rw [hn3]; intro s hs; simp at hs; rcases hs with rfl | rfl | rfl <;> decide)
    have HSS : Hid (∀ s ∈ ss, s.size ≤ 140737488351232) := Lib.hid (by
      intro s hs
      obtain ⟨i, hi, rfl⟩ := List.getElem_of_mem hs
      obtain ⟨_, _, _, _, h5⟩ := hS1 i hi
      exact h5)
    clear hn3
    go_wp2_with (at_builtin; refine wpList_app _ rfl _ _ 23 rfl w1.heap.size 9 i0 _ 1 16 Try.underlying23 hi0 hz0 hz1 hz2 rfl (by decide) _ 3 (strCells n3) rfl hown3 S ss.length cs (strCells ss) rfl (src_strs (hS1.ext hxn) hcs) (strCells_one ss) ?c3 ?c4 ?c5 ?_)
    case c3 => simp only [maxLen]; omega
    case c4 => omega
    case c5 => simp
    clear p2n
    intro vN w3 hownN hgrow _
    have hx3 : Ext w1 w3 := hxn.own hown3 (Nat.le_refl _) hgrow
    rw [← strCells_app] at hownN
    obtain ⟨nm, hnm⟩ : ∃ nm, nm = n3 ++ ss := ⟨_, rfl⟩
    rw [← hnm] at hownN
    have hnml : nm.length ≤ 3003 := by rw [hnm, List.length_append]; omega
    obtain ⟨N, cN, rfl, hN3, _, _⟩ := owned_strs2 hownN (fun s hs => by
      rw [hnm] at hs
      rcases List.mem_append.1 hs with e | e
      · exact HNS.out s e
      · exact HSS.out s e)
    have p03 := hx3.cell p0
    have p13 := hx3.cell p1
    have hB3 := hB1.ext hx3
    have hT3 := hT1.ext hx3
    clear hownN hgrow hown3 hxn HNS HSS hnm hS1 hB1 hT1 p0 p1 p2 hcs
    go_wp2_with fail
    go_loopw [4] (fun i wr => ∃ k : Nat, k ≤ Bs.length ∧ i = .int .i64 k ∧ Ext w3 wr) (fun i _ => Bs.length - (intOf i).toNat)
    case atStart => exact ⟨0, Nat.zero_le _, rfl, Ext.refl _⟩
    case round =>
      obtain ⟨i, hi, rfl, hxa⟩ := hrel
      obtain ⟨wa, rfl⟩ : ∃ wa : World, wa = wr := ⟨_, rfl⟩
      have pa0 := hxa.cell p03
      by_cases hboth : i < Bs.length ∧ i < 6
      · obtain ⟨hlt, h6⟩ := hboth
        have h6' : decide ((i : Int) < 6) = true := decide_eq_true (by omega)
        obtain ⟨b, o, LA, lc, rfl, cB, hBd, hlc, _⟩ := (hB3.ext hxa) i hlt
        have hBl := HLEN.out i hlt
        have HGa : Hid (∀ q (hq : q < Bs[i].length), Bs[i][q].tm.high ≤ 1000000) := Lib.hid fun q hq => by have := HHG.out i hlt q hq; omega
        have i0' : (0 : Int) ≤ (i : Int) := Int.natCast_nonneg _
        have i1' : (i : Int) < (Bs.length : Int) := by omega
        generalize hbs : Bs[i] = aa at *
        have HBS := Lib.hid hbs
        have hla : aa.length ≤ 1000000 := by omega
        clear hbs
        go_wp2_with fail
        refine (copyBinds_any aa LA lc _ hla hBd).mono ?_
        rintro e5 w5 ⟨A5, c5, rfl, hc5, hA5, hx5⟩
        have pb0 := hx5.cell pa0
        have cB5 := hx5.cell cB
        go_wp2_with fail
        refine (rBinds_any aa LA lc _ hla HGa.out (hBd.ext hx5)).mono ?_
        rintro e6 w6 ⟨rfl, hx6⟩
        go_wp2_with fail
        refine (bcheck_any aa A5 c5 _ hla (hA5.ext hx6)).mono ?_
        rintro e7 w7 ⟨rfl, hx7⟩
        have hcmp : ((bindsE aa == 0) == bindsB aa) = true := by
          unfold bindsE
          cases bindsB aa <;> rfl
        obtain ⟨M, hM⟩ : ∃ M, M = bindsB aa := ⟨_, rfl⟩
        have HM := Lib.hid hM
        rw [← hM] at hcmp
        rw [← hM]
        generalize bindsE aa = E0 at *
        clear hM
        go_wp2_with fail
        refine (num2_any _ _).mono ?_
        rintro e8 w8 ⟨rfl, rfl⟩
        have hx57 := (hx5.trans hx6).trans hx7
        have hx37 := hxa.trans hx57
        have p0r := hx37.cell p03
        have p1r := hx37.cell p13
        have cBr := (hx6.trans hx7).cell cB5
        have hAr := hA5.ext (hx6.trans hx7)
        have hBr := hBd.ext hx57
        have hTr := hT3.ext hx37
        have hNr := hN3.ext hx37
        clear pb0 cB5 hA5 hBd cB pa0
        go_upto_block 2 with (fail)
        clear hcmp
        go_cut [7] (fun _ wx => Ext w7 wx)
        case first =>
          as_aux_lemma =>
            go_wp2_with fail
            go_loopw [7] (fun sv wr => ∃ k : Nat, k ≤ nm.length ∧ sv = .int .i64 k ∧ Ext w7 wr) (fun sv _ => nm.length - (intOf sv).toNat)
            case atStart => exact ⟨0, Nat.zero_le _, rfl, Ext.refl _⟩
            case round =>
              obtain ⟨q, hq, rfl, hxb⟩ := hrel
              obtain ⟨wb, rfl⟩ : ∃ wb : World, wb = wr := ⟨_, rfl⟩
              have b0 := hxb.cell p0r
              have b1 := hxb.cell p1r
              have bB := hxb.cell cBr
              have hAb := hAr.ext hxb
              have hBb := hBr.ext hxb
              have hTb := hTr.ext hxb
              have hNb := hNr.ext hxb
              by_cases hb2 : q < nm.length ∧ q < 9
              · obtain ⟨hql, hq9⟩ := hb2
                have hq9' : decide ((q : Int) < 9) = true := decide_eq_true (by omega)
                obtain ⟨nb, no, rfl, cN0, hsz⟩ := hNb q hql
                have q0 : (0 : Int) ≤ (q : Int) := Int.natCast_nonneg _
                have q1 : (q : Int) < (nm.length : Int) := by omega
                obtain ⟨sn, hsn⟩ : ∃ sn, sn = nm[q] := ⟨_, rfl⟩
                rw [← hsn] at cN0 hsz
                clear hsn
                go_upto_region 16 with (go_at_call 42; refine (Get_any aa sn A5 c5 _ hla hAb).mono ?_; rintro e8 w8 ⟨A8, c8, rfl, hO8, hx8⟩)
                obtain ⟨w9, hw9⟩ : ∃ w9, w9 = w8.alloc (.cells #[.int .i64 (getT aa sn).kind, .string (getT aa sn).name, .int .i64 (getT aa sn).n, .slice A8 (getT aa sn).args.length c8] 28) := ⟨_, rfl⟩
                rw [← hw9]
                have hx89 : Ext w8 w9 := by rw [hw9]; exact (Ext.refl w8).alloc _
                have HI8 : Hid (InBox w9 w8.heap.size (getT aa sn)) := Lib.hid ⟨A8, c8, by rw [hw9]; exact ⟨by go_simp, by go_simp, by go_simp, by go_simp⟩, hO8.at_.ext hx89⟩
                have hs9 : w8.heap.size < w9.heap.size := by rw [hw9]; simp
                clear hw9 hO8
                go_cut [11] (fun v wy => v = .pointer (some ⟨w9.heap.size, 0, none⟩) ∧ wy = w9.alloc zObj)
                case first =>
                  as_aux_lemma =>
                    go_wp2_with fail
                    go_meet
                    exact ⟨rfl, rfl⟩
                case rest =>
                  as_aux_lemma =>
                    obtain ⟨rfl, hwy⟩ := hcut
                    obtain ⟨w10, rfl⟩ : ∃ w10 : World, w10 = wc := ⟨_, rfl⟩
                    have hx910 : Ext w9 w10 := by rw [hwy]; exact (Ext.refl w9).alloc _
                    have HBX : Hid (Box4 w10 w9.heap.size (.int .i64 0) (.string ⟨#[]⟩) (.int .i64 0) (.slice none 0 0)) := Lib.hid (by rw [hwy]; exact Box4.new w9 _ _ _ _)
                    have hs10 : w9.heap.size < w10.heap.size := by rw [hwy]; simp
                    have hxb10 := (hx8.trans hx89).trans hx910
                    have hsb := (hx8.trans hx89).size
                    have d0 := hxb10.cell b0
                    have d1 := hxb10.cell b1
                    have dB := hxb10.cell bB
                    have dN := hxb10.cell cN0
                    have hAd := hAb.ext hxb10
                    have hBd := hBb.ext hxb10
                    clear hwy
                    rename_i hKK
                    refine hKK _ _ ?_
                    go_step
                    clear hKK
                    go_cut [10] (fun v10 wy => v10 = .int .i64 (getE aa sn) ∧ Hid (InBox wy w9.heap.size (getT aa sn)) ∧ Chg (fun x => x = w9.heap.size) w10 wy)
                    case first =>
                      as_aux_lemma =>
                        cases M with
                        | false =>
                          have HG := Lib.hid (get_bad (s := sn) HM.out.symm)
                          have HNB : Hid (InBox w10 w9.heap.size noTm) := Lib.hid HBX.out.none_
                          clear HBX
                          go_wp2_with fail
                          go_meet
                          exact ⟨by rw [HG.out.1], by rw [HG.out.2]; exact HNB, Chg.refl _ _⟩
                        | true =>
                          have KAT : Hid (∀ p : ExtOf w10, Calls Try.prog 43 #[.slice LA aa.length lc, .string sn] p.to fun e w' => e = .returned (.int .i64 (atB aa sn)) ∧ Ext p.to w') := Lib.hid fun p => At_any aa sn LA lc p.to hla (hBd.ext p.is)
                          have r0 : ∀ p : ExtOf w10, p.to.cell? ⟨w.heap.size, 0, none⟩ = some (.slice (some ⟨b, o, none⟩) Bs.length ca) := ext_cell d0
                          have r1 : ∀ p : ExtOf w10, p.to.cell? ⟨b, o + i, none⟩ = some (.slice LA aa.length lc) := ext_cell dB
                          have r2 : ∀ p : ExtOf w10, p.to.cell? ⟨nb, no + q, none⟩ = some (.string sn) := ext_cell dN
                          have HB0 := HBX
                          have hwb0 : w.heap.size < wb.heap.size := World.block_lt_of_cell? wb _ b0
                          have hbb0 : b < wb.heap.size := World.block_lt_of_cell? wb _ bB
                          clear HBX dN
                          go_wp2_with fail
                          refine wp_region_ext (by kernel_rfl) (by kernel_rfl) ?_
                          repeat (go_big_quiet_step ((go_at_call 43; exact of_ext (KAT.out _))))
                          refine wpQuiet_nil ?_
                          refine ext_all ?_
                          intro w11 hx11
                          clear KAT r0 r1 r2
                          by_cases hat : 0 ≤ atB aa sn
                          · obtain ⟨ix, hix, ea, gE, gT⟩ := get_at HM.out.symm hat
                            obtain ⟨b2, o2, C2, e2, rfl, y0, y1, y2, y3, y4, hTy, _⟩ := hBb ix hix
                            have hbb2 : b2 < wb.heap.size := World.block_lt_of_cell? wb _ y0
                            rw [ea]
                            have hxb11 := hxb10.trans hx11
                            have GE := Lib.hid gE
                            have ix0 : (0 : Int) ≤ (ix : Int) := Int.natCast_nonneg _
                            have ix1 : (ix : Int) < (aa.length : Int) := by omega
                            obtain ⟨yb, hyb⟩ : ∃ yb, yb = aa[ix].tm := ⟨_, rfl⟩
                            rw [← hyb] at y1 y2 y3 y4 hTy gT
                            have GT := Lib.hid gT
                            have n1 : ¬ w.heap.size = w9.heap.size := by omega
                            have n2 : ¬ b = w9.heap.size := by omega
                            have n3' : ¬ b2 = w9.heap.size := by omega
                            have rulesI := fun (u : World) (z : Chg (fun x => x = w9.heap.size) w11 u) => And.intro (z.cell (hx11.cell d0) n1) (And.intro (z.cell (hx11.cell dB) n2) (And.intro (z.cell (hxb11.cell y1) n3') (And.intro (z.cell (hxb11.cell y2) n3') (And.intro (z.cell (hxb11.cell y3) n3') (z.cell (hxb11.cell y4) n3')))))
                            have hC0 := Chg.refl (fun x => x = w9.heap.size) w11
                            obtain ⟨x0, x1, x2, x3, f0, f1, f2, f3⟩ := HB0.out.ext hx11
                            have HTY := Lib.hid hTy
                            clear hyb gE gT hat ea y0 y1 y2 y3 y4 hTy HB0 d0 dB
                            go_wp2_with fail
                            go_region_held3 (fun u => Chg (fun x => x = w9.heap.size) w11 u) (first | assumption | exact hC0.drew | exact Chg.setCell (Chg.setCell (Chg.setCell (Chg.setCell hC0.drew rfl _) rfl _) rfl _) rfl _ | exact (Chg.setCell (Chg.setCell (Chg.setCell (Chg.setCell hC0 rfl _) rfl _) rfl _) rfl _).drew) (fail)
                            all_goals
                              have hc1 := Chg.setCell (Chg.setCell (Chg.setCell (Chg.setCell hC0.drew (g := w9.heap.size) (o := 0) rfl (.int .i64 yb.kind)) (g := w9.heap.size) (o := 1) rfl (.string yb.name)) (g := w9.heap.size) (o := 2) rfl (.int .i64 yb.n)) (g := w9.heap.size) (o := 3) rfl (.slice C2 yb.args.length e2)
                              have hfin := Chg.ext_of hxb11 hc1 (fun b hb => by omega)
                              have HIB : Hid (InBox ((((w11.drew.setCell ⟨w9.heap.size, 0, none⟩ (.int .i64 yb.kind)).setCell ⟨w9.heap.size, 1, none⟩ (.string yb.name)).setCell ⟨w9.heap.size, 2, none⟩ (.int .i64 yb.n)).setCell ⟨w9.heap.size, 3, none⟩ (.slice C2 yb.args.length e2)) w9.heap.size yb) := Lib.hid ⟨C2, e2, ⟨by go_simp, by go_simp, by go_simp, by go_simp⟩, HTY.out.ext hfin⟩
                              clear rulesI x0 x1 x2 x3 f0 f1 f2 f3
                              go_wp2_with fail
                              go_meet
                              exact ⟨by rw [GE.out], by rw [GT.out]; exact HIB, (Chg.of_ext hx11).trans hc1⟩
                          · have hat' : decide (0 ≤ atB aa sn) = false := decide_eq_false hat
                            have HG := Lib.hid (get_out HM.out.symm hat)
                            have HNB : Hid (InBox w11 w9.heap.size noTm) := Lib.hid (HB0.out.none_.ext hx11)
                            clear hat HB0
                            go_wp2_with fail
                            go_meet
                            exact ⟨by rw [HG.out.1], by rw [HG.out.2]; exact HNB, Chg.of_ext hx11⟩
                    case rest =>
                      as_aux_lemma =>
                        obtain ⟨rfl, HWB, hch⟩ := hcut
                        obtain ⟨wy, rfl⟩ : ∃ wy : World, wy = wc := ⟨_, rfl⟩
                        have hx9y : Ext w9 wy := Chg.ext_of hx910 hch (fun b hb => by omega)
                        have hxby : Ext wb wy := (hx8.trans hx89).trans hx9y
                        obtain ⟨A8', c8', ⟨y0, y1, y2, y3⟩, hT8⟩ := HI8.out.ext hx9y
                        obtain ⟨A11, c11, ⟨z0, z1, z2, z3⟩, hT11⟩ := HWB.out
                        clear HWB HI8 HBX d0 d1 dB dN hAd hBd hch
                        go_wp2_with fail
                        refine (num2_any _ _).mono ?_
                        rintro e w12 ⟨rfl, rfl⟩
                        go_wp2_with fail
                        refine (EqTerm_self (getT aa sn) A8' A11 c8' c11 _ hT8 hT11).mono ?_
                        rintro e w13 ⟨rfl, hx13⟩
                        have hxb13 := hxby.trans hx13
                        have f0 := hxb13.cell b0
                        have f1 := hxb13.cell b1
                        have fB := hxb13.cell bB
                        have fN := hxb13.cell cN0
                        have hAf := hAb.ext hxb13
                        have hBf := hBb.ext hxb13
                        have hTf := hTb.ext hxb13
                        clear y0 y1 y2 y3 z0 z1 z2 z3 hT8 hT11 b0 b1 bB cN0 hAb hBb hTb hNb
                        go_wp2_with fail
                        go_loopw [13] (fun kv wr => ∃ k : Nat, k ≤ ts.length ∧ kv = .int .i64 k ∧ Ext w13 wr) (fun kv _ => ts.length - (intOf kv).toNat)
                        case atStart => exact ⟨0, Nat.zero_le _, rfl, Ext.refl _⟩
                        case round =>
                          obtain ⟨j, hj, rfl, hxd⟩ := hrel
                          obtain ⟨wd, rfl⟩ : ∃ wd : World, wd = wr := ⟨_, rfl⟩
                          have g0 := hxd.cell f0
                          have g1 := hxd.cell f1
                          have gB := hxd.cell fB
                          have gN := hxd.cell fN
                          have hAg := hAf.ext hxd
                          have hBg := hBf.ext hxd
                          have hTg := hTf.ext hxd
                          by_cases hb3 : j < ts.length ∧ j < 6
                          · obtain ⟨hjl, hj6⟩ := hb3
                            have hj6' : decide ((j : Int) < 6) = true := decide_eq_true (by omega)
                            obtain ⟨b3, o3, TA, tc, rfl, c0, c1, c2, c3, hTt⟩ := hTg.at_ hjl
                            have hth := HTH.out j hjl
                            have j0 : (0 : Int) ≤ (j : Int) := Int.natCast_nonneg _
                            have j1 : (j : Int) < (ts.length : Int) := by omega
                            generalize htj : ts[j] = t at *
                            have HTJ := Lib.hid htj
                            have rulesI := fun (u : World) (k : Ext wd u) => And.intro (k.cell g0) (And.intro (k.cell g1) (And.intro (k.cell gN) (And.intro (k.cell c0) (And.intro (k.cell c1) (And.intro (k.cell c2) (k.cell c3))))))
                            have hI0 := Ext.refl wd
                            have KS := Lib.hid (fun u hu => set_Q (s := sn) (lc := c5) hsz hla hc5 hAg hTt u hu)
                            clear htj
                            go_upto_region 27 with (fail)
                            go_cut [14, 15] (fun v14 v15 wx => ∃ X c BX dX GX L E, v14 = .slice X L.length c ∧ v15 = .int .i64 E ∧ Hid (BdsOwn wx L X (fun k => wd.heap.size ≤ k ∧ k < wx.heap.size) BX dX GX) ∧ L.length ≤ 16 ∧ Hid (SetRel aa sn t E L) ∧ Ext wd wx)
                            case first =>
                              as_aux_lemma =>
                                clear hTg hAg hBg
                                go_region_held3 (fun u => Ext wd u) (first | assumption | exact hI0.drew | exact hS14)
                                  ((go_at_call 44; refine (KS.out _ (by assumption)).mono ?_; rintro e14 w14 ⟨X, xc, BX, dX, GX, L, E, rfl, HX, hXl, HREL, hS14⟩))
                                all_goals
                                  go_wp2_with fail
                                  go_meet
                                  exact ⟨X, xc, BX, dX, GX, L, E, rfl, rfl, HX, hXl, HREL, hS14⟩
                            case rest =>
                              as_aux_lemma =>
                                obtain ⟨X, xc, BX, dX, GX, L, E, rfl, rfl, HX, hXl, HREL, hS14⟩ := hcut
                                obtain ⟨w14, rfl⟩ : ∃ w14 : World, w14 = wc := ⟨_, rfl⟩
                                have h0 := hS14.cell g0
                                have h1 := hS14.cell g1
                                have hB14 := hS14.cell gB
                                have hN14 := hS14.cell gN
                                have k0 := hS14.cell c0
                                have k1 := hS14.cell c1
                                have k2 := hS14.cell c2
                                have k3 := hS14.cell c3
                                have hAh := hAg.ext hS14
                                have hBh := hBg.ext hS14
                                have hTh := hTt.ext hS14
                                clear rulesI KS
                                go_upto_region 29 with (fail)
                                go_cut [16] (fun v wy => v = .slice none 0 0 ∧ wy = w14)
                                case first =>
                                  as_aux_lemma =>
                                    go_wp2_with fail
                                    go_meet
                                    exact ⟨rfl, rfl⟩
                                case rest =>
                                  as_aux_lemma =>
                                    obtain ⟨rfl, rfl⟩ := hcut
                                    obtain ⟨w14, rfl⟩ : ∃ w14 : World, w14 = wc := ⟨_, rfl⟩
                                    rename_i hKK
                                    refine hKK _ _ ?_
                                    go_step
                                    clear hKK
                                    go_cut [10, 16] (fun v10 v16 wy => ∃ (D : Option Addr) (dc : Nat), v10 = .int .i64 E ∧ v16 = .slice D L.length dc ∧ Hid (BdsAt wy L D) ∧ Ext w14 wy)
                                    case first =>
                                      as_aux_lemma =>
                                        have r0 := ext_cell h0
                                        have r1 := ext_cell h1
                                        have r2 := ext_cell hB14
                                        have r3 := ext_cell hN14
                                        have r4 := ext_cell k0
                                        have r5 := ext_cell k1
                                        have r6 := ext_cell k2
                                        have r7 := ext_cell k3
                                        clear HX hAh
                                        cases M with
                                        | false =>
                                          have HR := Lib.hid (HREL.out.no (by rw [setB_sett, ← HM.out]; rfl))
                                          clear h0 h1 hB14 hN14 k0 k1 k2 k3 HREL
                                          go_wp2_with fail
                                          refine wp_region_ext (by kernel_rfl) (by kernel_rfl) ?_
                                          repeat (go_big_quiet_step (fail))
                                          refine wpQuiet_nil ?_
                                          refine ext_all ?_
                                          intro w15 hx15
                                          clear r0 r1 r2 r3 r4 r5 r6 r7
                                          go_wp2_with fail
                                          go_meet
                                          exact ⟨none, 0, by rw [HR.out.1], by rw [HR.out.2]; rfl, Lib.hid (by rw [HR.out.2]; exact BdsAt.nil _ _), hx15⟩
                                        | true =>
                                          cases hmt : mayB t with
                                          | false =>
                                            have HR := Lib.hid (HREL.out.no (by rw [setB_sett, hmt]; simp))
                                            have KT : Hid (∀ p : ExtOf w14, Calls Try.prog 19 #[t.val TA tc] p.to fun e w' => e = .returned (.bool false) ∧ Ext p.to w') := Lib.hid fun p => rterm_is (hTh.ext p.is) hth hmt
                                            clear h0 h1 hB14 hN14 k0 k1 k2 k3 HREL hmt
                                            go_wp2_with fail
                                            refine wp_region_ext (by kernel_rfl) (by kernel_rfl) ?_
                                            repeat (go_big_quiet_step ((go_at_call 19; exact of_ext (KT.out _))))
                                            refine wpQuiet_nil ?_
                                            refine ext_all ?_
                                            intro w15 hx15
                                            clear r0 r1 r2 r3 r4 r5 r6 r7 KT
                                            go_wp2_with fail
                                            go_meet
                                            exact ⟨none, 0, by rw [HR.out.1], by rw [HR.out.2]; rfl, Lib.hid (by rw [HR.out.2]; exact BdsAt.nil _ _), hx15⟩
                                          | true =>
                                            have KT : Hid (∀ p : ExtOf w14, Calls Try.prog 19 #[t.val TA tc] p.to fun e w' => e = .returned (.bool true) ∧ Ext p.to w') := Lib.hid fun p => rterm_is (hTh.ext p.is) hth hmt
                                            have KX : Hid (∀ p : ExtOf w14, Calls Try.prog 45 #[.slice LA aa.length lc, .string sn, t.val TA tc] p.to fun e w' => e = .returned (.bool (settB aa sn t)) ∧ Ext p.to w') := Lib.hid fun p => Settable_any aa sn t LA TA lc tc p.to hla hsz hmt (hBh.ext p.is) (hTh.ext p.is)
                                            cases hst : settB aa sn t with
                                            | false =>
                                              have HR := Lib.hid (HREL.out.no (by rw [setB_sett, hst]; simp))
                                              rw [hst] at KX
                                              clear h0 h1 hB14 hN14 k0 k1 k2 k3 HREL hmt hst
                                              go_wp2_with fail
                                              refine wp_region_ext (by kernel_rfl) (by kernel_rfl) ?_
                                              repeat (go_big_quiet_step (first | (go_at_call 19; exact of_ext (KT.out _)) | (go_at_call 45; exact of_ext (KX.out _))))
                                              refine wpQuiet_nil ?_
                                              refine ext_all ?_
                                              intro w15 hx15
                                              clear r0 r1 r2 r3 r4 r5 r6 r7 KT KX
                                              go_wp2_with fail
                                              go_meet
                                              exact ⟨none, 0, by rw [HR.out.1], by rw [HR.out.2]; rfl, Lib.hid (by rw [HR.out.2]; exact BdsAt.nil _ _), hx15⟩
                                            | true =>
                                              rw [hst] at KX
                                              obtain ⟨p, hp, hcase⟩ := HREL.out.yes (by rw [setB_sett, ← HM.out, hmt, hst]; rfl)
                                              have HST := Lib.hid hst
                                              have HMT := Lib.hid hmt
                                              have HPP := Lib.hid hp
                                              have HCA := Lib.hid hcase
                                              clear hcase hp hmt hst HREL
                                              go_wp2_with fail
                                              refine wp_region_ext (by kernel_rfl) (by kernel_rfl) ?_
                                              repeat (go_big_quiet_step (first | (go_at_call 19; exact of_ext (KT.out _)) | (go_at_call 45; exact of_ext (KX.out _))))
                                              refine wpQuiet_nil ?_
                                              refine ext_all ?_
                                              intro w15 hx15
                                              clear r0 r1 r2 r3 r4 r5 r6 r7 KT KX
                                              have rulesI := fun (u : World) (z : Ext w15 u) => And.intro (z.cell (hx15.cell h0)) (And.intro (z.cell (hx15.cell h1)) (And.intro (z.cell (hx15.cell hB14)) (And.intro (z.cell (hx15.cell hN14)) (And.intro (z.cell (hx15.cell k0)) (And.intro (z.cell (hx15.cell k1)) (And.intro (z.cell (hx15.cell k2)) (z.cell (hx15.cell k3))))))))
                                              have hI0 := Ext.refl w15
                                              have hBi := hBh.ext hx15
                                              have hTi := hTh.ext hx15
                                              clear h0 h1 hB14 hN14 k0 k1 k2 k3
                                              rcases HCA.out with ⟨ho, eE, eL⟩ | ⟨ho, eE, eL⟩
                                              · have KP : Hid (∀ u, Ext w15 u → Calls Try.prog 46 #[.slice LA aa.length lc, .string sn, t.val TA tc] u fun e w' => ∃ A' c', e = .returned (.tuple #[.slice A' L.length c', .bool true]) ∧ Hid (BdsAt w' L A') ∧ Ext w15 w') := Lib.hid (by rw [eL]; exact fun u hu => rset_yes HM.out.symm HMT.out HST.out HPP.out ho hsz hBi hTi u hu)
                                                have HE := Lib.hid eE
                                                clear eE eL ho hBi hTi hBh hTh hBg
                                                go_wp2_with fail
                                                go_region_held3 (fun u => Ext w15 u) (first | assumption | exact hI0.drew | exact hS16)
                                                  ((go_at_call 46; refine (KP.out _ (by assumption)).mono ?_; rintro e16 w16 ⟨D, dc, rfl, HD, hS16⟩))
                                                all_goals
                                                  go_wp2_with fail
                                                  go_meet
                                                  exact ⟨D, dc, by rw [HE.out], rfl, HD, hx15.trans hS16⟩
                                              · have KP : Hid (∀ u, Ext w15 u → Calls Try.prog 46 #[.slice LA aa.length lc, .string sn, t.val TA tc] u fun e w' => ∃ A' n' c', e = .returned (.tuple #[.slice A' n' c', .bool false]) ∧ Ext w15 w') := Lib.hid fun u hu => rset_no HM.out.symm HMT.out HST.out HPP.out ho hsz hBi hTi u hu
                                                have HE := Lib.hid eE
                                                have HL := Lib.hid eL
                                                clear eE eL ho hBi hTi hBh hTh hBg
                                                go_wp2_with fail
                                                go_region_held3 (fun u => Ext w15 u) (first | assumption | exact hI0.drew | exact hS16)
                                                  ((go_at_call 46; refine (KP.out _ (by assumption)).mono ?_; rintro e16 w16 ⟨D, dn, dc, rfl, hS16⟩))
                                                all_goals
                                                  go_wp2_with fail
                                                  go_meet
                                                  exact ⟨none, 0, by rw [HE.out], by rw [HL.out]; rfl, Lib.hid (by rw [HL.out]; exact BdsAt.nil _ _), hx15.trans hS16⟩
                                    case rest =>
                                      as_aux_lemma =>
                                        obtain ⟨D, dc, rfl, rfl, HD, hxv⟩ := hcut
                                        obtain ⟨wv, rfl⟩ : ∃ wv : World, wv = wc := ⟨_, rfl⟩
                                        have HXv := Lib.hid (HX.out.ext hxv)
                                        have hXv := HXv.out.at_
                                        have hDv := HD.out
                                        have v0 := hxv.cell h0
                                        have vB := hxv.cell hB14
                                        have hAv := hAh.ext hxv
                                        have hBv := hBh.ext hxv
                                        have hsv := hS14.size
                                        have hsv2 := hxv.size
                                        clear HX HD h0 h1 hB14 hN14 k0 k1 k2 k3 hAh hBh hTh HREL
                                        go_wp2_with fail
                                        refine (num2_any _ _).mono ?_
                                        rintro e w15 ⟨rfl, rfl⟩
                                        go_wp2_with fail
                                        refine (eqBinds_any L L X D xc dc _ (by omega) (by omega) hXv hDv).mono ?_
                                        rintro e w16 ⟨rfl, hx16⟩
                                        rw [eqBs_refl]
                                        have v0' := hx16.cell v0
                                        have vB' := hx16.cell vB
                                        go_wp2_with fail
                                        refine (eqBinds_any aa aa A5 LA c5 lc _ hla hla (hAv.ext hx16) (hBv.ext hx16)).mono ?_
                                        rintro e w17 ⟨rfl, hx17⟩
                                        rw [eqBs_refl]
                                        have hxz : Ext wd w17 := ((hS14.trans hxv).trans hx16).trans hx17
                                        have hsz17 := ((hxv.trans hx16).trans hx17).size
                                        clear v0 vB v0' vB' hXv hDv hAv hBv
                                        go_wp2_with fail
                                        refine (spoilBs_any L X xc _ BX dX GX _ (by omega) (fun b hb => by have := hb.2; omega) ((HXv.out.ext hx16).ext hx17)).mono ?_
                                        rintro e w18 ⟨rfl, hc18⟩
                                        have hx18 : Ext wd w18 := Chg.ext_of hxz hc18 (fun b hb => hb.1)
                                        have u0 := hx18.cell g0
                                        have uB := hx18.cell gB
                                        clear hc18 HXv
                                        go_wp2_with fail
                                        refine (eqBinds_any aa aa A5 LA c5 lc _ hla hla (hAg.ext hx18) (hBg.ext hx18)).mono ?_
                                        rintro e w19 ⟨rfl, hx19⟩
                                        rw [eqBs_refl]
                                        go_wp2_with fail
                                        go_roundw
                                        case rel => exact ⟨j + 1, by omega, by go_num, hxd.trans (hx18.trans hx19)⟩
                                        case measure => simp [intOf]; omega
                          · by_cases hjl : j < ts.length
                            · have hj6' : decide ((j : Int) < 6) = false := decide_eq_false (by omega)
                              go_wp2_with fail
                              go_roundw
                              case rel => exact ⟨q + 1, by omega, by go_num, hxb.trans (hxb13.trans hxd)⟩
                              case measure => simp [intOf]; omega
                            · go_wp2_with fail
                              go_roundw
                              case rel => exact ⟨q + 1, by omega, by go_num, hxb.trans (hxb13.trans hxd)⟩
                              case measure => simp [intOf]; omega
              · by_cases hql : q < nm.length
                · have hq9' : decide ((q : Int) < 9) = false := decide_eq_false (by omega)
                  go_wp2_with fail
                  go_meet
                  exact hxb
                · go_wp2_with fail
                  go_meet
                  exact hxb
        case rest =>
          as_aux_lemma =>
            obtain ⟨wx, rfl⟩ : ∃ wx : World, wx = wc := ⟨_, rfl⟩
            have HC7 := hcut
            have q0r := hcut.cell p0r
            have q1r := hcut.cell p1r
            have qBr := hcut.cell cBr
            have hAq := hAr.ext hcut
            have hBq := hBr.ext hcut
            have hTq := hTr.ext hcut
            clear p0r p1r cBr hAr hBr hTr hNr
            go_wp2_with fail
            go_loopw [19] (fun kv wr => ∃ k : Nat, k ≤ ts.length ∧ kv = .int .i64 k ∧ Ext wx wr) (fun kv _ => ts.length - (intOf kv).toNat)
            case atStart => exact ⟨0, Nat.zero_le _, rfl, Ext.refl _⟩
            case round =>
              obtain ⟨j, hj, rfl, hxd⟩ := hrel
              obtain ⟨wd, rfl⟩ : ∃ wd : World, wd = wr := ⟨_, rfl⟩
              have g0 := hxd.cell q0r
              have g1 := hxd.cell q1r
              have gB := hxd.cell qBr
              have hAg := hAq.ext hxd
              have hBg := hBq.ext hxd
              have hTg := hTq.ext hxd
              by_cases hb3 : j < ts.length ∧ j < 6
              · obtain ⟨hjl, hj6⟩ := hb3
                have hj6' : decide ((j : Int) < 6) = true := decide_eq_true (by omega)
                obtain ⟨b3, o3, TA, tc, rfl, c0, c1, c2, c3, hTt⟩ := hTg.at_ hjl
                have hth := HTH.out j hjl
                have j0 : (0 : Int) ≤ (j : Int) := Int.natCast_nonneg _
                have j1 : (j : Int) < (ts.length : Int) := by omega
                generalize htj : ts[j] = t at *
                have HTJ := Lib.hid htj
                clear htj
                go_upto_region 45 with (go_at_call 49; refine (Apply_all aa t A5 TA c5 tc _ hla hAg hTt).mono ?_; rintro e8 w8 ⟨A8, c8, rfl, hO8, hx8⟩)
                obtain ⟨w9, hw9⟩ : ∃ w9, w9 = w8.alloc (.cells #[.int .i64 (applyT aa t).kind, .string (applyT aa t).name, .int .i64 (applyT aa t).n, .slice A8 (applyT aa t).args.length c8] 28) := ⟨_, rfl⟩
                rw [← hw9]
                have hx89 : Ext w8 w9 := by rw [hw9]; exact (Ext.refl w8).alloc _
                have HI8 : Hid (InBox w9 w8.heap.size (applyT aa t)) := Lib.hid ⟨A8, c8, by rw [hw9]; exact ⟨by go_simp, by go_simp, by go_simp, by go_simp⟩, hO8.at_.ext hx89⟩
                have hs9 : w8.heap.size < w9.heap.size := by rw [hw9]; simp
                clear hw9 hO8
                go_cut [23] (fun v wy => v = .pointer (some ⟨w9.heap.size, 0, none⟩) ∧ wy = w9.alloc zObj)
                case first =>
                  as_aux_lemma =>
                    go_wp2_with fail
                    go_meet
                    exact ⟨rfl, rfl⟩
                case rest =>
                  as_aux_lemma =>
                    obtain ⟨rfl, hwy⟩ := hcut
                    obtain ⟨w10, rfl⟩ : ∃ w10 : World, w10 = wc := ⟨_, rfl⟩
                    have hx910 : Ext w9 w10 := by rw [hwy]; exact (Ext.refl w9).alloc _
                    have HBX : Hid (Box4 w10 w9.heap.size (.int .i64 0) (.string ⟨#[]⟩) (.int .i64 0) (.slice none 0 0)) := Lib.hid (by rw [hwy]; exact Box4.new w9 _ _ _ _)
                    have hs10 : w9.heap.size < w10.heap.size := by rw [hwy]; simp
                    have hxd10 := (hx8.trans hx89).trans hx910
                    have hsd := (hx8.trans hx89).size
                    have d0 := hxd10.cell g0
                    have d1 := hxd10.cell g1
                    have dB := hxd10.cell gB
                    have m0 := hxd10.cell c0
                    have m1 := hxd10.cell c1
                    have m2 := hxd10.cell c2
                    have m3 := hxd10.cell c3
                    have hBd := hBg.ext hxd10
                    have hTd := hTt.ext hxd10
                    clear hwy
                    rename_i hKK
                    refine hKK _ _ ?_
                    go_step
                    clear hKK
                    go_cut [22] (fun v22 wy => v22 = .int .i64 (applyE aa t) ∧ Hid (InBox wy w9.heap.size (applyT aa t)) ∧ Chg (fun x => x = w9.heap.size) w10 wy)
                    case first =>
                      as_aux_lemma =>
                        cases M with
                        | false =>
                          have HG := Lib.hid (apply_no (bs := aa) (t := t) (by rw [← HM.out]; rfl))
                          have HNB : Hid (InBox w10 w9.heap.size noTm) := Lib.hid HBX.out.none_
                          clear HBX d0 d1 dB m0 m1 m2 m3
                          go_wp2_with fail
                          go_meet
                          exact ⟨by rw [HG.out.1], by rw [HG.out.2]; exact HNB, Chg.refl _ _⟩
                        | true =>
                          cases hmt : mayB t with
                          | false =>
                            have HG := Lib.hid (apply_no (bs := aa) (t := t) (by rw [hmt, Bool.and_false]))
                            have KT := Lib.hid (rterm_is (w := w10) hTd hth hmt)
                            have HNB : Hid (InBox w10 w9.heap.size noTm) := Lib.hid HBX.out.none_
                            clear HBX hmt
                            go_wp2_with fail
                            refine KT.out.mono ?_
                            rintro e w11 ⟨rfl, hx11⟩
                            have HNB2 := Lib.hid (HNB.out.ext hx11)
                            clear KT d0 d1 dB m0 m1 m2 m3
                            go_wp2_with fail
                            go_meet
                            exact ⟨by rw [HG.out.1], by rw [HG.out.2]; exact HNB2, Chg.of_ext hx11⟩
                          | true =>
                            have KT := Lib.hid (rterm_is (w := w10) hTd hth hmt)
                            have HMT := Lib.hid hmt
                            clear hmt
                            go_wp2_with fail
                            refine KT.out.mono ?_
                            rintro e w11 ⟨rfl, hx11⟩
                            have rulesI := fun (u : World) (z : Ext w11 u) => And.intro (z.cell (hx11.cell d0)) (And.intro (z.cell (hx11.cell d1)) (And.intro (z.cell (hx11.cell dB)) (And.intro (z.cell (hx11.cell m0)) (And.intro (z.cell (hx11.cell m1)) (And.intro (z.cell (hx11.cell m2)) (z.cell (hx11.cell m3)))))))
                            have hI0 := Ext.refl w11
                            have KA := Lib.hid (fun u hu => rap_A (lc := lc) HM.out.symm hla HMT.out (hBd.ext hx11) (hTd.ext hx11) u hu)
                            have KB := Lib.hid (fun u hu => rap_B (lc := lc) HM.out.symm hla HMT.out (hBd.ext hx11) (hTd.ext hx11) u hu)
                            have hs11 := hx11.size
                            clear KT d0 d1 dB m0 m1 m2 m3 hTt hBg hTg hBq hTq hTd hBd
                            go_upto_region 48 with (fail)
                            go_cut [24, 25] (fun p24 v25 wx => ∃ (g : Nat) (A1 : Option Addr) (c1 : Nat), p24 = .pointer (some ⟨g, 0, none⟩) ∧ v25 = .bool (mayB (repT aa t)) ∧ w9.heap.size < g ∧ Hid (wx.cell? ⟨g, 0, none⟩ = some (.int .i64 (applyT aa t).kind) ∧ wx.cell? ⟨g, 1, none⟩ = some (.string (applyT aa t).name) ∧
                                wx.cell? ⟨g, 2, none⟩ = some (.int .i64 (applyT aa t).n) ∧ wx.cell? ⟨g, 3, none⟩ = some (.slice A1 (applyT aa t).args.length c1)) ∧ Hid (TmHi wx w11.heap.size (applyT aa t) A1 c1) ∧ Ext w11 wx)
                            case first =>
                              as_aux_lemma =>
                                go_region_held3 (fun u => Ext w11 u) (first | assumption | exact hI0.drew | exact Ext.alloc hI0.drew _ | exact (Ext.alloc hI0 _).drew | exact hS5 | exact Ext.alloc hS5 _ | exact Ext.setCell (Ext.setCell (Ext.setCell (Ext.setCell hS5 (Nat.le_refl _) _) (Nat.le_refl _) _) (Nat.le_refl _) _) (Nat.le_refl _) _)
                                  (first
                                    | (go_at_call 50; refine (KB.out _ ?_).mono ?_; (first | exact Ext.refl _ | exact (Ext.refl _).drew); rintro e5 w5 ⟨A1, c1, rfl, hO5, hS5, y0, y1, y2, y3, z0, z1, z2, z3⟩)
                                    | (go_at_call 50; refine (KA.out _ (by assumption)).mono ?_; rintro e5 w5 ⟨A1, c1, rfl, hO5, hS5⟩))
                                · have hs5 := hS5.size
                                  go_wp2_with fail
                                  go_meet
                                  exact ⟨w5.heap.size, A1, c1, rfl, rfl, by omega, Lib.hid ⟨by go_simp, by go_simp, by go_simp, by go_simp⟩, Lib.hid (hO5.out.ext ((Ext.refl _).alloc _)), hS5.alloc _⟩
                                · have HC := Lib.hid (set4_cells (o := 0) (.int .i64 (applyT aa t).kind) (.string (applyT aa t).name) (.int .i64 (applyT aa t).n) (.slice A1 (applyT aa t).args.length c1) y0 y1 y2 y3)
                                  go_wp2_with fail
                                  go_meet
                                  exact ⟨w11.heap.size, A1, c1, rfl, rfl, by omega, HC, Lib.hid ((hO5.out.keep fun k hk _ => set4_block w5 w11.heap.size 0 _ _ _ _ k (by omega)).weak (by omega)), Chg.ext_of hS5 (set4_chg w5 w11.heap.size 0 _ _ _ _ (F := fun x => x = w11.heap.size) rfl) (fun b hb => by omega)⟩
                            case rest =>
                              as_aux_lemma =>
                                obtain ⟨g, A1, c1, rfl, rfl, hg9, HC4, HT4, hx4⟩ := hcut
                                obtain ⟨wx4, rfl⟩ : ∃ wx4 : World, wx4 = wc := ⟨_, rfl⟩
                                have hx104 := hx11.trans hx4
                                have hAE := applyE_yes (bs := aa) (t := t) HM.out.symm HMT.out
                                cases hmr : mayB (repT aa t) with
                                | false =>
                                  have HG : Hid (applyE aa t = 2 ∧ applyT aa t = noTm) := Lib.hid ⟨by rw [hAE, if_neg (by rw [hmr]; exact Bool.false_ne_true)], applyT_no hmr⟩
                                  have HNB : Hid (InBox wx4 w9.heap.size noTm) := Lib.hid (HBX.out.none_.ext hx104)
                                  clear HBX hmr hAE rulesI KA KB HC4 HT4
                                  go_wp2_with fail
                                  go_meet
                                  exact ⟨by rw [HG.out.1], by rw [HG.out.2]; exact HNB, Chg.of_ext hx104⟩
                                | true =>
                                  have HG : Hid (applyE aa t = 0) := Lib.hid (by rw [hAE, if_pos hmr])
                                  obtain ⟨x0, x1, x2, x3, f0, f1, f2, f3⟩ := HBX.out.ext hx104
                                  obtain ⟨s0, s1, s2, s3⟩ := HC4.out
                                  have ng : ¬ g = w9.heap.size := by omega
                                  have rulesJ := fun (u : World) (z : Chg (fun x => x = w9.heap.size) wx4 u) => And.intro (z.cell s0 ng) (And.intro (z.cell s1 ng) (And.intro (z.cell s2 ng) (z.cell s3 ng)))
                                  have hC0 := Chg.refl (fun x => x = w9.heap.size) wx4
                                  clear HBX hmr hAE rulesI KA KB HC4 s0 s1 s2 s3
                                  go_wp2_with fail
                                  go_region_held3 (fun u => Chg (fun x => x = w9.heap.size) wx4 u) (first | assumption | exact hC0.drew | exact Chg.setCell (Chg.setCell (Chg.setCell (Chg.setCell hC0.drew rfl _) rfl _) rfl _) rfl _ | exact (Chg.setCell (Chg.setCell (Chg.setCell (Chg.setCell hC0 rfl _) rfl _) rfl _) rfl _).drew) (fail)
                                  all_goals
                                    have hc1 := Chg.setCell (Chg.setCell (Chg.setCell (Chg.setCell hC0.drew (g := w9.heap.size) (o := 0) rfl (.int .i64 (applyT aa t).kind)) (g := w9.heap.size) (o := 1) rfl (.string (applyT aa t).name)) (g := w9.heap.size) (o := 2) rfl (.int .i64 (applyT aa t).n)) (g := w9.heap.size) (o := 3) rfl (.slice A1 (applyT aa t).args.length c1)
                                    have HIB : Hid (InBox ((((wx4.drew.setCell ⟨w9.heap.size, 0, none⟩ (.int .i64 (applyT aa t).kind)).setCell ⟨w9.heap.size, 1, none⟩ (.string (applyT aa t).name)).setCell ⟨w9.heap.size, 2, none⟩ (.int .i64 (applyT aa t).n)).setCell ⟨w9.heap.size, 3, none⟩ (.slice A1 (applyT aa t).args.length c1)) w9.heap.size (applyT aa t)) := Lib.hid ⟨A1, c1, ⟨by go_simp, by go_simp, by go_simp, by go_simp⟩, (HT4.out.keep fun b hb hb2 => hc1.block b hb2 (by omega)).at_⟩
                                    clear rulesJ x0 x1 x2 x3 f0 f1 f2 f3
                                    go_wp2_with fail
                                    go_meet
                                    exact ⟨by rw [HG.out], HIB, (Chg.of_ext hx104).trans hc1⟩
                    case rest =>
                      as_aux_lemma =>
                        obtain ⟨rfl, HWB, hch⟩ := hcut
                        obtain ⟨wy, rfl⟩ : ∃ wy : World, wy = wc := ⟨_, rfl⟩
                        have hx9y : Ext w9 wy := Chg.ext_of hx910 hch (fun b hb => by omega)
                        have hxdy : Ext wd wy := (hx8.trans hx89).trans hx9y
                        obtain ⟨A8', c8', ⟨y0, y1, y2, y3⟩, hT8⟩ := HI8.out.ext hx9y
                        obtain ⟨A11, c11, ⟨z0, z1, z2, z3⟩, hT11⟩ := HWB.out
                        clear HWB HI8 HBX d0 d1 dB m0 m1 m2 m3 hBd hTd hch
                        go_wp2_with fail
                        refine (num2_any _ _).mono ?_
                        rintro e w12 ⟨rfl, rfl⟩
                        go_wp2_with fail
                        refine (EqTerm_self (applyT aa t) A8' A11 c8' c11 _ hT8 hT11).mono ?_
                        rintro e w13 ⟨rfl, hx13⟩
                        go_wp2_with fail
                        go_roundw
                        case rel => exact ⟨j + 1, by omega, by go_num, hxd.trans (hxdy.trans hx13)⟩
                        case measure => simp [intOf]; omega
              · by_cases hjl : j < ts.length
                · have hj6' : decide ((j : Int) < 6) = false := decide_eq_false (by omega)
                  go_wp2_with fail
                  go_roundw
                  case rel => exact ⟨i + 1, by omega, by go_num, hx37.trans (HC7.trans hxd)⟩
                  case measure => simp [intOf]; omega
                · go_wp2_with fail
                  go_roundw
                  case rel => exact ⟨i + 1, by omega, by go_num, hx37.trans (HC7.trans hxd)⟩
                  case measure => simp [intOf]; omega
      · by_cases hlt : i < Bs.length
        · have h6' : decide ((i : Int) < 6) = false := decide_eq_false (by omega)
          go_wp2_with fail
          refine (wakes2_any _).mono ?_
          rintro e9 w9 ⟨rfl, hx9⟩
          go_wp2_with fail
          go_ret
          exact ⟨rfl, ((hx01.trans hx3).trans hxa).trans hx9⟩
        · go_wp2_with fail
          refine (wakes2_any _).mono ?_
          rintro e9 w9 ⟨rfl, hx9⟩
          go_wp2_with fail
          go_ret
          exact ⟨rfl, ((hx01.trans hx3).trans hxa).trans hx9⟩
end Go.Proofs.Ytagkimcbllpnkaa
