/- bind.Apply of what may be. -/
import Derived.Test.YtnkfchniagdigaaApl
namespace Go.Proofs.Ytnkfchniagdigaa
open Go.RowKit Go.Maps

abbrev zObj : Obj := .cells #[.int .i64 0, .string ⟨#[]⟩, .int .i64 0, .slice none 0 0] 28

section
variable {bs : List Bd} {t : Tm} {LA A : Option Addr} {lc c : Nat} {wi : World}
theorem ap_PA (hL : BdsAt wi bs LA) (hn : Short bs) (ll : bs.length ≤ 1000000) (u : World) (hu : Ext wi u) :
    Calls Try.prog 92 #[.slice LA bs.length lc] u fun e w' => ∃ b, e = .returned (.map (some b)) ∧ PlAt w' b bs bs.length ∧ Ext wi w' :=
  (placesOf_any bs LA lc u (hL.ext hu) hn ll).mono fun _ _ ⟨b, he, hP, _, hx⟩ => ⟨b, he, hP, hu.trans hx⟩
theorem ap_PB (hL : BdsAt wi bs LA) (hn : Short bs) (ll : bs.length ≤ 1000000) (u : World) (hu : Ext (wi.alloc zObj) u) :
    Calls Try.prog 92 #[.slice LA bs.length lc] u fun e w' => ∃ b, e = .returned (.map (some b)) ∧ PlAt w' b bs bs.length ∧ Ext wi w' ∧ Hid (Ext (wi.alloc zObj) w') :=
  (placesOf_any bs LA lc u (hL.ext (((Ext.refl _).alloc _).trans hu)) hn ll).mono fun _ _ ⟨b, he, hP, _, hx⟩ => ⟨b, he, hP, (((Ext.refl _).alloc _).trans hu).trans hx, Lib.hid (hu.trans hx)⟩
theorem ap_RA (hL : BdsAt wi bs LA) (hn : Short bs) (hb : AllB bs) (ll : bs.length ≤ 1000000) (ha : allP t) (h : TmAt wi t A c) (u : World) (b : Nat) (hu : Ext wi u) (hP : PlAt u b bs bs.length) :
    Calls Try.prog 95 #[t.val A c, .slice LA bs.length lc, .map (some b)] u fun e w' => ∃ A' c', e = .returned ((repT bs t).val A' c') ∧ TmOwn w' (repT bs t) A' c' (fun k => wi.heap.size ≤ k ∧ k < w'.heap.size) ∧ Ext wi w' :=
  (rep_any bs hn hb LA lc ll (.map (some b)) t A c u ha (h.ext hu) (.inr ⟨b, rfl, hP, hL.ext hu⟩)).mono fun _ _ ⟨A', c', he, hO, hx⟩ => ⟨A', c', he, hO.weak fun _ hk => ⟨Nat.le_trans hu.size hk.1, hk.2⟩, hu.trans hx⟩
/-- the place was made ahead of it all -/
theorem ap_RB1 (hL : BdsAt wi bs LA) (hn : Short bs) (hb : AllB bs) (ll : bs.length ≤ 1000000) (ha : allP t) (h : TmAt wi t A c) (u : World) (b : Nat) (hu : Hid (Ext (wi.alloc zObj) u)) (hP : PlAt u b bs bs.length) :
    Calls Try.prog 95 #[t.val A c, .slice LA bs.length lc, .map (some b)] u fun e w' => ∃ A' c', e = .returned ((repT bs t).val A' c') ∧ TmOwn w' (repT bs t) A' c' (fun k => wi.heap.size + 1 ≤ k ∧ k < w'.heap.size) ∧ Ext wi w' ∧ Box4 w' wi.heap.size (.int .i64 0) (.string ⟨#[]⟩) (.int .i64 0) (.slice none 0 0) := by
  have hx0 : Ext wi u := ((Ext.refl _).alloc _).trans hu.out
  have hsz : wi.heap.size + 1 ≤ u.heap.size := by have := hu.out.size; simpa using this
  exact (rep_any bs hn hb LA lc ll (.map (some b)) t A c u ha (h.ext hx0) (.inr ⟨b, rfl, hP, hL.ext hx0⟩)).mono fun _ _ ⟨A', c', he, hO, hx⟩ => ⟨A', c', he, hO.weak fun _ hk => ⟨Nat.le_trans hsz hk.1, hk.2⟩, hx0.trans hx, (Box4.new wi _ _ _ _).ext (hu.out.trans hx)⟩
/-- the place was made between -/
theorem ap_RB2 (hL : BdsAt wi bs LA) (hn : Short bs) (hb : AllB bs) (ll : bs.length ≤ 1000000) (ha : allP t) (h : TmAt wi t A c) (u : World) (b : Nat) (hu : Ext wi u) (hP : PlAt u b bs bs.length) :
    Calls Try.prog 95 #[t.val A c, .slice LA bs.length lc, .map (some b)] (u.alloc zObj) fun e w' => ∃ A' c', e = .returned ((repT bs t).val A' c') ∧ TmOwn w' (repT bs t) A' c' (fun k => u.heap.size + 1 ≤ k ∧ k < w'.heap.size) ∧ Ext wi w' ∧ Box4 w' u.heap.size (.int .i64 0) (.string ⟨#[]⟩) (.int .i64 0) (.slice none 0 0) := by
  have hx0 : Ext wi (u.alloc zObj) := hu.alloc _
  exact (rep_any bs hn hb LA lc ll (.map (some b)) t A c _ ha (h.ext hx0) (.inr ⟨b, rfl, hP.ext ((Ext.refl _).alloc _), hL.ext hx0⟩)).mono fun _ _ ⟨A', c', he, hO, hx⟩ => ⟨A', c', he, hO.weak fun _ hk => ⟨by have := hk.1; simp only [heap_size_alloc] at this; exact this, hk.2⟩, hx0.trans hx, (Box4.new u _ _ _ _).ext hx⟩
end

set_option maxRecDepth 100000 in
set_option maxHeartbeats 4000000 in
theorem Apply_may (bs : List Bd) (t : Tm) (LA A : Option Addr) (lc c : Nat) (w : World) (hL : BdsAt w bs LA) (h : TmAt w t A c) (hb : bindsB bs = true) (hm : mayB t = true) :
    Calls Try.prog 49 #[.slice LA bs.length lc, t.val A c] w (ApplyOut bs t w) := by
  have ll := binds_len hb
  have HN := Lib.hid (binds_short hb)
  have HA := Lib.hid (binds_all hb)
  have HT := Lib.hid (may_all hm)
  have HB := Lib.hid hb
  have HM := Lib.hid hm
  have hx0 := ((Ext.refl w).alloc (.cells #[.int .i64 t.kind, .string t.name, .int .i64 t.n, .slice A t.args.length c] 28)).alloc zObj
  clear hb hm
  go_enter Try.func49, Try.ntmps49
  go_wp2_with fail
  refine (bcheck_yes HB.out LA lc _ ll (hL.ext hx0)).mono ?_
  rintro e1 w1 ⟨rfl, hx1⟩
  have HB0 : Hid (Box4 w1 w.heap.size (.int .i64 t.kind) (.string t.name) (.int .i64 t.n) (.slice A t.args.length c)) := Lib.hid (Box4.ext ⟨by go_simp, by go_simp, by go_simp, by go_simp, by go_simp, by go_simp, by go_simp, by go_simp⟩ hx1)
  have HB1 : Hid (Box4 w1 (w.heap.size + 1) (.int .i64 0) (.string ⟨#[]⟩) (.int .i64 0) (.slice none 0 0)) := Lib.hid (Box4.ext ⟨by go_simp, by go_simp, by go_simp, by go_simp, by go_simp, by go_simp, by go_simp, by go_simp⟩ hx1)
  have hx01 := hx0.trans hx1
  obtain ⟨b0, b1, b2, b3, _, _, _, _⟩ := HB0.out
  clear hx1
  go_wp2_with fail
  refine (check_yes t A c _ (h.ext hx01) HM.out).mono ?_
  rintro e2 wi ⟨rfl, hx2⟩
  have hxi := hx01.trans hx2
  have HB0i := Lib.hid (HB0.out.ext hx2)
  have HB1i := Lib.hid (HB1.out.ext hx2)
  have hLi := hL.ext hxi
  have hTi := h.ext hxi
  clear b0 b1 b2 b3 HB0 HB1 hx2 hx01 hx0
  go_upto_region 3 with (fail)
  go_cut [6] (fun p6 wx => ∃ (g : Nat) (A1 : Option Addr) (c1 : Nat), p6 = .pointer (some ⟨g, 0, none⟩) ∧ Hid (wi.heap.size ≤ g ∧ wx.cell? ⟨g, 0, none⟩ = some (.int .i64 (repT bs t).kind) ∧ wx.cell? ⟨g, 1, none⟩ = some (.string (repT bs t).name) ∧
      wx.cell? ⟨g, 2, none⟩ = some (.int .i64 (repT bs t).n) ∧ wx.cell? ⟨g, 3, none⟩ = some (.slice A1 (repT bs t).args.length c1)) ∧ Hid (TmOwn wx (repT bs t) A1 c1 (fun k => wi.heap.size ≤ k ∧ k < wx.heap.size)) ∧ Ext wi wx)
  case first =>
    as_aux_lemma =>
      obtain ⟨n0, n1, n2, n3, _, _, _, _⟩ := HB0i.out
      have rulesI := fun (u : World) (k : Ext wi u) => And.intro (k.cell n0) (And.intro (k.cell n1) (And.intro (k.cell n2) (k.cell n3)))
      have hI0 := Ext.refl wi
      have PA := Lib.hid (fun u hu => ap_PA (lc := lc) hLi HN.out ll u hu)
      have PB := Lib.hid (fun u hu => ap_PB (lc := lc) hLi HN.out ll u hu)
      have RA := Lib.hid (fun u b hu hP => ap_RA (lc := lc) hLi HN.out HA.out ll HT.out hTi u b hu hP)
      have RB1 := Lib.hid (fun u b hu hP => ap_RB1 (lc := lc) hLi HN.out HA.out ll HT.out hTi u b hu hP)
      have RB2 := Lib.hid (fun u b hu hP => ap_RB2 (lc := lc) hLi HN.out HA.out ll HT.out hTi u b hu hP)
      clear n0 n1 n2 n3 HB0i HB1i hLi hTi hL h HN HA HT HB HM
      go_region_held3 (fun u => Ext wi u) (first | assumption | exact hI0.drew | exact Ext.alloc hI0.drew _ | exact (Ext.alloc hI0 _).drew | exact hS4 | exact Ext.alloc hS3 _ | exact Ext.alloc hS4 _ | exact (Ext.setCell (Ext.setCell (Ext.setCell (Ext.setCell hS4 (by first | exact Nat.le_refl _ | exact hS3.size) _) (by first | exact Nat.le_refl _ | exact hS3.size) _) (by first | exact Nat.le_refl _ | exact hS3.size) _) (by first | exact Nat.le_refl _ | exact hS3.size) _))
        (first
          | (go_at_call 92; refine (PB.out _ ?_).mono ?_; (first | exact Ext.refl _ | exact (Ext.refl _).drew); rintro e3 w3 ⟨b, rfl, hP, hS3, hAl⟩)
          | (go_at_call 92; refine (PA.out _ (by assumption)).mono ?_; rintro e3 w3 ⟨b, rfl, hP, hS3⟩)
          | (go_at_call 95; refine (RB2.out _ _ hS3 hP).mono ?_; rintro e5 w4 ⟨A1, c1, rfl, hO5, hS4, y0, y1, y2, y3, z0, z1, z2, z3⟩)
          | (go_at_call 95; refine (RB1.out _ _ hAl hP).mono ?_; rintro e5 w4 ⟨A1, c1, rfl, hO5, hS4, y0, y1, y2, y3, z0, z1, z2, z3⟩)
          | (go_at_call 95; refine (RA.out _ _ hS3 hP).mono ?_; rintro e5 w4 ⟨A1, c1, rfl, hO5, hS4⟩))
      · have hsz := hS4.size
        go_wp2_with fail
        go_meet
        refine ⟨w4.heap.size, A1, c1, rfl, Lib.hid ⟨hsz, by go_simp, by go_simp, by go_simp, by go_simp⟩, Lib.hid ((hO5.ext ((Ext.refl _).alloc _)).weak fun k hk => ⟨hk.1, ?_⟩), hS4.alloc _⟩
        simp only [heap_size_alloc]; omega
      · have hs3 := hS3.size
        have HC := Lib.hid (set4_cells (o := 0) (.int .i64 (repT bs t).kind) (.string (repT bs t).name) (.int .i64 (repT bs t).n) (.slice A1 (repT bs t).args.length c1) y0 y1 y2 y3)
        go_wp2_with fail
        go_meet
        refine ⟨w3.heap.size, A1, c1, rfl, Lib.hid ⟨hs3, HC.out⟩, Lib.hid ((hO5.keep fun k hk _ => set4_block w4 w3.heap.size 0 _ _ _ _ k (by omega)).weak fun k hk => ⟨by omega, ?_⟩), Chg.ext_of hS4 (set4_chg w4 w3.heap.size 0 _ _ _ _ (F := fun x => x = w3.heap.size) rfl) (fun b hb => by omega)⟩
        have := set4_size w4 w3.heap.size 0 (.int .i64 (repT bs t).kind) (.string (repT bs t).name) (.int .i64 (repT bs t).n) (.slice A1 (repT bs t).args.length c1)
        exact Nat.lt_of_lt_of_eq hk.2 this.symm
      · have HC := Lib.hid (set4_cells (o := 0) (.int .i64 (repT bs t).kind) (.string (repT bs t).name) (.int .i64 (repT bs t).n) (.slice A1 (repT bs t).args.length c1) y0 y1 y2 y3)
        go_wp2_with fail
        go_meet
        refine ⟨wi.heap.size, A1, c1, rfl, Lib.hid ⟨Nat.le_refl _, HC.out⟩, Lib.hid ((hO5.keep fun k hk _ => set4_block w4 wi.heap.size 0 _ _ _ _ k (by omega)).weak fun k hk => ⟨by omega, ?_⟩), Chg.ext_of hS4 (set4_chg w4 wi.heap.size 0 _ _ _ _ (F := fun x => x = wi.heap.size) rfl) (fun b hb => by omega)⟩
        have := set4_size w4 wi.heap.size 0 (.int .i64 (repT bs t).kind) (.string (repT bs t).name) (.int .i64 (repT bs t).n) (.slice A1 (repT bs t).args.length c1)
        exact Nat.lt_of_lt_of_eq hk.2 this.symm
  case rest =>
    as_aux_lemma =>
      obtain ⟨g, A1, c1, rfl, HG, HO, hxg⟩ := hcut
      obtain ⟨wx, rfl⟩ : ∃ wx : World, wx = wc := ⟨_, rfl⟩
      obtain ⟨hgi, n0, n1, n2, n3⟩ := HG.out
      have hTx := HO.out.at_
      have HBM : Hid ((bindsB bs && mayB t) = true) := Lib.hid (by rw [HB.out, HM.out]; rfl)
      have hsz : Hid (w.heap.size + 1 < wi.heap.size) := Lib.hid HB1i.out.lt
      clear HB HM HA HN HT hLi hTi hL h HB0i
      by_cases hr : mayB (repT bs t) = true
      · have R := Lib.hid hr
        clear hr
        go_wp2_with fail
        refine (check_yes (repT bs t) A1 c1 _ hTx R.out).mono ?_
        rintro e5 w5 ⟨rfl, hx5⟩
        have m0 := hx5.cell n0
        have m1 := hx5.cell n1
        have m2 := hx5.cell n2
        have m3 := hx5.cell n3
        obtain ⟨r0, r1, r2, r3, g0, g1, g2, g3⟩ := HB1i.out.ext (hxg.trans hx5)
        have HO5 := Lib.hid (HO.out.ext hx5)
        clear n0 n1 n2 n3 hTx HG hgi
        go_wp2_with fail
        have ET : Hid (applyT bs t = repT bs t) := Lib.hid (by unfold applyT; rw [if_pos HBM.out, if_pos R.out])
        have EE : Hid (applyE bs t = 0) := Lib.hid (by unfold applyE; rw [if_pos HBM.out, if_pos R.out])
        have hx05 := (hxi.trans hxg).trans hx5
        refine bodyPost_ret (v := .tuple #[(repT bs t).val A1 c1, .int .i64 0]) (by simp [results, Try.results49, go_sem, *]) rfl ⟨A1, c1, by rw [ET.out, EE.out], ?_, Chg.ext_of hx05 (set4_chg w5 (w.heap.size + 1) 0 _ _ _ _ (F := fun x => x = w.heap.size + 1) rfl) (fun b hb => by omega)⟩
        rw [ET.out]
        have hs := hxi.size
        have hs5 := hx5.size
        exact (HO5.out.weak (F' := fun k => wi.heap.size ≤ k ∧ k < w5.heap.size) fun k hk => ⟨hk.1, by omega⟩).answer (r := w.heap.size + 1) (B := w.heap.size) _ _ _ _ hsz.out hs rfl
      · have R := Lib.hid (not_true hr)
        clear hr
        go_wp2_with fail
        refine (check_no (repT bs t) A1 c1 _ hTx R.out).mono ?_
        rintro e5 w5 ⟨rfl, hx5⟩
        obtain ⟨r0, r1, r2, r3, g0, g1, g2, g3⟩ := HB1i.out.ext (hxg.trans hx5)
        clear n0 n1 n2 n3 hTx HG hgi
        go_wp2_with fail
        have ET : Hid (applyT bs t = noTm) := Lib.hid (by unfold applyT; rw [if_pos HBM.out, if_neg (by rw [R.out]; exact Bool.false_ne_true)])
        have EE : Hid (applyE bs t = 2) := Lib.hid (by unfold applyE; rw [if_pos HBM.out, if_neg (by rw [R.out]; exact Bool.false_ne_true)])
        have hx05 := (hxi.trans hxg).trans hx5
        refine bodyPost_ret (v := .tuple #[zeroTm, .int .i64 2]) (by simp [results, Try.results49, go_sem, *]) rfl ⟨none, 0, by rw [ET.out, EE.out]; rfl, ?_, Chg.ext_of hx05 (set4_chg w5 (w.heap.size + 1) 0 _ _ _ _ (F := fun x => x = w.heap.size + 1) rfl) (fun b hb => by omega)⟩
        rw [ET.out]
        exact TmOwn.leaf noTm_fits rfl _ _ _

theorem Apply_all (bs : List Bd) (t : Tm) (LA A : Option Addr) (lc c : Nat) (w : World) (hl : bs.length ≤ 1000000) (hL : BdsAt w bs LA) (h : TmAt w t A c) :
    Calls Try.prog 49 #[.slice LA bs.length lc, t.val A c] w (ApplyOut bs t w) := by
  by_cases hb : bindsB bs = true
  · by_cases hm : mayB t = true
    · exact Apply_may bs t LA A lc c w hL h hb hm
    · exact Apply_form bs t LA A lc c w hl hL h (.inr (not_true hm))
  · exact Apply_form bs t LA A lc c w hl hL h (.inl (not_true hb))
end Go.Proofs.Ytnkfchniagdigaa
