/- LexBlanks: the walk. -/
import Derived.Test.YtagkimcbllpnkaaDoorLbq
import Derived.BigRegion
import Derived.RegionTactic
namespace Go.Proofs.YtagkimcbllpnkaaDoor
open Go.RowKit Go.Maps

theorem rise_at {n : Nat} : ∀ {ts : List Tok} {a : Int}, Rise n a ts → ∀ k (h : k < ts.length), a ≤ ts[k].at_ ∧ ts[k].at_ ≤ n
  | t :: r, a, h, 0, _ => ⟨h.1, h.2.1⟩
  | t :: r, a, h, k + 1, hk => by
    have := rise_at h.2.2 k (by simpa using hk)
    exact ⟨by simp only [List.getElem_cons_succ]; have := h.1; omega, by simpa using this.2⟩
theorem rise_two {n : Nat} : ∀ {ts : List Tok} {a : Int}, Rise n a ts → ∀ k (h : k + 1 < ts.length), ts[k].at_ ≤ ts[k + 1].at_
  | t :: u :: r, a, h, 0, _ => h.2.2.1
  | t :: r, a, h, k + 1, hk => by
    have := rise_two h.2.2 k (by simpa using hk)
    simpa using this

section
variable {P : Program} {md : Region.Mode} {ops : Array Oper} {Q : Exit → Act → World → Prop} {S S' : World → Prop}
/-- an operation taken first, its slot named -/
theorem take_at {i : Nat} {oi : Oper} {d : Option Nat} {v : Value} {fuel : Nat} {listed : Array Bool} {a : Act} {w : World} (hi : ops[i]? = some oi) (hd : oi.dst = d)
    (hs : Region.noSelect ops = true) (hf : Region.free md ops listed i = true) (hr : (Region.ready md ops listed).contains i = true)
    (hQ : ∀ c a w, Q (.panic c) (a.put d v) w → Q (.panic c) a w) (hy : YieldsIf P ops S oi v a) (hS : S w)
    (h : wpAnyH P md ops Q S fuel (listed.setIfInBounds i true) (a.put d v) w) : wpAnyH P md ops Q S (fuel + 1) listed a w := by
  subst hd
  exact wpAnyH_take hi hs hf hr hQ hy hS h
/-- what is kept may be more from here on -/
theorem keep_more (hk : ∀ w, S' w → S w) : ∀ (fuel : Nat) (listed : Array Bool) (a : Act) (w : World), wpAnyH P md ops Q S' fuel listed a w → wpAnyH P md ops Q S fuel listed a w
  | 0, _, _, _, h => h
  | fuel + 1, _, _, _, h => ⟨h.1, fun i hi => wpOp_mono (fun a w h => ⟨hk w h.1, keep_more hk fuel _ a w h.2⟩) (h.2 i hi)⟩
end
/-- from word k on the row is as it was, and all of it may be written -/
def RowT (w : World) (g : Nat) (ts : List Tok) (k : Nat) : Prop :=
  (∀ i (h : i < ts.length), k ≤ i → w.cell? ⟨g, i * 4, none⟩ = some (.int .i64 ts[i].kind) ∧ w.cell? ⟨g, i * 4 + 1, none⟩ = some (.string ts[i].text) ∧
    w.cell? ⟨g, i * 4 + 2, none⟩ = some (.int .i64 ts[i].n) ∧ w.cell? ⟨g, i * 4 + 3, none⟩ = some (.int .i64 ts[i].at_)) ∧
  ∀ j, j < ts.length * 4 → w.frozen? ⟨g, j, none⟩ = false
theorem owned_row {w : World} {base : Nat} {v : Value} {ts : List Tok} (h : w.ownsRow base 37 4 v ts.length (tokCells ts)) (hp : 0 < ts.length) :
    ∃ g c, v = .slice (some ⟨g, 0, none⟩) ts.length c ∧ base ≤ g ∧ g < w.heap.size ∧ RowT w g ts 0 := by
  have hh := h
  rcases h.2 with ⟨_, h0⟩ | ⟨g, cap, cur, rfl, hbg, hw, hc, hcm, hcs, _⟩
  · omega
  · obtain ⟨A, c, e, _, hT⟩ := owned_toks hh
    injection e with e1 _ e3
    subst e1 e3
    refine ⟨g, cap, rfl, hbg, (Array.getElem?_eq_some_iff.1 hw).1, fun i hi _ => ?_, fun j hj => ?_⟩
    · obtain ⟨b, o, e, r⟩ := hT i hi
      injection e with e; injection e with e1 e2; subst e1 e2
      simp only [Nat.zero_add] at r
      exact r
    · simp [World.frozen?, hw]
theorem RowT.ext {w w' : World} {g : Nat} {ts : List Tok} {k : Nat} (h : RowT w g ts k) (hg : g < w.heap.size) (x : Ext w w') : RowT w' g ts k :=
  ⟨fun i hi hk => by obtain ⟨a, b, c, d⟩ := h.1 i hi hk; exact ⟨x.cell a, x.cell b, x.cell c, x.cell d⟩, fun j hj => (Below.frozen x hg).trans (h.2 j hj)⟩
theorem RowT.other {w : World} {g g' o : Nat} {ts : List Tok} {k : Nat} {v : Value} (h : RowT w g ts k) (hne : g ≠ g') : RowT (w.setCell ⟨g', o, none⟩ v) g ts k := by
  have e : (w.setCell ⟨g', o, none⟩ v).heap[g]? = w.heap[g]? := Below.heap_setCell _ _ _ _ hne
  exact ⟨fun i hi hk => by obtain ⟨a, b, c, d⟩ := h.1 i hi hk; exact ⟨cell_same e a, cell_same e b, cell_same e c, cell_same e d⟩, fun j hj => (World.frozen?_of_block (w := w) e).trans (h.2 j hj)⟩
theorem RowT.next {w : World} {g : Nat} {ts : List Tok} {k : Nat} {v : Value} (h : RowT w g ts k) : RowT (w.setCell ⟨g, k * 4 + 3, none⟩ v) g ts (k + 1) := by
  refine ⟨fun i hi hk => ?_, fun j hj => ?_⟩
  · obtain ⟨a, b, c, d⟩ := h.1 i hi (by omega)
    have ne : ∀ j, j < 4 → (⟨g, k * 4 + 3, none⟩ : Addr) ≠ ⟨g, i * 4 + j, none⟩ := fun j hj e => by injection e with _ e2; omega
    exact ⟨(World.cell?_setCell_other _ _ _ _ (ne 0 (by omega))).trans a, (World.cell?_setCell_other _ _ _ _ (ne 1 (by omega))).trans b, (World.cell?_setCell_other _ _ _ _ (ne 2 (by omega))).trans c, (World.cell?_setCell_other _ _ _ _ (ne 3 (by omega))).trans d⟩
  · rw [← h.2 j hj]; simp
theorem chg_cell {F : Nat → Prop} (w : World) (g o : Nat) (v : Value) (h : F g) : Chg F w (w.setCell ⟨g, o, none⟩ v) :=
  ⟨by simp [World.setCell], by simp [World.setCell], by simp [World.setCell], by simp [World.setCell], fun k _ hk => Below.heap_setCell _ _ _ _ (fun e => hk (e ▸ h))⟩
theorem set_two {w : World} {g1 g2 o o' : Nat} {c0 c1 c2 c3 d0 d1 d2 d3 : Value} (z : Value) (hne : g1 ≠ g2) (a0 : w.cell? ⟨g1, o, none⟩ = some c0) (a1 : w.cell? ⟨g1, o + 1, none⟩ = some c1) (a2 : w.cell? ⟨g1, o + 2, none⟩ = some c2) (a3 : w.cell? ⟨g1, o + 3, none⟩ = some c3)
    (b0 : w.cell? ⟨g2, o', none⟩ = some d0) (b1 : w.cell? ⟨g2, o' + 1, none⟩ = some d1) (b2 : w.cell? ⟨g2, o' + 2, none⟩ = some d2) (b3 : w.cell? ⟨g2, o' + 3, none⟩ = some d3) :
    ((w.setCell ⟨g1, o + 3, none⟩ z).setCell ⟨g2, o' + 3, none⟩ z).cell? ⟨g1, o, none⟩ = some c0 ∧ ((w.setCell ⟨g1, o + 3, none⟩ z).setCell ⟨g2, o' + 3, none⟩ z).cell? ⟨g1, o + 1, none⟩ = some c1 ∧
    ((w.setCell ⟨g1, o + 3, none⟩ z).setCell ⟨g2, o' + 3, none⟩ z).cell? ⟨g1, o + 2, none⟩ = some c2 ∧ ((w.setCell ⟨g1, o + 3, none⟩ z).setCell ⟨g2, o' + 3, none⟩ z).cell? ⟨g1, o + 3, none⟩ = some z ∧
    ((w.setCell ⟨g1, o + 3, none⟩ z).setCell ⟨g2, o' + 3, none⟩ z).cell? ⟨g2, o', none⟩ = some d0 ∧ ((w.setCell ⟨g1, o + 3, none⟩ z).setCell ⟨g2, o' + 3, none⟩ z).cell? ⟨g2, o' + 1, none⟩ = some d1 ∧
    ((w.setCell ⟨g1, o + 3, none⟩ z).setCell ⟨g2, o' + 3, none⟩ z).cell? ⟨g2, o' + 2, none⟩ = some d2 ∧ ((w.setCell ⟨g1, o + 3, none⟩ z).setCell ⟨g2, o' + 3, none⟩ z).cell? ⟨g2, o' + 3, none⟩ = some z := by
  have hne' := Ne.symm hne
  refine ⟨?_, ?_, ?_, ?_, ?_, ?_, ?_, ?_⟩ <;> go_simp
/-- what is put behind word k, as it lies -/
theorem blk_lit (k : Nat) : ∃ (r : Nat) (Z : ByteArray), (k : Int).tmod 4 = (r : Int) ∧ r < 4 ∧ Hid (Z.data.toList = blkK k) ∧ Z.size ≤ 11 ∧
    Hid (∀ u : World, (u.alloc (.cells #[.string ⟨#[32]⟩, .string ⟨#[10]⟩, .string ⟨#[9, 32, 37, 32, 114, 101, 109, 97, 114, 107, 10]⟩, .string ⟨#[13, 10, 32]⟩] 9)).cell? ⟨u.heap.size, r, none⟩ = some (.string Z)) := by
  have e : (k : Int).tmod 4 = ((k % 4 : Nat) : Int) := (Int.ofNat_tmod k 4).symm
  have h4 : k % 4 = 0 ∨ k % 4 = 1 ∨ k % 4 = 2 ∨ k % 4 = 3 := by omega
  rcases h4 with h | h | h | h
  · exact ⟨k % 4, ⟨#[32]⟩, e, by omega, Lib.hid (by unfold blkK; rw [h]; rfl), by decide, Lib.hid fun u => by rw [h]; go_simp⟩
  · exact ⟨k % 4, ⟨#[10]⟩, e, by omega, Lib.hid (by unfold blkK; rw [h]; rfl), by decide, Lib.hid fun u => by rw [h]; go_simp⟩
  · exact ⟨k % 4, ⟨#[9, 32, 37, 32, 114, 101, 109, 97, 114, 107, 10]⟩, e, by omega, Lib.hid (by unfold blkK; rw [h]; rfl), by decide, Lib.hid fun u => by rw [h]; go_simp⟩
  · exact ⟨k % 4, ⟨#[13, 10, 32]⟩, e, by omega, Lib.hid (by unfold blkK; rw [h]; rfl), by decide, Lib.hid fun u => by rw [h]; go_simp⟩
theorem z0_same {ts us : List Tok} (h : us.map z0 = ts.map z0) (i : Nat) (hi : i < ts.length) (hj : i < us.length) : us[i].kind = ts[i].kind ∧ us[i].text = ts[i].text ∧ us[i].n = ts[i].n := by
  have e : (us.map z0)[i]? = (ts.map z0)[i]? := by rw [h]
  rw [List.getElem?_map, List.getElem?_map, List.getElem?_eq_getElem hi, List.getElem?_eq_getElem hj] at e
  simp only [Option.map_some, Option.some.injEq, z0, Tok.mk.injEq] at e
  exact ⟨e.1, e.2.1, e.2.2.1⟩

set_option maxRecDepth 100000 in
set_option maxHeartbeats 4000000 in
theorem blanks_walk (ss : List ByteArray) (A : Option Addr) (c : Nat) (w : World) (hl : ss.length * 16 ≤ 140737488351232) (hS : StrsAt w ss A) (hC : ClsAt w) :
    Calls Tryd.prog 5 #[.agg #[.slice A ss.length c]] w fun e w' => e = .returned (.bool true) ∧ Ext w w' := by
  have hx0 : Ext w (w.alloc (.cells #[.slice A ss.length c] 24)) := (Ext.refl w).alloc _
  go_enter Tryd.func5, Tryd.ntmps5
  go_wp2_with fail
  refine (heavy_any ss A c _ hl (hS.ext hx0)).mono ?_
  rintro e1 w1 ⟨rfl, hx1⟩
  have hx01 := hx0.trans hx1
  have p0 : w1.cell? ⟨w.heap.size, 0, none⟩ = some (.slice A ss.length c) := hx1.cell (by go_simp)
  have hS1 := hS.ext hx01
  have hC1 := hC.ext hx01
  clear hx1 hx0
  cases hv : heavyB ss with
  | true =>
    go_wp2_with fail
    go_ret
    exact ⟨rfl, hx01⟩
  | false =>
    clear hv
    go_wp2_with fail
    go_loopw [3] (fun i wr => ∃ k : Nat, k ≤ ss.length ∧ i = .int .i64 k ∧ Ext w1 wr) (fun i _ => ss.length - (intOf i).toNat)
    case atStart => exact ⟨0, Nat.zero_le _, rfl, Ext.refl _⟩
    case round =>
      obtain ⟨i, hi, rfl, hxa⟩ := hrel
      have pa0 := hxa.cell p0
      obtain ⟨wa, rfl⟩ : ∃ wa : World, wa = wr := ⟨_, rfl⟩
      by_cases hboth : i < ss.length ∧ i < 8
      · obtain ⟨hlt, h8⟩ := hboth
        have h8' : decide ((i : Int) < 8) = true := decide_eq_true (by omega)
        have i0 : (0 : Int) ≤ (i : Int) := Int.natCast_nonneg _
        have i1 : (i : Int) < (ss.length : Int) := by omega
        obtain ⟨b, o, rfl, cS, hsz⟩ := (hS1.ext hxa) i hlt
        have hCa := hC1.ext hxa
        have K1 := Lib.hid (Tokens_any ss[i] wa hCa hCa.size hsz)
        generalize ss[i] = x at cS hsz K1
        go_wp2_with fail
        refine K1.out.mono ?_
        rintro e w2 ⟨v, base, rfl, hown, hba, hx2⟩
        obtain ⟨A1, c1, rfl, _, hT1⟩ := owned_toks hown
        have pb0 := hx2.cell pa0
        have cS2 := hx2.cell cS
        have HOWN := Lib.hid hown
        clear K1 hown
        go_wp2_with fail
        refine (num_any _ _).mono ?_
        rintro e w4 ⟨rfl, rfl⟩
        by_cases hgood : lexE x = 0 ∧ x.size ≤ 600
        · obtain ⟨hE, h600⟩ := hgood
          obtain ⟨hR, h4000, hRES⟩ := blanks_of hE h600
          have hlen := lexT_len x
          have hpos : 0 < (lexT x).length := by
            unfold lexT; rw [if_neg (by omega)]
            unfold lexE at hE; rw [if_neg (by omega)] at hE
            match hT : toksL x.size x.data.toList with
            | .inl (a, e) => rw [hT] at hE; exact absurd hE (toksL_err0 (Nat.le_refl _) hT)
            | .inr ts => obtain ⟨u, r, rfl⟩ := toksL_ne hT; simp
          have HR := Lib.hid hR
          have HRES := Lib.hid hRES
          have H4 := Lib.hid h4000
          have hn0 : (lexE x != 0) = false := by rw [hE]; rfl
          have hn6 : decide ((600 : Int) < (x.size : Int)) = false := decide_eq_false (by omega)
          have hnl : (((lexT x).length : Int) == 0) = false := beq_eq_false_iff_ne.2 (by omega)
          clear hR hRES h4000 hE
          generalize hts : lexT x = ts at *
          clear hts
          generalize lexE x = ex at *
          generalize lexA x = ax at *
          go_wp2_with fail
          go_loopw [7, 8] (fun sv kv wr => ∃ (k : Nat) (sx : ByteArray), k + 1 ≤ ts.length ∧ sv = .string sx ∧ kv = .int .i64 k ∧ Hid (sx.data.toList ++ bld x.data.toList k (ts.drop k) = bld x.data.toList 0 ts) ∧ Ext w2 wr) (fun _ kv _ => ts.length - (intOf kv).toNat)
          case atStart => exact ⟨0, ⟨#[]⟩, by omega, rfl, rfl, Lib.hid (by rw [List.drop_zero]; rfl), Ext.refl _⟩
          case round =>
            obtain ⟨k, sx, hk, rfl, rfl, HS, hxr⟩ := hrel
            obtain ⟨wb, rfl⟩ : ∃ wb : World, wb = wr := ⟨_, rfl⟩
            obtain ⟨m, hm⟩ : ∃ m, m = k + 1 := ⟨_, rfl⟩
            have hw1 : IntKind.i64.wrap ((k : Int) + 1) = (m : Int) := by rw [IntKind.wrap_i64]; omega
            by_cases hkm : m < ts.length
            · have hlk : decide ((m : Int) < (ts.length : Int)) = true := decide_eq_true (by omega)
              have hkl : k < ts.length := by omega
              obtain ⟨bt, ot, rfl, _, _, _, a3⟩ := (hT1.ext hxr) k hkl
              obtain ⟨bt', ot', e, _, _, _, b3⟩ := (hT1.ext hxr) m hkm
              injection e with e
              injection e with e1 e2
              subst e1 e2
              have hr1 := rise_at HR.out k hkl
              have hr2 := rise_at HR.out m hkm
              have hr3 : ts[k].at_ ≤ ts[m].at_ := by subst hm; exact rise_two HR.out k hkm
              have hsl := congrArg List.length HS.out
              rw [List.length_append] at hsl
              have h4 := H4.out
              have hsxz : sx.size ≤ 4000 := by
                have : sx.data.toList.length = sx.size := by rw [Array.length_toList]; rfl
                omega
              have HD : Hid (bld x.data.toList k (ts.drop k) = (x.data.toList.drop ts[k].at_.toNat).take (ts[m].at_ - ts[k].at_).toNat ++ blkK k ++ bld x.data.toList m (ts.drop m)) := Lib.hid (by
                subst hm
                rw [List.drop_eq_getElem_cons hkl, List.drop_eq_getElem_cons hkm, bld])
              generalize ts[k].at_ = p at *
              generalize ts[m].at_ = q at *
              obtain ⟨p', rfl⟩ := Int.eq_ofNat_of_zero_le hr1.1
              obtain ⟨q', rfl⟩ := Int.eq_ofNat_of_zero_le hr2.1
              have q0 : decide ((p' : Int) < 0) = false := decide_eq_false (by omega)
              have q1 : decide ((q' : Int) < (p' : Int)) = false := decide_eq_false (by omega)
              have q2 : decide ((x.size : Int) < (q' : Int)) = false := decide_eq_false (by omega)
              have q3 : decide (q' < p') = false := decide_eq_false (by omega)
              have q4 : decide (x.size < q') = false := decide_eq_false (by omega)
              have k0 : (0 : Int) ≤ (k : Int) := Int.natCast_nonneg _
              have k1 : (k : Int) < (ts.length : Int) := by omega
              have m0 : (0 : Int) ≤ (m : Int) := Int.natCast_nonneg _
              have m1 : (m : Int) < (ts.length : Int) := by omega
              have pc0 := hxr.cell pb0
              have cS3 := hxr.cell cS2
              have HM := Lib.hid hm
              clear hm hsl h4
              go_wp2_with fail
              go_quiet (fail)
              clear q0 q1 q2 q3 q4
              obtain ⟨wq, hwq⟩ : ∃ wq, wq = wb.drewN nq := ⟨_, rfl⟩
              have hxq : Ext wb wq := by rw [hwq]; exact (Ext.refl wb).drewN nq
              go_wp2_with fail
              rw [← hwq]
              have rulesI := fun (u : World) (z : Ext wq u) => And.intro (z.cell (hxq.cell pc0)) (And.intro (z.cell (hxq.cell cS3)) (And.intro (z.cell (hxq.cell a3)) (z.cell (hxq.cell b3))))
              have hI0 := Ext.refl wq
              have hxk := hxr.trans hxq
              have hpq : p' ≤ q' := by omega
              have hqx : q' ≤ x.size := by omega
              have hk4 : k % 4 = 0 ∨ k % 4 = 1 ∨ k % 4 = 2 ∨ k % 4 = 3 := by omega
              obtain ⟨r, Z, t4, hr4, HZ4, hZs, HZc⟩ := blk_lit k
              have e2 : ¬ 9223372036854775807 < sx.size + (q' - p') := by omega
              have e5 : ¬ 9223372036854775807 < sx.size + (q' - p') + Z.size := by omega
              have r0 : (0 : Int) ≤ (r : Int) := Int.natCast_nonneg _
              have r1 : (r : Int) < 4 := by omega
              clear pc0 cS3 a3 b3 hwq
              refine wp_region_held_drew (S := fun u => Ext wq u) (by kernel_rfl) hI0.drew (fun hHeld => ?_)
              refine take_at (i := 0) (d := some 95) (v := ?_) rfl rfl (by kernel_rfl) (by kernel_rfl) (by kernel_rfl) (fun _ _ _ h => h) (Or.inl ⟨by rfl, ?_⟩) (by assumption) ?_
              rotate_left
              (intro u hSu; (try dsimp only at hSu); go_simp <;> with_reducible rfl)
              simp only [Act.put, List.setIfInBounds_toArray, List.set_cons_zero, List.set_cons_succ]
              refine take_at (i := 1) (d := some 96) (v := ?_) rfl rfl (by kernel_rfl) (by kernel_rfl) (by kernel_rfl) (fun _ _ _ h => h) (Or.inl ⟨by rfl, ?_⟩) (by assumption) ?_
              rotate_left
              (intro u hSu; (try dsimp only at hSu); go_simp <;> with_reducible rfl)
              simp only [Act.put, List.setIfInBounds_toArray, List.set_cons_zero, List.set_cons_succ]
              refine take_at (i := 2) (d := some 97) (v := ?_) rfl rfl (by kernel_rfl) (by kernel_rfl) (by kernel_rfl) (fun _ _ _ h => h) (Or.inl ⟨by rfl, ?_⟩) (by assumption) ?_
              rotate_left
              (intro u hSu; (try dsimp only at hSu); go_simp <;> with_reducible rfl)
              simp only [Act.put, List.setIfInBounds_toArray, List.set_cons_zero, List.set_cons_succ]
              refine take_at (i := 3) (d := some 98) (v := ?_) rfl rfl (by kernel_rfl) (by kernel_rfl) (by kernel_rfl) (fun _ _ _ h => h) (Or.inl ⟨by rfl, ?_⟩) (by assumption) ?_
              rotate_left
              (intro u hSu; (try dsimp only at hSu); go_simp <;> with_reducible rfl)
              simp only [Act.put, List.setIfInBounds_toArray, List.set_cons_zero, List.set_cons_succ]
              refine take_at (i := 4) (d := some 99) (v := ?_) rfl rfl (by kernel_rfl) (by kernel_rfl) (by kernel_rfl) (fun _ _ _ h => h) (Or.inl ⟨by rfl, ?_⟩) (by assumption) ?_
              rotate_left
              (intro u hSu; (try dsimp only at hSu); go_simp <;> with_reducible rfl)
              simp only [Act.put, List.setIfInBounds_toArray, List.set_cons_zero, List.set_cons_succ]
              refine take_at (i := 5) (d := some 100) (v := ?_) rfl rfl (by kernel_rfl) (by kernel_rfl) (by kernel_rfl) (fun _ _ _ h => h) (Or.inl ⟨by rfl, ?_⟩) (by assumption) ?_
              rotate_left
              (intro u hSu; (try dsimp only at hSu); go_simp <;> with_reducible rfl)
              simp only [Act.put, List.setIfInBounds_toArray, List.set_cons_zero, List.set_cons_succ]
              refine take_at (i := 6) (d := some 101) (v := ?_) rfl rfl (by kernel_rfl) (by kernel_rfl) (by kernel_rfl) (fun _ _ _ h => h) (Or.inl ⟨by rfl, ?_⟩) (by assumption) ?_
              rotate_left
              (intro u hSu; (try dsimp only at hSu); go_simp <;> with_reducible rfl)
              simp only [Act.put, List.setIfInBounds_toArray, List.set_cons_zero, List.set_cons_succ]
              refine take_at (i := 7) (d := some 102) (v := ?_) rfl rfl (by kernel_rfl) (by kernel_rfl) (by kernel_rfl) (fun _ _ _ h => h) (Or.inl ⟨by rfl, ?_⟩) (by assumption) ?_
              rotate_left
              (intro u hSu; (try dsimp only at hSu); go_simp <;> with_reducible rfl)
              simp only [Act.put, List.setIfInBounds_toArray, List.set_cons_zero, List.set_cons_succ]
              refine take_at (i := 8) (d := some 103) (v := ?_) rfl rfl (by kernel_rfl) (by kernel_rfl) (by kernel_rfl) (fun _ _ _ h => h) (Or.inl ⟨by rfl, ?_⟩) (by assumption) ?_
              rotate_left
              (intro u hSu; (try dsimp only at hSu); go_simp <;> with_reducible rfl)
              simp only [Act.put, List.setIfInBounds_toArray, List.set_cons_zero, List.set_cons_succ]
              refine take_at (i := 9) (d := some 104) (v := ?_) rfl rfl (by kernel_rfl) (by kernel_rfl) (by kernel_rfl) (fun _ _ _ h => h) (Or.inl ⟨by rfl, ?_⟩) (by assumption) ?_
              rotate_left
              (intro u hSu; (try dsimp only at hSu); go_simp <;> with_reducible rfl)
              simp only [Act.put, List.setIfInBounds_toArray, List.set_cons_zero, List.set_cons_succ]
              refine take_at (i := 10) (d := some 105) (v := ?_) rfl rfl (by kernel_rfl) (by kernel_rfl) (by kernel_rfl) (fun _ _ _ h => h) (Or.inl ⟨by rfl, ?_⟩) (by assumption) ?_
              rotate_left
              (intro u hSu; (try dsimp only at hSu); go_simp <;> with_reducible rfl)
              simp only [Act.put, List.setIfInBounds_toArray, List.set_cons_zero, List.set_cons_succ]
              refine take_at (i := 11) (d := some 106) (v := ?_) rfl rfl (by kernel_rfl) (by kernel_rfl) (by kernel_rfl) (fun _ _ _ h => h) (Or.inl ⟨by rfl, ?_⟩) (by assumption) ?_
              rotate_left
              (intro u hSu; (try dsimp only at hSu); go_simp <;> with_reducible rfl)
              simp only [Act.put, List.setIfInBounds_toArray, List.set_cons_zero, List.set_cons_succ]
              refine take_at (i := 12) (d := some 107) (v := ?_) rfl rfl (by kernel_rfl) (by kernel_rfl) (by kernel_rfl) (fun _ _ _ h => h) (Or.inl ⟨by rfl, ?_⟩) (by assumption) ?_
              rotate_left
              (intro u hSu; (try dsimp only at hSu); go_simp <;> with_reducible rfl)
              simp only [Act.put, List.setIfInBounds_toArray, List.set_cons_zero, List.set_cons_succ]
              refine take_at (i := 13) (d := some 108) (v := ?_) rfl rfl (by kernel_rfl) (by kernel_rfl) (by kernel_rfl) (fun _ _ _ h => h) (Or.inl ⟨by rfl, ?_⟩) (by assumption) ?_
              rotate_left
              (intro u hSu; (try dsimp only at hSu); go_simp <;> with_reducible rfl)
              simp only [Act.put, List.setIfInBounds_toArray, List.set_cons_zero, List.set_cons_succ]
              refine take_at (i := 14) (d := some 109) (v := ?_) rfl rfl (by kernel_rfl) (by kernel_rfl) (by kernel_rfl) (fun _ _ _ h => h) (Or.inl ⟨by rfl, ?_⟩) (by assumption) ?_
              rotate_left
              (intro u hSu; (try dsimp only at hSu); go_simp <;> with_reducible rfl)
              simp only [Act.put, List.setIfInBounds_toArray, List.set_cons_zero, List.set_cons_succ]
              refine take_at (i := 15) (d := some 110) (v := ?_) rfl rfl (by kernel_rfl) (by kernel_rfl) (by kernel_rfl) (fun _ _ _ h => h) (Or.inl ⟨by rfl, ?_⟩) (by assumption) ?_
              rotate_left
              (intro u hSu; (try dsimp only at hSu); go_simp <;> with_reducible rfl)
              simp only [Act.put, List.setIfInBounds_toArray, List.set_cons_zero, List.set_cons_succ]
              refine take_at (i := 16) (d := some 111) (v := ?_) rfl rfl (by kernel_rfl) (by kernel_rfl) (by kernel_rfl) (fun _ _ _ h => h) (Or.inl ⟨by rfl, ?_⟩) (by assumption) ?_
              rotate_left
              (intro u hSu; (try dsimp only at hSu); go_simp <;> with_reducible rfl)
              simp only [Act.put, List.setIfInBounds_toArray, List.set_cons_zero, List.set_cons_succ]
              refine take_at (i := 17) (d := some 112) (v := ?_) rfl rfl (by kernel_rfl) (by kernel_rfl) (by kernel_rfl) (fun _ _ _ h => h) (Or.inl ⟨by rfl, ?_⟩) (by assumption) ?_
              rotate_left
              (intro u hSu; (try dsimp only at hSu); go_simp <;> with_reducible rfl)
              simp only [Act.put, List.setIfInBounds_toArray, List.set_cons_zero, List.set_cons_succ]
              refine take_at (i := 18) (d := some 113) (v := ?_) rfl rfl (by kernel_rfl) (by kernel_rfl) (by kernel_rfl) (fun _ _ _ h => h) (Or.inl ⟨by rfl, ?_⟩) (by assumption) ?_
              rotate_left
              (intro u hSu; (try dsimp only at hSu); go_simp <;> with_reducible rfl)
              simp only [Act.put, List.setIfInBounds_toArray, List.set_cons_zero, List.set_cons_succ]
              refine take_at (i := 20) (d := some 115) (v := ?_) rfl rfl (by kernel_rfl) (by kernel_rfl) (by kernel_rfl) (fun _ _ _ h => h) (Or.inl ⟨by rfl, ?_⟩) (by assumption) ?_
              rotate_left
              (intro u hSu; (try dsimp only at hSu); go_simp <;> with_reducible rfl)
              simp only [Act.put, List.setIfInBounds_toArray, List.set_cons_zero, List.set_cons_succ]
              refine take_at (i := 21) (d := some 116) (v := ?_) rfl rfl (by kernel_rfl) (by kernel_rfl) (by kernel_rfl) (fun _ _ _ h => h) (Or.inl ⟨by rfl, ?_⟩) (by assumption) ?_
              rotate_left
              (intro u hSu; (try dsimp only at hSu); go_simp <;> with_reducible rfl)
              simp only [Act.put, List.setIfInBounds_toArray, List.set_cons_zero, List.set_cons_succ]
              refine wpAnyH_ready (rs := [19]) (by kernel_rfl) (by simp) (AllReadyH.cons rfl (fun K hK => ?_) AllReadyH.nil)
              go_simp
              refine hK.out _ _ (hI0.alloc _).drew (fun _ => ?_)
              clear hK K
              have hZ0 := (Ext.refl _).drew.cell (HZc.out wq)
              have hxz := (hI0.alloc (.cells #[.string ⟨#[32]⟩, .string ⟨#[10]⟩, .string ⟨#[9, 32, 37, 32, 114, 101, 109, 97, 114, 107, 10]⟩, .string ⟨#[13, 10, 32]⟩] 9)).drew
              generalize (wq.alloc (.cells #[.string ⟨#[32]⟩, .string ⟨#[10]⟩, .string ⟨#[9, 32, 37, 32, 114, 101, 109, 97, 114, 107, 10]⟩, .string ⟨#[13, 10, 32]⟩] 9)).drew = wz at *
              have hHz : Ext wq wz ∧ wz.cell? ⟨wq.heap.size, r, none⟩ = some (.string Z) := ⟨hxz, hZ0⟩
              refine keep_more (S' := fun u => Ext wq u ∧ u.cell? ⟨wq.heap.size, r, none⟩ = some (.string Z)) (fun _ h => h.1) _ _ _ _ ?_
              clear rulesI
              refine take_at (i := 22) (d := some 117) (v := ?_) rfl rfl (by kernel_rfl) (by kernel_rfl) (by kernel_rfl) (fun _ _ _ h => h) (Or.inl ⟨by rfl, ?_⟩) (by assumption) ?_
              rotate_left
              (intro u hSu; (try dsimp only at hSu); go_split_ands; go_simp <;> with_reducible rfl)
              simp only [Act.put, List.setIfInBounds_toArray, List.set_cons_zero, List.set_cons_succ]
              refine take_at (i := 23) (d := some 118) (v := ?_) rfl rfl (by kernel_rfl) (by kernel_rfl) (by kernel_rfl) (fun _ _ _ h => h) (Or.inl ⟨by rfl, ?_⟩) (by assumption) ?_
              rotate_left
              (intro u hSu; (try dsimp only at hSu); go_split_ands; go_simp <;> with_reducible rfl)
              simp only [Act.put, List.setIfInBounds_toArray, List.set_cons_zero, List.set_cons_succ]
              refine take_at (i := 24) (d := some 119) (v := ?_) rfl rfl (by kernel_rfl) (by kernel_rfl) (by kernel_rfl) (fun _ _ _ h => h) (Or.inl ⟨by rfl, ?_⟩) (by assumption) ?_
              rotate_left
              (intro u hSu; (try dsimp only at hSu); go_split_ands; go_simp <;> with_reducible rfl)
              simp only [Act.put, List.setIfInBounds_toArray, List.set_cons_zero, List.set_cons_succ]
              refine take_at (i := 25) (d := some 7) (v := ?_) rfl rfl (by kernel_rfl) (by kernel_rfl) (by kernel_rfl) (fun _ _ _ h => h) (Or.inl ⟨by rfl, ?_⟩) (by assumption) ?_
              rotate_left
              (intro u hSu; (try dsimp only at hSu); go_split_ands; go_simp <;> with_reducible rfl)
              simp only [Act.put, List.setIfInBounds_toArray, List.set_cons_zero, List.set_cons_succ]
              refine wpAnyH_done (by kernel_rfl) ?_ _
              have HN : Hid ((sx ++ x.extract p' q' ++ Z).data.toList ++ bld x.data.toList m (ts.drop m) = bld x.data.toList 0 ts) := Lib.hid (by
                rw [← HS.out, HD.out, ← HZ4.out, ByteArray.data_append, ByteArray.data_append, Array.toList_append, Array.toList_append, ext_list]
                simp)
              clear HD HS HZ4 HZc hZ0 hHz e2 e5
              generalize sx ++ x.extract p' q' ++ Z = sy at *
              go_wp2_with fail
              go_roundw
              case rel => exact ⟨m, sy, by omega, rfl, by rw [← hw1], HN, hxk.trans hxz⟩
              case measure => have := HM.out; simp [intOf]; omega
            · have hkl : k < ts.length := by omega
              have hm' : decide ((m : Int) < (ts.length : Int)) = false := decide_eq_false (by omega)
              have HX : Hid (sx.data.toList = bld x.data.toList 0 ts) := Lib.hid (by
                have := HS.out
                rw [List.drop_eq_getElem_cons hkl, List.drop_eq_nil_of_le (by omega), bld, List.append_nil] at this
                · exact this
                · intros; simp_all)
              obtain ⟨hE2, hZ⟩ := HRES.out sx HX.out
              have hlen2 : (lexT sx).length = ts.length := by have := congrArg List.length hZ; simpa using this
              have hsl := congrArg List.length HX.out
              have h4 := H4.out
              have hsx : sx.size ≤ 140737488351232 := by
                have : sx.data.toList.length = sx.size := by rw [Array.length_toList]; rfl
                omega
              have hCb := (hCa.ext hx2).ext hxr
              have K2 := Lib.hid (Tokens_any sx wb hCb hCb.size hsx)
              rw [hE2] at K2
              have HZ := Lib.hid hZ
              obtain ⟨g1, d1, eA, hg1, hg1', hR1⟩ := owned_row HOWN.out hpos
              injection eA with eA1 _ eA3
              subst eA1 eA3
              have HR1 := Lib.hid (hR1.ext hg1' hxr)
              have hw2b := hxr.size
              have hw2a := hx2.size
              have hlm : (((lexT sx).length : Int) != (ts.length : Int)) = false := by rw [hlen2]; simp
              clear hE2 hZ hsl h4 HX HS hR1
              generalize lexT sx = us at *
              generalize lexA sx = ay at *
              go_wp2_with fail
              refine K2.out.mono ?_
              rintro e w5 ⟨v2, base2, rfl, hown2, hb2, hx5⟩
              obtain ⟨g2, d2, rfl, hg2, hg2', hR2⟩ := owned_row hown2 (by omega)
              have hne : g1 ≠ g2 := by omega
              have HR1' := Lib.hid (HR1.out.ext (by omega) hx5)
              have HR2 := Lib.hid hR2
              clear K2 hown2 HR1 hR2
              go_wp2_with fail
              refine (num_any _ _).mono ?_
              rintro e w6 ⟨rfl, rfl⟩
              go_wp2_with fail
              go_loopw [12] (fun iv wr => ∃ q : Nat, q ≤ ts.length ∧ iv = .int .i64 q ∧ Hid (RowT wr g1 ts q) ∧ Hid (RowT wr g2 us q) ∧ Chg (fun b => b = g1 ∨ b = g2) w5 wr) (fun iv _ => ts.length - (intOf iv).toNat)
              case atStart => exact ⟨0, Nat.zero_le _, rfl, HR1', HR2, Chg.refl _ _⟩
              case round =>
                obtain ⟨q, hq, rfl, HA, HB, hch⟩ := hrel
                obtain ⟨wd, rfl⟩ : ∃ wd : World, wd = wr := ⟨_, rfl⟩
                by_cases hqt : q < ts.length
                · obtain ⟨a0, a1, a2, a3⟩ := HA.out.1 q hqt (Nat.le_refl _)
                  obtain ⟨b0, b1, b2, b3⟩ := HB.out.1 q (by omega) (Nat.le_refl _)
                  obtain ⟨z1, z2, z3⟩ := z0_same HZ.out q hqt (by omega)
                  rw [z1] at b0; rw [z2] at b1; rw [z3] at b2
                  have f3 := HA.out.2 (q * 4 + 3) (by omega)
                  have g3 := HB.out.2 (q * 4 + 3) (by omega)
                  have q0 : (0 : Int) ≤ (q : Int) := Int.natCast_nonneg _
                  have q1 : (q : Int) < (ts.length : Int) := by omega
                  have q2 : (q : Int) < (us.length : Int) := by omega
                  clear z1 z2 z3
                  go_wp2_with fail
                  obtain ⟨x0, x1, x2, x3, y0, y1, y2, y3⟩ := set_two (.int .i64 0) hne a0 a1 a2 a3 b0 b1 b2 b3
                  have HA2 : Hid (RowT ((wd.setCell ⟨g1, q * 4 + 3, none⟩ (.int .i64 0)).setCell ⟨g2, q * 4 + 3, none⟩ (.int .i64 0)) g1 ts (q + 1)) := Lib.hid (RowT.other HA.out.next hne)
                  have HB2 : Hid (RowT ((wd.setCell ⟨g1, q * 4 + 3, none⟩ (.int .i64 0)).setCell ⟨g2, q * 4 + 3, none⟩ (.int .i64 0)) g2 us (q + 1)) := Lib.hid (RowT.next (RowT.other HB.out (Ne.symm hne)))
                  have hch2 : Chg (fun b => b = g1 ∨ b = g2) w5 ((wd.setCell ⟨g1, q * 4 + 3, none⟩ (.int .i64 0)).setCell ⟨g2, q * 4 + 3, none⟩ (.int .i64 0)) := hch.trans ((chg_cell wd g1 _ _ (.inl rfl)).trans (chg_cell _ g2 _ _ (.inr rfl)))
                  generalize (wd.setCell ⟨g1, q * 4 + 3, none⟩ (.int .i64 0)).setCell ⟨g2, q * 4 + 3, none⟩ (.int .i64 0) = wz at *
                  clear a0 a1 a2 a3 b0 b1 b2 b3 f3 g3 HA HB hch
                  go_quiet (fail)
                  go_wp2_with fail
                  go_roundw
                  case rel => exact ⟨q + 1, by omega, by go_num, Lib.hid (HA2.out.ext (Chg.size hch2 |> fun h => by omega) ((Ext.refl wz).drewN _)), Lib.hid (HB2.out.ext (Chg.size hch2 |> fun h => by omega) ((Ext.refl wz).drewN _)), hch2.trans (Chg.of_ext ((Ext.refl wz).drewN _))⟩
                  case measure => simp [intOf]; omega
                · go_wp2_with fail
                  go_roundw
                  case rel => exact ⟨i + 1, by omega, by go_num, hxa.trans (Chg.ext_of ((hx2.trans hxr).trans hx5) hch (fun b hb => by omega))⟩
                  case measure => simp [intOf]; omega
        · by_cases hE : lexE x = 0
          · have h6 : ¬ x.size ≤ 600 := fun h => hgood ⟨hE, h⟩
            have hn0 : (lexE x != 0) = false := by rw [hE]; rfl
            have hn6 : decide ((600 : Int) < (x.size : Int)) = true := decide_eq_true (by omega)
            clear hE hgood
            generalize lexE x = ex at *
            go_wp2_with fail
            go_roundw
            case rel => exact ⟨i + 1, by omega, by go_num, hxa.trans hx2⟩
            case measure => simp [intOf]; omega
          · have hn0 : (lexE x != 0) = true := by simp [hE]
            clear hE hgood
            generalize lexE x = ex at *
            go_wp2_with fail
            go_roundw
            case rel => exact ⟨i + 1, by omega, by go_num, hxa.trans hx2⟩
            case measure => simp [intOf]; omega
      · have hCa := hC1.ext hxa
        by_cases hlt : i < ss.length
        · have h8' : decide ((i : Int) < 8) = false := decide_eq_false (by omega)
          clear hboth
          go_wp2_with fail
          refine (wakes_any _ hCa).mono ?_
          rintro e w5 ⟨rfl, hx5⟩
          go_wp2_with fail
          go_ret
          exact ⟨rfl, hx01.trans (hxa.trans hx5)⟩
        · have hl' : decide ((i : Int) < (ss.length : Int)) = false := decide_eq_false (by omega)
          clear hboth
          go_wp2_with fail
          refine (wakes_any _ hCa).mono ?_
          rintro e w5 ⟨rfl, hx5⟩
          go_wp2_with fail
          go_ret
          exact ⟨rfl, hx01.trans (hxa.trans hx5)⟩
end Go.Proofs.YtagkimcbllpnkaaDoor
