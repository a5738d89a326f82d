/- WeaveSpans: its walk. -/
import Derived.Test.YtkdbdcpfmmbfpaaDoorWpa
import Derived.Test.YtkdbdcpfmmbfpaaDoorWvx
namespace Go.Proofs.YtkdbdcpfmmbfpaaDoor
open Go.RowKit Go.Maps

theorem and8191 (x : Int) : ∃ m : Nat, m < 8192 ∧ bits .and .i64 x 8191 = (m : Int) := by
  refine ⟨(BitVec.ofInt 64 x &&& BitVec.ofInt 64 8191).toNat, ?_, ?_⟩
  · rw [BitVec.toNat_and]
    exact Nat.lt_of_le_of_lt Nat.and_le_right (by decide)
  · show IntKind.i64.wrap ((BitVec.ofInt 64 x &&& BitVec.ofInt 64 8191).toNat : Int) = _
    have h : (BitVec.ofInt 64 x &&& BitVec.ofInt 64 8191).toNat < 8192 := by
      rw [BitVec.toNat_and]
      exact Nat.lt_of_le_of_lt Nat.and_le_right (by decide)
    rw [IntKind.wrap_i64] <;> omega
theorem Turn_nat (x : Nat) (hx : x < 8192) (w : World) : Calls Tryd.prog 25 #[.int .i64 (x : Int)] w fun e w' => e = .returned (.tuple #[.int .i64 (turnS x : Int), .int .i64 0]) ∧ Ext w w' := by
  have h := Turn_any x w
  have h1 : stB (x : Int) = true := by simp [stB]; omega
  have e1 : turnV x = (turnS x : Int) := by unfold turnV; rw [h1]; simp
  have e2 : listE x = 0 := by unfold listE; rw [h1]; rfl
  rwa [e1, e2] at h

/-- a small span -/
def toSp (x : Nat × Nat) : Sp := ((x.1 : Int), ((x.1 + 1 + x.2 : Nat) : Int))
theorem within_nat (x : Int) (n : Nat) (h0 : 0 < n) (h1 : n < 100) (w : World) : Calls Tryd.prog 33 #[.int .i64 x, .int .i64 (n : Int)] w fun e w' => ∃ f : Nat, f < n ∧ e = .returned (.int .i64 (f : Int)) ∧ w' = w := by
  refine (within_any x n h0 h1 w).mono fun e w' ⟨he, hw⟩ => ?_
  obtain ⟨b0, b1⟩ := win_bd x (n := (n : Int)) (by omega)
  exact ⟨(winI x n).toNat, by omega, by rw [he]; congr 2; omega, hw⟩
theorem within6 (x : Int) (w : World) : Calls Tryd.prog 33 #[.int .i64 x, .int .i64 6] w fun e w' => ∃ f : Nat, f < 6 ∧ e = .returned (.int .i64 (f : Int)) ∧ w' = w := within_nat x 6 (by decide) (by decide) w
theorem within4 (x : Int) (w : World) : Calls Tryd.prog 33 #[.int .i64 x, .int .i64 4] w fun e w' => ∃ f : Nat, f < 4 ∧ e = .returned (.int .i64 (f : Int)) ∧ w' = w := within_nat x 4 (by decide) (by decide) w
theorem within13 (x : Int) (w : World) : Calls Tryd.prog 33 #[.int .i64 x, .int .i64 13] w fun e w' => ∃ f : Nat, f < 13 ∧ e = .returned (.int .i64 (f : Int)) ∧ w' = w := within_nat x 13 (by decide) (by decide) w

theorem andNot_sub {X V : Nat} (h : Sub X V) : bits .andNot .i64 (X : Int) (V : Int) = 0 := by
  have e : BitVec.ofInt 64 (X : Int) &&& ~~~BitVec.ofInt 64 (V : Int) = 0#64 := by
    apply BitVec.eq_of_getLsbD_eq
    intro i hi
    rw [BitVec.getLsbD_and, BitVec.getLsbD_not, BitVec.ofInt_natCast, BitVec.ofInt_natCast, BitVec.getLsbD_ofNat, BitVec.getLsbD_ofNat, BitVec.getLsbD_zero]
    cases hx : X.testBit i with
    | false => simp
    | true => rw [h i hx]; simp [hi]
  show IntKind.i64.wrap ((BitVec.ofInt 64 (X : Int) &&& ~~~BitVec.ofInt 64 (V : Int)).toNat : Int) = 0
  rw [e]
  rfl
theorem shr_one {s k : Nat} (hs : s < 8192) (h : s.testBit k = true) : bits .and .i64 ((s : Int) / 2 ^ k) 1 = 1 := by
  have := shr_bit (k := k) hs
  rw [h] at this
  simpa using this
theorem net4 {W : List Nat} (hl : W.length = 16) (h8 : ∀ x ∈ W, x < 8192) : netB 4 (toI W) = true := by
  unfold netB
  rw [toI_len, hl]
  simp only [Bool.and_eq_true, decide_eq_true_iff, List.all_eq_true]
  refine ⟨⟨⟨by decide, by decide⟩, by decide⟩, fun x hx => ?_⟩
  obtain ⟨y, hy, rfl⟩ := List.mem_map.1 hx
  have := h8 y hy
  simp [stB]
  omega
/-- four spans in memory -/
def SpC (w : World) (gs : Nat) (ss : List (Nat × Nat)) : Prop := ∀ i, i < 4 → w.cell? ⟨gs, i * 2, none⟩ = some (.int .i64 ((spAt ss i).1 : Int)) ∧ w.cell? ⟨gs, i * 2 + 1, none⟩ = some (.int .i64 (((spAt ss i).1 + 1 + (spAt ss i).2 : Nat) : Int))
theorem SpC.ext {w w' : World} {gs : Nat} {ss : List (Nat × Nat)} (h : SpC w gs ss) (k : Ext w w') : SpC w' gs ss := fun i hi => ⟨k.cell (h i hi).1, k.cell (h i hi).2⟩
theorem spc_of {w : World} {base : Nat} {v : Value} {ss : List (Nat × Nat)} (h : w.ownsRow base 52 2 v 4 (spCells (ss.map toSp))) (hs : ss.length = 4) : ∃ gs c, v = .slice (some ⟨gs, 0, none⟩) 4 c ∧ 4 ≤ c ∧ SpC w gs ss := by
  rcases h.2 with ⟨_, h0⟩ | ⟨g, cap, cur, rfl, _, _, hc, _⟩
  · cases h0
  · refine ⟨g, cap, rfl, hc, fun i hi => ?_⟩
    have hl : i < (ss.map toSp).length := by rw [List.length_map, hs]; exact hi
    obtain ⟨e0, e1⟩ := spCells_at (ss.map toSp) i hl
    have e2 : (ss.map toSp)[i] = toSp (spAt ss i) := by
      unfold spAt
      rw [List.getElem_map, List.getD_eq_getElem?_getD, List.getElem?_eq_getElem (by rw [hs]; exact hi)]
      rfl
    rw [e2] at e0 e1
    rw [h.cellAt (i * 2) (by omega), h.cellAt (i * 2 + 1) (by omega), e0, e1]
    exact ⟨rfl, rfl⟩
/-- sets that have what is so of the spans -/
structure WInv (ss : List (Nat × Nat)) (W : List Nat) (n : Nat) : Prop where
  len : W.length = n
  at_ : ∀ m, m < n → W.getD m 0 < 8192 ∧ (W.getD m 0).testBit (oSp (spAt ss (m / 4)) (spAt ss (m % 4))) = true
theorem WInv.step {ss : List (Nat × Nat)} {W : List Nat} {i k s : Nat} (h : WInv ss W (i * 4 + k)) (hk : k < 4) (h8 : s < 8192) (hb : s.testBit (oSp (spAt ss i) (spAt ss k)) = true) : WInv ss (W ++ [s]) (i * 4 + (k + 1)) := by
  refine ⟨by rw [List.length_append, h.len]; rfl, fun m hm => ?_⟩
  by_cases e : m < i * 4 + k
  · rw [List.getD_eq_getElem?_getD, List.getElem?_append_left (by rw [h.len]; exact e), ← List.getD_eq_getElem?_getD]
    exact h.at_ m e
  · have em : m = i * 4 + k := by omega
    subst em
    rw [List.getD_eq_getElem?_getD, List.getElem?_append_right (by rw [h.len]; omega), h.len, Nat.sub_self]
    rw [show (i * 4 + k) / 4 = i by omega, show (i * 4 + k) % 4 = k by omega]
    exact ⟨h8, hb⟩
theorem WInv.within {ss : List (Nat × Nat)} {W : List Nat} (h : WInv ss W 16) : Within 4 (relX ss) W := by
  intro i hi k hk u hu
  rw [relX_nt ss hi hk] at hu
  obtain rfl := bit_two hu
  have := (h.at_ (i * 4 + k) (by omega)).2
  rw [show (i * 4 + k) / 4 = i by omega, show (i * 4 + k) % 4 = k by omega] at this
  exact this
theorem WInv.all8 {ss : List (Nat × Nat)} {W : List Nat} {n : Nat} (h : WInv ss W n) : (∀ x, W.getD x 0 < 8192) ∧ ∀ x ∈ W, x < 8192 := by
  have h1 : ∀ x, W.getD x 0 < 8192 := fun x => by
    by_cases e : x < n
    · exact (h.at_ x e).1
    · rw [List.getD_eq_getElem?_getD, List.getElem?_eq_none (by rw [h.len]; omega)]; exact Nat.zero_lt_succ _
  refine ⟨h1, fun x hx => ?_⟩
  obtain ⟨i, hi, rfl⟩ := List.getElem_of_mem hx
  have := h1 i
  rwa [List.getD_eq_getElem?_getD, List.getElem?_eq_getElem hi] at this
theorem toI_snoc (W : List Nat) (s : Nat) : intCells (toI (W ++ [s])) = intCells (toI W) ++ [.int .i64 (s : Int)] := by simp [intCells, toI]

set_option maxRecDepth 100000 in
set_option maxHeartbeats 8000000 in
theorem spans_walk (ns : List Int) (A : Option Addr) (c : Nat) (ls : List (List Int)) (B : Option Addr) (d : Nat) (N : Int) (w : World) (h : In8 ns A c ls B d w) (_hN : (Lit.int .i64 N).wf = true) (hE : EndAt w) :
    Calls Tryd.prog 6 #[.agg (askCells ns.length A c ls.length B d N)] w fun e w' => e = .returned (.bool true) ∧ Ext w w' := by
  have KH := Lib.hid (fun u (k : Ext w u) => heavy_any ns.length A c ls B d N u h.nlen h.llen (h.rows.ext k))
  have hEE := Lib.hid hE
  clear hE
  obtain ⟨W0, hW0⟩ : ∃ W0, W0 = w.alloc (.cells (askCells ns.length A c ls.length B d N) 25) := ⟨_, rfl⟩
  have hx0 : Ext w W0 := by rw [hW0]; exact (Ext.refl w).alloc _
  have q0 : W0.cell? ⟨w.heap.size, 0, none⟩ = some (.slice A ns.length c) := by rw [hW0]; go_simp
  have q1 : W0.cell? ⟨w.heap.size, 1, none⟩ = some (.slice B ls.length d) := by rw [hW0]; go_simp
  have q2 : W0.cell? ⟨w.heap.size, 2, none⟩ = some (.int .i64 N) := by rw [hW0]; go_simp
  have HW := Lib.hid hW0
  have HI := Lib.hid h
  clear hW0 h
  have HLS := Lib.hid (heavy_each (n := ns.length) (ls := ls))
  cases hh : heavyB ns.length ls with
  | true =>
    rw [hh] at KH
    go_enter Tryd.func6, Tryd.ntmps6
    go_upto_region 1 with (fail)
    rw [← HW.out]
    clear HW
    go_wp2_with fail
    refine (KH.out _ hx0).mono ?_
    rintro e w1 ⟨rfl, hx1⟩
    go_wp2_with fail
    go_ret
    exact ⟨rfl, hx0.trans hx1⟩
  | false =>
    rw [hh] at KH
    go_enter Tryd.func6, Tryd.ntmps6
    go_upto_region 1 with (fail)
    rw [← HW.out]
    obtain ⟨g, hg⟩ : ∃ g, g = w.heap.size := ⟨_, rfl⟩
    rw [← hg] at q0 q1 q2
    rw [← hg]
    clear HW hg
    go_wp2_with fail
    refine (KH.out _ hx0).mono ?_
    rintro e w1 ⟨rfl, hx1⟩
    replace q0 := hx1.cell q0
    replace q2 := hx1.cell q2
    have hx01 := hx0.trans hx1
    clear hx0 hx1 q1 KH
    have HLS2 := Lib.hid (HLS.out hh)
    have hIw := HI.out.ints.ext hx01
    have hE1 := Lib.hid (hEE.out.ext hx01)
    have HX := Lib.hid hx01
    have hnl := HI.out.nlen
    have KN := Lib.hid (fun n u => num_any n u)
    clear hx01 HLS
    go_upto_block 0 with (fail)
    go_cut [] (fun wx => Ext w1 wx)
    case first =>
      go_wp2_with fail
      go_loopw [3] (fun i wr => ∃ k : Nat, k ≤ 8 ∧ i = .int .i64 k ∧ Ext w1 wr) (fun i _ => 9 - (intOf i).toNat)
      case atStart => exact ⟨0, Nat.zero_le _, rfl, Ext.refl _⟩
      case round =>
        obtain ⟨k, hk, rfl, hx⟩ := hrel
        have p0 := hx.cell q0
        by_cases hlt : k + 2 < ns.length
        · have hki : (k : Int) + 2 < (ns.length : Int) := by omega
          have hk0 : (0 : Int) ≤ (k : Int) := by omega
          by_cases hk8 : (k : Int) < 8
          · obtain ⟨b, o, rfl⟩ := ints_some hIw (by omega)
            have c0 := int_at (hIw.ext hx) (by omega : k < ns.length)
            have c1 := int_at (hIw.ext hx) (by omega : k + 1 < ns.length)
            have c2 := int_at (hIw.ext hx) hlt
            obtain ⟨a, ha, hae⟩ := and8191 ns[k]
            obtain ⟨b', hb, hbe⟩ := and8191 ns[k + 1]
            obtain ⟨c', hc, hce⟩ := and8191 ns[k + 2]
            generalize ns[k] = xa at *
            generalize ns[k + 1] = xb at *
            generalize ns[k + 2] = xc at *
            have hK9 := Lib.hid (by omega : k + 1 ≤ 8)
            have HX1 := Lib.hid hx
            have HE1 := Lib.hid (hE1.out.ext hx)
            have KAB := Lib.hid (fun u (k : Ext wr u) => Then_nat a b' ha hb u (HE1.out.ext k))
            have KXC := Lib.hid (fun u (k : Ext wr u) => Then_nat (thn a b') c' (thn_lt _ _) hc u (HE1.out.ext k))
            have KBC := Lib.hid (fun u (k : Ext wr u) => Then_nat b' c' hb hc u (HE1.out.ext k))
            have KAY := Lib.hid (fun u (k : Ext wr u) => Then_nat a (thn b' c') ha (thn_lt _ _) u (HE1.out.ext k))
            have KU := Lib.hid (fun u => Turn_nat (thn a b') (thn_lt _ _) u)
            have KTA := Lib.hid (fun u => Turn_nat a ha u)
            have KTB := Lib.hid (fun u => Turn_nat b' hb u)
            have KV := Lib.hid (fun u (k : Ext wr u) => Then_nat (turnS b') (turnS a) (turnS_lt _) (turnS_lt _) u (HE1.out.ext k))
            rw [← thn_assoc a b' c'] at KAY
            rw [← thn_turn a b'] at KV
            generalize thn (thn a b') c' = XY at *
            generalize turnS (thn a b') = UV at *
            generalize thn b' c' = BC at *
            generalize thn a b' = AB at *
            generalize turnS a = TA at *
            generalize turnS b' = TB at *
            generalize (a : Int) = ai at *
            generalize (b' : Int) = bi at *
            generalize (c' : Int) = ci at *
            clear ha hb hc hx hk
            go_upto_region 6 with (fail)
            go_region
            have hxd : Ext wr wr.drew := (Ext.refl wr).drew
            clear c0 c1 c2 p0 hae hbe hce
            go_wp2_with fail
            refine (KAB.out _ hxd).mono ?_
            rintro e x0 ⟨rfl, hy0⟩
            have hz0 := hxd.trans hy0
            clear hxd hy0
            go_wp2_with fail
            refine (KXC.out _ hz0).mono ?_
            rintro e x1 ⟨rfl, hy1⟩
            have hz1 := hz0.trans hy1
            clear hz0 hy1
            go_wp2_with fail
            refine (KBC.out _ hz1).mono ?_
            rintro e x2 ⟨rfl, hy2⟩
            have hz2 := hz1.trans hy2
            clear hz1 hy2
            go_wp2_with fail
            refine (KAY.out _ hz2).mono ?_
            rintro e x3 ⟨rfl, hy3⟩
            have hz3 := hz2.trans hy3
            clear hz2 hy3
            go_wp2_with fail
            refine (KAB.out _ hz3).mono ?_
            rintro e x4 ⟨rfl, hy4⟩
            have hz4 := hz3.trans hy4
            clear hz3 hy4
            go_wp2_with fail
            refine (KU.out _).mono ?_
            rintro e x5 ⟨rfl, hy5⟩
            have hz5 := hz4.trans hy5
            clear hz4 hy5
            go_wp2_with fail
            refine (KTA.out _).mono ?_
            rintro e x6 ⟨rfl, hy6⟩
            have hz6 := hz5.trans hy6
            clear hz5 hy6
            go_wp2_with fail
            refine (KTB.out _).mono ?_
            rintro e x7 ⟨rfl, hy7⟩
            have hz7 := hz6.trans hy7
            clear hz6 hy7
            go_wp2_with fail
            refine (KV.out _ hz7).mono ?_
            rintro e x8 ⟨rfl, hy8⟩
            have hz8 := hz7.trans hy8
            clear hz7 hy8
            have HZF := Lib.hid (HX1.out.trans hz8)
            clear hz8 KAB KXC KBC KAY KU KTA KTB KV
            go_wp2_with fail
            refine (KN.out _ _).mono ?_
            rintro e y0 ⟨rfl, rfl⟩
            go_wp2_with fail
            refine (KN.out _ _).mono ?_
            rintro e y1 ⟨rfl, rfl⟩
            go_wp2_with fail
            refine (KN.out _ _).mono ?_
            rintro e y2 ⟨rfl, rfl⟩
            go_wp2_with fail
            refine (KN.out _ _).mono ?_
            rintro e y3 ⟨rfl, rfl⟩
            go_wp2_with fail
            refine (KN.out _ _).mono ?_
            rintro e y4 ⟨rfl, rfl⟩
            go_wp2_with fail
            refine (KN.out _ _).mono ?_
            rintro e y5 ⟨rfl, rfl⟩
            go_wp2_with fail
            refine (KN.out _ _).mono ?_
            rintro e y6 ⟨rfl, rfl⟩
            go_wp2_with fail
            refine (KN.out _ _).mono ?_
            rintro e y7 ⟨rfl, rfl⟩
            go_wp2_with fail
            refine (KN.out _ _).mono ?_
            rintro e y8 ⟨rfl, rfl⟩
            go_wp2_with fail
            go_roundw
            case rel => exact ⟨k + 1, hK9.out, by go_num, HZF.out⟩
            case measure => simp [intOf]; omega
          · have hk8' : decide ((k : Int) < 8) = false := decide_eq_false hk8
            have HX1 := Lib.hid hx
            go_wp2_with fail
            go_meet
            exact HX1.out
        · have hki : ¬ ((k : Int) + 2 < (ns.length : Int)) := by omega
          have hki' : decide ((k : Int) + 2 < (ns.length : Int)) = false := decide_eq_false hki
          have HX1 := Lib.hid hx
          go_wp2_with fail
          go_meet
          exact HX1.out
    case rest =>
      have hx1 := hcut
      obtain ⟨wk, hwk⟩ : ∃ wk : World, wk = wc := ⟨_, rfl⟩
      rw [← hwk] at hx1
      rw [← hwk]
      have HXK := Lib.hid (HX.out.trans hx1)
      have r0 := hx1.cell q0
      have r2 := hx1.cell q2
      have HEK := Lib.hid (hE1.out.ext hx1)
      obtain ⟨i0, hi0, hz0, hz1, hz2⟩ := info_parts infoSp
      have K6 := Lib.hid (fun x u => within6 x u)
      have K4 := Lib.hid (fun x u => within4 x u)
      clear hx1 q0 q2 hwk hcut hIw
      go_upto_block 2 with (fail)
      go_cut [23] (fun v wx => ∃ ss : List (Nat × Nat), Small ss ∧ wx.ownsRow wk.heap.size 52 2 v 4 (spCells (ss.map toSp)) ∧ Ext wk wx)
      case first =>
        go_wp2_with fail
        go_loopw [23, 24] (fun v i wr => ∃ (k : Nat) (ss : List (Nat × Nat)), k ≤ 4 ∧ i = .int .i64 k ∧ (ss.length = k ∧ ∀ x ∈ ss, x.1 < 6 ∧ x.2 < 4) ∧ wr.ownsRow wk.heap.size 52 2 v k (spCells (ss.map toSp)) ∧ Ext wk wr) (fun _ i _ => 4 - (intOf i).toNat)
        case atStart => exact ⟨0, [], by omega, rfl, ⟨rfl, fun x hx => by cases hx⟩, World.ownsRow_nil _ _ _ _, Ext.refl _⟩
        case round =>
          obtain ⟨k, ss, hk, rfl, hss, hown, hx⟩ := hrel
          by_cases hlt : k < 4
          · have hki : (k : Int) < 4 := by omega
            have hk0 : (0 : Int) ≤ (k : Int) := by omega
            have hk2 : ((k : Int) + 2) ≠ 0 := by omega
            have s0 := hx.cell r0
            have s2 := hx.cell r2
            have hxs := hx.size
            have HKK := Lib.hid (by omega : k + 1 ≤ 4)
            go_wp2_with fail
            refine (K6.out _ _).mono ?_
            rintro e w2 ⟨f, hf, rfl, rfl⟩
            have hf0 : (f : Int) < 6 := by omega
            go_wp2_with fail
            refine (K4.out _ _).mono ?_
            rintro e w3 ⟨g', hg, rfl, rfl⟩
            have hg0 : (g' : Int) < 4 := by omega
            have HS : Hid (spCells ((ss ++ [(f, g')]).map toSp) = spCells (ss.map toSp) ++ [.int .i64 (f : Int), .int .i64 ((f : Int) + 1 + (g' : Int))]) := Lib.hid (by
              rw [List.map_append, List.map_cons, List.map_nil, spCells_snoc]
              unfold toSp
              simp only
              rw [show ((f + 1 + g' : Nat) : Int) = (f : Int) + 1 + (g' : Int) by omega])
            have HSS := Lib.hid hss
            have HFG := Lib.hid (And.intro hf hg)
            have HK4 := Lib.hid (by omega : k < 4)
            go_wp2_with (at_builtin; refine wpList_app _ rfl _ _ 50 rfl wk.heap.size 52 i0 _ 2 16 Tryd.underlying50 hi0 hz0 hz1 hz2 rfl (by decide) _ k (spCells (ss.map toSp)) rfl (hown.alloc _) (some ⟨w3.heap.size, 0, none⟩) 1 1 [.int .i64 (f : Int), .int .i64 ((f : Int) + 1 + (g' : Int))] rfl (Src.box w3 #[.int .i64 (f : Int), .int .i64 ((f : Int) + 1 + (g' : Int))] 52 2 rfl) ?c2 ?c3 ?c4 ?c5 ?_)
            case c2 => intro u hu; simp at hu; rcases hu with rfl | rfl <;> rfl
            case c3 => have := HK4.out; simp only [maxLen]; omega
            case c4 => have := HK4.out; omega
            case c5 => simp; omega
            intro v' w4 hown4 hgrow _
            have hx4 : Ext wk w4 := Below.grown (hx.alloc _) hgrow (by simp; omega) (fun b hb => (hown.lt b hb).1)
            have HO5 : Hid (w4.ownsRow wk.heap.size 52 2 v' (k + 1) (spCells ((ss ++ [(f, g')]).map toSp))) := Lib.hid (by rw [HS.out]; exact hown4)
            have HX4 := Lib.hid hx4
            clear hown4 hgrow hown hx hx4 hss hf hg
            go_wp2_with fail
            go_roundw
            case rel => exact ⟨k + 1, ss ++ [(f, g')], HKK.out, by go_num, ⟨by rw [List.length_append, HSS.out.1]; rfl, fun x hx => by rcases List.mem_append.1 hx with h | h; exact HSS.out.2 x h; simp only [List.mem_singleton] at h; subst h; exact HFG.out⟩, HO5.out, HX4.out⟩
            case measure => have := HK4.out; simp [intOf]; omega
          · have hki : ¬ ((k : Int) < 4) := by omega
            obtain rfl : k = 4 := by omega
            have HF := Lib.hid (And.intro hss (And.intro hown hx))
            clear hss hown hx
            go_wp2_with fail
            go_meet
            exact ⟨ss, HF.out.1, HF.out.2.1, HF.out.2.2⟩
      case rest =>
        obtain ⟨ss, hss, hown, hx⟩ := hcut
        obtain ⟨wl, hwl⟩ : ∃ wl : World, wl = wc := ⟨_, rfl⟩
        rw [← hwl] at hown hx
        rw [← hwl]
        obtain ⟨gs, cs, rfl, hcs, hSP⟩ := spc_of hown hss.1
        have HXL := Lib.hid (HXK.out.trans hx)
        have t2 := hx.cell r2
        have HEL := Lib.hid (HEK.out.ext hx)
        have HSM := Lib.hid hss
        have HSP := Lib.hid hSP
        have HBASE := Lib.hid hx.size
        obtain ⟨j0, hj0, hy0, hy1, hy2⟩ := info_parts infoInt
        have K13 := Lib.hid (fun x u => within13 x u)
        clear hown hx r0 r2 hwl hSP hss hi0 hz0 hz1 hz2 i0 K6 K4 _hN hnl
        go_upto_block 4 with (fail)
        go_cut [26] (fun v wx => ∃ W : List Nat, WInv ss W 16 ∧ wx.ownsRow wl.heap.size 3 1 v 16 (intCells (toI W)) ∧ Ext wl wx)
        case first =>
          go_wp2_with fail
          go_loopw [26, 27] (fun v i wr => ∃ (i' : Nat) (W : List Nat), i' ≤ 4 ∧ i = .int .i64 i' ∧ WInv ss W (i' * 4) ∧ wr.ownsRow wl.heap.size 3 1 v (i' * 4) (intCells (toI W)) ∧ Ext wl wr) (fun _ i _ => 4 - (intOf i).toNat)
          case atStart => exact ⟨0, [], by omega, rfl, ⟨rfl, fun m hm => by omega⟩, World.ownsRow_nil _ _ _ _, Ext.refl _⟩
          case round =>
            obtain ⟨i, W, hi, rfl, hW, hown, hx⟩ := hrel
            by_cases hli : i < 4
            · have hii : (i : Int) < 4 := by omega
              have hi0 : (0 : Int) ≤ (i : Int) := by omega
              obtain ⟨wo, hwo⟩ : ∃ wo, wo = wr := ⟨_, rfl⟩
              rw [← hwo] at hown hx
              rw [← hwo]
              clear hwo
              go_wp2_with fail
              go_loopw [26, 28] (fun v j wr => ∃ (k : Nat) (W : List Nat), k ≤ 4 ∧ j = .int .i64 k ∧ WInv ss W (i * 4 + k) ∧ wr.ownsRow wl.heap.size 3 1 v (i * 4 + k) (intCells (toI W)) ∧ Ext wl wr) (fun _ j _ => 4 - (intOf j).toNat)
              case atStart => exact ⟨0, W, by omega, rfl, hW, hown, hx⟩
              case round =>
                obtain ⟨k, W, hk, rfl, hW, hown, hx⟩ := hrel
                by_cases hlk : k < 4
                · have hkk : (k : Int) < 4 := by omega
                  have hk0 : (0 : Int) ≤ (k : Int) := by omega
                  obtain ⟨i1, i2⟩ := HSM.out.at_ hli
                  obtain ⟨k1, k2⟩ := HSM.out.at_ hlk
                  have ho13 := sp_lt _ i1 _ i2 _ k1 _ k2
                  obtain ⟨ci0, ci1⟩ := (HSP.out.ext hx) i hli
                  obtain ⟨ck0, ck1⟩ := (HSP.out.ext hx) k hlk
                  have KO := Lib.hid (fun u => Only_any _ _ _ _ _ u (sp_only _ i1 _ i2 _ k1 _ k2))
                  have s2 := hx.cell t2
                  have HW := Lib.hid hW
                  have HX0 := Lib.hid hx
                  have HOW0 := Lib.hid hown
                  have HK4 := Lib.hid hlk
                  have HIK := Lib.hid (by omega : i * 4 + k < 16)
                  have hcs0 : (4 : Int) ≤ (cs : Int) := by omega
                  have HO : Hid (oSp (spAt ss i) (spAt ss k) = oSp ((spAt ss i).1, (spAt ss i).2) ((spAt ss k).1, (spAt ss k).2)) := Lib.hid rfl
                  have ho13' : oSp (spAt ss i) (spAt ss k) < 13 := ho13
                  generalize (((spAt ss i).1 : Nat) : Int) = f1 at ci0 KO
                  generalize (((spAt ss i).1 + 1 + (spAt ss i).2 : Nat) : Int) = f2 at ci1 KO
                  generalize (((spAt ss k).1 : Nat) : Int) = f3 at ck0 KO
                  generalize (((spAt ss k).1 + 1 + (spAt ss k).2 : Nat) : Int) = f4 at ck1 KO
                  have KO2 : Hid (∀ u, Calls Tryd.prog 39 #[spV f1 f2, spV f3 f4] u fun e w' => e = .returned (.int .i64 ((oSp (spAt ss i) (spAt ss k) : Int) + 1)) ∧ Ext u w') := KO
                  have hbit : (2 ^ oSp (spAt ss i) (spAt ss k)).testBit (oSp (spAt ss i) (spAt ss k)) = true := by rw [Nat.testBit_two_pow]; simp
                  have HBIT := Lib.hid hbit
                  have H2 := Lib.hid (two64 ho13')
                  have HOK : Hid (∀ (W : List Nat) (s : Nat), WInv ss W (i * 4 + k) → s < 8192 → s.testBit (oSp (spAt ss i) (spAt ss k)) = true → WInv ss (W ++ [s]) (i * 4 + (k + 1))) := Lib.hid fun W s h a b => h.step HK4.out a b
                  have HO13 := Lib.hid ho13'
                  have ho0 : (0 : Int) ≤ (oSp (spAt ss i) (spAt ss k) : Int) := by omega
                  have ho1 : (oSp (spAt ss i) (spAt ss k) : Int) < 13 := by omega
                  generalize oSp (spAt ss i) (spAt ss k) = o at KO2 HBIT H2 HOK HO13 ho0 ho1
                  have hik : ((k : Int) != (i : Int)) = !decide (k = i) := by
                    rw [Bool.eq_iff_iff]; simp; omega
                  clear hW hown hx KO ho13 ho13' HO hbit i1 i2 k1 k2
                  go_upto_region 32 with (fail)
                  have d0 : ∀ p : ExtOf wr, p.to.cell? _ = _ := ext_cell ci0
                  have d1 : ∀ p : ExtOf wr, p.to.cell? _ = _ := ext_cell ci1
                  have d2 : ∀ p : ExtOf wr, p.to.cell? _ = _ := ext_cell ck0
                  have d3 : ∀ p : ExtOf wr, p.to.cell? _ = _ := ext_cell ck1
                  clear ci0 ci1 ck0 ck1
                  refine wp_region_ext (by kernel_rfl) (by kernel_rfl) ?_
                  repeat (go_big_quiet_step ((go_at_call 39; with_reducible exact of_ext (KO2.out _))))
                  refine wpQuiet_nil ?_
                  refine ext_all ?_
                  intro w6 hx6
                  have HX6 := Lib.hid (HX0.out.trans hx6)
                  have s6 := hx6.cell s2
                  have HOW := Lib.hid (ownsRow_ext HOW0.out hx6)
                  have h2' := H2.out
                  clear d0 d1 d2 d3 hx6 s2
                  rw [H2.out]
                  have HP : Hid (2 ^ o < 8192 ∧ (2 ^ o).testBit o = true) := Lib.hid ⟨two_lt HO13.out, HBIT.out⟩
                  clear h2' H2 HBIT
                  generalize 2 ^ o = P at HP ⊢
                  by_cases hki : k = i
                  · have hik2 : ((k : Int) != (i : Int)) = false := by rw [hik, decide_eq_true hki]; rfl
                    clear hik hki
                    go_wp2_with (at_builtin; refine wpList_app _ rfl _ _ 22 rfl wl.heap.size 3 j0 _ 1 8 Tryd.underlying22 hj0 hy0 hy1 hy2 rfl (by decide) _ (i * 4 + k) (intCells (toI W)) rfl (HOW.out.alloc _) (some ⟨w6.heap.size, 0, none⟩) 1 1 [.int .i64 (P : Int)] rfl (Src.box w6 #[.int .i64 (P : Int)] 3 1 rfl) ?c2 ?c3 ?c4 ?c5 ?_)
                    case c2 => intro u hu; simp at hu; subst hu; rfl
                    case c3 => have := HIK.out; simp only [maxLen]; omega
                    case c4 => have := HIK.out; omega
                    case c5 => have := HX6.out.size; simp; omega
                    intro v' w8 hown8 hgrow _
                    have hx8 : Ext wl w8 := Below.grown (HX6.out.alloc _) hgrow (by simp; exact Nat.le_succ_of_le HX6.out.size) (fun b hb => (HOW.out.lt b hb).1)
                    have HF : Hid (w8.ownsRow wl.heap.size 3 1 v' (i * 4 + (k + 1)) (intCells (toI (W ++ [P])))) := Lib.hid (by rw [toI_snoc]; exact hown8)
                    have HX8 := Lib.hid hx8
                    have HWS := Lib.hid (HOK.out W P HW.out HP.out.1 HP.out.2)
                    clear hown8 hgrow hx8
                    go_wp2_with fail
                    go_roundw
                    case rel => exact ⟨k + 1, W ++ [P], HK4.out, by go_num, HWS.out, HF.out, HX8.out⟩
                    case measure => have := HK4.out; simp [intOf]; omega
                  · have hik2 : ((k : Int) != (i : Int)) = true := by rw [hik, decide_eq_false hki]; rfl
                    clear hik hki
                    go_wp2_with fail
                    refine (K13.out _ _).mono ?_
                    rintro e w7 ⟨q, hq, rfl, hw7⟩
                    rw [← hw7] at s6 HOW HX6
                    clear hw7
                    have hq2 := two64 hq
                    have hq0 : (0 : Int) ≤ (q : Int) := by omega
                    have hq13 : (q : Int) < 13 := by omega
                    have hor := or64 P (2 ^ q) (by have := HP.out.1; omega) (p16 hq)
                    have HPQ : Hid (P ||| 2 ^ q < 8192 ∧ (P ||| 2 ^ q).testBit o = true) := Lib.hid ⟨or_lt HP.out.1 (two_lt hq), by rw [Nat.testBit_or, HP.out.2]; rfl⟩
                    generalize 2 ^ q = Q at *
                    generalize P ||| Q = PQ at *
                    go_wp2_with (at_builtin; refine wpList_app _ rfl _ _ 22 rfl wl.heap.size 3 j0 _ 1 8 Tryd.underlying22 hj0 hy0 hy1 hy2 rfl (by decide) _ (i * 4 + k) (intCells (toI W)) rfl (HOW.out.alloc _) (some ⟨w7.heap.size, 0, none⟩) 1 1 [.int .i64 (PQ : Int)] rfl (Src.box w7 #[.int .i64 (PQ : Int)] 3 1 rfl) ?c2 ?c3 ?c4 ?c5 ?_)
                    case c2 => intro u hu; simp at hu; subst hu; rfl
                    case c3 => have := HIK.out; simp only [maxLen]; omega
                    case c4 => have := HIK.out; omega
                    case c5 => have := HX6.out.size; simp; omega
                    intro v' w8 hown8 hgrow _
                    have hx8 : Ext wl w8 := Below.grown (HX6.out.alloc _) hgrow (by simp; exact Nat.le_succ_of_le HX6.out.size) (fun b hb => (HOW.out.lt b hb).1)
                    have HF : Hid (w8.ownsRow wl.heap.size 3 1 v' (i * 4 + (k + 1)) (intCells (toI (W ++ [PQ])))) := Lib.hid (by rw [toI_snoc]; exact hown8)
                    have HX8 := Lib.hid hx8
                    have HWS := Lib.hid (HOK.out W PQ HW.out HPQ.out.1 HPQ.out.2)
                    clear hown8 hgrow hx8
                    go_wp2_with fail
                    go_roundw
                    case rel => exact ⟨k + 1, W ++ [PQ], HK4.out, by go_num, HWS.out, HF.out, HX8.out⟩
                    case measure => have := HK4.out; simp [intOf]; omega
                · have hkk : ¬ ((k : Int) < 4) := by omega
                  obtain rfl : k = 4 := by omega
                  have HF : Hid (WInv ss W ((i + 1) * 4) ∧ wr.ownsRow wl.heap.size 3 1 _ ((i + 1) * 4) (intCells (toI W)) ∧ Ext wl wr) := Lib.hid (by rw [show (i + 1) * 4 = i * 4 + 4 by omega]; exact ⟨hW, hown, hx⟩)
                  clear hW hown hx
                  go_wp2_with fail
                  go_roundw
                  case rel => exact ⟨i + 1, W, by omega, by go_num, HF.out.1, HF.out.2.1, HF.out.2.2⟩
                  case measure => simp [intOf]; omega
            · have hii : ¬ ((i : Int) < 4) := by omega
              obtain rfl : i = 4 := by omega
              have HF := Lib.hid (And.intro hW (And.intro hown hx))
              clear hW hown hx
              go_wp2_with fail
              go_meet
              exact ⟨W, HF.out.1, HF.out.2.1, HF.out.2.2⟩
        case rest =>
          obtain ⟨W, hW, hown, hx⟩ := hcut
          obtain ⟨wm, hwm⟩ : ∃ wm : World, wm = wc := ⟨_, rfl⟩
          rw [← hwm] at hown hx
          rw [← hwm]
          have hlW : (toI W).length = 16 := by rw [toI_len, hW.len]
          rw [← hlW] at hown
          obtain ⟨A', c', rfl, hc', hJ⟩ := owned_ints hown
          rw [hlW] at hc'
          rw [hlW]
          have h8 := hW.all8
          have KNET : Hid (Calls Tryd.prog 35 #[.int .i64 4, .slice A' 16 c'] wm (NetTo wm 4 W)) := Lib.hid (Net_yes 4 W A' c' wm (by decide) (by decide) hW.len h8.1 h8.2 (net4 hW.len h8.2) hJ (HEL.out.ext hx))
          have HWW := Lib.hid hW
          have HJ := Lib.hid hJ
          have HXM := Lib.hid (HXL.out.trans hx)
          have HEM := Lib.hid (HEL.out.ext hx)
          have HSPM := Lib.hid (HSP.out.ext hx)
          have hc'0 : (16 : Int) ≤ (c' : Int) := by omega
          clear hW hown hx hJ h8 hlW hwm t2 j0 hj0 hy0 hy1 hy2 K13 HSP
          go_wp2_with fail
          refine KNET.out.mono ?_
          intro e w9 hnet
          rcases hnet with ⟨R, v, hR, hS, hZ, rfl, hown9, hx9⟩ | ⟨hno, _⟩
          case inr => exact absurd hno (spans_net HSM.out HWW.out.within)
          have hlR : (toI R).length = 16 := by rw [toI_len, hR.len]
          obtain ⟨A9, c9, rfl, hc9, hJ9⟩ := owned_ints hown9
          rw [hlR] at hc9
          rw [hlR]
          have HKEEP := Lib.hid (spans_kept HSM.out HWW.out.within hR)
          have HR8 := Lib.hid hR.b8
          have HLR := Lib.hid hlR
          have HLW : Hid ((toI W).length = 16) := Lib.hid (by rw [toI_len, HWW.out.len])
          have HJ9 := Lib.hid hJ9
          have HJW := Lib.hid (HJ.out.ext hx9)
          have HXM9 := Lib.hid (HXM.out.trans hx9)
          have HEM9 := Lib.hid (HEM.out.ext hx9)
          have HSP9 := Lib.hid (HSPM.out.ext hx9)
          clear hR hS hZ hown9 hx9 hJ9 hlR KNET
          go_wp2_with fail
          refine (KN.out _ _).mono ?_
          rintro e wy ⟨rfl, hwy⟩
          rw [← hwy] at HJ9 HJW HXM9 HEM9 HSP9
          clear hwy
          go_wp2_with fail
          go_loopw [32] (fun i wr => ∃ i' : Nat, i' ≤ 4 ∧ i = .int .i64 i' ∧ Ext wy wr) (fun i _ => 4 - (intOf i).toNat)
          case atStart => exact ⟨0, by omega, rfl, Ext.refl _⟩
          case round =>
            obtain ⟨i, hi, rfl, hx⟩ := hrel
            by_cases hli : i < 4
            · have hii : (i : Int) < 4 := by omega
              have hi0 : (0 : Int) ≤ (i : Int) := by omega
              obtain ⟨wo, hwo⟩ : ∃ wo, wo = wr := ⟨_, rfl⟩
              rw [← hwo] at hx
              rw [← hwo]
              clear hwo
              go_wp2_with fail
              go_loopw [33] (fun j wr => ∃ k : Nat, k ≤ 4 ∧ j = .int .i64 k ∧ Ext wy wr) (fun j _ => 4 - (intOf j).toNat)
              case atStart => exact ⟨0, by omega, rfl, hx⟩
              case round =>
                obtain ⟨k, hk, rfl, hxk⟩ := hrel
                by_cases hlk : k < 4
                · have hkk : (k : Int) < 4 := by omega
                  have hk0 : (0 : Int) ≤ (k : Int) := by omega
                  have HK4 := Lib.hid hlk
                  obtain ⟨i1, i2⟩ := HSM.out.at_ hli
                  obtain ⟨k1, k2⟩ := HSM.out.at_ hlk
                  have ho13 : oSp (spAt ss i) (spAt ss k) < 13 := sp_lt _ i1 _ i2 _ k1 _ k2
                  obtain ⟨ci0, ci1⟩ := (HSP9.out.ext hxk) i hli
                  obtain ⟨ck0, ck1⟩ := (HSP9.out.ext hxk) k hlk
                  have KO := Lib.hid (fun u => Only_any _ _ _ _ _ u (sp_only _ i1 _ i2 _ k1 _ k2))
                  obtain ⟨kb, ks⟩ := HKEEP.out i hli k hlk
                  have hm : i * 4 + k < (toI R).length := by rw [HLR.out]; omega
                  have hmw : i * 4 + k < (toI W).length := by rw [HLW.out]; omega
                  obtain ⟨bx, ox, rfl⟩ := ints_some HJ9.out (by rw [HLR.out]; omega)
                  obtain ⟨bw, ow, rfl⟩ := ints_some HJW.out (by rw [HLW.out]; omega)
                  have cx := int_at (HJ9.out.ext hxk) hm
                  have cw := int_at (HJW.out.ext hxk) hmw
                  have ex : (toI R)[i * 4 + k] = (nt 4 R i k : Int) := by
                    unfold nt toI
                    rw [List.getElem_map, List.getD_eq_getElem?_getD, List.getElem?_eq_getElem (by rw [toI_len] at hm; exact hm)]
                    rfl
                  have ew : (toI W)[i * 4 + k] = (nt 4 W i k : Int) := by
                    unfold nt toI
                    rw [List.getElem_map, List.getD_eq_getElem?_getD, List.getElem?_eq_getElem (by rw [toI_len] at hmw; exact hmw)]
                    rfl
                  rw [ex] at cx
                  rw [ew] at cw
                  have hv1 := shr_one (HR8.out (i * 4 + k)) kb
                  have hv2 := andNot_sub ks
                  generalize (((spAt ss i).1 : Nat) : Int) = f1 at ci0 KO
                  generalize (((spAt ss i).1 + 1 + (spAt ss i).2 : Nat) : Int) = f2 at ci1 KO
                  generalize (((spAt ss k).1 : Nat) : Int) = f3 at ck0 KO
                  generalize (((spAt ss k).1 + 1 + (spAt ss k).2 : Nat) : Int) = f4 at ck1 KO
                  have KO2 : Hid (∀ u, Calls Tryd.prog 39 #[spV f1 f2, spV f3 f4] u fun e w' => e = .returned (.int .i64 ((oSp (spAt ss i) (spAt ss k) : Int) + 1)) ∧ Ext u w') := KO
                  have ho0 : (0 : Int) ≤ (oSp (spAt ss i) (spAt ss k) : Int) := by omega
                  have ho1 : (oSp (spAt ss i) (spAt ss k) : Int) < 13 := by omega
                  have hv1' : bits .and .i64 ((nt 4 R i k : Int) / 2 ^ oSp (spAt ss i) (spAt ss k)) 1 = 1 := hv1
                  generalize oSp (spAt ss i) (spAt ss k) = o at KO2 ho0 ho1 hv1'
                  generalize (nt 4 R i k : Int) = xv at *
                  generalize (nt 4 W i k : Int) = wv at *
                  have HXK := Lib.hid hxk
                  clear hv1 kb ks ex ew hm hmw i1 i2 k1 k2 KO ho13 hxk hx
                  go_upto_region 45 with (fail)
                  have d0 : ∀ p : ExtOf wr, p.to.cell? _ = _ := ext_cell ci0
                  have d1 : ∀ p : ExtOf wr, p.to.cell? _ = _ := ext_cell ci1
                  have d2 : ∀ p : ExtOf wr, p.to.cell? _ = _ := ext_cell ck0
                  have d3 : ∀ p : ExtOf wr, p.to.cell? _ = _ := ext_cell ck1
                  have d4 : ∀ p : ExtOf wr, p.to.cell? _ = _ := ext_cell cx
                  have d5 : ∀ p : ExtOf wr, p.to.cell? _ = _ := ext_cell cw
                  clear ci0 ci1 ck0 ck1 cx cw
                  refine wp_region_ext (by kernel_rfl) (by kernel_rfl) ?_
                  repeat (go_big_quiet_step ((go_at_call 39; with_reducible exact of_ext (KO2.out _))))
                  refine wpQuiet_nil ?_
                  refine ext_all ?_
                  intro w6 hx6
                  have HX6 := Lib.hid (HXK.out.trans hx6)
                  clear d0 d1 d2 d3 d4 d5 hx6
                  go_wp2_with fail
                  go_roundw
                  case rel => exact ⟨k + 1, HK4.out, by go_num, HX6.out⟩
                  case measure => have := HK4.out; simp [intOf]; omega
                · have hkk : ¬ ((k : Int) < 4) := by omega
                  have HXK := Lib.hid hxk
                  go_wp2_with fail
                  go_roundw
                  case rel => exact ⟨i + 1, by omega, by go_num, HXK.out⟩
                  case measure => simp [intOf]; omega
            · have hii : ¬ ((i : Int) < 4) := by omega
              have KW := Lib.hid (wakes_any wr (HEM9.out.ext hx))
              have HXF := Lib.hid (HXM9.out.trans hx)
              go_wp2_with fail
              refine KW.out.mono ?_
              rintro e wz ⟨rfl, hxz⟩
              go_wp2_with fail
              go_ret
              exact ⟨rfl, HXF.out.trans hxz⟩
end Go.Proofs.YtkdbdcpfmmbfpaaDoor
