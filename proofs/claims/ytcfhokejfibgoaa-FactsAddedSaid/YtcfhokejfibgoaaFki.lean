/- Facts, and facts kept, in memory; how much they weigh. -/
import Derived.Test.YtcfhokejfibgoaaFkh
import Derived.Test.YtcfhokejfibgoaaHeavy
import Derived.BigQuiet
import Derived.Test.YtcfhokejfibgoaaExt
namespace Go.Proofs.Ytcfhokejfibgoaa
open Go.RowKit

/-- from A on lie the six cells of each fact, and its term -/
def FcsAt (w : World) (fs : List Fc) (A : Option Addr) : Prop :=
  ∀ i (h : i < fs.length), ∃ b o B e, A = some ⟨b, o, none⟩ ∧ w.cell? ⟨b, o + i * 6, none⟩ = some (.int .i64 fs[i].tm.kind) ∧ w.cell? ⟨b, o + i * 6 + 1, none⟩ = some (.string fs[i].tm.name) ∧
    w.cell? ⟨b, o + i * 6 + 2, none⟩ = some (.int .i64 fs[i].tm.n) ∧ w.cell? ⟨b, o + i * 6 + 3, none⟩ = some (.slice B fs[i].tm.args.length e) ∧
    w.cell? ⟨b, o + i * 6 + 4, none⟩ = some (.int .i64 fs[i].fr) ∧ w.cell? ⟨b, o + i * 6 + 5, none⟩ = some (.int .i64 fs[i].til) ∧ TmAt w fs[i].tm B e
theorem FcsAt.ext {w w' : World} {fs : List Fc} {A : Option Addr} (h : FcsAt w fs A) (k : Ext w w') : FcsAt w' fs A := by
  intro i hi
  obtain ⟨b, o, B, e, eA, h0, h1, h2, h3, h4, h5, hT⟩ := h i hi
  exact ⟨b, o, B, e, eA, k.cell h0, k.cell h1, k.cell h2, k.cell h3, k.cell h4, k.cell h5, hT.ext k⟩
theorem FcsAt.nil (w : World) (A : Option Addr) : FcsAt w [] A := fun i hi => absurd hi (by simp)
/-- from A on lie the seven cells of each fact kept, and its term -/
def KpsAt (w : World) (ks : List Kp) (A : Option Addr) : Prop :=
  ∀ i (h : i < ks.length), ∃ b o B e, A = some ⟨b, o, none⟩ ∧ w.cell? ⟨b, o + i * 7, none⟩ = some (.int .i64 ks[i].seq) ∧ w.cell? ⟨b, o + i * 7 + 1, none⟩ = some (.int .i64 ks[i].fc.tm.kind) ∧
    w.cell? ⟨b, o + i * 7 + 2, none⟩ = some (.string ks[i].fc.tm.name) ∧ w.cell? ⟨b, o + i * 7 + 3, none⟩ = some (.int .i64 ks[i].fc.tm.n) ∧ w.cell? ⟨b, o + i * 7 + 4, none⟩ = some (.slice B ks[i].fc.tm.args.length e) ∧
    w.cell? ⟨b, o + i * 7 + 5, none⟩ = some (.int .i64 ks[i].fc.fr) ∧ w.cell? ⟨b, o + i * 7 + 6, none⟩ = some (.int .i64 ks[i].fc.til) ∧ TmAt w ks[i].fc.tm B e ∧ (Lit.int .i64 ks[i].seq).wf = true
theorem KpsAt.ext {w w' : World} {ks : List Kp} {A : Option Addr} (h : KpsAt w ks A) (k : Ext w w') : KpsAt w' ks A := by
  intro i hi
  obtain ⟨b, o, B, e, eA, h0, h1, h2, h3, h4, h5, h6, hT, hw⟩ := h i hi
  exact ⟨b, o, B, e, eA, k.cell h0, k.cell h1, k.cell h2, k.cell h3, k.cell h4, k.cell h5, k.cell h6, hT.ext k, hw⟩
theorem KpsAt.nil (w : World) (A : Option Addr) : KpsAt w [] A := fun i hi => absurd hi (by simp)

/-! how much they are -/
def ktms (ks : List Kp) : List Tm := ks.map fun k => k.fc.tm
def ftms (fs : List Fc) : List Tm := fs.map fun f => f.tm
theorem ktms_drop {ks : List Kp} {k : Nat} (h : k < ks.length) : (ktms ks).drop k = ks[k].fc.tm :: (ktms ks).drop (k + 1) := by
  unfold ktms
  rw [List.drop_eq_getElem_cons (by simpa using h)]
  simp
theorem ftms_drop {fs : List Fc} {k : Nat} (h : k < fs.length) : (ftms fs).drop k = fs[k].tm :: (ftms fs).drop (k + 1) := by
  unfold ftms
  rw [List.drop_eq_getElem_cons (by simpa using h)]
  simp
theorem kpw_any (ks : List Kp) (A : Option Addr) (c : Nat) (w : World) (hl : ks.length * 80 ≤ 140737488351232) (h : KpsAt w ks A) :
    Calls Try.prog 16 #[.slice A ks.length c] w fun e w' => e = .returned (.int .i64 (weightL (ktms ks) 30 ks.length)) ∧ Ext w w' := by
  have H0 : Hid (weightL ((ktms ks).drop 0) 30 ks.length = weightL (ktms ks) 30 ks.length) := Lib.hid (by rw [List.drop_zero])
  go_enter Try.func16, Try.ntmps16
  go_wp2_with fail
  go_loopw [3, 4] (fun m i wr => ∃ (k : Nat) (n : Int), k ≤ ks.length ∧ 0 ≤ n ∧ n ≤ 9007199254740992 ∧ i = .int .i64 k ∧ m = .int .i64 n ∧ Hid (weightL ((ktms ks).drop k) 30 n = weightL (ktms ks) 30 ks.length) ∧
    Ext w wr) (fun _ i _ => ks.length - (intOf i).toNat)
  case atStart => exact ⟨0, _, Nat.zero_le _, by omega, by omega, rfl, rfl, H0, Ext.refl _⟩
  case round =>
    obtain ⟨k, n, hk, hn0, hn1, rfl, rfl, H, hx⟩ := hrel
    by_cases hlt : k < ks.length
    · obtain ⟨b, o, B, e, rfl, c0, c1, c2, c3, c4, c5, c6, hsub, _⟩ := (h.ext hx) k hlt
      have hb := weight_le 30 _ _ _ _ hsub
      have H2 : Hid ((if n < 1048576 then weightL ((ktms ks).drop (k + 1)) 30 (n + weightT ks[k].fc.tm 30) else n) = weightL (ktms ks) 30 ks.length) := by
        have := H.out
        rw [ktms_drop hlt, weightL] at this
        exact Lib.hid this
      clear H H0
      by_cases hn : n < 1048576
      · go_wp2_with fail
        refine (weight_any 30 _ _ _ _ _ (Lib.hid rfl) (by omega) hsub).mono ?_
        rintro e w1 ⟨rfl, hx1⟩
        go_wp2_with fail
        go_roundw
        case rel => exact ⟨k + 1, n + weightT ks[k].fc.tm 30, by omega, by omega, by omega, by go_num, rfl, Lib.hid (by have := H2.out; rwa [if_pos (by omega)] at this), hx.trans hx1⟩
        case measure => simp [intOf]; omega
      · have hn' : decide (n < 1048576) = false := decide_eq_false hn
        go_wp2_with fail
        go_ret
        exact ⟨ret_int (by have := H2.out; rwa [if_neg (by omega)] at this), hx⟩
    · go_wp2_with fail
      go_ret
      exact ⟨ret_int (by have := H.out; rwa [List.drop_eq_nil_of_le (by simp [ktms]; omega), weightL] at this), hx⟩
theorem kpw_bd {ks : List Kp} {w : World} {A : Option Addr} (hl : ks.length * 80 ≤ 140737488351232) (h : KpsAt w ks A) : (ks.length : Int) ≤ weightL (ktms ks) 30 ks.length ∧ weightL (ktms ks) 30 ks.length ≤ 9007199254740992 := by
  have := weightL_le 30 8725724278030336 (by decide) (ktms ks) ks.length (fun t ht => by
    obtain ⟨x, hx, rfl⟩ := List.mem_map.1 ht
    obtain ⟨i, hi, rfl⟩ := List.getElem_of_mem hx
    obtain ⟨b, o, B, e, _, _, _, _, _, _, _, _, hT, _⟩ := h i hi
    have := weight_le 30 w _ B e hT
    omega)
  omega
/-- what is too much -/
def heavyF (ks : List Kp) (fs : List Fc) (m : Nat) : Bool := decide (2500 < weightL (ftms fs) 30 (weightL (ktms ks) 30 ks.length + fs.length + m))
abbrev askV (A : Option Addr) (n c : Nat) (B : Option Addr) (m d : Nat) (C : Option Addr) (l e : Nat) : Array Value := #[.slice A n c, .slice B m d, .slice C l e]

set_option maxHeartbeats 2000000 in
theorem heavyF_any (ks : List Kp) (fs : List Fc) (m : Nat) (A B C : Option Addr) (c d e' : Nat) (w : World) (hk : ks.length * 80 ≤ 140737488351232) (hf : fs.length * 72 ≤ 140737488351232) (hm : m * 8 ≤ 140737488351232) (hK : KpsAt w ks A) (hF : FcsAt w fs B) :
    Calls Try.prog 5 #[.agg (askV A ks.length c B fs.length d C m e')] w fun e w' => e = .returned (.bool (heavyF ks fs m)) ∧ Ext w w' := by
  have HH : Hid (heavyF ks fs m = decide (2500 < weightL (ftms fs) 30 (weightL (ktms ks) 30 ks.length + fs.length + m))) := Lib.hid rfl
  generalize heavyF ks fs m = RES at HH ⊢
  obtain ⟨W1, hW1⟩ : ∃ W1, W1 = w.alloc (.cells (askV A ks.length c B fs.length d C m e') 26) := ⟨_, rfl⟩
  have hx1 : Ext w W1 := by rw [hW1]; exact (Ext.refl w).alloc _
  have q0 : W1.cell? ⟨w.heap.size, 0, none⟩ = some (.slice A ks.length c) := by rw [hW1]; go_simp
  have q1 : W1.cell? ⟨w.heap.size, 1, none⟩ = some (.slice B fs.length d) := by rw [hW1]; go_simp
  have q2 : W1.cell? ⟨w.heap.size, 2, none⟩ = some (.slice C m e') := by rw [hW1]; go_simp
  have KW := Lib.hid (fun u (k : Ext W1 u) => kpw_any ks A c u hk ((hK.ext hx1).ext k))
  obtain ⟨hb0, hb1⟩ := kpw_bd hk hK
  have HW := Lib.hid hW1
  have HF := Lib.hid (hF.ext hx1)
  clear hW1 hK hF
  generalize weightL (ktms ks) 30 ks.length = KW0 at *
  obtain ⟨N0, hN0⟩ : ∃ N0 : Int, N0 = KW0 + fs.length + m := ⟨_, rfl⟩
  have hN1 : 0 ≤ N0 ∧ N0 ≤ 9100000000000000 := by omega
  rw [← hN0] at HH
  have HN0 := Lib.hid hN0
  go_enter Try.func5, Try.ntmps5
  go_upto_region 1 with (fail)
  rw [← HW.out]
  obtain ⟨g, hg⟩ : ∃ g, g = w.heap.size := ⟨_, rfl⟩
  rw [← hg] at q0 q1 q2
  rw [← hg]
  clear HW hg hN0
  go_cut [3] (fun v wx => v = .int .i64 N0 ∧ Ext W1 wx)
  case first =>
    have d0 : ∀ p : ExtOf W1, p.to.cell? _ = _ := ext_cell q0
    have d1 : ∀ p : ExtOf W1, p.to.cell? _ = _ := ext_cell q1
    have d2 : ∀ p : ExtOf W1, p.to.cell? _ = _ := ext_cell q2
    refine wp_region_ext (by kernel_rfl) (by kernel_rfl) ?_
    repeat (go_big_quiet_step ((go_at_call 16; with_reducible exact of_ext (KW.out _ (ExtOf.is _)))))
    refine wpQuiet_nil ?_
    refine ext_all ?_
    intro w3 hx3
    clear d0 d1 d2
    go_wp2_with fail
    go_meet
    exact ⟨by rw [HN0.out], hx3⟩
  case rest =>
    obtain ⟨rfl, hx2⟩ := hcut
    obtain ⟨w2, hw2⟩ : ∃ w2 : World, w2 = wc := ⟨_, rfl⟩
    rw [← hw2] at hx2
    rw [← hw2]
    replace q1 := hx2.cell q1
    have hF2 := HF.out.ext hx2
    have HX2 := Lib.hid (hx1.trans hx2)
    have H0 : Hid (decide (2500 < weightL ((ftms fs).drop 0) 30 N0) = RES) := Lib.hid (by rw [List.drop_zero, HH.out])
    clear hw2 hx2 hx1 q0 q2 HF KW HH HN0 hb0 hb1 hk hm
    go_wp2_with fail
    go_loopw [3, 4] (fun m i wr => ∃ (k : Nat) (n : Int), k ≤ fs.length ∧ 0 ≤ n ∧ n ≤ 9100000000000000 ∧ i = .int .i64 k ∧ m = .int .i64 n ∧ Hid (decide (2500 < weightL ((ftms fs).drop k) 30 n) = RES) ∧
      Ext w2 wr) (fun _ i _ => fs.length - (intOf i).toNat)
    case atStart => exact ⟨0, _, Nat.zero_le _, hN1.1, hN1.2, rfl, rfl, H0, Ext.refl _⟩
    case round =>
      obtain ⟨k, n, hk, hn0, hn1, rfl, rfl, H, hx⟩ := hrel
      have p1 := hx.cell q1
      by_cases hlt : k < fs.length
      · obtain ⟨b, o, B', e, rfl, c0, c1, c2, c3, c4, c5, hsub⟩ := (hF2.ext hx) k hlt
        have hb := weight_le 30 _ _ _ _ hsub
        have H2 : Hid (decide (2500 < (if n < 1048576 then weightL ((ftms fs).drop (k + 1)) 30 (n + weightT fs[k].tm 30) else n)) = RES) := by
          have := H.out
          rw [ftms_drop hlt, weightL] at this
          exact Lib.hid this
        have hki : (k : Int) < (fs.length : Int) := by omega
        have hk0 : (0 : Int) ≤ (k : Int) := by omega
        clear H H0
        by_cases hn : n < 1048576
        · go_wp2_with fail
          refine (weight_any 30 _ _ _ _ _ (Lib.hid rfl) (by omega) hsub).mono ?_
          rintro e w3 ⟨rfl, hx3⟩
          go_wp2_with fail
          go_roundw
          case rel => exact ⟨k + 1, n + weightT fs[k].tm 30, by omega, by omega, by omega, by go_num, rfl, Lib.hid (by have := H2.out; rwa [if_pos (by omega)] at this), hx.trans hx3⟩
          case measure => simp [intOf]; omega
        · have hn' : decide (n < 1048576) = false := decide_eq_false hn
          have HR : Hid (decide (2500 < n) = RES) := Lib.hid (by have := H2.out; rwa [if_neg (by omega)] at this)
          go_wp2_with fail
          go_ret
          exact ⟨ret_bool HR.out, HX2.out.trans hx⟩
      · have hki : ¬ ((k : Int) < (fs.length : Int)) := by omega
        have HR : Hid (decide (2500 < n) = RES) := Lib.hid (by have := H.out; rwa [List.drop_eq_nil_of_le (by simp [ftms]; omega), weightL] at this)
        go_wp2_with fail
        go_ret
        exact ⟨ret_bool HR.out, HX2.out.trans hx⟩
/-- what is not too much is small -/
theorem light_facts {ks : List Kp} {fs : List Fc} {m : Nat} (h : heavyF ks fs m = false) : ks.length ≤ 2500 ∧ fs.length ≤ 2500 ∧ m ≤ 2500 ∧ (∀ x ∈ fs, x.tm.high ≤ 30) ∧ ∀ x ∈ ks, x.fc.tm.high ≤ 30 := by
  unfold heavyF at h
  have h0 := of_decide_eq_false h
  have hw := weightT_pos 30
  have g1 := weightL_ge 30 hw (ktms ks) ks.length
  have g2 := weightL_ge 30 hw (ftms fs) (weightL (ktms ks) 30 ks.length + fs.length + m)
  refine ⟨by omega, by omega, by omega, fun x hx => ?_, fun x hx => ?_⟩
  · exact weight_high 30 x.tm (weightL_each 30 (ftms fs) (weightL (ktms ks) 30 ks.length + fs.length + m) (by omega) (by omega) _ (List.mem_map.2 ⟨x, hx, rfl⟩))
  · exact weight_high 30 x.fc.tm (weightL_each 30 (ktms ks) ks.length (by omega) (by omega) _ (List.mem_map.2 ⟨x, hx, rfl⟩))
end Go.Proofs.Ytcfhokejfibgoaa
