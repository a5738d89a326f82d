/- The page's Find, Since, Named. -/
import Derived.Test.YtkdhpifjljkpfaaGreatFyb
import Derived.Test.YtkdhpifjljkpfaaGreatFky
namespace Go.Proofs.YtkdhpifjljkpfaaGreat
open Go.RowKit

def FindTo (ks : List Kp) (x : Fc) (w : World) (e : Ending) (w' : World) : Prop := ∃ r : Int, e = .returned (.int .i64 r) ∧ ((∃ i, ∃ h : i < ks.length, r = i ∧ ks[i].fc = x) ∨ (r = -1 ∧ ∀ i (h : i < ks.length), ks[i].fc ≠ x)) ∧ Ext w w'
set_option maxRecDepth 100000 in
set_option maxHeartbeats 4000000 in
theorem rFind_any (ks : List Kp) (x : Fc) (A B : Option Addr) (c d : Nat) (w : World) (hl : ks.length ≤ 1000000) (h : KpsAt w ks A) (hx : TmAt w x.tm B d) :
    Calls Tryz.prog 15 #[.slice A ks.length c, x.val B d] w (FindTo ks x w) := by
  have HO : Hid (∀ e w', FindTo ks x w e w' = ∃ r : Int, e = .returned (.int .i64 r) ∧ ((∃ i, ∃ h : i < ks.length, r = i ∧ ks[i].fc = x) ∨ (r = -1 ∧ ∀ i (h : i < ks.length), ks[i].fc ≠ x)) ∧ Ext w w') := Lib.hid fun _ _ => rfl
  generalize FindTo ks x w = Z at HO ⊢
  obtain ⟨W0, hW0⟩ : ∃ W0, W0 = w.alloc (.cells #[.int .i64 x.tm.kind, .string x.tm.name, .int .i64 x.tm.n, .slice B x.tm.args.length d, .int .i64 x.fr, .int .i64 x.til] 44) := ⟨_, rfl⟩
  have hx0 : Ext w W0 := by rw [hW0]; exact (Ext.refl w).alloc _
  have q0 : W0.cell? ⟨w.heap.size, 0, none⟩ = some (.int .i64 x.tm.kind) := by rw [hW0]; go_simp
  have q1 : W0.cell? ⟨w.heap.size, 1, none⟩ = some (.string x.tm.name) := by rw [hW0]; go_simp
  have q2 : W0.cell? ⟨w.heap.size, 2, none⟩ = some (.int .i64 x.tm.n) := by rw [hW0]; go_simp
  have q3 : W0.cell? ⟨w.heap.size, 3, none⟩ = some (.slice B x.tm.args.length d) := by rw [hW0]; go_simp
  have q4 : W0.cell? ⟨w.heap.size, 4, none⟩ = some (.int .i64 x.fr) := by rw [hW0]; go_simp
  have q5 : W0.cell? ⟨w.heap.size, 5, none⟩ = some (.int .i64 x.til) := by rw [hW0]; go_simp
  have HK := Lib.hid (h.ext hx0)
  have HT := Lib.hid (hx.ext hx0)
  have HX0 := Lib.hid hx0
  have HW := Lib.hid hW0
  clear hW0 h hx hx0
  go_enter Tryz.func15, Tryz.ntmps15
  go_upto_region 1 with (fail)
  rw [← HW.out]
  obtain ⟨g, hg⟩ : ∃ g, g = w.heap.size := ⟨_, rfl⟩
  rw [← hg] at q0 q1 q2 q3 q4 q5
  rw [← hg]
  clear HW hg
  go_wp2_with fail
  go_loopw [5] (fun i wr => ∃ k : Nat, k ≤ ks.length ∧ i = .int .i64 k ∧ Hid (∀ i (h : i < ks.length), i < k → ks[i].fc ≠ x) ∧ Ext W0 wr) (fun i _ => ks.length - (intOf i).toNat)
  case atStart => exact ⟨0, Nat.zero_le _, rfl, Lib.hid fun i _ hi => absurd hi (by omega), Ext.refl _⟩
  case round =>
    obtain ⟨k, hk, rfl, HN, hxr⟩ := hrel
    by_cases hlt : k < ks.length
    · obtain ⟨b, o, C, e, rfl, c0, c1, c2, c3, c4, c5, c6, hsub, hwf⟩ := (HK.out.ext hxr) k hlt
      have hki : (k : Int) < (ks.length : Int) := by omega
      have hk0 : (0 : Int) ≤ (k : Int) := by omega
      have HX := Lib.hid hxr
      have KE := Lib.hid (fun u (k' : Ext wr u) => eqFact_any ks[k].fc x C B e d u (hsub.ext k') (HT.out.ext (hxr.trans k')))
      have HF : Hid (∀ y : Fc, y = ks[k].fc → eqF y x = true → ks[k].fc = x) := Lib.hid fun y e1 e2 => by rw [← e1]; exact (eqF_iff _ _).1 e2
      have HG : Hid (∀ y : Fc, y = ks[k].fc → eqF y x = false → ∀ i (h : i < ks.length), i < k + 1 → ks[i].fc ≠ x) := Lib.hid fun y e1 e2 i hi hik => by
        by_cases e : i = k
        · subst e
          intro h9
          rw [e1, (eqF_iff _ _).2 h9] at e2
          cases e2
        · exact HN.out i hi (by omega)
      obtain ⟨y, hy⟩ : ∃ y : Fc, y = ks[k].fc := ⟨_, rfl⟩
      rw [← hy] at c1 c2 c3 c4 c5 c6 KE
      have HY := Lib.hid hy
      have HL := Lib.hid hlt
      have r0 := hxr.cell q0
      have r1 := hxr.cell q1
      have r2 := hxr.cell q2
      have r3 := hxr.cell q3
      have r4 := hxr.cell q4
      have r5 := hxr.cell q5
      have d1 : ∀ p : ExtOf wr, p.to.cell? _ = _ := ext_cell c1
      have d2 : ∀ p : ExtOf wr, p.to.cell? _ = _ := ext_cell c2
      have d3 : ∀ p : ExtOf wr, p.to.cell? _ = _ := ext_cell c3
      have d4 : ∀ p : ExtOf wr, p.to.cell? _ = _ := ext_cell c4
      have d5 : ∀ p : ExtOf wr, p.to.cell? _ = _ := ext_cell c5
      have d6 : ∀ p : ExtOf wr, p.to.cell? _ = _ := ext_cell c6
      have g0 : ∀ p : ExtOf wr, p.to.cell? _ = _ := ext_cell r0
      have g1 : ∀ p : ExtOf wr, p.to.cell? _ = _ := ext_cell r1
      have g2 : ∀ p : ExtOf wr, p.to.cell? _ = _ := ext_cell r2
      have g3 : ∀ p : ExtOf wr, p.to.cell? _ = _ := ext_cell r3
      have g4 : ∀ p : ExtOf wr, p.to.cell? _ = _ := ext_cell r4
      have g5 : ∀ p : ExtOf wr, p.to.cell? _ = _ := ext_cell r5
      clear hsub hwf hxr r0 r1 r2 r3 r4 r5 c0 c1 c2 c3 c4 c5 c6 hy
      cases hee : eqF y x with
      | true =>
        have HFF : Hid (∃ i, ∃ h : i < ks.length, (k : Int) = i ∧ ks[i].fc = x) := Lib.hid ⟨k, HL.out, rfl, HF.out y HY.out hee⟩
        rw [hee] at KE
        clear hee HF HG
        go_wp2_with fail
        refine wp_region_ext (by kernel_rfl) (by kernel_rfl) ?_
        repeat (go_big_quiet_step ((go_at_call 29; with_reducible exact of_ext (KE.out _ (ExtOf.is _)))))
        refine wpQuiet_nil ?_
        refine ext_all ?_
        intro w3 hx3
        have HX3 := Lib.hid (HX0.out.trans (HX.out.trans hx3))
        clear hx3 d1 d2 d3 d4 d5 d6 g0 g1 g2 g3 g4 g5 KE q0 q1 q2 q3 q4 q5
        go_wp2_with fail
        rw [HO.out]
        exact ⟨_, rfl, .inl HFF.out, HX3.out⟩
      | false =>
        have HGG := Lib.hid (HG.out y HY.out hee)
        rw [hee] at KE
        clear hee HF HG
        go_wp2_with fail
        refine wp_region_ext (by kernel_rfl) (by kernel_rfl) ?_
        repeat (go_big_quiet_step ((go_at_call 29; with_reducible exact of_ext (KE.out _ (ExtOf.is _)))))
        refine wpQuiet_nil ?_
        refine ext_all ?_
        intro w3 hx3
        have HX3 := Lib.hid (HX.out.trans hx3)
        clear hx3 d1 d2 d3 d4 d5 d6 g0 g1 g2 g3 g4 g5 KE q0 q1 q2 q3 q4 q5
        go_wp2_with fail
        go_roundw
        case rel => exact ⟨k + 1, HL.out, by have := HL.out; go_num, HGG, HX3.out⟩
        case measure => have := HL.out; simp [intOf]; omega
    · have hki : ¬ (k : Int) < (ks.length : Int) := by omega
      have HX3 := Lib.hid (HX0.out.trans hxr)
      have HNN : Hid (∀ i (h : i < ks.length), ks[i].fc ≠ x) := Lib.hid fun i hi => HN.out i hi (by omega)
      clear hxr q0 q1 q2 q3 q4 q5
      go_wp2_with fail
      rw [HO.out]
      exact ⟨_, rfl, .inr ⟨rfl, HNN.out⟩, HX3.out⟩

theorem filter_yes {p : Kp → Bool} {ks : List Kp} {k : Nat} (h : k < ks.length) (hp : p ks[k] = true) : (ks.take k).filter p ++ [ks[k]] = (ks.take (k + 1)).filter p := by
  rw [List.take_succ_eq_append_getElem h, List.filter_append, List.filter_cons_of_pos hp, List.filter_nil]
theorem filter_no {p : Kp → Bool} {ks : List Kp} {k : Nat} (h : k < ks.length) (hp : p ks[k] = false) : (ks.take k).filter p = (ks.take (k + 1)).filter p := by
  rw [List.take_succ_eq_append_getElem h, List.filter_append, List.filter_cons_of_neg (by simp [hp]), List.filter_nil, List.append_nil]
theorem filter_le (p : Kp → Bool) (ks : List Kp) (k : Nat) : ((ks.take k).filter p).length ≤ k := Nat.le_trans (List.length_filter_le _ _) (by simp; omega)
def sinceB (t : Int) (x : Kp) : Bool := decide (t ≤ x.fc.fr)
def namedB (s : ByteArray) (n : Int) (x : Kp) : Bool := (x.fc.tm.name.toList == s.toList) && ((x.fc.tm.args.length : Int) == n)

set_option maxRecDepth 100000 in
set_option maxHeartbeats 8000000 in
theorem rSince_any (ks : List Kp) (t : Int) (A : Option Addr) (c : Nat) (w : World) (hl : ks.length ≤ 1000000) (h : KpsAt w ks A) :
    Calls Tryz.prog 24 #[.slice A ks.length c, .int .i64 t] w (KCopied (ks.filter (sinceB t)) w) := by
  obtain ⟨i0, hi0, hz0, hz1, hz2⟩ := info_parts infoKp
  obtain ⟨p, hp⟩ : ∃ p : Kp → Bool, p = sinceB t := ⟨_, rfl⟩
  rw [← hp]
  have HP : Hid (∀ x : Kp, p x = sinceB t x) := Lib.hid fun x => by rw [hp]
  clear hp
  go_enter Tryz.func24, Tryz.ntmps24
  go_wp2_with fail
  go_loopw [5, 6] (fun v i wr => ∃ (k : Nat) (zs : List KLain) (G : Nat → Nat → Prop), k ≤ ks.length ∧ i = .int .i64 k ∧ KOwned ((ks.take k).filter p) w wr v zs G) (fun _ i _ => ks.length - (intOf i).toNat)
  case atStart => exact ⟨0, [], fun _ _ => False, Nat.zero_le _, rfl, ⟨by simp, World.ownsRow_nil _ _ _ _, ⟨fun i hi => absurd hi (by simp), fun i hi => absurd hi (by simp), fun i j hi => absurd hi (by simp), Ext.refl _⟩, fun z hz => by cases hz⟩⟩
  case round =>
    obtain ⟨k, zs, G, hk, rfl, hKO⟩ := hrel
    have hx := hKO.inv.ext
    by_cases hlt : k < ks.length
    · obtain ⟨b, o, B, e, rfl, c0, c1, c2, c3, c4, c5, c6, hsub, hwf⟩ := (h.ext hx) k hlt
      have hki : (k : Int) < (ks.length : Int) := by omega
      have hk0 : (0 : Int) ≤ (k : Int) := by omega
      have KC := Lib.hid (copyKept_any ks[k] B e wr hsub)
      have HY : Hid (p ks[k] = true → (ks.take k).filter p ++ [ks[k]] = (ks.take (k + 1)).filter p) := Lib.hid fun h9 => filter_yes hlt h9
      have HNO : Hid (p ks[k] = false → (ks.take k).filter p = (ks.take (k + 1)).filter p) := Lib.hid fun h9 => filter_no hlt h9
      have htl := filter_le p ks k
      have HTL := Lib.hid htl
      have HWF := Lib.hid hwf
      have HKO := Lib.hid hKO
      have hown := hKO.own
      have HK := Lib.hid hlt
      have HPQ := Lib.hid (HP.out ks[k])
      generalize ks[k] = q at *
      generalize (ks.take k).filter p = tk at *
      clear hsub hwf htl hKO
      cases hb : decide (t ≤ q.fc.fr) with
      | true =>
        have HQ := Lib.hid (HY.out (by rw [HPQ.out]; exact hb))
        clear HY HNO HPQ
        go_wp2_with fail
        refine KC.out.mono ?_
        rintro e1 w1 ⟨A', c', rfl, hO, hx1⟩
        have hown1 := ownsRow_ext hown hx1
        have hsz := hx.size
        have hsz1 := hx1.size
        have hn1 : tk.length + 1 ≤ 1000001 := by have := HTL.out; omega
        clear c0 c1 c2 c3 c4 c5 c6
        go_wp2_with (at_builtin; refine wpList_append_own_at _ rfl _ _ 22 rfl w.heap.size 50 i0 _ 7 80 Tryz.underlying22 hi0 hz0 hz1 hz2 rfl (by decide) _ tk.length (Krow zs) rfl (hown1.alloc _) ⟨w1.heap.size, 0, none⟩ 1 1 (KLain.cells (q, A', c')) rfl rfl ?c1 ?c2 ?c3 ?c4 ?c5 ?_)
        case c1 => exact World.news_of_block (cs := #[.int .i64 q.seq, .int .i64 q.fc.tm.kind, .string q.fc.tm.name, .int .i64 q.fc.tm.n, .slice A' q.fc.tm.args.length c', .int .i64 q.fc.fr, .int .i64 q.fc.til]) (t := 50) (fr := (0, 0)) (heap_alloc_new w1 _)
        case c2 => exact KLain.one _
        case c3 => simp only [maxLen]; omega
        case c4 => omega
        case c5 => simp; omega
        intro v' w4 hown4 hgrow _ hat
        have hat' : v'.ownBlock = u5.ownBlock ∨ v'.ownBlock = some (w1.heap.size + 1) := by simpa using hat
        obtain ⟨G', hKO'⟩ := KOwned.snoc HKO.out hO hx1 hgrow hat' hown4 HWF.out
        rw [HQ.out] at hKO'
        have HF := Lib.hid hKO'
        clear hKO' hat hat' hgrow hown1 hown hown4 hO hx1 hx hn1
        go_wp2_with fail
        go_roundw
        case rel => exact ⟨k + 1, _, G', HK.out, by have := HK.out; go_num, HF.out⟩
        case measure => have := HK.out; simp [intOf]; omega
      | false =>
        have HQ := Lib.hid (HNO.out (by rw [HPQ.out]; exact hb))
        clear HY HNO HPQ
        rw [HQ.out] at HKO
        have HF := Lib.hid HKO.out
        clear HKO hown hx KC
        go_wp2_with fail
        go_roundw
        case rel => exact ⟨k + 1, _, G, HK.out, by have := HK.out; go_num, HF.out⟩
        case measure => have := HK.out; simp [intOf]; omega
    · have hki : ¬ (k : Int) < (ks.length : Int) := by omega
      have HF : Hid (KCopied (ks.filter p) w (.returned u5) wr) := Lib.hid ⟨_, zs, G, rfl, by rw [List.take_of_length_le (show ks.length ≤ k by omega)] at hKO; exact hKO⟩
      clear hKO hx
      go_wp2_with fail
      go_ret
      exact HF.out

set_option maxRecDepth 100000 in
set_option maxHeartbeats 8000000 in
theorem rNamed_any (ks : List Kp) (s : ByteArray) (n : Int) (A : Option Addr) (c : Nat) (w : World) (hl : ks.length ≤ 1000000) (h : KpsAt w ks A) :
    Calls Tryz.prog 22 #[.slice A ks.length c, .string s, .int .i64 n] w (KCopied (ks.filter (namedB s n)) w) := by
  obtain ⟨i0, hi0, hz0, hz1, hz2⟩ := info_parts infoKp
  obtain ⟨p, hp⟩ : ∃ p : Kp → Bool, p = namedB s n := ⟨_, rfl⟩
  rw [← hp]
  have HP : Hid (∀ x : Kp, p x = namedB s n x) := Lib.hid fun x => by rw [hp]
  clear hp
  go_enter Tryz.func22, Tryz.ntmps22
  go_wp2_with fail
  go_loopw [7, 8] (fun v i wr => ∃ (k : Nat) (zs : List KLain) (G : Nat → Nat → Prop), k ≤ ks.length ∧ i = .int .i64 k ∧ KOwned ((ks.take k).filter p) w wr v zs G) (fun _ i _ => ks.length - (intOf i).toNat)
  case atStart => exact ⟨0, [], fun _ _ => False, Nat.zero_le _, rfl, ⟨by simp, World.ownsRow_nil _ _ _ _, ⟨fun i hi => absurd hi (by simp), fun i hi => absurd hi (by simp), fun i j hi => absurd hi (by simp), Ext.refl _⟩, fun z hz => by cases hz⟩⟩
  case round =>
    obtain ⟨k, zs, G, hk, rfl, hKO⟩ := hrel
    have hx := hKO.inv.ext
    by_cases hlt : k < ks.length
    · obtain ⟨b, o, B, e, rfl, c0, c1, c2, c3, c4, c5, c6, hsub, hwf⟩ := (h.ext hx) k hlt
      have hki : (k : Int) < (ks.length : Int) := by omega
      have hk0 : (0 : Int) ≤ (k : Int) := by omega
      have KC := Lib.hid (copyKept_any ks[k] B e wr hsub)
      have HY : Hid (p ks[k] = true → (ks.take k).filter p ++ [ks[k]] = (ks.take (k + 1)).filter p) := Lib.hid fun h9 => filter_yes hlt h9
      have HNO : Hid (p ks[k] = false → (ks.take k).filter p = (ks.take (k + 1)).filter p) := Lib.hid fun h9 => filter_no hlt h9
      have htl := filter_le p ks k
      have HTL := Lib.hid htl
      have HWF := Lib.hid hwf
      have HKO := Lib.hid hKO
      have hown := hKO.own
      have HK := Lib.hid hlt
      have HPQ := Lib.hid (HP.out ks[k])
      generalize ks[k] = q at *
      generalize (ks.take k).filter p = tk at *
      clear hsub hwf htl hKO
      cases hb : (q.fc.tm.name.toList == s.toList) with
      | true =>
        cases hb2 : ((q.fc.tm.args.length : Int) == n) with
        | true =>
          have HQ := Lib.hid (HY.out (by rw [HPQ.out]; unfold namedB; rw [hb, hb2]; rfl))
          clear HY HNO HPQ
          go_wp2_with fail
          refine KC.out.mono ?_
          rintro e1 w1 ⟨A', c', rfl, hO, hx1⟩
          have hown1 := ownsRow_ext hown hx1
          have hsz := hx.size
          have hsz1 := hx1.size
          have hn1 : tk.length + 1 ≤ 1000001 := by have := HTL.out; omega
          clear c0 c1 c2 c3 c4 c5 c6
          go_wp2_with (at_builtin; refine wpList_append_own_at _ rfl _ _ 22 rfl w.heap.size 50 i0 _ 7 80 Tryz.underlying22 hi0 hz0 hz1 hz2 rfl (by decide) _ tk.length (Krow zs) rfl (hown1.alloc _) ⟨w1.heap.size, 0, none⟩ 1 1 (KLain.cells (q, A', c')) rfl rfl ?c1 ?c2 ?c3 ?c4 ?c5 ?_)
          case c1 => exact World.news_of_block (cs := #[.int .i64 q.seq, .int .i64 q.fc.tm.kind, .string q.fc.tm.name, .int .i64 q.fc.tm.n, .slice A' q.fc.tm.args.length c', .int .i64 q.fc.fr, .int .i64 q.fc.til]) (t := 50) (fr := (0, 0)) (heap_alloc_new w1 _)
          case c2 => exact KLain.one _
          case c3 => simp only [maxLen]; omega
          case c4 => omega
          case c5 => simp; omega
          intro v' w4 hown4 hgrow _ hat
          have hat' : v'.ownBlock = u7.ownBlock ∨ v'.ownBlock = some (w1.heap.size + 1) := by simpa using hat
          obtain ⟨G', hKO'⟩ := KOwned.snoc HKO.out hO hx1 hgrow hat' hown4 HWF.out
          rw [HQ.out] at hKO'
          have HF := Lib.hid hKO'
          clear hKO' hat hat' hgrow hown1 hown hown4 hO hx1 hx hn1
          go_wp2_with fail
          go_roundw
          case rel => exact ⟨k + 1, _, G', HK.out, by have := HK.out; go_num, HF.out⟩
          case measure => have := HK.out; simp [intOf]; omega
        | false =>
          have HQ := Lib.hid (HNO.out (by rw [HPQ.out]; unfold namedB; rw [hb, hb2]; rfl))
          clear HY HNO HPQ
          rw [HQ.out] at HKO
          have HF := Lib.hid HKO.out
          clear HKO hown hx KC
          go_wp2_with fail
          go_roundw
          case rel => exact ⟨k + 1, _, G, HK.out, by have := HK.out; go_num, HF.out⟩
          case measure => have := HK.out; simp [intOf]; omega
      | false =>
        have HQ := Lib.hid (HNO.out (by rw [HPQ.out]; unfold namedB; rw [hb]; rfl))
        clear HY HNO HPQ
        rw [HQ.out] at HKO
        have HF := Lib.hid HKO.out
        clear HKO hown hx KC
        go_wp2_with fail
        go_roundw
        case rel => exact ⟨k + 1, _, G, HK.out, by have := HK.out; go_num, HF.out⟩
        case measure => have := HK.out; simp [intOf]; omega
    · have hki : ¬ (k : Int) < (ks.length : Int) := by omega
      have HF : Hid (KCopied (ks.filter p) w (.returned u7) wr) := Lib.hid ⟨_, zs, G, rfl, by rw [List.take_of_length_le (show ks.length ≤ k by omega)] at hKO; exact hKO⟩
      clear hKO hx
      go_wp2_with fail
      go_ret
      exact HF.out

end Go.Proofs.YtkdhpifjljkpfaaGreat
