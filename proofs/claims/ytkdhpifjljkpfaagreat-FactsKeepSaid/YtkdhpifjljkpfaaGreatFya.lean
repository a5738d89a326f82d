/- facts.Since, Named: those chosen, in new memory. -/
import Derived.Test.YtkdhpifjljkpfaaGreatFyc
namespace Go.Proofs.YtkdhpifjljkpfaaGreat
open Go.RowKit

set_option maxHeartbeats 1000000 in
theorem since1_any (x : Fc) (A : Option Addr) (c : Nat) (t : Int) (g : Nat) (w : World) (h : w.cell? ⟨g, 0, none⟩ = some (.int .i64 t)) :
    Calls Tryz.prog 47 #[x.val A c, .pointer (some ⟨g, 0, none⟩)] w fun e w' => e = .returned (.bool (decide (t ≤ x.fr))) ∧ Ext w w' := by
  have hx : Ext w (w.alloc (.cells #[.int .i64 x.tm.kind, .string x.tm.name, .int .i64 x.tm.n, .slice A x.tm.args.length c, .int .i64 x.fr, .int .i64 x.til] 44)) := (Ext.refl w).alloc _
  have h2 := hx.cell h
  go_enter Tryz.func47, Tryz.ntmps47
  go_wp2_with fail
  go_ret
  exact ⟨rfl, hx⟩
def namedF (s : ByteArray) (n : Int) (x : Fc) : Bool := (x.tm.name.toList == s.toList) && ((x.tm.args.length : Int) == n)
set_option maxHeartbeats 1000000 in
theorem named1_any (x : Fc) (A : Option Addr) (c : Nat) (s : ByteArray) (n : Int) (g g2 : Nat) (w : World) (h : w.cell? ⟨g, 0, none⟩ = some (.string s)) (k : w.cell? ⟨g2, 0, none⟩ = some (.int .i64 n)) :
    Calls Tryz.prog 46 #[x.val A c, .pointer (some ⟨g, 0, none⟩), .pointer (some ⟨g2, 0, none⟩)] w fun e w' => e = .returned (.bool (namedF s n x)) ∧ Ext w w' := by
  have hx : Ext w (w.alloc (.cells #[.int .i64 x.tm.kind, .string x.tm.name, .int .i64 x.tm.n, .slice A x.tm.args.length c, .int .i64 x.fr, .int .i64 x.til] 44)) := (Ext.refl w).alloc _
  have h2 := hx.cell h
  have h3 := hx.cell k
  have HN : Hid (namedF s n x = ((x.tm.name.toList == s.toList) && ((x.tm.args.length : Int) == n))) := Lib.hid rfl
  cases hb : (x.tm.name.toList == s.toList) with
  | true =>
    have HB := Lib.hid hb
    go_enter Tryz.func46, Tryz.ntmps46
    go_wp2_with fail
    go_ret
    exact ⟨ret_bool (by rw [HN.out, HB.out]; rfl), hx⟩
  | false =>
    have HB := Lib.hid hb
    go_enter Tryz.func46, Tryz.ntmps46
    go_wp2_with fail
    go_ret
    exact ⟨ret_bool (by rw [HN.out, HB.out]; rfl), hx⟩

def ChTo (ks : List Kp) (p : Kp → Bool) (w : World) (e : Ending) (w' : World) : Prop :=
  (kpsB ks = true ∧ ∃ v zs G, e = .returned (.tuple #[v, .int .i64 0]) ∧ KOwned (ks.filter p) w w' v zs G) ∨ (kpsB ks = false ∧ e = .returned (.tuple #[.slice none 0 0, .int .i64 1]) ∧ Ext w w')
theorem ChTo.weak {ks : List Kp} {p : Kp → Bool} {w w1 w' : World} {e : Ending} (h : ChTo ks p w1 e w') (k : Ext w w1) : ChTo ks p w e w' := by
  rcases h with ⟨h1, v, zs, G, h2, h3⟩ | ⟨h1, h2, h3⟩
  · exact .inl ⟨h1, v, zs, G, h2, h3.weak k⟩
  · exact .inr ⟨h1, h2, k.trans h3⟩

set_option maxRecDepth 100000 in
set_option maxHeartbeats 8000000 in
theorem chosenS_any (ks : List Kp) (t : Int) (g : Nat) (A : Option Addr) (c : Nat) (w : World) (hc : ks.length ≤ c) (hl : ks.length ≤ 1000000) (h : KpsAt w ks A) (hg : w.cell? ⟨g, 0, none⟩ = some (.int .i64 t)) :
    Calls Tryz.prog 45 #[.slice A ks.length c, .func (.func 47) #[] #[.pointer (some ⟨g, 0, none⟩)]] w (ChTo ks (sinceB t) w) := by
  have HNO : Hid (∀ w', kpsB ks = false → Ext w w' → ChTo ks (sinceB t) w (.returned (.tuple #[.slice none 0 0, .int .i64 1])) w') := Lib.hid fun w' h hx => .inr ⟨h, rfl, hx⟩
  obtain ⟨p, hp⟩ : ∃ p : Kp → Bool, p = sinceB t := ⟨_, rfl⟩
  rw [← hp] at HNO ⊢
  have HP : Hid (∀ x : Kp, p x = decide (t ≤ x.fc.fr)) := Lib.hid fun x => by rw [hp]; rfl
  have HYES : Hid (∀ w' v zs G, kpsB ks = true → KOwned (ks.filter p) w w' v zs G → ChTo ks p w (.returned (.tuple #[v, .int .i64 0])) w') := Lib.hid fun w' v zs G h hk => .inl ⟨h, v, zs, G, rfl, hk⟩
  generalize ChTo ks p w = Z at HNO HYES ⊢
  clear hp
  obtain ⟨i0, hi0, hz0, hz1, hz2⟩ := info_parts infoKp
  have KC := Lib.hid (Check_any ks A c w hc hl h)
  have HH := Lib.hid h
  have HL := Lib.hid hl
  clear h hl hc
  go_enter Tryz.func45, Tryz.ntmps45
  go_wp2_with fail
  refine KC.out.mono ?_
  rintro e w1 ⟨rfl, hx1⟩
  cases hkb : kpsB ks with
  | false =>
    have HB : Hid (kpsB ks = false) := Lib.hid hkb
    have HX := Lib.hid hx1
    simp only [badE]
    clear hkb hx1 KC
    go_wp2_with fail
    exact HNO.out _ HB.out HX.out
  | true =>
    have HB : Hid (kpsB ks = true) := Lib.hid hkb
    have HM := Lib.hid (kpsB_all hkb).2
    have HX1 := Lib.hid hx1
    simp only [badE]
    clear hkb hx1 KC
    go_wp2_with fail
    go_loopw [6, 14, 8] (fun v i _ wr => ∃ (k : Nat) (zs : List KLain), k ≤ ks.length ∧ i = .int .i64 k ∧ Hid (zs.map (·.1) = (ks.take k).filter p) ∧ wr.ownsRow w1.heap.size 50 7 v zs.length (Krow zs) ∧ Hid (∀ z ∈ zs, TmAt w1 z.1.fc.tm z.2.1 z.2.2 ∧ (Lit.int .i64 z.1.seq).wf = true) ∧ Ext w1 wr) (fun _ i _ _ => ks.length - (intOf i).toNat)
    case atStart => exact ⟨0, [], Nat.zero_le _, rfl, Lib.hid (by simp), World.ownsRow_nil _ _ _ _, Lib.hid (fun z hz => by cases hz), Ext.refl _⟩
    case round =>
      obtain ⟨k, zs, hk, rfl, HMP, hown, HZS, hx⟩ := hrel
      by_cases hlt : k < ks.length
      · obtain ⟨b, o, B, e, rfl, c0, c1, c2, c3, c4, c5, c6, hsub, hwf⟩ := (HH.out.ext HX1.out) k hlt
        replace c0 := hx.cell c0
        replace c1 := hx.cell c1
        replace c2 := hx.cell c2
        replace c3 := hx.cell c3
        replace c4 := hx.cell c4
        replace c5 := hx.cell c5
        replace c6 := hx.cell c6
        have hki : (k : Int) < (ks.length : Int) := by omega
        have hk0 : (0 : Int) ≤ (k : Int) := by omega
        have HY : Hid (p ks[k] = true → (ks.take k).filter p ++ [ks[k]] = (ks.take (k + 1)).filter p) := Lib.hid fun h9 => filter_yes hlt h9
        have HN : Hid (p ks[k] = false → (ks.take k).filter p = (ks.take (k + 1)).filter p) := Lib.hid fun h9 => filter_no hlt h9
        have hzl : zs.length ≤ k := by
          have h9 := congrArg List.length HMP.out
          rw [List.length_map] at h9
          have := filter_le p ks k
          omega
        have HSUB := Lib.hid hsub
        have HWF := Lib.hid hwf
        have HK := Lib.hid (And.intro hlt hlt)
        have HPQ := Lib.hid (HP.out ks[k])
        have HX := Lib.hid hx
        generalize ks[k] = q at *
        clear hsub hwf hlt
        go_upto_region 7 with (fail)
        obtain ⟨wb, hwb⟩ : ∃ wb, wb = wr.alloc (.cells #[.int .i64 q.seq, .int .i64 q.fc.tm.kind, .string q.fc.tm.name, .int .i64 q.fc.tm.n, .slice B q.fc.tm.args.length e, .int .i64 q.fc.fr, .int .i64 q.fc.til] 50) := ⟨_, rfl⟩
        rw [← hwb]
        have hxb : Ext wr wb := by rw [hwb]; exact (Ext.refl _).alloc _
        have n0 : wb.cell? ⟨wr.heap.size, 0, none⟩ = some (.int .i64 q.seq) := by rw [hwb]; go_simp
        have n1 : wb.cell? ⟨wr.heap.size, 1, none⟩ = some (.int .i64 q.fc.tm.kind) := by rw [hwb]; go_simp
        have n2 : wb.cell? ⟨wr.heap.size, 2, none⟩ = some (.string q.fc.tm.name) := by rw [hwb]; go_simp
        have n3 : wb.cell? ⟨wr.heap.size, 3, none⟩ = some (.int .i64 q.fc.tm.n) := by rw [hwb]; go_simp
        have n4 : wb.cell? ⟨wr.heap.size, 4, none⟩ = some (.slice B q.fc.tm.args.length e) := by rw [hwb]; go_simp
        have n5 : wb.cell? ⟨wr.heap.size, 5, none⟩ = some (.int .i64 q.fc.fr) := by rw [hwb]; go_simp
        have n6 : wb.cell? ⟨wr.heap.size, 6, none⟩ = some (.int .i64 q.fc.til) := by rw [hwb]; go_simp
        have KQ := Lib.hid (since1_any q.fc B e t g wb (hxb.cell (hx.cell (HX1.out.cell hg))))
        clear hwb c0 c1 c2 c3 c4 c5 c6 hx
        go_wp2_with fail
        refine KQ.out.mono ?_
        rintro e1 w2 ⟨rfl, hx2⟩
        replace n0 := hx2.cell n0
        replace n1 := hx2.cell n1
        replace n2 := hx2.cell n2
        replace n3 := hx2.cell n3
        replace n4 := hx2.cell n4
        replace n5 := hx2.cell n5
        replace n6 := hx2.cell n6
        have HX2 := Lib.hid (hxb.trans hx2)
        clear hx2 hxb KQ
        cases hb : decide (t ≤ q.fc.fr) with
        | false =>
          have HQ := Lib.hid (HN.out (by rw [HPQ.out]; exact hb))
          have HR : Hid (w2.ownsRow w1.heap.size 50 7 u6 zs.length (Krow zs)) := Lib.hid (ownsRow_ext hown HX2.out)
          have hkb : k < 1000000 := by have := HK.out.1; have := HL.out; omega
          clear hown n0 n1 n2 n3 n4 n5 n6 hb
          go_wp2_with fail
          go_roundw
          case rel => exact ⟨k + 1, zs, HK.out.1, by have := HK.out.1; have := HL.out; go_num, Lib.hid (by rw [HMP.out, HQ.out]), HR.out, HZS, HX.out.trans HX2.out⟩
          case measure => have := HK.out.1; have := HL.out; simp [intOf]; omega
        | true =>
          have HQ := Lib.hid (HY.out (by rw [HPQ.out]; exact hb))
          have hown1 := ownsRow_ext hown HX2.out
          have hsz1 := HX2.out.size
          have hszw := HX.out.size
          have hsz0 := HX1.out.size
          have hn1 : zs.length + 1 ≤ 1000001 := by have := HL.out; omega
          clear hown hb
          go_wp2_with (at_builtin; refine wpList_append_own_at _ rfl _ _ 22 rfl w1.heap.size 50 i0 _ 7 80 Tryz.underlying22 hi0 hz0 hz1 hz2 rfl (by decide) _ zs.length (Krow zs) rfl (hown1.alloc _) ⟨w2.heap.size, 0, none⟩ 1 1 (KLain.cells (q, B, e)) rfl rfl ?c1 ?c2 ?c3 ?c4 ?c5 ?_)
          case c1 => exact World.news_of_block (cs := #[.int .i64 q.seq, .int .i64 q.fc.tm.kind, .string q.fc.tm.name, .int .i64 q.fc.tm.n, .slice B q.fc.tm.args.length e, .int .i64 q.fc.fr, .int .i64 q.fc.til]) (t := 50) (fr := (0, 0)) (heap_alloc_new w2 _)
          case c2 => exact KLain.one _
          case c3 => simp only [maxLen]; omega
          case c4 => omega
          case c5 => simp; omega
          intro v' w4 hown4 hgrow _ hat
          have hxg : Ext w1 w4 := Below.grown ((HX.out.trans HX2.out).alloc _) hgrow (by simp; omega) (fun b hb => (hown1.lt b hb).1)
          have HO4 : Hid (w4.ownsRow w1.heap.size 50 7 v' (zs ++ [(q, B, e)]).length (Krow (zs ++ [(q, B, e)]))) := Lib.hid (by rw [Krow_app, Krow_one, List.length_append]; exact hown4)
          have HM4 : Hid ((zs ++ [(q, B, e)]).map (·.1) = (ks.take (k + 1)).filter p) := Lib.hid (by rw [List.map_append, HMP.out, ← HQ.out]; rfl)
          have HZ4 : Hid (∀ z ∈ zs ++ [(q, B, e)], TmAt w1 z.1.fc.tm z.2.1 z.2.2 ∧ (Lit.int .i64 z.1.seq).wf = true) := Lib.hid fun z hz => by
            rcases List.mem_append.1 hz with h9 | h9
            · exact HZS.out z h9
            · obtain rfl := List.mem_singleton.1 h9
              exact ⟨HSUB.out, HWF.out⟩
          have HXG := Lib.hid hxg
          have hkb : k < 1000000 := by have := HK.out.1; have := HL.out; omega
          clear hown1 hat hown4 hxg hgrow n0 n1 n2 n3 n4 n5 n6 hn1
          go_wp2_with fail
          go_roundw
          case rel => exact ⟨k + 1, _, HK.out.1, by have := HK.out.1; have := HL.out; go_num, HM4, HO4.out, HZ4, HXG.out⟩
          case measure => have := HK.out.1; have := HL.out; simp [intOf]; omega
      · have hki : ¬ (k : Int) < (ks.length : Int) := by omega
        obtain ⟨A2, c2, hv, hc2, hK2⟩ := Kowned hown (fun z hz => ⟨(HZS.out z hz).1.ext hx, (HZS.out z hz).2⟩)
        have hmp : zs.map (·.1) = ks.filter p := by rw [HMP.out, List.take_of_length_le (show ks.length ≤ k by omega)]
        have hzl : zs.length = (ks.filter p).length := by rw [← hmp, List.length_map]
        rw [hmp] at hK2
        rw [hzl] at hv
        subst hv
        have KCO := Lib.hid (copied_any (ks.filter p) A2 c2 wr (Nat.le_trans (List.length_filter_le _ _) HL.out) hK2 (fun i hi => by
          have hmem := (List.mem_filter.1 (List.getElem_mem hi)).1
          obtain ⟨j, hj, e9⟩ := List.getElem_of_mem hmem
          rw [← e9]
          exact HM.out j hj))
        have HX := Lib.hid (HX1.out.trans hx)
        generalize ks.filter p = fl at *
        clear hown hx hK2 hmp hzl hc2
        go_wp2_with fail
        refine KCO.out.mono ?_
        rintro e9 w9 ⟨v9, z9, G9, rfl, hO9⟩
        have HF := Lib.hid (hO9.weak HX.out)
        clear hO9 KCO
        go_wp2_with fail
        exact HYES.out _ _ _ _ HB.out HF.out

set_option maxRecDepth 100000 in
set_option maxHeartbeats 8000000 in
theorem chosenN_any (ks : List Kp) (s : ByteArray) (n : Int) (g g2 : Nat) (A : Option Addr) (c : Nat) (w : World) (hc : ks.length ≤ c) (hl : ks.length ≤ 1000000) (h : KpsAt w ks A) (hg : w.cell? ⟨g, 0, none⟩ = some (.string s)) (hg2 : w.cell? ⟨g2, 0, none⟩ = some (.int .i64 n)) :
    Calls Tryz.prog 45 #[.slice A ks.length c, .func (.func 46) #[] #[.pointer (some ⟨g, 0, none⟩), .pointer (some ⟨g2, 0, none⟩)]] w (ChTo ks (namedB s n) w) := by
  have HNO : Hid (∀ w', kpsB ks = false → Ext w w' → ChTo ks (namedB s n) w (.returned (.tuple #[.slice none 0 0, .int .i64 1])) w') := Lib.hid fun w' h hx => .inr ⟨h, rfl, hx⟩
  obtain ⟨p, hp⟩ : ∃ p : Kp → Bool, p = namedB s n := ⟨_, rfl⟩
  rw [← hp] at HNO ⊢
  have HP : Hid (∀ x : Kp, p x = namedF s n x.fc) := Lib.hid fun x => by rw [hp]; rfl
  have HYES : Hid (∀ w' v zs G, kpsB ks = true → KOwned (ks.filter p) w w' v zs G → ChTo ks p w (.returned (.tuple #[v, .int .i64 0])) w') := Lib.hid fun w' v zs G h hk => .inl ⟨h, v, zs, G, rfl, hk⟩
  generalize ChTo ks p w = Z at HNO HYES ⊢
  clear hp
  obtain ⟨i0, hi0, hz0, hz1, hz2⟩ := info_parts infoKp
  have KC := Lib.hid (Check_any ks A c w hc hl h)
  have HH := Lib.hid h
  have HL := Lib.hid hl
  clear h hl hc
  go_enter Tryz.func45, Tryz.ntmps45
  go_wp2_with fail
  refine KC.out.mono ?_
  rintro e w1 ⟨rfl, hx1⟩
  cases hkb : kpsB ks with
  | false =>
    have HB : Hid (kpsB ks = false) := Lib.hid hkb
    have HX := Lib.hid hx1
    simp only [badE]
    clear hkb hx1 KC
    go_wp2_with fail
    exact HNO.out _ HB.out HX.out
  | true =>
    have HB : Hid (kpsB ks = true) := Lib.hid hkb
    have HM := Lib.hid (kpsB_all hkb).2
    have HX1 := Lib.hid hx1
    simp only [badE]
    clear hkb hx1 KC
    go_wp2_with fail
    go_loopw [6, 14, 8] (fun v i _ wr => ∃ (k : Nat) (zs : List KLain), k ≤ ks.length ∧ i = .int .i64 k ∧ Hid (zs.map (·.1) = (ks.take k).filter p) ∧ wr.ownsRow w1.heap.size 50 7 v zs.length (Krow zs) ∧ Hid (∀ z ∈ zs, TmAt w1 z.1.fc.tm z.2.1 z.2.2 ∧ (Lit.int .i64 z.1.seq).wf = true) ∧ Ext w1 wr) (fun _ i _ _ => ks.length - (intOf i).toNat)
    case atStart => exact ⟨0, [], Nat.zero_le _, rfl, Lib.hid (by simp), World.ownsRow_nil _ _ _ _, Lib.hid (fun z hz => by cases hz), Ext.refl _⟩
    case round =>
      obtain ⟨k, zs, hk, rfl, HMP, hown, HZS, hx⟩ := hrel
      by_cases hlt : k < ks.length
      · obtain ⟨b, o, B, e, rfl, c0, c1, c2, c3, c4, c5, c6, hsub, hwf⟩ := (HH.out.ext HX1.out) k hlt
        replace c0 := hx.cell c0
        replace c1 := hx.cell c1
        replace c2 := hx.cell c2
        replace c3 := hx.cell c3
        replace c4 := hx.cell c4
        replace c5 := hx.cell c5
        replace c6 := hx.cell c6
        have hki : (k : Int) < (ks.length : Int) := by omega
        have hk0 : (0 : Int) ≤ (k : Int) := by omega
        have HY : Hid (p ks[k] = true → (ks.take k).filter p ++ [ks[k]] = (ks.take (k + 1)).filter p) := Lib.hid fun h9 => filter_yes hlt h9
        have HN : Hid (p ks[k] = false → (ks.take k).filter p = (ks.take (k + 1)).filter p) := Lib.hid fun h9 => filter_no hlt h9
        have hzl : zs.length ≤ k := by
          have h9 := congrArg List.length HMP.out
          rw [List.length_map] at h9
          have := filter_le p ks k
          omega
        have HSUB := Lib.hid hsub
        have HWF := Lib.hid hwf
        have HK := Lib.hid (And.intro hlt hlt)
        have HPQ := Lib.hid (HP.out ks[k])
        have HX := Lib.hid hx
        generalize ks[k] = q at *
        clear hsub hwf hlt
        go_upto_region 7 with (fail)
        obtain ⟨wb, hwb⟩ : ∃ wb, wb = wr.alloc (.cells #[.int .i64 q.seq, .int .i64 q.fc.tm.kind, .string q.fc.tm.name, .int .i64 q.fc.tm.n, .slice B q.fc.tm.args.length e, .int .i64 q.fc.fr, .int .i64 q.fc.til] 50) := ⟨_, rfl⟩
        rw [← hwb]
        have hxb : Ext wr wb := by rw [hwb]; exact (Ext.refl _).alloc _
        have n0 : wb.cell? ⟨wr.heap.size, 0, none⟩ = some (.int .i64 q.seq) := by rw [hwb]; go_simp
        have n1 : wb.cell? ⟨wr.heap.size, 1, none⟩ = some (.int .i64 q.fc.tm.kind) := by rw [hwb]; go_simp
        have n2 : wb.cell? ⟨wr.heap.size, 2, none⟩ = some (.string q.fc.tm.name) := by rw [hwb]; go_simp
        have n3 : wb.cell? ⟨wr.heap.size, 3, none⟩ = some (.int .i64 q.fc.tm.n) := by rw [hwb]; go_simp
        have n4 : wb.cell? ⟨wr.heap.size, 4, none⟩ = some (.slice B q.fc.tm.args.length e) := by rw [hwb]; go_simp
        have n5 : wb.cell? ⟨wr.heap.size, 5, none⟩ = some (.int .i64 q.fc.fr) := by rw [hwb]; go_simp
        have n6 : wb.cell? ⟨wr.heap.size, 6, none⟩ = some (.int .i64 q.fc.til) := by rw [hwb]; go_simp
        have KQ := Lib.hid (named1_any q.fc B e s n g g2 wb (hxb.cell (hx.cell (HX1.out.cell hg))) (hxb.cell (hx.cell (HX1.out.cell hg2))))
        clear hwb c0 c1 c2 c3 c4 c5 c6 hx
        go_wp2_with fail
        refine KQ.out.mono ?_
        rintro e1 w2 ⟨rfl, hx2⟩
        replace n0 := hx2.cell n0
        replace n1 := hx2.cell n1
        replace n2 := hx2.cell n2
        replace n3 := hx2.cell n3
        replace n4 := hx2.cell n4
        replace n5 := hx2.cell n5
        replace n6 := hx2.cell n6
        have HX2 := Lib.hid (hxb.trans hx2)
        clear hx2 hxb KQ
        cases hb : namedF s n q.fc with
        | false =>
          have HQ := Lib.hid (HN.out (by rw [HPQ.out]; exact hb))
          have HR : Hid (w2.ownsRow w1.heap.size 50 7 u6 zs.length (Krow zs)) := Lib.hid (ownsRow_ext hown HX2.out)
          have hkb : k < 1000000 := by have := HK.out.1; have := HL.out; omega
          clear hown n0 n1 n2 n3 n4 n5 n6 hb
          go_wp2_with fail
          go_roundw
          case rel => exact ⟨k + 1, zs, HK.out.1, by have := HK.out.1; have := HL.out; go_num, Lib.hid (by rw [HMP.out, HQ.out]), HR.out, HZS, HX.out.trans HX2.out⟩
          case measure => have := HK.out.1; have := HL.out; simp [intOf]; omega
        | true =>
          have HQ := Lib.hid (HY.out (by rw [HPQ.out]; exact hb))
          have hown1 := ownsRow_ext hown HX2.out
          have hsz1 := HX2.out.size
          have hszw := HX.out.size
          have hsz0 := HX1.out.size
          have hn1 : zs.length + 1 ≤ 1000001 := by have := HL.out; omega
          clear hown hb
          go_wp2_with (at_builtin; refine wpList_append_own_at _ rfl _ _ 22 rfl w1.heap.size 50 i0 _ 7 80 Tryz.underlying22 hi0 hz0 hz1 hz2 rfl (by decide) _ zs.length (Krow zs) rfl (hown1.alloc _) ⟨w2.heap.size, 0, none⟩ 1 1 (KLain.cells (q, B, e)) rfl rfl ?c1 ?c2 ?c3 ?c4 ?c5 ?_)
          case c1 => exact World.news_of_block (cs := #[.int .i64 q.seq, .int .i64 q.fc.tm.kind, .string q.fc.tm.name, .int .i64 q.fc.tm.n, .slice B q.fc.tm.args.length e, .int .i64 q.fc.fr, .int .i64 q.fc.til]) (t := 50) (fr := (0, 0)) (heap_alloc_new w2 _)
          case c2 => exact KLain.one _
          case c3 => simp only [maxLen]; omega
          case c4 => omega
          case c5 => simp; omega
          intro v' w4 hown4 hgrow _ hat
          have hxg : Ext w1 w4 := Below.grown ((HX.out.trans HX2.out).alloc _) hgrow (by simp; omega) (fun b hb => (hown1.lt b hb).1)
          have HO4 : Hid (w4.ownsRow w1.heap.size 50 7 v' (zs ++ [(q, B, e)]).length (Krow (zs ++ [(q, B, e)]))) := Lib.hid (by rw [Krow_app, Krow_one, List.length_append]; exact hown4)
          have HM4 : Hid ((zs ++ [(q, B, e)]).map (·.1) = (ks.take (k + 1)).filter p) := Lib.hid (by rw [List.map_append, HMP.out, ← HQ.out]; rfl)
          have HZ4 : Hid (∀ z ∈ zs ++ [(q, B, e)], TmAt w1 z.1.fc.tm z.2.1 z.2.2 ∧ (Lit.int .i64 z.1.seq).wf = true) := Lib.hid fun z hz => by
            rcases List.mem_append.1 hz with h9 | h9
            · exact HZS.out z h9
            · obtain rfl := List.mem_singleton.1 h9
              exact ⟨HSUB.out, HWF.out⟩
          have HXG := Lib.hid hxg
          have hkb : k < 1000000 := by have := HK.out.1; have := HL.out; omega
          clear hown1 hat hown4 hxg hgrow n0 n1 n2 n3 n4 n5 n6 hn1
          go_wp2_with fail
          go_roundw
          case rel => exact ⟨k + 1, _, HK.out.1, by have := HK.out.1; have := HL.out; go_num, HM4, HO4.out, HZ4, HXG.out⟩
          case measure => have := HK.out.1; have := HL.out; simp [intOf]; omega
      · have hki : ¬ (k : Int) < (ks.length : Int) := by omega
        obtain ⟨A2, c2, hv, hc2, hK2⟩ := Kowned hown (fun z hz => ⟨(HZS.out z hz).1.ext hx, (HZS.out z hz).2⟩)
        have hmp : zs.map (·.1) = ks.filter p := by rw [HMP.out, List.take_of_length_le (show ks.length ≤ k by omega)]
        have hzl : zs.length = (ks.filter p).length := by rw [← hmp, List.length_map]
        rw [hmp] at hK2
        rw [hzl] at hv
        subst hv
        have KCO := Lib.hid (copied_any (ks.filter p) A2 c2 wr (Nat.le_trans (List.length_filter_le _ _) HL.out) hK2 (fun i hi => by
          have hmem := (List.mem_filter.1 (List.getElem_mem hi)).1
          obtain ⟨j, hj, e9⟩ := List.getElem_of_mem hmem
          rw [← e9]
          exact HM.out j hj))
        have HX := Lib.hid (HX1.out.trans hx)
        generalize ks.filter p = fl at *
        clear hown hx hK2 hmp hzl hc2
        go_wp2_with fail
        refine KCO.out.mono ?_
        rintro e9 w9 ⟨v9, z9, G9, rfl, hO9⟩
        have HF := Lib.hid (hO9.weak HX.out)
        clear hO9 KCO
        go_wp2_with fail
        exact HYES.out _ _ _ _ HB.out HF.out

set_option maxHeartbeats 1000000 in
theorem Since_any (ks : List Kp) (t : Int) (A : Option Addr) (c : Nat) (w : World) (hc : ks.length ≤ c) (hl : ks.length ≤ 1000000) (h : KpsAt w ks A) :
    Calls Tryz.prog 23 #[.slice A ks.length c, .int .i64 t] w (ChTo ks (sinceB t) w) := by
  have HY : Hid (∀ e w', ChTo ks (sinceB t) w e w' = ChTo ks (sinceB t) w e w') := Lib.hid fun _ _ => rfl
  have hx : Ext w (w.alloc (.cells #[.int .i64 t] 3)) := (Ext.refl w).alloc _
  have KC := Lib.hid (chosenS_any ks t w.heap.size A c _ hc hl (h.ext hx) (by go_simp))
  have HX := Lib.hid hx
  clear h hx
  generalize hZ : ChTo ks (sinceB t) w = Z
  have HZ := Lib.hid hZ
  clear hZ HY
  go_enter Tryz.func23, Tryz.ntmps23
  go_wp2_with fail
  refine KC.out.mono ?_
  intro e w1 hs
  have hs2 := hs.weak HX.out
  rw [HZ.out] at hs2
  have HS := Lib.hid hs2
  rcases hs with ⟨_, v, zs, G, rfl, _⟩ | ⟨_, rfl, _⟩
  all_goals
    clear hs2 KC
    go_wp2_with fail
    exact HS.out

set_option maxHeartbeats 1000000 in
theorem Named_any (ks : List Kp) (s : ByteArray) (n : Int) (A : Option Addr) (c : Nat) (w : World) (hc : ks.length ≤ c) (hl : ks.length ≤ 1000000) (h : KpsAt w ks A) :
    Calls Tryz.prog 21 #[.slice A ks.length c, .string s, .int .i64 n] w (ChTo ks (namedB s n) w) := by
  have HY : Hid (∀ e w', ChTo ks (namedB s n) w e w' = ChTo ks (namedB s n) w e w') := Lib.hid fun _ _ => rfl
  have hx : Ext w ((w.alloc (.cells #[.string s] 9)).alloc (.cells #[.int .i64 n] 3)) := ((Ext.refl w).alloc _).alloc _
  have KC := Lib.hid (chosenN_any ks s n w.heap.size (w.heap.size + 1) A c _ hc hl (h.ext hx) (by go_simp) (by go_simp))
  have HX := Lib.hid hx
  clear h hx
  generalize hZ : ChTo ks (namedB s n) w = Z
  have HZ := Lib.hid hZ
  clear hZ HY
  go_enter Tryz.func21, Tryz.ntmps21
  go_wp2_with fail
  refine KC.out.mono ?_
  intro e w1 hs
  have hs2 := hs.weak HX.out
  rw [HZ.out] at hs2
  have HS := Lib.hid hs2
  rcases hs with ⟨_, v, zs, G, rfl, _⟩ | ⟨_, rfl, _⟩
  all_goals
    clear hs2 KC
    go_wp2_with fail
    exact HS.out

end Go.Proofs.YtkdhpifjljkpfaaGreat
