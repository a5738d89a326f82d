/- Joined: Pgj, Pgm, Pgn. -/
import Derived.Test.YtbjghkmjnhmlfaaGreatDoorPgi
import Derived.Test.YtbjghkmjnhmlfaaGreatDoorPal

/- Package read: conditions. -/
namespace Go.Proofs.YtbjghkmjnhmlfaaGreatDoor
open Go.RowKit

theorem BoxN.beside {w w' : World} {p o : Nat} {cs : List Value} {v : Value} (h : BoxN w p cs) (k : Beside p o w w') (hv : w'.cell? ⟨p, o, none⟩ = some v) (ho : o < cs.length) : BoxN w' p (cs.set o v) := by
 refine ⟨fun j u hj => ?_, fun j hj => ?_, by simpa using h.pos⟩
 ·
  rw [Nat.zero_add]
  rw [List.getElem?_set] at hj
  by_cases e : o = j
  ·
   subst e
   rw [if_pos rfl, if_pos ho] at hj
   rw [hv]; exact hj
  ·
   rw [if_neg e] at hj
   rw [(k j).1 (fun x => e x.symm)]
   exact h.cell j hj
 ·
  obtain ⟨h1, h2⟩ := h.thr j (by simpa using hj)
  rw [Nat.zero_add] at h1 h2 ⊢
  refine ⟨?_, by rw [(k j).2]; exact h2⟩
  by_cases e : j = o
  ·
   subst e; rw [hv]; rfl
  ·
   rw [(k j).1 e]; exact h1
theorem guardP_four {T : List Tok} {gs : List Gd} {i : Nat} {x : List Gd} {j : Nat} (h : guardP T gs i = .ok (x, j)) : gs.length ≠ 4 := by
 intro h4
 by_cases hb : (rl T i = 19 ∨ rl T i = 20) ∧ isName (rl T (i + 1)) = true
 ·
  rw [guardP_yes hb] at h
  match ht : termP T 100 (i + 1) with
  | .error e => rw [ht] at h; cases h
  | .ok (u, m) => rw [ht] at h; simp only at h; rw [if_pos h4] at h; cases h
 ·
  rw [guardP_no hb] at h
  match ht : termP T 100 i with
  | .error e => rw [ht] at h; cases h
  | .ok (u, m) =>
   rw [ht] at h
   simp only [opTg, opP] at h
   split at h
   ·
    match ht2 : termP T 100 (m + 1) with
    | .error e => rw [ht2] at h; cases h
    | .ok (u', m') => rw [ht2] at h; simp at h
   ·
    cases h
def CondOut (w : World) (g p : Nat) (K : RdP) (T : List Tok) (cs : List Value) (F : Rs (List Gd × Int)) (e : Ending) (w' : World) : Prop := Chg (fun x => x = g ∨ x = p) w w' ∧
 match F with
 | .ok ((gs, pol), j) => e = .returned (.bool true) ∧ RdAt w' g K T j 0 ∧ ∃ A c xs, xs.map (·.1) = gs ∧ RowIn SG w' (New w w') (.slice A xs.length c) xs ∧ BoxN w' p ((cs.set 13 (.slice A xs.length c)).set 15 (.int .i64 pol))
 | .error (a, x) => e = .returned (.bool false) ∧ RdErr w' g a x ∧ ∃ A l c n, BoxN w' p ((cs.set 13 (.slice A l c)).set 15 (.int .i64 n))
def noD : Nat → Prop := fun _ => False
theorem BitOk.chgw {w w' : World} {g p : Nat} (h : BitOk w g) (k : Chg (fun x => x = g ∨ x = p) w w') (hp : p ≠ 2) : BitOk w' g := h.chg2 k hp
theorem row_noD {X : Type} {S : Srt X} {w wr : World} {v : Value} {xs : List X} (h : GInv S w.heap.size wr v xs noD) : RowIn S wr (New w wr) v xs := h.row.keep fun _ hb _ => ⟨rfl, hb.1⟩
theorem chg_own {w w1 w2 : World} {g p : Nat} {v : Value} (h : Chg (fun x => x = g ∨ x = p) w w1) (k : Chg (fun x => x = g ∨ x = p ∨ v.ownBlock = some x) w1 w2) (hv : ∀ q, v.ownBlock = some q → w.heap.size ≤ q) : Chg (fun x => x = g ∨ x = p) w w2 :=
 ⟨k.os.trans h.os, k.tape.trans h.tape, k.output.trans h.output, Nat.le_trans h.size k.size, fun x hx hf => by
  rw [k.block x (by have := h.size; omega) (fun e => by rcases e with e | e | e; exact hf (.inl e); exact hf (.inr e); have := hv x e; omega)]
  exact h.block x hx hf⟩
set_option maxRecDepth 100000 in
set_option maxHeartbeats 4000000 in
theorem conditions_rd {w : World} {g p : Nat} {K : RdP} {T : List Tok} {i : Nat} {cs : List Value} (hT : EndLast T) (h : RdAt w g K T i 0) (hbo : BitOk w g) (hi : i < T.length) (hpg : p ≠ g) (hpA : p ≠ K.A) (hpR : p ≠ K.R) (hpB : p ≠ 2)
  (hb : BoxN w p cs) (hl : cs.length = 16) (h13 : cs[13]? = some (.slice none 0 0)) (h15 : cs[15]? = some (.int .i64 0)) :
  Calls Tryz.prog 84 #[.pointer (some ⟨g, 0, none⟩), .pointer (some ⟨p, 0, none⟩)] w (CondOut w g p K T cs (condP T i)) := by
 have hgl := h.lt
 have hpl := hb.lt
 have hlo := h.low hT.1
 obtain ⟨F, hF⟩ : ∃ F, F = condP T i := ⟨_, rfl⟩
 rw [← hF]
 have HF := Lib.hid hF
 have HBO := Lib.hid hbo
 have HBX := Lib.hid hb
 clear hF hbo hb
 go_enter Tryz.func84, Tryz.ntmps84
 by_cases h6 : rl T i = 6
 ·
  have hi1 := hT.next 6 h6 (by omega)
  have K1 := Lib.hid (take_yes 64 (by omega) h hi (by rw [h6]; decide))
  clear h
  go_wp2_with fail
  refine K1.out.mono ?_
  rintro e w1 ⟨rfl, h1, c1⟩
  by_cases h24 : rl T (i + 1) = 24
  ·
   have hi2 := hT.next 24 h24 (by omega)
   have K2 := Lib.hid (take_yes 16777216 (by omega) h1 hi1 (by rw [h24]; decide))
   have HC1 := Lib.hid c1
   have HFW : Hid (whereP T (T.length - i) [] (i + 1 + 1) = F) := Lib.hid (by rw [HF.out]; unfold condP; rw [if_pos h6, if_pos h24])
   clear h1 K1 c1
   go_wp2_with fail
   refine K2.out.mono ?_
   rintro e w2 ⟨rfl, h2, c2⟩
   have hC2 : Chg (· = g) w w2 := HC1.out.trans c2
   have hb2 := HBX.out.chg hC2 hpg
   have hs2 := hC2.size
   have hS2 : Slot SG w.heap.size w2 p 13 (.slice none 0 0) [] noD := ⟨GInv.start SG noD hs2, hb2.cell 13 h13, hb2.fz 13 (by rw [hl]; omega), hpl⟩
   have hb2' : BoxN w2 p (cs.set 13 (.slice none 0 0)) := by rw [set_self h13]; exact hb2
   have hC2' : Chg (fun x => x = g ∨ x = p) w w2 := hC2.weak fun _ e => .inl e
   clear K2 c2 hC2 hb2 HC1 hs2
   go_upto_region 5 with (fail)
   go_wp2_with fail
   go_loopw [5] (fun m wr => ∃ (mb : Bool) (j : Nat) (v : Value) (xs : List GLain), m = .bool mb ∧ j < T.length ∧ RdAt wr g K T j 0 ∧ Slot SG w.heap.size wr p 13 v xs noD ∧ BoxN wr p (cs.set 13 v) ∧ Chg (fun x => x = g ∨ x = p) w wr ∧ xs.length ≤ 4 ∧
    Hid (if mb = true then ∃ n, T.length ≤ n + j ∧ whereP T n (xs.map (·.1)) j = F else Except.ok ((xs.map (·.1), 0), j) = F)) (fun m wr => flagM m (T.length + 1 - nxOf wr g))
   case atStart => exact ⟨true, _, _, [], rfl, hi2, h2, hS2, hb2', hC2', by simp, Lib.hid (by rw [if_pos rfl]; exact ⟨_, by omega, HFW.out⟩)⟩
   case round =>
    obtain ⟨mb, j, v, xs, rfl, hj, hRr, hSr, hbr, hCr, hx4, HX⟩ := hrel
    clear h2 hS2 hb2' hC2' HFW
    obtain ⟨SA, sc, rfl, _⟩ := src_own hSr.inv.own
    have hown : ∀ q, (Value.slice SA xs.length sc).ownBlock = some q → w.heap.size ≤ q := fun q hq => (hSr.inv.lt q hq).1
    cases mb with
    | false =>
     have HFF : Hid (F = .ok ((xs.map (·.1), 0), j)) := Lib.hid (by have := HX.out; rw [if_neg (by simp)] at this; exact this.symm)
     have HH := Lib.hid (And.intro hRr (And.intro hSr hbr))
     clear hRr hSr hbr HX
     go_wp2_with fail
     go_ret
     rw [HFF.out]
     refine ⟨hCr, rfl, HH.out.1, SA, sc, xs, rfl, row_noD HH.out.2.1.inv, ?_⟩
     rw [set_self (by rw [List.getElem?_set_ne (by omega)]; exact h15)]
     exact HH.out.2.2
    | true =>
     obtain ⟨n, hn, hG⟩ : ∃ n, T.length ≤ n + j ∧ whereP T n (xs.map (·.1)) j = F := by have := HX.out; rw [if_pos rfl] at this; exact this
     obtain ⟨n, rfl⟩ : ∃ m, n = m + 1 := ⟨n - 1, by omega⟩
     have HNX := Lib.hid hRr.nx
     have dc := hSr.cell
     rw [whereP] at hG
     clear HX
     by_cases h0 : 0 < xs.length
     case neg =>
      rw [if_neg (by rw [List.length_map]; omega)] at hG
      have HG := Lib.hid hG
      have hRS := hRr
      have hSS := hSr
      have hbS := hbr
      have hCS := hCr
      clear hG hRr hSr hbr hCr
      have KG := Lib.hid (guard_rd hT hRS (HBO.out.chgw hCS hpB) hj hpg hpA hpR ⟨hgl, hlo.1, hlo.2⟩ hSS hx4 (fun _ hb => hb.elim))
      clear hRS hSS
      match hgp : guardP T (xs.map (·.1)) j with
      | .error (ea, ex) =>
       have HFG : Hid (F = .error (ea, ex)) := Lib.hid (by rw [← HG.out, hgp])
       rw [hgp] at KG
       have HB2 := Lib.hid hbS
       clear hgp hbS
       go_wp2_with fail
       refine KG.out.mono ?_
       rintro e w5 ⟨hC5, hB5, rfl, hE5, A5, l5, c5, hc5⟩
       have hCf : Chg (fun x => x = g ∨ x = p) w w5 := chg_own hCS hC5 hown
       have HH := Lib.hid (And.intro hE5 (HB2.out.beside hB5 hc5 (by rw [List.length_set, hl]; omega)))
       clear KG hC5 hB5 hE5 hc5
       go_wp2_with fail
       go_ret
       rw [HFG.out]
       refine ⟨hCf, rfl, HH.out.1, A5, l5, c5, 0, ?_⟩
       have := HH.out.2
       rw [List.set_set] at this
       rw [set_self (by rw [List.getElem?_set_ne (by omega)]; exact h15)]
       exact this
      | .ok (hs, j') =>
       have hjt := guardP_takes hT hgp
       have h4 := guardP_four hgp
       have HG2 : Hid (F = if rl T j' = 6 then whereP T n hs (j' + 1) else .ok ((hs, 0), j')) := Lib.hid (by rw [← HG.out, hgp])
       rw [hgp] at KG
       have HB2 := Lib.hid hbS
       clear hgp hbS
       go_wp2_with fail
       refine KG.out.mono ?_
       rintro e w5 ⟨hC5, hB5, rfl, hR5, v', ys, hys, hS5, hG5⟩
       have hCf : Chg (fun x => x = g ∨ x = p) w w5 := chg_own hCS hC5 hown
       have hb5 := HB2.out.beside hB5 hS5.cell (by rw [List.length_set, hl]; omega)
       rw [List.set_set] at hb5
       have hy4 : ys.length ≤ 4 := by
        have e1 : ys.length = hs.length := by rw [← hys, List.length_map]
        have e2 := hjt.2.2
        rw [List.length_map] at e2 h4
        omega
       have HYS := Lib.hid hys
       have hpl5 := hb5.lt
       clear KG hC5 hB5 hG5 hys
       by_cases h6' : rl T j' = 6
       ·
        have hj6 := hT.next 6 h6' (by omega)
        have KT := Lib.hid (take_yes 64 (by omega) hR5 hjt.2.1 (by rw [h6']; decide))
        have HH5 := Lib.hid (And.intro hS5 hb5)
        clear hR5 hS5 hb5
        go_wp2_with fail
        refine KT.out.mono ?_
        rintro e w6 ⟨rfl, hR6, hC6⟩
        have hS6 := HH5.out.1.keep hC6 (fun b e => by subst e; exact ⟨.inl hgl, fun e => hpg e.symm⟩)
        have hb6 := HH5.out.2.chg hC6 hpg
        have hC6w : Chg (fun x => x = g ∨ x = p) w w6 := hCf.trans (hC6.weak fun _ e => .inl e)
        have HN6 := Lib.hid hR6.nx
        have HH6 := Lib.hid (And.intro hR6 (And.intro hS6 hb6))
        clear KT hC6 hS6 hb6 hR6
        go_wp2_with fail
        go_roundw
        case rel => exact ⟨true, j' + 1, v', ys, rfl, hj6, HH6.out.1, HH6.out.2.1, HH6.out.2.2, hC6w, hy4, Lib.hid (by rw [if_pos rfl]; exact ⟨n, by omega, by rw [HYS.out]; have := HG2.out; rw [if_pos h6'] at this; exact this.symm⟩)⟩
        case measure => rw [HNX.out, HN6.out]; simp [flagM]; omega
       ·
        have KT := Lib.hid (take_no 64 (by omega) hR5 hjt.2.1 (bit_ne (k := 6) h6'))
        have HH5 := Lib.hid (And.intro hR5 (And.intro hS5 hb5))
        clear hR5 hS5 hb5
        go_wp2_with fail
        refine KT.out.mono ?_
        rintro e w6 ⟨rfl, hx6⟩
        have hC6w : Chg (fun x => x = g ∨ x = p) w w6 := hCf.trans (Chg.of_ext hx6)
        have HH6 := Lib.hid (And.intro (HH5.out.1.ext hx6) (And.intro (HH5.out.2.1.ext hx6) (HH5.out.2.2.ext hx6)))
        clear KT hx6
        go_wp2_with fail
        go_roundw
        case rel => exact ⟨false, j', v', ys, rfl, hjt.2.1, HH6.out.1, HH6.out.2.1, HH6.out.2.2, hC6w, hy4, Lib.hid (by rw [if_neg (by simp)]; have := HG2.out; rw [if_neg h6'] at this; rw [HYS.out]; exact this.symm)⟩
        case measure => rw [HNX.out]; simp [flagM]; omega
     case pos =>
      by_cases hpo : rl T j = 21 ∨ rl T j = 22
      ·
       have KS := Lib.hid (sees_rd 6291456 (by omega) hRr hj)
       rw [mask_pol _ (rl_lt T j), decide_eq_true hpo] at KS
       have hj1 : j + 1 < T.length := hT.2 j (by omega)
       have HG0 := Lib.hid hG
       have HRr := Lib.hid (And.intro hRr (And.intro hSr hbr))
       clear hG hRr hSr hbr
       go_wp2_with fail
       refine KS.out.mono ?_
       rintro e w3 ⟨rfl, hx3⟩
       have KH := Lib.hid (ahead_rd 128 (by omega) (HRr.out.1.ext hx3) hj1)
       have HX3 := Lib.hid hx3
       clear hx3 KS
       by_cases h7 : rl T (j + 1) = 7
       ·
        rw [h7, show Nat.testBit 128 7 = true by decide] at KH
        have HFF : Hid (F = .ok ((xs.map (·.1), (rl T j : Int) - 20), j + 1)) := Lib.hid (by have := HG0.out; rw [if_pos ⟨by rw [List.length_map]; omega, hpo, h7⟩] at this; exact this.symm)
        go_wp2_with fail
        refine KH.out.mono ?_
        rintro e wS ⟨rfl, hxS⟩
        have hxx := HX3.out.trans hxS
        have hCS := hCr.trans (Chg.of_ext hxx)
        have h15' : (cs.set 13 (.slice SA xs.length sc))[15]? = some (.int .i64 0) := by rw [List.getElem?_set_ne (by omega)]; exact h15
        have KQ := Lib.hid (policy_rd (HRr.out.1.ext hxx) (HBO.out.chgw hCS hpB) hj hpg hpA hpR (HRr.out.2.2.ext hxx) (by rw [List.length_set]; exact hl) h15')
        have HS := Lib.hid (HRr.out.2.1.ext hxx)
        rw [show polP T j = .ok ((rl T j : Int) - 20) by unfold polP; rw [if_pos hpo]] at KQ
        clear hxx hxS KH HX3 HRr
        go_wp2_with fail
        refine KQ.out.mono ?_
        rintro e w5 ⟨hC5, rfl, hR5, hb5⟩
        have HH := Lib.hid (And.intro hC5 (And.intro hR5 hb5))
        clear hC5 hR5 hb5 KQ
        go_wp2_with fail
        go_ret
        rw [HFF.out]
        refine ⟨hCS.trans HH.out.1, rfl, HH.out.2.1, SA, sc, xs, rfl, ?_, HH.out.2.2⟩
        have hsz := HH.out.1.size
        exact (row_noD HS.out.inv).keep fun b hb _ => ⟨HH.out.1.block b hb.2 (by have := hb.1; omega), hb.1, by have := hb.2; omega⟩
       ·
        rw [show Nat.testBit 128 (rl T (j + 1)) = false from bit_ne (k := 7) h7] at KH
        have hG := HG0.out
        rw [if_neg (fun h => h7 h.2.2)] at hG
        have HG := Lib.hid hG
        go_wp2_with fail
        refine KH.out.mono ?_
        rintro e wS ⟨rfl, hxS⟩
        have hxx := HX3.out.trans hxS
        have hRS := HRr.out.1.ext hxx
        have hSS := HRr.out.2.1.ext hxx
        have hbS := HRr.out.2.2.ext hxx
        have hCS := hCr.trans (Chg.of_ext hxx)
        have dcS := hSS.cell
        clear hG HG0 hxx hxS KH HX3 HRr hCr dc
        have KG := Lib.hid (guard_rd hT hRS (HBO.out.chgw hCS hpB) hj hpg hpA hpR ⟨hgl, hlo.1, hlo.2⟩ hSS hx4 (fun _ hb => hb.elim))
        clear hRS hSS
        match hgp : guardP T (xs.map (·.1)) j with
        | .error (ea, ex) =>
         have HFG : Hid (F = .error (ea, ex)) := Lib.hid (by rw [← HG.out, hgp])
         rw [hgp] at KG
         have HB2 := Lib.hid hbS
         clear hgp hbS
         go_wp2_with fail
         refine KG.out.mono ?_
         rintro e w5 ⟨hC5, hB5, rfl, hE5, A5, l5, c5, hc5⟩
         have hCf : Chg (fun x => x = g ∨ x = p) w w5 := chg_own hCS hC5 hown
         have HH := Lib.hid (And.intro hE5 (HB2.out.beside hB5 hc5 (by rw [List.length_set, hl]; omega)))
         clear KG hC5 hB5 hE5 hc5
         go_wp2_with fail
         go_ret
         rw [HFG.out]
         refine ⟨hCf, rfl, HH.out.1, A5, l5, c5, 0, ?_⟩
         have := HH.out.2
         rw [List.set_set] at this
         rw [set_self (by rw [List.getElem?_set_ne (by omega)]; exact h15)]
         exact this
        | .ok (hs, j') =>
         have hjt := guardP_takes hT hgp
         have h4 := guardP_four hgp
         have HG2 : Hid (F = if rl T j' = 6 then whereP T n hs (j' + 1) else .ok ((hs, 0), j')) := Lib.hid (by rw [← HG.out, hgp])
         rw [hgp] at KG
         have HB2 := Lib.hid hbS
         clear hgp hbS
         go_wp2_with fail
         refine KG.out.mono ?_
         rintro e w5 ⟨hC5, hB5, rfl, hR5, v', ys, hys, hS5, hG5⟩
         have hCf : Chg (fun x => x = g ∨ x = p) w w5 := chg_own hCS hC5 hown
         have hb5 := HB2.out.beside hB5 hS5.cell (by rw [List.length_set, hl]; omega)
         rw [List.set_set] at hb5
         have hy4 : ys.length ≤ 4 := by
          have e1 : ys.length = hs.length := by rw [← hys, List.length_map]
          have e2 := hjt.2.2
          rw [List.length_map] at e2 h4
          omega
         have HYS := Lib.hid hys
         have hpl5 := hb5.lt
         clear KG hC5 hB5 hG5 hys
         by_cases h6' : rl T j' = 6
         ·
          have hj6 := hT.next 6 h6' (by omega)
          have KT := Lib.hid (take_yes 64 (by omega) hR5 hjt.2.1 (by rw [h6']; decide))
          have HH5 := Lib.hid (And.intro hS5 hb5)
          clear hR5 hS5 hb5
          go_wp2_with fail
          refine KT.out.mono ?_
          rintro e w6 ⟨rfl, hR6, hC6⟩
          have hS6 := HH5.out.1.keep hC6 (fun b e => by subst e; exact ⟨.inl hgl, fun e => hpg e.symm⟩)
          have hb6 := HH5.out.2.chg hC6 hpg
          have hC6w : Chg (fun x => x = g ∨ x = p) w w6 := hCf.trans (hC6.weak fun _ e => .inl e)
          have HN6 := Lib.hid hR6.nx
          have HH6 := Lib.hid (And.intro hR6 (And.intro hS6 hb6))
          clear KT hC6 hS6 hb6 hR6
          go_wp2_with fail
          go_roundw
          case rel => exact ⟨true, j' + 1, v', ys, rfl, hj6, HH6.out.1, HH6.out.2.1, HH6.out.2.2, hC6w, hy4, Lib.hid (by rw [if_pos rfl]; exact ⟨n, by omega, by rw [HYS.out]; have := HG2.out; rw [if_pos h6'] at this; exact this.symm⟩)⟩
          case measure => rw [HNX.out, HN6.out]; simp [flagM]; omega
         ·
          have KT := Lib.hid (take_no 64 (by omega) hR5 hjt.2.1 (bit_ne (k := 6) h6'))
          have HH5 := Lib.hid (And.intro hR5 (And.intro hS5 hb5))
          clear hR5 hS5 hb5
          go_wp2_with fail
          refine KT.out.mono ?_
          rintro e w6 ⟨rfl, hx6⟩
          have hC6w : Chg (fun x => x = g ∨ x = p) w w6 := hCf.trans (Chg.of_ext hx6)
          have HH6 := Lib.hid (And.intro (HH5.out.1.ext hx6) (And.intro (HH5.out.2.1.ext hx6) (HH5.out.2.2.ext hx6)))
          clear KT hx6
          go_wp2_with fail
          go_roundw
          case rel => exact ⟨false, j', v', ys, rfl, hjt.2.1, HH6.out.1, HH6.out.2.1, HH6.out.2.2, hC6w, hy4, Lib.hid (by rw [if_neg (by simp)]; have := HG2.out; rw [if_neg h6'] at this; rw [HYS.out]; exact this.symm)⟩
          case measure => rw [HNX.out]; simp [flagM]; omega
      ·
       have KS := Lib.hid (sees_rd 6291456 (by omega) hRr hj)
       rw [mask_pol _ (rl_lt T j), decide_eq_false hpo] at KS
       rw [if_neg (fun h => hpo h.2.1)] at hG
       have HG := Lib.hid hG
       have HRr := Lib.hid (And.intro hRr (And.intro hSr hbr))
       clear hG hRr hSr hbr
       go_wp2_with fail
       refine KS.out.mono ?_
       rintro e wS ⟨rfl, hxx⟩
       have hRS := HRr.out.1.ext hxx
       have hSS := HRr.out.2.1.ext hxx
       have hbS := HRr.out.2.2.ext hxx
       have hCS := hCr.trans (Chg.of_ext hxx)
       have dcS := hSS.cell
       clear hxx KS HRr hCr dc
       have KG := Lib.hid (guard_rd hT hRS (HBO.out.chgw hCS hpB) hj hpg hpA hpR ⟨hgl, hlo.1, hlo.2⟩ hSS hx4 (fun _ hb => hb.elim))
       clear hRS hSS
       match hgp : guardP T (xs.map (·.1)) j with
       | .error (ea, ex) =>
        have HFG : Hid (F = .error (ea, ex)) := Lib.hid (by rw [← HG.out, hgp])
        rw [hgp] at KG
        have HB2 := Lib.hid hbS
        clear hgp hbS
        go_wp2_with fail
        refine KG.out.mono ?_
        rintro e w5 ⟨hC5, hB5, rfl, hE5, A5, l5, c5, hc5⟩
        have hCf : Chg (fun x => x = g ∨ x = p) w w5 := chg_own hCS hC5 hown
        have HH := Lib.hid (And.intro hE5 (HB2.out.beside hB5 hc5 (by rw [List.length_set, hl]; omega)))
        clear KG hC5 hB5 hE5 hc5
        go_wp2_with fail
        go_ret
        rw [HFG.out]
        refine ⟨hCf, rfl, HH.out.1, A5, l5, c5, 0, ?_⟩
        have := HH.out.2
        rw [List.set_set] at this
        rw [set_self (by rw [List.getElem?_set_ne (by omega)]; exact h15)]
        exact this
       | .ok (hs, j') =>
        have hjt := guardP_takes hT hgp
        have h4 := guardP_four hgp
        have HG2 : Hid (F = if rl T j' = 6 then whereP T n hs (j' + 1) else .ok ((hs, 0), j')) := Lib.hid (by rw [← HG.out, hgp])
        rw [hgp] at KG
        have HB2 := Lib.hid hbS
        clear hgp hbS
        go_wp2_with fail
        refine KG.out.mono ?_
        rintro e w5 ⟨hC5, hB5, rfl, hR5, v', ys, hys, hS5, hG5⟩
        have hCf : Chg (fun x => x = g ∨ x = p) w w5 := chg_own hCS hC5 hown
        have hb5 := HB2.out.beside hB5 hS5.cell (by rw [List.length_set, hl]; omega)
        rw [List.set_set] at hb5
        have hy4 : ys.length ≤ 4 := by
         have e1 : ys.length = hs.length := by rw [← hys, List.length_map]
         have e2 := hjt.2.2
         rw [List.length_map] at e2 h4
         omega
        have HYS := Lib.hid hys
        have hpl5 := hb5.lt
        clear KG hC5 hB5 hG5 hys
        by_cases h6' : rl T j' = 6
        ·
         have hj6 := hT.next 6 h6' (by omega)
         have KT := Lib.hid (take_yes 64 (by omega) hR5 hjt.2.1 (by rw [h6']; decide))
         have HH5 := Lib.hid (And.intro hS5 hb5)
         clear hR5 hS5 hb5
         go_wp2_with fail
         refine KT.out.mono ?_
         rintro e w6 ⟨rfl, hR6, hC6⟩
         have hS6 := HH5.out.1.keep hC6 (fun b e => by subst e; exact ⟨.inl hgl, fun e => hpg e.symm⟩)
         have hb6 := HH5.out.2.chg hC6 hpg
         have hC6w : Chg (fun x => x = g ∨ x = p) w w6 := hCf.trans (hC6.weak fun _ e => .inl e)
         have HN6 := Lib.hid hR6.nx
         have HH6 := Lib.hid (And.intro hR6 (And.intro hS6 hb6))
         clear KT hC6 hS6 hb6 hR6
         go_wp2_with fail
         go_roundw
         case rel => exact ⟨true, j' + 1, v', ys, rfl, hj6, HH6.out.1, HH6.out.2.1, HH6.out.2.2, hC6w, hy4, Lib.hid (by rw [if_pos rfl]; exact ⟨n, by omega, by rw [HYS.out]; have := HG2.out; rw [if_pos h6'] at this; exact this.symm⟩)⟩
         case measure => rw [HNX.out, HN6.out]; simp [flagM]; omega
        ·
         have KT := Lib.hid (take_no 64 (by omega) hR5 hjt.2.1 (bit_ne (k := 6) h6'))
         have HH5 := Lib.hid (And.intro hR5 (And.intro hS5 hb5))
         clear hR5 hS5 hb5
         go_wp2_with fail
         refine KT.out.mono ?_
         rintro e w6 ⟨rfl, hx6⟩
         have hC6w : Chg (fun x => x = g ∨ x = p) w w6 := hCf.trans (Chg.of_ext hx6)
         have HH6 := Lib.hid (And.intro (HH5.out.1.ext hx6) (And.intro (HH5.out.2.1.ext hx6) (HH5.out.2.2.ext hx6)))
         clear KT hx6
         go_wp2_with fail
         go_roundw
         case rel => exact ⟨false, j', v', ys, rfl, hjt.2.1, HH6.out.1, HH6.out.2.1, HH6.out.2.2, hC6w, hy4, Lib.hid (by rw [if_neg (by simp)]; have := HG2.out; rw [if_neg h6'] at this; rw [HYS.out]; exact this.symm)⟩
         case measure => rw [HNX.out]; simp [flagM]; omega
  ·
   have HFP : Hid (F = match polP T (i + 1) with | .error e => .error e | .ok n => .ok (([], n), i + 2)) := Lib.hid (by
    rw [HF.out]; unfold condP polP; rw [if_pos h6, if_neg h24]
    by_cases hpo : rl T (i + 1) = 21 ∨ rl T (i + 1) = 22
    ·
     rw [if_pos hpo, if_pos hpo]
    ·
     rw [if_neg hpo, if_neg hpo])
   have K2 := Lib.hid (take_no 16777216 (by omega) h1 hi1 (bit_ne (k := 24) h24))
   have HC1 := Lib.hid (And.intro c1 h1)
   clear h1 K1 c1
   go_wp2_with fail
   refine K2.out.mono ?_
   rintro e w2 ⟨rfl, hx2⟩
   have hC2 : Chg (· = g) w w2 := HC1.out.1.trans (Chg.of_ext hx2)
   have KQ := Lib.hid (policy_rd (HC1.out.2.ext hx2) (HBO.out.chg hC2) hi1 hpg hpA hpR (HBX.out.chg hC2 hpg) hl h15)
   have HC2 := Lib.hid hC2
   clear hx2 hC2 K2 HC1
   go_wp2_with fail
   refine KQ.out.mono ?_
   rintro e w3 ⟨hC3, hout⟩
   have hCf := (HC2.out.weak fun _ e => .inl e).trans hC3
   match hpp : polP T (i + 1) with
   | .error (a, x) =>
    rw [hpp] at hout
    have HFF : Hid (F = .error (a, x)) := Lib.hid (by rw [HFP.out, hpp])
    obtain ⟨rfl, hE, n, hb3⟩ := hout
    have HH := Lib.hid (And.intro hE hb3)
    clear hE hb3 hpp KQ
    go_wp2_with fail
    go_ret
    rw [HFF.out]
    exact ⟨hCf, rfl, HH.out.1, none, 0, 0, n, by rw [set_self h13]; exact HH.out.2⟩
   | .ok m =>
    rw [hpp] at hout
    have HFF : Hid (F = .ok (([], m), i + 2)) := Lib.hid (by rw [HFP.out, hpp])
    obtain ⟨rfl, hR3, hb3⟩ := hout
    have HH := Lib.hid (And.intro hR3 hb3)
    clear hR3 hb3 hpp KQ
    go_wp2_with fail
    go_ret
    rw [HFF.out]
    exact ⟨hCf, rfl, HH.out.1, none, 0, [], rfl, ⟨.inl ⟨rfl, none, 0, rfl⟩, fun x hx => absurd hx (by simp)⟩, by rw [show (.slice none ([] : List GLain).length 0 : Value) = .slice none 0 0 from rfl, set_self h13]; exact HH.out.2⟩
 ·
  have K1 := Lib.hid (take_no 64 (by omega) h hi (bit_ne (k := 6) h6))
  have HFF : Hid (F = .ok (([], 0), i)) := Lib.hid (by rw [HF.out]; unfold condP; rw [if_neg h6])
  have HR := Lib.hid h
  clear h
  go_wp2_with fail
  refine K1.out.mono ?_
  rintro e w1 ⟨rfl, hx1⟩
  have HX1 := Lib.hid hx1
  clear hx1 K1
  go_wp2_with fail
  go_ret
  rw [HFF.out]
  exact ⟨Chg.of_ext HX1.out, rfl, HR.out.ext HX1.out, none, 0, [], rfl, ⟨.inl ⟨rfl, none, 0, rfl⟩, fun x hx => absurd hx (by simp)⟩, by rw [show (.slice none ([] : List GLain).length 0 : Value) = .slice none 0 0 from rfl, set_self h13, set_self h15]; exact HBX.out.ext HX1.out⟩
end Go.Proofs.YtbjghkmjnhmlfaaGreatDoor

/- Package read: part. -/
namespace Go.Proofs.YtbjghkmjnhmlfaaGreatDoor
open Go.RowKit

theorem Slot.beside {X : Type} {S : Srt X} {w w' : World} {g p o o' B : Nat} {u v v' : Value} {ys : List X} (h : Slot S B w p o u ys (fun b => v.ownBlock = some b)) (k : Chg (fun x => x = g ∨ x = p ∨ v.ownBlock = some x) w w') (kb : Beside p o' w w') (ho : o ≠ o') (hg : g < B) (hG : Grown w v v') : Slot S B w' p o u ys (fun b => v'.ownBlock = some b) := by
 have hp := h.lt
 refine ⟨h.inv.far (fun b h1 h2 h3 => k.block b h2 (fun e => by rcases e with e | e | e; omega; omega; exact h3 e)) (fun b _ h2 e => ?_) k.size, ((kb o).1 ho).trans h.cell, (kb o).2.trans h.fz, hp⟩
 rcases hG with e' | ⟨q, e', hq⟩
 ·
  exact e' ▸ e
 ·
  rw [e'] at e; injection e with e; omega
/-- a clause's two lists, in cells 4 and 5 of block p -/
structure Two (B : Nat) (w : World) (p : Nat) (hd : List Value) (v4 : Value) (xs : List Lain) (v5 : Value) (gs : List GLain) : Prop where
 s4 : Slot ST B w p 4 v4 xs (fun b => v5.ownBlock = some b)
 s5 : Slot SG B w p 5 v5 gs (fun b => v4.ownBlock = some b)
 box : BoxN w p (hd ++ [v4, v5])
 l4 : xs.length ≤ 3
 l5 : gs.length ≤ 4
theorem Two.keep {B : Nat} {w w' : World} {p : Nat} {hd : List Value} {v4 v5 : Value} {xs : List Lain} {gs : List GLain} {F : Nat → Prop} (h : Two B w p hd v4 xs v5 gs) (k : Chg F w w') (hF : ∀ b, F b → b < B ∧ b ≠ p) : Two B w' p hd v4 xs v5 gs :=
 ⟨h.s4.keep k (fun b f => ⟨.inl (hF b f).1, (hF b f).2⟩), h.s5.keep k (fun b f => ⟨.inl (hF b f).1, (hF b f).2⟩), h.box.chg k (fun f => (hF p f).2 rfl), h.l4, h.l5⟩
theorem Two.ext {B : Nat} {w w' : World} {p : Nat} {hd : List Value} {v4 v5 : Value} {xs : List Lain} {gs : List GLain} (h : Two B w p hd v4 xs v5 gs) (k : Ext w w') : Two B w' p hd v4 xs v5 gs := h.keep (F := fun _ => False) (Chg.of_ext k) (fun _ f => f.elim)
def PartOut (w : World) (g p : Nat) (K : RdP) (T : List Tok) (B : Nat) (hd : List Value) (v4 v5 : Value) (F : Rs Cl) (e : Ending) (w' : World) : Prop := Chg (fun x => x = g ∨ x = p ∨ v4.ownBlock = some x ∨ v5.ownBlock = some x) w w' ∧
 match F with
 | .ok (c, j) => e = .returned (.bool true) ∧ RdAt w' g K T j 0 ∧ ∃ v4' xs v5' gs, xs.map (·.1) = c.body ∧ gs.map (·.1) = c.guards ∧ Two B w' p hd v4' xs v5' gs
 | .error (a, x) => e = .returned (.bool false) ∧ RdErr w' g a x ∧ ∃ A l c A' l' c', BoxN w' p (hd ++ [.slice A l c, .slice A' l' c'])
theorem partP_eq (T : List Tok) (c : Cl) (i : Nat) : partP T c i = match termP T 100 i with
  | .error e => .error e
  | .ok (t, j) => if isOp (rl T j) = true then (match opTg T c.guards t i j with | .error e => .error e | .ok (gs, m) => .ok (⟨c.head, c.body, gs⟩, m))
   else if c.body.length = 3 then .error (lim T i) else .ok (⟨c.head, c.body ++ [t], c.guards⟩, j) := by
 unfold partP
 cases termP T 100 i with
 | error e => rfl
 | ok x =>
  obtain ⟨t, j⟩ := x
  simp only
  by_cases h : isOp (rl T j) = true
  ·
   rw [if_pos h, if_pos h]; unfold opTg; rw [if_pos h]; cases opP T c.guards t i j <;> rfl
  ·
   rw [if_neg h, if_neg h]
theorem part_bool {w w' : World} {g p : Nat} {K : RdP} {T : List Tok} {B : Nat} {hd : List Value} {v4 v5 : Value} {F : Rs Cl} {e : Ending} (h : PartOut w g p K T B hd v4 v5 F e w') : ∃ bb, e = .returned (.bool bb) := by
 obtain ⟨_, h3⟩ := h
 match F, h3 with
 | .error (a, x), h3 => exact ⟨_, h3.1⟩
 | .ok (c, j), h3 => exact ⟨_, h3.1⟩
/-- a comparison came behind the others -/
theorem part_gds {w w3 w4 : World} {g p : Nat} {K : RdP} {T : List Tok} {B j i : Nat} {hd : List Value} {v4 v5 : Value} {xs : List Lain} {gs : List GLain} {head : Tm} {t : Tm} {F : Rs Cl} {e : Ending} (hl : hd.length = 4) (h3 : Two B w3 p hd v4 xs v5 gs) (hC : Chg (· = g) w w3) (hg : g < B)
  (hF : F = match opTg T (gs.map (·.1)) t i j with | .error e => .error e | .ok (gs, m) => .ok (⟨head, xs.map (·.1), gs⟩, m))
  (hout : GdsOut w3 g p 5 K T B v5 (fun b => v4.ownBlock = some b) (opTg T (gs.map (·.1)) t i j) e w4) (h4 : ∀ x m, opTg T (gs.map (·.1)) t i j = .ok (x, m) → x.length ≤ 4) : PartOut w g p K T B hd v4 v5 F e w4 := by
 obtain ⟨k1, k2, k3⟩ := hout
 have hp := h3.s4.lt
 subst hF
 refine ⟨(hC.weak fun _ e => .inl e).trans (k1.weak fun _ e => by rcases e with e | e | e; exact .inl e; exact .inr (.inl e); exact .inr (.inr (.inr e))), ?_⟩
 match hm : opTg T (gs.map (·.1)) t i j with
 | .error (a, x) =>
  rw [hm] at k3
  rw [hm]
  obtain ⟨he, hE, A', l', c', hc⟩ := k3
  obtain ⟨A, c, rfl, _⟩ := src_own h3.s4.inv.own
  have hb := h3.box.beside k2 hc (by simp [hl])
  rw [show (hd ++ [Value.slice A xs.length c, v5]).set 5 (.slice A' l' c') = hd ++ [.slice A xs.length c, .slice A' l' c'] by rw [List.set_append, if_neg (by omega), hl]; rfl] at hb
  exact ⟨he, hE, A, _, c, A', l', c', hb⟩
 | .ok (x, m) =>
  rw [hm] at k3
  rw [hm]
  obtain ⟨he, hR, v5', gs', hx, hS, hG⟩ := k3
  have hb := h3.box.beside k2 hS.cell (by simp [hl])
  rw [show (hd ++ [v4, v5]).set 5 v5' = hd ++ [v4, v5'] by rw [List.set_append, if_neg (by omega), hl]; rfl] at hb
  refine ⟨he, hR, v4, xs, v5', gs', rfl, hx, h3.s4.beside k1 k2 (by omega) hg hG, hS, hb, h3.l4, ?_⟩
  have := h4 _ _ hm
  rw [← hx, List.length_map] at this
  exact this
/-- a term came behind the others -/
theorem part_add {w w3 w4 : World} {g p : Nat} {K : RdP} {T : List Tok} {B j i : Nat} {hd : List Value} {v4 v5 : Value} {xs : List Lain} {gs : List GLain} {head : Tm} {t : Tm} {A : Option Addr} {c : Nat} {F : Rs Cl} {e : Ending} (hl : hd.length = 4) (h3 : Two B w3 p hd v4 xs v5 gs) (hC : Chg (· = g) w w3) (hg : g < B) (hpg : p ≠ g)
  (hF : F = if (xs.map (·.1)).length = 3 then .error (lim T i) else .ok (⟨head, xs.map (·.1) ++ [t], gs.map (·.1)⟩, j))
  (hout : AddOut ST w3 g K T j 0 p 4 B v4 xs (fun b => v5.ownBlock = some b) (t, A, c) 3 (lim T i).1 e w4) : PartOut w g p K T B hd v4 v5 F e w4 := by
 subst hF
 rw [List.length_map]
 unfold AddOut at hout
 by_cases h4 : xs.length = 3
 ·
  rw [if_pos h4] at hout
  rw [if_pos h4]
  obtain ⟨he, hE4, hC4⟩ := hout
  have hC5 := hC.trans hC4
  obtain ⟨A4, c4, rfl, _⟩ := src_own h3.s4.inv.own
  obtain ⟨A5, c5, rfl, _⟩ := src_own h3.s5.inv.own
  exact ⟨hC5.weak fun _ e => .inl e, he, hE4, A4, _, c4, A5, _, c5, h3.box.chg hC4 hpg⟩
 ·
  rw [if_neg h4] at hout
  rw [if_neg h4]
  obtain ⟨he, hR4, ⟨v', hS4, hG4⟩, hC4, hB4⟩ := hout
  have hb := h3.box.beside hB4 hS4.cell (by simp [hl])
  rw [show (hd ++ [v4, v5]).set 4 v' = hd ++ [v', v5] by rw [List.set_append, if_neg (by omega), hl]; rfl] at hb
  refine ⟨(hC.weak fun _ e => .inl e).trans (hC4.weak fun _ e => by rcases e with e | e; exact .inr (.inl e); exact .inr (.inr (.inl e))), he, hR4, v', _, v5, gs, by rw [List.map_append]; rfl, rfl, hS4, h3.s5.beside (hC4.weak fun _ e => .inr e) hB4 (by omega) hg hG4, hb, ?_, h3.l5⟩
  have := h3.l4
  rw [List.length_append]
  simp only [List.length_cons, List.length_nil]
  omega
theorem setCells_new {w w5 : World} {g q : Nat} (hC : Chg (· = g) w w5) (hq : w.heap.size ≤ q) (vs : List Value) : Chg (· = g) w (w5.setCells q 0 vs) := by
 have hsz : (w5.setCells q 0 vs).heap.size = w5.heap.size := setCells_size (w := w5) vs 0 w5 rfl
 have k := setCells_chg w5 q vs 0 w5 (Chg.refl _ _)
 refine ⟨k.os.trans hC.os, k.tape.trans hC.tape, k.output.trans hC.output, by rw [hsz]; exact hC.size, fun x hx' hf => ?_⟩
 rw [setCells_block (by omega)]
 exact hC.block x hx' hf
theorem opT_four {T : List Tok} {gs : List Gd} {t : Tm} {fr i : Nat} {x : List Gd} {j : Nat} (hT : EndLast T) (h : opTg T gs t fr i = .ok (x, j)) (hg : gs.length ≤ 4) : x.length ≤ 4 ∧ i < j ∧ j < T.length := by
 unfold opTg at h
 split at h
 ·
  obtain ⟨h1, h2, u, hx⟩ := opP_takes hT h
  unfold opP at h
  match ht : termP T 100 (i + 1) with
  | .error e => rw [ht] at h; cases h
  | .ok (u', m) =>
   rw [ht] at h
   simp only at h
   split at h
   ·
    cases h
   ·
    rename_i h4
    refine ⟨?_, by omega, h2⟩
    rw [hx]; simp; omega
 ·
  cases h
set_option maxRecDepth 100000 in
set_option maxHeartbeats 4000000 in
theorem part_rd {w : World} {g p : Nat} {K : RdP} {T : List Tok} {i B : Nat} {hd : List Value} {v4 v5 : Value} {xs : List Lain} {gs : List GLain} (head : Tm) (hT : EndLast T) (h : RdAt w g K T i 0) (hbo : BitOk w g) (hi : i < T.length) (hpg : p ≠ g) (hpA : p ≠ K.A) (hpR : p ≠ K.R)
  (hlo : g < B ∧ K.A < B ∧ K.R < B) (hl : hd.length = 4) (h2 : Two B w p hd v4 xs v5 gs) :
  Calls Tryz.prog 86 #[.pointer (some ⟨g, 0, none⟩), .pointer (some ⟨p, 0, none⟩)] w (PartOut w g p K T B hd v4 v5 (partP T ⟨head, xs.map (·.1), gs.map (·.1)⟩ i)) := by
 have hgl := h.lt
 have hpl := h2.box.lt
 have hB := h2.s4.inv.size
 have hpB := h2.s4.lt
 have KP := Lib.hid (place_any h hi)
 obtain ⟨F, hF⟩ : ∃ F, F = partP T ⟨head, xs.map (·.1), gs.map (·.1)⟩ i := ⟨_, rfl⟩
 rw [← hF]
 have HF := Lib.hid (hF.trans (partP_eq T _ i))
 obtain ⟨fa, hfa⟩ : ∃ fa, fa = (tk T i).at_ := ⟨_, rfl⟩
 rw [← hfa] at KP
 have HFA := Lib.hid hfa
 have HBO := Lib.hid hbo
 have HH := Lib.hid (And.intro h h2)
 clear hF hfa h h2 hbo
 go_enter Tryz.func86, Tryz.ntmps86
 go_wp2_with fail
 refine KP.out.mono ?_
 rintro e w1 ⟨rfl, hx1⟩
 have KT := Lib.hid (term_any T hT 100 w1 g K i 0 (by omega) (HH.out.1.ext hx1) hi)
 have hsx := hx1.size
 have HX1 := Lib.hid hx1
 clear KP hx1
 go_wp2_with fail
 refine KT.out.mono ?_
 rintro e w2 ⟨hC2, ho⟩
 have hC2w : Chg (· = g) w w2 := (Chg.of_ext HX1.out).trans hC2
 match hpi : termP T 100 i with
 | .error (a, x) =>
  rw [hpi] at ho
  have HFF : Hid (F = .error (a, x)) := Lib.hid (by rw [HF.out, hpi])
  obtain ⟨⟨k', sn, n', A', l, c', rfl⟩, hE⟩ := ho
  obtain ⟨w3, hw3⟩ : ∃ w3, w3 = w2.alloc (.cells #[.int .i64 k', .string sn, .int .i64 n', .slice A' l c'] 58) := ⟨_, rfl⟩
  have hx3 : Ext w2 w3 := by rw [hw3]; exact (Ext.refl _).alloc _
  have HW3 := Lib.hid hw3
  have HE := Lib.hid (hE.ext hx3)
  have hC3 := hC2w.trans (Chg.of_ext hx3)
  clear hw3 hE hx3 KT hpi hC2 hC2w
  go_upto_region 3 with (fail)
  rw [← HW3.out]
  go_wp2_with fail
  go_ret
  rw [HFF.out]
  obtain ⟨A4, c4, e4, _⟩ := src_own HH.out.2.s4.inv.own
  obtain ⟨A5, c5, e5, _⟩ := src_own HH.out.2.s5.inv.own
  have hb := HH.out.2.box.chg hC3 hpg
  rw [e4, e5] at hb
  exact ⟨hC3.weak fun _ e => .inl e, rfl, HE.out, A4, _, c4, A5, _, c5, hb⟩
 | .ok (t, j) =>
  rw [hpi] at ho
  obtain ⟨A2, c2, rfl, hIn, hR2⟩ := ho
  have hjj := termP_takes hT 100 _ _ _ hpi
  have HFF : Hid (F = if isOp (rl T j) = true then (match opTg T (gs.map (·.1)) t i j with | .error e => .error e | .ok (gs, m) => .ok (⟨head, xs.map (·.1), gs⟩, m))
   else if (xs.map (·.1)).length = 3 then .error (lim T i) else .ok (⟨head, xs.map (·.1) ++ [t], gs.map (·.1)⟩, j)) := Lib.hid (by rw [HF.out, hpi])
  obtain ⟨w3, hw3⟩ : ∃ w3, w3 = w2.alloc (.cells #[.int .i64 t.kind, .string t.name, .int .i64 t.n, .slice A2 t.args.length c2] 58) := ⟨_, rfl⟩
  have hx3 : Ext w2 w3 := by rw [hw3]; exact (Ext.refl _).alloc _
  have hb3 : Box4 w3 w2.heap.size (.int .i64 t.kind) (.string t.name) (.int .i64 t.n) (.slice A2 t.args.length c2) := by rw [hw3]; exact Box4.new w2 _ _ _ _ _
  have HW3 := Lib.hid hw3
  have hC3 := hC2w.trans (Chg.of_ext hx3)
  have hR3 := hR2.ext hx3
  have hs2 := hC2.size
  have hTwo3 := HH.out.2.keep hC3 (fun b e => by subst e; exact ⟨hlo.1, fun e => hpg e.symm⟩)
  have ht3 : TmIn w3 (New w1 w3) t A2 c2 := hIn.keep fun b hb _ => ⟨hx3.block b hb.2, hb.1, by have := hb.2; have := hx3.size; omega⟩
  have KS := Lib.hid (sees_rd 491520 (by omega) hR3 hjj.2)
  rw [mask_op _ (rl_lt T j)] at KS
  have HC3 := Lib.hid hC3
  have HT3 := Lib.hid (And.intro hTwo3 (And.intro ht3 hR3))
  clear hw3 hx3 KT hpi hC2 hC2w hR3 hR2 hIn hC3 hTwo3 ht3
  go_upto_region 5 with (fail)
  rw [← HW3.out]
  cases hop : isOp (rl T j) with
  | true =>
   rw [hop] at KS
   go_wp2_with fail
   refine KS.out.mono ?_
   rintro e w4 ⟨rfl, hx4⟩
   have hC4 : Chg (· = g) w w4 := HC3.out.trans (Chg.of_ext hx4)
   have hT4 := HT3.out.1.ext hx4
   have hR4 := HT3.out.2.2.ext hx4
   obtain ⟨b0, b1, b2, b3, _, _, _, _⟩ := hb3.ext hx4
   have hxd : Ext w4 w4.drew := (Ext.refl _).drew
   have hTd := hT4.ext hxd
   have hv4 : ∀ q, v4.ownBlock = some q → q < w.heap.size := fun q hq => (HH.out.2.s4.inv.lt q hq).2
   have hv5 : ∀ q, v5.ownBlock = some q → q < w.heap.size := fun q hq => (HH.out.2.s5.inv.lt q hq).2
   have hs4 := hC4.size
   have ht4 : TmIn w4.drew (fun b => (B ≤ b ∧ b < w4.drew.heap.size) ∧ ¬ v4.ownBlock = some b ∧ v5.ownBlock ≠ some b) t A2 c2 := HT3.out.2.1.keep fun b hb _ => ⟨(hx4.trans hxd).block b hb.2, ⟨by have := hb.1; omega, by have := hb.2; have := (hx4.trans hxd).size; omega⟩, fun e => by have := hv4 b e; have := hb.1; omega, fun e => by have := hv5 b e; have := hb.1; omega⟩
   have KC := Lib.hid (comparison_rd i hT (hR4.ext hxd) (HBO.out.chg (hC4.trans (Chg.of_ext hxd))) hjj.2 hpg hpA hpR hlo hTd.s5 hTd.l5 (fun b hb => by have := hv4 b hb; have := hxd.size; omega) ht4)
   rw [← HFA.out] at KC
   have HFO : Hid (F = match opTg T (gs.map (·.1)) t i j with | .error e => .error e | .ok (gs, m) => .ok (⟨head, xs.map (·.1), gs⟩, m)) := Lib.hid (by rw [HFF.out, if_pos hop])
   have H4 := Lib.hid (And.intro hTd (hC4.trans (Chg.of_ext hxd)))
   have d0 : w4.drew.cell? ⟨w2.heap.size, 0, none⟩ = some (.int .i64 t.kind) := b0
   have d1 : w4.drew.cell? ⟨w2.heap.size, 1, none⟩ = some (.string t.name) := b1
   have d2 : w4.drew.cell? ⟨w2.heap.size, 2, none⟩ = some (.int .i64 t.n) := b2
   have d3 : w4.drew.cell? ⟨w2.heap.size, 3, none⟩ = some (.slice A2 t.args.length c2) := b3
   clear hx4 hT4 hR4 hb3 hTd ht4 hC4 KS hxd hv4 hv5
   go_upto_region 6 with (fail)
   go_region_with ((with_reducible refine KC.out.mono ?_); rintro e w5 hout; obtain ⟨bb, rfl⟩ := gds_bool hout)
   all_goals
    have HO := Lib.hid (part_gds (head := head) (xs := xs) hl H4.out.1 H4.out.2 hlo.1 HFO.out hout (fun x m hm => (opT_four hT hm (by rw [List.length_map]; exact H4.out.1.l5)).1))
    clear hout KC b0 b1 b2 b3 d0 d1 d2 d3
    go_wp2_with fail
    go_ret
    exact HO.out
  | false =>
   rw [hop] at KS
   go_wp2_with fail
   refine KS.out.mono ?_
   rintro e w4 ⟨rfl, hx4⟩
   have hC4 : Chg (· = g) w w4 := HC3.out.trans (Chg.of_ext hx4)
   have hT4 := HT3.out.1.ext hx4
   have hR4 := HT3.out.2.2.ext hx4
   obtain ⟨b0, b1, b2, b3, _, _, _, _⟩ := hb3.ext hx4
   have hxd : Ext w4 w4.drew := (Ext.refl _).drew
   have hTd := hT4.ext hxd
   have hv4 : ∀ q, v4.ownBlock = some q → q < w.heap.size := fun q hq => (HH.out.2.s4.inv.lt q hq).2
   have hv5 : ∀ q, v5.ownBlock = some q → q < w.heap.size := fun q hq => (HH.out.2.s5.inv.lt q hq).2
   have hs4 := hC4.size
   have ht4 : TmIn w4.drew (fun b => (B ≤ b ∧ b < w4.drew.heap.size) ∧ ¬ v5.ownBlock = some b ∧ v4.ownBlock ≠ some b) t A2 c2 := HT3.out.2.1.keep fun b hb _ => ⟨(hx4.trans hxd).block b hb.2, ⟨by have := hb.1; omega, by have := hb.2; have := (hx4.trans hxd).size; omega⟩, fun e => by have := hv5 b e; have := hb.1; omega, fun e => by have := hv4 b e; have := hb.1; omega⟩
   have KA0 := addT_rd (y := (t, A2, c2)) fa hTd.l4 (hR4.ext hxd) hTd.s4 hpg hpA hpR hlo (fun b hb => by have := hv5 b hb; have := hxd.size; omega) ht4
   have KA1 : Calls Tryz.prog 104 #[.pointer (some ⟨g, 0, none⟩), .pointer (some ⟨p, 4, none⟩), .agg #[.int .i64 t.kind, .string t.name, .int .i64 t.n, .slice A2 t.args.length c2], .int .i64 3, .int .i64 fa] w4.drew (AddOut ST w4.drew g K T j 0 p 4 B v4 xs (fun b => v5.ownBlock = some b) (t, A2, c2) 3 fa) := KA0
   have KA := Lib.hid KA1
   have HFO : Hid (F = if (xs.map (·.1)).length = 3 then .error (lim T i) else .ok (⟨head, xs.map (·.1) ++ [t], gs.map (·.1)⟩, j)) := Lib.hid (by rw [HFF.out, if_neg (by rw [hop]; simp)])
   have H4 := Lib.hid (And.intro hTd (hC4.trans (Chg.of_ext hxd)))
   have d0 : w4.drew.cell? ⟨w2.heap.size, 0, none⟩ = some (.int .i64 t.kind) := b0
   have d1 : w4.drew.cell? ⟨w2.heap.size, 1, none⟩ = some (.string t.name) := b1
   have d2 : w4.drew.cell? ⟨w2.heap.size, 2, none⟩ = some (.int .i64 t.n) := b2
   have d3 : w4.drew.cell? ⟨w2.heap.size, 3, none⟩ = some (.slice A2 t.args.length c2) := b3
   clear hx4 hT4 hR4 hb3 hTd ht4 hC4 KS hxd hv4 hv5 KA0 KA1
   go_upto_region 7 with (fail)
   go_region_with ((with_reducible refine KA.out.mono ?_); rintro e w5 hout; obtain ⟨bb, rfl⟩ := add_bool hout)
   all_goals
    have HO := Lib.hid (part_add (head := head) (gs := gs) hl H4.out.1 H4.out.2 hlo.1 hpg HFO.out (by rw [HFA.out] at hout; exact hout))
    clear hout KA b0 b1 b2 b3 d0 d1 d2 d3
    go_wp2_with fail
    go_ret
    exact HO.out
end Go.Proofs.YtbjghkmjnhmlfaaGreatDoor

/- Package read: clause. -/
namespace Go.Proofs.YtbjghkmjnhmlfaaGreatDoor
open Go.RowKit

def Sh6 (cs : List Value) : Prop := ∃ h0 h1 h2 A3 l3 d3 A4 l4 d4 A5 l5 d5, cs = [.int .i64 h0, .string h1, .int .i64 h2, .slice A3 l3 d3, .slice A4 l4 d4, .slice A5 l5 d5]
def ClauseOut (w : World) (g : Nat) (K : RdP) (T : List Tok) (Fh : Nat → Prop) (F : Rs Cl) (e : Ending) (w' : World) : Prop := Chg (· = g) w w' ∧
 match F with
 | .ok (c, j) => ∃ x : ClL, x.cl = c ∧ e = .returned (.tuple #[.agg (clCells x).toArray, .bool true]) ∧ ClIn w' (fun b => Fh b ∨ New w w' b) x ∧ RdAt w' g K T j 0
 | .error (a, x) => (∃ cs, Sh6 cs ∧ e = .returned (.tuple #[.agg cs.toArray, .bool false])) ∧ RdErr w' g a x
theorem cl_fin_ok {w w5 wf : World} {g q j : Nat} {K : RdP} {T : List Tok} {Fh : Nat → Prop} {x : ClL} {c : Cl} (hC : Chg (· = g) w w5) (hq : w.heap.size ≤ q) (hg : g < w.heap.size) (hlo : K.A < w.heap.size ∧ K.R < w.heap.size) (hR : RdAt w5 g K T j 0) (hF : ∀ b, Fh b → b < w.heap.size)
  (hIn : ClIn w5 (fun b => Fh b ∨ (q < b ∧ b < w5.heap.size)) x) (hx : x.cl = c) {vs : List Value} (hwf : wf = w5.setCells q 0 vs) {e : Ending} (he : e = .returned (.tuple #[.agg (clCells x).toArray, .bool true])) : ClauseOut w g K T Fh (.ok (c, j)) e wf := by
 subst hwf
 have hsz : (w5.setCells q 0 vs).heap.size = w5.heap.size := setCells_size (w := w5) vs 0 w5 rfl
 refine ⟨setCells_new hC hq vs, x, hx, he, SC.keep hIn fun b hb _ => ⟨setCells_block (by rcases hb with e | e; have := hF b e; omega; omega) vs 0 w5, by rcases hb with e | e; exact .inl e; exact .inr ⟨by omega, by rw [hsz]; exact e.2⟩⟩, hR.keep fun x _ e => setCells_block (by rcases e with e | e | e <;> omega) vs 0 w5⟩
theorem cl_fin_err {w w5 wf : World} {g q : Nat} {K : RdP} {T : List Tok} {Fh : Nat → Prop} {a x : Int} (hC : Chg (· = g) w w5) (hq : w.heap.size ≤ q) (hg : g < w.heap.size) (hE : RdErr w5 g a x) {vs cs : List Value} (hwf : wf = w5.setCells q 0 vs) (hs : Sh6 cs) {e : Ending} (he : e = .returned (.tuple #[.agg cs.toArray, .bool false])) : ClauseOut w g K T Fh (.error (a, x)) e wf := by
 subst hwf
 have kg : (w5.setCells q 0 vs).heap[g]? = w5.heap[g]? := setCells_block (by omega) vs 0 w5
 exact ⟨setCells_new hC hq vs, ⟨cs, hs, he⟩, cell_same kg hE.c4, cell_same kg hE.c5⟩
theorem ClauseOut.ext {w wf wf' : World} {g : Nat} {K : RdP} {T : List Tok} {Fh : Nat → Prop} {F : Rs Cl} {e : Ending} (h : ClauseOut w g K T Fh F e wf) (hF : ∀ b, Fh b → b < w.heap.size) (k : Ext wf wf') : ClauseOut w g K T Fh F e wf' := by
 obtain ⟨h1, h2⟩ := h
 refine ⟨h1.trans (Chg.of_ext k), ?_⟩
 match F, h2 with
 | .error (a, x), ⟨h2, h3⟩ => exact ⟨h2, h3.ext k⟩
 | .ok (c, j), ⟨x, hx, he, hI, hR⟩ =>
  exact ⟨x, hx, he, SC.keep hI fun b hb _ => ⟨k.block b (by rcases hb with e | e; have := hF b e; have := h1.size; omega; exact e.2), by rcases hb with e | e; exact .inl e; exact .inr ⟨e.1, by have := e.2; have := k.size; omega⟩⟩, hR.ext k⟩
theorem partP_head {T : List Tok} {c d : Cl} {i j : Nat} (h : partP T c i = .ok (d, j)) : d.head = c.head := by
 rw [partP_eq] at h
 match ht : termP T 100 i with
 | .error e => rw [ht] at h; cases h
 | .ok (t, m) =>
  rw [ht] at h
  simp only at h
  split at h
  ·
   match ho : opTg T c.guards t i m with
   | .error e => rw [ho] at h; cases h
   | .ok (gs, l) => rw [ho] at h; cases h; rfl
  ·
   split at h
   ·
    cases h
   ·
    cases h; rfl
theorem chg_part {w w1 w2 : World} {g p : Nat} {v4 v5 : Value} (h : Chg (· = g) w w1) (k : Chg (fun x => x = g ∨ x = p ∨ v4.ownBlock = some x ∨ v5.ownBlock = some x) w1 w2) (hp : w.heap.size ≤ p) (h4 : ∀ q, v4.ownBlock = some q → w.heap.size ≤ q) (h5 : ∀ q, v5.ownBlock = some q → w.heap.size ≤ q) : Chg (· = g) w w2 :=
 ⟨k.os.trans h.os, k.tape.trans h.tape, k.output.trans h.output, Nat.le_trans h.size k.size, fun x hx hf => by
  rw [k.block x (by have := h.size; omega) (fun e => by rcases e with e | e | e | e; exact hf e; omega; have := h4 x e; omega; have := h5 x e; omega)]
  exact h.block x hx hf⟩
theorem BitOk.back {w w1 wr : World} {g : Nat} (h : BitOk w1 g) (hx : Ext w w1) (k : Chg (· = g) w wr) (hl : 2 < w.heap.size) : BitOk wr g :=
 ⟨fun i hi => by
  have h1 := h.at_ i hi
  rw [← h1, World.cell?_of_block (w := w) (a := ⟨2, tzI i, none⟩) (k.block _ hl (fun e => h.ne e.symm)), World.cell?_of_block (w := w) (a := ⟨2, tzI i, none⟩) (hx.block _ hl)], h.ne⟩
set_option maxRecDepth 100000 in
set_option maxHeartbeats 8000000 in
theorem clause_rd {w : World} {g : Nat} {K : RdP} {T : List Tok} {i : Nat} {Fh : Nat → Prop} {head : Tm} {A : Option Addr} {ac : Nat} (hT : EndLast T) (h : RdAt w g K T i 0) (hbo : BitOk w g) (hi : i < T.length) (hh : TmIn w Fh head A ac) (hFh : ∀ b, Fh b → b < w.heap.size ∧ b ≠ g) :
  Calls Tryz.prog 57 #[.pointer (some ⟨g, 0, none⟩), head.val A ac] w (ClauseOut w g K T Fh (clauseP T head i)) := by
 have hgl := h.lt
 have hlo := h.low hT.1
 have hGl := hbo.at_.lt
 obtain ⟨q, hq⟩ : ∃ q, q = w.heap.size + 1 := ⟨_, rfl⟩
 obtain ⟨w0, hw0⟩ : ∃ w0, w0 = (w.alloc (.cells #[.int .i64 head.kind, .string head.name, .int .i64 head.n, .slice A head.args.length ac] 58)).alloc (.cells #[.int .i64 0, .string ⟨#[]⟩, .int .i64 0, .slice none 0 0, .slice none 0 0, .slice none 0 0] 73) := ⟨_, rfl⟩
 have hx0 : Ext w w0 := by rw [hw0]; exact ((Ext.refl _).alloc _).alloc _
 have hh0 : Box4 w0 w.heap.size (.int .i64 head.kind) (.string head.name) (.int .i64 head.n) (.slice A head.args.length ac) := by rw [hw0]; exact (Box4.new w _ _ _ _ _).ext ((Ext.refl _).alloc _)
 have hq0 : BoxN w0 q [.int .i64 0, .string ⟨#[]⟩, .int .i64 0, .slice none 0 0, .slice none 0 0, .slice none 0 0] := by
  have := BoxN.new (w.alloc (.cells #[.int .i64 head.kind, .string head.name, .int .i64 head.n, .slice A head.args.length ac] 58)) #[.int .i64 0, .string ⟨#[]⟩, .int .i64 0, .slice none 0 0, .slice none 0 0, .slice none 0 0] 73 (by simp)
  rw [hsz_alloc] at this
  rw [hw0, hq]; exact this
 have HW0 := Lib.hid (And.intro hw0 hq)
 have hq1 : w.heap.size < q := by omega
 obtain ⟨px, hpx⟩ : ∃ px, px = w0.heap.size := ⟨_, rfl⟩
 obtain ⟨w1, hw1⟩ : ∃ w1, w1 = w0.alloc (.cells #[.int .i64 head.kind, .string head.name, .int .i64 head.n, .slice A head.args.length ac, .slice none 0 0, .slice none 0 0] 73) := ⟨_, rfl⟩
 have hb1 : BoxN w1 px [.int .i64 head.kind, .string head.name, .int .i64 head.n, .slice A head.args.length ac, .slice none 0 0, .slice none 0 0] := by rw [hw1, hpx]; exact BoxN.new w0 _ _ (by simp)
 have hx1 : Ext w0 w1 := by rw [hw1]; exact (Ext.refl _).alloc _
 have HW1 := Lib.hid (And.intro hw1 hpx)
 have hqpx : q < px := by rw [hpx]; exact hq0.lt
 have hpl1 := hb1.lt
 clear hw0 hq hw1 hpx
 have hxw := hx0.trans hx1
 have hR1 := h.ext hxw
 obtain ⟨B, hBe⟩ : ∃ B, B = w1.heap.size := ⟨_, rfl⟩
 have hTwo1 : Two B w1 px [.int .i64 head.kind, .string head.name, .int .i64 head.n, .slice A head.args.length ac] (.slice none 0 0) [] (.slice none 0 0) [] :=
  ⟨⟨GInv.start ST _ (by omega), hb1.cell 4 rfl, hb1.fz 4 (by simp), by omega⟩, ⟨GInv.start SG _ (by omega), hb1.cell 5 rfl, hb1.fz 5 (by simp), by omega⟩, hb1, by simp, by simp⟩
 have hq2 := hq0.ext hx1
 obtain ⟨t0, t1, t2, t3, _, _, _, _⟩ := hh0
 have HBO := Lib.hid (hbo.ext hxw)
 have HHH := Lib.hid (And.intro hh hFh)
 have HXW := Lib.hid hxw
 obtain ⟨F, hF⟩ : ∃ F, F = clauseP T head i := ⟨_, rfl⟩
 rw [← hF]
 have HF := Lib.hid hF
 have hlo3 : g < B ∧ K.A < B ∧ K.R < B := by have := hxw.size; omega
 clear h hbo hh hFh hF hb1 hq0 hx0 hx1
 go_enter Tryz.func57, Tryz.ntmps57
 go_upto_region 1 with (fail)
 rw [← HW0.out.2, ← HW0.out.1]
 go_upto_region 2 with (fail)
 rw [← HW1.out.2, ← HW1.out.1]
 clear t0 t1 t2 t3
 have HST : Hid (Two B w1 px [.int .i64 head.kind, .string head.name, .int .i64 head.n, .slice A head.args.length ac] (.slice none 0 0) [] (.slice none 0 0) [] ∧ RdAt w1 g K T i 0 ∧ BoxN w1 q [.int .i64 0, .string ⟨#[]⟩, .int .i64 0, .slice none 0 0, .slice none 0 0, .slice none 0 0]) := Lib.hid ⟨hTwo1, hR1, hq2⟩
 clear hTwo1 hR1 hq2 hxw
 -- the first test
 go_cut [7] (fun v7 wx => ∃ (mb : Bool) (j : Nat), v7 = .bool mb ∧ j < T.length ∧ RdAt wx g K T j 0 ∧ Chg (· = g) w1 wx ∧
   Hid (if mb = true then partsP T (T.length - i) ⟨head, [], []⟩ j = F ∧ j = i + 1 else (if rl T j = 7 then Except.ok (⟨head, [], []⟩, j + 1) else Except.error (bad T j)) = F))
 case first =>
  by_cases h13 : rl T i = 13
  ·
   have hi1 := hT.next 13 h13 (by omega)
   have KT := Lib.hid (take_yes 8192 (by omega) HST.out.2.1 hi (by rw [h13]; decide))
   have HFF : Hid (partsP T (T.length - i) ⟨head, [], []⟩ (i + 1) = F) := Lib.hid (by rw [HF.out]; unfold clauseP; rw [if_pos h13])
   go_wp2_with fail
   refine KT.out.mono ?_
   rintro e w2 ⟨rfl, hR2, hC2⟩
   have HH := Lib.hid (And.intro hR2 hC2)
   clear KT hR2 hC2
   go_wp2_with fail
   go_meet
   exact ⟨true, i + 1, rfl, hi1, HH.out.1, HH.out.2, Lib.hid (by rw [if_pos rfl]; exact ⟨HFF.out, rfl⟩)⟩
  ·
   have KT := Lib.hid (take_no 8192 (by omega) HST.out.2.1 hi (bit_ne (k := 13) h13))
   have HFF : Hid ((if rl T i = 7 then Except.ok (⟨head, [], []⟩, i + 1) else Except.error (bad T i)) = F) := Lib.hid (by rw [HF.out]; unfold clauseP; rw [if_neg h13])
   go_wp2_with fail
   refine KT.out.mono ?_
   rintro e w2 ⟨rfl, hx2⟩
   have HH := Lib.hid hx2
   clear KT hx2
   go_wp2_with fail
   go_meet
   exact ⟨false, i, rfl, hi, HST.out.2.1.ext HH.out, Chg.of_ext HH.out, Lib.hid (by rw [if_neg (by simp)]; exact HFF.out)⟩
 case rest =>
  obtain ⟨mb0, j0, rfl, hj0, hR0, hC0, HX0⟩ := hcut
  obtain ⟨w2, rfl⟩ : ∃ w2 : World, w2 = wc := ⟨_, rfl⟩
  have hTw0 := HST.out.1.keep hC0 (fun b e => by subst e; exact ⟨hlo3.1, by omega⟩)
  have hqz0 := HST.out.2.2.chg hC0 (by omega)
  have hCw0 : Chg (· = g) w w2 := (Chg.of_ext HXW.out).trans hC0
  go_wp2_with fail
  go_loopw [7] (fun m wr => ∃ (mb : Bool) (j : Nat) (v4 : Value) (xs : List Lain) (v5 : Value) (gs : List GLain), m = .bool mb ∧ j < T.length ∧ RdAt wr g K T j 0 ∧ Two B wr px [.int .i64 head.kind, .string head.name, .int .i64 head.n, .slice A head.args.length ac] v4 xs v5 gs ∧ BoxN wr q [.int .i64 0, .string ⟨#[]⟩, .int .i64 0, .slice none 0 0, .slice none 0 0, .slice none 0 0] ∧ Chg (· = g) w wr ∧
   Hid (if mb = true then ∃ n, T.length ≤ n + j ∧ partsP T n ⟨head, xs.map (·.1), gs.map (·.1)⟩ j = F else (if rl T j = 7 then Except.ok (⟨head, xs.map (·.1), gs.map (·.1)⟩, j + 1) else Except.error (bad T j)) = F)) (fun m wr => flagM m (T.length + 1 - nxOf wr g))
  case atStart =>
   refine ⟨mb0, j0, _, [], _, [], rfl, hj0, hR0, hTw0, hqz0, hCw0, Lib.hid ?_⟩
   have := HX0.out
   cases mb0 with
   | true => rw [if_pos rfl] at this ⊢; exact ⟨T.length - i, by omega, this.1⟩
   | false => rw [if_neg (by simp)] at this ⊢; exact this
  case round =>
   obtain ⟨mb, j, v4, xs, v5, gs, rfl, hj, hRr, hTw, hqz, hCr, HX⟩ := hrel
   clear HX0 hR0 hTw0 hqz0 hCw0 hC0 HST
   have h4 : ∀ x, v4.ownBlock = some x → B ≤ x := fun x hx => (hTw.s4.inv.lt x hx).1
   have h5 : ∀ x, v5.ownBlock = some x → B ≤ x := fun x hx => (hTw.s5.inv.lt x hx).1
   cases mb with
   | true =>
    obtain ⟨n, hn, hG⟩ : ∃ n, T.length ≤ n + j ∧ partsP T n ⟨head, xs.map (·.1), gs.map (·.1)⟩ j = F := by have := HX.out; rw [if_pos rfl] at this; exact this
    obtain ⟨n, rfl⟩ : ∃ m, n = m + 1 := ⟨n - 1, by omega⟩
    have HNX := Lib.hid hRr.nx
    have KQ := Lib.hid (part_rd head hT hRr (HBO.out.back HXW.out hCr hGl) hj (by omega : px ≠ g) (by omega) (by omega) hlo3 rfl hTw)
    rw [partsP] at hG
    have HQ := Lib.hid hqz
    clear hRr hTw hqz HX
    match hpp : partP T ⟨head, xs.map (·.1), gs.map (·.1)⟩ j with
    | .error (ea, ex) =>
     have HFF : Hid (F = .error (ea, ex)) := Lib.hid (by rw [← hG, hpp])
     rw [hpp] at KQ
     clear hpp hG
     go_wp2_with fail
     refine KQ.out.mono ?_
     rintro e w3 ⟨hC3, rfl, hE3, A4, l4, c4, A5, l5, c5, hb3⟩
     have hCf := chg_part hCr hC3 (by omega) (fun x hx => by have := h4 x hx; omega) (fun x hx => by have := h5 x hx; omega)
     have hbx : BoxN w3 px [.int .i64 head.kind, .string head.name, .int .i64 head.n, .slice A head.args.length ac, .slice A4 l4 c4, .slice A5 l5 c5] := hb3
     have hqx := HQ.out.chg hC3 (fun e => by rcases e with e | e | e | e; omega; omega; have := h4 q e; omega; have := h5 q e; omega)
     have x0 := hbx.cell 0 rfl
     have x1 := hbx.cell 1 rfl
     have x2 := hbx.cell 2 rfl
     have x3 := hbx.cell 3 rfl
     have x4 := hbx.cell 4 rfl
     have x5 := hbx.cell 5 rfl
     have y0 := hqx.cell 0 rfl
     have y1 := hqx.cell 1 rfl
     have y2 := hqx.cell 2 rfl
     have y3 := hqx.cell 3 rfl
     have y4 := hqx.cell 4 rfl
     have y5 := hqx.cell 5 rfl
     have z0 := hqx.fz 0 (by decide)
     have z1 := hqx.fz 1 (by decide)
     have z2 := hqx.fz 2 (by decide)
     have z3 := hqx.fz 3 (by decide)
     have z4 := hqx.fz 4 (by decide)
     have z5 := hqx.fz 5 (by decide)
     have HH := Lib.hid (And.intro hE3 hCf)
     clear hE3 hCf hb3 hbx hqx hC3 KQ
     go_wp2_with fail
     refine bodyPost_ret (v := .tuple #[.agg #[.int .i64 head.kind, .string head.name, .int .i64 head.n, .slice A head.args.length ac, .slice A4 l4 c4, .slice A5 l5 c5], .bool false]) (by simp [results, Tryz.results57, go_sem, *]) rfl ?_
     rw [HFF.out]
     exact cl_fin_err HH.out.2 (Nat.le_of_lt hq1) hgl HH.out.1 (vs := [.int .i64 head.kind, .string head.name, .int .i64 head.n, .slice A head.args.length ac, .slice A4 l4 c4, .slice A5 l5 c5]) (cs := [.int .i64 head.kind, .string head.name, .int .i64 head.n, .slice A head.args.length ac, .slice A4 l4 c4, .slice A5 l5 c5]) rfl ⟨_, _, _, _, _, _, _, _, _, _, _, _, rfl⟩ rfl
    | .ok (d, j') =>
     have hjt := partP_takes hT hpp
     have hdh := partP_head hpp
     have HG2 : Hid (F = if rl T j' = 6 then partsP T n d (j' + 1) else if rl T j' = 7 then .ok (d, j' + 1) else .error (bad T j')) := Lib.hid (by rw [← hG, hpp])
     rw [hpp] at KQ
     clear hpp hG
     go_wp2_with fail
     refine KQ.out.mono ?_
     rintro e w3 ⟨hC3, rfl, hR3, v4', ys, v5', hs, hys, hhs, hT3⟩
     have hCf := chg_part hCr hC3 (by omega) (fun x hx => by have := h4 x hx; omega) (fun x hx => by have := h5 x hx; omega)
     have hqx := HQ.out.chg hC3 (fun e => by rcases e with e | e | e | e; omega; omega; have := h4 q e; omega; have := h5 q e; omega)
     have HD : Hid (d = ⟨head, ys.map (·.1), hs.map (·.1)⟩) := Lib.hid (by cases d; simp only at hys hhs hdh; rw [hys, hhs, hdh])
     clear hC3 KQ hys hhs hdh
     by_cases h6 : rl T j' = 6
     ·
      have hj6 := hT.next 6 h6 (by omega)
      have KT := Lib.hid (take_yes 64 (by omega) hR3 hjt.2 (by rw [h6]; decide))
      have HH := Lib.hid (And.intro hT3 hqx)
      clear hR3 hT3 hqx
      go_wp2_with fail
      refine KT.out.mono ?_
      rintro e w4 ⟨rfl, hR4, hC4⟩
      have hCf4 := hCf.trans hC4
      have HH4 := Lib.hid (And.intro hR4 (And.intro (HH.out.1.keep hC4 (fun b e => by subst e; exact ⟨hlo3.1, by omega⟩)) (HH.out.2.chg hC4 (by omega))))
      have HN4 := Lib.hid hR4.nx
      clear hR4 hC4 KT
      go_wp2_with fail
      go_roundw
      case rel => exact ⟨true, j' + 1, v4', ys, v5', hs, rfl, hj6, HH4.out.1, HH4.out.2.1, HH4.out.2.2, hCf4, Lib.hid (by rw [if_pos rfl]; exact ⟨n, by omega, by have := HG2.out; rw [if_pos h6, HD.out] at this; exact this.symm⟩)⟩
      case measure => rw [HNX.out, HN4.out]; simp [flagM]; omega
     ·
      have KT := Lib.hid (take_no 64 (by omega) hR3 hjt.2 (bit_ne (k := 6) h6))
      have HH := Lib.hid (And.intro hR3 (And.intro hT3 hqx))
      clear hR3 hT3 hqx
      go_wp2_with fail
      refine KT.out.mono ?_
      rintro e w4 ⟨rfl, hx4⟩
      have hCf4 := hCf.trans (Chg.of_ext hx4)
      have HH4 := Lib.hid (And.intro (HH.out.1.ext hx4) (And.intro (HH.out.2.1.ext hx4) (HH.out.2.2.ext hx4)))
      clear hx4 KT
      go_wp2_with fail
      go_roundw
      case rel => exact ⟨false, j', v4', ys, v5', hs, rfl, hjt.2, HH4.out.1, HH4.out.2.1, HH4.out.2.2, hCf4, Lib.hid (by rw [if_neg (by simp)]; have := HG2.out; rw [if_neg h6, HD.out] at this; exact this.symm)⟩
      case measure => rw [HNX.out]; simp [flagM]; omega
   | false =>
    have hG : (if rl T j = 7 then Except.ok (⟨head, xs.map (·.1), gs.map (·.1)⟩, j + 1) else Except.error (bad T j)) = F := by have := HX.out; rw [if_neg (by simp)] at this; exact this
    obtain ⟨A4, c4, e4, _⟩ := src_own hTw.s4.inv.own
    obtain ⟨A5, c5, e5, _⟩ := src_own hTw.s5.inv.own
    have hbx : BoxN wr px [.int .i64 head.kind, .string head.name, .int .i64 head.n, .slice A head.args.length ac, .slice A4 xs.length c4, .slice A5 gs.length c5] := by have := hTw.box; rw [e4, e5] at this; exact this
    have hr4 := hTw.s4.inv.row
    have hr5 := hTw.s5.inv.row
    rw [e4] at hr4
    rw [e5] at hr5
    have hxd : Ext wr wr.drew := (Ext.refl _).drew
    have hbd := hbx.ext hxd
    have x0 := hbd.cell 0 rfl
    have x1 := hbd.cell 1 rfl
    have x2 := hbd.cell 2 rfl
    have x3 := hbd.cell 3 rfl
    have x4 := hbd.cell 4 rfl
    have x5 := hbd.cell 5 rfl
    have HB := Lib.hid (And.intro hbd (hqz.ext hxd))
    have HR45 := Lib.hid (And.intro hr4 hr5)
    have hpr : px < wr.heap.size := hbx.lt
    have hqr : q < wr.heap.size := hqz.lt
    by_cases h7 : rl T j = 7
    ·
     rw [if_pos h7] at hG
     have HFF : Hid (F = .ok (⟨head, xs.map (·.1), gs.map (·.1)⟩, j + 1)) := Lib.hid hG.symm
     have KN := Lib.hid (need_yes 128 (by omega) (hRr.ext hxd) hj (by rw [h7]; decide))
     clear hG HX hRr hTw hqz hbx hbd hr4 hr5 e4 e5
     go_upto_region 7 with (fail)
     go_region_with (refine KN.out.mono ?_; rintro e w5 ⟨rfl, hR5, hC5⟩; have hbx := HB.out.1.chg hC5 (by omega); have hqx := HB.out.2.chg hC5 (by omega); have a0 := hbx.cell 0 rfl; have a1 := hbx.cell 1 rfl; have a2 := hbx.cell 2 rfl; have a3 := hbx.cell 3 rfl; have a4 := hbx.cell 4 rfl; have a5 := hbx.cell 5 rfl; have y0 := hqx.cell 0 rfl; have y1 := hqx.cell 1 rfl; have y2 := hqx.cell 2 rfl; have y3 := hqx.cell 3 rfl; have y4 := hqx.cell 4 rfl; have y5 := hqx.cell 5 rfl; have z0 := hqx.fz 0 (by decide); have z1 := hqx.fz 1 (by decide); have z2 := hqx.fz 2 (by decide); have z3 := hqx.fz 3 (by decide); have z4 := hqx.fz 4 (by decide); have z5 := hqx.fz 5 (by decide); have HH := Lib.hid (And.intro hR5 hC5); clear hbx hqx hR5 hC5)
     all_goals
      go_wp2_with fail
      try go_simp
      have hC6 : Chg (· = g) w w5 := (hCr.trans (Chg.of_ext (Ext.refl _).drew)).trans HH.out.2
      have hs5 : wr.heap.size ≤ w5.heap.size := HH.out.2.size
      have hIn : ClIn w5 (fun b => Fh b ∨ (q < b ∧ b < w5.heap.size)) ⟨head, A, ac, xs, A4, c4, gs, A5, c5⟩ := by
       refine ⟨HHH.out.1.keep fun b hb _ => ⟨hC6.block b (HHH.out.2 b hb).1 (HHH.out.2 b hb).2, .inl hb⟩, HR45.out.1.keep fun b hb _ => ?_, HR45.out.2.keep fun b hb _ => ?_⟩
       ·
        have h1 := hb.1.1
        have h2 := hb.1.2
        exact ⟨HH.out.2.block b h2 (by omega), .inr ⟨by omega, by omega⟩⟩
       ·
        have h1 := hb.1.1
        have h2 := hb.1.2
        exact ⟨HH.out.2.block b h2 (by omega), .inr ⟨by omega, by omega⟩⟩
      have HI := Lib.hid hIn
      clear hIn
      refine bodyPost_ret (v := .tuple #[.agg #[.int .i64 head.kind, .string head.name, .int .i64 head.n, .slice A head.args.length ac, .slice A4 xs.length c4, .slice A5 gs.length c5], .bool true]) (by simp [results, Tryz.results57, go_sem, *]) rfl ?_
      rw [HFF.out]
      first
       | exact cl_fin_ok (x := ⟨head, A, ac, xs, A4, c4, gs, A5, c5⟩) hC6 (Nat.le_of_lt hq1) hgl hlo HH.out.1 (fun b hb => (HHH.out.2 b hb).1) HI.out rfl (vs := [.int .i64 head.kind, .string head.name, .int .i64 head.n, .slice A head.args.length ac, .slice A4 xs.length c4, .slice A5 gs.length c5]) rfl rfl
       | exact ClauseOut.ext (cl_fin_ok (x := ⟨head, A, ac, xs, A4, c4, gs, A5, c5⟩) hC6 (Nat.le_of_lt hq1) hgl hlo HH.out.1 (fun b hb => (HHH.out.2 b hb).1) HI.out rfl (vs := [.int .i64 head.kind, .string head.name, .int .i64 head.n, .slice A head.args.length ac, .slice A4 xs.length c4, .slice A5 gs.length c5]) rfl rfl) (fun b hb => (HHH.out.2 b hb).1) (Ext.refl _).drew
    ·
     rw [if_neg h7] at hG
     have HFF : Hid (F = .error (bad T j)) := Lib.hid hG.symm
     have KN := Lib.hid (need_no 128 (by omega) (hRr.ext hxd) hj (bit_ne (k := 7) h7))
     clear hG HX hRr hTw hqz hbx hbd hr4 hr5 e4 e5
     go_upto_region 7 with (fail)
     go_region_with (refine KN.out.mono ?_; rintro e w5 ⟨rfl, hE5, hC5⟩; have hbx := HB.out.1.chg hC5 (by omega); have hqx := HB.out.2.chg hC5 (by omega); have a0 := hbx.cell 0 rfl; have a1 := hbx.cell 1 rfl; have a2 := hbx.cell 2 rfl; have a3 := hbx.cell 3 rfl; have a4 := hbx.cell 4 rfl; have a5 := hbx.cell 5 rfl; have y0 := hqx.cell 0 rfl; have y1 := hqx.cell 1 rfl; have y2 := hqx.cell 2 rfl; have y3 := hqx.cell 3 rfl; have y4 := hqx.cell 4 rfl; have y5 := hqx.cell 5 rfl; have z0 := hqx.fz 0 (by decide); have z1 := hqx.fz 1 (by decide); have z2 := hqx.fz 2 (by decide); have z3 := hqx.fz 3 (by decide); have z4 := hqx.fz 4 (by decide); have z5 := hqx.fz 5 (by decide); have HH := Lib.hid (And.intro hE5 hC5); clear hbx hqx hE5 hC5)
     all_goals
      go_wp2_with fail
      try go_simp
      have hC6 : Chg (· = g) w w5 := (hCr.trans (Chg.of_ext (Ext.refl _).drew)).trans HH.out.2
      refine bodyPost_ret (v := .tuple #[.agg #[.int .i64 head.kind, .string head.name, .int .i64 head.n, .slice A head.args.length ac, .slice A4 xs.length c4, .slice A5 gs.length c5], .bool false]) (by simp [results, Tryz.results57, go_sem, *]) rfl ?_
      rw [HFF.out]
      first
       | exact cl_fin_err hC6 (Nat.le_of_lt hq1) hgl HH.out.1 (vs := [.int .i64 head.kind, .string head.name, .int .i64 head.n, .slice A head.args.length ac, .slice A4 xs.length c4, .slice A5 gs.length c5]) (cs := [.int .i64 head.kind, .string head.name, .int .i64 head.n, .slice A head.args.length ac, .slice A4 xs.length c4, .slice A5 gs.length c5]) rfl ⟨_, _, _, _, _, _, _, _, _, _, _, _, rfl⟩ rfl
       | exact ClauseOut.ext (cl_fin_err hC6 (Nat.le_of_lt hq1) hgl HH.out.1 (vs := [.int .i64 head.kind, .string head.name, .int .i64 head.n, .slice A head.args.length ac, .slice A4 xs.length c4, .slice A5 gs.length c5]) (cs := [.int .i64 head.kind, .string head.name, .int .i64 head.n, .slice A head.args.length ac, .slice A4 xs.length c4, .slice A5 gs.length c5]) rfl ⟨_, _, _, _, _, _, _, _, _, _, _, _, rfl⟩ rfl) (fun b hb => (HHH.out.2 b hb).1) (Ext.refl _).drew
end Go.Proofs.YtbjghkmjnhmlfaaGreatDoor
