/- Package lex: the cursor: token. -/
import Derived.Test.YtagkimcbllpnkaaDoorLxj
namespace Go.Proofs.YtagkimcbllpnkaaDoor
open Go.RowKit Go.Maps

/-- what a call has told, its parts by themselves -/
def OutR (s : ByteArray) (g b : Nat) (r : Sum Int (Tok × Nat)) (t : Tok) (x : Int) (w' : World) : Prop := match r with
  | .inl y => t = tok0 ∧ x = y
  | .inr (t', k) => t = t' ∧ x = 0 ∧ CurAt w' g s k b
theorem TokOut.parts {s : ByteArray} {g b : Nat} {w : World} {r : Sum Int (Tok × Nat)} {e : Ending} {w' : World} (h : TokOut s g b w r e w') :
    ∃ (t : Tok) (x : Int), e = .returned (.tuple #[t.val, .int .i64 x]) ∧ Hid (OutR s g b r t x w') ∧ Chg (· = g) w w' := by
  obtain ⟨hc, h⟩ := h
  cases r with
  | inl y => exact ⟨tok0, y, h, Lib.hid ⟨rfl, rfl⟩, hc⟩
  | inr p => exact ⟨p.1, 0, h.1, Lib.hid ⟨rfl, rfl, h.2⟩, hc⟩
theorem OutR.out {s : ByteArray} {g b : Nat} {w wz : World} {r : Sum Int (Tok × Nat)} {t : Tok} {x : Int} {v0 v1 v2 v3 : Value} (h : OutR s g b r t x wz) (hc : Chg (· = g) w wz) (hg : g < w.heap.size) :
    TokOut s g b w r (.returned (.tuple #[t.val, .int .i64 x])) (set4 wz w.heap.size 0 v0 v1 v2 v3) := by
  cases r with
  | inl y => obtain ⟨rfl, rfl⟩ := h; exact out_bad rfl hc
  | inr p => obtain ⟨rfl, rfl, h⟩ := h; exact out_ok rfl hc h hg

def tokenR (s : ByteArray) (k : Nat) : Sum Int (Tok × Nat) := match lft s k with
  | [] => .inl 4
  | c :: _ => if smlB c then wordR 1 s k else if grtB c then wordR 2 s k else if digB c || minB s k then numberR s k else markR s k

theorem minus_be (g : Nat) (s : ByteArray) (k b : Nat) (r : Bool) (w : World) (hC : ClsAt w) (h : CurAt w g s k b) (hs : s.size ≤ 4000) (hr : minB s k = r) :
    Calls Tryd.prog 23 #[.pointer (some ⟨g, 0, none⟩)] w fun e w' => e = .returned (.bool r) ∧ ∃ n, w' = w.drewN n := hr ▸ minus_any g s k b w hC h hs

set_option maxRecDepth 100000 in
set_option maxHeartbeats 1000000 in
theorem token_any (g : Nat) (s : ByteArray) (k b : Nat) (w : World) (hC : ClsAt w) (h : CurAt w g s k b) (hM : MkSet w b mksL) (hk : k < s.size) (hs : s.size ≤ 4000) :
    Calls Tryd.prog 15 #[.pointer (some ⟨g, 0, none⟩)] w (TokOut s g b w (tokenR s k)) := by
  have hgl := World.block_lt_of_cell? w _ h.c0
  simp only at hgl
  have hne : w.heap.size ≠ g := by omega
  have c0 := h.c0
  have c1 := h.c1
  have k0 : (0 : Int) ≤ (k : Int) := Int.natCast_nonneg _
  have k1 : (k : Int) < (s.size : Int) := by omega
  have HR : Hid (tokenR s k = if smlB s[k] then wordR 1 s k else if grtB s[k] then wordR 2 s k else if digB s[k] || minB s k then numberR s k else markR s k) := Lib.hid (by unfold tokenR; rw [lft_cons s k hk])
  go_enter Tryd.func15, Tryd.ntmps15
  go_wp2_with fail
  go_quiet (fail)
  generalize hw1 : (w.alloc (.cells #[.int .i64 0, .string ⟨#[]⟩, .int .i64 0, .int .i64 0] 37)).drewN nq = w1
  have hx1 : Ext w w1 := by rw [← hw1]; exact ((Ext.refl w).alloc _).drewN _
  have HB : Hid (Box4 w1 w.heap.size (.int .i64 0) (.string ⟨#[]⟩) (.int .i64 0) (.int .i64 0)) := Lib.hid (by rw [← hw1]; exact (Box4.new w (.int .i64 0) (.string ⟨#[]⟩) (.int .i64 0) (.int .i64 0) 37).ext ((Ext.refl _).drewN nq))
  have HC := Lib.hid (h.ext hx1)
  have HM := Lib.hid (hM.ext hx1)
  have HK := Lib.hid (hC.ext hx1)
  have hx1' : Chg (· = g) w w1 := Chg.of_ext hx1
  clear hw1 c0 c1
  have FIN : Hid (∀ (t : Tok) (x : Int) (w2 : World) (v0 v1 v2 v3 : Value), OutR s g b (tokenR s k) t x w2 → Chg (· = g) w1 w2 → TokOut s g b w (tokenR s k) (.returned (.tuple #[t.val, .int .i64 x])) (set4 w2 w.heap.size 0 v0 v1 v2 v3)) :=
    Lib.hid (fun t x w2 _ _ _ _ h hc => h.out (hx1'.trans hc) hgl)
  cases h1 : smlB s[k] with
  | true =>
    have HE : Hid (tokenR s k = wordR 1 s k) := Lib.hid (by rw [HR.out, h1]; rfl)
    have K1 := Lib.hid (is_be 1 s[k] true w1 (by omega) HK.out h1)
    clear h1 HR
    go_wp2_with fail
    refine K1.out.mono ?_
    rintro e w2 ⟨rfl, rfl⟩
    go_wp2_with fail
    refine (word_any 1 g s k b _ HK.out HC.out (by omega) hs).mono ?_
    rintro e w3 ho
    obtain ⟨t, x, rfl, HO, hc3⟩ := ho.parts
    obtain ⟨b0, b1, b2, b3, f0, f1, f2, f3⟩ := HB.out.chg hc3 hne
    clear ho
    go_wp2_with fail
    refine bodyPost_ret (v := .tuple #[t.val, .int .i64 x]) (by simp [results, Tryd.results15, go_sem, *]) rfl ?_
    exact FIN.out _ _ _ _ _ _ _ (by rw [HE.out]; exact HO.out) hc3
  | false =>
    have K1 := Lib.hid (is_be 1 s[k] false w1 (by omega) HK.out h1)
    have HS := Lib.hid h1
    clear h1
    go_wp2_with fail
    refine K1.out.mono ?_
    rintro e w2 ⟨rfl, rfl⟩
    go_wp2_with fail
    cases h2 : grtB s[k] with
    | true =>
      have HE : Hid (tokenR s k = wordR 2 s k) := Lib.hid (by rw [HR.out, HS.out, h2]; rfl)
      have K2 := Lib.hid (is_be 2 s[k] true w2 (by omega) HK.out h2)
      clear h2 HR
      refine K2.out.mono ?_
      rintro e w2 ⟨rfl, rfl⟩
      go_wp2_with fail
      refine (word_any 2 g s k b _ HK.out HC.out (by omega) hs).mono ?_
      rintro e w3 ho
      obtain ⟨t, x, rfl, HO, hc3⟩ := ho.parts
      obtain ⟨b0, b1, b2, b3, f0, f1, f2, f3⟩ := HB.out.chg hc3 hne
      clear ho
      go_wp2_with fail
      refine bodyPost_ret (v := .tuple #[t.val, .int .i64 x]) (by simp [results, Tryd.results15, go_sem, *]) rfl ?_
      exact FIN.out _ _ _ _ _ _ _ (by rw [HE.out]; exact HO.out) hc3
    | false =>
      have K2 := Lib.hid (is_be 2 s[k] false w2 (by omega) HK.out h2)
      have HS2 := Lib.hid h2
      clear h2
      refine K2.out.mono ?_
      rintro e w2 ⟨rfl, rfl⟩
      go_wp2_with fail
      cases h3 : digB s[k] with
      | true =>
        have HE : Hid (tokenR s k = numberR s k) := Lib.hid (by rw [HR.out, HS.out, HS2.out, h3]; rfl)
        have K3 := Lib.hid (is_be 3 s[k] true w2 (by omega) HK.out h3)
        clear h3 HR
        refine K3.out.mono ?_
        rintro e w2 ⟨rfl, rfl⟩
        go_wp2_with fail
        refine (number_any g s k b _ HK.out HC.out (by omega) hs).mono ?_
        rintro e w3 ho
        obtain ⟨t, x, rfl, HO, hc3⟩ := ho.parts
        obtain ⟨b0, b1, b2, b3, f0, f1, f2, f3⟩ := HB.out.chg hc3 hne
        clear ho
        go_wp2_with fail
        refine bodyPost_ret (v := .tuple #[t.val, .int .i64 x]) (by simp [results, Tryd.results15, go_sem, *]) rfl ?_
        exact FIN.out _ _ _ _ _ _ _ (by rw [HE.out]; exact HO.out) hc3
      | false =>
        have K3 := Lib.hid (is_be 3 s[k] false w2 (by omega) HK.out h3)
        have HS3 := Lib.hid h3
        clear h3
        refine K3.out.mono ?_
        rintro e w2 ⟨rfl, rfl⟩
        go_wp2_with fail
        cases h4 : minB s k with
        | true =>
          have HE : Hid (tokenR s k = numberR s k) := Lib.hid (by rw [HR.out, HS.out, HS2.out, HS3.out, h4]; rfl)
          have K4 := Lib.hid (minus_be g s k b true w2 HK.out HC.out hs h4)
          clear h4 HR
          refine K4.out.mono ?_
          rintro e w4 ⟨rfl, n4, rfl⟩
          have hx4 : Ext w2 (w2.drewN n4) := (Ext.refl w2).drewN n4
          go_wp2_with fail
          refine (number_any g s k b _ (HK.out.ext hx4) (HC.out.ext hx4) (by omega) hs).mono ?_
          rintro e w3 ho
          obtain ⟨t, x, rfl, HO, hc3⟩ := ho.parts
          obtain ⟨b0, b1, b2, b3, f0, f1, f2, f3⟩ := (HB.out.ext hx4).chg hc3 hne
          clear ho
          go_wp2_with fail
          refine bodyPost_ret (v := .tuple #[t.val, .int .i64 x]) (by simp [results, Tryd.results15, go_sem, *]) rfl ?_
          exact FIN.out _ _ _ _ _ _ _ (by rw [HE.out]; exact HO.out) ((Chg.of_ext hx4).trans hc3)
        | false =>
          have HE : Hid (tokenR s k = markR s k) := Lib.hid (by rw [HR.out, HS.out, HS2.out, HS3.out, h4]; rfl)
          have K4 := Lib.hid (minus_be g s k b false w2 HK.out HC.out hs h4)
          clear h4 HR
          refine K4.out.mono ?_
          rintro e w4 ⟨rfl, n4, rfl⟩
          have hx4 : Ext w2 (w2.drewN n4) := (Ext.refl w2).drewN n4
          go_wp2_with fail
          refine (mark_any g s k b _ (HC.out.ext hx4) (HM.out.ext hx4) (by omega) hs).mono ?_
          rintro e w3 ho
          obtain ⟨t, x, rfl, HO, hc3⟩ := ho.parts
          obtain ⟨b0, b1, b2, b3, f0, f1, f2, f3⟩ := (HB.out.ext hx4).chg hc3 hne
          clear ho
          go_wp2_with fail
          refine bodyPost_ret (v := .tuple #[t.val, .int .i64 x]) (by simp [results, Tryd.results15, go_sem, *]) rfl ?_
          exact FIN.out _ _ _ _ _ _ _ (by rw [HE.out]; exact HO.out) ((Chg.of_ext hx4).trans hc3)
end Go.Proofs.YtagkimcbllpnkaaDoor
