/- Joined: Paz, Pba, Pbb, Pbc. -/
import Derived.Test.YtbjghkmjnhmlfaaGreatDoorYJ
import Derived.Shelf.Abstract

/- Package read: patterns: bracket, both, pattern. -/
namespace Go.Proofs.YtbjghkmjnhmlfaaGreatDoor
open Go.RowKit

set_option maxRecDepth 100000 in
set_option maxHeartbeats 4000000 in
theorem bracket_rd (T : List Tok) (hT : EndLast T) (k b : Nat) (hkb : k + b = 100) (hP : ∀ m, k = m + 1 → PartTo 82 T (b + 1) (patP T m)) : PartTo 127 T b (brP T k) := by
  intro w g K i h hi hbo
  have HBO := Lib.hid hbo
  clear hbo
  have hgl := h.lt
  have hlo := h.low hT.1
  obtain ⟨w0, hw0⟩ : ∃ w0, w0 = w.alloc (.cells #[.int .i64 0, .int .i64 0, .string ⟨#[]⟩, .int .i64 0, .slice none 0 0, .int .i64 0, .slice none 0 0, .slice none 0 0, .slice none 0 0] 63) := ⟨_, rfl⟩
  have hr0 : Box9 w0 w.heap.size zero9 := by rw [hw0]; exact Box9.new w _ _ rfl
  have hx0 : Ext w w0 := by rw [hw0]; exact (Ext.refl _).alloc _
  have HW0 := Lib.hid hw0
  clear hw0
  have hR0 := h.ext hx0
  have hw0l : w.heap.size < w0.heap.size := hr0.lt
  clear h
  go_enter Tryz.func127, Tryz.ntmps127
  go_upto_region 1 with (fail)
  rw [← HW0.out]
  obtain ⟨F, hF⟩ : ∃ F, F = brP T k i := ⟨_, rfl⟩
  have HF := Lib.hid hF.symm
  clear hF
  by_cases hgo : rl T i = 4 ∧ b < 100
  · obtain ⟨h4, h100⟩ := hgo
    obtain ⟨m, rfl⟩ : ∃ m, k = m + 1 := ⟨k - 1, by omega⟩
    have hi1 := hT.next 4 h4 (by omega)
    have KE := Lib.hid (enter_yes hR0 hi h4 h100)
    have hFm : (match patP T m (i + 1) with | .error e => .error e | .ok (q, j) => if rl T j = 5 then .ok (q, j + 1) else .error (bad T j)) = F := by rw [← HF.out, brP, brF, if_pos h4]; cases patP T m (i + 1) <;> rfl
    have HFM := Lib.hid hFm
    clear hR0 hFm
    go_wp2_with fail
    refine KE.out.mono ?_
    rintro e w1 ⟨rfl, hR1, hC1⟩
    have KP := Lib.hid (hP m rfl w1 g K (i + 1) hR1 hi1 (HBO.out.chg ((Chg.of_ext hx0).trans hC1)))
    have hr1 := hr0.chg hC1 (by omega)
    have hCw : Chg (· = g) w w1 := (Chg.of_ext hx0).trans hC1
    have hw1 : w.heap.size < w1.heap.size := hr1.lt
    clear KE hR1 hC1 hr0 hx0
    go_wp2_with fail
    refine KP.out.mono ?_
    rintro e w2 ⟨hC2, ho⟩
    have hC := hCw.trans hC2
    have hr2 := hr1.chg hC2 (by omega)
    have hw2 : w.heap.size < w2.heap.size := hr2.lt
    have hw12 := hC2.size
    match hq : patP T m (i + 1) with
    | .error (a, x) =>
      rw [hq] at ho
      have HFF : Hid (F = .error (a, x)) := Lib.hid (by rw [← HFM.out, hq])
      obtain ⟨⟨vs, hvs, rfl⟩, hE⟩ := ho
      obtain ⟨k0, k1, s2, k3, A4, l4, d4, k5, A6, l6, d6, A7, l7, d7, A8, l8, d8, rfl⟩ := hvs
      obtain ⟨w3, hw3⟩ : ∃ w3, w3 = w2.alloc (.cells #[.int .i64 k0, .int .i64 k1, .string s2, .int .i64 k3, .slice A4 l4 d4, .int .i64 k5, .slice A6 l6 d6, .slice A7 l7 d7, .slice A8 l8 d8] 63) := ⟨_, rfl⟩
      have hb3 : Box9 w3 w2.heap.size [.int .i64 k0, .int .i64 k1, .string s2, .int .i64 k3, .slice A4 l4 d4, .int .i64 k5, .slice A6 l6 d6, .slice A7 l7 d7, .slice A8 l8 d8] := by rw [hw3]; exact Box9.new w2 _ _ rfl
      have hx3 : Ext w2 w3 := by rw [hw3]; exact (Ext.refl _).alloc _
      have HW3 := Lib.hid hw3
      have hr3 := hr2.ext hx3
      have HE := Lib.hid (hE.ext hx3)
      have hC3 := hC.trans (Chg.of_ext hx3)
      clear KP hE hC2 hr1 hq hr2 hw3 hx3 hC
      go_upto_region 4 with (fail)
      rw [← HW3.out]
      obtain ⟨x0, x1, x2, x3, x4, x5, x6, x7, x8⟩ := hb3.get
      obtain ⟨y0, y1, y2, y3, y4, y5, y6, y7, y8⟩ := hr3.get
      obtain ⟨z0, z1, z2, z3, z4, z5, z6, z7, z8⟩ := hr3.fzs
      clear hb3 hr3
      first | go_region_with (fail) | fail
      all_goals
        go_wp2_with fail
        go_simp
        refine bodyPost_ret (v := .tuple #[.agg #[.int .i64 k0, .int .i64 k1, .string s2, .int .i64 k3, .slice A4 l4 d4, .int .i64 k5, .slice A6 l6 d6, .slice A7 l7 d7, .slice A8 l8 d8], .bool false]) (by simp [results, Tryz.results127, go_sem, *]) rfl ?_
        rw [HF.out, HFF.out]
        exact PtOut.ext (pt_fin_err hC3 HE.out hgl (cs := [.int .i64 k0, .int .i64 k1, .string s2, .int .i64 k3, .slice A4 l4 d4, .int .i64 k5, .slice A6 l6 d6, .slice A7 l7 d7, .slice A8 l8 d8]) (vs := [.int .i64 k0, .int .i64 k1, .string s2, .int .i64 k3, .slice A4 l4 d4, .int .i64 k5, .slice A6 l6 d6, .slice A7 l7 d7, .slice A8 l8 d8]) rfl ⟨_, _, _, _, _, _, _, _, _, _, _, _, _, _, _, _, _, rfl⟩ rfl) (Ext.refl _).drew
    | .ok (q, j) =>
      rw [hq] at ho
      obtain ⟨qa, rfl, hIn, hR2⟩ := ho
      have hjT := (patP_takes hT m _ _ _ hq).2
      obtain ⟨w3, hw3⟩ : ∃ w3, w3 = w2.alloc (.cells #[.int .i64 q.kind, .int .i64 q.tm.kind, .string q.tm.name, .int .i64 q.tm.n, .slice qa.A q.tm.args.length qa.ac, .int .i64 q.rel, .slice qa.L q.l.length qa.lc, .slice qa.R q.r.length qa.rc, .slice qa.C q.c.length qa.cc] 63) := ⟨_, rfl⟩
      have hb3 : Box9 w3 w2.heap.size (q.cells qa) := by rw [hw3]; exact Box9.new w2 _ _ rfl
      have hx3 : Ext w2 w3 := by rw [hw3]; exact (Ext.refl _).alloc _
      have HW3 := Lib.hid hw3
      have hr3 := hr2.ext hx3
      have hR3 := hR2.ext hx3
      have hIn3 : PtIn w3 (New w1 w3) q qa := hIn.step (fun b _ hb => hx3.block b hb) hx3.size
      have hC3 := hC.trans (Chg.of_ext hx3)
      have HQ := Lib.hid hq
      have hne : ¬ w2.heap.size = g := by omega
      have hne0 : ¬ w.heap.size = g := by omega
      clear KP hC2 hr1 hq hr2 hw3 hx3 hC hIn hR2
      go_upto_region 4 with (fail)
      rw [← HW3.out]
      have HB := Lib.hid (fun (u : World) (hu : Chg (· = g) w3 u) => And.intro (hb3.chg hu hne) (hr3.chg hu hne0))
      have hxd : Ext w3 w3.drew := (Ext.refl _).drew
      obtain ⟨x0, x1, x2, x3, x4, x5, x6, x7, x8⟩ := hb3.get
      obtain ⟨y0, y1, y2, y3, y4, y5, y6, y7, y8⟩ := hr3.get
      obtain ⟨z0, z1, z2, z3, z4, z5, z6, z7, z8⟩ := hr3.fzs
      clear hb3 hr3
      by_cases h5 : rl T j = 5
      · have HFF : Hid (F = .ok (q, j + 1)) := Lib.hid (by rw [← HFM.out, HQ.out]; simp only; rw [if_pos h5])
        have KL := Lib.hid (leave_yes (hR3.ext hxd) hjT h5 (by omega))
        clear hR3
        first
          | go_region_with ((go_at_call 110; refine KL.out.mono ?_; rintro e5 w5 ⟨rfl, hR5, hC5⟩; have hC35 := (Chg.of_ext (F := fun x => x = g) hxd).trans hC5; obtain ⟨x0, x1, x2, x3, x4, x5, x6, x7, x8⟩ := (HB.out _ hC35).1.get; obtain ⟨y0, y1, y2, y3, y4, y5, y6, y7, y8⟩ := (HB.out _ hC35).2.get; obtain ⟨z0, z1, z2, z3, z4, z5, z6, z7, z8⟩ := (HB.out _ hC35).2.fzs))
          | fail
        all_goals
          go_wp2_with fail
          go_simp
          have hIn5 := hIn3.chg hC35 (by omega)
          have hCf := hC3.trans hC35
          have HH := Lib.hid (And.intro hIn5 hR5)
          clear hIn5 hR5
          refine bodyPost_ret (v := .tuple #[q.val qa, .bool true]) (by simp [results, Tryz.results127, go_sem, *]) rfl ?_
          rw [HF.out, HFF.out]
          exact pt_fin_ok hCf hw1 HH.out.2 hgl hlo HH.out.1 (vs := q.cells qa) rfl rfl
      · have HFF : Hid (F = .error (bad T j)) := Lib.hid (by rw [← HFM.out, HQ.out]; simp only; rw [if_neg h5])
        have KL := Lib.hid (leave_no (hR3.ext hxd) hjT h5 (by omega))
        clear hR3
        first
          | go_region_with ((go_at_call 110; refine KL.out.mono ?_; rintro e5 w5 ⟨rfl, hE5, hC5⟩; have hC35 := (Chg.of_ext (F := fun x => x = g) hxd).trans hC5; obtain ⟨x0, x1, x2, x3, x4, x5, x6, x7, x8⟩ := (HB.out _ hC35).1.get; obtain ⟨y0, y1, y2, y3, y4, y5, y6, y7, y8⟩ := (HB.out _ hC35).2.get; obtain ⟨z0, z1, z2, z3, z4, z5, z6, z7, z8⟩ := (HB.out _ hC35).2.fzs))
          | fail
        all_goals
          go_wp2_with fail
          go_simp
          have hCf := hC3.trans hC35
          have HH := Lib.hid hE5
          clear hE5
          refine bodyPost_ret (v := .tuple #[.agg (q.cells qa).toArray, .bool false]) (by simp [results, Tryz.results127, go_sem, *]) rfl ?_
          rw [HF.out, HFF.out]
          exact pt_fin_err hCf HH.out hgl (cs := q.cells qa) (vs := q.cells qa) rfl ⟨_, _, _, _, _, _, _, _, _, _, _, _, _, _, _, _, _, rfl⟩ rfl
  · obtain ⟨ea, ex, hFF, hKE⟩ : ∃ a x, F = .error (a, x) ∧ Calls Tryz.prog 109 #[.pointer (some ⟨g, 0, none⟩)] w0 (fun e w' => e = .returned (.bool false) ∧ RdErr w' g a x ∧ Chg (· = g) w0 w') := by
      by_cases h4 : rl T i = 4
      · obtain rfl : b = 100 := by omega
        obtain rfl : k = 0 := by omega
        exact ⟨_, _, by rw [← HF.out, brP]; simp only; rw [if_pos h4], enter_lim hR0 hi h4⟩
      · refine ⟨_, _, ?_, enter_no hR0 hi h4 (by omega)⟩
        rw [← HF.out]
        cases k with
        | zero => rw [brP]; simp only; rw [if_neg h4]
        | succ m => rw [brP, brF, if_neg h4]
    have KE := Lib.hid hKE
    have HFF := Lib.hid hFF
    clear hKE hFF hgo hR0
    go_wp2_with fail
    refine KE.out.mono ?_
    rintro e w1 ⟨rfl, hE1, hC1⟩
    have hr1 := hr0.chg hC1 (by omega)
    have hC := (Chg.of_ext hx0).trans hC1
    obtain ⟨y0, y1, y2, y3, y4, y5, y6, y7, y8⟩ := hr1.get
    obtain ⟨z0, z1, z2, z3, z4, z5, z6, z7, z8⟩ := hr1.fzs
    have HE := Lib.hid hE1
    clear KE hE1 hC1 hr1 hr0 hx0
    go_wp2_with fail
    refine bodyPost_ret (v := .tuple #[.agg #[.int .i64 0, .int .i64 0, .string ⟨#[]⟩, .int .i64 0, .slice none 0 0, .int .i64 0, .slice none 0 0, .slice none 0 0, .slice none 0 0], .bool false]) (by simp [results, Tryz.results127, go_sem, *]) rfl ?_
    rw [HF.out, HFF.out]
    exact pt_fin_err hC HE.out hgl (cs := zero9) (vs := zero9) rfl ⟨_, _, _, _, _, _, _, _, _, _, _, _, _, _, _, _, _, rfl⟩ rfl
end Go.Proofs.YtbjghkmjnhmlfaaGreatDoor

/- Package read: patterns: both, pattern. -/
namespace Go.Proofs.YtbjghkmjnhmlfaaGreatDoor
open Go.RowKit

theorem entBoth : ∀ args w, (callFunc 98 args).run Tryz.prog w = .ok (.enter 98 args) w := enters_of Tryz.func98 (by kernel_rfl) rfl
theorem entPair : ∀ args w, (callFunc 113 args).run Tryz.prog w = .ok (.enter 113 args) w := enters_of Tryz.func113 (by kernel_rfl) rfl
theorem entOne : ∀ args w, (callFunc 125 args).run Tryz.prog w = .ok (.enter 125 args) w := enters_of Tryz.func125 (by kernel_rfl) rfl
theorem entRow : ∀ args w, (callFunc 121 args).run Tryz.prog w = .ok (.enter 121 args) w := enters_of Tryz.func121 (by kernel_rfl) rfl
theorem entBracket : ∀ args w, (callFunc 127 args).run Tryz.prog w = .ok (.enter 127 args) w := enters_of Tryz.func127 (by kernel_rfl) rfl
set_option maxRecDepth 100000 in
set_option maxHeartbeats 4000000 in
theorem both_rd (T : List Tok) (hT : EndLast T) (b : Nat) (part : Nat → Rs Pt) (hP : PartTo 113 T b part) (hpt : Takes T part) : PartTo 98 T b (chain T 9 3 part) := by
  intro w g K i h hi hbo
  have hgl := h.lt
  have hlo := h.low hT.1
  obtain ⟨w0, hw0⟩ : ∃ w0, w0 = w.alloc (.cells #[.int .i64 0, .int .i64 0, .string ⟨#[]⟩, .int .i64 0, .slice none 0 0, .int .i64 0, .slice none 0 0, .slice none 0 0, .slice none 0 0] 63) := ⟨_, rfl⟩
  have hr0 : Box9 w0 w.heap.size zero9 := by rw [hw0]; exact Box9.new w _ _ rfl
  have hx0 : Ext w w0 := by rw [hw0]; exact (Ext.refl _).alloc _
  have HW0 := Lib.hid hw0
  clear hw0
  have hw0l : w.heap.size < w0.heap.size := hr0.lt
  have KC := Lib.hid (chain_rd 113 entPair T hT b 9 3 (by decide) (by decide) (by decide) part hP hpt w0 g K i (h.ext hx0) hi (hbo.ext hx0))
  clear h hbo
  go_enter Tryz.func98, Tryz.ntmps98
  go_upto_region 1 with (fail)
  rw [← HW0.out]
  obtain ⟨F, hF⟩ : ∃ F, F = chain T 9 3 part i := ⟨_, rfl⟩
  have HF := Lib.hid hF.symm
  clear hF
  go_wp2_with fail
  refine KC.out.mono ?_
  rintro e w2 ⟨hC2, ho⟩
  rw [HF.out] at ho
  have hC := (Chg.of_ext hx0).trans hC2
  have hr2 := hr0.chg hC2 (by omega)
  obtain ⟨y0, y1, y2, y3, y4, y5, y6, y7, y8⟩ := hr2.get
  obtain ⟨z0, z1, z2, z3, z4, z5, z6, z7, z8⟩ := hr2.fzs
  match F, HF, ho with
  | .error (a, x), HF, ho =>
    obtain ⟨⟨vs, hvs, rfl⟩, hE⟩ := ho
    obtain ⟨k0, k1, s2, k3, A4, l4, d4, k5, A6, l6, d6, A7, l7, d7, A8, l8, d8, rfl⟩ := hvs
    have HE := Lib.hid hE
    clear KC hE hC2 hr2 hr0 hx0
    go_wp2_with fail
    refine bodyPost_ret (v := .tuple #[.agg #[.int .i64 k0, .int .i64 k1, .string s2, .int .i64 k3, .slice A4 l4 d4, .int .i64 k5, .slice A6 l6 d6, .slice A7 l7 d7, .slice A8 l8 d8], .bool false]) (by simp [results, Tryz.results98, go_sem, *]) rfl ?_
    rw [HF.out]
    exact pt_fin_err hC HE.out hgl (vs := [.int .i64 k0, .int .i64 k1, .string s2, .int .i64 k3, .slice A4 l4 d4, .int .i64 k5, .slice A6 l6 d6, .slice A7 l7 d7, .slice A8 l8 d8]) rfl ⟨_, _, _, _, _, _, _, _, _, _, _, _, _, _, _, _, _, rfl⟩ rfl
  | .ok (q, j), HF, ho =>
    obtain ⟨qa, rfl, hIn, hR2⟩ := ho
    have HH := Lib.hid (And.intro hIn hR2)
    clear KC hIn hR2 hC2 hr2 hr0 hx0
    go_wp2_with fail
    refine bodyPost_ret (v := .tuple #[q.val qa, .bool true]) (by simp [results, Tryz.results98, go_sem, *]) rfl ?_
    rw [HF.out]
    exact pt_fin_ok hC hw0l HH.out.2 hgl hlo HH.out.1 (vs := q.cells qa) rfl rfl
set_option maxRecDepth 100000 in
set_option maxHeartbeats 4000000 in
theorem pattern_rd (T : List Tok) (hT : EndLast T) (b : Nat) (part : Nat → Rs Pt) (hP : PartTo 98 T b part) (hpt : Takes T part) : PartTo 82 T b (chain T 10 4 part) := by
  intro w g K i h hi hbo
  have hgl := h.lt
  have hlo := h.low hT.1
  obtain ⟨w0, hw0⟩ : ∃ w0, w0 = w.alloc (.cells #[.int .i64 0, .int .i64 0, .string ⟨#[]⟩, .int .i64 0, .slice none 0 0, .int .i64 0, .slice none 0 0, .slice none 0 0, .slice none 0 0] 63) := ⟨_, rfl⟩
  have hr0 : Box9 w0 w.heap.size zero9 := by rw [hw0]; exact Box9.new w _ _ rfl
  have hx0 : Ext w w0 := by rw [hw0]; exact (Ext.refl _).alloc _
  have HW0 := Lib.hid hw0
  clear hw0
  have hw0l : w.heap.size < w0.heap.size := hr0.lt
  have KC := Lib.hid (chain_rd 98 entBoth T hT b 10 4 (by decide) (by decide) (by decide) part hP hpt w0 g K i (h.ext hx0) hi (hbo.ext hx0))
  clear h hbo
  go_enter Tryz.func82, Tryz.ntmps82
  go_upto_region 1 with (fail)
  rw [← HW0.out]
  obtain ⟨F, hF⟩ : ∃ F, F = chain T 10 4 part i := ⟨_, rfl⟩
  have HF := Lib.hid hF.symm
  clear hF
  go_wp2_with fail
  refine KC.out.mono ?_
  rintro e w2 ⟨hC2, ho⟩
  rw [HF.out] at ho
  have hC := (Chg.of_ext hx0).trans hC2
  have hr2 := hr0.chg hC2 (by omega)
  obtain ⟨y0, y1, y2, y3, y4, y5, y6, y7, y8⟩ := hr2.get
  obtain ⟨z0, z1, z2, z3, z4, z5, z6, z7, z8⟩ := hr2.fzs
  match F, HF, ho with
  | .error (a, x), HF, ho =>
    obtain ⟨⟨vs, hvs, rfl⟩, hE⟩ := ho
    obtain ⟨k0, k1, s2, k3, A4, l4, d4, k5, A6, l6, d6, A7, l7, d7, A8, l8, d8, rfl⟩ := hvs
    have HE := Lib.hid hE
    clear KC hE hC2 hr2 hr0 hx0
    go_wp2_with fail
    refine bodyPost_ret (v := .tuple #[.agg #[.int .i64 k0, .int .i64 k1, .string s2, .int .i64 k3, .slice A4 l4 d4, .int .i64 k5, .slice A6 l6 d6, .slice A7 l7 d7, .slice A8 l8 d8], .bool false]) (by simp [results, Tryz.results82, go_sem, *]) rfl ?_
    rw [HF.out]
    exact pt_fin_err hC HE.out hgl (vs := [.int .i64 k0, .int .i64 k1, .string s2, .int .i64 k3, .slice A4 l4 d4, .int .i64 k5, .slice A6 l6 d6, .slice A7 l7 d7, .slice A8 l8 d8]) rfl ⟨_, _, _, _, _, _, _, _, _, _, _, _, _, _, _, _, _, rfl⟩ rfl
  | .ok (q, j), HF, ho =>
    obtain ⟨qa, rfl, hIn, hR2⟩ := ho
    have HH := Lib.hid (And.intro hIn hR2)
    clear KC hIn hR2 hC2 hr2 hr0 hx0
    go_wp2_with fail
    refine bodyPost_ret (v := .tuple #[q.val qa, .bool true]) (by simp [results, Tryz.results82, go_sem, *]) rfl ?_
    rw [HF.out]
    exact pt_fin_ok hC hw0l HH.out.2 hgl hlo HH.out.1 (vs := q.cells qa) rfl rfl
end Go.Proofs.YtbjghkmjnhmlfaaGreatDoor

/- Package read: patterns: gap. -/
namespace Go.Proofs.YtbjghkmjnhmlfaaGreatDoor
open Go.RowKit

/-- what must not be between, if something is told to be -/
def gapC (T : List Tok) (br : Nat → Rs Pt) (i : Nat) : Rs (Option Pt) :=
  if rl T i = 12 then
    match br (i + 1) with
    | .error e => .error e
    | .ok (c, j) => if rl T j = 8 then .ok (some c, j + 1) else .error (bad T j)
  else .ok (none, i)
theorem gapP_C (T : List Tok) (k : Nat) (br : Nat → Rs Pt) (p : Pt) (i : Nat) : gapP T k br p i = match gapC T br i with
    | .error e => .error e
    | .ok (none, j) => (match oneP T k br j with | .error e => .error e | .ok (q, m) => .ok (⟨2, noTm, 0, [p], [q], []⟩, m))
    | .ok (some c, j) => (match oneP T k br j with | .error e => .error e | .ok (q, m) => .ok (⟨5, noTm, 0, [p], [q], [c]⟩, m)) := by
  unfold gapP gapC
  by_cases h : rl T i = 12
  · rw [if_pos h, if_pos h]
    cases br (i + 1) with
    | error e => rfl
    | ok x =>
      obtain ⟨c, j⟩ := x
      simp only
      by_cases h8 : rl T j = 8
      · rw [if_pos h8, if_pos h8]; simp only; cases oneP T k br (j + 1) <;> rfl
      · rw [if_neg h8, if_neg h8]
  · rw [if_neg h, if_neg h]; simp only; cases oneP T k br i <;> rfl
theorem gapC_none {T : List Tok} {br : Nat → Rs Pt} {i j : Nat} (hi : i < T.length) (h : gapC T br i = .ok (none, j)) : i ≤ j ∧ j < T.length := by
  unfold gapC at h
  by_cases h12 : rl T i = 12
  · rw [if_pos h12] at h
    cases hb : br (i + 1) with
    | error e => rw [hb] at h; cases h
    | ok x =>
      obtain ⟨c, m⟩ := x
      rw [hb] at h
      simp only at h
      by_cases h8 : rl T m = 8
      · rw [if_pos h8] at h; cases h
      · rw [if_neg h8] at h; cases h
  · rw [if_neg h12] at h
    cases h
    omega
theorem gapC_takes {T : List Tok} (hT : EndLast T) {br : Nat → Rs Pt} (hbt : Takes T br) {i j : Nat} {c : Pt} (h : gapC T br i = .ok (some c, j)) : i ≤ j ∧ j < T.length := by
  unfold gapC at h
  by_cases h12 : rl T i = 12
  · rw [if_pos h12] at h
    cases hb : br (i + 1) with
    | error e => rw [hb] at h; cases h
    | ok x =>
      obtain ⟨c', m⟩ := x
      rw [hb] at h
      simp only at h
      have h1 := hbt _ _ _ hb
      by_cases h8 : rl T m = 8
      · rw [if_pos h8] at h
        cases h
        have := hT.next 8 h8 (by omega)
        omega
      · rw [if_neg h8] at h; cases h
  · rw [if_neg h12] at h
    cases h
def GapOut (w : World) (g p : Nat) (K : RdP) (T : List Tok) (b : Nat) (cs : List Value) (F : Rs (Option Pt)) (e : Ending) (w' : World) : Prop := Chg (fun x => x = g ∨ x = p) w w' ∧
  match F with
  | .ok (none, j) => e = .returned (.bool true) ∧ RdAt w' g K T j b ∧ Box9 w' p cs
  | .ok (some c, j) => e = .returned (.bool true) ∧ RdAt w' g K T j b ∧ ∃ m a, New w w' m ∧ PtIn w' (New w w') c a ∧ (∀ k (hk : k < 9), w'.cell? ⟨m, k, none⟩ = some ((c.cells a)[k]'hk)) ∧ Box9 w' p ((cs.set 0 (.int .i64 5)).set 8 (.slice (some ⟨m, 0, none⟩) 1 1))
  | .error (a, x) => e = .returned (.bool false) ∧ RdErr w' g a x ∧ ∃ m, Box9 w' p ((cs.set 0 (.int .i64 5)).set 8 (.slice (some ⟨m, 0, none⟩) 1 1))

set_option maxRecDepth 100000 in
set_option maxHeartbeats 4000000 in
theorem gap_rd (T : List Tok) (hT : EndLast T) (b : Nat) (br : Nat → Rs Pt) (hB : PartTo 127 T b br) (hbt : Takes T br) (w : World) (g p : Nat) (K : RdP) (i : Nat) (cs : List Value)
    (h : RdAt w g K T i b) (hi : i < T.length) (hpg : p ≠ g) (hpA : p ≠ K.A) (hpR : p ≠ K.R) (hb : Box9 w p cs) (hbo : BitOk w g) (hpB : p ≠ 2) :
    Calls Tryz.prog 126 #[.pointer (some ⟨g, 0, none⟩), .pointer (some ⟨p, 0, none⟩)] w (GapOut w g p K T b cs (gapC T br i)) := by
  have hgl := h.lt
  have hpl := hb.lt
  have HBO := Lib.hid hbo
  clear hbo
  obtain ⟨F, hF⟩ : ∃ F, F = gapC T br i := ⟨_, rfl⟩
  rw [← hF]
  have HF := Lib.hid hF.symm
  clear hF
  by_cases h12 : rl T i = 12
  · have hi1 := hT.next 12 h12 (by omega)
    have KT := Lib.hid (take_yes 4096 (by omega) h hi (by rw [h12]; decide))
    clear h
    go_enter Tryz.func126, Tryz.ntmps126
    go_wp2_with fail
    refine KT.out.mono ?_
    rintro e w1 ⟨rfl, hR1, hC1⟩
    have hb1 := hb.chg hC1 hpg
    have x0 : ∃ v, w1.cell? ⟨p, 0, none⟩ = some v := ⟨_, hb1.cell 0 (List.getElem?_eq_getElem (by rw [hb1.len]; omega))⟩
    obtain ⟨v0, x0⟩ := x0
    have z0 := hb1.fz 0 (by omega)
    have hb2 := hb1.set1 0 (.int .i64 5) (by omega)
    have kp : Chg (· = p) w1 (w1.setCell ⟨p, 0, none⟩ (.int .i64 5)) := (Chg.refl _ w1).setg 0 _
    have hR2 := hR1.chg kp (fun x _ e => by subst e; omega)
    have hs1 := hC1.size
    have KQ := Lib.hid (put_rd 127 entBracket T b br hB (w1.setCell ⟨p, 0, none⟩ (.int .i64 5)) g p 8 K (i + 1) _ (by omega) hR2 hi1 hT.1 hpg hpA hpR hb2 ((HBO.out.chg hC1).chgp kp hpB))
    have hCw : Chg (fun x => x = g ∨ x = p) w (w1.setCell ⟨p, 0, none⟩ (.int .i64 5)) := (hC1.weak fun _ e => .inl e).trans (kp.weak fun _ e => .inr e)
    have hs2 := hCw.size
    clear hb1 hb2 kp hR2 hR1 hC1 KT hb
    go_wp2_with fail
    refine KQ.out.mono ?_
    rintro e w3 ⟨hC3, ho⟩
    have hCf := hCw.trans hC3
    match hbr : br (i + 1) with
    | .error (a, x) =>
      rw [hbr] at ho
      obtain ⟨rfl, hE, m, hb3⟩ := ho
      have HFF : Hid (F = .error (a, x)) := Lib.hid (by rw [← HF.out]; unfold gapC; rw [if_pos h12, hbr])
      have HH := Lib.hid (And.intro hE hb3)
      clear hE hb3 hbr KQ hC3 hCw
      go_wp2_with fail
      go_ret
      rw [HFF.out]
      exact ⟨hCf, rfl, HH.out.1, m, HH.out.2⟩
    | .ok (c, j) =>
      rw [hbr] at ho
      have hjT := (hbt _ _ _ hbr).2
      obtain ⟨rfl, hR3, m, a, hm, hIn, hmc, hb3⟩ := ho
      have hpl3 := hb3.lt
      by_cases h8 : rl T j = 8
      · have HFF : Hid (F = .ok (some c, j + 1)) := Lib.hid (by rw [← HF.out]; unfold gapC; rw [if_pos h12, hbr]; simp only; rw [if_pos h8])
        have KN := Lib.hid (need_yes 256 (by omega) hR3 hjT (by rw [h8]; decide))
        have HH := Lib.hid (And.intro hm (And.intro hIn (And.intro hmc hb3)))
        clear hR3 hm hIn hmc hb3 hbr KQ hC3 hCw
        go_wp2_with fail
        refine KN.out.mono ?_
        rintro e w4 ⟨rfl, hR4, hC4⟩
        have hs4 := hC4.size
        have HR4 := Lib.hid hR4
        have HC4 := Lib.hid hC4
        have hCf4 := hCf.trans (hC4.weak fun _ e => .inl e)
        clear hR4 hC4 KN
        go_wp2_with fail
        go_ret
        rw [HFF.out]
        obtain ⟨hm, hIn, hmc, hb3⟩ := HH.out
        have hm1 := hm.1
        have hm2 := hm.2
        refine ⟨hCf4, rfl, HR4.out, m, a, ⟨by omega, by omega⟩, (hIn.step (fun x h1 h2 => HC4.out.block x h2 (by omega)) hs4).back hs2, fun k hk => HC4.out.cell (hmc k hk) (by simp only; omega), hb3.chg HC4.out hpg⟩
      · have HFF : Hid (F = .error (bad T j)) := Lib.hid (by rw [← HF.out]; unfold gapC; rw [if_pos h12, hbr]; simp only; rw [if_neg h8])
        have KN := Lib.hid (need_no 256 (by omega) hR3 hjT (bit_ne (k := 8) h8))
        have HH := Lib.hid hb3
        clear hR3 hm hIn hmc hb3 hbr KQ hC3 hCw
        go_wp2_with fail
        refine KN.out.mono ?_
        rintro e w4 ⟨rfl, hE4, hC4⟩
        have HE4 := Lib.hid (And.intro hE4 hC4)
        clear hE4 hC4 KN
        go_wp2_with fail
        go_ret
        rw [HFF.out]
        exact ⟨hCf.trans (HE4.out.2.weak fun _ e => .inl e), rfl, HE4.out.1, m, HH.out.chg HE4.out.2 hpg⟩
  · have hbz : Nat.testBit 4096 (rl T i) = false := bit_ne (k := 12) h12
    have KT := Lib.hid (take_no 4096 (by omega) h hi hbz)
    have HFF : Hid (F = .ok (none, i)) := Lib.hid (by rw [← HF.out]; unfold gapC; rw [if_neg h12])
    have HH := Lib.hid (And.intro h hb)
    clear h hb hbz
    go_enter Tryz.func126, Tryz.ntmps126
    go_wp2_with fail
    refine KT.out.mono ?_
    rintro e w1 ⟨rfl, hx1⟩
    have HX := Lib.hid hx1
    clear KT hx1
    go_wp2_with fail
    go_ret
    rw [HFF.out]
    exact ⟨Chg.of_ext HX.out, rfl, HH.out.1.ext HX.out, HH.out.2.ext HX.out⟩
end Go.Proofs.YtbjghkmjnhmlfaaGreatDoor

/- Package read: patterns: row. -/
namespace Go.Proofs.YtbjghkmjnhmlfaaGreatDoor
open Go.RowKit

/-- two parts, and what must not be between them, made one pattern -/
theorem pt_joinC {w0 wr w3 w4 w5 w6 : World} {g pb q m mc : Nat} {p p' pc : Pt} {a a' ac : PtPl} (hg : g < w0.heap.size) (hpb : pb < wr.heap.size) (h0r : w0.heap.size ≤ wr.heap.size) (hIn : PtIn wr (fun b => New w0 wr b ∧ b ≠ pb) p a)
    (c3 : Chg (· = g) wr w3) (c4 : Chg (· = pb) w3 w4) (hq : q = w3.heap.size) (hq4 : Box9 w4 q (p.cells a)) (c5 : Chg (fun x => x = g ∨ x = pb) w4 w5) (hmc : New w4 w5 mc) (hInc : PtIn w5 (New w4 w5) pc ac) (hcc : ∀ k (hk : k < 9), w5.cell? ⟨mc, k, none⟩ = some ((pc.cells ac)[k]'hk))
    (c6 : Chg (fun x => x = g ∨ x = pb) w5 w6) (hm : New w5 w6 m) (hIn' : PtIn w6 (New w5 w6) p' a') (hcm : ∀ k (hk : k < 9), w6.cell? ⟨m, k, none⟩ = some ((p'.cells a')[k]'hk)) :
    PtIn w6 (fun b => New w0 w6 b ∧ b ≠ pb) ⟨5, noTm, 0, [p], [p'], [pc]⟩ ⟨none, 0, some ⟨q, 0, none⟩, 1, some ⟨m, 0, none⟩, 1, some ⟨mc, 0, none⟩, 1⟩ := by
  have s3 := c3.size
  have s4 := c4.size
  have s5 := c5.size
  have s6 := c6.size
  have hql := hq4.lt
  have hm1 := hm.1
  have hm2 := hm.2
  have hc1 := hmc.1
  have hc2 := hmc.2
  have hqb := (hq4.chg c5 (by omega)).chg c6 (by omega)
  refine .mk _ _ (fun _ => a) (fun _ => a') (fun _ => ac) ⟨by simp only; decide, by simp only; decide, by simp, by simp, by simp⟩ ⟨by simp, by simp, by simp⟩ (noTm_in _ _ _)
    (prow_one ⟨⟨by omega, by omega⟩, by omega⟩ fun k hk => hqb.cell k (List.getElem?_eq_getElem _)) (prow_one ⟨⟨by omega, by omega⟩, by omega⟩ hcm) (prow_one ⟨⟨by omega, by omega⟩, by omega⟩ fun k hk => c6.cell (hcc k hk) (by simp only; omega)) (fun i hi => ?_) (fun i hi => ?_) (fun i hi => ?_)
  · obtain rfl : i = 0 := by simpa using hi
    exact hIn.keep fun x hx _ => by
      have h1 := hx.1.1
      have h2 := hx.1.2
      have h3 := hx.2
      exact ⟨by rw [c6.block x (by omega) (by omega), c5.block x (by omega) (by omega), c4.block x (by omega) h3, c3.block x (by omega) (by omega)], ⟨h1, by omega⟩, h3⟩
  · obtain rfl : i = 0 := by simpa using hi
    exact hIn'.keep fun x hx _ => ⟨rfl, ⟨by have := hx.1; omega, hx.2⟩, by have := hx.1; omega⟩
  · obtain rfl : i = 0 := by simpa using hi
    exact hInc.keep fun x hx _ => ⟨c6.block x hx.2 (by have := hx.1; omega), ⟨by have := hx.1; omega, by have := hx.2; omega⟩, by have := hx.1; omega⟩

set_option maxRecDepth 100000 in
set_option maxHeartbeats 8000000 in
theorem row_rd (T : List Tok) (hT : EndLast T) (k b : Nat) (br : Nat → Rs Pt) (hB : PartTo 127 T b br) (hbt : Takes T br) (hO : PartTo 125 T b (oneP T k br)) : PartTo 121 T b (rowP T k br) := by
  intro w g K i h hi hbo
  have HBO := Lib.hid hbo
  clear hbo
  have hpt := oneP_takes hT k hbt
  have hgl := h.lt
  have hlo := h.low hT.1
  obtain ⟨w0, hw0⟩ : ∃ w0, w0 = w.alloc (.cells #[.int .i64 0, .int .i64 0, .string ⟨#[]⟩, .int .i64 0, .slice none 0 0, .int .i64 0, .slice none 0 0, .slice none 0 0, .slice none 0 0] 63) := ⟨_, rfl⟩
  have hr0 : Box9 w0 w.heap.size zero9 := by rw [hw0]; exact Box9.new w _ _ rfl
  have hx0 : Ext w w0 := by rw [hw0]; exact (Ext.refl _).alloc _
  have HW0 := Lib.hid hw0
  clear hw0
  have hR0 := h.ext hx0
  have KP := Lib.hid (hO w0 g K i hR0 hi (HBO.out.ext hx0))
  have hw0l : w.heap.size < w0.heap.size := hr0.lt
  obtain ⟨F, hF⟩ : ∃ F, F = rowP T k br i := ⟨_, rfl⟩
  have HF := Lib.hid hF.symm
  clear h hF
  go_enter Tryz.func121, Tryz.ntmps121
  go_upto_region 1 with (fail)
  rw [← HW0.out]
  go_wp2_with fail
  refine KP.out.mono ?_
  rintro e w1 ⟨hC1, ho1⟩
  have hr1 := hr0.chg hC1 (by omega)
  have hCw : Chg (· = g) w w1 := (Chg.of_ext hx0).trans hC1
  match hpi : oneP T k br i with
  | .error (a, x) =>
    rw [hpi] at ho1
    have HFE : Hid (rowP T k br i = .error (a, x)) := Lib.hid (by unfold rowP; rw [hpi])
    obtain ⟨⟨vs, hvs, rfl⟩, hE1⟩ := ho1
    obtain ⟨k0, k1, s2, k3, A4, l4, d4, k5, A6, l6, d6, A7, l7, d7, A8, l8, d8, rfl⟩ := hvs
    obtain ⟨w2, hw2⟩ : ∃ w2, w2 = w1.alloc (.cells #[.int .i64 k0, .int .i64 k1, .string s2, .int .i64 k3, .slice A4 l4 d4, .int .i64 k5, .slice A6 l6 d6, .slice A7 l7 d7, .slice A8 l8 d8] 63) := ⟨_, rfl⟩
    have hb2 : Box9 w2 w1.heap.size [.int .i64 k0, .int .i64 k1, .string s2, .int .i64 k3, .slice A4 l4 d4, .int .i64 k5, .slice A6 l6 d6, .slice A7 l7 d7, .slice A8 l8 d8] := by rw [hw2]; exact Box9.new w1 _ _ rfl
    have hx2 : Ext w1 w2 := by rw [hw2]; exact (Ext.refl _).alloc _
    have HW2 := Lib.hid hw2
    obtain ⟨x0, x1, x2, x3, x4, x5, x6, x7, x8⟩ := hb2.get
    obtain ⟨y0, y1, y2, y3, y4, y5, y6, y7, y8⟩ := (hr1.ext hx2).get
    obtain ⟨z0, z1, z2, z3, z4, z5, z6, z7, z8⟩ := (hr1.ext hx2).fzs
    have HC2 := Lib.hid (And.intro (hCw.trans (Chg.of_ext hx2)) (hE1.ext hx2))
    have hw12 : w.heap.size < w1.heap.size := hr1.lt
    clear hb2 hx2 hw2 hr1 hCw hE1 hC1 KP hr0 hx0 hR0 hpi
    go_upto_region 2 with (fail)
    rw [← HW2.out]
    go_loopw [5] (fun m wr => m = .bool false ∧ wr = w2) (fun _ _ => 0)
    case atStart => exact ⟨rfl, rfl⟩
    case round =>
      obtain ⟨rfl, rfl⟩ := hrel
      go_wp2_with fail
      refine bodyPost_ret (v := .tuple #[.agg #[.int .i64 k0, .int .i64 k1, .string s2, .int .i64 k3, .slice A4 l4 d4, .int .i64 k5, .slice A6 l6 d6, .slice A7 l7 d7, .slice A8 l8 d8], .bool false]) (by simp [results, Tryz.results121, go_sem, *]) rfl ?_
      rw [HFE.out]
      exact pt_fin_err HC2.out.1 HC2.out.2 hgl (vs := [.int .i64 k0, .int .i64 k1, .string s2, .int .i64 k3, .slice A4 l4 d4, .int .i64 k5, .slice A6 l6 d6, .slice A7 l7 d7, .slice A8 l8 d8]) rfl ⟨_, _, _, _, _, _, _, _, _, _, _, _, _, _, _, _, _, rfl⟩ rfl
  | .ok (p, j) =>
    rw [hpi] at ho1
    obtain ⟨a, rfl, hIn1, hR1⟩ := ho1
    have hjj := hpt i p j hpi
    have hFE : rowL T k br (T.length - j) p j = F := by rw [← HF.out]; unfold rowP; rw [hpi]
    obtain ⟨w2, hw2⟩ : ∃ w2, w2 = w1.alloc (.cells #[.int .i64 p.kind, .int .i64 p.tm.kind, .string p.tm.name, .int .i64 p.tm.n, .slice a.A p.tm.args.length a.ac, .int .i64 p.rel, .slice a.L p.l.length a.lc, .slice a.R p.r.length a.rc, .slice a.C p.c.length a.cc] 63) := ⟨_, rfl⟩
    obtain ⟨pb, hpb⟩ : ∃ pb, pb = w1.heap.size := ⟨_, rfl⟩
    have hb2 : Box9 w2 pb (p.cells a) := by rw [hw2, hpb]; exact Box9.new w1 _ _ rfl
    have hx2 : Ext w1 w2 := by rw [hw2]; exact (Ext.refl _).alloc _
    have HW2 := Lib.hid hw2
    have HPB := Lib.hid hpb
    have hs1 := hC1.size
    have hr2 := hr1.ext hx2
    have hC2 := hCw.trans (Chg.of_ext hx2)
    have hIn2 : PtIn w2 (fun b => New w0 w2 b ∧ b ≠ pb) p a := hIn1.keep fun x hx _ => ⟨hx2.block x hx.2, ⟨hx.1, by have := hx.2; have := hx2.size; omega⟩, by have := hx.2; omega⟩
    have hR2 := hR1.ext hx2
    have hpl2 : pb < w2.heap.size := hb2.lt
    have h0pb : w0.heap.size ≤ pb := by omega
    have HST := Lib.hid (And.intro hFE (And.intro hR2 (And.intro hIn2 hb2)))
    clear hx2 hw2 hr1 hCw hC1 KP hr0 hx0 hR0 hpi hIn1 hR1 hFE hR2 hIn2 hb2 hpb
    go_upto_region 2 with (fail)
    rw [← HPB.out, ← HW2.out]
    go_loopw [5] (fun m wr => ∃ mb : Bool, m = .bool mb ∧ Box9 wr w.heap.size zero9 ∧ Chg (· = g) w wr ∧ w2.heap.size ≤ wr.heap.size ∧
        Hid (if mb = true then ∃ n p a j, T.length ≤ n + j ∧ j < T.length ∧ rowL T k br n p j = F ∧ RdAt wr g K T j b ∧ PtIn wr (fun b => New w0 wr b ∧ b ≠ pb) p a ∧ Box9 wr pb (p.cells a) else ∃ a x cs, F = Except.error (a, x) ∧ RdErr wr g a x ∧ Sh9 cs ∧ Box9 wr pb cs)) (fun m wr => flagM m (T.length + 1 - nxOf wr g))
    case atStart => exact ⟨true, rfl, hr2, hC2, Nat.le_refl _, Lib.hid (by rw [if_pos rfl]; exact ⟨_, p, a, j, by omega, hjj.2, HST.out.1, HST.out.2.1, HST.out.2.2.1, HST.out.2.2.2⟩)⟩
    case round =>
      obtain ⟨mb, rfl, hrr, hCr, hsr, HX⟩ := hrel
      clear HST hr2 hC2
      cases mb with
      | false =>
        obtain ⟨ea, ex, cs, hFe, hEr, hsh, hbr⟩ : ∃ a x cs, F = Except.error (a, x) ∧ RdErr wr g a x ∧ Sh9 cs ∧ Box9 wr pb cs := by have := HX.out; rw [if_neg (by simp)] at this; exact this
        obtain ⟨k0, k1, s2, k3, A4, l4, d4, k5, A6, l6, d6, A7, l7, d7, A8, l8, d8, rfl⟩ := hsh
        obtain ⟨x0, x1, x2, x3, x4, x5, x6, x7, x8⟩ := hbr.get
        obtain ⟨y0, y1, y2, y3, y4, y5, y6, y7, y8⟩ := hrr.get
        obtain ⟨z0, z1, z2, z3, z4, z5, z6, z7, z8⟩ := hrr.fzs
        have HFe := Lib.hid hFe
        have HEr := Lib.hid hEr
        clear hbr hrr HX hFe hEr
        go_wp2_with fail
        refine bodyPost_ret (v := .tuple #[.agg #[.int .i64 k0, .int .i64 k1, .string s2, .int .i64 k3, .slice A4 l4 d4, .int .i64 k5, .slice A6 l6 d6, .slice A7 l7 d7, .slice A8 l8 d8], .bool false]) (by simp [results, Tryz.results121, go_sem, *]) rfl ?_
        rw [HF.out, HFe.out]
        exact pt_fin_err hCr HEr.out hgl (vs := [.int .i64 k0, .int .i64 k1, .string s2, .int .i64 k3, .slice A4 l4 d4, .int .i64 k5, .slice A6 l6 d6, .slice A7 l7 d7, .slice A8 l8 d8]) rfl ⟨_, _, _, _, _, _, _, _, _, _, _, _, _, _, _, _, _, rfl⟩ rfl
      | true =>
        obtain ⟨n, q, qa, jj, hn, hjl, hFq, hRr, hInr, hbr⟩ : ∃ n p a j, T.length ≤ n + j ∧ j < T.length ∧ rowL T k br n p j = F ∧ RdAt wr g K T j b ∧ PtIn wr (fun b => New w0 wr b ∧ b ≠ pb) p a ∧ Box9 wr pb (p.cells a) := by have := HX.out; rw [if_pos rfl] at this; exact this
        clear HX
        obtain ⟨n, rfl⟩ : ∃ m, n = m + 1 := ⟨n - 1, by omega⟩
        have HNX := Lib.hid hRr.nx
        rw [rowL] at hFq
        by_cases hjs : rl T jj = 8
        · rw [if_pos hjs] at hFq
          have KT := Lib.hid (take_yes 256 (by omega) hRr hjl (by rw [hjs]; decide))
          have hj1 := hT.next 8 hjs (by omega)
          have HB := Lib.hid (And.intro hbr hInr)
          have HFQ := Lib.hid hFq
          clear hRr hbr hInr hFq
          go_wp2_with fail
          refine KT.out.mono ?_
          rintro e w3 ⟨rfl, hR3, hC3⟩
          have hb3 := HB.out.1.chg hC3 (by omega)
          obtain ⟨x0, x1, x2, x3, x4, x5, x6, x7, x8⟩ := hb3.get
          obtain ⟨z0, z1, z2, z3, z4, z5, z6, z7, z8⟩ := hb3.fzs
          have hs3 := hC3.size
          have hpl3 : pb < w3.heap.size := hb3.lt
          have HR3 := Lib.hid (And.intro hR3 hb3)
          clear hR3 hb3 KT
          go_upto_region 4 with (fail)
          obtain ⟨w4, hw4⟩ : ∃ w4, w4 = (w3.setCells pb 0 [.int .i64 2, .int .i64 0, .string ⟨#[]⟩, .int .i64 0, .slice none 0 0, .int .i64 0, .slice (some ⟨w3.heap.size, 0, none⟩) 1 1, .slice none 0 0, .slice none 0 0]).alloc (.cells #[.int .i64 q.kind, .int .i64 q.tm.kind, .string q.tm.name, .int .i64 q.tm.n, .slice qa.A q.tm.args.length qa.ac, .int .i64 q.rel, .slice qa.L q.l.length qa.lc, .slice qa.R q.r.length qa.rc, .slice qa.C q.c.length qa.cc] 63) := ⟨_, rfl⟩
          obtain ⟨b4, c4, b4q, s4⟩ := make_world HR3.out.2 _ rfl _ rfl hw4
          have HW4 := Lib.hid hw4
          have hR4 := HR3.out.1.chg c4 (fun x _ e => by subst e; omega)
          have hC4 : Chg (· = g) w w4 := chg_new hCr ((hC3.weak fun _ e => .inl e).trans (c4.weak fun _ e => .inr e)) (by omega)
          have KG := Lib.hid (gap_rd T hT b br hB hbt w4 g pb K (jj + 1) _ hR4 hj1 (by omega) (by omega) (by omega) b4 (HBO.out.chg hC4) (by have := HBO.out.at_.lt; omega))
          have hr4 := (hrr.chg hC3 (by omega)).chg c4 (by omega)
          have HB4 := Lib.hid (And.intro c4 b4q)
          clear hw4 c4 b4q hR4 b4 x0 x1 x2 x3 x4 x5 x6 x7 x8 z0 z1 z2 z3 z4 z5 z6 z7 z8 HR3 hrr
          rw [show ((((((((((w3.setCell ⟨pb, 0, none⟩ (.int .i64 2)).setCell ⟨pb, 1, none⟩ (.int .i64 0)).setCell ⟨pb, 2, none⟩ (.string ⟨#[]⟩)).setCell ⟨pb, 3, none⟩ (.int .i64 0)).setCell ⟨pb, 4, none⟩ (.slice none 0 0)).setCell ⟨pb, 5, none⟩ (.int .i64 0)).setCell ⟨pb, 6, none⟩ (.slice (some ⟨w3.heap.size, 0, none⟩) 1 1)).setCell ⟨pb, 7, none⟩ (.slice none 0 0)).setCell ⟨pb, 8, none⟩ (.slice none 0 0)).alloc (.cells #[.int .i64 q.kind, .int .i64 q.tm.kind, .string q.tm.name, .int .i64 q.tm.n, .slice qa.A q.tm.args.length qa.ac, .int .i64 q.rel, .slice qa.L q.l.length qa.lc, .slice qa.R q.r.length qa.rc, .slice qa.C q.c.length qa.cc] 63)) = w4 from HW4.out.symm]
          have HGP := Lib.hid (gapP_C T k br q (jj + 1))
          match hgc : gapC T br (jj + 1) with
          | .error (ea, ex) =>
            have HGC := Lib.hid hgc
            clear hgc
            go_wp2_with fail
            refine KG.out.mono ?_
            rintro e w5 ⟨hC5, ho5⟩
            rw [HGC.out] at ho5
            have hC5w := chg_new hC4 hC5 (by omega)
            have hr5 := hr4.chg hC5 (by omega)
            have hs5 := hC5.size
            obtain ⟨rfl, hE5, m, hb5⟩ := ho5
            have HX5 : Hid (∃ a x cs, F = Except.error (a, x) ∧ RdErr w5 g a x ∧ Sh9 cs ∧ Box9 w5 pb cs) := Lib.hid ⟨ea, ex, _, by rw [← HFQ.out, HGP.out, HGC.out], hE5, ⟨_, _, _, _, _, _, _, _, _, _, _, _, _, _, _, _, _, rfl⟩, hb5⟩
            clear hE5 hb5 KG hC5 hr4 hC4 hC3 hCr HB HB4
            go_wp2_with fail
            go_roundw
            case rel => exact ⟨false, rfl, hr5, hC5w, by omega, Lib.hid (by rw [if_neg (by simp)]; exact HX5.out)⟩
            case measure => rw [HNX.out]; simp [flagM]; omega
          | .ok (none, jg) =>
            have HGC := Lib.hid hgc
            have hjg : jj + 1 ≤ jg ∧ jg < T.length := gapC_none hj1 hgc
            clear hgc
            go_wp2_with fail
            refine KG.out.mono ?_
            rintro e w5 ⟨hC5, ho5⟩
            rw [HGC.out] at ho5
            have hC5w := chg_new hC4 hC5 (by omega)
            have hr5 := hr4.chg hC5 (by omega)
            have hs5 := hC5.size
            obtain ⟨rfl, hR5, hb5⟩ := ho5
            have KQ := Lib.hid (put_rd 125 entOne T b _ hO w5 g pb 7 K jg _ (by omega) hR5 hjg.2 hT.1 (by omega) (by omega) (by omega) hb5 (HBO.out.chg hC5w))
            have HC5 := Lib.hid hC5
            clear KG hR5 hb5 hC5 hr4 hC4
            go_wp2_with fail
            refine KQ.out.mono ?_
            rintro e w6 ⟨hC6, ho6⟩
            have hC6w := chg_new hC5w hC6 (by omega)
            have hr6 := hr5.chg hC6 (by omega)
            have hs6 := hC6.size
            match hpq : oneP T k br jg with
            | .error (ea, ex) =>
              rw [hpq] at ho6
              obtain ⟨rfl, hE6, m, hb6⟩ := ho6
              have HX6 : Hid (∃ a x cs, F = Except.error (a, x) ∧ RdErr w6 g a x ∧ Sh9 cs ∧ Box9 w6 pb cs) := Lib.hid ⟨ea, ex, _, by rw [← HFQ.out, HGP.out, HGC.out]; simp only; rw [hpq], hE6, ⟨_, _, _, _, _, _, _, _, _, _, _, _, _, _, _, _, _, rfl⟩, hb6⟩
              clear hpq hE6 hb6 KQ hC6 hr5 hC5w hC3 hCr HB HB4
              go_wp2_with fail
              go_roundw
              case rel => exact ⟨false, rfl, hr6, hC6w, by omega, Lib.hid (by rw [if_neg (by simp)]; exact HX6.out)⟩
              case measure => rw [HNX.out]; simp [flagM]; omega
            | .ok (q', j') =>
              rw [hpq] at ho6
              obtain ⟨rfl, hR6, m, a', hm, hIn6, hmc, hb6⟩ := ho6
              have hj' := hpt _ _ _ hpq
              have hmm := hm.1
              have hIn7 := pt_join (kind := 2) (rel := 0) (by decide) (by decide) (by omega : g < w0.heap.size) (by omega) (by omega) HB.out.2 hC3 HB4.out.1 rfl HB4.out.2 (HC5.out.trans hC6) ⟨by omega, hm.2⟩ (hIn6.back hs5) hmc
              have hF6 : rowL T k br n ⟨2, noTm, 0, [q], [q'], []⟩ j' = F := by have := HFQ.out; rw [HGP.out, HGC.out] at this; simp only at this; rw [hpq] at this; exact this
              have HN6 := Lib.hid hR6.nx
              have HX6 := Lib.hid (And.intro hF6 (And.intro hR6 (And.intro hIn7 hb6)))
              clear hpq hb6 KQ hC6 hr5 hC5w hC3 hCr HB HB4 hR6 hIn6 hmc hIn7 hF6 hm
              go_wp2_with fail
              go_roundw
              case rel => exact ⟨true, rfl, hr6, hC6w, by omega, Lib.hid (by rw [if_pos rfl]; exact ⟨n, _, _, j', by omega, hj'.2, HX6.out.1, HX6.out.2.1, HX6.out.2.2.1, HX6.out.2.2.2⟩)⟩
              case measure => rw [HNX.out, HN6.out]; simp [flagM]; omega
          | .ok (some pc, jg) =>
            have HGC := Lib.hid hgc
            have hjg : jj + 1 ≤ jg ∧ jg < T.length := gapC_takes hT hbt hgc
            clear hgc
            go_wp2_with fail
            refine KG.out.mono ?_
            rintro e w5 ⟨hC5, ho5⟩
            rw [HGC.out] at ho5
            have hC5w := chg_new hC4 hC5 (by omega)
            have hr5 := hr4.chg hC5 (by omega)
            have hs5 := hC5.size
            obtain ⟨rfl, hR5, mc, ac, hmcN, hInc, hcc, hb5⟩ := ho5
            have KQ := Lib.hid (put_rd 125 entOne T b _ hO w5 g pb 7 K jg _ (by omega) hR5 hjg.2 hT.1 (by omega) (by omega) (by omega) hb5 (HBO.out.chg hC5w))
            have HC5 := Lib.hid (And.intro hC5 (And.intro hmcN (And.intro hInc hcc)))
            clear KG hR5 hb5 hC5 hr4 hC4 hmcN hInc hcc
            go_wp2_with fail
            refine KQ.out.mono ?_
            rintro e w6 ⟨hC6, ho6⟩
            have hC6w := chg_new hC5w hC6 (by omega)
            have hr6 := hr5.chg hC6 (by omega)
            have hs6 := hC6.size
            match hpq : oneP T k br jg with
            | .error (ea, ex) =>
              rw [hpq] at ho6
              obtain ⟨rfl, hE6, m, hb6⟩ := ho6
              have HX6 : Hid (∃ a x cs, F = Except.error (a, x) ∧ RdErr w6 g a x ∧ Sh9 cs ∧ Box9 w6 pb cs) := Lib.hid ⟨ea, ex, _, by rw [← HFQ.out, HGP.out, HGC.out]; simp only; rw [hpq], hE6, ⟨_, _, _, _, _, _, _, _, _, _, _, _, _, _, _, _, _, rfl⟩, hb6⟩
              clear hpq hE6 hb6 KQ hC6 hr5 hC5w hC3 hCr HB HB4
              go_wp2_with fail
              go_roundw
              case rel => exact ⟨false, rfl, hr6, hC6w, by omega, Lib.hid (by rw [if_neg (by simp)]; exact HX6.out)⟩
              case measure => rw [HNX.out]; simp [flagM]; omega
            | .ok (q', j') =>
              rw [hpq] at ho6
              obtain ⟨rfl, hR6, m, a', hm, hIn6, hmc, hb6⟩ := ho6
              have hj' := hpt _ _ _ hpq
              have hIn7 := pt_joinC (by omega : g < w0.heap.size) (by omega) (by omega) HB.out.2 hC3 HB4.out.1 rfl HB4.out.2 HC5.out.1 HC5.out.2.1 HC5.out.2.2.1 HC5.out.2.2.2 hC6 hm hIn6 hmc
              have hF6 : rowL T k br n ⟨5, noTm, 0, [q], [q'], [pc]⟩ j' = F := by have := HFQ.out; rw [HGP.out, HGC.out] at this; simp only at this; rw [hpq] at this; exact this
              have HN6 := Lib.hid hR6.nx
              have HX6 := Lib.hid (And.intro hF6 (And.intro hR6 (And.intro hIn7 hb6)))
              clear hpq hb6 KQ hC6 hr5 hC5w hC3 hCr HB HB4 hR6 hIn6 hmc hIn7 hF6 hm
              go_wp2_with fail
              go_roundw
              case rel => exact ⟨true, rfl, hr6, hC6w, by omega, Lib.hid (by rw [if_pos rfl]; exact ⟨n, _, _, j', by omega, hj'.2, HX6.out.1, HX6.out.2.1, HX6.out.2.2.1, HX6.out.2.2.2⟩)⟩
              case measure => rw [HNX.out, HN6.out]; simp [flagM]; omega
        · rw [if_neg hjs] at hFq
          have hb0 : Nat.testBit 256 (rl T jj) = false := bit_ne (k := 8) hjs
          have KT := Lib.hid (take_no 256 (by omega) hRr hjl hb0)
          have HFQ := Lib.hid hFq
          have HB := Lib.hid (And.intro hbr (And.intro hInr hRr))
          clear hRr hbr hInr hFq hb0
          go_wp2_with fail
          refine KT.out.mono ?_
          rintro e w3 ⟨rfl, hx3⟩
          obtain ⟨x0, x1, x2, x3, x4, x5, x6, x7, x8⟩ := (HB.out.1.ext hx3).get
          obtain ⟨y0, y1, y2, y3, y4, y5, y6, y7, y8⟩ := (hrr.ext hx3).get
          obtain ⟨z0, z1, z2, z3, z4, z5, z6, z7, z8⟩ := (hrr.ext hx3).fzs
          have hC3 := hCr.trans (Chg.of_ext hx3)
          have HX3 := Lib.hid hx3
          clear hrr KT hx3
          go_wp2_with fail
          refine bodyPost_ret (v := .tuple #[q.val qa, .bool true]) (by simp [results, Tryz.results121, go_sem, *]) rfl ?_
          rw [HF.out, ← HFQ.out]
          exact pt_fin_ok hC3 hw0l (HB.out.2.2.ext HX3.out) hgl hlo (HB.out.2.1.keep fun x hx _ => ⟨HX3.out.block x hx.1.2, hx.1.1, by have := hx.1.2; have := HX3.out.size; omega⟩) (vs := q.cells qa) rfl rfl
end Go.Proofs.YtbjghkmjnhmlfaaGreatDoor
