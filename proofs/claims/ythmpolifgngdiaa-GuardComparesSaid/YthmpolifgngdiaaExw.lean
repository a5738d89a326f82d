/- bind.examine, Check, grounded: which binds may be. -/
import Derived.Test.YthmpolifgngdiaaExm
import Derived.Test.YthmpolifgngdiaaExt
import Derived.WalkLawsBesides
namespace Go.Proofs.Ythmpolifgngdiaa
open Go.RowKit

theorem var_yes {s : ByteArray} {w : World} (hs : s.size ≤ 140737488351232) (hv : varB s = true) : Calls Try.prog 49 #[.string s] w fun e w' => e = .returned (.bool true) ∧ Ext w w' :=
  (variable_any s w hs).mono fun _ _ ⟨he, hx⟩ => ⟨by rw [he, hv], hx⟩
theorem var_no {s : ByteArray} {w : World} (hs : s.size ≤ 140737488351232) (hv : varB s = false) : Calls Try.prog 49 #[.string s] w fun e w' => e = .returned (.bool false) ∧ Ext w w' :=
  (variable_any s w hs).mono fun _ _ ⟨he, hx⟩ => ⟨by rw [he, hv], hx⟩

theorem bindsB_no {bs : List Bd} (h : okL none bs = false) : bindsB bs = false := by unfold bindsB; rw [h]; simp
theorem exam_no {bs : List Bd} {w w' : World} (h : bindsB bs = false) (hx : Ext w w') : ExamOut bs w (.returned (.tuple #[.bool false, .int .i64 1])) w' := by
  unfold ExamOut
  rw [h]
  exact ⟨rfl, hx⟩
theorem ahead_succ {bs : List Bd} {j : Nat} (h : j < bs.length) : ahead bs (j + 1) = some bs[j].name := by
  unfold ahead
  rw [if_neg (by omega), Nat.add_sub_cancel, List.getElem?_eq_getElem h]; rfl

set_option maxRecDepth 100000 in
set_option maxHeartbeats 2000000 in
theorem examine_any (bs : List Bd) (A : Option Addr) (c : Nat) (w : World) (ll : bs.length ≤ 1000000) (h : BdsAt w bs A) :
    Calls Try.prog 43 #[.slice A bs.length c] w (ExamOut bs w) := by
  by_cases h16 : bs.length ≤ 16
  · have H16 : decide ((16 : Int) < (bs.length : Int)) = false := decide_eq_false (by omega)
    go_enter Try.func43, Try.ntmps43
    go_wp2_with fail
    go_loopw [4, 14] (fun g i wr => ∃ (k : Nat) (G : Bool), k ≤ bs.length ∧ i = .int .i64 k ∧ g = .bool G ∧ Hid ((G && grL (bs.drop k)) = grL bs) ∧ Hid (okL (ahead bs k) (bs.drop k) = okL none bs) ∧ Ext w wr) (fun _ i _ => bs.length - (intOf i).toNat)
    case atStart => exact ⟨0, true, Nat.zero_le _, rfl, rfl, Lib.hid rfl, Lib.hid rfl, Ext.refl _⟩
    case round =>
      obtain ⟨k, G, hk, rfl, rfl, HG, HO, hx⟩ := hrel
      by_cases hlt : k < bs.length
      · have HO2 : Hid (((mayB bs[k].tm && varB bs[k].name && upB (ahead bs k) bs[k].name) && okL (ahead bs (k + 1)) (bs.drop (k + 1))) = okL none bs) := Lib.hid ((okL_step hlt).symm.trans HO.out)
        have HG2 : Hid ((G && (groundT bs[k].tm && grL (bs.drop (k + 1)))) = grL bs) := Lib.hid (by have := HG.out; rw [List.drop_eq_getElem_cons hlt] at this; exact this)
        clear HO HG
        obtain ⟨b, o, B, e, rfl, c0, c1, c2, c3, c4, hT, hn⟩ := (h.ext hx) k hlt
        have hxa : Ext w (boxB wr bs[k] B e) := hx.alloc _
        by_cases hm : mayB bs[k].tm = true
        · have R := Lib.hid hm
          have hTa := hT.ext ((Ext.refl wr).alloc (.cells #[.string bs[k].name, .int .i64 bs[k].tm.kind, .string bs[k].tm.name, .int .i64 bs[k].tm.n, .slice B bs[k].tm.args.length e] 67))
          clear hm
          go_wp2_with fail
          refine (Ground_yes bs[k].tm B e _ hTa R.out).mono ?_
          rintro e1 w1 ⟨rfl, hx1⟩
          have n0 : w1.cell? ⟨wr.heap.size, 0, none⟩ = some (.string bs[k].name) := hx1.cell (by go_simp)
          have hx01 : Ext w w1 := hxa.trans hx1
          clear c0 c1 c2 c3 c4 hTa hT
          go_wp2_with fail
          have N0 : ∀ p : ExtOf w1, p.to.cell? ⟨wr.heap.size, 0, none⟩ = some (.string bs[k].name) := ext_cell n0
          by_cases hv : varB bs[k].name = true
          · have V := Lib.hid hv
            clear hv
            cases k with
            | zero =>
              refine wp_region_ext (by kernel_rfl) (by kernel_rfl) ?_
              repeat (go_big_quiet_step ((go_at_call 49; exact of_ext (var_yes hn V.out))))
              refine wpQuiet_nil ?_
              refine ext_all ?_
              intro w2 hx2
              have HO3 : Hid (okL (ahead bs 1) (bs.drop 1) = okL none bs) := Lib.hid (by have := HO2.out; rw [R.out, V.out] at this; exact this)
              have hx02 := hx01.trans hx2
              clear N0 n0 HO2
              cases G
              · go_wp2_with fail
                go_roundw
                case rel => exact ⟨1, false, by omega, by go_num, rfl, Lib.hid (by rw [← HG2.out]; simp), HO3, hx02⟩
                case measure => simp [intOf]; omega
              · go_wp2_with fail
                go_roundw
                case rel => exact ⟨1, _, by omega, by go_num, rfl, Lib.hid (by rw [← HG2.out]; simp), HO3, hx02⟩
                case measure => simp [intOf]; omega
            | succ j =>
              have hj : j < bs.length := by omega
              obtain ⟨b', o', B', e', eA, q0, _, _, _, _, _, _⟩ := h j hj
              obtain ⟨rfl, rfl⟩ : b = b' ∧ o = o' := by injection eA with e; injection e with e1 e2; exact ⟨e1, e2⟩
              have N1 : ∀ p : ExtOf w1, p.to.cell? ⟨b, o + j * 5, none⟩ = some (.string bs[j].name) := ext_cell (hx01.cell q0)
              clear eA q0
              have j0 : (0 : Int) ≤ (j : Int) := Int.natCast_nonneg _
              have j1 : (j : Int) < (bs.length : Int) := by omega
              have hup := ahead_succ hj
              by_cases hu : Op.bytesLess bs[j].name.toList bs[j + 1].name.toList = true
              · have U := Lib.hid hu
                refine wp_region_ext (by kernel_rfl) (by kernel_rfl) ?_
                repeat (go_big_quiet_step ((go_at_call 49; exact of_ext (var_yes hn V.out))))
                refine wpQuiet_nil ?_
                refine ext_all ?_
                intro w2 hx2
                have HO3 : Hid (okL (ahead bs (j + 1 + 1)) (bs.drop (j + 1 + 1)) = okL none bs) := Lib.hid (by have := HO2.out; rw [R.out, V.out, hup, upB, hu] at this; exact this)
                have hx02 := hx01.trans hx2
                clear N0 n0 HO2 N1 hu hup
                cases G
                · go_wp2_with fail
                  go_roundw
                  case rel => exact ⟨j + 1 + 1, false, by omega, by go_num, rfl, Lib.hid (by rw [← HG2.out]; simp), HO3, hx02⟩
                  case measure => simp [intOf]; omega
                · go_wp2_with fail
                  go_roundw
                  case rel => exact ⟨j + 1 + 1, _, by omega, by go_num, rfl, Lib.hid (by rw [← HG2.out]; simp), HO3, hx02⟩
                  case measure => simp [intOf]; omega
              · have hu' := not_true hu
                clear hu
                refine wp_region_ext (by kernel_rfl) (by kernel_rfl) ?_
                repeat (go_big_quiet_step ((go_at_call 49; exact of_ext (var_yes hn V.out))))
                refine wpQuiet_nil ?_
                refine ext_all ?_
                intro w2 hx2
                have hno : Hid (bindsB bs = false) := Lib.hid (bindsB_no (by rw [← HO2.out, hup, upB, hu']; simp))
                clear N0 n0 HO2 N1 hup
                go_wp2_with fail
                go_ret2
                exact exam_no hno.out (hx01.trans hx2)
          · have hv' := not_true hv
            have V := Lib.hid hv'
            clear hv
            refine wp_region_ext (by kernel_rfl) (by kernel_rfl) ?_
            repeat (go_big_quiet_step ((go_at_call 49; exact of_ext (var_no hn V.out))))
            refine wpQuiet_nil ?_
            refine ext_all ?_
            intro w2 hx2
            have hno : Hid (bindsB bs = false) := Lib.hid (bindsB_no (by rw [← HO2.out, hv']; simp))
            clear hv' N0 n0
            go_wp2_with fail
            go_ret2
            exact exam_no hno.out (hx01.trans hx2)
        · have hm' := not_true hm
          have R := Lib.hid hm'
          have hno : Hid (bindsB bs = false) := Lib.hid (bindsB_no (by rw [← HO2.out, hm']; simp))
          have hTa := hT.ext ((Ext.refl wr).alloc (.cells #[.string bs[k].name, .int .i64 bs[k].tm.kind, .string bs[k].tm.name, .int .i64 bs[k].tm.n, .slice B bs[k].tm.args.length e] 67))
          clear hm hm'
          go_wp2_with fail
          refine (Ground_no bs[k].tm B e _ hTa R.out).mono ?_
          rintro e1 w1 ⟨rfl, hx1⟩
          clear c0 c1 c2 c3 c4
          go_wp2_with fail
          go_quiet (fail)
          go_wp2_with fail
          go_ret2
          exact exam_no hno.out ((hxa.trans hx1).trans ((Ext.refl _).drewN _))
      · have hg : Hid (G = grL bs) := Lib.hid (by have := HG.out; rw [List.drop_eq_nil_of_le (by omega)] at this; simpa [grL] using this)
        have ho : Hid (okL none bs = true) := Lib.hid (by have := HO.out; rw [List.drop_eq_nil_of_le (by omega)] at this; exact this.symm)
        clear HG HO
        cases G
        · have hgr : Hid (grL bs = false) := Lib.hid hg.out.symm
          go_wp2_with fail
          refine (crossed_any bs (okL_short _ _ ho.out) A c _ ll (h.ext hx)).mono ?_
          rintro e1 w1 ⟨rfl, hx1⟩
          by_cases hc : crossL bs bs = true
          · have hno : Hid (bindsB bs = false) := Lib.hid (by unfold bindsB; rw [hgr.out, hc]; simp)
            go_wp2_with fail
            go_ret2
            exact exam_no hno.out (hx.trans hx1)
          · have hc' := not_true hc
            have hyes : Hid (bindsB bs = true) := Lib.hid (by unfold bindsB; rw [hgr.out, hc', ho.out]; simp; omega)
            clear hc
            go_wp2_with fail
            go_ret2
            unfold ExamOut
            rw [hyes.out, hgr.out]
            exact ⟨rfl, hx.trans hx1⟩
        · have hyes : Hid (bindsB bs = true) := Lib.hid (by unfold bindsB; rw [← hg.out, ho.out]; simp; omega)
          go_wp2_with fail
          go_ret2
          unfold ExamOut
          rw [hyes.out, ← hg.out]
          exact ⟨rfl, hx⟩
  · have hno : Hid (bindsB bs = false) := Lib.hid (by unfold bindsB; simp; omega)
    have H16 : decide ((16 : Int) < (bs.length : Int)) = true := decide_eq_true (by omega)
    go_enter Try.func43, Try.ntmps43
    go_wp2_with fail
    go_ret2
    exact exam_no hno.out (Ext.refl _)
end Go.Proofs.Ythmpolifgngdiaa
