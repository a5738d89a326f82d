/- WeaveEqual holds for every argument: what may come of this relation and each set of one or two others, both ways, is what all small spans show; the argument reads afterwards as before. The table of ends is as the program's own text lays it (the card ties it). No condition beyond the form's own. -/
import Derived.Test.YtkdbdcpfmmbfpaaDoorWvw
namespace Go.Proofs.YtkdbdcpfmmbfpaaDoor
open Go Go.RowKit Go.ChangeShapes Go.WideShapes Go.ChangeAt

theorem equal_walk : WeaveWalk 13 := fun ns A c ls B d N w h _ hE => by
  have KE := Lib.hid (fun u (k : Ext w u) => row_any 6 (by decide) ns A c ls B d N u ⟨h.ints.ext k, h.nwf, h.nlen, h.ncap, h.rows.ext k, h.lwf, h.llen, h.lcap⟩ (hE.ext k))
  go_enter Tryd.func13, Tryd.ntmps13
  go_wp2_with fail
  refine (KE.out _ ((Ext.refl w).alloc _)).mono ?_
  rintro x w1 ⟨rfl, hx⟩
  go_wp2_with fail
  go_ret
  exact ⟨rfl, ((Ext.refl w).alloc _).trans hx⟩
set_option maxRecDepth 100000 in
theorem equal_lifted (os : Os) (started : os.Started) (H : Type) (enc : TypeId × Value → H) :
    ReturnsInHanded {} Tryd.checked os 13 .any (fun w args => (Rows.weaveEqualSpec.pre enc Tryd.prog Tryd.f13 [] false w args ∧ laidMetH Tryd.prog laid1 w) ∧ sizedMet enc Tryd.prog Tryd.f13 (OpenSpec.ofChange Rows.weaveEqualSpec) false w args)
      (Rows.weaveEqualSpec.post enc Tryd.prog Tryd.f13 false true false false) := by
  refine returnsInHanded_of_change_and (C := Tryd.checked) (X := fun w _ => laidMetH Tryd.prog laid1 w) (fun _ _ _ hh h => h.of_heap hh) own started (by kernel_rfl) Tryd.func13
    (ChangeSpec.witness_shaped (enc := enc) (C := Tryd.checked) (os := os) (X := fun w _ => laidMetH Tryd.prog laid1 w) false (World.doorLaid Tryd.prog 400 os) #[.agg #[.slice none 0 0, .slice none 0 0, .int .i64 0]] 8 rfl (World.shaped_of_RefB (by kernel_rfl) (by kernel_rfl)) (by kernel_rfl) (by kernel_rfl) (by kernel_rfl) (door_met1 os _)) ?_
  intro W base args ds gs before hval hW _ hz hL _
  exact weave_contract equal_walk (by rw [Tryd.params13]) (by kernel_rfl) rfl H (fun _ => rfl) enc W base args ds gs before hval hW hz (end_of_laid hL)
theorem equal_row : Rows.WeaveEqualSaid :=
  OpenClaim.holds_of_wide 13 Tryd.f13 rfl rfl rfl rfl rfl rfl rfl ⟨rfl, rfl, rfl, rfl, rfl⟩ rfl rfl rfl rfl rfl (by kernel_rfl) Tryd.func13 (by
      show joinedFacts Tryd.prog _ _ _ _ = true
      unfold joinedFacts
      rw [word_heard, word_make, word_may, word_lifts]
      kernel_rfl)
    (of_decide_eq_true (by kernel_rfl)) (by unfold Func.isWrapper; first | (rw [if_pos (by decide +kernel)]; kernel_rfl) | (rw [if_neg (by decide +kernel)]; exact ⟨rfl, rfl⟩))
    (fun os started H enc _ => equal_lifted os started H enc)
theorem equal_said : Rows.WeaveEqualCardSaid :=
  Claim7.holds_tied_plain_at .later [] [.data] true Rows.weaveEqualCard.stood.harness false
    equal_row (fun _ h => by cases h) (by kernel_rfl) (fun _ h => by cases h) weaveEqual_row_tie rfl ⟨rfl, rfl⟩ word_main rfl
    (fun f fn hf hfn => by
      obtain rfl : f = 13 := Option.some.inj ((show Tryd.prog.funcNamed "almagest/almagestlaw8.WeaveEqual" = some 13 by kernel_rfl).symm.trans hf) |>.symm
      obtain rfl : fn = Tryd.f13 := (Option.some.inj (Tryd.func13.symm.trans hfn)).symm
      exact ⟨by kernel_rfl, fun j t ht => by
        rw [Tryd.params13] at ht
        have hm : t ∈ [25] := by simpa using Array.mem_of_getElem? ht
        have hall : ([25].all fun u => !Tryd.prog.wantsStandIn u) = true := by kernel_rfl
        exact (show Tryd.prog.wantsStandIn t = false by simpa using List.all_eq_true.1 hall t hm)⟩)
    (by kernel_rfl)
end Go.Proofs.YtkdbdcpfmmbfpaaDoor
