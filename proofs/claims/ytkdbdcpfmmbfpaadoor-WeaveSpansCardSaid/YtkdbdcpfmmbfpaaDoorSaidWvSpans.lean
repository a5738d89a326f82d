/- WeaveSpans holds for every argument: whether spans with small ends can be given to every name so that each pair's relation is one its list allows, or the argument is refused; the argument reads afterwards as before. The table of ends is as the program's own text lays it (the card ties it). No condition beyond the form's own. -/
import Derived.Test.YtkdbdcpfmmbfpaaDoorWvw
import Derived.Test.YtkdbdcpfmmbfpaaDoorWpb
namespace Go.Proofs.YtkdbdcpfmmbfpaaDoor
open Go Go.RowKit Go.ChangeShapes Go.WideShapes Go.ChangeAt

theorem spans_ww : WeaveWalk 6 := fun ns A c ls B d N w h hN hE => spans_walk ns A c ls B d N w h hN hE
set_option maxRecDepth 100000 in
theorem spans_lifted (os : Os) (started : os.Started) (H : Type) (enc : TypeId × Value → H) :
    ReturnsInHanded {} Tryd.checked os 6 .any (fun w args => (Rows.weaveSpansSpec.pre enc Tryd.prog Tryd.f6 [] false w args ∧ laidMetH Tryd.prog laid1 w) ∧ sizedMet enc Tryd.prog Tryd.f6 (OpenSpec.ofChange Rows.weaveSpansSpec) false w args)
      (Rows.weaveSpansSpec.post enc Tryd.prog Tryd.f6 false true false false) := by
  refine returnsInHanded_of_change_and (C := Tryd.checked) (X := fun w _ => laidMetH Tryd.prog laid1 w) (fun _ _ _ hh h => h.of_heap hh) own started (by kernel_rfl) Tryd.func6
    (ChangeSpec.witness_shaped (enc := enc) (C := Tryd.checked) (os := os) (X := fun w _ => laidMetH Tryd.prog laid1 w) false (World.doorLaid Tryd.prog 400 os) #[.agg #[.slice none 0 0, .slice none 0 0, .int .i64 0]] 8 rfl (World.shaped_of_RefB (by kernel_rfl) (by kernel_rfl)) (by kernel_rfl) (by kernel_rfl) (by kernel_rfl) (door_met1 os _)) ?_
  intro W base args ds gs before hval hW _ hz hL _
  exact weave_contract spans_ww (by rw [Tryd.params6]) (by kernel_rfl) rfl H (fun _ => rfl) enc W base args ds gs before hval hW hz (end_of_laid hL)
theorem spans_row : Rows.WeaveSpansSaid :=
  OpenClaim.holds_of_wide 6 Tryd.f6 rfl rfl rfl rfl rfl rfl rfl ⟨rfl, rfl, rfl, rfl, rfl⟩ rfl rfl rfl rfl rfl (by kernel_rfl) Tryd.func6 (by
      show joinedFacts Tryd.prog _ _ _ _ = true
      unfold joinedFacts
      rw [word_heard, word_make, word_may, word_lifts]
      kernel_rfl)
    (of_decide_eq_true (by kernel_rfl)) (by unfold Func.isWrapper; first | (rw [if_pos (by decide +kernel)]; kernel_rfl) | (rw [if_neg (by decide +kernel)]; exact ⟨rfl, rfl⟩))
    (fun os started H enc _ => spans_lifted os started H enc)
theorem spans_said : Rows.WeaveSpansCardSaid :=
  Claim7.holds_tied_plain_at .later [] [.data] true Rows.weaveSpansCard.stood.harness false
    spans_row (fun _ h => by cases h) (by kernel_rfl) (fun _ h => by cases h) weaveSpans_row_tie rfl ⟨rfl, rfl⟩ word_main rfl
    (fun f fn hf hfn => by
      obtain rfl : f = 6 := Option.some.inj ((show Tryd.prog.funcNamed "almagest/almagestlaw8.WeaveSpans" = some 6 by kernel_rfl).symm.trans hf) |>.symm
      obtain rfl : fn = Tryd.f6 := (Option.some.inj (Tryd.func6.symm.trans hfn)).symm
      exact ⟨by kernel_rfl, fun j t ht => by
        rw [Tryd.params6] at ht
        have hm : t ∈ [25] := by simpa using Array.mem_of_getElem? ht
        have hall : ([25].all fun u => !Tryd.prog.wantsStandIn u) = true := by kernel_rfl
        exact (show Tryd.prog.wantsStandIn t = false by simpa using List.all_eq_true.1 hall t hm)⟩)
    (by kernel_rfl)
end Go.Proofs.YtkdbdcpfmmbfpaaDoor
