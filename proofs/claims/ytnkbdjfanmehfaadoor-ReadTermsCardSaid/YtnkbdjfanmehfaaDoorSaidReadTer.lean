/- ReadTerms holds for every argument: which term any text is, and where its first fault is, is the document's; the argument reads afterwards as before. The three tables that the program reads are as its own text lays them (the card ties them). No condition beyond the form's own. -/
import Derived.Test.YtnkbdjfanmehfaaDoorYU
import Derived.Test.YtnkbdjfanmehfaaDoorCards
import Derived.Test.YtnkbdjfanmehfaaDoorTie
import Derived.SevenTiedAt
namespace Go.Proofs.YtnkbdjfanmehfaaDoor
open Go Go.RowKit Go.ChangeShapes Go.WideShapes Go.ChangeAt

theorem read_terms : ReadWalk 3 := fun ss A c w hl hS _ hC => terms_walk ss A c w hl hS hC.1 hC.2.1 hC.2.2

set_option maxRecDepth 100000 in
theorem terms_lifted (os : Os) (started : os.Started) (H : Type) (enc : TypeId × Value → H) :
    ReturnsInHanded {} Tryd.checked os 3 .any (fun w args => (Rows.readTermsSpec.pre enc Tryd.prog Tryd.f3 [] false w args ∧ laidMetH Tryd.prog laid3 w) ∧ sizedMet enc Tryd.prog Tryd.f3 (OpenSpec.ofChange Rows.readTermsSpec) false w args)
      (Rows.readTermsSpec.post enc Tryd.prog Tryd.f3 false true false false) := by
  refine returnsInHanded_of_change_and (C := Tryd.checked) (X := fun w _ => laidMetH Tryd.prog laid3 w) (fun _ _ _ hh h => h.of_heap hh) own started (by kernel_rfl) Tryd.func3
    (ChangeSpec.witness_shaped (enc := enc) (C := Tryd.checked) (os := os) (X := fun w _ => laidMetH Tryd.prog laid3 w) false (World.doorLaid Tryd.prog 400 os) #[.agg #[.slice none 0 0]] 8 rfl (World.shaped_of_RefB (by kernel_rfl) (by kernel_rfl)) (by kernel_rfl) (by kernel_rfl) (by kernel_rfl) (door_met3 os _)) ?_
  intro W base args ds gs before hval hW _ hz hL _
  exact read_contract read_terms (by rw [Tryd.params3]) (by kernel_rfl) rfl H (fun _ => rfl) enc W base args ds gs before hval hW hz (tabs_of_laid hL)

theorem terms_row : Rows.ReadTermsSaid :=
  OpenClaim.holds_of_wide 3 Tryd.f3 rfl rfl rfl rfl rfl rfl rfl ⟨rfl, rfl, rfl, rfl, rfl⟩ rfl rfl rfl rfl rfl (by kernel_rfl) Tryd.func3 (by kernel_rfl)
    (of_decide_eq_true (by kernel_rfl)) (by unfold Func.isWrapper; first | (rw [if_pos (by decide +kernel)]; kernel_rfl) | (rw [if_neg (by decide +kernel)]; exact ⟨rfl, rfl⟩))
    (fun os started H enc _ => terms_lifted os started H enc)

theorem terms_said : Rows.ReadTermsCardSaid :=
  Claim7.holds_tied_plain_at .later [] [.data, .data, .data] true Rows.readTermsCard.stood.harness false
    terms_row (fun _ h => by cases h) (by kernel_rfl) (fun _ h => by cases h) readTerms_row_tie rfl ⟨rfl, rfl⟩ (by kernel_rfl) rfl
    (fun f fn hf hfn => by
      obtain rfl : f = 3 := Option.some.inj ((show Tryd.prog.funcNamed "almagest/almagestlaw5.ReadTerms" = some 3 by kernel_rfl).symm.trans hf) |>.symm
      obtain rfl : fn = Tryd.f3 := (Option.some.inj (Tryd.func3.symm.trans hfn)).symm
      exact ⟨by kernel_rfl, fun j t ht => by
        rw [Tryd.params3] at ht
        have hm : t ∈ [24] := by simpa using Array.mem_of_getElem? ht
        have hall : ([24].all fun u => !Tryd.prog.wantsStandIn u) = true := by kernel_rfl
        exact (show Tryd.prog.wantsStandIn t = false by simpa using List.all_eq_true.1 hall t hm)⟩)
    (by kernel_rfl)
end Go.Proofs.YtnkbdjfanmehfaaDoor
