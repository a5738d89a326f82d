/- ReadLimits holds for every argument: one rule more, one clause more, one part more, one guard more, one depth more, one bracket more than may be is told where it stands, by texts made there; the argument reads afterwards as before. The three tables that the program reads are as its own text lays them (the card ties them). No condition beyond the form's own. -/
import Derived.Test.YtbjghkmjnhmlfaaGreatDoorYU
import Derived.Test.YtbjghkmjnhmlfaaGreatDoorPjb
import Derived.Test.YtbjghkmjnhmlfaaGreatDoorCards
import Derived.Test.YtbjghkmjnhmlfaaGreatDoorTie
import Derived.SevenTiedAt
namespace Go.Proofs.YtbjghkmjnhmlfaaGreatDoor
open Go Go.RowKit Go.ChangeShapes Go.WideShapes Go.ChangeAt

theorem read_it_Lim : ReadWalk 4 := fun ss A c w _ _ _ _ hC => limits_walk ss A c w hC.1 hC.2.1 hC.2.2

set_option maxRecDepth 100000 in
theorem lifted_Lim (os : Os) (started : os.Started) (H : Type) (enc : TypeId × Value → H) :
    ReturnsInHanded {} Tryz.checked os 4 .any (fun w args => (Rows.readLimitsSpec.pre enc Tryz.prog Tryz.f4 [] false w args ∧ laidMetH Tryz.prog laid3 w) ∧ sizedMet enc Tryz.prog Tryz.f4 (OpenSpec.ofChange Rows.readLimitsSpec) false w args)
      (Rows.readLimitsSpec.post enc Tryz.prog Tryz.f4 false true false false) := by
  refine returnsInHanded_of_change_and (C := Tryz.checked) (X := fun w _ => laidMetH Tryz.prog laid3 w) (fun _ _ _ hh h => h.of_heap hh) own started (by kernel_rfl) Tryz.func4
    (ChangeSpec.witness_shaped (enc := enc) (C := Tryz.checked) (os := os) (X := fun w _ => laidMetH Tryz.prog laid3 w) false (World.doorLaid Tryz.prog 400 os) #[.agg #[.slice none 0 0]] 8 rfl (World.shaped_of_RefB (by kernel_rfl) (by kernel_rfl)) (by kernel_rfl) (by kernel_rfl) (by kernel_rfl) (door_met3 os _)) ?_
  intro W base args ds gs before hval hW _ hz hL _
  exact read_contract read_it_Lim (by rw [Tryz.params4]) (by kernel_rfl) rfl H (fun _ => rfl) enc W base args ds gs before hval hW hz (tabs_of_laid hL)

theorem row_Lim : Rows.ReadLimitsSaid :=
  OpenClaim.holds_of_wide 4 Tryz.f4 rfl rfl rfl rfl rfl rfl rfl ⟨rfl, rfl, rfl, rfl, rfl⟩ rfl rfl rfl rfl rfl (by kernel_rfl) Tryz.func4 (by kernel_rfl)
    (of_decide_eq_true (by kernel_rfl)) (by unfold Func.isWrapper; first | (rw [if_pos (by decide +kernel)]; kernel_rfl) | (rw [if_neg (by decide +kernel)]; exact ⟨rfl, rfl⟩))
    (fun os started H enc _ => lifted_Lim os started H enc)

theorem said_Lim : Rows.ReadLimitsCardSaid :=
  Claim7.holds_tied_plain_at .later [] [.data, .data, .data] true Rows.readLimitsCard.stood.harness false
    row_Lim (fun _ h => by cases h) (by kernel_rfl) (fun _ h => by cases h) readLimits_row_tie rfl ⟨rfl, rfl⟩ (by kernel_rfl) rfl
    (fun f fn hf hfn => by
      obtain rfl : f = 4 := Option.some.inj ((show Tryz.prog.funcNamed "almagest/almagestlaw5.ReadLimits" = some 4 by kernel_rfl).symm.trans hf) |>.symm
      obtain rfl : fn = Tryz.f4 := (Option.some.inj (Tryz.func4.symm.trans hfn)).symm
      exact ⟨by kernel_rfl, fun j t ht => by
        rw [Tryz.params4] at ht
        have hm : t ∈ [24] := by simpa using Array.mem_of_getElem? ht
        have hall : ([24].all fun u => !Tryz.prog.wantsStandIn u) = true := by kernel_rfl
        exact (show Tryz.prog.wantsStandIn t = false by simpa using List.all_eq_true.1 hall t hm)⟩)
    (by kernel_rfl)
end Go.Proofs.YtbjghkmjnhmlfaaGreatDoor
