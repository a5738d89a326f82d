/- WeaveNet holds for every argument: what any net of sets comes to is what the page's own net comes to, or the error is; the argument reads afterwards as before. The table of ends is as the program's own text lays it (the card ties it). No condition beyond the form's own. -/
import Derived.Test.YtjldokhomohdbaaDoorWvw
import Derived.Test.YtjldokhomohdbaaDoorWnl
namespace Go.Proofs.YtjldokhomohdbaaDoor
open Go Go.RowKit Go.ChangeShapes Go.WideShapes Go.ChangeAt

theorem netw_ww : WeaveWalk 5 := fun ns A c ls B d N w h hN hE => net_walk ns A c ls B d N w h hN hE
set_option maxRecDepth 100000 in
theorem netw_lifted (os : Os) (started : os.Started) (H : Type) (enc : TypeId × Value → H) :
    ReturnsInHanded {} Tryd.checked os 5 .any (fun w args => (Rows.weaveNetSpec.pre enc Tryd.prog Tryd.f5 [] false w args ∧ laidMetH Tryd.prog laid1 w) ∧ sizedMet enc Tryd.prog Tryd.f5 (OpenSpec.ofChange Rows.weaveNetSpec) false w args)
      (Rows.weaveNetSpec.post enc Tryd.prog Tryd.f5 false true false false) := by
  refine returnsInHanded_of_change_and (C := Tryd.checked) (X := fun w _ => laidMetH Tryd.prog laid1 w) (fun _ _ _ hh h => h.of_heap hh) own started (by kernel_rfl) Tryd.func5
    (ChangeSpec.witness_shaped (enc := enc) (C := Tryd.checked) (os := os) (X := fun w _ => laidMetH Tryd.prog laid1 w) false (World.doorLaid Tryd.prog 400 os) #[.agg #[.slice none 0 0, .slice none 0 0, .int .i64 0]] 8 rfl (World.shaped_of_RefB (by kernel_rfl) (by kernel_rfl)) (by kernel_rfl) (by kernel_rfl) (by kernel_rfl) (door_met1 os _)) ?_
  intro W base args ds gs before hval hW _ hz hL _
  exact weave_contract netw_ww (by rw [Tryd.params5]) (by kernel_rfl) rfl H (fun _ => rfl) enc W base args ds gs before hval hW hz (end_of_laid hL)
theorem netw_row : Rows.WeaveNetSaid :=
  OpenClaim.holds_of_wide 5 Tryd.f5 rfl rfl rfl rfl rfl rfl rfl ⟨rfl, rfl, rfl, rfl, rfl⟩ rfl rfl rfl rfl rfl (by kernel_rfl) Tryd.func5 (by
      show joinedFacts Tryd.prog _ _ _ _ = true
      unfold joinedFacts
      rw [word_heard, word_make, word_may, word_lifts]
      kernel_rfl)
    (of_decide_eq_true (by kernel_rfl)) (by unfold Func.isWrapper; first | (rw [if_pos (by decide +kernel)]; kernel_rfl) | (rw [if_neg (by decide +kernel)]; exact ⟨rfl, rfl⟩))
    (fun os started H enc _ => netw_lifted os started H enc)
theorem netw_said : Rows.WeaveNetCardSaid :=
  Claim7.holds_tied_plain_at .later [] [.data] true Rows.weaveNetCard.stood.harness false
    netw_row (fun _ h => by cases h) (by kernel_rfl) (fun _ h => by cases h) weaveNet_row_tie rfl ⟨rfl, rfl⟩ word_main rfl
    (fun f fn hf hfn => by
      obtain rfl : f = 5 := Option.some.inj ((show Tryd.prog.funcNamed "almagest/almagestlaw8.WeaveNet" = some 5 by kernel_rfl).symm.trans hf) |>.symm
      obtain rfl : fn = Tryd.f5 := (Option.some.inj (Tryd.func5.symm.trans hfn)).symm
      exact ⟨by kernel_rfl, fun j t ht => by
        rw [Tryd.params5] at ht
        have hm : t ∈ [25] := by simpa using Array.mem_of_getElem? ht
        have hall : ([25].all fun u => !Tryd.prog.wantsStandIn u) = true := by kernel_rfl
        exact (show Tryd.prog.wantsStandIn t = false by simpa using List.all_eq_true.1 hall t hm)⟩)
    (by kernel_rfl)
end Go.Proofs.YtjldokhomohdbaaDoor
