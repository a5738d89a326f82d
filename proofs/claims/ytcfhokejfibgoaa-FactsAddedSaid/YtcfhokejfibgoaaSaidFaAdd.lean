/- FactsAdded holds for every argument: each fact added in its turn is found where it was added, and all, sorted, rise, or the error is; the argument reads afterwards as before. No condition beyond the form's own. -/
import Derived.Test.YtcfhokejfibgoaaFkv
import Derived.Test.YtcfhokejfibgoaaFks
namespace Go.Proofs.Ytcfhokejfibgoaa
open Go.RowKit Go.ChangeShapes Go.WideShapes Go.ChangeAt

theorem added_ww : AskWalk9 4 := fun ks fs ns A B C c d e w hK hkl hkc hF hfl _ hnl _ => added_walk ks A c fs B d ns.length C e w ⟨hK, hkl, hkc, hF, hfl, hnl⟩

set_option maxRecDepth 100000 in
theorem added_lifted (os : Os) (started : os.Started) (H : Type) (enc : TypeId × Value → H) :
    ReturnsInHanded {} Try.checked os 4 .any (Rows.factsAddedSpec.pre6 enc Try.prog Try.f4 Rows.factsAddedRow.domain false) (Rows.factsAddedSpec.post enc Try.prog Try.f4 false true false false) := by
  refine returnsInHanded_of_change_sized (C := Try.checked) own started (by kernel_rfl) Try.func4
    (ChangeSpec.witness6 (enc := enc) (C := Try.checked) false ⟨#[], #[.agg #[.slice none 0 0, .slice none 0 0, .slice none 0 0]], []⟩ 8 (by kernel_rfl) (by kernel_rfl) (by kernel_rfl) (by kernel_rfl)) ?_
  intro W base args ds gs before hval hW _ hz _
  exact ask9_contract added_ww (by rw [Try.params4]) (by kernel_rfl) rfl H (fun _ => rfl) enc W base args ds gs before hval hW hz

theorem added_said : Rows.FactsAddedSaid :=
  OpenClaim.holds_of_wide 4 Try.f4 rfl rfl rfl rfl rfl rfl rfl ⟨rfl, rfl, rfl, rfl, rfl⟩ rfl rfl rfl rfl rfl (by kernel_rfl) Try.func4 (by kernel_rfl)
    (of_decide_eq_true (by kernel_rfl)) (by unfold Func.isWrapper; first | (rw [if_pos (by decide +kernel)]; kernel_rfl) | (rw [if_neg (by decide +kernel)]; exact ⟨rfl, rfl⟩))
    (fun os started H enc _ => added_lifted os started H enc)
end Go.Proofs.Ytcfhokejfibgoaa
