/- TermOrders holds for every argument: the order of any two terms, and any one with other variables, are the document's, or the error is; the argument reads afterwards as before. No condition beyond the form's own. -/
import Derived.Test.YtjahhkobecjckaaLift
import Derived.Test.YtjahhkobecjckaaOrders
namespace Go.Proofs.Ytjahhkobecjckaa
open Go.RowKit Go.ChangeShapes Go.WideShapes Go.ChangeAt

set_option maxRecDepth 100000 in
theorem orders_lifted (os : Os) (started : os.Started) (H : Type) (enc : TypeId × Value → H) :
    ReturnsInHanded {} Try.checked os 4 .any (Rows.termOrdersSpec.pre6 enc Try.prog Try.f4 Rows.termOrdersRow.domain false) (Rows.termOrdersSpec.post enc Try.prog Try.f4 false true false false) := by
  refine returnsInHanded_of_change_sized (C := Try.checked) own started (by kernel_rfl) Try.func4
    (ChangeSpec.witness6 (enc := enc) (C := Try.checked) false ⟨#[], #[.agg #[.slice none 0 0, .slice none 0 0]], []⟩ 8 (by kernel_rfl) (by kernel_rfl) (by kernel_rfl) (by kernel_rfl)) ?_
  intro W base args ds gs before hval hW _ hz _
  exact ask_contract orders_walk (by rw [Try.params4]) (by kernel_rfl) rfl H (fun _ => rfl) enc W base args ds gs before hval hW hz

theorem orders_said : Rows.TermOrdersSaid :=
  OpenClaim.holds_of_wide 4 Try.f4 rfl rfl rfl rfl rfl rfl rfl ⟨rfl, rfl, rfl, rfl, rfl⟩ rfl rfl rfl rfl rfl (by kernel_rfl) Try.func4 (by kernel_rfl)
    (of_decide_eq_true (by kernel_rfl)) (by unfold Func.isWrapper; first | (rw [if_pos (by decide +kernel)]; kernel_rfl) | (rw [if_neg (by decide +kernel)]; exact ⟨rfl, rfl⟩))
    (fun os started H enc _ => orders_lifted os started H enc)
end Go.Proofs.Ytjahhkobecjckaa
