/- FactsOrder holds for every argument: the compare, the facts and the numbers in order, copied, looked up and added to, are the document's, or the error is; the argument reads afterwards as before. No condition beyond the form's own. -/
import Derived.Test.YtcfhokejfibgoaaFkr
import Derived.Test.YtcfhokejfibgoaaFks
namespace Go.Proofs.Ytcfhokejfibgoaa
open Go.RowKit Go.ChangeShapes Go.WideShapes Go.ChangeAt

theorem order_ww : AskWalk9 3 := fun ks fs ns A B C c d e w hK hkl hkc hF hfl _ hnl _ => order_walk ks A c fs B d ns.length C e w ⟨hK, hkl, hkc, hF, hfl, hnl⟩

set_option maxRecDepth 100000 in
theorem order_lifted (os : Os) (started : os.Started) (H : Type) (enc : TypeId × Value → H) :
    ReturnsInHanded {} Try.checked os 3 .any (Rows.factsOrderSpec.pre6 enc Try.prog Try.f3 Rows.factsOrderRow.domain false) (Rows.factsOrderSpec.post enc Try.prog Try.f3 false true false false) := by
  refine returnsInHanded_of_change_sized (C := Try.checked) own started (by kernel_rfl) Try.func3
    (ChangeSpec.witness6 (enc := enc) (C := Try.checked) false ⟨#[], #[.agg #[.slice none 0 0, .slice none 0 0, .slice none 0 0]], []⟩ 8 (by kernel_rfl) (by kernel_rfl) (by kernel_rfl) (by kernel_rfl)) ?_
  intro W base args ds gs before hval hW _ hz _
  exact ask9_contract order_ww (by rw [Try.params3]) (by kernel_rfl) rfl H (fun _ => rfl) enc W base args ds gs before hval hW hz

theorem order_said : Rows.FactsOrderSaid :=
  OpenClaim.holds_of_wide 3 Try.f3 rfl rfl rfl rfl rfl rfl rfl ⟨rfl, rfl, rfl, rfl, rfl⟩ rfl rfl rfl rfl rfl (by kernel_rfl) Try.func3 (by kernel_rfl)
    (of_decide_eq_true (by kernel_rfl)) (by unfold Func.isWrapper; first | (rw [if_pos (by decide +kernel)]; kernel_rfl) | (rw [if_neg (by decide +kernel)]; exact ⟨rfl, rfl⟩))
    (fun os started H enc _ => order_lifted os started H enc)
end Go.Proofs.Ytcfhokejfibgoaa
