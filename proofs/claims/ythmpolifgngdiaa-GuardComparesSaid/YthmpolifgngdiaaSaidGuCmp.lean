/- GuardCompares holds for every argument: how guard.Compare tells any two of the terms of an ask, by each kind from -1 to 7, is what the page tells, or the error is; the argument reads afterwards as before. No condition beyond the form's own. -/
import Derived.Test.YthmpolifgngdiaaMF
import Derived.Test.YthmpolifgngdiaaGck
namespace Go.Proofs.Ythmpolifgngdiaa
open Go.RowKit Go.ChangeShapes Go.WideShapes Go.ChangeAt

set_option maxRecDepth 100000 in
theorem compares_lifted (os : Os) (started : os.Started) (H : Type) (enc : TypeId × Value → H) :
    ReturnsInHanded {} Try.checked os 3 .any (Rows.guardComparesSpec.pre6 enc Try.prog Try.f3 Rows.guardComparesRow.domain false) (Rows.guardComparesSpec.post enc Try.prog Try.f3 false true false false) := by
  refine returnsInHanded_of_change_sized (C := Try.checked) own started (by kernel_rfl) Try.func3
    (ChangeSpec.witness6 (enc := enc) (C := Try.checked) false ⟨#[], #[.agg #[.slice none 0 0, .slice none 0 0, .slice none 0 0, .slice none 0 0, .slice none 0 0]], []⟩ 8 (by kernel_rfl) (by kernel_rfl) (by kernel_rfl) (by kernel_rfl)) ?_
  intro W base args ds gs before hval hW _ hz _
  exact ask12_contract (fun cs ks ts Bs gs C K T B G cc kc tc bc gc w h1 h2 h3 h4 h5 h6 h7 h8 h9 h10 _ _ => compares_walk cs ks ts Bs gs C K T B G cc kc tc bc gc w h1 h2 h3 h4 h5 h6 h7 h8 h9 h10) (by rw [Try.params3]) (by kernel_rfl) rfl H (fun _ => rfl) enc W base args ds gs before hval hW hz

theorem compares_said : Rows.GuardComparesSaid :=
  OpenClaim.holds_of_wide 3 Try.f3 rfl rfl rfl rfl rfl rfl rfl ⟨rfl, rfl, rfl, rfl, rfl⟩ rfl rfl rfl rfl rfl (by kernel_rfl) Try.func3 (by kernel_rfl)
    (of_decide_eq_true (by kernel_rfl)) (by unfold Func.isWrapper; first | (rw [if_pos (by decide +kernel)]; kernel_rfl) | (rw [if_neg (by decide +kernel)]; exact ⟨rfl, rfl⟩))
    (fun os started H enc _ => compares_lifted os started H enc)
end Go.Proofs.Ythmpolifgngdiaa
