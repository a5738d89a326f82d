/- FactsKeep holds for every argument: whether facts kept may be, where one is, what they are with one more, since when, of which name, and sorted, are what the page tells, or the error is; the argument reads afterwards as before. No condition beyond the form's own. -/
import Derived.Test.YtkdhpifjljkpfaaGreatFzc
import Derived.Test.YtkdhpifjljkpfaaGreatFks
namespace Go.Proofs.YtkdhpifjljkpfaaGreat
open Go.RowKit Go.ChangeShapes Go.WideShapes Go.ChangeAt

theorem keep_ww : AskWalk9 3 := fun ks fs ns A B C c d e w hK hkl hkc hF hfl hN hnl hnw hce => keep_any ks A c fs B d ns C e w ⟨hK, hkl, hkc, hF, hfl, hnl⟩ hN hce hnw

set_option maxRecDepth 100000 in
theorem keep_lifted (os : Os) (started : os.Started) (H : Type) (enc : TypeId × Value → H) :
    ReturnsInHanded {} Tryz.checked os 3 .any (Rows.factsKeepSpec.pre6 enc Tryz.prog Tryz.f3 Rows.factsKeepRow.domain false) (Rows.factsKeepSpec.post enc Tryz.prog Tryz.f3 false true false false) := by
  refine returnsInHanded_of_change_sized (C := Tryz.checked) own started (by kernel_rfl) Tryz.func3
    (ChangeSpec.witness6 (enc := enc) (C := Tryz.checked) false ⟨#[], #[.agg #[.slice none 0 0, .slice none 0 0, .slice none 0 0]], []⟩ 8 (by kernel_rfl) (by kernel_rfl) (by kernel_rfl) (by kernel_rfl)) ?_
  intro W base args ds gs before hval hW _ hz _
  exact ask9_contract keep_ww (by rw [Tryz.params3]) (by kernel_rfl) rfl H (fun _ => rfl) enc W base args ds gs before hval hW hz

theorem keep_said : Rows.FactsKeepSaid :=
  OpenClaim.holds_of_wide 3 Tryz.f3 rfl rfl rfl rfl rfl rfl rfl ⟨rfl, rfl, rfl, rfl, rfl⟩ rfl rfl rfl rfl rfl (by kernel_rfl) Tryz.func3 (by kernel_rfl)
    (of_decide_eq_true (by kernel_rfl)) (by unfold Func.isWrapper; first | (rw [if_pos (by decide +kernel)]; kernel_rfl) | (rw [if_neg (by decide +kernel)]; exact ⟨rfl, rfl⟩))
    (fun os started H enc _ => keep_lifted os started H enc)
end Go.Proofs.YtkdhpifjljkpfaaGreat
