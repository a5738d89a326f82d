/-
  DERIVED. GIVEN WITH THE SEED: THE CARDS: each row of YtnkbdjfanmehfaaDoorRows.lean that lists a variable, with what it lists TIED to the program's text (the seventh form; the later family's looks); each row that meets fmt, with fmt's text TOLD by the authors' own Lean function (tested against real Go, not proved from fmt's source: count such statements apart). THE CARD IS WHAT COUNTS. Prove the row's statement (the work); the ties are given (YtnkbdjfanmehfaaDoorTie.lean); close each card by the builder's one call (the guide's Derived/Test/ToyasCard.lean, 'card_holds'). Laid BY PROGRAM, IN A SANDBOX (cutbox-door.mjs). By AI agents, Wed Nov 11 2026. No macro, syntax, notation, axiom, sorry.
-/
import Derived.Test.YtnkbdjfanmehfaaDoorRows
import GoSem.ClaimSeven
namespace Go.Proofs.YtnkbdjfanmehfaaDoor
namespace Rows

/-- THE TIED CARD OF 'almagestlaw5.ReadTerms'. -/
def readTermsCard : Claim7 := { stood := { row := readTermsRow, standIns := [], harness := (true, "494c919d543e859193f4d503904dd9f74a5156a3e0d33c0fa9a2a886b6885017"), looks := false }, kinds := [], alts := [], laidByText := true, laidKinds := [.data, .data, .data], laidTests := true, laidLooks := .later }
def ReadTermsCardSaid : Prop := Claim7.holds Tryd.pinned (.plain (OpenSpec.ofChange readTermsSpec)) readTermsCard

/-- THE SECOND FORM's CARD OF 'almagestlaw5.ReadTerms'. -/
def readTermsUptoCard : Claim7 := { stood := { row := readTermsUptoRow, standIns := [], harness := (true, "494c919d543e859193f4d503904dd9f74a5156a3e0d33c0fa9a2a886b6885017"), looks := false }, kinds := [], alts := [], laidByText := true, laidKinds := [.data, .data, .data], laidTests := true, laidLooks := .later }
def ReadTermsUptoCardSaid : Prop := Claim7.holds Tryd.pinned (.plain (OpenSpec.upto readTermsSpec)) readTermsUptoCard
end Rows
end Go.Proofs.YtnkbdjfanmehfaaDoor
