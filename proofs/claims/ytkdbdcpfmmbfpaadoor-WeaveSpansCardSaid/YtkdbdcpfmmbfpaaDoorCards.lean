/-
  DERIVED. GIVEN WITH THE SEED: THE CARDS: each row of YtkdbdcpfmmbfpaaDoorRows.lean that lists a variable, with what it lists TIED to the program's text (the seventh form; the later family's looks); each row that meets fmt, with fmt's text TOLD by the authors' own Lean function (tested against real Go, not proved from fmt's source: count such statements apart). THE CARD IS WHAT COUNTS. Prove the row's statement (the work); the ties are given (YtkdbdcpfmmbfpaaDoorTie.lean); close each card by the builder's one call (the guide's Derived/Test/ToyasCard.lean, 'card_holds'). Laid BY PROGRAM, IN A SANDBOX (cutbox-door.mjs). By AI agents, Wed Nov 11 2026. No macro, syntax, notation, axiom, sorry.
-/
import Derived.Test.YtkdbdcpfmmbfpaaDoorRows
import GoSem.ClaimSeven
namespace Go.Proofs.YtkdbdcpfmmbfpaaDoor
namespace Rows

/-- THE TIED CARD OF 'almagestlaw8.WeaveSets'. -/
def weaveSetsCard : Claim7 := { stood := { row := weaveSetsRow, standIns := [], harness := (true, "b0c0c0f2a5791ee083c2b51e3cfd776a8698713b0ea123712c7bbc239d49408f"), looks := false }, kinds := [], alts := [], laidByText := true, laidKinds := [.data], laidTests := true, laidLooks := .later }
def WeaveSetsCardSaid : Prop := Claim7.holds Tryd.pinned (.plain (OpenSpec.ofChange weaveSetsSpec)) weaveSetsCard

/-- THE TIED CARD OF 'almagestlaw8.WeaveThen'. -/
def weaveThenCard : Claim7 := { stood := { row := weaveThenRow, standIns := [], harness := (true, "b0c0c0f2a5791ee083c2b51e3cfd776a8698713b0ea123712c7bbc239d49408f"), looks := false }, kinds := [], alts := [], laidByText := true, laidKinds := [.data], laidTests := true, laidLooks := .later }
def WeaveThenCardSaid : Prop := Claim7.holds Tryd.pinned (.plain (OpenSpec.ofChange weaveThenSpec)) weaveThenCard

/-- THE TIED CARD OF 'almagestlaw8.WeaveNet'. -/
def weaveNetCard : Claim7 := { stood := { row := weaveNetRow, standIns := [], harness := (true, "b0c0c0f2a5791ee083c2b51e3cfd776a8698713b0ea123712c7bbc239d49408f"), looks := false }, kinds := [], alts := [], laidByText := true, laidKinds := [.data], laidTests := true, laidLooks := .later }
def WeaveNetCardSaid : Prop := Claim7.holds Tryd.pinned (.plain (OpenSpec.ofChange weaveNetSpec)) weaveNetCard

/-- THE TIED CARD OF 'almagestlaw8.WeaveSpans'. -/
def weaveSpansCard : Claim7 := { stood := { row := weaveSpansRow, standIns := [], harness := (true, "b0c0c0f2a5791ee083c2b51e3cfd776a8698713b0ea123712c7bbc239d49408f"), looks := false }, kinds := [], alts := [], laidByText := true, laidKinds := [.data], laidTests := true, laidLooks := .later }
def WeaveSpansCardSaid : Prop := Claim7.holds Tryd.pinned (.plain (OpenSpec.ofChange weaveSpansSpec)) weaveSpansCard

/-- THE TIED CARD OF 'almagestlaw8.WeaveBefore'. -/
def weaveBeforeCard : Claim7 := { stood := { row := weaveBeforeRow, standIns := [], harness := (true, "b0c0c0f2a5791ee083c2b51e3cfd776a8698713b0ea123712c7bbc239d49408f"), looks := false }, kinds := [], alts := [], laidByText := true, laidKinds := [.data], laidTests := true, laidLooks := .later }
def WeaveBeforeCardSaid : Prop := Claim7.holds Tryd.pinned (.plain (OpenSpec.ofChange weaveBeforeSpec)) weaveBeforeCard

/-- THE TIED CARD OF 'almagestlaw8.WeaveMeets'. -/
def weaveMeetsCard : Claim7 := { stood := { row := weaveMeetsRow, standIns := [], harness := (true, "b0c0c0f2a5791ee083c2b51e3cfd776a8698713b0ea123712c7bbc239d49408f"), looks := false }, kinds := [], alts := [], laidByText := true, laidKinds := [.data], laidTests := true, laidLooks := .later }
def WeaveMeetsCardSaid : Prop := Claim7.holds Tryd.pinned (.plain (OpenSpec.ofChange weaveMeetsSpec)) weaveMeetsCard

/-- THE TIED CARD OF 'almagestlaw8.WeaveOverlaps'. -/
def weaveOverlapsCard : Claim7 := { stood := { row := weaveOverlapsRow, standIns := [], harness := (true, "b0c0c0f2a5791ee083c2b51e3cfd776a8698713b0ea123712c7bbc239d49408f"), looks := false }, kinds := [], alts := [], laidByText := true, laidKinds := [.data], laidTests := true, laidLooks := .later }
def WeaveOverlapsCardSaid : Prop := Claim7.holds Tryd.pinned (.plain (OpenSpec.ofChange weaveOverlapsSpec)) weaveOverlapsCard

/-- THE TIED CARD OF 'almagestlaw8.WeaveStarts'. -/
def weaveStartsCard : Claim7 := { stood := { row := weaveStartsRow, standIns := [], harness := (true, "b0c0c0f2a5791ee083c2b51e3cfd776a8698713b0ea123712c7bbc239d49408f"), looks := false }, kinds := [], alts := [], laidByText := true, laidKinds := [.data], laidTests := true, laidLooks := .later }
def WeaveStartsCardSaid : Prop := Claim7.holds Tryd.pinned (.plain (OpenSpec.ofChange weaveStartsSpec)) weaveStartsCard

/-- THE TIED CARD OF 'almagestlaw8.WeaveDuring'. -/
def weaveDuringCard : Claim7 := { stood := { row := weaveDuringRow, standIns := [], harness := (true, "b0c0c0f2a5791ee083c2b51e3cfd776a8698713b0ea123712c7bbc239d49408f"), looks := false }, kinds := [], alts := [], laidByText := true, laidKinds := [.data], laidTests := true, laidLooks := .later }
def WeaveDuringCardSaid : Prop := Claim7.holds Tryd.pinned (.plain (OpenSpec.ofChange weaveDuringSpec)) weaveDuringCard

/-- THE TIED CARD OF 'almagestlaw8.WeaveEnds'. -/
def weaveEndsCard : Claim7 := { stood := { row := weaveEndsRow, standIns := [], harness := (true, "b0c0c0f2a5791ee083c2b51e3cfd776a8698713b0ea123712c7bbc239d49408f"), looks := false }, kinds := [], alts := [], laidByText := true, laidKinds := [.data], laidTests := true, laidLooks := .later }
def WeaveEndsCardSaid : Prop := Claim7.holds Tryd.pinned (.plain (OpenSpec.ofChange weaveEndsSpec)) weaveEndsCard

/-- THE TIED CARD OF 'almagestlaw8.WeaveEqual'. -/
def weaveEqualCard : Claim7 := { stood := { row := weaveEqualRow, standIns := [], harness := (true, "b0c0c0f2a5791ee083c2b51e3cfd776a8698713b0ea123712c7bbc239d49408f"), looks := false }, kinds := [], alts := [], laidByText := true, laidKinds := [.data], laidTests := true, laidLooks := .later }
def WeaveEqualCardSaid : Prop := Claim7.holds Tryd.pinned (.plain (OpenSpec.ofChange weaveEqualSpec)) weaveEqualCard

/-- THE TIED CARD OF 'almagestlaw8.WeaveEnded'. -/
def weaveEndedCard : Claim7 := { stood := { row := weaveEndedRow, standIns := [], harness := (true, "b0c0c0f2a5791ee083c2b51e3cfd776a8698713b0ea123712c7bbc239d49408f"), looks := false }, kinds := [], alts := [], laidByText := true, laidKinds := [.data], laidTests := true, laidLooks := .later }
def WeaveEndedCardSaid : Prop := Claim7.holds Tryd.pinned (.plain (OpenSpec.ofChange weaveEndedSpec)) weaveEndedCard

/-- THE TIED CARD OF 'almagestlaw8.WeaveHolds'. -/
def weaveHoldsCard : Claim7 := { stood := { row := weaveHoldsRow, standIns := [], harness := (true, "b0c0c0f2a5791ee083c2b51e3cfd776a8698713b0ea123712c7bbc239d49408f"), looks := false }, kinds := [], alts := [], laidByText := true, laidKinds := [.data], laidTests := true, laidLooks := .later }
def WeaveHoldsCardSaid : Prop := Claim7.holds Tryd.pinned (.plain (OpenSpec.ofChange weaveHoldsSpec)) weaveHoldsCard

/-- THE TIED CARD OF 'almagestlaw8.WeaveStarted'. -/
def weaveStartedCard : Claim7 := { stood := { row := weaveStartedRow, standIns := [], harness := (true, "b0c0c0f2a5791ee083c2b51e3cfd776a8698713b0ea123712c7bbc239d49408f"), looks := false }, kinds := [], alts := [], laidByText := true, laidKinds := [.data], laidTests := true, laidLooks := .later }
def WeaveStartedCardSaid : Prop := Claim7.holds Tryd.pinned (.plain (OpenSpec.ofChange weaveStartedSpec)) weaveStartedCard

/-- THE TIED CARD OF 'almagestlaw8.WeaveOverlapped'. -/
def weaveOverlappedCard : Claim7 := { stood := { row := weaveOverlappedRow, standIns := [], harness := (true, "b0c0c0f2a5791ee083c2b51e3cfd776a8698713b0ea123712c7bbc239d49408f"), looks := false }, kinds := [], alts := [], laidByText := true, laidKinds := [.data], laidTests := true, laidLooks := .later }
def WeaveOverlappedCardSaid : Prop := Claim7.holds Tryd.pinned (.plain (OpenSpec.ofChange weaveOverlappedSpec)) weaveOverlappedCard

/-- THE TIED CARD OF 'almagestlaw8.WeaveMet'. -/
def weaveMetCard : Claim7 := { stood := { row := weaveMetRow, standIns := [], harness := (true, "b0c0c0f2a5791ee083c2b51e3cfd776a8698713b0ea123712c7bbc239d49408f"), looks := false }, kinds := [], alts := [], laidByText := true, laidKinds := [.data], laidTests := true, laidLooks := .later }
def WeaveMetCardSaid : Prop := Claim7.holds Tryd.pinned (.plain (OpenSpec.ofChange weaveMetSpec)) weaveMetCard

/-- THE TIED CARD OF 'almagestlaw8.WeaveAfter'. -/
def weaveAfterCard : Claim7 := { stood := { row := weaveAfterRow, standIns := [], harness := (true, "b0c0c0f2a5791ee083c2b51e3cfd776a8698713b0ea123712c7bbc239d49408f"), looks := false }, kinds := [], alts := [], laidByText := true, laidKinds := [.data], laidTests := true, laidLooks := .later }
def WeaveAfterCardSaid : Prop := Claim7.holds Tryd.pinned (.plain (OpenSpec.ofChange weaveAfterSpec)) weaveAfterCard

/-- THE SECOND FORM's CARD OF 'almagestlaw8.WeaveSets'. -/
def weaveSetsUptoCard : Claim7 := { stood := { row := weaveSetsUptoRow, standIns := [], harness := (true, "b0c0c0f2a5791ee083c2b51e3cfd776a8698713b0ea123712c7bbc239d49408f"), looks := false }, kinds := [], alts := [], laidByText := true, laidKinds := [.data], laidTests := true, laidLooks := .later }
def WeaveSetsUptoCardSaid : Prop := Claim7.holds Tryd.pinned (.plain (OpenSpec.upto weaveSetsSpec)) weaveSetsUptoCard

/-- THE SECOND FORM's CARD OF 'almagestlaw8.WeaveThen'. -/
def weaveThenUptoCard : Claim7 := { stood := { row := weaveThenUptoRow, standIns := [], harness := (true, "b0c0c0f2a5791ee083c2b51e3cfd776a8698713b0ea123712c7bbc239d49408f"), looks := false }, kinds := [], alts := [], laidByText := true, laidKinds := [.data], laidTests := true, laidLooks := .later }
def WeaveThenUptoCardSaid : Prop := Claim7.holds Tryd.pinned (.plain (OpenSpec.upto weaveThenSpec)) weaveThenUptoCard

/-- THE SECOND FORM's CARD OF 'almagestlaw8.WeaveNet'. -/
def weaveNetUptoCard : Claim7 := { stood := { row := weaveNetUptoRow, standIns := [], harness := (true, "b0c0c0f2a5791ee083c2b51e3cfd776a8698713b0ea123712c7bbc239d49408f"), looks := false }, kinds := [], alts := [], laidByText := true, laidKinds := [.data], laidTests := true, laidLooks := .later }
def WeaveNetUptoCardSaid : Prop := Claim7.holds Tryd.pinned (.plain (OpenSpec.upto weaveNetSpec)) weaveNetUptoCard

/-- THE SECOND FORM's CARD OF 'almagestlaw8.WeaveSpans'. -/
def weaveSpansUptoCard : Claim7 := { stood := { row := weaveSpansUptoRow, standIns := [], harness := (true, "b0c0c0f2a5791ee083c2b51e3cfd776a8698713b0ea123712c7bbc239d49408f"), looks := false }, kinds := [], alts := [], laidByText := true, laidKinds := [.data], laidTests := true, laidLooks := .later }
def WeaveSpansUptoCardSaid : Prop := Claim7.holds Tryd.pinned (.plain (OpenSpec.upto weaveSpansSpec)) weaveSpansUptoCard

/-- THE SECOND FORM's CARD OF 'almagestlaw8.WeaveBefore'. -/
def weaveBeforeUptoCard : Claim7 := { stood := { row := weaveBeforeUptoRow, standIns := [], harness := (true, "b0c0c0f2a5791ee083c2b51e3cfd776a8698713b0ea123712c7bbc239d49408f"), looks := false }, kinds := [], alts := [], laidByText := true, laidKinds := [.data], laidTests := true, laidLooks := .later }
def WeaveBeforeUptoCardSaid : Prop := Claim7.holds Tryd.pinned (.plain (OpenSpec.upto weaveBeforeSpec)) weaveBeforeUptoCard

/-- THE SECOND FORM's CARD OF 'almagestlaw8.WeaveMeets'. -/
def weaveMeetsUptoCard : Claim7 := { stood := { row := weaveMeetsUptoRow, standIns := [], harness := (true, "b0c0c0f2a5791ee083c2b51e3cfd776a8698713b0ea123712c7bbc239d49408f"), looks := false }, kinds := [], alts := [], laidByText := true, laidKinds := [.data], laidTests := true, laidLooks := .later }
def WeaveMeetsUptoCardSaid : Prop := Claim7.holds Tryd.pinned (.plain (OpenSpec.upto weaveMeetsSpec)) weaveMeetsUptoCard

/-- THE SECOND FORM's CARD OF 'almagestlaw8.WeaveOverlaps'. -/
def weaveOverlapsUptoCard : Claim7 := { stood := { row := weaveOverlapsUptoRow, standIns := [], harness := (true, "b0c0c0f2a5791ee083c2b51e3cfd776a8698713b0ea123712c7bbc239d49408f"), looks := false }, kinds := [], alts := [], laidByText := true, laidKinds := [.data], laidTests := true, laidLooks := .later }
def WeaveOverlapsUptoCardSaid : Prop := Claim7.holds Tryd.pinned (.plain (OpenSpec.upto weaveOverlapsSpec)) weaveOverlapsUptoCard

/-- THE SECOND FORM's CARD OF 'almagestlaw8.WeaveStarts'. -/
def weaveStartsUptoCard : Claim7 := { stood := { row := weaveStartsUptoRow, standIns := [], harness := (true, "b0c0c0f2a5791ee083c2b51e3cfd776a8698713b0ea123712c7bbc239d49408f"), looks := false }, kinds := [], alts := [], laidByText := true, laidKinds := [.data], laidTests := true, laidLooks := .later }
def WeaveStartsUptoCardSaid : Prop := Claim7.holds Tryd.pinned (.plain (OpenSpec.upto weaveStartsSpec)) weaveStartsUptoCard

/-- THE SECOND FORM's CARD OF 'almagestlaw8.WeaveDuring'. -/
def weaveDuringUptoCard : Claim7 := { stood := { row := weaveDuringUptoRow, standIns := [], harness := (true, "b0c0c0f2a5791ee083c2b51e3cfd776a8698713b0ea123712c7bbc239d49408f"), looks := false }, kinds := [], alts := [], laidByText := true, laidKinds := [.data], laidTests := true, laidLooks := .later }
def WeaveDuringUptoCardSaid : Prop := Claim7.holds Tryd.pinned (.plain (OpenSpec.upto weaveDuringSpec)) weaveDuringUptoCard

/-- THE SECOND FORM's CARD OF 'almagestlaw8.WeaveEnds'. -/
def weaveEndsUptoCard : Claim7 := { stood := { row := weaveEndsUptoRow, standIns := [], harness := (true, "b0c0c0f2a5791ee083c2b51e3cfd776a8698713b0ea123712c7bbc239d49408f"), looks := false }, kinds := [], alts := [], laidByText := true, laidKinds := [.data], laidTests := true, laidLooks := .later }
def WeaveEndsUptoCardSaid : Prop := Claim7.holds Tryd.pinned (.plain (OpenSpec.upto weaveEndsSpec)) weaveEndsUptoCard

/-- THE SECOND FORM's CARD OF 'almagestlaw8.WeaveEqual'. -/
def weaveEqualUptoCard : Claim7 := { stood := { row := weaveEqualUptoRow, standIns := [], harness := (true, "b0c0c0f2a5791ee083c2b51e3cfd776a8698713b0ea123712c7bbc239d49408f"), looks := false }, kinds := [], alts := [], laidByText := true, laidKinds := [.data], laidTests := true, laidLooks := .later }
def WeaveEqualUptoCardSaid : Prop := Claim7.holds Tryd.pinned (.plain (OpenSpec.upto weaveEqualSpec)) weaveEqualUptoCard

/-- THE SECOND FORM's CARD OF 'almagestlaw8.WeaveEnded'. -/
def weaveEndedUptoCard : Claim7 := { stood := { row := weaveEndedUptoRow, standIns := [], harness := (true, "b0c0c0f2a5791ee083c2b51e3cfd776a8698713b0ea123712c7bbc239d49408f"), looks := false }, kinds := [], alts := [], laidByText := true, laidKinds := [.data], laidTests := true, laidLooks := .later }
def WeaveEndedUptoCardSaid : Prop := Claim7.holds Tryd.pinned (.plain (OpenSpec.upto weaveEndedSpec)) weaveEndedUptoCard

/-- THE SECOND FORM's CARD OF 'almagestlaw8.WeaveHolds'. -/
def weaveHoldsUptoCard : Claim7 := { stood := { row := weaveHoldsUptoRow, standIns := [], harness := (true, "b0c0c0f2a5791ee083c2b51e3cfd776a8698713b0ea123712c7bbc239d49408f"), looks := false }, kinds := [], alts := [], laidByText := true, laidKinds := [.data], laidTests := true, laidLooks := .later }
def WeaveHoldsUptoCardSaid : Prop := Claim7.holds Tryd.pinned (.plain (OpenSpec.upto weaveHoldsSpec)) weaveHoldsUptoCard

/-- THE SECOND FORM's CARD OF 'almagestlaw8.WeaveStarted'. -/
def weaveStartedUptoCard : Claim7 := { stood := { row := weaveStartedUptoRow, standIns := [], harness := (true, "b0c0c0f2a5791ee083c2b51e3cfd776a8698713b0ea123712c7bbc239d49408f"), looks := false }, kinds := [], alts := [], laidByText := true, laidKinds := [.data], laidTests := true, laidLooks := .later }
def WeaveStartedUptoCardSaid : Prop := Claim7.holds Tryd.pinned (.plain (OpenSpec.upto weaveStartedSpec)) weaveStartedUptoCard

/-- THE SECOND FORM's CARD OF 'almagestlaw8.WeaveOverlapped'. -/
def weaveOverlappedUptoCard : Claim7 := { stood := { row := weaveOverlappedUptoRow, standIns := [], harness := (true, "b0c0c0f2a5791ee083c2b51e3cfd776a8698713b0ea123712c7bbc239d49408f"), looks := false }, kinds := [], alts := [], laidByText := true, laidKinds := [.data], laidTests := true, laidLooks := .later }
def WeaveOverlappedUptoCardSaid : Prop := Claim7.holds Tryd.pinned (.plain (OpenSpec.upto weaveOverlappedSpec)) weaveOverlappedUptoCard

/-- THE SECOND FORM's CARD OF 'almagestlaw8.WeaveMet'. -/
def weaveMetUptoCard : Claim7 := { stood := { row := weaveMetUptoRow, standIns := [], harness := (true, "b0c0c0f2a5791ee083c2b51e3cfd776a8698713b0ea123712c7bbc239d49408f"), looks := false }, kinds := [], alts := [], laidByText := true, laidKinds := [.data], laidTests := true, laidLooks := .later }
def WeaveMetUptoCardSaid : Prop := Claim7.holds Tryd.pinned (.plain (OpenSpec.upto weaveMetSpec)) weaveMetUptoCard

/-- THE SECOND FORM's CARD OF 'almagestlaw8.WeaveAfter'. -/
def weaveAfterUptoCard : Claim7 := { stood := { row := weaveAfterUptoRow, standIns := [], harness := (true, "b0c0c0f2a5791ee083c2b51e3cfd776a8698713b0ea123712c7bbc239d49408f"), looks := false }, kinds := [], alts := [], laidByText := true, laidKinds := [.data], laidTests := true, laidLooks := .later }
def WeaveAfterUptoCardSaid : Prop := Claim7.holds Tryd.pinned (.plain (OpenSpec.upto weaveAfterSpec)) weaveAfterUptoCard
end Rows
end Go.Proofs.YtkdbdcpfmmbfpaaDoor
