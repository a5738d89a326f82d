/-
  DERIVED. GIVEN WITH THE SEED: THE CARDS: each row of YtgpjfagkjmnpgaaDoorRows.lean that lists a variable, with what it lists TIED to the program's text (the seventh form; the later family's looks); each row that meets fmt, with fmt's text TOLD by the authors' own Lean function (tested against real Go, not proved from fmt's source: count such statements apart). THE CARD IS WHAT COUNTS. Prove the row's statement (the work); the ties are given (YtgpjfagkjmnpgaaDoorTie.lean); close each card by the builder's one call (the guide's Derived/Test/ToyasCard.lean, 'card_holds'). Laid BY PROGRAM, IN A SANDBOX (cutbox-door.mjs). By AI agents, Wed Nov 11 2026. No macro, syntax, notation, axiom, sorry.
-/
import Derived.Test.YtgpjfagkjmnpgaaDoorRows
import GoSem.ClaimSeven
namespace Go.Proofs.YtgpjfagkjmnpgaaDoor
namespace Rows

/-- THE TIED CARD OF 'almagestlaw7.SpanLies'. -/
def spanLiesCard : Claim7 := { stood := { row := spanLiesRow, standIns := [], harness := (true, "604814135d8054a1f4016cccd5277e28bb1d526446445a51798dd74e28e6882c"), looks := false }, kinds := [], alts := [], laidByText := true, laidKinds := [.data], laidTests := true, laidLooks := .later }
def SpanLiesCardSaid : Prop := Claim7.holds Tryd.pinned (.plain (OpenSpec.ofChange spanLiesSpec)) spanLiesCard

/-- THE TIED CARD OF 'almagestlaw7.SpanNames'. -/
def spanNamesCard : Claim7 := { stood := { row := spanNamesRow, standIns := [], harness := (true, "604814135d8054a1f4016cccd5277e28bb1d526446445a51798dd74e28e6882c"), looks := false }, kinds := [], alts := [], laidByText := true, laidKinds := [.data, .data], laidTests := true, laidLooks := .later }
def SpanNamesCardSaid : Prop := Claim7.holds Tryd.pinned (.plain (OpenSpec.ofChange spanNamesSpec)) spanNamesCard

/-- THE TIED CARD OF 'almagestlaw7.SpanOne'. -/
def spanOneCard : Claim7 := { stood := { row := spanOneRow, standIns := [], harness := (true, "604814135d8054a1f4016cccd5277e28bb1d526446445a51798dd74e28e6882c"), looks := false }, kinds := [], alts := [], laidByText := true, laidKinds := [.data], laidTests := true, laidLooks := .later }
def SpanOneCardSaid : Prop := Claim7.holds Tryd.pinned (.plain (OpenSpec.ofChange spanOneSpec)) spanOneCard

/-- THE TIED CARD OF 'almagestlaw7.SpanBefore'. -/
def spanBeforeCard : Claim7 := { stood := { row := spanBeforeRow, standIns := [], harness := (true, "604814135d8054a1f4016cccd5277e28bb1d526446445a51798dd74e28e6882c"), looks := false }, kinds := [], alts := [], laidByText := true, laidKinds := [.data], laidTests := true, laidLooks := .later }
def SpanBeforeCardSaid : Prop := Claim7.holds Tryd.pinned (.plain (OpenSpec.ofChange spanBeforeSpec)) spanBeforeCard

/-- THE TIED CARD OF 'almagestlaw7.SpanMeets'. -/
def spanMeetsCard : Claim7 := { stood := { row := spanMeetsRow, standIns := [], harness := (true, "604814135d8054a1f4016cccd5277e28bb1d526446445a51798dd74e28e6882c"), looks := false }, kinds := [], alts := [], laidByText := true, laidKinds := [.data], laidTests := true, laidLooks := .later }
def SpanMeetsCardSaid : Prop := Claim7.holds Tryd.pinned (.plain (OpenSpec.ofChange spanMeetsSpec)) spanMeetsCard

/-- THE TIED CARD OF 'almagestlaw7.SpanOverlaps'. -/
def spanOverlapsCard : Claim7 := { stood := { row := spanOverlapsRow, standIns := [], harness := (true, "604814135d8054a1f4016cccd5277e28bb1d526446445a51798dd74e28e6882c"), looks := false }, kinds := [], alts := [], laidByText := true, laidKinds := [.data], laidTests := true, laidLooks := .later }
def SpanOverlapsCardSaid : Prop := Claim7.holds Tryd.pinned (.plain (OpenSpec.ofChange spanOverlapsSpec)) spanOverlapsCard

/-- THE TIED CARD OF 'almagestlaw7.SpanStarts'. -/
def spanStartsCard : Claim7 := { stood := { row := spanStartsRow, standIns := [], harness := (true, "604814135d8054a1f4016cccd5277e28bb1d526446445a51798dd74e28e6882c"), looks := false }, kinds := [], alts := [], laidByText := true, laidKinds := [.data], laidTests := true, laidLooks := .later }
def SpanStartsCardSaid : Prop := Claim7.holds Tryd.pinned (.plain (OpenSpec.ofChange spanStartsSpec)) spanStartsCard

/-- THE TIED CARD OF 'almagestlaw7.SpanDuring'. -/
def spanDuringCard : Claim7 := { stood := { row := spanDuringRow, standIns := [], harness := (true, "604814135d8054a1f4016cccd5277e28bb1d526446445a51798dd74e28e6882c"), looks := false }, kinds := [], alts := [], laidByText := true, laidKinds := [.data], laidTests := true, laidLooks := .later }
def SpanDuringCardSaid : Prop := Claim7.holds Tryd.pinned (.plain (OpenSpec.ofChange spanDuringSpec)) spanDuringCard

/-- THE TIED CARD OF 'almagestlaw7.SpanEnds'. -/
def spanEndsCard : Claim7 := { stood := { row := spanEndsRow, standIns := [], harness := (true, "604814135d8054a1f4016cccd5277e28bb1d526446445a51798dd74e28e6882c"), looks := false }, kinds := [], alts := [], laidByText := true, laidKinds := [.data], laidTests := true, laidLooks := .later }
def SpanEndsCardSaid : Prop := Claim7.holds Tryd.pinned (.plain (OpenSpec.ofChange spanEndsSpec)) spanEndsCard

/-- THE TIED CARD OF 'almagestlaw7.SpanEqual'. -/
def spanEqualCard : Claim7 := { stood := { row := spanEqualRow, standIns := [], harness := (true, "604814135d8054a1f4016cccd5277e28bb1d526446445a51798dd74e28e6882c"), looks := false }, kinds := [], alts := [], laidByText := true, laidKinds := [.data], laidTests := true, laidLooks := .later }
def SpanEqualCardSaid : Prop := Claim7.holds Tryd.pinned (.plain (OpenSpec.ofChange spanEqualSpec)) spanEqualCard

/-- THE TIED CARD OF 'almagestlaw7.SpanEnded'. -/
def spanEndedCard : Claim7 := { stood := { row := spanEndedRow, standIns := [], harness := (true, "604814135d8054a1f4016cccd5277e28bb1d526446445a51798dd74e28e6882c"), looks := false }, kinds := [], alts := [], laidByText := true, laidKinds := [.data], laidTests := true, laidLooks := .later }
def SpanEndedCardSaid : Prop := Claim7.holds Tryd.pinned (.plain (OpenSpec.ofChange spanEndedSpec)) spanEndedCard

/-- THE TIED CARD OF 'almagestlaw7.SpanHolds'. -/
def spanHoldsCard : Claim7 := { stood := { row := spanHoldsRow, standIns := [], harness := (true, "604814135d8054a1f4016cccd5277e28bb1d526446445a51798dd74e28e6882c"), looks := false }, kinds := [], alts := [], laidByText := true, laidKinds := [.data], laidTests := true, laidLooks := .later }
def SpanHoldsCardSaid : Prop := Claim7.holds Tryd.pinned (.plain (OpenSpec.ofChange spanHoldsSpec)) spanHoldsCard

/-- THE TIED CARD OF 'almagestlaw7.SpanStarted'. -/
def spanStartedCard : Claim7 := { stood := { row := spanStartedRow, standIns := [], harness := (true, "604814135d8054a1f4016cccd5277e28bb1d526446445a51798dd74e28e6882c"), looks := false }, kinds := [], alts := [], laidByText := true, laidKinds := [.data], laidTests := true, laidLooks := .later }
def SpanStartedCardSaid : Prop := Claim7.holds Tryd.pinned (.plain (OpenSpec.ofChange spanStartedSpec)) spanStartedCard

/-- THE TIED CARD OF 'almagestlaw7.SpanOverlapped'. -/
def spanOverlappedCard : Claim7 := { stood := { row := spanOverlappedRow, standIns := [], harness := (true, "604814135d8054a1f4016cccd5277e28bb1d526446445a51798dd74e28e6882c"), looks := false }, kinds := [], alts := [], laidByText := true, laidKinds := [.data], laidTests := true, laidLooks := .later }
def SpanOverlappedCardSaid : Prop := Claim7.holds Tryd.pinned (.plain (OpenSpec.ofChange spanOverlappedSpec)) spanOverlappedCard

/-- THE TIED CARD OF 'almagestlaw7.SpanMet'. -/
def spanMetCard : Claim7 := { stood := { row := spanMetRow, standIns := [], harness := (true, "604814135d8054a1f4016cccd5277e28bb1d526446445a51798dd74e28e6882c"), looks := false }, kinds := [], alts := [], laidByText := true, laidKinds := [.data], laidTests := true, laidLooks := .later }
def SpanMetCardSaid : Prop := Claim7.holds Tryd.pinned (.plain (OpenSpec.ofChange spanMetSpec)) spanMetCard

/-- THE TIED CARD OF 'almagestlaw7.SpanAfter'. -/
def spanAfterCard : Claim7 := { stood := { row := spanAfterRow, standIns := [], harness := (true, "604814135d8054a1f4016cccd5277e28bb1d526446445a51798dd74e28e6882c"), looks := false }, kinds := [], alts := [], laidByText := true, laidKinds := [.data], laidTests := true, laidLooks := .later }
def SpanAfterCardSaid : Prop := Claim7.holds Tryd.pinned (.plain (OpenSpec.ofChange spanAfterSpec)) spanAfterCard

/-- THE SECOND FORM's CARD OF 'almagestlaw7.SpanLies'. -/
def spanLiesUptoCard : Claim7 := { stood := { row := spanLiesUptoRow, standIns := [], harness := (true, "604814135d8054a1f4016cccd5277e28bb1d526446445a51798dd74e28e6882c"), looks := false }, kinds := [], alts := [], laidByText := true, laidKinds := [.data], laidTests := true, laidLooks := .later }
def SpanLiesUptoCardSaid : Prop := Claim7.holds Tryd.pinned (.plain (OpenSpec.upto spanLiesSpec)) spanLiesUptoCard

/-- THE SECOND FORM's CARD OF 'almagestlaw7.SpanNames'. -/
def spanNamesUptoCard : Claim7 := { stood := { row := spanNamesUptoRow, standIns := [], harness := (true, "604814135d8054a1f4016cccd5277e28bb1d526446445a51798dd74e28e6882c"), looks := false }, kinds := [], alts := [], laidByText := true, laidKinds := [.data, .data], laidTests := true, laidLooks := .later }
def SpanNamesUptoCardSaid : Prop := Claim7.holds Tryd.pinned (.plain (OpenSpec.upto spanNamesSpec)) spanNamesUptoCard

/-- THE SECOND FORM's CARD OF 'almagestlaw7.SpanOne'. -/
def spanOneUptoCard : Claim7 := { stood := { row := spanOneUptoRow, standIns := [], harness := (true, "604814135d8054a1f4016cccd5277e28bb1d526446445a51798dd74e28e6882c"), looks := false }, kinds := [], alts := [], laidByText := true, laidKinds := [.data], laidTests := true, laidLooks := .later }
def SpanOneUptoCardSaid : Prop := Claim7.holds Tryd.pinned (.plain (OpenSpec.upto spanOneSpec)) spanOneUptoCard

/-- THE SECOND FORM's CARD OF 'almagestlaw7.SpanBefore'. -/
def spanBeforeUptoCard : Claim7 := { stood := { row := spanBeforeUptoRow, standIns := [], harness := (true, "604814135d8054a1f4016cccd5277e28bb1d526446445a51798dd74e28e6882c"), looks := false }, kinds := [], alts := [], laidByText := true, laidKinds := [.data], laidTests := true, laidLooks := .later }
def SpanBeforeUptoCardSaid : Prop := Claim7.holds Tryd.pinned (.plain (OpenSpec.upto spanBeforeSpec)) spanBeforeUptoCard

/-- THE SECOND FORM's CARD OF 'almagestlaw7.SpanMeets'. -/
def spanMeetsUptoCard : Claim7 := { stood := { row := spanMeetsUptoRow, standIns := [], harness := (true, "604814135d8054a1f4016cccd5277e28bb1d526446445a51798dd74e28e6882c"), looks := false }, kinds := [], alts := [], laidByText := true, laidKinds := [.data], laidTests := true, laidLooks := .later }
def SpanMeetsUptoCardSaid : Prop := Claim7.holds Tryd.pinned (.plain (OpenSpec.upto spanMeetsSpec)) spanMeetsUptoCard

/-- THE SECOND FORM's CARD OF 'almagestlaw7.SpanOverlaps'. -/
def spanOverlapsUptoCard : Claim7 := { stood := { row := spanOverlapsUptoRow, standIns := [], harness := (true, "604814135d8054a1f4016cccd5277e28bb1d526446445a51798dd74e28e6882c"), looks := false }, kinds := [], alts := [], laidByText := true, laidKinds := [.data], laidTests := true, laidLooks := .later }
def SpanOverlapsUptoCardSaid : Prop := Claim7.holds Tryd.pinned (.plain (OpenSpec.upto spanOverlapsSpec)) spanOverlapsUptoCard

/-- THE SECOND FORM's CARD OF 'almagestlaw7.SpanStarts'. -/
def spanStartsUptoCard : Claim7 := { stood := { row := spanStartsUptoRow, standIns := [], harness := (true, "604814135d8054a1f4016cccd5277e28bb1d526446445a51798dd74e28e6882c"), looks := false }, kinds := [], alts := [], laidByText := true, laidKinds := [.data], laidTests := true, laidLooks := .later }
def SpanStartsUptoCardSaid : Prop := Claim7.holds Tryd.pinned (.plain (OpenSpec.upto spanStartsSpec)) spanStartsUptoCard

/-- THE SECOND FORM's CARD OF 'almagestlaw7.SpanDuring'. -/
def spanDuringUptoCard : Claim7 := { stood := { row := spanDuringUptoRow, standIns := [], harness := (true, "604814135d8054a1f4016cccd5277e28bb1d526446445a51798dd74e28e6882c"), looks := false }, kinds := [], alts := [], laidByText := true, laidKinds := [.data], laidTests := true, laidLooks := .later }
def SpanDuringUptoCardSaid : Prop := Claim7.holds Tryd.pinned (.plain (OpenSpec.upto spanDuringSpec)) spanDuringUptoCard

/-- THE SECOND FORM's CARD OF 'almagestlaw7.SpanEnds'. -/
def spanEndsUptoCard : Claim7 := { stood := { row := spanEndsUptoRow, standIns := [], harness := (true, "604814135d8054a1f4016cccd5277e28bb1d526446445a51798dd74e28e6882c"), looks := false }, kinds := [], alts := [], laidByText := true, laidKinds := [.data], laidTests := true, laidLooks := .later }
def SpanEndsUptoCardSaid : Prop := Claim7.holds Tryd.pinned (.plain (OpenSpec.upto spanEndsSpec)) spanEndsUptoCard

/-- THE SECOND FORM's CARD OF 'almagestlaw7.SpanEqual'. -/
def spanEqualUptoCard : Claim7 := { stood := { row := spanEqualUptoRow, standIns := [], harness := (true, "604814135d8054a1f4016cccd5277e28bb1d526446445a51798dd74e28e6882c"), looks := false }, kinds := [], alts := [], laidByText := true, laidKinds := [.data], laidTests := true, laidLooks := .later }
def SpanEqualUptoCardSaid : Prop := Claim7.holds Tryd.pinned (.plain (OpenSpec.upto spanEqualSpec)) spanEqualUptoCard

/-- THE SECOND FORM's CARD OF 'almagestlaw7.SpanEnded'. -/
def spanEndedUptoCard : Claim7 := { stood := { row := spanEndedUptoRow, standIns := [], harness := (true, "604814135d8054a1f4016cccd5277e28bb1d526446445a51798dd74e28e6882c"), looks := false }, kinds := [], alts := [], laidByText := true, laidKinds := [.data], laidTests := true, laidLooks := .later }
def SpanEndedUptoCardSaid : Prop := Claim7.holds Tryd.pinned (.plain (OpenSpec.upto spanEndedSpec)) spanEndedUptoCard

/-- THE SECOND FORM's CARD OF 'almagestlaw7.SpanHolds'. -/
def spanHoldsUptoCard : Claim7 := { stood := { row := spanHoldsUptoRow, standIns := [], harness := (true, "604814135d8054a1f4016cccd5277e28bb1d526446445a51798dd74e28e6882c"), looks := false }, kinds := [], alts := [], laidByText := true, laidKinds := [.data], laidTests := true, laidLooks := .later }
def SpanHoldsUptoCardSaid : Prop := Claim7.holds Tryd.pinned (.plain (OpenSpec.upto spanHoldsSpec)) spanHoldsUptoCard

/-- THE SECOND FORM's CARD OF 'almagestlaw7.SpanStarted'. -/
def spanStartedUptoCard : Claim7 := { stood := { row := spanStartedUptoRow, standIns := [], harness := (true, "604814135d8054a1f4016cccd5277e28bb1d526446445a51798dd74e28e6882c"), looks := false }, kinds := [], alts := [], laidByText := true, laidKinds := [.data], laidTests := true, laidLooks := .later }
def SpanStartedUptoCardSaid : Prop := Claim7.holds Tryd.pinned (.plain (OpenSpec.upto spanStartedSpec)) spanStartedUptoCard

/-- THE SECOND FORM's CARD OF 'almagestlaw7.SpanOverlapped'. -/
def spanOverlappedUptoCard : Claim7 := { stood := { row := spanOverlappedUptoRow, standIns := [], harness := (true, "604814135d8054a1f4016cccd5277e28bb1d526446445a51798dd74e28e6882c"), looks := false }, kinds := [], alts := [], laidByText := true, laidKinds := [.data], laidTests := true, laidLooks := .later }
def SpanOverlappedUptoCardSaid : Prop := Claim7.holds Tryd.pinned (.plain (OpenSpec.upto spanOverlappedSpec)) spanOverlappedUptoCard

/-- THE SECOND FORM's CARD OF 'almagestlaw7.SpanMet'. -/
def spanMetUptoCard : Claim7 := { stood := { row := spanMetUptoRow, standIns := [], harness := (true, "604814135d8054a1f4016cccd5277e28bb1d526446445a51798dd74e28e6882c"), looks := false }, kinds := [], alts := [], laidByText := true, laidKinds := [.data], laidTests := true, laidLooks := .later }
def SpanMetUptoCardSaid : Prop := Claim7.holds Tryd.pinned (.plain (OpenSpec.upto spanMetSpec)) spanMetUptoCard

/-- THE SECOND FORM's CARD OF 'almagestlaw7.SpanAfter'. -/
def spanAfterUptoCard : Claim7 := { stood := { row := spanAfterUptoRow, standIns := [], harness := (true, "604814135d8054a1f4016cccd5277e28bb1d526446445a51798dd74e28e6882c"), looks := false }, kinds := [], alts := [], laidByText := true, laidKinds := [.data], laidTests := true, laidLooks := .later }
def SpanAfterUptoCardSaid : Prop := Claim7.holds Tryd.pinned (.plain (OpenSpec.upto spanAfterSpec)) spanAfterUptoCard
end Rows
end Go.Proofs.YtgpjfagkjmnpgaaDoor
