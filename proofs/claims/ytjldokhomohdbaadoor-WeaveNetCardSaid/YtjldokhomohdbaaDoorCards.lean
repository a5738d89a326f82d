/-
  DERIVED. GIVEN WITH THE SEED: THE CARDS: each row of YtjldokhomohdbaaDoorRows.lean that lists a variable, with what it lists TIED to the program's text (the seventh form; the later family's looks); each row that meets fmt, with fmt's text TOLD by the authors' own Lean function (tested against real Go, not proved from fmt's source: count such statements apart). THE CARD IS WHAT COUNTS. Prove the row's statement (the work); the ties are given (YtjldokhomohdbaaDoorTie.lean); close each card by the builder's one call (the guide's Derived/Test/ToyasCard.lean, 'card_holds'). Laid BY PROGRAM, IN A SANDBOX (cutbox-door.mjs). By AI agents, Wed Nov 11 2026. No macro, syntax, notation, axiom, sorry.
-/
import Derived.Test.YtjldokhomohdbaaDoorRows
import GoSem.ClaimSeven
namespace Go.Proofs.YtjldokhomohdbaaDoor
namespace Rows

/-- THE TIED CARD OF 'almagestlaw8.WeaveSets'. -/
def weaveSetsCard : Claim7 := { stood := { row := weaveSetsRow, standIns := [], harness := (true, "2486781226d4cddbbe533122e58a82bf9f05306bad6fd170a897c0bc5112e0f4"), looks := false }, kinds := [], alts := [], laidByText := true, laidKinds := [.data], laidTests := true, laidLooks := .later }
def WeaveSetsCardSaid : Prop := Claim7.holds Tryd.pinned (.plain (OpenSpec.ofChange weaveSetsSpec)) weaveSetsCard

/-- THE TIED CARD OF 'almagestlaw8.WeaveThen'. -/
def weaveThenCard : Claim7 := { stood := { row := weaveThenRow, standIns := [], harness := (true, "2486781226d4cddbbe533122e58a82bf9f05306bad6fd170a897c0bc5112e0f4"), looks := false }, kinds := [], alts := [], laidByText := true, laidKinds := [.data], laidTests := true, laidLooks := .later }
def WeaveThenCardSaid : Prop := Claim7.holds Tryd.pinned (.plain (OpenSpec.ofChange weaveThenSpec)) weaveThenCard

/-- THE TIED CARD OF 'almagestlaw8.WeaveNet'. -/
def weaveNetCard : Claim7 := { stood := { row := weaveNetRow, standIns := [], harness := (true, "2486781226d4cddbbe533122e58a82bf9f05306bad6fd170a897c0bc5112e0f4"), looks := false }, kinds := [], alts := [], laidByText := true, laidKinds := [.data], laidTests := true, laidLooks := .later }
def WeaveNetCardSaid : Prop := Claim7.holds Tryd.pinned (.plain (OpenSpec.ofChange weaveNetSpec)) weaveNetCard

/-- THE TIED CARD OF 'almagestlaw8.WeaveSpans'. -/
def weaveSpansCard : Claim7 := { stood := { row := weaveSpansRow, standIns := [], harness := (true, "2486781226d4cddbbe533122e58a82bf9f05306bad6fd170a897c0bc5112e0f4"), looks := false }, kinds := [], alts := [], laidByText := true, laidKinds := [.data], laidTests := true, laidLooks := .later }
def WeaveSpansCardSaid : Prop := Claim7.holds Tryd.pinned (.plain (OpenSpec.ofChange weaveSpansSpec)) weaveSpansCard

/-- THE SECOND FORM's CARD OF 'almagestlaw8.WeaveSets'. -/
def weaveSetsUptoCard : Claim7 := { stood := { row := weaveSetsUptoRow, standIns := [], harness := (true, "2486781226d4cddbbe533122e58a82bf9f05306bad6fd170a897c0bc5112e0f4"), looks := false }, kinds := [], alts := [], laidByText := true, laidKinds := [.data], laidTests := true, laidLooks := .later }
def WeaveSetsUptoCardSaid : Prop := Claim7.holds Tryd.pinned (.plain (OpenSpec.upto weaveSetsSpec)) weaveSetsUptoCard

/-- THE SECOND FORM's CARD OF 'almagestlaw8.WeaveThen'. -/
def weaveThenUptoCard : Claim7 := { stood := { row := weaveThenUptoRow, standIns := [], harness := (true, "2486781226d4cddbbe533122e58a82bf9f05306bad6fd170a897c0bc5112e0f4"), looks := false }, kinds := [], alts := [], laidByText := true, laidKinds := [.data], laidTests := true, laidLooks := .later }
def WeaveThenUptoCardSaid : Prop := Claim7.holds Tryd.pinned (.plain (OpenSpec.upto weaveThenSpec)) weaveThenUptoCard

/-- THE SECOND FORM's CARD OF 'almagestlaw8.WeaveNet'. -/
def weaveNetUptoCard : Claim7 := { stood := { row := weaveNetUptoRow, standIns := [], harness := (true, "2486781226d4cddbbe533122e58a82bf9f05306bad6fd170a897c0bc5112e0f4"), looks := false }, kinds := [], alts := [], laidByText := true, laidKinds := [.data], laidTests := true, laidLooks := .later }
def WeaveNetUptoCardSaid : Prop := Claim7.holds Tryd.pinned (.plain (OpenSpec.upto weaveNetSpec)) weaveNetUptoCard

/-- THE SECOND FORM's CARD OF 'almagestlaw8.WeaveSpans'. -/
def weaveSpansUptoCard : Claim7 := { stood := { row := weaveSpansUptoRow, standIns := [], harness := (true, "2486781226d4cddbbe533122e58a82bf9f05306bad6fd170a897c0bc5112e0f4"), looks := false }, kinds := [], alts := [], laidByText := true, laidKinds := [.data], laidTests := true, laidLooks := .later }
def WeaveSpansUptoCardSaid : Prop := Claim7.holds Tryd.pinned (.plain (OpenSpec.upto weaveSpansSpec)) weaveSpansUptoCard
end Rows
end Go.Proofs.YtjldokhomohdbaaDoor
