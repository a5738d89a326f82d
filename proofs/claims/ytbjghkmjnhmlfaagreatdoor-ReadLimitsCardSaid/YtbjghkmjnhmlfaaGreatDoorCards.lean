/-
  DERIVED. GIVEN WITH THE SEED: THE CARDS: each row of YtbjghkmjnhmlfaaGreatDoorRows.lean that lists a variable, with what it lists TIED to the program's text (the seventh form; the later family's looks); each row that meets fmt, with fmt's text TOLD by the authors' own Lean function (tested against real Go, not proved from fmt's source: count such statements apart). THE CARD IS WHAT COUNTS. Prove the row's statement (the work); the ties are given (YtbjghkmjnhmlfaaGreatDoorTie.lean); close each card by the builder's one call (the guide's Derived/Test/ToyasCard.lean, 'card_holds'). Laid BY PROGRAM, IN A SANDBOX (cutbox-door.mjs). By AI agents, Wed Nov 11 2026. No macro, syntax, notation, axiom, sorry.
-/
import Derived.Test.YtbjghkmjnhmlfaaGreatDoorRows
import GoSem.ClaimSeven
namespace Go.Proofs.YtbjghkmjnhmlfaaGreatDoor
namespace Rows

/-- THE TIED CARD OF 'almagestlaw5.ReadPrograms'. -/
def readProgramsCard : Claim7 := { stood := { row := readProgramsRow, standIns := [], harness := (true, "3c7253bec33e9aa69ab3c008274c16da92b93a9561d2ebcbd80af2675b517bd3"), looks := false }, kinds := [], alts := [], laidByText := true, laidKinds := [.data, .data, .data], laidTests := true, laidLooks := .later }
def ReadProgramsCardSaid : Prop := Claim7.holds Tryz.pinned (.plain (OpenSpec.ofChange readProgramsSpec)) readProgramsCard

/-- THE TIED CARD OF 'almagestlaw5.ReadLimits'. -/
def readLimitsCard : Claim7 := { stood := { row := readLimitsRow, standIns := [], harness := (true, "3c7253bec33e9aa69ab3c008274c16da92b93a9561d2ebcbd80af2675b517bd3"), looks := false }, kinds := [], alts := [], laidByText := true, laidKinds := [.data, .data, .data], laidTests := true, laidLooks := .later }
def ReadLimitsCardSaid : Prop := Claim7.holds Tryz.pinned (.plain (OpenSpec.ofChange readLimitsSpec)) readLimitsCard

/-- THE TIED CARD OF 'almagestlaw5.ReadGuards'. -/
def readGuardsCard : Claim7 := { stood := { row := readGuardsRow, standIns := [], harness := (true, "3c7253bec33e9aa69ab3c008274c16da92b93a9561d2ebcbd80af2675b517bd3"), looks := false }, kinds := [], alts := [], laidByText := true, laidKinds := [.data, .data, .data], laidTests := true, laidLooks := .later }
def ReadGuardsCardSaid : Prop := Claim7.holds Tryz.pinned (.plain (OpenSpec.ofChange readGuardsSpec)) readGuardsCard

/-- THE SECOND FORM's CARD OF 'almagestlaw5.ReadPrograms'. -/
def readProgramsUptoCard : Claim7 := { stood := { row := readProgramsUptoRow, standIns := [], harness := (true, "3c7253bec33e9aa69ab3c008274c16da92b93a9561d2ebcbd80af2675b517bd3"), looks := false }, kinds := [], alts := [], laidByText := true, laidKinds := [.data, .data, .data], laidTests := true, laidLooks := .later }
def ReadProgramsUptoCardSaid : Prop := Claim7.holds Tryz.pinned (.plain (OpenSpec.upto readProgramsSpec)) readProgramsUptoCard

/-- THE SECOND FORM's CARD OF 'almagestlaw5.ReadLimits'. -/
def readLimitsUptoCard : Claim7 := { stood := { row := readLimitsUptoRow, standIns := [], harness := (true, "3c7253bec33e9aa69ab3c008274c16da92b93a9561d2ebcbd80af2675b517bd3"), looks := false }, kinds := [], alts := [], laidByText := true, laidKinds := [.data, .data, .data], laidTests := true, laidLooks := .later }
def ReadLimitsUptoCardSaid : Prop := Claim7.holds Tryz.pinned (.plain (OpenSpec.upto readLimitsSpec)) readLimitsUptoCard

/-- THE SECOND FORM's CARD OF 'almagestlaw5.ReadGuards'. -/
def readGuardsUptoCard : Claim7 := { stood := { row := readGuardsUptoRow, standIns := [], harness := (true, "3c7253bec33e9aa69ab3c008274c16da92b93a9561d2ebcbd80af2675b517bd3"), looks := false }, kinds := [], alts := [], laidByText := true, laidKinds := [.data, .data, .data], laidTests := true, laidLooks := .later }
def ReadGuardsUptoCardSaid : Prop := Claim7.holds Tryz.pinned (.plain (OpenSpec.upto readGuardsSpec)) readGuardsUptoCard
end Rows
end Go.Proofs.YtbjghkmjnhmlfaaGreatDoor
