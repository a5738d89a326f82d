/-
  NARROWER THAN 'FOR EVERY INPUT', by the rows' own cells (each row's printed sentence says how): ReadPrograms: laid · ReadLimits: laid · ReadGuards: laid.
  DERIVED. THE GIVEN ROWS OF THIS SEAT. 3 by the template 'for every input the law returns true; each argument reads behind the call as it read before'; 0 by the template 'total and deterministic' (their statements: YtbjghkmjnhmlfaaGreatDoorTotals.lean).
  GIVEN WITH THE SEED: the statements are not yours to turn. If you find one false, say at which input.
  Laid BY PROGRAM, IN A SANDBOX (cutbox-rows.mjs): the forced cells as the released guide's own fill.sh prints them over the translation 7d9b88e2b0db347f… (all of the seat's roots in one cut). By AI agents, Wed Nov 11 2026. No macro, syntax, notation, axiom, sorry.
-/
import Derived.Test.YtbjghkmjnhmlfaaGreatDoorChecked
import GoSem.Claim
import GoSem.ClaimJoined
import GoSem.ClaimMapViews
import Derived.JoinedTies
import Derived.KernelRfl
namespace Go.Proofs.YtbjghkmjnhmlfaaGreatDoor
/- THE CELL 'sum', in the pinned program and in every row, IS THE sha256 OF THE DUMP (.gsa) THAT YtbjghkmjnhmlfaaGreatDoorProg.lean LOADS. Nothing in Lean hashes anything: it is a label: what it is worth is what the hold of that sum in a sandbox is worth. -/
noncomputable def Tryz.pinned : Pinned := { name := "ytbjghkmjnhmlfaagreatdoor", sum := "7d9b88e2b0db347f31de4a00eea094d033da9375348644369335196f08381141", checked := Tryz.checked }
namespace Rows
def none {H : Type} : Left H := { results := [], args := [] }

/- WHAT THE LISTED PACKAGE-LEVEL VARIABLES READ AS WHEN THE CALL BEGINS. Each datum BY PROGRAM (the guide's laid-datum.mjs) off the statement by which the dump's own 'gosem.cut.vars' lays the variable. In a bare row this is a premise. The card (YtbjghkmjnhmlfaaGreatDoorCards.lean) ties it to the program's text. -/
def laid_math_bits_deBruijn64tab {H : Type} : DataW H := .agg [.lit (.int .u8 0), .lit (.int .u8 1), .lit (.int .u8 56), .lit (.int .u8 2), .lit (.int .u8 57), .lit (.int .u8 49), .lit (.int .u8 28), .lit (.int .u8 3), .lit (.int .u8 61), .lit (.int .u8 58), .lit (.int .u8 42), .lit (.int .u8 50), .lit (.int .u8 38), .lit (.int .u8 29), .lit (.int .u8 17), .lit (.int .u8 4), .lit (.int .u8 62), .lit (.int .u8 47), .lit (.int .u8 59), .lit (.int .u8 36), .lit (.int .u8 45), .lit (.int .u8 43), .lit (.int .u8 51), .lit (.int .u8 22), .lit (.int .u8 53), .lit (.int .u8 39), .lit (.int .u8 33), .lit (.int .u8 30), .lit (.int .u8 24), .lit (.int .u8 18), .lit (.int .u8 12), .lit (.int .u8 5), .lit (.int .u8 63), .lit (.int .u8 55), .lit (.int .u8 48), .lit (.int .u8 27), .lit (.int .u8 60), .lit (.int .u8 41), .lit (.int .u8 37), .lit (.int .u8 16), .lit (.int .u8 46), .lit (.int .u8 35), .lit (.int .u8 44), .lit (.int .u8 21), .lit (.int .u8 52), .lit (.int .u8 32), .lit (.int .u8 23), .lit (.int .u8 11), .lit (.int .u8 54), .lit (.int .u8 26), .lit (.int .u8 40), .lit (.int .u8 15), .lit (.int .u8 34), .lit (.int .u8 20), .lit (.int .u8 31), .lit (.int .u8 10), .lit (.int .u8 25), .lit (.int .u8 14), .lit (.int .u8 19), .lit (.int .u8 9), .lit (.int .u8 13), .lit (.int .u8 8), .lit (.int .u8 7), .lit (.int .u8 6)]
def laid_almagest_lex_classes {H : Type} : DataW H := .agg [.agg [.lit (.int .u64 4294977024), .lit (.int .u64 0), .lit (.int .u64 0), .lit (.int .u64 0)], .agg [.lit (.int .u64 0), .lit (.int .u64 576460743713488896), .lit (.int .u64 0), .lit (.int .u64 0)], .agg [.lit (.int .u64 0), .lit (.int .u64 134217726), .lit (.int .u64 0), .lit (.int .u64 0)], .agg [.lit (.int .u64 287948901175001088), .lit (.int .u64 0), .lit (.int .u64 0), .lit (.int .u64 0)], .agg [.lit (.int .u64 287948901175001088), .lit (.int .u64 576460745995190270), .lit (.int .u64 0), .lit (.int .u64 0)], .agg [.lit (.int .u64 18446744073709550591), .lit (.int .u64 18446744073709551615), .lit (.int .u64 18446744073709551615), .lit (.int .u64 18446744073709551615)]]
def laid_almagest_read_texts {H : Type} : DataW H := .agg [.lit (.string [40]), .lit (.string [41]), .lit (.string [44]), .lit (.string [46]), .lit (.string [59]), .lit (.string [38]), .lit (.string [124]), .lit (.string [64]), .lit (.string [92, 43]), .lit (.string [58, 45]), .lit (.string [60, 45]), .lit (.string [60]), .lit (.string [61, 60]), .lit (.string [61]), .lit (.string [92, 61]), .lit (.string [107, 110, 111, 119, 110]), .lit (.string [117, 110, 107, 110, 111, 119, 110]), .lit (.string [114, 101, 99, 101, 110, 116]), .lit (.string [102, 105, 114, 115, 116]), .lit (.string [119, 105, 116, 104, 105, 110]), .lit (.string [119, 104, 101, 114, 101]), .lit (.string [98, 101, 102, 111, 114, 101]), .lit (.string [109, 101, 101, 116, 115]), .lit (.string [111, 118, 101, 114, 108, 97, 112, 115]), .lit (.string [115, 116, 97, 114, 116, 115]), .lit (.string [100, 117, 114, 105, 110, 103]), .lit (.string [101, 110, 100, 115]), .lit (.string [101, 113, 117, 97, 108]), .lit (.string [101, 110, 100, 101, 100]), .lit (.string [104, 111, 108, 100, 115]), .lit (.string [115, 116, 97, 114, 116, 101, 100]), .lit (.string [111, 118, 101, 114, 108, 97, 112, 112, 101, 100]), .lit (.string [109, 101, 116]), .lit (.string [97, 102, 116, 101, 114])]

/-- 'almagestlaw5.ReadPrograms': WHATEVER THE INPUT: true; the input reads as it did. -/
def readProgramsSpec : ChangeSpec := { name := "readPrograms", fn := fun _ => fun
  | [d] => { results := [.lit (.bool true)], args := [d] }
  | _ => none }
def readProgramsRow : OpenClaim := { program := "ytbjghkmjnhmlfaagreatdoor", sum := "7d9b88e2b0db347f31de4a00eea094d033da9375348644369335196f08381141", func := "almagest/almagestlaw5.ReadPrograms", spec := "readPrograms", unfollowed := true, recurses := true, named := ["almagest/lex.classes", "almagest/read.texts", "math/bits.deBruijn64tab"], plainKeys := false, apart := false, laid := [("math/bits.deBruijn64tab", laid_math_bits_deBruijn64tab), ("almagest/lex.classes", laid_almagest_lex_classes), ("almagest/read.texts", laid_almagest_read_texts)] }
def ReadProgramsSaid : Prop := readProgramsRow.holds Tryz.pinned (OpenSpec.ofChange readProgramsSpec)

/-- ITS FALSE NEIGHBOUR: 'it returns false'. Refute it at one input. -/
def readProgramsWrong : ChangeSpec := { name := "readPrograms", fn := fun _ => fun
  | [d] => { results := [.lit (.bool false)], args := [d] }
  | _ => none }
def ReadProgramsWrongFalsely : Prop := readProgramsRow.holds Tryz.pinned (OpenSpec.ofChange readProgramsWrong)

/-- 'almagestlaw5.ReadLimits': WHATEVER THE INPUT: true; the input reads as it did. -/
def readLimitsSpec : ChangeSpec := { name := "readLimits", fn := fun _ => fun
  | [d] => { results := [.lit (.bool true)], args := [d] }
  | _ => none }
def readLimitsRow : OpenClaim := { program := "ytbjghkmjnhmlfaagreatdoor", sum := "7d9b88e2b0db347f31de4a00eea094d033da9375348644369335196f08381141", func := "almagest/almagestlaw5.ReadLimits", spec := "readLimits", unfollowed := true, recurses := true, named := ["almagest/lex.classes", "almagest/read.texts", "math/bits.deBruijn64tab"], plainKeys := false, apart := false, laid := [("math/bits.deBruijn64tab", laid_math_bits_deBruijn64tab), ("almagest/lex.classes", laid_almagest_lex_classes), ("almagest/read.texts", laid_almagest_read_texts)] }
def ReadLimitsSaid : Prop := readLimitsRow.holds Tryz.pinned (OpenSpec.ofChange readLimitsSpec)

/-- ITS FALSE NEIGHBOUR: 'it returns false'. Refute it at one input. -/
def readLimitsWrong : ChangeSpec := { name := "readLimits", fn := fun _ => fun
  | [d] => { results := [.lit (.bool false)], args := [d] }
  | _ => none }
def ReadLimitsWrongFalsely : Prop := readLimitsRow.holds Tryz.pinned (OpenSpec.ofChange readLimitsWrong)

/-- 'almagestlaw5.ReadGuards': WHATEVER THE INPUT: true; the input reads as it did. -/
def readGuardsSpec : ChangeSpec := { name := "readGuards", fn := fun _ => fun
  | [d] => { results := [.lit (.bool true)], args := [d] }
  | _ => none }
def readGuardsRow : OpenClaim := { program := "ytbjghkmjnhmlfaagreatdoor", sum := "7d9b88e2b0db347f31de4a00eea094d033da9375348644369335196f08381141", func := "almagest/almagestlaw5.ReadGuards", spec := "readGuards", unfollowed := true, recurses := true, named := ["almagest/lex.classes", "almagest/read.texts", "math/bits.deBruijn64tab"], plainKeys := false, apart := false, laid := [("math/bits.deBruijn64tab", laid_math_bits_deBruijn64tab), ("almagest/lex.classes", laid_almagest_lex_classes), ("almagest/read.texts", laid_almagest_read_texts)] }
def ReadGuardsSaid : Prop := readGuardsRow.holds Tryz.pinned (OpenSpec.ofChange readGuardsSpec)

/-- ITS FALSE NEIGHBOUR: 'it returns false'. Refute it at one input. -/
def readGuardsWrong : ChangeSpec := { name := "readGuards", fn := fun _ => fun
  | [d] => { results := [.lit (.bool false)], args := [d] }
  | _ => none }
def ReadGuardsWrongFalsely : Prop := readGuardsRow.holds Tryz.pinned (OpenSpec.ofChange readGuardsWrong)

/- THE SECOND FORM. 'bulk': how many values and letters a reading holds, each counted each time it is reached (what is shared counts as often as it is met; a slice's spare places count too). A statement '..UptoSaid' is the law's where the arguments, and the package variables that the reading takes, are together of bulk at most 1048576: NARROWER than '..Said'. Prove '..Said' where nothing that the law and all that it calls make is longer than what came in: it says more and counts as full. Else prove '..UptoSaid'. A law counts once. -/
mutual
def uptoBulk {H : Type} : DataW H → Nat
  | .lit (.string bytes) => bytes.length + 1
  | .lit _ => 1
  | .nil => 1
  | .ptr d => uptoBulk d + 1
  | .slice elems spare => uptoBulkAll elems + uptoBulkAll spare + 1
  | .agg parts => uptoBulkAll parts + 1
  | .iface _ d => uptoBulk d + 1
  | .map entries => uptoBulkEntries entries + 1
  | .held _ => 1
def uptoBulkAll {H : Type} : List (DataW H) → Nat
  | [] => 0
  | d :: r => uptoBulk d + uptoBulkAll r
def uptoBulkEntries {H : Type} : List (Lit × DataW H) → Nat
  | [] => 0
  | x :: r => uptoBulkEntry x + uptoBulkEntries r
def uptoBulkEntry {H : Type} : Lit × DataW H → Nat
  | (.string bytes, d) => bytes.length + uptoBulk d + 1
  | (_, d) => uptoBulk d + 1
 end
def uptoSmall : (H : Type) → List (DataW H) → Bool := fun _ ds => decide (uptoBulkAll ds ≤ 1048576)
def OpenSpec.upto (s : _root_.Go.ChangeSpec) : _root_.Go.OpenSpec := { _root_.Go.OpenSpec.ofChange s with cond := some uptoSmall }

/-- 'almagestlaw5.ReadPrograms', WHERE WHAT IT READS IS OF BULK AT MOST 1048576: true; the input reads as it did. -/
def readProgramsUptoRow : OpenClaim := { program := "ytbjghkmjnhmlfaagreatdoor", sum := "7d9b88e2b0db347f31de4a00eea094d033da9375348644369335196f08381141", func := "almagest/almagestlaw5.ReadPrograms", spec := "readPrograms", unfollowed := true, recurses := true, named := ["almagest/lex.classes", "almagest/read.texts", "math/bits.deBruijn64tab"], plainKeys := false, apart := false, laid := [("math/bits.deBruijn64tab", laid_math_bits_deBruijn64tab), ("almagest/lex.classes", laid_almagest_lex_classes), ("almagest/read.texts", laid_almagest_read_texts)], narrowed := true }
def ReadProgramsUptoSaid : Prop := readProgramsUptoRow.holds Tryz.pinned (OpenSpec.upto readProgramsSpec)

/-- 'almagestlaw5.ReadLimits', WHERE WHAT IT READS IS OF BULK AT MOST 1048576: true; the input reads as it did. -/
def readLimitsUptoRow : OpenClaim := { program := "ytbjghkmjnhmlfaagreatdoor", sum := "7d9b88e2b0db347f31de4a00eea094d033da9375348644369335196f08381141", func := "almagest/almagestlaw5.ReadLimits", spec := "readLimits", unfollowed := true, recurses := true, named := ["almagest/lex.classes", "almagest/read.texts", "math/bits.deBruijn64tab"], plainKeys := false, apart := false, laid := [("math/bits.deBruijn64tab", laid_math_bits_deBruijn64tab), ("almagest/lex.classes", laid_almagest_lex_classes), ("almagest/read.texts", laid_almagest_read_texts)], narrowed := true }
def ReadLimitsUptoSaid : Prop := readLimitsUptoRow.holds Tryz.pinned (OpenSpec.upto readLimitsSpec)

/-- 'almagestlaw5.ReadGuards', WHERE WHAT IT READS IS OF BULK AT MOST 1048576: true; the input reads as it did. -/
def readGuardsUptoRow : OpenClaim := { program := "ytbjghkmjnhmlfaagreatdoor", sum := "7d9b88e2b0db347f31de4a00eea094d033da9375348644369335196f08381141", func := "almagest/almagestlaw5.ReadGuards", spec := "readGuards", unfollowed := true, recurses := true, named := ["almagest/lex.classes", "almagest/read.texts", "math/bits.deBruijn64tab"], plainKeys := false, apart := false, laid := [("math/bits.deBruijn64tab", laid_math_bits_deBruijn64tab), ("almagest/lex.classes", laid_almagest_lex_classes), ("almagest/read.texts", laid_almagest_read_texts)], narrowed := true }
def ReadGuardsUptoSaid : Prop := readGuardsUptoRow.holds Tryz.pinned (OpenSpec.upto readGuardsSpec)

end Rows
end Go.Proofs.YtbjghkmjnhmlfaaGreatDoor
