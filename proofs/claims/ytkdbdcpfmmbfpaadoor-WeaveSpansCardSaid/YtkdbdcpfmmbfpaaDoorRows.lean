/-
  NARROWER THAN 'FOR EVERY INPUT', by the rows' own cells (each row's printed sentence says how): WeaveSets: laid · WeaveThen: laid · WeaveNet: laid · WeaveSpans: laid · WeaveBefore: laid · WeaveMeets: laid · WeaveOverlaps: laid · WeaveStarts: laid · WeaveDuring: laid · WeaveEnds: laid · WeaveEqual: laid · WeaveEnded: laid · WeaveHolds: laid · WeaveStarted: laid · WeaveOverlapped: laid · WeaveMet: laid · WeaveAfter: laid.
  DERIVED. THE GIVEN ROWS OF THIS SEAT. 17 by the template 'for every input the law returns true; each argument reads behind the call as it read before'; 0 by the template 'total and deterministic' (their statements: YtkdbdcpfmmbfpaaDoorTotals.lean).
  GIVEN WITH THE SEED: the statements are not yours to turn. If you find one false, say at which input.
  Laid BY PROGRAM, IN A SANDBOX (cutbox-rows.mjs): the forced cells as the released guide's own fill.sh prints them over the translation 32521daa6addd368… (all of the seat's roots in one cut). By AI agents, Wed Nov 11 2026. No macro, syntax, notation, axiom, sorry.
-/
import Derived.Test.YtkdbdcpfmmbfpaaDoorChecked
import GoSem.Claim
import GoSem.ClaimJoined
import GoSem.ClaimMapViews
import Derived.JoinedTies
import Derived.KernelRfl
namespace Go.Proofs.YtkdbdcpfmmbfpaaDoor
/- THE CELL 'sum', in the pinned program and in every row, IS THE sha256 OF THE DUMP (.gsa) THAT YtkdbdcpfmmbfpaaDoorProg.lean LOADS. Nothing in Lean hashes anything: it is a label: what it is worth is what the hold of that sum in a sandbox is worth. -/
noncomputable def Tryd.pinned : Pinned := { name := "ytkdbdcpfmmbfpaadoor", sum := "32521daa6addd368c78a3adbebed8f0bac8cc2d284d92b686ac86c75d64235e2", checked := Tryd.checked }
namespace Rows
def none {H : Type} : Left H := { results := [], args := [] }

/- WHAT THE LISTED PACKAGE-LEVEL VARIABLES READ AS WHEN THE CALL BEGINS. Each datum BY PROGRAM (the guide's laid-datum.mjs) off the statement by which the dump's own 'gosem.cut.vars' lays the variable. In a bare row this is a premise. The card (YtkdbdcpfmmbfpaaDoorCards.lean) ties it to the program's text. -/
def laid_almagest_weave_endsOf {H : Type} : DataW H := .agg [.agg [.lit (.int .u8 0), .lit (.int .u8 0)], .agg [.lit (.int .u8 0), .lit (.int .u8 0)], .agg [.lit (.int .u8 0), .lit (.int .u8 1)], .agg [.lit (.int .u8 0), .lit (.int .u8 2)], .agg [.lit (.int .u8 1), .lit (.int .u8 2)], .agg [.lit (.int .u8 2), .lit (.int .u8 2)], .agg [.lit (.int .u8 2), .lit (.int .u8 3)], .agg [.lit (.int .u8 1), .lit (.int .u8 3)], .agg [.lit (.int .u8 0), .lit (.int .u8 3)], .agg [.lit (.int .u8 0), .lit (.int .u8 4)], .agg [.lit (.int .u8 1), .lit (.int .u8 4)], .agg [.lit (.int .u8 2), .lit (.int .u8 4)], .agg [.lit (.int .u8 3), .lit (.int .u8 4)], .agg [.lit (.int .u8 4), .lit (.int .u8 4)]]

/-- 'almagestlaw8.WeaveSets': WHATEVER THE INPUT: true; the input reads as it did. -/
def weaveSetsSpec : ChangeSpec := { name := "weaveSets", fn := fun _ => fun
  | [d] => { results := [.lit (.bool true)], args := [d] }
  | _ => none }
def weaveSetsRow : OpenClaim := { program := "ytkdbdcpfmmbfpaadoor", sum := "32521daa6addd368c78a3adbebed8f0bac8cc2d284d92b686ac86c75d64235e2", func := "almagest/almagestlaw8.WeaveSets", spec := "weaveSets", named := ["almagest/weave.endsOf"], plainKeys := false, apart := false, laid := [("almagest/weave.endsOf", laid_almagest_weave_endsOf)] }
def WeaveSetsSaid : Prop := weaveSetsRow.holds Tryd.pinned (OpenSpec.ofChange weaveSetsSpec)

/-- ITS FALSE NEIGHBOUR: 'it returns false'. Refute it at one input. -/
def weaveSetsWrong : ChangeSpec := { name := "weaveSets", fn := fun _ => fun
  | [d] => { results := [.lit (.bool false)], args := [d] }
  | _ => none }
def WeaveSetsWrongFalsely : Prop := weaveSetsRow.holds Tryd.pinned (OpenSpec.ofChange weaveSetsWrong)

/-- 'almagestlaw8.WeaveThen': WHATEVER THE INPUT: true; the input reads as it did. -/
def weaveThenSpec : ChangeSpec := { name := "weaveThen", fn := fun _ => fun
  | [d] => { results := [.lit (.bool true)], args := [d] }
  | _ => none }
def weaveThenRow : OpenClaim := { program := "ytkdbdcpfmmbfpaadoor", sum := "32521daa6addd368c78a3adbebed8f0bac8cc2d284d92b686ac86c75d64235e2", func := "almagest/almagestlaw8.WeaveThen", spec := "weaveThen", recurses := true, named := ["almagest/weave.endsOf"], plainKeys := false, apart := false, laid := [("almagest/weave.endsOf", laid_almagest_weave_endsOf)] }
def WeaveThenSaid : Prop := weaveThenRow.holds Tryd.pinned (OpenSpec.ofChange weaveThenSpec)

/-- ITS FALSE NEIGHBOUR: 'it returns false'. Refute it at one input. -/
def weaveThenWrong : ChangeSpec := { name := "weaveThen", fn := fun _ => fun
  | [d] => { results := [.lit (.bool false)], args := [d] }
  | _ => none }
def WeaveThenWrongFalsely : Prop := weaveThenRow.holds Tryd.pinned (OpenSpec.ofChange weaveThenWrong)

/-- 'almagestlaw8.WeaveNet': WHATEVER THE INPUT: true; the input reads as it did. -/
def weaveNetSpec : ChangeSpec := { name := "weaveNet", fn := fun _ => fun
  | [d] => { results := [.lit (.bool true)], args := [d] }
  | _ => none }
def weaveNetRow : OpenClaim := { program := "ytkdbdcpfmmbfpaadoor", sum := "32521daa6addd368c78a3adbebed8f0bac8cc2d284d92b686ac86c75d64235e2", func := "almagest/almagestlaw8.WeaveNet", spec := "weaveNet", recurses := true, named := ["almagest/weave.endsOf"], plainKeys := false, apart := false, laid := [("almagest/weave.endsOf", laid_almagest_weave_endsOf)] }
def WeaveNetSaid : Prop := weaveNetRow.holds Tryd.pinned (OpenSpec.ofChange weaveNetSpec)

/-- ITS FALSE NEIGHBOUR: 'it returns false'. Refute it at one input. -/
def weaveNetWrong : ChangeSpec := { name := "weaveNet", fn := fun _ => fun
  | [d] => { results := [.lit (.bool false)], args := [d] }
  | _ => none }
def WeaveNetWrongFalsely : Prop := weaveNetRow.holds Tryd.pinned (OpenSpec.ofChange weaveNetWrong)

/-- 'almagestlaw8.WeaveSpans': WHATEVER THE INPUT: true; the input reads as it did. -/
def weaveSpansSpec : ChangeSpec := { name := "weaveSpans", fn := fun _ => fun
  | [d] => { results := [.lit (.bool true)], args := [d] }
  | _ => none }
def weaveSpansRow : OpenClaim := { program := "ytkdbdcpfmmbfpaadoor", sum := "32521daa6addd368c78a3adbebed8f0bac8cc2d284d92b686ac86c75d64235e2", func := "almagest/almagestlaw8.WeaveSpans", spec := "weaveSpans", recurses := true, named := ["almagest/weave.endsOf"], plainKeys := false, apart := false, laid := [("almagest/weave.endsOf", laid_almagest_weave_endsOf)] }
def WeaveSpansSaid : Prop := weaveSpansRow.holds Tryd.pinned (OpenSpec.ofChange weaveSpansSpec)

/-- ITS FALSE NEIGHBOUR: 'it returns false'. Refute it at one input. -/
def weaveSpansWrong : ChangeSpec := { name := "weaveSpans", fn := fun _ => fun
  | [d] => { results := [.lit (.bool false)], args := [d] }
  | _ => none }
def WeaveSpansWrongFalsely : Prop := weaveSpansRow.holds Tryd.pinned (OpenSpec.ofChange weaveSpansWrong)

/-- 'almagestlaw8.WeaveBefore': WHATEVER THE INPUT: true; the input reads as it did. -/
def weaveBeforeSpec : ChangeSpec := { name := "weaveBefore", fn := fun _ => fun
  | [d] => { results := [.lit (.bool true)], args := [d] }
  | _ => none }
def weaveBeforeRow : OpenClaim := { program := "ytkdbdcpfmmbfpaadoor", sum := "32521daa6addd368c78a3adbebed8f0bac8cc2d284d92b686ac86c75d64235e2", func := "almagest/almagestlaw8.WeaveBefore", spec := "weaveBefore", recurses := true, named := ["almagest/weave.endsOf"], plainKeys := false, apart := false, laid := [("almagest/weave.endsOf", laid_almagest_weave_endsOf)] }
def WeaveBeforeSaid : Prop := weaveBeforeRow.holds Tryd.pinned (OpenSpec.ofChange weaveBeforeSpec)

/-- ITS FALSE NEIGHBOUR: 'it returns false'. Refute it at one input. -/
def weaveBeforeWrong : ChangeSpec := { name := "weaveBefore", fn := fun _ => fun
  | [d] => { results := [.lit (.bool false)], args := [d] }
  | _ => none }
def WeaveBeforeWrongFalsely : Prop := weaveBeforeRow.holds Tryd.pinned (OpenSpec.ofChange weaveBeforeWrong)

/-- 'almagestlaw8.WeaveMeets': WHATEVER THE INPUT: true; the input reads as it did. -/
def weaveMeetsSpec : ChangeSpec := { name := "weaveMeets", fn := fun _ => fun
  | [d] => { results := [.lit (.bool true)], args := [d] }
  | _ => none }
def weaveMeetsRow : OpenClaim := { program := "ytkdbdcpfmmbfpaadoor", sum := "32521daa6addd368c78a3adbebed8f0bac8cc2d284d92b686ac86c75d64235e2", func := "almagest/almagestlaw8.WeaveMeets", spec := "weaveMeets", recurses := true, named := ["almagest/weave.endsOf"], plainKeys := false, apart := false, laid := [("almagest/weave.endsOf", laid_almagest_weave_endsOf)] }
def WeaveMeetsSaid : Prop := weaveMeetsRow.holds Tryd.pinned (OpenSpec.ofChange weaveMeetsSpec)

/-- ITS FALSE NEIGHBOUR: 'it returns false'. Refute it at one input. -/
def weaveMeetsWrong : ChangeSpec := { name := "weaveMeets", fn := fun _ => fun
  | [d] => { results := [.lit (.bool false)], args := [d] }
  | _ => none }
def WeaveMeetsWrongFalsely : Prop := weaveMeetsRow.holds Tryd.pinned (OpenSpec.ofChange weaveMeetsWrong)

/-- 'almagestlaw8.WeaveOverlaps': WHATEVER THE INPUT: true; the input reads as it did. -/
def weaveOverlapsSpec : ChangeSpec := { name := "weaveOverlaps", fn := fun _ => fun
  | [d] => { results := [.lit (.bool true)], args := [d] }
  | _ => none }
def weaveOverlapsRow : OpenClaim := { program := "ytkdbdcpfmmbfpaadoor", sum := "32521daa6addd368c78a3adbebed8f0bac8cc2d284d92b686ac86c75d64235e2", func := "almagest/almagestlaw8.WeaveOverlaps", spec := "weaveOverlaps", recurses := true, named := ["almagest/weave.endsOf"], plainKeys := false, apart := false, laid := [("almagest/weave.endsOf", laid_almagest_weave_endsOf)] }
def WeaveOverlapsSaid : Prop := weaveOverlapsRow.holds Tryd.pinned (OpenSpec.ofChange weaveOverlapsSpec)

/-- ITS FALSE NEIGHBOUR: 'it returns false'. Refute it at one input. -/
def weaveOverlapsWrong : ChangeSpec := { name := "weaveOverlaps", fn := fun _ => fun
  | [d] => { results := [.lit (.bool false)], args := [d] }
  | _ => none }
def WeaveOverlapsWrongFalsely : Prop := weaveOverlapsRow.holds Tryd.pinned (OpenSpec.ofChange weaveOverlapsWrong)

/-- 'almagestlaw8.WeaveStarts': WHATEVER THE INPUT: true; the input reads as it did. -/
def weaveStartsSpec : ChangeSpec := { name := "weaveStarts", fn := fun _ => fun
  | [d] => { results := [.lit (.bool true)], args := [d] }
  | _ => none }
def weaveStartsRow : OpenClaim := { program := "ytkdbdcpfmmbfpaadoor", sum := "32521daa6addd368c78a3adbebed8f0bac8cc2d284d92b686ac86c75d64235e2", func := "almagest/almagestlaw8.WeaveStarts", spec := "weaveStarts", recurses := true, named := ["almagest/weave.endsOf"], plainKeys := false, apart := false, laid := [("almagest/weave.endsOf", laid_almagest_weave_endsOf)] }
def WeaveStartsSaid : Prop := weaveStartsRow.holds Tryd.pinned (OpenSpec.ofChange weaveStartsSpec)

/-- ITS FALSE NEIGHBOUR: 'it returns false'. Refute it at one input. -/
def weaveStartsWrong : ChangeSpec := { name := "weaveStarts", fn := fun _ => fun
  | [d] => { results := [.lit (.bool false)], args := [d] }
  | _ => none }
def WeaveStartsWrongFalsely : Prop := weaveStartsRow.holds Tryd.pinned (OpenSpec.ofChange weaveStartsWrong)

/-- 'almagestlaw8.WeaveDuring': WHATEVER THE INPUT: true; the input reads as it did. -/
def weaveDuringSpec : ChangeSpec := { name := "weaveDuring", fn := fun _ => fun
  | [d] => { results := [.lit (.bool true)], args := [d] }
  | _ => none }
def weaveDuringRow : OpenClaim := { program := "ytkdbdcpfmmbfpaadoor", sum := "32521daa6addd368c78a3adbebed8f0bac8cc2d284d92b686ac86c75d64235e2", func := "almagest/almagestlaw8.WeaveDuring", spec := "weaveDuring", recurses := true, named := ["almagest/weave.endsOf"], plainKeys := false, apart := false, laid := [("almagest/weave.endsOf", laid_almagest_weave_endsOf)] }
def WeaveDuringSaid : Prop := weaveDuringRow.holds Tryd.pinned (OpenSpec.ofChange weaveDuringSpec)

/-- ITS FALSE NEIGHBOUR: 'it returns false'. Refute it at one input. -/
def weaveDuringWrong : ChangeSpec := { name := "weaveDuring", fn := fun _ => fun
  | [d] => { results := [.lit (.bool false)], args := [d] }
  | _ => none }
def WeaveDuringWrongFalsely : Prop := weaveDuringRow.holds Tryd.pinned (OpenSpec.ofChange weaveDuringWrong)

/-- 'almagestlaw8.WeaveEnds': WHATEVER THE INPUT: true; the input reads as it did. -/
def weaveEndsSpec : ChangeSpec := { name := "weaveEnds", fn := fun _ => fun
  | [d] => { results := [.lit (.bool true)], args := [d] }
  | _ => none }
def weaveEndsRow : OpenClaim := { program := "ytkdbdcpfmmbfpaadoor", sum := "32521daa6addd368c78a3adbebed8f0bac8cc2d284d92b686ac86c75d64235e2", func := "almagest/almagestlaw8.WeaveEnds", spec := "weaveEnds", recurses := true, named := ["almagest/weave.endsOf"], plainKeys := false, apart := false, laid := [("almagest/weave.endsOf", laid_almagest_weave_endsOf)] }
def WeaveEndsSaid : Prop := weaveEndsRow.holds Tryd.pinned (OpenSpec.ofChange weaveEndsSpec)

/-- ITS FALSE NEIGHBOUR: 'it returns false'. Refute it at one input. -/
def weaveEndsWrong : ChangeSpec := { name := "weaveEnds", fn := fun _ => fun
  | [d] => { results := [.lit (.bool false)], args := [d] }
  | _ => none }
def WeaveEndsWrongFalsely : Prop := weaveEndsRow.holds Tryd.pinned (OpenSpec.ofChange weaveEndsWrong)

/-- 'almagestlaw8.WeaveEqual': WHATEVER THE INPUT: true; the input reads as it did. -/
def weaveEqualSpec : ChangeSpec := { name := "weaveEqual", fn := fun _ => fun
  | [d] => { results := [.lit (.bool true)], args := [d] }
  | _ => none }
def weaveEqualRow : OpenClaim := { program := "ytkdbdcpfmmbfpaadoor", sum := "32521daa6addd368c78a3adbebed8f0bac8cc2d284d92b686ac86c75d64235e2", func := "almagest/almagestlaw8.WeaveEqual", spec := "weaveEqual", recurses := true, named := ["almagest/weave.endsOf"], plainKeys := false, apart := false, laid := [("almagest/weave.endsOf", laid_almagest_weave_endsOf)] }
def WeaveEqualSaid : Prop := weaveEqualRow.holds Tryd.pinned (OpenSpec.ofChange weaveEqualSpec)

/-- ITS FALSE NEIGHBOUR: 'it returns false'. Refute it at one input. -/
def weaveEqualWrong : ChangeSpec := { name := "weaveEqual", fn := fun _ => fun
  | [d] => { results := [.lit (.bool false)], args := [d] }
  | _ => none }
def WeaveEqualWrongFalsely : Prop := weaveEqualRow.holds Tryd.pinned (OpenSpec.ofChange weaveEqualWrong)

/-- 'almagestlaw8.WeaveEnded': WHATEVER THE INPUT: true; the input reads as it did. -/
def weaveEndedSpec : ChangeSpec := { name := "weaveEnded", fn := fun _ => fun
  | [d] => { results := [.lit (.bool true)], args := [d] }
  | _ => none }
def weaveEndedRow : OpenClaim := { program := "ytkdbdcpfmmbfpaadoor", sum := "32521daa6addd368c78a3adbebed8f0bac8cc2d284d92b686ac86c75d64235e2", func := "almagest/almagestlaw8.WeaveEnded", spec := "weaveEnded", recurses := true, named := ["almagest/weave.endsOf"], plainKeys := false, apart := false, laid := [("almagest/weave.endsOf", laid_almagest_weave_endsOf)] }
def WeaveEndedSaid : Prop := weaveEndedRow.holds Tryd.pinned (OpenSpec.ofChange weaveEndedSpec)

/-- ITS FALSE NEIGHBOUR: 'it returns false'. Refute it at one input. -/
def weaveEndedWrong : ChangeSpec := { name := "weaveEnded", fn := fun _ => fun
  | [d] => { results := [.lit (.bool false)], args := [d] }
  | _ => none }
def WeaveEndedWrongFalsely : Prop := weaveEndedRow.holds Tryd.pinned (OpenSpec.ofChange weaveEndedWrong)

/-- 'almagestlaw8.WeaveHolds': WHATEVER THE INPUT: true; the input reads as it did. -/
def weaveHoldsSpec : ChangeSpec := { name := "weaveHolds", fn := fun _ => fun
  | [d] => { results := [.lit (.bool true)], args := [d] }
  | _ => none }
def weaveHoldsRow : OpenClaim := { program := "ytkdbdcpfmmbfpaadoor", sum := "32521daa6addd368c78a3adbebed8f0bac8cc2d284d92b686ac86c75d64235e2", func := "almagest/almagestlaw8.WeaveHolds", spec := "weaveHolds", recurses := true, named := ["almagest/weave.endsOf"], plainKeys := false, apart := false, laid := [("almagest/weave.endsOf", laid_almagest_weave_endsOf)] }
def WeaveHoldsSaid : Prop := weaveHoldsRow.holds Tryd.pinned (OpenSpec.ofChange weaveHoldsSpec)

/-- ITS FALSE NEIGHBOUR: 'it returns false'. Refute it at one input. -/
def weaveHoldsWrong : ChangeSpec := { name := "weaveHolds", fn := fun _ => fun
  | [d] => { results := [.lit (.bool false)], args := [d] }
  | _ => none }
def WeaveHoldsWrongFalsely : Prop := weaveHoldsRow.holds Tryd.pinned (OpenSpec.ofChange weaveHoldsWrong)

/-- 'almagestlaw8.WeaveStarted': WHATEVER THE INPUT: true; the input reads as it did. -/
def weaveStartedSpec : ChangeSpec := { name := "weaveStarted", fn := fun _ => fun
  | [d] => { results := [.lit (.bool true)], args := [d] }
  | _ => none }
def weaveStartedRow : OpenClaim := { program := "ytkdbdcpfmmbfpaadoor", sum := "32521daa6addd368c78a3adbebed8f0bac8cc2d284d92b686ac86c75d64235e2", func := "almagest/almagestlaw8.WeaveStarted", spec := "weaveStarted", recurses := true, named := ["almagest/weave.endsOf"], plainKeys := false, apart := false, laid := [("almagest/weave.endsOf", laid_almagest_weave_endsOf)] }
def WeaveStartedSaid : Prop := weaveStartedRow.holds Tryd.pinned (OpenSpec.ofChange weaveStartedSpec)

/-- ITS FALSE NEIGHBOUR: 'it returns false'. Refute it at one input. -/
def weaveStartedWrong : ChangeSpec := { name := "weaveStarted", fn := fun _ => fun
  | [d] => { results := [.lit (.bool false)], args := [d] }
  | _ => none }
def WeaveStartedWrongFalsely : Prop := weaveStartedRow.holds Tryd.pinned (OpenSpec.ofChange weaveStartedWrong)

/-- 'almagestlaw8.WeaveOverlapped': WHATEVER THE INPUT: true; the input reads as it did. -/
def weaveOverlappedSpec : ChangeSpec := { name := "weaveOverlapped", fn := fun _ => fun
  | [d] => { results := [.lit (.bool true)], args := [d] }
  | _ => none }
def weaveOverlappedRow : OpenClaim := { program := "ytkdbdcpfmmbfpaadoor", sum := "32521daa6addd368c78a3adbebed8f0bac8cc2d284d92b686ac86c75d64235e2", func := "almagest/almagestlaw8.WeaveOverlapped", spec := "weaveOverlapped", recurses := true, named := ["almagest/weave.endsOf"], plainKeys := false, apart := false, laid := [("almagest/weave.endsOf", laid_almagest_weave_endsOf)] }
def WeaveOverlappedSaid : Prop := weaveOverlappedRow.holds Tryd.pinned (OpenSpec.ofChange weaveOverlappedSpec)

/-- ITS FALSE NEIGHBOUR: 'it returns false'. Refute it at one input. -/
def weaveOverlappedWrong : ChangeSpec := { name := "weaveOverlapped", fn := fun _ => fun
  | [d] => { results := [.lit (.bool false)], args := [d] }
  | _ => none }
def WeaveOverlappedWrongFalsely : Prop := weaveOverlappedRow.holds Tryd.pinned (OpenSpec.ofChange weaveOverlappedWrong)

/-- 'almagestlaw8.WeaveMet': WHATEVER THE INPUT: true; the input reads as it did. -/
def weaveMetSpec : ChangeSpec := { name := "weaveMet", fn := fun _ => fun
  | [d] => { results := [.lit (.bool true)], args := [d] }
  | _ => none }
def weaveMetRow : OpenClaim := { program := "ytkdbdcpfmmbfpaadoor", sum := "32521daa6addd368c78a3adbebed8f0bac8cc2d284d92b686ac86c75d64235e2", func := "almagest/almagestlaw8.WeaveMet", spec := "weaveMet", recurses := true, named := ["almagest/weave.endsOf"], plainKeys := false, apart := false, laid := [("almagest/weave.endsOf", laid_almagest_weave_endsOf)] }
def WeaveMetSaid : Prop := weaveMetRow.holds Tryd.pinned (OpenSpec.ofChange weaveMetSpec)

/-- ITS FALSE NEIGHBOUR: 'it returns false'. Refute it at one input. -/
def weaveMetWrong : ChangeSpec := { name := "weaveMet", fn := fun _ => fun
  | [d] => { results := [.lit (.bool false)], args := [d] }
  | _ => none }
def WeaveMetWrongFalsely : Prop := weaveMetRow.holds Tryd.pinned (OpenSpec.ofChange weaveMetWrong)

/-- 'almagestlaw8.WeaveAfter': WHATEVER THE INPUT: true; the input reads as it did. -/
def weaveAfterSpec : ChangeSpec := { name := "weaveAfter", fn := fun _ => fun
  | [d] => { results := [.lit (.bool true)], args := [d] }
  | _ => none }
def weaveAfterRow : OpenClaim := { program := "ytkdbdcpfmmbfpaadoor", sum := "32521daa6addd368c78a3adbebed8f0bac8cc2d284d92b686ac86c75d64235e2", func := "almagest/almagestlaw8.WeaveAfter", spec := "weaveAfter", recurses := true, named := ["almagest/weave.endsOf"], plainKeys := false, apart := false, laid := [("almagest/weave.endsOf", laid_almagest_weave_endsOf)] }
def WeaveAfterSaid : Prop := weaveAfterRow.holds Tryd.pinned (OpenSpec.ofChange weaveAfterSpec)

/-- ITS FALSE NEIGHBOUR: 'it returns false'. Refute it at one input. -/
def weaveAfterWrong : ChangeSpec := { name := "weaveAfter", fn := fun _ => fun
  | [d] => { results := [.lit (.bool false)], args := [d] }
  | _ => none }
def WeaveAfterWrongFalsely : Prop := weaveAfterRow.holds Tryd.pinned (OpenSpec.ofChange weaveAfterWrong)

/- THE SECOND FORM. 'bulk': how many values and letters a reading holds, each counted each time it is reached (what is shared counts as often as it is met; a slice's spare places count too). A statement '..UptoSaid' is the law's where the arguments, and the package variables that the reading takes, are together of bulk at most 1048576: NARROWER than '..Said'. Prove '..Said' where nothing that the law and all that it calls make is longer than what came in: it says more and counts as full. Else prove '..UptoSaid'. A law counts once. -/
mutual
def uptoBulk {H : Type} : DataW H → Nat
  | .lit (.string bytes) => bytes.length + 1
  | .lit _ => 1
  | .nil => 1
  | .ptr d => uptoBulk d + 1
  | .slice elems spare => uptoBulkAll elems + uptoBulkAll spare + 1
  | .agg parts => uptoBulkAll parts + 1
  | .iface _ d => uptoBulk d + 1
  | .map entries => uptoBulkEntries entries + 1
  | .held _ => 1
def uptoBulkAll {H : Type} : List (DataW H) → Nat
  | [] => 0
  | d :: r => uptoBulk d + uptoBulkAll r
def uptoBulkEntries {H : Type} : List (Lit × DataW H) → Nat
  | [] => 0
  | x :: r => uptoBulkEntry x + uptoBulkEntries r
def uptoBulkEntry {H : Type} : Lit × DataW H → Nat
  | (.string bytes, d) => bytes.length + uptoBulk d + 1
  | (_, d) => uptoBulk d + 1
 end
def uptoSmall : (H : Type) → List (DataW H) → Bool := fun _ ds => decide (uptoBulkAll ds ≤ 1048576)
def OpenSpec.upto (s : _root_.Go.ChangeSpec) : _root_.Go.OpenSpec := { _root_.Go.OpenSpec.ofChange s with cond := some uptoSmall }

/-- 'almagestlaw8.WeaveSets', WHERE WHAT IT READS IS OF BULK AT MOST 1048576: true; the input reads as it did. -/
def weaveSetsUptoRow : OpenClaim := { program := "ytkdbdcpfmmbfpaadoor", sum := "32521daa6addd368c78a3adbebed8f0bac8cc2d284d92b686ac86c75d64235e2", func := "almagest/almagestlaw8.WeaveSets", spec := "weaveSets", named := ["almagest/weave.endsOf"], plainKeys := false, apart := false, laid := [("almagest/weave.endsOf", laid_almagest_weave_endsOf)], narrowed := true }
def WeaveSetsUptoSaid : Prop := weaveSetsUptoRow.holds Tryd.pinned (OpenSpec.upto weaveSetsSpec)

/-- 'almagestlaw8.WeaveThen', WHERE WHAT IT READS IS OF BULK AT MOST 1048576: true; the input reads as it did. -/
def weaveThenUptoRow : OpenClaim := { program := "ytkdbdcpfmmbfpaadoor", sum := "32521daa6addd368c78a3adbebed8f0bac8cc2d284d92b686ac86c75d64235e2", func := "almagest/almagestlaw8.WeaveThen", spec := "weaveThen", recurses := true, named := ["almagest/weave.endsOf"], plainKeys := false, apart := false, laid := [("almagest/weave.endsOf", laid_almagest_weave_endsOf)], narrowed := true }
def WeaveThenUptoSaid : Prop := weaveThenUptoRow.holds Tryd.pinned (OpenSpec.upto weaveThenSpec)

/-- 'almagestlaw8.WeaveNet', WHERE WHAT IT READS IS OF BULK AT MOST 1048576: true; the input reads as it did. -/
def weaveNetUptoRow : OpenClaim := { program := "ytkdbdcpfmmbfpaadoor", sum := "32521daa6addd368c78a3adbebed8f0bac8cc2d284d92b686ac86c75d64235e2", func := "almagest/almagestlaw8.WeaveNet", spec := "weaveNet", recurses := true, named := ["almagest/weave.endsOf"], plainKeys := false, apart := false, laid := [("almagest/weave.endsOf", laid_almagest_weave_endsOf)], narrowed := true }
def WeaveNetUptoSaid : Prop := weaveNetUptoRow.holds Tryd.pinned (OpenSpec.upto weaveNetSpec)

/-- 'almagestlaw8.WeaveSpans', WHERE WHAT IT READS IS OF BULK AT MOST 1048576: true; the input reads as it did. -/
def weaveSpansUptoRow : OpenClaim := { program := "ytkdbdcpfmmbfpaadoor", sum := "32521daa6addd368c78a3adbebed8f0bac8cc2d284d92b686ac86c75d64235e2", func := "almagest/almagestlaw8.WeaveSpans", spec := "weaveSpans", recurses := true, named := ["almagest/weave.endsOf"], plainKeys := false, apart := false, laid := [("almagest/weave.endsOf", laid_almagest_weave_endsOf)], narrowed := true }
def WeaveSpansUptoSaid : Prop := weaveSpansUptoRow.holds Tryd.pinned (OpenSpec.upto weaveSpansSpec)

/-- 'almagestlaw8.WeaveBefore', WHERE WHAT IT READS IS OF BULK AT MOST 1048576: true; the input reads as it did. -/
def weaveBeforeUptoRow : OpenClaim := { program := "ytkdbdcpfmmbfpaadoor", sum := "32521daa6addd368c78a3adbebed8f0bac8cc2d284d92b686ac86c75d64235e2", func := "almagest/almagestlaw8.WeaveBefore", spec := "weaveBefore", recurses := true, named := ["almagest/weave.endsOf"], plainKeys := false, apart := false, laid := [("almagest/weave.endsOf", laid_almagest_weave_endsOf)], narrowed := true }
def WeaveBeforeUptoSaid : Prop := weaveBeforeUptoRow.holds Tryd.pinned (OpenSpec.upto weaveBeforeSpec)

/-- 'almagestlaw8.WeaveMeets', WHERE WHAT IT READS IS OF BULK AT MOST 1048576: true; the input reads as it did. -/
def weaveMeetsUptoRow : OpenClaim := { program := "ytkdbdcpfmmbfpaadoor", sum := "32521daa6addd368c78a3adbebed8f0bac8cc2d284d92b686ac86c75d64235e2", func := "almagest/almagestlaw8.WeaveMeets", spec := "weaveMeets", recurses := true, named := ["almagest/weave.endsOf"], plainKeys := false, apart := false, laid := [("almagest/weave.endsOf", laid_almagest_weave_endsOf)], narrowed := true }
def WeaveMeetsUptoSaid : Prop := weaveMeetsUptoRow.holds Tryd.pinned (OpenSpec.upto weaveMeetsSpec)

/-- 'almagestlaw8.WeaveOverlaps', WHERE WHAT IT READS IS OF BULK AT MOST 1048576: true; the input reads as it did. -/
def weaveOverlapsUptoRow : OpenClaim := { program := "ytkdbdcpfmmbfpaadoor", sum := "32521daa6addd368c78a3adbebed8f0bac8cc2d284d92b686ac86c75d64235e2", func := "almagest/almagestlaw8.WeaveOverlaps", spec := "weaveOverlaps", recurses := true, named := ["almagest/weave.endsOf"], plainKeys := false, apart := false, laid := [("almagest/weave.endsOf", laid_almagest_weave_endsOf)], narrowed := true }
def WeaveOverlapsUptoSaid : Prop := weaveOverlapsUptoRow.holds Tryd.pinned (OpenSpec.upto weaveOverlapsSpec)

/-- 'almagestlaw8.WeaveStarts', WHERE WHAT IT READS IS OF BULK AT MOST 1048576: true; the input reads as it did. -/
def weaveStartsUptoRow : OpenClaim := { program := "ytkdbdcpfmmbfpaadoor", sum := "32521daa6addd368c78a3adbebed8f0bac8cc2d284d92b686ac86c75d64235e2", func := "almagest/almagestlaw8.WeaveStarts", spec := "weaveStarts", recurses := true, named := ["almagest/weave.endsOf"], plainKeys := false, apart := false, laid := [("almagest/weave.endsOf", laid_almagest_weave_endsOf)], narrowed := true }
def WeaveStartsUptoSaid : Prop := weaveStartsUptoRow.holds Tryd.pinned (OpenSpec.upto weaveStartsSpec)

/-- 'almagestlaw8.WeaveDuring', WHERE WHAT IT READS IS OF BULK AT MOST 1048576: true; the input reads as it did. -/
def weaveDuringUptoRow : OpenClaim := { program := "ytkdbdcpfmmbfpaadoor", sum := "32521daa6addd368c78a3adbebed8f0bac8cc2d284d92b686ac86c75d64235e2", func := "almagest/almagestlaw8.WeaveDuring", spec := "weaveDuring", recurses := true, named := ["almagest/weave.endsOf"], plainKeys := false, apart := false, laid := [("almagest/weave.endsOf", laid_almagest_weave_endsOf)], narrowed := true }
def WeaveDuringUptoSaid : Prop := weaveDuringUptoRow.holds Tryd.pinned (OpenSpec.upto weaveDuringSpec)

/-- 'almagestlaw8.WeaveEnds', WHERE WHAT IT READS IS OF BULK AT MOST 1048576: true; the input reads as it did. -/
def weaveEndsUptoRow : OpenClaim := { program := "ytkdbdcpfmmbfpaadoor", sum := "32521daa6addd368c78a3adbebed8f0bac8cc2d284d92b686ac86c75d64235e2", func := "almagest/almagestlaw8.WeaveEnds", spec := "weaveEnds", recurses := true, named := ["almagest/weave.endsOf"], plainKeys := false, apart := false, laid := [("almagest/weave.endsOf", laid_almagest_weave_endsOf)], narrowed := true }
def WeaveEndsUptoSaid : Prop := weaveEndsUptoRow.holds Tryd.pinned (OpenSpec.upto weaveEndsSpec)

/-- 'almagestlaw8.WeaveEqual', WHERE WHAT IT READS IS OF BULK AT MOST 1048576: true; the input reads as it did. -/
def weaveEqualUptoRow : OpenClaim := { program := "ytkdbdcpfmmbfpaadoor", sum := "32521daa6addd368c78a3adbebed8f0bac8cc2d284d92b686ac86c75d64235e2", func := "almagest/almagestlaw8.WeaveEqual", spec := "weaveEqual", recurses := true, named := ["almagest/weave.endsOf"], plainKeys := false, apart := false, laid := [("almagest/weave.endsOf", laid_almagest_weave_endsOf)], narrowed := true }
def WeaveEqualUptoSaid : Prop := weaveEqualUptoRow.holds Tryd.pinned (OpenSpec.upto weaveEqualSpec)

/-- 'almagestlaw8.WeaveEnded', WHERE WHAT IT READS IS OF BULK AT MOST 1048576: true; the input reads as it did. -/
def weaveEndedUptoRow : OpenClaim := { program := "ytkdbdcpfmmbfpaadoor", sum := "32521daa6addd368c78a3adbebed8f0bac8cc2d284d92b686ac86c75d64235e2", func := "almagest/almagestlaw8.WeaveEnded", spec := "weaveEnded", recurses := true, named := ["almagest/weave.endsOf"], plainKeys := false, apart := false, laid := [("almagest/weave.endsOf", laid_almagest_weave_endsOf)], narrowed := true }
def WeaveEndedUptoSaid : Prop := weaveEndedUptoRow.holds Tryd.pinned (OpenSpec.upto weaveEndedSpec)

/-- 'almagestlaw8.WeaveHolds', WHERE WHAT IT READS IS OF BULK AT MOST 1048576: true; the input reads as it did. -/
def weaveHoldsUptoRow : OpenClaim := { program := "ytkdbdcpfmmbfpaadoor", sum := "32521daa6addd368c78a3adbebed8f0bac8cc2d284d92b686ac86c75d64235e2", func := "almagest/almagestlaw8.WeaveHolds", spec := "weaveHolds", recurses := true, named := ["almagest/weave.endsOf"], plainKeys := false, apart := false, laid := [("almagest/weave.endsOf", laid_almagest_weave_endsOf)], narrowed := true }
def WeaveHoldsUptoSaid : Prop := weaveHoldsUptoRow.holds Tryd.pinned (OpenSpec.upto weaveHoldsSpec)

/-- 'almagestlaw8.WeaveStarted', WHERE WHAT IT READS IS OF BULK AT MOST 1048576: true; the input reads as it did. -/
def weaveStartedUptoRow : OpenClaim := { program := "ytkdbdcpfmmbfpaadoor", sum := "32521daa6addd368c78a3adbebed8f0bac8cc2d284d92b686ac86c75d64235e2", func := "almagest/almagestlaw8.WeaveStarted", spec := "weaveStarted", recurses := true, named := ["almagest/weave.endsOf"], plainKeys := false, apart := false, laid := [("almagest/weave.endsOf", laid_almagest_weave_endsOf)], narrowed := true }
def WeaveStartedUptoSaid : Prop := weaveStartedUptoRow.holds Tryd.pinned (OpenSpec.upto weaveStartedSpec)

/-- 'almagestlaw8.WeaveOverlapped', WHERE WHAT IT READS IS OF BULK AT MOST 1048576: true; the input reads as it did. -/
def weaveOverlappedUptoRow : OpenClaim := { program := "ytkdbdcpfmmbfpaadoor", sum := "32521daa6addd368c78a3adbebed8f0bac8cc2d284d92b686ac86c75d64235e2", func := "almagest/almagestlaw8.WeaveOverlapped", spec := "weaveOverlapped", recurses := true, named := ["almagest/weave.endsOf"], plainKeys := false, apart := false, laid := [("almagest/weave.endsOf", laid_almagest_weave_endsOf)], narrowed := true }
def WeaveOverlappedUptoSaid : Prop := weaveOverlappedUptoRow.holds Tryd.pinned (OpenSpec.upto weaveOverlappedSpec)

/-- 'almagestlaw8.WeaveMet', WHERE WHAT IT READS IS OF BULK AT MOST 1048576: true; the input reads as it did. -/
def weaveMetUptoRow : OpenClaim := { program := "ytkdbdcpfmmbfpaadoor", sum := "32521daa6addd368c78a3adbebed8f0bac8cc2d284d92b686ac86c75d64235e2", func := "almagest/almagestlaw8.WeaveMet", spec := "weaveMet", recurses := true, named := ["almagest/weave.endsOf"], plainKeys := false, apart := false, laid := [("almagest/weave.endsOf", laid_almagest_weave_endsOf)], narrowed := true }
def WeaveMetUptoSaid : Prop := weaveMetUptoRow.holds Tryd.pinned (OpenSpec.upto weaveMetSpec)

/-- 'almagestlaw8.WeaveAfter', WHERE WHAT IT READS IS OF BULK AT MOST 1048576: true; the input reads as it did. -/
def weaveAfterUptoRow : OpenClaim := { program := "ytkdbdcpfmmbfpaadoor", sum := "32521daa6addd368c78a3adbebed8f0bac8cc2d284d92b686ac86c75d64235e2", func := "almagest/almagestlaw8.WeaveAfter", spec := "weaveAfter", recurses := true, named := ["almagest/weave.endsOf"], plainKeys := false, apart := false, laid := [("almagest/weave.endsOf", laid_almagest_weave_endsOf)], narrowed := true }
def WeaveAfterUptoSaid : Prop := weaveAfterUptoRow.holds Tryd.pinned (OpenSpec.upto weaveAfterSpec)

end Rows
end Go.Proofs.YtkdbdcpfmmbfpaaDoor
