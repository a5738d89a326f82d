/-
  NARROWER THAN 'FOR EVERY INPUT', by the rows' own cells (each row's printed sentence says how): SpanLies: laid · SpanNames: laid · SpanOne: laid · SpanBefore: laid · SpanMeets: laid · SpanOverlaps: laid · SpanStarts: laid · SpanDuring: laid · SpanEnds: laid · SpanEqual: laid · SpanEnded: laid · SpanHolds: laid · SpanStarted: laid · SpanOverlapped: laid · SpanMet: laid · SpanAfter: laid.
  DERIVED. THE GIVEN ROWS OF THIS SEAT. 16 by the template 'for every input the law returns true; each argument reads behind the call as it read before'; 0 by the template 'total and deterministic' (their statements: YtgpjfagkjmnpgaaDoorTotals.lean).
  GIVEN WITH THE SEED: the statements are not yours to turn. If you find one false, say at which input.
  Laid BY PROGRAM, IN A SANDBOX (cutbox-rows.mjs): the forced cells as the released guide's own fill.sh prints them over the translation 22c1f72a4efebf7f… (all of the seat's roots in one cut). By AI agents, Wed Nov 11 2026. No macro, syntax, notation, axiom, sorry.
-/
import Derived.Test.YtgpjfagkjmnpgaaDoorChecked
import GoSem.Claim
import GoSem.ClaimJoined
import GoSem.ClaimMapViews
import Derived.JoinedTies
import Derived.KernelRfl
namespace Go.Proofs.YtgpjfagkjmnpgaaDoor
/- THE CELL 'sum', in the pinned program and in every row, IS THE sha256 OF THE DUMP (.gsa) THAT YtgpjfagkjmnpgaaDoorProg.lean LOADS. Nothing in Lean hashes anything: it is a label: what it is worth is what the hold of that sum in a sandbox is worth. -/
noncomputable def Tryd.pinned : Pinned := { name := "ytgpjfagkjmnpgaadoor", sum := "22c1f72a4efebf7f3ac16e2443543b5de7a4e49599fdddaecb51153afc5f76f4", checked := Tryd.checked }
namespace Rows
def none {H : Type} : Left H := { results := [], args := [] }

/- WHAT THE LISTED PACKAGE-LEVEL VARIABLES READ AS WHEN THE CALL BEGINS. Each datum BY PROGRAM (the guide's laid-datum.mjs) off the statement by which the dump's own 'gosem.cut.vars' lays the variable. In a bare row this is a premise. The card (YtgpjfagkjmnpgaaDoorCards.lean) ties it to the program's text. -/
def laid_almagest_span_asked {H : Type} : DataW H := .agg [.lit (.int .u16 0), .lit (.int .u16 8), .lit (.int .u16 16), .lit (.int .u16 97), .lit (.int .u16 66), .lit (.int .u16 68), .lit (.int .u16 132), .lit (.int .u16 130)]
def laid_almagest_span_names {H : Type} : DataW H := .agg [.lit (.string [98, 101, 102, 111, 114, 101]), .lit (.string [109, 101, 101, 116, 115]), .lit (.string [111, 118, 101, 114, 108, 97, 112, 115]), .lit (.string [115, 116, 97, 114, 116, 115]), .lit (.string [100, 117, 114, 105, 110, 103]), .lit (.string [101, 110, 100, 115]), .lit (.string [101, 113, 117, 97, 108]), .lit (.string [101, 110, 100, 101, 100]), .lit (.string [104, 111, 108, 100, 115]), .lit (.string [115, 116, 97, 114, 116, 101, 100]), .lit (.string [111, 118, 101, 114, 108, 97, 112, 112, 101, 100]), .lit (.string [109, 101, 116]), .lit (.string [97, 102, 116, 101, 114])]

/-- 'almagestlaw7.SpanLies': WHATEVER THE INPUT: true; the input reads as it did. -/
def spanLiesSpec : ChangeSpec := { name := "spanLies", fn := fun _ => fun
  | [d] => { results := [.lit (.bool true)], args := [d] }
  | _ => none }
def spanLiesRow : OpenClaim := { program := "ytgpjfagkjmnpgaadoor", sum := "22c1f72a4efebf7f3ac16e2443543b5de7a4e49599fdddaecb51153afc5f76f4", func := "almagest/almagestlaw7.SpanLies", spec := "spanLies", recurses := true, named := ["almagest/span.asked"], plainKeys := false, apart := false, laid := [("almagest/span.asked", laid_almagest_span_asked)] }
def SpanLiesSaid : Prop := spanLiesRow.holds Tryd.pinned (OpenSpec.ofChange spanLiesSpec)

/-- ITS FALSE NEIGHBOUR: 'it returns false'. Refute it at one input. -/
def spanLiesWrong : ChangeSpec := { name := "spanLies", fn := fun _ => fun
  | [d] => { results := [.lit (.bool false)], args := [d] }
  | _ => none }
def SpanLiesWrongFalsely : Prop := spanLiesRow.holds Tryd.pinned (OpenSpec.ofChange spanLiesWrong)

/-- 'almagestlaw7.SpanNames': WHATEVER THE INPUT: true; the input reads as it did. -/
def spanNamesSpec : ChangeSpec := { name := "spanNames", fn := fun _ => fun
  | [d] => { results := [.lit (.bool true)], args := [d] }
  | _ => none }
def spanNamesRow : OpenClaim := { program := "ytgpjfagkjmnpgaadoor", sum := "22c1f72a4efebf7f3ac16e2443543b5de7a4e49599fdddaecb51153afc5f76f4", func := "almagest/almagestlaw7.SpanNames", spec := "spanNames", recurses := true, named := ["almagest/span.names", "almagest/span.asked"], plainKeys := false, apart := false, laid := [("almagest/span.asked", laid_almagest_span_asked), ("almagest/span.names", laid_almagest_span_names)] }
def SpanNamesSaid : Prop := spanNamesRow.holds Tryd.pinned (OpenSpec.ofChange spanNamesSpec)

/-- ITS FALSE NEIGHBOUR: 'it returns false'. Refute it at one input. -/
def spanNamesWrong : ChangeSpec := { name := "spanNames", fn := fun _ => fun
  | [d] => { results := [.lit (.bool false)], args := [d] }
  | _ => none }
def SpanNamesWrongFalsely : Prop := spanNamesRow.holds Tryd.pinned (OpenSpec.ofChange spanNamesWrong)

/-- 'almagestlaw7.SpanOne': WHATEVER THE INPUT: true; the input reads as it did. -/
def spanOneSpec : ChangeSpec := { name := "spanOne", fn := fun _ => fun
  | [d] => { results := [.lit (.bool true)], args := [d] }
  | _ => none }
def spanOneRow : OpenClaim := { program := "ytgpjfagkjmnpgaadoor", sum := "22c1f72a4efebf7f3ac16e2443543b5de7a4e49599fdddaecb51153afc5f76f4", func := "almagest/almagestlaw7.SpanOne", spec := "spanOne", recurses := true, named := ["almagest/span.asked"], plainKeys := false, apart := false, laid := [("almagest/span.asked", laid_almagest_span_asked)] }
def SpanOneSaid : Prop := spanOneRow.holds Tryd.pinned (OpenSpec.ofChange spanOneSpec)

/-- ITS FALSE NEIGHBOUR: 'it returns false'. Refute it at one input. -/
def spanOneWrong : ChangeSpec := { name := "spanOne", fn := fun _ => fun
  | [d] => { results := [.lit (.bool false)], args := [d] }
  | _ => none }
def SpanOneWrongFalsely : Prop := spanOneRow.holds Tryd.pinned (OpenSpec.ofChange spanOneWrong)

/-- 'almagestlaw7.SpanBefore': WHATEVER THE INPUT: true; the input reads as it did. -/
def spanBeforeSpec : ChangeSpec := { name := "spanBefore", fn := fun _ => fun
  | [d] => { results := [.lit (.bool true)], args := [d] }
  | _ => none }
def spanBeforeRow : OpenClaim := { program := "ytgpjfagkjmnpgaadoor", sum := "22c1f72a4efebf7f3ac16e2443543b5de7a4e49599fdddaecb51153afc5f76f4", func := "almagest/almagestlaw7.SpanBefore", spec := "spanBefore", recurses := true, named := ["almagest/span.asked"], plainKeys := false, apart := false, laid := [("almagest/span.asked", laid_almagest_span_asked)] }
def SpanBeforeSaid : Prop := spanBeforeRow.holds Tryd.pinned (OpenSpec.ofChange spanBeforeSpec)

/-- ITS FALSE NEIGHBOUR: 'it returns false'. Refute it at one input. -/
def spanBeforeWrong : ChangeSpec := { name := "spanBefore", fn := fun _ => fun
  | [d] => { results := [.lit (.bool false)], args := [d] }
  | _ => none }
def SpanBeforeWrongFalsely : Prop := spanBeforeRow.holds Tryd.pinned (OpenSpec.ofChange spanBeforeWrong)

/-- 'almagestlaw7.SpanMeets': WHATEVER THE INPUT: true; the input reads as it did. -/
def spanMeetsSpec : ChangeSpec := { name := "spanMeets", fn := fun _ => fun
  | [d] => { results := [.lit (.bool true)], args := [d] }
  | _ => none }
def spanMeetsRow : OpenClaim := { program := "ytgpjfagkjmnpgaadoor", sum := "22c1f72a4efebf7f3ac16e2443543b5de7a4e49599fdddaecb51153afc5f76f4", func := "almagest/almagestlaw7.SpanMeets", spec := "spanMeets", recurses := true, named := ["almagest/span.asked"], plainKeys := false, apart := false, laid := [("almagest/span.asked", laid_almagest_span_asked)] }
def SpanMeetsSaid : Prop := spanMeetsRow.holds Tryd.pinned (OpenSpec.ofChange spanMeetsSpec)

/-- ITS FALSE NEIGHBOUR: 'it returns false'. Refute it at one input. -/
def spanMeetsWrong : ChangeSpec := { name := "spanMeets", fn := fun _ => fun
  | [d] => { results := [.lit (.bool false)], args := [d] }
  | _ => none }
def SpanMeetsWrongFalsely : Prop := spanMeetsRow.holds Tryd.pinned (OpenSpec.ofChange spanMeetsWrong)

/-- 'almagestlaw7.SpanOverlaps': WHATEVER THE INPUT: true; the input reads as it did. -/
def spanOverlapsSpec : ChangeSpec := { name := "spanOverlaps", fn := fun _ => fun
  | [d] => { results := [.lit (.bool true)], args := [d] }
  | _ => none }
def spanOverlapsRow : OpenClaim := { program := "ytgpjfagkjmnpgaadoor", sum := "22c1f72a4efebf7f3ac16e2443543b5de7a4e49599fdddaecb51153afc5f76f4", func := "almagest/almagestlaw7.SpanOverlaps", spec := "spanOverlaps", recurses := true, named := ["almagest/span.asked"], plainKeys := false, apart := false, laid := [("almagest/span.asked", laid_almagest_span_asked)] }
def SpanOverlapsSaid : Prop := spanOverlapsRow.holds Tryd.pinned (OpenSpec.ofChange spanOverlapsSpec)

/-- ITS FALSE NEIGHBOUR: 'it returns false'. Refute it at one input. -/
def spanOverlapsWrong : ChangeSpec := { name := "spanOverlaps", fn := fun _ => fun
  | [d] => { results := [.lit (.bool false)], args := [d] }
  | _ => none }
def SpanOverlapsWrongFalsely : Prop := spanOverlapsRow.holds Tryd.pinned (OpenSpec.ofChange spanOverlapsWrong)

/-- 'almagestlaw7.SpanStarts': WHATEVER THE INPUT: true; the input reads as it did. -/
def spanStartsSpec : ChangeSpec := { name := "spanStarts", fn := fun _ => fun
  | [d] => { results := [.lit (.bool true)], args := [d] }
  | _ => none }
def spanStartsRow : OpenClaim := { program := "ytgpjfagkjmnpgaadoor", sum := "22c1f72a4efebf7f3ac16e2443543b5de7a4e49599fdddaecb51153afc5f76f4", func := "almagest/almagestlaw7.SpanStarts", spec := "spanStarts", recurses := true, named := ["almagest/span.asked"], plainKeys := false, apart := false, laid := [("almagest/span.asked", laid_almagest_span_asked)] }
def SpanStartsSaid : Prop := spanStartsRow.holds Tryd.pinned (OpenSpec.ofChange spanStartsSpec)

/-- ITS FALSE NEIGHBOUR: 'it returns false'. Refute it at one input. -/
def spanStartsWrong : ChangeSpec := { name := "spanStarts", fn := fun _ => fun
  | [d] => { results := [.lit (.bool false)], args := [d] }
  | _ => none }
def SpanStartsWrongFalsely : Prop := spanStartsRow.holds Tryd.pinned (OpenSpec.ofChange spanStartsWrong)

/-- 'almagestlaw7.SpanDuring': WHATEVER THE INPUT: true; the input reads as it did. -/
def spanDuringSpec : ChangeSpec := { name := "spanDuring", fn := fun _ => fun
  | [d] => { results := [.lit (.bool true)], args := [d] }
  | _ => none }
def spanDuringRow : OpenClaim := { program := "ytgpjfagkjmnpgaadoor", sum := "22c1f72a4efebf7f3ac16e2443543b5de7a4e49599fdddaecb51153afc5f76f4", func := "almagest/almagestlaw7.SpanDuring", spec := "spanDuring", recurses := true, named := ["almagest/span.asked"], plainKeys := false, apart := false, laid := [("almagest/span.asked", laid_almagest_span_asked)] }
def SpanDuringSaid : Prop := spanDuringRow.holds Tryd.pinned (OpenSpec.ofChange spanDuringSpec)

/-- ITS FALSE NEIGHBOUR: 'it returns false'. Refute it at one input. -/
def spanDuringWrong : ChangeSpec := { name := "spanDuring", fn := fun _ => fun
  | [d] => { results := [.lit (.bool false)], args := [d] }
  | _ => none }
def SpanDuringWrongFalsely : Prop := spanDuringRow.holds Tryd.pinned (OpenSpec.ofChange spanDuringWrong)

/-- 'almagestlaw7.SpanEnds': WHATEVER THE INPUT: true; the input reads as it did. -/
def spanEndsSpec : ChangeSpec := { name := "spanEnds", fn := fun _ => fun
  | [d] => { results := [.lit (.bool true)], args := [d] }
  | _ => none }
def spanEndsRow : OpenClaim := { program := "ytgpjfagkjmnpgaadoor", sum := "22c1f72a4efebf7f3ac16e2443543b5de7a4e49599fdddaecb51153afc5f76f4", func := "almagest/almagestlaw7.SpanEnds", spec := "spanEnds", recurses := true, named := ["almagest/span.asked"], plainKeys := false, apart := false, laid := [("almagest/span.asked", laid_almagest_span_asked)] }
def SpanEndsSaid : Prop := spanEndsRow.holds Tryd.pinned (OpenSpec.ofChange spanEndsSpec)

/-- ITS FALSE NEIGHBOUR: 'it returns false'. Refute it at one input. -/
def spanEndsWrong : ChangeSpec := { name := "spanEnds", fn := fun _ => fun
  | [d] => { results := [.lit (.bool false)], args := [d] }
  | _ => none }
def SpanEndsWrongFalsely : Prop := spanEndsRow.holds Tryd.pinned (OpenSpec.ofChange spanEndsWrong)

/-- 'almagestlaw7.SpanEqual': WHATEVER THE INPUT: true; the input reads as it did. -/
def spanEqualSpec : ChangeSpec := { name := "spanEqual", fn := fun _ => fun
  | [d] => { results := [.lit (.bool true)], args := [d] }
  | _ => none }
def spanEqualRow : OpenClaim := { program := "ytgpjfagkjmnpgaadoor", sum := "22c1f72a4efebf7f3ac16e2443543b5de7a4e49599fdddaecb51153afc5f76f4", func := "almagest/almagestlaw7.SpanEqual", spec := "spanEqual", recurses := true, named := ["almagest/span.asked"], plainKeys := false, apart := false, laid := [("almagest/span.asked", laid_almagest_span_asked)] }
def SpanEqualSaid : Prop := spanEqualRow.holds Tryd.pinned (OpenSpec.ofChange spanEqualSpec)

/-- ITS FALSE NEIGHBOUR: 'it returns false'. Refute it at one input. -/
def spanEqualWrong : ChangeSpec := { name := "spanEqual", fn := fun _ => fun
  | [d] => { results := [.lit (.bool false)], args := [d] }
  | _ => none }
def SpanEqualWrongFalsely : Prop := spanEqualRow.holds Tryd.pinned (OpenSpec.ofChange spanEqualWrong)

/-- 'almagestlaw7.SpanEnded': WHATEVER THE INPUT: true; the input reads as it did. -/
def spanEndedSpec : ChangeSpec := { name := "spanEnded", fn := fun _ => fun
  | [d] => { results := [.lit (.bool true)], args := [d] }
  | _ => none }
def spanEndedRow : OpenClaim := { program := "ytgpjfagkjmnpgaadoor", sum := "22c1f72a4efebf7f3ac16e2443543b5de7a4e49599fdddaecb51153afc5f76f4", func := "almagest/almagestlaw7.SpanEnded", spec := "spanEnded", recurses := true, named := ["almagest/span.asked"], plainKeys := false, apart := false, laid := [("almagest/span.asked", laid_almagest_span_asked)] }
def SpanEndedSaid : Prop := spanEndedRow.holds Tryd.pinned (OpenSpec.ofChange spanEndedSpec)

/-- ITS FALSE NEIGHBOUR: 'it returns false'. Refute it at one input. -/
def spanEndedWrong : ChangeSpec := { name := "spanEnded", fn := fun _ => fun
  | [d] => { results := [.lit (.bool false)], args := [d] }
  | _ => none }
def SpanEndedWrongFalsely : Prop := spanEndedRow.holds Tryd.pinned (OpenSpec.ofChange spanEndedWrong)

/-- 'almagestlaw7.SpanHolds': WHATEVER THE INPUT: true; the input reads as it did. -/
def spanHoldsSpec : ChangeSpec := { name := "spanHolds", fn := fun _ => fun
  | [d] => { results := [.lit (.bool true)], args := [d] }
  | _ => none }
def spanHoldsRow : OpenClaim := { program := "ytgpjfagkjmnpgaadoor", sum := "22c1f72a4efebf7f3ac16e2443543b5de7a4e49599fdddaecb51153afc5f76f4", func := "almagest/almagestlaw7.SpanHolds", spec := "spanHolds", recurses := true, named := ["almagest/span.asked"], plainKeys := false, apart := false, laid := [("almagest/span.asked", laid_almagest_span_asked)] }
def SpanHoldsSaid : Prop := spanHoldsRow.holds Tryd.pinned (OpenSpec.ofChange spanHoldsSpec)

/-- ITS FALSE NEIGHBOUR: 'it returns false'. Refute it at one input. -/
def spanHoldsWrong : ChangeSpec := { name := "spanHolds", fn := fun _ => fun
  | [d] => { results := [.lit (.bool false)], args := [d] }
  | _ => none }
def SpanHoldsWrongFalsely : Prop := spanHoldsRow.holds Tryd.pinned (OpenSpec.ofChange spanHoldsWrong)

/-- 'almagestlaw7.SpanStarted': WHATEVER THE INPUT: true; the input reads as it did. -/
def spanStartedSpec : ChangeSpec := { name := "spanStarted", fn := fun _ => fun
  | [d] => { results := [.lit (.bool true)], args := [d] }
  | _ => none }
def spanStartedRow : OpenClaim := { program := "ytgpjfagkjmnpgaadoor", sum := "22c1f72a4efebf7f3ac16e2443543b5de7a4e49599fdddaecb51153afc5f76f4", func := "almagest/almagestlaw7.SpanStarted", spec := "spanStarted", recurses := true, named := ["almagest/span.asked"], plainKeys := false, apart := false, laid := [("almagest/span.asked", laid_almagest_span_asked)] }
def SpanStartedSaid : Prop := spanStartedRow.holds Tryd.pinned (OpenSpec.ofChange spanStartedSpec)

/-- ITS FALSE NEIGHBOUR: 'it returns false'. Refute it at one input. -/
def spanStartedWrong : ChangeSpec := { name := "spanStarted", fn := fun _ => fun
  | [d] => { results := [.lit (.bool false)], args := [d] }
  | _ => none }
def SpanStartedWrongFalsely : Prop := spanStartedRow.holds Tryd.pinned (OpenSpec.ofChange spanStartedWrong)

/-- 'almagestlaw7.SpanOverlapped': WHATEVER THE INPUT: true; the input reads as it did. -/
def spanOverlappedSpec : ChangeSpec := { name := "spanOverlapped", fn := fun _ => fun
  | [d] => { results := [.lit (.bool true)], args := [d] }
  | _ => none }
def spanOverlappedRow : OpenClaim := { program := "ytgpjfagkjmnpgaadoor", sum := "22c1f72a4efebf7f3ac16e2443543b5de7a4e49599fdddaecb51153afc5f76f4", func := "almagest/almagestlaw7.SpanOverlapped", spec := "spanOverlapped", recurses := true, named := ["almagest/span.asked"], plainKeys := false, apart := false, laid := [("almagest/span.asked", laid_almagest_span_asked)] }
def SpanOverlappedSaid : Prop := spanOverlappedRow.holds Tryd.pinned (OpenSpec.ofChange spanOverlappedSpec)

/-- ITS FALSE NEIGHBOUR: 'it returns false'. Refute it at one input. -/
def spanOverlappedWrong : ChangeSpec := { name := "spanOverlapped", fn := fun _ => fun
  | [d] => { results := [.lit (.bool false)], args := [d] }
  | _ => none }
def SpanOverlappedWrongFalsely : Prop := spanOverlappedRow.holds Tryd.pinned (OpenSpec.ofChange spanOverlappedWrong)

/-- 'almagestlaw7.SpanMet': WHATEVER THE INPUT: true; the input reads as it did. -/
def spanMetSpec : ChangeSpec := { name := "spanMet", fn := fun _ => fun
  | [d] => { results := [.lit (.bool true)], args := [d] }
  | _ => none }
def spanMetRow : OpenClaim := { program := "ytgpjfagkjmnpgaadoor", sum := "22c1f72a4efebf7f3ac16e2443543b5de7a4e49599fdddaecb51153afc5f76f4", func := "almagest/almagestlaw7.SpanMet", spec := "spanMet", recurses := true, named := ["almagest/span.asked"], plainKeys := false, apart := false, laid := [("almagest/span.asked", laid_almagest_span_asked)] }
def SpanMetSaid : Prop := spanMetRow.holds Tryd.pinned (OpenSpec.ofChange spanMetSpec)

/-- ITS FALSE NEIGHBOUR: 'it returns false'. Refute it at one input. -/
def spanMetWrong : ChangeSpec := { name := "spanMet", fn := fun _ => fun
  | [d] => { results := [.lit (.bool false)], args := [d] }
  | _ => none }
def SpanMetWrongFalsely : Prop := spanMetRow.holds Tryd.pinned (OpenSpec.ofChange spanMetWrong)

/-- 'almagestlaw7.SpanAfter': WHATEVER THE INPUT: true; the input reads as it did. -/
def spanAfterSpec : ChangeSpec := { name := "spanAfter", fn := fun _ => fun
  | [d] => { results := [.lit (.bool true)], args := [d] }
  | _ => none }
def spanAfterRow : OpenClaim := { program := "ytgpjfagkjmnpgaadoor", sum := "22c1f72a4efebf7f3ac16e2443543b5de7a4e49599fdddaecb51153afc5f76f4", func := "almagest/almagestlaw7.SpanAfter", spec := "spanAfter", recurses := true, named := ["almagest/span.asked"], plainKeys := false, apart := false, laid := [("almagest/span.asked", laid_almagest_span_asked)] }
def SpanAfterSaid : Prop := spanAfterRow.holds Tryd.pinned (OpenSpec.ofChange spanAfterSpec)

/-- ITS FALSE NEIGHBOUR: 'it returns false'. Refute it at one input. -/
def spanAfterWrong : ChangeSpec := { name := "spanAfter", fn := fun _ => fun
  | [d] => { results := [.lit (.bool false)], args := [d] }
  | _ => none }
def SpanAfterWrongFalsely : Prop := spanAfterRow.holds Tryd.pinned (OpenSpec.ofChange spanAfterWrong)

/- THE SECOND FORM. 'bulk': how many values and letters a reading holds, each counted each time it is reached (what is shared counts as often as it is met; a slice's spare places count too). A statement '..UptoSaid' is the law's where the arguments, and the package variables that the reading takes, are together of bulk at most 1048576: NARROWER than '..Said'. Prove '..Said' where nothing that the law and all that it calls make is longer than what came in: it says more and counts as full. Else prove '..UptoSaid'. A law counts once. -/
mutual
def uptoBulk {H : Type} : DataW H → Nat
  | .lit (.string bytes) => bytes.length + 1
  | .lit _ => 1
  | .nil => 1
  | .ptr d => uptoBulk d + 1
  | .slice elems spare => uptoBulkAll elems + uptoBulkAll spare + 1
  | .agg parts => uptoBulkAll parts + 1
  | .iface _ d => uptoBulk d + 1
  | .map entries => uptoBulkEntries entries + 1
  | .held _ => 1
def uptoBulkAll {H : Type} : List (DataW H) → Nat
  | [] => 0
  | d :: r => uptoBulk d + uptoBulkAll r
def uptoBulkEntries {H : Type} : List (Lit × DataW H) → Nat
  | [] => 0
  | x :: r => uptoBulkEntry x + uptoBulkEntries r
def uptoBulkEntry {H : Type} : Lit × DataW H → Nat
  | (.string bytes, d) => bytes.length + uptoBulk d + 1
  | (_, d) => uptoBulk d + 1
 end
def uptoSmall : (H : Type) → List (DataW H) → Bool := fun _ ds => decide (uptoBulkAll ds ≤ 1048576)
def OpenSpec.upto (s : _root_.Go.ChangeSpec) : _root_.Go.OpenSpec := { _root_.Go.OpenSpec.ofChange s with cond := some uptoSmall }

/-- 'almagestlaw7.SpanLies', WHERE WHAT IT READS IS OF BULK AT MOST 1048576: true; the input reads as it did. -/
def spanLiesUptoRow : OpenClaim := { program := "ytgpjfagkjmnpgaadoor", sum := "22c1f72a4efebf7f3ac16e2443543b5de7a4e49599fdddaecb51153afc5f76f4", func := "almagest/almagestlaw7.SpanLies", spec := "spanLies", recurses := true, named := ["almagest/span.asked"], plainKeys := false, apart := false, laid := [("almagest/span.asked", laid_almagest_span_asked)], narrowed := true }
def SpanLiesUptoSaid : Prop := spanLiesUptoRow.holds Tryd.pinned (OpenSpec.upto spanLiesSpec)

/-- 'almagestlaw7.SpanNames', WHERE WHAT IT READS IS OF BULK AT MOST 1048576: true; the input reads as it did. -/
def spanNamesUptoRow : OpenClaim := { program := "ytgpjfagkjmnpgaadoor", sum := "22c1f72a4efebf7f3ac16e2443543b5de7a4e49599fdddaecb51153afc5f76f4", func := "almagest/almagestlaw7.SpanNames", spec := "spanNames", recurses := true, named := ["almagest/span.names", "almagest/span.asked"], plainKeys := false, apart := false, laid := [("almagest/span.asked", laid_almagest_span_asked), ("almagest/span.names", laid_almagest_span_names)], narrowed := true }
def SpanNamesUptoSaid : Prop := spanNamesUptoRow.holds Tryd.pinned (OpenSpec.upto spanNamesSpec)

/-- 'almagestlaw7.SpanOne', WHERE WHAT IT READS IS OF BULK AT MOST 1048576: true; the input reads as it did. -/
def spanOneUptoRow : OpenClaim := { program := "ytgpjfagkjmnpgaadoor", sum := "22c1f72a4efebf7f3ac16e2443543b5de7a4e49599fdddaecb51153afc5f76f4", func := "almagest/almagestlaw7.SpanOne", spec := "spanOne", recurses := true, named := ["almagest/span.asked"], plainKeys := false, apart := false, laid := [("almagest/span.asked", laid_almagest_span_asked)], narrowed := true }
def SpanOneUptoSaid : Prop := spanOneUptoRow.holds Tryd.pinned (OpenSpec.upto spanOneSpec)

/-- 'almagestlaw7.SpanBefore', WHERE WHAT IT READS IS OF BULK AT MOST 1048576: true; the input reads as it did. -/
def spanBeforeUptoRow : OpenClaim := { program := "ytgpjfagkjmnpgaadoor", sum := "22c1f72a4efebf7f3ac16e2443543b5de7a4e49599fdddaecb51153afc5f76f4", func := "almagest/almagestlaw7.SpanBefore", spec := "spanBefore", recurses := true, named := ["almagest/span.asked"], plainKeys := false, apart := false, laid := [("almagest/span.asked", laid_almagest_span_asked)], narrowed := true }
def SpanBeforeUptoSaid : Prop := spanBeforeUptoRow.holds Tryd.pinned (OpenSpec.upto spanBeforeSpec)

/-- 'almagestlaw7.SpanMeets', WHERE WHAT IT READS IS OF BULK AT MOST 1048576: true; the input reads as it did. -/
def spanMeetsUptoRow : OpenClaim := { program := "ytgpjfagkjmnpgaadoor", sum := "22c1f72a4efebf7f3ac16e2443543b5de7a4e49599fdddaecb51153afc5f76f4", func := "almagest/almagestlaw7.SpanMeets", spec := "spanMeets", recurses := true, named := ["almagest/span.asked"], plainKeys := false, apart := false, laid := [("almagest/span.asked", laid_almagest_span_asked)], narrowed := true }
def SpanMeetsUptoSaid : Prop := spanMeetsUptoRow.holds Tryd.pinned (OpenSpec.upto spanMeetsSpec)

/-- 'almagestlaw7.SpanOverlaps', WHERE WHAT IT READS IS OF BULK AT MOST 1048576: true; the input reads as it did. -/
def spanOverlapsUptoRow : OpenClaim := { program := "ytgpjfagkjmnpgaadoor", sum := "22c1f72a4efebf7f3ac16e2443543b5de7a4e49599fdddaecb51153afc5f76f4", func := "almagest/almagestlaw7.SpanOverlaps", spec := "spanOverlaps", recurses := true, named := ["almagest/span.asked"], plainKeys := false, apart := false, laid := [("almagest/span.asked", laid_almagest_span_asked)], narrowed := true }
def SpanOverlapsUptoSaid : Prop := spanOverlapsUptoRow.holds Tryd.pinned (OpenSpec.upto spanOverlapsSpec)

/-- 'almagestlaw7.SpanStarts', WHERE WHAT IT READS IS OF BULK AT MOST 1048576: true; the input reads as it did. -/
def spanStartsUptoRow : OpenClaim := { program := "ytgpjfagkjmnpgaadoor", sum := "22c1f72a4efebf7f3ac16e2443543b5de7a4e49599fdddaecb51153afc5f76f4", func := "almagest/almagestlaw7.SpanStarts", spec := "spanStarts", recurses := true, named := ["almagest/span.asked"], plainKeys := false, apart := false, laid := [("almagest/span.asked", laid_almagest_span_asked)], narrowed := true }
def SpanStartsUptoSaid : Prop := spanStartsUptoRow.holds Tryd.pinned (OpenSpec.upto spanStartsSpec)

/-- 'almagestlaw7.SpanDuring', WHERE WHAT IT READS IS OF BULK AT MOST 1048576: true; the input reads as it did. -/
def spanDuringUptoRow : OpenClaim := { program := "ytgpjfagkjmnpgaadoor", sum := "22c1f72a4efebf7f3ac16e2443543b5de7a4e49599fdddaecb51153afc5f76f4", func := "almagest/almagestlaw7.SpanDuring", spec := "spanDuring", recurses := true, named := ["almagest/span.asked"], plainKeys := false, apart := false, laid := [("almagest/span.asked", laid_almagest_span_asked)], narrowed := true }
def SpanDuringUptoSaid : Prop := spanDuringUptoRow.holds Tryd.pinned (OpenSpec.upto spanDuringSpec)

/-- 'almagestlaw7.SpanEnds', WHERE WHAT IT READS IS OF BULK AT MOST 1048576: true; the input reads as it did. -/
def spanEndsUptoRow : OpenClaim := { program := "ytgpjfagkjmnpgaadoor", sum := "22c1f72a4efebf7f3ac16e2443543b5de7a4e49599fdddaecb51153afc5f76f4", func := "almagest/almagestlaw7.SpanEnds", spec := "spanEnds", recurses := true, named := ["almagest/span.asked"], plainKeys := false, apart := false, laid := [("almagest/span.asked", laid_almagest_span_asked)], narrowed := true }
def SpanEndsUptoSaid : Prop := spanEndsUptoRow.holds Tryd.pinned (OpenSpec.upto spanEndsSpec)

/-- 'almagestlaw7.SpanEqual', WHERE WHAT IT READS IS OF BULK AT MOST 1048576: true; the input reads as it did. -/
def spanEqualUptoRow : OpenClaim := { program := "ytgpjfagkjmnpgaadoor", sum := "22c1f72a4efebf7f3ac16e2443543b5de7a4e49599fdddaecb51153afc5f76f4", func := "almagest/almagestlaw7.SpanEqual", spec := "spanEqual", recurses := true, named := ["almagest/span.asked"], plainKeys := false, apart := false, laid := [("almagest/span.asked", laid_almagest_span_asked)], narrowed := true }
def SpanEqualUptoSaid : Prop := spanEqualUptoRow.holds Tryd.pinned (OpenSpec.upto spanEqualSpec)

/-- 'almagestlaw7.SpanEnded', WHERE WHAT IT READS IS OF BULK AT MOST 1048576: true; the input reads as it did. -/
def spanEndedUptoRow : OpenClaim := { program := "ytgpjfagkjmnpgaadoor", sum := "22c1f72a4efebf7f3ac16e2443543b5de7a4e49599fdddaecb51153afc5f76f4", func := "almagest/almagestlaw7.SpanEnded", spec := "spanEnded", recurses := true, named := ["almagest/span.asked"], plainKeys := false, apart := false, laid := [("almagest/span.asked", laid_almagest_span_asked)], narrowed := true }
def SpanEndedUptoSaid : Prop := spanEndedUptoRow.holds Tryd.pinned (OpenSpec.upto spanEndedSpec)

/-- 'almagestlaw7.SpanHolds', WHERE WHAT IT READS IS OF BULK AT MOST 1048576: true; the input reads as it did. -/
def spanHoldsUptoRow : OpenClaim := { program := "ytgpjfagkjmnpgaadoor", sum := "22c1f72a4efebf7f3ac16e2443543b5de7a4e49599fdddaecb51153afc5f76f4", func := "almagest/almagestlaw7.SpanHolds", spec := "spanHolds", recurses := true, named := ["almagest/span.asked"], plainKeys := false, apart := false, laid := [("almagest/span.asked", laid_almagest_span_asked)], narrowed := true }
def SpanHoldsUptoSaid : Prop := spanHoldsUptoRow.holds Tryd.pinned (OpenSpec.upto spanHoldsSpec)

/-- 'almagestlaw7.SpanStarted', WHERE WHAT IT READS IS OF BULK AT MOST 1048576: true; the input reads as it did. -/
def spanStartedUptoRow : OpenClaim := { program := "ytgpjfagkjmnpgaadoor", sum := "22c1f72a4efebf7f3ac16e2443543b5de7a4e49599fdddaecb51153afc5f76f4", func := "almagest/almagestlaw7.SpanStarted", spec := "spanStarted", recurses := true, named := ["almagest/span.asked"], plainKeys := false, apart := false, laid := [("almagest/span.asked", laid_almagest_span_asked)], narrowed := true }
def SpanStartedUptoSaid : Prop := spanStartedUptoRow.holds Tryd.pinned (OpenSpec.upto spanStartedSpec)

/-- 'almagestlaw7.SpanOverlapped', WHERE WHAT IT READS IS OF BULK AT MOST 1048576: true; the input reads as it did. -/
def spanOverlappedUptoRow : OpenClaim := { program := "ytgpjfagkjmnpgaadoor", sum := "22c1f72a4efebf7f3ac16e2443543b5de7a4e49599fdddaecb51153afc5f76f4", func := "almagest/almagestlaw7.SpanOverlapped", spec := "spanOverlapped", recurses := true, named := ["almagest/span.asked"], plainKeys := false, apart := false, laid := [("almagest/span.asked", laid_almagest_span_asked)], narrowed := true }
def SpanOverlappedUptoSaid : Prop := spanOverlappedUptoRow.holds Tryd.pinned (OpenSpec.upto spanOverlappedSpec)

/-- 'almagestlaw7.SpanMet', WHERE WHAT IT READS IS OF BULK AT MOST 1048576: true; the input reads as it did. -/
def spanMetUptoRow : OpenClaim := { program := "ytgpjfagkjmnpgaadoor", sum := "22c1f72a4efebf7f3ac16e2443543b5de7a4e49599fdddaecb51153afc5f76f4", func := "almagest/almagestlaw7.SpanMet", spec := "spanMet", recurses := true, named := ["almagest/span.asked"], plainKeys := false, apart := false, laid := [("almagest/span.asked", laid_almagest_span_asked)], narrowed := true }
def SpanMetUptoSaid : Prop := spanMetUptoRow.holds Tryd.pinned (OpenSpec.upto spanMetSpec)

/-- 'almagestlaw7.SpanAfter', WHERE WHAT IT READS IS OF BULK AT MOST 1048576: true; the input reads as it did. -/
def spanAfterUptoRow : OpenClaim := { program := "ytgpjfagkjmnpgaadoor", sum := "22c1f72a4efebf7f3ac16e2443543b5de7a4e49599fdddaecb51153afc5f76f4", func := "almagest/almagestlaw7.SpanAfter", spec := "spanAfter", recurses := true, named := ["almagest/span.asked"], plainKeys := false, apart := false, laid := [("almagest/span.asked", laid_almagest_span_asked)], narrowed := true }
def SpanAfterUptoSaid : Prop := spanAfterUptoRow.holds Tryd.pinned (OpenSpec.upto spanAfterSpec)

end Rows
end Go.Proofs.YtgpjfagkjmnpgaaDoor
