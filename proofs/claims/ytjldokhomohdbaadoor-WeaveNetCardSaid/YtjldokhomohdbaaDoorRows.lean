/-
  NARROWER THAN 'FOR EVERY INPUT', by the rows' own cells (each row's printed sentence says how): WeaveSets: laid · WeaveThen: laid · WeaveNet: laid · WeaveSpans: laid.
  DERIVED. THE GIVEN ROWS OF THIS SEAT. 4 by the template 'for every input the law returns true; each argument reads behind the call as it read before'; 0 by the template 'total and deterministic' (their statements: YtjldokhomohdbaaDoorTotals.lean).
  GIVEN WITH THE SEED: the statements are not yours to turn. If you find one false, say at which input.
  Laid BY PROGRAM, IN A SANDBOX (cutbox-rows.mjs): the forced cells as the released guide's own fill.sh prints them over the translation 4b8c93400eac2037… (all of the seat's roots in one cut). By AI agents, Wed Nov 11 2026. No macro, syntax, notation, axiom, sorry.
-/
import Derived.Test.YtjldokhomohdbaaDoorChecked
import GoSem.Claim
import GoSem.ClaimJoined
import GoSem.ClaimMapViews
import Derived.JoinedTies
import Derived.KernelRfl
namespace Go.Proofs.YtjldokhomohdbaaDoor
/- THE CELL 'sum', in the pinned program and in every row, IS THE sha256 OF THE DUMP (.gsa) THAT YtjldokhomohdbaaDoorProg.lean LOADS. Nothing in Lean hashes anything: it is a label: what it is worth is what the hold of that sum in a sandbox is worth. -/
noncomputable def Tryd.pinned : Pinned := { name := "ytjldokhomohdbaadoor", sum := "4b8c93400eac203726295ed10a36e5ede68d485e347af00e9d93a94d7e369668", checked := Tryd.checked }
namespace Rows
def none {H : Type} : Left H := { results := [], args := [] }

/- WHAT THE LISTED PACKAGE-LEVEL VARIABLES READ AS WHEN THE CALL BEGINS. Each datum BY PROGRAM (the guide's laid-datum.mjs) off the statement by which the dump's own 'gosem.cut.vars' lays the variable. In a bare row this is a premise. The card (YtjldokhomohdbaaDoorCards.lean) ties it to the program's text. -/
def laid_almagest_weave_endsOf {H : Type} : DataW H := .agg [.agg [.lit (.int .u8 0), .lit (.int .u8 0)], .agg [.lit (.int .u8 0), .lit (.int .u8 0)], .agg [.lit (.int .u8 0), .lit (.int .u8 1)], .agg [.lit (.int .u8 0), .lit (.int .u8 2)], .agg [.lit (.int .u8 1), .lit (.int .u8 2)], .agg [.lit (.int .u8 2), .lit (.int .u8 2)], .agg [.lit (.int .u8 2), .lit (.int .u8 3)], .agg [.lit (.int .u8 1), .lit (.int .u8 3)], .agg [.lit (.int .u8 0), .lit (.int .u8 3)], .agg [.lit (.int .u8 0), .lit (.int .u8 4)], .agg [.lit (.int .u8 1), .lit (.int .u8 4)], .agg [.lit (.int .u8 2), .lit (.int .u8 4)], .agg [.lit (.int .u8 3), .lit (.int .u8 4)], .agg [.lit (.int .u8 4), .lit (.int .u8 4)]]

/-- 'almagestlaw8.WeaveSets': WHATEVER THE INPUT: true; the input reads as it did. -/
def weaveSetsSpec : ChangeSpec := { name := "weaveSets", fn := fun _ => fun
  | [d] => { results := [.lit (.bool true)], args := [d] }
  | _ => none }
def weaveSetsRow : OpenClaim := { program := "ytjldokhomohdbaadoor", sum := "4b8c93400eac203726295ed10a36e5ede68d485e347af00e9d93a94d7e369668", func := "almagest/almagestlaw8.WeaveSets", spec := "weaveSets", named := ["almagest/weave.endsOf"], plainKeys := false, apart := false, laid := [("almagest/weave.endsOf", laid_almagest_weave_endsOf)] }
def WeaveSetsSaid : Prop := weaveSetsRow.holds Tryd.pinned (OpenSpec.ofChange weaveSetsSpec)

/-- ITS FALSE NEIGHBOUR: 'it returns false'. Refute it at one input. -/
def weaveSetsWrong : ChangeSpec := { name := "weaveSets", fn := fun _ => fun
  | [d] => { results := [.lit (.bool false)], args := [d] }
  | _ => none }
def WeaveSetsWrongFalsely : Prop := weaveSetsRow.holds Tryd.pinned (OpenSpec.ofChange weaveSetsWrong)

/-- 'almagestlaw8.WeaveThen': WHATEVER THE INPUT: true; the input reads as it did. -/
def weaveThenSpec : ChangeSpec := { name := "weaveThen", fn := fun _ => fun
  | [d] => { results := [.lit (.bool true)], args := [d] }
  | _ => none }
def weaveThenRow : OpenClaim := { program := "ytjldokhomohdbaadoor", sum := "4b8c93400eac203726295ed10a36e5ede68d485e347af00e9d93a94d7e369668", func := "almagest/almagestlaw8.WeaveThen", spec := "weaveThen", recurses := true, named := ["almagest/weave.endsOf"], plainKeys := false, apart := false, laid := [("almagest/weave.endsOf", laid_almagest_weave_endsOf)] }
def WeaveThenSaid : Prop := weaveThenRow.holds Tryd.pinned (OpenSpec.ofChange weaveThenSpec)

/-- ITS FALSE NEIGHBOUR: 'it returns false'. Refute it at one input. -/
def weaveThenWrong : ChangeSpec := { name := "weaveThen", fn := fun _ => fun
  | [d] => { results := [.lit (.bool false)], args := [d] }
  | _ => none }
def WeaveThenWrongFalsely : Prop := weaveThenRow.holds Tryd.pinned (OpenSpec.ofChange weaveThenWrong)

/-- 'almagestlaw8.WeaveNet': WHATEVER THE INPUT: true; the input reads as it did. -/
def weaveNetSpec : ChangeSpec := { name := "weaveNet", fn := fun _ => fun
  | [d] => { results := [.lit (.bool true)], args := [d] }
  | _ => none }
def weaveNetRow : OpenClaim := { program := "ytjldokhomohdbaadoor", sum := "4b8c93400eac203726295ed10a36e5ede68d485e347af00e9d93a94d7e369668", func := "almagest/almagestlaw8.WeaveNet", spec := "weaveNet", recurses := true, named := ["almagest/weave.endsOf"], plainKeys := false, apart := false, laid := [("almagest/weave.endsOf", laid_almagest_weave_endsOf)] }
def WeaveNetSaid : Prop := weaveNetRow.holds Tryd.pinned (OpenSpec.ofChange weaveNetSpec)

/-- ITS FALSE NEIGHBOUR: 'it returns false'. Refute it at one input. -/
def weaveNetWrong : ChangeSpec := { name := "weaveNet", fn := fun _ => fun
  | [d] => { results := [.lit (.bool false)], args := [d] }
  | _ => none }
def WeaveNetWrongFalsely : Prop := weaveNetRow.holds Tryd.pinned (OpenSpec.ofChange weaveNetWrong)

/-- 'almagestlaw8.WeaveSpans': WHATEVER THE INPUT: true; the input reads as it did. -/
def weaveSpansSpec : ChangeSpec := { name := "weaveSpans", fn := fun _ => fun
  | [d] => { results := [.lit (.bool true)], args := [d] }
  | _ => none }
def weaveSpansRow : OpenClaim := { program := "ytjldokhomohdbaadoor", sum := "4b8c93400eac203726295ed10a36e5ede68d485e347af00e9d93a94d7e369668", func := "almagest/almagestlaw8.WeaveSpans", spec := "weaveSpans", recurses := true, named := ["almagest/weave.endsOf"], plainKeys := false, apart := false, laid := [("almagest/weave.endsOf", laid_almagest_weave_endsOf)] }
def WeaveSpansSaid : Prop := weaveSpansRow.holds Tryd.pinned (OpenSpec.ofChange weaveSpansSpec)

/-- ITS FALSE NEIGHBOUR: 'it returns false'. Refute it at one input. -/
def weaveSpansWrong : ChangeSpec := { name := "weaveSpans", fn := fun _ => fun
  | [d] => { results := [.lit (.bool false)], args := [d] }
  | _ => none }
def WeaveSpansWrongFalsely : Prop := weaveSpansRow.holds Tryd.pinned (OpenSpec.ofChange weaveSpansWrong)

/- THE SECOND FORM. 'bulk': how many values and letters a reading holds, each counted each time it is reached (what is shared counts as often as it is met; a slice's spare places count too). A statement '..UptoSaid' is the law's where the arguments, and the package variables that the reading takes, are together of bulk at most 1048576: NARROWER than '..Said'. Prove '..Said' where nothing that the law and all that it calls make is longer than what came in: it says more and counts as full. Else prove '..UptoSaid'. A law counts once. -/
mutual
def uptoBulk {H : Type} : DataW H → Nat
  | .lit (.string bytes) => bytes.length + 1
  | .lit _ => 1
  | .nil => 1
  | .ptr d => uptoBulk d + 1
  | .slice elems spare => uptoBulkAll elems + uptoBulkAll spare + 1
  | .agg parts => uptoBulkAll parts + 1
  | .iface _ d => uptoBulk d + 1
  | .map entries => uptoBulkEntries entries + 1
  | .held _ => 1
def uptoBulkAll {H : Type} : List (DataW H) → Nat
  | [] => 0
  | d :: r => uptoBulk d + uptoBulkAll r
def uptoBulkEntries {H : Type} : List (Lit × DataW H) → Nat
  | [] => 0
  | x :: r => uptoBulkEntry x + uptoBulkEntries r
def uptoBulkEntry {H : Type} : Lit × DataW H → Nat
  | (.string bytes, d) => bytes.length + uptoBulk d + 1
  | (_, d) => uptoBulk d + 1
 end
def uptoSmall : (H : Type) → List (DataW H) → Bool := fun _ ds => decide (uptoBulkAll ds ≤ 1048576)
def OpenSpec.upto (s : _root_.Go.ChangeSpec) : _root_.Go.OpenSpec := { _root_.Go.OpenSpec.ofChange s with cond := some uptoSmall }

/-- 'almagestlaw8.WeaveSets', WHERE WHAT IT READS IS OF BULK AT MOST 1048576: true; the input reads as it did. -/
def weaveSetsUptoRow : OpenClaim := { program := "ytjldokhomohdbaadoor", sum := "4b8c93400eac203726295ed10a36e5ede68d485e347af00e9d93a94d7e369668", func := "almagest/almagestlaw8.WeaveSets", spec := "weaveSets", named := ["almagest/weave.endsOf"], plainKeys := false, apart := false, laid := [("almagest/weave.endsOf", laid_almagest_weave_endsOf)], narrowed := true }
def WeaveSetsUptoSaid : Prop := weaveSetsUptoRow.holds Tryd.pinned (OpenSpec.upto weaveSetsSpec)

/-- 'almagestlaw8.WeaveThen', WHERE WHAT IT READS IS OF BULK AT MOST 1048576: true; the input reads as it did. -/
def weaveThenUptoRow : OpenClaim := { program := "ytjldokhomohdbaadoor", sum := "4b8c93400eac203726295ed10a36e5ede68d485e347af00e9d93a94d7e369668", func := "almagest/almagestlaw8.WeaveThen", spec := "weaveThen", recurses := true, named := ["almagest/weave.endsOf"], plainKeys := false, apart := false, laid := [("almagest/weave.endsOf", laid_almagest_weave_endsOf)], narrowed := true }
def WeaveThenUptoSaid : Prop := weaveThenUptoRow.holds Tryd.pinned (OpenSpec.upto weaveThenSpec)

/-- 'almagestlaw8.WeaveNet', WHERE WHAT IT READS IS OF BULK AT MOST 1048576: true; the input reads as it did. -/
def weaveNetUptoRow : OpenClaim := { program := "ytjldokhomohdbaadoor", sum := "4b8c93400eac203726295ed10a36e5ede68d485e347af00e9d93a94d7e369668", func := "almagest/almagestlaw8.WeaveNet", spec := "weaveNet", recurses := true, named := ["almagest/weave.endsOf"], plainKeys := false, apart := false, laid := [("almagest/weave.endsOf", laid_almagest_weave_endsOf)], narrowed := true }
def WeaveNetUptoSaid : Prop := weaveNetUptoRow.holds Tryd.pinned (OpenSpec.upto weaveNetSpec)

/-- 'almagestlaw8.WeaveSpans', WHERE WHAT IT READS IS OF BULK AT MOST 1048576: true; the input reads as it did. -/
def weaveSpansUptoRow : OpenClaim := { program := "ytjldokhomohdbaadoor", sum := "4b8c93400eac203726295ed10a36e5ede68d485e347af00e9d93a94d7e369668", func := "almagest/almagestlaw8.WeaveSpans", spec := "weaveSpans", recurses := true, named := ["almagest/weave.endsOf"], plainKeys := false, apart := false, laid := [("almagest/weave.endsOf", laid_almagest_weave_endsOf)], narrowed := true }
def WeaveSpansUptoSaid : Prop := weaveSpansUptoRow.holds Tryd.pinned (OpenSpec.upto weaveSpansSpec)

end Rows
end Go.Proofs.YtjldokhomohdbaaDoor
