/-
  NARROWER THAN 'FOR EVERY INPUT', by the rows' own cells (each row's printed sentence says how): TermTells: loops · TermOrders: loops · TermTotal: loops · BindSets: loops · BindJoins: loops · BindTwice: loops · UnifyAlike: loops · UnifyOccurs: loops · UnifyDeep: loops.
  DERIVED. THE GIVEN ROWS OF THIS SEAT. 9 by the template 'for every input the law returns true; each argument reads behind the call as it read before'; 0 by the template 'total and deterministic' (their statements: YtjmfjeeddnmoaaaTotals.lean).
  GIVEN WITH THE SEED: the statements are not yours to turn. If you find one false, say at which input.
  Laid BY PROGRAM, IN A SANDBOX (cutbox-rows.mjs): the forced cells as the released guide's own fill.sh prints them over the translation 545f8d9898385e6b… (all of the seat's roots in one cut). By AI agents, Wed Nov 11 2026. No macro, syntax, notation, axiom, sorry.
-/
import Derived.Test.YtjmfjeeddnmoaaaChecked
import GoSem.Claim
import GoSem.ClaimJoined
import GoSem.ClaimMapViews
import Derived.JoinedTies
import Derived.KernelRfl
namespace Go.Proofs.Ytjmfjeeddnmoaaa
/- THE CELL 'sum', in the pinned program and in every row, IS THE sha256 OF THE DUMP (.gsa) THAT YtjmfjeeddnmoaaaProg.lean LOADS. Nothing in Lean hashes anything: it is a label: what it is worth is what the hold of that sum in a sandbox is worth. -/
noncomputable def Try.pinned : Pinned := { name := "ytjmfjeeddnmoaaa", sum := "545f8d9898385e6bbdd347ff57d4c5813c4b38eff84ef482150f83b859591ade", checked := Try.checked }
namespace Rows
def none {H : Type} : Left H := { results := [], args := [] }

/-- 'almagestlaw1.TermTells': WHATEVER THE INPUT: true; the input reads as it did. -/
def termTellsSpec : ChangeSpec := { name := "termTells", fn := fun _ => fun
  | [d] => { results := [.lit (.bool true)], args := [d] }
  | _ => none }
def termTellsRow : OpenClaim := { program := "ytjmfjeeddnmoaaa", sum := "545f8d9898385e6bbdd347ff57d4c5813c4b38eff84ef482150f83b859591ade", func := "almagest/almagestlaw1.TermTells", spec := "termTells", unfollowed := true, recurses := true, loops := true, plainKeys := false, apart := false }
def TermTellsSaid : Prop := termTellsRow.holds Try.pinned (OpenSpec.ofChange termTellsSpec)

/-- ITS FALSE NEIGHBOUR: 'it returns false'. Refute it at one input. -/
def termTellsWrong : ChangeSpec := { name := "termTells", fn := fun _ => fun
  | [d] => { results := [.lit (.bool false)], args := [d] }
  | _ => none }
def TermTellsWrongFalsely : Prop := termTellsRow.holds Try.pinned (OpenSpec.ofChange termTellsWrong)

/-- 'almagestlaw1.TermOrders': WHATEVER THE INPUT: true; the input reads as it did. -/
def termOrdersSpec : ChangeSpec := { name := "termOrders", fn := fun _ => fun
  | [d] => { results := [.lit (.bool true)], args := [d] }
  | _ => none }
def termOrdersRow : OpenClaim := { program := "ytjmfjeeddnmoaaa", sum := "545f8d9898385e6bbdd347ff57d4c5813c4b38eff84ef482150f83b859591ade", func := "almagest/almagestlaw1.TermOrders", spec := "termOrders", unfollowed := true, recurses := true, loops := true, plainKeys := false, apart := false }
def TermOrdersSaid : Prop := termOrdersRow.holds Try.pinned (OpenSpec.ofChange termOrdersSpec)

/-- ITS FALSE NEIGHBOUR: 'it returns false'. Refute it at one input. -/
def termOrdersWrong : ChangeSpec := { name := "termOrders", fn := fun _ => fun
  | [d] => { results := [.lit (.bool false)], args := [d] }
  | _ => none }
def TermOrdersWrongFalsely : Prop := termOrdersRow.holds Try.pinned (OpenSpec.ofChange termOrdersWrong)

/-- 'almagestlaw1.TermTotal': WHATEVER THE INPUT: true; the input reads as it did. -/
def termTotalSpec : ChangeSpec := { name := "termTotal", fn := fun _ => fun
  | [d] => { results := [.lit (.bool true)], args := [d] }
  | _ => none }
def termTotalRow : OpenClaim := { program := "ytjmfjeeddnmoaaa", sum := "545f8d9898385e6bbdd347ff57d4c5813c4b38eff84ef482150f83b859591ade", func := "almagest/almagestlaw1.TermTotal", spec := "termTotal", unfollowed := true, recurses := true, loops := true, plainKeys := false, apart := false }
def TermTotalSaid : Prop := termTotalRow.holds Try.pinned (OpenSpec.ofChange termTotalSpec)

/-- ITS FALSE NEIGHBOUR: 'it returns false'. Refute it at one input. -/
def termTotalWrong : ChangeSpec := { name := "termTotal", fn := fun _ => fun
  | [d] => { results := [.lit (.bool false)], args := [d] }
  | _ => none }
def TermTotalWrongFalsely : Prop := termTotalRow.holds Try.pinned (OpenSpec.ofChange termTotalWrong)

/-- 'almagestlaw2.BindSets': WHATEVER THE INPUT: true; the input reads as it did. -/
def bindSetsSpec : ChangeSpec := { name := "bindSets", fn := fun _ => fun
  | [d] => { results := [.lit (.bool true)], args := [d] }
  | _ => none }
def bindSetsRow : OpenClaim := { program := "ytjmfjeeddnmoaaa", sum := "545f8d9898385e6bbdd347ff57d4c5813c4b38eff84ef482150f83b859591ade", func := "almagest/almagestlaw2.BindSets", spec := "bindSets", inPlace := ["internal/bytealg.abigen_runtime_cmpstring", "slices.overlaps[almagest/api.Bind]"], unfollowed := true, recurses := true, loops := true, plainKeys := false, apart := false }
def BindSetsSaid : Prop := bindSetsRow.holds Try.pinned (OpenSpec.ofChange bindSetsSpec)

/-- ITS FALSE NEIGHBOUR: 'it returns false'. Refute it at one input. -/
def bindSetsWrong : ChangeSpec := { name := "bindSets", fn := fun _ => fun
  | [d] => { results := [.lit (.bool false)], args := [d] }
  | _ => none }
def BindSetsWrongFalsely : Prop := bindSetsRow.holds Try.pinned (OpenSpec.ofChange bindSetsWrong)

/-- 'almagestlaw2.BindJoins': WHATEVER THE INPUT: true; the input reads as it did. -/
def bindJoinsSpec : ChangeSpec := { name := "bindJoins", fn := fun _ => fun
  | [d] => { results := [.lit (.bool true)], args := [d] }
  | _ => none }
def bindJoinsRow : OpenClaim := { program := "ytjmfjeeddnmoaaa", sum := "545f8d9898385e6bbdd347ff57d4c5813c4b38eff84ef482150f83b859591ade", func := "almagest/almagestlaw2.BindJoins", spec := "bindJoins", inPlace := ["internal/bytealg.abigen_runtime_cmpstring", "slices.overlaps[almagest/api.Bind]"], unfollowed := true, recurses := true, loops := true, plainKeys := false, apart := false }
def BindJoinsSaid : Prop := bindJoinsRow.holds Try.pinned (OpenSpec.ofChange bindJoinsSpec)

/-- ITS FALSE NEIGHBOUR: 'it returns false'. Refute it at one input. -/
def bindJoinsWrong : ChangeSpec := { name := "bindJoins", fn := fun _ => fun
  | [d] => { results := [.lit (.bool false)], args := [d] }
  | _ => none }
def BindJoinsWrongFalsely : Prop := bindJoinsRow.holds Try.pinned (OpenSpec.ofChange bindJoinsWrong)

/-- 'almagestlaw2.BindTwice': WHATEVER THE INPUT: true; the input reads as it did. -/
def bindTwiceSpec : ChangeSpec := { name := "bindTwice", fn := fun _ => fun
  | [d] => { results := [.lit (.bool true)], args := [d] }
  | _ => none }
def bindTwiceRow : OpenClaim := { program := "ytjmfjeeddnmoaaa", sum := "545f8d9898385e6bbdd347ff57d4c5813c4b38eff84ef482150f83b859591ade", func := "almagest/almagestlaw2.BindTwice", spec := "bindTwice", inPlace := ["internal/bytealg.abigen_runtime_cmpstring", "slices.overlaps[almagest/api.Bind]"], unfollowed := true, recurses := true, loops := true, plainKeys := false, apart := false }
def BindTwiceSaid : Prop := bindTwiceRow.holds Try.pinned (OpenSpec.ofChange bindTwiceSpec)

/-- ITS FALSE NEIGHBOUR: 'it returns false'. Refute it at one input. -/
def bindTwiceWrong : ChangeSpec := { name := "bindTwice", fn := fun _ => fun
  | [d] => { results := [.lit (.bool false)], args := [d] }
  | _ => none }
def BindTwiceWrongFalsely : Prop := bindTwiceRow.holds Try.pinned (OpenSpec.ofChange bindTwiceWrong)

/-- 'almagestlaw3.UnifyAlike': WHATEVER THE INPUT: true; the input reads as it did. -/
def unifyAlikeSpec : ChangeSpec := { name := "unifyAlike", fn := fun _ => fun
  | [d] => { results := [.lit (.bool true)], args := [d] }
  | _ => none }
def unifyAlikeRow : OpenClaim := { program := "ytjmfjeeddnmoaaa", sum := "545f8d9898385e6bbdd347ff57d4c5813c4b38eff84ef482150f83b859591ade", func := "almagest/almagestlaw3.UnifyAlike", spec := "unifyAlike", inPlace := ["internal/bytealg.abigen_runtime_cmpstring", "slices.overlaps[almagest/api.Bind]"], unfollowed := true, recurses := true, loops := true, plainKeys := false, apart := false }
def UnifyAlikeSaid : Prop := unifyAlikeRow.holds Try.pinned (OpenSpec.ofChange unifyAlikeSpec)

/-- ITS FALSE NEIGHBOUR: 'it returns false'. Refute it at one input. -/
def unifyAlikeWrong : ChangeSpec := { name := "unifyAlike", fn := fun _ => fun
  | [d] => { results := [.lit (.bool false)], args := [d] }
  | _ => none }
def UnifyAlikeWrongFalsely : Prop := unifyAlikeRow.holds Try.pinned (OpenSpec.ofChange unifyAlikeWrong)

/-- 'almagestlaw3.UnifyOccurs': WHATEVER THE INPUT: true; the input reads as it did. -/
def unifyOccursSpec : ChangeSpec := { name := "unifyOccurs", fn := fun _ => fun
  | [d] => { results := [.lit (.bool true)], args := [d] }
  | _ => none }
def unifyOccursRow : OpenClaim := { program := "ytjmfjeeddnmoaaa", sum := "545f8d9898385e6bbdd347ff57d4c5813c4b38eff84ef482150f83b859591ade", func := "almagest/almagestlaw3.UnifyOccurs", spec := "unifyOccurs", inPlace := ["internal/bytealg.abigen_runtime_cmpstring", "slices.overlaps[almagest/api.Bind]"], unfollowed := true, recurses := true, loops := true, plainKeys := false, apart := false }
def UnifyOccursSaid : Prop := unifyOccursRow.holds Try.pinned (OpenSpec.ofChange unifyOccursSpec)

/-- ITS FALSE NEIGHBOUR: 'it returns false'. Refute it at one input. -/
def unifyOccursWrong : ChangeSpec := { name := "unifyOccurs", fn := fun _ => fun
  | [d] => { results := [.lit (.bool false)], args := [d] }
  | _ => none }
def UnifyOccursWrongFalsely : Prop := unifyOccursRow.holds Try.pinned (OpenSpec.ofChange unifyOccursWrong)

/-- 'almagestlaw3.UnifyDeep': WHATEVER THE INPUT: true; the input reads as it did. -/
def unifyDeepSpec : ChangeSpec := { name := "unifyDeep", fn := fun _ => fun
  | [d] => { results := [.lit (.bool true)], args := [d] }
  | _ => none }
def unifyDeepRow : OpenClaim := { program := "ytjmfjeeddnmoaaa", sum := "545f8d9898385e6bbdd347ff57d4c5813c4b38eff84ef482150f83b859591ade", func := "almagest/almagestlaw3.UnifyDeep", spec := "unifyDeep", inPlace := ["internal/bytealg.abigen_runtime_cmpstring", "slices.overlaps[almagest/api.Bind]"], unfollowed := true, recurses := true, loops := true, plainKeys := false, apart := false }
def UnifyDeepSaid : Prop := unifyDeepRow.holds Try.pinned (OpenSpec.ofChange unifyDeepSpec)

/-- ITS FALSE NEIGHBOUR: 'it returns false'. Refute it at one input. -/
def unifyDeepWrong : ChangeSpec := { name := "unifyDeep", fn := fun _ => fun
  | [d] => { results := [.lit (.bool false)], args := [d] }
  | _ => none }
def UnifyDeepWrongFalsely : Prop := unifyDeepRow.holds Try.pinned (OpenSpec.ofChange unifyDeepWrong)

/- THE SECOND FORM. 'bulk': how many values and letters a reading holds, each counted each time it is reached (what is shared counts as often as it is met; a slice's spare places count too). A statement '..UptoSaid' is the law's where the arguments, and the package variables that the reading takes, are together of bulk at most 1048576: NARROWER than '..Said'. Prove '..Said' where nothing that the law and all that it calls make is longer than what came in: it says more and counts as full. Else prove '..UptoSaid'. A law counts once. -/
mutual
def uptoBulk {H : Type} : DataW H → Nat
  | .lit (.string bytes) => bytes.length + 1
  | .lit _ => 1
  | .nil => 1
  | .ptr d => uptoBulk d + 1
  | .slice elems spare => uptoBulkAll elems + uptoBulkAll spare + 1
  | .agg parts => uptoBulkAll parts + 1
  | .iface _ d => uptoBulk d + 1
  | .map entries => uptoBulkEntries entries + 1
  | .held _ => 1
def uptoBulkAll {H : Type} : List (DataW H) → Nat
  | [] => 0
  | d :: r => uptoBulk d + uptoBulkAll r
def uptoBulkEntries {H : Type} : List (Lit × DataW H) → Nat
  | [] => 0
  | x :: r => uptoBulkEntry x + uptoBulkEntries r
def uptoBulkEntry {H : Type} : Lit × DataW H → Nat
  | (.string bytes, d) => bytes.length + uptoBulk d + 1
  | (_, d) => uptoBulk d + 1
 end
def uptoSmall : (H : Type) → List (DataW H) → Bool := fun _ ds => decide (uptoBulkAll ds ≤ 1048576)
def OpenSpec.upto (s : _root_.Go.ChangeSpec) : _root_.Go.OpenSpec := { _root_.Go.OpenSpec.ofChange s with cond := some uptoSmall }

/-- 'almagestlaw1.TermTells', WHERE WHAT IT READS IS OF BULK AT MOST 1048576: true; the input reads as it did. -/
def termTellsUptoRow : OpenClaim := { program := "ytjmfjeeddnmoaaa", sum := "545f8d9898385e6bbdd347ff57d4c5813c4b38eff84ef482150f83b859591ade", func := "almagest/almagestlaw1.TermTells", spec := "termTells", unfollowed := true, recurses := true, loops := true, plainKeys := false, apart := false, narrowed := true }
def TermTellsUptoSaid : Prop := termTellsUptoRow.holds Try.pinned (OpenSpec.upto termTellsSpec)

/-- 'almagestlaw1.TermOrders', WHERE WHAT IT READS IS OF BULK AT MOST 1048576: true; the input reads as it did. -/
def termOrdersUptoRow : OpenClaim := { program := "ytjmfjeeddnmoaaa", sum := "545f8d9898385e6bbdd347ff57d4c5813c4b38eff84ef482150f83b859591ade", func := "almagest/almagestlaw1.TermOrders", spec := "termOrders", unfollowed := true, recurses := true, loops := true, plainKeys := false, apart := false, narrowed := true }
def TermOrdersUptoSaid : Prop := termOrdersUptoRow.holds Try.pinned (OpenSpec.upto termOrdersSpec)

/-- 'almagestlaw1.TermTotal', WHERE WHAT IT READS IS OF BULK AT MOST 1048576: true; the input reads as it did. -/
def termTotalUptoRow : OpenClaim := { program := "ytjmfjeeddnmoaaa", sum := "545f8d9898385e6bbdd347ff57d4c5813c4b38eff84ef482150f83b859591ade", func := "almagest/almagestlaw1.TermTotal", spec := "termTotal", unfollowed := true, recurses := true, loops := true, plainKeys := false, apart := false, narrowed := true }
def TermTotalUptoSaid : Prop := termTotalUptoRow.holds Try.pinned (OpenSpec.upto termTotalSpec)

/-- 'almagestlaw2.BindSets', WHERE WHAT IT READS IS OF BULK AT MOST 1048576: true; the input reads as it did. -/
def bindSetsUptoRow : OpenClaim := { program := "ytjmfjeeddnmoaaa", sum := "545f8d9898385e6bbdd347ff57d4c5813c4b38eff84ef482150f83b859591ade", func := "almagest/almagestlaw2.BindSets", spec := "bindSets", inPlace := ["internal/bytealg.abigen_runtime_cmpstring", "slices.overlaps[almagest/api.Bind]"], unfollowed := true, recurses := true, loops := true, plainKeys := false, apart := false, narrowed := true }
def BindSetsUptoSaid : Prop := bindSetsUptoRow.holds Try.pinned (OpenSpec.upto bindSetsSpec)

/-- 'almagestlaw2.BindJoins', WHERE WHAT IT READS IS OF BULK AT MOST 1048576: true; the input reads as it did. -/
def bindJoinsUptoRow : OpenClaim := { program := "ytjmfjeeddnmoaaa", sum := "545f8d9898385e6bbdd347ff57d4c5813c4b38eff84ef482150f83b859591ade", func := "almagest/almagestlaw2.BindJoins", spec := "bindJoins", inPlace := ["internal/bytealg.abigen_runtime_cmpstring", "slices.overlaps[almagest/api.Bind]"], unfollowed := true, recurses := true, loops := true, plainKeys := false, apart := false, narrowed := true }
def BindJoinsUptoSaid : Prop := bindJoinsUptoRow.holds Try.pinned (OpenSpec.upto bindJoinsSpec)

/-- 'almagestlaw2.BindTwice', WHERE WHAT IT READS IS OF BULK AT MOST 1048576: true; the input reads as it did. -/
def bindTwiceUptoRow : OpenClaim := { program := "ytjmfjeeddnmoaaa", sum := "545f8d9898385e6bbdd347ff57d4c5813c4b38eff84ef482150f83b859591ade", func := "almagest/almagestlaw2.BindTwice", spec := "bindTwice", inPlace := ["internal/bytealg.abigen_runtime_cmpstring", "slices.overlaps[almagest/api.Bind]"], unfollowed := true, recurses := true, loops := true, plainKeys := false, apart := false, narrowed := true }
def BindTwiceUptoSaid : Prop := bindTwiceUptoRow.holds Try.pinned (OpenSpec.upto bindTwiceSpec)

/-- 'almagestlaw3.UnifyAlike', WHERE WHAT IT READS IS OF BULK AT MOST 1048576: true; the input reads as it did. -/
def unifyAlikeUptoRow : OpenClaim := { program := "ytjmfjeeddnmoaaa", sum := "545f8d9898385e6bbdd347ff57d4c5813c4b38eff84ef482150f83b859591ade", func := "almagest/almagestlaw3.UnifyAlike", spec := "unifyAlike", inPlace := ["internal/bytealg.abigen_runtime_cmpstring", "slices.overlaps[almagest/api.Bind]"], unfollowed := true, recurses := true, loops := true, plainKeys := false, apart := false, narrowed := true }
def UnifyAlikeUptoSaid : Prop := unifyAlikeUptoRow.holds Try.pinned (OpenSpec.upto unifyAlikeSpec)

/-- 'almagestlaw3.UnifyOccurs', WHERE WHAT IT READS IS OF BULK AT MOST 1048576: true; the input reads as it did. -/
def unifyOccursUptoRow : OpenClaim := { program := "ytjmfjeeddnmoaaa", sum := "545f8d9898385e6bbdd347ff57d4c5813c4b38eff84ef482150f83b859591ade", func := "almagest/almagestlaw3.UnifyOccurs", spec := "unifyOccurs", inPlace := ["internal/bytealg.abigen_runtime_cmpstring", "slices.overlaps[almagest/api.Bind]"], unfollowed := true, recurses := true, loops := true, plainKeys := false, apart := false, narrowed := true }
def UnifyOccursUptoSaid : Prop := unifyOccursUptoRow.holds Try.pinned (OpenSpec.upto unifyOccursSpec)

/-- 'almagestlaw3.UnifyDeep', WHERE WHAT IT READS IS OF BULK AT MOST 1048576: true; the input reads as it did. -/
def unifyDeepUptoRow : OpenClaim := { program := "ytjmfjeeddnmoaaa", sum := "545f8d9898385e6bbdd347ff57d4c5813c4b38eff84ef482150f83b859591ade", func := "almagest/almagestlaw3.UnifyDeep", spec := "unifyDeep", inPlace := ["internal/bytealg.abigen_runtime_cmpstring", "slices.overlaps[almagest/api.Bind]"], unfollowed := true, recurses := true, loops := true, plainKeys := false, apart := false, narrowed := true }
def UnifyDeepUptoSaid : Prop := unifyDeepUptoRow.holds Try.pinned (OpenSpec.upto unifyDeepSpec)

end Rows
end Go.Proofs.Ytjmfjeeddnmoaaa
