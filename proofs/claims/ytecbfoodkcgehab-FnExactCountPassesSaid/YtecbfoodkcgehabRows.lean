/-
  No cell of these rows narrows 'for every input' (looked for: loops, veiled, ifaces, maps, wideKeys, modest, calm, conditions, laid).
  DERIVED. THE GIVEN ROWS OF THIS SEAT. 12 by the template 'for every input the law returns true; each argument reads behind the call as it read before'; 0 by the template 'total and deterministic' (their statements: YtecbfoodkcgehabTotals.lean).
  GIVEN WITH THE SEED: the statements are not yours to turn. If you find one false, say at which input.
  Laid BY PROGRAM, IN A SANDBOX (cutbox-rows.mjs): the forced cells as the released guide's own fill.sh prints them over the translation cc354a94a69e576e… (all of the seat's roots in one cut). By AI agents, Wed Nov 11 2026. No macro, syntax, notation, axiom, sorry.
-/
import Derived.Test.YtecbfoodkcgehabChecked
import GoSem.Claim
import GoSem.ClaimJoined
import GoSem.ClaimMapViews
import Derived.JoinedTies
import Derived.KernelRfl
namespace Go.Proofs.Ytecbfoodkcgehab
/- THE CELL 'sum', in the pinned program and in every row, IS THE sha256 OF THE DUMP (.gsa) THAT YtecbfoodkcgehabProg.lean LOADS. Nothing in Lean hashes anything: it is a label: what it is worth is what the hold of that sum in a sandbox is worth. -/
noncomputable def Try.pinned : Pinned := { name := "ytecbfoodkcgehab", sum := "cc354a94a69e576e81c8bb2746dd9ed25039139f2e19efedd992d39bc166fd0e", checked := Try.checked }
namespace Rows
def none {H : Type} : Left H := { results := [], args := [] }

/-- 'laws.FnAvoiding': WHATEVER THE INPUT: true; the input reads as it did. -/
def fnAvoidingSpec : ChangeSpec := { name := "fnAvoiding", fn := fun _ => fun
  | [d] => { results := [.lit (.bool true)], args := [d] }
  | _ => none }
def fnAvoidingRow : OpenClaim := { program := "ytecbfoodkcgehab", sum := "cc354a94a69e576e81c8bb2746dd9ed25039139f2e19efedd992d39bc166fd0e", func := "loop.example/g01286/laws.FnAvoiding", spec := "fnAvoiding", unfollowed := true, recurses := true, plainKeys := false, apart := false }
def FnAvoidingSaid : Prop := fnAvoidingRow.holds Try.pinned (OpenSpec.ofChange fnAvoidingSpec)

/-- ITS FALSE NEIGHBOUR: 'it returns false'. Refute it at one input. -/
def fnAvoidingWrong : ChangeSpec := { name := "fnAvoiding", fn := fun _ => fun
  | [d] => { results := [.lit (.bool false)], args := [d] }
  | _ => none }
def FnAvoidingWrongFalsely : Prop := fnAvoidingRow.holds Try.pinned (OpenSpec.ofChange fnAvoidingWrong)

/-- 'laws.FnQueues': WHATEVER THE INPUT: true; the input reads as it did. -/
def fnQueuesSpec : ChangeSpec := { name := "fnQueues", fn := fun _ => fun
  | [d] => { results := [.lit (.bool true)], args := [d] }
  | _ => none }
def fnQueuesRow : OpenClaim := { program := "ytecbfoodkcgehab", sum := "cc354a94a69e576e81c8bb2746dd9ed25039139f2e19efedd992d39bc166fd0e", func := "loop.example/g01286/laws.FnQueues", spec := "fnQueues", unfollowed := true, recurses := true, plainKeys := false, apart := false }
def FnQueuesSaid : Prop := fnQueuesRow.holds Try.pinned (OpenSpec.ofChange fnQueuesSpec)

/-- ITS FALSE NEIGHBOUR: 'it returns false'. Refute it at one input. -/
def fnQueuesWrong : ChangeSpec := { name := "fnQueues", fn := fun _ => fun
  | [d] => { results := [.lit (.bool false)], args := [d] }
  | _ => none }
def FnQueuesWrongFalsely : Prop := fnQueuesRow.holds Try.pinned (OpenSpec.ofChange fnQueuesWrong)

/-- 'laws.FnExactLongestRise': WHATEVER THE INPUT: true; the input reads as it did. -/
def fnExactLongestRiseSpec : ChangeSpec := { name := "fnExactLongestRise", fn := fun _ => fun
  | [d] => { results := [.lit (.bool true)], args := [d] }
  | _ => none }
def fnExactLongestRiseRow : OpenClaim := { program := "ytecbfoodkcgehab", sum := "cc354a94a69e576e81c8bb2746dd9ed25039139f2e19efedd992d39bc166fd0e", func := "loop.example/g01286/laws.FnExactLongestRise", spec := "fnExactLongestRise", unfollowed := true, recurses := true, plainKeys := false, apart := false }
def FnExactLongestRiseSaid : Prop := fnExactLongestRiseRow.holds Try.pinned (OpenSpec.ofChange fnExactLongestRiseSpec)

/-- ITS FALSE NEIGHBOUR: 'it returns false'. Refute it at one input. -/
def fnExactLongestRiseWrong : ChangeSpec := { name := "fnExactLongestRise", fn := fun _ => fun
  | [d] => { results := [.lit (.bool false)], args := [d] }
  | _ => none }
def FnExactLongestRiseWrongFalsely : Prop := fnExactLongestRiseRow.holds Try.pinned (OpenSpec.ofChange fnExactLongestRiseWrong)

/-- 'laws.FnExactLongestFall': WHATEVER THE INPUT: true; the input reads as it did. -/
def fnExactLongestFallSpec : ChangeSpec := { name := "fnExactLongestFall", fn := fun _ => fun
  | [d] => { results := [.lit (.bool true)], args := [d] }
  | _ => none }
def fnExactLongestFallRow : OpenClaim := { program := "ytecbfoodkcgehab", sum := "cc354a94a69e576e81c8bb2746dd9ed25039139f2e19efedd992d39bc166fd0e", func := "loop.example/g01286/laws.FnExactLongestFall", spec := "fnExactLongestFall", unfollowed := true, recurses := true, plainKeys := false, apart := false }
def FnExactLongestFallSaid : Prop := fnExactLongestFallRow.holds Try.pinned (OpenSpec.ofChange fnExactLongestFallSpec)

/-- ITS FALSE NEIGHBOUR: 'it returns false'. Refute it at one input. -/
def fnExactLongestFallWrong : ChangeSpec := { name := "fnExactLongestFall", fn := fun _ => fun
  | [d] => { results := [.lit (.bool false)], args := [d] }
  | _ => none }
def FnExactLongestFallWrongFalsely : Prop := fnExactLongestFallRow.holds Try.pinned (OpenSpec.ofChange fnExactLongestFallWrong)

/-- 'laws.FnExactCountQueueWays': WHATEVER THE INPUT: true; the input reads as it did. -/
def fnExactCountQueueWaysSpec : ChangeSpec := { name := "fnExactCountQueueWays", fn := fun _ => fun
  | [d1, d2] => { results := [.lit (.bool true)], args := [d1, d2] }
  | _ => none }
def fnExactCountQueueWaysRow : OpenClaim := { program := "ytecbfoodkcgehab", sum := "cc354a94a69e576e81c8bb2746dd9ed25039139f2e19efedd992d39bc166fd0e", func := "loop.example/g01286/laws.FnExactCountQueueWays", spec := "fnExactCountQueueWays", recurses := true, plainKeys := false, apart := false }
def FnExactCountQueueWaysSaid : Prop := fnExactCountQueueWaysRow.holds Try.pinned (OpenSpec.ofChange fnExactCountQueueWaysSpec)

/-- ITS FALSE NEIGHBOUR: 'it returns false'. Refute it at one input. -/
def fnExactCountQueueWaysWrong : ChangeSpec := { name := "fnExactCountQueueWays", fn := fun _ => fun
  | [d1, d2] => { results := [.lit (.bool false)], args := [d1, d2] }
  | _ => none }
def FnExactCountQueueWaysWrongFalsely : Prop := fnExactCountQueueWaysRow.holds Try.pinned (OpenSpec.ofChange fnExactCountQueueWaysWrong)

/-- 'laws.FnExactMergePass': WHATEVER THE INPUT: true; the input reads as it did. -/
def fnExactMergePassSpec : ChangeSpec := { name := "fnExactMergePass", fn := fun _ => fun
  | [d] => { results := [.lit (.bool true)], args := [d] }
  | _ => none }
def fnExactMergePassRow : OpenClaim := { program := "ytecbfoodkcgehab", sum := "cc354a94a69e576e81c8bb2746dd9ed25039139f2e19efedd992d39bc166fd0e", func := "loop.example/g01286/laws.FnExactMergePass", spec := "fnExactMergePass", unfollowed := true, recurses := true, plainKeys := false, apart := false }
def FnExactMergePassSaid : Prop := fnExactMergePassRow.holds Try.pinned (OpenSpec.ofChange fnExactMergePassSpec)

/-- ITS FALSE NEIGHBOUR: 'it returns false'. Refute it at one input. -/
def fnExactMergePassWrong : ChangeSpec := { name := "fnExactMergePass", fn := fun _ => fun
  | [d] => { results := [.lit (.bool false)], args := [d] }
  | _ => none }
def FnExactMergePassWrongFalsely : Prop := fnExactMergePassRow.holds Try.pinned (OpenSpec.ofChange fnExactMergePassWrong)

/-- 'laws.FnExactCountPasses': WHATEVER THE INPUT: true; the input reads as it did. -/
def fnExactCountPassesSpec : ChangeSpec := { name := "fnExactCountPasses", fn := fun _ => fun
  | [d] => { results := [.lit (.bool true)], args := [d] }
  | _ => none }
def fnExactCountPassesRow : OpenClaim := { program := "ytecbfoodkcgehab", sum := "cc354a94a69e576e81c8bb2746dd9ed25039139f2e19efedd992d39bc166fd0e", func := "loop.example/g01286/laws.FnExactCountPasses", spec := "fnExactCountPasses", unfollowed := true, recurses := true, plainKeys := false, apart := false }
def FnExactCountPassesSaid : Prop := fnExactCountPassesRow.holds Try.pinned (OpenSpec.ofChange fnExactCountPassesSpec)

/-- ITS FALSE NEIGHBOUR: 'it returns false'. Refute it at one input. -/
def fnExactCountPassesWrong : ChangeSpec := { name := "fnExactCountPasses", fn := fun _ => fun
  | [d] => { results := [.lit (.bool false)], args := [d] }
  | _ => none }
def FnExactCountPassesWrongFalsely : Prop := fnExactCountPassesRow.holds Try.pinned (OpenSpec.ofChange fnExactCountPassesWrong)

/-- 'laws.FnOrders': WHATEVER THE INPUT: true; the input reads as it did. -/
def fnOrdersSpec : ChangeSpec := { name := "fnOrders", fn := fun _ => fun
  | [d] => { results := [.lit (.bool true)], args := [d] }
  | _ => none }
def fnOrdersRow : OpenClaim := { program := "ytecbfoodkcgehab", sum := "cc354a94a69e576e81c8bb2746dd9ed25039139f2e19efedd992d39bc166fd0e", func := "loop.example/g01286/laws.FnOrders", spec := "fnOrders", recurses := true, plainKeys := false, apart := false }
def FnOrdersSaid : Prop := fnOrdersRow.holds Try.pinned (OpenSpec.ofChange fnOrdersSpec)

/-- ITS FALSE NEIGHBOUR: 'it returns false'. Refute it at one input. -/
def fnOrdersWrong : ChangeSpec := { name := "fnOrders", fn := fun _ => fun
  | [d] => { results := [.lit (.bool false)], args := [d] }
  | _ => none }
def FnOrdersWrongFalsely : Prop := fnOrdersRow.holds Try.pinned (OpenSpec.ofChange fnOrdersWrong)

/-- 'laws.FnExactOrderText': WHATEVER THE INPUT: true; the input reads as it did. -/
def fnExactOrderTextSpec : ChangeSpec := { name := "fnExactOrderText", fn := fun _ => fun
  | [d] => { results := [.lit (.bool true)], args := [d] }
  | _ => none }
def fnExactOrderTextRow : OpenClaim := { program := "ytecbfoodkcgehab", sum := "cc354a94a69e576e81c8bb2746dd9ed25039139f2e19efedd992d39bc166fd0e", func := "loop.example/g01286/laws.FnExactOrderText", spec := "fnExactOrderText", recurses := true, plainKeys := false, apart := false }
def FnExactOrderTextSaid : Prop := fnExactOrderTextRow.holds Try.pinned (OpenSpec.ofChange fnExactOrderTextSpec)

/-- ITS FALSE NEIGHBOUR: 'it returns false'. Refute it at one input. -/
def fnExactOrderTextWrong : ChangeSpec := { name := "fnExactOrderText", fn := fun _ => fun
  | [d] => { results := [.lit (.bool false)], args := [d] }
  | _ => none }
def FnExactOrderTextWrongFalsely : Prop := fnExactOrderTextRow.holds Try.pinned (OpenSpec.ofChange fnExactOrderTextWrong)

/-- 'laws.FnExactParseOrder': WHATEVER THE INPUT: true; the input reads as it did. -/
def fnExactParseOrderSpec : ChangeSpec := { name := "fnExactParseOrder", fn := fun _ => fun
  | [d] => { results := [.lit (.bool true)], args := [d] }
  | _ => none }
def fnExactParseOrderRow : OpenClaim := { program := "ytecbfoodkcgehab", sum := "cc354a94a69e576e81c8bb2746dd9ed25039139f2e19efedd992d39bc166fd0e", func := "loop.example/g01286/laws.FnExactParseOrder", spec := "fnExactParseOrder", plainKeys := false, apart := false }
def FnExactParseOrderSaid : Prop := fnExactParseOrderRow.holds Try.pinned (OpenSpec.ofChange fnExactParseOrderSpec)

/-- ITS FALSE NEIGHBOUR: 'it returns false'. Refute it at one input. -/
def fnExactParseOrderWrong : ChangeSpec := { name := "fnExactParseOrder", fn := fun _ => fun
  | [d] => { results := [.lit (.bool false)], args := [d] }
  | _ => none }
def FnExactParseOrderWrongFalsely : Prop := fnExactParseOrderRow.holds Try.pinned (OpenSpec.ofChange fnExactParseOrderWrong)

/-- 'laws.FnExactCountSweeps': WHATEVER THE INPUT: true; the input reads as it did. -/
def fnExactCountSweepsSpec : ChangeSpec := { name := "fnExactCountSweeps", fn := fun _ => fun
  | [d] => { results := [.lit (.bool true)], args := [d] }
  | _ => none }
def fnExactCountSweepsRow : OpenClaim := { program := "ytecbfoodkcgehab", sum := "cc354a94a69e576e81c8bb2746dd9ed25039139f2e19efedd992d39bc166fd0e", func := "loop.example/g01286/laws.FnExactCountSweeps", spec := "fnExactCountSweeps", unfollowed := true, recurses := true, plainKeys := false, apart := false }
def FnExactCountSweepsSaid : Prop := fnExactCountSweepsRow.holds Try.pinned (OpenSpec.ofChange fnExactCountSweepsSpec)

/-- ITS FALSE NEIGHBOUR: 'it returns false'. Refute it at one input. -/
def fnExactCountSweepsWrong : ChangeSpec := { name := "fnExactCountSweeps", fn := fun _ => fun
  | [d] => { results := [.lit (.bool false)], args := [d] }
  | _ => none }
def FnExactCountSweepsWrongFalsely : Prop := fnExactCountSweepsRow.holds Try.pinned (OpenSpec.ofChange fnExactCountSweepsWrong)

/-- 'laws.FnSweeps': WHATEVER THE INPUT: true; the input reads as it did. -/
def fnSweepsSpec : ChangeSpec := { name := "fnSweeps", fn := fun _ => fun
  | [d] => { results := [.lit (.bool true)], args := [d] }
  | _ => none }
def fnSweepsRow : OpenClaim := { program := "ytecbfoodkcgehab", sum := "cc354a94a69e576e81c8bb2746dd9ed25039139f2e19efedd992d39bc166fd0e", func := "loop.example/g01286/laws.FnSweeps", spec := "fnSweeps", unfollowed := true, recurses := true, plainKeys := false, apart := false }
def FnSweepsSaid : Prop := fnSweepsRow.holds Try.pinned (OpenSpec.ofChange fnSweepsSpec)

/-- ITS FALSE NEIGHBOUR: 'it returns false'. Refute it at one input. -/
def fnSweepsWrong : ChangeSpec := { name := "fnSweeps", fn := fun _ => fun
  | [d] => { results := [.lit (.bool false)], args := [d] }
  | _ => none }
def FnSweepsWrongFalsely : Prop := fnSweepsRow.holds Try.pinned (OpenSpec.ofChange fnSweepsWrong)

/- THE SECOND FORM. 'bulk': how many values and letters a reading holds, each counted each time it is reached (what is shared counts as often as it is met; a slice's spare places count too). A statement '..UptoSaid' is the law's where the arguments, and the package variables that the reading takes, are together of bulk at most 1048576: NARROWER than '..Said'. Prove '..Said' where nothing that the law and all that it calls make is longer than what came in: it says more and counts as full. Else prove '..UptoSaid'. A law counts once. -/
mutual
def uptoBulk {H : Type} : DataW H → Nat
  | .lit (.string bytes) => bytes.length + 1
  | .lit _ => 1
  | .nil => 1
  | .ptr d => uptoBulk d + 1
  | .slice elems spare => uptoBulkAll elems + uptoBulkAll spare + 1
  | .agg parts => uptoBulkAll parts + 1
  | .iface _ d => uptoBulk d + 1
  | .map entries => uptoBulkEntries entries + 1
  | .held _ => 1
def uptoBulkAll {H : Type} : List (DataW H) → Nat
  | [] => 0
  | d :: r => uptoBulk d + uptoBulkAll r
def uptoBulkEntries {H : Type} : List (Lit × DataW H) → Nat
  | [] => 0
  | x :: r => uptoBulkEntry x + uptoBulkEntries r
def uptoBulkEntry {H : Type} : Lit × DataW H → Nat
  | (.string bytes, d) => bytes.length + uptoBulk d + 1
  | (_, d) => uptoBulk d + 1
 end
def uptoSmall : (H : Type) → List (DataW H) → Bool := fun _ ds => decide (uptoBulkAll ds ≤ 1048576)
def OpenSpec.upto (s : _root_.Go.ChangeSpec) : _root_.Go.OpenSpec := { _root_.Go.OpenSpec.ofChange s with cond := some uptoSmall }

/-- 'laws.FnAvoiding', WHERE WHAT IT READS IS OF BULK AT MOST 1048576: true; the input reads as it did. -/
def fnAvoidingUptoRow : OpenClaim := { program := "ytecbfoodkcgehab", sum := "cc354a94a69e576e81c8bb2746dd9ed25039139f2e19efedd992d39bc166fd0e", func := "loop.example/g01286/laws.FnAvoiding", spec := "fnAvoiding", unfollowed := true, recurses := true, plainKeys := false, apart := false, narrowed := true }
def FnAvoidingUptoSaid : Prop := fnAvoidingUptoRow.holds Try.pinned (OpenSpec.upto fnAvoidingSpec)

/-- 'laws.FnQueues', WHERE WHAT IT READS IS OF BULK AT MOST 1048576: true; the input reads as it did. -/
def fnQueuesUptoRow : OpenClaim := { program := "ytecbfoodkcgehab", sum := "cc354a94a69e576e81c8bb2746dd9ed25039139f2e19efedd992d39bc166fd0e", func := "loop.example/g01286/laws.FnQueues", spec := "fnQueues", unfollowed := true, recurses := true, plainKeys := false, apart := false, narrowed := true }
def FnQueuesUptoSaid : Prop := fnQueuesUptoRow.holds Try.pinned (OpenSpec.upto fnQueuesSpec)

/-- 'laws.FnExactLongestRise', WHERE WHAT IT READS IS OF BULK AT MOST 1048576: true; the input reads as it did. -/
def fnExactLongestRiseUptoRow : OpenClaim := { program := "ytecbfoodkcgehab", sum := "cc354a94a69e576e81c8bb2746dd9ed25039139f2e19efedd992d39bc166fd0e", func := "loop.example/g01286/laws.FnExactLongestRise", spec := "fnExactLongestRise", unfollowed := true, recurses := true, plainKeys := false, apart := false, narrowed := true }
def FnExactLongestRiseUptoSaid : Prop := fnExactLongestRiseUptoRow.holds Try.pinned (OpenSpec.upto fnExactLongestRiseSpec)

/-- 'laws.FnExactLongestFall', WHERE WHAT IT READS IS OF BULK AT MOST 1048576: true; the input reads as it did. -/
def fnExactLongestFallUptoRow : OpenClaim := { program := "ytecbfoodkcgehab", sum := "cc354a94a69e576e81c8bb2746dd9ed25039139f2e19efedd992d39bc166fd0e", func := "loop.example/g01286/laws.FnExactLongestFall", spec := "fnExactLongestFall", unfollowed := true, recurses := true, plainKeys := false, apart := false, narrowed := true }
def FnExactLongestFallUptoSaid : Prop := fnExactLongestFallUptoRow.holds Try.pinned (OpenSpec.upto fnExactLongestFallSpec)

/-- 'laws.FnExactCountQueueWays', WHERE WHAT IT READS IS OF BULK AT MOST 1048576: true; the input reads as it did. -/
def fnExactCountQueueWaysUptoRow : OpenClaim := { program := "ytecbfoodkcgehab", sum := "cc354a94a69e576e81c8bb2746dd9ed25039139f2e19efedd992d39bc166fd0e", func := "loop.example/g01286/laws.FnExactCountQueueWays", spec := "fnExactCountQueueWays", recurses := true, plainKeys := false, apart := false, narrowed := true }
def FnExactCountQueueWaysUptoSaid : Prop := fnExactCountQueueWaysUptoRow.holds Try.pinned (OpenSpec.upto fnExactCountQueueWaysSpec)

/-- 'laws.FnExactMergePass', WHERE WHAT IT READS IS OF BULK AT MOST 1048576: true; the input reads as it did. -/
def fnExactMergePassUptoRow : OpenClaim := { program := "ytecbfoodkcgehab", sum := "cc354a94a69e576e81c8bb2746dd9ed25039139f2e19efedd992d39bc166fd0e", func := "loop.example/g01286/laws.FnExactMergePass", spec := "fnExactMergePass", unfollowed := true, recurses := true, plainKeys := false, apart := false, narrowed := true }
def FnExactMergePassUptoSaid : Prop := fnExactMergePassUptoRow.holds Try.pinned (OpenSpec.upto fnExactMergePassSpec)

/-- 'laws.FnExactCountPasses', WHERE WHAT IT READS IS OF BULK AT MOST 1048576: true; the input reads as it did. -/
def fnExactCountPassesUptoRow : OpenClaim := { program := "ytecbfoodkcgehab", sum := "cc354a94a69e576e81c8bb2746dd9ed25039139f2e19efedd992d39bc166fd0e", func := "loop.example/g01286/laws.FnExactCountPasses", spec := "fnExactCountPasses", unfollowed := true, recurses := true, plainKeys := false, apart := false, narrowed := true }
def FnExactCountPassesUptoSaid : Prop := fnExactCountPassesUptoRow.holds Try.pinned (OpenSpec.upto fnExactCountPassesSpec)

/-- 'laws.FnOrders', WHERE WHAT IT READS IS OF BULK AT MOST 1048576: true; the input reads as it did. -/
def fnOrdersUptoRow : OpenClaim := { program := "ytecbfoodkcgehab", sum := "cc354a94a69e576e81c8bb2746dd9ed25039139f2e19efedd992d39bc166fd0e", func := "loop.example/g01286/laws.FnOrders", spec := "fnOrders", recurses := true, plainKeys := false, apart := false, narrowed := true }
def FnOrdersUptoSaid : Prop := fnOrdersUptoRow.holds Try.pinned (OpenSpec.upto fnOrdersSpec)

/-- 'laws.FnExactOrderText', WHERE WHAT IT READS IS OF BULK AT MOST 1048576: true; the input reads as it did. -/
def fnExactOrderTextUptoRow : OpenClaim := { program := "ytecbfoodkcgehab", sum := "cc354a94a69e576e81c8bb2746dd9ed25039139f2e19efedd992d39bc166fd0e", func := "loop.example/g01286/laws.FnExactOrderText", spec := "fnExactOrderText", recurses := true, plainKeys := false, apart := false, narrowed := true }
def FnExactOrderTextUptoSaid : Prop := fnExactOrderTextUptoRow.holds Try.pinned (OpenSpec.upto fnExactOrderTextSpec)

/-- 'laws.FnExactParseOrder', WHERE WHAT IT READS IS OF BULK AT MOST 1048576: true; the input reads as it did. -/
def fnExactParseOrderUptoRow : OpenClaim := { program := "ytecbfoodkcgehab", sum := "cc354a94a69e576e81c8bb2746dd9ed25039139f2e19efedd992d39bc166fd0e", func := "loop.example/g01286/laws.FnExactParseOrder", spec := "fnExactParseOrder", plainKeys := false, apart := false, narrowed := true }
def FnExactParseOrderUptoSaid : Prop := fnExactParseOrderUptoRow.holds Try.pinned (OpenSpec.upto fnExactParseOrderSpec)

/-- 'laws.FnExactCountSweeps', WHERE WHAT IT READS IS OF BULK AT MOST 1048576: true; the input reads as it did. -/
def fnExactCountSweepsUptoRow : OpenClaim := { program := "ytecbfoodkcgehab", sum := "cc354a94a69e576e81c8bb2746dd9ed25039139f2e19efedd992d39bc166fd0e", func := "loop.example/g01286/laws.FnExactCountSweeps", spec := "fnExactCountSweeps", unfollowed := true, recurses := true, plainKeys := false, apart := false, narrowed := true }
def FnExactCountSweepsUptoSaid : Prop := fnExactCountSweepsUptoRow.holds Try.pinned (OpenSpec.upto fnExactCountSweepsSpec)

/-- 'laws.FnSweeps', WHERE WHAT IT READS IS OF BULK AT MOST 1048576: true; the input reads as it did. -/
def fnSweepsUptoRow : OpenClaim := { program := "ytecbfoodkcgehab", sum := "cc354a94a69e576e81c8bb2746dd9ed25039139f2e19efedd992d39bc166fd0e", func := "loop.example/g01286/laws.FnSweeps", spec := "fnSweeps", unfollowed := true, recurses := true, plainKeys := false, apart := false, narrowed := true }
def FnSweepsUptoSaid : Prop := fnSweepsUptoRow.holds Try.pinned (OpenSpec.upto fnSweepsSpec)

end Rows
end Go.Proofs.Ytecbfoodkcgehab
