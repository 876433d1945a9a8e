/-
  No cell of these rows narrows 'for every input' (looked for: loops, veiled, ifaces, maps, wideKeys, modest, calm, conditions, laid).
  DERIVED. THE GIVEN ROWS OF THIS SEAT. 15 by the template 'for every input the law returns true; each argument reads behind the call as it read before'; 0 by the template 'total and deterministic' (their statements: YtmnggcnipjdimaaTotals.lean).
  GIVEN WITH THE SEED: the statements are not yours to turn. If you find one false, say at which input.
  Laid BY PROGRAM, IN A SANDBOX (cutbox-rows.mjs): the forced cells as the released guide's own fill.sh prints them over the translation 580f2cb13d9b3305… (all of the seat's roots in one cut). By AI agents, Wed Nov 11 2026. No macro, syntax, notation, axiom, sorry.
-/
import Derived.Test.YtmnggcnipjdimaaChecked
import GoSem.Claim
import GoSem.ClaimJoined
import GoSem.ClaimMapViews
import Derived.JoinedTies
import Derived.KernelRfl
namespace Go.Proofs.Ytmnggcnipjdimaa
/- THE CELL 'sum', in the pinned program and in every row, IS THE sha256 OF THE DUMP (.gsa) THAT YtmnggcnipjdimaaProg.lean LOADS. Nothing in Lean hashes anything: it is a label: what it is worth is what the hold of that sum in a sandbox is worth. -/
noncomputable def Try.pinned : Pinned := { name := "ytmnggcnipjdimaa", sum := "580f2cb13d9b3305fc9ba0658072694f485f2ed76fdb15fe9de16fe50aab5660", checked := Try.checked }
namespace Rows
def none {H : Type} : Left H := { results := [], args := [] }

/-- 'laws.FnQueues': WHATEVER THE INPUT: true; the input reads as it did. -/
def fnQueuesSpec : ChangeSpec := { name := "fnQueues", fn := fun _ => fun
  | [d] => { results := [.lit (.bool true)], args := [d] }
  | _ => none }
def fnQueuesRow : OpenClaim := { program := "ytmnggcnipjdimaa", sum := "580f2cb13d9b3305fc9ba0658072694f485f2ed76fdb15fe9de16fe50aab5660", func := "loop.example/g01286/laws.FnQueues", spec := "fnQueues", unfollowed := true, recurses := true, plainKeys := false, apart := false }
def FnQueuesSaid : Prop := fnQueuesRow.holds Try.pinned (OpenSpec.ofChange fnQueuesSpec)

/-- ITS FALSE NEIGHBOUR: 'it returns false'. Refute it at one input. -/
def fnQueuesWrong : ChangeSpec := { name := "fnQueues", fn := fun _ => fun
  | [d] => { results := [.lit (.bool false)], args := [d] }
  | _ => none }
def FnQueuesWrongFalsely : Prop := fnQueuesRow.holds Try.pinned (OpenSpec.ofChange fnQueuesWrong)

/-- 'laws.FnRows': WHATEVER THE INPUT: true; the input reads as it did. -/
def fnRowsSpec : ChangeSpec := { name := "fnRows", fn := fun _ => fun
  | [d] => { results := [.lit (.bool true)], args := [d] }
  | _ => none }
def fnRowsRow : OpenClaim := { program := "ytmnggcnipjdimaa", sum := "580f2cb13d9b3305fc9ba0658072694f485f2ed76fdb15fe9de16fe50aab5660", func := "loop.example/g01286/laws.FnRows", spec := "fnRows", unfollowed := true, recurses := true, plainKeys := false, apart := false }
def FnRowsSaid : Prop := fnRowsRow.holds Try.pinned (OpenSpec.ofChange fnRowsSpec)

/-- ITS FALSE NEIGHBOUR: 'it returns false'. Refute it at one input. -/
def fnRowsWrong : ChangeSpec := { name := "fnRows", fn := fun _ => fun
  | [d] => { results := [.lit (.bool false)], args := [d] }
  | _ => none }
def FnRowsWrongFalsely : Prop := fnRowsRow.holds Try.pinned (OpenSpec.ofChange fnRowsWrong)

/-- 'laws.FnExactLongestRise': WHATEVER THE INPUT: true; the input reads as it did. -/
def fnExactLongestRiseSpec : ChangeSpec := { name := "fnExactLongestRise", fn := fun _ => fun
  | [d] => { results := [.lit (.bool true)], args := [d] }
  | _ => none }
def fnExactLongestRiseRow : OpenClaim := { program := "ytmnggcnipjdimaa", sum := "580f2cb13d9b3305fc9ba0658072694f485f2ed76fdb15fe9de16fe50aab5660", func := "loop.example/g01286/laws.FnExactLongestRise", spec := "fnExactLongestRise", unfollowed := true, recurses := true, plainKeys := false, apart := false }
def FnExactLongestRiseSaid : Prop := fnExactLongestRiseRow.holds Try.pinned (OpenSpec.ofChange fnExactLongestRiseSpec)

/-- ITS FALSE NEIGHBOUR: 'it returns false'. Refute it at one input. -/
def fnExactLongestRiseWrong : ChangeSpec := { name := "fnExactLongestRise", fn := fun _ => fun
  | [d] => { results := [.lit (.bool false)], args := [d] }
  | _ => none }
def FnExactLongestRiseWrongFalsely : Prop := fnExactLongestRiseRow.holds Try.pinned (OpenSpec.ofChange fnExactLongestRiseWrong)

/-- 'laws.FnExactLongestFall': WHATEVER THE INPUT: true; the input reads as it did. -/
def fnExactLongestFallSpec : ChangeSpec := { name := "fnExactLongestFall", fn := fun _ => fun
  | [d] => { results := [.lit (.bool true)], args := [d] }
  | _ => none }
def fnExactLongestFallRow : OpenClaim := { program := "ytmnggcnipjdimaa", sum := "580f2cb13d9b3305fc9ba0658072694f485f2ed76fdb15fe9de16fe50aab5660", func := "loop.example/g01286/laws.FnExactLongestFall", spec := "fnExactLongestFall", unfollowed := true, recurses := true, plainKeys := false, apart := false }
def FnExactLongestFallSaid : Prop := fnExactLongestFallRow.holds Try.pinned (OpenSpec.ofChange fnExactLongestFallSpec)

/-- ITS FALSE NEIGHBOUR: 'it returns false'. Refute it at one input. -/
def fnExactLongestFallWrong : ChangeSpec := { name := "fnExactLongestFall", fn := fun _ => fun
  | [d] => { results := [.lit (.bool false)], args := [d] }
  | _ => none }
def FnExactLongestFallWrongFalsely : Prop := fnExactLongestFallRow.holds Try.pinned (OpenSpec.ofChange fnExactLongestFallWrong)

/-- 'laws.FnExactFewestQueues': WHATEVER THE INPUT: true; the input reads as it did. -/
def fnExactFewestQueuesSpec : ChangeSpec := { name := "fnExactFewestQueues", fn := fun _ => fun
  | [d] => { results := [.lit (.bool true)], args := [d] }
  | _ => none }
def fnExactFewestQueuesRow : OpenClaim := { program := "ytmnggcnipjdimaa", sum := "580f2cb13d9b3305fc9ba0658072694f485f2ed76fdb15fe9de16fe50aab5660", func := "loop.example/g01286/laws.FnExactFewestQueues", spec := "fnExactFewestQueues", plainKeys := false, apart := false }
def FnExactFewestQueuesSaid : Prop := fnExactFewestQueuesRow.holds Try.pinned (OpenSpec.ofChange fnExactFewestQueuesSpec)

/-- ITS FALSE NEIGHBOUR: 'it returns false'. Refute it at one input. -/
def fnExactFewestQueuesWrong : ChangeSpec := { name := "fnExactFewestQueues", fn := fun _ => fun
  | [d] => { results := [.lit (.bool false)], args := [d] }
  | _ => none }
def FnExactFewestQueuesWrongFalsely : Prop := fnExactFewestQueuesRow.holds Try.pinned (OpenSpec.ofChange fnExactFewestQueuesWrong)

/-- 'laws.FnExactQueuesOf': WHATEVER THE INPUT: true; the input reads as it did. -/
def fnExactQueuesOfSpec : ChangeSpec := { name := "fnExactQueuesOf", fn := fun _ => fun
  | [d] => { results := [.lit (.bool true)], args := [d] }
  | _ => none }
def fnExactQueuesOfRow : OpenClaim := { program := "ytmnggcnipjdimaa", sum := "580f2cb13d9b3305fc9ba0658072694f485f2ed76fdb15fe9de16fe50aab5660", func := "loop.example/g01286/laws.FnExactQueuesOf", spec := "fnExactQueuesOf", plainKeys := false, apart := false }
def FnExactQueuesOfSaid : Prop := fnExactQueuesOfRow.holds Try.pinned (OpenSpec.ofChange fnExactQueuesOfSpec)

/-- ITS FALSE NEIGHBOUR: 'it returns false'. Refute it at one input. -/
def fnExactQueuesOfWrong : ChangeSpec := { name := "fnExactQueuesOf", fn := fun _ => fun
  | [d] => { results := [.lit (.bool false)], args := [d] }
  | _ => none }
def FnExactQueuesOfWrongFalsely : Prop := fnExactQueuesOfRow.holds Try.pinned (OpenSpec.ofChange fnExactQueuesOfWrong)

/-- 'laws.FnExactCountQueueWays': WHATEVER THE INPUT: true; the input reads as it did. -/
def fnExactCountQueueWaysSpec : ChangeSpec := { name := "fnExactCountQueueWays", fn := fun _ => fun
  | [d1, d2] => { results := [.lit (.bool true)], args := [d1, d2] }
  | _ => none }
def fnExactCountQueueWaysRow : OpenClaim := { program := "ytmnggcnipjdimaa", sum := "580f2cb13d9b3305fc9ba0658072694f485f2ed76fdb15fe9de16fe50aab5660", func := "loop.example/g01286/laws.FnExactCountQueueWays", spec := "fnExactCountQueueWays", recurses := true, plainKeys := false, apart := false }
def FnExactCountQueueWaysSaid : Prop := fnExactCountQueueWaysRow.holds Try.pinned (OpenSpec.ofChange fnExactCountQueueWaysSpec)

/-- ITS FALSE NEIGHBOUR: 'it returns false'. Refute it at one input. -/
def fnExactCountQueueWaysWrong : ChangeSpec := { name := "fnExactCountQueueWays", fn := fun _ => fun
  | [d1, d2] => { results := [.lit (.bool false)], args := [d1, d2] }
  | _ => none }
def FnExactCountQueueWaysWrongFalsely : Prop := fnExactCountQueueWaysRow.holds Try.pinned (OpenSpec.ofChange fnExactCountQueueWaysWrong)

/-- 'laws.FnExactCountQueueable': WHATEVER THE INPUT: true; the input reads as it did. -/
def fnExactCountQueueableSpec : ChangeSpec := { name := "fnExactCountQueueable", fn := fun _ => fun
  | [d1, d2] => { results := [.lit (.bool true)], args := [d1, d2] }
  | _ => none }
def fnExactCountQueueableRow : OpenClaim := { program := "ytmnggcnipjdimaa", sum := "580f2cb13d9b3305fc9ba0658072694f485f2ed76fdb15fe9de16fe50aab5660", func := "loop.example/g01286/laws.FnExactCountQueueable", spec := "fnExactCountQueueable", unfollowed := true, recurses := true, plainKeys := false, apart := false }
def FnExactCountQueueableSaid : Prop := fnExactCountQueueableRow.holds Try.pinned (OpenSpec.ofChange fnExactCountQueueableSpec)

/-- ITS FALSE NEIGHBOUR: 'it returns false'. Refute it at one input. -/
def fnExactCountQueueableWrong : ChangeSpec := { name := "fnExactCountQueueable", fn := fun _ => fun
  | [d1, d2] => { results := [.lit (.bool false)], args := [d1, d2] }
  | _ => none }
def FnExactCountQueueableWrongFalsely : Prop := fnExactCountQueueableRow.holds Try.pinned (OpenSpec.ofChange fnExactCountQueueableWrong)

/-- 'laws.FnExactRunsOf': WHATEVER THE INPUT: true; the input reads as it did. -/
def fnExactRunsOfSpec : ChangeSpec := { name := "fnExactRunsOf", fn := fun _ => fun
  | [d] => { results := [.lit (.bool true)], args := [d] }
  | _ => none }
def fnExactRunsOfRow : OpenClaim := { program := "ytmnggcnipjdimaa", sum := "580f2cb13d9b3305fc9ba0658072694f485f2ed76fdb15fe9de16fe50aab5660", func := "loop.example/g01286/laws.FnExactRunsOf", spec := "fnExactRunsOf", plainKeys := false, apart := false }
def FnExactRunsOfSaid : Prop := fnExactRunsOfRow.holds Try.pinned (OpenSpec.ofChange fnExactRunsOfSpec)

/-- ITS FALSE NEIGHBOUR: 'it returns false'. Refute it at one input. -/
def fnExactRunsOfWrong : ChangeSpec := { name := "fnExactRunsOf", fn := fun _ => fun
  | [d] => { results := [.lit (.bool false)], args := [d] }
  | _ => none }
def FnExactRunsOfWrongFalsely : Prop := fnExactRunsOfRow.holds Try.pinned (OpenSpec.ofChange fnExactRunsOfWrong)

/-- 'laws.FnExactMergePass': WHATEVER THE INPUT: true; the input reads as it did. -/
def fnExactMergePassSpec : ChangeSpec := { name := "fnExactMergePass", fn := fun _ => fun
  | [d] => { results := [.lit (.bool true)], args := [d] }
  | _ => none }
def fnExactMergePassRow : OpenClaim := { program := "ytmnggcnipjdimaa", sum := "580f2cb13d9b3305fc9ba0658072694f485f2ed76fdb15fe9de16fe50aab5660", func := "loop.example/g01286/laws.FnExactMergePass", spec := "fnExactMergePass", unfollowed := true, recurses := true, plainKeys := false, apart := false }
def FnExactMergePassSaid : Prop := fnExactMergePassRow.holds Try.pinned (OpenSpec.ofChange fnExactMergePassSpec)

/-- ITS FALSE NEIGHBOUR: 'it returns false'. Refute it at one input. -/
def fnExactMergePassWrong : ChangeSpec := { name := "fnExactMergePass", fn := fun _ => fun
  | [d] => { results := [.lit (.bool false)], args := [d] }
  | _ => none }
def FnExactMergePassWrongFalsely : Prop := fnExactMergePassRow.holds Try.pinned (OpenSpec.ofChange fnExactMergePassWrong)

/-- 'laws.FnExactCountPasses': WHATEVER THE INPUT: true; the input reads as it did. -/
def fnExactCountPassesSpec : ChangeSpec := { name := "fnExactCountPasses", fn := fun _ => fun
  | [d] => { results := [.lit (.bool true)], args := [d] }
  | _ => none }
def fnExactCountPassesRow : OpenClaim := { program := "ytmnggcnipjdimaa", sum := "580f2cb13d9b3305fc9ba0658072694f485f2ed76fdb15fe9de16fe50aab5660", func := "loop.example/g01286/laws.FnExactCountPasses", spec := "fnExactCountPasses", unfollowed := true, recurses := true, plainKeys := false, apart := false }
def FnExactCountPassesSaid : Prop := fnExactCountPassesRow.holds Try.pinned (OpenSpec.ofChange fnExactCountPassesSpec)

/-- ITS FALSE NEIGHBOUR: 'it returns false'. Refute it at one input. -/
def fnExactCountPassesWrong : ChangeSpec := { name := "fnExactCountPasses", fn := fun _ => fun
  | [d] => { results := [.lit (.bool false)], args := [d] }
  | _ => none }
def FnExactCountPassesWrongFalsely : Prop := fnExactCountPassesRow.holds Try.pinned (OpenSpec.ofChange fnExactCountPassesWrong)

/-- 'laws.FnExactRowsOf': WHATEVER THE INPUT: true; the input reads as it did. -/
def fnExactRowsOfSpec : ChangeSpec := { name := "fnExactRowsOf", fn := fun _ => fun
  | [d] => { results := [.lit (.bool true)], args := [d] }
  | _ => none }
def fnExactRowsOfRow : OpenClaim := { program := "ytmnggcnipjdimaa", sum := "580f2cb13d9b3305fc9ba0658072694f485f2ed76fdb15fe9de16fe50aab5660", func := "loop.example/g01286/laws.FnExactRowsOf", spec := "fnExactRowsOf", unfollowed := true, recurses := true, plainKeys := false, apart := false }
def FnExactRowsOfSaid : Prop := fnExactRowsOfRow.holds Try.pinned (OpenSpec.ofChange fnExactRowsOfSpec)

/-- ITS FALSE NEIGHBOUR: 'it returns false'. Refute it at one input. -/
def fnExactRowsOfWrong : ChangeSpec := { name := "fnExactRowsOf", fn := fun _ => fun
  | [d] => { results := [.lit (.bool false)], args := [d] }
  | _ => none }
def FnExactRowsOfWrongFalsely : Prop := fnExactRowsOfRow.holds Try.pinned (OpenSpec.ofChange fnExactRowsOfWrong)

/-- 'laws.FnExactTwinRowsOf': WHATEVER THE INPUT: true; the input reads as it did. -/
def fnExactTwinRowsOfSpec : ChangeSpec := { name := "fnExactTwinRowsOf", fn := fun _ => fun
  | [d] => { results := [.lit (.bool true)], args := [d] }
  | _ => none }
def fnExactTwinRowsOfRow : OpenClaim := { program := "ytmnggcnipjdimaa", sum := "580f2cb13d9b3305fc9ba0658072694f485f2ed76fdb15fe9de16fe50aab5660", func := "loop.example/g01286/laws.FnExactTwinRowsOf", spec := "fnExactTwinRowsOf", unfollowed := true, recurses := true, plainKeys := false, apart := false }
def FnExactTwinRowsOfSaid : Prop := fnExactTwinRowsOfRow.holds Try.pinned (OpenSpec.ofChange fnExactTwinRowsOfSpec)

/-- ITS FALSE NEIGHBOUR: 'it returns false'. Refute it at one input. -/
def fnExactTwinRowsOfWrong : ChangeSpec := { name := "fnExactTwinRowsOf", fn := fun _ => fun
  | [d] => { results := [.lit (.bool false)], args := [d] }
  | _ => none }
def FnExactTwinRowsOfWrongFalsely : Prop := fnExactTwinRowsOfRow.holds Try.pinned (OpenSpec.ofChange fnExactTwinRowsOfWrong)

/-- 'laws.FnExactAreRows': WHATEVER THE INPUT: true; the input reads as it did. -/
def fnExactAreRowsSpec : ChangeSpec := { name := "fnExactAreRows", fn := fun _ => fun
  | [d] => { results := [.lit (.bool true)], args := [d] }
  | _ => none }
def fnExactAreRowsRow : OpenClaim := { program := "ytmnggcnipjdimaa", sum := "580f2cb13d9b3305fc9ba0658072694f485f2ed76fdb15fe9de16fe50aab5660", func := "loop.example/g01286/laws.FnExactAreRows", spec := "fnExactAreRows", plainKeys := false, apart := false }
def FnExactAreRowsSaid : Prop := fnExactAreRowsRow.holds Try.pinned (OpenSpec.ofChange fnExactAreRowsSpec)

/-- ITS FALSE NEIGHBOUR: 'it returns false'. Refute it at one input. -/
def fnExactAreRowsWrong : ChangeSpec := { name := "fnExactAreRows", fn := fun _ => fun
  | [d] => { results := [.lit (.bool false)], args := [d] }
  | _ => none }
def FnExactAreRowsWrongFalsely : Prop := fnExactAreRowsRow.holds Try.pinned (OpenSpec.ofChange fnExactAreRowsWrong)

/-- 'laws.FnExactOrderOfRows': WHATEVER THE INPUT: true; the input reads as it did. -/
def fnExactOrderOfRowsSpec : ChangeSpec := { name := "fnExactOrderOfRows", fn := fun _ => fun
  | [d1, d2] => { results := [.lit (.bool true)], args := [d1, d2] }
  | _ => none }
def fnExactOrderOfRowsRow : OpenClaim := { program := "ytmnggcnipjdimaa", sum := "580f2cb13d9b3305fc9ba0658072694f485f2ed76fdb15fe9de16fe50aab5660", func := "loop.example/g01286/laws.FnExactOrderOfRows", spec := "fnExactOrderOfRows", unfollowed := true, recurses := true, plainKeys := false, apart := false }
def FnExactOrderOfRowsSaid : Prop := fnExactOrderOfRowsRow.holds Try.pinned (OpenSpec.ofChange fnExactOrderOfRowsSpec)

/-- ITS FALSE NEIGHBOUR: 'it returns false'. Refute it at one input. -/
def fnExactOrderOfRowsWrong : ChangeSpec := { name := "fnExactOrderOfRows", fn := fun _ => fun
  | [d1, d2] => { results := [.lit (.bool false)], args := [d1, d2] }
  | _ => none }
def FnExactOrderOfRowsWrongFalsely : Prop := fnExactOrderOfRowsRow.holds Try.pinned (OpenSpec.ofChange fnExactOrderOfRowsWrong)

/- THE SECOND FORM. 'bulk': how many values and letters a reading holds, each counted each time it is reached (what is shared counts as often as it is met; a slice's spare places count too). A statement '..UptoSaid' is the law's where the arguments, and the package variables that the reading takes, are together of bulk at most 1048576: NARROWER than '..Said'. Prove '..Said' where nothing that the law and all that it calls make is longer than what came in: it says more and counts as full. Else prove '..UptoSaid'. A law counts once. -/
mutual
def uptoBulk {H : Type} : DataW H → Nat
  | .lit (.string bytes) => bytes.length + 1
  | .lit _ => 1
  | .nil => 1
  | .ptr d => uptoBulk d + 1
  | .slice elems spare => uptoBulkAll elems + uptoBulkAll spare + 1
  | .agg parts => uptoBulkAll parts + 1
  | .iface _ d => uptoBulk d + 1
  | .map entries => uptoBulkEntries entries + 1
  | .held _ => 1
def uptoBulkAll {H : Type} : List (DataW H) → Nat
  | [] => 0
  | d :: r => uptoBulk d + uptoBulkAll r
def uptoBulkEntries {H : Type} : List (Lit × DataW H) → Nat
  | [] => 0
  | x :: r => uptoBulkEntry x + uptoBulkEntries r
def uptoBulkEntry {H : Type} : Lit × DataW H → Nat
  | (.string bytes, d) => bytes.length + uptoBulk d + 1
  | (_, d) => uptoBulk d + 1
 end
def uptoSmall : (H : Type) → List (DataW H) → Bool := fun _ ds => decide (uptoBulkAll ds ≤ 1048576)
def OpenSpec.upto (s : _root_.Go.ChangeSpec) : _root_.Go.OpenSpec := { _root_.Go.OpenSpec.ofChange s with cond := some uptoSmall }

/-- 'laws.FnQueues', WHERE WHAT IT READS IS OF BULK AT MOST 1048576: true; the input reads as it did. -/
def fnQueuesUptoRow : OpenClaim := { program := "ytmnggcnipjdimaa", sum := "580f2cb13d9b3305fc9ba0658072694f485f2ed76fdb15fe9de16fe50aab5660", func := "loop.example/g01286/laws.FnQueues", spec := "fnQueues", unfollowed := true, recurses := true, plainKeys := false, apart := false, narrowed := true }
def FnQueuesUptoSaid : Prop := fnQueuesUptoRow.holds Try.pinned (OpenSpec.upto fnQueuesSpec)

/-- 'laws.FnRows', WHERE WHAT IT READS IS OF BULK AT MOST 1048576: true; the input reads as it did. -/
def fnRowsUptoRow : OpenClaim := { program := "ytmnggcnipjdimaa", sum := "580f2cb13d9b3305fc9ba0658072694f485f2ed76fdb15fe9de16fe50aab5660", func := "loop.example/g01286/laws.FnRows", spec := "fnRows", unfollowed := true, recurses := true, plainKeys := false, apart := false, narrowed := true }
def FnRowsUptoSaid : Prop := fnRowsUptoRow.holds Try.pinned (OpenSpec.upto fnRowsSpec)

/-- 'laws.FnExactLongestRise', WHERE WHAT IT READS IS OF BULK AT MOST 1048576: true; the input reads as it did. -/
def fnExactLongestRiseUptoRow : OpenClaim := { program := "ytmnggcnipjdimaa", sum := "580f2cb13d9b3305fc9ba0658072694f485f2ed76fdb15fe9de16fe50aab5660", func := "loop.example/g01286/laws.FnExactLongestRise", spec := "fnExactLongestRise", unfollowed := true, recurses := true, plainKeys := false, apart := false, narrowed := true }
def FnExactLongestRiseUptoSaid : Prop := fnExactLongestRiseUptoRow.holds Try.pinned (OpenSpec.upto fnExactLongestRiseSpec)

/-- 'laws.FnExactLongestFall', WHERE WHAT IT READS IS OF BULK AT MOST 1048576: true; the input reads as it did. -/
def fnExactLongestFallUptoRow : OpenClaim := { program := "ytmnggcnipjdimaa", sum := "580f2cb13d9b3305fc9ba0658072694f485f2ed76fdb15fe9de16fe50aab5660", func := "loop.example/g01286/laws.FnExactLongestFall", spec := "fnExactLongestFall", unfollowed := true, recurses := true, plainKeys := false, apart := false, narrowed := true }
def FnExactLongestFallUptoSaid : Prop := fnExactLongestFallUptoRow.holds Try.pinned (OpenSpec.upto fnExactLongestFallSpec)

/-- 'laws.FnExactFewestQueues', WHERE WHAT IT READS IS OF BULK AT MOST 1048576: true; the input reads as it did. -/
def fnExactFewestQueuesUptoRow : OpenClaim := { program := "ytmnggcnipjdimaa", sum := "580f2cb13d9b3305fc9ba0658072694f485f2ed76fdb15fe9de16fe50aab5660", func := "loop.example/g01286/laws.FnExactFewestQueues", spec := "fnExactFewestQueues", plainKeys := false, apart := false, narrowed := true }
def FnExactFewestQueuesUptoSaid : Prop := fnExactFewestQueuesUptoRow.holds Try.pinned (OpenSpec.upto fnExactFewestQueuesSpec)

/-- 'laws.FnExactQueuesOf', WHERE WHAT IT READS IS OF BULK AT MOST 1048576: true; the input reads as it did. -/
def fnExactQueuesOfUptoRow : OpenClaim := { program := "ytmnggcnipjdimaa", sum := "580f2cb13d9b3305fc9ba0658072694f485f2ed76fdb15fe9de16fe50aab5660", func := "loop.example/g01286/laws.FnExactQueuesOf", spec := "fnExactQueuesOf", plainKeys := false, apart := false, narrowed := true }
def FnExactQueuesOfUptoSaid : Prop := fnExactQueuesOfUptoRow.holds Try.pinned (OpenSpec.upto fnExactQueuesOfSpec)

/-- 'laws.FnExactCountQueueWays', WHERE WHAT IT READS IS OF BULK AT MOST 1048576: true; the input reads as it did. -/
def fnExactCountQueueWaysUptoRow : OpenClaim := { program := "ytmnggcnipjdimaa", sum := "580f2cb13d9b3305fc9ba0658072694f485f2ed76fdb15fe9de16fe50aab5660", func := "loop.example/g01286/laws.FnExactCountQueueWays", spec := "fnExactCountQueueWays", recurses := true, plainKeys := false, apart := false, narrowed := true }
def FnExactCountQueueWaysUptoSaid : Prop := fnExactCountQueueWaysUptoRow.holds Try.pinned (OpenSpec.upto fnExactCountQueueWaysSpec)

/-- 'laws.FnExactCountQueueable', WHERE WHAT IT READS IS OF BULK AT MOST 1048576: true; the input reads as it did. -/
def fnExactCountQueueableUptoRow : OpenClaim := { program := "ytmnggcnipjdimaa", sum := "580f2cb13d9b3305fc9ba0658072694f485f2ed76fdb15fe9de16fe50aab5660", func := "loop.example/g01286/laws.FnExactCountQueueable", spec := "fnExactCountQueueable", unfollowed := true, recurses := true, plainKeys := false, apart := false, narrowed := true }
def FnExactCountQueueableUptoSaid : Prop := fnExactCountQueueableUptoRow.holds Try.pinned (OpenSpec.upto fnExactCountQueueableSpec)

/-- 'laws.FnExactRunsOf', WHERE WHAT IT READS IS OF BULK AT MOST 1048576: true; the input reads as it did. -/
def fnExactRunsOfUptoRow : OpenClaim := { program := "ytmnggcnipjdimaa", sum := "580f2cb13d9b3305fc9ba0658072694f485f2ed76fdb15fe9de16fe50aab5660", func := "loop.example/g01286/laws.FnExactRunsOf", spec := "fnExactRunsOf", plainKeys := false, apart := false, narrowed := true }
def FnExactRunsOfUptoSaid : Prop := fnExactRunsOfUptoRow.holds Try.pinned (OpenSpec.upto fnExactRunsOfSpec)

/-- 'laws.FnExactMergePass', WHERE WHAT IT READS IS OF BULK AT MOST 1048576: true; the input reads as it did. -/
def fnExactMergePassUptoRow : OpenClaim := { program := "ytmnggcnipjdimaa", sum := "580f2cb13d9b3305fc9ba0658072694f485f2ed76fdb15fe9de16fe50aab5660", func := "loop.example/g01286/laws.FnExactMergePass", spec := "fnExactMergePass", unfollowed := true, recurses := true, plainKeys := false, apart := false, narrowed := true }
def FnExactMergePassUptoSaid : Prop := fnExactMergePassUptoRow.holds Try.pinned (OpenSpec.upto fnExactMergePassSpec)

/-- 'laws.FnExactCountPasses', WHERE WHAT IT READS IS OF BULK AT MOST 1048576: true; the input reads as it did. -/
def fnExactCountPassesUptoRow : OpenClaim := { program := "ytmnggcnipjdimaa", sum := "580f2cb13d9b3305fc9ba0658072694f485f2ed76fdb15fe9de16fe50aab5660", func := "loop.example/g01286/laws.FnExactCountPasses", spec := "fnExactCountPasses", unfollowed := true, recurses := true, plainKeys := false, apart := false, narrowed := true }
def FnExactCountPassesUptoSaid : Prop := fnExactCountPassesUptoRow.holds Try.pinned (OpenSpec.upto fnExactCountPassesSpec)

/-- 'laws.FnExactRowsOf', WHERE WHAT IT READS IS OF BULK AT MOST 1048576: true; the input reads as it did. -/
def fnExactRowsOfUptoRow : OpenClaim := { program := "ytmnggcnipjdimaa", sum := "580f2cb13d9b3305fc9ba0658072694f485f2ed76fdb15fe9de16fe50aab5660", func := "loop.example/g01286/laws.FnExactRowsOf", spec := "fnExactRowsOf", unfollowed := true, recurses := true, plainKeys := false, apart := false, narrowed := true }
def FnExactRowsOfUptoSaid : Prop := fnExactRowsOfUptoRow.holds Try.pinned (OpenSpec.upto fnExactRowsOfSpec)

/-- 'laws.FnExactTwinRowsOf', WHERE WHAT IT READS IS OF BULK AT MOST 1048576: true; the input reads as it did. -/
def fnExactTwinRowsOfUptoRow : OpenClaim := { program := "ytmnggcnipjdimaa", sum := "580f2cb13d9b3305fc9ba0658072694f485f2ed76fdb15fe9de16fe50aab5660", func := "loop.example/g01286/laws.FnExactTwinRowsOf", spec := "fnExactTwinRowsOf", unfollowed := true, recurses := true, plainKeys := false, apart := false, narrowed := true }
def FnExactTwinRowsOfUptoSaid : Prop := fnExactTwinRowsOfUptoRow.holds Try.pinned (OpenSpec.upto fnExactTwinRowsOfSpec)

/-- 'laws.FnExactAreRows', WHERE WHAT IT READS IS OF BULK AT MOST 1048576: true; the input reads as it did. -/
def fnExactAreRowsUptoRow : OpenClaim := { program := "ytmnggcnipjdimaa", sum := "580f2cb13d9b3305fc9ba0658072694f485f2ed76fdb15fe9de16fe50aab5660", func := "loop.example/g01286/laws.FnExactAreRows", spec := "fnExactAreRows", plainKeys := false, apart := false, narrowed := true }
def FnExactAreRowsUptoSaid : Prop := fnExactAreRowsUptoRow.holds Try.pinned (OpenSpec.upto fnExactAreRowsSpec)

/-- 'laws.FnExactOrderOfRows', WHERE WHAT IT READS IS OF BULK AT MOST 1048576: true; the input reads as it did. -/
def fnExactOrderOfRowsUptoRow : OpenClaim := { program := "ytmnggcnipjdimaa", sum := "580f2cb13d9b3305fc9ba0658072694f485f2ed76fdb15fe9de16fe50aab5660", func := "loop.example/g01286/laws.FnExactOrderOfRows", spec := "fnExactOrderOfRows", unfollowed := true, recurses := true, plainKeys := false, apart := false, narrowed := true }
def FnExactOrderOfRowsUptoSaid : Prop := fnExactOrderOfRowsUptoRow.holds Try.pinned (OpenSpec.upto fnExactOrderOfRowsSpec)

end Rows
end Go.Proofs.Ytmnggcnipjdimaa
