/-
  No cell of these rows narrows 'for every input' (looked for: loops, veiled, ifaces, maps, wideKeys, modest, calm, conditions, laid).
  DERIVED. THE GIVEN ROWS OF THIS SEAT. 13 by the template 'for every input the law returns true; each argument reads behind the call as it read before'; 0 by the template 'total and deterministic' (their statements: YtpkjnlabjmpokaaTotals.lean).
  GIVEN WITH THE SEED: the statements are not yours to turn. If you find one false, say at which input.
  Laid BY PROGRAM, IN A SANDBOX (cutbox-rows.mjs): the forced cells as the released guide's own fill.sh prints them over the translation e61aaf37507bf38e… (all of the seat's roots in one cut). By AI agents, Wed Nov 11 2026. No macro, syntax, notation, axiom, sorry.
-/
import Derived.Test.YtpkjnlabjmpokaaChecked
import GoSem.Claim
import GoSem.ClaimJoined
import GoSem.ClaimMapViews
import Derived.JoinedTies
import Derived.KernelRfl
namespace Go.Proofs.Ytpkjnlabjmpokaa
/- THE CELL 'sum', in the pinned program and in every row, IS THE sha256 OF THE DUMP (.gsa) THAT YtpkjnlabjmpokaaProg.lean LOADS. Nothing in Lean hashes anything: it is a label: what it is worth is what the hold of that sum in a sandbox is worth. -/
noncomputable def Try.pinned : Pinned := { name := "ytpkjnlabjmpokaa", sum := "e61aaf37507bf38e86e269873bb58dc46cc8f6b7ccbdda35c1a0d61bade7adc4", checked := Try.checked }
namespace Rows
def none {H : Type} : Left H := { results := [], args := [] }

/-- 'laws.FnExactChanceOutput': WHATEVER THE INPUT: true; the input reads as it did. -/
def fnExactChanceOutputSpec : ChangeSpec := { name := "fnExactChanceOutput", fn := fun _ => fun
  | [d] => { results := [.lit (.bool true)], args := [d] }
  | _ => none }
def fnExactChanceOutputRow : OpenClaim := { program := "ytpkjnlabjmpokaa", sum := "e61aaf37507bf38e86e269873bb58dc46cc8f6b7ccbdda35c1a0d61bade7adc4", func := "loop.example/g01286/laws.FnExactChanceOutput", spec := "fnExactChanceOutput", unfollowed := true, recurses := true, apart := false }
def FnExactChanceOutputSaid : Prop := fnExactChanceOutputRow.holds Try.pinned (OpenSpec.ofChange fnExactChanceOutputSpec)

/-- ITS FALSE NEIGHBOUR: 'it returns false'. Refute it at one input. -/
def fnExactChanceOutputWrong : ChangeSpec := { name := "fnExactChanceOutput", fn := fun _ => fun
  | [d] => { results := [.lit (.bool false)], args := [d] }
  | _ => none }
def FnExactChanceOutputWrongFalsely : Prop := fnExactChanceOutputRow.holds Try.pinned (OpenSpec.ofChange fnExactChanceOutputWrong)

/-- 'laws.FnExactChanceSorts': WHATEVER THE INPUT: true; the input reads as it did. -/
def fnExactChanceSortsSpec : ChangeSpec := { name := "fnExactChanceSorts", fn := fun _ => fun
  | [d] => { results := [.lit (.bool true)], args := [d] }
  | _ => none }
def fnExactChanceSortsRow : OpenClaim := { program := "ytpkjnlabjmpokaa", sum := "e61aaf37507bf38e86e269873bb58dc46cc8f6b7ccbdda35c1a0d61bade7adc4", func := "loop.example/g01286/laws.FnExactChanceSorts", spec := "fnExactChanceSorts", unfollowed := true, recurses := true, apart := false }
def FnExactChanceSortsSaid : Prop := fnExactChanceSortsRow.holds Try.pinned (OpenSpec.ofChange fnExactChanceSortsSpec)

/-- ITS FALSE NEIGHBOUR: 'it returns false'. Refute it at one input. -/
def fnExactChanceSortsWrong : ChangeSpec := { name := "fnExactChanceSorts", fn := fun _ => fun
  | [d] => { results := [.lit (.bool false)], args := [d] }
  | _ => none }
def FnExactChanceSortsWrongFalsely : Prop := fnExactChanceSortsRow.holds Try.pinned (OpenSpec.ofChange fnExactChanceSortsWrong)

/-- 'laws.FnExactChanceAvoids': WHATEVER THE INPUT: true; the input reads as it did. -/
def fnExactChanceAvoidsSpec : ChangeSpec := { name := "fnExactChanceAvoids", fn := fun _ => fun
  | [d1, d2] => { results := [.lit (.bool true)], args := [d1, d2] }
  | _ => none }
def fnExactChanceAvoidsRow : OpenClaim := { program := "ytpkjnlabjmpokaa", sum := "e61aaf37507bf38e86e269873bb58dc46cc8f6b7ccbdda35c1a0d61bade7adc4", func := "loop.example/g01286/laws.FnExactChanceAvoids", spec := "fnExactChanceAvoids", unfollowed := true, recurses := true, apart := false }
def FnExactChanceAvoidsSaid : Prop := fnExactChanceAvoidsRow.holds Try.pinned (OpenSpec.ofChange fnExactChanceAvoidsSpec)

/-- ITS FALSE NEIGHBOUR: 'it returns false'. Refute it at one input. -/
def fnExactChanceAvoidsWrong : ChangeSpec := { name := "fnExactChanceAvoids", fn := fun _ => fun
  | [d1, d2] => { results := [.lit (.bool false)], args := [d1, d2] }
  | _ => none }
def FnExactChanceAvoidsWrongFalsely : Prop := fnExactChanceAvoidsRow.holds Try.pinned (OpenSpec.ofChange fnExactChanceAvoidsWrong)

/-- 'laws.FnExactChanceQueues': WHATEVER THE INPUT: true; the input reads as it did. -/
def fnExactChanceQueuesSpec : ChangeSpec := { name := "fnExactChanceQueues", fn := fun _ => fun
  | [d1, d2] => { results := [.lit (.bool true)], args := [d1, d2] }
  | _ => none }
def fnExactChanceQueuesRow : OpenClaim := { program := "ytpkjnlabjmpokaa", sum := "e61aaf37507bf38e86e269873bb58dc46cc8f6b7ccbdda35c1a0d61bade7adc4", func := "loop.example/g01286/laws.FnExactChanceQueues", spec := "fnExactChanceQueues", unfollowed := true, recurses := true, apart := false }
def FnExactChanceQueuesSaid : Prop := fnExactChanceQueuesRow.holds Try.pinned (OpenSpec.ofChange fnExactChanceQueuesSpec)

/-- ITS FALSE NEIGHBOUR: 'it returns false'. Refute it at one input. -/
def fnExactChanceQueuesWrong : ChangeSpec := { name := "fnExactChanceQueues", fn := fun _ => fun
  | [d1, d2] => { results := [.lit (.bool false)], args := [d1, d2] }
  | _ => none }
def FnExactChanceQueuesWrongFalsely : Prop := fnExactChanceQueuesRow.holds Try.pinned (OpenSpec.ofChange fnExactChanceQueuesWrong)

/-- 'laws.FnExactChanceStacks': WHATEVER THE INPUT: true; the input reads as it did. -/
def fnExactChanceStacksSpec : ChangeSpec := { name := "fnExactChanceStacks", fn := fun _ => fun
  | [d1, d2] => { results := [.lit (.bool true)], args := [d1, d2] }
  | _ => none }
def fnExactChanceStacksRow : OpenClaim := { program := "ytpkjnlabjmpokaa", sum := "e61aaf37507bf38e86e269873bb58dc46cc8f6b7ccbdda35c1a0d61bade7adc4", func := "loop.example/g01286/laws.FnExactChanceStacks", spec := "fnExactChanceStacks", unfollowed := true, recurses := true, apart := false }
def FnExactChanceStacksSaid : Prop := fnExactChanceStacksRow.holds Try.pinned (OpenSpec.ofChange fnExactChanceStacksSpec)

/-- ITS FALSE NEIGHBOUR: 'it returns false'. Refute it at one input. -/
def fnExactChanceStacksWrong : ChangeSpec := { name := "fnExactChanceStacks", fn := fun _ => fun
  | [d1, d2] => { results := [.lit (.bool false)], args := [d1, d2] }
  | _ => none }
def FnExactChanceStacksWrongFalsely : Prop := fnExactChanceStacksRow.holds Try.pinned (OpenSpec.ofChange fnExactChanceStacksWrong)

/-- 'laws.FnExactMeanRise': WHATEVER THE INPUT: true; the input reads as it did. -/
def fnExactMeanRiseSpec : ChangeSpec := { name := "fnExactMeanRise", fn := fun _ => fun
  | [d] => { results := [.lit (.bool true)], args := [d] }
  | _ => none }
def fnExactMeanRiseRow : OpenClaim := { program := "ytpkjnlabjmpokaa", sum := "e61aaf37507bf38e86e269873bb58dc46cc8f6b7ccbdda35c1a0d61bade7adc4", func := "loop.example/g01286/laws.FnExactMeanRise", spec := "fnExactMeanRise", unfollowed := true, recurses := true, apart := false }
def FnExactMeanRiseSaid : Prop := fnExactMeanRiseRow.holds Try.pinned (OpenSpec.ofChange fnExactMeanRiseSpec)

/-- ITS FALSE NEIGHBOUR: 'it returns false'. Refute it at one input. -/
def fnExactMeanRiseWrong : ChangeSpec := { name := "fnExactMeanRise", fn := fun _ => fun
  | [d] => { results := [.lit (.bool false)], args := [d] }
  | _ => none }
def FnExactMeanRiseWrongFalsely : Prop := fnExactMeanRiseRow.holds Try.pinned (OpenSpec.ofChange fnExactMeanRiseWrong)

/-- 'laws.FnExactMeanRuns': WHATEVER THE INPUT: true; the input reads as it did. -/
def fnExactMeanRunsSpec : ChangeSpec := { name := "fnExactMeanRuns", fn := fun _ => fun
  | [d] => { results := [.lit (.bool true)], args := [d] }
  | _ => none }
def fnExactMeanRunsRow : OpenClaim := { program := "ytpkjnlabjmpokaa", sum := "e61aaf37507bf38e86e269873bb58dc46cc8f6b7ccbdda35c1a0d61bade7adc4", func := "loop.example/g01286/laws.FnExactMeanRuns", spec := "fnExactMeanRuns", unfollowed := true, recurses := true, apart := false }
def FnExactMeanRunsSaid : Prop := fnExactMeanRunsRow.holds Try.pinned (OpenSpec.ofChange fnExactMeanRunsSpec)

/-- ITS FALSE NEIGHBOUR: 'it returns false'. Refute it at one input. -/
def fnExactMeanRunsWrong : ChangeSpec := { name := "fnExactMeanRuns", fn := fun _ => fun
  | [d] => { results := [.lit (.bool false)], args := [d] }
  | _ => none }
def FnExactMeanRunsWrongFalsely : Prop := fnExactMeanRunsRow.holds Try.pinned (OpenSpec.ofChange fnExactMeanRunsWrong)

/-- 'laws.FnExactMeanPasses': WHATEVER THE INPUT: true; the input reads as it did. -/
def fnExactMeanPassesSpec : ChangeSpec := { name := "fnExactMeanPasses", fn := fun _ => fun
  | [d] => { results := [.lit (.bool true)], args := [d] }
  | _ => none }
def fnExactMeanPassesRow : OpenClaim := { program := "ytpkjnlabjmpokaa", sum := "e61aaf37507bf38e86e269873bb58dc46cc8f6b7ccbdda35c1a0d61bade7adc4", func := "loop.example/g01286/laws.FnExactMeanPasses", spec := "fnExactMeanPasses", unfollowed := true, recurses := true, apart := false }
def FnExactMeanPassesSaid : Prop := fnExactMeanPassesRow.holds Try.pinned (OpenSpec.ofChange fnExactMeanPassesSpec)

/-- ITS FALSE NEIGHBOUR: 'it returns false'. Refute it at one input. -/
def fnExactMeanPassesWrong : ChangeSpec := { name := "fnExactMeanPasses", fn := fun _ => fun
  | [d] => { results := [.lit (.bool false)], args := [d] }
  | _ => none }
def FnExactMeanPassesWrongFalsely : Prop := fnExactMeanPassesRow.holds Try.pinned (OpenSpec.ofChange fnExactMeanPassesWrong)

/-- 'laws.FnExactMeanInversions': WHATEVER THE INPUT: true; the input reads as it did. -/
def fnExactMeanInversionsSpec : ChangeSpec := { name := "fnExactMeanInversions", fn := fun _ => fun
  | [d] => { results := [.lit (.bool true)], args := [d] }
  | _ => none }
def fnExactMeanInversionsRow : OpenClaim := { program := "ytpkjnlabjmpokaa", sum := "e61aaf37507bf38e86e269873bb58dc46cc8f6b7ccbdda35c1a0d61bade7adc4", func := "loop.example/g01286/laws.FnExactMeanInversions", spec := "fnExactMeanInversions", unfollowed := true, recurses := true, apart := false }
def FnExactMeanInversionsSaid : Prop := fnExactMeanInversionsRow.holds Try.pinned (OpenSpec.ofChange fnExactMeanInversionsSpec)

/-- ITS FALSE NEIGHBOUR: 'it returns false'. Refute it at one input. -/
def fnExactMeanInversionsWrong : ChangeSpec := { name := "fnExactMeanInversions", fn := fun _ => fun
  | [d] => { results := [.lit (.bool false)], args := [d] }
  | _ => none }
def FnExactMeanInversionsWrongFalsely : Prop := fnExactMeanInversionsRow.holds Try.pinned (OpenSpec.ofChange fnExactMeanInversionsWrong)

/-- 'laws.FnExactMeanDepth': WHATEVER THE INPUT: true; the input reads as it did. -/
def fnExactMeanDepthSpec : ChangeSpec := { name := "fnExactMeanDepth", fn := fun _ => fun
  | [d] => { results := [.lit (.bool true)], args := [d] }
  | _ => none }
def fnExactMeanDepthRow : OpenClaim := { program := "ytpkjnlabjmpokaa", sum := "e61aaf37507bf38e86e269873bb58dc46cc8f6b7ccbdda35c1a0d61bade7adc4", func := "loop.example/g01286/laws.FnExactMeanDepth", spec := "fnExactMeanDepth", unfollowed := true, recurses := true, apart := false }
def FnExactMeanDepthSaid : Prop := fnExactMeanDepthRow.holds Try.pinned (OpenSpec.ofChange fnExactMeanDepthSpec)

/-- ITS FALSE NEIGHBOUR: 'it returns false'. Refute it at one input. -/
def fnExactMeanDepthWrong : ChangeSpec := { name := "fnExactMeanDepth", fn := fun _ => fun
  | [d] => { results := [.lit (.bool false)], args := [d] }
  | _ => none }
def FnExactMeanDepthWrongFalsely : Prop := fnExactMeanDepthRow.holds Try.pinned (OpenSpec.ofChange fnExactMeanDepthWrong)

/-- 'laws.FnExactChanceDepth': WHATEVER THE INPUT: true; the input reads as it did. -/
def fnExactChanceDepthSpec : ChangeSpec := { name := "fnExactChanceDepth", fn := fun _ => fun
  | [d1, d2] => { results := [.lit (.bool true)], args := [d1, d2] }
  | _ => none }
def fnExactChanceDepthRow : OpenClaim := { program := "ytpkjnlabjmpokaa", sum := "e61aaf37507bf38e86e269873bb58dc46cc8f6b7ccbdda35c1a0d61bade7adc4", func := "loop.example/g01286/laws.FnExactChanceDepth", spec := "fnExactChanceDepth", unfollowed := true, recurses := true, apart := false }
def FnExactChanceDepthSaid : Prop := fnExactChanceDepthRow.holds Try.pinned (OpenSpec.ofChange fnExactChanceDepthSpec)

/-- ITS FALSE NEIGHBOUR: 'it returns false'. Refute it at one input. -/
def fnExactChanceDepthWrong : ChangeSpec := { name := "fnExactChanceDepth", fn := fun _ => fun
  | [d1, d2] => { results := [.lit (.bool false)], args := [d1, d2] }
  | _ => none }
def FnExactChanceDepthWrongFalsely : Prop := fnExactChanceDepthRow.holds Try.pinned (OpenSpec.ofChange fnExactChanceDepthWrong)

/-- 'laws.FnExactMeanKept': WHATEVER THE INPUT: true; the input reads as it did. -/
def fnExactMeanKeptSpec : ChangeSpec := { name := "fnExactMeanKept", fn := fun _ => fun
  | [d] => { results := [.lit (.bool true)], args := [d] }
  | _ => none }
def fnExactMeanKeptRow : OpenClaim := { program := "ytpkjnlabjmpokaa", sum := "e61aaf37507bf38e86e269873bb58dc46cc8f6b7ccbdda35c1a0d61bade7adc4", func := "loop.example/g01286/laws.FnExactMeanKept", spec := "fnExactMeanKept", unfollowed := true, recurses := true, apart := false }
def FnExactMeanKeptSaid : Prop := fnExactMeanKeptRow.holds Try.pinned (OpenSpec.ofChange fnExactMeanKeptSpec)

/-- ITS FALSE NEIGHBOUR: 'it returns false'. Refute it at one input. -/
def fnExactMeanKeptWrong : ChangeSpec := { name := "fnExactMeanKept", fn := fun _ => fun
  | [d] => { results := [.lit (.bool false)], args := [d] }
  | _ => none }
def FnExactMeanKeptWrongFalsely : Prop := fnExactMeanKeptRow.holds Try.pinned (OpenSpec.ofChange fnExactMeanKeptWrong)

/-- 'laws.FnExactMeanConflicts': WHATEVER THE INPUT: true; the input reads as it did. -/
def fnExactMeanConflictsSpec : ChangeSpec := { name := "fnExactMeanConflicts", fn := fun _ => fun
  | [d] => { results := [.lit (.bool true)], args := [d] }
  | _ => none }
def fnExactMeanConflictsRow : OpenClaim := { program := "ytpkjnlabjmpokaa", sum := "e61aaf37507bf38e86e269873bb58dc46cc8f6b7ccbdda35c1a0d61bade7adc4", func := "loop.example/g01286/laws.FnExactMeanConflicts", spec := "fnExactMeanConflicts", unfollowed := true, recurses := true, apart := false }
def FnExactMeanConflictsSaid : Prop := fnExactMeanConflictsRow.holds Try.pinned (OpenSpec.ofChange fnExactMeanConflictsSpec)

/-- ITS FALSE NEIGHBOUR: 'it returns false'. Refute it at one input. -/
def fnExactMeanConflictsWrong : ChangeSpec := { name := "fnExactMeanConflicts", fn := fun _ => fun
  | [d] => { results := [.lit (.bool false)], args := [d] }
  | _ => none }
def FnExactMeanConflictsWrongFalsely : Prop := fnExactMeanConflictsRow.holds Try.pinned (OpenSpec.ofChange fnExactMeanConflictsWrong)

/- THE SECOND FORM. 'bulk': how many values and letters a reading holds, each counted each time it is reached (what is shared counts as often as it is met; a slice's spare places count too). A statement '..UptoSaid' is the law's where the arguments, and the package variables that the reading takes, are together of bulk at most 1048576: NARROWER than '..Said'. Prove '..Said' where nothing that the law and all that it calls make is longer than what came in: it says more and counts as full. Else prove '..UptoSaid'. A law counts once. -/
mutual
def uptoBulk {H : Type} : DataW H → Nat
  | .lit (.string bytes) => bytes.length + 1
  | .lit _ => 1
  | .nil => 1
  | .ptr d => uptoBulk d + 1
  | .slice elems spare => uptoBulkAll elems + uptoBulkAll spare + 1
  | .agg parts => uptoBulkAll parts + 1
  | .iface _ d => uptoBulk d + 1
  | .map entries => uptoBulkEntries entries + 1
  | .held _ => 1
def uptoBulkAll {H : Type} : List (DataW H) → Nat
  | [] => 0
  | d :: r => uptoBulk d + uptoBulkAll r
def uptoBulkEntries {H : Type} : List (Lit × DataW H) → Nat
  | [] => 0
  | x :: r => uptoBulkEntry x + uptoBulkEntries r
def uptoBulkEntry {H : Type} : Lit × DataW H → Nat
  | (.string bytes, d) => bytes.length + uptoBulk d + 1
  | (_, d) => uptoBulk d + 1
 end
def uptoSmall : (H : Type) → List (DataW H) → Bool := fun _ ds => decide (uptoBulkAll ds ≤ 1048576)
def OpenSpec.upto (s : _root_.Go.ChangeSpec) : _root_.Go.OpenSpec := { _root_.Go.OpenSpec.ofChange s with cond := some uptoSmall }

/-- 'laws.FnExactChanceOutput', WHERE WHAT IT READS IS OF BULK AT MOST 1048576: true; the input reads as it did. -/
def fnExactChanceOutputUptoRow : OpenClaim := { program := "ytpkjnlabjmpokaa", sum := "e61aaf37507bf38e86e269873bb58dc46cc8f6b7ccbdda35c1a0d61bade7adc4", func := "loop.example/g01286/laws.FnExactChanceOutput", spec := "fnExactChanceOutput", unfollowed := true, recurses := true, apart := false, narrowed := true }
def FnExactChanceOutputUptoSaid : Prop := fnExactChanceOutputUptoRow.holds Try.pinned (OpenSpec.upto fnExactChanceOutputSpec)

/-- 'laws.FnExactChanceSorts', WHERE WHAT IT READS IS OF BULK AT MOST 1048576: true; the input reads as it did. -/
def fnExactChanceSortsUptoRow : OpenClaim := { program := "ytpkjnlabjmpokaa", sum := "e61aaf37507bf38e86e269873bb58dc46cc8f6b7ccbdda35c1a0d61bade7adc4", func := "loop.example/g01286/laws.FnExactChanceSorts", spec := "fnExactChanceSorts", unfollowed := true, recurses := true, apart := false, narrowed := true }
def FnExactChanceSortsUptoSaid : Prop := fnExactChanceSortsUptoRow.holds Try.pinned (OpenSpec.upto fnExactChanceSortsSpec)

/-- 'laws.FnExactChanceAvoids', WHERE WHAT IT READS IS OF BULK AT MOST 1048576: true; the input reads as it did. -/
def fnExactChanceAvoidsUptoRow : OpenClaim := { program := "ytpkjnlabjmpokaa", sum := "e61aaf37507bf38e86e269873bb58dc46cc8f6b7ccbdda35c1a0d61bade7adc4", func := "loop.example/g01286/laws.FnExactChanceAvoids", spec := "fnExactChanceAvoids", unfollowed := true, recurses := true, apart := false, narrowed := true }
def FnExactChanceAvoidsUptoSaid : Prop := fnExactChanceAvoidsUptoRow.holds Try.pinned (OpenSpec.upto fnExactChanceAvoidsSpec)

/-- 'laws.FnExactChanceQueues', WHERE WHAT IT READS IS OF BULK AT MOST 1048576: true; the input reads as it did. -/
def fnExactChanceQueuesUptoRow : OpenClaim := { program := "ytpkjnlabjmpokaa", sum := "e61aaf37507bf38e86e269873bb58dc46cc8f6b7ccbdda35c1a0d61bade7adc4", func := "loop.example/g01286/laws.FnExactChanceQueues", spec := "fnExactChanceQueues", unfollowed := true, recurses := true, apart := false, narrowed := true }
def FnExactChanceQueuesUptoSaid : Prop := fnExactChanceQueuesUptoRow.holds Try.pinned (OpenSpec.upto fnExactChanceQueuesSpec)

/-- 'laws.FnExactChanceStacks', WHERE WHAT IT READS IS OF BULK AT MOST 1048576: true; the input reads as it did. -/
def fnExactChanceStacksUptoRow : OpenClaim := { program := "ytpkjnlabjmpokaa", sum := "e61aaf37507bf38e86e269873bb58dc46cc8f6b7ccbdda35c1a0d61bade7adc4", func := "loop.example/g01286/laws.FnExactChanceStacks", spec := "fnExactChanceStacks", unfollowed := true, recurses := true, apart := false, narrowed := true }
def FnExactChanceStacksUptoSaid : Prop := fnExactChanceStacksUptoRow.holds Try.pinned (OpenSpec.upto fnExactChanceStacksSpec)

/-- 'laws.FnExactMeanRise', WHERE WHAT IT READS IS OF BULK AT MOST 1048576: true; the input reads as it did. -/
def fnExactMeanRiseUptoRow : OpenClaim := { program := "ytpkjnlabjmpokaa", sum := "e61aaf37507bf38e86e269873bb58dc46cc8f6b7ccbdda35c1a0d61bade7adc4", func := "loop.example/g01286/laws.FnExactMeanRise", spec := "fnExactMeanRise", unfollowed := true, recurses := true, apart := false, narrowed := true }
def FnExactMeanRiseUptoSaid : Prop := fnExactMeanRiseUptoRow.holds Try.pinned (OpenSpec.upto fnExactMeanRiseSpec)

/-- 'laws.FnExactMeanRuns', WHERE WHAT IT READS IS OF BULK AT MOST 1048576: true; the input reads as it did. -/
def fnExactMeanRunsUptoRow : OpenClaim := { program := "ytpkjnlabjmpokaa", sum := "e61aaf37507bf38e86e269873bb58dc46cc8f6b7ccbdda35c1a0d61bade7adc4", func := "loop.example/g01286/laws.FnExactMeanRuns", spec := "fnExactMeanRuns", unfollowed := true, recurses := true, apart := false, narrowed := true }
def FnExactMeanRunsUptoSaid : Prop := fnExactMeanRunsUptoRow.holds Try.pinned (OpenSpec.upto fnExactMeanRunsSpec)

/-- 'laws.FnExactMeanPasses', WHERE WHAT IT READS IS OF BULK AT MOST 1048576: true; the input reads as it did. -/
def fnExactMeanPassesUptoRow : OpenClaim := { program := "ytpkjnlabjmpokaa", sum := "e61aaf37507bf38e86e269873bb58dc46cc8f6b7ccbdda35c1a0d61bade7adc4", func := "loop.example/g01286/laws.FnExactMeanPasses", spec := "fnExactMeanPasses", unfollowed := true, recurses := true, apart := false, narrowed := true }
def FnExactMeanPassesUptoSaid : Prop := fnExactMeanPassesUptoRow.holds Try.pinned (OpenSpec.upto fnExactMeanPassesSpec)

/-- 'laws.FnExactMeanInversions', WHERE WHAT IT READS IS OF BULK AT MOST 1048576: true; the input reads as it did. -/
def fnExactMeanInversionsUptoRow : OpenClaim := { program := "ytpkjnlabjmpokaa", sum := "e61aaf37507bf38e86e269873bb58dc46cc8f6b7ccbdda35c1a0d61bade7adc4", func := "loop.example/g01286/laws.FnExactMeanInversions", spec := "fnExactMeanInversions", unfollowed := true, recurses := true, apart := false, narrowed := true }
def FnExactMeanInversionsUptoSaid : Prop := fnExactMeanInversionsUptoRow.holds Try.pinned (OpenSpec.upto fnExactMeanInversionsSpec)

/-- 'laws.FnExactMeanDepth', WHERE WHAT IT READS IS OF BULK AT MOST 1048576: true; the input reads as it did. -/
def fnExactMeanDepthUptoRow : OpenClaim := { program := "ytpkjnlabjmpokaa", sum := "e61aaf37507bf38e86e269873bb58dc46cc8f6b7ccbdda35c1a0d61bade7adc4", func := "loop.example/g01286/laws.FnExactMeanDepth", spec := "fnExactMeanDepth", unfollowed := true, recurses := true, apart := false, narrowed := true }
def FnExactMeanDepthUptoSaid : Prop := fnExactMeanDepthUptoRow.holds Try.pinned (OpenSpec.upto fnExactMeanDepthSpec)

/-- 'laws.FnExactChanceDepth', WHERE WHAT IT READS IS OF BULK AT MOST 1048576: true; the input reads as it did. -/
def fnExactChanceDepthUptoRow : OpenClaim := { program := "ytpkjnlabjmpokaa", sum := "e61aaf37507bf38e86e269873bb58dc46cc8f6b7ccbdda35c1a0d61bade7adc4", func := "loop.example/g01286/laws.FnExactChanceDepth", spec := "fnExactChanceDepth", unfollowed := true, recurses := true, apart := false, narrowed := true }
def FnExactChanceDepthUptoSaid : Prop := fnExactChanceDepthUptoRow.holds Try.pinned (OpenSpec.upto fnExactChanceDepthSpec)

/-- 'laws.FnExactMeanKept', WHERE WHAT IT READS IS OF BULK AT MOST 1048576: true; the input reads as it did. -/
def fnExactMeanKeptUptoRow : OpenClaim := { program := "ytpkjnlabjmpokaa", sum := "e61aaf37507bf38e86e269873bb58dc46cc8f6b7ccbdda35c1a0d61bade7adc4", func := "loop.example/g01286/laws.FnExactMeanKept", spec := "fnExactMeanKept", unfollowed := true, recurses := true, apart := false, narrowed := true }
def FnExactMeanKeptUptoSaid : Prop := fnExactMeanKeptUptoRow.holds Try.pinned (OpenSpec.upto fnExactMeanKeptSpec)

/-- 'laws.FnExactMeanConflicts', WHERE WHAT IT READS IS OF BULK AT MOST 1048576: true; the input reads as it did. -/
def fnExactMeanConflictsUptoRow : OpenClaim := { program := "ytpkjnlabjmpokaa", sum := "e61aaf37507bf38e86e269873bb58dc46cc8f6b7ccbdda35c1a0d61bade7adc4", func := "loop.example/g01286/laws.FnExactMeanConflicts", spec := "fnExactMeanConflicts", unfollowed := true, recurses := true, apart := false, narrowed := true }
def FnExactMeanConflictsUptoSaid : Prop := fnExactMeanConflictsUptoRow.holds Try.pinned (OpenSpec.upto fnExactMeanConflictsSpec)

end Rows
end Go.Proofs.Ytpkjnlabjmpokaa
