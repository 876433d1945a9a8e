/-
  No cell of these rows narrows 'for every input' (looked for: loops, veiled, ifaces, maps, wideKeys, modest, calm, conditions, laid).
  DERIVED. THE GIVEN ROWS OF THIS SEAT. 16 by the template 'for every input the law returns true; each argument reads behind the call as it read before'; 0 by the template 'total and deterministic' (their statements: YtecbfoodkcgehaaTotals.lean).
  GIVEN WITH THE SEED: the statements are not yours to turn. If you find one false, say at which input.
  Laid BY PROGRAM, IN A SANDBOX (cutbox-rows.mjs): the forced cells as the released guide's own fill.sh prints them over the translation 8b923b4fcc042ab1… (all of the seat's roots in one cut). By AI agents, Wed Nov 11 2026. No macro, syntax, notation, axiom, sorry.
-/
import Derived.Test.YtecbfoodkcgehaaChecked
import GoSem.Claim
import GoSem.ClaimJoined
import GoSem.ClaimMapViews
import Derived.JoinedTies
import Derived.KernelRfl
namespace Go.Proofs.Ytecbfoodkcgehaa
/- THE CELL 'sum', in the pinned program and in every row, IS THE sha256 OF THE DUMP (.gsa) THAT YtecbfoodkcgehaaProg.lean LOADS. Nothing in Lean hashes anything: it is a label: what it is worth is what the hold of that sum in a sandbox is worth. -/
noncomputable def Try.pinned : Pinned := { name := "ytecbfoodkcgehaa", sum := "8b923b4fcc042ab135b87cd00597b28d70cf3b0a5de2c7c78b14375db25afe5a", checked := Try.checked }
namespace Rows
def none {H : Type} : Left H := { results := [], args := [] }

/-- 'laws.FnCuts': WHATEVER THE INPUT: true; the input reads as it did. -/
def fnCutsSpec : ChangeSpec := { name := "fnCuts", fn := fun _ => fun
  | [d] => { results := [.lit (.bool true)], args := [d] }
  | _ => none }
def fnCutsRow : OpenClaim := { program := "ytecbfoodkcgehaa", sum := "8b923b4fcc042ab135b87cd00597b28d70cf3b0a5de2c7c78b14375db25afe5a", func := "loop.example/g01286/laws.FnCuts", spec := "fnCuts", inPlace := ["internal/abi.NoEscape", "internal/bytealg.MakeNoZero"], unfollowed := true, recurses := true, apart := false }
def FnCutsSaid : Prop := fnCutsRow.holds Try.pinned (OpenSpec.ofChange fnCutsSpec)

/-- ITS FALSE NEIGHBOUR: 'it returns false'. Refute it at one input. -/
def fnCutsWrong : ChangeSpec := { name := "fnCuts", fn := fun _ => fun
  | [d] => { results := [.lit (.bool false)], args := [d] }
  | _ => none }
def FnCutsWrongFalsely : Prop := fnCutsRow.holds Try.pinned (OpenSpec.ofChange fnCutsWrong)

/-- 'laws.FnFalls': WHATEVER THE INPUT: true; the input reads as it did. -/
def fnFallsSpec : ChangeSpec := { name := "fnFalls", fn := fun _ => fun
  | [d] => { results := [.lit (.bool true)], args := [d] }
  | _ => none }
def fnFallsRow : OpenClaim := { program := "ytecbfoodkcgehaa", sum := "8b923b4fcc042ab135b87cd00597b28d70cf3b0a5de2c7c78b14375db25afe5a", func := "loop.example/g01286/laws.FnFalls", spec := "fnFalls", inPlace := ["internal/abi.NoEscape", "internal/bytealg.MakeNoZero"], unfollowed := true, recurses := true, apart := false }
def FnFallsSaid : Prop := fnFallsRow.holds Try.pinned (OpenSpec.ofChange fnFallsSpec)

/-- ITS FALSE NEIGHBOUR: 'it returns false'. Refute it at one input. -/
def fnFallsWrong : ChangeSpec := { name := "fnFalls", fn := fun _ => fun
  | [d] => { results := [.lit (.bool false)], args := [d] }
  | _ => none }
def FnFallsWrongFalsely : Prop := fnFallsRow.holds Try.pinned (OpenSpec.ofChange fnFallsWrong)

/-- 'laws.FnExactAreCuts': WHATEVER THE INPUT: true; the input reads as it did. -/
def fnExactAreCutsSpec : ChangeSpec := { name := "fnExactAreCuts", fn := fun _ => fun
  | [d1, d2] => { results := [.lit (.bool true)], args := [d1, d2] }
  | _ => none }
def fnExactAreCutsRow : OpenClaim := { program := "ytecbfoodkcgehaa", sum := "8b923b4fcc042ab135b87cd00597b28d70cf3b0a5de2c7c78b14375db25afe5a", func := "loop.example/g01286/laws.FnExactAreCuts", spec := "fnExactAreCuts", apart := false }
def FnExactAreCutsSaid : Prop := fnExactAreCutsRow.holds Try.pinned (OpenSpec.ofChange fnExactAreCutsSpec)

/-- ITS FALSE NEIGHBOUR: 'it returns false'. Refute it at one input. -/
def fnExactAreCutsWrong : ChangeSpec := { name := "fnExactAreCuts", fn := fun _ => fun
  | [d1, d2] => { results := [.lit (.bool false)], args := [d1, d2] }
  | _ => none }
def FnExactAreCutsWrongFalsely : Prop := fnExactAreCutsRow.holds Try.pinned (OpenSpec.ofChange fnExactAreCutsWrong)

/-- 'laws.FnExactRunCuts': WHATEVER THE INPUT: true; the input reads as it did. -/
def fnExactRunCutsSpec : ChangeSpec := { name := "fnExactRunCuts", fn := fun _ => fun
  | [d1, d2] => { results := [.lit (.bool true)], args := [d1, d2] }
  | _ => none }
def fnExactRunCutsRow : OpenClaim := { program := "ytecbfoodkcgehaa", sum := "8b923b4fcc042ab135b87cd00597b28d70cf3b0a5de2c7c78b14375db25afe5a", func := "loop.example/g01286/laws.FnExactRunCuts", spec := "fnExactRunCuts", apart := false }
def FnExactRunCutsSaid : Prop := fnExactRunCutsRow.holds Try.pinned (OpenSpec.ofChange fnExactRunCutsSpec)

/-- ITS FALSE NEIGHBOUR: 'it returns false'. Refute it at one input. -/
def fnExactRunCutsWrong : ChangeSpec := { name := "fnExactRunCuts", fn := fun _ => fun
  | [d1, d2] => { results := [.lit (.bool false)], args := [d1, d2] }
  | _ => none }
def FnExactRunCutsWrongFalsely : Prop := fnExactRunCutsRow.holds Try.pinned (OpenSpec.ofChange fnExactRunCutsWrong)

/-- 'laws.FnExactCutsTo': WHATEVER THE INPUT: true; the input reads as it did. -/
def fnExactCutsToSpec : ChangeSpec := { name := "fnExactCutsTo", fn := fun _ => fun
  | [d1, d2] => { results := [.lit (.bool true)], args := [d1, d2] }
  | _ => none }
def fnExactCutsToRow : OpenClaim := { program := "ytecbfoodkcgehaa", sum := "8b923b4fcc042ab135b87cd00597b28d70cf3b0a5de2c7c78b14375db25afe5a", func := "loop.example/g01286/laws.FnExactCutsTo", spec := "fnExactCutsTo", inPlace := ["internal/abi.NoEscape", "internal/bytealg.MakeNoZero"], unfollowed := true, recurses := true, apart := false }
def FnExactCutsToSaid : Prop := fnExactCutsToRow.holds Try.pinned (OpenSpec.ofChange fnExactCutsToSpec)

/-- ITS FALSE NEIGHBOUR: 'it returns false'. Refute it at one input. -/
def fnExactCutsToWrong : ChangeSpec := { name := "fnExactCutsTo", fn := fun _ => fun
  | [d1, d2] => { results := [.lit (.bool false)], args := [d1, d2] }
  | _ => none }
def FnExactCutsToWrongFalsely : Prop := fnExactCutsToRow.holds Try.pinned (OpenSpec.ofChange fnExactCutsToWrong)

/-- 'laws.FnExactFallsOf': WHATEVER THE INPUT: true; the input reads as it did. -/
def fnExactFallsOfSpec : ChangeSpec := { name := "fnExactFallsOf", fn := fun _ => fun
  | [d] => { results := [.lit (.bool true)], args := [d] }
  | _ => none }
def fnExactFallsOfRow : OpenClaim := { program := "ytecbfoodkcgehaa", sum := "8b923b4fcc042ab135b87cd00597b28d70cf3b0a5de2c7c78b14375db25afe5a", func := "loop.example/g01286/laws.FnExactFallsOf", spec := "fnExactFallsOf", apart := false }
def FnExactFallsOfSaid : Prop := fnExactFallsOfRow.holds Try.pinned (OpenSpec.ofChange fnExactFallsOfSpec)

/-- ITS FALSE NEIGHBOUR: 'it returns false'. Refute it at one input. -/
def fnExactFallsOfWrong : ChangeSpec := { name := "fnExactFallsOf", fn := fun _ => fun
  | [d] => { results := [.lit (.bool false)], args := [d] }
  | _ => none }
def FnExactFallsOfWrongFalsely : Prop := fnExactFallsOfRow.holds Try.pinned (OpenSpec.ofChange fnExactFallsOfWrong)

/-- 'laws.FnExactFallSweep': WHATEVER THE INPUT: true; the input reads as it did. -/
def fnExactFallSweepSpec : ChangeSpec := { name := "fnExactFallSweep", fn := fun _ => fun
  | [d] => { results := [.lit (.bool true)], args := [d] }
  | _ => none }
def fnExactFallSweepRow : OpenClaim := { program := "ytecbfoodkcgehaa", sum := "8b923b4fcc042ab135b87cd00597b28d70cf3b0a5de2c7c78b14375db25afe5a", func := "loop.example/g01286/laws.FnExactFallSweep", spec := "fnExactFallSweep", apart := false }
def FnExactFallSweepSaid : Prop := fnExactFallSweepRow.holds Try.pinned (OpenSpec.ofChange fnExactFallSweepSpec)

/-- ITS FALSE NEIGHBOUR: 'it returns false'. Refute it at one input. -/
def fnExactFallSweepWrong : ChangeSpec := { name := "fnExactFallSweep", fn := fun _ => fun
  | [d] => { results := [.lit (.bool false)], args := [d] }
  | _ => none }
def FnExactFallSweepWrongFalsely : Prop := fnExactFallSweepRow.holds Try.pinned (OpenSpec.ofChange fnExactFallSweepWrong)

/-- 'laws.FnExactCountFallSweeps': WHATEVER THE INPUT: true; the input reads as it did. -/
def fnExactCountFallSweepsSpec : ChangeSpec := { name := "fnExactCountFallSweeps", fn := fun _ => fun
  | [d] => { results := [.lit (.bool true)], args := [d] }
  | _ => none }
def fnExactCountFallSweepsRow : OpenClaim := { program := "ytecbfoodkcgehaa", sum := "8b923b4fcc042ab135b87cd00597b28d70cf3b0a5de2c7c78b14375db25afe5a", func := "loop.example/g01286/laws.FnExactCountFallSweeps", spec := "fnExactCountFallSweeps", unfollowed := true, recurses := true, apart := false }
def FnExactCountFallSweepsSaid : Prop := fnExactCountFallSweepsRow.holds Try.pinned (OpenSpec.ofChange fnExactCountFallSweepsSpec)

/-- ITS FALSE NEIGHBOUR: 'it returns false'. Refute it at one input. -/
def fnExactCountFallSweepsWrong : ChangeSpec := { name := "fnExactCountFallSweeps", fn := fun _ => fun
  | [d] => { results := [.lit (.bool false)], args := [d] }
  | _ => none }
def FnExactCountFallSweepsWrongFalsely : Prop := fnExactCountFallSweepsRow.holds Try.pinned (OpenSpec.ofChange fnExactCountFallSweepsWrong)

/-- 'laws.FnExactIsLayered': WHATEVER THE INPUT: true; the input reads as it did. -/
def fnExactIsLayeredSpec : ChangeSpec := { name := "fnExactIsLayered", fn := fun _ => fun
  | [d] => { results := [.lit (.bool true)], args := [d] }
  | _ => none }
def fnExactIsLayeredRow : OpenClaim := { program := "ytecbfoodkcgehaa", sum := "8b923b4fcc042ab135b87cd00597b28d70cf3b0a5de2c7c78b14375db25afe5a", func := "loop.example/g01286/laws.FnExactIsLayered", spec := "fnExactIsLayered", inPlace := ["internal/abi.NoEscape", "internal/bytealg.MakeNoZero"], unfollowed := true, recurses := true, apart := false }
def FnExactIsLayeredSaid : Prop := fnExactIsLayeredRow.holds Try.pinned (OpenSpec.ofChange fnExactIsLayeredSpec)

/-- ITS FALSE NEIGHBOUR: 'it returns false'. Refute it at one input. -/
def fnExactIsLayeredWrong : ChangeSpec := { name := "fnExactIsLayered", fn := fun _ => fun
  | [d] => { results := [.lit (.bool false)], args := [d] }
  | _ => none }
def FnExactIsLayeredWrongFalsely : Prop := fnExactIsLayeredRow.holds Try.pinned (OpenSpec.ofChange fnExactIsLayeredWrong)

/-- 'laws.FnExactCutsAt': WHATEVER THE INPUT: true; the input reads as it did. -/
def fnExactCutsAtSpec : ChangeSpec := { name := "fnExactCutsAt", fn := fun _ => fun
  | [d1, d2] => { results := [.lit (.bool true)], args := [d1, d2] }
  | _ => none }
def fnExactCutsAtRow : OpenClaim := { program := "ytecbfoodkcgehaa", sum := "8b923b4fcc042ab135b87cd00597b28d70cf3b0a5de2c7c78b14375db25afe5a", func := "loop.example/g01286/laws.FnExactCutsAt", spec := "fnExactCutsAt", apart := false }
def FnExactCutsAtSaid : Prop := fnExactCutsAtRow.holds Try.pinned (OpenSpec.ofChange fnExactCutsAtSpec)

/-- ITS FALSE NEIGHBOUR: 'it returns false'. Refute it at one input. -/
def fnExactCutsAtWrong : ChangeSpec := { name := "fnExactCutsAt", fn := fun _ => fun
  | [d1, d2] => { results := [.lit (.bool false)], args := [d1, d2] }
  | _ => none }
def FnExactCutsAtWrongFalsely : Prop := fnExactCutsAtRow.holds Try.pinned (OpenSpec.ofChange fnExactCutsAtWrong)

/-- 'laws.FnExactRankOfCuts': WHATEVER THE INPUT: true; the input reads as it did. -/
def fnExactRankOfCutsSpec : ChangeSpec := { name := "fnExactRankOfCuts", fn := fun _ => fun
  | [d] => { results := [.lit (.bool true)], args := [d] }
  | _ => none }
def fnExactRankOfCutsRow : OpenClaim := { program := "ytecbfoodkcgehaa", sum := "8b923b4fcc042ab135b87cd00597b28d70cf3b0a5de2c7c78b14375db25afe5a", func := "loop.example/g01286/laws.FnExactRankOfCuts", spec := "fnExactRankOfCuts", unfollowed := true, recurses := true, apart := false }
def FnExactRankOfCutsSaid : Prop := fnExactRankOfCutsRow.holds Try.pinned (OpenSpec.ofChange fnExactRankOfCutsSpec)

/-- ITS FALSE NEIGHBOUR: 'it returns false'. Refute it at one input. -/
def fnExactRankOfCutsWrong : ChangeSpec := { name := "fnExactRankOfCuts", fn := fun _ => fun
  | [d] => { results := [.lit (.bool false)], args := [d] }
  | _ => none }
def FnExactRankOfCutsWrongFalsely : Prop := fnExactRankOfCutsRow.holds Try.pinned (OpenSpec.ofChange fnExactRankOfCutsWrong)

/-- 'laws.FnExactTwoCuts': WHATEVER THE INPUT: true; the input reads as it did. -/
def fnExactTwoCutsSpec : ChangeSpec := { name := "fnExactTwoCuts", fn := fun _ => fun
  | [d1, d2] => { results := [.lit (.bool true)], args := [d1, d2] }
  | _ => none }
def fnExactTwoCutsRow : OpenClaim := { program := "ytecbfoodkcgehaa", sum := "8b923b4fcc042ab135b87cd00597b28d70cf3b0a5de2c7c78b14375db25afe5a", func := "loop.example/g01286/laws.FnExactTwoCuts", spec := "fnExactTwoCuts", apart := false }
def FnExactTwoCutsSaid : Prop := fnExactTwoCutsRow.holds Try.pinned (OpenSpec.ofChange fnExactTwoCutsSpec)

/-- ITS FALSE NEIGHBOUR: 'it returns false'. Refute it at one input. -/
def fnExactTwoCutsWrong : ChangeSpec := { name := "fnExactTwoCuts", fn := fun _ => fun
  | [d1, d2] => { results := [.lit (.bool false)], args := [d1, d2] }
  | _ => none }
def FnExactTwoCutsWrongFalsely : Prop := fnExactTwoCutsRow.holds Try.pinned (OpenSpec.ofChange fnExactTwoCutsWrong)

/-- 'laws.FnExactCountTwoCuts': WHATEVER THE INPUT: true; the input reads as it did. -/
def fnExactCountTwoCutsSpec : ChangeSpec := { name := "fnExactCountTwoCuts", fn := fun _ => fun
  | [d] => { results := [.lit (.bool true)], args := [d] }
  | _ => none }
def fnExactCountTwoCutsRow : OpenClaim := { program := "ytecbfoodkcgehaa", sum := "8b923b4fcc042ab135b87cd00597b28d70cf3b0a5de2c7c78b14375db25afe5a", func := "loop.example/g01286/laws.FnExactCountTwoCuts", spec := "fnExactCountTwoCuts", apart := false }
def FnExactCountTwoCutsSaid : Prop := fnExactCountTwoCutsRow.holds Try.pinned (OpenSpec.ofChange fnExactCountTwoCutsSpec)

/-- ITS FALSE NEIGHBOUR: 'it returns false'. Refute it at one input. -/
def fnExactCountTwoCutsWrong : ChangeSpec := { name := "fnExactCountTwoCuts", fn := fun _ => fun
  | [d] => { results := [.lit (.bool false)], args := [d] }
  | _ => none }
def FnExactCountTwoCutsWrongFalsely : Prop := fnExactCountTwoCutsRow.holds Try.pinned (OpenSpec.ofChange fnExactCountTwoCutsWrong)

/-- 'laws.FnExactMostFallSweeps': WHATEVER THE INPUT: true; the input reads as it did. -/
def fnExactMostFallSweepsSpec : ChangeSpec := { name := "fnExactMostFallSweeps", fn := fun _ => fun
  | [d] => { results := [.lit (.bool true)], args := [d] }
  | _ => none }
def fnExactMostFallSweepsRow : OpenClaim := { program := "ytecbfoodkcgehaa", sum := "8b923b4fcc042ab135b87cd00597b28d70cf3b0a5de2c7c78b14375db25afe5a", func := "loop.example/g01286/laws.FnExactMostFallSweeps", spec := "fnExactMostFallSweeps", unfollowed := true, recurses := true, apart := false }
def FnExactMostFallSweepsSaid : Prop := fnExactMostFallSweepsRow.holds Try.pinned (OpenSpec.ofChange fnExactMostFallSweepsSpec)

/-- ITS FALSE NEIGHBOUR: 'it returns false'. Refute it at one input. -/
def fnExactMostFallSweepsWrong : ChangeSpec := { name := "fnExactMostFallSweeps", fn := fun _ => fun
  | [d] => { results := [.lit (.bool false)], args := [d] }
  | _ => none }
def FnExactMostFallSweepsWrongFalsely : Prop := fnExactMostFallSweepsRow.holds Try.pinned (OpenSpec.ofChange fnExactMostFallSweepsWrong)

/-- 'laws.FnExactFallSweptFrom': WHATEVER THE INPUT: true; the input reads as it did. -/
def fnExactFallSweptFromSpec : ChangeSpec := { name := "fnExactFallSweptFrom", fn := fun _ => fun
  | [d] => { results := [.lit (.bool true)], args := [d] }
  | _ => none }
def fnExactFallSweptFromRow : OpenClaim := { program := "ytecbfoodkcgehaa", sum := "8b923b4fcc042ab135b87cd00597b28d70cf3b0a5de2c7c78b14375db25afe5a", func := "loop.example/g01286/laws.FnExactFallSweptFrom", spec := "fnExactFallSweptFrom", apart := false }
def FnExactFallSweptFromSaid : Prop := fnExactFallSweptFromRow.holds Try.pinned (OpenSpec.ofChange fnExactFallSweptFromSpec)

/-- ITS FALSE NEIGHBOUR: 'it returns false'. Refute it at one input. -/
def fnExactFallSweptFromWrong : ChangeSpec := { name := "fnExactFallSweptFrom", fn := fun _ => fun
  | [d] => { results := [.lit (.bool false)], args := [d] }
  | _ => none }
def FnExactFallSweptFromWrongFalsely : Prop := fnExactFallSweptFromRow.holds Try.pinned (OpenSpec.ofChange fnExactFallSweptFromWrong)

/-- 'laws.FnExactCutsWord': WHATEVER THE INPUT: true; the input reads as it did. -/
def fnExactCutsWordSpec : ChangeSpec := { name := "fnExactCutsWord", fn := fun _ => fun
  | [d] => { results := [.lit (.bool true)], args := [d] }
  | _ => none }
def fnExactCutsWordRow : OpenClaim := { program := "ytecbfoodkcgehaa", sum := "8b923b4fcc042ab135b87cd00597b28d70cf3b0a5de2c7c78b14375db25afe5a", func := "loop.example/g01286/laws.FnExactCutsWord", spec := "fnExactCutsWord", inPlace := ["internal/abi.NoEscape", "internal/bytealg.MakeNoZero"], apart := false }
def FnExactCutsWordSaid : Prop := fnExactCutsWordRow.holds Try.pinned (OpenSpec.ofChange fnExactCutsWordSpec)

/-- ITS FALSE NEIGHBOUR: 'it returns false'. Refute it at one input. -/
def fnExactCutsWordWrong : ChangeSpec := { name := "fnExactCutsWord", fn := fun _ => fun
  | [d] => { results := [.lit (.bool false)], args := [d] }
  | _ => none }
def FnExactCutsWordWrongFalsely : Prop := fnExactCutsWordRow.holds Try.pinned (OpenSpec.ofChange fnExactCutsWordWrong)

/- THE SECOND FORM. 'bulk': how many values and letters a reading holds, each counted each time it is reached (what is shared counts as often as it is met; a slice's spare places count too). A statement '..UptoSaid' is the law's where the arguments, and the package variables that the reading takes, are together of bulk at most 1048576: NARROWER than '..Said'. Prove '..Said' where nothing that the law and all that it calls make is longer than what came in: it says more and counts as full. Else prove '..UptoSaid'. A law counts once. -/
mutual
def uptoBulk {H : Type} : DataW H → Nat
  | .lit (.string bytes) => bytes.length + 1
  | .lit _ => 1
  | .nil => 1
  | .ptr d => uptoBulk d + 1
  | .slice elems spare => uptoBulkAll elems + uptoBulkAll spare + 1
  | .agg parts => uptoBulkAll parts + 1
  | .iface _ d => uptoBulk d + 1
  | .map entries => uptoBulkEntries entries + 1
  | .held _ => 1
def uptoBulkAll {H : Type} : List (DataW H) → Nat
  | [] => 0
  | d :: r => uptoBulk d + uptoBulkAll r
def uptoBulkEntries {H : Type} : List (Lit × DataW H) → Nat
  | [] => 0
  | x :: r => uptoBulkEntry x + uptoBulkEntries r
def uptoBulkEntry {H : Type} : Lit × DataW H → Nat
  | (.string bytes, d) => bytes.length + uptoBulk d + 1
  | (_, d) => uptoBulk d + 1
 end
def uptoSmall : (H : Type) → List (DataW H) → Bool := fun _ ds => decide (uptoBulkAll ds ≤ 1048576)
def OpenSpec.upto (s : _root_.Go.ChangeSpec) : _root_.Go.OpenSpec := { _root_.Go.OpenSpec.ofChange s with cond := some uptoSmall }

/-- 'laws.FnCuts', WHERE WHAT IT READS IS OF BULK AT MOST 1048576: true; the input reads as it did. -/
def fnCutsUptoRow : OpenClaim := { program := "ytecbfoodkcgehaa", sum := "8b923b4fcc042ab135b87cd00597b28d70cf3b0a5de2c7c78b14375db25afe5a", func := "loop.example/g01286/laws.FnCuts", spec := "fnCuts", inPlace := ["internal/abi.NoEscape", "internal/bytealg.MakeNoZero"], unfollowed := true, recurses := true, apart := false, narrowed := true }
def FnCutsUptoSaid : Prop := fnCutsUptoRow.holds Try.pinned (OpenSpec.upto fnCutsSpec)

/-- 'laws.FnFalls', WHERE WHAT IT READS IS OF BULK AT MOST 1048576: true; the input reads as it did. -/
def fnFallsUptoRow : OpenClaim := { program := "ytecbfoodkcgehaa", sum := "8b923b4fcc042ab135b87cd00597b28d70cf3b0a5de2c7c78b14375db25afe5a", func := "loop.example/g01286/laws.FnFalls", spec := "fnFalls", inPlace := ["internal/abi.NoEscape", "internal/bytealg.MakeNoZero"], unfollowed := true, recurses := true, apart := false, narrowed := true }
def FnFallsUptoSaid : Prop := fnFallsUptoRow.holds Try.pinned (OpenSpec.upto fnFallsSpec)

/-- 'laws.FnExactAreCuts', WHERE WHAT IT READS IS OF BULK AT MOST 1048576: true; the input reads as it did. -/
def fnExactAreCutsUptoRow : OpenClaim := { program := "ytecbfoodkcgehaa", sum := "8b923b4fcc042ab135b87cd00597b28d70cf3b0a5de2c7c78b14375db25afe5a", func := "loop.example/g01286/laws.FnExactAreCuts", spec := "fnExactAreCuts", apart := false, narrowed := true }
def FnExactAreCutsUptoSaid : Prop := fnExactAreCutsUptoRow.holds Try.pinned (OpenSpec.upto fnExactAreCutsSpec)

/-- 'laws.FnExactRunCuts', WHERE WHAT IT READS IS OF BULK AT MOST 1048576: true; the input reads as it did. -/
def fnExactRunCutsUptoRow : OpenClaim := { program := "ytecbfoodkcgehaa", sum := "8b923b4fcc042ab135b87cd00597b28d70cf3b0a5de2c7c78b14375db25afe5a", func := "loop.example/g01286/laws.FnExactRunCuts", spec := "fnExactRunCuts", apart := false, narrowed := true }
def FnExactRunCutsUptoSaid : Prop := fnExactRunCutsUptoRow.holds Try.pinned (OpenSpec.upto fnExactRunCutsSpec)

/-- 'laws.FnExactCutsTo', WHERE WHAT IT READS IS OF BULK AT MOST 1048576: true; the input reads as it did. -/
def fnExactCutsToUptoRow : OpenClaim := { program := "ytecbfoodkcgehaa", sum := "8b923b4fcc042ab135b87cd00597b28d70cf3b0a5de2c7c78b14375db25afe5a", func := "loop.example/g01286/laws.FnExactCutsTo", spec := "fnExactCutsTo", inPlace := ["internal/abi.NoEscape", "internal/bytealg.MakeNoZero"], unfollowed := true, recurses := true, apart := false, narrowed := true }
def FnExactCutsToUptoSaid : Prop := fnExactCutsToUptoRow.holds Try.pinned (OpenSpec.upto fnExactCutsToSpec)

/-- 'laws.FnExactFallsOf', WHERE WHAT IT READS IS OF BULK AT MOST 1048576: true; the input reads as it did. -/
def fnExactFallsOfUptoRow : OpenClaim := { program := "ytecbfoodkcgehaa", sum := "8b923b4fcc042ab135b87cd00597b28d70cf3b0a5de2c7c78b14375db25afe5a", func := "loop.example/g01286/laws.FnExactFallsOf", spec := "fnExactFallsOf", apart := false, narrowed := true }
def FnExactFallsOfUptoSaid : Prop := fnExactFallsOfUptoRow.holds Try.pinned (OpenSpec.upto fnExactFallsOfSpec)

/-- 'laws.FnExactFallSweep', WHERE WHAT IT READS IS OF BULK AT MOST 1048576: true; the input reads as it did. -/
def fnExactFallSweepUptoRow : OpenClaim := { program := "ytecbfoodkcgehaa", sum := "8b923b4fcc042ab135b87cd00597b28d70cf3b0a5de2c7c78b14375db25afe5a", func := "loop.example/g01286/laws.FnExactFallSweep", spec := "fnExactFallSweep", apart := false, narrowed := true }
def FnExactFallSweepUptoSaid : Prop := fnExactFallSweepUptoRow.holds Try.pinned (OpenSpec.upto fnExactFallSweepSpec)

/-- 'laws.FnExactCountFallSweeps', WHERE WHAT IT READS IS OF BULK AT MOST 1048576: true; the input reads as it did. -/
def fnExactCountFallSweepsUptoRow : OpenClaim := { program := "ytecbfoodkcgehaa", sum := "8b923b4fcc042ab135b87cd00597b28d70cf3b0a5de2c7c78b14375db25afe5a", func := "loop.example/g01286/laws.FnExactCountFallSweeps", spec := "fnExactCountFallSweeps", unfollowed := true, recurses := true, apart := false, narrowed := true }
def FnExactCountFallSweepsUptoSaid : Prop := fnExactCountFallSweepsUptoRow.holds Try.pinned (OpenSpec.upto fnExactCountFallSweepsSpec)

/-- 'laws.FnExactIsLayered', WHERE WHAT IT READS IS OF BULK AT MOST 1048576: true; the input reads as it did. -/
def fnExactIsLayeredUptoRow : OpenClaim := { program := "ytecbfoodkcgehaa", sum := "8b923b4fcc042ab135b87cd00597b28d70cf3b0a5de2c7c78b14375db25afe5a", func := "loop.example/g01286/laws.FnExactIsLayered", spec := "fnExactIsLayered", inPlace := ["internal/abi.NoEscape", "internal/bytealg.MakeNoZero"], unfollowed := true, recurses := true, apart := false, narrowed := true }
def FnExactIsLayeredUptoSaid : Prop := fnExactIsLayeredUptoRow.holds Try.pinned (OpenSpec.upto fnExactIsLayeredSpec)

/-- 'laws.FnExactCutsAt', WHERE WHAT IT READS IS OF BULK AT MOST 1048576: true; the input reads as it did. -/
def fnExactCutsAtUptoRow : OpenClaim := { program := "ytecbfoodkcgehaa", sum := "8b923b4fcc042ab135b87cd00597b28d70cf3b0a5de2c7c78b14375db25afe5a", func := "loop.example/g01286/laws.FnExactCutsAt", spec := "fnExactCutsAt", apart := false, narrowed := true }
def FnExactCutsAtUptoSaid : Prop := fnExactCutsAtUptoRow.holds Try.pinned (OpenSpec.upto fnExactCutsAtSpec)

/-- 'laws.FnExactRankOfCuts', WHERE WHAT IT READS IS OF BULK AT MOST 1048576: true; the input reads as it did. -/
def fnExactRankOfCutsUptoRow : OpenClaim := { program := "ytecbfoodkcgehaa", sum := "8b923b4fcc042ab135b87cd00597b28d70cf3b0a5de2c7c78b14375db25afe5a", func := "loop.example/g01286/laws.FnExactRankOfCuts", spec := "fnExactRankOfCuts", unfollowed := true, recurses := true, apart := false, narrowed := true }
def FnExactRankOfCutsUptoSaid : Prop := fnExactRankOfCutsUptoRow.holds Try.pinned (OpenSpec.upto fnExactRankOfCutsSpec)

/-- 'laws.FnExactTwoCuts', WHERE WHAT IT READS IS OF BULK AT MOST 1048576: true; the input reads as it did. -/
def fnExactTwoCutsUptoRow : OpenClaim := { program := "ytecbfoodkcgehaa", sum := "8b923b4fcc042ab135b87cd00597b28d70cf3b0a5de2c7c78b14375db25afe5a", func := "loop.example/g01286/laws.FnExactTwoCuts", spec := "fnExactTwoCuts", apart := false, narrowed := true }
def FnExactTwoCutsUptoSaid : Prop := fnExactTwoCutsUptoRow.holds Try.pinned (OpenSpec.upto fnExactTwoCutsSpec)

/-- 'laws.FnExactCountTwoCuts', WHERE WHAT IT READS IS OF BULK AT MOST 1048576: true; the input reads as it did. -/
def fnExactCountTwoCutsUptoRow : OpenClaim := { program := "ytecbfoodkcgehaa", sum := "8b923b4fcc042ab135b87cd00597b28d70cf3b0a5de2c7c78b14375db25afe5a", func := "loop.example/g01286/laws.FnExactCountTwoCuts", spec := "fnExactCountTwoCuts", apart := false, narrowed := true }
def FnExactCountTwoCutsUptoSaid : Prop := fnExactCountTwoCutsUptoRow.holds Try.pinned (OpenSpec.upto fnExactCountTwoCutsSpec)

/-- 'laws.FnExactMostFallSweeps', WHERE WHAT IT READS IS OF BULK AT MOST 1048576: true; the input reads as it did. -/
def fnExactMostFallSweepsUptoRow : OpenClaim := { program := "ytecbfoodkcgehaa", sum := "8b923b4fcc042ab135b87cd00597b28d70cf3b0a5de2c7c78b14375db25afe5a", func := "loop.example/g01286/laws.FnExactMostFallSweeps", spec := "fnExactMostFallSweeps", unfollowed := true, recurses := true, apart := false, narrowed := true }
def FnExactMostFallSweepsUptoSaid : Prop := fnExactMostFallSweepsUptoRow.holds Try.pinned (OpenSpec.upto fnExactMostFallSweepsSpec)

/-- 'laws.FnExactFallSweptFrom', WHERE WHAT IT READS IS OF BULK AT MOST 1048576: true; the input reads as it did. -/
def fnExactFallSweptFromUptoRow : OpenClaim := { program := "ytecbfoodkcgehaa", sum := "8b923b4fcc042ab135b87cd00597b28d70cf3b0a5de2c7c78b14375db25afe5a", func := "loop.example/g01286/laws.FnExactFallSweptFrom", spec := "fnExactFallSweptFrom", apart := false, narrowed := true }
def FnExactFallSweptFromUptoSaid : Prop := fnExactFallSweptFromUptoRow.holds Try.pinned (OpenSpec.upto fnExactFallSweptFromSpec)

/-- 'laws.FnExactCutsWord', WHERE WHAT IT READS IS OF BULK AT MOST 1048576: true; the input reads as it did. -/
def fnExactCutsWordUptoRow : OpenClaim := { program := "ytecbfoodkcgehaa", sum := "8b923b4fcc042ab135b87cd00597b28d70cf3b0a5de2c7c78b14375db25afe5a", func := "loop.example/g01286/laws.FnExactCutsWord", spec := "fnExactCutsWord", inPlace := ["internal/abi.NoEscape", "internal/bytealg.MakeNoZero"], apart := false, narrowed := true }
def FnExactCutsWordUptoSaid : Prop := fnExactCutsWordUptoRow.holds Try.pinned (OpenSpec.upto fnExactCutsWordSpec)

end Rows
end Go.Proofs.Ytecbfoodkcgehaa
