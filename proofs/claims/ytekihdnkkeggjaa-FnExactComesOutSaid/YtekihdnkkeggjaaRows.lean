/-
  No cell of these rows narrows 'for every input' (looked for: loops, veiled, ifaces, maps, wideKeys, modest, calm, conditions, laid).
  DERIVED. THE GIVEN ROWS OF THIS SEAT. 14 by the template 'for every input the law returns true; each argument reads behind the call as it read before'; 0 by the template 'total and deterministic' (their statements: YtekihdnkkeggjaaTotals.lean).
  GIVEN WITH THE SEED: the statements are not yours to turn. If you find one false, say at which input.
  Laid BY PROGRAM, IN A SANDBOX (cutbox-rows.mjs): the forced cells as the released guide's own fill.sh prints them over the translation 0677ac62662c9a4f… (all of the seat's roots in one cut). By AI agents, Wed Nov 11 2026. No macro, syntax, notation, axiom, sorry.
-/
import Derived.Test.YtekihdnkkeggjaaChecked
import GoSem.Claim
import GoSem.ClaimJoined
import GoSem.ClaimMapViews
import Derived.JoinedTies
import Derived.KernelRfl
namespace Go.Proofs.Ytekihdnkkeggjaa
/- THE CELL 'sum', in the pinned program and in every row, IS THE sha256 OF THE DUMP (.gsa) THAT YtekihdnkkeggjaaProg.lean LOADS. Nothing in Lean hashes anything: it is a label: what it is worth is what the hold of that sum in a sandbox is worth. -/
noncomputable def Try.pinned : Pinned := { name := "ytekihdnkkeggjaa", sum := "0677ac62662c9a4fddc4c889752b1a899a93a5f44ccc0abbc9e49e168dcb1142", checked := Try.checked }
namespace Rows
def none {H : Type} : Left H := { results := [], args := [] }

/-- 'laws.FnConflicts': WHATEVER THE INPUT: true; the input reads as it did. -/
def fnConflictsSpec : ChangeSpec := { name := "fnConflicts", fn := fun _ => fun
  | [d] => { results := [.lit (.bool true)], args := [d] }
  | _ => none }
def fnConflictsRow : OpenClaim := { program := "ytekihdnkkeggjaa", sum := "0677ac62662c9a4fddc4c889752b1a899a93a5f44ccc0abbc9e49e168dcb1142", func := "loop.example/g01286/laws.FnConflicts", spec := "fnConflicts", unfollowed := true, recurses := true, apart := false }
def FnConflictsSaid : Prop := fnConflictsRow.holds Try.pinned (OpenSpec.ofChange fnConflictsSpec)

/-- ITS FALSE NEIGHBOUR: 'it returns false'. Refute it at one input. -/
def fnConflictsWrong : ChangeSpec := { name := "fnConflicts", fn := fun _ => fun
  | [d] => { results := [.lit (.bool false)], args := [d] }
  | _ => none }
def FnConflictsWrongFalsely : Prop := fnConflictsRow.holds Try.pinned (OpenSpec.ofChange fnConflictsWrong)

/-- 'laws.FnStacks': WHATEVER THE INPUT: true; the input reads as it did. -/
def fnStacksSpec : ChangeSpec := { name := "fnStacks", fn := fun _ => fun
  | [d] => { results := [.lit (.bool true)], args := [d] }
  | _ => none }
def fnStacksRow : OpenClaim := { program := "ytekihdnkkeggjaa", sum := "0677ac62662c9a4fddc4c889752b1a899a93a5f44ccc0abbc9e49e168dcb1142", func := "loop.example/g01286/laws.FnStacks", spec := "fnStacks", unfollowed := true, recurses := true, apart := false }
def FnStacksSaid : Prop := fnStacksRow.holds Try.pinned (OpenSpec.ofChange fnStacksSpec)

/-- ITS FALSE NEIGHBOUR: 'it returns false'. Refute it at one input. -/
def fnStacksWrong : ChangeSpec := { name := "fnStacks", fn := fun _ => fun
  | [d] => { results := [.lit (.bool false)], args := [d] }
  | _ => none }
def FnStacksWrongFalsely : Prop := fnStacksRow.holds Try.pinned (OpenSpec.ofChange fnStacksWrong)

/-- 'laws.FnExactConflictsOf': WHATEVER THE INPUT: true; the input reads as it did. -/
def fnExactConflictsOfSpec : ChangeSpec := { name := "fnExactConflictsOf", fn := fun _ => fun
  | [d] => { results := [.lit (.bool true)], args := [d] }
  | _ => none }
def fnExactConflictsOfRow : OpenClaim := { program := "ytekihdnkkeggjaa", sum := "0677ac62662c9a4fddc4c889752b1a899a93a5f44ccc0abbc9e49e168dcb1142", func := "loop.example/g01286/laws.FnExactConflictsOf", spec := "fnExactConflictsOf", apart := false }
def FnExactConflictsOfSaid : Prop := fnExactConflictsOfRow.holds Try.pinned (OpenSpec.ofChange fnExactConflictsOfSpec)

/-- ITS FALSE NEIGHBOUR: 'it returns false'. Refute it at one input. -/
def fnExactConflictsOfWrong : ChangeSpec := { name := "fnExactConflictsOf", fn := fun _ => fun
  | [d] => { results := [.lit (.bool false)], args := [d] }
  | _ => none }
def FnExactConflictsOfWrongFalsely : Prop := fnExactConflictsOfRow.holds Try.pinned (OpenSpec.ofChange fnExactConflictsOfWrong)

/-- 'laws.FnExactIsSharing': WHATEVER THE INPUT: true; the input reads as it did. -/
def fnExactIsSharingSpec : ChangeSpec := { name := "fnExactIsSharing", fn := fun _ => fun
  | [d1, d2] => { results := [.lit (.bool true)], args := [d1, d2] }
  | _ => none }
def fnExactIsSharingRow : OpenClaim := { program := "ytekihdnkkeggjaa", sum := "0677ac62662c9a4fddc4c889752b1a899a93a5f44ccc0abbc9e49e168dcb1142", func := "loop.example/g01286/laws.FnExactIsSharing", spec := "fnExactIsSharing", apart := false }
def FnExactIsSharingSaid : Prop := fnExactIsSharingRow.holds Try.pinned (OpenSpec.ofChange fnExactIsSharingSpec)

/-- ITS FALSE NEIGHBOUR: 'it returns false'. Refute it at one input. -/
def fnExactIsSharingWrong : ChangeSpec := { name := "fnExactIsSharing", fn := fun _ => fun
  | [d1, d2] => { results := [.lit (.bool false)], args := [d1, d2] }
  | _ => none }
def FnExactIsSharingWrongFalsely : Prop := fnExactIsSharingRow.holds Try.pinned (OpenSpec.ofChange fnExactIsSharingWrong)

/-- 'laws.FnExactFitsSharing': WHATEVER THE INPUT: true; the input reads as it did. -/
def fnExactFitsSharingSpec : ChangeSpec := { name := "fnExactFitsSharing", fn := fun _ => fun
  | [d1, d2] => { results := [.lit (.bool true)], args := [d1, d2] }
  | _ => none }
def fnExactFitsSharingRow : OpenClaim := { program := "ytekihdnkkeggjaa", sum := "0677ac62662c9a4fddc4c889752b1a899a93a5f44ccc0abbc9e49e168dcb1142", func := "loop.example/g01286/laws.FnExactFitsSharing", spec := "fnExactFitsSharing", apart := false }
def FnExactFitsSharingSaid : Prop := fnExactFitsSharingRow.holds Try.pinned (OpenSpec.ofChange fnExactFitsSharingSpec)

/-- ITS FALSE NEIGHBOUR: 'it returns false'. Refute it at one input. -/
def fnExactFitsSharingWrong : ChangeSpec := { name := "fnExactFitsSharing", fn := fun _ => fun
  | [d1, d2] => { results := [.lit (.bool false)], args := [d1, d2] }
  | _ => none }
def FnExactFitsSharingWrongFalsely : Prop := fnExactFitsSharingRow.holds Try.pinned (OpenSpec.ofChange fnExactFitsSharingWrong)

/-- 'laws.FnExactFewestStacks': WHATEVER THE INPUT: true; the input reads as it did. -/
def fnExactFewestStacksSpec : ChangeSpec := { name := "fnExactFewestStacks", fn := fun _ => fun
  | [d] => { results := [.lit (.bool true)], args := [d] }
  | _ => none }
def fnExactFewestStacksRow : OpenClaim := { program := "ytekihdnkkeggjaa", sum := "0677ac62662c9a4fddc4c889752b1a899a93a5f44ccc0abbc9e49e168dcb1142", func := "loop.example/g01286/laws.FnExactFewestStacks", spec := "fnExactFewestStacks", unfollowed := true, recurses := true, apart := false }
def FnExactFewestStacksSaid : Prop := fnExactFewestStacksRow.holds Try.pinned (OpenSpec.ofChange fnExactFewestStacksSpec)

/-- ITS FALSE NEIGHBOUR: 'it returns false'. Refute it at one input. -/
def fnExactFewestStacksWrong : ChangeSpec := { name := "fnExactFewestStacks", fn := fun _ => fun
  | [d] => { results := [.lit (.bool false)], args := [d] }
  | _ => none }
def FnExactFewestStacksWrongFalsely : Prop := fnExactFewestStacksRow.holds Try.pinned (OpenSpec.ofChange fnExactFewestStacksWrong)

/-- 'laws.FnExactFirstSharing': WHATEVER THE INPUT: true; the input reads as it did. -/
def fnExactFirstSharingSpec : ChangeSpec := { name := "fnExactFirstSharing", fn := fun _ => fun
  | [d] => { results := [.lit (.bool true)], args := [d] }
  | _ => none }
def fnExactFirstSharingRow : OpenClaim := { program := "ytekihdnkkeggjaa", sum := "0677ac62662c9a4fddc4c889752b1a899a93a5f44ccc0abbc9e49e168dcb1142", func := "loop.example/g01286/laws.FnExactFirstSharing", spec := "fnExactFirstSharing", unfollowed := true, recurses := true, apart := false }
def FnExactFirstSharingSaid : Prop := fnExactFirstSharingRow.holds Try.pinned (OpenSpec.ofChange fnExactFirstSharingSpec)

/-- ITS FALSE NEIGHBOUR: 'it returns false'. Refute it at one input. -/
def fnExactFirstSharingWrong : ChangeSpec := { name := "fnExactFirstSharing", fn := fun _ => fun
  | [d] => { results := [.lit (.bool false)], args := [d] }
  | _ => none }
def FnExactFirstSharingWrongFalsely : Prop := fnExactFirstSharingRow.holds Try.pinned (OpenSpec.ofChange fnExactFirstSharingWrong)

/-- 'laws.FnExactCountSharings': WHATEVER THE INPUT: true; the input reads as it did. -/
def fnExactCountSharingsSpec : ChangeSpec := { name := "fnExactCountSharings", fn := fun _ => fun
  | [d1, d2] => { results := [.lit (.bool true)], args := [d1, d2] }
  | _ => none }
def fnExactCountSharingsRow : OpenClaim := { program := "ytekihdnkkeggjaa", sum := "0677ac62662c9a4fddc4c889752b1a899a93a5f44ccc0abbc9e49e168dcb1142", func := "loop.example/g01286/laws.FnExactCountSharings", spec := "fnExactCountSharings", unfollowed := true, recurses := true, apart := false }
def FnExactCountSharingsSaid : Prop := fnExactCountSharingsRow.holds Try.pinned (OpenSpec.ofChange fnExactCountSharingsSpec)

/-- ITS FALSE NEIGHBOUR: 'it returns false'. Refute it at one input. -/
def fnExactCountSharingsWrong : ChangeSpec := { name := "fnExactCountSharings", fn := fun _ => fun
  | [d1, d2] => { results := [.lit (.bool false)], args := [d1, d2] }
  | _ => none }
def FnExactCountSharingsWrongFalsely : Prop := fnExactCountSharingsRow.holds Try.pinned (OpenSpec.ofChange fnExactCountSharingsWrong)

/-- 'laws.FnExactGreedySharing': WHATEVER THE INPUT: true; the input reads as it did. -/
def fnExactGreedySharingSpec : ChangeSpec := { name := "fnExactGreedySharing", fn := fun _ => fun
  | [d] => { results := [.lit (.bool true)], args := [d] }
  | _ => none }
def fnExactGreedySharingRow : OpenClaim := { program := "ytekihdnkkeggjaa", sum := "0677ac62662c9a4fddc4c889752b1a899a93a5f44ccc0abbc9e49e168dcb1142", func := "loop.example/g01286/laws.FnExactGreedySharing", spec := "fnExactGreedySharing", apart := false }
def FnExactGreedySharingSaid : Prop := fnExactGreedySharingRow.holds Try.pinned (OpenSpec.ofChange fnExactGreedySharingSpec)

/-- ITS FALSE NEIGHBOUR: 'it returns false'. Refute it at one input. -/
def fnExactGreedySharingWrong : ChangeSpec := { name := "fnExactGreedySharing", fn := fun _ => fun
  | [d] => { results := [.lit (.bool false)], args := [d] }
  | _ => none }
def FnExactGreedySharingWrongFalsely : Prop := fnExactGreedySharingRow.holds Try.pinned (OpenSpec.ofChange fnExactGreedySharingWrong)

/-- 'laws.FnExactMovesOf': WHATEVER THE INPUT: true; the input reads as it did. -/
def fnExactMovesOfSpec : ChangeSpec := { name := "fnExactMovesOf", fn := fun _ => fun
  | [d1, d2] => { results := [.lit (.bool true)], args := [d1, d2] }
  | _ => none }
def fnExactMovesOfRow : OpenClaim := { program := "ytekihdnkkeggjaa", sum := "0677ac62662c9a4fddc4c889752b1a899a93a5f44ccc0abbc9e49e168dcb1142", func := "loop.example/g01286/laws.FnExactMovesOf", spec := "fnExactMovesOf", apart := false }
def FnExactMovesOfSaid : Prop := fnExactMovesOfRow.holds Try.pinned (OpenSpec.ofChange fnExactMovesOfSpec)

/-- ITS FALSE NEIGHBOUR: 'it returns false'. Refute it at one input. -/
def fnExactMovesOfWrong : ChangeSpec := { name := "fnExactMovesOf", fn := fun _ => fun
  | [d1, d2] => { results := [.lit (.bool false)], args := [d1, d2] }
  | _ => none }
def FnExactMovesOfWrongFalsely : Prop := fnExactMovesOfRow.holds Try.pinned (OpenSpec.ofChange fnExactMovesOfWrong)

/-- 'laws.FnExactComesOut': WHATEVER THE INPUT: true; the input reads as it did. -/
def fnExactComesOutSpec : ChangeSpec := { name := "fnExactComesOut", fn := fun _ => fun
  | [d1, d2] => { results := [.lit (.bool true)], args := [d1, d2] }
  | _ => none }
def fnExactComesOutRow : OpenClaim := { program := "ytekihdnkkeggjaa", sum := "0677ac62662c9a4fddc4c889752b1a899a93a5f44ccc0abbc9e49e168dcb1142", func := "loop.example/g01286/laws.FnExactComesOut", spec := "fnExactComesOut", apart := false }
def FnExactComesOutSaid : Prop := fnExactComesOutRow.holds Try.pinned (OpenSpec.ofChange fnExactComesOutSpec)

/-- ITS FALSE NEIGHBOUR: 'it returns false'. Refute it at one input. -/
def fnExactComesOutWrong : ChangeSpec := { name := "fnExactComesOut", fn := fun _ => fun
  | [d1, d2] => { results := [.lit (.bool false)], args := [d1, d2] }
  | _ => none }
def FnExactComesOutWrongFalsely : Prop := fnExactComesOutRow.holds Try.pinned (OpenSpec.ofChange fnExactComesOutWrong)

/-- 'laws.FnExactDepthsOf': WHATEVER THE INPUT: true; the input reads as it did. -/
def fnExactDepthsOfSpec : ChangeSpec := { name := "fnExactDepthsOf", fn := fun _ => fun
  | [d1, d2] => { results := [.lit (.bool true)], args := [d1, d2] }
  | _ => none }
def fnExactDepthsOfRow : OpenClaim := { program := "ytekihdnkkeggjaa", sum := "0677ac62662c9a4fddc4c889752b1a899a93a5f44ccc0abbc9e49e168dcb1142", func := "loop.example/g01286/laws.FnExactDepthsOf", spec := "fnExactDepthsOf", apart := false }
def FnExactDepthsOfSaid : Prop := fnExactDepthsOfRow.holds Try.pinned (OpenSpec.ofChange fnExactDepthsOfSpec)

/-- ITS FALSE NEIGHBOUR: 'it returns false'. Refute it at one input. -/
def fnExactDepthsOfWrong : ChangeSpec := { name := "fnExactDepthsOf", fn := fun _ => fun
  | [d1, d2] => { results := [.lit (.bool false)], args := [d1, d2] }
  | _ => none }
def FnExactDepthsOfWrongFalsely : Prop := fnExactDepthsOfRow.holds Try.pinned (OpenSpec.ofChange fnExactDepthsOfWrong)

/-- 'laws.FnExactCountBeside': WHATEVER THE INPUT: true; the input reads as it did. -/
def fnExactCountBesideSpec : ChangeSpec := { name := "fnExactCountBeside", fn := fun _ => fun
  | [d1, d2] => { results := [.lit (.bool true)], args := [d1, d2] }
  | _ => none }
def fnExactCountBesideRow : OpenClaim := { program := "ytekihdnkkeggjaa", sum := "0677ac62662c9a4fddc4c889752b1a899a93a5f44ccc0abbc9e49e168dcb1142", func := "loop.example/g01286/laws.FnExactCountBeside", spec := "fnExactCountBeside", unfollowed := true, recurses := true, apart := false }
def FnExactCountBesideSaid : Prop := fnExactCountBesideRow.holds Try.pinned (OpenSpec.ofChange fnExactCountBesideSpec)

/-- ITS FALSE NEIGHBOUR: 'it returns false'. Refute it at one input. -/
def fnExactCountBesideWrong : ChangeSpec := { name := "fnExactCountBeside", fn := fun _ => fun
  | [d1, d2] => { results := [.lit (.bool false)], args := [d1, d2] }
  | _ => none }
def FnExactCountBesideWrongFalsely : Prop := fnExactCountBesideRow.holds Try.pinned (OpenSpec.ofChange fnExactCountBesideWrong)

/-- 'laws.FnExactHardestOrder': WHATEVER THE INPUT: true; the input reads as it did. -/
def fnExactHardestOrderSpec : ChangeSpec := { name := "fnExactHardestOrder", fn := fun _ => fun
  | [d] => { results := [.lit (.bool true)], args := [d] }
  | _ => none }
def fnExactHardestOrderRow : OpenClaim := { program := "ytekihdnkkeggjaa", sum := "0677ac62662c9a4fddc4c889752b1a899a93a5f44ccc0abbc9e49e168dcb1142", func := "loop.example/g01286/laws.FnExactHardestOrder", spec := "fnExactHardestOrder", unfollowed := true, recurses := true, apart := false }
def FnExactHardestOrderSaid : Prop := fnExactHardestOrderRow.holds Try.pinned (OpenSpec.ofChange fnExactHardestOrderSpec)

/-- ITS FALSE NEIGHBOUR: 'it returns false'. Refute it at one input. -/
def fnExactHardestOrderWrong : ChangeSpec := { name := "fnExactHardestOrder", fn := fun _ => fun
  | [d] => { results := [.lit (.bool false)], args := [d] }
  | _ => none }
def FnExactHardestOrderWrongFalsely : Prop := fnExactHardestOrderRow.holds Try.pinned (OpenSpec.ofChange fnExactHardestOrderWrong)

/- THE SECOND FORM. 'bulk': how many values and letters a reading holds, each counted each time it is reached (what is shared counts as often as it is met; a slice's spare places count too). A statement '..UptoSaid' is the law's where the arguments, and the package variables that the reading takes, are together of bulk at most 1048576: NARROWER than '..Said'. Prove '..Said' where nothing that the law and all that it calls make is longer than what came in: it says more and counts as full. Else prove '..UptoSaid'. A law counts once. -/
mutual
def uptoBulk {H : Type} : DataW H → Nat
  | .lit (.string bytes) => bytes.length + 1
  | .lit _ => 1
  | .nil => 1
  | .ptr d => uptoBulk d + 1
  | .slice elems spare => uptoBulkAll elems + uptoBulkAll spare + 1
  | .agg parts => uptoBulkAll parts + 1
  | .iface _ d => uptoBulk d + 1
  | .map entries => uptoBulkEntries entries + 1
  | .held _ => 1
def uptoBulkAll {H : Type} : List (DataW H) → Nat
  | [] => 0
  | d :: r => uptoBulk d + uptoBulkAll r
def uptoBulkEntries {H : Type} : List (Lit × DataW H) → Nat
  | [] => 0
  | x :: r => uptoBulkEntry x + uptoBulkEntries r
def uptoBulkEntry {H : Type} : Lit × DataW H → Nat
  | (.string bytes, d) => bytes.length + uptoBulk d + 1
  | (_, d) => uptoBulk d + 1
 end
def uptoSmall : (H : Type) → List (DataW H) → Bool := fun _ ds => decide (uptoBulkAll ds ≤ 1048576)
def OpenSpec.upto (s : _root_.Go.ChangeSpec) : _root_.Go.OpenSpec := { _root_.Go.OpenSpec.ofChange s with cond := some uptoSmall }

/-- 'laws.FnConflicts', WHERE WHAT IT READS IS OF BULK AT MOST 1048576: true; the input reads as it did. -/
def fnConflictsUptoRow : OpenClaim := { program := "ytekihdnkkeggjaa", sum := "0677ac62662c9a4fddc4c889752b1a899a93a5f44ccc0abbc9e49e168dcb1142", func := "loop.example/g01286/laws.FnConflicts", spec := "fnConflicts", unfollowed := true, recurses := true, apart := false, narrowed := true }
def FnConflictsUptoSaid : Prop := fnConflictsUptoRow.holds Try.pinned (OpenSpec.upto fnConflictsSpec)

/-- 'laws.FnStacks', WHERE WHAT IT READS IS OF BULK AT MOST 1048576: true; the input reads as it did. -/
def fnStacksUptoRow : OpenClaim := { program := "ytekihdnkkeggjaa", sum := "0677ac62662c9a4fddc4c889752b1a899a93a5f44ccc0abbc9e49e168dcb1142", func := "loop.example/g01286/laws.FnStacks", spec := "fnStacks", unfollowed := true, recurses := true, apart := false, narrowed := true }
def FnStacksUptoSaid : Prop := fnStacksUptoRow.holds Try.pinned (OpenSpec.upto fnStacksSpec)

/-- 'laws.FnExactConflictsOf', WHERE WHAT IT READS IS OF BULK AT MOST 1048576: true; the input reads as it did. -/
def fnExactConflictsOfUptoRow : OpenClaim := { program := "ytekihdnkkeggjaa", sum := "0677ac62662c9a4fddc4c889752b1a899a93a5f44ccc0abbc9e49e168dcb1142", func := "loop.example/g01286/laws.FnExactConflictsOf", spec := "fnExactConflictsOf", apart := false, narrowed := true }
def FnExactConflictsOfUptoSaid : Prop := fnExactConflictsOfUptoRow.holds Try.pinned (OpenSpec.upto fnExactConflictsOfSpec)

/-- 'laws.FnExactIsSharing', WHERE WHAT IT READS IS OF BULK AT MOST 1048576: true; the input reads as it did. -/
def fnExactIsSharingUptoRow : OpenClaim := { program := "ytekihdnkkeggjaa", sum := "0677ac62662c9a4fddc4c889752b1a899a93a5f44ccc0abbc9e49e168dcb1142", func := "loop.example/g01286/laws.FnExactIsSharing", spec := "fnExactIsSharing", apart := false, narrowed := true }
def FnExactIsSharingUptoSaid : Prop := fnExactIsSharingUptoRow.holds Try.pinned (OpenSpec.upto fnExactIsSharingSpec)

/-- 'laws.FnExactFitsSharing', WHERE WHAT IT READS IS OF BULK AT MOST 1048576: true; the input reads as it did. -/
def fnExactFitsSharingUptoRow : OpenClaim := { program := "ytekihdnkkeggjaa", sum := "0677ac62662c9a4fddc4c889752b1a899a93a5f44ccc0abbc9e49e168dcb1142", func := "loop.example/g01286/laws.FnExactFitsSharing", spec := "fnExactFitsSharing", apart := false, narrowed := true }
def FnExactFitsSharingUptoSaid : Prop := fnExactFitsSharingUptoRow.holds Try.pinned (OpenSpec.upto fnExactFitsSharingSpec)

/-- 'laws.FnExactFewestStacks', WHERE WHAT IT READS IS OF BULK AT MOST 1048576: true; the input reads as it did. -/
def fnExactFewestStacksUptoRow : OpenClaim := { program := "ytekihdnkkeggjaa", sum := "0677ac62662c9a4fddc4c889752b1a899a93a5f44ccc0abbc9e49e168dcb1142", func := "loop.example/g01286/laws.FnExactFewestStacks", spec := "fnExactFewestStacks", unfollowed := true, recurses := true, apart := false, narrowed := true }
def FnExactFewestStacksUptoSaid : Prop := fnExactFewestStacksUptoRow.holds Try.pinned (OpenSpec.upto fnExactFewestStacksSpec)

/-- 'laws.FnExactFirstSharing', WHERE WHAT IT READS IS OF BULK AT MOST 1048576: true; the input reads as it did. -/
def fnExactFirstSharingUptoRow : OpenClaim := { program := "ytekihdnkkeggjaa", sum := "0677ac62662c9a4fddc4c889752b1a899a93a5f44ccc0abbc9e49e168dcb1142", func := "loop.example/g01286/laws.FnExactFirstSharing", spec := "fnExactFirstSharing", unfollowed := true, recurses := true, apart := false, narrowed := true }
def FnExactFirstSharingUptoSaid : Prop := fnExactFirstSharingUptoRow.holds Try.pinned (OpenSpec.upto fnExactFirstSharingSpec)

/-- 'laws.FnExactCountSharings', WHERE WHAT IT READS IS OF BULK AT MOST 1048576: true; the input reads as it did. -/
def fnExactCountSharingsUptoRow : OpenClaim := { program := "ytekihdnkkeggjaa", sum := "0677ac62662c9a4fddc4c889752b1a899a93a5f44ccc0abbc9e49e168dcb1142", func := "loop.example/g01286/laws.FnExactCountSharings", spec := "fnExactCountSharings", unfollowed := true, recurses := true, apart := false, narrowed := true }
def FnExactCountSharingsUptoSaid : Prop := fnExactCountSharingsUptoRow.holds Try.pinned (OpenSpec.upto fnExactCountSharingsSpec)

/-- 'laws.FnExactGreedySharing', WHERE WHAT IT READS IS OF BULK AT MOST 1048576: true; the input reads as it did. -/
def fnExactGreedySharingUptoRow : OpenClaim := { program := "ytekihdnkkeggjaa", sum := "0677ac62662c9a4fddc4c889752b1a899a93a5f44ccc0abbc9e49e168dcb1142", func := "loop.example/g01286/laws.FnExactGreedySharing", spec := "fnExactGreedySharing", apart := false, narrowed := true }
def FnExactGreedySharingUptoSaid : Prop := fnExactGreedySharingUptoRow.holds Try.pinned (OpenSpec.upto fnExactGreedySharingSpec)

/-- 'laws.FnExactMovesOf', WHERE WHAT IT READS IS OF BULK AT MOST 1048576: true; the input reads as it did. -/
def fnExactMovesOfUptoRow : OpenClaim := { program := "ytekihdnkkeggjaa", sum := "0677ac62662c9a4fddc4c889752b1a899a93a5f44ccc0abbc9e49e168dcb1142", func := "loop.example/g01286/laws.FnExactMovesOf", spec := "fnExactMovesOf", apart := false, narrowed := true }
def FnExactMovesOfUptoSaid : Prop := fnExactMovesOfUptoRow.holds Try.pinned (OpenSpec.upto fnExactMovesOfSpec)

/-- 'laws.FnExactComesOut', WHERE WHAT IT READS IS OF BULK AT MOST 1048576: true; the input reads as it did. -/
def fnExactComesOutUptoRow : OpenClaim := { program := "ytekihdnkkeggjaa", sum := "0677ac62662c9a4fddc4c889752b1a899a93a5f44ccc0abbc9e49e168dcb1142", func := "loop.example/g01286/laws.FnExactComesOut", spec := "fnExactComesOut", apart := false, narrowed := true }
def FnExactComesOutUptoSaid : Prop := fnExactComesOutUptoRow.holds Try.pinned (OpenSpec.upto fnExactComesOutSpec)

/-- 'laws.FnExactDepthsOf', WHERE WHAT IT READS IS OF BULK AT MOST 1048576: true; the input reads as it did. -/
def fnExactDepthsOfUptoRow : OpenClaim := { program := "ytekihdnkkeggjaa", sum := "0677ac62662c9a4fddc4c889752b1a899a93a5f44ccc0abbc9e49e168dcb1142", func := "loop.example/g01286/laws.FnExactDepthsOf", spec := "fnExactDepthsOf", apart := false, narrowed := true }
def FnExactDepthsOfUptoSaid : Prop := fnExactDepthsOfUptoRow.holds Try.pinned (OpenSpec.upto fnExactDepthsOfSpec)

/-- 'laws.FnExactCountBeside', WHERE WHAT IT READS IS OF BULK AT MOST 1048576: true; the input reads as it did. -/
def fnExactCountBesideUptoRow : OpenClaim := { program := "ytekihdnkkeggjaa", sum := "0677ac62662c9a4fddc4c889752b1a899a93a5f44ccc0abbc9e49e168dcb1142", func := "loop.example/g01286/laws.FnExactCountBeside", spec := "fnExactCountBeside", unfollowed := true, recurses := true, apart := false, narrowed := true }
def FnExactCountBesideUptoSaid : Prop := fnExactCountBesideUptoRow.holds Try.pinned (OpenSpec.upto fnExactCountBesideSpec)

/-- 'laws.FnExactHardestOrder', WHERE WHAT IT READS IS OF BULK AT MOST 1048576: true; the input reads as it did. -/
def fnExactHardestOrderUptoRow : OpenClaim := { program := "ytekihdnkkeggjaa", sum := "0677ac62662c9a4fddc4c889752b1a899a93a5f44ccc0abbc9e49e168dcb1142", func := "loop.example/g01286/laws.FnExactHardestOrder", spec := "fnExactHardestOrder", unfollowed := true, recurses := true, apart := false, narrowed := true }
def FnExactHardestOrderUptoSaid : Prop := fnExactHardestOrderUptoRow.holds Try.pinned (OpenSpec.upto fnExactHardestOrderSpec)

end Rows
end Go.Proofs.Ytekihdnkkeggjaa
