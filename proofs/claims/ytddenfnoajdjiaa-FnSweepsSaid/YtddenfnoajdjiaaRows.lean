/-
  No cell of these rows narrows 'for every input' (looked for: loops, veiled, ifaces, maps, wideKeys, modest, calm, conditions, laid).
  DERIVED. THE GIVEN ROWS OF THIS SEAT. 15 by the template 'for every input the law returns true; each argument reads behind the call as it read before'; 0 by the template 'total and deterministic' (their statements: YtddenfnoajdjiaaTotals.lean).
  GIVEN WITH THE SEED: the statements are not yours to turn. If you find one false, say at which input.
  Laid BY PROGRAM, IN A SANDBOX (cutbox-rows.mjs): the forced cells as the released guide's own fill.sh prints them over the translation 54e5a8a8d95b14a1… (all of the seat's roots in one cut). By AI agents, Wed Nov 11 2026. No macro, syntax, notation, axiom, sorry.
-/
import Derived.Test.YtddenfnoajdjiaaChecked
import GoSem.Claim
import GoSem.ClaimJoined
import GoSem.ClaimMapViews
import Derived.JoinedTies
import Derived.KernelRfl
namespace Go.Proofs.Ytddenfnoajdjiaa
/- THE CELL 'sum', in the pinned program and in every row, IS THE sha256 OF THE DUMP (.gsa) THAT YtddenfnoajdjiaaProg.lean LOADS. Nothing in Lean hashes anything: it is a label: what it is worth is what the hold of that sum in a sandbox is worth. -/
noncomputable def Try.pinned : Pinned := { name := "ytddenfnoajdjiaa", sum := "54e5a8a8d95b14a1d28e1e8fc28750d7733825fb1cc1115d52a568d457d7bd9f", checked := Try.checked }
namespace Rows
def none {H : Type} : Left H := { results := [], args := [] }

/-- 'laws.FnOneStack': WHATEVER THE INPUT: true; the input reads as it did. -/
def fnOneStackSpec : ChangeSpec := { name := "fnOneStack", fn := fun _ => fun
  | [d] => { results := [.lit (.bool true)], args := [d] }
  | _ => none }
def fnOneStackRow : OpenClaim := { program := "ytddenfnoajdjiaa", sum := "54e5a8a8d95b14a1d28e1e8fc28750d7733825fb1cc1115d52a568d457d7bd9f", func := "loop.example/g01286/laws.FnOneStack", spec := "fnOneStack", unfollowed := true, recurses := true, apart := false }
def FnOneStackSaid : Prop := fnOneStackRow.holds Try.pinned (OpenSpec.ofChange fnOneStackSpec)

/-- ITS FALSE NEIGHBOUR: 'it returns false'. Refute it at one input. -/
def fnOneStackWrong : ChangeSpec := { name := "fnOneStack", fn := fun _ => fun
  | [d] => { results := [.lit (.bool false)], args := [d] }
  | _ => none }
def FnOneStackWrongFalsely : Prop := fnOneStackRow.holds Try.pinned (OpenSpec.ofChange fnOneStackWrong)

/-- 'laws.FnSweeps': WHATEVER THE INPUT: true; the input reads as it did. -/
def fnSweepsSpec : ChangeSpec := { name := "fnSweeps", fn := fun _ => fun
  | [d] => { results := [.lit (.bool true)], args := [d] }
  | _ => none }
def fnSweepsRow : OpenClaim := { program := "ytddenfnoajdjiaa", sum := "54e5a8a8d95b14a1d28e1e8fc28750d7733825fb1cc1115d52a568d457d7bd9f", func := "loop.example/g01286/laws.FnSweeps", spec := "fnSweeps", unfollowed := true, recurses := true, apart := false }
def FnSweepsSaid : Prop := fnSweepsRow.holds Try.pinned (OpenSpec.ofChange fnSweepsSpec)

/-- ITS FALSE NEIGHBOUR: 'it returns false'. Refute it at one input. -/
def fnSweepsWrong : ChangeSpec := { name := "fnSweeps", fn := fun _ => fun
  | [d] => { results := [.lit (.bool false)], args := [d] }
  | _ => none }
def FnSweepsWrongFalsely : Prop := fnSweepsRow.holds Try.pinned (OpenSpec.ofChange fnSweepsWrong)

/-- 'laws.FnExactIsSortable': WHATEVER THE INPUT: true; the input reads as it did. -/
def fnExactIsSortableSpec : ChangeSpec := { name := "fnExactIsSortable", fn := fun _ => fun
  | [d] => { results := [.lit (.bool true)], args := [d] }
  | _ => none }
def fnExactIsSortableRow : OpenClaim := { program := "ytddenfnoajdjiaa", sum := "54e5a8a8d95b14a1d28e1e8fc28750d7733825fb1cc1115d52a568d457d7bd9f", func := "loop.example/g01286/laws.FnExactIsSortable", spec := "fnExactIsSortable", apart := false }
def FnExactIsSortableSaid : Prop := fnExactIsSortableRow.holds Try.pinned (OpenSpec.ofChange fnExactIsSortableSpec)

/-- ITS FALSE NEIGHBOUR: 'it returns false'. Refute it at one input. -/
def fnExactIsSortableWrong : ChangeSpec := { name := "fnExactIsSortable", fn := fun _ => fun
  | [d] => { results := [.lit (.bool false)], args := [d] }
  | _ => none }
def FnExactIsSortableWrongFalsely : Prop := fnExactIsSortableRow.holds Try.pinned (OpenSpec.ofChange fnExactIsSortableWrong)

/-- 'laws.FnExactSortingWord': WHATEVER THE INPUT: true; the input reads as it did. -/
def fnExactSortingWordSpec : ChangeSpec := { name := "fnExactSortingWord", fn := fun _ => fun
  | [d] => { results := [.lit (.bool true)], args := [d] }
  | _ => none }
def fnExactSortingWordRow : OpenClaim := { program := "ytddenfnoajdjiaa", sum := "54e5a8a8d95b14a1d28e1e8fc28750d7733825fb1cc1115d52a568d457d7bd9f", func := "loop.example/g01286/laws.FnExactSortingWord", spec := "fnExactSortingWord", apart := false }
def FnExactSortingWordSaid : Prop := fnExactSortingWordRow.holds Try.pinned (OpenSpec.ofChange fnExactSortingWordSpec)

/-- ITS FALSE NEIGHBOUR: 'it returns false'. Refute it at one input. -/
def fnExactSortingWordWrong : ChangeSpec := { name := "fnExactSortingWord", fn := fun _ => fun
  | [d] => { results := [.lit (.bool false)], args := [d] }
  | _ => none }
def FnExactSortingWordWrongFalsely : Prop := fnExactSortingWordRow.holds Try.pinned (OpenSpec.ofChange fnExactSortingWordWrong)

/-- 'laws.FnExactSweepOrder': WHATEVER THE INPUT: true; the input reads as it did. -/
def fnExactSweepOrderSpec : ChangeSpec := { name := "fnExactSweepOrder", fn := fun _ => fun
  | [d] => { results := [.lit (.bool true)], args := [d] }
  | _ => none }
def fnExactSweepOrderRow : OpenClaim := { program := "ytddenfnoajdjiaa", sum := "54e5a8a8d95b14a1d28e1e8fc28750d7733825fb1cc1115d52a568d457d7bd9f", func := "loop.example/g01286/laws.FnExactSweepOrder", spec := "fnExactSweepOrder", apart := false }
def FnExactSweepOrderSaid : Prop := fnExactSweepOrderRow.holds Try.pinned (OpenSpec.ofChange fnExactSweepOrderSpec)

/-- ITS FALSE NEIGHBOUR: 'it returns false'. Refute it at one input. -/
def fnExactSweepOrderWrong : ChangeSpec := { name := "fnExactSweepOrder", fn := fun _ => fun
  | [d] => { results := [.lit (.bool false)], args := [d] }
  | _ => none }
def FnExactSweepOrderWrongFalsely : Prop := fnExactSweepOrderRow.holds Try.pinned (OpenSpec.ofChange fnExactSweepOrderWrong)

/-- 'laws.FnExactSweepWord': WHATEVER THE INPUT: true; the input reads as it did. -/
def fnExactSweepWordSpec : ChangeSpec := { name := "fnExactSweepWord", fn := fun _ => fun
  | [d] => { results := [.lit (.bool true)], args := [d] }
  | _ => none }
def fnExactSweepWordRow : OpenClaim := { program := "ytddenfnoajdjiaa", sum := "54e5a8a8d95b14a1d28e1e8fc28750d7733825fb1cc1115d52a568d457d7bd9f", func := "loop.example/g01286/laws.FnExactSweepWord", spec := "fnExactSweepWord", apart := false }
def FnExactSweepWordSaid : Prop := fnExactSweepWordRow.holds Try.pinned (OpenSpec.ofChange fnExactSweepWordSpec)

/-- ITS FALSE NEIGHBOUR: 'it returns false'. Refute it at one input. -/
def fnExactSweepWordWrong : ChangeSpec := { name := "fnExactSweepWord", fn := fun _ => fun
  | [d] => { results := [.lit (.bool false)], args := [d] }
  | _ => none }
def FnExactSweepWordWrongFalsely : Prop := fnExactSweepWordRow.holds Try.pinned (OpenSpec.ofChange fnExactSweepWordWrong)

/-- 'laws.FnExactCountSweeps': WHATEVER THE INPUT: true; the input reads as it did. -/
def fnExactCountSweepsSpec : ChangeSpec := { name := "fnExactCountSweeps", fn := fun _ => fun
  | [d] => { results := [.lit (.bool true)], args := [d] }
  | _ => none }
def fnExactCountSweepsRow : OpenClaim := { program := "ytddenfnoajdjiaa", sum := "54e5a8a8d95b14a1d28e1e8fc28750d7733825fb1cc1115d52a568d457d7bd9f", func := "loop.example/g01286/laws.FnExactCountSweeps", spec := "fnExactCountSweeps", apart := false }
def FnExactCountSweepsSaid : Prop := fnExactCountSweepsRow.holds Try.pinned (OpenSpec.ofChange fnExactCountSweepsSpec)

/-- ITS FALSE NEIGHBOUR: 'it returns false'. Refute it at one input. -/
def fnExactCountSweepsWrong : ChangeSpec := { name := "fnExactCountSweeps", fn := fun _ => fun
  | [d] => { results := [.lit (.bool false)], args := [d] }
  | _ => none }
def FnExactCountSweepsWrongFalsely : Prop := fnExactCountSweepsRow.holds Try.pinned (OpenSpec.ofChange fnExactCountSweepsWrong)

/-- 'laws.FnExactOrderOfWord': WHATEVER THE INPUT: true; the input reads as it did. -/
def fnExactOrderOfWordSpec : ChangeSpec := { name := "fnExactOrderOfWord", fn := fun _ => fun
  | [d] => { results := [.lit (.bool true)], args := [d] }
  | _ => none }
def fnExactOrderOfWordRow : OpenClaim := { program := "ytddenfnoajdjiaa", sum := "54e5a8a8d95b14a1d28e1e8fc28750d7733825fb1cc1115d52a568d457d7bd9f", func := "loop.example/g01286/laws.FnExactOrderOfWord", spec := "fnExactOrderOfWord", apart := false }
def FnExactOrderOfWordSaid : Prop := fnExactOrderOfWordRow.holds Try.pinned (OpenSpec.ofChange fnExactOrderOfWordSpec)

/-- ITS FALSE NEIGHBOUR: 'it returns false'. Refute it at one input. -/
def fnExactOrderOfWordWrong : ChangeSpec := { name := "fnExactOrderOfWord", fn := fun _ => fun
  | [d] => { results := [.lit (.bool false)], args := [d] }
  | _ => none }
def FnExactOrderOfWordWrongFalsely : Prop := fnExactOrderOfWordRow.holds Try.pinned (OpenSpec.ofChange fnExactOrderOfWordWrong)

/-- 'laws.FnExactRankOfWord': WHATEVER THE INPUT: true; the input reads as it did. -/
def fnExactRankOfWordSpec : ChangeSpec := { name := "fnExactRankOfWord", fn := fun _ => fun
  | [d] => { results := [.lit (.bool true)], args := [d] }
  | _ => none }
def fnExactRankOfWordRow : OpenClaim := { program := "ytddenfnoajdjiaa", sum := "54e5a8a8d95b14a1d28e1e8fc28750d7733825fb1cc1115d52a568d457d7bd9f", func := "loop.example/g01286/laws.FnExactRankOfWord", spec := "fnExactRankOfWord", recurses := true, apart := false }
def FnExactRankOfWordSaid : Prop := fnExactRankOfWordRow.holds Try.pinned (OpenSpec.ofChange fnExactRankOfWordSpec)

/-- ITS FALSE NEIGHBOUR: 'it returns false'. Refute it at one input. -/
def fnExactRankOfWordWrong : ChangeSpec := { name := "fnExactRankOfWord", fn := fun _ => fun
  | [d] => { results := [.lit (.bool false)], args := [d] }
  | _ => none }
def FnExactRankOfWordWrongFalsely : Prop := fnExactRankOfWordRow.holds Try.pinned (OpenSpec.ofChange fnExactRankOfWordWrong)

/-- 'laws.FnExactWordAt': WHATEVER THE INPUT: true; the input reads as it did. -/
def fnExactWordAtSpec : ChangeSpec := { name := "fnExactWordAt", fn := fun _ => fun
  | [d1, d2] => { results := [.lit (.bool true)], args := [d1, d2] }
  | _ => none }
def fnExactWordAtRow : OpenClaim := { program := "ytddenfnoajdjiaa", sum := "54e5a8a8d95b14a1d28e1e8fc28750d7733825fb1cc1115d52a568d457d7bd9f", func := "loop.example/g01286/laws.FnExactWordAt", spec := "fnExactWordAt", recurses := true, apart := false }
def FnExactWordAtSaid : Prop := fnExactWordAtRow.holds Try.pinned (OpenSpec.ofChange fnExactWordAtSpec)

/-- ITS FALSE NEIGHBOUR: 'it returns false'. Refute it at one input. -/
def fnExactWordAtWrong : ChangeSpec := { name := "fnExactWordAt", fn := fun _ => fun
  | [d1, d2] => { results := [.lit (.bool false)], args := [d1, d2] }
  | _ => none }
def FnExactWordAtWrongFalsely : Prop := fnExactWordAtRow.holds Try.pinned (OpenSpec.ofChange fnExactWordAtWrong)

/-- 'laws.FnExactCountOneStack': WHATEVER THE INPUT: true; the input reads as it did. -/
def fnExactCountOneStackSpec : ChangeSpec := { name := "fnExactCountOneStack", fn := fun _ => fun
  | [d] => { results := [.lit (.bool true)], args := [d] }
  | _ => none }
def fnExactCountOneStackRow : OpenClaim := { program := "ytddenfnoajdjiaa", sum := "54e5a8a8d95b14a1d28e1e8fc28750d7733825fb1cc1115d52a568d457d7bd9f", func := "loop.example/g01286/laws.FnExactCountOneStack", spec := "fnExactCountOneStack", recurses := true, apart := false }
def FnExactCountOneStackSaid : Prop := fnExactCountOneStackRow.holds Try.pinned (OpenSpec.ofChange fnExactCountOneStackSpec)

/-- ITS FALSE NEIGHBOUR: 'it returns false'. Refute it at one input. -/
def fnExactCountOneStackWrong : ChangeSpec := { name := "fnExactCountOneStack", fn := fun _ => fun
  | [d] => { results := [.lit (.bool false)], args := [d] }
  | _ => none }
def FnExactCountOneStackWrongFalsely : Prop := fnExactCountOneStackRow.holds Try.pinned (OpenSpec.ofChange fnExactCountOneStackWrong)

/-- 'laws.FnExactBadTriple': WHATEVER THE INPUT: true; the input reads as it did. -/
def fnExactBadTripleSpec : ChangeSpec := { name := "fnExactBadTriple", fn := fun _ => fun
  | [d] => { results := [.lit (.bool true)], args := [d] }
  | _ => none }
def fnExactBadTripleRow : OpenClaim := { program := "ytddenfnoajdjiaa", sum := "54e5a8a8d95b14a1d28e1e8fc28750d7733825fb1cc1115d52a568d457d7bd9f", func := "loop.example/g01286/laws.FnExactBadTriple", spec := "fnExactBadTriple", unfollowed := true, recurses := true, apart := false }
def FnExactBadTripleSaid : Prop := fnExactBadTripleRow.holds Try.pinned (OpenSpec.ofChange fnExactBadTripleSpec)

/-- ITS FALSE NEIGHBOUR: 'it returns false'. Refute it at one input. -/
def fnExactBadTripleWrong : ChangeSpec := { name := "fnExactBadTriple", fn := fun _ => fun
  | [d] => { results := [.lit (.bool false)], args := [d] }
  | _ => none }
def FnExactBadTripleWrongFalsely : Prop := fnExactBadTripleRow.holds Try.pinned (OpenSpec.ofChange fnExactBadTripleWrong)

/-- 'laws.FnExactRecordPlaces': WHATEVER THE INPUT: true; the input reads as it did. -/
def fnExactRecordPlacesSpec : ChangeSpec := { name := "fnExactRecordPlaces", fn := fun _ => fun
  | [d] => { results := [.lit (.bool true)], args := [d] }
  | _ => none }
def fnExactRecordPlacesRow : OpenClaim := { program := "ytddenfnoajdjiaa", sum := "54e5a8a8d95b14a1d28e1e8fc28750d7733825fb1cc1115d52a568d457d7bd9f", func := "loop.example/g01286/laws.FnExactRecordPlaces", spec := "fnExactRecordPlaces", apart := false }
def FnExactRecordPlacesSaid : Prop := fnExactRecordPlacesRow.holds Try.pinned (OpenSpec.ofChange fnExactRecordPlacesSpec)

/-- ITS FALSE NEIGHBOUR: 'it returns false'. Refute it at one input. -/
def fnExactRecordPlacesWrong : ChangeSpec := { name := "fnExactRecordPlaces", fn := fun _ => fun
  | [d] => { results := [.lit (.bool false)], args := [d] }
  | _ => none }
def FnExactRecordPlacesWrongFalsely : Prop := fnExactRecordPlacesRow.holds Try.pinned (OpenSpec.ofChange fnExactRecordPlacesWrong)

/-- 'laws.FnExactSweptFrom': WHATEVER THE INPUT: true; the input reads as it did. -/
def fnExactSweptFromSpec : ChangeSpec := { name := "fnExactSweptFrom", fn := fun _ => fun
  | [d] => { results := [.lit (.bool true)], args := [d] }
  | _ => none }
def fnExactSweptFromRow : OpenClaim := { program := "ytddenfnoajdjiaa", sum := "54e5a8a8d95b14a1d28e1e8fc28750d7733825fb1cc1115d52a568d457d7bd9f", func := "loop.example/g01286/laws.FnExactSweptFrom", spec := "fnExactSweptFrom", unfollowed := true, recurses := true, apart := false }
def FnExactSweptFromSaid : Prop := fnExactSweptFromRow.holds Try.pinned (OpenSpec.ofChange fnExactSweptFromSpec)

/-- ITS FALSE NEIGHBOUR: 'it returns false'. Refute it at one input. -/
def fnExactSweptFromWrong : ChangeSpec := { name := "fnExactSweptFrom", fn := fun _ => fun
  | [d] => { results := [.lit (.bool false)], args := [d] }
  | _ => none }
def FnExactSweptFromWrongFalsely : Prop := fnExactSweptFromRow.holds Try.pinned (OpenSpec.ofChange fnExactSweptFromWrong)

/-- 'laws.FnExactBlocksOf': WHATEVER THE INPUT: true; the input reads as it did. -/
def fnExactBlocksOfSpec : ChangeSpec := { name := "fnExactBlocksOf", fn := fun _ => fun
  | [d] => { results := [.lit (.bool true)], args := [d] }
  | _ => none }
def fnExactBlocksOfRow : OpenClaim := { program := "ytddenfnoajdjiaa", sum := "54e5a8a8d95b14a1d28e1e8fc28750d7733825fb1cc1115d52a568d457d7bd9f", func := "loop.example/g01286/laws.FnExactBlocksOf", spec := "fnExactBlocksOf", apart := false }
def FnExactBlocksOfSaid : Prop := fnExactBlocksOfRow.holds Try.pinned (OpenSpec.ofChange fnExactBlocksOfSpec)

/-- ITS FALSE NEIGHBOUR: 'it returns false'. Refute it at one input. -/
def fnExactBlocksOfWrong : ChangeSpec := { name := "fnExactBlocksOf", fn := fun _ => fun
  | [d] => { results := [.lit (.bool false)], args := [d] }
  | _ => none }
def FnExactBlocksOfWrongFalsely : Prop := fnExactBlocksOfRow.holds Try.pinned (OpenSpec.ofChange fnExactBlocksOfWrong)

/- THE SECOND FORM. 'bulk': how many values and letters a reading holds, each counted each time it is reached (what is shared counts as often as it is met; a slice's spare places count too). A statement '..UptoSaid' is the law's where the arguments, and the package variables that the reading takes, are together of bulk at most 1048576: NARROWER than '..Said'. Prove '..Said' where nothing that the law and all that it calls make is longer than what came in: it says more and counts as full. Else prove '..UptoSaid'. A law counts once. -/
mutual
def uptoBulk {H : Type} : DataW H → Nat
  | .lit (.string bytes) => bytes.length + 1
  | .lit _ => 1
  | .nil => 1
  | .ptr d => uptoBulk d + 1
  | .slice elems spare => uptoBulkAll elems + uptoBulkAll spare + 1
  | .agg parts => uptoBulkAll parts + 1
  | .iface _ d => uptoBulk d + 1
  | .map entries => uptoBulkEntries entries + 1
  | .held _ => 1
def uptoBulkAll {H : Type} : List (DataW H) → Nat
  | [] => 0
  | d :: r => uptoBulk d + uptoBulkAll r
def uptoBulkEntries {H : Type} : List (Lit × DataW H) → Nat
  | [] => 0
  | x :: r => uptoBulkEntry x + uptoBulkEntries r
def uptoBulkEntry {H : Type} : Lit × DataW H → Nat
  | (.string bytes, d) => bytes.length + uptoBulk d + 1
  | (_, d) => uptoBulk d + 1
 end
def uptoSmall : (H : Type) → List (DataW H) → Bool := fun _ ds => decide (uptoBulkAll ds ≤ 1048576)
def OpenSpec.upto (s : _root_.Go.ChangeSpec) : _root_.Go.OpenSpec := { _root_.Go.OpenSpec.ofChange s with cond := some uptoSmall }

/-- 'laws.FnOneStack', WHERE WHAT IT READS IS OF BULK AT MOST 1048576: true; the input reads as it did. -/
def fnOneStackUptoRow : OpenClaim := { program := "ytddenfnoajdjiaa", sum := "54e5a8a8d95b14a1d28e1e8fc28750d7733825fb1cc1115d52a568d457d7bd9f", func := "loop.example/g01286/laws.FnOneStack", spec := "fnOneStack", unfollowed := true, recurses := true, apart := false, narrowed := true }
def FnOneStackUptoSaid : Prop := fnOneStackUptoRow.holds Try.pinned (OpenSpec.upto fnOneStackSpec)

/-- 'laws.FnSweeps', WHERE WHAT IT READS IS OF BULK AT MOST 1048576: true; the input reads as it did. -/
def fnSweepsUptoRow : OpenClaim := { program := "ytddenfnoajdjiaa", sum := "54e5a8a8d95b14a1d28e1e8fc28750d7733825fb1cc1115d52a568d457d7bd9f", func := "loop.example/g01286/laws.FnSweeps", spec := "fnSweeps", unfollowed := true, recurses := true, apart := false, narrowed := true }
def FnSweepsUptoSaid : Prop := fnSweepsUptoRow.holds Try.pinned (OpenSpec.upto fnSweepsSpec)

/-- 'laws.FnExactIsSortable', WHERE WHAT IT READS IS OF BULK AT MOST 1048576: true; the input reads as it did. -/
def fnExactIsSortableUptoRow : OpenClaim := { program := "ytddenfnoajdjiaa", sum := "54e5a8a8d95b14a1d28e1e8fc28750d7733825fb1cc1115d52a568d457d7bd9f", func := "loop.example/g01286/laws.FnExactIsSortable", spec := "fnExactIsSortable", apart := false, narrowed := true }
def FnExactIsSortableUptoSaid : Prop := fnExactIsSortableUptoRow.holds Try.pinned (OpenSpec.upto fnExactIsSortableSpec)

/-- 'laws.FnExactSortingWord', WHERE WHAT IT READS IS OF BULK AT MOST 1048576: true; the input reads as it did. -/
def fnExactSortingWordUptoRow : OpenClaim := { program := "ytddenfnoajdjiaa", sum := "54e5a8a8d95b14a1d28e1e8fc28750d7733825fb1cc1115d52a568d457d7bd9f", func := "loop.example/g01286/laws.FnExactSortingWord", spec := "fnExactSortingWord", apart := false, narrowed := true }
def FnExactSortingWordUptoSaid : Prop := fnExactSortingWordUptoRow.holds Try.pinned (OpenSpec.upto fnExactSortingWordSpec)

/-- 'laws.FnExactSweepOrder', WHERE WHAT IT READS IS OF BULK AT MOST 1048576: true; the input reads as it did. -/
def fnExactSweepOrderUptoRow : OpenClaim := { program := "ytddenfnoajdjiaa", sum := "54e5a8a8d95b14a1d28e1e8fc28750d7733825fb1cc1115d52a568d457d7bd9f", func := "loop.example/g01286/laws.FnExactSweepOrder", spec := "fnExactSweepOrder", apart := false, narrowed := true }
def FnExactSweepOrderUptoSaid : Prop := fnExactSweepOrderUptoRow.holds Try.pinned (OpenSpec.upto fnExactSweepOrderSpec)

/-- 'laws.FnExactSweepWord', WHERE WHAT IT READS IS OF BULK AT MOST 1048576: true; the input reads as it did. -/
def fnExactSweepWordUptoRow : OpenClaim := { program := "ytddenfnoajdjiaa", sum := "54e5a8a8d95b14a1d28e1e8fc28750d7733825fb1cc1115d52a568d457d7bd9f", func := "loop.example/g01286/laws.FnExactSweepWord", spec := "fnExactSweepWord", apart := false, narrowed := true }
def FnExactSweepWordUptoSaid : Prop := fnExactSweepWordUptoRow.holds Try.pinned (OpenSpec.upto fnExactSweepWordSpec)

/-- 'laws.FnExactCountSweeps', WHERE WHAT IT READS IS OF BULK AT MOST 1048576: true; the input reads as it did. -/
def fnExactCountSweepsUptoRow : OpenClaim := { program := "ytddenfnoajdjiaa", sum := "54e5a8a8d95b14a1d28e1e8fc28750d7733825fb1cc1115d52a568d457d7bd9f", func := "loop.example/g01286/laws.FnExactCountSweeps", spec := "fnExactCountSweeps", apart := false, narrowed := true }
def FnExactCountSweepsUptoSaid : Prop := fnExactCountSweepsUptoRow.holds Try.pinned (OpenSpec.upto fnExactCountSweepsSpec)

/-- 'laws.FnExactOrderOfWord', WHERE WHAT IT READS IS OF BULK AT MOST 1048576: true; the input reads as it did. -/
def fnExactOrderOfWordUptoRow : OpenClaim := { program := "ytddenfnoajdjiaa", sum := "54e5a8a8d95b14a1d28e1e8fc28750d7733825fb1cc1115d52a568d457d7bd9f", func := "loop.example/g01286/laws.FnExactOrderOfWord", spec := "fnExactOrderOfWord", apart := false, narrowed := true }
def FnExactOrderOfWordUptoSaid : Prop := fnExactOrderOfWordUptoRow.holds Try.pinned (OpenSpec.upto fnExactOrderOfWordSpec)

/-- 'laws.FnExactRankOfWord', WHERE WHAT IT READS IS OF BULK AT MOST 1048576: true; the input reads as it did. -/
def fnExactRankOfWordUptoRow : OpenClaim := { program := "ytddenfnoajdjiaa", sum := "54e5a8a8d95b14a1d28e1e8fc28750d7733825fb1cc1115d52a568d457d7bd9f", func := "loop.example/g01286/laws.FnExactRankOfWord", spec := "fnExactRankOfWord", recurses := true, apart := false, narrowed := true }
def FnExactRankOfWordUptoSaid : Prop := fnExactRankOfWordUptoRow.holds Try.pinned (OpenSpec.upto fnExactRankOfWordSpec)

/-- 'laws.FnExactWordAt', WHERE WHAT IT READS IS OF BULK AT MOST 1048576: true; the input reads as it did. -/
def fnExactWordAtUptoRow : OpenClaim := { program := "ytddenfnoajdjiaa", sum := "54e5a8a8d95b14a1d28e1e8fc28750d7733825fb1cc1115d52a568d457d7bd9f", func := "loop.example/g01286/laws.FnExactWordAt", spec := "fnExactWordAt", recurses := true, apart := false, narrowed := true }
def FnExactWordAtUptoSaid : Prop := fnExactWordAtUptoRow.holds Try.pinned (OpenSpec.upto fnExactWordAtSpec)

/-- 'laws.FnExactCountOneStack', WHERE WHAT IT READS IS OF BULK AT MOST 1048576: true; the input reads as it did. -/
def fnExactCountOneStackUptoRow : OpenClaim := { program := "ytddenfnoajdjiaa", sum := "54e5a8a8d95b14a1d28e1e8fc28750d7733825fb1cc1115d52a568d457d7bd9f", func := "loop.example/g01286/laws.FnExactCountOneStack", spec := "fnExactCountOneStack", recurses := true, apart := false, narrowed := true }
def FnExactCountOneStackUptoSaid : Prop := fnExactCountOneStackUptoRow.holds Try.pinned (OpenSpec.upto fnExactCountOneStackSpec)

/-- 'laws.FnExactBadTriple', WHERE WHAT IT READS IS OF BULK AT MOST 1048576: true; the input reads as it did. -/
def fnExactBadTripleUptoRow : OpenClaim := { program := "ytddenfnoajdjiaa", sum := "54e5a8a8d95b14a1d28e1e8fc28750d7733825fb1cc1115d52a568d457d7bd9f", func := "loop.example/g01286/laws.FnExactBadTriple", spec := "fnExactBadTriple", unfollowed := true, recurses := true, apart := false, narrowed := true }
def FnExactBadTripleUptoSaid : Prop := fnExactBadTripleUptoRow.holds Try.pinned (OpenSpec.upto fnExactBadTripleSpec)

/-- 'laws.FnExactRecordPlaces', WHERE WHAT IT READS IS OF BULK AT MOST 1048576: true; the input reads as it did. -/
def fnExactRecordPlacesUptoRow : OpenClaim := { program := "ytddenfnoajdjiaa", sum := "54e5a8a8d95b14a1d28e1e8fc28750d7733825fb1cc1115d52a568d457d7bd9f", func := "loop.example/g01286/laws.FnExactRecordPlaces", spec := "fnExactRecordPlaces", apart := false, narrowed := true }
def FnExactRecordPlacesUptoSaid : Prop := fnExactRecordPlacesUptoRow.holds Try.pinned (OpenSpec.upto fnExactRecordPlacesSpec)

/-- 'laws.FnExactSweptFrom', WHERE WHAT IT READS IS OF BULK AT MOST 1048576: true; the input reads as it did. -/
def fnExactSweptFromUptoRow : OpenClaim := { program := "ytddenfnoajdjiaa", sum := "54e5a8a8d95b14a1d28e1e8fc28750d7733825fb1cc1115d52a568d457d7bd9f", func := "loop.example/g01286/laws.FnExactSweptFrom", spec := "fnExactSweptFrom", unfollowed := true, recurses := true, apart := false, narrowed := true }
def FnExactSweptFromUptoSaid : Prop := fnExactSweptFromUptoRow.holds Try.pinned (OpenSpec.upto fnExactSweptFromSpec)

/-- 'laws.FnExactBlocksOf', WHERE WHAT IT READS IS OF BULK AT MOST 1048576: true; the input reads as it did. -/
def fnExactBlocksOfUptoRow : OpenClaim := { program := "ytddenfnoajdjiaa", sum := "54e5a8a8d95b14a1d28e1e8fc28750d7733825fb1cc1115d52a568d457d7bd9f", func := "loop.example/g01286/laws.FnExactBlocksOf", spec := "fnExactBlocksOf", apart := false, narrowed := true }
def FnExactBlocksOfUptoSaid : Prop := fnExactBlocksOfUptoRow.holds Try.pinned (OpenSpec.upto fnExactBlocksOfSpec)

end Rows
end Go.Proofs.Ytddenfnoajdjiaa
