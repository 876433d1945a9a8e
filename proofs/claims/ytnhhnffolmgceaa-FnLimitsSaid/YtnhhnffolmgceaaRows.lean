/-
  No cell of these rows narrows 'for every input' (looked for: loops, veiled, ifaces, maps, wideKeys, modest, calm, conditions, laid).
  DERIVED. THE GIVEN ROWS OF THIS SEAT. 14 by the template 'for every input the law returns true; each argument reads behind the call as it read before'; 0 by the template 'total and deterministic' (their statements: YtnhhnffolmgceaaTotals.lean).
  GIVEN WITH THE SEED: the statements are not yours to turn. If you find one false, say at which input.
  Laid BY PROGRAM, IN A SANDBOX (cutbox-rows.mjs): the forced cells as the released guide's own fill.sh prints them over the translation 6467fbf5c9ec0005… (all of the seat's roots in one cut). By AI agents, Wed Nov 11 2026. No macro, syntax, notation, axiom, sorry.
-/
import Derived.Test.YtnhhnffolmgceaaChecked
import GoSem.Claim
import GoSem.ClaimJoined
import GoSem.ClaimMapViews
import Derived.JoinedTies
import Derived.KernelRfl
namespace Go.Proofs.Ytnhhnffolmgceaa
/- THE CELL 'sum', in the pinned program and in every row, IS THE sha256 OF THE DUMP (.gsa) THAT YtnhhnffolmgceaaProg.lean LOADS. Nothing in Lean hashes anything: it is a label: what it is worth is what the hold of that sum in a sandbox is worth. -/
noncomputable def Try.pinned : Pinned := { name := "ytnhhnffolmgceaa", sum := "6467fbf5c9ec000521bec5857fe42284116b2cc3c49ef3778677b6358ab69821", checked := Try.checked }
namespace Rows
def none {H : Type} : Left H := { results := [], args := [] }

/-- 'laws.FnLimits': WHATEVER THE INPUT: true; the input reads as it did. -/
def fnLimitsSpec : ChangeSpec := { name := "fnLimits", fn := fun _ => fun
  | [d] => { results := [.lit (.bool true)], args := [d] }
  | _ => none }
def fnLimitsRow : OpenClaim := { program := "ytnhhnffolmgceaa", sum := "6467fbf5c9ec000521bec5857fe42284116b2cc3c49ef3778677b6358ab69821", func := "loop.example/g01286/laws.FnLimits", spec := "fnLimits", unfollowed := true, recurses := true, apart := false }
def FnLimitsSaid : Prop := fnLimitsRow.holds Try.pinned (OpenSpec.ofChange fnLimitsSpec)

/-- ITS FALSE NEIGHBOUR: 'it returns false'. Refute it at one input. -/
def fnLimitsWrong : ChangeSpec := { name := "fnLimits", fn := fun _ => fun
  | [d] => { results := [.lit (.bool false)], args := [d] }
  | _ => none }
def FnLimitsWrongFalsely : Prop := fnLimitsRow.holds Try.pinned (OpenSpec.ofChange fnLimitsWrong)

/-- 'laws.FnLimitedSweeps': WHATEVER THE INPUT: true; the input reads as it did. -/
def fnLimitedSweepsSpec : ChangeSpec := { name := "fnLimitedSweeps", fn := fun _ => fun
  | [d] => { results := [.lit (.bool true)], args := [d] }
  | _ => none }
def fnLimitedSweepsRow : OpenClaim := { program := "ytnhhnffolmgceaa", sum := "6467fbf5c9ec000521bec5857fe42284116b2cc3c49ef3778677b6358ab69821", func := "loop.example/g01286/laws.FnLimitedSweeps", spec := "fnLimitedSweeps", inPlace := ["internal/abi.NoEscape", "internal/bytealg.MakeNoZero"], unfollowed := true, recurses := true, apart := false }
def FnLimitedSweepsSaid : Prop := fnLimitedSweepsRow.holds Try.pinned (OpenSpec.ofChange fnLimitedSweepsSpec)

/-- ITS FALSE NEIGHBOUR: 'it returns false'. Refute it at one input. -/
def fnLimitedSweepsWrong : ChangeSpec := { name := "fnLimitedSweeps", fn := fun _ => fun
  | [d] => { results := [.lit (.bool false)], args := [d] }
  | _ => none }
def FnLimitedSweepsWrongFalsely : Prop := fnLimitedSweepsRow.holds Try.pinned (OpenSpec.ofChange fnLimitedSweepsWrong)

/-- 'laws.FnExactCountWithin': WHATEVER THE INPUT: true; the input reads as it did. -/
def fnExactCountWithinSpec : ChangeSpec := { name := "fnExactCountWithin", fn := fun _ => fun
  | [d1, d2] => { results := [.lit (.bool true)], args := [d1, d2] }
  | _ => none }
def fnExactCountWithinRow : OpenClaim := { program := "ytnhhnffolmgceaa", sum := "6467fbf5c9ec000521bec5857fe42284116b2cc3c49ef3778677b6358ab69821", func := "loop.example/g01286/laws.FnExactCountWithin", spec := "fnExactCountWithin", unfollowed := true, recurses := true, apart := false }
def FnExactCountWithinSaid : Prop := fnExactCountWithinRow.holds Try.pinned (OpenSpec.ofChange fnExactCountWithinSpec)

/-- ITS FALSE NEIGHBOUR: 'it returns false'. Refute it at one input. -/
def fnExactCountWithinWrong : ChangeSpec := { name := "fnExactCountWithin", fn := fun _ => fun
  | [d1, d2] => { results := [.lit (.bool false)], args := [d1, d2] }
  | _ => none }
def FnExactCountWithinWrongFalsely : Prop := fnExactCountWithinRow.holds Try.pinned (OpenSpec.ofChange fnExactCountWithinWrong)

/-- 'laws.FnExactIsSortableWithin': WHATEVER THE INPUT: true; the input reads as it did. -/
def fnExactIsSortableWithinSpec : ChangeSpec := { name := "fnExactIsSortableWithin", fn := fun _ => fun
  | [d1, d2] => { results := [.lit (.bool true)], args := [d1, d2] }
  | _ => none }
def fnExactIsSortableWithinRow : OpenClaim := { program := "ytnhhnffolmgceaa", sum := "6467fbf5c9ec000521bec5857fe42284116b2cc3c49ef3778677b6358ab69821", func := "loop.example/g01286/laws.FnExactIsSortableWithin", spec := "fnExactIsSortableWithin", apart := false }
def FnExactIsSortableWithinSaid : Prop := fnExactIsSortableWithinRow.holds Try.pinned (OpenSpec.ofChange fnExactIsSortableWithinSpec)

/-- ITS FALSE NEIGHBOUR: 'it returns false'. Refute it at one input. -/
def fnExactIsSortableWithinWrong : ChangeSpec := { name := "fnExactIsSortableWithin", fn := fun _ => fun
  | [d1, d2] => { results := [.lit (.bool false)], args := [d1, d2] }
  | _ => none }
def FnExactIsSortableWithinWrongFalsely : Prop := fnExactIsSortableWithinRow.holds Try.pinned (OpenSpec.ofChange fnExactIsSortableWithinWrong)

/-- 'laws.FnExactCountSortedWithin': WHATEVER THE INPUT: true; the input reads as it did. -/
def fnExactCountSortedWithinSpec : ChangeSpec := { name := "fnExactCountSortedWithin", fn := fun _ => fun
  | [d1, d2] => { results := [.lit (.bool true)], args := [d1, d2] }
  | _ => none }
def fnExactCountSortedWithinRow : OpenClaim := { program := "ytnhhnffolmgceaa", sum := "6467fbf5c9ec000521bec5857fe42284116b2cc3c49ef3778677b6358ab69821", func := "loop.example/g01286/laws.FnExactCountSortedWithin", spec := "fnExactCountSortedWithin", unfollowed := true, recurses := true, apart := false }
def FnExactCountSortedWithinSaid : Prop := fnExactCountSortedWithinRow.holds Try.pinned (OpenSpec.ofChange fnExactCountSortedWithinSpec)

/-- ITS FALSE NEIGHBOUR: 'it returns false'. Refute it at one input. -/
def fnExactCountSortedWithinWrong : ChangeSpec := { name := "fnExactCountSortedWithin", fn := fun _ => fun
  | [d1, d2] => { results := [.lit (.bool false)], args := [d1, d2] }
  | _ => none }
def FnExactCountSortedWithinWrongFalsely : Prop := fnExactCountSortedWithinRow.holds Try.pinned (OpenSpec.ofChange fnExactCountSortedWithinWrong)

/-- 'laws.FnExactLimitOf': WHATEVER THE INPUT: true; the input reads as it did. -/
def fnExactLimitOfSpec : ChangeSpec := { name := "fnExactLimitOf", fn := fun _ => fun
  | [d] => { results := [.lit (.bool true)], args := [d] }
  | _ => none }
def fnExactLimitOfRow : OpenClaim := { program := "ytnhhnffolmgceaa", sum := "6467fbf5c9ec000521bec5857fe42284116b2cc3c49ef3778677b6358ab69821", func := "loop.example/g01286/laws.FnExactLimitOf", spec := "fnExactLimitOf", apart := false }
def FnExactLimitOfSaid : Prop := fnExactLimitOfRow.holds Try.pinned (OpenSpec.ofChange fnExactLimitOfSpec)

/-- ITS FALSE NEIGHBOUR: 'it returns false'. Refute it at one input. -/
def fnExactLimitOfWrong : ChangeSpec := { name := "fnExactLimitOf", fn := fun _ => fun
  | [d] => { results := [.lit (.bool false)], args := [d] }
  | _ => none }
def FnExactLimitOfWrongFalsely : Prop := fnExactLimitOfRow.holds Try.pinned (OpenSpec.ofChange fnExactLimitOfWrong)

/-- 'laws.FnExactLimitedWord': WHATEVER THE INPUT: true; the input reads as it did. -/
def fnExactLimitedWordSpec : ChangeSpec := { name := "fnExactLimitedWord", fn := fun _ => fun
  | [d1, d2] => { results := [.lit (.bool true)], args := [d1, d2] }
  | _ => none }
def fnExactLimitedWordRow : OpenClaim := { program := "ytnhhnffolmgceaa", sum := "6467fbf5c9ec000521bec5857fe42284116b2cc3c49ef3778677b6358ab69821", func := "loop.example/g01286/laws.FnExactLimitedWord", spec := "fnExactLimitedWord", inPlace := ["internal/abi.NoEscape", "internal/bytealg.MakeNoZero"], apart := false }
def FnExactLimitedWordSaid : Prop := fnExactLimitedWordRow.holds Try.pinned (OpenSpec.ofChange fnExactLimitedWordSpec)

/-- ITS FALSE NEIGHBOUR: 'it returns false'. Refute it at one input. -/
def fnExactLimitedWordWrong : ChangeSpec := { name := "fnExactLimitedWord", fn := fun _ => fun
  | [d1, d2] => { results := [.lit (.bool false)], args := [d1, d2] }
  | _ => none }
def FnExactLimitedWordWrongFalsely : Prop := fnExactLimitedWordRow.holds Try.pinned (OpenSpec.ofChange fnExactLimitedWordWrong)

/-- 'laws.FnExactLimitedSweep': WHATEVER THE INPUT: true; the input reads as it did. -/
def fnExactLimitedSweepSpec : ChangeSpec := { name := "fnExactLimitedSweep", fn := fun _ => fun
  | [d1, d2] => { results := [.lit (.bool true)], args := [d1, d2] }
  | _ => none }
def fnExactLimitedSweepRow : OpenClaim := { program := "ytnhhnffolmgceaa", sum := "6467fbf5c9ec000521bec5857fe42284116b2cc3c49ef3778677b6358ab69821", func := "loop.example/g01286/laws.FnExactLimitedSweep", spec := "fnExactLimitedSweep", inPlace := ["internal/abi.NoEscape", "internal/bytealg.MakeNoZero"], apart := false }
def FnExactLimitedSweepSaid : Prop := fnExactLimitedSweepRow.holds Try.pinned (OpenSpec.ofChange fnExactLimitedSweepSpec)

/-- ITS FALSE NEIGHBOUR: 'it returns false'. Refute it at one input. -/
def fnExactLimitedSweepWrong : ChangeSpec := { name := "fnExactLimitedSweep", fn := fun _ => fun
  | [d1, d2] => { results := [.lit (.bool false)], args := [d1, d2] }
  | _ => none }
def FnExactLimitedSweepWrongFalsely : Prop := fnExactLimitedSweepRow.holds Try.pinned (OpenSpec.ofChange fnExactLimitedSweepWrong)

/-- 'laws.FnExactCountLimitedSweeps': WHATEVER THE INPUT: true; the input reads as it did. -/
def fnExactCountLimitedSweepsSpec : ChangeSpec := { name := "fnExactCountLimitedSweeps", fn := fun _ => fun
  | [d1, d2] => { results := [.lit (.bool true)], args := [d1, d2] }
  | _ => none }
def fnExactCountLimitedSweepsRow : OpenClaim := { program := "ytnhhnffolmgceaa", sum := "6467fbf5c9ec000521bec5857fe42284116b2cc3c49ef3778677b6358ab69821", func := "loop.example/g01286/laws.FnExactCountLimitedSweeps", spec := "fnExactCountLimitedSweeps", inPlace := ["internal/abi.NoEscape", "internal/bytealg.MakeNoZero"], unfollowed := true, recurses := true, apart := false }
def FnExactCountLimitedSweepsSaid : Prop := fnExactCountLimitedSweepsRow.holds Try.pinned (OpenSpec.ofChange fnExactCountLimitedSweepsSpec)

/-- ITS FALSE NEIGHBOUR: 'it returns false'. Refute it at one input. -/
def fnExactCountLimitedSweepsWrong : ChangeSpec := { name := "fnExactCountLimitedSweeps", fn := fun _ => fun
  | [d1, d2] => { results := [.lit (.bool false)], args := [d1, d2] }
  | _ => none }
def FnExactCountLimitedSweepsWrongFalsely : Prop := fnExactCountLimitedSweepsRow.holds Try.pinned (OpenSpec.ofChange fnExactCountLimitedSweepsWrong)

/-- 'laws.FnExactWithinAt': WHATEVER THE INPUT: true; the input reads as it did. -/
def fnExactWithinAtSpec : ChangeSpec := { name := "fnExactWithinAt", fn := fun _ => fun
  | [d1, d2, d3] => { results := [.lit (.bool true)], args := [d1, d2, d3] }
  | _ => none }
def fnExactWithinAtRow : OpenClaim := { program := "ytnhhnffolmgceaa", sum := "6467fbf5c9ec000521bec5857fe42284116b2cc3c49ef3778677b6358ab69821", func := "loop.example/g01286/laws.FnExactWithinAt", spec := "fnExactWithinAt", unfollowed := true, recurses := true, apart := false }
def FnExactWithinAtSaid : Prop := fnExactWithinAtRow.holds Try.pinned (OpenSpec.ofChange fnExactWithinAtSpec)

/-- ITS FALSE NEIGHBOUR: 'it returns false'. Refute it at one input. -/
def fnExactWithinAtWrong : ChangeSpec := { name := "fnExactWithinAt", fn := fun _ => fun
  | [d1, d2, d3] => { results := [.lit (.bool false)], args := [d1, d2, d3] }
  | _ => none }
def FnExactWithinAtWrongFalsely : Prop := fnExactWithinAtRow.holds Try.pinned (OpenSpec.ofChange fnExactWithinAtWrong)

/-- 'laws.FnExactRankWithin': WHATEVER THE INPUT: true; the input reads as it did. -/
def fnExactRankWithinSpec : ChangeSpec := { name := "fnExactRankWithin", fn := fun _ => fun
  | [d1, d2] => { results := [.lit (.bool true)], args := [d1, d2] }
  | _ => none }
def fnExactRankWithinRow : OpenClaim := { program := "ytnhhnffolmgceaa", sum := "6467fbf5c9ec000521bec5857fe42284116b2cc3c49ef3778677b6358ab69821", func := "loop.example/g01286/laws.FnExactRankWithin", spec := "fnExactRankWithin", unfollowed := true, recurses := true, apart := false }
def FnExactRankWithinSaid : Prop := fnExactRankWithinRow.holds Try.pinned (OpenSpec.ofChange fnExactRankWithinSpec)

/-- ITS FALSE NEIGHBOUR: 'it returns false'. Refute it at one input. -/
def fnExactRankWithinWrong : ChangeSpec := { name := "fnExactRankWithin", fn := fun _ => fun
  | [d1, d2] => { results := [.lit (.bool false)], args := [d1, d2] }
  | _ => none }
def FnExactRankWithinWrongFalsely : Prop := fnExactRankWithinRow.holds Try.pinned (OpenSpec.ofChange fnExactRankWithinWrong)

/-- 'laws.FnExactMostWithin': WHATEVER THE INPUT: true; the input reads as it did. -/
def fnExactMostWithinSpec : ChangeSpec := { name := "fnExactMostWithin", fn := fun _ => fun
  | [d1, d2] => { results := [.lit (.bool true)], args := [d1, d2] }
  | _ => none }
def fnExactMostWithinRow : OpenClaim := { program := "ytnhhnffolmgceaa", sum := "6467fbf5c9ec000521bec5857fe42284116b2cc3c49ef3778677b6358ab69821", func := "loop.example/g01286/laws.FnExactMostWithin", spec := "fnExactMostWithin", apart := false }
def FnExactMostWithinSaid : Prop := fnExactMostWithinRow.holds Try.pinned (OpenSpec.ofChange fnExactMostWithinSpec)

/-- ITS FALSE NEIGHBOUR: 'it returns false'. Refute it at one input. -/
def fnExactMostWithinWrong : ChangeSpec := { name := "fnExactMostWithin", fn := fun _ => fun
  | [d1, d2] => { results := [.lit (.bool false)], args := [d1, d2] }
  | _ => none }
def FnExactMostWithinWrongFalsely : Prop := fnExactMostWithinRow.holds Try.pinned (OpenSpec.ofChange fnExactMostWithinWrong)

/-- 'laws.FnExactLimitProfile': WHATEVER THE INPUT: true; the input reads as it did. -/
def fnExactLimitProfileSpec : ChangeSpec := { name := "fnExactLimitProfile", fn := fun _ => fun
  | [d] => { results := [.lit (.bool true)], args := [d] }
  | _ => none }
def fnExactLimitProfileRow : OpenClaim := { program := "ytnhhnffolmgceaa", sum := "6467fbf5c9ec000521bec5857fe42284116b2cc3c49ef3778677b6358ab69821", func := "loop.example/g01286/laws.FnExactLimitProfile", spec := "fnExactLimitProfile", unfollowed := true, recurses := true, apart := false }
def FnExactLimitProfileSaid : Prop := fnExactLimitProfileRow.holds Try.pinned (OpenSpec.ofChange fnExactLimitProfileSpec)

/-- ITS FALSE NEIGHBOUR: 'it returns false'. Refute it at one input. -/
def fnExactLimitProfileWrong : ChangeSpec := { name := "fnExactLimitProfile", fn := fun _ => fun
  | [d] => { results := [.lit (.bool false)], args := [d] }
  | _ => none }
def FnExactLimitProfileWrongFalsely : Prop := fnExactLimitProfileRow.holds Try.pinned (OpenSpec.ofChange fnExactLimitProfileWrong)

/-- 'laws.FnExactBubbleOrder': WHATEVER THE INPUT: true; the input reads as it did. -/
def fnExactBubbleOrderSpec : ChangeSpec := { name := "fnExactBubbleOrder", fn := fun _ => fun
  | [d] => { results := [.lit (.bool true)], args := [d] }
  | _ => none }
def fnExactBubbleOrderRow : OpenClaim := { program := "ytnhhnffolmgceaa", sum := "6467fbf5c9ec000521bec5857fe42284116b2cc3c49ef3778677b6358ab69821", func := "loop.example/g01286/laws.FnExactBubbleOrder", spec := "fnExactBubbleOrder", apart := false }
def FnExactBubbleOrderSaid : Prop := fnExactBubbleOrderRow.holds Try.pinned (OpenSpec.ofChange fnExactBubbleOrderSpec)

/-- ITS FALSE NEIGHBOUR: 'it returns false'. Refute it at one input. -/
def fnExactBubbleOrderWrong : ChangeSpec := { name := "fnExactBubbleOrder", fn := fun _ => fun
  | [d] => { results := [.lit (.bool false)], args := [d] }
  | _ => none }
def FnExactBubbleOrderWrongFalsely : Prop := fnExactBubbleOrderRow.holds Try.pinned (OpenSpec.ofChange fnExactBubbleOrderWrong)

/- THE SECOND FORM. 'bulk': how many values and letters a reading holds, each counted each time it is reached (what is shared counts as often as it is met; a slice's spare places count too). A statement '..UptoSaid' is the law's where the arguments, and the package variables that the reading takes, are together of bulk at most 1048576: NARROWER than '..Said'. Prove '..Said' where nothing that the law and all that it calls make is longer than what came in: it says more and counts as full. Else prove '..UptoSaid'. A law counts once. -/
mutual
def uptoBulk {H : Type} : DataW H → Nat
  | .lit (.string bytes) => bytes.length + 1
  | .lit _ => 1
  | .nil => 1
  | .ptr d => uptoBulk d + 1
  | .slice elems spare => uptoBulkAll elems + uptoBulkAll spare + 1
  | .agg parts => uptoBulkAll parts + 1
  | .iface _ d => uptoBulk d + 1
  | .map entries => uptoBulkEntries entries + 1
  | .held _ => 1
def uptoBulkAll {H : Type} : List (DataW H) → Nat
  | [] => 0
  | d :: r => uptoBulk d + uptoBulkAll r
def uptoBulkEntries {H : Type} : List (Lit × DataW H) → Nat
  | [] => 0
  | x :: r => uptoBulkEntry x + uptoBulkEntries r
def uptoBulkEntry {H : Type} : Lit × DataW H → Nat
  | (.string bytes, d) => bytes.length + uptoBulk d + 1
  | (_, d) => uptoBulk d + 1
 end
def uptoSmall : (H : Type) → List (DataW H) → Bool := fun _ ds => decide (uptoBulkAll ds ≤ 1048576)
def OpenSpec.upto (s : _root_.Go.ChangeSpec) : _root_.Go.OpenSpec := { _root_.Go.OpenSpec.ofChange s with cond := some uptoSmall }

/-- 'laws.FnLimits', WHERE WHAT IT READS IS OF BULK AT MOST 1048576: true; the input reads as it did. -/
def fnLimitsUptoRow : OpenClaim := { program := "ytnhhnffolmgceaa", sum := "6467fbf5c9ec000521bec5857fe42284116b2cc3c49ef3778677b6358ab69821", func := "loop.example/g01286/laws.FnLimits", spec := "fnLimits", unfollowed := true, recurses := true, apart := false, narrowed := true }
def FnLimitsUptoSaid : Prop := fnLimitsUptoRow.holds Try.pinned (OpenSpec.upto fnLimitsSpec)

/-- 'laws.FnLimitedSweeps', WHERE WHAT IT READS IS OF BULK AT MOST 1048576: true; the input reads as it did. -/
def fnLimitedSweepsUptoRow : OpenClaim := { program := "ytnhhnffolmgceaa", sum := "6467fbf5c9ec000521bec5857fe42284116b2cc3c49ef3778677b6358ab69821", func := "loop.example/g01286/laws.FnLimitedSweeps", spec := "fnLimitedSweeps", inPlace := ["internal/abi.NoEscape", "internal/bytealg.MakeNoZero"], unfollowed := true, recurses := true, apart := false, narrowed := true }
def FnLimitedSweepsUptoSaid : Prop := fnLimitedSweepsUptoRow.holds Try.pinned (OpenSpec.upto fnLimitedSweepsSpec)

/-- 'laws.FnExactCountWithin', WHERE WHAT IT READS IS OF BULK AT MOST 1048576: true; the input reads as it did. -/
def fnExactCountWithinUptoRow : OpenClaim := { program := "ytnhhnffolmgceaa", sum := "6467fbf5c9ec000521bec5857fe42284116b2cc3c49ef3778677b6358ab69821", func := "loop.example/g01286/laws.FnExactCountWithin", spec := "fnExactCountWithin", unfollowed := true, recurses := true, apart := false, narrowed := true }
def FnExactCountWithinUptoSaid : Prop := fnExactCountWithinUptoRow.holds Try.pinned (OpenSpec.upto fnExactCountWithinSpec)

/-- 'laws.FnExactIsSortableWithin', WHERE WHAT IT READS IS OF BULK AT MOST 1048576: true; the input reads as it did. -/
def fnExactIsSortableWithinUptoRow : OpenClaim := { program := "ytnhhnffolmgceaa", sum := "6467fbf5c9ec000521bec5857fe42284116b2cc3c49ef3778677b6358ab69821", func := "loop.example/g01286/laws.FnExactIsSortableWithin", spec := "fnExactIsSortableWithin", apart := false, narrowed := true }
def FnExactIsSortableWithinUptoSaid : Prop := fnExactIsSortableWithinUptoRow.holds Try.pinned (OpenSpec.upto fnExactIsSortableWithinSpec)

/-- 'laws.FnExactCountSortedWithin', WHERE WHAT IT READS IS OF BULK AT MOST 1048576: true; the input reads as it did. -/
def fnExactCountSortedWithinUptoRow : OpenClaim := { program := "ytnhhnffolmgceaa", sum := "6467fbf5c9ec000521bec5857fe42284116b2cc3c49ef3778677b6358ab69821", func := "loop.example/g01286/laws.FnExactCountSortedWithin", spec := "fnExactCountSortedWithin", unfollowed := true, recurses := true, apart := false, narrowed := true }
def FnExactCountSortedWithinUptoSaid : Prop := fnExactCountSortedWithinUptoRow.holds Try.pinned (OpenSpec.upto fnExactCountSortedWithinSpec)

/-- 'laws.FnExactLimitOf', WHERE WHAT IT READS IS OF BULK AT MOST 1048576: true; the input reads as it did. -/
def fnExactLimitOfUptoRow : OpenClaim := { program := "ytnhhnffolmgceaa", sum := "6467fbf5c9ec000521bec5857fe42284116b2cc3c49ef3778677b6358ab69821", func := "loop.example/g01286/laws.FnExactLimitOf", spec := "fnExactLimitOf", apart := false, narrowed := true }
def FnExactLimitOfUptoSaid : Prop := fnExactLimitOfUptoRow.holds Try.pinned (OpenSpec.upto fnExactLimitOfSpec)

/-- 'laws.FnExactLimitedWord', WHERE WHAT IT READS IS OF BULK AT MOST 1048576: true; the input reads as it did. -/
def fnExactLimitedWordUptoRow : OpenClaim := { program := "ytnhhnffolmgceaa", sum := "6467fbf5c9ec000521bec5857fe42284116b2cc3c49ef3778677b6358ab69821", func := "loop.example/g01286/laws.FnExactLimitedWord", spec := "fnExactLimitedWord", inPlace := ["internal/abi.NoEscape", "internal/bytealg.MakeNoZero"], apart := false, narrowed := true }
def FnExactLimitedWordUptoSaid : Prop := fnExactLimitedWordUptoRow.holds Try.pinned (OpenSpec.upto fnExactLimitedWordSpec)

/-- 'laws.FnExactLimitedSweep', WHERE WHAT IT READS IS OF BULK AT MOST 1048576: true; the input reads as it did. -/
def fnExactLimitedSweepUptoRow : OpenClaim := { program := "ytnhhnffolmgceaa", sum := "6467fbf5c9ec000521bec5857fe42284116b2cc3c49ef3778677b6358ab69821", func := "loop.example/g01286/laws.FnExactLimitedSweep", spec := "fnExactLimitedSweep", inPlace := ["internal/abi.NoEscape", "internal/bytealg.MakeNoZero"], apart := false, narrowed := true }
def FnExactLimitedSweepUptoSaid : Prop := fnExactLimitedSweepUptoRow.holds Try.pinned (OpenSpec.upto fnExactLimitedSweepSpec)

/-- 'laws.FnExactCountLimitedSweeps', WHERE WHAT IT READS IS OF BULK AT MOST 1048576: true; the input reads as it did. -/
def fnExactCountLimitedSweepsUptoRow : OpenClaim := { program := "ytnhhnffolmgceaa", sum := "6467fbf5c9ec000521bec5857fe42284116b2cc3c49ef3778677b6358ab69821", func := "loop.example/g01286/laws.FnExactCountLimitedSweeps", spec := "fnExactCountLimitedSweeps", inPlace := ["internal/abi.NoEscape", "internal/bytealg.MakeNoZero"], unfollowed := true, recurses := true, apart := false, narrowed := true }
def FnExactCountLimitedSweepsUptoSaid : Prop := fnExactCountLimitedSweepsUptoRow.holds Try.pinned (OpenSpec.upto fnExactCountLimitedSweepsSpec)

/-- 'laws.FnExactWithinAt', WHERE WHAT IT READS IS OF BULK AT MOST 1048576: true; the input reads as it did. -/
def fnExactWithinAtUptoRow : OpenClaim := { program := "ytnhhnffolmgceaa", sum := "6467fbf5c9ec000521bec5857fe42284116b2cc3c49ef3778677b6358ab69821", func := "loop.example/g01286/laws.FnExactWithinAt", spec := "fnExactWithinAt", unfollowed := true, recurses := true, apart := false, narrowed := true }
def FnExactWithinAtUptoSaid : Prop := fnExactWithinAtUptoRow.holds Try.pinned (OpenSpec.upto fnExactWithinAtSpec)

/-- 'laws.FnExactRankWithin', WHERE WHAT IT READS IS OF BULK AT MOST 1048576: true; the input reads as it did. -/
def fnExactRankWithinUptoRow : OpenClaim := { program := "ytnhhnffolmgceaa", sum := "6467fbf5c9ec000521bec5857fe42284116b2cc3c49ef3778677b6358ab69821", func := "loop.example/g01286/laws.FnExactRankWithin", spec := "fnExactRankWithin", unfollowed := true, recurses := true, apart := false, narrowed := true }
def FnExactRankWithinUptoSaid : Prop := fnExactRankWithinUptoRow.holds Try.pinned (OpenSpec.upto fnExactRankWithinSpec)

/-- 'laws.FnExactMostWithin', WHERE WHAT IT READS IS OF BULK AT MOST 1048576: true; the input reads as it did. -/
def fnExactMostWithinUptoRow : OpenClaim := { program := "ytnhhnffolmgceaa", sum := "6467fbf5c9ec000521bec5857fe42284116b2cc3c49ef3778677b6358ab69821", func := "loop.example/g01286/laws.FnExactMostWithin", spec := "fnExactMostWithin", apart := false, narrowed := true }
def FnExactMostWithinUptoSaid : Prop := fnExactMostWithinUptoRow.holds Try.pinned (OpenSpec.upto fnExactMostWithinSpec)

/-- 'laws.FnExactLimitProfile', WHERE WHAT IT READS IS OF BULK AT MOST 1048576: true; the input reads as it did. -/
def fnExactLimitProfileUptoRow : OpenClaim := { program := "ytnhhnffolmgceaa", sum := "6467fbf5c9ec000521bec5857fe42284116b2cc3c49ef3778677b6358ab69821", func := "loop.example/g01286/laws.FnExactLimitProfile", spec := "fnExactLimitProfile", unfollowed := true, recurses := true, apart := false, narrowed := true }
def FnExactLimitProfileUptoSaid : Prop := fnExactLimitProfileUptoRow.holds Try.pinned (OpenSpec.upto fnExactLimitProfileSpec)

/-- 'laws.FnExactBubbleOrder', WHERE WHAT IT READS IS OF BULK AT MOST 1048576: true; the input reads as it did. -/
def fnExactBubbleOrderUptoRow : OpenClaim := { program := "ytnhhnffolmgceaa", sum := "6467fbf5c9ec000521bec5857fe42284116b2cc3c49ef3778677b6358ab69821", func := "loop.example/g01286/laws.FnExactBubbleOrder", spec := "fnExactBubbleOrder", apart := false, narrowed := true }
def FnExactBubbleOrderUptoSaid : Prop := fnExactBubbleOrderUptoRow.holds Try.pinned (OpenSpec.upto fnExactBubbleOrderSpec)

end Rows
end Go.Proofs.Ytnhhnffolmgceaa
