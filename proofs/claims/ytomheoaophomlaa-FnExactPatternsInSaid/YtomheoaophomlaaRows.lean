/-
  No cell of these rows narrows 'for every input' (looked for: loops, veiled, ifaces, maps, wideKeys, modest, calm, conditions, laid).
  DERIVED. THE GIVEN ROWS OF THIS SEAT. 14 by the template 'for every input the law returns true; each argument reads behind the call as it read before'; 0 by the template 'total and deterministic' (their statements: YtomheoaophomlaaTotals.lean).
  GIVEN WITH THE SEED: the statements are not yours to turn. If you find one false, say at which input.
  Laid BY PROGRAM, IN A SANDBOX (cutbox-rows.mjs): the forced cells as the released guide's own fill.sh prints them over the translation b78496fa674d008f… (all of the seat's roots in one cut). By AI agents, Wed Nov 11 2026. No macro, syntax, notation, axiom, sorry.
-/
import Derived.Test.YtomheoaophomlaaChecked
import GoSem.Claim
import GoSem.ClaimJoined
import GoSem.ClaimMapViews
import Derived.JoinedTies
import Derived.KernelRfl
namespace Go.Proofs.Ytomheoaophomlaa
/- THE CELL 'sum', in the pinned program and in every row, IS THE sha256 OF THE DUMP (.gsa) THAT YtomheoaophomlaaProg.lean LOADS. Nothing in Lean hashes anything: it is a label: what it is worth is what the hold of that sum in a sandbox is worth. -/
noncomputable def Try.pinned : Pinned := { name := "ytomheoaophomlaa", sum := "b78496fa674d008f7a72201f5e6b2d87d3ba9513c39f8f9a14f4d5bd77e28d8a", checked := Try.checked }
namespace Rows
def none {H : Type} : Left H := { results := [], args := [] }

/-- 'laws.FnContained': WHATEVER THE INPUT: true; the input reads as it did. -/
def fnContainedSpec : ChangeSpec := { name := "fnContained", fn := fun _ => fun
  | [d] => { results := [.lit (.bool true)], args := [d] }
  | _ => none }
def fnContainedRow : OpenClaim := { program := "ytomheoaophomlaa", sum := "b78496fa674d008f7a72201f5e6b2d87d3ba9513c39f8f9a14f4d5bd77e28d8a", func := "loop.example/g01286/laws.FnContained", spec := "fnContained", unfollowed := true, recurses := true, apart := false }
def FnContainedSaid : Prop := fnContainedRow.holds Try.pinned (OpenSpec.ofChange fnContainedSpec)

/-- ITS FALSE NEIGHBOUR: 'it returns false'. Refute it at one input. -/
def fnContainedWrong : ChangeSpec := { name := "fnContained", fn := fun _ => fun
  | [d] => { results := [.lit (.bool false)], args := [d] }
  | _ => none }
def FnContainedWrongFalsely : Prop := fnContainedRow.holds Try.pinned (OpenSpec.ofChange fnContainedWrong)

/-- 'laws.FnAvoiding': WHATEVER THE INPUT: true; the input reads as it did. -/
def fnAvoidingSpec : ChangeSpec := { name := "fnAvoiding", fn := fun _ => fun
  | [d] => { results := [.lit (.bool true)], args := [d] }
  | _ => none }
def fnAvoidingRow : OpenClaim := { program := "ytomheoaophomlaa", sum := "b78496fa674d008f7a72201f5e6b2d87d3ba9513c39f8f9a14f4d5bd77e28d8a", func := "loop.example/g01286/laws.FnAvoiding", spec := "fnAvoiding", unfollowed := true, recurses := true, apart := false }
def FnAvoidingSaid : Prop := fnAvoidingRow.holds Try.pinned (OpenSpec.ofChange fnAvoidingSpec)

/-- ITS FALSE NEIGHBOUR: 'it returns false'. Refute it at one input. -/
def fnAvoidingWrong : ChangeSpec := { name := "fnAvoiding", fn := fun _ => fun
  | [d] => { results := [.lit (.bool false)], args := [d] }
  | _ => none }
def FnAvoidingWrongFalsely : Prop := fnAvoidingRow.holds Try.pinned (OpenSpec.ofChange fnAvoidingWrong)

/-- 'laws.FnExactShapeOf': WHATEVER THE INPUT: true; the input reads as it did. -/
def fnExactShapeOfSpec : ChangeSpec := { name := "fnExactShapeOf", fn := fun _ => fun
  | [d] => { results := [.lit (.bool true)], args := [d] }
  | _ => none }
def fnExactShapeOfRow : OpenClaim := { program := "ytomheoaophomlaa", sum := "b78496fa674d008f7a72201f5e6b2d87d3ba9513c39f8f9a14f4d5bd77e28d8a", func := "loop.example/g01286/laws.FnExactShapeOf", spec := "fnExactShapeOf", apart := false }
def FnExactShapeOfSaid : Prop := fnExactShapeOfRow.holds Try.pinned (OpenSpec.ofChange fnExactShapeOfSpec)

/-- ITS FALSE NEIGHBOUR: 'it returns false'. Refute it at one input. -/
def fnExactShapeOfWrong : ChangeSpec := { name := "fnExactShapeOf", fn := fun _ => fun
  | [d] => { results := [.lit (.bool false)], args := [d] }
  | _ => none }
def FnExactShapeOfWrongFalsely : Prop := fnExactShapeOfRow.holds Try.pinned (OpenSpec.ofChange fnExactShapeOfWrong)

/-- 'laws.FnExactContainsPattern': WHATEVER THE INPUT: true; the input reads as it did. -/
def fnExactContainsPatternSpec : ChangeSpec := { name := "fnExactContainsPattern", fn := fun _ => fun
  | [d1, d2] => { results := [.lit (.bool true)], args := [d1, d2] }
  | _ => none }
def fnExactContainsPatternRow : OpenClaim := { program := "ytomheoaophomlaa", sum := "b78496fa674d008f7a72201f5e6b2d87d3ba9513c39f8f9a14f4d5bd77e28d8a", func := "loop.example/g01286/laws.FnExactContainsPattern", spec := "fnExactContainsPattern", unfollowed := true, recurses := true, apart := false }
def FnExactContainsPatternSaid : Prop := fnExactContainsPatternRow.holds Try.pinned (OpenSpec.ofChange fnExactContainsPatternSpec)

/-- ITS FALSE NEIGHBOUR: 'it returns false'. Refute it at one input. -/
def fnExactContainsPatternWrong : ChangeSpec := { name := "fnExactContainsPattern", fn := fun _ => fun
  | [d1, d2] => { results := [.lit (.bool false)], args := [d1, d2] }
  | _ => none }
def FnExactContainsPatternWrongFalsely : Prop := fnExactContainsPatternRow.holds Try.pinned (OpenSpec.ofChange fnExactContainsPatternWrong)

/-- 'laws.FnExactFirstPlaces': WHATEVER THE INPUT: true; the input reads as it did. -/
def fnExactFirstPlacesSpec : ChangeSpec := { name := "fnExactFirstPlaces", fn := fun _ => fun
  | [d1, d2] => { results := [.lit (.bool true)], args := [d1, d2] }
  | _ => none }
def fnExactFirstPlacesRow : OpenClaim := { program := "ytomheoaophomlaa", sum := "b78496fa674d008f7a72201f5e6b2d87d3ba9513c39f8f9a14f4d5bd77e28d8a", func := "loop.example/g01286/laws.FnExactFirstPlaces", spec := "fnExactFirstPlaces", unfollowed := true, recurses := true, apart := false }
def FnExactFirstPlacesSaid : Prop := fnExactFirstPlacesRow.holds Try.pinned (OpenSpec.ofChange fnExactFirstPlacesSpec)

/-- ITS FALSE NEIGHBOUR: 'it returns false'. Refute it at one input. -/
def fnExactFirstPlacesWrong : ChangeSpec := { name := "fnExactFirstPlaces", fn := fun _ => fun
  | [d1, d2] => { results := [.lit (.bool false)], args := [d1, d2] }
  | _ => none }
def FnExactFirstPlacesWrongFalsely : Prop := fnExactFirstPlacesRow.holds Try.pinned (OpenSpec.ofChange fnExactFirstPlacesWrong)

/-- 'laws.FnExactCountPlaces': WHATEVER THE INPUT: true; the input reads as it did. -/
def fnExactCountPlacesSpec : ChangeSpec := { name := "fnExactCountPlaces", fn := fun _ => fun
  | [d1, d2] => { results := [.lit (.bool true)], args := [d1, d2] }
  | _ => none }
def fnExactCountPlacesRow : OpenClaim := { program := "ytomheoaophomlaa", sum := "b78496fa674d008f7a72201f5e6b2d87d3ba9513c39f8f9a14f4d5bd77e28d8a", func := "loop.example/g01286/laws.FnExactCountPlaces", spec := "fnExactCountPlaces", unfollowed := true, recurses := true, apart := false }
def FnExactCountPlacesSaid : Prop := fnExactCountPlacesRow.holds Try.pinned (OpenSpec.ofChange fnExactCountPlacesSpec)

/-- ITS FALSE NEIGHBOUR: 'it returns false'. Refute it at one input. -/
def fnExactCountPlacesWrong : ChangeSpec := { name := "fnExactCountPlaces", fn := fun _ => fun
  | [d1, d2] => { results := [.lit (.bool false)], args := [d1, d2] }
  | _ => none }
def FnExactCountPlacesWrongFalsely : Prop := fnExactCountPlacesRow.holds Try.pinned (OpenSpec.ofChange fnExactCountPlacesWrong)

/-- 'laws.FnExactPatternsIn': WHATEVER THE INPUT: true; the input reads as it did. -/
def fnExactPatternsInSpec : ChangeSpec := { name := "fnExactPatternsIn", fn := fun _ => fun
  | [d1, d2] => { results := [.lit (.bool true)], args := [d1, d2] }
  | _ => none }
def fnExactPatternsInRow : OpenClaim := { program := "ytomheoaophomlaa", sum := "b78496fa674d008f7a72201f5e6b2d87d3ba9513c39f8f9a14f4d5bd77e28d8a", func := "loop.example/g01286/laws.FnExactPatternsIn", spec := "fnExactPatternsIn", unfollowed := true, recurses := true, apart := false }
def FnExactPatternsInSaid : Prop := fnExactPatternsInRow.holds Try.pinned (OpenSpec.ofChange fnExactPatternsInSpec)

/-- ITS FALSE NEIGHBOUR: 'it returns false'. Refute it at one input. -/
def fnExactPatternsInWrong : ChangeSpec := { name := "fnExactPatternsIn", fn := fun _ => fun
  | [d1, d2] => { results := [.lit (.bool false)], args := [d1, d2] }
  | _ => none }
def FnExactPatternsInWrongFalsely : Prop := fnExactPatternsInRow.holds Try.pinned (OpenSpec.ofChange fnExactPatternsInWrong)

/-- 'laws.FnExactAvoidsAll': WHATEVER THE INPUT: true; the input reads as it did. -/
def fnExactAvoidsAllSpec : ChangeSpec := { name := "fnExactAvoidsAll", fn := fun _ => fun
  | [d1, d2] => { results := [.lit (.bool true)], args := [d1, d2] }
  | _ => none }
def fnExactAvoidsAllRow : OpenClaim := { program := "ytomheoaophomlaa", sum := "b78496fa674d008f7a72201f5e6b2d87d3ba9513c39f8f9a14f4d5bd77e28d8a", func := "loop.example/g01286/laws.FnExactAvoidsAll", spec := "fnExactAvoidsAll", unfollowed := true, recurses := true, apart := false }
def FnExactAvoidsAllSaid : Prop := fnExactAvoidsAllRow.holds Try.pinned (OpenSpec.ofChange fnExactAvoidsAllSpec)

/-- ITS FALSE NEIGHBOUR: 'it returns false'. Refute it at one input. -/
def fnExactAvoidsAllWrong : ChangeSpec := { name := "fnExactAvoidsAll", fn := fun _ => fun
  | [d1, d2] => { results := [.lit (.bool false)], args := [d1, d2] }
  | _ => none }
def FnExactAvoidsAllWrongFalsely : Prop := fnExactAvoidsAllRow.holds Try.pinned (OpenSpec.ofChange fnExactAvoidsAllWrong)

/-- 'laws.FnExactCountAvoiding': WHATEVER THE INPUT: true; the input reads as it did. -/
def fnExactCountAvoidingSpec : ChangeSpec := { name := "fnExactCountAvoiding", fn := fun _ => fun
  | [d1, d2] => { results := [.lit (.bool true)], args := [d1, d2] }
  | _ => none }
def fnExactCountAvoidingRow : OpenClaim := { program := "ytomheoaophomlaa", sum := "b78496fa674d008f7a72201f5e6b2d87d3ba9513c39f8f9a14f4d5bd77e28d8a", func := "loop.example/g01286/laws.FnExactCountAvoiding", spec := "fnExactCountAvoiding", unfollowed := true, recurses := true, apart := false }
def FnExactCountAvoidingSaid : Prop := fnExactCountAvoidingRow.holds Try.pinned (OpenSpec.ofChange fnExactCountAvoidingSpec)

/-- ITS FALSE NEIGHBOUR: 'it returns false'. Refute it at one input. -/
def fnExactCountAvoidingWrong : ChangeSpec := { name := "fnExactCountAvoiding", fn := fun _ => fun
  | [d1, d2] => { results := [.lit (.bool false)], args := [d1, d2] }
  | _ => none }
def FnExactCountAvoidingWrongFalsely : Prop := fnExactCountAvoidingRow.holds Try.pinned (OpenSpec.ofChange fnExactCountAvoidingWrong)

/-- 'laws.FnExactFirstAvoiding': WHATEVER THE INPUT: true; the input reads as it did. -/
def fnExactFirstAvoidingSpec : ChangeSpec := { name := "fnExactFirstAvoiding", fn := fun _ => fun
  | [d1, d2] => { results := [.lit (.bool true)], args := [d1, d2] }
  | _ => none }
def fnExactFirstAvoidingRow : OpenClaim := { program := "ytomheoaophomlaa", sum := "b78496fa674d008f7a72201f5e6b2d87d3ba9513c39f8f9a14f4d5bd77e28d8a", func := "loop.example/g01286/laws.FnExactFirstAvoiding", spec := "fnExactFirstAvoiding", unfollowed := true, recurses := true, apart := false }
def FnExactFirstAvoidingSaid : Prop := fnExactFirstAvoidingRow.holds Try.pinned (OpenSpec.ofChange fnExactFirstAvoidingSpec)

/-- ITS FALSE NEIGHBOUR: 'it returns false'. Refute it at one input. -/
def fnExactFirstAvoidingWrong : ChangeSpec := { name := "fnExactFirstAvoiding", fn := fun _ => fun
  | [d1, d2] => { results := [.lit (.bool false)], args := [d1, d2] }
  | _ => none }
def FnExactFirstAvoidingWrongFalsely : Prop := fnExactFirstAvoidingRow.holds Try.pinned (OpenSpec.ofChange fnExactFirstAvoidingWrong)

/-- 'laws.FnExactMostPlaces': WHATEVER THE INPUT: true; the input reads as it did. -/
def fnExactMostPlacesSpec : ChangeSpec := { name := "fnExactMostPlaces", fn := fun _ => fun
  | [d1, d2] => { results := [.lit (.bool true)], args := [d1, d2] }
  | _ => none }
def fnExactMostPlacesRow : OpenClaim := { program := "ytomheoaophomlaa", sum := "b78496fa674d008f7a72201f5e6b2d87d3ba9513c39f8f9a14f4d5bd77e28d8a", func := "loop.example/g01286/laws.FnExactMostPlaces", spec := "fnExactMostPlaces", unfollowed := true, recurses := true, apart := false }
def FnExactMostPlacesSaid : Prop := fnExactMostPlacesRow.holds Try.pinned (OpenSpec.ofChange fnExactMostPlacesSpec)

/-- ITS FALSE NEIGHBOUR: 'it returns false'. Refute it at one input. -/
def fnExactMostPlacesWrong : ChangeSpec := { name := "fnExactMostPlaces", fn := fun _ => fun
  | [d1, d2] => { results := [.lit (.bool false)], args := [d1, d2] }
  | _ => none }
def FnExactMostPlacesWrongFalsely : Prop := fnExactMostPlacesRow.holds Try.pinned (OpenSpec.ofChange fnExactMostPlacesWrong)

/-- 'laws.FnExactFewestDrops': WHATEVER THE INPUT: true; the input reads as it did. -/
def fnExactFewestDropsSpec : ChangeSpec := { name := "fnExactFewestDrops", fn := fun _ => fun
  | [d1, d2] => { results := [.lit (.bool true)], args := [d1, d2] }
  | _ => none }
def fnExactFewestDropsRow : OpenClaim := { program := "ytomheoaophomlaa", sum := "b78496fa674d008f7a72201f5e6b2d87d3ba9513c39f8f9a14f4d5bd77e28d8a", func := "loop.example/g01286/laws.FnExactFewestDrops", spec := "fnExactFewestDrops", unfollowed := true, recurses := true, apart := false }
def FnExactFewestDropsSaid : Prop := fnExactFewestDropsRow.holds Try.pinned (OpenSpec.ofChange fnExactFewestDropsSpec)

/-- ITS FALSE NEIGHBOUR: 'it returns false'. Refute it at one input. -/
def fnExactFewestDropsWrong : ChangeSpec := { name := "fnExactFewestDrops", fn := fun _ => fun
  | [d1, d2] => { results := [.lit (.bool false)], args := [d1, d2] }
  | _ => none }
def FnExactFewestDropsWrongFalsely : Prop := fnExactFewestDropsRow.holds Try.pinned (OpenSpec.ofChange fnExactFewestDropsWrong)

/-- 'laws.FnExactInsertLast': WHATEVER THE INPUT: true; the input reads as it did. -/
def fnExactInsertLastSpec : ChangeSpec := { name := "fnExactInsertLast", fn := fun _ => fun
  | [d1, d2] => { results := [.lit (.bool true)], args := [d1, d2] }
  | _ => none }
def fnExactInsertLastRow : OpenClaim := { program := "ytomheoaophomlaa", sum := "b78496fa674d008f7a72201f5e6b2d87d3ba9513c39f8f9a14f4d5bd77e28d8a", func := "loop.example/g01286/laws.FnExactInsertLast", spec := "fnExactInsertLast", apart := false }
def FnExactInsertLastSaid : Prop := fnExactInsertLastRow.holds Try.pinned (OpenSpec.ofChange fnExactInsertLastSpec)

/-- ITS FALSE NEIGHBOUR: 'it returns false'. Refute it at one input. -/
def fnExactInsertLastWrong : ChangeSpec := { name := "fnExactInsertLast", fn := fun _ => fun
  | [d1, d2] => { results := [.lit (.bool false)], args := [d1, d2] }
  | _ => none }
def FnExactInsertLastWrongFalsely : Prop := fnExactInsertLastRow.holds Try.pinned (OpenSpec.ofChange fnExactInsertLastWrong)

/-- 'laws.FnExactCountChildren': WHATEVER THE INPUT: true; the input reads as it did. -/
def fnExactCountChildrenSpec : ChangeSpec := { name := "fnExactCountChildren", fn := fun _ => fun
  | [d1, d2] => { results := [.lit (.bool true)], args := [d1, d2] }
  | _ => none }
def fnExactCountChildrenRow : OpenClaim := { program := "ytomheoaophomlaa", sum := "b78496fa674d008f7a72201f5e6b2d87d3ba9513c39f8f9a14f4d5bd77e28d8a", func := "loop.example/g01286/laws.FnExactCountChildren", spec := "fnExactCountChildren", unfollowed := true, recurses := true, apart := false }
def FnExactCountChildrenSaid : Prop := fnExactCountChildrenRow.holds Try.pinned (OpenSpec.ofChange fnExactCountChildrenSpec)

/-- ITS FALSE NEIGHBOUR: 'it returns false'. Refute it at one input. -/
def fnExactCountChildrenWrong : ChangeSpec := { name := "fnExactCountChildren", fn := fun _ => fun
  | [d1, d2] => { results := [.lit (.bool false)], args := [d1, d2] }
  | _ => none }
def FnExactCountChildrenWrongFalsely : Prop := fnExactCountChildrenRow.holds Try.pinned (OpenSpec.ofChange fnExactCountChildrenWrong)

/- THE SECOND FORM. 'bulk': how many values and letters a reading holds, each counted each time it is reached (what is shared counts as often as it is met; a slice's spare places count too). A statement '..UptoSaid' is the law's where the arguments, and the package variables that the reading takes, are together of bulk at most 1048576: NARROWER than '..Said'. Prove '..Said' where nothing that the law and all that it calls make is longer than what came in: it says more and counts as full. Else prove '..UptoSaid'. A law counts once. -/
mutual
def uptoBulk {H : Type} : DataW H → Nat
  | .lit (.string bytes) => bytes.length + 1
  | .lit _ => 1
  | .nil => 1
  | .ptr d => uptoBulk d + 1
  | .slice elems spare => uptoBulkAll elems + uptoBulkAll spare + 1
  | .agg parts => uptoBulkAll parts + 1
  | .iface _ d => uptoBulk d + 1
  | .map entries => uptoBulkEntries entries + 1
  | .held _ => 1
def uptoBulkAll {H : Type} : List (DataW H) → Nat
  | [] => 0
  | d :: r => uptoBulk d + uptoBulkAll r
def uptoBulkEntries {H : Type} : List (Lit × DataW H) → Nat
  | [] => 0
  | x :: r => uptoBulkEntry x + uptoBulkEntries r
def uptoBulkEntry {H : Type} : Lit × DataW H → Nat
  | (.string bytes, d) => bytes.length + uptoBulk d + 1
  | (_, d) => uptoBulk d + 1
 end
def uptoSmall : (H : Type) → List (DataW H) → Bool := fun _ ds => decide (uptoBulkAll ds ≤ 1048576)
def OpenSpec.upto (s : _root_.Go.ChangeSpec) : _root_.Go.OpenSpec := { _root_.Go.OpenSpec.ofChange s with cond := some uptoSmall }

/-- 'laws.FnContained', WHERE WHAT IT READS IS OF BULK AT MOST 1048576: true; the input reads as it did. -/
def fnContainedUptoRow : OpenClaim := { program := "ytomheoaophomlaa", sum := "b78496fa674d008f7a72201f5e6b2d87d3ba9513c39f8f9a14f4d5bd77e28d8a", func := "loop.example/g01286/laws.FnContained", spec := "fnContained", unfollowed := true, recurses := true, apart := false, narrowed := true }
def FnContainedUptoSaid : Prop := fnContainedUptoRow.holds Try.pinned (OpenSpec.upto fnContainedSpec)

/-- 'laws.FnAvoiding', WHERE WHAT IT READS IS OF BULK AT MOST 1048576: true; the input reads as it did. -/
def fnAvoidingUptoRow : OpenClaim := { program := "ytomheoaophomlaa", sum := "b78496fa674d008f7a72201f5e6b2d87d3ba9513c39f8f9a14f4d5bd77e28d8a", func := "loop.example/g01286/laws.FnAvoiding", spec := "fnAvoiding", unfollowed := true, recurses := true, apart := false, narrowed := true }
def FnAvoidingUptoSaid : Prop := fnAvoidingUptoRow.holds Try.pinned (OpenSpec.upto fnAvoidingSpec)

/-- 'laws.FnExactShapeOf', WHERE WHAT IT READS IS OF BULK AT MOST 1048576: true; the input reads as it did. -/
def fnExactShapeOfUptoRow : OpenClaim := { program := "ytomheoaophomlaa", sum := "b78496fa674d008f7a72201f5e6b2d87d3ba9513c39f8f9a14f4d5bd77e28d8a", func := "loop.example/g01286/laws.FnExactShapeOf", spec := "fnExactShapeOf", apart := false, narrowed := true }
def FnExactShapeOfUptoSaid : Prop := fnExactShapeOfUptoRow.holds Try.pinned (OpenSpec.upto fnExactShapeOfSpec)

/-- 'laws.FnExactContainsPattern', WHERE WHAT IT READS IS OF BULK AT MOST 1048576: true; the input reads as it did. -/
def fnExactContainsPatternUptoRow : OpenClaim := { program := "ytomheoaophomlaa", sum := "b78496fa674d008f7a72201f5e6b2d87d3ba9513c39f8f9a14f4d5bd77e28d8a", func := "loop.example/g01286/laws.FnExactContainsPattern", spec := "fnExactContainsPattern", unfollowed := true, recurses := true, apart := false, narrowed := true }
def FnExactContainsPatternUptoSaid : Prop := fnExactContainsPatternUptoRow.holds Try.pinned (OpenSpec.upto fnExactContainsPatternSpec)

/-- 'laws.FnExactFirstPlaces', WHERE WHAT IT READS IS OF BULK AT MOST 1048576: true; the input reads as it did. -/
def fnExactFirstPlacesUptoRow : OpenClaim := { program := "ytomheoaophomlaa", sum := "b78496fa674d008f7a72201f5e6b2d87d3ba9513c39f8f9a14f4d5bd77e28d8a", func := "loop.example/g01286/laws.FnExactFirstPlaces", spec := "fnExactFirstPlaces", unfollowed := true, recurses := true, apart := false, narrowed := true }
def FnExactFirstPlacesUptoSaid : Prop := fnExactFirstPlacesUptoRow.holds Try.pinned (OpenSpec.upto fnExactFirstPlacesSpec)

/-- 'laws.FnExactCountPlaces', WHERE WHAT IT READS IS OF BULK AT MOST 1048576: true; the input reads as it did. -/
def fnExactCountPlacesUptoRow : OpenClaim := { program := "ytomheoaophomlaa", sum := "b78496fa674d008f7a72201f5e6b2d87d3ba9513c39f8f9a14f4d5bd77e28d8a", func := "loop.example/g01286/laws.FnExactCountPlaces", spec := "fnExactCountPlaces", unfollowed := true, recurses := true, apart := false, narrowed := true }
def FnExactCountPlacesUptoSaid : Prop := fnExactCountPlacesUptoRow.holds Try.pinned (OpenSpec.upto fnExactCountPlacesSpec)

/-- 'laws.FnExactPatternsIn', WHERE WHAT IT READS IS OF BULK AT MOST 1048576: true; the input reads as it did. -/
def fnExactPatternsInUptoRow : OpenClaim := { program := "ytomheoaophomlaa", sum := "b78496fa674d008f7a72201f5e6b2d87d3ba9513c39f8f9a14f4d5bd77e28d8a", func := "loop.example/g01286/laws.FnExactPatternsIn", spec := "fnExactPatternsIn", unfollowed := true, recurses := true, apart := false, narrowed := true }
def FnExactPatternsInUptoSaid : Prop := fnExactPatternsInUptoRow.holds Try.pinned (OpenSpec.upto fnExactPatternsInSpec)

/-- 'laws.FnExactAvoidsAll', WHERE WHAT IT READS IS OF BULK AT MOST 1048576: true; the input reads as it did. -/
def fnExactAvoidsAllUptoRow : OpenClaim := { program := "ytomheoaophomlaa", sum := "b78496fa674d008f7a72201f5e6b2d87d3ba9513c39f8f9a14f4d5bd77e28d8a", func := "loop.example/g01286/laws.FnExactAvoidsAll", spec := "fnExactAvoidsAll", unfollowed := true, recurses := true, apart := false, narrowed := true }
def FnExactAvoidsAllUptoSaid : Prop := fnExactAvoidsAllUptoRow.holds Try.pinned (OpenSpec.upto fnExactAvoidsAllSpec)

/-- 'laws.FnExactCountAvoiding', WHERE WHAT IT READS IS OF BULK AT MOST 1048576: true; the input reads as it did. -/
def fnExactCountAvoidingUptoRow : OpenClaim := { program := "ytomheoaophomlaa", sum := "b78496fa674d008f7a72201f5e6b2d87d3ba9513c39f8f9a14f4d5bd77e28d8a", func := "loop.example/g01286/laws.FnExactCountAvoiding", spec := "fnExactCountAvoiding", unfollowed := true, recurses := true, apart := false, narrowed := true }
def FnExactCountAvoidingUptoSaid : Prop := fnExactCountAvoidingUptoRow.holds Try.pinned (OpenSpec.upto fnExactCountAvoidingSpec)

/-- 'laws.FnExactFirstAvoiding', WHERE WHAT IT READS IS OF BULK AT MOST 1048576: true; the input reads as it did. -/
def fnExactFirstAvoidingUptoRow : OpenClaim := { program := "ytomheoaophomlaa", sum := "b78496fa674d008f7a72201f5e6b2d87d3ba9513c39f8f9a14f4d5bd77e28d8a", func := "loop.example/g01286/laws.FnExactFirstAvoiding", spec := "fnExactFirstAvoiding", unfollowed := true, recurses := true, apart := false, narrowed := true }
def FnExactFirstAvoidingUptoSaid : Prop := fnExactFirstAvoidingUptoRow.holds Try.pinned (OpenSpec.upto fnExactFirstAvoidingSpec)

/-- 'laws.FnExactMostPlaces', WHERE WHAT IT READS IS OF BULK AT MOST 1048576: true; the input reads as it did. -/
def fnExactMostPlacesUptoRow : OpenClaim := { program := "ytomheoaophomlaa", sum := "b78496fa674d008f7a72201f5e6b2d87d3ba9513c39f8f9a14f4d5bd77e28d8a", func := "loop.example/g01286/laws.FnExactMostPlaces", spec := "fnExactMostPlaces", unfollowed := true, recurses := true, apart := false, narrowed := true }
def FnExactMostPlacesUptoSaid : Prop := fnExactMostPlacesUptoRow.holds Try.pinned (OpenSpec.upto fnExactMostPlacesSpec)

/-- 'laws.FnExactFewestDrops', WHERE WHAT IT READS IS OF BULK AT MOST 1048576: true; the input reads as it did. -/
def fnExactFewestDropsUptoRow : OpenClaim := { program := "ytomheoaophomlaa", sum := "b78496fa674d008f7a72201f5e6b2d87d3ba9513c39f8f9a14f4d5bd77e28d8a", func := "loop.example/g01286/laws.FnExactFewestDrops", spec := "fnExactFewestDrops", unfollowed := true, recurses := true, apart := false, narrowed := true }
def FnExactFewestDropsUptoSaid : Prop := fnExactFewestDropsUptoRow.holds Try.pinned (OpenSpec.upto fnExactFewestDropsSpec)

/-- 'laws.FnExactInsertLast', WHERE WHAT IT READS IS OF BULK AT MOST 1048576: true; the input reads as it did. -/
def fnExactInsertLastUptoRow : OpenClaim := { program := "ytomheoaophomlaa", sum := "b78496fa674d008f7a72201f5e6b2d87d3ba9513c39f8f9a14f4d5bd77e28d8a", func := "loop.example/g01286/laws.FnExactInsertLast", spec := "fnExactInsertLast", apart := false, narrowed := true }
def FnExactInsertLastUptoSaid : Prop := fnExactInsertLastUptoRow.holds Try.pinned (OpenSpec.upto fnExactInsertLastSpec)

/-- 'laws.FnExactCountChildren', WHERE WHAT IT READS IS OF BULK AT MOST 1048576: true; the input reads as it did. -/
def fnExactCountChildrenUptoRow : OpenClaim := { program := "ytomheoaophomlaa", sum := "b78496fa674d008f7a72201f5e6b2d87d3ba9513c39f8f9a14f4d5bd77e28d8a", func := "loop.example/g01286/laws.FnExactCountChildren", spec := "fnExactCountChildren", unfollowed := true, recurses := true, apart := false, narrowed := true }
def FnExactCountChildrenUptoSaid : Prop := fnExactCountChildrenUptoRow.holds Try.pinned (OpenSpec.upto fnExactCountChildrenSpec)

end Rows
end Go.Proofs.Ytomheoaophomlaa
