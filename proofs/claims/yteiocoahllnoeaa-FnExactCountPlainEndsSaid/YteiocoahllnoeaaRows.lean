/-
  No cell of these rows narrows 'for every input' (looked for: loops, veiled, ifaces, maps, wideKeys, modest, calm, conditions, laid).
  DERIVED. THE GIVEN ROWS OF THIS SEAT. 8 by the template 'for every input the law returns true; each argument reads behind the call as it read before'; 0 by the template 'total and deterministic' (their statements: YteiocoahllnoeaaTotals.lean).
  GIVEN WITH THE SEED: the statements are not yours to turn. If you find one false, say at which input.
  Laid BY PROGRAM, IN A SANDBOX (cutbox-rows.mjs): the forced cells as the released guide's own fill.sh prints them over the translation 1747f8dd1dd30d91… (all of the seat's roots in one cut). By AI agents, Wed Nov 11 2026. No macro, syntax, notation, axiom, sorry.
-/
import Derived.Test.YteiocoahllnoeaaChecked
import GoSem.Claim
import GoSem.ClaimJoined
import GoSem.ClaimMapViews
import Derived.JoinedTies
import Derived.KernelRfl
namespace Go.Proofs.Yteiocoahllnoeaa
/- THE CELL 'sum', in the pinned program and in every row, IS THE sha256 OF THE DUMP (.gsa) THAT YteiocoahllnoeaaProg.lean LOADS. Nothing in Lean hashes anything: it is a label: what it is worth is what the hold of that sum in a sandbox is worth. -/
noncomputable def Try.pinned : Pinned := { name := "yteiocoahllnoeaa", sum := "1747f8dd1dd30d91117694e16d1d1b8bc63252668a91145ca363e3eaa1bf057a", checked := Try.checked }
namespace Rows
def none {H : Type} : Left H := { results := [], args := [] }

/-- 'laws.FnExactEndsTo': WHATEVER THE INPUT: true; the input reads as it did. -/
def fnExactEndsToSpec : ChangeSpec := { name := "fnExactEndsTo", fn := fun _ => fun
  | [d1, d2] => { results := [.lit (.bool true)], args := [d1, d2] }
  | _ => none }
def fnExactEndsToRow : OpenClaim := { program := "yteiocoahllnoeaa", sum := "1747f8dd1dd30d91117694e16d1d1b8bc63252668a91145ca363e3eaa1bf057a", func := "loop.example/g01286/laws.FnExactEndsTo", spec := "fnExactEndsTo", apart := false }
def FnExactEndsToSaid : Prop := fnExactEndsToRow.holds Try.pinned (OpenSpec.ofChange fnExactEndsToSpec)

/-- ITS FALSE NEIGHBOUR: 'it returns false'. Refute it at one input. -/
def fnExactEndsToWrong : ChangeSpec := { name := "fnExactEndsTo", fn := fun _ => fun
  | [d1, d2] => { results := [.lit (.bool false)], args := [d1, d2] }
  | _ => none }
def FnExactEndsToWrongFalsely : Prop := fnExactEndsToRow.holds Try.pinned (OpenSpec.ofChange fnExactEndsToWrong)

/-- 'laws.FnExactIsEndsSortable': WHATEVER THE INPUT: true; the input reads as it did. -/
def fnExactIsEndsSortableSpec : ChangeSpec := { name := "fnExactIsEndsSortable", fn := fun _ => fun
  | [d] => { results := [.lit (.bool true)], args := [d] }
  | _ => none }
def fnExactIsEndsSortableRow : OpenClaim := { program := "yteiocoahllnoeaa", sum := "1747f8dd1dd30d91117694e16d1d1b8bc63252668a91145ca363e3eaa1bf057a", func := "loop.example/g01286/laws.FnExactIsEndsSortable", spec := "fnExactIsEndsSortable", apart := false }
def FnExactIsEndsSortableSaid : Prop := fnExactIsEndsSortableRow.holds Try.pinned (OpenSpec.ofChange fnExactIsEndsSortableSpec)

/-- ITS FALSE NEIGHBOUR: 'it returns false'. Refute it at one input. -/
def fnExactIsEndsSortableWrong : ChangeSpec := { name := "fnExactIsEndsSortable", fn := fun _ => fun
  | [d] => { results := [.lit (.bool false)], args := [d] }
  | _ => none }
def FnExactIsEndsSortableWrongFalsely : Prop := fnExactIsEndsSortableRow.holds Try.pinned (OpenSpec.ofChange fnExactIsEndsSortableWrong)

/-- 'laws.FnExactEndsOutputs': WHATEVER THE INPUT: true; the input reads as it did. -/
def fnExactEndsOutputsSpec : ChangeSpec := { name := "fnExactEndsOutputs", fn := fun _ => fun
  | [d] => { results := [.lit (.bool true)], args := [d] }
  | _ => none }
def fnExactEndsOutputsRow : OpenClaim := { program := "yteiocoahllnoeaa", sum := "1747f8dd1dd30d91117694e16d1d1b8bc63252668a91145ca363e3eaa1bf057a", func := "loop.example/g01286/laws.FnExactEndsOutputs", spec := "fnExactEndsOutputs", unfollowed := true, recurses := true, apart := false }
def FnExactEndsOutputsSaid : Prop := fnExactEndsOutputsRow.holds Try.pinned (OpenSpec.ofChange fnExactEndsOutputsSpec)

/-- ITS FALSE NEIGHBOUR: 'it returns false'. Refute it at one input. -/
def fnExactEndsOutputsWrong : ChangeSpec := { name := "fnExactEndsOutputs", fn := fun _ => fun
  | [d] => { results := [.lit (.bool false)], args := [d] }
  | _ => none }
def FnExactEndsOutputsWrongFalsely : Prop := fnExactEndsOutputsRow.holds Try.pinned (OpenSpec.ofChange fnExactEndsOutputsWrong)

/-- 'laws.FnExactCountEnds': WHATEVER THE INPUT: true; the input reads as it did. -/
def fnExactCountEndsSpec : ChangeSpec := { name := "fnExactCountEnds", fn := fun _ => fun
  | [d] => { results := [.lit (.bool true)], args := [d] }
  | _ => none }
def fnExactCountEndsRow : OpenClaim := { program := "yteiocoahllnoeaa", sum := "1747f8dd1dd30d91117694e16d1d1b8bc63252668a91145ca363e3eaa1bf057a", func := "loop.example/g01286/laws.FnExactCountEnds", spec := "fnExactCountEnds", unfollowed := true, recurses := true, apart := false }
def FnExactCountEndsSaid : Prop := fnExactCountEndsRow.holds Try.pinned (OpenSpec.ofChange fnExactCountEndsSpec)

/-- ITS FALSE NEIGHBOUR: 'it returns false'. Refute it at one input. -/
def fnExactCountEndsWrong : ChangeSpec := { name := "fnExactCountEnds", fn := fun _ => fun
  | [d] => { results := [.lit (.bool false)], args := [d] }
  | _ => none }
def FnExactCountEndsWrongFalsely : Prop := fnExactCountEndsRow.holds Try.pinned (OpenSpec.ofChange fnExactCountEndsWrong)

/-- 'laws.FnExactOnlyByEnds': WHATEVER THE INPUT: true; the input reads as it did. -/
def fnExactOnlyByEndsSpec : ChangeSpec := { name := "fnExactOnlyByEnds", fn := fun _ => fun
  | [d] => { results := [.lit (.bool true)], args := [d] }
  | _ => none }
def fnExactOnlyByEndsRow : OpenClaim := { program := "yteiocoahllnoeaa", sum := "1747f8dd1dd30d91117694e16d1d1b8bc63252668a91145ca363e3eaa1bf057a", func := "loop.example/g01286/laws.FnExactOnlyByEnds", spec := "fnExactOnlyByEnds", unfollowed := true, recurses := true, apart := false }
def FnExactOnlyByEndsSaid : Prop := fnExactOnlyByEndsRow.holds Try.pinned (OpenSpec.ofChange fnExactOnlyByEndsSpec)

/-- ITS FALSE NEIGHBOUR: 'it returns false'. Refute it at one input. -/
def fnExactOnlyByEndsWrong : ChangeSpec := { name := "fnExactOnlyByEnds", fn := fun _ => fun
  | [d] => { results := [.lit (.bool false)], args := [d] }
  | _ => none }
def FnExactOnlyByEndsWrongFalsely : Prop := fnExactOnlyByEndsRow.holds Try.pinned (OpenSpec.ofChange fnExactOnlyByEndsWrong)

/-- 'laws.FnExactBottomPops': WHATEVER THE INPUT: true; the input reads as it did. -/
def fnExactBottomPopsSpec : ChangeSpec := { name := "fnExactBottomPops", fn := fun _ => fun
  | [d1, d2] => { results := [.lit (.bool true)], args := [d1, d2] }
  | _ => none }
def fnExactBottomPopsRow : OpenClaim := { program := "yteiocoahllnoeaa", sum := "1747f8dd1dd30d91117694e16d1d1b8bc63252668a91145ca363e3eaa1bf057a", func := "loop.example/g01286/laws.FnExactBottomPops", spec := "fnExactBottomPops", inPlace := ["internal/bytealg.CountString", "internal/bytealg.IndexByteString", "internal/bytealg.IndexString"], named := ["internal/bytealg.MaxLen"], apart := false }
def FnExactBottomPopsSaid : Prop := fnExactBottomPopsRow.holds Try.pinned (OpenSpec.ofChange fnExactBottomPopsSpec)

/-- ITS FALSE NEIGHBOUR: 'it returns false'. Refute it at one input. -/
def fnExactBottomPopsWrong : ChangeSpec := { name := "fnExactBottomPops", fn := fun _ => fun
  | [d1, d2] => { results := [.lit (.bool false)], args := [d1, d2] }
  | _ => none }
def FnExactBottomPopsWrongFalsely : Prop := fnExactBottomPopsRow.holds Try.pinned (OpenSpec.ofChange fnExactBottomPopsWrong)

/-- 'laws.FnExactCountPlainEnds': WHATEVER THE INPUT: true; the input reads as it did. -/
def fnExactCountPlainEndsSpec : ChangeSpec := { name := "fnExactCountPlainEnds", fn := fun _ => fun
  | [d] => { results := [.lit (.bool true)], args := [d] }
  | _ => none }
def fnExactCountPlainEndsRow : OpenClaim := { program := "yteiocoahllnoeaa", sum := "1747f8dd1dd30d91117694e16d1d1b8bc63252668a91145ca363e3eaa1bf057a", func := "loop.example/g01286/laws.FnExactCountPlainEnds", spec := "fnExactCountPlainEnds", recurses := true, apart := false }
def FnExactCountPlainEndsSaid : Prop := fnExactCountPlainEndsRow.holds Try.pinned (OpenSpec.ofChange fnExactCountPlainEndsSpec)

/-- ITS FALSE NEIGHBOUR: 'it returns false'. Refute it at one input. -/
def fnExactCountPlainEndsWrong : ChangeSpec := { name := "fnExactCountPlainEnds", fn := fun _ => fun
  | [d] => { results := [.lit (.bool false)], args := [d] }
  | _ => none }
def FnExactCountPlainEndsWrongFalsely : Prop := fnExactCountPlainEndsRow.holds Try.pinned (OpenSpec.ofChange fnExactCountPlainEndsWrong)

/-- 'laws.FnExactAsQueue': WHATEVER THE INPUT: true; the input reads as it did. -/
def fnExactAsQueueSpec : ChangeSpec := { name := "fnExactAsQueue", fn := fun _ => fun
  | [d] => { results := [.lit (.bool true)], args := [d] }
  | _ => none }
def fnExactAsQueueRow : OpenClaim := { program := "yteiocoahllnoeaa", sum := "1747f8dd1dd30d91117694e16d1d1b8bc63252668a91145ca363e3eaa1bf057a", func := "loop.example/g01286/laws.FnExactAsQueue", spec := "fnExactAsQueue", inPlace := ["internal/abi.NoEscape", "internal/bytealg.MakeNoZero"], apart := false }
def FnExactAsQueueSaid : Prop := fnExactAsQueueRow.holds Try.pinned (OpenSpec.ofChange fnExactAsQueueSpec)

/-- ITS FALSE NEIGHBOUR: 'it returns false'. Refute it at one input. -/
def fnExactAsQueueWrong : ChangeSpec := { name := "fnExactAsQueue", fn := fun _ => fun
  | [d] => { results := [.lit (.bool false)], args := [d] }
  | _ => none }
def FnExactAsQueueWrongFalsely : Prop := fnExactAsQueueRow.holds Try.pinned (OpenSpec.ofChange fnExactAsQueueWrong)

/- THE SECOND FORM. 'bulk': how many values and letters a reading holds, each counted each time it is reached (what is shared counts as often as it is met; a slice's spare places count too). A statement '..UptoSaid' is the law's where the arguments, and the package variables that the reading takes, are together of bulk at most 1048576: NARROWER than '..Said'. Prove '..Said' where nothing that the law and all that it calls make is longer than what came in: it says more and counts as full. Else prove '..UptoSaid'. A law counts once. -/
mutual
def uptoBulk {H : Type} : DataW H → Nat
  | .lit (.string bytes) => bytes.length + 1
  | .lit _ => 1
  | .nil => 1
  | .ptr d => uptoBulk d + 1
  | .slice elems spare => uptoBulkAll elems + uptoBulkAll spare + 1
  | .agg parts => uptoBulkAll parts + 1
  | .iface _ d => uptoBulk d + 1
  | .map entries => uptoBulkEntries entries + 1
  | .held _ => 1
def uptoBulkAll {H : Type} : List (DataW H) → Nat
  | [] => 0
  | d :: r => uptoBulk d + uptoBulkAll r
def uptoBulkEntries {H : Type} : List (Lit × DataW H) → Nat
  | [] => 0
  | x :: r => uptoBulkEntry x + uptoBulkEntries r
def uptoBulkEntry {H : Type} : Lit × DataW H → Nat
  | (.string bytes, d) => bytes.length + uptoBulk d + 1
  | (_, d) => uptoBulk d + 1
 end
def uptoSmall : (H : Type) → List (DataW H) → Bool := fun _ ds => decide (uptoBulkAll ds ≤ 1048576)
def OpenSpec.upto (s : _root_.Go.ChangeSpec) : _root_.Go.OpenSpec := { _root_.Go.OpenSpec.ofChange s with cond := some uptoSmall }

/-- 'laws.FnExactEndsTo', WHERE WHAT IT READS IS OF BULK AT MOST 1048576: true; the input reads as it did. -/
def fnExactEndsToUptoRow : OpenClaim := { program := "yteiocoahllnoeaa", sum := "1747f8dd1dd30d91117694e16d1d1b8bc63252668a91145ca363e3eaa1bf057a", func := "loop.example/g01286/laws.FnExactEndsTo", spec := "fnExactEndsTo", apart := false, narrowed := true }
def FnExactEndsToUptoSaid : Prop := fnExactEndsToUptoRow.holds Try.pinned (OpenSpec.upto fnExactEndsToSpec)

/-- 'laws.FnExactIsEndsSortable', WHERE WHAT IT READS IS OF BULK AT MOST 1048576: true; the input reads as it did. -/
def fnExactIsEndsSortableUptoRow : OpenClaim := { program := "yteiocoahllnoeaa", sum := "1747f8dd1dd30d91117694e16d1d1b8bc63252668a91145ca363e3eaa1bf057a", func := "loop.example/g01286/laws.FnExactIsEndsSortable", spec := "fnExactIsEndsSortable", apart := false, narrowed := true }
def FnExactIsEndsSortableUptoSaid : Prop := fnExactIsEndsSortableUptoRow.holds Try.pinned (OpenSpec.upto fnExactIsEndsSortableSpec)

/-- 'laws.FnExactEndsOutputs', WHERE WHAT IT READS IS OF BULK AT MOST 1048576: true; the input reads as it did. -/
def fnExactEndsOutputsUptoRow : OpenClaim := { program := "yteiocoahllnoeaa", sum := "1747f8dd1dd30d91117694e16d1d1b8bc63252668a91145ca363e3eaa1bf057a", func := "loop.example/g01286/laws.FnExactEndsOutputs", spec := "fnExactEndsOutputs", unfollowed := true, recurses := true, apart := false, narrowed := true }
def FnExactEndsOutputsUptoSaid : Prop := fnExactEndsOutputsUptoRow.holds Try.pinned (OpenSpec.upto fnExactEndsOutputsSpec)

/-- 'laws.FnExactCountEnds', WHERE WHAT IT READS IS OF BULK AT MOST 1048576: true; the input reads as it did. -/
def fnExactCountEndsUptoRow : OpenClaim := { program := "yteiocoahllnoeaa", sum := "1747f8dd1dd30d91117694e16d1d1b8bc63252668a91145ca363e3eaa1bf057a", func := "loop.example/g01286/laws.FnExactCountEnds", spec := "fnExactCountEnds", unfollowed := true, recurses := true, apart := false, narrowed := true }
def FnExactCountEndsUptoSaid : Prop := fnExactCountEndsUptoRow.holds Try.pinned (OpenSpec.upto fnExactCountEndsSpec)

/-- 'laws.FnExactOnlyByEnds', WHERE WHAT IT READS IS OF BULK AT MOST 1048576: true; the input reads as it did. -/
def fnExactOnlyByEndsUptoRow : OpenClaim := { program := "yteiocoahllnoeaa", sum := "1747f8dd1dd30d91117694e16d1d1b8bc63252668a91145ca363e3eaa1bf057a", func := "loop.example/g01286/laws.FnExactOnlyByEnds", spec := "fnExactOnlyByEnds", unfollowed := true, recurses := true, apart := false, narrowed := true }
def FnExactOnlyByEndsUptoSaid : Prop := fnExactOnlyByEndsUptoRow.holds Try.pinned (OpenSpec.upto fnExactOnlyByEndsSpec)

/-- 'laws.FnExactBottomPops', WHERE WHAT IT READS IS OF BULK AT MOST 1048576: true; the input reads as it did. -/
def fnExactBottomPopsUptoRow : OpenClaim := { program := "yteiocoahllnoeaa", sum := "1747f8dd1dd30d91117694e16d1d1b8bc63252668a91145ca363e3eaa1bf057a", func := "loop.example/g01286/laws.FnExactBottomPops", spec := "fnExactBottomPops", inPlace := ["internal/bytealg.CountString", "internal/bytealg.IndexByteString", "internal/bytealg.IndexString"], named := ["internal/bytealg.MaxLen"], apart := false, narrowed := true }
def FnExactBottomPopsUptoSaid : Prop := fnExactBottomPopsUptoRow.holds Try.pinned (OpenSpec.upto fnExactBottomPopsSpec)

/-- 'laws.FnExactCountPlainEnds', WHERE WHAT IT READS IS OF BULK AT MOST 1048576: true; the input reads as it did. -/
def fnExactCountPlainEndsUptoRow : OpenClaim := { program := "yteiocoahllnoeaa", sum := "1747f8dd1dd30d91117694e16d1d1b8bc63252668a91145ca363e3eaa1bf057a", func := "loop.example/g01286/laws.FnExactCountPlainEnds", spec := "fnExactCountPlainEnds", recurses := true, apart := false, narrowed := true }
def FnExactCountPlainEndsUptoSaid : Prop := fnExactCountPlainEndsUptoRow.holds Try.pinned (OpenSpec.upto fnExactCountPlainEndsSpec)

/-- 'laws.FnExactAsQueue', WHERE WHAT IT READS IS OF BULK AT MOST 1048576: true; the input reads as it did. -/
def fnExactAsQueueUptoRow : OpenClaim := { program := "yteiocoahllnoeaa", sum := "1747f8dd1dd30d91117694e16d1d1b8bc63252668a91145ca363e3eaa1bf057a", func := "loop.example/g01286/laws.FnExactAsQueue", spec := "fnExactAsQueue", inPlace := ["internal/abi.NoEscape", "internal/bytealg.MakeNoZero"], apart := false, narrowed := true }
def FnExactAsQueueUptoSaid : Prop := fnExactAsQueueUptoRow.holds Try.pinned (OpenSpec.upto fnExactAsQueueSpec)

end Rows
end Go.Proofs.Yteiocoahllnoeaa
