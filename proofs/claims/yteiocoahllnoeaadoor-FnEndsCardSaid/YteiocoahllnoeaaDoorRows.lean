/-
  NARROWER THAN 'FOR EVERY INPUT', by the rows' own cells (each row's printed sentence says how): FnEnds: laid · FnEndsCounts: laid · FnExactIsEndsWord: laid · FnExactRunEnds: laid · FnExactPlainEnds: laid · FnExactEndsDepth: laid · FnExactStackWord: laid.
  DERIVED. THE GIVEN ROWS OF THIS SEAT. 7 by the template 'for every input the law returns true; each argument reads behind the call as it read before'; 0 by the template 'total and deterministic' (their statements: YteiocoahllnoeaaDoorTotals.lean).
  GIVEN WITH THE SEED: the statements are not yours to turn. If you find one false, say at which input.
  Laid BY PROGRAM, IN A SANDBOX (cutbox-rows.mjs): the forced cells as the released guide's own fill.sh prints them over the translation af3dc9833da4167c… (all of the seat's roots in one cut). By AI agents, Wed Nov 11 2026. No macro, syntax, notation, axiom, sorry.
-/
import Derived.Test.YteiocoahllnoeaaDoorChecked
import GoSem.PinnedTables
import GoSem.Claim
import GoSem.ClaimJoined
import GoSem.ClaimMapViews
import Derived.JoinedTies
import Derived.KernelRfl
namespace Go.Proofs.YteiocoahllnoeaaDoor
/- THE CELL 'sum', in the pinned program and in every row, IS THE sha256 OF THE DUMP (.gsa) THAT YteiocoahllnoeaaDoorProg.lean LOADS. Nothing in Lean hashes anything: it is a label: what it is worth is what the hold of that sum in a sandbox is worth. -/
noncomputable def Tryd.pinned : Pinned := { name := "yteiocoahllnoeaadoor", sum := "af3dc9833da4167c667e26328a8c4d0ee3473f49824245c4d549042f1df21afe", checked := Tryd.checked }
namespace Rows
def none {H : Type} : Left H := { results := [], args := [] }

/- WHAT THE LISTED PACKAGE-LEVEL VARIABLES READ AS WHEN THE CALL BEGINS. Each datum BY PROGRAM (the guide's laid-datum.mjs) off the statement by which the dump's own 'gosem.cut.vars' lays the variable. In a bare row this is a premise. The card (YteiocoahllnoeaaDoorCards.lean) ties it to the program's text. -/
def laid_unicode_utf8_acceptRanges {H : Type} : DataW H := .agg [.agg [.lit (.int .u8 128), .lit (.int .u8 191)], .agg [.lit (.int .u8 160), .lit (.int .u8 191)], .agg [.lit (.int .u8 128), .lit (.int .u8 159)], .agg [.lit (.int .u8 144), .lit (.int .u8 191)], .agg [.lit (.int .u8 128), .lit (.int .u8 143)], .agg [.lit (.int .u8 0), .lit (.int .u8 0)], .agg [.lit (.int .u8 0), .lit (.int .u8 0)], .agg [.lit (.int .u8 0), .lit (.int .u8 0)], .agg [.lit (.int .u8 0), .lit (.int .u8 0)], .agg [.lit (.int .u8 0), .lit (.int .u8 0)], .agg [.lit (.int .u8 0), .lit (.int .u8 0)], .agg [.lit (.int .u8 0), .lit (.int .u8 0)], .agg [.lit (.int .u8 0), .lit (.int .u8 0)], .agg [.lit (.int .u8 0), .lit (.int .u8 0)], .agg [.lit (.int .u8 0), .lit (.int .u8 0)], .agg [.lit (.int .u8 0), .lit (.int .u8 0)]]
/-- One of Go's own tables, pinned by name: the form's constant. -/
def laid_unicode_utf8_first : DataW Unit := Go.Pinned.utf8First

/-- 'laws.FnEnds': WHATEVER THE INPUT: true; the input reads as it did. -/
def fnEndsSpec : ChangeSpec := { name := "fnEnds", fn := fun _ => fun
  | [d] => { results := [.lit (.bool true)], args := [d] }
  | _ => none }
def fnEndsRow : OpenClaim := { program := "yteiocoahllnoeaadoor", sum := "af3dc9833da4167c667e26328a8c4d0ee3473f49824245c4d549042f1df21afe", func := "loop.example/g01286/laws.FnEnds", spec := "fnEnds", inPlace := ["internal/bytealg.IndexByteString", "internal/bytealg.IndexString", "internal/abi.NoEscape", "internal/bytealg.MakeNoZero", "internal/bytealg.CountString"], unfollowed := true, recurses := true, named := ["unicode/utf8.first", "unicode/utf8.acceptRanges", "internal/bytealg.MaxLen"], apart := false, laid := [("unicode/utf8.acceptRanges", laid_unicode_utf8_acceptRanges), ("unicode/utf8.first", laid_unicode_utf8_first)] }
def FnEndsSaid : Prop := fnEndsRow.holds Tryd.pinned (OpenSpec.ofChange fnEndsSpec)

/-- ITS FALSE NEIGHBOUR: 'it returns false'. Refute it at one input. -/
def fnEndsWrong : ChangeSpec := { name := "fnEnds", fn := fun _ => fun
  | [d] => { results := [.lit (.bool false)], args := [d] }
  | _ => none }
def FnEndsWrongFalsely : Prop := fnEndsRow.holds Tryd.pinned (OpenSpec.ofChange fnEndsWrong)

/-- 'laws.FnEndsCounts': WHATEVER THE INPUT: true; the input reads as it did. -/
def fnEndsCountsSpec : ChangeSpec := { name := "fnEndsCounts", fn := fun _ => fun
  | [d] => { results := [.lit (.bool true)], args := [d] }
  | _ => none }
def fnEndsCountsRow : OpenClaim := { program := "yteiocoahllnoeaadoor", sum := "af3dc9833da4167c667e26328a8c4d0ee3473f49824245c4d549042f1df21afe", func := "loop.example/g01286/laws.FnEndsCounts", spec := "fnEndsCounts", inPlace := ["internal/abi.NoEscape", "internal/bytealg.MakeNoZero", "internal/bytealg.IndexByteString", "internal/bytealg.IndexString"], unfollowed := true, recurses := true, named := ["unicode/utf8.first", "unicode/utf8.acceptRanges", "internal/bytealg.MaxLen"], apart := false, laid := [("unicode/utf8.acceptRanges", laid_unicode_utf8_acceptRanges), ("unicode/utf8.first", laid_unicode_utf8_first)] }
def FnEndsCountsSaid : Prop := fnEndsCountsRow.holds Tryd.pinned (OpenSpec.ofChange fnEndsCountsSpec)

/-- ITS FALSE NEIGHBOUR: 'it returns false'. Refute it at one input. -/
def fnEndsCountsWrong : ChangeSpec := { name := "fnEndsCounts", fn := fun _ => fun
  | [d] => { results := [.lit (.bool false)], args := [d] }
  | _ => none }
def FnEndsCountsWrongFalsely : Prop := fnEndsCountsRow.holds Tryd.pinned (OpenSpec.ofChange fnEndsCountsWrong)

/-- 'laws.FnExactIsEndsWord': WHATEVER THE INPUT: true; the input reads as it did. -/
def fnExactIsEndsWordSpec : ChangeSpec := { name := "fnExactIsEndsWord", fn := fun _ => fun
  | [d] => { results := [.lit (.bool true)], args := [d] }
  | _ => none }
def fnExactIsEndsWordRow : OpenClaim := { program := "yteiocoahllnoeaadoor", sum := "af3dc9833da4167c667e26328a8c4d0ee3473f49824245c4d549042f1df21afe", func := "loop.example/g01286/laws.FnExactIsEndsWord", spec := "fnExactIsEndsWord", inPlace := ["internal/bytealg.IndexByteString", "internal/bytealg.IndexString", "internal/abi.NoEscape", "internal/bytealg.MakeNoZero"], unfollowed := true, recurses := true, named := ["unicode/utf8.first", "unicode/utf8.acceptRanges", "internal/bytealg.MaxLen"], apart := false, laid := [("unicode/utf8.acceptRanges", laid_unicode_utf8_acceptRanges), ("unicode/utf8.first", laid_unicode_utf8_first)] }
def FnExactIsEndsWordSaid : Prop := fnExactIsEndsWordRow.holds Tryd.pinned (OpenSpec.ofChange fnExactIsEndsWordSpec)

/-- ITS FALSE NEIGHBOUR: 'it returns false'. Refute it at one input. -/
def fnExactIsEndsWordWrong : ChangeSpec := { name := "fnExactIsEndsWord", fn := fun _ => fun
  | [d] => { results := [.lit (.bool false)], args := [d] }
  | _ => none }
def FnExactIsEndsWordWrongFalsely : Prop := fnExactIsEndsWordRow.holds Tryd.pinned (OpenSpec.ofChange fnExactIsEndsWordWrong)

/-- 'laws.FnExactRunEnds': WHATEVER THE INPUT: true; the input reads as it did. -/
def fnExactRunEndsSpec : ChangeSpec := { name := "fnExactRunEnds", fn := fun _ => fun
  | [d1, d2] => { results := [.lit (.bool true)], args := [d1, d2] }
  | _ => none }
def fnExactRunEndsRow : OpenClaim := { program := "yteiocoahllnoeaadoor", sum := "af3dc9833da4167c667e26328a8c4d0ee3473f49824245c4d549042f1df21afe", func := "loop.example/g01286/laws.FnExactRunEnds", spec := "fnExactRunEnds", inPlace := ["internal/bytealg.IndexByteString", "internal/bytealg.IndexString", "internal/abi.NoEscape", "internal/bytealg.MakeNoZero"], unfollowed := true, recurses := true, named := ["unicode/utf8.first", "unicode/utf8.acceptRanges", "internal/bytealg.MaxLen"], apart := false, laid := [("unicode/utf8.acceptRanges", laid_unicode_utf8_acceptRanges), ("unicode/utf8.first", laid_unicode_utf8_first)] }
def FnExactRunEndsSaid : Prop := fnExactRunEndsRow.holds Tryd.pinned (OpenSpec.ofChange fnExactRunEndsSpec)

/-- ITS FALSE NEIGHBOUR: 'it returns false'. Refute it at one input. -/
def fnExactRunEndsWrong : ChangeSpec := { name := "fnExactRunEnds", fn := fun _ => fun
  | [d1, d2] => { results := [.lit (.bool false)], args := [d1, d2] }
  | _ => none }
def FnExactRunEndsWrongFalsely : Prop := fnExactRunEndsRow.holds Tryd.pinned (OpenSpec.ofChange fnExactRunEndsWrong)

/-- 'laws.FnExactPlainEnds': WHATEVER THE INPUT: true; the input reads as it did. -/
def fnExactPlainEndsSpec : ChangeSpec := { name := "fnExactPlainEnds", fn := fun _ => fun
  | [d] => { results := [.lit (.bool true)], args := [d] }
  | _ => none }
def fnExactPlainEndsRow : OpenClaim := { program := "yteiocoahllnoeaadoor", sum := "af3dc9833da4167c667e26328a8c4d0ee3473f49824245c4d549042f1df21afe", func := "loop.example/g01286/laws.FnExactPlainEnds", spec := "fnExactPlainEnds", inPlace := ["internal/bytealg.IndexByteString", "internal/bytealg.IndexString", "internal/abi.NoEscape", "internal/bytealg.MakeNoZero"], unfollowed := true, recurses := true, named := ["unicode/utf8.first", "unicode/utf8.acceptRanges", "internal/bytealg.MaxLen"], apart := false, laid := [("unicode/utf8.acceptRanges", laid_unicode_utf8_acceptRanges), ("unicode/utf8.first", laid_unicode_utf8_first)] }
def FnExactPlainEndsSaid : Prop := fnExactPlainEndsRow.holds Tryd.pinned (OpenSpec.ofChange fnExactPlainEndsSpec)

/-- ITS FALSE NEIGHBOUR: 'it returns false'. Refute it at one input. -/
def fnExactPlainEndsWrong : ChangeSpec := { name := "fnExactPlainEnds", fn := fun _ => fun
  | [d] => { results := [.lit (.bool false)], args := [d] }
  | _ => none }
def FnExactPlainEndsWrongFalsely : Prop := fnExactPlainEndsRow.holds Tryd.pinned (OpenSpec.ofChange fnExactPlainEndsWrong)

/-- 'laws.FnExactEndsDepth': WHATEVER THE INPUT: true; the input reads as it did. -/
def fnExactEndsDepthSpec : ChangeSpec := { name := "fnExactEndsDepth", fn := fun _ => fun
  | [d] => { results := [.lit (.bool true)], args := [d] }
  | _ => none }
def fnExactEndsDepthRow : OpenClaim := { program := "yteiocoahllnoeaadoor", sum := "af3dc9833da4167c667e26328a8c4d0ee3473f49824245c4d549042f1df21afe", func := "loop.example/g01286/laws.FnExactEndsDepth", spec := "fnExactEndsDepth", inPlace := ["internal/bytealg.IndexByteString", "internal/bytealg.IndexString", "internal/abi.NoEscape", "internal/bytealg.MakeNoZero"], unfollowed := true, recurses := true, named := ["unicode/utf8.first", "unicode/utf8.acceptRanges", "internal/bytealg.MaxLen"], apart := false, laid := [("unicode/utf8.acceptRanges", laid_unicode_utf8_acceptRanges), ("unicode/utf8.first", laid_unicode_utf8_first)] }
def FnExactEndsDepthSaid : Prop := fnExactEndsDepthRow.holds Tryd.pinned (OpenSpec.ofChange fnExactEndsDepthSpec)

/-- ITS FALSE NEIGHBOUR: 'it returns false'. Refute it at one input. -/
def fnExactEndsDepthWrong : ChangeSpec := { name := "fnExactEndsDepth", fn := fun _ => fun
  | [d] => { results := [.lit (.bool false)], args := [d] }
  | _ => none }
def FnExactEndsDepthWrongFalsely : Prop := fnExactEndsDepthRow.holds Tryd.pinned (OpenSpec.ofChange fnExactEndsDepthWrong)

/-- 'laws.FnExactStackWord': WHATEVER THE INPUT: true; the input reads as it did. -/
def fnExactStackWordSpec : ChangeSpec := { name := "fnExactStackWord", fn := fun _ => fun
  | [d] => { results := [.lit (.bool true)], args := [d] }
  | _ => none }
def fnExactStackWordRow : OpenClaim := { program := "yteiocoahllnoeaadoor", sum := "af3dc9833da4167c667e26328a8c4d0ee3473f49824245c4d549042f1df21afe", func := "loop.example/g01286/laws.FnExactStackWord", spec := "fnExactStackWord", inPlace := ["internal/bytealg.IndexByteString", "internal/bytealg.IndexString", "internal/abi.NoEscape", "internal/bytealg.MakeNoZero"], unfollowed := true, recurses := true, named := ["unicode/utf8.first", "unicode/utf8.acceptRanges", "internal/bytealg.MaxLen"], apart := false, laid := [("unicode/utf8.acceptRanges", laid_unicode_utf8_acceptRanges), ("unicode/utf8.first", laid_unicode_utf8_first)] }
def FnExactStackWordSaid : Prop := fnExactStackWordRow.holds Tryd.pinned (OpenSpec.ofChange fnExactStackWordSpec)

/-- ITS FALSE NEIGHBOUR: 'it returns false'. Refute it at one input. -/
def fnExactStackWordWrong : ChangeSpec := { name := "fnExactStackWord", fn := fun _ => fun
  | [d] => { results := [.lit (.bool false)], args := [d] }
  | _ => none }
def FnExactStackWordWrongFalsely : Prop := fnExactStackWordRow.holds Tryd.pinned (OpenSpec.ofChange fnExactStackWordWrong)

/- THE SECOND FORM. 'bulk': how many values and letters a reading holds, each counted each time it is reached (what is shared counts as often as it is met; a slice's spare places count too). A statement '..UptoSaid' is the law's where the arguments, and the package variables that the reading takes, are together of bulk at most 1048576: NARROWER than '..Said'. Prove '..Said' where nothing that the law and all that it calls make is longer than what came in: it says more and counts as full. Else prove '..UptoSaid'. A law counts once. -/
mutual
def uptoBulk {H : Type} : DataW H → Nat
  | .lit (.string bytes) => bytes.length + 1
  | .lit _ => 1
  | .nil => 1
  | .ptr d => uptoBulk d + 1
  | .slice elems spare => uptoBulkAll elems + uptoBulkAll spare + 1
  | .agg parts => uptoBulkAll parts + 1
  | .iface _ d => uptoBulk d + 1
  | .map entries => uptoBulkEntries entries + 1
  | .held _ => 1
def uptoBulkAll {H : Type} : List (DataW H) → Nat
  | [] => 0
  | d :: r => uptoBulk d + uptoBulkAll r
def uptoBulkEntries {H : Type} : List (Lit × DataW H) → Nat
  | [] => 0
  | x :: r => uptoBulkEntry x + uptoBulkEntries r
def uptoBulkEntry {H : Type} : Lit × DataW H → Nat
  | (.string bytes, d) => bytes.length + uptoBulk d + 1
  | (_, d) => uptoBulk d + 1
 end
def uptoSmall : (H : Type) → List (DataW H) → Bool := fun _ ds => decide (uptoBulkAll ds ≤ 1048576)
def OpenSpec.upto (s : _root_.Go.ChangeSpec) : _root_.Go.OpenSpec := { _root_.Go.OpenSpec.ofChange s with cond := some uptoSmall }

/-- 'laws.FnEnds', WHERE WHAT IT READS IS OF BULK AT MOST 1048576: true; the input reads as it did. -/
def fnEndsUptoRow : OpenClaim := { program := "yteiocoahllnoeaadoor", sum := "af3dc9833da4167c667e26328a8c4d0ee3473f49824245c4d549042f1df21afe", func := "loop.example/g01286/laws.FnEnds", spec := "fnEnds", inPlace := ["internal/bytealg.IndexByteString", "internal/bytealg.IndexString", "internal/abi.NoEscape", "internal/bytealg.MakeNoZero", "internal/bytealg.CountString"], unfollowed := true, recurses := true, named := ["unicode/utf8.first", "unicode/utf8.acceptRanges", "internal/bytealg.MaxLen"], apart := false, laid := [("unicode/utf8.acceptRanges", laid_unicode_utf8_acceptRanges), ("unicode/utf8.first", laid_unicode_utf8_first)], narrowed := true }
def FnEndsUptoSaid : Prop := fnEndsUptoRow.holds Tryd.pinned (OpenSpec.upto fnEndsSpec)

/-- 'laws.FnEndsCounts', WHERE WHAT IT READS IS OF BULK AT MOST 1048576: true; the input reads as it did. -/
def fnEndsCountsUptoRow : OpenClaim := { program := "yteiocoahllnoeaadoor", sum := "af3dc9833da4167c667e26328a8c4d0ee3473f49824245c4d549042f1df21afe", func := "loop.example/g01286/laws.FnEndsCounts", spec := "fnEndsCounts", inPlace := ["internal/abi.NoEscape", "internal/bytealg.MakeNoZero", "internal/bytealg.IndexByteString", "internal/bytealg.IndexString"], unfollowed := true, recurses := true, named := ["unicode/utf8.first", "unicode/utf8.acceptRanges", "internal/bytealg.MaxLen"], apart := false, laid := [("unicode/utf8.acceptRanges", laid_unicode_utf8_acceptRanges), ("unicode/utf8.first", laid_unicode_utf8_first)], narrowed := true }
def FnEndsCountsUptoSaid : Prop := fnEndsCountsUptoRow.holds Tryd.pinned (OpenSpec.upto fnEndsCountsSpec)

/-- 'laws.FnExactIsEndsWord', WHERE WHAT IT READS IS OF BULK AT MOST 1048576: true; the input reads as it did. -/
def fnExactIsEndsWordUptoRow : OpenClaim := { program := "yteiocoahllnoeaadoor", sum := "af3dc9833da4167c667e26328a8c4d0ee3473f49824245c4d549042f1df21afe", func := "loop.example/g01286/laws.FnExactIsEndsWord", spec := "fnExactIsEndsWord", inPlace := ["internal/bytealg.IndexByteString", "internal/bytealg.IndexString", "internal/abi.NoEscape", "internal/bytealg.MakeNoZero"], unfollowed := true, recurses := true, named := ["unicode/utf8.first", "unicode/utf8.acceptRanges", "internal/bytealg.MaxLen"], apart := false, laid := [("unicode/utf8.acceptRanges", laid_unicode_utf8_acceptRanges), ("unicode/utf8.first", laid_unicode_utf8_first)], narrowed := true }
def FnExactIsEndsWordUptoSaid : Prop := fnExactIsEndsWordUptoRow.holds Tryd.pinned (OpenSpec.upto fnExactIsEndsWordSpec)

/-- 'laws.FnExactRunEnds', WHERE WHAT IT READS IS OF BULK AT MOST 1048576: true; the input reads as it did. -/
def fnExactRunEndsUptoRow : OpenClaim := { program := "yteiocoahllnoeaadoor", sum := "af3dc9833da4167c667e26328a8c4d0ee3473f49824245c4d549042f1df21afe", func := "loop.example/g01286/laws.FnExactRunEnds", spec := "fnExactRunEnds", inPlace := ["internal/bytealg.IndexByteString", "internal/bytealg.IndexString", "internal/abi.NoEscape", "internal/bytealg.MakeNoZero"], unfollowed := true, recurses := true, named := ["unicode/utf8.first", "unicode/utf8.acceptRanges", "internal/bytealg.MaxLen"], apart := false, laid := [("unicode/utf8.acceptRanges", laid_unicode_utf8_acceptRanges), ("unicode/utf8.first", laid_unicode_utf8_first)], narrowed := true }
def FnExactRunEndsUptoSaid : Prop := fnExactRunEndsUptoRow.holds Tryd.pinned (OpenSpec.upto fnExactRunEndsSpec)

/-- 'laws.FnExactPlainEnds', WHERE WHAT IT READS IS OF BULK AT MOST 1048576: true; the input reads as it did. -/
def fnExactPlainEndsUptoRow : OpenClaim := { program := "yteiocoahllnoeaadoor", sum := "af3dc9833da4167c667e26328a8c4d0ee3473f49824245c4d549042f1df21afe", func := "loop.example/g01286/laws.FnExactPlainEnds", spec := "fnExactPlainEnds", inPlace := ["internal/bytealg.IndexByteString", "internal/bytealg.IndexString", "internal/abi.NoEscape", "internal/bytealg.MakeNoZero"], unfollowed := true, recurses := true, named := ["unicode/utf8.first", "unicode/utf8.acceptRanges", "internal/bytealg.MaxLen"], apart := false, laid := [("unicode/utf8.acceptRanges", laid_unicode_utf8_acceptRanges), ("unicode/utf8.first", laid_unicode_utf8_first)], narrowed := true }
def FnExactPlainEndsUptoSaid : Prop := fnExactPlainEndsUptoRow.holds Tryd.pinned (OpenSpec.upto fnExactPlainEndsSpec)

/-- 'laws.FnExactEndsDepth', WHERE WHAT IT READS IS OF BULK AT MOST 1048576: true; the input reads as it did. -/
def fnExactEndsDepthUptoRow : OpenClaim := { program := "yteiocoahllnoeaadoor", sum := "af3dc9833da4167c667e26328a8c4d0ee3473f49824245c4d549042f1df21afe", func := "loop.example/g01286/laws.FnExactEndsDepth", spec := "fnExactEndsDepth", inPlace := ["internal/bytealg.IndexByteString", "internal/bytealg.IndexString", "internal/abi.NoEscape", "internal/bytealg.MakeNoZero"], unfollowed := true, recurses := true, named := ["unicode/utf8.first", "unicode/utf8.acceptRanges", "internal/bytealg.MaxLen"], apart := false, laid := [("unicode/utf8.acceptRanges", laid_unicode_utf8_acceptRanges), ("unicode/utf8.first", laid_unicode_utf8_first)], narrowed := true }
def FnExactEndsDepthUptoSaid : Prop := fnExactEndsDepthUptoRow.holds Tryd.pinned (OpenSpec.upto fnExactEndsDepthSpec)

/-- 'laws.FnExactStackWord', WHERE WHAT IT READS IS OF BULK AT MOST 1048576: true; the input reads as it did. -/
def fnExactStackWordUptoRow : OpenClaim := { program := "yteiocoahllnoeaadoor", sum := "af3dc9833da4167c667e26328a8c4d0ee3473f49824245c4d549042f1df21afe", func := "loop.example/g01286/laws.FnExactStackWord", spec := "fnExactStackWord", inPlace := ["internal/bytealg.IndexByteString", "internal/bytealg.IndexString", "internal/abi.NoEscape", "internal/bytealg.MakeNoZero"], unfollowed := true, recurses := true, named := ["unicode/utf8.first", "unicode/utf8.acceptRanges", "internal/bytealg.MaxLen"], apart := false, laid := [("unicode/utf8.acceptRanges", laid_unicode_utf8_acceptRanges), ("unicode/utf8.first", laid_unicode_utf8_first)], narrowed := true }
def FnExactStackWordUptoSaid : Prop := fnExactStackWordUptoRow.holds Tryd.pinned (OpenSpec.upto fnExactStackWordSpec)

end Rows
end Go.Proofs.YteiocoahllnoeaaDoor
