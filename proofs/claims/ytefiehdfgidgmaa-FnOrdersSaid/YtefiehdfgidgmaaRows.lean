/-
  No cell of these rows narrows 'for every input' (looked for: loops, veiled, ifaces, maps, wideKeys, modest, calm, conditions, laid).
  DERIVED. THE GIVEN ROWS OF THIS SEAT. 11 by the template 'for every input the law returns true; each argument reads behind the call as it read before'; 0 by the template 'total and deterministic' (their statements: YtefiehdfgidgmaaTotals.lean).
  GIVEN WITH THE SEED: the statements are not yours to turn. If you find one false, say at which input.
  Laid BY PROGRAM, IN A SANDBOX (cutbox-rows.mjs): the forced cells as the released guide's own fill.sh prints them over the translation 785a8955696bdf96… (all of the seat's roots in one cut). By AI agents, Wed Nov 11 2026. No macro, syntax, notation, axiom, sorry.
-/
import Derived.Test.YtefiehdfgidgmaaChecked
import GoSem.Claim
import GoSem.ClaimJoined
import GoSem.ClaimMapViews
import Derived.JoinedTies
import Derived.KernelRfl
namespace Go.Proofs.Ytefiehdfgidgmaa
/- THE CELL 'sum', in the pinned program and in every row, IS THE sha256 OF THE DUMP (.gsa) THAT YtefiehdfgidgmaaProg.lean LOADS. Nothing in Lean hashes anything: it is a label: what it is worth is what the hold of that sum in a sandbox is worth. -/
noncomputable def Try.pinned : Pinned := { name := "ytefiehdfgidgmaa", sum := "785a8955696bdf968a6e9f341dfdf2f10aa03a9fc0188e7d4d6ff07a18f20925", checked := Try.checked }
namespace Rows
def none {H : Type} : Left H := { results := [], args := [] }

/-- 'laws.FnOrders': WHATEVER THE INPUT: true; the input reads as it did. -/
def fnOrdersSpec : ChangeSpec := { name := "fnOrders", fn := fun _ => fun
  | [d] => { results := [.lit (.bool true)], args := [d] }
  | _ => none }
def fnOrdersRow : OpenClaim := { program := "ytefiehdfgidgmaa", sum := "785a8955696bdf968a6e9f341dfdf2f10aa03a9fc0188e7d4d6ff07a18f20925", func := "loop.example/g01286/laws.FnOrders", spec := "fnOrders", recurses := true, apart := false }
def FnOrdersSaid : Prop := fnOrdersRow.holds Try.pinned (OpenSpec.ofChange fnOrdersSpec)

/-- ITS FALSE NEIGHBOUR: 'it returns false'. Refute it at one input. -/
def fnOrdersWrong : ChangeSpec := { name := "fnOrders", fn := fun _ => fun
  | [d] => { results := [.lit (.bool false)], args := [d] }
  | _ => none }
def FnOrdersWrongFalsely : Prop := fnOrdersRow.holds Try.pinned (OpenSpec.ofChange fnOrdersWrong)

/-- 'laws.FnExactIsOrder': WHATEVER THE INPUT: true; the input reads as it did. -/
def fnExactIsOrderSpec : ChangeSpec := { name := "fnExactIsOrder", fn := fun _ => fun
  | [d] => { results := [.lit (.bool true)], args := [d] }
  | _ => none }
def fnExactIsOrderRow : OpenClaim := { program := "ytefiehdfgidgmaa", sum := "785a8955696bdf968a6e9f341dfdf2f10aa03a9fc0188e7d4d6ff07a18f20925", func := "loop.example/g01286/laws.FnExactIsOrder", spec := "fnExactIsOrder", apart := false }
def FnExactIsOrderSaid : Prop := fnExactIsOrderRow.holds Try.pinned (OpenSpec.ofChange fnExactIsOrderSpec)

/-- ITS FALSE NEIGHBOUR: 'it returns false'. Refute it at one input. -/
def fnExactIsOrderWrong : ChangeSpec := { name := "fnExactIsOrder", fn := fun _ => fun
  | [d] => { results := [.lit (.bool false)], args := [d] }
  | _ => none }
def FnExactIsOrderWrongFalsely : Prop := fnExactIsOrderRow.holds Try.pinned (OpenSpec.ofChange fnExactIsOrderWrong)

/-- 'laws.FnExactBackOrder': WHATEVER THE INPUT: true; the input reads as it did. -/
def fnExactBackOrderSpec : ChangeSpec := { name := "fnExactBackOrder", fn := fun _ => fun
  | [d] => { results := [.lit (.bool true)], args := [d] }
  | _ => none }
def fnExactBackOrderRow : OpenClaim := { program := "ytefiehdfgidgmaa", sum := "785a8955696bdf968a6e9f341dfdf2f10aa03a9fc0188e7d4d6ff07a18f20925", func := "loop.example/g01286/laws.FnExactBackOrder", spec := "fnExactBackOrder", apart := false }
def FnExactBackOrderSaid : Prop := fnExactBackOrderRow.holds Try.pinned (OpenSpec.ofChange fnExactBackOrderSpec)

/-- ITS FALSE NEIGHBOUR: 'it returns false'. Refute it at one input. -/
def fnExactBackOrderWrong : ChangeSpec := { name := "fnExactBackOrder", fn := fun _ => fun
  | [d] => { results := [.lit (.bool false)], args := [d] }
  | _ => none }
def FnExactBackOrderWrongFalsely : Prop := fnExactBackOrderRow.holds Try.pinned (OpenSpec.ofChange fnExactBackOrderWrong)

/-- 'laws.FnExactOtherOrder': WHATEVER THE INPUT: true; the input reads as it did. -/
def fnExactOtherOrderSpec : ChangeSpec := { name := "fnExactOtherOrder", fn := fun _ => fun
  | [d] => { results := [.lit (.bool true)], args := [d] }
  | _ => none }
def fnExactOtherOrderRow : OpenClaim := { program := "ytefiehdfgidgmaa", sum := "785a8955696bdf968a6e9f341dfdf2f10aa03a9fc0188e7d4d6ff07a18f20925", func := "loop.example/g01286/laws.FnExactOtherOrder", spec := "fnExactOtherOrder", apart := false }
def FnExactOtherOrderSaid : Prop := fnExactOtherOrderRow.holds Try.pinned (OpenSpec.ofChange fnExactOtherOrderSpec)

/-- ITS FALSE NEIGHBOUR: 'it returns false'. Refute it at one input. -/
def fnExactOtherOrderWrong : ChangeSpec := { name := "fnExactOtherOrder", fn := fun _ => fun
  | [d] => { results := [.lit (.bool false)], args := [d] }
  | _ => none }
def FnExactOtherOrderWrongFalsely : Prop := fnExactOtherOrderRow.holds Try.pinned (OpenSpec.ofChange fnExactOtherOrderWrong)

/-- 'laws.FnExactInverseOrder': WHATEVER THE INPUT: true; the input reads as it did. -/
def fnExactInverseOrderSpec : ChangeSpec := { name := "fnExactInverseOrder", fn := fun _ => fun
  | [d] => { results := [.lit (.bool true)], args := [d] }
  | _ => none }
def fnExactInverseOrderRow : OpenClaim := { program := "ytefiehdfgidgmaa", sum := "785a8955696bdf968a6e9f341dfdf2f10aa03a9fc0188e7d4d6ff07a18f20925", func := "loop.example/g01286/laws.FnExactInverseOrder", spec := "fnExactInverseOrder", apart := false }
def FnExactInverseOrderSaid : Prop := fnExactInverseOrderRow.holds Try.pinned (OpenSpec.ofChange fnExactInverseOrderSpec)

/-- ITS FALSE NEIGHBOUR: 'it returns false'. Refute it at one input. -/
def fnExactInverseOrderWrong : ChangeSpec := { name := "fnExactInverseOrder", fn := fun _ => fun
  | [d] => { results := [.lit (.bool false)], args := [d] }
  | _ => none }
def FnExactInverseOrderWrongFalsely : Prop := fnExactInverseOrderRow.holds Try.pinned (OpenSpec.ofChange fnExactInverseOrderWrong)

/-- 'laws.FnExactComposeOrders': WHATEVER THE INPUT: true; the input reads as it did. -/
def fnExactComposeOrdersSpec : ChangeSpec := { name := "fnExactComposeOrders", fn := fun _ => fun
  | [d1, d2] => { results := [.lit (.bool true)], args := [d1, d2] }
  | _ => none }
def fnExactComposeOrdersRow : OpenClaim := { program := "ytefiehdfgidgmaa", sum := "785a8955696bdf968a6e9f341dfdf2f10aa03a9fc0188e7d4d6ff07a18f20925", func := "loop.example/g01286/laws.FnExactComposeOrders", spec := "fnExactComposeOrders", apart := false }
def FnExactComposeOrdersSaid : Prop := fnExactComposeOrdersRow.holds Try.pinned (OpenSpec.ofChange fnExactComposeOrdersSpec)

/-- ITS FALSE NEIGHBOUR: 'it returns false'. Refute it at one input. -/
def fnExactComposeOrdersWrong : ChangeSpec := { name := "fnExactComposeOrders", fn := fun _ => fun
  | [d1, d2] => { results := [.lit (.bool false)], args := [d1, d2] }
  | _ => none }
def FnExactComposeOrdersWrongFalsely : Prop := fnExactComposeOrdersRow.holds Try.pinned (OpenSpec.ofChange fnExactComposeOrdersWrong)

/-- 'laws.FnExactRankOfOrder': WHATEVER THE INPUT: true; the input reads as it did. -/
def fnExactRankOfOrderSpec : ChangeSpec := { name := "fnExactRankOfOrder", fn := fun _ => fun
  | [d] => { results := [.lit (.bool true)], args := [d] }
  | _ => none }
def fnExactRankOfOrderRow : OpenClaim := { program := "ytefiehdfgidgmaa", sum := "785a8955696bdf968a6e9f341dfdf2f10aa03a9fc0188e7d4d6ff07a18f20925", func := "loop.example/g01286/laws.FnExactRankOfOrder", spec := "fnExactRankOfOrder", apart := false }
def FnExactRankOfOrderSaid : Prop := fnExactRankOfOrderRow.holds Try.pinned (OpenSpec.ofChange fnExactRankOfOrderSpec)

/-- ITS FALSE NEIGHBOUR: 'it returns false'. Refute it at one input. -/
def fnExactRankOfOrderWrong : ChangeSpec := { name := "fnExactRankOfOrder", fn := fun _ => fun
  | [d] => { results := [.lit (.bool false)], args := [d] }
  | _ => none }
def FnExactRankOfOrderWrongFalsely : Prop := fnExactRankOfOrderRow.holds Try.pinned (OpenSpec.ofChange fnExactRankOfOrderWrong)

/-- 'laws.FnExactOrderAt': WHATEVER THE INPUT: true; the input reads as it did. -/
def fnExactOrderAtSpec : ChangeSpec := { name := "fnExactOrderAt", fn := fun _ => fun
  | [d1, d2] => { results := [.lit (.bool true)], args := [d1, d2] }
  | _ => none }
def fnExactOrderAtRow : OpenClaim := { program := "ytefiehdfgidgmaa", sum := "785a8955696bdf968a6e9f341dfdf2f10aa03a9fc0188e7d4d6ff07a18f20925", func := "loop.example/g01286/laws.FnExactOrderAt", spec := "fnExactOrderAt", apart := false }
def FnExactOrderAtSaid : Prop := fnExactOrderAtRow.holds Try.pinned (OpenSpec.ofChange fnExactOrderAtSpec)

/-- ITS FALSE NEIGHBOUR: 'it returns false'. Refute it at one input. -/
def fnExactOrderAtWrong : ChangeSpec := { name := "fnExactOrderAt", fn := fun _ => fun
  | [d1, d2] => { results := [.lit (.bool false)], args := [d1, d2] }
  | _ => none }
def FnExactOrderAtWrongFalsely : Prop := fnExactOrderAtRow.holds Try.pinned (OpenSpec.ofChange fnExactOrderAtWrong)

/-- 'laws.FnExactCountInversions': WHATEVER THE INPUT: true; the input reads as it did. -/
def fnExactCountInversionsSpec : ChangeSpec := { name := "fnExactCountInversions", fn := fun _ => fun
  | [d] => { results := [.lit (.bool true)], args := [d] }
  | _ => none }
def fnExactCountInversionsRow : OpenClaim := { program := "ytefiehdfgidgmaa", sum := "785a8955696bdf968a6e9f341dfdf2f10aa03a9fc0188e7d4d6ff07a18f20925", func := "loop.example/g01286/laws.FnExactCountInversions", spec := "fnExactCountInversions", apart := false }
def FnExactCountInversionsSaid : Prop := fnExactCountInversionsRow.holds Try.pinned (OpenSpec.ofChange fnExactCountInversionsSpec)

/-- ITS FALSE NEIGHBOUR: 'it returns false'. Refute it at one input. -/
def fnExactCountInversionsWrong : ChangeSpec := { name := "fnExactCountInversions", fn := fun _ => fun
  | [d] => { results := [.lit (.bool false)], args := [d] }
  | _ => none }
def FnExactCountInversionsWrongFalsely : Prop := fnExactCountInversionsRow.holds Try.pinned (OpenSpec.ofChange fnExactCountInversionsWrong)

/-- 'laws.FnExactOrderText': WHATEVER THE INPUT: true; the input reads as it did. -/
def fnExactOrderTextSpec : ChangeSpec := { name := "fnExactOrderText", fn := fun _ => fun
  | [d] => { results := [.lit (.bool true)], args := [d] }
  | _ => none }
def fnExactOrderTextRow : OpenClaim := { program := "ytefiehdfgidgmaa", sum := "785a8955696bdf968a6e9f341dfdf2f10aa03a9fc0188e7d4d6ff07a18f20925", func := "loop.example/g01286/laws.FnExactOrderText", spec := "fnExactOrderText", recurses := true, apart := false }
def FnExactOrderTextSaid : Prop := fnExactOrderTextRow.holds Try.pinned (OpenSpec.ofChange fnExactOrderTextSpec)

/-- ITS FALSE NEIGHBOUR: 'it returns false'. Refute it at one input. -/
def fnExactOrderTextWrong : ChangeSpec := { name := "fnExactOrderText", fn := fun _ => fun
  | [d] => { results := [.lit (.bool false)], args := [d] }
  | _ => none }
def FnExactOrderTextWrongFalsely : Prop := fnExactOrderTextRow.holds Try.pinned (OpenSpec.ofChange fnExactOrderTextWrong)

/-- 'laws.FnExactParseOrder': WHATEVER THE INPUT: true; the input reads as it did. -/
def fnExactParseOrderSpec : ChangeSpec := { name := "fnExactParseOrder", fn := fun _ => fun
  | [d] => { results := [.lit (.bool true)], args := [d] }
  | _ => none }
def fnExactParseOrderRow : OpenClaim := { program := "ytefiehdfgidgmaa", sum := "785a8955696bdf968a6e9f341dfdf2f10aa03a9fc0188e7d4d6ff07a18f20925", func := "loop.example/g01286/laws.FnExactParseOrder", spec := "fnExactParseOrder", apart := false }
def FnExactParseOrderSaid : Prop := fnExactParseOrderRow.holds Try.pinned (OpenSpec.ofChange fnExactParseOrderSpec)

/-- ITS FALSE NEIGHBOUR: 'it returns false'. Refute it at one input. -/
def fnExactParseOrderWrong : ChangeSpec := { name := "fnExactParseOrder", fn := fun _ => fun
  | [d] => { results := [.lit (.bool false)], args := [d] }
  | _ => none }
def FnExactParseOrderWrongFalsely : Prop := fnExactParseOrderRow.holds Try.pinned (OpenSpec.ofChange fnExactParseOrderWrong)

/- THE SECOND FORM. 'bulk': how many values and letters a reading holds, each counted each time it is reached (what is shared counts as often as it is met; a slice's spare places count too). A statement '..UptoSaid' is the law's where the arguments, and the package variables that the reading takes, are together of bulk at most 1048576: NARROWER than '..Said'. Prove '..Said' where nothing that the law and all that it calls make is longer than what came in: it says more and counts as full. Else prove '..UptoSaid'. A law counts once. -/
mutual
def uptoBulk {H : Type} : DataW H → Nat
  | .lit (.string bytes) => bytes.length + 1
  | .lit _ => 1
  | .nil => 1
  | .ptr d => uptoBulk d + 1
  | .slice elems spare => uptoBulkAll elems + uptoBulkAll spare + 1
  | .agg parts => uptoBulkAll parts + 1
  | .iface _ d => uptoBulk d + 1
  | .map entries => uptoBulkEntries entries + 1
  | .held _ => 1
def uptoBulkAll {H : Type} : List (DataW H) → Nat
  | [] => 0
  | d :: r => uptoBulk d + uptoBulkAll r
def uptoBulkEntries {H : Type} : List (Lit × DataW H) → Nat
  | [] => 0
  | x :: r => uptoBulkEntry x + uptoBulkEntries r
def uptoBulkEntry {H : Type} : Lit × DataW H → Nat
  | (.string bytes, d) => bytes.length + uptoBulk d + 1
  | (_, d) => uptoBulk d + 1
 end
def uptoSmall : (H : Type) → List (DataW H) → Bool := fun _ ds => decide (uptoBulkAll ds ≤ 1048576)
def OpenSpec.upto (s : _root_.Go.ChangeSpec) : _root_.Go.OpenSpec := { _root_.Go.OpenSpec.ofChange s with cond := some uptoSmall }

/-- 'laws.FnOrders', WHERE WHAT IT READS IS OF BULK AT MOST 1048576: true; the input reads as it did. -/
def fnOrdersUptoRow : OpenClaim := { program := "ytefiehdfgidgmaa", sum := "785a8955696bdf968a6e9f341dfdf2f10aa03a9fc0188e7d4d6ff07a18f20925", func := "loop.example/g01286/laws.FnOrders", spec := "fnOrders", recurses := true, apart := false, narrowed := true }
def FnOrdersUptoSaid : Prop := fnOrdersUptoRow.holds Try.pinned (OpenSpec.upto fnOrdersSpec)

/-- 'laws.FnExactIsOrder', WHERE WHAT IT READS IS OF BULK AT MOST 1048576: true; the input reads as it did. -/
def fnExactIsOrderUptoRow : OpenClaim := { program := "ytefiehdfgidgmaa", sum := "785a8955696bdf968a6e9f341dfdf2f10aa03a9fc0188e7d4d6ff07a18f20925", func := "loop.example/g01286/laws.FnExactIsOrder", spec := "fnExactIsOrder", apart := false, narrowed := true }
def FnExactIsOrderUptoSaid : Prop := fnExactIsOrderUptoRow.holds Try.pinned (OpenSpec.upto fnExactIsOrderSpec)

/-- 'laws.FnExactBackOrder', WHERE WHAT IT READS IS OF BULK AT MOST 1048576: true; the input reads as it did. -/
def fnExactBackOrderUptoRow : OpenClaim := { program := "ytefiehdfgidgmaa", sum := "785a8955696bdf968a6e9f341dfdf2f10aa03a9fc0188e7d4d6ff07a18f20925", func := "loop.example/g01286/laws.FnExactBackOrder", spec := "fnExactBackOrder", apart := false, narrowed := true }
def FnExactBackOrderUptoSaid : Prop := fnExactBackOrderUptoRow.holds Try.pinned (OpenSpec.upto fnExactBackOrderSpec)

/-- 'laws.FnExactOtherOrder', WHERE WHAT IT READS IS OF BULK AT MOST 1048576: true; the input reads as it did. -/
def fnExactOtherOrderUptoRow : OpenClaim := { program := "ytefiehdfgidgmaa", sum := "785a8955696bdf968a6e9f341dfdf2f10aa03a9fc0188e7d4d6ff07a18f20925", func := "loop.example/g01286/laws.FnExactOtherOrder", spec := "fnExactOtherOrder", apart := false, narrowed := true }
def FnExactOtherOrderUptoSaid : Prop := fnExactOtherOrderUptoRow.holds Try.pinned (OpenSpec.upto fnExactOtherOrderSpec)

/-- 'laws.FnExactInverseOrder', WHERE WHAT IT READS IS OF BULK AT MOST 1048576: true; the input reads as it did. -/
def fnExactInverseOrderUptoRow : OpenClaim := { program := "ytefiehdfgidgmaa", sum := "785a8955696bdf968a6e9f341dfdf2f10aa03a9fc0188e7d4d6ff07a18f20925", func := "loop.example/g01286/laws.FnExactInverseOrder", spec := "fnExactInverseOrder", apart := false, narrowed := true }
def FnExactInverseOrderUptoSaid : Prop := fnExactInverseOrderUptoRow.holds Try.pinned (OpenSpec.upto fnExactInverseOrderSpec)

/-- 'laws.FnExactComposeOrders', WHERE WHAT IT READS IS OF BULK AT MOST 1048576: true; the input reads as it did. -/
def fnExactComposeOrdersUptoRow : OpenClaim := { program := "ytefiehdfgidgmaa", sum := "785a8955696bdf968a6e9f341dfdf2f10aa03a9fc0188e7d4d6ff07a18f20925", func := "loop.example/g01286/laws.FnExactComposeOrders", spec := "fnExactComposeOrders", apart := false, narrowed := true }
def FnExactComposeOrdersUptoSaid : Prop := fnExactComposeOrdersUptoRow.holds Try.pinned (OpenSpec.upto fnExactComposeOrdersSpec)

/-- 'laws.FnExactRankOfOrder', WHERE WHAT IT READS IS OF BULK AT MOST 1048576: true; the input reads as it did. -/
def fnExactRankOfOrderUptoRow : OpenClaim := { program := "ytefiehdfgidgmaa", sum := "785a8955696bdf968a6e9f341dfdf2f10aa03a9fc0188e7d4d6ff07a18f20925", func := "loop.example/g01286/laws.FnExactRankOfOrder", spec := "fnExactRankOfOrder", apart := false, narrowed := true }
def FnExactRankOfOrderUptoSaid : Prop := fnExactRankOfOrderUptoRow.holds Try.pinned (OpenSpec.upto fnExactRankOfOrderSpec)

/-- 'laws.FnExactOrderAt', WHERE WHAT IT READS IS OF BULK AT MOST 1048576: true; the input reads as it did. -/
def fnExactOrderAtUptoRow : OpenClaim := { program := "ytefiehdfgidgmaa", sum := "785a8955696bdf968a6e9f341dfdf2f10aa03a9fc0188e7d4d6ff07a18f20925", func := "loop.example/g01286/laws.FnExactOrderAt", spec := "fnExactOrderAt", apart := false, narrowed := true }
def FnExactOrderAtUptoSaid : Prop := fnExactOrderAtUptoRow.holds Try.pinned (OpenSpec.upto fnExactOrderAtSpec)

/-- 'laws.FnExactCountInversions', WHERE WHAT IT READS IS OF BULK AT MOST 1048576: true; the input reads as it did. -/
def fnExactCountInversionsUptoRow : OpenClaim := { program := "ytefiehdfgidgmaa", sum := "785a8955696bdf968a6e9f341dfdf2f10aa03a9fc0188e7d4d6ff07a18f20925", func := "loop.example/g01286/laws.FnExactCountInversions", spec := "fnExactCountInversions", apart := false, narrowed := true }
def FnExactCountInversionsUptoSaid : Prop := fnExactCountInversionsUptoRow.holds Try.pinned (OpenSpec.upto fnExactCountInversionsSpec)

/-- 'laws.FnExactOrderText', WHERE WHAT IT READS IS OF BULK AT MOST 1048576: true; the input reads as it did. -/
def fnExactOrderTextUptoRow : OpenClaim := { program := "ytefiehdfgidgmaa", sum := "785a8955696bdf968a6e9f341dfdf2f10aa03a9fc0188e7d4d6ff07a18f20925", func := "loop.example/g01286/laws.FnExactOrderText", spec := "fnExactOrderText", recurses := true, apart := false, narrowed := true }
def FnExactOrderTextUptoSaid : Prop := fnExactOrderTextUptoRow.holds Try.pinned (OpenSpec.upto fnExactOrderTextSpec)

/-- 'laws.FnExactParseOrder', WHERE WHAT IT READS IS OF BULK AT MOST 1048576: true; the input reads as it did. -/
def fnExactParseOrderUptoRow : OpenClaim := { program := "ytefiehdfgidgmaa", sum := "785a8955696bdf968a6e9f341dfdf2f10aa03a9fc0188e7d4d6ff07a18f20925", func := "loop.example/g01286/laws.FnExactParseOrder", spec := "fnExactParseOrder", apart := false, narrowed := true }
def FnExactParseOrderUptoSaid : Prop := fnExactParseOrderUptoRow.holds Try.pinned (OpenSpec.upto fnExactParseOrderSpec)

end Rows
end Go.Proofs.Ytefiehdfgidgmaa
