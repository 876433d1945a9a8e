/-
  Contracts: IsOrder of the model and of the program, in the form that the law's walk takes. Conditions: the list can be read and has at most 2^20 numbers.
-/
import Derived.Test.YtecbfoodkcgehabOrder
namespace Go.Proofs.Ytecbfoodkcgehab.IsOrderC
open Go.RowKit SeesC IntsC ExactC OrdMath OrderC

theorem implIsOrder (zs : List Int) (b : Bool) (h : isOrd zs = b) (hz : zs.length ≤ 1048576) (W : World) (v : Value) (n : Nat) (hv : Sees W v n (vals zs)) :
    Calls Try.prog 35 #[v] W fun e w' => ValTo W e w' (.bool b) :=
  implOrder_any W v n zs b hv (by have := hv.1; simp at this; omega) h

end Go.Proofs.Ytecbfoodkcgehab.IsOrderC
