/-
  Contracts: IsOrder of the model and of the program, in the form that the law's walk takes. Conditions: the list can be read and has at most 2^20 numbers.
-/
import Derived.Test.YtefiehdfgidgmaaOrder
namespace Go.Proofs.Ytefiehdfgidgmaa.IsOrderC
open Go.RowKit SeesC IntsC ExactC OrdMath OrderC

theorem specIsOrder (zs : List Int) (b : Bool) (h : isOrd zs = b) (hz : zs.length ≤ 1048576) (W : World) (v : Value) (n : Nat) (hv : Sees W v n (vals zs)) :
    Calls Try.prog 40 #[v] W fun e w' => ValTo W e w' (.bool b) := by
  have hn : n ≤ 1048576 := by have := hv.1; simp at this; omega
  have CO := Go.Lib.hid (l2Order_any W v n zs b hv hn h)
  clear hv h
  go_enter Try.func40, Try.ntmps40
  go_wp2_with fail
  refine CO.out.mono ?_
  rintro e w1 ⟨rfl, hd⟩
  go_wp2_with fail
  go_ret
  exact ⟨rfl, hd.below _⟩

theorem implIsOrder (zs : List Int) (b : Bool) (h : isOrd zs = b) (hz : zs.length ≤ 1048576) (W : World) (v : Value) (n : Nat) (hv : Sees W v n (vals zs)) :
    Calls Try.prog 18 #[v] W fun e w' => ValTo W e w' (.bool b) :=
  implOrder_any W v n zs b hv (by have := hv.1; simp at this; omega) h

end Go.Proofs.Ytefiehdfgidgmaa.IsOrderC
