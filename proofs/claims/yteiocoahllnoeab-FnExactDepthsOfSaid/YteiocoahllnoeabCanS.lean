/-
  Contract: the model's l7Can, by recursion, and l7Fewest: whether stacks are enough, and how few are. Conditions: at most 7 numbers, at most 7 stacks.
-/
import Derived.Test.YteiocoahllnoeabFits
import Derived.Test.YteiocoahllnoeabOwn1
import Derived.Test.YteiocoahllnoeabSame
import Derived.Test.YteiocoahllnoeabAppendTwo
import Derived.Test.YteiocoahllnoeabWord
import Derived.Test.YteiocoahllnoeabGoS
namespace Go.Proofs.Yteiocoahllnoeab.CanSC
open Go.RowKit SeesC IntsC ExactC OrdMath BesM ConfC FitsC ListsC Own1C SameC AppendTwoC WordC GoSC
set_option linter.unusedVariables false

def canB (zs : List Int) (k d : Nat) (so : List Int) (u x : Nat) : Bool := (List.range x).any fun (y : Nat) => okN zs so (y : Int) && canG zs k d (so ++ [(y : Int)]) (max u (y + 1))

theorem canB_next (zs : List Int) (k d : Nat) (so : List Int) (u x : Nat) : canB zs k d so u (x + 1) = (canB zs k d so u x || (okN zs so (x : Int) && canG zs k d (so ++ [(x : Int)]) (max u (x + 1)))) := by
  unfold canB
  rw [List.range_succ, List.any_append]
  simp

theorem canB_mono {zs : List Int} {k d : Nat} {so : List Int} {u x y : Nat} (h : x ≤ y) (hx : canB zs k d so u x = true) : canB zs k d so u y = true := by
  unfold canB at *
  rw [List.any_eq_true] at *
  obtain ⟨z, hz, h2⟩ := hx
  exact ⟨z, List.mem_range.2 (by have := List.mem_range.1 hz; omega), h2⟩

theorem sees_empty (W : World) : Sees (W.alloc (.cells #[] 3)) (.slice (some ⟨W.heap.size, 0, none⟩) 0 0) 0 (vals []) :=
  Sees.owns (World.ownsRow_made (base := W.heap.size) (e := 3) (size := 1) W #[] 0 (Nat.le_refl _) (by unfold maxLen; omega) rfl)

end Go.Proofs.Yteiocoahllnoeab.CanSC
