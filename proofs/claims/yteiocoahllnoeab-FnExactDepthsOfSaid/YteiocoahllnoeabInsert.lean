/-
  Contracts: the model and the program put a last number behind an order. Conditions: the list can be read and has at most 2^20 numbers.
-/
import Derived.Test.YteiocoahllnoeabShape
namespace Go.Proofs.Yteiocoahllnoeab.InsertC
open Go.RowKit SeesC IntsC ExactC OrdMath InC OrderC PatMath ShapeC

/-- The number behind an insertion. -/
def up (k z : Int) : Int := if k ≤ z then z + 1 else z

theorem ins_up (zs : List Int) (k : Int) : ins zs k = zs.map (up k) ++ [k] := rfl

theorem up_at {zs : List Int} {i : Nat} {k z : Int} (h : i < zs.length) (hz : zs.getD i 0 = z) : (zs.map (up k)).getD i 0 = up k z := by
  rw [← hz]; simp [h]

theorem vals_snoc (zs : List Int) (k : Int) : vals (zs ++ [k]) = vals zs ++ [.int .i64 k] := by simp

end Go.Proofs.Yteiocoahllnoeab.InsertC
