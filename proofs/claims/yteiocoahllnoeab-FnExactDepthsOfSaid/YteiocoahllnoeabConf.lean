/-
  Contract: the model tells whether two places of a list are in conflict. Conditions: places of the list, of at most 2^20 numbers.
-/
import Derived.Test.YteiocoahllnoeabBesM
import Derived.Test.YteiocoahllnoeabExact
namespace Go.Proofs.Yteiocoahllnoeab.ConfC
open Go.RowKit SeesC IntsC ExactC OrdMath BesM
set_option linter.unusedVariables false

theorem any_step {zs : List Int} {k : Nat} {x z : Int} (hk : k < zs.length) (hz : zs.getD k 0 = z) : (zs.drop k).any (fun y => decide (y < x)) = (decide (z < x) || (zs.drop (k + 1)).any (fun y => decide (y < x))) := by
  have e : zs[k] = z := by rw [← hz]; simp [hk]
  rw [List.drop_eq_getElem_cons hk, e]
  rfl

end Go.Proofs.Yteiocoahllnoeab.ConfC
