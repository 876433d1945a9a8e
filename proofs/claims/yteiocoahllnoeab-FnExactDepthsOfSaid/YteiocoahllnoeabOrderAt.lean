/-
  Contracts: OrderAt of the model and of the program. Conditions: none.
-/
import Derived.Test.YteiocoahllnoeabSortedOrd
import Derived.WalkSmall
namespace Go.Proofs.Yteiocoahllnoeab.OrderAtC
open Go.RowKit SeesC IntsC ExactC OrdMath InC OrderC RankC IterC AtC SortedOrdC

end Go.Proofs.Yteiocoahllnoeab.OrderAtC
