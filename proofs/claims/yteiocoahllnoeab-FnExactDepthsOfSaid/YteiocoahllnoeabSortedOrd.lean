/-
  Contract: the program's sorted order. Conditions: at most seven numbers.
-/
import Derived.Test.YteiocoahllnoeabAt
import Derived.WalkSmall
namespace Go.Proofs.Yteiocoahllnoeab.SortedOrdC
open Go.RowKit SeesC IntsC ExactC OrdMath InC OrderC RankC IterC AtC

end Go.Proofs.Yteiocoahllnoeab.SortedOrdC
