/-
  Contract: no list, no mark. Conditions: none.
-/
import Derived.Test.YteiocoahllnoeabLists
namespace Go.Proofs.Yteiocoahllnoeab.ListsDC
open Go.RowKit SeesC IntsC ExactC ListsC

end Go.Proofs.Yteiocoahllnoeab.ListsDC
