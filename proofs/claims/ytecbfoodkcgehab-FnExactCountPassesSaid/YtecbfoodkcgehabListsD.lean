/-
  Contract: no list, no mark. Conditions: none.
-/
import Derived.Test.YtecbfoodkcgehabLists
namespace Go.Proofs.Ytecbfoodkcgehab.ListsDC
open Go.RowKit SeesC IntsC ExactC ListsC

end Go.Proofs.Ytecbfoodkcgehab.ListsDC
