/-
  Contract: no list, no mark. Conditions: none.
-/
import Derived.Test.YtmnggcnipjdimabLists
namespace Go.Proofs.Ytmnggcnipjdimab.ListsDC
open Go.RowKit SeesC IntsC ExactC ListsC

end Go.Proofs.Ytmnggcnipjdimab.ListsDC
