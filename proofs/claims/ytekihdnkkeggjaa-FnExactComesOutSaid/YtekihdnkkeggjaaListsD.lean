/-
  Contract: no list, no mark. Conditions: none.
-/
import Derived.Test.YtekihdnkkeggjaaLists
namespace Go.Proofs.Ytekihdnkkeggjaa.ListsDC
open Go.RowKit SeesC IntsC ExactC ListsC

end Go.Proofs.Ytekihdnkkeggjaa.ListsDC
