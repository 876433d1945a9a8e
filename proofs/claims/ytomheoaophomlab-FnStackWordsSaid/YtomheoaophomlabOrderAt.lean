/-
  Contracts: OrderAt of the model and of the program. Conditions: none.
-/
import Derived.Test.YtomheoaophomlabAt
import Derived.WalkSmall
namespace Go.Proofs.Ytomheoaophomlab.OrderAtC
open Go.RowKit SeesC IntsC ExactC OrdMath InC OrderC RankC IterC AtC

end Go.Proofs.Ytomheoaophomlab.OrderAtC
