/-
  Contract: the model tells whether the places of a sharing fit. Conditions: no more places than the list has numbers, at most 2^20.
-/
import Derived.Test.YteiocoahllnoeabConf
import Derived.Test.YteiocoahllnoeabLists
namespace Go.Proofs.Yteiocoahllnoeab.FitsC
open Go.RowKit SeesC IntsC ExactC OrdMath BesM ConfC ListsC
set_option linter.unusedVariables false

end Go.Proofs.Yteiocoahllnoeab.FitsC
