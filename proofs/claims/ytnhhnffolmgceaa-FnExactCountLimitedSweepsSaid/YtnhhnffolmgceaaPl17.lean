/-
  Contracts: how many orders there are of so many numbers, how many numbers behind a place are less, the rank of an order and its inversions. Conditions: at most 7 numbers where orders are counted; lists of at most 2^20 numbers.
-/
import Derived.Test.YtnhhnffolmgceaaPl12

namespace Go.Proofs.Ytnhhnffolmgceaa.RankC
open Go.RowKit SeesC IntsC ExactC OrdMath OrderC 

end Go.Proofs.Ytnhhnffolmgceaa.RankC
