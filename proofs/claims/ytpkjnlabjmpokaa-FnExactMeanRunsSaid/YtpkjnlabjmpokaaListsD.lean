/-
  Contract: no list, no mark. Conditions: none.
-/
import Derived.Test.YtpkjnlabjmpokaaLists
namespace Go.Proofs.Ytpkjnlabjmpokaa.ListsDC
open Go.RowKit SeesC IntsC ExactC ListsC

end Go.Proofs.Ytpkjnlabjmpokaa.ListsDC
