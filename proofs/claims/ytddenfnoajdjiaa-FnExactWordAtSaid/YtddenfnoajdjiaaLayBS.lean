/-
  The kit's contract of slices.BinarySearch at texts, laid by the kit's own command at this translation.
-/
import Derived.Shelf.Spec.SearchS
import Derived.Shelf.Lay
import Derived.Ground.Names2Prog
import Derived.Test.YtddenfnoajdjiaaProg
namespace Go.Proofs
open Go.Shelf Go.RowKit Go.Lib
shelf_lay Lays2.n26 Nm2 26 at Try as Try.laysBS
end Go.Proofs
