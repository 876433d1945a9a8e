/-
  The kit's contract of slices.BinarySearchFunc, laid by the kit's own command at this translation.
-/
import Derived.Shelf.SlCmpFuncs.BinarySearchFunc
import Derived.Shelf.Lay
import Derived.Ground.SlsgProg
import Derived.Test.YtecbfoodkcgehaaProg
namespace Go.Proofs
open Go.Shelf Go.RowKit Go.Lib Go.Sort
shelf_lay_g SlLaysG2.n14 Slsg 14 at Try 92 as Try.searchLL
end Go.Proofs
