/-
  The kit's contract of slices.BinarySearch at texts, laid by the kit's own command at this translation.
-/
import Derived.Shelf.Spec.SearchS
import Derived.Shelf.Lay
import Derived.Ground.Names2Prog
import Derived.Test.YtnhhnffolmgceaaProg

namespace Go.Proofs
open Go.Shelf Go.RowKit Go.Lib
end Go.Proofs
