/-
  The kit's contract of slices.IsSorted at integers, laid by the kit's own command at this translation.
-/
import Derived.Shelf.SlSorted.IsSorted
import Derived.Shelf.Lay
import Derived.Ground.SlsoProg
import Derived.Test.YtnhhnffolmgceaaProg

namespace Go.Proofs
open Go.Shelf Go.RowKit Go.Lib Go.Sort
shelf_lay_g SlLaysO.n10 Slso 10 at Try 92 as Try.laysIS
end Go.Proofs
