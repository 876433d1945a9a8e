/-
  The kit's contract of slices.SortFunc, laid by the kit's own command at this translation.
-/
import Derived.Shelf.SlSortCmp.Whole1
import Derived.Shelf.Lay
import Derived.Ground.SlsfProg
import Derived.Test.YtmnggcnipjdimabProg
namespace Go.Proofs
open Go.Shelf Go.RowKit Go.Lib Go.Sort
shelf_lay_g SlLaysF.n6 Slsf 6 at Try 64 as Try.sortLL
end Go.Proofs
