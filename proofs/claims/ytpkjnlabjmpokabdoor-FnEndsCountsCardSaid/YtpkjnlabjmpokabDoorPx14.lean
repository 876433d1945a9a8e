/-
  What unicode/utf8's two tables give a walk, and a world in which they lie as the library's text lays them. Conditions: none.
-/
import Derived.Test.YtpkjnlabjmpokabDoorRows
import Derived.Test.YtpkjnlabjmpokabDoorPx0
import Derived.Test.YtpkjnlabjmpokabDoorPx1
import Derived.Lib.LaidU8T
import Derived.Lib.LaidIn
import Derived.Deep.DeepHandedRow

namespace Go.Proofs.YtpkjnlabjmpokabDoor.LaidC
open Go.ChangeShapes Go.WideShapes Go.ChangeAt Go.RowKit Go.Shelf

/-- The tables lie. -/
def Tab (w : World) : Prop := Lib.Utf8Tabs 1 2 w

theorem Tab.grow {w w' : World} (h : Tab w) (hb : Below w.heap.size w w') : Tab w' := Utf8Tabs_below h hb

theorem types : U8Types Tryd.prog Tryd.lays230_ren := { Tryd.lays230 with }

set_option maxRecDepth 1000000 in
theorem accept_is : (Rows.laid_unicode_utf8_acceptRanges : DataW Unit) = Lib.acceptData := by kernel_rfl
set_option maxRecDepth 1000000 in
theorem first_is : (Rows.laid_unicode_utf8_first : DataW Unit) = Lib.firstData := by kernel_rfl

theorem tab_of {W : World} (h : laidMet Tryd.prog [("unicode/utf8.acceptRanges", Rows.laid_unicode_utf8_acceptRanges), ("unicode/utf8.first", Rows.laid_unicode_utf8_first)] W) : Tab W := by
  rw [accept_is, first_is] at h
  exact utf8Tabs_of_readsT (ρ := Tryd.lays230_ren) types ⟨by kernel_rfl, by kernel_rfl, by kernel_rfl, by kernel_rfl, by kernel_rfl, by kernel_rfl, by kernel_rfl⟩ (Lib.laidMet.reads h (.tail _ (.head _))) (Lib.laidMet.reads h (.head _))

def setRow (cs : Array Value) : Obj → Obj
  | .cells _ t frozen => .cells cs t frozen
  | o => o

/-- A world in which they lie so. -/
noncomputable def laidWorld (os : Os) : World :=
  let w0 := World.holding Tryd.prog os ⟨#[], #[], []⟩
  { w0 with heap := (w0.heap.modify 1 (setRow (Lib.firstTab.map fun z => Value.int .u8 z).toArray)).modify 2 (setRow ((List.range 16).flatMap fun i => [Value.int .u8 (Lib.accLo i), Value.int .u8 (Lib.accHi i)]).toArray) }

end Go.Proofs.YtpkjnlabjmpokabDoor.LaidC
