/-
  What the listed variables of the library give a walk, and a world in which they lie as the library's text lays them. Conditions: none.
-/
import Derived.Test.YtjebehekhjbijaaDoorRows
import Derived.Test.YtjebehekhjbijaaDoorSees
import Derived.Lib.LaidTab
import Derived.Lib.ItoaNum
import Derived.LaidLaws
import Derived.Stop.LaidErr
import Derived.Deep.DeepHandedRow
namespace Go.Proofs.YtjebehekhjbijaaDoor.LaidC
open Go.ChangeShapes Go.WideShapes Go.ChangeAt Go.RowKit

/-- The library's table of powers of ten. -/
def Tab (w : World) : Prop := Lib.TabIs Tryd.prog w "internal/strconv.uint64pow10" .u64 Lib.pow10Tab

theorem gPow : Tryd.prog.globalNamed "internal/strconv.uint64pow10" = some 3 := by kernel_rfl
theorem gPowType : (Tryd.prog.globals[3]?).map (·.type) = some 80 := by kernel_rfl
theorem cellsPow : Tryd.prog.cellsOf 80 = 20 := by kernel_rfl
theorem cellsU64 : Tryd.prog.cellsOf 35 = 1 := by kernel_rfl

theorem Tab.below {w w' : World} {B : Nat} (h : Tab w) (hb : Below B w w') (hB : 3 < B) : Tab w' := by
  unfold Tab Lib.TabIs at *
  have hk := hb.block 3 hB
  simp only [World.var?, gPow, Option.bind_some] at h ⊢
  rw [hk]
  exact h

theorem Tab.lt {w : World} (h : Tab w) : 3 < w.heap.size :=
  World.block_lt_of_cell? w _ (h.cell gPow 0 (by decide))

theorem tab_of {W : World} {a b : String × DataW Unit} {r : List (String × DataW Unit)} (h : laidMet Tryd.prog (a :: b :: ("internal/strconv.uint64pow10", Rows.laid_internal_strconv_uint64pow10) :: r) W) : Tab W := by
  have h2 := h.tail.tail
  have e : ("internal/strconv.uint64pow10", (Rows.laid_internal_strconv_uint64pow10 : DataW Unit)) = ("internal/strconv.uint64pow10", Lib.tabData .u64 Lib.pow10Tab) := by rfl
  rw [e] at h2
  exact Lib.tabIs_of_head gPow gPowType Tryd.underlying80 Tryd.underlying35 cellsU64 cellsPow h2

def tab32 : List Int := [0, 1, 28, 2, 29, 14, 24, 3, 30, 22, 20, 15, 25, 17, 4, 8, 31, 27, 13, 23, 21, 19, 16, 7, 26, 12, 18, 6, 11, 5, 10, 9]
def tab64 : List Int := [0, 1, 56, 2, 57, 49, 28, 3, 61, 58, 42, 50, 38, 29, 17, 4, 62, 47, 59, 36, 45, 43, 51, 22, 53, 39, 33, 30, 24, 18, 12, 5, 63, 55, 48, 27, 60, 41, 37, 16, 46, 35, 44, 21, 52, 32, 23, 11, 54, 26, 40, 15, 34, 20, 31, 10, 25, 14, 19, 9, 13, 8, 7, 6]
def setRow (cs : Array Value) : Obj → Obj
  | .cells _ t frozen => .cells cs t frozen
  | o => o

/-- A world in which they lie so. -/
noncomputable def tabWorld (w : World) : World :=
  { w with heap := ((w.heap.modify 4 (setRow (tab32.map (Value.int .u8)).toArray)).modify 5 (setRow (tab64.map (Value.int .u8)).toArray)).modify 3 (setRow (Lib.pow10Tab.map (Value.int .u64)).toArray) }
noncomputable def low : Nat := (World.holding Tryd.prog default ⟨#[], #[], []⟩).heap.size
def synS : ByteArray := { data := #[105, 110, 118, 97, 108, 105, 100, 32, 115, 121, 110, 116, 97, 120] }
def rngS : ByteArray := { data := #[118, 97, 108, 117, 101, 32, 111, 117, 116, 32, 111, 102, 32, 114, 97, 110, 103, 101] }
noncomputable def laidWorld (os : Os) : World :=
  let w0 := tabWorld (World.holding Tryd.prog os ⟨#[.cells #[.string synS] 88, .cells #[.string rngS] 88], #[], []⟩)
  { w0 with heap := (w0.heap.modify 0 (setRow #[.iface 86 (.pointer (some ⟨low, 0, none⟩))])).modify 1 (setRow #[.iface 86 (.pointer (some ⟨low + 1, 0, none⟩))]) }

end Go.Proofs.YtjebehekhjbijaaDoor.LaidC
