/-
  Contract of the law's own test for codes that are too long. Conditions: none.
-/
import Derived.Test.YteiocoahllnoeaaDoorExact
import Derived.Test.YteiocoahllnoeaaDoorOrder
import Derived.Lib.Hide
namespace Go.Proofs.YteiocoahllnoeaaDoor.RBigC
open Go.RowKit SeesC IntsC ExactC OrdMath OrderC

set_option maxRecDepth 100000 in
theorem rBig_of (w : World) (a : Option Addr) (n cap : Nat) (r : Bool) (h : decide ((65536 : Int) < (n : Int)) = r) :
    Calls Tryd.prog 10 #[.slice a n cap] w fun e w' => e = .returned (.bool r) ∧ w = w' := by
  have H := Go.Lib.hid h
  clear h
  go_enter Tryd.func10, Tryd.ntmps10
  go_wp2
  go_ret
  exact ⟨by rw [← H.out]; rfl, rfl⟩

theorem byte_bd {zs : List Int} (h : ∀ z ∈ zs, (Lit.int .u8 z).wf = true) : ∀ z ∈ zs, 0 ≤ z ∧ z ≤ 255 := fun z hz => by
  have := h z hz
  have e1 : IntKind.u8.min = 0 := rfl
  have e2 : IntKind.u8.max = 255 := rfl
  simpa [Lit.wf, e1, e2] using this

end Go.Proofs.YteiocoahllnoeaaDoor.RBigC
