/-
  Contract: no list, no mark. Conditions: none.
-/
import Derived.Test.YteiocoahllnoeaaLists
namespace Go.Proofs.Yteiocoahllnoeaa.ListsDC
open Go.RowKit SeesC IntsC ExactC ListsC

set_option maxRecDepth 100000 in
theorem markIntSS_none (k0 c : Nat) (a : Option Addr) (w : World) :
    Calls Try.prog 21 #[.slice a 0 c, .int .i64 k0] w fun e w' => e = .returned (.int .i64 (k0 : Int)) ∧ w' = w := by
  go_enter Try.func21, Try.ntmps21
  go_wp2
  go_loop [1, 5] (fun kv iv => kv = .int .i64 k0 ∧ iv = .int .i64 0) (fun _ _ => 0)
  case atStart => exact ⟨rfl, rfl⟩
  case round =>
    obtain ⟨rfl, rfl⟩ := hrel
    go_wp2
    go_ret
    exact ⟨rfl, rfl⟩

end Go.Proofs.Yteiocoahllnoeaa.ListsDC
