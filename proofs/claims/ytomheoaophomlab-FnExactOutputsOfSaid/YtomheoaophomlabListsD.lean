/-
  Contract: no list, no mark. Conditions: none.
-/
import Derived.Test.YtomheoaophomlabLists
namespace Go.Proofs.Ytomheoaophomlab.ListsDC
open Go.RowKit SeesC IntsC ExactC ListsC

theorem markIntSS_none (k0 c : Nat) (a : Option Addr) (w : World) :
    Calls Try.prog 11 #[.slice a 0 c, .int .i64 k0] w fun e w' => e = .returned (.int .i64 (k0 : Int)) ∧ w' = w := by
  go_enter Try.func11, Try.ntmps11
  go_wp2
  go_loop [1, 5] (fun kv iv => kv = .int .i64 k0 ∧ iv = .int .i64 0) (fun _ _ => 0)
  case atStart => exact ⟨rfl, rfl⟩
  case round =>
    obtain ⟨rfl, rfl⟩ := hrel
    go_wp2
    go_ret
    exact ⟨rfl, rfl⟩

end Go.Proofs.Ytomheoaophomlab.ListsDC
