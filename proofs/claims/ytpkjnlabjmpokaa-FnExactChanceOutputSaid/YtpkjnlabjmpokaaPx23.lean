/-
  Contracts: the program's known leaves out the truth value. Conditions: none.
-/
import Derived.Test.YtpkjnlabjmpokaaPx12

namespace Go.Proofs.Ytpkjnlabjmpokaa.KnownC
open Go.RowKit SeesC IntsC ExactC
set_option linter.unusedVariables false

theorem knownI (r : Int) (b : Bool) (W : World) : Calls Try.prog 86 #[.int .i64 r, .bool b] W fun e w' => e = .returned (.int .i64 r) ∧ w' = W := by
  go_enter Try.func86, Try.ntmps86
  go_wp2
  go_ret
  exact ⟨rfl, rfl⟩

theorem knownB (r : Bool) (b : Bool) (W : World) : Calls Try.prog 64 #[.bool r, .bool b] W fun e w' => e = .returned (.bool r) ∧ w' = W := by
  go_enter Try.func64, Try.ntmps64
  go_wp2
  go_ret
  exact ⟨rfl, rfl⟩

theorem knownL (a : Option Addr) (n c : Nat) (b : Bool) (W : World) : Calls Try.prog 79 #[.slice a n c, .bool b] W fun e w' => e = .returned (.slice a n c) ∧ w' = W := by
  go_enter Try.func79, Try.ntmps79
  go_wp2
  go_ret
  exact ⟨rfl, rfl⟩

theorem knownS (a : Option Addr) (n c : Nat) (b : Bool) (W : World) : Calls Try.prog 103 #[.slice a n c, .bool b] W fun e w' => e = .returned (.slice a n c) ∧ w' = W := by
  go_enter Try.func103, Try.ntmps103
  go_wp2
  go_ret
  exact ⟨rfl, rfl⟩

end Go.Proofs.Ytpkjnlabjmpokaa.KnownC
