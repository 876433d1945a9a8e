/-
  Contract: the model tells whether a number lies between two others. Conditions: none.
-/
import Derived.Test.YtpkjnlabjmpokaaExact
namespace Go.Proofs.Ytpkjnlabjmpokaa.InC
open Go.RowKit SeesC IntsC ExactC

set_option maxRecDepth 100000 in
theorem l1In_yes (x a b : Int) (w : World) (h1 : a ≤ x) (h2 : x ≤ b) :
    Calls Try.prog 71 #[.int .i64 x, .int .i64 a, .int .i64 b] w fun e w' => e = .returned (.bool true) ∧ w = w' := by
  go_enter Try.func71, Try.ntmps71
  go_wp2
  go_ret
  exact ⟨rfl, rfl⟩

set_option maxRecDepth 100000 in
theorem l1In_low (x a b : Int) (w : World) (h1 : ¬ a ≤ x) :
    Calls Try.prog 71 #[.int .i64 x, .int .i64 a, .int .i64 b] w fun e w' => e = .returned (.bool false) ∧ w = w' := by
  go_enter Try.func71, Try.ntmps71
  go_wp2
  go_ret
  exact ⟨rfl, rfl⟩

set_option maxRecDepth 100000 in
theorem l1In_high (x a b : Int) (w : World) (h1 : a ≤ x) (h2 : ¬ x ≤ b) :
    Calls Try.prog 71 #[.int .i64 x, .int .i64 a, .int .i64 b] w fun e w' => e = .returned (.bool false) ∧ w = w' := by
  go_enter Try.func71, Try.ntmps71
  go_wp2
  go_ret
  exact ⟨rfl, rfl⟩

theorem l1In_any (x a b : Int) (w : World) (r : Bool) (h : decide (a ≤ x ∧ x ≤ b) = r) :
    Calls Try.prog 71 #[.int .i64 x, .int .i64 a, .int .i64 b] w fun e w' => e = .returned (.bool r) ∧ w = w' := by
  subst h
  by_cases h1 : a ≤ x
  · by_cases h2 : x ≤ b
    · rw [decide_eq_true ⟨h1, h2⟩]; exact l1In_yes x a b w h1 h2
    · rw [decide_eq_false (fun h => h2 h.2)]; exact l1In_high x a b w h1 h2
  · rw [decide_eq_false (fun h => h1 h.1)]; exact l1In_low x a b w h1

end Go.Proofs.Ytpkjnlabjmpokaa.InC
