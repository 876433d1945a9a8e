/-
  Contract: the model writes a number as the decimal numeral that the library writes. Conditions: the number is between -999999 and 999999.
-/
import Derived.Test.YtnhhnffolmgceaaPz1
import Derived.Lib.ItoaNum
import Derived.Lib.Hide
import Derived.IntWalk
import Derived.BigQuiet
import Derived.Outline

namespace Go.Proofs.Ytnhhnffolmgceaa.NumC
open Go.RowKit SeesC

/-- A list of bytes as a text. -/
def txt (l : List UInt8) : ByteArray := ⟨l.toArray⟩

theorem txt_list (l : List UInt8) : (txt l).data.toList = l := by simp [txt]
theorem txt_append (a b : List UInt8) : txt a ++ txt b = txt (a ++ b) := by
  unfold txt
  have : ∀ x y : ByteArray, x.data = y.data → x = y := fun x y h => by cases x; cases y; cases h; rfl
  apply this
  simp

theorem digits_len : ∀ u : Nat, (Lib.decDigits u).length ≤ u + 1 := by
  intro u
  induction u using Nat.strongRecOn with
  | _ u ih =>
    by_cases h : u < 10
    · rw [Lib.decDigits_one h]; simp
    · rw [Lib.decDigits, dif_neg h]
      have := ih (u / 10) (by omega)
      rw [List.length_append]
      simp only [List.length_cons, List.length_nil]
      omega

theorem txt_size (l : List UInt8) : (txt l).size = l.length := by show l.toArray.size = _; simp

/-- The digit of the table. -/
theorem digit_at : ∀ d : Fin 10, (ByteArray.extract { data := #[48, 49, 50, 51, 52, 53, 54, 55, 56, 57] } d.val (d.val + 1)) = txt [UInt8.ofNat (48 + d.val)] := by decide +kernel

set_option maxRecDepth 100000 in
theorem slice_digit (u : Nat) (h : u < 10) (W : World) : (Instr.slice 9 (Value.string { data := #[48, 49, 50, 51, 52, 53, 54, 55, 56, 57] }) (some (Value.int IntKind.i64 (u : Int))) (some (Value.int IntKind.i64 ((u : Int) + 1))) none).run Try.prog W = .ok (.string (txt [UInt8.ofNat (48 + u)])) W := by
  have hu : u = 0 ∨ u = 1 ∨ u = 2 ∨ u = 3 ∨ u = 4 ∨ u = 5 ∨ u = 6 ∨ u = 7 ∨ u = 8 ∨ u = 9 := by omega
  rcases hu with rfl | rfl | rfl | rfl | rfl | rfl | rfl | rfl | rfl | rfl
  all_goals first | kernel_rfl | rfl

end Go.Proofs.Ytnhhnffolmgceaa.NumC
