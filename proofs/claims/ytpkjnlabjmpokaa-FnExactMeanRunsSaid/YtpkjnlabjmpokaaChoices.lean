/-
  Contract: the model's lists of places, by recursion. Conditions: at most 7 places of 7.
-/
import Derived.Test.YtpkjnlabjmpokaaListsG
import Derived.Test.YtpkjnlabjmpokaaOwn1
import Derived.Test.YtpkjnlabjmpokaaPlaces
namespace Go.Proofs.Ytpkjnlabjmpokaa.ChoicesC
open Go.RowKit SeesC IntsC ExactC OrdMath InC OrderC PatMath ShapeC ListsC ListsEC ListsFC ListsGC PlacesC Own1C IterC

theorem flat_next {α : Type} (g : Nat → List α) (s j : Nat) : (List.range' s (j + 1)).flatMap g = (List.range' s j).flatMap g ++ g (s + j) := by
  rw [range_next, List.flatMap_append]; simp

theorem ch_len_le {n : Nat} (hn : n ≤ 7) : ∀ r b, (ch n r b).length ≤ 7 ^ r
  | 0, b => by simp [ch]
  | r + 1, b => by
    unfold ch
    have h1 := flat_len (g := fun p => ch n r (b ++ [p])) (m := 7 ^ r) (l := List.range' (behind b) (n - behind b)) (fun p _ => ch_len_le hn r (b ++ [p]))
    rw [List.length_range'] at h1
    have h2 : (n - behind b) * 7 ^ r ≤ 7 * 7 ^ r := Nat.mul_le_mul_right _ (by omega)
    rw [Nat.pow_succ]
    omega

end Go.Proofs.Ytpkjnlabjmpokaa.ChoicesC
