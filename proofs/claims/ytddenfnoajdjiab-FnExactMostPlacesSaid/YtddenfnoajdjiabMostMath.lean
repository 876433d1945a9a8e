/-
  The mathematics of MostPlaces: the first order with the most places, gone through one by one. Conditions: none. Plain facts.
-/
import Derived.Test.YtddenfnoajdjiabOrdersIter
namespace Go.Proofs.Ytddenfnoajdjiab.MostMath
open OrdMath OrdFacts PatMath AvMath OrdersIterC

def better (p : List Int) (s : List Int × Int) (x : List Int) : List Int × Int := if s.2 < ((placesOf x p).length : Int) then (x, ((placesOf x p).length : Int)) else s

def mostOf (p : List Int) (l : List (List Int)) : List Int × Int := l.foldl (better p) ([], -1)

theorem mostOf_snoc (p : List Int) (l : List (List Int)) (x : List Int) : mostOf p (l ++ [x]) = better p (mostOf p l) x := by simp [mostOf, List.foldl_append]

theorem mostTo_take (n : Nat) (p : List Int) : ∀ k, k ≤ fact n → mostTo n p k = mostOf p ((allOrd n).take k) := by
  intro k
  induction k with
  | zero => intro _; simp [mostTo, mostOf]
  | succ k ih =>
    intro hk
    rw [all_take (by omega), mostOf_snoc, ← ih (by omega)]
    rfl

theorem mostTo_all (n : Nat) (p : List Int) : mostTo n p (fact n) = mostOf p (allOrd n) := by
  rw [mostTo_take n p (fact n) (Nat.le_refl _), List.take_of_length_le (by rw [allOrd_len]; exact Nat.le_refl _)]

theorem fold_range (p : List Int) (hp : Ord p) : ∀ (l : List (List Int)) (s : List Int × Int), -1 ≤ s.2 → s.2 ≤ 823543 → (∀ x ∈ l, x.length ≤ 7) → -1 ≤ (l.foldl (better p) s).2 ∧ (l.foldl (better p) s).2 ≤ 823543
  | [], _, h1, h2, _ => ⟨h1, h2⟩
  | x :: l, s, h1, h2, hl => by
    have h3 : (placesOf x p).length ≤ 823543 := Nat.le_trans (List.length_filter_le _ _) (ch_823543 (hl x (by simp)) hp.2.1)
    rw [List.foldl_cons]
    refine fold_range p hp l _ ?_ ?_ (fun y hy => hl y (by simp [hy]))
    · unfold better; split
      · simp only; omega
      · exact h1
    · unfold better; split
      · simp only; omega
      · exact h2

theorem mostOf_range (p : List Int) (l : List (List Int)) (hl : ∀ x ∈ l, x.length ≤ 7) (hp : Ord p) : -1 ≤ (mostOf p l).2 ∧ (mostOf p l).2 ≤ 823543 :=
  fold_range p hp l _ (by simp) (by simp) hl

end Go.Proofs.Ytddenfnoajdjiab.MostMath
