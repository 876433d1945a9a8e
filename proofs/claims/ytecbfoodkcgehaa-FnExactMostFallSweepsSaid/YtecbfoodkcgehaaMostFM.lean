/-
  The mathematics of MostFallSweeps: the first order with the most fall sweeps, gone through one by one. Conditions: none. Plain facts.
-/
import Derived.Test.YtecbfoodkcgehaaOrdersIter
import Derived.Test.YtecbfoodkcgehaaFSortM
namespace Go.Proofs.Ytecbfoodkcgehaa.MostFM
open OrdMath OrdFacts PatMath AvMath OrdersIterC CutsM FSortM

theorem firstF_le (zs : List Int) : ∀ f k, firstF zs f k ≤ k + f
  | 0, k => Nat.le_refl _
  | f + 1, k => by
    unfold firstF
    split
    · omega
    · have := firstF_le zs f (k + 1); omega

theorem manyF_le {zs : List Int} (h : zs.length ≤ 7) : manyF zs ≤ 7 := by
  have := firstF_le zs (zs.length - 1) 0
  unfold manyF
  omega

def betterF (s : List Int × Int) (x : List Int) : List Int × Int := if s.2 < ((manyF x : Nat) : Int) then (x, ((manyF x : Nat) : Int)) else s

def mostFs (l : List (List Int)) : List Int × Int := l.foldl betterF ([], -1)

theorem mostFs_snoc (l : List (List Int)) (x : List Int) : mostFs (l ++ [x]) = betterF (mostFs l) x := by simp [mostFs, List.foldl_append]

theorem foldF_range : ∀ (l : List (List Int)) (s : List Int × Int), -1 ≤ s.2 → s.2 ≤ 7 → (∀ x ∈ l, x.length ≤ 7) → -1 ≤ (l.foldl betterF s).2 ∧ (l.foldl betterF s).2 ≤ 7
  | [], _, h1, h2, _ => ⟨h1, h2⟩
  | x :: l, s, h1, h2, hl => by
    have h3 := manyF_le (hl x (by simp))
    rw [List.foldl_cons]
    refine foldF_range l _ ?_ ?_ (fun y hy => hl y (by simp [hy]))
    · unfold betterF; split
      · simp only; omega
      · exact h1
    · unfold betterF; split
      · simp only; omega
      · exact h2

theorem mostFs_range (l : List (List Int)) (hl : ∀ x ∈ l, x.length ≤ 7) : -1 ≤ (mostFs l).2 ∧ (mostFs l).2 ≤ 7 :=
  foldF_range l _ (by simp) (by simp) hl

def mostFAns (n : Int) : List Int × Int × Bool := if 1 ≤ n ∧ n ≤ 6 then ((mostFs (allOrd n.toNat)).1, (mostFs (allOrd n.toNat)).2, true) else ([], 0, false)

theorem mostFs_len {l : List (List Int)} {m : Nat} (h : ∀ x ∈ l, x.length ≤ m) : (mostFs l).1.length ≤ m := by
  have key : ∀ (l : List (List Int)) (s : List Int × Int), s.1.length ≤ m → (∀ x ∈ l, x.length ≤ m) → (l.foldl betterF s).1.length ≤ m := by
    intro l
    induction l with
    | nil => intro s h _; exact h
    | cons x t ih =>
      intro s hs hl
      rw [List.foldl_cons]
      refine ih _ ?_ (fun y hy => hl y (by simp [hy]))
      unfold betterF
      split
      · exact hl x (by simp)
      · exact hs
  exact key l _ (by simp) h

theorem mostF_alen {n : Int} {xs : List Int} {r : Int} {b : Bool} (h : mostFAns n = (xs, r, b)) : xs.length ≤ 1048576 := by
  unfold mostFAns at h
  split at h
  · rename_i ho
    have h1 := mostFs_len (l := allOrd n.toNat) (m := 7) (fun x hx => by have h2 := ((mem_allOrd (n := n.toNat) (by omega) (by omega)).1 hx).1; omega)
    cases h
    omega
  · cases h; simp

end Go.Proofs.Ytecbfoodkcgehaa.MostFM
