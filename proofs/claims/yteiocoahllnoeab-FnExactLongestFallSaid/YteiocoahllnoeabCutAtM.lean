/-
  The mathematics of cuts and their ranks: the cuts with a rank as the program and as the model make them, and that all cuts are among them in ascending order. Conditions: none. Plain facts on lists: nothing of the program.
-/
import Derived.Test.YteiocoahllnoeabCutsM
import Derived.Test.YteiocoahllnoeabCmp
import Derived.Test.YteiocoahllnoeabListsB
namespace Go.Proofs.Yteiocoahllnoeab.CutAtM
open OrdMath OrdFacts CutsM CmpC ListsBC

/-- The program's loop, with so many bits left. -/
def atB (k : Nat) : Nat → List Int → List Int
  | 0, l => l
  | b + 1, l => atB k b (bump (if k / 2 ^ b % 2 = 0 then l ++ [0] else l))

def atC (n k : Nat) : List Int := atB k (n - 1) [1]

/-- The model's inner loop. -/
def inC (n : Nat) : Nat → Nat → Nat → Nat × Nat
  | 0, k, f => (k, f)
  | g + 1, k, f => if f < n ∧ 2 ^ (n - f - 1) ≤ k then inC n g (k - 2 ^ (n - f - 1)) (f + 1) else (k, f)

def atS : Nat → Nat → Nat → List Int
  | 0, _, _ => []
  | g + 1, n, k => if n = 0 then [] else ((inC n n k 1).2 : Int) :: atS g (n - (inC n n k 1).2) (inC n n k 1).1

theorem at_eq : ∀ n, n < 8 → ∀ k, k < 2 ^ (n - 1) → atS n n k = if n = 0 then [] else atC n k := by decide +kernel

/-- All cuts for so many numbers, by their first part. -/
def allF : Nat → Nat → List (List Int)
  | 0, _ => []
  | _ + 1, 0 => [[]]
  | g + 1, n + 1 => (List.range (n + 1)).flatMap fun c => (allF g (n - c)).map fun r => ((c : Int) + 1) :: r

theorem mem_allF : ∀ (g n : Nat) (cs : List Int), n < g → (∀ c ∈ cs, 1 ≤ c) → cs.sum = n → cs ∈ allF g n
  | 0, n, _, h, _, _ => by omega
  | g + 1, 0, [], _, _, _ => by simp [allF]
  | g + 1, 0, c :: r, _, h, hs => by
    have h1 := h c (by simp)
    have h2 := sum_one h (c := c) (by simp)
    omega
  | g + 1, n + 1, [], _, _, hs => by simp at hs; omega
  | g + 1, n + 1, c :: r, hg, h, hs => by
    have h1 := h c (by simp)
    have h2 := sum_ge (cs := r) (fun x hx => h x (by simp [hx]))
    rw [List.sum_cons] at hs
    have h3 := mem_allF g (n - (c - 1).toNat) r (by omega) (fun x hx => h x (by simp [hx])) (by omega)
    unfold allF
    rw [List.mem_flatMap]
    refine ⟨(c - 1).toNat, List.mem_range.2 (by omega), List.mem_map.2 ⟨r, h3, ?_⟩⟩
    rw [show (((c - 1).toNat : Nat) : Int) + 1 = c by omega]

theorem all_eq : ∀ n, n < 8 → 1 ≤ n → allF 8 n = (List.range (2 ^ (n - 1))).map (fun k => atC n k) := by decide +kernel

/-- All cuts for so many numbers, in ascending order. -/
def allC (n : Nat) : List (List Int) := (List.range (2 ^ (n - 1))).map fun k => atC n k

theorem allC_len (n : Nat) : (allC n).length = 2 ^ (n - 1) := by simp [allC]

theorem allC_at {n k : Nat} (hk : k < 2 ^ (n - 1)) : (allC n).getD k [] = atC n k := by
  simp [allC, hk]

theorem cuts_at {n : Nat} {cs : List Int} (h : CutsFor n cs) : ∃ k, k < 2 ^ (n - 1) ∧ atC n k = cs := by
  have h1 := mem_allF 8 n cs (by have := h.2.1; omega) h.2.2.1 h.2.2.2
  rw [all_eq n (by have := h.2.1; omega) (by have := h.1; omega), List.mem_map] at h1
  obtain ⟨k, hk, e⟩ := h1
  exact ⟨k, List.mem_range.1 hk, e⟩

theorem at_cuts : ∀ n : Nat, n < 8 → 1 ≤ n → ∀ k : Nat, k < 2 ^ (n - 1) → CutsFor (n : Int) (atC n k) := by decide +kernel

theorem mem_allC {n : Nat} {cs : List Int} (h1 : 1 ≤ n) (h7 : n ≤ 7) : cs ∈ allC n ↔ CutsFor n cs := by
  unfold allC
  rw [List.mem_map]
  constructor
  · rintro ⟨k, hk, rfl⟩; exact at_cuts n (by omega) h1 k (List.mem_range.1 hk)
  · intro h; obtain ⟨k, hk, e⟩ := cuts_at h; exact ⟨k, List.mem_range.2 hk, e⟩

/-- Whether the model holds cuts for earlier. -/
def befC : List Int → List Int → Bool
  | a :: r, b :: s => if a = b then befC r s else decide (a < b)
  | _, _ => false

theorem bef_at : ∀ n, n < 8 → 1 ≤ n → ∀ j, j < 2 ^ (n - 1) → ∀ k, k < 2 ^ (n - 1) → befC (atC n j) (atC n k) = decide (j < k) := by decide +kernel

theorem cmp_at : ∀ n, n < 8 → 1 ≤ n → ∀ j, j < 2 ^ (n - 1) → ∀ k, k < 2 ^ (n - 1) → cmpL (atC n j) (atC n k) = if j < k then -1 else if k < j then 1 else 0 := by decide +kernel

/-- The rank of cuts: how many come before. -/
def rankC (n : Nat) (cs : List Int) : Nat := (allC n).countP fun c => befC c cs

theorem count_lt (m k : Nat) (hk : k ≤ m) : (List.range m).countP (fun j => decide (j < k)) = k := by
  induction m with
  | zero => simp; omega
  | succ m ih =>
    rw [List.range_succ, List.countP_append]
    by_cases h : k ≤ m
    · rw [ih h]; simp; omega
    · have e : k = m + 1 := by omega
      subst e
      have h1 : (List.range m).countP (fun j => decide (j < m + 1)) = m := by
        rw [List.countP_eq_length.2 (fun x hx => by have := List.mem_range.1 hx; simp; omega)]
        simp
      rw [h1]; simp

theorem rank_atC {n k : Nat} (h1 : 1 ≤ n) (h7 : n ≤ 7) (hk : k < 2 ^ (n - 1)) : rankC n (atC n k) = k := by
  unfold rankC allC
  rw [List.countP_map]
  have h2 : (List.range (2 ^ (n - 1))).countP ((fun c => befC c (atC n k)) ∘ fun j => atC n j) = (List.range (2 ^ (n - 1))).countP (fun j => decide (j < k)) := by
    apply List.countP_congr
    intro j hj
    simp only [Function.comp]
    rw [bef_at n (by omega) h1 j (List.mem_range.1 hj) k hk]
  rw [h2, count_lt _ _ (by omega)]

/-! ### The answers -/
def atCAns (n k : Int) : List Int × Bool := if 1 ≤ n ∧ n ≤ 7 ∧ 0 ≤ k ∧ k < ((2 ^ (n.toNat - 1) : Nat) : Int) then (atC n.toNat k.toNat, true) else ([], false)
def rankCAns (cs : List Int) : Int × Bool := if okC cs = true then ((rankC cs.sum.toNat cs : Nat), true) else (0, false)

theorem atC_alen {n k : Int} {xs : List Int} {b : Bool} (h : atCAns n k = (xs, b)) : xs.length ≤ 1048576 := by
  unfold atCAns at h; split at h
  · rename_i ho; cases h
    have h2 := (at_cuts n.toNat (by omega) (by omega) k.toNat (by omega)).len
    omega
  · cases h; simp

theorem rankC_of {cs : List Int} (h : okC cs = true) : ∃ n k : Nat, cs.sum = n ∧ 1 ≤ n ∧ n ≤ 7 ∧ k < 2 ^ (n - 1) ∧ atC n k = cs ∧ rankCAns cs = ((k : Int), true) := by
  have h1 := okC_iff.1 h
  obtain ⟨n, hn⟩ : ∃ n : Nat, cs.sum = n := ⟨cs.sum.toNat, by have := h1.1; omega⟩
  rw [hn] at h1
  obtain ⟨k, hk, e⟩ := cuts_at h1
  have hn1 : 1 ≤ n := by have := h1.1; omega
  have hn7 : n ≤ 7 := by have := h1.2.1; omega
  refine ⟨n, k, hn, hn1, hn7, hk, e, ?_⟩
  unfold rankCAns
  rw [if_pos h, hn, Int.toNat_natCast, ← e, rank_atC hn1 hn7 hk]

end Go.Proofs.Yteiocoahllnoeab.CutAtM
