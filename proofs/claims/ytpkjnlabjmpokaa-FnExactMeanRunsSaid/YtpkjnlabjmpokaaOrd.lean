/-
  The mathematics of orders: what an order is, how many numbers behind a place are less, the two ways to reckon a rank, and the order with a rank. Conditions: none. Plain facts on lists: nothing of the program.
-/
import Derived.Lib.Hide
namespace Go.Proofs.Ytpkjnlabjmpokaa.OrdMath

/-- A list is an order. -/
def Ord (zs : List Int) : Prop := 1 ≤ zs.length ∧ zs.length ≤ 7 ∧ (∀ z ∈ zs, 1 ≤ z ∧ z ≤ (zs.length : Int)) ∧ zs.Nodup

instance (zs : List Int) : Decidable (Ord zs) := by unfold Ord; infer_instance

def isOrd (zs : List Int) : Bool := decide (Ord zs)

theorem isOrd_len {zs : List Int} (h : zs.length < 1 ∨ 7 < zs.length) : isOrd zs = false := by
  unfold isOrd; rw [decide_eq_false_iff_not]; rintro ⟨h1, h2, _⟩; omega

theorem isOrd_range {zs : List Int} {k : Nat} (hk : k < zs.length) (h : ¬ (1 ≤ zs[k] ∧ zs[k] ≤ (zs.length : Int))) : isOrd zs = false := by
  unfold isOrd; rw [decide_eq_false_iff_not]; rintro ⟨_, _, h3, _⟩; exact h (h3 _ (List.getElem_mem hk))

theorem isOrd_dup {zs : List Int} {k : Nat} (hk : k < zs.length) (h : zs[k] ∈ zs.take k) : isOrd zs = false := by
  unfold isOrd; rw [decide_eq_false_iff_not]; rintro ⟨_, _, _, h4⟩
  rw [List.mem_iff_getElem] at h
  obtain ⟨j, hj, e⟩ := h
  rw [List.length_take] at hj
  rw [List.getElem_take] at e
  have := (List.getElem_inj h4).1 e
  omega

theorem nodup_next {zs : List Int} {k : Nat} (hk : k < zs.length) (h : (zs.take k).Nodup) (hn : zs[k] ∉ zs.take k) : (zs.take (k + 1)).Nodup := by
  rw [List.take_succ_eq_append_getElem hk, List.nodup_append]
  refine ⟨h, by simp, ?_⟩
  intro a ha b hb e
  simp at hb
  subst hb
  subst e
  exact hn ha

theorem isOrd_yes {zs : List Int} (h1 : 1 ≤ zs.length) (h2 : zs.length ≤ 7) (h3 : ∀ z ∈ zs, 1 ≤ z ∧ z ≤ (zs.length : Int)) (h4 : zs.Nodup) : isOrd zs = true := by
  unfold isOrd; rw [decide_eq_true_iff]; exact ⟨h1, h2, h3, h4⟩

theorem Ord.at {zs : List Int} (h : Ord zs) {k : Nat} (hk : k < zs.length) : ∃ m : Nat, zs[k] = (m : Int) + 1 ∧ m < zs.length := by
  have := h.2.2.1 zs[k] (List.getElem_mem hk)
  exact ⟨(zs[k] - 1).toNat, by omega, by omega⟩

theorem Ord.getD {zs : List Int} (h : Ord zs) {k : Nat} (hk : k < zs.length) : ∃ m : Nat, zs.getD k 0 = (m : Int) + 1 ∧ m < zs.length := by
  obtain ⟨m, h1, h2⟩ := h.at hk
  exact ⟨m, by rw [← h1]; simp [hk], h2⟩

/-- How many of a list are less than a number. -/
def cl (x : Int) (l : List Int) : Nat := l.countP (fun z => decide (z < x))

theorem cl_nil (x : Int) : cl x [] = 0 := rfl

theorem cl_next {x : Int} {l : List Int} {j : Nat} (hj : j < l.length) : cl x (l.take (j + 1)) = cl x (l.take j) + (if l[j] < x then 1 else 0) := by
  unfold cl
  rw [List.take_succ_eq_append_getElem hj, List.countP_append, List.countP_singleton]
  simp

theorem cl_le (x : Int) (l : List Int) : cl x l ≤ l.length := List.countP_le_length

def fact : Nat → Nat
  | 0 => 1
  | n + 1 => (n + 1) * fact n

theorem fact_step (n : Nat) : fact n ≤ fact (n + 1) := by
  show fact n ≤ (n + 1) * fact n
  exact Nat.le_mul_of_pos_left _ (Nat.succ_pos _)

theorem fact_pos (n : Nat) : 1 ≤ fact n := by
  induction n with
  | zero => exact Nat.le_refl _
  | succ n ih => exact Nat.le_trans ih (fact_step n)

theorem fact_mono {a b : Nat} (h : a ≤ b) : fact a ≤ fact b := by
  induction h with
  | refl => exact Nat.le_refl _
  | step _ ih => exact Nat.le_trans ih (fact_step _)

theorem fact_7 {a : Nat} (h : a ≤ 7) : fact a ≤ 5040 := fact_mono h
theorem fact_6 {a : Nat} (h : a ≤ 6) : fact a ≤ 720 := fact_mono h

/-- How many numbers behind a place are less than the one at it. -/
def lessAt (zs : List Int) (i : Nat) : Nat := cl (zs.getD i 0) (zs.drop (i + 1))

theorem lessAt_le (zs : List Int) (i : Nat) : lessAt zs i ≤ zs.length - (i + 1) := by
  have := cl_le (zs.getD i 0) (zs.drop (i + 1)); rw [List.length_drop] at this; exact this

/-- The rank as a sum. -/
def rankS (zs : List Int) : Nat → Nat
  | 0 => 0
  | k + 1 => rankS zs k + lessAt zs k * fact (zs.length - 1 - k)

/-- The rank, digit by digit. -/
def rankH (zs : List Int) : Nat → Nat
  | 0 => 0
  | k + 1 => rankH zs k * (zs.length - k) + lessAt zs k

theorem rank_eq (zs : List Int) : ∀ k, k ≤ zs.length → rankH zs k * fact (zs.length - k) = rankS zs k := by
  intro k
  induction k with
  | zero => intro _; simp [rankH, rankS]
  | succ k ih =>
    intro hk
    have h1 := ih (by omega)
    have e : zs.length - k = (zs.length - (k + 1)) + 1 := by omega
    have e2 : zs.length - 1 - k = zs.length - (k + 1) := by omega
    have ef : fact (zs.length - k) = (zs.length - k) * fact (zs.length - (k + 1)) := by rw [e]; rfl
    unfold rankH rankS
    rw [← h1, e2, ef, Nat.add_mul, Nat.mul_assoc]

theorem rankS_le (zs : List Int) (h7 : zs.length ≤ 7) : ∀ k, k ≤ zs.length → rankS zs k ≤ 4320 * k := by
  intro k
  induction k with
  | zero => intro _; simp [rankS]
  | succ k ih =>
    intro hk
    have h1 := ih (by omega)
    have h2 := lessAt_le zs k
    have h3 := fact_6 (a := zs.length - 1 - k) (by omega)
    have h4 : lessAt zs k * fact (zs.length - 1 - k) ≤ 6 * 720 := Nat.mul_le_mul (by omega) h3
    unfold rankS
    omega

theorem rankH_le (zs : List Int) (h7 : zs.length ≤ 7) (k : Nat) (hk : k ≤ zs.length) : rankH zs k ≤ 30240 := by
  have h1 := rank_eq zs k hk
  have h2 := rankS_le zs h7 k hk
  have h3 : rankH zs k ≤ rankH zs k * fact (zs.length - k) := Nat.le_mul_of_pos_right _ (fact_pos _)
  omega

theorem rank_end (zs : List Int) : rankH zs zs.length = rankS zs zs.length := by
  have := rank_eq zs zs.length (Nat.le_refl _)
  simpa [fact] using this

/-- How many pairs have the greater number first, over the first places. -/
def invTo (zs : List Int) : Nat → Nat
  | 0 => 0
  | k + 1 => invTo zs k + lessAt zs k

theorem invTo_le (zs : List Int) (h7 : zs.length ≤ 7) : ∀ k, k ≤ zs.length → invTo zs k ≤ 7 * k := by
  intro k
  induction k with
  | zero => intro _; simp [invTo]
  | succ k ih => intro hk; have h1 := ih (by omega); have h2 := lessAt_le zs k; unfold invTo; omega

/-- The sorted order. -/
def iota (n : Nat) : List Int := (List.range n).map fun (i : Nat) => (i : Int) + 1

theorem iota_len (n : Nat) : (iota n).length = n := by simp [iota]

theorem iota_at (n k : Nat) (h : k < n) : (iota n)[k]'(by rw [iota_len]; exact h) = (k : Int) + 1 := by simp [iota]

theorem iota_next (n : Nat) : iota (n + 1) = iota n ++ [(n : Int) + 1] := by unfold iota; rw [List.range_succ, List.map_append]; rfl

/-- The order with a rank, out of the numbers that are left. -/
def atRun : Nat → List Int → Nat → List Int
  | 0, _, _ => []
  | m + 1, left, k => left.getD (k / fact m) 0 :: atRun m (left.eraseIdx (k / fact m)) (k % fact m)

theorem atRun_len : ∀ (m : Nat) (left : List Int) (k : Nat), (atRun m left k).length = m
  | 0, _, _ => rfl
  | m + 1, left, k => by unfold atRun; simp [atRun_len m]

/-! ### The answers -/
def backAns (zs : List Int) : List Int × Bool := if Ord zs then (zs.reverse, true) else ([], false)
def otherAns (zs : List Int) : List Int × Bool := if Ord zs then (zs.map (fun z => (zs.length : Int) + 1 - z), true) else ([], false)
/-- The inverse, place by place. -/
def invOf (zs : List Int) : Nat → List Int
  | 0 => List.replicate zs.length 0
  | k + 1 => (invOf zs k).set (zs.getD k 0 - 1).toNat ((k : Int) + 1)
theorem invOf_len (zs : List Int) : ∀ k, (invOf zs k).length = zs.length
  | 0 => by simp [invOf]
  | k + 1 => by simp [invOf, invOf_len zs k]
def inverseAns (zs : List Int) : List Int × Bool := if Ord zs then (invOf zs zs.length, true) else ([], false)
def composeAns (xs ys : List Int) : List Int × Bool := if Ord xs ∧ Ord ys ∧ xs.length = ys.length then (ys.map (fun y => xs.getD (y - 1).toNat 0), true) else ([], false)
def rankAns (zs : List Int) : Int × Bool := if Ord zs then ((rankS zs zs.length : Nat), true) else (0, false)
def invsAns (zs : List Int) : Int × Bool := if Ord zs then ((invTo zs zs.length : Nat), true) else (0, false)
def atAns (n k : Int) : List Int × Bool := if 1 ≤ n ∧ n ≤ 7 ∧ 0 ≤ k ∧ k < (fact n.toNat : Int) then (atRun n.toNat (iota n.toNat) k.toNat, true) else ([], false)

theorem back_len {zs xs : List Int} {b : Bool} (h : backAns zs = (xs, b)) : xs.length ≤ 1048576 := by
  unfold backAns at h; split at h
  · rename_i ho; cases h; have := ho.2.1; simp; omega
  · cases h; simp
theorem other_len {zs xs : List Int} {b : Bool} (h : otherAns zs = (xs, b)) : xs.length ≤ 1048576 := by
  unfold otherAns at h; split at h
  · rename_i ho; cases h; have := ho.2.1; simp; omega
  · cases h; simp
theorem inverse_len {zs xs : List Int} {b : Bool} (h : inverseAns zs = (xs, b)) : xs.length ≤ 1048576 := by
  unfold inverseAns at h; split at h
  · rename_i ho; cases h; have := ho.2.1; rw [invOf_len]; omega
  · cases h; simp
theorem compose_len {xs ys zs : List Int} {b : Bool} (h : composeAns xs ys = (zs, b)) : zs.length ≤ 1048576 := by
  unfold composeAns at h; split at h
  · rename_i ho; cases h; have := ho.2.1.2.1; simp; omega
  · cases h; simp
theorem at_len {n k : Int} {zs : List Int} {b : Bool} (h : atAns n k = (zs, b)) : zs.length ≤ 1048576 := by
  unfold atAns at h; split at h
  · rename_i ho; cases h; rw [atRun_len]; omega
  · cases h; simp

end Go.Proofs.Ytpkjnlabjmpokaa.OrdMath
