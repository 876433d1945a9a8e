/-
  The mathematics of how many plain ends words there are: by how they can end, and by how many numbers are there after each sign. Conditions: none. Plain facts on numbers.
-/
import Derived.Lib.Hide

namespace Go.Proofs.Ytnhhnffolmgceaa.EPcM

/-- In how many ways a plain ends word can end: p to push, h there. -/
def cp : Nat → Nat → Nat → Nat
  | 0, _, _ => 1
  | f + 1, p, h => if p = 0 ∧ h = 0 then 1 else (if 0 < p then cp f (p - 1) (h + 1) else 0) + (if 0 < h then min h 2 * cp f p (h - 1) else 0)

theorem cp_small : (List.range 8).all (fun p => (List.range 8).all (fun h => decide (7 < p + h) || decide (cp (2 * p + h) p h ≤ 1048576))) = true := by decide +kernel

theorem cp_le {p h : Nat} (h7 : p + h ≤ 7) : cp (2 * p + h) p h ≤ 1048576 := by
  have h1 := List.all_eq_true.1 cp_small p (List.mem_range.2 (by omega))
  have h2 := List.all_eq_true.1 h1 h (List.mem_range.2 (by omega))
  rw [Bool.or_eq_true, decide_eq_true_iff, decide_eq_true_iff] at h2
  omega

/-- What one number of numbers hands on. -/
def stepJ (ws nx : List Nat) (j : Nat) : List Nat :=
  let a := if j + 1 < ws.length then nx.set (j + 1) (nx.getD (j + 1) 0 + ws.getD j 0) else nx
  if 0 < j then a.set (j - 1) (a.getD (j - 1) 0 + ws.getD j 0 * min j 2) else a

def stepTo (ws : List Nat) : Nat → List Nat
  | 0 => List.replicate ws.length 0
  | j + 1 => stepJ ws (stepTo ws j) j

def waysTo (n : Nat) : Nat → List Nat
  | 0 => (List.replicate (2 * n + 1) 0).set 0 1
  | i + 1 => stepTo (waysTo n i) (2 * n + 1)

theorem stepJ_len (ws nx : List Nat) (j : Nat) : (stepJ ws nx j).length = nx.length := by
  unfold stepJ
  split <;> split <;> simp
theorem stepTo_len (ws : List Nat) : ∀ j, (stepTo ws j).length = ws.length
  | 0 => by simp [stepTo]
  | j + 1 => by show (stepJ _ _ _).length = _; rw [stepJ_len, stepTo_len ws j]
theorem waysTo_len (n : Nat) : ∀ i, (waysTo n i).length = 2 * n + 1
  | 0 => by simp [waysTo]
  | i + 1 => by show (stepTo _ _).length = _; rw [stepTo_len, waysTo_len n i]

def small (l : List Nat) : Bool := l.all (fun x => decide (x ≤ 10000000))

/-- The rows of one round are small. -/
def chkJ (ws nx : List Nat) : Nat → Nat → Bool
  | 0, _ => small nx
  | f + 1, j => small nx && chkJ ws (stepJ ws nx j) f (j + 1)

theorem chkJ_is (ws : List Nat) : ∀ (f j : Nat), chkJ ws (stepTo ws j) f j = true → ∀ k, k ≤ f → small (stepTo ws (j + k)) = true
  | 0, j, h, k, hk => by
    have hk0 : k = 0 := Nat.le_zero.1 hk
    subst hk0
    exact h
  | f + 1, j, h, k, hk => by
    unfold chkJ at h
    rw [Bool.and_eq_true] at h
    cases k with
    | zero => exact h.1
    | succ k =>
      have := chkJ_is ws f (j + 1) h.2 k (by omega)
      rw [show j + (k + 1) = (j + 1) + k by omega]
      exact this

/-- All rounds. -/
def chkI (n : Nat) (ws : List Nat) : Nat → Bool
  | 0 => small ws
  | f + 1 => small ws && (chkJ ws (List.replicate ws.length 0) (2 * n + 1) 0 && chkI n (stepTo ws (2 * n + 1)) f)

theorem chkI_is (n : Nat) : ∀ (f i : Nat), chkI n (waysTo n i) f = true → ∀ k, k ≤ f → small (waysTo n (i + k)) = true ∧ (k < f → ∀ j, j ≤ 2 * n + 1 → small (stepTo (waysTo n (i + k)) j) = true)
  | 0, i, h, k, hk => by
    have hk0 : k = 0 := Nat.le_zero.1 hk
    subst hk0
    exact ⟨h, fun h => absurd h (by omega)⟩
  | f + 1, i, h, k, hk => by
    unfold chkI at h
    rw [Bool.and_eq_true, Bool.and_eq_true] at h
    cases k with
    | zero => exact ⟨h.1, fun _ j hj => by have := chkJ_is (waysTo n i) (2 * n + 1) 0 h.2.1 j hj; rw [Nat.zero_add] at this; exact this⟩
    | succ k =>
      have := chkI_is n f (i + 1) h.2.2 k (by omega)
      rw [show i + (k + 1) = (i + 1) + k by omega]
      exact ⟨this.1, fun hk => this.2 (by omega)⟩

theorem chk_all : (List.range 8).all (fun n => chkI n (waysTo n 0) (2 * n)) = true := by decide +kernel

theorem ways_small {n i : Nat} (hn : n ≤ 7) (hi : i ≤ 2 * n) (k : Nat) : (waysTo n i).getD k 0 ≤ 10000000 := by
  have h := (chkI_is n (2 * n) 0 (List.all_eq_true.1 chk_all n (List.mem_range.2 (by omega))) i hi).1
  rw [Nat.zero_add] at h
  unfold small at h
  by_cases hk : k < (waysTo n i).length
  · have := of_decide_eq_true (List.all_eq_true.1 h _ (List.getElem_mem hk))
    rw [List.getD_eq_getElem?_getD, List.getElem?_eq_getElem hk]; exact this
  · rw [List.getD_eq_getElem?_getD, List.getElem?_eq_none (by omega)]; simp

theorem step_small {n i j : Nat} (hn : n ≤ 7) (hi : i < 2 * n) (hj : j ≤ 2 * n + 1) (k : Nat) : (stepTo (waysTo n i) j).getD k 0 ≤ 10000000 := by
  have h := (chkI_is n (2 * n) 0 (List.all_eq_true.1 chk_all n (List.mem_range.2 (by omega))) i (by omega)).2 hi j hj
  rw [Nat.zero_add] at h
  unfold small at h
  by_cases hk : k < (stepTo (waysTo n i) j).length
  · have := of_decide_eq_true (List.all_eq_true.1 h _ (List.getElem_mem hk))
    rw [List.getD_eq_getElem?_getD, List.getElem?_eq_getElem hk]; exact this
  · rw [List.getD_eq_getElem?_getD, List.getElem?_eq_none (by omega)]; simp

theorem ends_all : (List.range 8).all (fun n => decide ((waysTo n (2 * n)).getD 0 0 = cp (2 * n) n 0)) = true := by decide +kernel

theorem ways_cp {n : Nat} (hn : n ≤ 7) : (waysTo n (2 * n)).getD 0 0 = cp (2 * n) n 0 := of_decide_eq_true (List.all_eq_true.1 ends_all n (List.mem_range.2 (by omega)))

def cpAns (n : Int) : Int × Bool := if 1 ≤ n ∧ n ≤ 7 then ((cp (2 * n.toNat) n.toNat 0 : Nat), true) else (0, false)

end Go.Proofs.Ytnhhnffolmgceaa.EPcM
