/-
  The mathematics of queues, of runs and of what is put behind lists. Conditions: none. Plain facts on lists.
-/
import Derived.Test.YteiocoahllnoeabOrd
import Derived.Test.YteiocoahllnoeabLL
namespace Go.Proofs.Yteiocoahllnoeab.QueM
open OrdMath LLC

/-- A number behind one of some lists, or behind them all. -/
def putL (L : List (List Int)) (k : Nat) (x : Int) : List (List Int) :=
  if k < L.length then L.set k (L.getD k [] ++ [x]) else L ++ [[x]]

theorem putL_len (L : List (List Int)) (k : Nat) (x : Int) : (putL L k x).length = if k < L.length then L.length else L.length + 1 := by
  unfold putL; split <;> simp

theorem putL_le (L : List (List Int)) (k : Nat) (x : Int) : L.length ≤ (putL L k x).length ∧ (putL L k x).length ≤ L.length + 1 := by
  rw [putL_len]; split <;> omega

theorem tot_cat : ∀ (A B : List (List Int)), tot (A ++ B) = tot A + tot B
  | [], B => by simp [tot]
  | a :: A, B => by
    show a.length + tot (A ++ B) = a.length + tot A + tot B
    rw [tot_cat A B]; omega

theorem tot_set : ∀ (L : List (List Int)) (k : Nat) (r : List Int), k < L.length → tot (L.set k r) + (L.getD k []).length = tot L + r.length
  | [], k, r, h => absurd h (by simp)
  | l :: L, 0, r, _ => by
    show r.length + tot L + l.length = l.length + tot L + r.length
    omega
  | l :: L, k + 1, r, h => by
    have ih := tot_set L k r (by simpa using h)
    show l.length + tot (L.set k r) + (L.getD k []).length = l.length + tot L + r.length
    omega

theorem putL_tot (L : List (List Int)) (k : Nat) (x : Int) : tot (putL L k x) = tot L + 1 := by
  unfold putL
  split
  · rename_i h
    have := tot_set L k (L.getD k [] ++ [x]) h
    rw [List.length_append, List.length_singleton] at this
    omega
  · rw [tot_cat]; rfl

theorem getD_set_e {α : Type} {d x : α} {A : List α} {i : Nat} (h : i < A.length) : (A.set i x).getD i d = x := by
  rw [List.getD_eq_getElem?_getD, List.getElem?_set]; simp [h]
theorem getD_set_n {α : Type} {d x : α} {A : List α} {i j : Nat} (h : i ≠ j) : (A.set i x).getD j d = A.getD j d := by
  rw [List.getD_eq_getElem?_getD, List.getElem?_set, if_neg h, ← List.getD_eq_getElem?_getD]
theorem getD_app_l {α : Type} {d : α} {A B : List α} {i : Nat} (h : i < A.length) : (A ++ B).getD i d = A.getD i d := by
  rw [List.getD_eq_getElem?_getD, List.getElem?_append_left h, ← List.getD_eq_getElem?_getD]
theorem getD_app_r {α : Type} {d x : α} {A : List α} : (A ++ [x]).getD A.length d = x := by
  rw [List.getD_eq_getElem?_getD, List.getElem?_append_right (Nat.le_refl _)]; simp

/-- Each list has a number at least. -/
def Pos (L : List (List Int)) : Prop := ∀ i, i < L.length → 1 ≤ (L.getD i []).length

theorem pos_nil : Pos [] := fun i h => absurd h (by simp)

theorem putL_at (L : List (List Int)) (k i : Nat) (x : Int) (hk : k ≤ L.length) (hi : i < (putL L k x).length) :
    (putL L k x).getD i [] = if i = k then L.getD k [] ++ [x] else L.getD i [] := by
  rw [putL_len] at hi
  unfold putL
  by_cases h : k < L.length
  · rw [if_pos h] at hi ⊢
    by_cases e : i = k
    · subst e; rw [if_pos rfl, getD_set_e h]
    · rw [if_neg e, getD_set_n (fun x => e x.symm)]
  · rw [if_neg h] at hi ⊢
    have e1 : k = L.length := by omega
    subst e1
    by_cases e : i = L.length
    · subst e
      rw [if_pos rfl, getD_app_r]
      simp
    · rw [if_neg e, getD_app_l (by omega)]

theorem pos_put {L : List (List Int)} {k : Nat} {x : Int} (h : Pos L) (hk : k ≤ L.length) : Pos (putL L k x) := by
  intro i hi
  rw [putL_at L k i x hk hi]
  rw [putL_len] at hi
  split
  · simp
  · rename_i e
    exact h i (by split at hi <;> omega)

/-- The last number of a list. -/
def last (q : List Int) : Int := q.getD (q.length - 1) 0

/-- The first list whose last number is not greater. -/
def qAt : List (List Int) → Int → Nat
  | [], _ => 0
  | q :: Q, x => if last q > x then qAt Q x + 1 else 0

theorem qAt_le : ∀ (Q : List (List Int)) (x : Int), qAt Q x ≤ Q.length
  | [], _ => Nat.le_refl _
  | q :: Q, x => by
    have := qAt_le Q x
    unfold qAt
    split <;> simp <;> omega

theorem qAt_is : ∀ (Q : List (List Int)) (x : Int) (k : Nat), k ≤ Q.length → (∀ j, j < k → last (Q.getD j []) > x) → (k < Q.length → ¬ last (Q.getD k []) > x) → qAt Q x = k
  | [], _, k, h, _, _ => by
    have : k = 0 := by simpa using h
    subst this; rfl
  | q :: Q, x, 0, _, _, h3 => by
    have h := h3 (by simp)
    have h' : ¬ last q > x := h
    unfold qAt
    rw [if_neg h']
  | q :: Q, x, k + 1, h1, h2, h3 => by
    have h : last q > x := h2 0 (by omega)
    have ih := qAt_is Q x k (by simpa using h1) (fun j hj => h2 (j + 1) (by omega)) (fun hk => h3 (by simpa using hk))
    unfold qAt
    rw [if_pos h, ih]

/-- The queues of the first k numbers. -/
def qTo (zs : List Int) : Nat → List (List Int)
  | 0 => []
  | k + 1 => putL (qTo zs k) (qAt (qTo zs k) (zs.getD k 0)) (zs.getD k 0)

theorem qTo_ok (zs : List Int) : ∀ k, (qTo zs k).length ≤ k ∧ tot (qTo zs k) = k ∧ Pos (qTo zs k)
  | 0 => ⟨Nat.le_refl _, rfl, pos_nil⟩
  | k + 1 => by
    obtain ⟨h1, h2, h3⟩ := qTo_ok zs k
    have h4 := putL_le (qTo zs k) (qAt (qTo zs k) (zs.getD k 0)) (zs.getD k 0)
    refine ⟨by unfold qTo; omega, by unfold qTo; rw [putL_tot]; omega, ?_⟩
    unfold qTo
    exact pos_put h3 (qAt_le _ _)

def queuesAns (zs : List Int) : List (List Int) × Bool := if Ord zs then (qTo zs zs.length, true) else ([], false)
def fewAns (zs : List Int) : Int × Bool := if Ord zs then (((qTo zs zs.length).length : Nat), true) else (0, false)

/-- Into which run a number goes. -/
def runAt (zs : List Int) (R : List (List Int)) (k : Nat) : Nat := if k = 0 ∨ zs.getD k 0 < zs.getD (k - 1) 0 then R.length else R.length - 1

/-- The runs of the first k numbers. -/
def rTo (zs : List Int) : Nat → List (List Int)
  | 0 => []
  | k + 1 => putL (rTo zs k) (runAt zs (rTo zs k) k) (zs.getD k 0)

theorem runAt_le (zs : List Int) (R : List (List Int)) (k : Nat) : runAt zs R k ≤ R.length := by unfold runAt; split <;> omega

theorem rTo_ok (zs : List Int) : ∀ k, (rTo zs k).length ≤ k ∧ tot (rTo zs k) = k ∧ Pos (rTo zs k) ∧ (1 ≤ k → 1 ≤ (rTo zs k).length)
  | 0 => ⟨Nat.le_refl _, rfl, pos_nil, fun h => by omega⟩
  | k + 1 => by
    obtain ⟨h1, h2, h3, h5⟩ := rTo_ok zs k
    have h4 := putL_le (rTo zs k) (runAt zs (rTo zs k) k) (zs.getD k 0)
    refine ⟨by unfold rTo; omega, by unfold rTo; rw [putL_tot]; omega, ?_, fun _ => ?_⟩
    · unfold rTo
      exact pos_put h3 (runAt_le _ _ _)
    · unfold rTo
      rw [putL_len]
      split <;> omega

def runsAns (zs : List Int) : List (List Int) × Bool := if Ord zs then (rTo zs zs.length, true) else ([], false)

theorem ans_small {zs : List Int} (h : Ord zs) (L : List (List Int)) (h1 : L.length ≤ zs.length) (h2 : tot L = zs.length) : L.length + tot L ≤ 1048576 := by
  have := h.2.1; omega

theorem queues_alen {zs : List Int} {L : List (List Int)} {b : Bool} (h : queuesAns zs = (L, b)) : L.length + tot L ≤ 1048576 := by
  unfold queuesAns at h
  split at h
  · rename_i ho
    cases h
    have h1 := qTo_ok zs zs.length
    exact ans_small ho _ h1.1 h1.2.1
  · cases h; decide

theorem runs_alen {zs : List Int} {L : List (List Int)} {b : Bool} (h : runsAns zs = (L, b)) : L.length + tot L ≤ 1048576 := by
  unfold runsAns at h
  split at h
  · rename_i ho
    cases h
    have h1 := rTo_ok zs zs.length
    exact ans_small ho _ h1.1 h1.2.1
  · cases h; decide

theorem tot_row {L : List (List Int)} {i : Nat} (h : i < L.length) : (L.getD i []).length ≤ tot L := tot_mem (getD_memL h)

end Go.Proofs.Yteiocoahllnoeab.QueM
