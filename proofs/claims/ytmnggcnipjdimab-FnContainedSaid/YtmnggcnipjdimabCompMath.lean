/-
  The mathematics of a list of which repeated neighbours are left out: sorted lists come out without doubles. Conditions: none. Plain facts.
-/
import Derived.Test.YtmnggcnipjdimabSorted
namespace Go.Proofs.Ytmnggcnipjdimab.CompMath
open CmpC ListsBC OutsMath

/-- Whether a list differs from the one ahead of it. -/
def kp (L : List (List Int)) (j : Nat) : Bool := decide (j = 0 ∨ L.getD j [] ≠ L.getD (j - 1) [])

def idx (L : List (List Int)) (m : Nat) : List Nat := (List.range m).filter (kp L)

theorem idx_next (L : List (List Int)) (m : Nat) : idx L (m + 1) = idx L m ++ (if kp L m = true then [m] else []) := by
  unfold idx
  rw [List.range_succ, List.filter_append]
  congr 1
  by_cases h : kp L m = true
  · simp [h]
  · simp [h]

theorem idx_le (L : List (List Int)) (m : Nat) : (idx L m).length ≤ m := by
  unfold idx
  exact Nat.le_trans (List.length_filter_le _ _) (by simp)

theorem idx_lt {L : List (List Int)} {m i : Nat} (h : i ∈ idx L m) : i < m := by
  unfold idx at h
  rw [List.mem_filter, List.mem_range] at h
  exact h.1

theorem idx_all {L : List (List Int)} {m : Nat} (h : ∀ j, j < m → kp L j = true) : idx L m = List.range m := by
  unfold idx
  rw [List.filter_eq_self]
  intro j hj
  exact h j (List.mem_range.1 hj)

def dd (L : List (List Int)) : List (List Int) := (idx L L.length).map (fun i => L.getD i [])

theorem dd_len (L : List (List Int)) : (dd L).length = (idx L L.length).length := by simp [dd]

theorem range_get {α : Type} (L : List α) (d : α) : (List.range L.length).map (fun i => L.getD i d) = L := by
  apply List.ext_getElem
  · simp
  · intro i h1 h2; simp [h2]

theorem dd_all {L : List (List Int)} (h : ∀ j, j < L.length → kp L j = true) : dd L = L := by
  unfold dd
  rw [idx_all h, range_get]

theorem dd_mem {L : List (List Int)} {x : List Int} : x ∈ dd L ↔ x ∈ L := by
  unfold dd
  rw [List.mem_map]
  constructor
  · rintro ⟨i, hi, rfl⟩
    have h := idx_lt hi
    have e : L.getD i [] = L[i] := by simp [h]
    rw [e]; exact List.getElem_mem h
  · intro hx
    obtain ⟨j, hj, rfl⟩ := List.mem_iff_getElem.1 hx
    have key : ∀ j, j < L.length → ∃ i ∈ idx L L.length, L.getD i [] = L.getD j [] := by
      intro j
      induction j with
      | zero => intro h0; exact ⟨0, by unfold idx; rw [List.mem_filter, List.mem_range]; exact ⟨h0, by simp [kp]⟩, rfl⟩
      | succ j ih =>
        intro hj
        by_cases hk : kp L (j + 1) = true
        · exact ⟨j + 1, by unfold idx; rw [List.mem_filter, List.mem_range]; exact ⟨hj, hk⟩, rfl⟩
        · obtain ⟨i, hi, e⟩ := ih (by omega)
          refine ⟨i, hi, ?_⟩
          rw [e]
          have h2 : ¬ (j + 1 = 0 ∨ L.getD (j + 1) [] ≠ L.getD (j + 1 - 1) []) := fun h => hk (by unfold kp; rw [decide_eq_true_eq]; exact h)
          have h3 : L.getD (j + 1) [] = L.getD (j + 1 - 1) [] := by
            by_cases h4 : L.getD (j + 1) [] = L.getD (j + 1 - 1) []
            · exact h4
            · exact absurd (.inr h4) h2
          rw [h3]
          rfl
    obtain ⟨i, hi, e⟩ := key j hj
    exact ⟨i, hi, by rw [e]; simp [hj]⟩

/-- Sorted, with doubles. -/
def Weak (R : List (List Int)) : Prop := R.Pairwise (fun a b => ¬ cmpL b a < 0)

theorem cmp_lt_of {a b c : List Int} (h1 : ¬ cmpL b a < 0) (h2 : cmpL b c < 0) : cmpL a c < 0 := by
  have n1 := cmpL_neg a b
  by_cases e : cmpL a b = 0
  · have := cmpL_eq _ _ e; subst this; exact h2
  · exact cmpL_lt_trans a b c (by omega) h2

theorem weak_get {R : List (List Int)} (h : Weak R) {i j : Nat} (hij : i < j) (hj : j < R.length) : ¬ cmpL (R.getD j []) (R.getD i []) < 0 := by
  have h1 := (List.pairwise_iff_getElem.1 h) i j (by omega) hj hij
  have e1 : R.getD i [] = R[i] := by simp [show i < R.length by omega]
  have e2 : R.getD j [] = R[j] := by simp [hj]
  rw [e1, e2]
  exact h1

theorem dd_sorted {R : List (List Int)} (h : Weak R) : Sorted (dd R) := by
  unfold Sorted dd
  rw [List.pairwise_map]
  have hp : (idx R R.length).Pairwise (· < ·) := (List.pairwise_lt_range (n := R.length)).filter _
  refine List.Pairwise.imp_of_mem ?_ hp
  intro i j hi hj hij
  have hj2 := idx_lt hj
  have hk : kp R j = true := by unfold idx at hj; rw [List.mem_filter] at hj; exact hj.2
  unfold kp at hk
  rw [decide_eq_true_eq] at hk
  have hne : R.getD j [] ≠ R.getD (j - 1) [] := by
    rcases hk with h | h
    · omega
    · exact h
  have h1 := weak_get h (i := j - 1) (j := j) (by omega) hj2
  have n1 := cmpL_neg (R.getD (j - 1) []) (R.getD j [])
  have h2 : cmpL (R.getD (j - 1) []) (R.getD j []) ≠ 0 := fun e => hne (cmpL_eq _ _ e).symm
  have h3 : cmpL (R.getD (j - 1) []) (R.getD j []) < 0 := by omega
  by_cases he : i = j - 1
  · rw [he]; exact h3
  · exact cmp_lt_of (weak_get h (i := i) (j := j - 1) (by omega) (by omega)) h3

theorem sorted_nodup {R : List (List Int)} (h : Sorted R) : R.Nodup := by
  refine List.Pairwise.imp ?_ h
  intro a b hab e
  rw [e, cmpL_same] at hab
  omega

theorem perm_of_mem : ∀ {R S : List (List Int)}, R.Nodup → S.Nodup → (∀ x, x ∈ R ↔ x ∈ S) → R.Perm S
  | [], S, _, _, h => by
    have : S = [] := List.eq_nil_iff_forall_not_mem.2 (fun x hx => by have := (h x).2 hx; simp at this)
    subst this
    exact List.Perm.refl _
  | a :: R, S, hr, hs, h => by
    have ha : a ∈ S := (h a).1 (by simp)
    have hp := List.perm_cons_erase ha
    have hr2 := List.nodup_cons.1 hr
    have hse := hs.erase a
    have ih := perm_of_mem (R := R) (S := S.erase a) hr2.2 hse (fun x => by
      constructor
      · intro hx
        exact (List.mem_erase_of_ne (fun e => hr2.1 (by rw [← e]; exact hx))).2 ((h x).1 (by simp [hx]))
      · intro hx
        have hx2 := List.mem_of_mem_erase hx
        rcases List.mem_cons.1 ((h x).2 hx2) with rfl | h2
        · exact absurd hx (List.Nodup.not_mem_erase hs)
        · exact h2)
    exact (ih.cons a).trans hp.symm

theorem sorted_mem_unique {R S : List (List Int)} (h1 : Sorted R) (h2 : Sorted S) (h : ∀ x, x ∈ R ↔ x ∈ S) : R = S :=
  sorted_unique R S h1 h2 (perm_of_mem (sorted_nodup h1) (sorted_nodup h2) h)

end Go.Proofs.Ytmnggcnipjdimab.CompMath
