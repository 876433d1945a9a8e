/-
  The mathematics of what are rows. Conditions: none. Plain facts on lists.
-/
import Derived.Test.YteiocoahllnoeabRowsM
namespace Go.Proofs.Yteiocoahllnoeab.AreM
open OrdMath LLC QueM PassM RowsM

instance (r s : List Int) : Decidable (Bel r s) := by unfold Bel; infer_instance

/-- A row fits below the one above it. -/
def RowOk (L : List (List Int)) (i : Nat) : Prop := 1 ≤ (L.getD i []).length ∧ (0 < i → Bel (L.getD (i - 1) []) (L.getD i [])) ∧ (L.getD i []).Pairwise (· < ·)

instance (L : List (List Int)) (i : Nat) : Decidable (RowOk L i) := by unfold RowOk; infer_instance

/-- As the program asks it: equal numbers are told later. -/
def RowWk (L : List (List Int)) (i : Nat) : Prop := 1 ≤ (L.getD i []).length ∧ (L.getD i []).length ≤ 7 ∧
  (0 < i → (L.getD i []).length ≤ (L.getD (i - 1) []).length ∧ ∀ j, j < (L.getD i []).length → (L.getD (i - 1) []).getD j 0 ≤ (L.getD i []).getD j 0) ∧ (L.getD i []).Pairwise (· ≤ ·)

def areB (L : List (List Int)) : Bool := decide ((∀ i, i < L.length → RowOk L i) ∧ Ord L.flatten)

theorem are_row {L : List (List Int)} {i : Nat} (hi : i < L.length) (h : ¬ RowOk L i) : areB L = false := by
  unfold areB; rw [decide_eq_false_iff_not]; exact fun hh => h (hh.1 i hi)

theorem flat_len_le : ∀ {L : List (List Int)} {i : Nat}, i < L.length → (L.take i).flatten.length + (L.getD i []).length ≤ L.flatten.length
  | [], i, h => absurd h (by simp)
  | l :: L, 0, _ => by simp
  | l :: L, i + 1, h => by
    have ih := flat_len_le (L := L) (i := i) (by simpa using h)
    show (l ++ (L.take i).flatten).length + (L.getD i []).length ≤ (l ++ L.flatten).length
    rw [List.length_append, List.length_append]
    omega

theorem are_long {L : List (List Int)} {i : Nat} (hi : i < L.length) (h : 7 < (L.take i).flatten.length + (L.getD i []).length) : areB L = false := by
  unfold areB; rw [decide_eq_false_iff_not]
  intro hh
  have h1 := hh.2.2.1
  have h2 := flat_len_le hi
  omega

theorem flat_ge : ∀ (L : List (List Int)), (∀ i, i < L.length → 1 ≤ (L.getD i []).length) → L.length ≤ L.flatten.length
  | [], _ => by simp
  | l :: L, h => by
    have ih := flat_ge L (fun i hi => h (i + 1) (by simpa using hi))
    have h0 := h 0 (by simp)
    have h1 : 1 ≤ l.length := h0
    show L.length + 1 ≤ (l ++ L.flatten).length
    rw [List.length_append]
    omega

theorem are_many {L : List (List Int)} (h : 7 < L.length) : areB L = false := by
  unfold areB; rw [decide_eq_false_iff_not]
  intro hh
  have h1 := flat_ge L (fun i hi => (hh.1 i hi).1)
  have h2 := hh.2.2.1
  omega

theorem are_ok {L : List (List Int)} (h : ∀ i, i < L.length → RowOk L i) : areB L = isOrd L.flatten := by
  unfold areB isOrd
  rw [Bool.eq_iff_iff, decide_eq_true_iff, decide_eq_true_iff]
  exact ⟨fun hh => hh.2, fun hh => ⟨h, hh⟩⟩

theorem getD_mem {r : List Int} {j : Nat} (h : j < r.length) : r.getD j 0 ∈ r := by
  have e : r.getD j 0 = r[j] := by simp [h]
  rw [e]; exact List.getElem_mem _

theorem wk_ok {L : List (List Int)} (hn : L.flatten.Nodup) {i : Nat} (hi : i < L.length) (h : RowWk L i) : RowOk L i := by
  obtain ⟨h1, _, h3, h4⟩ := h
  refine ⟨h1, fun h0 => ?_, nodup_lt h4 ((mem_flat hi).nodup hn)⟩
  obtain ⟨h5, h6⟩ := h3 h0
  refine ⟨h5, fun j hj => ?_⟩
  have h7 := h6 j hj
  have h8 : (L.getD (i - 1) [] ++ L.getD i []).Nodup := by
    have := two_sub (L := L) (i := i - 1) (by omega)
    rw [show i - 1 + 1 = i by omega] at this
    exact this.nodup hn
  rw [List.nodup_append] at h8
  have h9 := h8.2.2 ((L.getD (i - 1) []).getD j 0) (getD_mem (by omega)) ((L.getD i []).getD j 0) (getD_mem hj)
  omega

theorem are_wk {L : List (List Int)} (h : ∀ i, i < L.length → RowWk L i) : areB L = isOrd L.flatten := by
  unfold areB isOrd
  rw [Bool.eq_iff_iff, decide_eq_true_iff, decide_eq_true_iff]
  exact ⟨fun hh => hh.2, fun hh => ⟨fun i hi => wk_ok hh.2.2.2 hi (h i hi), hh⟩⟩

theorem are_not_wk {L : List (List Int)} {i : Nat} (hi : i < L.length) (h : ¬ RowWk L i) : areB L = false := by
  unfold areB; rw [decide_eq_false_iff_not]
  intro hh
  apply h
  obtain ⟨h1, h2, h3⟩ := hh.1 i hi
  have h4 := flat_len_le hi
  have h5 := hh.2.2.1
  refine ⟨h1, by omega, fun h0 => ?_, h3.imp (fun h => Int.le_of_lt h)⟩
  obtain ⟨h6, h7⟩ := h2 h0
  exact ⟨h6, fun j hj => Int.le_of_lt (h7 j hj)⟩

/-- A row is gone through: the k first of its numbers ascend and lie below. -/
def ColsTo (L : List (List Int)) (i k : Nat) : Prop := ∀ j, j < k → (0 < j → (L.getD i []).getD (j - 1) 0 < (L.getD i []).getD j 0) ∧ (0 < i → (L.getD (i - 1) []).getD j 0 < (L.getD i []).getD j 0)

theorem cols_zero (L : List (List Int)) (i : Nat) : ColsTo L i 0 := fun j hj => by omega

theorem cols_next {L : List (List Int)} {i k : Nat} (h : ColsTo L i k) (h1 : 0 < k → (L.getD i []).getD (k - 1) 0 < (L.getD i []).getD k 0) (h2 : 0 < i → (L.getD (i - 1) []).getD k 0 < (L.getD i []).getD k 0) : ColsTo L i (k + 1) := by
  intro j hj
  by_cases e : j = k
  · subst e; exact ⟨h1, h2⟩
  · exact h j (by omega)

theorem up_sorted {r : List Int} (h : ∀ j, j < r.length → 0 < j → r.getD (j - 1) 0 < r.getD j 0) : r.Pairwise (· < ·) := by
  have step : ∀ m i, i + (m + 1) < r.length → r.getD i 0 < r.getD (i + (m + 1)) 0 := by
    intro m
    induction m with
    | zero =>
      intro i hi
      exact h (i + 1) hi (by omega)
    | succ m ih =>
      intro i hi
      have h1 := ih i (by omega)
      have h2 := h (i + (m + 1) + 1) (by omega) (by omega)
      rw [show i + (m + 1) + 1 - 1 = i + (m + 1) by omega] at h2
      rw [show i + (m + 1 + 1) = i + (m + 1) + 1 by omega]
      omega
  rw [List.pairwise_iff_getElem]
  intro i j hi hj hij
  have h1 := step (j - i - 1) i (by omega)
  rw [show i + (j - i - 1 + 1) = j by omega] at h1
  simpa [hi, hj] using h1

theorem cols_row {L : List (List Int)} {i : Nat} (h1 : 1 ≤ (L.getD i []).length) (h2 : 0 < i → (L.getD i []).length ≤ (L.getD (i - 1) []).length) (h : ColsTo L i (L.getD i []).length) : RowOk L i :=
  ⟨h1, fun h0 => ⟨h2 h0, fun j hj => (h j hj).2 h0⟩, up_sorted (fun j hj h0 => (h j hj).1 h0)⟩

theorem row_cols {L : List (List Int)} {i : Nat} (h : RowOk L i) : ColsTo L i (L.getD i []).length := by
  intro j hj
  refine ⟨fun h0 => sorted_getD h.2.2 (by omega) hj, fun h0 => (h.2.1 h0).2 j hj⟩

theorem flat_next {L : List (List Int)} {i : Nat} (h : i < L.length) : (L.take (i + 1)).flatten = (L.take i).flatten ++ L.getD i [] := take_flat h

end Go.Proofs.Yteiocoahllnoeab.AreM
