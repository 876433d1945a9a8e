/-
  The least and the greatest number of a list, and what is less than a number or not. Conditions: none. Plain facts on lists.
-/
import Derived.Lib.Slices
import Derived.Test.YtpkjnlabjmpokaaPx15

namespace Go.Proofs.Ytpkjnlabjmpokaa.MinMaxC
open OrdMath BesM

theorem foldl_min_lt (a : Int) : ∀ (l : List Int) (m : Int), l.foldl min m < a ↔ m < a ∨ ∃ z ∈ l, z < a
  | [], m => by simp
  | x :: l, m => by
    rw [List.foldl_cons, foldl_min_lt a l (min m x)]
    constructor
    · rintro (h | ⟨z, hz, h⟩)
      · by_cases hm : m < a
        · exact .inl hm
        · exact .inr ⟨x, by simp, by omega⟩
      · exact .inr ⟨z, by simp [hz], h⟩
    · rintro (h | ⟨z, hz, h⟩)
      · exact .inl (by omega)
      · rcases List.mem_cons.1 hz with rfl | hz
        · exact .inl (by omega)
        · exact .inr ⟨z, hz, h⟩

theorem foldl_max_lt (a : Int) : ∀ (l : List Int) (m : Int), l.foldl max m < a ↔ m < a ∧ ∀ z ∈ l, z < a
  | [], m => by simp
  | x :: l, m => by
    rw [List.foldl_cons, foldl_max_lt a l (max m x)]
    constructor
    · rintro ⟨h1, h2⟩
      exact ⟨by omega, fun z hz => by
        rcases List.mem_cons.1 hz with rfl | hz
        · omega
        · exact h2 z hz⟩
    · rintro ⟨h1, h2⟩
      have := h2 x (by simp)
      exact ⟨by omega, fun z hz => h2 z (by simp [hz])⟩

theorem minOf_lt {l : List Int} (h : l ≠ []) (a : Int) : Go.Lib.minOf l < a ↔ ∃ z ∈ l, z < a := by
  cases l with
  | nil => exact absurd rfl h
  | cons x l =>
    unfold Go.Lib.minOf
    rw [foldl_min_lt]
    constructor
    · rintro (h | h)
      · exact ⟨x, by simp, h⟩
      · exact h
    · intro h; exact .inr h

theorem maxOf_lt {l : List Int} (h : l ≠ []) (a : Int) : Go.Lib.maxOf l < a ↔ ∀ z ∈ l, z < a := by
  cases l with
  | nil => exact absurd rfl h
  | cons x l =>
    unfold Go.Lib.maxOf
    rw [foldl_max_lt]
    constructor
    · rintro ⟨_, h⟩; exact h
    · intro h; exact ⟨h x (by simp), h⟩

theorem sh_minmax {l : List Int} (h : l ≠ []) : (∀ s ∈ l, 0 ≤ s ∧ s ≤ 3) ↔ 0 ≤ Go.Lib.minOf l ∧ Go.Lib.maxOf l < 4 := by
  rw [maxOf_lt h]
  have h1 := minOf_lt h 0
  constructor
  · intro h2
    refine ⟨?_, fun z hz => by have := h2 z hz; omega⟩
    apply Int.not_lt.1
    rw [h1]
    rintro ⟨z, hz, h3⟩
    have := h2 z hz
    omega
  · rintro ⟨h2, h3⟩ s hs
    have h4 := h3 s hs
    refine ⟨?_, by omega⟩
    apply Int.not_lt.1
    intro h5
    have := h1.2 ⟨s, hs, h5⟩
    omega

/-- The program's way to tell a conflict. -/
theorem conf_min {zs : List Int} (ho : Ord zs) {i j : Nat} (hij : i < j) (hj : j < zs.length) : conf zs i j = (decide (zs.getD i 0 < zs.getD j 0) && decide (Go.Lib.minOf (zs.drop j) < zs.getD i 0)) := by
  have hne : zs.getD j 0 ≠ zs.getD i 0 := by
    intro e
    have h1 : zs[j] = zs[i] := by simpa [hj, show i < zs.length by omega] using e
    have := (List.getElem_inj ho.2.2.2).1 h1
    omega
  have hd : zs.drop j = zs.getD j 0 :: zs.drop (j + 1) := by
    rw [List.drop_eq_getElem_cons hj]; simp [hj]
  have hm := minOf_lt (l := zs.drop j) (by rw [hd]; simp) (zs.getD i 0)
  unfold conf
  by_cases h1 : zs.getD i 0 < zs.getD j 0
  · rw [decide_eq_true h1, decide_eq_false (by omega : ¬ zs.getD j 0 < zs.getD i 0)]
    simp only [Bool.not_false, Bool.true_and]
    have : (zs.drop (j + 1)).any (fun z => decide (z < zs.getD i 0)) = true ↔ Go.Lib.minOf (zs.drop j) < zs.getD i 0 := by
      rw [hm, hd, List.any_eq_true]
      constructor
      · rintro ⟨z, hz, h2⟩; exact ⟨z, by simp [hz], of_decide_eq_true h2⟩
      · rintro ⟨z, hz, h2⟩
        rcases List.mem_cons.1 hz with rfl | hz
        · omega
        · exact ⟨z, hz, decide_eq_true h2⟩
    by_cases h2 : Go.Lib.minOf (zs.drop j) < zs.getD i 0
    · rw [this.2 h2, decide_eq_true h2]
    · rw [decide_eq_false h2]
      cases h3 : (zs.drop (j + 1)).any (fun z => decide (z < zs.getD i 0)) with
      | false => rfl
      | true => exact absurd (this.1 h3) h2
  · rw [decide_eq_false h1]
    have : zs.getD j 0 < zs.getD i 0 := by omega
    rw [decide_eq_true this]
    rfl

end Go.Proofs.Ytpkjnlabjmpokaa.MinMaxC
