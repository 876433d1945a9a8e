/-
  All orders of as many numbers, in ascending order. Conditions: none. Plain facts.
-/
import Derived.Test.YtpkjnlabjmpokaaOrdFacts
import Derived.Test.YtpkjnlabjmpokaaSorted
import Derived.Test.YtpkjnlabjmpokaaPatMath
namespace Go.Proofs.Ytpkjnlabjmpokaa.AllO
open OrdMath OrdFacts PatMath CmpC ListsBC OutsMath

def allO (n : Nat) : List (List Int) := (List.range (fact n)).map (fun k => atRun n (iota n) k)

theorem allO_len (n : Nat) : (allO n).length = fact n := by simp [allO]

theorem allO_take {m k : Nat} (hk : k < fact m) : (allO m).take (k + 1) = (allO m).take k ++ [atRun m (iota m) k] := by
  rw [List.take_succ_eq_append_getElem (by rw [allO_len]; exact hk)]
  congr 1
  simp [allO]

theorem mem_allO {n : Nat} {zs : List Int} (h1 : 1 ≤ n) (h7 : n ≤ 7) : zs ∈ allO n ↔ (Ord zs ∧ zs.length = n) := by
  unfold allO
  rw [List.mem_map]
  constructor
  · rintro ⟨k, hk, rfl⟩
    rw [List.mem_range] at hk
    exact ⟨(rank_of_at h1 h7 hk).1, atRun_len n (iota n) k⟩
  · rintro ⟨h, hl⟩
    have h2 := at_of_rank h
    rw [hl] at h2
    exact ⟨_, List.mem_range.2 h2.1, h2.2⟩

theorem allO_ranks (n : Nat) : (allO n).Pairwise (fun a b => rankR a < rankR b) := by
  unfold allO
  rw [List.pairwise_map, List.pairwise_iff_getElem]
  intro i j hi hj hij
  have hi2 : i < fact n := by simpa using hi
  have hj2 : j < fact n := by simpa using hj
  rw [List.getElem_range, List.getElem_range, (rank_at n (iota n) i (iota_len n) (iota_sorted n) hi2).2, (rank_at n (iota n) j (iota_len n) (iota_sorted n) hj2).2]
  exact hij

theorem rank_mono : ∀ (a b left : List Int), left.Pairwise (· < ·) → a.Perm left → b.Perm left → cmpL a b < 0 → rankR a < rankR b
  | [], b, left, _, ha, hb, h => by
    have : left = [] := by simpa using ha.symm
    subst this
    have : b = [] := by simpa using hb
    subst this
    exact absurd h (by simp [cmpL])
  | x :: a, [], left, _, ha, hb, _ => by
    have : left = [] := by simpa using hb.symm
    subst this
    exact absurd ha (by simp)
  | x :: a, y :: b, left, hp, ha, hb, h => by
    have hca : cl x a = cl x left := by rw [← cl_perm ha, cl_self]
    have hcb : cl y b = cl y left := by rw [← cl_perm hb, cl_self]
    have hlen : a.length = b.length := by have := ha.length_eq; have := hb.length_eq; simp at *; omega
    show cl x a * fact a.length + rankR a < cl y b * fact b.length + rankR b
    rw [hca, hcb, ← hlen]
    have hra := rankR_lt a
    unfold cmpL at h
    by_cases hxy : x < y
    · have hc : cl x left < cl y left := cl_lt_of_lt hxy (ha.mem_iff.1 (by simp))
      have h1 : (cl x left + 1) * fact a.length ≤ cl y left * fact a.length := Nat.mul_le_mul_right _ hc
      rw [Nat.add_mul] at h1
      omega
    · rw [if_neg hxy] at h
      by_cases hyx : y < x
      · rw [if_pos hyx] at h
        exact absurd h (by decide)
      · rw [if_neg hyx] at h
        have e : x = y := by omega
        subst e
        have h1 := sorted_at left x hp (ha.mem_iff.1 (by simp))
        have he := erase_perm h1.2
        rw [h1.1] at he
        have pa : a.Perm (left.eraseIdx (cl x left)) := (ha.trans he.symm).cons_inv
        have pb : b.Perm (left.eraseIdx (cl x left)) := (hb.trans he.symm).cons_inv
        have ih := rank_mono a b _ (hp.sublist (List.eraseIdx_sublist left _)) pa pb h
        omega

theorem allO_sorted {n : Nat} (h1 : 1 ≤ n) (h7 : n ≤ 7) : Sorted (allO n) := by
  unfold Sorted
  refine List.Pairwise.imp_of_mem ?_ (allO_ranks n)
  intro a b ha hb hr
  have ha2 := (mem_allO h1 h7).1 ha
  have hb2 := (mem_allO h1 h7).1 hb
  have pa : a.Perm (iota n) := by have := ord_perm ha2.1; rw [ha2.2] at this; exact this
  have pb : b.Perm (iota n) := by have := ord_perm hb2.1; rw [hb2.2] at this; exact this
  by_cases h : cmpL a b < 0
  · exact h
  · exfalso
    by_cases h0 : cmpL a b = 0
    · have := cmpL_eq a b h0
      rw [this] at hr
      omega
    · have h2 := cmpL_neg a b
      have := rank_mono b a (iota n) (iota_sorted n) pb pa (by omega)
      omega

end Go.Proofs.Ytpkjnlabjmpokaa.AllO
