/-
  Contracts: CountSweeps of the model and of the program. Conditions: lists of at most 2^20 numbers.
-/
import Derived.Test.YtpkjnlabjmpokaaPx10
import Derived.Test.YtpkjnlabjmpokaaPx53
import Derived.Test.YtpkjnlabjmpokaaPx57
import Derived.Test.YtpkjnlabjmpokaaPx33

namespace Go.Proofs.Ytpkjnlabjmpokaa.SweepsC
open Go.RowKit SeesC IntsC ExactC NumC IterC OrdMath WordMath OrdFacts InC OrderC WordC RunC AtC EndsM SweepM StackM SweepWC SweepIC SameC

theorem sorted_iff {zs : List Int} (h : Ord zs) : (∀ i, i < zs.toArray.size - 1 → decide (zs.toArray[i + 1]! < zs.toArray[i]!) = false) ↔ zs = iota zs.length := by
  have hget : ∀ i, i < zs.length → zs.toArray[i]! = zs.getD i 0 := by
    intro i hi
    rw [getElem!_pos zs.toArray i (by simpa using hi)]
    simp [hi]
  constructor
  · intro hs
    refine sorted_is (ord_perm h) ?_
    have step : ∀ m i, i + m < zs.length → zs.getD i 0 ≤ zs.getD (i + m) 0 := by
      intro m
      induction m with
      | zero => intro i _; exact Int.le_refl _
      | succ m ih =>
        intro i hi
        have h1 := ih i (by omega)
        have h2 := of_decide_eq_false (hs (i + m) (by simp; omega))
        rw [hget (i + m + 1) (by omega), hget (i + m) (by omega)] at h2
        have e : i + (m + 1) = i + m + 1 := rfl
        rw [e]
        omega
    rw [List.pairwise_iff_getElem]
    intro i j hi hj hij
    have h1 := step (j - i) i (by omega)
    rw [show i + (j - i) = j by omega] at h1
    have h2 : zs[i] ≠ zs[j] := fun e => by have := (List.getElem_inj h.2.2.2).1 e; omega
    have e1 : zs.getD i 0 = zs[i] := by simp [hi]
    have e2 : zs.getD j 0 = zs[j] := by simp [hj]
    rw [e1, e2] at h1
    omega
  · intro e i hi
    have hi2 : i + 1 < zs.length := by simp at hi; omega
    rw [decide_eq_false_iff_not, hget (i + 1) hi2, hget i (by omega), e, iota_getD hi2, iota_getD (by omega)]
    omega

theorem isSorted_any (zs : List Int) (hord : Ord zs) (r : Bool) (hr : decide (zs = iota zs.length) = r) (W : World) (v : Value) (n : Nat) (hv : Sees W v n (vals zs)) :
    Calls Try.prog 105 #[v] W fun e w' => e = .returned (.bool r) ∧ ∃ q, w' = W.drewN q := by
  have hl : zs.length = n := by simpa using hv.1
  have h7 := hord.2.1
  obtain ⟨b, o, cap, rfl, _, _, hbl, hcell⟩ := sees_cells hv (by have := hord.1; omega)
  have hsz : zs.toArray.size = n := by simpa using hl
  have h1 := AnyO.slices_IsSorted_int Try.laysIS b o cap zs.toArray W (fun i hi => by
    have hi2 : i < zs.length := by simpa using hi
    rw [hcell i hi2, getElem!_pos zs.toArray i hi]
    simp [hi2]) (by omega)
  have e : Lib.downOK (fun x y => decide (x < y)) zs.toArray (zs.toArray.size - 1) = r := by
    rw [← hr, Bool.eq_iff_iff, Lib.downOK_iff, decide_eq_true_iff]
    exact sorted_iff hord
  rw [e] at h1
  rw [hsz] at h1
  exact h1

end Go.Proofs.Ytpkjnlabjmpokaa.SweepsC
