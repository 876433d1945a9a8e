/-
  Contracts and plain facts that the laws' texts lean on. Conditions: as each states.
-/
import Derived.Test.YtnhhnffolmgceaaGreatPv34
import Derived.Test.YtnhhnffolmgceaaGreatPv33
import Derived.Test.YtnhhnffolmgceaaGreatPv22
import Derived.Test.YtnhhnffolmgceaaGreatPv10
import Derived.Test.YtnhhnffolmgceaaGreatPv5
import Derived.Test.YtnhhnffolmgceaaGreatPv32
import Derived.Test.YtnhhnffolmgceaaGreatPv24

section
namespace Go.Proofs.YtnhhnffolmgceaaGreat.Rank4C
open Go.RowKit SeesC IntsC ExactC NumC IterC WordMath InC WordC WordsC WordsOfC EndsM RankWC EndsC

theorem wf_small {n : Int} (h0 : 0 ≤ n) (h1 : n ≤ 1048576) : (Lit.int .i64 n).wf = true := by
  have e1 : IntKind.i64.min = -9223372036854775808 := rfl
  have e2 : IntKind.i64.max = 9223372036854775807 := rfl
  simp [Lit.wf, e1, e2]
  omega

theorem all_pos {m : Nat} (h1 : 1 ≤ m) (h7 : m ≤ 7) : 0 < (allW m).length := by
  rw [all_len]
  have : m = 1 ∨ m = 2 ∨ m = 3 ∨ m = 4 ∨ m = 5 ∨ m = 6 ∨ m = 7 := by omega
  rcases this with rfl | rfl | rfl | rfl | rfl | rfl | rfl <;> decide +kernel

theorem all_16k {m : Nat} (h7 : m ≤ 7) : (allW m).length ≤ 16384 := wordsFrom_16k (by omega)

theorem words_ans {m : Nat} (h1 : 1 ≤ m) (h7 : m ≤ 7) : wordsAns (m : Int) = (allW m, true) := by
  unfold wordsAns
  rw [if_pos (by omega), Int.toNat_natCast]
  rfl
theorem words_not {n : Int} (h : ¬ (1 ≤ n ∧ n ≤ 7)) : wordsAns n = ([], false) := by
  unfold wordsAns
  rw [if_neg h]

theorem str_cells {w : World} {base g n cap : Nat} {ss : List ByteArray} (x : ByteArray) (h : w.ownsRow base 9 1 (.slice (some ⟨g, 0, none⟩) n cap) n (ss.map Value.string)) : ∀ j, j < n → w.cell? ⟨g, 0 + j, none⟩ = some (.string (ss.getD j x)) := by
  intro j hj
  have hl : ss.length = n := by simpa using h.1
  rw [h.cellAt (0 + j) (by omega)]
  simp [show j < ss.length by omega]

theorem drop_byt {s : ByteArray} {i : Nat} (h : i < s.size) : s.data.toList.drop i = byt s i :: s.data.toList.drop (i + 1) := by
  have h2 : i < s.data.toList.length := by rw [Array.length_toList]; exact h
  rw [List.drop_eq_getElem_cons h2]
  congr 1
  unfold byt
  rw [List.getD_eq_getElem?_getD, List.getElem?_eq_getElem h2, Option.getD_some]

end Go.Proofs.YtnhhnffolmgceaaGreat.Rank4C

end

section
namespace Go.Proofs.YtnhhnffolmgceaaGreat.CollWC
set_option linter.unusedVariables false
open Go.RowKit SeesC IntsC ExactC OrdMath WordMath WordC WordsC WordsOfC EndsM Rank4C KnownC

theorem allW_1k {m : Nat} (h1 : 1 ≤ m) (h6 : m ≤ 6) : 1 ≤ (allW m).length ∧ (allW m).length ≤ 1000 := by
  rw [all_len]
  have h : ∀ m < 7, 1 ≤ m → 1 ≤ ends (2 * m) 0 ∧ ends (2 * m) 0 ≤ 1000 := by decide +kernel
  exact h m (by omega) h1

/-- All words for n numbers are returned, in memory of the call's own. -/
def AllWTo (m : Nat) (w : World) (e : Ending) (w' : World) : Prop := ∃ v, e = .returned v ∧ w'.ownsRow w.heap.size 9 1 v (allW m).length ((allW m).map Value.string) ∧ Below w.heap.size w w'

end Go.Proofs.YtnhhnffolmgceaaGreat.CollWC

end

section
namespace Go.Proofs.YtnhhnffolmgceaaGreat.SweepsC
open Go.RowKit SeesC IntsC ExactC NumC IterC OrdMath WordMath OrdFacts InC OrderC WordC RunC AtC EndsM SweepM StackM SweepWC SweepIC SameC

theorem sorted_iff {zs : List Int} (h : Ord zs) : (∀ i, i < zs.toArray.size - 1 → decide (zs.toArray[i + 1]! < zs.toArray[i]!) = false) ↔ zs = iota zs.length := by
  have hget : ∀ i, i < zs.length → zs.toArray[i]! = zs.getD i 0 := by
    intro i hi
    rw [getElem!_pos zs.toArray i (by simpa using hi)]
    simp [hi]
  constructor
  · intro hs
    refine sorted_is (ord_perm h) ?_
    have step : ∀ m i, i + m < zs.length → zs.getD i 0 ≤ zs.getD (i + m) 0 := by
      intro m
      induction m with
      | zero => intro i _; exact Int.le_refl _
      | succ m ih =>
        intro i hi
        have h1 := ih i (by omega)
        have h2 := of_decide_eq_false (hs (i + m) (by simp; omega))
        rw [hget (i + m + 1) (by omega), hget (i + m) (by omega)] at h2
        have e : i + (m + 1) = i + m + 1 := rfl
        rw [e]
        omega
    rw [List.pairwise_iff_getElem]
    intro i j hi hj hij
    have h1 := step (j - i) i (by omega)
    rw [show i + (j - i) = j by omega] at h1
    have h2 : zs[i] ≠ zs[j] := fun e => by have := (List.getElem_inj h.2.2.2).1 e; omega
    have e1 : zs.getD i 0 = zs[i] := by simp [hi]
    have e2 : zs.getD j 0 = zs[j] := by simp [hj]
    rw [e1, e2] at h1
    omega
  · intro e i hi
    have hi2 : i + 1 < zs.length := by simp at hi; omega
    rw [decide_eq_false_iff_not, hget (i + 1) hi2, hget i (by omega), e, iota_getD hi2, iota_getD (by omega)]
    omega

end Go.Proofs.YtnhhnffolmgceaaGreat.SweepsC

end
