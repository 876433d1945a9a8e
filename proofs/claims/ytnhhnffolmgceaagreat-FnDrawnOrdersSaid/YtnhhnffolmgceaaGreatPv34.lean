/-
  Contracts and plain facts that the laws' texts lean on. Conditions: as each states.
-/
import Derived.Test.YtnhhnffolmgceaaGreatPv8
import Derived.Test.YtnhhnffolmgceaaGreatPv22
import Derived.Test.YtnhhnffolmgceaaGreatPv10
import Derived.Test.YtnhhnffolmgceaaGreatPv21
import Derived.Test.YtnhhnffolmgceaaGreatPv24
import Derived.Test.YtnhhnffolmgceaaGreatPv2
import Derived.Test.YtnhhnffolmgceaaGreatPv16

section
namespace Go.Proofs.YtnhhnffolmgceaaGreat.RankWC
open Go.RowKit SeesC IntsC ExactC NumC IterC WordMath InC WordC WordsC WordsOfC EndsM

/-- Where the search ends. -/
theorem found_word {w : ByteArray} {m : Nat} (h1 : 1 ≤ m) (h7 : m ≤ 7) (hm : m = w.size / 2) :
    (Lib.bsGo (fun t => Op.bytesLess ((allW m).getD t w).toList w.toList) (allW m).length 0 (allW m).length < (allW m).length ∧ (allW m).getD (Lib.bsGo (fun t => Op.bytesLess ((allW m).getD t w).toList w.toList) (allW m).length 0 (allW m).length) w = w) ↔ Word w := by
  constructor
  · rintro ⟨h2, h3⟩
    have h4 : (allW m)[Lib.bsGo (fun t => Op.bytesLess ((allW m).getD t w).toList w.toList) (allW m).length 0 (allW m).length] = w := by
      rw [List.getD_eq_getElem?_getD, List.getElem?_eq_getElem h2, Option.getD_some] at h3
      exact h3
    exact (all_mem h1 h7 (h4 ▸ List.getElem_mem h2)).1
  · intro hw
    have hr := all_rank hw
    rw [← hm] at hr
    obtain ⟨g1, g2⟩ := List.getElem?_eq_some_iff.1 hr
    have e : Lib.bsGo (fun t => Op.bytesLess ((allW m).getD t w).toList w.toList) (allW m).length 0 (allW m).length = rankL w.data.toList 0 := by
      refine Lib.bsGo_spec _ _ ?_ ?_ _ _ _ (by omega) (Nat.zero_le _) (by omega)
      · intro t ht
        have h5 := all_before hr (t := t) (by omega)
        rw [decide_eq_true ht] at h5
        unfold lss at h5
        rw [Lib.toList_data, Lib.toList_data, List.getD_eq_getElem?_getD, List.getElem?_eq_getElem (by omega), Option.getD_some]
        exact h5
      · intro t ht
        rw [Lib.toList_data, Lib.toList_data]
        by_cases h6 : t < (allW m).length
        · have h5 := all_before hr (t := t) h6
          rw [decide_eq_false (by omega)] at h5
          unfold lss at h5
          rw [List.getD_eq_getElem?_getD, List.getElem?_eq_getElem h6, Option.getD_some]
          exact h5
        · rw [List.getD_eq_getElem?_getD, List.getElem?_eq_none (by omega), Option.getD_none]
          exact less_self _
    rw [e]
    exact ⟨g1, by rw [List.getD_eq_getElem?_getD, hr, Option.getD_some]⟩

theorem found_rank {w : ByteArray} {m : Nat} (hm : m = w.size / 2) (hw : Word w) :
    Lib.bsGo (fun t => Op.bytesLess ((allW m).getD t w).toList w.toList) (allW m).length 0 (allW m).length = rankL w.data.toList 0 := by
  have hr := all_rank hw
  rw [← hm] at hr
  obtain ⟨g1, g2⟩ := List.getElem?_eq_some_iff.1 hr
  refine Lib.bsGo_spec _ _ ?_ ?_ _ _ _ (by omega) (Nat.zero_le _) (by omega)
  · intro t ht
    have h5 := all_before hr (t := t) (by omega)
    rw [decide_eq_true ht] at h5
    unfold lss at h5
    rw [Lib.toList_data, Lib.toList_data, List.getD_eq_getElem?_getD, List.getElem?_eq_getElem (by omega), Option.getD_some]
    exact h5
  · intro t ht
    rw [Lib.toList_data, Lib.toList_data]
    by_cases h6 : t < (allW m).length
    · have h5 := all_before hr (t := t) h6
      rw [decide_eq_false (by omega)] at h5
      unfold lss at h5
      rw [List.getD_eq_getElem?_getD, List.getElem?_eq_getElem h6, Option.getD_some]
      exact h5
    · rw [List.getD_eq_getElem?_getD, List.getElem?_eq_none (by omega), Option.getD_none]
      exact less_self _

end Go.Proofs.YtnhhnffolmgceaaGreat.RankWC

end

section
namespace Go.Proofs.YtnhhnffolmgceaaGreat.CanSC
open Go.RowKit SeesC IntsC ExactC OrdMath BesM ConfC FitsC ListsC Own1C SameC AppendTwoC WordC GoSC
set_option linter.unusedVariables false

def canB (zs : List Int) (k d : Nat) (so : List Int) (u x : Nat) : Bool := (List.range x).any fun (y : Nat) => okN zs so (y : Int) && canG zs k d (so ++ [(y : Int)]) (max u (y + 1))

theorem canB_next (zs : List Int) (k d : Nat) (so : List Int) (u x : Nat) : canB zs k d so u (x + 1) = (canB zs k d so u x || (okN zs so (x : Int) && canG zs k d (so ++ [(x : Int)]) (max u (x + 1)))) := by
  unfold canB
  rw [List.range_succ, List.any_append]
  simp

theorem canB_mono {zs : List Int} {k d : Nat} {so : List Int} {u x y : Nat} (h : x ≤ y) (hx : canB zs k d so u x = true) : canB zs k d so u y = true := by
  unfold canB at *
  rw [List.any_eq_true] at *
  obtain ⟨z, hz, h2⟩ := hx
  exact ⟨z, List.mem_range.2 (by have := List.mem_range.1 hz; omega), h2⟩

theorem sees_empty (W : World) : Sees (W.alloc (.cells #[] 3)) (.slice (some ⟨W.heap.size, 0, none⟩) 0 0) 0 (vals []) :=
  Sees.owns (World.ownsRow_made (base := W.heap.size) (e := 3) (size := 1) W #[] 0 (Nat.le_refl _) (by unfold maxLen; omega) rfl)

end Go.Proofs.YtnhhnffolmgceaaGreat.CanSC

end
