/-
  What a row of any elements of one cell owns behind a sort, and the sort of lists of lists by slices.Compare. Conditions: at most 2^20 lists of one length.
-/
import Derived.Test.YtmnggcnipjdimabSortLay
import Derived.Test.YtmnggcnipjdimabSorted
import Derived.Test.YtmnggcnipjdimabLists
namespace Go.Proofs.Ytmnggcnipjdimab.SortRowC
open Go.Shelf Go.RowKit Go.Lib Go.Sort
open SeesC IntsC ExactC CmpC ListsC ListsBC OutsMath

theorem row_behind {α : Type} [Inhabited α] {enc : α → Value} {w : World} {base g cap m : Nat} {e : TypeId} {os : Array Obj} {d : Array α} {xs : List Value}
    (h : w.ownsRow base e 1 (.slice (some ⟨g, 0, none⟩) d.size cap) d.size xs) : (sortWorld enc w g 0 m d os).ownsRow base e 1 (.slice (some ⟨g, 0, none⟩) d.size cap) d.size (d.toList.map enc) := by
  rcases h.2 with ⟨h0, _⟩ | ⟨g', cap', cur, h0, hbase, hb, h1, h2, h3, h4⟩
  · cases h0
  · cases h0
    refine ⟨by simp, .inr ⟨g, cap, putCells enc 0 d cur, rfl, hbase, ?_, h1, h2, by simp [putCells, h3], ?_⟩⟩
    · have hg : g < w.heap.size := (Array.getElem?_eq_some_iff.1 hb).1
      unfold sortWorld
      rw [heap_grow_old _ _ (by simpa using hg)]
      simp [putRow, mapBlock, Sort.ahead, Array.getElem?_modify, hb, onCells]
    · rw [Nat.mul_one]
      apply List.ext_getElem?
      intro j
      by_cases hj : j < d.size
      · rw [List.getElem?_take_of_lt hj, Array.getElem?_toList]
        simp [putCells, hj, show j < cur.size by omega]
      · rw [List.getElem?_take_eq_none (by omega), List.getElem?_eq_none (by simp; omega)]

theorem grown_behind {α : Type} [Inhabited α] {enc : α → Value} {w : World} {g m : Nat} {os : Array Obj} (d : Array α) : w.grownBy (sortWorld enc w g 0 m d os) (some g) := by
  unfold sortWorld
  refine ⟨rfl, rfl, rfl, by simp, fun k hk hne => ?_⟩
  rw [heap_grow_old _ _ (by simpa using hk)]
  have : g ≠ k := fun e => hne (by rw [e])
  simp [putRow, mapBlock, Sort.ahead, Array.getElem?_modify, this]

theorem holds_row {α : Type} [Inhabited α] {enc : α → Value} {w : World} {base g cap : Nat} {e : TypeId} {d : Array α}
    (h : w.ownsRow base e 1 (.slice (some ⟨g, 0, none⟩) d.size cap) d.size (d.toList.map enc)) : Holds enc w g 0 d := by
  intro j hj
  refine ⟨?_, ?_⟩
  · rw [Nat.zero_add, h.cellAt j (by omega)]
    simp [hj]
  · exact h.frozenAt (0 + j)

end Go.Proofs.Ytmnggcnipjdimab.SortRowC
