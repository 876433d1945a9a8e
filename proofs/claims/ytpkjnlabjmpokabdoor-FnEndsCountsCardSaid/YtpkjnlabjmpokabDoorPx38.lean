/-
  Contracts: RankOfWord, WordAt and CountOneStack of the model and of the program. Conditions: texts of at most 2^20 bytes.
-/
import Derived.Test.YtpkjnlabjmpokabDoorPx32
import Derived.Test.YtpkjnlabjmpokabDoorPx34

namespace Go.Proofs.YtpkjnlabjmpokabDoor.Rank4C
open Go.RowKit SeesC IntsC ExactC NumC IterC WordMath InC WordC WordsC WordsOfC EndsM RankWC EndsC

theorem wf_small {n : Int} (h0 : 0 ≤ n) (h1 : n ≤ 1048576) : (Lit.int .i64 n).wf = true := by
  have e1 : IntKind.i64.min = -9223372036854775808 := rfl
  have e2 : IntKind.i64.max = 9223372036854775807 := rfl
  simp [Lit.wf, e1, e2]
  omega

theorem all_pos {m : Nat} (h1 : 1 ≤ m) (h7 : m ≤ 7) : 0 < (allW m).length := by
  rw [all_len]
  have : m = 1 ∨ m = 2 ∨ m = 3 ∨ m = 4 ∨ m = 5 ∨ m = 6 ∨ m = 7 := by omega
  rcases this with rfl | rfl | rfl | rfl | rfl | rfl | rfl <;> decide +kernel

theorem all_16k {m : Nat} (h7 : m ≤ 7) : (allW m).length ≤ 16384 := wordsFrom_16k (by omega)

theorem words_ans {m : Nat} (h1 : 1 ≤ m) (h7 : m ≤ 7) : wordsAns (m : Int) = (allW m, true) := by
  unfold wordsAns
  rw [if_pos (by omega), Int.toNat_natCast]
  rfl
theorem words_not {n : Int} (h : ¬ (1 ≤ n ∧ n ≤ 7)) : wordsAns n = ([], false) := by
  unfold wordsAns
  rw [if_neg h]

theorem str_cells {w : World} {base g n cap : Nat} {ss : List ByteArray} (x : ByteArray) (h : w.ownsRow base 9 1 (.slice (some ⟨g, 0, none⟩) n cap) n (ss.map Value.string)) : ∀ j, j < n → w.cell? ⟨g, 0 + j, none⟩ = some (.string (ss.getD j x)) := by
  intro j hj
  have hl : ss.length = n := by simpa using h.1
  rw [h.cellAt (0 + j) (by omega)]
  simp [show j < ss.length by omega]

theorem drop_byt {s : ByteArray} {i : Nat} (h : i < s.size) : s.data.toList.drop i = byt s i :: s.data.toList.drop (i + 1) := by
  have h2 : i < s.data.toList.length := by rw [Array.length_toList]; exact h
  rw [List.drop_eq_getElem_cons h2]
  congr 1
  unfold byt
  rw [List.getD_eq_getElem?_getD, List.getElem?_eq_getElem h2, Option.getD_some]

end Go.Proofs.YtpkjnlabjmpokabDoor.Rank4C
