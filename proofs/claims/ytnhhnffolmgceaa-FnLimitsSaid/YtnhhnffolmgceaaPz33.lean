/-
  Contracts: RankOfWord, WordAt and CountOneStack of the model and of the program. Conditions: texts of at most 2^20 bytes.
-/
import Derived.Test.YtnhhnffolmgceaaPz25
import Derived.Test.YtnhhnffolmgceaaPz29

namespace Go.Proofs.Ytnhhnffolmgceaa.Rank4C
open Go.RowKit SeesC IntsC ExactC NumC IterC WordMath InC WordC WordsC WordsOfC EndsM RankWC EndsC

theorem wf_small {n : Int} (h0 : 0 ≤ n) (h1 : n ≤ 1048576) : (Lit.int .i64 n).wf = true := by
  have e1 : IntKind.i64.min = -9223372036854775808 := rfl
  have e2 : IntKind.i64.max = 9223372036854775807 := rfl
  simp [Lit.wf, e1, e2]
  omega

theorem all_pos {m : Nat} (h1 : 1 ≤ m) (h7 : m ≤ 7) : 0 < (allW m).length := by
  rw [all_len]
  have : m = 1 ∨ m = 2 ∨ m = 3 ∨ m = 4 ∨ m = 5 ∨ m = 6 ∨ m = 7 := by omega
  rcases this with rfl | rfl | rfl | rfl | rfl | rfl | rfl <;> decide +kernel

theorem all_16k {m : Nat} (h7 : m ≤ 7) : (allW m).length ≤ 16384 := wordsFrom_16k (by omega)

theorem words_ans {m : Nat} (h1 : 1 ≤ m) (h7 : m ≤ 7) : wordsAns (m : Int) = (allW m, true) := by
  unfold wordsAns
  rw [if_pos (by omega), Int.toNat_natCast]
  rfl
theorem words_not {n : Int} (h : ¬ (1 ≤ n ∧ n ≤ 7)) : wordsAns n = ([], false) := by
  unfold wordsAns
  rw [if_neg h]

theorem str_cells {w : World} {base g n cap : Nat} {ss : List ByteArray} (x : ByteArray) (h : w.ownsRow base 9 1 (.slice (some ⟨g, 0, none⟩) n cap) n (ss.map Value.string)) : ∀ j, j < n → w.cell? ⟨g, 0 + j, none⟩ = some (.string (ss.getD j x)) := by
  intro j hj
  have hl : ss.length = n := by simpa using h.1
  rw [h.cellAt (0 + j) (by omega)]
  simp [show j < ss.length by omega]

theorem drop_byt {s : ByteArray} {i : Nat} (h : i < s.size) : s.data.toList.drop i = byt s i :: s.data.toList.drop (i + 1) := by
  have h2 : i < s.data.toList.length := by rw [Array.length_toList]; exact h
  rw [List.drop_eq_getElem_cons h2]
  congr 1
  unfold byt
  rw [List.getD_eq_getElem?_getD, List.getElem?_eq_getElem h2, Option.getD_some]

set_option maxRecDepth 100000 in
theorem implOne (n : Int) (r' : Int) (b : Bool) (h : oneAns n = (r', b)) (hw : (Lit.int .i64 n).wf = true) (W : World) :
    Calls Try.prog 40 #[.int .i64 n] W fun e w' => e = .returned (.tuple #[.int .i64 r', .bool b]) ∧ Below W.heap.size W w' := by
  unfold oneAns at h
  obtain ⟨xs, hwa, hxs⟩ : ∃ xs, wordsAns n = (xs, b) ∧ (xs.length : Int) = r' := by
    by_cases h17 : 1 ≤ n ∧ n ≤ 7
    · rw [if_pos h17] at h
      cases h
      obtain ⟨m, rfl⟩ : ∃ m : Nat, n = (m : Int) := ⟨n.toNat, by omega⟩
      exact ⟨allW m, words_ans (by omega) (by omega), by rw [all_len, Int.toNat_natCast]⟩
    · rw [if_neg h17] at h
      cases h
      exact ⟨[], words_not h17, rfl⟩
  have hxl := words_len hwa
  have CW := Go.Lib.hid (fun W' => implWords n xs b hwa hw W')
  have HX := Go.Lib.hid hxs
  clear h hwa hxs
  go_enter Try.func40, Try.ntmps40
  go_wp2_with fail
  refine (CW.out _).mono ?_
  rintro e w1 ⟨v, rfl, ho, hb⟩
  obtain ⟨_, ad, cap, rfl, _, _⟩ := Sees.owns ho
  have H1 := Go.Lib.hid hb
  clear ho hb
  go_wp2_with fail
  go_ret2
  exact ⟨by rw [← HX.out]; rfl, H1.out⟩

end Go.Proofs.Ytnhhnffolmgceaa.Rank4C
