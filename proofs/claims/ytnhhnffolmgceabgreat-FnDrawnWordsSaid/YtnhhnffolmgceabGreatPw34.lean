/-
  Contracts and plain facts that the laws' texts lean on. Conditions: as each states.
-/
import Derived.Test.YtnhhnffolmgceabGreatPw6
import Derived.Test.YtnhhnffolmgceabGreatPw24
import Derived.Test.YtnhhnffolmgceabGreatPw32
import Derived.Test.YtnhhnffolmgceabGreatPw9

section
namespace Go.Proofs.YtnhhnffolmgceabGreat.RankWC
open Go.RowKit SeesC IntsC ExactC NumC IterC WordMath InC WordC WordsC WordsOfC EndsM

/-- Where the search ends. -/
theorem found_word {w : ByteArray} {m : Nat} (h1 : 1 ≤ m) (h7 : m ≤ 7) (hm : m = w.size / 2) :
    (Lib.bsGo (fun t => Op.bytesLess ((allW m).getD t w).toList w.toList) (allW m).length 0 (allW m).length < (allW m).length ∧ (allW m).getD (Lib.bsGo (fun t => Op.bytesLess ((allW m).getD t w).toList w.toList) (allW m).length 0 (allW m).length) w = w) ↔ Word w := by
  constructor
  · rintro ⟨h2, h3⟩
    have h4 : (allW m)[Lib.bsGo (fun t => Op.bytesLess ((allW m).getD t w).toList w.toList) (allW m).length 0 (allW m).length] = w := by
      rw [List.getD_eq_getElem?_getD, List.getElem?_eq_getElem h2, Option.getD_some] at h3
      exact h3
    exact (all_mem h1 h7 (h4 ▸ List.getElem_mem h2)).1
  · intro hw
    have hr := all_rank hw
    rw [← hm] at hr
    obtain ⟨g1, g2⟩ := List.getElem?_eq_some_iff.1 hr
    have e : Lib.bsGo (fun t => Op.bytesLess ((allW m).getD t w).toList w.toList) (allW m).length 0 (allW m).length = rankL w.data.toList 0 := by
      refine Lib.bsGo_spec _ _ ?_ ?_ _ _ _ (by omega) (Nat.zero_le _) (by omega)
      · intro t ht
        have h5 := all_before hr (t := t) (by omega)
        rw [decide_eq_true ht] at h5
        unfold lss at h5
        rw [Lib.toList_data, Lib.toList_data, List.getD_eq_getElem?_getD, List.getElem?_eq_getElem (by omega), Option.getD_some]
        exact h5
      · intro t ht
        rw [Lib.toList_data, Lib.toList_data]
        by_cases h6 : t < (allW m).length
        · have h5 := all_before hr (t := t) h6
          rw [decide_eq_false (by omega)] at h5
          unfold lss at h5
          rw [List.getD_eq_getElem?_getD, List.getElem?_eq_getElem h6, Option.getD_some]
          exact h5
        · rw [List.getD_eq_getElem?_getD, List.getElem?_eq_none (by omega), Option.getD_none]
          exact less_self _
    rw [e]
    exact ⟨g1, by rw [List.getD_eq_getElem?_getD, hr, Option.getD_some]⟩

theorem found_rank {w : ByteArray} {m : Nat} (hm : m = w.size / 2) (hw : Word w) :
    Lib.bsGo (fun t => Op.bytesLess ((allW m).getD t w).toList w.toList) (allW m).length 0 (allW m).length = rankL w.data.toList 0 := by
  have hr := all_rank hw
  rw [← hm] at hr
  obtain ⟨g1, g2⟩ := List.getElem?_eq_some_iff.1 hr
  refine Lib.bsGo_spec _ _ ?_ ?_ _ _ _ (by omega) (Nat.zero_le _) (by omega)
  · intro t ht
    have h5 := all_before hr (t := t) (by omega)
    rw [decide_eq_true ht] at h5
    unfold lss at h5
    rw [Lib.toList_data, Lib.toList_data, List.getD_eq_getElem?_getD, List.getElem?_eq_getElem (by omega), Option.getD_some]
    exact h5
  · intro t ht
    rw [Lib.toList_data, Lib.toList_data]
    by_cases h6 : t < (allW m).length
    · have h5 := all_before hr (t := t) h6
      rw [decide_eq_false (by omega)] at h5
      unfold lss at h5
      rw [List.getD_eq_getElem?_getD, List.getElem?_eq_getElem h6, Option.getD_some]
      exact h5
    · rw [List.getD_eq_getElem?_getD, List.getElem?_eq_none (by omega), Option.getD_none]
      exact less_self _

end Go.Proofs.YtnhhnffolmgceabGreat.RankWC

end

section
namespace Go.Proofs.YtnhhnffolmgceabGreat.Rank4C
open Go.RowKit SeesC IntsC ExactC NumC IterC WordMath InC WordC WordsC WordsOfC EndsM RankWC EndsC

theorem wf_small {n : Int} (h0 : 0 ≤ n) (h1 : n ≤ 1048576) : (Lit.int .i64 n).wf = true := by
  have e1 : IntKind.i64.min = -9223372036854775808 := rfl
  have e2 : IntKind.i64.max = 9223372036854775807 := rfl
  simp [Lit.wf, e1, e2]
  omega

theorem all_pos {m : Nat} (h1 : 1 ≤ m) (h7 : m ≤ 7) : 0 < (allW m).length := by
  rw [all_len]
  have : m = 1 ∨ m = 2 ∨ m = 3 ∨ m = 4 ∨ m = 5 ∨ m = 6 ∨ m = 7 := by omega
  rcases this with rfl | rfl | rfl | rfl | rfl | rfl | rfl <;> decide +kernel

theorem all_16k {m : Nat} (h7 : m ≤ 7) : (allW m).length ≤ 16384 := wordsFrom_16k (by omega)

theorem words_ans {m : Nat} (h1 : 1 ≤ m) (h7 : m ≤ 7) : wordsAns (m : Int) = (allW m, true) := by
  unfold wordsAns
  rw [if_pos (by omega), Int.toNat_natCast]
  rfl
theorem words_not {n : Int} (h : ¬ (1 ≤ n ∧ n ≤ 7)) : wordsAns n = ([], false) := by
  unfold wordsAns
  rw [if_neg h]

theorem str_cells {w : World} {base g n cap : Nat} {ss : List ByteArray} (x : ByteArray) (h : w.ownsRow base 9 1 (.slice (some ⟨g, 0, none⟩) n cap) n (ss.map Value.string)) : ∀ j, j < n → w.cell? ⟨g, 0 + j, none⟩ = some (.string (ss.getD j x)) := by
  intro j hj
  have hl : ss.length = n := by simpa using h.1
  rw [h.cellAt (0 + j) (by omega)]
  simp [show j < ss.length by omega]

theorem drop_byt {s : ByteArray} {i : Nat} (h : i < s.size) : s.data.toList.drop i = byt s i :: s.data.toList.drop (i + 1) := by
  have h2 : i < s.data.toList.length := by rw [Array.length_toList]; exact h
  rw [List.drop_eq_getElem_cons h2]
  congr 1
  unfold byt
  rw [List.getD_eq_getElem?_getD, List.getElem?_eq_getElem h2, Option.getD_some]

end Go.Proofs.YtnhhnffolmgceabGreat.Rank4C

end

section
namespace Go.Proofs.YtnhhnffolmgceabGreat.CollWC
set_option linter.unusedVariables false
open Go.RowKit SeesC IntsC ExactC OrdMath WordMath WordC WordsC WordsOfC EndsM Rank4C KnownC

theorem allW_1k {m : Nat} (h1 : 1 ≤ m) (h6 : m ≤ 6) : 1 ≤ (allW m).length ∧ (allW m).length ≤ 1000 := by
  rw [all_len]
  have h : ∀ m < 7, 1 ≤ m → 1 ≤ ends (2 * m) 0 ∧ ends (2 * m) 0 ≤ 1000 := by decide +kernel
  exact h m (by omega) h1

/-- All words for n numbers are returned, in memory of the call's own. -/
def AllWTo (m : Nat) (w : World) (e : Ending) (w' : World) : Prop := ∃ v, e = .returned v ∧ w'.ownsRow w.heap.size 9 1 v (allW m).length ((allW m).map Value.string) ∧ Below w.heap.size w w'

set_option maxRecDepth 100000 in
set_option maxHeartbeats 1000000 in
theorem drawnWords_any (n : Int) (hw : (Lit.int .i64 n).wf = true) (W : World) :
    Calls Tryz.prog 30 #[.int .i64 n] W fun e w' => (¬ (1 ≤ n ∧ n ≤ 6) ∧ (∃ a c, e = .returned (.slice a 0 c)) ∧ Below W.heap.size W w') ∨ (∃ m : Nat, n = (m : Int) ∧ 1 ≤ m ∧ m ≤ 6 ∧ AllWTo m W e w') := by
  by_cases hin : 1 ≤ n ∧ n ≤ 6
  · obtain ⟨m, rfl⟩ : ∃ m : Nat, n = (m : Int) := ⟨n.toNat, by omega⟩
    have hm1 : 1 ≤ m := by omega
    have hm6 : m ≤ 6 := by omega
    have h1 : ¬ (m : Int) < 1 := by omega
    have h2 : ¬ (6 : Int) < (m : Int) := by omega
    have CW := Go.Lib.hid (implWords (m : Int) (allW m) true (words_ans hm1 (by omega)) hw W)
    clear hin
    go_enter Tryz.func30, Tryz.ntmps30
    go_wp2_with fail
    refine (CW.out).mono ?_
    rintro e w2 ⟨v, rfl, ho, hb⟩
    have H3 := Go.Lib.hid (And.intro ho hb)
    obtain ⟨_, va, vc, rfl, _, _⟩ := Sees.owns ho
    clear ho hb CW
    obtain ⟨N, hN⟩ : ∃ N, (allW m).length = N := ⟨_, rfl⟩
    have HN := Go.Lib.hid hN
    rw [hN] at H3 ⊢
    clear hN
    go_wp2_with fail
    refine (knownS _ _ _ _ _).mono ?_
    rintro e _ ⟨rfl, rfl⟩
    go_wp2_with fail
    go_ret
    exact .inr ⟨m, rfl, hm1, hm6, _, rfl, by rw [HN.out]; exact H3.out.1, H3.out.2⟩
  · by_cases h1 : n < 1
    · have HI := Go.Lib.hid hin
      clear hin
      go_enter Tryz.func30, Tryz.ntmps30
      go_wp2
      go_ret
      first | exact .inl ⟨HI.out, ⟨_, _, rfl⟩, (Below.refl _ _).alloc (Nat.le_refl _) _⟩ | exact .inl ⟨⟨_, _, rfl⟩, (Below.refl _ _).alloc (Nat.le_refl _) _⟩
    · have h2 : 6 < n := by omega
      have HI := Go.Lib.hid hin
      clear hin
      go_enter Tryz.func30, Tryz.ntmps30
      go_wp2
      go_ret
      first | exact .inl ⟨HI.out, ⟨_, _, rfl⟩, (Below.refl _ _).alloc (Nat.le_refl _) _⟩ | exact .inl ⟨⟨_, _, rfl⟩, (Below.refl _ _).alloc (Nat.le_refl _) _⟩

end Go.Proofs.YtnhhnffolmgceabGreat.CollWC

end
