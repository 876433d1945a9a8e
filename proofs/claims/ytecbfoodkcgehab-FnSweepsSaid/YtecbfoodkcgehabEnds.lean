/-
  The mathematics of ranks of words: in how many ways a word goes on, which place a word has among all, and which word is at a place. Conditions: none. Plain facts on texts and lists: nothing of the program.
-/
import Derived.Test.YtecbfoodkcgehabWords
import GoSem.Op.String
namespace Go.Proofs.Ytecbfoodkcgehab.EndsM
open NumC WordMath WordsC

/-- In how many ways a word goes on, with n signs left and k on the stack. -/
def ends : Nat → Nat → Nat
  | 0, k => if k = 0 then 1 else 0
  | n + 1, k => (if 0 < k then ends n (k - 1) else 0) + ends n (k + 1)

theorem ends_zero : ∀ n k, n < k → ends n k = 0
  | 0, k, h => by unfold ends; rw [if_neg (by omega)]
  | n + 1, k, h => by
    unfold ends
    rw [if_pos (by omega), ends_zero n (k - 1) (by omega), ends_zero n (k + 1) (by omega)]

theorem ends_le : ∀ n k, ends n k ≤ 2 ^ n
  | 0, k => by unfold ends; split <;> simp
  | n + 1, k => by
    have h1 := ends_le n (k - 1)
    have h2 := ends_le n (k + 1)
    have e : 2 ^ (n + 1) = 2 ^ n + 2 ^ n := by rw [Nat.pow_succ]; omega
    unfold ends
    split <;> omega

theorem ends_16k {n k : Nat} (h : n ≤ 14) : ends n k ≤ 16384 := by
  have h1 := ends_le n k
  have h2 : 2 ^ n ≤ 2 ^ 14 := Nat.pow_le_pow_right (by omega) h
  have h3 : (2 : Nat) ^ 14 = 16384 := by decide
  omega

/-- So many signs can be left with so many on the stack. -/
def Fits (r d : Nat) : Prop := d ≤ r ∧ r % 2 = d % 2

theorem Fits.I {r d : Nat} (h : Fits (r + 1) d) (h2 : d < r + 1) : Fits r (d + 1) := by unfold Fits at *; omega
theorem Fits.O {r d : Nat} (h : Fits (r + 1) d) (h2 : 0 < d) : Fits r (d - 1) := by unfold Fits at *; omega

theorem words_count : ∀ r d so, Fits r d → (wordsFrom r d so).length = ends r d
  | 0, d, so, h => by
    have : d = 0 := by unfold Fits at h; omega
    subst this; rfl
  | r + 1, d, so, h => by
    unfold wordsFrom ends
    rw [List.length_append, Nat.add_comm]
    congr 1
    · by_cases h2 : 0 < d
      · rw [if_pos h2, if_pos h2, words_count r _ _ (h.O h2)]
      · rw [if_neg h2, if_neg h2]; rfl
    · by_cases h2 : d < r + 1
      · rw [if_pos h2, words_count r _ _ (h.I h2)]
      · rw [if_neg h2, ends_zero r (d + 1) (by omega)]; rfl

/-- Signs that go on to the end of a word. -/
def Goes : List UInt8 → Nat → Prop
  | [], d => d = 0
  | c :: t, d => (c = 73 ∧ Goes t (d + 1)) ∨ (c = 79 ∧ 0 < d ∧ Goes t (d - 1))

theorem goes_fits : ∀ l d, Goes l d → Fits l.length d
  | [], d, h => by cases h; exact ⟨Nat.le_refl _, rfl⟩
  | c :: t, d, h => by
    rcases h with ⟨_, h⟩ | ⟨_, h0, h⟩
    · have := goes_fits t _ h; unfold Fits at *; simp; omega
    · have := goes_fits t _ h; unfold Fits at *; simp; omega

/-- How many words come before, of those that go on in the same way so far. -/
def rankL : List UInt8 → Nat → Nat
  | [], _ => 0
  | c :: t, d => if c = 73 then rankL t (d + 1) else ends t.length (d + 1) + rankL t (d - 1)

theorem sI_cons (so : ByteArray) (l : List UInt8) : (so ++ sI) ++ txt l = so ++ txt (73 :: l) := by
  have e : sI = txt [73] := rfl
  rw [e, ByteArray.append_assoc, txt_append]; rfl
theorem sO_cons (so : ByteArray) (l : List UInt8) : (so ++ sO) ++ txt l = so ++ txt (79 :: l) := by
  have e : sO = txt [79] := rfl
  rw [e, ByteArray.append_assoc, txt_append]; rfl
theorem txt_nil (so : ByteArray) : so ++ txt [] = so := by
  have e : txt [] = ByteArray.empty := rfl
  rw [e, ByteArray.append_empty]

theorem fits_lt {r d : Nat} (h : Fits r (d + 1)) : d < r + 1 := by unfold Fits at h; omega

/-- The words of a state begin with those that go on by a push. -/
theorem words_parts {r d : Nat} (so : ByteArray) (h : Fits (r + 1) d) : ∃ a b, wordsFrom (r + 1) d so = a ++ b ∧ a.length = ends r (d + 1) ∧ (d < r + 1 → a = wordsFrom r (d + 1) (so ++ sI)) ∧ (0 < d → b = wordsFrom r (d - 1) (so ++ sO)) ∧ (¬ 0 < d → b = []) := by
  refine ⟨_, _, rfl, ?_, fun h2 => if_pos h2, fun h2 => if_pos h2, fun h2 => if_neg h2⟩
  by_cases h2 : d < r + 1
  · rw [if_pos h2, words_count r _ _ (h.I h2)]
  · rw [if_neg h2, ends_zero r (d + 1) (by omega)]; rfl

theorem word_at_rank : ∀ (l : List UInt8) (d : Nat) (so : ByteArray), Goes l d → (wordsFrom l.length d so)[rankL l d]? = some (so ++ txt l)
  | [], d, so, h => by show [so][0]? = _; rw [txt_nil]; rfl
  | c :: t, d, so, h => by
    have hf := goes_fits _ _ h
    obtain ⟨a, b, e1, e2, e3, e4, _⟩ := words_parts (r := t.length) (d := d) so hf
    show (wordsFrom (t.length + 1) d so)[_]? = _
    rw [e1]
    rcases h with ⟨rfl, h⟩ | ⟨rfl, h0, h⟩
    · have ha := e3 (fits_lt (goes_fits _ _ h))
      have ih := word_at_rank t (d + 1) (so ++ sI) h
      have hlt : rankL t (d + 1) < a.length := by
        rw [← ha] at ih
        exact (List.getElem?_eq_some_iff.1 ih).1
      show (a ++ b)[rankL t (d + 1)]? = _
      rw [List.getElem?_append_left hlt, ha, ih, sI_cons]
    · have hb := e4 h0
      have ih := word_at_rank t (d - 1) (so ++ sO) h
      show (a ++ b)[ends t.length (d + 1) + rankL t (d - 1)]? = _
      rw [← e2, List.getElem?_append_right (by omega), Nat.add_sub_cancel_left, hb, ih, sO_cons]

/-- The word at a place, sign by sign. -/
def atW : Nat → Nat → Nat → List UInt8
  | 0, _, _ => []
  | r + 1, d, k => if k < ends r (d + 1) then 73 :: atW r (d + 1) k else 79 :: atW r (d - 1) (k - ends r (d + 1))

theorem atW_len : ∀ r d k, (atW r d k).length = r
  | 0, _, _ => rfl
  | r + 1, d, k => by
    unfold atW
    split <;> simp [atW_len r]

theorem at_words : ∀ (r d k : Nat) (so : ByteArray), Fits r d → k < ends r d → (wordsFrom r d so)[k]? = some (so ++ txt (atW r d k)) ∧ Goes (atW r d k) d
  | 0, d, k, so, h, hk => by
    have : d = 0 := by unfold Fits at h; omega
    subst this
    have : k = 0 := by unfold ends at hk; simp at hk; exact hk
    subst this
    exact ⟨by show [so][0]? = some (so ++ txt []); rw [txt_nil]; rfl, rfl⟩
  | r + 1, d, k, so, h, hk => by
    obtain ⟨a, b, e1, e2, e3, e4, e5⟩ := words_parts (r := r) (d := d) so h
    rw [e1]
    unfold atW
    by_cases h2 : k < ends r (d + 1)
    · rw [if_pos h2]
      have hd : d < r + 1 := by
        rcases Nat.lt_or_ge d (r + 1) with h3 | h3
        · exact h3
        · rw [ends_zero r (d + 1) (by omega)] at h2; omega
      have ih := at_words r (d + 1) k (so ++ sI) (h.I hd) h2
      rw [List.getElem?_append_left (by omega), e3 hd, ih.1, sI_cons]
      exact ⟨rfl, .inl ⟨rfl, ih.2⟩⟩
    · rw [if_neg h2]
      unfold ends at hk
      have h0 : 0 < d := by
        rcases Nat.eq_zero_or_pos d with h3 | h3
        · rw [if_neg (by omega)] at hk; omega
        · exact h3
      rw [if_pos h0] at hk
      have ih := at_words r (d - 1) (k - ends r (d + 1)) (so ++ sO) (h.O h0) (by omega)
      rw [List.getElem?_append_right (by omega), e2, e4 h0, ih.1, sO_cons]
      exact ⟨rfl, .inr ⟨rfl, h0, ih.2⟩⟩

/-- The words come in ascending order. -/
def lss (a b : ByteArray) : Bool := Op.bytesLess a.data.toList b.data.toList

theorem less_self : ∀ l : List UInt8, Op.bytesLess l l = false
  | [] => rfl
  | a :: t => by unfold Op.bytesLess; simp [less_self t, UInt8.lt_irrefl]

theorem less_not : ∀ (x y : List UInt8), Op.bytesLess x y = true → Op.bytesLess y x = false
  | _, [], h => by unfold Op.bytesLess at h; cases h
  | [], _ :: _, _ => by unfold Op.bytesLess; rfl
  | a :: x, b :: y, h => by
    unfold Op.bytesLess at h ⊢
    simp only [Bool.or_eq_true, Bool.and_eq_true, decide_eq_true_eq, beq_iff_eq, Bool.or_eq_false_iff, Bool.and_eq_false_imp, decide_eq_false_iff_not] at h ⊢
    rcases h with h | ⟨rfl, h⟩
    · refine ⟨fun h2 => UInt8.lt_asymm h h2, fun e => ?_⟩
      subst e; exact absurd h (UInt8.lt_irrefl _)
    · exact ⟨UInt8.lt_irrefl _, fun _ => less_not _ _ h⟩

theorem less_pre : ∀ (p x y : List UInt8), Op.bytesLess (p ++ x) (p ++ y) = Op.bytesLess x y
  | [], _, _ => rfl
  | a :: p, x, y => by
    show Op.bytesLess (a :: (p ++ x)) (a :: (p ++ y)) = _
    rw [Op.bytesLess]
    simp [less_pre p, UInt8.lt_irrefl]

theorem mem_words : ∀ (r d : Nat) (so x : ByteArray), Fits r d → x ∈ wordsFrom r d so → ∃ l, l.length = r ∧ Goes l d ∧ x = so ++ txt l
  | 0, d, so, x, h, hx => by
    have : d = 0 := by unfold Fits at h; omega
    subst this
    have : x = so := by simpa [wordsFrom] using hx
    subst this
    exact ⟨[], rfl, rfl, (txt_nil _).symm⟩
  | r + 1, d, so, x, h, hx => by
    unfold wordsFrom at hx
    rcases List.mem_append.1 hx with hx | hx
    · by_cases h2 : d < r + 1
      · rw [if_pos h2] at hx
        obtain ⟨l, h3, h4, h5⟩ := mem_words r _ _ x (h.I h2) hx
        exact ⟨73 :: l, by simp [h3], .inl ⟨rfl, h4⟩, by rw [h5, sI_cons]⟩
      · rw [if_neg h2] at hx; cases hx
    · by_cases h2 : 0 < d
      · rw [if_pos h2] at hx
        obtain ⟨l, h3, h4, h5⟩ := mem_words r _ _ x (h.O h2) hx
        exact ⟨79 :: l, by simp [h3], .inr ⟨rfl, h2, h4⟩, by rw [h5, sO_cons]⟩
      · rw [if_neg h2] at hx; cases hx

theorem app_data (so : ByteArray) (l : List UInt8) : (so ++ txt l).data.toList = so.data.toList ++ l := by simp [txt]

theorem words_sorted : ∀ (r d : Nat) (so : ByteArray), Fits r d → (wordsFrom r d so).Pairwise (fun a b => lss a b = true)
  | 0, d, so, h => by unfold wordsFrom; exact List.pairwise_singleton _ _
  | r + 1, d, so, h => by
    unfold wordsFrom
    rw [List.pairwise_append]
    refine ⟨?_, ?_, ?_⟩
    · by_cases h2 : d < r + 1
      · rw [if_pos h2]; exact words_sorted r _ _ (h.I h2)
      · rw [if_neg h2]; exact .nil
    · by_cases h2 : 0 < d
      · rw [if_pos h2]; exact words_sorted r _ _ (h.O h2)
      · rw [if_neg h2]; exact .nil
    · intro a ha b hb
      by_cases h2 : d < r + 1
      · rw [if_pos h2] at ha
        by_cases h3 : 0 < d
        · rw [if_pos h3] at hb
          obtain ⟨l, _, _, rfl⟩ := mem_words r _ _ a (h.I h2) ha
          obtain ⟨m, _, _, rfl⟩ := mem_words r _ _ b (h.O h3) hb
          unfold lss
          rw [sI_cons, sO_cons, app_data, app_data, less_pre]
          rfl
        · rw [if_neg h3] at hb; cases hb
      · rw [if_neg h2] at ha; cases ha

/-- A word's signs go on to the end. -/
theorem held_goes {w : ByteArray} : ∀ (m k d : Nat), k + m = w.size → heldTo w k = some d → heldTo w w.size = some 0 → Goes (w.data.toList.drop k) d
  | 0, k, d, h, hd, h0 => by
    have e : k = w.size := by omega
    subst e
    rw [hd] at h0; cases h0
    rw [List.drop_of_length_le (by rw [Array.length_toList]; exact Nat.le_refl _)]
    rfl
  | m + 1, k, d, h, hd, h0 => by
    have hk : k < w.data.toList.length := by rw [Array.length_toList]; show k < w.size; omega
    have hb : w.data.toList[k] = byt w k := by unfold byt; rw [List.getD_eq_getElem?_getD, List.getElem?_eq_getElem hk, Option.getD_some]
    rw [List.drop_eq_getElem_cons hk, hb]
    obtain ⟨e, he, _, _⟩ := held_back (w := w) m (k + 1) 0 (by rw [show k + 1 + m = w.size by omega]; exact h0)
    obtain ⟨d2, hd2, hc⟩ := held_cases he
    rw [hd] at hd2; cases hd2
    have ih := held_goes m (k + 1) e (by omega) he h0
    rcases hc with ⟨h1, rfl⟩ | ⟨h1, h2, rfl⟩
    · exact .inl ⟨h1, ih⟩
    · exact .inr ⟨h1, h2, ih⟩

theorem word_goes {w : ByteArray} (h : Word w) : Goes w.data.toList 0 := held_goes w.size 0 0 (Nat.zero_add _) rfl h.2.2

/-- And signs that do are a word. -/
theorem goes_held {w : ByteArray} : ∀ (m k d : Nat), k + m = w.size → heldTo w k = some d → Goes (w.data.toList.drop k) d → heldTo w w.size = some 0
  | 0, k, d, h, hd, hg => by
    have e : k = w.size := by omega
    subst e
    rw [List.drop_of_length_le (by rw [Array.length_toList]; exact Nat.le_refl _)] at hg
    cases hg; exact hd
  | m + 1, k, d, h, hd, hg => by
    have hk : k < w.data.toList.length := by rw [Array.length_toList]; show k < w.size; omega
    have hb : w.data.toList[k] = byt w k := by unfold byt; rw [List.getD_eq_getElem?_getD, List.getElem?_eq_getElem hk, Option.getD_some]
    rw [List.drop_eq_getElem_cons hk, hb] at hg
    rcases hg with ⟨h1, hg⟩ | ⟨h1, h2, hg⟩
    · exact goes_held m (k + 1) _ (by omega) (held_I hd h1) hg
    · exact goes_held m (k + 1) _ (by omega) (held_O hd h1 h2) hg

theorem goes_word {l : List UInt8} (h : Goes l 0) (h1 : 2 ≤ l.length) (h2 : l.length ≤ 14) : Word (txt l) := by
  have e : (txt l).size = l.length := txt_size l
  refine ⟨by omega, by omega, ?_⟩
  exact goes_held (w := txt l) (txt l).size 0 0 (Nat.zero_add _) rfl (by rw [txt_list]; exact h)

theorem txt_data (s : ByteArray) : txt s.data.toList = s := by
  cases s with
  | mk d => simp [txt]

theorem empty_txt (l : List UInt8) : ByteArray.empty ++ txt l = txt l := ByteArray.empty_append

def allW (n : Nat) : List ByteArray := wordsFrom (2 * n) 0 ByteArray.empty

theorem all_fits (n : Nat) : Fits (2 * n) 0 := ⟨Nat.zero_le _, by omega⟩

theorem all_len (n : Nat) : (allW n).length = ends (2 * n) 0 := words_count _ _ _ (all_fits n)

/-- The place of a word. -/
theorem all_rank {w : ByteArray} (h : Word w) : (allW (w.size / 2))[rankL w.data.toList 0]? = some w := by
  have := word_at_rank _ _ ByteArray.empty (word_goes h)
  have e : w.data.toList.length = 2 * (w.size / 2) := by rw [Array.length_toList]; exact word_even h
  rw [e, empty_txt, txt_data] at this
  exact this

theorem all_mem {n : Nat} {w : ByteArray} (h1 : 1 ≤ n) (h7 : n ≤ 7) (h : w ∈ allW n) : Word w ∧ w.size = 2 * n := by
  obtain ⟨l, hl, hg, rfl⟩ := mem_words _ _ _ w (all_fits n) h
  rw [empty_txt]
  exact ⟨goes_word hg (by omega) (by omega), by rw [txt_size, hl]⟩

theorem all_at {n k : Nat} (hk : k < ends (2 * n) 0) : (allW n)[k]? = some (txt (atW (2 * n) 0 k)) := by
  have := (at_words (2 * n) 0 k ByteArray.empty (all_fits n) hk).1
  rw [empty_txt] at this
  exact this

/-- Which words are before one. -/
theorem all_before {n k t : Nat} {w : ByteArray} (hk : (allW n)[k]? = some w) (ht : t < (allW n).length) : lss ((allW n)[t]) w = decide (t < k) := by
  have hs := words_sorted _ _ ByteArray.empty (all_fits n)
  obtain ⟨h1, h2⟩ := List.getElem?_eq_some_iff.1 hk
  rw [List.pairwise_iff_getElem] at hs
  rcases Nat.lt_trichotomy t k with h | h | h
  · rw [decide_eq_true h, ← h2]; exact hs t k ht h1 h
  · subst h; rw [h2, decide_eq_false (by omega)]; exact less_self _
  · rw [decide_eq_false (by omega), ← h2]; exact less_not _ _ (hs k t h1 ht h)

/-- The rank of the word at a place. -/
theorem rank_at {n k : Nat} (h1 : 1 ≤ n) (h7 : n ≤ 7) (hk : k < ends (2 * n) 0) : Word (txt (atW (2 * n) 0 k)) ∧ (txt (atW (2 * n) 0 k)).size = 2 * n ∧ rankL (atW (2 * n) 0 k) 0 = k := by
  have ha := all_at (n := n) hk
  have hm := all_mem h1 h7 (List.mem_of_getElem? ha)
  have hr := all_rank hm.1
  have e : (txt (atW (2 * n) 0 k)).size / 2 = n := by omega
  rw [e, txt_list] at hr
  refine ⟨hm.1, hm.2, ?_⟩
  obtain ⟨g1, g2⟩ := List.getElem?_eq_some_iff.1 hr
  have := all_before ha g1
  rw [g2] at this
  have e2 := all_before hr (t := k) (by rw [all_len]; exact hk)
  obtain ⟨g3, g4⟩ := List.getElem?_eq_some_iff.1 ha
  rw [g4] at e2
  have z := less_self (txt (atW (2 * n) 0 k)).data.toList
  unfold lss at this e2
  rw [z] at this e2
  have a1 := of_decide_eq_false this.symm
  have a2 := of_decide_eq_false e2.symm
  omega

theorem rank_lt {w : ByteArray} (h : Word w) : rankL w.data.toList 0 < ends (2 * (w.size / 2)) 0 := by
  have := (List.getElem?_eq_some_iff.1 (all_rank h)).1
  rw [all_len] at this; exact this

/-! ### The answers -/
def rankWAns (w : ByteArray) : Int × Bool := if Word w then ((rankL w.data.toList 0 : Nat), true) else (0, false)
def atWAns (n k : Int) : ByteArray × Bool := if 1 ≤ n ∧ n ≤ 7 ∧ 0 ≤ k ∧ k < (ends (2 * n.toNat) 0 : Int) then (txt (atW (2 * n.toNat) 0 k.toNat), true) else (ByteArray.empty, false)
def oneAns (n : Int) : Int × Bool := if 1 ≤ n ∧ n ≤ 7 then ((ends (2 * n.toNat) 0 : Nat), true) else (0, false)

end Go.Proofs.Ytecbfoodkcgehab.EndsM
