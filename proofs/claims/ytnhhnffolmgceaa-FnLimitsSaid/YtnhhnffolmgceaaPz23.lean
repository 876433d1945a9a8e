/-
  Contracts and plain facts that the laws' texts lean on. Conditions: as each states.
-/
import Derived.Test.YtnhhnffolmgceaaPz18
import Derived.Test.YtnhhnffolmgceaaPz14
import Derived.RangeFuncBox
import Derived.Maps.AppendAt
import GoSem.Op.String
import Derived.Test.YtnhhnffolmgceaaPz2
import Derived.Test.YtnhhnffolmgceaaPz13
import Derived.Test.YtnhhnffolmgceaaPz11
import Derived.Lib.OthersKept

section
namespace Go.Proofs.Ytnhhnffolmgceaa.WordsC
open Go.RowKit SeesC IntsC ExactC NumC IterC WordMath InC WordC

theorem infoS : (Try.prog.info? 9).map (fun i => (i.zero, i.size, i.bytes)) = some (some (.string ByteArray.empty), 1, 16) := by kernel_rfl

def sI : ByteArray := { data := #[73] }
def sO : ByteArray := { data := #[79] }

/-- All words that go on from a text, r signs long, with d on the stack. -/
def wordsFrom : Nat → Nat → ByteArray → List ByteArray
  | 0, _, so => [so]
  | r + 1, d, so => (if d < r + 1 then wordsFrom r (d + 1) (so ++ sI) else []) ++ (if 0 < d then wordsFrom r (d - 1) (so ++ sO) else [])

theorem wordsFrom_len : ∀ (r d : Nat) (so : ByteArray), (wordsFrom r d so).length ≤ 2 ^ r
  | 0, _, _ => Nat.le_refl _
  | r + 1, d, so => by
    unfold wordsFrom
    rw [List.length_append]
    have h1 : (if d < r + 1 then wordsFrom r (d + 1) (so ++ sI) else []).length ≤ 2 ^ r := by
      split
      · exact wordsFrom_len r _ _
      · simp
    have h2 : (if 0 < d then wordsFrom r (d - 1) (so ++ sO) else []).length ≤ 2 ^ r := by
      split
      · exact wordsFrom_len r _ _
      · simp
    rw [Nat.pow_succ]; omega

theorem wordsFrom_16k {r d : Nat} {so : ByteArray} (h : r ≤ 14) : (wordsFrom r d so).length ≤ 16384 := by
  have h1 := wordsFrom_len r d so
  have h2 : 2 ^ r ≤ 2 ^ 14 := Nat.pow_le_pow_right (by omega) h
  have h3 : (2 : Nat) ^ 14 = 16384 := by decide
  omega

def wordsAns (n : Int) : List ByteArray × Bool := if 1 ≤ n ∧ n ≤ 7 then (wordsFrom (2 * n.toNat) 0 ByteArray.empty, true) else ([], false)

theorem words_len {n : Int} {xs : List ByteArray} {b : Bool} (h : wordsAns n = (xs, b)) : xs.length ≤ 1048576 := by
  unfold wordsAns at h; split at h
  · cases h; have := @wordsFrom_16k (2 * n.toNat) 0 ByteArray.empty (by omega); omega
  · cases h; simp

/-- Texts and a truth value are returned, the texts in memory of the call's own. -/
def TextsTo (w : World) (e : Ending) (w' : World) (xs : List ByteArray) (b : Bool) : Prop :=
  ∃ v, e = .returned (.tuple #[v, .bool b]) ∧ w'.ownsRow w.heap.size 9 1 v xs.length (xs.map Value.string) ∧ Below w.heap.size w w'

theorem textsTo_none (w : World) (b : Bool) : TextsTo w (.returned (.tuple #[.slice (some ⟨w.heap.size, 0, none⟩) 0 0, .bool b])) (w.alloc (.cells #[] 9)) [] b :=
  ⟨_, rfl, World.ownsRow_made _ _ _ (Nat.le_refl _) (by unfold maxLen; omega) rfl, (Below.refl _ _).alloc (Nat.le_refl _) _⟩

theorem own_form {w : World} {base size n : Nat} {ty : TypeId} {v : Value} {xs : List Value} (h : w.ownsRow base ty size v n xs) (hne : v ≠ .slice none 0 0) : ∃ g cap, v = .slice (some ⟨g, 0, none⟩) n cap := by
  rcases h.2 with ⟨h0, _⟩ | ⟨g, cap, cur, hv, _⟩
  · exact absurd h0 hne
  · exact ⟨g, cap, hv⟩

end Go.Proofs.Ytnhhnffolmgceaa.WordsC

end

section
namespace Go.Proofs.Ytnhhnffolmgceaa.EndsM
open NumC WordMath WordsC

/-- In how many ways a word goes on, with n signs left and k on the stack. -/
def ends : Nat → Nat → Nat
  | 0, k => if k = 0 then 1 else 0
  | n + 1, k => (if 0 < k then ends n (k - 1) else 0) + ends n (k + 1)

theorem ends_zero : ∀ n k, n < k → ends n k = 0
  | 0, k, h => by unfold ends; rw [if_neg (by omega)]
  | n + 1, k, h => by
    unfold ends
    rw [if_pos (by omega), ends_zero n (k - 1) (by omega), ends_zero n (k + 1) (by omega)]

theorem ends_le : ∀ n k, ends n k ≤ 2 ^ n
  | 0, k => by unfold ends; split <;> simp
  | n + 1, k => by
    have h1 := ends_le n (k - 1)
    have h2 := ends_le n (k + 1)
    have e : 2 ^ (n + 1) = 2 ^ n + 2 ^ n := by rw [Nat.pow_succ]; omega
    unfold ends
    split <;> omega

theorem ends_16k {n k : Nat} (h : n ≤ 14) : ends n k ≤ 16384 := by
  have h1 := ends_le n k
  have h2 : 2 ^ n ≤ 2 ^ 14 := Nat.pow_le_pow_right (by omega) h
  have h3 : (2 : Nat) ^ 14 = 16384 := by decide
  omega

/-- So many signs can be left with so many on the stack. -/
def Fits (r d : Nat) : Prop := d ≤ r ∧ r % 2 = d % 2

theorem Fits.I {r d : Nat} (h : Fits (r + 1) d) (h2 : d < r + 1) : Fits r (d + 1) := by unfold Fits at *; omega
theorem Fits.O {r d : Nat} (h : Fits (r + 1) d) (h2 : 0 < d) : Fits r (d - 1) := by unfold Fits at *; omega

theorem words_count : ∀ r d so, Fits r d → (wordsFrom r d so).length = ends r d
  | 0, d, so, h => by
    have : d = 0 := by unfold Fits at h; omega
    subst this; rfl
  | r + 1, d, so, h => by
    unfold wordsFrom ends
    rw [List.length_append, Nat.add_comm]
    congr 1
    · by_cases h2 : 0 < d
      · rw [if_pos h2, if_pos h2, words_count r _ _ (h.O h2)]
      · rw [if_neg h2, if_neg h2]; rfl
    · by_cases h2 : d < r + 1
      · rw [if_pos h2, words_count r _ _ (h.I h2)]
      · rw [if_neg h2, ends_zero r (d + 1) (by omega)]; rfl

/-- Signs that go on to the end of a word. -/
def Goes : List UInt8 → Nat → Prop
  | [], d => d = 0
  | c :: t, d => (c = 73 ∧ Goes t (d + 1)) ∨ (c = 79 ∧ 0 < d ∧ Goes t (d - 1))

theorem goes_fits : ∀ l d, Goes l d → Fits l.length d
  | [], d, h => by cases h; exact ⟨Nat.le_refl _, rfl⟩
  | c :: t, d, h => by
    rcases h with ⟨_, h⟩ | ⟨_, h0, h⟩
    · have := goes_fits t _ h; unfold Fits at *; simp; omega
    · have := goes_fits t _ h; unfold Fits at *; simp; omega

/-- How many words come before, of those that go on in the same way so far. -/
def rankL : List UInt8 → Nat → Nat
  | [], _ => 0
  | c :: t, d => if c = 73 then rankL t (d + 1) else ends t.length (d + 1) + rankL t (d - 1)

theorem sI_cons (so : ByteArray) (l : List UInt8) : (so ++ sI) ++ txt l = so ++ txt (73 :: l) := by
  have e : sI = txt [73] := rfl
  rw [e, ByteArray.append_assoc, txt_append]; rfl
theorem sO_cons (so : ByteArray) (l : List UInt8) : (so ++ sO) ++ txt l = so ++ txt (79 :: l) := by
  have e : sO = txt [79] := rfl
  rw [e, ByteArray.append_assoc, txt_append]; rfl
theorem txt_nil (so : ByteArray) : so ++ txt [] = so := by
  have e : txt [] = ByteArray.empty := rfl
  rw [e, ByteArray.append_empty]

theorem fits_lt {r d : Nat} (h : Fits r (d + 1)) : d < r + 1 := by unfold Fits at h; omega

/-- The words of a state begin with those that go on by a push. -/
theorem words_parts {r d : Nat} (so : ByteArray) (h : Fits (r + 1) d) : ∃ a b, wordsFrom (r + 1) d so = a ++ b ∧ a.length = ends r (d + 1) ∧ (d < r + 1 → a = wordsFrom r (d + 1) (so ++ sI)) ∧ (0 < d → b = wordsFrom r (d - 1) (so ++ sO)) ∧ (¬ 0 < d → b = []) := by
  refine ⟨_, _, rfl, ?_, fun h2 => if_pos h2, fun h2 => if_pos h2, fun h2 => if_neg h2⟩
  by_cases h2 : d < r + 1
  · rw [if_pos h2, words_count r _ _ (h.I h2)]
  · rw [if_neg h2, ends_zero r (d + 1) (by omega)]; rfl

theorem word_at_rank : ∀ (l : List UInt8) (d : Nat) (so : ByteArray), Goes l d → (wordsFrom l.length d so)[rankL l d]? = some (so ++ txt l)
  | [], d, so, h => by show [so][0]? = _; rw [txt_nil]; rfl
  | c :: t, d, so, h => by
    have hf := goes_fits _ _ h
    obtain ⟨a, b, e1, e2, e3, e4, _⟩ := words_parts (r := t.length) (d := d) so hf
    show (wordsFrom (t.length + 1) d so)[_]? = _
    rw [e1]
    rcases h with ⟨rfl, h⟩ | ⟨rfl, h0, h⟩
    · have ha := e3 (fits_lt (goes_fits _ _ h))
      have ih := word_at_rank t (d + 1) (so ++ sI) h
      have hlt : rankL t (d + 1) < a.length := by
        rw [← ha] at ih
        exact (List.getElem?_eq_some_iff.1 ih).1
      show (a ++ b)[rankL t (d + 1)]? = _
      rw [List.getElem?_append_left hlt, ha, ih, sI_cons]
    · have hb := e4 h0
      have ih := word_at_rank t (d - 1) (so ++ sO) h
      show (a ++ b)[ends t.length (d + 1) + rankL t (d - 1)]? = _
      rw [← e2, List.getElem?_append_right (by omega), Nat.add_sub_cancel_left, hb, ih, sO_cons]

/-- The word at a place, sign by sign. -/
def atW : Nat → Nat → Nat → List UInt8
  | 0, _, _ => []
  | r + 1, d, k => if k < ends r (d + 1) then 73 :: atW r (d + 1) k else 79 :: atW r (d - 1) (k - ends r (d + 1))

theorem atW_len : ∀ r d k, (atW r d k).length = r
  | 0, _, _ => rfl
  | r + 1, d, k => by
    unfold atW
    split <;> simp [atW_len r]

theorem at_words : ∀ (r d k : Nat) (so : ByteArray), Fits r d → k < ends r d → (wordsFrom r d so)[k]? = some (so ++ txt (atW r d k)) ∧ Goes (atW r d k) d
  | 0, d, k, so, h, hk => by
    have : d = 0 := by unfold Fits at h; omega
    subst this
    have : k = 0 := by unfold ends at hk; simp at hk; exact hk
    subst this
    exact ⟨by show [so][0]? = some (so ++ txt []); rw [txt_nil]; rfl, rfl⟩
  | r + 1, d, k, so, h, hk => by
    obtain ⟨a, b, e1, e2, e3, e4, e5⟩ := words_parts (r := r) (d := d) so h
    rw [e1]
    unfold atW
    by_cases h2 : k < ends r (d + 1)
    · rw [if_pos h2]
      have hd : d < r + 1 := by
        rcases Nat.lt_or_ge d (r + 1) with h3 | h3
        · exact h3
        · rw [ends_zero r (d + 1) (by omega)] at h2; omega
      have ih := at_words r (d + 1) k (so ++ sI) (h.I hd) h2
      rw [List.getElem?_append_left (by omega), e3 hd, ih.1, sI_cons]
      exact ⟨rfl, .inl ⟨rfl, ih.2⟩⟩
    · rw [if_neg h2]
      unfold ends at hk
      have h0 : 0 < d := by
        rcases Nat.eq_zero_or_pos d with h3 | h3
        · rw [if_neg (by omega)] at hk; omega
        · exact h3
      rw [if_pos h0] at hk
      have ih := at_words r (d - 1) (k - ends r (d + 1)) (so ++ sO) (h.O h0) (by omega)
      rw [List.getElem?_append_right (by omega), e2, e4 h0, ih.1, sO_cons]
      exact ⟨rfl, .inr ⟨rfl, h0, ih.2⟩⟩

/-- The words come in ascending order. -/
def lss (a b : ByteArray) : Bool := Op.bytesLess a.data.toList b.data.toList

theorem less_self : ∀ l : List UInt8, Op.bytesLess l l = false
  | [] => rfl
  | a :: t => by unfold Op.bytesLess; simp [less_self t, UInt8.lt_irrefl]

theorem less_not : ∀ (x y : List UInt8), Op.bytesLess x y = true → Op.bytesLess y x = false
  | _, [], h => by unfold Op.bytesLess at h; cases h
  | [], _ :: _, _ => by unfold Op.bytesLess; rfl
  | a :: x, b :: y, h => by
    unfold Op.bytesLess at h ⊢
    simp only [Bool.or_eq_true, Bool.and_eq_true, decide_eq_true_eq, beq_iff_eq, Bool.or_eq_false_iff, Bool.and_eq_false_imp, decide_eq_false_iff_not] at h ⊢
    rcases h with h | ⟨rfl, h⟩
    · refine ⟨fun h2 => UInt8.lt_asymm h h2, fun e => ?_⟩
      subst e; exact absurd h (UInt8.lt_irrefl _)
    · exact ⟨UInt8.lt_irrefl _, fun _ => less_not _ _ h⟩

theorem less_pre : ∀ (p x y : List UInt8), Op.bytesLess (p ++ x) (p ++ y) = Op.bytesLess x y
  | [], _, _ => rfl
  | a :: p, x, y => by
    show Op.bytesLess (a :: (p ++ x)) (a :: (p ++ y)) = _
    rw [Op.bytesLess]
    simp [less_pre p, UInt8.lt_irrefl]

theorem mem_words : ∀ (r d : Nat) (so x : ByteArray), Fits r d → x ∈ wordsFrom r d so → ∃ l, l.length = r ∧ Goes l d ∧ x = so ++ txt l
  | 0, d, so, x, h, hx => by
    have : d = 0 := by unfold Fits at h; omega
    subst this
    have : x = so := by simpa [wordsFrom] using hx
    subst this
    exact ⟨[], rfl, rfl, (txt_nil _).symm⟩
  | r + 1, d, so, x, h, hx => by
    unfold wordsFrom at hx
    rcases List.mem_append.1 hx with hx | hx
    · by_cases h2 : d < r + 1
      · rw [if_pos h2] at hx
        obtain ⟨l, h3, h4, h5⟩ := mem_words r _ _ x (h.I h2) hx
        exact ⟨73 :: l, by simp [h3], .inl ⟨rfl, h4⟩, by rw [h5, sI_cons]⟩
      · rw [if_neg h2] at hx; cases hx
    · by_cases h2 : 0 < d
      · rw [if_pos h2] at hx
        obtain ⟨l, h3, h4, h5⟩ := mem_words r _ _ x (h.O h2) hx
        exact ⟨79 :: l, by simp [h3], .inr ⟨rfl, h2, h4⟩, by rw [h5, sO_cons]⟩
      · rw [if_neg h2] at hx; cases hx

theorem app_data (so : ByteArray) (l : List UInt8) : (so ++ txt l).data.toList = so.data.toList ++ l := by simp [txt]

theorem words_sorted : ∀ (r d : Nat) (so : ByteArray), Fits r d → (wordsFrom r d so).Pairwise (fun a b => lss a b = true)
  | 0, d, so, h => by unfold wordsFrom; exact List.pairwise_singleton _ _
  | r + 1, d, so, h => by
    unfold wordsFrom
    rw [List.pairwise_append]
    refine ⟨?_, ?_, ?_⟩
    · by_cases h2 : d < r + 1
      · rw [if_pos h2]; exact words_sorted r _ _ (h.I h2)
      · rw [if_neg h2]; exact .nil
    · by_cases h2 : 0 < d
      · rw [if_pos h2]; exact words_sorted r _ _ (h.O h2)
      · rw [if_neg h2]; exact .nil
    · intro a ha b hb
      by_cases h2 : d < r + 1
      · rw [if_pos h2] at ha
        by_cases h3 : 0 < d
        · rw [if_pos h3] at hb
          obtain ⟨l, _, _, rfl⟩ := mem_words r _ _ a (h.I h2) ha
          obtain ⟨m, _, _, rfl⟩ := mem_words r _ _ b (h.O h3) hb
          unfold lss
          rw [sI_cons, sO_cons, app_data, app_data, less_pre]
          rfl
        · rw [if_neg h3] at hb; cases hb
      · rw [if_neg h2] at ha; cases ha

/-- A word's signs go on to the end. -/
theorem held_goes {w : ByteArray} : ∀ (m k d : Nat), k + m = w.size → heldTo w k = some d → heldTo w w.size = some 0 → Goes (w.data.toList.drop k) d
  | 0, k, d, h, hd, h0 => by
    have e : k = w.size := by omega
    subst e
    rw [hd] at h0; cases h0
    rw [List.drop_of_length_le (by rw [Array.length_toList]; exact Nat.le_refl _)]
    rfl
  | m + 1, k, d, h, hd, h0 => by
    have hk : k < w.data.toList.length := by rw [Array.length_toList]; show k < w.size; omega
    have hb : w.data.toList[k] = byt w k := by unfold byt; rw [List.getD_eq_getElem?_getD, List.getElem?_eq_getElem hk, Option.getD_some]
    rw [List.drop_eq_getElem_cons hk, hb]
    obtain ⟨e, he, _, _⟩ := held_back (w := w) m (k + 1) 0 (by rw [show k + 1 + m = w.size by omega]; exact h0)
    obtain ⟨d2, hd2, hc⟩ := held_cases he
    rw [hd] at hd2; cases hd2
    have ih := held_goes m (k + 1) e (by omega) he h0
    rcases hc with ⟨h1, rfl⟩ | ⟨h1, h2, rfl⟩
    · exact .inl ⟨h1, ih⟩
    · exact .inr ⟨h1, h2, ih⟩

theorem word_goes {w : ByteArray} (h : Word w) : Goes w.data.toList 0 := held_goes w.size 0 0 (Nat.zero_add _) rfl h.2.2

/-- And signs that do are a word. -/
theorem goes_held {w : ByteArray} : ∀ (m k d : Nat), k + m = w.size → heldTo w k = some d → Goes (w.data.toList.drop k) d → heldTo w w.size = some 0
  | 0, k, d, h, hd, hg => by
    have e : k = w.size := by omega
    subst e
    rw [List.drop_of_length_le (by rw [Array.length_toList]; exact Nat.le_refl _)] at hg
    cases hg; exact hd
  | m + 1, k, d, h, hd, hg => by
    have hk : k < w.data.toList.length := by rw [Array.length_toList]; show k < w.size; omega
    have hb : w.data.toList[k] = byt w k := by unfold byt; rw [List.getD_eq_getElem?_getD, List.getElem?_eq_getElem hk, Option.getD_some]
    rw [List.drop_eq_getElem_cons hk, hb] at hg
    rcases hg with ⟨h1, hg⟩ | ⟨h1, h2, hg⟩
    · exact goes_held m (k + 1) _ (by omega) (held_I hd h1) hg
    · exact goes_held m (k + 1) _ (by omega) (held_O hd h1 h2) hg

theorem goes_word {l : List UInt8} (h : Goes l 0) (h1 : 2 ≤ l.length) (h2 : l.length ≤ 14) : Word (txt l) := by
  have e : (txt l).size = l.length := txt_size l
  refine ⟨by omega, by omega, ?_⟩
  exact goes_held (w := txt l) (txt l).size 0 0 (Nat.zero_add _) rfl (by rw [txt_list]; exact h)

theorem txt_data (s : ByteArray) : txt s.data.toList = s := by
  cases s with
  | mk d => simp [txt]

theorem empty_txt (l : List UInt8) : ByteArray.empty ++ txt l = txt l := ByteArray.empty_append

def allW (n : Nat) : List ByteArray := wordsFrom (2 * n) 0 ByteArray.empty

theorem all_fits (n : Nat) : Fits (2 * n) 0 := ⟨Nat.zero_le _, by omega⟩

theorem all_len (n : Nat) : (allW n).length = ends (2 * n) 0 := words_count _ _ _ (all_fits n)

/-- The place of a word. -/
theorem all_rank {w : ByteArray} (h : Word w) : (allW (w.size / 2))[rankL w.data.toList 0]? = some w := by
  have := word_at_rank _ _ ByteArray.empty (word_goes h)
  have e : w.data.toList.length = 2 * (w.size / 2) := by rw [Array.length_toList]; exact word_even h
  rw [e, empty_txt, txt_data] at this
  exact this

theorem all_mem {n : Nat} {w : ByteArray} (h1 : 1 ≤ n) (h7 : n ≤ 7) (h : w ∈ allW n) : Word w ∧ w.size = 2 * n := by
  obtain ⟨l, hl, hg, rfl⟩ := mem_words _ _ _ w (all_fits n) h
  rw [empty_txt]
  exact ⟨goes_word hg (by omega) (by omega), by rw [txt_size, hl]⟩

theorem all_at {n k : Nat} (hk : k < ends (2 * n) 0) : (allW n)[k]? = some (txt (atW (2 * n) 0 k)) := by
  have := (at_words (2 * n) 0 k ByteArray.empty (all_fits n) hk).1
  rw [empty_txt] at this
  exact this

/-- Which words are before one. -/
theorem all_before {n k t : Nat} {w : ByteArray} (hk : (allW n)[k]? = some w) (ht : t < (allW n).length) : lss ((allW n)[t]) w = decide (t < k) := by
  have hs := words_sorted _ _ ByteArray.empty (all_fits n)
  obtain ⟨h1, h2⟩ := List.getElem?_eq_some_iff.1 hk
  rw [List.pairwise_iff_getElem] at hs
  rcases Nat.lt_trichotomy t k with h | h | h
  · rw [decide_eq_true h, ← h2]; exact hs t k ht h1 h
  · subst h; rw [h2, decide_eq_false (by omega)]; exact less_self _
  · rw [decide_eq_false (by omega), ← h2]; exact less_not _ _ (hs k t h1 ht h)

/-- The rank of the word at a place. -/
theorem rank_at {n k : Nat} (h1 : 1 ≤ n) (h7 : n ≤ 7) (hk : k < ends (2 * n) 0) : Word (txt (atW (2 * n) 0 k)) ∧ (txt (atW (2 * n) 0 k)).size = 2 * n ∧ rankL (atW (2 * n) 0 k) 0 = k := by
  have ha := all_at (n := n) hk
  have hm := all_mem h1 h7 (List.mem_of_getElem? ha)
  have hr := all_rank hm.1
  have e : (txt (atW (2 * n) 0 k)).size / 2 = n := by omega
  rw [e, txt_list] at hr
  refine ⟨hm.1, hm.2, ?_⟩
  obtain ⟨g1, g2⟩ := List.getElem?_eq_some_iff.1 hr
  have := all_before ha g1
  rw [g2] at this
  have e2 := all_before hr (t := k) (by rw [all_len]; exact hk)
  obtain ⟨g3, g4⟩ := List.getElem?_eq_some_iff.1 ha
  rw [g4] at e2
  have z := less_self (txt (atW (2 * n) 0 k)).data.toList
  unfold lss at this e2
  rw [z] at this e2
  have a1 := of_decide_eq_false this.symm
  have a2 := of_decide_eq_false e2.symm
  omega

theorem rank_lt {w : ByteArray} (h : Word w) : rankL w.data.toList 0 < ends (2 * (w.size / 2)) 0 := by
  have := (List.getElem?_eq_some_iff.1 (all_rank h)).1
  rw [all_len] at this; exact this

/-! ### The answers -/
def rankWAns (w : ByteArray) : Int × Bool := if Word w then ((rankL w.data.toList 0 : Nat), true) else (0, false)
def atWAns (n k : Int) : ByteArray × Bool := if 1 ≤ n ∧ n ≤ 7 ∧ 0 ≤ k ∧ k < (ends (2 * n.toNat) 0 : Int) then (txt (atW (2 * n.toNat) 0 k.toNat), true) else (ByteArray.empty, false)
def oneAns (n : Int) : Int × Bool := if 1 ≤ n ∧ n ≤ 7 then ((ends (2 * n.toNat) 0 : Nat), true) else (0, false)

end Go.Proofs.Ytnhhnffolmgceaa.EndsM

end

section
namespace Go.Proofs.Ytnhhnffolmgceaa.SweepM
open NumC OrdMath WordMath OrdFacts EndsM

/-- What a number pops, the top first. -/
def popd (s : List Int) (x : Int) : List Int := s.reverse.takeWhile (fun y => decide (y < x))
/-- What it leaves on the stack. -/
def belw (s : List Int) (x : Int) : List Int := (s.reverse.dropWhile (fun y => decide (y < x))).reverse

theorem parts (s : List Int) (x : Int) : belw s x ++ (popd s x).reverse = s := by
  unfold belw popd
  rw [← List.reverse_append, List.takeWhile_append_dropWhile, List.reverse_reverse]

theorem popd_nil (x : Int) : popd [] x = [] := rfl
theorem belw_nil (x : Int) : belw [] x = [] := rfl
theorem popd_less {s : List Int} {y x : Int} (h : y < x) : popd (s ++ [y]) x = y :: popd s x := by simp [popd, h]
theorem belw_less {s : List Int} {y x : Int} (h : y < x) : belw (s ++ [y]) x = belw s x := by simp [belw, h]
theorem popd_not {s : List Int} {y x : Int} (h : ¬ y < x) : popd (s ++ [y]) x = [] := by simp [popd, h]
theorem belw_not {s : List Int} {y x : Int} (h : ¬ y < x) : belw (s ++ [y]) x = s ++ [y] := by simp [belw, h]

theorem tw_all {p : Int → Bool} : ∀ {l : List Int}, (∀ y ∈ l, p y = true) → l.takeWhile p = l
  | [], _ => rfl
  | a :: t, h => by rw [List.takeWhile_cons, if_pos (h a (by simp)), tw_all (fun y hy => h y (by simp [hy]))]
theorem tw_mem {p : Int → Bool} {y : Int} : ∀ {l : List Int}, y ∈ l.takeWhile p → p y = true
  | [], h => by simp at h
  | a :: t, h => by
    rw [List.takeWhile_cons] at h
    split at h
    · rename_i ha
      rcases List.mem_cons.1 h with rfl | h
      · exact ha
      · exact tw_mem h
    · cases h

theorem popd_all {s : List Int} {x : Int} (h : ∀ y ∈ s, y < x) : popd s x = s.reverse := by
  unfold popd
  exact tw_all (fun y hy => decide_eq_true (h y (List.mem_reverse.1 hy)))
theorem belw_all {s : List Int} {x : Int} (h : ∀ y ∈ s, y < x) : belw s x = [] := by
  have h1 := parts s x
  rw [popd_all h, List.reverse_reverse] at h1
  exact List.eq_nil_of_length_eq_zero (by have := congrArg List.length h1; simp at this; exact List.length_eq_zero_iff.2 this)

theorem lens (s : List Int) (x : Int) : (belw s x).length + (popd s x).length = s.length := by
  have := congrArg List.length (parts s x); simpa using this

/-- One number. -/
def swF (r : List Int × List Int) (x : Int) : List Int × List Int := (r.1 ++ popd r.2 x, belw r.2 x ++ [x])

/-- What has come out and what is on the stack, behind the first numbers. -/
def swTo (zs : List Int) (k : Nat) : List Int × List Int := (zs.take k).foldl swF ([], [])

theorem sw_start (zs : List Int) : swTo zs 0 = ([], []) := rfl
theorem sw_next {zs : List Int} {k : Nat} {o s : List Int} (hk : k < zs.length) (h : swTo zs k = (o, s)) : swTo zs (k + 1) = (o ++ popd s (zs.getD k 0), belw s (zs.getD k 0) ++ [zs.getD k 0]) := by
  unfold swTo at h ⊢
  rw [List.take_succ_eq_append_getElem hk, List.foldl_append, h]
  have e : zs.getD k 0 = zs[k] := by simp [hk]
  rw [e]; rfl

/-- The sweep. -/
def sweepL (zs : List Int) : List Int := (zs.foldl swF ([], [])).1 ++ (zs.foldl swF ([], [])).2.reverse

theorem sweep_end {zs o s : List Int} (h : swTo zs zs.length = (o, s)) : sweepL zs = o ++ s.reverse := by
  unfold swTo at h
  rw [List.take_length] at h
  unfold sweepL
  rw [h]

theorem fold_out (l : List Int) : ∀ (o s : List Int), l.foldl swF (o, s) = (o ++ (l.foldl swF ([], s)).1, (l.foldl swF ([], s)).2) := by
  induction l with
  | nil => intro o s; simp
  | cons x t ih =>
    intro o s
    show t.foldl swF (o ++ popd s x, belw s x ++ [x]) = _
    rw [ih]
    have e : (x :: t).foldl swF ([], s) = t.foldl swF ([] ++ popd s x, belw s x ++ [x]) := rfl
    rw [e, ih ([] ++ popd s x)]
    simp

theorem sw_perm (l : List Int) : ∀ (o s : List Int), ((l.foldl swF (o, s)).1 ++ (l.foldl swF (o, s)).2).Perm (o ++ s ++ l) := by
  induction l with
  | nil => intro o s; simp
  | cons x t ih =>
    intro o s
    refine (ih (o ++ popd s x) (belw s x ++ [x])).trans ?_
    have h1 : (popd s x ++ belw s x).Perm s := by
      have h2 : (belw s x ++ popd s x).Perm (belw s x ++ (popd s x).reverse) := (List.reverse_perm _).symm.append_left _
      rw [parts] at h2
      exact List.perm_append_comm.trans h2
    have e : o ++ popd s x ++ (belw s x ++ [x]) ++ t = o ++ (popd s x ++ belw s x) ++ (x :: t) := by simp
    rw [e]
    exact (h1.append_left o).append_right _

theorem sweep_perm (zs : List Int) : (sweepL zs).Perm zs := by
  have h := sw_perm zs [] []
  simp only [List.nil_append] at h
  unfold sweepL
  exact ((List.reverse_perm _).append_left _).trans h

theorem sweep_len (zs : List Int) : (sweepL zs).length = zs.length := (sweep_perm zs).length_eq

theorem ord_sweep {zs : List Int} (h : Ord zs) : Ord (sweepL zs) :=
  ord_of_perm ((sweep_perm zs).trans (ord_perm h)) h.1 h.2.1

theorem stack_ne (l : List Int) (x : Int) (o s : List Int) : ((l ++ [x]).foldl swF (o, s)).2 ≠ [] := by
  rw [List.foldl_append]; show _ ++ [x] ≠ []; simp

/-! ### The word -/
/-- The signs of the first numbers. -/
def sgTo (zs : List Int) : Nat → List UInt8
  | 0 => []
  | k + 1 => sgTo zs k ++ List.replicate (popd (swTo zs k).2 (zs.getD k 0)).length 79 ++ [73]

def swWord (zs : List Int) : List UInt8 := sgTo zs zs.length ++ List.replicate (swTo zs zs.length).2.length 79

def stepL (zs : List Int) (r : List Int × List Int × Nat) (c : UInt8) : List Int × List Int × Nat :=
  if c = 73 then (r.1, r.2.1 ++ [zs.getD r.2.2 0], r.2.2 + 1) else (r.1 ++ [r.2.1.getLast?.getD 0], r.2.1.dropLast, r.2.2)

theorem run_fold (zs : List Int) (w : ByteArray) : ∀ k, k ≤ w.size → runTo zs w k = (w.data.toList.take k).foldl (stepL zs) ([], [], 0)
  | 0, _ => rfl
  | k + 1, h => by
    have h2 : k < w.data.toList.length := by rw [Array.length_toList]; exact h
    have hb : w.data.toList[k] = byt w k := by unfold byt; rw [List.getD_eq_getElem?_getD, List.getElem?_eq_getElem h2, Option.getD_some]
    rw [List.take_succ_eq_append_getElem h2, List.foldl_append, ← run_fold zs w k (by omega), hb]
    rfl

theorem run_txt (zs : List Int) (l : List UInt8) : runOut zs (txt l) = (l.foldl (stepL zs) ([], [], 0)).1 := by
  unfold runOut
  rw [run_fold zs (txt l) _ (Nat.le_refl _), txt_list, txt_size, List.take_length]

theorem step_pops (zs : List Int) (x : Nat) : ∀ (t s o : List Int), (List.replicate t.length 79).foldl (stepL zs) (o, s ++ t.reverse, x) = (o ++ t, s, x)
  | [], s, o => by simp
  | a :: t, s, o => by
    have e : (List.replicate (a :: t).length (79 : UInt8)) = 79 :: List.replicate t.length 79 := rfl
    rw [e]
    show (List.replicate t.length 79).foldl (stepL zs) (stepL zs (o, s ++ (a :: t).reverse, x) 79) = _
    have e2 : stepL zs (o, s ++ (a :: t).reverse, x) 79 = (o ++ [a], s ++ t.reverse, x) := by
      unfold stepL
      rw [if_neg (by decide)]
      have e3 : s ++ (a :: t).reverse = (s ++ t.reverse) ++ [a] := by simp
      rw [e3]
      simp
    rw [e2, step_pops zs x t s (o ++ [a])]
    simp

theorem sg_run (zs : List Int) : ∀ k, k ≤ zs.length → (sgTo zs k).foldl (stepL zs) ([], [], 0) = ((swTo zs k).1, (swTo zs k).2, k)
  | 0, _ => rfl
  | k + 1, h => by
    obtain ⟨o, s, hr⟩ : ∃ o s, swTo zs k = (o, s) := ⟨_, _, rfl⟩
    have hn := sw_next (zs := zs) (k := k) (by omega) hr
    unfold sgTo
    rw [List.foldl_append, List.foldl_append, sg_run zs k (by omega), hr, hn]
    simp only
    have e : s = belw s (zs.getD k 0) ++ (popd s (zs.getD k 0)).reverse := (parts _ _).symm
    have h2 := step_pops zs k (popd s (zs.getD k 0)) (belw s (zs.getD k 0)) o
    rw [← e] at h2
    rw [h2]
    rfl

/-- A walk over signs from a depth to another one. -/
def Path : List UInt8 → Nat → Nat → Prop
  | [], d, e => d = e
  | c :: t, d, e => (c = 73 ∧ Path t (d + 1) e) ∨ (c = 79 ∧ 0 < d ∧ Path t (d - 1) e)

theorem path_goes : ∀ l d, Path l d 0 → Goes l d
  | [], _, h => h
  | c :: t, d, h => by
    rcases h with ⟨h1, h⟩ | ⟨h1, h2, h⟩
    · exact .inl ⟨h1, path_goes t _ h⟩
    · exact .inr ⟨h1, h2, path_goes t _ h⟩

theorem path_append : ∀ (l m : List UInt8) (d e f : Nat), Path l d e → Path m e f → Path (l ++ m) d f
  | [], m, d, e, f, h, h2 => by cases h; exact h2
  | c :: t, m, d, e, f, h, h2 => by
    rcases h with ⟨h1, h⟩ | ⟨h1, h3, h⟩
    · exact .inl ⟨h1, path_append t m _ e f h h2⟩
    · exact .inr ⟨h1, h3, path_append t m _ e f h h2⟩

theorem path_pops : ∀ (m d : Nat), Path (List.replicate m 79) (d + m) d
  | 0, d => rfl
  | m + 1, d => .inr ⟨rfl, by omega, path_pops m d⟩

theorem sg_path (zs : List Int) : ∀ k, k ≤ zs.length → Path (sgTo zs k) 0 (swTo zs k).2.length
  | 0, _ => rfl
  | k + 1, h => by
    obtain ⟨o, s, hr⟩ : ∃ o s, swTo zs k = (o, s) := ⟨_, _, rfl⟩
    have hn := sw_next (zs := zs) (k := k) (by omega) hr
    have ih := sg_path zs k (by omega)
    unfold sgTo
    rw [hr] at ih ⊢
    rw [hn]
    simp only at ih ⊢
    refine path_append _ _ _ (belw s (zs.getD k 0)).length _ (path_append _ _ _ s.length _ ih ?_) ?_
    · rw [← lens s (zs.getD k 0)]; exact path_pops _ _
    · exact .inl ⟨rfl, by show _ = _; simp⟩

theorem sg_len (zs : List Int) : ∀ k, k ≤ zs.length → (sgTo zs k).length = k + (swTo zs k).1.length ∧ (swTo zs k).1.length + (swTo zs k).2.length = k
  | 0, _ => ⟨rfl, rfl⟩
  | k + 1, h => by
    obtain ⟨o, s, hr⟩ : ∃ o s, swTo zs k = (o, s) := ⟨_, _, rfl⟩
    have hn := sw_next (zs := zs) (k := k) (by omega) hr
    have ih := sg_len zs k (by omega)
    unfold sgTo
    rw [hr] at ih ⊢
    rw [hn]
    simp only at ih ⊢
    have := lens s (zs.getD k 0)
    simp only [List.length_append, List.length_replicate, List.length_singleton]
    omega

theorem swWord_len (zs : List Int) : (swWord zs).length = 2 * zs.length := by
  have h := sg_len zs zs.length (Nat.le_refl _)
  unfold swWord
  simp
  omega

theorem sweep_word {zs : List Int} (h1 : 1 ≤ zs.length) (h7 : zs.length ≤ 7) : Word (txt (swWord zs)) ∧ (txt (swWord zs)).size = 2 * zs.length ∧ runOut zs (txt (swWord zs)) = sweepL zs := by
  have hl := swWord_len zs
  refine ⟨goes_word (path_goes _ _ ?_) (by omega) (by omega), by rw [txt_size, hl], ?_⟩
  · have h := sg_path zs zs.length (Nat.le_refl _)
    refine path_append _ _ _ _ _ h ?_
    have := path_pops (swTo zs zs.length).2.length 0
    rwa [Nat.zero_add] at this
  · obtain ⟨o, s, hr⟩ : ∃ o s, swTo zs zs.length = (o, s) := ⟨_, _, rfl⟩
    rw [run_txt, sweep_end hr]
    unfold swWord
    rw [List.foldl_append, sg_run zs _ (Nat.le_refl _), hr]
    have h2 := step_pops zs zs.length s.reverse [] o
    rw [List.reverse_reverse, List.nil_append, List.length_reverse] at h2
    show (List.foldl (stepL zs) (o, s, zs.length) (List.replicate s.length 79)).1 = _
    rw [h2]

/-! ### Sweeps sort -/
/-- The number at the bottom of the stack is the greatest one so far. -/
def Top (s : List Int) (seen : List Int) : Prop := ∃ m t, s = m :: t ∧ m ∈ seen ∧ ∀ y ∈ seen, y ≤ m

theorem top_next {s seen : List Int} {x : Int} (h : Top s seen) (hs : ∀ y ∈ s, y ∈ seen) : Top (belw s x ++ [x]) (seen ++ [x]) ∧ ∀ y ∈ belw s x ++ [x], y ∈ seen ++ [x] := by
  obtain ⟨m, t, rfl, hm, hall⟩ := h
  have hp := parts (m :: t) x
  have hsub : ∀ y ∈ belw (m :: t) x, y ∈ m :: t := fun y hy => by rw [← hp]; exact List.mem_append.2 (.inl hy)
  refine ⟨?_, ?_⟩
  · by_cases hmx : m < x
    · have hb : belw (m :: t) x = [] := belw_all (fun y hy => by have := hall y (hs y hy); omega)
      refine ⟨x, [], by rw [hb]; rfl, by simp, ?_⟩
      intro y hy
      rcases List.mem_append.1 hy with h | h
      · have := hall y h; omega
      · simp at h; omega
    · have hne : belw (m :: t) x ≠ [] := by
        intro e
        rw [e, List.nil_append] at hp
        have h9 : m ∈ popd (m :: t) x := by
          have : m ∈ (popd (m :: t) x).reverse := by rw [hp]; simp
          exact List.mem_reverse.1 this
        unfold popd at h9
        have := tw_mem h9
        exact hmx (of_decide_eq_true this)
      obtain ⟨a, u, hu⟩ : ∃ a u, belw (m :: t) x = a :: u := by
        cases hb : belw (m :: t) x with
        | nil => exact absurd hb hne
        | cons a u => exact ⟨a, u, rfl⟩
      rw [hu] at hp
      have ha : a = m := by injection hp
      subst ha
      refine ⟨a, u ++ [x], by rw [hu]; rfl, by simp [hm], ?_⟩
      intro y hy
      rcases List.mem_append.1 hy with h | h
      · exact hall y h
      · simp at h; omega
  · intro y hy
    rcases List.mem_append.1 hy with h | h
    · exact List.mem_append.2 (.inl (hs y (hsub y h)))
    · exact List.mem_append.2 (.inr h)

theorem top_fold : ∀ (l s seen o : List Int), Top s seen → (∀ y ∈ s, y ∈ seen) → Top (l.foldl swF (o, s)).2 (seen ++ l)
  | [], s, seen, o, h, _ => by simpa using h
  | x :: t, s, seen, o, h, hs => by
    have h2 := top_next (x := x) h hs
    have := top_fold t (belw s x ++ [x]) (seen ++ [x]) (o ++ popd s x) h2.1 h2.2
    rw [List.append_assoc] at this
    exact this

theorem sweep_top {l : List Int} (h : l ≠ []) : Top (l.foldl swF ([], [])).2 l := by
  cases l with
  | nil => exact absurd rfl h
  | cons x t =>
    have := top_fold t [x] [x] [] ⟨x, [], rfl, by simp, fun y hy => by simp at hy; omega⟩ (fun y hy => hy)
    exact this

/-- The sweep ends with the greatest number. -/
theorem sweep_last {l : List Int} (h : l ≠ []) : ∃ p m, sweepL l = p ++ [m] ∧ m ∈ l ∧ ∀ y ∈ l, y ≤ m := by
  obtain ⟨m, t, h1, h2, h3⟩ := sweep_top h
  refine ⟨(l.foldl swF ([], [])).1 ++ t.reverse, m, ?_, h2, h3⟩
  unfold sweepL
  rw [h1]
  simp

/-- Ascending numbers greater than all ahead of them stay. -/
theorem sweep_tail : ∀ (q o s : List Int), q.Pairwise (· < ·) → (∀ y ∈ q, ∀ z ∈ s, z < y) → (q.foldl swF (o, s)).1 ++ (q.foldl swF (o, s)).2.reverse = o ++ s.reverse ++ q
  | [], o, s, _, _ => by simp
  | y :: q, o, s, h, hs => by
    have hall : ∀ z ∈ s, z < y := hs y (by simp)
    have e : (y :: q).foldl swF (o, s) = q.foldl swF (o ++ s.reverse, [y]) := by
      show q.foldl swF (o ++ popd s y, belw s y ++ [y]) = _
      rw [popd_all hall, belw_all hall]; rfl
    rw [e, sweep_tail q _ _ (List.pairwise_cons.1 h).2 (fun z hz u hu => by simp at hu; subst hu; exact (List.pairwise_cons.1 h).1 z hz)]
    simp

theorem sweep_append {p q : List Int} (hq : q.Pairwise (· < ·)) (hp : ∀ y ∈ q, ∀ z ∈ p, z < y) : sweepL (p ++ q) = sweepL p ++ q := by
  unfold sweepL
  rw [List.foldl_append]
  obtain ⟨o, s, hr⟩ : ∃ o s, p.foldl swF ([], []) = (o, s) := ⟨_, _, rfl⟩
  rw [hr]
  have hs : ∀ z ∈ s, z ∈ p := by
    intro z hz
    have h := sw_perm p [] []
    rw [hr] at h
    have h9 : z ∈ o ++ s := List.mem_append.2 (.inr hz)
    have := h.mem_iff.1 h9
    simpa using this
  rw [sweep_tail q o s hq (fun y hy z hz => hp y hy z (hs z hz))]

/-- So many sweeps. -/
def swN (zs : List Int) : Nat → List Int
  | 0 => zs
  | k + 1 => sweepL (swN zs k)

theorem swN_perm (zs : List Int) : ∀ k, (swN zs k).Perm zs
  | 0 => List.Perm.refl _
  | k + 1 => (sweep_perm _).trans (swN_perm zs k)

theorem ord_swN {zs : List Int} (h : Ord zs) (k : Nat) : Ord (swN zs k) := ord_of_perm ((swN_perm zs k).trans (ord_perm h)) h.1 h.2.1
theorem swN_len (zs : List Int) (k : Nat) : (swN zs k).length = zs.length := (swN_perm zs k).length_eq

theorem swN_tail {zs : List Int} (hn : zs.Nodup) : ∀ k, k ≤ zs.length → ∃ p q, swN zs k = p ++ q ∧ q.length = k ∧ q.Pairwise (· < ·) ∧ ∀ y ∈ q, ∀ z ∈ p, z < y
  | 0, _ => ⟨zs, [], by simp [swN], rfl, .nil, by simp⟩
  | k + 1, h => by
    obtain ⟨p, q, e, hq, hs, hp⟩ := swN_tail hn k (by omega)
    have hl := swN_len zs k
    rw [e] at hl
    have hne : p ≠ [] := by intro h0; subst h0; simp at hl; omega
    obtain ⟨p2, m, e2, hm, hmax⟩ := sweep_last hne
    refine ⟨p2, m :: q, ?_, by simp [hq], ?_, ?_⟩
    · show sweepL (swN zs k) = _
      rw [e, sweep_append hs hp, e2]; simp
    · exact List.pairwise_cons.2 ⟨fun y hy => hp y hy m hm, hs⟩
    · have hperm := sweep_perm p
      rw [e2] at hperm
      have hnd : p.Nodup := by
        have h1 := (swN_perm zs k).nodup_iff.2 hn
        rw [e] at h1
        exact (List.nodup_append.1 h1).1
      have hnd2 := hperm.nodup_iff.2 hnd
      have hmem : ∀ z ∈ p2, z ∈ p := fun z hz => hperm.mem_iff.1 (by simp [hz])
      intro y hy z hz
      rcases List.mem_cons.1 hy with rfl | hy
      · have h1 := hmax z (hmem z hz)
        have h2 : z ≠ y := by
          intro e3; subst e3
          exact (List.nodup_append.1 hnd2).2.2 z hz z (by simp) rfl
        omega
      · exact hp y hy z (hmem z hz)

theorem sorted_is {l : List Int} {n : Nat} (h : l.Perm (iota n)) (hs : l.Pairwise (· < ·)) : l = iota n :=
  h.eq_of_pairwise (fun a b _ _ h1 h2 => by omega) hs (iota_sorted n)

theorem swN_sorts {zs : List Int} (h : Ord zs) : swN zs (zs.length - 1) = iota zs.length := by
  have h1 := h.1
  obtain ⟨p, q, e, hq, hs, hp⟩ := swN_tail h.2.2.2 (zs.length - 1) (by omega)
  have hl := swN_len zs (zs.length - 1)
  refine sorted_is ((swN_perm zs _).trans (ord_perm h)) ?_
  rw [e] at hl ⊢
  simp at hl
  rw [List.pairwise_append]
  refine ⟨?_, hs, fun z hz y hy => hp y hy z hz⟩
  match p, hl with
  | [], _ => exact .nil
  | [a], _ => exact List.pairwise_singleton _ _
  | a :: b :: t, hl => simp at hl; omega

/-- The number of sweeps that sort. -/
def firstN (zs : List Int) : Nat → Nat → Nat
  | 0, k => k
  | f + 1, k => if swN zs k = iota zs.length then k else firstN zs f (k + 1)

def many (zs : List Int) : Nat := firstN zs (zs.length - 1) 0

theorem first_is {zs : List Int} : ∀ f k, swN zs (k + f) = iota zs.length → (∀ j, j < k → swN zs j ≠ iota zs.length) → swN zs (firstN zs f k) = iota zs.length ∧ (∀ j, j < firstN zs f k → swN zs j ≠ iota zs.length) ∧ firstN zs f k ≤ k + f
  | 0, k, h, hb => ⟨h, hb, Nat.le_refl _⟩
  | f + 1, k, h, hb => by
    unfold firstN
    by_cases he : swN zs k = iota zs.length
    · rw [if_pos he]; exact ⟨he, hb, by omega⟩
    · rw [if_neg he]
      have := first_is f (k + 1) (by rw [show k + 1 + f = k + (f + 1) by omega]; exact h) (fun j hj => by
        rcases Nat.lt_succ_iff_lt_or_eq.1 hj with h1 | h1
        · exact hb j h1
        · subst h1; exact he)
      exact ⟨this.1, this.2.1, by omega⟩

theorem many_is {zs : List Int} (h : Ord zs) : swN zs (many zs) = iota zs.length ∧ (∀ j, j < many zs → swN zs j ≠ iota zs.length) ∧ many zs < zs.length := by
  have h1 := h.1
  have := first_is (zs := zs) (zs.length - 1) 0 (by rw [Nat.zero_add]; exact swN_sorts h) (by omega)
  unfold many
  exact ⟨this.1, this.2.1, by omega⟩

/-! ### The answers -/
def sweepAns (zs : List Int) : List Int × Bool := if Ord zs then (sweepL zs, true) else ([], false)
def swWordAns (zs : List Int) : ByteArray × Bool := if Ord zs then (txt (swWord zs), true) else (ByteArray.empty, false)
def sweepsAns (zs : List Int) : Int × Bool := if Ord zs then ((many zs : Nat), true) else (0, false)

theorem sweep_alen {zs xs : List Int} {b : Bool} (h : sweepAns zs = (xs, b)) : xs.length ≤ 1048576 := by
  unfold sweepAns at h; split at h
  · rename_i ho; cases h; have := ho.2.1; rw [sweep_len]; omega
  · cases h; simp

end Go.Proofs.Ytnhhnffolmgceaa.SweepM

end

section
namespace Go.Proofs.Ytnhhnffolmgceaa.StackM
open NumC OrdMath WordMath OrdFacts EndsM SweepM

/-- The order before, place by place. -/
def befTo (out ps : List Int) : Nat → List Int
  | 0 => List.replicate out.length 0
  | k + 1 => (befTo out ps k).set (ps.getD k 0 - 1).toNat (out.getD k 0)

theorem befTo_len (out ps : List Int) : ∀ k, (befTo out ps k).length = out.length
  | 0 => by simp [befTo]
  | k + 1 => by simp [befTo, befTo_len out ps k]

/-- The order from which another one comes out by a word. -/
def beforeOf (out : List Int) (w : ByteArray) : List Int := befTo out (runOut (iota out.length) w) out.length

theorem iota_getD {n k : Nat} (h : k < n) : (iota n).getD k 0 = (k : Int) + 1 := by
  have := iota_at n k h
  rw [List.getD_eq_getElem?_getD, List.getElem?_eq_getElem (by rw [iota_len]; exact h), Option.getD_some, this]

theorem bef_inv {n : Nat} {ps : List Int} (h : ps.length = n) : ∀ k, k ≤ n → befTo (iota n) ps k = invOf ps k
  | 0, _ => by unfold befTo invOf; rw [iota_len, h]
  | k + 1, hk => by
    unfold befTo invOf
    rw [bef_inv h k (by omega), iota_getD (by omega)]

theorem ord_iota {n : Nat} (h1 : 1 ≤ n) (h7 : n ≤ 7) : Ord (iota n) := ord_of_perm (List.Perm.refl _) h1 h7

/-! ### Record places -/
def recTo (zs : List Int) : Nat → List Int × Int
  | 0 => ([], 0)
  | k + 1 => if (recTo zs k).2 < zs.getD k 0 then ((recTo zs k).1 ++ [(k : Int)], zs.getD k 0) else recTo zs k

theorem rec_yes {zs r : List Int} {k : Nat} {m : Int} (h : recTo zs k = (r, m)) (hz : m < zs.getD k 0) : recTo zs (k + 1) = (r ++ [(k : Int)], zs.getD k 0) := by
  unfold recTo; rw [h]; simp only; rw [if_pos hz]
theorem rec_no {zs r : List Int} {k : Nat} {m : Int} (h : recTo zs k = (r, m)) (hz : ¬ m < zs.getD k 0) : recTo zs (k + 1) = (r, m) := by
  unfold recTo; rw [h]; simp only; rw [if_neg hz]
theorem rec_len (zs : List Int) : ∀ k, (recTo zs k).1.length ≤ k
  | 0 => Nat.le_refl _
  | k + 1 => by
    have := rec_len zs k
    unfold recTo
    split
    · simp; exact this
    · omega
theorem rec_range {zs : List Int} (h : Ord zs) : ∀ k, k ≤ zs.length → 0 ≤ (recTo zs k).2 ∧ (recTo zs k).2 ≤ 7
  | 0, _ => by simp [recTo]
  | k + 1, hk => by
    have := rec_range h k (by omega)
    obtain ⟨m, h1, h2⟩ := h.getD (k := k) (by omega)
    have := h.2.1
    unfold recTo
    split
    · simp only; omega
    · exact rec_range h k (by omega)

def recAns (zs : List Int) : List Int × Bool := if Ord zs then ((recTo zs zs.length).1, true) else ([], false)

theorem rec_alen {zs xs : List Int} {b : Bool} (h : recAns zs = (xs, b)) : xs.length ≤ 1048576 := by
  unfold recAns at h; split at h
  · rename_i ho; cases h; have := ho.2.1; have := rec_len zs zs.length; omega
  · cases h; simp

/-! ### Blocks -/
/-- The lengths of the blocks so far, where the last one ends, and the greatest number so far. -/
def blkTo (zs : List Int) : Nat → List Int × Nat × Int
  | 0 => ([], 0, 0)
  | k + 1 => let r := blkTo zs k
    let m := max r.2.2 (zs.getD k 0)
    if m = (k : Int) + 1 then (r.1 ++ [(k : Int) + 1 - (r.2.1 : Int)], k + 1, m) else (r.1, r.2.1, m)

theorem blk_yes {zs l : List Int} {k c : Nat} {g m : Int} (h : blkTo zs k = (l, c, g)) (hm : max g (zs.getD k 0) = m) (hz : m = (k : Int) + 1) : blkTo zs (k + 1) = (l ++ [(k : Int) + 1 - (c : Int)], k + 1, m) := by
  unfold blkTo; rw [h]; simp only; rw [hm, if_pos hz]
theorem blk_no {zs l : List Int} {k c : Nat} {g m : Int} (h : blkTo zs k = (l, c, g)) (hm : max g (zs.getD k 0) = m) (hz : ¬ m = (k : Int) + 1) : blkTo zs (k + 1) = (l, c, m) := by
  unfold blkTo; rw [h]; simp only; rw [hm, if_neg hz]
theorem blk_len (zs : List Int) : ∀ k, (blkTo zs k).1.length ≤ k ∧ (blkTo zs k).2.1 ≤ k
  | 0 => ⟨Nat.le_refl _, Nat.le_refl _⟩
  | k + 1 => by
    have := blk_len zs k
    obtain ⟨l, c, g, hr⟩ : ∃ l c g, blkTo zs k = (l, c, g) := ⟨_, _, _, rfl⟩
    obtain ⟨m, hm⟩ : ∃ m, max g (zs.getD k 0) = m := ⟨_, rfl⟩
    rw [hr] at this
    simp only at this
    by_cases hz : m = (k : Int) + 1
    · rw [blk_yes hr hm hz]; simp; omega
    · rw [blk_no hr hm hz]; simp only; omega
theorem blk_range {zs : List Int} (h : Ord zs) : ∀ k, k ≤ zs.length → 0 ≤ (blkTo zs k).2.2 ∧ (blkTo zs k).2.2 ≤ 7
  | 0, _ => by simp [blkTo]
  | k + 1, hk => by
    have ih := blk_range h k (by omega)
    obtain ⟨x, h1, h2⟩ := h.getD (k := k) (by omega)
    have := h.2.1
    obtain ⟨l, c, g, hr⟩ : ∃ l c g, blkTo zs k = (l, c, g) := ⟨_, _, _, rfl⟩
    obtain ⟨m, hm⟩ : ∃ m, max g (zs.getD k 0) = m := ⟨_, rfl⟩
    rw [hr] at ih
    simp only at ih
    have hm2 : 0 ≤ m ∧ m ≤ 7 := by omega
    by_cases hz : m = (k : Int) + 1
    · rw [blk_yes hr hm hz]; exact hm2
    · rw [blk_no hr hm hz]; exact hm2

def blkAns (zs : List Int) : List Int × Bool := if Ord zs then ((blkTo zs zs.length).1, true) else ([], false)

theorem blk_alen {zs xs : List Int} {b : Bool} (h : blkAns zs = (xs, b)) : xs.length ≤ 1048576 := by
  unfold blkAns at h; split at h
  · rename_i ho; cases h; have := ho.2.1; have := (blk_len zs zs.length).1; omega
  · cases h; simp

end Go.Proofs.Ytnhhnffolmgceaa.StackM

end

section
namespace Go.Proofs.Ytnhhnffolmgceaa.LimW
open NumC OrdMath WordMath OrdFacts EndsM SweepM StackM

/-- In how many ways a word within d goes on, with m signs left and k on the stack. -/
def wy (d : Nat) : Nat → Nat → Nat
  | 0, k => if k = 0 then 1 else 0
  | m + 1, k => (if 0 < k then wy d m (k - 1) else 0) + (if k < d then wy d m (k + 1) else 0)

theorem wy_zero (d : Nat) : ∀ m k, m < k → wy d m k = 0
  | 0, k, h => by unfold wy; rw [if_neg (by omega)]
  | m + 1, k, h => by
    unfold wy
    rw [wy_zero d m (k - 1) (by omega), wy_zero d m (k + 1) (by omega)]
    split <;> split <;> rfl

theorem wy_le (d : Nat) : ∀ m k, wy d m k ≤ 2 ^ m
  | 0, k => by unfold wy; split <;> simp
  | m + 1, k => by
    have h1 := wy_le d m (k - 1)
    have h2 := wy_le d m (k + 1)
    have e : 2 ^ (m + 1) = 2 ^ m + 2 ^ m := by rw [Nat.pow_succ]; omega
    unfold wy
    split <;> split <;> omega

theorem wy_16k {d m k : Nat} (h : m ≤ 14) : wy d m k ≤ 16384 := by
  have h1 := wy_le d m k
  have h2 : 2 ^ m ≤ 2 ^ 14 := Nat.pow_le_pow_right (by omega) h
  have h3 : (2 : Nat) ^ 14 = 16384 := by decide
  omega

theorem wy_2m {d m k : Nat} (h : m ≤ 22) : wy d m k ≤ 4194304 := by
  have h1 := wy_le d m k
  have h2 : 2 ^ m ≤ 2 ^ 22 := Nat.pow_le_pow_right (by omega) h
  have h3 : (2 : Nat) ^ 22 = 4194304 := by decide
  omega

/-- The same, where more are on the stack than the limit. -/
def lE (d m k : Nat) : Nat := if d < k then 0 else wy d m k

theorem lE_16k {d m k : Nat} (h : m ≤ 14) : lE d m k ≤ 16384 := by
  have := @wy_16k d m k h
  unfold lE; split <;> omega

theorem lE_zero {d m k : Nat} (h : m < k) : lE d m k = 0 := by
  unfold lE
  rw [wy_zero d m k h]; simp

/-- What is on the stack and what is left. -/
theorem lE_next {d m k : Nat} (h : k ≤ d) : lE d (m + 1) k = (if 0 < k then lE d m (k - 1) else 0) + lE d m (k + 1) := by
  unfold lE
  rw [if_neg (by omega)]
  conv => lhs; unfold wy
  congr 1
  · split
    · rw [if_neg (by omega)]
    · rfl
  · by_cases hk : k < d
    · rw [if_pos hk, if_neg (by omega)]
    · rw [if_neg hk, if_pos (by omega)]

/-- What the program's recursion tells: p numbers to push, h on the stack. -/
def wp (d p h : Nat) : Nat := lE d (2 * p + h) h

theorem wp_high {d p h : Nat} (hh : d < h) : wp d p h = 0 := by unfold wp lE; rw [if_pos hh]

theorem wy_pops (d : Nat) : ∀ h, h ≤ d → wy d h h = 1
  | 0, _ => rfl
  | h + 1, hd => by
    unfold wy
    rw [if_pos (by omega), Nat.add_sub_cancel, wy_pops d h (by omega), wy_zero d h (h + 1 + 1) (by omega)]
    split <;> rfl

theorem wp_zero {d h : Nat} (hh : h ≤ d) : wp d 0 h = 1 := by
  unfold wp lE
  rw [if_neg (by omega), Nat.mul_zero, Nat.zero_add]
  exact wy_pops d h hh

theorem wp_next {d p h : Nat} (hh : h ≤ d) : wp d (p + 1) h = wp d p (h + 1) + (if 0 < h then wp d (p + 1) (h - 1) else 0) := by
  unfold wp
  rw [show 2 * (p + 1) + h = (2 * p + (h + 1)) + 1 by omega, lE_next hh, Nat.add_comm]
  congr 1
  split
  · rw [show 2 * (p + 1) + (h - 1) = 2 * p + (h + 1) by omega]
  · rfl

theorem wp_2m {d p h : Nat} (hp : p ≤ 7) (hh : h ≤ 8) : wp d p h ≤ 4194304 := by
  have := @wy_2m d (2 * p + h) h (by omega)
  unfold wp lE
  split <;> omega

/-- What is ahead of a pop, from the program's numbers. -/
theorem ahead_is {d p h m : Nat} (hm : 2 * p + h = m + 1) : (if p = 0 then 0 else wp d (p - 1) (h + 1)) = lE d m (h + 1) := by
  by_cases h0 : p = 0
  · rw [if_pos h0, lE_zero (by omega)]
  · rw [if_neg h0]; unfold wp; rw [show 2 * (p - 1) + (h + 1) = m by omega]

/-! ### Words within a limit -/
/-- Signs that go on to the end of a word within d. -/
def GoesD (d : Nat) : List UInt8 → Nat → Prop
  | [], h => h = 0
  | c :: t, h => (c = 73 ∧ h + 1 ≤ d ∧ GoesD d t (h + 1)) ∨ (c = 79 ∧ 0 < h ∧ GoesD d t (h - 1))

/-- How many words within d come before. -/
def rkL (d : Nat) : List UInt8 → Nat → Nat
  | [], _ => 0
  | c :: t, h => if c = 73 then rkL d t (h + 1) else lE d t.length (h + 1) + rkL d t (h - 1)

/-- The word within d at a place. -/
def atD (d : Nat) : Nat → Nat → Nat → List UInt8
  | 0, _, _ => []
  | m + 1, h, k => if k < lE d m (h + 1) then 73 :: atD d m (h + 1) k else 79 :: atD d m (h - 1) (k - lE d m (h + 1))

theorem atD_I {d m h k : Nat} (hk : k < lE d m (h + 1)) : atD d (m + 1) h k = 73 :: atD d m (h + 1) k := by
  conv => lhs; unfold atD
  rw [if_pos hk]
theorem atD_O {d m h k : Nat} (hk : ¬ k < lE d m (h + 1)) : atD d (m + 1) h k = 79 :: atD d m (h - 1) (k - lE d m (h + 1)) := by
  conv => lhs; unfold atD
  rw [if_neg hk]

theorem stepD_I {d m h k : Nat} (hk : k < lE d m (h + 1)) : h + 1 ≤ d ∧ h + 1 ≤ m := by
  refine ⟨?_, ?_⟩
  · rcases Nat.lt_or_ge d (h + 1) with h2 | h2
    · unfold lE at hk; rw [if_pos h2] at hk; omega
    · exact h2
  · rcases Nat.lt_or_ge m (h + 1) with h2 | h2
    · rw [lE_zero h2] at hk; omega
    · exact h2

theorem stepD_O {d m h k : Nat} (hd : h ≤ d) (hk : k < lE d (m + 1) h) (h2 : ¬ k < lE d m (h + 1)) : 0 < h ∧ k - lE d m (h + 1) < lE d m (h - 1) := by
  rw [lE_next hd] at hk
  by_cases h0 : 0 < h
  · rw [if_pos h0] at hk; exact ⟨h0, by omega⟩
  · rw [if_neg h0] at hk; omega

theorem atD_len (d : Nat) : ∀ m h k, (atD d m h k).length = m
  | 0, _, _ => rfl
  | m + 1, h, k => by unfold atD; split <;> simp [atD_len d m]

theorem at_rankD (d : Nat) : ∀ m h k, h ≤ d → k < lE d m h → GoesD d (atD d m h k) h ∧ rkL d (atD d m h k) h = k
  | 0, h, k, hd, hk => by
    have h0 : h = 0 := by
      rcases Nat.eq_zero_or_pos h with h0 | h0
      · exact h0
      · rw [lE_zero h0] at hk; omega
    subst h0
    have hk1 : k < 1 := by
      have e : lE d 0 0 = 1 := by unfold lE; rw [if_neg (by omega)]; rfl
      rw [e] at hk; exact hk
    have hk0 : k = 0 := by omega
    subst hk0
    exact ⟨rfl, rfl⟩
  | m + 1, h, k, hd, hk => by
    by_cases h2 : k < lE d m (h + 1)
    · rw [atD_I h2]
      have hI := stepD_I h2
      obtain ⟨i1, i2⟩ := at_rankD d m (h + 1) k hI.1 h2
      refine ⟨.inl ⟨rfl, hI.1, i1⟩, ?_⟩
      show (if (73 : UInt8) = 73 then _ else _) = _
      rw [if_pos rfl]; exact i2
    · rw [atD_O h2]
      have hO := stepD_O hd hk h2
      obtain ⟨i1, i2⟩ := at_rankD d m (h - 1) (k - lE d m (h + 1)) (by omega) hO.2
      refine ⟨.inr ⟨rfl, hO.1, i1⟩, ?_⟩
      show (if (79 : UInt8) = 73 then _ else _) = _
      rw [if_neg (by decide), i2, atD_len]; omega

theorem rank_atD (d : Nat) : ∀ (l : List UInt8) (h : Nat), h ≤ d → GoesD d l h → rkL d l h < lE d l.length h ∧ atD d l.length h (rkL d l h) = l
  | [], h, hd, hg => by
    cases hg
    refine ⟨?_, rfl⟩
    show 0 < lE d 0 0
    unfold lE; rw [if_neg (by omega)]; exact Nat.zero_lt_one
  | c :: t, h, hd, hg => by
    have hn := lE_next (d := d) (m := t.length) hd
    rcases hg with ⟨rfl, h1, hg⟩ | ⟨rfl, h0, hg⟩
    · obtain ⟨i1, i2⟩ := rank_atD d t (h + 1) h1 hg
      have e : rkL d (73 :: t) h = rkL d t (h + 1) := by show (if (73 : UInt8) = 73 then _ else _) = _; rw [if_pos rfl]
      rw [e]
      refine ⟨?_, ?_⟩
      · show _ < lE d (t.length + 1) h
        rw [hn]; omega
      · show atD d (t.length + 1) h _ = _
        rw [atD_I i1, i2]
    · obtain ⟨i1, i2⟩ := rank_atD d t (h - 1) (by omega) hg
      have e : rkL d (79 :: t) h = lE d t.length (h + 1) + rkL d t (h - 1) := by show (if (79 : UInt8) = 73 then _ else _) = _; rw [if_neg (by decide)]
      rw [e]
      refine ⟨?_, ?_⟩
      · show _ < lE d (t.length + 1) h
        rw [hn, if_pos h0]; omega
      · show atD d (t.length + 1) h _ = _
        rw [atD_O (by omega), Nat.add_sub_cancel_left, i2]

/-- A word within d. -/
theorem within_goes {d : Nat} {w : ByteArray} : ∀ (m k h : Nat), k + m = w.size → heldTo w k = some h → heldTo w w.size = some 0 → depthTo w w.size ≤ d → GoesD d (w.data.toList.drop k) h
  | 0, k, h, hk, hd, h0, _ => by
    have e : k = w.size := by omega
    subst e
    rw [hd] at h0; cases h0
    rw [List.drop_of_length_le (by rw [Array.length_toList]; exact Nat.le_refl _)]
    rfl
  | m + 1, k, h, hkm, hd, h0, hdp => by
    have hk : k < w.data.toList.length := by rw [Array.length_toList]; show k < w.size; omega
    have hb : w.data.toList[k] = byt w k := by unfold byt; rw [List.getD_eq_getElem?_getD, List.getElem?_eq_getElem hk, Option.getD_some]
    rw [List.drop_eq_getElem_cons hk, hb]
    obtain ⟨e, he, _, _⟩ := held_back (w := w) m (k + 1) 0 (by rw [show k + 1 + m = w.size by omega]; exact h0)
    obtain ⟨h2, hd2, hc⟩ := held_cases he
    rw [hd] at hd2; cases hd2
    have ih := within_goes m (k + 1) e (by omega) he h0 hdp
    have hmono : depthTo w (k + 1) ≤ depthTo w w.size := by
      obtain ⟨j, hj⟩ : ∃ j, w.size = (k + 1) + j := ⟨w.size - (k + 1), by omega⟩
      rw [hj]
      clear hj
      induction j with
      | zero => exact Nat.le_refl _
      | succ j ihj => exact Nat.le_trans ihj (Nat.le_max_left _ _)
    have he2 : e ≤ d := by
      rw [depth_next he] at hmono
      omega
    rcases hc with ⟨h1, rfl⟩ | ⟨h1, h3, rfl⟩
    · exact .inl ⟨h1, he2, ih⟩
    · exact .inr ⟨h1, h3, ih⟩

theorem goes_within {d : Nat} {w : ByteArray} : ∀ (m k h : Nat), k + m = w.size → heldTo w k = some h → depthTo w k ≤ d → GoesD d (w.data.toList.drop k) h → heldTo w w.size = some 0 ∧ depthTo w w.size ≤ d
  | 0, k, h, hk, hd, hdp, hg => by
    have e : k = w.size := by omega
    subst e
    rw [List.drop_of_length_le (by rw [Array.length_toList]; exact Nat.le_refl _)] at hg
    cases hg; exact ⟨hd, hdp⟩
  | m + 1, k, h, hkm, hd, hdp, hg => by
    have hk : k < w.data.toList.length := by rw [Array.length_toList]; show k < w.size; omega
    have hb : w.data.toList[k] = byt w k := by unfold byt; rw [List.getD_eq_getElem?_getD, List.getElem?_eq_getElem hk, Option.getD_some]
    rw [List.drop_eq_getElem_cons hk, hb] at hg
    rcases hg with ⟨h1, h2, hg⟩ | ⟨h1, h2, hg⟩
    · have hn := held_I hd h1
      exact goes_within m (k + 1) _ (by omega) hn (by rw [depth_next hn]; omega) hg
    · have hn := held_O hd h1 h2
      refine goes_within m (k + 1) _ (by omega) hn ?_ hg
      rw [depth_next hn]
      have : h ≤ d ∨ h = 0 ∨ depthTo w k ≥ h := by
        cases k with
        | zero => cases hd; exact .inr (.inl rfl)
        | succ k => exact .inr (.inr (by rw [depth_next hd]; exact Nat.le_max_right _ _))
      omega

theorem within_word {d : Nat} {w : ByteArray} (h : Word w) (hd : depthTo w w.size ≤ d) : GoesD d w.data.toList 0 := by
  have := within_goes (d := d) w.size 0 0 (Nat.zero_add _) rfl h.2.2 hd
  simpa using this

theorem word_within {d : Nat} {l : List UInt8} (hg : GoesD d l 0) (h1 : 2 ≤ l.length) (h2 : l.length ≤ 14) : Word (txt l) ∧ depthTo (txt l) (txt l).size ≤ d := by
  have hs := txt_size l
  have := goes_within (d := d) (w := txt l) (txt l).size 0 0 (Nat.zero_add _) rfl (Nat.zero_le _) (by rw [txt_list]; exact hg)
  exact ⟨⟨by omega, by omega, this.1⟩, this.2⟩

/-! ### The answers -/
def isLim (d : Int) : Bool := decide (1 ≤ d ∧ d ≤ 7)

def withinAns (n d : Int) : Int × Bool := if 1 ≤ n ∧ n ≤ 7 ∧ 1 ≤ d ∧ d ≤ 7 then ((lE d.toNat (2 * n.toNat) 0 : Nat), true) else (0, false)

def atDAns (n d k : Int) : ByteArray × Bool := if 1 ≤ n ∧ n ≤ 7 ∧ 1 ≤ d ∧ d ≤ 7 ∧ 0 ≤ k ∧ k < (lE d.toNat (2 * n.toNat) 0 : Int) then (txt (atD d.toNat (2 * n.toNat) 0 k.toNat), true) else (ByteArray.empty, false)

def rankDAns (w : ByteArray) (d : Int) : Int × Bool := if Word w ∧ 1 ≤ d ∧ d ≤ 7 ∧ (depthTo w w.size : Int) ≤ d then ((rkL d.toNat w.data.toList 0 : Nat), true) else (0, false)

def profL (n : Nat) : List Int := (List.range n).map (fun i => (lE (i + 1) (2 * n) 0 : Int) - (lE i (2 * n) 0 : Int))

def profAns (n : Int) : List Int × Bool := if 1 ≤ n ∧ n ≤ 7 then (profL n.toNat, true) else ([], false)

end Go.Proofs.Ytnhhnffolmgceaa.LimW

end

section
namespace Go.Proofs.Ytnhhnffolmgceaa.LimM
open NumC OrdMath WordMath OrdFacts EndsM SweepM StackM LimW

/-- What a number leaves on the stack, one place kept free for it. -/
def kept (d : Nat) (s : List Int) (x : Int) : List Int := (belw s x).take (d - 1)
/-- What it pops, the top first. -/
def pop (d : Nat) (s : List Int) (x : Int) : List Int := (s.drop (kept d s x).length).reverse

theorem belw_pre (s : List Int) (x : Int) : s.take (belw s x).length = belw s x := by
  have h : ∀ a b : List Int, a ++ b = s → s.take a.length = a := by rintro a b rfl; simp
  exact h _ _ (parts s x)

theorem kept_pre (d : Nat) (s : List Int) (x : Int) : s.take (kept d s x).length = kept d s x := by
  have h := belw_pre s x
  unfold kept
  rw [List.length_take]
  conv => rhs; rw [← h, List.take_take]

theorem partsD (d : Nat) (s : List Int) (x : Int) : kept d s x ++ (pop d s x).reverse = s := by
  unfold pop
  rw [List.reverse_reverse]
  conv => lhs; rw [← kept_pre d s x]
  rw [List.length_take]
  conv => rhs; rw [← List.take_append_drop (kept d s x).length s]
  congr 1
  have := congrArg List.length (kept_pre d s x)
  rw [List.length_take] at this
  rw [this]

theorem lensD (d : Nat) (s : List Int) (x : Int) : (kept d s x).length + (pop d s x).length = s.length := by
  have := congrArg List.length (partsD d s x); simpa using this

theorem kept_le (d : Nat) (s : List Int) (x : Int) : (kept d s x).length ≤ d - 1 := by unfold kept; rw [List.length_take]; omega
theorem kept_les (d : Nat) (s : List Int) (x : Int) : (kept d s x).length ≤ s.length := by have := lensD d s x; omega

/-- A stack whose numbers descend. -/
def Desc (s : List Int) : Prop := s.Pairwise (fun a b => b ≤ a)

theorem desc_sub {s : List Int} {k : Nat} (h : Desc s) : Desc (s.take k) := List.Pairwise.sublist (List.take_sublist _ _) h

theorem belw_ge {s : List Int} {x : Int} (h : Desc s) : ∀ y ∈ belw s x, x ≤ y := by
  intro y hy
  have h2 : Desc (belw s x) := by rw [← belw_pre]; exact desc_sub h
  rcases List.eq_nil_or_concat (belw s x) with e | ⟨l, z, e⟩
  · rw [e] at hy; cases hy
  · rw [List.concat_eq_append] at e
    have hz : x ≤ z := by
      unfold belw at e
      have e2 := congrArg List.reverse e
      rw [List.reverse_reverse, List.reverse_append] at e2
      have h3 : (s.reverse.dropWhile (fun y => decide (y < x))).head? = some z := by rw [e2]; rfl
      have h4 := List.head?_dropWhile_not (fun y => decide (y < x)) s.reverse
      rw [h3] at h4
      simp at h4
      exact h4
    rw [e] at hy h2
    rcases List.mem_append.1 hy with h5 | h5
    · have := (List.pairwise_append.1 h2).2.2 y h5 z (by simp)
      omega
    · simp at h5; omega

theorem desc_next {d : Nat} {s : List Int} {x : Int} (h : Desc s) : Desc (kept d s x ++ [x]) := by
  unfold Desc
  rw [List.pairwise_append]
  refine ⟨by rw [← kept_pre]; exact desc_sub h, List.pairwise_singleton _ _, ?_⟩
  intro a ha b hb
  simp at hb
  subst hb
  exact belw_ge h a (List.mem_of_mem_take ha)

/-- One pop. -/
theorem pop_one {d : Nat} {s : List Int} {y x : Int} (hd : Desc (s ++ [y])) (h1 : 1 ≤ d) (hl : s.length + 1 ≤ d) (h : y < x ∨ s.length + 1 = d) : kept d (s ++ [y]) x = kept d s x ∧ pop d (s ++ [y]) x = y :: pop d s x := by
  have hk : kept d (s ++ [y]) x = kept d s x := by
    by_cases hy : y < x
    · unfold kept; rw [belw_less hy]
    · have hb : belw s x = s := by
        rcases List.eq_nil_or_concat s with rfl | ⟨l, z, rfl⟩
        · rfl
        · rw [List.concat_eq_append] at *
          refine belw_not ?_
          have := (List.pairwise_append.1 hd).2.2 z (by simp) y (by simp)
          omega
      unfold kept
      rw [belw_not hy, hb]
      have : s.length = d - 1 := by omega
      rw [← this]
      simp
  refine ⟨hk, ?_⟩
  unfold pop
  rw [hk, List.drop_append_of_le_length (kept_les d s x)]
  simp

theorem pop_none {d : Nat} {s : List Int} {x : Int} (hl : s.length < d) (h : s.getLast?.all (fun p => decide (¬ p < x))) : kept d s x = s ∧ pop d s x = [] := by
  have hb : belw s x = s := by
    rcases List.eq_nil_or_concat s with rfl | ⟨l, z, rfl⟩
    · rfl
    · rw [List.concat_eq_append] at *
      exact belw_not (by simpa using h)
  have hk : kept d s x = s := by unfold kept; rw [hb, List.take_of_length_le (by omega)]
  refine ⟨hk, ?_⟩
  unfold pop
  rw [hk]; simp

def llF (d : Nat) (r : List Int × List Int) (x : Int) : List Int × List Int := (r.1 ++ pop d r.2 x, kept d r.2 x ++ [x])

def llTo (d : Nat) (zs : List Int) (k : Nat) : List Int × List Int := (zs.take k).foldl (llF d) ([], [])

theorem ll_next {d : Nat} {zs : List Int} {k : Nat} {o s : List Int} (hk : k < zs.length) (h : llTo d zs k = (o, s)) : llTo d zs (k + 1) = (o ++ pop d s (zs.getD k 0), kept d s (zs.getD k 0) ++ [zs.getD k 0]) := by
  unfold llTo at h ⊢
  rw [List.take_succ_eq_append_getElem hk, List.foldl_append, h]
  have e : zs.getD k 0 = zs[k] := by simp [hk]
  rw [e]; rfl

def lsL (d : Nat) (zs : List Int) : List Int := (zs.foldl (llF d) ([], [])).1 ++ (zs.foldl (llF d) ([], [])).2.reverse

theorem ls_end {d : Nat} {zs o s : List Int} (h : llTo d zs zs.length = (o, s)) : lsL d zs = o ++ s.reverse := by
  unfold llTo at h
  rw [List.take_length] at h
  unfold lsL
  rw [h]

theorem ll_desc (d : Nat) (zs : List Int) : ∀ k, k ≤ zs.length → Desc (llTo d zs k).2 ∧ (llTo d zs k).2.length ≤ max d 1
  | 0, _ => ⟨.nil, Nat.zero_le _⟩
  | k + 1, h => by
    obtain ⟨o, s, hr⟩ : ∃ o s, llTo d zs k = (o, s) := ⟨_, _, rfl⟩
    have hn := ll_next (d := d) (zs := zs) (k := k) (by omega) hr
    have ih := (ll_desc d zs k (by omega)).1
    rw [hr] at ih
    rw [hn]
    refine ⟨desc_next ih, ?_⟩
    have := kept_le d s (zs.getD k 0)
    show (kept d s (zs.getD k 0) ++ [zs.getD k 0]).length ≤ max d 1
    rw [List.length_append, List.length_singleton]
    omega

theorem ll_permF (d : Nat) (l : List Int) : ∀ (o s : List Int), ((l.foldl (llF d) (o, s)).1 ++ (l.foldl (llF d) (o, s)).2).Perm (o ++ s ++ l) := by
  induction l with
  | nil => intro o s; simp
  | cons x t ih =>
    intro o s
    show ((t.foldl (llF d) (o ++ pop d s x, kept d s x ++ [x])).1 ++ (t.foldl (llF d) (o ++ pop d s x, kept d s x ++ [x])).2).Perm _
    refine (ih _ _).trans ?_
    have h1 : (pop d s x ++ kept d s x).Perm s := by
      refine (List.perm_append_comm).trans ?_
      conv => rhs; rw [← partsD d s x]
      exact List.Perm.append_left _ (List.reverse_perm _).symm
    have e : o ++ pop d s x ++ (kept d s x ++ [x]) ++ t = o ++ (pop d s x ++ kept d s x) ++ (x :: t) := by simp
    rw [e]
    exact (List.Perm.append_left o h1).append_right _

theorem ls_perm (d : Nat) (zs : List Int) : (lsL d zs).Perm zs := by
  have h := ll_permF d zs [] []
  simp only [List.nil_append] at h
  unfold lsL
  exact (List.Perm.append_left _ (List.reverse_perm _)).trans h

theorem ls_len (d : Nat) (zs : List Int) : (lsL d zs).length = zs.length := (ls_perm d zs).length_eq
theorem ord_ls {d : Nat} {zs : List Int} (h : Ord zs) : Ord (lsL d zs) := ord_of_perm ((ls_perm d zs).trans (ord_perm h)) h.1 h.2.1

/-! ### The word -/
def lsgTo (d : Nat) (zs : List Int) : Nat → List UInt8
  | 0 => []
  | k + 1 => lsgTo d zs k ++ List.replicate (pop d (llTo d zs k).2 (zs.getD k 0)).length 79 ++ [73]

def lsWord (d : Nat) (zs : List Int) : List UInt8 := lsgTo d zs zs.length ++ List.replicate (llTo d zs zs.length).2.length 79

theorem lsg_run (d : Nat) (zs : List Int) : ∀ k, k ≤ zs.length → (lsgTo d zs k).foldl (stepL zs) ([], [], 0) = ((llTo d zs k).1, (llTo d zs k).2, k)
  | 0, _ => rfl
  | k + 1, h => by
    obtain ⟨o, s, hr⟩ : ∃ o s, llTo d zs k = (o, s) := ⟨_, _, rfl⟩
    have hn := ll_next (d := d) (zs := zs) (k := k) (by omega) hr
    unfold lsgTo
    rw [List.foldl_append, List.foldl_append, lsg_run d zs k (by omega), hr, hn]
    simp only
    have e : s = kept d s (zs.getD k 0) ++ (pop d s (zs.getD k 0)).reverse := (partsD _ _ _).symm
    have h2 := step_pops zs k (pop d s (zs.getD k 0)) (kept d s (zs.getD k 0)) o
    rw [← e] at h2
    rw [h2]
    rfl

/-- A walk over signs from a depth to another one, never above d. -/
def PathD (d : Nat) : List UInt8 → Nat → Nat → Prop
  | [], a, e => a = e
  | c :: t, a, e => (c = 73 ∧ a + 1 ≤ d ∧ PathD d t (a + 1) e) ∨ (c = 79 ∧ 0 < a ∧ PathD d t (a - 1) e)

theorem pathD_goes (d : Nat) : ∀ l a, PathD d l a 0 → GoesD d l a
  | [], _, h => h
  | c :: t, a, h => by
    rcases h with ⟨h1, h2, h⟩ | ⟨h1, h2, h⟩
    · exact .inl ⟨h1, h2, pathD_goes d t _ h⟩
    · exact .inr ⟨h1, h2, pathD_goes d t _ h⟩

theorem pathD_append (d : Nat) : ∀ (l m : List UInt8) (a e f : Nat), PathD d l a e → PathD d m e f → PathD d (l ++ m) a f
  | [], m, a, e, f, h, h2 => by cases h; exact h2
  | c :: t, m, a, e, f, h, h2 => by
    rcases h with ⟨h1, h3, h⟩ | ⟨h1, h3, h⟩
    · exact .inl ⟨h1, h3, pathD_append d t m _ e f h h2⟩
    · exact .inr ⟨h1, h3, pathD_append d t m _ e f h h2⟩

theorem pathD_pops (d : Nat) : ∀ (m a : Nat), PathD d (List.replicate m 79) (a + m) a
  | 0, a => rfl
  | m + 1, a => .inr ⟨rfl, by omega, pathD_pops d m a⟩

theorem lsg_path {d : Nat} (hd : 1 ≤ d) (zs : List Int) : ∀ k, k ≤ zs.length → PathD d (lsgTo d zs k) 0 (llTo d zs k).2.length
  | 0, _ => rfl
  | k + 1, h => by
    obtain ⟨o, s, hr⟩ : ∃ o s, llTo d zs k = (o, s) := ⟨_, _, rfl⟩
    have hn := ll_next (d := d) (zs := zs) (k := k) (by omega) hr
    have ih := lsg_path hd zs k (by omega)
    have hk := kept_le d s (zs.getD k 0)
    unfold lsgTo
    rw [hr] at ih ⊢
    rw [hn]
    simp only at ih ⊢
    refine pathD_append d _ _ _ (kept d s (zs.getD k 0)).length _ (pathD_append d _ _ _ s.length _ ih ?_) ?_
    · rw [← lensD d s (zs.getD k 0)]; exact pathD_pops d _ _
    · exact .inl ⟨rfl, by omega, by show _ = _; simp⟩

theorem lsg_len (d : Nat) (zs : List Int) : ∀ k, k ≤ zs.length → (lsgTo d zs k).length = k + (llTo d zs k).1.length ∧ (llTo d zs k).1.length + (llTo d zs k).2.length = k
  | 0, _ => ⟨rfl, rfl⟩
  | k + 1, h => by
    obtain ⟨o, s, hr⟩ : ∃ o s, llTo d zs k = (o, s) := ⟨_, _, rfl⟩
    have hn := ll_next (d := d) (zs := zs) (k := k) (by omega) hr
    have ih := lsg_len d zs k (by omega)
    unfold lsgTo
    rw [hr] at ih ⊢
    rw [hn]
    simp only at ih ⊢
    have := lensD d s (zs.getD k 0)
    simp only [List.length_append, List.length_replicate, List.length_singleton]
    omega

theorem lsWord_len (d : Nat) (zs : List Int) : (lsWord d zs).length = 2 * zs.length := by
  have h := lsg_len d zs zs.length (Nat.le_refl _)
  unfold lsWord
  simp
  omega

theorem ls_word {d : Nat} {zs : List Int} (hd : 1 ≤ d) (h1 : 1 ≤ zs.length) (h7 : zs.length ≤ 7) : Word (txt (lsWord d zs)) ∧ depthTo (txt (lsWord d zs)) (txt (lsWord d zs)).size ≤ d ∧ (txt (lsWord d zs)).size = 2 * zs.length ∧ runOut zs (txt (lsWord d zs)) = lsL d zs := by
  have hl := lsWord_len d zs
  have hg : GoesD d (lsWord d zs) 0 := by
    refine pathD_goes d _ _ (pathD_append d _ _ _ _ _ (lsg_path hd zs zs.length (Nat.le_refl _)) ?_)
    have := pathD_pops d (llTo d zs zs.length).2.length 0
    rwa [Nat.zero_add] at this
  have hw := word_within hg (by omega) (by omega)
  refine ⟨hw.1, hw.2, by rw [txt_size, hl], ?_⟩
  obtain ⟨o, s, hr⟩ : ∃ o s, llTo d zs zs.length = (o, s) := ⟨_, _, rfl⟩
  rw [run_txt, ls_end hr]
  unfold lsWord
  rw [List.foldl_append, lsg_run d zs _ (Nat.le_refl _), hr]
  have h2 := step_pops zs zs.length s.reverse [] o
  rw [List.reverse_reverse, List.nil_append, List.length_reverse] at h2
  show (List.foldl (stepL zs) (o, s, zs.length) (List.replicate s.length 79)).1 = _
  rw [h2]

/-! ### Limited sweeps sort -/
theorem kept_all {d : Nat} {s : List Int} {x : Int} (h : ∀ y ∈ s, y < x) : kept d s x = [] ∧ pop d s x = s.reverse := by
  have e : kept d s x = [] := by unfold kept; rw [belw_all h]; simp
  refine ⟨e, ?_⟩
  unfold pop
  rw [e]; rfl

theorem topD_next {d : Nat} {s seen : List Int} {x : Int} (hd : 2 ≤ d) (h : Top s seen) (hs : ∀ y ∈ s, y ∈ seen) : Top (kept d s x ++ [x]) (seen ++ [x]) ∧ ∀ y ∈ kept d s x ++ [x], y ∈ seen ++ [x] := by
  have h2 := top_next (x := x) h hs
  obtain ⟨e, rfl⟩ : ∃ e, d = e + 2 := ⟨d - 2, by omega⟩
  refine ⟨?_, ?_⟩
  · obtain ⟨m, t, ht, hm, hall⟩ := h2.1
    cases hb : belw s x with
    | nil =>
      rw [hb] at ht
      have : kept (e + 2) s x = [] := by unfold kept; rw [hb]; simp
      rw [this]
      exact ⟨m, t, ht, hm, hall⟩
    | cons a u =>
      rw [hb] at ht
      have ha : a = m := by injection ht
      subst ha
      have : kept (e + 2) s x = a :: u.take e := by unfold kept; rw [hb]; rfl
      rw [this]
      exact ⟨a, u.take e ++ [x], rfl, hm, hall⟩
  · intro y hy
    rcases List.mem_append.1 hy with h5 | h5
    · exact h2.2 y (List.mem_append.2 (.inl (List.mem_of_mem_take h5)))
    · exact List.mem_append.2 (.inr h5)

theorem topD_fold {d : Nat} (hd : 2 ≤ d) : ∀ (l s seen o : List Int), Top s seen → (∀ y ∈ s, y ∈ seen) → Top (l.foldl (llF d) (o, s)).2 (seen ++ l)
  | [], s, seen, o, h, _ => by simpa using h
  | x :: t, s, seen, o, h, hs => by
    have h2 := topD_next (x := x) hd h hs
    have := topD_fold hd t (kept d s x ++ [x]) (seen ++ [x]) (o ++ pop d s x) h2.1 h2.2
    rw [List.append_assoc] at this
    exact this

theorem ls_last {d : Nat} {l : List Int} (hd : 2 ≤ d) (h : l ≠ []) : ∃ p m, lsL d l = p ++ [m] ∧ m ∈ l ∧ ∀ y ∈ l, y ≤ m := by
  have ht : Top (l.foldl (llF d) ([], [])).2 l := by
    cases l with
    | nil => exact absurd rfl h
    | cons x t =>
      have e : (x :: t).foldl (llF d) ([], []) = t.foldl (llF d) ([], [x]) := by
        show t.foldl (llF d) ([] ++ pop d [] x, kept d [] x ++ [x]) = _
        have h0 := kept_all (d := d) (s := []) (x := x) (by simp)
        rw [h0.1, h0.2]; rfl
      rw [e]
      have := topD_fold hd t [x] [x] [] ⟨x, [], rfl, by simp, fun y hy => by simp at hy; omega⟩ (fun y hy => hy)
      exact this
  obtain ⟨m, t, h1, h2, h3⟩ := ht
  refine ⟨(l.foldl (llF d) ([], [])).1 ++ t.reverse, m, ?_, h2, h3⟩
  unfold lsL
  rw [h1]
  simp

theorem ls_tail {d : Nat} : ∀ (q o s : List Int), q.Pairwise (· < ·) → (∀ y ∈ q, ∀ z ∈ s, z < y) → (q.foldl (llF d) (o, s)).1 ++ (q.foldl (llF d) (o, s)).2.reverse = o ++ s.reverse ++ q
  | [], o, s, _, _ => by simp
  | y :: q, o, s, h, hs => by
    have hall : ∀ z ∈ s, z < y := hs y (by simp)
    have e : (y :: q).foldl (llF d) (o, s) = q.foldl (llF d) (o ++ s.reverse, [y]) := by
      show q.foldl (llF d) (o ++ pop d s y, kept d s y ++ [y]) = _
      have h0 := kept_all (d := d) hall
      rw [h0.1, h0.2]; rfl
    rw [e, ls_tail q _ _ (List.pairwise_cons.1 h).2 (fun z hz u hu => by simp at hu; subst hu; exact (List.pairwise_cons.1 h).1 z hz)]
    simp

theorem ls_append {d : Nat} {p q : List Int} (hq : q.Pairwise (· < ·)) (hp : ∀ y ∈ q, ∀ z ∈ p, z < y) : lsL d (p ++ q) = lsL d p ++ q := by
  unfold lsL
  rw [List.foldl_append]
  obtain ⟨o, s, hr⟩ : ∃ o s, p.foldl (llF d) ([], []) = (o, s) := ⟨_, _, rfl⟩
  rw [hr]
  have hs : ∀ z ∈ s, z ∈ p := by
    intro z hz
    have h := ll_permF d p [] []
    rw [hr] at h
    have h9 : z ∈ o ++ s := List.mem_append.2 (.inr hz)
    have := h.mem_iff.1 h9
    simpa using this
  rw [ls_tail q o s hq (fun y hy z hz => hp y hy z (hs z hz))]

/-- So many limited sweeps. -/
def lsN (d : Nat) (zs : List Int) : Nat → List Int
  | 0 => zs
  | k + 1 => lsL d (lsN d zs k)

theorem lsN_perm (d : Nat) (zs : List Int) : ∀ k, (lsN d zs k).Perm zs
  | 0 => List.Perm.refl _
  | k + 1 => (ls_perm d _).trans (lsN_perm d zs k)

theorem ord_lsN {d : Nat} {zs : List Int} (h : Ord zs) (k : Nat) : Ord (lsN d zs k) := ord_of_perm ((lsN_perm d zs k).trans (ord_perm h)) h.1 h.2.1
theorem lsN_len (d : Nat) (zs : List Int) (k : Nat) : (lsN d zs k).length = zs.length := (lsN_perm d zs k).length_eq

theorem lsN_tail {d : Nat} {zs : List Int} (hd : 2 ≤ d) (hn : zs.Nodup) : ∀ k, k ≤ zs.length → ∃ p q, lsN d zs k = p ++ q ∧ q.length = k ∧ q.Pairwise (· < ·) ∧ ∀ y ∈ q, ∀ z ∈ p, z < y
  | 0, _ => ⟨zs, [], by simp [lsN], rfl, .nil, by simp⟩
  | k + 1, h => by
    obtain ⟨p, q, e, hq, hs, hp⟩ := lsN_tail hd hn k (by omega)
    have hl := lsN_len d zs k
    rw [e] at hl
    have hne : p ≠ [] := by intro h0; subst h0; simp at hl; omega
    obtain ⟨p2, m, e2, hm, hmax⟩ := ls_last hd hne
    refine ⟨p2, m :: q, ?_, by simp [hq], ?_, ?_⟩
    · show lsL d (lsN d zs k) = _
      rw [e, ls_append hs hp, e2]; simp
    · exact List.pairwise_cons.2 ⟨fun y hy => hp y hy m hm, hs⟩
    · have hperm := ls_perm d p
      rw [e2] at hperm
      have hnd : p.Nodup := by
        have h1 := (lsN_perm d zs k).nodup_iff.2 hn
        rw [e] at h1
        exact (List.nodup_append.1 h1).1
      have hnd2 := hperm.nodup_iff.2 hnd
      have hmem : ∀ z ∈ p2, z ∈ p := fun z hz => hperm.mem_iff.1 (by simp [hz])
      intro y hy z hz
      rcases List.mem_cons.1 hy with rfl | hy
      · have h1 := hmax z (hmem z hz)
        have h2 : z ≠ y := by
          intro e3; subst e3
          exact (List.nodup_append.1 hnd2).2.2 z hz z (by simp) rfl
        omega
      · exact hp y hy z (hmem z hz)

theorem lsN_sorts {d : Nat} {zs : List Int} (hd : 2 ≤ d) (h : Ord zs) : lsN d zs (zs.length - 1) = iota zs.length := by
  have h1 := h.1
  obtain ⟨p, q, e, hq, hs, hp⟩ := lsN_tail hd h.2.2.2 (zs.length - 1) (by omega)
  have hl := lsN_len d zs (zs.length - 1)
  refine sorted_is ((lsN_perm d zs _).trans (ord_perm h)) ?_
  rw [e] at hl ⊢
  simp at hl
  rw [List.pairwise_append]
  refine ⟨?_, hs, fun z hz y hy => hp y hy z hz⟩
  match p, hl with
  | [], _ => exact .nil
  | [a], _ => exact List.pairwise_singleton _ _
  | a :: b :: t, hl => simp at hl; omega

/-- The number of limited sweeps that sort. -/
def firstD (d : Nat) (zs : List Int) : Nat → Nat → Nat
  | 0, k => k
  | f + 1, k => if lsN d zs k = iota zs.length then k else firstD d zs f (k + 1)

def manyD (d : Nat) (zs : List Int) : Nat := firstD d zs (zs.length - 1) 0

theorem firstD_is {d : Nat} {zs : List Int} : ∀ f k, lsN d zs (k + f) = iota zs.length → (∀ j, j < k → lsN d zs j ≠ iota zs.length) → lsN d zs (firstD d zs f k) = iota zs.length ∧ (∀ j, j < firstD d zs f k → lsN d zs j ≠ iota zs.length) ∧ firstD d zs f k ≤ k + f
  | 0, k, h, hb => ⟨h, hb, Nat.le_refl _⟩
  | f + 1, k, h, hb => by
    unfold firstD
    by_cases he : lsN d zs k = iota zs.length
    · rw [if_pos he]; exact ⟨he, hb, by omega⟩
    · rw [if_neg he]
      have := firstD_is f (k + 1) (by rw [show k + 1 + f = k + (f + 1) by omega]; exact h) (fun j hj => by
        rcases Nat.lt_succ_iff_lt_or_eq.1 hj with h1 | h1
        · exact hb j h1
        · rw [h1]; exact he)
      exact ⟨this.1, this.2.1, by omega⟩

/-- Where it is told: an order, and the limit 2 at least, or it is sorted. -/
theorem manyD_is {d : Nat} {zs : List Int} (h : Ord zs) (hd : 2 ≤ d ∨ zs = iota zs.length) : lsN d zs (manyD d zs) = iota zs.length ∧ (∀ j, j < manyD d zs → lsN d zs j ≠ iota zs.length) ∧ manyD d zs ≤ zs.length - 1 := by
  rcases hd with hd | hd
  · have := firstD_is (d := d) (zs := zs) (zs.length - 1) 0 (by rw [Nat.zero_add]; exact lsN_sorts hd h) (fun j hj => by omega)
    exact ⟨this.1, this.2.1, by have := this.2.2; unfold manyD; omega⟩
  · have e : manyD d zs = 0 := by
      unfold manyD
      cases zs.length - 1 with
      | zero => rfl
      | succ f => unfold firstD; rw [if_pos (by exact hd)]
    rw [e]
    exact ⟨hd, fun j hj => by omega, Nat.zero_le _⟩

/-! ### The limits 1, 2 and n -/
theorem ls_one (zs : List Int) : lsL 1 zs = zs := by
  have h : ∀ (l o s : List Int), s.length ≤ 1 → (l.foldl (llF 1) (o, s)).1 ++ (l.foldl (llF 1) (o, s)).2.reverse = o ++ s ++ l := by
    intro l
    induction l with
    | nil => intro o s hs; rcases s with _ | ⟨a, _ | ⟨b, t⟩⟩ <;> simp at hs ⊢
    | cons x t ih =>
      intro o s hs
      have hk : kept 1 s x = [] := by unfold kept; simp
      have hp : pop 1 s x = s := by
        unfold pop
        rw [hk]
        rcases s with _ | ⟨a, _ | ⟨b, u⟩⟩ <;> simp at hs ⊢
      show (t.foldl (llF 1) (o ++ pop 1 s x, kept 1 s x ++ [x])).1 ++ (t.foldl (llF 1) (o ++ pop 1 s x, kept 1 s x ++ [x])).2.reverse = _
      rw [ih _ _ (by rw [hk]; simp), hk, hp]
      simp
  have := h zs [] [] (by simp)
  unfold lsL
  simpa using this

/-- Bubbling: the number that is carried, and what is behind it. -/
def bub : Int → List Int → List Int
  | m, [] => [m]
  | m, x :: t => min m x :: bub (max m x) t

def bubL : List Int → List Int
  | [] => []
  | x :: t => bub x t

theorem ls_two (zs : List Int) : lsL 2 zs = bubL zs := by
  have h : ∀ (l o s : List Int) (m : Int), (s = [m] ∨ ∃ y, s = [m, y] ∧ y ≤ m) → (l.foldl (llF 2) (o, s)).1 ++ (l.foldl (llF 2) (o, s)).2.reverse = o ++ (s.drop 1) ++ bub m l := by
    intro l
    induction l with
    | nil => intro o s m hs; rcases hs with rfl | ⟨y, rfl, _⟩ <;> simp [bub]
    | cons x t ih =>
      intro o s m hs
      show (t.foldl (llF 2) (o ++ pop 2 s x, kept 2 s x ++ [x])).1 ++ (t.foldl (llF 2) (o ++ pop 2 s x, kept 2 s x ++ [x])).2.reverse = _
      by_cases hx : m < x
      · have hall : ∀ y ∈ s, y < x := by rcases hs with rfl | ⟨y, rfl, hy⟩ <;> (intro z hz; simp at hz; omega)
        have h0 := kept_all (d := 2) hall
        rw [h0.1, h0.2, ih _ ([] ++ [x]) x (.inl rfl)]
        have e : bub m (x :: t) = m :: bub x t := by show min m x :: bub (max m x) t = _; rw [show min m x = m by omega, show max m x = x by omega]
        rw [e]
        rcases hs with rfl | ⟨y, rfl, hy⟩ <;> simp
      · have hb : belw s x = s ∨ belw s x = [m] := by
          rcases hs with rfl | ⟨y, rfl, hy⟩
          · exact .inl (belw_not (s := []) (by omega))
          · by_cases hyx : y < x
            · refine .inr ?_
              rw [show [m, y] = [m] ++ [y] from rfl, belw_less hyx]; exact belw_not (s := []) (by omega)
            · exact .inl (belw_not (s := [m]) hyx)
        have hk : kept 2 s x = [m] := by
          unfold kept
          rcases hb with hb | hb <;> rw [hb]
          · rcases hs with rfl | ⟨y, rfl, hy⟩ <;> rfl
          · rfl
        have hp : pop 2 s x = s.drop 1 := by
          unfold pop; rw [hk]
          rcases hs with rfl | ⟨y, rfl, hy⟩ <;> rfl
        rw [hk, hp, ih _ ([m] ++ [x]) m (.inr ⟨x, rfl, by omega⟩)]
        have e : bub m (x :: t) = x :: bub m t := by show min m x :: bub (max m x) t = _; rw [show min m x = x by omega, show max m x = m by omega]
        rw [e]
        simp
  cases zs with
  | nil => rfl
  | cons x t =>
    have e : lsL 2 (x :: t) = (t.foldl (llF 2) ([], [x])).1 ++ (t.foldl (llF 2) ([], [x])).2.reverse := by
      unfold lsL
      have e2 : (x :: t).foldl (llF 2) ([], []) = t.foldl (llF 2) ([], [x]) := by
        show t.foldl (llF 2) ([] ++ pop 2 [] x, kept 2 [] x ++ [x]) = _
        have h0 := kept_all (d := 2) (s := []) (x := x) (by simp)
        rw [h0.1, h0.2]; rfl
      rw [e2]
    rw [e, h t [] [x] x (.inl rfl)]
    simp [bubL]

/-- A limit that all numbers keep. -/
theorem ls_all {d : Nat} : ∀ (l o s : List Int), s.length + l.length ≤ d → l.foldl (llF d) (o, s) = l.foldl swF (o, s)
  | [], _, _, _ => rfl
  | x :: t, o, s, h => by
    have hb : (belw s x).length ≤ s.length := by have := lens s x; omega
    have hk : kept d s x = belw s x := by
      unfold kept
      rw [List.take_of_length_le]
      simp at h; omega
    have hp : pop d s x = popd s x := by
      unfold pop
      rw [hk]
      have h1 := parts s x
      have h2 : s.drop (belw s x).length = (popd s x).reverse := by
        have h3 : ∀ a b : List Int, a ++ b = s → s.drop a.length = b := by rintro a b rfl; simp
        exact h3 _ _ h1
      rw [h2, List.reverse_reverse]
    show t.foldl (llF d) (o ++ pop d s x, kept d s x ++ [x]) = t.foldl swF (o ++ popd s x, belw s x ++ [x])
    rw [hk, hp]
    exact ls_all t _ _ (by simp at h ⊢; omega)

theorem ls_n (zs : List Int) : lsL zs.length zs = sweepL zs := by
  unfold lsL sweepL
  rw [ls_all zs [] [] (by simp)]

/-! ### The answers -/
def lswAns (zs : List Int) (d : Int) : ByteArray × Bool := if Ord zs ∧ 1 ≤ d ∧ d ≤ 7 then (txt (lsWord d.toNat zs), true) else (ByteArray.empty, false)
def lsAns (zs : List Int) (d : Int) : List Int × Bool := if Ord zs ∧ 1 ≤ d ∧ d ≤ 7 then (lsL d.toNat zs, true) else ([], false)
def lsmAns (zs : List Int) (d : Int) : Int × Bool := if Ord zs ∧ 1 ≤ d ∧ d ≤ 7 ∧ (d ≠ 1 ∨ zs = iota zs.length) then ((manyD d.toNat zs : Nat), true) else (0, false)
def bubAns (zs : List Int) : List Int × Bool := if Ord zs then (bubL zs, true) else ([], false)
theorem ls_alen {zs xs : List Int} {d : Int} {b : Bool} (h : lsAns zs d = (xs, b)) : xs.length ≤ 1048576 := by
  unfold lsAns at h; split at h
  · rename_i ho; cases h; have := ho.1.2.1; rw [ls_len]; omega
  · cases h; simp

end Go.Proofs.Ytnhhnffolmgceaa.LimM

end

section
namespace Go.Proofs.Ytnhhnffolmgceaa.WordsOfC
open Go.RowKit SeesC IntsC ExactC NumC IterC WordMath InC WordC WordsC

set_option maxRecDepth 100000 in
set_option maxHeartbeats 2000000 in
theorem appendWords_any : ∀ (r p d : Nat) (so : ByteArray) (W : World) (B g0 c0 k : Nat) (ws : List ByteArray), 2 * p + d = r → r ≤ 14 → so.size + r ≤ 14 → k + 2 ^ r ≤ 1048576 → B ≤ W.heap.size →
    W.ownsRow B 9 1 (.slice (some ⟨g0, 0, none⟩) k c0) k (ws.map Value.string) →
    Calls Try.prog 111 #[.slice (some ⟨g0, 0, none⟩) k c0, .string so, .int .i64 p, .int .i64 d] W fun e w' => ∃ g c, e = .returned (.slice (some ⟨g, 0, none⟩) (k + (wordsFrom r d so).length) c) ∧ w'.ownsRow B 9 1 (.slice (some ⟨g, 0, none⟩) (k + (wordsFrom r d so).length) c) (k + (wordsFrom r d so).length) ((ws ++ wordsFrom r d so).map Value.string) ∧ Below B W w' := by
  obtain ⟨i0, hi, hz0, hz1, hz2⟩ := info_parts infoS
  intro r
  induction r with
  | zero =>
    intro p d so W B g0 c0 k ws hpd hr hsz hk hB hown
    obtain rfl : p = 0 := by omega
    obtain rfl : d = 0 := by omega
    go_enter Try.func111, Try.ntmps111
    go_wp2_with (at_builtin; refine wpList_append_own _ rfl _ _ 78 rfl B 9 i0 (.string ByteArray.empty) 1 16 Try.underlying78 hi hz0 hz1 hz2 rfl (by decide) (.slice (some ⟨g0, 0, none⟩) k c0) k (ws.map Value.string) rfl (hown.alloc _) ⟨W.heap.size, 0, none⟩ 1 1 [.string so] rfl rfl (cell_one_new _ _ _) (fun x hx => by simp at hx; subst hx; rfl) (by unfold maxLen; omega) (by omega) (by simp; omega) ?_; intro v' w3 hown' hgrow3 hnil3)
    obtain ⟨g5, c5, rfl⟩ := own_form hown' (fun e => by have := (hnil3.1 e).1; cases this)
    have hb5 : Below B W w3 := ((Below.refl B W).alloc hB _).grown hgrow3 (by simp; omega) (fun q hq => (hown.lt q hq).1)
    have H5 := Go.Lib.hid (And.intro hown' hb5)
    clear hown' hgrow3 hnil3 hb5 hown
    go_wp2
    go_ret
    exact ⟨g5, c5, rfl, by have := H5.out.1; simpa [wordsFrom] using this, H5.out.2⟩
  | succ r ih =>
    intro p d so W B g0 c0 k ws hpd hr hsz hk hB hown
    have hk2 : k + 2 ^ r + 2 ^ r ≤ 1048576 := by rw [Nat.pow_succ] at hk; omega
    have hl1 := wordsFrom_len r (d + 1) (so ++ sI)
    have hsI : (so ++ sI).size = so.size + 1 := by rw [ByteArray.size_append]; rfl
    have hsO : (so ++ sO).size = so.size + 1 := by rw [ByteArray.size_append]; rfl
    have hs13 : so.size ≤ 13 := by omega
    have IHI := Go.Lib.hid (fun (hp : 0 < p) W' g c (ho : W'.ownsRow B 9 1 (.slice (some ⟨g, 0, none⟩) k c) k (ws.map Value.string)) (hb : B ≤ W'.heap.size) => ih (p - 1) (d + 1) (so ++ sI) W' B g c k ws (by omega) (by omega) (by omega) (by have := Nat.two_pow_pos r; omega) hb ho)
    have IHO := Go.Lib.hid (fun (hd : 0 < d) W' g c k' ws' (hk' : k' + 2 ^ r ≤ 1048576) (ho : W'.ownsRow B 9 1 (.slice (some ⟨g, 0, none⟩) k' c) k' (ws'.map Value.string)) (hb : B ≤ W'.heap.size) => ih p (d - 1) (so ++ sO) W' B g c k' ws' (by omega) (by omega) (by omega) hk' hb ho)
    obtain ⟨LI, hLI⟩ : ∃ LI, wordsFrom r (d + 1) (so ++ sI) = LI := ⟨_, rfl⟩
    obtain ⟨LO, hLO⟩ : ∃ LO, wordsFrom r (d - 1) (so ++ sO) = LO := ⟨_, rfl⟩
    rw [hLI] at IHI hl1
    rw [hLO] at IHO
    have HW : Hid (wordsFrom (r + 1) d so = (if d < r + 1 then LI else []) ++ (if 0 < d then LO else [])) := Go.Lib.hid (by rw [← hLI, ← hLO]; rfl)
    have hcI : ((d + 1 : Nat) : Int) = (d : Int) + 1 := by simp
    have HO := Go.Lib.hid hown
    have HK := Go.Lib.hid (And.intro hk hk2)
    have HL1 := Go.Lib.hid hl1
    by_cases hp : 0 < p
    · have hpi : (0 : Int) < (p : Int) := by omega
      have hp0 : ((p : Int) == 0) = false := by rw [beq_eq_false_iff_ne]; omega
      have hcp : ((p - 1 : Nat) : Int) = (p : Int) - 1 := by omega
      have hp7 : p ≤ 7 := by omega
      have hd14 : d ≤ 14 := by omega
      rw [if_pos (show d < r + 1 by omega)] at HW
      rw [hcI, hcp] at IHI
      by_cases hO : 0 < d
      · have hOi : (0 : Int) < (d : Int) := by omega
        have hcO : ((d - 1 : Nat) : Int) = (d : Int) - 1 := by omega
        rw [if_pos hO] at HW
        rw [hcO] at IHO
        have HP := Go.Lib.hid (And.intro hp hO)
        clear ih hown hLI hLO hsI hsO hcI hcO hcp hp hO hk hk2 hpd hl1
        go_enter Try.func111, Try.ntmps111
        go_wp2_with fail
        refine (IHI.out HP.out.1 _ _ _ HO.out hB).mono ?_
        rintro e w1 ⟨g1, c1, rfl, o1, b1⟩
        have H1 := Go.Lib.hid (And.intro o1 b1)
        have HB1 := Go.Lib.hid (Nat.le_trans hB b1.size)
        clear o1 b1
        go_wp2_with fail
        refine (IHO.out HP.out.2 _ _ _ _ (ws ++ LI) (by have := HK.out.2; have := HL1.out; omega) H1.out.1 HB1.out).mono ?_
        rintro e w4 ⟨g4, c4, rfl, o4, b4⟩
        have hll : k + (wordsFrom (r + 1) d so).length = k + LI.length + LO.length := by rw [HW.out, List.length_append, Nat.add_assoc]
        have H4 := Go.Lib.hid (And.intro o4 (H1.out.2.trans b4))
        clear o4 b4
        go_wp2
        go_ret
        exact ⟨g4, c4, by rw [hll]; rfl, by rw [hll, HW.out, ← List.append_assoc]; exact H4.out.1, H4.out.2⟩
      · have hOi : ¬ (0 : Int) < (d : Int) := by omega
        rw [if_neg hO, List.append_nil] at HW
        have HP := Go.Lib.hid hp
        clear ih hown hLI hLO hsI hsO hcI hcp hp hO hk hk2 hpd hl1
        go_enter Try.func111, Try.ntmps111
        go_wp2_with fail
        refine (IHI.out HP.out _ _ _ HO.out hB).mono ?_
        rintro e w1 ⟨g1, c1, rfl, o1, b1⟩
        have H1 := Go.Lib.hid (And.intro o1 b1)
        have hll : k + (wordsFrom (r + 1) d so).length = k + LI.length := by rw [HW.out]
        clear o1 b1
        go_wp2
        go_ret
        exact ⟨g1, c1, by rw [hll]; rfl, by rw [hll, HW.out]; exact H1.out.1, H1.out.2⟩
    · obtain rfl : p = 0 := by omega
      have hO : 0 < d := by omega
      have hOi : (0 : Int) < (d : Int) := by omega
      have hd0 : ((d : Int) == 0) = false := by rw [beq_eq_false_iff_ne]; omega
      have hcO : ((d - 1 : Nat) : Int) = (d : Int) - 1 := by omega
      have hd14 : d ≤ 14 := by omega
      rw [if_neg (show ¬ d < r + 1 by omega), if_pos hO, List.nil_append] at HW
      rw [hcO] at IHO
      have HP := Go.Lib.hid hO
      clear ih hown hLI hLO hsI hsO hcI hcO hp hO hk hk2 hpd hl1
      go_enter Try.func111, Try.ntmps111
      go_wp2_with fail
      refine (IHO.out HP.out _ _ _ _ ws (by have := HK.out.2; have := Nat.two_pow_pos r; omega) HO.out hB).mono ?_
      rintro e w1 ⟨g1, c1, rfl, o1, b1⟩
      have H1 := Go.Lib.hid (And.intro o1 b1)
      have hll : k + (wordsFrom (r + 1) d so).length = k + LO.length := by rw [HW.out]
      clear o1 b1
      go_wp2
      go_ret
      exact ⟨g1, c1, by rw [hll]; rfl, by rw [hll, HW.out]; exact H1.out.1, H1.out.2⟩

set_option maxRecDepth 100000 in
theorem implWords (n : Int) (xs : List ByteArray) (b : Bool) (h : wordsAns n = (xs, b)) (hw : (Lit.int .i64 n).wf = true) (W : World) :
    Calls Try.prog 86 #[.int .i64 n] W fun e w' => TextsTo W e w' xs b := by
  unfold wordsAns at h
  by_cases h1 : n < 1
  · rw [if_neg (by omega)] at h
    cases h
    go_enter Try.func86, Try.ntmps86
    go_wp2
    go_ret2
    exact textsTo_none _ _
  · by_cases h7 : 7 < n
    · rw [if_neg (by omega)] at h
      cases h
      go_enter Try.func86, Try.ntmps86
      go_wp2
      go_ret2
      exact textsTo_none _ _
    · rw [if_pos (by omega)] at h
      cases h
      obtain ⟨m, rfl⟩ : ∃ m : Nat, n = (m : Int) := ⟨n.toNat, by omega⟩
      rw [Int.toNat_natCast]
      have hm7 : m ≤ 7 := by omega
      have ho0 : (W.alloc (.cells #[] 9)).ownsRow W.heap.size 9 1 (.slice (some ⟨W.heap.size, 0, none⟩) 0 0) 0 (([] : List ByteArray).map Value.string) := World.ownsRow_made (base := W.heap.size) (e := 9) (size := 1) W #[] 0 (Nat.le_refl _) (by unfold maxLen; omega) rfl
      have hpw : 0 + 2 ^ (2 * m) ≤ 1048576 := by
        have h2 : 2 ^ (2 * m) ≤ 2 ^ 14 := Nat.pow_le_pow_right (by omega) (by omega)
        have h3 : (2 : Nat) ^ 14 = 16384 := by decide
        omega
      have CA := Go.Lib.hid (appendWords_any (2 * m) m 0 ByteArray.empty _ W.heap.size W.heap.size 0 0 [] (by omega) (by omega) (by simp; omega) hpw (by simp) ho0)
      have HB0 := Go.Lib.hid ((Below.refl W.heap.size W).alloc (Nat.le_refl _) (.cells #[] 9))
      clear ho0 hw hpw
      go_enter Try.func86, Try.ntmps86
      go_wp2_with fail
      refine CA.out.mono ?_
      rintro e w2 ⟨g, c, rfl, ho, hb⟩
      rw [Nat.zero_add, List.nil_append] at ho
      have H := Go.Lib.hid (And.intro ho (HB0.out.trans hb))
      clear ho hb
      go_wp2_with fail
      go_ret2
      exact ⟨_, rfl, H.out.1, H.out.2⟩

end Go.Proofs.Ytnhhnffolmgceaa.WordsOfC

end

section
namespace Go.Proofs.Ytnhhnffolmgceaa.TextC
open Go.RowKit SeesC IntsC ExactC OrdMath OrderC NumC IterC

/-- The digit of a number. -/
def dig (z : Int) : UInt8 := UInt8.ofNat (48 + z.toNat)

def textAns (zs : List Int) : ByteArray × Bool := if Ord zs then (txt (zs.map dig), true) else (ByteArray.empty, false)

/-- The numbers of a text's bytes. -/
def raw (s : ByteArray) : List Int := s.data.toList.map fun c => (c.toNat : Int) - 48

theorem raw_len (s : ByteArray) : (raw s).length = s.size := by unfold raw; rw [List.length_map, Array.length_toList]; rfl

theorem raw_at (s : ByteArray) (k : Nat) (h : k < s.size) : (raw s).getD k 0 = (s[k].toNat : Int) - 48 := by
  have h2 : k < s.data.toList.length := by rw [Array.length_toList]; exact h
  rw [List.getD_eq_getElem?_getD, List.getElem?_eq_getElem (by rw [raw_len]; exact h)]
  simp [raw]
  rfl

def parseAns (s : ByteArray) : List Int × Bool := if s.size ≤ 7 ∧ Ord (raw s) then (raw s, true) else ([], false)

theorem parse_len {s : ByteArray} {xs : List Int} {b : Bool} (h : parseAns s = (xs, b)) : xs.length ≤ 1048576 := by
  unfold parseAns at h; split at h
  · rename_i ho; cases h; rw [raw_len]; omega
  · cases h; simp

theorem isOrd_big {zs : List Int} {z : Int} (hz : z ∈ zs) (h : 7 < z) : isOrd zs = false := by
  unfold isOrd; rw [decide_eq_false_iff_not]; rintro ⟨_, h2, h3, _⟩; have := (h3 z hz).2; omega

theorem dig_nat (u : Nat) (h : u < 10) : (dig (u : Int)).toNat = 48 + u := by
  unfold dig; rw [Int.toNat_natCast, UInt8.toNat_ofNat']; omega

theorem Ord.getN {zs : List Int} (h : OrdMath.Ord zs) {k : Nat} (hk : k < zs.length) : ∃ u : Nat, zs.getD k 0 = (u : Int) ∧ 1 ≤ u ∧ u ≤ 7 := by
  obtain ⟨m, h1, h2⟩ := h.getD hk
  exact ⟨m + 1, by rw [h1]; simp, by omega, by have := h.2.1; omega⟩

/-- What the program reads off a text. -/
def ReadTo (s : ByteArray) (W : World) (e : Ending) (w' : World) : Prop :=
  ∃ (g k c : Nat) (acc : List Int), e = .returned (.slice (some ⟨g, 0, none⟩) k c) ∧ acc.length = k ∧ k ≤ s.size ∧ w'.ownsRow W.heap.size 3 1 (.slice (some ⟨g, 0, none⟩) k c) k (vals acc) ∧ Below W.heap.size W w' ∧ (acc = raw s ∨ ((∃ p, ∃ hp : p < s.size, 128 ≤ (s[p]'hp).toNat) ∧ isOrd (raw s) = false ∧ ∃ z ∈ acc, 7 < z))

end Go.Proofs.Ytnhhnffolmgceaa.TextC

end
