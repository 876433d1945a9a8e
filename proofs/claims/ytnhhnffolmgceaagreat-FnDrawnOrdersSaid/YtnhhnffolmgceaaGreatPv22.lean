/-
  Contracts and plain facts that the laws' texts lean on. Conditions: as each states.
-/
import Derived.Test.YtnhhnffolmgceaaGreatPv16
import Derived.Test.YtnhhnffolmgceaaGreatPv11
import Derived.RangeFuncBox
import Derived.Maps.AppendAt
import GoSem.Op.String
import Derived.Test.YtnhhnffolmgceaaGreatPv7
import Derived.Test.YtnhhnffolmgceaaGreatPv10
import Derived.Test.YtnhhnffolmgceaaGreatPv9
import Derived.Lib.OthersKept

section
namespace Go.Proofs.YtnhhnffolmgceaaGreat.WordsC
open Go.RowKit SeesC IntsC ExactC NumC IterC WordMath InC WordC

theorem infoS : (Tryz.prog.info? 9).map (fun i => (i.zero, i.size, i.bytes)) = some (some (.string ByteArray.empty), 1, 16) := by kernel_rfl

def sI : ByteArray := { data := #[73] }
def sO : ByteArray := { data := #[79] }

/-- All words that go on from a text, r signs long, with d on the stack. -/
def wordsFrom : Nat → Nat → ByteArray → List ByteArray
  | 0, _, so => [so]
  | r + 1, d, so => (if d < r + 1 then wordsFrom r (d + 1) (so ++ sI) else []) ++ (if 0 < d then wordsFrom r (d - 1) (so ++ sO) else [])

theorem wordsFrom_len : ∀ (r d : Nat) (so : ByteArray), (wordsFrom r d so).length ≤ 2 ^ r
  | 0, _, _ => Nat.le_refl _
  | r + 1, d, so => by
    unfold wordsFrom
    rw [List.length_append]
    have h1 : (if d < r + 1 then wordsFrom r (d + 1) (so ++ sI) else []).length ≤ 2 ^ r := by
      split
      · exact wordsFrom_len r _ _
      · simp
    have h2 : (if 0 < d then wordsFrom r (d - 1) (so ++ sO) else []).length ≤ 2 ^ r := by
      split
      · exact wordsFrom_len r _ _
      · simp
    rw [Nat.pow_succ]; omega

theorem wordsFrom_16k {r d : Nat} {so : ByteArray} (h : r ≤ 14) : (wordsFrom r d so).length ≤ 16384 := by
  have h1 := wordsFrom_len r d so
  have h2 : 2 ^ r ≤ 2 ^ 14 := Nat.pow_le_pow_right (by omega) h
  have h3 : (2 : Nat) ^ 14 = 16384 := by decide
  omega

def wordsAns (n : Int) : List ByteArray × Bool := if 1 ≤ n ∧ n ≤ 7 then (wordsFrom (2 * n.toNat) 0 ByteArray.empty, true) else ([], false)

theorem words_len {n : Int} {xs : List ByteArray} {b : Bool} (h : wordsAns n = (xs, b)) : xs.length ≤ 1048576 := by
  unfold wordsAns at h; split at h
  · cases h; have := @wordsFrom_16k (2 * n.toNat) 0 ByteArray.empty (by omega); omega
  · cases h; simp

/-- Texts and a truth value are returned, the texts in memory of the call's own. -/
def TextsTo (w : World) (e : Ending) (w' : World) (xs : List ByteArray) (b : Bool) : Prop :=
  ∃ v, e = .returned (.tuple #[v, .bool b]) ∧ w'.ownsRow w.heap.size 9 1 v xs.length (xs.map Value.string) ∧ Below w.heap.size w w'

theorem textsTo_none (w : World) (b : Bool) : TextsTo w (.returned (.tuple #[.slice (some ⟨w.heap.size, 0, none⟩) 0 0, .bool b])) (w.alloc (.cells #[] 9)) [] b :=
  ⟨_, rfl, World.ownsRow_made _ _ _ (Nat.le_refl _) (by unfold maxLen; omega) rfl, (Below.refl _ _).alloc (Nat.le_refl _) _⟩

theorem own_form {w : World} {base size n : Nat} {ty : TypeId} {v : Value} {xs : List Value} (h : w.ownsRow base ty size v n xs) (hne : v ≠ .slice none 0 0) : ∃ g cap, v = .slice (some ⟨g, 0, none⟩) n cap := by
  rcases h.2 with ⟨h0, _⟩ | ⟨g, cap, cur, hv, _⟩
  · exact absurd h0 hne
  · exact ⟨g, cap, hv⟩

end Go.Proofs.YtnhhnffolmgceaaGreat.WordsC

end

section
namespace Go.Proofs.YtnhhnffolmgceaaGreat.EndsM
open NumC WordMath WordsC

/-- In how many ways a word goes on, with n signs left and k on the stack. -/
def ends : Nat → Nat → Nat
  | 0, k => if k = 0 then 1 else 0
  | n + 1, k => (if 0 < k then ends n (k - 1) else 0) + ends n (k + 1)

theorem ends_zero : ∀ n k, n < k → ends n k = 0
  | 0, k, h => by unfold ends; rw [if_neg (by omega)]
  | n + 1, k, h => by
    unfold ends
    rw [if_pos (by omega), ends_zero n (k - 1) (by omega), ends_zero n (k + 1) (by omega)]

theorem ends_le : ∀ n k, ends n k ≤ 2 ^ n
  | 0, k => by unfold ends; split <;> simp
  | n + 1, k => by
    have h1 := ends_le n (k - 1)
    have h2 := ends_le n (k + 1)
    have e : 2 ^ (n + 1) = 2 ^ n + 2 ^ n := by rw [Nat.pow_succ]; omega
    unfold ends
    split <;> omega

theorem ends_16k {n k : Nat} (h : n ≤ 14) : ends n k ≤ 16384 := by
  have h1 := ends_le n k
  have h2 : 2 ^ n ≤ 2 ^ 14 := Nat.pow_le_pow_right (by omega) h
  have h3 : (2 : Nat) ^ 14 = 16384 := by decide
  omega

/-- So many signs can be left with so many on the stack. -/
def Fits (r d : Nat) : Prop := d ≤ r ∧ r % 2 = d % 2

theorem Fits.I {r d : Nat} (h : Fits (r + 1) d) (h2 : d < r + 1) : Fits r (d + 1) := by unfold Fits at *; omega
theorem Fits.O {r d : Nat} (h : Fits (r + 1) d) (h2 : 0 < d) : Fits r (d - 1) := by unfold Fits at *; omega

theorem words_count : ∀ r d so, Fits r d → (wordsFrom r d so).length = ends r d
  | 0, d, so, h => by
    have : d = 0 := by unfold Fits at h; omega
    subst this; rfl
  | r + 1, d, so, h => by
    unfold wordsFrom ends
    rw [List.length_append, Nat.add_comm]
    congr 1
    · by_cases h2 : 0 < d
      · rw [if_pos h2, if_pos h2, words_count r _ _ (h.O h2)]
      · rw [if_neg h2, if_neg h2]; rfl
    · by_cases h2 : d < r + 1
      · rw [if_pos h2, words_count r _ _ (h.I h2)]
      · rw [if_neg h2, ends_zero r (d + 1) (by omega)]; rfl

/-- Signs that go on to the end of a word. -/
def Goes : List UInt8 → Nat → Prop
  | [], d => d = 0
  | c :: t, d => (c = 73 ∧ Goes t (d + 1)) ∨ (c = 79 ∧ 0 < d ∧ Goes t (d - 1))

theorem goes_fits : ∀ l d, Goes l d → Fits l.length d
  | [], d, h => by cases h; exact ⟨Nat.le_refl _, rfl⟩
  | c :: t, d, h => by
    rcases h with ⟨_, h⟩ | ⟨_, h0, h⟩
    · have := goes_fits t _ h; unfold Fits at *; simp; omega
    · have := goes_fits t _ h; unfold Fits at *; simp; omega

/-- How many words come before, of those that go on in the same way so far. -/
def rankL : List UInt8 → Nat → Nat
  | [], _ => 0
  | c :: t, d => if c = 73 then rankL t (d + 1) else ends t.length (d + 1) + rankL t (d - 1)

theorem sI_cons (so : ByteArray) (l : List UInt8) : (so ++ sI) ++ txt l = so ++ txt (73 :: l) := by
  have e : sI = txt [73] := rfl
  rw [e, ByteArray.append_assoc, txt_append]; rfl
theorem sO_cons (so : ByteArray) (l : List UInt8) : (so ++ sO) ++ txt l = so ++ txt (79 :: l) := by
  have e : sO = txt [79] := rfl
  rw [e, ByteArray.append_assoc, txt_append]; rfl
theorem txt_nil (so : ByteArray) : so ++ txt [] = so := by
  have e : txt [] = ByteArray.empty := rfl
  rw [e, ByteArray.append_empty]

theorem fits_lt {r d : Nat} (h : Fits r (d + 1)) : d < r + 1 := by unfold Fits at h; omega

/-- The words of a state begin with those that go on by a push. -/
theorem words_parts {r d : Nat} (so : ByteArray) (h : Fits (r + 1) d) : ∃ a b, wordsFrom (r + 1) d so = a ++ b ∧ a.length = ends r (d + 1) ∧ (d < r + 1 → a = wordsFrom r (d + 1) (so ++ sI)) ∧ (0 < d → b = wordsFrom r (d - 1) (so ++ sO)) ∧ (¬ 0 < d → b = []) := by
  refine ⟨_, _, rfl, ?_, fun h2 => if_pos h2, fun h2 => if_pos h2, fun h2 => if_neg h2⟩
  by_cases h2 : d < r + 1
  · rw [if_pos h2, words_count r _ _ (h.I h2)]
  · rw [if_neg h2, ends_zero r (d + 1) (by omega)]; rfl

theorem word_at_rank : ∀ (l : List UInt8) (d : Nat) (so : ByteArray), Goes l d → (wordsFrom l.length d so)[rankL l d]? = some (so ++ txt l)
  | [], d, so, h => by show [so][0]? = _; rw [txt_nil]; rfl
  | c :: t, d, so, h => by
    have hf := goes_fits _ _ h
    obtain ⟨a, b, e1, e2, e3, e4, _⟩ := words_parts (r := t.length) (d := d) so hf
    show (wordsFrom (t.length + 1) d so)[_]? = _
    rw [e1]
    rcases h with ⟨rfl, h⟩ | ⟨rfl, h0, h⟩
    · have ha := e3 (fits_lt (goes_fits _ _ h))
      have ih := word_at_rank t (d + 1) (so ++ sI) h
      have hlt : rankL t (d + 1) < a.length := by
        rw [← ha] at ih
        exact (List.getElem?_eq_some_iff.1 ih).1
      show (a ++ b)[rankL t (d + 1)]? = _
      rw [List.getElem?_append_left hlt, ha, ih, sI_cons]
    · have hb := e4 h0
      have ih := word_at_rank t (d - 1) (so ++ sO) h
      show (a ++ b)[ends t.length (d + 1) + rankL t (d - 1)]? = _
      rw [← e2, List.getElem?_append_right (by omega), Nat.add_sub_cancel_left, hb, ih, sO_cons]

/-- The word at a place, sign by sign. -/
def atW : Nat → Nat → Nat → List UInt8
  | 0, _, _ => []
  | r + 1, d, k => if k < ends r (d + 1) then 73 :: atW r (d + 1) k else 79 :: atW r (d - 1) (k - ends r (d + 1))

theorem atW_len : ∀ r d k, (atW r d k).length = r
  | 0, _, _ => rfl
  | r + 1, d, k => by
    unfold atW
    split <;> simp [atW_len r]

theorem at_words : ∀ (r d k : Nat) (so : ByteArray), Fits r d → k < ends r d → (wordsFrom r d so)[k]? = some (so ++ txt (atW r d k)) ∧ Goes (atW r d k) d
  | 0, d, k, so, h, hk => by
    have : d = 0 := by unfold Fits at h; omega
    subst this
    have : k = 0 := by unfold ends at hk; simp at hk; exact hk
    subst this
    exact ⟨by show [so][0]? = some (so ++ txt []); rw [txt_nil]; rfl, rfl⟩
  | r + 1, d, k, so, h, hk => by
    obtain ⟨a, b, e1, e2, e3, e4, e5⟩ := words_parts (r := r) (d := d) so h
    rw [e1]
    unfold atW
    by_cases h2 : k < ends r (d + 1)
    · rw [if_pos h2]
      have hd : d < r + 1 := by
        rcases Nat.lt_or_ge d (r + 1) with h3 | h3
        · exact h3
        · rw [ends_zero r (d + 1) (by omega)] at h2; omega
      have ih := at_words r (d + 1) k (so ++ sI) (h.I hd) h2
      rw [List.getElem?_append_left (by omega), e3 hd, ih.1, sI_cons]
      exact ⟨rfl, .inl ⟨rfl, ih.2⟩⟩
    · rw [if_neg h2]
      unfold ends at hk
      have h0 : 0 < d := by
        rcases Nat.eq_zero_or_pos d with h3 | h3
        · rw [if_neg (by omega)] at hk; omega
        · exact h3
      rw [if_pos h0] at hk
      have ih := at_words r (d - 1) (k - ends r (d + 1)) (so ++ sO) (h.O h0) (by omega)
      rw [List.getElem?_append_right (by omega), e2, e4 h0, ih.1, sO_cons]
      exact ⟨rfl, .inr ⟨rfl, h0, ih.2⟩⟩

/-- The words come in ascending order. -/
def lss (a b : ByteArray) : Bool := Op.bytesLess a.data.toList b.data.toList

theorem less_self : ∀ l : List UInt8, Op.bytesLess l l = false
  | [] => rfl
  | a :: t => by unfold Op.bytesLess; simp [less_self t, UInt8.lt_irrefl]

theorem less_not : ∀ (x y : List UInt8), Op.bytesLess x y = true → Op.bytesLess y x = false
  | _, [], h => by unfold Op.bytesLess at h; cases h
  | [], _ :: _, _ => by unfold Op.bytesLess; rfl
  | a :: x, b :: y, h => by
    unfold Op.bytesLess at h ⊢
    simp only [Bool.or_eq_true, Bool.and_eq_true, decide_eq_true_eq, beq_iff_eq, Bool.or_eq_false_iff, Bool.and_eq_false_imp, decide_eq_false_iff_not] at h ⊢
    rcases h with h | ⟨rfl, h⟩
    · refine ⟨fun h2 => UInt8.lt_asymm h h2, fun e => ?_⟩
      subst e; exact absurd h (UInt8.lt_irrefl _)
    · exact ⟨UInt8.lt_irrefl _, fun _ => less_not _ _ h⟩

theorem less_pre : ∀ (p x y : List UInt8), Op.bytesLess (p ++ x) (p ++ y) = Op.bytesLess x y
  | [], _, _ => rfl
  | a :: p, x, y => by
    show Op.bytesLess (a :: (p ++ x)) (a :: (p ++ y)) = _
    rw [Op.bytesLess]
    simp [less_pre p, UInt8.lt_irrefl]

theorem mem_words : ∀ (r d : Nat) (so x : ByteArray), Fits r d → x ∈ wordsFrom r d so → ∃ l, l.length = r ∧ Goes l d ∧ x = so ++ txt l
  | 0, d, so, x, h, hx => by
    have : d = 0 := by unfold Fits at h; omega
    subst this
    have : x = so := by simpa [wordsFrom] using hx
    subst this
    exact ⟨[], rfl, rfl, (txt_nil _).symm⟩
  | r + 1, d, so, x, h, hx => by
    unfold wordsFrom at hx
    rcases List.mem_append.1 hx with hx | hx
    · by_cases h2 : d < r + 1
      · rw [if_pos h2] at hx
        obtain ⟨l, h3, h4, h5⟩ := mem_words r _ _ x (h.I h2) hx
        exact ⟨73 :: l, by simp [h3], .inl ⟨rfl, h4⟩, by rw [h5, sI_cons]⟩
      · rw [if_neg h2] at hx; cases hx
    · by_cases h2 : 0 < d
      · rw [if_pos h2] at hx
        obtain ⟨l, h3, h4, h5⟩ := mem_words r _ _ x (h.O h2) hx
        exact ⟨79 :: l, by simp [h3], .inr ⟨rfl, h2, h4⟩, by rw [h5, sO_cons]⟩
      · rw [if_neg h2] at hx; cases hx

theorem app_data (so : ByteArray) (l : List UInt8) : (so ++ txt l).data.toList = so.data.toList ++ l := by simp [txt]

theorem words_sorted : ∀ (r d : Nat) (so : ByteArray), Fits r d → (wordsFrom r d so).Pairwise (fun a b => lss a b = true)
  | 0, d, so, h => by unfold wordsFrom; exact List.pairwise_singleton _ _
  | r + 1, d, so, h => by
    unfold wordsFrom
    rw [List.pairwise_append]
    refine ⟨?_, ?_, ?_⟩
    · by_cases h2 : d < r + 1
      · rw [if_pos h2]; exact words_sorted r _ _ (h.I h2)
      · rw [if_neg h2]; exact .nil
    · by_cases h2 : 0 < d
      · rw [if_pos h2]; exact words_sorted r _ _ (h.O h2)
      · rw [if_neg h2]; exact .nil
    · intro a ha b hb
      by_cases h2 : d < r + 1
      · rw [if_pos h2] at ha
        by_cases h3 : 0 < d
        · rw [if_pos h3] at hb
          obtain ⟨l, _, _, rfl⟩ := mem_words r _ _ a (h.I h2) ha
          obtain ⟨m, _, _, rfl⟩ := mem_words r _ _ b (h.O h3) hb
          unfold lss
          rw [sI_cons, sO_cons, app_data, app_data, less_pre]
          rfl
        · rw [if_neg h3] at hb; cases hb
      · rw [if_neg h2] at ha; cases ha

/-- A word's signs go on to the end. -/
theorem held_goes {w : ByteArray} : ∀ (m k d : Nat), k + m = w.size → heldTo w k = some d → heldTo w w.size = some 0 → Goes (w.data.toList.drop k) d
  | 0, k, d, h, hd, h0 => by
    have e : k = w.size := by omega
    subst e
    rw [hd] at h0; cases h0
    rw [List.drop_of_length_le (by rw [Array.length_toList]; exact Nat.le_refl _)]
    rfl
  | m + 1, k, d, h, hd, h0 => by
    have hk : k < w.data.toList.length := by rw [Array.length_toList]; show k < w.size; omega
    have hb : w.data.toList[k] = byt w k := by unfold byt; rw [List.getD_eq_getElem?_getD, List.getElem?_eq_getElem hk, Option.getD_some]
    rw [List.drop_eq_getElem_cons hk, hb]
    obtain ⟨e, he, _, _⟩ := held_back (w := w) m (k + 1) 0 (by rw [show k + 1 + m = w.size by omega]; exact h0)
    obtain ⟨d2, hd2, hc⟩ := held_cases he
    rw [hd] at hd2; cases hd2
    have ih := held_goes m (k + 1) e (by omega) he h0
    rcases hc with ⟨h1, rfl⟩ | ⟨h1, h2, rfl⟩
    · exact .inl ⟨h1, ih⟩
    · exact .inr ⟨h1, h2, ih⟩

theorem word_goes {w : ByteArray} (h : Word w) : Goes w.data.toList 0 := held_goes w.size 0 0 (Nat.zero_add _) rfl h.2.2

/-- And signs that do are a word. -/
theorem goes_held {w : ByteArray} : ∀ (m k d : Nat), k + m = w.size → heldTo w k = some d → Goes (w.data.toList.drop k) d → heldTo w w.size = some 0
  | 0, k, d, h, hd, hg => by
    have e : k = w.size := by omega
    subst e
    rw [List.drop_of_length_le (by rw [Array.length_toList]; exact Nat.le_refl _)] at hg
    cases hg; exact hd
  | m + 1, k, d, h, hd, hg => by
    have hk : k < w.data.toList.length := by rw [Array.length_toList]; show k < w.size; omega
    have hb : w.data.toList[k] = byt w k := by unfold byt; rw [List.getD_eq_getElem?_getD, List.getElem?_eq_getElem hk, Option.getD_some]
    rw [List.drop_eq_getElem_cons hk, hb] at hg
    rcases hg with ⟨h1, hg⟩ | ⟨h1, h2, hg⟩
    · exact goes_held m (k + 1) _ (by omega) (held_I hd h1) hg
    · exact goes_held m (k + 1) _ (by omega) (held_O hd h1 h2) hg

theorem goes_word {l : List UInt8} (h : Goes l 0) (h1 : 2 ≤ l.length) (h2 : l.length ≤ 14) : Word (txt l) := by
  have e : (txt l).size = l.length := txt_size l
  refine ⟨by omega, by omega, ?_⟩
  exact goes_held (w := txt l) (txt l).size 0 0 (Nat.zero_add _) rfl (by rw [txt_list]; exact h)

theorem txt_data (s : ByteArray) : txt s.data.toList = s := by
  cases s with
  | mk d => simp [txt]

theorem empty_txt (l : List UInt8) : ByteArray.empty ++ txt l = txt l := ByteArray.empty_append

def allW (n : Nat) : List ByteArray := wordsFrom (2 * n) 0 ByteArray.empty

theorem all_fits (n : Nat) : Fits (2 * n) 0 := ⟨Nat.zero_le _, by omega⟩

theorem all_len (n : Nat) : (allW n).length = ends (2 * n) 0 := words_count _ _ _ (all_fits n)

/-- The place of a word. -/
theorem all_rank {w : ByteArray} (h : Word w) : (allW (w.size / 2))[rankL w.data.toList 0]? = some w := by
  have := word_at_rank _ _ ByteArray.empty (word_goes h)
  have e : w.data.toList.length = 2 * (w.size / 2) := by rw [Array.length_toList]; exact word_even h
  rw [e, empty_txt, txt_data] at this
  exact this

theorem all_mem {n : Nat} {w : ByteArray} (h1 : 1 ≤ n) (h7 : n ≤ 7) (h : w ∈ allW n) : Word w ∧ w.size = 2 * n := by
  obtain ⟨l, hl, hg, rfl⟩ := mem_words _ _ _ w (all_fits n) h
  rw [empty_txt]
  exact ⟨goes_word hg (by omega) (by omega), by rw [txt_size, hl]⟩

theorem all_at {n k : Nat} (hk : k < ends (2 * n) 0) : (allW n)[k]? = some (txt (atW (2 * n) 0 k)) := by
  have := (at_words (2 * n) 0 k ByteArray.empty (all_fits n) hk).1
  rw [empty_txt] at this
  exact this

/-- Which words are before one. -/
theorem all_before {n k t : Nat} {w : ByteArray} (hk : (allW n)[k]? = some w) (ht : t < (allW n).length) : lss ((allW n)[t]) w = decide (t < k) := by
  have hs := words_sorted _ _ ByteArray.empty (all_fits n)
  obtain ⟨h1, h2⟩ := List.getElem?_eq_some_iff.1 hk
  rw [List.pairwise_iff_getElem] at hs
  rcases Nat.lt_trichotomy t k with h | h | h
  · rw [decide_eq_true h, ← h2]; exact hs t k ht h1 h
  · subst h; rw [h2, decide_eq_false (by omega)]; exact less_self _
  · rw [decide_eq_false (by omega), ← h2]; exact less_not _ _ (hs k t h1 ht h)

/-- The rank of the word at a place. -/
theorem rank_at {n k : Nat} (h1 : 1 ≤ n) (h7 : n ≤ 7) (hk : k < ends (2 * n) 0) : Word (txt (atW (2 * n) 0 k)) ∧ (txt (atW (2 * n) 0 k)).size = 2 * n ∧ rankL (atW (2 * n) 0 k) 0 = k := by
  have ha := all_at (n := n) hk
  have hm := all_mem h1 h7 (List.mem_of_getElem? ha)
  have hr := all_rank hm.1
  have e : (txt (atW (2 * n) 0 k)).size / 2 = n := by omega
  rw [e, txt_list] at hr
  refine ⟨hm.1, hm.2, ?_⟩
  obtain ⟨g1, g2⟩ := List.getElem?_eq_some_iff.1 hr
  have := all_before ha g1
  rw [g2] at this
  have e2 := all_before hr (t := k) (by rw [all_len]; exact hk)
  obtain ⟨g3, g4⟩ := List.getElem?_eq_some_iff.1 ha
  rw [g4] at e2
  have z := less_self (txt (atW (2 * n) 0 k)).data.toList
  unfold lss at this e2
  rw [z] at this e2
  have a1 := of_decide_eq_false this.symm
  have a2 := of_decide_eq_false e2.symm
  omega

theorem rank_lt {w : ByteArray} (h : Word w) : rankL w.data.toList 0 < ends (2 * (w.size / 2)) 0 := by
  have := (List.getElem?_eq_some_iff.1 (all_rank h)).1
  rw [all_len] at this; exact this

/-! ### The answers -/
def rankWAns (w : ByteArray) : Int × Bool := if Word w then ((rankL w.data.toList 0 : Nat), true) else (0, false)
def atWAns (n k : Int) : ByteArray × Bool := if 1 ≤ n ∧ n ≤ 7 ∧ 0 ≤ k ∧ k < (ends (2 * n.toNat) 0 : Int) then (txt (atW (2 * n.toNat) 0 k.toNat), true) else (ByteArray.empty, false)
def oneAns (n : Int) : Int × Bool := if 1 ≤ n ∧ n ≤ 7 then ((ends (2 * n.toNat) 0 : Nat), true) else (0, false)

end Go.Proofs.YtnhhnffolmgceaaGreat.EndsM

end

section
namespace Go.Proofs.YtnhhnffolmgceaaGreat.SweepM
open NumC OrdMath WordMath OrdFacts EndsM

/-- What a number pops, the top first. -/
def popd (s : List Int) (x : Int) : List Int := s.reverse.takeWhile (fun y => decide (y < x))
/-- What it leaves on the stack. -/
def belw (s : List Int) (x : Int) : List Int := (s.reverse.dropWhile (fun y => decide (y < x))).reverse

theorem parts (s : List Int) (x : Int) : belw s x ++ (popd s x).reverse = s := by
  unfold belw popd
  rw [← List.reverse_append, List.takeWhile_append_dropWhile, List.reverse_reverse]

theorem popd_nil (x : Int) : popd [] x = [] := rfl
theorem belw_nil (x : Int) : belw [] x = [] := rfl
theorem popd_less {s : List Int} {y x : Int} (h : y < x) : popd (s ++ [y]) x = y :: popd s x := by simp [popd, h]
theorem belw_less {s : List Int} {y x : Int} (h : y < x) : belw (s ++ [y]) x = belw s x := by simp [belw, h]
theorem popd_not {s : List Int} {y x : Int} (h : ¬ y < x) : popd (s ++ [y]) x = [] := by simp [popd, h]
theorem belw_not {s : List Int} {y x : Int} (h : ¬ y < x) : belw (s ++ [y]) x = s ++ [y] := by simp [belw, h]

theorem tw_all {p : Int → Bool} : ∀ {l : List Int}, (∀ y ∈ l, p y = true) → l.takeWhile p = l
  | [], _ => rfl
  | a :: t, h => by rw [List.takeWhile_cons, if_pos (h a (by simp)), tw_all (fun y hy => h y (by simp [hy]))]
theorem tw_mem {p : Int → Bool} {y : Int} : ∀ {l : List Int}, y ∈ l.takeWhile p → p y = true
  | [], h => by simp at h
  | a :: t, h => by
    rw [List.takeWhile_cons] at h
    split at h
    · rename_i ha
      rcases List.mem_cons.1 h with rfl | h
      · exact ha
      · exact tw_mem h
    · cases h

theorem popd_all {s : List Int} {x : Int} (h : ∀ y ∈ s, y < x) : popd s x = s.reverse := by
  unfold popd
  exact tw_all (fun y hy => decide_eq_true (h y (List.mem_reverse.1 hy)))
theorem belw_all {s : List Int} {x : Int} (h : ∀ y ∈ s, y < x) : belw s x = [] := by
  have h1 := parts s x
  rw [popd_all h, List.reverse_reverse] at h1
  exact List.eq_nil_of_length_eq_zero (by have := congrArg List.length h1; simp at this; exact List.length_eq_zero_iff.2 this)

theorem lens (s : List Int) (x : Int) : (belw s x).length + (popd s x).length = s.length := by
  have := congrArg List.length (parts s x); simpa using this

/-- One number. -/
def swF (r : List Int × List Int) (x : Int) : List Int × List Int := (r.1 ++ popd r.2 x, belw r.2 x ++ [x])

/-- What has come out and what is on the stack, behind the first numbers. -/
def swTo (zs : List Int) (k : Nat) : List Int × List Int := (zs.take k).foldl swF ([], [])

theorem sw_start (zs : List Int) : swTo zs 0 = ([], []) := rfl
theorem sw_next {zs : List Int} {k : Nat} {o s : List Int} (hk : k < zs.length) (h : swTo zs k = (o, s)) : swTo zs (k + 1) = (o ++ popd s (zs.getD k 0), belw s (zs.getD k 0) ++ [zs.getD k 0]) := by
  unfold swTo at h ⊢
  rw [List.take_succ_eq_append_getElem hk, List.foldl_append, h]
  have e : zs.getD k 0 = zs[k] := by simp [hk]
  rw [e]; rfl

/-- The sweep. -/
def sweepL (zs : List Int) : List Int := (zs.foldl swF ([], [])).1 ++ (zs.foldl swF ([], [])).2.reverse

theorem sweep_end {zs o s : List Int} (h : swTo zs zs.length = (o, s)) : sweepL zs = o ++ s.reverse := by
  unfold swTo at h
  rw [List.take_length] at h
  unfold sweepL
  rw [h]

theorem fold_out (l : List Int) : ∀ (o s : List Int), l.foldl swF (o, s) = (o ++ (l.foldl swF ([], s)).1, (l.foldl swF ([], s)).2) := by
  induction l with
  | nil => intro o s; simp
  | cons x t ih =>
    intro o s
    show t.foldl swF (o ++ popd s x, belw s x ++ [x]) = _
    rw [ih]
    have e : (x :: t).foldl swF ([], s) = t.foldl swF ([] ++ popd s x, belw s x ++ [x]) := rfl
    rw [e, ih ([] ++ popd s x)]
    simp

theorem sw_perm (l : List Int) : ∀ (o s : List Int), ((l.foldl swF (o, s)).1 ++ (l.foldl swF (o, s)).2).Perm (o ++ s ++ l) := by
  induction l with
  | nil => intro o s; simp
  | cons x t ih =>
    intro o s
    refine (ih (o ++ popd s x) (belw s x ++ [x])).trans ?_
    have h1 : (popd s x ++ belw s x).Perm s := by
      have h2 : (belw s x ++ popd s x).Perm (belw s x ++ (popd s x).reverse) := (List.reverse_perm _).symm.append_left _
      rw [parts] at h2
      exact List.perm_append_comm.trans h2
    have e : o ++ popd s x ++ (belw s x ++ [x]) ++ t = o ++ (popd s x ++ belw s x) ++ (x :: t) := by simp
    rw [e]
    exact (h1.append_left o).append_right _

theorem sweep_perm (zs : List Int) : (sweepL zs).Perm zs := by
  have h := sw_perm zs [] []
  simp only [List.nil_append] at h
  unfold sweepL
  exact ((List.reverse_perm _).append_left _).trans h

theorem sweep_len (zs : List Int) : (sweepL zs).length = zs.length := (sweep_perm zs).length_eq

theorem ord_sweep {zs : List Int} (h : Ord zs) : Ord (sweepL zs) :=
  ord_of_perm ((sweep_perm zs).trans (ord_perm h)) h.1 h.2.1

theorem stack_ne (l : List Int) (x : Int) (o s : List Int) : ((l ++ [x]).foldl swF (o, s)).2 ≠ [] := by
  rw [List.foldl_append]; show _ ++ [x] ≠ []; simp

/-! ### The word -/
/-- The signs of the first numbers. -/
def sgTo (zs : List Int) : Nat → List UInt8
  | 0 => []
  | k + 1 => sgTo zs k ++ List.replicate (popd (swTo zs k).2 (zs.getD k 0)).length 79 ++ [73]

def swWord (zs : List Int) : List UInt8 := sgTo zs zs.length ++ List.replicate (swTo zs zs.length).2.length 79

def stepL (zs : List Int) (r : List Int × List Int × Nat) (c : UInt8) : List Int × List Int × Nat :=
  if c = 73 then (r.1, r.2.1 ++ [zs.getD r.2.2 0], r.2.2 + 1) else (r.1 ++ [r.2.1.getLast?.getD 0], r.2.1.dropLast, r.2.2)

theorem run_fold (zs : List Int) (w : ByteArray) : ∀ k, k ≤ w.size → runTo zs w k = (w.data.toList.take k).foldl (stepL zs) ([], [], 0)
  | 0, _ => rfl
  | k + 1, h => by
    have h2 : k < w.data.toList.length := by rw [Array.length_toList]; exact h
    have hb : w.data.toList[k] = byt w k := by unfold byt; rw [List.getD_eq_getElem?_getD, List.getElem?_eq_getElem h2, Option.getD_some]
    rw [List.take_succ_eq_append_getElem h2, List.foldl_append, ← run_fold zs w k (by omega), hb]
    rfl

theorem run_txt (zs : List Int) (l : List UInt8) : runOut zs (txt l) = (l.foldl (stepL zs) ([], [], 0)).1 := by
  unfold runOut
  rw [run_fold zs (txt l) _ (Nat.le_refl _), txt_list, txt_size, List.take_length]

theorem step_pops (zs : List Int) (x : Nat) : ∀ (t s o : List Int), (List.replicate t.length 79).foldl (stepL zs) (o, s ++ t.reverse, x) = (o ++ t, s, x)
  | [], s, o => by simp
  | a :: t, s, o => by
    have e : (List.replicate (a :: t).length (79 : UInt8)) = 79 :: List.replicate t.length 79 := rfl
    rw [e]
    show (List.replicate t.length 79).foldl (stepL zs) (stepL zs (o, s ++ (a :: t).reverse, x) 79) = _
    have e2 : stepL zs (o, s ++ (a :: t).reverse, x) 79 = (o ++ [a], s ++ t.reverse, x) := by
      unfold stepL
      rw [if_neg (by decide)]
      have e3 : s ++ (a :: t).reverse = (s ++ t.reverse) ++ [a] := by simp
      rw [e3]
      simp
    rw [e2, step_pops zs x t s (o ++ [a])]
    simp

theorem sg_run (zs : List Int) : ∀ k, k ≤ zs.length → (sgTo zs k).foldl (stepL zs) ([], [], 0) = ((swTo zs k).1, (swTo zs k).2, k)
  | 0, _ => rfl
  | k + 1, h => by
    obtain ⟨o, s, hr⟩ : ∃ o s, swTo zs k = (o, s) := ⟨_, _, rfl⟩
    have hn := sw_next (zs := zs) (k := k) (by omega) hr
    unfold sgTo
    rw [List.foldl_append, List.foldl_append, sg_run zs k (by omega), hr, hn]
    simp only
    have e : s = belw s (zs.getD k 0) ++ (popd s (zs.getD k 0)).reverse := (parts _ _).symm
    have h2 := step_pops zs k (popd s (zs.getD k 0)) (belw s (zs.getD k 0)) o
    rw [← e] at h2
    rw [h2]
    rfl

/-- A walk over signs from a depth to another one. -/
def Path : List UInt8 → Nat → Nat → Prop
  | [], d, e => d = e
  | c :: t, d, e => (c = 73 ∧ Path t (d + 1) e) ∨ (c = 79 ∧ 0 < d ∧ Path t (d - 1) e)

theorem path_goes : ∀ l d, Path l d 0 → Goes l d
  | [], _, h => h
  | c :: t, d, h => by
    rcases h with ⟨h1, h⟩ | ⟨h1, h2, h⟩
    · exact .inl ⟨h1, path_goes t _ h⟩
    · exact .inr ⟨h1, h2, path_goes t _ h⟩

theorem path_append : ∀ (l m : List UInt8) (d e f : Nat), Path l d e → Path m e f → Path (l ++ m) d f
  | [], m, d, e, f, h, h2 => by cases h; exact h2
  | c :: t, m, d, e, f, h, h2 => by
    rcases h with ⟨h1, h⟩ | ⟨h1, h3, h⟩
    · exact .inl ⟨h1, path_append t m _ e f h h2⟩
    · exact .inr ⟨h1, h3, path_append t m _ e f h h2⟩

theorem path_pops : ∀ (m d : Nat), Path (List.replicate m 79) (d + m) d
  | 0, d => rfl
  | m + 1, d => .inr ⟨rfl, by omega, path_pops m d⟩

theorem sg_path (zs : List Int) : ∀ k, k ≤ zs.length → Path (sgTo zs k) 0 (swTo zs k).2.length
  | 0, _ => rfl
  | k + 1, h => by
    obtain ⟨o, s, hr⟩ : ∃ o s, swTo zs k = (o, s) := ⟨_, _, rfl⟩
    have hn := sw_next (zs := zs) (k := k) (by omega) hr
    have ih := sg_path zs k (by omega)
    unfold sgTo
    rw [hr] at ih ⊢
    rw [hn]
    simp only at ih ⊢
    refine path_append _ _ _ (belw s (zs.getD k 0)).length _ (path_append _ _ _ s.length _ ih ?_) ?_
    · rw [← lens s (zs.getD k 0)]; exact path_pops _ _
    · exact .inl ⟨rfl, by show _ = _; simp⟩

theorem sg_len (zs : List Int) : ∀ k, k ≤ zs.length → (sgTo zs k).length = k + (swTo zs k).1.length ∧ (swTo zs k).1.length + (swTo zs k).2.length = k
  | 0, _ => ⟨rfl, rfl⟩
  | k + 1, h => by
    obtain ⟨o, s, hr⟩ : ∃ o s, swTo zs k = (o, s) := ⟨_, _, rfl⟩
    have hn := sw_next (zs := zs) (k := k) (by omega) hr
    have ih := sg_len zs k (by omega)
    unfold sgTo
    rw [hr] at ih ⊢
    rw [hn]
    simp only at ih ⊢
    have := lens s (zs.getD k 0)
    simp only [List.length_append, List.length_replicate, List.length_singleton]
    omega

theorem swWord_len (zs : List Int) : (swWord zs).length = 2 * zs.length := by
  have h := sg_len zs zs.length (Nat.le_refl _)
  unfold swWord
  simp
  omega

theorem sweep_word {zs : List Int} (h1 : 1 ≤ zs.length) (h7 : zs.length ≤ 7) : Word (txt (swWord zs)) ∧ (txt (swWord zs)).size = 2 * zs.length ∧ runOut zs (txt (swWord zs)) = sweepL zs := by
  have hl := swWord_len zs
  refine ⟨goes_word (path_goes _ _ ?_) (by omega) (by omega), by rw [txt_size, hl], ?_⟩
  · have h := sg_path zs zs.length (Nat.le_refl _)
    refine path_append _ _ _ _ _ h ?_
    have := path_pops (swTo zs zs.length).2.length 0
    rwa [Nat.zero_add] at this
  · obtain ⟨o, s, hr⟩ : ∃ o s, swTo zs zs.length = (o, s) := ⟨_, _, rfl⟩
    rw [run_txt, sweep_end hr]
    unfold swWord
    rw [List.foldl_append, sg_run zs _ (Nat.le_refl _), hr]
    have h2 := step_pops zs zs.length s.reverse [] o
    rw [List.reverse_reverse, List.nil_append, List.length_reverse] at h2
    show (List.foldl (stepL zs) (o, s, zs.length) (List.replicate s.length 79)).1 = _
    rw [h2]

/-! ### Sweeps sort -/
/-- The number at the bottom of the stack is the greatest one so far. -/
def Top (s : List Int) (seen : List Int) : Prop := ∃ m t, s = m :: t ∧ m ∈ seen ∧ ∀ y ∈ seen, y ≤ m

theorem top_next {s seen : List Int} {x : Int} (h : Top s seen) (hs : ∀ y ∈ s, y ∈ seen) : Top (belw s x ++ [x]) (seen ++ [x]) ∧ ∀ y ∈ belw s x ++ [x], y ∈ seen ++ [x] := by
  obtain ⟨m, t, rfl, hm, hall⟩ := h
  have hp := parts (m :: t) x
  have hsub : ∀ y ∈ belw (m :: t) x, y ∈ m :: t := fun y hy => by rw [← hp]; exact List.mem_append.2 (.inl hy)
  refine ⟨?_, ?_⟩
  · by_cases hmx : m < x
    · have hb : belw (m :: t) x = [] := belw_all (fun y hy => by have := hall y (hs y hy); omega)
      refine ⟨x, [], by rw [hb]; rfl, by simp, ?_⟩
      intro y hy
      rcases List.mem_append.1 hy with h | h
      · have := hall y h; omega
      · simp at h; omega
    · have hne : belw (m :: t) x ≠ [] := by
        intro e
        rw [e, List.nil_append] at hp
        have h9 : m ∈ popd (m :: t) x := by
          have : m ∈ (popd (m :: t) x).reverse := by rw [hp]; simp
          exact List.mem_reverse.1 this
        unfold popd at h9
        have := tw_mem h9
        exact hmx (of_decide_eq_true this)
      obtain ⟨a, u, hu⟩ : ∃ a u, belw (m :: t) x = a :: u := by
        cases hb : belw (m :: t) x with
        | nil => exact absurd hb hne
        | cons a u => exact ⟨a, u, rfl⟩
      rw [hu] at hp
      have ha : a = m := by injection hp
      subst ha
      refine ⟨a, u ++ [x], by rw [hu]; rfl, by simp [hm], ?_⟩
      intro y hy
      rcases List.mem_append.1 hy with h | h
      · exact hall y h
      · simp at h; omega
  · intro y hy
    rcases List.mem_append.1 hy with h | h
    · exact List.mem_append.2 (.inl (hs y (hsub y h)))
    · exact List.mem_append.2 (.inr h)

theorem top_fold : ∀ (l s seen o : List Int), Top s seen → (∀ y ∈ s, y ∈ seen) → Top (l.foldl swF (o, s)).2 (seen ++ l)
  | [], s, seen, o, h, _ => by simpa using h
  | x :: t, s, seen, o, h, hs => by
    have h2 := top_next (x := x) h hs
    have := top_fold t (belw s x ++ [x]) (seen ++ [x]) (o ++ popd s x) h2.1 h2.2
    rw [List.append_assoc] at this
    exact this

theorem sweep_top {l : List Int} (h : l ≠ []) : Top (l.foldl swF ([], [])).2 l := by
  cases l with
  | nil => exact absurd rfl h
  | cons x t =>
    have := top_fold t [x] [x] [] ⟨x, [], rfl, by simp, fun y hy => by simp at hy; omega⟩ (fun y hy => hy)
    exact this

/-- The sweep ends with the greatest number. -/
theorem sweep_last {l : List Int} (h : l ≠ []) : ∃ p m, sweepL l = p ++ [m] ∧ m ∈ l ∧ ∀ y ∈ l, y ≤ m := by
  obtain ⟨m, t, h1, h2, h3⟩ := sweep_top h
  refine ⟨(l.foldl swF ([], [])).1 ++ t.reverse, m, ?_, h2, h3⟩
  unfold sweepL
  rw [h1]
  simp

/-- Ascending numbers greater than all ahead of them stay. -/
theorem sweep_tail : ∀ (q o s : List Int), q.Pairwise (· < ·) → (∀ y ∈ q, ∀ z ∈ s, z < y) → (q.foldl swF (o, s)).1 ++ (q.foldl swF (o, s)).2.reverse = o ++ s.reverse ++ q
  | [], o, s, _, _ => by simp
  | y :: q, o, s, h, hs => by
    have hall : ∀ z ∈ s, z < y := hs y (by simp)
    have e : (y :: q).foldl swF (o, s) = q.foldl swF (o ++ s.reverse, [y]) := by
      show q.foldl swF (o ++ popd s y, belw s y ++ [y]) = _
      rw [popd_all hall, belw_all hall]; rfl
    rw [e, sweep_tail q _ _ (List.pairwise_cons.1 h).2 (fun z hz u hu => by simp at hu; subst hu; exact (List.pairwise_cons.1 h).1 z hz)]
    simp

theorem sweep_append {p q : List Int} (hq : q.Pairwise (· < ·)) (hp : ∀ y ∈ q, ∀ z ∈ p, z < y) : sweepL (p ++ q) = sweepL p ++ q := by
  unfold sweepL
  rw [List.foldl_append]
  obtain ⟨o, s, hr⟩ : ∃ o s, p.foldl swF ([], []) = (o, s) := ⟨_, _, rfl⟩
  rw [hr]
  have hs : ∀ z ∈ s, z ∈ p := by
    intro z hz
    have h := sw_perm p [] []
    rw [hr] at h
    have h9 : z ∈ o ++ s := List.mem_append.2 (.inr hz)
    have := h.mem_iff.1 h9
    simpa using this
  rw [sweep_tail q o s hq (fun y hy z hz => hp y hy z (hs z hz))]

/-- So many sweeps. -/
def swN (zs : List Int) : Nat → List Int
  | 0 => zs
  | k + 1 => sweepL (swN zs k)

theorem swN_perm (zs : List Int) : ∀ k, (swN zs k).Perm zs
  | 0 => List.Perm.refl _
  | k + 1 => (sweep_perm _).trans (swN_perm zs k)

theorem ord_swN {zs : List Int} (h : Ord zs) (k : Nat) : Ord (swN zs k) := ord_of_perm ((swN_perm zs k).trans (ord_perm h)) h.1 h.2.1
theorem swN_len (zs : List Int) (k : Nat) : (swN zs k).length = zs.length := (swN_perm zs k).length_eq

theorem swN_tail {zs : List Int} (hn : zs.Nodup) : ∀ k, k ≤ zs.length → ∃ p q, swN zs k = p ++ q ∧ q.length = k ∧ q.Pairwise (· < ·) ∧ ∀ y ∈ q, ∀ z ∈ p, z < y
  | 0, _ => ⟨zs, [], by simp [swN], rfl, .nil, by simp⟩
  | k + 1, h => by
    obtain ⟨p, q, e, hq, hs, hp⟩ := swN_tail hn k (by omega)
    have hl := swN_len zs k
    rw [e] at hl
    have hne : p ≠ [] := by intro h0; subst h0; simp at hl; omega
    obtain ⟨p2, m, e2, hm, hmax⟩ := sweep_last hne
    refine ⟨p2, m :: q, ?_, by simp [hq], ?_, ?_⟩
    · show sweepL (swN zs k) = _
      rw [e, sweep_append hs hp, e2]; simp
    · exact List.pairwise_cons.2 ⟨fun y hy => hp y hy m hm, hs⟩
    · have hperm := sweep_perm p
      rw [e2] at hperm
      have hnd : p.Nodup := by
        have h1 := (swN_perm zs k).nodup_iff.2 hn
        rw [e] at h1
        exact (List.nodup_append.1 h1).1
      have hnd2 := hperm.nodup_iff.2 hnd
      have hmem : ∀ z ∈ p2, z ∈ p := fun z hz => hperm.mem_iff.1 (by simp [hz])
      intro y hy z hz
      rcases List.mem_cons.1 hy with rfl | hy
      · have h1 := hmax z (hmem z hz)
        have h2 : z ≠ y := by
          intro e3; subst e3
          exact (List.nodup_append.1 hnd2).2.2 z hz z (by simp) rfl
        omega
      · exact hp y hy z (hmem z hz)

theorem sorted_is {l : List Int} {n : Nat} (h : l.Perm (iota n)) (hs : l.Pairwise (· < ·)) : l = iota n :=
  h.eq_of_pairwise (fun a b _ _ h1 h2 => by omega) hs (iota_sorted n)

theorem swN_sorts {zs : List Int} (h : Ord zs) : swN zs (zs.length - 1) = iota zs.length := by
  have h1 := h.1
  obtain ⟨p, q, e, hq, hs, hp⟩ := swN_tail h.2.2.2 (zs.length - 1) (by omega)
  have hl := swN_len zs (zs.length - 1)
  refine sorted_is ((swN_perm zs _).trans (ord_perm h)) ?_
  rw [e] at hl ⊢
  simp at hl
  rw [List.pairwise_append]
  refine ⟨?_, hs, fun z hz y hy => hp y hy z hz⟩
  match p, hl with
  | [], _ => exact .nil
  | [a], _ => exact List.pairwise_singleton _ _
  | a :: b :: t, hl => simp at hl; omega

/-- The number of sweeps that sort. -/
def firstN (zs : List Int) : Nat → Nat → Nat
  | 0, k => k
  | f + 1, k => if swN zs k = iota zs.length then k else firstN zs f (k + 1)

def many (zs : List Int) : Nat := firstN zs (zs.length - 1) 0

theorem first_is {zs : List Int} : ∀ f k, swN zs (k + f) = iota zs.length → (∀ j, j < k → swN zs j ≠ iota zs.length) → swN zs (firstN zs f k) = iota zs.length ∧ (∀ j, j < firstN zs f k → swN zs j ≠ iota zs.length) ∧ firstN zs f k ≤ k + f
  | 0, k, h, hb => ⟨h, hb, Nat.le_refl _⟩
  | f + 1, k, h, hb => by
    unfold firstN
    by_cases he : swN zs k = iota zs.length
    · rw [if_pos he]; exact ⟨he, hb, by omega⟩
    · rw [if_neg he]
      have := first_is f (k + 1) (by rw [show k + 1 + f = k + (f + 1) by omega]; exact h) (fun j hj => by
        rcases Nat.lt_succ_iff_lt_or_eq.1 hj with h1 | h1
        · exact hb j h1
        · subst h1; exact he)
      exact ⟨this.1, this.2.1, by omega⟩

theorem many_is {zs : List Int} (h : Ord zs) : swN zs (many zs) = iota zs.length ∧ (∀ j, j < many zs → swN zs j ≠ iota zs.length) ∧ many zs < zs.length := by
  have h1 := h.1
  have := first_is (zs := zs) (zs.length - 1) 0 (by rw [Nat.zero_add]; exact swN_sorts h) (by omega)
  unfold many
  exact ⟨this.1, this.2.1, by omega⟩

/-! ### The answers -/
def sweepAns (zs : List Int) : List Int × Bool := if Ord zs then (sweepL zs, true) else ([], false)
def swWordAns (zs : List Int) : ByteArray × Bool := if Ord zs then (txt (swWord zs), true) else (ByteArray.empty, false)
def sweepsAns (zs : List Int) : Int × Bool := if Ord zs then ((many zs : Nat), true) else (0, false)

theorem sweep_alen {zs xs : List Int} {b : Bool} (h : sweepAns zs = (xs, b)) : xs.length ≤ 1048576 := by
  unfold sweepAns at h; split at h
  · rename_i ho; cases h; have := ho.2.1; rw [sweep_len]; omega
  · cases h; simp

end Go.Proofs.YtnhhnffolmgceaaGreat.SweepM

end

section
namespace Go.Proofs.YtnhhnffolmgceaaGreat.StackM
open NumC OrdMath WordMath OrdFacts EndsM SweepM

/-- The order before, place by place. -/
def befTo (out ps : List Int) : Nat → List Int
  | 0 => List.replicate out.length 0
  | k + 1 => (befTo out ps k).set (ps.getD k 0 - 1).toNat (out.getD k 0)

theorem befTo_len (out ps : List Int) : ∀ k, (befTo out ps k).length = out.length
  | 0 => by simp [befTo]
  | k + 1 => by simp [befTo, befTo_len out ps k]

/-- The order from which another one comes out by a word. -/
def beforeOf (out : List Int) (w : ByteArray) : List Int := befTo out (runOut (iota out.length) w) out.length

theorem iota_getD {n k : Nat} (h : k < n) : (iota n).getD k 0 = (k : Int) + 1 := by
  have := iota_at n k h
  rw [List.getD_eq_getElem?_getD, List.getElem?_eq_getElem (by rw [iota_len]; exact h), Option.getD_some, this]

theorem bef_inv {n : Nat} {ps : List Int} (h : ps.length = n) : ∀ k, k ≤ n → befTo (iota n) ps k = invOf ps k
  | 0, _ => by unfold befTo invOf; rw [iota_len, h]
  | k + 1, hk => by
    unfold befTo invOf
    rw [bef_inv h k (by omega), iota_getD (by omega)]

theorem ord_iota {n : Nat} (h1 : 1 ≤ n) (h7 : n ≤ 7) : Ord (iota n) := ord_of_perm (List.Perm.refl _) h1 h7

/-! ### Record places -/
def recTo (zs : List Int) : Nat → List Int × Int
  | 0 => ([], 0)
  | k + 1 => if (recTo zs k).2 < zs.getD k 0 then ((recTo zs k).1 ++ [(k : Int)], zs.getD k 0) else recTo zs k

theorem rec_yes {zs r : List Int} {k : Nat} {m : Int} (h : recTo zs k = (r, m)) (hz : m < zs.getD k 0) : recTo zs (k + 1) = (r ++ [(k : Int)], zs.getD k 0) := by
  unfold recTo; rw [h]; simp only; rw [if_pos hz]
theorem rec_no {zs r : List Int} {k : Nat} {m : Int} (h : recTo zs k = (r, m)) (hz : ¬ m < zs.getD k 0) : recTo zs (k + 1) = (r, m) := by
  unfold recTo; rw [h]; simp only; rw [if_neg hz]
theorem rec_len (zs : List Int) : ∀ k, (recTo zs k).1.length ≤ k
  | 0 => Nat.le_refl _
  | k + 1 => by
    have := rec_len zs k
    unfold recTo
    split
    · simp; exact this
    · omega
theorem rec_range {zs : List Int} (h : Ord zs) : ∀ k, k ≤ zs.length → 0 ≤ (recTo zs k).2 ∧ (recTo zs k).2 ≤ 7
  | 0, _ => by simp [recTo]
  | k + 1, hk => by
    have := rec_range h k (by omega)
    obtain ⟨m, h1, h2⟩ := h.getD (k := k) (by omega)
    have := h.2.1
    unfold recTo
    split
    · simp only; omega
    · exact rec_range h k (by omega)

def recAns (zs : List Int) : List Int × Bool := if Ord zs then ((recTo zs zs.length).1, true) else ([], false)

theorem rec_alen {zs xs : List Int} {b : Bool} (h : recAns zs = (xs, b)) : xs.length ≤ 1048576 := by
  unfold recAns at h; split at h
  · rename_i ho; cases h; have := ho.2.1; have := rec_len zs zs.length; omega
  · cases h; simp

/-! ### Blocks -/
/-- The lengths of the blocks so far, where the last one ends, and the greatest number so far. -/
def blkTo (zs : List Int) : Nat → List Int × Nat × Int
  | 0 => ([], 0, 0)
  | k + 1 => let r := blkTo zs k
    let m := max r.2.2 (zs.getD k 0)
    if m = (k : Int) + 1 then (r.1 ++ [(k : Int) + 1 - (r.2.1 : Int)], k + 1, m) else (r.1, r.2.1, m)

theorem blk_yes {zs l : List Int} {k c : Nat} {g m : Int} (h : blkTo zs k = (l, c, g)) (hm : max g (zs.getD k 0) = m) (hz : m = (k : Int) + 1) : blkTo zs (k + 1) = (l ++ [(k : Int) + 1 - (c : Int)], k + 1, m) := by
  unfold blkTo; rw [h]; simp only; rw [hm, if_pos hz]
theorem blk_no {zs l : List Int} {k c : Nat} {g m : Int} (h : blkTo zs k = (l, c, g)) (hm : max g (zs.getD k 0) = m) (hz : ¬ m = (k : Int) + 1) : blkTo zs (k + 1) = (l, c, m) := by
  unfold blkTo; rw [h]; simp only; rw [hm, if_neg hz]
theorem blk_len (zs : List Int) : ∀ k, (blkTo zs k).1.length ≤ k ∧ (blkTo zs k).2.1 ≤ k
  | 0 => ⟨Nat.le_refl _, Nat.le_refl _⟩
  | k + 1 => by
    have := blk_len zs k
    obtain ⟨l, c, g, hr⟩ : ∃ l c g, blkTo zs k = (l, c, g) := ⟨_, _, _, rfl⟩
    obtain ⟨m, hm⟩ : ∃ m, max g (zs.getD k 0) = m := ⟨_, rfl⟩
    rw [hr] at this
    simp only at this
    by_cases hz : m = (k : Int) + 1
    · rw [blk_yes hr hm hz]; simp; omega
    · rw [blk_no hr hm hz]; simp only; omega
theorem blk_range {zs : List Int} (h : Ord zs) : ∀ k, k ≤ zs.length → 0 ≤ (blkTo zs k).2.2 ∧ (blkTo zs k).2.2 ≤ 7
  | 0, _ => by simp [blkTo]
  | k + 1, hk => by
    have ih := blk_range h k (by omega)
    obtain ⟨x, h1, h2⟩ := h.getD (k := k) (by omega)
    have := h.2.1
    obtain ⟨l, c, g, hr⟩ : ∃ l c g, blkTo zs k = (l, c, g) := ⟨_, _, _, rfl⟩
    obtain ⟨m, hm⟩ : ∃ m, max g (zs.getD k 0) = m := ⟨_, rfl⟩
    rw [hr] at ih
    simp only at ih
    have hm2 : 0 ≤ m ∧ m ≤ 7 := by omega
    by_cases hz : m = (k : Int) + 1
    · rw [blk_yes hr hm hz]; exact hm2
    · rw [blk_no hr hm hz]; exact hm2

def blkAns (zs : List Int) : List Int × Bool := if Ord zs then ((blkTo zs zs.length).1, true) else ([], false)

theorem blk_alen {zs xs : List Int} {b : Bool} (h : blkAns zs = (xs, b)) : xs.length ≤ 1048576 := by
  unfold blkAns at h; split at h
  · rename_i ho; cases h; have := ho.2.1; have := (blk_len zs zs.length).1; omega
  · cases h; simp

end Go.Proofs.YtnhhnffolmgceaaGreat.StackM

end

section
namespace Go.Proofs.YtnhhnffolmgceaaGreat.TextC
open Go.RowKit SeesC IntsC ExactC OrdMath OrderC NumC IterC

/-- The digit of a number. -/
def dig (z : Int) : UInt8 := UInt8.ofNat (48 + z.toNat)

def textAns (zs : List Int) : ByteArray × Bool := if Ord zs then (txt (zs.map dig), true) else (ByteArray.empty, false)

/-- The numbers of a text's bytes. -/
def raw (s : ByteArray) : List Int := s.data.toList.map fun c => (c.toNat : Int) - 48

theorem raw_len (s : ByteArray) : (raw s).length = s.size := by unfold raw; rw [List.length_map, Array.length_toList]; rfl

theorem raw_at (s : ByteArray) (k : Nat) (h : k < s.size) : (raw s).getD k 0 = (s[k].toNat : Int) - 48 := by
  have h2 : k < s.data.toList.length := by rw [Array.length_toList]; exact h
  rw [List.getD_eq_getElem?_getD, List.getElem?_eq_getElem (by rw [raw_len]; exact h)]
  simp [raw]
  rfl

def parseAns (s : ByteArray) : List Int × Bool := if s.size ≤ 7 ∧ Ord (raw s) then (raw s, true) else ([], false)

theorem parse_len {s : ByteArray} {xs : List Int} {b : Bool} (h : parseAns s = (xs, b)) : xs.length ≤ 1048576 := by
  unfold parseAns at h; split at h
  · rename_i ho; cases h; rw [raw_len]; omega
  · cases h; simp

theorem isOrd_big {zs : List Int} {z : Int} (hz : z ∈ zs) (h : 7 < z) : isOrd zs = false := by
  unfold isOrd; rw [decide_eq_false_iff_not]; rintro ⟨_, h2, h3, _⟩; have := (h3 z hz).2; omega

theorem dig_nat (u : Nat) (h : u < 10) : (dig (u : Int)).toNat = 48 + u := by
  unfold dig; rw [Int.toNat_natCast, UInt8.toNat_ofNat']; omega

theorem Ord.getN {zs : List Int} (h : OrdMath.Ord zs) {k : Nat} (hk : k < zs.length) : ∃ u : Nat, zs.getD k 0 = (u : Int) ∧ 1 ≤ u ∧ u ≤ 7 := by
  obtain ⟨m, h1, h2⟩ := h.getD hk
  exact ⟨m + 1, by rw [h1]; simp, by omega, by have := h.2.1; omega⟩

/-- What the program reads off a text. -/
def ReadTo (s : ByteArray) (W : World) (e : Ending) (w' : World) : Prop :=
  ∃ (g k c : Nat) (acc : List Int), e = .returned (.slice (some ⟨g, 0, none⟩) k c) ∧ acc.length = k ∧ k ≤ s.size ∧ w'.ownsRow W.heap.size 3 1 (.slice (some ⟨g, 0, none⟩) k c) k (vals acc) ∧ Below W.heap.size W w' ∧ (acc = raw s ∨ ((∃ p, ∃ hp : p < s.size, 128 ≤ (s[p]'hp).toNat) ∧ isOrd (raw s) = false ∧ ∃ z ∈ acc, 7 < z))

end Go.Proofs.YtnhhnffolmgceaaGreat.TextC

end

section
namespace Go.Proofs.YtnhhnffolmgceaaGreat.WordsOfC
open Go.RowKit SeesC IntsC ExactC NumC IterC WordMath InC WordC WordsC

end Go.Proofs.YtnhhnffolmgceaaGreat.WordsOfC

end
