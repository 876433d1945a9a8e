/-
  The mathematics of ends words: what an ends word is, its word, and the ends word that leads to an order. Conditions: none. Plain facts on texts and lists: nothing of the program.
-/
import Derived.Test.YteiocoahllnoeaaDoorWordMath
namespace Go.Proofs.YteiocoahllnoeaaDoor.EndM
open WordMath

/-- A pop's sign becomes an O. -/
def stk (c : UInt8) : UInt8 := if c = 84 ∨ c = 66 then 79 else c

def eStep (c : UInt8) (d : Nat) : Option Nat := if c = 73 then some (d + 1) else if (c = 84 ∨ c = 66) ∧ 0 < d then some (d - 1) else none

/-- How many numbers are there behind the first signs. -/
def eTo (w : ByteArray) : Nat → Option Nat
  | 0 => some 0
  | k + 1 => (eTo w k).bind (eStep (byt w k))

/-- A text is an ends word. -/
def EWord (w : ByteArray) : Prop := 2 ≤ w.size ∧ w.size ≤ 14 ∧ eTo w w.size = some 0

instance (w : ByteArray) : Decidable (EWord w) := by unfold EWord; infer_instance

def isEW (w : ByteArray) : Bool := decide (EWord w)

theorem eto_I {w : ByteArray} {k d : Nat} (h : eTo w k = some d) (hc : byt w k = 73) : eTo w (k + 1) = some (d + 1) := by
  simp [eTo, h, eStep, hc]

theorem eto_P {w : ByteArray} {k d : Nat} (h : eTo w k = some d) (hc : byt w k = 84 ∨ byt w k = 66) (hd : 0 < d) : eTo w (k + 1) = some (d - 1) := by
  have : byt w k ≠ 73 := by rcases hc with h | h <;> rw [h] <;> decide
  simp [eTo, h, eStep, this, hc, hd]

theorem eto_bad {w : ByteArray} {k d : Nat} (h : eTo w k = some d) (h1 : byt w k ≠ 73) (h2 : ¬ ((byt w k = 84 ∨ byt w k = 66) ∧ 0 < d)) : eTo w (k + 1) = none := by
  simp only [eTo, h, Option.bind_some, eStep, if_neg h1, if_neg h2]

theorem eto_none {w : ByteArray} {k : Nat} (h : eTo w k = none) : ∀ m, eTo w (k + m) = none
  | 0 => h
  | m + 1 => by show (eTo w (k + m)).bind _ = none; rw [eto_none h m]; rfl

theorem eto_cases {w : ByteArray} {k e : Nat} (h : eTo w (k + 1) = some e) : ∃ d, eTo w k = some d ∧ ((byt w k = 73 ∧ e = d + 1) ∨ ((byt w k = 84 ∨ byt w k = 66) ∧ 0 < d ∧ e = d - 1)) := by
  cases hk : eTo w k with
  | none => simp [eTo, hk] at h
  | some d =>
    refine ⟨d, rfl, ?_⟩
    by_cases h1 : byt w k = 73
    · rw [eto_I hk h1] at h; cases h; exact .inl ⟨h1, rfl⟩
    · by_cases h2 : (byt w k = 84 ∨ byt w k = 66) ∧ 0 < d
      · rw [eto_P hk h2.1 h2.2] at h; cases h; exact .inr ⟨h2.1, h2.2, rfl⟩
      · rw [eto_bad hk h1 h2] at h; cases h

theorem eto_le {w : ByteArray} : ∀ (k d : Nat), eTo w k = some d → d ≤ k
  | 0, d, h => by cases h; exact Nat.le_refl _
  | k + 1, e, h => by
    obtain ⟨d, hd, hc⟩ := eto_cases h
    have := eto_le k d hd
    rcases hc with ⟨_, rfl⟩ | ⟨_, _, rfl⟩ <;> omega

def stkB (w : ByteArray) : ByteArray := ⟨(w.data.toList.map stk).toArray⟩

theorem stkB_size (w : ByteArray) : (stkB w).size = w.size := by
  show ((w.data.toList.map stk).toArray).size = w.data.size
  simp

theorem stkB_byt (w : ByteArray) (k : Nat) (h : k < w.size) : byt (stkB w) k = stk (byt w k) := by
  have h2 : k < w.data.toList.length := by rw [Array.length_toList]; exact h
  show ((w.data.toList.map stk).toArray).toList.getD k 0 = stk (w.data.toList.getD k 0)
  rw [List.getD_eq_getElem?_getD, List.getD_eq_getElem?_getD, List.getElem?_eq_getElem h2]
  simp only [List.getElem?_map, List.getElem?_eq_getElem h2, Option.map_some, Option.getD_some]

theorem stk_I (c : UInt8) : stk c = 73 ↔ c = 73 := by
  unfold stk; constructor
  · intro h; split at h
    · cases h
    · exact h
  · rintro rfl; rfl
theorem stk_O {c : UInt8} (hc : c ≠ 79) : stk c = 79 ↔ (c = 84 ∨ c = 66) := by
  unfold stk; constructor
  · intro h; split at h
    · assumption
    · exact absurd h hc
  · intro h; rw [if_pos h]

theorem eto_held {w : ByteArray} : ∀ k, k ≤ w.size → (∀ j, j < k → byt w j ≠ 79) → eTo w k = heldTo (stkB w) k
  | 0, _, _ => rfl
  | k + 1, hk, h => by
    have ih := eto_held k (by omega) (fun j hj => h j (by omega))
    have hc := h k (by omega)
    show (eTo w k).bind (eStep (byt w k)) = (heldTo (stkB w) k).bind (stepOf (byt (stkB w) k))
    rw [ih, stkB_byt w k (by omega)]
    congr 1
    funext d
    unfold eStep stepOf
    by_cases h1 : byt w k = 73
    · rw [if_pos h1, if_pos ((stk_I _).2 h1)]
    · rw [if_neg h1, if_neg (fun h => h1 ((stk_I _).1 h))]
      simp only [stk_O hc]

theorem ew_no79 {w : ByteArray} (h : eTo w w.size = some 0) : ∀ j, j < w.size → byt w j ≠ 79 := by
  intro j hj e
  have hn : eTo w (j + 1) = none := by
    show (eTo w j).bind (eStep (byt w j)) = none
    rw [e]
    cases eTo w j <;> rfl
  obtain ⟨m, hm⟩ : ∃ m, w.size = (j + 1) + m := ⟨w.size - (j + 1), by omega⟩
  rw [hm, eto_none hn m] at h
  cases h

theorem eword_iff (w : ByteArray) : EWord w ↔ (∀ j, j < w.size → byt w j ≠ 79) ∧ Word (stkB w) := by
  unfold EWord Word
  rw [stkB_size]
  constructor
  · rintro ⟨h1, h2, h3⟩
    have h4 := ew_no79 h3
    exact ⟨h4, h1, h2, by rw [← eto_held _ (Nat.le_refl _) h4]; exact h3⟩
  · rintro ⟨h4, h1, h2, h3⟩
    exact ⟨h1, h2, by rw [eto_held _ (Nat.le_refl _) h4]; exact h3⟩

theorem EWord.even {w : ByteArray} (h : EWord w) : w.size = 2 * (w.size / 2) := by
  have := word_even ((eword_iff w).1 h).2; rw [stkB_size] at this; exact this

/-! ### The ends word that leads to an order -/

/-- The signs by which an order is reached: place i of it is sought, st is there, x numbers have been pushed. -/
def goE (zs ts : List Int) : Nat → Nat → List Int → Nat → List UInt8 → Option (List UInt8)
  | 0, _, _, _, _ => none
  | f + 1, i, st, x, acc =>
    if i < ts.length then
      if st.getLast? = some (ts.getD i 0) then goE zs ts f (i + 1) st.dropLast x (acc ++ [84])
      else if st.head? = some (ts.getD i 0) then goE zs ts f (i + 1) st.tail x (acc ++ [66])
      else if x < zs.length then goE zs ts f i (st ++ [zs.getD x 0]) (x + 1) (acc ++ [73])
      else none
    else some acc

def eRes (zs ts : List Int) : Option (List UInt8) := goE zs ts (zs.length + zs.length + 1) 0 [] 0 []

/-- What is known in the midst of the search. -/
def MidE (zs ts : List Int) (R : Option (List UInt8)) (i : Nat) (st : List Int) (x : Nat) (acc : List UInt8) : Prop :=
  goE zs ts ((ts.length - i) + (zs.length - x) + 1) i st x acc = R ∧ i + st.length = x ∧ x ≤ zs.length ∧ i ≤ ts.length ∧ acc.length = i + x

theorem midE_start (zs ts : List Int) (h : zs.length = ts.length) : MidE zs ts (eRes zs ts) 0 [] 0 [] := ⟨by rw [← h]; rfl, rfl, Nat.zero_le _, Nat.zero_le _, rfl⟩

section
variable {zs ts : List Int} {R : Option (List UInt8)} {i x : Nat} {st : List Int} {acc : List UInt8}
theorem midE_end (h : MidE zs ts R i st x acc) (hi : ¬ i < ts.length) : R = some acc := by
  rw [← h.1]; simp [goE, hi]

theorem midE_top (h : MidE zs ts R i st x acc) (hi : i < ts.length) (ht : st.getLast? = some (ts.getD i 0)) : MidE zs ts R (i + 1) st.dropLast x (acc ++ [84]) := by
  obtain ⟨h1, h2, h3, h4, h5⟩ := h
  have hl : 0 < st.length := by cases st with | nil => simp at ht | cons a b => simp
  refine ⟨?_, by simp; omega, h3, by omega, by simp; omega⟩
  rw [← h1]
  have e : (ts.length - i) + (zs.length - x) + 1 = ((ts.length - (i + 1)) + (zs.length - x) + 1) + 1 := by omega
  rw [e]
  conv => rhs; unfold goE
  rw [if_pos hi, if_pos ht]

theorem midE_bot (h : MidE zs ts R i st x acc) (hi : i < ts.length) (ht : st.getLast? ≠ some (ts.getD i 0)) (hb : st.head? = some (ts.getD i 0)) : MidE zs ts R (i + 1) st.tail x (acc ++ [66]) := by
  obtain ⟨h1, h2, h3, h4, h5⟩ := h
  have hl : 0 < st.length := by cases st with | nil => simp at hb | cons a b => simp
  refine ⟨?_, by simp; omega, h3, by omega, by simp; omega⟩
  rw [← h1]
  have e : (ts.length - i) + (zs.length - x) + 1 = ((ts.length - (i + 1)) + (zs.length - x) + 1) + 1 := by omega
  rw [e]
  conv => rhs; unfold goE
  rw [if_pos hi, if_neg ht, if_pos hb]

theorem midE_push (h : MidE zs ts R i st x acc) (hi : i < ts.length) (ht : st.getLast? ≠ some (ts.getD i 0)) (hb : st.head? ≠ some (ts.getD i 0)) (hx : x < zs.length) : MidE zs ts R i (st ++ [zs.getD x 0]) (x + 1) (acc ++ [73]) := by
  obtain ⟨h1, h2, h3, h4, h5⟩ := h
  refine ⟨?_, by simp; omega, by omega, h4, by simp; omega⟩
  rw [← h1]
  have e : (ts.length - i) + (zs.length - x) + 1 = ((ts.length - i) + (zs.length - (x + 1)) + 1) + 1 := by omega
  rw [e]
  conv => rhs; unfold goE
  rw [if_pos hi, if_neg ht, if_neg hb, if_pos hx]

theorem midE_fail (h : MidE zs ts R i st x acc) (hi : i < ts.length) (ht : st.getLast? ≠ some (ts.getD i 0)) (hb : st.head? ≠ some (ts.getD i 0)) (hx : ¬ x < zs.length) : R = none := by
  rw [← h.1]
  unfold goE
  rw [if_pos hi, if_neg ht, if_neg hb, if_neg hx]
end

/-- What is found has as many signs as both orders have numbers. -/
theorem goE_len {zs ts : List Int} : ∀ (f i : Nat) (st : List Int) (x : Nat) (acc l : List UInt8), goE zs ts f i st x acc = some l → acc.length ≤ i + x → i ≤ ts.length → x ≤ zs.length → l.length ≤ ts.length + zs.length
  | 0, _, _, _, _, _, h, _, _, _ => by simp [goE] at h
  | f + 1, i, st, x, acc, l, h, h1, h2, h3 => by
    unfold goE at h
    split at h
    · split at h
      · exact goE_len f _ _ _ _ _ h (by simp; omega) (by omega) h3
      · split at h
        · exact goE_len f _ _ _ _ _ h (by simp; omega) (by omega) h3
        · split at h
          · exact goE_len f _ _ _ _ _ h (by simp; omega) h2 (by omega)
          · cases h
    · cases h; omega

end Go.Proofs.YteiocoahllnoeaaDoor.EndM
