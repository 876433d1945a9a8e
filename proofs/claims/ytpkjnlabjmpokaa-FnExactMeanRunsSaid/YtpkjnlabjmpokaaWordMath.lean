/-
  The mathematics of words: what a word is, its depth, what comes out by it, and the word that leads to an order. Conditions: none. Plain facts on texts and lists: nothing of the program.
-/
import Derived.Lib.Hide
namespace Go.Proofs.Ytpkjnlabjmpokaa.WordMath

/-- The byte at a place. -/
def byt (w : ByteArray) (k : Nat) : UInt8 := w.data.toList.getD k 0

theorem byt_at (w : ByteArray) (k : Nat) (h : k < w.size) : byt w k = w[k] := by
  have h2 : k < w.data.toList.length := by rw [Array.length_toList]; exact h
  unfold byt
  rw [List.getD_eq_getElem?_getD, List.getElem?_eq_getElem h2]
  simp
  rfl

/-- One sign. -/
def stepOf (c : UInt8) (d : Nat) : Option Nat := if c = 73 then some (d + 1) else if c = 79 ∧ 0 < d then some (d - 1) else none

/-- How many numbers are on the stack behind the first signs. -/
def heldTo (w : ByteArray) : Nat → Option Nat
  | 0 => some 0
  | k + 1 => (heldTo w k).bind (stepOf (byt w k))

theorem held_I {w : ByteArray} {k d : Nat} (h : heldTo w k = some d) (hc : byt w k = 73) : heldTo w (k + 1) = some (d + 1) := by
  simp [heldTo, h, stepOf, hc]

theorem held_O {w : ByteArray} {k d : Nat} (h : heldTo w k = some d) (hc : byt w k = 79) (hd : 0 < d) : heldTo w (k + 1) = some (d - 1) := by
  simp [heldTo, h, stepOf, hc, hd]

theorem held_bad {w : ByteArray} {k d : Nat} (h : heldTo w k = some d) (h1 : byt w k ≠ 73) (h2 : ¬ (byt w k = 79 ∧ 0 < d)) : heldTo w (k + 1) = none := by
  simp [heldTo, h, stepOf, h1, h2]

theorem held_none {w : ByteArray} {k : Nat} (h : heldTo w k = none) : ∀ m, heldTo w (k + m) = none
  | 0 => h
  | m + 1 => by show (heldTo w (k + m)).bind _ = none; rw [held_none h m]; rfl

theorem held_cases {w : ByteArray} {k e : Nat} (h : heldTo w (k + 1) = some e) : ∃ d, heldTo w k = some d ∧ ((byt w k = 73 ∧ e = d + 1) ∨ (byt w k = 79 ∧ 0 < d ∧ e = d - 1)) := by
  cases hk : heldTo w k with
  | none => simp [heldTo, hk] at h
  | some d =>
    refine ⟨d, rfl, ?_⟩
    by_cases h1 : byt w k = 73
    · rw [held_I hk h1] at h; cases h; exact .inl ⟨h1, rfl⟩
    · by_cases h2 : byt w k = 79 ∧ 0 < d
      · rw [held_O hk h2.1 h2.2] at h; cases h; exact .inr ⟨h2.1, h2.2, rfl⟩
      · rw [held_bad hk h1 h2] at h; cases h

theorem held_back {w : ByteArray} : ∀ (m k e : Nat), heldTo w (k + m) = some e → ∃ d, heldTo w k = some d ∧ d ≤ e + m ∧ e ≤ d + m
  | 0, k, e, h => ⟨e, h, by omega, by omega⟩
  | m + 1, k, e, h => by
    obtain ⟨d, hd, hc⟩ := held_cases (k := k + m) h
    obtain ⟨c, h1, h2, h3⟩ := held_back m k d hd
    exact ⟨c, h1, by rcases hc with ⟨_, rfl⟩ | ⟨_, _, rfl⟩ <;> omega, by rcases hc with ⟨_, rfl⟩ | ⟨_, _, rfl⟩ <;> omega⟩

theorem held_parity {w : ByteArray} : ∀ (k d : Nat), heldTo w k = some d → d % 2 = k % 2 ∧ d ≤ k
  | 0, d, h => by cases h; exact ⟨rfl, Nat.le_refl _⟩
  | k + 1, e, h => by
    obtain ⟨d, hd, hc⟩ := held_cases h
    have := held_parity k d hd
    rcases hc with ⟨_, rfl⟩ | ⟨_, _, rfl⟩ <;> omega

/-- A text is a word. -/
def Word (w : ByteArray) : Prop := 2 ≤ w.size ∧ w.size ≤ 14 ∧ heldTo w w.size = some 0

instance (w : ByteArray) : Decidable (Word w) := by unfold Word; infer_instance

def isWord (w : ByteArray) : Bool := decide (Word w)

theorem word_even {w : ByteArray} (h : Word w) : w.size = 2 * (w.size / 2) := by
  have := (held_parity _ _ h.2.2).1; omega

theorem word_bad {w : ByteArray} {k : Nat} (hk : k ≤ w.size) (h : heldTo w k = none) : isWord w = false := by
  unfold isWord; rw [decide_eq_false_iff_not]; rintro ⟨_, _, h3⟩
  obtain ⟨m, hm⟩ : ∃ m, w.size = k + m := ⟨w.size - k, by omega⟩
  rw [hm, held_none h m] at h3
  cases h3

theorem word_ends {w : ByteArray} {d : Nat} (h : heldTo w w.size = some d) (hd : d ≠ 0) : isWord w = false := by
  unfold isWord; rw [decide_eq_false_iff_not]; rintro ⟨_, _, h3⟩; rw [h] at h3; cases h3; exact hd rfl

theorem word_size {w : ByteArray} (h : w.size = 0 ∨ 14 < w.size) : isWord w = false := by
  unfold isWord; rw [decide_eq_false_iff_not]; rintro ⟨h1, h2, _⟩; omega

theorem word_yes {w : ByteArray} (h : heldTo w w.size = some 0) (h0 : w.size ≠ 0) (h14 : w.size ≤ 14) : isWord w = true := by
  unfold isWord; rw [decide_eq_true_iff]
  have := (held_parity _ _ h).1
  exact ⟨by omega, h14, h⟩

/-- In a word each sign is a push or a pop of what is there. -/
theorem Word.at {w : ByteArray} (h : Word w) {k : Nat} (hk : k < w.size) : ∃ d, heldTo w k = some d ∧ d ≤ w.size - k ∧ d ≤ k ∧ ((byt w k = 73 ∧ heldTo w (k + 1) = some (d + 1) ∧ d + 1 ≤ w.size - (k + 1)) ∨ (byt w k = 79 ∧ 0 < d ∧ heldTo w (k + 1) = some (d - 1))) := by
  obtain ⟨m, hm⟩ : ∃ m, w.size = (k + 1) + m := ⟨w.size - (k + 1), by omega⟩
  have h3 := h.2.2
  rw [hm] at h3
  obtain ⟨e, he, h1, h2⟩ := held_back m (k + 1) 0 h3
  obtain ⟨d, hd, hc⟩ := held_cases he
  have hp := held_parity _ _ hd
  refine ⟨d, hd, by rcases hc with ⟨_, rfl⟩ | ⟨_, _, rfl⟩ <;> omega, hp.2, ?_⟩
  rcases hc with ⟨h4, rfl⟩ | ⟨h4, h5, rfl⟩
  · exact .inl ⟨h4, he, by omega⟩
  · exact .inr ⟨h4, h5, he⟩

/-- The depth of the first signs. -/
def depthTo (w : ByteArray) : Nat → Nat
  | 0 => 0
  | k + 1 => max (depthTo w k) ((heldTo w (k + 1)).getD 0)

theorem depth_next {w : ByteArray} {k e : Nat} (h : heldTo w (k + 1) = some e) : depthTo w (k + 1) = max (depthTo w k) e := by simp [depthTo, h]

theorem depth_le {w : ByteArray} : ∀ k, depthTo w k ≤ k
  | 0 => Nat.le_refl _
  | k + 1 => by
    have := depth_le (w := w) k
    cases hk : heldTo w (k + 1) with
    | none => simp [depthTo, hk]; omega
    | some e => rw [depth_next hk]; have := (held_parity _ _ hk).2; omega

def depthAns (w : ByteArray) : Int × Bool := if Word w then ((depthTo w w.size : Nat), true) else (0, false)

/-- The other sign. -/
def mir (c : UInt8) : UInt8 := if c = 73 then 79 else 73

def mirList (w : ByteArray) : List UInt8 := w.data.toList.reverse.map mir

theorem mirList_len (w : ByteArray) : (mirList w).length = w.size := by unfold mirList; rw [List.length_map, List.length_reverse, Array.length_toList]; rfl

theorem mirList_at (w : ByteArray) (k : Nat) (h : k < w.size) : (mirList w)[w.size - 1 - k]'(by rw [mirList_len]; omega) = mir (byt w k) := by
  have h2 : k < w.data.toList.length := by rw [Array.length_toList]; exact h
  have hl : w.data.toList.length = w.size := by rw [Array.length_toList]; rfl
  unfold mirList byt
  rw [List.getElem_map, List.getElem_reverse, List.getD_eq_getElem?_getD, List.getElem?_eq_getElem h2, Option.getD_some]
  congr 2
  omega

/-- What has come out, what is on the stack, and how many have been pushed, behind the first signs. -/
def runTo (zs : List Int) (w : ByteArray) : Nat → List Int × List Int × Nat
  | 0 => ([], [], 0)
  | k + 1 => let r := runTo zs w k
    if byt w k = 73 then (r.1, r.2.1 ++ [zs.getD r.2.2 0], r.2.2 + 1) else (r.1 ++ [r.2.1.getLast?.getD 0], r.2.1.dropLast, r.2.2)

theorem run_I {zs o s : List Int} {x : Nat} {w : ByteArray} {k : Nat} (h : runTo zs w k = (o, s, x)) (hc : byt w k = 73) : runTo zs w (k + 1) = (o, s ++ [zs.getD x 0], x + 1) := by
  simp [runTo, h, hc]

theorem run_O {zs o s : List Int} {x : Nat} {w : ByteArray} {k : Nat} (h : runTo zs w k = (o, s, x)) (hc : byt w k = 79) : runTo zs w (k + 1) = (o ++ [s.getLast?.getD 0], s.dropLast, x) := by
  simp [runTo, h, hc]

theorem run_len {zs : List Int} {w : ByteArray} : ∀ (k d : Nat), heldTo w k = some d → (runTo zs w k).2.1.length = d ∧ (runTo zs w k).1.length + d = (runTo zs w k).2.2 ∧ (runTo zs w k).1.length + (runTo zs w k).2.2 = k
  | 0, d, h => by cases h; exact ⟨rfl, rfl, rfl⟩
  | k + 1, e, h => by
    obtain ⟨d, hd, hc⟩ := held_cases h
    have ih := run_len (zs := zs) k d hd
    obtain ⟨o, s, x, hr⟩ : ∃ o s x, runTo zs w k = (o, s, x) := ⟨_, _, _, rfl⟩
    rw [hr] at ih
    simp only at ih
    rcases hc with ⟨h1, rfl⟩ | ⟨h1, h2, rfl⟩
    · rw [run_I hr h1]; simp; omega
    · rw [run_O hr h1]; simp; omega

def runOut (zs : List Int) (w : ByteArray) : List Int := (runTo zs w w.size).1

end Go.Proofs.Ytpkjnlabjmpokaa.WordMath
