/-
  Contracts: the model and the program find the word that leads from an order to another. Conditions: lists of at most 2^20 numbers.
-/
import Derived.Test.YtecbfoodkcgehaaRun
import Derived.BigQuiet
import Derived.IntWalk
import Derived.Deep.QuietTactic
namespace Go.Proofs.Ytecbfoodkcgehaa.ToC
open Go.RowKit SeesC IntsC ExactC NumC IterC OrdMath WordMath InC OrderC WordC RunC

/-- The signs by which an order is reached: place i of it is sought, the stack is st, x numbers have been pushed. -/
def goTo (zs ts : List Int) : Nat → Nat → List Int → Nat → List UInt8 → Option (List UInt8)
  | 0, _, _, _, _ => none
  | f + 1, i, st, x, acc =>
    if i < ts.length then
      if st.getLast? = some (ts.getD i 0) then goTo zs ts f (i + 1) st.dropLast x (acc ++ [79])
      else if x < zs.length then goTo zs ts f i (st ++ [zs.getD x 0]) (x + 1) (acc ++ [73])
      else none
    else some acc

def toRes (zs ts : List Int) : Option (List UInt8) := goTo zs ts (zs.length + zs.length + 1) 0 [] 0 []

def optAns (o : Option (List UInt8)) : ByteArray × Bool := match o with | some l => (txt l, true) | none => (ByteArray.empty, false)

def toAns (zs ts : List Int) : ByteArray × Bool := if Ord zs ∧ Ord ts ∧ zs.length = ts.length then optAns (toRes zs ts) else (ByteArray.empty, false)

/-- What is known in the midst of the search. -/
def Mid (zs ts : List Int) (R : Option (List UInt8)) (i : Nat) (st : List Int) (x : Nat) (acc : List UInt8) : Prop :=
  goTo zs ts ((ts.length - i) + (zs.length - x) + 1) i st x acc = R ∧ i + st.length = x ∧ x ≤ zs.length ∧ i ≤ ts.length ∧ acc.length = i + x

theorem mid_start (zs ts : List Int) (h : zs.length = ts.length) : Mid zs ts (toRes zs ts) 0 [] 0 [] := ⟨by rw [← h]; rfl, rfl, Nat.zero_le _, Nat.zero_le _, rfl⟩

theorem mid_end {zs ts : List Int} {R : Option (List UInt8)} {i x : Nat} {st : List Int} {acc : List UInt8} (h : Mid zs ts R i st x acc) (hi : ¬ i < ts.length) : R = some acc := by
  rw [← h.1]; simp [goTo, hi]

theorem mid_pop {zs ts : List Int} {R : Option (List UInt8)} {i x : Nat} {st : List Int} {acc : List UInt8} (h : Mid zs ts R i st x acc) (hi : i < ts.length) (ht : st.getLast? = some (ts.getD i 0)) : Mid zs ts R (i + 1) st.dropLast x (acc ++ [79]) := by
  obtain ⟨h1, h2, h3, h4, h5⟩ := h
  have hl : 0 < st.length := by cases st with | nil => simp at ht | cons a b => simp
  refine ⟨?_, by simp; omega, h3, by omega, by simp; omega⟩
  rw [← h1]
  have e : (ts.length - i) + (zs.length - x) + 1 = ((ts.length - (i + 1)) + (zs.length - x) + 1) + 1 := by omega
  rw [e]
  conv => rhs; unfold goTo
  rw [if_pos hi, if_pos ht]

theorem mid_push {zs ts : List Int} {R : Option (List UInt8)} {i x : Nat} {st : List Int} {acc : List UInt8} (h : Mid zs ts R i st x acc) (hi : i < ts.length) (ht : st.getLast? ≠ some (ts.getD i 0)) (hx : x < zs.length) : Mid zs ts R i (st ++ [zs.getD x 0]) (x + 1) (acc ++ [73]) := by
  obtain ⟨h1, h2, h3, h4, h5⟩ := h
  refine ⟨?_, by simp; omega, by omega, h4, by simp; omega⟩
  rw [← h1]
  have e : (ts.length - i) + (zs.length - x) + 1 = ((ts.length - i) + (zs.length - (x + 1)) + 1) + 1 := by omega
  rw [e]
  conv => rhs; unfold goTo
  rw [if_pos hi, if_neg ht, if_pos hx]

theorem mid_fail {zs ts : List Int} {R : Option (List UInt8)} {i x : Nat} {st : List Int} {acc : List UInt8} (h : Mid zs ts R i st x acc) (hi : i < ts.length) (ht : st.getLast? ≠ some (ts.getD i 0)) (hx : ¬ x < zs.length) : R = none := by
  rw [← h.1]
  unfold goTo
  rw [if_pos hi, if_neg ht, if_neg hx]

end Go.Proofs.Ytecbfoodkcgehaa.ToC
