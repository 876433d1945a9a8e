/-
  A text split at a byte, as a walk from the left. Conditions: none. Plain mathematics: nothing of the program.
-/
namespace Go.Proofs.Ytecbfoodkcgehab.SplitMath

/-- The parts that are whole when k bytes are through, and where the next one begins. -/
def partsTo (s : ByteArray) (c : UInt8) : Nat → List ByteArray × Nat
  | 0 => ([], 0)
  | k + 1 => if s.data.toList[k]? = some c then ((partsTo s c k).1 ++ [s.extract (partsTo s c k).2 k], k + 1) else partsTo s c k

/-- All parts. -/
def split (s : ByteArray) (c : UInt8) : List ByteArray := (partsTo s c s.size).1 ++ [s.extract (partsTo s c s.size).2 s.size]

theorem get_data (s : ByteArray) (k : Nat) (h : k < s.size) : s.data.toList[k]? = some s[k] := by
  rw [List.getElem?_eq_getElem (by simpa using h)]; rfl

theorem parts_hit {s : ByteArray} {c : UInt8} {k : Nat} (h : k < s.size) (e : s[k] = c) : partsTo s c (k + 1) = ((partsTo s c k).1 ++ [s.extract (partsTo s c k).2 k], k + 1) := by
  rw [partsTo, if_pos (by rw [get_data s k h, e])]

theorem parts_miss {s : ByteArray} {c : UInt8} {k : Nat} (h : k < s.size) (e : s[k] ≠ c) : partsTo s c (k + 1) = partsTo s c k := by
  rw [partsTo, if_neg (by rw [get_data s k h]; simpa using e)]

theorem from_le (s : ByteArray) (c : UInt8) (k : Nat) : (partsTo s c k).2 ≤ k := by
  induction k with
  | zero => exact Nat.le_refl _
  | succ k ih =>
    rw [partsTo]
    split
    · exact Nat.le_refl _
    · omega

theorem parts_len (s : ByteArray) (c : UInt8) (k : Nat) : (partsTo s c k).1.length ≤ k := by
  induction k with
  | zero => exact Nat.le_refl _
  | succ k ih =>
    rw [partsTo]
    split
    · simp; omega
    · omega

theorem split_len (s : ByteArray) (c : UInt8) : (split s c).length ≤ s.size + 1 := by
  have := parts_len s c s.size
  unfold split; simp; omega

end Go.Proofs.Ytecbfoodkcgehab.SplitMath
