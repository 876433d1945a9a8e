/-
  Contracts and plain facts that the laws' texts lean on. Conditions: as each states.
-/

section
namespace Go.Proofs.YtnhhnffolmgceabGreat.StrsMath

/-- The bytes of a list of texts together. -/
def total (ss : List ByteArray) : Int := ((ss.map fun s => (s.size : Int)).sum : Int)

theorem total_cons (s : ByteArray) (ss : List ByteArray) : total (s :: ss) = (s.size : Int) + total ss := rfl

theorem total_append (a b : List ByteArray) : total (a ++ b) = total a + total b := by
  unfold total; rw [List.map_append, List.sum_append]

theorem total_snoc (ss : List ByteArray) (s : ByteArray) : total (ss ++ [s]) = total ss + (s.size : Int) := by
  unfold total; simp

theorem total_take (ss : List ByteArray) (k : Nat) (h : k < ss.length) : total (ss.take (k + 1)) = total (ss.take k) + (ss[k].size : Int) := by
  rw [List.take_succ_eq_append_getElem h]; exact total_snoc _ _

theorem total_nonneg (ss : List ByteArray) : 0 ≤ total ss := by
  induction ss with
  | nil => exact Int.le_refl _
  | cons s ss ih => unfold total at *; simp; omega

theorem total_take_le (ss : List ByteArray) (k : Nat) : total (ss.take k) ≤ total ss := by
  have h2 := total_append (ss.take k) (ss.drop k)
  rw [List.take_append_drop] at h2
  have := total_nonneg (ss.drop k)
  omega

theorem total_mem {ss : List ByteArray} {s : ByteArray} (h : s ∈ ss) : (s.size : Int) ≤ total ss := by
  induction ss with
  | nil => cases h
  | cons x ss ih =>
    have := total_nonneg ss
    rw [total_cons]
    rcases List.mem_cons.1 h with rfl | h
    · omega
    · have := ih h; omega

/-- What is left of the room. -/
def roomOf (left n t : Int) : Int := if left - n - t < 0 then -1 else left - n - t

end Go.Proofs.YtnhhnffolmgceabGreat.StrsMath

end

section
namespace Go.Proofs.YtnhhnffolmgceabGreat.SplitMath

/-- The parts that are whole when k bytes are through, and where the next one begins. -/
def partsTo (s : ByteArray) (c : UInt8) : Nat → List ByteArray × Nat
  | 0 => ([], 0)
  | k + 1 => if s.data.toList[k]? = some c then ((partsTo s c k).1 ++ [s.extract (partsTo s c k).2 k], k + 1) else partsTo s c k

/-- All parts. -/
def split (s : ByteArray) (c : UInt8) : List ByteArray := (partsTo s c s.size).1 ++ [s.extract (partsTo s c s.size).2 s.size]

theorem get_data (s : ByteArray) (k : Nat) (h : k < s.size) : s.data.toList[k]? = some s[k] := by
  rw [List.getElem?_eq_getElem (by simpa using h)]; rfl

theorem parts_hit {s : ByteArray} {c : UInt8} {k : Nat} (h : k < s.size) (e : s[k] = c) : partsTo s c (k + 1) = ((partsTo s c k).1 ++ [s.extract (partsTo s c k).2 k], k + 1) := by
  rw [partsTo, if_pos (by rw [get_data s k h, e])]

theorem parts_miss {s : ByteArray} {c : UInt8} {k : Nat} (h : k < s.size) (e : s[k] ≠ c) : partsTo s c (k + 1) = partsTo s c k := by
  rw [partsTo, if_neg (by rw [get_data s k h]; simpa using e)]

theorem from_le (s : ByteArray) (c : UInt8) (k : Nat) : (partsTo s c k).2 ≤ k := by
  induction k with
  | zero => exact Nat.le_refl _
  | succ k ih =>
    rw [partsTo]
    split
    · exact Nat.le_refl _
    · omega

theorem parts_len (s : ByteArray) (c : UInt8) (k : Nat) : (partsTo s c k).1.length ≤ k := by
  induction k with
  | zero => exact Nat.le_refl _
  | succ k ih =>
    rw [partsTo]
    split
    · simp; omega
    · omega

theorem split_len (s : ByteArray) (c : UInt8) : (split s c).length ≤ s.size + 1 := by
  have := parts_len s c s.size
  unfold split; simp; omega

end Go.Proofs.YtnhhnffolmgceabGreat.SplitMath

end
