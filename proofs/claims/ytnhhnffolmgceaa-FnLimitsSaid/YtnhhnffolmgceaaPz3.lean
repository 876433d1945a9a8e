/-
  The bytes of a list of texts together. Conditions: none. Plain mathematics: nothing of the program.
-/

namespace Go.Proofs.Ytnhhnffolmgceaa.StrsMath

/-- The bytes of a list of texts together. -/
def total (ss : List ByteArray) : Int := ((ss.map fun s => (s.size : Int)).sum : Int)

theorem total_cons (s : ByteArray) (ss : List ByteArray) : total (s :: ss) = (s.size : Int) + total ss := rfl

theorem total_append (a b : List ByteArray) : total (a ++ b) = total a + total b := by
  unfold total; rw [List.map_append, List.sum_append]

theorem total_snoc (ss : List ByteArray) (s : ByteArray) : total (ss ++ [s]) = total ss + (s.size : Int) := by
  unfold total; simp

theorem total_take (ss : List ByteArray) (k : Nat) (h : k < ss.length) : total (ss.take (k + 1)) = total (ss.take k) + (ss[k].size : Int) := by
  rw [List.take_succ_eq_append_getElem h]; exact total_snoc _ _

theorem total_nonneg (ss : List ByteArray) : 0 ≤ total ss := by
  induction ss with
  | nil => exact Int.le_refl _
  | cons s ss ih => unfold total at *; simp; omega

theorem total_take_le (ss : List ByteArray) (k : Nat) : total (ss.take k) ≤ total ss := by
  have h2 := total_append (ss.take k) (ss.drop k)
  rw [List.take_append_drop] at h2
  have := total_nonneg (ss.drop k)
  omega

theorem total_mem {ss : List ByteArray} {s : ByteArray} (h : s ∈ ss) : (s.size : Int) ≤ total ss := by
  induction ss with
  | nil => cases h
  | cons x ss ih =>
    have := total_nonneg ss
    rw [total_cons]
    rcases List.mem_cons.1 h with rfl | h
    · omega
    · have := ih h; omega

/-- What is left of the room. -/
def roomOf (left n t : Int) : Int := if left - n - t < 0 then -1 else left - n - t

end Go.Proofs.Ytnhhnffolmgceaa.StrsMath
