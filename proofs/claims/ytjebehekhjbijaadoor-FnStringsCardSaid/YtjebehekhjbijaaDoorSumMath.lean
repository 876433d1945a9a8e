/-
  The checksum of a list of bytes as a fold, its bounds, and what one byte more does to it. Conditions: none. Plain mathematics: nothing of the program.
-/
namespace Go.Proofs.YtjebehekhjbijaaDoor.SumMath

/-- One step of the checksum. -/
def step (h : Int) (c : UInt8) : Int := (41 * h + (c.toNat : Int) + 1) % 999979

/-- The checksum of a list of bytes, from a start on. -/
def from' (h : Int) (l : List UInt8) : Int := l.foldl step h

/-- The checksum of a list of bytes. -/
def chk (l : List UInt8) : Int := from' 7 l

theorem from_snoc (h : Int) (l : List UInt8) (c : UInt8) : from' h (l ++ [c]) = step (from' h l) c := by
  unfold from'; rw [List.foldl_append]; rfl

theorem chk_snoc (l : List UInt8) (c : UInt8) : chk (l ++ [c]) = (41 * chk l + (c.toNat : Int) + 1) % 999979 := from_snoc 7 l c

theorem step_bd (h : Int) (c : UInt8) : 0 ≤ step h c ∧ step h c < 999979 := by
  unfold step; constructor <;> omega

theorem from_bd (l : List UInt8) : ∀ h : Int, 0 ≤ h → h < 999979 → 0 ≤ from' h l ∧ from' h l < 999979 := by
  induction l with
  | nil => intro h a b; exact ⟨a, b⟩
  | cons c l ih => intro h a b; exact ih _ (step_bd h c).1 (step_bd h c).2

theorem chk_bd (l : List UInt8) : 0 ≤ chk l ∧ chk l < 999979 := from_bd l 7 (by decide) (by decide)

theorem take_snoc (s : ByteArray) (k : Nat) (h : k < s.size) : s.data.toList.take (k + 1) = s.data.toList.take k ++ [s[k]] := by
  rw [List.take_succ_eq_append_getElem (by simpa using h)]; rfl

end Go.Proofs.YtjebehekhjbijaaDoor.SumMath
