/-
  Contracts: the model and the program write an order as digits and read it again. Conditions: lists and texts of at most 2^20 elements.
-/
import Derived.Test.YtomheoaophomlabOrder
import Derived.Test.YtomheoaophomlabNum
import Derived.Test.YtomheoaophomlabIter
import Derived.Lib.OthersKept
import Derived.RangeFuncBox
import Derived.Maps.AppendAt
namespace Go.Proofs.Ytomheoaophomlab.TextC
open Go.RowKit SeesC IntsC ExactC OrdMath OrderC NumC IterC

/-- The digit of a number. -/
def dig (z : Int) : UInt8 := UInt8.ofNat (48 + z.toNat)

def textAns (zs : List Int) : ByteArray × Bool := if Ord zs then (txt (zs.map dig), true) else (ByteArray.empty, false)

/-- The numbers of a text's bytes. -/
def raw (s : ByteArray) : List Int := s.data.toList.map fun c => (c.toNat : Int) - 48

theorem raw_len (s : ByteArray) : (raw s).length = s.size := by unfold raw; rw [List.length_map, Array.length_toList]; rfl

theorem raw_at (s : ByteArray) (k : Nat) (h : k < s.size) : (raw s).getD k 0 = (s[k].toNat : Int) - 48 := by
  have h2 : k < s.data.toList.length := by rw [Array.length_toList]; exact h
  rw [List.getD_eq_getElem?_getD, List.getElem?_eq_getElem (by rw [raw_len]; exact h)]
  simp [raw]
  rfl

def parseAns (s : ByteArray) : List Int × Bool := if s.size ≤ 7 ∧ Ord (raw s) then (raw s, true) else ([], false)

theorem parse_len {s : ByteArray} {xs : List Int} {b : Bool} (h : parseAns s = (xs, b)) : xs.length ≤ 1048576 := by
  unfold parseAns at h; split at h
  · rename_i ho; cases h; rw [raw_len]; omega
  · cases h; simp

theorem isOrd_big {zs : List Int} {z : Int} (hz : z ∈ zs) (h : 7 < z) : isOrd zs = false := by
  unfold isOrd; rw [decide_eq_false_iff_not]; rintro ⟨_, h2, h3, _⟩; have := (h3 z hz).2; omega

theorem dig_nat (u : Nat) (h : u < 10) : (dig (u : Int)).toNat = 48 + u := by
  unfold dig; rw [Int.toNat_natCast, UInt8.toNat_ofNat']; omega

theorem Ord.getN {zs : List Int} (h : OrdMath.Ord zs) {k : Nat} (hk : k < zs.length) : ∃ u : Nat, zs.getD k 0 = (u : Int) ∧ 1 ≤ u ∧ u ≤ 7 := by
  obtain ⟨m, h1, h2⟩ := h.getD hk
  exact ⟨m + 1, by rw [h1]; simp, by omega, by have := h.2.1; omega⟩

end Go.Proofs.Ytomheoaophomlab.TextC
