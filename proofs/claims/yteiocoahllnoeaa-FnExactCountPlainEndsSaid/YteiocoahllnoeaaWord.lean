/-
  Contracts: the model and the program tell whether a text is a word, and how deep it is. Conditions: texts of at most 2^20 bytes.
-/
import Derived.Test.YteiocoahllnoeaaExact
import Derived.Test.YteiocoahllnoeaaIter
import Derived.Test.YteiocoahllnoeaaWordMath
import Derived.Test.YteiocoahllnoeaaIn
import Derived.Lib.OthersKept
namespace Go.Proofs.Yteiocoahllnoeaa.WordC
open Go.RowKit SeesC IntsC ExactC NumC IterC WordMath InC

theorem byt_nat {s : ByteArray} {k : Nat} (h : k < s.size) (c : Nat) (hc : c < 256) : (s[k].toNat = c) ↔ byt s k = UInt8.ofNat c := by
  rw [byt_at s k h]
  constructor
  · intro e; apply UInt8.toNat_inj.1; rw [e, UInt8.toNat_ofNat']; omega
  · intro e; rw [e, UInt8.toNat_ofNat']; omega

theorem ne_int {a b : Nat} (h : a ≠ b) : ((a : Int) == (b : Int)) = false := by rw [beq_eq_false_iff_ne]; omega

end Go.Proofs.Yteiocoahllnoeaa.WordC
