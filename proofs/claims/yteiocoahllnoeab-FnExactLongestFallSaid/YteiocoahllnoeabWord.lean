/-
  Contracts: the model and the program tell whether a text is a word, and how deep it is. Conditions: texts of at most 2^20 bytes.
-/
import Derived.Test.YteiocoahllnoeabExact
import Derived.Test.YteiocoahllnoeabIter
import Derived.Test.YteiocoahllnoeabWordMath
import Derived.Test.YteiocoahllnoeabIn
import Derived.Lib.OthersKept
namespace Go.Proofs.Yteiocoahllnoeab.WordC
open Go.RowKit SeesC IntsC ExactC NumC IterC WordMath InC

theorem byt_nat {s : ByteArray} {k : Nat} (h : k < s.size) (c : Nat) (hc : c < 256) : (s[k].toNat = c) ↔ byt s k = UInt8.ofNat c := by
  rw [byt_at s k h]
  constructor
  · intro e; apply UInt8.toNat_inj.1; rw [e, UInt8.toNat_ofNat']; omega
  · intro e; rw [e, UInt8.toNat_ofNat']; omega

theorem ne_int {a b : Nat} (h : a ≠ b) : ((a : Int) == (b : Int)) = false := by rw [beq_eq_false_iff_ne]; omega

set_option maxRecDepth 100000 in
theorem l1Most_any (a b : Nat) (W : World) :
    Calls Try.prog 28 #[.int .i64 a, .int .i64 b] W fun e w' => e = .returned (.int .i64 ((max a b : Nat) : Int)) ∧ W = w' := by
  by_cases h : b < a
  · have hi : (b : Int) < (a : Int) := by omega
    have HM : Hid (max a b = a) := Go.Lib.hid (by omega)
    go_enter Try.func28, Try.ntmps28
    go_wp2
    go_ret
    exact ⟨by rw [HM.out]; rfl, rfl⟩
  · have hi : ¬ (b : Int) < (a : Int) := by omega
    have HM : Hid (max a b = b) := Go.Lib.hid (by omega)
    go_enter Try.func28, Try.ntmps28
    go_wp2
    go_ret
    exact ⟨by rw [HM.out]; rfl, rfl⟩

end Go.Proofs.Yteiocoahllnoeab.WordC
