/-
  Contract: the program's stack is cut below the numbers that are less. Conditions: at most eight numbers.
-/
import Derived.Test.YtpkjnlabjmpokaaPx28
import Derived.Test.YtpkjnlabjmpokaaPx46
import Derived.BigQuiet
import Derived.IntWalk
import Derived.Deep.QuietTactic

namespace Go.Proofs.Ytpkjnlabjmpokaa.CutStC
open Go.RowKit SeesC IntsC ExactC NumC IterC OrdMath WordMath OrdFacts InC OrderC AtC EndsM SweepM StackM

theorem take_snoc {st : List Int} {k : Nat} {p : Int} (hk : k < st.length) (h : st.getD k 0 = p) : st.take (k + 1) = st.take k ++ [p] := by
  rw [List.take_succ_eq_append_getElem hk, ← h]
  simp [hk]

end Go.Proofs.Ytpkjnlabjmpokaa.CutStC
