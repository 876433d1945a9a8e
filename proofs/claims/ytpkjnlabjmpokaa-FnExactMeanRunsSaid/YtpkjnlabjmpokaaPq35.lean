/-
  Mathematics: a bound on what MeanRuns is a mean of (by the kernel). Conditions: orders of at most six numbers. Plain facts.
-/
import Derived.Test.YtpkjnlabjmpokaaPq11
import Derived.Test.YtpkjnlabjmpokaaPq27

namespace Go.Proofs.Ytpkjnlabjmpokaa.BdMeanRuns
open OrdMath AllO QueM

theorem kernel : ∀ n < 7, 1 ≤ n → (allO n).all (fun zs => Nat.ble ((rTo zs zs.length).length) 7) = true := by decide +kernel

theorem bound {n : Nat} (h1 : 1 ≤ n) (h6 : n ≤ 6) {zs : List Int} (hz : zs ∈ allO n) : ((rTo zs zs.length).length) ≤ 1000 := by
  have h := List.all_eq_true.1 (kernel n (by omega) h1) zs hz
  exact Nat.le_trans (Nat.le_of_ble_eq_true h) (by omega)

end Go.Proofs.Ytpkjnlabjmpokaa.BdMeanRuns
