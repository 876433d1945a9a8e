/-
  Numbers that are well formed. Conditions: none.
-/
import Derived.RowKit
namespace Go.Proofs.Ytomheoaophomlab.OrdC0
theorem wf_big {n : Int} (h1 : -9000000000 ≤ n) (h2 : n ≤ 9000000000) : (Lit.int .i64 n).wf = true := by
  have e1 : IntKind.i64.min = -9223372036854775808 := rfl
  have e2 : IntKind.i64.max = 9223372036854775807 := rfl
  simp [Lit.wf, e1, e2]
  omega
theorem wf_small {n : Int} (h1 : -100000 ≤ n) (h2 : n ≤ 100000) : (Lit.int .i64 n).wf = true := wf_big (by omega) (by omega)
end Go.Proofs.Ytomheoaophomlab.OrdC0
