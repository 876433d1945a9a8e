/-
  Contracts and plain facts that the laws' texts lean on. Conditions: as each states.
-/
import Derived.ChangeKeysEq
import Derived.DeepKeys
import Derived.Test.YtnhhnffolmgceaaGreatProg
import Derived.WalkKit
import Derived.Shelf.Spec.SearchS
import Derived.Shelf.Lay
import Derived.Ground.Names2Prog

section
namespace Go.Proofs.YtnhhnffolmgceaaGreat.EqA2C
open Go

theorem eqA2 (a b : Int) (r : Bool) (h : (a == 0 && b == 0) = r) (W : World) : (Op.equalIn 10000 25 (.agg #[.int .i64 a, .int .i64 b]) (.agg #[.int .i64 0, .int .i64 0])).run Tryz.prog W = .ok r W := by
  have hp : Tryz.prog.plainKey 3 = true := by kernel_rfl
  have hc : Tryz.prog.cellsOf 3 = 1 := by kernel_rfl
  obtain ⟨i, hi⟩ : ∃ i, Tryz.prog.info? 3 = some i := info_of_underlying Tryz.underlying3
  have p0 := run_part_plain (P := Tryz.prog) (w := W) hp (xs := #[.int .i64 a, .int .i64 b]) (off := 0) (v := .int .i64 a) rfl
  have p1 := run_part_plain (P := Tryz.prog) (w := W) hp (xs := #[.int .i64 a, .int .i64 b]) (off := 1) (v := .int .i64 b) rfl
  have q0 := run_part_plain (P := Tryz.prog) (w := W) hp (xs := #[.int .i64 0, .int .i64 0]) (off := 0) (v := .int .i64 0) rfl
  have q1 := run_part_plain (P := Tryz.prog) (w := W) hp (xs := #[.int .i64 0, .int .i64 0]) (off := 1) (v := .int .i64 0) rfl
  have e0 := fun (x y : Int) => run_equalIn_int (P := Tryz.prog) (w := W) 9998 3 .i64 .i64 x y Tryz.underlying3
  have h2 := run_equalIn_array (P := Tryz.prog) W 9999 (#[.int .i64 a, .int .i64 b]) (#[.int .i64 0, .int .i64 0]) Tryz.underlying25 hi
  rw [hc] at h2
  refine h2.trans ?_
  show (Op.eqItems 9999 3 1 _ _ [0, 1]).run _ _ = _
  rw [← h]
  cases ha : a == 0 with
  | false => simp only [Op.eqItems, Nat.mul_one, Sem.run_bind, p0, q0, e0, Result.andThen_ok, ha, Bool.not_false, if_true, Sem.run_pure, Bool.false_and]
  | true =>
    cases hb : b == 0 <;> simp only [Op.eqItems, Nat.mul_one, Sem.run_bind, p0, q0, p1, q1, e0, Result.andThen_ok, ha, hb, Bool.not_true, Bool.not_false, Bool.false_eq_true, if_false, if_true, Sem.run_pure, Bool.true_and]

end Go.Proofs.YtnhhnffolmgceaaGreat.EqA2C

end

section
namespace Go.Proofs
open Go.Shelf Go.RowKit Go.Lib
end Go.Proofs

end
