/-
  Laws: a variable of many cells is made, built, stored and loaded in one step. Conditions: none.
-/
import Derived.WalkKit
import Derived.Deep.MidRow
import Derived.Deep.WholeRow

namespace Go.Proofs.Ytnhhnffolmgceaa.BigC
set_option linter.unusedVariables false
section
variable {P : Program} {ops : Array Oper} {rest : List Oper} {o : Oper} {a : Act} {w : World} {Q : Exit → Act → World → Prop}

theorem wpList_alloc_agg (hgd : o.guard = none) (t : TypeId) (ho : o.op = .alloc t) (c : Array Value) (n : Nat) (hz : (P.info? t).map (fun i => (i.zero, i.size)) = some (some (.agg c), n))
    (h : wpList P ops Q rest (a.put o.dst (.pointer (some ⟨w.heap.size, 0, none⟩))) (w.alloc (.cells c t))) : wpList P ops Q (o :: rest) a w := by
  refine wpList_plain hgd fun K hK => ?_
  have hzz := (zero_of_info hz).1
  unfold Oper.wp execOp
  simp [ho, Instr.alloc, hzz]
  exact hK _ _ h

theorem wpList_build_is (hgd : o.guard = none) (t : TypeId) (ho : o.op = .build t #[]) (c : Array Value) (hb : P.built t [] = some c)
    (h : wpList P ops Q rest (a.put o.dst (.agg c)) w) : wpList P ops Q (o :: rest) a w := by
  refine wpList_build hgd t #[] ho (by simp [hb]) ?_
  simpa [hb] using h

theorem wpList_store_new (hgd : o.guard = none) (t : TypeId) (x y : Operand) (ho : o.op = .store t x y) (w0 : World) (c c' : Array Value) (hw : w = w0.alloc (.cells c t))
    (hx : a.eval x = .pointer (some ⟨w0.heap.size, 0, none⟩)) (hy : a.eval y = .agg c') (hi : (P.info? t).map (·.size) = some c'.size) (hs : c.size = c'.size) (h1 : c'.all (·.oneCell') = true)
    (h : wpList P ops Q rest (a.put o.dst undef) (w0.alloc (.cells c' t))) : wpList P ops Q (o :: rest) a w := by
  subst hw
  refine wpList_plain hgd fun K hK => ?_
  unfold Oper.wp execOp
  simp only [ho, hx, hy, Sem.run_bind, run_storeAt_new w0 t c c' hi hs h1, Result.andThen_ok, Sem.run_pure]
  exact hK _ _ h
end
end Go.Proofs.Ytnhhnffolmgceaa.BigC
