/-
  Contract: the program's conflictsOf: all pairs of places in conflict. Conditions: an order.
-/
import Derived.Test.YteiocoahllnoeabMinMax
import Derived.Test.YteiocoahllnoeabLists
import Derived.Test.YteiocoahllnoeabSame
import Derived.Test.YteiocoahllnoeabAppendTwo
import Derived.Test.YteiocoahllnoeabShelf
namespace Go.Proofs.Yteiocoahllnoeab.ConfIC
open Go.RowKit SeesC IntsC ExactC OrdMath BesM ListsC SameC AppendTwoC MinMaxC
set_option linter.unusedVariables false

/-- Pairs, cell by cell. -/
def prv (C : List (Nat × Nat)) : List Value := C.flatMap fun p => [.int .i64 (p.1 : Int), .int .i64 (p.2 : Int)]

theorem prv_append (A B : List (Nat × Nat)) : prv (A ++ B) = prv A ++ prv B := by unfold prv; exact List.flatMap_append

theorem prv_len (C : List (Nat × Nat)) : (prv C).length = 2 * C.length := by
  induction C with
  | nil => rfl
  | cons p C ih =>
    have e : prv (p :: C) = [.int .i64 (p.1 : Int), .int .i64 (p.2 : Int)] ++ prv C := by unfold prv; rfl
    rw [e, List.length_append, ih]; simp; omega

theorem rowC_small (zs : List Int) (i : Nat) : ∀ j, j ≤ i + 1 → rowC zs i j = []
  | 0, _ => rfl
  | j + 1, h => by
    unfold rowC
    rw [if_neg (by rintro ⟨h1, _⟩; omega)]
    exact rowC_small zs i j (by omega)

theorem two_new (w : World) (x y : Value) (t : TypeId) : ∀ (j : Nat) (u : Value), [x, y][j]? = some u → (w.alloc (.cells #[x, y] t)).cell? ((⟨w.heap.size, 0, none⟩ : Addr).add j) = some u := by
  intro j u hu
  have hn := World.alloc_heap_new w (.cells #[x, y] t)
  have hj : j = 0 ∨ j = 1 := by
    have := (List.getElem?_eq_some_iff.1 hu).1
    simp at this; omega
  rcases hj with rfl | rfl <;> cases hu <;> (show World.cell? _ ⟨w.heap.size, _, none⟩ = _; unfold World.cell?; simp only [hn]; rfl)

end Go.Proofs.Yteiocoahllnoeab.ConfIC
