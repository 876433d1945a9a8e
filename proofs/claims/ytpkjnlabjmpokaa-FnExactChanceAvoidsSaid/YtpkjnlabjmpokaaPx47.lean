/-
  Laws: arrays of two numbers of the call's own; a result that is such an array and a truth value. Conditions: none.
-/
import Derived.Test.YtpkjnlabjmpokaaPx32
import Derived.Test.YtpkjnlabjmpokaaPx38
import Derived.WalkLawsBesides
import Derived.BigQuiet
import Derived.IntWalk
import Derived.Laws.ResultCell
import Derived.Laws.Rows
import Derived.Test.YtpkjnlabjmpokaaPx5

namespace Go.Proofs.Ytpkjnlabjmpokaa.Arr2C
open Go.RowKit SeesC IntsC ExactC RunC BigC
set_option linter.unusedVariables false

theorem infoA : (Try.prog.info? 23).map (fun i => (i.zero, i.size)) = some (some (.agg #[.int .i64 0, .int .i64 0]), 2) := by kernel_rfl
theorem builtA : Try.prog.built 23 [] = some #[.int .i64 0, .int .i64 0] := by kernel_rfl
theorem sizeA (x y : Value) : (Try.prog.info? 23).map (·.size) = some (#[x, y] : Array Value).size := by kernel_rfl

/-- Two cells of the call's own. -/
def Arr2 (w : World) (B g : Nat) (x y : Value) : Prop := w.ownsRow B 23 1 (.slice (some ⟨g, 0, none⟩) 2 2) 2 [x, y]

theorem arr2_cells {w : World} {B g : Nat} {x y : Value} (h : Arr2 w B g x y) : w.cell? ⟨g, 0, none⟩ = some x ∧ w.cell? ⟨g, 1, none⟩ = some y ∧ w.frozen? ⟨g, 0, none⟩ = false ∧ w.frozen? ⟨g, 1, none⟩ = false :=
  ⟨h.cellAt 0 (by omega), h.cellAt 1 (by omega), h.frozenAt 0, h.frozenAt 1⟩

theorem arr2_alloc (w : World) (x y : Value) : Arr2 (w.alloc (.cells #[x, y] 23)) w.heap.size w.heap.size x y :=
  block_own (ex := []) (by show (w.heap.push _)[w.heap.size]? = _; rw [Array.getElem?_push_size]; rfl) rfl rfl (Nat.le_refl _) (by unfold maxLen; omega)

theorem arr2_call {w w' : World} {B g : Nat} {x y : Value} (h : Arr2 w B g x y) (hb : Below w.heap.size w w') : Arr2 w' B g x y := kept_call h hb

theorem arr2_drewN {w : World} {B g q : Nat} {x y : Value} (h : Arr2 w B g x y) : Arr2 (w.drewN q) B g x y := own_drewN h

/-- Two stores. -/
theorem arr2_store {w : World} {B g : Nat} {x y : Value} (h : Arr2 w B g x y) (a b : Value) :
    (w.setCell ⟨g, 0, none⟩ a).cell? ⟨g, 1, none⟩ = some y ∧ (w.setCell ⟨g, 0, none⟩ a).frozen? ⟨g, 1, none⟩ = false ∧
    Arr2 ((w.setCell ⟨g, 0, none⟩ a).setCell ⟨g, 1, none⟩ b) B g a b := by
  have h0 := (h.stored 0 a).1
  have h1 := (h0.stored 1 b).1
  exact ⟨h0.cellAt 1 (by omega), h0.frozenAt 1, h1⟩

theorem arr2_below {w W : World} {B g : Nat} (hg : B ≤ g) (h : Below B W w) (a b : Value) : Below B W ((w.setCell ⟨g, 0, none⟩ a).setCell ⟨g, 1, none⟩ b) :=
  (h.setCell (p := ⟨g, 0, none⟩) hg a).setCell (p := ⟨g, 1, none⟩) hg b

theorem arr2_heap {w : World} {B g : Nat} {x y : Value} (h : Arr2 w B g x y) : w.heap[g]? = some (.cells #[x, y] 23 (0, 0)) := by
  obtain ⟨ex, h1, h2, _⟩ := own_block h
  have : ex = [] := List.eq_nil_of_length_eq_zero (by omega)
  subst this
  exact h1

theorem arr2_result {fn : Func} {p : Tmp} (h : fn.results = #[.cell p 23]) {tmps : Array Value} {w : World} {B g : Nat} {x y : Value} (hp : tmps.getD p undef = .pointer (some ⟨g, 0, none⟩)) (hA : Arr2 w B g x y) :
    (results fn tmps).run Try.prog w = .ok (.agg #[x, y]) w :=
  results_cell_row h tmps w g 23 #[x, y] (0, 0) _ hp (arr2_heap hA) Try.underlying23 rfl (sizeA x y)

theorem arr2_result2 {fn : Func} {p u : Tmp} (h : fn.results = #[.cell p 23, .tmp u]) {tmps : Array Value} {w : World} {B g : Nat} {x y : Value} (hp : tmps.getD p undef = .pointer (some ⟨g, 0, none⟩)) (hA : Arr2 w B g x y) :
    (results fn tmps).run Try.prog w = .ok (.tuple #[.agg #[x, y], tmps.getD u undef]) w := by
  rw [results_cell_tmp h, hp]
  have h2 := run_loadVar_row (P := Try.prog) w g 23 23 #[x, y] (0, 0) _ (arr2_heap hA) Try.underlying23 rfl (by kernel_rfl)
  have h1 : (asAddr (Value.pointer (some ⟨g, 0, none⟩))).run Try.prog w = .ok ⟨g, 0, none⟩ w := by simp [asAddr]
  rw [h1]
  simp only [Result.andThen, h2]

/-- A fraction and a truth value are returned. -/
def FracTo (w : World) (e : Ending) (w' : World) (a b : Nat) (ok : Bool) : Prop := e = .returned (.tuple #[.agg #[.int .i64 (a : Int), .int .i64 (b : Int)], .bool ok]) ∧ Below w.heap.size w w'

end Go.Proofs.Ytpkjnlabjmpokaa.Arr2C
