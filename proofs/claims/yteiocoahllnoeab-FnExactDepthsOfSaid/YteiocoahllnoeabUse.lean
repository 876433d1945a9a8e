/-
  Contract: the program's stacksInUse: a map of the stacks with numbers in conflict with the next place. Conditions: pairs of places in order, at most 98; at most 7 places with stacks from 0 to 99.
-/
import Derived.Maps.Views
import Derived.Maps.OwnSet
import Derived.Test.YteiocoahllnoeabConfI
namespace Go.Proofs.Yteiocoahllnoeab.UseC
open Go Go.Maps Go.RowKit SeesC IntsC ExactC OrdMath BesM ListsC ConfIC
set_option linter.unusedVariables false

/-- A map that tells which numbers are of a list. -/
def UseMap (w : World) (b : Nat) (U : List Int) : Prop :=
  ∃ (n : Nat) (D : DataW Value), w.ownsMap Try.prog 3 (plainElem Try.prog 4) b n D ∧ n ≤ U.length ∧ IsMap D ∧ ∀ x : Int, (Lit.int .i64 x).wf = true → D.atKey (.int .i64 x) (.lit (.bool false)) = .lit (.bool (U.contains x))

theorem keyedI : Keyed Try.prog 3 := int_keyed Try.underlying3

theorem useMap_new (w : World) : UseMap (w.alloc (.map #[] 0)) w.heap.size [] := by
  refine ⟨0, .map [], World.ownsMap_made _ _ _ _, Nat.le_refl _, isMap_empty, fun x _ => ?_⟩
  rfl

theorem UseMap.kept {w w' : World} {b : Nat} {U : List Int} {row : Option Nat} (h : UseMap w b U) (hg : w.grownBy w' row) (hne : some b ≠ row) : UseMap w' b U := by
  obtain ⟨n, D, h1, h2, h3, h4⟩ := h
  exact ⟨n, D, h1.kept hg hne, h2, h3, h4⟩

theorem UseMap.lt {w : World} {b : Nat} {U : List Int} (h : UseMap w b U) : b < w.heap.size := by
  obtain ⟨n, D, h1, _⟩ := h
  exact h1.lt

theorem zeroB (w : World) : (zeroValue 4).run Try.prog w = .ok (.bool false) w := by kernel_rfl

theorem small_wf {x : Int} (h : 0 ≤ x ∧ x < 100) : (Lit.int .i64 x).wf = true := by
  have e1 : IntKind.i64.min = -9223372036854775808 := rfl
  have e2 : IntKind.i64.max = 9223372036854775807 := rfl
  simp [Lit.wf, e1, e2]
  omega

theorem inUse_next {C : List (Nat × Nat)} {so : List Int} {i : Nat} {p : Nat × Nat} (hi : i < C.length) (hp : C.getD i (0, 0) = p) : inUse (C.take (i + 1)) so = inUse (C.take i) so ++ (if p.2 = so.length then [so.getD p.1 0] else []) := by
  have e : C[i] = p := by rw [← hp]; simp [hi]
  unfold inUse
  rw [List.take_succ_eq_append_getElem hi, e, List.filter_append, List.map_append]
  congr 1
  by_cases h : p.2 = so.length
  · rw [if_pos h]
    have : (p.2 == so.length) = true := by rw [beq_iff_eq]; exact h
    simp only [List.filter_cons, this, if_true, List.filter_nil, List.map_cons, List.map_nil]
  · rw [if_neg h]
    have : (p.2 == so.length) = false := by rw [beq_eq_false_iff_ne]; exact h
    simp only [List.filter_cons, this, Bool.false_eq_true, if_false, List.filter_nil, List.map_nil]

theorem UseMap.put {w' : World} {b n : Nat} {D : DataW Value} {U : List Int} {x : Int} (hw : (Lit.int .i64 x).wf = true) (h2 : n ≤ U.length) (h3 : IsMap D) (h4 : ∀ x : Int, (Lit.int .i64 x).wf = true → D.atKey (.int .i64 x) (.lit (.bool false)) = .lit (.bool (U.contains x)))
    (h : w'.ownsMap Try.prog 3 (plainElem Try.prog 4) b (n + 1) (D.put (.int .i64 x) (.lit (.bool true)))) : UseMap w' b (U ++ [x]) := by
  refine ⟨n + 1, _, h, by simp; omega, IsMap.put h3 _ _, fun y hy => ?_⟩
  · by_cases e : y = x
    · subst e
      rw [atKey_put_same h3 (by trivial)]
      simp
    · rw [atKey_put_other (by intro h; cases h; exact e rfl), h4 y hy]
      have : (U ++ [x]).contains y = U.contains y := by simp [e]
      rw [this]

end Go.Proofs.Yteiocoahllnoeab.UseC
