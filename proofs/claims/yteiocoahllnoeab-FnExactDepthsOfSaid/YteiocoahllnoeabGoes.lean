/-
  Contract: the model's search for a pattern, by recursion. Conditions: lists of at most 7 numbers.
-/
import Derived.Test.YteiocoahllnoeabSame
import Derived.Deep.RegionHeld3
namespace Go.Proofs.Yteiocoahllnoeab.GoesC
open Go.RowKit SeesC IntsC ExactC OrdMath InC OrderC PatMath ShapeC PlacesC Own1C AppendTwoC SameC IterC

theorem own_heap {w w' : World} (h : w'.heap = w.heap) {base size n : Nat} {ty : TypeId} {v : Value} {xs : List Value} (ho : w.ownsRow base ty size v n xs) : w'.ownsRow base ty size v n xs := by
  unfold World.ownsRow at ho ⊢
  rw [h]; exact ho

theorem below_heap {w w' a : World} {B : Nat} (h : Below B a w) (h1 : w'.os = w.os) (h2 : w'.tape = w.tape) (h3 : w'.output = w.output) (h4 : w'.heap = w.heap) : Below B a w' := by
  exact ⟨h1.trans h.os, h2.trans h.tape, h3.trans h.output, by rw [h4]; exact h.size, fun q hq => by rw [h4]; exact h.block q hq⟩

theorem below_grown {X X0 X' a : World} {B : Nat} {row : Option Nat} (hg : X.grownBy X' row) (hb : Below B a X0) (hs : B ≤ X0.heap.size) (h1 : X.os = X0.os) (h2 : X.tape = X0.tape) (h3 : X.output = X0.output) (h4 : X.heap = X0.heap) (hr : ∀ k, row = some k → B ≤ k) : Below B a X' :=
  (below_heap hb h1 h2 h3 h4).grown hg (by rw [h4]; exact hs) hr

theorem cell_heap {w w' : World} (h : w'.heap = w.heap) {a : Addr} {u : Value} (hc : w.cell? a = some u) : w'.cell? a = some u := by
  unfold World.cell? at hc ⊢
  rw [h]; exact hc

theorem pick_snoc (zs : List Int) (b : List Nat) (p : Nat) : pick zs (b ++ [p]) = pick zs b ++ [zs.getD p 0] := by simp [pick]

theorem vals_app (xs : List Int) (z : Int) : vals (xs ++ [z]) = vals xs ++ [.int .i64 z] := by simp

theorem any_next (h : Nat → Bool) (s j : Nat) : (List.range' s (j + 1)).any h = ((List.range' s j).any h || h (s + j)) := by
  rw [range_next, List.any_append]; simp

end Go.Proofs.Yteiocoahllnoeab.GoesC
