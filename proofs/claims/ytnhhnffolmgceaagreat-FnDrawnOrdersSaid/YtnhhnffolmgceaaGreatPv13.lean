/-
  Facts: lists that are read are read again behind a call. Conditions: none.
-/
import Derived.Test.YtnhhnffolmgceaaGreatPv10
import Derived.RangeFuncRecord

namespace Go.Proofs.YtnhhnffolmgceaaGreat.UsedC
open Go.RowKit SeesC IntsC ExactC ListsC

theorem below_heap {w w' a : World} {B : Nat} (h : Below B a w) (h1 : w'.os = w.os) (h2 : w'.tape = w.tape) (h3 : w'.output = w.output) (h4 : w'.heap = w.heap) : Below B a w' :=
  ⟨h1.trans h.os, h2.trans h.tape, h3.trans h.output, by rw [h4]; exact h.size, fun q hq => by rw [h4]; exact h.block q hq⟩

theorem own_heap {w w' : World} (h : w'.heap = w.heap) {base size n : Nat} {ty : TypeId} {v : Value} {xs : List Value} (ho : w.ownsRow base ty size v n xs) : w'.ownsRow base ty size v n xs := by
  unfold World.ownsRow at ho ⊢
  rw [h]
  exact ho

theorem new_cell (w : World) (v : Value) (t : TypeId) : (w.alloc (.cells #[v] t)).cell? ⟨w.heap.size, 0, none⟩ = some v := by
  have hn := World.alloc_heap_new w (.cells #[v] t)
  unfold World.cell?; simp only [hn]; rfl

theorem looks_grow {w w' : World} {n : Nat} {v : Value} {L : List (List Value)} (h : Looks w n v L) (hb : Below w.heap.size w w') : Looks w' n v L := by
  obtain ⟨gs, h1, h2, h3⟩ := h
  exact ⟨gs, h1, h2.grow hb, fun i hi => (h3 i hi).grow hb⟩

end Go.Proofs.YtnhhnffolmgceaaGreat.UsedC
