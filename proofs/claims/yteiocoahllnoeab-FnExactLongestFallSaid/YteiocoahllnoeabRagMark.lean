/-
  Marks upon a ragged list of lists: what lies ahead of it and behind it stays. Conditions: at most 2^20 numbers together.
-/
import Derived.Test.YteiocoahllnoeabLL
namespace Go.Proofs.Yteiocoahllnoeab.RagMarkC
open Go.RowKit SeesC IntsC ExactC ListsC ListsEC ListsFC LLC

/-- What lies below base, and from D on, is as it was. -/
structure Mid (base D : Nat) (w w' : World) : Prop where
  os : w'.os = w.os
  tape : w'.tape = w.tape
  output : w'.output = w.output
  size : w.heap.size ≤ w'.heap.size
  block : ∀ k, k < w.heap.size → (k < base ∨ D ≤ k) → w'.heap[k]? = w.heap[k]?

theorem Mid.refl (base D : Nat) (w : World) : Mid base D w w := ⟨rfl, rfl, rfl, Nat.le_refl _, fun _ _ _ => rfl⟩

theorem Mid.step {base D q : Nat} {w w' w'' : World} (h : Mid base D w w') (hg : w'.grownBy w'' (some q)) (h1 : base ≤ q) (h2 : q < D) : Mid base D w w'' :=
  ⟨hg.os.trans h.os, hg.tape.trans h.tape, hg.output.trans h.output, Nat.le_trans h.size hg.size, fun k hk hb => (hg.block k (Nat.lt_of_lt_of_le hk h.size) (by simp; omega)).trans (h.block k hk hb)⟩

theorem Mid.below {base D b : Nat} {w0 w w' : World} (h : Mid base D w w') (hb : Below b w0 w) (hle : b ≤ base) (hw : b ≤ w0.heap.size) : Below b w0 w' :=
  ⟨h.os.trans hb.os, h.tape.trans hb.tape, h.output.trans hb.output, Nat.le_trans hb.size h.size, fun k hk => (h.block k (Nat.lt_of_lt_of_le hk (Nat.le_trans hw hb.size)) (.inl (Nat.lt_of_lt_of_le hk hle))).trans (hb.block k hk)⟩

theorem Mid.own {base D b n : Nat} {ty : TypeId} {v : Value} {xs : List Value} {w w' : World} (h : Mid base D w w') (ho : w.ownsRow b ty 1 v n xs) (hne : ∀ q, v.ownBlock = some q → q < base ∨ D ≤ q) : w'.ownsRow b ty 1 v n xs := by
  have hlt := fun q hq => (ho.lt q hq).2
  rcases ho.2 with ⟨rfl, h0⟩ | ⟨g, cap, cur, rfl, hb, hg, hrest⟩
  · exact ⟨ho.1, .inl ⟨rfl, h0⟩⟩
  · exact ⟨ho.1, .inr ⟨g, cap, cur, rfl, hb, (h.block g (hlt g rfl) (hne g rfl)).trans hg, hrest⟩⟩

/-- A ragged list of which the rows lie below D. -/
def RagU (w : World) (base D : Nat) (v : Value) (L : List (List Int)) : Prop :=
  ∃ gs : List (Nat × Nat), gs.length = L.length ∧ w.ownsRow base 22 1 v L.length ((List.range L.length).map fun i => sl (L.getD i []).length (gs.getD i (0, 0))) ∧
    (∀ i, i < L.length → w.ownsRow base 3 1 (sl (L.getD i []).length (gs.getD i (0, 0))) (L.getD i []).length (vals (L.getD i []))) ∧ (gs.map (·.1)).Nodup ∧ ∀ i, i < L.length → (gs.getD i (0, 0)).1 < D

theorem Rag.under {w : World} {base : Nat} {v : Value} {L : List (List Int)} (h : Rag w base v L) : RagU w base w.heap.size v L := by
  obtain ⟨gs, h1, h2, h3, h4⟩ := h
  exact ⟨gs, h1, h2, h3, h4, fun i hi => (own_block_lt (h3 i hi) (q := (gs.getD i (0, 0)).1) rfl).2⟩

theorem RagU.rag {w : World} {base D : Nat} {v : Value} {L : List (List Int)} (h : RagU w base D v L) : Rag w base v L := by
  obtain ⟨gs, h1, h2, h3, h4, _⟩ := h
  exact ⟨gs, h1, h2, h3, h4⟩

theorem RagU.sees {w : World} {base D : Nat} {v : Value} {L : List (List Int)} (h : RagU w base D v L) : SeesLL w v L := h.rag.sees

theorem RagU.kept {w w' : World} {base D : Nat} {v : Value} {L : List (List Int)} (h : RagU w base D v L) (hb : Below w.heap.size w w') : RagU w' base D v L := by
  obtain ⟨gs, h1, h2, h3, h4, h5⟩ := h
  exact ⟨gs, h1, kept_call h2 hb, fun i hi => kept_call (h3 i hi) hb, h4, h5⟩

end Go.Proofs.Yteiocoahllnoeab.RagMarkC
