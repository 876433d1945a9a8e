/-
  Lists of lists of one length that are owned: each list in memory of its own. The laws' comparison, marks, and the sight of the marks. Conditions: lists of at most 2^20 lists of at most 100 numbers.
-/
import Derived.Test.YteiocoahllnoeabExact
import Derived.Test.YteiocoahllnoeabCmp
namespace Go.Proofs.Yteiocoahllnoeab.ListsC
open Go.RowKit SeesC IntsC ExactC CmpC

/-- A list's own value. -/
def sl (n : Nat) (p : Nat × Nat) : Value := .slice (some ⟨p.1, 0, none⟩) n p.2

/-- Lists of n values each, owned, in rows that are told apart. -/
def Lists (w : World) (base n : Nat) (v : Value) (L : List (List Value)) : Prop :=
  ∃ gs : List (Nat × Nat), gs.length = L.length ∧ w.ownsRow base 22 1 v L.length (gs.map (sl n)) ∧
    (∀ i, i < L.length → w.ownsRow base 3 1 (sl n (gs.getD i (0, 0))) n (L.getD i [])) ∧
    (gs.map (·.1)).Nodup ∧ (∀ p ∈ gs, v.ownBlock ≠ some p.1)

theorem Lists.kept {w w' : World} {base n : Nat} {v : Value} {L : List (List Value)} (h : Lists w base n v L) (hb : Below w.heap.size w w') : Lists w' base n v L := by
  obtain ⟨gs, h1, h2, h3, h4, h5⟩ := h
  exact ⟨gs, h1, kept_call h2 hb, fun i hi => kept_call (h3 i hi) hb, h4, h5⟩

theorem Lists.lower {w : World} {base base' n : Nat} {v : Value} {L : List (List Value)} (h : Lists w base n v L) (hle : base' ≤ base) : Lists w base' n v L := by
  obtain ⟨gs, h1, h2, h3, h4, h5⟩ := h
  exact ⟨gs, h1, own_lower h2 hle, fun i hi => own_lower (h3 i hi) hle, h4, h5⟩

/-- What is there when a list of lists is read. -/
def Looks (w : World) (n : Nat) (v : Value) (L : List (List Value)) : Prop :=
  ∃ gs : List (Nat × Nat), gs.length = L.length ∧ Sees w v L.length (gs.map (sl n)) ∧ (∀ i, i < L.length → Sees w (sl n (gs.getD i (0, 0))) n (L.getD i []))

theorem Lists.looks {w : World} {base n : Nat} {v : Value} {L : List (List Value)} (h : Lists w base n v L) : Looks w n v L := by
  obtain ⟨gs, h1, h2, h3, _, _⟩ := h
  exact ⟨gs, h1, Sees.owns h2, fun i hi => Sees.owns (h3 i hi)⟩

/-- The marks of N lists of n, from a number on. -/
def marks (k0 n N : Nat) : List (List Value) := (List.range N).map fun i => imarks (k0 + n * i) n

theorem marks_len (k0 n N : Nat) : (marks k0 n N).length = N := by simp [marks]
theorem marks_at (k0 n N i : Nat) (h : i < N) : (marks k0 n N).getD i [] = imarks (k0 + n * i) n := by simp [marks, h]

theorem own_block_lt {w : World} {base n : Nat} {e : TypeId} {v : Value} {xs : List Value} (h : w.ownsRow base e 1 v n xs) {q : Nat} (hq : v.ownBlock = some q) : base ≤ q ∧ q < w.heap.size := h.lt q hq

theorem nodup_ne {gs : List (Nat × Nat)} (h : (gs.map (·.1)).Nodup) {i j : Nat} (hi : i < gs.length) (hj : j < gs.length) (hne : i ≠ j) : (gs.getD i (0, 0)).1 ≠ (gs.getD j (0, 0)).1 := by
  intro e
  have h1 : (gs.map (·.1))[i]'(by simpa using hi) = (gs.map (·.1))[j]'(by simpa using hj) := by
    simp [hi, hj] at e ⊢
    exact e
  exact hne ((List.getElem_inj h).1 h1)

theorem mem_getD {gs : List (Nat × Nat)} {i : Nat} (hi : i < gs.length) : gs.getD i (0, 0) ∈ gs := by simp [hi]

end Go.Proofs.Yteiocoahllnoeab.ListsC
