/-
  Ragged lists of lists as answers: marked whole and found so again, and what the walks of their exact laws carry. Conditions: at most 2^20 numbers together.
-/
import Derived.Test.YteiocoahllnoeabRagMark
namespace Go.Proofs.Yteiocoahllnoeab.RagResC
open Go.RowKit SeesC IntsC ExactC ListsC ListsEC ListsFC LLC RagMarkC

/-- Ragged lists and a truth value are returned, in memory of the call's own. -/
def RagTo (w : World) (e : Ending) (w' : World) (L : List (List Int)) (b : Bool) : Prop :=
  ∃ v, e = .returned (.tuple #[v, .bool b]) ∧ Rag w' w.heap.size v L ∧ Below w.heap.size w w'

/-- Ragged lists are returned, in memory of the call's own. -/
def LTo (w : World) (e : Ending) (w' : World) (L : List (List Int)) : Prop :=
  ∃ a c, e = .returned (.slice a L.length c) ∧ Rag w' w.heap.size (.slice a L.length c) L ∧ Below w.heap.size w w'

theorem lto_of {w w' : World} {a : Option Addr} {N c : Nat} {L M : List (List Int)} (h1 : Rag w' w.heap.size (.slice a N c) L) (h2 : Below w.heap.size w w') (hN : L.length = N) (hL : L = M) : LTo w (.returned (.slice a N c)) w' M := by
  subst hL; subst hN; exact ⟨a, c, rfl, h1, h2⟩

theorem Rag.lower {w : World} {base base' : Nat} {v : Value} {L : List (List Int)} (h : Rag w base v L) (hle : base' ≤ base) : Rag w base' v L := by
  obtain ⟨gs, h1, h2, h3, h4⟩ := h
  exact ⟨gs, h1, own_lower h2 hle, fun i hi => own_lower (h3 i hi) hle, h4⟩

theorem ragTo_below {w w1 w' : World} {e : Ending} {L : List (List Int)} {b : Bool} (hb : Below w.heap.size w w1) (h : RagTo w1 e w' L b) : RagTo w e w' L b := by
  obtain ⟨v, he, ho, hb2⟩ := h
  exact ⟨v, he, Rag.lower ho hb.size, hb.trans (hb2.mono hb.size)⟩

/-- An empty list of lists that was made. -/
theorem rag_made (w : World) (base : Nat) (hb : base ≤ w.heap.size) : Rag (w.alloc (.cells #[] 22)) base (.slice (some ⟨w.heap.size, 0, none⟩) 0 0) [] :=
  ⟨[], rfl, World.ownsRow_made _ _ _ hb (by unfold maxLen; omega) rfl, fun i hi => absurd hi (by simp), by simp⟩

theorem ragTo_none (w : World) (b : Bool) : RagTo w (.returned (.tuple #[.slice (some ⟨w.heap.size, 0, none⟩) 0 0, .bool b])) (w.alloc (.cells #[] 22)) [] b :=
  ⟨_, rfl, rag_made _ _ (Nat.le_refl _), (Below.refl _ _).alloc (Nat.le_refl _) _⟩

/-- Ragged lists all of which lie below D. -/
def RagV (w : World) (base D : Nat) (v : Value) (L : List (List Int)) : Prop :=
  RagU w base D v L ∧ ∀ q, v.ownBlock = some q → q < D

theorem Rag.ragv {w : World} {base : Nat} {v : Value} {L : List (List Int)} (h : Rag w base v L) : RagV w base w.heap.size v L :=
  ⟨Rag.under h, fun q hq => by obtain ⟨gs, _, h2, _⟩ := h; exact (own_block_lt h2 hq).2⟩

theorem RagV.sees {w : World} {base D : Nat} {v : Value} {L : List (List Int)} (h : RagV w base D v L) : SeesLL w v L := h.1.sees
theorem RagV.rag {w : World} {base D : Nat} {v : Value} {L : List (List Int)} (h : RagV w base D v L) : Rag w base v L := h.1.rag
theorem RagV.kept {w w' : World} {base D : Nat} {v : Value} {L : List (List Int)} (h : RagV w base D v L) (hb : Below w.heap.size w w') : RagV w' base D v L := ⟨h.1.kept hb, h.2⟩

/-- A list of numbers that lies elsewhere is written. -/
theorem ragv_mark {w w' : World} {base D b n : Nat} {v u : Value} {L : List (List Int)} {xs : List Value} (h : RagV w base D v L) (ho : w.ownsRow b 3 1 u n xs) (hg : w.grownBy w' u.ownBlock)
    (hq : ∀ q, u.ownBlock = some q → q < base ∨ D ≤ q) : RagV w' base D v L := by
  obtain ⟨⟨gs, h1, h2, h3, h4, h5⟩, h6⟩ := h
  refine ⟨⟨gs, h1, own_mark h2 hg (fun a ha e => own_types h2 ho (by decide) ha e), fun i hi => own_mark (h3 i hi) hg (fun a ha e => ?_), h4, h5⟩, h6⟩
  have e1 : (gs.getD i (0, 0)).1 = a := Option.some.inj ha
  have e2 := h5 i hi
  have e3 := (own_block_lt (h3 i hi) (q := (gs.getD i (0, 0)).1) rfl).1
  have e4 := hq a e
  omega

/-- What lies at D and behind it is written. -/
theorem ragv_below {w w' : World} {base D B : Nat} {v : Value} {L : List (List Int)} (h : RagV w base D v L) (hb : Below B w w') (hD : D ≤ B) : RagV w' base D v L := by
  obtain ⟨⟨gs, h1, h2, h3, h4, h5⟩, h6⟩ := h
  refine ⟨⟨gs, h1, own_below h2 hb (fun q hq => by have := h6 q hq; omega), fun i hi => own_below (h3 i hi) hb (fun q hq => ?_), h4, h5⟩, h6⟩
  have e1 : (gs.getD i (0, 0)).1 = q := Option.some.inj hq
  have e2 := h5 i hi
  omega

/-- The marks of lists of the shape of L, from a number on. -/
def marksR (k : Nat) : List (List Int) → List (List Int)
  | [] => []
  | l :: L => ((List.range l.length).map fun i => ((k + i : Nat) : Int)) :: marksR (k + l.length) L

theorem marksR_len : ∀ (L : List (List Int)) (k : Nat), (marksR k L).length = L.length
  | [], _ => rfl
  | l :: L, k => by simp [marksR, marksR_len L]

theorem marksR_at : ∀ (L : List (List Int)) (k i : Nat), i < L.length → (marksR k L).getD i [] = (List.range (L.getD i []).length).map fun j => ((k + tot (L.take i) + j : Nat) : Int)
  | [], _, i, h => absurd h (by simp)
  | l :: L, k, 0, _ => by simp [marksR, tot]
  | l :: L, k, i + 1, h => by
    have ih := marksR_at L (k + l.length) i (by simpa using h)
    show (marksR (k + l.length) L).getD i [] = _
    rw [ih]
    show (List.range (L.getD i []).length).map _ = (List.range (L.getD i []).length).map _
    congr 1
    funext j
    show ((k + l.length + tot (L.take i) + j : Nat) : Int) = ((k + (l.length + tot (L.take i)) + j : Nat) : Int)
    congr 1
    omega

theorem marksR_tot : ∀ (L : List (List Int)) (k : Nat), tot (marksR k L) = tot L
  | [], _ => rfl
  | l :: L, k => by simp [marksR, tot, marksR_tot L]

theorem marks_vals (k n : Nat) : vals ((List.range n).map fun i => ((k + i : Nat) : Int)) = imarks k n := by
  unfold vals imarks
  rw [List.map_map]; rfl

theorem marksR_row {L : List (List Int)} {k i : Nat} (h : i < L.length) : ((marksR k L).getD i []).length = (L.getD i []).length ∧ vals ((marksR k L).getD i []) = imarks (k + tot (L.take i)) (L.getD i []).length := by
  rw [marksR_at L k i h]
  exact ⟨by simp, marks_vals _ _⟩

end Go.Proofs.Yteiocoahllnoeab.RagResC
