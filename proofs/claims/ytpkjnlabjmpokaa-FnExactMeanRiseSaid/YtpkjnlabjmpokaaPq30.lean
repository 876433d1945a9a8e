/-
  Lists of lists whose rows lie wherever: the outer list is of a base's own, the rows of another one's. Conditions: none. Plain facts.
-/
import Derived.Test.YtpkjnlabjmpokaaPq19
import Derived.Test.YtpkjnlabjmpokaaPq11

namespace Go.Proofs.Ytpkjnlabjmpokaa.RowsAnyC
open Go.RowKit SeesC IntsC ExactC ListsC ListsFC LLC

def RowsAny (w : World) (base rb : Nat) (v : Value) (L : List (List Int)) : Prop :=
  ∃ vs : List Value, vs.length = L.length ∧ w.ownsRow base 22 1 v L.length vs ∧ ∀ i, i < L.length → w.ownsRow rb 3 1 (vs.getD i undef) (L.getD i []).length (vals (L.getD i []))

theorem RowsAny.kept {w w' : World} {base rb : Nat} {v : Value} {L : List (List Int)} (h : RowsAny w base rb v L) (hb : Below w.heap.size w w') : RowsAny w' base rb v L := by
  obtain ⟨vs, h1, h2, h3⟩ := h
  exact ⟨vs, h1, kept_call h2 hb, fun i hi => kept_call (h3 i hi) hb⟩

theorem rows_one {w : World} {base rb : Nat} {v : Value} {L : List (List Int)} : ∀ vs : List Value, w.ownsRow base 22 1 v L.length vs → (∀ i, i < L.length → w.ownsRow rb 3 1 (vs.getD i undef) (L.getD i []).length (vals (L.getD i []))) → ∀ u ∈ vs, u.oneCell' = true := by
  intro vs h1 h2 u hu
  obtain ⟨i, hi, rfl⟩ := List.mem_iff_getElem.1 hu
  have hl := h1.1
  have h3 := h2 i (by omega)
  have e : vs.getD i undef = vs[i] := by simp [hi]
  rw [e] at h3
  rcases h3.2 with ⟨e2, _⟩ | ⟨g, c, cur, e2, _⟩ <;> rw [e2] <;> rfl

/-- Further rows behind. -/
theorem RowsAny.cat {w w6 : World} {base rb : Nat} {v v' : Value} {L M : List (List Int)} {vs us : List Value} (h1 : vs.length = L.length) (ho : w.ownsRow base 22 1 v L.length vs) (hr : ∀ i, i < L.length → w.ownsRow rb 3 1 (vs.getD i undef) (L.getD i []).length (vals (L.getD i [])))
    (h2 : us.length = M.length) (hs : ∀ i, i < M.length → w.ownsRow rb 3 1 (us.getD i undef) (M.getD i []).length (vals (M.getD i [])))
    (hown : w6.ownsRow base 22 1 v' (L.length + M.length) (vs ++ us)) (hg : w.grownBy w6 v.ownBlock) : RowsAny w6 base rb v' (L ++ M) := by
  refine ⟨vs ++ us, by simp [h1, h2], by rw [List.length_append]; exact hown, fun i hi => ?_⟩
  rw [List.length_append] at hi
  by_cases hlt : i < L.length
  · have e1 : (vs ++ us).getD i undef = vs.getD i undef := by rw [List.getD_eq_getElem?_getD, List.getElem?_append_left (by omega), ← List.getD_eq_getElem?_getD]
    have e2 : (L ++ M).getD i [] = L.getD i [] := by rw [List.getD_eq_getElem?_getD, List.getElem?_append_left hlt, ← List.getD_eq_getElem?_getD]
    rw [e1, e2]
    exact own_mark (hr i hlt) hg (fun a ha e => own_types ho (hr i hlt) (by decide) e ha)
  · have e1 : (vs ++ us).getD i undef = us.getD (i - L.length) undef := by rw [List.getD_eq_getElem?_getD, List.getElem?_append_right (by omega), h1, ← List.getD_eq_getElem?_getD]
    have e2 : (L ++ M).getD i [] = M.getD (i - L.length) [] := by rw [List.getD_eq_getElem?_getD, List.getElem?_append_right (by omega), ← List.getD_eq_getElem?_getD]
    rw [e1, e2]
    exact own_mark (hs _ (by omega)) hg (fun a ha e => own_types ho (hs _ (by omega)) (by decide) e ha)

end Go.Proofs.Ytpkjnlabjmpokaa.RowsAnyC
