/-
  Owned lists behind owned lists. Conditions: none. Plain facts on worlds.
-/
import Derived.Test.YtpkjnlabjmpokaaListsF
namespace Go.Proofs.Ytpkjnlabjmpokaa.ListsGC
open Go.RowKit SeesC IntsC ExactC ListsC ListsEC ListsFC

theorem getD_left {α : Type} {d : α} {A B : List α} {i : Nat} (h : i < A.length) : (A ++ B).getD i d = A.getD i d := by
  rw [List.getD_eq_getElem?_getD, List.getElem?_append_left h, ← List.getD_eq_getElem?_getD]

theorem getD_right {α : Type} {d : α} {A B : List α} {i : Nat} (h : A.length ≤ i) : (A ++ B).getD i d = B.getD (i - A.length) d := by
  rw [List.getD_eq_getElem?_getD, List.getElem?_append_right h, ← List.getD_eq_getElem?_getD]

theorem mem_at {gs : List (Nat × Nat)} {r : Nat × Nat} (h : r ∈ gs) : ∃ i, i < gs.length ∧ gs.getD i (0, 0) = r := by
  obtain ⟨i, hi, hir⟩ := List.mem_iff_getElem.1 h
  exact ⟨i, hi, by rw [← hir]; simp [hi]⟩

theorem lists_cat {X X' : World} {base n N M : Nat} {v v5 : Value} {gs hs : List (Nat × Nat)} {L K : List (List Value)}
    (hN : L.length = N) (hg : gs.length = N) (hM : K.length = M) (hh : hs.length = M) (hout : X.ownsRow base 22 1 v N (gs.map (sl n)))
    (hin : ∀ i, i < N → X.ownsRow base 3 1 (sl n (gs.getD i (0, 0))) n (L.getD i [])) (hnd : (gs.map (·.1)).Nodup)
    (hin2 : ∀ i, i < M → X.ownsRow base 3 1 (sl n (hs.getD i (0, 0))) n (K.getD i [])) (hnd2 : (hs.map (·.1)).Nodup)
    (hfresh : ∀ i j, i < N → j < M → (gs.getD i (0, 0)).1 ≠ (hs.getD j (0, 0)).1)
    (ho5 : X'.ownsRow base 22 1 v5 (N + M) (gs.map (sl n) ++ hs.map (sl n))) (hgrow : X.grownBy X' v.ownBlock) : Lists X' base n v5 (L ++ K) := by
  have hall : ∀ i, i < N + M → X'.ownsRow base 3 1 (sl n ((gs ++ hs).getD i (0, 0))) n ((L ++ K).getD i []) := by
    intro i hi
    by_cases h : i < N
    · rw [getD_left (by omega), getD_left (by omega)]
      exact own_mark (hin i h) hgrow (fun a ha e => own_types hout (hin i h) (by decide) e ha)
    · rw [getD_right (by omega), getD_right (by omega), hg, hN]
      exact own_mark (hin2 _ (by omega)) hgrow (fun a ha e => own_types hout (hin2 (i - N) (by omega)) (by decide) e ha)
  refine ⟨gs ++ hs, by simp [hg, hN, hM, hh], ?_, ?_, ?_, ?_⟩
  · rw [List.length_append, hN, hM, List.map_append]; exact ho5
  · intro i hi
    rw [List.length_append, hN, hM] at hi
    exact hall i hi
  · rw [List.map_append, List.nodup_append]
    refine ⟨hnd, hnd2, ?_⟩
    intro a ha b hb e
    obtain ⟨r, hr, rfl⟩ := List.mem_map.1 ha
    obtain ⟨s, hs1, rfl⟩ := List.mem_map.1 hb
    obtain ⟨i, hi, hir⟩ := mem_at hr
    obtain ⟨j, hj, hjs⟩ := mem_at hs1
    have h1 := hfresh i j (by omega) (by omega)
    rw [hir, hjs] at h1
    exact h1 e
  · intro r hr e
    obtain ⟨i, hi, hir⟩ := mem_at hr
    have h1 := hall i (by rw [List.length_append] at hi; omega)
    rw [hir] at h1
    exact own_types ho5 h1 (by decide) e rfl

/-- One owned list, in a list. -/
theorem lists_one {W : World} {base n c g : Nat} {q : List Value} (hb : base ≤ W.heap.size) (hq : W.ownsRow base 3 1 (.slice (some ⟨g, 0, none⟩) n c) n q) :
    Lists (W.alloc (.cells #[.slice (some ⟨g, 0, none⟩) n c] 22)) base n (.slice (some ⟨W.heap.size, 0, none⟩) 1 1) [q] := by
  have h2 := World.ownsRow_lit (base := base) (e := 22) (size := 1) W #[.slice (some ⟨g, 0, none⟩) n c] 1 hb (by unfold maxLen; omega) (by simp)
  have hlt := own_block_lt hq (q := g) rfl
  refine ⟨[(g, c)], rfl, h2, ?_, by simp, ?_⟩
  · intro i hi
    have : i = 0 := by simp at hi; exact hi
    subst this
    exact hq.alloc _
  · intro p hp e
    simp at hp
    subst hp
    have : W.heap.size = g := by simpa [Value.ownBlock] using e
    omega

theorem lists_empty {W : World} {base n : Nat} (hb : base ≤ W.heap.size) : Lists (W.alloc (.cells #[] 22)) base n (.slice (some ⟨W.heap.size, 0, none⟩) 0 0) [] :=
  ⟨[], rfl, World.ownsRow_made (base := base) (e := 22) (size := 1) W #[] 0 hb (by unfold maxLen; omega) rfl, fun i hi => absurd hi (by simp), by simp, fun p hp => by simp at hp⟩

end Go.Proofs.Ytpkjnlabjmpokaa.ListsGC
