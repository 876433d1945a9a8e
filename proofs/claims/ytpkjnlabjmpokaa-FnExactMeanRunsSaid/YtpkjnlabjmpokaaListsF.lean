/-
  One list more behind owned lists. Conditions: none. Plain facts on worlds.
-/
import Derived.Test.YtpkjnlabjmpokaaListsE
namespace Go.Proofs.Ytpkjnlabjmpokaa.ListsFC
open Go.RowKit SeesC IntsC ExactC ListsC ListsEC

theorem own_types {w : World} {b1 b2 n1 n2 a : Nat} {t1 t2 : TypeId} {v1 v2 : Value} {xs ys : List Value} (h1 : w.ownsRow b1 t1 1 v1 n1 xs) (h2 : w.ownsRow b2 t2 1 v2 n2 ys) (ht : t1 ≠ t2) (e1 : v1.ownBlock = some a) (e2 : v2.ownBlock = some a) : False := by
  rcases h1.2 with ⟨rfl, _⟩ | ⟨g1, c1, cu1, rfl, _, hb1, _⟩
  · cases e1
  · rcases h2.2 with ⟨rfl, _⟩ | ⟨g2, c2, cu2, rfl, _, hb2, _⟩
    · cases e2
    · have x1 : g1 = a := Option.some.inj e1
      have x2 : g2 = a := Option.some.inj e2
      subst x1
      subst x2
      rw [hb1] at hb2
      cases hb2
      exact ht rfl

theorem infoL : (Try.prog.info? 22).map (fun i => (i.zero, i.size, i.bytes)) = some (some (.slice none 0 0), 1, 24) := by kernel_rfl

theorem lists_snoc {X X' : World} {base n N : Nat} {v v5 : Value} {gs : List (Nat × Nat)} {p : Nat × Nat} {L : List (List Value)} {q : List Value}
    (hN : L.length = N) (hg : gs.length = N) (hout : X.ownsRow base 22 1 v N (gs.map (sl n)))
    (hin : ∀ i, i < N → X.ownsRow base 3 1 (sl n (gs.getD i (0, 0))) n (L.getD i [])) (hnd : (gs.map (·.1)).Nodup)
    (hp : X.ownsRow base 3 1 (sl n p) n q) (hfresh : ∀ i, i < N → (gs.getD i (0, 0)).1 ≠ p.1)
    (ho5 : X'.ownsRow base 22 1 v5 (N + 1) (gs.map (sl n) ++ [sl n p])) (hgrow : X.grownBy X' v.ownBlock) : Lists X' base n v5 (L ++ [q]) := by
  have hall : ∀ i, i < N + 1 → X'.ownsRow base 3 1 (sl n ((gs ++ [p]).getD i (0, 0))) n ((L ++ [q]).getD i []) := by
    intro i hi
    by_cases h : i < N
    · have e1 : (gs ++ [p]).getD i (0, 0) = gs.getD i (0, 0) := by rw [List.getD_eq_getElem?_getD, List.getElem?_append_left (by omega), ← List.getD_eq_getElem?_getD]
      have e2 : (L ++ [q]).getD i [] = L.getD i [] := by rw [List.getD_eq_getElem?_getD, List.getElem?_append_left (by omega), ← List.getD_eq_getElem?_getD]
      rw [e1, e2]
      exact own_mark (hin i h) hgrow (fun a ha e => own_types hout (hin i h) (by decide) e ha)
    · have hi2 : i = N := by omega
      subst hi2
      have e1 : (gs ++ [p]).getD i (0, 0) = p := by rw [List.getD_eq_getElem?_getD, List.getElem?_append_right (by omega), hg]; simp
      have e2 : (L ++ [q]).getD i [] = q := by rw [List.getD_eq_getElem?_getD, List.getElem?_append_right (by omega), hN]; simp
      rw [e1, e2]
      exact own_mark hp hgrow (fun a ha e => own_types hout hp (by decide) e ha)
  refine ⟨gs ++ [p], by simp [hg, hN], ?_, ?_, ?_, ?_⟩
  · rw [List.length_append, hN, List.map_append]; exact ho5
  · intro i hi
    rw [List.length_append, hN] at hi
    exact hall i hi
  · rw [List.map_append, List.nodup_append]
    refine ⟨hnd, by simp, ?_⟩
    intro a ha b hb e
    simp at hb
    subst hb
    obtain ⟨r, hr, rfl⟩ := List.mem_map.1 ha
    obtain ⟨i, hi, hir⟩ := List.mem_iff_getElem.1 hr
    have h1 := hfresh i (by omega)
    have h2 : gs.getD i (0, 0) = r := by rw [← hir]; simp [hi]
    rw [h2] at h1
    exact h1 e
  · intro r hr e
    obtain ⟨i, hi, hir⟩ := List.mem_iff_getElem.1 hr
    have hi2 : i < N + 1 := by rw [List.length_append, hg] at hi; simpa using hi
    have h1 := hall i hi2
    have h2 : (gs ++ [p]).getD i (0, 0) = r := by rw [← hir, List.getD_eq_getElem?_getD, List.getElem?_eq_getElem hi]; rfl
    rw [h2] at h1
    exact own_types ho5 h1 (by decide) e rfl

/-- One empty list, in a list. -/
theorem lists_start (W : World) : Lists ((W.alloc (.cells #[] 3)).alloc (.cells #[.slice (some ⟨W.heap.size, 0, none⟩) 0 0] 22)) W.heap.size 0 (.slice (some ⟨W.heap.size + 1, 0, none⟩) 1 1) [[]] ∧
    Below W.heap.size W ((W.alloc (.cells #[] 3)).alloc (.cells #[.slice (some ⟨W.heap.size, 0, none⟩) 0 0] 22)) := by
  have h1 := World.ownsRow_made (base := W.heap.size) (e := 3) (size := 1) W #[] 0 (Nat.le_refl _) (by unfold maxLen; omega) rfl
  have h2 := World.ownsRow_lit (base := W.heap.size) (e := 22) (size := 1) (W.alloc (.cells #[] 3)) #[.slice (some ⟨W.heap.size, 0, none⟩) 0 0] 1 (by simp) (by unfold maxLen; omega) (by simp)
  rw [World.size_alloc] at h2
  refine ⟨⟨[(W.heap.size, 0)], rfl, h2, ?_, by simp, ?_⟩, ((Below.refl _ _).alloc (Nat.le_refl _) _).alloc (by simp) _⟩
  · intro i hi
    have : i = 0 := by simp at hi; exact hi
    subst this
    exact h1.alloc _
  · intro p hp
    simp at hp
    subst hp
    simp [Value.ownBlock]

end Go.Proofs.Ytpkjnlabjmpokaa.ListsFC
