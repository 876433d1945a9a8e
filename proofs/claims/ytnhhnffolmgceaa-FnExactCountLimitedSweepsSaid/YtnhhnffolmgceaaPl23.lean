/-
  Contract: the program's lists of places, level by level. Conditions: at most 7 places of 7.
-/
import Derived.Test.YtnhhnffolmgceaaPl18
import Derived.Test.YtnhhnffolmgceaaPl19
import Derived.ArgAppend
import Derived.IntWalk

namespace Go.Proofs.Ytnhhnffolmgceaa.PlacesC
open Go.RowKit SeesC IntsC ExactC OrdMath InC OrderC PatMath ShapeC ListsC ListsEC ListsFC

/-- Places as values. -/
abbrev nv (q : List Nat) : List Value := vals (nat q)

theorem nv_len (q : List Nat) : (nv q).length = q.length := by simp [PatMath.nat]

theorem nv_snoc (b : List Nat) (p : Nat) : nv (b ++ [p]) = nv b ++ [.int .i64 (p : Int)] := by
  show List.map _ (List.map _ _) = List.map _ (List.map _ _) ++ _
  rw [List.map_append, List.map_append]; rfl

theorem take_next_flat {α β : Type} {l : List α} {i : Nat} (h : i < l.length) (g : α → List β) : (l.take (i + 1)).flatMap g = (l.take i).flatMap g ++ g l[i] := by
  rw [List.take_succ_eq_append_getElem h, List.flatMap_append]; simp

theorem range_next (s j : Nat) : List.range' s (j + 1) = List.range' s j ++ [s + j] := by
  rw [List.range'_concat]; simp

theorem part_next (f : List Nat → Bool) (b : List Nat) (s j : Nat) : ((List.range' s (j + 1)).map (fun p => b ++ [p])).filter f = ((List.range' s j).map (fun p => b ++ [p])).filter f ++ (if f (b ++ [s + j]) = true then [b ++ [s + j]] else []) := by
  rw [range_next, List.map_append, List.filter_append]
  simp [List.filter_cons]

theorem lev_below {n c : Nat} {f : List Nat → Bool} : ∀ l, ∀ q ∈ lev n c f l, ∀ p ∈ q, p < n
  | 0, q, h, p, hp => by simp [lev] at h; subst h; simp at hp
  | l + 1, q, h, p, hp => by
    unfold lev at h
    rw [List.mem_flatMap] at h
    obtain ⟨b, hb, hq⟩ := h
    have ih := lev_below l b hb
    have hq := (List.mem_filter.1 hq).1
    unfold nexts at hq
    rw [List.mem_map] at hq
    obtain ⟨x, hx, rfl⟩ := hq
    rw [List.mem_range'_1] at hx
    rw [List.mem_append, List.mem_singleton] at hp
    rcases hp with hp | rfl
    · exact ih p hp
    · omega

end Go.Proofs.Ytnhhnffolmgceaa.PlacesC
