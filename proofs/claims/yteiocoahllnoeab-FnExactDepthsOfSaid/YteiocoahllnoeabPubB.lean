/-
  Contracts: AvoidsAll, CountChildren of the model and of the program. Conditions: at most 2^20 numbers together.
-/
import Derived.Test.YteiocoahllnoeabAvoid
namespace Go.Proofs.Yteiocoahllnoeab.PubBC
open Go.RowKit SeesC IntsC ExactC OrdMath OrdFacts InC OrderC PatMath ShapeC InsertC ListsC ListsEC ListsFC PlacesC HasC SpecPlC LLC AvoidC

def avoidsAns (zs : List Int) (L : List (List Int)) : Bool × Bool := if Ord zs ∧ pats L = true then (avoids zs L, true) else (false, false)

/-- For how many of the first k numbers the order with it behind avoids all. -/
def kids (zs : List Int) (L : List (List Int)) : Nat → Nat
  | 0 => 0
  | k + 1 => kids zs L k + (if avoids (ins zs ((k : Int) + 1)) L = true then 1 else 0)

theorem kids_le (zs : List Int) (L : List (List Int)) : ∀ k, kids zs L k ≤ k := by
  intro k
  induction k with
  | zero => simp [kids]
  | succ k ih => unfold kids; split <;> omega

def childrenAns (zs : List Int) (L : List (List Int)) : Int × Bool := if Ord zs ∧ zs.length ≠ 7 ∧ pats L = true then ((kids zs L (zs.length + 1) : Nat), true) else (0, false)

theorem ins_nodup {zs : List Int} (h : zs.Nodup) (k : Int) : (ins zs k).Nodup := by
  unfold ins
  rw [List.nodup_append]
  refine ⟨?_, by simp, ?_⟩
  · rw [List.nodup_iff_pairwise_ne, List.pairwise_map]
    refine List.Pairwise.imp ?_ (List.nodup_iff_pairwise_ne.1 h)
    intro a b hab
    split <;> split <;> omega
  · intro x hx y hy e
    simp at hy
    obtain ⟨z, _, rfl⟩ := List.mem_map.1 hx
    split at e <;> omega

theorem ins_ord {zs : List Int} (h : Ord zs) (h7 : zs.length ≠ 7) {k : Int} (h1 : 1 ≤ k) (h2 : k ≤ (zs.length : Int) + 1) : Ord (ins zs k) := by
  refine ⟨by rw [ins_len]; omega, by rw [ins_len]; have := h.2.1; omega, ?_, ins_nodup h.2.2.2 k⟩
  intro z hz
  rw [ins_len]
  unfold ins at hz
  rw [List.mem_append] at hz
  rcases hz with hz | hz
  · obtain ⟨y, hy, rfl⟩ := List.mem_map.1 hz
    have := h.2.2.1 y hy
    split <;> omega
  · simp at hz
    omega

end Go.Proofs.Yteiocoahllnoeab.PubBC
