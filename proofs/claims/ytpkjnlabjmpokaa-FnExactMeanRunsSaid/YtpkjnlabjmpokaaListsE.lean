/-
  Lists of lists as answers, and what the walks of their exact laws carry from call to call. Conditions: lists of at most 2^20 lists.
-/
import Derived.Test.YtpkjnlabjmpokaaListsD
namespace Go.Proofs.Ytpkjnlabjmpokaa.ListsEC
open Go.RowKit SeesC IntsC ExactC ListsC ListsDC

/-- Lists of lists that have a property are returned, in memory of the call's own, and a truth value. -/
def LLTo (w : World) (e : Ending) (w' : World) (n : Nat) (b : Bool) (Q : List (List Int) → Prop) : Prop :=
  ∃ v R, e = .returned (.tuple #[v, .bool b]) ∧ Q R ∧ Lists w' w.heap.size n v (R.map vals) ∧ Below w.heap.size w w'

theorem lists_nil {w : World} {base n m : Nat} {v : Value} (h : Lists w base n v []) : Lists w base m v [] := by
  obtain ⟨gs, h1, h2, h3, h4, h5⟩ := h
  have hg : gs = [] := List.eq_nil_of_length_eq_zero h1
  subst hg
  exact ⟨[], rfl, h2, fun i hi => absurd hi (by simp), by simp, fun p hp => by simp at hp⟩

theorem lists_far {w w' : World} {row : Option Nat} {base n : Nat} {v : Value} {L : List (List Value)} (h : Lists w base n v L) (hg : w.grownBy w' row) (hq : ∀ q, row = some q → q < base) : Lists w' base n v L := by
  obtain ⟨gs, h1, h2, h3, h4, h5⟩ := h
  exact ⟨gs, h1, own_mark h2 hg (fun a ha e => by have h6 := own_block_lt h2 ha; have := hq a e; omega), fun i hi => own_mark (h3 i hi) hg (fun a ha e => by have h6 := own_block_lt (h3 i hi) ha; have := hq a e; omega), h4, h5⟩

/-- Lists that lie below a bound. -/
def Under (w : World) (B base n : Nat) (v : Value) (L : List (List Value)) : Prop :=
  ∃ gs : List (Nat × Nat), gs.length = L.length ∧ w.ownsRow base 22 1 v L.length (gs.map (sl n)) ∧
    (∀ i, i < L.length → w.ownsRow base 3 1 (sl n (gs.getD i (0, 0))) n (L.getD i [])) ∧
    (gs.map (·.1)).Nodup ∧ (∀ p ∈ gs, v.ownBlock ≠ some p.1) ∧ (∀ q, v.ownBlock = some q → q < B) ∧ (∀ i, i < L.length → (gs.getD i (0, 0)).1 < B)

theorem Under.lists {w : World} {B base n : Nat} {v : Value} {L : List (List Value)} (h : Under w B base n v L) : Lists w base n v L := by
  obtain ⟨gs, h1, h2, h3, h4, h5, _, _⟩ := h
  exact ⟨gs, h1, h2, h3, h4, h5⟩

theorem under_of {w : World} {base n : Nat} {v : Value} {L : List (List Value)} (h : Lists w base n v L) : Under w w.heap.size base n v L := by
  obtain ⟨gs, h1, h2, h3, h4, h5⟩ := h
  exact ⟨gs, h1, h2, h3, h4, h5, fun q hq => (own_block_lt h2 hq).2, fun i hi => (own_block_lt (h3 i hi) rfl).2⟩

theorem Under.kept {w w' : World} {B base n : Nat} {v : Value} {L : List (List Value)} (h : Under w B base n v L) (hb : Below w.heap.size w w') : Under w' B base n v L := by
  obtain ⟨gs, h1, h2, h3, h4, h5, h6, h7⟩ := h
  exact ⟨gs, h1, kept_call h2 hb, fun i hi => kept_call (h3 i hi) hb, h4, h5, h6, h7⟩

theorem under_far {w w' : World} {row : Option Nat} {B base n : Nat} {v : Value} {L : List (List Value)} (h : Under w B base n v L) (hg : w.grownBy w' row) (hq : ∀ q, row = some q → B ≤ q) : Under w' B base n v L := by
  obtain ⟨gs, h1, h2, h3, h4, h5, h6, h7⟩ := h
  refine ⟨gs, h1, own_mark h2 hg (fun a ha e => by have := h6 a ha; have := hq a e; omega), fun i hi => own_mark (h3 i hi) hg (fun a ha e => ?_), h4, h5, h6, h7⟩
  have h8 := h7 i hi
  have h9 := hq a e
  have h10 : (gs.getD i (0, 0)).1 = a := Option.some.inj ha
  omega

/-- A world in which all below a bound is as it was, as one that has grown elsewhere. -/
theorem own_below {w w' : World} {D base n : Nat} {ty : TypeId} {v : Value} {xs : List Value} (h : w.ownsRow base ty 1 v n xs) (hb : Below D w w') (hlt : ∀ q, v.ownBlock = some q → q < D) : w'.ownsRow base ty 1 v n xs := by
  obtain ⟨h1, h2⟩ := h
  refine ⟨h1, ?_⟩
  rcases h2 with h | ⟨g, cap, cur, hv, hg, hrest⟩
  · exact .inl h
  · have hgd : g < D := hlt g (by rw [hv]; rfl)
    have he := hb.block g hgd
    exact .inr ⟨g, cap, cur, hv, hg, by rw [he]; exact hrest⟩

theorem under_below {w w' : World} {D B base n : Nat} {v : Value} {L : List (List Value)} (h : Under w B base n v L) (hb : Below D w w') (hD : B ≤ D) : Under w' B base n v L := by
  obtain ⟨gs, h1, h2, h3, h4, h5, h6, h7⟩ := h
  refine ⟨gs, h1, own_below h2 hb (fun q hq => Nat.lt_of_lt_of_le (h6 q hq) hD), fun i hi => own_below (h3 i hi) hb (fun q hq => ?_), h4, h5, h6, h7⟩
  have h10 : (gs.getD i (0, 0)).1 = q := Option.some.inj hq
  have := h7 i hi
  omega

end Go.Proofs.Ytpkjnlabjmpokaa.ListsEC
