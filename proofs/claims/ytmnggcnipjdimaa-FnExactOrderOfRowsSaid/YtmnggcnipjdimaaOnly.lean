/-
  Of what was there only some rows have turned. Plain facts on worlds. Conditions: none.
-/
import Derived.Test.YtmnggcnipjdimaaRR
namespace Go.Proofs.Ytmnggcnipjdimaa.OnlyC
open Go.RowKit SeesC IntsC ExactC ListsC ListsEC ListsFC LLC RagMarkC RagResC RRC

/-- Of what was there, only the rows that S names have turned. -/
def Only (S : List Nat) (w w' : World) : Prop :=
  w'.os = w.os ∧ w'.tape = w.tape ∧ w'.output = w.output ∧ w.heap.size ≤ w'.heap.size ∧ ∀ k, k < w.heap.size → k ∉ S → w'.heap[k]? = w.heap[k]?

theorem only_refl (S : List Nat) (w : World) : Only S w w := ⟨rfl, rfl, rfl, Nat.le_refl _, fun _ _ _ => rfl⟩

theorem only_trans {S : List Nat} {a b c : World} (h : Only S a b) (k : Only S b c) : Only S a c :=
  ⟨k.1.trans h.1, k.2.1.trans h.2.1, k.2.2.1.trans h.2.2.1, Nat.le_trans h.2.2.2.1 k.2.2.2.1, fun q hq hs => (k.2.2.2.2 q (by have := h.2.2.2.1; omega) hs).trans (h.2.2.2.2 q hq hs)⟩

theorem only_new {S : List Nat} {w w' : World} (h : Below w.heap.size w w') : Only S w w' := ⟨h.os, h.tape, h.output, h.size, fun k hk _ => h.block k hk⟩

theorem only_grown {S : List Nat} {a b : World} {row : Option Nat} (h : a.grownBy b row) (hr : ∀ q, row = some q → q ∈ S) : Only S a b :=
  ⟨h.os, h.tape, h.output, h.size, fun k hk hs => h.block k hk (fun e => hs (hr k e.symm))⟩

theorem only_set {S : List Nat} (w : World) (p : Addr) (u : Value) (h : p.block ∈ S) : Only S w (w.setCell p u) :=
  ⟨rfl, rfl, rfl, by simp, fun k _ hs => Below.heap_setCell w p u k (fun e => hs (e ▸ h))⟩

theorem only_below {S : List Nat} {base : Nat} {W X : World} (h : Only S W X) (hS : ∀ q, q ∈ S → base ≤ q) (hb : base ≤ W.heap.size) : Below base W X :=
  ⟨h.1, h.2.1, h.2.2.1, h.2.2.2.1, fun k hk => h.2.2.2.2 k (by omega) (fun e => by have := hS k e; omega)⟩

theorem own_only {S : List Nat} {w w' : World} {B : Nat} {ty : TypeId} {v : Value} {n : Nat} {xs : List Value} (h : w.ownsRow B ty 1 v n xs) (ho : Only S w w') (hne : ∀ a, v.ownBlock = some a → a ∉ S) : w'.ownsRow B ty 1 v n xs := by
  refine ⟨h.1, ?_⟩
  rcases h.2 with h0 | ⟨g, cap, cur, hv, hb, hh, hnc, hcm, hcs, ht⟩
  · exact .inl h0
  · refine .inr ⟨g, cap, cur, hv, hb, ?_, hnc, hcm, hcs, ht⟩
    rw [ho.2.2.2.2 g (h.lt g (by rw [hv]; rfl)).2 (hne g (by rw [hv]; rfl))]; exact hh

theorem rr_only {S : List Nat} {X X' : World} {base : Nat} {v : Value} {gs : List (Nat × Nat)} {L : List (List Int)} (h : RR X base v gs L) (ho : Only S X X') (hv : ∀ q, v.ownBlock = some q → q ∉ S) (hg : ∀ i, i < L.length → (gs.getD i (0, 0)).1 ∉ S) : RR X' base v gs L :=
  ⟨h.1, own_only h.2.1 ho hv, fun i hi => own_only (h.2.2.1 i hi) ho (fun a ha => by have e : (gs.getD i (0, 0)).1 = a := Option.some.inj ha; rw [← e]; exact hg i hi), h.2.2.2⟩

theorem mem_places {gs : List (Nat × Nat)} {i : Nat} (h : i < gs.length) : (gs.getD i (0, 0)).1 ∈ gs.map (·.1) := by
  rw [List.mem_map]
  exact ⟨gs.getD i (0, 0), by rw [List.getD_eq_getElem?_getD, List.getElem?_eq_getElem h]; simp, rfl⟩

theorem set_same {gs : List (Nat × Nat)} {i : Nat} {p : Nat × Nat} (h : gs.getD i (0, 0) = p) (hi : i < gs.length) : gs.set i p = gs := by
  rw [← h, List.getD_eq_getElem?_getD, List.getElem?_eq_getElem hi]
  simp

end Go.Proofs.Ytmnggcnipjdimaa.OnlyC
