/-
  What a walk is told of a slice that it only reads, and how that is kept where memory grows. Conditions: none. Plain facts on worlds: nothing of the program.
-/
import Derived.Test.YtnhhnffolmgceaaRows
import Derived.WalkKit
import Derived.ProofKit
import Derived.OwnWalk
import Derived.Laws.OwnMore
import Derived.Below
import Derived.Deep.Draws
import Derived.Deep.QuietTactic

namespace Go.Proofs.Ytnhhnffolmgceaa.SeesC
open Go.RowKit

/-- The slice value v, of n elements of one cell each, reads as the list xs in the world w. -/
def Sees (w : World) (v : Value) (n : Nat) (xs : List Value) : Prop :=
  xs.length = n ∧ ∃ a cap, v = .slice a n cap ∧ n ≤ cap ∧ (0 < n → ∃ b o, a = some ⟨b, o, none⟩ ∧ ∀ j u, xs[j]? = some u → w.cell? ⟨b, o + j, none⟩ = some u)

theorem Sees.nil (w : World) (a : Option Addr) (cap : Nat) : Sees w (.slice a 0 cap) 0 [] := ⟨rfl, a, cap, rfl, Nat.zero_le _, fun h => by omega⟩

/-- What is kept: every block but one (or all). -/
theorem Sees.kept {w w' : World} {row : Option Nat} {v : Value} {n : Nat} {xs : List Value} (h : Sees w v n xs) (hg : w.grownBy w' row) (hne : ∀ a, v.ownBlock = some a → row ≠ some a) : Sees w' v n xs := by
  obtain ⟨h1, a, cap, rfl, h3, h2⟩ := h
  refine ⟨h1, a, cap, rfl, h3, fun hn => ?_⟩
  obtain ⟨b, o, rfl, hc⟩ := h2 hn
  refine ⟨b, o, rfl, fun j u hu => hg.cell (hc j u hu) ?_⟩
  intro e
  exact hne b rfl e.symm

theorem Sees.below {w w' : World} {B : Nat} {v : Value} {n : Nat} {xs : List Value} (h : Sees w v n xs) (hb : Below B w w') (hlt : ∀ b, v.ownBlock = some b → 0 < n → b < B) : Sees w' v n xs := by
  obtain ⟨h1, a, cap, rfl, h3, h2⟩ := h
  refine ⟨h1, a, cap, rfl, h3, fun hn => ?_⟩
  obtain ⟨b, o, rfl, hc⟩ := h2 hn
  exact ⟨b, o, rfl, fun j u hu => (hb.cell (p := ⟨b, o + j, none⟩) (hlt b rfl hn)).trans (hc j u hu)⟩

/-- A slice that is read lies in the heap. -/
theorem Sees.lt {w : World} {v : Value} {n : Nat} {xs : List Value} (h : Sees w v n xs) (hn : 0 < n) : ∀ b, v.ownBlock = some b → b < w.heap.size := by
  obtain ⟨h1, a, cap, rfl, h3, h2⟩ := h
  obtain ⟨b, o, rfl, hc⟩ := h2 hn
  intro b' hb'
  simp [Value.ownBlock] at hb'
  subst hb'
  have h0 : xs[0]? = some xs[0] := List.getElem?_eq_getElem (by omega)
  exact World.block_lt_of_cell? w _ (hc 0 _ h0)

theorem Sees.grow {w w' : World} {v : Value} {n : Nat} {xs : List Value} (h : Sees w v n xs) (hb : Below w.heap.size w w') : Sees w' v n xs :=
  h.below hb fun b hv hn => h.lt hn b hv

theorem Sees.drewN {w : World} {v : Value} {n k : Nat} {xs : List Value} (h : Sees w v n xs) : Sees (w.drewN k) v n xs := by
  obtain ⟨h1, a, cap, rfl, h3, h2⟩ := h
  exact ⟨h1, a, cap, rfl, h3, fun hn => h2 hn⟩

/-- The world has drawn, and nothing else. -/
def Drawn (w w' : World) : Prop := ∃ m, w' = w.drewN m

theorem Drawn.refl (w : World) : Drawn w w := ⟨0, rfl⟩
theorem Drawn.next {w w' : World} (h : Drawn w w') (q : Nat) : Drawn w (w'.drewN q) := by
  obtain ⟨m, rfl⟩ := h; exact ⟨m + q, by rw [World.drewN_drewN]⟩
theorem Drawn.trans {a b c : World} (h : Drawn a b) (k : Drawn b c) : Drawn a c := by
  obtain ⟨q, rfl⟩ := k; exact h.next q
theorem Drawn.cell {w w' : World} (h : Drawn w w') (p : Addr) : w'.cell? p = w.cell? p := by obtain ⟨m, rfl⟩ := h; rfl
theorem Drawn.heap {w w' : World} (h : Drawn w w') : w'.heap = w.heap := by obtain ⟨m, rfl⟩ := h; rfl
theorem Drawn.below {w w' : World} (h : Drawn w w') (B : Nat) : Below B w w' := by obtain ⟨m, rfl⟩ := h; exact ⟨rfl, rfl, rfl, Nat.le_refl _, fun _ _ => rfl⟩
theorem Drawn.sees {w w' : World} {v : Value} {n : Nat} {xs : List Value} (hd : Drawn w w') (h : Sees w v n xs) : Sees w' v n xs := by
  obtain ⟨m, rfl⟩ := hd; exact h.drewN

/-- A contract whose call may draw, met in a region that draws its order. -/
theorem quiet_drawn {P : Program} {f : FuncId} {args : Array Value} {w : World} {n : Nat} {v : Value}
    (h : Calls P f args (w.drewN n) fun e w' => e = .returned v ∧ Drawn (w.drewN n) w') : Calls P f args (w.drewN n) fun e w'' => e = .returned v ∧ ∃ m, w'' = w.drewN m :=
  h.mono fun _ _ ⟨he, m, hm⟩ => ⟨he, n + m, by rw [hm, World.drewN_drewN]⟩

/-- A contract that leaves the world alone, met in a region that draws its order. -/
theorem quiet_same {P : Program} {f : FuncId} {args : Array Value} {w : World} {n : Nat} {v : Value}
    (h : Calls P f args (w.drewN n) fun e w' => e = .returned v ∧ w.drewN n = w') : Calls P f args (w.drewN n) fun e w'' => e = .returned v ∧ ∃ m, w'' = w.drewN m :=
  h.mono fun _ _ ⟨he, hm⟩ => ⟨he, n, hm.symm⟩

/-- What the call owns it sees. -/
theorem Sees.owns {w : World} {base : Nat} {e : TypeId} {v : Value} {n : Nat} {xs : List Value} (h : w.ownsRow base e 1 v n xs) : Sees w v n xs := by
  have hl : xs.length = n := by simpa using h.1
  have hc := fun g hg => h.cells (g := g) hg
  rcases h.2 with ⟨rfl, rfl⟩ | ⟨g, cap, cur, rfl, _, _, hnc, _⟩
  · exact ⟨hl, none, 0, rfl, Nat.le_refl _, fun h => by omega⟩
  · refine ⟨hl, _, cap, rfl, hnc, fun hn => ⟨g, 0, rfl, fun j u hu => ?_⟩⟩
    have := hc g rfl j u hu
    have hadd : (⟨g, 0, none⟩ : Addr).add j = ⟨g, 0 + j, none⟩ := by unfold Addr.add; split <;> simp_all
    rw [hadd] at this
    exact this

end Go.Proofs.Ytnhhnffolmgceaa.SeesC
