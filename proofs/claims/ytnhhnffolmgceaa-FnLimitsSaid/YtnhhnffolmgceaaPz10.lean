/-
  An argument that is a slice of texts or of integers, opened for a walk that only reads it. Conditions: none. Plain facts on the form: nothing of the program.
-/
import Derived.Test.YtnhhnffolmgceaaPz1
import Derived.OpenShut
import Derived.SliceStrings
import Derived.ChangeOld

namespace Go.Proofs.Ytnhhnffolmgceaa.OpenC
open Go.ChangeShapes Go.WideShapes Go.ChangeAt Go.RowKit SeesC

theorem addr_spot {w : World} {x : Addr} {u : Value} (h : w.cell? (x.add 0) = some u) : ∃ b o, x = ⟨b, o, none⟩ := by
  obtain ⟨b, o, spot⟩ := x
  have hspot : spot = none := by simpa [Addr.add] using World.cell?_spot h
  subst hspot
  exact ⟨b, o, rfl⟩

theorem add_none (b o j : Nat) : (⟨b, o, none⟩ : Addr).add j = ⟨b, o + j, none⟩ := by unfold Addr.add; split <;> simp_all

theorem sees_strings {H : Type} {enc : TypeId × Value → H} {P : Program} {W : World} {t e : TypeId} {v : Value} {d : DataW H} {ps : List MemPlace} (ht : P.underlying t = some (.slice e)) (he : P.underlying e = some .string) (hc : P.cellsOf e = 1)
    {base : Nat} {r : Reach} (hok : Value.okWide P W r base t v) (h : DataW.Trod enc P W 0 (fun _ => true) true t v d ps) :
    ∃ (n : Nat) (ss : List ByteArray), Sees W v n (ss.map Value.string) ∧ n ≤ maxLen ∧ ∀ s ∈ ss, s.size ≤ maxLen := by
  obtain ⟨a0, len0, cap0, rfl⟩ := okWide_slice ht hok
  obtain ⟨fuel, hf⟩ := h
  rcases open_strings ht he hc hf with ⟨hcs, _⟩ | ⟨x, l, c, ss, hcs, _, hl, hm, hz, _, hcell, hss⟩
  · simp [Value.cells] at hcs
    obtain ⟨rfl, rfl, rfl⟩ := hcs
    exact ⟨0, [], Sees.nil _ _ _, by unfold maxLen; omega, by simp⟩
  · simp [Value.cells] at hcs
    obtain ⟨rfl, rfl, rfl⟩ := hcs
    have hz' : ss.length = cap0 := by simpa using hz
    refine ⟨len0, ss.take len0, ⟨by simp; omega, some x, cap0, rfl, hl, fun hn => ?_⟩, Nat.le_trans hl hm, fun s hs => hss s (List.mem_of_mem_take hs)⟩
    obtain ⟨b, o, rfl⟩ := addr_spot (hcell 0 (by omega))
    refine ⟨b, o, rfl, fun j u hu => ?_⟩
    rw [List.getElem?_map, List.getElem?_take] at hu
    split at hu
    · rename_i hj
      have hj2 : j < ss.length := by omega
      rw [List.getElem?_eq_getElem hj2] at hu
      simp at hu
      have := hcell j hj2
      rw [add_none] at this
      rw [this, ← hu]
      simp [hj2]
    · simp at hu

theorem sees_ints {H : Type} {enc : TypeId × Value → H} {P : Program} {W : World} {t e : TypeId} {k : IntKind} {v : Value} {d : DataW H} {ps : List MemPlace} (ht : P.underlying t = some (.slice e)) (he : P.underlying e = some (.int k)) (hc : P.cellsOf e = 1)
    {base : Nat} {r : Reach} (hok : Value.okWide P W r base t v) (h : DataW.Trod enc P W 0 (fun _ => true) true t v d ps) :
    ∃ (n : Nat) (zs : List Int), Sees W v n (zs.map (Value.int k)) ∧ n ≤ maxLen ∧ ∀ z ∈ zs, (Lit.int k z).wf = true := by
  obtain ⟨a0, len0, cap0, rfl⟩ := okWide_slice ht hok
  obtain ⟨fuel, hf⟩ := h
  rcases open_ints ht he hc hf with ⟨hcs, _⟩ | ⟨x, l, c, ss, hcs, _, hl, hm, hz, _, hcell, hss⟩
  · simp [Value.cells] at hcs
    obtain ⟨rfl, rfl, rfl⟩ := hcs
    exact ⟨0, [], Sees.nil _ _ _, by unfold maxLen; omega, by simp⟩
  · simp [Value.cells] at hcs
    obtain ⟨rfl, rfl, rfl⟩ := hcs
    have hz' : ss.length = cap0 := by simpa using hz
    refine ⟨len0, ss.take len0, ⟨by simp; omega, some x, cap0, rfl, hl, fun hn => ?_⟩, Nat.le_trans hl hm, fun s hs => hss s (List.mem_of_mem_take hs)⟩
    obtain ⟨b, o, rfl⟩ := addr_spot (hcell 0 (by omega))
    refine ⟨b, o, rfl, fun j u hu => ?_⟩
    rw [List.getElem?_map, List.getElem?_take] at hu
    split at hu
    · rename_i hj
      have hj2 : j < ss.length := by omega
      rw [List.getElem?_eq_getElem hj2] at hu
      simp at hu
      have := hcell j hj2
      rw [add_none] at this
      rw [this, ← hu]
      simp [hj2]
    · simp at hu

end Go.Proofs.Ytnhhnffolmgceaa.OpenC
