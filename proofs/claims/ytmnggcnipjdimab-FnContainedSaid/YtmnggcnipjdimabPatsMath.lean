/-
  The mathematics of PatternsIn: the shapes at all places, in order, each once. Conditions: none. Plain facts.
-/
import Derived.Test.YtmnggcnipjdimabPatMath
import Derived.Test.YtmnggcnipjdimabDropMath
import Derived.Test.YtmnggcnipjdimabCompMath
namespace Go.Proofs.Ytmnggcnipjdimab.PatsMath
open OrdMath PatMath DropMath CmpC ListsBC OutsMath CompMath

/-- The shapes at all places, one behind the other. -/
def shs (zs : List Int) (k : Nat) : List (List Int) := (ch zs.length k []).map (fun q => shp (pick zs q))

theorem ch_128 : ∀ n, n < 8 → ∀ k, k < 8 → (ch n k []).length ≤ 128 := by decide +kernel

theorem shs_many {zs : List Int} {k : Nat} (h7 : zs.length ≤ 7) (hk : k ≤ 7) : (shs zs k).length ≤ 128 := by
  unfold shs
  rw [List.length_map]
  exact ch_128 _ (by omega) _ (by omega)

theorem shs_len {zs : List Int} {k : Nat} {x : List Int} (h : x ∈ shs zs k) : x.length = k := by
  unfold shs at h
  obtain ⟨q, hq, rfl⟩ := List.mem_map.1 h
  rw [shp_len, pick_len]
  have := (ch_pre _ _ q hq).1
  simpa using this

def okPats (zs : List Int) (k : Int) : Bool := decide (Ord zs ∧ 1 ≤ k ∧ k ≤ 7)

def patsQ (zs : List Int) (k : Int) (R : List (List Int)) : Prop := if okPats zs k = true then Sorted R ∧ ∀ x, x ∈ R ↔ x ∈ shs zs k.toNat else R = []

theorem patsQ_unique {zs : List Int} {k : Int} {R S : List (List Int)} (h1 : patsQ zs k R) (h2 : patsQ zs k S) : R = S := by
  unfold patsQ at h1 h2
  split at h1
  · rename_i h
    rw [if_pos h] at h2
    exact sorted_mem_unique h1.1 h2.1 (fun x => (h1.2 x).trans (h2.2 x).symm)
  · rename_i h
    rw [if_neg h] at h2
    rw [h1, h2]

theorem nodup_le : ∀ {l m : List (List Int)}, l.Nodup → (∀ x ∈ l, x ∈ m) → l.length ≤ m.length
  | [], m, _, _ => by simp
  | a :: l, m, hn, hs => by
    have ha : a ∈ m := hs a (by simp)
    have hn2 := List.nodup_cons.1 hn
    have ih := nodup_le (l := l) (m := m.erase a) hn2.2 (fun x hx => (List.mem_erase_of_ne (fun e => hn2.1 (by rw [← e]; exact hx))).2 (hs x (by simp [hx])))
    have h2 := List.length_erase_of_mem ha
    have h3 : 0 < m.length := List.length_pos_of_mem ha
    simp only [List.length_cons]
    omega

theorem patsQ_len {zs : List Int} {k : Int} {R : List (List Int)} (h : patsQ zs k R) : R.length ≤ 16384 := by
  unfold patsQ at h
  split at h
  · rename_i hk
    unfold okPats at hk
    rw [decide_eq_true_eq] at hk
    have h1 := nodup_le (sorted_nodup h.1) (fun x hx => (h.2 x).1 hx)
    have h2 := shs_many (zs := zs) (k := k.toNat) hk.1.2.1 (by omega)
    omega
  · rw [h]; simp

/-- How many numbers each pattern has, and whether the arguments are valid. -/
def patsHd (zs : List Int) (k : Int) : Nat × Bool := if okPats zs k = true then (k.toNat, true) else (0, false)

theorem patsHd_le {zs : List Int} {k : Int} {m : Nat} {b : Bool} (h : patsHd zs k = (m, b)) : m ≤ 7 := by
  unfold patsHd at h
  split at h
  · rename_i hk
    unfold okPats at hk
    rw [decide_eq_true_eq] at hk
    cases h
    omega
  · cases h
    omega

end Go.Proofs.Ytmnggcnipjdimab.PatsMath
