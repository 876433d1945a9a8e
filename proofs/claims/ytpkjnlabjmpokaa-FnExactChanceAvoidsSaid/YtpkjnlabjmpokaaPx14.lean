/-
  The mathematics of dropped places: the numbers beside some places, and the first list of as few places as can be. Conditions: none. Plain facts on lists: nothing of the program.
-/
import Derived.Test.YtpkjnlabjmpokaaPx2

namespace Go.Proofs.Ytpkjnlabjmpokaa.DropMath
open OrdMath OrdFacts PatMath

/-- The places but some. -/
def others (q : List Nat) (n : Nat) : List Nat := (List.range n).filter (fun i => !decide (i ∈ q))

def beside (zs : List Int) (q : List Nat) : List Int := pick zs (others q zs.length)

theorem others_lt {q : List Nat} {n : Nat} : ∀ p ∈ others q n, p < n := fun p hp => by
  have := (List.mem_filter.1 hp).1
  rwa [List.mem_range] at this

theorem others_next (q : List Nat) (k : Nat) : others q (k + 1) = others q k ++ (if k ∈ q then [] else [k]) := by
  unfold others
  rw [List.range_succ, List.filter_append]
  by_cases h : k ∈ q <;> simp [h]

theorem others_len_le (q : List Nat) (n : Nat) : (others q n).length ≤ n := by
  have := List.length_filter_le (fun i => !decide (i ∈ q)) (List.range n)
  rwa [List.length_range] at this

theorem beside_nodup {zs : List Int} (h : zs.Nodup) (q : List Nat) : (beside zs q).Nodup := by
  unfold beside pick List.Nodup
  rw [List.pairwise_map]
  have hp : (others q zs.length).Pairwise (· < ·) := List.Pairwise.filter _ List.pairwise_lt_range
  refine List.Pairwise.imp_of_mem (fun {a b} ha hb hab => ?_) hp
  exact getD_ne h (others_lt a ha) (others_lt b hb) (by omega)

theorem beside_len_le (zs : List Int) (q : List Nat) : (beside zs q).length ≤ zs.length := by
  unfold beside; rw [pick_len]; exact others_len_le _ _

theorem others_pos {q : List Nat} {n : Nat} (h : q.length < n) : 1 ≤ (others q n).length := by
  by_cases h0 : others q n = []
  · exfalso
    have hall : ∀ i, i < n → i ∈ q := fun i hi => by
      by_cases hm : i ∈ q
      · exact hm
      · have : i ∈ others q n := List.mem_filter.2 ⟨List.mem_range.2 hi, by simp [hm]⟩
        rw [h0] at this
        simp at this
    have hp := perm_of_sub ((List.range n).map (fun (i : Nat) => (i : Int))) (q.map (fun (i : Nat) => (i : Int))) (by
      unfold List.Nodup
      rw [List.pairwise_map]
      exact (List.pairwise_lt_range (n := n)).imp (fun h => by omega)) (fun x hx => by
      obtain ⟨i, hi, rfl⟩ := List.mem_map.1 hx
      exact List.mem_map.2 ⟨i, hall i (List.mem_range.1 hi), rfl⟩) (by rw [List.length_map, List.length_map, List.length_range]; omega)
    have := hp.length_eq
    rw [List.length_map, List.length_map, List.length_range] at this
    omega
  · exact List.length_pos_iff.2 h0

theorem beside_pos {zs : List Int} {q : List Nat} (h : q.length < zs.length) : 1 ≤ (beside zs q).length := by
  unfold beside; rw [pick_len]; exact others_pos h

theorem has_small {xs pat : List Int} (h : xs.length < pat.length) : has xs pat = false := by
  unfold has placesOf
  rw [ch_nil (n := xs.length) pat.length [] (by have : behind [] = 0 := rfl; omega) (by omega)]
  rfl

theorem behind_le {b : List Nat} {p : Nat} (h : ∀ x ∈ b, x < p) : behind b ≤ p := by
  unfold behind
  cases hb : b.getLast? with
  | none => exact Nat.zero_le _
  | some x => exact h x (List.mem_of_getLast? hb)

theorem mem_ch {n : Nat} : ∀ (r : Nat) (b q : List Nat), Asc n (b ++ q) → q.length = r → b ++ q ∈ ch n r b
  | 0, b, q, _, h => by
    have hq : q = [] := List.eq_nil_of_length_eq_zero h
    subst hq
    simp [ch]
  | r + 1, b, [], _, h => by simp at h
  | r + 1, b, p :: q, ha, h => by
    have e : b ++ p :: q = (b ++ [p]) ++ q := by simp
    have ih := mem_ch r (b ++ [p]) q (by rw [← e]; exact ha) (by simpa using h)
    rw [e]
    unfold ch
    have hpn : p < n := ha.2 p (by simp)
    have hbp : behind b ≤ p := behind_le (fun x hx => by
      have h1 := ha.1
      rw [List.pairwise_append] at h1
      exact h1.2.2 x hx p (by simp))
    exact List.mem_flatMap.2 ⟨p, by rw [List.mem_range'_1]; omega, ih⟩

theorem others_range (m : Nat) : others (List.range m) (m + 1) = [m] := by
  rw [others_next]
  have h1 : others (List.range m) m = [] := by
    unfold others
    rw [List.filter_eq_nil_iff]
    intro i hi
    simp [List.mem_range.1 hi]
  rw [h1]
  simp

/-- In the end there is a list that avoids. -/
theorem drop_end {zs pat : List Int} (hz : 1 ≤ zs.length) (hp : 2 ≤ pat.length) : ∃ k q, k < zs.length ∧ q ∈ ch zs.length k [] ∧ has (beside zs q) pat = false := by
  obtain ⟨m, hm⟩ : ∃ m, zs.length = m + 1 := ⟨zs.length - 1, by omega⟩
  refine ⟨m, List.range m, by omega, ?_, ?_⟩
  · have := mem_ch (n := zs.length) m [] (List.range m) ⟨by simpa using List.pairwise_lt_range, fun p hp => by simp at hp; omega⟩ (by simp)
    simpa using this
  · apply has_small
    unfold beside
    rw [hm, others_range, pick_len]
    simp; omega

/-- The first list that avoids. -/
def firstDrop (zs pat : List Int) : List Nat := (((List.range zs.length).flatMap (fun k => ch zs.length k [])).find? (fun q => !has (beside zs q) pat)).getD []

theorem find_first {α : Type} {p : α → Bool} {q : α} (hq : p q = true) : ∀ {l1 l2 : List α}, (∀ x ∈ l1, p x = false) → (l1 ++ q :: l2).find? p = some q
  | [], l2, _ => by simp [hq]
  | a :: l1, l2, h => by
    rw [List.cons_append, List.find?_cons_of_neg (by rw [h a (by simp)]; simp)]
    exact find_first hq (fun x hx => h x (by simp [hx]))

theorem firstDrop_is {zs pat : List Int} {k i : Nat} (hk : k < zs.length) (hi : i < (ch zs.length k []).length) (hq : has (beside zs (ch zs.length k [])[i]) pat = false)
    (hlow : ∀ k', k' < k → ∀ q ∈ ch zs.length k' [], has (beside zs q) pat = true) (hin : ∀ q ∈ (ch zs.length k []).take i, has (beside zs q) pat = true) : firstDrop zs pat = (ch zs.length k [])[i] := by
  obtain ⟨r, hr⟩ : ∃ r, zs.length = k + 1 + r := ⟨zs.length - (k + 1), by omega⟩
  have hsplit : List.range zs.length = List.range k ++ k :: (List.range r).map (fun x => k + 1 + x) := by
    rw [hr, List.range_add, List.range_succ]; simp
  have hall : (List.range zs.length).flatMap (fun k => ch zs.length k []) = ((List.range k).flatMap (fun k => ch zs.length k []) ++ (ch zs.length k []).take i) ++ (ch zs.length k [])[i] :: ((ch zs.length k []).drop (i + 1) ++ ((List.range r).map (fun x => k + 1 + x)).flatMap (fun k => ch zs.length k [])) := by
    rw [hsplit, List.flatMap_append, List.flatMap_cons, List.append_assoc]
    congr 1
    have h1 : (ch zs.length k []) = (ch zs.length k []).take i ++ (ch zs.length k [])[i] :: (ch zs.length k []).drop (i + 1) := by
      rw [← List.drop_eq_getElem_cons hi, List.take_append_drop]
    rw [← List.cons_append, ← List.append_assoc, ← h1]
  unfold firstDrop
  rw [hall, find_first (by rw [hq]; rfl) (fun x hx => by
    rw [List.mem_append] at hx
    rcases hx with hx | hx
    · obtain ⟨k', hk', hxq⟩ := List.mem_flatMap.1 hx
      rw [hlow k' (List.mem_range.1 hk') x hxq]; rfl
    · rw [hin x hx]; rfl)]
  rfl

def dropsAns (zs pat : List Int) : List Int × Bool := if Ord zs ∧ Ord pat ∧ pat.length ≠ 1 then (nat (firstDrop zs pat), true) else ([], false)

theorem firstDrop_len {zs pat : List Int} (h7 : zs.length ≤ 7) : (firstDrop zs pat).length ≤ 7 := by
  unfold firstDrop
  cases h : ((List.range zs.length).flatMap (fun k => ch zs.length k [])).find? (fun q => !has (beside zs q) pat) with
  | none => simp
  | some q =>
    have hm := List.mem_of_find?_eq_some h
    obtain ⟨k, hk, hq⟩ := List.mem_flatMap.1 hm
    rw [List.mem_range] at hk
    have := (ch_pre _ _ q hq).1
    simp at this ⊢
    omega

theorem drops_len {zs pat xs : List Int} {b : Bool} (h : dropsAns zs pat = (xs, b)) : xs.length ≤ 1048576 := by
  unfold dropsAns at h; split at h
  · rename_i ho
    cases h
    have h1 := firstDrop_len (zs := zs) (pat := pat) ho.1.2.1
    have h2 : (nat (firstDrop zs pat)).length = (firstDrop zs pat).length := by show (List.map _ _).length = _; rw [List.length_map]
    omega
  · cases h; simp

end Go.Proofs.Ytpkjnlabjmpokaa.DropMath
