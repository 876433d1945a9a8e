/-
  The mathematics of chapter 4: the order before another one by a word, record places, blocks, the word that sorts. Conditions: none. Plain facts on texts and lists: nothing of the program.
-/
import Derived.Test.YtecbfoodkcgehabSweepM
namespace Go.Proofs.Ytecbfoodkcgehab.StackM
open NumC OrdMath WordMath OrdFacts EndsM SweepM

/-- The order before, place by place. -/
def befTo (out ps : List Int) : Nat → List Int
  | 0 => List.replicate out.length 0
  | k + 1 => (befTo out ps k).set (ps.getD k 0 - 1).toNat (out.getD k 0)

theorem befTo_len (out ps : List Int) : ∀ k, (befTo out ps k).length = out.length
  | 0 => by simp [befTo]
  | k + 1 => by simp [befTo, befTo_len out ps k]

/-- The order from which another one comes out by a word. -/
def beforeOf (out : List Int) (w : ByteArray) : List Int := befTo out (runOut (iota out.length) w) out.length

theorem iota_getD {n k : Nat} (h : k < n) : (iota n).getD k 0 = (k : Int) + 1 := by
  have := iota_at n k h
  rw [List.getD_eq_getElem?_getD, List.getElem?_eq_getElem (by rw [iota_len]; exact h), Option.getD_some, this]

theorem bef_inv {n : Nat} {ps : List Int} (h : ps.length = n) : ∀ k, k ≤ n → befTo (iota n) ps k = invOf ps k
  | 0, _ => by unfold befTo invOf; rw [iota_len, h]
  | k + 1, hk => by
    unfold befTo invOf
    rw [bef_inv h k (by omega), iota_getD (by omega)]

theorem ord_iota {n : Nat} (h1 : 1 ≤ n) (h7 : n ≤ 7) : Ord (iota n) := ord_of_perm (List.Perm.refl _) h1 h7

/-! ### Record places -/
def recTo (zs : List Int) : Nat → List Int × Int
  | 0 => ([], 0)
  | k + 1 => if (recTo zs k).2 < zs.getD k 0 then ((recTo zs k).1 ++ [(k : Int)], zs.getD k 0) else recTo zs k

theorem rec_yes {zs r : List Int} {k : Nat} {m : Int} (h : recTo zs k = (r, m)) (hz : m < zs.getD k 0) : recTo zs (k + 1) = (r ++ [(k : Int)], zs.getD k 0) := by
  unfold recTo; rw [h]; simp only; rw [if_pos hz]
theorem rec_no {zs r : List Int} {k : Nat} {m : Int} (h : recTo zs k = (r, m)) (hz : ¬ m < zs.getD k 0) : recTo zs (k + 1) = (r, m) := by
  unfold recTo; rw [h]; simp only; rw [if_neg hz]
theorem rec_len (zs : List Int) : ∀ k, (recTo zs k).1.length ≤ k
  | 0 => Nat.le_refl _
  | k + 1 => by
    have := rec_len zs k
    unfold recTo
    split
    · simp; exact this
    · omega
theorem rec_range {zs : List Int} (h : Ord zs) : ∀ k, k ≤ zs.length → 0 ≤ (recTo zs k).2 ∧ (recTo zs k).2 ≤ 7
  | 0, _ => by simp [recTo]
  | k + 1, hk => by
    have := rec_range h k (by omega)
    obtain ⟨m, h1, h2⟩ := h.getD (k := k) (by omega)
    have := h.2.1
    unfold recTo
    split
    · simp only; omega
    · exact rec_range h k (by omega)

def recAns (zs : List Int) : List Int × Bool := if Ord zs then ((recTo zs zs.length).1, true) else ([], false)

theorem rec_alen {zs xs : List Int} {b : Bool} (h : recAns zs = (xs, b)) : xs.length ≤ 1048576 := by
  unfold recAns at h; split at h
  · rename_i ho; cases h; have := ho.2.1; have := rec_len zs zs.length; omega
  · cases h; simp

/-! ### Blocks -/
/-- The lengths of the blocks so far, where the last one ends, and the greatest number so far. -/
def blkTo (zs : List Int) : Nat → List Int × Nat × Int
  | 0 => ([], 0, 0)
  | k + 1 => let r := blkTo zs k
    let m := max r.2.2 (zs.getD k 0)
    if m = (k : Int) + 1 then (r.1 ++ [(k : Int) + 1 - (r.2.1 : Int)], k + 1, m) else (r.1, r.2.1, m)

theorem blk_yes {zs l : List Int} {k c : Nat} {g m : Int} (h : blkTo zs k = (l, c, g)) (hm : max g (zs.getD k 0) = m) (hz : m = (k : Int) + 1) : blkTo zs (k + 1) = (l ++ [(k : Int) + 1 - (c : Int)], k + 1, m) := by
  unfold blkTo; rw [h]; simp only; rw [hm, if_pos hz]
theorem blk_no {zs l : List Int} {k c : Nat} {g m : Int} (h : blkTo zs k = (l, c, g)) (hm : max g (zs.getD k 0) = m) (hz : ¬ m = (k : Int) + 1) : blkTo zs (k + 1) = (l, c, m) := by
  unfold blkTo; rw [h]; simp only; rw [hm, if_neg hz]
theorem blk_len (zs : List Int) : ∀ k, (blkTo zs k).1.length ≤ k ∧ (blkTo zs k).2.1 ≤ k
  | 0 => ⟨Nat.le_refl _, Nat.le_refl _⟩
  | k + 1 => by
    have := blk_len zs k
    obtain ⟨l, c, g, hr⟩ : ∃ l c g, blkTo zs k = (l, c, g) := ⟨_, _, _, rfl⟩
    obtain ⟨m, hm⟩ : ∃ m, max g (zs.getD k 0) = m := ⟨_, rfl⟩
    rw [hr] at this
    simp only at this
    by_cases hz : m = (k : Int) + 1
    · rw [blk_yes hr hm hz]; simp; omega
    · rw [blk_no hr hm hz]; simp only; omega
theorem blk_range {zs : List Int} (h : Ord zs) : ∀ k, k ≤ zs.length → 0 ≤ (blkTo zs k).2.2 ∧ (blkTo zs k).2.2 ≤ 7
  | 0, _ => by simp [blkTo]
  | k + 1, hk => by
    have ih := blk_range h k (by omega)
    obtain ⟨x, h1, h2⟩ := h.getD (k := k) (by omega)
    have := h.2.1
    obtain ⟨l, c, g, hr⟩ : ∃ l c g, blkTo zs k = (l, c, g) := ⟨_, _, _, rfl⟩
    obtain ⟨m, hm⟩ : ∃ m, max g (zs.getD k 0) = m := ⟨_, rfl⟩
    rw [hr] at ih
    simp only at ih
    have hm2 : 0 ≤ m ∧ m ≤ 7 := by omega
    by_cases hz : m = (k : Int) + 1
    · rw [blk_yes hr hm hz]; exact hm2
    · rw [blk_no hr hm hz]; exact hm2

def blkAns (zs : List Int) : List Int × Bool := if Ord zs then ((blkTo zs zs.length).1, true) else ([], false)

theorem blk_alen {zs xs : List Int} {b : Bool} (h : blkAns zs = (xs, b)) : xs.length ≤ 1048576 := by
  unfold blkAns at h; split at h
  · rename_i ho; cases h; have := ho.2.1; have := (blk_len zs zs.length).1; omega
  · cases h; simp

end Go.Proofs.Ytecbfoodkcgehab.StackM
