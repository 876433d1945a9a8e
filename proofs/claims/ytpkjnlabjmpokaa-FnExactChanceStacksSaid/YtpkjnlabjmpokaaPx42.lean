/-
  Contract: the model's l7Go, by recursion: the first sharing that goes on from some places, and how many. Conditions: at most 7 numbers, at most 7 stacks.
-/
import Derived.Test.YtpkjnlabjmpokaaPx25
import Derived.Test.YtpkjnlabjmpokaaPx27
import Derived.Test.YtpkjnlabjmpokaaPx33
import Derived.Test.YtpkjnlabjmpokaaPx4

namespace Go.Proofs.Ytpkjnlabjmpokaa.GoSC
open Go.RowKit SeesC IntsC ExactC OrdMath BesM ConfC FitsC ListsC Own1C SameC AppendTwoC 
set_option linter.unusedVariables false

def goF (zs : List Int) (k d : Nat) (so : List Int) : List Int × Nat := if fitsB zs so then goR (ext zs k d so) else ([], 0)

/-- The first x of the ways to go on. -/
def part (zs : List Int) (k d : Nat) (so : List Int) (x : Nat) : List (List Int) := (List.range x).flatMap fun (y : Nat) => if okN zs so (y : Int) then ext zs k d (so ++ [(y : Int)]) else []

theorem app_one {rb : Nat} {wo wA w4 : World} {g3 c3 k : Nat} {v4 : Value} {l : List Int} {x : Int} {o : Obj} (h : w4.ownsRow rb 3 1 v4 (k + 1) (vals l ++ [.int .i64 x])) (ho : wA.ownsRow wo.heap.size 3 1 (.slice (some ⟨g3, 0, none⟩) k c3) k (vals l)) (hb : Below wo.heap.size wo wA) (hg : (wA.alloc o).grownBy w4 (Value.slice (some ⟨g3, 0, none⟩) k c3).ownBlock) :
    w4.ownsRow rb 3 1 v4 (k + 1) (vals (l ++ [x])) ∧ Below wo.heap.size wo w4 := by
  have e : vals (l ++ [x]) = vals l ++ [.int .i64 x] := List.map_append
  rw [e]
  exact ⟨h, (hb.alloc hb.size o).grown hg (by have := hb.size; simp; omega) (fun q hq => (own_block_lt ho hq).1)⟩

theorem own_zero {w : World} {g c : Nat} {l : List Int} {m : Nat} (h : Sees w (.slice (some ⟨g, 0, none⟩) m c) m (vals l)) : ∀ j, j < l.length → w.cell? ⟨g, 0 + j, none⟩ = some (.int .i64 (l.getD j 0)) := by
  intro j hj
  have hl : l.length = m := by have := h.1; simpa using this
  obtain ⟨b, o, cap, e, _, _, _, hc⟩ := sees_cells h (by omega)
  cases e
  exact hc j hj

theorem fitsB_snoc {zs so : List Int} {x : Int} (hl : so.length < zs.length) (h : fitsB zs so = true) : fitsB zs (so ++ [x]) = okN zs so x := by
  have h1 := fits_snoc (x := x) hl
  have h2 := fitsB_iff.1 h
  cases h3 : okN zs so x with
  | true => exact fitsB_iff.2 (h1.2 ⟨h2, h3⟩)
  | false =>
    cases h4 : fitsB zs (so ++ [x]) with
    | false => rfl
    | true => have := (h1.1 (fitsB_iff.1 h4)).2; rw [h3] at this; cases this

theorem part_next {zs so : List Int} {k d x : Nat} (hl : so.length < zs.length) (h : fitsB zs so = true) : goR (part zs k d so (x + 1)) = BesM.stepG (goR (part zs k d so x)) (goF zs k d (so ++ [(x : Int)])) := by
  have e : part zs k d so (x + 1) = part zs k d so x ++ (if okN zs so (x : Int) then ext zs k d (so ++ [(x : Int)]) else []) := by
    unfold part
    rw [List.range_succ, List.flatMap_append]
    simp
  rw [e, goR_append]
  unfold goF
  rw [fitsB_snoc hl h]
  cases okN zs so (x : Int) <;> rfl

theorem part_len {zs so : List Int} {k d : Nat} : ∀ x, (part zs k d so x).length ≤ x * k ^ d := by
  intro x
  induction x with
  | zero => simp [part]
  | succ x ih =>
    have e : part zs k d so (x + 1) = part zs k d so x ++ (if okN zs so (x : Int) then ext zs k d (so ++ [(x : Int)]) else []) := by
      unfold part
      rw [List.range_succ, List.flatMap_append]
      simp
    rw [e, List.length_append, Nat.succ_mul]
    have h2 := ext_len (zs := zs) (k := k) d (so ++ [(x : Int)])
    split
    · omega
    · simp; omega

theorem pow_bound {k d x : Nat} (hk : k ≤ 7) (hd : d ≤ 6) (hx : x ≤ k) : x * k ^ d ≤ 1000000 := by
  have h1 : k ^ d ≤ 7 ^ d := Nat.pow_le_pow_left hk d
  have h2 : 7 ^ d ≤ 7 ^ 6 := Nat.pow_le_pow_right (by omega) hd
  have h3 : x * k ^ d ≤ 7 * 7 ^ 6 := Nat.mul_le_mul (by omega) (Nat.le_trans h1 h2)
  have h4 : 7 * 7 ^ 6 ≤ 1000000 := by decide
  omega

theorem goR_len (L : List (List Int)) : (goR L).2 = L.length := rfl

theorem goF_len {zs so : List Int} {k d : Nat} : (goF zs k d so).2 ≤ k ^ d := by
  unfold goF
  split
  · exact ext_len d so
  · simp

theorem goF_bound {zs : List Int} {k d : Nat} (hk : k ≤ 7) (hd : d ≤ 6) (so : List Int) : (goF zs k d so).2 ≤ 1000000 := by
  have h1 : k ^ d ≤ 7 ^ d := Nat.pow_le_pow_left hk d
  have h2 : 7 ^ d ≤ 7 ^ 6 := Nat.pow_le_pow_right (by omega) hd
  have h4 : 7 ^ 6 ≤ 1000000 := by decide
  have h3 := goF_len (zs := zs) (so := so) (k := k) (d := d)
  omega

theorem goF_first {zs so first : List Int} {k d many : Nat} (h : goF zs k d so = (first, many)) : first.length ≤ so.length + d := by
  unfold goF at h
  split at h
  · unfold goR at h
    cases he : ext zs k d so with
    | nil => rw [he] at h; cases h; simp
    | cons a l =>
      rw [he] at h
      cases h
      have : a ∈ ext zs k d so := by rw [he]; simp
      have := ext_all_len this
      simp; omega
  · cases h; simp

def GoRes (zs : List Int) (k d : Nat) (so : List Int) (rb : Nat) (W : World) (e : Ending) (w' : World) : Prop := ∃ g2 c2 L many first, e = .returned (.tuple #[.slice (some ⟨g2, 0, none⟩) L c2, .int .i64 ((many : Nat) : Int)]) ∧ goF zs k d so = (first, many) ∧ first.length = L ∧ w'.ownsRow rb 3 1 (.slice (some ⟨g2, 0, none⟩) L c2) L (vals first) ∧ Below W.heap.size W w'

end Go.Proofs.Ytpkjnlabjmpokaa.GoSC
