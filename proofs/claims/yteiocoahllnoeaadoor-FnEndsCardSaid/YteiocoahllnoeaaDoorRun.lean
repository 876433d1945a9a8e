/-
  Contracts: the model and the program run an order by a word. Conditions: lists and texts of at most 2^20 elements.
-/
import Derived.Test.YteiocoahllnoeaaDoorWord
import Derived.Test.YteiocoahllnoeaaDoorOrder
import Derived.Test.YteiocoahllnoeaaDoorShelf
import Derived.RangeFuncBox
import Derived.Maps.AppendAt
import Derived.WalkSmall
import Derived.Laws.CopyOwn
import Derived.IntWalk
namespace Go.Proofs.YteiocoahllnoeaaDoor.RunC
open Go.RowKit SeesC IntsC ExactC NumC IterC OrdMath WordMath InC OrderC WordC

def runAns (zs : List Int) (s : ByteArray) : List Int × Bool := if Ord zs ∧ Word s ∧ s.size = 2 * zs.length then (runOut zs s, true) else ([], false)

theorem runOut_len {zs : List Int} {s : ByteArray} (hw : Word s) (hsz : s.size = 2 * zs.length) : (runOut zs s).length = zs.length := by
  have := run_len (zs := zs) s.size 0 hw.2.2
  unfold runOut
  omega

theorem run_ans_len {zs : List Int} {s : ByteArray} {xs : List Int} {b : Bool} (h : runAns zs s = (xs, b)) : xs.length ≤ 1048576 := by
  unfold runAns at h; split at h
  · rename_i ho; cases h; rw [runOut_len ho.2.1 ho.2.2]; have := ho.1.2.1; omega
  · cases h; simp

/-- A list that is not empty, as all but the last, and the last. -/
theorem split_last {l : List Int} (h : 0 < l.length) : ∃ a p, l = a ++ [p] ∧ l.getLast?.getD 0 = p ∧ l.dropLast = a := by
  have hne : l ≠ [] := by intro e; subst e; simp at h
  have e := (List.dropLast_concat_getLast hne).symm
  refine ⟨l.dropLast, l.getLast hne, e, ?_, rfl⟩
  conv => lhs; rw [e]
  simp

/-- A row of the call's own as a block that is known whole, and back. -/
theorem own_block {w : World} {base g n cap : Nat} {ty : TypeId} {xs : List Value} (h : w.ownsRow base ty 1 (.slice (some ⟨g, 0, none⟩) n cap) n xs) : ∃ ex, w.heap[g]? = some (.cells (xs ++ ex).toArray ty (0, 0)) ∧ n + ex.length = cap ∧ xs.length = n ∧ base ≤ g ∧ cap ≤ maxLen := by
  have hl : xs.length = n := by simpa using h.1
  rcases h.2 with ⟨h0, _⟩ | ⟨g', cap', cur, h0, hb, hh, h1, hm, hsz, ht⟩
  · cases h0
  · cases h0
    refine ⟨cur.toList.drop n, ?_, ?_, hl, hb, hm⟩
    · rw [← ht, Nat.mul_one, List.take_append_drop]; simpa using hh
    · rw [List.length_drop, Array.length_toList, hsz]; omega

theorem block_own {w : World} {base g n cap : Nat} {ty : TypeId} {xs ex : List Value} (hh : w.heap[g]? = some (.cells (xs ++ ex).toArray ty (0, 0))) (hc : n + ex.length = cap) (hl : xs.length = n) (hb : base ≤ g) (hm : cap ≤ maxLen) : w.ownsRow base ty 1 (.slice (some ⟨g, 0, none⟩) n cap) n xs :=
  ⟨by simpa using hl, .inr ⟨g, cap, _, rfl, hb, hh, by omega, hm, by simp; omega, by simp [← hl]⟩⟩

/-- What a pop does to the line. -/
theorem line_pop (lo la R : List Int) (p : Int) (ex : List Value) (no : Nat) (hno : lo.length = no) :
    (splice (vals (lo ++ (la ++ [p]) ++ R) ++ ex) (no + 1) (vals la)).set no (.int .i64 p) = vals ((lo ++ [p]) ++ la ++ R) ++ ex := by
  subst hno
  unfold splice vals
  have e1 : List.map (Value.int .i64) (lo ++ (la ++ [p]) ++ R) ++ ex = List.map (Value.int .i64) lo ++ (List.map (Value.int .i64) (la ++ [p]) ++ (List.map (Value.int .i64) R ++ ex)) := by simp
  rw [e1]
  obtain ⟨y, ys, hy⟩ : ∃ y ys, List.map (Value.int .i64) (la ++ [p]) = y :: ys := by
    cases la with
    | nil => exact ⟨_, _, rfl⟩
    | cons a tl => exact ⟨_, _, rfl⟩
  have hys : ys.length = la.length := by have := congrArg List.length hy; simp at this; omega
  rw [hy]
  have e2 : (List.map (Value.int .i64) lo ++ (y :: ys ++ (List.map (Value.int .i64) R ++ ex))).take (lo.length + 1) = List.map (Value.int .i64) lo ++ [y] := by
    have h9 : List.map (Value.int .i64) lo ++ (y :: ys ++ (List.map (Value.int .i64) R ++ ex)) = (List.map (Value.int .i64) lo ++ [y]) ++ (ys ++ (List.map (Value.int .i64) R ++ ex)) := by simp
    rw [h9, List.take_append_of_le_length (by simp)]
    exact List.take_of_length_le (by simp)
  have e3 : (List.map (Value.int .i64) lo ++ (y :: ys ++ (List.map (Value.int .i64) R ++ ex))).drop (lo.length + 1 + (List.map (Value.int .i64) la).length) = List.map (Value.int .i64) R ++ ex := by
    have h9 : List.map (Value.int .i64) lo ++ (y :: ys ++ (List.map (Value.int .i64) R ++ ex)) = (List.map (Value.int .i64) lo ++ y :: ys) ++ (List.map (Value.int .i64) R ++ ex) := by simp
    rw [h9, List.drop_append_of_le_length (by simp; omega), List.drop_of_length_le (by simp; omega), List.nil_append]
  rw [e2, e3, List.append_assoc, List.set_append_right _ _ (by simp)]
  simp

end Go.Proofs.YteiocoahllnoeaaDoor.RunC
