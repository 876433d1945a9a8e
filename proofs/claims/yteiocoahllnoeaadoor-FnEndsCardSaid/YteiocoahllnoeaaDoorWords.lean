/-
  Contracts: the model and the program list all words for so many numbers. Conditions: none.
-/
import Derived.Test.YteiocoahllnoeaaDoorWord
import Derived.Test.YteiocoahllnoeaaDoorStrs
import Derived.RangeFuncBox
import Derived.Maps.AppendAt
namespace Go.Proofs.YteiocoahllnoeaaDoor.WordsC
open Go.RowKit SeesC IntsC ExactC NumC IterC WordMath InC WordC

theorem infoS : (Tryd.prog.info? 9).map (fun i => (i.zero, i.size, i.bytes)) = some (some (.string ByteArray.empty), 1, 16) := by kernel_rfl

def sI : ByteArray := { data := #[73] }
def sO : ByteArray := { data := #[79] }

/-- All words that go on from a text, r signs long, with d on the stack. -/
def wordsFrom : Nat → Nat → ByteArray → List ByteArray
  | 0, _, so => [so]
  | r + 1, d, so => (if d < r + 1 then wordsFrom r (d + 1) (so ++ sI) else []) ++ (if 0 < d then wordsFrom r (d - 1) (so ++ sO) else [])

theorem wordsFrom_len : ∀ (r d : Nat) (so : ByteArray), (wordsFrom r d so).length ≤ 2 ^ r
  | 0, _, _ => Nat.le_refl _
  | r + 1, d, so => by
    unfold wordsFrom
    rw [List.length_append]
    have h1 : (if d < r + 1 then wordsFrom r (d + 1) (so ++ sI) else []).length ≤ 2 ^ r := by
      split
      · exact wordsFrom_len r _ _
      · simp
    have h2 : (if 0 < d then wordsFrom r (d - 1) (so ++ sO) else []).length ≤ 2 ^ r := by
      split
      · exact wordsFrom_len r _ _
      · simp
    rw [Nat.pow_succ]; omega

theorem wordsFrom_16k {r d : Nat} {so : ByteArray} (h : r ≤ 14) : (wordsFrom r d so).length ≤ 16384 := by
  have h1 := wordsFrom_len r d so
  have h2 : 2 ^ r ≤ 2 ^ 14 := Nat.pow_le_pow_right (by omega) h
  have h3 : (2 : Nat) ^ 14 = 16384 := by decide
  omega

def wordsAns (n : Int) : List ByteArray × Bool := if 1 ≤ n ∧ n ≤ 7 then (wordsFrom (2 * n.toNat) 0 ByteArray.empty, true) else ([], false)

theorem words_len {n : Int} {xs : List ByteArray} {b : Bool} (h : wordsAns n = (xs, b)) : xs.length ≤ 1048576 := by
  unfold wordsAns at h; split at h
  · cases h; have := @wordsFrom_16k (2 * n.toNat) 0 ByteArray.empty (by omega); omega
  · cases h; simp

/-- Texts and a truth value are returned, the texts in memory of the call's own. -/
def TextsTo (w : World) (e : Ending) (w' : World) (xs : List ByteArray) (b : Bool) : Prop :=
  ∃ v, e = .returned (.tuple #[v, .bool b]) ∧ w'.ownsRow w.heap.size 9 1 v xs.length (xs.map Value.string) ∧ Below w.heap.size w w'

theorem textsTo_none (w : World) (b : Bool) : TextsTo w (.returned (.tuple #[.slice (some ⟨w.heap.size, 0, none⟩) 0 0, .bool b])) (w.alloc (.cells #[] 9)) [] b :=
  ⟨_, rfl, World.ownsRow_made _ _ _ (Nat.le_refl _) (by unfold maxLen; omega) rfl, (Below.refl _ _).alloc (Nat.le_refl _) _⟩

theorem own_form {w : World} {base size n : Nat} {ty : TypeId} {v : Value} {xs : List Value} (h : w.ownsRow base ty size v n xs) (hne : v ≠ .slice none 0 0) : ∃ g cap, v = .slice (some ⟨g, 0, none⟩) n cap := by
  rcases h.2 with ⟨h0, _⟩ | ⟨g, cap, cur, hv, _⟩
  · exact absurd h0 hne
  · exact ⟨g, cap, hv⟩

end Go.Proofs.YteiocoahllnoeaaDoor.WordsC
