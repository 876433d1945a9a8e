/-
  The first part of a split text: what stands ahead of the first such byte. Conditions: none. Plain mathematics: nothing of the program.
-/
import Derived.Test.YtjebehekhjbijaaDoorSplitMath
import Derived.Test.YtjebehekhjbijaaDoorJoinMath
import Derived.Lib.IndexLaws
import Derived.Lib.IndexAny
namespace Go.Proofs.YtjebehekhjbijaaDoor.PreC
open SplitMath JoinMath

/-- The first part. -/
def pre (s : ByteArray) (c : UInt8) : ByteArray := (split s c).headD ByteArray.empty

theorem none_yet (s : ByteArray) (c : UInt8) : ∀ k, (∀ j, j < k → s.data.toList[j]? ≠ some c) → partsTo s c k = ([], 0) := by
  intro k
  induction k with
  | zero => intro _; rfl
  | succ k ih =>
    intro h
    rw [partsTo, if_neg (h k (by omega))]
    exact ih fun j hj => h j (by omega)

theorem head_stays (s : ByteArray) (c : UInt8) (o : Nat) (ho : s.data.toList[o]? = some c) (hb : ∀ j, j < o → s.data.toList[j]? ≠ some c) : ∀ d, ∃ r, (partsTo s c (o + 1 + d)).1 = s.extract 0 o :: r := by
  intro d
  induction d with
  | zero =>
    have h0 := none_yet s c o hb
    refine ⟨[], ?_⟩
    show (partsTo s c (o + 1)).1 = _
    rw [partsTo, if_pos ho, h0]; rfl
  | succ d ih =>
    obtain ⟨r, hr⟩ := ih
    show ∃ r, (partsTo s c (o + 1 + d + 1)).1 = s.extract 0 o :: r
    rw [partsTo]
    split
    · exact ⟨r ++ [s.extract (partsTo s c (o + 1 + d)).2 (o + 1 + d)], by simp [hr]⟩
    · exact ⟨r, hr⟩

theorem pre_hit {s : ByteArray} {c : UInt8} {o : Nat} (h : o < s.size) (ho : s.data.toList[o]? = some c) (hb : ∀ j, j < o → s.data.toList[j]? ≠ some c) : pre s c = s.extract 0 o := by
  obtain ⟨r, hr⟩ := head_stays s c o ho hb (s.size - (o + 1))
  have e : o + 1 + (s.size - (o + 1)) = s.size := by omega
  rw [e] at hr
  unfold pre split
  rw [hr]; rfl

theorem extract_all (s : ByteArray) : s.extract 0 s.size = s := by
  apply ba_ext
  rw [ByteArray.data_extract, Array.toList_extract]
  simp only [List.extract, List.drop_zero]
  exact List.take_of_length_le (by show s.data.toList.length ≤ _; rw [Array.length_toList]; exact Nat.le_refl _)

theorem pre_miss {s : ByteArray} {c : UInt8} (hb : ∀ j : Nat, s.data.toList[j]? ≠ some c) : pre s c = s := by
  unfold pre split
  rw [none_yet s c s.size fun j _ => hb j]
  exact extract_all s

theorem extract_take (s : ByteArray) (o : Nat) : (s.extract 0 o).data.toList = s.data.toList.take o := by
  rw [ByteArray.data_extract, Array.toList_extract]
  simp only [List.extract, List.drop_zero, Nat.sub_zero]

theorem index_cases (s : ByteArray) (c : UInt8) : (Lib.indexByte s.data.toList c = -1 ∧ pre s c = s ∧ hasB s c = false) ∨ ∃ o : Nat, Lib.indexByte s.data.toList c = o ∧ o < s.size ∧ pre s c = s.extract 0 o ∧ hasB (s.extract 0 o) c = false := by
  have hl : s.data.toList.length = s.size := by rw [Array.length_toList]; rfl
  have hge := Lib.indexByte_ge s.data.toList c
  by_cases h : Lib.indexByte s.data.toList c = -1
  · have hn := Lib.indexByte_none h
    refine .inl ⟨h, pre_miss hn, ?_⟩
    unfold hasB
    rw [Lib.contains_iff_indexByte, h]; rfl
  · obtain ⟨o, ho⟩ : ∃ o : Nat, Lib.indexByte s.data.toList c = o := ⟨(Lib.indexByte s.data.toList c).toNat, by omega⟩
    obtain ⟨h1, h2⟩ := Lib.indexByte_some ho
    have hlt : o < s.size := by
      have := List.getElem?_eq_some_iff.1 h1
      obtain ⟨h3, _⟩ := this
      omega
    refine .inr ⟨o, ho, hlt, pre_hit hlt h1 h2, ?_⟩
    unfold hasB
    rw [extract_take, ← Bool.not_eq_true]
    intro hc
    rw [List.contains_eq_mem, decide_eq_true_eq] at hc
    obtain ⟨j, hj, e⟩ := List.getElem_of_mem hc
    have hj' : j < o := by simp at hj; omega
    apply h2 j hj'
    rw [List.getElem?_eq_getElem (by omega)]
    rw [List.getElem_take] at e
    rw [e]

theorem pre_size (s : ByteArray) (c : UInt8) : (pre s c).size ≤ s.size := by
  rcases index_cases s c with ⟨_, h, _⟩ | ⟨o, _, h1, h, _⟩
  · rw [h]; exact Nat.le_refl _
  · rw [h, ByteArray.size_extract]; omega

theorem pre_has (s : ByteArray) (c : UInt8) : hasB (pre s c) c = false := by
  rcases index_cases s c with ⟨_, h, h2⟩ | ⟨o, _, h1, h, h2⟩
  · rw [h]; exact h2
  · rw [h]; exact h2

theorem split_pos (s : ByteArray) (c : UInt8) : 0 < (split s c).length := by unfold split; simp

theorem split_head (s : ByteArray) (c : UInt8) : (split s c)[0]? = some (pre s c) := by
  unfold pre
  cases h : split s c with
  | nil => have := split_pos s c; rw [h] at this; simp at this
  | cons x r => rfl

end Go.Proofs.YtjebehekhjbijaaDoor.PreC
