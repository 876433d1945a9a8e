/-
  A text that is split at a byte and joined by it again is the same. Conditions: at most 4000 bytes. Plain mathematics: nothing of the program.
-/
import Derived.Test.YtjebehekhjbijaaSplitMath
import Derived.Test.YtjebehekhjbijaaJoinMath
namespace Go.Proofs.Ytjebehekhjbijaa.SplitJoinMath
open SplitMath JoinMath StrsMath

theorem extract_list (s : ByteArray) (a b : Nat) : (s.extract a b).data.toList = (s.data.toList.take b).drop a := by
  rw [ByteArray.data_extract, Array.toList_extract]
  simp only [List.extract]
  rw [List.drop_take]

/-- What stands ahead of one part more. -/
def preJ (ps : List ByteArray) (sep : ByteArray) : ByteArray := if ps = [] then ByteArray.empty else joinB ps sep ++ sep

theorem join_last (ps : List ByteArray) (x sep : ByteArray) : joinB (ps ++ [x]) sep = preJ ps sep ++ x := by
  cases ps with
  | nil => unfold preJ; rw [if_pos rfl]; apply ba_ext; simp [joinB, Lib.join_one]
  | cons p r => unfold preJ; rw [if_neg (by simp)]; exact joinB_snoc p r x sep

theorem pre_take (s : ByteArray) (c : UInt8) : ∀ k, k ≤ s.size → (preJ (partsTo s c k).1 ⟨#[c]⟩).data.toList = s.data.toList.take (partsTo s c k).2 := by
  intro k
  induction k with
  | zero => intro _; rfl
  | succ k ih =>
    intro hk
    by_cases h : s.data.toList[k]? = some c
    · have e : partsTo s c (k + 1) = ((partsTo s c k).1 ++ [s.extract (partsTo s c k).2 k], k + 1) := by rw [partsTo, if_pos h]
      have hf := from_le s c k
      rw [e]
      have e2 : preJ ((partsTo s c k).1 ++ [s.extract (partsTo s c k).2 k]) ⟨#[c]⟩ = preJ (partsTo s c k).1 ⟨#[c]⟩ ++ s.extract (partsTo s c k).2 k ++ ⟨#[c]⟩ := by
        conv => lhs; unfold preJ
        rw [if_neg (by simp), join_last]
      rw [e2, ba_append, ba_append, ih (by omega), extract_list]
      have hl : s.data.toList.length = s.size := by rw [Array.length_toList]; rfl
      have e3 : s.data.toList.take (partsTo s c k).2 ++ (s.data.toList.take k).drop (partsTo s c k).2 = s.data.toList.take k := by
        have : s.data.toList.take (partsTo s c k).2 = (s.data.toList.take k).take (partsTo s c k).2 := by rw [List.take_take, Nat.min_eq_left hf]
        rw [this]; exact List.take_append_drop _ _
      rw [e3]
      have h2 : s.data.toList.take (k + 1) = s.data.toList.take k ++ [c] := by
        rw [List.take_add_one, h]; rfl
      rw [h2]
    · have e : partsTo s c (k + 1) = partsTo s c k := by rw [partsTo, if_neg h]
      rw [e]
      exact ih (by omega)

theorem split_joined (s : ByteArray) (c : UInt8) : joinB (split s c) ⟨#[c]⟩ = s := by
  have h := pre_take s c s.size (Nat.le_refl _)
  have hl : s.data.toList.length = s.size := by rw [Array.length_toList]; rfl
  apply ba_ext
  unfold split
  rw [join_last, ba_append, h, extract_list]
  rw [List.take_of_length_le (l := s.data.toList) (i := s.size) (by omega)]
  exact List.take_append_drop _ _

theorem parts_free (s : ByteArray) (c : UInt8) : ∀ k, k ≤ s.size → (∀ p ∈ (partsTo s c k).1, hasB p c = false) ∧ c ∉ (s.data.toList.take k).drop (partsTo s c k).2 := by
  intro k
  induction k with
  | zero => intro _; exact ⟨fun p hp => by simp [partsTo] at hp, by simp⟩
  | succ k ih =>
    intro hk
    obtain ⟨h1, h2⟩ := ih (by omega)
    have hf := from_le s c k
    by_cases h : s.data.toList[k]? = some c
    · have e : partsTo s c (k + 1) = ((partsTo s c k).1 ++ [s.extract (partsTo s c k).2 k], k + 1) := by rw [partsTo, if_pos h]
      rw [e]
      refine ⟨fun p hp => ?_, ?_⟩
      · rcases List.mem_append.1 hp with hp | hp
        · exact h1 p hp
        · rw [List.mem_singleton] at hp
          subst hp
          unfold hasB
          rw [extract_list, ← Bool.not_eq_true, List.contains_eq_mem, decide_eq_true_eq]
          exact h2
      · intro hm
        have h5 := List.length_pos_of_mem hm
        rw [List.length_drop, List.length_take] at h5
        omega
    · have e : partsTo s c (k + 1) = partsTo s c k := by rw [partsTo, if_neg h]
      rw [e]
      refine ⟨h1, fun hm => ?_⟩
      rw [List.take_add_one] at hm
      have hlk : (s.data.toList.take k).length = k := by
        rw [List.length_take, Array.length_toList]; have : s.data.size = s.size := rfl; omega
      rw [List.drop_append_of_le_length (by omega)] at hm
      rcases List.mem_append.1 hm with hm | hm
      · exact h2 hm
      · apply h
        rw [Option.mem_toList] at hm
        exact hm

theorem split_free (s : ByteArray) (c : UInt8) : ∀ p ∈ split s c, hasB p c = false := by
  obtain ⟨h1, h2⟩ := parts_free s c s.size (Nat.le_refl _)
  intro p hp
  unfold split at hp
  rcases List.mem_append.1 hp with hp | hp
  · exact h1 p hp
  · rw [List.mem_singleton] at hp
    subst hp
    unfold hasB
    rw [extract_list, ← Bool.not_eq_true, List.contains_eq_mem, decide_eq_true_eq]
    exact h2

theorem split_ne (s : ByteArray) (c : UInt8) : split s c ≠ [] := by unfold split; simp

theorem split_ok (s : ByteArray) (c : UInt8) (hs : s.size ≤ 4000) : joinOk (split s c) c = true := by
  rw [joinOk_iff]
  refine ⟨split_ne s c, split_free s c, ?_⟩
  have h := joinB_size ⟨#[c]⟩ (split s c) (split_ne s c)
  rw [split_joined] at h
  have e : ((⟨#[c]⟩ : ByteArray).size : Int) = 1 := rfl
  rw [e, Int.mul_one] at h
  omega

theorem one_byte (sep : ByteArray) (h : sep.size = 1) : sep = ⟨#[sep[0]'(by omega)]⟩ := by
  apply ba_ext
  have hl : sep.data.toList.length = 1 := by rw [Array.length_toList]; exact h
  apply List.ext_getElem
  · rw [hl]; rfl
  · intro i h1 h2
    have hi : i = 0 := by omega
    subst hi
    rfl

theorem part_size (s : ByteArray) (c : UInt8) (hs : s.size ≤ 4000) : ∀ p ∈ split s c, p.size ≤ 1048576 := by
  intro p hp
  have h := (joinOk_iff _ _).1 (split_ok s c hs)
  have h2 := total_mem hp
  have h3 : 0 < (split s c).length := List.length_pos_iff.2 h.1
  omega

end Go.Proofs.Ytjebehekhjbijaa.SplitJoinMath
