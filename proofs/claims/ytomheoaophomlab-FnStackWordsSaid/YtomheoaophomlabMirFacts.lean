/-
  The mathematics of mirrored words: a mirrored word is a word, as deep, and mirrored again it is the word. Conditions: none. Plain facts: nothing of the program.
-/
import Derived.Test.YtomheoaophomlabMirror
namespace Go.Proofs.Ytomheoaophomlab.MirFacts
open WordMath WordC NumC MirrorC

theorem word_byte {w : ByteArray} (hw : Word w) {k : Nat} (hk : k < w.size) : byt w k = 73 ∨ byt w k = 79 := by
  obtain ⟨d, _, _, _, h⟩ := hw.at hk
  rcases h with ⟨h, _⟩ | ⟨h, _⟩
  · exact .inl h
  · exact .inr h

theorem byt_mir {w : ByteArray} {k : Nat} (hk : k < w.size) : byt (txt (mirList w)) (w.size - 1 - k) = mir (byt w k) := by
  have hl := mirList_len w
  have h1 := mirList_at w k hk
  unfold byt
  rw [txt_list, List.getD_eq_getElem?_getD, List.getElem?_eq_getElem (by omega), Option.getD_some]
  exact h1

theorem held_mir {w : ByteArray} (hw : Word w) : ∀ k, k ≤ w.size → heldTo (txt (mirList w)) k = heldTo w (w.size - k) := by
  intro k
  induction k with
  | zero => intro _; rw [Nat.sub_zero, hw.2.2]; rfl
  | succ k ih =>
    intro hk
    have ih' := ih (by omega)
    obtain ⟨d, hd, hd1, hd2, hc⟩ := hw.at (k := w.size - (k + 1)) (by omega)
    have e1 : w.size - (k + 1) + 1 = w.size - k := by omega
    rw [e1] at hc
    have hb := byt_mir (w := w) (k := w.size - (k + 1)) (by omega)
    have e2 : w.size - 1 - (w.size - (k + 1)) = k := by omega
    rw [e2] at hb
    rw [hd]
    rcases hc with ⟨hI, hn, _⟩ | ⟨hO, hd0, hn⟩
    · rw [hn] at ih'
      rw [mir_I hI] at hb
      rw [held_O ih' hb (by omega)]; simp
    · rw [hn] at ih'
      rw [mir_O hO] at hb
      rw [held_I ih' hb]
      congr 1; omega

theorem mir_size (w : ByteArray) : (txt (mirList w)).size = w.size := by rw [txt_size, mirList_len]

theorem mir_word {w : ByteArray} (hw : Word w) : Word (txt (mirList w)) := by
  have hs := mir_size w
  refine ⟨by rw [hs]; exact hw.1, by rw [hs]; exact hw.2.1, ?_⟩
  rw [hs, held_mir hw w.size (Nat.le_refl _), Nat.sub_self]; rfl

theorem depth_bound {w : ByteArray} {D : Nat} : ∀ k, depthTo w k ≤ D ↔ ∀ j, j ≤ k → (heldTo w j).getD 0 ≤ D
  | 0 => by
    constructor
    · intro _ j hj
      have : j = 0 := by omega
      subst this
      show 0 ≤ D
      omega
    · intro _; exact Nat.zero_le _
  | k + 1 => by
    show max (depthTo w k) ((heldTo w (k + 1)).getD 0) ≤ D ↔ _
    rw [Nat.max_le, depth_bound k]
    constructor
    · rintro ⟨h1, h2⟩ j hj
      by_cases e : j = k + 1
      · subst e; exact h2
      · exact h1 j (by omega)
    · intro h; exact ⟨fun j hj => h j (by omega), h (k + 1) (Nat.le_refl _)⟩

theorem mir_depth {w : ByteArray} (hw : Word w) : depthTo (txt (mirList w)) (txt (mirList w)).size = depthTo w w.size := by
  have hs := mir_size w
  rw [hs]
  apply Nat.le_antisymm
  · rw [depth_bound]
    intro j hj
    rw [held_mir hw j hj]
    exact (depth_bound (w := w) (D := depthTo w w.size) w.size).1 (Nat.le_refl _) _ (by omega)
  · rw [depth_bound]
    intro j hj
    have h1 := held_mir hw (w.size - j) (by omega)
    have e : w.size - (w.size - j) = j := by omega
    rw [e] at h1
    rw [← h1]
    exact (depth_bound (w := txt (mirList w)) (D := depthTo (txt (mirList w)) w.size) w.size).1 (Nat.le_refl _) _ (by omega)

theorem mir_mir {w : ByteArray} (hw : Word w) : txt (mirList (txt (mirList w))) = w := by
  have hs := mir_size w
  have e : mirList (txt (mirList w)) = w.data.toList := by
    unfold mirList
    rw [txt_list, ← List.map_reverse, List.reverse_reverse, List.map_map]
    conv => rhs; rw [← List.map_id w.data.toList]
    apply List.map_congr_left
    intro c hc
    obtain ⟨k, hk, e⟩ := List.mem_iff_getElem.1 hc
    have hk2 : k < w.size := by rw [Array.length_toList] at hk; exact hk
    have hb := word_byte hw hk2
    have e2 : byt w k = c := by
      unfold byt
      rw [List.getD_eq_getElem?_getD, List.getElem?_eq_getElem hk, Option.getD_some, e]
    rw [e2] at hb
    rcases hb with rfl | rfl
    · rfl
    · rfl
  rw [e]
  unfold txt
  cases w; simp

/-- What the second calls answer. -/
theorem mir_facts {w : ByteArray} (hw : Word w) : mirrorAns (txt (mirList w)) = (w, true) ∧ depthAns (txt (mirList w)) = depthAns w := by
  have h := mir_word hw
  refine ⟨by unfold mirrorAns; rw [if_pos h, mir_mir hw], ?_⟩
  unfold depthAns
  rw [if_pos h, if_pos hw, mir_depth hw]

end Go.Proofs.Ytomheoaophomlab.MirFacts
