/-
  The mathematics of FnEnds: the words that EndsTo finds, plain words, what comes out by them. Conditions: none. Plain facts on texts and lists: nothing of the program.
-/
import Derived.Test.YteiocoahllnoeaaDoorEPl
import Derived.Test.YteiocoahllnoeaaDoorERunM
import Derived.Test.YteiocoahllnoeaaDoorTo
import Derived.Test.YteiocoahllnoeaaDoorWordFacts
namespace Go.Proofs.YteiocoahllnoeaaDoor.EFacts
open NumC OrdMath WordMath EndM ERunM EPlC ToC WordFacts RunC
set_option linter.unusedVariables false

/-! ### What is found comes out -/

theorem goE_prefix {zs ts : List Int} : ∀ (f i : Nat) (st : List Int) (x : Nat) (acc l : List UInt8), goE zs ts f i st x acc = some l → acc <+: l
  | 0, _, _, _, _, _, h => by simp [goE] at h
  | f + 1, i, st, x, acc, l, h => by
    unfold goE at h
    split at h
    · split at h
      · exact (List.prefix_append _ _).trans (goE_prefix f _ _ _ _ _ h)
      · split at h
        · exact (List.prefix_append _ _).trans (goE_prefix f _ _ _ _ _ h)
        · split at h
          · exact (List.prefix_append _ _).trans (goE_prefix f _ _ _ _ _ h)
          · cases h
    · cases h; exact List.prefix_refl _

/-- Behind every sign B two numbers at least were there. -/
def NoOne (w : ByteArray) (m : Nat) : Prop := ∀ k, k < m → byt w k = 66 → eTo w k ≠ some 1

theorem noOne_next {w : ByteArray} {m : Nat} (h : NoOne w m) (hn : byt w m = 66 → eTo w m ≠ some 1) : NoOne w (m + 1) := by
  intro k hk
  by_cases e : k = m
  · subst e; exact hn
  · exact h k (by omega)

theorem goE_run {zs ts : List Int} (hlen : zs.length = ts.length) : ∀ (f i : Nat) (st : List Int) (x : Nat) (acc l : List UInt8), goE zs ts f i st x acc = some l → i ≤ ts.length → i + st.length = x → x ≤ zs.length →
    eTo (txt l) acc.length = some st.length → runE zs (txt l) acc.length = (ts.take i, st, x) → acc.length = i + x → NoOne (txt l) acc.length →
    eTo (txt l) l.length = some 0 ∧ (runE zs (txt l) l.length).1 = ts ∧ l.length = 2 * ts.length ∧ NoOne (txt l) l.length
  | 0, _, _, _, _, _, h, _, _, _, _, _, _, _ => by simp [goE] at h
  | f + 1, i, st, x, acc, l, h, hi, hx, hxl, hh, hr, ha, hno => by
    unfold goE at h
    split at h
    · rename_i hlt
      split at h
      · rename_i hlast
        have hp := goE_prefix f _ _ _ _ _ h
        have hb := byt_txt_prefix hp
        have hpos : 0 < st.length := by cases st with | nil => simp at hlast | cons a b => simp
        have e : (acc ++ [84]).length = acc.length + 1 := by simp
        refine goE_run hlen f (i + 1) st.dropLast x (acc ++ [84]) l h (by omega) (by simp; omega) hxl ?_ ?_ (by simp; omega) ?_
        · rw [e, eto_P hh (.inl hb) hpos]; simp
        · rw [e, runE_T hr hb]
          rw [List.take_succ_eq_append_getElem hlt, hlast]
          simp [hlt]
        · rw [e]; exact noOne_next hno (fun h9 => by rw [hb] at h9; exact absurd h9 (by decide))
      · rename_i hlast
        split at h
        · rename_i hhead
          have hp := goE_prefix f _ _ _ _ _ h
          have hb := byt_txt_prefix hp
          have hpos : 0 < st.length := by cases st with | nil => simp at hhead | cons a b => simp
          have e : (acc ++ [66]).length = acc.length + 1 := by simp
          refine goE_run hlen f (i + 1) st.tail x (acc ++ [66]) l h (by omega) (by simp; omega) hxl ?_ ?_ (by simp; omega) ?_
          · rw [e, eto_P hh (.inr hb) hpos]; simp
          · rw [e, runE_B hr hb]
            rw [List.take_succ_eq_append_getElem hlt, hhead]
            simp [hlt]
          · rw [e]
            refine noOne_next hno (fun _ h1 => ?_)
            rw [hh] at h1
            have h2 : st.length = 1 := by simpa using h1
            obtain ⟨a, rfl⟩ := List.length_eq_one_iff.1 h2
            exact hlast (by simpa using hhead)
        · split at h
          · rename_i hxl2
            have hp := goE_prefix f _ _ _ _ _ h
            have hb := byt_txt_prefix hp
            have e : (acc ++ [73]).length = acc.length + 1 := by simp
            refine goE_run hlen f i (st ++ [zs.getD x 0]) (x + 1) (acc ++ [73]) l h hi (by simp; omega) (by omega) ?_ ?_ (by simp; omega) ?_
            · rw [e, eto_I hh hb]; simp
            · rw [e, runE_I hr hb]
            · rw [e]; exact noOne_next hno (fun h9 => by rw [hb] at h9; exact absurd h9 (by decide))
          · cases h
    · rename_i hlt
      cases h
      have h0 : st.length = 0 := by omega
      refine ⟨by rw [hh, h0], ?_, by omega, hno⟩
      rw [hr]
      exact List.take_of_length_le (by omega)

/-- The word that is found: it is one, the order comes out by it, and it is plain. -/
theorem ends_to {zs ts : List Int} {l : List UInt8} (ho : Ord zs) (hlen : zs.length = ts.length) (h : eRes zs ts = some l) : EWord (txt l) ∧ (txt l).size = 2 * zs.length ∧ outE zs (txt l) = ts ∧ NoOne (txt l) (txt l).size := by
  have h1 := goE_run hlen _ 0 [] 0 [] l h (Nat.zero_le _) rfl (Nat.zero_le _) rfl rfl rfl (fun k hk => by simp at hk)
  have h2 := ho.1
  have h3 := ho.2.1
  have hs : (txt l).size = l.length := txt_size l
  refine ⟨⟨by omega, by omega, by rw [hs]; exact h1.1⟩, by omega, by unfold outE; rw [hs]; exact h1.2.1, by rw [hs]; exact h1.2.2.2⟩

/-! ### Plain words -/

theorem plL_byt {w : ByteArray} : ∀ (n k : Nat), k < n → (plL w n).getD k 0 = plE w k
  | n + 1, k, h => by
    unfold plL
    by_cases e : k < n
    · rw [List.getD_eq_getElem?_getD, List.getElem?_append_left (by rw [plL_len]; exact e), ← List.getD_eq_getElem?_getD]
      exact plL_byt n k e
    · have : k = n := by omega
      subst this
      rw [List.getD_eq_getElem?_getD, List.getElem?_append_right (by rw [plL_len]; exact Nat.le_refl _), plL_len]
      simp

def plB (w : ByteArray) : ByteArray := txt (plL w w.size)

theorem plB_size (w : ByteArray) : (plB w).size = w.size := by unfold plB; rw [txt_size, plL_len]

theorem plB_byt {w : ByteArray} {k : Nat} (h : k < w.size) : byt (plB w) k = plE w k := by
  have e : byt (plB w) k = (plL w w.size).getD k 0 := by unfold byt plB; rw [txt_list]
  rw [e]
  exact plL_byt _ _ h

theorem plE_kind {w : ByteArray} {k d : Nat} (h : eTo w k = some d) (hc : byt w k = 84 ∨ byt w k = 66) : plE w k = 84 ∨ plE w k = 66 := by
  unfold plE
  rw [if_neg (by rcases hc with e | e <;> rw [e] <;> decide)]
  split
  · exact .inl rfl
  · exact hc

/-- A plain word goes the same way. -/
theorem plain_way {w : ByteArray} (hw : EWord w) : ∀ k, k ≤ w.size → eTo (plB w) k = eTo w k
  | 0, _ => rfl
  | k + 1, h => by
    have ih := plain_way hw k (by omega)
    have hb := plB_byt (w := w) (k := k) (by omega)
    obtain ⟨d, h1, _, _, hc⟩ := EWord.at hw (k := k) (by omega)
    rw [h1] at ih
    rcases hc with ⟨h2, h3, _⟩ | ⟨h2, h0, h3⟩ | ⟨h2, h0, h3⟩
    · rw [h3]
      refine eto_I ih ?_
      rw [hb]; unfold plE; rw [if_pos h2]
    · rw [h3]
      exact eto_P ih (by rw [hb]; exact plE_kind h1 (.inl h2)) h0
    · rw [h3]
      exact eto_P ih (by rw [hb]; exact plE_kind h1 (.inr h2)) h0

theorem plain_word {w : ByteArray} (hw : EWord w) : EWord (plB w) := by
  refine ⟨by rw [plB_size]; exact hw.1, by rw [plB_size]; exact hw.2.1, ?_⟩
  rw [plB_size, plain_way hw _ (Nat.le_refl _)]
  exact hw.2.2

theorem plain_same {w : ByteArray} (h : NoOne w w.size) (hw : EWord w) : plB w = w := by
  have hl : plL w w.size = w.data.toList := by
    apply List.ext_getElem?
    intro k
    by_cases hk : k < w.size
    · have h1 := plL_byt (w := w) w.size k hk
      have h2 : (plL w w.size)[k]? = some (plE w k) := by
        rw [List.getElem?_eq_getElem (by rw [plL_len]; exact hk)]
        rw [List.getD_eq_getElem?_getD, List.getElem?_eq_getElem (by rw [plL_len]; exact hk)] at h1
        simpa using h1
      have hk2 : k < w.data.toList.length := by rw [Array.length_toList]; exact hk
      have h3 : w.data.toList[k]? = some (byt w k) := by
        unfold byt
        rw [List.getD_eq_getElem?_getD, List.getElem?_eq_getElem hk2]
        rfl
      rw [h2, h3]
      unfold plE
      split
      · rename_i e; rw [e]
      · rename_i e
        split
        · rename_i e1
          obtain ⟨d, hd, _, _, hc⟩ := EWord.at hw hk
          rcases hc with ⟨h2, _⟩ | ⟨h2, _⟩ | ⟨h2, _⟩
          · exact absurd h2 e
          · rw [h2]
          · exact absurd e1 (h k hk h2)
        · rfl
    · rw [List.getElem?_eq_none (by rw [plL_len]; omega), List.getElem?_eq_none (by rw [Array.length_toList]; exact Nat.le_of_not_lt hk)]
  unfold plB
  rw [hl]
  exact ByteArray.ext (by rfl)

theorem plain_noOne {w : ByteArray} (hw : EWord w) : NoOne (plB w) (plB w).size := by
  intro k hk hb h1
  rw [plB_size] at hk
  rw [plain_way hw k (by omega)] at h1
  rw [plB_byt hk] at hb
  unfold plE at hb
  split at hb
  · exact absurd hb (by decide)
  · first
    | exact absurd hb (by decide)
    | (rw [if_pos h1] at hb; exact absurd hb (by decide))

theorem plain_again {w : ByteArray} (hw : EWord w) : plB (plB w) = plB w := plain_same (plain_noOne hw) (plain_word hw)

/-- The same comes out by a plain word. -/
theorem plain_run {zs : List Int} {w : ByteArray} (hw : EWord w) : ∀ k, k ≤ w.size → runE zs (plB w) k = runE zs w k
  | 0, _ => rfl
  | k + 1, h => by
    have ih := plain_run (zs := zs) hw k (by omega)
    have hb := plB_byt (w := w) (k := k) (by omega)
    obtain ⟨d, h1, _, _, hc⟩ := EWord.at hw (k := k) (by omega)
    obtain ⟨o, s, x, hr⟩ : ∃ o s x, runE zs w k = (o, s, x) := ⟨_, _, _, rfl⟩
    have hl := runE_len (zs := zs) k d h1
    rw [hr] at hl ih
    simp only at hl
    rcases hc with ⟨h2, h3, _⟩ | ⟨h2, h0, h3⟩ | ⟨h2, h0, h3⟩
    · rw [runE_I hr h2, runE_I ih (by rw [hb]; unfold plE; rw [if_pos h2])]
    · rw [runE_T hr h2, runE_T ih (by rw [hb]; unfold plE; rw [if_neg (by rw [h2]; decide), h2]; split <;> rfl)]
    · rw [runE_B hr h2]
      by_cases e1 : d = 1
      · rw [runE_T ih (by rw [hb]; unfold plE; rw [if_neg (by rw [h2]; decide), if_pos (by rw [h1, e1])])]
        obtain ⟨a, rfl⟩ := List.length_eq_one_iff.1 (show s.length = 1 by omega)
        rfl
      · rw [runE_B ih (by rw [hb]; unfold plE; rw [if_neg (by rw [h2]; decide), if_neg (by rw [h1]; simpa using e1)]; exact h2)]

theorem plain_out {zs : List Int} {w : ByteArray} (hw : EWord w) : outE zs (plB w) = outE zs w := by
  unfold outE
  rw [plB_size, plain_run hw _ (Nat.le_refl _)]

end Go.Proofs.YteiocoahllnoeaaDoor.EFacts
