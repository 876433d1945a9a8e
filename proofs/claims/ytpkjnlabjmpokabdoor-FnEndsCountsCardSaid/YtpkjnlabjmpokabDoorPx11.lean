/-
  What strings.Map makes of a text that is an ends word, and of one that is none. Conditions: none. Plain facts on texts.
-/
import Derived.Test.YtpkjnlabjmpokabDoorPx2
import Derived.Lib.MapLaws
import Derived.Lib.TrimAscii
import Derived.Lib.Bytealg

namespace Go.Proofs.YtpkjnlabjmpokabDoor.EMapC
open Go.Lib WordMath EndM

/-- What the program's mapping makes of a rune. -/
def mapR (x : Int) : Int := if x = 84 ∨ x = 66 then 79 else x

theorem enc_ascii (n : Nat) (h : n < 128) : encodeRune (n : Int) = [n.toUInt8] := by
  unfold encodeRune
  rw [encodeRuneZ_one (by omega) (by omega)]
  simp

theorem mapR_byte (b : UInt8) (hb : b.toNat < 128) : ∃ n : Nat, mapR (b.toNat : Int) = (n : Int) ∧ n < 128 ∧ n.toUInt8 = stk b := by
  unfold mapR stk
  by_cases h : b = 84 ∨ b = 66
  · rw [if_pos h, if_pos (by rcases h with rfl | rfl <;> decide)]
    exact ⟨79, rfl, by decide, by decide⟩
  · rw [if_neg h, if_neg (by
      intro h2; apply h
      rcases h2 with h2 | h2
      · left; apply UInt8.toNat_inj.1; show b.toNat = 84; omega
      · right; apply UInt8.toNat_inj.1; show b.toNat = 66; omega)]
    exact ⟨b.toNat, rfl, hb, by simp⟩

theorem map_head (b : UInt8) (t : List UInt8) (hb : b.toNat < 128) : mapD mapR (b :: t) = stk b :: mapD mapR t := by
  rw [mapD_step _ _ (by simp), decodeL_ascii b t hb]
  obtain ⟨n, h1, h2, h3⟩ := mapR_byte b hb
  simp only [h1, List.drop_succ_cons, List.drop_zero]
  rw [if_pos (by omega), enc_ascii n h2, h3]
  rfl

theorem map_ascii : ∀ l : List UInt8, (∀ b ∈ l, b.toNat < 128) → mapD mapR l = l.map stk
  | [], _ => rfl
  | b :: t, h => by
    rw [map_head b t (h b (by simp)), map_ascii t (fun x hx => h x (by simp [hx]))]
    rfl

theorem enc_high (r : Nat) (h : 128 ≤ r) : ∃ (c : UInt8) (t : List UInt8), encodeRune (r : Int) = c :: t ∧ 128 ≤ c.toNat := by
  unfold encodeRune encodeRuneZ
  have h0 : ¬ (0 ≤ (r : Int) ∧ (r : Int) ≤ 127) := by omega
  rw [if_neg h0]
  have key : ∀ z : Int, 128 ≤ z → z ≤ 255 → 128 ≤ (z.toNat.toUInt8).toNat := by
    intro z h1 h2
    have : z.toNat < 256 := by omega
    simp only [Nat.toUInt8, UInt8.toNat_ofNat']
    omega
  split
  · exact ⟨_, _, rfl, key _ (by omega) (by omega)⟩
  · split
    · exact ⟨_, _, rfl, key _ (by omega) (by omega)⟩
    · split
      · exact ⟨_, _, rfl, key _ (by omega) (by omega)⟩
      · exact ⟨_, _, rfl, by decide⟩

theorem rune_high (b : UInt8) (t : List UInt8) (hb : 128 ≤ b.toNat) : 128 ≤ (decodeL (b :: t)).1 := by
  by_cases hv : (decodeL (b :: t)).1 = 65533 ∧ (decodeL (b :: t)).2 = 1
  · rw [hv.1]; decide
  · have he := encode_decode (b :: t) (by simp) hv
    apply Nat.le_of_not_lt
    intro hlt
    rw [enc_ascii _ hlt] at he
    have hw : 1 ≤ (decodeL (b :: t)).2 := decodeL_width _
    obtain ⟨m, hm⟩ : ∃ m, (decodeL (b :: t)).2 = m + 1 := ⟨_, (Nat.sub_add_cancel hw).symm⟩
    rw [hm, List.take_succ_cons] at he
    have := (List.cons.inj he).1
    rw [← this] at hb
    simp only [Nat.toUInt8, UInt8.toNat_ofNat'] at hb
    omega

theorem map_high : ∀ (n : Nat) (l : List UInt8), l.length ≤ n → ∀ b ∈ l, 128 ≤ b.toNat → ∃ c ∈ mapD mapR l, 128 ≤ c.toNat
  | 0, l, hl, b, hb, _ => by
    have : l = [] := List.length_eq_zero_iff.1 (by omega)
    subst this; simp at hb
  | n + 1, [], _, b, hb, _ => by simp at hb
  | n + 1, a :: t, hl, b, hb, h => by
    by_cases ha : a.toNat < 128
    · rw [map_head a t ha]
      rcases List.mem_cons.1 hb with rfl | hb
      · omega
      · obtain ⟨c, hc, h2⟩ := map_high n t (by simp at hl; omega) b hb h
        exact ⟨c, by simp [hc], h2⟩
    · rw [mapD_step _ _ (by simp)]
      have hr := rune_high a t (by omega)
      have hf : mapR ((decodeL (a :: t)).1 : Int) = ((decodeL (a :: t)).1 : Int) := by
        unfold mapR; rw [if_neg (by omega)]
      rw [hf, if_pos (by omega)]
      obtain ⟨c, s, hc, h2⟩ := enc_high _ hr
      rw [hc]
      exact ⟨c, by simp, h2⟩

theorem index_no (l : List UInt8) (c : UInt8) : 0 ≤ indexByte l c ↔ c ∈ l := by
  induction l with
  | nil => simp [indexByte]
  | cons b l ih =>
    have hge := indexByte_ge l c
    unfold indexByte
    by_cases h : b = c
    · subst h; simp
    · simp only [List.mem_cons]
      have : ¬ c = b := fun e => h e.symm
      simp only [this, false_or, ← ih]
      simp [h]
      split <;> omega

theorem no79 {s : ByteArray} (h : (79 : UInt8) ∉ s.data.toList) : ∀ j, j < s.size → byt s j ≠ 79 := by
  intro j hj e
  have h2 : j < s.data.toList.length := by rw [Array.length_toList]; exact hj
  apply h
  rw [← e]
  unfold byt
  rw [List.getD_eq_getElem?_getD, List.getElem?_eq_getElem h2]
  exact List.getElem_mem h2

theorem word_bytes {s : ByteArray} (h : Word s) : ∀ c ∈ s.data.toList, c = 73 ∨ c = 79 := by
  intro c hc
  obtain ⟨k, hk, e⟩ := List.mem_iff_getElem.1 hc
  have hk2 : k < s.size := by rw [Array.length_toList] at hk; exact hk
  have hb : byt s k = c := by unfold byt; rw [List.getD_eq_getElem?_getD, List.getElem?_eq_getElem hk]; exact e
  obtain ⟨d, _, _, _, h1⟩ := h.at hk2
  rcases h1 with ⟨h1, _⟩ | ⟨h1, _⟩
  · left; rw [← hb]; exact h1
  · right; rw [← hb]; exact h1

/-- What the program makes of a text. -/
def mapB (s : ByteArray) : ByteArray := ⟨(mapD mapR s.data.toList).toArray⟩

theorem map_is {s : ByteArray} (h : ∀ b ∈ s.data.toList, b.toNat < 128) : mapB s = stkB s := by
  unfold mapB stkB
  rw [map_ascii _ h]

/-- A text without an O is an ends word just if what becomes of it is a word; then this is its word. -/
theorem map_word {s : ByteArray} (h79 : (79 : UInt8) ∉ s.data.toList) : isWord (mapB s) = isEW s ∧ (isEW s = true → mapB s = stkB s) := by
  by_cases ha : ∀ b ∈ s.data.toList, b.toNat < 128
  · have e := map_is ha
    refine ⟨?_, fun _ => e⟩
    rw [e]
    unfold isWord isEW
    by_cases hw : Word (stkB s)
    · rw [decide_eq_true hw, decide_eq_true ((eword_iff s).2 ⟨no79 h79, hw⟩)]
    · rw [decide_eq_false hw, decide_eq_false (fun h => hw ((eword_iff s).1 h).2)]
  · obtain ⟨b, hb⟩ := Classical.not_forall.1 ha
    obtain ⟨hb, hb2⟩ := Classical.not_imp.1 hb
    have hE : ¬ EWord s := by
      intro h
      have hw := ((eword_iff s).1 h).2
      have h1 := word_bytes hw (stk b) (by unfold stkB; exact List.mem_map_of_mem hb)
      apply hb2
      unfold stk at h1
      split at h1
      · rename_i h2; rcases h2 with rfl | rfl <;> decide
      · rcases h1 with rfl | rfl <;> decide
    have hW : ¬ Word (mapB s) := by
      intro h
      obtain ⟨c, hc, h2⟩ := map_high _ s.data.toList (Nat.le_refl _) b hb (by omega)
      have h1 := word_bytes h c (by unfold mapB; simpa using hc)
      rcases h1 with rfl | rfl <;> exact absurd h2 (by decide)
    unfold isWord isEW
    rw [decide_eq_false hW, decide_eq_false hE]
    exact ⟨rfl, fun h => by cases h⟩

theorem map_len {s : ByteArray} : ∀ (n : Nat) (l : List UInt8), l.length ≤ n → (mapD mapR l).length ≤ 4 * l.length
  | 0, l, hl => by
    have : l = [] := List.length_eq_zero_iff.1 (by omega)
    subst this; simp [mapD_nil]
  | n + 1, [], _ => by simp [mapD_nil]
  | n + 1, a :: t, hl => by
    rw [mapD_step _ _ (by simp)]
    have hw : 1 ≤ (decodeL (a :: t)).2 := decodeL_width _
    have h2 := map_len (s := s) n ((a :: t).drop (decodeL (a :: t)).2) (by simp at hl ⊢; omega)
    have h3 : (if 0 ≤ mapR ((decodeL (a :: t)).1 : Int) then encodeRune (mapR ((decodeL (a :: t)).1 : Int)) else []).length ≤ 4 := by
      split
      · unfold encodeRune encodeRuneZ
        split
        · simp
        · split
          · simp
          · split
            · simp
            · split <;> simp
      · simp
    rw [List.length_append]
    simp only [List.length_drop, List.length_cons] at h2 ⊢
    omega

theorem ew_no {s : ByteArray} (h : (79 : UInt8) ∈ s.data.toList) : isEW s = false := by
  unfold isEW
  rw [decide_eq_false_iff_not]
  intro he
  obtain ⟨k, hk, e⟩ := List.mem_iff_getElem.1 h
  have hk2 : k < s.size := by rw [Array.length_toList] at hk; exact hk
  exact ew_no79 he.2.2 k hk2 (by unfold byt; rw [List.getD_eq_getElem?_getD, List.getElem?_eq_getElem hk]; exact e)

end Go.Proofs.YtpkjnlabjmpokabDoor.EMapC
