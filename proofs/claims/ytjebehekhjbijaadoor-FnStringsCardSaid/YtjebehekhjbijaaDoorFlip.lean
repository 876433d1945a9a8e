/-
  Mathematics: a text with its checksum is verified, and with any one byte changed to another it is not.
-/
import Derived.Test.YtjebehekhjbijaaDoorVerify
import Derived.Test.YtjebehekhjbijaaDoorReadMath
import Derived.Laws.BitsAllLaws
namespace Go.Proofs.YtjebehekhjbijaaDoor.FlipC
open SumMath JoinMath PreC NumC SealC VerifyC ReadMath

theorem itoa_inj {a b : Int} (a0 : 0 ≤ a) (a1 : a < 999979) (b0 : 0 ≤ b) (b1 : b < 999979) (h : Lib.itoa a = Lib.itoa b) : a = b := by
  have h1 := itoa_atoi a (by omega) (by omega)
  have h2 := itoa_atoi b (by omega) (by omega)
  rw [h, h2] at h1
  cases h1
  rfl

theorem step_ne {h k : Int} (c : UInt8) (h0 : 0 ≤ h) (h1 : h < 999979) (k0 : 0 ≤ k) (k1 : k < 999979) (hne : h ≠ k) : SumMath.step h c ≠ SumMath.step k c := by
  unfold SumMath.step
  omega

theorem step_ne_byte (h : Int) {c d : UInt8} (hne : c.toNat ≠ d.toNat) : SumMath.step h c ≠ SumMath.step h d := by
  have h1 := c.toNat_lt
  have h2 := d.toNat_lt
  unfold SumMath.step
  omega

theorem from_ne (l : List UInt8) : ∀ h k : Int, 0 ≤ h → h < 999979 → 0 ≤ k → k < 999979 → h ≠ k → from' h l ≠ from' k l := by
  induction l with
  | nil => intro h k _ _ _ _ hne; exact hne
  | cons c l ih =>
    intro h k h0 h1 k0 k1 hne
    exact ih _ _ (step_bd h c).1 (step_bd h c).2 (step_bd k c).1 (step_bd k c).2 (step_ne c h0 h1 k0 k1 hne)

theorem chk_parts (a b : List UInt8) (c : UInt8) : chk (a ++ c :: b) = from' (SumMath.step (chk a) c) b := by
  unfold chk from'
  rw [List.foldl_append]
  rfl

theorem chk_ne (a b : List UInt8) {c d : UInt8} (hne : c ≠ d) : chk (a ++ c :: b) ≠ chk (a ++ d :: b) := by
  rw [chk_parts, chk_parts]
  exact from_ne b _ _ (step_bd _ c).1 (step_bd _ c).2 (step_bd _ d).1 (step_bd _ d).2 (step_ne_byte _ fun e => hne (UInt8.toNat_inj.1 e))

theorem dig_no {u : Nat} : (35 : UInt8) ∉ Lib.decDigits u := by
  intro h
  have := List.all_eq_true.1 (digits_all u) _ h
  revert this
  decide

/-- The digits of a text's checksum. -/
def dg (l : List UInt8) : List UInt8 := Lib.itoa (chk l)

theorem dg_no (l : List UInt8) : (35 : UInt8) ∉ dg l := by
  have := chk_bd l
  unfold dg Lib.itoa
  rw [if_neg (by omega)]
  exact dig_no

theorem dg_inj {a b : List UInt8} (h : dg a = dg b) : chk a = chk b :=
  itoa_inj (chk_bd a).1 (chk_bd a).2 (chk_bd b).1 (chk_bd b).2 h

theorem seal_list (s : ByteArray) : (sealB s).data.toList = s.data.toList ++ 35 :: dg s.data.toList := by
  unfold sealB digs
  rw [ba_append, ba_append, txt_list]
  simp [dg]

theorem hasB_no {s : ByteArray} (h : hasB s 35 = false) : (35 : UInt8) ∉ s.data.toList := by
  intro hm
  unfold hasB at h
  rw [List.contains_iff_mem.2 hm] at h
  cases h

theorem pre_cut (s : ByteArray) (a r : List UInt8) (hs : s.data.toList = a ++ 35 :: r) (ha : (35 : UInt8) ∉ a) : (pre s 35).data.toList = a := by
  have hsz : a.length < s.size := by rw [← ReadC.size_list, hs]; simp
  rw [pre_hit hsz (by rw [hs]; simp) (fun j hj e => ?_), extract_take, hs]
  · simp
  · rw [hs, List.getElem?_append_left hj] at e
    exact ha (List.mem_of_getElem? e)

/-- A text whose front, sealed, would be itself. -/
def whole (y : ByteArray) : Prop := sealB (pre y 35) = y

theorem not_whole {y : ByteArray} (a r : List UInt8) (hy : y.data.toList = a ++ 35 :: r) (ha : (35 : UInt8) ∉ a) (hr : dg a ≠ r) : sealB (pre y 35) ≠ y := by
  intro e
  have h := congrArg (fun b : ByteArray => b.data.toList) e
  simp only [seal_list, pre_cut y a r hy ha, hy] at h
  have := List.append_cancel_left h
  exact hr (List.cons.inj this).2

theorem not_whole_none {y : ByteArray} (hy : (35 : UInt8) ∉ y.data.toList) : sealB (pre y 35) ≠ y := by
  intro e
  apply hy
  rw [← e, seal_list]
  simp

theorem flip_front {y : ByteArray} (A B : List UInt8) (c0 c : UInt8) (hx : (35 : UInt8) ∉ A ++ c0 :: B) (hy : y.data.toList = (A ++ c :: B) ++ 35 :: dg (A ++ c0 :: B)) (hne : c0 ≠ c) : sealB (pre y 35) ≠ y := by
  have hA : (35 : UInt8) ∉ A := fun h => hx (List.mem_append.2 (.inl h))
  have hB : (35 : UInt8) ∉ B := fun h => hx (List.mem_append.2 (.inr (List.mem_cons.2 (.inr h))))
  by_cases hc35 : c = 35
  · subst hc35
    rw [List.append_assoc, List.cons_append] at hy
    refine not_whole _ _ hy hA fun e => ?_
    have := dg_no A
    rw [e] at this
    simp at this
  · refine not_whole _ _ hy (fun hm => ?_) fun e => chk_ne A B hne (dg_inj e).symm
    rcases List.mem_append.1 hm with h | h
    · exact hA h
    · rcases List.mem_cons.1 h with h | h
      · exact hc35 h.symm
      · exact hB h

theorem flip_mid {y : ByteArray} (X : List UInt8) (c : UInt8) (hx : (35 : UInt8) ∉ X) (hy : y.data.toList = X ++ c :: dg X) (hne : (35 : UInt8) ≠ c) : sealB (pre y 35) ≠ y := by
  refine not_whole_none ?_
  rw [hy]
  intro hm
  rcases List.mem_append.1 hm with h | h
  · exact hx h
  · rcases List.mem_cons.1 h with h | h
    · exact hne h
    · exact dg_no X h

theorem flip_end {y : ByteArray} (X : List UInt8) (j : Nat) (c : UInt8) (hx : (35 : UInt8) ∉ X) (hj : j < (dg X).length) (hy : y.data.toList = X ++ 35 :: (dg X).set j c) (hne : (dg X)[j] ≠ c) : sealB (pre y 35) ≠ y := by
  refine not_whole _ _ hy hx fun e => hne ?_
  have h : (dg X)[j]? = ((dg X).set j c)[j]? := by rw [← e]
  rw [List.getElem?_eq_getElem hj, List.getElem?_set_self hj] at h
  exact Option.some.inj h

/-- The mathematics of a changed byte. -/
theorem flip (x y : ByteArray) (k : Nat) (c : UInt8) (hx : hasB x 35 = false) (hk : k < (sealB x).data.toList.length) (hy : y.data.toList = (sealB x).data.toList.set k c) (hne : (sealB x).data.toList[k] ≠ c) : sealB (pre y 35) ≠ y := by
  have hx' := hasB_no hx
  have hne' : (sealB x).data.toList[k]? ≠ some c := by rw [List.getElem?_eq_getElem hk]; exact fun e => hne (Option.some.inj e)
  clear hne
  rw [seal_list] at hk hy hne'
  generalize x.data.toList = X at *
  by_cases h1 : k < X.length
  · rw [List.set_append_left _ _ h1] at hy
    rw [List.getElem?_append_left h1, List.getElem?_eq_getElem h1] at hne'
    have hc : X[k] ≠ c := fun e => hne' (by rw [e])
    have hX : X.take k ++ X[k] :: X.drop (k + 1) = X := by rw [List.getElem_cons_drop, List.take_append_drop]
    have hS : X.set k c = X.take k ++ c :: X.drop (k + 1) := by rw [List.set_eq_take_append_cons_drop, if_pos h1]
    refine flip_front (X.take k) (X.drop (k + 1)) X[k] c (by rw [hX]; exact hx') (by rw [hX, ← hS]; exact hy) hc
  · obtain ⟨j, rfl⟩ : ∃ j, k = X.length + j := ⟨k - X.length, by omega⟩
    rw [List.set_append_right _ _ (by omega), Nat.add_sub_cancel_left] at hy
    rw [List.getElem?_append_right (by omega), Nat.add_sub_cancel_left] at hne'
    cases j with
    | zero => exact flip_mid X c hx' hy (fun e => hne' (by rw [e]; rfl))
    | succ j =>
      have hj : j < (dg X).length := by rw [List.length_append, List.length_cons] at hk; omega
      refine flip_end X j c hx' hj hy fun e => hne' ?_
      rw [List.getElem?_cons_succ, List.getElem?_eq_getElem hj, e]

theorem verify_flip {x y r : ByteArray} {b : Bool} {k : Nat} {c : UInt8} (hx : hasB x 35 = false) (hk : k < (sealB x).data.toList.length) (hy : y.data.toList = (sealB x).data.toList.set k c) (hne : (sealB x).data.toList[k] ≠ c) (h : verifyAns y = (r, b)) : b = false := by
  unfold verifyAns at h
  rw [if_neg (fun e => flip x y k c hx hk hy hne e.2)] at h
  cases h
  rfl

theorem verify_seal {x : ByteArray} (hx : hasB x 35 = false) (hs : (sealB x).size ≤ 4000) : verifyAns (sealB x) = (x, true) := by
  have hp : pre (sealB x) 35 = x := ba_ext (pre_cut _ _ _ (seal_list x) (hasB_no hx))
  unfold verifyAns
  rw [hp, if_pos ⟨hs, rfl⟩]

/-- Exclusive or with another number than 0 gives another byte. -/
theorem xor_ne (a m : Int) (a0 : 0 ≤ a) (a1 : a < 256) (m0 : 1 ≤ m) (m1 : m < 256) : 0 ≤ bits .xor .u8 a m ∧ bits .xor .u8 a m ≤ 255 ∧ bits .xor .u8 a m ≠ a := by
  rw [u8_xor a m a0 a1 (by omega) m1]
  have h : a.toNat ^^^ m.toNat < 2 ^ 8 := Nat.xor_lt_two_pow (by omega) (by omega)
  refine ⟨by omega, by omega, fun e => ?_⟩
  have e' : a.toNat ^^^ m.toNat = a.toNat := by omega
  have h2 : a.toNat ^^^ (a.toNat ^^^ m.toNat) = m.toNat := by rw [← Nat.xor_assoc, Nat.xor_self, Nat.zero_xor]
  rw [e', Nat.xor_self] at h2
  omega

/-- The answers of AppendChecksum. -/
theorem append_yes {x y : ByteArray} (h : appendAns x = (y, true)) : y = sealB x ∧ hasB x 35 = false ∧ (sealB x).size ≤ 4000 := by
  unfold appendAns at h
  by_cases hc : x.size ≤ 4000 ∧ hasB x 35 = false ∧ (sealB x).size ≤ 4000
  · rw [if_pos hc] at h
    cases h
    exact ⟨rfl, hc.2.1, hc.2.2⟩
  · rw [if_neg hc] at h
    cases h

theorem append_no {x y : ByteArray} (h : appendAns x = (y, false)) : y = ByteArray.empty := by
  unfold appendAns at h
  by_cases hc : x.size ≤ 4000 ∧ hasB x 35 = false ∧ (sealB x).size ≤ 4000
  · rw [if_pos hc] at h
    cases h
  · rw [if_neg hc] at h
    cases h
    rfl

/-- What FormatInt answers is short, and is read back. -/
theorem fmt_back {n : Int} {s : ByteArray} {ok : Bool} (h : FmtC.fmtAns n = (s, ok)) : s.size ≤ 1048576 ∧ (ok = true → readAns s.data.toList = (n, true)) := by
  unfold FmtC.fmtAns at h
  by_cases hc : n < -999999 ∨ 999999 < n
  · rw [if_pos hc] at h
    cases h
    exact ⟨by decide, fun e => by cases e⟩
  · rw [if_neg hc] at h
    cases h
    refine ⟨?_, fun _ => readAns_yes (by omega) (by omega) (txt_list _).symm⟩
    rw [txt_size]
    unfold Lib.itoa
    have h1 := digits_short 5 n.natAbs (by omega)
    have h2 := digits_short 5 n.toNat (by omega)
    split
    · rw [List.length_cons]; omega
    · omega

theorem seal_list_size (x : ByteArray) : (sealB x).data.toList.length = (sealB x).size := ReadC.size_list _

end Go.Proofs.YtjebehekhjbijaaDoor.FlipC
