/-
  Contracts: BottomPops of the model and of the program. Conditions: lists of at most 2^20 numbers.
-/
import Derived.Test.YteiocoahllnoeaaDoorEToP
import Derived.Test.YteiocoahllnoeaaDoorShelf
namespace Go.Proofs.YteiocoahllnoeaaDoor.EBotC
open Go.RowKit SeesC IntsC ExactC NumC IterC OrdMath WordMath InC OrderC WordC RunC ToC EndM EToC EToPC

def botAns (xs ys : List Int) : Int × Bool := (((endsAns xs ys).1.data.toList.count 66 : Nat), (endsAns xs ys).2)

theorem ends_size (xs ys : List Int) : (endsAns xs ys).1.size ≤ 14 := by
  unfold endsAns
  split
  · rename_i h
    unfold optAns
    cases hr : eRes xs ys with
    | none => simp
    | some l =>
      show (txt l).size ≤ 14
      rw [txt_size]
      have h1 := goE_len _ _ _ _ _ _ hr (by simp) (Nat.zero_le _) (Nat.zero_le _)
      have h2 := h.1.2.1
      have h3 := h.2.1.2.1
      omega
  · simp

theorem count_next (s : ByteArray) (k : Nat) (hk : k < s.size) : (s.data.toList.take (k + 1)).count 66 = (s.data.toList.take k).count 66 + (if byt s k = 66 then 1 else 0) := by
  have h2 : k < s.data.toList.length := by rw [Array.length_toList]; exact hk
  rw [List.take_succ_eq_append_getElem h2, List.count_append]
  congr 1
  have e : byt s k = s.data.toList[k] := by unfold byt; rw [List.getD_eq_getElem?_getD, List.getElem?_eq_getElem h2]; rfl
  rw [e, List.count_singleton]
  by_cases h : s.data.toList[k] = 66
  · rw [if_pos h, if_pos (by simp [h])]
  · rw [if_neg h, if_neg (by simpa using h)]

theorem count_all (s : ByteArray) : s.data.toList.take s.size = s.data.toList := List.take_of_length_le (by rw [Array.length_toList]; exact Nat.le_refl _)

set_option maxRecDepth 100000 in
set_option maxHeartbeats 1000000 in
theorem specEBot (xs ys : List Int) (r : Int) (b : Bool) (h : botAns xs ys = (r, b)) (hx : xs.length ≤ 1048576) (hy : ys.length ≤ 1048576) (W : World) (v : Value) (n : Nat) (hv : Sees W v n (vals xs)) (u : Value) (m : Nat) (hu : Sees W u m (vals ys)) :
    Calls Tryd.prog 27 #[v, u] W fun e w' => e = .returned (.tuple #[.int .i64 r, .bool b]) ∧ Below W.heap.size W w' := by
  have CE := Go.Lib.hid (specETo xs ys (endsAns xs ys).1 (endsAns xs ys).2 rfl hx hy W v n hv u m hu)
  have hsz := ends_size xs ys
  unfold botAns at h
  obtain ⟨s, hs⟩ : ∃ s, (endsAns xs ys).1 = s := ⟨_, rfl⟩
  obtain ⟨q, hq⟩ : ∃ q, (endsAns xs ys).2 = q := ⟨_, rfl⟩
  rw [hs, hq] at CE
  rw [hs] at hsz h
  rw [hq] at h
  obtain ⟨h1, h2⟩ := Prod.mk.inj h
  subst h2
  have HR := Go.Lib.hid h1
  clear h h1
  obtain ⟨_, ad, cap, rfl, _, _⟩ := hv
  obtain ⟨_, ad', cap', rfl, _, _⟩ := hu
  clear hs hq
  go_enter Tryd.func27, Tryd.ntmps27
  go_wp2_with fail
  refine CE.out.mono ?_
  rintro e w1 ⟨rfl, hb⟩
  have HB := Go.Lib.hid hb
  clear hb CE
  go_wp2_with fail
  go_loop [8, 9] (fun mv kv => ∃ (k d : Nat), k ≤ s.size ∧ kv = .int .i64 k ∧ mv = .int .i64 d ∧ d ≤ k ∧ Hid ((s.data.toList.take k).count 66 = d)) (fun _ k => s.size - (intOf k).toNat)
  case atStart => exact ⟨0, 0, Nat.zero_le _, rfl, rfl, Nat.le_refl _, Go.Lib.hid rfl⟩
  case round =>
    obtain ⟨k, d, hk, rfl, rfl, hd, HD⟩ := hrel
    by_cases hlt : k < s.size
    · have hlti : (k : Int) < (s.size : Int) := by omega
      have hnx := count_next s k hlt
      by_cases hI : s[k].toNat = 66
      · have hI2 : (s[k].toNat : Int) = 66 := by omega
        have HN : Hid ((s.data.toList.take (k + 1)).count 66 = d + 1) := Go.Lib.hid (by rw [hnx, if_pos (show byt s k = 66 from (byt_nat hlt 66 (by omega)).1 hI), HD.out])
        clear hI hnx
        go_wp2
        go_round
        case rel => exact ⟨k + 1, d + 1, by omega, by go_num, by go_num, by omega, HN⟩
        case measure => simp [intOf]; omega
      · have hI2 : ((s[k].toNat : Int) == 66) = false := ne_int hI
        have HN : Hid ((s.data.toList.take (k + 1)).count 66 = d) := Go.Lib.hid (by rw [hnx, if_neg (show ¬ byt s k = 66 from fun e => hI ((byt_nat hlt 66 (by omega)).2 e)), HD.out]; rfl)
        clear hI hnx
        go_wp2
        go_round
        case rel => exact ⟨k + 1, d, by omega, by go_num, rfl, by omega, HN⟩
        case measure => simp [intOf]; omega
    · have hke : k = s.size := by omega
      have HE : Hid (s.data.toList.count 66 = d) := Go.Lib.hid (by rw [← HD.out, hke, count_all])
      have hlti : ¬ (k : Int) < (s.size : Int) := by omega
      clear hke
      go_wp2
      go_ret2
      exact ⟨by rw [← HR.out, HE.out]; rfl, HB.out⟩

set_option maxRecDepth 100000 in
set_option maxHeartbeats 1000000 in
theorem implEBot (xs ys : List Int) (r : Int) (b : Bool) (h : botAns xs ys = (r, b)) (hx : xs.length ≤ 1048576) (hy : ys.length ≤ 1048576) (W : World) (v : Value) (n : Nat) (hv : Sees W v n (vals xs)) (u : Value) (m : Nat) (hu : Sees W u m (vals ys)) :
    Calls Tryd.prog 26 #[v, u] W fun e w' => e = .returned (.tuple #[.int .i64 r, .bool b]) ∧ Below W.heap.size W w' := by
  have CE := Go.Lib.hid (implETo xs ys (endsAns xs ys).1 (endsAns xs ys).2 rfl hx hy W v n hv u m hu)
  unfold botAns at h
  obtain ⟨s, hs⟩ : ∃ s, (endsAns xs ys).1 = s := ⟨_, rfl⟩
  obtain ⟨q, hq⟩ : ∃ q, (endsAns xs ys).2 = q := ⟨_, rfl⟩
  rw [hs, hq] at CE
  rw [hs, hq] at h
  obtain ⟨h1, h2⟩ := Prod.mk.inj h
  subst h2
  have CC := Go.Lib.hid (fun (X : World) => Tryd.strings_Count_one s 66 X)
  have e1 : ((Go.Lib.countByte s.data.toList 66 : Nat) : Int) = r := h1
  rw [e1] at CC
  obtain ⟨_, ad, cap, rfl, _, _⟩ := hv
  obtain ⟨_, ad', cap', rfl, _, _⟩ := hu
  clear hs hq h h1 e1
  go_enter Tryd.func26, Tryd.ntmps26
  go_wp2_with fail
  refine CE.out.mono ?_
  rintro e w1 ⟨rfl, hb⟩
  have HB := Go.Lib.hid hb
  clear hb CE
  go_wp2_with fail
  refine (CC.out _).mono ?_
  rintro e w2 ⟨rfl, rfl⟩
  go_wp2_with fail
  go_ret2
  exact ⟨rfl, HB.out⟩

end Go.Proofs.YteiocoahllnoeaaDoor.EBotC
