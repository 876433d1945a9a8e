/-
  Contracts: the model's tests of ends words, and the word of an ends word. Conditions: texts of at most 2^20 bytes.
-/
import Derived.Test.YteiocoahllnoeaaDoorEWM
import Derived.Test.YteiocoahllnoeaaDoorWord
import Derived.Test.YteiocoahllnoeaaDoorRun
namespace Go.Proofs.YteiocoahllnoeaaDoor.EWdC
open Go.RowKit SeesC IntsC ExactC NumC IterC WordMath InC WordC RunC EndM

theorem eto_parity {w : ByteArray} : ∀ (k d : Nat), eTo w k = some d → d % 2 = k % 2
  | 0, d, h => by cases h; rfl
  | k + 1, e, h => by
    obtain ⟨d, hd, hc⟩ := eto_cases h
    have := eto_parity k d hd
    rcases hc with ⟨_, rfl⟩ | ⟨_, _, rfl⟩ <;> omega

set_option maxRecDepth 100000 in
set_option maxHeartbeats 1000000 in
theorem l8Word_any (s : ByteArray) (n : Nat) (W : World) (r : Bool) (hs : s.size ≤ 1048576) (hn : n ≤ 1048576) (h : decide (s.size = 2 * n ∧ 1 ≤ n ∧ n ≤ 7 ∧ eTo s s.size = some 0) = r) :
    Calls Tryd.prog 62 #[.string s, .int .i64 n] W fun e w' => e = .returned (.bool r) ∧ W = w' := by
  by_cases hsn : s.size = 2 * n
  · have hne : ((s.size : Int) == 2 * (n : Int)) = true := by rw [beq_iff_eq]; omega
    have hne2 : (s.size : Int) = 2 * (n : Int) := by omega
    have H := Go.Lib.hid h
    clear h
    by_cases h17 : 1 ≤ n ∧ n ≤ 7
    · have CI := Go.Lib.hid (fun w2 => l1In_any (n : Int) 1 7 w2 true (by rw [decide_eq_true_iff]; omega))
      have H17 := Go.Lib.hid h17
      clear h17
      go_enter Tryd.func62, Tryd.ntmps62
      go_wp2_with fail
      refine (CI.out _).mono ?_
      rintro e w1 ⟨rfl, rfl⟩
      go_wp2_with fail
      go_loop [5, 6] (fun dv kv => ∃ (k d : Nat), k ≤ s.size ∧ kv = .int .i64 k ∧ dv = .int .i64 d ∧ d ≤ k ∧ Hid (eTo s k = some d)) (fun _ k => s.size - (intOf k).toNat)
      case atStart => exact ⟨0, 0, Nat.zero_le _, rfl, rfl, Nat.le_refl _, Go.Lib.hid rfl⟩
      case round =>
        obtain ⟨k, d, hk, rfl, rfl, hd, HD⟩ := hrel
        by_cases hlt : k < s.size
        · have hlti : (k : Int) < (s.size : Int) := by omega
          by_cases hI : s[k].toNat = 73
          · have hI2 : ((s[k].toNat : Int) == 73) = true := by rw [beq_iff_eq]; omega
            have hI3 : (s[k].toNat : Int) = 73 := by omega
            have HN : Hid (eTo s (k + 1) = some (d + 1)) := Go.Lib.hid (eto_I HD.out ((byt_nat hlt 73 (by omega)).1 hI))
            clear hI hne hne2 hsn
            go_wp2
            go_round
            case rel => exact ⟨k + 1, d + 1, by omega, by go_num, by go_num, by omega, HN⟩
            case measure => simp [intOf]; omega
          · have hI2 : ((s[k].toNat : Int) == 73) = false := ne_int hI
            have hb1 : byt s k ≠ 73 := fun e => hI ((byt_nat hlt 73 (by omega)).2 e)
            have HBAD0 := fun (h3 : ¬ ((byt s k = 84 ∨ byt s k = 66) ∧ 0 < d)) => (show r = false by
                rw [← H.out, decide_eq_false_iff_not]; rintro ⟨_, _, _, h4⟩
                obtain ⟨m, hm⟩ : ∃ m, s.size = k + 1 + m := ⟨s.size - (k + 1), by omega⟩
                rw [hm, eto_none (eto_bad HD.out hb1 h3) m] at h4
                cases h4)
            have HBAD := Go.Lib.hid HBAD0
            clear HBAD0
            by_cases hT : s[k].toNat = 84
            · have hT2 : ((s[k].toNat : Int) == 84) = true := by rw [beq_iff_eq]; omega
              have hT3 : (s[k].toNat : Int) = 84 := by omega
              have hbT := (byt_nat hlt 84 (by omega)).1 hT
              by_cases hd0 : 0 < d
              · have HN : Hid (eTo s (k + 1) = some (d - 1)) := Go.Lib.hid (eto_P HD.out (.inl hbT) hd0)
                have hd0i : (0 : Int) < (d : Int) := by omega
                clear hI hT hne hne2 hsn hb1 hbT hI2
                go_wp2
                go_round
                case rel => exact ⟨k + 1, d - 1, by omega, by go_num, by go_num, by omega, HN⟩
                case measure => simp [intOf]; omega
              · have HR : Hid (r = false) := Go.Lib.hid (HBAD.out (fun e => hd0 e.2))
                have hd0' : d = 0 := by omega
                subst hd0'
                clear hI hT hne hne2 hsn hb1 hbT hI2
                go_wp2
                go_ret
                exact ⟨by rw [HR.out]; rfl, rfl⟩
            · have hT2 : ((s[k].toNat : Int) == 84) = false := ne_int hT
              have hbT : byt s k ≠ 84 := fun e => hT ((byt_nat hlt 84 (by omega)).2 e)
              by_cases hB : s[k].toNat = 66
              · have hB2 : ((s[k].toNat : Int) == 66) = true := by rw [beq_iff_eq]; omega
                have hB3 : (s[k].toNat : Int) = 66 := by omega
                have hbB := (byt_nat hlt 66 (by omega)).1 hB
                by_cases hd0 : 0 < d
                · have HN : Hid (eTo s (k + 1) = some (d - 1)) := Go.Lib.hid (eto_P HD.out (.inr hbB) hd0)
                  have hd0i : (0 : Int) < (d : Int) := by omega
                  clear hI hT hB hne hne2 hsn hb1 hbT hbB hI2 hT2
                  go_wp2
                  go_round
                  case rel => exact ⟨k + 1, d - 1, by omega, by go_num, by go_num, by omega, HN⟩
                  case measure => simp [intOf]; omega
                · have HR : Hid (r = false) := Go.Lib.hid (HBAD.out (fun e => hd0 e.2))
                  have hd0' : d = 0 := by omega
                  subst hd0'
                  clear hI hT hB hne hne2 hsn hb1 hbT hbB hI2 hT2
                  go_wp2
                  go_ret
                  exact ⟨by rw [HR.out]; rfl, rfl⟩
              · have hB2 : ((s[k].toNat : Int) == 66) = false := ne_int hB
                have hbB : byt s k ≠ 66 := fun e => hB ((byt_nat hlt 66 (by omega)).2 e)
                have HR : Hid (r = false) := Go.Lib.hid (HBAD.out (fun e => by rcases e.1 with e | e; exact hbT e; exact hbB e))
                clear hI hT hB hne hne2 hsn hb1 hbT hbB
                go_wp2
                go_ret
                exact ⟨by rw [HR.out]; rfl, rfl⟩
        · have hkn : k = s.size := by omega
          have HR : Hid (r = decide (d = 0)) := Go.Lib.hid (by
            rw [← H.out]
            by_cases hd0 : d = 0
            · rw [decide_eq_true hd0, decide_eq_true_iff]; exact ⟨hsn, H17.out.1, H17.out.2, by rw [← hkn, HD.out, hd0]⟩
            · rw [decide_eq_false hd0, decide_eq_false_iff_not]; rintro ⟨_, _, _, h3⟩; rw [← hkn, HD.out] at h3; cases h3; exact hd0 rfl)
          have hlti : ¬ (k : Int) < (s.size : Int) := by omega
          by_cases hd0 : d = 0
          · subst hd0
            clear hne hne2 hsn hkn
            go_wp2
            go_ret
            exact ⟨by rw [HR.out]; rfl, rfl⟩
          · have hd1 : ((d : Int) == 0) = false := by rw [beq_eq_false_iff_ne]; omega
            have HR2 : Hid (r = false) := Go.Lib.hid (by rw [HR.out, decide_eq_false hd0])
            clear hne hne2 hsn hkn
            go_wp2
            go_ret
            exact ⟨by rw [HR2.out]; rfl, rfl⟩
    · have CI := Go.Lib.hid (fun w2 => l1In_any (n : Int) 1 7 w2 false (by rw [decide_eq_false_iff_not]; omega))
      have HR : Hid (r = false) := Go.Lib.hid (by rw [← H.out, decide_eq_false_iff_not]; rintro ⟨_, h1, h2, _⟩; exact h17 ⟨h1, h2⟩)
      clear h17
      go_enter Tryd.func62, Tryd.ntmps62
      go_wp2_with fail
      refine (CI.out _).mono ?_
      rintro e w1 ⟨rfl, rfl⟩
      go_wp2_with fail
      go_ret
      exact ⟨by rw [HR.out]; rfl, rfl⟩
  · have hne : ((s.size : Int) == 2 * (n : Int)) = false := by rw [beq_eq_false_iff_ne]; omega
    have hne2 : ¬ (s.size : Int) = 2 * (n : Int) := by omega
    have HR : Hid (r = false) := Go.Lib.hid (by rw [← h, decide_eq_false_iff_not]; exact fun e => hsn e.1)
    clear h
    go_enter Tryd.func62, Tryd.ntmps62
    go_wp2
    go_ret
    exact ⟨by rw [HR.out]; rfl, rfl⟩

theorem ew_decide (s : ByteArray) : decide (s.size = 2 * (s.size / 2) ∧ 1 ≤ s.size / 2 ∧ s.size / 2 ≤ 7 ∧ eTo s s.size = some 0) = isEW s := by
  unfold isEW
  by_cases hw : EWord s
  · rw [decide_eq_true hw, decide_eq_true_iff]
    have := hw.even; have := hw.1; have := hw.2.1
    exact ⟨by omega, by omega, by omega, hw.2.2⟩
  · rw [decide_eq_false hw, decide_eq_false_iff_not]
    rintro ⟨h1, h2, h3, h4⟩
    exact hw ⟨by omega, by omega, h4⟩

set_option maxRecDepth 100000 in
theorem l8Any_any (s : ByteArray) (W : World) (r : Bool) (hs : s.size ≤ 1048576) (h : isEW s = r) :
    Calls Tryd.prog 66 #[.string s] W fun e w' => e = .returned (.bool r) ∧ W = w' := by
  have C2 := fun w2 => l8Word_any s (s.size / 2) w2 r hs (by omega) (by rw [← h]; exact ew_decide s)
  have e : ((s.size / 2 : Nat) : Int) = (s.size : Int) / 2 := by omega
  rw [e] at C2
  have H2 := Go.Lib.hid C2
  clear C2 e h
  go_enter Tryd.func66, Tryd.ntmps66
  go_wp2_with fail
  refine (H2.out _).mono ?_
  rintro e w1 ⟨rfl, rfl⟩
  go_wp2_with fail
  go_ret
  exact ⟨rfl, rfl⟩

theorem stk_take (s : ByteArray) (k : Nat) (hk : k < s.size) : (s.data.toList.take (k + 1)).map stk = (s.data.toList.take k).map stk ++ [stk (byt s k)] := by
  have h2 : k < s.data.toList.length := by rw [Array.length_toList]; exact hk
  rw [List.take_succ_eq_append_getElem h2, List.map_append]
  congr 2
  show [stk _] = _
  congr 1
  unfold byt
  rw [List.getD_eq_getElem?_getD, List.getElem?_eq_getElem h2]
  rfl

theorem ew_byte {s : ByteArray} (h : EWord s) {k : Nat} (hk : k < s.size) : byt s k = 73 ∨ byt s k = 84 ∨ byt s k = 66 := by
  obtain ⟨m, hm⟩ : ∃ m, s.size = (k + 1) + m := ⟨s.size - (k + 1), by omega⟩
  have h3 := h.2.2
  cases hk1 : eTo s (k + 1) with
  | none => rw [hm, eto_none hk1 m] at h3; cases h3
  | some e =>
    obtain ⟨d, _, hc⟩ := eto_cases hk1
    rcases hc with ⟨h1, _⟩ | ⟨h1, _⟩
    · exact .inl h1
    · exact .inr h1

set_option maxRecDepth 100000 in
set_option maxHeartbeats 1000000 in
theorem l8Stack_any (s : ByteArray) (hw : EWord s) (W : World) :
    Calls Tryd.prog 68 #[.string s] W fun e w' => e = .returned (.string (stkB s)) ∧ W = w' := by
  have hs14 := hw.2.1
  have HW := Go.Lib.hid (fun k (hk : k < s.size) => ew_byte hw hk)
  have HALL : Hid (txt ((s.data.toList.take s.size).map stk) = stkB s) := Go.Lib.hid (by rw [List.take_of_length_le (by rw [Array.length_toList]; exact Nat.le_refl _)]; rfl)
  obtain ⟨S, hS⟩ : ∃ S, stkB s = S := ⟨_, rfl⟩
  rw [hS] at HALL ⊢
  clear hw hS
  go_enter Tryd.func68, Tryd.ntmps68
  go_wp2_with fail
  go_loop [3, 4] (fun sv kv => ∃ (k : Nat) (t : ByteArray), k ≤ s.size ∧ kv = .int .i64 k ∧ sv = .string t ∧ t.size ≤ 14 ∧ Hid (t = txt ((s.data.toList.take k).map stk) ∧ t.size = k)) (fun _ k => s.size - (intOf k).toNat)
  case atStart => exact ⟨0, ByteArray.empty, Nat.zero_le _, rfl, rfl, by decide, Go.Lib.hid ⟨rfl, rfl⟩⟩
  case round =>
    obtain ⟨k, t, hk, rfl, rfl, ht14, HT⟩ := hrel
    by_cases hlt : k < s.size
    · have hlti : (k : Int) < (s.size : Int) := by omega
      have ht13 : t.size ≤ 13 := by rw [HT.out.2]; omega
      have hst := stk_take s k hlt
      by_cases hI : s[k].toNat = 73
      · have hI2 : ((s[k].toNat : Int) == 73) = true := by rw [beq_iff_eq]; omega
        have hI3 : (s[k].toNat : Int) = 73 := by omega
        have hb : byt s k = 73 := (byt_nat hlt 73 (by omega)).1 hI
        have HN : Hid (t ++ ({ data := #[73] } : ByteArray) = txt ((s.data.toList.take (k + 1)).map stk) ∧ (t ++ ({ data := #[73] } : ByteArray)).size = k + 1) := Go.Lib.hid ⟨by rw [hst, HT.out.1, hb]; exact txt_append _ [73], by rw [ByteArray.size_append, HT.out.2]; rfl⟩
        clear hI hst hb
        go_wp2
        go_round
        case rel => exact ⟨k + 1, t ++ ({ data := #[73] } : ByteArray), by omega, by go_num, rfl, by rw [ByteArray.size_append]; exact Nat.add_le_add ht13 (Nat.le_refl 1), HN⟩
        case measure => simp [intOf]; omega
      · have hI2 : ((s[k].toNat : Int) == 73) = false := ne_int hI
        have hb : stk (byt s k) = 79 := by
          rcases HW.out k hlt with h | h
          · exact absurd ((byt_nat hlt 73 (by omega)).2 h) hI
          · unfold stk; rw [if_pos h]
        have HN : Hid (t ++ ({ data := #[79] } : ByteArray) = txt ((s.data.toList.take (k + 1)).map stk) ∧ (t ++ ({ data := #[79] } : ByteArray)).size = k + 1) := Go.Lib.hid ⟨by rw [hst, HT.out.1, hb]; exact txt_append _ [79], by rw [ByteArray.size_append, HT.out.2]; rfl⟩
        clear hI hst hb
        go_wp2
        go_round
        case rel => exact ⟨k + 1, t ++ ({ data := #[79] } : ByteArray), by omega, by go_num, rfl, by rw [ByteArray.size_append]; exact Nat.add_le_add ht13 (Nat.le_refl 1), HN⟩
        case measure => simp [intOf]; omega
    · have hkn : k = s.size := by omega
      have HE : Hid (t = S) := Go.Lib.hid (by rw [HT.out.1, hkn]; exact HALL.out)
      have hlti : ¬ (k : Int) < (s.size : Int) := by omega
      clear hkn
      go_wp2
      go_ret
      exact ⟨by rw [← HE.out]; rfl, rfl⟩

end Go.Proofs.YteiocoahllnoeaaDoor.EWdC
