/-
  Contracts: WordAt of the model and of the program. Conditions: none.
-/
import Derived.Test.YtddenfnoajdjiaaRank4
namespace Go.Proofs.Ytddenfnoajdjiaa.WordAt4C
open Go.RowKit SeesC IntsC ExactC NumC IterC WordMath InC WordC WordsC WordsOfC EndsM RankWC EndsC Rank4C

set_option maxRecDepth 100000 in
set_option maxHeartbeats 1000000 in
theorem implAtW (n k : Int) (r' : ByteArray) (b : Bool) (h : atWAns n k = (r', b)) (hw : (Lit.int .i64 n).wf = true) (_hw2 : (Lit.int .i64 k).wf = true) (W : World) :
    Calls Try.prog 38 #[.int .i64 n, .int .i64 k] W fun e w' => e = .returned (.tuple #[.string r', .bool b]) ∧ Below W.heap.size W w' := by
  unfold atWAns at h
  by_cases h17 : 1 ≤ n ∧ n ≤ 7
  · obtain ⟨m, rfl⟩ : ∃ m : Nat, n = (m : Int) := ⟨n.toNat, by omega⟩
    rw [Int.toNat_natCast] at h
    have hpos := all_pos (m := m) (by omega) (by omega)
    have h16 := all_16k (m := m) (by omega)
    have CW := Go.Lib.hid (fun W' => implWords (m : Int) (allW m) true (words_ans (by omega) (by omega)) hw W')
    have hlen := all_len m
    by_cases hk : 0 ≤ k ∧ k < (ends (2 * m) 0 : Int)
    · rw [if_pos ⟨h17.1, h17.2, hk.1, hk.2⟩] at h
      cases h
      obtain ⟨kk, rfl⟩ : ∃ kk : Nat, k = (kk : Int) := ⟨k.toNat, by omega⟩
      rw [Int.toNat_natCast]
      have hat := all_at (n := m) (k := kk) (by omega)
      obtain ⟨R, hR⟩ : ∃ R, txt (atW (2 * m) 0 kk) = R := ⟨_, rfl⟩
      rw [hR] at hat ⊢
      have hkl : kk < (allW m).length := by omega
      obtain ⟨xs, hxs⟩ : ∃ xs, allW m = xs := ⟨_, rfl⟩
      rw [hxs] at CW hpos h16 hat hkl
      have HAT := Go.Lib.hid hat
      have hki : (kk : Int) < (xs.length : Int) := by omega
      have hki2 : ¬ (xs.length : Int) ≤ (kk : Int) := by omega
      clear hxs hR hat hk h17 hlen hw
      go_enter Try.func38, Try.ntmps38
      go_wp2_with fail
      refine (CW.out _).mono ?_
      rintro e w1 ⟨v, rfl, ho, hb⟩
      obtain ⟨g, c, rfl⟩ := own_pos ho hpos
      have hck : w1.cell? ⟨g, kk, none⟩ = some (.string R) := by
        rw [ho.cellAt kk (by omega), List.getElem?_map, HAT.out]; rfl
      have H1 := Go.Lib.hid hb
      clear ho hb
      go_wp2_with fail
      go_ret2
      exact ⟨rfl, H1.out⟩
    · rw [if_neg (by rintro ⟨_, _, h3, h4⟩; exact hk ⟨h3, h4⟩)] at h
      cases h
      have hkn : k < 0 ∨ ((allW m).length : Int) ≤ k := by omega
      obtain ⟨xs, hxs⟩ : ∃ xs, allW m = xs := ⟨_, rfl⟩
      rw [hxs] at CW hpos h16 hkn
      clear hxs hk h17 hlen hw
      go_enter Try.func38, Try.ntmps38
      go_wp2_with fail
      refine (CW.out _).mono ?_
      rintro e w1 ⟨v, rfl, ho, hb⟩
      obtain ⟨g, c, rfl⟩ := own_pos ho hpos
      have H1 := Go.Lib.hid hb
      clear ho hb
      by_cases hk0 : k < 0
      · go_wp2_with fail
        go_ret2
        exact ⟨rfl, H1.out⟩
      · have hkx : (xs.length : Int) ≤ k := by omega
        go_wp2_with fail
        go_ret2
        exact ⟨rfl, H1.out⟩
  · rw [if_neg (by rintro ⟨h1, h2, _⟩; exact h17 ⟨h1, h2⟩)] at h
    cases h
    have CW := Go.Lib.hid (fun W' => implWords n [] false (words_not h17) hw W')
    clear h17 hw
    go_enter Try.func38, Try.ntmps38
    go_wp2_with fail
    refine (CW.out _).mono ?_
    rintro e w1 ⟨v, rfl, ho, hb⟩
    obtain ⟨_, ad, cap, rfl, _, _⟩ := Sees.owns ho
    have H1 := Go.Lib.hid hb
    clear ho hb
    go_wp2_with fail
    go_ret2
    exact ⟨rfl, H1.out⟩

theorem at_I {r d k : Nat} (h : k < ends r (d + 1)) : atW (r + 1) d k = 73 :: atW r (d + 1) k := by
  conv => lhs; unfold atW
  rw [if_pos h]
theorem at_O {r d k : Nat} (h : ¬ k < ends r (d + 1)) : atW (r + 1) d k = 79 :: atW r (d - 1) (k - ends r (d + 1)) := by
  conv => lhs; unfold atW
  rw [if_neg h]

theorem go_I {r d k : Nat} (hf : Fits (r + 1) d) (h : k < ends r (d + 1)) : Fits r (d + 1) := by
  have : d < r + 1 := by
    rcases Nat.lt_or_ge d (r + 1) with h3 | h3
    · exact h3
    · rw [ends_zero r (d + 1) (by omega)] at h; omega
  exact hf.I this

theorem go_O {r d k : Nat} (hf : Fits (r + 1) d) (hk : k < ends (r + 1) d) (h : ¬ k < ends r (d + 1)) : 0 < d ∧ Fits r (d - 1) ∧ k - ends r (d + 1) < ends r (d - 1) := by
  unfold ends at hk
  have h0 : 0 < d := by
    rcases Nat.eq_zero_or_pos d with h3 | h3
    · rw [if_neg (by omega)] at hk; omega
    · exact h3
  rw [if_pos h0] at hk
  exact ⟨h0, hf.O h0, by omega⟩

set_option maxRecDepth 100000 in
set_option maxHeartbeats 2000000 in
theorem specAtW (n k : Int) (r' : ByteArray) (b : Bool) (h : atWAns n k = (r', b)) (_hw : (Lit.int .i64 n).wf = true) (_hw2 : (Lit.int .i64 k).wf = true) (W : World) :
    Calls Try.prog 39 #[.int .i64 n, .int .i64 k] W fun e w' => e = .returned (.tuple #[.string r', .bool b]) ∧ Below W.heap.size W w' := by
  unfold atWAns at h
  by_cases h17 : 1 ≤ n ∧ n ≤ 7
  · obtain ⟨m, rfl⟩ : ∃ m : Nat, n = (m : Int) := ⟨n.toNat, by omega⟩
    rw [Int.toNat_natCast] at h
    have hm7 : m ≤ 7 := by omega
    have C1 := Go.Lib.hid (fun w2 => l1In_any (m : Int) 1 7 w2 true (by rw [decide_eq_true_iff]; exact h17))
    have CE := Go.Lib.hid (fun w2 => l4Ends_any 0 (2 * m) w2 (by omega))
    have h16 := ends_16k (n := 2 * m) (k := 0) (by omega)
    by_cases hk : 0 ≤ k ∧ k < (ends (2 * m) 0 : Int)
    · rw [if_pos ⟨h17.1, h17.2, hk.1, hk.2⟩] at h
      cases h
      obtain ⟨kk, rfl⟩ : ∃ kk : Nat, k = (kk : Int) := ⟨k.toNat, by omega⟩
      rw [Int.toNat_natCast]
      have C3 := Go.Lib.hid (fun w2 => l1In_any (kk : Int) 0 ((ends (2 * m) 0 : Int) - 1) w2 true (by rw [decide_eq_true_iff]; omega))
      have HK : Hid (kk < ends (2 * m) 0) := Go.Lib.hid (by omega)
      obtain ⟨E, hE⟩ : ∃ E, ends (2 * m) 0 = E := ⟨_, rfl⟩
      rw [hE] at CE C3 h16
      have hkE : kk < E := by omega
      rw [show ((2 * m : Nat) : Int) = 2 * (m : Int) by omega] at CE
      obtain ⟨R, hR⟩ : ∃ R, atW (2 * m) 0 kk = R := ⟨_, rfl⟩
      rw [hR]
      have HR := Go.Lib.hid hR
      have hk16 : kk ≤ 16384 := by omega
      clear hE hR hk h17
      go_enter Try.func39, Try.ntmps39
      go_wp2_with fail
      refine (C1.out _).mono ?_
      rintro e w1 ⟨rfl, rfl⟩
      go_wp2_with fail
      refine (CE.out _).mono ?_
      rintro e w2 ⟨rfl, hb⟩
      have H2 := Go.Lib.hid hb
      clear hb
      go_wp2_with fail
      refine (C3.out _).mono ?_
      rintro e w3 ⟨rfl, rfl⟩
      go_wp2_with fail
      go_loopw [1, 6, 7] (fun kv sv dv wr => ∃ (r d k : Nat) (acc : List UInt8) (s : ByteArray), kv = .int .i64 k ∧ sv = .string s ∧ dv = .int .i64 d ∧ s.size + r = 2 * m ∧ d ≤ 14 ∧ k ≤ 16384 ∧ Hid (Below W.heap.size W wr) ∧ Hid (s = txt acc ∧ Fits r d ∧ k < ends r d ∧ acc ++ atW r d k = R)) (fun _ s _ _ => 2 * m - (match s with | .string s => s.size | _ => 0))
      case atStart => exact ⟨2 * m, 0, kk, [], ByteArray.empty, rfl, rfl, rfl, by simp, by omega, hk16, Go.Lib.hid H2.out, Go.Lib.hid ⟨rfl, all_fits m, HK.out, by rw [← HR.out]; rfl⟩⟩
      case round =>
        obtain ⟨r, d, k, acc, s, rfl, rfl, rfl, hsr, hd, hk6, HB, HS⟩ := hrel
        by_cases hr0 : 0 < r
        · obtain ⟨q, rfl⟩ : ∃ q, r = q + 1 := ⟨r - 1, by omega⟩
          have hlti : (s.size : Int) < 2 * (m : Int) := by omega
          have hs13 : s.size ≤ 13 := by omega
          have CL := Go.Lib.hid (fun w2 => l4Ends_any (d + 1) q w2 (by omega))
          have hE16 := ends_16k (n := q) (k := d + 1) (by omega)
          have hdq : d ≤ q + 1 := HS.out.2.1.1
          have hIf := Go.Lib.hid (fun hlt : k < ends q (d + 1) => go_I HS.out.2.1 hlt)
          have hOf := Go.Lib.hid (fun hlt : ¬ k < ends q (d + 1) => go_O HS.out.2.1 HS.out.2.2.1 hlt)
          have hIa := Go.Lib.hid (fun hlt : k < ends q (d + 1) => at_I hlt)
          have hOa := Go.Lib.hid (fun hlt : ¬ k < ends q (d + 1) => at_O hlt)
          obtain ⟨E2, hE2⟩ : ∃ E2, ends q (d + 1) = E2 := ⟨_, rfl⟩
          rw [hE2] at CL hE16 hIf hOf hIa hOa
          rw [show ((d + 1 : Nat) : Int) = (d : Int) + 1 by omega, show (q : Int) = 2 * (m : Int) - (s.size : Int) - 1 by omega] at CL
          have HS1 : Hid (s ++ ({ data := #[73] } : ByteArray) = txt (acc ++ [73])) := Go.Lib.hid (by rw [HS.out.1]; exact txt_append _ [73])
          have HS2 : Hid (s ++ ({ data := #[79] } : ByteArray) = txt (acc ++ [79])) := Go.Lib.hid (by rw [HS.out.1]; exact txt_append _ [79])
          have HZ : Hid ((s ++ ({ data := #[73] } : ByteArray)).size = s.size + 1 ∧ (s ++ ({ data := #[79] } : ByteArray)).size = s.size + 1) := Go.Lib.hid ⟨by rw [ByteArray.size_append]; rfl, by rw [ByteArray.size_append]; rfl⟩
          have HSR := Go.Lib.hid hsr
          have HEQ := Go.Lib.hid hE2
          clear hE2
          go_wp2_with fail
          refine (CL.out _).mono ?_
          rintro e w4 ⟨rfl, hb⟩
          have HB2 := Go.Lib.hid (HB.out.trans (hb.mono HB.out.size))
          clear hb
          by_cases hlt : k < E2
          · have HN : Hid (s ++ ({ data := #[73] } : ByteArray) = txt (acc ++ [73]) ∧ Fits q (d + 1) ∧ k < ends q (d + 1) ∧ (acc ++ [73]) ++ atW q (d + 1) k = R) := Go.Lib.hid ⟨HS1.out, hIf.out hlt, by rw [HEQ.out]; exact hlt, by have h1 := HS.out.2.2.2; rw [hIa.out hlt] at h1; rw [← h1]; simp⟩
            have hlti2 : (k : Int) < (E2 : Int) := by omega
            go_wp2_with fail
            go_roundw
            case rel => exact ⟨q, d + 1, k, acc ++ [73], _, rfl, rfl, by go_num, by rw [HZ.out.1]; have := HSR.out; omega, by have := HN.out.2.1.1; omega, hk6, HB2, HN⟩
            case measure => simp only [HZ.out.1]; omega
          · have hO := hOf.out hlt
            obtain ⟨d1, rfl⟩ : ∃ d1, d = d1 + 1 := ⟨d - 1, by omega⟩
            obtain ⟨k2, hk2⟩ : ∃ k2, k - E2 = k2 := ⟨_, rfl⟩
            have HN : Hid (s ++ ({ data := #[79] } : ByteArray) = txt (acc ++ [79]) ∧ Fits q d1 ∧ k2 < ends q d1 ∧ (acc ++ [79]) ++ atW q d1 k2 = R) := Go.Lib.hid ⟨HS2.out, hO.2.1, by rw [← hk2]; exact hO.2.2, by have h1 := HS.out.2.2.2; rw [hOa.out hlt, hk2] at h1; rw [← h1]; simp⟩
            have hlti2 : ¬ (k : Int) < (E2 : Int) := by omega
            have hkk : (k : Int) - (E2 : Int) = (k2 : Int) := by omega
            clear hO
            go_wp2_with fail
            go_roundw
            case rel => exact ⟨q, d1, k2, acc ++ [79], _, by first | rfl | (congr 1; omega) | go_num, rfl, by go_num, by rw [HZ.out.2]; have := HSR.out; omega, by omega, by omega, HB2, HN⟩
            case measure => simp only [HZ.out.2]; omega
        · have hr : r = 0 := by omega
          subst hr
          have hsz : ¬ (s.size : Int) < 2 * (m : Int) := by omega
          have HE : Hid (s = txt R) := Go.Lib.hid (by rw [HS.out.1, ← HS.out.2.2.2]; simp [atW])
          go_wp2_with fail
          go_ret2
          exact ⟨by rw [HE.out]; rfl, HB.out⟩
    · rw [if_neg (by rintro ⟨_, _, h3, h4⟩; exact hk ⟨h3, h4⟩)] at h
      cases h
      have C3 := Go.Lib.hid (fun w2 => l1In_any k 0 ((ends (2 * m) 0 : Int) - 1) w2 false (by rw [decide_eq_false_iff_not]; omega))
      obtain ⟨E, hE⟩ : ∃ E, ends (2 * m) 0 = E := ⟨_, rfl⟩
      rw [hE] at CE C3 h16
      rw [show ((2 * m : Nat) : Int) = 2 * (m : Int) by omega] at CE
      clear hE hk h17
      go_enter Try.func39, Try.ntmps39
      go_wp2_with fail
      refine (C1.out _).mono ?_
      rintro e w1 ⟨rfl, rfl⟩
      go_wp2_with fail
      refine (CE.out _).mono ?_
      rintro e w2 ⟨rfl, hb⟩
      have H2 := Go.Lib.hid hb
      clear hb
      go_wp2_with fail
      refine (C3.out _).mono ?_
      rintro e w3 ⟨rfl, rfl⟩
      go_wp2_with fail
      go_ret2
      exact ⟨rfl, H2.out⟩
  · rw [if_neg (by rintro ⟨h1, h2, _⟩; exact h17 ⟨h1, h2⟩)] at h
    cases h
    have C1 := Go.Lib.hid (fun w2 => l1In_any n 1 7 w2 false (by rw [decide_eq_false_iff_not]; exact h17))
    clear h17
    go_enter Try.func39, Try.ntmps39
    go_wp2_with fail
    refine (C1.out _).mono ?_
    rintro e w1 ⟨rfl, rfl⟩
    go_wp2_with fail
    go_ret2
    exact ⟨rfl, Below.refl _ _⟩

end Go.Proofs.Ytddenfnoajdjiaa.WordAt4C
