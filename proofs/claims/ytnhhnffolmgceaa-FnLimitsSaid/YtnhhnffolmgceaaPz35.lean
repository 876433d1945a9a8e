/-
  Contracts: what the model tells of words within a limit. Conditions: texts of at most 2^20 bytes.
-/
import Derived.Test.YtnhhnffolmgceaaPz27
import Derived.Test.YtnhhnffolmgceaaPz33

namespace Go.Proofs.Ytnhhnffolmgceaa.LimSC
open Go.RowKit SeesC IntsC ExactC NumC IterC WordMath InC WordC RunC EndsM EPcM EPcC LimW LimEC Rank4C

set_option maxRecDepth 100000 in
theorem l10Limit_any (d : Int) (W : World) (r : Bool) (h : decide (1 ≤ d ∧ d ≤ 7) = r) :
    Calls Try.prog 72 #[.int .i64 d] W fun e w' => e = .returned (.bool r) ∧ W = w' := by
  have C1 := Go.Lib.hid (fun w2 => l1In_any d 1 7 w2 r h)
  clear h
  go_enter Try.func72, Try.ntmps72
  go_wp2_with fail
  refine (C1.out _).mono ?_
  rintro e w1 ⟨rfl, rfl⟩
  go_wp2_with fail
  go_ret
  exact ⟨rfl, rfl⟩

set_option maxRecDepth 100000 in
theorem l10Good_any (n d : Int) (W : World) (r : Bool) (h : decide (1 ≤ n ∧ n ≤ 7 ∧ 1 ≤ d ∧ d ≤ 7) = r) :
    Calls Try.prog 80 #[.int .i64 n, .int .i64 d] W fun e w' => e = .returned (.bool r) ∧ W = w' := by
  by_cases hn : 1 ≤ n ∧ n ≤ 7
  · have C1 := Go.Lib.hid (fun w2 => l1In_any n 1 7 w2 true (by rw [decide_eq_true_iff]; exact hn))
    have C2 := Go.Lib.hid (fun w2 => l10Limit_any d w2 r (by rw [← h]; simp [hn]))
    clear h hn
    go_enter Try.func80, Try.ntmps80
    go_wp2_with fail
    refine (C1.out _).mono ?_
    rintro e w1 ⟨rfl, rfl⟩
    go_wp2_with fail
    refine (C2.out _).mono ?_
    rintro e w1 ⟨rfl, rfl⟩
    go_wp2_with fail
    go_ret
    exact ⟨rfl, rfl⟩
  · have C1 := Go.Lib.hid (fun w2 => l1In_any n 1 7 w2 false (by rw [decide_eq_false_iff_not]; exact hn))
    have HR : Hid (r = false) := Go.Lib.hid (by rw [← h, decide_eq_false_iff_not]; rintro ⟨h1, h2, _⟩; exact hn ⟨h1, h2⟩)
    clear h hn
    go_enter Try.func80, Try.ntmps80
    go_wp2_with fail
    refine (C1.out _).mono ?_
    rintro e w1 ⟨rfl, rfl⟩
    go_wp2_with fail
    go_ret
    exact ⟨by rw [HR.out]; rfl, rfl⟩

set_option maxRecDepth 100000 in
set_option maxHeartbeats 1000000 in
theorem specWithin (n d : Int) (r : Int) (b : Bool) (h : withinAns n d = (r, b)) (hw : (Lit.int .i64 n).wf = true) (hw2 : (Lit.int .i64 d).wf = true) (W : World) :
    Calls Try.prog 26 #[.int .i64 n, .int .i64 d] W fun e w' => e = .returned (.tuple #[.int .i64 r, .bool b]) ∧ Below W.heap.size W w' := by
  unfold withinAns at h
  by_cases hg : 1 ≤ n ∧ n ≤ 7 ∧ 1 ≤ d ∧ d ≤ 7
  · obtain ⟨m, rfl⟩ : ∃ m : Nat, n = (m : Int) := ⟨n.toNat, by omega⟩
    obtain ⟨K, rfl⟩ : ∃ K : Nat, d = (K : Int) := ⟨d.toNat, by omega⟩
    rw [if_pos hg, Int.toNat_natCast, Int.toNat_natCast] at h
    have hm7 : m ≤ 7 := by omega
    have C1 := Go.Lib.hid (fun w2 => l10Good_any (m : Int) (K : Int) w2 true (by rw [decide_eq_true_iff]; exact hg))
    have CE := fun w2 => l10Ends_any 0 (2 * m) K w2 (by omega) (by omega) (by omega)
    cases h
    obtain ⟨E, hE⟩ : ∃ E, lE K (2 * m) 0 = E := ⟨_, rfl⟩
    rw [hE, show ((2 * m : Nat) : Int) = 2 * (m : Int) by omega] at CE
    rw [hE]
    have CE := Go.Lib.hid CE
    clear hg hE hw hw2
    go_enter Try.func26, Try.ntmps26
    go_wp2_with fail
    refine (C1.out _).mono ?_
    rintro e w1 ⟨rfl, rfl⟩
    go_wp2_with fail
    refine (CE.out _).mono ?_
    rintro e w2 ⟨rfl, hb⟩
    have H2 := Go.Lib.hid hb
    clear hb
    go_wp2_with fail
    go_ret2
    exact ⟨rfl, H2.out⟩
  · rw [if_neg hg] at h
    cases h
    have C1 := Go.Lib.hid (fun w2 => l10Good_any n d w2 false (by rw [decide_eq_false_iff_not]; exact hg))
    clear hg hw hw2
    go_enter Try.func26, Try.ntmps26
    go_wp2_with fail
    refine (C1.out _).mono ?_
    rintro e w1 ⟨rfl, rfl⟩
    go_wp2_with fail
    go_ret2
    exact ⟨rfl, Below.refl _ _⟩

set_option maxRecDepth 100000 in
set_option maxHeartbeats 1000000 in
theorem specSortedWithin (n d : Int) (r : Int) (b : Bool) (h : withinAns n d = (r, b)) (hw : (Lit.int .i64 n).wf = true) (hw2 : (Lit.int .i64 d).wf = true) (W : World) :
    Calls Try.prog 28 #[.int .i64 n, .int .i64 d] W fun e w' => e = .returned (.tuple #[.int .i64 r, .bool b]) ∧ Below W.heap.size W w' := by
  unfold withinAns at h
  by_cases hg : 1 ≤ n ∧ n ≤ 7 ∧ 1 ≤ d ∧ d ≤ 7
  · obtain ⟨m, rfl⟩ : ∃ m : Nat, n = (m : Int) := ⟨n.toNat, by omega⟩
    obtain ⟨K, rfl⟩ : ∃ K : Nat, d = (K : Int) := ⟨d.toNat, by omega⟩
    rw [if_pos hg, Int.toNat_natCast, Int.toNat_natCast] at h
    have hm7 : m ≤ 7 := by omega
    have C1 := Go.Lib.hid (fun w2 => l10Good_any (m : Int) (K : Int) w2 true (by rw [decide_eq_true_iff]; exact hg))
    have CE := fun w2 => l10Ends_any 0 (2 * m) K w2 (by omega) (by omega) (by omega)
    cases h
    obtain ⟨E, hE⟩ : ∃ E, lE K (2 * m) 0 = E := ⟨_, rfl⟩
    rw [hE, show ((2 * m : Nat) : Int) = 2 * (m : Int) by omega] at CE
    rw [hE]
    have CE := Go.Lib.hid CE
    clear hg hE hw hw2
    go_enter Try.func28, Try.ntmps28
    go_wp2_with fail
    refine (C1.out _).mono ?_
    rintro e w1 ⟨rfl, rfl⟩
    go_wp2_with fail
    refine (CE.out _).mono ?_
    rintro e w2 ⟨rfl, hb⟩
    have H2 := Go.Lib.hid hb
    clear hb
    go_wp2_with fail
    go_ret2
    exact ⟨rfl, H2.out⟩
  · rw [if_neg hg] at h
    cases h
    have C1 := Go.Lib.hid (fun w2 => l10Good_any n d w2 false (by rw [decide_eq_false_iff_not]; exact hg))
    clear hg hw hw2
    go_enter Try.func28, Try.ntmps28
    go_wp2_with fail
    refine (C1.out _).mono ?_
    rintro e w1 ⟨rfl, rfl⟩
    go_wp2_with fail
    go_ret2
    exact ⟨rfl, Below.refl _ _⟩

set_option maxRecDepth 100000 in
set_option maxHeartbeats 2000000 in
theorem specAtD (n dd k : Int) (r' : ByteArray) (b : Bool) (h : atDAns n dd k = (r', b)) (_hw : (Lit.int .i64 n).wf = true) (_hw3 : (Lit.int .i64 dd).wf = true) (_hw2 : (Lit.int .i64 k).wf = true) (W : World) :
    Calls Try.prog 31 #[.int .i64 n, .int .i64 dd, .int .i64 k] W fun e w' => e = .returned (.tuple #[.string r', .bool b]) ∧ Below W.heap.size W w' := by
  unfold atDAns at h
  by_cases h17 : 1 ≤ n ∧ n ≤ 7 ∧ 1 ≤ dd ∧ dd ≤ 7
  · obtain ⟨m, rfl⟩ : ∃ m : Nat, n = (m : Int) := ⟨n.toNat, by omega⟩
    obtain ⟨K, rfl⟩ : ∃ K : Nat, dd = (K : Int) := ⟨dd.toNat, by omega⟩
    rw [Int.toNat_natCast, Int.toNat_natCast] at h
    have hK1 : 1 ≤ K := by omega
    have hK7 : K ≤ 7 := by omega
    have hm7 : m ≤ 7 := by omega
    have C1 := Go.Lib.hid (fun w2 => l10Good_any (m : Int) (K : Int) w2 true (by rw [decide_eq_true_iff]; exact h17))
    have CE := Go.Lib.hid (fun w2 => l10Ends_any 0 (2 * m) K w2 (by omega) (by omega) (by omega))
    have h16 := lE_16k (d := K) (m := 2 * m) (k := 0) (by omega)
    by_cases hk : 0 ≤ k ∧ k < (lE K (2 * m) 0 : Int)
    · rw [if_pos ⟨h17.1, h17.2.1, h17.2.2.1, h17.2.2.2, hk.1, hk.2⟩] at h
      cases h
      obtain ⟨kk, rfl⟩ : ∃ kk : Nat, k = (kk : Int) := ⟨k.toNat, by omega⟩
      rw [Int.toNat_natCast]
      have C3 := Go.Lib.hid (fun w2 => l1In_any (kk : Int) 0 ((lE K (2 * m) 0 : Int) - 1) w2 true (by rw [decide_eq_true_iff]; omega))
      have HK : Hid (kk < lE K (2 * m) 0) := Go.Lib.hid (by omega)
      obtain ⟨E, hE⟩ : ∃ E, lE K (2 * m) 0 = E := ⟨_, rfl⟩
      rw [hE] at CE C3 h16
      have hkE : kk < E := by omega
      rw [show ((2 * m : Nat) : Int) = 2 * (m : Int) by omega] at CE
      obtain ⟨R, hR⟩ : ∃ R, atD K (2 * m) 0 kk = R := ⟨_, rfl⟩
      rw [hR]
      have HR := Go.Lib.hid hR
      have hk16 : kk ≤ 16384 := by omega
      clear hE hR hk h17
      go_enter Try.func31, Try.ntmps31
      go_wp2_with fail
      refine (C1.out _).mono ?_
      rintro e w1 ⟨rfl, rfl⟩
      go_wp2_with fail
      refine (CE.out _).mono ?_
      rintro e w2 ⟨rfl, hb⟩
      have H2 := Go.Lib.hid hb
      clear hb
      go_wp2_with fail
      refine (C3.out _).mono ?_
      rintro e w3 ⟨rfl, rfl⟩
      go_wp2_with fail
      go_loopw [2, 8, 9] (fun kv sv dv wr => ∃ (r d k : Nat) (acc : List UInt8) (s : ByteArray), kv = .int .i64 k ∧ sv = .string s ∧ dv = .int .i64 d ∧ s.size + r = 2 * m ∧ d ≤ 14 ∧ k ≤ 16384 ∧ Hid (Below W.heap.size W wr) ∧ Hid (s = txt acc ∧ d ≤ K ∧ k < lE K r d ∧ acc ++ atD K r d k = R)) (fun _ s _ _ => 2 * m - (match s with | .string s => s.size | _ => 0))
      case atStart => exact ⟨2 * m, 0, kk, [], ByteArray.empty, rfl, rfl, rfl, by simp, by omega, hk16, Go.Lib.hid H2.out, Go.Lib.hid ⟨rfl, Nat.zero_le _, HK.out, by rw [← HR.out]; rfl⟩⟩
      case round =>
        obtain ⟨r, d, k, acc, s, rfl, rfl, rfl, hsr, hd, hk6, HB, HS⟩ := hrel
        by_cases hr0 : 0 < r
        · obtain ⟨q, rfl⟩ : ∃ q, r = q + 1 := ⟨r - 1, by omega⟩
          have hlti : (s.size : Int) < 2 * (m : Int) := by omega
          have hs13 : s.size ≤ 13 := by omega
          have CL := Go.Lib.hid (fun w2 => l10Ends_any (d + 1) q K w2 (by omega) (by omega) (by omega))
          have hE16 := lE_16k (d := K) (m := q) (k := d + 1) (by omega)
          have hdq : d ≤ K := HS.out.2.1
          have hIf := Go.Lib.hid (fun hlt : k < lE K q (d + 1) => (stepD_I hlt).1)
          have hOf := Go.Lib.hid (fun hlt : ¬ k < lE K q (d + 1) => (show 0 < d ∧ d - 1 ≤ K ∧ k - lE K q (d + 1) < lE K q (d - 1) from ⟨(stepD_O HS.out.2.1 HS.out.2.2.1 hlt).1, Nat.le_trans (Nat.sub_le _ _) HS.out.2.1, (stepD_O HS.out.2.1 HS.out.2.2.1 hlt).2⟩))
          have hIa := Go.Lib.hid (fun hlt : k < lE K q (d + 1) => atD_I hlt)
          have hOa := Go.Lib.hid (fun hlt : ¬ k < lE K q (d + 1) => atD_O hlt)
          obtain ⟨E2, hE2⟩ : ∃ E2, lE K q (d + 1) = E2 := ⟨_, rfl⟩
          rw [hE2] at CL hE16 hIf hOf hIa hOa
          rw [show ((d + 1 : Nat) : Int) = (d : Int) + 1 by omega, show (q : Int) = 2 * (m : Int) - (s.size : Int) - 1 by omega] at CL
          have HS1 : Hid (s ++ ({ data := #[73] } : ByteArray) = txt (acc ++ [73])) := Go.Lib.hid (by rw [HS.out.1]; exact txt_append _ [73])
          have HS2 : Hid (s ++ ({ data := #[79] } : ByteArray) = txt (acc ++ [79])) := Go.Lib.hid (by rw [HS.out.1]; exact txt_append _ [79])
          have HZ : Hid ((s ++ ({ data := #[73] } : ByteArray)).size = s.size + 1 ∧ (s ++ ({ data := #[79] } : ByteArray)).size = s.size + 1) := Go.Lib.hid ⟨by rw [ByteArray.size_append]; rfl, by rw [ByteArray.size_append]; rfl⟩
          have HSR := Go.Lib.hid hsr
          have HEQ := Go.Lib.hid hE2
          clear hE2
          go_wp2_with fail
          refine (CL.out _).mono ?_
          rintro e w4 ⟨rfl, hb⟩
          have HB2 := Go.Lib.hid (HB.out.trans (hb.mono HB.out.size))
          clear hb
          by_cases hlt : k < E2
          · have HN : Hid (s ++ ({ data := #[73] } : ByteArray) = txt (acc ++ [73]) ∧ d + 1 ≤ K ∧ k < lE K q (d + 1) ∧ (acc ++ [73]) ++ atD K q (d + 1) k = R) := Go.Lib.hid ⟨HS1.out, hIf.out hlt, by rw [HEQ.out]; exact hlt, by have h1 := HS.out.2.2.2; rw [hIa.out hlt] at h1; rw [← h1]; simp⟩
            have hlti2 : (k : Int) < (E2 : Int) := by omega
            go_wp2_with fail
            go_roundw
            case rel => exact ⟨q, d + 1, k, acc ++ [73], _, rfl, rfl, by go_num, by rw [HZ.out.1]; have := HSR.out; omega, by have := HN.out.2.1; omega, hk6, HB2, HN⟩
            case measure => simp only [HZ.out.1]; omega
          · have hO := hOf.out hlt
            obtain ⟨d1, rfl⟩ : ∃ d1, d = d1 + 1 := ⟨d - 1, by omega⟩
            obtain ⟨k2, hk2⟩ : ∃ k2, k - E2 = k2 := ⟨_, rfl⟩
            have HN : Hid (s ++ ({ data := #[79] } : ByteArray) = txt (acc ++ [79]) ∧ d1 ≤ K ∧ k2 < lE K q d1 ∧ (acc ++ [79]) ++ atD K q d1 k2 = R) := Go.Lib.hid ⟨HS2.out, hO.2.1, by rw [← hk2]; exact hO.2.2, by have h1 := HS.out.2.2.2; rw [hOa.out hlt, hk2] at h1; rw [← h1]; simp⟩
            have hlti2 : ¬ (k : Int) < (E2 : Int) := by omega
            have hkk : (k : Int) - (E2 : Int) = (k2 : Int) := by omega
            clear hO
            go_wp2_with fail
            go_roundw
            case rel => exact ⟨q, d1, k2, acc ++ [79], _, by first | rfl | (congr 1; omega) | go_num, rfl, by go_num, by rw [HZ.out.2]; have := HSR.out; omega, by omega, by omega, HB2, HN⟩
            case measure => simp only [HZ.out.2]; omega
        · have hr : r = 0 := by omega
          subst hr
          have hsz : ¬ (s.size : Int) < 2 * (m : Int) := by omega
          have HE : Hid (s = txt R) := Go.Lib.hid (by rw [HS.out.1, ← HS.out.2.2.2]; simp [atD])
          go_wp2_with fail
          go_ret2
          exact ⟨by rw [HE.out]; rfl, HB.out⟩
    · rw [if_neg (by rintro ⟨_, _, _, _, h3, h4⟩; exact hk ⟨h3, h4⟩)] at h
      cases h
      have C3 := Go.Lib.hid (fun w2 => l1In_any k 0 ((lE K (2 * m) 0 : Int) - 1) w2 false (by rw [decide_eq_false_iff_not]; omega))
      obtain ⟨E, hE⟩ : ∃ E, lE K (2 * m) 0 = E := ⟨_, rfl⟩
      rw [hE] at CE C3 h16
      rw [show ((2 * m : Nat) : Int) = 2 * (m : Int) by omega] at CE
      clear hE hk h17
      go_enter Try.func31, Try.ntmps31
      go_wp2_with fail
      refine (C1.out _).mono ?_
      rintro e w1 ⟨rfl, rfl⟩
      go_wp2_with fail
      refine (CE.out _).mono ?_
      rintro e w2 ⟨rfl, hb⟩
      have H2 := Go.Lib.hid hb
      clear hb
      go_wp2_with fail
      refine (C3.out _).mono ?_
      rintro e w3 ⟨rfl, rfl⟩
      go_wp2_with fail
      go_ret2
      exact ⟨rfl, H2.out⟩
  · rw [if_neg (by rintro ⟨h1, h2, h3, h4, _⟩; exact h17 ⟨h1, h2, h3, h4⟩)] at h
    cases h
    have C1 := Go.Lib.hid (fun w2 => l10Good_any n dd w2 false (by rw [decide_eq_false_iff_not]; exact h17))
    clear h17
    go_enter Try.func31, Try.ntmps31
    go_wp2_with fail
    refine (C1.out _).mono ?_
    rintro e w1 ⟨rfl, rfl⟩
    go_wp2_with fail
    go_ret2
    exact ⟨rfl, Below.refl _ _⟩

set_option maxRecDepth 100000 in
set_option maxHeartbeats 4000000 in
theorem specRankD (s : ByteArray) (dd : Int) (r' : Int) (b : Bool) (h : rankDAns s dd = (r', b)) (hs : s.size ≤ 1048576) (_hw : (Lit.int .i64 dd).wf = true) (W : World) :
    Calls Try.prog 34 #[.string s, .int .i64 dd] W fun e w' => e = .returned (.tuple #[.int .i64 r', .bool b]) ∧ Below W.heap.size W w' := by
  unfold rankDAns at h
  by_cases hw : Word s
  · have CA := Go.Lib.hid (fun w2 => l2Any_any s w2 true hs (by unfold isWord; exact decide_eq_true hw))
    by_cases hd17 : 1 ≤ dd ∧ dd ≤ 7
    · obtain ⟨K, rfl⟩ : ∃ K : Nat, dd = (K : Int) := ⟨dd.toNat, by omega⟩
      have hK1 : 1 ≤ K := by omega
      have hK7 : K ≤ 7 := by omega
      have CL := Go.Lib.hid (fun w2 => l10Limit_any (K : Int) w2 true (by rw [decide_eq_true_iff]; exact hd17))
      have CD := fun w2 => l2Depth_any s w2 hw
      obtain ⟨dp, hdp⟩ : ∃ dp, depthTo s s.size = dp := ⟨_, rfl⟩
      rw [hdp] at h CD
      have CD := Go.Lib.hid CD
      by_cases hle : (dp : Int) ≤ (K : Int)
      · rw [if_pos ⟨hw, hd17.1, hd17.2, hle⟩, Int.toNat_natCast] at h
        cases h
        have hle2 : ¬ (K : Int) < (dp : Int) := by omega
        have hle3 : ¬ K < dp := by omega
        have hle4 : decide (K < dp) = false := decide_eq_false hle3
        have h14 := hw.2.1
        have HW := Go.Lib.hid hw
        obtain ⟨R, hR⟩ : ∃ R, rkL K s.data.toList 0 = R := ⟨_, rfl⟩
        rw [hR]
        have HR := Go.Lib.hid hR
        clear hw hR hdp hd17 hle
        go_enter Try.func34, Try.ntmps34
        go_wp2_with fail
        refine (CA.out _).mono ?_
        rintro e w1 ⟨rfl, rfl⟩
        go_wp2_with fail
        refine (CL.out _).mono ?_
        rintro e w1 ⟨rfl, rfl⟩
        go_wp2_with fail
        refine (CD.out _).mono ?_
        rintro e w1 ⟨rfl, rfl⟩
        go_wp2_with fail
        go_loopw [6, 7, 8] (fun rv dv iv wr => ∃ (i d rk : Nat), rv = .int .i64 rk ∧ dv = .int .i64 d ∧ iv = .int .i64 i ∧ i ≤ s.size ∧ d ≤ i ∧ rk ≤ 16384 * i ∧ Hid (Below W.heap.size W wr) ∧ Hid (heldTo s i = some d ∧ rk + rkL K (s.data.toList.drop i) d = R)) (fun _ _ i _ => s.size - (intOf i).toNat)
        case atStart => exact ⟨0, 0, 0, rfl, rfl, rfl, Nat.zero_le _, Nat.le_refl _, Nat.zero_le _, Go.Lib.hid (Below.refl _ _), Go.Lib.hid ⟨rfl, by rw [← HR.out]; simp⟩⟩
        case round =>
          obtain ⟨i, d, rk, rfl, rfl, rfl, hin, hdi, hrk, HB, HS⟩ := hrel
          by_cases hlt : i < s.size
          · obtain ⟨d', hd', hd1, hd2, hc⟩ := HW.out.at hlt
            have hdd : d' = d := by have h1 := HS.out.1; rw [hd'] at h1; exact Option.some.inj h1
            subst hdd
            have hlti : (i : Int) < (s.size : Int) := by omega
            have hdb := drop_byt hlt
            have hrb : rk ≤ 16384 * 13 := by omega
            rcases hc with ⟨hI, hnx, _⟩ | ⟨hO, hd0, hnx⟩
            · have hI2 : (s[i].toNat : Int) = 73 := by have := (byt_nat hlt 73 (by omega)).2 hI; omega
              have HN : Hid (heldTo s (i + 1) = some (d' + 1) ∧ rk + rkL K (s.data.toList.drop (i + 1)) (d' + 1) = R) := Go.Lib.hid ⟨hnx, by
                have h1 := HS.out.2
                rw [hdb, hI] at h1
                exact h1⟩
              clear hd' hd1 hd2 hdb hI hnx
              go_wp2
              go_roundw
              case rel => exact ⟨i + 1, d' + 1, rk, rfl, by go_num, by go_num, by omega, by omega, by omega, HB, HN⟩
              case measure => simp [intOf] <;> omega
            · have hI2 : ((s[i].toNat : Int) == 73) = false := ne_int (b := 73) (by have := (byt_nat hlt 79 (by omega)).2 hO; omega)
              obtain ⟨l, hl⟩ : ∃ l, s.size - (i + 1) = l := ⟨_, rfl⟩
              have hll : (s.data.toList.drop (i + 1)).length = l := by rw [List.length_drop, Array.length_toList]; exact hl
              obtain ⟨d1, rfl⟩ : ∃ d1, d' = d1 + 1 := ⟨d' - 1, by omega⟩
              have CE := Go.Lib.hid (fun W' => l10Ends_any (d1 + 1 + 1) l K W' (by omega) (by omega) (by omega))
              obtain ⟨E, hE⟩ : ∃ E, lE K l (d1 + 1 + 1) = E := ⟨_, rfl⟩
              have hE16 : E ≤ 16384 := by rw [← hE]; exact lE_16k (by omega)
              have HN : Hid (heldTo s (i + 1) = some d1 ∧ (rk + E) + rkL K (s.data.toList.drop (i + 1)) d1 = R) := Go.Lib.hid ⟨hnx, by
                have h1 := HS.out.2
                rw [hdb, hO] at h1
                have h2 : rkL K (79 :: s.data.toList.drop (i + 1)) (d1 + 1) = lE K (s.data.toList.drop (i + 1)).length (d1 + 1 + 1) + rkL K (s.data.toList.drop (i + 1)) d1 := rfl
                rw [h2, hll, hE] at h1
                omega⟩
              rw [hE, show ((d1 + 1 + 1 : Nat) : Int) = (d1 : Int) + 1 + 1 by omega, show (l : Int) = (s.size : Int) - 1 - (i : Int) by omega] at CE
              clear hd' hd1 hd2 hdb hO hnx hl hll hE
              go_wp2_with fail
              refine (CE.out _).mono ?_
              rintro e w2 ⟨rfl, hb⟩
              have HB2 := Go.Lib.hid (HB.out.trans (hb.mono HB.out.size))
              clear hb
              go_wp2
              go_roundw
              case rel => exact ⟨i + 1, d1, rk + E, by go_num, by go_num, by go_num, by omega, by omega, by omega, HB2, HN⟩
              case measure => simp [intOf] <;> omega
          · have hin2 : i = s.size := by omega
            have HE : Hid (rk = R) := Go.Lib.hid (by
              have h1 := HS.out.2
              rw [List.drop_of_length_le (by rw [Array.length_toList]; show s.size ≤ i; omega)] at h1
              simpa [rkL] using h1)
            go_wp2
            go_ret2
            exact ⟨by rw [← HE.out]; rfl, HB.out⟩
      · rw [if_neg (by rintro ⟨_, _, _, h4⟩; exact hle h4)] at h
        cases h
        have hle2 : (K : Int) < (dp : Int) := by omega
        clear hw hdp hd17 hle
        go_enter Try.func34, Try.ntmps34
        go_wp2_with fail
        refine (CA.out _).mono ?_
        rintro e w1 ⟨rfl, rfl⟩
        go_wp2_with fail
        refine (CL.out _).mono ?_
        rintro e w1 ⟨rfl, rfl⟩
        go_wp2_with fail
        refine (CD.out _).mono ?_
        rintro e w1 ⟨rfl, rfl⟩
        go_wp2_with fail
        go_ret2
        exact ⟨rfl, Below.refl _ _⟩
    · rw [if_neg (by rintro ⟨_, h3, h4, _⟩; exact hd17 ⟨h3, h4⟩)] at h
      cases h
      have CL := Go.Lib.hid (fun w2 => l10Limit_any dd w2 false (by rw [decide_eq_false_iff_not]; exact hd17))
      clear hw hd17
      go_enter Try.func34, Try.ntmps34
      go_wp2_with fail
      refine (CA.out _).mono ?_
      rintro e w1 ⟨rfl, rfl⟩
      go_wp2_with fail
      refine (CL.out _).mono ?_
      rintro e w1 ⟨rfl, rfl⟩
      go_wp2_with fail
      go_ret2
      exact ⟨rfl, Below.refl _ _⟩
  · have CA := Go.Lib.hid (fun w2 => l2Any_any s w2 false hs (by unfold isWord; exact decide_eq_false hw))
    rw [if_neg (fun h2 => hw h2.1)] at h
    cases h
    clear hw
    go_enter Try.func34, Try.ntmps34
    go_wp2_with fail
    refine (CA.out _).mono ?_
    rintro e w1 ⟨rfl, rfl⟩
    go_wp2_with fail
    go_ret2
    exact ⟨rfl, Below.refl _ _⟩

theorem profL_take {n k : Nat} (hk : k < n) : (profL n).take (k + 1) = (profL n).take k ++ [(lE (k + 1) (2 * n) 0 : Int) - (lE k (2 * n) 0 : Int)] := by
  have hl : (profL n).length = n := by simp [profL]
  rw [List.take_succ_eq_append_getElem (by omega)]
  simp [profL]

theorem profL_len (n : Nat) : (profL n).length = n := by simp [profL]

theorem lE_none {n : Nat} (hn : 1 ≤ n) : lE 0 (2 * n) 0 = 0 := by
  obtain ⟨m, rfl⟩ : ∃ m, n = m + 1 := ⟨n - 1, by omega⟩
  rw [show 2 * (m + 1) = (2 * m + 1) + 1 by omega, lE_next (Nat.zero_le _), if_neg (by omega)]
  unfold lE
  rw [if_pos (by omega)]

set_option maxRecDepth 100000 in
set_option maxHeartbeats 4000000 in
theorem specProf (a : Int) (xs : List Int) (b : Bool) (h : profAns a = (xs, b)) (hw : (Lit.int .i64 a).wf = true) (W : World) :
    Calls Try.prog 37 #[.int .i64 a] W fun e w' => ListTo W e w' xs b := by
  unfold profAns at h
  by_cases h17 : 1 ≤ a ∧ a ≤ 7
  · obtain ⟨i0, hi, hz0, hz1, hz2⟩ := info_parts infoI
    obtain ⟨n, rfl⟩ : ∃ n : Nat, a = (n : Int) := ⟨a.toNat, by omega⟩
    rw [if_pos h17, Int.toNat_natCast] at h
    cases h
    have hn1 : 1 ≤ n := by omega
    have hn7 : n ≤ 7 := by omega
    have C1 := Go.Lib.hid (fun w2 => l1In_any (n : Int) 1 7 w2 true (by rw [decide_eq_true_iff]; exact h17))
    have CE := fun (K : Nat) (h1 : 1 ≤ K) (h7 : K ≤ 7) w2 => l10Ends_any 0 (2 * n) K w2 (by omega) h1 h7
    rw [show ((2 * n : Nat) : Int) = 2 * (n : Int) by omega] at CE
    have CE := Go.Lib.hid CE
    have HZ := Go.Lib.hid (lE_none hn1)
    have HB16 := Go.Lib.hid (fun (K : Nat) => @lE_16k K (2 * n) 0 (by omega))
    have HPL := Go.Lib.hid (profL_len n)
    have HPT := Go.Lib.hid (fun (k : Nat) (hk : k < n) => profL_take hk)
    obtain ⟨P, hP⟩ : ∃ P, profL n = P := ⟨_, rfl⟩
    rw [hP] at HPL HPT ⊢
    clear hw h17 hP
    go_enter Try.func37, Try.ntmps37
    go_wp2_with fail
    refine (C1.out _).mono ?_
    rintro e w1 ⟨rfl, rfl⟩
    have ho0 := World.ownsRow_made (base := W.heap.size) (e := 3) (size := 1) W #[] 0 (Nat.le_refl _) (by unfold maxLen; omega) rfl
    have hb0 : Below W.heap.size W (W.alloc (.cells #[] 3)) := (Below.refl _ _).alloc (Nat.le_refl _) _
    have H0 := Go.Lib.hid (And.intro ho0 hb0)
    clear ho0 hb0
    go_wp2_with fail
    go_loopw [4, 5] (fun ov dv wr => ∃ (k g c : Nat), k ≤ n ∧ dv = .int .i64 ((k + 1 : Nat) : Int) ∧ ov = .slice (some ⟨g, 0, none⟩) k c ∧ Hid (wr.ownsRow W.heap.size 3 1 (.slice (some ⟨g, 0, none⟩) k c) k (vals (P.take k)) ∧ Below W.heap.size W wr)) (fun _ d _ => (n + 1 - intOf d).toNat)
    case atStart => exact ⟨0, W.heap.size, 0, Nat.zero_le _, rfl, rfl, Go.Lib.hid ⟨by simpa using H0.out.1, H0.out.2⟩⟩
    case round =>
      obtain ⟨k, g, c, hk, rfl, rfl, HX⟩ := hrel
      clear H0
      by_cases hlt : k < n
      · obtain ⟨z, hz⟩ : ∃ z, k + 1 = z := ⟨_, rfl⟩
        have hpt := HPT.out k hlt
        rw [hz] at hpt
        obtain ⟨A, hA⟩ : ∃ A, lE z (2 * n) 0 = A := ⟨_, rfl⟩
        obtain ⟨B, hB⟩ : ∃ B, lE k (2 * n) 0 = B := ⟨_, rfl⟩
        have CA := Go.Lib.hid (fun w2 => CE.out z (by omega) (by omega) w2)
        have hA16 := HB16.out z
        have hB16 := HB16.out k
        rw [hA, hB] at hpt
        rw [hA] at CA hA16
        rw [hB] at hB16
        rw [hz]
        have hzn : (z : Int) ≤ (n : Int) := by omega
        have HZZ := Go.Lib.hid hz
        by_cases hk0 : k = 0
        · have hB0 : B = 0 := by rw [← hB, hk0]; exact HZ.out
          have HE : Hid (P.take (k + 1) = P.take k ++ [(A : Int)]) := Go.Lib.hid (by rw [hz, hpt, hB0]; simp)
          have hzz1 : ¬ (1 : Int) < (z : Int) := by omega
          have HK0 := Go.Lib.hid hk0
          clear hpt hA hB hB0 hB16 hz hk0
          go_wp2_with fail
          refine (CA.out _).mono ?_
          rintro e w2 ⟨rfl, hb⟩
          have H2 := Go.Lib.hid (And.intro (kept_call HX.out.1 hb) (HX.out.2.trans (hb.mono HX.out.2.size)))
          clear hb
          go_wp2_with (at_builtin; refine wpList_append_own _ rfl _ _ 24 rfl W.heap.size 3 i0 (.int .i64 0) 1 8 Try.underlying24 hi hz0 hz1 hz2 rfl (by decide) (.slice (some ⟨g, 0, none⟩) k c) k (vals (P.take k)) rfl (H2.out.1.alloc _) ⟨w2.heap.size, 0, none⟩ 1 1 [.int .i64 (A : Int)] rfl rfl (cell_one_new _ _ _) (fun x hx => by simp at hx; subst hx; rfl) (by unfold maxLen; omega) (by omega) (by have := H2.out.2.size; simp; omega) ?_; intro v' w3 hown' hgrow3 hnil3)
          obtain ⟨g', cap', rfl⟩ := ownsRow_succ hown'
          have e1 : vals (P.take k) ++ [Value.int .i64 (A : Int)] = vals (P.take (k + 1)) := by rw [HE.out]; simp
          rw [e1] at hown'
          have hb' : Below W.heap.size W w3 := (H2.out.2.alloc H2.out.2.size _).grown hgrow3 (by have := H2.out.2.size; simp; omega) (fun q hq => (H2.out.1.lt q hq).1)
          have H3 := Go.Lib.hid (And.intro hown' hb')
          clear hown' hgrow3 hnil3 hb' e1
          go_wp2
          go_roundw
          case rel => exact ⟨k + 1, g', cap', by omega, by have := HZZ.out; first | rfl | go_num | (congr 1; omega), rfl, H3.out⟩
          case measure => have := HZZ.out; simp [intOf]; omega
        · have HE : Hid (P.take (k + 1) = P.take k ++ [(A : Int) - (B : Int)]) := Go.Lib.hid (by rw [hz, hpt])
          have hzz1 : (1 : Int) < (z : Int) := by omega
          have CB := Go.Lib.hid (fun w2 => CE.out k (by omega) (by omega) w2)
          rw [hB] at CB
          have hzk : IntKind.i64.wrap ((z : Int) - 1) = (k : Int) := by rw [IntWalk.i64_in _ (by omega)]; omega
          have HK0 := Go.Lib.hid hk0
          clear hpt hA hB hz hk0
          go_wp2_with fail
          refine (CB.out _).mono ?_
          rintro e w1 ⟨rfl, hb⟩
          have H1 := Go.Lib.hid (And.intro (kept_call HX.out.1 hb) (HX.out.2.trans (hb.mono HX.out.2.size)))
          clear hb
          go_wp2_with fail
          refine (CA.out _).mono ?_
          rintro e w2 ⟨rfl, hb⟩
          have H2 := Go.Lib.hid (And.intro (kept_call H1.out.1 hb) (H1.out.2.trans (hb.mono H1.out.2.size)))
          clear hb
          go_wp2_with (at_builtin; refine wpList_append_own _ rfl _ _ 24 rfl W.heap.size 3 i0 (.int .i64 0) 1 8 Try.underlying24 hi hz0 hz1 hz2 rfl (by decide) (.slice (some ⟨g, 0, none⟩) k c) k (vals (P.take k)) rfl (H2.out.1.alloc _) ⟨w2.heap.size, 0, none⟩ 1 1 [.int .i64 ((A : Int) - (B : Int))] rfl rfl (cell_one_new _ _ _) (fun x hx => by simp at hx; subst hx; rfl) (by unfold maxLen; omega) (by omega) (by have := H2.out.2.size; simp; omega) ?_; intro v' w3 hown' hgrow3 hnil3)
          obtain ⟨g', cap', rfl⟩ := ownsRow_succ hown'
          have e1 : vals (P.take k) ++ [Value.int .i64 ((A : Int) - (B : Int))] = vals (P.take (k + 1)) := by rw [HE.out]; simp
          rw [e1] at hown'
          have hb' : Below W.heap.size W w3 := (H2.out.2.alloc H2.out.2.size _).grown hgrow3 (by have := H2.out.2.size; simp; omega) (fun q hq => (H2.out.1.lt q hq).1)
          have H3 := Go.Lib.hid (And.intro hown' hb')
          clear hown' hgrow3 hnil3 hb' e1
          go_wp2
          go_roundw
          case rel => exact ⟨k + 1, g', cap', by omega, by have := HZZ.out; first | rfl | go_num | (congr 1; omega), rfl, H3.out⟩
          case measure => have := HZZ.out; simp [intOf]; omega
      · have hkn : k = n := by omega
        subst hkn
        have hzn : ¬ ((k + 1 : Nat) : Int) ≤ (k : Int) := by omega
        have HE : Hid (P.take k = P) := Go.Lib.hid (List.take_of_length_le (by rw [HPL.out]; exact Nat.le_refl _))
        go_wp2_with fail
        go_ret2
        refine ⟨_, rfl, ?_, HX.out.2⟩
        have h := HX.out.1
        rw [HE.out] at h
        rw [HPL.out]
        exact h
  · rw [if_neg h17] at h
    cases h
    have C1 := Go.Lib.hid (fun w2 => l1In_any a 1 7 w2 false (by rw [decide_eq_false_iff_not]; exact h17))
    clear h17 hw
    go_enter Try.func37, Try.ntmps37
    go_wp2_with fail
    refine (C1.out _).mono ?_
    rintro e w1 ⟨rfl, rfl⟩
    go_wp2_with fail
    go_ret2
    exact ⟨_, rfl, World.ownsRow_made _ _ _ (Nat.le_refl _) (by unfold maxLen; omega) rfl, (Below.refl _ _).alloc (Nat.le_refl _) _⟩

end Go.Proofs.Ytnhhnffolmgceaa.LimSC
