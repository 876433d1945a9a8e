/-
  FnDrawnWords holds for all codes: chances of depths grow up to 1, some words sort an order where it can be sorted, and means are as of all words.
-/
import Derived.Test.YtnhhnffolmgceabGreatRows
import Derived.Test.YtnhhnffolmgceabGreatPw7
import Derived.Test.YtnhhnffolmgceabGreatPw12
import Derived.WalkKit
import Derived.ProofKit
import Derived.OpenShut
import Derived.ShutString
import Derived.ChangeOld
import Derived.Below
import Derived.Test.YtnhhnffolmgceabGreatPw9
import Derived.Test.YtnhhnffolmgceabGreatPw5
import Derived.Test.YtnhhnffolmgceabGreatPw43
import Derived.Test.YtnhhnffolmgceabGreatPw42
import Derived.Test.YtnhhnffolmgceabGreatPw48
import Derived.Test.YtnhhnffolmgceabGreatPw44
import Derived.Test.YtnhhnffolmgceabGreatPw45
import Derived.Test.YtnhhnffolmgceabGreatPw33
import Derived.Test.YtnhhnffolmgceabGreatPw25
import Derived.Test.YtnhhnffolmgceabGreatPw39
import Derived.Test.YtnhhnffolmgceabGreatPw47
import Derived.Deep.CutRange

namespace Go.Proofs.YtnhhnffolmgceabGreat.fnDrawnWords
open Go.ChangeShapes Go.WideShapes Go.ChangeAt Go.RowKit SeesC OpenC
open Go.ChangeMaps (open_string shut_string)
open IntsC ExactC OrdMath AllO BesM WordMath OrderC WordC WordsC WordsOfC EndsM Arr2C ChM ChQ CollWC DrawOrd2C Draw9C VCutC VBigC VLessC Pub7C Ch9F Ch9G Ch9H ChChanceOutputIC ChChanceOutputSC ChChanceDepthIC ChChanceDepthSC ChMeanDepthIC ChMeanDepthSC ChMeanKeptIC ChMeanKeptSC ChMeanPassesIC ChMeanPassesSC ChMeanConflictsIC ChMeanConflictsSC ChChanceStacksIC ChChanceStacksSC ChChanceSortsIC
set_option linter.unusedVariables false

theorem own : ownKnob Tryz.prog.godebug = none := by kernel_rfl
theorem laidOut : laidOutB Tryz.prog = true := by kernel_rfl

/-! ### The walk -/
set_option maxRecDepth 100000 in
set_option maxHeartbeats 400000000 in
theorem walk (v0 : Value) (n0 : Nat) (a0 : List Int) (w : World) (s0 : Sees w v0 n0 (a0.map (Value.int .u8))) (t0 : n0 ≤ maxLen) (w0 : ∀ z ∈ a0, (Lit.int .u8 z).wf = true) :
    Calls Tryz.prog 3 #[v0] w fun e w' => e = .returned (.bool true) ∧ Below w.heap.size w w' := by
  have hz : ∀ z ∈ a0, 0 ≤ z ∧ z ≤ 255 := byte_bd w0
  have hl0 : a0.length = n0 := by simpa using s0.1
  have hs0 := s0
  obtain ⟨_, ar, cap, rfl, _, _⟩ := hs0
  by_cases hbig : (65536 : Int) < (n0 : Int)
  · have cB := Go.Lib.hid (vBig_of w ar n0 cap true (decide_eq_true hbig))
    clear hz
    go_enter Tryz.func3, Tryz.ntmps3
    go_wp2_with fail
    refine (cB.out).mono ?_
    rintro e W1 ⟨rfl, rfl⟩
    go_wp2_with fail
    go_ret
    exact ⟨rfl, Below.refl _ _⟩
  have hn : n0 ≤ 65536 := by omega
  have hc1 : ∀ z ∈ cut a0 1, 0 ≤ z ∧ z ≤ 255 := cut_bd (by omega) hz
  have hc2 : ∀ z ∈ cut a0 2, 0 ≤ z ∧ z ≤ 255 := cut_bd (by omega) hz
  have hm1 : (cut a0 1).length ≤ 65536 := cut_len (by omega) (by omega)
  have hm2 : (cut a0 2).length ≤ 65536 := cut_len (by omega) (by omega)
  have cB := Go.Lib.hid (vBig_of w ar n0 cap false (decide_eq_false hbig))
  have D1 := Go.Lib.hid (fun W h => drawCO_any (.slice ar n0 cap) n0 a0 W h hz hn)
  have K1 := Go.Lib.hid (fun W h => vCut_any a0 1 (by omega) (by omega) W (.slice ar n0 cap) n0 h hn)
  have D2 := Go.Lib.hid (fun W v h => drawCD_any v (cut a0 1).length (cut a0 1) W h hc1 hm1)
  have K2 := Go.Lib.hid (fun W h => vCut_any a0 2 (by omega) (by omega) W (.slice ar n0 cap) n0 h hn)
  have D3 := Go.Lib.hid (fun W v h => drawCSt_any v (cut a0 2).length (cut a0 2) W h hc2 hm2)
  have HW0 := Go.Lib.hid (And.intro (Below.refl w.heap.size w) s0)
  clear hz s0 w0 t0 hc1 hc2 hm1 hm2 hl0
  go_enter Tryz.func3, Tryz.ntmps3
  go_wp2_with fail
  refine (cB.out).mono ?_
  rintro e Wz ⟨rfl, rfl⟩
  go_wp2_with fail
  refine (D1.out _ (HW0.out.2)).mono ?_
  rintro e W1 ⟨vO, zs, rfl, hz8, o1, b1⟩
  have HW1 := Go.Lib.hid (And.intro (Below.trans (HW0.out.1) ((b1).mono (Below.size (HW0.out.1)))) (And.intro (Sees.grow (HW0.out.2) b1) (own_lower (o1) (Below.size (HW0.out.1)))))
  clear o1 b1
  obtain ⟨aO, cO, rfl⟩ : ∃ a c, vO = .slice a zs.length c := by
    obtain ⟨_, a, c, e, _, _⟩ := Sees.owns (HW1.out.2.2)
    exact ⟨a, c, e⟩
  obtain ⟨⟨a1, b1, ok⟩, hO⟩ : ∃ p, ansChanceOutput zs = p := ⟨_, rfl⟩
  have O1 := Go.Lib.hid (implChanceOutput zs a1 b1 ok hO (by omega))
  have O2 := Go.Lib.hid (specChanceOutput zs a1 b1 ok hO (by omega))
  have HOF := Go.Lib.hid (fun h => out_facts hO h)
  clear hO D1 cB
  go_wp2_with fail
  refine (O1.out _ _ _ (Sees.owns (HW1.out.2.2))).mono ?_
  rintro e W2 ⟨rfl, b2⟩
  have HW2 := Go.Lib.hid (And.intro (Below.trans (HW1.out.1) ((b2).mono (Below.size (HW1.out.1)))) (And.intro (Sees.grow (HW1.out.2.1) b2) (kept_call (HW1.out.2.2) b2)))
  clear b2
  have hB2 : Below W2.heap.size W2 (W2.alloc (.cells #[.int .i64 (a1 : Int), .int .i64 (b1 : Int)] 26)) := (Below.refl _ _).alloc (Nat.le_refl _) _
  have hA2 := arr2_alloc W2 (.int .i64 (a1 : Int)) (.int .i64 (b1 : Int))
  have HWa3 := Go.Lib.hid (And.intro (Below.trans (HW2.out.1) ((hB2).mono (Below.size (HW2.out.1)))) (And.intro (Sees.grow (HW2.out.2.1) hB2) (And.intro (kept_call (HW2.out.2.2) hB2) hA2)))
  clear hA2 hB2 HW2
  go_wp2_with fail
  obtain ⟨Va3, hVa3⟩ : ∃ V, W2.alloc (.cells #[.int .i64 (a1 : Int), .int .i64 (b1 : Int)] 26) = V := ⟨_, rfl⟩
  rw [hVa3] at HWa3 ⊢
  clear hVa3
  obtain ⟨gx1, hgx1⟩ : ∃ g, W2.heap.size = g := ⟨_, rfl⟩
  rw [hgx1] at HWa3 ⊢
  clear hgx1
  refine (O2.out _ _ _ (Sees.owns (HWa3.out.2.2.1))).mono ?_
  rintro e W4 ⟨rfl, b4⟩
  have HW4 := Go.Lib.hid (And.intro (Below.trans (HWa3.out.1) ((b4).mono (Below.size (HWa3.out.1)))) (And.intro (Sees.grow (HWa3.out.2.1) b4) (And.intro (kept_call (HWa3.out.2.2.1) b4) (arr2_call (HWa3.out.2.2.2) b4))))
  clear b4
  have hB4 : Below W4.heap.size W4 (W4.alloc (.cells #[.int .i64 (a1 : Int), .int .i64 (b1 : Int)] 26)) := (Below.refl _ _).alloc (Nat.le_refl _) _
  have hA4 := arr2_alloc W4 (.int .i64 (a1 : Int)) (.int .i64 (b1 : Int))
  have HWa5 := Go.Lib.hid (And.intro (Below.trans (HW4.out.1) ((hB4).mono (Below.size (HW4.out.1)))) (And.intro (Sees.grow (HW4.out.2.1) hB4) (And.intro (kept_call (HW4.out.2.2.1) hB4) (And.intro (arr2_call (HW4.out.2.2.2) hB4) hA4))))
  clear hA4 hB4 HW4
  clear O1 O2
  go_wp2_with fail
  obtain ⟨Va5, hVa5⟩ : ∃ V, W4.alloc (.cells #[.int .i64 (a1 : Int), .int .i64 (b1 : Int)] 26) = V := ⟨_, rfl⟩
  rw [hVa5] at HWa5 ⊢
  clear hVa5
  obtain ⟨gx2, hgx2⟩ : ∃ g, W4.heap.size = g := ⟨_, rfl⟩
  rw [hgx2] at HWa5 ⊢
  clear hgx2
  refine (K1.out _ (HWa5.out.2.1)).mono ?_
  rintro e W6 ⟨u6, rfl, o6, b6⟩
  have HW6 := Go.Lib.hid (And.intro (Below.trans (HWa5.out.1) ((b6).mono (Below.size (HWa5.out.1)))) (And.intro (Sees.grow (HWa5.out.2.1) b6) (And.intro (kept_call (HWa5.out.2.2.1) b6) (And.intro (arr2_call (HWa5.out.2.2.2.1) b6) (And.intro (arr2_call (HWa5.out.2.2.2.2) b6) (own_lower (o6) (Below.size (HWa5.out.1))))))))
  clear o6 b6
  go_wp2_with fail
  refine (D2.out _ _ (Sees.owns (HW6.out.2.2.2.2.2))).mono ?_
  rintro e W7 ⟨n, k, rfl, hn0, hn7, hk0, hk7, b7⟩
  have HW7 := Go.Lib.hid (And.intro (Below.trans (HW6.out.1) ((b7).mono (Below.size (HW6.out.1)))) (And.intro (Sees.grow (HW6.out.2.1) b7) (And.intro (kept_call (HW6.out.2.2.1) b7) (And.intro (arr2_call (HW6.out.2.2.2.1) b7) (And.intro (arr2_call (HW6.out.2.2.2.2.1) b7) (kept_call (HW6.out.2.2.2.2.2) b7))))))
  clear b7
  have HWd8 := Go.Lib.hid (And.intro HW7.out.1 (And.intro HW7.out.2.1 (And.intro HW7.out.2.2.1 (And.intro HW7.out.2.2.2.1 HW7.out.2.2.2.2.1))))
  clear HW7
  clear K1 D2
  have wn : (Lit.int .i64 n).wf = true := wf7 hn0 (by omega)
  have wk : (Lit.int .i64 k).wf = true := wf7 hk0 (by omega)
  obtain ⟨⟨a2, b2, fine⟩, hD⟩ : ∃ p, ansChanceDepth n k = p := ⟨_, rfl⟩
  obtain ⟨T, hT⟩ : ∃ T, decide (1 ≤ n ∧ n ≤ 6) = T := ⟨_, rfl⟩
  have E1 := Go.Lib.hid (implChanceDepth n k a2 b2 fine hD wn wk)
  have E2 := Go.Lib.hid (specChanceDepth n k a2 b2 fine hD wn wk)
  have HDF := Go.Lib.hid (deep_facts hD hT)
  clear hD
  go_wp2_with fail
  refine (E1.out _).mono ?_
  rintro e W9 ⟨rfl, b9⟩
  have HW9 := Go.Lib.hid (And.intro (Below.trans (HWd8.out.1) ((b9).mono (Below.size (HWd8.out.1)))) (And.intro (Sees.grow (HWd8.out.2.1) b9) (And.intro (kept_call (HWd8.out.2.2.1) b9) (And.intro (arr2_call (HWd8.out.2.2.2.1) b9) (arr2_call (HWd8.out.2.2.2.2) b9)))))
  clear b9
  have hB9 : Below W9.heap.size W9 (W9.alloc (.cells #[.int .i64 (a2 : Int), .int .i64 (b2 : Int)] 26)) := (Below.refl _ _).alloc (Nat.le_refl _) _
  have hA9 := arr2_alloc W9 (.int .i64 (a2 : Int)) (.int .i64 (b2 : Int))
  have HWa10 := Go.Lib.hid (And.intro (Below.trans (HW9.out.1) ((hB9).mono (Below.size (HW9.out.1)))) (And.intro (Sees.grow (HW9.out.2.1) hB9) (And.intro (kept_call (HW9.out.2.2.1) hB9) (And.intro (arr2_call (HW9.out.2.2.2.1) hB9) (And.intro (arr2_call (HW9.out.2.2.2.2) hB9) hA9)))))
  clear hA9 hB9 HW9
  go_wp2_with fail
  obtain ⟨Va10, hVa10⟩ : ∃ V, W9.alloc (.cells #[.int .i64 (a2 : Int), .int .i64 (b2 : Int)] 26) = V := ⟨_, rfl⟩
  rw [hVa10] at HWa10 ⊢
  clear hVa10
  obtain ⟨gx3, hgx3⟩ : ∃ g, W9.heap.size = g := ⟨_, rfl⟩
  rw [hgx3] at HWa10 ⊢
  clear hgx3
  refine (E2.out _).mono ?_
  rintro e W11 ⟨rfl, b11⟩
  have HW11 := Go.Lib.hid (And.intro (Below.trans (HWa10.out.1) ((b11).mono (Below.size (HWa10.out.1)))) (And.intro (Sees.grow (HWa10.out.2.1) b11) (And.intro (kept_call (HWa10.out.2.2.1) b11) (And.intro (arr2_call (HWa10.out.2.2.2.1) b11) (And.intro (arr2_call (HWa10.out.2.2.2.2.1) b11) (arr2_call (HWa10.out.2.2.2.2.2) b11))))))
  clear b11
  have hB11 : Below W11.heap.size W11 (W11.alloc (.cells #[.int .i64 (a2 : Int), .int .i64 (b2 : Int)] 26)) := (Below.refl _ _).alloc (Nat.le_refl _) _
  have hA11 := arr2_alloc W11 (.int .i64 (a2 : Int)) (.int .i64 (b2 : Int))
  have HWa12 := Go.Lib.hid (And.intro (Below.trans (HW11.out.1) ((hB11).mono (Below.size (HW11.out.1)))) (And.intro (Sees.grow (HW11.out.2.1) hB11) (And.intro (kept_call (HW11.out.2.2.1) hB11) (And.intro (arr2_call (HW11.out.2.2.2.1) hB11) (And.intro (arr2_call (HW11.out.2.2.2.2.1) hB11) (And.intro (arr2_call (HW11.out.2.2.2.2.2) hB11) hA11))))))
  clear hA11 hB11 HW11
  clear E1 E2
  obtain ⟨a3, b3, hM3⟩ := ch_there (q := fun m => meanL (allW m) tellMeanDepth) hT
  have M1 := Go.Lib.hid (implMeanDepth n a3 b3 T hM3 wn)
  have M2 := Go.Lib.hid (specMeanDepth n a3 b3 T hM3 wn)
  have HM3 := Go.Lib.hid hM3
  clear hM3
  go_wp2_with fail
  obtain ⟨Va12, hVa12⟩ : ∃ V, W11.alloc (.cells #[.int .i64 (a2 : Int), .int .i64 (b2 : Int)] 26) = V := ⟨_, rfl⟩
  rw [hVa12] at HWa12 ⊢
  clear hVa12
  obtain ⟨gx4, hgx4⟩ : ∃ g, W11.heap.size = g := ⟨_, rfl⟩
  rw [hgx4] at HWa12 ⊢
  clear hgx4
  refine (M1.out _).mono ?_
  rintro e W13 ⟨rfl, b13⟩
  have HW13 := Go.Lib.hid (And.intro (Below.trans (HWa12.out.1) ((b13).mono (Below.size (HWa12.out.1)))) (And.intro (Sees.grow (HWa12.out.2.1) b13) (And.intro (kept_call (HWa12.out.2.2.1) b13) (And.intro (arr2_call (HWa12.out.2.2.2.1) b13) (And.intro (arr2_call (HWa12.out.2.2.2.2.1) b13) (And.intro (arr2_call (HWa12.out.2.2.2.2.2.1) b13) (arr2_call (HWa12.out.2.2.2.2.2.2) b13)))))))
  clear b13
  have hB13 : Below W13.heap.size W13 (W13.alloc (.cells #[.int .i64 (a3 : Int), .int .i64 (b3 : Int)] 26)) := (Below.refl _ _).alloc (Nat.le_refl _) _
  have hA13 := arr2_alloc W13 (.int .i64 (a3 : Int)) (.int .i64 (b3 : Int))
  have HWa14 := Go.Lib.hid (And.intro (Below.trans (HW13.out.1) ((hB13).mono (Below.size (HW13.out.1)))) (And.intro (Sees.grow (HW13.out.2.1) hB13) (And.intro (kept_call (HW13.out.2.2.1) hB13) (And.intro (arr2_call (HW13.out.2.2.2.1) hB13) (And.intro (arr2_call (HW13.out.2.2.2.2.1) hB13) (And.intro (arr2_call (HW13.out.2.2.2.2.2.1) hB13) (And.intro (arr2_call (HW13.out.2.2.2.2.2.2) hB13) hA13)))))))
  clear hA13 hB13 HW13
  go_wp2_with fail
  obtain ⟨Va14, hVa14⟩ : ∃ V, W13.alloc (.cells #[.int .i64 (a3 : Int), .int .i64 (b3 : Int)] 26) = V := ⟨_, rfl⟩
  rw [hVa14] at HWa14 ⊢
  clear hVa14
  obtain ⟨gx5, hgx5⟩ : ∃ g, W13.heap.size = g := ⟨_, rfl⟩
  rw [hgx5] at HWa14 ⊢
  clear hgx5
  refine (M2.out _).mono ?_
  rintro e W15 ⟨rfl, b15⟩
  have HW15 := Go.Lib.hid (And.intro (Below.trans (HWa14.out.1) ((b15).mono (Below.size (HWa14.out.1)))) (And.intro (Sees.grow (HWa14.out.2.1) b15) (And.intro (kept_call (HWa14.out.2.2.1) b15) (And.intro (arr2_call (HWa14.out.2.2.2.1) b15) (And.intro (arr2_call (HWa14.out.2.2.2.2.1) b15) (And.intro (arr2_call (HWa14.out.2.2.2.2.2.1) b15) (And.intro (arr2_call (HWa14.out.2.2.2.2.2.2.1) b15) (arr2_call (HWa14.out.2.2.2.2.2.2.2) b15))))))))
  clear b15
  have hB15 : Below W15.heap.size W15 (W15.alloc (.cells #[.int .i64 (a3 : Int), .int .i64 (b3 : Int)] 26)) := (Below.refl _ _).alloc (Nat.le_refl _) _
  have hA15 := arr2_alloc W15 (.int .i64 (a3 : Int)) (.int .i64 (b3 : Int))
  have HWa16 := Go.Lib.hid (And.intro (Below.trans (HW15.out.1) ((hB15).mono (Below.size (HW15.out.1)))) (And.intro (Sees.grow (HW15.out.2.1) hB15) (And.intro (kept_call (HW15.out.2.2.1) hB15) (And.intro (arr2_call (HW15.out.2.2.2.1) hB15) (And.intro (arr2_call (HW15.out.2.2.2.2.1) hB15) (And.intro (arr2_call (HW15.out.2.2.2.2.2.1) hB15) (And.intro (arr2_call (HW15.out.2.2.2.2.2.2.1) hB15) (And.intro (arr2_call (HW15.out.2.2.2.2.2.2.2) hB15) hA15))))))))
  clear hA15 hB15 HW15
  clear M1 M2
  obtain ⟨a4, b4, hM4⟩ := ch_there (q := fun m => meanL (allW m) tellMeanKept) hT
  have M1 := Go.Lib.hid (implMeanKept n a4 b4 T hM4 wn)
  have M2 := Go.Lib.hid (specMeanKept n a4 b4 T hM4 wn)
  have HM4 := Go.Lib.hid hM4
  clear hM4
  go_wp2_with fail
  obtain ⟨Va16, hVa16⟩ : ∃ V, W15.alloc (.cells #[.int .i64 (a3 : Int), .int .i64 (b3 : Int)] 26) = V := ⟨_, rfl⟩
  rw [hVa16] at HWa16 ⊢
  clear hVa16
  obtain ⟨gx6, hgx6⟩ : ∃ g, W15.heap.size = g := ⟨_, rfl⟩
  rw [hgx6] at HWa16 ⊢
  clear hgx6
  refine (M1.out _).mono ?_
  rintro e W17 ⟨rfl, b17⟩
  have HW17 := Go.Lib.hid (And.intro (Below.trans (HWa16.out.1) ((b17).mono (Below.size (HWa16.out.1)))) (And.intro (Sees.grow (HWa16.out.2.1) b17) (And.intro (kept_call (HWa16.out.2.2.1) b17) (And.intro (arr2_call (HWa16.out.2.2.2.1) b17) (And.intro (arr2_call (HWa16.out.2.2.2.2.1) b17) (And.intro (arr2_call (HWa16.out.2.2.2.2.2.1) b17) (And.intro (arr2_call (HWa16.out.2.2.2.2.2.2.1) b17) (And.intro (arr2_call (HWa16.out.2.2.2.2.2.2.2.1) b17) (arr2_call (HWa16.out.2.2.2.2.2.2.2.2) b17)))))))))
  clear b17
  have hB17 : Below W17.heap.size W17 (W17.alloc (.cells #[.int .i64 (a4 : Int), .int .i64 (b4 : Int)] 26)) := (Below.refl _ _).alloc (Nat.le_refl _) _
  have hA17 := arr2_alloc W17 (.int .i64 (a4 : Int)) (.int .i64 (b4 : Int))
  have HWa18 := Go.Lib.hid (And.intro (Below.trans (HW17.out.1) ((hB17).mono (Below.size (HW17.out.1)))) (And.intro (Sees.grow (HW17.out.2.1) hB17) (And.intro (kept_call (HW17.out.2.2.1) hB17) (And.intro (arr2_call (HW17.out.2.2.2.1) hB17) (And.intro (arr2_call (HW17.out.2.2.2.2.1) hB17) (And.intro (arr2_call (HW17.out.2.2.2.2.2.1) hB17) (And.intro (arr2_call (HW17.out.2.2.2.2.2.2.1) hB17) (And.intro (arr2_call (HW17.out.2.2.2.2.2.2.2.1) hB17) (And.intro (arr2_call (HW17.out.2.2.2.2.2.2.2.2) hB17) hA17)))))))))
  clear hA17 hB17 HW17
  go_wp2_with fail
  obtain ⟨Va18, hVa18⟩ : ∃ V, W17.alloc (.cells #[.int .i64 (a4 : Int), .int .i64 (b4 : Int)] 26) = V := ⟨_, rfl⟩
  rw [hVa18] at HWa18 ⊢
  clear hVa18
  obtain ⟨gx7, hgx7⟩ : ∃ g, W17.heap.size = g := ⟨_, rfl⟩
  rw [hgx7] at HWa18 ⊢
  clear hgx7
  refine (M2.out _).mono ?_
  rintro e W19 ⟨rfl, b19⟩
  have HW19 := Go.Lib.hid (And.intro (Below.trans (HWa18.out.1) ((b19).mono (Below.size (HWa18.out.1)))) (And.intro (Sees.grow (HWa18.out.2.1) b19) (And.intro (kept_call (HWa18.out.2.2.1) b19) (And.intro (arr2_call (HWa18.out.2.2.2.1) b19) (And.intro (arr2_call (HWa18.out.2.2.2.2.1) b19) (And.intro (arr2_call (HWa18.out.2.2.2.2.2.1) b19) (And.intro (arr2_call (HWa18.out.2.2.2.2.2.2.1) b19) (And.intro (arr2_call (HWa18.out.2.2.2.2.2.2.2.1) b19) (And.intro (arr2_call (HWa18.out.2.2.2.2.2.2.2.2.1) b19) (arr2_call (HWa18.out.2.2.2.2.2.2.2.2.2) b19))))))))))
  clear b19
  have hB19 : Below W19.heap.size W19 (W19.alloc (.cells #[.int .i64 (a4 : Int), .int .i64 (b4 : Int)] 26)) := (Below.refl _ _).alloc (Nat.le_refl _) _
  have hA19 := arr2_alloc W19 (.int .i64 (a4 : Int)) (.int .i64 (b4 : Int))
  have HWa20 := Go.Lib.hid (And.intro (Below.trans (HW19.out.1) ((hB19).mono (Below.size (HW19.out.1)))) (And.intro (Sees.grow (HW19.out.2.1) hB19) (And.intro (kept_call (HW19.out.2.2.1) hB19) (And.intro (arr2_call (HW19.out.2.2.2.1) hB19) (And.intro (arr2_call (HW19.out.2.2.2.2.1) hB19) (And.intro (arr2_call (HW19.out.2.2.2.2.2.1) hB19) (And.intro (arr2_call (HW19.out.2.2.2.2.2.2.1) hB19) (And.intro (arr2_call (HW19.out.2.2.2.2.2.2.2.1) hB19) (And.intro (arr2_call (HW19.out.2.2.2.2.2.2.2.2.1) hB19) (And.intro (arr2_call (HW19.out.2.2.2.2.2.2.2.2.2) hB19) hA19))))))))))
  clear hA19 hB19 HW19
  clear M1 M2
  obtain ⟨a5, b5, hM5⟩ := ch_there (q := fun m => meanL (allO m) tellMeanPasses) hT
  have M1 := Go.Lib.hid (implMeanPasses (fun m h1 h6 zs hz => BdMeanPasses.bound h1 h6 hz) n a5 b5 T hM5 wn)
  have M2 := Go.Lib.hid (specMeanPasses (fun m h1 h6 zs hz => BdMeanPasses.bound h1 h6 hz) n a5 b5 T hM5 wn)
  clear hM5
  go_wp2_with fail
  obtain ⟨Va20, hVa20⟩ : ∃ V, W19.alloc (.cells #[.int .i64 (a4 : Int), .int .i64 (b4 : Int)] 26) = V := ⟨_, rfl⟩
  rw [hVa20] at HWa20 ⊢
  clear hVa20
  obtain ⟨gx8, hgx8⟩ : ∃ g, W19.heap.size = g := ⟨_, rfl⟩
  rw [hgx8] at HWa20 ⊢
  clear hgx8
  refine (M1.out _).mono ?_
  rintro e W21 ⟨rfl, b21⟩
  have HW21 := Go.Lib.hid (And.intro (Below.trans (HWa20.out.1) ((b21).mono (Below.size (HWa20.out.1)))) (And.intro (Sees.grow (HWa20.out.2.1) b21) (And.intro (kept_call (HWa20.out.2.2.1) b21) (And.intro (arr2_call (HWa20.out.2.2.2.1) b21) (And.intro (arr2_call (HWa20.out.2.2.2.2.1) b21) (And.intro (arr2_call (HWa20.out.2.2.2.2.2.1) b21) (And.intro (arr2_call (HWa20.out.2.2.2.2.2.2.1) b21) (And.intro (arr2_call (HWa20.out.2.2.2.2.2.2.2.1) b21) (And.intro (arr2_call (HWa20.out.2.2.2.2.2.2.2.2.1) b21) (And.intro (arr2_call (HWa20.out.2.2.2.2.2.2.2.2.2.1) b21) (arr2_call (HWa20.out.2.2.2.2.2.2.2.2.2.2) b21)))))))))))
  clear b21
  have hB21 : Below W21.heap.size W21 (W21.alloc (.cells #[.int .i64 (a5 : Int), .int .i64 (b5 : Int)] 26)) := (Below.refl _ _).alloc (Nat.le_refl _) _
  have hA21 := arr2_alloc W21 (.int .i64 (a5 : Int)) (.int .i64 (b5 : Int))
  have HWa22 := Go.Lib.hid (And.intro (Below.trans (HW21.out.1) ((hB21).mono (Below.size (HW21.out.1)))) (And.intro (Sees.grow (HW21.out.2.1) hB21) (And.intro (kept_call (HW21.out.2.2.1) hB21) (And.intro (arr2_call (HW21.out.2.2.2.1) hB21) (And.intro (arr2_call (HW21.out.2.2.2.2.1) hB21) (And.intro (arr2_call (HW21.out.2.2.2.2.2.1) hB21) (And.intro (arr2_call (HW21.out.2.2.2.2.2.2.1) hB21) (And.intro (arr2_call (HW21.out.2.2.2.2.2.2.2.1) hB21) (And.intro (arr2_call (HW21.out.2.2.2.2.2.2.2.2.1) hB21) (And.intro (arr2_call (HW21.out.2.2.2.2.2.2.2.2.2.1) hB21) (And.intro (arr2_call (HW21.out.2.2.2.2.2.2.2.2.2.2) hB21) hA21)))))))))))
  clear hA21 hB21 HW21
  go_wp2_with fail
  obtain ⟨Va22, hVa22⟩ : ∃ V, W21.alloc (.cells #[.int .i64 (a5 : Int), .int .i64 (b5 : Int)] 26) = V := ⟨_, rfl⟩
  rw [hVa22] at HWa22 ⊢
  clear hVa22
  obtain ⟨gx9, hgx9⟩ : ∃ g, W21.heap.size = g := ⟨_, rfl⟩
  rw [hgx9] at HWa22 ⊢
  clear hgx9
  refine (M2.out _).mono ?_
  rintro e W23 ⟨rfl, b23⟩
  have HW23 := Go.Lib.hid (And.intro (Below.trans (HWa22.out.1) ((b23).mono (Below.size (HWa22.out.1)))) (And.intro (Sees.grow (HWa22.out.2.1) b23) (And.intro (kept_call (HWa22.out.2.2.1) b23) (And.intro (arr2_call (HWa22.out.2.2.2.1) b23) (And.intro (arr2_call (HWa22.out.2.2.2.2.1) b23) (And.intro (arr2_call (HWa22.out.2.2.2.2.2.1) b23) (And.intro (arr2_call (HWa22.out.2.2.2.2.2.2.1) b23) (And.intro (arr2_call (HWa22.out.2.2.2.2.2.2.2.1) b23) (And.intro (arr2_call (HWa22.out.2.2.2.2.2.2.2.2.1) b23) (And.intro (arr2_call (HWa22.out.2.2.2.2.2.2.2.2.2.1) b23) (And.intro (arr2_call (HWa22.out.2.2.2.2.2.2.2.2.2.2.1) b23) (arr2_call (HWa22.out.2.2.2.2.2.2.2.2.2.2.2) b23))))))))))))
  clear b23
  have hB23 : Below W23.heap.size W23 (W23.alloc (.cells #[.int .i64 (a5 : Int), .int .i64 (b5 : Int)] 26)) := (Below.refl _ _).alloc (Nat.le_refl _) _
  have hA23 := arr2_alloc W23 (.int .i64 (a5 : Int)) (.int .i64 (b5 : Int))
  have HWa24 := Go.Lib.hid (And.intro (Below.trans (HW23.out.1) ((hB23).mono (Below.size (HW23.out.1)))) (And.intro (Sees.grow (HW23.out.2.1) hB23) (And.intro (kept_call (HW23.out.2.2.1) hB23) (And.intro (arr2_call (HW23.out.2.2.2.1) hB23) (And.intro (arr2_call (HW23.out.2.2.2.2.1) hB23) (And.intro (arr2_call (HW23.out.2.2.2.2.2.1) hB23) (And.intro (arr2_call (HW23.out.2.2.2.2.2.2.1) hB23) (And.intro (arr2_call (HW23.out.2.2.2.2.2.2.2.1) hB23) (And.intro (arr2_call (HW23.out.2.2.2.2.2.2.2.2.1) hB23) (And.intro (arr2_call (HW23.out.2.2.2.2.2.2.2.2.2.1) hB23) (And.intro (arr2_call (HW23.out.2.2.2.2.2.2.2.2.2.2.1) hB23) (And.intro (arr2_call (HW23.out.2.2.2.2.2.2.2.2.2.2.2) hB23) hA23))))))))))))
  clear hA23 hB23 HW23
  clear M1 M2
  obtain ⟨a6, b6, hM6⟩ := ch_there (q := fun m => meanL (allO m) tellMeanConflicts) hT
  have M1 := Go.Lib.hid (implMeanConflicts (fun m h1 h6 zs hz => BdMeanConflicts.bound h1 h6 hz) n a6 b6 T hM6 wn)
  have M2 := Go.Lib.hid (specMeanConflicts (fun m h1 h6 zs hz => BdMeanConflicts.bound h1 h6 hz) n a6 b6 T hM6 wn)
  clear hM6
  go_wp2_with fail
  obtain ⟨Va24, hVa24⟩ : ∃ V, W23.alloc (.cells #[.int .i64 (a5 : Int), .int .i64 (b5 : Int)] 26) = V := ⟨_, rfl⟩
  rw [hVa24] at HWa24 ⊢
  clear hVa24
  obtain ⟨gx10, hgx10⟩ : ∃ g, W23.heap.size = g := ⟨_, rfl⟩
  rw [hgx10] at HWa24 ⊢
  clear hgx10
  refine (M1.out _).mono ?_
  rintro e W25 ⟨rfl, b25⟩
  have HW25 := Go.Lib.hid (And.intro (Below.trans (HWa24.out.1) ((b25).mono (Below.size (HWa24.out.1)))) (And.intro (Sees.grow (HWa24.out.2.1) b25) (And.intro (kept_call (HWa24.out.2.2.1) b25) (And.intro (arr2_call (HWa24.out.2.2.2.1) b25) (And.intro (arr2_call (HWa24.out.2.2.2.2.1) b25) (And.intro (arr2_call (HWa24.out.2.2.2.2.2.1) b25) (And.intro (arr2_call (HWa24.out.2.2.2.2.2.2.1) b25) (And.intro (arr2_call (HWa24.out.2.2.2.2.2.2.2.1) b25) (And.intro (arr2_call (HWa24.out.2.2.2.2.2.2.2.2.1) b25) (And.intro (arr2_call (HWa24.out.2.2.2.2.2.2.2.2.2.1) b25) (And.intro (arr2_call (HWa24.out.2.2.2.2.2.2.2.2.2.2.1) b25) (And.intro (arr2_call (HWa24.out.2.2.2.2.2.2.2.2.2.2.2.1) b25) (arr2_call (HWa24.out.2.2.2.2.2.2.2.2.2.2.2.2) b25)))))))))))))
  clear b25
  have hB25 : Below W25.heap.size W25 (W25.alloc (.cells #[.int .i64 (a6 : Int), .int .i64 (b6 : Int)] 26)) := (Below.refl _ _).alloc (Nat.le_refl _) _
  have hA25 := arr2_alloc W25 (.int .i64 (a6 : Int)) (.int .i64 (b6 : Int))
  have HWa26 := Go.Lib.hid (And.intro (Below.trans (HW25.out.1) ((hB25).mono (Below.size (HW25.out.1)))) (And.intro (Sees.grow (HW25.out.2.1) hB25) (And.intro (kept_call (HW25.out.2.2.1) hB25) (And.intro (arr2_call (HW25.out.2.2.2.1) hB25) (And.intro (arr2_call (HW25.out.2.2.2.2.1) hB25) (And.intro (arr2_call (HW25.out.2.2.2.2.2.1) hB25) (And.intro (arr2_call (HW25.out.2.2.2.2.2.2.1) hB25) (And.intro (arr2_call (HW25.out.2.2.2.2.2.2.2.1) hB25) (And.intro (arr2_call (HW25.out.2.2.2.2.2.2.2.2.1) hB25) (And.intro (arr2_call (HW25.out.2.2.2.2.2.2.2.2.2.1) hB25) (And.intro (arr2_call (HW25.out.2.2.2.2.2.2.2.2.2.2.1) hB25) (And.intro (arr2_call (HW25.out.2.2.2.2.2.2.2.2.2.2.2.1) hB25) (And.intro (arr2_call (HW25.out.2.2.2.2.2.2.2.2.2.2.2.2) hB25) hA25)))))))))))))
  clear hA25 hB25 HW25
  go_wp2_with fail
  obtain ⟨Va26, hVa26⟩ : ∃ V, W25.alloc (.cells #[.int .i64 (a6 : Int), .int .i64 (b6 : Int)] 26) = V := ⟨_, rfl⟩
  rw [hVa26] at HWa26 ⊢
  clear hVa26
  obtain ⟨gx11, hgx11⟩ : ∃ g, W25.heap.size = g := ⟨_, rfl⟩
  rw [hgx11] at HWa26 ⊢
  clear hgx11
  refine (M2.out _).mono ?_
  rintro e W27 ⟨rfl, b27⟩
  have HW27 := Go.Lib.hid (And.intro (Below.trans (HWa26.out.1) ((b27).mono (Below.size (HWa26.out.1)))) (And.intro (Sees.grow (HWa26.out.2.1) b27) (And.intro (kept_call (HWa26.out.2.2.1) b27) (And.intro (arr2_call (HWa26.out.2.2.2.1) b27) (And.intro (arr2_call (HWa26.out.2.2.2.2.1) b27) (And.intro (arr2_call (HWa26.out.2.2.2.2.2.1) b27) (And.intro (arr2_call (HWa26.out.2.2.2.2.2.2.1) b27) (And.intro (arr2_call (HWa26.out.2.2.2.2.2.2.2.1) b27) (And.intro (arr2_call (HWa26.out.2.2.2.2.2.2.2.2.1) b27) (And.intro (arr2_call (HWa26.out.2.2.2.2.2.2.2.2.2.1) b27) (And.intro (arr2_call (HWa26.out.2.2.2.2.2.2.2.2.2.2.1) b27) (And.intro (arr2_call (HWa26.out.2.2.2.2.2.2.2.2.2.2.2.1) b27) (And.intro (arr2_call (HWa26.out.2.2.2.2.2.2.2.2.2.2.2.2.1) b27) (arr2_call (HWa26.out.2.2.2.2.2.2.2.2.2.2.2.2.2) b27))))))))))))))
  clear b27
  have hB27 : Below W27.heap.size W27 (W27.alloc (.cells #[.int .i64 (a6 : Int), .int .i64 (b6 : Int)] 26)) := (Below.refl _ _).alloc (Nat.le_refl _) _
  have hA27 := arr2_alloc W27 (.int .i64 (a6 : Int)) (.int .i64 (b6 : Int))
  have HWa28 := Go.Lib.hid (And.intro (Below.trans (HW27.out.1) ((hB27).mono (Below.size (HW27.out.1)))) (And.intro (Sees.grow (HW27.out.2.1) hB27) (And.intro (kept_call (HW27.out.2.2.1) hB27) (And.intro (arr2_call (HW27.out.2.2.2.1) hB27) (And.intro (arr2_call (HW27.out.2.2.2.2.1) hB27) (And.intro (arr2_call (HW27.out.2.2.2.2.2.1) hB27) (And.intro (arr2_call (HW27.out.2.2.2.2.2.2.1) hB27) (And.intro (arr2_call (HW27.out.2.2.2.2.2.2.2.1) hB27) (And.intro (arr2_call (HW27.out.2.2.2.2.2.2.2.2.1) hB27) (And.intro (arr2_call (HW27.out.2.2.2.2.2.2.2.2.2.1) hB27) (And.intro (arr2_call (HW27.out.2.2.2.2.2.2.2.2.2.2.1) hB27) (And.intro (arr2_call (HW27.out.2.2.2.2.2.2.2.2.2.2.2.1) hB27) (And.intro (arr2_call (HW27.out.2.2.2.2.2.2.2.2.2.2.2.2.1) hB27) (And.intro (arr2_call (HW27.out.2.2.2.2.2.2.2.2.2.2.2.2.2) hB27) hA27))))))))))))))
  clear hA27 hB27 HW27
  clear M1 M2
  go_wp2_with fail
  obtain ⟨Va28, hVa28⟩ : ∃ V, W27.alloc (.cells #[.int .i64 (a6 : Int), .int .i64 (b6 : Int)] 26) = V := ⟨_, rfl⟩
  rw [hVa28] at HWa28 ⊢
  clear hVa28
  obtain ⟨gx12, hgx12⟩ : ∃ g, W27.heap.size = g := ⟨_, rfl⟩
  rw [hgx12] at HWa28 ⊢
  clear hgx12
  refine (K2.out _ (HWa28.out.2.1)).mono ?_
  rintro e W29 ⟨u29, rfl, o29, b29⟩
  have HW29 := Go.Lib.hid (And.intro (Below.trans (HWa28.out.1) ((b29).mono (Below.size (HWa28.out.1)))) (And.intro (Sees.grow (HWa28.out.2.1) b29) (And.intro (kept_call (HWa28.out.2.2.1) b29) (And.intro (arr2_call (HWa28.out.2.2.2.1) b29) (And.intro (arr2_call (HWa28.out.2.2.2.2.1) b29) (And.intro (arr2_call (HWa28.out.2.2.2.2.2.1) b29) (And.intro (arr2_call (HWa28.out.2.2.2.2.2.2.1) b29) (And.intro (arr2_call (HWa28.out.2.2.2.2.2.2.2.1) b29) (And.intro (arr2_call (HWa28.out.2.2.2.2.2.2.2.2.1) b29) (And.intro (arr2_call (HWa28.out.2.2.2.2.2.2.2.2.2.1) b29) (And.intro (arr2_call (HWa28.out.2.2.2.2.2.2.2.2.2.2.1) b29) (And.intro (arr2_call (HWa28.out.2.2.2.2.2.2.2.2.2.2.2.1) b29) (And.intro (arr2_call (HWa28.out.2.2.2.2.2.2.2.2.2.2.2.2.1) b29) (And.intro (arr2_call (HWa28.out.2.2.2.2.2.2.2.2.2.2.2.2.2.1) b29) (And.intro (arr2_call (HWa28.out.2.2.2.2.2.2.2.2.2.2.2.2.2.2) b29) (own_lower (o29) (Below.size (HWa28.out.1))))))))))))))))))
  clear o29 b29
  go_wp2_with fail
  refine (D3.out _ _ (Sees.owns (HW29.out.2.2.2.2.2.2.2.2.2.2.2.2.2.2.2))).mono ?_
  rintro e W30 ⟨m, q, rfl, hm0, hm7, hq0, hq7, b30⟩
  have HW30 := Go.Lib.hid (And.intro (Below.trans (HW29.out.1) ((b30).mono (Below.size (HW29.out.1)))) (And.intro (Sees.grow (HW29.out.2.1) b30) (And.intro (kept_call (HW29.out.2.2.1) b30) (And.intro (arr2_call (HW29.out.2.2.2.1) b30) (And.intro (arr2_call (HW29.out.2.2.2.2.1) b30) (And.intro (arr2_call (HW29.out.2.2.2.2.2.1) b30) (And.intro (arr2_call (HW29.out.2.2.2.2.2.2.1) b30) (And.intro (arr2_call (HW29.out.2.2.2.2.2.2.2.1) b30) (And.intro (arr2_call (HW29.out.2.2.2.2.2.2.2.2.1) b30) (And.intro (arr2_call (HW29.out.2.2.2.2.2.2.2.2.2.1) b30) (And.intro (arr2_call (HW29.out.2.2.2.2.2.2.2.2.2.2.1) b30) (And.intro (arr2_call (HW29.out.2.2.2.2.2.2.2.2.2.2.2.1) b30) (And.intro (arr2_call (HW29.out.2.2.2.2.2.2.2.2.2.2.2.2.1) b30) (And.intro (arr2_call (HW29.out.2.2.2.2.2.2.2.2.2.2.2.2.2.1) b30) (And.intro (arr2_call (HW29.out.2.2.2.2.2.2.2.2.2.2.2.2.2.2.1) b30) (kept_call (HW29.out.2.2.2.2.2.2.2.2.2.2.2.2.2.2.2) b30))))))))))))))))
  clear b30
  have HWd31 := Go.Lib.hid (And.intro HW30.out.1 (And.intro HW30.out.2.2.1 (And.intro HW30.out.2.2.2.1 (And.intro HW30.out.2.2.2.2.1 (And.intro HW30.out.2.2.2.2.2.1 (And.intro HW30.out.2.2.2.2.2.2.1 (And.intro HW30.out.2.2.2.2.2.2.2.1 (And.intro HW30.out.2.2.2.2.2.2.2.2.1 (And.intro HW30.out.2.2.2.2.2.2.2.2.2.1 (And.intro HW30.out.2.2.2.2.2.2.2.2.2.2.1 (And.intro HW30.out.2.2.2.2.2.2.2.2.2.2.2.1 (And.intro HW30.out.2.2.2.2.2.2.2.2.2.2.2.2.1 (And.intro HW30.out.2.2.2.2.2.2.2.2.2.2.2.2.2.1 HW30.out.2.2.2.2.2.2.2.2.2.2.2.2.2.2.1)))))))))))))
  clear HW30
  clear K2 D3
  have wm : (Lit.int .i64 m).wf = true := wf7 hm0 (by omega)
  have wq : (Lit.int .i64 q).wf = true := wf7 hq0 (by omega)
  obtain ⟨⟨a7, b7, four⟩, hS⟩ : ∃ p, ansChanceStacks m q = p := ⟨_, rfl⟩
  have R1 := Go.Lib.hid (implChanceStacks m q a7 b7 four hS wm wq)
  have R2 := Go.Lib.hid (specChanceStacks m q a7 b7 four hS wm wq)
  have HSF := Go.Lib.hid (fun h1 h2 => stack_facts hS h1 h2)
  clear hS
  go_wp2_with fail
  refine (R1.out _).mono ?_
  rintro e W32 ⟨rfl, b32⟩
  have HW32 := Go.Lib.hid (And.intro (Below.trans (HWd31.out.1) ((b32).mono (Below.size (HWd31.out.1)))) (And.intro (kept_call (HWd31.out.2.1) b32) (And.intro (arr2_call (HWd31.out.2.2.1) b32) (And.intro (arr2_call (HWd31.out.2.2.2.1) b32) (And.intro (arr2_call (HWd31.out.2.2.2.2.1) b32) (And.intro (arr2_call (HWd31.out.2.2.2.2.2.1) b32) (And.intro (arr2_call (HWd31.out.2.2.2.2.2.2.1) b32) (And.intro (arr2_call (HWd31.out.2.2.2.2.2.2.2.1) b32) (And.intro (arr2_call (HWd31.out.2.2.2.2.2.2.2.2.1) b32) (And.intro (arr2_call (HWd31.out.2.2.2.2.2.2.2.2.2.1) b32) (And.intro (arr2_call (HWd31.out.2.2.2.2.2.2.2.2.2.2.1) b32) (And.intro (arr2_call (HWd31.out.2.2.2.2.2.2.2.2.2.2.2.1) b32) (And.intro (arr2_call (HWd31.out.2.2.2.2.2.2.2.2.2.2.2.2.1) b32) (arr2_call (HWd31.out.2.2.2.2.2.2.2.2.2.2.2.2.2) b32))))))))))))))
  clear b32
  have hB32 : Below W32.heap.size W32 (W32.alloc (.cells #[.int .i64 (a7 : Int), .int .i64 (b7 : Int)] 26)) := (Below.refl _ _).alloc (Nat.le_refl _) _
  have hA32 := arr2_alloc W32 (.int .i64 (a7 : Int)) (.int .i64 (b7 : Int))
  have HWa33 := Go.Lib.hid (And.intro (Below.trans (HW32.out.1) ((hB32).mono (Below.size (HW32.out.1)))) (And.intro (kept_call (HW32.out.2.1) hB32) (And.intro (arr2_call (HW32.out.2.2.1) hB32) (And.intro (arr2_call (HW32.out.2.2.2.1) hB32) (And.intro (arr2_call (HW32.out.2.2.2.2.1) hB32) (And.intro (arr2_call (HW32.out.2.2.2.2.2.1) hB32) (And.intro (arr2_call (HW32.out.2.2.2.2.2.2.1) hB32) (And.intro (arr2_call (HW32.out.2.2.2.2.2.2.2.1) hB32) (And.intro (arr2_call (HW32.out.2.2.2.2.2.2.2.2.1) hB32) (And.intro (arr2_call (HW32.out.2.2.2.2.2.2.2.2.2.1) hB32) (And.intro (arr2_call (HW32.out.2.2.2.2.2.2.2.2.2.2.1) hB32) (And.intro (arr2_call (HW32.out.2.2.2.2.2.2.2.2.2.2.2.1) hB32) (And.intro (arr2_call (HW32.out.2.2.2.2.2.2.2.2.2.2.2.2.1) hB32) (And.intro (arr2_call (HW32.out.2.2.2.2.2.2.2.2.2.2.2.2.2) hB32) hA32))))))))))))))
  clear hA32 hB32 HW32
  clear R1
  go_wp2_with fail
  obtain ⟨Va33, hVa33⟩ : ∃ V, W32.alloc (.cells #[.int .i64 (a7 : Int), .int .i64 (b7 : Int)] 26) = V := ⟨_, rfl⟩
  rw [hVa33] at HWa33 ⊢
  clear hVa33
  obtain ⟨gx13, hgx13⟩ : ∃ g, W32.heap.size = g := ⟨_, rfl⟩
  rw [hgx13] at HWa33 ⊢
  clear hgx13
  refine (R2.out _).mono ?_
  rintro e W34 ⟨rfl, b34⟩
  have HW34 := Go.Lib.hid (And.intro (Below.trans (HWa33.out.1) ((b34).mono (Below.size (HWa33.out.1)))) (And.intro (kept_call (HWa33.out.2.1) b34) (And.intro (arr2_call (HWa33.out.2.2.1) b34) (And.intro (arr2_call (HWa33.out.2.2.2.1) b34) (And.intro (arr2_call (HWa33.out.2.2.2.2.1) b34) (And.intro (arr2_call (HWa33.out.2.2.2.2.2.1) b34) (And.intro (arr2_call (HWa33.out.2.2.2.2.2.2.1) b34) (And.intro (arr2_call (HWa33.out.2.2.2.2.2.2.2.1) b34) (And.intro (arr2_call (HWa33.out.2.2.2.2.2.2.2.2.1) b34) (And.intro (arr2_call (HWa33.out.2.2.2.2.2.2.2.2.2.1) b34) (And.intro (arr2_call (HWa33.out.2.2.2.2.2.2.2.2.2.2.1) b34) (And.intro (arr2_call (HWa33.out.2.2.2.2.2.2.2.2.2.2.2.1) b34) (And.intro (arr2_call (HWa33.out.2.2.2.2.2.2.2.2.2.2.2.2.1) b34) (And.intro (arr2_call (HWa33.out.2.2.2.2.2.2.2.2.2.2.2.2.2.1) b34) (arr2_call (HWa33.out.2.2.2.2.2.2.2.2.2.2.2.2.2.2) b34)))))))))))))))
  clear b34
  have hB34 : Below W34.heap.size W34 (W34.alloc (.cells #[.int .i64 (a7 : Int), .int .i64 (b7 : Int)] 26)) := (Below.refl _ _).alloc (Nat.le_refl _) _
  have hA34 := arr2_alloc W34 (.int .i64 (a7 : Int)) (.int .i64 (b7 : Int))
  have HWa35 := Go.Lib.hid (And.intro (Below.trans (HW34.out.1) ((hB34).mono (Below.size (HW34.out.1)))) (And.intro (kept_call (HW34.out.2.1) hB34) (And.intro (arr2_call (HW34.out.2.2.1) hB34) (And.intro (arr2_call (HW34.out.2.2.2.1) hB34) (And.intro (arr2_call (HW34.out.2.2.2.2.1) hB34) (And.intro (arr2_call (HW34.out.2.2.2.2.2.1) hB34) (And.intro (arr2_call (HW34.out.2.2.2.2.2.2.1) hB34) (And.intro (arr2_call (HW34.out.2.2.2.2.2.2.2.1) hB34) (And.intro (arr2_call (HW34.out.2.2.2.2.2.2.2.2.1) hB34) (And.intro (arr2_call (HW34.out.2.2.2.2.2.2.2.2.2.1) hB34) (And.intro (arr2_call (HW34.out.2.2.2.2.2.2.2.2.2.2.1) hB34) (And.intro (arr2_call (HW34.out.2.2.2.2.2.2.2.2.2.2.2.1) hB34) (And.intro (arr2_call (HW34.out.2.2.2.2.2.2.2.2.2.2.2.2.1) hB34) (And.intro (arr2_call (HW34.out.2.2.2.2.2.2.2.2.2.2.2.2.2.1) hB34) (And.intro (arr2_call (HW34.out.2.2.2.2.2.2.2.2.2.2.2.2.2.2) hB34) hA34)))))))))))))))
  clear hA34 hB34 HW34
  clear R2
  go_upto_region 20 with (fail)
  obtain ⟨Va35, hVa35⟩ : ∃ V, W34.alloc (.cells #[.int .i64 (a7 : Int), .int .i64 (b7 : Int)] 26) = V := ⟨_, rfl⟩
  rw [hVa35] at HWa35 ⊢
  clear hVa35
  obtain ⟨gx14, hgx14⟩ : ∃ g, W34.heap.size = g := ⟨_, rfl⟩
  rw [hgx14] at HWa35 ⊢
  clear hgx14
  go_cut [223] from 44 to 325 (fun s w' => s = .bool false ∧ w' = Va35)
  case first =>
    clear HSF HOF HM3 HM4 hT
    have hDT : fine = true → T = true := HDF.out.1
    obtain ⟨cx10, cx11, _, _⟩ := arr2_cells (HWa35.out.2.2.1)
    obtain ⟨cx20, cx21, _, _⟩ := arr2_cells (HWa35.out.2.2.2.1)
    obtain ⟨cx30, cx31, _, _⟩ := arr2_cells (HWa35.out.2.2.2.2.1)
    obtain ⟨cx40, cx41, _, _⟩ := arr2_cells (HWa35.out.2.2.2.2.2.1)
    obtain ⟨cx50, cx51, _, _⟩ := arr2_cells (HWa35.out.2.2.2.2.2.2.1)
    obtain ⟨cx60, cx61, _, _⟩ := arr2_cells (HWa35.out.2.2.2.2.2.2.2.1)
    obtain ⟨cx70, cx71, _, _⟩ := arr2_cells (HWa35.out.2.2.2.2.2.2.2.2.1)
    obtain ⟨cx80, cx81, _, _⟩ := arr2_cells (HWa35.out.2.2.2.2.2.2.2.2.2.1)
    obtain ⟨cx90, cx91, _, _⟩ := arr2_cells (HWa35.out.2.2.2.2.2.2.2.2.2.2.1)
    obtain ⟨cx100, cx101, _, _⟩ := arr2_cells (HWa35.out.2.2.2.2.2.2.2.2.2.2.2.1)
    obtain ⟨cx110, cx111, _, _⟩ := arr2_cells (HWa35.out.2.2.2.2.2.2.2.2.2.2.2.2.1)
    obtain ⟨cx120, cx121, _, _⟩ := arr2_cells (HWa35.out.2.2.2.2.2.2.2.2.2.2.2.2.2.1)
    obtain ⟨cx130, cx131, _, _⟩ := arr2_cells (HWa35.out.2.2.2.2.2.2.2.2.2.2.2.2.2.2.1)
    obtain ⟨cx140, cx141, _, _⟩ := arr2_cells (HWa35.out.2.2.2.2.2.2.2.2.2.2.2.2.2.2.2)
    have hE := fun (a b : Int) (X : World) => eqA2s a b X
    clear HDF
    cases T
    case false => as_aux_lemma =>
      obtain rfl : fine = false := by cases fine with | false => rfl | true => exact absurd (hDT rfl) (by simp)
      clear hDT
      go_wp2_with fail
      go_meet
      exact ⟨rfl, rfl⟩
    case true =>
      clear hDT
      cases fine
      case false => as_aux_lemma =>
        go_wp2_with fail
        go_meet
        exact ⟨rfl, rfl⟩
      case true => as_aux_lemma =>
        go_wp2_with fail
        go_meet
        exact ⟨rfl, rfl⟩
  case rest =>
    obtain ⟨rfl, rfl⟩ := hcut
    have HWd36 := Go.Lib.hid (And.intro HWa35.out.1 (And.intro HWa35.out.2.1 (And.intro HWa35.out.2.2.1 (And.intro HWa35.out.2.2.2.2.1 (And.intro HWa35.out.2.2.2.2.2.2.1 (And.intro HWa35.out.2.2.2.2.2.2.2.2.1 (And.intro HWa35.out.2.2.2.2.2.2.2.2.2.2.2.2.2.2.1 HWa35.out.2.2.2.2.2.2.2.2.2.2.2.2.2.2.2)))))))
    clear HWa35
    go_upto_if 224 with (fail)
    go_cut [] from 36 to 325 (fun w' => Hid (Below wc.heap.size wc w'))
    case first => as_aux_lemma =>
      clear HDF HSF HM3 HM4 hT
      cases ok
      case false =>
        clear HOF
        go_wp2_with fail
        go_meet
        exact Go.Lib.hid ((Below.refl wc.heap.size wc))
      case true =>
        obtain ⟨hord, hwa, fw, hfw, hf7, hne, hpos⟩ := HOF.out rfl
        obtain ⟨nw, hnw⟩ : ∃ n, (allW zs.length).length = n := ⟨_, rfl⟩
        have Y1 := Go.Lib.hid (implWords (zs.length : Int) (allW zs.length) true hwa (wf7 (by omega) (by omega)))
        have Y2 := Go.Lib.hid (implFewest zs fw true hfw (by omega))
        rw [hnw] at hpos
        have HNW := Go.Lib.hid hnw
        have HPOS := Go.Lib.hid hpos
        have HNE := Go.Lib.hid hne
        clear hord hwa hfw hnw hpos hne HOF
        go_wp2_with fail
        refine (Y1.out _).mono ?_
        rintro e W37 ⟨vW, rfl, o37, b37⟩
        have HW37 := Go.Lib.hid (And.intro (Below.trans (HWd36.out.1) ((b37).mono (Below.size (HWd36.out.1)))) (And.intro (kept_call (HWd36.out.2.1) b37) (And.intro (arr2_call (HWd36.out.2.2.1) b37) (And.intro (arr2_call (HWd36.out.2.2.2.1) b37) (And.intro (arr2_call (HWd36.out.2.2.2.2.1) b37) (And.intro (arr2_call (HWd36.out.2.2.2.2.2.1) b37) (And.intro (arr2_call (HWd36.out.2.2.2.2.2.2.1) b37) (arr2_call (HWd36.out.2.2.2.2.2.2.2) b37))))))))
        have HR37 := Go.Lib.hid (Below.trans ((Below.refl wc.heap.size wc)) ((b37).mono (Below.size ((Below.refl wc.heap.size wc)))))
        rw [HNW.out] at o37
        obtain ⟨_, aW, cW, rfl, _, _⟩ := Sees.owns o37
        clear o37 b37 Y1
        go_wp2_with fail
        refine (Y2.out _ _ _ (Sees.owns (HW37.out.2.1))).mono ?_
        rintro e W38 ⟨rfl, b38⟩
        have HW38 := Go.Lib.hid (And.intro (Below.trans (HW37.out.1) ((b38).mono (Below.size (HW37.out.1)))) (And.intro (kept_call (HW37.out.2.1) b38) (And.intro (arr2_call (HW37.out.2.2.1) b38) (And.intro (arr2_call (HW37.out.2.2.2.1) b38) (And.intro (arr2_call (HW37.out.2.2.2.2.1) b38) (And.intro (arr2_call (HW37.out.2.2.2.2.2.1) b38) (And.intro (arr2_call (HW37.out.2.2.2.2.2.2.1) b38) (arr2_call (HW37.out.2.2.2.2.2.2.2) b38))))))))
        have HR38 := Go.Lib.hid (Below.trans (HR37.out) ((b38).mono (Below.size (HR37.out))))
        clear b38
        clear Y2
        have hne := HNE.out
        obtain ⟨cx10, cx11, _, _⟩ := arr2_cells (HW38.out.2.2.1)
        by_cases hp : 0 < a1
        · obtain ⟨rfl, rfl⟩ := HPOS.out hp
          have hp2 : (0 : Int) < ((1 : Nat) : Int) := by omega
          have hfe : ((fw : Int) == 1) = true := by simpa using hne
          go_wp2_with fail
          go_meet
          exact Go.Lib.hid (HR38.out)
        · obtain rfl : a1 = 0 := by omega
          have hfe : ((fw : Int) == 1) = false := by simpa using hne
          go_wp2_with fail
          go_meet
          exact Go.Lib.hid (HR38.out)
    case rest =>
      have bY39 := hcut.out
      obtain ⟨WY39, hWY39⟩ : ∃ W, wc = W := ⟨_, rfl⟩
      rw [hWY39] at bY39 ⊢
      clear hWY39
      have HWY39 := Go.Lib.hid (And.intro (Below.trans (HWd36.out.1) (bY39.mono (Below.size (HWd36.out.1)))) (And.intro (kept_call (HWd36.out.2.1) bY39) (And.intro (arr2_call (HWd36.out.2.2.1) bY39) (And.intro (arr2_call (HWd36.out.2.2.2.1) bY39) (And.intro (arr2_call (HWd36.out.2.2.2.2.1) bY39) (And.intro (arr2_call (HWd36.out.2.2.2.2.2.1) bY39) (And.intro (arr2_call (HWd36.out.2.2.2.2.2.2.1) bY39) (arr2_call (HWd36.out.2.2.2.2.2.2.2) bY39))))))))
      clear bY39 HWd36 hcut HOF
      have HWd40 := Go.Lib.hid (And.intro HWY39.out.1 (And.intro HWY39.out.2.2.2.1 (And.intro HWY39.out.2.2.2.2.1 (And.intro HWY39.out.2.2.2.2.2.1 (And.intro HWY39.out.2.2.2.2.2.2.1 HWY39.out.2.2.2.2.2.2.2)))))
      clear HWY39
      go_upto_if 267 with (fail)
      go_cut [] from 36 to 325 (fun w' => Hid (Below WY39.heap.size WY39 w'))
      case first => as_aux_lemma =>
        clear HSF HM3 HM4 hT
        cases fine
        case false =>
          clear HDF
          go_wp2_with fail
          go_meet
          exact Go.Lib.hid ((Below.refl WY39.heap.size WY39))
        case true =>
          obtain ⟨n', k', rfl, rfl, hn1, hn6, hk1, hk6, hab, hge, hgt⟩ := HDF.out.2 (by trivial)
          have hgek : ((k' : Int) ≥ (n' : Int)) ↔ n' ≤ k' := by omega
          have hE := fun (a b : Int) (X : World) => eqA2s a b X
          by_cases hkn : n' ≤ k'
          · skip
            obtain ⟨rfl, rfl⟩ := hge hkn
            have hkni : (n' : Int) ≤ (k' : Int) := by omega
            by_cases hk2 : 1 < k'
            · skip
              obtain ⟨a8, b8, hans, hl8, hb8, hless⟩ := hgt hk2
              have hk2i : (1 : Int) < (k' : Int) := by omega
              have hkw : IntKind.i64.wrap ((k' : Int) - 1) = ((k' - 1 : Nat) : Int) := by rw [IntWalk.i64_in _ (by omega)]; omega
              have Z1 := Go.Lib.hid (implChanceDepth (n' : Int) ((k' - 1 : Nat) : Int) a8 b8 true hans (wf7 (by omega) (by omega)) (wf7 (by omega) (by omega)))
              have hcast : ((k' : Int) - 1) = ((k' - 1 : Nat) : Int) := by omega
              have Z2 := Go.Lib.hid (fun (X : World) => vLess_any 1 1 a8 b8 false (by omega) (by omega) (by omega) (by omega) (by omega) (by omega) (decide_eq_false hless) X)
              clear hans hless
              obtain ⟨cx30, cx31, _, _⟩ := arr2_cells (HWd40.out.2.1)
              go_wp2_with fail
              first | refine (Z1.out _).mono ?_ | (rw [hcast]; refine (Z1.out _).mono ?_)
              rintro e W41 ⟨rfl, b41⟩
              have HW41 := Go.Lib.hid (And.intro (Below.trans (HWd40.out.1) ((b41).mono (Below.size (HWd40.out.1)))) (And.intro (arr2_call (HWd40.out.2.1) b41) (And.intro (arr2_call (HWd40.out.2.2.1) b41) (And.intro (arr2_call (HWd40.out.2.2.2.1) b41) (And.intro (arr2_call (HWd40.out.2.2.2.2.1) b41) (arr2_call (HWd40.out.2.2.2.2.2) b41))))))
              have HR41 := Go.Lib.hid (Below.trans ((Below.refl WY39.heap.size WY39)) ((b41).mono (Below.size ((Below.refl WY39.heap.size WY39)))))
              clear b41
              have hB41 : Below W41.heap.size W41 (W41.alloc (.cells #[.int .i64 (a8 : Int), .int .i64 (b8 : Int)] 26)) := (Below.refl _ _).alloc (Nat.le_refl _) _
              have hA41 := arr2_alloc W41 (.int .i64 (a8 : Int)) (.int .i64 (b8 : Int))
              have HWa42 := Go.Lib.hid (And.intro (Below.trans (HW41.out.1) ((hB41).mono (Below.size (HW41.out.1)))) (And.intro (arr2_call (HW41.out.2.1) hB41) (And.intro (arr2_call (HW41.out.2.2.1) hB41) (And.intro (arr2_call (HW41.out.2.2.2.1) hB41) (And.intro (arr2_call (HW41.out.2.2.2.2.1) hB41) (And.intro (arr2_call (HW41.out.2.2.2.2.2) hB41) hA41))))))
              have HRa42 := Go.Lib.hid (Below.trans (HR41.out) ((hB41).mono (Below.size (HR41.out))))
              clear hA41 hB41 HW41
              obtain ⟨cx30, cx31, _, _⟩ := arr2_cells (HWa42.out.2.1)
              obtain ⟨cx150, cx151, _, _⟩ := arr2_cells (HWa42.out.2.2.2.2.2.2)
              go_wp2_with fail
              obtain ⟨Va42, hVa42⟩ : ∃ V, W41.alloc (.cells #[.int .i64 (a8 : Int), .int .i64 (b8 : Int)] 26) = V := ⟨_, rfl⟩
              rw [hVa42] at HWa42 HRa42 ⊢
              clear hVa42
              obtain ⟨gx15, hgx15⟩ : ∃ g, W41.heap.size = g := ⟨_, rfl⟩
              rw [hgx15] at HWa42 ⊢
              clear hgx15
              refine (Z2.out _).mono ?_
              rintro e W43 ⟨rfl, b43⟩
              have HW43 := Go.Lib.hid (And.intro (Below.trans (HWa42.out.1) ((b43).mono (Below.size (HWa42.out.1)))) (And.intro (arr2_call (HWa42.out.2.1) b43) (And.intro (arr2_call (HWa42.out.2.2.1) b43) (And.intro (arr2_call (HWa42.out.2.2.2.1) b43) (And.intro (arr2_call (HWa42.out.2.2.2.2.1) b43) (And.intro (arr2_call (HWa42.out.2.2.2.2.2.1) b43) (arr2_call (HWa42.out.2.2.2.2.2.2) b43)))))))
              have HR43 := Go.Lib.hid (Below.trans (HRa42.out) ((b43).mono (Below.size (HRa42.out))))
              clear b43
              go_wp2_with fail
              go_meet
              exact Go.Lib.hid (HR43.out)
            · skip
              have hk2i : ¬ (1 : Int) < (k' : Int) := by omega
              obtain ⟨cx30, cx31, _, _⟩ := arr2_cells (HWd40.out.2.1)
              go_wp2_with fail
              go_meet
              exact Go.Lib.hid ((Below.refl WY39.heap.size WY39))
          · skip
            have hkni : ¬ (n' : Int) ≤ (k' : Int) := by omega
            by_cases hk2 : 1 < k'
            · skip
              obtain ⟨a8, b8, hans, hl8, hb8, hless⟩ := hgt hk2
              have hk2i : (1 : Int) < (k' : Int) := by omega
              have hkw : IntKind.i64.wrap ((k' : Int) - 1) = ((k' - 1 : Nat) : Int) := by rw [IntWalk.i64_in _ (by omega)]; omega
              have Z1 := Go.Lib.hid (implChanceDepth (n' : Int) ((k' - 1 : Nat) : Int) a8 b8 true hans (wf7 (by omega) (by omega)) (wf7 (by omega) (by omega)))
              have hcast : ((k' : Int) - 1) = ((k' - 1 : Nat) : Int) := by omega
              have Z2 := Go.Lib.hid (fun (X : World) => vLess_any a2 b2 a8 b8 false (by omega) (by omega) (by omega) (by omega) (by omega) (by omega) (decide_eq_false hless) X)
              clear hans hless
              obtain ⟨cx30, cx31, _, _⟩ := arr2_cells (HWd40.out.2.1)
              go_wp2_with fail
              first | refine (Z1.out _).mono ?_ | (rw [hcast]; refine (Z1.out _).mono ?_)
              rintro e W44 ⟨rfl, b44⟩
              have HW44 := Go.Lib.hid (And.intro (Below.trans (HWd40.out.1) ((b44).mono (Below.size (HWd40.out.1)))) (And.intro (arr2_call (HWd40.out.2.1) b44) (And.intro (arr2_call (HWd40.out.2.2.1) b44) (And.intro (arr2_call (HWd40.out.2.2.2.1) b44) (And.intro (arr2_call (HWd40.out.2.2.2.2.1) b44) (arr2_call (HWd40.out.2.2.2.2.2) b44))))))
              have HR44 := Go.Lib.hid (Below.trans ((Below.refl WY39.heap.size WY39)) ((b44).mono (Below.size ((Below.refl WY39.heap.size WY39)))))
              clear b44
              have hB44 : Below W44.heap.size W44 (W44.alloc (.cells #[.int .i64 (a8 : Int), .int .i64 (b8 : Int)] 26)) := (Below.refl _ _).alloc (Nat.le_refl _) _
              have hA44 := arr2_alloc W44 (.int .i64 (a8 : Int)) (.int .i64 (b8 : Int))
              have HWa45 := Go.Lib.hid (And.intro (Below.trans (HW44.out.1) ((hB44).mono (Below.size (HW44.out.1)))) (And.intro (arr2_call (HW44.out.2.1) hB44) (And.intro (arr2_call (HW44.out.2.2.1) hB44) (And.intro (arr2_call (HW44.out.2.2.2.1) hB44) (And.intro (arr2_call (HW44.out.2.2.2.2.1) hB44) (And.intro (arr2_call (HW44.out.2.2.2.2.2) hB44) hA44))))))
              have HRa45 := Go.Lib.hid (Below.trans (HR44.out) ((hB44).mono (Below.size (HR44.out))))
              clear hA44 hB44 HW44
              obtain ⟨cx30, cx31, _, _⟩ := arr2_cells (HWa45.out.2.1)
              obtain ⟨cx150, cx151, _, _⟩ := arr2_cells (HWa45.out.2.2.2.2.2.2)
              go_wp2_with fail
              obtain ⟨Va45, hVa45⟩ : ∃ V, W44.alloc (.cells #[.int .i64 (a8 : Int), .int .i64 (b8 : Int)] 26) = V := ⟨_, rfl⟩
              rw [hVa45] at HWa45 HRa45 ⊢
              clear hVa45
              obtain ⟨gx15, hgx15⟩ : ∃ g, W44.heap.size = g := ⟨_, rfl⟩
              rw [hgx15] at HWa45 ⊢
              clear hgx15
              refine (Z2.out _).mono ?_
              rintro e W46 ⟨rfl, b46⟩
              have HW46 := Go.Lib.hid (And.intro (Below.trans (HWa45.out.1) ((b46).mono (Below.size (HWa45.out.1)))) (And.intro (arr2_call (HWa45.out.2.1) b46) (And.intro (arr2_call (HWa45.out.2.2.1) b46) (And.intro (arr2_call (HWa45.out.2.2.2.1) b46) (And.intro (arr2_call (HWa45.out.2.2.2.2.1) b46) (And.intro (arr2_call (HWa45.out.2.2.2.2.2.1) b46) (arr2_call (HWa45.out.2.2.2.2.2.2) b46)))))))
              have HR46 := Go.Lib.hid (Below.trans (HRa45.out) ((b46).mono (Below.size (HRa45.out))))
              clear b46
              go_wp2_with fail
              go_meet
              exact Go.Lib.hid (HR46.out)
            · skip
              have hk2i : ¬ (1 : Int) < (k' : Int) := by omega
              obtain ⟨cx30, cx31, _, _⟩ := arr2_cells (HWd40.out.2.1)
              go_wp2_with fail
              go_meet
              exact Go.Lib.hid ((Below.refl WY39.heap.size WY39))
      case rest =>
        have bY47 := hcut.out
        obtain ⟨WY47, hWY47⟩ : ∃ W, wc = W := ⟨_, rfl⟩
        rw [hWY47] at bY47 ⊢
        clear hWY47
        have HWY47 := Go.Lib.hid (And.intro (Below.trans (HWd40.out.1) (bY47.mono (Below.size (HWd40.out.1)))) (And.intro (arr2_call (HWd40.out.2.1) bY47) (And.intro (arr2_call (HWd40.out.2.2.1) bY47) (And.intro (arr2_call (HWd40.out.2.2.2.1) bY47) (And.intro (arr2_call (HWd40.out.2.2.2.2.1) bY47) (arr2_call (HWd40.out.2.2.2.2.2) bY47))))))
        clear bY47 HWd40 hcut HDF
        have HWd48 := Go.Lib.hid (And.intro HWY47.out.1 (And.intro HWY47.out.2.2.1 (And.intro HWY47.out.2.2.2.1 (And.intro HWY47.out.2.2.2.2.1 HWY47.out.2.2.2.2.2))))
        clear HWY47
        go_upto_region 34 with (fail)
        go_cut [309] from 36 to 325 (fun s w' => s = .bool false ∧ Hid (Below WY47.heap.size WY47 w'))
        case first => as_aux_lemma =>
          clear HSF
          cases T
          case false =>
            clear HM3 HM4 hT
            go_wp2_with fail
            go_meet
            exact ⟨rfl, Go.Lib.hid ((Below.refl WY47.heap.size WY47))⟩
          case true =>
            obtain ⟨n', rfl, hn1, hn6⟩ := there_nat hT
            obtain ⟨v1, v2, v3, v4, v5, v6, v7, v8, v9⟩ := mean_law hn1 hn6 HM3.out HM4.out
            have L1 := Go.Lib.hid (fun (X : World) => vLess_any a3 b3 1 1 false v1 (by omega) v2 v3 (by omega) (by omega) (decide_eq_false v7) X)
            have L2 := Go.Lib.hid (fun (X : World) => vLess_any n' 1 a3 b3 false (by omega) v1 (by omega) (by omega) v2 v3 (decide_eq_false v8) X)
            have L3 := Go.Lib.hid (fun (X : World) => vLess_any n' 1 a4 b4 false (by omega) v4 (by omega) (by omega) v5 v6 (decide_eq_false v9) X)
            clear v1 v2 v3 v4 v5 v6 v7 v8 v9
            obtain ⟨cx50, cx51, _, _⟩ := arr2_cells (HWd48.out.2.1)
            obtain ⟨cx70, cx71, _, _⟩ := arr2_cells (HWd48.out.2.2.1)
            go_wp2_with fail
            refine (L1.out _).mono ?_
            rintro e W49 ⟨rfl, b49⟩
            have HW49 := Go.Lib.hid (And.intro (Below.trans (HWd48.out.1) ((b49).mono (Below.size (HWd48.out.1)))) (And.intro (arr2_call (HWd48.out.2.1) b49) (And.intro (arr2_call (HWd48.out.2.2.1) b49) (And.intro (arr2_call (HWd48.out.2.2.2.1) b49) (arr2_call (HWd48.out.2.2.2.2) b49)))))
            have HR49 := Go.Lib.hid (Below.trans ((Below.refl WY47.heap.size WY47)) ((b49).mono (Below.size ((Below.refl WY47.heap.size WY47)))))
            clear b49
            obtain ⟨cx50, cx51, _, _⟩ := arr2_cells (HW49.out.2.1)
            obtain ⟨cx70, cx71, _, _⟩ := arr2_cells (HW49.out.2.2.1)
            go_wp2_with fail
            refine (L2.out _).mono ?_
            rintro e W50 ⟨rfl, b50⟩
            have HW50 := Go.Lib.hid (And.intro (Below.trans (HW49.out.1) ((b50).mono (Below.size (HW49.out.1)))) (And.intro (arr2_call (HW49.out.2.1) b50) (And.intro (arr2_call (HW49.out.2.2.1) b50) (And.intro (arr2_call (HW49.out.2.2.2.1) b50) (arr2_call (HW49.out.2.2.2.2) b50)))))
            have HR50 := Go.Lib.hid (Below.trans (HR49.out) ((b50).mono (Below.size (HR49.out))))
            clear b50
            obtain ⟨cx50, cx51, _, _⟩ := arr2_cells (HW50.out.2.1)
            obtain ⟨cx70, cx71, _, _⟩ := arr2_cells (HW50.out.2.2.1)
            go_wp2_with fail
            refine (L3.out _).mono ?_
            rintro e W51 ⟨rfl, b51⟩
            have HW51 := Go.Lib.hid (And.intro (Below.trans (HW50.out.1) ((b51).mono (Below.size (HW50.out.1)))) (And.intro (arr2_call (HW50.out.2.1) b51) (And.intro (arr2_call (HW50.out.2.2.1) b51) (And.intro (arr2_call (HW50.out.2.2.2.1) b51) (arr2_call (HW50.out.2.2.2.2) b51)))))
            have HR51 := Go.Lib.hid (Below.trans (HR50.out) ((b51).mono (Below.size (HR50.out))))
            clear b51
            clear L1 L2 L3
            go_wp2_with fail
            go_meet
            exact ⟨rfl, Go.Lib.hid (HR51.out)⟩
        case rest =>
          obtain ⟨rfl, hcut2⟩ := hcut
          have bY52 := hcut2.out
          obtain ⟨WY52, hWY52⟩ : ∃ W, wc = W := ⟨_, rfl⟩
          rw [hWY52] at bY52 ⊢
          clear hWY52
          have HWY52 := Go.Lib.hid (And.intro (Below.trans (HWd48.out.1) (bY52.mono (Below.size (HWd48.out.1)))) (And.intro (arr2_call (HWd48.out.2.1) bY52) (And.intro (arr2_call (HWd48.out.2.2.1) bY52) (And.intro (arr2_call (HWd48.out.2.2.2.1) bY52) (arr2_call (HWd48.out.2.2.2.2) bY52)))))
          clear bY52 HWd48 hcut2 HM3 HM4 hT
          cases four
          case false =>
            go_wp2_with fail
            go_ret
            exact ⟨rfl, HWY52.out.1⟩
          case true =>
            by_cases hq1 : q = 1
            · have hq1b : (q == 1) = true := by rw [beq_iff_eq]; exact hq1
              have hE := fun (a b : Int) (X : World) => eqA2s a b X
              have U1 := Go.Lib.hid (implChanceSorts m a7 b7 true (HSF.out rfl hq1) wm)
              clear hq1
              go_wp2_with fail
              refine (U1.out _).mono ?_
              rintro e W53 ⟨rfl, b53⟩
              have HW53 := Go.Lib.hid (And.intro (Below.trans (HWY52.out.1) ((b53).mono (Below.size (HWY52.out.1)))) (And.intro (arr2_call (HWY52.out.2.1) b53) (And.intro (arr2_call (HWY52.out.2.2.1) b53) (And.intro (arr2_call (HWY52.out.2.2.2.1) b53) (arr2_call (HWY52.out.2.2.2.2) b53)))))
              clear b53
              have hB53 : Below W53.heap.size W53 (W53.alloc (.cells #[.int .i64 (a7 : Int), .int .i64 (b7 : Int)] 26)) := (Below.refl _ _).alloc (Nat.le_refl _) _
              have hA53 := arr2_alloc W53 (.int .i64 (a7 : Int)) (.int .i64 (b7 : Int))
              have HWa54 := Go.Lib.hid (And.intro (Below.trans (HW53.out.1) ((hB53).mono (Below.size (HW53.out.1)))) (And.intro (arr2_call (HW53.out.2.1) hB53) (And.intro (arr2_call (HW53.out.2.2.1) hB53) (And.intro (arr2_call (HW53.out.2.2.2.1) hB53) (And.intro (arr2_call (HW53.out.2.2.2.2) hB53) hA53)))))
              clear hA53 hB53 HW53
              obtain ⟨cx130, cx131, _, _⟩ := arr2_cells (HWa54.out.2.2.2.1)
              obtain ⟨cx160, cx161, _, _⟩ := arr2_cells (HWa54.out.2.2.2.2.2)
              go_wp2_with fail
              go_ret
              exact ⟨rfl, HWa54.out.1⟩
            · have hq1b : (q == 1) = false := by rw [beq_eq_false_iff_ne]; exact hq1
              clear hq1
              go_wp2_with fail
              go_ret
              exact ⟨rfl, HWY52.out.1⟩

/-! ### From the walk to the row -/
set_option maxRecDepth 100000 in
theorem lifted (os : Os) (started : os.Started) (H : Type) (enc : TypeId × Value → H) :
    ReturnsInHanded {} Tryz.checked os 3 .any (Rows.fnDrawnWordsSpec.pre6 enc Tryz.prog Tryz.f3 Rows.fnDrawnWordsRow.domain false) (Rows.fnDrawnWordsSpec.post enc Tryz.prog Tryz.f3 false true false false) := by
  refine returnsInHanded_of_change (C := Tryz.checked) own started (by kernel_rfl) Tryz.func3
    (ChangeSpec.witness6 (enc := enc) (C := Tryz.checked) false ⟨#[], #[.slice none 0 0], []⟩ 8 (by kernel_rfl) (by kernel_rfl) (by kernel_rfl) (by kernel_rfl)) ?_
  intro W base args ds gs before hval0 hW hcnd _
  have hval : ∀ (j : Nat) t v, Tryz.f3.params[j]? = some t → args[j]? = some v → Value.okWide Tryz.prog W .any base t v := hval0
  have hW' := hW
  obtain ⟨p, q, hA0, hV, rfl, hfz, hnd⟩ := hW
  have hA : DataW.TrodAll enc Tryz.prog W 0 (fun _ => true) true Tryz.f3.params.toList args.toList ds p := hA0
  rw [Tryz.params3] at hA hval
  obtain ⟨u0, vs0, d0, ds0, p0, q0, hargs, rfl, rfl, h0, r0⟩ := trodAll_cons hA
  obtain ⟨rfl, rfl, rfl⟩ := trodAll_nil r0
  obtain rfl : args = #[u0] := by cases args; simp_all
  obtain ⟨rfl, rfl⟩ := trodVars_none hV
  have lt0 : ∀ x ∈ p0, x.block < W.heap.size := by obtain ⟨m, hm⟩ := h0; exact DataW.trod_lt m _ _ _ hm
  obtain ⟨n0, a0, s0, t0, w0⟩ := sees_ints Tryz.underlying22 Tryz.underlying5 (by kernel_rfl) (hval 0 22 u0 rfl rfl) h0
  clear hA0 hval0
  refine (walk u0 n0 a0 W s0 t0 w0).mono fun e W' ⟨he, bel⟩ => ?_
  subst he
  exact ⟨_, rfl, _, _, _, [], _, [], hW', trodAll_mk1 (shut_bool Tryz.underlying4 _), (trodAll_cons_mk (Below.trod laidOut (by kernel_rfl) (of_decide_eq_true (by kernel_rfl)) h0 bel lt0) trodAll_mk0), rfl, bel.frame _, fun h => by cases h⟩

theorem over : Rows.fnDrawnWordsRow.holds Tryz.pinned (OpenSpec.ofChange Rows.fnDrawnWordsSpec) :=
  OpenClaim.holds_of_wide 3 Tryz.f3 rfl rfl rfl rfl rfl rfl rfl ⟨rfl, rfl, rfl, rfl, rfl⟩ rfl rfl rfl rfl rfl (by kernel_rfl) Tryz.func3
    (show joinedFacts Tryz.prog 3 Tryz.f3 Rows.fnDrawnWordsSpec Rows.fnDrawnWordsRow = true by unfold joinedFacts; rw [SeatC.may, SeatC.lif, SeatC.mke]; kernel_rfl)
    (of_decide_eq_true (by kernel_rfl)) (by unfold Func.isWrapper; first | (rw [if_pos (by decide +kernel)]; kernel_rfl) | (rw [if_neg (by decide +kernel)]; exact ⟨rfl, rfl⟩))
    (fun os started H enc _ => lifted os started H enc)

/-- The statement. -/
theorem proved : Rows.FnDrawnWordsSaid :=
  over
#print axioms proved
end Go.Proofs.YtnhhnffolmgceabGreat.fnDrawnWords
