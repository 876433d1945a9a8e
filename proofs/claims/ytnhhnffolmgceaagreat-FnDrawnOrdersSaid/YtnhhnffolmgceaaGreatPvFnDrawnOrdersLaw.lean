/-
  ..
-/
import Derived.Test.YtnhhnffolmgceaaGreatRows
import Derived.Test.YtnhhnffolmgceaaGreatPv0
import Derived.Test.YtnhhnffolmgceaaGreatPv9
import Derived.WalkKit
import Derived.ProofKit
import Derived.OpenShut
import Derived.ShutString
import Derived.ChangeOld
import Derived.Below
import Derived.Test.YtnhhnffolmgceaaGreatPv10
import Derived.Test.YtnhhnffolmgceaaGreatPv7
import Derived.Test.YtnhhnffolmgceaaGreatPv46
import Derived.Test.YtnhhnffolmgceaaGreatPv47
import Derived.Test.YtnhhnffolmgceaaGreatPv15
import Derived.Test.YtnhhnffolmgceaaGreatPv32
import Derived.Test.YtnhhnffolmgceaaGreatPv38
import Derived.Test.YtnhhnffolmgceaaGreatPv27
import Derived.Test.YtnhhnffolmgceaaGreatPv6
import Derived.Test.YtnhhnffolmgceaaGreatPv39
import Derived.Test.YtnhhnffolmgceaaGreatPv48
import Derived.Test.YtnhhnffolmgceaaGreatPv37
import Derived.Deep.CutRange

namespace Go.Proofs.YtnhhnffolmgceaaGreat.fnDrawnOrders
open Go.ChangeShapes Go.WideShapes Go.ChangeAt Go.RowKit SeesC OpenC
open Go.ChangeMaps (open_string shut_string)
open IntsC ExactC OrdMath AllO OrderC Arr2C ChM ChQ DrawOrd2C Draw9C DrawPatsC DrawCAC LLC RagResC RRC VCutC VBigC VLessC VPlusC Ch9F Ch9G Ch9H Ch9J Ch9K Ch9L PubAvC ChChanceSortsIC ChChanceSortsSC ChMeanRunsIC ChMeanRunsSC ChMeanRiseIC ChMeanRiseSC ChMeanInversionsIC ChMeanInversionsSC ChChanceQueuesIC ChChanceQueuesSC ChChanceAvoidsIC ChChanceAvoidsSC
set_option linter.unusedVariables false

theorem own : ownKnob Tryz.prog.godebug = none := by kernel_rfl
theorem laidOut : laidOutB Tryz.prog = true := by kernel_rfl

/-! ### The walk -/
set_option maxRecDepth 100000 in
set_option maxHeartbeats 400000000 in
theorem walk (v0 : Value) (n0 : Nat) (a0 : List Int) (w : World) (s0 : Sees w v0 n0 (a0.map (Value.int .u8))) (t0 : n0 ≤ maxLen) (w0 : ∀ z ∈ a0, (Lit.int .u8 z).wf = true) :
    Calls Tryz.prog 3 #[v0] w fun e w' => e = .returned (.bool true) ∧ Below w.heap.size w w' := by
  have hz : ∀ z ∈ a0, 0 ≤ z ∧ z ≤ 255 := byte_bd w0
  have hl0 : a0.length = n0 := by simpa using s0.1
  have hs0 := s0
  obtain ⟨_, ar, cap, rfl, _, _⟩ := hs0
  by_cases hbig : (65536 : Int) < (n0 : Int)
  · have cB := Go.Lib.hid (vBig_of w ar n0 cap true (decide_eq_true hbig))
    clear hz
    go_enter Tryz.func3, Tryz.ntmps3
    go_wp2_with fail
    refine (cB.out).mono ?_
    rintro e W1 ⟨rfl, rfl⟩
    go_wp2_with fail
    go_ret
    exact ⟨rfl, Below.refl _ _⟩
  have hn : n0 ≤ 65536 := by omega
  have hc1 : ∀ z ∈ cut a0 1, 0 ≤ z ∧ z ≤ 255 := cut_bd (by omega) hz
  have hc2 : ∀ z ∈ cut a0 2, 0 ≤ z ∧ z ≤ 255 := cut_bd (by omega) hz
  have hm1 : (cut a0 1).length ≤ 65536 := cut_len (by omega) (by omega)
  have hm2 : (cut a0 2).length ≤ 65536 := cut_len (by omega) (by omega)
  have cB := Go.Lib.hid (vBig_of w ar n0 cap false (decide_eq_false hbig))
  have D1 := Go.Lib.hid (fun W h => drawCS_any (.slice ar n0 cap) n0 a0 W h hz hn)
  have K1 := Go.Lib.hid (fun W h => vCut_any a0 1 (by omega) (by omega) W (.slice ar n0 cap) n0 h hn)
  have D2 := Go.Lib.hid (fun W v h => drawCQ_any v (cut a0 1).length (cut a0 1) W h hc1 hm1)
  have K2 := Go.Lib.hid (fun W h => vCut_any a0 2 (by omega) (by omega) W (.slice ar n0 cap) n0 h hn)
  have D3 := Go.Lib.hid (fun W v h => drawCA_any v (cut a0 2).length (cut a0 2) W h hc2 hm2)
  have HW0 := Go.Lib.hid (And.intro (Below.refl w.heap.size w) s0)
  clear hz s0 w0 t0 hc1 hc2 hm1 hm2 hl0
  go_enter Tryz.func3, Tryz.ntmps3
  go_wp2_with fail
  refine (cB.out).mono ?_
  rintro e Wz ⟨rfl, rfl⟩
  go_wp2_with fail
  refine (D1.out _ (HW0.out.2)).mono ?_
  rintro e W1 ⟨n, rfl, hn0, hn7, b1⟩
  have HW1 := Go.Lib.hid (And.intro (Below.trans (HW0.out.1) ((b1).mono (Below.size (HW0.out.1)))) (Sees.grow (HW0.out.2) b1))
  clear b1
  clear D1 cB
  have wn : (Lit.int .i64 n).wf = true := wf7 hn0 (by omega)
  obtain ⟨T, hT⟩ : ∃ T, decide (1 ≤ n ∧ n ≤ 6) = T := ⟨_, rfl⟩
  obtain ⟨a1, b1, hM1⟩ := ch_there (q := fun m => meanL (allO m) (isT tellChanceSorts)) hT
  have M1 := Go.Lib.hid (implChanceSorts n a1 b1 T hM1 wn)
  have M2 := Go.Lib.hid (specChanceSorts n a1 b1 T hM1 wn)
  have HM1 := Go.Lib.hid hM1
  clear hM1
  go_wp2_with fail
  refine (M1.out _).mono ?_
  rintro e W2 ⟨rfl, b2⟩
  have HW2 := Go.Lib.hid (And.intro (Below.trans (HW1.out.1) ((b2).mono (Below.size (HW1.out.1)))) (Sees.grow (HW1.out.2) b2))
  clear b2
  have hB2 : Below W2.heap.size W2 (W2.alloc (.cells #[.int .i64 (a1 : Int), .int .i64 (b1 : Int)] 25)) := (Below.refl _ _).alloc (Nat.le_refl _) _
  have hA2 := arr2_alloc W2 (.int .i64 (a1 : Int)) (.int .i64 (b1 : Int))
  have HWa3 := Go.Lib.hid (And.intro (Below.trans (HW2.out.1) ((hB2).mono (Below.size (HW2.out.1)))) (And.intro (Sees.grow (HW2.out.2) hB2) hA2))
  clear hA2 hB2 HW2
  go_wp2_with fail
  obtain ⟨Va3, hVa3⟩ : ∃ V, W2.alloc (.cells #[.int .i64 (a1 : Int), .int .i64 (b1 : Int)] 25) = V := ⟨_, rfl⟩
  rw [hVa3] at HWa3 ⊢
  clear hVa3
  obtain ⟨gx1, hgx1⟩ : ∃ g, W2.heap.size = g := ⟨_, rfl⟩
  rw [hgx1] at HWa3 ⊢
  clear hgx1
  refine (M2.out _).mono ?_
  rintro e W4 ⟨rfl, b4⟩
  have HW4 := Go.Lib.hid (And.intro (Below.trans (HWa3.out.1) ((b4).mono (Below.size (HWa3.out.1)))) (And.intro (Sees.grow (HWa3.out.2.1) b4) (arr2_call (HWa3.out.2.2) b4)))
  clear b4
  have hB4 : Below W4.heap.size W4 (W4.alloc (.cells #[.int .i64 (a1 : Int), .int .i64 (b1 : Int)] 25)) := (Below.refl _ _).alloc (Nat.le_refl _) _
  have hA4 := arr2_alloc W4 (.int .i64 (a1 : Int)) (.int .i64 (b1 : Int))
  have HWa5 := Go.Lib.hid (And.intro (Below.trans (HW4.out.1) ((hB4).mono (Below.size (HW4.out.1)))) (And.intro (Sees.grow (HW4.out.2.1) hB4) (And.intro (arr2_call (HW4.out.2.2) hB4) hA4)))
  clear hA4 hB4 HW4
  clear M1 M2
  obtain ⟨a2, b2, hM2⟩ := ch_there (q := fun m => meanL (allO m) tellMeanRuns) hT
  have M1 := Go.Lib.hid (implMeanRuns (fun m h1 h6 zs hz => BdMeanRuns.bound h1 h6 hz) n a2 b2 T hM2 wn)
  have M2 := Go.Lib.hid (specMeanRuns (fun m h1 h6 zs hz => BdMeanRuns.bound h1 h6 hz) n a2 b2 T hM2 wn)
  have HM2 := Go.Lib.hid hM2
  clear hM2
  go_wp2_with fail
  obtain ⟨Va5, hVa5⟩ : ∃ V, W4.alloc (.cells #[.int .i64 (a1 : Int), .int .i64 (b1 : Int)] 25) = V := ⟨_, rfl⟩
  rw [hVa5] at HWa5 ⊢
  clear hVa5
  obtain ⟨gx2, hgx2⟩ : ∃ g, W4.heap.size = g := ⟨_, rfl⟩
  rw [hgx2] at HWa5 ⊢
  clear hgx2
  refine (M1.out _).mono ?_
  rintro e W6 ⟨rfl, b6⟩
  have HW6 := Go.Lib.hid (And.intro (Below.trans (HWa5.out.1) ((b6).mono (Below.size (HWa5.out.1)))) (And.intro (Sees.grow (HWa5.out.2.1) b6) (And.intro (arr2_call (HWa5.out.2.2.1) b6) (arr2_call (HWa5.out.2.2.2) b6))))
  clear b6
  have hB6 : Below W6.heap.size W6 (W6.alloc (.cells #[.int .i64 (a2 : Int), .int .i64 (b2 : Int)] 25)) := (Below.refl _ _).alloc (Nat.le_refl _) _
  have hA6 := arr2_alloc W6 (.int .i64 (a2 : Int)) (.int .i64 (b2 : Int))
  have HWa7 := Go.Lib.hid (And.intro (Below.trans (HW6.out.1) ((hB6).mono (Below.size (HW6.out.1)))) (And.intro (Sees.grow (HW6.out.2.1) hB6) (And.intro (arr2_call (HW6.out.2.2.1) hB6) (And.intro (arr2_call (HW6.out.2.2.2) hB6) hA6))))
  clear hA6 hB6 HW6
  go_wp2_with fail
  obtain ⟨Va7, hVa7⟩ : ∃ V, W6.alloc (.cells #[.int .i64 (a2 : Int), .int .i64 (b2 : Int)] 25) = V := ⟨_, rfl⟩
  rw [hVa7] at HWa7 ⊢
  clear hVa7
  obtain ⟨gx3, hgx3⟩ : ∃ g, W6.heap.size = g := ⟨_, rfl⟩
  rw [hgx3] at HWa7 ⊢
  clear hgx3
  refine (M2.out _).mono ?_
  rintro e W8 ⟨rfl, b8⟩
  have HW8 := Go.Lib.hid (And.intro (Below.trans (HWa7.out.1) ((b8).mono (Below.size (HWa7.out.1)))) (And.intro (Sees.grow (HWa7.out.2.1) b8) (And.intro (arr2_call (HWa7.out.2.2.1) b8) (And.intro (arr2_call (HWa7.out.2.2.2.1) b8) (arr2_call (HWa7.out.2.2.2.2) b8)))))
  clear b8
  have hB8 : Below W8.heap.size W8 (W8.alloc (.cells #[.int .i64 (a2 : Int), .int .i64 (b2 : Int)] 25)) := (Below.refl _ _).alloc (Nat.le_refl _) _
  have hA8 := arr2_alloc W8 (.int .i64 (a2 : Int)) (.int .i64 (b2 : Int))
  have HWa9 := Go.Lib.hid (And.intro (Below.trans (HW8.out.1) ((hB8).mono (Below.size (HW8.out.1)))) (And.intro (Sees.grow (HW8.out.2.1) hB8) (And.intro (arr2_call (HW8.out.2.2.1) hB8) (And.intro (arr2_call (HW8.out.2.2.2.1) hB8) (And.intro (arr2_call (HW8.out.2.2.2.2) hB8) hA8)))))
  clear hA8 hB8 HW8
  clear M1 M2
  obtain ⟨a3, b3, hM3⟩ := ch_there (q := fun m => meanL (allO m) tellMeanRise) hT
  have M1 := Go.Lib.hid (implMeanRise (fun m h1 h6 zs hz => BdMeanRise.bound h1 h6 hz) n a3 b3 T hM3 wn)
  have M2 := Go.Lib.hid (specMeanRise (fun m h1 h6 zs hz => BdMeanRise.bound h1 h6 hz) n a3 b3 T hM3 wn)
  have HM3 := Go.Lib.hid hM3
  clear hM3
  go_wp2_with fail
  obtain ⟨Va9, hVa9⟩ : ∃ V, W8.alloc (.cells #[.int .i64 (a2 : Int), .int .i64 (b2 : Int)] 25) = V := ⟨_, rfl⟩
  rw [hVa9] at HWa9 ⊢
  clear hVa9
  obtain ⟨gx4, hgx4⟩ : ∃ g, W8.heap.size = g := ⟨_, rfl⟩
  rw [hgx4] at HWa9 ⊢
  clear hgx4
  refine (M1.out _).mono ?_
  rintro e W10 ⟨rfl, b10⟩
  have HW10 := Go.Lib.hid (And.intro (Below.trans (HWa9.out.1) ((b10).mono (Below.size (HWa9.out.1)))) (And.intro (Sees.grow (HWa9.out.2.1) b10) (And.intro (arr2_call (HWa9.out.2.2.1) b10) (And.intro (arr2_call (HWa9.out.2.2.2.1) b10) (And.intro (arr2_call (HWa9.out.2.2.2.2.1) b10) (arr2_call (HWa9.out.2.2.2.2.2) b10))))))
  clear b10
  have hB10 : Below W10.heap.size W10 (W10.alloc (.cells #[.int .i64 (a3 : Int), .int .i64 (b3 : Int)] 25)) := (Below.refl _ _).alloc (Nat.le_refl _) _
  have hA10 := arr2_alloc W10 (.int .i64 (a3 : Int)) (.int .i64 (b3 : Int))
  have HWa11 := Go.Lib.hid (And.intro (Below.trans (HW10.out.1) ((hB10).mono (Below.size (HW10.out.1)))) (And.intro (Sees.grow (HW10.out.2.1) hB10) (And.intro (arr2_call (HW10.out.2.2.1) hB10) (And.intro (arr2_call (HW10.out.2.2.2.1) hB10) (And.intro (arr2_call (HW10.out.2.2.2.2.1) hB10) (And.intro (arr2_call (HW10.out.2.2.2.2.2) hB10) hA10))))))
  clear hA10 hB10 HW10
  go_wp2_with fail
  obtain ⟨Va11, hVa11⟩ : ∃ V, W10.alloc (.cells #[.int .i64 (a3 : Int), .int .i64 (b3 : Int)] 25) = V := ⟨_, rfl⟩
  rw [hVa11] at HWa11 ⊢
  clear hVa11
  obtain ⟨gx5, hgx5⟩ : ∃ g, W10.heap.size = g := ⟨_, rfl⟩
  rw [hgx5] at HWa11 ⊢
  clear hgx5
  refine (M2.out _).mono ?_
  rintro e W12 ⟨rfl, b12⟩
  have HW12 := Go.Lib.hid (And.intro (Below.trans (HWa11.out.1) ((b12).mono (Below.size (HWa11.out.1)))) (And.intro (Sees.grow (HWa11.out.2.1) b12) (And.intro (arr2_call (HWa11.out.2.2.1) b12) (And.intro (arr2_call (HWa11.out.2.2.2.1) b12) (And.intro (arr2_call (HWa11.out.2.2.2.2.1) b12) (And.intro (arr2_call (HWa11.out.2.2.2.2.2.1) b12) (arr2_call (HWa11.out.2.2.2.2.2.2) b12)))))))
  clear b12
  have hB12 : Below W12.heap.size W12 (W12.alloc (.cells #[.int .i64 (a3 : Int), .int .i64 (b3 : Int)] 25)) := (Below.refl _ _).alloc (Nat.le_refl _) _
  have hA12 := arr2_alloc W12 (.int .i64 (a3 : Int)) (.int .i64 (b3 : Int))
  have HWa13 := Go.Lib.hid (And.intro (Below.trans (HW12.out.1) ((hB12).mono (Below.size (HW12.out.1)))) (And.intro (Sees.grow (HW12.out.2.1) hB12) (And.intro (arr2_call (HW12.out.2.2.1) hB12) (And.intro (arr2_call (HW12.out.2.2.2.1) hB12) (And.intro (arr2_call (HW12.out.2.2.2.2.1) hB12) (And.intro (arr2_call (HW12.out.2.2.2.2.2.1) hB12) (And.intro (arr2_call (HW12.out.2.2.2.2.2.2) hB12) hA12)))))))
  clear hA12 hB12 HW12
  clear M1 M2
  obtain ⟨a4, b4, hM4⟩ := ch_there (q := fun m => meanL (allO m) tellMeanInversions) hT
  have M1 := Go.Lib.hid (implMeanInversions (fun m h1 h6 zs hz => BdMeanInversions.bound h1 h6 hz) n a4 b4 T hM4 wn)
  have M2 := Go.Lib.hid (specMeanInversions (fun m h1 h6 zs hz => BdMeanInversions.bound h1 h6 hz) n a4 b4 T hM4 wn)
  have HM4 := Go.Lib.hid hM4
  clear hM4
  go_wp2_with fail
  obtain ⟨Va13, hVa13⟩ : ∃ V, W12.alloc (.cells #[.int .i64 (a3 : Int), .int .i64 (b3 : Int)] 25) = V := ⟨_, rfl⟩
  rw [hVa13] at HWa13 ⊢
  clear hVa13
  obtain ⟨gx6, hgx6⟩ : ∃ g, W12.heap.size = g := ⟨_, rfl⟩
  rw [hgx6] at HWa13 ⊢
  clear hgx6
  refine (M1.out _).mono ?_
  rintro e W14 ⟨rfl, b14⟩
  have HW14 := Go.Lib.hid (And.intro (Below.trans (HWa13.out.1) ((b14).mono (Below.size (HWa13.out.1)))) (And.intro (Sees.grow (HWa13.out.2.1) b14) (And.intro (arr2_call (HWa13.out.2.2.1) b14) (And.intro (arr2_call (HWa13.out.2.2.2.1) b14) (And.intro (arr2_call (HWa13.out.2.2.2.2.1) b14) (And.intro (arr2_call (HWa13.out.2.2.2.2.2.1) b14) (And.intro (arr2_call (HWa13.out.2.2.2.2.2.2.1) b14) (arr2_call (HWa13.out.2.2.2.2.2.2.2) b14))))))))
  clear b14
  have hB14 : Below W14.heap.size W14 (W14.alloc (.cells #[.int .i64 (a4 : Int), .int .i64 (b4 : Int)] 25)) := (Below.refl _ _).alloc (Nat.le_refl _) _
  have hA14 := arr2_alloc W14 (.int .i64 (a4 : Int)) (.int .i64 (b4 : Int))
  have HWa15 := Go.Lib.hid (And.intro (Below.trans (HW14.out.1) ((hB14).mono (Below.size (HW14.out.1)))) (And.intro (Sees.grow (HW14.out.2.1) hB14) (And.intro (arr2_call (HW14.out.2.2.1) hB14) (And.intro (arr2_call (HW14.out.2.2.2.1) hB14) (And.intro (arr2_call (HW14.out.2.2.2.2.1) hB14) (And.intro (arr2_call (HW14.out.2.2.2.2.2.1) hB14) (And.intro (arr2_call (HW14.out.2.2.2.2.2.2.1) hB14) (And.intro (arr2_call (HW14.out.2.2.2.2.2.2.2) hB14) hA14))))))))
  clear hA14 hB14 HW14
  go_wp2_with fail
  obtain ⟨Va15, hVa15⟩ : ∃ V, W14.alloc (.cells #[.int .i64 (a4 : Int), .int .i64 (b4 : Int)] 25) = V := ⟨_, rfl⟩
  rw [hVa15] at HWa15 ⊢
  clear hVa15
  obtain ⟨gx7, hgx7⟩ : ∃ g, W14.heap.size = g := ⟨_, rfl⟩
  rw [hgx7] at HWa15 ⊢
  clear hgx7
  refine (M2.out _).mono ?_
  rintro e W16 ⟨rfl, b16⟩
  have HW16 := Go.Lib.hid (And.intro (Below.trans (HWa15.out.1) ((b16).mono (Below.size (HWa15.out.1)))) (And.intro (Sees.grow (HWa15.out.2.1) b16) (And.intro (arr2_call (HWa15.out.2.2.1) b16) (And.intro (arr2_call (HWa15.out.2.2.2.1) b16) (And.intro (arr2_call (HWa15.out.2.2.2.2.1) b16) (And.intro (arr2_call (HWa15.out.2.2.2.2.2.1) b16) (And.intro (arr2_call (HWa15.out.2.2.2.2.2.2.1) b16) (And.intro (arr2_call (HWa15.out.2.2.2.2.2.2.2.1) b16) (arr2_call (HWa15.out.2.2.2.2.2.2.2.2) b16)))))))))
  clear b16
  have hB16 : Below W16.heap.size W16 (W16.alloc (.cells #[.int .i64 (a4 : Int), .int .i64 (b4 : Int)] 25)) := (Below.refl _ _).alloc (Nat.le_refl _) _
  have hA16 := arr2_alloc W16 (.int .i64 (a4 : Int)) (.int .i64 (b4 : Int))
  have HWa17 := Go.Lib.hid (And.intro (Below.trans (HW16.out.1) ((hB16).mono (Below.size (HW16.out.1)))) (And.intro (Sees.grow (HW16.out.2.1) hB16) (And.intro (arr2_call (HW16.out.2.2.1) hB16) (And.intro (arr2_call (HW16.out.2.2.2.1) hB16) (And.intro (arr2_call (HW16.out.2.2.2.2.1) hB16) (And.intro (arr2_call (HW16.out.2.2.2.2.2.1) hB16) (And.intro (arr2_call (HW16.out.2.2.2.2.2.2.1) hB16) (And.intro (arr2_call (HW16.out.2.2.2.2.2.2.2.1) hB16) (And.intro (arr2_call (HW16.out.2.2.2.2.2.2.2.2) hB16) hA16)))))))))
  clear hA16 hB16 HW16
  clear M1 M2
  go_wp2_with fail
  obtain ⟨Va17, hVa17⟩ : ∃ V, W16.alloc (.cells #[.int .i64 (a4 : Int), .int .i64 (b4 : Int)] 25) = V := ⟨_, rfl⟩
  rw [hVa17] at HWa17 ⊢
  clear hVa17
  obtain ⟨gx8, hgx8⟩ : ∃ g, W16.heap.size = g := ⟨_, rfl⟩
  rw [hgx8] at HWa17 ⊢
  clear hgx8
  refine (K1.out _ (HWa17.out.2.1)).mono ?_
  rintro e W18 ⟨u18, rfl, o18, b18⟩
  have HW18 := Go.Lib.hid (And.intro (Below.trans (HWa17.out.1) ((b18).mono (Below.size (HWa17.out.1)))) (And.intro (Sees.grow (HWa17.out.2.1) b18) (And.intro (arr2_call (HWa17.out.2.2.1) b18) (And.intro (arr2_call (HWa17.out.2.2.2.1) b18) (And.intro (arr2_call (HWa17.out.2.2.2.2.1) b18) (And.intro (arr2_call (HWa17.out.2.2.2.2.2.1) b18) (And.intro (arr2_call (HWa17.out.2.2.2.2.2.2.1) b18) (And.intro (arr2_call (HWa17.out.2.2.2.2.2.2.2.1) b18) (And.intro (arr2_call (HWa17.out.2.2.2.2.2.2.2.2.1) b18) (And.intro (arr2_call (HWa17.out.2.2.2.2.2.2.2.2.2) b18) (own_lower (o18) (Below.size (HWa17.out.1)))))))))))))
  clear o18 b18
  go_wp2_with fail
  refine (D2.out _ _ (Sees.owns (HW18.out.2.2.2.2.2.2.2.2.2.2))).mono ?_
  rintro e W19 ⟨m, k, rfl, hm0, hm7, hk0, hk7, b19⟩
  have HW19 := Go.Lib.hid (And.intro (Below.trans (HW18.out.1) ((b19).mono (Below.size (HW18.out.1)))) (And.intro (Sees.grow (HW18.out.2.1) b19) (And.intro (arr2_call (HW18.out.2.2.1) b19) (And.intro (arr2_call (HW18.out.2.2.2.1) b19) (And.intro (arr2_call (HW18.out.2.2.2.2.1) b19) (And.intro (arr2_call (HW18.out.2.2.2.2.2.1) b19) (And.intro (arr2_call (HW18.out.2.2.2.2.2.2.1) b19) (And.intro (arr2_call (HW18.out.2.2.2.2.2.2.2.1) b19) (And.intro (arr2_call (HW18.out.2.2.2.2.2.2.2.2.1) b19) (And.intro (arr2_call (HW18.out.2.2.2.2.2.2.2.2.2.1) b19) (kept_call (HW18.out.2.2.2.2.2.2.2.2.2.2) b19)))))))))))
  clear b19
  have HWd20 := Go.Lib.hid (And.intro HW19.out.1 (And.intro HW19.out.2.1 (And.intro HW19.out.2.2.1 (And.intro HW19.out.2.2.2.1 (And.intro HW19.out.2.2.2.2.1 (And.intro HW19.out.2.2.2.2.2.1 (And.intro HW19.out.2.2.2.2.2.2.1 (And.intro HW19.out.2.2.2.2.2.2.2.1 (And.intro HW19.out.2.2.2.2.2.2.2.2.1 HW19.out.2.2.2.2.2.2.2.2.2.1)))))))))
  clear HW19
  clear K1 D2
  have wm : (Lit.int .i64 m).wf = true := wf7 hm0 (by omega)
  have wk : (Lit.int .i64 k).wf = true := wf7 hk0 (by omega)
  obtain ⟨⟨a5, b5, two⟩, hQ⟩ : ∃ p, ansChanceQueues m k = p := ⟨_, rfl⟩
  have Q1 := Go.Lib.hid (implChanceQueues m k a5 b5 two hQ wm wk)
  have Q2 := Go.Lib.hid (specChanceQueues m k a5 b5 two hQ wm wk)
  clear hQ
  go_wp2_with fail
  refine (Q1.out _).mono ?_
  rintro e W21 ⟨rfl, b21⟩
  have HW21 := Go.Lib.hid (And.intro (Below.trans (HWd20.out.1) ((b21).mono (Below.size (HWd20.out.1)))) (And.intro (Sees.grow (HWd20.out.2.1) b21) (And.intro (arr2_call (HWd20.out.2.2.1) b21) (And.intro (arr2_call (HWd20.out.2.2.2.1) b21) (And.intro (arr2_call (HWd20.out.2.2.2.2.1) b21) (And.intro (arr2_call (HWd20.out.2.2.2.2.2.1) b21) (And.intro (arr2_call (HWd20.out.2.2.2.2.2.2.1) b21) (And.intro (arr2_call (HWd20.out.2.2.2.2.2.2.2.1) b21) (And.intro (arr2_call (HWd20.out.2.2.2.2.2.2.2.2.1) b21) (arr2_call (HWd20.out.2.2.2.2.2.2.2.2.2) b21))))))))))
  clear b21
  have hB21 : Below W21.heap.size W21 (W21.alloc (.cells #[.int .i64 (a5 : Int), .int .i64 (b5 : Int)] 25)) := (Below.refl _ _).alloc (Nat.le_refl _) _
  have hA21 := arr2_alloc W21 (.int .i64 (a5 : Int)) (.int .i64 (b5 : Int))
  have HWa22 := Go.Lib.hid (And.intro (Below.trans (HW21.out.1) ((hB21).mono (Below.size (HW21.out.1)))) (And.intro (Sees.grow (HW21.out.2.1) hB21) (And.intro (arr2_call (HW21.out.2.2.1) hB21) (And.intro (arr2_call (HW21.out.2.2.2.1) hB21) (And.intro (arr2_call (HW21.out.2.2.2.2.1) hB21) (And.intro (arr2_call (HW21.out.2.2.2.2.2.1) hB21) (And.intro (arr2_call (HW21.out.2.2.2.2.2.2.1) hB21) (And.intro (arr2_call (HW21.out.2.2.2.2.2.2.2.1) hB21) (And.intro (arr2_call (HW21.out.2.2.2.2.2.2.2.2.1) hB21) (And.intro (arr2_call (HW21.out.2.2.2.2.2.2.2.2.2) hB21) hA21))))))))))
  clear hA21 hB21 HW21
  go_wp2_with fail
  obtain ⟨Va22, hVa22⟩ : ∃ V, W21.alloc (.cells #[.int .i64 (a5 : Int), .int .i64 (b5 : Int)] 25) = V := ⟨_, rfl⟩
  rw [hVa22] at HWa22 ⊢
  clear hVa22
  obtain ⟨gx9, hgx9⟩ : ∃ g, W21.heap.size = g := ⟨_, rfl⟩
  rw [hgx9] at HWa22 ⊢
  clear hgx9
  refine (Q2.out _).mono ?_
  rintro e W23 ⟨rfl, b23⟩
  have HW23 := Go.Lib.hid (And.intro (Below.trans (HWa22.out.1) ((b23).mono (Below.size (HWa22.out.1)))) (And.intro (Sees.grow (HWa22.out.2.1) b23) (And.intro (arr2_call (HWa22.out.2.2.1) b23) (And.intro (arr2_call (HWa22.out.2.2.2.1) b23) (And.intro (arr2_call (HWa22.out.2.2.2.2.1) b23) (And.intro (arr2_call (HWa22.out.2.2.2.2.2.1) b23) (And.intro (arr2_call (HWa22.out.2.2.2.2.2.2.1) b23) (And.intro (arr2_call (HWa22.out.2.2.2.2.2.2.2.1) b23) (And.intro (arr2_call (HWa22.out.2.2.2.2.2.2.2.2.1) b23) (And.intro (arr2_call (HWa22.out.2.2.2.2.2.2.2.2.2.1) b23) (arr2_call (HWa22.out.2.2.2.2.2.2.2.2.2.2) b23)))))))))))
  clear b23
  have hB23 : Below W23.heap.size W23 (W23.alloc (.cells #[.int .i64 (a5 : Int), .int .i64 (b5 : Int)] 25)) := (Below.refl _ _).alloc (Nat.le_refl _) _
  have hA23 := arr2_alloc W23 (.int .i64 (a5 : Int)) (.int .i64 (b5 : Int))
  have HWa24 := Go.Lib.hid (And.intro (Below.trans (HW23.out.1) ((hB23).mono (Below.size (HW23.out.1)))) (And.intro (Sees.grow (HW23.out.2.1) hB23) (And.intro (arr2_call (HW23.out.2.2.1) hB23) (And.intro (arr2_call (HW23.out.2.2.2.1) hB23) (And.intro (arr2_call (HW23.out.2.2.2.2.1) hB23) (And.intro (arr2_call (HW23.out.2.2.2.2.2.1) hB23) (And.intro (arr2_call (HW23.out.2.2.2.2.2.2.1) hB23) (And.intro (arr2_call (HW23.out.2.2.2.2.2.2.2.1) hB23) (And.intro (arr2_call (HW23.out.2.2.2.2.2.2.2.2.1) hB23) (And.intro (arr2_call (HW23.out.2.2.2.2.2.2.2.2.2.1) hB23) (And.intro (arr2_call (HW23.out.2.2.2.2.2.2.2.2.2.2) hB23) hA23)))))))))))
  clear hA23 hB23 HW23
  clear Q1 Q2
  go_wp2_with fail
  obtain ⟨Va24, hVa24⟩ : ∃ V, W23.alloc (.cells #[.int .i64 (a5 : Int), .int .i64 (b5 : Int)] 25) = V := ⟨_, rfl⟩
  rw [hVa24] at HWa24 ⊢
  clear hVa24
  obtain ⟨gx10, hgx10⟩ : ∃ g, W23.heap.size = g := ⟨_, rfl⟩
  rw [hgx10] at HWa24 ⊢
  clear hgx10
  refine (K2.out _ (HWa24.out.2.1)).mono ?_
  rintro e W25 ⟨u25, rfl, o25, b25⟩
  have HW25 := Go.Lib.hid (And.intro (Below.trans (HWa24.out.1) ((b25).mono (Below.size (HWa24.out.1)))) (And.intro (Sees.grow (HWa24.out.2.1) b25) (And.intro (arr2_call (HWa24.out.2.2.1) b25) (And.intro (arr2_call (HWa24.out.2.2.2.1) b25) (And.intro (arr2_call (HWa24.out.2.2.2.2.1) b25) (And.intro (arr2_call (HWa24.out.2.2.2.2.2.1) b25) (And.intro (arr2_call (HWa24.out.2.2.2.2.2.2.1) b25) (And.intro (arr2_call (HWa24.out.2.2.2.2.2.2.2.1) b25) (And.intro (arr2_call (HWa24.out.2.2.2.2.2.2.2.2.1) b25) (And.intro (arr2_call (HWa24.out.2.2.2.2.2.2.2.2.2.1) b25) (And.intro (arr2_call (HWa24.out.2.2.2.2.2.2.2.2.2.2.1) b25) (And.intro (arr2_call (HWa24.out.2.2.2.2.2.2.2.2.2.2.2) b25) (own_lower (o25) (Below.size (HWa24.out.1)))))))))))))))
  clear o25 b25
  go_wp2_with fail
  refine (D3.out _ _ (Sees.owns (HW25.out.2.2.2.2.2.2.2.2.2.2.2.2))).mono ?_
  rintro e W26 ⟨x, gP, cP, NP, L, rfl, hx0, hx7, hLN, hN5, hL8, r26, b26⟩
  have HW26 := Go.Lib.hid (And.intro (Below.trans (HW25.out.1) ((b26).mono (Below.size (HW25.out.1)))) (And.intro (Sees.grow (HW25.out.2.1) b26) (And.intro (arr2_call (HW25.out.2.2.1) b26) (And.intro (arr2_call (HW25.out.2.2.2.1) b26) (And.intro (arr2_call (HW25.out.2.2.2.2.1) b26) (And.intro (arr2_call (HW25.out.2.2.2.2.2.1) b26) (And.intro (arr2_call (HW25.out.2.2.2.2.2.2.1) b26) (And.intro (arr2_call (HW25.out.2.2.2.2.2.2.2.1) b26) (And.intro (arr2_call (HW25.out.2.2.2.2.2.2.2.2.1) b26) (And.intro (arr2_call (HW25.out.2.2.2.2.2.2.2.2.2.1) b26) (And.intro (arr2_call (HW25.out.2.2.2.2.2.2.2.2.2.2.1) b26) (And.intro (arr2_call (HW25.out.2.2.2.2.2.2.2.2.2.2.2.1) b26) (And.intro (kept_call (HW25.out.2.2.2.2.2.2.2.2.2.2.2.2) b26) (Rag.lower (r26) (Below.size (HW25.out.1))))))))))))))))
  clear r26 b26
  have HWd27 := Go.Lib.hid (And.intro HW26.out.1 (And.intro HW26.out.2.2.1 (And.intro HW26.out.2.2.2.1 (And.intro HW26.out.2.2.2.2.1 (And.intro HW26.out.2.2.2.2.2.1 (And.intro HW26.out.2.2.2.2.2.2.1 (And.intro HW26.out.2.2.2.2.2.2.2.1 (And.intro HW26.out.2.2.2.2.2.2.2.2.1 (And.intro HW26.out.2.2.2.2.2.2.2.2.2.1 (And.intro HW26.out.2.2.2.2.2.2.2.2.2.2.1 (And.intro HW26.out.2.2.2.2.2.2.2.2.2.2.2.1 HW26.out.2.2.2.2.2.2.2.2.2.2.2.2.2)))))))))))
  clear HW26
  clear K2 D3
  have wx : (Lit.int .i64 x).wf = true := wf7 hx0 (by omega)
  have hz2 : L.length + tot L ≤ 1048576 := small_pats (by omega) hL8
  obtain ⟨⟨a6, b6, three⟩, hV⟩ : ∃ p, ansChanceAvoids x L = p := ⟨_, rfl⟩
  have V1 := Go.Lib.hid (implChanceAvoids x L a6 b6 three hV wx hz2)
  have V2 := Go.Lib.hid (specChanceAvoids x L a6 b6 three hV wx hz2)
  have HVF := Go.Lib.hid hV
  have HZ2 := Go.Lib.hid hz2
  clear hV hz2 hL8
  go_wp2_with fail
  refine (V1.out _ _ (Rag.sees (HWd27.out.2.2.2.2.2.2.2.2.2.2.2))).mono ?_
  rintro e W28 ⟨rfl, b28⟩
  have HW28 := Go.Lib.hid (And.intro (Below.trans (HWd27.out.1) ((b28).mono (Below.size (HWd27.out.1)))) (And.intro (arr2_call (HWd27.out.2.1) b28) (And.intro (arr2_call (HWd27.out.2.2.1) b28) (And.intro (arr2_call (HWd27.out.2.2.2.1) b28) (And.intro (arr2_call (HWd27.out.2.2.2.2.1) b28) (And.intro (arr2_call (HWd27.out.2.2.2.2.2.1) b28) (And.intro (arr2_call (HWd27.out.2.2.2.2.2.2.1) b28) (And.intro (arr2_call (HWd27.out.2.2.2.2.2.2.2.1) b28) (And.intro (arr2_call (HWd27.out.2.2.2.2.2.2.2.2.1) b28) (And.intro (arr2_call (HWd27.out.2.2.2.2.2.2.2.2.2.1) b28) (And.intro (arr2_call (HWd27.out.2.2.2.2.2.2.2.2.2.2.1) b28) (Rag.kept (HWd27.out.2.2.2.2.2.2.2.2.2.2.2) b28))))))))))))
  clear b28
  have hB28 : Below W28.heap.size W28 (W28.alloc (.cells #[.int .i64 (a6 : Int), .int .i64 (b6 : Int)] 25)) := (Below.refl _ _).alloc (Nat.le_refl _) _
  have hA28 := arr2_alloc W28 (.int .i64 (a6 : Int)) (.int .i64 (b6 : Int))
  have HWa29 := Go.Lib.hid (And.intro (Below.trans (HW28.out.1) ((hB28).mono (Below.size (HW28.out.1)))) (And.intro (arr2_call (HW28.out.2.1) hB28) (And.intro (arr2_call (HW28.out.2.2.1) hB28) (And.intro (arr2_call (HW28.out.2.2.2.1) hB28) (And.intro (arr2_call (HW28.out.2.2.2.2.1) hB28) (And.intro (arr2_call (HW28.out.2.2.2.2.2.1) hB28) (And.intro (arr2_call (HW28.out.2.2.2.2.2.2.1) hB28) (And.intro (arr2_call (HW28.out.2.2.2.2.2.2.2.1) hB28) (And.intro (arr2_call (HW28.out.2.2.2.2.2.2.2.2.1) hB28) (And.intro (arr2_call (HW28.out.2.2.2.2.2.2.2.2.2.1) hB28) (And.intro (arr2_call (HW28.out.2.2.2.2.2.2.2.2.2.2.1) hB28) (And.intro (Rag.kept (HW28.out.2.2.2.2.2.2.2.2.2.2.2) hB28) hA28))))))))))))
  clear hA28 hB28 HW28
  go_wp2_with fail
  obtain ⟨Va29, hVa29⟩ : ∃ V, W28.alloc (.cells #[.int .i64 (a6 : Int), .int .i64 (b6 : Int)] 25) = V := ⟨_, rfl⟩
  rw [hVa29] at HWa29 ⊢
  clear hVa29
  obtain ⟨gx11, hgx11⟩ : ∃ g, W28.heap.size = g := ⟨_, rfl⟩
  rw [hgx11] at HWa29 ⊢
  clear hgx11
  refine (V2.out _ _ (Rag.sees (HWa29.out.2.2.2.2.2.2.2.2.2.2.2.1))).mono ?_
  rintro e W30 ⟨rfl, b30⟩
  have HW30 := Go.Lib.hid (And.intro (Below.trans (HWa29.out.1) ((b30).mono (Below.size (HWa29.out.1)))) (And.intro (arr2_call (HWa29.out.2.1) b30) (And.intro (arr2_call (HWa29.out.2.2.1) b30) (And.intro (arr2_call (HWa29.out.2.2.2.1) b30) (And.intro (arr2_call (HWa29.out.2.2.2.2.1) b30) (And.intro (arr2_call (HWa29.out.2.2.2.2.2.1) b30) (And.intro (arr2_call (HWa29.out.2.2.2.2.2.2.1) b30) (And.intro (arr2_call (HWa29.out.2.2.2.2.2.2.2.1) b30) (And.intro (arr2_call (HWa29.out.2.2.2.2.2.2.2.2.1) b30) (And.intro (arr2_call (HWa29.out.2.2.2.2.2.2.2.2.2.1) b30) (And.intro (arr2_call (HWa29.out.2.2.2.2.2.2.2.2.2.2.1) b30) (And.intro (Rag.kept (HWa29.out.2.2.2.2.2.2.2.2.2.2.2.1) b30) (arr2_call (HWa29.out.2.2.2.2.2.2.2.2.2.2.2.2) b30)))))))))))))
  clear b30
  have hB30 : Below W30.heap.size W30 (W30.alloc (.cells #[.int .i64 (a6 : Int), .int .i64 (b6 : Int)] 25)) := (Below.refl _ _).alloc (Nat.le_refl _) _
  have hA30 := arr2_alloc W30 (.int .i64 (a6 : Int)) (.int .i64 (b6 : Int))
  have HWa31 := Go.Lib.hid (And.intro (Below.trans (HW30.out.1) ((hB30).mono (Below.size (HW30.out.1)))) (And.intro (arr2_call (HW30.out.2.1) hB30) (And.intro (arr2_call (HW30.out.2.2.1) hB30) (And.intro (arr2_call (HW30.out.2.2.2.1) hB30) (And.intro (arr2_call (HW30.out.2.2.2.2.1) hB30) (And.intro (arr2_call (HW30.out.2.2.2.2.2.1) hB30) (And.intro (arr2_call (HW30.out.2.2.2.2.2.2.1) hB30) (And.intro (arr2_call (HW30.out.2.2.2.2.2.2.2.1) hB30) (And.intro (arr2_call (HW30.out.2.2.2.2.2.2.2.2.1) hB30) (And.intro (arr2_call (HW30.out.2.2.2.2.2.2.2.2.2.1) hB30) (And.intro (arr2_call (HW30.out.2.2.2.2.2.2.2.2.2.2.1) hB30) (And.intro (Rag.kept (HW30.out.2.2.2.2.2.2.2.2.2.2.2.1) hB30) (And.intro (arr2_call (HW30.out.2.2.2.2.2.2.2.2.2.2.2.2) hB30) hA30)))))))))))))
  clear hA30 hB30 HW30
  clear V1 V2
  have hE := fun (a b : Int) (X : World) => eqA2s a b X
  go_upto_region 18 with (fail)
  obtain ⟨Va31, hVa31⟩ : ∃ V, W30.alloc (.cells #[.int .i64 (a6 : Int), .int .i64 (b6 : Int)] 25) = V := ⟨_, rfl⟩
  rw [hVa31] at HWa31 ⊢
  clear hVa31
  obtain ⟨gx12, hgx12⟩ : ∃ g, W30.heap.size = g := ⟨_, rfl⟩
  rw [hgx12] at HWa31 ⊢
  clear hgx12
  go_cut [195] from 43 to 302 (fun s w' => s = .bool false ∧ w' = Va31)
  case first => as_aux_lemma =>
    obtain ⟨cx10, cx11, _, _⟩ := arr2_cells (HWa31.out.2.1)
    obtain ⟨cx20, cx21, _, _⟩ := arr2_cells (HWa31.out.2.2.1)
    obtain ⟨cx30, cx31, _, _⟩ := arr2_cells (HWa31.out.2.2.2.1)
    obtain ⟨cx40, cx41, _, _⟩ := arr2_cells (HWa31.out.2.2.2.2.1)
    obtain ⟨cx50, cx51, _, _⟩ := arr2_cells (HWa31.out.2.2.2.2.2.1)
    obtain ⟨cx60, cx61, _, _⟩ := arr2_cells (HWa31.out.2.2.2.2.2.2.1)
    obtain ⟨cx70, cx71, _, _⟩ := arr2_cells (HWa31.out.2.2.2.2.2.2.2.1)
    obtain ⟨cx80, cx81, _, _⟩ := arr2_cells (HWa31.out.2.2.2.2.2.2.2.2.1)
    obtain ⟨cx90, cx91, _, _⟩ := arr2_cells (HWa31.out.2.2.2.2.2.2.2.2.2.1)
    obtain ⟨cx100, cx101, _, _⟩ := arr2_cells (HWa31.out.2.2.2.2.2.2.2.2.2.2.1)
    obtain ⟨cx110, cx111, _, _⟩ := arr2_cells (HWa31.out.2.2.2.2.2.2.2.2.2.2.2.2.1)
    obtain ⟨cx120, cx121, _, _⟩ := arr2_cells (HWa31.out.2.2.2.2.2.2.2.2.2.2.2.2.2)
    clear HVF HZ2 HM1 HM2 HM3 HM4 hT
    cases T
    case false =>
      go_wp2_with fail
      go_meet
      exact ⟨rfl, rfl⟩
    case true =>
      go_wp2_with fail
      go_meet
      exact ⟨rfl, rfl⟩
  case rest =>
    obtain ⟨rfl, rfl⟩ := hcut
    have HWd32 := Go.Lib.hid (And.intro HWa31.out.1 (And.intro HWa31.out.2.1 (And.intro HWa31.out.2.2.2.1 (And.intro HWa31.out.2.2.2.2.2.1 (And.intro HWa31.out.2.2.2.2.2.2.2.1 (And.intro HWa31.out.2.2.2.2.2.2.2.2.2.2.2.1 HWa31.out.2.2.2.2.2.2.2.2.2.2.2.2.1))))))
    clear HWa31
    go_upto_if 196 with (fail)
    go_cut [] from 32 to 302 (fun w' => Hid (Below wc.heap.size wc w'))
    case first => as_aux_lemma =>
      clear HVF HZ2
      cases T
      case false =>
        clear HM1 HM2 HM3 HM4 hT hE
        go_wp2_with fail
        go_meet
        exact Go.Lib.hid ((Below.refl wc.heap.size wc))
      case true =>
        obtain ⟨n', rfl, hn1, hn6⟩ := there_nat hT
        obtain ⟨hown, ⟨e2, l2⟩, ⟨e4, l4⟩, eR, hrn, hr8, hb1, hb8⟩ := ord_law hn1 hn6 HM1.out HM2.out HM3.out HM4.out
        clear HM1 HM2 HM3 HM4
        obtain ⟨X2, hX2⟩ : ∃ X, 2 * a2 = X := ⟨_, rfl⟩
        obtain ⟨X4, hX4⟩ : ∃ X, 4 * a4 = X := ⟨_, rfl⟩
        obtain ⟨np, hnp⟩ : ∃ k, n' + 1 = k := ⟨_, rfl⟩
        obtain ⟨nm, hnm⟩ : ∃ k, n' - 1 = k := ⟨_, rfl⟩
        obtain ⟨nn, hnn⟩ : ∃ k, n' * nm = k := ⟨_, rfl⟩
        rw [hX2, hnp] at e2
        rw [hX4, hnm, hnn] at e4
        have g1 : np * b2 ≤ 7 * 720 := Nat.mul_le_mul (by omega) l2
        have g2 : nn ≤ 6 * 6 := by rw [← hnn]; exact Nat.mul_le_mul hn6 (by omega)
        have g3 : nn * b4 ≤ 36 * 720 := Nat.mul_le_mul g2 l4
        have i1 : (2 : Int) * (a2 : Int) = (X2 : Int) := by omega
        have i2 : (n' : Int) + 1 = (np : Int) := by omega
        have i3 : (np : Int) * (b2 : Int) = (X2 : Int) := by rw [e2]; simp
        have i4 : (4 : Int) * (a4 : Int) = (X4 : Int) := by omega
        have i5 : (n' : Int) - 1 = (nm : Int) := by omega
        have i6 : (n' : Int) * (nm : Int) = (nn : Int) := by rw [← hnn]; simp
        have i7 : (nn : Int) * (b4 : Int) = (X4 : Int) := by rw [e4]; simp
        have k0 : IntKind.i64.wrap (X2 : Int) = (X2 : Int) := IntWalk.i64_in _ (by omega)
        have k1 : IntKind.i64.wrap (np : Int) = (np : Int) := IntWalk.i64_in _ (by omega)
        have k2 : IntKind.i64.wrap (X4 : Int) = (X4 : Int) := IntWalk.i64_in _ (by omega)
        have k3 : IntKind.i64.wrap (nm : Int) = (nm : Int) := IntWalk.i64_in _ (by omega)
        have k4 : IntKind.i64.wrap (nn : Int) = (nn : Int) := IntWalk.i64_in _ (by omega)
        have U1 := Go.Lib.hid (implChanceAvoids (n' : Int) [[2, 3, 1]] a1 b1 true hown wn (by decide))
        have L2 := Go.Lib.hid (fun (X : World) => vLess_any n' 1 a3 b3 false (by omega) hr8 (by omega) (by omega) hb1 hb8 (decide_eq_false (by omega)) X)
        have HR := Go.Lib.hid (And.intro eR (And.intro hn1 hn6))
        clear hown e2 l2 e4 l4 eR hrn hr8 hb1 hb8 hX2 hX4 hnp hnm hnn g1 g2 g3
        go_wp2_with fail
        refine (U1.out _ _ (lit231 _)).mono ?_
        rintro e W33 ⟨rfl, bb33⟩
        have b33 := two_alloc bb33
        have HW33 := Go.Lib.hid (And.intro (Below.trans (HWd32.out.1) ((b33).mono (Below.size (HWd32.out.1)))) (And.intro (arr2_call (HWd32.out.2.1) b33) (And.intro (arr2_call (HWd32.out.2.2.1) b33) (And.intro (arr2_call (HWd32.out.2.2.2.1) b33) (And.intro (arr2_call (HWd32.out.2.2.2.2.1) b33) (And.intro (Rag.kept (HWd32.out.2.2.2.2.2.1) b33) (arr2_call (HWd32.out.2.2.2.2.2.2) b33)))))))
        have HR33 := Go.Lib.hid (Below.trans ((Below.refl wc.heap.size wc)) ((b33).mono (Below.size ((Below.refl wc.heap.size wc)))))
        clear b33 bb33 U1
        have hB33 : Below W33.heap.size W33 (W33.alloc (.cells #[.int .i64 (a1 : Int), .int .i64 (b1 : Int)] 25)) := (Below.refl _ _).alloc (Nat.le_refl _) _
        have hA33 := arr2_alloc W33 (.int .i64 (a1 : Int)) (.int .i64 (b1 : Int))
        have HWa34 := Go.Lib.hid (And.intro (Below.trans (HW33.out.1) ((hB33).mono (Below.size (HW33.out.1)))) (And.intro (arr2_call (HW33.out.2.1) hB33) (And.intro (arr2_call (HW33.out.2.2.1) hB33) (And.intro (arr2_call (HW33.out.2.2.2.1) hB33) (And.intro (arr2_call (HW33.out.2.2.2.2.1) hB33) (And.intro (Rag.kept (HW33.out.2.2.2.2.2.1) hB33) (And.intro (arr2_call (HW33.out.2.2.2.2.2.2) hB33) hA33)))))))
        have HRa34 := Go.Lib.hid (Below.trans (HR33.out) ((hB33).mono (Below.size (HR33.out))))
        clear hA33 hB33 HW33
        go_upto_region 22 with (fail)
        obtain ⟨Va34, hVa34⟩ : ∃ V, W33.alloc (.cells #[.int .i64 (a1 : Int), .int .i64 (b1 : Int)] 25) = V := ⟨_, rfl⟩
        rw [hVa34] at HWa34 HRa34 ⊢
        clear hVa34
        obtain ⟨gx13, hgx13⟩ : ∃ g, W33.heap.size = g := ⟨_, rfl⟩
        rw [hgx13] at HWa34 ⊢
        clear hgx13
        go_cut [240] from 204 to 302 (fun s w' => s = .bool false ∧ Hid (Below Va34.heap.size Va34 w'))
        case first => as_aux_lemma =>
          obtain ⟨cx130, cx131, _, _⟩ := arr2_cells (HWa34.out.2.2.2.2.2.2.2)
          obtain ⟨cx10, cx11, _, _⟩ := arr2_cells (HWa34.out.2.1)
          obtain ⟨cx30, cx31, _, _⟩ := arr2_cells (HWa34.out.2.2.1)
          obtain ⟨cx70, cx71, _, _⟩ := arr2_cells (HWa34.out.2.2.2.2.1)
          obtain ⟨cx50, cx51, _, _⟩ := arr2_cells (HWa34.out.2.2.2.1)
          go_wp2_with fail
          refine (L2.out _).mono ?_
          rintro e W35 ⟨rfl, b35⟩
          have HW35 := Go.Lib.hid (And.intro (Below.trans (HWa34.out.1) ((b35).mono (Below.size (HWa34.out.1)))) (And.intro (arr2_call (HWa34.out.2.1) b35) (And.intro (arr2_call (HWa34.out.2.2.1) b35) (And.intro (arr2_call (HWa34.out.2.2.2.1) b35) (And.intro (arr2_call (HWa34.out.2.2.2.2.1) b35) (And.intro (Rag.kept (HWa34.out.2.2.2.2.2.1) b35) (And.intro (arr2_call (HWa34.out.2.2.2.2.2.2.1) b35) (arr2_call (HWa34.out.2.2.2.2.2.2.2) b35))))))))
          have HR35 := Go.Lib.hid (Below.trans ((Below.refl Va34.heap.size Va34)) ((b35).mono (Below.size ((Below.refl Va34.heap.size Va34)))))
          clear b35
          clear L2
          go_wp2_with fail
          go_meet
          exact ⟨rfl, Go.Lib.hid (HR35.out)⟩
        case rest =>
          obtain ⟨rfl, hcut2⟩ := hcut
          clear L2 i1 i2 i3 i4 i5 i6 i7 k0 k1 k2 k3 k4
          have bY36 := hcut2.out
          obtain ⟨WY36, hWY36⟩ : ∃ W, wc = W := ⟨_, rfl⟩
          rw [hWY36] at bY36 ⊢
          have HWY36 := Go.Lib.hid (And.intro (Below.trans (HWa34.out.1) (bY36.mono (Below.size (HWa34.out.1)))) (And.intro (arr2_call (HWa34.out.2.2.2.1) bY36) (And.intro (Rag.kept (HWa34.out.2.2.2.2.2.1) bY36) (arr2_call (HWa34.out.2.2.2.2.2.2.1) bY36))))
          have HRY36 := Go.Lib.hid (Below.trans (HRa34.out) ((bY36).mono (Below.size (HRa34.out))))
          clear hWY36 bY36 HWa34 hcut2
          go_upto_region 25 with (fail)
          have hB1 : Below WY36.heap.size WY36 (WY36.alloc (.cells #[.int .i64 0, .int .i64 1] 25)) := (Below.refl _ _).alloc (Nat.le_refl _) _
          have hB2 : Below (WY36.alloc (.cells #[.int .i64 0, .int .i64 1] 25)).heap.size (WY36.alloc (.cells #[.int .i64 0, .int .i64 1] 25)) ((WY36.alloc (.cells #[.int .i64 0, .int .i64 1] 25)).alloc (.cells #[.int .i64 0, .int .i64 1] 25)) := (Below.refl _ _).alloc (Nat.le_refl _) _
          have hS1 := arr2_call (arr2_alloc WY36 (.int .i64 0) (.int .i64 1)) hB2
          have hS2 := own_lower (arr2_alloc (WY36.alloc (.cells #[.int .i64 0, .int .i64 1] 25)) (.int .i64 0) (.int .i64 1)) (Below.size hB1)
          have hne : (WY36.alloc (.cells #[.int .i64 0, .int .i64 1] 25)).heap.size = WY36.heap.size + 1 := by simp
          obtain ⟨gs, hgs⟩ : ∃ g, WY36.heap.size = g := ⟨_, rfl⟩
          obtain ⟨V, hV⟩ : ∃ V, (WY36.alloc (.cells #[.int .i64 0, .int .i64 1] 25)).alloc (.cells #[.int .i64 0, .int .i64 1] 25) = V := ⟨_, rfl⟩
          have hBB : Below WY36.heap.size WY36 V := by rw [← hV]; exact hB1.trans (hB2.mono (Below.size hB1))
          rw [hne] at hS2
          rw [hV] at hS1 hS2
          rw [hgs] at hS1 hS2
          rw [hgs] at hBB
          have HBB := Go.Lib.hid hBB
          have HS0 : Hid (Below V.heap.size V V ∧ Arr2 V gs gs (.int .i64 ((sumTo n' 0).1 : Nat)) (.int .i64 ((sumTo n' 0).2 : Nat)) ∧ Arr2 V gs (gs + 1) (.int .i64 ((meanTo n' 0).1 : Nat)) (.int .i64 ((meanTo n' 0).2 : Nat))) := Go.Lib.hid ⟨Below.refl _ _, hS1, hS2⟩
          have HGS : Hid (gs + 1 < V.heap.size ∧ WY36.heap.size = gs) := Go.Lib.hid ⟨(hS2.lt (gs + 1) rfl).2, hgs⟩
          try rw [hne]
          try rw [hgs]
          try rw [hV]
          clear hS1 hS2 hB1 hB2 hne hgs hV hBB
          obtain ⟨gm, hgm⟩ : ∃ g, gs + 1 = g := ⟨_, rfl⟩
          rw [hgm] at HS0 HGS ⊢
          have HGM := Go.Lib.hid hgm
          clear hgm
          have HPART := Go.Lib.hid (fun (q : Nat) (h1 : 1 ≤ q) (h2 : q ≤ 6) => queues_part hn1 hn6 h1 h2)
          have HGOOD := Go.Lib.hid (good_of hn1 hn6)
          go_wp2_with fail
          go_loopw [36] (fun qv wr => ∃ (q : Nat), q ≤ 6 ∧ qv = .int .i64 ((q : Int) + 1) ∧ Hid (Below V.heap.size V wr ∨ True) ∧ Hid (Below gs V wr ∧ V.heap.size ≤ wr.heap.size ∧ Arr2 wr gs gs (.int .i64 ((sumTo n' q).1 : Nat)) (.int .i64 ((sumTo n' q).2 : Nat)) ∧ Arr2 wr gs gm (.int .i64 ((meanTo n' q).1 : Nat)) (.int .i64 ((meanTo n' q).2 : Nat)))) (fun q _ => 7 - (intOf q).toNat)
          case atStart => exact ⟨0, Nat.zero_le _, by first | rfl | go_num, Go.Lib.hid (.inr trivial), Go.Lib.hid ⟨Below.refl _ _, Nat.le_refl _, HS0.out.2.1, HS0.out.2.2⟩⟩
          case round =>
            obtain ⟨q, hq6, rfl, _, HX⟩ := hrel
            clear HS0
            by_cases hlt : q < 6
            · have hqi : (q : Int) + 1 ≤ 6 := by omega
              obtain ⟨q1, hq1⟩ : ∃ k, q + 1 = k := ⟨_, rfl⟩
              have hq1i : (q : Int) + 1 = (q1 : Int) := by omega
              have hans := HPART.out q1 (by omega) (by omega)
              have hgd := HGOOD.out.2.2.1 q (by omega)
              have hgd1 := HGOOD.out.2.2.1 q1 (by omega)
              obtain ⟨pa, pb, hp⟩ : ∃ a b, Ch9K.part n' q1 = (a, b) := ⟨_, _, rfl⟩
              obtain ⟨sa, sb, hs⟩ : ∃ a b, sumTo n' q = (a, b) := ⟨_, _, rfl⟩
              obtain ⟨ma, mb, hm⟩ : ∃ a b, meanTo n' q = (a, b) := ⟨_, _, rfl⟩
              obtain ⟨ta, tb, ht⟩ : ∃ a b, plusF sa sb pa pb = (a, b) := ⟨_, _, rfl⟩
              obtain ⟨ua, ub, hu⟩ : ∃ a b, plusF ma mb (q1 * pa) pb = (a, b) := ⟨_, _, rfl⟩
              have HS1 : Hid (sumTo n' q1 = (ta, tb)) := Go.Lib.hid (by rw [← hq1]; show plusF (sumTo n' q).1 (sumTo n' q).2 (Ch9K.part n' (q + 1)).1 (Ch9K.part n' (q + 1)).2 = _; rw [hq1, hs, hp]; exact ht)
              have HM1' : Hid (meanTo n' q1 = (ua, ub)) := Go.Lib.hid (by rw [← hq1]; show plusF (meanTo n' q).1 (meanTo n' q).2 ((q + 1) * (Ch9K.part n' (q + 1)).1) (Ch9K.part n' (q + 1)).2 = _; rw [hq1, hm, hp]; exact hu)
              rw [hp] at hans hgd1
              rw [hs, hm] at hgd
              obtain ⟨qp, hqp⟩ : ∃ k, q1 * pa = k := ⟨_, rfl⟩
              rw [hqp] at hgd1 hu
              obtain ⟨s1, s2, s3⟩ := small_of hgd.1
              obtain ⟨m1, m2, m3⟩ := small_of hgd.2.1
              obtain ⟨p1, p2, p3⟩ := small_of hgd1.2.2.1
              obtain ⟨r1, r2, r3⟩ := small_of hgd1.2.2.2
              have T1 := fun X => vPlus_any sa sb pa pb s1 p1 s2 s3 p2 p3 X
              have T2' := fun X => vPlus_any ma mb qp pb m1 r1 m2 m3 p2 p3 X
              rw [ht] at T1
              rw [hu] at T2'
              have T1 := Go.Lib.hid T1
              have T2 := Go.Lib.hid T2'
              have QC := Go.Lib.hid (implChanceQueues (n' : Int) (q1 : Int) pa pb true hans wn (wf7 (by omega) (by omega)))
              have hmul : (q1 : Int) * (pa : Int) = (qp : Int) := by rw [← hqp]; simp
              have kq : IntKind.i64.wrap (qp : Int) = (qp : Int) := IntWalk.i64_in _ (by simp only at r1; omega)
              have HX2 : Hid (Below gs V wr ∧ V.heap.size ≤ wr.heap.size ∧ Arr2 wr gs gs (.int .i64 (sa : Nat)) (.int .i64 (sb : Nat)) ∧ Arr2 wr gs gm (.int .i64 (ma : Nat)) (.int .i64 (mb : Nat))) := Go.Lib.hid (by have h := HX.out; rw [hs, hm] at h; exact h)
              have HQ1 := Go.Lib.hid hq1
              have qw : IntKind.i64.wrap ((q : Int) + 1) = (q1 : Int) := by rw [IntWalk.i64_in _ (by omega)]; exact hq1i
              have hq1b : (q1 : Int) ≤ 6 := by omega
              clear hans hgd hgd1 hp hs hm ht hu hqp HX s1 s2 s3 m1 m2 m3 p1 p2 p3 r1 r2 r3 T2'
              rw [hq1i]
              go_wp2_with fail
              refine (QC.out _).mono ?_
              rintro e Wq ⟨rfl, bq⟩
              have hA := arr2_alloc Wq (.int .i64 (pa : Int)) (.int .i64 (pb : Int))
              have hBq := (Below.refl Wq.heap.size Wq).alloc (Nat.le_refl _) (.cells #[.int .i64 (pa : Int), .int .i64 (pb : Int)] 25)
              have HQ := Go.Lib.hid (And.intro (arr2_call (arr2_call HX2.out.2.2.1 bq) hBq) (And.intro (arr2_call (arr2_call HX2.out.2.2.2 bq) hBq) (And.intro hA (And.intro (Below.trans (Below.trans HX2.out.1 (bq.mono (by have h1 := HX2.out.2.1; have h2 := HGS.out.1; have h3 := HGM.out; omega))) (hBq.mono (by have h1 := HX2.out.2.1; have h4 := bq.size; have h2 := HGS.out.1; have h3 := HGM.out; omega))) (show V.heap.size ≤ Wq.heap.size from Nat.le_trans HX2.out.2.1 bq.size)))))
              clear bq hA hBq HX2
              obtain ⟨cs0, cs1, fs0, fs1⟩ := arr2_cells HQ.out.1
              obtain ⟨ca0, ca1, fa0, fa1⟩ := arr2_cells HQ.out.2.2.1
              obtain ⟨gq, hgq⟩ : ∃ g, Wq.heap.size = g := ⟨_, rfl⟩
              obtain ⟨VA, hVA⟩ : ∃ V, Wq.alloc (.cells #[.int .i64 (pa : Int), .int .i64 (pb : Int)] 25) = V := ⟨_, rfl⟩
              rw [hgq] at HQ ca0 ca1 fa0 fa1
              rw [hVA] at HQ cs0 cs1 fs0 fs1 ca0 ca1 fa0 fa1
              go_upto_region 31 with (fail)
              try rw [hgq]
              try rw [hVA]
              have HGQ : Hid (gm < gq ∧ gs < gq) := Go.Lib.hid (by have h1 := HGS.out; have h2 := HQ.out.2.2.2.2; have h3 := HGM.out; omega)
              clear hgq hVA QC
              go_wp2_with fail
              refine (T1.out _).mono ?_
              rintro e Wt ⟨rfl, bt⟩
              have HT := Go.Lib.hid (And.intro (arr2_call HQ.out.1 bt) (And.intro (arr2_call HQ.out.2.1 bt) (And.intro (arr2_call HQ.out.2.2.1 bt) (And.intro (Below.trans HQ.out.2.2.2.1 (bt.mono (by have h1 := Below.size HQ.out.2.2.2.1; have h2 := HGS.out.1; have h3 := HGM.out; omega))) (show V.heap.size ≤ Wt.heap.size from Nat.le_trans (Below.size HQ.out.2.2.2.1) bt.size)))))
              clear bt cs0 cs1 fs0 fs1 ca0 ca1 fa0 fa1 T1
              obtain ⟨cs0, cs1, fs0, fs1⟩ := arr2_cells HT.out.1
              go_upto_region 32 with (fail)
              obtain ⟨V1, hV1⟩ : ∃ V, (Wt.setCell ⟨gs, 0, none⟩ (.int .i64 (ta : Int))).setCell ⟨gs, 1, none⟩ (.int .i64 (tb : Int)) = V := ⟨_, rfl⟩
              have HV1 : Hid (Arr2 V1 gs gs (.int .i64 (ta : Int)) (.int .i64 (tb : Int)) ∧ Arr2 V1 gs gm (.int .i64 (ma : Int)) (.int .i64 (mb : Int)) ∧ Arr2 V1 gq gq (.int .i64 (pa : Int)) (.int .i64 (pb : Int)) ∧ Below gs V V1 ∧ V.heap.size ≤ V1.heap.size) := Go.Lib.hid (by
                rw [← hV1]
                exact ⟨(arr2_store HT.out.1 _ _).2.2, arr2_other HT.out.2.1 (by have := HGM.out; omega) _ _, arr2_other HT.out.2.2.1 (by have := HGQ.out; omega) _ _, arr2_below (Nat.le_refl _) HT.out.2.2.2.1 _ _, by have h := HT.out.2.2.2.2; simpa using h⟩)
              rw [hV1]
              clear hV1 cs0 cs1 fs0 fs1
              obtain ⟨cm0, cm1, fm0, fm1⟩ := arr2_cells HV1.out.2.1
              obtain ⟨ca0, ca1, _, _⟩ := arr2_cells HV1.out.2.2.1
              go_wp2_with fail
              refine (T2.out _).mono ?_
              rintro e Wu ⟨rfl, bu⟩
              have HU := Go.Lib.hid (And.intro (arr2_call HV1.out.1 bu) (And.intro (arr2_call HV1.out.2.1 bu) (And.intro (Below.trans HV1.out.2.2.2.1 (bu.mono (by have h1 := Below.size HV1.out.2.2.2.1; have h2 := HGS.out.1; have h3 := HGM.out; omega))) (show V.heap.size ≤ Wu.heap.size from Nat.le_trans HV1.out.2.2.2.2 bu.size))))
              clear bu cm0 cm1 fm0 fm1 ca0 ca1 T2
              obtain ⟨cm0, cm1, fm0, fm1⟩ := arr2_cells HU.out.2.1
              have HF : Hid (Below gs V ((Wu.setCell ⟨gm, 0, none⟩ (.int .i64 (ua : Int))).setCell ⟨gm, 1, none⟩ (.int .i64 (ub : Int))) ∧ V.heap.size ≤ ((Wu.setCell ⟨gm, 0, none⟩ (.int .i64 (ua : Int))).setCell ⟨gm, 1, none⟩ (.int .i64 (ub : Int))).heap.size ∧ Arr2 ((Wu.setCell ⟨gm, 0, none⟩ (.int .i64 (ua : Int))).setCell ⟨gm, 1, none⟩ (.int .i64 (ub : Int))) gs gs (.int .i64 ((sumTo n' q1).1 : Nat)) (.int .i64 ((sumTo n' q1).2 : Nat)) ∧ Arr2 ((Wu.setCell ⟨gm, 0, none⟩ (.int .i64 (ua : Int))).setCell ⟨gm, 1, none⟩ (.int .i64 (ub : Int))) gs gm (.int .i64 ((meanTo n' q1).1 : Nat)) (.int .i64 ((meanTo n' q1).2 : Nat))) := Go.Lib.hid (by
                rw [HS1.out, HM1'.out]
                exact ⟨arr2_below (by have := HGM.out; omega) HU.out.2.2.1 _ _, by have h := HU.out.2.2.2; simpa using h, arr2_other HU.out.1 (by have := HGM.out; omega) _ _, (arr2_store HU.out.2.1 _ _).2.2⟩)
              go_wp2_with fail
              go_roundw
              case rel => exact ⟨q1, by omega, by first | rfl | go_num | (congr 1; omega), Go.Lib.hid (.inr trivial), HF⟩
              case measure => have := HQ1.out; simp [intOf]; omega
            · have hqe : q = 6 := by omega
              subst hqe
              have HE6 : Hid (Arr2 wr gs gs (.int .i64 1) (.int .i64 1) ∧ Arr2 wr gs gm (.int .i64 (a3 : Int)) (.int .i64 (b3 : Int)) ∧ Below gs V wr ∧ V.heap.size ≤ wr.heap.size) := Go.Lib.hid (by have h := HX.out; rw [HGOOD.out.1, HR.out.1] at h; exact ⟨h.2.2.1, h.2.2.2, h.1, h.2.1⟩)
              skip
              obtain ⟨cs0, cs1, _, _⟩ := arr2_cells HE6.out.1
              obtain ⟨cm0, cm1, _, _⟩ := arr2_cells HE6.out.2.1
              have bE : Below WY36.heap.size WY36 wr := by rw [HGS.out.2]; exact Below.trans HBB.out HE6.out.2.2.1
              have HWe6 := Go.Lib.hid (And.intro (Below.trans (HWY36.out.1) (bE.mono (Below.size (HWY36.out.1)))) (arr2_call (HWY36.out.2.1) bE))
              have HRE := Go.Lib.hid (Below.trans (HRY36.out) (bE.mono (Below.size (HRY36.out))))
              clear bE
              obtain ⟨cr0, cr1, _, _⟩ := arr2_cells HWe6.out.2
              go_wp2_with fail
              go_meet
              exact Go.Lib.hid (HRE.out)
    case rest =>
      have bY37 := hcut.out
      obtain ⟨WY37, hWY37⟩ : ∃ W, wc = W := ⟨_, rfl⟩
      rw [hWY37] at bY37 ⊢
      have HWY37 := Go.Lib.hid (And.intro (Below.trans (HWd32.out.1) (bY37.mono (Below.size (HWd32.out.1)))) (And.intro (Rag.kept (HWd32.out.2.2.2.2.2.1) bY37) (arr2_call (HWd32.out.2.2.2.2.2.2) bY37)))
      clear hWY37 bY37 HWd32 hcut HM1 HM2 HM3 HM4 hT
      cases three
      case false =>
        go_wp2_with fail
        go_ret
        exact ⟨rfl, HWY37.out.1⟩
      case true =>
        obtain ⟨cS, cN, hc1, hc2, hSN, hcS, hcN, hca, hcb⟩ := avoid_law HVF.out
        have C1 := Go.Lib.hid (implCountAvoiding x L (cS : Int) true hc1 wx HZ2.out)
        have C2 := Go.Lib.hid (implCountAvoiding x [] (cN : Int) true hc2 wx (by decide))
        obtain ⟨Y, hY⟩ : ∃ Y, a6 * cN = Y := ⟨_, rfl⟩
        rw [hY] at hSN
        have g1 : a6 * cN ≤ 720 * 720 := Nat.mul_le_mul hca hcN
        rw [hY] at g1
        have i1 : (cS : Int) * (b6 : Int) = (Y : Int) := by rw [← hSN]; simp
        have i2 : (a6 : Int) * (cN : Int) = (Y : Int) := by rw [← hY]; simp
        have k1 : IntKind.i64.wrap (Y : Int) = (Y : Int) := IntWalk.i64_in _ (by omega)
        clear hc1 hc2 hSN hcS hcN hca hcb hY g1 HVF
        go_wp2_with fail
        refine (C1.out _ _ (Rag.sees (HWY37.out.2.1))).mono ?_
        rintro e W38 ⟨rfl, b38⟩
        have HW38 := Go.Lib.hid (And.intro (Below.trans (HWY37.out.1) ((b38).mono (Below.size (HWY37.out.1)))) (And.intro (Rag.kept (HWY37.out.2.1) b38) (arr2_call (HWY37.out.2.2) b38)))
        clear b38
        clear C1
        go_wp2_with fail
        refine (C2.out _ _ (lit0 _)).mono ?_
        rintro e W39 ⟨rfl, bb39⟩
        have b39 := one_alloc bb39
        have HW39 := Go.Lib.hid (And.intro (Below.trans (HW38.out.1) ((b39).mono (Below.size (HW38.out.1)))) (And.intro (Rag.kept (HW38.out.2.1) b39) (arr2_call (HW38.out.2.2) b39)))
        clear b39 bb39 C2
        obtain ⟨cx110, cx111, _, _⟩ := arr2_cells (HW39.out.2.2)
        go_wp2_with fail
        go_ret
        exact ⟨rfl, HW39.out.1⟩

/-! ### From the walk to the row -/
set_option maxRecDepth 100000 in
theorem lifted (os : Os) (started : os.Started) (H : Type) (enc : TypeId × Value → H) :
    ReturnsInHanded {} Tryz.checked os 3 .any (Rows.fnDrawnOrdersSpec.pre6 enc Tryz.prog Tryz.f3 Rows.fnDrawnOrdersRow.domain false) (Rows.fnDrawnOrdersSpec.post enc Tryz.prog Tryz.f3 false true false false) := by
  refine returnsInHanded_of_change (C := Tryz.checked) own started (by kernel_rfl) Tryz.func3
    (ChangeSpec.witness6 (enc := enc) (C := Tryz.checked) false ⟨#[], #[.slice none 0 0], []⟩ 8 (by kernel_rfl) (by kernel_rfl) (by kernel_rfl) (by kernel_rfl)) ?_
  intro W base args ds gs before hval0 hW hcnd _
  have hval : ∀ (j : Nat) t v, Tryz.f3.params[j]? = some t → args[j]? = some v → Value.okWide Tryz.prog W .any base t v := hval0
  have hW' := hW
  obtain ⟨p, q, hA0, hV, rfl, hfz, hnd⟩ := hW
  have hA : DataW.TrodAll enc Tryz.prog W 0 (fun _ => true) true Tryz.f3.params.toList args.toList ds p := hA0
  rw [Tryz.params3] at hA hval
  obtain ⟨u0, vs0, d0, ds0, p0, q0, hargs, rfl, rfl, h0, r0⟩ := trodAll_cons hA
  obtain ⟨rfl, rfl, rfl⟩ := trodAll_nil r0
  obtain rfl : args = #[u0] := by cases args; simp_all
  obtain ⟨rfl, rfl⟩ := trodVars_none hV
  have lt0 : ∀ x ∈ p0, x.block < W.heap.size := by obtain ⟨m, hm⟩ := h0; exact DataW.trod_lt m _ _ _ hm
  obtain ⟨n0, a0, s0, t0, w0⟩ := sees_ints Tryz.underlying22 Tryz.underlying5 (by kernel_rfl) (hval 0 22 u0 rfl rfl) h0
  clear hA0 hval0
  refine (walk u0 n0 a0 W s0 t0 w0).mono fun e W' ⟨he, bel⟩ => ?_
  subst he
  exact ⟨_, rfl, _, _, _, [], _, [], hW', trodAll_mk1 (shut_bool Tryz.underlying4 _), (trodAll_cons_mk (Below.trod laidOut (by kernel_rfl) (of_decide_eq_true (by kernel_rfl)) h0 bel lt0) trodAll_mk0), rfl, bel.frame _, fun h => by cases h⟩

theorem over : Rows.fnDrawnOrdersRow.holds Tryz.pinned (OpenSpec.ofChange Rows.fnDrawnOrdersSpec) :=
  OpenClaim.holds_of_wide 3 Tryz.f3 rfl rfl rfl rfl rfl rfl rfl ⟨rfl, rfl, rfl, rfl, rfl⟩ rfl rfl rfl rfl rfl (by kernel_rfl) Tryz.func3
    (show joinedFacts Tryz.prog 3 Tryz.f3 Rows.fnDrawnOrdersSpec Rows.fnDrawnOrdersRow = true by unfold joinedFacts; rw [SeatC.may, SeatC.lif, SeatC.mke]; kernel_rfl)
    (of_decide_eq_true (by kernel_rfl)) (by unfold Func.isWrapper; first | (rw [if_pos (by decide +kernel)]; kernel_rfl) | (rw [if_neg (by decide +kernel)]; exact ⟨rfl, rfl⟩))
    (fun os started H enc _ => lifted os started H enc)

/-- The statement. -/
theorem proved : Rows.FnDrawnOrdersSaid :=
  over
#print axioms proved
end Go.Proofs.YtnhhnffolmgceaaGreat.fnDrawnOrders
