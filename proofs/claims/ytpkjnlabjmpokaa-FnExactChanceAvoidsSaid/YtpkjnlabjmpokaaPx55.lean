/-
  Contracts and plain facts that the laws' texts lean on. Conditions: as each states.
-/
import Derived.Test.YtpkjnlabjmpokaaPx47
import Derived.Test.YtpkjnlabjmpokaaPx12
import Derived.Test.YtpkjnlabjmpokaaPx26
import Derived.StillTailTactics
import Derived.Test.YtpkjnlabjmpokaaPx6
import Derived.ChangeKeysEq
import Derived.DeepKeys

namespace Go.Proofs.Ytpkjnlabjmpokaa.CutFC
open Go.RowKit SeesC IntsC ExactC RunC BigC Arr2C ChM WordC EqA2C
set_option linter.unusedVariables false

theorem mostOne (x : Nat) (hx : 1 ≤ x) (w : World) :
    Calls Try.prog 101 #[.int .i64 (x : Int), .int .i64 1] w fun e w' => e = .returned (.int .i64 (x : Int)) ∧ w' = w := by
  refine (l1Most_any x 1 w).mono ?_
  rintro e w' ⟨h1, h2⟩
  rw [Nat.max_eq_left hx] at h1
  exact ⟨h1, h2.symm⟩

set_option maxRecDepth 100000 in
set_option maxHeartbeats 4000000 in
theorem l9Cut_any (a b : Nat) (ha : a ≤ 1048576) (hb1 : 1 ≤ b) (hb : b ≤ 1048576) (W : World) :
    Calls Try.prog 54 #[.int .i64 (a : Int), .int .i64 (b : Int)] W fun e w' => e = .returned (.agg #[.int .i64 ((cutF a b).1 : Int), .int .i64 ((cutF a b).2 : Int)]) ∧ Below W.heap.size W w' := by
  obtain ⟨G, hG⟩ : ∃ G, Nat.gcd a b = G := ⟨_, rfl⟩
  have hG1 : 1 ≤ G := by rw [← hG]; exact Nat.gcd_pos_of_pos_right a hb1
  have hGb : G ≤ b := by rw [← hG]; exact Nat.gcd_le_right a hb1
  obtain ⟨p, hp⟩ : ∃ p, (cutF a b).1 = p := ⟨_, rfl⟩
  obtain ⟨q, hq⟩ : ∃ q, (cutF a b).2 = q := ⟨_, rfl⟩
  have hpd : a / G = p := by rw [← hp, ← hG]; rfl
  have hqd : b / G = q := by rw [← hq, ← hG]; rfl
  rw [hp, hq]
  have HG := Go.Lib.hid (And.intro hG (And.intro hpd hqd))
  have hA0 := arr2_alloc W (.int .i64 0) (.int .i64 0)
  have hB0 : Below W.heap.size W (W.alloc (.cells #[.int .i64 0, .int .i64 0] 23)) := (Below.refl _ W).alloc (Nat.le_refl _) _
  have HA0 := Go.Lib.hid (And.intro hA0 hB0)
  clear hG hp hq hpd hqd hA0 hB0
  go_enter Try.func54, Try.ntmps54
  go_wp2_with fail
  obtain ⟨w1, hw1⟩ : ∃ w1, W.alloc (.cells #[.int .i64 0, .int .i64 0] 23) = w1 := ⟨_, rfl⟩
  rw [hw1] at HA0 ⊢
  clear hw1
  go_loopw [5, 6] (fun xv yv wr => ∃ (x y : Nat), x ≤ 1048576 ∧ y ≤ 1048576 ∧ xv = .int .i64 x ∧ yv = .int .i64 y ∧ Hid (Nat.gcd x y = G ∧ Drawn w1 wr)) (fun _ yv _ => (intOf yv).toNat)
  case atStart => exact ⟨a, b, ha, hb, rfl, rfl, Go.Lib.hid ⟨HG.out.1, Drawn.refl _⟩⟩
  case round =>
    obtain ⟨x, y, hx, hy, rfl, rfl, HX⟩ := hrel
    by_cases hy0 : 0 < y
    · have hyi : (0 : Int) < (y : Int) := by omega
      have hne : ((y : Int) == 0) = false := by rw [beq_eq_false_iff_ne]; omega
      have hne2 : ¬ (y : Int) = 0 := by omega
      have hmod : ((x : Int).tmod (y : Int)) = ((x % y : Nat) : Int) := by rw [Int.ofNat_tmod]
      have hml : x % y < y := Nat.mod_lt _ hy0
      have HN : Hid (Nat.gcd y (x % y) = G) := Go.Lib.hid (by rw [gcd_step]; exact HX.out.1)
      obtain ⟨r, hr⟩ : ∃ r, x % y = r := ⟨_, rfl⟩
      rw [hr] at hmod hml HN
      clear hr
      go_wp2_with fail
      go_quiet (fail)
      go_wp2
      go_roundw
      case rel => exact ⟨y, r, hy, by omega, rfl, by go_num, Go.Lib.hid ⟨HN.out, HX.out.2.next _⟩⟩
      case measure => simp [intOf]; omega
    · have hy00 : y = 0 := by omega
      subst hy00
      have hxG : x = G := by have h := HX.out.1; rw [Nat.gcd_zero_right] at h; exact h
      subst hxG
      have hyi : ¬ (0 : Int) < ((0 : Nat) : Int) := by omega
      have HA1 : Hid (Arr2 wr W.heap.size W.heap.size (.int .i64 0) (.int .i64 0) ∧ Below W.heap.size W wr) := Go.Lib.hid (by
        obtain ⟨m, hm⟩ := HX.out.2
        subst hm
        exact ⟨arr2_drewN HA0.out.1, ExactC.below_drewN HA0.out.2⟩)
      have CM := Go.Lib.hid (fun (X : World) => mostOne x hG1 X)
      have hne : ((x : Int) == 0) = false := by rw [beq_eq_false_iff_ne]; omega
      have hd1 : (a : Int).tdiv (x : Int) = (p : Int) := by rw [← HG.out.2.1, Int.ofNat_tdiv]
      have hd2 : (b : Int).tdiv (x : Int) = (q : Int) := by rw [← HG.out.2.2, Int.ofNat_tdiv]
      go_wp2_with fail
      have hx0 : ¬ x = 0 := by omega
      have hpa : p ≤ a := by rw [← HG.out.2.1]; exact Nat.div_le_self _ _
      have hqb : q ≤ b := by rw [← HG.out.2.2]; exact Nat.div_le_self _ _
      have hwp : IntKind.i64.wrap (p : Int) = (p : Int) := IntWalk.i64_in _ (by omega)
      have hwq : IntKind.i64.wrap (q : Int) = (q : Int) := IntWalk.i64_in _ (by omega)
      refine wp_region_still_tail 8 (by kernel_rfl) (by kernel_rfl) ?_
      simp only [List.take_succ_cons, List.take_zero, List.drop_succ_cons, List.drop_zero]
      obtain ⟨W2, hW2, H2⟩ : ∃ W2 : World, ({ wr with drawn := wr.drawn + 1 } : World) = W2 ∧ Hid (Arr2 W2 W.heap.size W.heap.size (.int .i64 0) (.int .i64 0) ∧ Below W.heap.size W W2) := ⟨_, rfl, Go.Lib.hid ⟨arr2_drewN (q := 1) HA1.out.1, ExactC.below_drewN (q := 1) HA1.out.2⟩⟩
      rw [hW2]
      clear hW2
      iterate 2 still_step
      still_call (CM.out _)
      iterate 3 still_step
      still_call (CM.out _)
      iterate 1 still_step
      refine wpStill_nil ?_
      obtain ⟨k0, k1, f0, f1⟩ := arr2_cells H2.out.1
      obtain ⟨s1, s2, hN⟩ := arr2_store H2.out.1 (.int .i64 (p : Int)) (.int .i64 (q : Int))
      have HN := Go.Lib.hid (And.intro hN (arr2_below (Nat.le_refl _) H2.out.2 (.int .i64 (p : Int)) (.int .i64 (q : Int))))
      clear hN
      go_wp2_with fail
      (try simp only [Exit.inBlock, Exit.then])
      refine bodyPost_ret (arr2_result rfl rfl HN.out.1) rfl ?_
      exact ⟨rfl, HN.out.2⟩

set_option maxRecDepth 100000 in
set_option maxHeartbeats 4000000 in
theorem restsOf_any (a b d : Nat) (ha : a ≤ 1048576) (hb : b ≤ 1048576) (hd1 : 1 ≤ d) (hd : d ≤ 1048576) (W : World) :
    Calls Try.prog 145 #[.agg #[.int .i64 (a : Int), .int .i64 (b : Int)], .int .i64 (d : Int)] W fun e w' => e = .returned (.agg #[.int .i64 ((a % d : Nat) : Int), .int .i64 ((b % d : Nat) : Int)]) ∧ Below W.heap.size W w' := by
  have hA1 := arr2_alloc W (.int .i64 (a : Int)) (.int .i64 (b : Int))
  have hb1 : Below W.heap.size W (W.alloc (.cells #[.int .i64 (a : Int), .int .i64 (b : Int)] 23)) := (Below.refl _ W).alloc (Nat.le_refl _) _
  have hb2 := hb1.alloc hb1.size (.cells #[.int .i64 0, .int .i64 0] 23)
  have hA1' := arr2_call hA1 ((Below.refl _ _).alloc (Nat.le_refl _) (.cells #[.int .i64 0, .int .i64 0] 23))
  have hA2 := arr2_alloc (W.alloc (.cells #[.int .i64 (a : Int), .int .i64 (b : Int)] 23)) (.int .i64 0) (.int .i64 0)
  rw [World.size_alloc] at hA2
  have HA := Go.Lib.hid (And.intro hA1' (And.intro hA2 hb2))
  obtain ⟨p, hp⟩ : ∃ p, a % d = p := ⟨_, rfl⟩
  obtain ⟨q, hq⟩ : ∃ q, b % d = q := ⟨_, rfl⟩
  have hm1 : ((a : Int).tmod (d : Int)) = (p : Int) := by rw [← hp, Int.ofNat_tmod]
  have hm2 : ((b : Int).tmod (d : Int)) = (q : Int) := by rw [← hq, Int.ofNat_tmod]
  rw [hp, hq]
  have hne : ((d : Int) == 0) = false := by rw [beq_eq_false_iff_ne]; omega
  have hne2 : ¬ d = 0 := by omega
  clear hA1 hA1' hA2 hb1 hb2 hp hq
  go_enter Try.func145, Try.ntmps145
  go_wp2_with fail
  obtain ⟨w2, hw2⟩ : ∃ w2, (W.alloc (.cells #[.int .i64 (a : Int), .int .i64 (b : Int)] 23)).alloc (.cells #[.int .i64 0, .int .i64 0] 23) = w2 := ⟨_, rfl⟩
  rw [hw2] at HA ⊢
  clear hw2
  refine wp_region_still_tail 8 (by kernel_rfl) (by kernel_rfl) ?_
  simp only [List.take_succ_cons, List.take_zero, List.drop_succ_cons, List.drop_zero]
  obtain ⟨W2, hW2, H2⟩ : ∃ W2 : World, ({ w2 with drawn := w2.drawn + 1 } : World) = W2 ∧ Hid (Arr2 W2 W.heap.size W.heap.size (.int .i64 (a : Int)) (.int .i64 (b : Int)) ∧ Arr2 W2 (W.heap.size + 1) (W.heap.size + 1) (.int .i64 0) (.int .i64 0) ∧ Below W.heap.size W W2) := ⟨_, rfl, Go.Lib.hid ⟨arr2_drewN (q := 1) HA.out.1, arr2_drewN (q := 1) HA.out.2.1, ExactC.below_drewN (q := 1) HA.out.2.2⟩⟩
  rw [hW2]
  clear hW2
  obtain ⟨k0, k1, _, _⟩ := arr2_cells H2.out.1
  obtain ⟨m0, m1, f0, f1⟩ := arr2_cells H2.out.2.1
  iterate 8 still_step
  refine wpStill_nil ?_
  obtain ⟨s1, s2, hN⟩ := arr2_store H2.out.2.1 (.int .i64 (p : Int)) (.int .i64 (q : Int))
  have HN := Go.Lib.hid (And.intro hN (arr2_below (Nat.le_succ _) H2.out.2.2 (.int .i64 (p : Int)) (.int .i64 (q : Int))))
  clear hN
  go_wp2_with fail
  (try simp only [Exit.inBlock, Exit.then])
  refine bodyPost_ret (arr2_result rfl rfl HN.out.1) rfl ?_
  exact ⟨rfl, HN.out.2⟩

theorem mod_both (a b d : Nat) : ((((a % d : Nat) : Int) == 0) && (((b % d : Nat) : Int) == 0)) = decide (a % d = 0 ∧ b % d = 0) := by
  by_cases h1 : a % d = 0 <;> by_cases h2 : b % d = 0 <;> simp [h1, h2] <;> omega

set_option maxRecDepth 100000 in
set_option maxHeartbeats 4000000 in
theorem lowest_any (a b : Nat) (ha : a ≤ 1048576) (hb1 : 1 ≤ b) (hb : b ≤ 1048576) (W : World) :
    Calls Try.prog 120 #[.agg #[.int .i64 (b : Int), .int .i64 (a : Int)]] W fun e w' => e = .returned (.agg #[.int .i64 ((cutF a b).1 : Int), .int .i64 ((cutF a b).2 : Int)]) ∧ Below W.heap.size W w' := by
  obtain ⟨G, hG⟩ : ∃ G, Nat.gcd a b = G := ⟨_, rfl⟩
  obtain ⟨p, hp⟩ : ∃ p, (cutF a b).1 = p := ⟨_, rfl⟩
  obtain ⟨q, hq⟩ : ∃ q, (cutF a b).2 = q := ⟨_, rfl⟩
  have hpd : a / G = p := by rw [← hp, ← hG]; rfl
  have hqd : b / G = q := by rw [← hq, ← hG]; rfl
  have hpa : p ≤ a := by rw [← hpd]; exact Nat.div_le_self _ _
  have hqb : q ≤ b := by rw [← hqd]; exact Nat.div_le_self _ _
  rw [hp, hq]
  have HG := Go.Lib.hid (And.intro hG (And.intro hpd hqd))
  have HS := Go.Lib.hid (above_start (a := a) hb1)
  clear hG hp hq hpd hqd
  go_enter Try.func120, Try.ntmps120
  go_wp2_with fail
  have HW : Hid (Arr2 (((W.alloc (.cells #[.int .i64 (b : Int), .int .i64 (a : Int)] 97)).alloc (.cells #[.int .i64 0, .int .i64 0] 23)).alloc (.cells #[.int .i64 (a : Int), .int .i64 (b : Int)] 23)) (W.heap.size + 1) (W.heap.size + 1) (.int .i64 0) (.int .i64 0) ∧ Arr2 (((W.alloc (.cells #[.int .i64 (b : Int), .int .i64 (a : Int)] 97)).alloc (.cells #[.int .i64 0, .int .i64 0] 23)).alloc (.cells #[.int .i64 (a : Int), .int .i64 (b : Int)] 23)) (W.heap.size + 1 + 1) (W.heap.size + 1 + 1) (.int .i64 (a : Int)) (.int .i64 (b : Int)) ∧ Below W.heap.size W (((W.alloc (.cells #[.int .i64 (b : Int), .int .i64 (a : Int)] 97)).alloc (.cells #[.int .i64 0, .int .i64 0] 23)).alloc (.cells #[.int .i64 (a : Int), .int .i64 (b : Int)] 23))) := by
    have hA1 := arr2_alloc (W.alloc (.cells #[.int .i64 (b : Int), .int .i64 (a : Int)] 97)) (.int .i64 0) (.int .i64 0)
    have hA2 := arr2_alloc ((W.alloc (.cells #[.int .i64 (b : Int), .int .i64 (a : Int)] 97)).alloc (.cells #[.int .i64 0, .int .i64 0] 23)) (.int .i64 (a : Int)) (.int .i64 (b : Int))
    have hA1' := arr2_call hA1 ((Below.refl _ _).alloc (Nat.le_refl _) (.cells #[.int .i64 (a : Int), .int .i64 (b : Int)] 23))
    simp only [World.size_alloc] at hA1' hA2
    exact Go.Lib.hid ⟨hA1', hA2, (((Below.refl _ W).alloc (Nat.le_refl _) _).alloc (by simp) _).alloc (by simp; omega) _⟩
  obtain ⟨w3, hw3⟩ : ∃ w3, ((W.alloc (.cells #[.int .i64 (b : Int), .int .i64 (a : Int)] 97)).alloc (.cells #[.int .i64 0, .int .i64 0] 23)).alloc (.cells #[.int .i64 (a : Int), .int .i64 (b : Int)] 23) = w3 := ⟨_, rfl⟩
  rw [hw3] at HW ⊢
  clear hw3
  go_loopw [4] (fun dv wr => ∃ d : Nat, d ≤ 1048576 ∧ dv = .int .i64 d ∧ Hid (Above a b d ∧ Arr2 wr (W.heap.size + 1) (W.heap.size + 1) (.int .i64 0) (.int .i64 0) ∧ Arr2 wr (W.heap.size + 1 + 1) (W.heap.size + 1 + 1) (.int .i64 (a : Int)) (.int .i64 (b : Int)) ∧ Below W.heap.size W wr)) (fun dv _ => (intOf dv).toNat)
  case atStart => exact ⟨b, hb, rfl, Go.Lib.hid ⟨HS.out, HW.out⟩⟩
  case round =>
    obtain ⟨d, hd, rfl, HX⟩ := hrel
    have hd1 := above_pos hb1 HX.out.1
    have CR := Go.Lib.hid (restsOf_any a b d ha hb hd1 hd wr)
    obtain ⟨r1, hr1⟩ : ∃ r, a % d = r := ⟨_, rfl⟩
    obtain ⟨r2, hr2⟩ : ∃ r, b % d = r := ⟨_, rfl⟩
    obtain ⟨r, hr⟩ : ∃ r, (((r1 : Int) == 0) && ((r2 : Int) == 0)) = r := ⟨_, rfl⟩
    have hE := fun (X : World) => eqA2 (r1 : Int) (r2 : Int) r hr X
    have hrd : decide (r1 = 0 ∧ r2 = 0) = r := by rw [← hr, ← hr1, ← hr2]; exact (mod_both a b d).symm
    have HR := Go.Lib.hid (And.intro hr1 (And.intro hr2 hrd))
    rw [hr1, hr2] at CR
    clear hr hr1 hr2 hrd
    obtain ⟨k0, k1, _, _⟩ := arr2_cells HX.out.2.2.1
    go_wp2_with fail
    refine (CR.out).mono ?_
    rintro e w4 ⟨rfl, hb4⟩
    have H4 := Go.Lib.hid (And.intro (arr2_call HX.out.2.1 hb4) (And.intro (arr2_call HX.out.2.2.1 hb4) (HX.out.2.2.2.trans (hb4.mono HX.out.2.2.2.size) : Below W.heap.size W w4)))
    clear hb4 CR k0 k1
    cases r with
    | false =>
      have hno := of_decide_eq_false HR.out.2.2
      have hnx := above_next hb1 HX.out.1 (by rw [HR.out.1, HR.out.2.1]; exact hno)
      have HN := Go.Lib.hid hnx.2
      have hd2 := hnx.1
      clear hnx hno
      have hdc : (((d - 1 : Nat) : Int)) = (d : Int) - 1 := by omega
      go_wp2
      go_roundw
      case rel => exact ⟨d - 1, by omega, by rw [hdc], Go.Lib.hid ⟨HN.out, H4.out⟩⟩
      case measure => simp [intOf]; omega
    | true =>
      have hyes := of_decide_eq_true HR.out.2.2
      have hdG : d = G := by
        rw [← HG.out.1]
        exact above_end hb1 HX.out.1 (by rw [HR.out.1]; exact hyes.1) (by rw [HR.out.2.1]; exact hyes.2)
      have hpq : a / d = p ∧ b / d = q := by rw [hdG]; exact HG.out.2
      have hd0 : ¬ d = 0 := by omega
      have hq1 : (a : Int).tdiv (d : Int) = (p : Int) := by rw [← hpq.1, Int.ofNat_tdiv]
      have hq2 : (b : Int).tdiv (d : Int) = (q : Int) := by rw [← hpq.2, Int.ofNat_tdiv]
      have hwp : IntKind.i64.wrap (p : Int) = (p : Int) := IntWalk.i64_in _ (by omega)
      have hwq : IntKind.i64.wrap (q : Int) = (q : Int) := IntWalk.i64_in _ (by omega)
      clear hpq hdG hyes HR
      go_wp2_with fail
      refine wp_region_still_tail 8 (by kernel_rfl) (by kernel_rfl) ?_
      simp only [List.take_succ_cons, List.take_zero, List.drop_succ_cons, List.drop_zero]
      obtain ⟨W2, hW2, H2⟩ : ∃ W2 : World, ({ w4 with drawn := w4.drawn + 1 } : World) = W2 ∧ Hid (Arr2 W2 (W.heap.size + 1) (W.heap.size + 1) (.int .i64 0) (.int .i64 0) ∧ Arr2 W2 (W.heap.size + 1 + 1) (W.heap.size + 1 + 1) (.int .i64 (a : Int)) (.int .i64 (b : Int)) ∧ Below W.heap.size W W2) := ⟨_, rfl, Go.Lib.hid ⟨arr2_drewN (q := 1) H4.out.1, arr2_drewN (q := 1) H4.out.2.1, ExactC.below_drewN (q := 1) H4.out.2.2⟩⟩
      rw [hW2]
      clear hW2
      obtain ⟨k0, k1, _, _⟩ := arr2_cells H2.out.2.1
      obtain ⟨m0, m1, f0, f1⟩ := arr2_cells H2.out.1
      iterate 8 still_step
      refine wpStill_nil ?_
      obtain ⟨s1, s2, hN⟩ := arr2_store H2.out.1 (.int .i64 (p : Int)) (.int .i64 (q : Int))
      have HN := Go.Lib.hid (And.intro hN (arr2_below (Nat.le_succ _) H2.out.2.2 (.int .i64 (p : Int)) (.int .i64 (q : Int))))
      clear hN
      go_wp2_with fail
      (try simp only [Exit.inBlock, Exit.then])
      refine bodyPost_ret (arr2_result rfl rfl HN.out.1) rfl ?_
      exact ⟨rfl, HN.out.2⟩

end Go.Proofs.Ytpkjnlabjmpokaa.CutFC

namespace Go.Proofs.Ytpkjnlabjmpokaa.L9C
open Go.RowKit SeesC IntsC ExactC InC

set_option maxRecDepth 100000 in
theorem l9Size_any (n : Int) (w : World) (r : Bool) (h : decide (1 ≤ n ∧ n ≤ 6) = r) :
    Calls Try.prog 49 #[.int .i64 n] w fun e w' => e = .returned (.bool r) ∧ w' = w := by
  have C1 := Go.Lib.hid (l1In_any n 1 6 w r h)
  clear h
  go_enter Try.func49, Try.ntmps49
  go_wp2_with fail
  refine (C1.out).mono ?_
  rintro e _ ⟨rfl, rfl⟩
  go_wp2_with fail
  go_ret
  exact ⟨rfl, rfl⟩

end Go.Proofs.Ytpkjnlabjmpokaa.L9C
