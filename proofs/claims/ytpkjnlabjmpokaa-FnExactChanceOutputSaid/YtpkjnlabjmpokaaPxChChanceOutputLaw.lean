/-
  ChanceOutput returns for all arguments what the model says, leaves its argument alone, and writes nothing that was there before.
-/
import Derived.Test.YtpkjnlabjmpokaaRows
import Derived.Test.YtpkjnlabjmpokaaPx0
import Derived.Test.YtpkjnlabjmpokaaPx11
import Derived.WalkKit
import Derived.ProofKit
import Derived.OpenShut
import Derived.ShutString
import Derived.ChangeOld
import Derived.Below
import Derived.Test.YtpkjnlabjmpokaaPx12
import Derived.Test.YtpkjnlabjmpokaaPx2
import Derived.Test.YtpkjnlabjmpokaaPx18
import Derived.Test.YtpkjnlabjmpokaaPx73

namespace Go.Proofs.Ytpkjnlabjmpokaa.fnExactChanceOutput
open Go.ChangeShapes Go.WideShapes Go.ChangeAt Go.RowKit SeesC OpenC
open Go.ChangeMaps (open_string shut_string)
open IntsC ExactC OrdMath AllO ChM ChQ Arr2C EqA2LC ChChanceOutputIC ChChanceOutputSC
set_option linter.unusedVariables false

theorem own : ownKnob Try.prog.godebug = none := by kernel_rfl
theorem laidOut : laidOutB Try.prog = true := by kernel_rfl

/-! ### The walk -/
set_option maxRecDepth 100000 in
set_option maxHeartbeats 4000000 in
theorem walk (v0 : Value) (n0 : Nat) (a0 : List Int) (w : World) (s0 : Sees w v0 n0 (a0.map (Value.int .i64))) (t0 : n0 ≤ maxLen) (w0 : ∀ z ∈ a0, (Lit.int .i64 z).wf = true) :
    Calls Try.prog 3 #[v0] w fun e w' => e = .returned (.bool true) ∧ Below w.heap.size w w' := by
  have hl0 : a0.length = n0 := by simpa using s0.1
  have hsee0 := Go.Lib.hid s0
  by_cases big0 : (1048576 : Int) < (n0 : Int)
  · obtain ⟨_, adr0, cap0, rfl, _, _⟩ := s0
    unfold maxLen at t0
    go_enter Try.func3, Try.ntmps3
    go_wp2
    go_ret
    exact ⟨rfl, Below.refl _ _⟩
  have bels : Hid (Below w.heap.size w w) := Go.Lib.hid (Below.refl _ _)
  obtain ⟨⟨x, y, b⟩, hans⟩ : ∃ p, ansChanceOutput a0 = p := ⟨_, rfl⟩
  have hb0 : n0 ≤ 1048576 := by omega
  have C1 := Go.Lib.hid (specChanceOutput a0 x y b hans (hl0 ▸ hb0))
  have C2 := Go.Lib.hid (implChanceOutput a0 x y b hans (hl0 ▸ hb0))
  clear hans hl0
  obtain ⟨_, adr0, cap0, rfl, _, _⟩ := s0
  unfold maxLen at t0
  go_enter Try.func3, Try.ntmps3
  go_wp2_with fail
  refine (toIntS_any _ _ n0 a0 (hsee0.out) hb0).mono ?_
  rintro e W1 ⟨g1, rfl, o1, b1⟩
  have HW1 := Go.Lib.hid (And.intro (Below.trans (bels.out) ((b1).mono (Below.size (bels.out)))) o1)
  clear o1 b1
  go_wp2_with fail
  refine (C1.out _ _ _ (Sees.owns (HW1.out.2))).mono ?_
  rintro e W2 ⟨rfl, b2⟩
  have HX2 := Go.Lib.hid (HW1.out.1.trans (b2.mono HW1.out.1.size))
  clear b2 HW1
  have hA := arr2_alloc W2 (.int .i64 (x : Int)) (.int .i64 (y : Int))
  have hB := (HX2.out).alloc (HX2.out).size (.cells #[.int .i64 (x : Int), .int .i64 (y : Int)] 23)
  have hgle : w.heap.size ≤ W2.heap.size := (HX2.out).size
  go_wp2_with fail
  obtain ⟨V2, hV2⟩ : ∃ V, W2.alloc (.cells #[.int .i64 (x : Int), .int .i64 (y : Int)] 23) = V := ⟨_, rfl⟩
  rw [hV2] at hA hB ⊢
  obtain ⟨g2, hg2⟩ : ∃ g, W2.heap.size = g := ⟨_, rfl⟩
  rw [hg2] at hA hgle ⊢
  have HV2 := Go.Lib.hid (And.intro hB hA)
  clear hA hB hV2 hg2 HX2
  refine (toIntS_any _ _ n0 a0 (hsee0.out.grow HV2.out.1) hb0).mono ?_
  rintro e W3 ⟨u3, rfl, o3, b3⟩
  have HW3 := Go.Lib.hid (And.intro (HV2.out.1.trans (b3.mono HV2.out.1.size)) (And.intro (arr2_call HV2.out.2 b3) o3))
  clear o3 b3 HV2
  go_wp2_with fail
  refine (C2.out _ _ _ (Sees.owns (HW3.out.2.2))).mono ?_
  rintro e W4 ⟨rfl, b4⟩
  have HX4 := Go.Lib.hid (And.intro (HW3.out.1.trans (b4.mono HW3.out.1.size)) (And.intro (arr2_call HW3.out.2.1 b4) (kept_call HW3.out.2.2 b4)))
  clear b4 HW3
  have hA := arr2_call HX4.out.2.1 ((Below.refl W4.heap.size W4).alloc (Nat.le_refl _) (.cells #[.int .i64 (x : Int), .int .i64 (y : Int)] 23))
  obtain ⟨k0, k1, _, _⟩ := arr2_cells hA
  have hbW : Below W4.heap.size W4 (W4.alloc (.cells #[.int .i64 (x : Int), .int .i64 (y : Int)] 23)) := (Below.refl _ _).alloc (Nat.le_refl _) _
  have HX5 := Go.Lib.hid (And.intro (HX4.out.1.trans (hbW.mono HX4.out.1.size)) (kept_call HX4.out.2.2 hbW))
  clear hA hbW
  go_wp2_with fail
  refine (eqIntA2_same _ (x : Int) (y : Int)).mono ?_
  rintro e W6 ⟨rfl, b6⟩
  have HX6 := Go.Lib.hid (And.intro (HX5.out.1.trans (b6.mono HX5.out.1.size)) (kept_call HX5.out.2 b6))
  clear b6 k0 k1 HX4 HX5
  go_wp2_with fail
  refine (toIntS_any _ _ n0 a0 (hsee0.out.grow HX6.out.1) hb0).mono ?_
  rintro e W7 ⟨u7, rfl, o7, b7⟩
  have HX7 := Go.Lib.hid (And.intro (HX6.out.1.trans (b7.mono HX6.out.1.size)) (And.intro (kept_call HX6.out.2 b7) o7))
  clear o7 b7 HX6
  go_wp2_with fail
  refine (eqIntS_same _ _ _ n0 a0 (Sees.owns HX7.out.2.1) (Sees.owns HX7.out.2.2) (by unfold maxLen; omega)).mono ?_
  rintro e W8 ⟨rfl, d8⟩
  have HX8 := Go.Lib.hid (HX7.out.1.trans (d8.below _))
  clear d8 HX7
  go_wp2_with fail
  go_ret
  exact ⟨rfl, HX8.out⟩

/-! ### From the walk to the row -/
set_option maxRecDepth 100000 in
theorem lifted (os : Os) (started : os.Started) (H : Type) (enc : TypeId × Value → H) :
    ReturnsInHanded {} Try.checked os 3 .any (Rows.fnExactChanceOutputSpec.pre6 enc Try.prog Try.f3 Rows.fnExactChanceOutputRow.domain false) (Rows.fnExactChanceOutputSpec.post enc Try.prog Try.f3 false true false false) := by
  refine returnsInHanded_of_change (C := Try.checked) own started (by kernel_rfl) Try.func3
    (ChangeSpec.witness6 (enc := enc) (C := Try.checked) false ⟨#[], #[.slice none 0 0], []⟩ 8 (by kernel_rfl) (by kernel_rfl) (by kernel_rfl) (by kernel_rfl)) ?_
  intro W base args ds gs before hval0 hW hcnd _
  have hval : ∀ (j : Nat) t v, Try.f3.params[j]? = some t → args[j]? = some v → Value.okWide Try.prog W .any base t v := hval0
  have hW' := hW
  obtain ⟨p, q, hA0, hV, rfl, hfz, hnd⟩ := hW
  have hA : DataW.TrodAll enc Try.prog W 0 (fun _ => true) true Try.f3.params.toList args.toList ds p := hA0
  rw [Try.params3] at hA hval
  obtain ⟨u0, vs0, d0, ds0, p0, q0, hargs, rfl, rfl, h0, r0⟩ := trodAll_cons hA
  obtain ⟨rfl, rfl, rfl⟩ := trodAll_nil r0
  obtain rfl : args = #[u0] := by cases args; simp_all
  obtain ⟨rfl, rfl⟩ := trodVars_none hV
  have lt0 : ∀ x ∈ p0, x.block < W.heap.size := by obtain ⟨m, hm⟩ := h0; exact DataW.trod_lt m _ _ _ hm
  obtain ⟨n0, a0, s0, t0, w0⟩ := sees_ints Try.underlying22 Try.underlying3 (by kernel_rfl) (hval 0 22 u0 rfl rfl) h0
  clear hA0 hval0
  refine (walk u0 n0 a0 W s0 t0 w0).mono fun e W' ⟨he, bel⟩ => ?_
  subst he
  exact ⟨_, rfl, _, _, _, [], _, [], hW', trodAll_mk1 (shut_bool Try.underlying4 _), (trodAll_cons_mk (Below.trod laidOut (by kernel_rfl) (of_decide_eq_true (by kernel_rfl)) h0 bel lt0) trodAll_mk0), rfl, bel.frame _, fun h => by cases h⟩

theorem over : Rows.fnExactChanceOutputRow.holds Try.pinned (OpenSpec.ofChange Rows.fnExactChanceOutputSpec) :=
  OpenClaim.holds_of_wide 3 Try.f3 rfl rfl rfl rfl rfl rfl rfl ⟨rfl, rfl, rfl, rfl, rfl⟩ rfl rfl rfl rfl rfl (by kernel_rfl) Try.func3
    (show joinedFacts Try.prog 3 Try.f3 Rows.fnExactChanceOutputSpec Rows.fnExactChanceOutputRow = true by unfold joinedFacts; rw [SeatC.may, SeatC.lif, SeatC.mke]; kernel_rfl)
    (of_decide_eq_true (by kernel_rfl)) (by unfold Func.isWrapper; first | (rw [if_pos (by decide +kernel)]; kernel_rfl) | (rw [if_neg (by decide +kernel)]; exact ⟨rfl, rfl⟩))
    (fun os started H enc _ => lifted os started H enc)

/-- The statement. -/
theorem proved : Rows.FnExactChanceOutputSaid :=
  over
#print axioms proved
end Go.Proofs.Ytpkjnlabjmpokaa.fnExactChanceOutput
