/-
  ChanceAvoids returns for all arguments what the model says, leaves its arguments alone, and writes nothing that was there before.
-/
import Derived.Test.YtpkjnlabjmpokaaRows
import Derived.Test.YtpkjnlabjmpokaaPx0
import Derived.Test.YtpkjnlabjmpokaaPx11
import Derived.WalkKit
import Derived.ProofKit
import Derived.OpenShut
import Derived.ShutString
import Derived.ChangeOld
import Derived.Below
import Derived.Test.YtpkjnlabjmpokaaPx12
import Derived.Test.YtpkjnlabjmpokaaPx2
import Derived.Test.YtpkjnlabjmpokaaPx18
import Derived.Test.YtpkjnlabjmpokaaPx74

namespace Go.Proofs.Ytpkjnlabjmpokaa.fnExactChanceAvoids
open Go.ChangeShapes Go.WideShapes Go.ChangeAt Go.RowKit SeesC OpenC
open Go.ChangeMaps (open_string shut_string)
open IntsC ExactC OrdMath AllO PatMath LLC AvoidC ChM ChQ Arr2C EqA2LC ChChanceAvoidsIC ChChanceAvoidsSC
set_option linter.unusedVariables false

theorem own : ownKnob Try.prog.godebug = none := by kernel_rfl
theorem laidOut : laidOutB Try.prog = true := by kernel_rfl

/-! ### The walk -/
set_option maxRecDepth 100000 in
set_option maxHeartbeats 4000000 in
theorem walk (a0 : Int) (v1 : Value) (n1 : Nat) (a1 : List (List Int)) (w : World) (w0 : (Lit.int .i64 a0).wf = true) (s1 : a1.length = n1 ∧ SeesLL w v1 a1) (t1 : n1 ≤ maxLen) (w1 : ∀ l ∈ a1, l.length ≤ maxLen) :
    Calls Try.prog 5 #[.int .i64 a0, v1] w fun e w' => e = .returned (.bool true) ∧ Below w.heap.size w w' := by
  go_enter Try.func5, Try.ntmps5
  go_wp2_with fail
  refine (szIntSS_any v1 a1 w s1.2 (by rw [s1.1]; exact t1) w1).mono ?_
  rintro e wq ⟨rl1, rfl, hwq, hrl1⟩
  obtain rfl : w = wq := hwq.symm
  clear hwq
  by_cases hneg1 : rl1 < 0
  · clear s1 hrl1
    go_wp2
    go_ret
    exact ⟨rfl, Below.refl _ _⟩
  have hb1 : a1.length + tot a1 ≤ 1048576 := by
    rcases hrl1 with h | h
    · omega
    · exact h.2
  have hsee1 := Go.Lib.hid s1.2
  clear s1 hrl1 t1 w1
  have bels : Hid (Below w.heap.size w w) := Go.Lib.hid (Below.refl _ _)
  obtain ⟨⟨x, y, b⟩, hans⟩ : ∃ p, ansChanceAvoids a0 a1 = p := ⟨_, rfl⟩
  have C1 := Go.Lib.hid (specChanceAvoids a0 a1 x y b hans w0 hb1)
  have C2 := Go.Lib.hid (implChanceAvoids a0 a1 x y b hans w0 hb1)
  clear hans
  go_wp2_with fail
  refine (toIntSS_any _ _ a1 (hsee1.out) hb1).mono ?_
  rintro e W1 ⟨g1, rfl, o1, b1⟩
  have HW1 := Go.Lib.hid (And.intro (Below.trans (bels.out) ((b1).mono (Below.size (bels.out)))) o1)
  clear o1 b1
  go_wp2_with fail
  refine (C1.out _ _ (Rag.sees (HW1.out.2))).mono ?_
  rintro e W2 ⟨rfl, b2⟩
  have HX2 := Go.Lib.hid (HW1.out.1.trans (b2.mono HW1.out.1.size))
  clear b2 HW1
  have hA := arr2_alloc W2 (.int .i64 (x : Int)) (.int .i64 (y : Int))
  have hB := (HX2.out).alloc (HX2.out).size (.cells #[.int .i64 (x : Int), .int .i64 (y : Int)] 23)
  have hgle : w.heap.size ≤ W2.heap.size := (HX2.out).size
  go_wp2_with fail
  obtain ⟨V2, hV2⟩ : ∃ V, W2.alloc (.cells #[.int .i64 (x : Int), .int .i64 (y : Int)] 23) = V := ⟨_, rfl⟩
  rw [hV2] at hA hB ⊢
  obtain ⟨g2, hg2⟩ : ∃ g, W2.heap.size = g := ⟨_, rfl⟩
  rw [hg2] at hA hgle ⊢
  have HV2 := Go.Lib.hid (And.intro hB hA)
  clear hA hB hV2 hg2 HX2
  refine (toIntSS_any _ _ a1 (SeesLL.grow (hsee1.out) HV2.out.1) hb1).mono ?_
  rintro e W3 ⟨g3, rfl, o3, b3⟩
  have HW3 := Go.Lib.hid (And.intro (HV2.out.1.trans (b3.mono HV2.out.1.size)) (And.intro (arr2_call HV2.out.2 b3) o3))
  clear o3 b3 HV2
  go_wp2_with fail
  refine (C2.out _ _ (Rag.sees (HW3.out.2.2))).mono ?_
  rintro e W4 ⟨rfl, b4⟩
  have HX4 := Go.Lib.hid (And.intro (HW3.out.1.trans (b4.mono HW3.out.1.size)) (And.intro (arr2_call HW3.out.2.1 b4) (Rag.kept HW3.out.2.2 b4)))
  clear b4 HW3
  have hA := arr2_call HX4.out.2.1 ((Below.refl W4.heap.size W4).alloc (Nat.le_refl _) (.cells #[.int .i64 (x : Int), .int .i64 (y : Int)] 23))
  obtain ⟨k0, k1, _, _⟩ := arr2_cells hA
  have hbW : Below W4.heap.size W4 (W4.alloc (.cells #[.int .i64 (x : Int), .int .i64 (y : Int)] 23)) := (Below.refl _ _).alloc (Nat.le_refl _) _
  have HX5 := Go.Lib.hid (And.intro (HX4.out.1.trans (hbW.mono HX4.out.1.size)) (Rag.kept HX4.out.2.2 hbW))
  clear hA hbW
  go_wp2_with fail
  refine (eqIntA2_same _ (x : Int) (y : Int)).mono ?_
  rintro e W6 ⟨rfl, b6⟩
  have HX6 := Go.Lib.hid (And.intro (HX5.out.1.trans (b6.mono HX5.out.1.size)) (Rag.kept HX5.out.2 b6))
  clear b6 k0 k1 HX4 HX5
  go_wp2_with fail
  refine (toIntSS_any _ _ a1 (SeesLL.grow (hsee1.out) HX6.out.1) hb1).mono ?_
  rintro e W7 ⟨u7, rfl, o7, b7⟩
  have HX7 := Go.Lib.hid (And.intro (HX6.out.1.trans (b7.mono HX6.out.1.size)) (And.intro (Rag.kept HX6.out.2 b7) o7))
  clear o7 b7 HX6
  go_wp2_with fail
  refine (eqIntSS_ll _ _ _ a1 (Rag.sees (HX7.out.2.1)) (Rag.sees (HX7.out.2.2)) hb1).mono ?_
  rintro e W8 ⟨rfl, d8⟩
  have HX8 := Go.Lib.hid (HX7.out.1.trans (d8.below _))
  clear d8 HX7
  go_wp2_with fail
  go_ret
  exact ⟨rfl, HX8.out⟩

/-! ### From the walk to the row -/
set_option maxRecDepth 100000 in
theorem lifted (os : Os) (started : os.Started) (H : Type) (enc : TypeId × Value → H) :
    ReturnsInHanded {} Try.checked os 5 .any (Rows.fnExactChanceAvoidsSpec.pre6 enc Try.prog Try.f5 Rows.fnExactChanceAvoidsRow.domain false) (Rows.fnExactChanceAvoidsSpec.post enc Try.prog Try.f5 false true false false) := by
  refine returnsInHanded_of_change (C := Try.checked) own started (by kernel_rfl) Try.func5
    (ChangeSpec.witness6 (enc := enc) (C := Try.checked) false ⟨#[], #[.int .i64 0, .slice none 0 0], []⟩ 8 (by kernel_rfl) (by kernel_rfl) (by kernel_rfl) (by kernel_rfl)) ?_
  intro W base args ds gs before hval0 hW hcnd _
  have hval : ∀ (j : Nat) t v, Try.f5.params[j]? = some t → args[j]? = some v → Value.okWide Try.prog W .any base t v := hval0
  have hW' := hW
  obtain ⟨p, q, hA0, hV, rfl, hfz, hnd⟩ := hW
  have hA : DataW.TrodAll enc Try.prog W 0 (fun _ => true) true Try.f5.params.toList args.toList ds p := hA0
  rw [Try.params5] at hA hval
  obtain ⟨u0, vs0, d0, ds0, p0, q0, hargs, rfl, rfl, h0, r0⟩ := trodAll_cons hA
  obtain ⟨u1, vs1, d1, ds1, p1, q1, rfl, rfl, rfl, h1, r1⟩ := trodAll_cons r0
  obtain ⟨rfl, rfl, rfl⟩ := trodAll_nil r1
  obtain rfl : args = #[u0, u1] := by cases args; simp_all
  obtain ⟨rfl, rfl⟩ := trodVars_none hV
  obtain ⟨a0, rfl, rfl, rfl, w0⟩ := open_int Try.underlying3 (hval 0 3 u0 rfl rfl) h0
  have lt1 : ∀ x ∈ p1, x.block < W.heap.size := by obtain ⟨m, hm⟩ := h1; exact DataW.trod_lt m _ _ _ hm
  obtain ⟨n1, a1, s1, t1, w1⟩ := sees_rows Try.underlying32 Try.underlying22 Try.underlying3 (by kernel_rfl) (by kernel_rfl) (hval 1 32 u1 rfl rfl) h1
  clear hA0 hval0
  refine (walk a0 u1 n1 a1 W w0 s1 t1 w1).mono fun e W' ⟨he, bel⟩ => ?_
  subst he
  exact ⟨_, rfl, _, _, _, [], _, [], hW', trodAll_mk1 (shut_bool Try.underlying4 _), (trodAll_cons_mk (shut_int Try.underlying3 w0) (trodAll_cons_mk (Below.trod laidOut (by kernel_rfl) (of_decide_eq_true (by kernel_rfl)) h1 bel lt1) trodAll_mk0)), rfl, bel.frame _, fun h => by cases h⟩

theorem over : Rows.fnExactChanceAvoidsRow.holds Try.pinned (OpenSpec.ofChange Rows.fnExactChanceAvoidsSpec) :=
  OpenClaim.holds_of_wide 5 Try.f5 rfl rfl rfl rfl rfl rfl rfl ⟨rfl, rfl, rfl, rfl, rfl⟩ rfl rfl rfl rfl rfl (by kernel_rfl) Try.func5
    (show joinedFacts Try.prog 5 Try.f5 Rows.fnExactChanceAvoidsSpec Rows.fnExactChanceAvoidsRow = true by unfold joinedFacts; rw [SeatC.may, SeatC.lif, SeatC.mke]; kernel_rfl)
    (of_decide_eq_true (by kernel_rfl)) (by unfold Func.isWrapper; first | (rw [if_pos (by decide +kernel)]; kernel_rfl) | (rw [if_neg (by decide +kernel)]; exact ⟨rfl, rfl⟩))
    (fun os started H enc _ => lifted os started H enc)

/-- The statement. -/
theorem proved : Rows.FnExactChanceAvoidsSaid :=
  over
#print axioms proved
end Go.Proofs.Ytpkjnlabjmpokaa.fnExactChanceAvoids
