/-
  MeanKept returns for all arguments what the model says, and writes nothing that was there before.
-/
import Derived.Test.YtpkjnlabjmpokaaRows
import Derived.Test.YtpkjnlabjmpokaaPx0
import Derived.Test.YtpkjnlabjmpokaaPx11
import Derived.WalkKit
import Derived.ProofKit
import Derived.OpenShut
import Derived.ShutString
import Derived.ChangeOld
import Derived.Below
import Derived.Test.YtpkjnlabjmpokaaPx12
import Derived.Test.YtpkjnlabjmpokaaPx2
import Derived.Test.YtpkjnlabjmpokaaPx18
import Derived.Test.YtpkjnlabjmpokaaPx67

namespace Go.Proofs.Ytpkjnlabjmpokaa.fnExactMeanKept
open Go.ChangeShapes Go.WideShapes Go.ChangeAt Go.RowKit SeesC OpenC
open Go.ChangeMaps (open_string shut_string)
open IntsC ExactC OrdMath AllO ChM ChQ Arr2C EqA2LC ChMeanKeptIC ChMeanKeptSC
set_option linter.unusedVariables false

theorem own : ownKnob Try.prog.godebug = none := by kernel_rfl
theorem laidOut : laidOutB Try.prog = true := by kernel_rfl

/-! ### The walk -/
set_option maxRecDepth 100000 in
set_option maxHeartbeats 4000000 in
theorem walk (a0 : Int) (w : World) (w0 : (Lit.int .i64 a0).wf = true) :
    Calls Try.prog 14 #[.int .i64 a0] w fun e w' => e = .returned (.bool true) ∧ Below w.heap.size w w' := by
  have bels : Hid (Below w.heap.size w w) := Go.Lib.hid (Below.refl _ _)
  obtain ⟨⟨x, y, b⟩, hans⟩ : ∃ p, chAns a0 (fun m => meanL (EndsM.allW m) tellMeanKept) = p := ⟨_, rfl⟩
  have C1 := Go.Lib.hid (fun (X : World) => specMeanKept a0 x y b hans w0 X)
  have C2 := Go.Lib.hid (fun (X : World) => implMeanKept a0 x y b hans w0 X)
  clear hans
  go_enter Try.func14, Try.ntmps14
  go_wp2_with fail
  refine (C1.out _).mono ?_
  rintro e W2 ⟨rfl, b2⟩
  have hA := arr2_alloc W2 (.int .i64 (x : Int)) (.int .i64 (y : Int))
  have hB := b2.alloc b2.size (.cells #[.int .i64 (x : Int), .int .i64 (y : Int)] 23)
  have hgle : w.heap.size ≤ W2.heap.size := b2.size
  clear b2
  go_wp2_with fail
  obtain ⟨V2, hV2⟩ : ∃ V, W2.alloc (.cells #[.int .i64 (x : Int), .int .i64 (y : Int)] 23) = V := ⟨_, rfl⟩
  rw [hV2] at hA hB ⊢
  obtain ⟨g2, hg2⟩ : ∃ g, W2.heap.size = g := ⟨_, rfl⟩
  rw [hg2] at hA hgle ⊢
  have HV2 := Go.Lib.hid (And.intro hB hA)
  clear hA hB hV2 hg2
  refine (C2.out _).mono ?_
  rintro e W4 ⟨rfl, b4⟩
  have HX4 := Go.Lib.hid (And.intro (HV2.out.1.trans (b4.mono HV2.out.1.size)) (arr2_call HV2.out.2 b4))
  clear b4
  have hA := arr2_call HX4.out.2 ((Below.refl W4.heap.size W4).alloc (Nat.le_refl _) (.cells #[.int .i64 (x : Int), .int .i64 (y : Int)] 23))
  obtain ⟨k0, k1, _, _⟩ := arr2_cells hA
  have HX5 := Go.Lib.hid ((HX4.out.1).alloc HX4.out.1.size (.cells #[.int .i64 (x : Int), .int .i64 (y : Int)] 23))
  clear hA
  go_wp2_with fail
  refine (eqIntA2_same _ (x : Int) (y : Int)).mono ?_
  rintro e W6 ⟨rfl, b6⟩
  have HX6 := Go.Lib.hid (HX5.out.trans (b6.mono HX5.out.size))
  clear b6 k0 k1
  go_wp2_with fail
  go_ret
  exact ⟨rfl, HX6.out⟩

/-! ### From the walk to the row -/
set_option maxRecDepth 100000 in
theorem lifted (os : Os) (started : os.Started) (H : Type) (enc : TypeId × Value → H) :
    ReturnsInHanded {} Try.checked os 14 .any (Rows.fnExactMeanKeptSpec.pre6 enc Try.prog Try.f14 Rows.fnExactMeanKeptRow.domain false) (Rows.fnExactMeanKeptSpec.post enc Try.prog Try.f14 false true false false) := by
  refine returnsInHanded_of_change (C := Try.checked) own started (by kernel_rfl) Try.func14
    (ChangeSpec.witness6 (enc := enc) (C := Try.checked) false ⟨#[], #[.int .i64 0], []⟩ 8 (by kernel_rfl) (by kernel_rfl) (by kernel_rfl) (by kernel_rfl)) ?_
  intro W base args ds gs before hval0 hW hcnd _
  have hval : ∀ (j : Nat) t v, Try.f14.params[j]? = some t → args[j]? = some v → Value.okWide Try.prog W .any base t v := hval0
  have hW' := hW
  obtain ⟨p, q, hA0, hV, rfl, hfz, hnd⟩ := hW
  have hA : DataW.TrodAll enc Try.prog W 0 (fun _ => true) true Try.f14.params.toList args.toList ds p := hA0
  rw [Try.params14] at hA hval
  obtain ⟨u0, vs0, d0, ds0, p0, q0, hargs, rfl, rfl, h0, r0⟩ := trodAll_cons hA
  obtain ⟨rfl, rfl, rfl⟩ := trodAll_nil r0
  obtain rfl : args = #[u0] := by cases args; simp_all
  obtain ⟨rfl, rfl⟩ := trodVars_none hV
  obtain ⟨a0, rfl, rfl, rfl, w0⟩ := open_int Try.underlying3 (hval 0 3 u0 rfl rfl) h0
  clear hA0 hval0
  refine (walk a0 W w0).mono fun e W' ⟨he, bel⟩ => ?_
  subst he
  exact ⟨_, rfl, _, _, _, [], _, [], hW', trodAll_mk1 (shut_bool Try.underlying4 _), (trodAll_cons_mk (shut_int Try.underlying3 w0) trodAll_mk0), rfl, bel.frame _, fun h => by cases h⟩

theorem over : Rows.fnExactMeanKeptRow.holds Try.pinned (OpenSpec.ofChange Rows.fnExactMeanKeptSpec) :=
  OpenClaim.holds_of_wide 14 Try.f14 rfl rfl rfl rfl rfl rfl rfl ⟨rfl, rfl, rfl, rfl, rfl⟩ rfl rfl rfl rfl rfl (by kernel_rfl) Try.func14
    (show joinedFacts Try.prog 14 Try.f14 Rows.fnExactMeanKeptSpec Rows.fnExactMeanKeptRow = true by unfold joinedFacts; rw [SeatC.may, SeatC.lif, SeatC.mke]; kernel_rfl)
    (of_decide_eq_true (by kernel_rfl)) (by unfold Func.isWrapper; first | (rw [if_pos (by decide +kernel)]; kernel_rfl) | (rw [if_neg (by decide +kernel)]; exact ⟨rfl, rfl⟩))
    (fun os started H enc _ => lifted os started H enc)

/-- The statement. -/
theorem proved : Rows.FnExactMeanKeptSaid :=
  over
#print axioms proved
end Go.Proofs.Ytpkjnlabjmpokaa.fnExactMeanKept
