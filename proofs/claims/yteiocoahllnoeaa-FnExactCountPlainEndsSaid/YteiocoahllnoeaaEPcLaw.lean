/-
  At every number CountPlainEnds answers as the model. Conditions: none.
-/
import Derived.Test.YteiocoahllnoeaaRows
import Derived.Test.YteiocoahllnoeaaSeat
import Derived.Test.YteiocoahllnoeaaOpen
import Derived.WalkKit
import Derived.ProofKit
import Derived.OpenShut
import Derived.ShutString
import Derived.ChangeOld
import Derived.Below
import Derived.Test.YteiocoahllnoeaaExact
import Derived.Test.YteiocoahllnoeaaOrd
import Derived.Test.YteiocoahllnoeaaEPc
namespace Go.Proofs.Yteiocoahllnoeaa.fnExactCountPlainEnds
open Go.ChangeShapes Go.WideShapes Go.ChangeAt Go.RowKit SeesC OpenC
open Go.ChangeMaps (open_string shut_string)
open IntsC ExactC OrdMath EPcM EPcC
set_option linter.unusedVariables false

theorem own : ownKnob Try.prog.godebug = none := by kernel_rfl
theorem laidOut : laidOutB Try.prog = true := by kernel_rfl

/-! ### The walk -/
set_option maxHeartbeats 2000000 in
theorem walk (a0 : Int) (w : World) (w0 : (Lit.int .i64 a0).wf = true) :
    Calls Try.prog 9 #[.int .i64 a0] w fun e w' => e = .returned (.bool true) ∧ Below w.heap.size w w' := by
  have hvlt := fun (z : World) => Nat.le_refl z.heap.size
  have bels : Hid (Below w.heap.size w w) := Go.Lib.hid (Below.refl _ _)
  obtain ⟨⟨r, b⟩, hans⟩ : ∃ p, cpAns a0 = p := ⟨_, rfl⟩
  have C1 := Go.Lib.hid (specCPE a0 r b hans w0)
  have C2 := Go.Lib.hid (implCPE a0 r b hans w0)
  clear hans
  clear hvlt
  go_enter Try.func9, Try.ntmps9
  go_wp2_with fail
  refine (C1.out _ ).mono ?_
  rintro e W1 ⟨rfl, b1⟩
  have ZW1 := Go.Lib.hid (Below.size (b1))
  have HW1 := Go.Lib.hid (Below.trans (bels.out) ((b1).mono (Below.size (bels.out))))
  clear b1
  go_wp2_with fail
  refine (C2.out _ ).mono ?_
  rintro e W2 ⟨rfl, b2⟩
  have ZW2 := Go.Lib.hid (Below.size (b2))
  have HW2 := Go.Lib.hid (Below.trans (HW1.out) ((b2).mono (Below.size (HW1.out))))
  clear b2
  go_wp2_with fail
  go_ret
  exact ⟨rfl, HW2.out⟩

/-! ### From the walk to the row -/
set_option maxRecDepth 100000 in
theorem lifted (os : Os) (started : os.Started) (H : Type) (enc : TypeId × Value → H) :
    ReturnsInHanded {} Try.checked os 9 .any (Rows.fnExactCountPlainEndsSpec.pre6 enc Try.prog Try.f9 Rows.fnExactCountPlainEndsRow.domain false) (Rows.fnExactCountPlainEndsSpec.post enc Try.prog Try.f9 false true false false) := by
  refine returnsInHanded_of_change (C := Try.checked) own started (by kernel_rfl) Try.func9
    (ChangeSpec.witness6 (enc := enc) (C := Try.checked) false ⟨#[], #[.int .i64 0], []⟩ 8 (by kernel_rfl) (by kernel_rfl) (by kernel_rfl) (by kernel_rfl)) ?_
  intro W base args ds gs before hval0 hW hcnd _
  have hval : ∀ (j : Nat) t v, Try.f9.params[j]? = some t → args[j]? = some v → Value.okWide Try.prog W .any base t v := hval0
  have hW' := hW
  obtain ⟨p, q, hA0, hV, rfl, hfz, hnd⟩ := hW
  have hA : DataW.TrodAll enc Try.prog W 0 (fun _ => true) true Try.f9.params.toList args.toList ds p := hA0
  rw [Try.params9] at hA hval
  obtain ⟨u0, vs0, d0, ds0, p0, q0, hargs, rfl, rfl, h0, r0⟩ := trodAll_cons hA
  obtain ⟨rfl, rfl, rfl⟩ := trodAll_nil r0
  obtain rfl : args = #[u0] := by cases args; simp_all
  obtain ⟨rfl, rfl⟩ := trodVars_none hV
  obtain ⟨a0, rfl, rfl, rfl, w0⟩ := open_int Try.underlying3 (hval 0 3 u0 rfl rfl) h0
  clear hA0 hval0
  refine (walk a0 W w0).mono fun e W' ⟨he, bel⟩ => ?_
  subst he
  exact ⟨_, rfl, _, _, _, [], _, [], hW', trodAll_mk1 (shut_bool Try.underlying4 _), (trodAll_cons_mk (shut_int Try.underlying3 w0) trodAll_mk0), rfl, bel.frame _, fun h => by cases h⟩

theorem over : Rows.fnExactCountPlainEndsRow.holds Try.pinned (OpenSpec.ofChange Rows.fnExactCountPlainEndsSpec) :=
  OpenClaim.holds_of_wide 9 Try.f9 rfl rfl rfl rfl rfl rfl rfl ⟨rfl, rfl, rfl, rfl, rfl⟩ rfl rfl rfl rfl rfl (by kernel_rfl) Try.func9
    (show joinedFacts Try.prog 9 Try.f9 Rows.fnExactCountPlainEndsSpec Rows.fnExactCountPlainEndsRow = true by unfold joinedFacts; rw [SeatC.may, SeatC.lif, SeatC.mke]; kernel_rfl)
    (of_decide_eq_true (by kernel_rfl)) (by unfold Func.isWrapper; first | (rw [if_pos (by decide +kernel)]; kernel_rfl) | (rw [if_neg (by decide +kernel)]; exact ⟨rfl, rfl⟩))
    (fun os started H enc _ => lifted os started H enc)

/-- The statement. -/
theorem proved : Rows.FnExactCountPlainEndsSaid :=
  over
#print axioms proved
end Go.Proofs.Yteiocoahllnoeaa.fnExactCountPlainEnds
