/-
  LimitProfile returns for all arguments what the model says, and writes nothing that was there before.
-/
import Derived.Test.YtnhhnffolmgceaaRows
import Derived.Test.YtnhhnffolmgceaaPl0
import Derived.Test.YtnhhnffolmgceaaPl11
import Derived.WalkKit
import Derived.ProofKit
import Derived.OpenShut
import Derived.ShutString
import Derived.ChangeOld
import Derived.Below
import Derived.Test.YtnhhnffolmgceaaPl12
import Derived.Test.YtnhhnffolmgceaaPl2
import Derived.Test.YtnhhnffolmgceaaPl43
import Derived.Test.YtnhhnffolmgceaaPl46

namespace Go.Proofs.Ytnhhnffolmgceaa.fnExactLimitProfile
open Go.ChangeShapes Go.WideShapes Go.ChangeAt Go.RowKit SeesC OpenC
open Go.ChangeMaps (open_string shut_string)
open IntsC ExactC OrdMath LimW LimSC LimJC
set_option linter.unusedVariables false

theorem own : ownKnob Try.prog.godebug = none := by kernel_rfl
theorem laidOut : laidOutB Try.prog = true := by kernel_rfl

/-! ### The walk -/
set_option maxHeartbeats 2000000 in
theorem walk (a0 : Int) (w : World) (w0 : (Lit.int .i64 a0).wf = true) :
    Calls Try.prog 15 #[.int .i64 a0] w fun e w' => e = .returned (.bool true) ∧ Below w.heap.size w w' := by
  have hvlt := fun (z : World) => Nat.le_refl z.heap.size
  have bels : Hid (Below w.heap.size w w) := Go.Lib.hid (Below.refl _ _)
  obtain ⟨⟨xs, b⟩, hans⟩ : ∃ p, profAns a0 = p := ⟨_, rfl⟩
  have C1 := Go.Lib.hid (specProf a0 xs b hans w0)
  have C2 := Go.Lib.hid (implProf a0 xs b hans w0)
  have hxl : xs.length ≤ 1048576 := prof_alen hans
  clear hans
  clear hvlt
  go_enter Try.func15, Try.ntmps15
  go_wp2_with fail
  refine (C1.out _ ).mono ?_
  rintro e W1 ⟨v1, rfl, o1, b1⟩
  have ZW1 := Go.Lib.hid (Below.size (b1))
  have Rw0 := Go.Lib.hid (fun q hq => World.ownsRow.lt (o1) q hq)
  have HW1 := Go.Lib.hid (And.intro (Below.trans (bels.out) ((b1).mono (Below.size (bels.out)))) (o1))
  clear o1 b1
  go_wp2_with fail
  refine (C2.out _ ).mono ?_
  rintro e W2 ⟨v2, rfl, o2, b2⟩
  have ZW2 := Go.Lib.hid (Below.size (b2))
  have Rg0 := Go.Lib.hid (fun q hq => World.ownsRow.lt (o2) q hq)
  have HW2 := Go.Lib.hid (And.intro (Below.trans (HW1.out.1) ((b2).mono (Below.size (HW1.out.1)))) (And.intro (kept_call (HW1.out.2) b2) (o2)))
  clear o2 b2
  go_wp2_with fail
  refine (eqIntS_same _ _ _ xs.length xs (Sees.owns (HW2.out.2.2)) (Sees.owns (HW2.out.2.1)) (by unfold maxLen; omega)).mono ?_
  rintro e W3 ⟨rfl, d3⟩
  have ZW3 := Go.Lib.hid (Below.size ((d3.below W2.heap.size)))
  have HW3 := Go.Lib.hid (And.intro (Below.trans (HW2.out.1) (((d3.below W2.heap.size)).mono (Below.size (HW2.out.1)))) (And.intro (kept_call (HW2.out.2.1) (d3.below W2.heap.size)) (kept_call (HW2.out.2.2) (d3.below W2.heap.size))))
  clear d3
  go_wp2_with fail
  refine (markIntS_any _ xs.length 1 _ _ _ (by omega) (by omega) (HW3.out.2.2)).mono ?_
  rintro e W4 ⟨rfl, om4, gm4⟩
  have ZW4 := Go.Lib.hid (World.grownBy.size gm4)
  have HW4 := Go.Lib.hid (And.intro (Below.grown (HW3.out.1) gm4 (Below.size (HW3.out.1)) (fun k hk => by have h2 := Rg0.out k hk; have := ZW1.out; have := ZW2.out; have := ZW3.out; omega)) (And.intro (own_mark (HW3.out.2.1) gm4 (fun a ha e => by have h1 := Rw0.out a ha; have h2 := Rg0.out a e; have := ZW1.out; have := ZW2.out; have := ZW3.out; omega)) (om4)))
  clear om4 gm4
  go_wp2_with fail
  refine (heldIntS_any xs.length 1 _ _ (by omega) (by omega) (Sees.owns (HW4.out.2.2))).mono ?_
  rintro e _ ⟨rfl, rfl⟩
  go_wp2_with fail
  refine (C2.out _ ).mono ?_
  rintro e W5 ⟨v5, rfl, o5, b5⟩
  have ZW5 := Go.Lib.hid (Below.size (b5))
  have Rh0 := Go.Lib.hid (fun q hq => World.ownsRow.lt (o5) q hq)
  have HW5 := Go.Lib.hid (And.intro (Below.trans (HW4.out.1) ((b5).mono (Below.size (HW4.out.1)))) (And.intro (kept_call (HW4.out.2.1) b5) (And.intro (kept_call (HW4.out.2.2) b5) (o5))))
  clear o5 b5
  go_wp2_with fail
  refine (eqIntS_same _ _ _ xs.length xs (Sees.owns (HW5.out.2.2.2)) (Sees.owns (HW5.out.2.1)) (by unfold maxLen; omega)).mono ?_
  rintro e W6 ⟨rfl, d6⟩
  have ZW6 := Go.Lib.hid (Below.size ((d6.below W5.heap.size)))
  have HW6 := Go.Lib.hid (And.intro (Below.trans (HW5.out.1) (((d6.below W5.heap.size)).mono (Below.size (HW5.out.1)))) (And.intro (kept_call (HW5.out.2.1) (d6.below W5.heap.size)) (And.intro (kept_call (HW5.out.2.2.1) (d6.below W5.heap.size)) (kept_call (HW5.out.2.2.2) (d6.below W5.heap.size)))))
  clear d6
  go_wp2_with fail
  refine (heldIntS_any xs.length 1 _ _ (by omega) (by omega) (Sees.owns (HW6.out.2.2.1))).mono ?_
  rintro e _ ⟨rfl, rfl⟩
  go_wp2_with fail
  go_ret
  exact ⟨rfl, HW6.out.1⟩

/-! ### From the walk to the row -/
set_option maxRecDepth 100000 in
theorem lifted (os : Os) (started : os.Started) (H : Type) (enc : TypeId × Value → H) :
    ReturnsInHanded {} Try.checked os 15 .any (Rows.fnExactLimitProfileSpec.pre6 enc Try.prog Try.f15 Rows.fnExactLimitProfileRow.domain false) (Rows.fnExactLimitProfileSpec.post enc Try.prog Try.f15 false true false false) := by
  refine returnsInHanded_of_change (C := Try.checked) own started (by kernel_rfl) Try.func15
    (ChangeSpec.witness6 (enc := enc) (C := Try.checked) false ⟨#[], #[.int .i64 0], []⟩ 8 (by kernel_rfl) (by kernel_rfl) (by kernel_rfl) (by kernel_rfl)) ?_
  intro W base args ds gs before hval0 hW hcnd _
  have hval : ∀ (j : Nat) t v, Try.f15.params[j]? = some t → args[j]? = some v → Value.okWide Try.prog W .any base t v := hval0
  have hW' := hW
  obtain ⟨p, q, hA0, hV, rfl, hfz, hnd⟩ := hW
  have hA : DataW.TrodAll enc Try.prog W 0 (fun _ => true) true Try.f15.params.toList args.toList ds p := hA0
  rw [Try.params15] at hA hval
  obtain ⟨u0, vs0, d0, ds0, p0, q0, hargs, rfl, rfl, h0, r0⟩ := trodAll_cons hA
  obtain ⟨rfl, rfl, rfl⟩ := trodAll_nil r0
  obtain rfl : args = #[u0] := by cases args; simp_all
  obtain ⟨rfl, rfl⟩ := trodVars_none hV
  obtain ⟨a0, rfl, rfl, rfl, w0⟩ := open_int Try.underlying3 (hval 0 3 u0 rfl rfl) h0
  clear hA0 hval0
  refine (walk a0 W w0).mono fun e W' ⟨he, bel⟩ => ?_
  subst he
  exact ⟨_, rfl, _, _, _, [], _, [], hW', trodAll_mk1 (shut_bool Try.underlying4 _), (trodAll_cons_mk (shut_int Try.underlying3 w0) trodAll_mk0), rfl, bel.frame _, fun h => by cases h⟩

theorem over : Rows.fnExactLimitProfileRow.holds Try.pinned (OpenSpec.ofChange Rows.fnExactLimitProfileSpec) :=
  OpenClaim.holds_of_wide 15 Try.f15 rfl rfl rfl rfl rfl rfl rfl ⟨rfl, rfl, rfl, rfl, rfl⟩ rfl rfl rfl rfl rfl (by kernel_rfl) Try.func15
    (show joinedFacts Try.prog 15 Try.f15 Rows.fnExactLimitProfileSpec Rows.fnExactLimitProfileRow = true by unfold joinedFacts; rw [SeatC.may, SeatC.lif, SeatC.mke]; kernel_rfl)
    (of_decide_eq_true (by kernel_rfl)) (by unfold Func.isWrapper; first | (rw [if_pos (by decide +kernel)]; kernel_rfl) | (rw [if_neg (by decide +kernel)]; exact ⟨rfl, rfl⟩))
    (fun os started H enc _ => lifted os started H enc)

/-- The statement. -/
theorem proved : Rows.FnExactLimitProfileSaid :=
  over
#print axioms proved
end Go.Proofs.Ytnhhnffolmgceaa.fnExactLimitProfile
