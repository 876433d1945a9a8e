/-
  On every argument AreCuts answers as its model, leaves its arguments as they were, and owns its answer. Conditions: none.
-/
import Derived.Test.YtecbfoodkcgehaaRows
import Derived.Test.YtecbfoodkcgehaaSeat
import Derived.Test.YtecbfoodkcgehaaOpen
import Derived.WalkKit
import Derived.ProofKit
import Derived.OpenShut
import Derived.ShutString
import Derived.ChangeOld
import Derived.Below
import Derived.Test.YtecbfoodkcgehaaExact
import Derived.Test.YtecbfoodkcgehaaOrd
import Derived.Test.YtecbfoodkcgehaaCutsP
namespace Go.Proofs.Ytecbfoodkcgehaa.fnExactAreCuts
open Go.ChangeShapes Go.WideShapes Go.ChangeAt Go.RowKit SeesC OpenC
open Go.ChangeMaps (open_string shut_string)
open IntsC ExactC OrdMath CutsM CutsSC CutsIC CutsPC
set_option linter.unusedVariables false

theorem own : ownKnob Try.prog.godebug = none := by kernel_rfl
theorem laidOut : laidOutB Try.prog = true := by kernel_rfl

/-! ### The walk -/
set_option maxHeartbeats 2000000 in
theorem walk (a0 : Int) (v1 : Value) (n1 : Nat) (a1 : List Int) (w : World) (w0 : (Lit.int .i64 a0).wf = true) (s1 : Sees w v1 n1 (a1.map (Value.int .i64))) (t1 : n1 ≤ maxLen) (w1 : ∀ z ∈ a1, (Lit.int .i64 z).wf = true) :
    Calls Try.prog 5 #[.int .i64 a0, v1] w fun e w' => e = .returned (.bool true) ∧ Below w.heap.size w w' := by
  have hl1 : a1.length = n1 := by simpa using s1.1
  have hvlt := fun (z : World) => Nat.le_refl z.heap.size
  have hsee1 := Go.Lib.hid s1
  by_cases big1 : (1048576 : Int) < (n1 : Int)
  · clear hvlt
    obtain ⟨_, adr1, cap1, rfl, _, _⟩ := s1
    unfold maxLen at t1
    go_enter Try.func5, Try.ntmps5
    go_wp2
    go_ret
    exact ⟨rfl, Below.refl _ _⟩
  have bels : Hid (Below w.heap.size w w) := Go.Lib.hid (Below.refl _ _)
  obtain ⟨b, hans⟩ : ∃ p, cutsB a0 a1 = p := ⟨_, rfl⟩
  have hb1 : n1 ≤ 1048576 := by omega
  have C1 := Go.Lib.hid (specAreCuts a0 a1 b hans w0 (hl1 ▸ hb1))
  have C2 := Go.Lib.hid (implAreCuts a0 a1 b hans w0 (hl1 ▸ hb1))
  clear hans
  have hlt1 : 0 < n1 → ∀ q, v1.ownBlock = some q → q < w.heap.size := fun h q hq => s1.lt h q hq
  have HLT1 := Go.Lib.hid hlt1
  clear hlt1
  obtain ⟨_, adr1, cap1, rfl, _, _⟩ := s1
  unfold maxLen at t1
  clear hvlt
  go_enter Try.func5, Try.ntmps5
  go_wp2_with fail
  refine (toIntS_any _ _ n1 a1 (hsee1.out) hb1).mono ?_
  rintro e W1 ⟨g1, rfl, o1, b1⟩
  have ZW1 := Go.Lib.hid (Below.size (b1))
  have Rs1 := Go.Lib.hid (fun q hq => World.ownsRow.lt (o1) q hq)
  have HW1 := Go.Lib.hid (And.intro (Below.trans (bels.out) ((b1).mono (Below.size (bels.out)))) (And.intro (Sees.grow (hsee1.out) b1) (o1)))
  clear o1 b1
  go_wp2_with fail
  refine (C1.out _ _ _ (Sees.owns (HW1.out.2.2))).mono ?_
  rintro e W2 ⟨rfl, b2⟩
  have ZW2 := Go.Lib.hid (Below.size (b2))
  have HW2 := Go.Lib.hid (And.intro (Below.trans (HW1.out.1) ((b2).mono (Below.size (HW1.out.1)))) (And.intro (Sees.grow (HW1.out.2.1) b2) (kept_call (HW1.out.2.2) b2)))
  clear b2
  go_wp2_with fail
  refine (toIntS_any _ _ n1 a1 (HW2.out.2.1) hb1).mono ?_
  rintro e W3 ⟨g3, rfl, o3, b3⟩
  have ZW3 := Go.Lib.hid (Below.size (b3))
  have Rx1 := Go.Lib.hid (fun q hq => World.ownsRow.lt (o3) q hq)
  have HW3 := Go.Lib.hid (And.intro (Below.trans (HW2.out.1) ((b3).mono (Below.size (HW2.out.1)))) (And.intro (Sees.grow (HW2.out.2.1) b3) (o3)))
  clear o3 b3
  go_wp2_with fail
  refine (C2.out _ _ _ (Sees.owns (HW3.out.2.2))).mono ?_
  rintro e W4 ⟨rfl, b4⟩
  have ZW4 := Go.Lib.hid (Below.size (b4))
  have HW4 := Go.Lib.hid (And.intro (Below.trans (HW3.out.1) ((b4).mono (Below.size (HW3.out.1)))) (And.intro (Sees.grow (HW3.out.2.1) b4) (kept_call (HW3.out.2.2) b4)))
  clear b4
  go_wp2_with fail
  refine (toIntS_any _ _ n1 a1 (HW4.out.2.1) hb1).mono ?_
  rintro e W5 ⟨g5, rfl, o5, b5⟩
  have ZW5 := Go.Lib.hid (Below.size (b5))
  have Ry1 := Go.Lib.hid (fun q hq => World.ownsRow.lt (o5) q hq)
  have HW5 := Go.Lib.hid (And.intro (Below.trans (HW4.out.1) ((b5).mono (Below.size (HW4.out.1)))) (And.intro (Sees.grow (HW4.out.2.1) b5) (And.intro (kept_call (HW4.out.2.2) b5) (o5))))
  clear o5 b5
  go_wp2_with fail
  refine (eqIntS_same _ _ _ n1 a1 (Sees.owns (HW5.out.2.2.1)) (Sees.owns (HW5.out.2.2.2)) (by unfold maxLen; omega)).mono ?_
  rintro e W6 ⟨rfl, d6⟩
  have ZW6 := Go.Lib.hid (Below.size ((d6.below W5.heap.size)))
  have HW6 := Go.Lib.hid (And.intro (Below.trans (HW5.out.1) (((d6.below W5.heap.size)).mono (Below.size (HW5.out.1)))) (And.intro (Sees.grow (HW5.out.2.1) (d6.below W5.heap.size)) (And.intro (kept_call (HW5.out.2.2.1) (d6.below W5.heap.size)) (kept_call (HW5.out.2.2.2) (d6.below W5.heap.size)))))
  clear d6
  go_wp2_with fail
  go_ret
  exact ⟨rfl, HW6.out.1⟩

/-! ### From the walk to the row -/
set_option maxRecDepth 100000 in
theorem lifted (os : Os) (started : os.Started) (H : Type) (enc : TypeId × Value → H) :
    ReturnsInHanded {} Try.checked os 5 .any (Rows.fnExactAreCutsSpec.pre6 enc Try.prog Try.f5 Rows.fnExactAreCutsRow.domain false) (Rows.fnExactAreCutsSpec.post enc Try.prog Try.f5 false true false false) := by
  refine returnsInHanded_of_change (C := Try.checked) own started (by kernel_rfl) Try.func5
    (ChangeSpec.witness6 (enc := enc) (C := Try.checked) false ⟨#[], #[.int .i64 0, .slice none 0 0], []⟩ 8 (by kernel_rfl) (by kernel_rfl) (by kernel_rfl) (by kernel_rfl)) ?_
  intro W base args ds gs before hval0 hW hcnd _
  have hval : ∀ (j : Nat) t v, Try.f5.params[j]? = some t → args[j]? = some v → Value.okWide Try.prog W .any base t v := hval0
  have hW' := hW
  obtain ⟨p, q, hA0, hV, rfl, hfz, hnd⟩ := hW
  have hA : DataW.TrodAll enc Try.prog W 0 (fun _ => true) true Try.f5.params.toList args.toList ds p := hA0
  rw [Try.params5] at hA hval
  obtain ⟨u0, vs0, d0, ds0, p0, q0, hargs, rfl, rfl, h0, r0⟩ := trodAll_cons hA
  obtain ⟨u1, vs1, d1, ds1, p1, q1, rfl, rfl, rfl, h1, r1⟩ := trodAll_cons r0
  obtain ⟨rfl, rfl, rfl⟩ := trodAll_nil r1
  obtain rfl : args = #[u0, u1] := by cases args; simp_all
  obtain ⟨rfl, rfl⟩ := trodVars_none hV
  obtain ⟨a0, rfl, rfl, rfl, w0⟩ := open_int Try.underlying3 (hval 0 3 u0 rfl rfl) h0
  have lt1 : ∀ x ∈ p1, x.block < W.heap.size := by obtain ⟨m, hm⟩ := h1; exact DataW.trod_lt m _ _ _ hm
  obtain ⟨n1, a1, s1, t1, w1⟩ := sees_ints Try.underlying24 Try.underlying3 (by kernel_rfl) (hval 1 24 u1 rfl rfl) h1
  clear hA0 hval0
  refine (walk a0 u1 n1 a1 W w0 s1 t1 w1).mono fun e W' ⟨he, bel⟩ => ?_
  subst he
  exact ⟨_, rfl, _, _, _, [], _, [], hW', trodAll_mk1 (shut_bool Try.underlying4 _), (trodAll_cons_mk (shut_int Try.underlying3 w0) (trodAll_cons_mk (Below.trod laidOut (by kernel_rfl) (of_decide_eq_true (by kernel_rfl)) h1 bel lt1) trodAll_mk0)), rfl, bel.frame _, fun h => by cases h⟩

theorem over : Rows.fnExactAreCutsRow.holds Try.pinned (OpenSpec.ofChange Rows.fnExactAreCutsSpec) :=
  OpenClaim.holds_of_wide 5 Try.f5 rfl rfl rfl rfl rfl rfl rfl ⟨rfl, rfl, rfl, rfl, rfl⟩ rfl rfl rfl rfl rfl (by kernel_rfl) Try.func5
    (show joinedFacts Try.prog 5 Try.f5 Rows.fnExactAreCutsSpec Rows.fnExactAreCutsRow = true by unfold joinedFacts; rw [SeatC.may, SeatC.lif, SeatC.mke]; kernel_rfl)
    (of_decide_eq_true (by kernel_rfl)) (by unfold Func.isWrapper; first | (rw [if_pos (by decide +kernel)]; kernel_rfl) | (rw [if_neg (by decide +kernel)]; exact ⟨rfl, rfl⟩))
    (fun os started H enc _ => lifted os started H enc)

/-- The statement. -/
theorem proved : Rows.FnExactAreCutsSaid :=
  over
#print axioms proved
end Go.Proofs.Ytecbfoodkcgehaa.fnExactAreCuts
