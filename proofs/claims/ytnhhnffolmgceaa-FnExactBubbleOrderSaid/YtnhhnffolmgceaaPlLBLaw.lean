/-
  BubbleOrder returns for all arguments what the model says, and writes nothing that was there before.
-/
import Derived.Test.YtnhhnffolmgceaaRows
import Derived.Test.YtnhhnffolmgceaaPl0
import Derived.Test.YtnhhnffolmgceaaPl11
import Derived.WalkKit
import Derived.ProofKit
import Derived.OpenShut
import Derived.ShutString
import Derived.ChangeOld
import Derived.Below
import Derived.Test.YtnhhnffolmgceaaPl12
import Derived.Test.YtnhhnffolmgceaaPl2
import Derived.Test.YtnhhnffolmgceaaPl38

namespace Go.Proofs.Ytnhhnffolmgceaa.fnExactBubbleOrder
open Go.ChangeShapes Go.WideShapes Go.ChangeAt Go.RowKit SeesC OpenC
open Go.ChangeMaps (open_string shut_string)
open IntsC ExactC OrdMath LimM LimBC
set_option linter.unusedVariables false

theorem own : ownKnob Try.prog.godebug = none := by kernel_rfl
theorem laidOut : laidOutB Try.prog = true := by kernel_rfl

/-! ### The walk -/
set_option maxHeartbeats 2000000 in
theorem walk (v0 : Value) (n0 : Nat) (a0 : List Int) (w : World) (s0 : Sees w v0 n0 (a0.map (Value.int .i64))) (t0 : n0 ≤ maxLen) (w0 : ∀ z ∈ a0, (Lit.int .i64 z).wf = true) :
    Calls Try.prog 16 #[v0] w fun e w' => e = .returned (.bool true) ∧ Below w.heap.size w w' := by
  have hl0 : a0.length = n0 := by simpa using s0.1
  have hvlt := fun (z : World) => Nat.le_refl z.heap.size
  have hsee0 := Go.Lib.hid s0
  by_cases big0 : (1048576 : Int) < (n0 : Int)
  · clear hvlt
    obtain ⟨_, adr0, cap0, rfl, _, _⟩ := s0
    unfold maxLen at t0
    go_enter Try.func16, Try.ntmps16
    go_wp2
    go_ret
    exact ⟨rfl, Below.refl _ _⟩
  have bels : Hid (Below w.heap.size w w) := Go.Lib.hid (Below.refl _ _)
  obtain ⟨⟨xs, b⟩, hans⟩ : ∃ p, bubAns a0 = p := ⟨_, rfl⟩
  have hb0 : n0 ≤ 1048576 := by omega
  have C1 := Go.Lib.hid (specBub a0 xs b hans (hl0 ▸ hb0))
  have C2 := Go.Lib.hid (implBub a0 xs b hans (hl0 ▸ hb0))
  have hxl : xs.length ≤ 1048576 := bub_alen hans
  clear hans
  have hlt0 : 0 < n0 → ∀ q, v0.ownBlock = some q → q < w.heap.size := fun h q hq => s0.lt h q hq
  have HLT0 := Go.Lib.hid hlt0
  clear hlt0
  obtain ⟨_, adr0, cap0, rfl, _, _⟩ := s0
  unfold maxLen at t0
  clear hvlt
  go_enter Try.func16, Try.ntmps16
  go_wp2_with fail
  refine (toIntS_any _ _ n0 a0 (hsee0.out) hb0).mono ?_
  rintro e W1 ⟨g1, rfl, o1, b1⟩
  have ZW1 := Go.Lib.hid (Below.size (b1))
  have Rs0 := Go.Lib.hid (fun q hq => World.ownsRow.lt (o1) q hq)
  have HW1 := Go.Lib.hid (And.intro (Below.trans (bels.out) ((b1).mono (Below.size (bels.out)))) (And.intro (Sees.grow (hsee0.out) b1) (o1)))
  clear o1 b1
  go_wp2_with fail
  refine (C1.out _ _ _ (Sees.owns (HW1.out.2.2))).mono ?_
  rintro e W2 ⟨v2, rfl, o2, b2⟩
  have ZW2 := Go.Lib.hid (Below.size (b2))
  have Rw0 := Go.Lib.hid (fun q hq => World.ownsRow.lt (o2) q hq)
  have HW2 := Go.Lib.hid (And.intro (Below.trans (HW1.out.1) ((b2).mono (Below.size (HW1.out.1)))) (And.intro (Sees.grow (HW1.out.2.1) b2) (And.intro (kept_call (HW1.out.2.2) b2) (o2))))
  clear o2 b2
  go_wp2_with fail
  refine (toIntS_any _ _ n0 a0 (HW2.out.2.1) hb0).mono ?_
  rintro e W3 ⟨g3, rfl, o3, b3⟩
  have ZW3 := Go.Lib.hid (Below.size (b3))
  have Rx0 := Go.Lib.hid (fun q hq => World.ownsRow.lt (o3) q hq)
  have HW3 := Go.Lib.hid (And.intro (Below.trans (HW2.out.1) ((b3).mono (Below.size (HW2.out.1)))) (And.intro (Sees.grow (HW2.out.2.1) b3) (And.intro (kept_call (HW2.out.2.2.2) b3) (o3))))
  clear o3 b3
  go_wp2_with fail
  refine (C2.out _ _ _ (Sees.owns (HW3.out.2.2.2))).mono ?_
  rintro e W4 ⟨v4, rfl, o4, b4⟩
  have ZW4 := Go.Lib.hid (Below.size (b4))
  have Rg0 := Go.Lib.hid (fun q hq => World.ownsRow.lt (o4) q hq)
  have HW4 := Go.Lib.hid (And.intro (Below.trans (HW3.out.1) ((b4).mono (Below.size (HW3.out.1)))) (And.intro (Sees.grow (HW3.out.2.1) b4) (And.intro (kept_call (HW3.out.2.2.1) b4) (And.intro (kept_call (HW3.out.2.2.2) b4) (o4)))))
  clear o4 b4
  go_wp2_with fail
  refine (eqIntS_same _ _ _ xs.length xs (Sees.owns (HW4.out.2.2.2.2)) (Sees.owns (HW4.out.2.2.1)) (by unfold maxLen; omega)).mono ?_
  rintro e W5 ⟨rfl, d5⟩
  have ZW5 := Go.Lib.hid (Below.size ((d5.below W4.heap.size)))
  have HW5 := Go.Lib.hid (And.intro (Below.trans (HW4.out.1) (((d5.below W4.heap.size)).mono (Below.size (HW4.out.1)))) (And.intro (Sees.grow (HW4.out.2.1) (d5.below W4.heap.size)) (And.intro (kept_call (HW4.out.2.2.1) (d5.below W4.heap.size)) (And.intro (kept_call (HW4.out.2.2.2.1) (d5.below W4.heap.size)) (kept_call (HW4.out.2.2.2.2) (d5.below W4.heap.size))))))
  clear d5
  go_wp2_with fail
  refine (toIntS_any _ _ n0 a0 (HW5.out.2.1) hb0).mono ?_
  rintro e W6 ⟨g6, rfl, o6, b6⟩
  have ZW6 := Go.Lib.hid (Below.size (b6))
  have Ry0 := Go.Lib.hid (fun q hq => World.ownsRow.lt (o6) q hq)
  have HW6 := Go.Lib.hid (And.intro (Below.trans (HW5.out.1) ((b6).mono (Below.size (HW5.out.1)))) (And.intro (Sees.grow (HW5.out.2.1) b6) (And.intro (kept_call (HW5.out.2.2.1) b6) (And.intro (kept_call (HW5.out.2.2.2.1) b6) (And.intro (kept_call (HW5.out.2.2.2.2) b6) (o6))))))
  clear o6 b6
  go_wp2_with fail
  refine (eqIntS_same _ _ _ n0 a0 (Sees.owns (HW6.out.2.2.2.1)) (Sees.owns (HW6.out.2.2.2.2.2)) (by unfold maxLen; omega)).mono ?_
  rintro e W7 ⟨rfl, d7⟩
  have ZW7 := Go.Lib.hid (Below.size ((d7.below W6.heap.size)))
  have HW7 := Go.Lib.hid (And.intro (Below.trans (HW6.out.1) (((d7.below W6.heap.size)).mono (Below.size (HW6.out.1)))) (And.intro (Sees.grow (HW6.out.2.1) (d7.below W6.heap.size)) (And.intro (kept_call (HW6.out.2.2.1) (d7.below W6.heap.size)) (And.intro (kept_call (HW6.out.2.2.2.1) (d7.below W6.heap.size)) (And.intro (kept_call (HW6.out.2.2.2.2.1) (d7.below W6.heap.size)) (kept_call (HW6.out.2.2.2.2.2) (d7.below W6.heap.size)))))))
  clear d7
  go_wp2_with fail
  refine (markIntS_any _ n0 1 _ _ _ (by omega) (by omega) (HW7.out.2.2.2.1)).mono ?_
  rintro e W8 ⟨rfl, om8, gm8⟩
  have ZW8 := Go.Lib.hid (World.grownBy.size gm8)
  have HW8 := Go.Lib.hid (And.intro (Below.grown (HW7.out.1) gm8 (Below.size (HW7.out.1)) (fun k hk => by have h2 := Rx0.out k hk; have := ZW1.out; have := ZW2.out; have := ZW3.out; have := ZW4.out; have := ZW5.out; have := ZW6.out; have := ZW7.out; omega)) (And.intro (sees_mark (HW7.out.2.1) gm8 (fun hn a ha e => by have h1 := HLT0.out hn a ha; have h2 := Rx0.out a e; have := ZW1.out; have := ZW2.out; have := ZW3.out; have := ZW4.out; have := ZW5.out; have := ZW6.out; have := ZW7.out; omega)) (And.intro (own_mark (HW7.out.2.2.1) gm8 (fun a ha e => by have h1 := Rw0.out a ha; have h2 := Rx0.out a e; have := ZW1.out; have := ZW2.out; have := ZW3.out; have := ZW4.out; have := ZW5.out; have := ZW6.out; have := ZW7.out; omega)) (And.intro (own_mark (HW7.out.2.2.2.2.1) gm8 (fun a ha e => by have h1 := Rg0.out a ha; have h2 := Rx0.out a e; have := ZW1.out; have := ZW2.out; have := ZW3.out; have := ZW4.out; have := ZW5.out; have := ZW6.out; have := ZW7.out; omega)) (om8)))))
  clear om8 gm8
  go_wp2_with fail
  refine (eqIntS_same _ _ _ xs.length xs (Sees.owns (HW8.out.2.2.2.1)) (Sees.owns (HW8.out.2.2.1)) (by unfold maxLen; omega)).mono ?_
  rintro e W9 ⟨rfl, d9⟩
  have ZW9 := Go.Lib.hid (Below.size ((d9.below W8.heap.size)))
  have HW9 := Go.Lib.hid (And.intro (Below.trans (HW8.out.1) (((d9.below W8.heap.size)).mono (Below.size (HW8.out.1)))) (And.intro (Sees.grow (HW8.out.2.1) (d9.below W8.heap.size)) (And.intro (kept_call (HW8.out.2.2.1) (d9.below W8.heap.size)) (And.intro (kept_call (HW8.out.2.2.2.1) (d9.below W8.heap.size)) (kept_call (HW8.out.2.2.2.2) (d9.below W8.heap.size))))))
  clear d9
  go_wp2_with fail
  refine (markIntS_any _ xs.length 1 _ _ _ (by omega) (by omega) (HW9.out.2.2.2.1)).mono ?_
  rintro e W10 ⟨rfl, om10, gm10⟩
  have ZW10 := Go.Lib.hid (World.grownBy.size gm10)
  have HW10 := Go.Lib.hid (And.intro (Below.grown (HW9.out.1) gm10 (Below.size (HW9.out.1)) (fun k hk => by have h2 := Rg0.out k hk; have := ZW1.out; have := ZW2.out; have := ZW3.out; have := ZW4.out; have := ZW5.out; have := ZW6.out; have := ZW7.out; have := ZW8.out; have := ZW9.out; omega)) (And.intro (sees_mark (HW9.out.2.1) gm10 (fun hn a ha e => by have h1 := HLT0.out hn a ha; have h2 := Rg0.out a e; have := ZW1.out; have := ZW2.out; have := ZW3.out; have := ZW4.out; have := ZW5.out; have := ZW6.out; have := ZW7.out; have := ZW8.out; have := ZW9.out; omega)) (And.intro (own_mark (HW9.out.2.2.1) gm10 (fun a ha e => by have h1 := Rw0.out a ha; have h2 := Rg0.out a e; have := ZW1.out; have := ZW2.out; have := ZW3.out; have := ZW4.out; have := ZW5.out; have := ZW6.out; have := ZW7.out; have := ZW8.out; have := ZW9.out; omega)) (om10))))
  clear om10 gm10
  go_wp2_with fail
  refine (heldIntS_any xs.length 1 _ _ (by omega) (by omega) (Sees.owns (HW10.out.2.2.2))).mono ?_
  rintro e _ ⟨rfl, rfl⟩
  go_wp2_with fail
  refine (toIntS_any _ _ n0 a0 (HW10.out.2.1) hb0).mono ?_
  rintro e W11 ⟨g11, rfl, o11, b11⟩
  have ZW11 := Go.Lib.hid (Below.size (b11))
  have Rz0 := Go.Lib.hid (fun q hq => World.ownsRow.lt (o11) q hq)
  have HW11 := Go.Lib.hid (And.intro (Below.trans (HW10.out.1) ((b11).mono (Below.size (HW10.out.1)))) (And.intro (Sees.grow (HW10.out.2.1) b11) (And.intro (kept_call (HW10.out.2.2.1) b11) (And.intro (kept_call (HW10.out.2.2.2) b11) (o11)))))
  clear o11 b11
  go_wp2_with fail
  refine (C2.out _ _ _ (Sees.owns (HW11.out.2.2.2.2))).mono ?_
  rintro e W12 ⟨v12, rfl, o12, b12⟩
  have ZW12 := Go.Lib.hid (Below.size (b12))
  have Rh0 := Go.Lib.hid (fun q hq => World.ownsRow.lt (o12) q hq)
  have HW12 := Go.Lib.hid (And.intro (Below.trans (HW11.out.1) ((b12).mono (Below.size (HW11.out.1)))) (And.intro (Sees.grow (HW11.out.2.1) b12) (And.intro (kept_call (HW11.out.2.2.1) b12) (And.intro (kept_call (HW11.out.2.2.2.1) b12) (And.intro (kept_call (HW11.out.2.2.2.2) b12) (o12))))))
  clear o12 b12
  go_wp2_with fail
  refine (eqIntS_same _ _ _ xs.length xs (Sees.owns (HW12.out.2.2.2.2.2)) (Sees.owns (HW12.out.2.2.1)) (by unfold maxLen; omega)).mono ?_
  rintro e W13 ⟨rfl, d13⟩
  have ZW13 := Go.Lib.hid (Below.size ((d13.below W12.heap.size)))
  have HW13 := Go.Lib.hid (And.intro (Below.trans (HW12.out.1) (((d13.below W12.heap.size)).mono (Below.size (HW12.out.1)))) (And.intro (Sees.grow (HW12.out.2.1) (d13.below W12.heap.size)) (And.intro (kept_call (HW12.out.2.2.1) (d13.below W12.heap.size)) (And.intro (kept_call (HW12.out.2.2.2.1) (d13.below W12.heap.size)) (kept_call (HW12.out.2.2.2.2.2) (d13.below W12.heap.size))))))
  clear d13
  go_wp2_with fail
  refine (heldIntS_any xs.length 1 _ _ (by omega) (by omega) (Sees.owns (HW13.out.2.2.2.1))).mono ?_
  rintro e _ ⟨rfl, rfl⟩
  go_wp2_with fail
  go_ret
  exact ⟨rfl, HW13.out.1⟩

/-! ### From the walk to the row -/
set_option maxRecDepth 100000 in
theorem lifted (os : Os) (started : os.Started) (H : Type) (enc : TypeId × Value → H) :
    ReturnsInHanded {} Try.checked os 16 .any (Rows.fnExactBubbleOrderSpec.pre6 enc Try.prog Try.f16 Rows.fnExactBubbleOrderRow.domain false) (Rows.fnExactBubbleOrderSpec.post enc Try.prog Try.f16 false true false false) := by
  refine returnsInHanded_of_change (C := Try.checked) own started (by kernel_rfl) Try.func16
    (ChangeSpec.witness6 (enc := enc) (C := Try.checked) false ⟨#[], #[.slice none 0 0], []⟩ 8 (by kernel_rfl) (by kernel_rfl) (by kernel_rfl) (by kernel_rfl)) ?_
  intro W base args ds gs before hval0 hW hcnd _
  have hval : ∀ (j : Nat) t v, Try.f16.params[j]? = some t → args[j]? = some v → Value.okWide Try.prog W .any base t v := hval0
  have hW' := hW
  obtain ⟨p, q, hA0, hV, rfl, hfz, hnd⟩ := hW
  have hA : DataW.TrodAll enc Try.prog W 0 (fun _ => true) true Try.f16.params.toList args.toList ds p := hA0
  rw [Try.params16] at hA hval
  obtain ⟨u0, vs0, d0, ds0, p0, q0, hargs, rfl, rfl, h0, r0⟩ := trodAll_cons hA
  obtain ⟨rfl, rfl, rfl⟩ := trodAll_nil r0
  obtain rfl : args = #[u0] := by cases args; simp_all
  obtain ⟨rfl, rfl⟩ := trodVars_none hV
  have lt0 : ∀ x ∈ p0, x.block < W.heap.size := by obtain ⟨m, hm⟩ := h0; exact DataW.trod_lt m _ _ _ hm
  obtain ⟨n0, a0, s0, t0, w0⟩ := sees_ints Try.underlying24 Try.underlying3 (by kernel_rfl) (hval 0 24 u0 rfl rfl) h0
  clear hA0 hval0
  refine (walk u0 n0 a0 W s0 t0 w0).mono fun e W' ⟨he, bel⟩ => ?_
  subst he
  exact ⟨_, rfl, _, _, _, [], _, [], hW', trodAll_mk1 (shut_bool Try.underlying4 _), (trodAll_cons_mk (Below.trod laidOut (by kernel_rfl) (of_decide_eq_true (by kernel_rfl)) h0 bel lt0) trodAll_mk0), rfl, bel.frame _, fun h => by cases h⟩

theorem over : Rows.fnExactBubbleOrderRow.holds Try.pinned (OpenSpec.ofChange Rows.fnExactBubbleOrderSpec) :=
  OpenClaim.holds_of_wide 16 Try.f16 rfl rfl rfl rfl rfl rfl rfl ⟨rfl, rfl, rfl, rfl, rfl⟩ rfl rfl rfl rfl rfl (by kernel_rfl) Try.func16
    (show joinedFacts Try.prog 16 Try.f16 Rows.fnExactBubbleOrderSpec Rows.fnExactBubbleOrderRow = true by unfold joinedFacts; rw [SeatC.may, SeatC.lif, SeatC.mke]; kernel_rfl)
    (of_decide_eq_true (by kernel_rfl)) (by unfold Func.isWrapper; first | (rw [if_pos (by decide +kernel)]; kernel_rfl) | (rw [if_neg (by decide +kernel)]; exact ⟨rfl, rfl⟩))
    (fun os started H enc _ => lifted os started H enc)

/-- The statement. -/
theorem proved : Rows.FnExactBubbleOrderSaid :=
  over
#print axioms proved
end Go.Proofs.Ytnhhnffolmgceaa.fnExactBubbleOrder
