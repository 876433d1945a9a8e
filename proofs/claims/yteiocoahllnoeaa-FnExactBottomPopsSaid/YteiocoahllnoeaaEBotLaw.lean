/-
  At every two lists of integers BottomPops answers as the model and writes into no argument. Conditions: none.
-/
import Derived.Test.YteiocoahllnoeaaRows
import Derived.Test.YteiocoahllnoeaaSeat
import Derived.Test.YteiocoahllnoeaaOpen
import Derived.WalkKit
import Derived.ProofKit
import Derived.OpenShut
import Derived.ShutString
import Derived.ChangeOld
import Derived.Below
import Derived.Test.YteiocoahllnoeaaExact
import Derived.Test.YteiocoahllnoeaaOrd
import Derived.Test.YteiocoahllnoeaaEBot
namespace Go.Proofs.Yteiocoahllnoeaa.fnExactBottomPops
open Go.ChangeShapes Go.WideShapes Go.ChangeAt Go.RowKit SeesC OpenC
open Go.ChangeMaps (open_string shut_string)
open IntsC ExactC OrdMath OrderC WordC EBotC EToC EndM
set_option linter.unusedVariables false

theorem own : ownKnob Try.prog.godebug = none := by kernel_rfl
theorem laidOut : laidOutB Try.prog = true := by kernel_rfl

/-! ### The walk -/
set_option maxHeartbeats 2000000 in
theorem walk (v0 : Value) (n0 : Nat) (a0 : List Int) (v1 : Value) (n1 : Nat) (a1 : List Int) (w : World) (s0 : Sees w v0 n0 (a0.map (Value.int .i64))) (t0 : n0 ≤ maxLen) (w0 : ∀ z ∈ a0, (Lit.int .i64 z).wf = true) (s1 : Sees w v1 n1 (a1.map (Value.int .i64))) (t1 : n1 ≤ maxLen) (w1 : ∀ z ∈ a1, (Lit.int .i64 z).wf = true) :
    Calls Try.prog 8 #[v0, v1] w fun e w' => e = .returned (.bool true) ∧ Below w.heap.size w w' := by
  have hl0 : a0.length = n0 := by simpa using s0.1
  have hl1 : a1.length = n1 := by simpa using s1.1
  have hvlt := fun (z : World) => Nat.le_refl z.heap.size
  have hsee0 := Go.Lib.hid s0
  have hsee1 := Go.Lib.hid s1
  by_cases big0 : (1048576 : Int) < (n0 : Int)
  · clear hvlt
    obtain ⟨_, adr0, cap0, rfl, _, _⟩ := s0
    obtain ⟨_, adr1, cap1, rfl, _, _⟩ := s1
    unfold maxLen at t0 t1
    go_enter Try.func8, Try.ntmps8
    go_wp2
    go_ret
    exact ⟨rfl, Below.refl _ _⟩
  by_cases big1 : (1048576 : Int) < (n1 : Int)
  · clear hvlt
    obtain ⟨_, adr0, cap0, rfl, _, _⟩ := s0
    obtain ⟨_, adr1, cap1, rfl, _, _⟩ := s1
    unfold maxLen at t0 t1
    go_enter Try.func8, Try.ntmps8
    go_wp2
    go_ret
    exact ⟨rfl, Below.refl _ _⟩
  have bels : Hid (Below w.heap.size w w) := Go.Lib.hid (Below.refl _ _)
  obtain ⟨⟨r, b⟩, hans⟩ : ∃ p, botAns a0 a1 = p := ⟨_, rfl⟩
  have hb0 : n0 ≤ 1048576 := by omega
  have hb1 : n1 ≤ 1048576 := by omega
  have C1 := Go.Lib.hid (specEBot a0 a1 r b hans (hl0 ▸ hb0) (hl1 ▸ hb1))
  have C2 := Go.Lib.hid (implEBot a0 a1 r b hans (hl0 ▸ hb0) (hl1 ▸ hb1))
  clear hans
  have hlt0 : 0 < n0 → ∀ q, v0.ownBlock = some q → q < w.heap.size := fun h q hq => s0.lt h q hq
  have HLT0 := Go.Lib.hid hlt0
  clear hlt0
  have hlt1 : 0 < n1 → ∀ q, v1.ownBlock = some q → q < w.heap.size := fun h q hq => s1.lt h q hq
  have HLT1 := Go.Lib.hid hlt1
  clear hlt1
  obtain ⟨_, adr0, cap0, rfl, _, _⟩ := s0
  obtain ⟨_, adr1, cap1, rfl, _, _⟩ := s1
  unfold maxLen at t0 t1
  clear hvlt
  go_enter Try.func8, Try.ntmps8
  go_wp2_with fail
  refine (toIntS_any _ _ n0 a0 (hsee0.out) hb0).mono ?_
  rintro e W1 ⟨g1, rfl, o1, b1⟩
  have ZW1 := Go.Lib.hid (Below.size (b1))
  have Rs0 := Go.Lib.hid (fun q hq => World.ownsRow.lt (o1) q hq)
  have HW1 := Go.Lib.hid (And.intro (Below.trans (bels.out) ((b1).mono (Below.size (bels.out)))) (And.intro (Sees.grow (hsee0.out) b1) (And.intro (Sees.grow (hsee1.out) b1) (o1))))
  clear o1 b1
  go_wp2_with fail
  refine (toIntS_any _ _ n1 a1 (HW1.out.2.2.1) hb1).mono ?_
  rintro e W2 ⟨g2, rfl, o2, b2⟩
  have ZW2 := Go.Lib.hid (Below.size (b2))
  have Rs1 := Go.Lib.hid (fun q hq => World.ownsRow.lt (o2) q hq)
  have HW2 := Go.Lib.hid (And.intro (Below.trans (HW1.out.1) ((b2).mono (Below.size (HW1.out.1)))) (And.intro (Sees.grow (HW1.out.2.1) b2) (And.intro (Sees.grow (HW1.out.2.2.1) b2) (And.intro (kept_call (HW1.out.2.2.2) b2) (o2)))))
  clear o2 b2
  go_wp2_with fail
  refine (C1.out _ _ _ (Sees.owns (HW2.out.2.2.2.1)) _ _ (Sees.owns (HW2.out.2.2.2.2))).mono ?_
  rintro e W3 ⟨rfl, b3⟩
  have ZW3 := Go.Lib.hid (Below.size (b3))
  have HW3 := Go.Lib.hid (And.intro (Below.trans (HW2.out.1) ((b3).mono (Below.size (HW2.out.1)))) (And.intro (Sees.grow (HW2.out.2.1) b3) (And.intro (Sees.grow (HW2.out.2.2.1) b3) (And.intro (kept_call (HW2.out.2.2.2.1) b3) (kept_call (HW2.out.2.2.2.2) b3)))))
  clear b3
  go_wp2_with fail
  refine (toIntS_any _ _ n0 a0 (HW3.out.2.1) hb0).mono ?_
  rintro e W4 ⟨g4, rfl, o4, b4⟩
  have ZW4 := Go.Lib.hid (Below.size (b4))
  have Rx0 := Go.Lib.hid (fun q hq => World.ownsRow.lt (o4) q hq)
  have HW4 := Go.Lib.hid (And.intro (Below.trans (HW3.out.1) ((b4).mono (Below.size (HW3.out.1)))) (And.intro (Sees.grow (HW3.out.2.1) b4) (And.intro (Sees.grow (HW3.out.2.2.1) b4) (o4))))
  clear o4 b4
  go_wp2_with fail
  refine (toIntS_any _ _ n1 a1 (HW4.out.2.2.1) hb1).mono ?_
  rintro e W5 ⟨g5, rfl, o5, b5⟩
  have ZW5 := Go.Lib.hid (Below.size (b5))
  have Rx1 := Go.Lib.hid (fun q hq => World.ownsRow.lt (o5) q hq)
  have HW5 := Go.Lib.hid (And.intro (Below.trans (HW4.out.1) ((b5).mono (Below.size (HW4.out.1)))) (And.intro (Sees.grow (HW4.out.2.1) b5) (And.intro (Sees.grow (HW4.out.2.2.1) b5) (And.intro (kept_call (HW4.out.2.2.2) b5) (o5)))))
  clear o5 b5
  go_wp2_with fail
  refine (C2.out _ _ _ (Sees.owns (HW5.out.2.2.2.1)) _ _ (Sees.owns (HW5.out.2.2.2.2))).mono ?_
  rintro e W6 ⟨rfl, b6⟩
  have ZW6 := Go.Lib.hid (Below.size (b6))
  have HW6 := Go.Lib.hid (And.intro (Below.trans (HW5.out.1) ((b6).mono (Below.size (HW5.out.1)))) (And.intro (Sees.grow (HW5.out.2.1) b6) (And.intro (Sees.grow (HW5.out.2.2.1) b6) (And.intro (kept_call (HW5.out.2.2.2.1) b6) (kept_call (HW5.out.2.2.2.2) b6)))))
  clear b6
  go_wp2_with fail
  refine (toIntS_any _ _ n0 a0 (HW6.out.2.1) hb0).mono ?_
  rintro e W7 ⟨g7, rfl, o7, b7⟩
  have ZW7 := Go.Lib.hid (Below.size (b7))
  have Ry0 := Go.Lib.hid (fun q hq => World.ownsRow.lt (o7) q hq)
  have HW7 := Go.Lib.hid (And.intro (Below.trans (HW6.out.1) ((b7).mono (Below.size (HW6.out.1)))) (And.intro (Sees.grow (HW6.out.2.1) b7) (And.intro (Sees.grow (HW6.out.2.2.1) b7) (And.intro (kept_call (HW6.out.2.2.2.1) b7) (And.intro (kept_call (HW6.out.2.2.2.2) b7) (o7))))))
  clear o7 b7
  go_wp2_with fail
  refine (eqIntS_same _ _ _ n0 a0 (Sees.owns (HW7.out.2.2.2.1)) (Sees.owns (HW7.out.2.2.2.2.2)) (by unfold maxLen; omega)).mono ?_
  rintro e W8 ⟨rfl, d8⟩
  have ZW8 := Go.Lib.hid (Below.size ((d8.below W7.heap.size)))
  have HW8 := Go.Lib.hid (And.intro (Below.trans (HW7.out.1) (((d8.below W7.heap.size)).mono (Below.size (HW7.out.1)))) (And.intro (Sees.grow (HW7.out.2.1) (d8.below W7.heap.size)) (And.intro (Sees.grow (HW7.out.2.2.1) (d8.below W7.heap.size)) (And.intro (kept_call (HW7.out.2.2.2.1) (d8.below W7.heap.size)) (And.intro (kept_call (HW7.out.2.2.2.2.1) (d8.below W7.heap.size)) (kept_call (HW7.out.2.2.2.2.2) (d8.below W7.heap.size)))))))
  clear d8
  go_wp2_with fail
  refine (toIntS_any _ _ n1 a1 (HW8.out.2.2.1) hb1).mono ?_
  rintro e W9 ⟨g9, rfl, o9, b9⟩
  have ZW9 := Go.Lib.hid (Below.size (b9))
  have Ry1 := Go.Lib.hid (fun q hq => World.ownsRow.lt (o9) q hq)
  have HW9 := Go.Lib.hid (And.intro (Below.trans (HW8.out.1) ((b9).mono (Below.size (HW8.out.1)))) (And.intro (Sees.grow (HW8.out.2.1) b9) (And.intro (Sees.grow (HW8.out.2.2.1) b9) (And.intro (kept_call (HW8.out.2.2.2.1) b9) (And.intro (kept_call (HW8.out.2.2.2.2.1) b9) (o9))))))
  clear o9 b9
  go_wp2_with fail
  refine (eqIntS_same _ _ _ n1 a1 (Sees.owns (HW9.out.2.2.2.2.1)) (Sees.owns (HW9.out.2.2.2.2.2)) (by unfold maxLen; omega)).mono ?_
  rintro e W10 ⟨rfl, d10⟩
  have ZW10 := Go.Lib.hid (Below.size ((d10.below W9.heap.size)))
  have HW10 := Go.Lib.hid (And.intro (Below.trans (HW9.out.1) (((d10.below W9.heap.size)).mono (Below.size (HW9.out.1)))) (And.intro (Sees.grow (HW9.out.2.1) (d10.below W9.heap.size)) (And.intro (Sees.grow (HW9.out.2.2.1) (d10.below W9.heap.size)) (And.intro (kept_call (HW9.out.2.2.2.1) (d10.below W9.heap.size)) (And.intro (kept_call (HW9.out.2.2.2.2.1) (d10.below W9.heap.size)) (kept_call (HW9.out.2.2.2.2.2) (d10.below W9.heap.size)))))))
  clear d10
  go_wp2_with fail
  go_ret
  exact ⟨rfl, HW10.out.1⟩

/-! ### From the walk to the row -/
set_option maxRecDepth 100000 in
theorem lifted (os : Os) (started : os.Started) (H : Type) (enc : TypeId × Value → H) :
    ReturnsInHanded {} Try.checked os 8 .any (Rows.fnExactBottomPopsSpec.pre6 enc Try.prog Try.f8 Rows.fnExactBottomPopsRow.domain false) (Rows.fnExactBottomPopsSpec.post enc Try.prog Try.f8 false true false false) := by
  refine returnsInHanded_of_change (C := Try.checked) own started (by kernel_rfl) Try.func8
    (ChangeSpec.witness6 (enc := enc) (C := Try.checked) false ⟨#[], #[.slice none 0 0, .slice none 0 0], []⟩ 8 (by kernel_rfl) (by kernel_rfl) (by kernel_rfl) (by kernel_rfl)) ?_
  intro W base args ds gs before hval0 hW hcnd _
  have hval : ∀ (j : Nat) t v, Try.f8.params[j]? = some t → args[j]? = some v → Value.okWide Try.prog W .any base t v := hval0
  have hW' := hW
  obtain ⟨p, q, hA0, hV, rfl, hfz, hnd⟩ := hW
  have hA : DataW.TrodAll enc Try.prog W 0 (fun _ => true) true Try.f8.params.toList args.toList ds p := hA0
  rw [Try.params8] at hA hval
  obtain ⟨u0, vs0, d0, ds0, p0, q0, hargs, rfl, rfl, h0, r0⟩ := trodAll_cons hA
  obtain ⟨u1, vs1, d1, ds1, p1, q1, rfl, rfl, rfl, h1, r1⟩ := trodAll_cons r0
  obtain ⟨rfl, rfl, rfl⟩ := trodAll_nil r1
  obtain rfl : args = #[u0, u1] := by cases args; simp_all
  obtain ⟨rfl, rfl⟩ := trodVars_none hV
  have lt0 : ∀ x ∈ p0, x.block < W.heap.size := by obtain ⟨m, hm⟩ := h0; exact DataW.trod_lt m _ _ _ hm
  obtain ⟨n0, a0, s0, t0, w0⟩ := sees_ints Try.underlying22 Try.underlying3 (by kernel_rfl) (hval 0 22 u0 rfl rfl) h0
  have lt1 : ∀ x ∈ p1, x.block < W.heap.size := by obtain ⟨m, hm⟩ := h1; exact DataW.trod_lt m _ _ _ hm
  obtain ⟨n1, a1, s1, t1, w1⟩ := sees_ints Try.underlying22 Try.underlying3 (by kernel_rfl) (hval 1 22 u1 rfl rfl) h1
  clear hA0 hval0
  refine (walk u0 n0 a0 u1 n1 a1 W s0 t0 w0 s1 t1 w1).mono fun e W' ⟨he, bel⟩ => ?_
  subst he
  exact ⟨_, rfl, _, _, _, [], _, [], hW', trodAll_mk1 (shut_bool Try.underlying4 _), (trodAll_cons_mk (Below.trod laidOut (by kernel_rfl) (of_decide_eq_true (by kernel_rfl)) h0 bel lt0) (trodAll_cons_mk (Below.trod laidOut (by kernel_rfl) (of_decide_eq_true (by kernel_rfl)) h1 bel lt1) trodAll_mk0)), rfl, bel.frame _, fun h => by cases h⟩

theorem over : Rows.fnExactBottomPopsRow.holds Try.pinned (OpenSpec.ofChange Rows.fnExactBottomPopsSpec) :=
  OpenClaim.holds_of_wide 8 Try.f8 rfl rfl rfl rfl rfl rfl rfl ⟨rfl, rfl, rfl, rfl, rfl⟩ rfl rfl rfl rfl rfl (by kernel_rfl) Try.func8
    (show joinedFacts Try.prog 8 Try.f8 Rows.fnExactBottomPopsSpec Rows.fnExactBottomPopsRow = true by unfold joinedFacts; rw [SeatC.may, SeatC.lif, SeatC.mke]; kernel_rfl)
    (of_decide_eq_true (by kernel_rfl)) (by unfold Func.isWrapper; first | (rw [if_pos (by decide +kernel)]; kernel_rfl) | (rw [if_neg (by decide +kernel)]; exact ⟨rfl, rfl⟩))
    (fun os started H enc _ => lifted os started H enc)

/-- The statement. -/
theorem proved : Rows.FnExactBottomPopsSaid :=
  over
#print axioms proved
end Go.Proofs.Yteiocoahllnoeaa.fnExactBottomPops
