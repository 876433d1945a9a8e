/-
  The exact law of JoinStrings holds for any list of texts and any separator: the program and its model answer alike and write nothing that was there. Conditions: none beyond the row's own.
-/
import Derived.Test.YtjebehekhjbijaaRows
import Derived.Test.YtjebehekhjbijaaOpen
import Derived.WalkKit
import Derived.ProofKit
import Derived.OpenShut
import Derived.ShutString
import Derived.ChangeOld
import Derived.Below
import Derived.Test.YtjebehekhjbijaaJoinImpl
namespace Go.Proofs.Ytjebehekhjbijaa.fnExactJoinStrings
open Go.ChangeShapes Go.WideShapes Go.ChangeAt Go.RowKit SeesC OpenC
open Go.ChangeMaps (open_string shut_string)
open StrsMath JoinMath StrsC JoinSpecC JoinImplC
set_option linter.unusedVariables false

theorem own : ownKnob Try.prog.godebug = none := by kernel_rfl
theorem laidOut : laidOutB Try.prog = true := by kernel_rfl

/-! ### The walk -/
set_option maxHeartbeats 1000000 in
theorem walk (v0 : Value) (n0 : Nat) (a0 : List ByteArray) (a1 : ByteArray) (w : World) (s0 : Sees w v0 n0 (a0.map Value.string)) (t0 : n0 ≤ maxLen) (w0 : ∀ s ∈ a0, s.size ≤ maxLen) (w1 : a1.size ≤ maxLen) :
    Calls Try.prog 5 #[v0, .string a1] w fun e w' => e = .returned (.bool true) ∧ Below w.heap.size w w' := by
  have hl : a0.length = n0 := by have := s0.1; simpa using this
  by_cases hs : (1048576 : Int) < a1.size
  · unfold maxLen at w1
    go_enter Try.func5, Try.ntmps5
    go_wp2
    go_ret
    exact ⟨rfl, Below.refl _ _⟩
  · have cz := szStringS_any w v0 n0 a0 1048576 s0 w0 t0 (by decide) (by decide)
    have ht := total_nonneg a0
    by_cases hneg : 1048576 - (n0 : Int) - total a0 < 0
    · have e : roomOf 1048576 n0 (total a0) = -1 := if_pos hneg
      rw [e] at cz
      unfold maxLen at w1
      go_enter Try.func5, Try.ntmps5
      clear e hl
      go_wp2_with (go_at_call 21; refine cz.mono ?_; rintro e w' ⟨rfl, rfl⟩)
      go_ret
      exact ⟨rfl, Below.refl _ _⟩
    · have e : roomOf 1048576 n0 (total a0) = 1048576 - (n0 : Int) - total a0 := if_neg hneg
      rw [e] at cz
      have hn : n0 ≤ 1048576 := by omega
      have hb : ∀ s ∈ a0, s.size ≤ 1048576 := fun s h => by have := total_mem h; omega
      obtain ⟨⟨r, b⟩, hans⟩ : ∃ rb, joinAns a0 a1 = rb := ⟨_, rfl⟩
      have HA := Go.Lib.hid hans
      have HL := Go.Lib.hid (And.intro hb hn)
      clear e hl hans hb
      unfold maxLen at w1
      go_enter Try.func5, Try.ntmps5
      go_wp2_with (go_at_call 21; refine cz.mono ?_; rintro e w' ⟨rfl, rfl⟩)
      refine (toStringS_any w v0 n0 a0 s0 hn).mono ?_
      rintro e W1 ⟨g1, c1, rfl, hg1, ho1, hb1⟩
      go_wp2_with fail
      refine (specJoin_ans W1 _ n0 a0 a1 r b (Sees.owns ho1) HL.out.1 HL.out.2 HA.out).mono ?_
      rintro e W2 ⟨rfl, hd2⟩
      have hb2 := hb1.trans (hd2.below w.heap.size)
      have s2 := s0.grow hb2
      have S2 := Go.Lib.hid (And.intro hb2 s2)
      clear hb1 ho1 hd2 s2 hb2
      go_wp2_with fail
      refine (toStringS_any W2 v0 n0 a0 S2.out.2 hn).mono ?_
      rintro e W3 ⟨g3, c3, rfl, hg3, ho3, hb3⟩
      have S3 := Go.Lib.hid (And.intro (Sees.owns ho3) (S2.out.1.trans (hb3.mono S2.out.1.size)))
      clear ho3 hb3
      go_wp2_with fail
      refine (implJoin_ans W3 _ n0 a0 a1 r b S3.out.1 HL.out.1 HL.out.2 HA.out).mono ?_
      rintro e W4 ⟨rfl, hb4⟩
      have S4 := Go.Lib.hid (And.intro (S3.out.1.grow hb4) (S3.out.2.trans (hb4.mono S3.out.2.size)))
      clear hb4
      go_wp2_with fail
      refine (toStringS_any W4 v0 n0 a0 (s0.grow S4.out.2) hn).mono ?_
      rintro e W5 ⟨g5, c5, rfl, hg5, ho5, hb5⟩
      have S5 := Go.Lib.hid (And.intro (Sees.owns ho5) (And.intro (S4.out.1.grow hb5) (S4.out.2.trans (hb5.mono S4.out.2.size))))
      clear ho5 hb5
      go_wp2_with fail
      refine (eqStringS_same W5 _ _ n0 a0 S5.out.2.1 S5.out.1 (by unfold maxLen; omega)).mono ?_
      rintro e W6 ⟨rfl, hd6⟩
      have S6 := Go.Lib.hid (S5.out.2.2.trans (hd6.below _))
      clear hd6
      go_wp2
      go_ret
      exact ⟨rfl, S6.out⟩

/-! ### From the walk to the row -/
set_option maxRecDepth 100000 in
theorem lifted (os : Os) (started : os.Started) (H : Type) (enc : TypeId × Value → H) :
    ReturnsInHanded {} Try.checked os 5 .any (Rows.fnExactJoinStringsSpec.pre6 enc Try.prog Try.f5 Rows.fnExactJoinStringsRow.domain false) (Rows.fnExactJoinStringsSpec.post enc Try.prog Try.f5 false true false false) := by
  refine returnsInHanded_of_change (C := Try.checked) own started (by kernel_rfl) Try.func5
    (ChangeSpec.witness6 (enc := enc) (C := Try.checked) false ⟨#[], #[.slice none 0 0, .string ByteArray.empty], []⟩ 8 (by kernel_rfl) (by kernel_rfl) (by kernel_rfl) (by kernel_rfl)) ?_
  intro W base args ds gs before hval0 hW hcnd _
  have hval : ∀ (j : Nat) t v, Try.f5.params[j]? = some t → args[j]? = some v → Value.okWide Try.prog W .any base t v := hval0
  have hW' := hW
  obtain ⟨p, q, hA0, hV, rfl, hfz, hnd⟩ := hW
  have hA : DataW.TrodAll enc Try.prog W 0 (fun _ => true) true Try.f5.params.toList args.toList ds p := hA0
  rw [Try.params5] at hA hval
  obtain ⟨u0, vs0, d0, ds0, p0, q0, hargs, rfl, rfl, h0, r0⟩ := trodAll_cons hA
  obtain ⟨u1, vs1, d1, ds1, p1, q1, rfl, rfl, rfl, h1, r1⟩ := trodAll_cons r0
  obtain ⟨rfl, rfl, rfl⟩ := trodAll_nil r1
  obtain rfl : args = #[u0, u1] := by cases args; simp_all
  obtain ⟨rfl, rfl⟩ := trodVars_none hV
  have lt0 : ∀ x ∈ p0, x.block < W.heap.size := by obtain ⟨m, hm⟩ := h0; exact DataW.trod_lt m _ _ _ hm
  obtain ⟨n0, a0, s0, t0, w0⟩ := sees_strings Try.underlying26 Try.underlying9 (by kernel_rfl) (hval 0 26 u0 rfl rfl) h0
  obtain ⟨a1, rfl, rfl, rfl, w1⟩ := open_string Try.underlying9 (hval 1 9 u1 rfl rfl) h1
  clear hA0 hval0
  refine (walk u0 n0 a0 a1 W s0 t0 w0 w1).mono fun e W' ⟨he, bel⟩ => ?_
  subst he
  exact ⟨_, rfl, _, _, _, [], _, [], hW', trodAll_mk1 (shut_bool Try.underlying4 _), (trodAll_cons_mk (Below.trod laidOut (by kernel_rfl) (of_decide_eq_true (by kernel_rfl)) h0 bel lt0) (trodAll_cons_mk (shut_string Try.underlying9 w1) trodAll_mk0)), rfl, bel.frame _, fun h => by cases h⟩

theorem over : Rows.fnExactJoinStringsRow.holds Try.pinned (OpenSpec.ofChange Rows.fnExactJoinStringsSpec) :=
  OpenClaim.holds_of_wide 5 Try.f5 rfl rfl rfl rfl rfl rfl rfl ⟨rfl, rfl, rfl, rfl, rfl⟩ rfl rfl rfl rfl rfl (by kernel_rfl) Try.func5 (by kernel_rfl)
    (of_decide_eq_true (by kernel_rfl)) (by unfold Func.isWrapper; first | (rw [if_pos (by decide +kernel)]; kernel_rfl) | (rw [if_neg (by decide +kernel)]; exact ⟨rfl, rfl⟩))
    (fun os started H enc _ => lifted os started H enc)

/-- The statement. -/
theorem proved : Rows.FnExactJoinStringsSaid :=
  over
#print axioms proved
end Go.Proofs.Ytjebehekhjbijaa.fnExactJoinStrings
