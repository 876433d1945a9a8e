/-
  The exact law of SplitString holds for any text and any separator: the program and its model give the same parts, in memory of their own. Conditions: none beyond the row's own.
-/
import Derived.Test.YtjebehekhjbijaaRows
import Derived.Test.YtjebehekhjbijaaOpen
import Derived.WalkKit
import Derived.ProofKit
import Derived.OpenShut
import Derived.ShutString
import Derived.ChangeOld
import Derived.Below
import Derived.Test.YtjebehekhjbijaaSplitImpl
import Derived.Test.YtjebehekhjbijaaMark
namespace Go.Proofs.Ytjebehekhjbijaa.fnExactSplitString
open Go.ChangeShapes Go.WideShapes Go.ChangeAt Go.RowKit SeesC OpenC
open Go.ChangeMaps (open_string shut_string)
open SplitMath SplitC SplitImplC StrsC MarkC
set_option linter.unusedVariables false

theorem own : ownKnob Try.prog.godebug = none := by kernel_rfl
theorem laidOut : laidOutB Try.prog = true := by kernel_rfl

/-! ### The walk -/
set_option maxHeartbeats 1000000 in
theorem walk (a0 : ByteArray) (a1 : ByteArray) (w : World) (w0 : a0.size ≤ maxLen) (w1 : a1.size ≤ maxLen) :
    Calls Try.prog 4 #[.string a0, .string a1] w fun e w' => e = .returned (.bool true) ∧ Below w.heap.size w w' := by
  by_cases h0 : (1048576 : Int) < a0.size
  · unfold maxLen at w0
    go_enter Try.func4, Try.ntmps4
    go_wp2
    go_ret
    exact ⟨rfl, Below.refl _ _⟩
  · by_cases h1 : (1048576 : Int) < a1.size
    · unfold maxLen at w0 w1
      go_enter Try.func4, Try.ntmps4
      go_wp2
      go_ret
      exact ⟨rfl, Below.refl _ _⟩
    · obtain ⟨⟨xs, b⟩, hans⟩ : ∃ xb, splitAns a0 a1 = xb := ⟨_, rfl⟩
      have hsz : a0.size ≤ 1048576 := by omega
      have hxl : xs.length ≤ 1048577 := by
        unfold splitAns at hans
        split at hans
        · cases hans
          have := split_len a0 (a1[0]'(by omega))
          omega
        · cases hans
          simp
      have C1 := Go.Lib.hid (fun W => specSplit_any a0 a1 W xs b hsz hans)
      have C2 := Go.Lib.hid (fun W => implSplit_any a0 a1 W xs b hsz hans)
      clear hans
      unfold maxLen at w0 w1
      go_enter Try.func4, Try.ntmps4
      go_wp2_with fail
      refine (C1.out _).mono ?_
      rintro e W1 ⟨v0, rfl, ho0, hb1⟩
      have S1 := Go.Lib.hid (And.intro (Sees.owns ho0) (And.intro (fun k hk => (ho0.lt k hk).2) hb1))
      clear ho0 hb1
      go_wp2_with fail
      refine (C2.out _).mono ?_
      rintro e W2 ⟨v1, rfl, ho1, hb2⟩
      have S2 := Go.Lib.hid (And.intro ho1 (And.intro (S1.out.1.grow hb2) (S1.out.2.2.trans (hb2.mono S1.out.2.2.size))))
      have HG1 := Go.Lib.hid (fun k hk => (ho1.lt k hk).1)
      clear ho1 hb2
      go_wp2_with fail
      refine (eqStringS_same W2 v1 v0 xs.length xs (Sees.owns S2.out.1) S2.out.2.1 (by unfold maxLen; omega)).mono ?_
      rintro e W3 ⟨rfl, hd3⟩
      have ho3 : W3.ownsRow W1.heap.size 9 1 v1 xs.length (xs.map Value.string) := S2.out.1.kept (grown_of_below (hd3.below _) none) (by cases hv : v1.ownBlock <;> simp)
      have S3 := Go.Lib.hid (And.intro ho3 (And.intro (hd3.sees S2.out.2.1) (S2.out.2.2.trans (hd3.below _))))
      clear hd3 ho3
      go_wp2_with fail
      refine (markStringS_any W1.heap.size xs.length 1 v1 _ W3 hxl (by omega) (by omega) S3.out.1).mono ?_
      rintro e W4 ⟨rfl, ho4, hg4⟩
      have hs4 : Sees W4 v0 xs.length (xs.map Value.string) := S3.out.2.1.kept hg4 (fun a ha e => by
        have h1 := S1.out.2.1 a ha
        have h2 := HG1.out a e
        omega)
      have hb4 : Below w.heap.size w W4 := S3.out.2.2.grown hg4 S3.out.2.2.size (fun k hk => by
        have h2 := HG1.out k hk
        have := S1.out.2.2.size
        omega)
      have S4 := Go.Lib.hid (And.intro (Sees.owns ho4) (And.intro hs4 hb4))
      clear ho4 hg4 hs4 hb4
      go_wp2_with fail
      refine (heldStringS_any xs.length 1 v1 W4 hxl (by omega) (by omega) S4.out.1).mono ?_
      rintro e W5 ⟨rfl, hb5⟩
      have S5 := Go.Lib.hid (And.intro (S4.out.1.grow hb5) (And.intro (S4.out.2.1.grow hb5) (S4.out.2.2.trans (hb5.mono S4.out.2.2.size))))
      clear hb5
      go_wp2_with fail
      refine (C2.out _).mono ?_
      rintro e W6 ⟨v2, rfl, ho6, hb6⟩
      have S6 := Go.Lib.hid (And.intro (Sees.owns ho6) (And.intro (S5.out.1.grow hb6) (And.intro (S5.out.2.1.grow hb6) (S5.out.2.2.trans (hb6.mono S5.out.2.2.size)))))
      clear ho6 hb6
      go_wp2_with fail
      refine (eqStringS_same W6 v2 v0 xs.length xs S6.out.1 S6.out.2.2.1 (by unfold maxLen; omega)).mono ?_
      rintro e W7 ⟨rfl, hd7⟩
      have S7 := Go.Lib.hid (And.intro (hd7.sees S6.out.2.1) (S6.out.2.2.2.trans (hd7.below _)))
      clear hd7
      go_wp2_with fail
      refine (heldStringS_any xs.length 1 v1 W7 hxl (by omega) (by omega) S7.out.1).mono ?_
      rintro e W8 ⟨rfl, hb8⟩
      have S8 := Go.Lib.hid (S7.out.2.trans (hb8.mono S7.out.2.size))
      clear hb8
      go_wp2_with fail
      go_ret
      exact ⟨rfl, S8.out⟩

/-! ### From the walk to the row -/
set_option maxRecDepth 100000 in
theorem lifted (os : Os) (started : os.Started) (H : Type) (enc : TypeId × Value → H) :
    ReturnsInHanded {} Try.checked os 4 .any (Rows.fnExactSplitStringSpec.pre6 enc Try.prog Try.f4 Rows.fnExactSplitStringRow.domain false) (Rows.fnExactSplitStringSpec.post enc Try.prog Try.f4 false true false false) := by
  refine returnsInHanded_of_change (C := Try.checked) own started (by kernel_rfl) Try.func4
    (ChangeSpec.witness6 (enc := enc) (C := Try.checked) false ⟨#[], #[.string ByteArray.empty, .string ByteArray.empty], []⟩ 8 (by kernel_rfl) (by kernel_rfl) (by kernel_rfl) (by kernel_rfl)) ?_
  intro W base args ds gs before hval0 hW hcnd _
  have hval : ∀ (j : Nat) t v, Try.f4.params[j]? = some t → args[j]? = some v → Value.okWide Try.prog W .any base t v := hval0
  have hW' := hW
  obtain ⟨p, q, hA0, hV, rfl, hfz, hnd⟩ := hW
  have hA : DataW.TrodAll enc Try.prog W 0 (fun _ => true) true Try.f4.params.toList args.toList ds p := hA0
  rw [Try.params4] at hA hval
  obtain ⟨u0, vs0, d0, ds0, p0, q0, hargs, rfl, rfl, h0, r0⟩ := trodAll_cons hA
  obtain ⟨u1, vs1, d1, ds1, p1, q1, rfl, rfl, rfl, h1, r1⟩ := trodAll_cons r0
  obtain ⟨rfl, rfl, rfl⟩ := trodAll_nil r1
  obtain rfl : args = #[u0, u1] := by cases args; simp_all
  obtain ⟨rfl, rfl⟩ := trodVars_none hV
  obtain ⟨a0, rfl, rfl, rfl, w0⟩ := open_string Try.underlying9 (hval 0 9 u0 rfl rfl) h0
  obtain ⟨a1, rfl, rfl, rfl, w1⟩ := open_string Try.underlying9 (hval 1 9 u1 rfl rfl) h1
  clear hA0 hval0
  refine (walk a0 a1 W w0 w1).mono fun e W' ⟨he, bel⟩ => ?_
  subst he
  exact ⟨_, rfl, _, _, _, [], _, [], hW', trodAll_mk1 (shut_bool Try.underlying4 _), (trodAll_cons_mk (shut_string Try.underlying9 w0) (trodAll_cons_mk (shut_string Try.underlying9 w1) trodAll_mk0)), rfl, bel.frame _, fun h => by cases h⟩

theorem over : Rows.fnExactSplitStringRow.holds Try.pinned (OpenSpec.ofChange Rows.fnExactSplitStringSpec) :=
  OpenClaim.holds_of_wide 4 Try.f4 rfl rfl rfl rfl rfl rfl rfl ⟨rfl, rfl, rfl, rfl, rfl⟩ rfl rfl rfl rfl rfl (by kernel_rfl) Try.func4 (by kernel_rfl)
    (of_decide_eq_true (by kernel_rfl)) (by unfold Func.isWrapper; first | (rw [if_pos (by decide +kernel)]; kernel_rfl) | (rw [if_neg (by decide +kernel)]; exact ⟨rfl, rfl⟩))
    (fun os started H enc _ => lifted os started H enc)

/-- The statement. -/
theorem proved : Rows.FnExactSplitStringSaid :=
  over
#print axioms proved
end Go.Proofs.Ytjebehekhjbijaa.fnExactSplitString
