/-
  The exact law of CountAvoiding: at every argument the program answers as its model, and writes into no argument.
-/
import Derived.Test.YtddenfnoajdjiabRows
import Derived.Test.YtddenfnoajdjiabSeat
import Derived.Test.YtddenfnoajdjiabOpen
import Derived.WalkKit
import Derived.ProofKit
import Derived.OpenShut
import Derived.ShutString
import Derived.ChangeOld
import Derived.Below
import Derived.Test.YtddenfnoajdjiabExact
import Derived.Test.YtddenfnoajdjiabOrd
import Derived.Test.YtddenfnoajdjiabPubAv
namespace Go.Proofs.Ytddenfnoajdjiab.fnExactCountAvoiding
open Go.ChangeShapes Go.WideShapes Go.ChangeAt Go.RowKit SeesC OpenC
open Go.ChangeMaps (open_string shut_string)
open IntsC ExactC OrdMath PubAvC LLC AvoidC AvMath
set_option linter.unusedVariables false

theorem own : ownKnob Try.prog.godebug = none := by kernel_rfl
theorem laidOut : laidOutB Try.prog = true := by kernel_rfl

/-! ### The walk -/
set_option maxRecDepth 100000 in
set_option maxHeartbeats 2000000 in
theorem walk (a0 : Int) (v1 : Value) (n1 : Nat) (a1 : List (List Int)) (w : World) (w0 : (Lit.int .i64 a0).wf = true) (s1 : a1.length = n1 ∧ SeesLL w v1 a1) (t1 : n1 ≤ maxLen) (w1 : ∀ l ∈ a1, l.length ≤ maxLen) :
    Calls Try.prog 7 #[.int .i64 a0, v1] w fun e w' => e = .returned (.bool true) ∧ Below w.heap.size w w' := by
  have hvlt := fun (z : World) => Nat.le_refl z.heap.size
  clear hvlt
  go_enter Try.func7, Try.ntmps7
  go_wp2_with fail
  refine (szIntSS_any v1 a1 w s1.2 (by rw [s1.1]; exact t1) w1).mono ?_
  rintro e wq ⟨rl1, rfl, hwq, hrl1⟩
  obtain rfl : w = wq := hwq.symm
  clear hwq
  by_cases hneg1 : rl1 < 0
  · clear s1 hrl1
    go_wp2
    go_ret
    exact ⟨rfl, Below.refl _ _⟩
  have hb1 : a1.length + tot a1 ≤ 1048576 := by
    rcases hrl1 with h | h
    · omega
    · exact h.2
  have hsee1 := Go.Lib.hid s1.2
  clear s1 hrl1 t1 w1
  have bels : Hid (Below w.heap.size w w) := Go.Lib.hid (Below.refl _ _)
  obtain ⟨⟨r, b⟩, hans⟩ : ∃ p, countAvAns a0 a1 = p := ⟨_, rfl⟩
  have C1 := Go.Lib.hid (specCountAvoiding a0 a1 r b hans w0 hb1)
  have C2 := Go.Lib.hid (implCountAvoiding a0 a1 r b hans w0 hb1)
  clear hans
  go_wp2_with fail
  refine (toIntSS_any _ _ a1 (hsee1.out) hb1).mono ?_
  rintro e W1 ⟨g1, rfl, o1, b1⟩
  have ZW1 := Go.Lib.hid (Below.size (b1))
  have HW1 := Go.Lib.hid (And.intro (Below.trans (bels.out) ((b1).mono (Below.size (bels.out)))) (And.intro (SeesLL.grow (hsee1.out) b1) (o1)))
  clear o1 b1
  go_wp2_with fail
  refine (C1.out _ _ (Rag.sees (HW1.out.2.2))).mono ?_
  rintro e W2 ⟨rfl, b2⟩
  have ZW2 := Go.Lib.hid (Below.size (b2))
  have HW2 := Go.Lib.hid (And.intro (Below.trans (HW1.out.1) ((b2).mono (Below.size (HW1.out.1)))) (And.intro (SeesLL.grow (HW1.out.2.1) b2) (Rag.kept (HW1.out.2.2) b2)))
  clear b2
  go_wp2_with fail
  refine (toIntSS_any _ _ a1 (HW2.out.2.1) hb1).mono ?_
  rintro e W3 ⟨g3, rfl, o3, b3⟩
  have ZW3 := Go.Lib.hid (Below.size (b3))
  have HW3 := Go.Lib.hid (And.intro (Below.trans (HW2.out.1) ((b3).mono (Below.size (HW2.out.1)))) (And.intro (SeesLL.grow (HW2.out.2.1) b3) (o3)))
  clear o3 b3
  go_wp2_with fail
  refine (C2.out _ _ (Rag.sees (HW3.out.2.2))).mono ?_
  rintro e W4 ⟨rfl, b4⟩
  have ZW4 := Go.Lib.hid (Below.size (b4))
  have HW4 := Go.Lib.hid (And.intro (Below.trans (HW3.out.1) ((b4).mono (Below.size (HW3.out.1)))) (And.intro (SeesLL.grow (HW3.out.2.1) b4) (Rag.kept (HW3.out.2.2) b4)))
  clear b4
  go_wp2_with fail
  refine (toIntSS_any _ _ a1 (HW4.out.2.1) hb1).mono ?_
  rintro e W5 ⟨g5, rfl, o5, b5⟩
  have ZW5 := Go.Lib.hid (Below.size (b5))
  have HW5 := Go.Lib.hid (And.intro (Below.trans (HW4.out.1) ((b5).mono (Below.size (HW4.out.1)))) (And.intro (SeesLL.grow (HW4.out.2.1) b5) (And.intro (Rag.kept (HW4.out.2.2) b5) (o5))))
  clear o5 b5
  go_wp2_with fail
  refine (eqIntSS_ll _ _ _ a1 (Rag.sees (HW5.out.2.2.1)) (Rag.sees (HW5.out.2.2.2)) hb1).mono ?_
  rintro e W6 ⟨rfl, d6⟩
  have ZW6 := Go.Lib.hid (Below.size ((d6.below W5.heap.size)))
  have HW6 := Go.Lib.hid (And.intro (Below.trans (HW5.out.1) (((d6.below W5.heap.size)).mono (Below.size (HW5.out.1)))) (And.intro (SeesLL.grow (HW5.out.2.1) (d6.below W5.heap.size)) (And.intro (Rag.kept (HW5.out.2.2.1) (d6.below W5.heap.size)) (Rag.kept (HW5.out.2.2.2) (d6.below W5.heap.size)))))
  clear d6
  go_wp2_with fail
  go_ret
  exact ⟨rfl, HW6.out.1⟩

/-! ### From the walk to the row -/
set_option maxRecDepth 100000 in
theorem lifted (os : Os) (started : os.Started) (H : Type) (enc : TypeId × Value → H) :
    ReturnsInHanded {} Try.checked os 7 .any (Rows.fnExactCountAvoidingSpec.pre6 enc Try.prog Try.f7 Rows.fnExactCountAvoidingRow.domain false) (Rows.fnExactCountAvoidingSpec.post enc Try.prog Try.f7 false true false false) := by
  refine returnsInHanded_of_change (C := Try.checked) own started (by kernel_rfl) Try.func7
    (ChangeSpec.witness6 (enc := enc) (C := Try.checked) false ⟨#[], #[.int .i64 0, .slice none 0 0], []⟩ 8 (by kernel_rfl) (by kernel_rfl) (by kernel_rfl) (by kernel_rfl)) ?_
  intro W base args ds gs before hval0 hW hcnd _
  have hval : ∀ (j : Nat) t v, Try.f7.params[j]? = some t → args[j]? = some v → Value.okWide Try.prog W .any base t v := hval0
  have hW' := hW
  obtain ⟨p, q, hA0, hV, rfl, hfz, hnd⟩ := hW
  have hA : DataW.TrodAll enc Try.prog W 0 (fun _ => true) true Try.f7.params.toList args.toList ds p := hA0
  rw [Try.params7] at hA hval
  obtain ⟨u0, vs0, d0, ds0, p0, q0, hargs, rfl, rfl, h0, r0⟩ := trodAll_cons hA
  obtain ⟨u1, vs1, d1, ds1, p1, q1, rfl, rfl, rfl, h1, r1⟩ := trodAll_cons r0
  obtain ⟨rfl, rfl, rfl⟩ := trodAll_nil r1
  obtain rfl : args = #[u0, u1] := by cases args; simp_all
  obtain ⟨rfl, rfl⟩ := trodVars_none hV
  obtain ⟨a0, rfl, rfl, rfl, w0⟩ := open_int Try.underlying3 (hval 0 3 u0 rfl rfl) h0
  have lt1 : ∀ x ∈ p1, x.block < W.heap.size := by obtain ⟨m, hm⟩ := h1; exact DataW.trod_lt m _ _ _ hm
  obtain ⟨n1, a1, s1, t1, w1⟩ := sees_rows Try.underlying38 Try.underlying24 Try.underlying3 (by kernel_rfl) (by kernel_rfl) (hval 1 38 u1 rfl rfl) h1
  clear hA0 hval0
  refine (walk a0 u1 n1 a1 W w0 s1 t1 w1).mono fun e W' ⟨he, bel⟩ => ?_
  subst he
  exact ⟨_, rfl, _, _, _, [], _, [], hW', trodAll_mk1 (shut_bool Try.underlying4 _), (trodAll_cons_mk (shut_int Try.underlying3 w0) (trodAll_cons_mk (Below.trod laidOut (by kernel_rfl) (of_decide_eq_true (by kernel_rfl)) h1 bel lt1) trodAll_mk0)), rfl, bel.frame _, fun h => by cases h⟩

theorem over : Rows.fnExactCountAvoidingRow.holds Try.pinned (OpenSpec.ofChange Rows.fnExactCountAvoidingSpec) :=
  OpenClaim.holds_of_wide 7 Try.f7 rfl rfl rfl rfl rfl rfl rfl ⟨rfl, rfl, rfl, rfl, rfl⟩ rfl rfl rfl rfl rfl (by kernel_rfl) Try.func7
    (show joinedFacts Try.prog 7 Try.f7 Rows.fnExactCountAvoidingSpec Rows.fnExactCountAvoidingRow = true by unfold joinedFacts; rw [SeatC.may, SeatC.lif, SeatC.mke]; kernel_rfl)
    (of_decide_eq_true (by kernel_rfl)) (by unfold Func.isWrapper; first | (rw [if_pos (by decide +kernel)]; kernel_rfl) | (rw [if_neg (by decide +kernel)]; exact ⟨rfl, rfl⟩))
    (fun os started H enc _ => lifted os started H enc)

/-- The statement. -/
theorem proved : Rows.FnExactCountAvoidingSaid :=
  over
#print axioms proved
end Go.Proofs.Ytddenfnoajdjiab.fnExactCountAvoiding
