/-
  For each list of lists of integers that memory can hold: the program answers AreRows as the model does and leaves its argument alone. Conditions: none.
-/
import Derived.Test.YtmnggcnipjdimaaRows
import Derived.Test.YtmnggcnipjdimaaSeat
import Derived.Test.YtmnggcnipjdimaaOpen
import Derived.WalkKit
import Derived.ProofKit
import Derived.OpenShut
import Derived.ShutString
import Derived.ChangeOld
import Derived.Below
import Derived.Test.YtmnggcnipjdimaaExact
import Derived.Test.YtmnggcnipjdimaaOrd
import Derived.Test.YtmnggcnipjdimaaLL
import Derived.Test.YtmnggcnipjdimaaRagMark
import Derived.Test.YtmnggcnipjdimaaRagRes
import Derived.Test.YtmnggcnipjdimaaAreI
namespace Go.Proofs.Ytmnggcnipjdimaa.fnExactAreRows
open Go.ChangeShapes Go.WideShapes Go.ChangeAt Go.RowKit SeesC OpenC
open Go.ChangeMaps (open_string shut_string)
open IntsC ExactC OrdMath ListsC LLC RagMarkC RagResC AreM AreSC AreIC
set_option linter.unusedVariables false

theorem own : ownKnob Try.prog.godebug = none := by kernel_rfl
theorem laidOut : laidOutB Try.prog = true := by kernel_rfl

/-! ### The walk -/
set_option maxHeartbeats 2000000 in
theorem walk (v0 : Value) (n0 : Nat) (a0 : List (List Int)) (w : World) (s0 : a0.length = n0 ∧ SeesLL w v0 a0) (t0 : n0 ≤ maxLen) (w0 : ∀ l ∈ a0, l.length ≤ maxLen) :
    Calls Try.prog 16 #[v0] w fun e w' => e = .returned (.bool true) ∧ Below w.heap.size w w' := by
  have hvlt := fun (z : World) => Nat.le_refl z.heap.size
  clear hvlt
  go_enter Try.func16, Try.ntmps16
  go_wp2_with fail
  refine (szIntSS_any v0 a0 w s0.2 (by rw [s0.1]; exact t0) w0).mono ?_
  rintro e wq ⟨rl0, rfl, hwq, hrl0⟩
  obtain rfl : w = wq := hwq.symm
  clear hwq
  by_cases hneg0 : rl0 < 0
  · clear s0 hrl0
    go_wp2
    go_ret
    exact ⟨rfl, Below.refl _ _⟩
  have hb0 : a0.length + tot a0 ≤ 1048576 := by
    rcases hrl0 with h | h
    · omega
    · exact h.2
  have hsee0 := Go.Lib.hid s0.2
  clear s0 hrl0 t0 w0
  have bels : Hid (Below w.heap.size w w) := Go.Lib.hid (Below.refl _ _)
  obtain ⟨b, hans⟩ : ∃ p, areB a0 = p := ⟨_, rfl⟩
  have C1 := Go.Lib.hid (specAreRows a0 b hans hb0)
  have C2 := Go.Lib.hid (implAreRows a0 b hans hb0)
  clear hans
  go_wp2_with fail
  refine (toIntSS_any _ _ a0 (hsee0.out) hb0).mono ?_
  rintro e W1 ⟨g1, rfl, o1, b1⟩
  have ZW1 := Go.Lib.hid (Below.size (b1))
  have HW1 := Go.Lib.hid (And.intro (Below.trans (bels.out) ((b1).mono (Below.size (bels.out)))) (And.intro (SeesLL.grow (hsee0.out) b1) (o1)))
  clear o1 b1
  go_wp2_with fail
  refine (C1.out _ _ (Rag.sees (HW1.out.2.2))).mono ?_
  rintro e W2 ⟨rfl, b2⟩
  have ZW2 := Go.Lib.hid (Below.size (b2))
  have HW2 := Go.Lib.hid (And.intro (Below.trans (HW1.out.1) ((b2).mono (Below.size (HW1.out.1)))) (And.intro (SeesLL.grow (HW1.out.2.1) b2) (Rag.kept (HW1.out.2.2) b2)))
  clear b2
  go_wp2_with fail
  refine (toIntSS_any _ _ a0 (HW2.out.2.1) hb0).mono ?_
  rintro e W3 ⟨g3, rfl, o3, b3⟩
  have ZW3 := Go.Lib.hid (Below.size (b3))
  have HW3 := Go.Lib.hid (And.intro (Below.trans (HW2.out.1) ((b3).mono (Below.size (HW2.out.1)))) (And.intro (SeesLL.grow (HW2.out.2.1) b3) (o3)))
  clear o3 b3
  go_wp2_with fail
  refine (C2.out _ _ (Rag.sees (HW3.out.2.2))).mono ?_
  rintro e W4 ⟨rfl, b4⟩
  have ZW4 := Go.Lib.hid (Below.size (b4))
  have HW4 := Go.Lib.hid (And.intro (Below.trans (HW3.out.1) ((b4).mono (Below.size (HW3.out.1)))) (And.intro (SeesLL.grow (HW3.out.2.1) b4) (Rag.kept (HW3.out.2.2) b4)))
  clear b4
  go_wp2_with fail
  refine (toIntSS_any _ _ a0 (HW4.out.2.1) hb0).mono ?_
  rintro e W5 ⟨g5, rfl, o5, b5⟩
  have ZW5 := Go.Lib.hid (Below.size (b5))
  have HW5 := Go.Lib.hid (And.intro (Below.trans (HW4.out.1) ((b5).mono (Below.size (HW4.out.1)))) (And.intro (SeesLL.grow (HW4.out.2.1) b5) (And.intro (Rag.kept (HW4.out.2.2) b5) (o5))))
  clear o5 b5
  go_wp2_with fail
  refine (eqIntSS_ll _ _ _ a0 (Rag.sees (HW5.out.2.2.1)) (Rag.sees (HW5.out.2.2.2)) hb0).mono ?_
  rintro e W6 ⟨rfl, d6⟩
  have ZW6 := Go.Lib.hid (Below.size ((d6.below W5.heap.size)))
  have HW6 := Go.Lib.hid (And.intro (Below.trans (HW5.out.1) (((d6.below W5.heap.size)).mono (Below.size (HW5.out.1)))) (And.intro (SeesLL.grow (HW5.out.2.1) (d6.below W5.heap.size)) (And.intro (Rag.kept (HW5.out.2.2.1) (d6.below W5.heap.size)) (Rag.kept (HW5.out.2.2.2) (d6.below W5.heap.size)))))
  clear d6
  go_wp2_with fail
  go_ret
  exact ⟨rfl, HW6.out.1⟩

/-! ### From the walk to the row -/
set_option maxRecDepth 100000 in
theorem lifted (os : Os) (started : os.Started) (H : Type) (enc : TypeId × Value → H) :
    ReturnsInHanded {} Try.checked os 16 .any (Rows.fnExactAreRowsSpec.pre6 enc Try.prog Try.f16 Rows.fnExactAreRowsRow.domain false) (Rows.fnExactAreRowsSpec.post enc Try.prog Try.f16 false true false false) := by
  refine returnsInHanded_of_change (C := Try.checked) own started (by kernel_rfl) Try.func16
    (ChangeSpec.witness6 (enc := enc) (C := Try.checked) false ⟨#[], #[.slice none 0 0], []⟩ 8 (by kernel_rfl) (by kernel_rfl) (by kernel_rfl) (by kernel_rfl)) ?_
  intro W base args ds gs before hval0 hW hcnd _
  have hval : ∀ (j : Nat) t v, Try.f16.params[j]? = some t → args[j]? = some v → Value.okWide Try.prog W .any base t v := hval0
  have hW' := hW
  obtain ⟨p, q, hA0, hV, rfl, hfz, hnd⟩ := hW
  have hA : DataW.TrodAll enc Try.prog W 0 (fun _ => true) true Try.f16.params.toList args.toList ds p := hA0
  rw [Try.params16] at hA hval
  obtain ⟨u0, vs0, d0, ds0, p0, q0, hargs, rfl, rfl, h0, r0⟩ := trodAll_cons hA
  obtain ⟨rfl, rfl, rfl⟩ := trodAll_nil r0
  obtain rfl : args = #[u0] := by cases args; simp_all
  obtain ⟨rfl, rfl⟩ := trodVars_none hV
  have lt0 : ∀ x ∈ p0, x.block < W.heap.size := by obtain ⟨m, hm⟩ := h0; exact DataW.trod_lt m _ _ _ hm
  obtain ⟨n0, a0, s0, t0, w0⟩ := sees_rows Try.underlying31 Try.underlying24 Try.underlying3 (by kernel_rfl) (by kernel_rfl) (hval 0 31 u0 rfl rfl) h0
  clear hA0 hval0
  refine (walk u0 n0 a0 W s0 t0 w0).mono fun e W' ⟨he, bel⟩ => ?_
  subst he
  exact ⟨_, rfl, _, _, _, [], _, [], hW', trodAll_mk1 (shut_bool Try.underlying4 _), (trodAll_cons_mk (Below.trod laidOut (by kernel_rfl) (of_decide_eq_true (by kernel_rfl)) h0 bel lt0) trodAll_mk0), rfl, bel.frame _, fun h => by cases h⟩

theorem over : Rows.fnExactAreRowsRow.holds Try.pinned (OpenSpec.ofChange Rows.fnExactAreRowsSpec) :=
  OpenClaim.holds_of_wide 16 Try.f16 rfl rfl rfl rfl rfl rfl rfl ⟨rfl, rfl, rfl, rfl, rfl⟩ rfl rfl rfl rfl rfl (by kernel_rfl) Try.func16
    (show joinedFacts Try.prog 16 Try.f16 Rows.fnExactAreRowsSpec Rows.fnExactAreRowsRow = true by unfold joinedFacts; rw [SeatC.may, SeatC.lif, SeatC.mke]; kernel_rfl)
    (of_decide_eq_true (by kernel_rfl)) (by unfold Func.isWrapper; first | (rw [if_pos (by decide +kernel)]; kernel_rfl) | (rw [if_neg (by decide +kernel)]; exact ⟨rfl, rfl⟩))
    (fun os started H enc _ => lifted os started H enc)

/-- The statement. -/
theorem proved : Rows.FnExactAreRowsSaid :=
  over
#print axioms proved
end Go.Proofs.Ytmnggcnipjdimaa.fnExactAreRows
