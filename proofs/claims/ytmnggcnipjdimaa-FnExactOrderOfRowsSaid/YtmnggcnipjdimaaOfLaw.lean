/-
  For each two ragged lists of integers that memory can hold: the program answers OrderOfRows as the model does, leaves its arguments alone, and its answer owns its memory.
-/
import Derived.Test.YtmnggcnipjdimaaRows
import Derived.Test.YtmnggcnipjdimaaSeat
import Derived.Test.YtmnggcnipjdimaaOpen
import Derived.WalkKit
import Derived.ProofKit
import Derived.OpenShut
import Derived.ShutString
import Derived.ChangeOld
import Derived.Below
import Derived.Test.YtmnggcnipjdimaaExact
import Derived.Test.YtmnggcnipjdimaaOrd
import Derived.Test.YtmnggcnipjdimaaRagRes
import Derived.Test.YtmnggcnipjdimaaOfP
import Derived.Test.YtmnggcnipjdimaaTwoLL
namespace Go.Proofs.Ytmnggcnipjdimaa.fnExactOrderOfRows
open Go.ChangeShapes Go.WideShapes Go.ChangeAt Go.RowKit SeesC OpenC
open Go.ChangeMaps (open_string shut_string)
open IntsC ExactC OrdMath ListsC LLC RagMarkC RagResC TwoLLC QueM PassM RowsM AreM OutM OfSC OfPC
set_option linter.unusedVariables false

theorem own : ownKnob Try.prog.godebug = none := by kernel_rfl
theorem laidOut : laidOutB Try.prog = true := by kernel_rfl

/-! ### The walk -/
set_option maxHeartbeats 2000000 in
theorem walk (v0 : Value) (n0 : Nat) (a0 : List (List Int)) (v1 : Value) (n1 : Nat) (a1 : List (List Int)) (w : World) (s0 : a0.length = n0 ∧ SeesLL w v0 a0) (t0 : n0 ≤ maxLen) (w0 : ∀ l ∈ a0, l.length ≤ maxLen) (s1 : a1.length = n1 ∧ SeesLL w v1 a1) (t1 : n1 ≤ maxLen) (w1 : ∀ l ∈ a1, l.length ≤ maxLen) :
    Calls Try.prog 17 #[v0, v1] w fun e w' => e = .returned (.bool true) ∧ Below w.heap.size w w' := by
  have hvlt := fun (z : World) => Nat.le_refl z.heap.size
  clear hvlt
  go_enter Try.func17, Try.ntmps17
  go_wp2_with fail
  refine (szIntSS_from 1048576 (by omega) v0 a0 w s0.2 (by rw [s0.1]; exact t0) w0).mono ?_
  rintro e wq ⟨rl0, rfl, hwq, hrl0⟩
  obtain rfl : w = wq := hwq.symm
  clear hwq
  by_cases hneg0 : rl0 < 0
  · clear hrl0
    go_wp2
    go_ret
    exact ⟨rfl, Below.refl _ _⟩
  obtain ⟨rq0, rfl, hrq0⟩ : ∃ q : Nat, rl0 = q ∧ q + (a0.length + tot a0) = 1048576 := by
    rcases hrl0 with h | h
    · omega
    · exact h
  clear hrl0 hneg0
  have hneg0 : ¬ ((rq0 : Int) < 0) := by omega
  have HQ0 := Go.Lib.hid hrq0
  have hq0 : rq0 ≤ 1048576 := by omega
  clear hrq0
  go_wp2_with fail
  refine (szIntSS_from rq0 (by omega) v1 a1 w s1.2 (by rw [s1.1]; exact t1) w1).mono ?_
  rintro e wq ⟨rl1, rfl, hwq, hrl1⟩
  obtain rfl : w = wq := hwq.symm
  clear hwq
  by_cases hneg1 : rl1 < 0
  · clear hrl1
    go_wp2
    go_ret
    exact ⟨rfl, Below.refl _ _⟩
  obtain ⟨rq1, rfl, hrq1⟩ : ∃ q : Nat, rl1 = q ∧ q + (a1.length + tot a1) = rq0 := by
    rcases hrl1 with h | h
    · omega
    · exact h
  clear hrl1 hneg1
  have hneg1 : ¬ ((rq1 : Int) < 0) := by omega
  have HQ1 := Go.Lib.hid hrq1
  have hq1 : rq1 ≤ 1048576 := by omega
  clear hrq1
  have hrq0 := HQ0.out
  have hrq1 := HQ1.out
  have hb0 : a0.length + tot a0 ≤ 1048576 := by omega
  have hb1 : a1.length + tot a1 ≤ 1048576 := by omega
  have HSUM := Go.Lib.hid (show tot a0 + tot a1 ≤ 1048576 by omega)
  clear hrq0 HQ0 hneg0 hq0 hrq1 HQ1 hneg1 hq1
  have hsee0 := Go.Lib.hid s0.2
  clear s0 t0 w0
  have hsee1 := Go.Lib.hid s1.2
  clear s1 t1 w1
  have bels : Hid (Below w.heap.size w w) := Go.Lib.hid (Below.refl _ _)
  obtain ⟨⟨xs, b⟩, hans⟩ : ∃ p, ofAns a0 a1 = p := ⟨_, rfl⟩
  have C1 := Go.Lib.hid (specOf a0 a1 xs b hans hb0 hb1)
  have C2 := Go.Lib.hid (implOf a0 a1 xs b hans hb0 hb1)
  have hxl : xs.length ≤ 1048576 := of_alen hans
  clear hans
  go_wp2_with fail
  refine (toIntSS_any _ _ a0 (hsee0.out) hb0).mono ?_
  rintro e W1 ⟨g1, rfl, o1, b1⟩
  have ZW1 := Go.Lib.hid (Below.size (b1))
  have HW1 := Go.Lib.hid (And.intro (Below.trans (bels.out) ((b1).mono (Below.size (bels.out)))) (And.intro (SeesLL.grow (hsee0.out) b1) (And.intro (SeesLL.grow (hsee1.out) b1) (Rag.under (o1)))))
  clear o1 b1
  go_wp2_with fail
  refine (toIntSS_any _ _ a1 (HW1.out.2.2.1) hb1).mono ?_
  rintro e W2 ⟨g2, rfl, o2, b2⟩
  have ZW2 := Go.Lib.hid (Below.size (b2))
  have HW2 := Go.Lib.hid (And.intro (Below.trans (HW1.out.1) ((b2).mono (Below.size (HW1.out.1)))) (And.intro (SeesLL.grow (HW1.out.2.1) b2) (And.intro (SeesLL.grow (HW1.out.2.2.1) b2) (And.intro (RagU.kept (HW1.out.2.2.2) b2) (Rag.under (o2))))))
  clear o2 b2
  go_wp2_with fail
  refine (C1.out _ _ (RagU.sees (HW2.out.2.2.2.1)) _ (RagU.sees (HW2.out.2.2.2.2))).mono ?_
  rintro e W3 ⟨v3, rfl, o3, b3⟩
  have ZW3 := Go.Lib.hid (Below.size (b3))
  have Rw0 := Go.Lib.hid (fun q hq => World.ownsRow.lt (o3) q hq)
  have HW3 := Go.Lib.hid (And.intro (Below.trans (HW2.out.1) ((b3).mono (Below.size (HW2.out.1)))) (And.intro (SeesLL.grow (HW2.out.2.1) b3) (And.intro (SeesLL.grow (HW2.out.2.2.1) b3) (And.intro (RagU.kept (HW2.out.2.2.2.1) b3) (And.intro (RagU.kept (HW2.out.2.2.2.2) b3) (o3))))))
  clear o3 b3
  go_wp2_with fail
  refine (toIntSS_any _ _ a0 (HW3.out.2.1) hb0).mono ?_
  rintro e W4 ⟨g4, rfl, o4, b4⟩
  have ZW4 := Go.Lib.hid (Below.size (b4))
  have HW4 := Go.Lib.hid (And.intro (Below.trans (HW3.out.1) ((b4).mono (Below.size (HW3.out.1)))) (And.intro (SeesLL.grow (HW3.out.2.1) b4) (And.intro (SeesLL.grow (HW3.out.2.2.1) b4) (And.intro (kept_call (HW3.out.2.2.2.2.2) b4) (Rag.under (o4))))))
  clear o4 b4
  go_wp2_with fail
  refine (toIntSS_any _ _ a1 (HW4.out.2.2.1) hb1).mono ?_
  rintro e W5 ⟨g5, rfl, o5, b5⟩
  have ZW5 := Go.Lib.hid (Below.size (b5))
  have HW5 := Go.Lib.hid (And.intro (Below.trans (HW4.out.1) ((b5).mono (Below.size (HW4.out.1)))) (And.intro (SeesLL.grow (HW4.out.2.1) b5) (And.intro (SeesLL.grow (HW4.out.2.2.1) b5) (And.intro (kept_call (HW4.out.2.2.2.1) b5) (And.intro (RagU.kept (HW4.out.2.2.2.2) b5) (Rag.under (o5)))))))
  clear o5 b5
  go_wp2_with fail
  refine (C2.out _ _ (RagU.sees (HW5.out.2.2.2.2.1)) _ (RagU.sees (HW5.out.2.2.2.2.2))).mono ?_
  rintro e W6 ⟨v6, rfl, o6, b6⟩
  have ZW6 := Go.Lib.hid (Below.size (b6))
  have Rg0 := Go.Lib.hid (fun q hq => World.ownsRow.lt (o6) q hq)
  have HW6 := Go.Lib.hid (And.intro (Below.trans (HW5.out.1) ((b6).mono (Below.size (HW5.out.1)))) (And.intro (SeesLL.grow (HW5.out.2.1) b6) (And.intro (SeesLL.grow (HW5.out.2.2.1) b6) (And.intro (kept_call (HW5.out.2.2.2.1) b6) (And.intro (RagU.kept (HW5.out.2.2.2.2.1) b6) (And.intro (RagU.kept (HW5.out.2.2.2.2.2) b6) (o6)))))))
  clear o6 b6
  go_wp2_with fail
  refine (eqIntS_same _ _ _ xs.length xs (Sees.owns (HW6.out.2.2.2.2.2.2)) (Sees.owns (HW6.out.2.2.2.1)) (by unfold maxLen; omega)).mono ?_
  rintro e W7 ⟨rfl, d7⟩
  have ZW7 := Go.Lib.hid (Below.size ((d7.below W6.heap.size)))
  have HW7 := Go.Lib.hid (And.intro (Below.trans (HW6.out.1) (((d7.below W6.heap.size)).mono (Below.size (HW6.out.1)))) (And.intro (SeesLL.grow (HW6.out.2.1) (d7.below W6.heap.size)) (And.intro (SeesLL.grow (HW6.out.2.2.1) (d7.below W6.heap.size)) (And.intro (kept_call (HW6.out.2.2.2.1) (d7.below W6.heap.size)) (And.intro (RagU.kept (HW6.out.2.2.2.2.1) (d7.below W6.heap.size)) (And.intro (RagU.kept (HW6.out.2.2.2.2.2.1) (d7.below W6.heap.size)) (kept_call (HW6.out.2.2.2.2.2.2) (d7.below W6.heap.size))))))))
  clear d7
  go_wp2_with fail
  refine (toIntSS_any _ _ a0 (HW7.out.2.1) hb0).mono ?_
  rintro e W8 ⟨g8, rfl, o8, b8⟩
  have ZW8 := Go.Lib.hid (Below.size (b8))
  have HW8 := Go.Lib.hid (And.intro (Below.trans (HW7.out.1) ((b8).mono (Below.size (HW7.out.1)))) (And.intro (SeesLL.grow (HW7.out.2.1) b8) (And.intro (SeesLL.grow (HW7.out.2.2.1) b8) (And.intro (kept_call (HW7.out.2.2.2.1) b8) (And.intro (RagU.kept (HW7.out.2.2.2.2.1) b8) (And.intro (RagU.kept (HW7.out.2.2.2.2.2.1) b8) (And.intro (kept_call (HW7.out.2.2.2.2.2.2) b8) (Rag.under (o8)))))))))
  clear o8 b8
  go_wp2_with fail
  refine (eqIntSS_ll _ _ _ a0 (RagU.sees (HW8.out.2.2.2.2.1)) (RagU.sees (HW8.out.2.2.2.2.2.2.2)) hb0).mono ?_
  rintro e W9 ⟨rfl, d9⟩
  have ZW9 := Go.Lib.hid (Below.size ((d9.below W8.heap.size)))
  have HW9 := Go.Lib.hid (And.intro (Below.trans (HW8.out.1) (((d9.below W8.heap.size)).mono (Below.size (HW8.out.1)))) (And.intro (SeesLL.grow (HW8.out.2.1) (d9.below W8.heap.size)) (And.intro (SeesLL.grow (HW8.out.2.2.1) (d9.below W8.heap.size)) (And.intro (kept_call (HW8.out.2.2.2.1) (d9.below W8.heap.size)) (And.intro (RagU.kept (HW8.out.2.2.2.2.1) (d9.below W8.heap.size)) (And.intro (RagU.kept (HW8.out.2.2.2.2.2.1) (d9.below W8.heap.size)) (And.intro (kept_call (HW8.out.2.2.2.2.2.2.1) (d9.below W8.heap.size)) (RagU.kept (HW8.out.2.2.2.2.2.2.2) (d9.below W8.heap.size)))))))))
  clear d9
  go_wp2_with fail
  refine (toIntSS_any _ _ a1 (HW9.out.2.2.1) hb1).mono ?_
  rintro e W10 ⟨g10, rfl, o10, b10⟩
  have ZW10 := Go.Lib.hid (Below.size (b10))
  have HW10 := Go.Lib.hid (And.intro (Below.trans (HW9.out.1) ((b10).mono (Below.size (HW9.out.1)))) (And.intro (SeesLL.grow (HW9.out.2.1) b10) (And.intro (SeesLL.grow (HW9.out.2.2.1) b10) (And.intro (kept_call (HW9.out.2.2.2.1) b10) (And.intro (RagU.kept (HW9.out.2.2.2.2.1) b10) (And.intro (RagU.kept (HW9.out.2.2.2.2.2.1) b10) (And.intro (kept_call (HW9.out.2.2.2.2.2.2.1) b10) (Rag.under (o10)))))))))
  clear o10 b10
  go_wp2_with fail
  refine (eqIntSS_ll _ _ _ a1 (RagU.sees (HW10.out.2.2.2.2.2.1)) (RagU.sees (HW10.out.2.2.2.2.2.2.2)) hb1).mono ?_
  rintro e W11 ⟨rfl, d11⟩
  have ZW11 := Go.Lib.hid (Below.size ((d11.below W10.heap.size)))
  have HW11 := Go.Lib.hid (And.intro (Below.trans (HW10.out.1) (((d11.below W10.heap.size)).mono (Below.size (HW10.out.1)))) (And.intro (SeesLL.grow (HW10.out.2.1) (d11.below W10.heap.size)) (And.intro (SeesLL.grow (HW10.out.2.2.1) (d11.below W10.heap.size)) (And.intro (kept_call (HW10.out.2.2.2.1) (d11.below W10.heap.size)) (And.intro (RagU.kept (HW10.out.2.2.2.2.1) (d11.below W10.heap.size)) (And.intro (RagU.kept (HW10.out.2.2.2.2.2.1) (d11.below W10.heap.size)) (And.intro (kept_call (HW10.out.2.2.2.2.2.2.1) (d11.below W10.heap.size)) (RagU.kept (HW10.out.2.2.2.2.2.2.2) (d11.below W10.heap.size)))))))))
  clear d11
  go_wp2_with fail
  refine (markIntSS_from _ _ 1 _ a0 _ hb0 (by have := HSUM.out;  omega) (HW11.out.2.2.2.2.1)).mono ?_
  rintro e W12 ⟨rk12, rfl, hrk12, md12⟩
  have HRK12 := Go.Lib.hid hrk12
  clear hrk12
  have hk12 : ¬ ((rk12 : Int) < 0) := by omega
  have NW12 := Go.Lib.hid (Mid.below md12 (HW11.out.1) (by have := ZW1.out; have := ZW2.out; have := ZW3.out; have := ZW4.out; have := ZW5.out; have := ZW6.out; have := ZW7.out; have := ZW8.out; have := ZW9.out; have := ZW10.out; have := ZW11.out; omega) (Nat.le_refl _))
  have ZW12 := Go.Lib.hid (Mid.size md12)
  have HW12 := Go.Lib.hid (And.intro (NW12.out) (And.intro (SeesLL.grow (hsee0.out) NW12.out) (And.intro (SeesLL.grow (hsee1.out) NW12.out) (And.intro (Mid.own md12 (HW11.out.2.2.2.1) (fun q hq => by have h2 := Rw0.out q hq; have := ZW1.out; have := ZW2.out; have := ZW3.out; have := ZW4.out; have := ZW5.out; have := ZW6.out; have := ZW7.out; have := ZW8.out; have := ZW9.out; have := ZW10.out; have := ZW11.out; omega)) (And.intro (ragu_mid md12 (HW11.out.2.2.2.2.2.1) (by have := ZW1.out; have := ZW2.out; have := ZW3.out; have := ZW4.out; have := ZW5.out; have := ZW6.out; have := ZW7.out; have := ZW8.out; have := ZW9.out; have := ZW10.out; have := ZW11.out; omega)) (Mid.own md12 (HW11.out.2.2.2.2.2.2.1) (fun q hq => by have h2 := Rg0.out q hq; have := ZW1.out; have := ZW2.out; have := ZW3.out; have := ZW4.out; have := ZW5.out; have := ZW6.out; have := ZW7.out; have := ZW8.out; have := ZW9.out; have := ZW10.out; have := ZW11.out; omega)))))))
  clear md12
  go_wp2_with fail
  refine (markIntSS_from _ _ rk12 _ a1 _ hb1 (by have := HSUM.out; have := HRK12.out;  omega) (HW12.out.2.2.2.2.1)).mono ?_
  rintro e W13 ⟨rk13, rfl, hrk13, md13⟩
  have HRK13 := Go.Lib.hid hrk13
  clear hrk13
  have hk13 : ¬ ((rk13 : Int) < 0) := by omega
  have NW13 := Go.Lib.hid (Mid.below md13 (HW12.out.1) (by have := ZW1.out; have := ZW2.out; have := ZW3.out; have := ZW4.out; have := ZW5.out; have := ZW6.out; have := ZW7.out; have := ZW8.out; have := ZW9.out; have := ZW10.out; have := ZW11.out; have := ZW12.out; omega) (Nat.le_refl _))
  have ZW13 := Go.Lib.hid (Mid.size md13)
  have HW13 := Go.Lib.hid (And.intro (NW13.out) (And.intro (SeesLL.grow (hsee0.out) NW13.out) (And.intro (SeesLL.grow (hsee1.out) NW13.out) (And.intro (Mid.own md13 (HW12.out.2.2.2.1) (fun q hq => by have h2 := Rw0.out q hq; have := ZW1.out; have := ZW2.out; have := ZW3.out; have := ZW4.out; have := ZW5.out; have := ZW6.out; have := ZW7.out; have := ZW8.out; have := ZW9.out; have := ZW10.out; have := ZW11.out; have := ZW12.out; omega)) (Mid.own md13 (HW12.out.2.2.2.2.2) (fun q hq => by have h2 := Rg0.out q hq; have := ZW1.out; have := ZW2.out; have := ZW3.out; have := ZW4.out; have := ZW5.out; have := ZW6.out; have := ZW7.out; have := ZW8.out; have := ZW9.out; have := ZW10.out; have := ZW11.out; have := ZW12.out; omega))))))
  clear md13
  go_wp2_with fail
  refine (eqIntS_same _ _ _ xs.length xs (Sees.owns (HW13.out.2.2.2.2)) (Sees.owns (HW13.out.2.2.2.1)) (by unfold maxLen; omega)).mono ?_
  rintro e W14 ⟨rfl, d14⟩
  have ZW14 := Go.Lib.hid (Below.size ((d14.below W13.heap.size)))
  have HW14 := Go.Lib.hid (And.intro (Below.trans (HW13.out.1) (((d14.below W13.heap.size)).mono (Below.size (HW13.out.1)))) (And.intro (SeesLL.grow (HW13.out.2.1) (d14.below W13.heap.size)) (And.intro (SeesLL.grow (HW13.out.2.2.1) (d14.below W13.heap.size)) (And.intro (kept_call (HW13.out.2.2.2.1) (d14.below W13.heap.size)) (kept_call (HW13.out.2.2.2.2) (d14.below W13.heap.size))))))
  clear d14
  go_wp2_with fail
  refine (markIntS_any _ xs.length 1 _ _ _ (by omega) (by omega) (HW14.out.2.2.2.2)).mono ?_
  rintro e W15 ⟨rfl, om15, gm15⟩
  have ZW15 := Go.Lib.hid (World.grownBy.size gm15)
  have HW15 := Go.Lib.hid (And.intro (Below.grown (HW14.out.1) gm15 (Below.size (HW14.out.1)) (fun k hk => by have h2 := Rg0.out k hk; have := ZW1.out; have := ZW2.out; have := ZW3.out; have := ZW4.out; have := ZW5.out; have := ZW6.out; have := ZW7.out; have := ZW8.out; have := ZW9.out; have := ZW10.out; have := ZW11.out; have := ZW12.out; have := ZW13.out; have := ZW14.out; omega)) (And.intro (SeesLL.grow (hsee0.out) (Below.grown (HW14.out.1) gm15 (Below.size (HW14.out.1)) (fun k hk => by have h2 := Rg0.out k hk; have := ZW1.out; have := ZW2.out; have := ZW3.out; have := ZW4.out; have := ZW5.out; have := ZW6.out; have := ZW7.out; have := ZW8.out; have := ZW9.out; have := ZW10.out; have := ZW11.out; have := ZW12.out; have := ZW13.out; have := ZW14.out; omega))) (And.intro (SeesLL.grow (hsee1.out) (Below.grown (HW14.out.1) gm15 (Below.size (HW14.out.1)) (fun k hk => by have h2 := Rg0.out k hk; have := ZW1.out; have := ZW2.out; have := ZW3.out; have := ZW4.out; have := ZW5.out; have := ZW6.out; have := ZW7.out; have := ZW8.out; have := ZW9.out; have := ZW10.out; have := ZW11.out; have := ZW12.out; have := ZW13.out; have := ZW14.out; omega))) (And.intro (own_mark (HW14.out.2.2.2.1) gm15 (fun a ha e => by have h1 := Rw0.out a ha; have h2 := Rg0.out a e; have := ZW1.out; have := ZW2.out; have := ZW3.out; have := ZW4.out; have := ZW5.out; have := ZW6.out; have := ZW7.out; have := ZW8.out; have := ZW9.out; have := ZW10.out; have := ZW11.out; have := ZW12.out; have := ZW13.out; have := ZW14.out; omega)) (om15)))))
  clear om15 gm15
  go_wp2_with fail
  refine (heldIntS_any xs.length 1 _ _ (by omega) (by omega) (Sees.owns (HW15.out.2.2.2.2))).mono ?_
  rintro e _ ⟨rfl, rfl⟩
  go_wp2_with fail
  refine (toIntSS_any _ _ a0 (HW15.out.2.1) hb0).mono ?_
  rintro e W16 ⟨g16, rfl, o16, b16⟩
  have ZW16 := Go.Lib.hid (Below.size (b16))
  have HW16 := Go.Lib.hid (And.intro (Below.trans (HW15.out.1) ((b16).mono (Below.size (HW15.out.1)))) (And.intro (SeesLL.grow (HW15.out.2.1) b16) (And.intro (SeesLL.grow (HW15.out.2.2.1) b16) (And.intro (kept_call (HW15.out.2.2.2.1) b16) (And.intro (kept_call (HW15.out.2.2.2.2) b16) (Rag.under (o16)))))))
  clear o16 b16
  go_wp2_with fail
  refine (toIntSS_any _ _ a1 (HW16.out.2.2.1) hb1).mono ?_
  rintro e W17 ⟨g17, rfl, o17, b17⟩
  have ZW17 := Go.Lib.hid (Below.size (b17))
  have HW17 := Go.Lib.hid (And.intro (Below.trans (HW16.out.1) ((b17).mono (Below.size (HW16.out.1)))) (And.intro (SeesLL.grow (HW16.out.2.1) b17) (And.intro (SeesLL.grow (HW16.out.2.2.1) b17) (And.intro (kept_call (HW16.out.2.2.2.1) b17) (And.intro (kept_call (HW16.out.2.2.2.2.1) b17) (And.intro (RagU.kept (HW16.out.2.2.2.2.2) b17) (Rag.under (o17))))))))
  clear o17 b17
  go_wp2_with fail
  refine (C2.out _ _ (RagU.sees (HW17.out.2.2.2.2.2.1)) _ (RagU.sees (HW17.out.2.2.2.2.2.2))).mono ?_
  rintro e W18 ⟨v18, rfl, o18, b18⟩
  have ZW18 := Go.Lib.hid (Below.size (b18))
  have Rh0 := Go.Lib.hid (fun q hq => World.ownsRow.lt (o18) q hq)
  have HW18 := Go.Lib.hid (And.intro (Below.trans (HW17.out.1) ((b18).mono (Below.size (HW17.out.1)))) (And.intro (SeesLL.grow (HW17.out.2.1) b18) (And.intro (SeesLL.grow (HW17.out.2.2.1) b18) (And.intro (kept_call (HW17.out.2.2.2.1) b18) (And.intro (kept_call (HW17.out.2.2.2.2.1) b18) (And.intro (RagU.kept (HW17.out.2.2.2.2.2.1) b18) (And.intro (RagU.kept (HW17.out.2.2.2.2.2.2) b18) (o18))))))))
  clear o18 b18
  go_wp2_with fail
  refine (eqIntS_same _ _ _ xs.length xs (Sees.owns (HW18.out.2.2.2.2.2.2.2)) (Sees.owns (HW18.out.2.2.2.1)) (by unfold maxLen; omega)).mono ?_
  rintro e W19 ⟨rfl, d19⟩
  have ZW19 := Go.Lib.hid (Below.size ((d19.below W18.heap.size)))
  have HW19 := Go.Lib.hid (And.intro (Below.trans (HW18.out.1) (((d19.below W18.heap.size)).mono (Below.size (HW18.out.1)))) (And.intro (SeesLL.grow (HW18.out.2.1) (d19.below W18.heap.size)) (And.intro (SeesLL.grow (HW18.out.2.2.1) (d19.below W18.heap.size)) (And.intro (kept_call (HW18.out.2.2.2.1) (d19.below W18.heap.size)) (And.intro (kept_call (HW18.out.2.2.2.2.1) (d19.below W18.heap.size)) (kept_call (HW18.out.2.2.2.2.2.2.2) (d19.below W18.heap.size)))))))
  clear d19
  go_wp2_with fail
  refine (heldIntS_any xs.length 1 _ _ (by omega) (by omega) (Sees.owns (HW19.out.2.2.2.2.1))).mono ?_
  rintro e _ ⟨rfl, rfl⟩
  go_wp2_with fail
  go_ret
  exact ⟨rfl, HW19.out.1⟩

/-! ### From the walk to the row -/
set_option maxRecDepth 100000 in
theorem lifted (os : Os) (started : os.Started) (H : Type) (enc : TypeId × Value → H) :
    ReturnsInHanded {} Try.checked os 17 .any (Rows.fnExactOrderOfRowsSpec.pre6 enc Try.prog Try.f17 Rows.fnExactOrderOfRowsRow.domain false) (Rows.fnExactOrderOfRowsSpec.post enc Try.prog Try.f17 false true false false) := by
  refine returnsInHanded_of_change (C := Try.checked) own started (by kernel_rfl) Try.func17
    (ChangeSpec.witness6 (enc := enc) (C := Try.checked) false ⟨#[], #[.slice none 0 0, .slice none 0 0], []⟩ 8 (by kernel_rfl) (by kernel_rfl) (by kernel_rfl) (by kernel_rfl)) ?_
  intro W base args ds gs before hval0 hW hcnd _
  have hval : ∀ (j : Nat) t v, Try.f17.params[j]? = some t → args[j]? = some v → Value.okWide Try.prog W .any base t v := hval0
  have hW' := hW
  obtain ⟨p, q, hA0, hV, rfl, hfz, hnd⟩ := hW
  have hA : DataW.TrodAll enc Try.prog W 0 (fun _ => true) true Try.f17.params.toList args.toList ds p := hA0
  rw [Try.params17] at hA hval
  obtain ⟨u0, vs0, d0, ds0, p0, q0, hargs, rfl, rfl, h0, r0⟩ := trodAll_cons hA
  obtain ⟨u1, vs1, d1, ds1, p1, q1, rfl, rfl, rfl, h1, r1⟩ := trodAll_cons r0
  obtain ⟨rfl, rfl, rfl⟩ := trodAll_nil r1
  obtain rfl : args = #[u0, u1] := by cases args; simp_all
  obtain ⟨rfl, rfl⟩ := trodVars_none hV
  have lt0 : ∀ x ∈ p0, x.block < W.heap.size := by obtain ⟨m, hm⟩ := h0; exact DataW.trod_lt m _ _ _ hm
  obtain ⟨n0, a0, s0, t0, w0⟩ := sees_rows Try.underlying31 Try.underlying24 Try.underlying3 (by kernel_rfl) (by kernel_rfl) (hval 0 31 u0 rfl rfl) h0
  have lt1 : ∀ x ∈ p1, x.block < W.heap.size := by obtain ⟨m, hm⟩ := h1; exact DataW.trod_lt m _ _ _ hm
  obtain ⟨n1, a1, s1, t1, w1⟩ := sees_rows Try.underlying31 Try.underlying24 Try.underlying3 (by kernel_rfl) (by kernel_rfl) (hval 1 31 u1 rfl rfl) h1
  clear hA0 hval0
  refine (walk u0 n0 a0 u1 n1 a1 W s0 t0 w0 s1 t1 w1).mono fun e W' ⟨he, bel⟩ => ?_
  subst he
  exact ⟨_, rfl, _, _, _, [], _, [], hW', trodAll_mk1 (shut_bool Try.underlying4 _), (trodAll_cons_mk (Below.trod laidOut (by kernel_rfl) (of_decide_eq_true (by kernel_rfl)) h0 bel lt0) (trodAll_cons_mk (Below.trod laidOut (by kernel_rfl) (of_decide_eq_true (by kernel_rfl)) h1 bel lt1) trodAll_mk0)), rfl, bel.frame _, fun h => by cases h⟩

theorem over : Rows.fnExactOrderOfRowsRow.holds Try.pinned (OpenSpec.ofChange Rows.fnExactOrderOfRowsSpec) :=
  OpenClaim.holds_of_wide 17 Try.f17 rfl rfl rfl rfl rfl rfl rfl ⟨rfl, rfl, rfl, rfl, rfl⟩ rfl rfl rfl rfl rfl (by kernel_rfl) Try.func17
    (show joinedFacts Try.prog 17 Try.f17 Rows.fnExactOrderOfRowsSpec Rows.fnExactOrderOfRowsRow = true by unfold joinedFacts; rw [SeatC.may, SeatC.lif, SeatC.mke]; kernel_rfl)
    (of_decide_eq_true (by kernel_rfl)) (by unfold Func.isWrapper; first | (rw [if_pos (by decide +kernel)]; kernel_rfl) | (rw [if_neg (by decide +kernel)]; exact ⟨rfl, rfl⟩))
    (fun os started H enc _ => lifted os started H enc)

/-- The statement. -/
theorem proved : Rows.FnExactOrderOfRowsSaid :=
  over
#print axioms proved
end Go.Proofs.Ytmnggcnipjdimaa.fnExactOrderOfRows
