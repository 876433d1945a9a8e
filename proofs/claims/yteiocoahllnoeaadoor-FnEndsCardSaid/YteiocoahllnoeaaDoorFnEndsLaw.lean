/-
  FnEnds holds at every code. Conditions: none.
-/
import Derived.Test.YteiocoahllnoeaaDoorCards
import Derived.Test.YteiocoahllnoeaaDoorTie
import Derived.Test.YteiocoahllnoeaaDoorOpen
import Derived.Test.YteiocoahllnoeaaDoorLaidU
import Derived.WalkKit
import Derived.ProofKit
import Derived.OpenShut
import Derived.ShutString
import Derived.ChangeOld
import Derived.Below
import Derived.Deep.DeepHandedRow
import Derived.Lib.LaidTab
import Derived.Test.YteiocoahllnoeaaDoorExact
import Derived.Test.YteiocoahllnoeaaDoorOrd
import Derived.Test.YteiocoahllnoeaaDoorEFacts3
import Derived.Test.YteiocoahllnoeaaDoorDrawE
import Derived.Test.YteiocoahllnoeaaDoorWordTo
import Derived.Test.YteiocoahllnoeaaDoorWord
import Derived.Test.YteiocoahllnoeaaDoorRBig
namespace Go.Proofs.YteiocoahllnoeaaDoor.fnEnds
open Go.ChangeShapes Go.WideShapes Go.ChangeAt Go.RowKit SeesC OpenC LaidC
open Go.ChangeMaps (open_string shut_string)
open IntsC ExactC OrdMath WordMath OrderC WordC RunC ToC WordToC EndM ERunM ERunC ERunPC EPlC EStkC EToC EToPC EBotC DrawEC RBigC EFacts3
set_option linter.unusedVariables false

theorem own : ownKnob Tryd.prog.godebug = none := by kernel_rfl
theorem laidOut : laidOutB Tryd.prog = true := by kernel_rfl

/-! ### The walk -/
set_option maxRecDepth 100000 in
set_option maxHeartbeats 16000000 in
theorem walk (v0 : Value) (n0 : Nat) (a0 : List Int) (w : World) (s0 : Sees w v0 n0 (a0.map (Value.int .u8))) (t0 : n0 ≤ maxLen) (w0 : ∀ z ∈ a0, (Lit.int .u8 z).wf = true) (hT : Tab w) :
    Calls Tryd.prog 3 #[v0] w fun e w' => e = .returned (.bool true) ∧ Below w.heap.size w w' := by
  have hz : ∀ z ∈ a0, 0 ≤ z ∧ z ≤ 255 := byte_bd w0
  have hs0 := s0
  obtain ⟨_, ar, cap, rfl, _, _⟩ := hs0
  by_cases hbig : (65536 : Int) < (n0 : Int)
  · have cB := Go.Lib.hid (rBig_of w ar n0 cap true (decide_eq_true hbig))
    clear hz
    go_enter Tryd.func3, Tryd.ntmps3
    go_wp2_with fail
    refine (cB.out).mono ?_
    rintro e W1 ⟨rfl, rfl⟩
    go_wp2_with fail
    go_ret
    exact ⟨rfl, Below.refl _ _⟩
  have hn : n0 ≤ 65536 := by omega
  have cB := Go.Lib.hid (rBig_of w ar n0 cap false (decide_eq_false hbig))
  have D1 := Go.Lib.hid (fun W h => drawRunE_any (.slice ar n0 cap) n0 a0 W h hz hn)
  have D2 := Go.Lib.hid (fun W h => drawPlainE_any (.slice ar n0 cap) n0 a0 W h hz hn)
  have D3 := Go.Lib.hid (fun W h => drawEndsTo_any (.slice ar n0 cap) n0 a0 W h hz hn)
  have HW0 := Go.Lib.hid (And.intro (Below.refl w.heap.size w) (And.intro s0 hT))
  clear hz s0 w0 t0 hT
  go_enter Tryd.func3, Tryd.ntmps3
  go_wp2_with fail
  refine (cB.out).mono ?_
  rintro e Wz ⟨rfl, rfl⟩
  go_wp2_with fail
  refine (D1.out _ (HW0.out.2.1)).mono ?_
  rintro e W1 ⟨vO, zs, wo, rfl, hz8, hwo, o1, b1⟩
  have HW1 := Go.Lib.hid (And.intro (Below.trans (HW0.out.1) ((b1).mono (Below.size (HW0.out.1)))) (And.intro (Sees.grow (HW0.out.2.1) b1) (And.intro (Tab.grow (HW0.out.2.2) b1) (own_lower (o1) (Below.size (HW0.out.1))))))
  clear o1 b1
  obtain ⟨out, ok, h1, lo, hok⟩ := fe_run zs wo hz8
  have R1 := Go.Lib.hid (implERun zs wo out ok h1 (by omega) (by omega))
  have R2 := Go.Lib.hid (specERun zs wo out ok h1 (by omega) (by omega))
  have HOK := Go.Lib.hid hok
  clear h1 hok D1 cB
  go_wp2_with fail
  refine (R1.out _ (HW1.out.2.2.1) _ _ (Sees.owns (HW1.out.2.2.2))).mono ?_
  rintro e W2 ⟨v2, rfl, o2, b2⟩
  have HW2 := Go.Lib.hid (And.intro (Below.trans (HW1.out.1) ((b2).mono (Below.size (HW1.out.1)))) (And.intro (Sees.grow (HW1.out.2.1) b2) (And.intro (Tab.grow (HW1.out.2.2.1) b2) (And.intro (kept_call (HW1.out.2.2.2) b2) (own_lower (o2) (Below.size (HW1.out.1)))))))
  clear o2 b2
  go_wp2_with fail
  refine (R2.out _ _ _ (Sees.owns (HW2.out.2.2.2.1))).mono ?_
  rintro e W3 ⟨v3, rfl, o3, b3⟩
  have HW3 := Go.Lib.hid (And.intro (Below.trans (HW2.out.1) ((b3).mono (Below.size (HW2.out.1)))) (And.intro (Sees.grow (HW2.out.2.1) b3) (And.intro (Tab.grow (HW2.out.2.2.1) b3) (And.intro (kept_call (HW2.out.2.2.2.1) b3) (And.intro (kept_call (HW2.out.2.2.2.2) b3) (own_lower (o3) (Below.size (HW2.out.1))))))))
  clear o3 b3
  go_wp2_with fail
  refine (rInts_same _ _ _ out.length out (Sees.owns (HW3.out.2.2.2.2.1)) (Sees.owns (HW3.out.2.2.2.2.2)) (by unfold maxLen; omega)).mono ?_
  rintro e W4 ⟨rfl, d4⟩
  have HW4 := Go.Lib.hid (And.intro (Below.trans (HW3.out.1) (((d4.below W3.heap.size)).mono (Below.size (HW3.out.1)))) (And.intro (Sees.grow (HW3.out.2.1) (d4.below W3.heap.size)) (And.intro (Tab.grow (HW3.out.2.2.1) (d4.below W3.heap.size)) (And.intro (kept_call (HW3.out.2.2.2.1) (d4.below W3.heap.size)) (And.intro (kept_call (HW3.out.2.2.2.2.1) (d4.below W3.heap.size)) (kept_call (HW3.out.2.2.2.2.2) (d4.below W3.heap.size)))))))
  clear d4
  have HWd5 := Go.Lib.hid (And.intro HW4.out.1 (And.intro HW4.out.2.1 (And.intro HW4.out.2.2.1 (And.intro HW4.out.2.2.2.1 HW4.out.2.2.2.2.1))))
  clear HW4
  clear R1 R2
  go_wp2_with fail
  refine (D2.out _ (HWd5.out.2.1)).mono ?_
  rintro e W6 ⟨x, hx, rfl, b6⟩
  have HW6 := Go.Lib.hid (And.intro (Below.trans (HWd5.out.1) ((b6).mono (Below.size (HWd5.out.1)))) (And.intro (Sees.grow (HWd5.out.2.1) b6) (And.intro (Tab.grow (HWd5.out.2.2.1) b6) (And.intro (kept_call (HWd5.out.2.2.2.1) b6) (kept_call (HWd5.out.2.2.2.2) b6)))))
  clear b6
  obtain ⟨pl, one, dp, sk, h2, h3, h4, h5, lpl, lsk, hone⟩ := fe_word x hx
  have P1 := Go.Lib.hid (implEPl x pl one h2 (by omega))
  have P2 := Go.Lib.hid (specEPl x pl one h2 (by omega))
  have P3 := Go.Lib.hid (implEIs x one h3 (by omega))
  have E1 := Go.Lib.hid (implED x dp one h4 (by omega))
  have E2 := Go.Lib.hid (specED x dp one h4 (by omega))
  have K1 := Go.Lib.hid (implEStk x sk one h5 (by omega))
  have K2 := Go.Lib.hid (specEStk x sk one h5 (by omega))
  have HONE := Go.Lib.hid hone
  clear h2 h3 h4 h5 hone D2
  go_wp2_with fail
  refine (P1.out _ (HW6.out.2.2.1)).mono ?_
  rintro e W7 ⟨rfl, b7⟩
  have HW7 := Go.Lib.hid (And.intro (Below.trans (HW6.out.1) ((b7).mono (Below.size (HW6.out.1)))) (And.intro (Sees.grow (HW6.out.2.1) b7) (And.intro (Tab.grow (HW6.out.2.2.1) b7) (And.intro (kept_call (HW6.out.2.2.2.1) b7) (kept_call (HW6.out.2.2.2.2) b7)))))
  clear b7
  go_wp2_with fail
  refine (P2.out _).mono ?_
  rintro e W8 ⟨rfl, b8⟩
  have HW8 := Go.Lib.hid (And.intro (Below.trans (HW7.out.1) ((b8).mono (Below.size (HW7.out.1)))) (And.intro (Sees.grow (HW7.out.2.1) b8) (And.intro (Tab.grow (HW7.out.2.2.1) b8) (And.intro (kept_call (HW7.out.2.2.2.1) b8) (kept_call (HW7.out.2.2.2.2) b8)))))
  clear b8
  go_wp2_with fail
  refine (P3.out _ (HW8.out.2.2.1)).mono ?_
  rintro e W9 ⟨rfl, b9⟩
  have HW9 := Go.Lib.hid (And.intro (Below.trans (HW8.out.1) ((b9).mono (Below.size (HW8.out.1)))) (And.intro (Sees.grow (HW8.out.2.1) b9) (And.intro (Tab.grow (HW8.out.2.2.1) b9) (And.intro (kept_call (HW8.out.2.2.2.1) b9) (kept_call (HW8.out.2.2.2.2) b9)))))
  clear b9
  go_wp2_with fail
  refine (E1.out _ (HW9.out.2.2.1)).mono ?_
  rintro e W10 ⟨rfl, b10⟩
  have HW10 := Go.Lib.hid (And.intro (Below.trans (HW9.out.1) ((b10).mono (Below.size (HW9.out.1)))) (And.intro (Sees.grow (HW9.out.2.1) b10) (And.intro (Tab.grow (HW9.out.2.2.1) b10) (And.intro (kept_call (HW9.out.2.2.2.1) b10) (kept_call (HW9.out.2.2.2.2) b10)))))
  clear b10
  go_wp2_with fail
  refine (E2.out _).mono ?_
  rintro e W11 ⟨rfl, b11⟩
  have HW11 := Go.Lib.hid (And.intro (Below.trans (HW10.out.1) ((b11).mono (Below.size (HW10.out.1)))) (And.intro (Sees.grow (HW10.out.2.1) b11) (And.intro (Tab.grow (HW10.out.2.2.1) b11) (And.intro (kept_call (HW10.out.2.2.2.1) b11) (kept_call (HW10.out.2.2.2.2) b11)))))
  clear b11
  go_wp2_with fail
  refine (K1.out _ (HW11.out.2.2.1)).mono ?_
  rintro e W12 ⟨rfl, b12⟩
  have HW12 := Go.Lib.hid (And.intro (Below.trans (HW11.out.1) ((b12).mono (Below.size (HW11.out.1)))) (And.intro (Sees.grow (HW11.out.2.1) b12) (And.intro (Tab.grow (HW11.out.2.2.1) b12) (And.intro (kept_call (HW11.out.2.2.2.1) b12) (kept_call (HW11.out.2.2.2.2) b12)))))
  clear b12
  go_wp2_with fail
  refine (K2.out _).mono ?_
  rintro e W13 ⟨rfl, b13⟩
  have HW13 := Go.Lib.hid (And.intro (Below.trans (HW12.out.1) ((b13).mono (Below.size (HW12.out.1)))) (And.intro (Sees.grow (HW12.out.2.1) b13) (And.intro (Tab.grow (HW12.out.2.2.1) b13) (And.intro (kept_call (HW12.out.2.2.2.1) b13) (kept_call (HW12.out.2.2.2.2) b13)))))
  clear b13
  clear P1 P2 P3 E1 E2 K1 K2
  go_wp2_with fail
  refine (D3.out _ (HW13.out.2.1)).mono ?_
  rintro e W14 ⟨vA, vB, xa, xb, rfl, la, lb, oa14, ob14, b14⟩
  have HW14 := Go.Lib.hid (And.intro (Below.trans (HW13.out.1) ((b14).mono (Below.size (HW13.out.1)))) (And.intro (Sees.grow (HW13.out.2.1) b14) (And.intro (Tab.grow (HW13.out.2.2.1) b14) (And.intro (kept_call (HW13.out.2.2.2.1) b14) (And.intro (kept_call (HW13.out.2.2.2.2) b14) (And.intro (own_lower (oa14) (Below.size (HW13.out.1))) (own_lower (ob14) (Below.size (HW13.out.1)))))))))
  clear oa14 ob14 b14
  have HWd15 := Go.Lib.hid (And.intro HW14.out.1 (And.intro HW14.out.2.2.1 (And.intro HW14.out.2.2.2.1 (And.intro HW14.out.2.2.2.2.1 (And.intro HW14.out.2.2.2.2.2.1 HW14.out.2.2.2.2.2.2)))))
  clear HW14
  obtain ⟨tw, four, bo, t6, six, h2, h3, h4, lt, hsix, hfour⟩ := fe_to xa xb
  have T1 := Go.Lib.hid (implETo xa xb tw four h2 (by omega) (by omega))
  have T2 := Go.Lib.hid (specETo xa xb tw four h2 (by omega) (by omega))
  have B1 := Go.Lib.hid (implEBot xa xb bo four h3 (by omega) (by omega))
  have B2 := Go.Lib.hid (specEBot xa xb bo four h3 (by omega) (by omega))
  have T6 := Go.Lib.hid (implTo xa xb t6 six h4 (by omega) (by omega))
  have HFOUR := Go.Lib.hid hfour
  have HSIX := Go.Lib.hid hsix
  clear h2 h3 h4 hsix hfour D3
  go_wp2_with fail
  refine (T1.out _ _ _ (Sees.owns (HWd15.out.2.2.2.2.1)) _ _ (Sees.owns (HWd15.out.2.2.2.2.2))).mono ?_
  rintro e W16 ⟨rfl, b16⟩
  have HW16 := Go.Lib.hid (And.intro (Below.trans (HWd15.out.1) ((b16).mono (Below.size (HWd15.out.1)))) (And.intro (Tab.grow (HWd15.out.2.1) b16) (And.intro (kept_call (HWd15.out.2.2.1) b16) (And.intro (kept_call (HWd15.out.2.2.2.1) b16) (And.intro (kept_call (HWd15.out.2.2.2.2.1) b16) (kept_call (HWd15.out.2.2.2.2.2) b16))))))
  clear b16
  go_wp2_with fail
  refine (T2.out _ _ _ (Sees.owns (HW16.out.2.2.2.2.1)) _ _ (Sees.owns (HW16.out.2.2.2.2.2))).mono ?_
  rintro e W17 ⟨rfl, b17⟩
  have HW17 := Go.Lib.hid (And.intro (Below.trans (HW16.out.1) ((b17).mono (Below.size (HW16.out.1)))) (And.intro (Tab.grow (HW16.out.2.1) b17) (And.intro (kept_call (HW16.out.2.2.1) b17) (And.intro (kept_call (HW16.out.2.2.2.1) b17) (And.intro (kept_call (HW16.out.2.2.2.2.1) b17) (kept_call (HW16.out.2.2.2.2.2) b17))))))
  clear b17
  go_wp2_with fail
  refine (B1.out _ _ _ (Sees.owns (HW17.out.2.2.2.2.1)) _ _ (Sees.owns (HW17.out.2.2.2.2.2))).mono ?_
  rintro e W18 ⟨rfl, b18⟩
  have HW18 := Go.Lib.hid (And.intro (Below.trans (HW17.out.1) ((b18).mono (Below.size (HW17.out.1)))) (And.intro (Tab.grow (HW17.out.2.1) b18) (And.intro (kept_call (HW17.out.2.2.1) b18) (And.intro (kept_call (HW17.out.2.2.2.1) b18) (And.intro (kept_call (HW17.out.2.2.2.2.1) b18) (kept_call (HW17.out.2.2.2.2.2) b18))))))
  clear b18
  go_wp2_with fail
  refine (B2.out _ _ _ (Sees.owns (HW18.out.2.2.2.2.1)) _ _ (Sees.owns (HW18.out.2.2.2.2.2))).mono ?_
  rintro e W19 ⟨rfl, b19⟩
  have HW19 := Go.Lib.hid (And.intro (Below.trans (HW18.out.1) ((b19).mono (Below.size (HW18.out.1)))) (And.intro (Tab.grow (HW18.out.2.1) b19) (And.intro (kept_call (HW18.out.2.2.1) b19) (And.intro (kept_call (HW18.out.2.2.2.1) b19) (And.intro (kept_call (HW18.out.2.2.2.2.1) b19) (kept_call (HW18.out.2.2.2.2.2) b19))))))
  clear b19
  go_wp2_with fail
  refine (T6.out _ _ _ (Sees.owns (HW19.out.2.2.2.2.1)) _ _ (Sees.owns (HW19.out.2.2.2.2.2))).mono ?_
  rintro e W20 ⟨rfl, b20⟩
  have HW20 := Go.Lib.hid (And.intro (Below.trans (HW19.out.1) ((b20).mono (Below.size (HW19.out.1)))) (And.intro (Tab.grow (HW19.out.2.1) b20) (And.intro (kept_call (HW19.out.2.2.1) b20) (And.intro (kept_call (HW19.out.2.2.2.1) b20) (And.intro (kept_call (HW19.out.2.2.2.2.1) b20) (kept_call (HW19.out.2.2.2.2.2) b20))))))
  clear b20
  clear T1 T2 B1 B2
  cases four
  case false =>
    obtain rfl : six = false := by cases hs : six with | false => rfl | true => exact absurd (HSIX.out hs) (by simp)
    clear HFOUR HSIX T6
    have HWd21 := Go.Lib.hid (And.intro HW20.out.1 (And.intro HW20.out.2.1 (And.intro HW20.out.2.2.1 HW20.out.2.2.2.1)))
    clear HW20
    cases one
    case false =>
      clear HONE
      cases ok
      case false =>
        go_wp2_with fail
        go_ret
        exact ⟨rfl, HWd21.out.1⟩
      case true =>
        obtain ⟨own, p, g1, g2, g3, g4, g5⟩ := HOK.out (by trivial)
        have Q5 := Go.Lib.hid (implETo zs out own true g1 (by omega) (by omega))
        have Q6 := Go.Lib.hid (implEPl wo p true g2 (by omega))
        have Q7 := Go.Lib.hid (implERun zs p out true g3 (by omega) g5)
        have G4 : Hid ((own.size : Int) = (wo.size : Int)) := Go.Lib.hid (by rw [g4])
        clear g1 g2 g3 g4 HOK
        go_wp2_with fail
        refine (Q5.out _ _ _ (Sees.owns (HWd21.out.2.2.1)) _ _ (Sees.owns (HWd21.out.2.2.2))).mono ?_
        rintro e W22 ⟨rfl, b22⟩
        have HW22 := Go.Lib.hid (And.intro (Below.trans (HWd21.out.1) ((b22).mono (Below.size (HWd21.out.1)))) (And.intro (Tab.grow (HWd21.out.2.1) b22) (And.intro (kept_call (HWd21.out.2.2.1) b22) (kept_call (HWd21.out.2.2.2) b22))))
        clear b22
        go_wp2_with fail
        refine (Q6.out _ (HW22.out.2.1)).mono ?_
        rintro e W23 ⟨rfl, b23⟩
        have HW23 := Go.Lib.hid (And.intro (Below.trans (HW22.out.1) ((b23).mono (Below.size (HW22.out.1)))) (And.intro (Tab.grow (HW22.out.2.1) b23) (And.intro (kept_call (HW22.out.2.2.1) b23) (kept_call (HW22.out.2.2.2) b23))))
        clear b23
        go_wp2_with fail
        refine (Q7.out _ (HW23.out.2.1) _ _ (Sees.owns (HW23.out.2.2.1))).mono ?_
        rintro e W24 ⟨v24, rfl, o24, b24⟩
        have HW24 := Go.Lib.hid (And.intro (Below.trans (HW23.out.1) ((b24).mono (Below.size (HW23.out.1)))) (And.intro (Tab.grow (HW23.out.2.1) b24) (And.intro (kept_call (HW23.out.2.2.1) b24) (And.intro (kept_call (HW23.out.2.2.2) b24) (own_lower (o24) (Below.size (HW23.out.1)))))))
        clear o24 b24
        clear Q5 Q6 Q7
        go_wp2_with fail
        refine (rInts_same _ _ _ out.length out (Sees.owns (HW24.out.2.2.2.2)) (Sees.owns (HW24.out.2.2.2.1)) (by unfold maxLen; omega)).mono ?_
        rintro e W25 ⟨rfl, d25⟩
        have HW25 := Go.Lib.hid (And.intro (Below.trans (HW24.out.1) (((d25.below W24.heap.size)).mono (Below.size (HW24.out.1)))) (And.intro (Tab.grow (HW24.out.2.1) (d25.below W24.heap.size)) (And.intro (kept_call (HW24.out.2.2.1) (d25.below W24.heap.size)) (And.intro (kept_call (HW24.out.2.2.2.1) (d25.below W24.heap.size)) (kept_call (HW24.out.2.2.2.2) (d25.below W24.heap.size))))))
        clear d25
        have g4 := G4.out
        go_wp2_with fail
        go_ret
        exact ⟨rfl, HW25.out.1⟩
    case true =>
      have Q1 := Go.Lib.hid (implDepth sk dp true (HONE.out (by trivial)).1 (by omega))
      have Q2 := Go.Lib.hid (implEPl pl pl true (HONE.out (by trivial)).2 (by omega))
      go_wp2_with fail
      refine (Q1.out _).mono ?_
      rintro e W26 ⟨rfl, b26⟩
      have HW26 := Go.Lib.hid (And.intro (Below.trans (HWd21.out.1) ((b26).mono (Below.size (HWd21.out.1)))) (And.intro (Tab.grow (HWd21.out.2.1) b26) (And.intro (kept_call (HWd21.out.2.2.1) b26) (kept_call (HWd21.out.2.2.2) b26))))
      clear b26
      go_wp2_with fail
      refine (Q2.out _ (HW26.out.2.1)).mono ?_
      rintro e W27 ⟨rfl, b27⟩
      have HW27 := Go.Lib.hid (And.intro (Below.trans (HW26.out.1) ((b27).mono (Below.size (HW26.out.1)))) (And.intro (Tab.grow (HW26.out.2.1) b27) (And.intro (kept_call (HW26.out.2.2.1) b27) (kept_call (HW26.out.2.2.2) b27))))
      clear b27
      clear Q1 Q2
      clear HONE
      cases ok
      case false =>
        go_wp2_with fail
        go_ret
        exact ⟨rfl, HW27.out.1⟩
      case true =>
        obtain ⟨own, p, g1, g2, g3, g4, g5⟩ := HOK.out (by trivial)
        have Q5 := Go.Lib.hid (implETo zs out own true g1 (by omega) (by omega))
        have Q6 := Go.Lib.hid (implEPl wo p true g2 (by omega))
        have Q7 := Go.Lib.hid (implERun zs p out true g3 (by omega) g5)
        have G4 : Hid ((own.size : Int) = (wo.size : Int)) := Go.Lib.hid (by rw [g4])
        clear g1 g2 g3 g4 HOK
        go_wp2_with fail
        refine (Q5.out _ _ _ (Sees.owns (HW27.out.2.2.1)) _ _ (Sees.owns (HW27.out.2.2.2))).mono ?_
        rintro e W28 ⟨rfl, b28⟩
        have HW28 := Go.Lib.hid (And.intro (Below.trans (HW27.out.1) ((b28).mono (Below.size (HW27.out.1)))) (And.intro (Tab.grow (HW27.out.2.1) b28) (And.intro (kept_call (HW27.out.2.2.1) b28) (kept_call (HW27.out.2.2.2) b28))))
        clear b28
        go_wp2_with fail
        refine (Q6.out _ (HW28.out.2.1)).mono ?_
        rintro e W29 ⟨rfl, b29⟩
        have HW29 := Go.Lib.hid (And.intro (Below.trans (HW28.out.1) ((b29).mono (Below.size (HW28.out.1)))) (And.intro (Tab.grow (HW28.out.2.1) b29) (And.intro (kept_call (HW28.out.2.2.1) b29) (kept_call (HW28.out.2.2.2) b29))))
        clear b29
        go_wp2_with fail
        refine (Q7.out _ (HW29.out.2.1) _ _ (Sees.owns (HW29.out.2.2.1))).mono ?_
        rintro e W30 ⟨v30, rfl, o30, b30⟩
        have HW30 := Go.Lib.hid (And.intro (Below.trans (HW29.out.1) ((b30).mono (Below.size (HW29.out.1)))) (And.intro (Tab.grow (HW29.out.2.1) b30) (And.intro (kept_call (HW29.out.2.2.1) b30) (And.intro (kept_call (HW29.out.2.2.2) b30) (own_lower (o30) (Below.size (HW29.out.1)))))))
        clear o30 b30
        clear Q5 Q6 Q7
        go_wp2_with fail
        refine (rInts_same _ _ _ out.length out (Sees.owns (HW30.out.2.2.2.2)) (Sees.owns (HW30.out.2.2.2.1)) (by unfold maxLen; omega)).mono ?_
        rintro e W31 ⟨rfl, d31⟩
        have HW31 := Go.Lib.hid (And.intro (Below.trans (HW30.out.1) (((d31.below W30.heap.size)).mono (Below.size (HW30.out.1)))) (And.intro (Tab.grow (HW30.out.2.1) (d31.below W30.heap.size)) (And.intro (kept_call (HW30.out.2.2.1) (d31.below W30.heap.size)) (And.intro (kept_call (HW30.out.2.2.2.1) (d31.below W30.heap.size)) (kept_call (HW30.out.2.2.2.2) (d31.below W30.heap.size))))))
        clear d31
        have g4 := G4.out
        go_wp2_with fail
        go_ret
        exact ⟨rfl, HW31.out.1⟩
  case true =>
    have HSB := Go.Lib.hid (HFOUR.out (by trivial)).2.2
    cases six
    case false =>
      have hsb : (bo == 0) = false := HSB.out.symm
      clear HSB HSIX
      cases one
      case false =>
        clear HONE
        have Q3 := Go.Lib.hid (implERun xa tw xb true (HFOUR.out (by trivial)).1 (by omega) (by omega))
        have Q4 := Go.Lib.hid (implEPl tw tw true (HFOUR.out (by trivial)).2.1 (by omega))
        clear HFOUR
        go_wp2_with fail
        refine (Q3.out _ (HW20.out.2.1) _ _ (Sees.owns (HW20.out.2.2.2.2.1))).mono ?_
        rintro e W32 ⟨v32, rfl, o32, b32⟩
        have HW32 := Go.Lib.hid (And.intro (Below.trans (HW20.out.1) ((b32).mono (Below.size (HW20.out.1)))) (And.intro (Tab.grow (HW20.out.2.1) b32) (And.intro (kept_call (HW20.out.2.2.1) b32) (And.intro (kept_call (HW20.out.2.2.2.1) b32) (And.intro (kept_call (HW20.out.2.2.2.2.1) b32) (And.intro (kept_call (HW20.out.2.2.2.2.2) b32) (own_lower (o32) (Below.size (HW20.out.1)))))))))
        clear o32 b32
        go_wp2_with fail
        refine (Q4.out _ (HW32.out.2.1)).mono ?_
        rintro e W33 ⟨rfl, b33⟩
        have HW33 := Go.Lib.hid (And.intro (Below.trans (HW32.out.1) ((b33).mono (Below.size (HW32.out.1)))) (And.intro (Tab.grow (HW32.out.2.1) b33) (And.intro (kept_call (HW32.out.2.2.1) b33) (And.intro (kept_call (HW32.out.2.2.2.1) b33) (And.intro (kept_call (HW32.out.2.2.2.2.1) b33) (And.intro (kept_call (HW32.out.2.2.2.2.2.1) b33) (kept_call (HW32.out.2.2.2.2.2.2) b33)))))))
        clear b33
        go_wp2_with fail
        refine (rInts_same _ _ _ xb.length xb (Sees.owns (HW33.out.2.2.2.2.2.2)) (Sees.owns (HW33.out.2.2.2.2.2.1)) (by unfold maxLen; omega)).mono ?_
        rintro e W34 ⟨rfl, d34⟩
        have HW34 := Go.Lib.hid (And.intro (Below.trans (HW33.out.1) (((d34.below W33.heap.size)).mono (Below.size (HW33.out.1)))) (And.intro (Tab.grow (HW33.out.2.1) (d34.below W33.heap.size)) (And.intro (kept_call (HW33.out.2.2.1) (d34.below W33.heap.size)) (And.intro (kept_call (HW33.out.2.2.2.1) (d34.below W33.heap.size)) (And.intro (kept_call (HW33.out.2.2.2.2.1) (d34.below W33.heap.size)) (And.intro (kept_call (HW33.out.2.2.2.2.2.1) (d34.below W33.heap.size)) (kept_call (HW33.out.2.2.2.2.2.2) (d34.below W33.heap.size))))))))
        clear d34
        have HWd35 := Go.Lib.hid (And.intro HW34.out.1 (And.intro HW34.out.2.1 (And.intro HW34.out.2.2.1 (And.intro HW34.out.2.2.2.1 (And.intro HW34.out.2.2.2.2.1 HW34.out.2.2.2.2.2.1)))))
        clear HW34
        clear Q3 Q4
        go_wp2_with fail
        refine (T6.out _ _ _ (Sees.owns (HWd35.out.2.2.2.2.1)) _ _ (Sees.owns (HWd35.out.2.2.2.2.2))).mono ?_
        rintro e W36 ⟨rfl, b36⟩
        have HW36 := Go.Lib.hid (And.intro (Below.trans (HWd35.out.1) ((b36).mono (Below.size (HWd35.out.1)))) (And.intro (Tab.grow (HWd35.out.2.1) b36) (And.intro (kept_call (HWd35.out.2.2.1) b36) (And.intro (kept_call (HWd35.out.2.2.2.1) b36) (And.intro (kept_call (HWd35.out.2.2.2.2.1) b36) (kept_call (HWd35.out.2.2.2.2.2) b36))))))
        clear b36
        clear T6
        have HWd37 := Go.Lib.hid (And.intro HW36.out.1 (And.intro HW36.out.2.1 (And.intro HW36.out.2.2.1 HW36.out.2.2.2.1)))
        clear HW36
        cases ok
        case false =>
          go_wp2_with fail
          go_ret
          exact ⟨rfl, HWd37.out.1⟩
        case true =>
          obtain ⟨own, p, g1, g2, g3, g4, g5⟩ := HOK.out (by trivial)
          have Q5 := Go.Lib.hid (implETo zs out own true g1 (by omega) (by omega))
          have Q6 := Go.Lib.hid (implEPl wo p true g2 (by omega))
          have Q7 := Go.Lib.hid (implERun zs p out true g3 (by omega) g5)
          have G4 : Hid ((own.size : Int) = (wo.size : Int)) := Go.Lib.hid (by rw [g4])
          clear g1 g2 g3 g4 HOK
          go_wp2_with fail
          refine (Q5.out _ _ _ (Sees.owns (HWd37.out.2.2.1)) _ _ (Sees.owns (HWd37.out.2.2.2))).mono ?_
          rintro e W38 ⟨rfl, b38⟩
          have HW38 := Go.Lib.hid (And.intro (Below.trans (HWd37.out.1) ((b38).mono (Below.size (HWd37.out.1)))) (And.intro (Tab.grow (HWd37.out.2.1) b38) (And.intro (kept_call (HWd37.out.2.2.1) b38) (kept_call (HWd37.out.2.2.2) b38))))
          clear b38
          go_wp2_with fail
          refine (Q6.out _ (HW38.out.2.1)).mono ?_
          rintro e W39 ⟨rfl, b39⟩
          have HW39 := Go.Lib.hid (And.intro (Below.trans (HW38.out.1) ((b39).mono (Below.size (HW38.out.1)))) (And.intro (Tab.grow (HW38.out.2.1) b39) (And.intro (kept_call (HW38.out.2.2.1) b39) (kept_call (HW38.out.2.2.2) b39))))
          clear b39
          go_wp2_with fail
          refine (Q7.out _ (HW39.out.2.1) _ _ (Sees.owns (HW39.out.2.2.1))).mono ?_
          rintro e W40 ⟨v40, rfl, o40, b40⟩
          have HW40 := Go.Lib.hid (And.intro (Below.trans (HW39.out.1) ((b40).mono (Below.size (HW39.out.1)))) (And.intro (Tab.grow (HW39.out.2.1) b40) (And.intro (kept_call (HW39.out.2.2.1) b40) (And.intro (kept_call (HW39.out.2.2.2) b40) (own_lower (o40) (Below.size (HW39.out.1)))))))
          clear o40 b40
          clear Q5 Q6 Q7
          go_wp2_with fail
          refine (rInts_same _ _ _ out.length out (Sees.owns (HW40.out.2.2.2.2)) (Sees.owns (HW40.out.2.2.2.1)) (by unfold maxLen; omega)).mono ?_
          rintro e W41 ⟨rfl, d41⟩
          have HW41 := Go.Lib.hid (And.intro (Below.trans (HW40.out.1) (((d41.below W40.heap.size)).mono (Below.size (HW40.out.1)))) (And.intro (Tab.grow (HW40.out.2.1) (d41.below W40.heap.size)) (And.intro (kept_call (HW40.out.2.2.1) (d41.below W40.heap.size)) (And.intro (kept_call (HW40.out.2.2.2.1) (d41.below W40.heap.size)) (kept_call (HW40.out.2.2.2.2) (d41.below W40.heap.size))))))
          clear d41
          have g4 := G4.out
          go_wp2_with fail
          go_ret
          exact ⟨rfl, HW41.out.1⟩
      case true =>
        have Q1 := Go.Lib.hid (implDepth sk dp true (HONE.out (by trivial)).1 (by omega))
        have Q2 := Go.Lib.hid (implEPl pl pl true (HONE.out (by trivial)).2 (by omega))
        go_wp2_with fail
        refine (Q1.out _).mono ?_
        rintro e W42 ⟨rfl, b42⟩
        have HW42 := Go.Lib.hid (And.intro (Below.trans (HW20.out.1) ((b42).mono (Below.size (HW20.out.1)))) (And.intro (Tab.grow (HW20.out.2.1) b42) (And.intro (kept_call (HW20.out.2.2.1) b42) (And.intro (kept_call (HW20.out.2.2.2.1) b42) (And.intro (kept_call (HW20.out.2.2.2.2.1) b42) (kept_call (HW20.out.2.2.2.2.2) b42))))))
        clear b42
        go_wp2_with fail
        refine (Q2.out _ (HW42.out.2.1)).mono ?_
        rintro e W43 ⟨rfl, b43⟩
        have HW43 := Go.Lib.hid (And.intro (Below.trans (HW42.out.1) ((b43).mono (Below.size (HW42.out.1)))) (And.intro (Tab.grow (HW42.out.2.1) b43) (And.intro (kept_call (HW42.out.2.2.1) b43) (And.intro (kept_call (HW42.out.2.2.2.1) b43) (And.intro (kept_call (HW42.out.2.2.2.2.1) b43) (kept_call (HW42.out.2.2.2.2.2) b43))))))
        clear b43
        clear Q1 Q2
        clear HONE
        have Q3 := Go.Lib.hid (implERun xa tw xb true (HFOUR.out (by trivial)).1 (by omega) (by omega))
        have Q4 := Go.Lib.hid (implEPl tw tw true (HFOUR.out (by trivial)).2.1 (by omega))
        clear HFOUR
        go_wp2_with fail
        refine (Q3.out _ (HW43.out.2.1) _ _ (Sees.owns (HW43.out.2.2.2.2.1))).mono ?_
        rintro e W44 ⟨v44, rfl, o44, b44⟩
        have HW44 := Go.Lib.hid (And.intro (Below.trans (HW43.out.1) ((b44).mono (Below.size (HW43.out.1)))) (And.intro (Tab.grow (HW43.out.2.1) b44) (And.intro (kept_call (HW43.out.2.2.1) b44) (And.intro (kept_call (HW43.out.2.2.2.1) b44) (And.intro (kept_call (HW43.out.2.2.2.2.1) b44) (And.intro (kept_call (HW43.out.2.2.2.2.2) b44) (own_lower (o44) (Below.size (HW43.out.1)))))))))
        clear o44 b44
        go_wp2_with fail
        refine (Q4.out _ (HW44.out.2.1)).mono ?_
        rintro e W45 ⟨rfl, b45⟩
        have HW45 := Go.Lib.hid (And.intro (Below.trans (HW44.out.1) ((b45).mono (Below.size (HW44.out.1)))) (And.intro (Tab.grow (HW44.out.2.1) b45) (And.intro (kept_call (HW44.out.2.2.1) b45) (And.intro (kept_call (HW44.out.2.2.2.1) b45) (And.intro (kept_call (HW44.out.2.2.2.2.1) b45) (And.intro (kept_call (HW44.out.2.2.2.2.2.1) b45) (kept_call (HW44.out.2.2.2.2.2.2) b45)))))))
        clear b45
        go_wp2_with fail
        refine (rInts_same _ _ _ xb.length xb (Sees.owns (HW45.out.2.2.2.2.2.2)) (Sees.owns (HW45.out.2.2.2.2.2.1)) (by unfold maxLen; omega)).mono ?_
        rintro e W46 ⟨rfl, d46⟩
        have HW46 := Go.Lib.hid (And.intro (Below.trans (HW45.out.1) (((d46.below W45.heap.size)).mono (Below.size (HW45.out.1)))) (And.intro (Tab.grow (HW45.out.2.1) (d46.below W45.heap.size)) (And.intro (kept_call (HW45.out.2.2.1) (d46.below W45.heap.size)) (And.intro (kept_call (HW45.out.2.2.2.1) (d46.below W45.heap.size)) (And.intro (kept_call (HW45.out.2.2.2.2.1) (d46.below W45.heap.size)) (And.intro (kept_call (HW45.out.2.2.2.2.2.1) (d46.below W45.heap.size)) (kept_call (HW45.out.2.2.2.2.2.2) (d46.below W45.heap.size))))))))
        clear d46
        have HWd47 := Go.Lib.hid (And.intro HW46.out.1 (And.intro HW46.out.2.1 (And.intro HW46.out.2.2.1 (And.intro HW46.out.2.2.2.1 (And.intro HW46.out.2.2.2.2.1 HW46.out.2.2.2.2.2.1)))))
        clear HW46
        clear Q3 Q4
        go_wp2_with fail
        refine (T6.out _ _ _ (Sees.owns (HWd47.out.2.2.2.2.1)) _ _ (Sees.owns (HWd47.out.2.2.2.2.2))).mono ?_
        rintro e W48 ⟨rfl, b48⟩
        have HW48 := Go.Lib.hid (And.intro (Below.trans (HWd47.out.1) ((b48).mono (Below.size (HWd47.out.1)))) (And.intro (Tab.grow (HWd47.out.2.1) b48) (And.intro (kept_call (HWd47.out.2.2.1) b48) (And.intro (kept_call (HWd47.out.2.2.2.1) b48) (And.intro (kept_call (HWd47.out.2.2.2.2.1) b48) (kept_call (HWd47.out.2.2.2.2.2) b48))))))
        clear b48
        clear T6
        have HWd49 := Go.Lib.hid (And.intro HW48.out.1 (And.intro HW48.out.2.1 (And.intro HW48.out.2.2.1 HW48.out.2.2.2.1)))
        clear HW48
        cases ok
        case false =>
          go_wp2_with fail
          go_ret
          exact ⟨rfl, HWd49.out.1⟩
        case true =>
          obtain ⟨own, p, g1, g2, g3, g4, g5⟩ := HOK.out (by trivial)
          have Q5 := Go.Lib.hid (implETo zs out own true g1 (by omega) (by omega))
          have Q6 := Go.Lib.hid (implEPl wo p true g2 (by omega))
          have Q7 := Go.Lib.hid (implERun zs p out true g3 (by omega) g5)
          have G4 : Hid ((own.size : Int) = (wo.size : Int)) := Go.Lib.hid (by rw [g4])
          clear g1 g2 g3 g4 HOK
          go_wp2_with fail
          refine (Q5.out _ _ _ (Sees.owns (HWd49.out.2.2.1)) _ _ (Sees.owns (HWd49.out.2.2.2))).mono ?_
          rintro e W50 ⟨rfl, b50⟩
          have HW50 := Go.Lib.hid (And.intro (Below.trans (HWd49.out.1) ((b50).mono (Below.size (HWd49.out.1)))) (And.intro (Tab.grow (HWd49.out.2.1) b50) (And.intro (kept_call (HWd49.out.2.2.1) b50) (kept_call (HWd49.out.2.2.2) b50))))
          clear b50
          go_wp2_with fail
          refine (Q6.out _ (HW50.out.2.1)).mono ?_
          rintro e W51 ⟨rfl, b51⟩
          have HW51 := Go.Lib.hid (And.intro (Below.trans (HW50.out.1) ((b51).mono (Below.size (HW50.out.1)))) (And.intro (Tab.grow (HW50.out.2.1) b51) (And.intro (kept_call (HW50.out.2.2.1) b51) (kept_call (HW50.out.2.2.2) b51))))
          clear b51
          go_wp2_with fail
          refine (Q7.out _ (HW51.out.2.1) _ _ (Sees.owns (HW51.out.2.2.1))).mono ?_
          rintro e W52 ⟨v52, rfl, o52, b52⟩
          have HW52 := Go.Lib.hid (And.intro (Below.trans (HW51.out.1) ((b52).mono (Below.size (HW51.out.1)))) (And.intro (Tab.grow (HW51.out.2.1) b52) (And.intro (kept_call (HW51.out.2.2.1) b52) (And.intro (kept_call (HW51.out.2.2.2) b52) (own_lower (o52) (Below.size (HW51.out.1)))))))
          clear o52 b52
          clear Q5 Q6 Q7
          go_wp2_with fail
          refine (rInts_same _ _ _ out.length out (Sees.owns (HW52.out.2.2.2.2)) (Sees.owns (HW52.out.2.2.2.1)) (by unfold maxLen; omega)).mono ?_
          rintro e W53 ⟨rfl, d53⟩
          have HW53 := Go.Lib.hid (And.intro (Below.trans (HW52.out.1) (((d53.below W52.heap.size)).mono (Below.size (HW52.out.1)))) (And.intro (Tab.grow (HW52.out.2.1) (d53.below W52.heap.size)) (And.intro (kept_call (HW52.out.2.2.1) (d53.below W52.heap.size)) (And.intro (kept_call (HW52.out.2.2.2.1) (d53.below W52.heap.size)) (kept_call (HW52.out.2.2.2.2) (d53.below W52.heap.size))))))
          clear d53
          have g4 := G4.out
          go_wp2_with fail
          go_ret
          exact ⟨rfl, HW53.out.1⟩
    case true =>
      obtain rfl : bo = 0 := by have h9 := HSB.out; simpa using h9.symm
      clear HSB HSIX
      cases one
      case false =>
        clear HONE
        have Q3 := Go.Lib.hid (implERun xa tw xb true (HFOUR.out (by trivial)).1 (by omega) (by omega))
        have Q4 := Go.Lib.hid (implEPl tw tw true (HFOUR.out (by trivial)).2.1 (by omega))
        clear HFOUR
        go_wp2_with fail
        refine (Q3.out _ (HW20.out.2.1) _ _ (Sees.owns (HW20.out.2.2.2.2.1))).mono ?_
        rintro e W54 ⟨v54, rfl, o54, b54⟩
        have HW54 := Go.Lib.hid (And.intro (Below.trans (HW20.out.1) ((b54).mono (Below.size (HW20.out.1)))) (And.intro (Tab.grow (HW20.out.2.1) b54) (And.intro (kept_call (HW20.out.2.2.1) b54) (And.intro (kept_call (HW20.out.2.2.2.1) b54) (And.intro (kept_call (HW20.out.2.2.2.2.1) b54) (And.intro (kept_call (HW20.out.2.2.2.2.2) b54) (own_lower (o54) (Below.size (HW20.out.1)))))))))
        clear o54 b54
        go_wp2_with fail
        refine (Q4.out _ (HW54.out.2.1)).mono ?_
        rintro e W55 ⟨rfl, b55⟩
        have HW55 := Go.Lib.hid (And.intro (Below.trans (HW54.out.1) ((b55).mono (Below.size (HW54.out.1)))) (And.intro (Tab.grow (HW54.out.2.1) b55) (And.intro (kept_call (HW54.out.2.2.1) b55) (And.intro (kept_call (HW54.out.2.2.2.1) b55) (And.intro (kept_call (HW54.out.2.2.2.2.1) b55) (And.intro (kept_call (HW54.out.2.2.2.2.2.1) b55) (kept_call (HW54.out.2.2.2.2.2.2) b55)))))))
        clear b55
        go_wp2_with fail
        refine (rInts_same _ _ _ xb.length xb (Sees.owns (HW55.out.2.2.2.2.2.2)) (Sees.owns (HW55.out.2.2.2.2.2.1)) (by unfold maxLen; omega)).mono ?_
        rintro e W56 ⟨rfl, d56⟩
        have HW56 := Go.Lib.hid (And.intro (Below.trans (HW55.out.1) (((d56.below W55.heap.size)).mono (Below.size (HW55.out.1)))) (And.intro (Tab.grow (HW55.out.2.1) (d56.below W55.heap.size)) (And.intro (kept_call (HW55.out.2.2.1) (d56.below W55.heap.size)) (And.intro (kept_call (HW55.out.2.2.2.1) (d56.below W55.heap.size)) (And.intro (kept_call (HW55.out.2.2.2.2.1) (d56.below W55.heap.size)) (And.intro (kept_call (HW55.out.2.2.2.2.2.1) (d56.below W55.heap.size)) (kept_call (HW55.out.2.2.2.2.2.2) (d56.below W55.heap.size))))))))
        clear d56
        have HWd57 := Go.Lib.hid (And.intro HW56.out.1 (And.intro HW56.out.2.1 (And.intro HW56.out.2.2.1 (And.intro HW56.out.2.2.2.1 (And.intro HW56.out.2.2.2.2.1 HW56.out.2.2.2.2.2.1)))))
        clear HW56
        clear Q3 Q4
        go_wp2_with fail
        refine (T6.out _ _ _ (Sees.owns (HWd57.out.2.2.2.2.1)) _ _ (Sees.owns (HWd57.out.2.2.2.2.2))).mono ?_
        rintro e W58 ⟨rfl, b58⟩
        have HW58 := Go.Lib.hid (And.intro (Below.trans (HWd57.out.1) ((b58).mono (Below.size (HWd57.out.1)))) (And.intro (Tab.grow (HWd57.out.2.1) b58) (And.intro (kept_call (HWd57.out.2.2.1) b58) (And.intro (kept_call (HWd57.out.2.2.2.1) b58) (And.intro (kept_call (HWd57.out.2.2.2.2.1) b58) (kept_call (HWd57.out.2.2.2.2.2) b58))))))
        clear b58
        clear T6
        have HWd59 := Go.Lib.hid (And.intro HW58.out.1 (And.intro HW58.out.2.1 (And.intro HW58.out.2.2.1 HW58.out.2.2.2.1)))
        clear HW58
        cases ok
        case false =>
          go_wp2_with fail
          go_ret
          exact ⟨rfl, HWd59.out.1⟩
        case true =>
          obtain ⟨own, p, g1, g2, g3, g4, g5⟩ := HOK.out (by trivial)
          have Q5 := Go.Lib.hid (implETo zs out own true g1 (by omega) (by omega))
          have Q6 := Go.Lib.hid (implEPl wo p true g2 (by omega))
          have Q7 := Go.Lib.hid (implERun zs p out true g3 (by omega) g5)
          have G4 : Hid ((own.size : Int) = (wo.size : Int)) := Go.Lib.hid (by rw [g4])
          clear g1 g2 g3 g4 HOK
          go_wp2_with fail
          refine (Q5.out _ _ _ (Sees.owns (HWd59.out.2.2.1)) _ _ (Sees.owns (HWd59.out.2.2.2))).mono ?_
          rintro e W60 ⟨rfl, b60⟩
          have HW60 := Go.Lib.hid (And.intro (Below.trans (HWd59.out.1) ((b60).mono (Below.size (HWd59.out.1)))) (And.intro (Tab.grow (HWd59.out.2.1) b60) (And.intro (kept_call (HWd59.out.2.2.1) b60) (kept_call (HWd59.out.2.2.2) b60))))
          clear b60
          go_wp2_with fail
          refine (Q6.out _ (HW60.out.2.1)).mono ?_
          rintro e W61 ⟨rfl, b61⟩
          have HW61 := Go.Lib.hid (And.intro (Below.trans (HW60.out.1) ((b61).mono (Below.size (HW60.out.1)))) (And.intro (Tab.grow (HW60.out.2.1) b61) (And.intro (kept_call (HW60.out.2.2.1) b61) (kept_call (HW60.out.2.2.2) b61))))
          clear b61
          go_wp2_with fail
          refine (Q7.out _ (HW61.out.2.1) _ _ (Sees.owns (HW61.out.2.2.1))).mono ?_
          rintro e W62 ⟨v62, rfl, o62, b62⟩
          have HW62 := Go.Lib.hid (And.intro (Below.trans (HW61.out.1) ((b62).mono (Below.size (HW61.out.1)))) (And.intro (Tab.grow (HW61.out.2.1) b62) (And.intro (kept_call (HW61.out.2.2.1) b62) (And.intro (kept_call (HW61.out.2.2.2) b62) (own_lower (o62) (Below.size (HW61.out.1)))))))
          clear o62 b62
          clear Q5 Q6 Q7
          go_wp2_with fail
          refine (rInts_same _ _ _ out.length out (Sees.owns (HW62.out.2.2.2.2)) (Sees.owns (HW62.out.2.2.2.1)) (by unfold maxLen; omega)).mono ?_
          rintro e W63 ⟨rfl, d63⟩
          have HW63 := Go.Lib.hid (And.intro (Below.trans (HW62.out.1) (((d63.below W62.heap.size)).mono (Below.size (HW62.out.1)))) (And.intro (Tab.grow (HW62.out.2.1) (d63.below W62.heap.size)) (And.intro (kept_call (HW62.out.2.2.1) (d63.below W62.heap.size)) (And.intro (kept_call (HW62.out.2.2.2.1) (d63.below W62.heap.size)) (kept_call (HW62.out.2.2.2.2) (d63.below W62.heap.size))))))
          clear d63
          have g4 := G4.out
          go_wp2_with fail
          go_ret
          exact ⟨rfl, HW63.out.1⟩
      case true =>
        have Q1 := Go.Lib.hid (implDepth sk dp true (HONE.out (by trivial)).1 (by omega))
        have Q2 := Go.Lib.hid (implEPl pl pl true (HONE.out (by trivial)).2 (by omega))
        go_wp2_with fail
        refine (Q1.out _).mono ?_
        rintro e W64 ⟨rfl, b64⟩
        have HW64 := Go.Lib.hid (And.intro (Below.trans (HW20.out.1) ((b64).mono (Below.size (HW20.out.1)))) (And.intro (Tab.grow (HW20.out.2.1) b64) (And.intro (kept_call (HW20.out.2.2.1) b64) (And.intro (kept_call (HW20.out.2.2.2.1) b64) (And.intro (kept_call (HW20.out.2.2.2.2.1) b64) (kept_call (HW20.out.2.2.2.2.2) b64))))))
        clear b64
        go_wp2_with fail
        refine (Q2.out _ (HW64.out.2.1)).mono ?_
        rintro e W65 ⟨rfl, b65⟩
        have HW65 := Go.Lib.hid (And.intro (Below.trans (HW64.out.1) ((b65).mono (Below.size (HW64.out.1)))) (And.intro (Tab.grow (HW64.out.2.1) b65) (And.intro (kept_call (HW64.out.2.2.1) b65) (And.intro (kept_call (HW64.out.2.2.2.1) b65) (And.intro (kept_call (HW64.out.2.2.2.2.1) b65) (kept_call (HW64.out.2.2.2.2.2) b65))))))
        clear b65
        clear Q1 Q2
        clear HONE
        have Q3 := Go.Lib.hid (implERun xa tw xb true (HFOUR.out (by trivial)).1 (by omega) (by omega))
        have Q4 := Go.Lib.hid (implEPl tw tw true (HFOUR.out (by trivial)).2.1 (by omega))
        clear HFOUR
        go_wp2_with fail
        refine (Q3.out _ (HW65.out.2.1) _ _ (Sees.owns (HW65.out.2.2.2.2.1))).mono ?_
        rintro e W66 ⟨v66, rfl, o66, b66⟩
        have HW66 := Go.Lib.hid (And.intro (Below.trans (HW65.out.1) ((b66).mono (Below.size (HW65.out.1)))) (And.intro (Tab.grow (HW65.out.2.1) b66) (And.intro (kept_call (HW65.out.2.2.1) b66) (And.intro (kept_call (HW65.out.2.2.2.1) b66) (And.intro (kept_call (HW65.out.2.2.2.2.1) b66) (And.intro (kept_call (HW65.out.2.2.2.2.2) b66) (own_lower (o66) (Below.size (HW65.out.1)))))))))
        clear o66 b66
        go_wp2_with fail
        refine (Q4.out _ (HW66.out.2.1)).mono ?_
        rintro e W67 ⟨rfl, b67⟩
        have HW67 := Go.Lib.hid (And.intro (Below.trans (HW66.out.1) ((b67).mono (Below.size (HW66.out.1)))) (And.intro (Tab.grow (HW66.out.2.1) b67) (And.intro (kept_call (HW66.out.2.2.1) b67) (And.intro (kept_call (HW66.out.2.2.2.1) b67) (And.intro (kept_call (HW66.out.2.2.2.2.1) b67) (And.intro (kept_call (HW66.out.2.2.2.2.2.1) b67) (kept_call (HW66.out.2.2.2.2.2.2) b67)))))))
        clear b67
        go_wp2_with fail
        refine (rInts_same _ _ _ xb.length xb (Sees.owns (HW67.out.2.2.2.2.2.2)) (Sees.owns (HW67.out.2.2.2.2.2.1)) (by unfold maxLen; omega)).mono ?_
        rintro e W68 ⟨rfl, d68⟩
        have HW68 := Go.Lib.hid (And.intro (Below.trans (HW67.out.1) (((d68.below W67.heap.size)).mono (Below.size (HW67.out.1)))) (And.intro (Tab.grow (HW67.out.2.1) (d68.below W67.heap.size)) (And.intro (kept_call (HW67.out.2.2.1) (d68.below W67.heap.size)) (And.intro (kept_call (HW67.out.2.2.2.1) (d68.below W67.heap.size)) (And.intro (kept_call (HW67.out.2.2.2.2.1) (d68.below W67.heap.size)) (And.intro (kept_call (HW67.out.2.2.2.2.2.1) (d68.below W67.heap.size)) (kept_call (HW67.out.2.2.2.2.2.2) (d68.below W67.heap.size))))))))
        clear d68
        have HWd69 := Go.Lib.hid (And.intro HW68.out.1 (And.intro HW68.out.2.1 (And.intro HW68.out.2.2.1 (And.intro HW68.out.2.2.2.1 (And.intro HW68.out.2.2.2.2.1 HW68.out.2.2.2.2.2.1)))))
        clear HW68
        clear Q3 Q4
        go_wp2_with fail
        refine (T6.out _ _ _ (Sees.owns (HWd69.out.2.2.2.2.1)) _ _ (Sees.owns (HWd69.out.2.2.2.2.2))).mono ?_
        rintro e W70 ⟨rfl, b70⟩
        have HW70 := Go.Lib.hid (And.intro (Below.trans (HWd69.out.1) ((b70).mono (Below.size (HWd69.out.1)))) (And.intro (Tab.grow (HWd69.out.2.1) b70) (And.intro (kept_call (HWd69.out.2.2.1) b70) (And.intro (kept_call (HWd69.out.2.2.2.1) b70) (And.intro (kept_call (HWd69.out.2.2.2.2.1) b70) (kept_call (HWd69.out.2.2.2.2.2) b70))))))
        clear b70
        clear T6
        have HWd71 := Go.Lib.hid (And.intro HW70.out.1 (And.intro HW70.out.2.1 (And.intro HW70.out.2.2.1 HW70.out.2.2.2.1)))
        clear HW70
        cases ok
        case false =>
          go_wp2_with fail
          go_ret
          exact ⟨rfl, HWd71.out.1⟩
        case true =>
          obtain ⟨own, p, g1, g2, g3, g4, g5⟩ := HOK.out (by trivial)
          have Q5 := Go.Lib.hid (implETo zs out own true g1 (by omega) (by omega))
          have Q6 := Go.Lib.hid (implEPl wo p true g2 (by omega))
          have Q7 := Go.Lib.hid (implERun zs p out true g3 (by omega) g5)
          have G4 : Hid ((own.size : Int) = (wo.size : Int)) := Go.Lib.hid (by rw [g4])
          clear g1 g2 g3 g4 HOK
          go_wp2_with fail
          refine (Q5.out _ _ _ (Sees.owns (HWd71.out.2.2.1)) _ _ (Sees.owns (HWd71.out.2.2.2))).mono ?_
          rintro e W72 ⟨rfl, b72⟩
          have HW72 := Go.Lib.hid (And.intro (Below.trans (HWd71.out.1) ((b72).mono (Below.size (HWd71.out.1)))) (And.intro (Tab.grow (HWd71.out.2.1) b72) (And.intro (kept_call (HWd71.out.2.2.1) b72) (kept_call (HWd71.out.2.2.2) b72))))
          clear b72
          go_wp2_with fail
          refine (Q6.out _ (HW72.out.2.1)).mono ?_
          rintro e W73 ⟨rfl, b73⟩
          have HW73 := Go.Lib.hid (And.intro (Below.trans (HW72.out.1) ((b73).mono (Below.size (HW72.out.1)))) (And.intro (Tab.grow (HW72.out.2.1) b73) (And.intro (kept_call (HW72.out.2.2.1) b73) (kept_call (HW72.out.2.2.2) b73))))
          clear b73
          go_wp2_with fail
          refine (Q7.out _ (HW73.out.2.1) _ _ (Sees.owns (HW73.out.2.2.1))).mono ?_
          rintro e W74 ⟨v74, rfl, o74, b74⟩
          have HW74 := Go.Lib.hid (And.intro (Below.trans (HW73.out.1) ((b74).mono (Below.size (HW73.out.1)))) (And.intro (Tab.grow (HW73.out.2.1) b74) (And.intro (kept_call (HW73.out.2.2.1) b74) (And.intro (kept_call (HW73.out.2.2.2) b74) (own_lower (o74) (Below.size (HW73.out.1)))))))
          clear o74 b74
          clear Q5 Q6 Q7
          go_wp2_with fail
          refine (rInts_same _ _ _ out.length out (Sees.owns (HW74.out.2.2.2.2)) (Sees.owns (HW74.out.2.2.2.1)) (by unfold maxLen; omega)).mono ?_
          rintro e W75 ⟨rfl, d75⟩
          have HW75 := Go.Lib.hid (And.intro (Below.trans (HW74.out.1) (((d75.below W74.heap.size)).mono (Below.size (HW74.out.1)))) (And.intro (Tab.grow (HW74.out.2.1) (d75.below W74.heap.size)) (And.intro (kept_call (HW74.out.2.2.1) (d75.below W74.heap.size)) (And.intro (kept_call (HW74.out.2.2.2.1) (d75.below W74.heap.size)) (kept_call (HW74.out.2.2.2.2) (d75.below W74.heap.size))))))
          clear d75
          have g4 := G4.out
          go_wp2_with fail
          go_ret
          exact ⟨rfl, HW75.out.1⟩

/-! ### From the walk to the row -/
set_option maxRecDepth 100000 in
theorem contract (H : Type) (enc : TypeId × Value → H) (W : World) (base : Nat) (args : Array Value) (ds gs : List (DataW H)) (before : List MemPlace)
    (hval : ∀ (j : Nat) t v, Tryd.f3.params[j]? = some t → args[j]? = some v → Value.okWide Tryd.prog W .any base t v)
    (hW : DataW.Whole enc Tryd.prog Tryd.f3.params.toList Rows.fnEndsSpec.vars false W args.toList ds gs before) (hL : laidMetH Tryd.prog Rows.fnEndsRow.laid W) :
    Calls Tryd.prog 3 args W fun e W' => ∃ v, e = .returned v ∧ Rows.fnEndsSpec.post enc Tryd.prog Tryd.f3 false true false false W args v W' := by
  have hW' := hW
  obtain ⟨p, q, hA0, hV, rfl, hfz, hnd⟩ := hW
  have hA : DataW.TrodAll enc Tryd.prog W 0 (fun _ => true) true Tryd.f3.params.toList args.toList ds p := hA0
  rw [Tryd.params3] at hA hval
  obtain ⟨u0, vs0, d0, ds0, p0, q0, hargs, rfl, rfl, h0, r0⟩ := trodAll_cons hA
  obtain ⟨rfl, rfl, rfl⟩ := trodAll_nil r0
  obtain rfl : args = #[u0] := by cases args; simp_all
  obtain ⟨rfl, rfl⟩ := trodVars_none hV
  have lt0 : ∀ x ∈ p0, x.block < W.heap.size := by obtain ⟨m, hm⟩ := h0; exact DataW.trod_lt m _ _ _ hm
  obtain ⟨n0, a0, s0, t0, w0⟩ := sees_ints Tryd.underlying22 Tryd.underlying5 (by kernel_rfl) (hval 0 22 u0 rfl rfl) h0
  clear hA0
  refine (walk u0 n0 a0 W s0 t0 w0 (tab_of hL)).mono fun e W' ⟨he, bel⟩ => ?_
  subst he
  exact ⟨_, rfl, _, _, _, [], _, [], hW', trodAll_mk1 (shut_bool Tryd.underlying4 _), (trodAll_cons_mk (Below.trod laidOut (by kernel_rfl) (of_decide_eq_true (by kernel_rfl)) h0 bel lt0) trodAll_mk0), rfl, bel.frame _, fun h => by cases h⟩

theorem laid_met (os : Os) : laidMet Tryd.prog Rows.fnEndsRow.laid ((laidWorld os).forCall (fun _ _ => 0) ⟨#[], #[.slice none 0 0], []⟩).memory := by
  show laidMet Tryd.prog [("unicode/utf8.acceptRanges", Rows.laid_unicode_utf8_acceptRanges), ("unicode/utf8.first", Rows.laid_unicode_utf8_first)] _
  exact laidMet_of_run' 8 (by kernel_rfl) (by kernel_rfl)

theorem reads (os : Os) {H : Type} (enc : TypeId × Value → H) : ∃ places, DataW.whole enc Tryd.prog ((laidWorld os).forCall (fun _ _ => 0) ⟨#[], #[.slice none 0 0], []⟩).memory Tryd.f3.params.toList Rows.fnEndsSpec.vars false (#[.slice none 0 0] : Array Value).toList 8 = some ([.nil], [], places) :=
  ⟨[], by kernel_rfl⟩

set_option maxRecDepth 100000 in
theorem lifted (os : Os) (started : os.Started) (H : Type) (enc : TypeId × Value → H) (F : Stop.Interp) :
    ReturnsInHanded {} Tryd.checked os 3 .any ((OpenSpec.ofChange Rows.fnEndsSpec).preRow enc Tryd.prog Tryd.f3 Rows.fnEndsRow.domain false Rows.fnEndsRow.laid) (((OpenSpec.ofChange Rows.fnEndsSpec).at F).post enc Tryd.prog Tryd.f3 false true false false) := by
  obtain ⟨places, hx⟩ := reads os enc
  refine returnsInHanded_of_row (C := Tryd.checked) (s := OpenSpec.ofChange Rows.fnEndsSpec) own started (by kernel_rfl) Tryd.func3
    (witness_row_at (enc := enc) (C := Tryd.checked) false (laidWorld os) #[.slice none 0 0] rfl (by kernel_rfl) (by kernel_rfl) (by kernel_rfl)
      (OpenSpec.preRow_of_cond 8 hx (by kernel_rfl) (fun k hk => by cases hk) (by kernel_rfl) (laid_met os))) ?_
  intro W base args ds gs before hval hW _ _ _ hL _ _
  exact contract H enc W base args ds gs before hval hW hL

theorem said : Rows.FnEndsSaid :=
  OpenClaim.holds_of_cond 3 Tryd.f3 rfl rfl rfl rfl rfl rfl rfl ⟨rfl, rfl, rfl, rfl, rfl⟩ rfl rfl rfl rfl rfl (by kernel_rfl) Tryd.func3 (by kernel_rfl)
    (of_decide_eq_true (by kernel_rfl)) (by unfold Func.isWrapper; first | (rw [if_pos (by decide +kernel)]; kernel_rfl) | (rw [if_neg (by decide +kernel)]; exact ⟨rfl, rfl⟩))
    (fun os started H enc _ F => by rw [OpenClaim.pre_eq_preRow]; exact lifted os started H enc F)

theorem plain (f : FuncId) (fn : Func) (hf : Tryd.pinned.checked.prog.funcNamed "loop.example/g01286/laws.FnEnds" = some f) (hfn : Tryd.pinned.checked.prog.funcs[f]? = some fn) :
    false = Tryd.pinned.checked.prog.looks [] ∧ ∀ (j : Nat) t, fn.params[j]? = some t → Tryd.pinned.checked.prog.wantsStandIn t = false := by
  obtain rfl : f = 3 := Option.some.inj ((show Tryd.prog.funcNamed "loop.example/g01286/laws.FnEnds" = some 3 by kernel_rfl).symm.trans hf) |>.symm
  obtain rfl : fn = Tryd.f3 := (Option.some.inj (Tryd.func3.symm.trans hfn)).symm
  refine ⟨by kernel_rfl, fun j t ht => ?_⟩
  rw [Tryd.params3] at ht
  obtain rfl : t = 22 := by simpa using Array.mem_of_getElem? ht
  exact (show Tryd.prog.wantsStandIn 22 = false by kernel_rfl)

/-- The card. -/
theorem proved : Rows.FnEndsCardSaid :=
  Claim7.holds_tied_plain_at .later [] _ _ _ _ said (fun _ h => by cases h) (by kernel_rfl) (fun _ h => by cases h) fnEnds_row_tie rfl ⟨rfl, rfl⟩ (by kernel_rfl) rfl plain (by kernel_rfl)
#print axioms proved
end Go.Proofs.YteiocoahllnoeaaDoor.fnEnds
