/-
  ..
-/
import Derived.Test.YtpkjnlabjmpokabDoorCards
import Derived.Test.YtpkjnlabjmpokabDoorTie
import Derived.Test.YtpkjnlabjmpokabDoorPx9
import Derived.Test.YtpkjnlabjmpokabDoorPx14
import Derived.WalkKit
import Derived.ProofKit
import Derived.OpenShut
import Derived.ShutString
import Derived.ChangeOld
import Derived.Below
import Derived.Deep.DeepHandedRow
import Derived.Lib.LaidTab
import Derived.Test.YtpkjnlabjmpokabDoorPx15
import Derived.Test.YtpkjnlabjmpokabDoorPx2
import Derived.Test.YtpkjnlabjmpokabDoorPx45
import Derived.Test.YtpkjnlabjmpokabDoorPx40
import Derived.Test.YtpkjnlabjmpokabDoorPx43
import Derived.Test.YtpkjnlabjmpokabDoorPx27
import Derived.Test.YtpkjnlabjmpokabDoorPx39
import Derived.Test.YtpkjnlabjmpokabDoorPx25
import Derived.Test.YtpkjnlabjmpokabDoorPx34
import Derived.Test.YtpkjnlabjmpokabDoorPx42
import Derived.Test.YtpkjnlabjmpokabDoorPx26
import Derived.Deep.CutRange

namespace Go.Proofs.YtpkjnlabjmpokabDoor.fnEndsCounts
open Go.ChangeShapes Go.WideShapes Go.ChangeAt Go.RowKit SeesC OpenC LaidC
open Go.ChangeMaps (open_string shut_string)
open IntsC ExactC OrdMath WordMath OrderC WordC WordsC WordsOfC EndsM RunC ToC ListsC ListsEC AllO EndM ERunM ERunC ERunPC EPlC EPcM EPcC EToC EToPC ECanC EQuC EOSpC EOImC EOCtC Sort4C DrawOrd2C DrawWordC DrawCC RBigC ECFacts3
set_option linter.unusedVariables false

theorem own : ownKnob Tryd.prog.godebug = none := by kernel_rfl
theorem laidOut : laidOutB Tryd.prog = true := by kernel_rfl

/-! ### The walk -/
set_option maxRecDepth 100000 in
set_option maxHeartbeats 16000000 in
theorem walk (v0 : Value) (n0 : Nat) (a0 : List Int) (w : World) (s0 : Sees w v0 n0 (a0.map (Value.int .u8))) (t0 : n0 ≤ maxLen) (w0 : ∀ z ∈ a0, (Lit.int .u8 z).wf = true) (hT : Tab w) :
    Calls Tryd.prog 3 #[v0] w fun e w' => e = .returned (.bool true) ∧ Below w.heap.size w w' := by
  have hz : ∀ z ∈ a0, 0 ≤ z ∧ z ≤ 255 := byte_bd w0
  have hs0 := s0
  obtain ⟨_, ar, cap, rfl, _, _⟩ := hs0
  by_cases hbig : (65536 : Int) < (n0 : Int)
  · have cB := Go.Lib.hid (rBig_of w ar n0 cap true (decide_eq_true hbig))
    clear hz
    go_enter Tryd.func3, Tryd.ntmps3
    go_wp2_with fail
    refine (cB.out).mono ?_
    rintro e W1 ⟨rfl, rfl⟩
    go_wp2_with fail
    go_ret
    exact ⟨rfl, Below.refl _ _⟩
  have hn : n0 ≤ 65536 := by omega
  have cB := Go.Lib.hid (rBig_of w ar n0 cap false (decide_eq_false hbig))
  have D1 := Go.Lib.hid (fun W h => drawEO_any (.slice ar n0 cap) n0 a0 W h hz hn)
  have D2 := Go.Lib.hid (fun W h => drawCE_any (.slice ar n0 cap) n0 a0 W h hz hn)
  have D3 := Go.Lib.hid (fun W h => drawCPE_any (.slice ar n0 cap) n0 a0 W h hz hn)
  have D4 := Go.Lib.hid (fun W h => drawECan_any (.slice ar n0 cap) n0 a0 W h hz hn)
  have D5 := Go.Lib.hid (fun W h => drawEQu_any (.slice ar n0 cap) n0 a0 W h hz hn)
  have HW0 := Go.Lib.hid (And.intro (Below.refl w.heap.size w) (And.intro s0 hT))
  clear hz s0 w0 t0 hT
  go_enter Tryd.func3, Tryd.ntmps3
  go_wp2_with fail
  refine (cB.out).mono ?_
  rintro e Wz ⟨rfl, rfl⟩
  go_wp2_with fail
  refine (D1.out _ (HW0.out.2.1)).mono ?_
  rintro e W1 ⟨vO, zs, rfl, hz8, o1, b1⟩
  have HW1 := Go.Lib.hid (And.intro (Below.trans (HW0.out.1) ((b1).mono (Below.size (HW0.out.1)))) (And.intro (Sees.grow (HW0.out.2.1) b1) (And.intro (Tab.grow (HW0.out.2.2) b1) (own_lower (o1) (Below.size (HW0.out.1))))))
  clear o1 b1
  obtain ⟨ok, hok⟩ : ∃ r, isOrd zs = r := ⟨_, rfl⟩
  obtain ⟨m0, hm0⟩ : ∃ m, (if ok = true then zs.length else 0) = m := ⟨_, rfl⟩
  have hm8 : m0 ≤ 8 := by rw [← hm0]; split <;> omega
  have A1 := Go.Lib.hid (implEOL zs ok m0 hok hm0 (by omega))
  have A2 := Go.Lib.hid (specEOL zs ok m0 hok hm0 (by omega))
  have HM0 := Go.Lib.hid hm0
  obtain ⟨only, hob, honly, hone⟩ := ob_one hok
  have B1 := Go.Lib.hid (implOB zs only ok hob (by omega))
  have B2 := Go.Lib.hid (specOB zs only ok hob (by omega))
  have HOB := Go.Lib.hid hone
  have HOK := Go.Lib.hid hok
  clear hob hone hok hm0 D1 cB
  obtain ⟨aO, cO, rfl⟩ : ∃ a c, vO = .slice a zs.length c := by
    obtain ⟨_, a, c, e, _, _⟩ := Sees.owns (HW1.out.2.2.2)
    exact ⟨a, c, e⟩
  go_wp2_with fail
  refine (A1.out _ _ _ (Sees.owns (HW1.out.2.2.2))).mono ?_
  rintro e W2 ⟨vA, R, rfl, hR, hL2, b2⟩
  have HW2 := Go.Lib.hid (And.intro (Below.trans (HW1.out.1) ((b2).mono (Below.size (HW1.out.1)))) (And.intro (Sees.grow (HW1.out.2.1) b2) (And.intro (Tab.grow (HW1.out.2.2.1) b2) (kept_call (HW1.out.2.2.2) b2))))
  have HWl3 := Go.Lib.hid (And.intro HW2.out.1 (And.intro HW2.out.2.1 (And.intro HW2.out.2.2.1 (And.intro HW2.out.2.2.2 (Lists.lower hL2 (Below.size (HW1.out.1)))))))
  clear hL2 b2
  have HRO := Go.Lib.hid hR
  obtain ⟨N, hN⟩ : ∃ N, R.length = N := ⟨_, rfl⟩
  have hN16 : N ≤ 16384 := by rw [← hN]; exact eo_16k hR
  obtain ⟨aA, cA, rfl⟩ : ∃ a c, vA = .slice a N c := by
    obtain ⟨gs, _, h2, _⟩ := HWl3.out.2.2.2.2
    rw [List.length_map, hN] at h2
    obtain ⟨_, a, c, e, _, _⟩ := Sees.owns h2
    exact ⟨a, c, e⟩
  have HN := Go.Lib.hid hN
  clear hR hN A1
  go_wp2_with fail
  refine (A2.out _ _ _ (Sees.owns (HWl3.out.2.2.2.1))).mono ?_
  rintro e W4 ⟨vB, R2, rfl, hR2, hL4, b4⟩
  have HW4 := Go.Lib.hid (And.intro (Below.trans (HWl3.out.1) ((b4).mono (Below.size (HWl3.out.1)))) (And.intro (Sees.grow (HWl3.out.2.1) b4) (And.intro (Tab.grow (HWl3.out.2.2.1) b4) (And.intro (kept_call (HWl3.out.2.2.2.1) b4) (Lists.kept (HWl3.out.2.2.2.2) b4)))))
  have HWl5 := Go.Lib.hid (And.intro HW4.out.1 (And.intro HW4.out.2.1 (And.intro HW4.out.2.2.1 (And.intro HW4.out.2.2.2.1 (And.intro HW4.out.2.2.2.2 (Lists.lower hL4 (Below.size (HWl3.out.1))))))))
  clear hL4 b4
  obtain rfl : R = R2 := eo_unique HRO.out hR2
  obtain ⟨aB, cB2, rfl⟩ : ∃ a c, vB = .slice a N c := by
    obtain ⟨gs, _, h2, _⟩ := HWl5.out.2.2.2.2.2
    rw [List.length_map, HN.out] at h2
    obtain ⟨_, a, c, e, _, _⟩ := Sees.owns h2
    exact ⟨a, c, e⟩
  clear hR2 A2
  go_wp2_with fail
  refine (rLists_same _ _ _ m0 R (Lists.looks (HWl5.out.2.2.2.2.1)) (Lists.looks (HWl5.out.2.2.2.2.2)) (by omega) (by have := HN.out; omega)).mono ?_
  rintro e W6 ⟨rfl, d6⟩
  have HW6 := Go.Lib.hid (And.intro (Below.trans (HWl5.out.1) (((d6.below W4.heap.size)).mono (Below.size (HWl5.out.1)))) (And.intro (Sees.grow (HWl5.out.2.1) (d6.below W4.heap.size)) (And.intro (Tab.grow (HWl5.out.2.2.1) (d6.below W4.heap.size)) (And.intro (kept_call (HWl5.out.2.2.2.1) (d6.below W4.heap.size)) (And.intro (Lists.kept (HWl5.out.2.2.2.2.1) (d6.below W4.heap.size)) (Lists.kept (HWl5.out.2.2.2.2.2) (d6.below W4.heap.size)))))))
  clear d6
  have HWd7 := Go.Lib.hid (And.intro HW6.out.1 (And.intro HW6.out.2.1 (And.intro HW6.out.2.2.1 (And.intro HW6.out.2.2.2.1 HW6.out.2.2.2.2.1))))
  clear HW6
  go_wp2_with fail
  refine (B1.out _ _ _ (Sees.owns (HWd7.out.2.2.2.1))).mono ?_
  rintro e W8 ⟨rfl, b8⟩
  have HW8 := Go.Lib.hid (And.intro (Below.trans (HWd7.out.1) ((b8).mono (Below.size (HWd7.out.1)))) (And.intro (Sees.grow (HWd7.out.2.1) b8) (And.intro (Tab.grow (HWd7.out.2.2.1) b8) (And.intro (kept_call (HWd7.out.2.2.2.1) b8) (Lists.kept (HWd7.out.2.2.2.2) b8)))))
  clear b8
  go_wp2_with fail
  refine (B2.out _ _ _ (Sees.owns (HW8.out.2.2.2.1))).mono ?_
  rintro e W9 ⟨rfl, b9⟩
  have HW9 := Go.Lib.hid (And.intro (Below.trans (HW8.out.1) ((b9).mono (Below.size (HW8.out.1)))) (And.intro (Sees.grow (HW8.out.2.1) b9) (And.intro (Tab.grow (HW8.out.2.2.1) b9) (And.intro (kept_call (HW8.out.2.2.2.1) b9) (Lists.kept (HW8.out.2.2.2.2) b9)))))
  clear b9
  clear B1 B2
  go_wp2_with fail
  refine (D2.out _ (HW9.out.2.1)).mono ?_
  rintro e W10 ⟨nE, rfl, hn0, hn8, b10⟩
  have HW10 := Go.Lib.hid (And.intro (Below.trans (HW9.out.1) ((b10).mono (Below.size (HW9.out.1)))) (And.intro (Sees.grow (HW9.out.2.1) b10) (And.intro (Tab.grow (HW9.out.2.2.1) b10) (And.intro (kept_call (HW9.out.2.2.2.1) b10) (Lists.kept (HW9.out.2.2.2.2) b10)))))
  clear b10
  obtain ⟨many, two, hce, hmany, htwo⟩ := ce_two nE
  have E1 := Go.Lib.hid (implCE nE many two hce (wf8 hn0 hn8))
  have E2 := Go.Lib.hid (specCE nE many two hce (wf8 hn0 hn8))
  have HTWO := Go.Lib.hid htwo
  clear hce htwo D2
  go_wp2_with fail
  refine (E1.out _).mono ?_
  rintro e W11 ⟨rfl, b11⟩
  have HW11 := Go.Lib.hid (And.intro (Below.trans (HW10.out.1) ((b11).mono (Below.size (HW10.out.1)))) (And.intro (Sees.grow (HW10.out.2.1) b11) (And.intro (Tab.grow (HW10.out.2.2.1) b11) (And.intro (kept_call (HW10.out.2.2.2.1) b11) (Lists.kept (HW10.out.2.2.2.2) b11)))))
  clear b11
  go_wp2_with fail
  refine (E2.out _).mono ?_
  rintro e W12 ⟨rfl, b12⟩
  have HW12 := Go.Lib.hid (And.intro (Below.trans (HW11.out.1) ((b12).mono (Below.size (HW11.out.1)))) (And.intro (Sees.grow (HW11.out.2.1) b12) (And.intro (Tab.grow (HW11.out.2.2.1) b12) (And.intro (kept_call (HW11.out.2.2.2.1) b12) (Lists.kept (HW11.out.2.2.2.2) b12)))))
  clear b12
  clear E1 E2
  go_wp2_with fail
  refine (D3.out _ (HW12.out.2.1)).mono ?_
  rintro e W13 ⟨mE, rfl, hm0', hm8', b13⟩
  have HW13 := Go.Lib.hid (And.intro (Below.trans (HW12.out.1) ((b13).mono (Below.size (HW12.out.1)))) (And.intro (Sees.grow (HW12.out.2.1) b13) (And.intro (Tab.grow (HW12.out.2.2.1) b13) (And.intro (kept_call (HW12.out.2.2.2.1) b13) (Lists.kept (HW12.out.2.2.2.2) b13)))))
  clear b13
  obtain ⟨plain, three, hcp, hthree⟩ := cp_three mE
  have F1 := Go.Lib.hid (implCPE mE plain three hcp (wf8 hm0' hm8'))
  have F2 := Go.Lib.hid (specCPE mE plain three hcp (wf8 hm0' hm8'))
  have HTHR := Go.Lib.hid hthree
  clear hcp hthree D3
  go_wp2_with fail
  refine (F1.out _).mono ?_
  rintro e W14 ⟨rfl, b14⟩
  have HW14 := Go.Lib.hid (And.intro (Below.trans (HW13.out.1) ((b14).mono (Below.size (HW13.out.1)))) (And.intro (Sees.grow (HW13.out.2.1) b14) (And.intro (Tab.grow (HW13.out.2.2.1) b14) (And.intro (kept_call (HW13.out.2.2.2.1) b14) (Lists.kept (HW13.out.2.2.2.2) b14)))))
  clear b14
  go_wp2_with fail
  refine (F2.out _).mono ?_
  rintro e W15 ⟨rfl, b15⟩
  have HW15 := Go.Lib.hid (And.intro (Below.trans (HW14.out.1) ((b15).mono (Below.size (HW14.out.1)))) (And.intro (Sees.grow (HW14.out.2.1) b15) (And.intro (Tab.grow (HW14.out.2.2.1) b15) (And.intro (kept_call (HW14.out.2.2.2.1) b15) (Lists.kept (HW14.out.2.2.2.2) b15)))))
  clear b15
  clear F1 F2
  go_wp2_with fail
  refine (D4.out _ (HW15.out.2.1)).mono ?_
  rintro e W16 ⟨vX, xs, rfl, hx8, o16, b16⟩
  have HW16 := Go.Lib.hid (And.intro (Below.trans (HW15.out.1) ((b16).mono (Below.size (HW15.out.1)))) (And.intro (Sees.grow (HW15.out.2.1) b16) (And.intro (Tab.grow (HW15.out.2.2.1) b16) (And.intro (kept_call (HW15.out.2.2.2.1) b16) (And.intro (Lists.kept (HW15.out.2.2.2.2) b16) (own_lower (o16) (Below.size (HW15.out.1))))))))
  clear o16 b16
  obtain ⟨can, four, plainly, hcan, hxo, hso, hpc⟩ := can_four xs
  have G1 := Go.Lib.hid (implECan xs can four hcan (by omega))
  have G2 := Go.Lib.hid (specECan xs can four hcan (by omega))
  have G3 := Go.Lib.hid (fun (W : World) (v : Value) (n : Nat) (hv : Sees W v n (vals xs)) => implOrder_any W v n xs four hv (by have := hv.1; simp at this; omega) hxo)
  have HSO := Go.Lib.hid hso
  have HPC := Go.Lib.hid hpc
  clear hcan hxo hso hpc D4
  go_wp2_with fail
  refine (G1.out _ _ _ (Sees.owns (HW16.out.2.2.2.2.2))).mono ?_
  rintro e W17 ⟨rfl, b17⟩
  have HW17 := Go.Lib.hid (And.intro (Below.trans (HW16.out.1) ((b17).mono (Below.size (HW16.out.1)))) (And.intro (Sees.grow (HW16.out.2.1) b17) (And.intro (Tab.grow (HW16.out.2.2.1) b17) (And.intro (kept_call (HW16.out.2.2.2.1) b17) (And.intro (Lists.kept (HW16.out.2.2.2.2.1) b17) (kept_call (HW16.out.2.2.2.2.2) b17))))))
  clear b17
  go_wp2_with fail
  refine (G2.out _ _ _ (Sees.owns (HW17.out.2.2.2.2.2))).mono ?_
  rintro e W18 ⟨rfl, b18⟩
  have HW18 := Go.Lib.hid (And.intro (Below.trans (HW17.out.1) ((b18).mono (Below.size (HW17.out.1)))) (And.intro (Sees.grow (HW17.out.2.1) b18) (And.intro (Tab.grow (HW17.out.2.2.1) b18) (And.intro (kept_call (HW17.out.2.2.2.1) b18) (And.intro (Lists.kept (HW17.out.2.2.2.2.1) b18) (kept_call (HW17.out.2.2.2.2.2) b18))))))
  clear b18
  go_wp2_with fail
  refine (G3.out _ _ _ (Sees.owns (HW18.out.2.2.2.2.2))).mono ?_
  rintro e W19 ⟨rfl, b19⟩
  have HW19 := Go.Lib.hid (And.intro (Below.trans (HW18.out.1) ((b19).mono (Below.size (HW18.out.1)))) (And.intro (Sees.grow (HW18.out.2.1) b19) (And.intro (Tab.grow (HW18.out.2.2.1) b19) (And.intro (kept_call (HW18.out.2.2.2.1) b19) (And.intro (Lists.kept (HW18.out.2.2.2.2.1) b19) (kept_call (HW18.out.2.2.2.2.2) b19))))))
  clear b19
  clear G1 G2 G3
  go_wp2_with fail
  refine (D5.out _ (HW19.out.2.1)).mono ?_
  rintro e W20 ⟨kQ, rfl, hk0, hk8, b20⟩
  have HW20 := Go.Lib.hid (And.intro (Below.trans (HW19.out.1) ((b20).mono (Below.size (HW19.out.1)))) (And.intro (Sees.grow (HW19.out.2.1) b20) (And.intro (Tab.grow (HW19.out.2.2.1) b20) (And.intro (kept_call (HW19.out.2.2.2.1) b20) (And.intro (Lists.kept (HW19.out.2.2.2.2.1) b20) (kept_call (HW19.out.2.2.2.2.2) b20))))))
  clear b20
  obtain ⟨queue, five, hqu, hqs, hqf⟩ := qu_five kQ
  have Q1 := Go.Lib.hid (implEQu kQ queue five hqu (wf8 hk0 hk8))
  have Q2 := Go.Lib.hid (specEQu kQ queue five hqu (wf8 hk0 hk8))
  have HQF := Go.Lib.hid hqf
  clear hqu hqf D5
  have HWd21 := Go.Lib.hid (And.intro HW20.out.1 (And.intro HW20.out.2.2.1 (And.intro HW20.out.2.2.2.1 (And.intro HW20.out.2.2.2.2.1 HW20.out.2.2.2.2.2))))
  clear HW20
  go_wp2_with fail
  refine (Q1.out _).mono ?_
  rintro e W22 ⟨rfl, b22⟩
  have HW22 := Go.Lib.hid (And.intro (Below.trans (HWd21.out.1) ((b22).mono (Below.size (HWd21.out.1)))) (And.intro (Tab.grow (HWd21.out.2.1) b22) (And.intro (kept_call (HWd21.out.2.2.1) b22) (And.intro (Lists.kept (HWd21.out.2.2.2.1) b22) (kept_call (HWd21.out.2.2.2.2) b22)))))
  clear b22
  go_wp2_with fail
  refine (Q2.out _).mono ?_
  rintro e W23 ⟨rfl, b23⟩
  have HW23 := Go.Lib.hid (And.intro (Below.trans (HW22.out.1) ((b23).mono (Below.size (HW22.out.1)))) (And.intro (Tab.grow (HW22.out.2.1) b23) (And.intro (kept_call (HW22.out.2.2.1) b23) (And.intro (Lists.kept (HW22.out.2.2.2.1) b23) (kept_call (HW22.out.2.2.2.2) b23)))))
  clear b23
  clear Q1 Q2
  go_upto_if 173 with (fail)
  go_cut [] from 41 to 274 (fun w' => Hid (Below W23.heap.size W23 w'))
  case first =>
    cases four
    case false =>
      clear HSO HPC
      go_wp2_with fail
      go_meet
      exact Go.Lib.hid (Below.refl _ _)
    case true =>
      have S1 := Go.Lib.hid (implSortable xs plainly true (HSO.out (by trivial)) (by omega))
      have HPC2 := Go.Lib.hid (HPC.out (by trivial))
      clear HSO HPC
      go_wp2_with fail
      refine (S1.out _ _ _ (Sees.owns (HW23.out.2.2.2.2))).mono ?_
      rintro e W24 ⟨rfl, b24⟩
      have HW24 := Go.Lib.hid (And.intro (Below.trans (HW23.out.1) ((b24).mono (Below.size (HW23.out.1)))) (And.intro (Tab.grow (HW23.out.2.1) b24) (And.intro (kept_call (HW23.out.2.2.1) b24) (And.intro (Lists.kept (HW23.out.2.2.2.1) b24) (kept_call (HW23.out.2.2.2.2) b24)))))
      have HB := Go.Lib.hid b24
      clear b24 S1 HW24
      cases plainly
      case false =>
        clear HPC2
        go_wp2_with fail
        go_meet
        exact Go.Lib.hid HB.out
      case true =>
        obtain rfl : can = true := HPC2.out (by trivial)
        clear HPC2
        go_wp2_with fail
        go_meet
        exact Go.Lib.hid HB.out
  case rest =>
    have bY := hcut.out
    rename Go.World => WY
    have HWY25 := Go.Lib.hid (And.intro (Below.trans (HW23.out.1) (bY.mono (Below.size (HW23.out.1)))) (And.intro (Tab.grow (HW23.out.2.1) bY) (And.intro (kept_call (HW23.out.2.2.1) bY) (And.intro (Lists.kept (HW23.out.2.2.2.1) bY) (kept_call (HW23.out.2.2.2.2) bY)))))
    clear bY hcut HW23 HSO HPC
    have HWd26 := Go.Lib.hid (And.intro HWY25.out.1 (And.intro HWY25.out.2.1 (And.intro HWY25.out.2.2.1 HWY25.out.2.2.2.1)))
    clear HWY25
    as_aux_lemma =>
    go_upto_region 36 with (fail)
    go_cut [201] from 41 to 274 (fun s w' => s = .bool false ∧ w' = WY)
    case first =>
      cases two
      · go_wp2_with fail
        go_meet
        exact ⟨rfl, rfl⟩
      · cases three
        · go_wp2_with fail
          go_meet
          exact ⟨rfl, rfl⟩
        · by_cases hnm : nE = mE
          · have hmp := many_plain HTWO.out HTHR.out rfl rfl hnm
            have hmp2 : ¬ (plain : Int) < (many : Int) := by omega
            have hnm2 : (nE == mE) = true := by rw [beq_iff_eq]; exact hnm
            clear hnm hmp
            go_wp2_with fail
            go_meet
            exact ⟨rfl, rfl⟩
          · have hnm2 : (nE == mE) = false := by rw [beq_eq_false_iff_ne]; exact hnm
            clear hnm
            go_wp2_with fail
            go_meet
            exact ⟨rfl, rfl⟩
    case rest =>
      obtain ⟨rfl, rfl⟩ := hcut
      as_aux_lemma =>
      obtain ⟨B, hB⟩ : ∃ B, (five && ok && (kQ == (zs.length : Int))) = B := ⟨_, rfl⟩
      go_upto_region 38 with (fail)
      go_cut [211] from 41 to 274 (fun s w' => s = .bool B ∧ w' = wc)
      case first =>
        cases five
        · subst hB
          go_wp2_with fail
          go_meet
          exact ⟨rfl, rfl⟩
        · cases ok
          · subst hB
            go_wp2_with fail
            go_meet
            exact ⟨rfl, rfl⟩
          · obtain ⟨q, hq⟩ : ∃ q, (kQ == (zs.length : Int)) = q := ⟨_, rfl⟩
            rw [hq] at hB
            subst hB
            go_wp2_with fail
            go_meet
            exact ⟨rfl, rfl⟩
      case rest =>
        obtain ⟨rfl, rfl⟩ := hcut
        cases B
        case false =>
          clear hB HQF
          have HWd27 := Go.Lib.hid (And.intro HWd26.out.1 (And.intro HWd26.out.2.2.1 HWd26.out.2.2.2))
          clear HWd26
          cases ok
          case false =>
            go_wp2_with fail
            go_ret
            exact ⟨rfl, HWd27.out.1⟩
          case true =>
            as_aux_lemma =>
            obtain ⟨hwa, hwn, hmn, hto⟩ := all_facts (of_decide_eq_true HOK.out) HRO.out (HOB.out (by trivial))
            obtain ⟨nw, hnw⟩ : ∃ n, (allW zs.length).length = n := ⟨_, rfl⟩
            have K1 := Go.Lib.hid (implWords (zs.length : Int) (allW zs.length) true hwa (wf8 (by omega) (by omega)))
            rw [hnw, HN.out] at hwn
            have hwi : ((nw : Int) + (only : Int)) = (N : Int) := by omega
            have HTO := Go.Lib.hid hto
            have HMN := Go.Lib.hid hmn
            have HNW := Go.Lib.hid hnw
            clear hwa hwn hmn hto hnw HOB
            go_wp2_with fail
            refine (K1.out _).mono ?_
            rintro e W28 ⟨vW, rfl, o28, b28⟩
            have HW28 := Go.Lib.hid (And.intro (Below.trans (HWd27.out.1) ((b28).mono (Below.size (HWd27.out.1)))) (And.intro (kept_call (HWd27.out.2.1) b28) (Lists.kept (HWd27.out.2.2) b28)))
            rw [HNW.out] at o28
            obtain ⟨_, aW, cW, rfl, _, _⟩ := Sees.owns o28
            clear o28 b28 K1
            go_upto_region 47 with (fail)
            go_cut [257] from 41 to 274 (fun s w' => s = .bool false ∧ w' = W28)
            case first =>
              cases two
              · go_wp2_with fail
                go_meet
                exact ⟨rfl, rfl⟩
              · by_cases hnz : nE = (zs.length : Int)
                · have hmm : (many : Int) = (N : Int) := by rw [HMN.out nE many (HTWO.out (by trivial)).2.2 hnz, HN.out]
                  have hmm2 : ((many : Int) != (N : Int)) = false := by rw [hmm]; simp
                  have hnz2 : (nE == (zs.length : Int)) = true := by rw [beq_iff_eq]; exact hnz
                  clear hnz hmm
                  go_wp2_with fail
                  go_meet
                  exact ⟨by first | rfl | rw [hmm2], rfl⟩
                · have hnz2 : (nE == (zs.length : Int)) = false := by rw [beq_eq_false_iff_ne]; exact hnz
                  clear hnz
                  go_wp2_with fail
                  go_meet
                  exact ⟨rfl, rfl⟩
            case rest =>
              obtain ⟨rfl, rfl⟩ := hcut
              clear hwi HTWO HTHR HMN
              go_wp2_with fail
              go_loopw [38] (fun iv wr => ∃ i : Nat, i ≤ N ∧ iv = .int .i64 i ∧ Hid (Below wc.heap.size wc wr)) (fun iv _ => N - (intOf iv).toNat)
              case atStart => exact ⟨0, Nat.zero_le _, rfl, Go.Lib.hid (Below.refl _ _)⟩
              case round =>
                obtain ⟨i, hi, rfl, HX⟩ := hrel
                by_cases hlt : i < N
                · obtain ⟨gs, hg, hog, hin, _, _⟩ := HW28.out.2.2
                  rw [List.length_map, HN.out] at hg hog hin
                  have hiR : i < R.length := by rw [HN.out]; exact hlt
                  obtain ⟨y, hy⟩ : ∃ y, R[i]? = some y := ⟨_, List.getElem?_eq_getElem hiR⟩
                  obtain ⟨hyl, tw, htw⟩ := HTO.out y (List.mem_of_getElem? hy)
                  have hrow := hin i hlt
                  have hgd : (R.map vals).getD i [] = vals y := by simp [hy]
                  rw [hgd] at hrow
                  obtain ⟨gA, cA', eA⟩ := own_pos hog (by omega)
                  cases eA
                  obtain ⟨p, hp⟩ : ∃ p, gs.getD i (0, 0) = p := ⟨_, rfl⟩
                  have hck : wc.cell? ⟨gA, i, none⟩ = some (sl m0 p) := by
                    rw [hog.cellAt i (by omega), ← hp]
                    simp [show i < gs.length by omega]
                  rw [hp] at hrow
                  have hgl := (hog.lt gA rfl).2
                  have hckr := (HX.out.cell (p := ⟨gA, i, none⟩) hgl).trans hck
                  unfold sl at hckr hrow
                  have C7 := Go.Lib.hid (implETo zs y tw true htw (by omega) (by omega) wr _ _ (Sees.owns (kept_call (HW28.out.2.1) HX.out)) _ _ (Sees.owns (kept_call hrow HX.out)))
                  have hlti : (i : Int) < (N : Int) := by omega
                  clear hg hog hin hiR hy hyl htw hrow hgd hp hck hgl
                  go_wp2_with fail
                  refine (C7.out).mono ?_
                  rintro e w7 ⟨rfl, hb7⟩
                  have HB7 := Go.Lib.hid (HX.out.trans (hb7.mono HX.out.size))
                  clear hb7 C7 hckr
                  go_wp2
                  go_roundw
                  case rel => exact ⟨i + 1, by omega, by go_num, HB7⟩
                  case measure => simp [intOf]; omega
                · obtain rfl : i = N := by omega
                  have hlti : ¬ (i : Int) < (i : Int) := by omega
                  go_wp2
                  go_ret
                  exact ⟨rfl, Below.trans (HW28.out.1) (HX.out.mono (Below.size (HW28.out.1)))⟩
        case true =>
          rw [Bool.and_eq_true, Bool.and_eq_true, beq_iff_eq] at hB
          obtain ⟨⟨h5, rfl⟩, hkz⟩ := hB
          have Q3 := Go.Lib.hid (implERun zs queue zs true (HQF.out zs (of_decide_eq_true HOK.out) h5 hkz) (by omega) (by omega))
          clear h5 hkz HQF
          go_wp2_with fail
          refine (Q3.out _ (HWd26.out.2.1) _ _ (Sees.owns (HWd26.out.2.2.1))).mono ?_
          rintro e W29 ⟨v29, rfl, o29, b29⟩
          have HW29 := Go.Lib.hid (And.intro (Below.trans (HWd26.out.1) ((b29).mono (Below.size (HWd26.out.1)))) (And.intro (Tab.grow (HWd26.out.2.1) b29) (And.intro (kept_call (HWd26.out.2.2.1) b29) (And.intro (Lists.kept (HWd26.out.2.2.2) b29) (own_lower (o29) (Below.size (HWd26.out.1)))))))
          clear o29 b29
          go_wp2_with fail
          refine (rInts_same _ _ _ zs.length zs (Sees.owns (HW29.out.2.2.2.2)) (Sees.owns (HW29.out.2.2.1)) (by unfold maxLen; omega)).mono ?_
          rintro e W30 ⟨rfl, d30⟩
          have HW30 := Go.Lib.hid (And.intro (Below.trans (HW29.out.1) (((d30.below W29.heap.size)).mono (Below.size (HW29.out.1)))) (And.intro (Tab.grow (HW29.out.2.1) (d30.below W29.heap.size)) (And.intro (kept_call (HW29.out.2.2.1) (d30.below W29.heap.size)) (And.intro (Lists.kept (HW29.out.2.2.2.1) (d30.below W29.heap.size)) (kept_call (HW29.out.2.2.2.2) (d30.below W29.heap.size))))))
          clear d30
          have HWd31 := Go.Lib.hid (And.intro HW30.out.1 (And.intro HW30.out.2.2.1 HW30.out.2.2.2.1))
          clear HW30
          clear Q3
          as_aux_lemma =>
          obtain ⟨hwa, hwn, hmn, hto⟩ := all_facts (of_decide_eq_true HOK.out) HRO.out (HOB.out (by trivial))
          obtain ⟨nw, hnw⟩ : ∃ n, (allW zs.length).length = n := ⟨_, rfl⟩
          have K1 := Go.Lib.hid (implWords (zs.length : Int) (allW zs.length) true hwa (wf8 (by omega) (by omega)))
          rw [hnw, HN.out] at hwn
          have hwi : ((nw : Int) + (only : Int)) = (N : Int) := by omega
          have HTO := Go.Lib.hid hto
          have HMN := Go.Lib.hid hmn
          have HNW := Go.Lib.hid hnw
          clear hwa hwn hmn hto hnw HOB
          go_wp2_with fail
          refine (K1.out _).mono ?_
          rintro e W32 ⟨vW, rfl, o32, b32⟩
          have HW32 := Go.Lib.hid (And.intro (Below.trans (HWd31.out.1) ((b32).mono (Below.size (HWd31.out.1)))) (And.intro (kept_call (HWd31.out.2.1) b32) (Lists.kept (HWd31.out.2.2) b32)))
          rw [HNW.out] at o32
          obtain ⟨_, aW, cW, rfl, _, _⟩ := Sees.owns o32
          clear o32 b32 K1
          go_upto_region 47 with (fail)
          go_cut [257] from 41 to 274 (fun s w' => s = .bool false ∧ w' = W32)
          case first =>
            cases two
            · go_wp2_with fail
              go_meet
              exact ⟨rfl, rfl⟩
            · by_cases hnz : nE = (zs.length : Int)
              · have hmm : (many : Int) = (N : Int) := by rw [HMN.out nE many (HTWO.out (by trivial)).2.2 hnz, HN.out]
                have hmm2 : ((many : Int) != (N : Int)) = false := by rw [hmm]; simp
                have hnz2 : (nE == (zs.length : Int)) = true := by rw [beq_iff_eq]; exact hnz
                clear hnz hmm
                go_wp2_with fail
                go_meet
                exact ⟨by first | rfl | rw [hmm2], rfl⟩
              · have hnz2 : (nE == (zs.length : Int)) = false := by rw [beq_eq_false_iff_ne]; exact hnz
                clear hnz
                go_wp2_with fail
                go_meet
                exact ⟨rfl, rfl⟩
          case rest =>
            obtain ⟨rfl, rfl⟩ := hcut
            clear hwi HTWO HTHR HMN
            go_wp2_with fail
            go_loopw [38] (fun iv wr => ∃ i : Nat, i ≤ N ∧ iv = .int .i64 i ∧ Hid (Below wc.heap.size wc wr)) (fun iv _ => N - (intOf iv).toNat)
            case atStart => exact ⟨0, Nat.zero_le _, rfl, Go.Lib.hid (Below.refl _ _)⟩
            case round =>
              obtain ⟨i, hi, rfl, HX⟩ := hrel
              by_cases hlt : i < N
              · obtain ⟨gs, hg, hog, hin, _, _⟩ := HW32.out.2.2
                rw [List.length_map, HN.out] at hg hog hin
                have hiR : i < R.length := by rw [HN.out]; exact hlt
                obtain ⟨y, hy⟩ : ∃ y, R[i]? = some y := ⟨_, List.getElem?_eq_getElem hiR⟩
                obtain ⟨hyl, tw, htw⟩ := HTO.out y (List.mem_of_getElem? hy)
                have hrow := hin i hlt
                have hgd : (R.map vals).getD i [] = vals y := by simp [hy]
                rw [hgd] at hrow
                obtain ⟨gA, cA', eA⟩ := own_pos hog (by omega)
                cases eA
                obtain ⟨p, hp⟩ : ∃ p, gs.getD i (0, 0) = p := ⟨_, rfl⟩
                have hck : wc.cell? ⟨gA, i, none⟩ = some (sl m0 p) := by
                  rw [hog.cellAt i (by omega), ← hp]
                  simp [show i < gs.length by omega]
                rw [hp] at hrow
                have hgl := (hog.lt gA rfl).2
                have hckr := (HX.out.cell (p := ⟨gA, i, none⟩) hgl).trans hck
                unfold sl at hckr hrow
                have C7 := Go.Lib.hid (implETo zs y tw true htw (by omega) (by omega) wr _ _ (Sees.owns (kept_call (HW32.out.2.1) HX.out)) _ _ (Sees.owns (kept_call hrow HX.out)))
                have hlti : (i : Int) < (N : Int) := by omega
                clear hg hog hin hiR hy hyl htw hrow hgd hp hck hgl
                go_wp2_with fail
                refine (C7.out).mono ?_
                rintro e w7 ⟨rfl, hb7⟩
                have HB7 := Go.Lib.hid (HX.out.trans (hb7.mono HX.out.size))
                clear hb7 C7 hckr
                go_wp2
                go_roundw
                case rel => exact ⟨i + 1, by omega, by go_num, HB7⟩
                case measure => simp [intOf]; omega
              · obtain rfl : i = N := by omega
                have hlti : ¬ (i : Int) < (i : Int) := by omega
                go_wp2
                go_ret
                exact ⟨rfl, Below.trans (HW32.out.1) (HX.out.mono (Below.size (HW32.out.1)))⟩

/-! ### From the walk to the row -/
set_option maxRecDepth 100000 in
theorem contract (H : Type) (enc : TypeId × Value → H) (W : World) (base : Nat) (args : Array Value) (ds gs : List (DataW H)) (before : List MemPlace)
    (hval : ∀ (j : Nat) t v, Tryd.f3.params[j]? = some t → args[j]? = some v → Value.okWide Tryd.prog W .any base t v)
    (hW : DataW.Whole enc Tryd.prog Tryd.f3.params.toList Rows.fnEndsCountsSpec.vars false W args.toList ds gs before) (hL : laidMetH Tryd.prog Rows.fnEndsCountsRow.laid W) :
    Calls Tryd.prog 3 args W fun e W' => ∃ v, e = .returned v ∧ Rows.fnEndsCountsSpec.post enc Tryd.prog Tryd.f3 false true false false W args v W' := by
  have hW' := hW
  obtain ⟨p, q, hA0, hV, rfl, hfz, hnd⟩ := hW
  have hA : DataW.TrodAll enc Tryd.prog W 0 (fun _ => true) true Tryd.f3.params.toList args.toList ds p := hA0
  rw [Tryd.params3] at hA hval
  obtain ⟨u0, vs0, d0, ds0, p0, q0, hargs, rfl, rfl, h0, r0⟩ := trodAll_cons hA
  obtain ⟨rfl, rfl, rfl⟩ := trodAll_nil r0
  obtain rfl : args = #[u0] := by cases args; simp_all
  obtain ⟨rfl, rfl⟩ := trodVars_none hV
  have lt0 : ∀ x ∈ p0, x.block < W.heap.size := by obtain ⟨m, hm⟩ := h0; exact DataW.trod_lt m _ _ _ hm
  obtain ⟨n0, a0, s0, t0, w0⟩ := sees_ints Tryd.underlying22 Tryd.underlying5 (by kernel_rfl) (hval 0 22 u0 rfl rfl) h0
  clear hA0
  refine (walk u0 n0 a0 W s0 t0 w0 (tab_of hL)).mono fun e W' ⟨he, bel⟩ => ?_
  subst he
  exact ⟨_, rfl, _, _, _, [], _, [], hW', trodAll_mk1 (shut_bool Tryd.underlying4 _), (trodAll_cons_mk (Below.trod laidOut (by kernel_rfl) (of_decide_eq_true (by kernel_rfl)) h0 bel lt0) trodAll_mk0), rfl, bel.frame _, fun h => by cases h⟩

theorem laid_met (os : Os) : laidMet Tryd.prog Rows.fnEndsCountsRow.laid ((laidWorld os).forCall (fun _ _ => 0) ⟨#[], #[.slice none 0 0], []⟩).memory := by
  show laidMet Tryd.prog [("unicode/utf8.acceptRanges", Rows.laid_unicode_utf8_acceptRanges), ("unicode/utf8.first", Rows.laid_unicode_utf8_first)] _
  exact laidMet_of_run' 8 (by kernel_rfl) (by kernel_rfl)

theorem reads (os : Os) {H : Type} (enc : TypeId × Value → H) : ∃ places, DataW.whole enc Tryd.prog ((laidWorld os).forCall (fun _ _ => 0) ⟨#[], #[.slice none 0 0], []⟩).memory Tryd.f3.params.toList Rows.fnEndsCountsSpec.vars false (#[.slice none 0 0] : Array Value).toList 8 = some ([.nil], [], places) :=
  ⟨[], by kernel_rfl⟩

set_option maxRecDepth 100000 in
theorem lifted (os : Os) (started : os.Started) (H : Type) (enc : TypeId × Value → H) (F : Stop.Interp) :
    ReturnsInHanded {} Tryd.checked os 3 .any ((OpenSpec.ofChange Rows.fnEndsCountsSpec).preRow enc Tryd.prog Tryd.f3 Rows.fnEndsCountsRow.domain false Rows.fnEndsCountsRow.laid) (((OpenSpec.ofChange Rows.fnEndsCountsSpec).at F).post enc Tryd.prog Tryd.f3 false true false false) := by
  obtain ⟨places, hx⟩ := reads os enc
  refine returnsInHanded_of_row (C := Tryd.checked) (s := OpenSpec.ofChange Rows.fnEndsCountsSpec) own started (by kernel_rfl) Tryd.func3
    (witness_row_at (enc := enc) (C := Tryd.checked) false (laidWorld os) #[.slice none 0 0] rfl (by kernel_rfl) (by kernel_rfl) (by kernel_rfl)
      (OpenSpec.preRow_of_cond 8 hx (by kernel_rfl) (fun k hk => by cases hk) (by kernel_rfl) (laid_met os))) ?_
  intro W base args ds gs before hval hW _ _ _ hL _ _
  exact contract H enc W base args ds gs before hval hW hL

theorem said : Rows.FnEndsCountsSaid :=
  OpenClaim.holds_of_cond 3 Tryd.f3 rfl rfl rfl rfl rfl rfl rfl ⟨rfl, rfl, rfl, rfl, rfl⟩ rfl rfl rfl rfl rfl (by kernel_rfl) Tryd.func3 (by kernel_rfl)
    (of_decide_eq_true (by kernel_rfl)) (by unfold Func.isWrapper; first | (rw [if_pos (by decide +kernel)]; kernel_rfl) | (rw [if_neg (by decide +kernel)]; exact ⟨rfl, rfl⟩))
    (fun os started H enc _ F => by rw [OpenClaim.pre_eq_preRow]; exact lifted os started H enc F)

theorem plain (f : FuncId) (fn : Func) (hf : Tryd.pinned.checked.prog.funcNamed "loop.example/g01286/laws.FnEndsCounts" = some f) (hfn : Tryd.pinned.checked.prog.funcs[f]? = some fn) :
    false = Tryd.pinned.checked.prog.looks [] ∧ ∀ (j : Nat) t, fn.params[j]? = some t → Tryd.pinned.checked.prog.wantsStandIn t = false := by
  obtain rfl : f = 3 := Option.some.inj ((show Tryd.prog.funcNamed "loop.example/g01286/laws.FnEndsCounts" = some 3 by kernel_rfl).symm.trans hf) |>.symm
  obtain rfl : fn = Tryd.f3 := (Option.some.inj (Tryd.func3.symm.trans hfn)).symm
  refine ⟨by kernel_rfl, fun j t ht => ?_⟩
  rw [Tryd.params3] at ht
  obtain rfl : t = 22 := by simpa using Array.mem_of_getElem? ht
  exact (show Tryd.prog.wantsStandIn 22 = false by kernel_rfl)

/-- The card. -/
theorem proved : Rows.FnEndsCountsCardSaid :=
  Claim7.holds_tied_plain_at .later [] _ _ _ _ said (fun _ h => by cases h) (by kernel_rfl) (fun _ h => by cases h) fnEndsCounts_row_tie rfl ⟨rfl, rfl⟩ (by kernel_rfl) rfl plain (by kernel_rfl)
#print axioms proved
end Go.Proofs.YtpkjnlabjmpokabDoor.fnEndsCounts
