/-
  ..
-/
import Derived.Test.YtnhhnffolmgceaaRows
import Derived.Test.YtnhhnffolmgceaaPz0
import Derived.Test.YtnhhnffolmgceaaPz10
import Derived.WalkKit
import Derived.ProofKit
import Derived.OpenShut
import Derived.ShutString
import Derived.ChangeOld
import Derived.Below
import Derived.Test.YtnhhnffolmgceaaPz13
import Derived.Test.YtnhhnffolmgceaaPz2
import Derived.Test.YtnhhnffolmgceaaPz39
import Derived.Test.YtnhhnffolmgceaaPz41
import Derived.Test.YtnhhnffolmgceaaPz35
import Derived.Test.YtnhhnffolmgceaaPz36
import Derived.Test.YtnhhnffolmgceaaPz29
import Derived.Test.YtnhhnffolmgceaaPz40
import Derived.Test.YtnhhnffolmgceaaPz33
import Derived.Deep.CutRange

namespace Go.Proofs.Ytnhhnffolmgceaa.fnLimits
open Go.ChangeShapes Go.WideShapes Go.ChangeAt Go.RowKit SeesC OpenC
open Go.ChangeMaps (open_string shut_string)
open IntsC ExactC OrdMath RBigC OrderC WordMath WordC RunC ToC Sort4C EndsM SweepM StackM Rank4C RSortedC DrawOrdC DrawOrd2C DrawWordC Draw4C Draw10C LimW LimM LimT LimXC LimYC LimSC LimIC LimJC LimFC
set_option linter.unusedVariables false

theorem own : ownKnob Try.prog.godebug = none := by kernel_rfl
theorem laidOut : laidOutB Try.prog = true := by kernel_rfl

/-! ### The walk -/
set_option maxRecDepth 100000 in
set_option maxHeartbeats 400000000 in
theorem walk (v0 : Value) (n0 : Nat) (a0 : List Int) (w : World) (s0 : Sees w v0 n0 (a0.map (Value.int .u8))) (t0 : n0 ≤ maxLen) (w0 : ∀ z ∈ a0, (Lit.int .u8 z).wf = true) :
    Calls Try.prog 3 #[v0] w fun e w' => e = .returned (.bool true) ∧ Below w.heap.size w w' := by
  have hz : ∀ z ∈ a0, 0 ≤ z ∧ z ≤ 255 := byte_bd w0
  have hs0 := s0
  obtain ⟨_, ar, cap, rfl, _, _⟩ := hs0
  by_cases hbig : (65536 : Int) < (n0 : Int)
  · have cB := Go.Lib.hid (rBig_of w ar n0 cap true (decide_eq_true hbig))
    clear hz
    go_enter Try.func3, Try.ntmps3
    go_wp2_with fail
    refine (cB.out).mono ?_
    rintro e W1 ⟨rfl, rfl⟩
    go_wp2_with fail
    go_ret
    exact ⟨rfl, Below.refl _ _⟩
  have hn : n0 ≤ 65536 := by omega
  have cB := Go.Lib.hid (rBig_of w ar n0 cap false (decide_eq_false hbig))
  have D1 := Go.Lib.hid (fun W h => drawCanD_any (.slice ar n0 cap) n0 a0 W h hz hn)
  have D2 := Go.Lib.hid (fun W h => drawLO_any (.slice ar n0 cap) n0 a0 W h hz hn)
  have D3 := Go.Lib.hid (fun W h => drawCW_any (.slice ar n0 cap) n0 a0 W h hz hn)
  have D4 := Go.Lib.hid (fun W h => drawAtD_any (.slice ar n0 cap) n0 a0 W h hz hn)
  have D5 := Go.Lib.hid (fun W h => drawRankD_any (.slice ar n0 cap) n0 a0 W h hz hn)
  have D6 := Go.Lib.hid (fun W h => drawLP_any (.slice ar n0 cap) n0 a0 W h hz hn)
  have HW0 := Go.Lib.hid (And.intro (Below.refl w.heap.size w) s0)
  clear hz s0 w0 t0
  go_enter Try.func3, Try.ntmps3
  go_wp2_with fail
  refine (cB.out).mono ?_
  rintro e Wz ⟨rfl, rfl⟩
  go_wp2_with fail
  refine (D1.out _ (HW0.out.2)).mono ?_
  rintro e W1 ⟨vO, zs, d, rfl, hz8, hd0, hd8, o1, b1⟩
  have HW1 := Go.Lib.hid (And.intro (Below.trans (HW0.out.1) ((b1).mono (Below.size (HW0.out.1)))) (And.intro (Sees.grow (HW0.out.2) b1) (own_lower (o1) (Below.size (HW0.out.1)))))
  clear o1 b1
  obtain ⟨_, aO, cO, rfl, _, _⟩ := Sees.owns (HW1.out.2.2)
  obtain ⟨can, ok, hc, hcf⟩ := can_facts zs d
  have wd : (Lit.int .i64 d).wf = true := wf_small hd0 (by omega)
  have A1 := Go.Lib.hid (implCan zs d can ok hc (by omega) wd)
  have A2 := Go.Lib.hid (specCan zs d can ok hc (by omega) wd)
  have HCF := Go.Lib.hid hcf
  clear hc hcf D1 cB
  go_wp2_with fail
  refine (A1.out _ _ _ (Sees.owns (HW1.out.2.2))).mono ?_
  rintro e W2 ⟨rfl, b2⟩
  have HW2 := Go.Lib.hid (And.intro (Below.trans (HW1.out.1) ((b2).mono (Below.size (HW1.out.1)))) (And.intro (Sees.grow (HW1.out.2.1) b2) (kept_call (HW1.out.2.2) b2)))
  clear b2
  go_wp2_with fail
  refine (A2.out _ _ _ (Sees.owns (HW2.out.2.2))).mono ?_
  rintro e W3 ⟨rfl, b3⟩
  have HW3 := Go.Lib.hid (And.intro (Below.trans (HW2.out.1) ((b3).mono (Below.size (HW2.out.1)))) (And.intro (Sees.grow (HW2.out.2.1) b3) (kept_call (HW2.out.2.2) b3)))
  clear b3
  clear A1 A2
  go_wp2_with fail
  refine (D2.out _ (HW3.out.2.1)).mono ?_
  rintro e W4 ⟨vX, xs, rfl, hx8, o4, b4⟩
  have HW4 := Go.Lib.hid (And.intro (Below.trans (HW3.out.1) ((b4).mono (Below.size (HW3.out.1)))) (And.intro (Sees.grow (HW3.out.2.1) b4) (And.intro (kept_call (HW3.out.2.2) b4) (own_lower (o4) (Below.size (HW3.out.1))))))
  clear o4 b4
  obtain ⟨_, aX, cX, rfl, _, _⟩ := Sees.owns (HW4.out.2.2.2)
  obtain ⟨limit, one, hlm, hlf⟩ := lim_facts xs
  have B1 := Go.Lib.hid (implLimit xs limit one hlm (by omega))
  have B2 := Go.Lib.hid (specLimit xs limit one hlm (by omega))
  have HLF := Go.Lib.hid hlf
  clear hlm hlf D2
  go_wp2_with fail
  refine (B1.out _ _ _ (Sees.owns (HW4.out.2.2.2))).mono ?_
  rintro e W5 ⟨rfl, b5⟩
  have HW5 := Go.Lib.hid (And.intro (Below.trans (HW4.out.1) ((b5).mono (Below.size (HW4.out.1)))) (And.intro (Sees.grow (HW4.out.2.1) b5) (And.intro (kept_call (HW4.out.2.2.1) b5) (kept_call (HW4.out.2.2.2) b5))))
  clear b5
  go_wp2_with fail
  refine (B2.out _ _ _ (Sees.owns (HW5.out.2.2.2))).mono ?_
  rintro e W6 ⟨rfl, b6⟩
  have HW6 := Go.Lib.hid (And.intro (Below.trans (HW5.out.1) ((b6).mono (Below.size (HW5.out.1)))) (And.intro (Sees.grow (HW5.out.2.1) b6) (And.intro (kept_call (HW5.out.2.2.1) b6) (kept_call (HW5.out.2.2.2) b6))))
  clear b6
  clear B1 B2
  go_wp2_with fail
  refine (D3.out _ (HW6.out.2.1)).mono ?_
  rintro e W7 ⟨nC, eC, rfl, hn0, hn8, he0, he8, b7⟩
  have HW7 := Go.Lib.hid (And.intro (Below.trans (HW6.out.1) ((b7).mono (Below.size (HW6.out.1)))) (And.intro (Sees.grow (HW6.out.2.1) b7) (And.intro (kept_call (HW6.out.2.2.1) b7) (kept_call (HW6.out.2.2.2) b7))))
  clear b7
  obtain ⟨⟨many, two⟩, hmt⟩ : ∃ p, withinAns nC eC = p := ⟨_, rfl⟩
  have wn : (Lit.int .i64 nC).wf = true := wf_small hn0 (by omega)
  have we : (Lit.int .i64 eC).wf = true := wf_small he0 (by omega)
  have C1 := Go.Lib.hid (implWithin nC eC many two hmt wn we)
  have C2 := Go.Lib.hid (specWithin nC eC many two hmt wn we)
  have C3 := Go.Lib.hid (implSortedWithin nC eC many two hmt wn we)
  have C4 := Go.Lib.hid (specSortedWithin nC eC many two hmt wn we)
  clear hmt D3 wn we
  go_wp2_with fail
  refine (C1.out _).mono ?_
  rintro e W8 ⟨rfl, b8⟩
  have HW8 := Go.Lib.hid (And.intro (Below.trans (HW7.out.1) ((b8).mono (Below.size (HW7.out.1)))) (And.intro (Sees.grow (HW7.out.2.1) b8) (And.intro (kept_call (HW7.out.2.2.1) b8) (kept_call (HW7.out.2.2.2) b8))))
  clear b8
  go_wp2_with fail
  refine (C2.out _).mono ?_
  rintro e W9 ⟨rfl, b9⟩
  have HW9 := Go.Lib.hid (And.intro (Below.trans (HW8.out.1) ((b9).mono (Below.size (HW8.out.1)))) (And.intro (Sees.grow (HW8.out.2.1) b9) (And.intro (kept_call (HW8.out.2.2.1) b9) (kept_call (HW8.out.2.2.2) b9))))
  clear b9
  go_wp2_with fail
  refine (C3.out _).mono ?_
  rintro e W10 ⟨rfl, b10⟩
  have HW10 := Go.Lib.hid (And.intro (Below.trans (HW9.out.1) ((b10).mono (Below.size (HW9.out.1)))) (And.intro (Sees.grow (HW9.out.2.1) b10) (And.intro (kept_call (HW9.out.2.2.1) b10) (kept_call (HW9.out.2.2.2) b10))))
  clear b10
  go_wp2_with fail
  refine (C4.out _).mono ?_
  rintro e W11 ⟨rfl, b11⟩
  have HW11 := Go.Lib.hid (And.intro (Below.trans (HW10.out.1) ((b11).mono (Below.size (HW10.out.1)))) (And.intro (Sees.grow (HW10.out.2.1) b11) (And.intro (kept_call (HW10.out.2.2.1) b11) (kept_call (HW10.out.2.2.2) b11))))
  clear b11
  clear C1 C2 C3 C4
  go_wp2_with fail
  refine (D4.out _ (HW11.out.2.1)).mono ?_
  rintro e W12 ⟨mA, fA, kA, rfl, hm0, hm8, hf0, hf8, hk0, hk1, b12⟩
  have HW12 := Go.Lib.hid (And.intro (Below.trans (HW11.out.1) ((b12).mono (Below.size (HW11.out.1)))) (And.intro (Sees.grow (HW11.out.2.1) b12) (And.intro (kept_call (HW11.out.2.2.1) b12) (kept_call (HW11.out.2.2.2) b12))))
  clear b12
  obtain ⟨at_, four, hat, hat60, hatf⟩ := at_facts mA fA kA
  have wm : (Lit.int .i64 mA).wf = true := wf_small hm0 (by omega)
  have wf' : (Lit.int .i64 fA).wf = true := wf_small hf0 (by omega)
  have wk : (Lit.int .i64 kA).wf = true := wf_mid hk0 hk1
  have E1 := Go.Lib.hid (implAtD mA fA kA at_ four hat wm wf' wk)
  have E2 := Go.Lib.hid (specAtD mA fA kA at_ four hat wm wf' wk)
  have HATF := Go.Lib.hid hatf
  clear hat hatf D4 wm wk
  go_wp2_with fail
  refine (E1.out _).mono ?_
  rintro e W13 ⟨rfl, b13⟩
  have HW13 := Go.Lib.hid (And.intro (Below.trans (HW12.out.1) ((b13).mono (Below.size (HW12.out.1)))) (And.intro (Sees.grow (HW12.out.2.1) b13) (And.intro (kept_call (HW12.out.2.2.1) b13) (kept_call (HW12.out.2.2.2) b13))))
  clear b13
  go_wp2_with fail
  refine (E2.out _).mono ?_
  rintro e W14 ⟨rfl, b14⟩
  have HW14 := Go.Lib.hid (And.intro (Below.trans (HW13.out.1) ((b14).mono (Below.size (HW13.out.1)))) (And.intro (Sees.grow (HW13.out.2.1) b14) (And.intro (kept_call (HW13.out.2.2.1) b14) (kept_call (HW13.out.2.2.2) b14))))
  clear b14
  clear E1 E2
  go_wp2_with fail
  refine (D5.out _ (HW14.out.2.1)).mono ?_
  rintro e W15 ⟨wR, gR, rfl, hw60, hg0, hg8, b15⟩
  have HW15 := Go.Lib.hid (And.intro (Below.trans (HW14.out.1) ((b15).mono (Below.size (HW14.out.1)))) (And.intro (Sees.grow (HW14.out.2.1) b15) (And.intro (kept_call (HW14.out.2.2.1) b15) (kept_call (HW14.out.2.2.2) b15))))
  clear b15
  obtain ⟨rank, five, hrk, hrk0, hrk1, hrkf⟩ := rank_facts wR gR
  have wg : (Lit.int .i64 gR).wf = true := wf_small hg0 (by omega)
  have F1 := Go.Lib.hid (implRankD wR gR rank five hrk (by omega) wg)
  have F2 := Go.Lib.hid (specRankD wR gR rank five hrk (by omega) wg)
  have HRKF := Go.Lib.hid hrkf
  clear hrk hrkf D5
  go_wp2_with fail
  refine (F1.out _).mono ?_
  rintro e W16 ⟨rfl, b16⟩
  have HW16 := Go.Lib.hid (And.intro (Below.trans (HW15.out.1) ((b16).mono (Below.size (HW15.out.1)))) (And.intro (Sees.grow (HW15.out.2.1) b16) (And.intro (kept_call (HW15.out.2.2.1) b16) (kept_call (HW15.out.2.2.2) b16))))
  clear b16
  go_wp2_with fail
  refine (F2.out _).mono ?_
  rintro e W17 ⟨rfl, b17⟩
  have HW17 := Go.Lib.hid (And.intro (Below.trans (HW16.out.1) ((b17).mono (Below.size (HW16.out.1)))) (And.intro (Sees.grow (HW16.out.2.1) b17) (And.intro (kept_call (HW16.out.2.2.1) b17) (kept_call (HW16.out.2.2.2) b17))))
  clear b17
  clear F1 F2
  go_wp2_with fail
  refine (D6.out _ (HW17.out.2.1)).mono ?_
  rintro e W18 ⟨pP, rfl, hp0, hp8, b18⟩
  have HW18 := Go.Lib.hid (And.intro (Below.trans (HW17.out.1) ((b18).mono (Below.size (HW17.out.1)))) (And.intro (Sees.grow (HW17.out.2.1) b18) (And.intro (kept_call (HW17.out.2.2.1) b18) (kept_call (HW17.out.2.2.2) b18))))
  clear b18
  have HWd19 := Go.Lib.hid (And.intro HW18.out.1 (And.intro HW18.out.2.2.1 HW18.out.2.2.2))
  clear HW18
  obtain ⟨profile, six, hpf, hpl, hpff⟩ := prof_facts pP
  have wp : (Lit.int .i64 pP).wf = true := wf_small hp0 (by omega)
  have G1 := Go.Lib.hid (implProf pP profile six hpf wp)
  have G2 := Go.Lib.hid (specProf pP profile six hpf wp)
  have HPFF := Go.Lib.hid hpff
  clear hpf hpff D6
  go_wp2_with fail
  refine (G1.out _).mono ?_
  rintro e W20 ⟨v20, rfl, o20, b20⟩
  have HW20 := Go.Lib.hid (And.intro (Below.trans (HWd19.out.1) ((b20).mono (Below.size (HWd19.out.1)))) (And.intro (kept_call (HWd19.out.2.1) b20) (And.intro (kept_call (HWd19.out.2.2) b20) (own_lower (o20) (Below.size (HWd19.out.1))))))
  clear o20 b20
  obtain ⟨_, aP, cP, rfl, _, _⟩ := Sees.owns (HW20.out.2.2.2)
  go_wp2_with fail
  refine (G2.out _).mono ?_
  rintro e W21 ⟨v21, rfl, o21, b21⟩
  have HW21 := Go.Lib.hid (And.intro (Below.trans (HW20.out.1) ((b21).mono (Below.size (HW20.out.1)))) (And.intro (kept_call (HW20.out.2.1) b21) (And.intro (kept_call (HW20.out.2.2.1) b21) (And.intro (kept_call (HW20.out.2.2.2) b21) (own_lower (o21) (Below.size (HW20.out.1)))))))
  clear o21 b21
  go_wp2_with fail
  refine (rInts_same _ _ _ profile.length profile (Sees.owns (HW21.out.2.2.2.1)) (Sees.owns (HW21.out.2.2.2.2)) (by unfold maxLen; omega)).mono ?_
  rintro e W22 ⟨rfl, d22⟩
  have HW22 := Go.Lib.hid (And.intro (Below.trans (HW21.out.1) (((d22.below W21.heap.size)).mono (Below.size (HW21.out.1)))) (And.intro (kept_call (HW21.out.2.1) (d22.below W21.heap.size)) (And.intro (kept_call (HW21.out.2.2.1) (d22.below W21.heap.size)) (And.intro (kept_call (HW21.out.2.2.2.1) (d22.below W21.heap.size)) (kept_call (HW21.out.2.2.2.2) (d22.below W21.heap.size))))))
  clear d22
  have HWd23 := Go.Lib.hid (And.intro HW22.out.1 (And.intro HW22.out.2.1 (And.intro HW22.out.2.2.1 HW22.out.2.2.2.1)))
  clear HW22
  clear G1 G2
  as_aux_lemma =>
  go_upto_if 234 with (fail)
  go_cut [] from 42 to 358 (fun w' => Hid (Below W22.heap.size W22 w'))
  case first => as_aux_lemma =>
    clear HCF HATF HRKF HPFF
    cases one
    case false =>
      clear HLF
      go_wp2_with fail
      go_meet
      exact Go.Lib.hid ((Below.refl W22.heap.size W22))
    case true =>
      obtain ⟨hl1, hl7, hcan1, no, eight, hcan2, hne⟩ := HLF.out (by trivial)
      have I1 := Go.Lib.hid (implCan xs limit true true hcan1 (by omega) (wf_small (by omega) (by omega)))
      have I2 := Go.Lib.hid (implCan xs (limit - 1) no eight hcan2 (by omega) (wf_small (by omega) (by omega)))
      have HNE := Go.Lib.hid hne
      clear hcan1 hcan2 hne HLF
      go_wp2_with fail
      refine (I1.out _ _ _ (Sees.owns (HWd23.out.2.2.1))).mono ?_
      rintro e W24 ⟨rfl, b24⟩
      have HW24 := Go.Lib.hid (And.intro (Below.trans (HWd23.out.1) ((b24).mono (Below.size (HWd23.out.1)))) (And.intro (kept_call (HWd23.out.2.1) b24) (And.intro (kept_call (HWd23.out.2.2.1) b24) (kept_call (HWd23.out.2.2.2) b24))))
      have HR24 := Go.Lib.hid (Below.trans ((Below.refl W22.heap.size W22)) ((b24).mono (Below.size ((Below.refl W22.heap.size W22)))))
      clear b24
      go_wp2_with fail
      refine (I2.out _ _ _ (Sees.owns (HW24.out.2.2.1))).mono ?_
      rintro e W25 ⟨rfl, b25⟩
      have HW25 := Go.Lib.hid (And.intro (Below.trans (HW24.out.1) ((b25).mono (Below.size (HW24.out.1)))) (And.intro (kept_call (HW24.out.2.1) b25) (And.intro (kept_call (HW24.out.2.2.1) b25) (kept_call (HW24.out.2.2.2) b25))))
      have HR25 := Go.Lib.hid (Below.trans (HR24.out) ((b25).mono (Below.size (HR24.out))))
      clear b25
      clear I1 I2
      cases eight
      case false =>
        clear HNE
        go_wp2_with fail
        go_meet
        exact Go.Lib.hid (HR25.out)
      case true =>
        obtain rfl : no = false := by have := HNE.out; simpa using this
        clear HNE
        go_wp2_with fail
        go_meet
        exact Go.Lib.hid (HR25.out)
  case rest =>
    have bY26 := hcut.out
    obtain ⟨WY26, hWY26⟩ : ∃ W, wc = W := ⟨_, rfl⟩
    rw [hWY26] at bY26 ⊢
    have HWY26 := Go.Lib.hid (And.intro (Below.trans (HWd23.out.1) (bY26.mono (Below.size (HWd23.out.1)))) (And.intro (kept_call (HWd23.out.2.1) bY26) (kept_call (HWd23.out.2.2.2) bY26)))
    clear hWY26 bY26 hcut HWd23 HLF
    go_upto_if 258 with (fail)
    go_cut [] from 42 to 358 (fun w' => Hid (Below WY26.heap.size WY26 w'))
    case first => as_aux_lemma =>
      clear HCF HRKF HPFF
      cases four
      case false =>
        clear HATF
        go_wp2_with fail
        go_meet
        exact Go.Lib.hid ((Below.refl WY26.heap.size WY26))
      case true =>
        obtain ⟨hra, deep, hda, hdf⟩ := HATF.out (by trivial)
        have J1 := Go.Lib.hid (implRankD at_ fA kA true hra (by omega) wf')
        have J2 := Go.Lib.hid (implDepth at_ deep true hda (by omega))
        have hdf2 : ¬ fA < deep := by omega
        clear hra hda HATF
        go_wp2_with fail
        refine (J1.out _).mono ?_
        rintro e W27 ⟨rfl, b27⟩
        have HW27 := Go.Lib.hid (And.intro (Below.trans (HWY26.out.1) ((b27).mono (Below.size (HWY26.out.1)))) (And.intro (kept_call (HWY26.out.2.1) b27) (kept_call (HWY26.out.2.2) b27)))
        have HR27 := Go.Lib.hid (Below.trans ((Below.refl WY26.heap.size WY26)) ((b27).mono (Below.size ((Below.refl WY26.heap.size WY26)))))
        clear b27
        go_wp2_with fail
        refine (J2.out _).mono ?_
        rintro e W28 ⟨rfl, b28⟩
        have HW28 := Go.Lib.hid (And.intro (Below.trans (HW27.out.1) ((b28).mono (Below.size (HW27.out.1)))) (And.intro (kept_call (HW27.out.2.1) b28) (kept_call (HW27.out.2.2) b28)))
        have HR28 := Go.Lib.hid (Below.trans (HR27.out) ((b28).mono (Below.size (HR27.out))))
        clear b28
        clear J1 J2
        go_wp2_with fail
        go_meet
        exact Go.Lib.hid (HR28.out)
    case rest =>
      have bY29 := hcut.out
      obtain ⟨WY29, hWY29⟩ : ∃ W, wc = W := ⟨_, rfl⟩
      rw [hWY29] at bY29 ⊢
      have HWY29 := Go.Lib.hid (And.intro (Below.trans (HWY26.out.1) (bY29.mono (Below.size (HWY26.out.1)))) (And.intro (kept_call (HWY26.out.2.1) bY29) (kept_call (HWY26.out.2.2) bY29)))
      clear hWY29 bY29 hcut HWY26 HATF wf'
      as_aux_lemma =>
      go_upto_if 286 with (fail)
      go_cut [] from 42 to 358 (fun w' => Hid (Below WY29.heap.size WY29 w'))
      case first => as_aux_lemma =>
        clear HCF HPFF
        cases five
        case false =>
          clear HRKF
          go_wp2_with fail
          go_meet
          exact Go.Lib.hid ((Below.refl WY29.heap.size WY29))
        case true =>
          obtain ⟨hra, hw14⟩ := HRKF.out (by trivial)
          have K1 := Go.Lib.hid (implAtD ((wR.size : Int) / 2) gR rank wR true hra (wf_small (by omega) (by omega)) wg (wf_small hrk0 (by omega)))
          clear hra HRKF
          go_wp2_with fail
          refine (K1.out _).mono ?_
          rintro e W30 ⟨rfl, b30⟩
          have HW30 := Go.Lib.hid (And.intro (Below.trans (HWY29.out.1) ((b30).mono (Below.size (HWY29.out.1)))) (And.intro (kept_call (HWY29.out.2.1) b30) (kept_call (HWY29.out.2.2) b30)))
          have HR30 := Go.Lib.hid (Below.trans ((Below.refl WY29.heap.size WY29)) ((b30).mono (Below.size ((Below.refl WY29.heap.size WY29)))))
          clear b30
          clear K1
          go_wp2_with fail
          go_meet
          exact Go.Lib.hid (HR30.out)
      case rest =>
        have bY31 := hcut.out
        obtain ⟨WY31, hWY31⟩ : ∃ W, wc = W := ⟨_, rfl⟩
        rw [hWY31] at bY31 ⊢
        have HWY31 := Go.Lib.hid (And.intro (Below.trans (HWY29.out.1) (bY31.mono (Below.size (HWY29.out.1)))) (And.intro (kept_call (HWY29.out.2.1) bY31) (kept_call (HWY29.out.2.2) bY31)))
        clear hWY31 bY31 hcut HWY29 HRKF wg hrk0 hrk1
        go_upto_if 303 with (fail)
        go_cut [] from 42 to 358 (fun w' => Hid (Below WY31.heap.size WY31 w'))
        case first => as_aux_lemma =>
          clear HCF
          cases six
          case false =>
            clear HPFF
            go_wp2_with fail
            go_meet
            exact Go.Lib.hid ((Below.refl WY31.heap.size WY31))
          case true =>
            obtain ⟨m, rfl, hpm, hone, hp1, hp2, hpb⟩ := HPFF.out (by trivial)
            obtain ⟨mm, hmm⟩ : ∃ k, m + 1 = k := ⟨_, rfl⟩
            rw [hmm] at hpm hone wp ⊢
            have HPB := Go.Lib.hid hpb
            have HPM := Go.Lib.hid (And.intro hpm hmm)
            have HPX := Go.Lib.hid (And.intro hp1 hp2)
            have L1 := Go.Lib.hid (implOne (mm : Int) profile.sum true hone wp)
            have hm6 : mm ≤ 7 := by omega
            have HSUM := Go.Lib.hid (sum_take hpb profile.length (Nat.le_refl _))
            obtain ⟨gP, cP2, hvP⟩ : ∃ g c, (Value.slice aP profile.length cP) = .slice (some ⟨g, 0, none⟩) profile.length c := own_pos (HWY31.out.2.2) (by omega)
            cases hvP
            clear hone hp1 hp2 hpb HPFF hpl hpm hmm
            go_wp2_with fail
            go_loopw [52, 53] (fun sv iv wr => ∃ (k : Nat), k ≤ mm ∧ sv = .int .i64 ((profile.take k).sum) ∧ iv = .int .i64 k ∧ Hid (Below WY31.heap.size WY31 wr)) (fun _ i _ => mm - (intOf i).toNat)
            case atStart => exact ⟨0, Nat.zero_le _, by simp, rfl, Go.Lib.hid (Below.refl _ _)⟩
            case round =>
              obtain ⟨k, hkm, rfl, rfl, HB⟩ := hrel
              have hbd := sum_take HPB.out k (by have := HPM.out; omega)
              by_cases hlt : k < mm
              · have hki : (k : Int) < (profile.length : Int) := by have := HPM.out; omega
                have hkn : k < profile.length := by have := HPM.out; omega
                have hck := (kept_call (HWY31.out.2.2) HB.out).cellAt k (by have := HPM.out; omega)
                have hsn := sum_next (l := profile) (k := k) (by have := HPM.out; omega)
                have hzb := HPB.out (profile.getD k 0) (by have hk2 : k < profile.length := (by have := HPM.out; omega); rw [List.getD_eq_getElem?_getD, List.getElem?_eq_getElem hk2, Option.getD_some]; exact List.getElem_mem hk2)
                have hck2 : (vals profile)[k]? = some (.int .i64 (profile.getD k 0)) := by simp [show k < profile.length by have := HPM.out; omega]
                rw [hck2] at hck
                obtain ⟨z, hz⟩ : ∃ z, profile.getD k 0 = z := ⟨_, rfl⟩
                obtain ⟨sk, hsk⟩ : ∃ s, (profile.take k).sum = s := ⟨_, rfl⟩
                rw [hz] at hck hsn hzb
                rw [hsk] at hsn hbd ⊢
                have HSN := Go.Lib.hid hsn
                have kw : IntKind.i64.wrap (sk + z) = sk + z := IntWalk.i64_in _ (by omega)
                clear hbd hzb
                clear hz hsk hck2 hsn
                go_wp2_with fail
                go_roundw
                case rel => exact ⟨k + 1, by omega, by rw [HSN.out], by go_num, HB⟩
                case measure => simp [intOf]; omega
              · obtain rfl : mm = k := by omega
                have hki : ¬ (mm : Int) < (profile.length : Int) := by have := HPM.out; omega
                have hst : (profile.take mm) = profile := List.take_of_length_le (by have := HPM.out; omega)
                rw [hst] at hbd ⊢
                obtain ⟨tot, htot⟩ : ∃ s, profile.sum = s := ⟨_, rfl⟩
                rw [htot] at L1 hbd ⊢
                clear hst htot
                have HWp32 := Go.Lib.hid (And.intro (Below.trans (HWY31.out.1) (HB.out.mono (Below.size (HWY31.out.1)))) (And.intro (kept_call (HWY31.out.2.1) HB.out) (kept_call (HWY31.out.2.2) HB.out)))
                have HRp32 := Go.Lib.hid (Below.trans ((Below.refl WY31.heap.size WY31)) (HB.out.mono (Below.size ((Below.refl WY31.heap.size WY31)))))
                go_wp2_with fail
                refine (L1.out _).mono ?_
                rintro e W33 ⟨rfl, b33⟩
                have HW33 := Go.Lib.hid (And.intro (Below.trans (HWp32.out.1) ((b33).mono (Below.size (HWp32.out.1)))) (And.intro (kept_call (HWp32.out.2.1) b33) (kept_call (HWp32.out.2.2) b33)))
                have HR33 := Go.Lib.hid (Below.trans (HRp32.out) ((b33).mono (Below.size (HRp32.out))))
                clear b33
                have ck0 := World.ownsRow.cellAt (HW33.out.2.2) 0 (by have := HPM.out; omega)
                have ckm := World.ownsRow.cellAt (HW33.out.2.2) m (by have := HPM.out; omega)
                have e0 : (vals profile)[0]? = some (.int .i64 1) := by rw [← HPX.out.1]; simp [show 0 < profile.length by have := HPM.out; omega]
                have em : (vals profile)[m]? = some (.int .i64 1) := by rw [← HPX.out.2]; simp [show m < profile.length by have := HPM.out; omega]
                rw [e0] at ck0
                rw [em] at ckm
                have hl0 : (0 : Int) < (profile.length : Int) := by have := HPM.out; omega
                have hl0n : 0 < profile.length := by have := HPM.out; omega
                have hlm : (m : Int) < (profile.length : Int) := by have := HPM.out; omega
                have hlmn : m < profile.length := by have := HPM.out; omega
                have qm : IntKind.i64.wrap ((mm : Int) - 1) = (m : Int) := by have := HPM.out; rw [IntWalk.i64_in _ (by omega)]; omega
                clear e0 em L1
                go_wp2_with fail
                have hmm := HPM.out.2
                clear qm hlmn hlm
                subst hmm
                go_meet
                exact Go.Lib.hid (HR33.out)
        case rest =>
          have bY34 := hcut.out
          obtain ⟨WY34, hWY34⟩ : ∃ W, wc = W := ⟨_, rfl⟩
          rw [hWY34] at bY34 ⊢
          have HWY34 := Go.Lib.hid (And.intro (Below.trans (HWY31.out.1) (bY34.mono (Below.size (HWY31.out.1)))) (kept_call (HWY31.out.2.1) bY34))
          clear hWY34 bY34 hcut HWY31 HPFF
          as_aux_lemma =>
          cases ok
          case false =>
            go_wp2_with fail
            go_ret
            exact ⟨rfl, HWY34.out.1⟩
          case true =>
            obtain ⟨M, hmw, hcn, hM7⟩ := HCF.out (by trivial)
            have M1 := Go.Lib.hid (implMostW zs d (M : Int) true hmw (by omega) wd)
            have HCN := Go.Lib.hid hcn
            clear hmw hcn HCF
            go_wp2_with fail
            refine (M1.out _ _ _ (Sees.owns (HWY34.out.2))).mono ?_
            rintro e W35 ⟨rfl, b35⟩
            have HW35 := Go.Lib.hid (And.intro (Below.trans (HWY34.out.1) ((b35).mono (Below.size (HWY34.out.1)))) (kept_call (HWY34.out.2) b35))
            clear b35
            clear M1
            by_cases hM : M = zs.length
            · obtain rfl : can = true := by rw [HCN.out]; exact decide_eq_true hM
              have hM2 : ((M : Int) == (zs.length : Int)) = true := by rw [beq_iff_eq]; omega
              clear HCN hM
              go_wp2_with fail
              go_ret
              exact ⟨rfl, HW35.out.1⟩
            · obtain rfl : can = false := by rw [HCN.out]; exact decide_eq_false hM
              have hM2 : ((M : Int) == (zs.length : Int)) = false := by rw [beq_eq_false_iff_ne]; omega
              clear HCN hM
              go_wp2_with fail
              go_ret
              exact ⟨rfl, HW35.out.1⟩

/-! ### From the walk to the row -/
set_option maxRecDepth 100000 in
theorem lifted (os : Os) (started : os.Started) (H : Type) (enc : TypeId × Value → H) :
    ReturnsInHanded {} Try.checked os 3 .any (Rows.fnLimitsSpec.pre6 enc Try.prog Try.f3 Rows.fnLimitsRow.domain false) (Rows.fnLimitsSpec.post enc Try.prog Try.f3 false true false false) := by
  refine returnsInHanded_of_change (C := Try.checked) own started (by kernel_rfl) Try.func3
    (ChangeSpec.witness6 (enc := enc) (C := Try.checked) false ⟨#[], #[.slice none 0 0], []⟩ 8 (by kernel_rfl) (by kernel_rfl) (by kernel_rfl) (by kernel_rfl)) ?_
  intro W base args ds gs before hval0 hW hcnd _
  have hval : ∀ (j : Nat) t v, Try.f3.params[j]? = some t → args[j]? = some v → Value.okWide Try.prog W .any base t v := hval0
  have hW' := hW
  obtain ⟨p, q, hA0, hV, rfl, hfz, hnd⟩ := hW
  have hA : DataW.TrodAll enc Try.prog W 0 (fun _ => true) true Try.f3.params.toList args.toList ds p := hA0
  rw [Try.params3] at hA hval
  obtain ⟨u0, vs0, d0, ds0, p0, q0, hargs, rfl, rfl, h0, r0⟩ := trodAll_cons hA
  obtain ⟨rfl, rfl, rfl⟩ := trodAll_nil r0
  obtain rfl : args = #[u0] := by cases args; simp_all
  obtain ⟨rfl, rfl⟩ := trodVars_none hV
  have lt0 : ∀ x ∈ p0, x.block < W.heap.size := by obtain ⟨m, hm⟩ := h0; exact DataW.trod_lt m _ _ _ hm
  obtain ⟨n0, a0, s0, t0, w0⟩ := sees_ints Try.underlying22 Try.underlying5 (by kernel_rfl) (hval 0 22 u0 rfl rfl) h0
  clear hA0 hval0
  refine (walk u0 n0 a0 W s0 t0 w0).mono fun e W' ⟨he, bel⟩ => ?_
  subst he
  exact ⟨_, rfl, _, _, _, [], _, [], hW', trodAll_mk1 (shut_bool Try.underlying4 _), (trodAll_cons_mk (Below.trod laidOut (by kernel_rfl) (of_decide_eq_true (by kernel_rfl)) h0 bel lt0) trodAll_mk0), rfl, bel.frame _, fun h => by cases h⟩

theorem over : Rows.fnLimitsRow.holds Try.pinned (OpenSpec.ofChange Rows.fnLimitsSpec) :=
  OpenClaim.holds_of_wide 3 Try.f3 rfl rfl rfl rfl rfl rfl rfl ⟨rfl, rfl, rfl, rfl, rfl⟩ rfl rfl rfl rfl rfl (by kernel_rfl) Try.func3
    (show joinedFacts Try.prog 3 Try.f3 Rows.fnLimitsSpec Rows.fnLimitsRow = true by unfold joinedFacts; rw [SeatC.may, SeatC.lif, SeatC.mke]; kernel_rfl)
    (of_decide_eq_true (by kernel_rfl)) (by unfold Func.isWrapper; first | (rw [if_pos (by decide +kernel)]; kernel_rfl) | (rw [if_neg (by decide +kernel)]; exact ⟨rfl, rfl⟩))
    (fun os started H enc _ => lifted os started H enc)

/-- The statement. -/
theorem proved : Rows.FnLimitsSaid :=
  over
#print axioms proved
end Go.Proofs.Ytnhhnffolmgceaa.fnLimits
