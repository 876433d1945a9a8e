/-
  The law on words: a word to what comes out by a word is this word, mirrored words are as deep, outputs are as many as words, and the program answers as its model.
-/
import Derived.Test.YtomheoaophomlabRows
import Derived.Test.YtomheoaophomlabOpen
import Derived.WalkKit
import Derived.ProofKit
import Derived.OpenShut
import Derived.ShutString
import Derived.ChangeOld
import Derived.Below
import Derived.Test.YtomheoaophomlabExact
import Derived.Test.YtomheoaophomlabOrd
import Derived.Test.YtomheoaophomlabRunWord
import Derived.Test.YtomheoaophomlabWordTo
import Derived.Test.YtomheoaophomlabMirror
import Derived.Test.YtomheoaophomlabWord
import Derived.Test.YtomheoaophomlabWordsOf
import Derived.Test.YtomheoaophomlabDrawWord
import Derived.Test.YtomheoaophomlabWordLawFacts
namespace Go.Proofs.Ytomheoaophomlab.fnStackWords
open Go.ChangeShapes Go.WideShapes Go.ChangeAt Go.RowKit SeesC OpenC
open Go.ChangeMaps (open_string shut_string)
open IntsC ExactC ListsC OrdMath WordMath OrderC WordC RunC RunWordC ToC WordToC MirrorC WordsC WordsOfC DrawOrd2C DrawWordC OutsMath WordLawFacts
set_option linter.unusedVariables false

theorem own : ownKnob Try.prog.godebug = none := by kernel_rfl
theorem laidOut : laidOutB Try.prog = true := by kernel_rfl

/-! ### The walk -/
set_option maxRecDepth 100000 in
set_option maxHeartbeats 16000000 in
theorem walk (v0 : Value) (n0 : Nat) (a0 : List Int) (w : World) (s0 : Sees w v0 n0 (a0.map (Value.int .u8))) (t0 : n0 ≤ maxLen) (w0 : ∀ z ∈ a0, (Lit.int .u8 z).wf = true) :
    Calls Try.prog 4 #[v0] w fun e w' => e = .returned (.bool true) ∧ Below w.heap.size w w' := by
  have hz : ∀ z ∈ a0, 0 ≤ z ∧ z ≤ 255 := byte_bd w0
  have hs0 := s0
  obtain ⟨_, ar, cap, rfl, _, _⟩ := hs0
  by_cases hbig : (65536 : Int) < (n0 : Int)
  · have cB := Go.Lib.hid (rBig_of w ar n0 cap true (decide_eq_true hbig))
    clear hz
    go_enter Try.func4, Try.ntmps4
    go_wp2_with fail
    refine (cB.out).mono ?_
    rintro e W1 ⟨rfl, rfl⟩
    go_wp2_with fail
    go_ret
    exact ⟨rfl, Below.refl _ _⟩
  have hn : n0 ≤ 65536 := by omega
  have cB := Go.Lib.hid (rBig_of w ar n0 cap false (decide_eq_false hbig))
  have D1 := Go.Lib.hid (fun W h => drawRun_any (.slice ar n0 cap) n0 a0 W h hz hn)
  have D2 := Go.Lib.hid (fun W h => drawTo_any (.slice ar n0 cap) n0 a0 W h hz hn)
  have D3 := Go.Lib.hid (fun W h => drawMirror_any (.slice ar n0 cap) n0 a0 W h hz hn)
  have D4 := Go.Lib.hid (fun W h => drawWords_any (.slice ar n0 cap) n0 a0 W h hz hn)
  have D5 := Go.Lib.hid (fun W h => drawOuts_any (.slice ar n0 cap) n0 a0 W h hz hn)
  have HW0 := Go.Lib.hid (And.intro (Below.refl w.heap.size w) s0)
  clear hz s0 w0 t0
  go_enter Try.func4, Try.ntmps4
  go_wp2_with fail
  refine (cB.out).mono ?_
  rintro e Wz ⟨rfl, rfl⟩
  go_wp2_with fail
  refine (D1.out _ (HW0.out.2)).mono ?_
  rintro e W1 ⟨vO, zs, wo, rfl, hz8, hwo, o1, b1⟩
  have HW1 := Go.Lib.hid (And.intro (Below.trans (HW0.out.1) ((b1).mono (Below.size (HW0.out.1)))) (And.intro (Sees.grow (HW0.out.2) b1) (own_lower (o1) (Below.size (HW0.out.1)))))
  clear o1 b1
  obtain ⟨out, ok, h1, lo, hok⟩ := facts_run zs wo hz8
  have R1 := Go.Lib.hid (implRun zs wo out ok h1 (by omega) (by omega))
  have R2 := Go.Lib.hid (specRun zs wo out ok h1 (by omega) (by omega))
  have HOK := Go.Lib.hid hok
  clear h1 hok D1 cB
  go_wp2_with fail
  refine (R1.out _ _ _ (Sees.owns (HW1.out.2.2))).mono ?_
  rintro e W2 ⟨v2, rfl, o2, b2⟩
  have HW2 := Go.Lib.hid (And.intro (Below.trans (HW1.out.1) ((b2).mono (Below.size (HW1.out.1)))) (And.intro (Sees.grow (HW1.out.2.1) b2) (And.intro (kept_call (HW1.out.2.2) b2) (own_lower (o2) (Below.size (HW1.out.1))))))
  clear o2 b2
  go_wp2_with fail
  refine (R2.out _ _ _ (Sees.owns (HW2.out.2.2.1))).mono ?_
  rintro e W3 ⟨v3, rfl, o3, b3⟩
  have HW3 := Go.Lib.hid (And.intro (Below.trans (HW2.out.1) ((b3).mono (Below.size (HW2.out.1)))) (And.intro (Sees.grow (HW2.out.2.1) b3) (And.intro (kept_call (HW2.out.2.2.1) b3) (And.intro (kept_call (HW2.out.2.2.2) b3) (own_lower (o3) (Below.size (HW2.out.1)))))))
  clear o3 b3
  go_wp2_with fail
  refine (rInts_same _ _ _ out.length out (Sees.owns (HW3.out.2.2.2.1)) (Sees.owns (HW3.out.2.2.2.2)) (by unfold maxLen; omega)).mono ?_
  rintro e W4 ⟨rfl, d4⟩
  have HW4 := Go.Lib.hid (And.intro (Below.trans (HW3.out.1) (((d4.below W3.heap.size)).mono (Below.size (HW3.out.1)))) (And.intro (Sees.grow (HW3.out.2.1) (d4.below W3.heap.size)) (And.intro (kept_call (HW3.out.2.2.1) (d4.below W3.heap.size)) (And.intro (kept_call (HW3.out.2.2.2.1) (d4.below W3.heap.size)) (kept_call (HW3.out.2.2.2.2) (d4.below W3.heap.size))))))
  clear d4
  have HWd5 := Go.Lib.hid (And.intro HW4.out.1 (And.intro HW4.out.2.1 (And.intro HW4.out.2.2.1 HW4.out.2.2.2.1)))
  clear HW4
  clear R1 R2
  go_wp2_with fail
  refine (D2.out _ (HWd5.out.2.1)).mono ?_
  rintro e W6 ⟨vA, vB, xa, xb, rfl, la, lb, oa6, ob6, b6⟩
  have HW6 := Go.Lib.hid (And.intro (Below.trans (HWd5.out.1) ((b6).mono (Below.size (HWd5.out.1)))) (And.intro (Sees.grow (HWd5.out.2.1) b6) (And.intro (kept_call (HWd5.out.2.2.1) b6) (And.intro (kept_call (HWd5.out.2.2.2) b6) (And.intro (own_lower (oa6) (Below.size (HWd5.out.1))) (own_lower (ob6) (Below.size (HWd5.out.1))))))))
  clear oa6 ob6 b6
  obtain ⟨to, one, h2, lt, hone⟩ := facts_to xa xb la
  have T1 := Go.Lib.hid (implTo xa xb to one h2 (by omega) (by omega))
  have T2 := Go.Lib.hid (specTo xa xb to one h2 (by omega) (by omega))
  have HONE := Go.Lib.hid hone
  clear h2 hone D2
  go_wp2_with fail
  refine (T1.out _ _ _ (Sees.owns (HW6.out.2.2.2.2.1)) _ _ (Sees.owns (HW6.out.2.2.2.2.2))).mono ?_
  rintro e W7 ⟨rfl, b7⟩
  have HW7 := Go.Lib.hid (And.intro (Below.trans (HW6.out.1) ((b7).mono (Below.size (HW6.out.1)))) (And.intro (Sees.grow (HW6.out.2.1) b7) (And.intro (kept_call (HW6.out.2.2.1) b7) (And.intro (kept_call (HW6.out.2.2.2.1) b7) (And.intro (kept_call (HW6.out.2.2.2.2.1) b7) (kept_call (HW6.out.2.2.2.2.2) b7))))))
  clear b7
  go_wp2_with fail
  refine (T2.out _ _ _ (Sees.owns (HW7.out.2.2.2.2.1)) _ _ (Sees.owns (HW7.out.2.2.2.2.2))).mono ?_
  rintro e W8 ⟨rfl, b8⟩
  have HW8 := Go.Lib.hid (And.intro (Below.trans (HW7.out.1) ((b8).mono (Below.size (HW7.out.1)))) (And.intro (Sees.grow (HW7.out.2.1) b8) (And.intro (kept_call (HW7.out.2.2.1) b8) (And.intro (kept_call (HW7.out.2.2.2.1) b8) (And.intro (kept_call (HW7.out.2.2.2.2.1) b8) (kept_call (HW7.out.2.2.2.2.2) b8))))))
  clear b8
  clear T1 T2
  go_wp2_with fail
  refine (D3.out _ (HW8.out.2.1)).mono ?_
  rintro e W9 ⟨x, hx, rfl, b9⟩
  have HW9 := Go.Lib.hid (And.intro (Below.trans (HW8.out.1) ((b9).mono (Below.size (HW8.out.1)))) (And.intro (Sees.grow (HW8.out.2.1) b9) (And.intro (kept_call (HW8.out.2.2.1) b9) (And.intro (kept_call (HW8.out.2.2.2.1) b9) (And.intro (kept_call (HW8.out.2.2.2.2.1) b9) (kept_call (HW8.out.2.2.2.2.2) b9))))))
  clear b9
  obtain ⟨mr, two, dp, h3, h4, h5, lm, htwo⟩ := facts_mir x hx
  have M1 := Go.Lib.hid (implMirror x mr two h3 (by omega))
  have M2 := Go.Lib.hid (specMirror x mr two h3 (by omega))
  have M3 := Go.Lib.hid (implIsWord x two h4 (by omega))
  have E1 := Go.Lib.hid (implDepth x dp two h5 (by omega))
  have E2 := Go.Lib.hid (specDepth x dp two h5 (by omega))
  have HTWO := Go.Lib.hid htwo
  clear h3 h4 h5 htwo D3
  go_wp2_with fail
  refine (M1.out _).mono ?_
  rintro e W10 ⟨rfl, b10⟩
  have HW10 := Go.Lib.hid (And.intro (Below.trans (HW9.out.1) ((b10).mono (Below.size (HW9.out.1)))) (And.intro (Sees.grow (HW9.out.2.1) b10) (And.intro (kept_call (HW9.out.2.2.1) b10) (And.intro (kept_call (HW9.out.2.2.2.1) b10) (And.intro (kept_call (HW9.out.2.2.2.2.1) b10) (kept_call (HW9.out.2.2.2.2.2) b10))))))
  clear b10
  go_wp2_with fail
  refine (M2.out _).mono ?_
  rintro e W11 ⟨rfl, b11⟩
  have HW11 := Go.Lib.hid (And.intro (Below.trans (HW10.out.1) ((b11).mono (Below.size (HW10.out.1)))) (And.intro (Sees.grow (HW10.out.2.1) b11) (And.intro (kept_call (HW10.out.2.2.1) b11) (And.intro (kept_call (HW10.out.2.2.2.1) b11) (And.intro (kept_call (HW10.out.2.2.2.2.1) b11) (kept_call (HW10.out.2.2.2.2.2) b11))))))
  clear b11
  go_wp2_with fail
  refine (M3.out _).mono ?_
  rintro e W12 ⟨rfl, b12⟩
  have HW12 := Go.Lib.hid (And.intro (Below.trans (HW11.out.1) ((b12).mono (Below.size (HW11.out.1)))) (And.intro (Sees.grow (HW11.out.2.1) b12) (And.intro (kept_call (HW11.out.2.2.1) b12) (And.intro (kept_call (HW11.out.2.2.2.1) b12) (And.intro (kept_call (HW11.out.2.2.2.2.1) b12) (kept_call (HW11.out.2.2.2.2.2) b12))))))
  clear b12
  go_wp2_with fail
  refine (E1.out _).mono ?_
  rintro e W13 ⟨rfl, b13⟩
  have HW13 := Go.Lib.hid (And.intro (Below.trans (HW12.out.1) ((b13).mono (Below.size (HW12.out.1)))) (And.intro (Sees.grow (HW12.out.2.1) b13) (And.intro (kept_call (HW12.out.2.2.1) b13) (And.intro (kept_call (HW12.out.2.2.2.1) b13) (And.intro (kept_call (HW12.out.2.2.2.2.1) b13) (kept_call (HW12.out.2.2.2.2.2) b13))))))
  clear b13
  go_wp2_with fail
  refine (E2.out _).mono ?_
  rintro e W14 ⟨rfl, b14⟩
  have HW14 := Go.Lib.hid (And.intro (Below.trans (HW13.out.1) ((b14).mono (Below.size (HW13.out.1)))) (And.intro (Sees.grow (HW13.out.2.1) b14) (And.intro (kept_call (HW13.out.2.2.1) b14) (And.intro (kept_call (HW13.out.2.2.2.1) b14) (And.intro (kept_call (HW13.out.2.2.2.2.1) b14) (kept_call (HW13.out.2.2.2.2.2) b14))))))
  clear b14
  clear M1 M2 M3 E1 E2
  go_wp2_with fail
  refine (D4.out _ (HW14.out.2.1)).mono ?_
  rintro e W15 ⟨nw, rfl, hn1, hn2, b15⟩
  have HW15 := Go.Lib.hid (And.intro (Below.trans (HW14.out.1) ((b15).mono (Below.size (HW14.out.1)))) (And.intro (Sees.grow (HW14.out.2.1) b15) (And.intro (kept_call (HW14.out.2.2.1) b15) (And.intro (kept_call (HW14.out.2.2.2.1) b15) (And.intro (kept_call (HW14.out.2.2.2.2.1) b15) (kept_call (HW14.out.2.2.2.2.2) b15))))))
  clear b15
  obtain ⟨ws, four, h6, lw⟩ := facts_words nw
  have hwf : (Lit.int .i64 nw).wf = true := by
    have e1 : IntKind.i64.min = -9223372036854775808 := rfl
    have e2 : IntKind.i64.max = 9223372036854775807 := rfl
    simp [Lit.wf, e1, e2]; omega
  have N1 := Go.Lib.hid (implWords nw ws four h6 hwf)
  have N2 := Go.Lib.hid (specWords nw ws four h6 hwf)
  clear h6 hwf D4
  go_wp2_with fail
  refine (N1.out _).mono ?_
  rintro e W16 ⟨v16, rfl, o16, b16⟩
  have HW16 := Go.Lib.hid (And.intro (Below.trans (HW15.out.1) ((b16).mono (Below.size (HW15.out.1)))) (And.intro (Sees.grow (HW15.out.2.1) b16) (And.intro (kept_call (HW15.out.2.2.1) b16) (And.intro (kept_call (HW15.out.2.2.2.1) b16) (And.intro (kept_call (HW15.out.2.2.2.2.1) b16) (And.intro (kept_call (HW15.out.2.2.2.2.2) b16) (own_lower (o16) (Below.size (HW15.out.1)))))))))
  clear o16 b16
  go_wp2_with fail
  refine (N2.out _).mono ?_
  rintro e W17 ⟨v17, rfl, o17, b17⟩
  have HW17 := Go.Lib.hid (And.intro (Below.trans (HW16.out.1) ((b17).mono (Below.size (HW16.out.1)))) (And.intro (Sees.grow (HW16.out.2.1) b17) (And.intro (kept_call (HW16.out.2.2.1) b17) (And.intro (kept_call (HW16.out.2.2.2.1) b17) (And.intro (kept_call (HW16.out.2.2.2.2.1) b17) (And.intro (kept_call (HW16.out.2.2.2.2.2.1) b17) (And.intro (kept_call (HW16.out.2.2.2.2.2.2) b17) (own_lower (o17) (Below.size (HW16.out.1))))))))))
  clear o17 b17
  go_wp2_with fail
  refine (rTexts_same _ _ _ ws.length ws (Sees.owns (HW17.out.2.2.2.2.2.2.1)) (Sees.owns (HW17.out.2.2.2.2.2.2.2)) (by unfold maxLen; omega)).mono ?_
  rintro e W18 ⟨rfl, d18⟩
  have HW18 := Go.Lib.hid (And.intro (Below.trans (HW17.out.1) (((d18.below W17.heap.size)).mono (Below.size (HW17.out.1)))) (And.intro (Sees.grow (HW17.out.2.1) (d18.below W17.heap.size)) (And.intro (kept_call (HW17.out.2.2.1) (d18.below W17.heap.size)) (And.intro (kept_call (HW17.out.2.2.2.1) (d18.below W17.heap.size)) (And.intro (kept_call (HW17.out.2.2.2.2.1) (d18.below W17.heap.size)) (And.intro (kept_call (HW17.out.2.2.2.2.2.1) (d18.below W17.heap.size)) (And.intro (kept_call (HW17.out.2.2.2.2.2.2.1) (d18.below W17.heap.size)) (kept_call (HW17.out.2.2.2.2.2.2.2) (d18.below W17.heap.size)))))))))
  clear d18
  have HWd19 := Go.Lib.hid (And.intro HW18.out.1 (And.intro HW18.out.2.1 (And.intro HW18.out.2.2.1 (And.intro HW18.out.2.2.2.1 (And.intro HW18.out.2.2.2.2.1 HW18.out.2.2.2.2.2.1)))))
  clear HW18
  clear N1 N2
  go_wp2_with fail
  refine (D5.out _ (HWd19.out.2.1)).mono ?_
  rintro e W20 ⟨vY, ys, rfl, hy8, o20, b20⟩
  have HW20 := Go.Lib.hid (And.intro (Below.trans (HWd19.out.1) ((b20).mono (Below.size (HWd19.out.1)))) (And.intro (Sees.grow (HWd19.out.2.1) b20) (And.intro (kept_call (HWd19.out.2.2.1) b20) (And.intro (kept_call (HWd19.out.2.2.2.1) b20) (And.intro (kept_call (HWd19.out.2.2.2.2.1) b20) (And.intro (kept_call (HWd19.out.2.2.2.2.2) b20) (own_lower (o20) (Below.size (HWd19.out.1)))))))))
  clear o20 b20
  have HWd21 := Go.Lib.hid (And.intro HW20.out.1 (And.intro HW20.out.2.2.1 (And.intro HW20.out.2.2.2.1 (And.intro HW20.out.2.2.2.2.1 (And.intro HW20.out.2.2.2.2.2.1 HW20.out.2.2.2.2.2.2)))))
  clear HW20
  obtain ⟨_, ay, cy, rfl, _, _⟩ := Sees.owns (HWd21.out.2.2.2.2.2)
  obtain ⟨five, hfive⟩ : ∃ five, isOrd ys = five := ⟨_, rfl⟩
  have G1 := Go.Lib.hid (implOuts2 ys five hfive (by omega))
  have G2 := Go.Lib.hid (specOuts2 ys five hfive (by omega))
  have HF := Go.Lib.hid hfive
  clear hfive D5
  go_wp2_with fail
  refine (G1.out _ _ _ (Sees.owns (HWd21.out.2.2.2.2.2))).mono ?_
  rintro e W22 ⟨ga, gc, R, rfl, hR, o22, b22⟩
  have HW22 := Go.Lib.hid (And.intro (Below.trans (HWd21.out.1) ((b22).mono (Below.size (HWd21.out.1)))) (And.intro (kept_call (HWd21.out.2.1) b22) (And.intro (kept_call (HWd21.out.2.2.1) b22) (And.intro (kept_call (HWd21.out.2.2.2.1) b22) (And.intro (kept_call (HWd21.out.2.2.2.2.1) b22) (And.intro (kept_call (HWd21.out.2.2.2.2.2) b22) (Lists.lower (o22) (Below.size (HWd21.out.1)))))))))
  clear o22 b22
  go_wp2_with fail
  refine (G2.out _ _ _ (Sees.owns (HW22.out.2.2.2.2.2.1))).mono ?_
  rintro e W23 ⟨ga2, gc2, R2, rfl, hR2, o23, b23⟩
  have HW23 := Go.Lib.hid (And.intro (Below.trans (HW22.out.1) ((b23).mono (Below.size (HW22.out.1)))) (And.intro (kept_call (HW22.out.2.1) b23) (And.intro (kept_call (HW22.out.2.2.1) b23) (And.intro (kept_call (HW22.out.2.2.2.1) b23) (And.intro (kept_call (HW22.out.2.2.2.2.1) b23) (And.intro (kept_call (HW22.out.2.2.2.2.2.1) b23) (And.intro (Lists.kept (HW22.out.2.2.2.2.2.2) b23) (Lists.lower (o23) (Below.size (HW22.out.1))))))))))
  clear o23 b23
  obtain rfl : R = R2 := outs_unique hR hR2
  have lR := outs_len hR
  have HR := Go.Lib.hid hR
  clear hR hR2 G1 G2
  go_wp2_with fail
  refine (rLists_same _ _ _ ys.length R (Lists.looks (HW23.out.2.2.2.2.2.2.1)) (Lists.looks (HW23.out.2.2.2.2.2.2.2)) (by omega) (by omega)).mono ?_
  rintro e W24 ⟨rfl, d24⟩
  have HW24 := Go.Lib.hid (And.intro (Below.trans (HW23.out.1) (((d24.below W23.heap.size)).mono (Below.size (HW23.out.1)))) (And.intro (kept_call (HW23.out.2.1) (d24.below W23.heap.size)) (And.intro (kept_call (HW23.out.2.2.1) (d24.below W23.heap.size)) (And.intro (kept_call (HW23.out.2.2.2.1) (d24.below W23.heap.size)) (And.intro (kept_call (HW23.out.2.2.2.2.1) (d24.below W23.heap.size)) (And.intro (kept_call (HW23.out.2.2.2.2.2.1) (d24.below W23.heap.size)) (And.intro (Lists.kept (HW23.out.2.2.2.2.2.2.1) (d24.below W23.heap.size)) (Lists.kept (HW23.out.2.2.2.2.2.2.2) (d24.below W23.heap.size)))))))))
  clear d24
  have HWd25 := Go.Lib.hid (And.intro HW24.out.1 (And.intro HW24.out.2.1 (And.intro HW24.out.2.2.1 (And.intro HW24.out.2.2.2.1 (And.intro HW24.out.2.2.2.2.1 HW24.out.2.2.2.2.2.1)))))
  clear HW24
  cases one
  case false =>
    have HWd26 := Go.Lib.hid (And.intro HWd25.out.1 (And.intro HWd25.out.2.1 (And.intro HWd25.out.2.2.1 HWd25.out.2.2.2.2.2)))
    clear HWd25
    cases two
    case false =>
      cases five
      case false =>
        cases ok
        case false =>
          go_wp2_with fail
          go_ret
          exact ⟨rfl, HWd26.out.1⟩
        case true =>
          have Q5 := Go.Lib.hid (implTo zs out wo true (HOK.out rfl) (by omega) (by omega))
          go_wp2_with fail
          refine (Q5.out _ _ _ (Sees.owns (HWd26.out.2.1)) _ _ (Sees.owns (HWd26.out.2.2.1))).mono ?_
          rintro e W27 ⟨rfl, b27⟩
          have HW27 := Go.Lib.hid (And.intro (Below.trans (HWd26.out.1) ((b27).mono (Below.size (HWd26.out.1)))) (And.intro (kept_call (HWd26.out.2.1) b27) (And.intro (kept_call (HWd26.out.2.2.1) b27) (kept_call (HWd26.out.2.2.2) b27))))
          clear b27
          go_wp2_with fail
          go_ret
          exact ⟨rfl, HW27.out.1⟩
      case true =>
        obtain ⟨w5, hw5, lw5⟩ := facts_outs HR.out HF.out
        have Q4 := Go.Lib.hid (implWords (ys.length : Int) w5 true hw5 (by
          have e1 : IntKind.i64.min = -9223372036854775808 := rfl
          have e2 : IntKind.i64.max = 9223372036854775807 := rfl
          simp [Lit.wf, e1, e2]; omega))
        clear hw5
        go_wp2_with fail
        refine (Q4.out _).mono ?_
        rintro e W28 ⟨v28, rfl, o28, b28⟩
        obtain ⟨_, qa, qc, rfl, _, _⟩ := Sees.owns o28
        rw [lw5]
        have HW28 := Go.Lib.hid (And.intro (Below.trans (HWd26.out.1) ((b28).mono (Below.size (HWd26.out.1)))) (And.intro (kept_call (HWd26.out.2.1) b28) (And.intro (kept_call (HWd26.out.2.2.1) b28) (kept_call (HWd26.out.2.2.2) b28))))
        clear o28 b28 Q4
        cases ok
        case false =>
          go_wp2_with fail
          go_ret
          exact ⟨rfl, HW28.out.1⟩
        case true =>
          have Q5 := Go.Lib.hid (implTo zs out wo true (HOK.out rfl) (by omega) (by omega))
          go_wp2_with fail
          refine (Q5.out _ _ _ (Sees.owns (HW28.out.2.1)) _ _ (Sees.owns (HW28.out.2.2.1))).mono ?_
          rintro e W29 ⟨rfl, b29⟩
          have HW29 := Go.Lib.hid (And.intro (Below.trans (HW28.out.1) ((b29).mono (Below.size (HW28.out.1)))) (And.intro (kept_call (HW28.out.2.1) b29) (And.intro (kept_call (HW28.out.2.2.1) b29) (kept_call (HW28.out.2.2.2) b29))))
          clear b29
          go_wp2_with fail
          go_ret
          exact ⟨rfl, HW29.out.1⟩
    case true =>
      have Q2 := Go.Lib.hid (implMirror mr x true (HTWO.out rfl).1 (by omega))
      have Q3 := Go.Lib.hid (implDepth mr dp true (HTWO.out rfl).2 (by omega))
      go_wp2_with fail
      refine (Q2.out _).mono ?_
      rintro e W30 ⟨rfl, b30⟩
      have HW30 := Go.Lib.hid (And.intro (Below.trans (HWd26.out.1) ((b30).mono (Below.size (HWd26.out.1)))) (And.intro (kept_call (HWd26.out.2.1) b30) (And.intro (kept_call (HWd26.out.2.2.1) b30) (kept_call (HWd26.out.2.2.2) b30))))
      clear b30
      go_wp2_with fail
      refine (Q3.out _).mono ?_
      rintro e W31 ⟨rfl, b31⟩
      have HW31 := Go.Lib.hid (And.intro (Below.trans (HW30.out.1) ((b31).mono (Below.size (HW30.out.1)))) (And.intro (kept_call (HW30.out.2.1) b31) (And.intro (kept_call (HW30.out.2.2.1) b31) (kept_call (HW30.out.2.2.2) b31))))
      clear b31
      clear Q2 Q3
      cases five
      case false =>
        cases ok
        case false =>
          go_wp2_with fail
          go_ret
          exact ⟨rfl, HW31.out.1⟩
        case true =>
          have Q5 := Go.Lib.hid (implTo zs out wo true (HOK.out rfl) (by omega) (by omega))
          go_wp2_with fail
          refine (Q5.out _ _ _ (Sees.owns (HW31.out.2.1)) _ _ (Sees.owns (HW31.out.2.2.1))).mono ?_
          rintro e W32 ⟨rfl, b32⟩
          have HW32 := Go.Lib.hid (And.intro (Below.trans (HW31.out.1) ((b32).mono (Below.size (HW31.out.1)))) (And.intro (kept_call (HW31.out.2.1) b32) (And.intro (kept_call (HW31.out.2.2.1) b32) (kept_call (HW31.out.2.2.2) b32))))
          clear b32
          go_wp2_with fail
          go_ret
          exact ⟨rfl, HW32.out.1⟩
      case true =>
        obtain ⟨w5, hw5, lw5⟩ := facts_outs HR.out HF.out
        have Q4 := Go.Lib.hid (implWords (ys.length : Int) w5 true hw5 (by
          have e1 : IntKind.i64.min = -9223372036854775808 := rfl
          have e2 : IntKind.i64.max = 9223372036854775807 := rfl
          simp [Lit.wf, e1, e2]; omega))
        clear hw5
        go_wp2_with fail
        refine (Q4.out _).mono ?_
        rintro e W33 ⟨v33, rfl, o33, b33⟩
        obtain ⟨_, qa, qc, rfl, _, _⟩ := Sees.owns o33
        rw [lw5]
        have HW33 := Go.Lib.hid (And.intro (Below.trans (HW31.out.1) ((b33).mono (Below.size (HW31.out.1)))) (And.intro (kept_call (HW31.out.2.1) b33) (And.intro (kept_call (HW31.out.2.2.1) b33) (kept_call (HW31.out.2.2.2) b33))))
        clear o33 b33 Q4
        cases ok
        case false =>
          go_wp2_with fail
          go_ret
          exact ⟨rfl, HW33.out.1⟩
        case true =>
          have Q5 := Go.Lib.hid (implTo zs out wo true (HOK.out rfl) (by omega) (by omega))
          go_wp2_with fail
          refine (Q5.out _ _ _ (Sees.owns (HW33.out.2.1)) _ _ (Sees.owns (HW33.out.2.2.1))).mono ?_
          rintro e W34 ⟨rfl, b34⟩
          have HW34 := Go.Lib.hid (And.intro (Below.trans (HW33.out.1) ((b34).mono (Below.size (HW33.out.1)))) (And.intro (kept_call (HW33.out.2.1) b34) (And.intro (kept_call (HW33.out.2.2.1) b34) (kept_call (HW33.out.2.2.2) b34))))
          clear b34
          go_wp2_with fail
          go_ret
          exact ⟨rfl, HW34.out.1⟩
  case true =>
    have Q1 := Go.Lib.hid (implRun xa to xb true (HONE.out rfl) (by omega) (by omega))
    go_wp2_with fail
    refine (Q1.out _ _ _ (Sees.owns (HWd25.out.2.2.2.1))).mono ?_
    rintro e W35 ⟨v35, rfl, o35, b35⟩
    have HW35 := Go.Lib.hid (And.intro (Below.trans (HWd25.out.1) ((b35).mono (Below.size (HWd25.out.1)))) (And.intro (kept_call (HWd25.out.2.1) b35) (And.intro (kept_call (HWd25.out.2.2.1) b35) (And.intro (kept_call (HWd25.out.2.2.2.1) b35) (And.intro (kept_call (HWd25.out.2.2.2.2.1) b35) (And.intro (kept_call (HWd25.out.2.2.2.2.2) b35) (own_lower (o35) (Below.size (HWd25.out.1)))))))))
    clear o35 b35
    go_wp2_with fail
    refine (rInts_same _ _ _ xb.length xb (Sees.owns (HW35.out.2.2.2.2.2.2)) (Sees.owns (HW35.out.2.2.2.2.1)) (by unfold maxLen; omega)).mono ?_
    rintro e W36 ⟨rfl, d36⟩
    have HW36 := Go.Lib.hid (And.intro (Below.trans (HW35.out.1) (((d36.below W35.heap.size)).mono (Below.size (HW35.out.1)))) (And.intro (kept_call (HW35.out.2.1) (d36.below W35.heap.size)) (And.intro (kept_call (HW35.out.2.2.1) (d36.below W35.heap.size)) (And.intro (kept_call (HW35.out.2.2.2.1) (d36.below W35.heap.size)) (And.intro (kept_call (HW35.out.2.2.2.2.1) (d36.below W35.heap.size)) (And.intro (kept_call (HW35.out.2.2.2.2.2.1) (d36.below W35.heap.size)) (kept_call (HW35.out.2.2.2.2.2.2) (d36.below W35.heap.size))))))))
    clear d36
    clear Q1
    have HWd37 := Go.Lib.hid (And.intro HW36.out.1 (And.intro HW36.out.2.1 (And.intro HW36.out.2.2.1 (And.intro HW36.out.2.2.2.1 (And.intro HW36.out.2.2.2.2.1 HW36.out.2.2.2.2.2.1)))))
    clear HW36
    have HWd38 := Go.Lib.hid (And.intro HWd37.out.1 (And.intro HWd37.out.2.1 (And.intro HWd37.out.2.2.1 HWd37.out.2.2.2.2.2)))
    clear HWd37
    cases two
    case false =>
      cases five
      case false =>
        cases ok
        case false =>
          go_wp2_with fail
          go_ret
          exact ⟨rfl, HWd38.out.1⟩
        case true =>
          have Q5 := Go.Lib.hid (implTo zs out wo true (HOK.out rfl) (by omega) (by omega))
          go_wp2_with fail
          refine (Q5.out _ _ _ (Sees.owns (HWd38.out.2.1)) _ _ (Sees.owns (HWd38.out.2.2.1))).mono ?_
          rintro e W39 ⟨rfl, b39⟩
          have HW39 := Go.Lib.hid (And.intro (Below.trans (HWd38.out.1) ((b39).mono (Below.size (HWd38.out.1)))) (And.intro (kept_call (HWd38.out.2.1) b39) (And.intro (kept_call (HWd38.out.2.2.1) b39) (kept_call (HWd38.out.2.2.2) b39))))
          clear b39
          go_wp2_with fail
          go_ret
          exact ⟨rfl, HW39.out.1⟩
      case true =>
        obtain ⟨w5, hw5, lw5⟩ := facts_outs HR.out HF.out
        have Q4 := Go.Lib.hid (implWords (ys.length : Int) w5 true hw5 (by
          have e1 : IntKind.i64.min = -9223372036854775808 := rfl
          have e2 : IntKind.i64.max = 9223372036854775807 := rfl
          simp [Lit.wf, e1, e2]; omega))
        clear hw5
        go_wp2_with fail
        refine (Q4.out _).mono ?_
        rintro e W40 ⟨v40, rfl, o40, b40⟩
        obtain ⟨_, qa, qc, rfl, _, _⟩ := Sees.owns o40
        rw [lw5]
        have HW40 := Go.Lib.hid (And.intro (Below.trans (HWd38.out.1) ((b40).mono (Below.size (HWd38.out.1)))) (And.intro (kept_call (HWd38.out.2.1) b40) (And.intro (kept_call (HWd38.out.2.2.1) b40) (kept_call (HWd38.out.2.2.2) b40))))
        clear o40 b40 Q4
        cases ok
        case false =>
          go_wp2_with fail
          go_ret
          exact ⟨rfl, HW40.out.1⟩
        case true =>
          have Q5 := Go.Lib.hid (implTo zs out wo true (HOK.out rfl) (by omega) (by omega))
          go_wp2_with fail
          refine (Q5.out _ _ _ (Sees.owns (HW40.out.2.1)) _ _ (Sees.owns (HW40.out.2.2.1))).mono ?_
          rintro e W41 ⟨rfl, b41⟩
          have HW41 := Go.Lib.hid (And.intro (Below.trans (HW40.out.1) ((b41).mono (Below.size (HW40.out.1)))) (And.intro (kept_call (HW40.out.2.1) b41) (And.intro (kept_call (HW40.out.2.2.1) b41) (kept_call (HW40.out.2.2.2) b41))))
          clear b41
          go_wp2_with fail
          go_ret
          exact ⟨rfl, HW41.out.1⟩
    case true =>
      have Q2 := Go.Lib.hid (implMirror mr x true (HTWO.out rfl).1 (by omega))
      have Q3 := Go.Lib.hid (implDepth mr dp true (HTWO.out rfl).2 (by omega))
      go_wp2_with fail
      refine (Q2.out _).mono ?_
      rintro e W42 ⟨rfl, b42⟩
      have HW42 := Go.Lib.hid (And.intro (Below.trans (HWd38.out.1) ((b42).mono (Below.size (HWd38.out.1)))) (And.intro (kept_call (HWd38.out.2.1) b42) (And.intro (kept_call (HWd38.out.2.2.1) b42) (kept_call (HWd38.out.2.2.2) b42))))
      clear b42
      go_wp2_with fail
      refine (Q3.out _).mono ?_
      rintro e W43 ⟨rfl, b43⟩
      have HW43 := Go.Lib.hid (And.intro (Below.trans (HW42.out.1) ((b43).mono (Below.size (HW42.out.1)))) (And.intro (kept_call (HW42.out.2.1) b43) (And.intro (kept_call (HW42.out.2.2.1) b43) (kept_call (HW42.out.2.2.2) b43))))
      clear b43
      clear Q2 Q3
      cases five
      case false =>
        cases ok
        case false =>
          go_wp2_with fail
          go_ret
          exact ⟨rfl, HW43.out.1⟩
        case true =>
          have Q5 := Go.Lib.hid (implTo zs out wo true (HOK.out rfl) (by omega) (by omega))
          go_wp2_with fail
          refine (Q5.out _ _ _ (Sees.owns (HW43.out.2.1)) _ _ (Sees.owns (HW43.out.2.2.1))).mono ?_
          rintro e W44 ⟨rfl, b44⟩
          have HW44 := Go.Lib.hid (And.intro (Below.trans (HW43.out.1) ((b44).mono (Below.size (HW43.out.1)))) (And.intro (kept_call (HW43.out.2.1) b44) (And.intro (kept_call (HW43.out.2.2.1) b44) (kept_call (HW43.out.2.2.2) b44))))
          clear b44
          go_wp2_with fail
          go_ret
          exact ⟨rfl, HW44.out.1⟩
      case true =>
        obtain ⟨w5, hw5, lw5⟩ := facts_outs HR.out HF.out
        have Q4 := Go.Lib.hid (implWords (ys.length : Int) w5 true hw5 (by
          have e1 : IntKind.i64.min = -9223372036854775808 := rfl
          have e2 : IntKind.i64.max = 9223372036854775807 := rfl
          simp [Lit.wf, e1, e2]; omega))
        clear hw5
        go_wp2_with fail
        refine (Q4.out _).mono ?_
        rintro e W45 ⟨v45, rfl, o45, b45⟩
        obtain ⟨_, qa, qc, rfl, _, _⟩ := Sees.owns o45
        rw [lw5]
        have HW45 := Go.Lib.hid (And.intro (Below.trans (HW43.out.1) ((b45).mono (Below.size (HW43.out.1)))) (And.intro (kept_call (HW43.out.2.1) b45) (And.intro (kept_call (HW43.out.2.2.1) b45) (kept_call (HW43.out.2.2.2) b45))))
        clear o45 b45 Q4
        cases ok
        case false =>
          go_wp2_with fail
          go_ret
          exact ⟨rfl, HW45.out.1⟩
        case true =>
          have Q5 := Go.Lib.hid (implTo zs out wo true (HOK.out rfl) (by omega) (by omega))
          go_wp2_with fail
          refine (Q5.out _ _ _ (Sees.owns (HW45.out.2.1)) _ _ (Sees.owns (HW45.out.2.2.1))).mono ?_
          rintro e W46 ⟨rfl, b46⟩
          have HW46 := Go.Lib.hid (And.intro (Below.trans (HW45.out.1) ((b46).mono (Below.size (HW45.out.1)))) (And.intro (kept_call (HW45.out.2.1) b46) (And.intro (kept_call (HW45.out.2.2.1) b46) (kept_call (HW45.out.2.2.2) b46))))
          clear b46
          go_wp2_with fail
          go_ret
          exact ⟨rfl, HW46.out.1⟩

/-! ### From the walk to the row -/
set_option maxRecDepth 100000 in
theorem lifted (os : Os) (started : os.Started) (H : Type) (enc : TypeId × Value → H) :
    ReturnsInHanded {} Try.checked os 4 .any (Rows.fnStackWordsSpec.pre6 enc Try.prog Try.f4 Rows.fnStackWordsRow.domain false) (Rows.fnStackWordsSpec.post enc Try.prog Try.f4 false true false false) := by
  refine returnsInHanded_of_change (C := Try.checked) own started (by kernel_rfl) Try.func4
    (ChangeSpec.witness6 (enc := enc) (C := Try.checked) false ⟨#[], #[.slice none 0 0], []⟩ 8 (by kernel_rfl) (by kernel_rfl) (by kernel_rfl) (by kernel_rfl)) ?_
  intro W base args ds gs before hval0 hW hcnd _
  have hval : ∀ (j : Nat) t v, Try.f4.params[j]? = some t → args[j]? = some v → Value.okWide Try.prog W .any base t v := hval0
  have hW' := hW
  obtain ⟨p, q, hA0, hV, rfl, hfz, hnd⟩ := hW
  have hA : DataW.TrodAll enc Try.prog W 0 (fun _ => true) true Try.f4.params.toList args.toList ds p := hA0
  rw [Try.params4] at hA hval
  obtain ⟨u0, vs0, d0, ds0, p0, q0, hargs, rfl, rfl, h0, r0⟩ := trodAll_cons hA
  obtain ⟨rfl, rfl, rfl⟩ := trodAll_nil r0
  obtain rfl : args = #[u0] := by cases args; simp_all
  obtain ⟨rfl, rfl⟩ := trodVars_none hV
  have lt0 : ∀ x ∈ p0, x.block < W.heap.size := by obtain ⟨m, hm⟩ := h0; exact DataW.trod_lt m _ _ _ hm
  obtain ⟨n0, a0, s0, t0, w0⟩ := sees_ints Try.underlying32 Try.underlying5 (by kernel_rfl) (hval 0 32 u0 rfl rfl) h0
  clear hA0 hval0
  refine (walk u0 n0 a0 W s0 t0 w0).mono fun e W' ⟨he, bel⟩ => ?_
  subst he
  exact ⟨_, rfl, _, _, _, [], _, [], hW', trodAll_mk1 (shut_bool Try.underlying4 _), (trodAll_cons_mk (Below.trod laidOut (by kernel_rfl) (of_decide_eq_true (by kernel_rfl)) h0 bel lt0) trodAll_mk0), rfl, bel.frame _, fun h => by cases h⟩

theorem over : Rows.fnStackWordsRow.holds Try.pinned (OpenSpec.ofChange Rows.fnStackWordsSpec) :=
  OpenClaim.holds_of_wide 4 Try.f4 rfl rfl rfl rfl rfl rfl rfl ⟨rfl, rfl, rfl, rfl, rfl⟩ rfl rfl rfl rfl rfl (by kernel_rfl) Try.func4 (by kernel_rfl)
    (of_decide_eq_true (by kernel_rfl)) (by unfold Func.isWrapper; first | (rw [if_pos (by decide +kernel)]; kernel_rfl) | (rw [if_neg (by decide +kernel)]; exact ⟨rfl, rfl⟩))
    (fun os started H enc _ => lifted os started H enc)

/-- The statement. -/
theorem proved : Rows.FnStackWordsSaid :=
  over
#print axioms proved
end Go.Proofs.Ytomheoaophomlab.fnStackWords
