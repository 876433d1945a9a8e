/-
  At every code the law on orders answers true. Conditions: none.
-/
import Derived.Test.YtecbfoodkcgehabRows
import Derived.Test.YtecbfoodkcgehabSeat
import Derived.Test.YtecbfoodkcgehabOpen
import Derived.WalkKit
import Derived.ProofKit
import Derived.OpenShut
import Derived.ShutString
import Derived.ChangeOld
import Derived.Below
import Derived.Test.YtecbfoodkcgehabExact
import Derived.Test.YtecbfoodkcgehabOrd
import Derived.Test.YtecbfoodkcgehabOrdC
import Derived.Test.YtecbfoodkcgehabInverse
import Derived.Test.YtecbfoodkcgehabBack
import Derived.Test.YtecbfoodkcgehabOther
import Derived.Test.YtecbfoodkcgehabRank
import Derived.Test.YtecbfoodkcgehabText
import Derived.Test.YtecbfoodkcgehabCompose
import Derived.Test.YtecbfoodkcgehabOrderAt
import Derived.Test.YtecbfoodkcgehabIsOrderC
import Derived.Test.YtecbfoodkcgehabDrawOrd2
import Derived.Test.YtecbfoodkcgehabOrdLawFacts
namespace Go.Proofs.Ytecbfoodkcgehab.fnOrders
open Go.ChangeShapes Go.WideShapes Go.ChangeAt Go.RowKit SeesC OpenC
open Go.ChangeMaps (open_string shut_string)
open IntsC ExactC OrdMath OrderC InverseC BackC OtherC RankC TextC ComposeC AtC OrderAtC IsOrderC DrawOrd2C OrdFacts OrdC OrdLawFacts
set_option linter.unusedVariables false

theorem own : ownKnob Try.prog.godebug = none := by kernel_rfl
theorem laidOut : laidOutB Try.prog = true := by kernel_rfl

/-! ### The walk -/
set_option maxRecDepth 100000 in
set_option maxHeartbeats 16000000 in
theorem walk (v0 : Value) (n0 : Nat) (a0 : List Int) (w : World) (s0 : Sees w v0 n0 (a0.map (Value.int .u8))) (t0 : n0 ≤ maxLen) (w0 : ∀ z ∈ a0, (Lit.int .u8 z).wf = true) :
    Calls Try.prog 10 #[v0] w fun e w' => e = .returned (.bool true) ∧ Below w.heap.size w w' := by
  have hz := byte_bd w0
  have hs0 := s0
  obtain ⟨_, ar, cap, rfl, _, _⟩ := hs0
  by_cases hbig : (65536 : Int) < (n0 : Int)
  · have cB := Go.Lib.hid (rBig_of w ar n0 cap true (decide_eq_true hbig))
    clear hz
    go_enter Try.func10, Try.ntmps10
    go_wp2_with fail
    refine (cB.out).mono ?_
    rintro e W1 ⟨rfl, rfl⟩
    go_wp2_with fail
    go_ret
    exact ⟨rfl, Below.refl _ _⟩
  have hn : n0 ≤ 65536 := by omega
  have cB := Go.Lib.hid (rBig_of w ar n0 cap false (decide_eq_false hbig))
  have D1 := Go.Lib.hid (fun W h => drawInverse_any (.slice ar n0 cap) n0 a0 W h hz hn)
  have D2 := Go.Lib.hid (fun W h => drawCompose_any (.slice ar n0 cap) n0 a0 W h hz hn)
  have D3 := Go.Lib.hid (fun W h => drawAt_any (.slice ar n0 cap) n0 a0 W h hz hn)
  have D4 := Go.Lib.hid (fun W h => drawParse_any (.slice ar n0 cap) n0 a0 W h hz hn)
  have HW0 := Go.Lib.hid (And.intro (Below.refl w.heap.size w) s0)
  clear hz s0 w0 t0
  go_enter Try.func10, Try.ntmps10
  go_wp2_with fail
  refine (cB.out).mono ?_
  rintro e Wz ⟨rfl, rfl⟩
  go_wp2_with fail
  refine (D1.out _ (HW0.out.2)).mono ?_
  rintro e W1 ⟨vO, zs, rfl, hz8, o1, b1⟩
  have HW1 := Go.Lib.hid (And.intro (Below.trans (HW0.out.1) ((b1).mono (Below.size (HW0.out.1)))) (And.intro (Sees.grow (HW0.out.2) b1) (own_lower (o1) (Below.size (HW0.out.1)))))
  clear o1 b1
  obtain ⟨_, adr, capO, rfl, _, _⟩ := Sees.owns (HW1.out.2.2)
  obtain ⟨r, iv, bk, ot, rk, mn, tx, hr, h1, h2, h3, h4, h5, h6, l1, l2, l3, hrest⟩ := facts_of zs hz8
  have hz9 : zs.length ≤ 1048576 := by omega
  have I1 := Go.Lib.hid (implInverse zs iv r h1 hz9)
  have I2 := Go.Lib.hid (specInverse zs iv r h1 hz9)
  have O1 := Go.Lib.hid (implIsOrder zs r hr hz9)
  have B1 := Go.Lib.hid (implBack zs bk r h2 hz9)
  have B2 := Go.Lib.hid (specBack zs bk r h2 hz9)
  have T1 := Go.Lib.hid (implOther zs ot r h3 hz9)
  have T2 := Go.Lib.hid (specOther zs ot r h3 hz9)
  have R1 := Go.Lib.hid (implRank zs rk r h4 hz9)
  have R2 := Go.Lib.hid (specRank zs rk r h4 hz9)
  have V1 := Go.Lib.hid (implInvs zs mn r h5 hz9)
  have V2 := Go.Lib.hid (specInvs zs mn r h5 hz9)
  have X1 := Go.Lib.hid (implText zs tx r h6 hz9)
  have X2 := Go.Lib.hid (specText zs tx r h6 hz9)
  have HREST := Go.Lib.hid hrest
  clear hr h1 h2 h3 h4 h5 h6 hrest D1 cB
  go_wp2_with fail
  refine (I1.out _ _ _ (Sees.owns (HW1.out.2.2))).mono ?_
  rintro e W2 ⟨v2, rfl, o2, b2⟩
  have HW2 := Go.Lib.hid (And.intro (Below.trans (HW1.out.1) ((b2).mono (Below.size (HW1.out.1)))) (And.intro (Sees.grow (HW1.out.2.1) b2) (And.intro (kept_call (HW1.out.2.2) b2) (own_lower (o2) (Below.size (HW1.out.1))))))
  clear o2 b2
  go_wp2_with fail
  refine (I2.out _ _ _ (Sees.owns (HW2.out.2.2.1))).mono ?_
  rintro e W3 ⟨v3, rfl, o3, b3⟩
  have HW3 := Go.Lib.hid (And.intro (Below.trans (HW2.out.1) ((b3).mono (Below.size (HW2.out.1)))) (And.intro (Sees.grow (HW2.out.2.1) b3) (And.intro (kept_call (HW2.out.2.2.1) b3) (And.intro (kept_call (HW2.out.2.2.2) b3) (own_lower (o3) (Below.size (HW2.out.1)))))))
  clear o3 b3
  go_wp2_with fail
  refine (O1.out _ _ _ (Sees.owns (HW3.out.2.2.1))).mono ?_
  rintro e W4 ⟨rfl, b4⟩
  have HW4 := Go.Lib.hid (And.intro (Below.trans (HW3.out.1) ((b4).mono (Below.size (HW3.out.1)))) (And.intro (Sees.grow (HW3.out.2.1) b4) (And.intro (kept_call (HW3.out.2.2.1) b4) (And.intro (kept_call (HW3.out.2.2.2.1) b4) (kept_call (HW3.out.2.2.2.2) b4)))))
  clear b4
  go_wp2_with fail
  refine (rInts_same _ _ _ iv.length iv (Sees.owns (HW4.out.2.2.2.1)) (Sees.owns (HW4.out.2.2.2.2)) (by unfold maxLen; omega)).mono ?_
  rintro e W5 ⟨rfl, d5⟩
  have HW5 := Go.Lib.hid (And.intro (Below.trans (HW4.out.1) (((d5.below W4.heap.size)).mono (Below.size (HW4.out.1)))) (And.intro (Sees.grow (HW4.out.2.1) (d5.below W4.heap.size)) (And.intro (kept_call (HW4.out.2.2.1) (d5.below W4.heap.size)) (And.intro (kept_call (HW4.out.2.2.2.1) (d5.below W4.heap.size)) (kept_call (HW4.out.2.2.2.2) (d5.below W4.heap.size))))))
  clear d5
  have HWd6 := Go.Lib.hid (And.intro HW5.out.1 (And.intro HW5.out.2.1 (And.intro HW5.out.2.2.1 HW5.out.2.2.2.1)))
  clear HW5
  go_wp2_with fail
  refine (B1.out _ _ _ (Sees.owns (HWd6.out.2.2.1))).mono ?_
  rintro e W7 ⟨v7, rfl, o7, b7⟩
  have HW7 := Go.Lib.hid (And.intro (Below.trans (HWd6.out.1) ((b7).mono (Below.size (HWd6.out.1)))) (And.intro (Sees.grow (HWd6.out.2.1) b7) (And.intro (kept_call (HWd6.out.2.2.1) b7) (And.intro (kept_call (HWd6.out.2.2.2) b7) (own_lower (o7) (Below.size (HWd6.out.1)))))))
  clear o7 b7
  go_wp2_with fail
  refine (B2.out _ _ _ (Sees.owns (HW7.out.2.2.1))).mono ?_
  rintro e W8 ⟨v8, rfl, o8, b8⟩
  have HW8 := Go.Lib.hid (And.intro (Below.trans (HW7.out.1) ((b8).mono (Below.size (HW7.out.1)))) (And.intro (Sees.grow (HW7.out.2.1) b8) (And.intro (kept_call (HW7.out.2.2.1) b8) (And.intro (kept_call (HW7.out.2.2.2.1) b8) (And.intro (kept_call (HW7.out.2.2.2.2) b8) (own_lower (o8) (Below.size (HW7.out.1))))))))
  clear o8 b8
  go_wp2_with fail
  refine (rInts_same _ _ _ bk.length bk (Sees.owns (HW8.out.2.2.2.2.1)) (Sees.owns (HW8.out.2.2.2.2.2)) (by unfold maxLen; omega)).mono ?_
  rintro e W9 ⟨rfl, d9⟩
  have HW9 := Go.Lib.hid (And.intro (Below.trans (HW8.out.1) (((d9.below W8.heap.size)).mono (Below.size (HW8.out.1)))) (And.intro (Sees.grow (HW8.out.2.1) (d9.below W8.heap.size)) (And.intro (kept_call (HW8.out.2.2.1) (d9.below W8.heap.size)) (And.intro (kept_call (HW8.out.2.2.2.1) (d9.below W8.heap.size)) (And.intro (kept_call (HW8.out.2.2.2.2.1) (d9.below W8.heap.size)) (kept_call (HW8.out.2.2.2.2.2) (d9.below W8.heap.size)))))))
  clear d9
  have HWd10 := Go.Lib.hid (And.intro HW9.out.1 (And.intro HW9.out.2.1 (And.intro HW9.out.2.2.1 (And.intro HW9.out.2.2.2.1 HW9.out.2.2.2.2.1))))
  clear HW9
  go_wp2_with fail
  refine (T1.out _ _ _ (Sees.owns (HWd10.out.2.2.1))).mono ?_
  rintro e W11 ⟨v11, rfl, o11, b11⟩
  have HW11 := Go.Lib.hid (And.intro (Below.trans (HWd10.out.1) ((b11).mono (Below.size (HWd10.out.1)))) (And.intro (Sees.grow (HWd10.out.2.1) b11) (And.intro (kept_call (HWd10.out.2.2.1) b11) (And.intro (kept_call (HWd10.out.2.2.2.1) b11) (And.intro (kept_call (HWd10.out.2.2.2.2) b11) (own_lower (o11) (Below.size (HWd10.out.1))))))))
  clear o11 b11
  go_wp2_with fail
  refine (T2.out _ _ _ (Sees.owns (HW11.out.2.2.1))).mono ?_
  rintro e W12 ⟨v12, rfl, o12, b12⟩
  have HW12 := Go.Lib.hid (And.intro (Below.trans (HW11.out.1) ((b12).mono (Below.size (HW11.out.1)))) (And.intro (Sees.grow (HW11.out.2.1) b12) (And.intro (kept_call (HW11.out.2.2.1) b12) (And.intro (kept_call (HW11.out.2.2.2.1) b12) (And.intro (kept_call (HW11.out.2.2.2.2.1) b12) (And.intro (kept_call (HW11.out.2.2.2.2.2) b12) (own_lower (o12) (Below.size (HW11.out.1)))))))))
  clear o12 b12
  go_wp2_with fail
  refine (rInts_same _ _ _ ot.length ot (Sees.owns (HW12.out.2.2.2.2.2.1)) (Sees.owns (HW12.out.2.2.2.2.2.2)) (by unfold maxLen; omega)).mono ?_
  rintro e W13 ⟨rfl, d13⟩
  have HW13 := Go.Lib.hid (And.intro (Below.trans (HW12.out.1) (((d13.below W12.heap.size)).mono (Below.size (HW12.out.1)))) (And.intro (Sees.grow (HW12.out.2.1) (d13.below W12.heap.size)) (And.intro (kept_call (HW12.out.2.2.1) (d13.below W12.heap.size)) (And.intro (kept_call (HW12.out.2.2.2.1) (d13.below W12.heap.size)) (And.intro (kept_call (HW12.out.2.2.2.2.1) (d13.below W12.heap.size)) (And.intro (kept_call (HW12.out.2.2.2.2.2.1) (d13.below W12.heap.size)) (kept_call (HW12.out.2.2.2.2.2.2) (d13.below W12.heap.size))))))))
  clear d13
  have HWd14 := Go.Lib.hid (And.intro HW13.out.1 (And.intro HW13.out.2.1 (And.intro HW13.out.2.2.1 (And.intro HW13.out.2.2.2.1 (And.intro HW13.out.2.2.2.2.1 HW13.out.2.2.2.2.2.1)))))
  clear HW13
  clear I1 I2 O1 B1 B2 T1 T2
  go_wp2_with fail
  refine (R1.out _ _ _ (Sees.owns (HWd14.out.2.2.1))).mono ?_
  rintro e W15 ⟨rfl, b15⟩
  have HW15 := Go.Lib.hid (And.intro (Below.trans (HWd14.out.1) ((b15).mono (Below.size (HWd14.out.1)))) (And.intro (Sees.grow (HWd14.out.2.1) b15) (And.intro (kept_call (HWd14.out.2.2.1) b15) (And.intro (kept_call (HWd14.out.2.2.2.1) b15) (And.intro (kept_call (HWd14.out.2.2.2.2.1) b15) (kept_call (HWd14.out.2.2.2.2.2) b15))))))
  clear b15
  go_wp2_with fail
  refine (R2.out _ _ _ (Sees.owns (HW15.out.2.2.1))).mono ?_
  rintro e W16 ⟨rfl, b16⟩
  have HW16 := Go.Lib.hid (And.intro (Below.trans (HW15.out.1) ((b16).mono (Below.size (HW15.out.1)))) (And.intro (Sees.grow (HW15.out.2.1) b16) (And.intro (kept_call (HW15.out.2.2.1) b16) (And.intro (kept_call (HW15.out.2.2.2.1) b16) (And.intro (kept_call (HW15.out.2.2.2.2.1) b16) (kept_call (HW15.out.2.2.2.2.2) b16))))))
  clear b16
  go_wp2_with fail
  refine (V1.out _ _ _ (Sees.owns (HW16.out.2.2.1))).mono ?_
  rintro e W17 ⟨rfl, b17⟩
  have HW17 := Go.Lib.hid (And.intro (Below.trans (HW16.out.1) ((b17).mono (Below.size (HW16.out.1)))) (And.intro (Sees.grow (HW16.out.2.1) b17) (And.intro (kept_call (HW16.out.2.2.1) b17) (And.intro (kept_call (HW16.out.2.2.2.1) b17) (And.intro (kept_call (HW16.out.2.2.2.2.1) b17) (kept_call (HW16.out.2.2.2.2.2) b17))))))
  clear b17
  go_wp2_with fail
  refine (V2.out _ _ _ (Sees.owns (HW17.out.2.2.1))).mono ?_
  rintro e W18 ⟨rfl, b18⟩
  have HW18 := Go.Lib.hid (And.intro (Below.trans (HW17.out.1) ((b18).mono (Below.size (HW17.out.1)))) (And.intro (Sees.grow (HW17.out.2.1) b18) (And.intro (kept_call (HW17.out.2.2.1) b18) (And.intro (kept_call (HW17.out.2.2.2.1) b18) (And.intro (kept_call (HW17.out.2.2.2.2.1) b18) (kept_call (HW17.out.2.2.2.2.2) b18))))))
  clear b18
  go_wp2_with fail
  refine (X1.out _ _ _ (Sees.owns (HW18.out.2.2.1))).mono ?_
  rintro e W19 ⟨rfl, b19⟩
  have HW19 := Go.Lib.hid (And.intro (Below.trans (HW18.out.1) ((b19).mono (Below.size (HW18.out.1)))) (And.intro (Sees.grow (HW18.out.2.1) b19) (And.intro (kept_call (HW18.out.2.2.1) b19) (And.intro (kept_call (HW18.out.2.2.2.1) b19) (And.intro (kept_call (HW18.out.2.2.2.2.1) b19) (kept_call (HW18.out.2.2.2.2.2) b19))))))
  clear b19
  go_wp2_with fail
  refine (X2.out _ _ _ (Sees.owns (HW19.out.2.2.1))).mono ?_
  rintro e W20 ⟨rfl, b20⟩
  have HW20 := Go.Lib.hid (And.intro (Below.trans (HW19.out.1) ((b20).mono (Below.size (HW19.out.1)))) (And.intro (Sees.grow (HW19.out.2.1) b20) (And.intro (kept_call (HW19.out.2.2.1) b20) (And.intro (kept_call (HW19.out.2.2.2.1) b20) (And.intro (kept_call (HW19.out.2.2.2.2.1) b20) (kept_call (HW19.out.2.2.2.2.2) b20))))))
  clear b20
  clear R1 R2 V1 V2 X1 X2
  go_wp2_with fail
  refine (D2.out _ (HW20.out.2.1)).mono ?_
  rintro e W21 ⟨vA, vB, xa, xb, rfl, la, lb, oa21, ob21, b21⟩
  have HW21 := Go.Lib.hid (And.intro (Below.trans (HW20.out.1) ((b21).mono (Below.size (HW20.out.1)))) (And.intro (Sees.grow (HW20.out.2.1) b21) (And.intro (kept_call (HW20.out.2.2.1) b21) (And.intro (kept_call (HW20.out.2.2.2.1) b21) (And.intro (kept_call (HW20.out.2.2.2.2.1) b21) (And.intro (kept_call (HW20.out.2.2.2.2.2) b21) (And.intro (own_lower (oa21) (Below.size (HW20.out.1))) (own_lower (ob21) (Below.size (HW20.out.1))))))))))
  clear oa21 ob21 b21
  obtain ⟨⟨md, s6⟩, hmd⟩ : ∃ p, composeAns xa xb = p := ⟨_, rfl⟩
  have M1 := Go.Lib.hid (implCompose xa xb md s6 hmd (by omega) (by omega))
  have M2 := Go.Lib.hid (specCompose xa xb md s6 hmd (by omega) (by omega))
  have lm := compose_len hmd
  clear hmd D2
  go_wp2_with fail
  refine (M1.out _ _ _ (Sees.owns (HW21.out.2.2.2.2.2.2.1)) _ _ (Sees.owns (HW21.out.2.2.2.2.2.2.2))).mono ?_
  rintro e W22 ⟨v22, rfl, o22, b22⟩
  have HW22 := Go.Lib.hid (And.intro (Below.trans (HW21.out.1) ((b22).mono (Below.size (HW21.out.1)))) (And.intro (Sees.grow (HW21.out.2.1) b22) (And.intro (kept_call (HW21.out.2.2.1) b22) (And.intro (kept_call (HW21.out.2.2.2.1) b22) (And.intro (kept_call (HW21.out.2.2.2.2.1) b22) (And.intro (kept_call (HW21.out.2.2.2.2.2.1) b22) (And.intro (kept_call (HW21.out.2.2.2.2.2.2.1) b22) (And.intro (kept_call (HW21.out.2.2.2.2.2.2.2) b22) (own_lower (o22) (Below.size (HW21.out.1)))))))))))
  clear o22 b22
  go_wp2_with fail
  refine (M2.out _ _ _ (Sees.owns (HW22.out.2.2.2.2.2.2.1)) _ _ (Sees.owns (HW22.out.2.2.2.2.2.2.2.1))).mono ?_
  rintro e W23 ⟨v23, rfl, o23, b23⟩
  have HW23 := Go.Lib.hid (And.intro (Below.trans (HW22.out.1) ((b23).mono (Below.size (HW22.out.1)))) (And.intro (Sees.grow (HW22.out.2.1) b23) (And.intro (kept_call (HW22.out.2.2.1) b23) (And.intro (kept_call (HW22.out.2.2.2.1) b23) (And.intro (kept_call (HW22.out.2.2.2.2.1) b23) (And.intro (kept_call (HW22.out.2.2.2.2.2.1) b23) (And.intro (kept_call (HW22.out.2.2.2.2.2.2.1) b23) (And.intro (kept_call (HW22.out.2.2.2.2.2.2.2.1) b23) (And.intro (kept_call (HW22.out.2.2.2.2.2.2.2.2) b23) (own_lower (o23) (Below.size (HW22.out.1))))))))))))
  clear o23 b23
  go_wp2_with fail
  refine (rInts_same _ _ _ md.length md (Sees.owns (HW23.out.2.2.2.2.2.2.2.2.1)) (Sees.owns (HW23.out.2.2.2.2.2.2.2.2.2)) (by unfold maxLen; omega)).mono ?_
  rintro e W24 ⟨rfl, d24⟩
  have HW24 := Go.Lib.hid (And.intro (Below.trans (HW23.out.1) (((d24.below W23.heap.size)).mono (Below.size (HW23.out.1)))) (And.intro (Sees.grow (HW23.out.2.1) (d24.below W23.heap.size)) (And.intro (kept_call (HW23.out.2.2.1) (d24.below W23.heap.size)) (And.intro (kept_call (HW23.out.2.2.2.1) (d24.below W23.heap.size)) (And.intro (kept_call (HW23.out.2.2.2.2.1) (d24.below W23.heap.size)) (And.intro (kept_call (HW23.out.2.2.2.2.2.1) (d24.below W23.heap.size)) (And.intro (kept_call (HW23.out.2.2.2.2.2.2.1) (d24.below W23.heap.size)) (And.intro (kept_call (HW23.out.2.2.2.2.2.2.2.1) (d24.below W23.heap.size)) (And.intro (kept_call (HW23.out.2.2.2.2.2.2.2.2.1) (d24.below W23.heap.size)) (kept_call (HW23.out.2.2.2.2.2.2.2.2.2) (d24.below W23.heap.size)))))))))))
  clear d24
  have HWd25 := Go.Lib.hid (And.intro HW24.out.1 (And.intro HW24.out.2.1 (And.intro HW24.out.2.2.1 (And.intro HW24.out.2.2.2.1 (And.intro HW24.out.2.2.2.2.1 HW24.out.2.2.2.2.2.1)))))
  clear HW24
  clear M1 M2 la lb lm
  go_wp2_with fail
  refine (D3.out _ (HWd25.out.2.1)).mono ?_
  rintro e W26 ⟨na, ka, rfl, na1, na2, ka1, ka2, b26⟩
  have HW26 := Go.Lib.hid (And.intro (Below.trans (HWd25.out.1) ((b26).mono (Below.size (HWd25.out.1)))) (And.intro (Sees.grow (HWd25.out.2.1) b26) (And.intro (kept_call (HWd25.out.2.2.1) b26) (And.intro (kept_call (HWd25.out.2.2.2.1) b26) (And.intro (kept_call (HWd25.out.2.2.2.2.1) b26) (kept_call (HWd25.out.2.2.2.2.2) b26))))))
  clear b26
  obtain ⟨s7, la, hat, lla, h7⟩ := facts_at na ka
  have A1 := Go.Lib.hid (implAt na ka la s7 hat (wf_small na1 na2) (wf_small ka1 ka2))
  have A2 := Go.Lib.hid (specAt na ka la s7 hat (wf_small na1 na2) (wf_small ka1 ka2))
  have H7 := Go.Lib.hid h7
  clear hat h7 D3 na1 na2 ka1 ka2
  go_wp2_with fail
  refine (A1.out _).mono ?_
  rintro e W27 ⟨v27, rfl, o27, b27⟩
  have HW27 := Go.Lib.hid (And.intro (Below.trans (HW26.out.1) ((b27).mono (Below.size (HW26.out.1)))) (And.intro (Sees.grow (HW26.out.2.1) b27) (And.intro (kept_call (HW26.out.2.2.1) b27) (And.intro (kept_call (HW26.out.2.2.2.1) b27) (And.intro (kept_call (HW26.out.2.2.2.2.1) b27) (And.intro (kept_call (HW26.out.2.2.2.2.2) b27) (own_lower (o27) (Below.size (HW26.out.1)))))))))
  clear o27 b27
  go_wp2_with fail
  refine (A2.out _).mono ?_
  rintro e W28 ⟨v28, rfl, o28, b28⟩
  have HW28 := Go.Lib.hid (And.intro (Below.trans (HW27.out.1) ((b28).mono (Below.size (HW27.out.1)))) (And.intro (Sees.grow (HW27.out.2.1) b28) (And.intro (kept_call (HW27.out.2.2.1) b28) (And.intro (kept_call (HW27.out.2.2.2.1) b28) (And.intro (kept_call (HW27.out.2.2.2.2.1) b28) (And.intro (kept_call (HW27.out.2.2.2.2.2.1) b28) (And.intro (kept_call (HW27.out.2.2.2.2.2.2) b28) (own_lower (o28) (Below.size (HW27.out.1))))))))))
  clear o28 b28
  go_wp2_with fail
  refine (rInts_same _ _ _ la.length la (Sees.owns (HW28.out.2.2.2.2.2.2.1)) (Sees.owns (HW28.out.2.2.2.2.2.2.2)) (by unfold maxLen; omega)).mono ?_
  rintro e W29 ⟨rfl, d29⟩
  have HW29 := Go.Lib.hid (And.intro (Below.trans (HW28.out.1) (((d29.below W28.heap.size)).mono (Below.size (HW28.out.1)))) (And.intro (Sees.grow (HW28.out.2.1) (d29.below W28.heap.size)) (And.intro (kept_call (HW28.out.2.2.1) (d29.below W28.heap.size)) (And.intro (kept_call (HW28.out.2.2.2.1) (d29.below W28.heap.size)) (And.intro (kept_call (HW28.out.2.2.2.2.1) (d29.below W28.heap.size)) (And.intro (kept_call (HW28.out.2.2.2.2.2.1) (d29.below W28.heap.size)) (And.intro (kept_call (HW28.out.2.2.2.2.2.2.1) (d29.below W28.heap.size)) (kept_call (HW28.out.2.2.2.2.2.2.2) (d29.below W28.heap.size)))))))))
  clear d29
  have HWd30 := Go.Lib.hid (And.intro HW29.out.1 (And.intro HW29.out.2.1 (And.intro HW29.out.2.2.1 (And.intro HW29.out.2.2.2.1 (And.intro HW29.out.2.2.2.2.1 (And.intro HW29.out.2.2.2.2.2.1 HW29.out.2.2.2.2.2.2.1))))))
  clear HW29
  clear A1 A2
  go_wp2_with fail
  refine (D4.out _ (HWd30.out.2.1)).mono ?_
  rintro e W31 ⟨sa, lsa, rfl, b31⟩
  have HW31 := Go.Lib.hid (And.intro (Below.trans (HWd30.out.1) ((b31).mono (Below.size (HWd30.out.1)))) (And.intro (Sees.grow (HWd30.out.2.1) b31) (And.intro (kept_call (HWd30.out.2.2.1) b31) (And.intro (kept_call (HWd30.out.2.2.2.1) b31) (And.intro (kept_call (HWd30.out.2.2.2.2.1) b31) (And.intro (kept_call (HWd30.out.2.2.2.2.2.1) b31) (kept_call (HWd30.out.2.2.2.2.2.2) b31)))))))
  clear b31
  have HWd32 := Go.Lib.hid (And.intro HW31.out.1 (And.intro HW31.out.2.2.1 (And.intro HW31.out.2.2.2.1 (And.intro HW31.out.2.2.2.2.1 (And.intro HW31.out.2.2.2.2.2.1 HW31.out.2.2.2.2.2.2)))))
  clear HW31
  obtain ⟨s8, rd, hrd, lrd, h8⟩ := facts_parse sa (by omega)
  have P1 := Go.Lib.hid (implParse sa rd s8 hrd (by omega))
  have P2 := Go.Lib.hid (specParse sa rd s8 hrd (by omega))
  have H8 := Go.Lib.hid h8
  clear hrd h8 D4
  go_wp2_with fail
  refine (P1.out _).mono ?_
  rintro e W33 ⟨v33, rfl, o33, b33⟩
  have HW33 := Go.Lib.hid (And.intro (Below.trans (HWd32.out.1) ((b33).mono (Below.size (HWd32.out.1)))) (And.intro (kept_call (HWd32.out.2.1) b33) (And.intro (kept_call (HWd32.out.2.2.1) b33) (And.intro (kept_call (HWd32.out.2.2.2.1) b33) (And.intro (kept_call (HWd32.out.2.2.2.2.1) b33) (And.intro (kept_call (HWd32.out.2.2.2.2.2) b33) (own_lower (o33) (Below.size (HWd32.out.1)))))))))
  clear o33 b33
  go_wp2_with fail
  refine (P2.out _).mono ?_
  rintro e W34 ⟨v34, rfl, o34, b34⟩
  have HW34 := Go.Lib.hid (And.intro (Below.trans (HW33.out.1) ((b34).mono (Below.size (HW33.out.1)))) (And.intro (kept_call (HW33.out.2.1) b34) (And.intro (kept_call (HW33.out.2.2.1) b34) (And.intro (kept_call (HW33.out.2.2.2.1) b34) (And.intro (kept_call (HW33.out.2.2.2.2.1) b34) (And.intro (kept_call (HW33.out.2.2.2.2.2.1) b34) (And.intro (kept_call (HW33.out.2.2.2.2.2.2) b34) (own_lower (o34) (Below.size (HW33.out.1))))))))))
  clear o34 b34
  go_wp2_with fail
  refine (rInts_same _ _ _ rd.length rd (Sees.owns (HW34.out.2.2.2.2.2.2.1)) (Sees.owns (HW34.out.2.2.2.2.2.2.2)) (by unfold maxLen; omega)).mono ?_
  rintro e W35 ⟨rfl, d35⟩
  have HW35 := Go.Lib.hid (And.intro (Below.trans (HW34.out.1) (((d35.below W34.heap.size)).mono (Below.size (HW34.out.1)))) (And.intro (kept_call (HW34.out.2.1) (d35.below W34.heap.size)) (And.intro (kept_call (HW34.out.2.2.1) (d35.below W34.heap.size)) (And.intro (kept_call (HW34.out.2.2.2.1) (d35.below W34.heap.size)) (And.intro (kept_call (HW34.out.2.2.2.2.1) (d35.below W34.heap.size)) (And.intro (kept_call (HW34.out.2.2.2.2.2.1) (d35.below W34.heap.size)) (And.intro (kept_call (HW34.out.2.2.2.2.2.2.1) (d35.below W34.heap.size)) (kept_call (HW34.out.2.2.2.2.2.2.2) (d35.below W34.heap.size)))))))))
  clear d35
  have HWd36 := Go.Lib.hid (And.intro HW35.out.1 (And.intro HW35.out.2.1 (And.intro HW35.out.2.2.1 (And.intro HW35.out.2.2.2.1 (And.intro HW35.out.2.2.2.2.1 (And.intro HW35.out.2.2.2.2.2.1 HW35.out.2.2.2.2.2.2.1))))))
  clear HW35
  clear P1 P2
  -- HERE
  cases s7
  case false =>
    cases s8
    case false =>
      cases r
      case false =>
        go_wp2_with fail
        go_ret
        exact ⟨rfl, HWd36.out.1⟩
      case true =>
        obtain ⟨fw, m1, m2, tt, k1, k2, k3, k4, k5, k6, q1, q2, q3, q4, q5, hw1, hw2⟩ := HREST.out rfl
        have I3 := Go.Lib.hid (implInverse iv zs true k1 (by omega))
        have M3 := Go.Lib.hid (implCompose zs iv (iota zs.length) true k2 (by omega) (by omega))
        have B3 := Go.Lib.hid (implBack bk zs true k3 (by omega))
        have T3 := Go.Lib.hid (implOther ot zs true k4 (by omega))
        have V3 := Go.Lib.hid (implInvs bk fw true k5 (by omega))
        have A3 := Go.Lib.hid (implAt (zs.length : Nat) rk zs true k6 hw1 hw2)
        have hil := iota_len zs.length
        clear k1 k2 k3 k4 k5 k6 hw1 hw2 HREST H7 H8
        go_wp2_with fail
        refine (I3.out _ _ _ (Sees.owns (HWd36.out.2.2.1))).mono ?_
        rintro e W37 ⟨v37, rfl, o37, b37⟩
        have HW37 := Go.Lib.hid (And.intro (Below.trans (HWd36.out.1) ((b37).mono (Below.size (HWd36.out.1)))) (And.intro (kept_call (HWd36.out.2.1) b37) (And.intro (kept_call (HWd36.out.2.2.1) b37) (And.intro (kept_call (HWd36.out.2.2.2.1) b37) (And.intro (kept_call (HWd36.out.2.2.2.2.1) b37) (And.intro (kept_call (HWd36.out.2.2.2.2.2.1) b37) (And.intro (kept_call (HWd36.out.2.2.2.2.2.2) b37) (own_lower (o37) (Below.size (HWd36.out.1))))))))))
        clear o37 b37
        go_wp2_with fail
        refine (M3.out _ _ _ (Sees.owns (HW37.out.2.1)) _ _ (Sees.owns (HW37.out.2.2.1))).mono ?_
        rintro e W38 ⟨v38, rfl, o38, b38⟩
        have HW38 := Go.Lib.hid (And.intro (Below.trans (HW37.out.1) ((b38).mono (Below.size (HW37.out.1)))) (And.intro (kept_call (HW37.out.2.1) b38) (And.intro (kept_call (HW37.out.2.2.1) b38) (And.intro (kept_call (HW37.out.2.2.2.1) b38) (And.intro (kept_call (HW37.out.2.2.2.2.1) b38) (And.intro (kept_call (HW37.out.2.2.2.2.2.1) b38) (And.intro (kept_call (HW37.out.2.2.2.2.2.2.1) b38) (And.intro (kept_call (HW37.out.2.2.2.2.2.2.2) b38) (own_lower (o38) (Below.size (HW37.out.1)))))))))))
        clear o38 b38
        go_wp2_with fail
        refine (B3.out _ _ _ (Sees.owns (HW38.out.2.2.2.1))).mono ?_
        rintro e W39 ⟨v39, rfl, o39, b39⟩
        have HW39 := Go.Lib.hid (And.intro (Below.trans (HW38.out.1) ((b39).mono (Below.size (HW38.out.1)))) (And.intro (kept_call (HW38.out.2.1) b39) (And.intro (kept_call (HW38.out.2.2.1) b39) (And.intro (kept_call (HW38.out.2.2.2.1) b39) (And.intro (kept_call (HW38.out.2.2.2.2.1) b39) (And.intro (kept_call (HW38.out.2.2.2.2.2.1) b39) (And.intro (kept_call (HW38.out.2.2.2.2.2.2.1) b39) (And.intro (kept_call (HW38.out.2.2.2.2.2.2.2.1) b39) (And.intro (kept_call (HW38.out.2.2.2.2.2.2.2.2) b39) (own_lower (o39) (Below.size (HW38.out.1))))))))))))
        clear o39 b39
        go_wp2_with fail
        refine (T3.out _ _ _ (Sees.owns (HW39.out.2.2.2.2.1))).mono ?_
        rintro e W40 ⟨v40, rfl, o40, b40⟩
        have HW40 := Go.Lib.hid (And.intro (Below.trans (HW39.out.1) ((b40).mono (Below.size (HW39.out.1)))) (And.intro (kept_call (HW39.out.2.1) b40) (And.intro (kept_call (HW39.out.2.2.1) b40) (And.intro (kept_call (HW39.out.2.2.2.1) b40) (And.intro (kept_call (HW39.out.2.2.2.2.1) b40) (And.intro (kept_call (HW39.out.2.2.2.2.2.1) b40) (And.intro (kept_call (HW39.out.2.2.2.2.2.2.1) b40) (And.intro (kept_call (HW39.out.2.2.2.2.2.2.2.1) b40) (And.intro (kept_call (HW39.out.2.2.2.2.2.2.2.2.1) b40) (And.intro (kept_call (HW39.out.2.2.2.2.2.2.2.2.2) b40) (own_lower (o40) (Below.size (HW39.out.1)))))))))))))
        clear o40 b40
        go_wp2_with fail
        refine (V3.out _ _ _ (Sees.owns (HW40.out.2.2.2.1))).mono ?_
        rintro e W41 ⟨rfl, b41⟩
        have HW41 := Go.Lib.hid (And.intro (Below.trans (HW40.out.1) ((b41).mono (Below.size (HW40.out.1)))) (And.intro (kept_call (HW40.out.2.1) b41) (And.intro (kept_call (HW40.out.2.2.1) b41) (And.intro (kept_call (HW40.out.2.2.2.1) b41) (And.intro (kept_call (HW40.out.2.2.2.2.1) b41) (And.intro (kept_call (HW40.out.2.2.2.2.2.1) b41) (And.intro (kept_call (HW40.out.2.2.2.2.2.2.1) b41) (And.intro (kept_call (HW40.out.2.2.2.2.2.2.2.1) b41) (And.intro (kept_call (HW40.out.2.2.2.2.2.2.2.2.1) b41) (And.intro (kept_call (HW40.out.2.2.2.2.2.2.2.2.2.1) b41) (kept_call (HW40.out.2.2.2.2.2.2.2.2.2.2) b41)))))))))))
        clear b41
        go_wp2_with fail
        refine (A3.out _).mono ?_
        rintro e W42 ⟨v42, rfl, o42, b42⟩
        have HW42 := Go.Lib.hid (And.intro (Below.trans (HW41.out.1) ((b42).mono (Below.size (HW41.out.1)))) (And.intro (kept_call (HW41.out.2.1) b42) (And.intro (kept_call (HW41.out.2.2.1) b42) (And.intro (kept_call (HW41.out.2.2.2.1) b42) (And.intro (kept_call (HW41.out.2.2.2.2.1) b42) (And.intro (kept_call (HW41.out.2.2.2.2.2.1) b42) (And.intro (kept_call (HW41.out.2.2.2.2.2.2.1) b42) (And.intro (kept_call (HW41.out.2.2.2.2.2.2.2.1) b42) (And.intro (kept_call (HW41.out.2.2.2.2.2.2.2.2.1) b42) (And.intro (kept_call (HW41.out.2.2.2.2.2.2.2.2.2.1) b42) (And.intro (kept_call (HW41.out.2.2.2.2.2.2.2.2.2.2) b42) (own_lower (o42) (Below.size (HW41.out.1))))))))))))))
        clear o42 b42
        go_wp2_with fail
        refine (rInts_same _ _ _ zs.length zs (Sees.owns (HW42.out.2.2.2.2.2.2.2.1)) (Sees.owns (HW42.out.2.1)) (by unfold maxLen; omega)).mono ?_
        rintro e W43 ⟨rfl, d43⟩
        have HW43 := Go.Lib.hid (And.intro (Below.trans (HW42.out.1) (((d43.below W42.heap.size)).mono (Below.size (HW42.out.1)))) (And.intro (kept_call (HW42.out.2.1) (d43.below W42.heap.size)) (And.intro (kept_call (HW42.out.2.2.1) (d43.below W42.heap.size)) (And.intro (kept_call (HW42.out.2.2.2.1) (d43.below W42.heap.size)) (And.intro (kept_call (HW42.out.2.2.2.2.1) (d43.below W42.heap.size)) (And.intro (kept_call (HW42.out.2.2.2.2.2.1) (d43.below W42.heap.size)) (And.intro (kept_call (HW42.out.2.2.2.2.2.2.1) (d43.below W42.heap.size)) (And.intro (kept_call (HW42.out.2.2.2.2.2.2.2.1) (d43.below W42.heap.size)) (And.intro (kept_call (HW42.out.2.2.2.2.2.2.2.2.1) (d43.below W42.heap.size)) (And.intro (kept_call (HW42.out.2.2.2.2.2.2.2.2.2.1) (d43.below W42.heap.size)) (And.intro (kept_call (HW42.out.2.2.2.2.2.2.2.2.2.2.1) (d43.below W42.heap.size)) (kept_call (HW42.out.2.2.2.2.2.2.2.2.2.2.2) (d43.below W42.heap.size)))))))))))))
        clear d43
        go_wp2_with fail
        refine (rSorted_same _ _ zs.length (by have := Sees.owns (HW43.out.2.2.2.2.2.2.2.2.1); rw [hil] at this; exact this) (by omega)).mono ?_
        rintro e W44 ⟨rfl, d44⟩
        have HW44 := Go.Lib.hid (And.intro (Below.trans (HW43.out.1) (((d44.below W43.heap.size)).mono (Below.size (HW43.out.1)))) (And.intro (kept_call (HW43.out.2.1) (d44.below W43.heap.size)) (And.intro (kept_call (HW43.out.2.2.1) (d44.below W43.heap.size)) (And.intro (kept_call (HW43.out.2.2.2.1) (d44.below W43.heap.size)) (And.intro (kept_call (HW43.out.2.2.2.2.1) (d44.below W43.heap.size)) (And.intro (kept_call (HW43.out.2.2.2.2.2.1) (d44.below W43.heap.size)) (And.intro (kept_call (HW43.out.2.2.2.2.2.2.1) (d44.below W43.heap.size)) (And.intro (kept_call (HW43.out.2.2.2.2.2.2.2.1) (d44.below W43.heap.size)) (And.intro (kept_call (HW43.out.2.2.2.2.2.2.2.2.1) (d44.below W43.heap.size)) (And.intro (kept_call (HW43.out.2.2.2.2.2.2.2.2.2.1) (d44.below W43.heap.size)) (And.intro (kept_call (HW43.out.2.2.2.2.2.2.2.2.2.2.1) (d44.below W43.heap.size)) (kept_call (HW43.out.2.2.2.2.2.2.2.2.2.2.2) (d44.below W43.heap.size)))))))))))))
        clear d44
        go_wp2_with fail
        refine (rInts_same _ _ _ zs.length zs (Sees.owns (HW44.out.2.2.2.2.2.2.2.2.2.1)) (Sees.owns (HW44.out.2.1)) (by unfold maxLen; omega)).mono ?_
        rintro e W45 ⟨rfl, d45⟩
        have HW45 := Go.Lib.hid (And.intro (Below.trans (HW44.out.1) (((d45.below W44.heap.size)).mono (Below.size (HW44.out.1)))) (And.intro (kept_call (HW44.out.2.1) (d45.below W44.heap.size)) (And.intro (kept_call (HW44.out.2.2.1) (d45.below W44.heap.size)) (And.intro (kept_call (HW44.out.2.2.2.1) (d45.below W44.heap.size)) (And.intro (kept_call (HW44.out.2.2.2.2.1) (d45.below W44.heap.size)) (And.intro (kept_call (HW44.out.2.2.2.2.2.1) (d45.below W44.heap.size)) (And.intro (kept_call (HW44.out.2.2.2.2.2.2.1) (d45.below W44.heap.size)) (And.intro (kept_call (HW44.out.2.2.2.2.2.2.2.1) (d45.below W44.heap.size)) (And.intro (kept_call (HW44.out.2.2.2.2.2.2.2.2.1) (d45.below W44.heap.size)) (And.intro (kept_call (HW44.out.2.2.2.2.2.2.2.2.2.1) (d45.below W44.heap.size)) (And.intro (kept_call (HW44.out.2.2.2.2.2.2.2.2.2.2.1) (d45.below W44.heap.size)) (kept_call (HW44.out.2.2.2.2.2.2.2.2.2.2.2) (d45.below W44.heap.size)))))))))))))
        clear d45
        go_wp2_with fail
        refine (rInts_same _ _ _ zs.length zs (Sees.owns (HW45.out.2.2.2.2.2.2.2.2.2.2.1)) (Sees.owns (HW45.out.2.1)) (by unfold maxLen; omega)).mono ?_
        rintro e W46 ⟨rfl, d46⟩
        have HW46 := Go.Lib.hid (And.intro (Below.trans (HW45.out.1) (((d46.below W45.heap.size)).mono (Below.size (HW45.out.1)))) (And.intro (kept_call (HW45.out.2.1) (d46.below W45.heap.size)) (And.intro (kept_call (HW45.out.2.2.1) (d46.below W45.heap.size)) (And.intro (kept_call (HW45.out.2.2.2.1) (d46.below W45.heap.size)) (And.intro (kept_call (HW45.out.2.2.2.2.1) (d46.below W45.heap.size)) (And.intro (kept_call (HW45.out.2.2.2.2.2.1) (d46.below W45.heap.size)) (And.intro (kept_call (HW45.out.2.2.2.2.2.2.1) (d46.below W45.heap.size)) (And.intro (kept_call (HW45.out.2.2.2.2.2.2.2.1) (d46.below W45.heap.size)) (And.intro (kept_call (HW45.out.2.2.2.2.2.2.2.2.1) (d46.below W45.heap.size)) (And.intro (kept_call (HW45.out.2.2.2.2.2.2.2.2.2.1) (d46.below W45.heap.size)) (And.intro (kept_call (HW45.out.2.2.2.2.2.2.2.2.2.2.1) (d46.below W45.heap.size)) (kept_call (HW45.out.2.2.2.2.2.2.2.2.2.2.2) (d46.below W45.heap.size)))))))))))))
        clear d46
        go_wp2_with fail
        refine (rInts_same _ _ _ zs.length zs (Sees.owns (HW46.out.2.2.2.2.2.2.2.2.2.2.2)) (Sees.owns (HW46.out.2.1)) (by unfold maxLen; omega)).mono ?_
        rintro e W47 ⟨rfl, d47⟩
        have HW47 := Go.Lib.hid (And.intro (Below.trans (HW46.out.1) (((d47.below W46.heap.size)).mono (Below.size (HW46.out.1)))) (And.intro (kept_call (HW46.out.2.1) (d47.below W46.heap.size)) (And.intro (kept_call (HW46.out.2.2.1) (d47.below W46.heap.size)) (And.intro (kept_call (HW46.out.2.2.2.1) (d47.below W46.heap.size)) (And.intro (kept_call (HW46.out.2.2.2.2.1) (d47.below W46.heap.size)) (And.intro (kept_call (HW46.out.2.2.2.2.2.1) (d47.below W46.heap.size)) (And.intro (kept_call (HW46.out.2.2.2.2.2.2.1) (d47.below W46.heap.size)) (And.intro (kept_call (HW46.out.2.2.2.2.2.2.2.1) (d47.below W46.heap.size)) (And.intro (kept_call (HW46.out.2.2.2.2.2.2.2.2.1) (d47.below W46.heap.size)) (And.intro (kept_call (HW46.out.2.2.2.2.2.2.2.2.2.1) (d47.below W46.heap.size)) (And.intro (kept_call (HW46.out.2.2.2.2.2.2.2.2.2.2.1) (d47.below W46.heap.size)) (kept_call (HW46.out.2.2.2.2.2.2.2.2.2.2.2) (d47.below W46.heap.size)))))))))))))
        clear d47
        go_wp2_with fail
        go_ret
        exact ⟨rfl, HW47.out.1⟩
    case true =>
      have Q8 := Go.Lib.hid (implText rd sa true (H8.out rfl) (by omega))
      go_wp2_with fail
      refine (Q8.out _ _ _ (Sees.owns (HWd36.out.2.2.2.2.2.2))).mono ?_
      rintro e W48 ⟨rfl, b48⟩
      have HW48 := Go.Lib.hid (And.intro (Below.trans (HWd36.out.1) ((b48).mono (Below.size (HWd36.out.1)))) (And.intro (kept_call (HWd36.out.2.1) b48) (And.intro (kept_call (HWd36.out.2.2.1) b48) (And.intro (kept_call (HWd36.out.2.2.2.1) b48) (And.intro (kept_call (HWd36.out.2.2.2.2.1) b48) (And.intro (kept_call (HWd36.out.2.2.2.2.2.1) b48) (kept_call (HWd36.out.2.2.2.2.2.2) b48)))))))
      clear b48
      clear Q8
      cases r
      case false =>
        go_wp2_with fail
        go_ret
        exact ⟨rfl, HW48.out.1⟩
      case true =>
        obtain ⟨fw, m1, m2, tt, k1, k2, k3, k4, k5, k6, q1, q2, q3, q4, q5, hw1, hw2⟩ := HREST.out rfl
        have I3 := Go.Lib.hid (implInverse iv zs true k1 (by omega))
        have M3 := Go.Lib.hid (implCompose zs iv (iota zs.length) true k2 (by omega) (by omega))
        have B3 := Go.Lib.hid (implBack bk zs true k3 (by omega))
        have T3 := Go.Lib.hid (implOther ot zs true k4 (by omega))
        have V3 := Go.Lib.hid (implInvs bk fw true k5 (by omega))
        have A3 := Go.Lib.hid (implAt (zs.length : Nat) rk zs true k6 hw1 hw2)
        have hil := iota_len zs.length
        clear k1 k2 k3 k4 k5 k6 hw1 hw2 HREST H7 H8
        go_wp2_with fail
        refine (I3.out _ _ _ (Sees.owns (HW48.out.2.2.1))).mono ?_
        rintro e W49 ⟨v49, rfl, o49, b49⟩
        have HW49 := Go.Lib.hid (And.intro (Below.trans (HW48.out.1) ((b49).mono (Below.size (HW48.out.1)))) (And.intro (kept_call (HW48.out.2.1) b49) (And.intro (kept_call (HW48.out.2.2.1) b49) (And.intro (kept_call (HW48.out.2.2.2.1) b49) (And.intro (kept_call (HW48.out.2.2.2.2.1) b49) (And.intro (kept_call (HW48.out.2.2.2.2.2.1) b49) (And.intro (kept_call (HW48.out.2.2.2.2.2.2) b49) (own_lower (o49) (Below.size (HW48.out.1))))))))))
        clear o49 b49
        go_wp2_with fail
        refine (M3.out _ _ _ (Sees.owns (HW49.out.2.1)) _ _ (Sees.owns (HW49.out.2.2.1))).mono ?_
        rintro e W50 ⟨v50, rfl, o50, b50⟩
        have HW50 := Go.Lib.hid (And.intro (Below.trans (HW49.out.1) ((b50).mono (Below.size (HW49.out.1)))) (And.intro (kept_call (HW49.out.2.1) b50) (And.intro (kept_call (HW49.out.2.2.1) b50) (And.intro (kept_call (HW49.out.2.2.2.1) b50) (And.intro (kept_call (HW49.out.2.2.2.2.1) b50) (And.intro (kept_call (HW49.out.2.2.2.2.2.1) b50) (And.intro (kept_call (HW49.out.2.2.2.2.2.2.1) b50) (And.intro (kept_call (HW49.out.2.2.2.2.2.2.2) b50) (own_lower (o50) (Below.size (HW49.out.1)))))))))))
        clear o50 b50
        go_wp2_with fail
        refine (B3.out _ _ _ (Sees.owns (HW50.out.2.2.2.1))).mono ?_
        rintro e W51 ⟨v51, rfl, o51, b51⟩
        have HW51 := Go.Lib.hid (And.intro (Below.trans (HW50.out.1) ((b51).mono (Below.size (HW50.out.1)))) (And.intro (kept_call (HW50.out.2.1) b51) (And.intro (kept_call (HW50.out.2.2.1) b51) (And.intro (kept_call (HW50.out.2.2.2.1) b51) (And.intro (kept_call (HW50.out.2.2.2.2.1) b51) (And.intro (kept_call (HW50.out.2.2.2.2.2.1) b51) (And.intro (kept_call (HW50.out.2.2.2.2.2.2.1) b51) (And.intro (kept_call (HW50.out.2.2.2.2.2.2.2.1) b51) (And.intro (kept_call (HW50.out.2.2.2.2.2.2.2.2) b51) (own_lower (o51) (Below.size (HW50.out.1))))))))))))
        clear o51 b51
        go_wp2_with fail
        refine (T3.out _ _ _ (Sees.owns (HW51.out.2.2.2.2.1))).mono ?_
        rintro e W52 ⟨v52, rfl, o52, b52⟩
        have HW52 := Go.Lib.hid (And.intro (Below.trans (HW51.out.1) ((b52).mono (Below.size (HW51.out.1)))) (And.intro (kept_call (HW51.out.2.1) b52) (And.intro (kept_call (HW51.out.2.2.1) b52) (And.intro (kept_call (HW51.out.2.2.2.1) b52) (And.intro (kept_call (HW51.out.2.2.2.2.1) b52) (And.intro (kept_call (HW51.out.2.2.2.2.2.1) b52) (And.intro (kept_call (HW51.out.2.2.2.2.2.2.1) b52) (And.intro (kept_call (HW51.out.2.2.2.2.2.2.2.1) b52) (And.intro (kept_call (HW51.out.2.2.2.2.2.2.2.2.1) b52) (And.intro (kept_call (HW51.out.2.2.2.2.2.2.2.2.2) b52) (own_lower (o52) (Below.size (HW51.out.1)))))))))))))
        clear o52 b52
        go_wp2_with fail
        refine (V3.out _ _ _ (Sees.owns (HW52.out.2.2.2.1))).mono ?_
        rintro e W53 ⟨rfl, b53⟩
        have HW53 := Go.Lib.hid (And.intro (Below.trans (HW52.out.1) ((b53).mono (Below.size (HW52.out.1)))) (And.intro (kept_call (HW52.out.2.1) b53) (And.intro (kept_call (HW52.out.2.2.1) b53) (And.intro (kept_call (HW52.out.2.2.2.1) b53) (And.intro (kept_call (HW52.out.2.2.2.2.1) b53) (And.intro (kept_call (HW52.out.2.2.2.2.2.1) b53) (And.intro (kept_call (HW52.out.2.2.2.2.2.2.1) b53) (And.intro (kept_call (HW52.out.2.2.2.2.2.2.2.1) b53) (And.intro (kept_call (HW52.out.2.2.2.2.2.2.2.2.1) b53) (And.intro (kept_call (HW52.out.2.2.2.2.2.2.2.2.2.1) b53) (kept_call (HW52.out.2.2.2.2.2.2.2.2.2.2) b53)))))))))))
        clear b53
        go_wp2_with fail
        refine (A3.out _).mono ?_
        rintro e W54 ⟨v54, rfl, o54, b54⟩
        have HW54 := Go.Lib.hid (And.intro (Below.trans (HW53.out.1) ((b54).mono (Below.size (HW53.out.1)))) (And.intro (kept_call (HW53.out.2.1) b54) (And.intro (kept_call (HW53.out.2.2.1) b54) (And.intro (kept_call (HW53.out.2.2.2.1) b54) (And.intro (kept_call (HW53.out.2.2.2.2.1) b54) (And.intro (kept_call (HW53.out.2.2.2.2.2.1) b54) (And.intro (kept_call (HW53.out.2.2.2.2.2.2.1) b54) (And.intro (kept_call (HW53.out.2.2.2.2.2.2.2.1) b54) (And.intro (kept_call (HW53.out.2.2.2.2.2.2.2.2.1) b54) (And.intro (kept_call (HW53.out.2.2.2.2.2.2.2.2.2.1) b54) (And.intro (kept_call (HW53.out.2.2.2.2.2.2.2.2.2.2) b54) (own_lower (o54) (Below.size (HW53.out.1))))))))))))))
        clear o54 b54
        go_wp2_with fail
        refine (rInts_same _ _ _ zs.length zs (Sees.owns (HW54.out.2.2.2.2.2.2.2.1)) (Sees.owns (HW54.out.2.1)) (by unfold maxLen; omega)).mono ?_
        rintro e W55 ⟨rfl, d55⟩
        have HW55 := Go.Lib.hid (And.intro (Below.trans (HW54.out.1) (((d55.below W54.heap.size)).mono (Below.size (HW54.out.1)))) (And.intro (kept_call (HW54.out.2.1) (d55.below W54.heap.size)) (And.intro (kept_call (HW54.out.2.2.1) (d55.below W54.heap.size)) (And.intro (kept_call (HW54.out.2.2.2.1) (d55.below W54.heap.size)) (And.intro (kept_call (HW54.out.2.2.2.2.1) (d55.below W54.heap.size)) (And.intro (kept_call (HW54.out.2.2.2.2.2.1) (d55.below W54.heap.size)) (And.intro (kept_call (HW54.out.2.2.2.2.2.2.1) (d55.below W54.heap.size)) (And.intro (kept_call (HW54.out.2.2.2.2.2.2.2.1) (d55.below W54.heap.size)) (And.intro (kept_call (HW54.out.2.2.2.2.2.2.2.2.1) (d55.below W54.heap.size)) (And.intro (kept_call (HW54.out.2.2.2.2.2.2.2.2.2.1) (d55.below W54.heap.size)) (And.intro (kept_call (HW54.out.2.2.2.2.2.2.2.2.2.2.1) (d55.below W54.heap.size)) (kept_call (HW54.out.2.2.2.2.2.2.2.2.2.2.2) (d55.below W54.heap.size)))))))))))))
        clear d55
        go_wp2_with fail
        refine (rSorted_same _ _ zs.length (by have := Sees.owns (HW55.out.2.2.2.2.2.2.2.2.1); rw [hil] at this; exact this) (by omega)).mono ?_
        rintro e W56 ⟨rfl, d56⟩
        have HW56 := Go.Lib.hid (And.intro (Below.trans (HW55.out.1) (((d56.below W55.heap.size)).mono (Below.size (HW55.out.1)))) (And.intro (kept_call (HW55.out.2.1) (d56.below W55.heap.size)) (And.intro (kept_call (HW55.out.2.2.1) (d56.below W55.heap.size)) (And.intro (kept_call (HW55.out.2.2.2.1) (d56.below W55.heap.size)) (And.intro (kept_call (HW55.out.2.2.2.2.1) (d56.below W55.heap.size)) (And.intro (kept_call (HW55.out.2.2.2.2.2.1) (d56.below W55.heap.size)) (And.intro (kept_call (HW55.out.2.2.2.2.2.2.1) (d56.below W55.heap.size)) (And.intro (kept_call (HW55.out.2.2.2.2.2.2.2.1) (d56.below W55.heap.size)) (And.intro (kept_call (HW55.out.2.2.2.2.2.2.2.2.1) (d56.below W55.heap.size)) (And.intro (kept_call (HW55.out.2.2.2.2.2.2.2.2.2.1) (d56.below W55.heap.size)) (And.intro (kept_call (HW55.out.2.2.2.2.2.2.2.2.2.2.1) (d56.below W55.heap.size)) (kept_call (HW55.out.2.2.2.2.2.2.2.2.2.2.2) (d56.below W55.heap.size)))))))))))))
        clear d56
        go_wp2_with fail
        refine (rInts_same _ _ _ zs.length zs (Sees.owns (HW56.out.2.2.2.2.2.2.2.2.2.1)) (Sees.owns (HW56.out.2.1)) (by unfold maxLen; omega)).mono ?_
        rintro e W57 ⟨rfl, d57⟩
        have HW57 := Go.Lib.hid (And.intro (Below.trans (HW56.out.1) (((d57.below W56.heap.size)).mono (Below.size (HW56.out.1)))) (And.intro (kept_call (HW56.out.2.1) (d57.below W56.heap.size)) (And.intro (kept_call (HW56.out.2.2.1) (d57.below W56.heap.size)) (And.intro (kept_call (HW56.out.2.2.2.1) (d57.below W56.heap.size)) (And.intro (kept_call (HW56.out.2.2.2.2.1) (d57.below W56.heap.size)) (And.intro (kept_call (HW56.out.2.2.2.2.2.1) (d57.below W56.heap.size)) (And.intro (kept_call (HW56.out.2.2.2.2.2.2.1) (d57.below W56.heap.size)) (And.intro (kept_call (HW56.out.2.2.2.2.2.2.2.1) (d57.below W56.heap.size)) (And.intro (kept_call (HW56.out.2.2.2.2.2.2.2.2.1) (d57.below W56.heap.size)) (And.intro (kept_call (HW56.out.2.2.2.2.2.2.2.2.2.1) (d57.below W56.heap.size)) (And.intro (kept_call (HW56.out.2.2.2.2.2.2.2.2.2.2.1) (d57.below W56.heap.size)) (kept_call (HW56.out.2.2.2.2.2.2.2.2.2.2.2) (d57.below W56.heap.size)))))))))))))
        clear d57
        go_wp2_with fail
        refine (rInts_same _ _ _ zs.length zs (Sees.owns (HW57.out.2.2.2.2.2.2.2.2.2.2.1)) (Sees.owns (HW57.out.2.1)) (by unfold maxLen; omega)).mono ?_
        rintro e W58 ⟨rfl, d58⟩
        have HW58 := Go.Lib.hid (And.intro (Below.trans (HW57.out.1) (((d58.below W57.heap.size)).mono (Below.size (HW57.out.1)))) (And.intro (kept_call (HW57.out.2.1) (d58.below W57.heap.size)) (And.intro (kept_call (HW57.out.2.2.1) (d58.below W57.heap.size)) (And.intro (kept_call (HW57.out.2.2.2.1) (d58.below W57.heap.size)) (And.intro (kept_call (HW57.out.2.2.2.2.1) (d58.below W57.heap.size)) (And.intro (kept_call (HW57.out.2.2.2.2.2.1) (d58.below W57.heap.size)) (And.intro (kept_call (HW57.out.2.2.2.2.2.2.1) (d58.below W57.heap.size)) (And.intro (kept_call (HW57.out.2.2.2.2.2.2.2.1) (d58.below W57.heap.size)) (And.intro (kept_call (HW57.out.2.2.2.2.2.2.2.2.1) (d58.below W57.heap.size)) (And.intro (kept_call (HW57.out.2.2.2.2.2.2.2.2.2.1) (d58.below W57.heap.size)) (And.intro (kept_call (HW57.out.2.2.2.2.2.2.2.2.2.2.1) (d58.below W57.heap.size)) (kept_call (HW57.out.2.2.2.2.2.2.2.2.2.2.2) (d58.below W57.heap.size)))))))))))))
        clear d58
        go_wp2_with fail
        refine (rInts_same _ _ _ zs.length zs (Sees.owns (HW58.out.2.2.2.2.2.2.2.2.2.2.2)) (Sees.owns (HW58.out.2.1)) (by unfold maxLen; omega)).mono ?_
        rintro e W59 ⟨rfl, d59⟩
        have HW59 := Go.Lib.hid (And.intro (Below.trans (HW58.out.1) (((d59.below W58.heap.size)).mono (Below.size (HW58.out.1)))) (And.intro (kept_call (HW58.out.2.1) (d59.below W58.heap.size)) (And.intro (kept_call (HW58.out.2.2.1) (d59.below W58.heap.size)) (And.intro (kept_call (HW58.out.2.2.2.1) (d59.below W58.heap.size)) (And.intro (kept_call (HW58.out.2.2.2.2.1) (d59.below W58.heap.size)) (And.intro (kept_call (HW58.out.2.2.2.2.2.1) (d59.below W58.heap.size)) (And.intro (kept_call (HW58.out.2.2.2.2.2.2.1) (d59.below W58.heap.size)) (And.intro (kept_call (HW58.out.2.2.2.2.2.2.2.1) (d59.below W58.heap.size)) (And.intro (kept_call (HW58.out.2.2.2.2.2.2.2.2.1) (d59.below W58.heap.size)) (And.intro (kept_call (HW58.out.2.2.2.2.2.2.2.2.2.1) (d59.below W58.heap.size)) (And.intro (kept_call (HW58.out.2.2.2.2.2.2.2.2.2.2.1) (d59.below W58.heap.size)) (kept_call (HW58.out.2.2.2.2.2.2.2.2.2.2.2) (d59.below W58.heap.size)))))))))))))
        clear d59
        go_wp2_with fail
        go_ret
        exact ⟨rfl, HW59.out.1⟩
  case true =>
    have Q7 := Go.Lib.hid (implRank la ka true (H7.out rfl) (by omega))
    go_wp2_with fail
    refine (Q7.out _ _ _ (Sees.owns (HWd36.out.2.2.2.2.2.1))).mono ?_
    rintro e W60 ⟨rfl, b60⟩
    have HW60 := Go.Lib.hid (And.intro (Below.trans (HWd36.out.1) ((b60).mono (Below.size (HWd36.out.1)))) (And.intro (kept_call (HWd36.out.2.1) b60) (And.intro (kept_call (HWd36.out.2.2.1) b60) (And.intro (kept_call (HWd36.out.2.2.2.1) b60) (And.intro (kept_call (HWd36.out.2.2.2.2.1) b60) (And.intro (kept_call (HWd36.out.2.2.2.2.2.1) b60) (kept_call (HWd36.out.2.2.2.2.2.2) b60)))))))
    clear b60
    clear Q7
    cases s8
    case false =>
      cases r
      case false =>
        go_wp2_with fail
        go_ret
        exact ⟨rfl, HW60.out.1⟩
      case true =>
        obtain ⟨fw, m1, m2, tt, k1, k2, k3, k4, k5, k6, q1, q2, q3, q4, q5, hw1, hw2⟩ := HREST.out rfl
        have I3 := Go.Lib.hid (implInverse iv zs true k1 (by omega))
        have M3 := Go.Lib.hid (implCompose zs iv (iota zs.length) true k2 (by omega) (by omega))
        have B3 := Go.Lib.hid (implBack bk zs true k3 (by omega))
        have T3 := Go.Lib.hid (implOther ot zs true k4 (by omega))
        have V3 := Go.Lib.hid (implInvs bk fw true k5 (by omega))
        have A3 := Go.Lib.hid (implAt (zs.length : Nat) rk zs true k6 hw1 hw2)
        have hil := iota_len zs.length
        clear k1 k2 k3 k4 k5 k6 hw1 hw2 HREST H7 H8
        go_wp2_with fail
        refine (I3.out _ _ _ (Sees.owns (HW60.out.2.2.1))).mono ?_
        rintro e W61 ⟨v61, rfl, o61, b61⟩
        have HW61 := Go.Lib.hid (And.intro (Below.trans (HW60.out.1) ((b61).mono (Below.size (HW60.out.1)))) (And.intro (kept_call (HW60.out.2.1) b61) (And.intro (kept_call (HW60.out.2.2.1) b61) (And.intro (kept_call (HW60.out.2.2.2.1) b61) (And.intro (kept_call (HW60.out.2.2.2.2.1) b61) (And.intro (kept_call (HW60.out.2.2.2.2.2.1) b61) (And.intro (kept_call (HW60.out.2.2.2.2.2.2) b61) (own_lower (o61) (Below.size (HW60.out.1))))))))))
        clear o61 b61
        go_wp2_with fail
        refine (M3.out _ _ _ (Sees.owns (HW61.out.2.1)) _ _ (Sees.owns (HW61.out.2.2.1))).mono ?_
        rintro e W62 ⟨v62, rfl, o62, b62⟩
        have HW62 := Go.Lib.hid (And.intro (Below.trans (HW61.out.1) ((b62).mono (Below.size (HW61.out.1)))) (And.intro (kept_call (HW61.out.2.1) b62) (And.intro (kept_call (HW61.out.2.2.1) b62) (And.intro (kept_call (HW61.out.2.2.2.1) b62) (And.intro (kept_call (HW61.out.2.2.2.2.1) b62) (And.intro (kept_call (HW61.out.2.2.2.2.2.1) b62) (And.intro (kept_call (HW61.out.2.2.2.2.2.2.1) b62) (And.intro (kept_call (HW61.out.2.2.2.2.2.2.2) b62) (own_lower (o62) (Below.size (HW61.out.1)))))))))))
        clear o62 b62
        go_wp2_with fail
        refine (B3.out _ _ _ (Sees.owns (HW62.out.2.2.2.1))).mono ?_
        rintro e W63 ⟨v63, rfl, o63, b63⟩
        have HW63 := Go.Lib.hid (And.intro (Below.trans (HW62.out.1) ((b63).mono (Below.size (HW62.out.1)))) (And.intro (kept_call (HW62.out.2.1) b63) (And.intro (kept_call (HW62.out.2.2.1) b63) (And.intro (kept_call (HW62.out.2.2.2.1) b63) (And.intro (kept_call (HW62.out.2.2.2.2.1) b63) (And.intro (kept_call (HW62.out.2.2.2.2.2.1) b63) (And.intro (kept_call (HW62.out.2.2.2.2.2.2.1) b63) (And.intro (kept_call (HW62.out.2.2.2.2.2.2.2.1) b63) (And.intro (kept_call (HW62.out.2.2.2.2.2.2.2.2) b63) (own_lower (o63) (Below.size (HW62.out.1))))))))))))
        clear o63 b63
        go_wp2_with fail
        refine (T3.out _ _ _ (Sees.owns (HW63.out.2.2.2.2.1))).mono ?_
        rintro e W64 ⟨v64, rfl, o64, b64⟩
        have HW64 := Go.Lib.hid (And.intro (Below.trans (HW63.out.1) ((b64).mono (Below.size (HW63.out.1)))) (And.intro (kept_call (HW63.out.2.1) b64) (And.intro (kept_call (HW63.out.2.2.1) b64) (And.intro (kept_call (HW63.out.2.2.2.1) b64) (And.intro (kept_call (HW63.out.2.2.2.2.1) b64) (And.intro (kept_call (HW63.out.2.2.2.2.2.1) b64) (And.intro (kept_call (HW63.out.2.2.2.2.2.2.1) b64) (And.intro (kept_call (HW63.out.2.2.2.2.2.2.2.1) b64) (And.intro (kept_call (HW63.out.2.2.2.2.2.2.2.2.1) b64) (And.intro (kept_call (HW63.out.2.2.2.2.2.2.2.2.2) b64) (own_lower (o64) (Below.size (HW63.out.1)))))))))))))
        clear o64 b64
        go_wp2_with fail
        refine (V3.out _ _ _ (Sees.owns (HW64.out.2.2.2.1))).mono ?_
        rintro e W65 ⟨rfl, b65⟩
        have HW65 := Go.Lib.hid (And.intro (Below.trans (HW64.out.1) ((b65).mono (Below.size (HW64.out.1)))) (And.intro (kept_call (HW64.out.2.1) b65) (And.intro (kept_call (HW64.out.2.2.1) b65) (And.intro (kept_call (HW64.out.2.2.2.1) b65) (And.intro (kept_call (HW64.out.2.2.2.2.1) b65) (And.intro (kept_call (HW64.out.2.2.2.2.2.1) b65) (And.intro (kept_call (HW64.out.2.2.2.2.2.2.1) b65) (And.intro (kept_call (HW64.out.2.2.2.2.2.2.2.1) b65) (And.intro (kept_call (HW64.out.2.2.2.2.2.2.2.2.1) b65) (And.intro (kept_call (HW64.out.2.2.2.2.2.2.2.2.2.1) b65) (kept_call (HW64.out.2.2.2.2.2.2.2.2.2.2) b65)))))))))))
        clear b65
        go_wp2_with fail
        refine (A3.out _).mono ?_
        rintro e W66 ⟨v66, rfl, o66, b66⟩
        have HW66 := Go.Lib.hid (And.intro (Below.trans (HW65.out.1) ((b66).mono (Below.size (HW65.out.1)))) (And.intro (kept_call (HW65.out.2.1) b66) (And.intro (kept_call (HW65.out.2.2.1) b66) (And.intro (kept_call (HW65.out.2.2.2.1) b66) (And.intro (kept_call (HW65.out.2.2.2.2.1) b66) (And.intro (kept_call (HW65.out.2.2.2.2.2.1) b66) (And.intro (kept_call (HW65.out.2.2.2.2.2.2.1) b66) (And.intro (kept_call (HW65.out.2.2.2.2.2.2.2.1) b66) (And.intro (kept_call (HW65.out.2.2.2.2.2.2.2.2.1) b66) (And.intro (kept_call (HW65.out.2.2.2.2.2.2.2.2.2.1) b66) (And.intro (kept_call (HW65.out.2.2.2.2.2.2.2.2.2.2) b66) (own_lower (o66) (Below.size (HW65.out.1))))))))))))))
        clear o66 b66
        go_wp2_with fail
        refine (rInts_same _ _ _ zs.length zs (Sees.owns (HW66.out.2.2.2.2.2.2.2.1)) (Sees.owns (HW66.out.2.1)) (by unfold maxLen; omega)).mono ?_
        rintro e W67 ⟨rfl, d67⟩
        have HW67 := Go.Lib.hid (And.intro (Below.trans (HW66.out.1) (((d67.below W66.heap.size)).mono (Below.size (HW66.out.1)))) (And.intro (kept_call (HW66.out.2.1) (d67.below W66.heap.size)) (And.intro (kept_call (HW66.out.2.2.1) (d67.below W66.heap.size)) (And.intro (kept_call (HW66.out.2.2.2.1) (d67.below W66.heap.size)) (And.intro (kept_call (HW66.out.2.2.2.2.1) (d67.below W66.heap.size)) (And.intro (kept_call (HW66.out.2.2.2.2.2.1) (d67.below W66.heap.size)) (And.intro (kept_call (HW66.out.2.2.2.2.2.2.1) (d67.below W66.heap.size)) (And.intro (kept_call (HW66.out.2.2.2.2.2.2.2.1) (d67.below W66.heap.size)) (And.intro (kept_call (HW66.out.2.2.2.2.2.2.2.2.1) (d67.below W66.heap.size)) (And.intro (kept_call (HW66.out.2.2.2.2.2.2.2.2.2.1) (d67.below W66.heap.size)) (And.intro (kept_call (HW66.out.2.2.2.2.2.2.2.2.2.2.1) (d67.below W66.heap.size)) (kept_call (HW66.out.2.2.2.2.2.2.2.2.2.2.2) (d67.below W66.heap.size)))))))))))))
        clear d67
        go_wp2_with fail
        refine (rSorted_same _ _ zs.length (by have := Sees.owns (HW67.out.2.2.2.2.2.2.2.2.1); rw [hil] at this; exact this) (by omega)).mono ?_
        rintro e W68 ⟨rfl, d68⟩
        have HW68 := Go.Lib.hid (And.intro (Below.trans (HW67.out.1) (((d68.below W67.heap.size)).mono (Below.size (HW67.out.1)))) (And.intro (kept_call (HW67.out.2.1) (d68.below W67.heap.size)) (And.intro (kept_call (HW67.out.2.2.1) (d68.below W67.heap.size)) (And.intro (kept_call (HW67.out.2.2.2.1) (d68.below W67.heap.size)) (And.intro (kept_call (HW67.out.2.2.2.2.1) (d68.below W67.heap.size)) (And.intro (kept_call (HW67.out.2.2.2.2.2.1) (d68.below W67.heap.size)) (And.intro (kept_call (HW67.out.2.2.2.2.2.2.1) (d68.below W67.heap.size)) (And.intro (kept_call (HW67.out.2.2.2.2.2.2.2.1) (d68.below W67.heap.size)) (And.intro (kept_call (HW67.out.2.2.2.2.2.2.2.2.1) (d68.below W67.heap.size)) (And.intro (kept_call (HW67.out.2.2.2.2.2.2.2.2.2.1) (d68.below W67.heap.size)) (And.intro (kept_call (HW67.out.2.2.2.2.2.2.2.2.2.2.1) (d68.below W67.heap.size)) (kept_call (HW67.out.2.2.2.2.2.2.2.2.2.2.2) (d68.below W67.heap.size)))))))))))))
        clear d68
        go_wp2_with fail
        refine (rInts_same _ _ _ zs.length zs (Sees.owns (HW68.out.2.2.2.2.2.2.2.2.2.1)) (Sees.owns (HW68.out.2.1)) (by unfold maxLen; omega)).mono ?_
        rintro e W69 ⟨rfl, d69⟩
        have HW69 := Go.Lib.hid (And.intro (Below.trans (HW68.out.1) (((d69.below W68.heap.size)).mono (Below.size (HW68.out.1)))) (And.intro (kept_call (HW68.out.2.1) (d69.below W68.heap.size)) (And.intro (kept_call (HW68.out.2.2.1) (d69.below W68.heap.size)) (And.intro (kept_call (HW68.out.2.2.2.1) (d69.below W68.heap.size)) (And.intro (kept_call (HW68.out.2.2.2.2.1) (d69.below W68.heap.size)) (And.intro (kept_call (HW68.out.2.2.2.2.2.1) (d69.below W68.heap.size)) (And.intro (kept_call (HW68.out.2.2.2.2.2.2.1) (d69.below W68.heap.size)) (And.intro (kept_call (HW68.out.2.2.2.2.2.2.2.1) (d69.below W68.heap.size)) (And.intro (kept_call (HW68.out.2.2.2.2.2.2.2.2.1) (d69.below W68.heap.size)) (And.intro (kept_call (HW68.out.2.2.2.2.2.2.2.2.2.1) (d69.below W68.heap.size)) (And.intro (kept_call (HW68.out.2.2.2.2.2.2.2.2.2.2.1) (d69.below W68.heap.size)) (kept_call (HW68.out.2.2.2.2.2.2.2.2.2.2.2) (d69.below W68.heap.size)))))))))))))
        clear d69
        go_wp2_with fail
        refine (rInts_same _ _ _ zs.length zs (Sees.owns (HW69.out.2.2.2.2.2.2.2.2.2.2.1)) (Sees.owns (HW69.out.2.1)) (by unfold maxLen; omega)).mono ?_
        rintro e W70 ⟨rfl, d70⟩
        have HW70 := Go.Lib.hid (And.intro (Below.trans (HW69.out.1) (((d70.below W69.heap.size)).mono (Below.size (HW69.out.1)))) (And.intro (kept_call (HW69.out.2.1) (d70.below W69.heap.size)) (And.intro (kept_call (HW69.out.2.2.1) (d70.below W69.heap.size)) (And.intro (kept_call (HW69.out.2.2.2.1) (d70.below W69.heap.size)) (And.intro (kept_call (HW69.out.2.2.2.2.1) (d70.below W69.heap.size)) (And.intro (kept_call (HW69.out.2.2.2.2.2.1) (d70.below W69.heap.size)) (And.intro (kept_call (HW69.out.2.2.2.2.2.2.1) (d70.below W69.heap.size)) (And.intro (kept_call (HW69.out.2.2.2.2.2.2.2.1) (d70.below W69.heap.size)) (And.intro (kept_call (HW69.out.2.2.2.2.2.2.2.2.1) (d70.below W69.heap.size)) (And.intro (kept_call (HW69.out.2.2.2.2.2.2.2.2.2.1) (d70.below W69.heap.size)) (And.intro (kept_call (HW69.out.2.2.2.2.2.2.2.2.2.2.1) (d70.below W69.heap.size)) (kept_call (HW69.out.2.2.2.2.2.2.2.2.2.2.2) (d70.below W69.heap.size)))))))))))))
        clear d70
        go_wp2_with fail
        refine (rInts_same _ _ _ zs.length zs (Sees.owns (HW70.out.2.2.2.2.2.2.2.2.2.2.2)) (Sees.owns (HW70.out.2.1)) (by unfold maxLen; omega)).mono ?_
        rintro e W71 ⟨rfl, d71⟩
        have HW71 := Go.Lib.hid (And.intro (Below.trans (HW70.out.1) (((d71.below W70.heap.size)).mono (Below.size (HW70.out.1)))) (And.intro (kept_call (HW70.out.2.1) (d71.below W70.heap.size)) (And.intro (kept_call (HW70.out.2.2.1) (d71.below W70.heap.size)) (And.intro (kept_call (HW70.out.2.2.2.1) (d71.below W70.heap.size)) (And.intro (kept_call (HW70.out.2.2.2.2.1) (d71.below W70.heap.size)) (And.intro (kept_call (HW70.out.2.2.2.2.2.1) (d71.below W70.heap.size)) (And.intro (kept_call (HW70.out.2.2.2.2.2.2.1) (d71.below W70.heap.size)) (And.intro (kept_call (HW70.out.2.2.2.2.2.2.2.1) (d71.below W70.heap.size)) (And.intro (kept_call (HW70.out.2.2.2.2.2.2.2.2.1) (d71.below W70.heap.size)) (And.intro (kept_call (HW70.out.2.2.2.2.2.2.2.2.2.1) (d71.below W70.heap.size)) (And.intro (kept_call (HW70.out.2.2.2.2.2.2.2.2.2.2.1) (d71.below W70.heap.size)) (kept_call (HW70.out.2.2.2.2.2.2.2.2.2.2.2) (d71.below W70.heap.size)))))))))))))
        clear d71
        go_wp2_with fail
        go_ret
        exact ⟨rfl, HW71.out.1⟩
    case true =>
      have Q8 := Go.Lib.hid (implText rd sa true (H8.out rfl) (by omega))
      go_wp2_with fail
      refine (Q8.out _ _ _ (Sees.owns (HW60.out.2.2.2.2.2.2))).mono ?_
      rintro e W72 ⟨rfl, b72⟩
      have HW72 := Go.Lib.hid (And.intro (Below.trans (HW60.out.1) ((b72).mono (Below.size (HW60.out.1)))) (And.intro (kept_call (HW60.out.2.1) b72) (And.intro (kept_call (HW60.out.2.2.1) b72) (And.intro (kept_call (HW60.out.2.2.2.1) b72) (And.intro (kept_call (HW60.out.2.2.2.2.1) b72) (And.intro (kept_call (HW60.out.2.2.2.2.2.1) b72) (kept_call (HW60.out.2.2.2.2.2.2) b72)))))))
      clear b72
      clear Q8
      cases r
      case false =>
        go_wp2_with fail
        go_ret
        exact ⟨rfl, HW72.out.1⟩
      case true =>
        obtain ⟨fw, m1, m2, tt, k1, k2, k3, k4, k5, k6, q1, q2, q3, q4, q5, hw1, hw2⟩ := HREST.out rfl
        have I3 := Go.Lib.hid (implInverse iv zs true k1 (by omega))
        have M3 := Go.Lib.hid (implCompose zs iv (iota zs.length) true k2 (by omega) (by omega))
        have B3 := Go.Lib.hid (implBack bk zs true k3 (by omega))
        have T3 := Go.Lib.hid (implOther ot zs true k4 (by omega))
        have V3 := Go.Lib.hid (implInvs bk fw true k5 (by omega))
        have A3 := Go.Lib.hid (implAt (zs.length : Nat) rk zs true k6 hw1 hw2)
        have hil := iota_len zs.length
        clear k1 k2 k3 k4 k5 k6 hw1 hw2 HREST H7 H8
        go_wp2_with fail
        refine (I3.out _ _ _ (Sees.owns (HW72.out.2.2.1))).mono ?_
        rintro e W73 ⟨v73, rfl, o73, b73⟩
        have HW73 := Go.Lib.hid (And.intro (Below.trans (HW72.out.1) ((b73).mono (Below.size (HW72.out.1)))) (And.intro (kept_call (HW72.out.2.1) b73) (And.intro (kept_call (HW72.out.2.2.1) b73) (And.intro (kept_call (HW72.out.2.2.2.1) b73) (And.intro (kept_call (HW72.out.2.2.2.2.1) b73) (And.intro (kept_call (HW72.out.2.2.2.2.2.1) b73) (And.intro (kept_call (HW72.out.2.2.2.2.2.2) b73) (own_lower (o73) (Below.size (HW72.out.1))))))))))
        clear o73 b73
        go_wp2_with fail
        refine (M3.out _ _ _ (Sees.owns (HW73.out.2.1)) _ _ (Sees.owns (HW73.out.2.2.1))).mono ?_
        rintro e W74 ⟨v74, rfl, o74, b74⟩
        have HW74 := Go.Lib.hid (And.intro (Below.trans (HW73.out.1) ((b74).mono (Below.size (HW73.out.1)))) (And.intro (kept_call (HW73.out.2.1) b74) (And.intro (kept_call (HW73.out.2.2.1) b74) (And.intro (kept_call (HW73.out.2.2.2.1) b74) (And.intro (kept_call (HW73.out.2.2.2.2.1) b74) (And.intro (kept_call (HW73.out.2.2.2.2.2.1) b74) (And.intro (kept_call (HW73.out.2.2.2.2.2.2.1) b74) (And.intro (kept_call (HW73.out.2.2.2.2.2.2.2) b74) (own_lower (o74) (Below.size (HW73.out.1)))))))))))
        clear o74 b74
        go_wp2_with fail
        refine (B3.out _ _ _ (Sees.owns (HW74.out.2.2.2.1))).mono ?_
        rintro e W75 ⟨v75, rfl, o75, b75⟩
        have HW75 := Go.Lib.hid (And.intro (Below.trans (HW74.out.1) ((b75).mono (Below.size (HW74.out.1)))) (And.intro (kept_call (HW74.out.2.1) b75) (And.intro (kept_call (HW74.out.2.2.1) b75) (And.intro (kept_call (HW74.out.2.2.2.1) b75) (And.intro (kept_call (HW74.out.2.2.2.2.1) b75) (And.intro (kept_call (HW74.out.2.2.2.2.2.1) b75) (And.intro (kept_call (HW74.out.2.2.2.2.2.2.1) b75) (And.intro (kept_call (HW74.out.2.2.2.2.2.2.2.1) b75) (And.intro (kept_call (HW74.out.2.2.2.2.2.2.2.2) b75) (own_lower (o75) (Below.size (HW74.out.1))))))))))))
        clear o75 b75
        go_wp2_with fail
        refine (T3.out _ _ _ (Sees.owns (HW75.out.2.2.2.2.1))).mono ?_
        rintro e W76 ⟨v76, rfl, o76, b76⟩
        have HW76 := Go.Lib.hid (And.intro (Below.trans (HW75.out.1) ((b76).mono (Below.size (HW75.out.1)))) (And.intro (kept_call (HW75.out.2.1) b76) (And.intro (kept_call (HW75.out.2.2.1) b76) (And.intro (kept_call (HW75.out.2.2.2.1) b76) (And.intro (kept_call (HW75.out.2.2.2.2.1) b76) (And.intro (kept_call (HW75.out.2.2.2.2.2.1) b76) (And.intro (kept_call (HW75.out.2.2.2.2.2.2.1) b76) (And.intro (kept_call (HW75.out.2.2.2.2.2.2.2.1) b76) (And.intro (kept_call (HW75.out.2.2.2.2.2.2.2.2.1) b76) (And.intro (kept_call (HW75.out.2.2.2.2.2.2.2.2.2) b76) (own_lower (o76) (Below.size (HW75.out.1)))))))))))))
        clear o76 b76
        go_wp2_with fail
        refine (V3.out _ _ _ (Sees.owns (HW76.out.2.2.2.1))).mono ?_
        rintro e W77 ⟨rfl, b77⟩
        have HW77 := Go.Lib.hid (And.intro (Below.trans (HW76.out.1) ((b77).mono (Below.size (HW76.out.1)))) (And.intro (kept_call (HW76.out.2.1) b77) (And.intro (kept_call (HW76.out.2.2.1) b77) (And.intro (kept_call (HW76.out.2.2.2.1) b77) (And.intro (kept_call (HW76.out.2.2.2.2.1) b77) (And.intro (kept_call (HW76.out.2.2.2.2.2.1) b77) (And.intro (kept_call (HW76.out.2.2.2.2.2.2.1) b77) (And.intro (kept_call (HW76.out.2.2.2.2.2.2.2.1) b77) (And.intro (kept_call (HW76.out.2.2.2.2.2.2.2.2.1) b77) (And.intro (kept_call (HW76.out.2.2.2.2.2.2.2.2.2.1) b77) (kept_call (HW76.out.2.2.2.2.2.2.2.2.2.2) b77)))))))))))
        clear b77
        go_wp2_with fail
        refine (A3.out _).mono ?_
        rintro e W78 ⟨v78, rfl, o78, b78⟩
        have HW78 := Go.Lib.hid (And.intro (Below.trans (HW77.out.1) ((b78).mono (Below.size (HW77.out.1)))) (And.intro (kept_call (HW77.out.2.1) b78) (And.intro (kept_call (HW77.out.2.2.1) b78) (And.intro (kept_call (HW77.out.2.2.2.1) b78) (And.intro (kept_call (HW77.out.2.2.2.2.1) b78) (And.intro (kept_call (HW77.out.2.2.2.2.2.1) b78) (And.intro (kept_call (HW77.out.2.2.2.2.2.2.1) b78) (And.intro (kept_call (HW77.out.2.2.2.2.2.2.2.1) b78) (And.intro (kept_call (HW77.out.2.2.2.2.2.2.2.2.1) b78) (And.intro (kept_call (HW77.out.2.2.2.2.2.2.2.2.2.1) b78) (And.intro (kept_call (HW77.out.2.2.2.2.2.2.2.2.2.2) b78) (own_lower (o78) (Below.size (HW77.out.1))))))))))))))
        clear o78 b78
        go_wp2_with fail
        refine (rInts_same _ _ _ zs.length zs (Sees.owns (HW78.out.2.2.2.2.2.2.2.1)) (Sees.owns (HW78.out.2.1)) (by unfold maxLen; omega)).mono ?_
        rintro e W79 ⟨rfl, d79⟩
        have HW79 := Go.Lib.hid (And.intro (Below.trans (HW78.out.1) (((d79.below W78.heap.size)).mono (Below.size (HW78.out.1)))) (And.intro (kept_call (HW78.out.2.1) (d79.below W78.heap.size)) (And.intro (kept_call (HW78.out.2.2.1) (d79.below W78.heap.size)) (And.intro (kept_call (HW78.out.2.2.2.1) (d79.below W78.heap.size)) (And.intro (kept_call (HW78.out.2.2.2.2.1) (d79.below W78.heap.size)) (And.intro (kept_call (HW78.out.2.2.2.2.2.1) (d79.below W78.heap.size)) (And.intro (kept_call (HW78.out.2.2.2.2.2.2.1) (d79.below W78.heap.size)) (And.intro (kept_call (HW78.out.2.2.2.2.2.2.2.1) (d79.below W78.heap.size)) (And.intro (kept_call (HW78.out.2.2.2.2.2.2.2.2.1) (d79.below W78.heap.size)) (And.intro (kept_call (HW78.out.2.2.2.2.2.2.2.2.2.1) (d79.below W78.heap.size)) (And.intro (kept_call (HW78.out.2.2.2.2.2.2.2.2.2.2.1) (d79.below W78.heap.size)) (kept_call (HW78.out.2.2.2.2.2.2.2.2.2.2.2) (d79.below W78.heap.size)))))))))))))
        clear d79
        go_wp2_with fail
        refine (rSorted_same _ _ zs.length (by have := Sees.owns (HW79.out.2.2.2.2.2.2.2.2.1); rw [hil] at this; exact this) (by omega)).mono ?_
        rintro e W80 ⟨rfl, d80⟩
        have HW80 := Go.Lib.hid (And.intro (Below.trans (HW79.out.1) (((d80.below W79.heap.size)).mono (Below.size (HW79.out.1)))) (And.intro (kept_call (HW79.out.2.1) (d80.below W79.heap.size)) (And.intro (kept_call (HW79.out.2.2.1) (d80.below W79.heap.size)) (And.intro (kept_call (HW79.out.2.2.2.1) (d80.below W79.heap.size)) (And.intro (kept_call (HW79.out.2.2.2.2.1) (d80.below W79.heap.size)) (And.intro (kept_call (HW79.out.2.2.2.2.2.1) (d80.below W79.heap.size)) (And.intro (kept_call (HW79.out.2.2.2.2.2.2.1) (d80.below W79.heap.size)) (And.intro (kept_call (HW79.out.2.2.2.2.2.2.2.1) (d80.below W79.heap.size)) (And.intro (kept_call (HW79.out.2.2.2.2.2.2.2.2.1) (d80.below W79.heap.size)) (And.intro (kept_call (HW79.out.2.2.2.2.2.2.2.2.2.1) (d80.below W79.heap.size)) (And.intro (kept_call (HW79.out.2.2.2.2.2.2.2.2.2.2.1) (d80.below W79.heap.size)) (kept_call (HW79.out.2.2.2.2.2.2.2.2.2.2.2) (d80.below W79.heap.size)))))))))))))
        clear d80
        go_wp2_with fail
        refine (rInts_same _ _ _ zs.length zs (Sees.owns (HW80.out.2.2.2.2.2.2.2.2.2.1)) (Sees.owns (HW80.out.2.1)) (by unfold maxLen; omega)).mono ?_
        rintro e W81 ⟨rfl, d81⟩
        have HW81 := Go.Lib.hid (And.intro (Below.trans (HW80.out.1) (((d81.below W80.heap.size)).mono (Below.size (HW80.out.1)))) (And.intro (kept_call (HW80.out.2.1) (d81.below W80.heap.size)) (And.intro (kept_call (HW80.out.2.2.1) (d81.below W80.heap.size)) (And.intro (kept_call (HW80.out.2.2.2.1) (d81.below W80.heap.size)) (And.intro (kept_call (HW80.out.2.2.2.2.1) (d81.below W80.heap.size)) (And.intro (kept_call (HW80.out.2.2.2.2.2.1) (d81.below W80.heap.size)) (And.intro (kept_call (HW80.out.2.2.2.2.2.2.1) (d81.below W80.heap.size)) (And.intro (kept_call (HW80.out.2.2.2.2.2.2.2.1) (d81.below W80.heap.size)) (And.intro (kept_call (HW80.out.2.2.2.2.2.2.2.2.1) (d81.below W80.heap.size)) (And.intro (kept_call (HW80.out.2.2.2.2.2.2.2.2.2.1) (d81.below W80.heap.size)) (And.intro (kept_call (HW80.out.2.2.2.2.2.2.2.2.2.2.1) (d81.below W80.heap.size)) (kept_call (HW80.out.2.2.2.2.2.2.2.2.2.2.2) (d81.below W80.heap.size)))))))))))))
        clear d81
        go_wp2_with fail
        refine (rInts_same _ _ _ zs.length zs (Sees.owns (HW81.out.2.2.2.2.2.2.2.2.2.2.1)) (Sees.owns (HW81.out.2.1)) (by unfold maxLen; omega)).mono ?_
        rintro e W82 ⟨rfl, d82⟩
        have HW82 := Go.Lib.hid (And.intro (Below.trans (HW81.out.1) (((d82.below W81.heap.size)).mono (Below.size (HW81.out.1)))) (And.intro (kept_call (HW81.out.2.1) (d82.below W81.heap.size)) (And.intro (kept_call (HW81.out.2.2.1) (d82.below W81.heap.size)) (And.intro (kept_call (HW81.out.2.2.2.1) (d82.below W81.heap.size)) (And.intro (kept_call (HW81.out.2.2.2.2.1) (d82.below W81.heap.size)) (And.intro (kept_call (HW81.out.2.2.2.2.2.1) (d82.below W81.heap.size)) (And.intro (kept_call (HW81.out.2.2.2.2.2.2.1) (d82.below W81.heap.size)) (And.intro (kept_call (HW81.out.2.2.2.2.2.2.2.1) (d82.below W81.heap.size)) (And.intro (kept_call (HW81.out.2.2.2.2.2.2.2.2.1) (d82.below W81.heap.size)) (And.intro (kept_call (HW81.out.2.2.2.2.2.2.2.2.2.1) (d82.below W81.heap.size)) (And.intro (kept_call (HW81.out.2.2.2.2.2.2.2.2.2.2.1) (d82.below W81.heap.size)) (kept_call (HW81.out.2.2.2.2.2.2.2.2.2.2.2) (d82.below W81.heap.size)))))))))))))
        clear d82
        go_wp2_with fail
        refine (rInts_same _ _ _ zs.length zs (Sees.owns (HW82.out.2.2.2.2.2.2.2.2.2.2.2)) (Sees.owns (HW82.out.2.1)) (by unfold maxLen; omega)).mono ?_
        rintro e W83 ⟨rfl, d83⟩
        have HW83 := Go.Lib.hid (And.intro (Below.trans (HW82.out.1) (((d83.below W82.heap.size)).mono (Below.size (HW82.out.1)))) (And.intro (kept_call (HW82.out.2.1) (d83.below W82.heap.size)) (And.intro (kept_call (HW82.out.2.2.1) (d83.below W82.heap.size)) (And.intro (kept_call (HW82.out.2.2.2.1) (d83.below W82.heap.size)) (And.intro (kept_call (HW82.out.2.2.2.2.1) (d83.below W82.heap.size)) (And.intro (kept_call (HW82.out.2.2.2.2.2.1) (d83.below W82.heap.size)) (And.intro (kept_call (HW82.out.2.2.2.2.2.2.1) (d83.below W82.heap.size)) (And.intro (kept_call (HW82.out.2.2.2.2.2.2.2.1) (d83.below W82.heap.size)) (And.intro (kept_call (HW82.out.2.2.2.2.2.2.2.2.1) (d83.below W82.heap.size)) (And.intro (kept_call (HW82.out.2.2.2.2.2.2.2.2.2.1) (d83.below W82.heap.size)) (And.intro (kept_call (HW82.out.2.2.2.2.2.2.2.2.2.2.1) (d83.below W82.heap.size)) (kept_call (HW82.out.2.2.2.2.2.2.2.2.2.2.2) (d83.below W82.heap.size)))))))))))))
        clear d83
        go_wp2_with fail
        go_ret
        exact ⟨rfl, HW83.out.1⟩

/-! ### From the walk to the row -/
set_option maxRecDepth 100000 in
theorem lifted (os : Os) (started : os.Started) (H : Type) (enc : TypeId × Value → H) :
    ReturnsInHanded {} Try.checked os 10 .any (Rows.fnOrdersSpec.pre6 enc Try.prog Try.f10 Rows.fnOrdersRow.domain false) (Rows.fnOrdersSpec.post enc Try.prog Try.f10 false true false false) := by
  refine returnsInHanded_of_change (C := Try.checked) own started (by kernel_rfl) Try.func10
    (ChangeSpec.witness6 (enc := enc) (C := Try.checked) false ⟨#[], #[.slice none 0 0], []⟩ 8 (by kernel_rfl) (by kernel_rfl) (by kernel_rfl) (by kernel_rfl)) ?_
  intro W base args ds gs before hval0 hW hcnd _
  have hval : ∀ (j : Nat) t v, Try.f10.params[j]? = some t → args[j]? = some v → Value.okWide Try.prog W .any base t v := hval0
  have hW' := hW
  obtain ⟨p, q, hA0, hV, rfl, hfz, hnd⟩ := hW
  have hA : DataW.TrodAll enc Try.prog W 0 (fun _ => true) true Try.f10.params.toList args.toList ds p := hA0
  rw [Try.params10] at hA hval
  obtain ⟨u0, vs0, d0, ds0, p0, q0, hargs, rfl, rfl, h0, r0⟩ := trodAll_cons hA
  obtain ⟨rfl, rfl, rfl⟩ := trodAll_nil r0
  obtain rfl : args = #[u0] := by cases args; simp_all
  obtain ⟨rfl, rfl⟩ := trodVars_none hV
  have lt0 : ∀ x ∈ p0, x.block < W.heap.size := by obtain ⟨m, hm⟩ := h0; exact DataW.trod_lt m _ _ _ hm
  obtain ⟨n0, a0, s0, t0, w0⟩ := sees_ints Try.underlying22 Try.underlying5 (by kernel_rfl) (hval 0 22 u0 rfl rfl) h0
  clear hA0 hval0
  refine (walk u0 n0 a0 W s0 t0 w0).mono fun e W' ⟨he, bel⟩ => ?_
  subst he
  exact ⟨_, rfl, _, _, _, [], _, [], hW', trodAll_mk1 (shut_bool Try.underlying4 _), (trodAll_cons_mk (Below.trod laidOut (by kernel_rfl) (of_decide_eq_true (by kernel_rfl)) h0 bel lt0) trodAll_mk0), rfl, bel.frame _, fun h => by cases h⟩

theorem over : Rows.fnOrdersRow.holds Try.pinned (OpenSpec.ofChange Rows.fnOrdersSpec) :=
  OpenClaim.holds_of_wide 10 Try.f10 rfl rfl rfl rfl rfl rfl rfl ⟨rfl, rfl, rfl, rfl, rfl⟩ rfl rfl rfl rfl rfl (by kernel_rfl) Try.func10
    (show joinedFacts Try.prog 10 Try.f10 Rows.fnOrdersSpec Rows.fnOrdersRow = true by unfold joinedFacts; rw [SeatC.may, SeatC.lif, SeatC.mke]; kernel_rfl)
    (of_decide_eq_true (by kernel_rfl)) (by unfold Func.isWrapper; first | (rw [if_pos (by decide +kernel)]; kernel_rfl) | (rw [if_neg (by decide +kernel)]; exact ⟨rfl, rfl⟩))
    (fun os started H enc _ => lifted os started H enc)

/-- The statement. -/
theorem proved : Rows.FnOrdersSaid :=
  over
#print axioms proved
end Go.Proofs.Ytecbfoodkcgehab.fnOrders
