/-
  ..
-/
import Derived.Test.YtnhhnffolmgceaaRows
import Derived.Test.YtnhhnffolmgceaaPy0
import Derived.Test.YtnhhnffolmgceaaPy10
import Derived.WalkKit
import Derived.ProofKit
import Derived.OpenShut
import Derived.ShutString
import Derived.ChangeOld
import Derived.Below
import Derived.Test.YtnhhnffolmgceaaPy13
import Derived.Test.YtnhhnffolmgceaaPy2
import Derived.Test.YtnhhnffolmgceaaPy40
import Derived.Test.YtnhhnffolmgceaaPy41
import Derived.Test.YtnhhnffolmgceaaPy30
import Derived.Test.YtnhhnffolmgceaaPy28
import Derived.Test.YtnhhnffolmgceaaPy39
import Derived.Test.YtnhhnffolmgceaaPy33
import Derived.Test.YtnhhnffolmgceaaPy22
import Derived.Deep.CutRange

namespace Go.Proofs.Ytnhhnffolmgceaa.fnLimitedSweeps
open Go.ChangeShapes Go.WideShapes Go.ChangeAt Go.RowKit SeesC OpenC
open Go.ChangeMaps (open_string shut_string)
open IntsC ExactC OrdMath RBigC OrderC WordMath WordC RunC RunWordC ToC Sort4C Sweep4C EndsM SweepM StackM Rank4C RSortedC DrawOrdC DrawOrd2C DrawWordC Draw4C Draw10C LimW LimM LimT LimXC LimYC LimZC LimBC LimSC LimIC LimFC
set_option linter.unusedVariables false

theorem own : ownKnob Try.prog.godebug = none := by kernel_rfl
theorem laidOut : laidOutB Try.prog = true := by kernel_rfl

/-! ### The walk -/
set_option maxRecDepth 100000 in
set_option maxHeartbeats 400000000 in
theorem walk (v0 : Value) (n0 : Nat) (a0 : List Int) (w : World) (s0 : Sees w v0 n0 (a0.map (Value.int .u8))) (t0 : n0 ≤ maxLen) (w0 : ∀ z ∈ a0, (Lit.int .u8 z).wf = true) :
    Calls Try.prog 4 #[v0] w fun e w' => e = .returned (.bool true) ∧ Below w.heap.size w w' := by
  have hz : ∀ z ∈ a0, 0 ≤ z ∧ z ≤ 255 := byte_bd w0
  have hs0 := s0
  obtain ⟨_, ar, cap, rfl, _, _⟩ := hs0
  by_cases hbig : (65536 : Int) < (n0 : Int)
  · have cB := Go.Lib.hid (rBig_of w ar n0 cap true (decide_eq_true hbig))
    clear hz
    go_enter Try.func4, Try.ntmps4
    go_wp2_with fail
    refine (cB.out).mono ?_
    rintro e W1 ⟨rfl, rfl⟩
    go_wp2_with fail
    go_ret
    exact ⟨rfl, Below.refl _ _⟩
  have hn : n0 ≤ 65536 := by omega
  have cB := Go.Lib.hid (rBig_of w ar n0 cap false (decide_eq_false hbig))
  have D1 := Go.Lib.hid (fun W h => drawLS_any (.slice ar n0 cap) n0 a0 W h hz hn)
  have D2 := Go.Lib.hid (fun W h => drawMoW_any (.slice ar n0 cap) n0 a0 W h hz hn)
  have D3 := Go.Lib.hid (fun W h => drawBub_any (.slice ar n0 cap) n0 a0 W h hz hn)
  have HW0 := Go.Lib.hid (And.intro (Below.refl w.heap.size w) s0)
  clear hz s0 w0 t0
  go_enter Try.func4, Try.ntmps4
  go_wp2_with fail
  refine (cB.out).mono ?_
  rintro e Wz ⟨rfl, rfl⟩
  go_wp2_with fail
  refine (D1.out _ (HW0.out.2)).mono ?_
  rintro e W1 ⟨vO, zs, d, rfl, hz8, hd0, hd8, o1, b1⟩
  have HW1 := Go.Lib.hid (And.intro (Below.trans (HW0.out.1) ((b1).mono (Below.size (HW0.out.1)))) (And.intro (Sees.grow (HW0.out.2) b1) (own_lower (o1) (Below.size (HW0.out.1)))))
  clear o1 b1
  obtain ⟨_, aO, cO, rfl, _, _⟩ := Sees.owns (HW1.out.2.2)
  obtain ⟨sweep, ok, lw, many, two, hs, hlw, hmy, hsl, hlw60, hm0, hm7, htok, hokf, htwf⟩ := sweepD_facts zs d hz8 hd0 hd8
  have wd : (Lit.int .i64 d).wf = true := wf_small hd0 (by omega)
  have A1 := Go.Lib.hid (implLSweep zs d sweep ok hs (by omega) wd)
  have A2 := Go.Lib.hid (specLSweep zs d sweep ok hs (by omega) wd)
  have A3 := Go.Lib.hid (implLWord zs d lw ok hlw (by omega) wd)
  have A4 := Go.Lib.hid (specLWord zs d lw ok hlw (by omega) wd)
  have A5 := Go.Lib.hid (implManyD zs d many two hmy (by omega) wd)
  have A6 := Go.Lib.hid (specManyD zs d many two hmy (by omega) wd)
  have HTOK := Go.Lib.hid htok
  have HOKF := Go.Lib.hid hokf
  have HTWF := Go.Lib.hid htwf
  clear hs hlw hmy htok hokf htwf D1 cB
  go_wp2_with fail
  refine (A1.out _ _ _ (Sees.owns (HW1.out.2.2))).mono ?_
  rintro e W2 ⟨v2, rfl, o2, b2⟩
  have HW2 := Go.Lib.hid (And.intro (Below.trans (HW1.out.1) ((b2).mono (Below.size (HW1.out.1)))) (And.intro (Sees.grow (HW1.out.2.1) b2) (And.intro (kept_call (HW1.out.2.2) b2) (own_lower (o2) (Below.size (HW1.out.1))))))
  clear o2 b2
  obtain ⟨_, aS, cS, rfl, _, _⟩ := Sees.owns (HW2.out.2.2.2)
  go_wp2_with fail
  refine (A2.out _ _ _ (Sees.owns (HW2.out.2.2.1))).mono ?_
  rintro e W3 ⟨v3, rfl, o3, b3⟩
  have HW3 := Go.Lib.hid (And.intro (Below.trans (HW2.out.1) ((b3).mono (Below.size (HW2.out.1)))) (And.intro (Sees.grow (HW2.out.2.1) b3) (And.intro (kept_call (HW2.out.2.2.1) b3) (And.intro (kept_call (HW2.out.2.2.2) b3) (own_lower (o3) (Below.size (HW2.out.1)))))))
  clear o3 b3
  go_wp2_with fail
  refine (rInts_same _ _ _ sweep.length sweep (Sees.owns (HW3.out.2.2.2.1)) (Sees.owns (HW3.out.2.2.2.2)) (by unfold maxLen; omega)).mono ?_
  rintro e W4 ⟨rfl, d4⟩
  have HW4 := Go.Lib.hid (And.intro (Below.trans (HW3.out.1) (((d4.below W3.heap.size)).mono (Below.size (HW3.out.1)))) (And.intro (Sees.grow (HW3.out.2.1) (d4.below W3.heap.size)) (And.intro (kept_call (HW3.out.2.2.1) (d4.below W3.heap.size)) (And.intro (kept_call (HW3.out.2.2.2.1) (d4.below W3.heap.size)) (kept_call (HW3.out.2.2.2.2) (d4.below W3.heap.size))))))
  clear d4
  have HWd5 := Go.Lib.hid (And.intro HW4.out.1 (And.intro HW4.out.2.1 (And.intro HW4.out.2.2.1 HW4.out.2.2.2.1)))
  clear HW4
  clear A1 A2
  go_wp2_with fail
  refine (A3.out _ _ _ (Sees.owns (HWd5.out.2.2.1))).mono ?_
  rintro e W6 ⟨rfl, b6⟩
  have HW6 := Go.Lib.hid (And.intro (Below.trans (HWd5.out.1) ((b6).mono (Below.size (HWd5.out.1)))) (And.intro (Sees.grow (HWd5.out.2.1) b6) (And.intro (kept_call (HWd5.out.2.2.1) b6) (kept_call (HWd5.out.2.2.2) b6))))
  clear b6
  go_wp2_with fail
  refine (A4.out _ _ _ (Sees.owns (HW6.out.2.2.1))).mono ?_
  rintro e W7 ⟨rfl, b7⟩
  have HW7 := Go.Lib.hid (And.intro (Below.trans (HW6.out.1) ((b7).mono (Below.size (HW6.out.1)))) (And.intro (Sees.grow (HW6.out.2.1) b7) (And.intro (kept_call (HW6.out.2.2.1) b7) (kept_call (HW6.out.2.2.2) b7))))
  clear b7
  clear A3 A4
  go_wp2_with fail
  refine (A5.out _ _ _ (Sees.owns (HW7.out.2.2.1))).mono ?_
  rintro e W8 ⟨rfl, b8⟩
  have HW8 := Go.Lib.hid (And.intro (Below.trans (HW7.out.1) ((b8).mono (Below.size (HW7.out.1)))) (And.intro (Sees.grow (HW7.out.2.1) b8) (And.intro (kept_call (HW7.out.2.2.1) b8) (kept_call (HW7.out.2.2.2) b8))))
  clear b8
  go_wp2_with fail
  refine (A6.out _ _ _ (Sees.owns (HW8.out.2.2.1))).mono ?_
  rintro e W9 ⟨rfl, b9⟩
  have HW9 := Go.Lib.hid (And.intro (Below.trans (HW8.out.1) ((b9).mono (Below.size (HW8.out.1)))) (And.intro (Sees.grow (HW8.out.2.1) b9) (And.intro (kept_call (HW8.out.2.2.1) b9) (kept_call (HW8.out.2.2.2) b9))))
  clear b9
  clear A5 A6
  go_upto_region 14 with (fail)
  go_cut [125] from 28 to 307 (fun s w' => s = .bool false ∧ w' = W9)
  case first => as_aux_lemma =>
    clear HOKF HTWF
    cases two
    case false =>
      clear HTOK
      go_wp2_with fail
      go_meet
      exact ⟨rfl, rfl⟩
    case true =>
      obtain rfl : ok = true := HTOK.out rfl
      clear HTOK
      go_wp2_with fail
      go_meet
      exact ⟨rfl, rfl⟩
  case rest => as_aux_lemma =>
    obtain ⟨rfl, rfl⟩ := hcut
    clear HTOK
    go_wp2_with fail
    refine (D2.out _ (HW9.out.2.1)).mono ?_
    rintro e W10 ⟨vX, xs, e, rfl, hx8, he0, he8, o10, b10⟩
    have HW10 := Go.Lib.hid (And.intro (Below.trans (HW9.out.1) ((b10).mono (Below.size (HW9.out.1)))) (And.intro (Sees.grow (HW9.out.2.1) b10) (And.intro (kept_call (HW9.out.2.2.1) b10) (And.intro (kept_call (HW9.out.2.2.2) b10) (own_lower (o10) (Below.size (HW9.out.1)))))))
    clear o10 b10
    obtain ⟨_, aX, cX, rfl, _, _⟩ := Sees.owns (HW10.out.2.2.2.2)
    obtain ⟨most, three, hmo, hmo0, hmof⟩ := most_facts xs e
    have we : (Lit.int .i64 e).wf = true := wf_small he0 (by omega)
    have B1 := Go.Lib.hid (implMostW xs e most three hmo (by omega) we)
    have B2 := Go.Lib.hid (specMostW xs e most three hmo (by omega) we)
    have HMOF := Go.Lib.hid hmof
    clear hmo hmof D2
    go_wp2_with fail
    refine (B1.out _ _ _ (Sees.owns (HW10.out.2.2.2.2))).mono ?_
    rintro e W11 ⟨rfl, b11⟩
    have HW11 := Go.Lib.hid (And.intro (Below.trans (HW10.out.1) ((b11).mono (Below.size (HW10.out.1)))) (And.intro (Sees.grow (HW10.out.2.1) b11) (And.intro (kept_call (HW10.out.2.2.1) b11) (And.intro (kept_call (HW10.out.2.2.2.1) b11) (kept_call (HW10.out.2.2.2.2) b11)))))
    clear b11
    go_wp2_with fail
    refine (B2.out _ _ _ (Sees.owns (HW11.out.2.2.2.2))).mono ?_
    rintro e W12 ⟨rfl, b12⟩
    have HW12 := Go.Lib.hid (And.intro (Below.trans (HW11.out.1) ((b12).mono (Below.size (HW11.out.1)))) (And.intro (Sees.grow (HW11.out.2.1) b12) (And.intro (kept_call (HW11.out.2.2.1) b12) (And.intro (kept_call (HW11.out.2.2.2.1) b12) (kept_call (HW11.out.2.2.2.2) b12)))))
    clear b12
    clear B1 B2
    go_wp2_with fail
    refine (D3.out _ (HW12.out.2.1)).mono ?_
    rintro e W13 ⟨vY, ys, rfl, hy8, o13, b13⟩
    have HW13 := Go.Lib.hid (And.intro (Below.trans (HW12.out.1) ((b13).mono (Below.size (HW12.out.1)))) (And.intro (Sees.grow (HW12.out.2.1) b13) (And.intro (kept_call (HW12.out.2.2.1) b13) (And.intro (kept_call (HW12.out.2.2.2.1) b13) (And.intro (kept_call (HW12.out.2.2.2.2) b13) (own_lower (o13) (Below.size (HW12.out.1))))))))
    clear o13 b13
    have HWd14 := Go.Lib.hid (And.intro HW13.out.1 (And.intro HW13.out.2.2.1 (And.intro HW13.out.2.2.2.1 (And.intro HW13.out.2.2.2.2.1 HW13.out.2.2.2.2.2))))
    clear HW13
    obtain ⟨_, aY, cY, rfl, _, _⟩ := Sees.owns (HWd14.out.2.2.2.2)
    obtain ⟨bubble, four, hbu, hbl, hbuf⟩ := bub_facts ys hy8
    have C1 := Go.Lib.hid (implBub ys bubble four hbu (by omega))
    have C2 := Go.Lib.hid (specBub ys bubble four hbu (by omega))
    have HBUF := Go.Lib.hid hbuf
    clear hbu hbuf D3
    go_wp2_with fail
    refine (C1.out _ _ _ (Sees.owns (HWd14.out.2.2.2.2))).mono ?_
    rintro e W15 ⟨v15, rfl, o15, b15⟩
    have HW15 := Go.Lib.hid (And.intro (Below.trans (HWd14.out.1) ((b15).mono (Below.size (HWd14.out.1)))) (And.intro (kept_call (HWd14.out.2.1) b15) (And.intro (kept_call (HWd14.out.2.2.1) b15) (And.intro (kept_call (HWd14.out.2.2.2.1) b15) (And.intro (kept_call (HWd14.out.2.2.2.2) b15) (own_lower (o15) (Below.size (HWd14.out.1))))))))
    clear o15 b15
    obtain ⟨_, aB, cB2, rfl, _, _⟩ := Sees.owns (HW15.out.2.2.2.2.2)
    go_wp2_with fail
    refine (C2.out _ _ _ (Sees.owns (HW15.out.2.2.2.2.1))).mono ?_
    rintro e W16 ⟨v16, rfl, o16, b16⟩
    have HW16 := Go.Lib.hid (And.intro (Below.trans (HW15.out.1) ((b16).mono (Below.size (HW15.out.1)))) (And.intro (kept_call (HW15.out.2.1) b16) (And.intro (kept_call (HW15.out.2.2.1) b16) (And.intro (kept_call (HW15.out.2.2.2.1) b16) (And.intro (kept_call (HW15.out.2.2.2.2.1) b16) (And.intro (kept_call (HW15.out.2.2.2.2.2) b16) (own_lower (o16) (Below.size (HW15.out.1)))))))))
    clear o16 b16
    go_wp2_with fail
    refine (rInts_same _ _ _ bubble.length bubble (Sees.owns (HW16.out.2.2.2.2.2.1)) (Sees.owns (HW16.out.2.2.2.2.2.2)) (by unfold maxLen; omega)).mono ?_
    rintro e W17 ⟨rfl, d17⟩
    have HW17 := Go.Lib.hid (And.intro (Below.trans (HW16.out.1) (((d17.below W16.heap.size)).mono (Below.size (HW16.out.1)))) (And.intro (kept_call (HW16.out.2.1) (d17.below W16.heap.size)) (And.intro (kept_call (HW16.out.2.2.1) (d17.below W16.heap.size)) (And.intro (kept_call (HW16.out.2.2.2.1) (d17.below W16.heap.size)) (And.intro (kept_call (HW16.out.2.2.2.2.1) (d17.below W16.heap.size)) (And.intro (kept_call (HW16.out.2.2.2.2.2.1) (d17.below W16.heap.size)) (kept_call (HW16.out.2.2.2.2.2.2) (d17.below W16.heap.size))))))))
    clear d17
    have HWd18 := Go.Lib.hid (And.intro HW17.out.1 (And.intro HW17.out.2.1 (And.intro HW17.out.2.2.1 (And.intro HW17.out.2.2.2.1 (And.intro HW17.out.2.2.2.2.1 HW17.out.2.2.2.2.2.1)))))
    clear HW17
    clear C1 C2
    as_aux_lemma =>
    go_upto_if 172 with (fail)
    go_cut [] from 28 to 307 (fun w' => Hid (Below W17.heap.size W17 w'))
    case first => as_aux_lemma =>
      clear HOKF HTWF HMOF
      cases four
      case false =>
        clear HBUF
        go_wp2_with fail
        go_meet
        exact Go.Lib.hid ((Below.refl W17.heap.size W17))
      case true =>
        obtain ⟨hy7, hy1, hl1, hl2, plain, hln, hsp, hpl8⟩ := HBUF.out (by trivial)
        have E1 := Go.Lib.hid (implLSweep ys 1 ys true hl1 (by omega) (by decide))
        have E2 := Go.Lib.hid (implLSweep ys 2 bubble true hl2 (by omega) (by decide))
        have E3 := Go.Lib.hid (implLSweep ys (ys.length : Int) plain true hln (by omega) (wf_small (by omega) (by omega)))
        have E4 := Go.Lib.hid (implSweep ys plain true hsp (by omega))
        clear hl1 hl2 hln hsp HBUF
        go_wp2_with fail
        refine (E1.out _ _ _ (Sees.owns (HWd18.out.2.2.2.2.1))).mono ?_
        rintro e W19 ⟨v19, rfl, o19, b19⟩
        have HW19 := Go.Lib.hid (And.intro (Below.trans (HWd18.out.1) ((b19).mono (Below.size (HWd18.out.1)))) (And.intro (kept_call (HWd18.out.2.1) b19) (And.intro (kept_call (HWd18.out.2.2.1) b19) (And.intro (kept_call (HWd18.out.2.2.2.1) b19) (And.intro (kept_call (HWd18.out.2.2.2.2.1) b19) (And.intro (kept_call (HWd18.out.2.2.2.2.2) b19) (own_lower (o19) (Below.size (HWd18.out.1)))))))))
        have HR19 := Go.Lib.hid (Below.trans ((Below.refl W17.heap.size W17)) ((b19).mono (Below.size ((Below.refl W17.heap.size W17)))))
        clear o19 b19
        obtain ⟨_, as1, cs1, rfl, _, _⟩ := Sees.owns (HW19.out.2.2.2.2.2.2)
        go_wp2_with fail
        refine (E2.out _ _ _ (Sees.owns (HW19.out.2.2.2.2.1))).mono ?_
        rintro e W20 ⟨v20, rfl, o20, b20⟩
        have HW20 := Go.Lib.hid (And.intro (Below.trans (HW19.out.1) ((b20).mono (Below.size (HW19.out.1)))) (And.intro (kept_call (HW19.out.2.1) b20) (And.intro (kept_call (HW19.out.2.2.1) b20) (And.intro (kept_call (HW19.out.2.2.2.1) b20) (And.intro (kept_call (HW19.out.2.2.2.2.1) b20) (And.intro (kept_call (HW19.out.2.2.2.2.2.1) b20) (And.intro (kept_call (HW19.out.2.2.2.2.2.2) b20) (own_lower (o20) (Below.size (HW19.out.1))))))))))
        have HR20 := Go.Lib.hid (Below.trans (HR19.out) ((b20).mono (Below.size (HR19.out))))
        clear o20 b20
        obtain ⟨_, as2, cs2, rfl, _, _⟩ := Sees.owns (HW20.out.2.2.2.2.2.2.2)
        go_wp2_with fail
        refine (E3.out _ _ _ (Sees.owns (HW20.out.2.2.2.2.1))).mono ?_
        rintro e W21 ⟨v21, rfl, o21, b21⟩
        have HW21 := Go.Lib.hid (And.intro (Below.trans (HW20.out.1) ((b21).mono (Below.size (HW20.out.1)))) (And.intro (kept_call (HW20.out.2.1) b21) (And.intro (kept_call (HW20.out.2.2.1) b21) (And.intro (kept_call (HW20.out.2.2.2.1) b21) (And.intro (kept_call (HW20.out.2.2.2.2.1) b21) (And.intro (kept_call (HW20.out.2.2.2.2.2.1) b21) (And.intro (kept_call (HW20.out.2.2.2.2.2.2.1) b21) (And.intro (kept_call (HW20.out.2.2.2.2.2.2.2) b21) (own_lower (o21) (Below.size (HW20.out.1)))))))))))
        have HR21 := Go.Lib.hid (Below.trans (HR20.out) ((b21).mono (Below.size (HR20.out))))
        clear o21 b21
        obtain ⟨_, as3, cs3, rfl, _, _⟩ := Sees.owns (HW21.out.2.2.2.2.2.2.2.2)
        go_wp2_with fail
        refine (E4.out _ _ _ (Sees.owns (HW21.out.2.2.2.2.1))).mono ?_
        rintro e W22 ⟨v22, rfl, o22, b22⟩
        have HW22 := Go.Lib.hid (And.intro (Below.trans (HW21.out.1) ((b22).mono (Below.size (HW21.out.1)))) (And.intro (kept_call (HW21.out.2.1) b22) (And.intro (kept_call (HW21.out.2.2.1) b22) (And.intro (kept_call (HW21.out.2.2.2.1) b22) (And.intro (kept_call (HW21.out.2.2.2.2.1) b22) (And.intro (kept_call (HW21.out.2.2.2.2.2.1) b22) (And.intro (kept_call (HW21.out.2.2.2.2.2.2.1) b22) (And.intro (kept_call (HW21.out.2.2.2.2.2.2.2.1) b22) (And.intro (kept_call (HW21.out.2.2.2.2.2.2.2.2) b22) (own_lower (o22) (Below.size (HW21.out.1))))))))))))
        have HR22 := Go.Lib.hid (Below.trans (HR21.out) ((b22).mono (Below.size (HR21.out))))
        clear o22 b22
        obtain ⟨_, as4, cs4, rfl, _, _⟩ := Sees.owns (HW22.out.2.2.2.2.2.2.2.2.2)
        clear E1 E2 E3 E4
        go_wp2_with fail
        refine (rInts_same _ _ _ ys.length ys (Sees.owns (HW22.out.2.2.2.2.2.2.1)) (Sees.owns (HW22.out.2.2.2.2.1)) (by unfold maxLen; omega)).mono ?_
        rintro e W23 ⟨rfl, d23⟩
        have HW23 := Go.Lib.hid (And.intro (Below.trans (HW22.out.1) (((d23.below W22.heap.size)).mono (Below.size (HW22.out.1)))) (And.intro (kept_call (HW22.out.2.1) (d23.below W22.heap.size)) (And.intro (kept_call (HW22.out.2.2.1) (d23.below W22.heap.size)) (And.intro (kept_call (HW22.out.2.2.2.1) (d23.below W22.heap.size)) (And.intro (kept_call (HW22.out.2.2.2.2.1) (d23.below W22.heap.size)) (And.intro (kept_call (HW22.out.2.2.2.2.2.1) (d23.below W22.heap.size)) (And.intro (kept_call (HW22.out.2.2.2.2.2.2.1) (d23.below W22.heap.size)) (And.intro (kept_call (HW22.out.2.2.2.2.2.2.2.1) (d23.below W22.heap.size)) (And.intro (kept_call (HW22.out.2.2.2.2.2.2.2.2.1) (d23.below W22.heap.size)) (kept_call (HW22.out.2.2.2.2.2.2.2.2.2) (d23.below W22.heap.size)))))))))))
        have HR23 := Go.Lib.hid (Below.trans (HR22.out) (((d23.below W22.heap.size)).mono (Below.size (HR22.out))))
        clear d23
        go_wp2_with fail
        refine (rInts_same _ _ _ bubble.length bubble (Sees.owns (HW23.out.2.2.2.2.2.2.2.1)) (Sees.owns (HW23.out.2.2.2.2.2.1)) (by unfold maxLen; omega)).mono ?_
        rintro e W24 ⟨rfl, d24⟩
        have HW24 := Go.Lib.hid (And.intro (Below.trans (HW23.out.1) (((d24.below W23.heap.size)).mono (Below.size (HW23.out.1)))) (And.intro (kept_call (HW23.out.2.1) (d24.below W23.heap.size)) (And.intro (kept_call (HW23.out.2.2.1) (d24.below W23.heap.size)) (And.intro (kept_call (HW23.out.2.2.2.1) (d24.below W23.heap.size)) (And.intro (kept_call (HW23.out.2.2.2.2.1) (d24.below W23.heap.size)) (And.intro (kept_call (HW23.out.2.2.2.2.2.1) (d24.below W23.heap.size)) (And.intro (kept_call (HW23.out.2.2.2.2.2.2.1) (d24.below W23.heap.size)) (And.intro (kept_call (HW23.out.2.2.2.2.2.2.2.1) (d24.below W23.heap.size)) (And.intro (kept_call (HW23.out.2.2.2.2.2.2.2.2.1) (d24.below W23.heap.size)) (kept_call (HW23.out.2.2.2.2.2.2.2.2.2) (d24.below W23.heap.size)))))))))))
        have HR24 := Go.Lib.hid (Below.trans (HR23.out) (((d24.below W23.heap.size)).mono (Below.size (HR23.out))))
        clear d24
        go_wp2_with fail
        refine (rInts_same _ _ _ plain.length plain (Sees.owns (HW24.out.2.2.2.2.2.2.2.2.1)) (Sees.owns (HW24.out.2.2.2.2.2.2.2.2.2)) (by unfold maxLen; omega)).mono ?_
        rintro e W25 ⟨rfl, d25⟩
        have HW25 := Go.Lib.hid (And.intro (Below.trans (HW24.out.1) (((d25.below W24.heap.size)).mono (Below.size (HW24.out.1)))) (And.intro (kept_call (HW24.out.2.1) (d25.below W24.heap.size)) (And.intro (kept_call (HW24.out.2.2.1) (d25.below W24.heap.size)) (And.intro (kept_call (HW24.out.2.2.2.1) (d25.below W24.heap.size)) (And.intro (kept_call (HW24.out.2.2.2.2.1) (d25.below W24.heap.size)) (And.intro (kept_call (HW24.out.2.2.2.2.2.1) (d25.below W24.heap.size)) (And.intro (kept_call (HW24.out.2.2.2.2.2.2.1) (d25.below W24.heap.size)) (And.intro (kept_call (HW24.out.2.2.2.2.2.2.2.1) (d25.below W24.heap.size)) (And.intro (kept_call (HW24.out.2.2.2.2.2.2.2.2.1) (d25.below W24.heap.size)) (kept_call (HW24.out.2.2.2.2.2.2.2.2.2) (d25.below W24.heap.size)))))))))))
        have HR25 := Go.Lib.hid (Below.trans (HR24.out) (((d25.below W24.heap.size)).mono (Below.size (HR24.out))))
        clear d25
        go_wp2_with fail
        go_meet
        exact Go.Lib.hid (HR25.out)
    case rest =>
      have bY26 := hcut.out
      obtain ⟨WY26, hWY26⟩ : ∃ W, wc = W := ⟨_, rfl⟩
      rw [hWY26] at bY26 ⊢
      have HWY26 := Go.Lib.hid (And.intro (Below.trans (HWd18.out.1) (bY26.mono (Below.size (HWd18.out.1)))) (And.intro (kept_call (HWd18.out.2.1) bY26) (And.intro (kept_call (HWd18.out.2.2.1) bY26) (kept_call (HWd18.out.2.2.2.1) bY26))))
      clear hWY26 bY26 hcut HWd18 HBUF
      as_aux_lemma =>
      obtain ⟨B, hB⟩ : ∃ B, (three && decide (e < 7)) = B := ⟨_, rfl⟩
      go_upto_region 33 with (fail)
      go_cut [231] from 28 to 307 (fun s w' => s = .bool B ∧ w' = WY26)
      case first =>
        clear HOKF HTWF HMOF
        cases three
        case false => go_wp2_with fail; go_meet; exact ⟨by rw [← hB]; rfl, rfl⟩
        case true =>
          by_cases he7 : e < 7
          · go_wp2_with fail
            go_meet
            exact ⟨by rw [← hB]; simp [he7], rfl⟩
          · go_wp2_with fail
            go_meet
            exact ⟨by rw [← hB]; simp [he7], rfl⟩
      case rest =>
        obtain ⟨rfl, rfl⟩ := hcut
        have HBB := Go.Lib.hid hB
        clear hB
        go_upto_if 231 with (fail)
        go_cut [] from 28 to 307 (fun w' => Hid (Below wc.heap.size wc w'))
        case first => as_aux_lemma =>
          clear HOKF HTWF
          cases B
          case false =>
            clear HMOF HBB
            go_wp2_with fail
            go_meet
            exact Go.Lib.hid ((Below.refl wc.heap.size wc))
          case true =>
            obtain ⟨h3, h7⟩ : three = true ∧ e < 7 := by have h := HBB.out; rw [Bool.and_eq_true, decide_eq_true_iff] at h; exact h
            obtain ⟨more, hmr, hle⟩ := HMOF.out h3 h7
            have F1 := Go.Lib.hid (implMostW xs (e + 1) more true hmr (by omega) (wf_small (by omega) (by omega)))
            have hle2 : ¬ more < most := by omega
            clear hmr HMOF HBB h3
            go_wp2_with fail
            refine (F1.out _ _ _ (Sees.owns (HWY26.out.2.2.2))).mono ?_
            rintro e W27 ⟨rfl, b27⟩
            have HW27 := Go.Lib.hid (And.intro (Below.trans (HWY26.out.1) ((b27).mono (Below.size (HWY26.out.1)))) (And.intro (kept_call (HWY26.out.2.1) b27) (And.intro (kept_call (HWY26.out.2.2.1) b27) (kept_call (HWY26.out.2.2.2) b27))))
            have HR27 := Go.Lib.hid (Below.trans ((Below.refl wc.heap.size wc)) ((b27).mono (Below.size ((Below.refl wc.heap.size wc)))))
            clear b27
            clear F1
            go_wp2_with fail
            go_meet
            exact Go.Lib.hid (HR27.out)
        case rest =>
          have bY28 := hcut.out
          obtain ⟨WY28, hWY28⟩ : ∃ W, wc = W := ⟨_, rfl⟩
          rw [hWY28] at bY28 ⊢
          have HWY28 := Go.Lib.hid (And.intro (Below.trans (HWY26.out.1) (bY28.mono (Below.size (HWY26.out.1)))) (And.intro (kept_call (HWY26.out.2.1) bY28) (kept_call (HWY26.out.2.2.1) bY28)))
          clear hWY28 bY28 hcut HWY26 HMOF HBB
          as_aux_lemma =>
          go_upto_if 246 with (fail)
          go_cut [] from 28 to 307 (fun w' => Hid (Below WY28.heap.size WY28 w'))
          case first => as_aux_lemma =>
            clear HTWF
            cases ok
            case false =>
              clear HOKF
              go_wp2_with fail
              go_meet
              exact Go.Lib.hid ((Below.refl WY28.heap.size WY28))
            case true =>
              obtain ⟨hrn, deep, hdp, hdd⟩ := HOKF.out (by trivial)
              have G1 := Go.Lib.hid (implRun zs lw sweep true hrn (by omega) (by omega))
              have G2 := Go.Lib.hid (implDepth lw deep true hdp (by omega))
              have hdd2 : ¬ d < deep := by omega
              clear hrn hdp HOKF
              go_wp2_with fail
              refine (G1.out _ _ _ (Sees.owns (HWY28.out.2.1))).mono ?_
              rintro e W29 ⟨v29, rfl, o29, b29⟩
              have HW29 := Go.Lib.hid (And.intro (Below.trans (HWY28.out.1) ((b29).mono (Below.size (HWY28.out.1)))) (And.intro (kept_call (HWY28.out.2.1) b29) (And.intro (kept_call (HWY28.out.2.2) b29) (own_lower (o29) (Below.size (HWY28.out.1))))))
              have HR29 := Go.Lib.hid (Below.trans ((Below.refl WY28.heap.size WY28)) ((b29).mono (Below.size ((Below.refl WY28.heap.size WY28)))))
              clear o29 b29
              obtain ⟨_, aR, cR, rfl, _, _⟩ := Sees.owns (HW29.out.2.2.2)
              go_wp2_with fail
              refine (G2.out _).mono ?_
              rintro e W30 ⟨rfl, b30⟩
              have HW30 := Go.Lib.hid (And.intro (Below.trans (HW29.out.1) ((b30).mono (Below.size (HW29.out.1)))) (And.intro (kept_call (HW29.out.2.1) b30) (And.intro (kept_call (HW29.out.2.2.1) b30) (kept_call (HW29.out.2.2.2) b30))))
              have HR30 := Go.Lib.hid (Below.trans (HR29.out) ((b30).mono (Below.size (HR29.out))))
              clear b30
              clear G1 G2
              go_wp2_with fail
              refine (rInts_same _ _ _ sweep.length sweep (Sees.owns (HW30.out.2.2.2)) (Sees.owns (HW30.out.2.2.1)) (by unfold maxLen; omega)).mono ?_
              rintro e W31 ⟨rfl, d31⟩
              have HW31 := Go.Lib.hid (And.intro (Below.trans (HW30.out.1) (((d31.below W30.heap.size)).mono (Below.size (HW30.out.1)))) (And.intro (kept_call (HW30.out.2.1) (d31.below W30.heap.size)) (And.intro (kept_call (HW30.out.2.2.1) (d31.below W30.heap.size)) (kept_call (HW30.out.2.2.2) (d31.below W30.heap.size)))))
              have HR31 := Go.Lib.hid (Below.trans (HR30.out) (((d31.below W30.heap.size)).mono (Below.size (HR30.out))))
              clear d31
              go_wp2_with fail
              go_meet
              exact Go.Lib.hid (HR31.out)
          case rest =>
            have bY32 := hcut.out
            obtain ⟨WY32, hWY32⟩ : ∃ W, wc = W := ⟨_, rfl⟩
            rw [hWY32] at bY32 ⊢
            have HWY32 := Go.Lib.hid (And.intro (Below.trans (HWY28.out.1) (bY32.mono (Below.size (HWY28.out.1)))) (kept_call (HWY28.out.2.1) bY32))
            clear hWY32 bY32 hcut HWY28 HOKF
            cases two
            case false =>
              go_wp2_with fail
              go_ret
              exact ⟨rfl, HWY32.out.1⟩
            case true => as_aux_lemma =>
              obtain ⟨M, K, rfl, rfl, hK1, hK7, hord, hMn, hsN, hbN⟩ := HTWF.out (by trivial)
              have HSN := Go.Lib.hid (And.intro hsN hbN)
              have HORD := Go.Lib.hid hord
              have HLS := Go.Lib.hid (fun j => (show (lsN K zs j).length = zs.length from lsN_len K zs j))
              have HNX := Go.Lib.hid (fun j => implLSweep (lsN K zs j) (K : Int) (lsN K zs (j + 1)) true (lsN_next K zs hK1 hK7 hord j) (by rw [lsN_len]; omega) wd)
              have HRS := Go.Lib.hid (fun (j : Nat) (r : Bool) (hr : decide (lsN K zs j = iota zs.length) = r) W v n (hv : Sees W v n (vals (lsN K zs j))) => rSorted_any (lsN K zs j) r W v n hv (by have h1 := hv.1; simp at h1; have h2 := lsN_len K zs j; omega) (by rw [← hr, lsN_len]))
              clear hsN hbN hord HTWF
              go_wp2_with fail
              go_loopw [42, 43] (fun nv iv wr => ∃ (j : Nat), j ≤ M ∧ iv = .int .i64 j ∧ Hid (Sees wr nv zs.length (vals (lsN K zs j)) ∧ Below WY32.heap.size WY32 wr)) (fun _ i _ => M - (intOf i).toNat)
              case atStart => exact ⟨0, Nat.zero_le _, rfl, Go.Lib.hid ⟨Sees.owns (HWY32.out.2), Below.refl _ _⟩⟩
              case round =>
                obtain ⟨j, hjM, rfl, HX⟩ := hrel
                obtain ⟨_, aN, cN, rfl, _, _⟩ := HX.out.1
                by_cases hlt : j < M
                · have hji : (j : Int) < (M : Int) := by omega
                  have hnx := HNX.out j wr _ _ HX.out.1
                  have hnsr : decide (lsN K zs j = iota zs.length) = false := decide_eq_false (HSN.out.2 j hlt)
                  have HNS := Go.Lib.hid hnsr
                  have HNXJ := Go.Lib.hid hnx
                  clear hnx hnsr
                  go_wp2_with fail
                  refine HNXJ.out.mono ?_
                  rintro e Wn ⟨u, rfl, ho, hb⟩
                  have HN := Go.Lib.hid (And.intro (Sees.grow HX.out.1 hb) (And.intro (show Sees Wn u zs.length (vals (lsN K zs (j + 1))) from by have h := Sees.owns ho; rw [HLS.out (j + 1)] at h; exact h) (Below.trans HX.out.2 (hb.mono (Below.size HX.out.2)))))
                  clear ho hb
                  obtain ⟨_, aM, cM, rfl, _, _⟩ := HN.out.2.1
                  go_wp2_with fail
                  refine (HRS.out j false HNS.out Wn _ _ HN.out.1).mono ?_
                  rintro e Wm ⟨rfl, hd⟩
                  have HM := Go.Lib.hid (And.intro (Sees.grow HN.out.2.1 (hd.below Wn.heap.size)) (Below.trans HN.out.2.2 (hd.below _)))
                  clear hd
                  go_wp2_with fail
                  go_roundw
                  case rel => exact ⟨j + 1, by omega, by go_num, HM⟩
                  case measure => simp [intOf]; omega
                · have hje : j = M := by omega
                  subst hje
                  have hji : ¬ (j : Int) < (j : Int) := by omega
                  have HNS : Hid (decide (lsN K zs j = iota zs.length) = true) := Go.Lib.hid (decide_eq_true HSN.out.1)
                  go_wp2_with fail
                  refine (HRS.out j true HNS.out wr _ _ HX.out.1).mono ?_
                  rintro e Wm ⟨rfl, hd⟩
                  have HM := Go.Lib.hid (Below.trans (HWY32.out.1) ((Below.trans HX.out.2 (hd.below _)).mono (Below.size (HWY32.out.1))))
                  clear hd
                  by_cases hj0 : j = 0
                  · have hj0b : ((j : Int) == 0) = true := by rw [beq_iff_eq]; omega
                    have HJ0 := Go.Lib.hid hj0
                    by_cases hjn : j < zs.length
                    · have hjni : (j : Int) < (zs.length : Int) := by omega
                      subst hj0
                      go_wp2_with fail
                      go_ret
                      exact ⟨rfl, HM.out⟩
                    · have hjni : ¬ (j : Int) < (zs.length : Int) := by omega
                      subst hj0
                      go_wp2_with fail
                      go_ret
                      exact ⟨rfl, HM.out⟩
                  · have hj0b : ((j : Int) == 0) = false := by rw [beq_eq_false_iff_ne]; omega
                    have hjni : (j : Int) < (zs.length : Int) := by omega
                    clear hj0
                    go_wp2_with fail
                    go_ret
                    exact ⟨rfl, HM.out⟩

/-! ### From the walk to the row -/
set_option maxRecDepth 100000 in
theorem lifted (os : Os) (started : os.Started) (H : Type) (enc : TypeId × Value → H) :
    ReturnsInHanded {} Try.checked os 4 .any (Rows.fnLimitedSweepsSpec.pre6 enc Try.prog Try.f4 Rows.fnLimitedSweepsRow.domain false) (Rows.fnLimitedSweepsSpec.post enc Try.prog Try.f4 false true false false) := by
  refine returnsInHanded_of_change (C := Try.checked) own started (by kernel_rfl) Try.func4
    (ChangeSpec.witness6 (enc := enc) (C := Try.checked) false ⟨#[], #[.slice none 0 0], []⟩ 8 (by kernel_rfl) (by kernel_rfl) (by kernel_rfl) (by kernel_rfl)) ?_
  intro W base args ds gs before hval0 hW hcnd _
  have hval : ∀ (j : Nat) t v, Try.f4.params[j]? = some t → args[j]? = some v → Value.okWide Try.prog W .any base t v := hval0
  have hW' := hW
  obtain ⟨p, q, hA0, hV, rfl, hfz, hnd⟩ := hW
  have hA : DataW.TrodAll enc Try.prog W 0 (fun _ => true) true Try.f4.params.toList args.toList ds p := hA0
  rw [Try.params4] at hA hval
  obtain ⟨u0, vs0, d0, ds0, p0, q0, hargs, rfl, rfl, h0, r0⟩ := trodAll_cons hA
  obtain ⟨rfl, rfl, rfl⟩ := trodAll_nil r0
  obtain rfl : args = #[u0] := by cases args; simp_all
  obtain ⟨rfl, rfl⟩ := trodVars_none hV
  have lt0 : ∀ x ∈ p0, x.block < W.heap.size := by obtain ⟨m, hm⟩ := h0; exact DataW.trod_lt m _ _ _ hm
  obtain ⟨n0, a0, s0, t0, w0⟩ := sees_ints Try.underlying22 Try.underlying5 (by kernel_rfl) (hval 0 22 u0 rfl rfl) h0
  clear hA0 hval0
  refine (walk u0 n0 a0 W s0 t0 w0).mono fun e W' ⟨he, bel⟩ => ?_
  subst he
  exact ⟨_, rfl, _, _, _, [], _, [], hW', trodAll_mk1 (shut_bool Try.underlying4 _), (trodAll_cons_mk (Below.trod laidOut (by kernel_rfl) (of_decide_eq_true (by kernel_rfl)) h0 bel lt0) trodAll_mk0), rfl, bel.frame _, fun h => by cases h⟩

theorem over : Rows.fnLimitedSweepsRow.holds Try.pinned (OpenSpec.ofChange Rows.fnLimitedSweepsSpec) :=
  OpenClaim.holds_of_wide 4 Try.f4 rfl rfl rfl rfl rfl rfl rfl ⟨rfl, rfl, rfl, rfl, rfl⟩ rfl rfl rfl rfl rfl (by kernel_rfl) Try.func4
    (show joinedFacts Try.prog 4 Try.f4 Rows.fnLimitedSweepsSpec Rows.fnLimitedSweepsRow = true by unfold joinedFacts; rw [SeatC.may, SeatC.lif, SeatC.mke]; kernel_rfl)
    (of_decide_eq_true (by kernel_rfl)) (by unfold Func.isWrapper; first | (rw [if_pos (by decide +kernel)]; kernel_rfl) | (rw [if_neg (by decide +kernel)]; exact ⟨rfl, rfl⟩))
    (fun os started H enc _ => lifted os started H enc)

/-- The statement. -/
theorem proved : Rows.FnLimitedSweepsSaid :=
  over
#print axioms proved
end Go.Proofs.Ytnhhnffolmgceaa.fnLimitedSweeps
