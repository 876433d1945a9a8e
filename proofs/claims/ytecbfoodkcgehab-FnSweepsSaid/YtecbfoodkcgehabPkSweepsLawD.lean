/-
  On every draw the law on sweeps holds: sweeps sort an order in as many as are told, blocks have their own numbers, and all orders that are swept to one are told. Conditions: none.
-/
import Derived.Test.YtecbfoodkcgehabPkSweepsLawC
import Derived.Test.YtecbfoodkcgehabRows
import Derived.WalkKit
import Derived.ProofKit
import Derived.OpenShut
import Derived.ShutString
import Derived.ChangeOld
import Derived.Below
import Derived.Test.YtecbfoodkcgehabExact
import Derived.Test.YtecbfoodkcgehabOrd
import Derived.Test.YtecbfoodkcgehabRec
import Derived.Test.YtecbfoodkcgehabBlk

namespace Go.Proofs.Ytecbfoodkcgehab.fnSweeps
open Go.ChangeShapes Go.WideShapes Go.ChangeAt Go.RowKit SeesC OpenC
open Go.ChangeMaps (open_string shut_string)
open IntsC ExactC OrdMath ListsC ListsEC ListsGC OrderC WordMath OutsMath EndsM SweepM StackM SwfM SwfLC CountSwC RecC BlkC Sweep4C RSortedC SwsFacts SwsMore DrawOrdC DrawOrd2C Draw5C WordLawFacts
set_option linter.unusedVariables false

theorem own : ownKnob Try.prog.godebug = none := by kernel_rfl
theorem laidOut : laidOutB Try.prog = true := by kernel_rfl

/-! ### The walk -/
set_option maxRecDepth 100000 in
set_option maxHeartbeats 64000000 in
theorem walk (v0 : Value) (n0 : Nat) (a0 : List Int) (w : World) (s0 : Sees w v0 n0 (a0.map (Value.int .u8))) (t0 : n0 ≤ maxLen) (w0 : ∀ z ∈ a0, (Lit.int .u8 z).wf = true) :
    Calls Try.prog 14 #[v0] w fun e w' => e = .returned (.bool true) ∧ Below w.heap.size w w' := by
  have hz : ∀ z ∈ a0, 0 ≤ z ∧ z ≤ 255 := byte_bd w0
  have hs0 := s0
  obtain ⟨_, ar, cap, rfl, _, _⟩ := hs0
  by_cases hbig : (65536 : Int) < (n0 : Int)
  · have cB := Go.Lib.hid (rBig_of w ar n0 cap true (decide_eq_true hbig))
    clear hz
    go_enter Try.func14, Try.ntmps14
    go_wp2_with fail
    refine (cB.out).mono ?_
    rintro e W1 ⟨rfl, rfl⟩
    go_wp2_with fail
    go_ret
    exact ⟨rfl, Below.refl _ _⟩
  have hn : n0 ≤ 65536 := by omega
  have cB := Go.Lib.hid (rBig_of w ar n0 cap false (decide_eq_false hbig))
  have D1 := Go.Lib.hid (fun W h => drawSweeps_any (.slice ar n0 cap) n0 a0 W h hz hn)
  have D2 := Go.Lib.hid (fun W h => drawRec_any (.slice ar n0 cap) n0 a0 W h hz hn)
  have D3 := Go.Lib.hid (fun W h => drawSwept_any (.slice ar n0 cap) n0 a0 W h hz hn)
  have D4 := Go.Lib.hid (fun W h => drawBlocks_any (.slice ar n0 cap) n0 a0 W h hz hn)
  have HW0 := Go.Lib.hid (And.intro (Below.refl w.heap.size w) s0)
  clear hz s0 w0 t0
  go_enter Try.func14, Try.ntmps14
  go_wp2_with fail
  refine (cB.out).mono ?_
  rintro e Wz ⟨rfl, rfl⟩
  go_wp2_with fail
  refine (D1.out _ (HW0.out.2)).mono ?_
  rintro e W1 ⟨vO, zs, rfl, hz8, o1, b1⟩
  have HW1 := Go.Lib.hid (And.intro (Below.trans (HW0.out.1) ((b1).mono (Below.size (HW0.out.1)))) (And.intro (Sees.grow (HW0.out.2) b1) (own_lower (o1) (Below.size (HW0.out.1)))))
  clear o1 b1
  obtain ⟨_, aO, cO, rfl, _, _⟩ := Sees.owns (HW1.out.2.2)
  obtain ⟨mn, ok, h1, h2, hmany⟩ := facts_many zs
  have A1 := Go.Lib.hid (implSweeps zs mn ok h1 (by omega))
  have A2 := Go.Lib.hid (specSweeps zs mn ok h1 (by omega))
  have A3 := Go.Lib.hid (fun W v h => implOrder_any W v zs.length zs ok h (by omega) h2)
  have HMANY := Go.Lib.hid hmany
  clear h1 h2 hmany D1 cB
  go_wp2_with fail
  refine (A1.out _ _ _ (Sees.owns (HW1.out.2.2))).mono ?_
  rintro e W2 ⟨rfl, b2⟩
  have HW2 := Go.Lib.hid (And.intro (Below.trans (HW1.out.1) ((b2).mono (Below.size (HW1.out.1)))) (And.intro (Sees.grow (HW1.out.2.1) b2) (kept_call (HW1.out.2.2) b2)))
  clear b2
  go_wp2_with fail
  refine (A2.out _ _ _ (Sees.owns (HW2.out.2.2))).mono ?_
  rintro e W3 ⟨rfl, b3⟩
  have HW3 := Go.Lib.hid (And.intro (Below.trans (HW2.out.1) ((b3).mono (Below.size (HW2.out.1)))) (And.intro (Sees.grow (HW2.out.2.1) b3) (kept_call (HW2.out.2.2) b3)))
  clear b3
  go_wp2_with fail
  refine (A3.out _ _ (Sees.owns (HW3.out.2.2))).mono ?_
  rintro e W4 ⟨rfl, b4⟩
  have HW4 := Go.Lib.hid (And.intro (Below.trans (HW3.out.1) ((b4).mono (Below.size (HW3.out.1)))) (And.intro (Sees.grow (HW3.out.2.1) b4) (kept_call (HW3.out.2.2) b4)))
  clear b4 A1 A2 A3
  go_wp2_with fail
  refine (D2.out _ (HW4.out.2.1)).mono ?_
  rintro e W5 ⟨vX, xs, rfl, hx8, o5, b5⟩
  have HW5 := Go.Lib.hid (And.intro (Below.trans (HW4.out.1) ((b5).mono (Below.size (HW4.out.1)))) (And.intro (Sees.grow (HW4.out.2.1) b5) (And.intro (kept_call (HW4.out.2.2) b5) (own_lower (o5) (Below.size (HW4.out.1))))))
  clear o5 b5
  obtain ⟨_, aX, cX, rfl, _, _⟩ := Sees.owns (HW5.out.2.2.2)
  obtain ⟨recs, one, h3, lrec, hone⟩ := facts_rec xs hx8
  have B1 := Go.Lib.hid (implRec xs recs one h3 (by omega))
  have B2 := Go.Lib.hid (specRec xs recs one h3 (by omega))
  have HONE := Go.Lib.hid hone
  clear h3 hone D2
  go_wp2_with fail
  refine (B1.out _ _ _ (Sees.owns (HW5.out.2.2.2))).mono ?_
  rintro e W6 ⟨v6, rfl, o6, b6⟩
  have HW6 := Go.Lib.hid (And.intro (Below.trans (HW5.out.1) ((b6).mono (Below.size (HW5.out.1)))) (And.intro (Sees.grow (HW5.out.2.1) b6) (And.intro (kept_call (HW5.out.2.2.1) b6) (And.intro (kept_call (HW5.out.2.2.2) b6) (own_lower (o6) (Below.size (HW5.out.1)))))))
  clear o6 b6
  go_wp2_with fail
  refine (B2.out _ _ _ (Sees.owns (HW6.out.2.2.2.1))).mono ?_
  rintro e W7 ⟨v7, rfl, o7, b7⟩
  have HW7 := Go.Lib.hid (And.intro (Below.trans (HW6.out.1) ((b7).mono (Below.size (HW6.out.1)))) (And.intro (Sees.grow (HW6.out.2.1) b7) (And.intro (kept_call (HW6.out.2.2.1) b7) (And.intro (kept_call (HW6.out.2.2.2.1) b7) (And.intro (kept_call (HW6.out.2.2.2.2) b7) (own_lower (o7) (Below.size (HW6.out.1))))))))
  clear o7 b7
  go_wp2_with fail
  refine (rInts_same _ _ _ recs.length recs (Sees.owns (HW7.out.2.2.2.2.1)) (Sees.owns (HW7.out.2.2.2.2.2)) (by unfold maxLen; omega)).mono ?_
  rintro e W8 ⟨rfl, d8⟩
  have HW8 := Go.Lib.hid (And.intro (Below.trans (HW7.out.1) (((d8.below W7.heap.size)).mono (Below.size (HW7.out.1)))) (And.intro (Sees.grow (HW7.out.2.1) (d8.below W7.heap.size)) (And.intro (kept_call (HW7.out.2.2.1) (d8.below W7.heap.size)) (And.intro (kept_call (HW7.out.2.2.2.1) (d8.below W7.heap.size)) (And.intro (kept_call (HW7.out.2.2.2.2.1) (d8.below W7.heap.size)) (kept_call (HW7.out.2.2.2.2.2) (d8.below W7.heap.size)))))))
  clear d8
  have HWd9 := Go.Lib.hid (And.intro HW8.out.1 (And.intro HW8.out.2.1 (And.intro HW8.out.2.2.1 HW8.out.2.2.2.2.1)))
  clear HW8
  clear B1 B2
  go_wp2_with fail
  refine (D3.out _ (HWd9.out.2.1)).mono ?_
  rintro e W10 ⟨vY, ys, rfl, hy8, o10, b10⟩
  have HW10 := Go.Lib.hid (And.intro (Below.trans (HWd9.out.1) ((b10).mono (Below.size (HWd9.out.1)))) (And.intro (Sees.grow (HWd9.out.2.1) b10) (And.intro (kept_call (HWd9.out.2.2.1) b10) (And.intro (kept_call (HWd9.out.2.2.2) b10) (own_lower (o10) (Below.size (HWd9.out.1)))))))
  clear o10 b10
  obtain ⟨_, aY, cY, rfl, _, _⟩ := Sees.owns (HW10.out.2.2.2.2)
  obtain ⟨two, htwo⟩ : ∃ b, isOrd ys = b := ⟨_, rfl⟩
  obtain ⟨m, hm⟩ : ∃ m, (if two = true then ys.length else 0) = m := ⟨_, rfl⟩
  have hm7 : m ≤ 7 := swf_m7 htwo hm
  have C1 := Go.Lib.hid (implSwfL ys two m htwo hm (by omega))
  have C2 := Go.Lib.hid (specSwfL ys two m htwo hm (by omega))
  have HTWO := Go.Lib.hid (And.intro htwo hm)
  clear htwo hm D3
  go_wp2_with fail
  refine (C1.out _ _ _ (Sees.owns (HW10.out.2.2.2.2))).mono ?_
  rintro e W11 ⟨v11, R, rfl, hR, o11, b11⟩
  have HW11 := Go.Lib.hid (And.intro (Below.trans (HW10.out.1) ((b11).mono (Below.size (HW10.out.1)))) (And.intro (Sees.grow (HW10.out.2.1) b11) (And.intro (kept_call (HW10.out.2.2.1) b11) (And.intro (kept_call (HW10.out.2.2.2.1) b11) (And.intro (kept_call (HW10.out.2.2.2.2) b11) (Lists.lower (o11) (Below.size (HW10.out.1))))))))
  clear o11 b11
  obtain ⟨N, hN⟩ : ∃ N, R.length = N := ⟨_, rfl⟩
  obtain ⟨aR, cR, rfl⟩ := lists_val (N := N) (by simpa using hN) (HW11.out.2.2.2.2.2)
  go_wp2_with fail
  refine (C2.out _ _ _ (Sees.owns (HW11.out.2.2.2.2.1))).mono ?_
  rintro e W12 ⟨v12, R2, rfl, hR2, o12, b12⟩
  have HW12 := Go.Lib.hid (And.intro (Below.trans (HW11.out.1) ((b12).mono (Below.size (HW11.out.1)))) (And.intro (Sees.grow (HW11.out.2.1) b12) (And.intro (kept_call (HW11.out.2.2.1) b12) (And.intro (kept_call (HW11.out.2.2.2.1) b12) (And.intro (kept_call (HW11.out.2.2.2.2.1) b12) (And.intro (Lists.kept (HW11.out.2.2.2.2.2) b12) (Lists.lower (o12) (Below.size (HW11.out.1)))))))))
  clear o12 b12
  obtain rfl : R = R2 := swf_unique hR hR2
  have lR := (swf_len hR).1
  have HSW : Hid (∀ q ∈ R, sweepAns q = (ys, true) ∧ q.length = m ∧ q.length ≤ 8) := Go.Lib.hid (swf_sweeps HTWO.out.1 HTWO.out.2 hR)
  have HN := Go.Lib.hid hN
  have hN2 : N ≤ 5040 := by omega
  clear hR hR2 hN C1 C2
  go_wp2_with fail
  refine (rLists_same _ _ _ m R (Lists.looks (HW12.out.2.2.2.2.2.1)) (Lists.looks (HW12.out.2.2.2.2.2.2)) (by omega) (by omega)).mono ?_
  rintro e W13 ⟨rfl, d13⟩
  have HW13 := Go.Lib.hid (And.intro (Below.trans (HW12.out.1) (((d13.below W12.heap.size)).mono (Below.size (HW12.out.1)))) (And.intro (Sees.grow (HW12.out.2.1) (d13.below W12.heap.size)) (And.intro (kept_call (HW12.out.2.2.1) (d13.below W12.heap.size)) (And.intro (kept_call (HW12.out.2.2.2.1) (d13.below W12.heap.size)) (And.intro (kept_call (HW12.out.2.2.2.2.1) (d13.below W12.heap.size)) (And.intro (Lists.kept (HW12.out.2.2.2.2.2.1) (d13.below W12.heap.size)) (Lists.kept (HW12.out.2.2.2.2.2.2) (d13.below W12.heap.size))))))))
  clear d13
  have HWd14 := Go.Lib.hid (And.intro HW13.out.1 (And.intro HW13.out.2.1 (And.intro HW13.out.2.2.1 (And.intro HW13.out.2.2.2.1 (And.intro HW13.out.2.2.2.2.1 HW13.out.2.2.2.2.2.1)))))
  clear HW13
  go_wp2_with fail
  refine (D4.out _ (HWd14.out.2.1)).mono ?_
  rintro e W15 ⟨vZ, bs, rfl, hb8, o15, b15⟩
  have HW15 := Go.Lib.hid (And.intro (Below.trans (HWd14.out.1) ((b15).mono (Below.size (HWd14.out.1)))) (And.intro (Sees.grow (HWd14.out.2.1) b15) (And.intro (kept_call (HWd14.out.2.2.1) b15) (And.intro (kept_call (HWd14.out.2.2.2.1) b15) (And.intro (kept_call (HWd14.out.2.2.2.2.1) b15) (And.intro (Lists.kept (HWd14.out.2.2.2.2.2) b15) (own_lower (o15) (Below.size (HWd14.out.1)))))))))
  clear o15 b15
  have HWd16 := Go.Lib.hid (And.intro HW15.out.1 (And.intro HW15.out.2.2.1 (And.intro HW15.out.2.2.2.1 (And.intro HW15.out.2.2.2.2.1 (And.intro HW15.out.2.2.2.2.2.1 HW15.out.2.2.2.2.2.2)))))
  clear HW15
  obtain ⟨_, aZ, cZ, rfl, _, _⟩ := Sees.owns (HWd16.out.2.2.2.2.2)
  obtain ⟨bl, three, h4, lbl, hthree⟩ := facts_blk bs hb8
  have E1 := Go.Lib.hid (implBlk bs bl three h4 (by omega))
  have E2 := Go.Lib.hid (specBlk bs bl three h4 (by omega))
  have HTHREE := Go.Lib.hid hthree
  clear h4 hthree D4
  go_wp2_with fail
  refine (E1.out _ _ _ (Sees.owns (HWd16.out.2.2.2.2.2))).mono ?_
  rintro e W17 ⟨v17, rfl, o17, b17⟩
  have HW17 := Go.Lib.hid (And.intro (Below.trans (HWd16.out.1) ((b17).mono (Below.size (HWd16.out.1)))) (And.intro (kept_call (HWd16.out.2.1) b17) (And.intro (kept_call (HWd16.out.2.2.1) b17) (And.intro (kept_call (HWd16.out.2.2.2.1) b17) (And.intro (Lists.kept (HWd16.out.2.2.2.2.1) b17) (And.intro (kept_call (HWd16.out.2.2.2.2.2) b17) (own_lower (o17) (Below.size (HWd16.out.1)))))))))
  clear o17 b17
  obtain ⟨_, aB, cB, rfl, _, _⟩ := Sees.owns (HW17.out.2.2.2.2.2.2)
  go_wp2_with fail
  refine (E2.out _ _ _ (Sees.owns (HW17.out.2.2.2.2.2.1))).mono ?_
  rintro e W18 ⟨v18, rfl, o18, b18⟩
  have HW18 := Go.Lib.hid (And.intro (Below.trans (HW17.out.1) ((b18).mono (Below.size (HW17.out.1)))) (And.intro (kept_call (HW17.out.2.1) b18) (And.intro (kept_call (HW17.out.2.2.1) b18) (And.intro (kept_call (HW17.out.2.2.2.1) b18) (And.intro (Lists.kept (HW17.out.2.2.2.2.1) b18) (And.intro (kept_call (HW17.out.2.2.2.2.2.1) b18) (And.intro (kept_call (HW17.out.2.2.2.2.2.2) b18) (own_lower (o18) (Below.size (HW17.out.1))))))))))
  clear o18 b18
  go_wp2_with fail
  refine (rInts_same _ _ _ bl.length bl (Sees.owns (HW18.out.2.2.2.2.2.2.1)) (Sees.owns (HW18.out.2.2.2.2.2.2.2)) (by unfold maxLen; omega)).mono ?_
  rintro e W19 ⟨rfl, d19⟩
  have HW19 := Go.Lib.hid (And.intro (Below.trans (HW18.out.1) (((d19.below W18.heap.size)).mono (Below.size (HW18.out.1)))) (And.intro (kept_call (HW18.out.2.1) (d19.below W18.heap.size)) (And.intro (kept_call (HW18.out.2.2.1) (d19.below W18.heap.size)) (And.intro (kept_call (HW18.out.2.2.2.1) (d19.below W18.heap.size)) (And.intro (Lists.kept (HW18.out.2.2.2.2.1) (d19.below W18.heap.size)) (And.intro (kept_call (HW18.out.2.2.2.2.2.1) (d19.below W18.heap.size)) (And.intro (kept_call (HW18.out.2.2.2.2.2.2.1) (d19.below W18.heap.size)) (kept_call (HW18.out.2.2.2.2.2.2.2) (d19.below W18.heap.size)))))))))
  clear d19
  have HWd20 := Go.Lib.hid (And.intro HW19.out.1 (And.intro HW19.out.2.1 (And.intro HW19.out.2.2.1 (And.intro HW19.out.2.2.2.1 (And.intro HW19.out.2.2.2.2.1 (And.intro HW19.out.2.2.2.2.2.1 HW19.out.2.2.2.2.2.2.1))))))
  clear HW19
  clear E1 E2
  cases one
  case false =>
    as_aux_lemma =>
    obtain ⟨_, aR2, cR2, rfl, _, _⟩ := Sees.owns (HWd20.out.2.2.1)
    clear HONE
    have HWd21 := Go.Lib.hid (And.intro HWd20.out.1 (And.intro HWd20.out.2.1 (And.intro HWd20.out.2.2.2.1 (And.intro HWd20.out.2.2.2.2.1 (And.intro HWd20.out.2.2.2.2.2.1 HWd20.out.2.2.2.2.2.2)))))
    clear HWd20
    go_wp2_with fail
    go_loopw [23, 24] (fun iv _ wr => ∃ i : Nat, i ≤ N ∧ iv = .int .i64 i ∧ Hid (Below W19.heap.size W19 wr)) (fun iv _ _ => N - (intOf iv).toNat)
    case atStart => exact ⟨0, Nat.zero_le _, rfl, Go.Lib.hid (Below.refl _ _)⟩
    case round =>
      obtain ⟨i, hi, rfl, HB⟩ := hrel
      obtain ⟨wl, rfl⟩ : ∃ x, x = wr := ⟨_, rfl⟩
      have HWl22 := Go.Lib.hid (And.intro (Below.trans (HWd21.out.1) ((HB.out).mono (Below.size (HWd21.out.1)))) (And.intro (kept_call (HWd21.out.2.1) HB.out) (And.intro (kept_call (HWd21.out.2.2.1) HB.out) (And.intro (Lists.kept (HWd21.out.2.2.2.1) HB.out) (And.intro (kept_call (HWd21.out.2.2.2.2.1) HB.out) (And.intro (kept_call (HWd21.out.2.2.2.2.2) HB.out) (HB.out)))))))
      by_cases hlt : i < N
      · skip
        have hlti : (i : Int) < (N : Int) := by omega
        obtain ⟨gs, hgl, hgo, hgr, _, _⟩ := HWl22.out.2.2.2.1
        have hml : (R.map vals).length = N := by rw [List.length_map, HN.out]
        rw [hml] at hgl hgo
        obtain ⟨gF, cF, hF⟩ := own_pos hgo (by omega)
        obtain ⟨rfl, rfl⟩ : aR = some ⟨gF, 0, none⟩ ∧ cR = cF := by cases hF; exact ⟨rfl, rfl⟩
        have hil : i < R.length := by rw [HN.out]; exact hlt
        obtain ⟨q, hq⟩ : ∃ q, R[i] = q := ⟨_, rfl⟩
        have hqs := HSW.out q (by rw [← hq]; exact List.getElem_mem _)
        have hrow := hgr i (by rw [hml]; exact hlt)
        have hgd : (R.map vals).getD i [] = vals q := by rw [← hq]; simp [hil]
        obtain ⟨⟨p1, p2⟩, hpp⟩ : ∃ p, gs.getD i (0, 0) = p := ⟨_, rfl⟩
        rw [hgd, hpp] at hrow
        unfold sl at hrow
        simp only at hrow
        have hck : wl.cell? ⟨gF, i, none⟩ = some (.slice (some ⟨p1, 0, none⟩) m p2) := by
          rw [hgo.cellAt i (by omega)]
          have e := hpp
          simp only [List.getElem?_map]
          rw [List.getElem?_eq_getElem (by omega : i < gs.length)]
          have e2 : gs[i]'(by omega) = (p1, p2) := by rw [← e]; simp [show i < gs.length by omega]
          rw [e2]; rfl
        have CS := Go.Lib.hid (implSweep q ys true hqs.1 (by omega) wl _ m (Sees.owns hrow))
        clear hgl hgo hgr hml hF hil hq hqs hrow hgd hpp
        go_wp2_with fail
        refine (CS.out).mono ?_
        rintro e W23 ⟨u23, rfl, o23, b23⟩
        have HW23 := Go.Lib.hid (And.intro (Below.trans (HWl22.out.1) ((b23).mono (Below.size (HWl22.out.1)))) (And.intro (kept_call (HWl22.out.2.1) b23) (And.intro (kept_call (HWl22.out.2.2.1) b23) (And.intro (Lists.kept (HWl22.out.2.2.2.1) b23) (And.intro (kept_call (HWl22.out.2.2.2.2.1) b23) (And.intro (kept_call (HWl22.out.2.2.2.2.2.1) b23) (And.intro (since_on (HWl22.out.2.2.2.2.2.2) b23) (own_lower (o23) (Below.size (HWl22.out.1))))))))))
        clear o23 b23 CS
        clear hck
        go_wp2_with fail
        refine (rInts_same _ _ _ ys.length ys (Sees.owns (HW23.out.2.2.2.2.2.2.2)) (Sees.owns (HW23.out.2.2.1)) (by unfold maxLen; omega)).mono ?_
        rintro e W24 ⟨rfl, d24⟩
        have HW24 := Go.Lib.hid (And.intro (Below.trans (HW23.out.1) (((d24.below W23.heap.size)).mono (Below.size (HW23.out.1)))) (And.intro (kept_call (HW23.out.2.1) (d24.below W23.heap.size)) (And.intro (kept_call (HW23.out.2.2.1) (d24.below W23.heap.size)) (And.intro (Lists.kept (HW23.out.2.2.2.1) (d24.below W23.heap.size)) (And.intro (kept_call (HW23.out.2.2.2.2.1) (d24.below W23.heap.size)) (And.intro (kept_call (HW23.out.2.2.2.2.2.1) (d24.below W23.heap.size)) (And.intro (since_on (HW23.out.2.2.2.2.2.2.1) (d24.below W23.heap.size)) (kept_call (HW23.out.2.2.2.2.2.2.2) (d24.below W23.heap.size)))))))))
        clear d24
        have HWd25 := Go.Lib.hid (And.intro HW24.out.1 (And.intro HW24.out.2.1 (And.intro HW24.out.2.2.1 (And.intro HW24.out.2.2.2.1 (And.intro HW24.out.2.2.2.2.1 (And.intro HW24.out.2.2.2.2.2.1 HW24.out.2.2.2.2.2.2.1))))))
        clear HW24
        have HBN := Go.Lib.hid (HWd25.out.2.2.2.2.2.2)
        go_wp2
        go_roundw
        case rel => exact ⟨i + 1, by omega, by go_num, HBN⟩
        case measure => simp [intOf]; omega
      · skip
        have hlti : ¬ (i : Int) < (N : Int) := by omega
        have HWd26 := Go.Lib.hid (And.intro HWl22.out.1 (And.intro HWl22.out.2.1 (And.intro HWl22.out.2.2.1 (And.intro HWl22.out.2.2.2.1 (And.intro HWl22.out.2.2.2.2.1 HWl22.out.2.2.2.2.2.1)))))
        clear HWl22
        cases three
        case false =>
          clear HTHREE
          have HWd27 := Go.Lib.hid (And.intro HWd26.out.1 HWd26.out.2.1)
          clear HWd26
          cases ok
          case false =>
            go_wp2_with fail
            go_ret
            exact ⟨rfl, HWd27.out.1⟩
          case true =>
            obtain ⟨M, rfl, hMz, hz7, hz1, hsN, hsF, hsO⟩ := HMANY.out rfl
            have HS := Go.Lib.hid (And.intro hsN (And.intro hsF hsO))
            clear hsN hsF hsO HMANY
            have HS0 := Go.Lib.hid (And.intro (Below.refl wl.heap.size wl) (Sees.owns (HWd27.out.2)))
            go_wp2_with fail
            go_loopw [29, 30, 31] (fun nv iv _ wr => ∃ (i c : Nat) (a : Option Addr), i ≤ M ∧ iv = .int .i64 i ∧ nv = .slice a zs.length c ∧ Hid (Below wl.heap.size wl wr ∧ Sees wr (.slice a zs.length c) zs.length (vals (swN zs i)))) (fun _ iv _ _ => M - (intOf iv).toNat)
            case atStart => exact ⟨0, cO, aO, Nat.zero_le _, rfl, rfl, HS0⟩
            case round =>
              obtain ⟨i4, c4, a4, hi4, rfl, rfl, HB4⟩ := hrel
              obtain ⟨wl4, rfl⟩ : ∃ x, x = wr := ⟨_, rfl⟩
              clear HS0
              have HWl28 := Go.Lib.hid (And.intro (Below.trans (HWd27.out.1) ((HB4.out.1).mono (Below.size (HWd27.out.1)))) (kept_call (HWd27.out.2) HB4.out.1))
              have hln := swN_len zs i4
              have HLN := Go.Lib.hid hln
              clear hln
              by_cases hlt4 : i4 < M
              · skip
                have hlti4 : (i4 : Int) < (M : Int) := by omega
                have CR := Go.Lib.hid (rSorted_any (swN zs i4) false wl4 _ zs.length HB4.out.2 (by omega) (decide_eq_false (by rw [HLN.out]; exact HS.out.2.1 i4 hlt4)))
                have CS := Go.Lib.hid (fun W h => implSweep (swN zs i4) (swN zs (i4 + 1)) true (by unfold sweepAns; rw [if_pos (HS.out.2.2 i4)]; rfl) (by rw [HLN.out]; omega) W (.slice a4 zs.length c4) zs.length h)
                go_wp2_with fail
                refine (CR.out).mono ?_
                rintro e V1 ⟨rfl, d1⟩
                have HV1 := Go.Lib.hid (And.intro (HB4.out.1.trans (d1.below _)) (HB4.out.2.grow (d1.below _)))
                clear d1 CR
                go_wp2_with fail
                refine (CS.out _ HV1.out.2).mono ?_
                rintro e V2 ⟨u, rfl, o2, b2⟩
                rw [swN_len] at o2
                obtain ⟨gU, cU, rfl⟩ := own_pos o2 (by omega)
                have HV2 := Go.Lib.hid (And.intro (HV1.out.1.trans (b2.mono HV1.out.1.size)) (Sees.owns o2))
                clear o2 b2 CS
                go_wp2
                go_roundw
                case rel => exact ⟨i4 + 1, cU, some ⟨gU, 0, none⟩, by omega, by go_num, rfl, HV2⟩
                case measure => simp [intOf]; omega
              · skip
                have hlti4 : ¬ (i4 : Int) < (M : Int) := by omega
                have hMlt : (M : Int) < (zs.length : Int) := by omega
                have hiM : i4 = M := by omega
                have CR := Go.Lib.hid (rSorted_any (swN zs i4) true wl4 _ zs.length HB4.out.2 (by omega) (decide_eq_true (by rw [HLN.out, hiM]; exact HS.out.1)))
                clear hiM
                go_wp2_with fail
                refine (CR.out).mono ?_
                rintro e V1 ⟨rfl, d1⟩
                have HV1 := Go.Lib.hid (Below.trans (HWl28.out.1) ((d1.below wl4.heap.size).mono (Below.size (HWl28.out.1))))
                clear d1 CR
                go_wp2_with fail
                go_ret
                exact ⟨rfl, HV1.out⟩
        case true =>
          have HWd29 := Go.Lib.hid (And.intro HWd26.out.1 (And.intro HWd26.out.2.1 (And.intro HWd26.out.2.2.2.2.1 HWd26.out.2.2.2.2.2)))
          clear HWd26
          have HOWN := Go.Lib.hid (HTHREE.out rfl)
          clear HTHREE
          go_wp2_with fail
          go_loopw [26, 27, 28] (fun av iv _ wr => ∃ (i : Nat) (A : Int), i ≤ bl.length ∧ iv = .int .i64 i ∧ av = .int .i64 A ∧ Hid (beg bl i = A ∧ Below wl.heap.size wl wr)) (fun _ iv _ _ => bl.length - (intOf iv).toNat)
          case atStart => exact ⟨0, 0, Nat.zero_le _, rfl, rfl, Go.Lib.hid ⟨rfl, Below.refl _ _⟩⟩
          case round =>
            obtain ⟨i2, A, hi2, rfl, rfl, HB2⟩ := hrel
            obtain ⟨wl2, rfl⟩ : ∃ x, x = wr := ⟨_, rfl⟩
            have HWl30 := Go.Lib.hid (And.intro (Below.trans (HWd29.out.1) ((HB2.out.2).mono (Below.size (HWd29.out.1)))) (And.intro (kept_call (HWd29.out.2.1) HB2.out.2) (And.intro (kept_call (HWd29.out.2.2.1) HB2.out.2) (And.intro (kept_call (HWd29.out.2.2.2) HB2.out.2) (HB2.out.2)))))
            by_cases hlt2 : i2 < bl.length
            · skip
              obtain ⟨h0, h1, h2, h3, h4⟩ := HOWN.out.1 i2 hlt2
              rw [HB2.out.1] at h0 h2 h4
              obtain ⟨b, hb⟩ : ∃ b, bl.getD i2 0 = b := ⟨_, rfl⟩
              rw [hb] at h1 h2
              rw [h2] at h3 h4
              have HIN := Go.Lib.hid h4
              have HE := Go.Lib.hid h2
              clear h2 h4
              obtain ⟨gB, cB2, hBB⟩ := own_pos (HWl30.out.2.2.2.1) (by omega)
              obtain ⟨rfl, rfl⟩ : aB = some ⟨gB, 0, none⟩ ∧ cB = cB2 := by cases hBB; exact ⟨rfl, rfl⟩
              obtain ⟨gZ, cZ2, hZZ⟩ := own_pos (HWl30.out.2.2.1) (by omega)
              obtain ⟨rfl, rfl⟩ : aZ = some ⟨gZ, 0, none⟩ ∧ cZ = cZ2 := by cases hZZ; exact ⟨rfl, rfl⟩
              have hbc : wl2.cell? ⟨gB, i2, none⟩ = some (.int .i64 b) := by
                rw [World.ownsRow.cellAt (HWl30.out.2.2.2.1) i2 (by omega), ← hb]
                simp [hlt2]
              have hgB : gB < wl2.heap.size := World.block_lt_of_cell? wl2 _ hbc
              have HZ := Go.Lib.hid (fun (k : Nat) (hk : k < bs.length) => World.ownsRow.cellAt (HWl30.out.2.2.1) k (by omega))
              have hlti2 : (i2 : Int) < (bl.length : Int) := by omega
              clear hb hBB hZZ
              go_wp2_with fail
              go_loopw [28] (fun kv wr => ∃ k : Nat, kv = .int .i64 k ∧ A ≤ (k : Int) ∧ (k : Int) ≤ A + b ∧ Hid (Below wl2.heap.size wl2 wr)) (fun kv _ => (A + b).toNat - (intOf kv).toNat)
              case atStart => exact ⟨A.toNat, by rw [Int.toNat_of_nonneg h0], by omega, by omega, Go.Lib.hid (Below.refl _ _)⟩
              case round =>
                obtain ⟨k, rfl, hk1, hk2, HB3⟩ := hrel
                obtain ⟨wl3, rfl⟩ : ∃ x, x = wr := ⟨_, rfl⟩
                have bc3 : wl3.cell? ⟨gB, i2, none⟩ = some (.int .i64 b) := (HB3.out.cell (p := ⟨gB, i2, none⟩) hgB).trans hbc
                by_cases hk : (k : Int) < A + b
                · skip
                  obtain ⟨x, hx⟩ : ∃ x, bs.getD k 0 = x := ⟨_, rfl⟩
                  obtain ⟨hx1, hx2⟩ := HIN.out k hk1 hk
                  rw [hx] at hx1 hx2
                  have hkb : k < bs.length := by omega
                  have zc2 := HZ.out k hkb
                  have hgZ := World.block_lt_of_cell? wl2 ⟨gZ, k, none⟩ (zc2.trans (show (vals bs)[k]? = some (.int .i64 x) by rw [← hx]; simp [hkb]))
                  have zc : wl3.cell? ⟨gZ, k, none⟩ = some (.int .i64 x) := ((HB3.out.cell (p := ⟨gZ, k, none⟩) hgZ).trans zc2).trans (by rw [← hx]; simp [hkb])
                  have d1 : decide (x ≤ A) = false := decide_eq_false (by omega)
                  have d2 : decide (A + b < x) = false := decide_eq_false (by omega)
                  have hwr : IntKind.i64.wrap (A + b) = A + b := IntWalk.i64_in _ (by omega)
                  clear hx zc2 hgZ
                  go_wp2_with fail
                  go_quiet (fail)
                  have HBN : Hid (Below wl2.heap.size wl2 (wl3.drewN nq)) := Go.Lib.hid (ExactC.below_drewN HB3.out)
                  clear hwr zc d1 d2
                  go_wp2
                  go_roundw
                  case rel => exact ⟨k + 1, by go_num, by omega, by omega, HBN⟩
                  case measure => simp [intOf]; omega
                · skip
                  have HBN := Go.Lib.hid (And.intro HE.out (since_on (HWl30.out.2.2.2.2) HB3.out))
                  go_wp2
                  go_roundw
                  case rel => exact ⟨i2 + 1, A + b, by omega, by go_num, rfl, HBN⟩
                  case measure => simp [intOf]; omega
            · skip
              have hAe : A = (bs.length : Int) := by
                have h5 : i2 = bl.length := by omega
                rw [← HB2.out.1, h5, beg_all, HOWN.out.2]
              subst hAe
              have hlti2 : ¬ (i2 : Int) < (bl.length : Int) := by omega
              clear HOWN
              have HWd31 := Go.Lib.hid (And.intro HWl30.out.1 HWl30.out.2.1)
              clear HWl30
              cases ok
              case false =>
                go_wp2_with fail
                go_ret
                exact ⟨rfl, HWd31.out.1⟩
              case true =>
                obtain ⟨M, rfl, hMz, hz7, hz1, hsN, hsF, hsO⟩ := HMANY.out rfl
                have HS := Go.Lib.hid (And.intro hsN (And.intro hsF hsO))
                clear hsN hsF hsO HMANY
                have HS0 := Go.Lib.hid (And.intro (Below.refl wl2.heap.size wl2) (Sees.owns (HWd31.out.2)))
                go_wp2_with fail
                go_loopw [29, 30, 31] (fun nv iv _ wr => ∃ (i c : Nat) (a : Option Addr), i ≤ M ∧ iv = .int .i64 i ∧ nv = .slice a zs.length c ∧ Hid (Below wl2.heap.size wl2 wr ∧ Sees wr (.slice a zs.length c) zs.length (vals (swN zs i)))) (fun _ iv _ _ => M - (intOf iv).toNat)
                case atStart => exact ⟨0, cO, aO, Nat.zero_le _, rfl, rfl, HS0⟩
                case round =>
                  obtain ⟨i4, c4, a4, hi4, rfl, rfl, HB4⟩ := hrel
                  obtain ⟨wl4, rfl⟩ : ∃ x, x = wr := ⟨_, rfl⟩
                  clear HS0
                  have HWl32 := Go.Lib.hid (And.intro (Below.trans (HWd31.out.1) ((HB4.out.1).mono (Below.size (HWd31.out.1)))) (kept_call (HWd31.out.2) HB4.out.1))
                  have hln := swN_len zs i4
                  have HLN := Go.Lib.hid hln
                  clear hln
                  by_cases hlt4 : i4 < M
                  · skip
                    have hlti4 : (i4 : Int) < (M : Int) := by omega
                    have CR := Go.Lib.hid (rSorted_any (swN zs i4) false wl4 _ zs.length HB4.out.2 (by omega) (decide_eq_false (by rw [HLN.out]; exact HS.out.2.1 i4 hlt4)))
                    have CS := Go.Lib.hid (fun W h => implSweep (swN zs i4) (swN zs (i4 + 1)) true (by unfold sweepAns; rw [if_pos (HS.out.2.2 i4)]; rfl) (by rw [HLN.out]; omega) W (.slice a4 zs.length c4) zs.length h)
                    go_wp2_with fail
                    refine (CR.out).mono ?_
                    rintro e V1 ⟨rfl, d1⟩
                    have HV1 := Go.Lib.hid (And.intro (HB4.out.1.trans (d1.below _)) (HB4.out.2.grow (d1.below _)))
                    clear d1 CR
                    go_wp2_with fail
                    refine (CS.out _ HV1.out.2).mono ?_
                    rintro e V2 ⟨u, rfl, o2, b2⟩
                    rw [swN_len] at o2
                    obtain ⟨gU, cU, rfl⟩ := own_pos o2 (by omega)
                    have HV2 := Go.Lib.hid (And.intro (HV1.out.1.trans (b2.mono HV1.out.1.size)) (Sees.owns o2))
                    clear o2 b2 CS
                    go_wp2
                    go_roundw
                    case rel => exact ⟨i4 + 1, cU, some ⟨gU, 0, none⟩, by omega, by go_num, rfl, HV2⟩
                    case measure => simp [intOf]; omega
                  · skip
                    have hlti4 : ¬ (i4 : Int) < (M : Int) := by omega
                    have hMlt : (M : Int) < (zs.length : Int) := by omega
                    have hiM : i4 = M := by omega
                    have CR := Go.Lib.hid (rSorted_any (swN zs i4) true wl4 _ zs.length HB4.out.2 (by omega) (decide_eq_true (by rw [HLN.out, hiM]; exact HS.out.1)))
                    clear hiM
                    go_wp2_with fail
                    refine (CR.out).mono ?_
                    rintro e V1 ⟨rfl, d1⟩
                    have HV1 := Go.Lib.hid (Below.trans (HWl32.out.1) ((d1.below wl4.heap.size).mono (Below.size (HWl32.out.1))))
                    clear d1 CR
                    go_wp2_with fail
                    go_ret
                    exact ⟨rfl, HV1.out⟩
  case true =>
    as_aux_lemma =>
    obtain ⟨rt, rfl⟩ := HONE.out rfl
    obtain ⟨nr, hnr⟩ : ∃ nr, ((0 : Int) :: rt).length = nr + 1 := ⟨rt.length, rfl⟩
    obtain ⟨gR, cR2, rfl⟩ := own_pos (HWd20.out.2.2.1) (by omega)
    have hc0 := World.ownsRow.cellAt (HWd20.out.2.2.1) 0 (by omega)
    have e0 : (vals ((0 : Int) :: rt))[0]? = some (.int .i64 0) := rfl
    rw [e0] at hc0
    rw [hnr]
    have hz0 : ((nr : Int) + 1 == 0) = false := by rw [beq_eq_false_iff_ne]; omega
    clear e0 hnr HONE
    have HWd33 := Go.Lib.hid (And.intro HWd20.out.1 (And.intro HWd20.out.2.1 (And.intro HWd20.out.2.2.2.1 (And.intro HWd20.out.2.2.2.2.1 (And.intro HWd20.out.2.2.2.2.2.1 HWd20.out.2.2.2.2.2.2)))))
    clear HWd20
    go_wp2_with fail
    go_loopw [23, 24] (fun iv _ wr => ∃ i : Nat, i ≤ N ∧ iv = .int .i64 i ∧ Hid (Below W19.heap.size W19 wr)) (fun iv _ _ => N - (intOf iv).toNat)
    case atStart => exact ⟨0, Nat.zero_le _, rfl, Go.Lib.hid (Below.refl _ _)⟩
    case round =>
      obtain ⟨i, hi, rfl, HB⟩ := hrel
      obtain ⟨wl, rfl⟩ : ∃ x, x = wr := ⟨_, rfl⟩
      have HWl34 := Go.Lib.hid (And.intro (Below.trans (HWd33.out.1) ((HB.out).mono (Below.size (HWd33.out.1)))) (And.intro (kept_call (HWd33.out.2.1) HB.out) (And.intro (kept_call (HWd33.out.2.2.1) HB.out) (And.intro (Lists.kept (HWd33.out.2.2.2.1) HB.out) (And.intro (kept_call (HWd33.out.2.2.2.2.1) HB.out) (And.intro (kept_call (HWd33.out.2.2.2.2.2) HB.out) (HB.out)))))))
      by_cases hlt : i < N
      · skip
        have hlti : (i : Int) < (N : Int) := by omega
        obtain ⟨gs, hgl, hgo, hgr, _, _⟩ := HWl34.out.2.2.2.1
        have hml : (R.map vals).length = N := by rw [List.length_map, HN.out]
        rw [hml] at hgl hgo
        obtain ⟨gF, cF, hF⟩ := own_pos hgo (by omega)
        obtain ⟨rfl, rfl⟩ : aR = some ⟨gF, 0, none⟩ ∧ cR = cF := by cases hF; exact ⟨rfl, rfl⟩
        have hil : i < R.length := by rw [HN.out]; exact hlt
        obtain ⟨q, hq⟩ : ∃ q, R[i] = q := ⟨_, rfl⟩
        have hqs := HSW.out q (by rw [← hq]; exact List.getElem_mem _)
        have hrow := hgr i (by rw [hml]; exact hlt)
        have hgd : (R.map vals).getD i [] = vals q := by rw [← hq]; simp [hil]
        obtain ⟨⟨p1, p2⟩, hpp⟩ : ∃ p, gs.getD i (0, 0) = p := ⟨_, rfl⟩
        rw [hgd, hpp] at hrow
        unfold sl at hrow
        simp only at hrow
        have hck : wl.cell? ⟨gF, i, none⟩ = some (.slice (some ⟨p1, 0, none⟩) m p2) := by
          rw [hgo.cellAt i (by omega)]
          have e := hpp
          simp only [List.getElem?_map]
          rw [List.getElem?_eq_getElem (by omega : i < gs.length)]
          have e2 : gs[i]'(by omega) = (p1, p2) := by rw [← e]; simp [show i < gs.length by omega]
          rw [e2]; rfl
        have CS := Go.Lib.hid (implSweep q ys true hqs.1 (by omega) wl _ m (Sees.owns hrow))
        clear hgl hgo hgr hml hF hil hq hqs hrow hgd hpp
        go_wp2_with fail
        refine (CS.out).mono ?_
        rintro e W35 ⟨u35, rfl, o35, b35⟩
        have HW35 := Go.Lib.hid (And.intro (Below.trans (HWl34.out.1) ((b35).mono (Below.size (HWl34.out.1)))) (And.intro (kept_call (HWl34.out.2.1) b35) (And.intro (kept_call (HWl34.out.2.2.1) b35) (And.intro (Lists.kept (HWl34.out.2.2.2.1) b35) (And.intro (kept_call (HWl34.out.2.2.2.2.1) b35) (And.intro (kept_call (HWl34.out.2.2.2.2.2.1) b35) (And.intro (since_on (HWl34.out.2.2.2.2.2.2) b35) (own_lower (o35) (Below.size (HWl34.out.1))))))))))
        clear o35 b35 CS
        clear hck
        go_wp2_with fail
        refine (rInts_same _ _ _ ys.length ys (Sees.owns (HW35.out.2.2.2.2.2.2.2)) (Sees.owns (HW35.out.2.2.1)) (by unfold maxLen; omega)).mono ?_
        rintro e W36 ⟨rfl, d36⟩
        have HW36 := Go.Lib.hid (And.intro (Below.trans (HW35.out.1) (((d36.below W35.heap.size)).mono (Below.size (HW35.out.1)))) (And.intro (kept_call (HW35.out.2.1) (d36.below W35.heap.size)) (And.intro (kept_call (HW35.out.2.2.1) (d36.below W35.heap.size)) (And.intro (Lists.kept (HW35.out.2.2.2.1) (d36.below W35.heap.size)) (And.intro (kept_call (HW35.out.2.2.2.2.1) (d36.below W35.heap.size)) (And.intro (kept_call (HW35.out.2.2.2.2.2.1) (d36.below W35.heap.size)) (And.intro (since_on (HW35.out.2.2.2.2.2.2.1) (d36.below W35.heap.size)) (kept_call (HW35.out.2.2.2.2.2.2.2) (d36.below W35.heap.size)))))))))
        clear d36
        have HWd37 := Go.Lib.hid (And.intro HW36.out.1 (And.intro HW36.out.2.1 (And.intro HW36.out.2.2.1 (And.intro HW36.out.2.2.2.1 (And.intro HW36.out.2.2.2.2.1 (And.intro HW36.out.2.2.2.2.2.1 HW36.out.2.2.2.2.2.2.1))))))
        clear HW36
        have HBN := Go.Lib.hid (HWd37.out.2.2.2.2.2.2)
        go_wp2
        go_roundw
        case rel => exact ⟨i + 1, by omega, by go_num, HBN⟩
        case measure => simp [intOf]; omega
      · skip
        have hlti : ¬ (i : Int) < (N : Int) := by omega
        have HWd38 := Go.Lib.hid (And.intro HWl34.out.1 (And.intro HWl34.out.2.1 (And.intro HWl34.out.2.2.1 (And.intro HWl34.out.2.2.2.1 (And.intro HWl34.out.2.2.2.2.1 HWl34.out.2.2.2.2.2.1)))))
        clear HWl34
        cases three
        case false =>
          clear HTHREE
          have HWd39 := Go.Lib.hid (And.intro HWd38.out.1 HWd38.out.2.1)
          clear HWd38
          cases ok
          case false =>
            go_wp2_with fail
            go_ret
            exact ⟨rfl, HWd39.out.1⟩
          case true =>
            obtain ⟨M, rfl, hMz, hz7, hz1, hsN, hsF, hsO⟩ := HMANY.out rfl
            have HS := Go.Lib.hid (And.intro hsN (And.intro hsF hsO))
            clear hsN hsF hsO HMANY
            have HS0 := Go.Lib.hid (And.intro (Below.refl wl.heap.size wl) (Sees.owns (HWd39.out.2)))
            go_wp2_with fail
            go_loopw [29, 30, 31] (fun nv iv _ wr => ∃ (i c : Nat) (a : Option Addr), i ≤ M ∧ iv = .int .i64 i ∧ nv = .slice a zs.length c ∧ Hid (Below wl.heap.size wl wr ∧ Sees wr (.slice a zs.length c) zs.length (vals (swN zs i)))) (fun _ iv _ _ => M - (intOf iv).toNat)
            case atStart => exact ⟨0, cO, aO, Nat.zero_le _, rfl, rfl, HS0⟩
            case round =>
              obtain ⟨i4, c4, a4, hi4, rfl, rfl, HB4⟩ := hrel
              obtain ⟨wl4, rfl⟩ : ∃ x, x = wr := ⟨_, rfl⟩
              clear HS0
              have HWl40 := Go.Lib.hid (And.intro (Below.trans (HWd39.out.1) ((HB4.out.1).mono (Below.size (HWd39.out.1)))) (kept_call (HWd39.out.2) HB4.out.1))
              have hln := swN_len zs i4
              have HLN := Go.Lib.hid hln
              clear hln
              by_cases hlt4 : i4 < M
              · skip
                have hlti4 : (i4 : Int) < (M : Int) := by omega
                have CR := Go.Lib.hid (rSorted_any (swN zs i4) false wl4 _ zs.length HB4.out.2 (by omega) (decide_eq_false (by rw [HLN.out]; exact HS.out.2.1 i4 hlt4)))
                have CS := Go.Lib.hid (fun W h => implSweep (swN zs i4) (swN zs (i4 + 1)) true (by unfold sweepAns; rw [if_pos (HS.out.2.2 i4)]; rfl) (by rw [HLN.out]; omega) W (.slice a4 zs.length c4) zs.length h)
                go_wp2_with fail
                refine (CR.out).mono ?_
                rintro e V1 ⟨rfl, d1⟩
                have HV1 := Go.Lib.hid (And.intro (HB4.out.1.trans (d1.below _)) (HB4.out.2.grow (d1.below _)))
                clear d1 CR
                go_wp2_with fail
                refine (CS.out _ HV1.out.2).mono ?_
                rintro e V2 ⟨u, rfl, o2, b2⟩
                rw [swN_len] at o2
                obtain ⟨gU, cU, rfl⟩ := own_pos o2 (by omega)
                have HV2 := Go.Lib.hid (And.intro (HV1.out.1.trans (b2.mono HV1.out.1.size)) (Sees.owns o2))
                clear o2 b2 CS
                go_wp2
                go_roundw
                case rel => exact ⟨i4 + 1, cU, some ⟨gU, 0, none⟩, by omega, by go_num, rfl, HV2⟩
                case measure => simp [intOf]; omega
              · skip
                have hlti4 : ¬ (i4 : Int) < (M : Int) := by omega
                have hMlt : (M : Int) < (zs.length : Int) := by omega
                have hiM : i4 = M := by omega
                have CR := Go.Lib.hid (rSorted_any (swN zs i4) true wl4 _ zs.length HB4.out.2 (by omega) (decide_eq_true (by rw [HLN.out, hiM]; exact HS.out.1)))
                clear hiM
                go_wp2_with fail
                refine (CR.out).mono ?_
                rintro e V1 ⟨rfl, d1⟩
                have HV1 := Go.Lib.hid (Below.trans (HWl40.out.1) ((d1.below wl4.heap.size).mono (Below.size (HWl40.out.1))))
                clear d1 CR
                go_wp2_with fail
                go_ret
                exact ⟨rfl, HV1.out⟩
        case true =>
          have HWd41 := Go.Lib.hid (And.intro HWd38.out.1 (And.intro HWd38.out.2.1 (And.intro HWd38.out.2.2.2.2.1 HWd38.out.2.2.2.2.2)))
          clear HWd38
          have HOWN := Go.Lib.hid (HTHREE.out rfl)
          clear HTHREE
          go_wp2_with fail
          go_loopw [26, 27, 28] (fun av iv _ wr => ∃ (i : Nat) (A : Int), i ≤ bl.length ∧ iv = .int .i64 i ∧ av = .int .i64 A ∧ Hid (beg bl i = A ∧ Below wl.heap.size wl wr)) (fun _ iv _ _ => bl.length - (intOf iv).toNat)
          case atStart => exact ⟨0, 0, Nat.zero_le _, rfl, rfl, Go.Lib.hid ⟨rfl, Below.refl _ _⟩⟩
          case round =>
            obtain ⟨i2, A, hi2, rfl, rfl, HB2⟩ := hrel
            obtain ⟨wl2, rfl⟩ : ∃ x, x = wr := ⟨_, rfl⟩
            have HWl42 := Go.Lib.hid (And.intro (Below.trans (HWd41.out.1) ((HB2.out.2).mono (Below.size (HWd41.out.1)))) (And.intro (kept_call (HWd41.out.2.1) HB2.out.2) (And.intro (kept_call (HWd41.out.2.2.1) HB2.out.2) (And.intro (kept_call (HWd41.out.2.2.2) HB2.out.2) (HB2.out.2)))))
            by_cases hlt2 : i2 < bl.length
            · skip
              obtain ⟨h0, h1, h2, h3, h4⟩ := HOWN.out.1 i2 hlt2
              rw [HB2.out.1] at h0 h2 h4
              obtain ⟨b, hb⟩ : ∃ b, bl.getD i2 0 = b := ⟨_, rfl⟩
              rw [hb] at h1 h2
              rw [h2] at h3 h4
              have HIN := Go.Lib.hid h4
              have HE := Go.Lib.hid h2
              clear h2 h4
              obtain ⟨gB, cB2, hBB⟩ := own_pos (HWl42.out.2.2.2.1) (by omega)
              obtain ⟨rfl, rfl⟩ : aB = some ⟨gB, 0, none⟩ ∧ cB = cB2 := by cases hBB; exact ⟨rfl, rfl⟩
              obtain ⟨gZ, cZ2, hZZ⟩ := own_pos (HWl42.out.2.2.1) (by omega)
              obtain ⟨rfl, rfl⟩ : aZ = some ⟨gZ, 0, none⟩ ∧ cZ = cZ2 := by cases hZZ; exact ⟨rfl, rfl⟩
              have hbc : wl2.cell? ⟨gB, i2, none⟩ = some (.int .i64 b) := by
                rw [World.ownsRow.cellAt (HWl42.out.2.2.2.1) i2 (by omega), ← hb]
                simp [hlt2]
              have hgB : gB < wl2.heap.size := World.block_lt_of_cell? wl2 _ hbc
              have HZ := Go.Lib.hid (fun (k : Nat) (hk : k < bs.length) => World.ownsRow.cellAt (HWl42.out.2.2.1) k (by omega))
              have hlti2 : (i2 : Int) < (bl.length : Int) := by omega
              clear hb hBB hZZ
              go_wp2_with fail
              go_loopw [28] (fun kv wr => ∃ k : Nat, kv = .int .i64 k ∧ A ≤ (k : Int) ∧ (k : Int) ≤ A + b ∧ Hid (Below wl2.heap.size wl2 wr)) (fun kv _ => (A + b).toNat - (intOf kv).toNat)
              case atStart => exact ⟨A.toNat, by rw [Int.toNat_of_nonneg h0], by omega, by omega, Go.Lib.hid (Below.refl _ _)⟩
              case round =>
                obtain ⟨k, rfl, hk1, hk2, HB3⟩ := hrel
                obtain ⟨wl3, rfl⟩ : ∃ x, x = wr := ⟨_, rfl⟩
                have bc3 : wl3.cell? ⟨gB, i2, none⟩ = some (.int .i64 b) := (HB3.out.cell (p := ⟨gB, i2, none⟩) hgB).trans hbc
                by_cases hk : (k : Int) < A + b
                · skip
                  obtain ⟨x, hx⟩ : ∃ x, bs.getD k 0 = x := ⟨_, rfl⟩
                  obtain ⟨hx1, hx2⟩ := HIN.out k hk1 hk
                  rw [hx] at hx1 hx2
                  have hkb : k < bs.length := by omega
                  have zc2 := HZ.out k hkb
                  have hgZ := World.block_lt_of_cell? wl2 ⟨gZ, k, none⟩ (zc2.trans (show (vals bs)[k]? = some (.int .i64 x) by rw [← hx]; simp [hkb]))
                  have zc : wl3.cell? ⟨gZ, k, none⟩ = some (.int .i64 x) := ((HB3.out.cell (p := ⟨gZ, k, none⟩) hgZ).trans zc2).trans (by rw [← hx]; simp [hkb])
                  have d1 : decide (x ≤ A) = false := decide_eq_false (by omega)
                  have d2 : decide (A + b < x) = false := decide_eq_false (by omega)
                  have hwr : IntKind.i64.wrap (A + b) = A + b := IntWalk.i64_in _ (by omega)
                  clear hx zc2 hgZ
                  go_wp2_with fail
                  go_quiet (fail)
                  have HBN : Hid (Below wl2.heap.size wl2 (wl3.drewN nq)) := Go.Lib.hid (ExactC.below_drewN HB3.out)
                  clear hwr zc d1 d2
                  go_wp2
                  go_roundw
                  case rel => exact ⟨k + 1, by go_num, by omega, by omega, HBN⟩
                  case measure => simp [intOf]; omega
                · skip
                  have HBN := Go.Lib.hid (And.intro HE.out (since_on (HWl42.out.2.2.2.2) HB3.out))
                  go_wp2
                  go_roundw
                  case rel => exact ⟨i2 + 1, A + b, by omega, by go_num, rfl, HBN⟩
                  case measure => simp [intOf]; omega
            · skip
              have hAe : A = (bs.length : Int) := by
                have h5 : i2 = bl.length := by omega
                rw [← HB2.out.1, h5, beg_all, HOWN.out.2]
              subst hAe
              have hlti2 : ¬ (i2 : Int) < (bl.length : Int) := by omega
              clear HOWN
              have HWd43 := Go.Lib.hid (And.intro HWl42.out.1 HWl42.out.2.1)
              clear HWl42
              cases ok
              case false =>
                go_wp2_with fail
                go_ret
                exact ⟨rfl, HWd43.out.1⟩
              case true =>
                obtain ⟨M, rfl, hMz, hz7, hz1, hsN, hsF, hsO⟩ := HMANY.out rfl
                have HS := Go.Lib.hid (And.intro hsN (And.intro hsF hsO))
                clear hsN hsF hsO HMANY
                have HS0 := Go.Lib.hid (And.intro (Below.refl wl2.heap.size wl2) (Sees.owns (HWd43.out.2)))
                go_wp2_with fail
                go_loopw [29, 30, 31] (fun nv iv _ wr => ∃ (i c : Nat) (a : Option Addr), i ≤ M ∧ iv = .int .i64 i ∧ nv = .slice a zs.length c ∧ Hid (Below wl2.heap.size wl2 wr ∧ Sees wr (.slice a zs.length c) zs.length (vals (swN zs i)))) (fun _ iv _ _ => M - (intOf iv).toNat)
                case atStart => exact ⟨0, cO, aO, Nat.zero_le _, rfl, rfl, HS0⟩
                case round =>
                  obtain ⟨i4, c4, a4, hi4, rfl, rfl, HB4⟩ := hrel
                  obtain ⟨wl4, rfl⟩ : ∃ x, x = wr := ⟨_, rfl⟩
                  clear HS0
                  have HWl44 := Go.Lib.hid (And.intro (Below.trans (HWd43.out.1) ((HB4.out.1).mono (Below.size (HWd43.out.1)))) (kept_call (HWd43.out.2) HB4.out.1))
                  have hln := swN_len zs i4
                  have HLN := Go.Lib.hid hln
                  clear hln
                  by_cases hlt4 : i4 < M
                  · skip
                    have hlti4 : (i4 : Int) < (M : Int) := by omega
                    have CR := Go.Lib.hid (rSorted_any (swN zs i4) false wl4 _ zs.length HB4.out.2 (by omega) (decide_eq_false (by rw [HLN.out]; exact HS.out.2.1 i4 hlt4)))
                    have CS := Go.Lib.hid (fun W h => implSweep (swN zs i4) (swN zs (i4 + 1)) true (by unfold sweepAns; rw [if_pos (HS.out.2.2 i4)]; rfl) (by rw [HLN.out]; omega) W (.slice a4 zs.length c4) zs.length h)
                    go_wp2_with fail
                    refine (CR.out).mono ?_
                    rintro e V1 ⟨rfl, d1⟩
                    have HV1 := Go.Lib.hid (And.intro (HB4.out.1.trans (d1.below _)) (HB4.out.2.grow (d1.below _)))
                    clear d1 CR
                    go_wp2_with fail
                    refine (CS.out _ HV1.out.2).mono ?_
                    rintro e V2 ⟨u, rfl, o2, b2⟩
                    rw [swN_len] at o2
                    obtain ⟨gU, cU, rfl⟩ := own_pos o2 (by omega)
                    have HV2 := Go.Lib.hid (And.intro (HV1.out.1.trans (b2.mono HV1.out.1.size)) (Sees.owns o2))
                    clear o2 b2 CS
                    go_wp2
                    go_roundw
                    case rel => exact ⟨i4 + 1, cU, some ⟨gU, 0, none⟩, by omega, by go_num, rfl, HV2⟩
                    case measure => simp [intOf]; omega
                  · skip
                    have hlti4 : ¬ (i4 : Int) < (M : Int) := by omega
                    have hMlt : (M : Int) < (zs.length : Int) := by omega
                    have hiM : i4 = M := by omega
                    have CR := Go.Lib.hid (rSorted_any (swN zs i4) true wl4 _ zs.length HB4.out.2 (by omega) (decide_eq_true (by rw [HLN.out, hiM]; exact HS.out.1)))
                    clear hiM
                    go_wp2_with fail
                    refine (CR.out).mono ?_
                    rintro e V1 ⟨rfl, d1⟩
                    have HV1 := Go.Lib.hid (Below.trans (HWl44.out.1) ((d1.below wl4.heap.size).mono (Below.size (HWl44.out.1))))
                    clear d1 CR
                    go_wp2_with fail
                    go_ret
                    exact ⟨rfl, HV1.out⟩

/-! ### From the walk to the row -/
set_option maxRecDepth 100000 in
theorem lifted (os : Os) (started : os.Started) (H : Type) (enc : TypeId × Value → H) :
    ReturnsInHanded {} Try.checked os 14 .any (Rows.fnSweepsSpec.pre6 enc Try.prog Try.f14 Rows.fnSweepsRow.domain false) (Rows.fnSweepsSpec.post enc Try.prog Try.f14 false true false false) := by
  refine returnsInHanded_of_change (C := Try.checked) own started (by kernel_rfl) Try.func14
    (ChangeSpec.witness6 (enc := enc) (C := Try.checked) false ⟨#[], #[.slice none 0 0], []⟩ 8 (by kernel_rfl) (by kernel_rfl) (by kernel_rfl) (by kernel_rfl)) ?_
  intro W base args ds gs before hval0 hW hcnd _
  have hval : ∀ (j : Nat) t v, Try.f14.params[j]? = some t → args[j]? = some v → Value.okWide Try.prog W .any base t v := hval0
  have hW' := hW
  obtain ⟨p, q, hA0, hV, rfl, hfz, hnd⟩ := hW
  have hA : DataW.TrodAll enc Try.prog W 0 (fun _ => true) true Try.f14.params.toList args.toList ds p := hA0
  rw [Try.params14] at hA hval
  obtain ⟨u0, vs0, d0, ds0, p0, q0, hargs, rfl, rfl, h0, r0⟩ := trodAll_cons hA
  obtain ⟨rfl, rfl, rfl⟩ := trodAll_nil r0
  obtain rfl : args = #[u0] := by cases args; simp_all
  obtain ⟨rfl, rfl⟩ := trodVars_none hV
  have lt0 : ∀ x ∈ p0, x.block < W.heap.size := by obtain ⟨m, hm⟩ := h0; exact DataW.trod_lt m _ _ _ hm
  obtain ⟨n0, a0, s0, t0, w0⟩ := sees_ints Try.underlying22 Try.underlying5 (by kernel_rfl) (hval 0 22 u0 rfl rfl) h0
  clear hA0 hval0
  refine (walk u0 n0 a0 W s0 t0 w0).mono fun e W' ⟨he, bel⟩ => ?_
  subst he
  exact ⟨_, rfl, _, _, _, [], _, [], hW', trodAll_mk1 (shut_bool Try.underlying4 _), (trodAll_cons_mk (Below.trod laidOut (by kernel_rfl) (of_decide_eq_true (by kernel_rfl)) h0 bel lt0) trodAll_mk0), rfl, bel.frame _, fun h => by cases h⟩

theorem over : Rows.fnSweepsRow.holds Try.pinned (OpenSpec.ofChange Rows.fnSweepsSpec) :=
  OpenClaim.holds_of_wide 14 Try.f14 rfl rfl rfl rfl rfl rfl rfl ⟨rfl, rfl, rfl, rfl, rfl⟩ rfl rfl rfl rfl rfl (by kernel_rfl) Try.func14
    (show joinedFacts Try.prog 14 Try.f14 Rows.fnSweepsSpec Rows.fnSweepsRow = true by unfold joinedFacts; rw [SeatC.may, SeatC.lif, SeatC.mke]; kernel_rfl)
    (of_decide_eq_true (by kernel_rfl)) (by unfold Func.isWrapper; first | (rw [if_pos (by decide +kernel)]; kernel_rfl) | (rw [if_neg (by decide +kernel)]; exact ⟨rfl, rfl⟩))
    (fun os started H enc _ => lifted os started H enc)

/-- The statement. -/
theorem proved : Rows.FnSweepsSaid :=
  over
#print axioms proved
end Go.Proofs.Ytecbfoodkcgehab.fnSweeps
