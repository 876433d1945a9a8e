/-
  On every draw the law on one stack holds: an order is sortable exactly if its sweep is sorted and it has no bad triple, and words and sortable orders tell one another. Conditions: none.
-/
import Derived.Test.YtddenfnoajdjiaaPkOneStackLawC
import Derived.Test.YtddenfnoajdjiaaRows
import Derived.WalkKit
import Derived.ProofKit
import Derived.OpenShut
import Derived.ShutString
import Derived.ChangeOld
import Derived.Below

namespace Go.Proofs.Ytddenfnoajdjiaa.fnOneStack
open Go.ChangeShapes Go.WideShapes Go.ChangeAt Go.RowKit SeesC OpenC
open Go.ChangeMaps (open_string shut_string)
open IntsC ExactC OrdMath ListsC OrderC WordMath WordC RunC RunWordC ToC WordToC Sort4C Sweep4C BadM BadCC BeforeC Rank4C WordAt4C EndsM SweepM StackM OneFacts RSortedC EqA3C DrawOrdC DrawOrd2C DrawWordC Draw4C WordLawFacts
set_option linter.unusedVariables false

theorem own : ownKnob Try.prog.godebug = none := by kernel_rfl
theorem laidOut : laidOutB Try.prog = true := by kernel_rfl

/-! ### The walk -/
set_option maxRecDepth 100000 in
set_option maxHeartbeats 64000000 in
theorem walk (v0 : Value) (n0 : Nat) (a0 : List Int) (w : World) (s0 : Sees w v0 n0 (a0.map (Value.int .u8))) (t0 : n0 ≤ maxLen) (w0 : ∀ z ∈ a0, (Lit.int .u8 z).wf = true) :
    Calls Try.prog 3 #[v0] w fun e w' => e = .returned (.bool true) ∧ Below w.heap.size w w' := by
  have hz : ∀ z ∈ a0, 0 ≤ z ∧ z ≤ 255 := byte_bd w0
  have hs0 := s0
  obtain ⟨_, ar, cap, rfl, _, _⟩ := hs0
  by_cases hbig : (65536 : Int) < (n0 : Int)
  · have cB := Go.Lib.hid (rBig_of w ar n0 cap true (decide_eq_true hbig))
    clear hz
    go_enter Try.func3, Try.ntmps3
    go_wp2_with fail
    refine (cB.out).mono ?_
    rintro e W1 ⟨rfl, rfl⟩
    go_wp2_with fail
    go_ret
    exact ⟨rfl, Below.refl _ _⟩
  have hn : n0 ≤ 65536 := by omega
  have cB := Go.Lib.hid (rBig_of w ar n0 cap false (decide_eq_false hbig))
  have D1 := Go.Lib.hid (fun W h => drawSorting_any (.slice ar n0 cap) n0 a0 W h hz hn)
  have D2 := Go.Lib.hid (fun W h => drawOrdOfWord_any (.slice ar n0 cap) n0 a0 W h hz hn)
  have D3 := Go.Lib.hid (fun W h => drawWordAt_any (.slice ar n0 cap) n0 a0 W h hz hn)
  have D4 := Go.Lib.hid (fun W h => drawCountOne_any (.slice ar n0 cap) n0 a0 W h hz hn)
  have HW0 := Go.Lib.hid (And.intro (Below.refl w.heap.size w) s0)
  clear hz s0 w0 t0
  go_enter Try.func3, Try.ntmps3
  go_wp2_with fail
  refine (cB.out).mono ?_
  rintro e Wz ⟨rfl, rfl⟩
  go_wp2_with fail
  refine (D1.out _ (HW0.out.2)).mono ?_
  rintro e W1 ⟨vO, zs, rfl, hz8, o1, b1⟩
  have HW1 := Go.Lib.hid (And.intro (Below.trans (HW0.out.1) ((b1).mono (Below.size (HW0.out.1)))) (And.intro (Sees.grow (HW0.out.2) b1) (own_lower (o1) (Below.size (HW0.out.1)))))
  clear o1 b1
  obtain ⟨wd, ok, can, one, sweep, bw, a, b, c, four, h1, h2, h3, h4, h5, lsw, lby, lwd, hoo⟩ := facts_order zs hz8
  rcases hoo.cases with ⟨rfl, rfl⟩ | ⟨rfl, hlen, hs1, hrun, hsort, hlast, ⟨rfl, rfl, rfl⟩ | ⟨rfl, rfl, rfl, i, k, j, rfl, rfl, rfl, hik, hkj, hj, b1, b2⟩⟩
  · as_aux_lemma =>
    clear hoo
    obtain ⟨_, aO, cO, rfl, _, _⟩ := Sees.owns (HW1.out.2.2)
    have A1 := Go.Lib.hid (implSorting zs wd false h1 (by omega))
    have A2 := Go.Lib.hid (specSorting zs wd false h1 (by omega))
    have A3 := Go.Lib.hid (implSortable zs can false h2 (by omega))
    have A4 := Go.Lib.hid (specSortable zs can false h2 (by omega))
    have A5 := Go.Lib.hid (implSweep zs sweep false h3 (by omega))
    have A6 := Go.Lib.hid (specSweep zs sweep false h3 (by omega))
    have A7 := Go.Lib.hid (implSweepW zs bw false h4 (by omega))
    have A8 := Go.Lib.hid (specSweepW zs bw false h4 (by omega))
    have A9 := Go.Lib.hid (implBad zs a b c four h5 (by omega))
    have A10 := Go.Lib.hid (specBad zs a b c four h5 (by omega))
    clear h1 h2 h3 h4 h5 D1 cB
    go_wp2_with fail
    refine (A1.out _ _ _ (Sees.owns (HW1.out.2.2))).mono ?_
    rintro e W2 ⟨rfl, b2⟩
    have HW2 := Go.Lib.hid (And.intro (Below.trans (HW1.out.1) ((b2).mono (Below.size (HW1.out.1)))) (And.intro (Sees.grow (HW1.out.2.1) b2) (kept_call (HW1.out.2.2) b2)))
    clear b2
    go_wp2_with fail
    refine (A2.out _ _ _ (Sees.owns (HW2.out.2.2))).mono ?_
    rintro e W3 ⟨rfl, b3⟩
    have HW3 := Go.Lib.hid (And.intro (Below.trans (HW2.out.1) ((b3).mono (Below.size (HW2.out.1)))) (And.intro (Sees.grow (HW2.out.2.1) b3) (kept_call (HW2.out.2.2) b3)))
    clear b3
    go_wp2_with fail
    refine (A3.out _ _ _ (Sees.owns (HW3.out.2.2))).mono ?_
    rintro e W4 ⟨rfl, b4⟩
    have HW4 := Go.Lib.hid (And.intro (Below.trans (HW3.out.1) ((b4).mono (Below.size (HW3.out.1)))) (And.intro (Sees.grow (HW3.out.2.1) b4) (kept_call (HW3.out.2.2) b4)))
    clear b4
    go_wp2_with fail
    refine (A4.out _ _ _ (Sees.owns (HW4.out.2.2))).mono ?_
    rintro e W5 ⟨rfl, b5⟩
    have HW5 := Go.Lib.hid (And.intro (Below.trans (HW4.out.1) ((b5).mono (Below.size (HW4.out.1)))) (And.intro (Sees.grow (HW4.out.2.1) b5) (kept_call (HW4.out.2.2) b5)))
    clear b5
    clear A1 A2 A3 A4
    go_wp2_with fail
    refine (A5.out _ _ _ (Sees.owns (HW5.out.2.2))).mono ?_
    rintro e W6 ⟨v6, rfl, o6, b6⟩
    have HW6 := Go.Lib.hid (And.intro (Below.trans (HW5.out.1) ((b6).mono (Below.size (HW5.out.1)))) (And.intro (Sees.grow (HW5.out.2.1) b6) (And.intro (kept_call (HW5.out.2.2) b6) (own_lower (o6) (Below.size (HW5.out.1))))))
    clear o6 b6
    go_wp2_with fail
    refine (A6.out _ _ _ (Sees.owns (HW6.out.2.2.1))).mono ?_
    rintro e W7 ⟨v7, rfl, o7, b7⟩
    have HW7 := Go.Lib.hid (And.intro (Below.trans (HW6.out.1) ((b7).mono (Below.size (HW6.out.1)))) (And.intro (Sees.grow (HW6.out.2.1) b7) (And.intro (kept_call (HW6.out.2.2.1) b7) (And.intro (kept_call (HW6.out.2.2.2) b7) (own_lower (o7) (Below.size (HW6.out.1)))))))
    clear o7 b7
    go_wp2_with fail
    refine (rInts_same _ _ _ sweep.length sweep (Sees.owns (HW7.out.2.2.2.1)) (Sees.owns (HW7.out.2.2.2.2)) (by unfold maxLen; omega)).mono ?_
    rintro e W8 ⟨rfl, d8⟩
    have HW8 := Go.Lib.hid (And.intro (Below.trans (HW7.out.1) (((d8.below W7.heap.size)).mono (Below.size (HW7.out.1)))) (And.intro (Sees.grow (HW7.out.2.1) (d8.below W7.heap.size)) (And.intro (kept_call (HW7.out.2.2.1) (d8.below W7.heap.size)) (And.intro (kept_call (HW7.out.2.2.2.1) (d8.below W7.heap.size)) (kept_call (HW7.out.2.2.2.2) (d8.below W7.heap.size))))))
    clear d8
    have HWd9 := Go.Lib.hid (And.intro HW8.out.1 (And.intro HW8.out.2.1 (And.intro HW8.out.2.2.1 HW8.out.2.2.2.1)))
    clear HW8
    clear A5 A6
    go_wp2_with fail
    refine (A7.out _ _ _ (Sees.owns (HWd9.out.2.2.1))).mono ?_
    rintro e W10 ⟨rfl, b10⟩
    have HW10 := Go.Lib.hid (And.intro (Below.trans (HWd9.out.1) ((b10).mono (Below.size (HWd9.out.1)))) (And.intro (Sees.grow (HWd9.out.2.1) b10) (And.intro (kept_call (HWd9.out.2.2.1) b10) (kept_call (HWd9.out.2.2.2) b10))))
    clear b10
    go_wp2_with fail
    refine (A8.out _ _ _ (Sees.owns (HW10.out.2.2.1))).mono ?_
    rintro e W11 ⟨rfl, b11⟩
    have HW11 := Go.Lib.hid (And.intro (Below.trans (HW10.out.1) ((b11).mono (Below.size (HW10.out.1)))) (And.intro (Sees.grow (HW10.out.2.1) b11) (And.intro (kept_call (HW10.out.2.2.1) b11) (kept_call (HW10.out.2.2.2) b11))))
    clear b11
    clear A7 A8
    go_wp2_with fail
    refine (A9.out _ _ _ (Sees.owns (HW11.out.2.2.1))).mono ?_
    rintro e W12 ⟨rfl, b12⟩
    have HW12 := Go.Lib.hid (And.intro (Below.trans (HW11.out.1) ((b12).mono (Below.size (HW11.out.1)))) (And.intro (Sees.grow (HW11.out.2.1) b12) (And.intro (kept_call (HW11.out.2.2.1) b12) (kept_call (HW11.out.2.2.2) b12))))
    clear b12
    have hba13 : Below W12.heap.size W12 (W12.alloc (.cells #[.int .i64 a, .int .i64 b, .int .i64 c] 33)) := (Below.refl _ _).alloc (Nat.le_refl _) _
    have HWa13 := Go.Lib.hid (And.intro (Below.trans (HW12.out.1) ((hba13).mono (Below.size (HW12.out.1)))) (And.intro (Sees.grow (HW12.out.2.1) hba13) (And.intro (kept_call (HW12.out.2.2.1) hba13) (And.intro (kept_call (HW12.out.2.2.2) hba13) (arr_alloc W12 (.int .i64 a) (.int .i64 b) (.int .i64 c))))))
    clear hba13
    go_wp2_with fail
    refine (A10.out _ _ _ (Sees.owns (HWa13.out.2.2.1))).mono ?_
    rintro e W14 ⟨rfl, b14⟩
    have HW14 := Go.Lib.hid (And.intro (Below.trans (HWa13.out.1) ((b14).mono (Below.size (HWa13.out.1)))) (And.intro (Sees.grow (HWa13.out.2.1) b14) (And.intro (kept_call (HWa13.out.2.2.1) b14) (And.intro (kept_call (HWa13.out.2.2.2.1) b14) (arr_call (HWa13.out.2.2.2.2) b14)))))
    clear b14
    clear A9 A10
    have hba15 : Below W14.heap.size W14 (W14.alloc (.cells #[.int .i64 a, .int .i64 b, .int .i64 c] 33)) := (Below.refl _ _).alloc (Nat.le_refl _) _
    have HWa15 := Go.Lib.hid (And.intro (Below.trans (HW14.out.1) ((hba15).mono (Below.size (HW14.out.1)))) (And.intro (Sees.grow (HW14.out.2.1) hba15) (And.intro (kept_call (HW14.out.2.2.1) hba15) (And.intro (kept_call (HW14.out.2.2.2.1) hba15) (arr_call (HW14.out.2.2.2.2) hba15)))))
    clear hba15
    obtain ⟨k0, k1, k2, _, _, _⟩ := arr_cells (HWa15.out.2.2.2.2)
    have heqA := eqA3 a b c
    go_wp2_with fail
    refine (D2.out _ (HWa15.out.2.1)).mono ?_
    rintro e W16 ⟨x, hx, rfl, b16⟩
    have HW16 := Go.Lib.hid (And.intro (Below.trans (HWa15.out.1) ((b16).mono (Below.size (HWa15.out.1)))) (And.intro (Sees.grow (HWa15.out.2.1) b16) (And.intro (kept_call (HWa15.out.2.2.1) b16) (And.intro (kept_call (HWa15.out.2.2.2.1) b16) (arr_call (HWa15.out.2.2.2.2) b16)))))
    clear b16 k0 k1 k2 heqA D2
    obtain ⟨order, rank, five, g1, g2, g3, lo, hr0, hr1, hfive⟩ := facts_word x hx
    have B1 := Go.Lib.hid (implBefore x order five g1 (by omega))
    have B2 := Go.Lib.hid (specBefore x order five g1 (by omega))
    have B3 := Go.Lib.hid (implIsWord x five g3 (by omega))
    have B4 := Go.Lib.hid (implRankW x rank five g2 (by omega))
    have B5 := Go.Lib.hid (specRankW x rank five g2 (by omega))
    have HFIVE := Go.Lib.hid hfive
    clear g1 g2 g3 hfive
    go_wp2_with fail
    refine (B1.out _).mono ?_
    rintro e W17 ⟨v17, rfl, o17, b17⟩
    have HW17 := Go.Lib.hid (And.intro (Below.trans (HW16.out.1) ((b17).mono (Below.size (HW16.out.1)))) (And.intro (Sees.grow (HW16.out.2.1) b17) (And.intro (kept_call (HW16.out.2.2.1) b17) (And.intro (kept_call (HW16.out.2.2.2.1) b17) (And.intro (arr_call (HW16.out.2.2.2.2) b17) (own_lower (o17) (Below.size (HW16.out.1))))))))
    clear o17 b17
    go_wp2_with fail
    refine (B2.out _).mono ?_
    rintro e W18 ⟨v18, rfl, o18, b18⟩
    have HW18 := Go.Lib.hid (And.intro (Below.trans (HW17.out.1) ((b18).mono (Below.size (HW17.out.1)))) (And.intro (Sees.grow (HW17.out.2.1) b18) (And.intro (kept_call (HW17.out.2.2.1) b18) (And.intro (kept_call (HW17.out.2.2.2.1) b18) (And.intro (arr_call (HW17.out.2.2.2.2.1) b18) (And.intro (kept_call (HW17.out.2.2.2.2.2) b18) (own_lower (o18) (Below.size (HW17.out.1)))))))))
    clear o18 b18
    go_wp2_with fail
    refine (B3.out _).mono ?_
    rintro e W19 ⟨rfl, b19⟩
    have HW19 := Go.Lib.hid (And.intro (Below.trans (HW18.out.1) ((b19).mono (Below.size (HW18.out.1)))) (And.intro (Sees.grow (HW18.out.2.1) b19) (And.intro (kept_call (HW18.out.2.2.1) b19) (And.intro (kept_call (HW18.out.2.2.2.1) b19) (And.intro (arr_call (HW18.out.2.2.2.2.1) b19) (And.intro (kept_call (HW18.out.2.2.2.2.2.1) b19) (kept_call (HW18.out.2.2.2.2.2.2) b19)))))))
    clear b19
    go_wp2_with fail
    refine (rInts_same _ _ _ order.length order (Sees.owns (HW19.out.2.2.2.2.2.1)) (Sees.owns (HW19.out.2.2.2.2.2.2)) (by unfold maxLen; omega)).mono ?_
    rintro e W20 ⟨rfl, d20⟩
    have HW20 := Go.Lib.hid (And.intro (Below.trans (HW19.out.1) (((d20.below W19.heap.size)).mono (Below.size (HW19.out.1)))) (And.intro (Sees.grow (HW19.out.2.1) (d20.below W19.heap.size)) (And.intro (kept_call (HW19.out.2.2.1) (d20.below W19.heap.size)) (And.intro (kept_call (HW19.out.2.2.2.1) (d20.below W19.heap.size)) (And.intro (arr_call (HW19.out.2.2.2.2.1) (d20.below W19.heap.size)) (And.intro (kept_call (HW19.out.2.2.2.2.2.1) (d20.below W19.heap.size)) (kept_call (HW19.out.2.2.2.2.2.2) (d20.below W19.heap.size))))))))
    clear d20
    have HWd21 := Go.Lib.hid (And.intro HW20.out.1 (And.intro HW20.out.2.1 (And.intro HW20.out.2.2.1 (And.intro HW20.out.2.2.2.1 (And.intro HW20.out.2.2.2.2.1 HW20.out.2.2.2.2.2.1)))))
    clear HW20
    clear B1 B2 B3
    go_wp2_with fail
    refine (B4.out _).mono ?_
    rintro e W22 ⟨rfl, b22⟩
    have HW22 := Go.Lib.hid (And.intro (Below.trans (HWd21.out.1) ((b22).mono (Below.size (HWd21.out.1)))) (And.intro (Sees.grow (HWd21.out.2.1) b22) (And.intro (kept_call (HWd21.out.2.2.1) b22) (And.intro (kept_call (HWd21.out.2.2.2.1) b22) (And.intro (arr_call (HWd21.out.2.2.2.2.1) b22) (kept_call (HWd21.out.2.2.2.2.2) b22))))))
    clear b22
    go_wp2_with fail
    refine (B5.out _).mono ?_
    rintro e W23 ⟨rfl, b23⟩
    have HW23 := Go.Lib.hid (And.intro (Below.trans (HW22.out.1) ((b23).mono (Below.size (HW22.out.1)))) (And.intro (Sees.grow (HW22.out.2.1) b23) (And.intro (kept_call (HW22.out.2.2.1) b23) (And.intro (kept_call (HW22.out.2.2.2.1) b23) (And.intro (arr_call (HW22.out.2.2.2.2.1) b23) (kept_call (HW22.out.2.2.2.2.2) b23))))))
    clear b23
    clear B4 B5
    go_wp2_with fail
    refine (D3.out _ (HW23.out.2.1)).mono ?_
    rintro e W24 ⟨n, kk, rfl, hn1, hn2, hk1, hk2, b24⟩
    have HW24 := Go.Lib.hid (And.intro (Below.trans (HW23.out.1) ((b24).mono (Below.size (HW23.out.1)))) (And.intro (Sees.grow (HW23.out.2.1) b24) (And.intro (kept_call (HW23.out.2.2.1) b24) (And.intro (kept_call (HW23.out.2.2.2.1) b24) (And.intro (arr_call (HW23.out.2.2.2.2.1) b24) (kept_call (HW23.out.2.2.2.2.2) b24))))))
    clear b24 D3
    obtain ⟨at_, seven, g4, la, hseven⟩ := facts_at n kk
    have B6 := Go.Lib.hid (implAtW n kk at_ seven g4 (wf_mid hn1 hn2) (wf_mid hk1 hk2))
    have B7 := Go.Lib.hid (specAtW n kk at_ seven g4 (wf_mid hn1 hn2) (wf_mid hk1 hk2))
    have HSEV := Go.Lib.hid hseven
    clear g4 hseven
    go_wp2_with fail
    refine (B6.out _).mono ?_
    rintro e W25 ⟨rfl, b25⟩
    have HW25 := Go.Lib.hid (And.intro (Below.trans (HW24.out.1) ((b25).mono (Below.size (HW24.out.1)))) (And.intro (Sees.grow (HW24.out.2.1) b25) (And.intro (kept_call (HW24.out.2.2.1) b25) (And.intro (kept_call (HW24.out.2.2.2.1) b25) (And.intro (arr_call (HW24.out.2.2.2.2.1) b25) (kept_call (HW24.out.2.2.2.2.2) b25))))))
    clear b25
    go_wp2_with fail
    refine (B7.out _).mono ?_
    rintro e W26 ⟨rfl, b26⟩
    have HW26 := Go.Lib.hid (And.intro (Below.trans (HW25.out.1) ((b26).mono (Below.size (HW25.out.1)))) (And.intro (Sees.grow (HW25.out.2.1) b26) (And.intro (kept_call (HW25.out.2.2.1) b26) (And.intro (kept_call (HW25.out.2.2.2.1) b26) (And.intro (arr_call (HW25.out.2.2.2.2.1) b26) (kept_call (HW25.out.2.2.2.2.2) b26))))))
    clear b26
    clear B6 B7
    go_wp2_with fail
    refine (D4.out _ (HW26.out.2.1)).mono ?_
    rintro e W27 ⟨m, rfl, hm1, hm2, b27⟩
    have HW27 := Go.Lib.hid (And.intro (Below.trans (HW26.out.1) ((b27).mono (Below.size (HW26.out.1)))) (And.intro (Sees.grow (HW26.out.2.1) b27) (And.intro (kept_call (HW26.out.2.2.1) b27) (And.intro (kept_call (HW26.out.2.2.2.1) b27) (And.intro (arr_call (HW26.out.2.2.2.2.1) b27) (kept_call (HW26.out.2.2.2.2.2) b27))))))
    clear b27 D4
    have HWd28 := Go.Lib.hid (And.intro HW27.out.1 (And.intro HW27.out.2.2.1 (And.intro HW27.out.2.2.2.1 (And.intro HW27.out.2.2.2.2.1 HW27.out.2.2.2.2.2))))
    clear HW27
    obtain ⟨many, eight, g5⟩ := facts_one m
    have B8 := Go.Lib.hid (implOne m many eight g5 (wf_mid (by omega) (by omega)))
    have B9 := Go.Lib.hid (specOne m many eight g5 (wf_mid (by omega) (by omega)))
    clear g5
    go_wp2_with fail
    refine (B8.out _).mono ?_
    rintro e W29 ⟨rfl, b29⟩
    have HW29 := Go.Lib.hid (And.intro (Below.trans (HWd28.out.1) ((b29).mono (Below.size (HWd28.out.1)))) (And.intro (kept_call (HWd28.out.2.1) b29) (And.intro (kept_call (HWd28.out.2.2.1) b29) (And.intro (arr_call (HWd28.out.2.2.2.1) b29) (kept_call (HWd28.out.2.2.2.2) b29)))))
    clear b29
    go_wp2_with fail
    refine (B9.out _).mono ?_
    rintro e W30 ⟨rfl, b30⟩
    have HW30 := Go.Lib.hid (And.intro (Below.trans (HW29.out.1) ((b30).mono (Below.size (HW29.out.1)))) (And.intro (kept_call (HW29.out.2.1) b30) (And.intro (kept_call (HW29.out.2.2.1) b30) (And.intro (arr_call (HW29.out.2.2.2.1) b30) (kept_call (HW29.out.2.2.2.2) b30)))))
    clear b30
    clear B8 B9
    cases five
    case false =>
      clear HFIVE
      have HWd31 := Go.Lib.hid (And.intro HW30.out.1 (And.intro HW30.out.2.1 (And.intro HW30.out.2.2.1 HW30.out.2.2.2.1)))
      clear HW30
      cases seven
      case false =>
        clear HSEV
        go_wp2_with fail
        go_ret
        exact ⟨rfl, HWd31.out.1⟩
      case true =>
        have E3 := Go.Lib.hid (implRankW at_ kk true (HSEV.out rfl) (by omega))
        clear HSEV
        go_wp2_with fail
        refine (E3.out _).mono ?_
        rintro e W32 ⟨rfl, b32⟩
        have HW32 := Go.Lib.hid (And.intro (Below.trans (HWd31.out.1) ((b32).mono (Below.size (HWd31.out.1)))) (And.intro (kept_call (HWd31.out.2.1) b32) (And.intro (kept_call (HWd31.out.2.2.1) b32) (arr_call (HWd31.out.2.2.2) b32))))
        clear b32
        clear E3
        go_wp2_with fail
        go_ret
        exact ⟨rfl, HW32.out.1⟩
    case true =>
      have E1 := Go.Lib.hid (implSorting order x true (HFIVE.out rfl).1 (by omega))
      have E2 := Go.Lib.hid (implAtW ((x.size : Int) / 2) rank x true (HFIVE.out rfl).2 (wf_mid (by omega) (by omega)) (wf_mid (by omega) (by omega)))
      clear HFIVE
      go_wp2_with fail
      refine (E1.out _ _ _ (Sees.owns (HW30.out.2.2.2.2))).mono ?_
      rintro e W33 ⟨rfl, b33⟩
      have HW33 := Go.Lib.hid (And.intro (Below.trans (HW30.out.1) ((b33).mono (Below.size (HW30.out.1)))) (And.intro (kept_call (HW30.out.2.1) b33) (And.intro (kept_call (HW30.out.2.2.1) b33) (And.intro (arr_call (HW30.out.2.2.2.1) b33) (kept_call (HW30.out.2.2.2.2) b33)))))
      clear b33
      go_wp2_with fail
      refine (E2.out _).mono ?_
      rintro e W34 ⟨rfl, b34⟩
      have HW34 := Go.Lib.hid (And.intro (Below.trans (HW33.out.1) ((b34).mono (Below.size (HW33.out.1)))) (And.intro (kept_call (HW33.out.2.1) b34) (And.intro (kept_call (HW33.out.2.2.1) b34) (And.intro (arr_call (HW33.out.2.2.2.1) b34) (kept_call (HW33.out.2.2.2.2) b34)))))
      clear b34
      clear E1 E2
      have HWd35 := Go.Lib.hid (And.intro HW34.out.1 (And.intro HW34.out.2.1 (And.intro HW34.out.2.2.1 HW34.out.2.2.2.1)))
      clear HW34
      cases seven
      case false =>
        clear HSEV
        go_wp2_with fail
        go_ret
        exact ⟨rfl, HWd35.out.1⟩
      case true =>
        have E3 := Go.Lib.hid (implRankW at_ kk true (HSEV.out rfl) (by omega))
        clear HSEV
        go_wp2_with fail
        refine (E3.out _).mono ?_
        rintro e W36 ⟨rfl, b36⟩
        have HW36 := Go.Lib.hid (And.intro (Below.trans (HWd35.out.1) ((b36).mono (Below.size (HWd35.out.1)))) (And.intro (kept_call (HWd35.out.2.1) b36) (And.intro (kept_call (HWd35.out.2.2.1) b36) (arr_call (HWd35.out.2.2.2) b36))))
        clear b36
        clear E3
        go_wp2_with fail
        go_ret
        exact ⟨rfl, HW36.out.1⟩
  · as_aux_lemma =>
    clear hoo
    obtain ⟨gO, cO, rfl⟩ := own_pos (HW1.out.2.2) (by omega)
    have HC := Go.Lib.hid (And.intro hrun (And.intro hsort hlast))
    clear hlen hrun hsort hlast
    have A1 := Go.Lib.hid (implSorting zs wd true h1 (by omega))
    have A2 := Go.Lib.hid (specSorting zs wd true h1 (by omega))
    have A3 := Go.Lib.hid (implSortable zs true true h2 (by omega))
    have A4 := Go.Lib.hid (specSortable zs true true h2 (by omega))
    have A5 := Go.Lib.hid (implSweep zs sweep true h3 (by omega))
    have A6 := Go.Lib.hid (specSweep zs sweep true h3 (by omega))
    have A7 := Go.Lib.hid (implSweepW zs bw true h4 (by omega))
    have A8 := Go.Lib.hid (specSweepW zs bw true h4 (by omega))
    have A9 := Go.Lib.hid (implBad zs a b c false h5 (by omega))
    have A10 := Go.Lib.hid (specBad zs a b c false h5 (by omega))
    clear h1 h2 h3 h4 h5 D1 cB
    go_wp2_with fail
    refine (A1.out _ _ _ (Sees.owns (HW1.out.2.2))).mono ?_
    rintro e W37 ⟨rfl, b37⟩
    have HW37 := Go.Lib.hid (And.intro (Below.trans (HW1.out.1) ((b37).mono (Below.size (HW1.out.1)))) (And.intro (Sees.grow (HW1.out.2.1) b37) (kept_call (HW1.out.2.2) b37)))
    clear b37
    go_wp2_with fail
    refine (A2.out _ _ _ (Sees.owns (HW37.out.2.2))).mono ?_
    rintro e W38 ⟨rfl, b38⟩
    have HW38 := Go.Lib.hid (And.intro (Below.trans (HW37.out.1) ((b38).mono (Below.size (HW37.out.1)))) (And.intro (Sees.grow (HW37.out.2.1) b38) (kept_call (HW37.out.2.2) b38)))
    clear b38
    go_wp2_with fail
    refine (A3.out _ _ _ (Sees.owns (HW38.out.2.2))).mono ?_
    rintro e W39 ⟨rfl, b39⟩
    have HW39 := Go.Lib.hid (And.intro (Below.trans (HW38.out.1) ((b39).mono (Below.size (HW38.out.1)))) (And.intro (Sees.grow (HW38.out.2.1) b39) (kept_call (HW38.out.2.2) b39)))
    clear b39
    go_wp2_with fail
    refine (A4.out _ _ _ (Sees.owns (HW39.out.2.2))).mono ?_
    rintro e W40 ⟨rfl, b40⟩
    have HW40 := Go.Lib.hid (And.intro (Below.trans (HW39.out.1) ((b40).mono (Below.size (HW39.out.1)))) (And.intro (Sees.grow (HW39.out.2.1) b40) (kept_call (HW39.out.2.2) b40)))
    clear b40
    clear A1 A2 A3 A4
    go_wp2_with fail
    refine (A5.out _ _ _ (Sees.owns (HW40.out.2.2))).mono ?_
    rintro e W41 ⟨v41, rfl, o41, b41⟩
    have HW41 := Go.Lib.hid (And.intro (Below.trans (HW40.out.1) ((b41).mono (Below.size (HW40.out.1)))) (And.intro (Sees.grow (HW40.out.2.1) b41) (And.intro (kept_call (HW40.out.2.2) b41) (own_lower (o41) (Below.size (HW40.out.1))))))
    clear o41 b41
    obtain ⟨gS, cS, rfl⟩ := own_pos (HW41.out.2.2.2) (by omega)
    go_wp2_with fail
    refine (A6.out _ _ _ (Sees.owns (HW41.out.2.2.1))).mono ?_
    rintro e W42 ⟨v42, rfl, o42, b42⟩
    have HW42 := Go.Lib.hid (And.intro (Below.trans (HW41.out.1) ((b42).mono (Below.size (HW41.out.1)))) (And.intro (Sees.grow (HW41.out.2.1) b42) (And.intro (kept_call (HW41.out.2.2.1) b42) (And.intro (kept_call (HW41.out.2.2.2) b42) (own_lower (o42) (Below.size (HW41.out.1)))))))
    clear o42 b42
    go_wp2_with fail
    refine (rInts_same _ _ _ sweep.length sweep (Sees.owns (HW42.out.2.2.2.1)) (Sees.owns (HW42.out.2.2.2.2)) (by unfold maxLen; omega)).mono ?_
    rintro e W43 ⟨rfl, d43⟩
    have HW43 := Go.Lib.hid (And.intro (Below.trans (HW42.out.1) (((d43.below W42.heap.size)).mono (Below.size (HW42.out.1)))) (And.intro (Sees.grow (HW42.out.2.1) (d43.below W42.heap.size)) (And.intro (kept_call (HW42.out.2.2.1) (d43.below W42.heap.size)) (And.intro (kept_call (HW42.out.2.2.2.1) (d43.below W42.heap.size)) (kept_call (HW42.out.2.2.2.2) (d43.below W42.heap.size))))))
    clear d43
    have HWd44 := Go.Lib.hid (And.intro HW43.out.1 (And.intro HW43.out.2.1 (And.intro HW43.out.2.2.1 HW43.out.2.2.2.1)))
    clear HW43
    clear A5 A6
    go_wp2_with fail
    refine (A7.out _ _ _ (Sees.owns (HWd44.out.2.2.1))).mono ?_
    rintro e W45 ⟨rfl, b45⟩
    have HW45 := Go.Lib.hid (And.intro (Below.trans (HWd44.out.1) ((b45).mono (Below.size (HWd44.out.1)))) (And.intro (Sees.grow (HWd44.out.2.1) b45) (And.intro (kept_call (HWd44.out.2.2.1) b45) (kept_call (HWd44.out.2.2.2) b45))))
    clear b45
    go_wp2_with fail
    refine (A8.out _ _ _ (Sees.owns (HW45.out.2.2.1))).mono ?_
    rintro e W46 ⟨rfl, b46⟩
    have HW46 := Go.Lib.hid (And.intro (Below.trans (HW45.out.1) ((b46).mono (Below.size (HW45.out.1)))) (And.intro (Sees.grow (HW45.out.2.1) b46) (And.intro (kept_call (HW45.out.2.2.1) b46) (kept_call (HW45.out.2.2.2) b46))))
    clear b46
    clear A7 A8
    go_wp2_with fail
    refine (A9.out _ _ _ (Sees.owns (HW46.out.2.2.1))).mono ?_
    rintro e W47 ⟨rfl, b47⟩
    have HW47 := Go.Lib.hid (And.intro (Below.trans (HW46.out.1) ((b47).mono (Below.size (HW46.out.1)))) (And.intro (Sees.grow (HW46.out.2.1) b47) (And.intro (kept_call (HW46.out.2.2.1) b47) (kept_call (HW46.out.2.2.2) b47))))
    clear b47
    have hba48 : Below W47.heap.size W47 (W47.alloc (.cells #[.int .i64 a, .int .i64 b, .int .i64 c] 33)) := (Below.refl _ _).alloc (Nat.le_refl _) _
    have HWa48 := Go.Lib.hid (And.intro (Below.trans (HW47.out.1) ((hba48).mono (Below.size (HW47.out.1)))) (And.intro (Sees.grow (HW47.out.2.1) hba48) (And.intro (kept_call (HW47.out.2.2.1) hba48) (And.intro (kept_call (HW47.out.2.2.2) hba48) (arr_alloc W47 (.int .i64 a) (.int .i64 b) (.int .i64 c))))))
    clear hba48
    go_wp2_with fail
    refine (A10.out _ _ _ (Sees.owns (HWa48.out.2.2.1))).mono ?_
    rintro e W49 ⟨rfl, b49⟩
    have HW49 := Go.Lib.hid (And.intro (Below.trans (HWa48.out.1) ((b49).mono (Below.size (HWa48.out.1)))) (And.intro (Sees.grow (HWa48.out.2.1) b49) (And.intro (kept_call (HWa48.out.2.2.1) b49) (And.intro (kept_call (HWa48.out.2.2.2.1) b49) (arr_call (HWa48.out.2.2.2.2) b49)))))
    clear b49
    clear A9 A10
    have hba50 : Below W49.heap.size W49 (W49.alloc (.cells #[.int .i64 a, .int .i64 b, .int .i64 c] 33)) := (Below.refl _ _).alloc (Nat.le_refl _) _
    have HWa50 := Go.Lib.hid (And.intro (Below.trans (HW49.out.1) ((hba50).mono (Below.size (HW49.out.1)))) (And.intro (Sees.grow (HW49.out.2.1) hba50) (And.intro (kept_call (HW49.out.2.2.1) hba50) (And.intro (kept_call (HW49.out.2.2.2.1) hba50) (arr_call (HW49.out.2.2.2.2) hba50)))))
    clear hba50
    obtain ⟨k0, k1, k2, _, _, _⟩ := arr_cells (HWa50.out.2.2.2.2)
    have heqA := eqA3 a b c
    go_wp2_with fail
    refine (D2.out _ (HWa50.out.2.1)).mono ?_
    rintro e W51 ⟨x, hx, rfl, b51⟩
    have HW51 := Go.Lib.hid (And.intro (Below.trans (HWa50.out.1) ((b51).mono (Below.size (HWa50.out.1)))) (And.intro (Sees.grow (HWa50.out.2.1) b51) (And.intro (kept_call (HWa50.out.2.2.1) b51) (And.intro (kept_call (HWa50.out.2.2.2.1) b51) (arr_call (HWa50.out.2.2.2.2) b51)))))
    clear b51 k0 k1 k2 heqA D2
    obtain ⟨order, rank, five, g1, g2, g3, lo, hr0, hr1, hfive⟩ := facts_word x hx
    have B1 := Go.Lib.hid (implBefore x order five g1 (by omega))
    have B2 := Go.Lib.hid (specBefore x order five g1 (by omega))
    have B3 := Go.Lib.hid (implIsWord x five g3 (by omega))
    have B4 := Go.Lib.hid (implRankW x rank five g2 (by omega))
    have B5 := Go.Lib.hid (specRankW x rank five g2 (by omega))
    have HFIVE := Go.Lib.hid hfive
    clear g1 g2 g3 hfive
    go_wp2_with fail
    refine (B1.out _).mono ?_
    rintro e W52 ⟨v52, rfl, o52, b52⟩
    have HW52 := Go.Lib.hid (And.intro (Below.trans (HW51.out.1) ((b52).mono (Below.size (HW51.out.1)))) (And.intro (Sees.grow (HW51.out.2.1) b52) (And.intro (kept_call (HW51.out.2.2.1) b52) (And.intro (kept_call (HW51.out.2.2.2.1) b52) (And.intro (arr_call (HW51.out.2.2.2.2) b52) (own_lower (o52) (Below.size (HW51.out.1))))))))
    clear o52 b52
    go_wp2_with fail
    refine (B2.out _).mono ?_
    rintro e W53 ⟨v53, rfl, o53, b53⟩
    have HW53 := Go.Lib.hid (And.intro (Below.trans (HW52.out.1) ((b53).mono (Below.size (HW52.out.1)))) (And.intro (Sees.grow (HW52.out.2.1) b53) (And.intro (kept_call (HW52.out.2.2.1) b53) (And.intro (kept_call (HW52.out.2.2.2.1) b53) (And.intro (arr_call (HW52.out.2.2.2.2.1) b53) (And.intro (kept_call (HW52.out.2.2.2.2.2) b53) (own_lower (o53) (Below.size (HW52.out.1)))))))))
    clear o53 b53
    go_wp2_with fail
    refine (B3.out _).mono ?_
    rintro e W54 ⟨rfl, b54⟩
    have HW54 := Go.Lib.hid (And.intro (Below.trans (HW53.out.1) ((b54).mono (Below.size (HW53.out.1)))) (And.intro (Sees.grow (HW53.out.2.1) b54) (And.intro (kept_call (HW53.out.2.2.1) b54) (And.intro (kept_call (HW53.out.2.2.2.1) b54) (And.intro (arr_call (HW53.out.2.2.2.2.1) b54) (And.intro (kept_call (HW53.out.2.2.2.2.2.1) b54) (kept_call (HW53.out.2.2.2.2.2.2) b54)))))))
    clear b54
    go_wp2_with fail
    refine (rInts_same _ _ _ order.length order (Sees.owns (HW54.out.2.2.2.2.2.1)) (Sees.owns (HW54.out.2.2.2.2.2.2)) (by unfold maxLen; omega)).mono ?_
    rintro e W55 ⟨rfl, d55⟩
    have HW55 := Go.Lib.hid (And.intro (Below.trans (HW54.out.1) (((d55.below W54.heap.size)).mono (Below.size (HW54.out.1)))) (And.intro (Sees.grow (HW54.out.2.1) (d55.below W54.heap.size)) (And.intro (kept_call (HW54.out.2.2.1) (d55.below W54.heap.size)) (And.intro (kept_call (HW54.out.2.2.2.1) (d55.below W54.heap.size)) (And.intro (arr_call (HW54.out.2.2.2.2.1) (d55.below W54.heap.size)) (And.intro (kept_call (HW54.out.2.2.2.2.2.1) (d55.below W54.heap.size)) (kept_call (HW54.out.2.2.2.2.2.2) (d55.below W54.heap.size))))))))
    clear d55
    have HWd56 := Go.Lib.hid (And.intro HW55.out.1 (And.intro HW55.out.2.1 (And.intro HW55.out.2.2.1 (And.intro HW55.out.2.2.2.1 (And.intro HW55.out.2.2.2.2.1 HW55.out.2.2.2.2.2.1)))))
    clear HW55
    clear B1 B2 B3
    go_wp2_with fail
    refine (B4.out _).mono ?_
    rintro e W57 ⟨rfl, b57⟩
    have HW57 := Go.Lib.hid (And.intro (Below.trans (HWd56.out.1) ((b57).mono (Below.size (HWd56.out.1)))) (And.intro (Sees.grow (HWd56.out.2.1) b57) (And.intro (kept_call (HWd56.out.2.2.1) b57) (And.intro (kept_call (HWd56.out.2.2.2.1) b57) (And.intro (arr_call (HWd56.out.2.2.2.2.1) b57) (kept_call (HWd56.out.2.2.2.2.2) b57))))))
    clear b57
    go_wp2_with fail
    refine (B5.out _).mono ?_
    rintro e W58 ⟨rfl, b58⟩
    have HW58 := Go.Lib.hid (And.intro (Below.trans (HW57.out.1) ((b58).mono (Below.size (HW57.out.1)))) (And.intro (Sees.grow (HW57.out.2.1) b58) (And.intro (kept_call (HW57.out.2.2.1) b58) (And.intro (kept_call (HW57.out.2.2.2.1) b58) (And.intro (arr_call (HW57.out.2.2.2.2.1) b58) (kept_call (HW57.out.2.2.2.2.2) b58))))))
    clear b58
    clear B4 B5
    go_wp2_with fail
    refine (D3.out _ (HW58.out.2.1)).mono ?_
    rintro e W59 ⟨n, kk, rfl, hn1, hn2, hk1, hk2, b59⟩
    have HW59 := Go.Lib.hid (And.intro (Below.trans (HW58.out.1) ((b59).mono (Below.size (HW58.out.1)))) (And.intro (Sees.grow (HW58.out.2.1) b59) (And.intro (kept_call (HW58.out.2.2.1) b59) (And.intro (kept_call (HW58.out.2.2.2.1) b59) (And.intro (arr_call (HW58.out.2.2.2.2.1) b59) (kept_call (HW58.out.2.2.2.2.2) b59))))))
    clear b59 D3
    obtain ⟨at_, seven, g4, la, hseven⟩ := facts_at n kk
    have B6 := Go.Lib.hid (implAtW n kk at_ seven g4 (wf_mid hn1 hn2) (wf_mid hk1 hk2))
    have B7 := Go.Lib.hid (specAtW n kk at_ seven g4 (wf_mid hn1 hn2) (wf_mid hk1 hk2))
    have HSEV := Go.Lib.hid hseven
    clear g4 hseven
    go_wp2_with fail
    refine (B6.out _).mono ?_
    rintro e W60 ⟨rfl, b60⟩
    have HW60 := Go.Lib.hid (And.intro (Below.trans (HW59.out.1) ((b60).mono (Below.size (HW59.out.1)))) (And.intro (Sees.grow (HW59.out.2.1) b60) (And.intro (kept_call (HW59.out.2.2.1) b60) (And.intro (kept_call (HW59.out.2.2.2.1) b60) (And.intro (arr_call (HW59.out.2.2.2.2.1) b60) (kept_call (HW59.out.2.2.2.2.2) b60))))))
    clear b60
    go_wp2_with fail
    refine (B7.out _).mono ?_
    rintro e W61 ⟨rfl, b61⟩
    have HW61 := Go.Lib.hid (And.intro (Below.trans (HW60.out.1) ((b61).mono (Below.size (HW60.out.1)))) (And.intro (Sees.grow (HW60.out.2.1) b61) (And.intro (kept_call (HW60.out.2.2.1) b61) (And.intro (kept_call (HW60.out.2.2.2.1) b61) (And.intro (arr_call (HW60.out.2.2.2.2.1) b61) (kept_call (HW60.out.2.2.2.2.2) b61))))))
    clear b61
    clear B6 B7
    go_wp2_with fail
    refine (D4.out _ (HW61.out.2.1)).mono ?_
    rintro e W62 ⟨m, rfl, hm1, hm2, b62⟩
    have HW62 := Go.Lib.hid (And.intro (Below.trans (HW61.out.1) ((b62).mono (Below.size (HW61.out.1)))) (And.intro (Sees.grow (HW61.out.2.1) b62) (And.intro (kept_call (HW61.out.2.2.1) b62) (And.intro (kept_call (HW61.out.2.2.2.1) b62) (And.intro (arr_call (HW61.out.2.2.2.2.1) b62) (kept_call (HW61.out.2.2.2.2.2) b62))))))
    clear b62 D4
    have HWd63 := Go.Lib.hid (And.intro HW62.out.1 (And.intro HW62.out.2.2.1 (And.intro HW62.out.2.2.2.1 (And.intro HW62.out.2.2.2.2.1 HW62.out.2.2.2.2.2))))
    clear HW62
    obtain ⟨many, eight, g5⟩ := facts_one m
    have B8 := Go.Lib.hid (implOne m many eight g5 (wf_mid (by omega) (by omega)))
    have B9 := Go.Lib.hid (specOne m many eight g5 (wf_mid (by omega) (by omega)))
    clear g5
    go_wp2_with fail
    refine (B8.out _).mono ?_
    rintro e W64 ⟨rfl, b64⟩
    have HW64 := Go.Lib.hid (And.intro (Below.trans (HWd63.out.1) ((b64).mono (Below.size (HWd63.out.1)))) (And.intro (kept_call (HWd63.out.2.1) b64) (And.intro (kept_call (HWd63.out.2.2.1) b64) (And.intro (arr_call (HWd63.out.2.2.2.1) b64) (kept_call (HWd63.out.2.2.2.2) b64)))))
    clear b64
    go_wp2_with fail
    refine (B9.out _).mono ?_
    rintro e W65 ⟨rfl, b65⟩
    have HW65 := Go.Lib.hid (And.intro (Below.trans (HW64.out.1) ((b65).mono (Below.size (HW64.out.1)))) (And.intro (kept_call (HW64.out.2.1) b65) (And.intro (kept_call (HW64.out.2.2.1) b65) (And.intro (arr_call (HW64.out.2.2.2.1) b65) (kept_call (HW64.out.2.2.2.2) b65)))))
    clear b65
    clear B8 B9
    cases five
    case false =>
      clear HFIVE
      have HWd66 := Go.Lib.hid (And.intro HW65.out.1 (And.intro HW65.out.2.1 (And.intro HW65.out.2.2.1 HW65.out.2.2.2.1)))
      clear HW65
      cases seven
      case false =>
        clear HSEV
        have E4 := Go.Lib.hid (implRun zs bw sweep true HC.out.1 (by omega) (by omega))
        have E5 := Go.Lib.hid (fun W v h => rSorted_any sweep true W v sweep.length h (by omega) HC.out.2.1)
        go_wp2_with fail
        refine (E4.out _ _ _ (Sees.owns (HWd66.out.2.1))).mono ?_
        rintro e W67 ⟨v67, rfl, o67, b67⟩
        have HW67 := Go.Lib.hid (And.intro (Below.trans (HWd66.out.1) ((b67).mono (Below.size (HWd66.out.1)))) (And.intro (kept_call (HWd66.out.2.1) b67) (And.intro (kept_call (HWd66.out.2.2.1) b67) (And.intro (arr_call (HWd66.out.2.2.2) b67) (own_lower (o67) (Below.size (HWd66.out.1)))))))
        clear o67 b67
        go_wp2_with fail
        refine (rInts_same _ _ _ sweep.length sweep (Sees.owns (HW67.out.2.2.2.2)) (Sees.owns (HW67.out.2.2.1)) (by unfold maxLen; omega)).mono ?_
        rintro e W68 ⟨rfl, d68⟩
        have HW68 := Go.Lib.hid (And.intro (Below.trans (HW67.out.1) (((d68.below W67.heap.size)).mono (Below.size (HW67.out.1)))) (And.intro (kept_call (HW67.out.2.1) (d68.below W67.heap.size)) (And.intro (kept_call (HW67.out.2.2.1) (d68.below W67.heap.size)) (And.intro (arr_call (HW67.out.2.2.2.1) (d68.below W67.heap.size)) (kept_call (HW67.out.2.2.2.2) (d68.below W67.heap.size))))))
        clear d68
        have HWd69 := Go.Lib.hid (And.intro HW68.out.1 (And.intro HW68.out.2.1 (And.intro HW68.out.2.2.1 HW68.out.2.2.2.1)))
        clear HW68
        clear E4
        go_wp2_with fail
        refine (E5.out _ _ (Sees.owns (HWd69.out.2.2.1))).mono ?_
        rintro e W70 ⟨rfl, d70⟩
        have HW70 := Go.Lib.hid (And.intro (Below.trans (HWd69.out.1) (((d70.below W68.heap.size)).mono (Below.size (HWd69.out.1)))) (And.intro (kept_call (HWd69.out.2.1) (d70.below W68.heap.size)) (And.intro (kept_call (HWd69.out.2.2.1) (d70.below W68.heap.size)) (arr_call (HWd69.out.2.2.2) (d70.below W68.heap.size)))))
        clear d70 E5
        have hcl := World.ownsRow.cellAt (HW70.out.2.2.1) (sweep.length - 1) (by omega)
        have hcl2 : (vals sweep)[sweep.length - 1]? = some (.int .i64 (sweep.length : Int)) := by rw [← HC.out.2.2]; simp [show sweep.length - 1 < sweep.length by omega]
        rw [hcl2] at hcl
        clear hcl2
        obtain ⟨ns, hns⟩ : ∃ ns, sweep.length = ns + 1 := ⟨sweep.length - 1, by omega⟩
        have hnb : ns ≤ 7 := by omega
        rw [hns] at hcl ⊢
        rw [Nat.add_sub_cancel, show ((ns + 1 : Nat) : Int) = (ns : Int) + 1 by omega] at hcl
        clear hns
        go_wp2_with fail
        (try go_quiet (fail))
        (try go_wp2_with fail)
        go_ret
        exact ⟨rfl, by first | exact HW70.out.1 | exact ExactC.below_drewN (HW70.out.1)⟩
      case true =>
        have E3 := Go.Lib.hid (implRankW at_ kk true (HSEV.out rfl) (by omega))
        clear HSEV
        go_wp2_with fail
        refine (E3.out _).mono ?_
        rintro e W71 ⟨rfl, b71⟩
        have HW71 := Go.Lib.hid (And.intro (Below.trans (HWd66.out.1) ((b71).mono (Below.size (HWd66.out.1)))) (And.intro (kept_call (HWd66.out.2.1) b71) (And.intro (kept_call (HWd66.out.2.2.1) b71) (arr_call (HWd66.out.2.2.2) b71))))
        clear b71
        clear E3
        have E4 := Go.Lib.hid (implRun zs bw sweep true HC.out.1 (by omega) (by omega))
        have E5 := Go.Lib.hid (fun W v h => rSorted_any sweep true W v sweep.length h (by omega) HC.out.2.1)
        go_wp2_with fail
        refine (E4.out _ _ _ (Sees.owns (HW71.out.2.1))).mono ?_
        rintro e W72 ⟨v72, rfl, o72, b72⟩
        have HW72 := Go.Lib.hid (And.intro (Below.trans (HW71.out.1) ((b72).mono (Below.size (HW71.out.1)))) (And.intro (kept_call (HW71.out.2.1) b72) (And.intro (kept_call (HW71.out.2.2.1) b72) (And.intro (arr_call (HW71.out.2.2.2) b72) (own_lower (o72) (Below.size (HW71.out.1)))))))
        clear o72 b72
        go_wp2_with fail
        refine (rInts_same _ _ _ sweep.length sweep (Sees.owns (HW72.out.2.2.2.2)) (Sees.owns (HW72.out.2.2.1)) (by unfold maxLen; omega)).mono ?_
        rintro e W73 ⟨rfl, d73⟩
        have HW73 := Go.Lib.hid (And.intro (Below.trans (HW72.out.1) (((d73.below W72.heap.size)).mono (Below.size (HW72.out.1)))) (And.intro (kept_call (HW72.out.2.1) (d73.below W72.heap.size)) (And.intro (kept_call (HW72.out.2.2.1) (d73.below W72.heap.size)) (And.intro (arr_call (HW72.out.2.2.2.1) (d73.below W72.heap.size)) (kept_call (HW72.out.2.2.2.2) (d73.below W72.heap.size))))))
        clear d73
        have HWd74 := Go.Lib.hid (And.intro HW73.out.1 (And.intro HW73.out.2.1 (And.intro HW73.out.2.2.1 HW73.out.2.2.2.1)))
        clear HW73
        clear E4
        go_wp2_with fail
        refine (E5.out _ _ (Sees.owns (HWd74.out.2.2.1))).mono ?_
        rintro e W75 ⟨rfl, d75⟩
        have HW75 := Go.Lib.hid (And.intro (Below.trans (HWd74.out.1) (((d75.below W73.heap.size)).mono (Below.size (HWd74.out.1)))) (And.intro (kept_call (HWd74.out.2.1) (d75.below W73.heap.size)) (And.intro (kept_call (HWd74.out.2.2.1) (d75.below W73.heap.size)) (arr_call (HWd74.out.2.2.2) (d75.below W73.heap.size)))))
        clear d75 E5
        have hcl := World.ownsRow.cellAt (HW75.out.2.2.1) (sweep.length - 1) (by omega)
        have hcl2 : (vals sweep)[sweep.length - 1]? = some (.int .i64 (sweep.length : Int)) := by rw [← HC.out.2.2]; simp [show sweep.length - 1 < sweep.length by omega]
        rw [hcl2] at hcl
        clear hcl2
        obtain ⟨ns, hns⟩ : ∃ ns, sweep.length = ns + 1 := ⟨sweep.length - 1, by omega⟩
        have hnb : ns ≤ 7 := by omega
        rw [hns] at hcl ⊢
        rw [Nat.add_sub_cancel, show ((ns + 1 : Nat) : Int) = (ns : Int) + 1 by omega] at hcl
        clear hns
        go_wp2_with fail
        (try go_quiet (fail))
        (try go_wp2_with fail)
        go_ret
        exact ⟨rfl, by first | exact HW75.out.1 | exact ExactC.below_drewN (HW75.out.1)⟩
    case true =>
      have E1 := Go.Lib.hid (implSorting order x true (HFIVE.out rfl).1 (by omega))
      have E2 := Go.Lib.hid (implAtW ((x.size : Int) / 2) rank x true (HFIVE.out rfl).2 (wf_mid (by omega) (by omega)) (wf_mid (by omega) (by omega)))
      clear HFIVE
      go_wp2_with fail
      refine (E1.out _ _ _ (Sees.owns (HW65.out.2.2.2.2))).mono ?_
      rintro e W76 ⟨rfl, b76⟩
      have HW76 := Go.Lib.hid (And.intro (Below.trans (HW65.out.1) ((b76).mono (Below.size (HW65.out.1)))) (And.intro (kept_call (HW65.out.2.1) b76) (And.intro (kept_call (HW65.out.2.2.1) b76) (And.intro (arr_call (HW65.out.2.2.2.1) b76) (kept_call (HW65.out.2.2.2.2) b76)))))
      clear b76
      go_wp2_with fail
      refine (E2.out _).mono ?_
      rintro e W77 ⟨rfl, b77⟩
      have HW77 := Go.Lib.hid (And.intro (Below.trans (HW76.out.1) ((b77).mono (Below.size (HW76.out.1)))) (And.intro (kept_call (HW76.out.2.1) b77) (And.intro (kept_call (HW76.out.2.2.1) b77) (And.intro (arr_call (HW76.out.2.2.2.1) b77) (kept_call (HW76.out.2.2.2.2) b77)))))
      clear b77
      clear E1 E2
      have HWd78 := Go.Lib.hid (And.intro HW77.out.1 (And.intro HW77.out.2.1 (And.intro HW77.out.2.2.1 HW77.out.2.2.2.1)))
      clear HW77
      cases seven
      case false =>
        clear HSEV
        have E4 := Go.Lib.hid (implRun zs bw sweep true HC.out.1 (by omega) (by omega))
        have E5 := Go.Lib.hid (fun W v h => rSorted_any sweep true W v sweep.length h (by omega) HC.out.2.1)
        go_wp2_with fail
        refine (E4.out _ _ _ (Sees.owns (HWd78.out.2.1))).mono ?_
        rintro e W79 ⟨v79, rfl, o79, b79⟩
        have HW79 := Go.Lib.hid (And.intro (Below.trans (HWd78.out.1) ((b79).mono (Below.size (HWd78.out.1)))) (And.intro (kept_call (HWd78.out.2.1) b79) (And.intro (kept_call (HWd78.out.2.2.1) b79) (And.intro (arr_call (HWd78.out.2.2.2) b79) (own_lower (o79) (Below.size (HWd78.out.1)))))))
        clear o79 b79
        go_wp2_with fail
        refine (rInts_same _ _ _ sweep.length sweep (Sees.owns (HW79.out.2.2.2.2)) (Sees.owns (HW79.out.2.2.1)) (by unfold maxLen; omega)).mono ?_
        rintro e W80 ⟨rfl, d80⟩
        have HW80 := Go.Lib.hid (And.intro (Below.trans (HW79.out.1) (((d80.below W79.heap.size)).mono (Below.size (HW79.out.1)))) (And.intro (kept_call (HW79.out.2.1) (d80.below W79.heap.size)) (And.intro (kept_call (HW79.out.2.2.1) (d80.below W79.heap.size)) (And.intro (arr_call (HW79.out.2.2.2.1) (d80.below W79.heap.size)) (kept_call (HW79.out.2.2.2.2) (d80.below W79.heap.size))))))
        clear d80
        have HWd81 := Go.Lib.hid (And.intro HW80.out.1 (And.intro HW80.out.2.1 (And.intro HW80.out.2.2.1 HW80.out.2.2.2.1)))
        clear HW80
        clear E4
        go_wp2_with fail
        refine (E5.out _ _ (Sees.owns (HWd81.out.2.2.1))).mono ?_
        rintro e W82 ⟨rfl, d82⟩
        have HW82 := Go.Lib.hid (And.intro (Below.trans (HWd81.out.1) (((d82.below W80.heap.size)).mono (Below.size (HWd81.out.1)))) (And.intro (kept_call (HWd81.out.2.1) (d82.below W80.heap.size)) (And.intro (kept_call (HWd81.out.2.2.1) (d82.below W80.heap.size)) (arr_call (HWd81.out.2.2.2) (d82.below W80.heap.size)))))
        clear d82 E5
        have hcl := World.ownsRow.cellAt (HW82.out.2.2.1) (sweep.length - 1) (by omega)
        have hcl2 : (vals sweep)[sweep.length - 1]? = some (.int .i64 (sweep.length : Int)) := by rw [← HC.out.2.2]; simp [show sweep.length - 1 < sweep.length by omega]
        rw [hcl2] at hcl
        clear hcl2
        obtain ⟨ns, hns⟩ : ∃ ns, sweep.length = ns + 1 := ⟨sweep.length - 1, by omega⟩
        have hnb : ns ≤ 7 := by omega
        rw [hns] at hcl ⊢
        rw [Nat.add_sub_cancel, show ((ns + 1 : Nat) : Int) = (ns : Int) + 1 by omega] at hcl
        clear hns
        go_wp2_with fail
        (try go_quiet (fail))
        (try go_wp2_with fail)
        go_ret
        exact ⟨rfl, by first | exact HW82.out.1 | exact ExactC.below_drewN (HW82.out.1)⟩
      case true =>
        have E3 := Go.Lib.hid (implRankW at_ kk true (HSEV.out rfl) (by omega))
        clear HSEV
        go_wp2_with fail
        refine (E3.out _).mono ?_
        rintro e W83 ⟨rfl, b83⟩
        have HW83 := Go.Lib.hid (And.intro (Below.trans (HWd78.out.1) ((b83).mono (Below.size (HWd78.out.1)))) (And.intro (kept_call (HWd78.out.2.1) b83) (And.intro (kept_call (HWd78.out.2.2.1) b83) (arr_call (HWd78.out.2.2.2) b83))))
        clear b83
        clear E3
        have E4 := Go.Lib.hid (implRun zs bw sweep true HC.out.1 (by omega) (by omega))
        have E5 := Go.Lib.hid (fun W v h => rSorted_any sweep true W v sweep.length h (by omega) HC.out.2.1)
        go_wp2_with fail
        refine (E4.out _ _ _ (Sees.owns (HW83.out.2.1))).mono ?_
        rintro e W84 ⟨v84, rfl, o84, b84⟩
        have HW84 := Go.Lib.hid (And.intro (Below.trans (HW83.out.1) ((b84).mono (Below.size (HW83.out.1)))) (And.intro (kept_call (HW83.out.2.1) b84) (And.intro (kept_call (HW83.out.2.2.1) b84) (And.intro (arr_call (HW83.out.2.2.2) b84) (own_lower (o84) (Below.size (HW83.out.1)))))))
        clear o84 b84
        go_wp2_with fail
        refine (rInts_same _ _ _ sweep.length sweep (Sees.owns (HW84.out.2.2.2.2)) (Sees.owns (HW84.out.2.2.1)) (by unfold maxLen; omega)).mono ?_
        rintro e W85 ⟨rfl, d85⟩
        have HW85 := Go.Lib.hid (And.intro (Below.trans (HW84.out.1) (((d85.below W84.heap.size)).mono (Below.size (HW84.out.1)))) (And.intro (kept_call (HW84.out.2.1) (d85.below W84.heap.size)) (And.intro (kept_call (HW84.out.2.2.1) (d85.below W84.heap.size)) (And.intro (arr_call (HW84.out.2.2.2.1) (d85.below W84.heap.size)) (kept_call (HW84.out.2.2.2.2) (d85.below W84.heap.size))))))
        clear d85
        have HWd86 := Go.Lib.hid (And.intro HW85.out.1 (And.intro HW85.out.2.1 (And.intro HW85.out.2.2.1 HW85.out.2.2.2.1)))
        clear HW85
        clear E4
        go_wp2_with fail
        refine (E5.out _ _ (Sees.owns (HWd86.out.2.2.1))).mono ?_
        rintro e W87 ⟨rfl, d87⟩
        have HW87 := Go.Lib.hid (And.intro (Below.trans (HWd86.out.1) (((d87.below W85.heap.size)).mono (Below.size (HWd86.out.1)))) (And.intro (kept_call (HWd86.out.2.1) (d87.below W85.heap.size)) (And.intro (kept_call (HWd86.out.2.2.1) (d87.below W85.heap.size)) (arr_call (HWd86.out.2.2.2) (d87.below W85.heap.size)))))
        clear d87 E5
        have hcl := World.ownsRow.cellAt (HW87.out.2.2.1) (sweep.length - 1) (by omega)
        have hcl2 : (vals sweep)[sweep.length - 1]? = some (.int .i64 (sweep.length : Int)) := by rw [← HC.out.2.2]; simp [show sweep.length - 1 < sweep.length by omega]
        rw [hcl2] at hcl
        clear hcl2
        obtain ⟨ns, hns⟩ : ∃ ns, sweep.length = ns + 1 := ⟨sweep.length - 1, by omega⟩
        have hnb : ns ≤ 7 := by omega
        rw [hns] at hcl ⊢
        rw [Nat.add_sub_cancel, show ((ns + 1 : Nat) : Int) = (ns : Int) + 1 by omega] at hcl
        clear hns
        go_wp2_with fail
        (try go_quiet (fail))
        (try go_wp2_with fail)
        go_ret
        exact ⟨rfl, by first | exact HW87.out.1 | exact ExactC.below_drewN (HW87.out.1)⟩
  · as_aux_lemma =>
    clear hoo
    obtain ⟨gO, cO, rfl⟩ := own_pos (HW1.out.2.2) (by omega)
    have HC := Go.Lib.hid (And.intro hrun (And.intro hsort (And.intro hlast (And.intro b1 b2))))
    clear hlen hrun hsort hlast b1 b2
    have A1 := Go.Lib.hid (implSorting zs wd false h1 (by omega))
    have A2 := Go.Lib.hid (specSorting zs wd false h1 (by omega))
    have A3 := Go.Lib.hid (implSortable zs false true h2 (by omega))
    have A4 := Go.Lib.hid (specSortable zs false true h2 (by omega))
    have A5 := Go.Lib.hid (implSweep zs sweep true h3 (by omega))
    have A6 := Go.Lib.hid (specSweep zs sweep true h3 (by omega))
    have A7 := Go.Lib.hid (implSweepW zs bw true h4 (by omega))
    have A8 := Go.Lib.hid (specSweepW zs bw true h4 (by omega))
    have A9 := Go.Lib.hid (implBad zs (i : Int) (k : Int) (j : Int) true h5 (by omega))
    have A10 := Go.Lib.hid (specBad zs (i : Int) (k : Int) (j : Int) true h5 (by omega))
    clear h1 h2 h3 h4 h5 D1 cB
    go_wp2_with fail
    refine (A1.out _ _ _ (Sees.owns (HW1.out.2.2))).mono ?_
    rintro e W88 ⟨rfl, b88⟩
    have HW88 := Go.Lib.hid (And.intro (Below.trans (HW1.out.1) ((b88).mono (Below.size (HW1.out.1)))) (And.intro (Sees.grow (HW1.out.2.1) b88) (kept_call (HW1.out.2.2) b88)))
    clear b88
    go_wp2_with fail
    refine (A2.out _ _ _ (Sees.owns (HW88.out.2.2))).mono ?_
    rintro e W89 ⟨rfl, b89⟩
    have HW89 := Go.Lib.hid (And.intro (Below.trans (HW88.out.1) ((b89).mono (Below.size (HW88.out.1)))) (And.intro (Sees.grow (HW88.out.2.1) b89) (kept_call (HW88.out.2.2) b89)))
    clear b89
    go_wp2_with fail
    refine (A3.out _ _ _ (Sees.owns (HW89.out.2.2))).mono ?_
    rintro e W90 ⟨rfl, b90⟩
    have HW90 := Go.Lib.hid (And.intro (Below.trans (HW89.out.1) ((b90).mono (Below.size (HW89.out.1)))) (And.intro (Sees.grow (HW89.out.2.1) b90) (kept_call (HW89.out.2.2) b90)))
    clear b90
    go_wp2_with fail
    refine (A4.out _ _ _ (Sees.owns (HW90.out.2.2))).mono ?_
    rintro e W91 ⟨rfl, b91⟩
    have HW91 := Go.Lib.hid (And.intro (Below.trans (HW90.out.1) ((b91).mono (Below.size (HW90.out.1)))) (And.intro (Sees.grow (HW90.out.2.1) b91) (kept_call (HW90.out.2.2) b91)))
    clear b91
    clear A1 A2 A3 A4
    go_wp2_with fail
    refine (A5.out _ _ _ (Sees.owns (HW91.out.2.2))).mono ?_
    rintro e W92 ⟨v92, rfl, o92, b92⟩
    have HW92 := Go.Lib.hid (And.intro (Below.trans (HW91.out.1) ((b92).mono (Below.size (HW91.out.1)))) (And.intro (Sees.grow (HW91.out.2.1) b92) (And.intro (kept_call (HW91.out.2.2) b92) (own_lower (o92) (Below.size (HW91.out.1))))))
    clear o92 b92
    obtain ⟨gS, cS, rfl⟩ := own_pos (HW92.out.2.2.2) (by omega)
    go_wp2_with fail
    refine (A6.out _ _ _ (Sees.owns (HW92.out.2.2.1))).mono ?_
    rintro e W93 ⟨v93, rfl, o93, b93⟩
    have HW93 := Go.Lib.hid (And.intro (Below.trans (HW92.out.1) ((b93).mono (Below.size (HW92.out.1)))) (And.intro (Sees.grow (HW92.out.2.1) b93) (And.intro (kept_call (HW92.out.2.2.1) b93) (And.intro (kept_call (HW92.out.2.2.2) b93) (own_lower (o93) (Below.size (HW92.out.1)))))))
    clear o93 b93
    go_wp2_with fail
    refine (rInts_same _ _ _ sweep.length sweep (Sees.owns (HW93.out.2.2.2.1)) (Sees.owns (HW93.out.2.2.2.2)) (by unfold maxLen; omega)).mono ?_
    rintro e W94 ⟨rfl, d94⟩
    have HW94 := Go.Lib.hid (And.intro (Below.trans (HW93.out.1) (((d94.below W93.heap.size)).mono (Below.size (HW93.out.1)))) (And.intro (Sees.grow (HW93.out.2.1) (d94.below W93.heap.size)) (And.intro (kept_call (HW93.out.2.2.1) (d94.below W93.heap.size)) (And.intro (kept_call (HW93.out.2.2.2.1) (d94.below W93.heap.size)) (kept_call (HW93.out.2.2.2.2) (d94.below W93.heap.size))))))
    clear d94
    have HWd95 := Go.Lib.hid (And.intro HW94.out.1 (And.intro HW94.out.2.1 (And.intro HW94.out.2.2.1 HW94.out.2.2.2.1)))
    clear HW94
    clear A5 A6
    go_wp2_with fail
    refine (A7.out _ _ _ (Sees.owns (HWd95.out.2.2.1))).mono ?_
    rintro e W96 ⟨rfl, b96⟩
    have HW96 := Go.Lib.hid (And.intro (Below.trans (HWd95.out.1) ((b96).mono (Below.size (HWd95.out.1)))) (And.intro (Sees.grow (HWd95.out.2.1) b96) (And.intro (kept_call (HWd95.out.2.2.1) b96) (kept_call (HWd95.out.2.2.2) b96))))
    clear b96
    go_wp2_with fail
    refine (A8.out _ _ _ (Sees.owns (HW96.out.2.2.1))).mono ?_
    rintro e W97 ⟨rfl, b97⟩
    have HW97 := Go.Lib.hid (And.intro (Below.trans (HW96.out.1) ((b97).mono (Below.size (HW96.out.1)))) (And.intro (Sees.grow (HW96.out.2.1) b97) (And.intro (kept_call (HW96.out.2.2.1) b97) (kept_call (HW96.out.2.2.2) b97))))
    clear b97
    clear A7 A8
    go_wp2_with fail
    refine (A9.out _ _ _ (Sees.owns (HW97.out.2.2.1))).mono ?_
    rintro e W98 ⟨rfl, b98⟩
    have HW98 := Go.Lib.hid (And.intro (Below.trans (HW97.out.1) ((b98).mono (Below.size (HW97.out.1)))) (And.intro (Sees.grow (HW97.out.2.1) b98) (And.intro (kept_call (HW97.out.2.2.1) b98) (kept_call (HW97.out.2.2.2) b98))))
    clear b98
    have hba99 : Below W98.heap.size W98 (W98.alloc (.cells #[.int .i64 (i : Int), .int .i64 (k : Int), .int .i64 (j : Int)] 33)) := (Below.refl _ _).alloc (Nat.le_refl _) _
    have HWa99 := Go.Lib.hid (And.intro (Below.trans (HW98.out.1) ((hba99).mono (Below.size (HW98.out.1)))) (And.intro (Sees.grow (HW98.out.2.1) hba99) (And.intro (kept_call (HW98.out.2.2.1) hba99) (And.intro (kept_call (HW98.out.2.2.2) hba99) (arr_alloc W98 (.int .i64 (i : Int)) (.int .i64 (k : Int)) (.int .i64 (j : Int)))))))
    clear hba99
    go_wp2_with fail
    refine (A10.out _ _ _ (Sees.owns (HWa99.out.2.2.1))).mono ?_
    rintro e W100 ⟨rfl, b100⟩
    have HW100 := Go.Lib.hid (And.intro (Below.trans (HWa99.out.1) ((b100).mono (Below.size (HWa99.out.1)))) (And.intro (Sees.grow (HWa99.out.2.1) b100) (And.intro (kept_call (HWa99.out.2.2.1) b100) (And.intro (kept_call (HWa99.out.2.2.2.1) b100) (arr_call (HWa99.out.2.2.2.2) b100)))))
    clear b100
    clear A9 A10
    have hba101 : Below W100.heap.size W100 (W100.alloc (.cells #[.int .i64 (i : Int), .int .i64 (k : Int), .int .i64 (j : Int)] 33)) := (Below.refl _ _).alloc (Nat.le_refl _) _
    have HWa101 := Go.Lib.hid (And.intro (Below.trans (HW100.out.1) ((hba101).mono (Below.size (HW100.out.1)))) (And.intro (Sees.grow (HW100.out.2.1) hba101) (And.intro (kept_call (HW100.out.2.2.1) hba101) (And.intro (kept_call (HW100.out.2.2.2.1) hba101) (arr_call (HW100.out.2.2.2.2) hba101)))))
    clear hba101
    obtain ⟨k0, k1, k2, _, _, _⟩ := arr_cells (HWa101.out.2.2.2.2)
    have heqA := eqA3 (i : Int) (k : Int) (j : Int)
    go_wp2_with fail
    refine (D2.out _ (HWa101.out.2.1)).mono ?_
    rintro e W102 ⟨x, hx, rfl, b102⟩
    have HW102 := Go.Lib.hid (And.intro (Below.trans (HWa101.out.1) ((b102).mono (Below.size (HWa101.out.1)))) (And.intro (Sees.grow (HWa101.out.2.1) b102) (And.intro (kept_call (HWa101.out.2.2.1) b102) (And.intro (kept_call (HWa101.out.2.2.2.1) b102) (arr_call (HWa101.out.2.2.2.2) b102)))))
    clear b102 k0 k1 k2 heqA D2
    obtain ⟨order, rank, five, g1, g2, g3, lo, hr0, hr1, hfive⟩ := facts_word x hx
    have B1 := Go.Lib.hid (implBefore x order five g1 (by omega))
    have B2 := Go.Lib.hid (specBefore x order five g1 (by omega))
    have B3 := Go.Lib.hid (implIsWord x five g3 (by omega))
    have B4 := Go.Lib.hid (implRankW x rank five g2 (by omega))
    have B5 := Go.Lib.hid (specRankW x rank five g2 (by omega))
    have HFIVE := Go.Lib.hid hfive
    clear g1 g2 g3 hfive
    go_wp2_with fail
    refine (B1.out _).mono ?_
    rintro e W103 ⟨v103, rfl, o103, b103⟩
    have HW103 := Go.Lib.hid (And.intro (Below.trans (HW102.out.1) ((b103).mono (Below.size (HW102.out.1)))) (And.intro (Sees.grow (HW102.out.2.1) b103) (And.intro (kept_call (HW102.out.2.2.1) b103) (And.intro (kept_call (HW102.out.2.2.2.1) b103) (And.intro (arr_call (HW102.out.2.2.2.2) b103) (own_lower (o103) (Below.size (HW102.out.1))))))))
    clear o103 b103
    go_wp2_with fail
    refine (B2.out _).mono ?_
    rintro e W104 ⟨v104, rfl, o104, b104⟩
    have HW104 := Go.Lib.hid (And.intro (Below.trans (HW103.out.1) ((b104).mono (Below.size (HW103.out.1)))) (And.intro (Sees.grow (HW103.out.2.1) b104) (And.intro (kept_call (HW103.out.2.2.1) b104) (And.intro (kept_call (HW103.out.2.2.2.1) b104) (And.intro (arr_call (HW103.out.2.2.2.2.1) b104) (And.intro (kept_call (HW103.out.2.2.2.2.2) b104) (own_lower (o104) (Below.size (HW103.out.1)))))))))
    clear o104 b104
    go_wp2_with fail
    refine (B3.out _).mono ?_
    rintro e W105 ⟨rfl, b105⟩
    have HW105 := Go.Lib.hid (And.intro (Below.trans (HW104.out.1) ((b105).mono (Below.size (HW104.out.1)))) (And.intro (Sees.grow (HW104.out.2.1) b105) (And.intro (kept_call (HW104.out.2.2.1) b105) (And.intro (kept_call (HW104.out.2.2.2.1) b105) (And.intro (arr_call (HW104.out.2.2.2.2.1) b105) (And.intro (kept_call (HW104.out.2.2.2.2.2.1) b105) (kept_call (HW104.out.2.2.2.2.2.2) b105)))))))
    clear b105
    go_wp2_with fail
    refine (rInts_same _ _ _ order.length order (Sees.owns (HW105.out.2.2.2.2.2.1)) (Sees.owns (HW105.out.2.2.2.2.2.2)) (by unfold maxLen; omega)).mono ?_
    rintro e W106 ⟨rfl, d106⟩
    have HW106 := Go.Lib.hid (And.intro (Below.trans (HW105.out.1) (((d106.below W105.heap.size)).mono (Below.size (HW105.out.1)))) (And.intro (Sees.grow (HW105.out.2.1) (d106.below W105.heap.size)) (And.intro (kept_call (HW105.out.2.2.1) (d106.below W105.heap.size)) (And.intro (kept_call (HW105.out.2.2.2.1) (d106.below W105.heap.size)) (And.intro (arr_call (HW105.out.2.2.2.2.1) (d106.below W105.heap.size)) (And.intro (kept_call (HW105.out.2.2.2.2.2.1) (d106.below W105.heap.size)) (kept_call (HW105.out.2.2.2.2.2.2) (d106.below W105.heap.size))))))))
    clear d106
    have HWd107 := Go.Lib.hid (And.intro HW106.out.1 (And.intro HW106.out.2.1 (And.intro HW106.out.2.2.1 (And.intro HW106.out.2.2.2.1 (And.intro HW106.out.2.2.2.2.1 HW106.out.2.2.2.2.2.1)))))
    clear HW106
    clear B1 B2 B3
    go_wp2_with fail
    refine (B4.out _).mono ?_
    rintro e W108 ⟨rfl, b108⟩
    have HW108 := Go.Lib.hid (And.intro (Below.trans (HWd107.out.1) ((b108).mono (Below.size (HWd107.out.1)))) (And.intro (Sees.grow (HWd107.out.2.1) b108) (And.intro (kept_call (HWd107.out.2.2.1) b108) (And.intro (kept_call (HWd107.out.2.2.2.1) b108) (And.intro (arr_call (HWd107.out.2.2.2.2.1) b108) (kept_call (HWd107.out.2.2.2.2.2) b108))))))
    clear b108
    go_wp2_with fail
    refine (B5.out _).mono ?_
    rintro e W109 ⟨rfl, b109⟩
    have HW109 := Go.Lib.hid (And.intro (Below.trans (HW108.out.1) ((b109).mono (Below.size (HW108.out.1)))) (And.intro (Sees.grow (HW108.out.2.1) b109) (And.intro (kept_call (HW108.out.2.2.1) b109) (And.intro (kept_call (HW108.out.2.2.2.1) b109) (And.intro (arr_call (HW108.out.2.2.2.2.1) b109) (kept_call (HW108.out.2.2.2.2.2) b109))))))
    clear b109
    clear B4 B5
    go_wp2_with fail
    refine (D3.out _ (HW109.out.2.1)).mono ?_
    rintro e W110 ⟨n, kk, rfl, hn1, hn2, hk1, hk2, b110⟩
    have HW110 := Go.Lib.hid (And.intro (Below.trans (HW109.out.1) ((b110).mono (Below.size (HW109.out.1)))) (And.intro (Sees.grow (HW109.out.2.1) b110) (And.intro (kept_call (HW109.out.2.2.1) b110) (And.intro (kept_call (HW109.out.2.2.2.1) b110) (And.intro (arr_call (HW109.out.2.2.2.2.1) b110) (kept_call (HW109.out.2.2.2.2.2) b110))))))
    clear b110 D3
    obtain ⟨at_, seven, g4, la, hseven⟩ := facts_at n kk
    have B6 := Go.Lib.hid (implAtW n kk at_ seven g4 (wf_mid hn1 hn2) (wf_mid hk1 hk2))
    have B7 := Go.Lib.hid (specAtW n kk at_ seven g4 (wf_mid hn1 hn2) (wf_mid hk1 hk2))
    have HSEV := Go.Lib.hid hseven
    clear g4 hseven
    go_wp2_with fail
    refine (B6.out _).mono ?_
    rintro e W111 ⟨rfl, b111⟩
    have HW111 := Go.Lib.hid (And.intro (Below.trans (HW110.out.1) ((b111).mono (Below.size (HW110.out.1)))) (And.intro (Sees.grow (HW110.out.2.1) b111) (And.intro (kept_call (HW110.out.2.2.1) b111) (And.intro (kept_call (HW110.out.2.2.2.1) b111) (And.intro (arr_call (HW110.out.2.2.2.2.1) b111) (kept_call (HW110.out.2.2.2.2.2) b111))))))
    clear b111
    go_wp2_with fail
    refine (B7.out _).mono ?_
    rintro e W112 ⟨rfl, b112⟩
    have HW112 := Go.Lib.hid (And.intro (Below.trans (HW111.out.1) ((b112).mono (Below.size (HW111.out.1)))) (And.intro (Sees.grow (HW111.out.2.1) b112) (And.intro (kept_call (HW111.out.2.2.1) b112) (And.intro (kept_call (HW111.out.2.2.2.1) b112) (And.intro (arr_call (HW111.out.2.2.2.2.1) b112) (kept_call (HW111.out.2.2.2.2.2) b112))))))
    clear b112
    clear B6 B7
    go_wp2_with fail
    refine (D4.out _ (HW112.out.2.1)).mono ?_
    rintro e W113 ⟨m, rfl, hm1, hm2, b113⟩
    have HW113 := Go.Lib.hid (And.intro (Below.trans (HW112.out.1) ((b113).mono (Below.size (HW112.out.1)))) (And.intro (Sees.grow (HW112.out.2.1) b113) (And.intro (kept_call (HW112.out.2.2.1) b113) (And.intro (kept_call (HW112.out.2.2.2.1) b113) (And.intro (arr_call (HW112.out.2.2.2.2.1) b113) (kept_call (HW112.out.2.2.2.2.2) b113))))))
    clear b113 D4
    have HWd114 := Go.Lib.hid (And.intro HW113.out.1 (And.intro HW113.out.2.2.1 (And.intro HW113.out.2.2.2.1 (And.intro HW113.out.2.2.2.2.1 HW113.out.2.2.2.2.2))))
    clear HW113
    obtain ⟨many, eight, g5⟩ := facts_one m
    have B8 := Go.Lib.hid (implOne m many eight g5 (wf_mid (by omega) (by omega)))
    have B9 := Go.Lib.hid (specOne m many eight g5 (wf_mid (by omega) (by omega)))
    clear g5
    go_wp2_with fail
    refine (B8.out _).mono ?_
    rintro e W115 ⟨rfl, b115⟩
    have HW115 := Go.Lib.hid (And.intro (Below.trans (HWd114.out.1) ((b115).mono (Below.size (HWd114.out.1)))) (And.intro (kept_call (HWd114.out.2.1) b115) (And.intro (kept_call (HWd114.out.2.2.1) b115) (And.intro (arr_call (HWd114.out.2.2.2.1) b115) (kept_call (HWd114.out.2.2.2.2) b115)))))
    clear b115
    go_wp2_with fail
    refine (B9.out _).mono ?_
    rintro e W116 ⟨rfl, b116⟩
    have HW116 := Go.Lib.hid (And.intro (Below.trans (HW115.out.1) ((b116).mono (Below.size (HW115.out.1)))) (And.intro (kept_call (HW115.out.2.1) b116) (And.intro (kept_call (HW115.out.2.2.1) b116) (And.intro (arr_call (HW115.out.2.2.2.1) b116) (kept_call (HW115.out.2.2.2.2) b116)))))
    clear b116
    clear B8 B9
    cases five
    case false =>
      clear HFIVE
      have HWd117 := Go.Lib.hid (And.intro HW116.out.1 (And.intro HW116.out.2.1 (And.intro HW116.out.2.2.1 HW116.out.2.2.2.1)))
      clear HW116
      cases seven
      case false =>
        clear HSEV
        have E4 := Go.Lib.hid (implRun zs bw sweep true HC.out.1 (by omega) (by omega))
        have E5 := Go.Lib.hid (fun W v h => rSorted_any sweep false W v sweep.length h (by omega) HC.out.2.1)
        go_wp2_with fail
        refine (E4.out _ _ _ (Sees.owns (HWd117.out.2.1))).mono ?_
        rintro e W118 ⟨v118, rfl, o118, b118⟩
        have HW118 := Go.Lib.hid (And.intro (Below.trans (HWd117.out.1) ((b118).mono (Below.size (HWd117.out.1)))) (And.intro (kept_call (HWd117.out.2.1) b118) (And.intro (kept_call (HWd117.out.2.2.1) b118) (And.intro (arr_call (HWd117.out.2.2.2) b118) (own_lower (o118) (Below.size (HWd117.out.1)))))))
        clear o118 b118
        go_wp2_with fail
        refine (rInts_same _ _ _ sweep.length sweep (Sees.owns (HW118.out.2.2.2.2)) (Sees.owns (HW118.out.2.2.1)) (by unfold maxLen; omega)).mono ?_
        rintro e W119 ⟨rfl, d119⟩
        have HW119 := Go.Lib.hid (And.intro (Below.trans (HW118.out.1) (((d119.below W118.heap.size)).mono (Below.size (HW118.out.1)))) (And.intro (kept_call (HW118.out.2.1) (d119.below W118.heap.size)) (And.intro (kept_call (HW118.out.2.2.1) (d119.below W118.heap.size)) (And.intro (arr_call (HW118.out.2.2.2.1) (d119.below W118.heap.size)) (kept_call (HW118.out.2.2.2.2) (d119.below W118.heap.size))))))
        clear d119
        have HWd120 := Go.Lib.hid (And.intro HW119.out.1 (And.intro HW119.out.2.1 (And.intro HW119.out.2.2.1 HW119.out.2.2.2.1)))
        clear HW119
        clear E4
        go_wp2_with fail
        refine (E5.out _ _ (Sees.owns (HWd120.out.2.2.1))).mono ?_
        rintro e W121 ⟨rfl, d121⟩
        have HW121 := Go.Lib.hid (And.intro (Below.trans (HWd120.out.1) (((d121.below W119.heap.size)).mono (Below.size (HWd120.out.1)))) (And.intro (kept_call (HWd120.out.2.1) (d121.below W119.heap.size)) (And.intro (kept_call (HWd120.out.2.2.1) (d121.below W119.heap.size)) (arr_call (HWd120.out.2.2.2) (d121.below W119.heap.size)))))
        clear d121 E5
        have hcl := World.ownsRow.cellAt (HW121.out.2.2.1) (sweep.length - 1) (by omega)
        have hcl2 : (vals sweep)[sweep.length - 1]? = some (.int .i64 (sweep.length : Int)) := by rw [← HC.out.2.2.1]; simp [show sweep.length - 1 < sweep.length by omega]
        rw [hcl2] at hcl
        clear hcl2
        obtain ⟨k0, k1, k2, _, _, _⟩ := arr_cells (HW121.out.2.2.2)
        have ci := World.ownsRow.cellAt (HW121.out.2.1) i (by omega)
        have eci : (vals zs)[i]? = some (.int .i64 (zs.getD i 0)) := by simp [show i < zs.length by omega]
        rw [eci] at ci
        clear eci
        have ck := World.ownsRow.cellAt (HW121.out.2.1) k (by omega)
        have eck : (vals zs)[k]? = some (.int .i64 (zs.getD k 0)) := by simp [show k < zs.length by omega]
        rw [eck] at ck
        clear eck
        have cj := World.ownsRow.cellAt (HW121.out.2.1) j (by omega)
        have ecj : (vals zs)[j]? = some (.int .i64 (zs.getD j 0)) := by simp [show j < zs.length by omega]
        rw [ecj] at cj
        clear ecj
        obtain ⟨b1, b2⟩ := HC.out.2.2.2
        obtain ⟨xi, hxi⟩ : ∃ x, zs.getD i 0 = x := ⟨_, rfl⟩
        obtain ⟨xk, hxk⟩ : ∃ x, zs.getD k 0 = x := ⟨_, rfl⟩
        obtain ⟨xj, hxj⟩ : ∃ x, zs.getD j 0 = x := ⟨_, rfl⟩
        rw [hxi] at ci b1 b2
        rw [hxk] at ck b2
        rw [hxj] at cj b1
        clear hxi hxk hxj
        obtain ⟨ns, hns⟩ : ∃ ns, sweep.length = ns + 1 := ⟨sweep.length - 1, by omega⟩
        have hnb : ns ≤ 7 := by omega
        rw [hns] at hcl ⊢
        rw [Nat.add_sub_cancel, show ((ns + 1 : Nat) : Int) = (ns : Int) + 1 by omega] at hcl
        clear hns
        have q1 : (i : Int) < (k : Int) := by omega
        have q2 : (k : Int) < (j : Int) := by omega
        have d1 : decide ((i : Int) < (k : Int)) = true := decide_eq_true (by omega)
        have d2 : decide ((k : Int) < (j : Int)) = true := decide_eq_true (by omega)
        have d3 : decide (xj < xi) = true := decide_eq_true (by omega)
        have d4 : decide (xi < xk) = true := decide_eq_true (by omega)
        go_wp2_with fail
        (try go_quiet (fail))
        (try go_wp2_with fail)
        go_ret
        exact ⟨rfl, by first | exact HW121.out.1 | exact ExactC.below_drewN (HW121.out.1)⟩
      case true =>
        have E3 := Go.Lib.hid (implRankW at_ kk true (HSEV.out rfl) (by omega))
        clear HSEV
        go_wp2_with fail
        refine (E3.out _).mono ?_
        rintro e W122 ⟨rfl, b122⟩
        have HW122 := Go.Lib.hid (And.intro (Below.trans (HWd117.out.1) ((b122).mono (Below.size (HWd117.out.1)))) (And.intro (kept_call (HWd117.out.2.1) b122) (And.intro (kept_call (HWd117.out.2.2.1) b122) (arr_call (HWd117.out.2.2.2) b122))))
        clear b122
        clear E3
        have E4 := Go.Lib.hid (implRun zs bw sweep true HC.out.1 (by omega) (by omega))
        have E5 := Go.Lib.hid (fun W v h => rSorted_any sweep false W v sweep.length h (by omega) HC.out.2.1)
        go_wp2_with fail
        refine (E4.out _ _ _ (Sees.owns (HW122.out.2.1))).mono ?_
        rintro e W123 ⟨v123, rfl, o123, b123⟩
        have HW123 := Go.Lib.hid (And.intro (Below.trans (HW122.out.1) ((b123).mono (Below.size (HW122.out.1)))) (And.intro (kept_call (HW122.out.2.1) b123) (And.intro (kept_call (HW122.out.2.2.1) b123) (And.intro (arr_call (HW122.out.2.2.2) b123) (own_lower (o123) (Below.size (HW122.out.1)))))))
        clear o123 b123
        go_wp2_with fail
        refine (rInts_same _ _ _ sweep.length sweep (Sees.owns (HW123.out.2.2.2.2)) (Sees.owns (HW123.out.2.2.1)) (by unfold maxLen; omega)).mono ?_
        rintro e W124 ⟨rfl, d124⟩
        have HW124 := Go.Lib.hid (And.intro (Below.trans (HW123.out.1) (((d124.below W123.heap.size)).mono (Below.size (HW123.out.1)))) (And.intro (kept_call (HW123.out.2.1) (d124.below W123.heap.size)) (And.intro (kept_call (HW123.out.2.2.1) (d124.below W123.heap.size)) (And.intro (arr_call (HW123.out.2.2.2.1) (d124.below W123.heap.size)) (kept_call (HW123.out.2.2.2.2) (d124.below W123.heap.size))))))
        clear d124
        have HWd125 := Go.Lib.hid (And.intro HW124.out.1 (And.intro HW124.out.2.1 (And.intro HW124.out.2.2.1 HW124.out.2.2.2.1)))
        clear HW124
        clear E4
        go_wp2_with fail
        refine (E5.out _ _ (Sees.owns (HWd125.out.2.2.1))).mono ?_
        rintro e W126 ⟨rfl, d126⟩
        have HW126 := Go.Lib.hid (And.intro (Below.trans (HWd125.out.1) (((d126.below W124.heap.size)).mono (Below.size (HWd125.out.1)))) (And.intro (kept_call (HWd125.out.2.1) (d126.below W124.heap.size)) (And.intro (kept_call (HWd125.out.2.2.1) (d126.below W124.heap.size)) (arr_call (HWd125.out.2.2.2) (d126.below W124.heap.size)))))
        clear d126 E5
        have hcl := World.ownsRow.cellAt (HW126.out.2.2.1) (sweep.length - 1) (by omega)
        have hcl2 : (vals sweep)[sweep.length - 1]? = some (.int .i64 (sweep.length : Int)) := by rw [← HC.out.2.2.1]; simp [show sweep.length - 1 < sweep.length by omega]
        rw [hcl2] at hcl
        clear hcl2
        obtain ⟨k0, k1, k2, _, _, _⟩ := arr_cells (HW126.out.2.2.2)
        have ci := World.ownsRow.cellAt (HW126.out.2.1) i (by omega)
        have eci : (vals zs)[i]? = some (.int .i64 (zs.getD i 0)) := by simp [show i < zs.length by omega]
        rw [eci] at ci
        clear eci
        have ck := World.ownsRow.cellAt (HW126.out.2.1) k (by omega)
        have eck : (vals zs)[k]? = some (.int .i64 (zs.getD k 0)) := by simp [show k < zs.length by omega]
        rw [eck] at ck
        clear eck
        have cj := World.ownsRow.cellAt (HW126.out.2.1) j (by omega)
        have ecj : (vals zs)[j]? = some (.int .i64 (zs.getD j 0)) := by simp [show j < zs.length by omega]
        rw [ecj] at cj
        clear ecj
        obtain ⟨b1, b2⟩ := HC.out.2.2.2
        obtain ⟨xi, hxi⟩ : ∃ x, zs.getD i 0 = x := ⟨_, rfl⟩
        obtain ⟨xk, hxk⟩ : ∃ x, zs.getD k 0 = x := ⟨_, rfl⟩
        obtain ⟨xj, hxj⟩ : ∃ x, zs.getD j 0 = x := ⟨_, rfl⟩
        rw [hxi] at ci b1 b2
        rw [hxk] at ck b2
        rw [hxj] at cj b1
        clear hxi hxk hxj
        obtain ⟨ns, hns⟩ : ∃ ns, sweep.length = ns + 1 := ⟨sweep.length - 1, by omega⟩
        have hnb : ns ≤ 7 := by omega
        rw [hns] at hcl ⊢
        rw [Nat.add_sub_cancel, show ((ns + 1 : Nat) : Int) = (ns : Int) + 1 by omega] at hcl
        clear hns
        have q1 : (i : Int) < (k : Int) := by omega
        have q2 : (k : Int) < (j : Int) := by omega
        have d1 : decide ((i : Int) < (k : Int)) = true := decide_eq_true (by omega)
        have d2 : decide ((k : Int) < (j : Int)) = true := decide_eq_true (by omega)
        have d3 : decide (xj < xi) = true := decide_eq_true (by omega)
        have d4 : decide (xi < xk) = true := decide_eq_true (by omega)
        go_wp2_with fail
        (try go_quiet (fail))
        (try go_wp2_with fail)
        go_ret
        exact ⟨rfl, by first | exact HW126.out.1 | exact ExactC.below_drewN (HW126.out.1)⟩
    case true =>
      have E1 := Go.Lib.hid (implSorting order x true (HFIVE.out rfl).1 (by omega))
      have E2 := Go.Lib.hid (implAtW ((x.size : Int) / 2) rank x true (HFIVE.out rfl).2 (wf_mid (by omega) (by omega)) (wf_mid (by omega) (by omega)))
      clear HFIVE
      go_wp2_with fail
      refine (E1.out _ _ _ (Sees.owns (HW116.out.2.2.2.2))).mono ?_
      rintro e W127 ⟨rfl, b127⟩
      have HW127 := Go.Lib.hid (And.intro (Below.trans (HW116.out.1) ((b127).mono (Below.size (HW116.out.1)))) (And.intro (kept_call (HW116.out.2.1) b127) (And.intro (kept_call (HW116.out.2.2.1) b127) (And.intro (arr_call (HW116.out.2.2.2.1) b127) (kept_call (HW116.out.2.2.2.2) b127)))))
      clear b127
      go_wp2_with fail
      refine (E2.out _).mono ?_
      rintro e W128 ⟨rfl, b128⟩
      have HW128 := Go.Lib.hid (And.intro (Below.trans (HW127.out.1) ((b128).mono (Below.size (HW127.out.1)))) (And.intro (kept_call (HW127.out.2.1) b128) (And.intro (kept_call (HW127.out.2.2.1) b128) (And.intro (arr_call (HW127.out.2.2.2.1) b128) (kept_call (HW127.out.2.2.2.2) b128)))))
      clear b128
      clear E1 E2
      have HWd129 := Go.Lib.hid (And.intro HW128.out.1 (And.intro HW128.out.2.1 (And.intro HW128.out.2.2.1 HW128.out.2.2.2.1)))
      clear HW128
      cases seven
      case false =>
        clear HSEV
        have E4 := Go.Lib.hid (implRun zs bw sweep true HC.out.1 (by omega) (by omega))
        have E5 := Go.Lib.hid (fun W v h => rSorted_any sweep false W v sweep.length h (by omega) HC.out.2.1)
        go_wp2_with fail
        refine (E4.out _ _ _ (Sees.owns (HWd129.out.2.1))).mono ?_
        rintro e W130 ⟨v130, rfl, o130, b130⟩
        have HW130 := Go.Lib.hid (And.intro (Below.trans (HWd129.out.1) ((b130).mono (Below.size (HWd129.out.1)))) (And.intro (kept_call (HWd129.out.2.1) b130) (And.intro (kept_call (HWd129.out.2.2.1) b130) (And.intro (arr_call (HWd129.out.2.2.2) b130) (own_lower (o130) (Below.size (HWd129.out.1)))))))
        clear o130 b130
        go_wp2_with fail
        refine (rInts_same _ _ _ sweep.length sweep (Sees.owns (HW130.out.2.2.2.2)) (Sees.owns (HW130.out.2.2.1)) (by unfold maxLen; omega)).mono ?_
        rintro e W131 ⟨rfl, d131⟩
        have HW131 := Go.Lib.hid (And.intro (Below.trans (HW130.out.1) (((d131.below W130.heap.size)).mono (Below.size (HW130.out.1)))) (And.intro (kept_call (HW130.out.2.1) (d131.below W130.heap.size)) (And.intro (kept_call (HW130.out.2.2.1) (d131.below W130.heap.size)) (And.intro (arr_call (HW130.out.2.2.2.1) (d131.below W130.heap.size)) (kept_call (HW130.out.2.2.2.2) (d131.below W130.heap.size))))))
        clear d131
        have HWd132 := Go.Lib.hid (And.intro HW131.out.1 (And.intro HW131.out.2.1 (And.intro HW131.out.2.2.1 HW131.out.2.2.2.1)))
        clear HW131
        clear E4
        go_wp2_with fail
        refine (E5.out _ _ (Sees.owns (HWd132.out.2.2.1))).mono ?_
        rintro e W133 ⟨rfl, d133⟩
        have HW133 := Go.Lib.hid (And.intro (Below.trans (HWd132.out.1) (((d133.below W131.heap.size)).mono (Below.size (HWd132.out.1)))) (And.intro (kept_call (HWd132.out.2.1) (d133.below W131.heap.size)) (And.intro (kept_call (HWd132.out.2.2.1) (d133.below W131.heap.size)) (arr_call (HWd132.out.2.2.2) (d133.below W131.heap.size)))))
        clear d133 E5
        have hcl := World.ownsRow.cellAt (HW133.out.2.2.1) (sweep.length - 1) (by omega)
        have hcl2 : (vals sweep)[sweep.length - 1]? = some (.int .i64 (sweep.length : Int)) := by rw [← HC.out.2.2.1]; simp [show sweep.length - 1 < sweep.length by omega]
        rw [hcl2] at hcl
        clear hcl2
        obtain ⟨k0, k1, k2, _, _, _⟩ := arr_cells (HW133.out.2.2.2)
        have ci := World.ownsRow.cellAt (HW133.out.2.1) i (by omega)
        have eci : (vals zs)[i]? = some (.int .i64 (zs.getD i 0)) := by simp [show i < zs.length by omega]
        rw [eci] at ci
        clear eci
        have ck := World.ownsRow.cellAt (HW133.out.2.1) k (by omega)
        have eck : (vals zs)[k]? = some (.int .i64 (zs.getD k 0)) := by simp [show k < zs.length by omega]
        rw [eck] at ck
        clear eck
        have cj := World.ownsRow.cellAt (HW133.out.2.1) j (by omega)
        have ecj : (vals zs)[j]? = some (.int .i64 (zs.getD j 0)) := by simp [show j < zs.length by omega]
        rw [ecj] at cj
        clear ecj
        obtain ⟨b1, b2⟩ := HC.out.2.2.2
        obtain ⟨xi, hxi⟩ : ∃ x, zs.getD i 0 = x := ⟨_, rfl⟩
        obtain ⟨xk, hxk⟩ : ∃ x, zs.getD k 0 = x := ⟨_, rfl⟩
        obtain ⟨xj, hxj⟩ : ∃ x, zs.getD j 0 = x := ⟨_, rfl⟩
        rw [hxi] at ci b1 b2
        rw [hxk] at ck b2
        rw [hxj] at cj b1
        clear hxi hxk hxj
        obtain ⟨ns, hns⟩ : ∃ ns, sweep.length = ns + 1 := ⟨sweep.length - 1, by omega⟩
        have hnb : ns ≤ 7 := by omega
        rw [hns] at hcl ⊢
        rw [Nat.add_sub_cancel, show ((ns + 1 : Nat) : Int) = (ns : Int) + 1 by omega] at hcl
        clear hns
        have q1 : (i : Int) < (k : Int) := by omega
        have q2 : (k : Int) < (j : Int) := by omega
        have d1 : decide ((i : Int) < (k : Int)) = true := decide_eq_true (by omega)
        have d2 : decide ((k : Int) < (j : Int)) = true := decide_eq_true (by omega)
        have d3 : decide (xj < xi) = true := decide_eq_true (by omega)
        have d4 : decide (xi < xk) = true := decide_eq_true (by omega)
        go_wp2_with fail
        (try go_quiet (fail))
        (try go_wp2_with fail)
        go_ret
        exact ⟨rfl, by first | exact HW133.out.1 | exact ExactC.below_drewN (HW133.out.1)⟩
      case true =>
        have E3 := Go.Lib.hid (implRankW at_ kk true (HSEV.out rfl) (by omega))
        clear HSEV
        go_wp2_with fail
        refine (E3.out _).mono ?_
        rintro e W134 ⟨rfl, b134⟩
        have HW134 := Go.Lib.hid (And.intro (Below.trans (HWd129.out.1) ((b134).mono (Below.size (HWd129.out.1)))) (And.intro (kept_call (HWd129.out.2.1) b134) (And.intro (kept_call (HWd129.out.2.2.1) b134) (arr_call (HWd129.out.2.2.2) b134))))
        clear b134
        clear E3
        have E4 := Go.Lib.hid (implRun zs bw sweep true HC.out.1 (by omega) (by omega))
        have E5 := Go.Lib.hid (fun W v h => rSorted_any sweep false W v sweep.length h (by omega) HC.out.2.1)
        go_wp2_with fail
        refine (E4.out _ _ _ (Sees.owns (HW134.out.2.1))).mono ?_
        rintro e W135 ⟨v135, rfl, o135, b135⟩
        have HW135 := Go.Lib.hid (And.intro (Below.trans (HW134.out.1) ((b135).mono (Below.size (HW134.out.1)))) (And.intro (kept_call (HW134.out.2.1) b135) (And.intro (kept_call (HW134.out.2.2.1) b135) (And.intro (arr_call (HW134.out.2.2.2) b135) (own_lower (o135) (Below.size (HW134.out.1)))))))
        clear o135 b135
        go_wp2_with fail
        refine (rInts_same _ _ _ sweep.length sweep (Sees.owns (HW135.out.2.2.2.2)) (Sees.owns (HW135.out.2.2.1)) (by unfold maxLen; omega)).mono ?_
        rintro e W136 ⟨rfl, d136⟩
        have HW136 := Go.Lib.hid (And.intro (Below.trans (HW135.out.1) (((d136.below W135.heap.size)).mono (Below.size (HW135.out.1)))) (And.intro (kept_call (HW135.out.2.1) (d136.below W135.heap.size)) (And.intro (kept_call (HW135.out.2.2.1) (d136.below W135.heap.size)) (And.intro (arr_call (HW135.out.2.2.2.1) (d136.below W135.heap.size)) (kept_call (HW135.out.2.2.2.2) (d136.below W135.heap.size))))))
        clear d136
        have HWd137 := Go.Lib.hid (And.intro HW136.out.1 (And.intro HW136.out.2.1 (And.intro HW136.out.2.2.1 HW136.out.2.2.2.1)))
        clear HW136
        clear E4
        go_wp2_with fail
        refine (E5.out _ _ (Sees.owns (HWd137.out.2.2.1))).mono ?_
        rintro e W138 ⟨rfl, d138⟩
        have HW138 := Go.Lib.hid (And.intro (Below.trans (HWd137.out.1) (((d138.below W136.heap.size)).mono (Below.size (HWd137.out.1)))) (And.intro (kept_call (HWd137.out.2.1) (d138.below W136.heap.size)) (And.intro (kept_call (HWd137.out.2.2.1) (d138.below W136.heap.size)) (arr_call (HWd137.out.2.2.2) (d138.below W136.heap.size)))))
        clear d138 E5
        have hcl := World.ownsRow.cellAt (HW138.out.2.2.1) (sweep.length - 1) (by omega)
        have hcl2 : (vals sweep)[sweep.length - 1]? = some (.int .i64 (sweep.length : Int)) := by rw [← HC.out.2.2.1]; simp [show sweep.length - 1 < sweep.length by omega]
        rw [hcl2] at hcl
        clear hcl2
        obtain ⟨k0, k1, k2, _, _, _⟩ := arr_cells (HW138.out.2.2.2)
        have ci := World.ownsRow.cellAt (HW138.out.2.1) i (by omega)
        have eci : (vals zs)[i]? = some (.int .i64 (zs.getD i 0)) := by simp [show i < zs.length by omega]
        rw [eci] at ci
        clear eci
        have ck := World.ownsRow.cellAt (HW138.out.2.1) k (by omega)
        have eck : (vals zs)[k]? = some (.int .i64 (zs.getD k 0)) := by simp [show k < zs.length by omega]
        rw [eck] at ck
        clear eck
        have cj := World.ownsRow.cellAt (HW138.out.2.1) j (by omega)
        have ecj : (vals zs)[j]? = some (.int .i64 (zs.getD j 0)) := by simp [show j < zs.length by omega]
        rw [ecj] at cj
        clear ecj
        obtain ⟨b1, b2⟩ := HC.out.2.2.2
        obtain ⟨xi, hxi⟩ : ∃ x, zs.getD i 0 = x := ⟨_, rfl⟩
        obtain ⟨xk, hxk⟩ : ∃ x, zs.getD k 0 = x := ⟨_, rfl⟩
        obtain ⟨xj, hxj⟩ : ∃ x, zs.getD j 0 = x := ⟨_, rfl⟩
        rw [hxi] at ci b1 b2
        rw [hxk] at ck b2
        rw [hxj] at cj b1
        clear hxi hxk hxj
        obtain ⟨ns, hns⟩ : ∃ ns, sweep.length = ns + 1 := ⟨sweep.length - 1, by omega⟩
        have hnb : ns ≤ 7 := by omega
        rw [hns] at hcl ⊢
        rw [Nat.add_sub_cancel, show ((ns + 1 : Nat) : Int) = (ns : Int) + 1 by omega] at hcl
        clear hns
        have q1 : (i : Int) < (k : Int) := by omega
        have q2 : (k : Int) < (j : Int) := by omega
        have d1 : decide ((i : Int) < (k : Int)) = true := decide_eq_true (by omega)
        have d2 : decide ((k : Int) < (j : Int)) = true := decide_eq_true (by omega)
        have d3 : decide (xj < xi) = true := decide_eq_true (by omega)
        have d4 : decide (xi < xk) = true := decide_eq_true (by omega)
        go_wp2_with fail
        (try go_quiet (fail))
        (try go_wp2_with fail)
        go_ret
        exact ⟨rfl, by first | exact HW138.out.1 | exact ExactC.below_drewN (HW138.out.1)⟩

/-! ### From the walk to the row -/
set_option maxRecDepth 100000 in
theorem lifted (os : Os) (started : os.Started) (H : Type) (enc : TypeId × Value → H) :
    ReturnsInHanded {} Try.checked os 3 .any (Rows.fnOneStackSpec.pre6 enc Try.prog Try.f3 Rows.fnOneStackRow.domain false) (Rows.fnOneStackSpec.post enc Try.prog Try.f3 false true false false) := by
  refine returnsInHanded_of_change (C := Try.checked) own started (by kernel_rfl) Try.func3
    (ChangeSpec.witness6 (enc := enc) (C := Try.checked) false ⟨#[], #[.slice none 0 0], []⟩ 8 (by kernel_rfl) (by kernel_rfl) (by kernel_rfl) (by kernel_rfl)) ?_
  intro W base args ds gs before hval0 hW hcnd _
  have hval : ∀ (j : Nat) t v, Try.f3.params[j]? = some t → args[j]? = some v → Value.okWide Try.prog W .any base t v := hval0
  have hW' := hW
  obtain ⟨p, q, hA0, hV, rfl, hfz, hnd⟩ := hW
  have hA : DataW.TrodAll enc Try.prog W 0 (fun _ => true) true Try.f3.params.toList args.toList ds p := hA0
  rw [Try.params3] at hA hval
  obtain ⟨u0, vs0, d0, ds0, p0, q0, hargs, rfl, rfl, h0, r0⟩ := trodAll_cons hA
  obtain ⟨rfl, rfl, rfl⟩ := trodAll_nil r0
  obtain rfl : args = #[u0] := by cases args; simp_all
  obtain ⟨rfl, rfl⟩ := trodVars_none hV
  have lt0 : ∀ x ∈ p0, x.block < W.heap.size := by obtain ⟨m, hm⟩ := h0; exact DataW.trod_lt m _ _ _ hm
  obtain ⟨n0, a0, s0, t0, w0⟩ := sees_ints Try.underlying22 Try.underlying5 (by kernel_rfl) (hval 0 22 u0 rfl rfl) h0
  clear hA0 hval0
  refine (walk u0 n0 a0 W s0 t0 w0).mono fun e W' ⟨he, bel⟩ => ?_
  subst he
  exact ⟨_, rfl, _, _, _, [], _, [], hW', trodAll_mk1 (shut_bool Try.underlying4 _), (trodAll_cons_mk (Below.trod laidOut (by kernel_rfl) (of_decide_eq_true (by kernel_rfl)) h0 bel lt0) trodAll_mk0), rfl, bel.frame _, fun h => by cases h⟩

theorem over : Rows.fnOneStackRow.holds Try.pinned (OpenSpec.ofChange Rows.fnOneStackSpec) :=
  OpenClaim.holds_of_wide 3 Try.f3 rfl rfl rfl rfl rfl rfl rfl ⟨rfl, rfl, rfl, rfl, rfl⟩ rfl rfl rfl rfl rfl (by kernel_rfl) Try.func3
    (show joinedFacts Try.prog 3 Try.f3 Rows.fnOneStackSpec Rows.fnOneStackRow = true by unfold joinedFacts; rw [SeatC.may, SeatC.lif, SeatC.mke]; kernel_rfl)
    (of_decide_eq_true (by kernel_rfl)) (by unfold Func.isWrapper; first | (rw [if_pos (by decide +kernel)]; kernel_rfl) | (rw [if_neg (by decide +kernel)]; exact ⟨rfl, rfl⟩))
    (fun os started H enc _ => lifted os started H enc)

/-- The statement. -/
theorem proved : Rows.FnOneStackSaid :=
  over
#print axioms proved
end Go.Proofs.Ytddenfnoajdjiaa.fnOneStack
