/-
  The law FnSplitJoin holds for any code: what is split is joined again, joins are as the model's, and no two texts are each less than the other. Conditions: none beyond the row's own.
-/
import Derived.Test.YtjebehekhjbijaaRows
import Derived.Test.YtjebehekhjbijaaOpen
import Derived.WalkKit
import Derived.ProofKit
import Derived.OpenShut
import Derived.ShutString
import Derived.ChangeOld
import Derived.Below
import Derived.Test.YtjebehekhjbijaaSplitImpl
import Derived.Test.YtjebehekhjbijaaJoinImpl
import Derived.Test.YtjebehekhjbijaaDraw
import Derived.Test.YtjebehekhjbijaaLessC
import Derived.Test.YtjebehekhjbijaaVBig
import Derived.Test.YtjebehekhjbijaaSplitJoinMath
namespace Go.Proofs.Ytjebehekhjbijaa.fnSplitJoin
open Go.ChangeShapes Go.WideShapes Go.ChangeAt Go.RowKit SeesC OpenC
open Go.ChangeMaps (open_string shut_string)
open SplitMath SplitC SplitImplC JoinMath JoinSpecC JoinImplC CurC DrawC LessC VBigC SplitJoinMath
set_option linter.unusedVariables false

theorem own : ownKnob Try.prog.godebug = none := by kernel_rfl
theorem laidOut : laidOutB Try.prog = true := by kernel_rfl

/-! ### The walk -/
set_option maxHeartbeats 4000000 in
theorem walk (v0 : Value) (n0 : Nat) (a0 : List Int) (w : World) (s0 : Sees w v0 n0 (a0.map (Value.int .u8))) (t0 : n0 ≤ maxLen) (w0 : ∀ z ∈ a0, (Lit.int .u8 z).wf = true) :
    Calls Try.prog 3 #[v0] w fun e w' => e = .returned (.bool true) ∧ Below w.heap.size w w' := by
  have hz := byte_bd w0
  have hs0 := s0
  obtain ⟨_, ar, cap, rfl, _, _⟩ := hs0
  by_cases hbig : (65536 : Int) < (n0 : Int)
  · have cB := Go.Lib.hid (vBig_of w ar n0 cap true (decide_eq_true hbig))
    clear hz
    go_enter Try.func3, Try.ntmps3
    go_wp2_with fail
    refine (cB.out).mono ?_
    rintro e W1 ⟨rfl, rfl⟩
    go_wp2_with fail
    go_ret
    exact ⟨rfl, Below.refl _ _⟩
  · have hn : n0 ≤ 65536 := by omega
    have cB := Go.Lib.hid (vBig_of w ar n0 cap false (decide_eq_false hbig))
    have C2 := Go.Lib.hid (drawSplit_any _ n0 a0 w s0 hz hn)
    go_enter Try.func3, Try.ntmps3
    go_wp2_with fail
    refine (cB.out).mono ?_
    rintro e W0 ⟨rfl, rfl⟩
    go_wp2_with fail
    refine (C2.out).mono ?_
    rintro e W1 ⟨s, sep, hss, hsp, rfl, hb1⟩
    have HB1 := Go.Lib.hid hb1
    clear hb1 C2 cB
    by_cases h1 : sep.size = 1
    · have hans1 : splitAns s sep = (split s (sep[0]'(by omega)), true) := by unfold splitAns; rw [dif_pos ⟨by omega, h1⟩]
      have hj : joinAns (split s (sep[0]'(by omega))) sep = (s, true) := by
        have e2 := congrArg (joinB (split s (sep[0]'(by omega)))) (one_byte sep h1)
        unfold joinAns
        rw [dif_pos ⟨h1, split_ne _ _⟩, if_pos (split_ok s _ (by omega))]
        rw [e2, split_joined]
      have hps := part_size s (sep[0]'(by omega)) (by omega)
      have hpl := split_len s (sep[0]'(by omega))
      obtain ⟨xs, hxs⟩ : ∃ xs, split s (sep[0]'(by omega)) = xs := ⟨_, rfl⟩
      rw [hxs] at hans1 hj hps hpl
      have C3 := Go.Lib.hid (fun W => implSplit_any s sep W _ _ (by omega) hans1)
      have C8 := Go.Lib.hid (fun W v h => implJoin_ans W v xs.length xs sep s true h hps (by omega) hj)
      have hss1 : (sep.size : Int) = 1 := by omega
      clear hans1 hj hps hpl hxs h1
      go_wp2_with fail
      refine (C3.out _).mono ?_
      rintro e W2 ⟨vl, rfl, ho2, hb2⟩
      have S2 := Go.Lib.hid (And.intro (Sees.owns ho2) (HB1.out.trans (hb2.mono HB1.out.size)))
      clear ho2 hb2
      have C4 := Go.Lib.hid (drawJoin_any _ n0 a0 W2 (s0.grow S2.out.2) hz hn)
      go_wp2_with fail
      refine (C4.out).mono ?_
      rintro e W3 ⟨vk, ss, mk, rfl, ho3, hl3, hs3, hm3, hb3⟩
      have hs3' : ∀ s ∈ ss, s.size ≤ 1048576 := fun s h => Nat.le_trans (hs3 s h) (by omega)
      have S3 := Go.Lib.hid (And.intro (Sees.owns ho3) (And.intro (S2.out.1.grow hb3) (S2.out.2.trans (hb3.mono S2.out.2.size))))
      obtain ⟨⟨r, rb⟩, hans⟩ : ∃ x, joinAns ss mk = x := ⟨_, rfl⟩
      have C5 := Go.Lib.hid (implJoin_ans W3 vk ss.length ss mk r rb S3.out.1 hs3' (by omega) hans)
      have C6 := Go.Lib.hid (fun W h => specJoin_ans W vk ss.length ss mk r rb h hs3' (by omega) hans)
      clear ho3 hb3 C4 hans hs3 hs3'
      go_wp2_with fail
      refine (C5.out).mono ?_
      rintro e W4 ⟨rfl, hb4⟩
      have S4 := Go.Lib.hid (And.intro (S3.out.1.grow hb4) (And.intro (S3.out.2.1.grow hb4) (S3.out.2.2.trans (hb4.mono S3.out.2.2.size))))
      clear hb4 C5
      go_wp2_with fail
      refine (C6.out W4 S4.out.1).mono ?_
      rintro e W5 ⟨rfl, hd5⟩
      have S5 := Go.Lib.hid (And.intro (hd5.sees S4.out.2.1) (S4.out.2.2.trans (hd5.below _)))
      clear hd5 C6
      have C7 := Go.Lib.hid (drawLess_any _ n0 a0 W5 (s0.grow S5.out.2) hz hn)
      go_wp2_with fail
      refine (C7.out).mono ?_
      rintro e W6 ⟨a, b, ha, hb, rfl, hb6⟩
      have S7 := Go.Lib.hid (And.intro (S5.out.1.grow hb6) (S5.out.2.trans (hb6.mono S5.out.2.size)))
      clear hb6 C7
      have C9 := Go.Lib.hid (C8.out W6 vl S7.out.1)
      have hsl : lt a b = true → lt b a = false := fun h => bytesLess_not _ _ h
      cases hab : lt a b
      · have cL1 := Go.Lib.hid (fun W => implLess_of a b false W hab)
        have cL2 := Go.Lib.hid (fun W => specLess_of a b false W hab)
        clear hsl hab
        go_wp2_with fail
        refine (cL1.out _).mono ?_
        rintro e X1 ⟨rfl, rfl⟩
        go_wp2_with fail
        refine (cL2.out _).mono ?_
        rintro e X2 ⟨rfl, rfl⟩
        go_wp2_with fail
        refine (cL1.out _).mono ?_
        rintro e X3 ⟨rfl, rfl⟩
        go_wp2_with fail
        refine (C9.out).mono ?_
        rintro e Y ⟨rfl, hY⟩
        have S9 := Go.Lib.hid (S7.out.2.trans (hY.mono S7.out.2.size))
        clear hY C9
        go_wp2_with fail
        go_ret
        exact ⟨rfl, S9.out⟩
      · have cL1 := Go.Lib.hid (fun W => implLess_of a b true W hab)
        have cL2 := Go.Lib.hid (fun W => specLess_of a b true W hab)
        have cL3 := Go.Lib.hid (fun W => implLess_of b a false W (hsl hab))
        clear hsl hab
        go_wp2_with fail
        refine (cL1.out _).mono ?_
        rintro e X1 ⟨rfl, rfl⟩
        go_wp2_with fail
        refine (cL2.out _).mono ?_
        rintro e X2 ⟨rfl, rfl⟩
        go_wp2_with fail
        refine (cL1.out _).mono ?_
        rintro e X3 ⟨rfl, rfl⟩
        go_wp2_with fail
        refine (cL3.out _).mono ?_
        rintro e X4 ⟨rfl, rfl⟩
        go_wp2_with fail
        refine (C9.out).mono ?_
        rintro e Y ⟨rfl, hY⟩
        have S9 := Go.Lib.hid (S7.out.2.trans (hY.mono S7.out.2.size))
        clear hY C9
        go_wp2_with fail
        go_ret
        exact ⟨rfl, S9.out⟩
    · have hans1 : splitAns s sep = ([], false) := by unfold splitAns; rw [dif_neg (by omega)]
      have C3 := Go.Lib.hid (fun W => implSplit_any s sep W _ _ (by omega) hans1)
      have hne : ((sep.size : Int) == 1) = false := by rw [beq_eq_false_iff_ne]; omega
      have hne2 : ((sep.size : Int) != 1) = true := by unfold bne; rw [hne]; rfl
      clear hans1 h1
      go_wp2_with fail
      refine (C3.out _).mono ?_
      rintro e W2 ⟨vl, rfl, ho2, hb2⟩
      have S2 := Go.Lib.hid (And.intro (Sees.owns ho2) (HB1.out.trans (hb2.mono HB1.out.size)))
      obtain ⟨_, al, cl, rfl, _, _⟩ := Sees.owns ho2
      clear ho2 hb2
      have C4 := Go.Lib.hid (drawJoin_any _ n0 a0 W2 (s0.grow S2.out.2) hz hn)
      go_wp2_with fail
      refine (C4.out).mono ?_
      rintro e W3 ⟨vk, ss, mk, rfl, ho3, hl3, hs3, hm3, hb3⟩
      have hs3' : ∀ s ∈ ss, s.size ≤ 1048576 := fun s h => Nat.le_trans (hs3 s h) (by omega)
      have S3 := Go.Lib.hid (And.intro (Sees.owns ho3) (And.intro (S2.out.1.grow hb3) (S2.out.2.trans (hb3.mono S2.out.2.size))))
      obtain ⟨⟨r, rb⟩, hans⟩ : ∃ x, joinAns ss mk = x := ⟨_, rfl⟩
      have C5 := Go.Lib.hid (implJoin_ans W3 vk ss.length ss mk r rb S3.out.1 hs3' (by omega) hans)
      have C6 := Go.Lib.hid (fun W h => specJoin_ans W vk ss.length ss mk r rb h hs3' (by omega) hans)
      clear ho3 hb3 C4 hans hs3 hs3'
      go_wp2_with fail
      refine (C5.out).mono ?_
      rintro e W4 ⟨rfl, hb4⟩
      have S4 := Go.Lib.hid (And.intro (S3.out.1.grow hb4) (And.intro (S3.out.2.1.grow hb4) (S3.out.2.2.trans (hb4.mono S3.out.2.2.size))))
      clear hb4 C5
      go_wp2_with fail
      refine (C6.out W4 S4.out.1).mono ?_
      rintro e W5 ⟨rfl, hd5⟩
      have S5 := Go.Lib.hid (And.intro (hd5.sees S4.out.2.1) (S4.out.2.2.trans (hd5.below _)))
      clear hd5 C6
      have C7 := Go.Lib.hid (drawLess_any _ n0 a0 W5 (s0.grow S5.out.2) hz hn)
      go_wp2_with fail
      refine (C7.out).mono ?_
      rintro e W6 ⟨a, b, ha, hb, rfl, hb6⟩
      have S7 := Go.Lib.hid (And.intro (S5.out.1.grow hb6) (S5.out.2.trans (hb6.mono S5.out.2.size)))
      clear hb6 C7
      have hsl : lt a b = true → lt b a = false := fun h => bytesLess_not _ _ h
      cases hab : lt a b
      · have cL1 := Go.Lib.hid (fun W => implLess_of a b false W hab)
        have cL2 := Go.Lib.hid (fun W => specLess_of a b false W hab)
        clear hsl hab
        go_wp2_with fail
        refine (cL1.out _).mono ?_
        rintro e X1 ⟨rfl, rfl⟩
        go_wp2_with fail
        refine (cL2.out _).mono ?_
        rintro e X2 ⟨rfl, rfl⟩
        go_wp2_with fail
        refine (cL1.out _).mono ?_
        rintro e X3 ⟨rfl, rfl⟩
        go_wp2_with fail
        go_ret
        exact ⟨rfl, S7.out.2⟩
      · have cL1 := Go.Lib.hid (fun W => implLess_of a b true W hab)
        have cL2 := Go.Lib.hid (fun W => specLess_of a b true W hab)
        have cL3 := Go.Lib.hid (fun W => implLess_of b a false W (hsl hab))
        clear hsl hab
        go_wp2_with fail
        refine (cL1.out _).mono ?_
        rintro e X1 ⟨rfl, rfl⟩
        go_wp2_with fail
        refine (cL2.out _).mono ?_
        rintro e X2 ⟨rfl, rfl⟩
        go_wp2_with fail
        refine (cL1.out _).mono ?_
        rintro e X3 ⟨rfl, rfl⟩
        go_wp2_with fail
        refine (cL3.out _).mono ?_
        rintro e X4 ⟨rfl, rfl⟩
        go_wp2_with fail
        go_ret
        exact ⟨rfl, S7.out.2⟩

/-! ### From the walk to the row -/
set_option maxRecDepth 100000 in
theorem lifted (os : Os) (started : os.Started) (H : Type) (enc : TypeId × Value → H) :
    ReturnsInHanded {} Try.checked os 3 .any (Rows.fnSplitJoinSpec.pre6 enc Try.prog Try.f3 Rows.fnSplitJoinRow.domain false) (Rows.fnSplitJoinSpec.post enc Try.prog Try.f3 false true false false) := by
  refine returnsInHanded_of_change (C := Try.checked) own started (by kernel_rfl) Try.func3
    (ChangeSpec.witness6 (enc := enc) (C := Try.checked) false ⟨#[], #[.slice none 0 0], []⟩ 8 (by kernel_rfl) (by kernel_rfl) (by kernel_rfl) (by kernel_rfl)) ?_
  intro W base args ds gs before hval0 hW hcnd _
  have hval : ∀ (j : Nat) t v, Try.f3.params[j]? = some t → args[j]? = some v → Value.okWide Try.prog W .any base t v := hval0
  have hW' := hW
  obtain ⟨p, q, hA0, hV, rfl, hfz, hnd⟩ := hW
  have hA : DataW.TrodAll enc Try.prog W 0 (fun _ => true) true Try.f3.params.toList args.toList ds p := hA0
  rw [Try.params3] at hA hval
  obtain ⟨u0, vs0, d0, ds0, p0, q0, hargs, rfl, rfl, h0, r0⟩ := trodAll_cons hA
  obtain ⟨rfl, rfl, rfl⟩ := trodAll_nil r0
  obtain rfl : args = #[u0] := by cases args; simp_all
  obtain ⟨rfl, rfl⟩ := trodVars_none hV
  have lt0 : ∀ x ∈ p0, x.block < W.heap.size := by obtain ⟨m, hm⟩ := h0; exact DataW.trod_lt m _ _ _ hm
  obtain ⟨n0, a0, s0, t0, w0⟩ := sees_ints Try.underlying22 Try.underlying5 (by kernel_rfl) (hval 0 22 u0 rfl rfl) h0
  clear hA0 hval0
  refine (walk u0 n0 a0 W s0 t0 w0).mono fun e W' ⟨he, bel⟩ => ?_
  subst he
  exact ⟨_, rfl, _, _, _, [], _, [], hW', trodAll_mk1 (shut_bool Try.underlying4 _), (trodAll_cons_mk (Below.trod laidOut (by kernel_rfl) (of_decide_eq_true (by kernel_rfl)) h0 bel lt0) trodAll_mk0), rfl, bel.frame _, fun h => by cases h⟩

theorem over : Rows.fnSplitJoinRow.holds Try.pinned (OpenSpec.ofChange Rows.fnSplitJoinSpec) :=
  OpenClaim.holds_of_wide 3 Try.f3 rfl rfl rfl rfl rfl rfl rfl ⟨rfl, rfl, rfl, rfl, rfl⟩ rfl rfl rfl rfl rfl (by kernel_rfl) Try.func3 (by kernel_rfl)
    (of_decide_eq_true (by kernel_rfl)) (by unfold Func.isWrapper; first | (rw [if_pos (by decide +kernel)]; kernel_rfl) | (rw [if_neg (by decide +kernel)]; exact ⟨rfl, rfl⟩))
    (fun os started H enc _ => lifted os started H enc)

/-- The statement. -/
theorem proved : Rows.FnSplitJoinSaid :=
  over
#print axioms proved
end Go.Proofs.Ytjebehekhjbijaa.fnSplitJoin
