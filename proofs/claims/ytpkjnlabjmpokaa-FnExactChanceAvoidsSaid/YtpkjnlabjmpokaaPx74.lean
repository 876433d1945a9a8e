/-
  Contracts and plain facts that the laws' texts lean on. Conditions: as each states.
-/
import Derived.Test.YtpkjnlabjmpokaaPx63
import Derived.Test.YtpkjnlabjmpokaaPx56
import Derived.Test.YtpkjnlabjmpokaaPx12
import Derived.Test.YtpkjnlabjmpokaaPx18
import Derived.Test.YtpkjnlabjmpokaaPx48
import Derived.Test.YtpkjnlabjmpokaaPx58
import Derived.Test.YtpkjnlabjmpokaaPx36
import Derived.Test.YtpkjnlabjmpokaaPx55

namespace Go.Proofs.Ytpkjnlabjmpokaa.ChChanceAvoidsIC
open Go.RowKit SeesC IntsC ExactC OrdMath AllO PatMath LLC AvoidC ListsC Arr2C ChM ChQ UsedC MeanOC ChanceOC OrdersIterC CollOC
set_option linter.unusedVariables false

def tellChanceAvoids (L : List (List Int)) (zs : List Int) : Bool := avoids zs L
def ansChanceAvoids (n : Int) (L : List (List Int)) : Nat × Nat × Bool := if pats L = true then chAns n (fun m => meanL (allO m) (isT (tellChanceAvoids L))) else (0, 0, false)

set_option maxRecDepth 100000 in
set_option maxHeartbeats 1000000 in
theorem sayChanceAvoids (L : List (List Int)) (m : Nat) (hm1 : 1 ≤ m) (hm7 : m ≤ 7) (hp : pats L = true) (W : World) (p : Value) (hu : SeesLL W p L) : SaysO 70 #[p] m (allO m) (tellChanceAvoids L) W := by
  intro zs hz X u hX hs
  have hord := ((mem_allO hm1 hm7).1 hz).1
  obtain ⟨R, hR⟩ : ∃ R, tellChanceAvoids L zs = R := ⟨_, rfl⟩
  have CF := Go.Lib.hid (implAvoids_any zs L R hord.2.2.2 hord.1 hord.2.1 hp hR X u p m hs (hu.grow hX))
  have HR := Go.Lib.hid hR
  obtain ⟨_, ad, cap, rfl, _, _⟩ := hs
  obtain ⟨a, c, rfl⟩ := hu.value
  clear hord hz hX hR hu
  go_enter Try.func70, Try.ntmps70
  go_wp2_with fail
  refine (CF.out).mono ?_
  rintro e w1 ⟨rfl, hb⟩
  have H1 := Go.Lib.hid hb
  clear hb CF
  go_wp2_with fail
  go_ret
  exact ⟨by rw [HR.out]; rfl, H1.out⟩

set_option maxRecDepth 100000 in
set_option maxHeartbeats 1000000 in
theorem implChanceAvoids (n : Int) (L : List (List Int)) (a b : Nat) (ok : Bool) (h : ansChanceAvoids n L = (a, b, ok)) (hw : (Lit.int .i64 n).wf = true) (hz2 : L.length + tot L ≤ 1048576) (W : World) (u : Value) (hu : SeesLL W u L) :
    Calls Try.prog 26 #[.int .i64 n, u] W fun e w' => FracTo W e w' a b ok := by
  have hA0 := arr2_alloc W (.int .i64 0) (.int .i64 0)
  have hB0 : Below W.heap.size W (W.alloc (.cells #[.int .i64 0, .int .i64 0] 23)) := (Below.refl _ W).alloc (Nat.le_refl _) _
  have HA := Go.Lib.hid (And.intro hA0 hB0)
  have CD := Go.Lib.hid (fun (X : World) => drawnOrders_any n hw X)
  clear hA0 hB0
  obtain ⟨W1, hW1⟩ : ∃ W1, W.alloc (.cells #[.int .i64 0, .int .i64 0] 23) = W1 := ⟨_, rfl⟩
  unfold ansChanceAvoids at h
  rw [hW1] at HA
  obtain ⟨r, hr⟩ : ∃ r, pats L = r := ⟨_, rfl⟩
  have CP := Go.Lib.hid (fun (X : World) (hX : Below W.heap.size W X) => implPats_any L r X u (hu.grow hX) hz2 hr)
  have HU := Go.Lib.hid hu
  obtain ⟨ua, uc, rfl⟩ := hu.value
  obtain ⟨lu, hlu⟩ : ∃ l, L.length = l := ⟨_, rfl⟩
  rw [hlu] at CP HU ⊢
  clear hu hlu
  cases r with
  | true =>
    have hp := hr
    rw [if_pos hr] at h
    clear hr
    go_enter Try.func26, Try.ntmps26
    go_wp2_with fail
    refine (CP.out _ HA.out.2).mono ?_
    rintro e w0 ⟨rfl, hb0⟩
    have HA0 := Go.Lib.hid (And.intro (arr2_call HA.out.1 hb0) (HA.out.2.trans (hb0.mono HA.out.2.size) : Below W.heap.size W w0))
    clear hb0
    go_wp2_with fail
    refine (CD.out _).mono ?_
    rintro e w2 (⟨hno, ⟨a0, c, rfl⟩, hb⟩ | ⟨m, rfl, hm1, hm6, v, rfl, hL, hb⟩)
    · rw [ch_out hno] at h
      cases h
      have H2 := Go.Lib.hid (And.intro (arr2_call HA0.out.1 hb) (HA0.out.2.trans (hb.mono HA0.out.2.size) : Below W.heap.size W w2))
      have CM := Go.Lib.hid (fun (a : Option Addr) (c : Nat) => chanceO_none (.func 70) #[.slice ua lu uc] #[] a c w2)
      clear hb hno CD
      go_wp2_with fail
      refine (CM.out _ _).mono ?_
      rintro e w5 ⟨rfl, hb5⟩
      have H5 := Go.Lib.hid (And.intro (arr2_call H2.out.1 hb5) (H2.out.2.trans (hb5.mono H2.out.2.size) : Below W.heap.size W w5))
      obtain ⟨m0, m1, e0, e1⟩ := arr2_cells H5.out.1
      obtain ⟨s1, s2, hNN⟩ := arr2_store H5.out.1 (.int .i64 0) (.int .i64 0)
      have HN := Go.Lib.hid (And.intro hNN (arr2_below (Nat.le_refl _) H5.out.2 (.int .i64 0) (.int .i64 0)))
      clear hNN hb5 CM
      go_wp2_with fail
      (try simp only [Exit.inBlock, Exit.then])
      refine bodyPost_ret (arr2_result2 rfl rfl HN.out.1) rfl ?_
      exact ⟨rfl, HN.out.2⟩
    · rw [ch_in (q := fun m => meanL (allO m) (isT (tellChanceAvoids L))) rfl hm1 hm6] at h
      cases h
      have H2 := Go.Lib.hid (And.intro hL (And.intro (arr2_call HA0.out.1 hb) (HA0.out.2.trans (hb.mono HA0.out.2.size) : Below W.heap.size W w2)))
      have CM := Go.Lib.hid (chanceO_any m (allO m) (tellChanceAvoids L) (allO m).length rfl (all_1k hm1 hm6).1 (all_1k hm1 hm6).2 70 #[.slice ua lu uc] (enters_of Try.func70 (by kernel_rfl) rfl) w2 v H2.out.1.looks (sayChanceAvoids L m hm1 (by omega) hp w2 (.slice ua lu uc) (HU.out.grow H2.out.2.2)))
      obtain ⟨gs, _, g2, _⟩ := hL
      obtain ⟨_, va, vc, rfl, _, _⟩ := Sees.owns g2
      clear g2 hb CD
      obtain ⟨N, hN⟩ : ∃ N, ((allO m).map vals).length = N := ⟨_, rfl⟩
      rw [hN] at H2 CM ⊢
      clear hN
      go_wp2_with fail
      refine (CM.out).mono ?_
      rintro e w5 ⟨rfl, hb5⟩
      have H5 := Go.Lib.hid (And.intro (arr2_call H2.out.2.1 hb5) (H2.out.2.2.trans (hb5.mono H2.out.2.2.size) : Below W.heap.size W w5))
      obtain ⟨x0, hx0⟩ : ∃ x, (meanL (allO m) (isT (tellChanceAvoids L))).1 = x := ⟨_, rfl⟩
      obtain ⟨x1, hx1⟩ : ∃ x, (meanL (allO m) (isT (tellChanceAvoids L))).2 = x := ⟨_, rfl⟩
      rw [hx0, hx1]
      have HM := Go.Lib.hid (And.intro hx0 hx1)
      obtain ⟨m0, m1, e0, e1⟩ := arr2_cells H5.out.1
      obtain ⟨s1, s2, hNN⟩ := arr2_store H5.out.1 (.int .i64 (x0 : Int)) (.int .i64 (x1 : Int))
      have HN := Go.Lib.hid (And.intro hNN (arr2_below (Nat.le_refl _) H5.out.2 (.int .i64 (x0 : Int)) (.int .i64 (x1 : Int))))
      clear hNN hb5 CM hx0 hx1
      go_wp2_with fail
      (try simp only [Exit.inBlock, Exit.then])
      refine bodyPost_ret (arr2_result2 rfl rfl HN.out.1) rfl ?_
      first | exact ⟨rfl, HN.out.2⟩ | (rw [HM.out.1, HM.out.2]; exact ⟨rfl, HN.out.2⟩)
  | false =>
    rw [if_neg (by rw [hr]; simp)] at h
    cases h
    clear hr
    go_enter Try.func26, Try.ntmps26
    go_wp2_with fail
    refine (CP.out _ HA.out.2).mono ?_
    rintro e w0 ⟨rfl, hb0⟩
    have HA0 := Go.Lib.hid (And.intro (arr2_call HA.out.1 hb0) (HA.out.2.trans (hb0.mono HA.out.2.size) : Below W.heap.size W w0))
    clear hb0
    obtain ⟨m0, m1, e0, e1⟩ := arr2_cells HA0.out.1
    obtain ⟨s1, s2, hNN⟩ := arr2_store HA0.out.1 (.int .i64 0) (.int .i64 0)
    have HN := Go.Lib.hid (And.intro hNN (arr2_below (Nat.le_refl _) HA0.out.2 (.int .i64 0) (.int .i64 0)))
    clear hNN
    go_wp2_with fail
    (try simp only [Exit.inBlock, Exit.then])
    refine bodyPost_ret (arr2_result2 rfl rfl HN.out.1) rfl ?_
    exact ⟨rfl, HN.out.2⟩

end Go.Proofs.Ytpkjnlabjmpokaa.ChChanceAvoidsIC

namespace Go.Proofs.Ytpkjnlabjmpokaa.ChChanceAvoidsSC
open Go.RowKit SeesC IntsC ExactC OrdMath AllO PatMath LLC AvoidC AvMath ListsC Arr2C ChM ChQ CutFC L9C OrdsSpC SpecAvC ChChanceAvoidsIC
set_option linter.unusedVariables false

set_option maxRecDepth 100000 in
set_option maxHeartbeats 1000000 in
theorem specChanceAvoids (n : Int) (L : List (List Int)) (a b : Nat) (ok : Bool) (h : ansChanceAvoids n L = (a, b, ok)) (hw : (Lit.int .i64 n).wf = true) (hz2 : L.length + tot L ≤ 1048576) (W : World) (u : Value) (hu : SeesLL W u L) :
    Calls Try.prog 24 #[.int .i64 n, u] W fun e w' => FracTo W e w' a b ok := by
  have hA0 := arr2_alloc W (.int .i64 0) (.int .i64 0)
  have hB0 : Below W.heap.size W (W.alloc (.cells #[.int .i64 0, .int .i64 0] 23)) := (Below.refl _ W).alloc (Nat.le_refl _) _
  have HA := Go.Lib.hid (And.intro hA0 hB0)
  clear hA0 hB0
  obtain ⟨W1, hW1⟩ : ∃ W1, W.alloc (.cells #[.int .i64 0, .int .i64 0] 23) = W1 := ⟨_, rfl⟩
  rw [hW1] at HA
  obtain ⟨r, hr⟩ : ∃ r, pats L = r := ⟨_, rfl⟩
  obtain ⟨r1, hr1⟩ : ∃ r, decide (1 ≤ n ∧ n ≤ 6) = r := ⟨_, rfl⟩
  have CZ := Go.Lib.hid (fun (X : World) => l9Size_any n X r1 hr1)
  have CP := Go.Lib.hid (fun (X : World) (hX : Below W.heap.size W X) => specPats_any L r X u (hu.grow hX) hz2 hr)
  have HU := Go.Lib.hid hu
  obtain ⟨ua, uc, rfl⟩ := hu.value
  obtain ⟨lu, hlu⟩ : ∃ l, L.length = l := ⟨_, rfl⟩
  rw [hlu] at CP HU ⊢
  clear hu hlu
  cases r1 with
  | false =>
    have h2 : ansChanceAvoids n L = (0, 0, false) := by
      unfold ansChanceAvoids
      split
      · exact ch_out (of_decide_eq_false hr1)
      · rfl
    rw [h2] at h
    cases h
    clear h2 hr hr1
    go_enter Try.func24, Try.ntmps24
    go_wp2_with fail
    refine (CZ.out _).mono ?_
    rintro e _ ⟨rfl, rfl⟩
    obtain ⟨m0, m1, e0, e1⟩ := arr2_cells HA.out.1
    obtain ⟨s1, s2, hNN⟩ := arr2_store HA.out.1 (.int .i64 0) (.int .i64 0)
    have HN := Go.Lib.hid (And.intro hNN (arr2_below (Nat.le_refl _) HA.out.2 (.int .i64 0) (.int .i64 0)))
    clear hNN
    go_wp2_with fail
    (try simp only [Exit.inBlock, Exit.then])
    refine bodyPost_ret (arr2_result2 rfl rfl HN.out.1) rfl ?_
    exact ⟨rfl, HN.out.2⟩
  | true =>
    cases r with
    | false =>
      have h2 : ansChanceAvoids n L = (0, 0, false) := by unfold ansChanceAvoids; rw [if_neg (by rw [hr]; simp)]
      rw [h2] at h
      cases h
      clear h2 hr hr1
      go_enter Try.func24, Try.ntmps24
      go_wp2_with fail
      refine (CZ.out _).mono ?_
      rintro e _ ⟨rfl, rfl⟩
      go_wp2_with fail
      refine (CP.out _ HA.out.2).mono ?_
      rintro e w0 ⟨rfl, hb0⟩
      have HA0 := Go.Lib.hid (And.intro (arr2_call HA.out.1 hb0) (HA.out.2.trans (hb0.mono HA.out.2.size) : Below W.heap.size W w0))
      clear hb0
      obtain ⟨m0, m1, e0, e1⟩ := arr2_cells HA0.out.1
      obtain ⟨s1, s2, hNN⟩ := arr2_store HA0.out.1 (.int .i64 0) (.int .i64 0)
      have HN := Go.Lib.hid (And.intro hNN (arr2_below (Nat.le_refl _) HA0.out.2 (.int .i64 0) (.int .i64 0)))
      clear hNN
      go_wp2_with fail
      (try simp only [Exit.inBlock, Exit.then])
      refine bodyPost_ret (arr2_result2 rfl rfl HN.out.1) rfl ?_
      exact ⟨rfl, HN.out.2⟩
    | true =>
      have h16 := of_decide_eq_true hr1
      obtain ⟨m, rfl⟩ : ∃ m : Nat, n = (m : Int) := ⟨n.toNat, by omega⟩
      have hm1 : 1 ≤ m := by omega
      have hm6 : m ≤ 6 := by omega
      have hm7 : m ≤ 7 := by omega
      have h2 : ansChanceAvoids (m : Int) L = ((cutF (av L m).length (allO m).length).1, (cutF (av L m).length (allO m).length).2, true) := by
        unfold ansChanceAvoids
        rw [if_pos hr, ch_in (q := fun m => meanL (allO m) (isT (tellChanceAvoids L))) rfl hm1 hm6]
        unfold meanL
        rw [sumT_isT, av_count hm1 hm7]
        rfl
      rw [h2] at h
      have HH := Go.Lib.hid h
      obtain ⟨F, hF⟩ : ∃ F, (allO m).length = F := ⟨_, rfl⟩
      have hFF := all_1k hm1 hm6
      rw [hF] at hFF
      have hF1 := hFF.1
      have hF5 := hFF.2
      obtain ⟨A, hAv⟩ : ∃ A, (av L m).length = A := ⟨_, rfl⟩
      have hA5 : A ≤ 5040 := by rw [← hAv]; exact av_many hm7
      have HF := Go.Lib.hid (And.intro hF hAv)
      have CAv := Go.Lib.hid (fun (X : World) (hX : Below W.heap.size W X) => l3Avoiding_any m hm7 L hr X _ (HU.out.grow hX))
      have CO := Go.Lib.hid (fun (X : World) => l2Orders_any m hm1 hm7 X)
      have CL := Go.Lib.hid (fun (X : World) => l9Cut_any A F (by omega) hF1 (by omega) X)
      obtain ⟨x0, hx0⟩ : ∃ x, (cutF A F).1 = x := ⟨_, rfl⟩
      obtain ⟨x1, hx1⟩ : ∃ x, (cutF A F).2 = x := ⟨_, rfl⟩
      have HM : Hid (x0 = a ∧ x1 = b ∧ true = ok) := Go.Lib.hid (by
        have h := HH.out
        rw [hAv, hF, hx0, hx1] at h
        cases h
        exact ⟨rfl, rfl, rfl⟩)
      rw [hx0, hx1] at CL
      clear h h2 hr hr1 hF hAv hFF h16 hx0 hx1
      go_enter Try.func24, Try.ntmps24
      go_wp2_with fail
      refine (CZ.out _).mono ?_
      rintro e _ ⟨rfl, rfl⟩
      go_wp2_with fail
      refine (CP.out _ HA.out.2).mono ?_
      rintro e w0 ⟨rfl, hb0⟩
      have HA0 := Go.Lib.hid (And.intro (arr2_call HA.out.1 hb0) (HA.out.2.trans (hb0.mono HA.out.2.size) : Below W.heap.size W w0))
      clear hb0
      go_wp2_with fail
      refine (CAv.out _ HA0.out.2).mono ?_
      rintro e w2 ⟨v2, rfl, hl2, hb2⟩
      have HA2 := Go.Lib.hid (And.intro (arr2_call HA0.out.1 hb2) (HA0.out.2.trans (hb2.mono HA0.out.2.size) : Below W.heap.size W w2))
      obtain ⟨gs2, _, ho2, _⟩ := hl2
      rw [List.length_map, HF.out.2] at ho2
      obtain ⟨_, va, vc, rfl, _, _⟩ := Sees.owns ho2
      clear hb2 ho2
      go_wp2_with fail
      refine (CO.out _).mono ?_
      rintro e w3 ⟨v3, rfl, hl3, hb3⟩
      have HA3 := Go.Lib.hid (And.intro (arr2_call HA2.out.1 hb3) (HA2.out.2.trans (hb3.mono HA2.out.2.size) : Below W.heap.size W w3))
      obtain ⟨gs3, _, ho3, _⟩ := hl3
      rw [List.length_map, HF.out.1] at ho3
      obtain ⟨_, va3, vc3, rfl, _, _⟩ := Sees.owns ho3
      clear hb3 ho3
      go_wp2_with fail
      refine (CL.out _).mono ?_
      rintro e w5 ⟨rfl, hb5⟩
      have H5 := Go.Lib.hid (And.intro (arr2_call HA3.out.1 hb5) (HA3.out.2.trans (hb5.mono HA3.out.2.size) : Below W.heap.size W w5))
      obtain ⟨m0, m1, e0, e1⟩ := arr2_cells H5.out.1
      obtain ⟨s1, s2, hNN⟩ := arr2_store H5.out.1 (.int .i64 (x0 : Int)) (.int .i64 (x1 : Int))
      have HN := Go.Lib.hid (And.intro hNN (arr2_below (Nat.le_refl _) H5.out.2 (.int .i64 (x0 : Int)) (.int .i64 (x1 : Int))))
      clear hNN hb5 CL
      go_wp2_with fail
      (try simp only [Exit.inBlock, Exit.then])
      refine bodyPost_ret (arr2_result2 rfl rfl HN.out.1) rfl ?_
      rw [← HM.out.1, ← HM.out.2.1, ← HM.out.2.2]
      exact ⟨rfl, HN.out.2⟩

end Go.Proofs.Ytpkjnlabjmpokaa.ChChanceAvoidsSC
