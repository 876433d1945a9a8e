/-
  Contracts and plain facts that the laws' texts lean on. Conditions: as each states.
-/
import Derived.Test.YtnhhnffolmgceaaGreatPv42
import Derived.Test.YtnhhnffolmgceaaGreatPv37
import Derived.Test.YtnhhnffolmgceaaGreatPv10
import Derived.Test.YtnhhnffolmgceaaGreatPv13
import Derived.Test.YtnhhnffolmgceaaGreatPv31
import Derived.Test.YtnhhnffolmgceaaGreatPv25
import Derived.Test.YtnhhnffolmgceaaGreatPv39
import Derived.Deep.RegionHeld3
import Derived.Test.YtnhhnffolmgceaaGreatPv36
import Derived.Test.YtnhhnffolmgceaaGreatPv15
import Derived.Test.YtnhhnffolmgceaaGreatPv46
import Derived.Test.YtnhhnffolmgceaaGreatPv29
import Derived.Test.YtnhhnffolmgceaaGreatPv21

section
namespace Go.Proofs.YtnhhnffolmgceaaGreat.ChMeanRiseIC
open Go.RowKit SeesC IntsC ExactC OrdMath AllO ListsC Arr2C ChM ChQ UsedC MeanOC MeanOC OrdersIterC CollOC KnownC RiseM RiseIC
set_option linter.unusedVariables false

def tellMeanRise (zs : List Int) : Nat := (longest true zs).length

set_option maxRecDepth 100000 in
set_option maxHeartbeats 1000000 in
theorem sayMeanRise (m : Nat) (hm1 : 1 ≤ m) (hm7 : m ≤ 7) (W : World) : TellO 39 #[] m (allO m) tellMeanRise W := by
  intro zs hz X u hX hs
  have hord := ((mem_allO hm1 hm7).1 hz).1
  have hlen := ((mem_allO hm1 hm7).1 hz).2
  have CF := Go.Lib.hid (implRise zs _ true (show riseAns zs = (longest true zs, true) by unfold riseAns longAns; rw [if_pos (show isOrd zs = true from decide_eq_true hord)]) (by omega) X u m hs)
  have HH := Go.Lib.hid (And.intro hord hlen)
  obtain ⟨_, ad, cap, rfl, _, _⟩ := hs
  clear hord hlen hz hX
  go_enter Tryz.func39, Tryz.ntmps39
  go_wp2_with fail
  refine (CF.out).mono ?_
  rintro e w1 ⟨v1, rfl, ho, hb⟩
  have H1 := Go.Lib.hid hb
  obtain ⟨_, va, vc, rfl, _, _⟩ := Sees.owns ho
  clear hb CF ho
  go_wp2_with fail
  refine (knownL _ _ _ _ _).mono ?_
  rintro e _ ⟨rfl, rfl⟩
  go_wp2
  go_ret
  exact ⟨rfl, H1.out⟩

set_option maxRecDepth 100000 in
set_option maxHeartbeats 1000000 in
theorem implMeanRise (hbd : ∀ m, 1 ≤ m → m ≤ 6 → ∀ zs ∈ allO m, tellMeanRise zs ≤ 1000) (n : Int) (a b : Nat) (ok : Bool) (h : chAns n (fun m => meanL (allO m) tellMeanRise) = (a, b, ok)) (hw : (Lit.int .i64 n).wf = true) (W : World) :
    Calls Tryz.prog 10 #[.int .i64 n] W fun e w' => FracTo W e w' a b ok := by
  have hA0 := arr2_alloc W (.int .i64 0) (.int .i64 0)
  have hB0 : Below W.heap.size W (W.alloc (.cells #[.int .i64 0, .int .i64 0] 25)) := (Below.refl _ W).alloc (Nat.le_refl _) _
  have HA := Go.Lib.hid (And.intro hA0 hB0)
  have CD := Go.Lib.hid (drawnOrders_any n hw (W.alloc (.cells #[.int .i64 0, .int .i64 0] 25)))
  clear hA0 hB0
  go_enter Tryz.func10, Tryz.ntmps10
  go_wp2_with fail
  refine (CD.out).mono ?_
  rintro e w2 (⟨hno, ⟨a0, c, rfl⟩, hb⟩ | ⟨m, rfl, hm1, hm6, v, rfl, hL, hb⟩)
  · rw [ch_out hno] at h
    cases h
    have H2 := Go.Lib.hid (And.intro (arr2_call HA.out.1 hb) (HA.out.2.trans (hb.mono HA.out.2.size) : Below W.heap.size W w2))
    have CM := Go.Lib.hid (fun (a : Option Addr) (c : Nat) => meanO_none (.func (.func 39) #[] #[]) a c w2)
    clear hb hno CD
    go_wp2_with fail
    refine (CM.out _ _).mono ?_
    rintro e w5 ⟨rfl, hb5⟩
    have H5 := Go.Lib.hid (And.intro (arr2_call H2.out.1 hb5) (H2.out.2.trans (hb5.mono H2.out.2.size) : Below W.heap.size W w5))
    obtain ⟨m0, m1, e0, e1⟩ := arr2_cells H5.out.1
    obtain ⟨s1, s2, hNN⟩ := arr2_store H5.out.1 (.int .i64 0) (.int .i64 0)
    have HN := Go.Lib.hid (And.intro hNN (arr2_below (Nat.le_refl _) H5.out.2 (.int .i64 0) (.int .i64 0)))
    clear hNN hb5 CM
    go_wp2_with fail
    (try simp only [Exit.inBlock, Exit.then])
    refine bodyPost_ret (arr2_result2 rfl rfl HN.out.1) rfl ?_
    exact ⟨rfl, HN.out.2⟩
  · rw [ch_in (q := fun m => meanL (allO m) tellMeanRise) rfl hm1 hm6] at h
    cases h
    have H2 := Go.Lib.hid (And.intro hL (And.intro (arr2_call HA.out.1 hb) (HA.out.2.trans (hb.mono HA.out.2.size) : Below W.heap.size W w2)))
    have CM := Go.Lib.hid (meanO_any m (allO m) tellMeanRise (hbd m hm1 hm6) (allO m).length rfl (all_1k hm1 hm6).1 (all_1k hm1 hm6).2 39 #[] (enters_of Tryz.func39 (by kernel_rfl) rfl) w2 v H2.out.1.looks (sayMeanRise m hm1 (by omega) w2))
    obtain ⟨gs, _, g2, _⟩ := hL
    obtain ⟨_, va, vc, rfl, _, _⟩ := Sees.owns g2
    clear g2 hb CD
    obtain ⟨N, hN⟩ : ∃ N, ((allO m).map vals).length = N := ⟨_, rfl⟩
    rw [hN] at H2 CM ⊢
    clear hN
    go_wp2_with fail
    refine (CM.out).mono ?_
    rintro e w5 ⟨rfl, hb5⟩
    have H5 := Go.Lib.hid (And.intro (arr2_call H2.out.2.1 hb5) (H2.out.2.2.trans (hb5.mono H2.out.2.2.size) : Below W.heap.size W w5))
    obtain ⟨x0, hx0⟩ : ∃ x, (meanL (allO m) tellMeanRise).1 = x := ⟨_, rfl⟩
    obtain ⟨x1, hx1⟩ : ∃ x, (meanL (allO m) tellMeanRise).2 = x := ⟨_, rfl⟩
    rw [hx0, hx1]
    have HM := Go.Lib.hid (And.intro hx0 hx1)
    obtain ⟨m0, m1, e0, e1⟩ := arr2_cells H5.out.1
    obtain ⟨s1, s2, hNN⟩ := arr2_store H5.out.1 (.int .i64 (x0 : Int)) (.int .i64 (x1 : Int))
    have HN := Go.Lib.hid (And.intro hNN (arr2_below (Nat.le_refl _) H5.out.2 (.int .i64 (x0 : Int)) (.int .i64 (x1 : Int))))
    clear hNN hb5 CM hx0 hx1
    go_wp2_with fail
    (try simp only [Exit.inBlock, Exit.then])
    refine bodyPost_ret (arr2_result2 rfl rfl HN.out.1) rfl ?_
    first | exact ⟨rfl, HN.out.2⟩ | (rw [HM.out.1, HM.out.2]; exact ⟨rfl, HN.out.2⟩)

end Go.Proofs.YtnhhnffolmgceaaGreat.ChMeanRiseIC

end

section
namespace Go.Proofs.YtnhhnffolmgceaaGreat.ChMeanRiseSC
open Go.RowKit SeesC IntsC ExactC OrdMath AllO ListsC ListsEC Arr2C ChM ChQ CutFC L9C OrdsSpC ChMeanRiseIC RowsM RowsSC RowsIC RagResC RiseEq LLC
set_option linter.unusedVariables false

set_option maxRecDepth 100000 in
set_option maxHeartbeats 4000000 in
theorem specMeanRise (hbd : ∀ m, 1 ≤ m → m ≤ 6 → ∀ zs ∈ allO m, tellMeanRise zs ≤ 1000) (n : Int) (a b : Nat) (ok : Bool) (h : chAns n (fun m => meanL (allO m) tellMeanRise) = (a, b, ok)) (hw : (Lit.int .i64 n).wf = true) (W : World) :
    Calls Tryz.prog 11 #[.int .i64 n] W fun e w' => FracTo W e w' a b ok := by
  have hA0 := arr2_alloc W (.int .i64 0) (.int .i64 0)
  have hB0 : Below W.heap.size W (W.alloc (.cells #[.int .i64 0, .int .i64 0] 25)) := (Below.refl _ W).alloc (Nat.le_refl _) _
  have HA := Go.Lib.hid (And.intro hA0 hB0)
  clear hA0 hB0
  obtain ⟨r, hr⟩ : ∃ r, decide (1 ≤ n ∧ n ≤ 6) = r := ⟨_, rfl⟩
  have CZ := Go.Lib.hid (fun (X : World) => l9Size_any n X r hr)
  have HR := Go.Lib.hid hr
  clear hr
  obtain ⟨W1, hW1⟩ : ∃ W1, W.alloc (.cells #[.int .i64 0, .int .i64 0] 25) = W1 := ⟨_, rfl⟩
  cases r with
  | false =>
    rw [ch_out (of_decide_eq_false HR.out)] at h
    cases h
    go_enter Tryz.func11, Tryz.ntmps11
    go_wp2_with fail
    rw [hW1] at HA
    refine (CZ.out _).mono ?_
    rintro e _ ⟨rfl, rfl⟩
    obtain ⟨m0, m1, e0, e1⟩ := arr2_cells HA.out.1
    obtain ⟨s1, s2, hNN⟩ := arr2_store HA.out.1 (.int .i64 0) (.int .i64 0)
    have HN := Go.Lib.hid (And.intro hNN (arr2_below (Nat.le_refl _) HA.out.2 (.int .i64 0) (.int .i64 0)))
    clear hNN
    go_wp2_with fail
    (try simp only [Exit.inBlock, Exit.then])
    refine bodyPost_ret (arr2_result2 rfl rfl HN.out.1) rfl ?_
    exact ⟨rfl, HN.out.2⟩
  | true =>
    have h16 := of_decide_eq_true HR.out
    obtain ⟨m, rfl⟩ : ∃ m : Nat, n = (m : Int) := ⟨n.toNat, by omega⟩
    have hm1 : 1 ≤ m := by omega
    have hm6 : m ≤ 6 := by omega
    have hm7 : m ≤ 7 := by omega
    rw [ch_in (q := fun m => meanL (allO m) tellMeanRise) rfl hm1 hm6] at h
    have HH := Go.Lib.hid h
    have CO := Go.Lib.hid (fun (X : World) => l2Orders_any m hm1 hm7 X)
    obtain ⟨F, hF⟩ : ∃ F, (allO m).length = F := ⟨_, rfl⟩
    have hFF := all_1k hm1 hm6
    rw [hF] at hFF
    have hF1 := hFF.1
    have hF5 := hFF.2
    have HF := Go.Lib.hid hF
    clear hF hFF h h16 HR
    go_enter Tryz.func11, Tryz.ntmps11
    go_wp2_with fail
    rw [hW1] at HA
    refine (CZ.out _).mono ?_
    rintro e _ ⟨rfl, rfl⟩
    go_wp2_with fail
    refine (CO.out _).mono ?_
    rintro e w2 ⟨v2, rfl, hl2, hb2⟩
    obtain ⟨gs, hg, hog, hin, _, _⟩ := hl2
    rw [List.length_map, HF.out] at hg hog hin
    obtain ⟨g, c, rfl⟩ := own_pos hog (by omega)
    have H2 := Go.Lib.hid (And.intro hg (And.intro hog (And.intro hin (And.intro (arr2_call HA.out.1 hb2) (HA.out.2.trans (hb2.mono HA.out.2.size) : Below W.heap.size W w2)))))
    clear hg hog hin hb2 CO CZ hW1
    go_wp2_with fail
    go_loopw [4, 6] (fun mv iv wr => ∃ (i t : Nat), i ≤ F ∧ iv = .int .i64 i ∧ mv = .int .i64 t ∧ Hid (t = sumT tellMeanRise ((allO m).take i) ∧ Below w2.heap.size w2 wr)) (fun _ i _ => F - (intOf i).toNat)
    case atStart => exact ⟨0, 0, Nat.zero_le _, rfl, rfl, Go.Lib.hid ⟨rfl, Below.refl _ _⟩⟩
    case round =>
      obtain ⟨i, t, hiF, rfl, rfl, HX⟩ := hrel
      have hle := sumT_le (tell := tellMeanRise) (b := 1000) (L := (allO m).take i) (fun x hx => (hbd m hm1 hm6) x (List.mem_of_mem_take hx))
      rw [List.length_take, HF.out, Nat.min_eq_left hiF, ← HX.out.1] at hle
      by_cases hlt : i < F
      · obtain ⟨p, hp⟩ : ∃ p, gs.getD i (0, 0) = p := ⟨_, rfl⟩
        have hiL : i < (allO m).length := by rw [HF.out]; exact hlt
        obtain ⟨zs, hzi⟩ : ∃ zs, (allO m)[i]? = some zs := ⟨_, List.getElem?_eq_getElem hiL⟩
        have hmem : zs ∈ allO m := List.mem_of_getElem? hzi
        have hord := (mem_allO hm1 hm7).1 hmem
        have hrow := H2.out.2.2.1 i hlt
        have hgd : ((allO m).map vals).getD i [] = vals zs := by simp [hzi]
        rw [hp, hgd] at hrow
        have hck : w2.cell? ⟨g, i, none⟩ = some (.slice (some ⟨p.1, 0, none⟩) m p.2) := by
          rw [H2.out.2.1.cellAt i (by omega), ← hp]
          simp [show i < gs.length by have := H2.out.1; omega, sl]
        have hgl := (H2.out.2.1.lt g rfl).2
        have hckr := (HX.out.2.cell (p := ⟨g, i, none⟩) hgl).trans hck
        obtain ⟨p1, p2⟩ := p
        unfold sl at hrow
        simp only at hckr hrow
        have hsee := Sees.owns (kept_call hrow HX.out.2)
        have CQ := Go.Lib.hid (l5Rows_any zs hord.1 wr _ m hsee)
        obtain ⟨R, hR⟩ : ∃ R, tellMeanRise zs = R := ⟨_, rfl⟩
        have HN : Hid (sumT tellMeanRise ((allO m).take (i + 1)) = t + R) := Go.Lib.hid (by rw [sumT_take hzi, HX.out.1, hR])
        have HRR := Go.Lib.hid (And.intro hR hord)
        obtain ⟨PP, hPP⟩ : ∃ P, (pq zs m).1 = P := ⟨_, rfl⟩
        have hrs := rise_eq hm1 hm6 hmem
        rw [hPP] at CQ hrs
        have hPR : (PP.getD 0 []).length = R := by rw [← hrs.1]; exact hR
        have hP1 := hrs.2
        clear hrs hPP
        have hlti : (i : Int) < (F : Int) := by omega
        have hR1 : R ≤ 1000 := by rw [← hR]; exact hbd m hm1 hm6 zs hmem
        clear hp hzi hmem hord hrow hgd hck hgl hsee hiL
        go_wp2_with fail
        refine (CQ.out).mono ?_
        rintro e w4 ⟨a4, c4, a5, c5, rfl, hr4, _, hb4⟩
        have HB4 := Go.Lib.hid (HX.out.2.trans (hb4.mono HX.out.2.size))
        obtain ⟨gs4, hg4, ho4, hi4, _⟩ := hr4
        obtain ⟨g4, rfl⟩ : ∃ g4, a4 = some ⟨g4, 0, none⟩ := by
          obtain ⟨g4, c5, e⟩ := own_pos ho4 (by omega)
          cases e
          exact ⟨g4, rfl⟩
        have hc4 : w4.cell? ⟨g4, 0, none⟩ = some (.slice (some ⟨(gs4.getD 0 (0, 0)).1, 0, none⟩) R (gs4.getD 0 (0, 0)).2) := by
          rw [ho4.cellAt 0 (by omega), List.getElem?_map, List.getElem?_range (by omega)]
          show some (ListsC.sl (PP.getD 0 []).length _) = _
          rw [hPR]
          rfl
        obtain ⟨LP, hLP⟩ : ∃ LP, PP.length = LP := ⟨_, rfl⟩
        rw [hLP] at hP1 ⊢
        have hLPi : (0 : Int) < (LP : Int) := by omega
        clear ho4 hi4 hg4 hb4 CQ hLP
        go_wp2
        go_roundw
        case rel => exact ⟨i + 1, t + R, by omega, by go_num, by go_num, Go.Lib.hid ⟨HN.out.symm, HB4.out⟩⟩
        case measure => simp [intOf]; omega
      · obtain rfl : i = F := by omega
        have hall : t = sumT tellMeanRise (allO m) := by rw [HX.out.1, ← HF.out, sumT_all]
        have CL := Go.Lib.hid (fun (X : World) => l9Cut_any t i (by omega) hF1 (by omega) X)
        obtain ⟨x0, hx0⟩ : ∃ x, (cutF t i).1 = x := ⟨_, rfl⟩
        obtain ⟨x1, hx1⟩ : ∃ x, (cutF t i).2 = x := ⟨_, rfl⟩
        have HM : Hid (x0 = a ∧ x1 = b ∧ true = ok) := Go.Lib.hid (by
          have h := HH.out
          unfold meanL at h
          rw [← hall, HF.out, hx0, hx1] at h
          cases h
          exact ⟨rfl, rfl, rfl⟩)
        rw [hx0, hx1] at CL
        have HXA := Go.Lib.hid (And.intro (arr2_call H2.out.2.2.2.1 HX.out.2) (H2.out.2.2.2.2.trans (HX.out.2.mono H2.out.2.2.2.2.size) : Below W.heap.size W wr))
        clear hx0 hx1 hall hle
        go_wp2_with fail
        refine (CL.out _).mono ?_
        rintro e w5 ⟨rfl, hb5⟩
        have H5 := Go.Lib.hid (And.intro (arr2_call HXA.out.1 hb5) (HXA.out.2.trans (hb5.mono HXA.out.2.size) : Below W.heap.size W w5))
        obtain ⟨m0, m1, e0, e1⟩ := arr2_cells H5.out.1
        obtain ⟨s1, s2, hNN⟩ := arr2_store H5.out.1 (.int .i64 (x0 : Int)) (.int .i64 (x1 : Int))
        have HN := Go.Lib.hid (And.intro hNN (arr2_below (Nat.le_refl _) H5.out.2 (.int .i64 (x0 : Int)) (.int .i64 (x1 : Int))))
        clear hNN hb5 CL
        go_wp2_with fail
        (try simp only [Exit.inBlock, Exit.then])
        refine bodyPost_ret (arr2_result2 rfl rfl HN.out.1) rfl ?_
        rw [← HM.out.1, ← HM.out.2.1, ← HM.out.2.2]
        exact ⟨rfl, HN.out.2⟩

end Go.Proofs.YtnhhnffolmgceaaGreat.ChMeanRiseSC

end

section
namespace Go.Proofs.YtnhhnffolmgceaaGreat.Ch9J
open OrdMath AllO ChM ChQ QueM ChChanceQueuesIC ChChanceSortsIC ChMeanRunsIC ChMeanRiseIC ChMeanInversionsIC ChChanceAvoidsIC
set_option linter.unusedVariables false

/-- How many orders of n numbers want q queues at least. -/
def cnts : Nat → List Nat
  | 1 => [0, 1]
  | 2 => [0, 1, 1]
  | 3 => [0, 1, 4, 1]
  | 4 => [0, 1, 13, 9, 1]
  | 5 => [0, 1, 41, 61, 16, 1]
  | 6 => [0, 1, 131, 381, 181, 25, 1]
  | _ => []

theorem queue_kernel : ∀ n < 7, 1 ≤ n → (List.range 7).all (fun q => ((allO n).filter (fun zs => Nat.beq (toldChanceQueues zs) q)).length == (cnts n).getD q 0) = true := by decide +kernel
theorem runs_kernel : ∀ n < 7, 1 ≤ n → (2 * sumT tellMeanRuns (allO n) == (n + 1) * (allO n).length) = true := by decide +kernel
theorem inv_kernel : ∀ n < 7, 1 ≤ n → (4 * sumT tellMeanInversions (allO n) == n * (n - 1) * (allO n).length) = true := by decide +kernel
theorem sorts_kernel : ∀ n < 7, 1 ≤ n → (allO n).all (fun zs => tellChanceAvoids [[2, 3, 1]] zs == tellChanceSorts zs) = true := by decide +kernel
theorem rise_kernel : ∀ n < 7, 1 ≤ n → (sumT tellMeanRise (allO n) == ((List.range 7).map (fun q => q * (cnts n).getD q 0)).sum) = true := by decide +kernel
theorem len_kernel : ∀ n < 7, 1 ≤ n → ((allO n).length == ((List.range 7).map (fun q => (cnts n).getD q 0)).sum) = true := by decide +kernel

end Go.Proofs.YtnhhnffolmgceaaGreat.Ch9J

end

section
namespace Go.Proofs.YtnhhnffolmgceaaGreat.Ch9K
open OrdMath AllO ChM ChQ QueM VPlusC Ch9J ChChanceQueuesIC ChChanceSortsIC ChMeanRunsIC ChMeanRiseIC ChMeanInversionsIC ChChanceAvoidsIC
set_option linter.unusedVariables false

def fct (n : Nat) : Nat := ((List.range 7).map (fun q => (cnts n).getD q 0)).sum
def rsum (n : Nat) : Nat := ((List.range 7).map (fun q => q * (cnts n).getD q 0)).sum
def part (n q : Nat) : Nat × Nat := cutF ((cnts n).getD q 0) (fct n)
/-- The chances of 1 to q queues together. -/
def sumTo (n : Nat) : Nat → Nat × Nat
  | 0 => (0, 1)
  | q + 1 => plusF (sumTo n q).1 (sumTo n q).2 (part n (q + 1)).1 (part n (q + 1)).2
/-- The mean so far. -/
def meanTo (n : Nat) : Nat → Nat × Nat
  | 0 => (0, 1)
  | q + 1 => plusF (meanTo n q).1 (meanTo n q).2 ((q + 1) * (part n (q + 1)).1) (part n (q + 1)).2

def small (p : Nat × Nat) : Bool := Nat.ble p.1 1048576 && Nat.ble 1 p.2 && Nat.ble p.2 1048576
def good (n : Nat) : Bool := (sumTo n 6 == (1, 1)) && (meanTo n 6 == cutF (rsum n) (fct n)) && (List.range 7).all (fun q => small (sumTo n q) && small (meanTo n q) && small (part n q) && small (q * (part n q).1, (part n q).2)) && Nat.ble (rsum n) (n * fct n)
theorem good_kernel : ∀ n < 7, 1 ≤ n → good n = true := by decide +kernel

theorem small_of {p : Nat × Nat} (h : small p = true) : p.1 ≤ 1048576 ∧ 1 ≤ p.2 ∧ p.2 ≤ 1048576 := by
  unfold small at h
  rw [Bool.and_eq_true, Bool.and_eq_true] at h
  exact ⟨Nat.le_of_ble_eq_true h.1.1, Nat.le_of_ble_eq_true h.1.2, Nat.le_of_ble_eq_true h.2⟩

/-- The sums are small, 1 together, and the mean is that of the longest rises. -/
theorem good_of {n : Nat} (h1 : 1 ≤ n) (h6 : n ≤ 6) : sumTo n 6 = (1, 1) ∧ meanTo n 6 = cutF (rsum n) (fct n) ∧ (∀ q, q ≤ 6 → small (sumTo n q) = true ∧ small (meanTo n q) = true ∧ small (part n q) = true ∧ small (q * (part n q).1, (part n q).2) = true) ∧ rsum n ≤ n * fct n := by
  have h := good_kernel n (by omega) h1
  unfold good at h
  rw [Bool.and_eq_true, Bool.and_eq_true, Bool.and_eq_true] at h
  refine ⟨eq_of_beq h.1.1.1, eq_of_beq h.1.1.2, fun q hq => ?_, Nat.le_of_ble_eq_true h.2⟩
  have h2 := List.all_eq_true.1 h.1.2 q (List.mem_range.2 (by omega))
  rw [Bool.and_eq_true, Bool.and_eq_true, Bool.and_eq_true] at h2
  exact ⟨h2.1.1.1, h2.1.1.2, h2.1.2, h2.2⟩

theorem small_pats {L : List (List Int)} (hN : L.length ≤ 5) (h8 : ∀ l ∈ L, l.length ≤ 8) : L.length + LLC.tot L ≤ 1048576 := by
  have h : ∀ M : List (List Int), (∀ l ∈ M, l.length ≤ 8) → LLC.tot M ≤ 8 * M.length := by
    intro M
    induction M with
    | nil => intro _; simp [LLC.tot]
    | cons l M ih =>
      intro h
      have h1 := h l (by simp)
      have h2 := ih (fun x hx => h x (by simp [hx]))
      show l.length + LLC.tot M ≤ 8 * (M.length + 1)
      omega
  have h2 := h L h8
  omega

theorem len_fct {n : Nat} (h1 : 1 ≤ n) (h6 : n ≤ 6) : (allO n).length = fct n := eq_of_beq (len_kernel n (by omega) h1)

theorem ch_in {n : Nat} (h1 : 1 ≤ n) (h6 : n ≤ 6) (q : Nat → Nat × Nat) : chAns (n : Int) q = ((q n).1, (q n).2, true) := by
  unfold chAns
  rw [if_pos (by omega), Int.toNat_natCast]

theorem queues_part {n q : Nat} (h1 : 1 ≤ n) (h6 : n ≤ 6) (hq1 : 1 ≤ q) (hq6 : q ≤ 6) : ansChanceQueues (n : Int) (q : Int) = ((part n q).1, (part n q).2, true) := by
  unfold ansChanceQueues
  rw [if_pos (by omega), ch_in h1 h6]
  have h := List.all_eq_true.1 (queue_kernel n (by omega) h1) q (List.mem_range.2 (by omega))
  have e : meanL (allO n) (isT (tellChanceQueues (q : Int))) = part n q := by
    unfold meanL part
    rw [sumT_isT, len_fct h1 h6, ← eq_of_beq h]
    congr 2
    refine List.filter_congr (fun zs _ => ?_)
    unfold tellChanceQueues
    rw [Bool.eq_iff_iff, beq_iff_eq, Nat.beq_eq]
    omega
  rw [e]

/-- Both sides of an equation of fractions without their common divisor. -/
theorem cut_scale {S L x y : Nat} (hL : 1 ≤ L) (h : x * S = y * L) : x * (cutF S L).1 = y * (cutF S L).2 := by
  have hg : 1 ≤ Nat.gcd S L := Nat.gcd_pos_of_pos_right S hL
  obtain ⟨a, ha⟩ := Nat.gcd_dvd_left S L
  obtain ⟨b, hb⟩ := Nat.gcd_dvd_right S L
  have e1 : S / Nat.gcd S L = a := Nat.div_eq_of_eq_mul_right hg ha
  have e2 : L / Nat.gcd S L = b := Nat.div_eq_of_eq_mul_right hg hb
  unfold cutF
  rw [e1, e2]
  have h2 : Nat.gcd S L * (x * a) = Nat.gcd S L * (y * b) := by
    rw [Nat.mul_left_comm, ← ha, Nat.mul_left_comm, ← hb]
    exact h
  exact Nat.eq_of_mul_eq_mul_left hg h2

theorem cut_scale_le {S L y : Nat} (hL : 1 ≤ L) (h : S ≤ y * L) : (cutF S L).1 ≤ y * (cutF S L).2 := by
  have hg : 1 ≤ Nat.gcd S L := Nat.gcd_pos_of_pos_right S hL
  obtain ⟨a, ha⟩ := Nat.gcd_dvd_left S L
  obtain ⟨b, hb⟩ := Nat.gcd_dvd_right S L
  have e1 : S / Nat.gcd S L = a := Nat.div_eq_of_eq_mul_right hg ha
  have e2 : L / Nat.gcd S L = b := Nat.div_eq_of_eq_mul_right hg hb
  unfold cutF
  rw [e1, e2]
  have h2 : Nat.gcd S L * a ≤ Nat.gcd S L * (y * b) := by
    rw [← ha, Nat.mul_left_comm, ← hb]
    exact h
  exact Nat.le_of_mul_le_mul_left h2 hg

theorem cut_cross (S L : Nat) (hL : 1 ≤ L) : S * (cutF S L).2 = (cutF S L).1 * L := by
  have hg : 1 ≤ Nat.gcd S L := Nat.gcd_pos_of_pos_right S hL
  obtain ⟨a, ha⟩ := Nat.gcd_dvd_left S L
  obtain ⟨b, hb⟩ := Nat.gcd_dvd_right S L
  have e1 : S / Nat.gcd S L = a := Nat.div_eq_of_eq_mul_right hg ha
  have e2 : L / Nat.gcd S L = b := Nat.div_eq_of_eq_mul_right hg hb
  unfold cutF
  rw [e1, e2]
  calc S * b = Nat.gcd S L * a * b := by rw [← ha]
    _ = a * (Nat.gcd S L * b) := by rw [Nat.mul_assoc, Nat.mul_left_comm]
    _ = a * L := by rw [← hb]

theorem fct_pos {n : Nat} (h1 : 1 ≤ n) (h6 : n ≤ 6) : 1 ≤ fct n := by
  rcases (show n = 1 ∨ n = 2 ∨ n = 3 ∨ n = 4 ∨ n = 5 ∨ n = 6 by omega) with rfl | rfl | rfl | rfl | rfl | rfl <;> decide

/-- What the law says of means of 1 to n. -/
theorem means {n : Nat} (h1 : 1 ≤ n) (h6 : n ≤ 6) :
    2 * (meanL (allO n) tellMeanRuns).1 = (n + 1) * (meanL (allO n) tellMeanRuns).2 ∧ 4 * (meanL (allO n) tellMeanInversions).1 = n * (n - 1) * (meanL (allO n) tellMeanInversions).2 ∧
      meanL (allO n) tellMeanRise = meanTo n 6 ∧ (meanL (allO n) tellMeanRise).1 ≤ n * (meanL (allO n) tellMeanRise).2 := by
  have hL : 1 ≤ (allO n).length := by rw [len_fct h1 h6]; exact fct_pos h1 h6
  have g := good_of h1 h6
  have er : sumT tellMeanRise (allO n) = rsum n := eq_of_beq (rise_kernel n (by omega) h1)
  refine ⟨cut_scale hL (eq_of_beq (runs_kernel n (by omega) h1)), cut_scale hL (eq_of_beq (inv_kernel n (by omega) h1)), ?_, cut_scale_le hL ?_⟩
  · rw [g.2.1]
    unfold meanL
    rw [er, len_fct h1 h6]
  · rw [er, len_fct h1 h6]
    exact g.2.2.2

theorem own_sorts {n : Nat} (h1 : 1 ≤ n) (h6 : n ≤ 6) : meanL (allO n) (isT (tellChanceAvoids [[2, 3, 1]])) = meanL (allO n) (isT tellChanceSorts) := by
  unfold meanL
  rw [sumT_isT, sumT_isT]
  congr 2
  refine List.filter_congr (fun zs hz => ?_)
  exact eq_of_beq (List.all_eq_true.1 (sorts_kernel n (by omega) h1) zs hz)

end Go.Proofs.YtnhhnffolmgceaaGreat.Ch9K

end

section
namespace Go.Proofs.YtnhhnffolmgceaaGreat.Ch9L
open Go.RowKit SeesC IntsC ExactC OrdMath AllO ChM ChQ QueM Arr2C LLC VPlusC Ch9J Ch9K ChChanceQueuesIC ChChanceSortsIC ChMeanRunsIC ChMeanRiseIC ChMeanInversionsIC ChChanceAvoidsIC DrawOrdC
set_option linter.unusedVariables false

theorem fct_le {n : Nat} (h1 : 1 ≤ n) (h6 : n ≤ 6) : fct n ≤ 720 := by
  rcases (show n = 1 ∨ n = 2 ∨ n = 3 ∨ n = 4 ∨ n = 5 ∨ n = 6 by omega) with rfl | rfl | rfl | rfl | rfl | rfl <;> decide

theorem pats231 : AvoidC.pats [[2, 3, 1]] = true := by decide +kernel
theorem pats0 : AvoidC.pats [] = true := by decide +kernel

theorem ord_law {n : Nat} (h1 : 1 ≤ n) (h6 : n ≤ 6) {a1 b1 a2 b2 a3 b3 a4 b4 : Nat} (H1 : chAns (n : Int) (fun m => meanL (allO m) (isT tellChanceSorts)) = (a1, b1, true)) (H2 : chAns (n : Int) (fun m => meanL (allO m) tellMeanRuns) = (a2, b2, true))
    (H3 : chAns (n : Int) (fun m => meanL (allO m) tellMeanRise) = (a3, b3, true)) (H4 : chAns (n : Int) (fun m => meanL (allO m) tellMeanInversions) = (a4, b4, true)) :
    ansChanceAvoids (n : Int) [[2, 3, 1]] = (a1, b1, true) ∧ (2 * a2 = (n + 1) * b2 ∧ b2 ≤ 720) ∧ (4 * a4 = n * (n - 1) * b4 ∧ b4 ≤ 720) ∧ meanTo n 6 = (a3, b3) ∧ a3 ≤ n * b3 ∧ a3 ≤ 1048576 ∧ 1 ≤ b3 ∧ b3 ≤ 1048576 := by
  rw [ch_in h1 h6] at H1 H2 H3 H4
  have m := means h1 h6
  have hl := len_fct h1 h6
  have hf := fct_le h1 h6
  have hd : ∀ t, (meanL (allO n) t).2 ≤ 720 := fun t => Nat.le_trans (cutF_le _ _).2 (by omega)
  have g := (good_of h1 h6).2.2.1 6 (by omega)
  have s := small_of g.2.1
  have e1 : meanL (allO n) (isT tellChanceSorts) = (a1, b1) := by
    rw [Prod.mk.injEq, Prod.mk.injEq] at H1; exact Prod.ext H1.1 H1.2.1
  have e2 : meanL (allO n) tellMeanRuns = (a2, b2) := by
    rw [Prod.mk.injEq, Prod.mk.injEq] at H2; exact Prod.ext H2.1 H2.2.1
  have e3 : meanL (allO n) tellMeanRise = (a3, b3) := by
    rw [Prod.mk.injEq, Prod.mk.injEq] at H3; exact Prod.ext H3.1 H3.2.1
  have e4 : meanL (allO n) tellMeanInversions = (a4, b4) := by
    rw [Prod.mk.injEq, Prod.mk.injEq] at H4; exact Prod.ext H4.1 H4.2.1
  have d2 := hd tellMeanRuns
  have d4 := hd tellMeanInversions
  rw [e2] at m d2
  rw [e4] at m d4
  rw [e3] at m
  rw [← m.2.2.1] at s
  refine ⟨?_, ⟨m.1, d2⟩, ⟨m.2.1, d4⟩, m.2.2.1.symm, m.2.2.2, s.1, s.2.1, s.2.2⟩
  unfold ansChanceAvoids
  rw [if_pos pats231, ch_in h1 h6, own_sorts h1 h6, e1]

/-- A store into another array. -/
theorem arr2_other {w : World} {B g g' : Nat} {x y : Value} (h : Arr2 w B g x y) (hne : g ≠ g') (a b : Value) : Arr2 ((w.setCell ⟨g', 0, none⟩ a).setCell ⟨g', 1, none⟩ b) B g x y := by
  have h1 := ownsRow_setCell_other (a := ⟨g', 0, none⟩) h (by simp [Value.ownBlock]; exact hne) a
  exact ownsRow_setCell_other (a := ⟨g', 1, none⟩) h1 (by simp [Value.ownBlock]; exact hne) b

theorem two_alloc {W W' : World} {o o2 : Obj} (h : Below ((W.alloc o).alloc o2).heap.size ((W.alloc o).alloc o2) W') : Below W.heap.size W W' := by
  have h1 := (Below.refl W.heap.size W).alloc (Nat.le_refl _) o
  have h2 := h1.alloc h1.size o2
  exact h2.trans (h.mono h2.size)

theorem one_alloc {W W' : World} {o : Obj} (h : Below (W.alloc o).heap.size (W.alloc o) W') : Below W.heap.size W W' := by
  have h1 := (Below.refl W.heap.size W).alloc (Nat.le_refl _) o
  exact h1.trans (h.mono h1.size)

theorem lit0 (W : World) : SeesLL (W.alloc (.cells #[] 36)) (.slice (some ⟨W.heap.size, 0, none⟩) 0 0) [] := ⟨[], rfl, Sees.nil _ _ _, fun i hi => absurd hi (by simp)⟩

theorem lit231 (W : World) : SeesLL ((W.alloc (.cells #[.int .i64 2, .int .i64 3, .int .i64 1] 3)).alloc (.cells #[.slice (some ⟨W.heap.size, 0, none⟩) 3 3] 36)) (.slice (some ⟨W.heap.size + 1, 0, none⟩) 1 1) [[2, 3, 1]] := by
  have h1 := (Below.refl (W.alloc (.cells #[.int .i64 2, .int .i64 3, .int .i64 1] 3)).heap.size _).alloc (Nat.le_refl _) (.cells #[.slice (some ⟨W.heap.size, 0, none⟩) 3 3] 36)
  refine ⟨[.slice (some ⟨W.heap.size, 0, none⟩) 3 3], rfl, ⟨rfl, some ⟨W.heap.size + 1, 0, none⟩, 1, rfl, Nat.le_refl _, fun _ => ⟨W.heap.size + 1, 0, rfl, fun j u hu => ?_⟩⟩, fun i hi => ?_⟩
  · have hj : j = 0 := by
      have := (List.getElem?_eq_some_iff.1 hu).1
      simp at this
      omega
    subst hj
    have h2 := World.cell?_alloc_new (W.alloc (.cells #[.int .i64 2, .int .i64 3, .int .i64 1] 3)) #[.slice (some ⟨W.heap.size, 0, none⟩) 3 3] 36 0
    rw [World.size_alloc] at h2
    rw [h2]
    simpa using hu
  · have hi0 : i = 0 := by simp at hi; omega
    subst hi0
    refine ⟨rfl, some ⟨W.heap.size, 0, none⟩, 3, rfl, Nat.le_refl _, fun _ => ⟨W.heap.size, 0, rfl, fun j u hu => ?_⟩⟩
    have h3 := cell_ints W [2, 3, 1] 3
    have hj : j < 3 := by
      have := (List.getElem?_eq_some_iff.1 hu).1
      simpa [vals] using this
    refine (h1.cell (p := ⟨W.heap.size, 0 + j, none⟩) (by rw [World.size_alloc]; show W.heap.size < W.heap.size + 1; omega)).trans ?_
    rcases (show j = 0 ∨ j = 1 ∨ j = 2 by omega) with rfl | rfl | rfl
    · simp [vals] at hu; subst hu; exact h3 0 2 rfl
    · simp [vals] at hu; subst hu; exact h3 1 3 rfl
    · simp [vals] at hu; subst hu; exact h3 2 1 rfl

/-- CountAvoiding against ChanceAvoids. -/
theorem avoid_law {x : Int} {L : List (List Int)} {a b : Nat} (h : ansChanceAvoids x L = (a, b, true)) : ∃ (S N : Nat), AvMath.countAvAns x L = ((S : Int), true) ∧ AvMath.countAvAns x [] = ((N : Int), true) ∧ S * b = a * N ∧ S ≤ 720 ∧ N ≤ 720 ∧ a ≤ 720 ∧ b ≤ 720 := by
  unfold ansChanceAvoids at h
  split at h
  · rename_i hp
    unfold chAns at h
    split at h
    · rename_i hx
      obtain ⟨m, rfl, hm1, hm6⟩ : ∃ m : Nat, x = (m : Int) ∧ 1 ≤ m ∧ m ≤ 6 := ⟨x.toNat, by omega, by omega, by omega⟩
      rw [Int.toNat_natCast, Prod.mk.injEq, Prod.mk.injEq] at h
      have e : meanL (allO m) (isT (tellChanceAvoids L)) = (a, b) := Prod.ext h.1 h.2.1
      have hl := len_fct hm1 hm6
      have hf := fct_le hm1 hm6
      have hp1 := fct_pos hm1 hm6
      have hS : sumT (isT (tellChanceAvoids L)) (allO m) = (AvMath.avOrd m L).length := by rw [sumT_isT]; rfl
      have hN : AvMath.avOrd m [] = allO m := List.filter_eq_self.2 (fun y _ => by simp [AvoidC.avoids])
      have hSl : (AvMath.avOrd m L).length ≤ (allO m).length := List.length_filter_le _ _
      unfold meanL at e
      have c := cut_cross (sumT (isT (tellChanceAvoids L)) (allO m)) (allO m).length (by omega)
      have d := cutF_le (sumT (isT (tellChanceAvoids L)) (allO m)) (allO m).length
      rw [e] at c d
      rw [hS] at c d
      simp only at c d
      refine ⟨(AvMath.avOrd m L).length, (allO m).length, ?_, ?_, c, by omega, by omega, by omega, by omega⟩
      · unfold AvMath.countAvAns
        rw [if_pos ⟨by omega, by omega, hp⟩, Int.toNat_natCast]
      · unfold AvMath.countAvAns
        rw [if_pos ⟨by omega, by omega, pats0⟩, Int.toNat_natCast, hN]
    · cases h
  · cases h

end Go.Proofs.YtnhhnffolmgceaaGreat.Ch9L

end
