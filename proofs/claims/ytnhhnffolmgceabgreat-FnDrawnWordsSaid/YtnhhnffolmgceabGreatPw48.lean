/-
  Contracts and plain facts that the laws' texts lean on. Conditions: as each states.
-/
import Derived.Test.YtnhhnffolmgceabGreatPw40
import Derived.Test.YtnhhnffolmgceabGreatPw35
import Derived.Test.YtnhhnffolmgceabGreatPw9
import Derived.Test.YtnhhnffolmgceabGreatPw22
import Derived.Test.YtnhhnffolmgceabGreatPw46
import Derived.Test.YtnhhnffolmgceabGreatPw18
import Derived.Test.YtnhhnffolmgceabGreatPw39
import Derived.Deep.RegionHeld3
import Derived.Test.YtnhhnffolmgceabGreatPw36

section
namespace Go.Proofs.YtnhhnffolmgceabGreat.ChMeanPassesIC
open Go.RowKit SeesC IntsC ExactC OrdMath AllO ListsC Arr2C ChM ChQ UsedC MeanOC MeanOC OrdersIterC CollOC KnownC PassM PassPC PassIC
set_option linter.unusedVariables false

def tellMeanPasses (zs : List Int) : Nat := passes 7 zs

set_option maxRecDepth 100000 in
set_option maxHeartbeats 1000000 in
theorem sayMeanPasses (m : Nat) (hm1 : 1 ≤ m) (hm7 : m ≤ 7) (W : World) : TellO 49 #[] m (allO m) tellMeanPasses W := by
  intro zs hz X u hX hs
  have hord := ((mem_allO hm1 hm7).1 hz).1
  have hlen := ((mem_allO hm1 hm7).1 hz).2
  have CF := Go.Lib.hid (implPasses zs _ true (show passesAns zs = (((passes 7 zs : Nat) : Int), true) by unfold passesAns; rw [if_pos hord]) (by omega) X u m hs)
  have HH := Go.Lib.hid (And.intro hord hlen)
  obtain ⟨_, ad, cap, rfl, _, _⟩ := hs
  clear hord hlen hz hX
  go_enter Tryz.func49, Tryz.ntmps49
  go_wp2_with fail
  refine (CF.out).mono ?_
  rintro e w1 ⟨rfl, hb⟩
  have H1 := Go.Lib.hid hb
  clear hb CF
  go_wp2_with fail
  refine (knownI _ _ _).mono ?_
  rintro e _ ⟨rfl, rfl⟩
  go_wp2
  go_ret
  exact ⟨rfl, H1.out⟩

set_option maxRecDepth 100000 in
set_option maxHeartbeats 1000000 in
theorem implMeanPasses (hbd : ∀ m, 1 ≤ m → m ≤ 6 → ∀ zs ∈ allO m, tellMeanPasses zs ≤ 1000) (n : Int) (a b : Nat) (ok : Bool) (h : chAns n (fun m => meanL (allO m) tellMeanPasses) = (a, b, ok)) (hw : (Lit.int .i64 n).wf = true) (W : World) :
    Calls Tryz.prog 16 #[.int .i64 n] W fun e w' => FracTo W e w' a b ok := by
  have hA0 := arr2_alloc W (.int .i64 0) (.int .i64 0)
  have hB0 : Below W.heap.size W (W.alloc (.cells #[.int .i64 0, .int .i64 0] 26)) := (Below.refl _ W).alloc (Nat.le_refl _) _
  have HA := Go.Lib.hid (And.intro hA0 hB0)
  have CD := Go.Lib.hid (drawnOrders_any n hw (W.alloc (.cells #[.int .i64 0, .int .i64 0] 26)))
  clear hA0 hB0
  go_enter Tryz.func16, Tryz.ntmps16
  go_wp2_with fail
  refine (CD.out).mono ?_
  rintro e w2 (⟨hno, ⟨a0, c, rfl⟩, hb⟩ | ⟨m, rfl, hm1, hm6, v, rfl, hL, hb⟩)
  · rw [ch_out hno] at h
    cases h
    have H2 := Go.Lib.hid (And.intro (arr2_call HA.out.1 hb) (HA.out.2.trans (hb.mono HA.out.2.size) : Below W.heap.size W w2))
    have CM := Go.Lib.hid (fun (a : Option Addr) (c : Nat) => meanO_none (.func (.func 49) #[] #[]) a c w2)
    clear hb hno CD
    go_wp2_with fail
    refine (CM.out _ _).mono ?_
    rintro e w5 ⟨rfl, hb5⟩
    have H5 := Go.Lib.hid (And.intro (arr2_call H2.out.1 hb5) (H2.out.2.trans (hb5.mono H2.out.2.size) : Below W.heap.size W w5))
    obtain ⟨m0, m1, e0, e1⟩ := arr2_cells H5.out.1
    obtain ⟨s1, s2, hNN⟩ := arr2_store H5.out.1 (.int .i64 0) (.int .i64 0)
    have HN := Go.Lib.hid (And.intro hNN (arr2_below (Nat.le_refl _) H5.out.2 (.int .i64 0) (.int .i64 0)))
    clear hNN hb5 CM
    go_wp2_with fail
    (try simp only [Exit.inBlock, Exit.then])
    refine bodyPost_ret (arr2_result2 rfl rfl HN.out.1) rfl ?_
    exact ⟨rfl, HN.out.2⟩
  · rw [ch_in (q := fun m => meanL (allO m) tellMeanPasses) rfl hm1 hm6] at h
    cases h
    have H2 := Go.Lib.hid (And.intro hL (And.intro (arr2_call HA.out.1 hb) (HA.out.2.trans (hb.mono HA.out.2.size) : Below W.heap.size W w2)))
    have CM := Go.Lib.hid (meanO_any m (allO m) tellMeanPasses (hbd m hm1 hm6) (allO m).length rfl (all_1k hm1 hm6).1 (all_1k hm1 hm6).2 49 #[] (enters_of Tryz.func49 (by kernel_rfl) rfl) w2 v H2.out.1.looks (sayMeanPasses m hm1 (by omega) w2))
    obtain ⟨gs, _, g2, _⟩ := hL
    obtain ⟨_, va, vc, rfl, _, _⟩ := Sees.owns g2
    clear g2 hb CD
    obtain ⟨N, hN⟩ : ∃ N, ((allO m).map vals).length = N := ⟨_, rfl⟩
    rw [hN] at H2 CM ⊢
    clear hN
    go_wp2_with fail
    refine (CM.out).mono ?_
    rintro e w5 ⟨rfl, hb5⟩
    have H5 := Go.Lib.hid (And.intro (arr2_call H2.out.2.1 hb5) (H2.out.2.2.trans (hb5.mono H2.out.2.2.size) : Below W.heap.size W w5))
    obtain ⟨x0, hx0⟩ : ∃ x, (meanL (allO m) tellMeanPasses).1 = x := ⟨_, rfl⟩
    obtain ⟨x1, hx1⟩ : ∃ x, (meanL (allO m) tellMeanPasses).2 = x := ⟨_, rfl⟩
    rw [hx0, hx1]
    have HM := Go.Lib.hid (And.intro hx0 hx1)
    obtain ⟨m0, m1, e0, e1⟩ := arr2_cells H5.out.1
    obtain ⟨s1, s2, hNN⟩ := arr2_store H5.out.1 (.int .i64 (x0 : Int)) (.int .i64 (x1 : Int))
    have HN := Go.Lib.hid (And.intro hNN (arr2_below (Nat.le_refl _) H5.out.2 (.int .i64 (x0 : Int)) (.int .i64 (x1 : Int))))
    clear hNN hb5 CM hx0 hx1
    go_wp2_with fail
    (try simp only [Exit.inBlock, Exit.then])
    refine bodyPost_ret (arr2_result2 rfl rfl HN.out.1) rfl ?_
    first | exact ⟨rfl, HN.out.2⟩ | (rw [HM.out.1, HM.out.2]; exact ⟨rfl, HN.out.2⟩)

end Go.Proofs.YtnhhnffolmgceabGreat.ChMeanPassesIC

end

section
namespace Go.Proofs.YtnhhnffolmgceabGreat.ChMeanPassesSC
open Go.RowKit SeesC IntsC ExactC OrdMath AllO ListsC ListsEC Arr2C ChM ChQ CutFC L9C OrdsSpC ChMeanPassesIC PassM PassPC
set_option linter.unusedVariables false

set_option maxRecDepth 100000 in
set_option maxHeartbeats 4000000 in
theorem specMeanPasses (hbd : ∀ m, 1 ≤ m → m ≤ 6 → ∀ zs ∈ allO m, tellMeanPasses zs ≤ 1000) (n : Int) (a b : Nat) (ok : Bool) (h : chAns n (fun m => meanL (allO m) tellMeanPasses) = (a, b, ok)) (hw : (Lit.int .i64 n).wf = true) (W : World) :
    Calls Tryz.prog 17 #[.int .i64 n] W fun e w' => FracTo W e w' a b ok := by
  have hA0 := arr2_alloc W (.int .i64 0) (.int .i64 0)
  have hB0 : Below W.heap.size W (W.alloc (.cells #[.int .i64 0, .int .i64 0] 26)) := (Below.refl _ W).alloc (Nat.le_refl _) _
  have HA := Go.Lib.hid (And.intro hA0 hB0)
  clear hA0 hB0
  obtain ⟨r, hr⟩ : ∃ r, decide (1 ≤ n ∧ n ≤ 6) = r := ⟨_, rfl⟩
  have CZ := Go.Lib.hid (fun (X : World) => l9Size_any n X r hr)
  have HR := Go.Lib.hid hr
  clear hr
  obtain ⟨W1, hW1⟩ : ∃ W1, W.alloc (.cells #[.int .i64 0, .int .i64 0] 26) = W1 := ⟨_, rfl⟩
  cases r with
  | false =>
    rw [ch_out (of_decide_eq_false HR.out)] at h
    cases h
    go_enter Tryz.func17, Tryz.ntmps17
    go_wp2_with fail
    rw [hW1] at HA
    refine (CZ.out _).mono ?_
    rintro e _ ⟨rfl, rfl⟩
    obtain ⟨m0, m1, e0, e1⟩ := arr2_cells HA.out.1
    obtain ⟨s1, s2, hNN⟩ := arr2_store HA.out.1 (.int .i64 0) (.int .i64 0)
    have HN := Go.Lib.hid (And.intro hNN (arr2_below (Nat.le_refl _) HA.out.2 (.int .i64 0) (.int .i64 0)))
    clear hNN
    go_wp2_with fail
    (try simp only [Exit.inBlock, Exit.then])
    refine bodyPost_ret (arr2_result2 rfl rfl HN.out.1) rfl ?_
    exact ⟨rfl, HN.out.2⟩
  | true =>
    have h16 := of_decide_eq_true HR.out
    obtain ⟨m, rfl⟩ : ∃ m : Nat, n = (m : Int) := ⟨n.toNat, by omega⟩
    have hm1 : 1 ≤ m := by omega
    have hm6 : m ≤ 6 := by omega
    have hm7 : m ≤ 7 := by omega
    rw [ch_in (q := fun m => meanL (allO m) tellMeanPasses) rfl hm1 hm6] at h
    have HH := Go.Lib.hid h
    have CO := Go.Lib.hid (fun (X : World) => l2Orders_any m hm1 hm7 X)
    obtain ⟨F, hF⟩ : ∃ F, (allO m).length = F := ⟨_, rfl⟩
    have hFF := all_1k hm1 hm6
    rw [hF] at hFF
    have hF1 := hFF.1
    have hF5 := hFF.2
    have HF := Go.Lib.hid hF
    clear hF hFF h h16 HR
    go_enter Tryz.func17, Tryz.ntmps17
    go_wp2_with fail
    rw [hW1] at HA
    refine (CZ.out _).mono ?_
    rintro e _ ⟨rfl, rfl⟩
    go_wp2_with fail
    refine (CO.out _).mono ?_
    rintro e w2 ⟨v2, rfl, hl2, hb2⟩
    obtain ⟨gs, hg, hog, hin, _, _⟩ := hl2
    rw [List.length_map, HF.out] at hg hog hin
    obtain ⟨g, c, rfl⟩ := own_pos hog (by omega)
    have H2 := Go.Lib.hid (And.intro hg (And.intro hog (And.intro hin (And.intro (arr2_call HA.out.1 hb2) (HA.out.2.trans (hb2.mono HA.out.2.size) : Below W.heap.size W w2)))))
    clear hg hog hin hb2 CO CZ hW1
    go_wp2_with fail
    go_loopw [4, 6] (fun mv iv wr => ∃ (i t : Nat), i ≤ F ∧ iv = .int .i64 i ∧ mv = .int .i64 t ∧ Hid (t = sumT tellMeanPasses ((allO m).take i) ∧ Below w2.heap.size w2 wr)) (fun _ i _ => F - (intOf i).toNat)
    case atStart => exact ⟨0, 0, Nat.zero_le _, rfl, rfl, Go.Lib.hid ⟨rfl, Below.refl _ _⟩⟩
    case round =>
      obtain ⟨i, t, hiF, rfl, rfl, HX⟩ := hrel
      have hle := sumT_le (tell := tellMeanPasses) (b := 1000) (L := (allO m).take i) (fun x hx => (hbd m hm1 hm6) x (List.mem_of_mem_take hx))
      rw [List.length_take, HF.out, Nat.min_eq_left hiF, ← HX.out.1] at hle
      by_cases hlt : i < F
      · obtain ⟨p, hp⟩ : ∃ p, gs.getD i (0, 0) = p := ⟨_, rfl⟩
        have hiL : i < (allO m).length := by rw [HF.out]; exact hlt
        obtain ⟨zs, hzi⟩ : ∃ zs, (allO m)[i]? = some zs := ⟨_, List.getElem?_eq_getElem hiL⟩
        have hmem : zs ∈ allO m := List.mem_of_getElem? hzi
        have hord := (mem_allO hm1 hm7).1 hmem
        have hrow := H2.out.2.2.1 i hlt
        have hgd : ((allO m).map vals).getD i [] = vals zs := by simp [hzi]
        rw [hp, hgd] at hrow
        have hck : w2.cell? ⟨g, i, none⟩ = some (.slice (some ⟨p.1, 0, none⟩) m p.2) := by
          rw [H2.out.2.1.cellAt i (by omega), ← hp]
          simp [show i < gs.length by have := H2.out.1; omega, sl]
        have hgl := (H2.out.2.1.lt g rfl).2
        have hckr := (HX.out.2.cell (p := ⟨g, i, none⟩) hgl).trans hck
        obtain ⟨p1, p2⟩ := p
        unfold sl at hrow
        simp only at hckr hrow
        have hsee := Sees.owns (kept_call hrow HX.out.2)
        have CQ := Go.Lib.hid (specPasses zs _ true (show passesAns zs = (((passes 7 zs : Nat) : Int), true) by unfold passesAns; rw [if_pos hord.1]) (by have := hord.2; omega) wr _ m hsee)
        obtain ⟨R, hR⟩ : ∃ R, tellMeanPasses zs = R := ⟨_, rfl⟩
        have HN : Hid (sumT tellMeanPasses ((allO m).take (i + 1)) = t + R) := Go.Lib.hid (by rw [sumT_take hzi, HX.out.1, hR])
        have HRR := Go.Lib.hid (And.intro hR hord)
        rw [show passes 7 zs = R from hR] at CQ
        have hlti : (i : Int) < (F : Int) := by omega
        have hR1 : R ≤ 1000 := by rw [← hR]; exact hbd m hm1 hm6 zs hmem
        clear hp hzi hmem hord hrow hgd hck hgl hsee hiL
        go_wp2_with fail
        refine (CQ.out).mono ?_
        rintro e w4 ⟨rfl, hb4⟩
        have HB4 := Go.Lib.hid (HX.out.2.trans (hb4.mono HX.out.2.size))
        clear hb4 CQ
        go_wp2
        go_roundw
        case rel => exact ⟨i + 1, t + R, by omega, by go_num, by go_num, Go.Lib.hid ⟨HN.out.symm, HB4.out⟩⟩
        case measure => simp [intOf]; omega
      · obtain rfl : i = F := by omega
        have hall : t = sumT tellMeanPasses (allO m) := by rw [HX.out.1, ← HF.out, sumT_all]
        have CL := Go.Lib.hid (fun (X : World) => l9Cut_any t i (by omega) hF1 (by omega) X)
        obtain ⟨x0, hx0⟩ : ∃ x, (cutF t i).1 = x := ⟨_, rfl⟩
        obtain ⟨x1, hx1⟩ : ∃ x, (cutF t i).2 = x := ⟨_, rfl⟩
        have HM : Hid (x0 = a ∧ x1 = b ∧ true = ok) := Go.Lib.hid (by
          have h := HH.out
          unfold meanL at h
          rw [← hall, HF.out, hx0, hx1] at h
          cases h
          exact ⟨rfl, rfl, rfl⟩)
        rw [hx0, hx1] at CL
        have HXA := Go.Lib.hid (And.intro (arr2_call H2.out.2.2.2.1 HX.out.2) (H2.out.2.2.2.2.trans (HX.out.2.mono H2.out.2.2.2.2.size) : Below W.heap.size W wr))
        clear hx0 hx1 hall hle
        go_wp2_with fail
        refine (CL.out _).mono ?_
        rintro e w5 ⟨rfl, hb5⟩
        have H5 := Go.Lib.hid (And.intro (arr2_call HXA.out.1 hb5) (HXA.out.2.trans (hb5.mono HXA.out.2.size) : Below W.heap.size W w5))
        obtain ⟨m0, m1, e0, e1⟩ := arr2_cells H5.out.1
        obtain ⟨s1, s2, hNN⟩ := arr2_store H5.out.1 (.int .i64 (x0 : Int)) (.int .i64 (x1 : Int))
        have HN := Go.Lib.hid (And.intro hNN (arr2_below (Nat.le_refl _) H5.out.2 (.int .i64 (x0 : Int)) (.int .i64 (x1 : Int))))
        clear hNN hb5 CL
        go_wp2_with fail
        (try simp only [Exit.inBlock, Exit.then])
        refine bodyPost_ret (arr2_result2 rfl rfl HN.out.1) rfl ?_
        rw [← HM.out.1, ← HM.out.2.1, ← HM.out.2.2]
        exact ⟨rfl, HN.out.2⟩

end Go.Proofs.YtnhhnffolmgceabGreat.ChMeanPassesSC

end
