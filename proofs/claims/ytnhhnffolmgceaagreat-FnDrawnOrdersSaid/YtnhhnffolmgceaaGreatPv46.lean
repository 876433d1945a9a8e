/-
  Contracts and plain facts that the laws' texts lean on. Conditions: as each states.
-/
import Derived.Test.YtnhhnffolmgceaaGreatPv42
import Derived.Test.YtnhhnffolmgceaaGreatPv37
import Derived.Test.YtnhhnffolmgceaaGreatPv10
import Derived.Test.YtnhhnffolmgceaaGreatPv13
import Derived.Test.YtnhhnffolmgceaaGreatPv33
import Derived.Test.YtnhhnffolmgceaaGreatPv25
import Derived.Test.YtnhhnffolmgceaaGreatPv39
import Derived.Deep.RegionHeld3
import Derived.Test.YtnhhnffolmgceaaGreatPv30
import Derived.Test.YtnhhnffolmgceaaGreatPv29

section
namespace Go.Proofs.YtnhhnffolmgceaaGreat.ChChanceSortsIC
open Go.RowKit SeesC IntsC ExactC OrdMath AllO ListsC Arr2C ChM ChQ UsedC MeanOC ChanceOC OrdersIterC CollOC KnownC ToC Sort4C
set_option linter.unusedVariables false

def tellChanceSorts (zs : List Int) : Bool := (optAns (toRes zs (iota zs.length))).2

set_option maxRecDepth 100000 in
set_option maxHeartbeats 1000000 in
theorem sayChanceSorts (m : Nat) (hm1 : 1 ≤ m) (hm7 : m ≤ 7) (W : World) : SaysO 27 #[] m (allO m) tellChanceSorts W := by
  intro zs hz X u hX hs
  have hord := ((mem_allO hm1 hm7).1 hz).1
  have hlen := ((mem_allO hm1 hm7).1 hz).2
  have CF := Go.Lib.hid (implSortable zs _ true (show sortableAns zs = ((optAns (toRes zs (iota zs.length))).2, true) by unfold sortableAns; rw [if_pos hord]) (by omega) X u m hs)
  have HH := Go.Lib.hid (And.intro hord hlen)
  obtain ⟨_, ad, cap, rfl, _, _⟩ := hs
  clear hord hlen hz hX
  go_enter Tryz.func27, Tryz.ntmps27
  go_wp2_with fail
  refine (CF.out).mono ?_
  rintro e w1 ⟨rfl, hb⟩
  have H1 := Go.Lib.hid hb
  clear hb CF
  go_wp2_with fail
  refine (knownB _ _ _).mono ?_
  rintro e _ ⟨rfl, rfl⟩
  go_wp2
  go_ret
  exact ⟨rfl, H1.out⟩

set_option maxRecDepth 100000 in
set_option maxHeartbeats 1000000 in
theorem implChanceSorts (n : Int) (a b : Nat) (ok : Bool) (h : chAns n (fun m => meanL (allO m) (isT tellChanceSorts)) = (a, b, ok)) (hw : (Lit.int .i64 n).wf = true) (W : World) :
    Calls Tryz.prog 6 #[.int .i64 n] W fun e w' => FracTo W e w' a b ok := by
  have hA0 := arr2_alloc W (.int .i64 0) (.int .i64 0)
  have hB0 : Below W.heap.size W (W.alloc (.cells #[.int .i64 0, .int .i64 0] 25)) := (Below.refl _ W).alloc (Nat.le_refl _) _
  have HA := Go.Lib.hid (And.intro hA0 hB0)
  have CD := Go.Lib.hid (drawnOrders_any n hw (W.alloc (.cells #[.int .i64 0, .int .i64 0] 25)))
  clear hA0 hB0
  go_enter Tryz.func6, Tryz.ntmps6
  go_wp2_with fail
  refine (CD.out).mono ?_
  rintro e w2 (⟨hno, ⟨a0, c, rfl⟩, hb⟩ | ⟨m, rfl, hm1, hm6, v, rfl, hL, hb⟩)
  · rw [ch_out hno] at h
    cases h
    have H2 := Go.Lib.hid (And.intro (arr2_call HA.out.1 hb) (HA.out.2.trans (hb.mono HA.out.2.size) : Below W.heap.size W w2))
    have CM := Go.Lib.hid (fun (a : Option Addr) (c : Nat) => chanceO_none (.func 27) #[] #[] a c w2)
    clear hb hno CD
    go_wp2_with fail
    refine (CM.out _ _).mono ?_
    rintro e w5 ⟨rfl, hb5⟩
    have H5 := Go.Lib.hid (And.intro (arr2_call H2.out.1 hb5) (H2.out.2.trans (hb5.mono H2.out.2.size) : Below W.heap.size W w5))
    obtain ⟨m0, m1, e0, e1⟩ := arr2_cells H5.out.1
    obtain ⟨s1, s2, hNN⟩ := arr2_store H5.out.1 (.int .i64 0) (.int .i64 0)
    have HN := Go.Lib.hid (And.intro hNN (arr2_below (Nat.le_refl _) H5.out.2 (.int .i64 0) (.int .i64 0)))
    clear hNN hb5 CM
    go_wp2_with fail
    (try simp only [Exit.inBlock, Exit.then])
    refine bodyPost_ret (arr2_result2 rfl rfl HN.out.1) rfl ?_
    exact ⟨rfl, HN.out.2⟩
  · rw [ch_in (q := fun m => meanL (allO m) (isT tellChanceSorts)) rfl hm1 hm6] at h
    cases h
    have H2 := Go.Lib.hid (And.intro hL (And.intro (arr2_call HA.out.1 hb) (HA.out.2.trans (hb.mono HA.out.2.size) : Below W.heap.size W w2)))
    have CM := Go.Lib.hid (chanceO_any m (allO m) tellChanceSorts (allO m).length rfl (all_1k hm1 hm6).1 (all_1k hm1 hm6).2 27 #[] (enters_of Tryz.func27 (by kernel_rfl) rfl) w2 v H2.out.1.looks (sayChanceSorts m hm1 (by omega) w2))
    obtain ⟨gs, _, g2, _⟩ := hL
    obtain ⟨_, va, vc, rfl, _, _⟩ := Sees.owns g2
    clear g2 hb CD
    obtain ⟨N, hN⟩ : ∃ N, ((allO m).map vals).length = N := ⟨_, rfl⟩
    rw [hN] at H2 CM ⊢
    clear hN
    go_wp2_with fail
    refine (CM.out).mono ?_
    rintro e w5 ⟨rfl, hb5⟩
    have H5 := Go.Lib.hid (And.intro (arr2_call H2.out.2.1 hb5) (H2.out.2.2.trans (hb5.mono H2.out.2.2.size) : Below W.heap.size W w5))
    obtain ⟨x0, hx0⟩ : ∃ x, (meanL (allO m) (isT tellChanceSorts)).1 = x := ⟨_, rfl⟩
    obtain ⟨x1, hx1⟩ : ∃ x, (meanL (allO m) (isT tellChanceSorts)).2 = x := ⟨_, rfl⟩
    rw [hx0, hx1]
    have HM := Go.Lib.hid (And.intro hx0 hx1)
    obtain ⟨m0, m1, e0, e1⟩ := arr2_cells H5.out.1
    obtain ⟨s1, s2, hNN⟩ := arr2_store H5.out.1 (.int .i64 (x0 : Int)) (.int .i64 (x1 : Int))
    have HN := Go.Lib.hid (And.intro hNN (arr2_below (Nat.le_refl _) H5.out.2 (.int .i64 (x0 : Int)) (.int .i64 (x1 : Int))))
    clear hNN hb5 CM hx0 hx1
    go_wp2_with fail
    (try simp only [Exit.inBlock, Exit.then])
    refine bodyPost_ret (arr2_result2 rfl rfl HN.out.1) rfl ?_
    first | exact ⟨rfl, HN.out.2⟩ | (rw [HM.out.1, HM.out.2]; exact ⟨rfl, HN.out.2⟩)

end Go.Proofs.YtnhhnffolmgceaaGreat.ChChanceSortsIC

end

section
namespace Go.Proofs.YtnhhnffolmgceaaGreat.ChChanceSortsSC
open Go.RowKit SeesC IntsC ExactC OrdMath AllO ListsC ListsEC Arr2C ChM ChQ CutFC L9C OrdsSpC ChChanceSortsIC ToC AtC UsedC
set_option linter.unusedVariables false

set_option maxRecDepth 100000 in
set_option maxHeartbeats 4000000 in
theorem specChanceSorts (n : Int) (a b : Nat) (ok : Bool) (h : chAns n (fun m => meanL (allO m) (isT tellChanceSorts)) = (a, b, ok)) (hw : (Lit.int .i64 n).wf = true) (W : World) :
    Calls Tryz.prog 7 #[.int .i64 n] W fun e w' => FracTo W e w' a b ok := by
  have hA0 := arr2_alloc W (.int .i64 0) (.int .i64 0)
  have hB0 : Below W.heap.size W (W.alloc (.cells #[.int .i64 0, .int .i64 0] 25)) := (Below.refl _ W).alloc (Nat.le_refl _) _
  have HA := Go.Lib.hid (And.intro hA0 hB0)
  clear hA0 hB0
  obtain ⟨r, hr⟩ : ∃ r, decide (1 ≤ n ∧ n ≤ 6) = r := ⟨_, rfl⟩
  have CZ := Go.Lib.hid (fun (X : World) => l9Size_any n X r hr)
  have HR := Go.Lib.hid hr
  clear hr
  obtain ⟨W1, hW1⟩ : ∃ W1, W.alloc (.cells #[.int .i64 0, .int .i64 0] 25) = W1 := ⟨_, rfl⟩
  cases r with
  | false =>
    rw [ch_out (of_decide_eq_false HR.out)] at h
    cases h
    go_enter Tryz.func7, Tryz.ntmps7
    go_wp2_with fail
    rw [hW1] at HA
    refine (CZ.out _).mono ?_
    rintro e _ ⟨rfl, rfl⟩
    obtain ⟨m0, m1, e0, e1⟩ := arr2_cells HA.out.1
    obtain ⟨s1, s2, hNN⟩ := arr2_store HA.out.1 (.int .i64 0) (.int .i64 0)
    have HN := Go.Lib.hid (And.intro hNN (arr2_below (Nat.le_refl _) HA.out.2 (.int .i64 0) (.int .i64 0)))
    clear hNN
    go_wp2_with fail
    (try simp only [Exit.inBlock, Exit.then])
    refine bodyPost_ret (arr2_result2 rfl rfl HN.out.1) rfl ?_
    exact ⟨rfl, HN.out.2⟩
  | true =>
    have h16 := of_decide_eq_true HR.out
    obtain ⟨m, rfl⟩ : ∃ m : Nat, n = (m : Int) := ⟨n.toNat, by omega⟩
    have hm1 : 1 ≤ m := by omega
    have hm6 : m ≤ 6 := by omega
    have hm7 : m ≤ 7 := by omega
    rw [ch_in (q := fun m => meanL (allO m) (isT tellChanceSorts)) rfl hm1 hm6] at h
    have HH := Go.Lib.hid h
    have CO := Go.Lib.hid (fun (X : World) => l2Orders_any m hm1 hm7 X)
    obtain ⟨F, hF⟩ : ∃ F, (allO m).length = F := ⟨_, rfl⟩
    have hFF := all_1k hm1 hm6
    rw [hF] at hFF
    have hF1 := hFF.1
    have hF5 := hFF.2
    have HF := Go.Lib.hid hF
    clear hF hFF h h16 HR
    go_enter Tryz.func7, Tryz.ntmps7
    go_wp2_with fail
    rw [hW1] at HA
    refine (CZ.out _).mono ?_
    rintro e _ ⟨rfl, rfl⟩
    go_wp2_with fail
    refine (CO.out _).mono ?_
    rintro e w2 ⟨v2, rfl, hl2, hb2⟩
    obtain ⟨gs, hg, hog, hin, _, _⟩ := hl2
    rw [List.length_map, HF.out] at hg hog hin
    obtain ⟨g, c, rfl⟩ := own_pos hog (by omega)
    have H2 := Go.Lib.hid (And.intro hg (And.intro hog (And.intro hin (And.intro (arr2_call HA.out.1 hb2) (HA.out.2.trans (hb2.mono HA.out.2.size) : Below W.heap.size W w2)))))
    clear hg hog hin hb2 CO CZ hW1
    go_wp2_with fail
    go_loopw [4, 6] (fun mv iv wr => ∃ (i t : Nat), i ≤ F ∧ iv = .int .i64 i ∧ mv = .int .i64 t ∧ Hid (t = sumT (isT tellChanceSorts) ((allO m).take i) ∧ Below w2.heap.size w2 wr)) (fun _ i _ => F - (intOf i).toNat)
    case atStart => exact ⟨0, 0, Nat.zero_le _, rfl, rfl, Go.Lib.hid ⟨rfl, Below.refl _ _⟩⟩
    case round =>
      obtain ⟨i, t, hiF, rfl, rfl, HX⟩ := hrel
      have hle := sumT_le (tell := (isT tellChanceSorts)) (b := 1000) (L := (allO m).take i) (fun x hx => (fun zs _ => Nat.le_trans (isT_le tellChanceSorts zs) (by omega)) x (List.mem_of_mem_take hx))
      rw [List.length_take, HF.out, Nat.min_eq_left hiF, ← HX.out.1] at hle
      by_cases hlt : i < F
      · obtain ⟨p, hp⟩ : ∃ p, gs.getD i (0, 0) = p := ⟨_, rfl⟩
        have hiL : i < (allO m).length := by rw [HF.out]; exact hlt
        obtain ⟨zs, hzi⟩ : ∃ zs, (allO m)[i]? = some zs := ⟨_, List.getElem?_eq_getElem hiL⟩
        have hmem : zs ∈ allO m := List.mem_of_getElem? hzi
        have hord := (mem_allO hm1 hm7).1 hmem
        have hrow := H2.out.2.2.1 i hlt
        have hgd : ((allO m).map vals).getD i [] = vals zs := by simp [hzi]
        rw [hp, hgd] at hrow
        have hck : w2.cell? ⟨g, i, none⟩ = some (.slice (some ⟨p.1, 0, none⟩) m p.2) := by
          rw [H2.out.2.1.cellAt i (by omega), ← hp]
          simp [show i < gs.length by have := H2.out.1; omega, sl]
        have hgl := (H2.out.2.1.lt g rfl).2
        have hckr := (HX.out.2.cell (p := ⟨g, i, none⟩) hgl).trans hck
        obtain ⟨p1, p2⟩ := p
        unfold sl at hrow
        simp only at hckr hrow
        have hsee := Sees.owns (kept_call hrow HX.out.2)
        have CQ := Go.Lib.hid (fun (X : World) (hX : Below wr.heap.size wr X) (u : Value) (hu : Sees X u m (vals (iota m))) => (l2To_any zs (iota m) hord.1 (by rw [iota_len]; exact hord.2) X _ m (hsee.grow hX) u hu).mono (fun e w' h => And.intro h.1 (hX.trans (h.2.mono hX.size))))
        obtain ⟨R, hR⟩ : ∃ R, tellChanceSorts zs = R := ⟨_, rfl⟩
        have HN : Hid (sumT (isT tellChanceSorts) ((allO m).take (i + 1)) = if R = true then t + 1 else t) := Go.Lib.hid (by rw [sumT_take hzi, HX.out.1]; unfold isT; rw [hR]; cases R <;> rfl)
        have HRR := Go.Lib.hid (And.intro hR hord)
        have hlti : (i : Int) < (F : Int) := by omega
        clear hp hzi hmem hord hrow hgd hck hgl hsee hiL
        have CS := Go.Lib.hid (fun (X : World) (hX : Below wr.heap.size wr X) => (l2Sorted_any m X hm7).mono (fun e w' h => show ∃ g c, e = .returned (.slice (some ⟨g, 0, none⟩) m c) ∧ w'.ownsRow wr.heap.size 3 1 (.slice (some ⟨g, 0, none⟩) m c) m (vals (iota m)) ∧ Below wr.heap.size wr w' from by obtain ⟨g, c, h1, h2, h3⟩ := h; exact ⟨g, c, h1, own_lower h2 hX.size, hX.trans (h3.mono hX.size)⟩))
        have B0 := Go.Lib.hid (Below.refl wr.heap.size wr)
        have HCK := Go.Lib.hid (fun (X : World) (hX : Below wr.heap.size wr X) => (hX.cell (p := ⟨g, i, none⟩) (World.block_lt_of_cell? wr _ hckr)).trans hckr)
        obtain ⟨tx, htx⟩ : ∃ tx, (optAns (toRes zs (iota m))).1 = tx := ⟨_, rfl⟩
        have h2R : (optAns (toRes zs (iota m))).2 = R := by rw [← HRR.out.2.2]; exact HRR.out.1
        rw [htx, h2R] at CQ
        clear htx h2R hR
        go_wp2_with fail
        go_region_held3 (fun X => X.cell? ⟨g, i, none⟩ = some (.slice (some ⟨p1, 0, none⟩) m p2)) (first
          | exact HCK.out _ (UsedC.below_heap H5.out (by rfl) (by rfl) (by rfl) (by rfl))
          | exact HCK.out _ (UsedC.below_heap H3.out.2 (by rfl) (by rfl) (by rfl) (by rfl))
          | exact HCK.out _ (UsedC.below_heap B0.out (by rfl) (by rfl) (by rfl) (by rfl))) (first
          | (have hX3 := H3; go_at_call 32; refine (CQ.out _ (UsedC.below_heap H3.out.2 (by rfl) (by rfl) (by rfl) (by rfl)) _ (Sees.owns (UsedC.own_heap (by rfl) H3.out.1))).mono ?_; rintro e w5 ⟨rfl, hb5⟩; have H5 := Go.Lib.hid hb5; clear hb5 hX3)
          | (go_at_call 33; refine (CS.out _ (UsedC.below_heap B0.out (by rfl) (by rfl) (by rfl) (by rfl))).mono ?_; rintro e w3 ⟨g3, c3, rfl, ho3, hb3⟩; have H3 := Go.Lib.hid (And.intro ho3 hb3); clear ho3 hb3))
        all_goals
          have HB4 := Go.Lib.hid (HX.out.2.trans (H5.out.mono HX.out.2.size))
          clear CQ CS
          cases R with
          | true =>
            go_wp2
            go_roundw
            case rel => exact ⟨i + 1, t + 1, by omega, by go_num, by go_num, Go.Lib.hid ⟨HN.out.symm, HB4.out⟩⟩
            case measure => simp [intOf]; omega
          | false =>
            go_wp2
            go_roundw
            case rel => exact ⟨i + 1, t, by omega, by go_num, by rfl, Go.Lib.hid ⟨HN.out.symm, HB4.out⟩⟩
            case measure => simp [intOf]; omega
      · obtain rfl : i = F := by omega
        have hall : t = sumT (isT tellChanceSorts) (allO m) := by rw [HX.out.1, ← HF.out, sumT_all]
        have CL := Go.Lib.hid (fun (X : World) => l9Cut_any t i (by omega) hF1 (by omega) X)
        obtain ⟨x0, hx0⟩ : ∃ x, (cutF t i).1 = x := ⟨_, rfl⟩
        obtain ⟨x1, hx1⟩ : ∃ x, (cutF t i).2 = x := ⟨_, rfl⟩
        have HM : Hid (x0 = a ∧ x1 = b ∧ true = ok) := Go.Lib.hid (by
          have h := HH.out
          unfold meanL at h
          rw [← hall, HF.out, hx0, hx1] at h
          cases h
          exact ⟨rfl, rfl, rfl⟩)
        rw [hx0, hx1] at CL
        have HXA := Go.Lib.hid (And.intro (arr2_call H2.out.2.2.2.1 HX.out.2) (H2.out.2.2.2.2.trans (HX.out.2.mono H2.out.2.2.2.2.size) : Below W.heap.size W wr))
        clear hx0 hx1 hall hle
        go_wp2_with fail
        refine (CL.out _).mono ?_
        rintro e w5 ⟨rfl, hb5⟩
        have H5 := Go.Lib.hid (And.intro (arr2_call HXA.out.1 hb5) (HXA.out.2.trans (hb5.mono HXA.out.2.size) : Below W.heap.size W w5))
        obtain ⟨m0, m1, e0, e1⟩ := arr2_cells H5.out.1
        obtain ⟨s1, s2, hNN⟩ := arr2_store H5.out.1 (.int .i64 (x0 : Int)) (.int .i64 (x1 : Int))
        have HN := Go.Lib.hid (And.intro hNN (arr2_below (Nat.le_refl _) H5.out.2 (.int .i64 (x0 : Int)) (.int .i64 (x1 : Int))))
        clear hNN hb5 CL
        go_wp2_with fail
        (try simp only [Exit.inBlock, Exit.then])
        refine bodyPost_ret (arr2_result2 rfl rfl HN.out.1) rfl ?_
        rw [← HM.out.1, ← HM.out.2.1, ← HM.out.2.2]
        exact ⟨rfl, HN.out.2⟩

end Go.Proofs.YtnhhnffolmgceaaGreat.ChChanceSortsSC

end

section
namespace Go.Proofs.YtnhhnffolmgceaaGreat.ChMeanRunsIC
open Go.RowKit SeesC IntsC ExactC OrdMath AllO ListsC Arr2C ChM ChQ UsedC MeanOC MeanOC OrdersIterC CollOC KnownC QueM RunIC RagResC
set_option linter.unusedVariables false

def tellMeanRuns (zs : List Int) : Nat := (rTo zs zs.length).length

set_option maxRecDepth 100000 in
set_option maxHeartbeats 1000000 in
theorem sayMeanRuns (m : Nat) (hm1 : 1 ≤ m) (hm7 : m ≤ 7) (W : World) : TellO 36 #[] m (allO m) tellMeanRuns W := by
  intro zs hz X u hX hs
  have hord := ((mem_allO hm1 hm7).1 hz).1
  have hlen := ((mem_allO hm1 hm7).1 hz).2
  have CF := Go.Lib.hid ((show rTo zs m = rTo zs zs.length by rw [hlen]) ▸ runsOf_any zs hord X u m hs)
  have HH := Go.Lib.hid (And.intro hord hlen)
  obtain ⟨_, ad, cap, rfl, _, _⟩ := hs
  clear hord hlen hz hX
  go_enter Tryz.func36, Tryz.ntmps36
  go_wp2_with fail
  refine (CF.out).mono ?_
  rintro e w1 ⟨va, vc, rfl, ho, hb⟩
  have H1 := Go.Lib.hid hb
  clear hb CF ho
  go_wp2
  go_ret
  exact ⟨rfl, H1.out⟩

set_option maxRecDepth 100000 in
set_option maxHeartbeats 1000000 in
theorem implMeanRuns (hbd : ∀ m, 1 ≤ m → m ≤ 6 → ∀ zs ∈ allO m, tellMeanRuns zs ≤ 1000) (n : Int) (a b : Nat) (ok : Bool) (h : chAns n (fun m => meanL (allO m) tellMeanRuns) = (a, b, ok)) (hw : (Lit.int .i64 n).wf = true) (W : World) :
    Calls Tryz.prog 8 #[.int .i64 n] W fun e w' => FracTo W e w' a b ok := by
  have hA0 := arr2_alloc W (.int .i64 0) (.int .i64 0)
  have hB0 : Below W.heap.size W (W.alloc (.cells #[.int .i64 0, .int .i64 0] 25)) := (Below.refl _ W).alloc (Nat.le_refl _) _
  have HA := Go.Lib.hid (And.intro hA0 hB0)
  have CD := Go.Lib.hid (drawnOrders_any n hw (W.alloc (.cells #[.int .i64 0, .int .i64 0] 25)))
  clear hA0 hB0
  go_enter Tryz.func8, Tryz.ntmps8
  go_wp2_with fail
  refine (CD.out).mono ?_
  rintro e w2 (⟨hno, ⟨a0, c, rfl⟩, hb⟩ | ⟨m, rfl, hm1, hm6, v, rfl, hL, hb⟩)
  · rw [ch_out hno] at h
    cases h
    have H2 := Go.Lib.hid (And.intro (arr2_call HA.out.1 hb) (HA.out.2.trans (hb.mono HA.out.2.size) : Below W.heap.size W w2))
    have CM := Go.Lib.hid (fun (a : Option Addr) (c : Nat) => meanO_none (.func (.func 36) #[] #[]) a c w2)
    clear hb hno CD
    go_wp2_with fail
    refine (CM.out _ _).mono ?_
    rintro e w5 ⟨rfl, hb5⟩
    have H5 := Go.Lib.hid (And.intro (arr2_call H2.out.1 hb5) (H2.out.2.trans (hb5.mono H2.out.2.size) : Below W.heap.size W w5))
    obtain ⟨m0, m1, e0, e1⟩ := arr2_cells H5.out.1
    obtain ⟨s1, s2, hNN⟩ := arr2_store H5.out.1 (.int .i64 0) (.int .i64 0)
    have HN := Go.Lib.hid (And.intro hNN (arr2_below (Nat.le_refl _) H5.out.2 (.int .i64 0) (.int .i64 0)))
    clear hNN hb5 CM
    go_wp2_with fail
    (try simp only [Exit.inBlock, Exit.then])
    refine bodyPost_ret (arr2_result2 rfl rfl HN.out.1) rfl ?_
    exact ⟨rfl, HN.out.2⟩
  · rw [ch_in (q := fun m => meanL (allO m) tellMeanRuns) rfl hm1 hm6] at h
    cases h
    have H2 := Go.Lib.hid (And.intro hL (And.intro (arr2_call HA.out.1 hb) (HA.out.2.trans (hb.mono HA.out.2.size) : Below W.heap.size W w2)))
    have CM := Go.Lib.hid (meanO_any m (allO m) tellMeanRuns (hbd m hm1 hm6) (allO m).length rfl (all_1k hm1 hm6).1 (all_1k hm1 hm6).2 36 #[] (enters_of Tryz.func36 (by kernel_rfl) rfl) w2 v H2.out.1.looks (sayMeanRuns m hm1 (by omega) w2))
    obtain ⟨gs, _, g2, _⟩ := hL
    obtain ⟨_, va, vc, rfl, _, _⟩ := Sees.owns g2
    clear g2 hb CD
    obtain ⟨N, hN⟩ : ∃ N, ((allO m).map vals).length = N := ⟨_, rfl⟩
    rw [hN] at H2 CM ⊢
    clear hN
    go_wp2_with fail
    refine (CM.out).mono ?_
    rintro e w5 ⟨rfl, hb5⟩
    have H5 := Go.Lib.hid (And.intro (arr2_call H2.out.2.1 hb5) (H2.out.2.2.trans (hb5.mono H2.out.2.2.size) : Below W.heap.size W w5))
    obtain ⟨x0, hx0⟩ : ∃ x, (meanL (allO m) tellMeanRuns).1 = x := ⟨_, rfl⟩
    obtain ⟨x1, hx1⟩ : ∃ x, (meanL (allO m) tellMeanRuns).2 = x := ⟨_, rfl⟩
    rw [hx0, hx1]
    have HM := Go.Lib.hid (And.intro hx0 hx1)
    obtain ⟨m0, m1, e0, e1⟩ := arr2_cells H5.out.1
    obtain ⟨s1, s2, hNN⟩ := arr2_store H5.out.1 (.int .i64 (x0 : Int)) (.int .i64 (x1 : Int))
    have HN := Go.Lib.hid (And.intro hNN (arr2_below (Nat.le_refl _) H5.out.2 (.int .i64 (x0 : Int)) (.int .i64 (x1 : Int))))
    clear hNN hb5 CM hx0 hx1
    go_wp2_with fail
    (try simp only [Exit.inBlock, Exit.then])
    refine bodyPost_ret (arr2_result2 rfl rfl HN.out.1) rfl ?_
    first | exact ⟨rfl, HN.out.2⟩ | (rw [HM.out.1, HM.out.2]; exact ⟨rfl, HN.out.2⟩)

end Go.Proofs.YtnhhnffolmgceaaGreat.ChMeanRunsIC

end

section
namespace Go.Proofs.YtnhhnffolmgceaaGreat.ChMeanRunsSC
open Go.RowKit SeesC IntsC ExactC OrdMath AllO ListsC ListsEC Arr2C ChM ChQ CutFC L9C OrdsSpC ChMeanRunsIC QueM RunSC RagResC
set_option linter.unusedVariables false

set_option maxRecDepth 100000 in
set_option maxHeartbeats 4000000 in
theorem specMeanRuns (hbd : ∀ m, 1 ≤ m → m ≤ 6 → ∀ zs ∈ allO m, tellMeanRuns zs ≤ 1000) (n : Int) (a b : Nat) (ok : Bool) (h : chAns n (fun m => meanL (allO m) tellMeanRuns) = (a, b, ok)) (hw : (Lit.int .i64 n).wf = true) (W : World) :
    Calls Tryz.prog 9 #[.int .i64 n] W fun e w' => FracTo W e w' a b ok := by
  have hA0 := arr2_alloc W (.int .i64 0) (.int .i64 0)
  have hB0 : Below W.heap.size W (W.alloc (.cells #[.int .i64 0, .int .i64 0] 25)) := (Below.refl _ W).alloc (Nat.le_refl _) _
  have HA := Go.Lib.hid (And.intro hA0 hB0)
  clear hA0 hB0
  obtain ⟨r, hr⟩ : ∃ r, decide (1 ≤ n ∧ n ≤ 6) = r := ⟨_, rfl⟩
  have CZ := Go.Lib.hid (fun (X : World) => l9Size_any n X r hr)
  have HR := Go.Lib.hid hr
  clear hr
  obtain ⟨W1, hW1⟩ : ∃ W1, W.alloc (.cells #[.int .i64 0, .int .i64 0] 25) = W1 := ⟨_, rfl⟩
  cases r with
  | false =>
    rw [ch_out (of_decide_eq_false HR.out)] at h
    cases h
    go_enter Tryz.func9, Tryz.ntmps9
    go_wp2_with fail
    rw [hW1] at HA
    refine (CZ.out _).mono ?_
    rintro e _ ⟨rfl, rfl⟩
    obtain ⟨m0, m1, e0, e1⟩ := arr2_cells HA.out.1
    obtain ⟨s1, s2, hNN⟩ := arr2_store HA.out.1 (.int .i64 0) (.int .i64 0)
    have HN := Go.Lib.hid (And.intro hNN (arr2_below (Nat.le_refl _) HA.out.2 (.int .i64 0) (.int .i64 0)))
    clear hNN
    go_wp2_with fail
    (try simp only [Exit.inBlock, Exit.then])
    refine bodyPost_ret (arr2_result2 rfl rfl HN.out.1) rfl ?_
    exact ⟨rfl, HN.out.2⟩
  | true =>
    have h16 := of_decide_eq_true HR.out
    obtain ⟨m, rfl⟩ : ∃ m : Nat, n = (m : Int) := ⟨n.toNat, by omega⟩
    have hm1 : 1 ≤ m := by omega
    have hm6 : m ≤ 6 := by omega
    have hm7 : m ≤ 7 := by omega
    rw [ch_in (q := fun m => meanL (allO m) tellMeanRuns) rfl hm1 hm6] at h
    have HH := Go.Lib.hid h
    have CO := Go.Lib.hid (fun (X : World) => l2Orders_any m hm1 hm7 X)
    obtain ⟨F, hF⟩ : ∃ F, (allO m).length = F := ⟨_, rfl⟩
    have hFF := all_1k hm1 hm6
    rw [hF] at hFF
    have hF1 := hFF.1
    have hF5 := hFF.2
    have HF := Go.Lib.hid hF
    clear hF hFF h h16 HR
    go_enter Tryz.func9, Tryz.ntmps9
    go_wp2_with fail
    rw [hW1] at HA
    refine (CZ.out _).mono ?_
    rintro e _ ⟨rfl, rfl⟩
    go_wp2_with fail
    refine (CO.out _).mono ?_
    rintro e w2 ⟨v2, rfl, hl2, hb2⟩
    obtain ⟨gs, hg, hog, hin, _, _⟩ := hl2
    rw [List.length_map, HF.out] at hg hog hin
    obtain ⟨g, c, rfl⟩ := own_pos hog (by omega)
    have H2 := Go.Lib.hid (And.intro hg (And.intro hog (And.intro hin (And.intro (arr2_call HA.out.1 hb2) (HA.out.2.trans (hb2.mono HA.out.2.size) : Below W.heap.size W w2)))))
    clear hg hog hin hb2 CO CZ hW1
    go_wp2_with fail
    go_loopw [4, 6] (fun mv iv wr => ∃ (i t : Nat), i ≤ F ∧ iv = .int .i64 i ∧ mv = .int .i64 t ∧ Hid (t = sumT tellMeanRuns ((allO m).take i) ∧ Below w2.heap.size w2 wr)) (fun _ i _ => F - (intOf i).toNat)
    case atStart => exact ⟨0, 0, Nat.zero_le _, rfl, rfl, Go.Lib.hid ⟨rfl, Below.refl _ _⟩⟩
    case round =>
      obtain ⟨i, t, hiF, rfl, rfl, HX⟩ := hrel
      have hle := sumT_le (tell := tellMeanRuns) (b := 1000) (L := (allO m).take i) (fun x hx => (hbd m hm1 hm6) x (List.mem_of_mem_take hx))
      rw [List.length_take, HF.out, Nat.min_eq_left hiF, ← HX.out.1] at hle
      by_cases hlt : i < F
      · obtain ⟨p, hp⟩ : ∃ p, gs.getD i (0, 0) = p := ⟨_, rfl⟩
        have hiL : i < (allO m).length := by rw [HF.out]; exact hlt
        obtain ⟨zs, hzi⟩ : ∃ zs, (allO m)[i]? = some zs := ⟨_, List.getElem?_eq_getElem hiL⟩
        have hmem : zs ∈ allO m := List.mem_of_getElem? hzi
        have hord := (mem_allO hm1 hm7).1 hmem
        have hrow := H2.out.2.2.1 i hlt
        have hgd : ((allO m).map vals).getD i [] = vals zs := by simp [hzi]
        rw [hp, hgd] at hrow
        have hck : w2.cell? ⟨g, i, none⟩ = some (.slice (some ⟨p.1, 0, none⟩) m p.2) := by
          rw [H2.out.2.1.cellAt i (by omega), ← hp]
          simp [show i < gs.length by have := H2.out.1; omega, sl]
        have hgl := (H2.out.2.1.lt g rfl).2
        have hckr := (HX.out.2.cell (p := ⟨g, i, none⟩) hgl).trans hck
        obtain ⟨p1, p2⟩ := p
        unfold sl at hrow
        simp only at hckr hrow
        have hsee := Sees.owns (kept_call hrow HX.out.2)
        have CQ := Go.Lib.hid (l5Runs_any zs hord.1 wr _ m hsee)
        obtain ⟨R, hR⟩ : ∃ R, tellMeanRuns zs = R := ⟨_, rfl⟩
        have HN : Hid (sumT tellMeanRuns ((allO m).take (i + 1)) = t + R) := Go.Lib.hid (by rw [sumT_take hzi, HX.out.1, hR])
        have HRR := Go.Lib.hid (And.intro hR hord)
        have hlti : (i : Int) < (F : Int) := by omega
        have hR1 : R ≤ 1000 := by rw [← hR]; exact hbd m hm1 hm6 zs hmem
        clear hp hzi hmem hord hrow hgd hck hgl hsee hiL
        go_wp2_with fail
        refine (CQ.out).mono ?_
        rintro e w4 ⟨a4, c4, rfl, _, hb4⟩
        rw [show (rTo zs m).length = R from by rw [← HRR.out.2.2]; exact HRR.out.1]
        have HB4 := Go.Lib.hid (HX.out.2.trans (hb4.mono HX.out.2.size))
        clear hb4 CQ
        go_wp2
        go_roundw
        case rel => exact ⟨i + 1, t + R, by omega, by go_num, by go_num, Go.Lib.hid ⟨HN.out.symm, HB4.out⟩⟩
        case measure => simp [intOf]; omega
      · obtain rfl : i = F := by omega
        have hall : t = sumT tellMeanRuns (allO m) := by rw [HX.out.1, ← HF.out, sumT_all]
        have CL := Go.Lib.hid (fun (X : World) => l9Cut_any t i (by omega) hF1 (by omega) X)
        obtain ⟨x0, hx0⟩ : ∃ x, (cutF t i).1 = x := ⟨_, rfl⟩
        obtain ⟨x1, hx1⟩ : ∃ x, (cutF t i).2 = x := ⟨_, rfl⟩
        have HM : Hid (x0 = a ∧ x1 = b ∧ true = ok) := Go.Lib.hid (by
          have h := HH.out
          unfold meanL at h
          rw [← hall, HF.out, hx0, hx1] at h
          cases h
          exact ⟨rfl, rfl, rfl⟩)
        rw [hx0, hx1] at CL
        have HXA := Go.Lib.hid (And.intro (arr2_call H2.out.2.2.2.1 HX.out.2) (H2.out.2.2.2.2.trans (HX.out.2.mono H2.out.2.2.2.2.size) : Below W.heap.size W wr))
        clear hx0 hx1 hall hle
        go_wp2_with fail
        refine (CL.out _).mono ?_
        rintro e w5 ⟨rfl, hb5⟩
        have H5 := Go.Lib.hid (And.intro (arr2_call HXA.out.1 hb5) (HXA.out.2.trans (hb5.mono HXA.out.2.size) : Below W.heap.size W w5))
        obtain ⟨m0, m1, e0, e1⟩ := arr2_cells H5.out.1
        obtain ⟨s1, s2, hNN⟩ := arr2_store H5.out.1 (.int .i64 (x0 : Int)) (.int .i64 (x1 : Int))
        have HN := Go.Lib.hid (And.intro hNN (arr2_below (Nat.le_refl _) H5.out.2 (.int .i64 (x0 : Int)) (.int .i64 (x1 : Int))))
        clear hNN hb5 CL
        go_wp2_with fail
        (try simp only [Exit.inBlock, Exit.then])
        refine bodyPost_ret (arr2_result2 rfl rfl HN.out.1) rfl ?_
        rw [← HM.out.1, ← HM.out.2.1, ← HM.out.2.2]
        exact ⟨rfl, HN.out.2⟩

end Go.Proofs.YtnhhnffolmgceaaGreat.ChMeanRunsSC

end

section
namespace Go.Proofs.YtnhhnffolmgceaaGreat.ChMeanInversionsIC
open Go.RowKit SeesC IntsC ExactC OrdMath AllO ListsC Arr2C ChM ChQ UsedC MeanOC MeanOC OrdersIterC CollOC KnownC RankC
set_option linter.unusedVariables false

def tellMeanInversions (zs : List Int) : Nat := invTo zs zs.length

set_option maxRecDepth 100000 in
set_option maxHeartbeats 1000000 in
theorem sayMeanInversions (m : Nat) (hm1 : 1 ≤ m) (hm7 : m ≤ 7) (W : World) : TellO 43 #[] m (allO m) tellMeanInversions W := by
  intro zs hz X u hX hs
  have hord := ((mem_allO hm1 hm7).1 hz).1
  have hlen := ((mem_allO hm1 hm7).1 hz).2
  have CF := Go.Lib.hid (implInvs zs _ true (show invsAns zs = (((invTo zs zs.length : Nat) : Int), true) by unfold invsAns; rw [if_pos hord]) (by omega) X u m hs)
  have HH := Go.Lib.hid (And.intro hord hlen)
  obtain ⟨_, ad, cap, rfl, _, _⟩ := hs
  clear hord hlen hz hX
  go_enter Tryz.func43, Tryz.ntmps43
  go_wp2_with fail
  refine (CF.out).mono ?_
  rintro e w1 ⟨rfl, hb⟩
  have H1 := Go.Lib.hid hb
  clear hb CF
  go_wp2_with fail
  refine (knownI _ _ _).mono ?_
  rintro e _ ⟨rfl, rfl⟩
  go_wp2
  go_ret
  exact ⟨rfl, H1.out⟩

set_option maxRecDepth 100000 in
set_option maxHeartbeats 1000000 in
theorem implMeanInversions (hbd : ∀ m, 1 ≤ m → m ≤ 6 → ∀ zs ∈ allO m, tellMeanInversions zs ≤ 1000) (n : Int) (a b : Nat) (ok : Bool) (h : chAns n (fun m => meanL (allO m) tellMeanInversions) = (a, b, ok)) (hw : (Lit.int .i64 n).wf = true) (W : World) :
    Calls Tryz.prog 12 #[.int .i64 n] W fun e w' => FracTo W e w' a b ok := by
  have hA0 := arr2_alloc W (.int .i64 0) (.int .i64 0)
  have hB0 : Below W.heap.size W (W.alloc (.cells #[.int .i64 0, .int .i64 0] 25)) := (Below.refl _ W).alloc (Nat.le_refl _) _
  have HA := Go.Lib.hid (And.intro hA0 hB0)
  have CD := Go.Lib.hid (drawnOrders_any n hw (W.alloc (.cells #[.int .i64 0, .int .i64 0] 25)))
  clear hA0 hB0
  go_enter Tryz.func12, Tryz.ntmps12
  go_wp2_with fail
  refine (CD.out).mono ?_
  rintro e w2 (⟨hno, ⟨a0, c, rfl⟩, hb⟩ | ⟨m, rfl, hm1, hm6, v, rfl, hL, hb⟩)
  · rw [ch_out hno] at h
    cases h
    have H2 := Go.Lib.hid (And.intro (arr2_call HA.out.1 hb) (HA.out.2.trans (hb.mono HA.out.2.size) : Below W.heap.size W w2))
    have CM := Go.Lib.hid (fun (a : Option Addr) (c : Nat) => meanO_none (.func (.func 43) #[] #[]) a c w2)
    clear hb hno CD
    go_wp2_with fail
    refine (CM.out _ _).mono ?_
    rintro e w5 ⟨rfl, hb5⟩
    have H5 := Go.Lib.hid (And.intro (arr2_call H2.out.1 hb5) (H2.out.2.trans (hb5.mono H2.out.2.size) : Below W.heap.size W w5))
    obtain ⟨m0, m1, e0, e1⟩ := arr2_cells H5.out.1
    obtain ⟨s1, s2, hNN⟩ := arr2_store H5.out.1 (.int .i64 0) (.int .i64 0)
    have HN := Go.Lib.hid (And.intro hNN (arr2_below (Nat.le_refl _) H5.out.2 (.int .i64 0) (.int .i64 0)))
    clear hNN hb5 CM
    go_wp2_with fail
    (try simp only [Exit.inBlock, Exit.then])
    refine bodyPost_ret (arr2_result2 rfl rfl HN.out.1) rfl ?_
    exact ⟨rfl, HN.out.2⟩
  · rw [ch_in (q := fun m => meanL (allO m) tellMeanInversions) rfl hm1 hm6] at h
    cases h
    have H2 := Go.Lib.hid (And.intro hL (And.intro (arr2_call HA.out.1 hb) (HA.out.2.trans (hb.mono HA.out.2.size) : Below W.heap.size W w2)))
    have CM := Go.Lib.hid (meanO_any m (allO m) tellMeanInversions (hbd m hm1 hm6) (allO m).length rfl (all_1k hm1 hm6).1 (all_1k hm1 hm6).2 43 #[] (enters_of Tryz.func43 (by kernel_rfl) rfl) w2 v H2.out.1.looks (sayMeanInversions m hm1 (by omega) w2))
    obtain ⟨gs, _, g2, _⟩ := hL
    obtain ⟨_, va, vc, rfl, _, _⟩ := Sees.owns g2
    clear g2 hb CD
    obtain ⟨N, hN⟩ : ∃ N, ((allO m).map vals).length = N := ⟨_, rfl⟩
    rw [hN] at H2 CM ⊢
    clear hN
    go_wp2_with fail
    refine (CM.out).mono ?_
    rintro e w5 ⟨rfl, hb5⟩
    have H5 := Go.Lib.hid (And.intro (arr2_call H2.out.2.1 hb5) (H2.out.2.2.trans (hb5.mono H2.out.2.2.size) : Below W.heap.size W w5))
    obtain ⟨x0, hx0⟩ : ∃ x, (meanL (allO m) tellMeanInversions).1 = x := ⟨_, rfl⟩
    obtain ⟨x1, hx1⟩ : ∃ x, (meanL (allO m) tellMeanInversions).2 = x := ⟨_, rfl⟩
    rw [hx0, hx1]
    have HM := Go.Lib.hid (And.intro hx0 hx1)
    obtain ⟨m0, m1, e0, e1⟩ := arr2_cells H5.out.1
    obtain ⟨s1, s2, hNN⟩ := arr2_store H5.out.1 (.int .i64 (x0 : Int)) (.int .i64 (x1 : Int))
    have HN := Go.Lib.hid (And.intro hNN (arr2_below (Nat.le_refl _) H5.out.2 (.int .i64 (x0 : Int)) (.int .i64 (x1 : Int))))
    clear hNN hb5 CM hx0 hx1
    go_wp2_with fail
    (try simp only [Exit.inBlock, Exit.then])
    refine bodyPost_ret (arr2_result2 rfl rfl HN.out.1) rfl ?_
    first | exact ⟨rfl, HN.out.2⟩ | (rw [HM.out.1, HM.out.2]; exact ⟨rfl, HN.out.2⟩)

end Go.Proofs.YtnhhnffolmgceaaGreat.ChMeanInversionsIC

end

section
namespace Go.Proofs.YtnhhnffolmgceaaGreat.ChMeanInversionsSC
open Go.RowKit SeesC IntsC ExactC OrdMath AllO ListsC ListsEC Arr2C ChM ChQ CutFC L9C OrdsSpC ChMeanInversionsIC RankC
set_option linter.unusedVariables false

set_option maxRecDepth 100000 in
set_option maxHeartbeats 4000000 in
theorem specMeanInversions (hbd : ∀ m, 1 ≤ m → m ≤ 6 → ∀ zs ∈ allO m, tellMeanInversions zs ≤ 1000) (n : Int) (a b : Nat) (ok : Bool) (h : chAns n (fun m => meanL (allO m) tellMeanInversions) = (a, b, ok)) (hw : (Lit.int .i64 n).wf = true) (W : World) :
    Calls Tryz.prog 13 #[.int .i64 n] W fun e w' => FracTo W e w' a b ok := by
  have hA0 := arr2_alloc W (.int .i64 0) (.int .i64 0)
  have hB0 : Below W.heap.size W (W.alloc (.cells #[.int .i64 0, .int .i64 0] 25)) := (Below.refl _ W).alloc (Nat.le_refl _) _
  have HA := Go.Lib.hid (And.intro hA0 hB0)
  clear hA0 hB0
  obtain ⟨r, hr⟩ : ∃ r, decide (1 ≤ n ∧ n ≤ 6) = r := ⟨_, rfl⟩
  have CZ := Go.Lib.hid (fun (X : World) => l9Size_any n X r hr)
  have HR := Go.Lib.hid hr
  clear hr
  obtain ⟨W1, hW1⟩ : ∃ W1, W.alloc (.cells #[.int .i64 0, .int .i64 0] 25) = W1 := ⟨_, rfl⟩
  cases r with
  | false =>
    rw [ch_out (of_decide_eq_false HR.out)] at h
    cases h
    go_enter Tryz.func13, Tryz.ntmps13
    go_wp2_with fail
    rw [hW1] at HA
    refine (CZ.out _).mono ?_
    rintro e _ ⟨rfl, rfl⟩
    obtain ⟨m0, m1, e0, e1⟩ := arr2_cells HA.out.1
    obtain ⟨s1, s2, hNN⟩ := arr2_store HA.out.1 (.int .i64 0) (.int .i64 0)
    have HN := Go.Lib.hid (And.intro hNN (arr2_below (Nat.le_refl _) HA.out.2 (.int .i64 0) (.int .i64 0)))
    clear hNN
    go_wp2_with fail
    (try simp only [Exit.inBlock, Exit.then])
    refine bodyPost_ret (arr2_result2 rfl rfl HN.out.1) rfl ?_
    exact ⟨rfl, HN.out.2⟩
  | true =>
    have h16 := of_decide_eq_true HR.out
    obtain ⟨m, rfl⟩ : ∃ m : Nat, n = (m : Int) := ⟨n.toNat, by omega⟩
    have hm1 : 1 ≤ m := by omega
    have hm6 : m ≤ 6 := by omega
    have hm7 : m ≤ 7 := by omega
    rw [ch_in (q := fun m => meanL (allO m) tellMeanInversions) rfl hm1 hm6] at h
    have HH := Go.Lib.hid h
    have CO := Go.Lib.hid (fun (X : World) => l2Orders_any m hm1 hm7 X)
    obtain ⟨F, hF⟩ : ∃ F, (allO m).length = F := ⟨_, rfl⟩
    have hFF := all_1k hm1 hm6
    rw [hF] at hFF
    have hF1 := hFF.1
    have hF5 := hFF.2
    have HF := Go.Lib.hid hF
    clear hF hFF h h16 HR
    go_enter Tryz.func13, Tryz.ntmps13
    go_wp2_with fail
    rw [hW1] at HA
    refine (CZ.out _).mono ?_
    rintro e _ ⟨rfl, rfl⟩
    go_wp2_with fail
    refine (CO.out _).mono ?_
    rintro e w2 ⟨v2, rfl, hl2, hb2⟩
    obtain ⟨gs, hg, hog, hin, _, _⟩ := hl2
    rw [List.length_map, HF.out] at hg hog hin
    obtain ⟨g, c, rfl⟩ := own_pos hog (by omega)
    have H2 := Go.Lib.hid (And.intro hg (And.intro hog (And.intro hin (And.intro (arr2_call HA.out.1 hb2) (HA.out.2.trans (hb2.mono HA.out.2.size) : Below W.heap.size W w2)))))
    clear hg hog hin hb2 CO CZ hW1
    go_wp2_with fail
    go_loopw [4, 6] (fun mv iv wr => ∃ (i t : Nat), i ≤ F ∧ iv = .int .i64 i ∧ mv = .int .i64 t ∧ Hid (t = sumT tellMeanInversions ((allO m).take i) ∧ Below w2.heap.size w2 wr)) (fun _ i _ => F - (intOf i).toNat)
    case atStart => exact ⟨0, 0, Nat.zero_le _, rfl, rfl, Go.Lib.hid ⟨rfl, Below.refl _ _⟩⟩
    case round =>
      obtain ⟨i, t, hiF, rfl, rfl, HX⟩ := hrel
      have hle := sumT_le (tell := tellMeanInversions) (b := 1000) (L := (allO m).take i) (fun x hx => (hbd m hm1 hm6) x (List.mem_of_mem_take hx))
      rw [List.length_take, HF.out, Nat.min_eq_left hiF, ← HX.out.1] at hle
      by_cases hlt : i < F
      · obtain ⟨p, hp⟩ : ∃ p, gs.getD i (0, 0) = p := ⟨_, rfl⟩
        have hiL : i < (allO m).length := by rw [HF.out]; exact hlt
        obtain ⟨zs, hzi⟩ : ∃ zs, (allO m)[i]? = some zs := ⟨_, List.getElem?_eq_getElem hiL⟩
        have hmem : zs ∈ allO m := List.mem_of_getElem? hzi
        have hord := (mem_allO hm1 hm7).1 hmem
        have hrow := H2.out.2.2.1 i hlt
        have hgd : ((allO m).map vals).getD i [] = vals zs := by simp [hzi]
        rw [hp, hgd] at hrow
        have hck : w2.cell? ⟨g, i, none⟩ = some (.slice (some ⟨p.1, 0, none⟩) m p.2) := by
          rw [H2.out.2.1.cellAt i (by omega), ← hp]
          simp [show i < gs.length by have := H2.out.1; omega, sl]
        have hgl := (H2.out.2.1.lt g rfl).2
        have hckr := (HX.out.2.cell (p := ⟨g, i, none⟩) hgl).trans hck
        obtain ⟨p1, p2⟩ := p
        unfold sl at hrow
        simp only at hckr hrow
        have hsee := Sees.owns (kept_call hrow HX.out.2)
        have CQ := Go.Lib.hid (specInvs zs _ true (show invsAns zs = (((invTo zs zs.length : Nat) : Int), true) by unfold invsAns; rw [if_pos hord.1]) (by have := hord.2; omega) wr _ m hsee)
        obtain ⟨R, hR⟩ : ∃ R, tellMeanInversions zs = R := ⟨_, rfl⟩
        have HN : Hid (sumT tellMeanInversions ((allO m).take (i + 1)) = t + R) := Go.Lib.hid (by rw [sumT_take hzi, HX.out.1, hR])
        have HRR := Go.Lib.hid (And.intro hR hord)
        rw [show invTo zs zs.length = R from hR] at CQ
        have hlti : (i : Int) < (F : Int) := by omega
        have hR1 : R ≤ 1000 := by rw [← hR]; exact hbd m hm1 hm6 zs hmem
        clear hp hzi hmem hord hrow hgd hck hgl hsee hiL
        go_wp2_with fail
        refine (CQ.out).mono ?_
        rintro e w4 ⟨rfl, hb4⟩
        have HB4 := Go.Lib.hid (HX.out.2.trans (hb4.mono HX.out.2.size))
        clear hb4 CQ
        go_wp2
        go_roundw
        case rel => exact ⟨i + 1, t + R, by omega, by go_num, by go_num, Go.Lib.hid ⟨HN.out.symm, HB4.out⟩⟩
        case measure => simp [intOf]; omega
      · obtain rfl : i = F := by omega
        have hall : t = sumT tellMeanInversions (allO m) := by rw [HX.out.1, ← HF.out, sumT_all]
        have CL := Go.Lib.hid (fun (X : World) => l9Cut_any t i (by omega) hF1 (by omega) X)
        obtain ⟨x0, hx0⟩ : ∃ x, (cutF t i).1 = x := ⟨_, rfl⟩
        obtain ⟨x1, hx1⟩ : ∃ x, (cutF t i).2 = x := ⟨_, rfl⟩
        have HM : Hid (x0 = a ∧ x1 = b ∧ true = ok) := Go.Lib.hid (by
          have h := HH.out
          unfold meanL at h
          rw [← hall, HF.out, hx0, hx1] at h
          cases h
          exact ⟨rfl, rfl, rfl⟩)
        rw [hx0, hx1] at CL
        have HXA := Go.Lib.hid (And.intro (arr2_call H2.out.2.2.2.1 HX.out.2) (H2.out.2.2.2.2.trans (HX.out.2.mono H2.out.2.2.2.2.size) : Below W.heap.size W wr))
        clear hx0 hx1 hall hle
        go_wp2_with fail
        refine (CL.out _).mono ?_
        rintro e w5 ⟨rfl, hb5⟩
        have H5 := Go.Lib.hid (And.intro (arr2_call HXA.out.1 hb5) (HXA.out.2.trans (hb5.mono HXA.out.2.size) : Below W.heap.size W w5))
        obtain ⟨m0, m1, e0, e1⟩ := arr2_cells H5.out.1
        obtain ⟨s1, s2, hNN⟩ := arr2_store H5.out.1 (.int .i64 (x0 : Int)) (.int .i64 (x1 : Int))
        have HN := Go.Lib.hid (And.intro hNN (arr2_below (Nat.le_refl _) H5.out.2 (.int .i64 (x0 : Int)) (.int .i64 (x1 : Int))))
        clear hNN hb5 CL
        go_wp2_with fail
        (try simp only [Exit.inBlock, Exit.then])
        refine bodyPost_ret (arr2_result2 rfl rfl HN.out.1) rfl ?_
        rw [← HM.out.1, ← HM.out.2.1, ← HM.out.2.2]
        exact ⟨rfl, HN.out.2⟩

end Go.Proofs.YtnhhnffolmgceaaGreat.ChMeanInversionsSC

end

section
namespace Go.Proofs.YtnhhnffolmgceaaGreat.ChChanceQueuesIC
open Go.RowKit SeesC IntsC ExactC OrdMath AllO ListsC Arr2C ChM ChQ UsedC MeanOC ChanceOC OrdersIterC CollOC KnownC QueM QuePC
set_option linter.unusedVariables false

def toldChanceQueues (zs : List Int) : Nat := (qTo zs zs.length).length
def tellChanceQueues (k : Int) (zs : List Int) : Bool := ((toldChanceQueues zs : Nat) : Int) == k
def ansChanceQueues (n k : Int) : Nat × Nat × Bool := if 1 ≤ k ∧ k ≤ 6 then chAns n (fun m => meanL (allO m) (isT (tellChanceQueues k))) else (0, 0, false)

set_option maxRecDepth 100000 in
set_option maxHeartbeats 1000000 in
theorem sayChanceQueues (k : Int) (m : Nat) (hm1 : 1 ≤ m) (hm7 : m ≤ 7) (W : World) : SaysO 49 #[.int .i64 k] m (allO m) (tellChanceQueues k) W := by
  intro zs hz X u hX hs
  have hord := ((mem_allO hm1 hm7).1 hz).1
  have hlen := ((mem_allO hm1 hm7).1 hz).2
  have CF := Go.Lib.hid (implFewestQueues zs _ true (show fewAns zs = ((((qTo zs zs.length).length : Nat) : Int), true) by unfold fewAns; rw [if_pos hord]) (by omega) X u m hs)
  obtain ⟨Q, hQ⟩ : ∃ Q, (qTo zs zs.length).length = Q := ⟨_, rfl⟩
  obtain ⟨R, hR⟩ : ∃ R, ((Q : Int) == k) = R := ⟨_, rfl⟩
  have HH : Hid (tellChanceQueues k zs = R) := Go.Lib.hid (by unfold tellChanceQueues toldChanceQueues; rw [hQ, hR])
  rw [hQ] at CF
  obtain ⟨_, ad, cap, rfl, _, _⟩ := hs
  clear hord hlen hz hX hQ
  go_enter Tryz.func49, Tryz.ntmps49
  go_wp2_with fail
  refine (CF.out).mono ?_
  rintro e w1 ⟨rfl, hb⟩
  have H1 := Go.Lib.hid hb
  clear hb CF
  go_wp2_with fail
  refine (knownI _ _ _).mono ?_
  rintro e _ ⟨rfl, rfl⟩
  go_wp2
  go_ret
  first | exact ⟨by rw [HH.out]; rfl, H1.out⟩ | exact ⟨by rw [HH.out, ← hR]; rfl, H1.out⟩

set_option maxRecDepth 100000 in
set_option maxHeartbeats 1000000 in
theorem implChanceQueues (n k : Int) (a b : Nat) (ok : Bool) (h : ansChanceQueues n k = (a, b, ok)) (hw : (Lit.int .i64 n).wf = true) (hk : (Lit.int .i64 k).wf = true) (W : World) :
    Calls Tryz.prog 16 #[.int .i64 n, .int .i64 k] W fun e w' => FracTo W e w' a b ok := by
  have hA0 := arr2_alloc W (.int .i64 0) (.int .i64 0)
  have hB0 : Below W.heap.size W (W.alloc (.cells #[.int .i64 0, .int .i64 0] 25)) := (Below.refl _ W).alloc (Nat.le_refl _) _
  have HA := Go.Lib.hid (And.intro hA0 hB0)
  have CD := Go.Lib.hid (fun (X : World) => drawnOrders_any n hw X)
  clear hA0 hB0
  obtain ⟨W1, hW1⟩ : ∃ W1, W.alloc (.cells #[.int .i64 0, .int .i64 0] 25) = W1 := ⟨_, rfl⟩
  unfold ansChanceQueues at h
  rw [hW1] at HA
  by_cases hk0 : 1 ≤ k ∧ k ≤ 6
  · rw [if_pos hk0] at h
    have hk1 : ¬ k < 1 := by omega
    have hk2 : ¬ 6 < k := by omega
    clear hk0
    go_enter Tryz.func16, Tryz.ntmps16
    go_wp2_with fail
    refine (CD.out _).mono ?_
    rintro e w2 (⟨hno, ⟨a0, c, rfl⟩, hb⟩ | ⟨m, rfl, hm1, hm6, v, rfl, hL, hb⟩)
    · rw [ch_out hno] at h
      cases h
      have H2 := Go.Lib.hid (And.intro (arr2_call HA.out.1 hb) (HA.out.2.trans (hb.mono HA.out.2.size) : Below W.heap.size W w2))
      have CM := Go.Lib.hid (fun (a : Option Addr) (c : Nat) => chanceO_none (.func 49) #[.int .i64 k] #[] a c w2)
      clear hb hno CD
      go_wp2_with fail
      refine (CM.out _ _).mono ?_
      rintro e w5 ⟨rfl, hb5⟩
      have H5 := Go.Lib.hid (And.intro (arr2_call H2.out.1 hb5) (H2.out.2.trans (hb5.mono H2.out.2.size) : Below W.heap.size W w5))
      obtain ⟨m0, m1, e0, e1⟩ := arr2_cells H5.out.1
      obtain ⟨s1, s2, hNN⟩ := arr2_store H5.out.1 (.int .i64 0) (.int .i64 0)
      have HN := Go.Lib.hid (And.intro hNN (arr2_below (Nat.le_refl _) H5.out.2 (.int .i64 0) (.int .i64 0)))
      clear hNN hb5 CM
      go_wp2_with fail
      (try simp only [Exit.inBlock, Exit.then])
      refine bodyPost_ret (arr2_result2 rfl rfl HN.out.1) rfl ?_
      exact ⟨rfl, HN.out.2⟩
    · rw [ch_in (q := fun m => meanL (allO m) (isT (tellChanceQueues k))) rfl hm1 hm6] at h
      cases h
      have H2 := Go.Lib.hid (And.intro hL (And.intro (arr2_call HA.out.1 hb) (HA.out.2.trans (hb.mono HA.out.2.size) : Below W.heap.size W w2)))
      have CM := Go.Lib.hid (chanceO_any m (allO m) (tellChanceQueues k) (allO m).length rfl (all_1k hm1 hm6).1 (all_1k hm1 hm6).2 49 #[.int .i64 k] (enters_of Tryz.func49 (by kernel_rfl) rfl) w2 v H2.out.1.looks (sayChanceQueues k m hm1 (by omega) w2))
      obtain ⟨gs, _, g2, _⟩ := hL
      obtain ⟨_, va, vc, rfl, _, _⟩ := Sees.owns g2
      clear g2 hb CD
      obtain ⟨N, hN⟩ : ∃ N, ((allO m).map vals).length = N := ⟨_, rfl⟩
      rw [hN] at H2 CM ⊢
      clear hN
      go_wp2_with fail
      refine (CM.out).mono ?_
      rintro e w5 ⟨rfl, hb5⟩
      have H5 := Go.Lib.hid (And.intro (arr2_call H2.out.2.1 hb5) (H2.out.2.2.trans (hb5.mono H2.out.2.2.size) : Below W.heap.size W w5))
      obtain ⟨x0, hx0⟩ : ∃ x, (meanL (allO m) (isT (tellChanceQueues k))).1 = x := ⟨_, rfl⟩
      obtain ⟨x1, hx1⟩ : ∃ x, (meanL (allO m) (isT (tellChanceQueues k))).2 = x := ⟨_, rfl⟩
      rw [hx0, hx1]
      have HM := Go.Lib.hid (And.intro hx0 hx1)
      obtain ⟨m0, m1, e0, e1⟩ := arr2_cells H5.out.1
      obtain ⟨s1, s2, hNN⟩ := arr2_store H5.out.1 (.int .i64 (x0 : Int)) (.int .i64 (x1 : Int))
      have HN := Go.Lib.hid (And.intro hNN (arr2_below (Nat.le_refl _) H5.out.2 (.int .i64 (x0 : Int)) (.int .i64 (x1 : Int))))
      clear hNN hb5 CM hx0 hx1
      go_wp2_with fail
      (try simp only [Exit.inBlock, Exit.then])
      refine bodyPost_ret (arr2_result2 rfl rfl HN.out.1) rfl ?_
      first | exact ⟨rfl, HN.out.2⟩ | (rw [HM.out.1, HM.out.2]; exact ⟨rfl, HN.out.2⟩)
  · rw [if_neg hk0] at h
    cases h
    obtain ⟨m0, m1, e0, e1⟩ := arr2_cells HA.out.1
    obtain ⟨s1, s2, hNN⟩ := arr2_store HA.out.1 (.int .i64 0) (.int .i64 0)
    have HN := Go.Lib.hid (And.intro hNN (arr2_below (Nat.le_refl _) HA.out.2 (.int .i64 0) (.int .i64 0)))
    clear hNN
    by_cases hk1 : k < 1
    · clear hk0
      go_enter Tryz.func16, Tryz.ntmps16
      go_wp2_with fail
      (try simp only [Exit.inBlock, Exit.then])
      refine bodyPost_ret (arr2_result2 rfl rfl HN.out.1) rfl ?_
      exact ⟨rfl, HN.out.2⟩
    · have hk2 : 6 < k := by omega
      clear hk0
      go_enter Tryz.func16, Tryz.ntmps16
      go_wp2_with fail
      (try simp only [Exit.inBlock, Exit.then])
      refine bodyPost_ret (arr2_result2 rfl rfl HN.out.1) rfl ?_
      exact ⟨rfl, HN.out.2⟩

end Go.Proofs.YtnhhnffolmgceaaGreat.ChChanceQueuesIC

end

section
namespace Go.Proofs.YtnhhnffolmgceaaGreat.ChChanceQueuesSC
open Go.RowKit SeesC IntsC ExactC OrdMath AllO ListsC ListsEC Arr2C ChM ChQ CutFC L9C OrdsSpC ChChanceQueuesIC InC QueM QueSC LLC RagMarkC RagResC
set_option linter.unusedVariables false

set_option maxRecDepth 100000 in
set_option maxHeartbeats 4000000 in
theorem specChanceQueues (n k : Int) (a b : Nat) (ok : Bool) (h : ansChanceQueues n k = (a, b, ok)) (hw : (Lit.int .i64 n).wf = true) (hk : (Lit.int .i64 k).wf = true) (W : World) :
    Calls Tryz.prog 17 #[.int .i64 n, .int .i64 k] W fun e w' => FracTo W e w' a b ok := by
  have hA0 := arr2_alloc W (.int .i64 0) (.int .i64 0)
  have hB0 : Below W.heap.size W (W.alloc (.cells #[.int .i64 0, .int .i64 0] 25)) := (Below.refl _ W).alloc (Nat.le_refl _) _
  have HA := Go.Lib.hid (And.intro hA0 hB0)
  clear hA0 hB0
  obtain ⟨r, hr⟩ : ∃ r, decide (1 ≤ n ∧ n ≤ 6) = r := ⟨_, rfl⟩
  have CZ := Go.Lib.hid (fun (X : World) => l9Size_any n X r hr)
  have HR := Go.Lib.hid hr
  clear hr
  obtain ⟨r2, hr2⟩ : ∃ r, decide (1 ≤ k ∧ k ≤ 6) = r := ⟨_, rfl⟩
  have CK := Go.Lib.hid (fun (X : World) => (l1In_any k 1 6 X r2 hr2).mono (fun e w' h => show e = .returned (.bool r2) ∧ w' = X from ⟨h.1, h.2.symm⟩))
  have HR2 := Go.Lib.hid hr2
  clear hr2
  obtain ⟨W1, hW1⟩ : ∃ W1, W.alloc (.cells #[.int .i64 0, .int .i64 0] 25) = W1 := ⟨_, rfl⟩
  cases r with
  | false =>
    have h2 : ansChanceQueues n k = (0, 0, false) := by
      unfold ansChanceQueues
      split
      · exact ch_out (of_decide_eq_false HR.out)
      · rfl
    rw [h2] at h
    clear h2
    cases h
    go_enter Tryz.func17, Tryz.ntmps17
    go_wp2_with fail
    rw [hW1] at HA
    refine (CZ.out _).mono ?_
    rintro e _ ⟨rfl, rfl⟩
    obtain ⟨m0, m1, e0, e1⟩ := arr2_cells HA.out.1
    obtain ⟨s1, s2, hNN⟩ := arr2_store HA.out.1 (.int .i64 0) (.int .i64 0)
    have HN := Go.Lib.hid (And.intro hNN (arr2_below (Nat.le_refl _) HA.out.2 (.int .i64 0) (.int .i64 0)))
    clear hNN
    go_wp2_with fail
    (try simp only [Exit.inBlock, Exit.then])
    refine bodyPost_ret (arr2_result2 rfl rfl HN.out.1) rfl ?_
    exact ⟨rfl, HN.out.2⟩
  | true =>
    cases r2 with
    | false =>
      have h2 : ansChanceQueues n k = (0, 0, false) := by unfold ansChanceQueues; rw [if_neg (of_decide_eq_false HR2.out)]
      rw [h2] at h
      cases h
      clear h2
      go_enter Tryz.func17, Tryz.ntmps17
      go_wp2_with fail
      rw [hW1] at HA
      refine (CZ.out _).mono ?_
      rintro e _ ⟨rfl, rfl⟩
      go_wp2_with fail
      refine (CK.out _).mono ?_
      rintro e _ ⟨rfl, rfl⟩
      obtain ⟨m0, m1, e0, e1⟩ := arr2_cells HA.out.1
      obtain ⟨s1, s2, hNN⟩ := arr2_store HA.out.1 (.int .i64 0) (.int .i64 0)
      have HN := Go.Lib.hid (And.intro hNN (arr2_below (Nat.le_refl _) HA.out.2 (.int .i64 0) (.int .i64 0)))
      clear hNN
      go_wp2_with fail
      (try simp only [Exit.inBlock, Exit.then])
      refine bodyPost_ret (arr2_result2 rfl rfl HN.out.1) rfl ?_
      exact ⟨rfl, HN.out.2⟩
    | true =>
      have h16 := of_decide_eq_true HR.out
      obtain ⟨m, rfl⟩ : ∃ m : Nat, n = (m : Int) := ⟨n.toNat, by omega⟩
      have hm1 : 1 ≤ m := by omega
      have hm6 : m ≤ 6 := by omega
      have hm7 : m ≤ 7 := by omega
      have h2 : ansChanceQueues (m : Int) k = chAns (m : Int) (fun m => meanL (allO m) (isT (tellChanceQueues k))) := by unfold ansChanceQueues; rw [if_pos (of_decide_eq_true HR2.out)]
      rw [h2] at h
      clear h2
      rw [ch_in (q := fun m => meanL (allO m) (isT (tellChanceQueues k))) rfl hm1 hm6] at h
      have HH := Go.Lib.hid h
      have CO := Go.Lib.hid (fun (X : World) => l2Orders_any m hm1 hm7 X)
      obtain ⟨F, hF⟩ : ∃ F, (allO m).length = F := ⟨_, rfl⟩
      have hFF := all_1k hm1 hm6
      rw [hF] at hFF
      have hF1 := hFF.1
      have hF5 := hFF.2
      have HF := Go.Lib.hid hF
      clear hF hFF h h16 HR
      go_enter Tryz.func17, Tryz.ntmps17
      go_wp2_with fail
      rw [hW1] at HA
      refine (CZ.out _).mono ?_
      rintro e _ ⟨rfl, rfl⟩
      go_wp2_with fail
      refine (CK.out _).mono ?_
      rintro e _ ⟨rfl, rfl⟩
      go_wp2_with fail
      refine (CO.out _).mono ?_
      rintro e w2 ⟨v2, rfl, hl2, hb2⟩
      obtain ⟨gs, hg, hog, hin, _, _⟩ := hl2
      rw [List.length_map, HF.out] at hg hog hin
      obtain ⟨g, c, rfl⟩ := own_pos hog (by omega)
      have H2 := Go.Lib.hid (And.intro hg (And.intro hog (And.intro hin (And.intro (arr2_call HA.out.1 hb2) (HA.out.2.trans (hb2.mono HA.out.2.size) : Below W.heap.size W w2)))))
      clear hg hog hin hb2 CO CZ hW1
      go_wp2_with fail
      go_loopw [6, 8] (fun mv iv wr => ∃ (i t : Nat), i ≤ F ∧ iv = .int .i64 i ∧ mv = .int .i64 t ∧ Hid (t = sumT (isT (tellChanceQueues k)) ((allO m).take i) ∧ Below w2.heap.size w2 wr)) (fun _ i _ => F - (intOf i).toNat)
      case atStart => exact ⟨0, 0, Nat.zero_le _, rfl, rfl, Go.Lib.hid ⟨rfl, Below.refl _ _⟩⟩
      case round =>
        obtain ⟨i, t, hiF, rfl, rfl, HX⟩ := hrel
        have hle := sumT_le (tell := (isT (tellChanceQueues k))) (b := 1000) (L := (allO m).take i) (fun x hx => (fun zs _ => Nat.le_trans (isT_le (tellChanceQueues k) zs) (by omega)) x (List.mem_of_mem_take hx))
        rw [List.length_take, HF.out, Nat.min_eq_left hiF, ← HX.out.1] at hle
        by_cases hlt : i < F
        · obtain ⟨p, hp⟩ : ∃ p, gs.getD i (0, 0) = p := ⟨_, rfl⟩
          have hiL : i < (allO m).length := by rw [HF.out]; exact hlt
          obtain ⟨zs, hzi⟩ : ∃ zs, (allO m)[i]? = some zs := ⟨_, List.getElem?_eq_getElem hiL⟩
          have hmem : zs ∈ allO m := List.mem_of_getElem? hzi
          have hord := (mem_allO hm1 hm7).1 hmem
          have hrow := H2.out.2.2.1 i hlt
          have hgd : ((allO m).map vals).getD i [] = vals zs := by simp [hzi]
          rw [hp, hgd] at hrow
          have hck : w2.cell? ⟨g, i, none⟩ = some (.slice (some ⟨p.1, 0, none⟩) m p.2) := by
            rw [H2.out.2.1.cellAt i (by omega), ← hp]
            simp [show i < gs.length by have := H2.out.1; omega, sl]
          have hgl := (H2.out.2.1.lt g rfl).2
          have hckr := (HX.out.2.cell (p := ⟨g, i, none⟩) hgl).trans hck
          obtain ⟨p1, p2⟩ := p
          unfold sl at hrow
          simp only at hckr hrow
          have hsee := Sees.owns (kept_call hrow HX.out.2)
          have CQ := Go.Lib.hid (l5Queues_any zs hord.1 wr _ m hsee)
          obtain ⟨Q, hQ⟩ : ∃ Q, toldChanceQueues zs = Q := ⟨_, rfl⟩
          obtain ⟨R, hR⟩ : ∃ R, tellChanceQueues k zs = R := ⟨_, rfl⟩
          have HN : Hid (sumT (isT (tellChanceQueues k)) ((allO m).take (i + 1)) = if R = true then t + 1 else t) := Go.Lib.hid (by rw [sumT_take hzi, HX.out.1]; unfold isT; rw [hR]; cases R <;> rfl)
          have hqk : ((Q : Int) == k) = R := by rw [← hR, ← hQ]; rfl
          have HRR := Go.Lib.hid (And.intro hQ (And.intro hR hord))
          have hlti : (i : Int) < (F : Int) := by omega
          clear hp hzi hmem hord hrow hgd hck hgl hsee hiL hQ hR
          go_wp2_with fail
          refine (CQ.out).mono ?_
          rintro e w4 ⟨a4, c4, rfl, _, hb4⟩
          rw [show (qTo zs m).length = Q from by rw [← HRR.out.2.2.2]; exact HRR.out.1]
          have HB4 := Go.Lib.hid (HX.out.2.trans (hb4.mono HX.out.2.size))
          clear hb4 CQ
          cases R with
          | true =>
            go_wp2
            go_roundw
            case rel => exact ⟨i + 1, t + 1, by omega, by go_num, by go_num, Go.Lib.hid ⟨HN.out.symm, HB4.out⟩⟩
            case measure => simp [intOf]; omega
          | false =>
            go_wp2
            go_roundw
            case rel => exact ⟨i + 1, t, by omega, by go_num, by rfl, Go.Lib.hid ⟨HN.out.symm, HB4.out⟩⟩
            case measure => simp [intOf]; omega
        · obtain rfl : i = F := by omega
          have hall : t = sumT (isT (tellChanceQueues k)) (allO m) := by rw [HX.out.1, ← HF.out, sumT_all]
          have CL := Go.Lib.hid (fun (X : World) => l9Cut_any t i (by omega) hF1 (by omega) X)
          obtain ⟨x0, hx0⟩ : ∃ x, (cutF t i).1 = x := ⟨_, rfl⟩
          obtain ⟨x1, hx1⟩ : ∃ x, (cutF t i).2 = x := ⟨_, rfl⟩
          have HM : Hid (x0 = a ∧ x1 = b ∧ true = ok) := Go.Lib.hid (by
            have h := HH.out
            unfold meanL at h
            rw [← hall, HF.out, hx0, hx1] at h
            cases h
            exact ⟨rfl, rfl, rfl⟩)
          rw [hx0, hx1] at CL
          have HXA := Go.Lib.hid (And.intro (arr2_call H2.out.2.2.2.1 HX.out.2) (H2.out.2.2.2.2.trans (HX.out.2.mono H2.out.2.2.2.2.size) : Below W.heap.size W wr))
          clear hx0 hx1 hall hle
          go_wp2_with fail
          refine (CL.out _).mono ?_
          rintro e w5 ⟨rfl, hb5⟩
          have H5 := Go.Lib.hid (And.intro (arr2_call HXA.out.1 hb5) (HXA.out.2.trans (hb5.mono HXA.out.2.size) : Below W.heap.size W w5))
          obtain ⟨m0, m1, e0, e1⟩ := arr2_cells H5.out.1
          obtain ⟨s1, s2, hNN⟩ := arr2_store H5.out.1 (.int .i64 (x0 : Int)) (.int .i64 (x1 : Int))
          have HN := Go.Lib.hid (And.intro hNN (arr2_below (Nat.le_refl _) H5.out.2 (.int .i64 (x0 : Int)) (.int .i64 (x1 : Int))))
          clear hNN hb5 CL
          go_wp2_with fail
          (try simp only [Exit.inBlock, Exit.then])
          refine bodyPost_ret (arr2_result2 rfl rfl HN.out.1) rfl ?_
          rw [← HM.out.1, ← HM.out.2.1, ← HM.out.2.2]
          exact ⟨rfl, HN.out.2⟩

end Go.Proofs.YtnhhnffolmgceaaGreat.ChChanceQueuesSC

end

section
namespace Go.Proofs.YtnhhnffolmgceaaGreat.ChChanceAvoidsIC
open Go.RowKit SeesC IntsC ExactC OrdMath AllO PatMath LLC AvoidC ListsC Arr2C ChM ChQ UsedC MeanOC ChanceOC OrdersIterC CollOC
set_option linter.unusedVariables false

def tellChanceAvoids (L : List (List Int)) (zs : List Int) : Bool := avoids zs L
def ansChanceAvoids (n : Int) (L : List (List Int)) : Nat × Nat × Bool := if pats L = true then chAns n (fun m => meanL (allO m) (isT (tellChanceAvoids L))) else (0, 0, false)

set_option maxRecDepth 100000 in
set_option maxHeartbeats 1000000 in
theorem sayChanceAvoids (L : List (List Int)) (m : Nat) (hm1 : 1 ≤ m) (hm7 : m ≤ 7) (hp : pats L = true) (W : World) (p : Value) (hu : SeesLL W p L) : SaysO 54 #[p] m (allO m) (tellChanceAvoids L) W := by
  intro zs hz X u hX hs
  have hord := ((mem_allO hm1 hm7).1 hz).1
  obtain ⟨R, hR⟩ : ∃ R, tellChanceAvoids L zs = R := ⟨_, rfl⟩
  have CF := Go.Lib.hid (implAvoids_any zs L R hord.2.2.2 hord.1 hord.2.1 hp hR X u p m hs (hu.grow hX))
  have HR := Go.Lib.hid hR
  obtain ⟨_, ad, cap, rfl, _, _⟩ := hs
  obtain ⟨a, c, rfl⟩ := hu.value
  clear hord hz hX hR hu
  go_enter Tryz.func54, Tryz.ntmps54
  go_wp2_with fail
  refine (CF.out).mono ?_
  rintro e w1 ⟨rfl, hb⟩
  have H1 := Go.Lib.hid hb
  clear hb CF
  go_wp2_with fail
  go_ret
  exact ⟨by rw [HR.out]; rfl, H1.out⟩

set_option maxRecDepth 100000 in
set_option maxHeartbeats 1000000 in
theorem implChanceAvoids (n : Int) (L : List (List Int)) (a b : Nat) (ok : Bool) (h : ansChanceAvoids n L = (a, b, ok)) (hw : (Lit.int .i64 n).wf = true) (hz2 : L.length + tot L ≤ 1048576) (W : World) (u : Value) (hu : SeesLL W u L) :
    Calls Tryz.prog 19 #[.int .i64 n, u] W fun e w' => FracTo W e w' a b ok := by
  have hA0 := arr2_alloc W (.int .i64 0) (.int .i64 0)
  have hB0 : Below W.heap.size W (W.alloc (.cells #[.int .i64 0, .int .i64 0] 25)) := (Below.refl _ W).alloc (Nat.le_refl _) _
  have HA := Go.Lib.hid (And.intro hA0 hB0)
  have CD := Go.Lib.hid (fun (X : World) => drawnOrders_any n hw X)
  clear hA0 hB0
  obtain ⟨W1, hW1⟩ : ∃ W1, W.alloc (.cells #[.int .i64 0, .int .i64 0] 25) = W1 := ⟨_, rfl⟩
  unfold ansChanceAvoids at h
  rw [hW1] at HA
  obtain ⟨r, hr⟩ : ∃ r, pats L = r := ⟨_, rfl⟩
  have CP := Go.Lib.hid (fun (X : World) (hX : Below W.heap.size W X) => implPats_any L r X u (hu.grow hX) hz2 hr)
  have HU := Go.Lib.hid hu
  obtain ⟨ua, uc, rfl⟩ := hu.value
  obtain ⟨lu, hlu⟩ : ∃ l, L.length = l := ⟨_, rfl⟩
  rw [hlu] at CP HU ⊢
  clear hu hlu
  cases r with
  | true =>
    have hp := hr
    rw [if_pos hr] at h
    clear hr
    go_enter Tryz.func19, Tryz.ntmps19
    go_wp2_with fail
    refine (CP.out _ HA.out.2).mono ?_
    rintro e w0 ⟨rfl, hb0⟩
    have HA0 := Go.Lib.hid (And.intro (arr2_call HA.out.1 hb0) (HA.out.2.trans (hb0.mono HA.out.2.size) : Below W.heap.size W w0))
    clear hb0
    go_wp2_with fail
    refine (CD.out _).mono ?_
    rintro e w2 (⟨hno, ⟨a0, c, rfl⟩, hb⟩ | ⟨m, rfl, hm1, hm6, v, rfl, hL, hb⟩)
    · rw [ch_out hno] at h
      cases h
      have H2 := Go.Lib.hid (And.intro (arr2_call HA0.out.1 hb) (HA0.out.2.trans (hb.mono HA0.out.2.size) : Below W.heap.size W w2))
      have CM := Go.Lib.hid (fun (a : Option Addr) (c : Nat) => chanceO_none (.func 54) #[.slice ua lu uc] #[] a c w2)
      clear hb hno CD
      go_wp2_with fail
      refine (CM.out _ _).mono ?_
      rintro e w5 ⟨rfl, hb5⟩
      have H5 := Go.Lib.hid (And.intro (arr2_call H2.out.1 hb5) (H2.out.2.trans (hb5.mono H2.out.2.size) : Below W.heap.size W w5))
      obtain ⟨m0, m1, e0, e1⟩ := arr2_cells H5.out.1
      obtain ⟨s1, s2, hNN⟩ := arr2_store H5.out.1 (.int .i64 0) (.int .i64 0)
      have HN := Go.Lib.hid (And.intro hNN (arr2_below (Nat.le_refl _) H5.out.2 (.int .i64 0) (.int .i64 0)))
      clear hNN hb5 CM
      go_wp2_with fail
      (try simp only [Exit.inBlock, Exit.then])
      refine bodyPost_ret (arr2_result2 rfl rfl HN.out.1) rfl ?_
      exact ⟨rfl, HN.out.2⟩
    · rw [ch_in (q := fun m => meanL (allO m) (isT (tellChanceAvoids L))) rfl hm1 hm6] at h
      cases h
      have H2 := Go.Lib.hid (And.intro hL (And.intro (arr2_call HA0.out.1 hb) (HA0.out.2.trans (hb.mono HA0.out.2.size) : Below W.heap.size W w2)))
      have CM := Go.Lib.hid (chanceO_any m (allO m) (tellChanceAvoids L) (allO m).length rfl (all_1k hm1 hm6).1 (all_1k hm1 hm6).2 54 #[.slice ua lu uc] (enters_of Tryz.func54 (by kernel_rfl) rfl) w2 v H2.out.1.looks (sayChanceAvoids L m hm1 (by omega) hp w2 (.slice ua lu uc) (HU.out.grow H2.out.2.2)))
      obtain ⟨gs, _, g2, _⟩ := hL
      obtain ⟨_, va, vc, rfl, _, _⟩ := Sees.owns g2
      clear g2 hb CD
      obtain ⟨N, hN⟩ : ∃ N, ((allO m).map vals).length = N := ⟨_, rfl⟩
      rw [hN] at H2 CM ⊢
      clear hN
      go_wp2_with fail
      refine (CM.out).mono ?_
      rintro e w5 ⟨rfl, hb5⟩
      have H5 := Go.Lib.hid (And.intro (arr2_call H2.out.2.1 hb5) (H2.out.2.2.trans (hb5.mono H2.out.2.2.size) : Below W.heap.size W w5))
      obtain ⟨x0, hx0⟩ : ∃ x, (meanL (allO m) (isT (tellChanceAvoids L))).1 = x := ⟨_, rfl⟩
      obtain ⟨x1, hx1⟩ : ∃ x, (meanL (allO m) (isT (tellChanceAvoids L))).2 = x := ⟨_, rfl⟩
      rw [hx0, hx1]
      have HM := Go.Lib.hid (And.intro hx0 hx1)
      obtain ⟨m0, m1, e0, e1⟩ := arr2_cells H5.out.1
      obtain ⟨s1, s2, hNN⟩ := arr2_store H5.out.1 (.int .i64 (x0 : Int)) (.int .i64 (x1 : Int))
      have HN := Go.Lib.hid (And.intro hNN (arr2_below (Nat.le_refl _) H5.out.2 (.int .i64 (x0 : Int)) (.int .i64 (x1 : Int))))
      clear hNN hb5 CM hx0 hx1
      go_wp2_with fail
      (try simp only [Exit.inBlock, Exit.then])
      refine bodyPost_ret (arr2_result2 rfl rfl HN.out.1) rfl ?_
      first | exact ⟨rfl, HN.out.2⟩ | (rw [HM.out.1, HM.out.2]; exact ⟨rfl, HN.out.2⟩)
  | false =>
    rw [if_neg (by rw [hr]; simp)] at h
    cases h
    clear hr
    go_enter Tryz.func19, Tryz.ntmps19
    go_wp2_with fail
    refine (CP.out _ HA.out.2).mono ?_
    rintro e w0 ⟨rfl, hb0⟩
    have HA0 := Go.Lib.hid (And.intro (arr2_call HA.out.1 hb0) (HA.out.2.trans (hb0.mono HA.out.2.size) : Below W.heap.size W w0))
    clear hb0
    obtain ⟨m0, m1, e0, e1⟩ := arr2_cells HA0.out.1
    obtain ⟨s1, s2, hNN⟩ := arr2_store HA0.out.1 (.int .i64 0) (.int .i64 0)
    have HN := Go.Lib.hid (And.intro hNN (arr2_below (Nat.le_refl _) HA0.out.2 (.int .i64 0) (.int .i64 0)))
    clear hNN
    go_wp2_with fail
    (try simp only [Exit.inBlock, Exit.then])
    refine bodyPost_ret (arr2_result2 rfl rfl HN.out.1) rfl ?_
    exact ⟨rfl, HN.out.2⟩

end Go.Proofs.YtnhhnffolmgceaaGreat.ChChanceAvoidsIC

end

section
namespace Go.Proofs.YtnhhnffolmgceaaGreat.ChChanceAvoidsSC
open Go.RowKit SeesC IntsC ExactC OrdMath AllO PatMath LLC AvoidC AvMath ListsC Arr2C ChM ChQ CutFC L9C OrdsSpC SpecAvC ChChanceAvoidsIC
set_option linter.unusedVariables false

set_option maxRecDepth 100000 in
set_option maxHeartbeats 1000000 in
theorem specChanceAvoids (n : Int) (L : List (List Int)) (a b : Nat) (ok : Bool) (h : ansChanceAvoids n L = (a, b, ok)) (hw : (Lit.int .i64 n).wf = true) (hz2 : L.length + tot L ≤ 1048576) (W : World) (u : Value) (hu : SeesLL W u L) :
    Calls Tryz.prog 20 #[.int .i64 n, u] W fun e w' => FracTo W e w' a b ok := by
  have hA0 := arr2_alloc W (.int .i64 0) (.int .i64 0)
  have hB0 : Below W.heap.size W (W.alloc (.cells #[.int .i64 0, .int .i64 0] 25)) := (Below.refl _ W).alloc (Nat.le_refl _) _
  have HA := Go.Lib.hid (And.intro hA0 hB0)
  clear hA0 hB0
  obtain ⟨W1, hW1⟩ : ∃ W1, W.alloc (.cells #[.int .i64 0, .int .i64 0] 25) = W1 := ⟨_, rfl⟩
  rw [hW1] at HA
  obtain ⟨r, hr⟩ : ∃ r, pats L = r := ⟨_, rfl⟩
  obtain ⟨r1, hr1⟩ : ∃ r, decide (1 ≤ n ∧ n ≤ 6) = r := ⟨_, rfl⟩
  have CZ := Go.Lib.hid (fun (X : World) => l9Size_any n X r1 hr1)
  have CP := Go.Lib.hid (fun (X : World) (hX : Below W.heap.size W X) => specPats_any L r X u (hu.grow hX) hz2 hr)
  have HU := Go.Lib.hid hu
  obtain ⟨ua, uc, rfl⟩ := hu.value
  obtain ⟨lu, hlu⟩ : ∃ l, L.length = l := ⟨_, rfl⟩
  rw [hlu] at CP HU ⊢
  clear hu hlu
  cases r1 with
  | false =>
    have h2 : ansChanceAvoids n L = (0, 0, false) := by
      unfold ansChanceAvoids
      split
      · exact ch_out (of_decide_eq_false hr1)
      · rfl
    rw [h2] at h
    cases h
    clear h2 hr hr1
    go_enter Tryz.func20, Tryz.ntmps20
    go_wp2_with fail
    refine (CZ.out _).mono ?_
    rintro e _ ⟨rfl, rfl⟩
    obtain ⟨m0, m1, e0, e1⟩ := arr2_cells HA.out.1
    obtain ⟨s1, s2, hNN⟩ := arr2_store HA.out.1 (.int .i64 0) (.int .i64 0)
    have HN := Go.Lib.hid (And.intro hNN (arr2_below (Nat.le_refl _) HA.out.2 (.int .i64 0) (.int .i64 0)))
    clear hNN
    go_wp2_with fail
    (try simp only [Exit.inBlock, Exit.then])
    refine bodyPost_ret (arr2_result2 rfl rfl HN.out.1) rfl ?_
    exact ⟨rfl, HN.out.2⟩
  | true =>
    cases r with
    | false =>
      have h2 : ansChanceAvoids n L = (0, 0, false) := by unfold ansChanceAvoids; rw [if_neg (by rw [hr]; simp)]
      rw [h2] at h
      cases h
      clear h2 hr hr1
      go_enter Tryz.func20, Tryz.ntmps20
      go_wp2_with fail
      refine (CZ.out _).mono ?_
      rintro e _ ⟨rfl, rfl⟩
      go_wp2_with fail
      refine (CP.out _ HA.out.2).mono ?_
      rintro e w0 ⟨rfl, hb0⟩
      have HA0 := Go.Lib.hid (And.intro (arr2_call HA.out.1 hb0) (HA.out.2.trans (hb0.mono HA.out.2.size) : Below W.heap.size W w0))
      clear hb0
      obtain ⟨m0, m1, e0, e1⟩ := arr2_cells HA0.out.1
      obtain ⟨s1, s2, hNN⟩ := arr2_store HA0.out.1 (.int .i64 0) (.int .i64 0)
      have HN := Go.Lib.hid (And.intro hNN (arr2_below (Nat.le_refl _) HA0.out.2 (.int .i64 0) (.int .i64 0)))
      clear hNN
      go_wp2_with fail
      (try simp only [Exit.inBlock, Exit.then])
      refine bodyPost_ret (arr2_result2 rfl rfl HN.out.1) rfl ?_
      exact ⟨rfl, HN.out.2⟩
    | true =>
      have h16 := of_decide_eq_true hr1
      obtain ⟨m, rfl⟩ : ∃ m : Nat, n = (m : Int) := ⟨n.toNat, by omega⟩
      have hm1 : 1 ≤ m := by omega
      have hm6 : m ≤ 6 := by omega
      have hm7 : m ≤ 7 := by omega
      have h2 : ansChanceAvoids (m : Int) L = ((cutF (av L m).length (allO m).length).1, (cutF (av L m).length (allO m).length).2, true) := by
        unfold ansChanceAvoids
        rw [if_pos hr, ch_in (q := fun m => meanL (allO m) (isT (tellChanceAvoids L))) rfl hm1 hm6]
        unfold meanL
        rw [sumT_isT, av_count hm1 hm7]
        rfl
      rw [h2] at h
      have HH := Go.Lib.hid h
      obtain ⟨F, hF⟩ : ∃ F, (allO m).length = F := ⟨_, rfl⟩
      have hFF := all_1k hm1 hm6
      rw [hF] at hFF
      have hF1 := hFF.1
      have hF5 := hFF.2
      obtain ⟨A, hAv⟩ : ∃ A, (av L m).length = A := ⟨_, rfl⟩
      have hA5 : A ≤ 5040 := by rw [← hAv]; exact av_many hm7
      have HF := Go.Lib.hid (And.intro hF hAv)
      have CAv := Go.Lib.hid (fun (X : World) (hX : Below W.heap.size W X) => l3Avoiding_any m hm7 L hr X _ (HU.out.grow hX))
      have CO := Go.Lib.hid (fun (X : World) => l2Orders_any m hm1 hm7 X)
      have CL := Go.Lib.hid (fun (X : World) => l9Cut_any A F (by omega) hF1 (by omega) X)
      obtain ⟨x0, hx0⟩ : ∃ x, (cutF A F).1 = x := ⟨_, rfl⟩
      obtain ⟨x1, hx1⟩ : ∃ x, (cutF A F).2 = x := ⟨_, rfl⟩
      have HM : Hid (x0 = a ∧ x1 = b ∧ true = ok) := Go.Lib.hid (by
        have h := HH.out
        rw [hAv, hF, hx0, hx1] at h
        cases h
        exact ⟨rfl, rfl, rfl⟩)
      rw [hx0, hx1] at CL
      clear h h2 hr hr1 hF hAv hFF h16 hx0 hx1
      go_enter Tryz.func20, Tryz.ntmps20
      go_wp2_with fail
      refine (CZ.out _).mono ?_
      rintro e _ ⟨rfl, rfl⟩
      go_wp2_with fail
      refine (CP.out _ HA.out.2).mono ?_
      rintro e w0 ⟨rfl, hb0⟩
      have HA0 := Go.Lib.hid (And.intro (arr2_call HA.out.1 hb0) (HA.out.2.trans (hb0.mono HA.out.2.size) : Below W.heap.size W w0))
      clear hb0
      go_wp2_with fail
      refine (CAv.out _ HA0.out.2).mono ?_
      rintro e w2 ⟨v2, rfl, hl2, hb2⟩
      have HA2 := Go.Lib.hid (And.intro (arr2_call HA0.out.1 hb2) (HA0.out.2.trans (hb2.mono HA0.out.2.size) : Below W.heap.size W w2))
      obtain ⟨gs2, _, ho2, _⟩ := hl2
      rw [List.length_map, HF.out.2] at ho2
      obtain ⟨_, va, vc, rfl, _, _⟩ := Sees.owns ho2
      clear hb2 ho2
      go_wp2_with fail
      refine (CO.out _).mono ?_
      rintro e w3 ⟨v3, rfl, hl3, hb3⟩
      have HA3 := Go.Lib.hid (And.intro (arr2_call HA2.out.1 hb3) (HA2.out.2.trans (hb3.mono HA2.out.2.size) : Below W.heap.size W w3))
      obtain ⟨gs3, _, ho3, _⟩ := hl3
      rw [List.length_map, HF.out.1] at ho3
      obtain ⟨_, va3, vc3, rfl, _, _⟩ := Sees.owns ho3
      clear hb3 ho3
      go_wp2_with fail
      refine (CL.out _).mono ?_
      rintro e w5 ⟨rfl, hb5⟩
      have H5 := Go.Lib.hid (And.intro (arr2_call HA3.out.1 hb5) (HA3.out.2.trans (hb5.mono HA3.out.2.size) : Below W.heap.size W w5))
      obtain ⟨m0, m1, e0, e1⟩ := arr2_cells H5.out.1
      obtain ⟨s1, s2, hNN⟩ := arr2_store H5.out.1 (.int .i64 (x0 : Int)) (.int .i64 (x1 : Int))
      have HN := Go.Lib.hid (And.intro hNN (arr2_below (Nat.le_refl _) H5.out.2 (.int .i64 (x0 : Int)) (.int .i64 (x1 : Int))))
      clear hNN hb5 CL
      go_wp2_with fail
      (try simp only [Exit.inBlock, Exit.then])
      refine bodyPost_ret (arr2_result2 rfl rfl HN.out.1) rfl ?_
      rw [← HM.out.1, ← HM.out.2.1, ← HM.out.2.2]
      exact ⟨rfl, HN.out.2⟩

end Go.Proofs.YtnhhnffolmgceaaGreat.ChChanceAvoidsSC

end
