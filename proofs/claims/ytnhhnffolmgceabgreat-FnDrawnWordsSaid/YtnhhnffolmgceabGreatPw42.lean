/-
  Contracts and plain facts that the laws' texts lean on. Conditions: as each states.
-/
import Derived.Test.YtnhhnffolmgceabGreatPw40
import Derived.Test.YtnhhnffolmgceabGreatPw34
import Derived.Test.YtnhhnffolmgceabGreatPw9
import Derived.Test.YtnhhnffolmgceabGreatPw22
import Derived.Test.YtnhhnffolmgceabGreatPw17
import Derived.Test.YtnhhnffolmgceabGreatPw24
import Derived.Test.YtnhhnffolmgceabGreatPw39
import Derived.Deep.RegionHeld3
import Derived.Test.YtnhhnffolmgceabGreatPw32
import Derived.Test.YtnhhnffolmgceabGreatPw20
import Derived.Test.YtnhhnffolmgceabGreatPw18

section
namespace Go.Proofs.YtnhhnffolmgceabGreat.ChChanceDepthIC
open Go.RowKit SeesC IntsC ExactC OrdMath AllO ListsC Arr2C ChM ChQ UsedC MeanOC ChanceSC WordMath WordC WordsC EndsM CollWC KnownC
set_option linter.unusedVariables false

def toldChanceDepth (w : ByteArray) : Nat := depthTo w w.size
def tellChanceDepth (k : Int) (w : ByteArray) : Bool := decide (((toldChanceDepth w : Nat) : Int) ≤ k)
def ansChanceDepth (n k : Int) : Nat × Nat × Bool := if 1 ≤ k ∧ k ≤ 6 then chAns n (fun m => meanL (allW m) (isT (tellChanceDepth k))) else (0, 0, false)

set_option maxRecDepth 100000 in
set_option maxHeartbeats 1000000 in
theorem sayChanceDepth (k : Int) (m : Nat) (hm1 : 1 ≤ m) (hm7 : m ≤ 7) (W : World) : SaysS 40 #[.int .i64 k] (allW m) (tellChanceDepth k) W := by
  intro w hw X hX
  have hword := (all_mem hm1 hm7 hw).1
  have hsz := (all_mem hm1 hm7 hw).2
  have CF := Go.Lib.hid (implDepth w _ true (show depthAns w = (((depthTo w w.size : Nat) : Int), true) by unfold depthAns; rw [if_pos hword]) (by omega) X)
  obtain ⟨Q, hQ⟩ : ∃ Q, depthTo w w.size = Q := ⟨_, rfl⟩
  obtain ⟨R, hR⟩ : ∃ R, decide ((Q : Int) ≤ k) = R := ⟨_, rfl⟩
  have HH : Hid (tellChanceDepth k w = R) := Go.Lib.hid (by unfold tellChanceDepth toldChanceDepth; rw [hQ, hR])
  rw [hQ] at CF
  clear hword hw hX hQ hsz
  go_enter Tryz.func40, Tryz.ntmps40
  go_wp2_with fail
  refine (CF.out).mono ?_
  rintro e w1 ⟨rfl, hb⟩
  have H1 := Go.Lib.hid hb
  clear hb CF
  go_wp2_with fail
  refine (knownI _ _ _).mono ?_
  rintro e _ ⟨rfl, rfl⟩
  go_wp2
  go_ret
  first | exact ⟨by rw [HH.out]; rfl, H1.out⟩ | exact ⟨by rw [HH.out, ← hR]; rfl, H1.out⟩

set_option maxRecDepth 100000 in
set_option maxHeartbeats 1000000 in
theorem implChanceDepth (n k : Int) (a b : Nat) (ok : Bool) (h : ansChanceDepth n k = (a, b, ok)) (hw : (Lit.int .i64 n).wf = true) (hk : (Lit.int .i64 k).wf = true) (W : World) :
    Calls Tryz.prog 10 #[.int .i64 n, .int .i64 k] W fun e w' => FracTo W e w' a b ok := by
  have hA0 := arr2_alloc W (.int .i64 0) (.int .i64 0)
  have hB0 : Below W.heap.size W (W.alloc (.cells #[.int .i64 0, .int .i64 0] 26)) := (Below.refl _ W).alloc (Nat.le_refl _) _
  have HA := Go.Lib.hid (And.intro hA0 hB0)
  have CD := Go.Lib.hid (fun (X : World) => drawnWords_any n hw X)
  clear hA0 hB0
  obtain ⟨W1, hW1⟩ : ∃ W1, W.alloc (.cells #[.int .i64 0, .int .i64 0] 26) = W1 := ⟨_, rfl⟩
  unfold ansChanceDepth at h
  rw [hW1] at HA
  by_cases hk0 : 1 ≤ k ∧ k ≤ 6
  · rw [if_pos hk0] at h
    have hk1 : ¬ k < 1 := by omega
    have hk2 : ¬ 6 < k := by omega
    clear hk0
    go_enter Tryz.func10, Tryz.ntmps10
    go_wp2_with fail
    refine (CD.out _).mono ?_
    rintro e w2 (⟨hno, ⟨a0, c, rfl⟩, hb⟩ | ⟨m, rfl, hm1, hm6, v, rfl, hL, hb⟩)
    · rw [ch_out hno] at h
      cases h
      have H2 := Go.Lib.hid (And.intro (arr2_call HA.out.1 hb) (HA.out.2.trans (hb.mono HA.out.2.size) : Below W.heap.size W w2))
      have CM := Go.Lib.hid (fun (a : Option Addr) (c : Nat) => chanceS_none (.func 40) #[.int .i64 k] #[] a c w2)
      clear hb hno CD
      go_wp2_with fail
      refine (CM.out _ _).mono ?_
      rintro e w5 ⟨rfl, hb5⟩
      have H5 := Go.Lib.hid (And.intro (arr2_call H2.out.1 hb5) (H2.out.2.trans (hb5.mono H2.out.2.size) : Below W.heap.size W w5))
      obtain ⟨m0, m1, e0, e1⟩ := arr2_cells H5.out.1
      obtain ⟨s1, s2, hNN⟩ := arr2_store H5.out.1 (.int .i64 0) (.int .i64 0)
      have HN := Go.Lib.hid (And.intro hNN (arr2_below (Nat.le_refl _) H5.out.2 (.int .i64 0) (.int .i64 0)))
      clear hNN hb5 CM
      go_wp2_with fail
      (try simp only [Exit.inBlock, Exit.then])
      refine bodyPost_ret (arr2_result2 rfl rfl HN.out.1) rfl ?_
      exact ⟨rfl, HN.out.2⟩
    · rw [ch_in (q := fun m => meanL (allW m) (isT (tellChanceDepth k))) rfl hm1 hm6] at h
      cases h
      have H2 := Go.Lib.hid (And.intro hL (And.intro (arr2_call HA.out.1 hb) (HA.out.2.trans (hb.mono HA.out.2.size) : Below W.heap.size W w2)))
      have CM := Go.Lib.hid (chanceS_any (allW m) (tellChanceDepth k) (allW m).length rfl (allW_1k hm1 hm6).1 (allW_1k hm1 hm6).2 40 #[.int .i64 k] (enters_of Tryz.func40 (by kernel_rfl) rfl) w2 v (Sees.owns H2.out.1) (sayChanceDepth k m hm1 (by omega) w2))
      obtain ⟨_, va, vc, rfl, _, _⟩ := Sees.owns hL
      clear hL hb CD
      obtain ⟨N, hN⟩ : ∃ N, (allW m).length = N := ⟨_, rfl⟩
      rw [hN] at H2 CM ⊢
      clear hN
      go_wp2_with fail
      refine (CM.out).mono ?_
      rintro e w5 ⟨rfl, hb5⟩
      have H5 := Go.Lib.hid (And.intro (arr2_call H2.out.2.1 hb5) (H2.out.2.2.trans (hb5.mono H2.out.2.2.size) : Below W.heap.size W w5))
      obtain ⟨x0, hx0⟩ : ∃ x, (meanL (allW m) (isT (tellChanceDepth k))).1 = x := ⟨_, rfl⟩
      obtain ⟨x1, hx1⟩ : ∃ x, (meanL (allW m) (isT (tellChanceDepth k))).2 = x := ⟨_, rfl⟩
      rw [hx0, hx1]
      have HM := Go.Lib.hid (And.intro hx0 hx1)
      obtain ⟨m0, m1, e0, e1⟩ := arr2_cells H5.out.1
      obtain ⟨s1, s2, hNN⟩ := arr2_store H5.out.1 (.int .i64 (x0 : Int)) (.int .i64 (x1 : Int))
      have HN := Go.Lib.hid (And.intro hNN (arr2_below (Nat.le_refl _) H5.out.2 (.int .i64 (x0 : Int)) (.int .i64 (x1 : Int))))
      clear hNN hb5 CM hx0 hx1
      go_wp2_with fail
      (try simp only [Exit.inBlock, Exit.then])
      refine bodyPost_ret (arr2_result2 rfl rfl HN.out.1) rfl ?_
      first | exact ⟨rfl, HN.out.2⟩ | (rw [HM.out.1, HM.out.2]; exact ⟨rfl, HN.out.2⟩)
  · rw [if_neg hk0] at h
    cases h
    obtain ⟨m0, m1, e0, e1⟩ := arr2_cells HA.out.1
    obtain ⟨s1, s2, hNN⟩ := arr2_store HA.out.1 (.int .i64 0) (.int .i64 0)
    have HN := Go.Lib.hid (And.intro hNN (arr2_below (Nat.le_refl _) HA.out.2 (.int .i64 0) (.int .i64 0)))
    clear hNN
    by_cases hk1 : k < 1
    · clear hk0
      go_enter Tryz.func10, Tryz.ntmps10
      go_wp2_with fail
      (try simp only [Exit.inBlock, Exit.then])
      refine bodyPost_ret (arr2_result2 rfl rfl HN.out.1) rfl ?_
      exact ⟨rfl, HN.out.2⟩
    · have hk2 : 6 < k := by omega
      clear hk0
      go_enter Tryz.func10, Tryz.ntmps10
      go_wp2_with fail
      (try simp only [Exit.inBlock, Exit.then])
      refine bodyPost_ret (arr2_result2 rfl rfl HN.out.1) rfl ?_
      exact ⟨rfl, HN.out.2⟩

end Go.Proofs.YtnhhnffolmgceabGreat.ChChanceDepthIC

end

section
namespace Go.Proofs.YtnhhnffolmgceabGreat.ChChanceDepthSC
open Go.RowKit SeesC IntsC ExactC OrdMath AllO ListsC ListsEC Arr2C ChM ChQ CutFC L9C WordMath WordC WordsC EndsM CollWC WSpecC ChChanceDepthIC InC
set_option linter.unusedVariables false

set_option maxRecDepth 100000 in
set_option maxHeartbeats 4000000 in
theorem specChanceDepth (n k : Int) (a b : Nat) (ok : Bool) (h : ansChanceDepth n k = (a, b, ok)) (hw : (Lit.int .i64 n).wf = true) (hk : (Lit.int .i64 k).wf = true) (W : World) :
    Calls Tryz.prog 11 #[.int .i64 n, .int .i64 k] W fun e w' => FracTo W e w' a b ok := by
  have hA0 := arr2_alloc W (.int .i64 0) (.int .i64 0)
  have hB0 : Below W.heap.size W (W.alloc (.cells #[.int .i64 0, .int .i64 0] 26)) := (Below.refl _ W).alloc (Nat.le_refl _) _
  have HA := Go.Lib.hid (And.intro hA0 hB0)
  clear hA0 hB0
  obtain ⟨r, hr⟩ : ∃ r, decide (1 ≤ n ∧ n ≤ 6) = r := ⟨_, rfl⟩
  have CZ := Go.Lib.hid (fun (X : World) => l9Size_any n X r hr)
  have HR := Go.Lib.hid hr
  clear hr
  obtain ⟨r2, hr2⟩ : ∃ r, decide (1 ≤ k ∧ k ≤ 6) = r := ⟨_, rfl⟩
  have CK := Go.Lib.hid (fun (X : World) => l9Size_any k X r2 hr2)
  have HR2 := Go.Lib.hid hr2
  clear hr2
  obtain ⟨W1, hW1⟩ : ∃ W1, W.alloc (.cells #[.int .i64 0, .int .i64 0] 26) = W1 := ⟨_, rfl⟩
  cases r with
  | false =>
    have h2 : ansChanceDepth n k = (0, 0, false) := by
      unfold ansChanceDepth
      split
      · exact ch_out (of_decide_eq_false HR.out)
      · rfl
    rw [h2] at h
    clear h2
    cases h
    go_enter Tryz.func11, Tryz.ntmps11
    go_wp2_with fail
    rw [hW1] at HA
    refine (CZ.out _).mono ?_
    rintro e _ ⟨rfl, rfl⟩
    obtain ⟨m0, m1, e0, e1⟩ := arr2_cells HA.out.1
    obtain ⟨s1, s2, hNN⟩ := arr2_store HA.out.1 (.int .i64 0) (.int .i64 0)
    have HN := Go.Lib.hid (And.intro hNN (arr2_below (Nat.le_refl _) HA.out.2 (.int .i64 0) (.int .i64 0)))
    clear hNN
    go_wp2_with fail
    (try simp only [Exit.inBlock, Exit.then])
    refine bodyPost_ret (arr2_result2 rfl rfl HN.out.1) rfl ?_
    exact ⟨rfl, HN.out.2⟩
  | true =>
    cases r2 with
    | false =>
      have h2 : ansChanceDepth n k = (0, 0, false) := by unfold ansChanceDepth; rw [if_neg (of_decide_eq_false HR2.out)]
      rw [h2] at h
      cases h
      clear h2
      go_enter Tryz.func11, Tryz.ntmps11
      go_wp2_with fail
      rw [hW1] at HA
      refine (CZ.out _).mono ?_
      rintro e _ ⟨rfl, rfl⟩
      go_wp2_with fail
      refine (CK.out _).mono ?_
      rintro e _ ⟨rfl, rfl⟩
      obtain ⟨m0, m1, e0, e1⟩ := arr2_cells HA.out.1
      obtain ⟨s1, s2, hNN⟩ := arr2_store HA.out.1 (.int .i64 0) (.int .i64 0)
      have HN := Go.Lib.hid (And.intro hNN (arr2_below (Nat.le_refl _) HA.out.2 (.int .i64 0) (.int .i64 0)))
      clear hNN
      go_wp2_with fail
      (try simp only [Exit.inBlock, Exit.then])
      refine bodyPost_ret (arr2_result2 rfl rfl HN.out.1) rfl ?_
      exact ⟨rfl, HN.out.2⟩
    | true =>
      have h16 := of_decide_eq_true HR.out
      obtain ⟨m, rfl⟩ : ∃ m : Nat, n = (m : Int) := ⟨n.toNat, by omega⟩
      have hm1 : 1 ≤ m := by omega
      have hm6 : m ≤ 6 := by omega
      have hm7 : m ≤ 7 := by omega
      have h2 : ansChanceDepth (m : Int) k = chAns (m : Int) (fun m => meanL (allW m) (isT (tellChanceDepth k))) := by unfold ansChanceDepth; rw [if_pos (of_decide_eq_true HR2.out)]
      rw [h2] at h
      clear h2
      rw [ch_in (q := fun m => meanL (allW m) (isT (tellChanceDepth k))) rfl hm1 hm6] at h
      have HH := Go.Lib.hid h
      have CO := Go.Lib.hid (fun (X : World) => words_spec m hm7 X)
      obtain ⟨F, hF⟩ : ∃ F, (allW m).length = F := ⟨_, rfl⟩
      have hFF := allW_1k hm1 hm6
      rw [hF] at hFF
      have hF1 := hFF.1
      have hF5 := hFF.2
      have HF := Go.Lib.hid hF
      clear hF hFF h h16 HR
      go_enter Tryz.func11, Tryz.ntmps11
      go_wp2_with fail
      rw [hW1] at HA
      refine (CZ.out _).mono ?_
      rintro e _ ⟨rfl, rfl⟩
      go_wp2_with fail
      refine (CK.out _).mono ?_
      rintro e _ ⟨rfl, rfl⟩
      go_wp2_with fail
      refine (CO.out _).mono ?_
      rintro e w2 ⟨g, c, rfl, hog, hb2⟩
      rw [HF.out] at hog ⊢
      have H2 := Go.Lib.hid (And.intro hog (And.intro (arr2_call HA.out.1 hb2) (HA.out.2.trans (hb2.mono HA.out.2.size) : Below W.heap.size W w2)))
      clear hog hb2 CO CZ hW1
      go_wp2_with fail
      go_loopw [6, 8] (fun mv iv wr => ∃ (i t : Nat), i ≤ F ∧ iv = .int .i64 i ∧ mv = .int .i64 t ∧ Hid (t = sumT (isT (tellChanceDepth k)) ((allW m).take i) ∧ Below w2.heap.size w2 wr)) (fun _ i _ => F - (intOf i).toNat)
      case atStart => exact ⟨0, 0, Nat.zero_le _, rfl, rfl, Go.Lib.hid ⟨rfl, Below.refl _ _⟩⟩
      case round =>
        obtain ⟨i, t, hiF, rfl, rfl, HX⟩ := hrel
        have hle := sumT_le (tell := (isT (tellChanceDepth k))) (b := 1000) (L := (allW m).take i) (fun x hx => (fun zs _ => Nat.le_trans (isT_le (tellChanceDepth k) zs) (by omega)) x (List.mem_of_mem_take hx))
        rw [List.length_take, HF.out, Nat.min_eq_left hiF, ← HX.out.1] at hle
        by_cases hlt : i < F
        · have hiL : i < (allW m).length := by rw [HF.out]; exact hlt
          obtain ⟨zs, hzi⟩ : ∃ zs, (allW m)[i]? = some zs := ⟨_, List.getElem?_eq_getElem hiL⟩
          have hmem : zs ∈ allW m := List.mem_of_getElem? hzi
          have hword := (all_mem hm1 hm7 hmem).1
          have hck : w2.cell? ⟨g, i, none⟩ = some (.string zs) := by
            rw [H2.out.1.cellAt i (by omega), List.getElem?_map, hzi]
            rfl
          have hgl := (H2.out.1.lt g rfl).2
          have hckr := (HX.out.2.cell (p := ⟨g, i, none⟩) hgl).trans hck
          have CQ := Go.Lib.hid (l2Depth_any zs wr hword)
          obtain ⟨Q, hQ⟩ : ∃ Q, toldChanceDepth zs = Q := ⟨_, rfl⟩
          obtain ⟨R, hR⟩ : ∃ R, tellChanceDepth k zs = R := ⟨_, rfl⟩
          have HN : Hid (sumT (isT (tellChanceDepth k)) ((allW m).take (i + 1)) = if R = true then t + 1 else t) := Go.Lib.hid (by rw [sumT_take hzi, HX.out.1]; unfold isT; rw [hR]; cases R <;> rfl)
          have hqk : decide ((Q : Int) ≤ k) = R := by rw [← hR, ← hQ]; rfl
          have hlti : (i : Int) < (F : Int) := by omega
          rw [show depthTo zs zs.size = Q from hQ] at CQ
          clear hzi hmem hword hck hgl hiL hQ hR
          go_wp2_with fail
          refine (CQ.out).mono ?_
          rintro e _ ⟨rfl, rfl⟩
          have HB4 := Go.Lib.hid HX.out.2
          clear CQ
          cases R with
          | true =>
            have hqk2 := of_decide_eq_true hqk
            go_wp2
            go_roundw
            case rel => exact ⟨i + 1, t + 1, by omega, by go_num, by go_num, Go.Lib.hid ⟨HN.out.symm, HB4.out⟩⟩
            case measure => simp [intOf]; omega
          | false =>
            have hqk2 := of_decide_eq_false hqk
            go_wp2
            go_roundw
            case rel => exact ⟨i + 1, t, by omega, by go_num, by rfl, Go.Lib.hid ⟨HN.out.symm, HB4.out⟩⟩
            case measure => simp [intOf]; omega
        · obtain rfl : i = F := by omega
          have hall : t = sumT (isT (tellChanceDepth k)) (allW m) := by rw [HX.out.1, ← HF.out, sumT_all]
          have CL := Go.Lib.hid (fun (X : World) => l9Cut_any t i (by omega) hF1 (by omega) X)
          obtain ⟨x0, hx0⟩ : ∃ x, (cutF t i).1 = x := ⟨_, rfl⟩
          obtain ⟨x1, hx1⟩ : ∃ x, (cutF t i).2 = x := ⟨_, rfl⟩
          have HM : Hid (x0 = a ∧ x1 = b ∧ true = ok) := Go.Lib.hid (by
            have h := HH.out
            unfold meanL at h
            rw [← hall, HF.out, hx0, hx1] at h
            cases h
            exact ⟨rfl, rfl, rfl⟩)
          rw [hx0, hx1] at CL
          have HXA := Go.Lib.hid (And.intro (arr2_call H2.out.2.1 HX.out.2) (H2.out.2.2.trans (HX.out.2.mono H2.out.2.2.size) : Below W.heap.size W wr))
          clear hx0 hx1 hall hle
          go_wp2_with fail
          refine (CL.out _).mono ?_
          rintro e w5 ⟨rfl, hb5⟩
          have H5 := Go.Lib.hid (And.intro (arr2_call HXA.out.1 hb5) (HXA.out.2.trans (hb5.mono HXA.out.2.size) : Below W.heap.size W w5))
          obtain ⟨m0, m1, e0, e1⟩ := arr2_cells H5.out.1
          obtain ⟨s1, s2, hNN⟩ := arr2_store H5.out.1 (.int .i64 (x0 : Int)) (.int .i64 (x1 : Int))
          have HN := Go.Lib.hid (And.intro hNN (arr2_below (Nat.le_refl _) H5.out.2 (.int .i64 (x0 : Int)) (.int .i64 (x1 : Int))))
          clear hNN hb5 CL
          go_wp2_with fail
          (try simp only [Exit.inBlock, Exit.then])
          refine bodyPost_ret (arr2_result2 rfl rfl HN.out.1) rfl ?_
          rw [← HM.out.1, ← HM.out.2.1, ← HM.out.2.2]
          exact ⟨rfl, HN.out.2⟩

end Go.Proofs.YtnhhnffolmgceabGreat.ChChanceDepthSC

end

section
namespace Go.Proofs.YtnhhnffolmgceabGreat.ChMeanDepthIC
open Go.RowKit SeesC IntsC ExactC OrdMath AllO ListsC Arr2C ChM ChQ UsedC MeanOC MeanSC WordMath WordC WordsC EndsM CollWC KnownC
set_option linter.unusedVariables false

def tellMeanDepth (w : ByteArray) : Nat := depthTo w w.size

theorem depth_le {m : Nat} (h1 : 1 ≤ m) (h6 : m ≤ 6) : ∀ w ∈ allW m, tellMeanDepth w ≤ 1000 := by
  have h : ∀ m < 7, 1 ≤ m → (allW m).all (fun w => Nat.ble (depthTo w w.size) 7) = true := by decide +kernel
  intro w hw
  have h2 := List.all_eq_true.1 (h m (by omega) h1) w hw
  exact Nat.le_trans (Nat.le_of_ble_eq_true h2) (by omega)

set_option maxRecDepth 100000 in
set_option maxHeartbeats 1000000 in
theorem sayMeanDepth (m : Nat) (hm1 : 1 ≤ m) (hm7 : m ≤ 7) (W : World) : TellS 43 #[] (allW m) tellMeanDepth W := by
  intro w hw X hX
  have hword := (all_mem hm1 hm7 hw).1
  have hsz := (all_mem hm1 hm7 hw).2
  have CF := Go.Lib.hid (implDepth w _ true (show depthAns w = (((depthTo w w.size : Nat) : Int), true) by unfold depthAns; rw [if_pos hword]) (by omega) X)
  clear hword hw hX hsz
  go_enter Tryz.func43, Tryz.ntmps43
  go_wp2_with fail
  refine (CF.out).mono ?_
  rintro e w1 ⟨rfl, hb⟩
  have H1 := Go.Lib.hid hb
  clear hb CF
  go_wp2_with fail
  refine (knownI _ _ _).mono ?_
  rintro e _ ⟨rfl, rfl⟩
  go_wp2
  go_ret
  exact ⟨rfl, H1.out⟩

set_option maxRecDepth 100000 in
set_option maxHeartbeats 1000000 in
theorem implMeanDepth (n : Int) (a b : Nat) (ok : Bool) (h : chAns n (fun m => meanL (allW m) tellMeanDepth) = (a, b, ok)) (hw : (Lit.int .i64 n).wf = true) (W : World) :
    Calls Tryz.prog 12 #[.int .i64 n] W fun e w' => FracTo W e w' a b ok := by
  have hA0 := arr2_alloc W (.int .i64 0) (.int .i64 0)
  have hB0 : Below W.heap.size W (W.alloc (.cells #[.int .i64 0, .int .i64 0] 26)) := (Below.refl _ W).alloc (Nat.le_refl _) _
  have HA := Go.Lib.hid (And.intro hA0 hB0)
  have CD := Go.Lib.hid (drawnWords_any n hw (W.alloc (.cells #[.int .i64 0, .int .i64 0] 26)))
  clear hA0 hB0
  go_enter Tryz.func12, Tryz.ntmps12
  go_wp2_with fail
  refine (CD.out).mono ?_
  rintro e w2 (⟨hno, ⟨a0, c, rfl⟩, hb⟩ | ⟨m, rfl, hm1, hm6, v, rfl, hL, hb⟩)
  · rw [ch_out hno] at h
    cases h
    have H2 := Go.Lib.hid (And.intro (arr2_call HA.out.1 hb) (HA.out.2.trans (hb.mono HA.out.2.size) : Below W.heap.size W w2))
    have CM := Go.Lib.hid (fun (a : Option Addr) (c : Nat) => meanS_none (.func (.func 43) #[] #[]) a c w2)
    clear hb hno CD
    go_wp2_with fail
    refine (CM.out _ _).mono ?_
    rintro e w5 ⟨rfl, hb5⟩
    have H5 := Go.Lib.hid (And.intro (arr2_call H2.out.1 hb5) (H2.out.2.trans (hb5.mono H2.out.2.size) : Below W.heap.size W w5))
    obtain ⟨m0, m1, e0, e1⟩ := arr2_cells H5.out.1
    obtain ⟨s1, s2, hNN⟩ := arr2_store H5.out.1 (.int .i64 0) (.int .i64 0)
    have HN := Go.Lib.hid (And.intro hNN (arr2_below (Nat.le_refl _) H5.out.2 (.int .i64 0) (.int .i64 0)))
    clear hNN hb5 CM
    go_wp2_with fail
    (try simp only [Exit.inBlock, Exit.then])
    refine bodyPost_ret (arr2_result2 rfl rfl HN.out.1) rfl ?_
    exact ⟨rfl, HN.out.2⟩
  · rw [ch_in (q := fun m => meanL (allW m) tellMeanDepth) rfl hm1 hm6] at h
    cases h
    have H2 := Go.Lib.hid (And.intro hL (And.intro (arr2_call HA.out.1 hb) (HA.out.2.trans (hb.mono HA.out.2.size) : Below W.heap.size W w2)))
    have CM := Go.Lib.hid (meanS_any (allW m) tellMeanDepth (depth_le hm1 hm6) (allW m).length rfl (allW_1k hm1 hm6).1 (allW_1k hm1 hm6).2 43 #[] (enters_of Tryz.func43 (by kernel_rfl) rfl) w2 v (Sees.owns H2.out.1) (sayMeanDepth m hm1 (by omega) w2))
    obtain ⟨_, va, vc, rfl, _, _⟩ := Sees.owns hL
    clear hL hb CD
    obtain ⟨N, hN⟩ : ∃ N, (allW m).length = N := ⟨_, rfl⟩
    rw [hN] at H2 CM ⊢
    clear hN
    go_wp2_with fail
    refine (CM.out).mono ?_
    rintro e w5 ⟨rfl, hb5⟩
    have H5 := Go.Lib.hid (And.intro (arr2_call H2.out.2.1 hb5) (H2.out.2.2.trans (hb5.mono H2.out.2.2.size) : Below W.heap.size W w5))
    obtain ⟨x0, hx0⟩ : ∃ x, (meanL (allW m) tellMeanDepth).1 = x := ⟨_, rfl⟩
    obtain ⟨x1, hx1⟩ : ∃ x, (meanL (allW m) tellMeanDepth).2 = x := ⟨_, rfl⟩
    rw [hx0, hx1]
    have HM := Go.Lib.hid (And.intro hx0 hx1)
    obtain ⟨m0, m1, e0, e1⟩ := arr2_cells H5.out.1
    obtain ⟨s1, s2, hNN⟩ := arr2_store H5.out.1 (.int .i64 (x0 : Int)) (.int .i64 (x1 : Int))
    have HN := Go.Lib.hid (And.intro hNN (arr2_below (Nat.le_refl _) H5.out.2 (.int .i64 (x0 : Int)) (.int .i64 (x1 : Int))))
    clear hNN hb5 CM hx0 hx1
    go_wp2_with fail
    (try simp only [Exit.inBlock, Exit.then])
    refine bodyPost_ret (arr2_result2 rfl rfl HN.out.1) rfl ?_
    first | exact ⟨rfl, HN.out.2⟩ | (rw [HM.out.1, HM.out.2]; exact ⟨rfl, HN.out.2⟩)

end Go.Proofs.YtnhhnffolmgceabGreat.ChMeanDepthIC

end

section
namespace Go.Proofs.YtnhhnffolmgceabGreat.ChMeanDepthSC
open Go.RowKit SeesC IntsC ExactC OrdMath AllO ListsC ListsEC Arr2C ChM ChQ CutFC L9C WordMath WordC WordsC EndsM CollWC WSpecC ChMeanDepthIC
set_option linter.unusedVariables false

set_option maxRecDepth 100000 in
set_option maxHeartbeats 4000000 in
theorem specMeanDepth (n : Int) (a b : Nat) (ok : Bool) (h : chAns n (fun m => meanL (allW m) tellMeanDepth) = (a, b, ok)) (hw : (Lit.int .i64 n).wf = true) (W : World) :
    Calls Tryz.prog 13 #[.int .i64 n] W fun e w' => FracTo W e w' a b ok := by
  have hA0 := arr2_alloc W (.int .i64 0) (.int .i64 0)
  have hB0 : Below W.heap.size W (W.alloc (.cells #[.int .i64 0, .int .i64 0] 26)) := (Below.refl _ W).alloc (Nat.le_refl _) _
  have HA := Go.Lib.hid (And.intro hA0 hB0)
  clear hA0 hB0
  obtain ⟨r, hr⟩ : ∃ r, decide (1 ≤ n ∧ n ≤ 6) = r := ⟨_, rfl⟩
  have CZ := Go.Lib.hid (fun (X : World) => l9Size_any n X r hr)
  have HR := Go.Lib.hid hr
  clear hr
  obtain ⟨W1, hW1⟩ : ∃ W1, W.alloc (.cells #[.int .i64 0, .int .i64 0] 26) = W1 := ⟨_, rfl⟩
  cases r with
  | false =>
    rw [ch_out (of_decide_eq_false HR.out)] at h
    cases h
    go_enter Tryz.func13, Tryz.ntmps13
    go_wp2_with fail
    rw [hW1] at HA
    refine (CZ.out _).mono ?_
    rintro e _ ⟨rfl, rfl⟩
    obtain ⟨m0, m1, e0, e1⟩ := arr2_cells HA.out.1
    obtain ⟨s1, s2, hNN⟩ := arr2_store HA.out.1 (.int .i64 0) (.int .i64 0)
    have HN := Go.Lib.hid (And.intro hNN (arr2_below (Nat.le_refl _) HA.out.2 (.int .i64 0) (.int .i64 0)))
    clear hNN
    go_wp2_with fail
    (try simp only [Exit.inBlock, Exit.then])
    refine bodyPost_ret (arr2_result2 rfl rfl HN.out.1) rfl ?_
    exact ⟨rfl, HN.out.2⟩
  | true =>
    have h16 := of_decide_eq_true HR.out
    obtain ⟨m, rfl⟩ : ∃ m : Nat, n = (m : Int) := ⟨n.toNat, by omega⟩
    have hm1 : 1 ≤ m := by omega
    have hm6 : m ≤ 6 := by omega
    have hm7 : m ≤ 7 := by omega
    rw [ch_in (q := fun m => meanL (allW m) tellMeanDepth) rfl hm1 hm6] at h
    have HH := Go.Lib.hid h
    have CO := Go.Lib.hid (fun (X : World) => words_spec m hm7 X)
    obtain ⟨F, hF⟩ : ∃ F, (allW m).length = F := ⟨_, rfl⟩
    have hFF := allW_1k hm1 hm6
    rw [hF] at hFF
    have hF1 := hFF.1
    have hF5 := hFF.2
    have HF := Go.Lib.hid hF
    clear hF hFF h h16 HR
    go_enter Tryz.func13, Tryz.ntmps13
    go_wp2_with fail
    rw [hW1] at HA
    refine (CZ.out _).mono ?_
    rintro e _ ⟨rfl, rfl⟩
    go_wp2_with fail
    refine (CO.out _).mono ?_
    rintro e w2 ⟨g, c, rfl, hog, hb2⟩
    rw [HF.out] at hog ⊢
    have H2 := Go.Lib.hid (And.intro hog (And.intro (arr2_call HA.out.1 hb2) (HA.out.2.trans (hb2.mono HA.out.2.size) : Below W.heap.size W w2)))
    clear hog hb2 CO CZ hW1
    go_wp2_with fail
    go_loopw [4, 6] (fun mv iv wr => ∃ (i t : Nat), i ≤ F ∧ iv = .int .i64 i ∧ mv = .int .i64 t ∧ Hid (t = sumT tellMeanDepth ((allW m).take i) ∧ Below w2.heap.size w2 wr)) (fun _ i _ => F - (intOf i).toNat)
    case atStart => exact ⟨0, 0, Nat.zero_le _, rfl, rfl, Go.Lib.hid ⟨rfl, Below.refl _ _⟩⟩
    case round =>
      obtain ⟨i, t, hiF, rfl, rfl, HX⟩ := hrel
      have hle := sumT_le (tell := tellMeanDepth) (b := 1000) (L := (allW m).take i) (fun x hx => (depth_le hm1 hm6) x (List.mem_of_mem_take hx))
      rw [List.length_take, HF.out, Nat.min_eq_left hiF, ← HX.out.1] at hle
      by_cases hlt : i < F
      · have hiL : i < (allW m).length := by rw [HF.out]; exact hlt
        obtain ⟨zs, hzi⟩ : ∃ zs, (allW m)[i]? = some zs := ⟨_, List.getElem?_eq_getElem hiL⟩
        have hmem : zs ∈ allW m := List.mem_of_getElem? hzi
        have hword := (all_mem hm1 hm7 hmem).1
        have hck : w2.cell? ⟨g, i, none⟩ = some (.string zs) := by
          rw [H2.out.1.cellAt i (by omega), List.getElem?_map, hzi]
          rfl
        have hgl := (H2.out.1.lt g rfl).2
        have hckr := (HX.out.2.cell (p := ⟨g, i, none⟩) hgl).trans hck
        have CQ := Go.Lib.hid (l2Depth_any zs wr hword)
        obtain ⟨R, hR⟩ : ∃ R, tellMeanDepth zs = R := ⟨_, rfl⟩
        have HN : Hid (sumT tellMeanDepth ((allW m).take (i + 1)) = t + R) := Go.Lib.hid (by rw [sumT_take hzi, HX.out.1, hR])
        have hlti : (i : Int) < (F : Int) := by omega
        have hR1 : R ≤ 1000 := by rw [← hR]; exact depth_le hm1 hm6 zs hmem
        rw [show depthTo zs zs.size = R from hR] at CQ
        clear hzi hmem hword hck hgl hiL hR
        go_wp2_with fail
        refine (CQ.out).mono ?_
        rintro e _ ⟨rfl, rfl⟩
        have HB4 := HX.out.2
        have HB4 := Go.Lib.hid HB4
        clear CQ
        go_wp2
        go_roundw
        case rel => exact ⟨i + 1, t + R, by omega, by go_num, by go_num, Go.Lib.hid ⟨HN.out.symm, HB4.out⟩⟩
        case measure => simp [intOf]; omega
      · obtain rfl : i = F := by omega
        have hall : t = sumT tellMeanDepth (allW m) := by rw [HX.out.1, ← HF.out, sumT_all]
        have CL := Go.Lib.hid (fun (X : World) => l9Cut_any t i (by omega) hF1 (by omega) X)
        obtain ⟨x0, hx0⟩ : ∃ x, (cutF t i).1 = x := ⟨_, rfl⟩
        obtain ⟨x1, hx1⟩ : ∃ x, (cutF t i).2 = x := ⟨_, rfl⟩
        have HM : Hid (x0 = a ∧ x1 = b ∧ true = ok) := Go.Lib.hid (by
          have h := HH.out
          unfold meanL at h
          rw [← hall, HF.out, hx0, hx1] at h
          cases h
          exact ⟨rfl, rfl, rfl⟩)
        rw [hx0, hx1] at CL
        have HXA := Go.Lib.hid (And.intro (arr2_call H2.out.2.1 HX.out.2) (H2.out.2.2.trans (HX.out.2.mono H2.out.2.2.size) : Below W.heap.size W wr))
        clear hx0 hx1 hall hle
        go_wp2_with fail
        refine (CL.out _).mono ?_
        rintro e w5 ⟨rfl, hb5⟩
        have H5 := Go.Lib.hid (And.intro (arr2_call HXA.out.1 hb5) (HXA.out.2.trans (hb5.mono HXA.out.2.size) : Below W.heap.size W w5))
        obtain ⟨m0, m1, e0, e1⟩ := arr2_cells H5.out.1
        obtain ⟨s1, s2, hNN⟩ := arr2_store H5.out.1 (.int .i64 (x0 : Int)) (.int .i64 (x1 : Int))
        have HN := Go.Lib.hid (And.intro hNN (arr2_below (Nat.le_refl _) H5.out.2 (.int .i64 (x0 : Int)) (.int .i64 (x1 : Int))))
        clear hNN hb5 CL
        go_wp2_with fail
        (try simp only [Exit.inBlock, Exit.then])
        refine bodyPost_ret (arr2_result2 rfl rfl HN.out.1) rfl ?_
        rw [← HM.out.1, ← HM.out.2.1, ← HM.out.2.2]
        exact ⟨rfl, HN.out.2⟩

end Go.Proofs.YtnhhnffolmgceabGreat.ChMeanDepthSC

end

section
namespace Go.Proofs.YtnhhnffolmgceabGreat.ChMeanKeptIC
open Go.RowKit SeesC IntsC ExactC OrdMath AllO ListsC Arr2C ChM ChQ UsedC MeanOC MeanSC WordMath WordC WordsC RunC SignsC SortedOrdC AllO SwfM OrdFacts EndsM CollWC KnownC
set_option linter.unusedVariables false

/-- How many of the first numbers are at their own places. -/
def kpt (out : List Int) : Nat → Nat
  | 0 => 0
  | k + 1 => kpt out k + (if out.getD k 0 = ((k : Int) + 1) then 1 else 0)

theorem kpt_le (out : List Int) : ∀ k, kpt out k ≤ k
  | 0 => Nat.le_refl _
  | k + 1 => by
    have h := kpt_le out k
    unfold kpt
    split <;> omega

def tellMeanKept (w : ByteArray) : Nat := kpt (runOut (iota (w.size / 2)) w) (w.size / 2)

theorem depth_le {m : Nat} (h1 : 1 ≤ m) (h6 : m ≤ 6) : ∀ w ∈ allW m, tellMeanKept w ≤ 1000 := by
  intro w hw
  have hsz := (all_mem h1 (by omega) hw).2
  have h := kpt_le (runOut (iota (w.size / 2)) w) (w.size / 2)
  unfold tellMeanKept
  omega

set_option maxRecDepth 100000 in
set_option maxHeartbeats 2000000 in
theorem sayMeanKept (m : Nat) (hm1 : 1 ≤ m) (hm7 : m ≤ 7) (W : World) : TellS 46 #[] (allW m) tellMeanKept W := by
  intro w hw X hX
  have hword := (all_mem hm1 hm7 hw).1
  have hsz := (all_mem hm1 hm7 hw).2
  have hd : w.size / 2 = m := by omega
  obtain ⟨out, hout⟩ : ∃ out, runOut (iota m) w = out := ⟨_, rfl⟩
  have hol : out.length = m := by rw [← hout, runOut_len hword (by rw [iota_len]; exact hsz), iota_len]
  have HT : Hid (tellMeanKept w = kpt out m) := Go.Lib.hid (by unfold tellMeanKept; rw [hd, hout])
  have CS := Go.Lib.hid (fun (Y : World) => sortedOrder_any m Y hm7)
  have CR := Go.Lib.hid (fun (Y : World) (v : Value) (hv : Sees Y v m (vals (iota m))) => runSigns_any (iota m) w (ord_of_perm (List.Perm.refl _) hm1 hm7) hword (by rw [iota_len]; exact hsz) Y v m hv)
  rw [hout] at CR
  have hq : ((w.size : Int)).tdiv 2 = (m : Int) := by rw [hsz, show ((2 * m : Nat) : Int) = 2 * (m : Int) by omega]; exact Int.mul_tdiv_cancel_left _ (by decide)
  have hs60 : w.size ≤ 60 := by omega
  have HO := Go.Lib.hid (And.intro hol hm7)
  clear hword hw hX hout hsz hol hd
  go_enter Tryz.func46, Tryz.ntmps46
  go_wp2_with fail
  refine (CS.out _).mono ?_
  rintro e w1 ⟨g1, c1, rfl, ho1, hb1⟩
  have H1 := Go.Lib.hid (And.intro ho1 hb1)
  clear ho1 hb1
  go_wp2_with fail
  refine (CR.out _ _ (Sees.owns H1.out.1)).mono ?_
  rintro e w2 ⟨u, rfl, ho2, hb2⟩
  rw [HO.out.1] at ho2
  have H2 : Hid (Below X.heap.size X w2) := Go.Lib.hid (H1.out.2.trans (hb2.mono H1.out.2.size))
  obtain ⟨g2, c2, rfl⟩ := own_pos ho2 (by omega)
  have H3 := Go.Lib.hid ho2
  clear ho2 hb2 CS CR hq
  go_wp2_with fail
  go_loopw [3, 13] (fun tv kv wr => ∃ (k t : Nat), k ≤ m ∧ t ≤ k ∧ kv = .int .i64 k ∧ tv = .int .i64 t ∧ wr = w2 ∧ Hid (t = kpt out k)) (fun _ kv _ => m - (intOf kv).toNat)
  case atStart => exact ⟨0, 0, Nat.zero_le _, Nat.le_refl _, rfl, rfl, rfl, Go.Lib.hid rfl⟩
  case round =>
    obtain ⟨k, t, hk, ht, rfl, rfl, rfl, HK⟩ := hrel
    by_cases hlt : k < m
    · obtain ⟨z, hz⟩ : ∃ z, out.getD k 0 = z := ⟨_, rfl⟩
      have hck : wr.cell? ⟨g2, k, none⟩ = some (.int .i64 z) := by
        rw [H3.out.cellAt k (by omega), List.getElem?_map, List.getElem?_eq_getElem (by rw [HO.out.1]; exact hlt)]
        rw [List.getD_eq_getElem?_getD, List.getElem?_eq_getElem (by rw [HO.out.1]; exact hlt)] at hz
        rw [← hz]
        rfl
      have hlti : (k : Int) < (m : Int) := by omega
      obtain ⟨r, hr⟩ : ∃ r, (z == ((k : Int) + 1)) = r := ⟨_, rfl⟩
      cases r with
      | true =>
        have HN : Hid (t + 1 = kpt out (k + 1)) := Go.Lib.hid (by unfold kpt; rw [hz, if_pos (by simpa using hr), HK.out])
        clear hz
        go_wp2
        go_roundw
        case rel => exact ⟨k + 1, t + 1, by omega, by omega, by go_num, by go_num, by first | rfl | trivial, HN⟩
        case measure => simp [intOf]; omega
      | false =>
        have HN : Hid (t = kpt out (k + 1)) := Go.Lib.hid (by unfold kpt; rw [hz, if_neg (by simpa using hr), HK.out]; rfl)
        clear hz
        go_wp2
        go_roundw
        case rel => exact ⟨k + 1, t, by omega, by omega, by go_num, by rfl, by first | rfl | trivial, HN⟩
        case measure => simp [intOf]; omega
    · obtain rfl : k = m := by omega
      go_wp2
      go_ret
      exact ⟨by rw [HT.out, ← HK.out]; rfl, H2.out⟩

set_option maxRecDepth 100000 in
set_option maxHeartbeats 1000000 in
theorem implMeanKept (n : Int) (a b : Nat) (ok : Bool) (h : chAns n (fun m => meanL (allW m) tellMeanKept) = (a, b, ok)) (hw : (Lit.int .i64 n).wf = true) (W : World) :
    Calls Tryz.prog 14 #[.int .i64 n] W fun e w' => FracTo W e w' a b ok := by
  have hA0 := arr2_alloc W (.int .i64 0) (.int .i64 0)
  have hB0 : Below W.heap.size W (W.alloc (.cells #[.int .i64 0, .int .i64 0] 26)) := (Below.refl _ W).alloc (Nat.le_refl _) _
  have HA := Go.Lib.hid (And.intro hA0 hB0)
  have CD := Go.Lib.hid (drawnWords_any n hw (W.alloc (.cells #[.int .i64 0, .int .i64 0] 26)))
  clear hA0 hB0
  go_enter Tryz.func14, Tryz.ntmps14
  go_wp2_with fail
  refine (CD.out).mono ?_
  rintro e w2 (⟨hno, ⟨a0, c, rfl⟩, hb⟩ | ⟨m, rfl, hm1, hm6, v, rfl, hL, hb⟩)
  · rw [ch_out hno] at h
    cases h
    have H2 := Go.Lib.hid (And.intro (arr2_call HA.out.1 hb) (HA.out.2.trans (hb.mono HA.out.2.size) : Below W.heap.size W w2))
    have CM := Go.Lib.hid (fun (a : Option Addr) (c : Nat) => meanS_none (.func (.func 46) #[] #[]) a c w2)
    clear hb hno CD
    go_wp2_with fail
    refine (CM.out _ _).mono ?_
    rintro e w5 ⟨rfl, hb5⟩
    have H5 := Go.Lib.hid (And.intro (arr2_call H2.out.1 hb5) (H2.out.2.trans (hb5.mono H2.out.2.size) : Below W.heap.size W w5))
    obtain ⟨m0, m1, e0, e1⟩ := arr2_cells H5.out.1
    obtain ⟨s1, s2, hNN⟩ := arr2_store H5.out.1 (.int .i64 0) (.int .i64 0)
    have HN := Go.Lib.hid (And.intro hNN (arr2_below (Nat.le_refl _) H5.out.2 (.int .i64 0) (.int .i64 0)))
    clear hNN hb5 CM
    go_wp2_with fail
    (try simp only [Exit.inBlock, Exit.then])
    refine bodyPost_ret (arr2_result2 rfl rfl HN.out.1) rfl ?_
    exact ⟨rfl, HN.out.2⟩
  · rw [ch_in (q := fun m => meanL (allW m) tellMeanKept) rfl hm1 hm6] at h
    cases h
    have H2 := Go.Lib.hid (And.intro hL (And.intro (arr2_call HA.out.1 hb) (HA.out.2.trans (hb.mono HA.out.2.size) : Below W.heap.size W w2)))
    have CM := Go.Lib.hid (meanS_any (allW m) tellMeanKept (depth_le hm1 hm6) (allW m).length rfl (allW_1k hm1 hm6).1 (allW_1k hm1 hm6).2 46 #[] (enters_of Tryz.func46 (by kernel_rfl) rfl) w2 v (Sees.owns H2.out.1) (sayMeanKept m hm1 (by omega) w2))
    obtain ⟨_, va, vc, rfl, _, _⟩ := Sees.owns hL
    clear hL hb CD
    obtain ⟨N, hN⟩ : ∃ N, (allW m).length = N := ⟨_, rfl⟩
    rw [hN] at H2 CM ⊢
    clear hN
    go_wp2_with fail
    refine (CM.out).mono ?_
    rintro e w5 ⟨rfl, hb5⟩
    have H5 := Go.Lib.hid (And.intro (arr2_call H2.out.2.1 hb5) (H2.out.2.2.trans (hb5.mono H2.out.2.2.size) : Below W.heap.size W w5))
    obtain ⟨x0, hx0⟩ : ∃ x, (meanL (allW m) tellMeanKept).1 = x := ⟨_, rfl⟩
    obtain ⟨x1, hx1⟩ : ∃ x, (meanL (allW m) tellMeanKept).2 = x := ⟨_, rfl⟩
    rw [hx0, hx1]
    have HM := Go.Lib.hid (And.intro hx0 hx1)
    obtain ⟨m0, m1, e0, e1⟩ := arr2_cells H5.out.1
    obtain ⟨s1, s2, hNN⟩ := arr2_store H5.out.1 (.int .i64 (x0 : Int)) (.int .i64 (x1 : Int))
    have HN := Go.Lib.hid (And.intro hNN (arr2_below (Nat.le_refl _) H5.out.2 (.int .i64 (x0 : Int)) (.int .i64 (x1 : Int))))
    clear hNN hb5 CM hx0 hx1
    go_wp2_with fail
    (try simp only [Exit.inBlock, Exit.then])
    refine bodyPost_ret (arr2_result2 rfl rfl HN.out.1) rfl ?_
    first | exact ⟨rfl, HN.out.2⟩ | (rw [HM.out.1, HM.out.2]; exact ⟨rfl, HN.out.2⟩)

end Go.Proofs.YtnhhnffolmgceabGreat.ChMeanKeptIC

end

section
namespace Go.Proofs.YtnhhnffolmgceabGreat.ChMeanKeptSC
open Go.RowKit SeesC IntsC ExactC OrdMath AllO ListsC ListsEC Arr2C ChM ChQ CutFC L9C WordMath WordC WordsC RunC AtC OrdFacts UsedC EndsM CollWC WSpecC ChMeanKeptIC
set_option linter.unusedVariables false

set_option maxRecDepth 100000 in
set_option maxHeartbeats 4000000 in
theorem specMeanKept (n : Int) (a b : Nat) (ok : Bool) (h : chAns n (fun m => meanL (allW m) tellMeanKept) = (a, b, ok)) (hw : (Lit.int .i64 n).wf = true) (W : World) :
    Calls Tryz.prog 15 #[.int .i64 n] W fun e w' => FracTo W e w' a b ok := by
  have hA0 := arr2_alloc W (.int .i64 0) (.int .i64 0)
  have hB0 : Below W.heap.size W (W.alloc (.cells #[.int .i64 0, .int .i64 0] 26)) := (Below.refl _ W).alloc (Nat.le_refl _) _
  have HA := Go.Lib.hid (And.intro hA0 hB0)
  clear hA0 hB0
  obtain ⟨r, hr⟩ : ∃ r, decide (1 ≤ n ∧ n ≤ 6) = r := ⟨_, rfl⟩
  have CZ := Go.Lib.hid (fun (X : World) => l9Size_any n X r hr)
  have HR := Go.Lib.hid hr
  clear hr
  obtain ⟨W1, hW1⟩ : ∃ W1, W.alloc (.cells #[.int .i64 0, .int .i64 0] 26) = W1 := ⟨_, rfl⟩
  cases r with
  | false =>
    rw [ch_out (of_decide_eq_false HR.out)] at h
    cases h
    go_enter Tryz.func15, Tryz.ntmps15
    go_wp2_with fail
    rw [hW1] at HA
    refine (CZ.out _).mono ?_
    rintro e _ ⟨rfl, rfl⟩
    obtain ⟨m0, m1, e0, e1⟩ := arr2_cells HA.out.1
    obtain ⟨s1, s2, hNN⟩ := arr2_store HA.out.1 (.int .i64 0) (.int .i64 0)
    have HN := Go.Lib.hid (And.intro hNN (arr2_below (Nat.le_refl _) HA.out.2 (.int .i64 0) (.int .i64 0)))
    clear hNN
    go_wp2_with fail
    (try simp only [Exit.inBlock, Exit.then])
    refine bodyPost_ret (arr2_result2 rfl rfl HN.out.1) rfl ?_
    exact ⟨rfl, HN.out.2⟩
  | true =>
    have h16 := of_decide_eq_true HR.out
    obtain ⟨m, rfl⟩ : ∃ m : Nat, n = (m : Int) := ⟨n.toNat, by omega⟩
    have hm1 : 1 ≤ m := by omega
    have hm6 : m ≤ 6 := by omega
    have hm7 : m ≤ 7 := by omega
    rw [ch_in (q := fun m => meanL (allW m) tellMeanKept) rfl hm1 hm6] at h
    have HH := Go.Lib.hid h
    have CO := Go.Lib.hid (fun (X : World) => words_spec m hm7 X)
    obtain ⟨F, hF⟩ : ∃ F, (allW m).length = F := ⟨_, rfl⟩
    have hFF := allW_1k hm1 hm6
    rw [hF] at hFF
    have hF1 := hFF.1
    have hF5 := hFF.2
    have HF := Go.Lib.hid hF
    clear hF hFF h h16 HR
    go_enter Tryz.func15, Tryz.ntmps15
    go_wp2_with fail
    rw [hW1] at HA
    refine (CZ.out _).mono ?_
    rintro e _ ⟨rfl, rfl⟩
    go_wp2_with fail
    refine (CO.out _).mono ?_
    rintro e w2 ⟨g, c, rfl, hog, hb2⟩
    rw [HF.out] at hog ⊢
    have H2 := Go.Lib.hid (And.intro hog (And.intro (arr2_call HA.out.1 hb2) (HA.out.2.trans (hb2.mono HA.out.2.size) : Below W.heap.size W w2)))
    clear hog hb2 CO CZ hW1
    go_wp2_with fail
    go_loopw [4, 6] (fun mv iv wr => ∃ (i t : Nat), i ≤ F ∧ iv = .int .i64 i ∧ mv = .int .i64 t ∧ Hid (t = sumT tellMeanKept ((allW m).take i) ∧ Below w2.heap.size w2 wr)) (fun _ i _ => F - (intOf i).toNat)
    case atStart => exact ⟨0, 0, Nat.zero_le _, rfl, rfl, Go.Lib.hid ⟨rfl, Below.refl _ _⟩⟩
    case round =>
      obtain ⟨i, t, hiF, rfl, rfl, HX⟩ := hrel
      have hle := sumT_le (tell := tellMeanKept) (b := 1000) (L := (allW m).take i) (fun x hx => (depth_le hm1 hm6) x (List.mem_of_mem_take hx))
      rw [List.length_take, HF.out, Nat.min_eq_left hiF, ← HX.out.1] at hle
      by_cases hlt : i < F
      · have hiL : i < (allW m).length := by rw [HF.out]; exact hlt
        obtain ⟨zs, hzi⟩ : ∃ zs, (allW m)[i]? = some zs := ⟨_, List.getElem?_eq_getElem hiL⟩
        have hmem : zs ∈ allW m := List.mem_of_getElem? hzi
        have hword := (all_mem hm1 hm7 hmem).1
        have hck : w2.cell? ⟨g, i, none⟩ = some (.string zs) := by
          rw [H2.out.1.cellAt i (by omega), List.getElem?_map, hzi]
          rfl
        have hgl := (H2.out.1.lt g rfl).2
        have hckr := (HX.out.2.cell (p := ⟨g, i, none⟩) hgl).trans hck
        have hsz := (all_mem hm1 hm7 hmem).2
        obtain ⟨out, hout⟩ : ∃ out, runOut (iota m) zs = out := ⟨_, rfl⟩
        have hol : out.length = m := by rw [← hout, runOut_len hword (by rw [iota_len]; exact hsz), iota_len]
        have CR := Go.Lib.hid (fun (Y : World) (hY : Below wr.heap.size wr Y) (v : Value) (hv : Sees Y v m (vals (iota m))) => (l2Run_any (iota m) zs (ord_of_perm (List.Perm.refl _) hm1 hm7) hword (by rw [iota_len]; exact hsz) Y v m hv).mono (fun e w' h => show ∃ g c, e = .returned (.slice (some ⟨g, 0, none⟩) m c) ∧ w'.ownsRow wr.heap.size 3 1 (.slice (some ⟨g, 0, none⟩) m c) m (vals out) ∧ Below wr.heap.size wr w' from by
          obtain ⟨u, h1, h2, h3⟩ := h
          rw [hout, hol] at h2
          obtain ⟨g5, c5, rfl⟩ := own_pos h2 (by omega)
          exact ⟨g5, c5, h1, own_lower h2 hY.size, hY.trans (h3.mono hY.size)⟩))
        have CS := Go.Lib.hid (fun (X : World) (hX : Below wr.heap.size wr X) => (l2Sorted_any m X hm7).mono (fun e w' h => show ∃ g c, e = .returned (.slice (some ⟨g, 0, none⟩) m c) ∧ w'.ownsRow wr.heap.size 3 1 (.slice (some ⟨g, 0, none⟩) m c) m (vals (iota m)) ∧ Below wr.heap.size wr w' from by obtain ⟨g, c, h1, h2, h3⟩ := h; exact ⟨g, c, h1, own_lower h2 hX.size, hX.trans (h3.mono hX.size)⟩))
        have B0 := Go.Lib.hid (Below.refl wr.heap.size wr)
        have HCK := Go.Lib.hid (fun (X : World) (hX : Below wr.heap.size wr X) => (hX.cell (p := ⟨g, i, none⟩) (World.block_lt_of_cell? wr _ hckr)).trans hckr)
        have HN : Hid (sumT tellMeanKept ((allW m).take (i + 1)) = t + kpt out m) := Go.Lib.hid (by
          rw [sumT_take hzi, HX.out.1]
          unfold tellMeanKept
          rw [show zs.size / 2 = m by omega, hout])
        have HO := Go.Lib.hid hol
        have hlti : (i : Int) < (F : Int) := by omega
        clear hzi hmem hword hck hgl hiL hout hol hsz
        go_wp2_with fail
        go_region_held3 (fun X => X.cell? ⟨g, i, none⟩ = some (.string zs)) (first
          | exact HCK.out _ (UsedC.below_heap H5.out.2 (by rfl) (by rfl) (by rfl) (by rfl))
          | exact HCK.out _ (UsedC.below_heap H3.out.2 (by rfl) (by rfl) (by rfl) (by rfl))
          | exact HCK.out _ (UsedC.below_heap B0.out (by rfl) (by rfl) (by rfl) (by rfl))) (first
          | (have hX3 := H3; go_at_call 36; refine (CR.out _ (UsedC.below_heap H3.out.2 (by rfl) (by rfl) (by rfl) (by rfl)) _ (Sees.owns (UsedC.own_heap (by rfl) H3.out.1))).mono ?_; rintro e w5 ⟨g5, c5, rfl, ho5, hb5⟩; have H5 := Go.Lib.hid (And.intro ho5 hb5); clear ho5 hb5 hX3)
          | (go_at_call 37; refine (CS.out _ (UsedC.below_heap B0.out (by rfl) (by rfl) (by rfl) (by rfl))).mono ?_; rintro e w3 ⟨g3, c3, rfl, ho3, hb3⟩; have H3 := Go.Lib.hid (And.intro ho3 hb3); clear ho3 hb3))
        all_goals
          have HB4 := Go.Lib.hid (HX.out.2.trans (H5.out.2.mono HX.out.2.size))
          have HOW := Go.Lib.hid (And.intro H5.out.1 HB4.out)
          obtain ⟨G5, hG5⟩ : ∃ G, wr.heap.size = G := ⟨_, rfl⟩
          rw [hG5] at HOW
          clear hG5
          clear CR CS hckr
          go_wp2_with fail
          go_loopw [4, 8] (fun tv kv wq => ∃ (k u : Nat), k ≤ m ∧ u ≤ t + k ∧ kv = .int .i64 k ∧ tv = .int .i64 u ∧ Hid (u = t + kpt out k ∧ wq.ownsRow G5 3 1 (.slice (some ⟨g5, 0, none⟩) m c5) m (vals out) ∧ Below w2.heap.size w2 wq)) (fun _ kv _ => m - (intOf kv).toNat)
          case atStart => exact ⟨0, t, Nat.zero_le _, by omega, rfl, rfl, Go.Lib.hid ⟨rfl, HOW.out⟩⟩
          case round =>
            obtain ⟨k, u, hk, hu, rfl, rfl, HK⟩ := hrel
            by_cases hlk : k < m
            · obtain ⟨z, hz⟩ : ∃ z, out.getD k 0 = z := ⟨_, rfl⟩
              have hckk : wr.cell? ⟨g5, k, none⟩ = some (.int .i64 z) := by
                rw [HK.out.2.1.cellAt k (by omega), List.getElem?_map, List.getElem?_eq_getElem (by rw [HO.out]; exact hlk)]
                rw [List.getD_eq_getElem?_getD, List.getElem?_eq_getElem (by rw [HO.out]; exact hlk)] at hz
                rw [← hz]
                rfl
              have hlki : (k : Int) < (m : Int) := by omega
              obtain ⟨r, hr⟩ : ∃ r, (z == ((k : Int) + 1)) = r := ⟨_, rfl⟩
              cases r with
              | true =>
                have HNN := Go.Lib.hid (And.intro (show u + 1 = t + kpt out (k + 1) by unfold kpt; rw [hz, if_pos (by simpa using hr)]; have := HK.out.1; omega) HK.out.2)
                clear hz
                go_wp2
                go_roundw
                case rel => exact ⟨k + 1, u + 1, by omega, by omega, by go_num, by go_num, HNN⟩
                case measure => simp [intOf]; omega
              | false =>
                have HNN := Go.Lib.hid (And.intro (show u = t + kpt out (k + 1) by unfold kpt; rw [hz, if_neg (by simpa using hr)]; have := HK.out.1; omega) HK.out.2)
                clear hz
                go_wp2
                go_roundw
                case rel => exact ⟨k + 1, u, by omega, by omega, by go_num, by rfl, HNN⟩
                case measure => simp [intOf]; omega
            · obtain rfl : k = m := by omega
              have HU := Go.Lib.hid (And.intro (HK.out.1.trans HN.out.symm) HK.out.2.2)
              go_wp2
              go_roundw
              case rel => exact ⟨i + 1, u, by omega, by go_num, by rfl, HU⟩
              case measure => simp [intOf]; omega
      · obtain rfl : i = F := by omega
        have hall : t = sumT tellMeanKept (allW m) := by rw [HX.out.1, ← HF.out, sumT_all]
        have CL := Go.Lib.hid (fun (X : World) => l9Cut_any t i (by omega) hF1 (by omega) X)
        obtain ⟨x0, hx0⟩ : ∃ x, (cutF t i).1 = x := ⟨_, rfl⟩
        obtain ⟨x1, hx1⟩ : ∃ x, (cutF t i).2 = x := ⟨_, rfl⟩
        have HM : Hid (x0 = a ∧ x1 = b ∧ true = ok) := Go.Lib.hid (by
          have h := HH.out
          unfold meanL at h
          rw [← hall, HF.out, hx0, hx1] at h
          cases h
          exact ⟨rfl, rfl, rfl⟩)
        rw [hx0, hx1] at CL
        have HXA := Go.Lib.hid (And.intro (arr2_call H2.out.2.1 HX.out.2) (H2.out.2.2.trans (HX.out.2.mono H2.out.2.2.size) : Below W.heap.size W wr))
        clear hx0 hx1 hall hle
        go_wp2_with fail
        refine (CL.out _).mono ?_
        rintro e w5 ⟨rfl, hb5⟩
        have H5 := Go.Lib.hid (And.intro (arr2_call HXA.out.1 hb5) (HXA.out.2.trans (hb5.mono HXA.out.2.size) : Below W.heap.size W w5))
        obtain ⟨m0, m1, e0, e1⟩ := arr2_cells H5.out.1
        obtain ⟨s1, s2, hNN⟩ := arr2_store H5.out.1 (.int .i64 (x0 : Int)) (.int .i64 (x1 : Int))
        have HN := Go.Lib.hid (And.intro hNN (arr2_below (Nat.le_refl _) H5.out.2 (.int .i64 (x0 : Int)) (.int .i64 (x1 : Int))))
        clear hNN hb5 CL
        go_wp2_with fail
        (try simp only [Exit.inBlock, Exit.then])
        refine bodyPost_ret (arr2_result2 rfl rfl HN.out.1) rfl ?_
        rw [← HM.out.1, ← HM.out.2.1, ← HM.out.2.2]
        exact ⟨rfl, HN.out.2⟩

end Go.Proofs.YtnhhnffolmgceabGreat.ChMeanKeptSC

end
