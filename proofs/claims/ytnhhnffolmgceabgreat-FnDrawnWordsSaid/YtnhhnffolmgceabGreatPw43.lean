/-
  Contracts and plain facts that the laws' texts lean on. Conditions: as each states.
-/
import Derived.Test.YtnhhnffolmgceabGreatPw40
import Derived.Test.YtnhhnffolmgceabGreatPw34
import Derived.Test.YtnhhnffolmgceabGreatPw9
import Derived.Test.YtnhhnffolmgceabGreatPw22
import Derived.Test.YtnhhnffolmgceabGreatPw17
import Derived.Test.YtnhhnffolmgceabGreatPw32
import Derived.Test.YtnhhnffolmgceabGreatPw37
import Derived.Test.YtnhhnffolmgceabGreatPw24
import Derived.Test.YtnhhnffolmgceabGreatPw39
import Derived.Deep.RegionHeld3
import Derived.Test.YtnhhnffolmgceabGreatPw18
import Derived.Test.YtnhhnffolmgceabGreatPw23

section
namespace Go.Proofs.YtnhhnffolmgceabGreat.ChChanceOutputIC
open Go.RowKit SeesC IntsC ExactC OrdMath AllO ListsC Arr2C ChM ChQ UsedC MeanOC ChanceSC WordMath OrderC WordC WordsC RunC SignsC SweepsC WordFacts EndsM CollWC KnownC
set_option linter.unusedVariables false

def tellChanceOutput (zs : List Int) (w : ByteArray) : Bool := decide (runOut zs w = iota zs.length)
def ansChanceOutput (zs : List Int) : Nat × Nat × Bool := if Ord zs then chAns (zs.length : Int) (fun m => meanL (allW m) (isT (tellChanceOutput zs))) else (0, 0, false)

set_option maxRecDepth 100000 in
set_option maxHeartbeats 1000000 in
theorem sayChanceOutput (zs : List Int) (hord : Ord zs) (m : Nat) (hm1 : 1 ≤ m) (hm7 : m ≤ 7) (hl : zs.length = m) (W : World) (v : Value) (hs : Sees W v m (vals zs)) : SaysS 31 #[v] (allW m) (tellChanceOutput zs) W := by
  intro w hw X hX
  have hword := (all_mem hm1 hm7 hw).1
  have hsz := (all_mem hm1 hm7 hw).2
  have hsz2 : w.size = 2 * zs.length := by rw [hl]; exact hsz
  have CR := Go.Lib.hid (runSigns_any zs w hord hword hsz2 X v m (hs.grow hX))
  obtain ⟨out, hout⟩ : ∃ out, runOut zs w = out := ⟨_, rfl⟩
  have hoo : Ord out := by rw [← hout]; exact ord_run hord hsz2 hword
  have hol : out.length = m := by rw [← hout, runOut_len hword hsz2, hl]
  obtain ⟨R, hR⟩ : ∃ R, decide (out = iota out.length) = R := ⟨_, rfl⟩
  have HT : Hid (tellChanceOutput zs w = R) := Go.Lib.hid (by unfold tellChanceOutput; rw [hout, hl, ← hol]; exact hR)
  have CS := Go.Lib.hid (fun (Y : World) (u : Value) (hu : Sees Y u m (vals out)) => isSorted_any out hoo R hR Y u m hu)
  rw [hout] at CR
  have HO := Go.Lib.hid hol
  obtain ⟨_, ad, cap, rfl, _, _⟩ := hs
  clear hword hw hX hout hsz hol hoo hR hsz2 hl hord
  go_enter Tryz.func31, Tryz.ntmps31
  go_wp2_with fail
  refine (CR.out).mono ?_
  rintro e w2 ⟨u, rfl, ho2, hb2⟩
  rw [HO.out] at ho2
  have H2 : Hid (Below X.heap.size X w2) := Go.Lib.hid hb2
  obtain ⟨g2, c2, rfl⟩ := own_pos ho2 (by omega)
  have H3 := Go.Lib.hid ho2
  clear ho2 hb2 CR
  go_wp2_with fail
  refine (CS.out _ _ (Sees.owns H3.out)).mono ?_
  rintro e w4 ⟨rfl, q, rfl⟩
  go_wp2_with fail
  go_ret
  exact ⟨by rw [HT.out]; rfl, ExactC.below_drewN H2.out⟩

set_option maxRecDepth 100000 in
set_option maxHeartbeats 1000000 in
theorem implChanceOutput (zs : List Int) (a b : Nat) (ok : Bool) (h : ansChanceOutput zs = (a, b, ok)) (hz : zs.length ≤ 1048576) (W : World) (v : Value) (n : Nat) (hv : Sees W v n (vals zs)) :
    Calls Tryz.prog 6 #[v] W fun e w' => FracTo W e w' a b ok := by
  have hl : zs.length = n := by simpa using hv.1
  have hA0 := arr2_alloc W (.int .i64 0) (.int .i64 0)
  have hB0 : Below W.heap.size W (W.alloc (.cells #[.int .i64 0, .int .i64 0] 26)) := (Below.refl _ W).alloc (Nat.le_refl _) _
  have HA := Go.Lib.hid (And.intro hA0 hB0)
  clear hA0 hB0
  obtain ⟨W1, hW1⟩ : ∃ W1, W.alloc (.cells #[.int .i64 0, .int .i64 0] 26) = W1 := ⟨_, rfl⟩
  rw [hW1] at HA
  obtain ⟨r, hr⟩ : ∃ r, isOrd zs = r := ⟨_, rfl⟩
  have CI := Go.Lib.hid (fun (X : World) (hX : Below W.heap.size W X) => implOrder_any X v n zs r (hv.grow hX) (by omega) hr)
  have HV := Go.Lib.hid hv
  obtain ⟨_, ad, cap, rfl, _, _⟩ := hv
  unfold ansChanceOutput at h
  cases r with
  | true =>
    have hord : Ord zs := of_decide_eq_true hr
    rw [if_pos hord, hl] at h
    have hn7 := hord.2.1
    have CD := Go.Lib.hid (fun (X : World) => drawnWords_any (n : Int) (by have e1 : IntKind.i64.min = -9223372036854775808 := rfl; have e2 : IntKind.i64.max = 9223372036854775807 := rfl; simp [Lit.wf, e1, e2]; omega) X)
    have HO := Go.Lib.hid (And.intro hord hl)
    clear hr hord hl hz hn7
    go_enter Tryz.func6, Tryz.ntmps6
    go_wp2_with fail
    refine (CI.out _ HA.out.2).mono ?_
    rintro e w0 ⟨rfl, hb0⟩
    have HA0 := Go.Lib.hid (And.intro (arr2_call HA.out.1 hb0) (HA.out.2.trans (hb0.mono HA.out.2.size) : Below W.heap.size W w0))
    clear hb0
    go_wp2_with fail
    refine (CD.out _).mono ?_
    rintro e w2 (⟨hno, ⟨a0, c, rfl⟩, hb⟩ | ⟨m, hnm, hm1, hm6, v, rfl, hL, hb⟩)
    · rw [ch_out hno] at h
      cases h
      have H2 := Go.Lib.hid (And.intro (arr2_call HA0.out.1 hb) (HA0.out.2.trans (hb.mono HA0.out.2.size) : Below W.heap.size W w2))
      have CM := Go.Lib.hid (fun (a : Option Addr) (c : Nat) => chanceS_none (.func 31) #[.slice ad n cap] #[] a c w2)
      clear hb hno CD
      go_wp2_with fail
      refine (CM.out _ _).mono ?_
      rintro e w5 ⟨rfl, hb5⟩
      have H5 := Go.Lib.hid (And.intro (arr2_call H2.out.1 hb5) (H2.out.2.trans (hb5.mono H2.out.2.size) : Below W.heap.size W w5))
      obtain ⟨m0, m1, e0, e1⟩ := arr2_cells H5.out.1
      obtain ⟨s1, s2, hNN⟩ := arr2_store H5.out.1 (.int .i64 0) (.int .i64 0)
      have HN := Go.Lib.hid (And.intro hNN (arr2_below (Nat.le_refl _) H5.out.2 (.int .i64 0) (.int .i64 0)))
      clear hNN hb5 CM
      go_wp2_with fail
      (try simp only [Exit.inBlock, Exit.then])
      refine bodyPost_ret (arr2_result2 rfl rfl HN.out.1) rfl ?_
      exact ⟨rfl, HN.out.2⟩
    · obtain rfl : m = n := by omega
      rw [ch_in (q := fun m => meanL (allW m) (isT (tellChanceOutput zs))) rfl hm1 hm6] at h
      cases h
      have H2 := Go.Lib.hid (And.intro hL (And.intro (arr2_call HA0.out.1 hb) (HA0.out.2.trans (hb.mono HA0.out.2.size) : Below W.heap.size W w2)))
      have CM := Go.Lib.hid (chanceS_any (allW m) (tellChanceOutput zs) (allW m).length rfl (allW_1k hm1 hm6).1 (allW_1k hm1 hm6).2 31 #[.slice ad m cap] (enters_of Tryz.func31 (by kernel_rfl) rfl) w2 v (Sees.owns H2.out.1) (sayChanceOutput zs HO.out.1 m hm1 (by omega) HO.out.2 w2 (.slice ad m cap) (HV.out.grow H2.out.2.2)))
      obtain ⟨_, va, vc, rfl, _, _⟩ := Sees.owns hL
      clear hL hb CD
      obtain ⟨N, hN⟩ : ∃ N, (allW m).length = N := ⟨_, rfl⟩
      rw [hN] at H2 CM ⊢
      clear hN
      go_wp2_with fail
      refine (CM.out).mono ?_
      rintro e w5 ⟨rfl, hb5⟩
      have H5 := Go.Lib.hid (And.intro (arr2_call H2.out.2.1 hb5) (H2.out.2.2.trans (hb5.mono H2.out.2.2.size) : Below W.heap.size W w5))
      obtain ⟨x0, hx0⟩ : ∃ x, (meanL (allW m) (isT (tellChanceOutput zs))).1 = x := ⟨_, rfl⟩
      obtain ⟨x1, hx1⟩ : ∃ x, (meanL (allW m) (isT (tellChanceOutput zs))).2 = x := ⟨_, rfl⟩
      rw [hx0, hx1]
      have HM := Go.Lib.hid (And.intro hx0 hx1)
      obtain ⟨m0, m1, e0, e1⟩ := arr2_cells H5.out.1
      obtain ⟨s1, s2, hNN⟩ := arr2_store H5.out.1 (.int .i64 (x0 : Int)) (.int .i64 (x1 : Int))
      have HN := Go.Lib.hid (And.intro hNN (arr2_below (Nat.le_refl _) H5.out.2 (.int .i64 (x0 : Int)) (.int .i64 (x1 : Int))))
      clear hNN hb5 CM hx0 hx1
      go_wp2_with fail
      (try simp only [Exit.inBlock, Exit.then])
      refine bodyPost_ret (arr2_result2 rfl rfl HN.out.1) rfl ?_
      first | exact ⟨rfl, HN.out.2⟩ | (rw [HM.out.1, HM.out.2]; exact ⟨rfl, HN.out.2⟩)
  | false =>
    rw [if_neg (of_decide_eq_false hr)] at h
    cases h
    clear hr hl hz
    go_enter Tryz.func6, Tryz.ntmps6
    go_wp2_with fail
    refine (CI.out _ HA.out.2).mono ?_
    rintro e w0 ⟨rfl, hb0⟩
    have HA0 := Go.Lib.hid (And.intro (arr2_call HA.out.1 hb0) (HA.out.2.trans (hb0.mono HA.out.2.size) : Below W.heap.size W w0))
    clear hb0
    obtain ⟨m0, m1, e0, e1⟩ := arr2_cells HA0.out.1
    obtain ⟨s1, s2, hNN⟩ := arr2_store HA0.out.1 (.int .i64 0) (.int .i64 0)
    have HN := Go.Lib.hid (And.intro hNN (arr2_below (Nat.le_refl _) HA0.out.2 (.int .i64 0) (.int .i64 0)))
    clear hNN
    go_wp2_with fail
    (try simp only [Exit.inBlock, Exit.then])
    refine bodyPost_ret (arr2_result2 rfl rfl HN.out.1) rfl ?_
    exact ⟨rfl, HN.out.2⟩

end Go.Proofs.YtnhhnffolmgceabGreat.ChChanceOutputIC

end

section
namespace Go.Proofs.YtnhhnffolmgceabGreat.ChChanceOutputSC
open Go.RowKit SeesC IntsC ExactC OrdMath AllO ListsC ListsEC Arr2C ChM ChQ CutFC L9C WordMath OrderC WordC WordsC RunC AtC SameC EndsM CollWC WSpecC ChChanceOutputIC InC
set_option linter.unusedVariables false

set_option maxRecDepth 100000 in
set_option maxHeartbeats 4000000 in
theorem specChanceOutput (zo : List Int) (a b : Nat) (ok : Bool) (h : ansChanceOutput zo = (a, b, ok)) (hz : zo.length ≤ 1048576) (W : World) (v : Value) (n : Nat) (hv : Sees W v n (vals zo)) :
    Calls Tryz.prog 7 #[v] W fun e w' => FracTo W e w' a b ok := by
  have hl : zo.length = n := by simpa using hv.1
  have hA0 := arr2_alloc W (.int .i64 0) (.int .i64 0)
  have hB0 : Below W.heap.size W (W.alloc (.cells #[.int .i64 0, .int .i64 0] 26)) := (Below.refl _ W).alloc (Nat.le_refl _) _
  have HA := Go.Lib.hid (And.intro hA0 hB0)
  clear hA0 hB0
  obtain ⟨W1, hW1⟩ : ∃ W1, W.alloc (.cells #[.int .i64 0, .int .i64 0] 26) = W1 := ⟨_, rfl⟩
  rw [hW1] at HA
  obtain ⟨r, hr⟩ : ∃ r, isOrd zo = r := ⟨_, rfl⟩
  have CI := Go.Lib.hid (fun (X : World) (hX : Below W.heap.size W X) => l2Order_any X v n zo r (hv.grow hX) (by omega) hr)
  have HV := Go.Lib.hid hv
  obtain ⟨_, ad, cap, rfl, _, _⟩ := hv
  cases r with
  | false =>
    unfold ansChanceOutput at h
    rw [if_neg (of_decide_eq_false hr)] at h
    cases h
    clear hr hl hz
    go_enter Tryz.func7, Tryz.ntmps7
    go_wp2_with fail
    refine (CI.out _ HA.out.2).mono ?_
    rintro e w0 ⟨rfl, hd0⟩
    have HA0 := Go.Lib.hid (And.intro (arr2_call HA.out.1 (hd0.below _)) (HA.out.2.trans (hd0.below _) : Below W.heap.size W w0))
    clear hd0
    obtain ⟨m0, m1, e0, e1⟩ := arr2_cells HA0.out.1
    obtain ⟨s1, s2, hNN⟩ := arr2_store HA0.out.1 (.int .i64 0) (.int .i64 0)
    have HN := Go.Lib.hid (And.intro hNN (arr2_below (Nat.le_refl _) HA0.out.2 (.int .i64 0) (.int .i64 0)))
    clear hNN
    go_wp2_with fail
    (try simp only [Exit.inBlock, Exit.then])
    refine bodyPost_ret (arr2_result2 rfl rfl HN.out.1) rfl ?_
    exact ⟨rfl, HN.out.2⟩
  | true =>
    have hord : Ord zo := of_decide_eq_true hr
    unfold ansChanceOutput at h
    rw [if_pos hord, hl] at h
    have hm1 : 1 ≤ n := by have := hord.1; omega
    have hm7 : n ≤ 7 := by have := hord.2.1; omega
    have HO := Go.Lib.hid (And.intro hord hl)
    clear hr hord hl hz
    obtain ⟨r1, hr1⟩ : ∃ r, decide (1 ≤ (n : Int) ∧ (n : Int) ≤ 6) = r := ⟨_, rfl⟩
    have CZ := Go.Lib.hid (fun (X : World) => l9Size_any (n : Int) X r1 hr1)
    cases r1 with
    | false =>
      rw [ch_out (of_decide_eq_false hr1)] at h
      cases h
      clear hr1
      go_enter Tryz.func7, Tryz.ntmps7
      go_wp2_with fail
      refine (CI.out _ HA.out.2).mono ?_
      rintro e w0 ⟨rfl, hd0⟩
      have HA0 := Go.Lib.hid (And.intro (arr2_call HA.out.1 (hd0.below _)) (HA.out.2.trans (hd0.below _) : Below W.heap.size W w0))
      clear hd0
      go_wp2_with fail
      refine (CZ.out _).mono ?_
      rintro e _ ⟨rfl, rfl⟩
      obtain ⟨m0, m1, e0, e1⟩ := arr2_cells HA0.out.1
      obtain ⟨s1, s2, hNN⟩ := arr2_store HA0.out.1 (.int .i64 0) (.int .i64 0)
      have HN := Go.Lib.hid (And.intro hNN (arr2_below (Nat.le_refl _) HA0.out.2 (.int .i64 0) (.int .i64 0)))
      clear hNN
      go_wp2_with fail
      (try simp only [Exit.inBlock, Exit.then])
      refine bodyPost_ret (arr2_result2 rfl rfl HN.out.1) rfl ?_
      exact ⟨rfl, HN.out.2⟩
    | true =>
      have hm6 : n ≤ 6 := by have := of_decide_eq_true hr1; omega
      obtain ⟨m, hm⟩ : ∃ m, n = m := ⟨_, rfl⟩
      subst hm
      rw [ch_in (q := fun m => meanL (allW m) (isT (tellChanceOutput zo))) rfl hm1 hm6] at h
      clear hr1
      have hm : True := trivial
      have HH := Go.Lib.hid h
      have CO := Go.Lib.hid (fun (X : World) => words_spec n hm7 X)
      obtain ⟨F, hF⟩ : ∃ F, (allW n).length = F := ⟨_, rfl⟩
      have hFF := allW_1k hm1 hm6
      rw [hF] at hFF
      have hF1 := hFF.1
      have hF5 := hFF.2
      have HF := Go.Lib.hid hF
      clear hF hFF h hm
      go_enter Tryz.func7, Tryz.ntmps7
      go_wp2_with fail
      refine (CI.out _ HA.out.2).mono ?_
      rintro e w0 ⟨rfl, hd0⟩
      have HA0 := Go.Lib.hid (And.intro (arr2_call HA.out.1 (hd0.below _)) (HA.out.2.trans (hd0.below _) : Below W.heap.size W w0))
      clear hd0
      go_wp2_with fail
      refine (CZ.out _).mono ?_
      rintro e _ ⟨rfl, rfl⟩
      go_wp2_with fail
      refine (CO.out _).mono ?_
      rintro e w2 ⟨g, c, rfl, hog, hb2⟩
      rw [HF.out] at hog ⊢
      have H2 := Go.Lib.hid (And.intro hog (And.intro (arr2_call HA0.out.1 hb2) (HA0.out.2.trans (hb2.mono HA0.out.2.size) : Below W.heap.size W w2)))
      clear hog hb2 CO CZ CI
      go_wp2_with fail
      go_loopw [4, 6] (fun mv iv wr => ∃ (i t : Nat), i ≤ F ∧ iv = .int .i64 i ∧ mv = .int .i64 t ∧ Hid (t = sumT (isT (tellChanceOutput zo)) ((allW n).take i) ∧ Below w2.heap.size w2 wr)) (fun _ i _ => F - (intOf i).toNat)
      case atStart => exact ⟨0, 0, Nat.zero_le _, rfl, rfl, Go.Lib.hid ⟨rfl, Below.refl _ _⟩⟩
      case round =>
        obtain ⟨i, t, hiF, rfl, rfl, HX⟩ := hrel
        have hle := sumT_le (tell := (isT (tellChanceOutput zo))) (b := 1000) (L := (allW n).take i) (fun x hx => (fun zs _ => Nat.le_trans (isT_le (tellChanceOutput zo) zs) (by omega)) x (List.mem_of_mem_take hx))
        rw [List.length_take, HF.out, Nat.min_eq_left hiF, ← HX.out.1] at hle
        by_cases hlt : i < F
        · have hiL : i < (allW n).length := by rw [HF.out]; exact hlt
          obtain ⟨zs, hzi⟩ : ∃ zs, (allW n)[i]? = some zs := ⟨_, List.getElem?_eq_getElem hiL⟩
          have hmem : zs ∈ allW n := List.mem_of_getElem? hzi
          have hword := (all_mem hm1 hm7 hmem).1
          have hck : w2.cell? ⟨g, i, none⟩ = some (.string zs) := by
            rw [H2.out.1.cellAt i (by omega), List.getElem?_map, hzi]
            rfl
          have hgl := (H2.out.1.lt g rfl).2
          have hckr := (HX.out.2.cell (p := ⟨g, i, none⟩) hgl).trans hck
          have hsz := (all_mem hm1 hm7 hmem).2
          have hsz2 : zs.size = 2 * zo.length := by rw [HO.out.2]; exact hsz
          obtain ⟨out, hout⟩ : ∃ out, runOut zo zs = out := ⟨_, rfl⟩
          have hol : out.length = n := by rw [← hout, runOut_len hword hsz2, HO.out.2]
          have CR := Go.Lib.hid (l2Run_any zo zs HO.out.1 hword hsz2 wr (.slice ad n cap) n (HV.out.grow (H2.out.2.2.trans (HX.out.2.mono H2.out.2.2.size))))
          rw [hout] at CR
          have CS := Go.Lib.hid (fun (X : World) => l2Sorted_any n X hm7)
          obtain ⟨R, hR⟩ : ∃ R, decide (out = iota n) = R := ⟨_, rfl⟩
          have CE := Go.Lib.hid (fun (X : World) (u1 u2 : Value) (h1 : Sees X u1 n (vals out)) (h2 : Sees X u2 n (vals (iota n))) => l1Same_any out (iota n) R X u1 n h1 u2 h2 (by omega) hR)
          have HN : Hid (sumT (isT (tellChanceOutput zo)) ((allW n).take (i + 1)) = if R = true then t + 1 else t) := Go.Lib.hid (by
            rw [sumT_take hzi, HX.out.1]
            have e1 : tellChanceOutput zo zs = R := by unfold tellChanceOutput; rw [hout, HO.out.2]; exact hR
            unfold isT
            rw [e1]
            cases R <;> rfl)
          have HOL := Go.Lib.hid hol
          have hlti : (i : Int) < (F : Int) := by omega
          clear hzi hmem hword hck hgl hiL hout hol hsz hsz2 hR
          go_wp2_with fail
          refine (CR.out).mono ?_
          rintro e w3 ⟨u3, rfl, ho3, hb3⟩
          rw [HOL.out] at ho3
          obtain ⟨g3, c3, rfl⟩ := own_pos ho3 (by omega)
          have H3 := Go.Lib.hid (And.intro ho3 hb3)
          clear ho3 hb3 CR
          go_wp2_with fail
          refine (CS.out _).mono ?_
          rintro e w4 ⟨g4, c4, rfl, ho4, hb4⟩
          have H4 := Go.Lib.hid (And.intro (kept_call H3.out.1 hb4) (And.intro ho4 (H3.out.2.trans (hb4.mono H3.out.2.size))))
          clear ho4 hb4 CS
          go_wp2_with fail
          refine (CE.out _ _ _ (Sees.owns H4.out.1) (Sees.owns H4.out.2.1)).mono ?_
          rintro e w6 ⟨rfl, hd6⟩
          have HB4 := Go.Lib.hid (HX.out.2.trans ((H4.out.2.2.trans (hd6.below _)).mono HX.out.2.size))
          clear hd6 CE
          cases R with
          | true =>
            go_wp2
            go_roundw
            case rel => exact ⟨i + 1, t + 1, by omega, by go_num, by go_num, Go.Lib.hid ⟨HN.out.symm, HB4.out⟩⟩
            case measure => simp [intOf]; omega
          | false =>
            go_wp2
            go_roundw
            case rel => exact ⟨i + 1, t, by omega, by go_num, by rfl, Go.Lib.hid ⟨HN.out.symm, HB4.out⟩⟩
            case measure => simp [intOf]; omega
        · obtain rfl : i = F := by omega
          have hall : t = sumT (isT (tellChanceOutput zo)) (allW n) := by rw [HX.out.1, ← HF.out, sumT_all]
          have CL := Go.Lib.hid (fun (X : World) => l9Cut_any t i (by omega) hF1 (by omega) X)
          obtain ⟨x0, hx0⟩ : ∃ x, (cutF t i).1 = x := ⟨_, rfl⟩
          obtain ⟨x1, hx1⟩ : ∃ x, (cutF t i).2 = x := ⟨_, rfl⟩
          have HM : Hid (x0 = a ∧ x1 = b ∧ true = ok) := Go.Lib.hid (by
            have h := HH.out
            unfold meanL at h
            rw [← hall, HF.out, hx0, hx1] at h
            cases h
            exact ⟨rfl, rfl, rfl⟩)
          rw [hx0, hx1] at CL
          have HXA := Go.Lib.hid (And.intro (arr2_call H2.out.2.1 HX.out.2) (H2.out.2.2.trans (HX.out.2.mono H2.out.2.2.size) : Below W.heap.size W wr))
          clear hx0 hx1 hall hle
          go_wp2_with fail
          refine (CL.out _).mono ?_
          rintro e w5 ⟨rfl, hb5⟩
          have H5 := Go.Lib.hid (And.intro (arr2_call HXA.out.1 hb5) (HXA.out.2.trans (hb5.mono HXA.out.2.size) : Below W.heap.size W w5))
          obtain ⟨m0, m1, e0, e1⟩ := arr2_cells H5.out.1
          obtain ⟨s1, s2, hNN⟩ := arr2_store H5.out.1 (.int .i64 (x0 : Int)) (.int .i64 (x1 : Int))
          have HN := Go.Lib.hid (And.intro hNN (arr2_below (Nat.le_refl _) H5.out.2 (.int .i64 (x0 : Int)) (.int .i64 (x1 : Int))))
          clear hNN hb5 CL
          go_wp2_with fail
          (try simp only [Exit.inBlock, Exit.then])
          refine bodyPost_ret (arr2_result2 rfl rfl HN.out.1) rfl ?_
          rw [← HM.out.1, ← HM.out.2.1, ← HM.out.2.2]
          exact ⟨rfl, HN.out.2⟩

end Go.Proofs.YtnhhnffolmgceabGreat.ChChanceOutputSC

end
