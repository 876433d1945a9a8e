/-
  Contracts: RunWord of the model and of the program. Conditions: lists and texts of at most 2^20 elements.
-/
import Derived.Test.YtomheoaophomlabSigns
namespace Go.Proofs.Ytomheoaophomlab.RunWordC
open Go.RowKit SeesC IntsC ExactC NumC IterC OrdMath WordMath InC OrderC WordC RunC SignsC

set_option maxHeartbeats 1000000 in
theorem specRun (zs : List Int) (s : ByteArray) (xs : List Int) (b : Bool) (h : runAns zs s = (xs, b)) (hz : zs.length ≤ 1048576) (hs : s.size ≤ 1048576) (W : World) (v : Value) (n : Nat) (hv : Sees W v n (vals zs)) :
    Calls Try.prog 16 #[v, .string s] W fun e w' => ListTo W e w' xs b := by
  have hl : zs.length = n := by simpa using hv.1
  have hn : n ≤ 1048576 := by omega
  have HV := Go.Lib.hid hv
  obtain ⟨r, hr⟩ : ∃ r, isOrd zs = r := ⟨_, rfl⟩
  have CO := Go.Lib.hid (fun W' (hs' : Sees W' v n (vals zs)) => l2Order_any W' v n zs r hs' hn hr)
  unfold runAns at h
  obtain ⟨_, ad, cap, rfl, _, _⟩ := hv
  cases r with
  | false =>
    rw [if_neg (by rintro ⟨h1, _⟩; unfold isOrd at hr; exact of_decide_eq_false hr h1)] at h
    cases h
    clear hr
    go_enter Try.func16, Try.ntmps16
    go_wp2_with fail
    refine (CO.out _ HV.out).mono ?_
    rintro e w1 ⟨rfl, hd⟩
    have HB := Go.Lib.hid (hd.below W.heap.size)
    clear hd
    go_wp2_with fail
    go_ret2
    exact listTo_below HB.out (listTo_none _ _)
  | true =>
    have hord : Ord zs := by unfold isOrd at hr; exact of_decide_eq_true hr
    have hn7 := hord.2.1
    have hn1 := hord.1
    obtain ⟨q, hq⟩ : ∃ q, decide (s.size = 2 * n ∧ heldTo s s.size = some 0) = q := ⟨_, rfl⟩
    have CW := Go.Lib.hid (fun W' => l2Word_any s n W' q hs hn hq)
    clear hr
    cases q with
    | false =>
      rw [if_neg (by rintro ⟨_, h1, h2⟩; exact of_decide_eq_false hq ⟨by omega, h1.2.2⟩)] at h
      cases h
      clear hq
      go_enter Try.func16, Try.ntmps16
      go_wp2_with fail
      refine (CO.out _ HV.out).mono ?_
      rintro e w1 ⟨rfl, hd⟩
      have HB := Go.Lib.hid (hd.below W.heap.size)
      clear hd
      go_wp2_with fail
      refine (CW.out _).mono ?_
      rintro e w2 ⟨rfl, rfl⟩
      go_wp2_with fail
      go_ret2
      exact listTo_below HB.out (listTo_none _ _)
    | true =>
      have hq2 := of_decide_eq_true hq
      have hw : Word s := ⟨by omega, by omega, hq2.2⟩
      rw [if_pos ⟨hord, hw, by omega⟩] at h
      cases h
      have CR := Go.Lib.hid (fun W' (hs' : Sees W' (.slice ad n cap) n (vals zs)) => l2Run_any zs s hord hw (by omega) W' _ n hs')
      clear hq hq2 hw
      go_enter Try.func16, Try.ntmps16
      go_wp2_with fail
      refine (CO.out _ HV.out).mono ?_
      rintro e w1 ⟨rfl, hd⟩
      have HB := Go.Lib.hid (hd.below W.heap.size)
      clear hd
      go_wp2_with fail
      refine (CW.out _).mono ?_
      rintro e w2 ⟨rfl, rfl⟩
      go_wp2_with fail
      refine (CR.out _ (HV.out.grow HB.out)).mono ?_
      rintro e w3 ⟨u, rfl, ho, hb⟩
      have H := Go.Lib.hid (And.intro ho hb)
      clear ho hb
      go_wp2_with fail
      go_ret2
      exact listTo_below HB.out ⟨_, rfl, H.out.1, H.out.2⟩

set_option maxHeartbeats 1000000 in
theorem implRun (zs : List Int) (s : ByteArray) (xs : List Int) (b : Bool) (h : runAns zs s = (xs, b)) (hz : zs.length ≤ 1048576) (hs : s.size ≤ 1048576) (W : World) (v : Value) (n : Nat) (hv : Sees W v n (vals zs)) :
    Calls Try.prog 15 #[v, .string s] W fun e w' => ListTo W e w' xs b := by
  have hl : zs.length = n := by simpa using hv.1
  have hn : n ≤ 1048576 := by omega
  have HV := Go.Lib.hid hv
  obtain ⟨r, hr⟩ : ∃ r, isOrd zs = r := ⟨_, rfl⟩
  have CO := Go.Lib.hid (fun W' (hs' : Sees W' v n (vals zs)) => implOrder_any W' v n zs r hs' hn hr)
  unfold runAns at h
  obtain ⟨_, ad, cap, rfl, _, _⟩ := hv
  cases r with
  | false =>
    rw [if_neg (by rintro ⟨h1, _⟩; unfold isOrd at hr; exact of_decide_eq_false hr h1)] at h
    cases h
    clear hr
    go_enter Try.func15, Try.ntmps15
    go_wp2_with fail
    refine (CO.out _ HV.out).mono ?_
    rintro e w1 ⟨rfl, hd⟩
    have HB := Go.Lib.hid hd
    clear hd
    go_wp2_with fail
    go_ret2
    exact listTo_below HB.out (listTo_none _ _)
  | true =>
    have hord : Ord zs := by unfold isOrd at hr; exact of_decide_eq_true hr
    have hn7 := hord.2.1
    have hn1 := hord.1
    obtain ⟨q, hq⟩ : ∃ q, isWord s = q := ⟨_, rfl⟩
    have CW := Go.Lib.hid (fun W' => implIsWord s q hq hs W')
    clear hr
    cases q with
    | false =>
      rw [if_neg (by rintro ⟨_, h1, _⟩; unfold isWord at hq; exact of_decide_eq_false hq h1)] at h
      cases h
      clear hq
      go_enter Try.func15, Try.ntmps15
      go_wp2_with fail
      refine (CO.out _ HV.out).mono ?_
      rintro e w1 ⟨rfl, hd⟩
      have HB := Go.Lib.hid hd
      clear hd
      go_wp2_with fail
      refine (CW.out _).mono ?_
      rintro e w2 ⟨rfl, hd⟩
      have HB2 := Go.Lib.hid (HB.out.trans (hd.mono HB.out.size))
      clear hd
      go_wp2_with fail
      go_ret2
      exact listTo_below HB2.out (listTo_none _ _)
    | true =>
      have hw : Word s := by unfold isWord at hq; exact of_decide_eq_true hq
      have hs14 := hw.2.1
      by_cases hsz : s.size = 2 * n
      · rw [if_pos ⟨hord, hw, by omega⟩] at h
        cases h
        have CR := Go.Lib.hid (fun W' (hs' : Sees W' (.slice ad n cap) n (vals zs)) => runSigns_any zs s hord hw (by omega) W' _ n hs')
        have hne : ((s.size : Int) == 2 * (n : Int)) = true := by rw [beq_iff_eq]; omega
        have hne2 : (s.size : Int) = 2 * (n : Int) := by omega
        clear hq hw hsz
        go_enter Try.func15, Try.ntmps15
        go_wp2_with fail
        refine (CO.out _ HV.out).mono ?_
        rintro e w1 ⟨rfl, hd⟩
        have HB := Go.Lib.hid hd
        clear hd
        go_wp2_with fail
        refine (CW.out _).mono ?_
        rintro e w2 ⟨rfl, hd⟩
        have HB2 := Go.Lib.hid (HB.out.trans (hd.mono HB.out.size))
        clear hd
        go_wp2_with fail
        refine (CR.out _ (HV.out.grow HB2.out)).mono ?_
        rintro e w3 ⟨u, rfl, ho, hb⟩
        have H := Go.Lib.hid (And.intro ho hb)
        clear ho hb
        go_wp2_with fail
        go_ret2
        exact listTo_below HB2.out ⟨_, rfl, H.out.1, H.out.2⟩
      · rw [if_neg (by rintro ⟨_, _, h1⟩; omega)] at h
        cases h
        have hne : ((s.size : Int) == 2 * (n : Int)) = false := by rw [beq_eq_false_iff_ne]; omega
        have hne2 : ¬ (s.size : Int) = 2 * (n : Int) := by omega
        clear hq hw hsz
        go_enter Try.func15, Try.ntmps15
        go_wp2_with fail
        refine (CO.out _ HV.out).mono ?_
        rintro e w1 ⟨rfl, hd⟩
        have HB := Go.Lib.hid hd
        clear hd
        go_wp2_with fail
        refine (CW.out _).mono ?_
        rintro e w2 ⟨rfl, hd⟩
        have HB2 := Go.Lib.hid (HB.out.trans (hd.mono HB.out.size))
        clear hd
        go_wp2_with fail
        go_ret2
        exact listTo_below HB2.out (listTo_none _ _)

end Go.Proofs.Ytomheoaophomlab.RunWordC
