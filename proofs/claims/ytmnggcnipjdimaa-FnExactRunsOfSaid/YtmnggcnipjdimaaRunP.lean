/-
  Contracts: RunsOf of the model and of the program. Conditions: lists of at most 2^20 numbers.
-/
import Derived.Test.YtmnggcnipjdimaaRunS
namespace Go.Proofs.Ytmnggcnipjdimaa.RunPC
open Go.RowKit SeesC IntsC ExactC OrdMath InC OrderC ListsC ListsEC ListsFC LLC RagMarkC RagResC QueM RunIC RunSC

set_option maxRecDepth 100000 in
set_option maxHeartbeats 2000000 in
theorem specRunsOf (zs : List Int) (xs : List (List Int)) (b : Bool) (h : runsAns zs = (xs, b)) (hz : zs.length ≤ 1048576) (W : World) (v : Value) (n : Nat) (hv : Sees W v n (vals zs)) :
    Calls Try.prog 44 #[v] W fun e w' => RagTo W e w' xs b := by
  have hl : zs.length = n := by simpa using hv.1
  have hn : n ≤ 1048576 := by omega
  obtain ⟨r, hr⟩ : ∃ r, isOrd zs = r := ⟨_, rfl⟩
  have CO := Go.Lib.hid (fun W' (hs' : Sees W' v n (vals zs)) => l2Order_any W' v n zs r hs' hn hr)
  have HV := Go.Lib.hid hv
  unfold runsAns at h
  obtain ⟨_, ad, cap, rfl, _, _⟩ := hv
  cases r with
  | false =>
    rw [if_neg (by intro h1; unfold isOrd at hr; exact of_decide_eq_false hr h1)] at h
    cases h
    clear hr
    go_enter Try.func44, Try.ntmps44
    go_wp2_with fail
    refine (CO.out _ HV.out).mono ?_
    rintro e w1 ⟨rfl, hd⟩
    have HB1 : Hid (Below W.heap.size W w1) := Go.Lib.hid (hd.below _)
    clear hd
    go_wp2_with fail
    go_ret2
    exact ragTo_below HB1.out (ragTo_none _ _)
  | true =>
    have hord : Ord zs := by unfold isOrd at hr; exact of_decide_eq_true hr
    rw [if_pos hord] at h
    cases h
    clear hr
    have CQ := Go.Lib.hid (fun W' (hs' : Sees W' (.slice ad n cap) n (vals zs)) => l5Runs_any zs hord W' (.slice ad n cap) n hs')
    rw [hl]
    clear hl hn hz
    obtain ⟨L, hL⟩ : ∃ L, rTo zs n = L := ⟨_, rfl⟩
    rw [hL] at CQ ⊢
    clear hL
    go_enter Try.func44, Try.ntmps44
    go_wp2_with fail
    refine (CO.out _ HV.out).mono ?_
    rintro e w1 ⟨rfl, hd⟩
    have HB1 : Hid (Below W.heap.size W w1) := Go.Lib.hid (hd.below _)
    clear hd
    go_wp2_with fail
    refine (CQ.out _ (HV.out.grow HB1.out)).mono ?_
    rintro e w2 ⟨a2, c2, rfl, hr2, hb2⟩
    have H2 := Go.Lib.hid (And.intro (Rag.lower hr2 HB1.out.size) (HB1.out.trans (hb2.mono HB1.out.size)))
    clear hr2 hb2
    go_wp2_with fail
    go_ret2
    exact ⟨_, rfl, H2.out.1, H2.out.2⟩

set_option maxRecDepth 100000 in
set_option maxHeartbeats 2000000 in
theorem implRunsOf (zs : List Int) (xs : List (List Int)) (b : Bool) (h : runsAns zs = (xs, b)) (hz : zs.length ≤ 1048576) (W : World) (v : Value) (n : Nat) (hv : Sees W v n (vals zs)) :
    Calls Try.prog 43 #[v] W fun e w' => RagTo W e w' xs b := by
  have hl : zs.length = n := by simpa using hv.1
  have hn : n ≤ 1048576 := by omega
  obtain ⟨r, hr⟩ : ∃ r, isOrd zs = r := ⟨_, rfl⟩
  have CO := Go.Lib.hid (fun W' (hs' : Sees W' v n (vals zs)) => implOrder_any W' v n zs r hs' hn hr)
  have HV := Go.Lib.hid hv
  unfold runsAns at h
  obtain ⟨_, ad, cap, rfl, _, _⟩ := hv
  cases r with
  | false =>
    rw [if_neg (by intro h1; unfold isOrd at hr; exact of_decide_eq_false hr h1)] at h
    cases h
    clear hr
    go_enter Try.func43, Try.ntmps43
    go_wp2_with fail
    refine (CO.out _ HV.out).mono ?_
    rintro e w1 ⟨rfl, hd⟩
    have HB1 : Hid (Below W.heap.size W w1) := Go.Lib.hid hd
    clear hd
    go_wp2_with fail
    go_ret2
    exact ragTo_below HB1.out (ragTo_none _ _)
  | true =>
    have hord : Ord zs := by unfold isOrd at hr; exact of_decide_eq_true hr
    rw [if_pos hord] at h
    cases h
    clear hr
    have CQ := Go.Lib.hid (fun W' (hs' : Sees W' (.slice ad n cap) n (vals zs)) => runsOf_any zs hord W' (.slice ad n cap) n hs')
    rw [hl]
    clear hl hn hz
    obtain ⟨L, hL⟩ : ∃ L, rTo zs n = L := ⟨_, rfl⟩
    rw [hL] at CQ ⊢
    clear hL
    go_enter Try.func43, Try.ntmps43
    go_wp2_with fail
    refine (CO.out _ HV.out).mono ?_
    rintro e w1 ⟨rfl, hd⟩
    have HB1 : Hid (Below W.heap.size W w1) := Go.Lib.hid hd
    clear hd
    go_wp2_with fail
    refine (CQ.out _ (HV.out.grow HB1.out)).mono ?_
    rintro e w2 ⟨a2, c2, rfl, hr2, hb2⟩
    have H2 := Go.Lib.hid (And.intro (Rag.lower hr2 HB1.out.size) (HB1.out.trans (hb2.mono HB1.out.size)))
    clear hr2 hb2
    go_wp2_with fail
    go_ret2
    exact ⟨_, rfl, H2.out.1, H2.out.2⟩

end Go.Proofs.Ytmnggcnipjdimaa.RunPC
