/-
  Contracts: QueuesOf and FewestQueues of the model, FewestQueues of the program. Conditions: lists of at most 2^20 numbers.
-/
import Derived.Test.YtmnggcnipjdimaaQueS
namespace Go.Proofs.Ytmnggcnipjdimaa.QuePC
open Go.RowKit SeesC IntsC ExactC OrdMath InC OrderC ListsC ListsEC ListsFC LLC RagMarkC RagResC QueM QueIC QueSC

set_option maxRecDepth 100000 in
set_option maxHeartbeats 2000000 in
theorem specQueuesOf (zs : List Int) (xs : List (List Int)) (b : Bool) (h : queuesAns zs = (xs, b)) (hz : zs.length ≤ 1048576) (W : World) (v : Value) (n : Nat) (hv : Sees W v n (vals zs)) :
    Calls Try.prog 27 #[v] W fun e w' => RagTo W e w' xs b := by
  have hl : zs.length = n := by simpa using hv.1
  have hn : n ≤ 1048576 := by omega
  obtain ⟨r, hr⟩ : ∃ r, isOrd zs = r := ⟨_, rfl⟩
  have CO := Go.Lib.hid (fun W' (hs' : Sees W' v n (vals zs)) => l2Order_any W' v n zs r hs' hn hr)
  have HV := Go.Lib.hid hv
  unfold queuesAns at h
  obtain ⟨_, ad, cap, rfl, _, _⟩ := hv
  cases r with
  | false =>
    rw [if_neg (by intro h1; unfold isOrd at hr; exact of_decide_eq_false hr h1)] at h
    cases h
    clear hr
    go_enter Try.func27, Try.ntmps27
    go_wp2_with fail
    refine (CO.out _ HV.out).mono ?_
    rintro e w1 ⟨rfl, hd⟩
    have HB1 : Hid (Below W.heap.size W w1) := Go.Lib.hid (hd.below _)
    clear hd
    go_wp2_with fail
    go_ret2
    exact ragTo_below HB1.out (ragTo_none _ _)
  | true =>
    have hord : Ord zs := by unfold isOrd at hr; exact of_decide_eq_true hr
    rw [if_pos hord] at h
    cases h
    clear hr
    have CQ := Go.Lib.hid (fun W' (hs' : Sees W' (.slice ad n cap) n (vals zs)) => l5Queues_any zs hord W' (.slice ad n cap) n hs')
    rw [hl]
    clear hl hn hz
    obtain ⟨L, hL⟩ : ∃ L, qTo zs n = L := ⟨_, rfl⟩
    rw [hL] at CQ ⊢
    clear hL
    go_enter Try.func27, Try.ntmps27
    go_wp2_with fail
    refine (CO.out _ HV.out).mono ?_
    rintro e w1 ⟨rfl, hd⟩
    have HB1 : Hid (Below W.heap.size W w1) := Go.Lib.hid (hd.below _)
    clear hd
    go_wp2_with fail
    refine (CQ.out _ (HV.out.grow HB1.out)).mono ?_
    rintro e w2 ⟨a2, c2, rfl, hr2, hb2⟩
    have H2 := Go.Lib.hid (And.intro (Rag.lower hr2 HB1.out.size) (HB1.out.trans (hb2.mono HB1.out.size)))
    clear hr2 hb2
    go_wp2_with fail
    go_ret2
    exact ⟨_, rfl, H2.out.1, H2.out.2⟩

set_option maxRecDepth 100000 in
set_option maxHeartbeats 2000000 in
theorem specFewestQueues (zs : List Int) (xs : Int) (b : Bool) (h : fewAns zs = (xs, b)) (hz : zs.length ≤ 1048576) (W : World) (v : Value) (n : Nat) (hv : Sees W v n (vals zs)) :
    Calls Try.prog 25 #[v] W fun e w' => e = .returned (.tuple #[.int .i64 xs, .bool b]) ∧ Below W.heap.size W w' := by
  have hl : zs.length = n := by simpa using hv.1
  have hn : n ≤ 1048576 := by omega
  obtain ⟨r, hr⟩ : ∃ r, isOrd zs = r := ⟨_, rfl⟩
  have CO := Go.Lib.hid (fun W' (hs' : Sees W' v n (vals zs)) => l2Order_any W' v n zs r hs' hn hr)
  have HV := Go.Lib.hid hv
  unfold fewAns at h
  obtain ⟨_, ad, cap, rfl, _, _⟩ := hv
  cases r with
  | false =>
    rw [if_neg (by intro h1; unfold isOrd at hr; exact of_decide_eq_false hr h1)] at h
    cases h
    clear hr
    go_enter Try.func25, Try.ntmps25
    go_wp2_with fail
    refine (CO.out _ HV.out).mono ?_
    rintro e w1 ⟨rfl, hd⟩
    have HB1 : Hid (Below W.heap.size W w1) := Go.Lib.hid (hd.below _)
    clear hd
    go_wp2_with fail
    go_ret2
    exact ⟨rfl, HB1.out⟩
  | true =>
    have hord : Ord zs := by unfold isOrd at hr; exact of_decide_eq_true hr
    rw [if_pos hord] at h
    cases h
    clear hr
    have CQ := Go.Lib.hid (fun W' (hs' : Sees W' (.slice ad n cap) n (vals zs)) => l5Queues_any zs hord W' (.slice ad n cap) n hs')
    rw [hl]
    clear hl hn hz
    obtain ⟨L, hL⟩ : ∃ L, qTo zs n = L := ⟨_, rfl⟩
    rw [hL] at CQ ⊢
    clear hL
    go_enter Try.func25, Try.ntmps25
    go_wp2_with fail
    refine (CO.out _ HV.out).mono ?_
    rintro e w1 ⟨rfl, hd⟩
    have HB1 : Hid (Below W.heap.size W w1) := Go.Lib.hid (hd.below _)
    clear hd
    go_wp2_with fail
    refine (CQ.out _ (HV.out.grow HB1.out)).mono ?_
    rintro e w2 ⟨a2, c2, rfl, hr2, hb2⟩
    have H2 := Go.Lib.hid (And.intro (Rag.lower hr2 HB1.out.size) (HB1.out.trans (hb2.mono HB1.out.size)))
    clear hr2 hb2
    go_wp2_with fail
    go_ret2
    exact ⟨rfl, H2.out.2⟩

theorem few_of (zs : List Int) (x : Int) (b : Bool) (h : fewAns zs = (x, b)) : ∃ L, queuesAns zs = (L, b) ∧ x = (L.length : Nat) := by
  unfold fewAns at h
  unfold queuesAns
  split at h
  · rename_i ho
    cases h
    exact ⟨_, by rw [if_pos ho], rfl⟩
  · rename_i ho
    cases h
    exact ⟨_, by rw [if_neg ho], rfl⟩

set_option maxRecDepth 100000 in
set_option maxHeartbeats 2000000 in
theorem implFewestQueues (zs : List Int) (x : Int) (b : Bool) (h : fewAns zs = (x, b)) (hz : zs.length ≤ 1048576) (W : World) (v : Value) (n : Nat) (hv : Sees W v n (vals zs)) :
    Calls Try.prog 24 #[v] W fun e w' => e = .returned (.tuple #[.int .i64 x, .bool b]) ∧ Below W.heap.size W w' := by
  obtain ⟨L, h1, rfl⟩ := few_of zs x b h
  have C1 := Go.Lib.hid (implQueues zs L b h1 hz W v n hv)
  obtain ⟨_, ad, cap, rfl, _, _⟩ := hv
  clear h h1 hz
  go_enter Try.func24, Try.ntmps24
  go_wp2_with fail
  refine (C1.out).mono ?_
  rintro e w1 ⟨v1, rfl, hr, hb⟩
  obtain ⟨a, c, rfl⟩ := (Rag.sees hr).value
  have H1 := Go.Lib.hid hb
  clear hr hb
  go_wp2_with fail
  go_ret2
  exact ⟨rfl, H1.out⟩

end Go.Proofs.Ytmnggcnipjdimaa.QuePC
