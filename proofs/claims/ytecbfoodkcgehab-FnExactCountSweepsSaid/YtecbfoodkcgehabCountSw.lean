/-
  Contracts: CountSweeps of the model and of the program. Conditions: lists of at most 2^20 numbers.
-/
import Derived.Test.YtecbfoodkcgehabSweeps
import Derived.Test.YtecbfoodkcgehabUntil
namespace Go.Proofs.Ytecbfoodkcgehab.CountSwC
open Go.RowKit SeesC IntsC ExactC NumC IterC OrdMath WordMath InC OrderC OrdFacts WordC RunC AtC EndsM SweepM StackM SweepWC SweepIC SameC SweepsC UntilC

set_option maxRecDepth 100000 in
set_option maxHeartbeats 2000000 in
theorem specSweeps (zs : List Int) (r' : Int) (b : Bool) (h : sweepsAns zs = (r', b)) (hz : zs.length ≤ 1048576) (W : World) (v : Value) (n : Nat) (hv : Sees W v n (vals zs)) :
    Calls Try.prog 86 #[v] W fun e w' => e = .returned (.tuple #[.int .i64 r', .bool b]) ∧ Below W.heap.size W w' := by
  have hl : zs.length = n := by simpa using hv.1
  have hn : n ≤ 1048576 := by omega
  obtain ⟨r, hr⟩ : ∃ r, isOrd zs = r := ⟨_, rfl⟩
  have CO := Go.Lib.hid (fun W' (hs' : Sees W' v n (vals zs)) => l2Order_any W' v n zs r hs' hn hr)
  have HV := Go.Lib.hid hv
  unfold sweepsAns at h
  obtain ⟨_, ad, cap, rfl, _, _⟩ := hv
  cases r with
  | false =>
    rw [if_neg (by intro h1; unfold isOrd at hr; exact of_decide_eq_false hr h1)] at h
    cases h
    clear hr
    go_enter Try.func86, Try.ntmps86
    go_wp2_with fail
    refine (CO.out _ HV.out).mono ?_
    rintro e w1 ⟨rfl, hd⟩
    have HB1 : Hid (Below W.heap.size W w1) := Go.Lib.hid (hd.below W.heap.size)
    clear hd
    go_wp2_with fail
    go_ret2
    exact ⟨rfl, HB1.out⟩
  | true =>
    have hord : Ord zs := by unfold isOrd at hr; exact of_decide_eq_true hr
    have hn7 : n ≤ 7 := by have := hord.2.1; omega
    have hn1 : 1 ≤ n := by have := hord.1; omega
    rw [if_pos hord] at h
    cases h
    clear hr
    obtain ⟨M, hM⟩ : ∃ M, many zs = M := ⟨_, rfl⟩
    have hmi := many_is hord
    rw [hM] at hmi
    rw [hM]
    have HMI := Go.Lib.hid hmi
    have HORD := Go.Lib.hid (fun k => ord_swN hord k)
    have hM7 : M ≤ 7 := by omega
    clear hM hmi
    go_enter Try.func86, Try.ntmps86
    go_wp2_with fail
    refine (CO.out _ HV.out).mono ?_
    rintro e w1 ⟨rfl, hd⟩
    have HB1 : Hid (Below W.heap.size W w1) := Go.Lib.hid (hd.below W.heap.size)
    clear hd
    have HV1 := Go.Lib.hid (HV.out.grow HB1.out)
    obtain ⟨b, o, cap2, heq, _, _, hbl, hcell⟩ := sees_cells HV1.out (by omega)
    cases heq
    have HC := Go.Lib.hid hcell
    have CO := Go.Lib.hid (Own1C.l1Own_any zs b o n cap w1 hl (by omega) hcell)
    have CS := Go.Lib.hid (fun W' => l2Sorted_any n W' hn7)
    clear hcell
    go_wp2_with fail
    refine CO.out.mono ?_
    rintro e w2 ⟨g, c, rfl, ho, hb⟩
    have H2 := Go.Lib.hid (And.intro (own_lower ho HB1.out.size) (HB1.out.trans (hb.mono HB1.out.size)))
    clear ho hb
    go_wp2_with fail
    go_loopw [4, 5] (fun mv nv wr => ∃ (k g c : Nat), mv = .int .i64 k ∧ nv = .slice (some ⟨g, 0, none⟩) n c ∧ k ≤ M ∧ Hid (wr.ownsRow W.heap.size 3 1 (.slice (some ⟨g, 0, none⟩) n c) n (vals (swN zs k)) ∧ Below W.heap.size W wr)) (fun mv _ _ => M - (intOf mv).toNat)
    case atStart => exact ⟨0, g, c, rfl, rfl, Nat.zero_le _, H2⟩
    case round =>
      obtain ⟨k, g, c, rfl, rfl, hk, HK⟩ := hrel
      clear H2
      have HSL : Hid ((swN zs k).length = n) := Go.Lib.hid (by rw [swN_len, hl])
      obtain ⟨r, hr⟩ : ∃ r, decide (swN zs k = iota n) = r := ⟨_, rfl⟩
      have HRR := Go.Lib.hid hr
      go_wp2_with fail
      refine (CS.out _).mono ?_
      rintro e w3 ⟨g3, c3, rfl, ho, hb⟩
      have H3 := Go.Lib.hid (And.intro (kept_call HK.out.1 hb) (And.intro (HK.out.2.trans (hb.mono HK.out.2.size)) ho))
      clear ho hb
      go_wp2_with fail
      refine (l1Same_any (swN zs k) (iota n) r w3 _ n (Sees.owns H3.out.1) _ (Sees.owns H3.out.2.2) (by omega) hr).mono ?_
      rintro e w4 ⟨rfl, hd⟩
      have H4 := Go.Lib.hid (And.intro (kept_call H3.out.1 (hd.below w3.heap.size)) (H3.out.2.1.trans (hd.below _)))
      clear hd hr
      by_cases hkM : k < M
      · have hrf : r = false := by
          rw [← HRR.out, decide_eq_false_iff_not]
          have h1 := HMI.out.2.1 k hkM
          rw [hl] at h1
          exact h1
        subst hrf
        have CW := Go.Lib.hid (l4Sweep_any (swN zs k) (HORD.out k) w4 _ n (Sees.owns H4.out.1))
        go_wp2_with fail
        refine CW.out.mono ?_
        rintro e w5 ⟨u, rfl, ho, hb⟩
        have hsl : (sweepL (swN zs k)).length = n := by rw [sweep_len]; exact HSL.out
        rw [hsl] at ho
        obtain ⟨g5, c5, rfl⟩ := own_pos ho (by omega)
        have H5 : Hid (w5.ownsRow W.heap.size 3 1 (.slice (some ⟨g5, 0, none⟩) n c5) n (vals (swN zs (k + 1))) ∧ Below W.heap.size W w5) := Go.Lib.hid ⟨own_lower ho H4.out.2.size, H4.out.2.trans (hb.mono H4.out.2.size)⟩
        clear ho hb hsl
        go_wp2
        go_roundw
        case rel => exact ⟨k + 1, g5, c5, by go_num, rfl, by omega, H5⟩
        case measure => simp [intOf]; omega
      · have hkM2 : k = M := by omega
        subst hkM2
        have hrt : r = true := by
          rw [← HRR.out, decide_eq_true_iff]
          have h1 := HMI.out.1
          rw [hl] at h1
          exact h1
        subst hrt
        go_wp2_with fail
        go_ret2
        exact ⟨rfl, H4.out.2⟩

theorem sweepStep : StepTo sweepL 159 := fun ys ho W v n hv => (sweepOf_any ys ho W v n hv).mono fun e w' ⟨u, he, hown, hb⟩ => by
  have hl : ys.length = n := by simpa using hv.1
  have hs : (sweepL ys).length = n := by rw [sweep_len]; exact hl
  rw [hs] at hown
  obtain ⟨g, c, rfl⟩ := own_pos hown (by have := ho.1; omega)
  exact ⟨g, c, he, hown, hb⟩

set_option maxRecDepth 100000 in
theorem until_sweeps (zs : List Int) (hord : Ord zs) (W : World) (v : Value) (n : Nat) (hv : Sees W v n (vals zs)) :
    Calls Try.prog 136 #[v, .func (.func 159) #[] #[]] W fun e w' => e = .returned (.int .i64 ((many zs : Nat) : Int)) ∧ Below W.heap.size W w' := by
  have hl : zs.length = n := by simpa using hv.1
  have hm := many_is hord
  rw [hl] at hm
  exact until_any sweepL _ (fun _ _ => rfl) sweepStep (swN zs) n (many zs) (fun _ => rfl) (ord_swN hord) (fun k => by rw [swN_len, hl]) (by have := hord.2.1; omega) ⟨hm.1, hm.2.1⟩ W v hv

set_option maxRecDepth 100000 in
set_option maxHeartbeats 1000000 in
theorem implSweeps (zs : List Int) (r' : Int) (b : Bool) (h : sweepsAns zs = (r', b)) (hz : zs.length ≤ 1048576) (W : World) (v : Value) (n : Nat) (hv : Sees W v n (vals zs)) :
    Calls Try.prog 87 #[v] W fun e w' => e = .returned (.tuple #[.int .i64 r', .bool b]) ∧ Below W.heap.size W w' := by
  have hl : zs.length = n := by simpa using hv.1
  have hn : n ≤ 1048576 := by omega
  obtain ⟨r, hr⟩ : ∃ r, isOrd zs = r := ⟨_, rfl⟩
  have CO := Go.Lib.hid (fun W' (hs' : Sees W' v n (vals zs)) => implOrder_any W' v n zs r hs' hn hr)
  have HV := Go.Lib.hid hv
  unfold sweepsAns at h
  obtain ⟨_, ad, cap, rfl, _, _⟩ := hv
  cases r with
  | false =>
    rw [if_neg (by intro h1; unfold isOrd at hr; exact of_decide_eq_false hr h1)] at h
    cases h
    clear hr
    go_enter Try.func87, Try.ntmps87
    go_wp2_with fail
    refine (CO.out _ HV.out).mono ?_
    rintro e w1 ⟨rfl, hd⟩
    have HB1 : Hid (Below W.heap.size W w1) := Go.Lib.hid hd
    clear hd
    go_wp2_with fail
    go_ret2
    exact ⟨rfl, HB1.out⟩
  | true =>
    have hord : Ord zs := by unfold isOrd at hr; exact of_decide_eq_true hr
    rw [if_pos hord] at h
    cases h
    clear hr
    have CQ := Go.Lib.hid (fun W' (hs' : Sees W' (.slice ad n cap) n (vals zs)) => until_sweeps zs hord W' (.slice ad n cap) n hs')
    obtain ⟨M, hM⟩ : ∃ M, many zs = M := ⟨_, rfl⟩
    rw [hM] at CQ ⊢
    clear hM hl hn hz hord
    go_enter Try.func87, Try.ntmps87
    go_wp2_with fail
    refine (CO.out _ HV.out).mono ?_
    rintro e w1 ⟨rfl, hd⟩
    have HB1 : Hid (Below W.heap.size W w1) := Go.Lib.hid hd
    clear hd
    go_wp2_with fail
    refine (CQ.out _ (HV.out.grow HB1.out)).mono ?_
    rintro e w2 ⟨rfl, hb2⟩
    have H2 := Go.Lib.hid (HB1.out.trans (hb2.mono HB1.out.size))
    clear hb2
    go_wp2_with fail
    go_ret2
    exact ⟨rfl, H2.out⟩

end Go.Proofs.Ytecbfoodkcgehab.CountSwC
