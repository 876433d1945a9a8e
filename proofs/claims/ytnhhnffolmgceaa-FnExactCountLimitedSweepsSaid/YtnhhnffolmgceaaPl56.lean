/-
  Contracts: CountLimitedSweeps of the model and of the program. Conditions: lists of at most 2^20 numbers.
-/
import Derived.Test.YtnhhnffolmgceaaPl47
import Derived.Test.YtnhhnffolmgceaaPl41

namespace Go.Proofs.Ytnhhnffolmgceaa.LimZC
open Go.RowKit SeesC WordsC IntsC ExactC NumC IterC OrdMath WordMath OrdFacts InC OrderC AtC WordC RunC SignsC ToC WordFacts Sort4C EndsM SweepM StackM LimW LimM LimT LimWSC LimWIC LimIC LimXC SameC SweepsC UntilC

set_option maxRecDepth 100000 in
theorem stepL_any (zs : List Int) (K db : Nat) (hK1 : 1 ≤ K) (hK7 : K ≤ 7) (hord : Ord zs) (W : World) (hdb : W.cell? ⟨db, 0, none⟩ = some (.int .i64 (K : Int))) (v : Value) (n : Nat) (hv : Sees W v n (vals zs)) :
    Calls Try.prog 93 #[v, .pointer (some ⟨db, 0, none⟩)] W fun e w' => ∃ g c, e = .returned (.slice (some ⟨g, 0, none⟩) n c) ∧ w'.ownsRow W.heap.size 3 1 (.slice (some ⟨g, 0, none⟩) n c) n (vals (lsL K zs)) ∧ Below W.heap.size W w' := by
  have hl : zs.length = n := by simpa using hv.1
  have hn1 : 1 ≤ n := by have := hord.1; omega
  have CW := Go.Lib.hid (limitedSweepOf_any zs K hK1 hK7 hord W v n hv)
  have HL : Hid ((lsL K zs).length = n) := Go.Lib.hid (by rw [ls_len, hl])
  obtain ⟨_, ad, cap, rfl, _, _⟩ := hv
  clear hl
  go_enter Try.func93, Try.ntmps93
  go_wp2_with fail
  refine CW.out.mono ?_
  rintro e w1 ⟨u, rfl, ho, hb⟩
  rw [HL.out] at ho
  obtain ⟨g, c, rfl⟩ := own_pos ho (by omega)
  have H1 := Go.Lib.hid (And.intro ho hb)
  clear ho hb
  go_wp2_with fail
  go_ret
  exact ⟨g, c, rfl, H1.out.1, H1.out.2⟩

set_option maxRecDepth 100000 in
set_option maxHeartbeats 1000000 in
theorem untilL_any (K db : Nat) (hK1 : 1 ≤ K) (hK7 : K ≤ 7) (N : Nat → List Int) (n M : Nat) (hstep : ∀ k, N (k + 1) = lsL K (N k)) (hordN : ∀ k, Ord (N k)) (hlenN : ∀ k, (N k).length = n)
    (hM7 : M ≤ 1000) (hM : N M = iota n ∧ ∀ j, j < M → N j ≠ iota n) (W : World) (hdb : W.cell? ⟨db, 0, none⟩ = some (.int .i64 (K : Int))) (v : Value) (hv : Sees W v n (vals (N 0))) :
    Calls Try.prog 94 #[v, .func (.func 93) #[] #[.pointer (some ⟨db, 0, none⟩)]] W fun e w' => e = .returned (.int .i64 (M : Int)) ∧ Below W.heap.size W w' := by
  have hn7 : n ≤ 7 := by have := (hordN 0).2.1; have := hlenN 0; omega
  have hn1 : 1 ≤ n := by have := (hordN 0).1; have := hlenN 0; omega
  have HMI := Go.Lib.hid hM
  have HST := Go.Lib.hid hstep
  have HORD := Go.Lib.hid hordN
  have HLEN := Go.Lib.hid hlenN
  have HDB := Go.Lib.hid (And.intro hdb (World.block_lt_of_cell? W _ hdb))
  have HV := Go.Lib.hid hv
  obtain ⟨_, ad, cap, rfl, _, _⟩ := hv
  clear hM hstep hordN hlenN hdb
  go_enter Try.func94, Try.ntmps94
  go_wp2_with fail
  go_loopw [0, 5] (fun nv mv wr => ∃ (k c : Nat) (a : Option Addr), mv = .int .i64 k ∧ nv = .slice a n c ∧ k ≤ M ∧ Hid (Sees wr (.slice a n c) n (vals (N k)) ∧ Below W.heap.size W wr)) (fun _ mv _ => M - (intOf mv).toNat)
  case atStart => exact ⟨0, cap, ad, rfl, rfl, Nat.zero_le _, Go.Lib.hid ⟨HV.out, Below.refl _ _⟩⟩
  case round =>
    obtain ⟨k, c, a, rfl, rfl, hk, HK⟩ := hrel
    obtain ⟨r, hr⟩ : ∃ r, decide (N k = iota (N k).length) = r := ⟨_, rfl⟩
    have HRR := Go.Lib.hid hr
    go_wp2_with fail
    refine (isSorted_any (N k) (HORD.out k) r hr wr _ n HK.out.1).mono ?_
    rintro e w4 ⟨rfl, q, rfl⟩
    have H4 := Go.Lib.hid (And.intro (HK.out.1.grow (ExactC.below_drewN (q := q) (Below.refl wr.heap.size wr))) (ExactC.below_drewN (q := q) HK.out.2))
    obtain ⟨w4, hw4⟩ : ∃ w4, wr.drewN q = w4 := ⟨_, rfl⟩
    rw [hw4] at H4 ⊢
    clear hr hw4
    by_cases hkM : k < M
    · have hrf : r = false := by
        rw [← HRR.out, decide_eq_false_iff_not, HLEN.out k]
        exact HMI.out.2 k hkM
      subst hrf
      have CW := Go.Lib.hid (stepL_any (N k) K db hK1 hK7 (HORD.out k) w4 ((H4.out.2.cell (p := ⟨db, 0, none⟩) HDB.out.2).trans HDB.out.1) _ n H4.out.1)
      go_wp2_with fail
      refine CW.out.mono ?_
      rintro e w5 ⟨g5, c5, rfl, ho, hb⟩
      have H5 : Hid (Sees w5 (.slice (some ⟨g5, 0, none⟩) n c5) n (vals (N (k + 1))) ∧ Below W.heap.size W w5) := Go.Lib.hid ⟨by rw [HST.out]; exact Sees.owns ho, H4.out.2.trans (hb.mono H4.out.2.size)⟩
      clear ho hb
      go_wp2
      go_roundw
      case rel => exact ⟨k + 1, c5, some ⟨g5, 0, none⟩, by go_num, rfl, by omega, H5⟩
      case measure => simp [intOf]; omega
    · have hkM2 : k = M := by omega
      subst hkM2
      have hrt : r = true := by
        rw [← HRR.out, decide_eq_true_iff, HLEN.out k]
        exact HMI.out.1
      subst hrt
      go_wp2_with fail
      go_ret
      exact ⟨rfl, H4.out.2⟩

set_option maxRecDepth 100000 in
set_option maxHeartbeats 4000000 in
theorem specManyD (zs : List Int) (dd : Int) (r' : Int) (b : Bool) (h : lsmAns zs dd = (r', b)) (hz : zs.length ≤ 1048576) (_hw : (Lit.int .i64 dd).wf = true) (W : World) (v : Value) (n : Nat) (hv : Sees W v n (vals zs)) :
    Calls Try.prog 48 #[v, .int .i64 dd] W fun e w' => e = .returned (.tuple #[.int .i64 r', .bool b]) ∧ Below W.heap.size W w' := by
  have hl : zs.length = n := by simpa using hv.1
  have hn : n ≤ 1048576 := by omega
  obtain ⟨r, hr⟩ : ∃ r, isOrd zs = r := ⟨_, rfl⟩
  have CO := Go.Lib.hid (fun W' (hs' : Sees W' v n (vals zs)) => l2Order_any W' v n zs r hs' hn hr)
  have HV := Go.Lib.hid hv
  unfold lsmAns at h
  obtain ⟨_, ad, cap, rfl, _, _⟩ := hv
  cases r with
  | false =>
    rw [if_neg (by intro h1; unfold isOrd at hr; exact of_decide_eq_false hr h1.1)] at h
    cases h
    clear hr
    go_enter Try.func48, Try.ntmps48
    go_wp2_with fail
    refine (CO.out _ HV.out).mono ?_
    rintro e w1 ⟨rfl, hd⟩
    have HB1 : Hid (Below W.heap.size W w1) := Go.Lib.hid (hd.below W.heap.size)
    clear hd
    go_wp2_with fail
    go_ret2
    exact ⟨rfl, HB1.out⟩
  | true =>
    have hord : Ord zs := by unfold isOrd at hr; exact of_decide_eq_true hr
    have hn7 : n ≤ 7 := by have := hord.2.1; omega
    have hn1 : 1 ≤ n := by have := hord.1; omega
    clear hr
    by_cases hd17 : 1 ≤ dd ∧ dd ≤ 7
    · have CL := Go.Lib.hid (fun w2 => LimSC.l10Limit_any dd w2 true (decide_eq_true hd17))
      obtain ⟨K, rfl⟩ : ∃ K : Nat, dd = (K : Int) := ⟨dd.toNat, by omega⟩
      have hK1 : 1 ≤ K := by omega
      have hK7 : K ≤ 7 := by omega
      have HV1 := HV
      obtain ⟨b, o, cap2, heq, _, _, hbl, hcell⟩ := sees_cells HV.out (by omega)
      cases heq
      clear hbl hcell
      by_cases hgood : (K : Int) ≠ 1 ∨ zs = iota zs.length
      · rw [if_pos ⟨hord, hd17.1, hd17.2, hgood⟩, Int.toNat_natCast] at h
        cases h
        have hmi := manyD_is (d := K) hord (by rcases hgood with h1 | h1; exact .inl (by omega); exact .inr h1)
        obtain ⟨M, hM⟩ : ∃ M, manyD K zs = M := ⟨_, rfl⟩
        rw [hM] at hmi
        rw [hM]
        have HMI := Go.Lib.hid hmi
        have HK2 : Hid (∀ k, k < M → ((K : Int) == 1) = false) := Go.Lib.hid (fun k hk => by
          rw [beq_eq_false_iff_ne]
          rcases hgood with h1 | h1
          · exact h1
          · exact absurd h1 (hmi.2.1 0 (by omega)))
        have HORD := Go.Lib.hid (fun k => ord_lsN (d := K) hord k)
        have hM7 : M ≤ 7 := by omega
        clear hM hmi hgood hd17 HV1
        go_enter Try.func48, Try.ntmps48
        go_wp2_with fail
        refine (CO.out _ HV.out).mono ?_
        rintro e w1 ⟨rfl, hd⟩
        have HB1 : Hid (Below W.heap.size W w1) := Go.Lib.hid (hd.below W.heap.size)
        clear hd
        have HV1 := Go.Lib.hid (HV.out.grow HB1.out)
        go_wp2_with fail
        refine (CL.out _).mono ?_
        rintro e w2 ⟨rfl, rfl⟩
        go_wp2_with fail
        have HV1 := Go.Lib.hid (HV.out.grow HB1.out)
        obtain ⟨b2, o2, cap3, heq, _, _, hbl, hcell⟩ := sees_cells HV1.out (by omega)
        cases heq
        have COW := Go.Lib.hid (Own1C.l1Own_any zs b o n cap w1 hl (by omega) hcell)
        have CS := Go.Lib.hid (fun W' => l2Sorted_any n W' hn7)
        clear hcell
        refine COW.out.mono ?_
        rintro e w2 ⟨g, c, rfl, ho, hb⟩
        have H2 := Go.Lib.hid (And.intro (own_lower ho HB1.out.size) (HB1.out.trans (hb.mono HB1.out.size)))
        clear ho hb
        go_wp2_with fail
        go_loopw [6, 7] (fun mv nv wr => ∃ (k g c : Nat), mv = .int .i64 k ∧ nv = .slice (some ⟨g, 0, none⟩) n c ∧ k ≤ M ∧ Hid (wr.ownsRow W.heap.size 3 1 (.slice (some ⟨g, 0, none⟩) n c) n (vals (lsN K zs k)) ∧ Below W.heap.size W wr)) (fun mv _ _ => M - (intOf mv).toNat)
        case atStart => exact ⟨0, g, c, rfl, rfl, Nat.zero_le _, H2⟩
        case round =>
          obtain ⟨k, g, c, rfl, rfl, hk, HK⟩ := hrel
          clear H2
          have HSL : Hid ((lsN K zs k).length = n) := Go.Lib.hid (by rw [lsN_len, hl])
          obtain ⟨r, hr⟩ : ∃ r, decide (lsN K zs k = iota n) = r := ⟨_, rfl⟩
          have HRR := Go.Lib.hid hr
          go_wp2_with fail
          refine (CS.out _).mono ?_
          rintro e w3 ⟨g3, c3, rfl, ho, hb⟩
          have H3 := Go.Lib.hid (And.intro (kept_call HK.out.1 hb) (And.intro (HK.out.2.trans (hb.mono HK.out.2.size)) ho))
          clear ho hb
          go_wp2_with fail
          refine (l1Same_any (lsN K zs k) (iota n) r w3 _ n (Sees.owns H3.out.1) _ (Sees.owns H3.out.2.2) (by omega) hr).mono ?_
          rintro e w4 ⟨rfl, hd⟩
          have H4 := Go.Lib.hid (And.intro (kept_call H3.out.1 (hd.below w3.heap.size)) (H3.out.2.1.trans (hd.below _)))
          clear hd hr
          by_cases hkM : k < M
          · have hrf : r = false := by
              rw [← HRR.out, decide_eq_false_iff_not]
              have h1 := HMI.out.2.1 k hkM
              rw [hl] at h1
              exact h1
            subst hrf
            have hk2 := HK2.out k hkM
            have CW := Go.Lib.hid (l10Sweep_any (lsN K zs k) K hK1 hK7 (HORD.out k) w4 _ n (Sees.owns H4.out.1))
            go_wp2_with fail
            refine CW.out.mono ?_
            rintro e w5 ⟨u, rfl, ho, hb⟩
            have hsl : (lsL K (lsN K zs k)).length = n := by rw [ls_len]; exact HSL.out
            rw [hsl] at ho
            obtain ⟨g5, c5, rfl⟩ := own_pos ho (by omega)
            have H5 : Hid (w5.ownsRow W.heap.size 3 1 (.slice (some ⟨g5, 0, none⟩) n c5) n (vals (lsN K zs (k + 1))) ∧ Below W.heap.size W w5) := Go.Lib.hid ⟨own_lower ho H4.out.2.size, H4.out.2.trans (hb.mono H4.out.2.size)⟩
            clear ho hb hsl
            go_wp2
            go_roundw
            case rel => exact ⟨k + 1, g5, c5, by go_num, rfl, by omega, H5⟩
            case measure => simp [intOf]; omega
          · have hkM2 : k = M := by omega
            subst hkM2
            have hrt : r = true := by
              rw [← HRR.out, decide_eq_true_iff]
              have h1 := HMI.out.1
              rw [hl] at h1
              exact h1
            subst hrt
            go_wp2_with fail
            go_ret2
            exact ⟨rfl, H4.out.2⟩
      · rw [if_neg (fun h1 => hgood h1.2.2.2)] at h
        cases h
        have hk1 : ((K : Int) == 1) = true := by rw [beq_iff_eq]; rcases Classical.em ((K : Int) = 1) with h1 | h1; exact h1; exact absurd (.inl h1) hgood
        have HNS : Hid (¬ zs = iota n) := Go.Lib.hid (fun h1 => hgood (.inr (by rw [hl]; exact h1)))
        clear hgood hd17 HV1
        go_enter Try.func48, Try.ntmps48
        go_wp2_with fail
        refine (CO.out _ HV.out).mono ?_
        rintro e w1 ⟨rfl, hd⟩
        have HB1 : Hid (Below W.heap.size W w1) := Go.Lib.hid (hd.below W.heap.size)
        clear hd
        have HV1 := Go.Lib.hid (HV.out.grow HB1.out)
        go_wp2_with fail
        refine (CL.out _).mono ?_
        rintro e w2 ⟨rfl, rfl⟩
        go_wp2_with fail
        have HV1 := Go.Lib.hid (HV.out.grow HB1.out)
        obtain ⟨b2, o2, cap3, heq, _, _, hbl, hcell⟩ := sees_cells HV1.out (by omega)
        cases heq
        have COW := Go.Lib.hid (Own1C.l1Own_any zs b o n cap w1 hl (by omega) hcell)
        have CS := Go.Lib.hid (fun W' => l2Sorted_any n W' hn7)
        clear hcell
        refine COW.out.mono ?_
        rintro e w2 ⟨g, c, rfl, ho, hb⟩
        have H2 := Go.Lib.hid (And.intro (own_lower ho HB1.out.size) (HB1.out.trans (hb.mono HB1.out.size)))
        clear ho hb
        go_wp2_with fail
        go_loopw [6, 7] (fun mv nv wr => ∃ (g c : Nat), mv = .int .i64 0 ∧ nv = .slice (some ⟨g, 0, none⟩) n c ∧ Hid (wr.ownsRow W.heap.size 3 1 (.slice (some ⟨g, 0, none⟩) n c) n (vals zs) ∧ Below W.heap.size W wr)) (fun mv _ _ => 0)
        case atStart => exact ⟨g, c, rfl, rfl, H2⟩
        case round =>
          obtain ⟨g, c, rfl, rfl, HK⟩ := hrel
          clear H2
          obtain ⟨r, hr⟩ : ∃ r, decide (zs = iota n) = r := ⟨_, rfl⟩
          have hrf : r = false := by rw [← hr]; exact decide_eq_false HNS.out
          subst hrf
          have HRR := Go.Lib.hid hr
          clear hr
          go_wp2_with fail
          refine (CS.out _).mono ?_
          rintro e w3 ⟨g3, c3, rfl, ho, hb⟩
          have H3 := Go.Lib.hid (And.intro (kept_call HK.out.1 hb) (And.intro (HK.out.2.trans (hb.mono HK.out.2.size)) ho))
          clear ho hb
          go_wp2_with fail
          refine (l1Same_any zs (iota n) false w3 _ n (Sees.owns H3.out.1) _ (Sees.owns H3.out.2.2) (by omega) HRR.out).mono ?_
          rintro e w4 ⟨rfl, hd⟩
          have H4 := Go.Lib.hid (And.intro (kept_call H3.out.1 (hd.below w3.heap.size)) (H3.out.2.1.trans (hd.below _)))
          clear hd
          go_wp2_with fail
          go_ret2
          exact ⟨rfl, H4.out.2⟩
    · have CL := Go.Lib.hid (fun w2 => LimSC.l10Limit_any dd w2 false (decide_eq_false hd17))
      rw [if_neg (fun h1 => hd17 ⟨h1.2.1, h1.2.2.1⟩)] at h
      cases h
      clear hd17
      go_enter Try.func48, Try.ntmps48
      go_wp2_with fail
      refine (CO.out _ HV.out).mono ?_
      rintro e w1 ⟨rfl, hd⟩
      have HB1 : Hid (Below W.heap.size W w1) := Go.Lib.hid (hd.below W.heap.size)
      clear hd
      go_wp2_with fail
      refine (CL.out _).mono ?_
      rintro e w2 ⟨rfl, rfl⟩
      go_wp2_with fail
      go_ret2
      exact ⟨rfl, HB1.out⟩

set_option maxRecDepth 100000 in
set_option maxHeartbeats 4000000 in
theorem implManyD (zs : List Int) (dd : Int) (r' : Int) (b : Bool) (h : lsmAns zs dd = (r', b)) (hz : zs.length ≤ 1048576) (_hw : (Lit.int .i64 dd).wf = true) (W : World) (v : Value) (n : Nat) (hv : Sees W v n (vals zs)) :
    Calls Try.prog 47 #[v, .int .i64 dd] W fun e w' => e = .returned (.tuple #[.int .i64 r', .bool b]) ∧ Below W.heap.size W w' := by
  have hl : zs.length = n := by simpa using hv.1
  have hn : n ≤ 1048576 := by omega
  obtain ⟨r, hr⟩ : ∃ r, isOrd zs = r := ⟨_, rfl⟩
  have CO := Go.Lib.hid (fun W' (hs' : Sees W' v n (vals zs)) => implOrder_any W' v n zs r hs' hn hr)
  have HV := Go.Lib.hid hv
  have hb0 : Below W.heap.size W (W.alloc (.cells #[.int .i64 dd] 3)) := (Below.refl _ _).alloc (Nat.le_refl _) _
  have hc0 : (W.alloc (.cells #[.int .i64 dd] 3)).cell? ⟨W.heap.size, 0, none⟩ = some (.int .i64 dd) := by simp
  have HB0 := Go.Lib.hid (And.intro hb0 (And.intro hc0 (World.block_lt_of_cell? _ _ hc0)))
  unfold lsmAns at h
  obtain ⟨_, ad, cap, rfl, _, _⟩ := hv
  clear hb0 hc0
  cases r with
  | false =>
    rw [if_neg (by intro h1; unfold isOrd at hr; exact of_decide_eq_false hr h1.1)] at h
    cases h
    clear hr
    go_enter Try.func47, Try.ntmps47
    go_wp2_with fail
    refine (CO.out _ (HV.out.grow HB0.out.1)).mono ?_
    rintro e w1 ⟨rfl, hd⟩
    have HB1 : Hid (Below W.heap.size W w1) := Go.Lib.hid (HB0.out.1.trans (hd.mono HB0.out.1.size))
    clear hd
    go_wp2_with fail
    go_ret2
    exact ⟨rfl, HB1.out⟩
  | true =>
    have hord : Ord zs := by unfold isOrd at hr; exact of_decide_eq_true hr
    have hn7 : n ≤ 7 := by have := hord.2.1; omega
    have hn1 : 1 ≤ n := by have := hord.1; omega
    clear hr
    by_cases hd17 : 1 ≤ dd ∧ dd ≤ 7
    · have CL := Go.Lib.hid (fun w2 => isLimit_any dd w2 true (decide_eq_true hd17))
      obtain ⟨K, rfl⟩ : ∃ K : Nat, dd = (K : Int) := ⟨dd.toNat, by omega⟩
      have hK1 : 1 ≤ K := by omega
      have hK7 : K ≤ 7 := by omega
      obtain ⟨r, hr⟩ : ∃ r, decide (zs = iota zs.length) = r := ⟨_, rfl⟩
      have CSD := Go.Lib.hid (fun (X : World) (hs : Sees X (.slice ad n cap) n (vals zs)) => isSorted_any zs hord r hr X _ n hs)
      by_cases hgood : (K : Int) ≠ 1 ∨ zs = iota zs.length
      · rw [if_pos ⟨hord, hd17.1, hd17.2, hgood⟩, Int.toNat_natCast] at h
        cases h
        have hmi := manyD_is (d := K) hord (by rcases hgood with h1 | h1; exact .inl (by omega); exact .inr h1)
        have CU := fun (X : World) (hx : X.cell? ⟨W.heap.size, 0, none⟩ = some (.int .i64 (K : Int))) (hs : Sees X (.slice ad n cap) n (vals zs)) => untilL_any K W.heap.size hK1 hK7 (lsN K zs) n (manyD K zs) (fun _ => rfl) (ord_lsN hord) (fun k => by rw [lsN_len, hl]) (by have := hord.2.1; omega) (by rw [hl] at hmi; exact ⟨hmi.1, hmi.2.1⟩) X hx (.slice ad n cap) hs
        obtain ⟨M, hM⟩ : ∃ M, manyD K zs = M := ⟨_, rfl⟩
        rw [hM] at CU ⊢
        have CU := Go.Lib.hid CU
        have HG := Go.Lib.hid (And.intro hgood hr)
        clear hM hmi hgood hd17 hr
        go_enter Try.func47, Try.ntmps47
        go_wp2_with fail
        refine (CO.out _ (HV.out.grow HB0.out.1)).mono ?_
        rintro e w1 ⟨rfl, hd⟩
        have hcd := (hd.cell (p := ⟨W.heap.size, 0, none⟩) HB0.out.2.2).trans HB0.out.2.1
        have HB1 : Hid (Below W.heap.size W w1 ∧ True) := Go.Lib.hid ⟨HB0.out.1.trans (hd.mono HB0.out.1.size), trivial⟩
        have HV1 := Go.Lib.hid (HV.out.grow HB1.out.1)
        clear hd
        go_wp2_with fail
        refine (CL.out _).mono ?_
        rintro e w2 ⟨rfl, rfl⟩
        by_cases hk1 : K = 1
        · have hk1i : ((K : Int) == 1) = true := by rw [beq_iff_eq]; omega
          have hrt : r = true := by rw [← HG.out.2]; exact decide_eq_true (by rcases HG.out.1 with h1 | h1; omega; exact h1)
          subst hrt
          have HK1' := Go.Lib.hid hk1
          subst hk1
          go_wp2_with fail
          refine (CSD.out _ HV1.out).mono ?_
          rintro e w4 ⟨rfl, q, rfl⟩
          have H4 := Go.Lib.hid (And.intro (HV1.out.grow (ExactC.below_drewN (q := q) (Below.refl w1.heap.size w1))) (And.intro (ExactC.below_drewN (q := q) HB1.out.1) (show (w1.drewN q).cell? ⟨W.heap.size, 0, none⟩ = _ from hcd)))
          obtain ⟨w4, hw4⟩ : ∃ w4, w1.drewN q = w4 := ⟨_, rfl⟩
          rw [hw4] at H4 ⊢
          clear hw4 hcd
          have hcd4 := H4.out.2.2
          go_wp2_with fail
          refine (CU.out _ hcd4 H4.out.1).mono ?_
          rintro e w5 ⟨rfl, hb5⟩
          have H5 := Go.Lib.hid (H4.out.2.1.trans (hb5.mono H4.out.2.1.size))
          clear hb5 hcd4
          go_wp2_with fail
          go_ret2
          exact ⟨rfl, H5.out⟩
        · have hk1i : ((K : Int) == 1) = false := by rw [beq_eq_false_iff_ne]; omega
          clear hk1
          go_wp2_with fail
          refine (CU.out _ hcd HV1.out).mono ?_
          rintro e w5 ⟨rfl, hb5⟩
          have H5 := Go.Lib.hid (HB1.out.1.trans (hb5.mono HB1.out.1.size))
          clear hb5 hcd
          go_wp2_with fail
          go_ret2
          exact ⟨rfl, H5.out⟩
      · rw [if_neg (fun h1 => hgood h1.2.2.2)] at h
        cases h
        have hk1 : K = 1 := by
          rcases Classical.em ((K : Int) = 1) with h1 | h1
          · omega
          · exact absurd (.inl h1) hgood
        have hrt : r = false := by rw [← hr]; exact decide_eq_false (fun h1 => hgood (.inr h1))
        subst hrt
        subst hk1
        clear hgood hd17 hr
        go_enter Try.func47, Try.ntmps47
        go_wp2_with fail
        refine (CO.out _ (HV.out.grow HB0.out.1)).mono ?_
        rintro e w1 ⟨rfl, hd⟩
        have hcd := (hd.cell (p := ⟨W.heap.size, 0, none⟩) HB0.out.2.2).trans HB0.out.2.1
        have HB1 : Hid (Below W.heap.size W w1 ∧ True) := Go.Lib.hid ⟨HB0.out.1.trans (hd.mono HB0.out.1.size), trivial⟩
        have HV1 := Go.Lib.hid (HV.out.grow HB1.out.1)
        clear hd
        go_wp2_with fail
        refine (CL.out _).mono ?_
        rintro e w2 ⟨rfl, rfl⟩
        go_wp2_with fail
        refine (CSD.out _ HV1.out).mono ?_
        rintro e w4 ⟨rfl, q, rfl⟩
        have H4 := Go.Lib.hid (ExactC.below_drewN (q := q) HB1.out.1)
        obtain ⟨w4, hw4⟩ : ∃ w4, w1.drewN q = w4 := ⟨_, rfl⟩
        rw [hw4] at H4 ⊢
        clear hw4 hcd
        go_wp2_with fail
        go_ret2
        exact ⟨rfl, H4.out⟩
    · have CL := Go.Lib.hid (fun w2 => isLimit_any dd w2 false (decide_eq_false hd17))
      rw [if_neg (fun h1 => hd17 ⟨h1.2.1, h1.2.2.1⟩)] at h
      cases h
      clear hd17
      go_enter Try.func47, Try.ntmps47
      go_wp2_with fail
      refine (CO.out _ (HV.out.grow HB0.out.1)).mono ?_
      rintro e w1 ⟨rfl, hd⟩
      have hcd := (hd.cell (p := ⟨W.heap.size, 0, none⟩) HB0.out.2.2).trans HB0.out.2.1
      have HB1 : Hid (Below W.heap.size W w1) := Go.Lib.hid (HB0.out.1.trans (hd.mono HB0.out.1.size))
      clear hd
      go_wp2_with fail
      refine (CL.out _).mono ?_
      rintro e w2 ⟨rfl, rfl⟩
      go_wp2_with fail
      go_ret2
      exact ⟨rfl, HB1.out⟩

end Go.Proofs.Ytnhhnffolmgceaa.LimZC
