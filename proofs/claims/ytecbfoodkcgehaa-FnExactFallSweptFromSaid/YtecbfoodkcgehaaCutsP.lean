/-
  Contracts: AreCuts, RunCuts, FallsOf, FallSweep of the model and of the program. Conditions: lists of at most 2^20 numbers.
-/
import Derived.Test.YtecbfoodkcgehaaCutsI
namespace Go.Proofs.Ytecbfoodkcgehaa.CutsPC
open Go.RowKit SeesC IntsC ExactC OrdMath InC OrderC CutsM CutsSC CutsIC

set_option maxRecDepth 100000 in
theorem specAreCuts (n : Int) (cs : List Int) (b : Bool) (h : cutsB n cs = b) (_hw : (Lit.int .i64 n).wf = true) (hz : cs.length ≤ 1048576) (W : World) (v : Value) (m : Nat) (hv : Sees W v m (vals cs)) :
    Calls Try.prog 26 #[.int .i64 n, v] W fun e w' => e = .returned (.bool b) ∧ Below W.heap.size W w' := by
  have hm : m ≤ 1048576 := by have := hv.1; simp at this; omega
  have C := Go.Lib.hid (l6Cuts_any n cs b h W v m hv hm)
  obtain ⟨_, ad, cap, rfl, _, _⟩ := hv
  clear h
  go_enter Try.func26, Try.ntmps26
  go_wp2_with fail
  refine (C.out).mono ?_
  rintro e wq ⟨rfl, hwq⟩
  obtain rfl : W = wq := hwq
  go_wp2_with fail
  go_ret
  exact ⟨rfl, Below.refl _ _⟩

set_option maxRecDepth 100000 in
theorem areCuts_same (n : Int) (cs : List Int) (b : Bool) (h : cutsB n cs = b) (W : World) (v : Value) (m : Nat) (hv : Sees W v m (vals cs)) (hm : m ≤ 1048576) :
    Calls Try.prog 25 #[.int .i64 n, v] W fun e w' => e = .returned (.bool b) ∧ W = w' := by
  obtain ⟨s, hs⟩ : ∃ s, szF 0 cs = s := ⟨_, rfl⟩
  have C := Go.Lib.hid (sizeOfCuts_any cs s hs W v m hv hm)
  have h2 := szF_cuts n cs
  rw [hs, h] at h2
  have hbd := szF_bd (cs := cs)
  rw [hs] at hbd
  obtain ⟨hb0, hb7⟩ := hbd
  obtain ⟨_, ad, cap, rfl, _, _⟩ := hv
  have HB := Go.Lib.hid h2
  clear h h2 hs
  by_cases h1 : 0 < n
  · have hd1 : decide (0 < n) = true := decide_eq_true h1
    by_cases hsn : s = n
    · have e1 : (s == n) = true := by rw [beq_iff_eq]; exact hsn
      have hrt : b = true := by rw [← HB.out, decide_eq_true h1, decide_eq_true hsn]; rfl
      subst hrt
      clear hsn
      go_enter Try.func25, Try.ntmps25
      go_wp2_with fail
      refine (C.out).mono ?_
      rintro e wq ⟨rfl, hwq⟩
      obtain rfl : W = wq := hwq
      go_wp2_with fail
      go_ret
      exact ⟨rfl, rfl⟩
    · have e1 : (s == n) = false := by rw [beq_eq_false_iff_ne]; exact hsn
      have hrt : b = false := by rw [← HB.out, decide_eq_false hsn, Bool.and_false]
      subst hrt
      clear hsn
      go_enter Try.func25, Try.ntmps25
      go_wp2_with fail
      refine (C.out).mono ?_
      rintro e wq ⟨rfl, hwq⟩
      obtain rfl : W = wq := hwq
      go_wp2_with fail
      go_ret
      exact ⟨rfl, rfl⟩
  · have hd1 : decide (0 < n) = false := decide_eq_false h1
    have hrt : b = false := by rw [← HB.out, decide_eq_false h1, Bool.false_and]
    subst hrt
    go_enter Try.func25, Try.ntmps25
    go_wp2_with fail
    go_ret
    exact ⟨rfl, rfl⟩

theorem implAreCuts (n : Int) (cs : List Int) (b : Bool) (h : cutsB n cs = b) (_hw : (Lit.int .i64 n).wf = true) (hz : cs.length ≤ 1048576) (W : World) (v : Value) (m : Nat) (hv : Sees W v m (vals cs)) :
    Calls Try.prog 25 #[.int .i64 n, v] W fun e w' => e = .returned (.bool b) ∧ Below W.heap.size W w' :=
  (areCuts_same n cs b h W v m hv (by have := hv.1; simp at this; omega)).mono fun e w' ⟨he, hw⟩ => ⟨he, hw ▸ Below.refl _ _⟩

set_option maxRecDepth 100000 in
set_option maxHeartbeats 1000000 in
theorem specFallsOf (zs : List Int) (xs : List Int) (b : Bool) (h : fallsAns zs = (xs, b)) (hz : zs.length ≤ 1048576) (W : World) (v : Value) (n : Nat) (hv : Sees W v n (vals zs)) :
    Calls Try.prog 51 #[v] W fun e w' => ListTo W e w' xs b := by
  have hl : zs.length = n := by simpa using hv.1
  have hn : n ≤ 1048576 := by omega
  obtain ⟨r, hr⟩ : ∃ r, isOrd zs = r := ⟨_, rfl⟩
  have CO := Go.Lib.hid (fun W' (hs' : Sees W' v n (vals zs)) => l2Order_any W' v n zs r hs' hn hr)
  have HV := Go.Lib.hid hv
  unfold fallsAns at h
  obtain ⟨_, ad, cap, rfl, _, _⟩ := hv
  cases r with
  | false =>
    rw [if_neg (by intro h1; unfold isOrd at hr; exact of_decide_eq_false hr h1)] at h
    cases h
    clear hr
    go_enter Try.func51, Try.ntmps51
    go_wp2_with fail
    refine (CO.out _ HV.out).mono ?_
    rintro e w1 ⟨rfl, hd⟩
    have HB1 : Hid (Below W.heap.size W w1) := Go.Lib.hid (hd.below _)
    clear hd
    go_wp2_with fail
    go_ret2
    exact listTo_below HB1.out (listTo_none _ _)
  | true =>
    have hord : Ord zs := by unfold isOrd at hr; exact of_decide_eq_true hr
    rw [if_pos hord] at h
    cases h
    clear hr
    have CQ := Go.Lib.hid (fun W' (hs' : Sees W' (.slice ad n cap) n (vals zs)) => l6Falls_any zs hord W' (.slice ad n cap) n hs')
    obtain ⟨N, hpl⟩ : ∃ N, (fallsL zs).length = N := ⟨_, rfl⟩
    rw [hpl] at CQ
    obtain ⟨L, hL⟩ : ∃ L, fallsL zs = L := ⟨_, rfl⟩
    rw [hL] at CQ hpl ⊢
    clear hL hl hn hz hord
    have HPL := Go.Lib.hid hpl
    clear hpl
    go_enter Try.func51, Try.ntmps51
    go_wp2_with fail
    refine (CO.out _ HV.out).mono ?_
    rintro e w1 ⟨rfl, hd⟩
    have HB1 : Hid (Below W.heap.size W w1) := Go.Lib.hid (hd.below _)
    clear hd
    go_wp2_with fail
    refine (CQ.out _ (HV.out.grow HB1.out)).mono ?_
    rintro e w2 ⟨a2, c2, rfl, hr2, hb2⟩
    have H2 := Go.Lib.hid (And.intro (own_lower hr2 HB1.out.size) (HB1.out.trans (hb2.mono HB1.out.size)))
    clear hr2 hb2
    go_wp2_with fail
    go_ret2
    refine ⟨_, rfl, ?_, H2.out.2⟩
    rw [HPL.out]
    exact H2.out.1

set_option maxRecDepth 100000 in
set_option maxHeartbeats 1000000 in
theorem implFallsOf (zs : List Int) (xs : List Int) (b : Bool) (h : fallsAns zs = (xs, b)) (hz : zs.length ≤ 1048576) (W : World) (v : Value) (n : Nat) (hv : Sees W v n (vals zs)) :
    Calls Try.prog 50 #[v] W fun e w' => ListTo W e w' xs b := by
  have hl : zs.length = n := by simpa using hv.1
  have hn : n ≤ 1048576 := by omega
  obtain ⟨r, hr⟩ : ∃ r, isOrd zs = r := ⟨_, rfl⟩
  have CO := Go.Lib.hid (fun W' (hs' : Sees W' v n (vals zs)) => implOrder_any W' v n zs r hs' hn hr)
  have HV := Go.Lib.hid hv
  unfold fallsAns at h
  obtain ⟨_, ad, cap, rfl, _, _⟩ := hv
  cases r with
  | false =>
    rw [if_neg (by intro h1; unfold isOrd at hr; exact of_decide_eq_false hr h1)] at h
    cases h
    clear hr
    go_enter Try.func50, Try.ntmps50
    go_wp2_with fail
    refine (CO.out _ HV.out).mono ?_
    rintro e w1 ⟨rfl, hd⟩
    have HB1 : Hid (Below W.heap.size W w1) := Go.Lib.hid hd
    clear hd
    go_wp2_with fail
    go_ret2
    exact listTo_below HB1.out (listTo_none _ _)
  | true =>
    have hord : Ord zs := by unfold isOrd at hr; exact of_decide_eq_true hr
    rw [if_pos hord] at h
    cases h
    clear hr
    have CQ := Go.Lib.hid (fun W' (hs' : Sees W' (.slice ad n cap) n (vals zs)) => fallsOf_any zs hord W' (.slice ad n cap) n hs')
    obtain ⟨N, hpl⟩ : ∃ N, (fallsL zs).length = N := ⟨_, rfl⟩
    rw [hpl] at CQ
    obtain ⟨L, hL⟩ : ∃ L, fallsL zs = L := ⟨_, rfl⟩
    rw [hL] at CQ hpl ⊢
    clear hL hl hn hz hord
    have HPL := Go.Lib.hid hpl
    clear hpl
    go_enter Try.func50, Try.ntmps50
    go_wp2_with fail
    refine (CO.out _ HV.out).mono ?_
    rintro e w1 ⟨rfl, hd⟩
    have HB1 : Hid (Below W.heap.size W w1) := Go.Lib.hid hd
    clear hd
    go_wp2_with fail
    refine (CQ.out _ (HV.out.grow HB1.out)).mono ?_
    rintro e w2 ⟨a2, c2, rfl, hr2, hb2⟩
    have H2 := Go.Lib.hid (And.intro (own_lower hr2 HB1.out.size) (HB1.out.trans (hb2.mono HB1.out.size)))
    clear hr2 hb2
    go_wp2_with fail
    go_ret2
    refine ⟨_, rfl, ?_, H2.out.2⟩
    rw [HPL.out]
    exact H2.out.1

set_option maxRecDepth 100000 in
set_option maxHeartbeats 1000000 in
theorem specFallSweep (zs : List Int) (xs : List Int) (b : Bool) (h : fswAns zs = (xs, b)) (hz : zs.length ≤ 1048576) (W : World) (v : Value) (n : Nat) (hv : Sees W v n (vals zs)) :
    Calls Try.prog 53 #[v] W fun e w' => ListTo W e w' xs b := by
  have hl : zs.length = n := by simpa using hv.1
  have hn : n ≤ 1048576 := by omega
  obtain ⟨r, hr⟩ : ∃ r, isOrd zs = r := ⟨_, rfl⟩
  have CO := Go.Lib.hid (fun W' (hs' : Sees W' v n (vals zs)) => l2Order_any W' v n zs r hs' hn hr)
  have HV := Go.Lib.hid hv
  unfold fswAns at h
  obtain ⟨_, ad, cap, rfl, _, _⟩ := hv
  cases r with
  | false =>
    rw [if_neg (by intro h1; unfold isOrd at hr; exact of_decide_eq_false hr h1)] at h
    cases h
    clear hr
    go_enter Try.func53, Try.ntmps53
    go_wp2_with fail
    refine (CO.out _ HV.out).mono ?_
    rintro e w1 ⟨rfl, hd⟩
    have HB1 : Hid (Below W.heap.size W w1) := Go.Lib.hid (hd.below _)
    clear hd
    go_wp2_with fail
    go_ret2
    exact listTo_below HB1.out (listTo_none _ _)
  | true =>
    have hord : Ord zs := by unfold isOrd at hr; exact of_decide_eq_true hr
    rw [if_pos hord] at h
    cases h
    clear hr
    have CQ := Go.Lib.hid (fun W' (hs' : Sees W' (.slice ad n cap) n (vals zs)) => l6Sweep_any zs hord W' (.slice ad n cap) n hs')
    obtain ⟨N, hpl⟩ : ∃ N, (fsw zs).length = N := ⟨_, rfl⟩
    rw [fsw_len, hl] at hpl; subst hpl; have hpl : (fsw zs).length = n := by rw [fsw_len]; exact hl
    obtain ⟨L, hL⟩ : ∃ L, fsw zs = L := ⟨_, rfl⟩
    rw [hL] at CQ hpl ⊢
    clear hL hl hn hz hord
    have HPL := Go.Lib.hid hpl
    clear hpl
    go_enter Try.func53, Try.ntmps53
    go_wp2_with fail
    refine (CO.out _ HV.out).mono ?_
    rintro e w1 ⟨rfl, hd⟩
    have HB1 : Hid (Below W.heap.size W w1) := Go.Lib.hid (hd.below _)
    clear hd
    go_wp2_with fail
    refine (CQ.out _ (HV.out.grow HB1.out)).mono ?_
    rintro e w2 ⟨a2, c2, rfl, hr2, hb2⟩
    have H2 := Go.Lib.hid (And.intro (own_lower hr2 HB1.out.size) (HB1.out.trans (hb2.mono HB1.out.size)))
    clear hr2 hb2
    go_wp2_with fail
    go_ret2
    refine ⟨_, rfl, ?_, H2.out.2⟩
    rw [HPL.out]
    exact H2.out.1

set_option maxRecDepth 100000 in
set_option maxHeartbeats 1000000 in
theorem implFallSweep (zs : List Int) (xs : List Int) (b : Bool) (h : fswAns zs = (xs, b)) (hz : zs.length ≤ 1048576) (W : World) (v : Value) (n : Nat) (hv : Sees W v n (vals zs)) :
    Calls Try.prog 52 #[v] W fun e w' => ListTo W e w' xs b := by
  have hl : zs.length = n := by simpa using hv.1
  have hn : n ≤ 1048576 := by omega
  obtain ⟨r, hr⟩ : ∃ r, isOrd zs = r := ⟨_, rfl⟩
  have CO := Go.Lib.hid (fun W' (hs' : Sees W' v n (vals zs)) => implOrder_any W' v n zs r hs' hn hr)
  have HV := Go.Lib.hid hv
  unfold fswAns at h
  obtain ⟨_, ad, cap, rfl, _, _⟩ := hv
  cases r with
  | false =>
    rw [if_neg (by intro h1; unfold isOrd at hr; exact of_decide_eq_false hr h1)] at h
    cases h
    clear hr
    go_enter Try.func52, Try.ntmps52
    go_wp2_with fail
    refine (CO.out _ HV.out).mono ?_
    rintro e w1 ⟨rfl, hd⟩
    have HB1 : Hid (Below W.heap.size W w1) := Go.Lib.hid hd
    clear hd
    go_wp2_with fail
    go_ret2
    exact listTo_below HB1.out (listTo_none _ _)
  | true =>
    have hord : Ord zs := by unfold isOrd at hr; exact of_decide_eq_true hr
    rw [if_pos hord] at h
    cases h
    clear hr
    have CQ := Go.Lib.hid (fun W' (hs' : Sees W' (.slice ad n cap) n (vals zs)) => fallSweepOf_any zs hord W' (.slice ad n cap) n hs')
    obtain ⟨N, hpl⟩ : ∃ N, (fsw zs).length = N := ⟨_, rfl⟩
    rw [fsw_len, hl] at hpl; subst hpl; have hpl : (fsw zs).length = n := by rw [fsw_len]; exact hl
    obtain ⟨L, hL⟩ : ∃ L, fsw zs = L := ⟨_, rfl⟩
    rw [hL] at CQ hpl ⊢
    clear hL hl hn hz hord
    have HPL := Go.Lib.hid hpl
    clear hpl
    go_enter Try.func52, Try.ntmps52
    go_wp2_with fail
    refine (CO.out _ HV.out).mono ?_
    rintro e w1 ⟨rfl, hd⟩
    have HB1 : Hid (Below W.heap.size W w1) := Go.Lib.hid hd
    clear hd
    go_wp2_with fail
    refine (CQ.out _ (HV.out.grow HB1.out)).mono ?_
    rintro e w2 ⟨a2, c2, rfl, hr2, hb2⟩
    have H2 := Go.Lib.hid (And.intro (own_lower hr2 HB1.out.size) (HB1.out.trans (hb2.mono HB1.out.size)))
    clear hr2 hb2
    go_wp2_with fail
    go_ret2
    refine ⟨_, rfl, ?_, H2.out.2⟩
    rw [HPL.out]
    exact H2.out.1

set_option maxRecDepth 100000 in
set_option maxHeartbeats 1000000 in
theorem specRunCuts (zs cs : List Int) (xs : List Int) (b : Bool) (h : runAnsC zs cs = (xs, b)) (hz : zs.length ≤ 1048576) (hzc : cs.length ≤ 1048576) (W : World) (v : Value) (n : Nat) (hv : Sees W v n (vals zs)) (u : Value) (m : Nat) (hu : Sees W u m (vals cs)) :
    Calls Try.prog 22 #[v, u] W fun e w' => ListTo W e w' xs b := by
  have hl : zs.length = n := by simpa using hv.1
  have hm : m ≤ 1048576 := by have := hu.1; simp at this; omega
  have hn : n ≤ 1048576 := by omega
  obtain ⟨r, hr⟩ : ∃ r, isOrd zs = r := ⟨_, rfl⟩
  obtain ⟨r2, hr2⟩ : ∃ r2, cutsB (n : Int) cs = r2 := ⟨_, rfl⟩
  have CO := Go.Lib.hid (l2Order_any W v n zs r hv hn hr)
  have CC := Go.Lib.hid (fun (W' : World) (hb : Below W.heap.size W W') => l6Cuts_any (n : Int) cs r2 hr2 W' u m (hu.grow hb) hm)
  have HV := Go.Lib.hid (And.intro hv hu)
  unfold runAnsC at h
  obtain ⟨_, ad, cap, rfl, _, _⟩ := hv
  obtain ⟨_, ad2, cap2, rfl, _, _⟩ := hu
  cases r with
  | false =>
    rw [if_neg (by rintro ⟨h1, _⟩; unfold isOrd at hr; exact of_decide_eq_false hr h1)] at h
    cases h
    clear hr hr2 hl
    go_enter Try.func22, Try.ntmps22
    go_wp2_with fail
    refine (CO.out).mono ?_
    rintro e w1 ⟨rfl, hd⟩
    have HB1 : Hid (Below W.heap.size W w1) := Go.Lib.hid (hd.below _)
    clear hd
    go_wp2_with fail
    go_ret2
    exact listTo_below HB1.out (listTo_none _ _)
  | true =>
    have hord : Ord zs := by unfold isOrd at hr; exact of_decide_eq_true hr
    cases r2 with
    | false =>
      rw [if_neg (by rintro ⟨_, h1⟩; rw [hl] at h1; unfold cutsB at hr2; exact of_decide_eq_false hr2 h1)] at h
      cases h
      clear hr hr2 hl hord
      go_enter Try.func22, Try.ntmps22
      go_wp2_with fail
      refine (CO.out).mono ?_
      rintro e w1 ⟨rfl, hd⟩
      have HB1 : Hid (Below W.heap.size W w1) := Go.Lib.hid (hd.below _)
      clear hd
      go_wp2_with fail
      refine (CC.out w1 HB1.out).mono ?_
      rintro e wq ⟨rfl, hwq⟩
      obtain rfl : w1 = wq := hwq
      go_wp2_with fail
      go_ret2
      exact listTo_below HB1.out (listTo_none _ _)
    | true =>
      have hcs : CutsFor zs.length cs := by rw [hl]; unfold cutsB at hr2; exact of_decide_eq_true hr2
      rw [if_pos ⟨hord, hcs⟩] at h
      cases h
      have CQ := Go.Lib.hid (fun (W' : World) (hb : Below W.heap.size W W') => l6Run_any zs cs hord.2.1 hcs W' _ _ n m (HV.out.1.grow hb) (HV.out.2.grow hb))
      have hpl : (runL zs cs).length = n := by rw [(runL_perm cs zs hcs.2.2.1 hcs.2.2.2).length_eq]; exact hl
      obtain ⟨L, hL⟩ : ∃ L, runL zs cs = L := ⟨_, rfl⟩
      rw [hL] at CQ hpl ⊢
      have HPL := Go.Lib.hid hpl
      clear hL hl hn hz hord hcs hpl hr hr2
      go_enter Try.func22, Try.ntmps22
      go_wp2_with fail
      refine (CO.out).mono ?_
      rintro e w1 ⟨rfl, hd⟩
      have HB1 : Hid (Below W.heap.size W w1) := Go.Lib.hid (hd.below _)
      clear hd
      go_wp2_with fail
      refine (CC.out w1 HB1.out).mono ?_
      rintro e wq ⟨rfl, hwq⟩
      obtain rfl : w1 = wq := hwq
      go_wp2_with fail
      refine (CQ.out w1 HB1.out).mono ?_
      rintro e w2 ⟨a2, c2, rfl, hr2, hb2⟩
      have H2 := Go.Lib.hid (And.intro (own_lower hr2 HB1.out.size) (HB1.out.trans (hb2.mono HB1.out.size)))
      clear hr2 hb2
      go_wp2_with fail
      go_ret2
      refine ⟨_, rfl, ?_, H2.out.2⟩
      rw [HPL.out]
      exact H2.out.1

set_option maxRecDepth 100000 in
set_option maxHeartbeats 1000000 in
theorem implRunCuts (zs cs : List Int) (xs : List Int) (b : Bool) (h : runAnsC zs cs = (xs, b)) (hz : zs.length ≤ 1048576) (hzc : cs.length ≤ 1048576) (W : World) (v : Value) (n : Nat) (hv : Sees W v n (vals zs)) (u : Value) (m : Nat) (hu : Sees W u m (vals cs)) :
    Calls Try.prog 21 #[v, u] W fun e w' => ListTo W e w' xs b := by
  have hl : zs.length = n := by simpa using hv.1
  have hm : m ≤ 1048576 := by have := hu.1; simp at this; omega
  have hn : n ≤ 1048576 := by omega
  obtain ⟨r, hr⟩ : ∃ r, isOrd zs = r := ⟨_, rfl⟩
  obtain ⟨r2, hr2⟩ : ∃ r2, cutsB (n : Int) cs = r2 := ⟨_, rfl⟩
  have CO := Go.Lib.hid (implOrder_any W v n zs r hv hn hr)
  have CC := Go.Lib.hid (fun (W' : World) (hb : Below W.heap.size W W') => areCuts_same (n : Int) cs r2 hr2 W' u m (hu.grow hb) hm)
  have HV := Go.Lib.hid (And.intro hv hu)
  unfold runAnsC at h
  obtain ⟨_, ad, cap, rfl, _, _⟩ := hv
  obtain ⟨_, ad2, cap2, rfl, _, _⟩ := hu
  cases r with
  | false =>
    rw [if_neg (by rintro ⟨h1, _⟩; unfold isOrd at hr; exact of_decide_eq_false hr h1)] at h
    cases h
    clear hr hr2 hl
    go_enter Try.func21, Try.ntmps21
    go_wp2_with fail
    refine (CO.out).mono ?_
    rintro e w1 ⟨rfl, hd⟩
    have HB1 : Hid (Below W.heap.size W w1) := Go.Lib.hid hd
    clear hd
    go_wp2_with fail
    go_ret2
    exact listTo_below HB1.out (listTo_none _ _)
  | true =>
    have hord : Ord zs := by unfold isOrd at hr; exact of_decide_eq_true hr
    cases r2 with
    | false =>
      rw [if_neg (by rintro ⟨_, h1⟩; rw [hl] at h1; unfold cutsB at hr2; exact of_decide_eq_false hr2 h1)] at h
      cases h
      clear hr hr2 hl hord
      go_enter Try.func21, Try.ntmps21
      go_wp2_with fail
      refine (CO.out).mono ?_
      rintro e w1 ⟨rfl, hd⟩
      have HB1 : Hid (Below W.heap.size W w1) := Go.Lib.hid hd
      clear hd
      go_wp2_with fail
      refine (CC.out w1 HB1.out).mono ?_
      rintro e wq ⟨rfl, hwq⟩
      obtain rfl : w1 = wq := hwq
      go_wp2_with fail
      go_ret2
      exact listTo_below HB1.out (listTo_none _ _)
    | true =>
      have hcs : CutsFor zs.length cs := by rw [hl]; unfold cutsB at hr2; exact of_decide_eq_true hr2
      rw [if_pos ⟨hord, hcs⟩] at h
      cases h
      have CQ := Go.Lib.hid (fun (W' : World) (hb : Below W.heap.size W W') => runCuts_any zs cs hord.2.1 hcs W' _ _ n m (HV.out.1.grow hb) (HV.out.2.grow hb))
      have hpl : (runL zs cs).length = n := by rw [(runL_perm cs zs hcs.2.2.1 hcs.2.2.2).length_eq]; exact hl
      obtain ⟨L, hL⟩ : ∃ L, runL zs cs = L := ⟨_, rfl⟩
      rw [hL] at CQ hpl ⊢
      have HPL := Go.Lib.hid hpl
      clear hL hl hn hz hord hcs hpl hr hr2
      go_enter Try.func21, Try.ntmps21
      go_wp2_with fail
      refine (CO.out).mono ?_
      rintro e w1 ⟨rfl, hd⟩
      have HB1 : Hid (Below W.heap.size W w1) := Go.Lib.hid hd
      clear hd
      go_wp2_with fail
      refine (CC.out w1 HB1.out).mono ?_
      rintro e wq ⟨rfl, hwq⟩
      obtain rfl : w1 = wq := hwq
      go_wp2_with fail
      refine (CQ.out w1 HB1.out).mono ?_
      rintro e w2 ⟨a2, c2, rfl, hr2, hb2⟩
      have H2 := Go.Lib.hid (And.intro (own_lower hr2 HB1.out.size) (HB1.out.trans (hb2.mono HB1.out.size)))
      clear hr2 hb2
      go_wp2_with fail
      go_ret2
      refine ⟨_, rfl, ?_, H2.out.2⟩
      rw [HPL.out]
      exact H2.out.1

end Go.Proofs.Ytecbfoodkcgehaa.CutsPC
