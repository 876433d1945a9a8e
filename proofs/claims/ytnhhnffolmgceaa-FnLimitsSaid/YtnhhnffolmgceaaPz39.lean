/-
  Contracts: LimitedWord, LimitedSweep, LimitOf and IsSortableWithin of the model and of the program. Conditions: lists of at most 2^20 numbers.
-/
import Derived.Test.YtnhhnffolmgceaaPz29
import Derived.Test.YtnhhnffolmgceaaPz31
import Derived.Test.YtnhhnffolmgceaaPz35
import Derived.Test.YtnhhnffolmgceaaPz30
import Derived.Test.YtnhhnffolmgceaaPz22

namespace Go.Proofs.Ytnhhnffolmgceaa.LimXC
open Go.RowKit SeesC IntsC ExactC NumC IterC OrdMath WordMath OrdFacts InC OrderC WordC RunC SignsC ToC WordFacts Sort4C EndsM SweepM StackM LimW LimM LimT LimWSC LimWIC LimIC LimSC

set_option maxHeartbeats 1000000 in
set_option maxRecDepth 100000 in
theorem limitedSweepOf_any (zs : List Int) (K : Nat) (hK1 : 1 ≤ K) (hK7 : K ≤ 7) (hord : Ord zs) (W : World) (v : Value) (n : Nat) (hv : Sees W v n (vals zs)) :
    Calls Try.prog 88 #[v, .int .i64 (K : Int)] W fun e w' => ∃ u, e = .returned u ∧ w'.ownsRow W.heap.size 3 1 u (lsL K zs).length (vals (lsL K zs)) ∧ Below W.heap.size W w' := by
  have HV := Go.Lib.hid hv
  have CW := Go.Lib.hid (fun W' (h : Sees W' v n (vals zs)) => limitedWordOf_any zs K hK1 hK7 hord W' v n h)
  have hsw := ls_word (d := K) hK1 hord.1 hord.2.1
  have CR := Go.Lib.hid (fun W' (h : Sees W' v n (vals zs)) => runSigns_any zs (txt (lsWord K zs)) hord hsw.1 hsw.2.2.1 W' v n h)
  have HSW := Go.Lib.hid hsw.2.2.2
  obtain ⟨R, hR⟩ : ∃ R, txt (lsWord K zs) = R := ⟨_, rfl⟩
  rw [hR] at CW CR HSW
  clear hR hsw
  obtain ⟨_, ad, cap, rfl, _, _⟩ := hv
  go_enter Try.func88, Try.ntmps88
  go_wp2_with fail
  refine (CW.out _ HV.out).mono ?_
  rintro e w1 ⟨rfl, hb⟩
  have H1 := Go.Lib.hid hb
  clear hb
  go_wp2_with fail
  refine (CR.out _ (HV.out.grow H1.out)).mono ?_
  rintro e w2 ⟨u, rfl, ho, hb⟩
  have H2 := Go.Lib.hid (And.intro (own_lower ho H1.out.size) (H1.out.trans (hb.mono H1.out.size)))
  clear ho hb
  go_wp2_with fail
  go_ret
  exact ⟨_, rfl, by rw [← HSW.out]; exact H2.out.1, H2.out.2⟩

set_option maxRecDepth 100000 in
set_option maxHeartbeats 1000000 in
theorem implLimit (zs : List Int) (r' : Int) (b : Bool) (h : limAns zs = (r', b)) (hz : zs.length ≤ 1048576) (W : World) (v : Value) (n : Nat) (hv : Sees W v n (vals zs)) :
    Calls Try.prog 22 #[v] W fun e w' => e = .returned (.tuple #[.int .i64 r', .bool b]) ∧ Below W.heap.size W w' := by
  have HV := Go.Lib.hid hv
  unfold limAns at h
  by_cases hord : Ord zs
  · rw [if_pos hord] at h
    cases hr : toRes zs (iota zs.length) with
    | none =>
      rw [hr] at h
      cases h
      have CS := Go.Lib.hid (fun W' (hs' : Sees W' v n (vals zs)) => implSorting zs ByteArray.empty false (by unfold sortAns; rw [if_pos hord, hr]; rfl) hz W' v n hs')
      obtain ⟨_, ad, cap, rfl, _, _⟩ := hv
      clear hr
      go_enter Try.func22, Try.ntmps22
      go_wp2_with fail
      refine (CS.out _ HV.out).mono ?_
      rintro e w1 ⟨rfl, hb⟩
      have H1 := Go.Lib.hid hb
      clear hb
      go_wp2_with fail
      go_ret2
      exact ⟨rfl, H1.out⟩
    | some l =>
      have hw := run_to hord (by rw [iota_len]) hr
      obtain ⟨dp, hdp⟩ : ∃ dp, depthTo (txt l) (txt l).size = dp := ⟨_, rfl⟩
      rw [hr] at h
      simp only [hdp] at h
      cases h
      have hsz : (txt l).size ≤ 1048576 := by have := hw.1.2.1; omega
      have CD := fun W' => implDepth (txt l) (dp : Int) true (by unfold depthAns; rw [if_pos hw.1, hdp]) hsz W'
      have CS := fun W' (hs' : Sees W' v n (vals zs)) => implSorting zs (txt l) true (by unfold sortAns; rw [if_pos hord, hr]; rfl) hz W' v n hs'
      obtain ⟨x, hx⟩ : ∃ x, txt l = x := ⟨_, rfl⟩
      rw [hx] at CD CS
      have CD := Go.Lib.hid CD
      have CS := Go.Lib.hid CS
      obtain ⟨_, ad, cap, rfl, _, _⟩ := hv
      clear hr hw hdp hsz hx
      go_enter Try.func22, Try.ntmps22
      go_wp2_with fail
      refine (CS.out _ HV.out).mono ?_
      rintro e w1 ⟨rfl, hb⟩
      have H1 := Go.Lib.hid hb
      clear hb
      go_wp2_with fail
      refine (CD.out _).mono ?_
      rintro e w2 ⟨rfl, hb⟩
      have H2 := Go.Lib.hid (H1.out.trans (hb.mono H1.out.size))
      clear hb
      go_wp2_with fail
      go_ret2
      exact ⟨rfl, H2.out⟩
  · rw [if_neg hord] at h
    cases h
    have CS := Go.Lib.hid (fun W' (hs' : Sees W' v n (vals zs)) => implSorting zs ByteArray.empty false (by unfold sortAns; rw [if_neg hord]) hz W' v n hs')
    obtain ⟨_, ad, cap, rfl, _, _⟩ := hv
    clear hord
    go_enter Try.func22, Try.ntmps22
    go_wp2_with fail
    refine (CS.out _ HV.out).mono ?_
    rintro e w1 ⟨rfl, hb⟩
    have H1 := Go.Lib.hid hb
    clear hb
    go_wp2_with fail
    go_ret2
    exact ⟨rfl, H1.out⟩

set_option maxRecDepth 100000 in
set_option maxHeartbeats 1000000 in
theorem specLimit (zs : List Int) (r' : Int) (b : Bool) (h : limAns zs = (r', b)) (hz : zs.length ≤ 1048576) (W : World) (v : Value) (n : Nat) (hv : Sees W v n (vals zs)) :
    Calls Try.prog 23 #[v] W fun e w' => e = .returned (.tuple #[.int .i64 r', .bool b]) ∧ Below W.heap.size W w' := by
  have hl : zs.length = n := by simpa using hv.1
  have hn : n ≤ 1048576 := by omega
  obtain ⟨r, hr⟩ : ∃ r, isOrd zs = r := ⟨_, rfl⟩
  have CO := Go.Lib.hid (fun W' (hs' : Sees W' v n (vals zs)) => l2Order_any W' v n zs r hs' hn hr)
  have HV := Go.Lib.hid hv
  unfold limAns at h
  obtain ⟨_, ad, cap, rfl, _, _⟩ := hv
  cases r with
  | false =>
    rw [if_neg (by intro h1; unfold isOrd at hr; exact of_decide_eq_false hr h1)] at h
    cases h
    clear hr
    go_enter Try.func23, Try.ntmps23
    go_wp2_with fail
    refine (CO.out _ HV.out).mono ?_
    rintro e w1 ⟨rfl, hd⟩
    have HB1 : Hid (Below W.heap.size W w1) := Go.Lib.hid (hd.below W.heap.size)
    clear hd
    go_wp2_with fail
    go_ret2
    exact ⟨rfl, HB1.out⟩
  | true =>
    have hord : Ord zs := by unfold isOrd at hr; exact of_decide_eq_true hr
    have C4 := fun W' (hs' : Sees W' (.slice ad n cap) n (vals zs)) => l4Sortable_any zs hord W' _ n hs'
    rw [if_pos hord] at h
    clear hr
    cases hr : toRes zs (iota zs.length) with
    | none =>
      rw [hr] at h C4
      cases h
      have C4 := Go.Lib.hid C4
      clear hr
      go_enter Try.func23, Try.ntmps23
      go_wp2_with fail
      refine (CO.out _ HV.out).mono ?_
      rintro e w1 ⟨rfl, hd⟩
      have HB1 : Hid (Below W.heap.size W w1) := Go.Lib.hid (hd.below W.heap.size)
      clear hd
      go_wp2_with fail
      refine (C4.out _ (HV.out.grow HB1.out)).mono ?_
      rintro e w2 ⟨rfl, hb⟩
      have H2 := Go.Lib.hid (HB1.out.trans (hb.mono HB1.out.size))
      clear hb
      have hno : (optAns none).2 = false := rfl
      go_wp2_with fail
      go_ret2
      exact ⟨rfl, H2.out⟩
    | some l =>
      have hw := run_to hord (by rw [iota_len]) hr
      obtain ⟨dp, hdp⟩ : ∃ dp, depthTo (txt l) (txt l).size = dp := ⟨_, rfl⟩
      rw [hr] at h C4
      simp only [hdp] at h
      cases h
      have CD := fun W' => l2Depth_any (txt l) W' hw.1
      rw [hdp] at CD
      have C4 : ∀ W', Sees W' (.slice ad n cap) n (vals zs) → Calls Try.prog 76 #[.slice ad n cap] W' fun e w' => e = .returned (.tuple #[.string (txt l), .bool true]) ∧ Below W'.heap.size W' w' := C4
      obtain ⟨x, hx⟩ : ∃ x, txt l = x := ⟨_, rfl⟩
      rw [hx] at CD C4
      have CD := Go.Lib.hid CD
      have C4 := Go.Lib.hid C4
      clear hr hw hdp hx
      go_enter Try.func23, Try.ntmps23
      go_wp2_with fail
      refine (CO.out _ HV.out).mono ?_
      rintro e w1 ⟨rfl, hd⟩
      have HB1 : Hid (Below W.heap.size W w1) := Go.Lib.hid (hd.below W.heap.size)
      clear hd
      go_wp2_with fail
      refine (C4.out _ (HV.out.grow HB1.out)).mono ?_
      rintro e w2 ⟨rfl, hb⟩
      have H2 := Go.Lib.hid (HB1.out.trans (hb.mono HB1.out.size))
      clear hb
      go_wp2_with fail
      refine (CD.out _).mono ?_
      rintro e w3 ⟨rfl, rfl⟩
      go_wp2_with fail
      go_ret2
      exact ⟨rfl, H2.out⟩

set_option maxRecDepth 100000 in
set_option maxHeartbeats 1000000 in
theorem l10Sorts_any (zs : List Int) (K : Nat) (hord : Ord zs) (W : World) (v : Value) (n : Nat) (hv : Sees W v n (vals zs)) :
    Calls Try.prog 73 #[v, .int .i64 (K : Int)] W fun e w' => e = .returned (.bool (canD K zs)) ∧ Below W.heap.size W w' := by
  have HV := Go.Lib.hid hv
  have C4 := fun W' (hs' : Sees W' v n (vals zs)) => l4Sortable_any zs hord W' v n hs'
  cases hr : toRes zs (iota zs.length) with
  | none =>
    have hc : canD K zs = false := by unfold canD; rw [hr]
    rw [hc]
    rw [hr] at C4
    have C4 : ∀ W', Sees W' v n (vals zs) → Calls Try.prog 76 #[v] W' fun e w' => e = .returned (.tuple #[.string ByteArray.empty, .bool false]) ∧ Below W'.heap.size W' w' := C4
    have C4 := Go.Lib.hid C4
    obtain ⟨_, ad, cap, rfl, _, _⟩ := hv
    clear hr hc
    go_enter Try.func73, Try.ntmps73
    go_wp2_with fail
    refine (C4.out _ HV.out).mono ?_
    rintro e w2 ⟨rfl, hb⟩
    have H2 := Go.Lib.hid hb
    clear hb
    go_wp2_with fail
    go_ret
    exact ⟨rfl, H2.out⟩
  | some l =>
    have hw := run_to hord (by rw [iota_len]) hr
    obtain ⟨dp, hdp⟩ : ∃ dp, depthTo (txt l) (txt l).size = dp := ⟨_, rfl⟩
    have hc : canD K zs = decide (dp ≤ K) := by unfold canD; rw [hr]; simp only; rw [hdp]
    rw [hc]
    rw [hr] at C4
    have CD := fun W' => l2Depth_any (txt l) W' hw.1
    rw [hdp] at CD
    have C4 : ∀ W', Sees W' v n (vals zs) → Calls Try.prog 76 #[v] W' fun e w' => e = .returned (.tuple #[.string (txt l), .bool true]) ∧ Below W'.heap.size W' w' := C4
    obtain ⟨x, hx⟩ : ∃ x, txt l = x := ⟨_, rfl⟩
    rw [hx] at CD C4
    have CD := Go.Lib.hid CD
    have C4 := Go.Lib.hid C4
    obtain ⟨_, ad, cap, rfl, _, _⟩ := hv
    clear hr hw hdp hx hc
    by_cases hle : dp ≤ K
    · have hlei : (dp : Int) ≤ (K : Int) := by omega
      have hled : decide (dp ≤ K) = true := decide_eq_true hle
      go_enter Try.func73, Try.ntmps73
      go_wp2_with fail
      refine (C4.out _ HV.out).mono ?_
      rintro e w2 ⟨rfl, hb⟩
      have H2 := Go.Lib.hid hb
      clear hb
      go_wp2_with fail
      refine (CD.out _).mono ?_
      rintro e w3 ⟨rfl, rfl⟩
      go_wp2_with fail
      go_ret
      exact ⟨by rw [hled]; rfl, H2.out⟩
    · have hlei : ¬ (dp : Int) ≤ (K : Int) := by omega
      have hled : decide (dp ≤ K) = false := decide_eq_false hle
      go_enter Try.func73, Try.ntmps73
      go_wp2_with fail
      refine (C4.out _ HV.out).mono ?_
      rintro e w2 ⟨rfl, hb⟩
      have H2 := Go.Lib.hid hb
      clear hb
      go_wp2_with fail
      refine (CD.out _).mono ?_
      rintro e w3 ⟨rfl, rfl⟩
      go_wp2_with fail
      go_ret
      exact ⟨by rw [hled]; rfl, H2.out⟩

set_option maxRecDepth 100000 in
set_option maxHeartbeats 4000000 in
theorem specLWord (zs : List Int) (dd : Int) (r' : ByteArray) (b : Bool) (h : lswAns zs dd = (r', b)) (hz : zs.length ≤ 1048576) (_hw : (Lit.int .i64 dd).wf = true) (W : World) (v : Value) (n : Nat) (hv : Sees W v n (vals zs)) :
    Calls Try.prog 46 #[v, .int .i64 dd] W fun e w' => e = .returned (.tuple #[.string r', .bool b]) ∧ Below W.heap.size W w' := by
  have hl : zs.length = n := by simpa using hv.1
  have hn : n ≤ 1048576 := by omega
  obtain ⟨r, hr⟩ : ∃ r, isOrd zs = r := ⟨_, rfl⟩
  have CO := Go.Lib.hid (fun W' (hs' : Sees W' v n (vals zs)) => l2Order_any W' v n zs r hs' hn hr)
  have HV := Go.Lib.hid hv
  unfold lswAns at h
  obtain ⟨_, ad, cap, rfl, _, _⟩ := hv
  cases r with
  | false =>
    rw [if_neg (by intro h1; unfold isOrd at hr; exact of_decide_eq_false hr h1.1)] at h
    cases h
    clear hr
    go_enter Try.func46, Try.ntmps46
    go_wp2_with fail
    refine (CO.out _ HV.out).mono ?_
    rintro e w1 ⟨rfl, hd⟩
    have HB1 : Hid (Below W.heap.size W w1) := Go.Lib.hid (hd.below W.heap.size)
    clear hd
    go_wp2_with fail
    go_ret2
    exact ⟨rfl, HB1.out⟩
  | true =>
    have hord : Ord zs := by unfold isOrd at hr; exact of_decide_eq_true hr
    have hn7 : n ≤ 7 := by have := hord.2.1; omega
    have hn1 : 1 ≤ n := by have := hord.1; omega
    clear hr
    by_cases hd17 : 1 ≤ dd ∧ dd ≤ 7
    · have CL := Go.Lib.hid (fun w2 => LimSC.l10Limit_any dd w2 true (decide_eq_true hd17))
      obtain ⟨K, rfl⟩ : ∃ K : Nat, dd = (K : Int) := ⟨dd.toNat, by omega⟩
      have hK1 : 1 ≤ K := by omega
      have hK7 : K ≤ 7 := by omega
      rw [if_pos ⟨hord, hd17.1, hd17.2⟩, Int.toNat_natCast] at h
      cases h
      clear hd17
      have C1 := fun W' (hs' : Sees W' (.slice ad n cap) n (vals zs)) => l10Word_any zs K hK1 hK7 hord W' _ n hs'
      obtain ⟨R, hR⟩ : ∃ R, txt (lsWord K zs) = R := ⟨_, rfl⟩
      rw [hR] at C1
      rw [hR]
      have C1 := Go.Lib.hid C1
      clear hR
      go_enter Try.func46, Try.ntmps46
      go_wp2_with fail
      refine (CO.out _ HV.out).mono ?_
      rintro e w1 ⟨rfl, hd⟩
      have HB1 : Hid (Below W.heap.size W w1) := Go.Lib.hid (hd.below W.heap.size)
      clear hd
      have HV1 := Go.Lib.hid (HV.out.grow HB1.out)
      go_wp2_with fail
      refine (CL.out _).mono ?_
      rintro e w2 ⟨rfl, rfl⟩
      go_wp2_with fail
      refine (C1.out _ HV1.out).mono ?_
      rintro e w2 ⟨rfl, hb⟩
      have H2 := Go.Lib.hid (HB1.out.trans (hb.mono HB1.out.size))
      clear hb
      go_wp2_with fail
      go_ret2
      exact ⟨rfl, H2.out⟩
    · have CL := Go.Lib.hid (fun w2 => LimSC.l10Limit_any dd w2 false (decide_eq_false hd17))
      rw [if_neg (fun h1 => hd17 ⟨h1.2.1, h1.2.2⟩)] at h
      cases h
      clear hd17
      go_enter Try.func46, Try.ntmps46
      go_wp2_with fail
      refine (CO.out _ HV.out).mono ?_
      rintro e w1 ⟨rfl, hd⟩
      have HB1 : Hid (Below W.heap.size W w1) := Go.Lib.hid (hd.below W.heap.size)
      clear hd
      go_wp2_with fail
      refine (CL.out _).mono ?_
      rintro e w2 ⟨rfl, rfl⟩
      go_wp2_with fail
      go_ret2
      exact ⟨rfl, HB1.out⟩

set_option maxRecDepth 100000 in
set_option maxHeartbeats 4000000 in
theorem implLWord (zs : List Int) (dd : Int) (r' : ByteArray) (b : Bool) (h : lswAns zs dd = (r', b)) (hz : zs.length ≤ 1048576) (_hw : (Lit.int .i64 dd).wf = true) (W : World) (v : Value) (n : Nat) (hv : Sees W v n (vals zs)) :
    Calls Try.prog 45 #[v, .int .i64 dd] W fun e w' => e = .returned (.tuple #[.string r', .bool b]) ∧ Below W.heap.size W w' := by
  have hl : zs.length = n := by simpa using hv.1
  have hn : n ≤ 1048576 := by omega
  obtain ⟨r, hr⟩ : ∃ r, isOrd zs = r := ⟨_, rfl⟩
  have CO := Go.Lib.hid (fun W' (hs' : Sees W' v n (vals zs)) => implOrder_any W' v n zs r hs' hn hr)
  have HV := Go.Lib.hid hv
  unfold lswAns at h
  obtain ⟨_, ad, cap, rfl, _, _⟩ := hv
  cases r with
  | false =>
    rw [if_neg (by intro h1; unfold isOrd at hr; exact of_decide_eq_false hr h1.1)] at h
    cases h
    clear hr
    go_enter Try.func45, Try.ntmps45
    go_wp2_with fail
    refine (CO.out _ HV.out).mono ?_
    rintro e w1 ⟨rfl, hd⟩
    have HB1 : Hid (Below W.heap.size W w1) := Go.Lib.hid hd
    clear hd
    go_wp2_with fail
    go_ret2
    exact ⟨rfl, HB1.out⟩
  | true =>
    have hord : Ord zs := by unfold isOrd at hr; exact of_decide_eq_true hr
    have hn7 : n ≤ 7 := by have := hord.2.1; omega
    have hn1 : 1 ≤ n := by have := hord.1; omega
    clear hr
    by_cases hd17 : 1 ≤ dd ∧ dd ≤ 7
    · have CL := Go.Lib.hid (fun w2 => isLimit_any dd w2 true (decide_eq_true hd17))
      obtain ⟨K, rfl⟩ : ∃ K : Nat, dd = (K : Int) := ⟨dd.toNat, by omega⟩
      have hK1 : 1 ≤ K := by omega
      have hK7 : K ≤ 7 := by omega
      rw [if_pos ⟨hord, hd17.1, hd17.2⟩, Int.toNat_natCast] at h
      cases h
      clear hd17
      have C1 := fun W' (hs' : Sees W' (.slice ad n cap) n (vals zs)) => limitedWordOf_any zs K hK1 hK7 hord W' _ n hs'
      obtain ⟨R, hR⟩ : ∃ R, txt (lsWord K zs) = R := ⟨_, rfl⟩
      rw [hR] at C1
      rw [hR]
      have C1 := Go.Lib.hid C1
      clear hR
      go_enter Try.func45, Try.ntmps45
      go_wp2_with fail
      refine (CO.out _ HV.out).mono ?_
      rintro e w1 ⟨rfl, hd⟩
      have HB1 : Hid (Below W.heap.size W w1) := Go.Lib.hid hd
      clear hd
      have HV1 := Go.Lib.hid (HV.out.grow HB1.out)
      go_wp2_with fail
      refine (CL.out _).mono ?_
      rintro e w2 ⟨rfl, rfl⟩
      go_wp2_with fail
      refine (C1.out _ HV1.out).mono ?_
      rintro e w2 ⟨rfl, hb⟩
      have H2 := Go.Lib.hid (HB1.out.trans (hb.mono HB1.out.size))
      clear hb
      go_wp2_with fail
      go_ret2
      exact ⟨rfl, H2.out⟩
    · have CL := Go.Lib.hid (fun w2 => isLimit_any dd w2 false (decide_eq_false hd17))
      rw [if_neg (fun h1 => hd17 ⟨h1.2.1, h1.2.2⟩)] at h
      cases h
      clear hd17
      go_enter Try.func45, Try.ntmps45
      go_wp2_with fail
      refine (CO.out _ HV.out).mono ?_
      rintro e w1 ⟨rfl, hd⟩
      have HB1 : Hid (Below W.heap.size W w1) := Go.Lib.hid hd
      clear hd
      go_wp2_with fail
      refine (CL.out _).mono ?_
      rintro e w2 ⟨rfl, rfl⟩
      go_wp2_with fail
      go_ret2
      exact ⟨rfl, HB1.out⟩

set_option maxRecDepth 100000 in
set_option maxHeartbeats 4000000 in
theorem specLSweep (zs : List Int) (dd : Int) (xs : List Int) (b : Bool) (h : lsAns zs dd = (xs, b)) (hz : zs.length ≤ 1048576) (_hw : (Lit.int .i64 dd).wf = true) (W : World) (v : Value) (n : Nat) (hv : Sees W v n (vals zs)) :
    Calls Try.prog 44 #[v, .int .i64 dd] W fun e w' => ListTo W e w' xs b := by
  have hl : zs.length = n := by simpa using hv.1
  have hn : n ≤ 1048576 := by omega
  obtain ⟨r, hr⟩ : ∃ r, isOrd zs = r := ⟨_, rfl⟩
  have CO := Go.Lib.hid (fun W' (hs' : Sees W' v n (vals zs)) => l2Order_any W' v n zs r hs' hn hr)
  have HV := Go.Lib.hid hv
  unfold lsAns at h
  obtain ⟨_, ad, cap, rfl, _, _⟩ := hv
  cases r with
  | false =>
    rw [if_neg (by intro h1; unfold isOrd at hr; exact of_decide_eq_false hr h1.1)] at h
    cases h
    clear hr
    go_enter Try.func44, Try.ntmps44
    go_wp2_with fail
    refine (CO.out _ HV.out).mono ?_
    rintro e w1 ⟨rfl, hd⟩
    have HB1 : Hid (Below W.heap.size W w1) := Go.Lib.hid (hd.below W.heap.size)
    clear hd
    go_wp2_with fail
    go_ret2
    exact listTo_below HB1.out (listTo_none _ _)
  | true =>
    have hord : Ord zs := by unfold isOrd at hr; exact of_decide_eq_true hr
    have hn7 : n ≤ 7 := by have := hord.2.1; omega
    have hn1 : 1 ≤ n := by have := hord.1; omega
    clear hr
    by_cases hd17 : 1 ≤ dd ∧ dd ≤ 7
    · have CL := Go.Lib.hid (fun w2 => LimSC.l10Limit_any dd w2 true (decide_eq_true hd17))
      obtain ⟨K, rfl⟩ : ∃ K : Nat, dd = (K : Int) := ⟨dd.toNat, by omega⟩
      have hK1 : 1 ≤ K := by omega
      have hK7 : K ≤ 7 := by omega
      rw [if_pos ⟨hord, hd17.1, hd17.2⟩, Int.toNat_natCast] at h
      cases h
      clear hd17
      have C1 := Go.Lib.hid (fun W' (hs' : Sees W' (.slice ad n cap) n (vals zs)) => l10Sweep_any zs K hK1 hK7 hord W' _ n hs')
      go_enter Try.func44, Try.ntmps44
      go_wp2_with fail
      refine (CO.out _ HV.out).mono ?_
      rintro e w1 ⟨rfl, hd⟩
      have HB1 : Hid (Below W.heap.size W w1) := Go.Lib.hid (hd.below W.heap.size)
      clear hd
      have HV1 := Go.Lib.hid (HV.out.grow HB1.out)
      go_wp2_with fail
      refine (CL.out _).mono ?_
      rintro e w2 ⟨rfl, rfl⟩
      go_wp2_with fail
      refine (C1.out _ HV1.out).mono ?_
      rintro e w2 ⟨u, rfl, ho, hb⟩
      have H2 := Go.Lib.hid (And.intro (own_lower ho HB1.out.size) (HB1.out.trans (hb.mono HB1.out.size)))
      clear ho hb
      go_wp2_with fail
      go_ret2
      exact ⟨_, rfl, H2.out.1, H2.out.2⟩
    · have CL := Go.Lib.hid (fun w2 => LimSC.l10Limit_any dd w2 false (decide_eq_false hd17))
      rw [if_neg (fun h1 => hd17 ⟨h1.2.1, h1.2.2⟩)] at h
      cases h
      clear hd17
      go_enter Try.func44, Try.ntmps44
      go_wp2_with fail
      refine (CO.out _ HV.out).mono ?_
      rintro e w1 ⟨rfl, hd⟩
      have HB1 : Hid (Below W.heap.size W w1) := Go.Lib.hid (hd.below W.heap.size)
      clear hd
      go_wp2_with fail
      refine (CL.out _).mono ?_
      rintro e w2 ⟨rfl, rfl⟩
      go_wp2_with fail
      go_ret2
      exact listTo_below HB1.out (listTo_none _ _)

set_option maxRecDepth 100000 in
set_option maxHeartbeats 4000000 in
theorem implLSweep (zs : List Int) (dd : Int) (xs : List Int) (b : Bool) (h : lsAns zs dd = (xs, b)) (hz : zs.length ≤ 1048576) (_hw : (Lit.int .i64 dd).wf = true) (W : World) (v : Value) (n : Nat) (hv : Sees W v n (vals zs)) :
    Calls Try.prog 43 #[v, .int .i64 dd] W fun e w' => ListTo W e w' xs b := by
  have hl : zs.length = n := by simpa using hv.1
  have hn : n ≤ 1048576 := by omega
  obtain ⟨r, hr⟩ : ∃ r, isOrd zs = r := ⟨_, rfl⟩
  have CO := Go.Lib.hid (fun W' (hs' : Sees W' v n (vals zs)) => implOrder_any W' v n zs r hs' hn hr)
  have HV := Go.Lib.hid hv
  unfold lsAns at h
  obtain ⟨_, ad, cap, rfl, _, _⟩ := hv
  cases r with
  | false =>
    rw [if_neg (by intro h1; unfold isOrd at hr; exact of_decide_eq_false hr h1.1)] at h
    cases h
    clear hr
    go_enter Try.func43, Try.ntmps43
    go_wp2_with fail
    refine (CO.out _ HV.out).mono ?_
    rintro e w1 ⟨rfl, hd⟩
    have HB1 : Hid (Below W.heap.size W w1) := Go.Lib.hid hd
    clear hd
    go_wp2_with fail
    go_ret2
    exact listTo_below HB1.out (listTo_none _ _)
  | true =>
    have hord : Ord zs := by unfold isOrd at hr; exact of_decide_eq_true hr
    have hn7 : n ≤ 7 := by have := hord.2.1; omega
    have hn1 : 1 ≤ n := by have := hord.1; omega
    clear hr
    by_cases hd17 : 1 ≤ dd ∧ dd ≤ 7
    · have CL := Go.Lib.hid (fun w2 => isLimit_any dd w2 true (decide_eq_true hd17))
      obtain ⟨K, rfl⟩ : ∃ K : Nat, dd = (K : Int) := ⟨dd.toNat, by omega⟩
      have hK1 : 1 ≤ K := by omega
      have hK7 : K ≤ 7 := by omega
      rw [if_pos ⟨hord, hd17.1, hd17.2⟩, Int.toNat_natCast] at h
      cases h
      clear hd17
      have C1 := Go.Lib.hid (fun W' (hs' : Sees W' (.slice ad n cap) n (vals zs)) => limitedSweepOf_any zs K hK1 hK7 hord W' _ n hs')
      go_enter Try.func43, Try.ntmps43
      go_wp2_with fail
      refine (CO.out _ HV.out).mono ?_
      rintro e w1 ⟨rfl, hd⟩
      have HB1 : Hid (Below W.heap.size W w1) := Go.Lib.hid hd
      clear hd
      have HV1 := Go.Lib.hid (HV.out.grow HB1.out)
      go_wp2_with fail
      refine (CL.out _).mono ?_
      rintro e w2 ⟨rfl, rfl⟩
      go_wp2_with fail
      refine (C1.out _ HV1.out).mono ?_
      rintro e w2 ⟨u, rfl, ho, hb⟩
      have H2 := Go.Lib.hid (And.intro (own_lower ho HB1.out.size) (HB1.out.trans (hb.mono HB1.out.size)))
      clear ho hb
      go_wp2_with fail
      go_ret2
      exact ⟨_, rfl, H2.out.1, H2.out.2⟩
    · have CL := Go.Lib.hid (fun w2 => isLimit_any dd w2 false (decide_eq_false hd17))
      rw [if_neg (fun h1 => hd17 ⟨h1.2.1, h1.2.2⟩)] at h
      cases h
      clear hd17
      go_enter Try.func43, Try.ntmps43
      go_wp2_with fail
      refine (CO.out _ HV.out).mono ?_
      rintro e w1 ⟨rfl, hd⟩
      have HB1 : Hid (Below W.heap.size W w1) := Go.Lib.hid hd
      clear hd
      go_wp2_with fail
      refine (CL.out _).mono ?_
      rintro e w2 ⟨rfl, rfl⟩
      go_wp2_with fail
      go_ret2
      exact listTo_below HB1.out (listTo_none _ _)

set_option maxRecDepth 100000 in
set_option maxHeartbeats 4000000 in
theorem specCan (zs : List Int) (dd : Int) (r' : Bool) (b : Bool) (h : canAns zs dd = (r', b)) (hz : zs.length ≤ 1048576) (_hw : (Lit.int .i64 dd).wf = true) (W : World) (v : Value) (n : Nat) (hv : Sees W v n (vals zs)) :
    Calls Try.prog 20 #[v, .int .i64 dd] W fun e w' => e = .returned (.tuple #[.bool r', .bool b]) ∧ Below W.heap.size W w' := by
  have hl : zs.length = n := by simpa using hv.1
  have hn : n ≤ 1048576 := by omega
  obtain ⟨r, hr⟩ : ∃ r, isOrd zs = r := ⟨_, rfl⟩
  have CO := Go.Lib.hid (fun W' (hs' : Sees W' v n (vals zs)) => l2Order_any W' v n zs r hs' hn hr)
  have HV := Go.Lib.hid hv
  unfold canAns at h
  obtain ⟨_, ad, cap, rfl, _, _⟩ := hv
  cases r with
  | false =>
    rw [if_neg (by intro h1; unfold isOrd at hr; exact of_decide_eq_false hr h1.1)] at h
    cases h
    clear hr
    go_enter Try.func20, Try.ntmps20
    go_wp2_with fail
    refine (CO.out _ HV.out).mono ?_
    rintro e w1 ⟨rfl, hd⟩
    have HB1 : Hid (Below W.heap.size W w1) := Go.Lib.hid (hd.below W.heap.size)
    clear hd
    go_wp2_with fail
    go_ret2
    exact ⟨rfl, HB1.out⟩
  | true =>
    have hord : Ord zs := by unfold isOrd at hr; exact of_decide_eq_true hr
    have hn7 : n ≤ 7 := by have := hord.2.1; omega
    have hn1 : 1 ≤ n := by have := hord.1; omega
    clear hr
    by_cases hd17 : 1 ≤ dd ∧ dd ≤ 7
    · have CL := Go.Lib.hid (fun w2 => LimSC.l10Limit_any dd w2 true (decide_eq_true hd17))
      obtain ⟨K, rfl⟩ : ∃ K : Nat, dd = (K : Int) := ⟨dd.toNat, by omega⟩
      have hK1 : 1 ≤ K := by omega
      have hK7 : K ≤ 7 := by omega
      rw [if_pos ⟨hord, hd17.1, hd17.2⟩, Int.toNat_natCast] at h
      cases h
      clear hd17
      have C1 := Go.Lib.hid (fun W' (hs' : Sees W' (.slice ad n cap) n (vals zs)) => l10Sorts_any zs K hord W' _ n hs')
      obtain ⟨q, hq⟩ : ∃ q, canD K zs = q := ⟨_, rfl⟩
      rw [hq] at C1 ⊢
      clear hq
      go_enter Try.func20, Try.ntmps20
      go_wp2_with fail
      refine (CO.out _ HV.out).mono ?_
      rintro e w1 ⟨rfl, hd⟩
      have HB1 : Hid (Below W.heap.size W w1) := Go.Lib.hid (hd.below W.heap.size)
      clear hd
      have HV1 := Go.Lib.hid (HV.out.grow HB1.out)
      go_wp2_with fail
      refine (CL.out _).mono ?_
      rintro e w2 ⟨rfl, rfl⟩
      go_wp2_with fail
      refine (C1.out _ HV1.out).mono ?_
      rintro e w2 ⟨rfl, hb⟩
      have H2 := Go.Lib.hid (HB1.out.trans (hb.mono HB1.out.size))
      clear hb
      go_wp2_with fail
      go_ret2
      exact ⟨rfl, H2.out⟩
    · have CL := Go.Lib.hid (fun w2 => LimSC.l10Limit_any dd w2 false (decide_eq_false hd17))
      rw [if_neg (fun h1 => hd17 ⟨h1.2.1, h1.2.2⟩)] at h
      cases h
      clear hd17
      go_enter Try.func20, Try.ntmps20
      go_wp2_with fail
      refine (CO.out _ HV.out).mono ?_
      rintro e w1 ⟨rfl, hd⟩
      have HB1 : Hid (Below W.heap.size W w1) := Go.Lib.hid (hd.below W.heap.size)
      clear hd
      go_wp2_with fail
      refine (CL.out _).mono ?_
      rintro e w2 ⟨rfl, rfl⟩
      go_wp2_with fail
      go_ret2
      exact ⟨rfl, HB1.out⟩

set_option maxRecDepth 100000 in
set_option maxHeartbeats 4000000 in
theorem implCan (zs : List Int) (dd : Int) (r' : Bool) (b : Bool) (h : canAns zs dd = (r', b)) (hz : zs.length ≤ 1048576) (_hw : (Lit.int .i64 dd).wf = true) (W : World) (v : Value) (n : Nat) (hv : Sees W v n (vals zs)) :
    Calls Try.prog 19 #[v, .int .i64 dd] W fun e w' => e = .returned (.tuple #[.bool r', .bool b]) ∧ Below W.heap.size W w' := by
  have hl : zs.length = n := by simpa using hv.1
  have hn : n ≤ 1048576 := by omega
  obtain ⟨r, hr⟩ : ∃ r, isOrd zs = r := ⟨_, rfl⟩
  have CO := Go.Lib.hid (fun W' (hs' : Sees W' v n (vals zs)) => implOrder_any W' v n zs r hs' hn hr)
  have HV := Go.Lib.hid hv
  unfold canAns at h
  obtain ⟨_, ad, cap, rfl, _, _⟩ := hv
  cases r with
  | false =>
    rw [if_neg (by intro h1; unfold isOrd at hr; exact of_decide_eq_false hr h1.1)] at h
    cases h
    clear hr
    go_enter Try.func19, Try.ntmps19
    go_wp2_with fail
    refine (CO.out _ HV.out).mono ?_
    rintro e w1 ⟨rfl, hd⟩
    have HB1 : Hid (Below W.heap.size W w1) := Go.Lib.hid hd
    clear hd
    go_wp2_with fail
    go_ret2
    exact ⟨rfl, HB1.out⟩
  | true =>
    have hord : Ord zs := by unfold isOrd at hr; exact of_decide_eq_true hr
    have hn7 : n ≤ 7 := by have := hord.2.1; omega
    have hn1 : 1 ≤ n := by have := hord.1; omega
    clear hr
    by_cases hd17 : 1 ≤ dd ∧ dd ≤ 7
    · have CL := Go.Lib.hid (fun w2 => isLimit_any dd w2 true (decide_eq_true hd17))
      obtain ⟨K, rfl⟩ : ∃ K : Nat, dd = (K : Int) := ⟨dd.toNat, by omega⟩
      have hK1 : 1 ≤ K := by omega
      have hK7 : K ≤ 7 := by omega
      rw [if_pos ⟨hord, hd17.1, hd17.2⟩, Int.toNat_natCast] at h
      cases h
      clear hd17
      cases hr : toRes zs (iota zs.length) with
      | none =>
        have hc : canD K zs = false := by unfold canD; rw [hr]
        rw [hc]
        have C1 := Go.Lib.hid (fun W' (hs' : Sees W' (.slice ad n cap) n (vals zs)) => implLimit zs 0 false (by unfold limAns; rw [if_pos hord, hr]) hz W' _ n hs')
        clear hr hc
        go_enter Try.func19, Try.ntmps19
        go_wp2_with fail
        refine (CO.out _ HV.out).mono ?_
        rintro e w1 ⟨rfl, hd⟩
        have HB1 : Hid (Below W.heap.size W w1) := Go.Lib.hid hd
        clear hd
        have HV1 := Go.Lib.hid (HV.out.grow HB1.out)
        go_wp2_with fail
        refine (CL.out _).mono ?_
        rintro e w2 ⟨rfl, rfl⟩
        go_wp2_with fail
        refine (C1.out _ HV1.out).mono ?_
        rintro e w2 ⟨rfl, hb⟩
        have H2 := Go.Lib.hid (HB1.out.trans (hb.mono HB1.out.size))
        clear hb
        go_wp2_with fail
        go_ret2
        exact ⟨rfl, H2.out⟩
      | some l =>
        obtain ⟨dp, hdp⟩ : ∃ dp, depthTo (txt l) (txt l).size = dp := ⟨_, rfl⟩
        have C1 := Go.Lib.hid (fun W' (hs' : Sees W' (.slice ad n cap) n (vals zs)) => implLimit zs (dp : Int) true (by unfold limAns; rw [if_pos hord, hr]; simp only; rw [hdp]) hz W' _ n hs')
        have hc : canD K zs = decide (dp ≤ K) := by unfold canD; rw [hr]; simp only; rw [hdp]
        rw [hc]
        clear hr hc hdp
        by_cases hle : dp ≤ K
        · have hlei : (dp : Int) ≤ (K : Int) := by omega
          have hled : decide (dp ≤ K) = true := decide_eq_true hle
          go_enter Try.func19, Try.ntmps19
          go_wp2_with fail
          refine (CO.out _ HV.out).mono ?_
          rintro e w1 ⟨rfl, hd⟩
          have HB1 : Hid (Below W.heap.size W w1) := Go.Lib.hid hd
          clear hd
          have HV1 := Go.Lib.hid (HV.out.grow HB1.out)
          go_wp2_with fail
          refine (CL.out _).mono ?_
          rintro e w2 ⟨rfl, rfl⟩
          go_wp2_with fail
          refine (C1.out _ HV1.out).mono ?_
          rintro e w2 ⟨rfl, hb⟩
          have H2 := Go.Lib.hid (HB1.out.trans (hb.mono HB1.out.size))
          clear hb
          go_wp2_with fail
          go_ret2
          exact ⟨by rw [hled]; rfl, H2.out⟩
        · have hlei : ¬ (dp : Int) ≤ (K : Int) := by omega
          have hled : decide (dp ≤ K) = false := decide_eq_false hle
          go_enter Try.func19, Try.ntmps19
          go_wp2_with fail
          refine (CO.out _ HV.out).mono ?_
          rintro e w1 ⟨rfl, hd⟩
          have HB1 : Hid (Below W.heap.size W w1) := Go.Lib.hid hd
          clear hd
          have HV1 := Go.Lib.hid (HV.out.grow HB1.out)
          go_wp2_with fail
          refine (CL.out _).mono ?_
          rintro e w2 ⟨rfl, rfl⟩
          go_wp2_with fail
          refine (C1.out _ HV1.out).mono ?_
          rintro e w2 ⟨rfl, hb⟩
          have H2 := Go.Lib.hid (HB1.out.trans (hb.mono HB1.out.size))
          clear hb
          go_wp2_with fail
          go_ret2
          exact ⟨by rw [hled]; rfl, H2.out⟩
    · have CL := Go.Lib.hid (fun w2 => isLimit_any dd w2 false (decide_eq_false hd17))
      rw [if_neg (fun h1 => hd17 ⟨h1.2.1, h1.2.2⟩)] at h
      cases h
      clear hd17
      go_enter Try.func19, Try.ntmps19
      go_wp2_with fail
      refine (CO.out _ HV.out).mono ?_
      rintro e w1 ⟨rfl, hd⟩
      have HB1 : Hid (Below W.heap.size W w1) := Go.Lib.hid hd
      clear hd
      go_wp2_with fail
      refine (CL.out _).mono ?_
      rintro e w2 ⟨rfl, rfl⟩
      go_wp2_with fail
      go_ret2
      exact ⟨rfl, HB1.out⟩

end Go.Proofs.Ytnhhnffolmgceaa.LimXC
