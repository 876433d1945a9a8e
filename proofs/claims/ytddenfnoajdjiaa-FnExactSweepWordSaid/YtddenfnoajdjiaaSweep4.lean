/-
  Contracts: SweepOrder and SweepWord of the model and of the program. Conditions: lists of at most 2^20 numbers.
-/
import Derived.Test.YtddenfnoajdjiaaWordTo
import Derived.Test.YtddenfnoajdjiaaWordFacts
import Derived.Test.YtddenfnoajdjiaaSweepW
import Derived.Test.YtddenfnoajdjiaaSweepI
namespace Go.Proofs.Ytddenfnoajdjiaa.Sweep4C
open Go.RowKit SeesC IntsC ExactC NumC IterC OrdMath WordMath InC OrderC WordC RunC ToC ToImplC WordToC AtC EndsM SweepM StackM SweepWC SweepIC WordFacts

set_option maxHeartbeats 1000000 in
theorem specSweep (zs : List Int) (xs : List Int) (b : Bool) (h : sweepAns zs = (xs, b)) (hz : zs.length ≤ 1048576) (W : World) (v : Value) (n : Nat) (hv : Sees W v n (vals zs)) :
    Calls Try.prog 25 #[v] W fun e w' => ListTo W e w' xs b := by
  have hl : zs.length = n := by simpa using hv.1
  have hn : n ≤ 1048576 := by omega
  obtain ⟨r, hr⟩ : ∃ r, isOrd zs = r := ⟨_, rfl⟩
  have CO := Go.Lib.hid (fun W' (hs' : Sees W' v n (vals zs)) => l2Order_any W' v n zs r hs' hn hr)
  have HV := Go.Lib.hid hv
  unfold sweepAns at h
  obtain ⟨_, ad, cap, rfl, _, _⟩ := hv
  cases r with
  | false =>
    rw [if_neg (by intro h1; unfold isOrd at hr; exact of_decide_eq_false hr h1)] at h
    cases h
    clear hr
    go_enter Try.func25, Try.ntmps25
    go_wp2_with fail
    refine (CO.out _ HV.out).mono ?_
    rintro e w1 ⟨rfl, hd⟩
    have HB1 : Hid (Below W.heap.size W w1) := Go.Lib.hid (hd.below W.heap.size)
    clear hd
    go_wp2_with fail
    go_ret2
    exact listTo_below HB1.out (listTo_none _ _)
  | true =>
    have hord : Ord zs := by unfold isOrd at hr; exact of_decide_eq_true hr
    have hn7 : n ≤ 7 := by have := hord.2.1; omega
    have hn1 : 1 ≤ n := by have := hord.1; omega
    rw [if_pos hord] at h
    cases h
    clear hr
    have C1 := Go.Lib.hid (fun W' (hs' : Sees W' (.slice ad n cap) n (vals zs)) => l4Sweep_any zs hord W' _ n hs')
    go_enter Try.func25, Try.ntmps25
    go_wp2_with fail
    refine (CO.out _ HV.out).mono ?_
    rintro e w1 ⟨rfl, hd⟩
    have HB1 : Hid (Below W.heap.size W w1) := Go.Lib.hid (hd.below W.heap.size)
    clear hd
    have HV1 := Go.Lib.hid (HV.out.grow HB1.out)
    go_wp2_with fail
    refine (C1.out _ HV1.out).mono ?_
    rintro e w2 ⟨u, rfl, ho, hb⟩
    have H2 := Go.Lib.hid (And.intro (own_lower ho HB1.out.size) (HB1.out.trans (hb.mono HB1.out.size)))
    clear ho hb
    go_wp2_with fail
    go_ret2
    exact ⟨_, rfl, H2.out.1, H2.out.2⟩

set_option maxHeartbeats 1000000 in
theorem implSweep (zs : List Int) (xs : List Int) (b : Bool) (h : sweepAns zs = (xs, b)) (hz : zs.length ≤ 1048576) (W : World) (v : Value) (n : Nat) (hv : Sees W v n (vals zs)) :
    Calls Try.prog 24 #[v] W fun e w' => ListTo W e w' xs b := by
  have hl : zs.length = n := by simpa using hv.1
  have hn : n ≤ 1048576 := by omega
  obtain ⟨r, hr⟩ : ∃ r, isOrd zs = r := ⟨_, rfl⟩
  have CO := Go.Lib.hid (fun W' (hs' : Sees W' v n (vals zs)) => implOrder_any W' v n zs r hs' hn hr)
  have HV := Go.Lib.hid hv
  unfold sweepAns at h
  obtain ⟨_, ad, cap, rfl, _, _⟩ := hv
  cases r with
  | false =>
    rw [if_neg (by intro h1; unfold isOrd at hr; exact of_decide_eq_false hr h1)] at h
    cases h
    clear hr
    go_enter Try.func24, Try.ntmps24
    go_wp2_with fail
    refine (CO.out _ HV.out).mono ?_
    rintro e w1 ⟨rfl, hd⟩
    have HB1 : Hid (Below W.heap.size W w1) := Go.Lib.hid hd
    clear hd
    go_wp2_with fail
    go_ret2
    exact listTo_below HB1.out (listTo_none _ _)
  | true =>
    have hord : Ord zs := by unfold isOrd at hr; exact of_decide_eq_true hr
    have hn7 : n ≤ 7 := by have := hord.2.1; omega
    have hn1 : 1 ≤ n := by have := hord.1; omega
    rw [if_pos hord] at h
    cases h
    clear hr
    have C1 := Go.Lib.hid (fun W' (hs' : Sees W' (.slice ad n cap) n (vals zs)) => sweepOf_any zs hord W' _ n hs')
    go_enter Try.func24, Try.ntmps24
    go_wp2_with fail
    refine (CO.out _ HV.out).mono ?_
    rintro e w1 ⟨rfl, hd⟩
    have HB1 : Hid (Below W.heap.size W w1) := Go.Lib.hid hd
    clear hd
    have HV1 := Go.Lib.hid (HV.out.grow HB1.out)
    go_wp2_with fail
    refine (C1.out _ HV1.out).mono ?_
    rintro e w2 ⟨u, rfl, ho, hb⟩
    have H2 := Go.Lib.hid (And.intro (own_lower ho HB1.out.size) (HB1.out.trans (hb.mono HB1.out.size)))
    clear ho hb
    go_wp2_with fail
    go_ret2
    exact ⟨_, rfl, H2.out.1, H2.out.2⟩

set_option maxHeartbeats 1000000 in
theorem specSweepW (zs : List Int) (r' : ByteArray) (b : Bool) (h : swWordAns zs = (r', b)) (hz : zs.length ≤ 1048576) (W : World) (v : Value) (n : Nat) (hv : Sees W v n (vals zs)) :
    Calls Try.prog 28 #[v] W fun e w' => e = .returned (.tuple #[.string r', .bool b]) ∧ Below W.heap.size W w' := by
  have hl : zs.length = n := by simpa using hv.1
  have hn : n ≤ 1048576 := by omega
  obtain ⟨r, hr⟩ : ∃ r, isOrd zs = r := ⟨_, rfl⟩
  have CO := Go.Lib.hid (fun W' (hs' : Sees W' v n (vals zs)) => l2Order_any W' v n zs r hs' hn hr)
  have HV := Go.Lib.hid hv
  unfold swWordAns at h
  obtain ⟨_, ad, cap, rfl, _, _⟩ := hv
  cases r with
  | false =>
    rw [if_neg (by intro h1; unfold isOrd at hr; exact of_decide_eq_false hr h1)] at h
    cases h
    clear hr
    go_enter Try.func28, Try.ntmps28
    go_wp2_with fail
    refine (CO.out _ HV.out).mono ?_
    rintro e w1 ⟨rfl, hd⟩
    have HB1 : Hid (Below W.heap.size W w1) := Go.Lib.hid (hd.below W.heap.size)
    clear hd
    go_wp2_with fail
    go_ret2
    exact ⟨rfl, HB1.out⟩
  | true =>
    have hord : Ord zs := by unfold isOrd at hr; exact of_decide_eq_true hr
    have hn7 : n ≤ 7 := by have := hord.2.1; omega
    have hn1 : 1 ≤ n := by have := hord.1; omega
    rw [if_pos hord] at h
    cases h
    clear hr
    obtain ⟨R, hR⟩ : ∃ R, txt (swWord zs) = R := ⟨_, rfl⟩
    have C1 := Go.Lib.hid (fun W' (hs' : Sees W' (.slice ad n cap) n (vals zs)) => l4SweepWord_any zs hord W' _ n hs')
    rw [hR] at C1
    rw [hR]
    clear hR
    go_enter Try.func28, Try.ntmps28
    go_wp2_with fail
    refine (CO.out _ HV.out).mono ?_
    rintro e w1 ⟨rfl, hd⟩
    have HB1 : Hid (Below W.heap.size W w1) := Go.Lib.hid (hd.below W.heap.size)
    clear hd
    have HV1 := Go.Lib.hid (HV.out.grow HB1.out)
    go_wp2_with fail
    refine (C1.out _ HV1.out).mono ?_
    rintro e w2 ⟨rfl, hb⟩
    have H2 := Go.Lib.hid (HB1.out.trans (hb.mono HB1.out.size))
    clear hb
    go_wp2_with fail
    go_ret2
    exact ⟨rfl, H2.out⟩

set_option maxHeartbeats 1000000 in
theorem implSweepW (zs : List Int) (r' : ByteArray) (b : Bool) (h : swWordAns zs = (r', b)) (hz : zs.length ≤ 1048576) (W : World) (v : Value) (n : Nat) (hv : Sees W v n (vals zs)) :
    Calls Try.prog 27 #[v] W fun e w' => e = .returned (.tuple #[.string r', .bool b]) ∧ Below W.heap.size W w' := by
  have hl : zs.length = n := by simpa using hv.1
  have hn : n ≤ 1048576 := by omega
  obtain ⟨r, hr⟩ : ∃ r, isOrd zs = r := ⟨_, rfl⟩
  have CO := Go.Lib.hid (fun W' (hs' : Sees W' v n (vals zs)) => implOrder_any W' v n zs r hs' hn hr)
  have HV := Go.Lib.hid hv
  unfold swWordAns at h
  obtain ⟨_, ad, cap, rfl, _, _⟩ := hv
  cases r with
  | false =>
    rw [if_neg (by intro h1; unfold isOrd at hr; exact of_decide_eq_false hr h1)] at h
    cases h
    clear hr
    go_enter Try.func27, Try.ntmps27
    go_wp2_with fail
    refine (CO.out _ HV.out).mono ?_
    rintro e w1 ⟨rfl, hd⟩
    have HB1 : Hid (Below W.heap.size W w1) := Go.Lib.hid hd
    clear hd
    go_wp2_with fail
    go_ret2
    exact ⟨rfl, HB1.out⟩
  | true =>
    have hord : Ord zs := by unfold isOrd at hr; exact of_decide_eq_true hr
    have hn7 : n ≤ 7 := by have := hord.2.1; omega
    have hn1 : 1 ≤ n := by have := hord.1; omega
    rw [if_pos hord] at h
    cases h
    clear hr
    obtain ⟨R, hR⟩ : ∃ R, txt (swWord zs) = R := ⟨_, rfl⟩
    have C1 := Go.Lib.hid (fun W' (hs' : Sees W' (.slice ad n cap) n (vals zs)) => sweepOf_any zs hord W' _ n hs')
    have hto : toAns zs (sweepL zs) = (R, true) := by
      have hsw := sweep_word hord.1 hord.2.1
      have h1 := to_run hord.2.2.2 hsw.2.1 hsw.1
      rw [hsw.2.2] at h1
      unfold toAns
      rw [if_pos ⟨hord, ord_sweep hord, (sweep_len zs).symm⟩, h1]
      show (txt (txt (swWord zs)).data.toList, true) = (R, true)
      rw [EndsM.txt_data, hR]
    have C2 := Go.Lib.hid (fun (W' : World) (h1 : Sees W' (.slice ad n cap) n (vals zs)) (u : Value) (h2 : Sees W' u (sweepL zs).length (vals (sweepL zs))) => implTo zs (sweepL zs) R true hto hz (by rw [sweep_len]; exact hz) W' _ n h1 u _ h2)
    rw [hR]
    clear hR hto
    go_enter Try.func27, Try.ntmps27
    go_wp2_with fail
    refine (CO.out _ HV.out).mono ?_
    rintro e w1 ⟨rfl, hd⟩
    have HB1 : Hid (Below W.heap.size W w1) := Go.Lib.hid hd
    clear hd
    have HV1 := Go.Lib.hid (HV.out.grow HB1.out)
    go_wp2_with fail
    refine (C1.out _ HV1.out).mono ?_
    rintro e w2 ⟨u, rfl, ho, hb⟩
    have H2 := Go.Lib.hid (And.intro ho (HB1.out.trans (hb.mono HB1.out.size)))
    clear ho hb
    go_wp2_with fail
    refine (C2.out _ (HV.out.grow H2.out.2) _ (Sees.owns H2.out.1)).mono ?_
    rintro e w3 ⟨rfl, hb⟩
    have H3 := Go.Lib.hid (H2.out.2.trans (hb.mono H2.out.2.size))
    clear hb
    go_wp2_with fail
    go_ret2
    exact ⟨rfl, H3.out⟩

end Go.Proofs.Ytddenfnoajdjiaa.Sweep4C
