/-
  Contracts: SortingWord and IsSortable of the model and of the program. Conditions: lists of at most 2^20 numbers.
-/
import Derived.Test.YtddenfnoajdjiaaWordTo
import Derived.Test.YtddenfnoajdjiaaAt
import Derived.Test.YtddenfnoajdjiaaSortedOrd
import Derived.Test.YtddenfnoajdjiaaStackM
namespace Go.Proofs.Ytddenfnoajdjiaa.Sort4C
open Go.RowKit SeesC IntsC ExactC NumC IterC OrdMath WordMath InC OrderC WordC RunC ToC ToImplC WordToC AtC SortedOrdC StackM

def sortAns (zs : List Int) : ByteArray × Bool := if Ord zs then optAns (toRes zs (iota zs.length)) else (ByteArray.empty, false)
def sortableAns (zs : List Int) : Bool × Bool := if Ord zs then ((optAns (toRes zs (iota zs.length))).2, true) else (false, false)

set_option maxHeartbeats 1000000 in
theorem l4Sortable_any (zs : List Int) (hord : Ord zs) (W : World) (v : Value) (n : Nat) (hv : Sees W v n (vals zs)) :
    Calls Try.prog 77 #[v] W fun e w' => e = .returned (.tuple #[.string (optAns (toRes zs (iota zs.length))).1, .bool (optAns (toRes zs (iota zs.length))).2]) ∧ Below W.heap.size W w' := by
  have hl : zs.length = n := by simpa using hv.1
  have hn7 : n ≤ 7 := by have := hord.2.1; omega
  have HV := Go.Lib.hid hv
  have CS := Go.Lib.hid (fun W' => l2Sorted_any n W' hn7)
  rw [hl]
  have CT := Go.Lib.hid (fun (W' : World) (u : Value) (h1 : Sees W' v n (vals zs)) (h2 : Sees W' u n (vals (iota n))) => l2To_any zs (iota n) hord (by rw [iota_len]; exact hl) W' v n h1 u h2)
  obtain ⟨⟨rw, rb⟩, hR⟩ : ∃ R, optAns (toRes zs (iota n)) = R := ⟨_, rfl⟩
  rw [hR] at CT ⊢
  clear hR
  obtain ⟨_, ad, cap, rfl, _, _⟩ := hv
  go_enter Try.func77, Try.ntmps77
  go_wp2_with fail
  refine (CS.out _).mono ?_
  rintro e w1 ⟨g, c, rfl, ho, hb⟩
  have H1 := Go.Lib.hid (And.intro ho hb)
  clear ho hb
  go_wp2_with fail
  refine (CT.out _ _ (HV.out.grow H1.out.2) (Sees.owns H1.out.1)).mono ?_
  rintro e w2 ⟨rfl, hb⟩
  have H2 := Go.Lib.hid (H1.out.2.trans (hb.mono H1.out.2.size))
  clear hb
  go_wp2_with fail
  go_ret2
  exact ⟨rfl, H2.out⟩

set_option maxHeartbeats 1000000 in
theorem specSorting (zs : List Int) (r' : ByteArray) (b : Bool) (h : sortAns zs = (r', b)) (hz : zs.length ≤ 1048576) (W : World) (v : Value) (n : Nat) (hv : Sees W v n (vals zs)) :
    Calls Try.prog 21 #[v] W fun e w' => e = .returned (.tuple #[.string r', .bool b]) ∧ Below W.heap.size W w' := by
  have hl : zs.length = n := by simpa using hv.1
  have hn : n ≤ 1048576 := by omega
  obtain ⟨r, hr⟩ : ∃ r, isOrd zs = r := ⟨_, rfl⟩
  have CO := Go.Lib.hid (fun W' (hs' : Sees W' v n (vals zs)) => l2Order_any W' v n zs r hs' hn hr)
  have HV := Go.Lib.hid hv
  unfold sortAns at h
  obtain ⟨_, ad, cap, rfl, _, _⟩ := hv
  cases r with
  | false =>
    rw [if_neg (by intro h1; unfold isOrd at hr; exact of_decide_eq_false hr h1)] at h
    cases h
    clear hr
    go_enter Try.func21, Try.ntmps21
    go_wp2_with fail
    refine (CO.out _ HV.out).mono ?_
    rintro e w1 ⟨rfl, hd⟩
    have HB1 : Hid (Below W.heap.size W w1) := Go.Lib.hid (hd.below W.heap.size)
    clear hd
    go_wp2_with fail
    go_ret2
    exact ⟨rfl, HB1.out⟩
  | true =>
    have hord : Ord zs := by unfold isOrd at hr; exact of_decide_eq_true hr
    have hn7 : n ≤ 7 := by have := hord.2.1; omega
    have hn1 : 1 ≤ n := by have := hord.1; omega
    rw [if_pos hord] at h
    clear hr
    have HA : Hid ((optAns (toRes zs (iota zs.length))).1 = r' ∧ (optAns (toRes zs (iota zs.length))).2 = b) := Go.Lib.hid (by rw [h]; exact ⟨rfl, rfl⟩)
    clear h
    have CT := Go.Lib.hid (fun W' (hs' : Sees W' (.slice ad n cap) n (vals zs)) => l4Sortable_any zs hord W' _ n hs')
    rw [HA.out.1, HA.out.2] at CT
    go_enter Try.func21, Try.ntmps21
    go_wp2_with fail
    refine (CO.out _ HV.out).mono ?_
    rintro e w1 ⟨rfl, hd⟩
    have HB1 : Hid (Below W.heap.size W w1) := Go.Lib.hid (hd.below W.heap.size)
    clear hd
    have HV1 := Go.Lib.hid (HV.out.grow HB1.out)
    go_wp2_with fail
    refine (CT.out _ HV1.out).mono ?_
    rintro e w2 ⟨rfl, hb⟩
    have H2 := Go.Lib.hid (HB1.out.trans (hb.mono HB1.out.size))
    clear hb
    go_wp2_with fail
    go_ret2
    exact ⟨rfl, H2.out⟩

set_option maxHeartbeats 1000000 in
theorem implSorting (zs : List Int) (r' : ByteArray) (b : Bool) (h : sortAns zs = (r', b)) (hz : zs.length ≤ 1048576) (W : World) (v : Value) (n : Nat) (hv : Sees W v n (vals zs)) :
    Calls Try.prog 20 #[v] W fun e w' => e = .returned (.tuple #[.string r', .bool b]) ∧ Below W.heap.size W w' := by
  have hl : zs.length = n := by simpa using hv.1
  have hn : n ≤ 1048576 := by omega
  obtain ⟨r, hr⟩ : ∃ r, isOrd zs = r := ⟨_, rfl⟩
  have CO := Go.Lib.hid (fun W' (hs' : Sees W' v n (vals zs)) => implOrder_any W' v n zs r hs' hn hr)
  have HV := Go.Lib.hid hv
  unfold sortAns at h
  obtain ⟨_, ad, cap, rfl, _, _⟩ := hv
  cases r with
  | false =>
    rw [if_neg (by intro h1; unfold isOrd at hr; exact of_decide_eq_false hr h1)] at h
    cases h
    clear hr
    go_enter Try.func20, Try.ntmps20
    go_wp2_with fail
    refine (CO.out _ HV.out).mono ?_
    rintro e w1 ⟨rfl, hd⟩
    have HB1 : Hid (Below W.heap.size W w1) := Go.Lib.hid hd
    clear hd
    go_wp2_with fail
    go_ret2
    exact ⟨rfl, HB1.out⟩
  | true =>
    have hord : Ord zs := by unfold isOrd at hr; exact of_decide_eq_true hr
    have hn7 : n ≤ 7 := by have := hord.2.1; omega
    have hn1 : 1 ≤ n := by have := hord.1; omega
    rw [if_pos hord] at h
    clear hr
    have HA : Hid ((optAns (toRes zs (iota zs.length))).1 = r' ∧ (optAns (toRes zs (iota zs.length))).2 = b) := Go.Lib.hid (by rw [h]; exact ⟨rfl, rfl⟩)
    clear h
    have CS := Go.Lib.hid (fun W' => sortedOrder_any n W' hn7)
    have CT := Go.Lib.hid (fun (W' : World) (u : Value) (h1 : Sees W' (.slice ad n cap) n (vals zs)) (h2 : Sees W' u n (vals (iota n))) => implTo zs (iota n) r' b (by unfold toAns; rw [if_pos ⟨hord, ord_iota hn1 hn7, by rw [iota_len]; exact hl⟩, ← HA.out.1, ← HA.out.2, hl]) hz (by rw [iota_len]; omega) W' _ n h1 u n h2)
    go_enter Try.func20, Try.ntmps20
    go_wp2_with fail
    refine (CO.out _ HV.out).mono ?_
    rintro e w1 ⟨rfl, hd⟩
    have HB1 : Hid (Below W.heap.size W w1) := Go.Lib.hid hd
    clear hd
    have HV1 := Go.Lib.hid (HV.out.grow HB1.out)
    go_wp2_with fail
    refine (CS.out _).mono ?_
    rintro e w2 ⟨g, c, rfl, ho, hb⟩
    have H2 := Go.Lib.hid (And.intro ho (HB1.out.trans (hb.mono HB1.out.size)))
    clear ho hb
    go_wp2_with fail
    refine (CT.out _ _ (HV.out.grow H2.out.2) (Sees.owns H2.out.1)).mono ?_
    rintro e w3 ⟨rfl, hb⟩
    have H3 := Go.Lib.hid (H2.out.2.trans (hb.mono H2.out.2.size))
    clear hb
    go_wp2_with fail
    go_ret2
    exact ⟨rfl, H3.out⟩

set_option maxHeartbeats 1000000 in
theorem specSortable (zs : List Int) (r' b : Bool) (h : sortableAns zs = (r', b)) (hz : zs.length ≤ 1048576) (W : World) (v : Value) (n : Nat) (hv : Sees W v n (vals zs)) :
    Calls Try.prog 23 #[v] W fun e w' => e = .returned (.tuple #[.bool r', .bool b]) ∧ Below W.heap.size W w' := by
  have hl : zs.length = n := by simpa using hv.1
  have hn : n ≤ 1048576 := by omega
  obtain ⟨r, hr⟩ : ∃ r, isOrd zs = r := ⟨_, rfl⟩
  have CO := Go.Lib.hid (fun W' (hs' : Sees W' v n (vals zs)) => l2Order_any W' v n zs r hs' hn hr)
  have HV := Go.Lib.hid hv
  unfold sortableAns at h
  obtain ⟨_, ad, cap, rfl, _, _⟩ := hv
  cases r with
  | false =>
    rw [if_neg (by intro h1; unfold isOrd at hr; exact of_decide_eq_false hr h1)] at h
    cases h
    clear hr
    go_enter Try.func23, Try.ntmps23
    go_wp2_with fail
    refine (CO.out _ HV.out).mono ?_
    rintro e w1 ⟨rfl, hd⟩
    have HB1 : Hid (Below W.heap.size W w1) := Go.Lib.hid (hd.below W.heap.size)
    clear hd
    go_wp2_with fail
    go_ret2
    exact ⟨rfl, HB1.out⟩
  | true =>
    have hord : Ord zs := by unfold isOrd at hr; exact of_decide_eq_true hr
    have hn7 : n ≤ 7 := by have := hord.2.1; omega
    have hn1 : 1 ≤ n := by have := hord.1; omega
    rw [if_pos hord] at h
    clear hr
    obtain ⟨rfl, rfl⟩ : (optAns (toRes zs (iota zs.length))).2 = r' ∧ true = b := by cases h; exact ⟨rfl, rfl⟩
    clear h
    obtain ⟨⟨rw, rb⟩, hR⟩ : ∃ R, optAns (toRes zs (iota zs.length)) = R := ⟨_, rfl⟩
    have CT := Go.Lib.hid (fun W' (hs' : Sees W' (.slice ad n cap) n (vals zs)) => l4Sortable_any zs hord W' _ n hs')
    rw [hR] at CT
    rw [hR]
    clear hR
    go_enter Try.func23, Try.ntmps23
    go_wp2_with fail
    refine (CO.out _ HV.out).mono ?_
    rintro e w1 ⟨rfl, hd⟩
    have HB1 : Hid (Below W.heap.size W w1) := Go.Lib.hid (hd.below W.heap.size)
    clear hd
    have HV1 := Go.Lib.hid (HV.out.grow HB1.out)
    go_wp2_with fail
    refine (CT.out _ HV1.out).mono ?_
    rintro e w2 ⟨rfl, hb⟩
    have H2 := Go.Lib.hid (HB1.out.trans (hb.mono HB1.out.size))
    clear hb
    go_wp2_with fail
    go_ret2
    exact ⟨rfl, H2.out⟩

set_option maxHeartbeats 1000000 in
theorem implSortable (zs : List Int) (r' b : Bool) (h : sortableAns zs = (r', b)) (hz : zs.length ≤ 1048576) (W : World) (v : Value) (n : Nat) (hv : Sees W v n (vals zs)) :
    Calls Try.prog 22 #[v] W fun e w' => e = .returned (.tuple #[.bool r', .bool b]) ∧ Below W.heap.size W w' := by
  have hl : zs.length = n := by simpa using hv.1
  have hn : n ≤ 1048576 := by omega
  obtain ⟨r, hr⟩ : ∃ r, isOrd zs = r := ⟨_, rfl⟩
  have CO := Go.Lib.hid (fun W' (hs' : Sees W' v n (vals zs)) => implOrder_any W' v n zs r hs' hn hr)
  have HV := Go.Lib.hid hv
  unfold sortableAns at h
  obtain ⟨_, ad, cap, rfl, _, _⟩ := hv
  cases r with
  | false =>
    rw [if_neg (by intro h1; unfold isOrd at hr; exact of_decide_eq_false hr h1)] at h
    cases h
    clear hr
    go_enter Try.func22, Try.ntmps22
    go_wp2_with fail
    refine (CO.out _ HV.out).mono ?_
    rintro e w1 ⟨rfl, hd⟩
    have HB1 : Hid (Below W.heap.size W w1) := Go.Lib.hid hd
    clear hd
    go_wp2_with fail
    go_ret2
    exact ⟨rfl, HB1.out⟩
  | true =>
    have hord : Ord zs := by unfold isOrd at hr; exact of_decide_eq_true hr
    have hn7 : n ≤ 7 := by have := hord.2.1; omega
    have hn1 : 1 ≤ n := by have := hord.1; omega
    rw [if_pos hord] at h
    clear hr
    obtain ⟨rfl, rfl⟩ : (optAns (toRes zs (iota zs.length))).2 = r' ∧ true = b := by cases h; exact ⟨rfl, rfl⟩
    clear h
    obtain ⟨⟨rw, rb⟩, hR⟩ : ∃ R, optAns (toRes zs (iota zs.length)) = R := ⟨_, rfl⟩
    have CT := Go.Lib.hid (fun W' (hs' : Sees W' (.slice ad n cap) n (vals zs)) => implSorting zs rw rb (by unfold sortAns; rw [if_pos hord, hR]) hz W' _ n hs')
    rw [hR]
    clear hR
    go_enter Try.func22, Try.ntmps22
    go_wp2_with fail
    refine (CO.out _ HV.out).mono ?_
    rintro e w1 ⟨rfl, hd⟩
    have HB1 : Hid (Below W.heap.size W w1) := Go.Lib.hid hd
    clear hd
    have HV1 := Go.Lib.hid (HV.out.grow HB1.out)
    go_wp2_with fail
    refine (CT.out _ HV1.out).mono ?_
    rintro e w2 ⟨rfl, hb⟩
    have H2 := Go.Lib.hid (HB1.out.trans (hb.mono HB1.out.size))
    clear hb
    go_wp2_with fail
    go_ret2
    exact ⟨rfl, H2.out⟩

end Go.Proofs.Ytddenfnoajdjiaa.Sort4C
