/-
  Contracts: RowsOf and TwinRowsOf of the model and of the program. Conditions: lists of at most 2^20 numbers.
-/
import Derived.Test.YtmnggcnipjdimaaRowsS
namespace Go.Proofs.Ytmnggcnipjdimaa.RowsPC
open Go.RowKit SeesC IntsC ExactC OrdMath InC OrderC ListsC ListsEC ListsFC LLC RagMarkC RagResC QueM RowsM RowsIC RowsSC

set_option maxRecDepth 100000 in
set_option maxHeartbeats 2000000 in
theorem specRowsOf (zs : List Int) (xs : List (List Int)) (b : Bool) (h : rowsAns zs = (xs, b)) (hz : zs.length ≤ 1048576) (W : World) (v : Value) (n : Nat) (hv : Sees W v n (vals zs)) :
    Calls Try.prog 40 #[v] W fun e w' => RagTo W e w' xs b := by
  have hl : zs.length = n := by simpa using hv.1
  have hn : n ≤ 1048576 := by omega
  obtain ⟨r, hr⟩ : ∃ r, isOrd zs = r := ⟨_, rfl⟩
  have CO := Go.Lib.hid (fun W' (hs' : Sees W' v n (vals zs)) => l2Order_any W' v n zs r hs' hn hr)
  have HV := Go.Lib.hid hv
  unfold rowsAns at h
  obtain ⟨_, ad, cap, rfl, _, _⟩ := hv
  cases r with
  | false =>
    rw [if_neg (by intro h1; unfold isOrd at hr; exact of_decide_eq_false hr h1)] at h
    cases h
    clear hr
    go_enter Try.func40, Try.ntmps40
    go_wp2_with fail
    refine (CO.out _ HV.out).mono ?_
    rintro e w1 ⟨rfl, hd⟩
    have HB1 : Hid (Below W.heap.size W w1) := Go.Lib.hid (hd.below _)
    clear hd
    go_wp2_with fail
    go_ret2
    exact ragTo_below HB1.out (ragTo_none _ _)
  | true =>
    have hord : Ord zs := by unfold isOrd at hr; exact of_decide_eq_true hr
    rw [if_pos hord] at h
    cases h
    clear hr
    have CQ := Go.Lib.hid (fun W' (hs' : Sees W' (.slice ad n cap) n (vals zs)) => l5Rows_any zs hord W' (.slice ad n cap) n hs')
    rw [hl]
    clear hl hn hz
    obtain ⟨P, hP⟩ : ∃ P, (pq zs n).1 = P := ⟨_, rfl⟩
    obtain ⟨Q, hQ⟩ : ∃ Q, (pq zs n).2 = Q := ⟨_, rfl⟩
    rw [hP, hQ] at CQ
    rw [hP]
    clear hP hQ
    go_enter Try.func40, Try.ntmps40
    go_wp2_with fail
    refine (CO.out _ HV.out).mono ?_
    rintro e w1 ⟨rfl, hd⟩
    have HB1 : Hid (Below W.heap.size W w1) := Go.Lib.hid (hd.below _)
    clear hd
    go_wp2_with fail
    refine (CQ.out _ (HV.out.grow HB1.out)).mono ?_
    rintro e w2 ⟨a2, c2, a3, c3, rfl, hr2, hr3, hb2⟩
    have H2 := Go.Lib.hid (And.intro (Rag.lower hr2 HB1.out.size) (And.intro (Rag.lower hr3 HB1.out.size) (HB1.out.trans (hb2.mono HB1.out.size))))
    clear hr2 hr3 hb2
    go_wp2_with fail
    go_ret2
    exact ⟨_, rfl, H2.out.1, H2.out.2.2⟩

set_option maxRecDepth 100000 in
set_option maxHeartbeats 2000000 in
theorem implRowsOf (zs : List Int) (xs : List (List Int)) (b : Bool) (h : rowsAns zs = (xs, b)) (hz : zs.length ≤ 1048576) (W : World) (v : Value) (n : Nat) (hv : Sees W v n (vals zs)) :
    Calls Try.prog 39 #[v] W fun e w' => RagTo W e w' xs b := by
  have hl : zs.length = n := by simpa using hv.1
  have hn : n ≤ 1048576 := by omega
  obtain ⟨r, hr⟩ : ∃ r, isOrd zs = r := ⟨_, rfl⟩
  have CO := Go.Lib.hid (fun W' (hs' : Sees W' v n (vals zs)) => implOrder_any W' v n zs r hs' hn hr)
  have HV := Go.Lib.hid hv
  unfold rowsAns at h
  obtain ⟨_, ad, cap, rfl, _, _⟩ := hv
  cases r with
  | false =>
    rw [if_neg (by intro h1; unfold isOrd at hr; exact of_decide_eq_false hr h1)] at h
    cases h
    clear hr
    go_enter Try.func39, Try.ntmps39
    go_wp2_with fail
    refine (CO.out _ HV.out).mono ?_
    rintro e w1 ⟨rfl, hd⟩
    have HB1 : Hid (Below W.heap.size W w1) := Go.Lib.hid hd
    clear hd
    go_wp2_with fail
    go_ret2
    exact ragTo_below HB1.out (ragTo_none _ _)
  | true =>
    have hord : Ord zs := by unfold isOrd at hr; exact of_decide_eq_true hr
    rw [if_pos hord] at h
    cases h
    clear hr
    have CQ := Go.Lib.hid (fun W' (hs' : Sees W' (.slice ad n cap) n (vals zs)) => bothRows_any zs hord W' (.slice ad n cap) n hs')
    rw [hl]
    clear hl hn hz
    obtain ⟨P, hP⟩ : ∃ P, (pq zs n).1 = P := ⟨_, rfl⟩
    obtain ⟨Q, hQ⟩ : ∃ Q, (pq zs n).2 = Q := ⟨_, rfl⟩
    rw [hP, hQ] at CQ
    rw [hP]
    clear hP hQ
    go_enter Try.func39, Try.ntmps39
    go_wp2_with fail
    refine (CO.out _ HV.out).mono ?_
    rintro e w1 ⟨rfl, hd⟩
    have HB1 : Hid (Below W.heap.size W w1) := Go.Lib.hid hd
    clear hd
    go_wp2_with fail
    refine (CQ.out _ (HV.out.grow HB1.out)).mono ?_
    rintro e w2 ⟨a2, c2, a3, c3, rfl, hr2, hr3, hb2⟩
    have H2 := Go.Lib.hid (And.intro (Rag.lower hr2 HB1.out.size) (And.intro (Rag.lower hr3 HB1.out.size) (HB1.out.trans (hb2.mono HB1.out.size))))
    clear hr2 hr3 hb2
    go_wp2_with fail
    go_ret2
    exact ⟨_, rfl, H2.out.1, H2.out.2.2⟩

set_option maxRecDepth 100000 in
set_option maxHeartbeats 2000000 in
theorem specTwinRowsOf (zs : List Int) (xs : List (List Int)) (b : Bool) (h : twinAns zs = (xs, b)) (hz : zs.length ≤ 1048576) (W : World) (v : Value) (n : Nat) (hv : Sees W v n (vals zs)) :
    Calls Try.prog 42 #[v] W fun e w' => RagTo W e w' xs b := by
  have hl : zs.length = n := by simpa using hv.1
  have hn : n ≤ 1048576 := by omega
  obtain ⟨r, hr⟩ : ∃ r, isOrd zs = r := ⟨_, rfl⟩
  have CO := Go.Lib.hid (fun W' (hs' : Sees W' v n (vals zs)) => l2Order_any W' v n zs r hs' hn hr)
  have HV := Go.Lib.hid hv
  unfold twinAns at h
  obtain ⟨_, ad, cap, rfl, _, _⟩ := hv
  cases r with
  | false =>
    rw [if_neg (by intro h1; unfold isOrd at hr; exact of_decide_eq_false hr h1)] at h
    cases h
    clear hr
    go_enter Try.func42, Try.ntmps42
    go_wp2_with fail
    refine (CO.out _ HV.out).mono ?_
    rintro e w1 ⟨rfl, hd⟩
    have HB1 : Hid (Below W.heap.size W w1) := Go.Lib.hid (hd.below _)
    clear hd
    go_wp2_with fail
    go_ret2
    exact ragTo_below HB1.out (ragTo_none _ _)
  | true =>
    have hord : Ord zs := by unfold isOrd at hr; exact of_decide_eq_true hr
    rw [if_pos hord] at h
    cases h
    clear hr
    have CQ := Go.Lib.hid (fun W' (hs' : Sees W' (.slice ad n cap) n (vals zs)) => l5Rows_any zs hord W' (.slice ad n cap) n hs')
    rw [hl]
    clear hl hn hz
    obtain ⟨P, hP⟩ : ∃ P, (pq zs n).1 = P := ⟨_, rfl⟩
    obtain ⟨Q, hQ⟩ : ∃ Q, (pq zs n).2 = Q := ⟨_, rfl⟩
    rw [hP, hQ] at CQ
    rw [hQ]
    clear hP hQ
    go_enter Try.func42, Try.ntmps42
    go_wp2_with fail
    refine (CO.out _ HV.out).mono ?_
    rintro e w1 ⟨rfl, hd⟩
    have HB1 : Hid (Below W.heap.size W w1) := Go.Lib.hid (hd.below _)
    clear hd
    go_wp2_with fail
    refine (CQ.out _ (HV.out.grow HB1.out)).mono ?_
    rintro e w2 ⟨a2, c2, a3, c3, rfl, hr2, hr3, hb2⟩
    have H2 := Go.Lib.hid (And.intro (Rag.lower hr2 HB1.out.size) (And.intro (Rag.lower hr3 HB1.out.size) (HB1.out.trans (hb2.mono HB1.out.size))))
    clear hr2 hr3 hb2
    go_wp2_with fail
    go_ret2
    exact ⟨_, rfl, H2.out.2.1, H2.out.2.2⟩

set_option maxRecDepth 100000 in
set_option maxHeartbeats 2000000 in
theorem implTwinRowsOf (zs : List Int) (xs : List (List Int)) (b : Bool) (h : twinAns zs = (xs, b)) (hz : zs.length ≤ 1048576) (W : World) (v : Value) (n : Nat) (hv : Sees W v n (vals zs)) :
    Calls Try.prog 41 #[v] W fun e w' => RagTo W e w' xs b := by
  have hl : zs.length = n := by simpa using hv.1
  have hn : n ≤ 1048576 := by omega
  obtain ⟨r, hr⟩ : ∃ r, isOrd zs = r := ⟨_, rfl⟩
  have CO := Go.Lib.hid (fun W' (hs' : Sees W' v n (vals zs)) => implOrder_any W' v n zs r hs' hn hr)
  have HV := Go.Lib.hid hv
  unfold twinAns at h
  obtain ⟨_, ad, cap, rfl, _, _⟩ := hv
  cases r with
  | false =>
    rw [if_neg (by intro h1; unfold isOrd at hr; exact of_decide_eq_false hr h1)] at h
    cases h
    clear hr
    go_enter Try.func41, Try.ntmps41
    go_wp2_with fail
    refine (CO.out _ HV.out).mono ?_
    rintro e w1 ⟨rfl, hd⟩
    have HB1 : Hid (Below W.heap.size W w1) := Go.Lib.hid hd
    clear hd
    go_wp2_with fail
    go_ret2
    exact ragTo_below HB1.out (ragTo_none _ _)
  | true =>
    have hord : Ord zs := by unfold isOrd at hr; exact of_decide_eq_true hr
    rw [if_pos hord] at h
    cases h
    clear hr
    have CQ := Go.Lib.hid (fun W' (hs' : Sees W' (.slice ad n cap) n (vals zs)) => bothRows_any zs hord W' (.slice ad n cap) n hs')
    rw [hl]
    clear hl hn hz
    obtain ⟨P, hP⟩ : ∃ P, (pq zs n).1 = P := ⟨_, rfl⟩
    obtain ⟨Q, hQ⟩ : ∃ Q, (pq zs n).2 = Q := ⟨_, rfl⟩
    rw [hP, hQ] at CQ
    rw [hQ]
    clear hP hQ
    go_enter Try.func41, Try.ntmps41
    go_wp2_with fail
    refine (CO.out _ HV.out).mono ?_
    rintro e w1 ⟨rfl, hd⟩
    have HB1 : Hid (Below W.heap.size W w1) := Go.Lib.hid hd
    clear hd
    go_wp2_with fail
    refine (CQ.out _ (HV.out.grow HB1.out)).mono ?_
    rintro e w2 ⟨a2, c2, a3, c3, rfl, hr2, hr3, hb2⟩
    have H2 := Go.Lib.hid (And.intro (Rag.lower hr2 HB1.out.size) (And.intro (Rag.lower hr3 HB1.out.size) (HB1.out.trans (hb2.mono HB1.out.size))))
    clear hr2 hr3 hb2
    go_wp2_with fail
    go_ret2
    exact ⟨_, rfl, H2.out.2.1, H2.out.2.2⟩

end Go.Proofs.Ytmnggcnipjdimaa.RowsPC
