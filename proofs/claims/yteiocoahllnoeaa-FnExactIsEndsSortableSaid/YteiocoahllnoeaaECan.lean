/-
  Contracts: IsEndsSortable of the model and of the program. Conditions: lists of at most 2^20 numbers.
-/
import Derived.Test.YteiocoahllnoeaaEToP
import Derived.Test.YteiocoahllnoeaaSortedOrd
import Derived.Test.YteiocoahllnoeaaOrdFacts
namespace Go.Proofs.Yteiocoahllnoeaa.ECanC
open Go.RowKit SeesC IntsC ExactC NumC IterC OrdMath OrdFacts WordMath InC OrderC WordC RunC ToC EndM EToC EToPC AtC SortedOrdC

def canAns (zs : List Int) : Bool × Bool := if Ord zs then ((optAns (eRes zs (iota zs.length))).2, true) else (false, false)

theorem ord_iota {n : Nat} (h1 : 1 ≤ n) (h7 : n ≤ 7) : Ord (iota n) := ord_of_perm (List.Perm.refl _) h1 h7

set_option maxRecDepth 100000 in
set_option maxHeartbeats 1000000 in
theorem specECan (zs : List Int) (r b : Bool) (h : canAns zs = (r, b)) (hz : zs.length ≤ 1048576) (W : World) (v : Value) (n : Nat) (hv : Sees W v n (vals zs)) :
    Calls Try.prog 15 #[v] W fun e w' => e = .returned (.tuple #[.bool r, .bool b]) ∧ Below W.heap.size W w' := by
  have hl : zs.length = n := by simpa using hv.1
  have hn : n ≤ 1048576 := by omega
  obtain ⟨q, hq⟩ : ∃ q, isOrd zs = q := ⟨_, rfl⟩
  have CO := Go.Lib.hid (fun W' (hs' : Sees W' v n (vals zs)) => l2Order_any W' v n zs q hs' hn hq)
  have HV := Go.Lib.hid hv
  unfold canAns at h
  obtain ⟨_, ad, cap, rfl, _, _⟩ := hv
  cases q with
  | false =>
    rw [if_neg (by intro h1; unfold isOrd at hq; exact of_decide_eq_false hq h1)] at h
    cases h
    clear hq
    go_enter Try.func15, Try.ntmps15
    go_wp2_with fail
    refine (CO.out _ HV.out).mono ?_
    rintro e w1 ⟨rfl, hd⟩
    have HB1 : Hid (Below W.heap.size W w1) := Go.Lib.hid (hd.below W.heap.size)
    clear hd
    go_wp2_with fail
    go_ret2
    exact ⟨rfl, HB1.out⟩
  | true =>
    have hox : Ord zs := by unfold isOrd at hq; exact of_decide_eq_true hq
    have hn7 : n ≤ 7 := by have := hox.2.1; omega
    have hn1 : 1 ≤ n := by have := hox.1; omega
    rw [if_pos hox, hl] at h
    obtain ⟨h1, h2⟩ := Prod.mk.inj h
    subst h2
    have hoi := ord_iota hn1 hn7
    have CS := Go.Lib.hid (fun W' => l2Sorted_any n W' hn7)
    have CT := Go.Lib.hid (fun W' (h1 : Sees W' (.slice ad n cap) n (vals zs)) (u : Value) (h2 : Sees W' u n (vals (iota n))) => l8To_any zs (iota n) hox (by rw [hl, iota_len]) W' _ n h1 u h2)
    rw [h1] at CT
    clear hq h h1 hoi hox
    go_enter Try.func15, Try.ntmps15
    go_wp2_with fail
    refine (CO.out _ HV.out).mono ?_
    rintro e w1 ⟨rfl, hd⟩
    have HB1 : Hid (Below W.heap.size W w1) := Go.Lib.hid (hd.below W.heap.size)
    clear hd
    go_wp2_with fail
    refine (CS.out _).mono ?_
    rintro e w2 ⟨g, c, rfl, ho, hb⟩
    have H2 := Go.Lib.hid (And.intro ho (HB1.out.trans (hb.mono HB1.out.size)))
    clear ho hb
    go_wp2_with fail
    refine (CT.out _ (HV.out.grow H2.out.2) _ (Sees.owns H2.out.1)).mono ?_
    rintro e w3 ⟨rfl, hb⟩
    have HB3 := Go.Lib.hid (H2.out.2.trans (hb.mono H2.out.2.size))
    clear hb
    go_wp2_with fail
    go_ret2
    exact ⟨rfl, HB3.out⟩

set_option maxRecDepth 100000 in
set_option maxHeartbeats 1000000 in
theorem implECan (zs : List Int) (r b : Bool) (h : canAns zs = (r, b)) (hz : zs.length ≤ 1048576) (W : World) (v : Value) (n : Nat) (hv : Sees W v n (vals zs)) :
    Calls Try.prog 16 #[v] W fun e w' => e = .returned (.tuple #[.bool r, .bool b]) ∧ Below W.heap.size W w' := by
  have hl : zs.length = n := by simpa using hv.1
  have hn : n ≤ 1048576 := by omega
  obtain ⟨q, hq⟩ : ∃ q, isOrd zs = q := ⟨_, rfl⟩
  have CO := Go.Lib.hid (fun W' (hs' : Sees W' v n (vals zs)) => implOrder_any W' v n zs q hs' hn hq)
  have HV := Go.Lib.hid hv
  unfold canAns at h
  obtain ⟨_, ad, cap, rfl, _, _⟩ := hv
  cases q with
  | false =>
    rw [if_neg (by intro h1; unfold isOrd at hq; exact of_decide_eq_false hq h1)] at h
    cases h
    clear hq
    go_enter Try.func16, Try.ntmps16
    go_wp2_with fail
    refine (CO.out _ HV.out).mono ?_
    rintro e w1 ⟨rfl, hd⟩
    have HB1 : Hid (Below W.heap.size W w1) := Go.Lib.hid hd
    clear hd
    go_wp2_with fail
    go_ret2
    exact ⟨rfl, HB1.out⟩
  | true =>
    have hox : Ord zs := by unfold isOrd at hq; exact of_decide_eq_true hq
    have hn7 : n ≤ 7 := by have := hox.2.1; omega
    have hn1 : 1 ≤ n := by have := hox.1; omega
    rw [if_pos hox, hl] at h
    obtain ⟨h1, h2⟩ := Prod.mk.inj h
    subst h2
    have hoi := ord_iota hn1 hn7
    have CS := Go.Lib.hid (fun W' => sortedOrder_any n W' hn7)
    have CT := Go.Lib.hid (fun W' (h1 : Sees W' (.slice ad n cap) n (vals zs)) (u : Value) (h2 : Sees W' u n (vals (iota n))) => implETo zs (iota n) (optAns (eRes zs (iota n))).1 (optAns (eRes zs (iota n))).2 (by unfold endsAns; rw [if_pos ⟨hox, hoi, by rw [hl, iota_len]⟩]) hz (by rw [iota_len]; omega) W' _ n h1 u n h2)
    rw [h1] at CT
    clear hq h h1 hoi hox
    go_enter Try.func16, Try.ntmps16
    go_wp2_with fail
    refine (CO.out _ HV.out).mono ?_
    rintro e w1 ⟨rfl, hd⟩
    have HB1 : Hid (Below W.heap.size W w1) := Go.Lib.hid hd
    clear hd
    go_wp2_with fail
    refine (CS.out _).mono ?_
    rintro e w2 ⟨g, c, rfl, ho, hb⟩
    have H2 := Go.Lib.hid (And.intro ho (HB1.out.trans (hb.mono HB1.out.size)))
    clear ho hb
    go_wp2_with fail
    refine (CT.out _ (HV.out.grow H2.out.2) _ (Sees.owns H2.out.1)).mono ?_
    rintro e w3 ⟨rfl, hb⟩
    have HB3 := Go.Lib.hid (H2.out.2.trans (hb.mono H2.out.2.size))
    clear hb
    go_wp2_with fail
    go_ret2
    exact ⟨rfl, HB3.out⟩

end Go.Proofs.Yteiocoahllnoeaa.ECanC
