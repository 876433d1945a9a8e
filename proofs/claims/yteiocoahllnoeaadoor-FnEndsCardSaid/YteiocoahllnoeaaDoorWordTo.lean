/-
  Contracts: WordTo of the model and of the program. Conditions: lists of at most 2^20 numbers.
-/
import Derived.Test.YteiocoahllnoeaaDoorToImpl
namespace Go.Proofs.YteiocoahllnoeaaDoor.WordToC
open Go.RowKit SeesC IntsC ExactC NumC IterC OrdMath WordMath InC OrderC WordC RunC ToC ToImplC

set_option maxRecDepth 100000 in
set_option maxHeartbeats 1000000 in
theorem implTo (xs ys : List Int) (r' : ByteArray) (b : Bool) (h : toAns xs ys = (r', b)) (hx : xs.length ≤ 1048576) (hy : ys.length ≤ 1048576) (W : World) (v : Value) (n : Nat) (hv : Sees W v n (vals xs)) (u : Value) (m : Nat) (hu : Sees W u m (vals ys)) :
    Calls Tryd.prog 28 #[v, u] W fun e w' => e = .returned (.tuple #[.string r', .bool b]) ∧ Below W.heap.size W w' := by
  have hn : n ≤ 1048576 := by have := hv.1; simp at this; omega
  have hm : m ≤ 1048576 := by have := hu.1; simp at this; omega
  obtain ⟨r, hr⟩ : ∃ r, isOrd xs = r := ⟨_, rfl⟩
  obtain ⟨s, hs⟩ : ∃ s, isOrd ys = s := ⟨_, rfl⟩
  have CO := Go.Lib.hid (fun W' (hs' : Sees W' v n (vals xs)) => implOrder_any W' v n xs r hs' hn hr)
  have CP := Go.Lib.hid (fun W' (hs' : Sees W' u m (vals ys)) => implOrder_any W' u m ys s hs' hm hs)
  have HV := Go.Lib.hid hv
  have HU := Go.Lib.hid hu
  have hl : xs.length = n := by simpa using hv.1
  have hl' : ys.length = m := by simpa using hu.1
  unfold toAns at h
  obtain ⟨_, ad, cap, rfl, _, _⟩ := hv
  obtain ⟨_, ad', cap', rfl, _, _⟩ := hu
  cases r with
  | false =>
    rw [if_neg (by rintro ⟨h1, _⟩; unfold isOrd at hr; exact of_decide_eq_false hr h1)] at h
    cases h
    clear hr hs
    go_enter Tryd.func28, Tryd.ntmps28
    go_wp2_with fail
    refine (CO.out _ HV.out).mono ?_
    rintro e w1 ⟨rfl, hd⟩
    have HB1 : Hid (Below W.heap.size W w1) := Go.Lib.hid hd
    clear hd
    go_wp2_with fail
    go_ret2
    exact ⟨rfl, HB1.out⟩
  | true =>
    cases s with
    | false =>
      rw [if_neg (by rintro ⟨_, h1, _⟩; unfold isOrd at hs; exact of_decide_eq_false hs h1)] at h
      cases h
      clear hr hs
      go_enter Tryd.func28, Tryd.ntmps28
      go_wp2_with fail
      refine (CO.out _ HV.out).mono ?_
      rintro e w1 ⟨rfl, hd⟩
      have HB1 : Hid (Below W.heap.size W w1) := Go.Lib.hid hd
      clear hd
      go_wp2_with fail
      refine (CP.out _ (HU.out.grow HB1.out)).mono ?_
      rintro e w2 ⟨rfl, hd⟩
      have HB2 : Hid (Below W.heap.size W w2) := Go.Lib.hid (HB1.out.trans (hd.mono HB1.out.size))
      clear hd
      go_wp2_with fail
      go_ret2
      exact ⟨rfl, HB2.out⟩
    | true =>
      have hox : Ord xs := by unfold isOrd at hr; exact of_decide_eq_true hr
      have hoy : Ord ys := by unfold isOrd at hs; exact of_decide_eq_true hs
      clear hr hs
      by_cases hnm : n = m
      · subst hnm
        rw [if_pos ⟨hox, hoy, by omega⟩] at h
        have HA1 : Hid ((optAns (toRes xs ys)).1 = r' ∧ (optAns (toRes xs ys)).2 = b) := Go.Lib.hid (by rw [h]; exact ⟨rfl, rfl⟩)
        have CT := implTo_main xs ys hox hoy (by omega) W _ n HV.out _ HU.out
        rw [HA1.out.1, HA1.out.2] at CT
        exact CT
      · rw [if_neg (by rintro ⟨_, _, h1⟩; omega)] at h
        cases h
        have hne : ((n : Int) == (m : Int)) = false := by rw [beq_eq_false_iff_ne]; omega
        have hne2 : (n : Int) ≠ (m : Int) := by omega
        go_enter Tryd.func28, Tryd.ntmps28
        go_wp2_with fail
        refine (CO.out _ HV.out).mono ?_
        rintro e w1 ⟨rfl, hd⟩
        have HB1 : Hid (Below W.heap.size W w1) := Go.Lib.hid hd
        clear hd
        go_wp2_with fail
        refine (CP.out _ (HU.out.grow HB1.out)).mono ?_
        rintro e w2 ⟨rfl, hd⟩
        have HB2 : Hid (Below W.heap.size W w2) := Go.Lib.hid (HB1.out.trans (hd.mono HB1.out.size))
        clear hd
        go_wp2_with fail
        go_ret2
        exact ⟨rfl, HB2.out⟩

end Go.Proofs.YteiocoahllnoeaaDoor.WordToC
