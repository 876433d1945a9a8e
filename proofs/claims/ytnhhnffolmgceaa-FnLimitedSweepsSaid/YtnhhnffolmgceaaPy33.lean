/-
  Contracts: SweepOrder and SweepWord of the model and of the program. Conditions: lists of at most 2^20 numbers.
-/
import Derived.Test.YtnhhnffolmgceaaPy22
import Derived.Test.YtnhhnffolmgceaaPy28
import Derived.Test.YtnhhnffolmgceaaPy27

namespace Go.Proofs.Ytnhhnffolmgceaa.Sweep4C
open Go.RowKit SeesC IntsC ExactC NumC IterC OrdMath WordMath InC OrderC WordC RunC ToC ToImplC WordToC AtC EndsM SweepM StackM SweepWC SweepIC WordFacts

set_option maxHeartbeats 1000000 in
theorem implSweep (zs : List Int) (xs : List Int) (b : Bool) (h : sweepAns zs = (xs, b)) (hz : zs.length ≤ 1048576) (W : World) (v : Value) (n : Nat) (hv : Sees W v n (vals zs)) :
    Calls Try.prog 54 #[v] W fun e w' => ListTo W e w' xs b := by
  have hl : zs.length = n := by simpa using hv.1
  have hn : n ≤ 1048576 := by omega
  obtain ⟨r, hr⟩ : ∃ r, isOrd zs = r := ⟨_, rfl⟩
  have CO := Go.Lib.hid (fun W' (hs' : Sees W' v n (vals zs)) => implOrder_any W' v n zs r hs' hn hr)
  have HV := Go.Lib.hid hv
  unfold sweepAns at h
  obtain ⟨_, ad, cap, rfl, _, _⟩ := hv
  cases r with
  | false =>
    rw [if_neg (by intro h1; unfold isOrd at hr; exact of_decide_eq_false hr h1)] at h
    cases h
    clear hr
    go_enter Try.func54, Try.ntmps54
    go_wp2_with fail
    refine (CO.out _ HV.out).mono ?_
    rintro e w1 ⟨rfl, hd⟩
    have HB1 : Hid (Below W.heap.size W w1) := Go.Lib.hid hd
    clear hd
    go_wp2_with fail
    go_ret2
    exact listTo_below HB1.out (listTo_none _ _)
  | true =>
    have hord : Ord zs := by unfold isOrd at hr; exact of_decide_eq_true hr
    have hn7 : n ≤ 7 := by have := hord.2.1; omega
    have hn1 : 1 ≤ n := by have := hord.1; omega
    rw [if_pos hord] at h
    cases h
    clear hr
    have C1 := Go.Lib.hid (fun W' (hs' : Sees W' (.slice ad n cap) n (vals zs)) => sweepOf_any zs hord W' _ n hs')
    go_enter Try.func54, Try.ntmps54
    go_wp2_with fail
    refine (CO.out _ HV.out).mono ?_
    rintro e w1 ⟨rfl, hd⟩
    have HB1 : Hid (Below W.heap.size W w1) := Go.Lib.hid hd
    clear hd
    have HV1 := Go.Lib.hid (HV.out.grow HB1.out)
    go_wp2_with fail
    refine (C1.out _ HV1.out).mono ?_
    rintro e w2 ⟨u, rfl, ho, hb⟩
    have H2 := Go.Lib.hid (And.intro (own_lower ho HB1.out.size) (HB1.out.trans (hb.mono HB1.out.size)))
    clear ho hb
    go_wp2_with fail
    go_ret2
    exact ⟨_, rfl, H2.out.1, H2.out.2⟩

end Go.Proofs.Ytnhhnffolmgceaa.Sweep4C
