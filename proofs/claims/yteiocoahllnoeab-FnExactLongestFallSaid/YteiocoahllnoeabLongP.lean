/-
  Contracts: LongestRise and LongestFall of the model and of the program. Conditions: a list of at most 2^20 numbers.
-/
import Derived.Test.YteiocoahllnoeabLongS
import Derived.Test.YteiocoahllnoeabFirstI
import Derived.Test.YteiocoahllnoeabHas
namespace Go.Proofs.Yteiocoahllnoeab.LongPC
open Go.RowKit SeesC IntsC ExactC NumC OrdMath OrderC ListsC ListsBC RiseM FirstIC LongSC HasC
set_option linter.unusedVariables false

def longAns (rise : Bool) (zs : List Int) : List Int × Bool := if isOrd zs then (longest rise zs, true) else ([], false)
def riseAns (zs : List Int) : List Int × Bool := longAns true zs
def fallAns (zs : List Int) : List Int × Bool := longAns false zs

theorem long_len {rise : Bool} {zs xs : List Int} {b : Bool} (h : longAns rise zs = (xs, b)) : xs.length ≤ 1048576 := by
  unfold longAns at h
  split at h
  · rename_i ho
    cases h
    have h1 := (longest_spec rise zs).1.1.length_le
    have h2 := (of_decide_eq_true ho : Ord zs).2.1
    omega
  · cases h
    simp

theorem rise_len {zs xs : List Int} {b : Bool} (h : riseAns zs = (xs, b)) : xs.length ≤ 1048576 := long_len h
theorem fall_len {zs xs : List Int} {b : Bool} (h : fallAns zs = (xs, b)) : xs.length ≤ 1048576 := long_len h

theorem entersLongestRise (args : Array Value) (w : World) : Sem.run Try.prog (callFunc 25 args) w = .ok (.enter 25 args) w := run_enter Try.func25 (by kernel_rfl) rfl args w

theorem stepLongestRise (a b : Int) (W : World) : Calls Try.prog 25 #[.int .i64 a, .int .i64 b] W fun e w' => e = .returned (.bool (ok true a b)) ∧ W = w' := by
  unfold ok
  go_enter Try.func25, Try.ntmps25
  go_wp2
  go_ret
  exact ⟨rfl, rfl⟩

set_option maxRecDepth 100000 in
set_option maxHeartbeats 4000000 in
theorem implRise (zs : List Int) (xs : List Int) (b : Bool) (h : riseAns zs = (xs, b)) (hz : zs.length ≤ 1048576) (W : World) (v : Value) (n : Nat) (hv : Sees W v n (vals zs)) :
    Calls Try.prog 12 #[v] W fun e w' => ListTo W e w' xs b := by
  have hl : zs.length = n := by simpa using hv.1
  obtain ⟨r, hr⟩ : ∃ r, isOrd zs = r := ⟨_, rfl⟩
  have CS := Go.Lib.hid (implOrder_any W v n zs r hv (by omega) hr)
  have HV := Go.Lib.hid hv
  unfold riseAns longAns at h
  rw [hr] at h
  obtain ⟨_, ad, cap, rfl, _, _⟩ := hv
  cases r with
  | false =>
    rw [if_neg (by simp)] at h
    cases h
    clear hr
    go_enter Try.func12, Try.ntmps12
    go_wp2_with fail
    refine (CS.out).mono ?_
    rintro e w1 ⟨rfl, hd⟩
    have HB1 : Hid (Below W.heap.size W w1) := Go.Lib.hid hd
    clear hd
    go_wp2_with fail
    go_ret2
    exact listTo_below HB1.out (listTo_none _ _)
  | true =>
    rw [if_pos rfl] at h
    cases h
    have ho := (of_decide_eq_true hr : Ord zs)
    have CQ := Go.Lib.hid (fun W' (hb : Below W.heap.size W W') => firstLongest_any true 25 entersLongestRise stepLongestRise zs ho W' (.slice ad n cap) n (HV.out.grow hb))
    clear hr ho
    go_enter Try.func12, Try.ntmps12
    go_wp2_with fail
    refine (CS.out).mono ?_
    rintro e w1 ⟨rfl, hd⟩
    have HB1 : Hid (Below W.heap.size W w1) := Go.Lib.hid hd
    clear hd CS
    go_wp2_with fail
    refine (CQ.out _ HB1.out).mono ?_
    rintro e w2 ⟨g, c, m, rfl, hm, ho2, hb⟩
    have HO := Go.Lib.hid (And.intro hm (And.intro (own_lower ho2 HB1.out.size) (HB1.out.trans (hb.mono HB1.out.size))))
    clear hm ho2 hb
    go_wp2_with fail
    go_ret2
    exact ⟨_, rfl, by rw [← HO.out.1]; exact HO.out.2.1, HO.out.2.2⟩

set_option maxRecDepth 100000 in
set_option maxHeartbeats 4000000 in
theorem specRise (zs : List Int) (xs : List Int) (b : Bool) (h : riseAns zs = (xs, b)) (hz : zs.length ≤ 1048576) (W : World) (v : Value) (n : Nat) (hv : Sees W v n (vals zs)) :
    Calls Try.prog 11 #[v] W fun e w' => ListTo W e w' xs b := by
  have hl : zs.length = n := by simpa using hv.1
  obtain ⟨r, hr⟩ : ∃ r, isOrd zs = r := ⟨_, rfl⟩
  have CS := Go.Lib.hid (l2Order_any W v n zs r hv (by omega) hr)
  have HV := Go.Lib.hid hv
  unfold riseAns longAns at h
  rw [hr] at h
  obtain ⟨_, ad, cap, rfl, _, _⟩ := hv
  cases r with
  | false =>
    rw [if_neg (by simp)] at h
    cases h
    clear hr
    go_enter Try.func11, Try.ntmps11
    go_wp2_with fail
    refine (CS.out).mono ?_
    rintro e w1 ⟨rfl, hd⟩
    have HB1 : Hid (Below W.heap.size W w1) := Go.Lib.hid (hd.below _)
    clear hd
    go_wp2_with fail
    go_ret2
    exact listTo_below HB1.out (listTo_none _ _)
  | true =>
    rw [if_pos rfl] at h
    cases h
    have ho := (of_decide_eq_true hr : Ord zs)
    have CQ := Go.Lib.hid (fun W' (hb : Below W.heap.size W W') => l5Longest_any true zs ho W' (.slice ad n cap) n (HV.out.grow hb))
    clear hr ho
    go_enter Try.func11, Try.ntmps11
    go_wp2_with fail
    refine (CS.out).mono ?_
    rintro e w1 ⟨rfl, hd⟩
    have HB1 : Hid (Below W.heap.size W w1) := Go.Lib.hid (hd.below _)
    clear hd CS
    go_wp2_with fail
    refine (CQ.out _ HB1.out).mono ?_
    rintro e w2 ⟨u, rfl, ho2, hb⟩
    have HO := Go.Lib.hid (And.intro (own_lower ho2 HB1.out.size) (HB1.out.trans (hb.mono HB1.out.size)))
    clear ho2 hb
    go_wp2_with fail
    go_ret2
    exact ⟨_, rfl, HO.out.1, HO.out.2⟩

theorem entersLongestFall (args : Array Value) (w : World) : Sem.run Try.prog (callFunc 26 args) w = .ok (.enter 26 args) w := run_enter Try.func26 (by kernel_rfl) rfl args w

theorem stepLongestFall (a b : Int) (W : World) : Calls Try.prog 26 #[.int .i64 a, .int .i64 b] W fun e w' => e = .returned (.bool (ok false a b)) ∧ W = w' := by
  unfold ok
  go_enter Try.func26, Try.ntmps26
  go_wp2
  go_ret
  exact ⟨rfl, rfl⟩

set_option maxRecDepth 100000 in
set_option maxHeartbeats 4000000 in
theorem implFall (zs : List Int) (xs : List Int) (b : Bool) (h : fallAns zs = (xs, b)) (hz : zs.length ≤ 1048576) (W : World) (v : Value) (n : Nat) (hv : Sees W v n (vals zs)) :
    Calls Try.prog 16 #[v] W fun e w' => ListTo W e w' xs b := by
  have hl : zs.length = n := by simpa using hv.1
  obtain ⟨r, hr⟩ : ∃ r, isOrd zs = r := ⟨_, rfl⟩
  have CS := Go.Lib.hid (implOrder_any W v n zs r hv (by omega) hr)
  have HV := Go.Lib.hid hv
  unfold fallAns longAns at h
  rw [hr] at h
  obtain ⟨_, ad, cap, rfl, _, _⟩ := hv
  cases r with
  | false =>
    rw [if_neg (by simp)] at h
    cases h
    clear hr
    go_enter Try.func16, Try.ntmps16
    go_wp2_with fail
    refine (CS.out).mono ?_
    rintro e w1 ⟨rfl, hd⟩
    have HB1 : Hid (Below W.heap.size W w1) := Go.Lib.hid hd
    clear hd
    go_wp2_with fail
    go_ret2
    exact listTo_below HB1.out (listTo_none _ _)
  | true =>
    rw [if_pos rfl] at h
    cases h
    have ho := (of_decide_eq_true hr : Ord zs)
    have CQ := Go.Lib.hid (fun W' (hb : Below W.heap.size W W') => firstLongest_any false 26 entersLongestFall stepLongestFall zs ho W' (.slice ad n cap) n (HV.out.grow hb))
    clear hr ho
    go_enter Try.func16, Try.ntmps16
    go_wp2_with fail
    refine (CS.out).mono ?_
    rintro e w1 ⟨rfl, hd⟩
    have HB1 : Hid (Below W.heap.size W w1) := Go.Lib.hid hd
    clear hd CS
    go_wp2_with fail
    refine (CQ.out _ HB1.out).mono ?_
    rintro e w2 ⟨g, c, m, rfl, hm, ho2, hb⟩
    have HO := Go.Lib.hid (And.intro hm (And.intro (own_lower ho2 HB1.out.size) (HB1.out.trans (hb.mono HB1.out.size))))
    clear hm ho2 hb
    go_wp2_with fail
    go_ret2
    exact ⟨_, rfl, by rw [← HO.out.1]; exact HO.out.2.1, HO.out.2.2⟩

set_option maxRecDepth 100000 in
set_option maxHeartbeats 4000000 in
theorem specFall (zs : List Int) (xs : List Int) (b : Bool) (h : fallAns zs = (xs, b)) (hz : zs.length ≤ 1048576) (W : World) (v : Value) (n : Nat) (hv : Sees W v n (vals zs)) :
    Calls Try.prog 15 #[v] W fun e w' => ListTo W e w' xs b := by
  have hl : zs.length = n := by simpa using hv.1
  obtain ⟨r, hr⟩ : ∃ r, isOrd zs = r := ⟨_, rfl⟩
  have CS := Go.Lib.hid (l2Order_any W v n zs r hv (by omega) hr)
  have HV := Go.Lib.hid hv
  unfold fallAns longAns at h
  rw [hr] at h
  obtain ⟨_, ad, cap, rfl, _, _⟩ := hv
  cases r with
  | false =>
    rw [if_neg (by simp)] at h
    cases h
    clear hr
    go_enter Try.func15, Try.ntmps15
    go_wp2_with fail
    refine (CS.out).mono ?_
    rintro e w1 ⟨rfl, hd⟩
    have HB1 : Hid (Below W.heap.size W w1) := Go.Lib.hid (hd.below _)
    clear hd
    go_wp2_with fail
    go_ret2
    exact listTo_below HB1.out (listTo_none _ _)
  | true =>
    rw [if_pos rfl] at h
    cases h
    have ho := (of_decide_eq_true hr : Ord zs)
    have CQ := Go.Lib.hid (fun W' (hb : Below W.heap.size W W') => l5Longest_any false zs ho W' (.slice ad n cap) n (HV.out.grow hb))
    clear hr ho
    go_enter Try.func15, Try.ntmps15
    go_wp2_with fail
    refine (CS.out).mono ?_
    rintro e w1 ⟨rfl, hd⟩
    have HB1 : Hid (Below W.heap.size W w1) := Go.Lib.hid (hd.below _)
    clear hd CS
    go_wp2_with fail
    refine (CQ.out _ HB1.out).mono ?_
    rintro e w2 ⟨u, rfl, ho2, hb⟩
    have HO := Go.Lib.hid (And.intro (own_lower ho2 HB1.out.size) (HB1.out.trans (hb.mono HB1.out.size)))
    clear ho2 hb
    go_wp2_with fail
    go_ret2
    exact ⟨_, rfl, HO.out.1, HO.out.2⟩

end Go.Proofs.Yteiocoahllnoeab.LongPC
