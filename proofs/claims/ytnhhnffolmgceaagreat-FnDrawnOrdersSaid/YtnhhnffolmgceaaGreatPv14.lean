/-
  Contracts: cmp.Or at two numbers, slices.Compare against a list of none, the program's longerFirst. Conditions: lists of at most 2^20 numbers, the first one not empty.
-/
import Derived.Test.YtnhhnffolmgceaaGreatPv10
import Derived.Shelf.SlCmpFuncs.MinMaxFunc
import Derived.RangeFuncBox

namespace Go.Proofs.YtnhhnffolmgceaaGreat.LongerC
open Go.Shelf Go.RowKit Go.Lib Go.Sort
open SeesC IntsC ExactC CmpC Cmp2C OrdMath ListsBC RiseM

set_option maxRecDepth 100000 in
set_option maxHeartbeats 1000000 in
theorem compare0_any (xs : List Int) (W : World) (v : Value) (n : Nat) (hv : Sees W v n (vals xs)) (a : Option Addr) (c : Nat) (hn1 : 1 ≤ n) (hn : n ≤ 1048576) :
    Calls Tryz.prog 99 #[v, .slice a 0 c] W fun e w' => e = .returned (.int .i64 1) ∧ Drawn W w' := by
  obtain ⟨b, o, cap, rfl, _, hln, hbl, hcell⟩ := sees_cells hv (by omega)
  have hck0 := hcell 0 (by omega)
  obtain ⟨x, hx⟩ : ∃ x, xs.getD 0 0 = x := ⟨_, rfl⟩
  rw [hx] at hck0
  have hck : W.cell? ⟨b, o, none⟩ = some (.int .i64 x) := by simpa using hck0
  have hni : (0 : Int) < (n : Int) := by omega
  clear hv hcell hx hln
  go_enter Tryz.func99, Tryz.ntmps99
  go_wp2
  go_loopw [11] (fun i wr => i = .int .i64 0 ∧ W = wr) (fun i _ => 1)
  case atStart => exact ⟨rfl, rfl⟩
  case round =>
    obtain ⟨rfl, rfl⟩ := hrel
    go_wp2
    go_ret
    exact ⟨rfl, Drawn.refl _⟩

set_option maxRecDepth 100000 in
set_option maxHeartbeats 1000000 in
theorem or_any (x y r : Int) (h : (if x = 0 then y else x) = r) (W : World) (b c : Nat) (h0 : W.cell? ⟨b, 0, none⟩ = some (.int .i64 x)) (h1 : W.cell? ⟨b, 1, none⟩ = some (.int .i64 y)) :
    Calls Tryz.prog 97 #[.slice (some ⟨b, 0, none⟩) 2 c] W fun e w' => e = .returned (.int .i64 r) ∧ W = w' := by
  have HR := Go.Lib.hid h
  clear h
  go_enter Tryz.func97, Tryz.ntmps97
  go_wp2
  go_loopw [8] (fun i wr => ∃ k : Nat, k ≤ 2 ∧ i = .int .i64 k ∧ Hid ((1 ≤ k → x = 0) ∧ (k = 2 → y = 0)) ∧ W = wr) (fun i _ => 2 - (intOf i).toNat)
  case atStart => exact ⟨0, by omega, rfl, Go.Lib.hid ⟨by omega, by omega⟩, rfl⟩
  case round =>
    obtain ⟨k, hk, rfl, HK, rfl⟩ := hrel
    by_cases hk0 : k = 0
    · subst hk0
      by_cases hx : x = 0
      · subst hx
        go_wp2
        go_roundw
        case rel => exact ⟨1, by omega, by go_num, Go.Lib.hid (by first | exact ⟨fun _ => rfl, by omega⟩ | simp), by first | rfl | trivial⟩
        case measure => simp [intOf]
      · have hx1 : (x == 0) = false := by rw [beq_eq_false_iff_ne]; exact hx
        have hx2 : (x != 0) = true := by unfold bne; rw [hx1]; rfl
        have HR2 : Hid (r = x) := Go.Lib.hid (by rw [← HR.out, if_neg hx])
        go_wp2
        go_ret
        exact ⟨by rw [HR2.out]; rfl, rfl⟩
    · by_cases hk1 : k = 1
      · subst hk1
        have HX : Hid (r = y) := Go.Lib.hid (by rw [← HR.out, if_pos (HK.out.1 (by omega))])
        by_cases hy : y = 0
        · subst hy
          have HX0 := Go.Lib.hid (HK.out.1 (by omega))
          go_wp2
          go_roundw
          case rel => exact ⟨2, by omega, by go_num, Go.Lib.hid (by have := HX0.out; first | exact ⟨fun _ => this, fun _ => rfl⟩ | simp [this]), by first | rfl | trivial⟩
          case measure => simp [intOf]
        · have hy1 : (y == 0) = false := by rw [beq_eq_false_iff_ne]; exact hy
          have hy2 : (y != 0) = true := by unfold bne; rw [hy1]; rfl
          go_wp2
          go_ret
          exact ⟨by rw [HX.out]; rfl, rfl⟩
      · have hk2 : k = 2 := by omega
        subst hk2
        have HX : Hid (r = 0) := Go.Lib.hid (by rw [← HR.out, if_pos (HK.out.1 (by omega)), HK.out.2 rfl])
        go_wp2
        go_ret
        exact ⟨by rw [HX.out]; rfl, rfl⟩

theorem compare3_any (xs ys : List Int) (r : Int) (h : cmpL xs ys = r) (W : World) (v : Value) (n : Nat) (hv : Sees W v n (vals xs)) (u : Value) (m : Nat) (hu : Sees W u m (vals ys)) (hn1 : 1 ≤ n) (hn : n ≤ 1048576) (hm : m ≤ 1048576) :
    Calls Tryz.prog 99 #[v, u] W fun e w' => e = .returned (.int .i64 r) ∧ Drawn W w' := by
  by_cases hm1 : 1 ≤ m
  · exact compare2_any xs ys r h W v n hv u m hu hn1 hn hm1 hm
  · have hm0 : m = 0 := by omega
    subst hm0
    have h1 : ys = [] := by have := hu.1; simpa using this
    subst h1
    obtain ⟨_, a, c, rfl, _, _⟩ := hu
    have h2 : r = 1 := by
      rw [← h]
      have := hv.1
      cases xs with
      | nil => simp at this; omega
      | cons x xs => rfl
    rw [h2]
    exact compare0_any xs W v n hv a c hn1 hn

set_option maxRecDepth 100000 in
set_option maxHeartbeats 1000000 in
theorem longerFirst_any (xs ys : List Int) (r : Int) (h : bint xs ys = r) (W : World) (v : Value) (n : Nat) (hv : Sees W v n (vals xs)) (u : Value) (m : Nat) (hu : Sees W u m (vals ys)) (hn1 : 1 ≤ n) (hn : n ≤ 1048576) (hm : m ≤ 1048576) :
    Calls Tryz.prog 87 #[v, u] W fun e w' => e = .returned (.int .i64 r) ∧ Below W.heap.size W w' ∧ ∃ q os, w' = grow (W.drewN q) os := by
  have hln : xs.length = n := by simpa using hv.1
  have hlm : ys.length = m := by simpa using hu.1
  obtain ⟨p, hp⟩ : ∃ p, (if (m : Int) < (n : Int) then (-1 : Int) else if (n : Int) < (m : Int) then 1 else 0) = p := ⟨_, rfl⟩
  obtain ⟨q, hq⟩ : ∃ q, cmpL xs ys = q := ⟨_, rfl⟩
  have hr : (if p = 0 then q else p) = r := by
    rw [← h, ← hp]
    unfold bint
    rw [hq, hln, hlm]
    by_cases h2 : m < n
    · have h2i : (m : Int) < (n : Int) := by omega
      simp [h2]
    · by_cases h3 : n < m
      · simp [h2, h3]
      · simp [h2, h3]
  have C1 := Go.Lib.hid (fun W' => cmpInt_any (m : Int) (n : Int) W' p hp)
  have C2 := Go.Lib.hid (compare3_any xs ys q hq W v n hv u m hu hn1 hn hm)
  have C3 := Go.Lib.hid (fun W' b c h0 h1 => or_any p q r hr W' b c h0 h1)
  obtain ⟨_, ad, cap, rfl, _, _⟩ := hv
  obtain ⟨_, ad2, cap2, rfl, _, _⟩ := hu
  clear h hp hq hr hln hlm
  go_enter Tryz.func87, Tryz.ntmps87
  go_wp2_with fail
  refine (C1.out _).mono ?_
  rintro e wq ⟨rfl, hwq⟩
  obtain rfl : W = wq := hwq
  go_wp2_with fail
  refine (C2.out).mono ?_
  rintro e w2 ⟨rfl, k, rfl⟩
  obtain ⟨w2, hw2⟩ : ∃ w2, W.drewN k = w2 := ⟨_, rfl⟩
  have HW2 := Go.Lib.hid hw2
  rw [hw2]
  clear hw2
  have hn0 := World.alloc_heap_new w2 (.cells #[.int .i64 p, .int .i64 q] 3)
  have CN := Go.Lib.hid (C3.out (w2.alloc (.cells #[.int .i64 p, .int .i64 q] 3)) w2.heap.size 2 (by unfold World.cell?; simp only [hn0]; rfl) (by unfold World.cell?; simp only [hn0]; rfl))
  clear hn0
  go_wp2_with fail
  refine (CN.out).mono ?_
  rintro e w3 ⟨rfl, hw3⟩
  obtain rfl := hw3
  go_wp2_with fail
  go_ret
  refine ⟨rfl, ?_, k, #[.cells #[.int .i64 p, .int .i64 q] 3], by rw [HW2.out]; rfl⟩
  rw [← HW2.out]
  exact (below_drewN (q := k) (Below.refl _ _)).alloc (by simp) _

end Go.Proofs.YtnhhnffolmgceaaGreat.LongerC
