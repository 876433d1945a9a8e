/-
  Contracts: cmp.Compare at int, slices.Compare at lists of ints. Conditions: lists of at most 2^20 numbers.
-/
import Derived.Test.YtpkjnlabjmpokaaOrder
import Derived.IntWalk
namespace Go.Proofs.Ytpkjnlabjmpokaa.CmpC
open Go.RowKit SeesC IntsC ExactC

/-- Lists told apart at the first place where they differ. -/
def cmpL : List Int → List Int → Int
  | [], [] => 0
  | [], _ :: _ => -1
  | _ :: _, [] => 1
  | x :: xs, y :: ys => if x < y then -1 else if y < x then 1 else cmpL xs ys

set_option maxRecDepth 100000 in
theorem cmpNaN_any (x : Int) (W : World) : Calls Try.prog 152 #[.int .i64 x] W fun e w' => e = .returned (.bool false) ∧ W = w' := by
  go_enter Try.func152, Try.ntmps152
  go_wp2
  go_ret
  exact ⟨rfl, rfl⟩

set_option maxRecDepth 100000 in
theorem cmpInt_any (x y : Int) (W : World) (r : Int) (h : (if x < y then (-1 : Int) else if y < x then 1 else 0) = r) :
    Calls Try.prog 158 #[.int .i64 x, .int .i64 y] W fun e w' => e = .returned (.int .i64 r) ∧ W = w' := by
  have C1 := Go.Lib.hid (cmpNaN_any x W)
  have C2 := Go.Lib.hid (cmpNaN_any y W)
  by_cases h1 : x < y
  · have HR : Hid (r = -1) := Go.Lib.hid (by rw [← h, if_pos h1])
    clear h
    go_enter Try.func158, Try.ntmps158
    go_wp2_with fail
    refine (C1.out).mono ?_
    rintro e _ ⟨rfl, rfl⟩
    go_wp2_with fail
    refine (C2.out).mono ?_
    rintro e _ ⟨rfl, rfl⟩
    go_wp2_with fail
    go_ret
    exact ⟨by rw [HR.out]; rfl, rfl⟩
  · by_cases h2 : y < x
    · have HR : Hid (r = 1) := Go.Lib.hid (by rw [← h, if_neg h1, if_pos h2])
      clear h
      go_enter Try.func158, Try.ntmps158
      go_wp2_with fail
      refine (C1.out).mono ?_
      rintro e _ ⟨rfl, rfl⟩
      go_wp2_with fail
      refine (C2.out).mono ?_
      rintro e _ ⟨rfl, rfl⟩
      go_wp2_with fail
      go_ret
      exact ⟨by rw [HR.out]; rfl, rfl⟩
    · have HR : Hid (r = 0) := Go.Lib.hid (by rw [← h, if_neg h1, if_neg h2])
      clear h
      go_enter Try.func158, Try.ntmps158
      go_wp2_with fail
      refine (C1.out).mono ?_
      rintro e _ ⟨rfl, rfl⟩
      go_wp2_with fail
      refine (C2.out).mono ?_
      rintro e _ ⟨rfl, rfl⟩
      go_wp2_with fail
      go_ret
      exact ⟨by rw [HR.out]; rfl, rfl⟩

theorem cmpL_drop {xs ys : List Int} {k : Nat} (h1 : k < xs.length) (h2 : k < ys.length) : cmpL (xs.drop k) (ys.drop k) = if xs.getD k 0 < ys.getD k 0 then -1 else if ys.getD k 0 < xs.getD k 0 then 1 else cmpL (xs.drop (k + 1)) (ys.drop (k + 1)) := by
  rw [List.drop_eq_getElem_cons h1, List.drop_eq_getElem_cons h2]
  have e1 : xs.getD k 0 = xs[k] := by simp [h1]
  have e2 : ys.getD k 0 = ys[k] := by simp [h2]
  rw [e1, e2]
  rfl

set_option maxRecDepth 100000 in
set_option maxHeartbeats 1000000 in
theorem compare_any (xs ys : List Int) (hl : xs.length = ys.length) (W : World) (v : Value) (n : Nat) (hv : Sees W v n (vals xs)) (u : Value) (hu : Sees W u n (vals ys)) (hn1 : 1 ≤ n) (hn : n ≤ 1048576) (r : Int) (h : cmpL xs ys = r) :
    Calls Try.prog 159 #[v, u] W fun e w' => e = .returned (.int .i64 r) ∧ Drawn W w' := by
  have hln : xs.length = n := by simpa using hv.1
  obtain ⟨b, o, cap, rfl, _, _, hbl, hcell⟩ := sees_cells hv (by omega)
  obtain ⟨b2, o2, cap2, rfl, _, _, hbl2, hcell2⟩ := sees_cells hu (by omega)
  have HA := Go.Lib.hid hcell
  have HB := Go.Lib.hid hcell2
  have H0 : Hid (cmpL (xs.drop 0) (ys.drop 0) = r) := Go.Lib.hid (by simpa using h)
  clear hv hu h hcell hcell2
  go_enter Try.func159, Try.ntmps159
  go_wp2
  go_loopw [11] (fun i wr => ∃ k : Nat, k ≤ n ∧ i = .int .i64 k ∧ Hid (cmpL (xs.drop k) (ys.drop k) = r) ∧ Drawn W wr) (fun i _ => n - (intOf i).toNat)
  case atStart => exact ⟨0, Nat.zero_le _, rfl, H0, Drawn.refl _⟩
  case round =>
    obtain ⟨k, hk, rfl, HC, HD⟩ := hrel
    clear H0
    by_cases hlt : k < n
    · have hck : wr.cell? ⟨b, o + k, none⟩ = some (.int .i64 (xs.getD k 0)) := (HD.cell _).trans (HA.out k (by omega))
      have hck2 : wr.cell? ⟨b2, o2 + k, none⟩ = some (.int .i64 (ys.getD k 0)) := (HD.cell _).trans (HB.out k (by omega))
      have hstep := cmpL_drop (xs := xs) (ys := ys) (k := k) (by omega) (by omega)
      rw [HC.out] at hstep
      obtain ⟨x, hx⟩ : ∃ x, xs.getD k 0 = x := ⟨_, rfl⟩
      obtain ⟨y, hy⟩ : ∃ y, ys.getD k 0 = y := ⟨_, rfl⟩
      rw [hx, hy] at hstep
      rw [hx] at hck
      rw [hy] at hck2
      have hlti : (k : Int) < (n : Int) := by omega
      clear hx hy
      by_cases h1 : x < y
      · have HR : Hid (r = -1) := Go.Lib.hid (by rw [hstep, if_pos h1])
        have C1 := Go.Lib.hid (fun W => cmpInt_any x y W (-1) (by rw [if_pos h1]))
        clear hstep h1
        go_wp2_with fail
        refine (C1.out _).mono ?_
        rintro e w2 ⟨rfl, rfl⟩
        go_wp2_with fail
        go_ret
        exact ⟨by rw [HR.out]; rfl, HD⟩
      · by_cases h2 : y < x
        · have HR : Hid (r = 1) := Go.Lib.hid (by rw [hstep, if_neg h1, if_pos h2])
          have C1 := Go.Lib.hid (fun W => cmpInt_any x y W 1 (by rw [if_neg h1, if_pos h2]))
          clear hstep h1 h2
          go_wp2_with fail
          refine (C1.out _).mono ?_
          rintro e w2 ⟨rfl, rfl⟩
          go_wp2_with fail
          go_ret
          exact ⟨by rw [HR.out]; rfl, HD⟩
        · have HR : Hid (cmpL (xs.drop (k + 1)) (ys.drop (k + 1)) = r) := Go.Lib.hid (by rw [hstep, if_neg h1, if_neg h2])
          have C1 := Go.Lib.hid (fun W => cmpInt_any x y W 0 (by rw [if_neg h1, if_neg h2]))
          clear hstep h1 h2
          go_wp2_with fail
          refine (C1.out _).mono ?_
          rintro e w2 ⟨rfl, rfl⟩
          go_wp2_with fail
          go_roundw
          case rel => exact ⟨k + 1, by omega, by go_num, HR, HD⟩
          case measure => simp [intOf]; omega
    · have HR : Hid (r = 0) := Go.Lib.hid (by rw [← HC.out, List.drop_of_length_le (by omega), List.drop_of_length_le (by omega)]; rfl)
      go_wp2
      go_ret
      exact ⟨by rw [HR.out]; rfl, HD⟩
end Go.Proofs.Ytpkjnlabjmpokaa.CmpC
