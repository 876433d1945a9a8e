/-
  Contracts: slices.Compare and the model's l6Before at lists of any lengths. Conditions: lists of 1 to 2^20 numbers.
-/
import Derived.Test.YteiocoahllnoeabCutAtM
import Derived.BigQuiet
namespace Go.Proofs.Yteiocoahllnoeab.Cmp2C
open Go.RowKit SeesC IntsC ExactC CmpC OrdMath CutsM CutAtM

theorem bef_drop {xs ys : List Int} {k : Nat} (h1 : k < xs.length) (h2 : k < ys.length) : befC (xs.drop k) (ys.drop k) = if xs.getD k 0 = ys.getD k 0 then befC (xs.drop (k + 1)) (ys.drop (k + 1)) else decide (xs.getD k 0 < ys.getD k 0) := by
  rw [List.drop_eq_getElem_cons h1, List.drop_eq_getElem_cons h2]
  have e1 : xs.getD k 0 = xs[k] := by simp [h1]
  have e2 : ys.getD k 0 = ys[k] := by simp [h2]
  rw [e1, e2]
  rfl

theorem bef_out {xs ys : List Int} {k : Nat} (h : xs.length ≤ k ∨ ys.length ≤ k) : befC (xs.drop k) (ys.drop k) = false := by
  rcases h with h | h
  · rw [List.drop_of_length_le h]; rfl
  · rw [List.drop_of_length_le h]; cases xs.drop k <;> rfl

theorem cmp_past {xs ys : List Int} {k : Nat} (h1 : k < xs.length) (h2 : ys.length ≤ k) : cmpL (xs.drop k) (ys.drop k) = 1 := by
  rw [List.drop_eq_getElem_cons h1, List.drop_of_length_le h2]; rfl

theorem cmp_end {xs ys : List Int} {k : Nat} (h1 : xs.length ≤ k) : cmpL (xs.drop k) (ys.drop k) = if k < ys.length then -1 else 0 := by
  rw [List.drop_of_length_le h1]
  split
  · rename_i h2; rw [List.drop_eq_getElem_cons h2]; rfl
  · rename_i h2; rw [List.drop_of_length_le (by omega)]; rfl

set_option maxRecDepth 100000 in
set_option maxHeartbeats 1000000 in
theorem compare2_any (xs ys : List Int) (r : Int) (h : cmpL xs ys = r) (W : World) (v : Value) (n : Nat) (hv : Sees W v n (vals xs)) (u : Value) (m : Nat) (hu : Sees W u m (vals ys)) (hn1 : 1 ≤ n) (hn : n ≤ 1048576) (hm1 : 1 ≤ m) (hm : m ≤ 1048576) :
    Calls Try.prog 43 #[v, u] W fun e w' => e = .returned (.int .i64 r) ∧ Drawn W w' := by
  have hln : xs.length = n := by simpa using hv.1
  have hlm : ys.length = m := by simpa using hu.1
  obtain ⟨b, o, cap, rfl, _, _, hbl, hcell⟩ := sees_cells hv (by omega)
  obtain ⟨b2, o2, cap2, rfl, _, _, hbl2, hcell2⟩ := sees_cells hu (by omega)
  have HA := Go.Lib.hid hcell
  have HB := Go.Lib.hid hcell2
  have HL := Go.Lib.hid (And.intro hln hlm)
  have H0 : Hid (cmpL (xs.drop 0) (ys.drop 0) = r) := Go.Lib.hid (by simpa using h)
  clear hv hu h hcell hcell2 hln hlm
  go_enter Try.func43, Try.ntmps43
  go_wp2
  go_loopw [11] (fun i wr => ∃ k : Nat, k ≤ n ∧ k ≤ m ∧ i = .int .i64 k ∧ Hid (cmpL (xs.drop k) (ys.drop k) = r) ∧ Drawn W wr) (fun i _ => n - (intOf i).toNat)
  case atStart => exact ⟨0, Nat.zero_le _, Nat.zero_le _, rfl, H0, Drawn.refl _⟩
  case round =>
    obtain ⟨k, hk, hkm, rfl, HC, HD⟩ := hrel
    clear H0
    by_cases hlt : k < n
    · have hlti : (k : Int) < (n : Int) := by omega
      have hck : wr.cell? ⟨b, o + k, none⟩ = some (.int .i64 (xs.getD k 0)) := (HD.cell _).trans (HA.out k (by have := HL.out; omega))
      by_cases hlt2 : k < m
      · have hck2 : wr.cell? ⟨b2, o2 + k, none⟩ = some (.int .i64 (ys.getD k 0)) := (HD.cell _).trans (HB.out k (by have := HL.out; omega))
        have hlti2 : ¬ (m : Int) ≤ (k : Int) := by omega
        have hstep := cmpL_drop (xs := xs) (ys := ys) (k := k) (by have := HL.out; omega) (by have := HL.out; omega)
        rw [HC.out] at hstep
        obtain ⟨x, hx⟩ : ∃ x, xs.getD k 0 = x := ⟨_, rfl⟩
        obtain ⟨y, hy⟩ : ∃ y, ys.getD k 0 = y := ⟨_, rfl⟩
        rw [hx, hy] at hstep
        rw [hx] at hck
        rw [hy] at hck2
        clear hx hy
        by_cases h1 : x < y
        · have HR : Hid (r = -1) := Go.Lib.hid (by rw [hstep, if_pos h1])
          have C1 := Go.Lib.hid (fun W => cmpInt_any x y W (-1) (by rw [if_pos h1]))
          clear hstep h1
          go_wp2_with fail
          refine (C1.out _).mono ?_
          rintro e w2 ⟨rfl, rfl⟩
          go_wp2_with fail
          go_ret
          exact ⟨by rw [HR.out]; rfl, HD⟩
        · by_cases h2 : y < x
          · have HR : Hid (r = 1) := Go.Lib.hid (by rw [hstep, if_neg h1, if_pos h2])
            have C1 := Go.Lib.hid (fun W => cmpInt_any x y W 1 (by rw [if_neg h1, if_pos h2]))
            clear hstep h1 h2
            go_wp2_with fail
            refine (C1.out _).mono ?_
            rintro e w2 ⟨rfl, rfl⟩
            go_wp2_with fail
            go_ret
            exact ⟨by rw [HR.out]; rfl, HD⟩
          · have HR : Hid (cmpL (xs.drop (k + 1)) (ys.drop (k + 1)) = r) := Go.Lib.hid (by rw [hstep, if_neg h1, if_neg h2])
            have C1 := Go.Lib.hid (fun W => cmpInt_any x y W 0 (by rw [if_neg h1, if_neg h2]))
            clear hstep h1 h2
            go_wp2_with fail
            refine (C1.out _).mono ?_
            rintro e w2 ⟨rfl, rfl⟩
            go_wp2_with fail
            go_roundw
            case rel => exact ⟨k + 1, by omega, by omega, by go_num, HR, HD⟩
            case measure => simp [intOf]; omega
      · have hlti2 : (m : Int) ≤ (k : Int) := by omega
        have HR : Hid (r = 1) := Go.Lib.hid (by rw [← HC.out]; exact cmp_past (by have := HL.out; omega) (by have := HL.out; omega))
        go_wp2
        go_ret
        exact ⟨by rw [HR.out]; rfl, HD⟩
    · have hr := cmp_end (xs := xs) (ys := ys) (k := k) (by have := HL.out; omega)
      rw [HC.out] at hr
      have hkn : k = n := by omega
      subst hkn
      have hlti : ¬ (k : Int) < (k : Int) := by omega
      by_cases hlt2 : k < m
      · have HR : Hid (r = -1) := Go.Lib.hid (by rw [hr, if_pos (by have := HL.out; omega)])
        have hlti2 : (k : Int) < (m : Int) := by omega
        clear hr
        go_wp2
        go_ret
        exact ⟨by rw [HR.out]; rfl, HD⟩
      · have HR : Hid (r = 0) := Go.Lib.hid (by rw [hr, if_neg (by have := HL.out; omega)])
        have hlti2 : ¬ (k : Int) < (m : Int) := by omega
        clear hr
        go_wp2
        go_ret
        exact ⟨by rw [HR.out]; rfl, HD⟩
end Go.Proofs.Yteiocoahllnoeab.Cmp2C
