/-
  Contracts: how many orders there are of so many numbers, how many numbers behind a place are less, the rank of an order and its inversions. Conditions: at most 7 numbers where orders are counted; lists of at most 2^20 numbers.
-/
import Derived.Test.YtecbfoodkcgehaaOrder
namespace Go.Proofs.Ytecbfoodkcgehaa.RankC
open Go.RowKit SeesC IntsC ExactC OrdMath OrderC 

set_option maxRecDepth 100000 in
theorem l2Ways_any (n : Nat) (W : World) (hn : n ≤ 7) :
    Calls Try.prog 110 #[.int .i64 n] W fun e w' => e = .returned (.int .i64 (fact n : Nat)) ∧ W = w' := by
  go_enter Try.func110, Try.ntmps110
  go_wp2
  go_loop [3, 4] (fun cv fv => ∃ (f q : Nat), 2 ≤ f ∧ (f = 2 ∨ f ≤ n + 1) ∧ fv = .int .i64 f ∧ cv = .int .i64 q ∧ Hid (q = fact (f - 1))) (fun _ f => (n + 1 - intOf f).toNat)
  case atStart => exact ⟨2, 1, Nat.le_refl _, .inl rfl, rfl, rfl, Go.Lib.hid rfl⟩
  case round =>
    obtain ⟨f, q, h2, hf, rfl, rfl, HQ⟩ := hrel
    by_cases hlt : f ≤ n
    · have HN : Hid (q * f = fact (f + 1 - 1)) := Go.Lib.hid (by
        obtain ⟨j, rfl⟩ : ∃ j, f = j + 1 := ⟨f - 1, by omega⟩
        rw [HQ.out]; simp [fact, Nat.mul_comm])
      obtain ⟨r, hr⟩ : ∃ r, q * f = r := ⟨_, rfl⟩
      have hr7 : r ≤ 5040 := by rw [← hr, HN.out]; exact fact_7 (by omega)
      have hp : (q : Int) * (f : Int) = (r : Int) := by rw [← hr]; simp
      have hlti : (f : Int) ≤ (n : Int) := by omega
      rw [hr] at HN
      clear hr
      go_wp2
      go_round
      case rel => exact ⟨f + 1, r, by omega, by omega, by go_num, rfl, HN⟩
      case measure => simp [intOf]; omega
    · have HR : Hid (q = fact n) := Go.Lib.hid (by
        rw [HQ.out]
        by_cases h0 : n = 0
        · subst h0; have : f = 2 := by omega
          subst this; rfl
        · by_cases h1 : f = 2
          · subst h1; have : n = 1 := by omega
            subst this; rfl
          · have : f - 1 = n := by omega
            rw [this])
      go_wp2
      go_ret
      exact ⟨by rw [← HR.out]; rfl, rfl⟩

set_option maxRecDepth 100000 in
theorem countOrders_any (n : Nat) (W : World) (hn : n ≤ 7) :
    Calls Try.prog 128 #[.int .i64 n] W fun e w' => e = .returned (.int .i64 (fact n : Nat)) ∧ W = w' := by
  go_enter Try.func128, Try.ntmps128
  go_wp2
  go_loop [3, 4] (fun cv fv => ∃ (f q : Nat), 2 ≤ f ∧ (f = 2 ∨ f ≤ n + 1) ∧ fv = .int .i64 f ∧ cv = .int .i64 q ∧ Hid (q = fact (f - 1))) (fun _ f => (n + 1 - intOf f).toNat)
  case atStart => exact ⟨2, 1, Nat.le_refl _, .inl rfl, rfl, rfl, Go.Lib.hid rfl⟩
  case round =>
    obtain ⟨f, q, h2, hf, rfl, rfl, HQ⟩ := hrel
    by_cases hlt : f ≤ n
    · have HN : Hid (q * f = fact (f + 1 - 1)) := Go.Lib.hid (by
        obtain ⟨j, rfl⟩ : ∃ j, f = j + 1 := ⟨f - 1, by omega⟩
        rw [HQ.out]; simp [fact, Nat.mul_comm])
      obtain ⟨r, hr⟩ : ∃ r, q * f = r := ⟨_, rfl⟩
      have hr7 : r ≤ 5040 := by rw [← hr, HN.out]; exact fact_7 (by omega)
      have hp : (q : Int) * (f : Int) = (r : Int) := by rw [← hr]; simp
      have hlti : (f : Int) ≤ (n : Int) := by omega
      rw [hr] at HN
      clear hr
      go_wp2
      go_round
      case rel => exact ⟨f + 1, r, by omega, by omega, by go_num, rfl, HN⟩
      case measure => simp [intOf]; omega
    · have HR : Hid (q = fact n) := Go.Lib.hid (by
        rw [HQ.out]
        by_cases h0 : n = 0
        · subst h0; have : f = 2 := by omega
          subst this; rfl
        · by_cases h1 : f = 2
          · subst h1; have : n = 1 := by omega
            subst this; rfl
          · have : f - 1 = n := by omega
            rw [this])
      go_wp2
      go_ret
      exact ⟨by rw [← HR.out]; rfl, rfl⟩

set_option maxRecDepth 100000 in
set_option maxHeartbeats 2000000 in
theorem l2Rank_any (zs : List Int) (hord : Ord zs) (W : World) (v : Value) (n : Nat) (hv : Sees W v n (vals zs)) :
    Calls Try.prog 111 #[v] W fun e w' => e = .returned (.int .i64 (rankS zs zs.length : Nat)) ∧ Drawn W w' := by
  have hl : zs.length = n := by simpa using hv.1
  have hn1 : 1 ≤ n := by have := hord.1; omega
  have hn7 : n ≤ 7 := by have := hord.2.1; omega
  obtain ⟨b, o, cap, rfl, hcap, _, hbl, hcell⟩ := sees_cells hv (by omega)
  have HC := Go.Lib.hid hcell
  clear hv hcell
  go_enter Try.func111, Try.ntmps111
  go_wp2
  go_loopw [3, 4] (fun rv iv wr => ∃ (k q : Nat), k ≤ n ∧ iv = .int .i64 k ∧ rv = .int .i64 q ∧ q ≤ 30240 ∧ Hid (q = rankS zs k) ∧ Drawn W wr) (fun _ i _ => n - (intOf i).toNat)
  case atStart => exact ⟨0, 0, Nat.zero_le _, rfl, rfl, Nat.zero_le _, Go.Lib.hid rfl, Drawn.refl _⟩
  case round =>
    obtain ⟨i, q, hi, rfl, rfl, hq, HQ, HD⟩ := hrel
    by_cases hlt : i < n
    · have hck0 := HC.out i (by omega)
      obtain ⟨z, hz⟩ : ∃ z, zs.getD i 0 = z := ⟨_, rfl⟩
      have HL : Hid (lessAt zs i = cl z (zs.drop (i + 1))) := Go.Lib.hid (by rw [← hz]; rfl)
      rw [hz] at hck0
      have hin : (i : Int) < (n : Int) := by omega
      clear hz
      go_wp2
      go_loopw [5, 6] (fun lv kv w2 => ∃ (j l : Nat), j ≤ n - (i + 1) ∧ kv = .int .i64 ((i + 1 + j : Nat) : Int) ∧ lv = .int .i64 l ∧ l ≤ j ∧ Hid (l = cl z ((zs.drop (i + 1)).take j)) ∧ Drawn W w2) (fun _ k _ => n - (intOf k).toNat)
      case atStart => exact ⟨0, 0, Nat.zero_le _, by go_num, rfl, Nat.le_refl _, Go.Lib.hid (by simp [cl]), HD⟩
      case round =>
        obtain ⟨j, l, hj, rfl, rfl, hlj, HLL, HD2⟩ := hrel
        clear HD
        by_cases hlt2 : j < n - (i + 1)
        · obtain ⟨kk, hkk⟩ : ∃ kk, i + 1 + j = kk := ⟨_, rfl⟩
          have hck : wr.cell? ⟨b, o + kk, none⟩ = some (.int .i64 (zs.getD kk 0)) := (HD2.cell _).trans (HC.out kk (by omega))
          have hck1 : wr.cell? ⟨b, o + i, none⟩ = some (.int .i64 z) := (HD2.cell _).trans hck0
          have hdl : j < (zs.drop (i + 1)).length := by rw [List.length_drop]; omega
          have hgd : (zs.drop (i + 1))[j] = zs.getD kk 0 := by rw [List.getElem_drop, ← hkk]; simp [show i + 1 + j < zs.length by omega]
          obtain ⟨x, hx⟩ : ∃ x, zs.getD kk 0 = x := ⟨_, rfl⟩
          have HN : Hid (cl z ((zs.drop (i + 1)).take (j + 1)) = l + (if x < z then 1 else 0)) := Go.Lib.hid (by rw [cl_next hdl, hgd, hx, HLL.out])
          rw [hx] at hck
          rw [hkk]
          have hki : (kk : Int) < (n : Int) := by omega
          have HK := Go.Lib.hid hkk
          clear hx hgd hdl hkk
          by_cases hxz : x < z
          · rw [if_pos hxz] at HN
            go_wp2
            go_quiet (fail)
            go_wp2
            go_roundw
            case rel => exact ⟨j + 1, l + 1, by omega, by rw [← Nat.add_assoc, HK.out]; go_num, by go_num, by omega, Go.Lib.hid HN.out.symm, HD2.next _⟩
            case measure => simp [intOf]; omega
          · rw [if_neg hxz] at HN
            go_wp2
            go_quiet (fail)
            go_wp2
            go_roundw
            case rel => exact ⟨j + 1, l, by omega, by rw [← Nat.add_assoc, HK.out]; go_num, rfl, by omega, Go.Lib.hid (by rw [HN.out]; rfl), HD2.next _⟩
            case measure => simp [intOf]; omega
        · have HR : Hid (lessAt zs i = l) := Go.Lib.hid (by rw [HLL.out, HL.out, List.take_of_length_le (by rw [List.length_drop]; omega)])
          have hkn : i + 1 + j = n := by omega
          rw [hkn]
          have CW := fun w3 => l2Ways_any (n - 1 - i) w3 (by omega)
          have hci : ((n - 1 - i : Nat) : Int) = (n : Int) - 1 - (i : Int) := by omega
          obtain ⟨f, hf⟩ : ∃ f, fact (n - 1 - i) = f := ⟨_, rfl⟩
          obtain ⟨p, hp⟩ : ∃ p, l * f = p := ⟨_, rfl⟩
          have HN : Hid (q + p = rankS zs (i + 1)) := Go.Lib.hid (by
            rw [HQ.out, ← hp, ← hf, ← hl]; show _ = rankS zs i + lessAt zs i * _; rw [HR.out])
          have hN := rankS_le zs (by omega) (i + 1) (by omega)
          rw [← HN.out] at hN
          have hpi : (l : Int) * (f : Int) = (p : Int) := by rw [← hp]; simp
          rw [hci, hf] at CW
          have HCW := Go.Lib.hid CW
          have hq2 : q + p ≤ 30240 := by omega
          clear CW hci hf hp hkn hck0
          go_wp2_with fail
          refine (HCW.out _).mono ?_
          rintro e w3 ⟨rfl, rfl⟩
          go_wp2_with fail
          go_roundw
          case rel => exact ⟨i + 1, q + p, by omega, by go_num, by go_num, hq2, HN, HD2⟩
          case measure => simp [intOf]; omega
    · have HR : Hid (q = rankS zs zs.length) := Go.Lib.hid (by rw [HQ.out]; congr 1; omega)
      go_wp2
      go_ret
      exact ⟨by rw [← HR.out]; rfl, HD⟩

end Go.Proofs.Ytecbfoodkcgehaa.RankC
