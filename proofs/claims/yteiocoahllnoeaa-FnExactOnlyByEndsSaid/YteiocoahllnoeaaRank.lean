/-
  Contracts: how many orders there are of so many numbers, how many numbers behind a place are less, the rank of an order and its inversions. Conditions: at most 7 numbers where orders are counted; lists of at most 2^20 numbers.
-/
import Derived.Test.YteiocoahllnoeaaOrder
namespace Go.Proofs.Yteiocoahllnoeaa.RankC
open Go.RowKit SeesC IntsC ExactC OrdMath OrderC 

set_option maxRecDepth 100000 in
theorem l2Ways_any (n : Nat) (W : World) (hn : n ≤ 7) :
    Calls Try.prog 53 #[.int .i64 n] W fun e w' => e = .returned (.int .i64 (fact n : Nat)) ∧ W = w' := by
  go_enter Try.func53, Try.ntmps53
  go_wp2
  go_loop [3, 4] (fun cv fv => ∃ (f q : Nat), 2 ≤ f ∧ (f = 2 ∨ f ≤ n + 1) ∧ fv = .int .i64 f ∧ cv = .int .i64 q ∧ Hid (q = fact (f - 1))) (fun _ f => (n + 1 - intOf f).toNat)
  case atStart => exact ⟨2, 1, Nat.le_refl _, .inl rfl, rfl, rfl, Go.Lib.hid rfl⟩
  case round =>
    obtain ⟨f, q, h2, hf, rfl, rfl, HQ⟩ := hrel
    by_cases hlt : f ≤ n
    · have HN : Hid (q * f = fact (f + 1 - 1)) := Go.Lib.hid (by
        obtain ⟨j, rfl⟩ : ∃ j, f = j + 1 := ⟨f - 1, by omega⟩
        rw [HQ.out]; simp [fact, Nat.mul_comm])
      obtain ⟨r, hr⟩ : ∃ r, q * f = r := ⟨_, rfl⟩
      have hr7 : r ≤ 5040 := by rw [← hr, HN.out]; exact fact_7 (by omega)
      have hp : (q : Int) * (f : Int) = (r : Int) := by rw [← hr]; simp
      have hlti : (f : Int) ≤ (n : Int) := by omega
      rw [hr] at HN
      clear hr
      go_wp2
      go_round
      case rel => exact ⟨f + 1, r, by omega, by omega, by go_num, rfl, HN⟩
      case measure => simp [intOf]; omega
    · have HR : Hid (q = fact n) := Go.Lib.hid (by
        rw [HQ.out]
        by_cases h0 : n = 0
        · subst h0; have : f = 2 := by omega
          subst this; rfl
        · by_cases h1 : f = 2
          · subst h1; have : n = 1 := by omega
            subst this; rfl
          · have : f - 1 = n := by omega
            rw [this])
      go_wp2
      go_ret
      exact ⟨by rw [← HR.out]; rfl, rfl⟩

set_option maxRecDepth 100000 in
theorem countOrders_any (n : Nat) (W : World) (hn : n ≤ 7) :
    Calls Try.prog 56 #[.int .i64 n] W fun e w' => e = .returned (.int .i64 (fact n : Nat)) ∧ W = w' := by
  go_enter Try.func56, Try.ntmps56
  go_wp2
  go_loop [3, 4] (fun cv fv => ∃ (f q : Nat), 2 ≤ f ∧ (f = 2 ∨ f ≤ n + 1) ∧ fv = .int .i64 f ∧ cv = .int .i64 q ∧ Hid (q = fact (f - 1))) (fun _ f => (n + 1 - intOf f).toNat)
  case atStart => exact ⟨2, 1, Nat.le_refl _, .inl rfl, rfl, rfl, Go.Lib.hid rfl⟩
  case round =>
    obtain ⟨f, q, h2, hf, rfl, rfl, HQ⟩ := hrel
    by_cases hlt : f ≤ n
    · have HN : Hid (q * f = fact (f + 1 - 1)) := Go.Lib.hid (by
        obtain ⟨j, rfl⟩ : ∃ j, f = j + 1 := ⟨f - 1, by omega⟩
        rw [HQ.out]; simp [fact, Nat.mul_comm])
      obtain ⟨r, hr⟩ : ∃ r, q * f = r := ⟨_, rfl⟩
      have hr7 : r ≤ 5040 := by rw [← hr, HN.out]; exact fact_7 (by omega)
      have hp : (q : Int) * (f : Int) = (r : Int) := by rw [← hr]; simp
      have hlti : (f : Int) ≤ (n : Int) := by omega
      rw [hr] at HN
      clear hr
      go_wp2
      go_round
      case rel => exact ⟨f + 1, r, by omega, by omega, by go_num, rfl, HN⟩
      case measure => simp [intOf]; omega
    · have HR : Hid (q = fact n) := Go.Lib.hid (by
        rw [HQ.out]
        by_cases h0 : n = 0
        · subst h0; have : f = 2 := by omega
          subst this; rfl
        · by_cases h1 : f = 2
          · subst h1; have : n = 1 := by omega
            subst this; rfl
          · have : f - 1 = n := by omega
            rw [this])
      go_wp2
      go_ret
      exact ⟨by rw [← HR.out]; rfl, rfl⟩

end Go.Proofs.Yteiocoahllnoeaa.RankC
