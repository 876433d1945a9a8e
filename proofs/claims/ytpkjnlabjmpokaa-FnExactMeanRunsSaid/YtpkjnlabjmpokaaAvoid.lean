/-
  Contracts: which lists of patterns are valid, and whether an order avoids all of some patterns; AvoidsAll, CountChildren of the model and of the program. Conditions: at most 2^20 numbers together.
-/
import Derived.Test.YtpkjnlabjmpokaaLL
import Derived.Test.YtpkjnlabjmpokaaSpecPl
import Derived.Test.YtpkjnlabjmpokaaInsert
namespace Go.Proofs.Ytpkjnlabjmpokaa.AvoidC
open Go.RowKit SeesC IntsC ExactC OrdMath OrdFacts InC OrderC PatMath ShapeC InsertC ListsC ListsEC ListsFC PlacesC HasC SpecPlC LLC

/-- Patterns are valid, and not too many. -/
def pats (L : List (List Int)) : Bool := decide (L.length ≤ 4 ∧ ∀ p ∈ L, Ord p)

theorem pats_iff {L : List (List Int)} : pats L = true ↔ L.length ≤ 4 ∧ ∀ p ∈ L, Ord p := by unfold pats; rw [decide_eq_true_eq]

theorem pats_many {L : List (List Int)} (h : 4 < L.length) : pats L = false := by
  rw [Bool.eq_false_iff]; intro h2; have := (pats_iff.1 h2).1; omega

theorem pats_bad {L : List (List Int)} {i : Nat} (hi : i < L.length) (h : isOrd (L.getD i []) = false) : pats L = false := by
  rw [Bool.eq_false_iff]; intro h2
  have := (pats_iff.1 h2).2 _ (getD_memL hi)
  exact (of_decide_eq_false h) this

theorem pats_yes {L : List (List Int)} (h1 : L.length ≤ 4) (h2 : ∀ i, i < L.length → isOrd (L.getD i []) = true) : pats L = true := by
  rw [pats_iff]
  refine ⟨h1, fun p hp => ?_⟩
  obtain ⟨i, hi, e⟩ := List.mem_iff_getElem.1 hp
  have := h2 i hi
  have e2 : L.getD i [] = p := by rw [← e]; simp [hi]
  rw [e2] at this
  exact of_decide_eq_true this

def avoids (zs : List Int) (L : List (List Int)) : Bool := L.all (fun p => !has zs p)

theorem avoids_no {zs : List Int} {L : List (List Int)} {i : Nat} (hi : i < L.length) (h : has zs (L.getD i []) = true) : avoids zs L = false := by
  rw [Bool.eq_false_iff]; intro h2
  unfold avoids at h2
  rw [List.all_eq_true] at h2
  have := h2 _ (getD_memL hi)
  rw [h] at this
  cases this

theorem avoids_yes {zs : List Int} {L : List (List Int)} (h : ∀ i, i < L.length → has zs (L.getD i []) = false) : avoids zs L = true := by
  unfold avoids
  rw [List.all_eq_true]
  intro p hp
  obtain ⟨i, hi, e⟩ := List.mem_iff_getElem.1 hp
  have := h i hi
  have e2 : L.getD i [] = p := by rw [← e]; simp [hi]
  rw [e2] at this
  rw [this]; rfl

set_option maxRecDepth 100000 in
set_option maxHeartbeats 2000000 in
theorem implPats_any (L : List (List Int)) (r : Bool) (W : World) (v : Value) (hv : SeesLL W v L) (hN : L.length + tot L ≤ 1048576) (hr : pats L = r) :
    Calls Try.prog 69 #[v] W fun e w' => e = .returned (.bool r) ∧ Below W.heap.size W w' := by
  obtain ⟨a, c, rfl⟩ := hv.value
  obtain ⟨N, hLN⟩ : ∃ N, L.length = N := ⟨_, rfl⟩
  rw [hLN] at hv hN ⊢
  have HV := Go.Lib.hid (And.intro hv (And.intro hLN (And.intro hN hr)))
  have hNm : N ≤ 1048576 := by omega
  clear hv hLN hN hr
  by_cases h4 : 4 < N
  · have h4i : (4 : Int) < (N : Int) := by omega
    have HR : Hid (r = false) := Go.Lib.hid (by rw [← HV.out.2.2.2]; exact pats_many (by rw [HV.out.2.1]; exact h4))
    go_enter Try.func69, Try.ntmps69
    go_wp2
    go_ret
    exact ⟨by rw [HR.out]; rfl, Below.refl _ _⟩
  · have h4i : ¬ (4 : Int) < (N : Int) := by omega
    go_enter Try.func69, Try.ntmps69
    go_wp2
    go_loopw [10] (fun iv wr => ∃ i : Nat, i ≤ N ∧ iv = .int .i64 i ∧ Hid (∀ k, k < i → isOrd (L.getD k []) = true) ∧ Hid (Below W.heap.size W wr)) (fun i _ => N - (intOf i).toNat)
    case atStart => exact ⟨0, Nat.zero_le _, rfl, Go.Lib.hid (fun k hk => absurd hk (by omega)), Go.Lib.hid (Below.refl _ _)⟩
    case round =>
      obtain ⟨i, hi, rfl, HI, HB⟩ := hrel
      by_cases hlt : i < N
      · obtain ⟨b, o, u1, d1, rfl, hck, hs1⟩ := (HV.out.1.grow HB.out).at HV.out.2.1 hlt
        have hmb := tot_mem (getD_memL (L := L) (i := i) (by rw [HV.out.2.1]; exact hlt))
        obtain ⟨o1, ho1⟩ : ∃ o1, isOrd (L.getD i []) = o1 := ⟨_, rfl⟩
        have CO := Go.Lib.hid (implOrder_any wr _ _ (L.getD i []) o1 hs1 (by have := HV.out.2.2.1; omega) ho1)
        obtain ⟨m, hm⟩ : ∃ m, (L.getD i []).length = m := ⟨_, rfl⟩
        rw [hm] at hck CO
        have HO1 := Go.Lib.hid ho1
        have hlti : (i : Int) < (N : Int) := by omega
        clear hs1 hmb hm ho1
        go_wp2_with fail
        refine (CO.out).mono ?_
        rintro e w2 ⟨rfl, hb⟩
        have HB2 := Go.Lib.hid (HB.out.trans (hb.mono HB.out.size))
        clear hb hck
        cases o1 with
        | true =>
          have HIN : Hid (∀ k, k < i + 1 → isOrd (L.getD k []) = true) := Go.Lib.hid (fun k hk => by
            by_cases h : k = i
            · subst h; exact HO1.out
            · exact HI.out k (by omega))
          go_wp2_with fail
          go_roundw
          case rel => exact ⟨i + 1, by omega, by go_num, HIN, HB2⟩
          case measure => simp [intOf]; omega
        | false =>
          have HR : Hid (r = false) := Go.Lib.hid (by rw [← HV.out.2.2.2]; exact pats_bad (by rw [HV.out.2.1]; exact hlt) HO1.out)
          go_wp2_with fail
          go_ret
          exact ⟨by rw [HR.out]; rfl, HB2.out⟩
      · have HR : Hid (r = true) := Go.Lib.hid (by
          rw [← HV.out.2.2.2]
          exact pats_yes (by rw [HV.out.2.1]; omega) (fun k hk => HI.out k (by rw [HV.out.2.1] at hk; omega)))
        go_wp2
        go_ret
        exact ⟨by rw [HR.out]; rfl, HB.out⟩

set_option maxRecDepth 100000 in
set_option maxHeartbeats 2000000 in
theorem specPats_any (L : List (List Int)) (r : Bool) (W : World) (v : Value) (hv : SeesLL W v L) (hN : L.length + tot L ≤ 1048576) (hr : pats L = r) :
    Calls Try.prog 67 #[v] W fun e w' => e = .returned (.bool r) ∧ Below W.heap.size W w' := by
  obtain ⟨a, c, rfl⟩ := hv.value
  obtain ⟨N, hLN⟩ : ∃ N, L.length = N := ⟨_, rfl⟩
  rw [hLN] at hv hN ⊢
  have HV := Go.Lib.hid (And.intro hv (And.intro hLN (And.intro hN hr)))
  have hNm : N ≤ 1048576 := by omega
  clear hv hLN hN hr
  go_enter Try.func67, Try.ntmps67
  go_wp2
  go_loopw [3] (fun iv wr => ∃ i : Nat, i ≤ N ∧ i ≤ 5 ∧ iv = .int .i64 i ∧ Hid (∀ k, k < i → isOrd (L.getD k []) = true) ∧ Hid (Below W.heap.size W wr)) (fun i _ => N - (intOf i).toNat)
  case atStart => exact ⟨0, Nat.zero_le _, by omega, rfl, Go.Lib.hid (fun k hk => absurd hk (by omega)), Go.Lib.hid (Below.refl _ _)⟩
  case round =>
    obtain ⟨i, hi, hi5, rfl, HI, HB⟩ := hrel
    by_cases hlt : i < N
    · have hlti : (i : Int) < (N : Int) := by omega
      have hd1 : decide ((i : Int) < (N : Int)) = true := decide_eq_true hlti
      by_cases h5 : i ≤ 4
      · have h5i : (i : Int) ≤ 4 := by omega
        have hd2 : decide ((i : Int) ≤ 4) = true := decide_eq_true h5i
        obtain ⟨b, o, u1, d1, rfl, hck, hs1⟩ := (HV.out.1.grow HB.out).at HV.out.2.1 hlt
        have hmb := tot_mem (getD_memL (L := L) (i := i) (by rw [HV.out.2.1]; exact hlt))
        obtain ⟨o1, ho1⟩ : ∃ o1, isOrd (L.getD i []) = o1 := ⟨_, rfl⟩
        have CO := Go.Lib.hid (l2Order_any wr _ _ (L.getD i []) o1 hs1 (by have := HV.out.2.2.1; omega) ho1)
        obtain ⟨m, hm⟩ : ∃ m, (L.getD i []).length = m := ⟨_, rfl⟩
        rw [hm] at hck CO
        have HO1 := Go.Lib.hid ho1
        clear hs1 hmb hm ho1
        go_wp2_with fail
        refine (CO.out).mono ?_
        rintro e w2 ⟨rfl, hd⟩
        have HB2 := Go.Lib.hid (HB.out.trans (hd.below W.heap.size))
        clear hd hck
        cases o1 with
        | true =>
          have HIN : Hid (∀ k, k < i + 1 → isOrd (L.getD k []) = true) := Go.Lib.hid (fun k hk => by
            by_cases h : k = i
            · subst h; exact HO1.out
            · exact HI.out k (by omega))
          go_wp2_with fail
          go_roundw
          case rel => exact ⟨i + 1, by omega, by omega, by go_num, HIN, HB2⟩
          case measure => simp [intOf]; omega
        | false =>
          have HR : Hid (r = false) := Go.Lib.hid (by rw [← HV.out.2.2.2]; exact pats_bad (by rw [HV.out.2.1]; exact hlt) HO1.out)
          go_wp2_with fail
          go_ret
          exact ⟨by rw [HR.out]; rfl, HB2.out⟩
      · have h5i : ¬ (i : Int) ≤ 4 := by omega
        have h4i : ¬ (N : Int) ≤ 4 := by omega
        have HR : Hid (r = false) := Go.Lib.hid (by rw [← HV.out.2.2.2]; exact pats_many (by rw [HV.out.2.1]; omega))
        go_wp2
        go_ret
        exact ⟨by rw [HR.out]; simp, HB.out⟩
    · have hlti : ¬ (i : Int) < (N : Int) := by omega
      by_cases h4 : N ≤ 4
      · have h4i : (N : Int) ≤ 4 := by omega
        have HR : Hid (r = true) := Go.Lib.hid (by
          rw [← HV.out.2.2.2]
          exact pats_yes (by rw [HV.out.2.1]; exact h4) (fun k hk => HI.out k (by rw [HV.out.2.1] at hk; omega)))
        go_wp2
        go_ret
        exact ⟨by rw [HR.out]; simp, HB.out⟩
      · have h4i : ¬ (N : Int) ≤ 4 := by omega
        have HR : Hid (r = false) := Go.Lib.hid (by rw [← HV.out.2.2.2]; exact pats_many (by rw [HV.out.2.1]; omega))
        go_wp2
        go_ret
        exact ⟨by rw [HR.out]; simp, HB.out⟩

set_option maxRecDepth 100000 in
set_option maxHeartbeats 2000000 in
theorem implAvoids_any (zs : List Int) (L : List (List Int)) (r : Bool) (hz : zs.Nodup) (hn1 : 1 ≤ zs.length) (hn7 : zs.length ≤ 7) (hp : pats L = true) (hr : avoids zs L = r) (W : World) (v u : Value) (n : Nat) (hv : Sees W v n (vals zs)) (hu : SeesLL W u L) :
    Calls Try.prog 115 #[v, u] W fun e w' => e = .returned (.bool r) ∧ Below W.heap.size W w' := by
  obtain ⟨a, c, rfl⟩ := hu.value
  obtain ⟨N, hLN⟩ : ∃ N, L.length = N := ⟨_, rfl⟩
  rw [hLN] at hu ⊢
  have HV := Go.Lib.hid (And.intro hv (And.intro hu (And.intro hLN (And.intro hr hp))))
  have hN4 : N ≤ 4 := by rw [← hLN]; exact (pats_iff.1 hp).1
  obtain ⟨_, a1, c1, rfl, -, -⟩ := hv
  clear hu hLN hr hp
  go_enter Try.func115, Try.ntmps115
  go_wp2
  go_loopw [9] (fun iv wr => ∃ i : Nat, i ≤ N ∧ iv = .int .i64 i ∧ Hid (∀ k, k < i → has zs (L.getD k []) = false) ∧ Hid (Below W.heap.size W wr)) (fun i _ => N - (intOf i).toNat)
  case atStart => exact ⟨0, Nat.zero_le _, rfl, Go.Lib.hid (fun k hk => absurd hk (by omega)), Go.Lib.hid (Below.refl _ _)⟩
  case round =>
    obtain ⟨i, hi, rfl, HI, HB⟩ := hrel
    by_cases hlt : i < N
    · obtain ⟨b, o, u1, d1, rfl, hck, hs1⟩ := (HV.out.2.1.grow HB.out).at HV.out.2.2.1 hlt
      have hpo : Ord (L.getD i []) := (pats_iff.1 HV.out.2.2.2.2).2 _ (getD_memL (by rw [HV.out.2.2.1]; exact hlt))
      obtain ⟨o1, ho1⟩ : ∃ o1, has zs (L.getD i []) = o1 := ⟨_, rfl⟩
      have CO := Go.Lib.hid (contains_any zs (L.getD i []) o1 hz hn1 hn7 hpo ho1 wr _ _ n _ (HV.out.1.grow HB.out) hs1)
      obtain ⟨m, hm⟩ : ∃ m, (L.getD i []).length = m := ⟨_, rfl⟩
      rw [hm] at hck CO
      have HO1 := Go.Lib.hid ho1
      have hlti : (i : Int) < (N : Int) := by omega
      clear hs1 hm ho1 hpo
      go_wp2_with fail
      refine (CO.out).mono ?_
      rintro e w2 ⟨rfl, hb⟩
      have HB2 := Go.Lib.hid (HB.out.trans (hb.mono HB.out.size))
      clear hb hck
      cases o1 with
      | false =>
        have HIN : Hid (∀ k, k < i + 1 → has zs (L.getD k []) = false) := Go.Lib.hid (fun k hk => by
          by_cases h : k = i
          · subst h; exact HO1.out
          · exact HI.out k (by omega))
        go_wp2_with fail
        go_roundw
        case rel => exact ⟨i + 1, by omega, by go_num, HIN, HB2⟩
        case measure => simp [intOf]; omega
      | true =>
        have HR : Hid (r = false) := Go.Lib.hid (by rw [← HV.out.2.2.2.1]; exact avoids_no (by rw [HV.out.2.2.1]; exact hlt) HO1.out)
        go_wp2_with fail
        go_ret
        exact ⟨by rw [HR.out]; rfl, HB2.out⟩
    · have HR : Hid (r = true) := Go.Lib.hid (by
        rw [← HV.out.2.2.2.1]
        exact avoids_yes (fun k hk => HI.out k (by rw [HV.out.2.2.1] at hk; omega)))
      go_wp2
      go_ret
      exact ⟨by rw [HR.out]; rfl, HB.out⟩

set_option maxRecDepth 100000 in
set_option maxHeartbeats 2000000 in
theorem specAvoids_any (zs : List Int) (L : List (List Int)) (r : Bool) (hn1 : 1 ≤ zs.length) (hn7 : zs.length ≤ 7) (hp : pats L = true) (hr : avoids zs L = r) (W : World) (v u : Value) (n : Nat) (hv : Sees W v n (vals zs)) (hu : SeesLL W u L) :
    Calls Try.prog 114 #[v, u] W fun e w' => e = .returned (.bool r) ∧ Below W.heap.size W w' := by
  obtain ⟨a, c, rfl⟩ := hu.value
  obtain ⟨N, hLN⟩ : ∃ N, L.length = N := ⟨_, rfl⟩
  rw [hLN] at hu ⊢
  have HV := Go.Lib.hid (And.intro hv (And.intro hu (And.intro hLN (And.intro hr hp))))
  have hN4 : N ≤ 4 := by rw [← hLN]; exact (pats_iff.1 hp).1
  obtain ⟨_, a1, c1, rfl, -, -⟩ := hv
  clear hu hLN hr hp
  go_enter Try.func114, Try.ntmps114
  go_wp2
  go_loopw [5] (fun iv wr => ∃ i : Nat, i ≤ N ∧ iv = .int .i64 i ∧ Hid (∀ k, k < i → has zs (L.getD k []) = false) ∧ Hid (Below W.heap.size W wr)) (fun i _ => N - (intOf i).toNat)
  case atStart => exact ⟨0, Nat.zero_le _, rfl, Go.Lib.hid (fun k hk => absurd hk (by omega)), Go.Lib.hid (Below.refl _ _)⟩
  case round =>
    obtain ⟨i, hi, rfl, HI, HB⟩ := hrel
    by_cases hlt : i < N
    · obtain ⟨b, o, u1, d1, rfl, hck, hs1⟩ := (HV.out.2.1.grow HB.out).at HV.out.2.2.1 hlt
      have hpo : Ord (L.getD i []) := (pats_iff.1 HV.out.2.2.2.2).2 _ (getD_memL (by rw [HV.out.2.2.1]; exact hlt))
      obtain ⟨o1, ho1⟩ : ∃ o1, has zs (L.getD i []) = o1 := ⟨_, rfl⟩
      have CO := Go.Lib.hid (l3In_any zs (L.getD i []) o1 hn1 hn7 hpo ho1 wr _ _ n _ (HV.out.1.grow HB.out) hs1)
      obtain ⟨m, hm⟩ : ∃ m, (L.getD i []).length = m := ⟨_, rfl⟩
      rw [hm] at hck CO
      have HO1 := Go.Lib.hid ho1
      have hlti : (i : Int) < (N : Int) := by omega
      clear hs1 hm ho1 hpo
      go_wp2_with fail
      refine (CO.out).mono ?_
      rintro e w2 ⟨rfl, hb⟩
      have HB2 := Go.Lib.hid (HB.out.trans (hb.mono HB.out.size))
      clear hb hck
      cases o1 with
      | false =>
        have HIN : Hid (∀ k, k < i + 1 → has zs (L.getD k []) = false) := Go.Lib.hid (fun k hk => by
          by_cases h : k = i
          · subst h; exact HO1.out
          · exact HI.out k (by omega))
        go_wp2_with fail
        go_roundw
        case rel => exact ⟨i + 1, by omega, by go_num, HIN, HB2⟩
        case measure => simp [intOf]; omega
      | true =>
        have HR : Hid (r = false) := Go.Lib.hid (by rw [← HV.out.2.2.2.1]; exact avoids_no (by rw [HV.out.2.2.1]; exact hlt) HO1.out)
        go_wp2_with fail
        go_ret
        exact ⟨by rw [HR.out]; rfl, HB2.out⟩
    · have HR : Hid (r = true) := Go.Lib.hid (by
        rw [← HV.out.2.2.2.1]
        exact avoids_yes (fun k hk => HI.out k (by rw [HV.out.2.2.1] at hk; omega)))
      go_wp2
      go_ret
      exact ⟨by rw [HR.out]; rfl, HB.out⟩

end Go.Proofs.Ytpkjnlabjmpokaa.AvoidC
