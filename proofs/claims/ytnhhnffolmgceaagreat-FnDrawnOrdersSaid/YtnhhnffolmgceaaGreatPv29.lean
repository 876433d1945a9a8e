/-
  Contracts and plain facts that the laws' texts lean on. Conditions: as each states.
-/
import Derived.Test.YtnhhnffolmgceaaGreatPv15
import Derived.Test.YtnhhnffolmgceaaGreatPv28
import Derived.Test.YtnhhnffolmgceaaGreatPv18
import Derived.Test.YtnhhnffolmgceaaGreatPv7
import Derived.Test.YtnhhnffolmgceaaGreatPv10

section
namespace Go.Proofs.YtnhhnffolmgceaaGreat.AvoidC
open Go.RowKit SeesC IntsC ExactC OrdMath OrdFacts InC OrderC PatMath ShapeC InsertC ListsC ListsEC ListsFC PlacesC HasC SpecPlC LLC

/-- Patterns are valid, and not too many. -/
def pats (L : List (List Int)) : Bool := decide (L.length ≤ 4 ∧ ∀ p ∈ L, Ord p)

theorem pats_iff {L : List (List Int)} : pats L = true ↔ L.length ≤ 4 ∧ ∀ p ∈ L, Ord p := by unfold pats; rw [decide_eq_true_eq]

theorem pats_many {L : List (List Int)} (h : 4 < L.length) : pats L = false := by
  rw [Bool.eq_false_iff]; intro h2; have := (pats_iff.1 h2).1; omega

theorem pats_bad {L : List (List Int)} {i : Nat} (hi : i < L.length) (h : isOrd (L.getD i []) = false) : pats L = false := by
  rw [Bool.eq_false_iff]; intro h2
  have := (pats_iff.1 h2).2 _ (getD_memL hi)
  exact (of_decide_eq_false h) this

theorem pats_yes {L : List (List Int)} (h1 : L.length ≤ 4) (h2 : ∀ i, i < L.length → isOrd (L.getD i []) = true) : pats L = true := by
  rw [pats_iff]
  refine ⟨h1, fun p hp => ?_⟩
  obtain ⟨i, hi, e⟩ := List.mem_iff_getElem.1 hp
  have := h2 i hi
  have e2 : L.getD i [] = p := by rw [← e]; simp [hi]
  rw [e2] at this
  exact of_decide_eq_true this

def avoids (zs : List Int) (L : List (List Int)) : Bool := L.all (fun p => !has zs p)

theorem avoids_no {zs : List Int} {L : List (List Int)} {i : Nat} (hi : i < L.length) (h : has zs (L.getD i []) = true) : avoids zs L = false := by
  rw [Bool.eq_false_iff]; intro h2
  unfold avoids at h2
  rw [List.all_eq_true] at h2
  have := h2 _ (getD_memL hi)
  rw [h] at this
  cases this

theorem avoids_yes {zs : List Int} {L : List (List Int)} (h : ∀ i, i < L.length → has zs (L.getD i []) = false) : avoids zs L = true := by
  unfold avoids
  rw [List.all_eq_true]
  intro p hp
  obtain ⟨i, hi, e⟩ := List.mem_iff_getElem.1 hp
  have := h i hi
  have e2 : L.getD i [] = p := by rw [← e]; simp [hi]
  rw [e2] at this
  rw [this]; rfl

set_option maxRecDepth 100000 in
set_option maxHeartbeats 2000000 in
theorem implPats_any (L : List (List Int)) (r : Bool) (W : World) (v : Value) (hv : SeesLL W v L) (hN : L.length + tot L ≤ 1048576) (hr : pats L = r) :
    Calls Tryz.prog 53 #[v] W fun e w' => e = .returned (.bool r) ∧ Below W.heap.size W w' := by
  obtain ⟨a, c, rfl⟩ := hv.value
  obtain ⟨N, hLN⟩ : ∃ N, L.length = N := ⟨_, rfl⟩
  rw [hLN] at hv hN ⊢
  have HV := Go.Lib.hid (And.intro hv (And.intro hLN (And.intro hN hr)))
  have hNm : N ≤ 1048576 := by omega
  clear hv hLN hN hr
  by_cases h4 : 4 < N
  · have h4i : (4 : Int) < (N : Int) := by omega
    have HR : Hid (r = false) := Go.Lib.hid (by rw [← HV.out.2.2.2]; exact pats_many (by rw [HV.out.2.1]; exact h4))
    go_enter Tryz.func53, Tryz.ntmps53
    go_wp2
    go_ret
    exact ⟨by rw [HR.out]; rfl, Below.refl _ _⟩
  · have h4i : ¬ (4 : Int) < (N : Int) := by omega
    go_enter Tryz.func53, Tryz.ntmps53
    go_wp2
    go_loopw [10] (fun iv wr => ∃ i : Nat, i ≤ N ∧ iv = .int .i64 i ∧ Hid (∀ k, k < i → isOrd (L.getD k []) = true) ∧ Hid (Below W.heap.size W wr)) (fun i _ => N - (intOf i).toNat)
    case atStart => exact ⟨0, Nat.zero_le _, rfl, Go.Lib.hid (fun k hk => absurd hk (by omega)), Go.Lib.hid (Below.refl _ _)⟩
    case round =>
      obtain ⟨i, hi, rfl, HI, HB⟩ := hrel
      by_cases hlt : i < N
      · obtain ⟨b, o, u1, d1, rfl, hck, hs1⟩ := (HV.out.1.grow HB.out).at HV.out.2.1 hlt
        have hmb := tot_mem (getD_memL (L := L) (i := i) (by rw [HV.out.2.1]; exact hlt))
        obtain ⟨o1, ho1⟩ : ∃ o1, isOrd (L.getD i []) = o1 := ⟨_, rfl⟩
        have CO := Go.Lib.hid (implOrder_any wr _ _ (L.getD i []) o1 hs1 (by have := HV.out.2.2.1; omega) ho1)
        obtain ⟨m, hm⟩ : ∃ m, (L.getD i []).length = m := ⟨_, rfl⟩
        rw [hm] at hck CO
        have HO1 := Go.Lib.hid ho1
        have hlti : (i : Int) < (N : Int) := by omega
        clear hs1 hmb hm ho1
        go_wp2_with fail
        refine (CO.out).mono ?_
        rintro e w2 ⟨rfl, hb⟩
        have HB2 := Go.Lib.hid (HB.out.trans (hb.mono HB.out.size))
        clear hb hck
        cases o1 with
        | true =>
          have HIN : Hid (∀ k, k < i + 1 → isOrd (L.getD k []) = true) := Go.Lib.hid (fun k hk => by
            by_cases h : k = i
            · subst h; exact HO1.out
            · exact HI.out k (by omega))
          go_wp2_with fail
          go_roundw
          case rel => exact ⟨i + 1, by omega, by go_num, HIN, HB2⟩
          case measure => simp [intOf]; omega
        | false =>
          have HR : Hid (r = false) := Go.Lib.hid (by rw [← HV.out.2.2.2]; exact pats_bad (by rw [HV.out.2.1]; exact hlt) HO1.out)
          go_wp2_with fail
          go_ret
          exact ⟨by rw [HR.out]; rfl, HB2.out⟩
      · have HR : Hid (r = true) := Go.Lib.hid (by
          rw [← HV.out.2.2.2]
          exact pats_yes (by rw [HV.out.2.1]; omega) (fun k hk => HI.out k (by rw [HV.out.2.1] at hk; omega)))
        go_wp2
        go_ret
        exact ⟨by rw [HR.out]; rfl, HB.out⟩

set_option maxRecDepth 100000 in
set_option maxHeartbeats 2000000 in
theorem specPats_any (L : List (List Int)) (r : Bool) (W : World) (v : Value) (hv : SeesLL W v L) (hN : L.length + tot L ≤ 1048576) (hr : pats L = r) :
    Calls Tryz.prog 55 #[v] W fun e w' => e = .returned (.bool r) ∧ Below W.heap.size W w' := by
  obtain ⟨a, c, rfl⟩ := hv.value
  obtain ⟨N, hLN⟩ : ∃ N, L.length = N := ⟨_, rfl⟩
  rw [hLN] at hv hN ⊢
  have HV := Go.Lib.hid (And.intro hv (And.intro hLN (And.intro hN hr)))
  have hNm : N ≤ 1048576 := by omega
  clear hv hLN hN hr
  go_enter Tryz.func55, Tryz.ntmps55
  go_wp2
  go_loopw [3] (fun iv wr => ∃ i : Nat, i ≤ N ∧ i ≤ 5 ∧ iv = .int .i64 i ∧ Hid (∀ k, k < i → isOrd (L.getD k []) = true) ∧ Hid (Below W.heap.size W wr)) (fun i _ => N - (intOf i).toNat)
  case atStart => exact ⟨0, Nat.zero_le _, by omega, rfl, Go.Lib.hid (fun k hk => absurd hk (by omega)), Go.Lib.hid (Below.refl _ _)⟩
  case round =>
    obtain ⟨i, hi, hi5, rfl, HI, HB⟩ := hrel
    by_cases hlt : i < N
    · have hlti : (i : Int) < (N : Int) := by omega
      have hd1 : decide ((i : Int) < (N : Int)) = true := decide_eq_true hlti
      by_cases h5 : i ≤ 4
      · have h5i : (i : Int) ≤ 4 := by omega
        have hd2 : decide ((i : Int) ≤ 4) = true := decide_eq_true h5i
        obtain ⟨b, o, u1, d1, rfl, hck, hs1⟩ := (HV.out.1.grow HB.out).at HV.out.2.1 hlt
        have hmb := tot_mem (getD_memL (L := L) (i := i) (by rw [HV.out.2.1]; exact hlt))
        obtain ⟨o1, ho1⟩ : ∃ o1, isOrd (L.getD i []) = o1 := ⟨_, rfl⟩
        have CO := Go.Lib.hid (l2Order_any wr _ _ (L.getD i []) o1 hs1 (by have := HV.out.2.2.1; omega) ho1)
        obtain ⟨m, hm⟩ : ∃ m, (L.getD i []).length = m := ⟨_, rfl⟩
        rw [hm] at hck CO
        have HO1 := Go.Lib.hid ho1
        clear hs1 hmb hm ho1
        go_wp2_with fail
        refine (CO.out).mono ?_
        rintro e w2 ⟨rfl, hd⟩
        have HB2 := Go.Lib.hid (HB.out.trans (hd.below W.heap.size))
        clear hd hck
        cases o1 with
        | true =>
          have HIN : Hid (∀ k, k < i + 1 → isOrd (L.getD k []) = true) := Go.Lib.hid (fun k hk => by
            by_cases h : k = i
            · subst h; exact HO1.out
            · exact HI.out k (by omega))
          go_wp2_with fail
          go_roundw
          case rel => exact ⟨i + 1, by omega, by omega, by go_num, HIN, HB2⟩
          case measure => simp [intOf]; omega
        | false =>
          have HR : Hid (r = false) := Go.Lib.hid (by rw [← HV.out.2.2.2]; exact pats_bad (by rw [HV.out.2.1]; exact hlt) HO1.out)
          go_wp2_with fail
          go_ret
          exact ⟨by rw [HR.out]; rfl, HB2.out⟩
      · have h5i : ¬ (i : Int) ≤ 4 := by omega
        have h4i : ¬ (N : Int) ≤ 4 := by omega
        have HR : Hid (r = false) := Go.Lib.hid (by rw [← HV.out.2.2.2]; exact pats_many (by rw [HV.out.2.1]; omega))
        go_wp2
        go_ret
        exact ⟨by rw [HR.out]; simp, HB.out⟩
    · have hlti : ¬ (i : Int) < (N : Int) := by omega
      by_cases h4 : N ≤ 4
      · have h4i : (N : Int) ≤ 4 := by omega
        have HR : Hid (r = true) := Go.Lib.hid (by
          rw [← HV.out.2.2.2]
          exact pats_yes (by rw [HV.out.2.1]; exact h4) (fun k hk => HI.out k (by rw [HV.out.2.1] at hk; omega)))
        go_wp2
        go_ret
        exact ⟨by rw [HR.out]; simp, HB.out⟩
      · have h4i : ¬ (N : Int) ≤ 4 := by omega
        have HR : Hid (r = false) := Go.Lib.hid (by rw [← HV.out.2.2.2]; exact pats_many (by rw [HV.out.2.1]; omega))
        go_wp2
        go_ret
        exact ⟨by rw [HR.out]; simp, HB.out⟩

set_option maxRecDepth 100000 in
set_option maxHeartbeats 2000000 in
theorem implAvoids_any (zs : List Int) (L : List (List Int)) (r : Bool) (hz : zs.Nodup) (hn1 : 1 ≤ zs.length) (hn7 : zs.length ≤ 7) (hp : pats L = true) (hr : avoids zs L = r) (W : World) (v u : Value) (n : Nat) (hv : Sees W v n (vals zs)) (hu : SeesLL W u L) :
    Calls Tryz.prog 58 #[v, u] W fun e w' => e = .returned (.bool r) ∧ Below W.heap.size W w' := by
  obtain ⟨a, c, rfl⟩ := hu.value
  obtain ⟨N, hLN⟩ : ∃ N, L.length = N := ⟨_, rfl⟩
  rw [hLN] at hu ⊢
  have HV := Go.Lib.hid (And.intro hv (And.intro hu (And.intro hLN (And.intro hr hp))))
  have hN4 : N ≤ 4 := by rw [← hLN]; exact (pats_iff.1 hp).1
  obtain ⟨_, a1, c1, rfl, -, -⟩ := hv
  clear hu hLN hr hp
  go_enter Tryz.func58, Tryz.ntmps58
  go_wp2
  go_loopw [9] (fun iv wr => ∃ i : Nat, i ≤ N ∧ iv = .int .i64 i ∧ Hid (∀ k, k < i → has zs (L.getD k []) = false) ∧ Hid (Below W.heap.size W wr)) (fun i _ => N - (intOf i).toNat)
  case atStart => exact ⟨0, Nat.zero_le _, rfl, Go.Lib.hid (fun k hk => absurd hk (by omega)), Go.Lib.hid (Below.refl _ _)⟩
  case round =>
    obtain ⟨i, hi, rfl, HI, HB⟩ := hrel
    by_cases hlt : i < N
    · obtain ⟨b, o, u1, d1, rfl, hck, hs1⟩ := (HV.out.2.1.grow HB.out).at HV.out.2.2.1 hlt
      have hpo : Ord (L.getD i []) := (pats_iff.1 HV.out.2.2.2.2).2 _ (getD_memL (by rw [HV.out.2.2.1]; exact hlt))
      obtain ⟨o1, ho1⟩ : ∃ o1, has zs (L.getD i []) = o1 := ⟨_, rfl⟩
      have CO := Go.Lib.hid (contains_any zs (L.getD i []) o1 hz hn1 hn7 hpo ho1 wr _ _ n _ (HV.out.1.grow HB.out) hs1)
      obtain ⟨m, hm⟩ : ∃ m, (L.getD i []).length = m := ⟨_, rfl⟩
      rw [hm] at hck CO
      have HO1 := Go.Lib.hid ho1
      have hlti : (i : Int) < (N : Int) := by omega
      clear hs1 hm ho1 hpo
      go_wp2_with fail
      refine (CO.out).mono ?_
      rintro e w2 ⟨rfl, hb⟩
      have HB2 := Go.Lib.hid (HB.out.trans (hb.mono HB.out.size))
      clear hb hck
      cases o1 with
      | false =>
        have HIN : Hid (∀ k, k < i + 1 → has zs (L.getD k []) = false) := Go.Lib.hid (fun k hk => by
          by_cases h : k = i
          · subst h; exact HO1.out
          · exact HI.out k (by omega))
        go_wp2_with fail
        go_roundw
        case rel => exact ⟨i + 1, by omega, by go_num, HIN, HB2⟩
        case measure => simp [intOf]; omega
      | true =>
        have HR : Hid (r = false) := Go.Lib.hid (by rw [← HV.out.2.2.2.1]; exact avoids_no (by rw [HV.out.2.2.1]; exact hlt) HO1.out)
        go_wp2_with fail
        go_ret
        exact ⟨by rw [HR.out]; rfl, HB2.out⟩
    · have HR : Hid (r = true) := Go.Lib.hid (by
        rw [← HV.out.2.2.2.1]
        exact avoids_yes (fun k hk => HI.out k (by rw [HV.out.2.2.1] at hk; omega)))
      go_wp2
      go_ret
      exact ⟨by rw [HR.out]; rfl, HB.out⟩

set_option maxRecDepth 100000 in
set_option maxHeartbeats 2000000 in
theorem specAvoids_any (zs : List Int) (L : List (List Int)) (r : Bool) (hn1 : 1 ≤ zs.length) (hn7 : zs.length ≤ 7) (hp : pats L = true) (hr : avoids zs L = r) (W : World) (v u : Value) (n : Nat) (hv : Sees W v n (vals zs)) (hu : SeesLL W u L) :
    Calls Tryz.prog 77 #[v, u] W fun e w' => e = .returned (.bool r) ∧ Below W.heap.size W w' := by
  obtain ⟨a, c, rfl⟩ := hu.value
  obtain ⟨N, hLN⟩ : ∃ N, L.length = N := ⟨_, rfl⟩
  rw [hLN] at hu ⊢
  have HV := Go.Lib.hid (And.intro hv (And.intro hu (And.intro hLN (And.intro hr hp))))
  have hN4 : N ≤ 4 := by rw [← hLN]; exact (pats_iff.1 hp).1
  obtain ⟨_, a1, c1, rfl, -, -⟩ := hv
  clear hu hLN hr hp
  go_enter Tryz.func77, Tryz.ntmps77
  go_wp2
  go_loopw [5] (fun iv wr => ∃ i : Nat, i ≤ N ∧ iv = .int .i64 i ∧ Hid (∀ k, k < i → has zs (L.getD k []) = false) ∧ Hid (Below W.heap.size W wr)) (fun i _ => N - (intOf i).toNat)
  case atStart => exact ⟨0, Nat.zero_le _, rfl, Go.Lib.hid (fun k hk => absurd hk (by omega)), Go.Lib.hid (Below.refl _ _)⟩
  case round =>
    obtain ⟨i, hi, rfl, HI, HB⟩ := hrel
    by_cases hlt : i < N
    · obtain ⟨b, o, u1, d1, rfl, hck, hs1⟩ := (HV.out.2.1.grow HB.out).at HV.out.2.2.1 hlt
      have hpo : Ord (L.getD i []) := (pats_iff.1 HV.out.2.2.2.2).2 _ (getD_memL (by rw [HV.out.2.2.1]; exact hlt))
      obtain ⟨o1, ho1⟩ : ∃ o1, has zs (L.getD i []) = o1 := ⟨_, rfl⟩
      have CO := Go.Lib.hid (l3In_any zs (L.getD i []) o1 hn1 hn7 hpo ho1 wr _ _ n _ (HV.out.1.grow HB.out) hs1)
      obtain ⟨m, hm⟩ : ∃ m, (L.getD i []).length = m := ⟨_, rfl⟩
      rw [hm] at hck CO
      have HO1 := Go.Lib.hid ho1
      have hlti : (i : Int) < (N : Int) := by omega
      clear hs1 hm ho1 hpo
      go_wp2_with fail
      refine (CO.out).mono ?_
      rintro e w2 ⟨rfl, hb⟩
      have HB2 := Go.Lib.hid (HB.out.trans (hb.mono HB.out.size))
      clear hb hck
      cases o1 with
      | false =>
        have HIN : Hid (∀ k, k < i + 1 → has zs (L.getD k []) = false) := Go.Lib.hid (fun k hk => by
          by_cases h : k = i
          · subst h; exact HO1.out
          · exact HI.out k (by omega))
        go_wp2_with fail
        go_roundw
        case rel => exact ⟨i + 1, by omega, by go_num, HIN, HB2⟩
        case measure => simp [intOf]; omega
      | true =>
        have HR : Hid (r = false) := Go.Lib.hid (by rw [← HV.out.2.2.2.1]; exact avoids_no (by rw [HV.out.2.2.1]; exact hlt) HO1.out)
        go_wp2_with fail
        go_ret
        exact ⟨by rw [HR.out]; rfl, HB2.out⟩
    · have HR : Hid (r = true) := Go.Lib.hid (by
        rw [← HV.out.2.2.2.1]
        exact avoids_yes (fun k hk => HI.out k (by rw [HV.out.2.2.1] at hk; omega)))
      go_wp2
      go_ret
      exact ⟨by rw [HR.out]; rfl, HB.out⟩

end Go.Proofs.YtnhhnffolmgceaaGreat.AvoidC

end

section
namespace Go.Proofs.YtnhhnffolmgceaaGreat.PubBC
open Go.RowKit SeesC IntsC ExactC OrdMath OrdFacts InC OrderC PatMath ShapeC InsertC ListsC ListsEC ListsFC PlacesC HasC SpecPlC LLC AvoidC

def avoidsAns (zs : List Int) (L : List (List Int)) : Bool × Bool := if Ord zs ∧ pats L = true then (avoids zs L, true) else (false, false)

/-- For how many of the first k numbers the order with it behind avoids all. -/
def kids (zs : List Int) (L : List (List Int)) : Nat → Nat
  | 0 => 0
  | k + 1 => kids zs L k + (if avoids (ins zs ((k : Int) + 1)) L = true then 1 else 0)

theorem kids_le (zs : List Int) (L : List (List Int)) : ∀ k, kids zs L k ≤ k := by
  intro k
  induction k with
  | zero => simp [kids]
  | succ k ih => unfold kids; split <;> omega

def childrenAns (zs : List Int) (L : List (List Int)) : Int × Bool := if Ord zs ∧ zs.length ≠ 7 ∧ pats L = true then ((kids zs L (zs.length + 1) : Nat), true) else (0, false)

theorem ins_nodup {zs : List Int} (h : zs.Nodup) (k : Int) : (ins zs k).Nodup := by
  unfold ins
  rw [List.nodup_append]
  refine ⟨?_, by simp, ?_⟩
  · rw [List.nodup_iff_pairwise_ne, List.pairwise_map]
    refine List.Pairwise.imp ?_ (List.nodup_iff_pairwise_ne.1 h)
    intro a b hab
    split <;> split <;> omega
  · intro x hx y hy e
    simp at hy
    obtain ⟨z, _, rfl⟩ := List.mem_map.1 hx
    split at e <;> omega

theorem ins_ord {zs : List Int} (h : Ord zs) (h7 : zs.length ≠ 7) {k : Int} (h1 : 1 ≤ k) (h2 : k ≤ (zs.length : Int) + 1) : Ord (ins zs k) := by
  refine ⟨by rw [ins_len]; omega, by rw [ins_len]; have := h.2.1; omega, ?_, ins_nodup h.2.2.2 k⟩
  intro z hz
  rw [ins_len]
  unfold ins at hz
  rw [List.mem_append] at hz
  rcases hz with hz | hz
  · obtain ⟨y, hy, rfl⟩ := List.mem_map.1 hz
    have := h.2.2.1 y hy
    split <;> omega
  · simp at hz
    omega

end Go.Proofs.YtnhhnffolmgceaaGreat.PubBC

end

section
namespace Go.Proofs.YtnhhnffolmgceaaGreat.AvMath
open OrdMath OrdFacts PatMath DropMath InsertC CmpC ListsBC AvoidC PubBC

theorem up_lt {k a b : Int} : up k a < up k b ↔ a < b := by unfold up; split <;> split <;> omega
theorem up_inj {k a b : Int} (h : up k a = up k b) : a = b := by unfold up at h; split at h <;> split at h <;> omega

theorem alike_up (k : Int) (ys : List Int) : PatMath.Alike (ys.map (up k)) ys := by
  refine ⟨by simp, fun i j hi hj => ?_⟩
  have hi2 : i < ys.length := by simpa using hi
  have hj2 : j < ys.length := by simpa using hj
  rw [up_at hi2 rfl, up_at hj2 rfl]
  exact up_lt

theorem pick_ins {x : List Int} {k : Int} {q : List Nat} (hq : ∀ p ∈ q, p < x.length) : pick (ins x k) q = (pick x q).map (up k) := by
  unfold pick
  rw [List.map_map]
  apply List.map_congr_left
  intro p hp
  have h := hq p hp
  show (ins x k).getD p 0 = up k (x.getD p 0)
  rw [ins_up, List.getD_eq_getElem?_getD, List.getElem?_append_left (by simpa using h), ← List.getD_eq_getElem?_getD, up_at h rfl]

theorem has_ins {x p : List Int} {k : Int} (h : has x p = true) : has (ins x k) p = true := by
  obtain ⟨q, hq, e⟩ := has_iff.1 h
  have ha := ch_asc _ _ (asc_nil _) q hq
  have hl := (ch_pre _ _ q hq).1
  have hm : q ∈ ch (ins x k).length p.length [] := by
    have h1 := mem_ch (n := (ins x k).length) p.length [] q ⟨ha.1, fun y hy => by rw [ins_len]; exact Nat.lt_succ_of_lt (ha.2 y hy)⟩ (by simpa using hl)
    exact h1
  refine has_iff.2 ⟨q, hm, ?_⟩
  rw [pick_ins ha.2, alike_shp (alike_up k _), e]

theorem avoids_ins {x : List Int} {k : Int} {L : List (List Int)} (h : avoids (ins x k) L = true) : avoids x L = true := by
  unfold avoids at *
  rw [List.all_eq_true] at *
  intro p hp
  have h1 := h p hp
  cases hx : has x p with
  | false => rfl
  | true => rw [has_ins hx] at h1; exact h1

/-- A list of the numbers 1 to n. -/
def OrdN (n : Nat) (zs : List Int) : Prop := zs.length = n ∧ (∀ z ∈ zs, 1 ≤ z ∧ z ≤ (n : Int)) ∧ zs.Nodup

theorem OrdN.ord {n : Nat} {zs : List Int} (h : OrdN n zs) (h1 : 1 ≤ n) (h7 : n ≤ 7) : Ord zs :=
  ⟨by rw [h.1]; exact h1, by rw [h.1]; exact h7, fun z hz => by rw [h.1]; exact h.2.1 z hz, h.2.2⟩

theorem ordN_of {zs : List Int} (h : Ord zs) : OrdN zs.length zs := ⟨rfl, h.2.2.1, h.2.2.2⟩

theorem ins_ordN {n : Nat} {x : List Int} {k : Int} (h : OrdN n x) (h1 : 1 ≤ k) (h2 : k ≤ (n : Int) + 1) : OrdN (n + 1) (ins x k) := by
  refine ⟨by rw [ins_len, h.1], fun z hz => ?_, ins_nodup h.2.2 k⟩
  unfold ins at hz
  rw [List.mem_append] at hz
  rcases hz with hz | hz
  · obtain ⟨y, hy, rfl⟩ := List.mem_map.1 hz
    have := h.2.1 y hy
    split <;> omega
  · simp at hz
    omega

def down (k z : Int) : Int := if k < z then z - 1 else z

theorem up_down {k z : Int} (h : z ≠ k) : up k (down k z) = z := by unfold up down; split <;> split <;> omega

theorem ordN_last {n : Nat} {zs : List Int} (h : OrdN (n + 1) zs) : ∃ x k, zs = ins x k ∧ OrdN n x ∧ 1 ≤ k ∧ k ≤ (n : Int) + 1 := by
  obtain ⟨hl, hr, hn⟩ := h
  have hne : zs ≠ [] := fun e => by rw [e] at hl; simp at hl
  obtain ⟨y, k, rfl⟩ : ∃ y k, zs = y ++ [k] := ⟨zs.dropLast, zs.getLast hne, (List.dropLast_concat_getLast hne).symm⟩
  have hyl : y.length = n := by simpa using hl
  rw [List.nodup_append] at hn
  have hk := hr k (by simp)
  have hyk : ∀ z ∈ y, z ≠ k := fun z hz e => hn.2.2 z hz k (by simp) e
  have e1 : (y.map (down k)).map (up k) = y := by
    rw [List.map_map]
    conv => rhs; rw [← List.map_id y]
    exact List.map_congr_left (fun z hz => up_down (hyk z hz))
  refine ⟨y.map (down k), k, by rw [ins_up, e1], ⟨by simp [hyl], fun z hz => ?_, ?_⟩, hk.1, by omega⟩
  · obtain ⟨a, ha, rfl⟩ := List.mem_map.1 hz
    have h1 := hr a (by simp [ha])
    have h2 := hyk a ha
    unfold down
    split <;> omega
  · have h3 : ((y.map (down k)).map (up k)).Nodup := by rw [e1]; exact hn.1
    exact List.Pairwise.of_map (up k) (fun a b hab e => hab (by rw [e])) h3

theorem ins_inj {x y : List Int} {k l : Int} (h : ins x k = ins y l) : x = y ∧ k = l := by
  rw [ins_up, ins_up] at h
  have h2 := List.append_inj' h rfl
  have e : k = l := by simpa using h2.2
  subst e
  exact ⟨(List.map_inj_right (fun a b hab => up_inj hab)).1 h2.1, rfl⟩

/-- Those that an order has one number more. -/
def chil (L : List (List Int)) (i : Nat) (x : List Int) : List (List Int) := ((List.range (i + 1)).map (fun (k : Nat) => ins x ((k : Int) + 1))).filter (fun y => avoids y L)

def av (L : List (List Int)) : Nat → List (List Int)
  | 0 => [[]]
  | i + 1 => (av L i).flatMap (chil L i)

theorem mem_av {L : List (List Int)} : ∀ {n : Nat} {zs : List Int}, zs ∈ av L n ↔ OrdN n zs ∧ (n = 0 ∨ avoids zs L = true) := by
  intro n
  induction n with
  | zero =>
    intro zs
    constructor
    · intro h
      have e : zs = [] := by simpa [av] using h
      subst e
      exact ⟨⟨rfl, by simp, by simp⟩, .inl rfl⟩
    · rintro ⟨⟨h, _⟩, _⟩
      have e : zs = [] := List.eq_nil_of_length_eq_zero h
      simp [av, e]
  | succ n ih =>
    intro zs
    show zs ∈ (av L n).flatMap (chil L n) ↔ _
    rw [List.mem_flatMap]
    constructor
    · rintro ⟨x, hx, hz⟩
      unfold chil at hz
      rw [List.mem_filter] at hz
      obtain ⟨k, hk, rfl⟩ := List.mem_map.1 hz.1
      rw [List.mem_range] at hk
      exact ⟨ins_ordN (ih.1 hx).1 (by omega) (by omega), .inr hz.2⟩
    · rintro ⟨ho, ha⟩
      obtain ⟨x, k, rfl, hx, h1, h2⟩ := ordN_last ho
      have ha2 : avoids (ins x k) L = true := by
        rcases ha with h | h
        · omega
        · exact h
      refine ⟨x, ih.2 ⟨hx, .inr (avoids_ins ha2)⟩, ?_⟩
      unfold chil
      rw [List.mem_filter]
      refine ⟨List.mem_map.2 ⟨(k - 1).toNat, by rw [List.mem_range]; omega, ?_⟩, ha2⟩
      congr 1
      omega

theorem nodup_av (L : List (List Int)) : ∀ n, (av L n).Nodup := by
  intro n
  induction n with
  | zero => simp [av]
  | succ n ih =>
    show ((av L n).flatMap (chil L n)).Pairwise (· ≠ ·)
    rw [List.pairwise_flatMap]
    constructor
    · intro x _
      unfold chil
      apply List.Pairwise.filter
      rw [List.pairwise_map]
      refine List.Pairwise.imp ?_ (List.nodup_iff_pairwise_ne.1 (List.nodup_range (n := n + 1)))
      intro a b hab e
      have := (ins_inj e).2
      omega
    · refine List.Pairwise.imp ?_ (List.nodup_iff_pairwise_ne.1 ih)
      intro x y hxy u hu v hv e
      unfold chil at hu hv
      rw [List.mem_filter] at hu hv
      obtain ⟨k, _, rfl⟩ := List.mem_map.1 hu.1
      obtain ⟨l, _, rfl⟩ := List.mem_map.1 hv.1
      exact hxy (ins_inj e).1

/-! ### All orders -/
def allOrd (n : Nat) : List (List Int) := (List.range (fact n)).map (fun k => atRun n (iota n) k)

theorem mem_allOrd {n : Nat} {zs : List Int} (h1 : 1 ≤ n) (h7 : n ≤ 7) : zs ∈ allOrd n ↔ OrdN n zs := by
  unfold allOrd
  rw [List.mem_map]
  constructor
  · rintro ⟨k, hk, rfl⟩
    rw [List.mem_range] at hk
    have h := (rank_of_at h1 h7 hk).1
    have hl := atRun_len n (iota n) k
    have h2 := ordN_of h
    rw [hl] at h2
    exact h2
  · intro h
    have h2 := at_of_rank (h.ord h1 h7)
    rw [h.1] at h2
    exact ⟨_, List.mem_range.2 h2.1, h2.2⟩

theorem allOrd_ranks (n : Nat) : (allOrd n).Pairwise (fun a b => rankR a < rankR b) := by
  unfold allOrd
  rw [List.pairwise_map, List.pairwise_iff_getElem]
  intro i j hi hj hij
  have hi2 : i < fact n := by simpa using hi
  have hj2 : j < fact n := by simpa using hj
  rw [List.getElem_range, List.getElem_range, (rank_at n (iota n) i (iota_len n) (iota_sorted n) hi2).2, (rank_at n (iota n) j (iota_len n) (iota_sorted n) hj2).2]
  exact hij

def avOrd (n : Nat) (L : List (List Int)) : List (List Int) := (allOrd n).filter (fun y => avoids y L)

theorem mem_avOrd {n : Nat} {L : List (List Int)} {zs : List Int} (h1 : 1 ≤ n) (h7 : n ≤ 7) : zs ∈ avOrd n L ↔ zs ∈ av L n := by
  unfold avOrd
  rw [List.mem_filter, mem_allOrd h1 h7, mem_av]
  constructor
  · rintro ⟨a, b⟩; exact ⟨a, .inr b⟩
  · rintro ⟨a, b⟩
    refine ⟨a, ?_⟩
    rcases b with b | b
    · omega
    · exact b

theorem avOrd_ranks (n : Nat) (L : List (List Int)) : (avOrd n L).Pairwise (fun a b => rankR a < rankR b) := (allOrd_ranks n).filter _

theorem nodup_sub : ∀ {l m : List (List Int)}, l.Nodup → (∀ x ∈ l, x ∈ m) → l.length ≤ m.length
  | [], m, _, _ => by simp
  | a :: l, m, hn, hs => by
    have ha : a ∈ m := hs a (by simp)
    have hn2 := List.nodup_cons.1 hn
    have ih := nodup_sub (l := l) (m := m.erase a) hn2.2 (fun x hx => (List.mem_erase_of_ne (fun e => hn2.1 (by rw [← e]; exact hx))).2 (hs x (by simp [hx])))
    have h2 := List.length_erase_of_mem ha
    have h3 : 0 < m.length := List.length_pos_of_mem ha
    simp only [List.length_cons]
    omega

theorem av_count {n : Nat} {L : List (List Int)} (h1 : 1 ≤ n) (h7 : n ≤ 7) : (av L n).length = (avOrd n L).length := by
  have hn : (avOrd n L).Nodup := by
    refine List.Pairwise.imp ?_ (avOrd_ranks n L)
    intro a b h e
    rw [e] at h
    omega
  exact Nat.le_antisymm (nodup_sub (nodup_av L n) (fun x hx => (mem_avOrd h1 h7).2 hx)) (nodup_sub hn (fun x hx => (mem_avOrd h1 h7).1 hx))

theorem allOrd_len (n : Nat) : (allOrd n).length = fact n := by simp [allOrd]

theorem av_many {n : Nat} {L : List (List Int)} (h7 : n ≤ 7) : (av L n).length ≤ 5040 := by
  by_cases h1 : 1 ≤ n
  · rw [av_count h1 h7]
    exact Nat.le_trans (List.length_filter_le _ _) (by rw [allOrd_len]; exact fact_7 h7)
  · have : n = 0 := by omega
    subst this
    simp [av]

def countAvAns (n : Int) (L : List (List Int)) : Int × Bool := if 1 ≤ n ∧ n ≤ 7 ∧ pats L = true then (((avOrd n.toNat L).length : Nat), true) else (0, false)

/-! ### The first one -/
theorem rank_mono : ∀ (a b left : List Int), left.Pairwise (· < ·) → a.Perm left → b.Perm left → cmpL a b < 0 → rankR a < rankR b
  | [], b, left, _, ha, hb, h => by
    have : left = [] := by simpa using ha.symm
    subst this
    have : b = [] := by simpa using hb
    subst this
    exact absurd h (by simp [cmpL])
  | x :: a, [], left, _, ha, hb, _ => by
    have : left = [] := by simpa using hb.symm
    subst this
    exact absurd ha (by simp)
  | x :: a, y :: b, left, hp, ha, hb, h => by
    have hca : cl x a = cl x left := by rw [← cl_perm ha, cl_self]
    have hcb : cl y b = cl y left := by rw [← cl_perm hb, cl_self]
    have hlen : a.length = b.length := by have := ha.length_eq; have := hb.length_eq; simp at *; omega
    show cl x a * fact a.length + rankR a < cl y b * fact b.length + rankR b
    rw [hca, hcb, ← hlen]
    have hra := rankR_lt a
    unfold cmpL at h
    by_cases hxy : x < y
    · have hc : cl x left < cl y left := cl_lt_of_lt hxy (ha.mem_iff.1 (by simp))
      have h1 : (cl x left + 1) * fact a.length ≤ cl y left * fact a.length := Nat.mul_le_mul_right _ hc
      rw [Nat.add_mul] at h1
      omega
    · rw [if_neg hxy] at h
      by_cases hyx : y < x
      · rw [if_pos hyx] at h
        exact absurd h (by decide)
      · rw [if_neg hyx] at h
        have e : x = y := by omega
        subst e
        have h1 := sorted_at left x hp (ha.mem_iff.1 (by simp))
        have he := erase_perm h1.2
        rw [h1.1] at he
        have pa : a.Perm (left.eraseIdx (cl x left)) := (ha.trans he.symm).cons_inv
        have pb : b.Perm (left.eraseIdx (cl x left)) := (hb.trans he.symm).cons_inv
        have ih := rank_mono a b _ (hp.sublist (List.eraseIdx_sublist left _)) pa pb h
        omega

/-- The least of a list, from one on. -/
def least : List (List Int) → List Int → List Int
  | [], b => b
  | x :: t, b => least t (if cmpL x b < 0 then x else b)

theorem least_mem : ∀ (t : List (List Int)) (b : List Int), least t b = b ∨ least t b ∈ t
  | [], b => .inl rfl
  | x :: t, b => by
    unfold least
    rcases least_mem t (if cmpL x b < 0 then x else b) with h | h
    · rw [h]
      split
      · exact .inr (by simp)
      · exact .inl rfl
    · exact .inr (List.mem_cons_of_mem _ h)

theorem cmpL_ge_trans {a b c : List Int} (h1 : ¬ cmpL a b < 0) (h2 : ¬ cmpL b c < 0) : ¬ cmpL a c < 0 := by
  intro h
  have n1 := cmpL_neg a b
  have n2 := cmpL_neg b c
  by_cases e1 : cmpL a b = 0
  · have := cmpL_eq _ _ e1; subst this; exact h2 h
  by_cases e2 : cmpL b c = 0
  · have := cmpL_eq _ _ e2; subst this; exact h1 h
  have h3 := cmpL_lt_trans c b a (by omega) (by omega)
  have n3 := cmpL_neg a c
  omega

theorem least_min : ∀ (t : List (List Int)) (b : List Int), ∀ x ∈ b :: t, ¬ cmpL x (least t b) < 0
  | [], b, x, hx => by
    have : x = b := by simpa using hx
    subst this
    show ¬ cmpL x x < 0
    rw [cmpL_same]
    decide
  | y :: t, b, x, hx => by
    have ih := least_min t (if cmpL y b < 0 then y else b)
    show ¬ cmpL x (least t (if cmpL y b < 0 then y else b)) < 0
    have hm := ih (if cmpL y b < 0 then y else b) (by simp)
    rcases List.mem_cons.1 hx with rfl | hx
    · refine cmpL_ge_trans ?_ hm
      split
      · rename_i h
        intro h2
        have := cmpL_neg x y
        omega
      · rw [cmpL_same]; decide
    · rcases List.mem_cons.1 hx with rfl | hx
      · refine cmpL_ge_trans ?_ hm
        split
        · rw [cmpL_same]; decide
        · assumption
      · exact ih x (by simp [hx])

theorem ordN_perm {n : Nat} {zs : List Int} (h : OrdN n zs) : zs.Perm (iota n) :=
  perm_of_sub _ _ h.2.2 (fun x hx => mem_iota.2 (h.2.1 x hx)) (by rw [iota_len, h.1]; exact Nat.le_refl _)

theorem least_first {n : Nat} {L : List (List Int)} {h : List Int} {t : List (List Int)} (h1 : 1 ≤ n) (h7 : n ≤ 7) (hav : av L n = h :: t) : ∃ t', avOrd n L = least t h :: t' := by
  have hmem : least t h ∈ av L n := by
    rw [hav]
    rcases least_mem t h with e | e
    · rw [e]; simp
    · exact List.mem_cons_of_mem _ e
  have hm2 := (mem_avOrd h1 h7).2 hmem
  cases hao : avOrd n L with
  | nil => rw [hao] at hm2; simp at hm2
  | cons f t' =>
    refine ⟨t', ?_⟩
    have hf : f ∈ av L n := (mem_avOrd h1 h7).1 (by rw [hao]; simp)
    have hmin := least_min t h f (by rw [← hav]; exact hf)
    by_cases e : f = least t h
    · rw [e]
    · exfalso
      rw [hao] at hm2
      rcases List.mem_cons.1 hm2 with e2 | hin
      · exact e e2.symm
      · have hr := avOrd_ranks n L
        rw [hao, List.pairwise_cons] at hr
        have hlt := hr.1 _ hin
        by_cases hc : cmpL (least t h) f < 0
        · have := rank_mono _ _ (iota n) (iota_sorted n) (ordN_perm (mem_av.1 hmem).1) (ordN_perm (mem_av.1 hf).1) hc
          omega
        · have n1 := cmpL_neg f (least t h)
          have : cmpL f (least t h) = 0 := by omega
          exact e (cmpL_eq _ _ this)

theorem av_nil {n : Nat} {L : List (List Int)} (h1 : 1 ≤ n) (h7 : n ≤ 7) : av L n = [] ↔ avOrd n L = [] := by
  rw [← List.length_eq_zero_iff, av_count h1 h7, List.length_eq_zero_iff]

def firstAvAns (n : Int) (L : List (List Int)) : List Int × Bool := if 1 ≤ n ∧ n ≤ 7 ∧ pats L = true ∧ avOrd n.toNat L ≠ [] then ((avOrd n.toNat L).headD [], true) else ([], false)

theorem avOrd_len {n : Nat} {L : List (List Int)} {zs : List Int} (h : zs ∈ avOrd n L) : zs.length = n := by
  unfold avOrd allOrd at h
  rw [List.mem_filter] at h
  obtain ⟨k, _, rfl⟩ := List.mem_map.1 h.1
  exact atRun_len _ _ _

theorem firstAv_len {n : Int} {L : List (List Int)} {xs : List Int} {b : Bool} (h : firstAvAns n L = (xs, b)) : xs.length ≤ 1048576 := by
  unfold firstAvAns at h
  split at h
  · rename_i hc
    cases h
    obtain ⟨f, t, e⟩ := List.exists_cons_of_ne_nil hc.2.2.2
    rw [e]
    have := avOrd_len (n := n.toNat) (L := L) (zs := f) (by rw [e]; simp)
    show f.length ≤ 1048576
    omega
  · cases h
    simp

/-! ### The most places -/
def mostTo (n : Nat) (p : List Int) : Nat → List Int × Int
  | 0 => ([], -1)
  | k + 1 => if (mostTo n p k).2 < ((placesOf (atRun n (iota n) k) p).length : Int) then (atRun n (iota n) k, ((placesOf (atRun n (iota n) k) p).length : Int)) else mostTo n p k

def mostAns (n : Int) (p : List Int) : List Int × Int × Bool := if 1 ≤ n ∧ n ≤ 7 ∧ Ord p then ((mostTo n.toNat p (fact n.toNat)).1, (mostTo n.toNat p (fact n.toNat)).2, true) else ([], 0, false)

theorem mostTo_len (n : Nat) (p : List Int) : ∀ k, (mostTo n p k).1.length ≤ n := by
  intro k
  induction k with
  | zero => simp [mostTo]
  | succ k ih =>
    unfold mostTo
    split
    · rw [atRun_len]; exact Nat.le_refl _
    · exact ih

theorem most_len {n : Int} {p xs : List Int} {m : Int} {b : Bool} (h : mostAns n p = (xs, m, b)) : xs.length ≤ 1048576 := by
  unfold mostAns at h
  split at h
  · cases h
    have := mostTo_len n.toNat p (fact n.toNat)
    omega
  · cases h
    simp

end Go.Proofs.YtnhhnffolmgceaaGreat.AvMath

end

section
namespace Go.Proofs.YtnhhnffolmgceaaGreat.SpecAvC
open Go.RowKit SeesC IntsC ExactC OrdMath OrdFacts InC OrderC PatMath ShapeC InsertC ListsC ListsEC ListsFC ListsGC PlacesC LLC AvoidC PubBC AvMath

def part (L : List (List Int)) (x : List Int) (j : Nat) : List (List Int) := ((List.range j).map (fun (k : Nat) => ins x ((k : Int) + 1))).filter (fun y => avoids y L)

theorem part_snoc (L : List (List Int)) (x : List Int) (j : Nat) : part L x (j + 1) = part L x j ++ (if avoids (ins x ((j : Int) + 1)) L = true then [ins x ((j : Int) + 1)] else []) := by
  unfold part
  rw [List.range_succ, List.map_append, List.filter_append]
  congr 1
  by_cases h : avoids (ins x ((j : Int) + 1)) L = true
  · simp [h]
  · simp [h]

theorem part_le (L : List (List Int)) (x : List Int) (j : Nat) : (part L x j).length ≤ j := by
  unfold part
  exact Nat.le_trans (List.length_filter_le _ _) (by simp)

set_option maxRecDepth 100000 in
set_option maxHeartbeats 4000000 in
theorem l3Avoiding_any (c : Nat) (hc7 : c ≤ 7) (L : List (List Int)) (hp : pats L = true) (W : World) (u : Value) (hu : SeesLL W u L) :
    Calls Tryz.prog 56 #[.int .i64 (c : Int), u] W fun e w' => ∃ v, e = .returned v ∧ Lists w' W.heap.size c v ((av L c).map vals) ∧ Below W.heap.size W w' := by
  obtain ⟨j0, hj, hy0, hy1, hy2⟩ := info_parts infoL
  have HU := Go.Lib.hid (And.intro hu hp)
  have HS := Go.Lib.hid (lists_start W)
  clear hu hp
  go_enter Tryz.func56, Tryz.ntmps56
  go_wp2
  go_loopw [5, 6] (fun lv iv wr => ∃ (l g cp N : Nat), l ≤ c ∧ iv = .int .i64 l ∧ lv = .slice (some ⟨g, 0, none⟩) N cp ∧ Hid (N = (av L l).length ∧ Lists wr W.heap.size l (.slice (some ⟨g, 0, none⟩) N cp) ((av L l).map vals) ∧ Below W.heap.size W wr)) (fun _ i _ => c - (intOf i).toNat)
  case atStart => exact ⟨0, W.heap.size + 1, 1, 1, Nat.zero_le _, rfl, rfl, Go.Lib.hid ⟨rfl, HS.out.1, HS.out.2⟩⟩
  case round =>
    obtain ⟨l, g, cp, N, hl, rfl, rfl, HL⟩ := hrel
    clear HS
    by_cases hlt : l < c
    · obtain ⟨wl, rfl⟩ : ∃ wl, wl = wr := ⟨_, rfl⟩
      have hlti : (l : Int) < (c : Int) := by omega
      have hl6 : l ≤ 6 := by omega
      have HB0 : Hid (Lists (wl.alloc (.cells #[] 36)) wl.heap.size (l + 1) (.slice (some ⟨wl.heap.size, 0, none⟩) 0 0) ([] : List (List Value))) := Go.Lib.hid ⟨[], rfl, World.ownsRow_made (base := wl.heap.size) (e := 36) (size := 1) wl #[] 0 (Nat.le_refl _) (by unfold maxLen; omega) rfl, fun i hi => absurd hi (by simp), by simp, fun p hp => by simp at hp⟩
      have HB1 : Hid (Below wl.heap.size wl (wl.alloc (.cells #[] 36))) := Go.Lib.hid ((Below.refl _ _).alloc (Nat.le_refl _) _)
      have hNm : N ≤ 5040 := by rw [HL.out.1]; exact av_many (by omega)
      go_wp2
      go_loopw [7, 8] (fun ov iv wr => ∃ (i g2 c2 N2 : Nat) (Y : List (List Int)), i ≤ N ∧ iv = .int .i64 i ∧ ov = .slice (some ⟨g2, 0, none⟩) N2 c2 ∧ Hid (Y = ((av L l).take i).flatMap (chil L l)) ∧ Hid (N2 = Y.length ∧ Lists wr wl.heap.size (l + 1) (.slice (some ⟨g2, 0, none⟩) N2 c2) (Y.map vals) ∧ Below wl.heap.size wl wr)) (fun _ i _ => N - (intOf i).toNat)
      case atStart => exact ⟨0, wl.heap.size, 0, 0, [], Nat.zero_le _, rfl, rfl, Go.Lib.hid (by simp), Go.Lib.hid ⟨rfl, HB0.out, HB1.out⟩⟩
      case round =>
        obtain ⟨i, g2, c2, N2, Y0, hiN, rfl, rfl, HY0, HX0⟩ := hrel
        clear HB0 HB1
        by_cases hlt2 : i < N
        · have hil : i < (av L l).length := by rw [← HL.out.1]; exact hlt2
          obtain ⟨b, hb⟩ : ∃ b, (av L l)[i] = b := ⟨_, rfl⟩
          have hbm : OrdN l b := (mem_av.1 (by rw [← hb]; exact List.getElem_mem _ : b ∈ av L l)).1
          have HOB := Go.Lib.hid (And.intro hbm (Exists.intro hil hb : ∃ h : i < (av L l).length, (av L l)[i] = b))
          have hY0 : Y0.length ≤ 7 * 5040 := by
            rw [HY0.out]
            have h1 := flat_len (g := chil L l) (m := 7) (l := (av L l).take i) (fun b _ => by
              have h1 := part_le L b (l + 1)
              show (part L b (l + 1)).length ≤ 7
              omega)
            have h2 : ((av L l).take i).length ≤ 5040 := by rw [List.length_take]; omega
            omega
          have hiNi : (i : Int) < (N : Int) := by omega
          clear hb hbm hil
          go_wp2_with fail
          go_loopw [7, 9] (fun ov pv wr => ∃ (j g3 c3 N3 : Nat) (Y : List (List Int)), j ≤ l + 1 ∧ pv = .int .i64 ((j + 1 : Nat) : Int) ∧ ov = .slice (some ⟨g3, 0, none⟩) N3 c3 ∧ Hid (Y = Y0 ++ part L b j) ∧ Hid (N3 = Y.length ∧ Lists wr wl.heap.size (l + 1) (.slice (some ⟨g3, 0, none⟩) N3 c3) (Y.map vals) ∧ Below wl.heap.size wl wr)) (fun _ p _ => l + 2 - (intOf p).toNat)
          case atStart => exact ⟨0, g2, c2, N2, Y0, Nat.zero_le _, rfl, rfl, Go.Lib.hid (by simp [part]), Go.Lib.hid ⟨HX0.out.1, HX0.out.2.1, HX0.out.2.2⟩⟩
          case round =>
            obtain ⟨j, g3, c3, N3, Y, hjm, rfl, rfl, HY, HX⟩ := hrel
            obtain ⟨kk, hkk⟩ : ∃ kk, j + 1 = kk := ⟨_, rfl⟩
            rw [hkk]
            obtain ⟨hil, hb⟩ := HOB.out.2
            obtain ⟨gs0, hg0, hog0, hin0, _, _⟩ := HL.out.2.1.kept HX.out.2.2
            rw [List.length_map, ← HL.out.1] at hg0 hog0 hin0
            obtain ⟨p, hpp⟩ : ∃ p, gs0.getD i (0, 0) = p := ⟨_, rfl⟩
            have hob := hin0 i hlt2
            have hgd : ((av L l).map vals).getD i [] = vals b := by rw [← hb]; simp [hil]
            rw [hpp, hgd] at hob
            have hck : wr.cell? ⟨g, i, none⟩ = some (.slice (some ⟨p.1, 0, none⟩) l p.2) := by
              rw [hog0.cellAt i (by omega)]
              rw [← hpp]
              simp [show i < gs0.length by omega, sl]
            obtain ⟨p1, p2⟩ := p
            unfold sl at hob
            simp only at hob hck
            clear hpp hgd hg0 hog0 hin0 hb hil
            by_cases hlt3 : j < l + 1
            · have hcond : (kk : Int) ≤ (l : Int) + 1 := by omega
              have hkk8 : kk ≤ 7 := by omega
              have hio := (ins_ordN HOB.out.1 (k := (kk : Int)) (by omega) (by omega)).ord (by omega) (by omega)
              obtain ⟨wj, rfl⟩ : ∃ wj, wj = wr := ⟨_, rfl⟩
              have CI := Go.Lib.hid (l3Insert_any b (kk : Int) wj (.slice (some ⟨p1, 0, none⟩) l p2) l (by omega) (fun z hz => by have := HOB.out.1.2.1 z hz; omega) (Sees.owns hob))
              obtain ⟨o1, ho1⟩ : ∃ o1, avoids (ins b (kk : Int)) L = o1 := ⟨_, rfl⟩
              have CA := Go.Lib.hid (fun (W' : World) (vv : Value) (h1 : Sees W' vv (l + 1) (vals (ins b (kk : Int)))) (h : Below W.heap.size W W') => specAvoids_any (ins b (kk : Int)) L o1 hio.1 hio.2.1 HU.out.2 ho1 W' vv _ (l + 1) h1 (HU.out.1.grow h))
              have HO1 := Go.Lib.hid ho1
              have HKK : Hid ((j : Int) + 1 = (kk : Int)) := Go.Lib.hid (by omega)
              have HJK := Go.Lib.hid hkk
              have hN3 : N3 ≤ 8 * 5040 := by
                rw [HX.out.1, HY.out, List.length_append]
                have h1 := part_le L b j
                omega
              obtain ⟨gs, hg, hog, hin, hnd, hne⟩ := HX.out.2.1
              rw [List.length_map, ← HX.out.1] at hg hog hin
              have HG := Go.Lib.hid (And.intro hg (And.intro hog (And.intro hin hnd)))
              clear hob hkk hio ho1 hg hog hin hnd hne
              go_wp2_with fail
              refine (CI.out).mono ?_
              rintro e w3 ⟨gv, rfl, ho, hb⟩
              obtain ⟨gu, cu, rfl⟩ := ownsRow_succ ho
              have hwjl := HX.out.2.2.size
              have H3 := Go.Lib.hid (And.intro ho (And.intro hb (HX.out.2.2.trans (hb.mono hwjl))))
              clear ho hb CI hck
              go_wp2_with fail
              refine (CA.out _ _ (Sees.owns H3.out.1) (HL.out.2.2.trans (H3.out.2.2.mono HL.out.2.2.size))).mono ?_
              rintro e w4 ⟨rfl, hb4⟩
              have HB4 := Go.Lib.hid (And.intro (H3.out.2.2.trans (hb4.mono H3.out.2.2.size)) (And.intro (kept_call H3.out.1 hb4) (H3.out.2.1.trans (hb4.mono H3.out.2.1.size))))
              clear hb4 CA
              cases o1 with
              | true =>
                have hsz4 := HB4.out.1.size
                have hba : Below wl.heap.size wl (w4.alloc (.cells #[.slice (some ⟨gu, 0, none⟩) (l + 1) cu] 36)) := HB4.out.1.alloc hsz4 _
                have hbj : Below wj.heap.size wj (w4.alloc (.cells #[.slice (some ⟨gu, 0, none⟩) (l + 1) cu] 36)) := HB4.out.2.2.alloc (HB4.out.2.2.size) _
                have HX4 := Go.Lib.hid (And.intro (kept_call HG.out.2.1 hbj) (And.intro (fun i (hi : i < N3) => kept_call (HG.out.2.2.1 i hi) hbj) (And.intro (HB4.out.2.1.alloc (.cells #[.slice (some ⟨gu, 0, none⟩) (l + 1) cu] 36)) hba)))
                clear hba hbj
                go_wp2_with (at_builtin; refine wpList_append_own _ rfl _ _ 32 rfl wl.heap.size 36 j0 (.slice none 0 0) 1 24 Tryz.underlying32 hj hy0 hy1 hy2 rfl (by decide) (.slice (some ⟨g3, 0, none⟩) N3 c3) N3 (gs.map (sl (l + 1))) rfl HX4.out.1 ⟨w4.heap.size, 0, none⟩ 1 1 [.slice (some ⟨gu, 0, none⟩) (l + 1) cu] rfl rfl (cell_one_new _ _ _) (fun x hx => by simp at hx; subst hx; rfl) (by unfold maxLen; omega) (by omega) (by simp; omega) ?_; intro v' w5 hown5 hgrow5 hnil5)
                obtain ⟨g5, c5, rfl⟩ := ownsRow_succ hown5
                have hL5 : Lists w5 wl.heap.size (l + 1) (.slice (some ⟨g5, 0, none⟩) (N3 + 1) c5) (Y.map vals ++ [vals (ins b (kk : Int))]) :=
                  lists_snoc (p := (gu, cu)) (by rw [List.length_map, ← HX.out.1]) HG.out.1 HX4.out.1 HX4.out.2.1 HG.out.2.2.2 (own_lower HX4.out.2.2.1 hwjl) (fun i hi => by
                    have h1 := own_block_lt (HG.out.2.2.1 i hi) (q := (gs.getD i (0, 0)).1) rfl
                    have h2 := own_block_lt H3.out.1 (q := gu) rfl
                    show (gs.getD i (0, 0)).1 ≠ gu
                    omega) hown5 hgrow5
                have hb5 : Below wl.heap.size wl w5 := HX4.out.2.2.2.grown hgrow5 (by simp; omega) (fun q hq => (HX4.out.1.lt q hq).1)
                have HY5 : Hid (Y ++ [ins b (kk : Int)] = Y0 ++ part L b (j + 1)) := Go.Lib.hid (by
                  rw [part_snoc, HKK.out, HO1.out, if_pos rfl, ← List.append_assoc, HY.out])
                have e6 : Y.map vals ++ [vals (ins b (kk : Int))] = (Y ++ [ins b (kk : Int)]).map vals := by simp
                rw [e6] at hL5
                have H5 : Hid (N3 + 1 = (Y ++ [ins b (kk : Int)]).length ∧ Lists w5 wl.heap.size (l + 1) (.slice (some ⟨g5, 0, none⟩) (N3 + 1) c5) ((Y ++ [ins b (kk : Int)]).map vals) ∧ Below wl.heap.size wl w5) := Go.Lib.hid ⟨by rw [List.length_append, ← HX.out.1]; rfl, hL5, hb5⟩
                clear hown5 hgrow5 hnil5 hL5 hb5 e6 hsz4
                go_wp2
                go_roundw
                case rel => exact ⟨j + 1, g5, c5, N3 + 1, _, by omega, by rw [HJK.out]; go_num, rfl, HY5, H5⟩
                case measure => simp [intOf]; have := HJK.out; omega
              | false =>
                have HY5 : Hid (Y = Y0 ++ part L b (j + 1)) := Go.Lib.hid (by
                  rw [part_snoc, HKK.out, HO1.out, if_neg (by simp), List.append_nil, HY.out])
                have H5 : Hid (N3 = Y.length ∧ Lists w4 wl.heap.size (l + 1) (.slice (some ⟨g3, 0, none⟩) N3 c3) (Y.map vals) ∧ Below wl.heap.size wl w4) := Go.Lib.hid ⟨HX.out.1, HX.out.2.1.kept HB4.out.2.2, HB4.out.1⟩
                go_wp2
                go_roundw
                case rel => exact ⟨j + 1, g3, c3, N3, _, by omega, by rw [HJK.out]; go_num, rfl, HY5, H5⟩
                case measure => simp [intOf]; have := HJK.out; omega
            · have hjm2 : j = l + 1 := by omega
              have hcond : ¬ (kk : Int) ≤ (l : Int) + 1 := by omega
              have HYN : Hid (Y = ((av L l).take (i + 1)).flatMap (chil L l)) := Go.Lib.hid (by
                obtain ⟨hil, hb⟩ := HOB.out.2
                rw [take_next_flat hil, hb, ← HY0.out, HY.out, hjm2]
                rfl)
              have H5 : Hid (N3 = Y.length ∧ Lists wr wl.heap.size (l + 1) (.slice (some ⟨g3, 0, none⟩) N3 c3) (Y.map vals) ∧ Below wl.heap.size wl wr) := Go.Lib.hid ⟨HX.out.1, HX.out.2.1, HX.out.2.2⟩
              clear hkk hjm2 hck hob
              go_wp2
              go_roundw
              case rel => exact ⟨i + 1, g3, c3, N3, Y, by omega, by go_num, rfl, HYN, H5⟩
              case measure => simp [intOf]; omega
        · have hiN2 : i = N := by omega
          have HYN : Hid (Y0 = av L (l + 1)) := Go.Lib.hid (by
            rw [HY0.out, List.take_of_length_le (by rw [← HL.out.1]; omega)]; rfl)
          have H5 : Hid (N2 = (av L (l + 1)).length ∧ Lists wr W.heap.size (l + 1) (.slice (some ⟨g2, 0, none⟩) N2 c2) ((av L (l + 1)).map vals) ∧ Below W.heap.size W wr) := Go.Lib.hid (by
            rw [← HYN.out]
            exact ⟨HX0.out.1, HX0.out.2.1.lower HL.out.2.2.size, HL.out.2.2.trans (HX0.out.2.2.mono HL.out.2.2.size)⟩)
          clear hiN2
          go_wp2
          go_roundw
          case rel => exact ⟨l + 1, g2, c2, N2, by omega, by go_num, rfl, H5⟩
          case measure => simp [intOf]; omega
    · have hlc : l = c := by omega
      subst hlc
      go_wp2
      go_ret
      exact ⟨_, rfl, HL.out.2.1, HL.out.2.2⟩

end Go.Proofs.YtnhhnffolmgceaaGreat.SpecAvC

end
