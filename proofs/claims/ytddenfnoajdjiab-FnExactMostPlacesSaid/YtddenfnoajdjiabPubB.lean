/-
  Contracts: AvoidsAll, CountChildren of the model and of the program. Conditions: at most 2^20 numbers together.
-/
import Derived.Test.YtddenfnoajdjiabAvoid
namespace Go.Proofs.Ytddenfnoajdjiab.PubBC
open Go.RowKit SeesC IntsC ExactC OrdMath OrdFacts InC OrderC PatMath ShapeC InsertC ListsC ListsEC ListsFC PlacesC HasC SpecPlC LLC AvoidC

def avoidsAns (zs : List Int) (L : List (List Int)) : Bool × Bool := if Ord zs ∧ pats L = true then (avoids zs L, true) else (false, false)

/-- For how many of the first k numbers the order with it behind avoids all. -/
def kids (zs : List Int) (L : List (List Int)) : Nat → Nat
  | 0 => 0
  | k + 1 => kids zs L k + (if avoids (ins zs ((k : Int) + 1)) L = true then 1 else 0)

theorem kids_le (zs : List Int) (L : List (List Int)) : ∀ k, kids zs L k ≤ k := by
  intro k
  induction k with
  | zero => simp [kids]
  | succ k ih => unfold kids; split <;> omega

def childrenAns (zs : List Int) (L : List (List Int)) : Int × Bool := if Ord zs ∧ zs.length ≠ 7 ∧ pats L = true then ((kids zs L (zs.length + 1) : Nat), true) else (0, false)

theorem ins_nodup {zs : List Int} (h : zs.Nodup) (k : Int) : (ins zs k).Nodup := by
  unfold ins
  rw [List.nodup_append]
  refine ⟨?_, by simp, ?_⟩
  · rw [List.nodup_iff_pairwise_ne, List.pairwise_map]
    refine List.Pairwise.imp ?_ (List.nodup_iff_pairwise_ne.1 h)
    intro a b hab
    split <;> split <;> omega
  · intro x hx y hy e
    simp at hy
    obtain ⟨z, _, rfl⟩ := List.mem_map.1 hx
    split at e <;> omega

theorem ins_ord {zs : List Int} (h : Ord zs) (h7 : zs.length ≠ 7) {k : Int} (h1 : 1 ≤ k) (h2 : k ≤ (zs.length : Int) + 1) : Ord (ins zs k) := by
  refine ⟨by rw [ins_len]; omega, by rw [ins_len]; have := h.2.1; omega, ?_, ins_nodup h.2.2.2 k⟩
  intro z hz
  rw [ins_len]
  unfold ins at hz
  rw [List.mem_append] at hz
  rcases hz with hz | hz
  · obtain ⟨y, hy, rfl⟩ := List.mem_map.1 hz
    have := h.2.2.1 y hy
    split <;> omega
  · simp at hz
    omega

set_option maxRecDepth 100000 in
set_option maxHeartbeats 2000000 in
theorem specAvoidsAll (zs : List Int) (L : List (List Int)) (r b : Bool) (h : avoidsAns zs L = (r, b)) (hz1 : zs.length ≤ 1048576) (hz2 : L.length + tot L ≤ 1048576) (W : World) (v : Value) (n : Nat) (hv : Sees W v n (vals zs)) (u : Value) (hu : SeesLL W u L) :
    Calls Try.prog 41 #[v, u] W fun e w' => e = .returned (.tuple #[.bool r, .bool b]) ∧ Below W.heap.size W w' := by
  have hn : n ≤ 1048576 := by have := hv.1; simp at this; omega
  obtain ⟨a, ha⟩ : ∃ a, isOrd zs = a := ⟨_, rfl⟩
  obtain ⟨c, hc⟩ : ∃ c, pats L = c := ⟨_, rfl⟩
  have C1 := Go.Lib.hid (l2Order_any W v n zs a hv hn ha)
  have C2 := Go.Lib.hid (fun (W' : World) (h : Below W.heap.size W W') => specPats_any L c W' u (hu.grow h) hz2 hc)
  have HV := Go.Lib.hid (And.intro hv hu)
  have HA := Go.Lib.hid (And.intro ha (And.intro hc h))
  obtain ⟨_, a1, c1, rfl, -, -⟩ := hv
  obtain ⟨a2, c2, rfl⟩ := hu.value
  clear h ha hc hu
  cases a with
  | false =>
    have h0 := HA.out.2.2
    unfold avoidsAns at h0
    rw [if_neg (fun h => (of_decide_eq_false HA.out.1) h.1)] at h0
    cases h0
    go_enter Try.func41, Try.ntmps41
    go_wp2_with fail
    refine (C1.out).mono ?_
    rintro e w1 ⟨rfl, hb⟩
    have H1 := Go.Lib.hid (hb.below W.heap.size)
    clear hb
    go_wp2_with fail
    go_ret2
    exact ⟨rfl, H1.out⟩
  | true =>
    cases c with
    | false =>
      have h0 := HA.out.2.2
      unfold avoidsAns at h0
      rw [if_neg (fun h => by have h1 := h.2; rw [HA.out.2.1] at h1; cases h1)] at h0
      cases h0
      go_enter Try.func41, Try.ntmps41
      go_wp2_with fail
      refine (C1.out).mono ?_
      rintro e w1 ⟨rfl, hb⟩
      have H1 := Go.Lib.hid (hb.below W.heap.size)
      clear hb
      go_wp2_with fail
      refine (C2.out _ H1.out).mono ?_
      rintro e w2 ⟨rfl, hb⟩
      have H2 := Go.Lib.hid (H1.out.trans (hb.mono H1.out.size))
      clear hb
      go_wp2_with fail
      go_ret2
      exact ⟨rfl, H2.out⟩
    | true =>
      have hord : Ord zs := of_decide_eq_true HA.out.1
      have hpp := HA.out.2.1
      have h0 := HA.out.2.2
      unfold avoidsAns at h0
      rw [if_pos ⟨hord, hpp⟩] at h0
      obtain ⟨r0, hr0⟩ : ∃ r0, avoids zs L = r0 := ⟨_, rfl⟩
      rw [hr0] at h0
      cases h0
      have C3 := Go.Lib.hid (fun (W' : World) (h : Below W.heap.size W W') => specAvoids_any zs L r hord.1 hord.2.1 hpp hr0 _ _ _ n (HV.out.1.grow h) (HV.out.2.grow h))
      clear hr0 hord hpp
      go_enter Try.func41, Try.ntmps41
      go_wp2_with fail
      refine (C1.out).mono ?_
      rintro e w1 ⟨rfl, hb⟩
      have H1 := Go.Lib.hid (hb.below W.heap.size)
      clear hb
      go_wp2_with fail
      refine (C2.out _ H1.out).mono ?_
      rintro e w2 ⟨rfl, hb⟩
      have H2 := Go.Lib.hid (H1.out.trans (hb.mono H1.out.size))
      clear hb
      go_wp2_with fail
      refine (C3.out _ H2.out).mono ?_
      rintro e w3 ⟨rfl, hb⟩
      have H3 := Go.Lib.hid (H2.out.trans (hb.mono H2.out.size))
      clear hb
      go_wp2_with fail
      go_ret2
      exact ⟨rfl, H3.out⟩

set_option maxRecDepth 100000 in
set_option maxHeartbeats 2000000 in
theorem implAvoidsAll (zs : List Int) (L : List (List Int)) (r b : Bool) (h : avoidsAns zs L = (r, b)) (hz1 : zs.length ≤ 1048576) (hz2 : L.length + tot L ≤ 1048576) (W : World) (v : Value) (n : Nat) (hv : Sees W v n (vals zs)) (u : Value) (hu : SeesLL W u L) :
    Calls Try.prog 40 #[v, u] W fun e w' => e = .returned (.tuple #[.bool r, .bool b]) ∧ Below W.heap.size W w' := by
  have hn : n ≤ 1048576 := by have := hv.1; simp at this; omega
  obtain ⟨a, ha⟩ : ∃ a, isOrd zs = a := ⟨_, rfl⟩
  obtain ⟨c, hc⟩ : ∃ c, pats L = c := ⟨_, rfl⟩
  have C1 := Go.Lib.hid (implOrder_any W v n zs a hv hn ha)
  have C2 := Go.Lib.hid (fun (W' : World) (h : Below W.heap.size W W') => implPats_any L c W' u (hu.grow h) hz2 hc)
  have HV := Go.Lib.hid (And.intro hv hu)
  have HA := Go.Lib.hid (And.intro ha (And.intro hc h))
  obtain ⟨_, a1, c1, rfl, -, -⟩ := hv
  obtain ⟨a2, c2, rfl⟩ := hu.value
  clear h ha hc hu
  cases a with
  | false =>
    have h0 := HA.out.2.2
    unfold avoidsAns at h0
    rw [if_neg (fun h => (of_decide_eq_false HA.out.1) h.1)] at h0
    cases h0
    go_enter Try.func40, Try.ntmps40
    go_wp2_with fail
    refine (C1.out).mono ?_
    rintro e w1 ⟨rfl, hb⟩
    have H1 := Go.Lib.hid hb
    clear hb
    go_wp2_with fail
    go_ret2
    exact ⟨rfl, H1.out⟩
  | true =>
    cases c with
    | false =>
      have h0 := HA.out.2.2
      unfold avoidsAns at h0
      rw [if_neg (fun h => by have h1 := h.2; rw [HA.out.2.1] at h1; cases h1)] at h0
      cases h0
      go_enter Try.func40, Try.ntmps40
      go_wp2_with fail
      refine (C1.out).mono ?_
      rintro e w1 ⟨rfl, hb⟩
      have H1 := Go.Lib.hid hb
      clear hb
      go_wp2_with fail
      refine (C2.out _ H1.out).mono ?_
      rintro e w2 ⟨rfl, hb⟩
      have H2 := Go.Lib.hid (H1.out.trans (hb.mono H1.out.size))
      clear hb
      go_wp2_with fail
      go_ret2
      exact ⟨rfl, H2.out⟩
    | true =>
      have hord : Ord zs := of_decide_eq_true HA.out.1
      have hpp := HA.out.2.1
      have h0 := HA.out.2.2
      unfold avoidsAns at h0
      rw [if_pos ⟨hord, hpp⟩] at h0
      obtain ⟨r0, hr0⟩ : ∃ r0, avoids zs L = r0 := ⟨_, rfl⟩
      rw [hr0] at h0
      cases h0
      have C3 := Go.Lib.hid (fun (W' : World) (h : Below W.heap.size W W') => implAvoids_any zs L r hord.2.2.2 hord.1 hord.2.1 hpp hr0 _ _ _ n (HV.out.1.grow h) (HV.out.2.grow h))
      clear hr0 hord hpp
      go_enter Try.func40, Try.ntmps40
      go_wp2_with fail
      refine (C1.out).mono ?_
      rintro e w1 ⟨rfl, hb⟩
      have H1 := Go.Lib.hid hb
      clear hb
      go_wp2_with fail
      refine (C2.out _ H1.out).mono ?_
      rintro e w2 ⟨rfl, hb⟩
      have H2 := Go.Lib.hid (H1.out.trans (hb.mono H1.out.size))
      clear hb
      go_wp2_with fail
      refine (C3.out _ H2.out).mono ?_
      rintro e w3 ⟨rfl, hb⟩
      have H3 := Go.Lib.hid (H2.out.trans (hb.mono H2.out.size))
      clear hb
      go_wp2_with fail
      go_ret2
      exact ⟨rfl, H3.out⟩

set_option maxRecDepth 100000 in
set_option maxHeartbeats 2000000 in
theorem specChildren (zs : List Int) (L : List (List Int)) (r : Int) (b : Bool) (h : childrenAns zs L = (r, b)) (hz1 : zs.length ≤ 1048576) (hz2 : L.length + tot L ≤ 1048576) (W : World) (v : Value) (n : Nat) (hv : Sees W v n (vals zs)) (u : Value) (hu : SeesLL W u L) :
    Calls Try.prog 39 #[v, u] W fun e w' => e = .returned (.tuple #[.int .i64 r, .bool b]) ∧ Below W.heap.size W w' := by
  have hl : zs.length = n := by simpa using hv.1
  have hn : n ≤ 1048576 := by omega
  obtain ⟨a, ha⟩ : ∃ a, isOrd zs = a := ⟨_, rfl⟩
  obtain ⟨c, hc⟩ : ∃ c, pats L = c := ⟨_, rfl⟩
  have C1 := Go.Lib.hid (l2Order_any W v n zs a hv hn ha)
  have C2 := Go.Lib.hid (fun (W' : World) (h : Below W.heap.size W W') => specPats_any L c W' u (hu.grow h) hz2 hc)
  have HV := Go.Lib.hid (And.intro hv (And.intro hu hl))
  have HA := Go.Lib.hid (And.intro ha (And.intro hc h))
  obtain ⟨_, a1, c1, rfl, -, -⟩ := hv
  obtain ⟨a2, c2, rfl⟩ := hu.value
  clear h ha hc hu hl hz1
  cases a with
  | false =>
    have h0 := HA.out.2.2
    unfold childrenAns at h0
    rw [if_neg (fun h => (of_decide_eq_false HA.out.1) h.1)] at h0
    cases h0
    go_enter Try.func39, Try.ntmps39
    go_wp2_with fail
    refine (C1.out).mono ?_
    rintro e w1 ⟨rfl, hb⟩
    have H1 := Go.Lib.hid (hb.below W.heap.size)
    clear hb
    go_wp2_with fail
    go_ret2
    exact ⟨rfl, H1.out⟩
  | true =>
    by_cases h7 : n = 7
    · have h0 := HA.out.2.2
      unfold childrenAns at h0
      rw [if_neg (fun h => h.2.1 (by rw [HV.out.2.2]; exact h7))] at h0
      cases h0
      have e7 : ((n : Int) == 7) = true := by rw [beq_iff_eq]; omega
      subst h7
      go_enter Try.func39, Try.ntmps39
      go_wp2_with fail
      refine (C1.out).mono ?_
      rintro e w1 ⟨rfl, hb⟩
      have H1 := Go.Lib.hid (hb.below W.heap.size)
      clear hb
      go_wp2_with fail
      go_ret2
      exact ⟨rfl, H1.out⟩
    · have e7 : ((n : Int) == 7) = false := by rw [beq_eq_false_iff_ne]; omega
      cases c with
      | false =>
        have h0 := HA.out.2.2
        unfold childrenAns at h0
        rw [if_neg (fun h => by have h1 := h.2.2; rw [HA.out.2.1] at h1; cases h1)] at h0
        cases h0
        clear h7
        go_enter Try.func39, Try.ntmps39
        go_wp2_with fail
        refine (C1.out).mono ?_
        rintro e w1 ⟨rfl, hb⟩
        have H1 := Go.Lib.hid (hb.below W.heap.size)
        clear hb
        go_wp2_with fail
        refine (C2.out _ H1.out).mono ?_
        rintro e w2 ⟨rfl, hb⟩
        have H2 := Go.Lib.hid (H1.out.trans (hb.mono H1.out.size))
        clear hb
        go_wp2_with fail
        go_ret2
        exact ⟨rfl, H2.out⟩
      | true =>
        have hord : Ord zs := of_decide_eq_true HA.out.1
        have hn1 : 1 ≤ n := by have := hord.1; have := HV.out.2.2; omega
        have hn7 : n ≤ 6 := by have := hord.2.1; have := HV.out.2.2; omega
        have HO := Go.Lib.hid (And.intro hord HA.out.2.1)
        have h0 := HA.out.2.2
        unfold childrenAns at h0
        rw [if_pos ⟨hord, by rw [HV.out.2.2]; exact h7, HA.out.2.1⟩, HV.out.2.2] at h0
        obtain ⟨R, hR⟩ : ∃ R, kids zs L (n + 1) = R := ⟨_, rfl⟩
        rw [hR] at h0
        cases h0
        have HR := Go.Lib.hid hR
        clear hR hord h7
        go_enter Try.func39, Try.ntmps39
        go_wp2_with fail
        refine (C1.out).mono ?_
        rintro e w1 ⟨rfl, hb⟩
        have H1 := Go.Lib.hid (hb.below W.heap.size)
        clear hb
        go_wp2_with fail
        refine (C2.out _ H1.out).mono ?_
        rintro e w2 ⟨rfl, hb⟩
        have H2 := Go.Lib.hid (H1.out.trans (hb.mono H1.out.size))
        clear hb H1 C1 C2
        go_wp2_with fail
        go_loopw [6, 7] (fun mv kv wr => ∃ (k m : Nat), k ≤ n + 1 ∧ m ≤ k ∧ kv = .int .i64 ((k : Int) + 1) ∧ mv = .int .i64 m ∧ Hid (kids zs L k = m) ∧ Hid (Below W.heap.size W wr)) (fun _ kv _ => n + 2 - (intOf kv).toNat)
        case atStart => exact ⟨0, 0, by omega, Nat.le_refl _, by go_num, rfl, Go.Lib.hid rfl, H2⟩
        case round =>
          obtain ⟨k, m, hk, hm, rfl, rfl, HM, HB⟩ := hrel
          clear H2
          by_cases hlt : k < n + 1
          · have hio := ins_ord HO.out.1 (by rw [HV.out.2.2]; omega) (k := (k : Int) + 1) (by omega) (by rw [HV.out.2.2]; omega)
            have CI := Go.Lib.hid (l3Insert_any zs ((k : Int) + 1) wr _ n (by omega) (fun z hz => by have h1 := HO.out.1.2.2.1 z hz; have := HV.out.2.2; omega) (HV.out.1.grow HB.out))
            obtain ⟨o1, ho1⟩ : ∃ o1, avoids (ins zs ((k : Int) + 1)) L = o1 := ⟨_, rfl⟩
            have CA := Go.Lib.hid (fun (W' : World) (vv : Value) (h1 : Sees W' vv (n + 1) (vals (ins zs ((k : Int) + 1)))) (h : Below W.heap.size W W') => specAvoids_any (ins zs ((k : Int) + 1)) L o1 hio.1 hio.2.1 HO.out.2 ho1 _ _ _ (n + 1) h1 (HV.out.2.1.grow h))
            have HO1 := Go.Lib.hid ho1
            have hlti : (k : Int) + 1 ≤ (n : Int) + 1 := by omega
            have hki : (k : Int) ≤ 7 := by omega
            clear hio ho1
            go_wp2_with fail
            refine (CI.out).mono ?_
            rintro e w3 ⟨g, rfl, ho, hb⟩
            have H3 := Go.Lib.hid (HB.out.trans (hb.mono HB.out.size))
            have HS := Go.Lib.hid (Sees.owns ho)
            clear ho hb
            go_wp2_with fail
            refine (CA.out _ _ HS.out H3.out).mono ?_
            rintro e w4 ⟨rfl, hb⟩
            have H4 := Go.Lib.hid (H3.out.trans (hb.mono H3.out.size))
            clear hb
            cases o1 with
            | true =>
              have HM2 : Hid (kids zs L (k + 1) = m + 1) := Go.Lib.hid (by unfold kids; rw [HM.out, HO1.out]; rfl)
              clear HM
              go_wp2_with fail
              go_roundw
              case rel => exact ⟨k + 1, m + 1, by omega, by omega, by go_num, by go_num, HM2, H4⟩
              case measure => simp [intOf]; omega
            | false =>
              have HM2 : Hid (kids zs L (k + 1) = m) := Go.Lib.hid (by unfold kids; rw [HM.out, HO1.out]; rfl)
              clear HM
              go_wp2_with fail
              go_roundw
              case rel => exact ⟨k + 1, m, by omega, by omega, by go_num, rfl, HM2, H4⟩
              case measure => simp [intOf]; omega
          · have hkn : k = n + 1 := by omega
            subst hkn
            have e1 : m = R := by rw [← HM.out, HR.out]
            subst e1
            have hlti : ¬ (((n + 1 : Nat) : Int) + 1 ≤ (n : Int) + 1) := by omega
            go_wp2
            go_ret2
            exact ⟨rfl, HB.out⟩

set_option maxRecDepth 100000 in
set_option maxHeartbeats 2000000 in
theorem implChildren (zs : List Int) (L : List (List Int)) (r : Int) (b : Bool) (h : childrenAns zs L = (r, b)) (hz1 : zs.length ≤ 1048576) (hz2 : L.length + tot L ≤ 1048576) (W : World) (v : Value) (n : Nat) (hv : Sees W v n (vals zs)) (u : Value) (hu : SeesLL W u L) :
    Calls Try.prog 38 #[v, u] W fun e w' => e = .returned (.tuple #[.int .i64 r, .bool b]) ∧ Below W.heap.size W w' := by
  have hl : zs.length = n := by simpa using hv.1
  have hn : n ≤ 1048576 := by omega
  obtain ⟨a, ha⟩ : ∃ a, isOrd zs = a := ⟨_, rfl⟩
  obtain ⟨c, hc⟩ : ∃ c, pats L = c := ⟨_, rfl⟩
  have C1 := Go.Lib.hid (implOrder_any W v n zs a hv hn ha)
  have C2 := Go.Lib.hid (fun (W' : World) (h : Below W.heap.size W W') => implPats_any L c W' u (hu.grow h) hz2 hc)
  have HV := Go.Lib.hid (And.intro hv (And.intro hu hl))
  have HA := Go.Lib.hid (And.intro ha (And.intro hc h))
  obtain ⟨_, a1, c1, rfl, -, -⟩ := hv
  obtain ⟨a2, c2, rfl⟩ := hu.value
  clear h ha hc hu hl hz1
  cases a with
  | false =>
    have h0 := HA.out.2.2
    unfold childrenAns at h0
    rw [if_neg (fun h => (of_decide_eq_false HA.out.1) h.1)] at h0
    cases h0
    go_enter Try.func38, Try.ntmps38
    go_wp2_with fail
    refine (C1.out).mono ?_
    rintro e w1 ⟨rfl, hb⟩
    have H1 := Go.Lib.hid hb
    clear hb
    go_wp2_with fail
    go_ret2
    exact ⟨rfl, H1.out⟩
  | true =>
    by_cases h7 : n = 7
    · have h0 := HA.out.2.2
      unfold childrenAns at h0
      rw [if_neg (fun h => h.2.1 (by rw [HV.out.2.2]; exact h7))] at h0
      cases h0
      have e7 : ((n : Int) == 7) = true := by rw [beq_iff_eq]; omega
      subst h7
      go_enter Try.func38, Try.ntmps38
      go_wp2_with fail
      refine (C1.out).mono ?_
      rintro e w1 ⟨rfl, hb⟩
      have H1 := Go.Lib.hid hb
      clear hb
      go_wp2_with fail
      go_ret2
      exact ⟨rfl, H1.out⟩
    · have e7 : ((n : Int) == 7) = false := by rw [beq_eq_false_iff_ne]; omega
      cases c with
      | false =>
        have h0 := HA.out.2.2
        unfold childrenAns at h0
        rw [if_neg (fun h => by have h1 := h.2.2; rw [HA.out.2.1] at h1; cases h1)] at h0
        cases h0
        clear h7
        go_enter Try.func38, Try.ntmps38
        go_wp2_with fail
        refine (C1.out).mono ?_
        rintro e w1 ⟨rfl, hb⟩
        have H1 := Go.Lib.hid hb
        clear hb
        go_wp2_with fail
        refine (C2.out _ H1.out).mono ?_
        rintro e w2 ⟨rfl, hb⟩
        have H2 := Go.Lib.hid (H1.out.trans (hb.mono H1.out.size))
        clear hb
        go_wp2_with fail
        go_ret2
        exact ⟨rfl, H2.out⟩
      | true =>
        have hord : Ord zs := of_decide_eq_true HA.out.1
        have hn1 : 1 ≤ n := by have := hord.1; have := HV.out.2.2; omega
        have hn7 : n ≤ 6 := by have := hord.2.1; have := HV.out.2.2; omega
        have HO := Go.Lib.hid (And.intro hord HA.out.2.1)
        have h0 := HA.out.2.2
        unfold childrenAns at h0
        rw [if_pos ⟨hord, by rw [HV.out.2.2]; exact h7, HA.out.2.1⟩, HV.out.2.2] at h0
        obtain ⟨R, hR⟩ : ∃ R, kids zs L (n + 1) = R := ⟨_, rfl⟩
        rw [hR] at h0
        cases h0
        have HR := Go.Lib.hid hR
        clear hR hord h7
        go_enter Try.func38, Try.ntmps38
        go_wp2_with fail
        refine (C1.out).mono ?_
        rintro e w1 ⟨rfl, hb⟩
        have H1 := Go.Lib.hid hb
        clear hb
        go_wp2_with fail
        refine (C2.out _ H1.out).mono ?_
        rintro e w2 ⟨rfl, hb⟩
        have H2 := Go.Lib.hid (H1.out.trans (hb.mono H1.out.size))
        clear hb H1 C1 C2
        go_wp2_with fail
        go_loopw [6, 7] (fun mv kv wr => ∃ (k m : Nat), k ≤ n + 1 ∧ m ≤ k ∧ kv = .int .i64 ((k : Int) + 1) ∧ mv = .int .i64 m ∧ Hid (kids zs L k = m) ∧ Hid (Below W.heap.size W wr)) (fun _ kv _ => n + 2 - (intOf kv).toNat)
        case atStart => exact ⟨0, 0, by omega, Nat.le_refl _, by go_num, rfl, Go.Lib.hid rfl, H2⟩
        case round =>
          obtain ⟨k, m, hk, hm, rfl, rfl, HM, HB⟩ := hrel
          clear H2
          by_cases hlt : k < n + 1
          · have hio := ins_ord HO.out.1 (by rw [HV.out.2.2]; omega) (k := (k : Int) + 1) (by omega) (by rw [HV.out.2.2]; omega)
            have CI := Go.Lib.hid (implIns_any zs ((k : Int) + 1) wr _ n (by omega) (fun z hz => by have h1 := HO.out.1.2.2.1 z hz; have := HV.out.2.2; omega) (HV.out.1.grow HB.out))
            obtain ⟨o1, ho1⟩ : ∃ o1, avoids (ins zs ((k : Int) + 1)) L = o1 := ⟨_, rfl⟩
            have CA := Go.Lib.hid (fun (W' : World) (vv : Value) (h1 : Sees W' vv (n + 1) (vals (ins zs ((k : Int) + 1)))) (h : Below W.heap.size W W') => implAvoids_any (ins zs ((k : Int) + 1)) L o1 hio.2.2.2 hio.1 hio.2.1 HO.out.2 ho1 _ _ _ (n + 1) h1 (HV.out.2.1.grow h))
            have HO1 := Go.Lib.hid ho1
            have hlti : (k : Int) + 1 ≤ (n : Int) + 1 := by omega
            have hki : (k : Int) ≤ 7 := by omega
            clear hio ho1
            go_wp2_with fail
            refine (CI.out).mono ?_
            rintro e w3 ⟨g, rfl, ho, hb⟩
            have H3 := Go.Lib.hid (HB.out.trans (hb.mono HB.out.size))
            have HS := Go.Lib.hid (Sees.owns ho)
            clear ho hb
            go_wp2_with fail
            refine (CA.out _ _ HS.out H3.out).mono ?_
            rintro e w4 ⟨rfl, hb⟩
            have H4 := Go.Lib.hid (H3.out.trans (hb.mono H3.out.size))
            clear hb
            cases o1 with
            | true =>
              have HM2 : Hid (kids zs L (k + 1) = m + 1) := Go.Lib.hid (by unfold kids; rw [HM.out, HO1.out]; rfl)
              clear HM
              go_wp2_with fail
              go_roundw
              case rel => exact ⟨k + 1, m + 1, by omega, by omega, by go_num, by go_num, HM2, H4⟩
              case measure => simp [intOf]; omega
            | false =>
              have HM2 : Hid (kids zs L (k + 1) = m) := Go.Lib.hid (by unfold kids; rw [HM.out, HO1.out]; rfl)
              clear HM
              go_wp2_with fail
              go_roundw
              case rel => exact ⟨k + 1, m, by omega, by omega, by go_num, rfl, HM2, H4⟩
              case measure => simp [intOf]; omega
          · have hkn : k = n + 1 := by omega
            subst hkn
            have e1 : m = R := by rw [← HM.out, HR.out]
            subst e1
            have hlti : ¬ (((n + 1 : Nat) : Int) + 1 ≤ (n : Int) + 1) := by omega
            go_wp2
            go_ret2
            exact ⟨rfl, HB.out⟩

end Go.Proofs.Ytddenfnoajdjiab.PubBC
