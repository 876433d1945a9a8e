/-
  Contracts: ContainsPattern, CountPlaces, FirstPlaces of the model and of the program. Conditions: lists of at most 2^20 numbers.
-/
import Derived.Test.YtmnggcnipjdimabSpecPl
namespace Go.Proofs.Ytmnggcnipjdimab.PubC
open Go.RowKit SeesC IntsC ExactC OrdMath InC OrderC PatMath ShapeC ListsC ListsEC ListsFC ListsGC PlacesC HasC SpecPlC

/-- The first of owned lists. -/
theorem lists_first {w : World} {base n : Nat} {a : Option Addr} {N c : Nat} {q : List Value} {L : List (List Value)} (hN : (q :: L).length = N) (h : Lists w base n (.slice a N c) (q :: L)) : ∃ g p1 p2, a = some ⟨g, 0, none⟩ ∧ w.cell? ⟨g, 0, none⟩ = some (.slice (some ⟨p1, 0, none⟩) n p2) ∧ w.ownsRow base 3 1 (.slice (some ⟨p1, 0, none⟩) n p2) n q := by
  obtain ⟨gs, h1, h2, h3, _, _⟩ := h
  rw [hN] at h1 h2
  have hN1 : 1 ≤ N := by rw [← hN]; simp
  obtain ⟨g, c2, e⟩ := own_pos h2 (by omega)
  cases e
  have h4 := h3 0 (by simp)
  have h5 := h2.cellAt 0 (by omega)
  obtain ⟨p, hp⟩ : ∃ p, gs.getD 0 (0, 0) = p := ⟨_, rfl⟩
  rw [hp] at h4
  have e1 : (gs.map (sl n))[0]? = some (sl n p) := by rw [← hp]; simp [show 0 < gs.length by omega]
  rw [e1] at h5
  exact ⟨g, p.1, p.2, rfl, h5, h4⟩

theorem has_len {zs pat : List Int} : has zs pat = true ↔ 0 < (placesOf zs pat).length := by unfold has; rw [decide_eq_true_eq]

set_option maxRecDepth 100000 in
set_option maxHeartbeats 2000000 in
theorem specContains (zs pat : List Int) (r b : Bool) (h : containsAns zs pat = (r, b)) (hz1 : zs.length ≤ 1048576) (hz2 : pat.length ≤ 1048576) (W : World) (v : Value) (n : Nat) (hv : Sees W v n (vals zs)) (u : Value) (m : Nat) (hu : Sees W u m (vals pat)) :
    Calls Try.prog 8 #[v, u] W fun e w' => e = .returned (.tuple #[.bool r, .bool b]) ∧ Below W.heap.size W w' := by
  have hn : n ≤ 1048576 := by have := hv.1; simp at this; omega
  have hm : m ≤ 1048576 := by have := hu.1; simp at this; omega
  obtain ⟨a, ha⟩ : ∃ a, isOrd zs = a := ⟨_, rfl⟩
  obtain ⟨c, hc⟩ : ∃ c, isOrd pat = c := ⟨_, rfl⟩
  obtain ⟨gd, hgd⟩ : ∃ gd, (isOrd zs && isOrd pat) = gd := ⟨_, rfl⟩
  have C1 := Go.Lib.hid (l3Good_any zs pat gd W v u n m hv hu hn hm hgd)
  rw [ha, hc] at hgd
  have HV := Go.Lib.hid (And.intro hv hu)
  have HA := Go.Lib.hid (And.intro ha (And.intro hc h))
  obtain ⟨_, a1, c1, rfl, -, -⟩ := hv
  obtain ⟨_, a2, c2, rfl, -, -⟩ := hu
  clear h ha hc
  cases a with
  | false =>
    have hg2 : gd = false := by rw [← hgd]; cases c <;> rfl
    subst hg2
    clear hgd
    have h0 := HA.out.2.2
    unfold containsAns at h0
    rw [if_neg (fun h => (of_decide_eq_false HA.out.1) h.1)] at h0
    cases h0
    go_enter Try.func8, Try.ntmps8
    go_wp2_with fail
    refine (C1.out).mono ?_
    rintro e w1 ⟨rfl, hb⟩
    have H1 := Go.Lib.hid hb
    clear hb
    go_wp2_with fail
    go_ret2
    exact ⟨rfl, H1.out⟩
  | true =>
    cases c with
    | false =>
      have hg2 : gd = false := by rw [← hgd]; rfl
      subst hg2
      clear hgd
      have h0 := HA.out.2.2
      unfold containsAns at h0
      rw [if_neg (fun h => (of_decide_eq_false HA.out.2.1) h.2)] at h0
      cases h0
      go_enter Try.func8, Try.ntmps8
      go_wp2_with fail
      refine (C1.out).mono ?_
      rintro e w1 ⟨rfl, hb⟩
      have H1 := Go.Lib.hid hb
      clear hb
      go_wp2_with fail
      go_ret2
      exact ⟨rfl, H1.out⟩
    | true =>
      have hg2 : gd = true := by rw [← hgd]; rfl
      subst hg2
      clear hgd
      go_enter Try.func8, Try.ntmps8
      go_wp2_with fail
      refine (C1.out).mono ?_
      rintro e w1 ⟨rfl, hb⟩
      have H1 := Go.Lib.hid hb
      clear hb
      have hord : Ord zs := of_decide_eq_true HA.out.1
      have hpo : Ord pat := of_decide_eq_true HA.out.2.1
      have h0 := HA.out.2.2
      unfold containsAns at h0
      rw [if_pos ⟨hord, hpo⟩] at h0
      obtain ⟨r0, hr0⟩ : ∃ r0, has zs pat = r0 := ⟨_, rfl⟩
      rw [hr0] at h0
      cases h0
      have CM := Go.Lib.hid (l3In_any zs pat r hord.1 hord.2.1 hpo hr0 w1 _ _ n m (HV.out.1.grow H1.out) (HV.out.2.grow H1.out))
      clear hr0 hord hpo
      go_wp2_with fail
      refine (CM.out).mono ?_
      rintro e w2 ⟨rfl, hb⟩
      have H2 := Go.Lib.hid (H1.out.trans (hb.mono H1.out.size))
      clear hb
      go_wp2_with fail
      go_ret2
      exact ⟨rfl, H2.out⟩

set_option maxRecDepth 100000 in
set_option maxHeartbeats 2000000 in
theorem implContains (zs pat : List Int) (r b : Bool) (h : containsAns zs pat = (r, b)) (hz1 : zs.length ≤ 1048576) (hz2 : pat.length ≤ 1048576) (W : World) (v : Value) (n : Nat) (hv : Sees W v n (vals zs)) (u : Value) (m : Nat) (hu : Sees W u m (vals pat)) :
    Calls Try.prog 7 #[v, u] W fun e w' => e = .returned (.tuple #[.bool r, .bool b]) ∧ Below W.heap.size W w' := by
  have hn : n ≤ 1048576 := by have := hv.1; simp at this; omega
  have hm : m ≤ 1048576 := by have := hu.1; simp at this; omega
  obtain ⟨a, ha⟩ : ∃ a, isOrd zs = a := ⟨_, rfl⟩
  obtain ⟨c, hc⟩ : ∃ c, isOrd pat = c := ⟨_, rfl⟩
  have C1 := Go.Lib.hid (implOrder_any W v n zs a hv hn ha)
  have C2 := Go.Lib.hid (fun (W' : World) (h : Below W.heap.size W W') => implOrder_any W' u m pat c (hu.grow h) hm hc)
  have HV := Go.Lib.hid (And.intro hv hu)
  have HA := Go.Lib.hid (And.intro ha (And.intro hc h))
  obtain ⟨_, a1, c1, rfl, -, -⟩ := hv
  obtain ⟨_, a2, c2, rfl, -, -⟩ := hu
  clear h ha hc
  cases a with
  | false =>
    have h0 := HA.out.2.2
    unfold containsAns at h0
    rw [if_neg (fun h => (of_decide_eq_false HA.out.1) h.1)] at h0
    cases h0
    go_enter Try.func7, Try.ntmps7
    go_wp2_with fail
    refine (C1.out).mono ?_
    rintro e w1 ⟨rfl, hb⟩
    have H1 := Go.Lib.hid hb
    clear hb
    go_wp2_with fail
    go_ret2
    exact ⟨rfl, H1.out⟩
  | true =>
    cases c with
    | false =>
      have h0 := HA.out.2.2
      unfold containsAns at h0
      rw [if_neg (fun h => (of_decide_eq_false HA.out.2.1) h.2)] at h0
      cases h0
      go_enter Try.func7, Try.ntmps7
      go_wp2_with fail
      refine (C1.out).mono ?_
      rintro e w1 ⟨rfl, hb⟩
      have H1 := Go.Lib.hid hb
      clear hb
      go_wp2_with fail
      refine (C2.out _ H1.out).mono ?_
      rintro e w2 ⟨rfl, hb⟩
      have H2 := Go.Lib.hid (H1.out.trans (hb.mono H1.out.size))
      clear hb
      go_wp2_with fail
      go_ret2
      exact ⟨rfl, H2.out⟩
    | true =>
      go_enter Try.func7, Try.ntmps7
      go_wp2_with fail
      refine (C1.out).mono ?_
      rintro e w0 ⟨rfl, hb⟩
      have H0 := Go.Lib.hid hb
      clear hb
      go_wp2_with fail
      refine (C2.out _ H0.out).mono ?_
      rintro e w1 ⟨rfl, hb⟩
      have H1 := Go.Lib.hid (H0.out.trans (hb.mono H0.out.size))
      clear hb
      have hord : Ord zs := of_decide_eq_true HA.out.1
      have hpo : Ord pat := of_decide_eq_true HA.out.2.1
      have h0 := HA.out.2.2
      unfold containsAns at h0
      rw [if_pos ⟨hord, hpo⟩] at h0
      obtain ⟨r0, hr0⟩ : ∃ r0, has zs pat = r0 := ⟨_, rfl⟩
      rw [hr0] at h0
      cases h0
      have CM := Go.Lib.hid (contains_any zs pat r hord.2.2.2 hord.1 hord.2.1 hpo hr0 w1 _ _ n m (HV.out.1.grow H1.out) (HV.out.2.grow H1.out))
      clear hr0 hord hpo
      go_wp2_with fail
      refine (CM.out).mono ?_
      rintro e w2 ⟨rfl, hb⟩
      have H2 := Go.Lib.hid (H1.out.trans (hb.mono H1.out.size))
      clear hb
      go_wp2_with fail
      go_ret2
      exact ⟨rfl, H2.out⟩

set_option maxRecDepth 100000 in
set_option maxHeartbeats 2000000 in
theorem specCount (zs pat : List Int) (r : Int) (b : Bool) (h : countAns zs pat = (r, b)) (hz1 : zs.length ≤ 1048576) (hz2 : pat.length ≤ 1048576) (W : World) (v : Value) (n : Nat) (hv : Sees W v n (vals zs)) (u : Value) (m : Nat) (hu : Sees W u m (vals pat)) :
    Calls Try.prog 12 #[v, u] W fun e w' => e = .returned (.tuple #[.int .i64 r, .bool b]) ∧ Below W.heap.size W w' := by
  have hn : n ≤ 1048576 := by have := hv.1; simp at this; omega
  have hm : m ≤ 1048576 := by have := hu.1; simp at this; omega
  obtain ⟨a, ha⟩ : ∃ a, isOrd zs = a := ⟨_, rfl⟩
  obtain ⟨c, hc⟩ : ∃ c, isOrd pat = c := ⟨_, rfl⟩
  obtain ⟨gd, hgd⟩ : ∃ gd, (isOrd zs && isOrd pat) = gd := ⟨_, rfl⟩
  have C1 := Go.Lib.hid (l3Good_any zs pat gd W v u n m hv hu hn hm hgd)
  rw [ha, hc] at hgd
  have HV := Go.Lib.hid (And.intro hv hu)
  have HA := Go.Lib.hid (And.intro ha (And.intro hc h))
  obtain ⟨_, a1, c1, rfl, -, -⟩ := hv
  obtain ⟨_, a2, c2, rfl, -, -⟩ := hu
  clear h ha hc
  cases a with
  | false =>
    have hg2 : gd = false := by rw [← hgd]; cases c <;> rfl
    subst hg2
    clear hgd
    have h0 := HA.out.2.2
    unfold countAns at h0
    rw [if_neg (fun h => (of_decide_eq_false HA.out.1) h.1)] at h0
    cases h0
    go_enter Try.func12, Try.ntmps12
    go_wp2_with fail
    refine (C1.out).mono ?_
    rintro e w1 ⟨rfl, hb⟩
    have H1 := Go.Lib.hid hb
    clear hb
    go_wp2_with fail
    go_ret2
    exact ⟨rfl, H1.out⟩
  | true =>
    cases c with
    | false =>
      have hg2 : gd = false := by rw [← hgd]; rfl
      subst hg2
      clear hgd
      have h0 := HA.out.2.2
      unfold countAns at h0
      rw [if_neg (fun h => (of_decide_eq_false HA.out.2.1) h.2)] at h0
      cases h0
      go_enter Try.func12, Try.ntmps12
      go_wp2_with fail
      refine (C1.out).mono ?_
      rintro e w1 ⟨rfl, hb⟩
      have H1 := Go.Lib.hid hb
      clear hb
      go_wp2_with fail
      go_ret2
      exact ⟨rfl, H1.out⟩
    | true =>
      have hg2 : gd = true := by rw [← hgd]; rfl
      subst hg2
      clear hgd
      go_enter Try.func12, Try.ntmps12
      go_wp2_with fail
      refine (C1.out).mono ?_
      rintro e w1 ⟨rfl, hb⟩
      have H1 := Go.Lib.hid hb
      clear hb
      have hord : Ord zs := of_decide_eq_true HA.out.1
      have hpo : Ord pat := of_decide_eq_true HA.out.2.1
      have h0 := HA.out.2.2
      unfold countAns at h0
      rw [if_pos ⟨hord, hpo⟩] at h0
      have CM := Go.Lib.hid (l3Places_any zs pat hord.1 hord.2.1 hpo w1 _ _ n m (HV.out.1.grow H1.out) (HV.out.2.grow H1.out))
      obtain ⟨N, hN⟩ : ∃ N, (placesOf zs pat).length = N := ⟨_, rfl⟩
      have hNb : N ≤ 823543 := by rw [← hN]; exact places_many hord.2.1 hpo
      rw [hN] at h0
      cases h0
      have HN := Go.Lib.hid hN
      clear hN hord hpo
      go_wp2_with fail
      refine (CM.out).mono ?_
      rintro e w2 ⟨rv, rfl, hL, hb⟩
      obtain ⟨a, c, rfl⟩ := lists_value hL
      rw [List.length_map, HN.out]
      have H2 := Go.Lib.hid (H1.out.trans (hb.mono H1.out.size))
      clear hb hL
      go_wp2_with fail
      go_ret2
      exact ⟨rfl, H2.out⟩

set_option maxRecDepth 100000 in
set_option maxHeartbeats 2000000 in
theorem implCount (zs pat : List Int) (r : Int) (b : Bool) (h : countAns zs pat = (r, b)) (hz1 : zs.length ≤ 1048576) (hz2 : pat.length ≤ 1048576) (W : World) (v : Value) (n : Nat) (hv : Sees W v n (vals zs)) (u : Value) (m : Nat) (hu : Sees W u m (vals pat)) :
    Calls Try.prog 11 #[v, u] W fun e w' => e = .returned (.tuple #[.int .i64 r, .bool b]) ∧ Below W.heap.size W w' := by
  have hn : n ≤ 1048576 := by have := hv.1; simp at this; omega
  have hm : m ≤ 1048576 := by have := hu.1; simp at this; omega
  obtain ⟨a, ha⟩ : ∃ a, isOrd zs = a := ⟨_, rfl⟩
  obtain ⟨c, hc⟩ : ∃ c, isOrd pat = c := ⟨_, rfl⟩
  have C1 := Go.Lib.hid (implOrder_any W v n zs a hv hn ha)
  have C2 := Go.Lib.hid (fun (W' : World) (h : Below W.heap.size W W') => implOrder_any W' u m pat c (hu.grow h) hm hc)
  have HV := Go.Lib.hid (And.intro hv hu)
  have HA := Go.Lib.hid (And.intro ha (And.intro hc h))
  obtain ⟨_, a1, c1, rfl, -, -⟩ := hv
  obtain ⟨_, a2, c2, rfl, -, -⟩ := hu
  clear h ha hc
  cases a with
  | false =>
    have h0 := HA.out.2.2
    unfold countAns at h0
    rw [if_neg (fun h => (of_decide_eq_false HA.out.1) h.1)] at h0
    cases h0
    go_enter Try.func11, Try.ntmps11
    go_wp2_with fail
    refine (C1.out).mono ?_
    rintro e w1 ⟨rfl, hb⟩
    have H1 := Go.Lib.hid hb
    clear hb
    go_wp2_with fail
    go_ret2
    exact ⟨rfl, H1.out⟩
  | true =>
    cases c with
    | false =>
      have h0 := HA.out.2.2
      unfold countAns at h0
      rw [if_neg (fun h => (of_decide_eq_false HA.out.2.1) h.2)] at h0
      cases h0
      go_enter Try.func11, Try.ntmps11
      go_wp2_with fail
      refine (C1.out).mono ?_
      rintro e w1 ⟨rfl, hb⟩
      have H1 := Go.Lib.hid hb
      clear hb
      go_wp2_with fail
      refine (C2.out _ H1.out).mono ?_
      rintro e w2 ⟨rfl, hb⟩
      have H2 := Go.Lib.hid (H1.out.trans (hb.mono H1.out.size))
      clear hb
      go_wp2_with fail
      go_ret2
      exact ⟨rfl, H2.out⟩
    | true =>
      go_enter Try.func11, Try.ntmps11
      go_wp2_with fail
      refine (C1.out).mono ?_
      rintro e w0 ⟨rfl, hb⟩
      have H0 := Go.Lib.hid hb
      clear hb
      go_wp2_with fail
      refine (C2.out _ H0.out).mono ?_
      rintro e w1 ⟨rfl, hb⟩
      have H1 := Go.Lib.hid (H0.out.trans (hb.mono H0.out.size))
      clear hb
      have hord : Ord zs := of_decide_eq_true HA.out.1
      have hpo : Ord pat := of_decide_eq_true HA.out.2.1
      have h0 := HA.out.2.2
      unfold countAns at h0
      rw [if_pos ⟨hord, hpo⟩] at h0
      have CM := Go.Lib.hid (patternPlaces_any zs pat hord.2.2.2 hord.1 hord.2.1 hpo w1 _ _ n m (HV.out.1.grow H1.out) (HV.out.2.grow H1.out))
      obtain ⟨N, hN⟩ : ∃ N, (placesOf zs pat).length = N := ⟨_, rfl⟩
      have hNb : N ≤ 823543 := by rw [← hN]; exact places_many hord.2.1 hpo
      rw [hN] at h0
      cases h0
      have HN := Go.Lib.hid hN
      clear hN hord hpo
      go_wp2_with fail
      refine (CM.out).mono ?_
      rintro e w2 ⟨rv, rfl, hL, hb⟩
      obtain ⟨a, c, rfl⟩ := lists_value hL
      rw [List.length_map, HN.out]
      have H2 := Go.Lib.hid (H1.out.trans (hb.mono H1.out.size))
      clear hb hL
      go_wp2_with fail
      go_ret2
      exact ⟨rfl, H2.out⟩

set_option maxRecDepth 100000 in
set_option maxHeartbeats 2000000 in
theorem specFirst (zs pat : List Int) (xs : List Int) (b : Bool) (h : firstAns zs pat = (xs, b)) (hz1 : zs.length ≤ 1048576) (hz2 : pat.length ≤ 1048576) (W : World) (v : Value) (n : Nat) (hv : Sees W v n (vals zs)) (u : Value) (m : Nat) (hu : Sees W u m (vals pat)) :
    Calls Try.prog 10 #[v, u] W fun e w' => ListTo W e w' xs b := by
  have hn : n ≤ 1048576 := by have := hv.1; simp at this; omega
  have hm : m ≤ 1048576 := by have := hu.1; simp at this; omega
  obtain ⟨a, ha⟩ : ∃ a, isOrd zs = a := ⟨_, rfl⟩
  obtain ⟨c, hc⟩ : ∃ c, isOrd pat = c := ⟨_, rfl⟩
  obtain ⟨gd, hgd⟩ : ∃ gd, (isOrd zs && isOrd pat) = gd := ⟨_, rfl⟩
  have C1 := Go.Lib.hid (l3Good_any zs pat gd W v u n m hv hu hn hm hgd)
  rw [ha, hc] at hgd
  have HV := Go.Lib.hid (And.intro hv hu)
  have HA := Go.Lib.hid (And.intro ha (And.intro hc h))
  obtain ⟨_, a1, c1, rfl, -, -⟩ := hv
  obtain ⟨_, a2, c2, rfl, -, -⟩ := hu
  clear h ha hc
  cases a with
  | false =>
    have hg2 : gd = false := by rw [← hgd]; cases c <;> rfl
    subst hg2
    clear hgd
    have h0 := HA.out.2.2
    unfold firstAns at h0
    rw [if_neg (fun h => (of_decide_eq_false HA.out.1) h.1)] at h0
    cases h0
    go_enter Try.func10, Try.ntmps10
    go_wp2_with fail
    refine (C1.out).mono ?_
    rintro e w1 ⟨rfl, hb⟩
    have H1 := Go.Lib.hid hb
    clear hb
    go_wp2_with fail
    go_ret2
    exact listTo_below H1.out (listTo_none _ _)
  | true =>
    cases c with
    | false =>
      have hg2 : gd = false := by rw [← hgd]; rfl
      subst hg2
      clear hgd
      have h0 := HA.out.2.2
      unfold firstAns at h0
      rw [if_neg (fun h => (of_decide_eq_false HA.out.2.1) h.2.1)] at h0
      cases h0
      go_enter Try.func10, Try.ntmps10
      go_wp2_with fail
      refine (C1.out).mono ?_
      rintro e w1 ⟨rfl, hb⟩
      have H1 := Go.Lib.hid hb
      clear hb
      go_wp2_with fail
      go_ret2
      exact listTo_below H1.out (listTo_none _ _)
    | true =>
      have hg2 : gd = true := by rw [← hgd]; rfl
      subst hg2
      clear hgd
      go_enter Try.func10, Try.ntmps10
      go_wp2_with fail
      refine (C1.out).mono ?_
      rintro e w1 ⟨rfl, hb⟩
      have H1 := Go.Lib.hid hb
      clear hb
      have hord : Ord zs := of_decide_eq_true HA.out.1
      have hpo : Ord pat := of_decide_eq_true HA.out.2.1
      have h0 := HA.out.2.2
      have CM := Go.Lib.hid (l3Places_any zs pat hord.1 hord.2.1 hpo w1 _ _ n m (HV.out.1.grow H1.out) (HV.out.2.grow H1.out))
      obtain ⟨N, hN⟩ : ∃ N, (placesOf zs pat).length = N := ⟨_, rfl⟩
      have hNb : N ≤ 823543 := by rw [← hN]; exact places_many hord.2.1 hpo
      have hml : pat.length = m := by have := HV.out.2.1; simpa using this
      have HM := Go.Lib.hid hml
      have HN := Go.Lib.hid hN
      have HP := Go.Lib.hid (And.intro hord hpo)
      clear hN hml hord hpo h0
      go_wp2_with fail
      refine (CM.out).mono ?_
      rintro e w2 ⟨rv, rfl, hL, hb⟩
      obtain ⟨a, c, rfl⟩ := lists_value hL
      rw [List.length_map, HN.out] at hL ⊢
      have H2 := Go.Lib.hid (H1.out.trans (hb.mono H1.out.size))
      by_cases hN0 : N = 0
      · have h0 := HA.out.2.2
        unfold firstAns at h0
        rw [if_neg (fun h => by have h1 := has_len.1 h.2.2; rw [HN.out] at h1; omega)] at h0
        cases h0
        subst hN0
        clear hL hb
        go_wp2_with fail
        go_ret2
        exact listTo_below H2.out (listTo_none _ _)
      · have h0 := HA.out.2.2
        unfold firstAns at h0
        rw [if_pos ⟨HP.out.1, HP.out.2, has_len.2 (by rw [HN.out]; omega)⟩] at h0
        obtain ⟨q, t, hqt⟩ := List.exists_cons_of_ne_nil (show placesOf zs pat ≠ [] from fun e => by have h1 := HN.out; rw [e] at h1; simp at h1; omega)
        rw [hqt] at h0
        cases h0
        have hql : q.length = m := by rw [← HM.out]; exact places_len (zs := zs) (pat := pat) (by rw [hqt]; simp)
        rw [hqt, List.map_cons] at hL
        obtain ⟨g, p1, p2, rfl, hck, hoq⟩ := lists_first (by rw [← List.map_cons, List.length_map, ← hqt, HN.out]) hL
        have HQ := Go.Lib.hid (And.intro hoq hb)
        have hN0i : ((N : Int) == 0) = false := by rw [beq_eq_false_iff_ne]; omega
        have hNpos : (0 : Int) < (N : Int) := by omega
        have hxl : (nat q).length = m := by rw [nat_len, hql]
        have HX := Go.Lib.hid hxl
        clear hL hb hqt hql hoq hN0 hxl
        go_wp2_with fail
        go_ret2
        exact listTo_below H1.out ⟨_, rfl, by show w2.ownsRow w1.heap.size _ _ _ (nat q).length _; rw [HX.out]; exact HQ.out.1, HQ.out.2⟩

set_option maxRecDepth 100000 in
set_option maxHeartbeats 2000000 in
theorem implFirst (zs pat : List Int) (xs : List Int) (b : Bool) (h : firstAns zs pat = (xs, b)) (hz1 : zs.length ≤ 1048576) (hz2 : pat.length ≤ 1048576) (W : World) (v : Value) (n : Nat) (hv : Sees W v n (vals zs)) (u : Value) (m : Nat) (hu : Sees W u m (vals pat)) :
    Calls Try.prog 9 #[v, u] W fun e w' => ListTo W e w' xs b := by
  have hn : n ≤ 1048576 := by have := hv.1; simp at this; omega
  have hm : m ≤ 1048576 := by have := hu.1; simp at this; omega
  obtain ⟨a, ha⟩ : ∃ a, isOrd zs = a := ⟨_, rfl⟩
  obtain ⟨c, hc⟩ : ∃ c, isOrd pat = c := ⟨_, rfl⟩
  have C1 := Go.Lib.hid (implOrder_any W v n zs a hv hn ha)
  have C2 := Go.Lib.hid (fun (W' : World) (h : Below W.heap.size W W') => implOrder_any W' u m pat c (hu.grow h) hm hc)
  have HV := Go.Lib.hid (And.intro hv hu)
  have HA := Go.Lib.hid (And.intro ha (And.intro hc h))
  obtain ⟨_, a1, c1, rfl, -, -⟩ := hv
  obtain ⟨_, a2, c2, rfl, -, -⟩ := hu
  clear h ha hc
  cases a with
  | false =>
    have h0 := HA.out.2.2
    unfold firstAns at h0
    rw [if_neg (fun h => (of_decide_eq_false HA.out.1) h.1)] at h0
    cases h0
    go_enter Try.func9, Try.ntmps9
    go_wp2_with fail
    refine (C1.out).mono ?_
    rintro e w1 ⟨rfl, hb⟩
    have H1 := Go.Lib.hid hb
    clear hb
    go_wp2_with fail
    go_ret2
    exact listTo_below H1.out (listTo_none _ _)
  | true =>
    cases c with
    | false =>
      have h0 := HA.out.2.2
      unfold firstAns at h0
      rw [if_neg (fun h => (of_decide_eq_false HA.out.2.1) h.2.1)] at h0
      cases h0
      go_enter Try.func9, Try.ntmps9
      go_wp2_with fail
      refine (C1.out).mono ?_
      rintro e w1 ⟨rfl, hb⟩
      have H1 := Go.Lib.hid hb
      clear hb
      go_wp2_with fail
      refine (C2.out _ H1.out).mono ?_
      rintro e w2 ⟨rfl, hb⟩
      have H2 := Go.Lib.hid (H1.out.trans (hb.mono H1.out.size))
      clear hb
      go_wp2_with fail
      go_ret2
      exact listTo_below H2.out (listTo_none _ _)
    | true =>
      go_enter Try.func9, Try.ntmps9
      go_wp2_with fail
      refine (C1.out).mono ?_
      rintro e w0 ⟨rfl, hb⟩
      have H0 := Go.Lib.hid hb
      clear hb
      go_wp2_with fail
      refine (C2.out _ H0.out).mono ?_
      rintro e w1 ⟨rfl, hb⟩
      have H1 := Go.Lib.hid (H0.out.trans (hb.mono H0.out.size))
      clear hb
      have hord : Ord zs := of_decide_eq_true HA.out.1
      have hpo : Ord pat := of_decide_eq_true HA.out.2.1
      have h0 := HA.out.2.2
      have CM := Go.Lib.hid (patternPlaces_any zs pat hord.2.2.2 hord.1 hord.2.1 hpo w1 _ _ n m (HV.out.1.grow H1.out) (HV.out.2.grow H1.out))
      obtain ⟨N, hN⟩ : ∃ N, (placesOf zs pat).length = N := ⟨_, rfl⟩
      have hNb : N ≤ 823543 := by rw [← hN]; exact places_many hord.2.1 hpo
      have hml : pat.length = m := by have := HV.out.2.1; simpa using this
      have HM := Go.Lib.hid hml
      have HN := Go.Lib.hid hN
      have HP := Go.Lib.hid (And.intro hord hpo)
      clear hN hml hord hpo h0
      go_wp2_with fail
      refine (CM.out).mono ?_
      rintro e w2 ⟨rv, rfl, hL, hb⟩
      obtain ⟨a, c, rfl⟩ := lists_value hL
      rw [List.length_map, HN.out] at hL ⊢
      have H2 := Go.Lib.hid (H1.out.trans (hb.mono H1.out.size))
      by_cases hN0 : N = 0
      · have h0 := HA.out.2.2
        unfold firstAns at h0
        rw [if_neg (fun h => by have h1 := has_len.1 h.2.2; rw [HN.out] at h1; omega)] at h0
        cases h0
        subst hN0
        clear hL hb
        go_wp2_with fail
        go_ret2
        exact listTo_below H2.out (listTo_none _ _)
      · have h0 := HA.out.2.2
        unfold firstAns at h0
        rw [if_pos ⟨HP.out.1, HP.out.2, has_len.2 (by rw [HN.out]; omega)⟩] at h0
        obtain ⟨q, t, hqt⟩ := List.exists_cons_of_ne_nil (show placesOf zs pat ≠ [] from fun e => by have h1 := HN.out; rw [e] at h1; simp at h1; omega)
        rw [hqt] at h0
        cases h0
        have hql : q.length = m := by rw [← HM.out]; exact places_len (zs := zs) (pat := pat) (by rw [hqt]; simp)
        rw [hqt, List.map_cons] at hL
        obtain ⟨g, p1, p2, rfl, hck, hoq⟩ := lists_first (by rw [← List.map_cons, List.length_map, ← hqt, HN.out]) hL
        have HQ := Go.Lib.hid (And.intro hoq hb)
        have hN0i : ((N : Int) == 0) = false := by rw [beq_eq_false_iff_ne]; omega
        have hNpos : (0 : Int) < (N : Int) := by omega
        have hxl : (nat q).length = m := by rw [nat_len, hql]
        have HX := Go.Lib.hid hxl
        clear hL hb hqt hql hoq hN0 hxl
        go_wp2_with fail
        go_ret2
        exact listTo_below H1.out ⟨_, rfl, by show w2.ownsRow w1.heap.size _ _ _ (nat q).length _; rw [HX.out]; exact HQ.out.1, HQ.out.2⟩

end Go.Proofs.Ytmnggcnipjdimab.PubC
