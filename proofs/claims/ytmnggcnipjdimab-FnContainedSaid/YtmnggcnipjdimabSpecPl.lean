/-
  Contracts: the model's places of a pattern, and whether a list contains it. Conditions: lists of at most 7 different numbers, patterns that are orders.
-/
import Derived.Test.YtmnggcnipjdimabGoes
import Derived.Test.YtmnggcnipjdimabChoices
import Derived.Test.YtmnggcnipjdimabHas
namespace Go.Proofs.Ytmnggcnipjdimab.SpecPlC
open Go.RowKit SeesC IntsC ExactC OrdMath InC OrderC PatMath ShapeC ListsC ListsEC ListsFC ListsGC PlacesC Own1C AppendTwoC SameC GoesC ChoicesC HasC

set_option maxRecDepth 100000 in
set_option maxHeartbeats 1000000 in
theorem l3Good_any (zs pat : List Int) (r : Bool) (W : World) (v u : Value) (n m : Nat) (hv : Sees W v n (vals zs)) (hu : Sees W u m (vals pat)) (hn : n ≤ 1048576) (hm : m ≤ 1048576) (hr : (isOrd zs && isOrd pat) = r) :
    Calls Try.prog 45 #[v, u] W fun e w' => e = .returned (.bool r) ∧ Below W.heap.size W w' := by
  obtain ⟨a, ha⟩ : ∃ a, isOrd zs = a := ⟨_, rfl⟩
  obtain ⟨b, hb⟩ : ∃ b, isOrd pat = b := ⟨_, rfl⟩
  rw [ha, hb] at hr
  have C1 := Go.Lib.hid (l2Order_any W v n zs a hv hn ha)
  have C2 := Go.Lib.hid (fun (W' : World) (h : Below W.heap.size W W') => l2Order_any W' u m pat b (hu.grow h) hm hb)
  obtain ⟨_, a1, c1, rfl, _, _⟩ := hv
  obtain ⟨_, a2, c2, rfl, _, _⟩ := hu
  clear ha hb
  cases a with
  | false =>
    have hr2 : r = false := by rw [← hr]; rfl
    subst hr2
    go_enter Try.func45, Try.ntmps45
    go_wp2_with fail
    refine (C1.out).mono ?_
    rintro e w1 ⟨rfl, hd⟩
    have H := Go.Lib.hid (hd.below W.heap.size)
    clear hd
    go_wp2_with fail
    go_ret
    exact ⟨rfl, H.out⟩
  | true =>
    have hr2 : b = r := by rw [← hr]; rfl
    subst hr2
    clear hr
    go_enter Try.func45, Try.ntmps45
    go_wp2_with fail
    refine (C1.out).mono ?_
    rintro e w1 ⟨rfl, hd⟩
    have H := Go.Lib.hid (hd.below W.heap.size)
    clear hd
    go_wp2_with fail
    refine (C2.out _ H.out).mono ?_
    rintro e w2 ⟨rfl, hd⟩
    have H2 := Go.Lib.hid (H.out.trans (hd.below W.heap.size))
    clear hd
    go_wp2_with fail
    go_ret
    exact ⟨rfl, H2.out⟩

set_option maxRecDepth 100000 in
set_option maxHeartbeats 1000000 in
theorem l3In_any (zs pat : List Int) (r : Bool) (hn1 : 1 ≤ zs.length) (hn7 : zs.length ≤ 7) (hp : Ord pat) (hr : has zs pat = r) (W : World) (v u : Value) (n m : Nat) (hv : Sees W v n (vals zs)) (hu : Sees W u m (vals pat)) :
    Calls Try.prog 46 #[v, u] W fun e w' => e = .returned (.bool r) ∧ Below W.heap.size W w' := by
  have hl : zs.length = n := by simpa using hv.1
  have hlm : pat.length = m := by simpa using hu.1
  have hm1 : 1 ≤ m := by have := hp.1; omega
  obtain ⟨zb, zo, zc, rfl, -, -, -, -⟩ := sees_cells hv (by omega)
  obtain ⟨pb, po, pc, rfl, -, -, -, -⟩ := sees_cells hu (by omega)
  have HB : Hid (Below W.heap.size W (W.alloc (.cells #[] 3))) := Go.Lib.hid ((Below.refl _ _).alloc (Nat.le_refl _) _)
  have h0 := gone_all zs pat hn7 hn1 hp.2.1 hp.1 pat.length [] zb zo zc pb po pc W.heap.size 0 (W.alloc (.cells #[] 3)) (by simp) (fun p hp => by simp at hp) (by rw [hl]; exact hv.grow HB.out) (by rw [hlm]; exact hu.grow HB.out) (Sees.nil _ _ _)
  rw [goes_has hp, hr, hl, hlm] at h0
  have C := Go.Lib.hid h0
  have hbe : ((behind [] : Nat) : Int) = 0 := rfl
  rw [hbe] at C
  simp only [List.length_nil] at C
  clear hv hu h0 hr hbe
  go_enter Try.func46, Try.ntmps46
  go_wp2_with fail
  refine (C.out).mono ?_
  rintro e w1 ⟨rfl, hb⟩
  have H := Go.Lib.hid (HB.out.trans (hb.mono HB.out.size))
  clear hb
  go_wp2_with fail
  go_ret
  exact ⟨rfl, H.out⟩

/-- Owned lists, their rows told. -/
def With (w : World) (base n : Nat) (v : Value) (L : List (List Value)) (gs : List (Nat × Nat)) : Prop :=
  gs.length = L.length ∧ w.ownsRow base 24 1 v L.length (gs.map (sl n)) ∧ (∀ i, i < L.length → w.ownsRow base 3 1 (sl n (gs.getD i (0, 0))) n (L.getD i [])) ∧ (gs.map (·.1)).Nodup

theorem With.lists {w : World} {base n : Nat} {v : Value} {L : List (List Value)} {gs : List (Nat × Nat)} (h : With w base n v L gs) : Lists w base n v L := by
  obtain ⟨h1, h2, h3, h4⟩ := h
  refine ⟨gs, h1, h2, h3, h4, fun p hp e => ?_⟩
  obtain ⟨i, hi, hir⟩ := mem_at hp
  have h5 := h3 i (by omega)
  rw [hir] at h5
  exact own_types h2 h5 (by decide) e rfl

theorem Lists.with {w : World} {base n : Nat} {v : Value} {L : List (List Value)} (h : Lists w base n v L) : ∃ gs, With w base n v L gs := by
  obtain ⟨gs, h1, h2, h3, h4, _⟩ := h
  exact ⟨gs, h1, h2, h3, h4⟩

theorem With.kept {w w' : World} {base n : Nat} {v : Value} {L : List (List Value)} {gs : List (Nat × Nat)} (h : With w base n v L gs) (hb : Below w.heap.size w w') : With w' base n v L gs := by
  obtain ⟨h1, h2, h3, h4⟩ := h
  exact ⟨h1, kept_call h2 hb, fun i hi => kept_call (h3 i hi) hb, h4⟩

theorem with_snoc {X X' : World} {base n : Nat} {v v5 : Value} {gs : List (Nat × Nat)} {p : Nat × Nat} {L : List (List Value)} {q : List Value}
    (h : With X base n v L gs) (hp : X.ownsRow base 3 1 (sl n p) n q) (hfresh : ∀ r ∈ gs, r.1 ≠ p.1)
    (ho5 : X'.ownsRow base 24 1 v5 (L.length + 1) (gs.map (sl n) ++ [sl n p])) (hgrow : X.grownBy X' v.ownBlock) : With X' base n v5 (L ++ [q]) (gs ++ [p]) := by
  obtain ⟨h1, h2, h3, h4⟩ := h
  refine ⟨by simp [h1], by rw [List.length_append, List.map_append]; exact ho5, ?_, ?_⟩
  · intro i hi
    rw [List.length_append] at hi
    by_cases h : i < L.length
    · rw [getD_left (by omega), getD_left h]
      exact own_mark (h3 i h) hgrow (fun a ha e => own_types h2 (h3 i h) (by decide) e ha)
    · have hi2 : i = L.length := by simp at hi; omega
      subst hi2
      rw [getD_right (by omega), getD_right (Nat.le_refl _), h1, Nat.sub_self]
      exact own_mark hp hgrow (fun a ha e => own_types h2 hp (by decide) e ha)
  · rw [List.map_append, List.nodup_append]
    refine ⟨h4, by simp, ?_⟩
    intro a ha b hb e
    simp at hb
    subst hb
    obtain ⟨r, hr, rfl⟩ := List.mem_map.1 ha
    exact hfresh r hr e

theorem with_mark {w w' : World} {row : Option Nat} {base n : Nat} {v : Value} {L : List (List Value)} {gs : List (Nat × Nat)} (h : With w base n v L gs) (hg : w.grownBy w' row) (hv : ∀ a, row = some a → v.ownBlock ≠ some a) (hin : ∀ a, row = some a → ∀ i, i < L.length → (gs.getD i (0, 0)).1 ≠ a) : With w' base n v L gs := by
  obtain ⟨h1, h2, h3, h4⟩ := h
  exact ⟨h1, own_mark h2 hg (fun a ha e => hv a e ha), fun i hi => own_mark (h3 i hi) hg (fun a ha e => hin a e i hi (Option.some.inj ha)), h4⟩

theorem filter_next {α : Type} (f : α → Bool) {l : List α} {i : Nat} (h : i < l.length) : (l.take (i + 1)).filter f = (l.take i).filter f ++ (if f l[i] = true then [l[i]] else []) := by
  rw [List.take_succ_eq_append_getElem h, List.filter_append]
  simp [List.filter_cons]

set_option maxRecDepth 100000 in
set_option maxHeartbeats 4000000 in
theorem l3Places_any (zs pat : List Int) (hn1 : 1 ≤ zs.length) (hn7 : zs.length ≤ 7) (hp : Ord pat) (W : World) (v u : Value) (n m : Nat) (hv : Sees W v n (vals zs)) (hu : Sees W u m (vals pat)) :
    Calls Try.prog 48 #[v, u] W fun e w' => ∃ r, e = .returned r ∧ Lists w' W.heap.size m r ((placesOf zs pat).map nv) ∧ Below W.heap.size W w' := by
  obtain ⟨j0, hj, hy0, hy1, hy2⟩ := info_parts infoL
  have hl : zs.length = n := by simpa using hv.1
  have hlm : pat.length = m := by simpa using hu.1
  have hm1 : 1 ≤ m := by have := hp.1; omega
  have hm7 : m ≤ 7 := by have := hp.2.1; omega
  have hn7' : n ≤ 7 := by omega
  obtain ⟨zb, zo, zc, rfl, -, -, -, -⟩ := sees_cells hv (by omega)
  obtain ⟨pb, po, pc, rfl, -, -, -, -⟩ := sees_cells hu (by omega)
  have HV := Go.Lib.hid (And.intro hv (And.intro hu (And.intro hl hlm)))
  have HB0 : Hid (Below W.heap.size W ((W.alloc (.cells #[] 24)).alloc (.cells #[] 3))) := Go.Lib.hid (((Below.refl _ _).alloc (Nat.le_refl _) _).alloc (by simp) _)
  have HO0 : Hid (((W.alloc (.cells #[] 24)).alloc (.cells #[] 3)).ownsRow W.heap.size 24 1 (.slice (some ⟨W.heap.size, 0, none⟩) 0 0) 0 [] ∧ ((W.alloc (.cells #[] 24)).alloc (.cells #[] 3)).ownsRow (W.heap.size + 1) 3 1 (.slice (some ⟨W.heap.size + 1, 0, none⟩) 0 0) 0 []) := Go.Lib.hid ⟨(World.ownsRow_made (base := W.heap.size) (e := 24) (size := 1) W #[] 0 (Nat.le_refl _) (by unfold maxLen; omega) rfl).alloc _, by
    have := World.ownsRow_made (base := W.heap.size + 1) (e := 3) (size := 1) (W.alloc (.cells #[] 24)) #[] 0 (by simp) (by unfold maxLen; omega) rfl
    rw [World.size_alloc] at this
    exact this⟩
  have C0 := chosen_all n m hn7' hm7 m [] (W.heap.size + 1) (W.heap.size + 1) 0 ((W.alloc (.cells #[] 24)).alloc (.cells #[] 3)) (by simp) (fun p hp => by simp at hp) (by simp) HO0.out.2
  simp only [List.length_nil] at C0
  obtain ⟨N, hN⟩ : ∃ N, (ch n m []).length = N := ⟨_, rfl⟩
  rw [hN] at C0
  have hNb : N ≤ 823543 := by rw [← hN]; exact ch_823543 hn7' hm7
  have HN := Go.Lib.hid hN
  have CH := Go.Lib.hid C0
  clear hv hu hl hlm hN C0
  go_enter Try.func48, Try.ntmps48
  go_wp2_with fail
  refine (CH.out).mono ?_
  rintro e w1 ⟨g1, c1, rfl, hL1, hb1⟩
  obtain ⟨gs, hW1⟩ := Lists.with hL1
  have hg1 := own_block_lt (n := N) (by have := hW1.2.1; rw [List.length_map, HN.out] at this; exact this) (q := g1) rfl
  have HW1 := Go.Lib.hid (And.intro hW1 (And.intro (HB0.out.trans (hb1.mono HB0.out.size)) (And.intro (kept_call HO0.out.1 hb1) hg1)))
  clear hL1 hb1 hW1 hg1 CH
  go_wp2_with fail
  go_loopw [5, 7] (fun ov iv wr => ∃ (i g2 c2 N2 : Nat) (Y : List (List Nat)) (hs : List (Nat × Nat)), i ≤ N ∧ iv = .int .i64 i ∧ ov = .slice (some ⟨g2, 0, none⟩) N2 c2 ∧ Hid (Y = ((ch n m []).take i).filter (fun q => decide (shp (pick zs q) = pat))) ∧
    Hid (N2 = Y.length ∧ With wr W.heap.size m (.slice (some ⟨g2, 0, none⟩) N2 c2) (Y.map nv) hs ∧ With wr (W.heap.size + 1) m (.slice (some ⟨g1, 0, none⟩) N c1) ((ch n m []).map nv) gs ∧ Below W.heap.size W wr ∧ g2 ≠ g1 ∧ (∀ r ∈ hs, ∃ k, k < i ∧ gs.getD k (0, 0) = r))) (fun _ i _ => N - (intOf i).toNat)
  case atStart => exact ⟨0, W.heap.size, 0, 0, [], [], Nat.zero_le _, rfl, rfl, Go.Lib.hid (by simp), Go.Lib.hid ⟨rfl, ⟨rfl, HW1.out.2.2.1, fun i hi => absurd hi (by simp), by simp⟩, HW1.out.1, HW1.out.2.1, by have := HW1.out.2.2.2.1; omega, fun r hr => by simp at hr⟩⟩
  case round =>
    obtain ⟨i, g2, c2, N2, Y, hs, hiN, rfl, rfl, HY, HX⟩ := hrel
    clear HW1
    by_cases hlt : i < N
    · obtain ⟨wj, rfl⟩ : ∃ wj, wj = wr := ⟨_, rfl⟩
      have hil : i < (ch n m []).length := by rw [HN.out]; exact hlt
      obtain ⟨q, hq⟩ : ∃ q, (ch n m [])[i] = q := ⟨_, rfl⟩
      have hqm : q ∈ ch n m [] := by rw [← hq]; exact List.getElem_mem _
      have hql : q.length = m := by have := (ch_pre _ _ q hqm).1; simpa using this
      have hqn := (ch_asc _ _ (asc_nil _) q hqm).2
      obtain ⟨p, hpp⟩ : ∃ p, gs.getD i (0, 0) = p := ⟨_, rfl⟩
      have hmapl : ((ch n m []).map nv).length = N := by rw [List.length_map, HN.out]
      have hW := HX.out.2.2.1
      have hgl : gs.length = N := by rw [hW.1, hmapl]
      have hog := hW.2.1
      rw [hmapl] at hog
      have hob := hW.2.2.1 i (by rw [hmapl]; exact hlt)
      have hgd : ((ch n m []).map nv).getD i [] = nv q := by rw [← hq]; simp [hil]
      rw [hpp, hgd] at hob
      have hck : wj.cell? ⟨g1, i, none⟩ = some (.slice (some ⟨p.1, 0, none⟩) m p.2) := by
        rw [hog.cellAt i (by omega), ← hpp]
        simp [show i < gs.length by omega, sl]
      obtain ⟨p1, p2⟩ := p
      unfold sl at hob
      simp only at hob hck
      obtain ⟨kp, hkp⟩ : ∃ kp, decide (shp (pick zs q) = pat) = kp := ⟨_, rfl⟩
      have CA := Go.Lib.hid (l3At_any zs q wj _ (.slice (some ⟨p1, 0, none⟩) m p2) n m (HV.out.1.grow HX.out.2.2.2.1) (Sees.owns hob) (by omega) (by omega) hqn)
      have HE := Go.Lib.hid (And.intro (Exists.intro hil hq : ∃ h : i < (ch n m []).length, (ch n m [])[i] = q) (And.intro hpp (And.intro hgl (And.intro hob hkp))))
      have hlti : (i : Int) < (N : Int) := by omega
      clear hq hqm hql hqn hpp hW hgl hog hob hgd hkp hil
      go_wp2_with fail
      refine (CA.out).mono ?_
      rintro e w2 ⟨g3, c3, rfl, ho3, hb3⟩
      have CSh := Go.Lib.hid (l3Shape_any (pick zs q) w2 _ m (by omega) (Sees.owns ho3))
      have H3 := Go.Lib.hid hb3
      clear ho3 hb3 CA
      go_wp2_with fail
      refine (CSh.out).mono ?_
      rintro e w3 ⟨u3, rfl, ho4, hb4⟩
      have hbj4 := H3.out.trans (hb4.mono H3.out.size)
      have CSa := Go.Lib.hid (l1Same_any (shp (pick zs q)) pat kp w3 u3 m (Sees.owns ho4) _ ((HV.out.2.1.grow HX.out.2.2.2.1).grow hbj4) (by omega) HE.out.2.2.2.2)
      have H4 := Go.Lib.hid hbj4
      clear ho4 hb4 hbj4 CSh
      go_wp2_with fail
      refine (CSa.out).mono ?_
      rintro e w4 ⟨rfl, hd5⟩
      have hb5 := H4.out.trans (hd5.below wj.heap.size)
      have hck4 : w4.cell? ⟨g1, i, none⟩ = some (.slice (some ⟨p1, 0, none⟩) m p2) := (hb5.cell (p := ⟨g1, i, none⟩) (World.block_lt_of_cell? wj _ hck)).trans hck
      have H5 := Go.Lib.hid hb5
      clear hd5 hb5 CSa hck
      cases kp with
      | false =>
        have HYN : Hid (Y = ((ch n m []).take (i + 1)).filter (fun q => decide (shp (pick zs q) = pat))) := Go.Lib.hid (by
          obtain ⟨⟨hil, hq⟩, _, _, _, hkp⟩ := HE.out
          rw [filter_next _ hil, hq, hkp, HY.out]; simp)
        have H6 : Hid (N2 = Y.length ∧ With w4 W.heap.size m (.slice (some ⟨g2, 0, none⟩) N2 c2) (Y.map nv) hs ∧ With w4 (W.heap.size + 1) m (.slice (some ⟨g1, 0, none⟩) N c1) ((ch n m []).map nv) gs ∧ Below W.heap.size W w4 ∧ g2 ≠ g1 ∧ (∀ r ∈ hs, ∃ k, k < i + 1 ∧ gs.getD k (0, 0) = r)) :=
          Go.Lib.hid ⟨HX.out.1, HX.out.2.1.kept H5.out, HX.out.2.2.1.kept H5.out, HX.out.2.2.2.1.trans (H5.out.mono HX.out.2.2.2.1.size), HX.out.2.2.2.2.1, fun r hr => by obtain ⟨k, hk, e⟩ := HX.out.2.2.2.2.2 r hr; exact ⟨k, by omega, e⟩⟩
        clear hck4
        go_wp2
        go_roundw
        case rel => exact ⟨i + 1, g2, c2, N2, Y, hs, by omega, by go_num, rfl, HYN, H6⟩
        case measure => simp [intOf]; omega
      | true =>
        have hWo := HX.out.2.1.kept H5.out
        have hWa := HX.out.2.2.1.kept H5.out
        have hYl : (Y.map nv).length = N2 := by rw [List.length_map, ← HX.out.1]
        have hbW := HX.out.2.2.2.1.trans (H5.out.mono HX.out.2.2.2.1.size)
        have ho6 := hWo.2.1
        rw [hYl] at ho6
        have hN2b : N2 ≤ 823543 := by
          rw [HX.out.1, HY.out]
          have h1 := List.length_filter_le (fun q => decide (shp (pick zs q) = pat)) ((ch n m []).take i)
          rw [List.length_take] at h1
          have := HN.out
          omega
        have hba : Below w4.heap.size w4 (w4.alloc (.cells #[.slice (some ⟨p1, 0, none⟩) m p2] 24)) := (Below.refl _ _).alloc (Nat.le_refl _) _
        have HA := Go.Lib.hid (And.intro (kept_call ho6 hba) (And.intro (hWo.kept hba) (And.intro (hWa.kept hba) (And.intro (hbW.alloc hbW.size (.cells #[.slice (some ⟨p1, 0, none⟩) m p2] 24)) (And.intro hYl (own_block_lt (n := N) (by have := hWa.2.1; rw [hmapl] at this; exact this) (q := g1) rfl).2)))))
        have hsz6 := HA.out.2.2.2.1.size
        clear hWo hWa hYl hbW ho6 hba
        go_wp2_with (at_builtin; refine wpList_append_two _ rfl _ _ 38 rfl W.heap.size 24 j0 (.slice none 0 0) 1 24 Try.underlying38 hj hy0 hy1 hy2 rfl (by decide) _ _ _ rfl HA.out.1 ⟨w4.heap.size, 0, none⟩ 1 1 [.slice (some ⟨p1, 0, none⟩) m p2] rfl rfl (cell_one_new _ _ _) (fun x hx => by simp at hx; subst hx; rfl) (by unfold maxLen; omega) (by omega) (by simpa using hsz6) ?_; intro v' w6 hown6 hgrow6 hnew6)
        obtain ⟨g6, c6, rfl⟩ := ownsRow_succ hown6
        have hob6 : (w4.alloc (.cells #[.slice (some ⟨p1, 0, none⟩) m p2] 24)).ownsRow W.heap.size 3 1 (sl m (p1, p2)) m (nv q) := own_lower (kept_call (kept_call HE.out.2.2.2.1 H5.out) ((Below.refl _ _).alloc (Nat.le_refl _) _)) (by omega)
        have hfr : ∀ r ∈ hs, r.1 ≠ (p1, p2).1 := fun r hr e => by
          obtain ⟨k, hk, ek⟩ := HX.out.2.2.2.2.2 r hr
          have h1 := nodup_ne HX.out.2.2.1.2.2.2 (i := k) (j := i) (by rw [HE.out.2.2.1]; omega) (by rw [HE.out.2.2.1]; exact hlt) (by omega)
          rw [ek, HE.out.2.1] at h1
          exact h1 e
        have hW6 : With w6 W.heap.size m (.slice (some ⟨g6, 0, none⟩) (N2 + 1) c6) ((Y ++ [q]).map nv) (hs ++ [(p1, p2)]) := by
          rw [List.map_append]
          exact with_snoc HA.out.2.1 hob6 hfr (by rw [HA.out.2.2.2.2.1]; exact hown6) hgrow6
        have hg61 : g6 ≠ g1 := by
          rcases hnew6 with h | h
          · have : g6 = g2 := Option.some.inj h
            rw [this]; exact HX.out.2.2.2.2.1
          · have h1 := h g6 rfl
            have h2 := HA.out.2.2.2.2.2
            simp at h1
            omega
        have hA6 := with_mark HA.out.2.2.1 hgrow6 (fun a ha e => by
          have h1 : g2 = a := Option.some.inj ha
          have h2 : g1 = a := Option.some.inj e
          exact HX.out.2.2.2.2.1 (h1.trans h2.symm)) (fun a ha k hk e => own_types HA.out.1 (HA.out.2.2.1.2.2.1 k hk) (by decide) ha (by show some (gs.getD k (0, 0)).1 = some a; rw [e]))
        have hb6 := HA.out.2.2.2.1.grown hgrow6 hsz6 (fun k hk => (HA.out.1.lt k hk).1)
        have HYN : Hid (Y ++ [q] = ((ch n m []).take (i + 1)).filter (fun q => decide (shp (pick zs q) = pat))) := Go.Lib.hid (by
          obtain ⟨⟨hil, hq⟩, _, _, _, hkp⟩ := HE.out
          rw [filter_next _ hil, hq, hkp, HY.out]; simp)
        have H6 : Hid (N2 + 1 = (Y ++ [q]).length ∧ With w6 W.heap.size m (.slice (some ⟨g6, 0, none⟩) (N2 + 1) c6) ((Y ++ [q]).map nv) (hs ++ [(p1, p2)]) ∧ With w6 (W.heap.size + 1) m (.slice (some ⟨g1, 0, none⟩) N c1) ((ch n m []).map nv) gs ∧ Below W.heap.size W w6 ∧ g6 ≠ g1 ∧ (∀ r ∈ hs ++ [(p1, p2)], ∃ k, k < i + 1 ∧ gs.getD k (0, 0) = r)) :=
          Go.Lib.hid ⟨by rw [List.length_append, ← HX.out.1]; rfl, hW6, hA6, hb6, hg61, fun r hr => by
            rw [List.mem_append, List.mem_singleton] at hr
            rcases hr with hr | rfl
            · obtain ⟨k, hk, e⟩ := HX.out.2.2.2.2.2 r hr; exact ⟨k, by omega, e⟩
            · exact ⟨i, by omega, HE.out.2.1⟩⟩
        clear hown6 hgrow6 hnew6 hob6 hfr hW6 hg61 hA6 hb6 hsz6 hck4
        go_wp2
        go_roundw
        case rel => exact ⟨i + 1, g6, c6, N2 + 1, Y ++ [q], hs ++ [(p1, p2)], by omega, by go_num, rfl, HYN, H6⟩
        case measure => simp [intOf]; omega
    · have hiN2 : i = N := by omega
      have HF : Hid (Y = placesOf zs pat) := Go.Lib.hid (by
        rw [HY.out, List.take_of_length_le (by rw [HN.out]; omega)]
        unfold placesOf
        rw [HV.out.2.2.1, HV.out.2.2.2])
      clear hiN2
      go_wp2
      go_ret
      exact ⟨_, rfl, by rw [← HF.out]; exact HX.out.2.1.lists, HX.out.2.2.2.1⟩

end Go.Proofs.Ytmnggcnipjdimab.SpecPlC
