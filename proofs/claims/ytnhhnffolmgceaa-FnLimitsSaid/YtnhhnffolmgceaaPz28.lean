/-
  Contract: the program's sweep. Conditions: an order.
-/
import Derived.Test.YtnhhnffolmgceaaPz26
import Derived.Test.YtnhhnffolmgceaaPz4
import Derived.Maps.AppendAt
import Derived.ArgAppend
import Derived.WalkSmall

namespace Go.Proofs.Ytnhhnffolmgceaa.SweepIC
open Go.RowKit SeesC WordsC IntsC ExactC NumC IterC OrdMath WordMath OrdFacts InC OrderC AtC EndsM SweepM StackM CutStC

theorem sweep_sent {zs : List Int} {y : Int} (h : ∀ z ∈ zs, z < y) : (swTo (zs ++ [y]) (zs.length + 1)).1 = sweepL zs := by
  unfold swTo
  rw [List.take_of_length_le (by simp), List.foldl_append]
  obtain ⟨o, s, hr⟩ : ∃ o s, zs.foldl swF ([], []) = (o, s) := ⟨_, _, rfl⟩
  rw [hr]
  have hs : ∀ z ∈ s, z < y := by
    intro z hz
    have hp := sw_perm zs [] []
    rw [hr] at hp
    have h9 : z ∈ o ++ s := List.mem_append.2 (.inr hz)
    have := hp.mem_iff.1 h9
    exact h z (by simpa using this)
  show o ++ popd s y = _
  rw [popd_all hs]
  unfold sweepL
  rw [hr]

theorem drop_popd {st : List Int} {x : Int} {k : Nat} (h : st.take k = belw st x) : (st.drop k).reverse = popd st x := by
  have h1 := parts st x
  rw [← h] at h1
  have h2 : st.take k ++ (popd st x).reverse = st.take k ++ st.drop k := by rw [h1, List.take_append_drop]
  have h3 := List.append_cancel_left h2
  rw [← h3, List.reverse_reverse]

theorem setL_drop (st : List Int) (k : Nat) (hk : k ≤ st.length) : setL (vals st) k (vals (st.drop k).reverse) = vals (st.take k ++ (st.drop k).reverse) := by
  rw [setL_is _ _ _ (by simp; omega)]
  have e : (vals st).drop (k + (vals (st.drop k).reverse).length) = [] := List.drop_of_length_le (by simp; omega)
  rw [e, List.append_nil]
  unfold vals
  rw [← List.map_take, List.map_append]

theorem rev_set (st : List Int) (x : Int) (k m g c o' B : Nat) (w : World) (hst : st.length = m) (hkm : k ≤ m) (ho : k < m → o' = k) (htk : st.take k = belw st x) (hown : w.ownsRow B 3 1 (.slice (some ⟨g, 0, none⟩) m c) m (vals st)) :
    w.grownBy (w.setCells g o' (((st.drop k).take (m - k)).reverse.map (Value.int .i64))) (some g) ∧ (∀ j u, (vals (popd st x))[j]? = some u → (w.setCells g o' (((st.drop k).take (m - k)).reverse.map (Value.int .i64))).cell? ((⟨g, o', none⟩ : Addr).add j) = some u) := by
  have e0 : (st.drop k).take (m - k) = st.drop k := List.take_of_length_le (by simp; omega)
  have e1 := drop_popd htk
  rw [e0]
  by_cases h : k < m
  · obtain rfl := ho h
    have h1 := own_setCells (vals (st.drop o').reverse) w o' _ hown
    rw [setL_drop st o' (by omega)] at h1
    refine ⟨h1.2, fun j u hu => ?_⟩
    have h2 := h1.1.cells (g := g) rfl (o' + j) u (by
      have e9 : (st.take o').length = o' := by rw [List.length_take]; omega
      rw [show vals (st.take o' ++ (st.drop o').reverse) = vals (st.take o') ++ vals (st.drop o').reverse by simp, List.getElem?_append_right (by rw [vals_len, e9]; omega), vals_len, e9, Nat.add_sub_cancel_left, e1]
      exact hu)
    have e10 : ((⟨g, 0, none⟩ : Addr).add (o' + j)) = ((⟨g, o', none⟩ : Addr).add j) := by
      unfold Addr.add
      by_cases h0 : o' + j = 0
      · obtain ⟨rfl, rfl⟩ : o' = 0 ∧ j = 0 := by omega
        rfl
      · rw [if_neg h0]
        by_cases hj : j = 0
        · subst hj; rw [if_pos rfl]; simp
        · rw [if_neg hj]; simp
    rw [e10] at h2
    exact h2
  · have hk : k = m := by omega
    have e2 : st.drop k = [] := List.drop_of_length_le (by omega)
    rw [e2] at e1
    rw [e2, ← e1]
    exact ⟨⟨rfl, rfl, rfl, Nat.le_refl _, fun _ _ _ => rfl⟩, fun j u hu => by simp at hu⟩

set_option maxRecDepth 100000 in
set_option maxHeartbeats 4000000 in
theorem sweepOf_any (zs : List Int) (hord : Ord zs) (W : World) (v : Value) (n : Nat) (hv : Sees W v n (vals zs)) :
    Calls Try.prog 101 #[v] W fun e w' => ∃ u, e = .returned u ∧ w'.ownsRow W.heap.size 3 1 u (sweepL zs).length (vals (sweepL zs)) ∧ Below W.heap.size W w' := by
  obtain ⟨i0, hi, hz0, hz1, hz2⟩ := info_parts infoI
  have hl : zs.length = n := by simpa using hv.1
  have hn1 : 1 ≤ n := by have := hord.1; omega
  have hn7 : n ≤ 7 := by have := hord.2.1; omega
  have HV := Go.Lib.hid hv
  have hsent : (swTo (zs ++ [(n : Int) + 1]) (n + 1)).1 = sweepL zs := by
    have h1 := sweep_sent (zs := zs) (y := (n : Int) + 1) (fun z hz => by have := (hord.2.2.1 z hz).2; omega)
    rw [hl] at h1
    exact h1
  obtain ⟨R, hR⟩ : ∃ R, sweepL zs = R := ⟨_, rfl⟩
  rw [hR] at hsent ⊢
  have HRL : Hid (R.length = n) := Go.Lib.hid (by rw [← hR, sweep_len, hl])
  have hrange : ∀ i, i < n + 1 → 0 ≤ (zs ++ [(n : Int) + 1]).getD i 0 ∧ (zs ++ [(n : Int) + 1]).getD i 0 ≤ 8 := by
    intro i hi
    by_cases h : i < n
    · obtain ⟨q, h1, h2⟩ := hord.getD (k := i) (by omega)
      rw [List.getD_eq_getElem?_getD, List.getElem?_append_left (by omega), ← List.getD_eq_getElem?_getD, h1]
      omega
    · have e : (zs ++ [(n : Int) + 1]).getD i 0 = (n : Int) + 1 := by rw [show i = zs.length by omega]; simp
      rw [e]
      omega
  have HRNG := Go.Lib.hid hrange
  have HRES := Go.Lib.hid hsent
  obtain ⟨ys, hys⟩ : ∃ ys, zs ++ [(n : Int) + 1] = ys := ⟨_, rfl⟩
  rw [hys] at HRES HRNG
  have hly : ys.length = n + 1 := by rw [← hys]; simp [hl]
  have HLY := Go.Lib.hid hly
  have HYS := Go.Lib.hid hys
  obtain ⟨b, o, cap, rfl, _, _, hbl, hcell⟩ := sees_cells hv (by omega)
  have HC := Go.Lib.hid hcell
  clear hv hsent hR hcell hly hys hrange
  go_enter Try.func101, Try.ntmps101
  go_wp2_with (at_make; refine wpList_make_own _ rfl _ _ 24 rfl W.heap.size 3 i0 (.int .i64 0) 1 Try.underlying24 hi hz0 hz1 .i64 .i64 _ n rfl rfl rfl (by rw [hz2]; omega) (by unfold maxLen; omega) (Nat.le_refl _) ?_; intro w1 hown1 hgrow1)
  have hb1 : Below W.heap.size W w1 := (Below.refl _ _).grown hgrow1 (Nat.le_refl _) (fun k hk => by cases hk)
  have hown2 := World.ownsRow_made (base := W.heap.size) (e := 3) (size := 1) w1 #[] 0 hb1.size (by unfold maxLen; omega) rfl
  have H1 := Go.Lib.hid (And.intro (hown1.alloc (.cells #[] 3)) (And.intro hown2 (And.intro (hb1.alloc hb1.size (.cells #[] 3)) (And.intro ((hown1.lt W.heap.size rfl).2) ((hown1.lt W.heap.size rfl).1)))))
  clear hown1 hgrow1 hown2 hb1
  go_wp2_with fail
  refine (Try.slices_Clone_int b o n cap zs _ (by omega) (by omega) (fun j hj => (H1.out.2.2.1.cell (p := ⟨b, o + j, none⟩) hbl).trans (HC.out j hj))).mono ?_
  rintro e w2 ⟨u, rfl, ho, hne, hb⟩
  rw [List.take_of_length_le (by omega)] at ho
  obtain ⟨gu, cu, rfl⟩ := own_form ho hne
  have hgu := ho.lt gu rfl
  have hs1 : w1.heap.size < gu := by have := hgu.1; simp at this; omega
  have hgu2 := hgu.2
  have hs0 : W.heap.size < w1.heap.size := H1.out.2.2.2.1
  have hbW : Below W.heap.size W w2 := H1.out.2.2.1.trans (hb.mono H1.out.2.2.1.size)
  have hkS := kept_call H1.out.1 hb
  have hkK := kept_call H1.out.2.1 hb
  have H2 := Go.Lib.hid (And.intro (own_lower ho (base' := W.heap.size) H1.out.2.2.1.size) (And.intro hkS (And.intro hkK hbW)))
  clear ho hne hb hgu hbW hkS hkK H1
  go_wp2_with (at_builtin; refine wpList_append_own_at _ rfl _ _ 24 rfl W.heap.size 3 i0 (.int .i64 0) 1 8 Try.underlying24 hi hz0 hz1 hz2 rfl (by decide) (.slice (some ⟨gu, 0, none⟩) n cu) n (vals zs) rfl (H2.out.1.alloc _) ⟨w2.heap.size, 0, none⟩ 1 1 [.int .i64 ((n : Int) + 1)] rfl rfl (cell_one_new _ _ _) (fun x hx => by simp at hx; subst hx; rfl) (by unfold maxLen; omega) (by omega) (by have := H2.out.2.2.2.size; simp; omega) ?_; intro v' w3 hown' hgrow3 hnil3 hrow3)
  obtain ⟨ga, ca, rfl⟩ := ownsRow_succ hown'
  have e1 : vals zs ++ [Value.int .i64 ((n : Int) + 1)] = vals ys := by rw [← HYS.out]; simp
  rw [e1] at hown'
  have hb3 : Below W.heap.size W w3 := (H2.out.2.2.2.alloc H2.out.2.2.2.size _).grown hgrow3 (by have := H2.out.2.2.2.size; simp; omega) (fun q hq => (H2.out.1.lt q hq).1)
  have hS3 := own_mark (H2.out.2.1.alloc _) hgrow3 (fun a ha e => by simp only [Value.ownBlock, Option.some.injEq] at ha e; omega)
  have hK3 := own_mark (H2.out.2.2.1.alloc _) hgrow3 (fun a ha e => by simp only [Value.ownBlock, Option.some.injEq] at ha e; omega)
  have hga : w1.heap.size < ga := by
    rcases hrow3 with h2 | h2
    · simp [Value.ownBlock] at h2; omega
    · simp [Value.ownBlock] at h2; omega
  obtain ⟨N, hN⟩ : ∃ N, n + 1 = N := ⟨_, rfl⟩
  rw [hN] at hown' ⊢
  have HNN := Go.Lib.hid hN
  have hN8 : N ≤ 8 := by omega
  have H3 := Go.Lib.hid (And.intro hown' (And.intro hS3 (And.intro hK3 hb3)))
  clear hown' hgrow3 hnil3 hrow3 hS3 hK3 hb3 H2 e1 hs1 hgu2 hN
  go_simp
  go_wp2_with fail
  go_loopw [3, 4, 21] (fun sv kv iv wr => ∃ (i ns gs cs m g c : Nat) (out st : List Int), iv = .int .i64 i ∧ sv = .slice (some ⟨gs, 0, none⟩) ns cs ∧ kv = .slice (some ⟨g, 0, none⟩) m c ∧ i ≤ N ∧ st.length = m ∧ out.length = ns ∧ ns + m = i ∧ gs ≠ g ∧ gs ≠ ga ∧ g ≠ ga ∧ wr.ownsRow W.heap.size 3 1 (.slice (some ⟨gs, 0, none⟩) ns cs) ns (vals out) ∧ wr.ownsRow W.heap.size 3 1 (.slice (some ⟨g, 0, none⟩) m c) m (vals st) ∧ wr.ownsRow W.heap.size 3 1 (.slice (some ⟨ga, 0, none⟩) N ca) N (vals ys) ∧ Below W.heap.size W wr ∧ Hid (swTo ys i = (out, st))) (fun _ _ i _ => N - (intOf i).toNat)
  case atStart => exact ⟨0, 0, W.heap.size, n, 0, w1.heap.size, 0, [], [], rfl, rfl, rfl, Nat.zero_le _, rfl, rfl, rfl, by omega, by omega, by omega, by simpa using H3.out.2.1, by simpa using H3.out.2.2.1, H3.out.1, H3.out.2.2.2, Go.Lib.hid rfl⟩
  case round =>
    obtain ⟨i, ns, gs, cs, m, g, c, out, st, rfl, rfl, rfl, hin, hst, hlo, hnm, hn12, hn13, hn23, hownS, hownK, hownA, hb, HR⟩ := hrel
    clear H3
    by_cases hlt : i < N
    · obtain ⟨x, hx⟩ : ∃ x, ys.getD i 0 = x := ⟨_, rfl⟩
      have hckx : wr.cell? ⟨ga, i, none⟩ = some (.int .i64 x) := by rw [hownA.cellAt i (by omega)]; rw [← hx]; have := HLY.out; have := HNN.out; simp [show i < ys.length by omega]
      have HX : Hid (swTo ys (i + 1) = (out ++ popd st x, belw st x ++ [x])) := Go.Lib.hid (by rw [← hx]; exact sw_next (by have := HLY.out; have := HNN.out; omega) HR.out)
      have hx8 := HRNG.out i (by have := HNN.out; omega)
      rw [hx] at hx8
      have hlti : (i : Int) < (N : Int) := by omega
      have hm8 : m ≤ 8 := by omega
      have hns8 : ns ≤ 8 := by omega
      have CC := Go.Lib.hid (cutStack_any st x m g c W.heap.size wr hst hm8 hownK)
      have HL := Go.Lib.hid (And.intro hst (And.intro hlo hnm))
      have H4 := Go.Lib.hid (And.intro hownS (And.intro hownK (And.intro hownA hb)))
      clear hx hownS hownK hownA hb hst hlo
      go_wp2_with fail
      refine CC.out.mono ?_
      rintro e w4 ⟨k, o', c', hkm, ho', htk, rfl, q, rfl⟩
      have h4S := own_drewN (q := q) H4.out.1
      have h4K := own_drewN (q := q) H4.out.2.1
      have h4A := own_drewN (q := q) H4.out.2.2.1
      have h4b := ExactC.below_drewN (q := q) H4.out.2.2.2
      obtain ⟨w4, hw4⟩ : ∃ w4, wr.drewN q = w4 := ⟨_, rfl⟩
      rw [hw4] at h4S h4K h4A h4b ⊢
      have hlk : (st.take k).length = k := by rw [List.length_take]; have := HL.out.1; omega
      have H5 := Go.Lib.hid (And.intro h4S (And.intro h4K (And.intro h4A h4b)))
      have HTK := Go.Lib.hid htk
      have hk8 : k ≤ 8 := by omega
      clear hw4 h4S h4K h4A h4b H4 htk hckx
      go_wp2_with (at_builtin; refine wpList_append_grows _ rfl _ _ 24 rfl 3 i0 (.int .i64 0) 1 8 Try.underlying24 hi hz0 hz1 hz2 rfl (by decide) (some ⟨g, 0, none⟩) k k (vals (st.take k)) rfl (fun h => by cases h) (by rw [vals_len, hlk, Nat.mul_one]) (fun b' e j u hu => by cases e; exact (H5.out.2.1.alloc _).cells (g := g) rfl j u (by simp only [vals, List.map_take, List.getElem?_take] at hu ⊢; split at hu <;> simp_all)) ⟨w4.heap.size, 0, none⟩ 1 1 [.int .i64 x] rfl rfl (cell_one_new _ _ _) (fun x hx => by simp at hx; subst hx; rfl) (by omega) (by unfold maxLen; omega) (by omega) ?_; intro v' w5 hown5 hgrow5)
      obtain ⟨g', cap', rfl⟩ := ownsRow_succ hown5
      have e5 : vals (st.take k) ++ [Value.int .i64 x] = vals (belw st x ++ [x]) := by rw [← HTK.out]; simp
      rw [e5] at hown5
      have hg' := (hown5.lt g' rfl).1
      simp only [World.size_alloc] at hg'
      have hS5 := own_mark (H5.out.1.alloc (.cells #[.int .i64 x] 3)) hgrow5 (fun a ha e => by cases e)
      have hK5 := own_mark (H5.out.2.1.alloc (.cells #[.int .i64 x] 3)) hgrow5 (fun a ha e => by cases e)
      have hA5 := own_mark (H5.out.2.2.1.alloc (.cells #[.int .i64 x] 3)) hgrow5 (fun a ha e => by cases e)
      have hb5 : Below W.heap.size W w5 := (H5.out.2.2.2.alloc H5.out.2.2.2.size _).grown hgrow5 (by have := H5.out.2.2.2.size; simp; omega) (fun k hk => by cases hk)
      have hlt1 := (H5.out.1.lt gs rfl).2
      have hlt2 := (H5.out.2.1.lt g rfl).2
      have hlt3 := (H5.out.2.2.1.lt ga rfl).2
      have hgB := (H5.out.2.1.lt g rfl).1
      have hK5n := own_lower hown5 (base' := W.heap.size) (by have := H5.out.2.2.2.size; simp; omega)
      have hn24 : g' ≠ gs ∧ g' ≠ g ∧ g' ≠ ga := by omega
      have H6 := Go.Lib.hid (And.intro hS5 (And.intro hK5 (And.intro hA5 (And.intro hK5n hb5))))
      clear hown5 hgrow5 hS5 hK5 hA5 hb5 H5 e5 hg' hlt1 hlt2 hlt3 hK5n
      go_wp2_with fail
      refine (Try.slices_Reverse_int_cells g o' (m - k) c' (st.drop k) w5 (by rw [List.length_drop]; have := HL.out.1; omega) (by omega) (fun j hj => by
        rw [List.length_drop, HL.out.1] at hj
        obtain rfl := ho' (by omega)
        have h1 := (own_cells H6.out.2.1).1 (o' + j) (by have := HL.out.1; omega)
        rw [Nat.zero_add] at h1
        rw [h1]
        congr 2
        simp) (fun j hj => by
        obtain rfl := ho' (by omega)
        have h1 := (own_cells H6.out.2.1).2 (o' + j) (by omega)
        rw [Nat.zero_add] at h1
        exact h1)).mono ?_
      rintro e w6 ⟨rfl, q2, rfl⟩
      have hrev := rev_set st x k m g c o' W.heap.size (w5.drewN q2) HL.out.1 hkm ho' HTK.out (own_drewN H6.out.2.1)
      have hS6 := own_mark (own_drewN (q := q2) H6.out.1) hrev.1 (fun a ha e => by simp only [Value.ownBlock, Option.some.injEq] at ha e; omega)
      have hA6 := own_mark (own_drewN (q := q2) H6.out.2.2.1) hrev.1 (fun a ha e => by simp only [Value.ownBlock, Option.some.injEq] at ha e; omega)
      have hK6 := own_mark (own_drewN (q := q2) H6.out.2.2.2.1) hrev.1 (fun a ha e => by simp only [Value.ownBlock, Option.some.injEq] at ha e; omega)
      have hb6 := (ExactC.below_drewN (q := q2) H6.out.2.2.2.2).grown hrev.1 H6.out.2.2.2.2.size (fun k hk => by cases hk; exact hgB)
      obtain ⟨w6, hw6⟩ : ∃ w6, (w5.drewN q2).setCells g o' (((st.drop k).take (m - k)).reverse.map (Value.int .i64)) = w6 := ⟨_, rfl⟩
      rw [hw6] at hS6 hA6 hK6 hb6 hrev ⊢
      have hlp : (popd st x).length = m - k := by rw [← drop_popd HTK.out]; simp [HL.out.1]
      have HLP := Go.Lib.hid hlp
      have H7 := Go.Lib.hid (And.intro hS6 (And.intro hA6 (And.intro hK6 (And.intro hb6 hrev.2))))
      clear hS6 hA6 hK6 hb6 hrev hw6 hlp H6
      go_wp2_with (at_builtin; refine wpList_append_own_at _ rfl _ _ 24 rfl W.heap.size 3 i0 (.int .i64 0) 1 8 Try.underlying24 hi hz0 hz1 hz2 rfl (by decide) (.slice (some ⟨gs, 0, none⟩) ns cs) ns (vals out) rfl H7.out.1 ⟨g, o', none⟩ (m - k) c' (vals (popd st x)) rfl (by rw [vals_len, HLP.out, Nat.mul_one]) H7.out.2.2.2.2 (fun u hu => by simp only [vals, List.mem_map] at hu; obtain ⟨z, _, rfl⟩ := hu; rfl) (by unfold maxLen; omega) (by omega) H7.out.2.2.2.1.size ?_; intro v'' w7 hown7 hgrow7 hnil7 hrow7)
      obtain ⟨gs', cs', rfl⟩ := own_form hown7 (fun e => by cases (hnil7.1 e).1)
      have e7 : vals out ++ vals (popd st x) = vals (out ++ popd st x) := by simp
      rw [e7] at hown7
      have hb7 : Below W.heap.size W w7 := H7.out.2.2.2.1.grown hgrow7 H7.out.2.2.2.1.size (fun q hq => (H7.out.1.lt q hq).1)
      have hA7 := own_mark H7.out.2.1 hgrow7 (fun a ha e => by simp only [Value.ownBlock, Option.some.injEq] at ha e; omega)
      have hK7 := own_mark H7.out.2.2.1 hgrow7 (fun a ha e => by simp only [Value.ownBlock, Option.some.injEq] at ha e; omega)
      have hgl := (H7.out.2.2.1.lt g' rfl).2
      have hal := (H7.out.2.1.lt ga rfl).2
      have hns' : gs' ≠ g' ∧ gs' ≠ ga := by
        rcases hrow7 with h2 | h2
        · simp only [Value.ownBlock, Option.some.injEq] at h2; omega
        · simp only [Value.ownBlock, Option.some.injEq] at h2; omega
      have H8 := Go.Lib.hid (And.intro hown7 (And.intro hK7 (And.intro hA7 hb7)))
      have HLB : Hid ((belw st x ++ [x]).length = k + 1 ∧ (out ++ popd st x).length = ns + (m - k)) := Go.Lib.hid ⟨by rw [List.length_append, ← HTK.out, List.length_take]; have := HL.out.1; simp; omega, by rw [List.length_append, HLP.out, HL.out.2.1]⟩
      clear hown7 hgrow7 hnil7 hrow7 hb7 hA7 hK7 hgl hal H7 e7
      go_wp2
      go_roundw
      case rel => exact ⟨i + 1, ns + (m - k), gs', cs', k + 1, g', cap', out ++ popd st x, belw st x ++ [x], by go_num, rfl, rfl, by omega, HLB.out.1, HLB.out.2, by have := HL.out; omega, hns'.1, hns'.2, hn24.2.2, H8.out.1, H8.out.2.1, H8.out.2.2.1, H8.out.2.2.2, HX⟩
      case measure => simp [intOf]; omega
    · have hkn : i = N := by omega
      have HE : Hid (out = R) := Go.Lib.hid (by have h1 := HRES.out; rw [HNN.out, ← hkn, HR.out] at h1; exact h1)
      have H3 := Go.Lib.hid (And.intro hownS hb)
      have HLO := Go.Lib.hid hlo
      clear hownS hownK hownA hb hlo
      go_wp2
      go_ret
      obtain rfl : ns = R.length := by rw [← HE.out]; exact HLO.out.symm
      exact ⟨_, rfl, by have h1 := H3.out.1; rw [HE.out] at h1; exact h1, H3.out.2⟩

end Go.Proofs.Ytnhhnffolmgceaa.SweepIC
