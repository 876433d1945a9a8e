/-
  At every list SweptFrom answers as the model. Conditions: none.
-/
import Derived.Test.YtddenfnoajdjiaaPkSwfLawB
import Derived.Maps.AppendAt
import Derived.ArgAppend
import Derived.WalkSmall
import Derived.Shelf.SlMaps.DeleteFunc
import Derived.Shelf.Lay
import Derived.Ground.SlmdProg
import Derived.RangeFuncBox
import Derived.Deep.RegionLaw
import Derived.IntWalk
import Derived.Shelf.SlSortCmp.Whole1
import Derived.Ground.SlsfProg
import Derived.Test.YtddenfnoajdjiaaProg
import Derived.WalkKit
import Derived.Test.YtddenfnoajdjiaaRows
import Derived.ProofKit
import Derived.OpenShut
import Derived.ShutString
import Derived.ChangeOld
import Derived.Below

/-
  Contract: the program's sweep. Conditions: an order.
-/
namespace Go.Proofs.Ytddenfnoajdjiaa.SweepIC
open Go.RowKit SeesC WordsC IntsC ExactC NumC IterC OrdMath WordMath OrdFacts InC OrderC AtC EndsM SweepM StackM CutStC

theorem sweep_sent {zs : List Int} {y : Int} (h : ∀ z ∈ zs, z < y) : (swTo (zs ++ [y]) (zs.length + 1)).1 = sweepL zs := by
  unfold swTo
  rw [List.take_of_length_le (by simp), List.foldl_append]
  obtain ⟨o, s, hr⟩ : ∃ o s, zs.foldl swF ([], []) = (o, s) := ⟨_, _, rfl⟩
  rw [hr]
  have hs : ∀ z ∈ s, z < y := by
    intro z hz
    have hp := sw_perm zs [] []
    rw [hr] at hp
    have h9 : z ∈ o ++ s := List.mem_append.2 (.inr hz)
    have := hp.mem_iff.1 h9
    exact h z (by simpa using this)
  show o ++ popd s y = _
  rw [popd_all hs]
  unfold sweepL
  rw [hr]

theorem drop_popd {st : List Int} {x : Int} {k : Nat} (h : st.take k = belw st x) : (st.drop k).reverse = popd st x := by
  have h1 := parts st x
  rw [← h] at h1
  have h2 : st.take k ++ (popd st x).reverse = st.take k ++ st.drop k := by rw [h1, List.take_append_drop]
  have h3 := List.append_cancel_left h2
  rw [← h3, List.reverse_reverse]

theorem setL_drop (st : List Int) (k : Nat) (hk : k ≤ st.length) : setL (vals st) k (vals (st.drop k).reverse) = vals (st.take k ++ (st.drop k).reverse) := by
  rw [setL_is _ _ _ (by simp; omega)]
  have e : (vals st).drop (k + (vals (st.drop k).reverse).length) = [] := List.drop_of_length_le (by simp; omega)
  rw [e, List.append_nil]
  unfold vals
  rw [← List.map_take, List.map_append]

theorem rev_set (st : List Int) (x : Int) (k m g c o' B : Nat) (w : World) (hst : st.length = m) (hkm : k ≤ m) (ho : k < m → o' = k) (htk : st.take k = belw st x) (hown : w.ownsRow B 3 1 (.slice (some ⟨g, 0, none⟩) m c) m (vals st)) :
    w.grownBy (w.setCells g o' (((st.drop k).take (m - k)).reverse.map (Value.int .i64))) (some g) ∧ (∀ j u, (vals (popd st x))[j]? = some u → (w.setCells g o' (((st.drop k).take (m - k)).reverse.map (Value.int .i64))).cell? ((⟨g, o', none⟩ : Addr).add j) = some u) := by
  have e0 : (st.drop k).take (m - k) = st.drop k := List.take_of_length_le (by simp; omega)
  have e1 := drop_popd htk
  rw [e0]
  by_cases h : k < m
  · obtain rfl := ho h
    have h1 := own_setCells (vals (st.drop o').reverse) w o' _ hown
    rw [setL_drop st o' (by omega)] at h1
    refine ⟨h1.2, fun j u hu => ?_⟩
    have h2 := h1.1.cells (g := g) rfl (o' + j) u (by
      have e9 : (st.take o').length = o' := by rw [List.length_take]; omega
      rw [show vals (st.take o' ++ (st.drop o').reverse) = vals (st.take o') ++ vals (st.drop o').reverse by simp, List.getElem?_append_right (by rw [vals_len, e9]; omega), vals_len, e9, Nat.add_sub_cancel_left, e1]
      exact hu)
    have e10 : ((⟨g, 0, none⟩ : Addr).add (o' + j)) = ((⟨g, o', none⟩ : Addr).add j) := by
      unfold Addr.add
      by_cases h0 : o' + j = 0
      · obtain ⟨rfl, rfl⟩ : o' = 0 ∧ j = 0 := by omega
        rfl
      · rw [if_neg h0]
        by_cases hj : j = 0
        · subst hj; rw [if_pos rfl]; simp
        · rw [if_neg hj]; simp
    rw [e10] at h2
    exact h2
  · have hk : k = m := by omega
    have e2 : st.drop k = [] := List.drop_of_length_le (by omega)
    rw [e2] at e1
    rw [e2, ← e1]
    exact ⟨⟨rfl, rfl, rfl, Nat.le_refl _, fun _ _ _ => rfl⟩, fun j u hu => by simp at hu⟩

set_option maxRecDepth 100000 in
set_option maxHeartbeats 4000000 in
theorem sweepOf_any (zs : List Int) (hord : Ord zs) (W : World) (v : Value) (n : Nat) (hv : Sees W v n (vals zs)) :
    Calls Try.prog 78 #[v] W fun e w' => ∃ u, e = .returned u ∧ w'.ownsRow W.heap.size 3 1 u (sweepL zs).length (vals (sweepL zs)) ∧ Below W.heap.size W w' := by
  obtain ⟨i0, hi, hz0, hz1, hz2⟩ := info_parts infoI
  have hl : zs.length = n := by simpa using hv.1
  have hn1 : 1 ≤ n := by have := hord.1; omega
  have hn7 : n ≤ 7 := by have := hord.2.1; omega
  have HV := Go.Lib.hid hv
  have hsent : (swTo (zs ++ [(n : Int) + 1]) (n + 1)).1 = sweepL zs := by
    have h1 := sweep_sent (zs := zs) (y := (n : Int) + 1) (fun z hz => by have := (hord.2.2.1 z hz).2; omega)
    rw [hl] at h1
    exact h1
  obtain ⟨R, hR⟩ : ∃ R, sweepL zs = R := ⟨_, rfl⟩
  rw [hR] at hsent ⊢
  have HRL : Hid (R.length = n) := Go.Lib.hid (by rw [← hR, sweep_len, hl])
  have hrange : ∀ i, i < n + 1 → 0 ≤ (zs ++ [(n : Int) + 1]).getD i 0 ∧ (zs ++ [(n : Int) + 1]).getD i 0 ≤ 8 := by
    intro i hi
    by_cases h : i < n
    · obtain ⟨q, h1, h2⟩ := hord.getD (k := i) (by omega)
      rw [List.getD_eq_getElem?_getD, List.getElem?_append_left (by omega), ← List.getD_eq_getElem?_getD, h1]
      omega
    · have e : (zs ++ [(n : Int) + 1]).getD i 0 = (n : Int) + 1 := by rw [show i = zs.length by omega]; simp
      rw [e]
      omega
  have HRNG := Go.Lib.hid hrange
  have HRES := Go.Lib.hid hsent
  obtain ⟨ys, hys⟩ : ∃ ys, zs ++ [(n : Int) + 1] = ys := ⟨_, rfl⟩
  rw [hys] at HRES HRNG
  have hly : ys.length = n + 1 := by rw [← hys]; simp [hl]
  have HLY := Go.Lib.hid hly
  have HYS := Go.Lib.hid hys
  obtain ⟨b, o, cap, rfl, _, _, hbl, hcell⟩ := sees_cells hv (by omega)
  have HC := Go.Lib.hid hcell
  clear hv hsent hR hcell hly hys hrange
  go_enter Try.func78, Try.ntmps78
  go_wp2_with (at_make; refine wpList_make_own _ rfl _ _ 24 rfl W.heap.size 3 i0 (.int .i64 0) 1 Try.underlying24 hi hz0 hz1 .i64 .i64 _ n rfl rfl rfl (by rw [hz2]; omega) (by unfold maxLen; omega) (Nat.le_refl _) ?_; intro w1 hown1 hgrow1)
  have hb1 : Below W.heap.size W w1 := (Below.refl _ _).grown hgrow1 (Nat.le_refl _) (fun k hk => by cases hk)
  have hown2 := World.ownsRow_made (base := W.heap.size) (e := 3) (size := 1) w1 #[] 0 hb1.size (by unfold maxLen; omega) rfl
  have H1 := Go.Lib.hid (And.intro (hown1.alloc (.cells #[] 3)) (And.intro hown2 (And.intro (hb1.alloc hb1.size (.cells #[] 3)) (And.intro ((hown1.lt W.heap.size rfl).2) ((hown1.lt W.heap.size rfl).1)))))
  clear hown1 hgrow1 hown2 hb1
  go_wp2_with fail
  refine (Try.slices_Clone_int b o n cap zs _ (by omega) (by omega) (fun j hj => (H1.out.2.2.1.cell (p := ⟨b, o + j, none⟩) hbl).trans (HC.out j hj))).mono ?_
  rintro e w2 ⟨u, rfl, ho, hne, hb⟩
  rw [List.take_of_length_le (by omega)] at ho
  obtain ⟨gu, cu, rfl⟩ := own_form ho hne
  have hgu := ho.lt gu rfl
  have hs1 : w1.heap.size < gu := by have := hgu.1; simp at this; omega
  have hgu2 := hgu.2
  have hs0 : W.heap.size < w1.heap.size := H1.out.2.2.2.1
  have hbW : Below W.heap.size W w2 := H1.out.2.2.1.trans (hb.mono H1.out.2.2.1.size)
  have hkS := kept_call H1.out.1 hb
  have hkK := kept_call H1.out.2.1 hb
  have H2 := Go.Lib.hid (And.intro (own_lower ho (base' := W.heap.size) H1.out.2.2.1.size) (And.intro hkS (And.intro hkK hbW)))
  clear ho hne hb hgu hbW hkS hkK H1
  go_wp2_with (at_builtin; refine wpList_append_own_at _ rfl _ _ 24 rfl W.heap.size 3 i0 (.int .i64 0) 1 8 Try.underlying24 hi hz0 hz1 hz2 rfl (by decide) (.slice (some ⟨gu, 0, none⟩) n cu) n (vals zs) rfl (H2.out.1.alloc _) ⟨w2.heap.size, 0, none⟩ 1 1 [.int .i64 ((n : Int) + 1)] rfl rfl (cell_one_new _ _ _) (fun x hx => by simp at hx; subst hx; rfl) (by unfold maxLen; omega) (by omega) (by have := H2.out.2.2.2.size; simp; omega) ?_; intro v' w3 hown' hgrow3 hnil3 hrow3)
  obtain ⟨ga, ca, rfl⟩ := ownsRow_succ hown'
  have e1 : vals zs ++ [Value.int .i64 ((n : Int) + 1)] = vals ys := by rw [← HYS.out]; simp
  rw [e1] at hown'
  have hb3 : Below W.heap.size W w3 := (H2.out.2.2.2.alloc H2.out.2.2.2.size _).grown hgrow3 (by have := H2.out.2.2.2.size; simp; omega) (fun q hq => (H2.out.1.lt q hq).1)
  have hS3 := own_mark (H2.out.2.1.alloc _) hgrow3 (fun a ha e => by simp only [Value.ownBlock, Option.some.injEq] at ha e; omega)
  have hK3 := own_mark (H2.out.2.2.1.alloc _) hgrow3 (fun a ha e => by simp only [Value.ownBlock, Option.some.injEq] at ha e; omega)
  have hga : w1.heap.size < ga := by
    rcases hrow3 with h2 | h2
    · simp [Value.ownBlock] at h2; omega
    · simp [Value.ownBlock] at h2; omega
  obtain ⟨N, hN⟩ : ∃ N, n + 1 = N := ⟨_, rfl⟩
  rw [hN] at hown' ⊢
  have HNN := Go.Lib.hid hN
  have hN8 : N ≤ 8 := by omega
  have H3 := Go.Lib.hid (And.intro hown' (And.intro hS3 (And.intro hK3 hb3)))
  clear hown' hgrow3 hnil3 hrow3 hS3 hK3 hb3 H2 e1 hs1 hgu2 hN
  go_simp
  go_wp2_with fail
  go_loopw [3, 4, 21] (fun sv kv iv wr => ∃ (i ns gs cs m g c : Nat) (out st : List Int), iv = .int .i64 i ∧ sv = .slice (some ⟨gs, 0, none⟩) ns cs ∧ kv = .slice (some ⟨g, 0, none⟩) m c ∧ i ≤ N ∧ st.length = m ∧ out.length = ns ∧ ns + m = i ∧ gs ≠ g ∧ gs ≠ ga ∧ g ≠ ga ∧ wr.ownsRow W.heap.size 3 1 (.slice (some ⟨gs, 0, none⟩) ns cs) ns (vals out) ∧ wr.ownsRow W.heap.size 3 1 (.slice (some ⟨g, 0, none⟩) m c) m (vals st) ∧ wr.ownsRow W.heap.size 3 1 (.slice (some ⟨ga, 0, none⟩) N ca) N (vals ys) ∧ Below W.heap.size W wr ∧ Hid (swTo ys i = (out, st))) (fun _ _ i _ => N - (intOf i).toNat)
  case atStart => exact ⟨0, 0, W.heap.size, n, 0, w1.heap.size, 0, [], [], rfl, rfl, rfl, Nat.zero_le _, rfl, rfl, rfl, by omega, by omega, by omega, by simpa using H3.out.2.1, by simpa using H3.out.2.2.1, H3.out.1, H3.out.2.2.2, Go.Lib.hid rfl⟩
  case round =>
    obtain ⟨i, ns, gs, cs, m, g, c, out, st, rfl, rfl, rfl, hin, hst, hlo, hnm, hn12, hn13, hn23, hownS, hownK, hownA, hb, HR⟩ := hrel
    clear H3
    by_cases hlt : i < N
    · obtain ⟨x, hx⟩ : ∃ x, ys.getD i 0 = x := ⟨_, rfl⟩
      have hckx : wr.cell? ⟨ga, i, none⟩ = some (.int .i64 x) := by rw [hownA.cellAt i (by omega)]; rw [← hx]; have := HLY.out; have := HNN.out; simp [show i < ys.length by omega]
      have HX : Hid (swTo ys (i + 1) = (out ++ popd st x, belw st x ++ [x])) := Go.Lib.hid (by rw [← hx]; exact sw_next (by have := HLY.out; have := HNN.out; omega) HR.out)
      have hx8 := HRNG.out i (by have := HNN.out; omega)
      rw [hx] at hx8
      have hlti : (i : Int) < (N : Int) := by omega
      have hm8 : m ≤ 8 := by omega
      have hns8 : ns ≤ 8 := by omega
      have CC := Go.Lib.hid (cutStack_any st x m g c W.heap.size wr hst hm8 hownK)
      have HL := Go.Lib.hid (And.intro hst (And.intro hlo hnm))
      have H4 := Go.Lib.hid (And.intro hownS (And.intro hownK (And.intro hownA hb)))
      clear hx hownS hownK hownA hb hst hlo
      go_wp2_with fail
      refine CC.out.mono ?_
      rintro e w4 ⟨k, o', c', hkm, ho', htk, rfl, q, rfl⟩
      have h4S := own_drewN (q := q) H4.out.1
      have h4K := own_drewN (q := q) H4.out.2.1
      have h4A := own_drewN (q := q) H4.out.2.2.1
      have h4b := ExactC.below_drewN (q := q) H4.out.2.2.2
      obtain ⟨w4, hw4⟩ : ∃ w4, wr.drewN q = w4 := ⟨_, rfl⟩
      rw [hw4] at h4S h4K h4A h4b ⊢
      have hlk : (st.take k).length = k := by rw [List.length_take]; have := HL.out.1; omega
      have H5 := Go.Lib.hid (And.intro h4S (And.intro h4K (And.intro h4A h4b)))
      have HTK := Go.Lib.hid htk
      have hk8 : k ≤ 8 := by omega
      clear hw4 h4S h4K h4A h4b H4 htk hckx
      go_wp2_with (at_builtin; refine wpList_append_grows _ rfl _ _ 24 rfl 3 i0 (.int .i64 0) 1 8 Try.underlying24 hi hz0 hz1 hz2 rfl (by decide) (some ⟨g, 0, none⟩) k k (vals (st.take k)) rfl (fun h => by cases h) (by rw [vals_len, hlk, Nat.mul_one]) (fun b' e j u hu => by cases e; exact (H5.out.2.1.alloc _).cells (g := g) rfl j u (by simp only [vals, List.map_take, List.getElem?_take] at hu ⊢; split at hu <;> simp_all)) ⟨w4.heap.size, 0, none⟩ 1 1 [.int .i64 x] rfl rfl (cell_one_new _ _ _) (fun x hx => by simp at hx; subst hx; rfl) (by omega) (by unfold maxLen; omega) (by omega) ?_; intro v' w5 hown5 hgrow5)
      obtain ⟨g', cap', rfl⟩ := ownsRow_succ hown5
      have e5 : vals (st.take k) ++ [Value.int .i64 x] = vals (belw st x ++ [x]) := by rw [← HTK.out]; simp
      rw [e5] at hown5
      have hg' := (hown5.lt g' rfl).1
      simp only [World.size_alloc] at hg'
      have hS5 := own_mark (H5.out.1.alloc (.cells #[.int .i64 x] 3)) hgrow5 (fun a ha e => by cases e)
      have hK5 := own_mark (H5.out.2.1.alloc (.cells #[.int .i64 x] 3)) hgrow5 (fun a ha e => by cases e)
      have hA5 := own_mark (H5.out.2.2.1.alloc (.cells #[.int .i64 x] 3)) hgrow5 (fun a ha e => by cases e)
      have hb5 : Below W.heap.size W w5 := (H5.out.2.2.2.alloc H5.out.2.2.2.size _).grown hgrow5 (by have := H5.out.2.2.2.size; simp; omega) (fun k hk => by cases hk)
      have hlt1 := (H5.out.1.lt gs rfl).2
      have hlt2 := (H5.out.2.1.lt g rfl).2
      have hlt3 := (H5.out.2.2.1.lt ga rfl).2
      have hgB := (H5.out.2.1.lt g rfl).1
      have hK5n := own_lower hown5 (base' := W.heap.size) (by have := H5.out.2.2.2.size; simp; omega)
      have hn24 : g' ≠ gs ∧ g' ≠ g ∧ g' ≠ ga := by omega
      have H6 := Go.Lib.hid (And.intro hS5 (And.intro hK5 (And.intro hA5 (And.intro hK5n hb5))))
      clear hown5 hgrow5 hS5 hK5 hA5 hb5 H5 e5 hg' hlt1 hlt2 hlt3 hK5n
      go_wp2_with fail
      refine (Try.slices_Reverse_int_cells g o' (m - k) c' (st.drop k) w5 (by rw [List.length_drop]; have := HL.out.1; omega) (by omega) (fun j hj => by
        rw [List.length_drop, HL.out.1] at hj
        obtain rfl := ho' (by omega)
        have h1 := (own_cells H6.out.2.1).1 (o' + j) (by have := HL.out.1; omega)
        rw [Nat.zero_add] at h1
        rw [h1]
        congr 2
        simp) (fun j hj => by
        obtain rfl := ho' (by omega)
        have h1 := (own_cells H6.out.2.1).2 (o' + j) (by omega)
        rw [Nat.zero_add] at h1
        exact h1)).mono ?_
      rintro e w6 ⟨rfl, q2, rfl⟩
      have hrev := rev_set st x k m g c o' W.heap.size (w5.drewN q2) HL.out.1 hkm ho' HTK.out (own_drewN H6.out.2.1)
      have hS6 := own_mark (own_drewN (q := q2) H6.out.1) hrev.1 (fun a ha e => by simp only [Value.ownBlock, Option.some.injEq] at ha e; omega)
      have hA6 := own_mark (own_drewN (q := q2) H6.out.2.2.1) hrev.1 (fun a ha e => by simp only [Value.ownBlock, Option.some.injEq] at ha e; omega)
      have hK6 := own_mark (own_drewN (q := q2) H6.out.2.2.2.1) hrev.1 (fun a ha e => by simp only [Value.ownBlock, Option.some.injEq] at ha e; omega)
      have hb6 := (ExactC.below_drewN (q := q2) H6.out.2.2.2.2).grown hrev.1 H6.out.2.2.2.2.size (fun k hk => by cases hk; exact hgB)
      obtain ⟨w6, hw6⟩ : ∃ w6, (w5.drewN q2).setCells g o' (((st.drop k).take (m - k)).reverse.map (Value.int .i64)) = w6 := ⟨_, rfl⟩
      rw [hw6] at hS6 hA6 hK6 hb6 hrev ⊢
      have hlp : (popd st x).length = m - k := by rw [← drop_popd HTK.out]; simp [HL.out.1]
      have HLP := Go.Lib.hid hlp
      have H7 := Go.Lib.hid (And.intro hS6 (And.intro hA6 (And.intro hK6 (And.intro hb6 hrev.2))))
      clear hS6 hA6 hK6 hb6 hrev hw6 hlp H6
      go_wp2_with (at_builtin; refine wpList_append_own_at _ rfl _ _ 24 rfl W.heap.size 3 i0 (.int .i64 0) 1 8 Try.underlying24 hi hz0 hz1 hz2 rfl (by decide) (.slice (some ⟨gs, 0, none⟩) ns cs) ns (vals out) rfl H7.out.1 ⟨g, o', none⟩ (m - k) c' (vals (popd st x)) rfl (by rw [vals_len, HLP.out, Nat.mul_one]) H7.out.2.2.2.2 (fun u hu => by simp only [vals, List.mem_map] at hu; obtain ⟨z, _, rfl⟩ := hu; rfl) (by unfold maxLen; omega) (by omega) H7.out.2.2.2.1.size ?_; intro v'' w7 hown7 hgrow7 hnil7 hrow7)
      obtain ⟨gs', cs', rfl⟩ := own_form hown7 (fun e => by cases (hnil7.1 e).1)
      have e7 : vals out ++ vals (popd st x) = vals (out ++ popd st x) := by simp
      rw [e7] at hown7
      have hb7 : Below W.heap.size W w7 := H7.out.2.2.2.1.grown hgrow7 H7.out.2.2.2.1.size (fun q hq => (H7.out.1.lt q hq).1)
      have hA7 := own_mark H7.out.2.1 hgrow7 (fun a ha e => by simp only [Value.ownBlock, Option.some.injEq] at ha e; omega)
      have hK7 := own_mark H7.out.2.2.1 hgrow7 (fun a ha e => by simp only [Value.ownBlock, Option.some.injEq] at ha e; omega)
      have hgl := (H7.out.2.2.1.lt g' rfl).2
      have hal := (H7.out.2.1.lt ga rfl).2
      have hns' : gs' ≠ g' ∧ gs' ≠ ga := by
        rcases hrow7 with h2 | h2
        · simp only [Value.ownBlock, Option.some.injEq] at h2; omega
        · simp only [Value.ownBlock, Option.some.injEq] at h2; omega
      have H8 := Go.Lib.hid (And.intro hown7 (And.intro hK7 (And.intro hA7 hb7)))
      have HLB : Hid ((belw st x ++ [x]).length = k + 1 ∧ (out ++ popd st x).length = ns + (m - k)) := Go.Lib.hid ⟨by rw [List.length_append, ← HTK.out, List.length_take]; have := HL.out.1; simp; omega, by rw [List.length_append, HLP.out, HL.out.2.1]⟩
      clear hown7 hgrow7 hnil7 hrow7 hb7 hA7 hK7 hgl hal H7 e7
      go_wp2
      go_roundw
      case rel => exact ⟨i + 1, ns + (m - k), gs', cs', k + 1, g', cap', out ++ popd st x, belw st x ++ [x], by go_num, rfl, rfl, by omega, HLB.out.1, HLB.out.2, by have := HL.out; omega, hns'.1, hns'.2, hn24.2.2, H8.out.1, H8.out.2.1, H8.out.2.2.1, H8.out.2.2.2, HX⟩
      case measure => simp [intOf]; omega
    · have hkn : i = N := by omega
      have HE : Hid (out = R) := Go.Lib.hid (by have h1 := HRES.out; rw [HNN.out, ← hkn, HR.out] at h1; exact h1)
      have H3 := Go.Lib.hid (And.intro hownS hb)
      have HLO := Go.Lib.hid hlo
      clear hownS hownK hownA hb hlo
      go_wp2
      go_ret
      obtain rfl : ns = R.length := by rw [← HE.out]; exact HLO.out.symm
      exact ⟨_, rfl, by have h1 := H3.out.1; rw [HE.out] at h1; exact h1, H3.out.2⟩

end Go.Proofs.Ytddenfnoajdjiaa.SweepIC

/-
  Contracts: SweepOrder and SweepWord of the model and of the program. Conditions: lists of at most 2^20 numbers.
-/
namespace Go.Proofs.Ytddenfnoajdjiaa.Sweep4C
open Go.RowKit SeesC IntsC ExactC NumC IterC OrdMath WordMath InC OrderC WordC RunC ToC ToImplC WordToC AtC EndsM SweepM StackM SweepWC SweepIC WordFacts

set_option maxHeartbeats 1000000 in
theorem specSweep (zs : List Int) (xs : List Int) (b : Bool) (h : sweepAns zs = (xs, b)) (hz : zs.length ≤ 1048576) (W : World) (v : Value) (n : Nat) (hv : Sees W v n (vals zs)) :
    Calls Try.prog 25 #[v] W fun e w' => ListTo W e w' xs b := by
  have hl : zs.length = n := by simpa using hv.1
  have hn : n ≤ 1048576 := by omega
  obtain ⟨r, hr⟩ : ∃ r, isOrd zs = r := ⟨_, rfl⟩
  have CO := Go.Lib.hid (fun W' (hs' : Sees W' v n (vals zs)) => l2Order_any W' v n zs r hs' hn hr)
  have HV := Go.Lib.hid hv
  unfold sweepAns at h
  obtain ⟨_, ad, cap, rfl, _, _⟩ := hv
  cases r with
  | false =>
    rw [if_neg (by intro h1; unfold isOrd at hr; exact of_decide_eq_false hr h1)] at h
    cases h
    clear hr
    go_enter Try.func25, Try.ntmps25
    go_wp2_with fail
    refine (CO.out _ HV.out).mono ?_
    rintro e w1 ⟨rfl, hd⟩
    have HB1 : Hid (Below W.heap.size W w1) := Go.Lib.hid (hd.below W.heap.size)
    clear hd
    go_wp2_with fail
    go_ret2
    exact listTo_below HB1.out (listTo_none _ _)
  | true =>
    have hord : Ord zs := by unfold isOrd at hr; exact of_decide_eq_true hr
    have hn7 : n ≤ 7 := by have := hord.2.1; omega
    have hn1 : 1 ≤ n := by have := hord.1; omega
    rw [if_pos hord] at h
    cases h
    clear hr
    have C1 := Go.Lib.hid (fun W' (hs' : Sees W' (.slice ad n cap) n (vals zs)) => l4Sweep_any zs hord W' _ n hs')
    go_enter Try.func25, Try.ntmps25
    go_wp2_with fail
    refine (CO.out _ HV.out).mono ?_
    rintro e w1 ⟨rfl, hd⟩
    have HB1 : Hid (Below W.heap.size W w1) := Go.Lib.hid (hd.below W.heap.size)
    clear hd
    have HV1 := Go.Lib.hid (HV.out.grow HB1.out)
    go_wp2_with fail
    refine (C1.out _ HV1.out).mono ?_
    rintro e w2 ⟨u, rfl, ho, hb⟩
    have H2 := Go.Lib.hid (And.intro (own_lower ho HB1.out.size) (HB1.out.trans (hb.mono HB1.out.size)))
    clear ho hb
    go_wp2_with fail
    go_ret2
    exact ⟨_, rfl, H2.out.1, H2.out.2⟩

set_option maxHeartbeats 1000000 in
theorem implSweep (zs : List Int) (xs : List Int) (b : Bool) (h : sweepAns zs = (xs, b)) (hz : zs.length ≤ 1048576) (W : World) (v : Value) (n : Nat) (hv : Sees W v n (vals zs)) :
    Calls Try.prog 24 #[v] W fun e w' => ListTo W e w' xs b := by
  have hl : zs.length = n := by simpa using hv.1
  have hn : n ≤ 1048576 := by omega
  obtain ⟨r, hr⟩ : ∃ r, isOrd zs = r := ⟨_, rfl⟩
  have CO := Go.Lib.hid (fun W' (hs' : Sees W' v n (vals zs)) => implOrder_any W' v n zs r hs' hn hr)
  have HV := Go.Lib.hid hv
  unfold sweepAns at h
  obtain ⟨_, ad, cap, rfl, _, _⟩ := hv
  cases r with
  | false =>
    rw [if_neg (by intro h1; unfold isOrd at hr; exact of_decide_eq_false hr h1)] at h
    cases h
    clear hr
    go_enter Try.func24, Try.ntmps24
    go_wp2_with fail
    refine (CO.out _ HV.out).mono ?_
    rintro e w1 ⟨rfl, hd⟩
    have HB1 : Hid (Below W.heap.size W w1) := Go.Lib.hid hd
    clear hd
    go_wp2_with fail
    go_ret2
    exact listTo_below HB1.out (listTo_none _ _)
  | true =>
    have hord : Ord zs := by unfold isOrd at hr; exact of_decide_eq_true hr
    have hn7 : n ≤ 7 := by have := hord.2.1; omega
    have hn1 : 1 ≤ n := by have := hord.1; omega
    rw [if_pos hord] at h
    cases h
    clear hr
    have C1 := Go.Lib.hid (fun W' (hs' : Sees W' (.slice ad n cap) n (vals zs)) => sweepOf_any zs hord W' _ n hs')
    go_enter Try.func24, Try.ntmps24
    go_wp2_with fail
    refine (CO.out _ HV.out).mono ?_
    rintro e w1 ⟨rfl, hd⟩
    have HB1 : Hid (Below W.heap.size W w1) := Go.Lib.hid hd
    clear hd
    have HV1 := Go.Lib.hid (HV.out.grow HB1.out)
    go_wp2_with fail
    refine (C1.out _ HV1.out).mono ?_
    rintro e w2 ⟨u, rfl, ho, hb⟩
    have H2 := Go.Lib.hid (And.intro (own_lower ho HB1.out.size) (HB1.out.trans (hb.mono HB1.out.size)))
    clear ho hb
    go_wp2_with fail
    go_ret2
    exact ⟨_, rfl, H2.out.1, H2.out.2⟩

set_option maxHeartbeats 1000000 in
theorem specSweepW (zs : List Int) (r' : ByteArray) (b : Bool) (h : swWordAns zs = (r', b)) (hz : zs.length ≤ 1048576) (W : World) (v : Value) (n : Nat) (hv : Sees W v n (vals zs)) :
    Calls Try.prog 28 #[v] W fun e w' => e = .returned (.tuple #[.string r', .bool b]) ∧ Below W.heap.size W w' := by
  have hl : zs.length = n := by simpa using hv.1
  have hn : n ≤ 1048576 := by omega
  obtain ⟨r, hr⟩ : ∃ r, isOrd zs = r := ⟨_, rfl⟩
  have CO := Go.Lib.hid (fun W' (hs' : Sees W' v n (vals zs)) => l2Order_any W' v n zs r hs' hn hr)
  have HV := Go.Lib.hid hv
  unfold swWordAns at h
  obtain ⟨_, ad, cap, rfl, _, _⟩ := hv
  cases r with
  | false =>
    rw [if_neg (by intro h1; unfold isOrd at hr; exact of_decide_eq_false hr h1)] at h
    cases h
    clear hr
    go_enter Try.func28, Try.ntmps28
    go_wp2_with fail
    refine (CO.out _ HV.out).mono ?_
    rintro e w1 ⟨rfl, hd⟩
    have HB1 : Hid (Below W.heap.size W w1) := Go.Lib.hid (hd.below W.heap.size)
    clear hd
    go_wp2_with fail
    go_ret2
    exact ⟨rfl, HB1.out⟩
  | true =>
    have hord : Ord zs := by unfold isOrd at hr; exact of_decide_eq_true hr
    have hn7 : n ≤ 7 := by have := hord.2.1; omega
    have hn1 : 1 ≤ n := by have := hord.1; omega
    rw [if_pos hord] at h
    cases h
    clear hr
    obtain ⟨R, hR⟩ : ∃ R, txt (swWord zs) = R := ⟨_, rfl⟩
    have C1 := Go.Lib.hid (fun W' (hs' : Sees W' (.slice ad n cap) n (vals zs)) => l4SweepWord_any zs hord W' _ n hs')
    rw [hR] at C1
    rw [hR]
    clear hR
    go_enter Try.func28, Try.ntmps28
    go_wp2_with fail
    refine (CO.out _ HV.out).mono ?_
    rintro e w1 ⟨rfl, hd⟩
    have HB1 : Hid (Below W.heap.size W w1) := Go.Lib.hid (hd.below W.heap.size)
    clear hd
    have HV1 := Go.Lib.hid (HV.out.grow HB1.out)
    go_wp2_with fail
    refine (C1.out _ HV1.out).mono ?_
    rintro e w2 ⟨rfl, hb⟩
    have H2 := Go.Lib.hid (HB1.out.trans (hb.mono HB1.out.size))
    clear hb
    go_wp2_with fail
    go_ret2
    exact ⟨rfl, H2.out⟩

set_option maxHeartbeats 1000000 in
theorem implSweepW (zs : List Int) (r' : ByteArray) (b : Bool) (h : swWordAns zs = (r', b)) (hz : zs.length ≤ 1048576) (W : World) (v : Value) (n : Nat) (hv : Sees W v n (vals zs)) :
    Calls Try.prog 27 #[v] W fun e w' => e = .returned (.tuple #[.string r', .bool b]) ∧ Below W.heap.size W w' := by
  have hl : zs.length = n := by simpa using hv.1
  have hn : n ≤ 1048576 := by omega
  obtain ⟨r, hr⟩ : ∃ r, isOrd zs = r := ⟨_, rfl⟩
  have CO := Go.Lib.hid (fun W' (hs' : Sees W' v n (vals zs)) => implOrder_any W' v n zs r hs' hn hr)
  have HV := Go.Lib.hid hv
  unfold swWordAns at h
  obtain ⟨_, ad, cap, rfl, _, _⟩ := hv
  cases r with
  | false =>
    rw [if_neg (by intro h1; unfold isOrd at hr; exact of_decide_eq_false hr h1)] at h
    cases h
    clear hr
    go_enter Try.func27, Try.ntmps27
    go_wp2_with fail
    refine (CO.out _ HV.out).mono ?_
    rintro e w1 ⟨rfl, hd⟩
    have HB1 : Hid (Below W.heap.size W w1) := Go.Lib.hid hd
    clear hd
    go_wp2_with fail
    go_ret2
    exact ⟨rfl, HB1.out⟩
  | true =>
    have hord : Ord zs := by unfold isOrd at hr; exact of_decide_eq_true hr
    have hn7 : n ≤ 7 := by have := hord.2.1; omega
    have hn1 : 1 ≤ n := by have := hord.1; omega
    rw [if_pos hord] at h
    cases h
    clear hr
    obtain ⟨R, hR⟩ : ∃ R, txt (swWord zs) = R := ⟨_, rfl⟩
    have C1 := Go.Lib.hid (fun W' (hs' : Sees W' (.slice ad n cap) n (vals zs)) => sweepOf_any zs hord W' _ n hs')
    have hto : toAns zs (sweepL zs) = (R, true) := by
      have hsw := sweep_word hord.1 hord.2.1
      have h1 := to_run hord.2.2.2 hsw.2.1 hsw.1
      rw [hsw.2.2] at h1
      unfold toAns
      rw [if_pos ⟨hord, ord_sweep hord, (sweep_len zs).symm⟩, h1]
      show (txt (txt (swWord zs)).data.toList, true) = (R, true)
      rw [EndsM.txt_data, hR]
    have C2 := Go.Lib.hid (fun (W' : World) (h1 : Sees W' (.slice ad n cap) n (vals zs)) (u : Value) (h2 : Sees W' u (sweepL zs).length (vals (sweepL zs))) => implTo zs (sweepL zs) R true hto hz (by rw [sweep_len]; exact hz) W' _ n h1 u _ h2)
    rw [hR]
    clear hR hto
    go_enter Try.func27, Try.ntmps27
    go_wp2_with fail
    refine (CO.out _ HV.out).mono ?_
    rintro e w1 ⟨rfl, hd⟩
    have HB1 : Hid (Below W.heap.size W w1) := Go.Lib.hid hd
    clear hd
    have HV1 := Go.Lib.hid (HV.out.grow HB1.out)
    go_wp2_with fail
    refine (C1.out _ HV1.out).mono ?_
    rintro e w2 ⟨u, rfl, ho, hb⟩
    have H2 := Go.Lib.hid (And.intro ho (HB1.out.trans (hb.mono HB1.out.size)))
    clear ho hb
    go_wp2_with fail
    refine (C2.out _ (HV.out.grow H2.out.2) _ (Sees.owns H2.out.1)).mono ?_
    rintro e w3 ⟨rfl, hb⟩
    have H3 := Go.Lib.hid (H2.out.2.trans (hb.mono H2.out.2.size))
    clear hb
    go_wp2_with fail
    go_ret2
    exact ⟨rfl, H3.out⟩

end Go.Proofs.Ytddenfnoajdjiaa.Sweep4C

/-
  Contracts: what is struck from the map of orders by words; the values collected and sorted. Conditions: as stated.
-/
namespace Go.Proofs
open Go.Shelf Go.RowKit Go.Lib Go.Sort
shelf_lay_g SlLaysDf.n5 Slmd 5 at Try 103 as Try.laysDf
end Go.Proofs
namespace Go.Proofs.Ytddenfnoajdjiaa.SwfDelC
open Go.RowKit Go.Shelf Go.Maps NumC SeesC IntsC ExactC OrdMath WordMath ListsC ListsGC WithC MapRowsC ByWordC EndsM SweepM StackM SwfM Sweep4C

set_option maxHeartbeats 1000000 in
theorem swDel_any (ys : List Int) (hy : Ord ys) (s : ByteArray) (W : World) (v : Value) (n : Nat) (hv : Sees W v n (vals ys)) :
    Calls Try.prog 104 #[.string s, v] W fun e w' => e = .returned (.bool (!decide (swWord ys = s.data.toList))) ∧ Below W.heap.size W w' := by
  obtain ⟨t, ht⟩ : ∃ t, txt (swWord ys) = t := ⟨_, rfl⟩
  have hte : swWord ys = t.data.toList := by rw [← ht]; simp [txt]
  have CW := Go.Lib.hid (implSweepW ys t true (by unfold swWordAns; rw [if_pos hy, ht]) (by have := hy.2.1; omega) W v n hv)
  obtain ⟨_, ad, cap, rfl, _, _⟩ := hv
  rw [hte]
  clear ht hte
  by_cases he : t = s
  · subst he
    have h1 : (t.toList == t.toList) = true := by simp
    have h2 : (!t.toList == t.toList) = false := by simp
    have hd : (!decide (t.data.toList = t.data.toList)) = false := by simp
    rw [hd]
    clear hd
    go_enter Try.func104, Try.ntmps104
    go_wp2_with fail
    refine (CW.out).mono ?_
    rintro e w1 ⟨rfl, hb⟩
    have H1 := Go.Lib.hid hb
    clear hb
    go_wp2_with fail
    go_ret
    exact ⟨rfl, H1.out⟩
  · have hne : t.data.toList ≠ s.data.toList := fun e => he (by cases t; cases s; simpa using e)
    have hd : (!decide (t.data.toList = s.data.toList)) = true := by simpa using hne
    rw [hd]
    have h1 : (t.toList == s.toList) = false := by
      rw [beq_eq_false_iff_ne]
      intro e
      exact hne (by rw [← ByteArray.toList_eq, ← ByteArray.toList_eq]; exact e)
    have h2 : (!t.toList == s.toList) = true := by rw [h1]; rfl
    clear hd hne he
    go_enter Try.func104, Try.ntmps104
    go_wp2_with fail
    refine (CW.out).mono ?_
    rintro e w1 ⟨rfl, hb⟩
    have H1 := Go.Lib.hid hb
    clear hb
    go_wp2_with fail
    go_ret
    exact ⟨rfl, H1.out⟩

/-- What is struck: an order by a word that isn't the word of its sweep. -/
theorem pd_ex (zs : List Int) (n N : Nat) (gs : List (Nat × Nat)) (hl : gs.length = N) (hnd : (gs.map (·.1)).Nodup) :
    ∃ pd : Lit → DV → Bool, ∀ j x, j < N → pd (.string x) (.held (sl n (gs.getD j (0, 0)))) = !decide (swWord (beforeOf zs ((allW n).getD j ByteArray.empty)) = x) := by
  classical
  refine ⟨fun kl yd => decide (∃ j x, j < N ∧ kl = .string x ∧ yd = .held (sl n (gs.getD j (0, 0))) ∧ swWord (beforeOf zs ((allW n).getD j ByteArray.empty)) ≠ x), fun j x hj => ?_⟩
  by_cases h : swWord (beforeOf zs ((allW n).getD j ByteArray.empty)) = x
  · have e1 : (!decide (swWord (beforeOf zs ((allW n).getD j ByteArray.empty)) = x)) = false := by rw [decide_eq_true h]; rfl
    rw [e1, decide_eq_false_iff_not]
    rintro ⟨k, y, hk, e2, e3, h4⟩
    have e5 : x = y := by simpa using e2
    have e6 : sl n (gs.getD j (0, 0)) = sl n (gs.getD k (0, 0)) := by simpa using e3
    have e7 : (gs.getD j (0, 0)).1 = (gs.getD k (0, 0)).1 := by
      unfold sl at e6
      simp only [Value.slice.injEq, Option.some.injEq, Addr.mk.injEq] at e6
      exact e6.1.1
    have e8 : j = k := Classical.byContradiction fun hne => nodup_ne hnd (by omega) (by omega) hne e7
    subst e8
    exact h4 (h.trans e5)
  · have e1 : (!decide (swWord (beforeOf zs ((allW n).getD j ByteArray.empty)) = x)) = true := by rw [decide_eq_false h]; rfl
    rw [e1, decide_eq_true_eq]
    exact ⟨j, x, hj, rfl, rfl, h⟩

theorem grown_none {w w' : World} (hb : Below w.heap.size w w') : w.grownBy w' none := grown_of_below hb none

set_option maxHeartbeats 2000000 in
theorem delete_any (zs : List Int) (hord : Ord zs) (n N b : Nat) (hl : zs.length = n) (hN : (allW n).length = N) (W w : World) (gs : List (Nat × Nat)) (hM : Mid zs n W b N gs w) :
    Calls Try.prog 103 #[.map (some b), .func (.func 104) #[] #[]] w fun e w' => e = .returned (.tuple #[]) ∧
      (∃ es pd R, IsR (gs.map (sl n)) R ∧ es.Perm (prs (allW n) (gs.map (sl n)) N) ∧ (∀ j x, j < N → pd (.string x) (.held (sl n (gs.getD j (0, 0)))) = !decide (swWord (beforeOf zs ((allW n).getD j ByteArray.empty)) = x)) ∧ w'.ownsMap Try.prog 9 R b N (Lib.deleteFuncD pd (.map es))) ∧
      (∀ j, j < N → w'.ownsRow W.heap.size 3 1 (sl n (gs.getD j (0, 0))) n (vals (beforeOf zs ((allW n).getD j ByteArray.empty)))) ∧ Below W.heap.size W w' := by
  obtain ⟨hgl, ⟨es, R, hR, hmap, hperm⟩, hrows, hnd, hbel, hWb⟩ := hM
  obtain ⟨pd, hpd⟩ := pd_ex zs n N gs hgl hnd
  have hn1 : 1 ≤ n := by rw [← hl]; exact hord.1
  have hn7 : n ≤ 7 := by rw [← hl]; exact hord.2.1
  have eg : ∀ args w, (callFunc 104 args).run Try.prog w = .ok (.enter 104 args) w := enters_of Try.func104 (by kernel_rfl) rfl
  have hcon := AnyDf.maps_DeleteFunc Try.laysDf strKeyed R pd 104 #[] b N (.map es) w eg hmap (fun X key val kl yd yp hg hkey hv => by
    obtain ⟨hvm, hz⟩ := hR.2 _ _ hv
    obtain ⟨p, hp, rfl⟩ := List.mem_map.1 hvm
    obtain ⟨j, hj, hjp⟩ := mem_at hp
    have hjN : j < N := by omega
    obtain ⟨s, rfl⟩ := Maps.keyOf_string_inv Try.underlying9 hkey
    have hkl : kl = .string s.data.toList := by
      have h1 : keyOf Try.prog 9 (.string s) = some kl := hkey
      simp [keyOf, Try.underlying9, mapKey] at h1
      exact h1.2.symm
    have hyd : yd = .held (sl n p) := by cases hz; rfl
    subst hkl hyd
    have hw : (allW n).getD j ByteArray.empty ∈ allW n := by
      have e : (allW n).getD j ByteArray.empty = (allW n)[j]'(by omega) := by simp [show j < (allW n).length by omega]
      rw [e]; exact List.getElem_mem _
    have hww := all_mem hn1 hn7 hw
    have hrow : X.ownsRow W.heap.size 3 1 (sl n p) n (vals (beforeOf zs ((allW n).getD j ByteArray.empty))) := by rw [← hjp]; exact own_map (hrows j hjN) hmap hg
    have hpj := hpd j s.data.toList hjN
    rw [hjp] at hpj
    rw [hpj]
    exact (swDel_any _ (ord_before hord hww.1 (by rw [hl]; exact hww.2)) s X (sl n p) n (Sees.owns hrow)).mono fun e w' ⟨h1, h2⟩ => ⟨h1, grown_none h2⟩)
  refine hcon.mono ?_
  rintro e w' ⟨rfl, hmap', hg'⟩
  exact ⟨rfl, ⟨es, pd, R, hR, hperm, hpd, hmap'⟩, fun j hj => own_map (hrows j hj) hmap hg', hbel.grown hg' hbel.size (fun k hk => by cases hk; exact hWb)⟩

end Go.Proofs.Ytddenfnoajdjiaa.SwfDelC

/-
  Contract: the model's list of all orders of n numbers. Conditions: 1 to 7 numbers.
-/
namespace Go.Proofs.Ytddenfnoajdjiaa.OrdsSpC
open Go.RowKit SeesC IntsC ExactC OrdMath OrdFacts InC OrderC RankC AtC ListsC ListsEC ListsFC ListsGC AllO

set_option maxRecDepth 100000 in
set_option maxHeartbeats 4000000 in
theorem l2Orders_any (n : Nat) (hn1 : 1 ≤ n) (hn7 : n ≤ 7) (W : World) :
    Calls Try.prog 108 #[.int .i64 (n : Int)] W fun e w' => ∃ v, e = .returned v ∧ Lists w' W.heap.size n v ((allO n).map vals) ∧ Below W.heap.size W w' := by
  obtain ⟨j0, hj, hy0, hy1, hy2⟩ := info_parts infoL
  have CW := Go.Lib.hid (fun W' => l2Ways_any n W' hn7)
  have CA := Go.Lib.hid (fun (k : Nat) W' (hk : k < fact n) => l2At_any n k W' hn1 hn7 hk)
  have HF := Go.Lib.hid (And.intro (fact_pos n) (fact_7 hn7))
  obtain ⟨f, hf⟩ : ∃ f, fact n = f := ⟨_, rfl⟩
  have HFF := Go.Lib.hid hf
  have hf1 : 1 ≤ f := by rw [← hf]; exact HF.out.1
  have hf2 : f ≤ 5040 := by rw [← hf]; exact HF.out.2
  rw [hf] at CW CA
  clear hf
  have HB0 : Hid (Lists (W.alloc (.cells #[] 24)) W.heap.size n (.slice (some ⟨W.heap.size, 0, none⟩) 0 0) ([] : List (List Value)) ∧ Below W.heap.size W (W.alloc (.cells #[] 24))) := Go.Lib.hid ⟨⟨[], rfl, World.ownsRow_made (base := W.heap.size) (e := 24) (size := 1) W #[] 0 (Nat.le_refl _) (by unfold maxLen; omega) rfl, fun i hi => absurd hi (by simp), by simp, fun p hp => by simp at hp⟩, (Below.refl _ _).alloc (Nat.le_refl _) _⟩
  go_enter Try.func108, Try.ntmps108
  go_wp2
  go_loopw [3, 4] (fun ov kv wr => ∃ (k g c : Nat) (Y : List (List Int)), k ≤ f ∧ kv = .int .i64 k ∧ ov = .slice (some ⟨g, 0, none⟩) k c ∧ Hid (Y = (allO n).take k ∧ Y.length = k) ∧ Hid (Lists wr W.heap.size n (.slice (some ⟨g, 0, none⟩) k c) (Y.map vals) ∧ Below W.heap.size W wr)) (fun _ k _ => f - (intOf k).toNat)
  case atStart => exact ⟨0, W.heap.size, 0, [], Nat.zero_le _, rfl, rfl, Go.Lib.hid ⟨by simp, rfl⟩, HB0⟩
  case round =>
    obtain ⟨k, g, c, Y, hk, rfl, rfl, HY, HX⟩ := hrel
    clear HB0
    by_cases hlt : k < f
    · obtain ⟨wj, rfl⟩ : ∃ wj, wj = wr := ⟨_, rfl⟩
      obtain ⟨gs, hg, hog, hin, hnd, hne⟩ := HX.out.1
      rw [List.length_map, HY.out.2] at hg hog hin
      have HG := Go.Lib.hid (And.intro hg (And.intro hog (And.intro hin hnd)))
      have hlti : (k : Int) < (f : Int) := by omega
      have HT := Go.Lib.hid (allO_take (m := n) (k := k) (by rw [HFF.out]; exact hlt))
      have CK := Go.Lib.hid (CA.out k wj hlt)
      obtain ⟨x, hx⟩ : ∃ x, atRun n (iota n) k = x := ⟨_, rfl⟩
      rw [hx] at HT CK
      clear hg hog hin hnd hne hx
      go_wp2_with fail
      refine (CW.out _).mono ?_
      rintro e wq ⟨rfl, hwq⟩
      obtain rfl : wj = wq := hwq
      go_wp2_with fail
      refine (CK.out).mono ?_
      rintro e w3 ⟨gu, cu, rfl, ho, hb⟩
      have hwjl := HX.out.2.size
      have H3 := Go.Lib.hid (And.intro ho (And.intro hb (HX.out.2.trans (hb.mono hwjl))))
      clear ho hb CK
      have hsz4 := H3.out.2.2.size
      have hba : Below W.heap.size W (w3.alloc (.cells #[.slice (some ⟨gu, 0, none⟩) n cu] 24)) := H3.out.2.2.alloc hsz4 _
      have hbj : Below wj.heap.size wj (w3.alloc (.cells #[.slice (some ⟨gu, 0, none⟩) n cu] 24)) := H3.out.2.1.alloc (H3.out.2.1.size) _
      have HX4 := Go.Lib.hid (And.intro (kept_call HG.out.2.1 hbj) (And.intro (fun i (hi : i < k) => kept_call (HG.out.2.2.1 i hi) hbj) (And.intro (H3.out.1.alloc (.cells #[.slice (some ⟨gu, 0, none⟩) n cu] 24)) hba)))
      clear hba hbj
      go_wp2_with (at_builtin; refine wpList_append_own _ rfl _ _ 49 rfl W.heap.size 24 j0 (.slice none 0 0) 1 24 Try.underlying49 hj hy0 hy1 hy2 rfl (by decide) (.slice (some ⟨g, 0, none⟩) k c) k (gs.map (sl n)) rfl HX4.out.1 ⟨w3.heap.size, 0, none⟩ 1 1 [.slice (some ⟨gu, 0, none⟩) n cu] rfl rfl (cell_one_new _ _ _) (fun x hx => by simp at hx; subst hx; rfl) (by unfold maxLen; omega) (by omega) (by simp; omega) ?_; intro v' w5 hown5 hgrow5 hnil5)
      obtain ⟨g5, c5, rfl⟩ := ownsRow_succ hown5
      have hL5 : Lists w5 W.heap.size n (.slice (some ⟨g5, 0, none⟩) (k + 1) c5) (Y.map vals ++ [vals x]) :=
        lists_snoc (p := (gu, cu)) (by rw [List.length_map, HY.out.2]) HG.out.1 HX4.out.1 HX4.out.2.1 HG.out.2.2.2 (own_lower HX4.out.2.2.1 hwjl) (fun i hi => by
          have h1 := own_block_lt (HG.out.2.2.1 i hi) (q := (gs.getD i (0, 0)).1) rfl
          have h2 := own_block_lt H3.out.1 (q := gu) rfl
          show (gs.getD i (0, 0)).1 ≠ gu
          omega) hown5 hgrow5
      have hb5 : Below W.heap.size W w5 := HX4.out.2.2.2.grown hgrow5 (by simp; omega) (fun q hq => (HX4.out.1.lt q hq).1)
      have HY5 : Hid (Y ++ [x] = (allO n).take (k + 1) ∧ (Y ++ [x]).length = k + 1) := Go.Lib.hid ⟨by rw [HT.out, HY.out.1], by rw [List.length_append, HY.out.2]; rfl⟩
      have e6 : Y.map vals ++ [vals x] = (Y ++ [x]).map vals := by simp
      rw [e6] at hL5
      have H5 := Go.Lib.hid (And.intro hL5 hb5)
      clear hown5 hgrow5 hnil5 hL5 hb5 e6 hsz4
      go_wp2
      go_roundw
      case rel => exact ⟨k + 1, g5, c5, _, by omega, by go_num, rfl, HY5, H5⟩
      case measure => simp [intOf]; omega
    · have hkf : k = f := by omega
      subst hkf
      have HZ : Hid (Y = allO n) := Go.Lib.hid (by rw [HY.out.1, List.take_of_length_le (by rw [allO_len, HFF.out]; exact Nat.le_refl _)])
      have hlti : ¬ (k : Int) < (k : Int) := by omega
      go_wp2_with fail
      refine (CW.out _).mono ?_
      rintro e wq ⟨rfl, hwq⟩
      obtain rfl : wr = wq := hwq
      go_wp2
      go_ret
      exact ⟨_, rfl, by rw [← HZ.out]; exact HX.out.1, HX.out.2⟩

end Go.Proofs.Ytddenfnoajdjiaa.OrdsSpC

/-
  Contract: the model copies a list into memory of the call's own. Conditions: at most 2^20 numbers.
-/
namespace Go.Proofs.Ytddenfnoajdjiaa.Own1C
open Go.RowKit SeesC IntsC ExactC IterC

set_option maxRecDepth 100000 in
theorem l1Own_any (zs : List Int) (b o n cap : Nat) (W : World) (hl : zs.length = n) (hn : n ≤ 1048576) (hc : ∀ j, j < zs.length → W.cell? ⟨b, o + j, none⟩ = some (.int .i64 (zs.getD j 0))) :
    Calls Try.prog 99 #[.slice (some ⟨b, o, none⟩) n cap] W fun e w' => ∃ g c, e = .returned (.slice (some ⟨g, 0, none⟩) n c) ∧ w'.ownsRow W.heap.size 3 1 (.slice (some ⟨g, 0, none⟩) n c) n (vals zs) ∧ Below W.heap.size W w' := by
  obtain ⟨i0, hi, hz0, hz1, hz2⟩ := info_parts infoI
  have ho0 := World.ownsRow_made (base := W.heap.size) (e := 3) (size := 1) W #[] 0 (Nat.le_refl _) (by unfold maxLen; omega) rfl
  have hc2 : ∀ j u, (vals zs)[j]? = some u → (W.alloc (.cells #[] 3)).cell? ((⟨b, o, none⟩ : Addr).add j) = some u := by
    intro j u hu
    have hj : j < zs.length := by have := (List.getElem?_eq_some_iff.1 hu).1; simpa using this
    have e0 : (⟨b, o, none⟩ : Addr).add j = ⟨b, o + j, none⟩ := by unfold Addr.add; split <;> simp_all
    have h1 := hc j hj
    have hlt := World.block_lt_of_cell? W _ h1
    have hbl : Below W.heap.size W (W.alloc (.cells #[] 3)) := (Below.refl _ _).alloc (Nat.le_refl _) _
    rw [e0, hbl.cell (p := ⟨b, o + j, none⟩) hlt, h1]
    simp [hj] at hu
    rw [← hu]; simp [hj]
  have HC2 := Go.Lib.hid hc2
  clear hc hc2
  go_enter Try.func99, Try.ntmps99
  go_wp2_with (at_builtin; refine wpList_append_own _ rfl _ _ 24 rfl W.heap.size 3 i0 (.int .i64 0) 1 8 Try.underlying24 hi hz0 hz1 hz2 rfl (by decide) (.slice (some ⟨W.heap.size, 0, none⟩) 0 0) 0 [] rfl ho0 ⟨b, o, none⟩ n cap (vals zs) rfl (by rw [vals_len, hl, Nat.mul_one]) HC2.out (ints_oneCell .i64 zs) (by unfold maxLen; omega) (by omega) (by simp) ?_; intro v' w3 hown' hgrow3 hnil3)
  have hb' : Below W.heap.size W w3 := ((Below.refl _ _).alloc (Nat.le_refl _) _).grown hgrow3 (by simp) (fun q hq => (ho0.lt q hq).1)
  have hne : v' ≠ .slice none 0 0 := fun e => by have := (hnil3.1 e).1; cases this
  rw [Nat.zero_add, List.nil_append] at hown'
  obtain ⟨g, c, rfl⟩ : ∃ g c, v' = .slice (some ⟨g, 0, none⟩) n c := by
    rcases hown'.2 with ⟨h0, _⟩ | ⟨g, c, cur, hv, _⟩
    · exact absurd h0 hne
    · exact ⟨g, c, hv⟩
  have H3 := Go.Lib.hid (And.intro hown' hb')
  clear hown' hgrow3 hnil3 ho0 hb' hne
  go_wp2
  go_ret
  exact ⟨_, _, rfl, H3.out.1, H3.out.2⟩

theorem own_drop_cells {w : World} {base g n cap : Nat} {ty : TypeId} {zs : List Int} (h : w.ownsRow base ty 1 (.slice (some ⟨g, 0, none⟩) n cap) n (vals zs)) (i : Nat) : ∀ j u, (vals (zs.drop i))[j]? = some u → w.cell? ((⟨g, i, none⟩ : Addr).add j) = some u := by
  intro j u hu
  have hl : zs.length = n := by simpa using h.1
  have hj : i + j < zs.length := by have := (List.getElem?_eq_some_iff.1 hu).1; simp at this; omega
  have e0 : (⟨g, i, none⟩ : Addr).add j = ⟨g, i + j, none⟩ := by unfold Addr.add; split <;> simp_all
  rw [e0, h.cellAt (i + j) (by omega)]
  simp at hu ⊢
  exact hu

end Go.Proofs.Ytddenfnoajdjiaa.Own1C

/-
  Contracts: the model and the program tell the shape of a list. Conditions: the list can be read and has at most 2^20 numbers.
-/
namespace Go.Proofs.Ytddenfnoajdjiaa.ShapeC
open Go.RowKit SeesC IntsC ExactC OrdMath InC OrderC PatMath

theorem drawn_own {w w' : World} {B size n : Nat} {ty : TypeId} {v : Value} {xs : List Value} (h : Drawn w w') (ho : w.ownsRow B ty size v n xs) : w'.ownsRow B ty size v n xs := by
  obtain ⟨m, rfl⟩ := h; exact ho

theorem getD_el {zs : List Int} {j : Nat} (h : j < zs.length) : zs.getD j 0 = zs[j] := by simp [h]

theorem cl_step {zs : List Int} {j : Nat} (z x : Int) (h : j < zs.length) (hx : zs.getD j 0 = x) : cl z (zs.take (j + 1)) = cl z (zs.take j) + (if x < z then 1 else 0) := by
  rw [cl_next h, ← hx, getD_el h]

/-- What the program has filled in so far. -/
def filled (zs : List Int) (k n : Nat) : List Int := (shp zs).take k ++ List.replicate (n - k) 0

theorem filled_len {zs : List Int} {k n : Nat} (hl : zs.length = n) (hk : k ≤ n) : (filled zs k n).length = n := by
  simp [filled, shp_len]; omega

theorem filled_next {zs : List Int} {k n : Nat} {y : Int} (hl : zs.length = n) (hk : k < n) (hy : (shp zs).getD k 0 = y) : (filled zs k n).set k y = filled zs (k + 1) n := by
  have h1 : k < (shp zs).length := by rw [shp_len]; omega
  have h2 := set_next (shp zs) 0 n k h1 (by rw [shp_len]; exact hl)
  rw [← getD_el h1, hy] at h2
  exact h2

theorem made_filled (zs : List Int) (n : Nat) : (madeCells (Value.int .i64 0).cells (n * 1)).toList = vals (filled zs 0 n) := by
  rw [made_int]; simp [filled]

end Go.Proofs.Ytddenfnoajdjiaa.ShapeC

/-
  Contract: the program's lists of places, level by level. Conditions: at most 7 places of 7.
-/
namespace Go.Proofs.Ytddenfnoajdjiaa.PlacesC
open Go.RowKit SeesC IntsC ExactC OrdMath InC OrderC PatMath ShapeC ListsC ListsEC ListsFC

/-- Places as values. -/
abbrev nv (q : List Nat) : List Value := vals (nat q)

theorem nv_len (q : List Nat) : (nv q).length = q.length := by simp [PatMath.nat]

theorem nv_snoc (b : List Nat) (p : Nat) : nv (b ++ [p]) = nv b ++ [.int .i64 (p : Int)] := by
  show List.map _ (List.map _ _) = List.map _ (List.map _ _) ++ _
  rw [List.map_append, List.map_append]; rfl

set_option maxRecDepth 100000 in
set_option maxHeartbeats 1000000 in
theorem behind_any (b : List Nat) (W : World) (v : Value) (l : Nat) (hl : b.length = l) (hl7 : l ≤ 7) (hb : ∀ p ∈ b, p < 1000) (hv : Sees W v l (nv b)) :
    Calls Try.prog 134 #[v] W fun e w' => e = .returned (.int .i64 ((behind b : Nat) : Int)) ∧ w' = W := by
  rcases List.eq_nil_or_concat b with rfl | ⟨ys, x, rfl⟩
  · have h0 : l = 0 := by rw [← hl]; rfl
    subst h0
    obtain ⟨_, adr, cap, rfl, _, _⟩ := hv
    go_enter Try.func134, Try.ntmps134
    go_wp2
    go_ret
    exact ⟨rfl, rfl⟩
  · rw [List.concat_eq_append] at hl hb hv ⊢
    obtain ⟨i, hi⟩ : ∃ i, ys.length = i := ⟨_, rfl⟩
    have hli : l = i + 1 := by rw [← hl, List.length_append, hi]; rfl
    subst hli
    obtain ⟨_, adr, cap, rfl, _, hc⟩ := hv
    obtain ⟨g, o, rfl, hcell⟩ := hc (by omega)
    have hck : W.cell? ⟨g, o + i, none⟩ = some (.int .i64 (x : Int)) := hcell i _ (by simp [PatMath.nat, hi])
    have hx : x < 1000 := hb x (by simp)
    have HB : Hid (behind (ys ++ [x]) = x + 1) := Go.Lib.hid (behind_snoc _ _)
    have he : (((i + 1 : Nat) : Int) == 0) = false := by rw [beq_eq_false_iff_ne]; omega
    have he2 : (((i : Int) + 1) == 0) = false := by rw [beq_eq_false_iff_ne]; omega
    rw [HB.out]
    clear hcell hc hb hl hi
    go_enter Try.func134, Try.ntmps134
    go_wp2
    go_ret
    exact ⟨by go_num, rfl⟩

theorem take_next_flat {α β : Type} {l : List α} {i : Nat} (h : i < l.length) (g : α → List β) : (l.take (i + 1)).flatMap g = (l.take i).flatMap g ++ g l[i] := by
  rw [List.take_succ_eq_append_getElem h, List.flatMap_append]; simp

theorem range_next (s j : Nat) : List.range' s (j + 1) = List.range' s j ++ [s + j] := by
  rw [List.range'_concat]; simp

theorem part_next (f : List Nat → Bool) (b : List Nat) (s j : Nat) : ((List.range' s (j + 1)).map (fun p => b ++ [p])).filter f = ((List.range' s j).map (fun p => b ++ [p])).filter f ++ (if f (b ++ [s + j]) = true then [b ++ [s + j]] else []) := by
  rw [range_next, List.map_append, List.filter_append]
  simp [List.filter_cons]

theorem lev_below {n c : Nat} {f : List Nat → Bool} : ∀ l, ∀ q ∈ lev n c f l, ∀ p ∈ q, p < n
  | 0, q, h, p, hp => by simp [lev] at h; subst h; simp at hp
  | l + 1, q, h, p, hp => by
    unfold lev at h
    rw [List.mem_flatMap] at h
    obtain ⟨b, hb, hq⟩ := h
    have ih := lev_below l b hb
    have hq := (List.mem_filter.1 hq).1
    unfold nexts at hq
    rw [List.mem_map] at hq
    obtain ⟨x, hx, rfl⟩ := hq
    rw [List.mem_range'_1] at hx
    rw [List.mem_append, List.mem_singleton] at hp
    rcases hp with hp | rfl
    · exact ih p hp
    · omega

set_option maxRecDepth 100000 in
set_option maxHeartbeats 8000000 in
theorem placeLists_any (n c : Nat) (hn : n ≤ 7) (hc7 : c ≤ 7) (fid : FuncId) (ex : Array Value) (f : List Nat → Bool) (W : World)
    (hcf : ∀ (args : Array Value) (w : World), Sem.run Try.prog (callFunc fid args) w = .ok (.enter fid args) w)
    (HF : ∀ (W' : World) (u : Value) (q : List Nat), Below W.heap.size W W' → 1 ≤ q.length → q.length ≤ c → (∀ p ∈ q, p < n) → Sees W' u q.length (nv q) →
      Calls Try.prog fid (#[u] ++ ex) W' fun e w' => e = .returned (.bool (f q)) ∧ Drawn W' w') :
    Calls Try.prog 127 #[.int .i64 n, .int .i64 c, .func (.func fid) #[] ex] W fun e w' => ∃ v, e = .returned v ∧ Lists w' W.heap.size c v ((lev n c f c).map nv) ∧ Below W.heap.size W w' := by
  obtain ⟨i0, hi, hz0, hz1, hz2⟩ := info_parts infoI
  obtain ⟨j0, hj, hy0, hy1, hy2⟩ := info_parts infoL
  have HFH := Go.Lib.hid HF
  have HCF := Go.Lib.hid hcf
  clear hcf
  have HS := Go.Lib.hid (lists_start W)
  clear HF
  go_enter Try.func127, Try.ntmps127
  go_wp2
  go_loopw [7, 18] (fun lv iv wr => ∃ (l g cp N : Nat), l ≤ c ∧ iv = .int .i64 l ∧ lv = .slice (some ⟨g, 0, none⟩) N cp ∧ Hid (N = (lev n c f l).length ∧ Lists wr W.heap.size l (.slice (some ⟨g, 0, none⟩) N cp) ((lev n c f l).map nv) ∧ Below W.heap.size W wr)) (fun _ i _ => c - (intOf i).toNat)
  case atStart => exact ⟨0, W.heap.size + 1, 1, 1, Nat.zero_le _, rfl, by simp, Go.Lib.hid ⟨rfl, HS.out.1, HS.out.2⟩⟩
  case round =>
    obtain ⟨l, g, cp, N, hl, rfl, rfl, HL⟩ := hrel
    clear HS
    by_cases hlt : l < c
    · obtain ⟨wl, rfl⟩ : ∃ wl, wl = wr := ⟨_, rfl⟩
      have hlti : (l : Int) < (c : Int) := by omega
      have HB0 : Hid (Lists (wl.alloc (.cells #[] 24)) wl.heap.size (l + 1) (.slice (some ⟨wl.heap.size, 0, none⟩) 0 0) ([] : List (List Value))) := Go.Lib.hid ⟨[], rfl, World.ownsRow_made (base := wl.heap.size) (e := 24) (size := 1) wl #[] 0 (Nat.le_refl _) (by unfold maxLen; omega) rfl, fun i hi => absurd hi (by simp), by simp, fun p hp => by simp at hp⟩
      have HB1 : Hid (Below wl.heap.size wl (wl.alloc (.cells #[] 24))) := Go.Lib.hid ((Below.refl _ _).alloc (Nat.le_refl _) _)
      have hNm : N ≤ 823543 := by rw [HL.out.1]; exact lev_823543 hn (by omega)
      go_wp2
      go_loopw [10, 29] (fun ov iv wr => ∃ (i g2 c2 N2 : Nat) (Y : List (List Nat)), i ≤ N ∧ iv = .int .i64 i ∧ ov = .slice (some ⟨g2, 0, none⟩) N2 c2 ∧ Hid (Y = ((lev n c f l).take i).flatMap (fun b => (nexts n (c - 1 - l) b).filter f)) ∧ Hid (N2 = Y.length ∧ Lists wr wl.heap.size (l + 1) (.slice (some ⟨g2, 0, none⟩) N2 c2) (Y.map nv) ∧ Below wl.heap.size wl wr)) (fun _ i _ => N - (intOf i).toNat)
      case atStart => exact ⟨0, wl.heap.size, 0, 0, [], Nat.zero_le _, rfl, rfl, Go.Lib.hid (by simp), Go.Lib.hid ⟨rfl, HB0.out, HB1.out⟩⟩
      case round =>
        obtain ⟨i, g2, c2, N2, Y0, hiN, rfl, rfl, HY0, HX0⟩ := hrel
        clear HB0 HB1
        by_cases hlt2 : i < N
        · have hil : i < (lev n c f l).length := by rw [← HL.out.1]; exact hlt2
          obtain ⟨b, hb⟩ : ∃ b, (lev n c f l)[i] = b := ⟨_, rfl⟩
          have hbm : b ∈ lev n c f l := by rw [← hb]; exact List.getElem_mem _
          have hbl : b.length = l := lev_len l b hbm
          have hbn : ∀ p ∈ b, p < n := lev_below l b hbm
          obtain ⟨gs, hg, hog, hin, hnd, hne⟩ := (HL.out.2.1.kept HX0.out.2.2)
          rw [List.length_map, ← HL.out.1] at hg hog hin
          obtain ⟨p, hp⟩ : ∃ p, gs.getD i (0, 0) = p := ⟨_, rfl⟩
          have hob := hin i hlt2
          have hgd : ((lev n c f l).map nv).getD i [] = nv b := by rw [← hb]; simp [hil]
          rw [hp, hgd] at hob
          have hck : wr.cell? ⟨g, i, none⟩ = some (.slice (some ⟨p.1, 0, none⟩) l p.2) := by
            rw [hog.cellAt i (by omega)]
            rw [← hp] 
            simp [show i < gs.length by omega, sl]
          obtain ⟨wi, rfl⟩ : ∃ wi, wi = wr := ⟨_, rfl⟩
          have CB := Go.Lib.hid (behind_any b wi _ l hbl (by omega) (fun q hq => by have := hbn q hq; omega) (Sees.owns hob))
          unfold sl at CB hob
          have HOB := Go.Lib.hid (And.intro hob (And.intro hbl (And.intro hbn (Exists.intro hil hb : ∃ h : i < (lev n c f l).length, (lev n c f l)[i] = b))))
          have hpc : l ≤ p.2 := by
            rcases hob.2 with ⟨h0, _⟩ | ⟨_, _, _, h0, _, _, h1, _⟩
            · cases h0
            · cases h0; exact h1
          obtain ⟨bh, hbh⟩ : ∃ bh, behind b = bh := ⟨_, rfl⟩
          have HBH := Go.Lib.hid hbh
          have hbh8 : bh ≤ 8 := by
            rw [← hbh]; unfold behind
            cases h : b.getLast? with
            | none => exact Nat.zero_le _
            | some x => have := hbn x (List.mem_of_getLast? h); show x + 1 ≤ 8; omega
          rw [hbh] at CB
          obtain ⟨m, hm⟩ : ∃ m, n - (c - 1 - l) - bh = m := ⟨_, rfl⟩
          have HM := Go.Lib.hid hm
          have hm7 : m ≤ 7 := by omega
          obtain ⟨p1, p2⟩ := p
          simp only at hck CB HOB hpc
          have hY0 : Y0.length ≤ 7 * 823543 := by
            rw [HY0.out]
            have h1 := flat_len (g := fun b => (nexts n (c - 1 - l) b).filter f) (m := 7) (l := (lev n c f l).take i) (fun b _ => by
              have h1 := List.length_filter_le f (nexts n (c - 1 - l) b)
              have h2 := nexts_len n (c - 1 - l) b
              omega)
            have h2 : ((lev n c f l).take i).length ≤ 823543 := by rw [List.length_take]; omega
            omega
          have hiNi : (i : Int) < (N : Int) := by omega
          clear hb hbm hbl hbn hg hog hin hnd hne hp hob hgd hbh hm hil
          go_wp2_with fail
          refine (CB.out).mono ?_
          rintro e _ ⟨rfl, rfl⟩
          go_wp2_with fail
          go_loopw [10, 13] (fun ov pv wr => ∃ (j g3 c3 N3 : Nat) (Y : List (List Nat)), j ≤ m ∧ pv = .int .i64 ((bh + j : Nat) : Int) ∧ ov = .slice (some ⟨g3, 0, none⟩) N3 c3 ∧ Hid (Y = Y0 ++ ((List.range' bh j).map (fun p => b ++ [p])).filter f) ∧ Hid (N3 = Y.length ∧ Lists wr wl.heap.size (l + 1) (.slice (some ⟨g3, 0, none⟩) N3 c3) (Y.map nv) ∧ Below wl.heap.size wl wr ∧ wr.ownsRow W.heap.size 3 1 (.slice (some ⟨p1, 0, none⟩) l p2) l (nv b))) (fun _ p _ => bh + m - (intOf p).toNat)
          case atStart => exact ⟨0, g2, c2, N2, Y0, Nat.zero_le _, rfl, rfl, Go.Lib.hid (by simp), Go.Lib.hid ⟨HX0.out.1, HX0.out.2.1, HX0.out.2.2, HOB.out.1⟩⟩
          case round =>
            obtain ⟨j, g3, c3, N3, Y, hjm, rfl, rfl, HY, HX⟩ := hrel
            by_cases hlt3 : j < m
            · obtain ⟨pp, hpp⟩ : ∃ pp, bh + j = pp := ⟨_, rfl⟩
              have hcond : (pp : Int) ≤ (n : Int) - (c : Int) + (l : Int) := by have := HM.out; omega
              have hppn : pp < n := by have := HM.out; omega
              rw [hpp]
              have HPP := Go.Lib.hid hpp
              have hN3 : N3 ≤ 8 * 823543 := by
                rw [HX.out.1, HY.out, List.length_append]
                have h1 := List.length_filter_le f ((List.range' bh j).map (fun p => b ++ [p]))
                simp at h1
                omega
              obtain ⟨gs, hg, hog, hin, hnd, hne⟩ := HX.out.2.1
              rw [List.length_map, ← HX.out.1] at hg hog hin
              have HG := Go.Lib.hid (And.intro hg (And.intro hog (And.intro hin hnd)))
              obtain ⟨wj, rfl⟩ : ∃ wj, wj = wr := ⟨_, rfl⟩
              have HA : Hid (Below wl.heap.size wl (wj.alloc (.cells #[.int .i64 (pp : Int)] 3)) ∧ (wj.alloc (.cells #[.int .i64 (pp : Int)] 3)).ownsRow W.heap.size 3 1 (.slice (some ⟨p1, 0, none⟩) l p2) l (nv b) ∧ Below wj.heap.size wj (wj.alloc (.cells #[.int .i64 (pp : Int)] 3))) := Go.Lib.hid ⟨HX.out.2.2.1.alloc HX.out.2.2.1.size _, HX.out.2.2.2.alloc _, (Below.refl _ _).alloc (Nat.le_refl _) _⟩
              have hbl : (nv b).length = l * 1 := by rw [nv_len, HOB.out.2.1, Nat.mul_one]
              have HBL := Go.Lib.hid hbl
              clear hpp hg hog hin hnd hne hbl
              go_wp2_with (at_builtin; refine wpList_append_grows _ rfl _ _ 24 rfl 3 i0 (.int .i64 0) 1 8 Try.underlying24 hi hz0 hz1 hz2 rfl (by decide) (some ⟨p1, 0, none⟩) l l (nv b) rfl (fun h => by cases h) HBL.out (fun b' e j u hu => by cases e; exact HA.out.2.1.cells (g := p1) rfl j u hu) ⟨wj.heap.size, 0, none⟩ 1 1 [.int .i64 (pp : Int)] rfl rfl (cell_one_new _ _ _) (fun x hx => by simp at hx; subst hx; rfl) (by omega) (by unfold maxLen; omega) (by omega) ?_; intro v' w3 hown3 hgrow3)
              obtain ⟨gu, cu, rfl⟩ := ownsRow_succ hown3
              rw [← nv_snoc] at hown3
              have hwjl := HX.out.2.2.1.size
              have hb3 : Below wj.heap.size wj w3 := HA.out.2.2.grown hgrow3 (by simp) (fun k hk => by cases hk)
              have hb3l : Below wl.heap.size wl w3 := HX.out.2.2.1.trans (hb3.mono hwjl)
              have hql : (b ++ [pp]).length = l + 1 := by rw [List.length_append, HOB.out.2.1]; rfl
              have hu3 := own_lower hown3 (base' := wj.heap.size) (by simp)
              have CF := Go.Lib.hid (HFH.out w3 (.slice (some ⟨gu, 0, none⟩) (l + 1) cu) (b ++ [pp]) (HL.out.2.2.trans (hb3l.mono HL.out.2.2.size)) (by omega) (by omega) (fun x hx => by
                rw [List.mem_append, List.mem_singleton] at hx
                rcases hx with hx | rfl
                · exact HOB.out.2.2.1 x hx
                · exact hppn) (by rw [hql]; exact Sees.owns hu3))
              have H3 := Go.Lib.hid (And.intro hu3 (And.intro hb3 hb3l))
              clear hown3 hgrow3 hb3 hb3l hu3 HA
              obtain ⟨r, hr⟩ : ∃ r, f (b ++ [pp]) = r := ⟨_, rfl⟩
              rw [hr] at CF
              have HR := Go.Lib.hid hr
              clear hr
              go_wp2_with fail
              rw [HCF.out, Oper.upon_enter]
              refine (CF.out).mono ?_
              rintro e w4 ⟨rfl, hd4⟩
              have hd4b := hd4.below w3.heap.size
              have HB4 := Go.Lib.hid (And.intro (H3.out.2.2.trans (hd4.below _)) (And.intro (kept_call H3.out.1 hd4b) (H3.out.2.1.trans (hd4.below _))))
              clear hd4 hd4b
              cases r with
              | true =>
                have hsz4 := HB4.out.1.size
                have hba : Below wl.heap.size wl (w4.alloc (.cells #[.slice (some ⟨gu, 0, none⟩) (l + 1) cu] 24)) := HB4.out.1.alloc hsz4 _
                have hbj : Below wj.heap.size wj (w4.alloc (.cells #[.slice (some ⟨gu, 0, none⟩) (l + 1) cu] 24)) := HB4.out.2.2.alloc (HB4.out.2.2.size) _
                have HX4 := Go.Lib.hid (And.intro (kept_call HG.out.2.1 hbj) (And.intro (fun i (hi : i < N3) => kept_call (HG.out.2.2.1 i hi) hbj) (And.intro (HB4.out.2.1.alloc (.cells #[.slice (some ⟨gu, 0, none⟩) (l + 1) cu] 24)) (And.intro hba (kept_call HX.out.2.2.2 hbj)))))
                clear hba hbj
                go_wp2_with (at_builtin; refine wpList_append_own _ rfl _ _ 49 rfl wl.heap.size 24 j0 (.slice none 0 0) 1 24 Try.underlying49 hj hy0 hy1 hy2 rfl (by decide) (.slice (some ⟨g3, 0, none⟩) N3 c3) N3 (gs.map (sl (l + 1))) rfl HX4.out.1 ⟨w4.heap.size, 0, none⟩ 1 1 [.slice (some ⟨gu, 0, none⟩) (l + 1) cu] rfl rfl (cell_one_new _ _ _) (fun x hx => by simp at hx; subst hx; rfl) (by unfold maxLen; omega) (by omega) (by simp; omega) ?_; intro v' w5 hown5 hgrow5 hnil5)
                obtain ⟨g5, c5, rfl⟩ := ownsRow_succ hown5
                have hL5 : Lists w5 wl.heap.size (l + 1) (.slice (some ⟨g5, 0, none⟩) (N3 + 1) c5) (Y.map nv ++ [nv (b ++ [pp])]) :=
                  lists_snoc (p := (gu, cu)) (by rw [List.length_map, ← HX.out.1]) HG.out.1 HX4.out.1 HX4.out.2.1 HG.out.2.2.2 (own_lower HX4.out.2.2.1 hwjl) (fun i hi => by
                    have h1 := own_block_lt (HG.out.2.2.1 i hi) (q := (gs.getD i (0, 0)).1) rfl
                    have h2 := own_block_lt H3.out.1 (q := gu) rfl
                    show (gs.getD i (0, 0)).1 ≠ gu
                    omega) hown5 hgrow5
                have hob5 := own_mark HX4.out.2.2.2.2 hgrow5 (fun a ha e => own_types HX4.out.1 HX4.out.2.2.2.2 (by decide) e ha)
                have hb5 : Below wl.heap.size wl w5 := HX4.out.2.2.2.1.grown hgrow5 (by simp; omega) (fun q hq => (HX4.out.1.lt q hq).1)
                have HY5 : Hid (Y ++ [b ++ [pp]] = Y0 ++ ((List.range' bh (j + 1)).map (fun p => b ++ [p])).filter f) := Go.Lib.hid (by
                  rw [part_next, HPP.out, HR.out, if_pos rfl, ← List.append_assoc, HY.out])
                have e6 : Y.map nv ++ [nv (b ++ [pp])] = (Y ++ [b ++ [pp]]).map nv := by simp
                rw [e6] at hL5
                have H5 : Hid (N3 + 1 = (Y ++ [b ++ [pp]]).length ∧ Lists w5 wl.heap.size (l + 1) (.slice (some ⟨g5, 0, none⟩) (N3 + 1) c5) ((Y ++ [b ++ [pp]]).map nv) ∧ Below wl.heap.size wl w5 ∧ w5.ownsRow W.heap.size 3 1 (.slice (some ⟨p1, 0, none⟩) l p2) l (nv b)) := Go.Lib.hid ⟨by rw [List.length_append, ← HX.out.1]; rfl, hL5, hb5, hob5⟩
                clear hown5 hgrow5 hnil5 hL5 hob5 hb5 e6 hsz4
                go_wp2
                go_roundw
                case rel => exact ⟨j + 1, g5, c5, N3 + 1, _, by omega, by rw [← Nat.add_assoc, HPP.out]; go_num, rfl, HY5, H5⟩
                case measure => simp [intOf]; have := HPP.out; omega
              | false =>
                have HY5 : Hid (Y = Y0 ++ ((List.range' bh (j + 1)).map (fun p => b ++ [p])).filter f) := Go.Lib.hid (by
                  rw [part_next, HPP.out, HR.out, if_neg (by simp), List.append_nil, HY.out])
                have H5 : Hid (N3 = Y.length ∧ Lists w4 wl.heap.size (l + 1) (.slice (some ⟨g3, 0, none⟩) N3 c3) (Y.map nv) ∧ Below wl.heap.size wl w4 ∧ w4.ownsRow W.heap.size 3 1 (.slice (some ⟨p1, 0, none⟩) l p2) l (nv b)) := Go.Lib.hid ⟨HX.out.1, HX.out.2.1.kept HB4.out.2.2, HB4.out.1, kept_call HX.out.2.2.2 HB4.out.2.2⟩
                go_wp2
                go_roundw
                case rel => exact ⟨j + 1, g3, c3, N3, _, by omega, by rw [← Nat.add_assoc, HPP.out]; go_num, rfl, HY5, H5⟩
                case measure => simp [intOf]; have := HPP.out; omega
            · have hjm2 : j = m := by omega
              obtain ⟨pp, hpp⟩ : ∃ pp, bh + j = pp := ⟨_, rfl⟩
              have hcond : ¬ (pp : Int) ≤ (n : Int) - (c : Int) + (l : Int) := by have := HM.out; omega
              rw [hpp]
              have HYN : Hid (Y = ((lev n c f l).take (i + 1)).flatMap (fun b => (nexts n (c - 1 - l) b).filter f)) := Go.Lib.hid (by
                obtain ⟨hil, hb⟩ := HOB.out.2.2.2
                rw [take_next_flat hil, hb, ← HY0.out, HY.out]
                congr 1
                unfold nexts
                rw [HBH.out, HM.out, hjm2])
              have H5 : Hid (N3 = Y.length ∧ Lists wr wl.heap.size (l + 1) (.slice (some ⟨g3, 0, none⟩) N3 c3) (Y.map nv) ∧ Below wl.heap.size wl wr) := Go.Lib.hid ⟨HX.out.1, HX.out.2.1, HX.out.2.2.1⟩
              clear hpp hjm2
              go_wp2
              go_roundw
              case rel => exact ⟨i + 1, g3, c3, N3, Y, by omega, by go_num, rfl, HYN, H5⟩
              case measure => simp [intOf]; omega
        · have hiN2 : i = N := by omega
          have HYN : Hid (Y0 = lev n c f (l + 1)) := Go.Lib.hid (by
            rw [HY0.out, List.take_of_length_le (by rw [← HL.out.1]; omega)]; rfl)
          have H5 : Hid (N2 = (lev n c f (l + 1)).length ∧ Lists wr W.heap.size (l + 1) (.slice (some ⟨g2, 0, none⟩) N2 c2) ((lev n c f (l + 1)).map nv) ∧ Below W.heap.size W wr) := Go.Lib.hid (by
            rw [← HYN.out]
            exact ⟨HX0.out.1, HX0.out.2.1.lower HL.out.2.2.size, HL.out.2.2.trans (HX0.out.2.2.mono HL.out.2.2.size)⟩)
          clear hiN2
          go_wp2
          go_roundw
          case rel => exact ⟨l + 1, g2, c2, N2, by omega, by go_num, rfl, H5⟩
          case measure => simp [intOf]; omega
    · have hlc : l = c := by omega
      subst hlc
      go_wp2
      go_ret
      exact ⟨_, rfl, HL.out.2.1, HL.out.2.2⟩

end Go.Proofs.Ytddenfnoajdjiaa.PlacesC

/-
  Contracts: the model's comparison of lists, its copies, its numbers at places. Conditions: lists of at most 1000 numbers.
-/
namespace Go.Proofs.Ytddenfnoajdjiaa.SameC
open Go.RowKit SeesC IntsC ExactC OrdMath InC OrderC PatMath ShapeC PlacesC Own1C AppendTwoC

theorem sees_heap {w w' : World} (h : w'.heap = w.heap) {v : Value} {n : Nat} {xs : List Value} (hs : Sees w v n xs) : Sees w' v n xs := by
  obtain ⟨h1, a, cap, rfl, h3, h2⟩ := hs
  refine ⟨h1, a, cap, rfl, h3, fun hn => ?_⟩
  obtain ⟨b, o, rfl, hc⟩ := h2 hn
  refine ⟨b, o, rfl, fun j u hu => ?_⟩
  have := hc j u hu
  unfold World.cell? at this ⊢
  rw [h]; exact this

theorem take_all_eq {xs ys : List Int} {n : Nat} (hx : xs.length = n) (hy : ys.length = n) (h : xs.take n = ys.take n) : xs = ys := by
  rwa [List.take_of_length_le (by omega), List.take_of_length_le (by omega)] at h

set_option maxRecDepth 100000 in
set_option maxHeartbeats 1000000 in
theorem l1Same_any (xs ys : List Int) (r : Bool) (W : World) (v : Value) (n : Nat) (hv : Sees W v n (vals xs)) (u : Value) (hu : Sees W u n (vals ys)) (hn : n ≤ 1048576) (hr : decide (xs = ys) = r) :
    Calls Try.prog 100 #[v, u] W fun e w' => e = .returned (.bool r) ∧ Drawn W w' := by
  have hlx : xs.length = n := by simpa using hv.1
  have hly : ys.length = n := by simpa using hu.1
  obtain ⟨_, a, cap, rfl, _, hc⟩ := hv
  obtain ⟨_, a2, cap2, rfl, _, hc2⟩ := hu
  have HA := Go.Lib.hid hc
  have HB := Go.Lib.hid hc2
  have HR := Go.Lib.hid hr
  clear hc hc2 hr
  go_enter Try.func100, Try.ntmps100
  go_wp2
  go_loopw [5] (fun i wr => ∃ k : Nat, k ≤ n ∧ i = .int .i64 k ∧ Hid (xs.take k = ys.take k) ∧ Drawn W wr) (fun i _ => n - (intOf i).toNat)
  case atStart => exact ⟨0, Nat.zero_le _, rfl, Go.Lib.hid rfl, Drawn.refl _⟩
  case round =>
    obtain ⟨k, hk, rfl, HC, HD⟩ := hrel
    by_cases hlt : k < n
    · obtain ⟨b, o, rfl, hcell⟩ := HA.out (by omega)
      obtain ⟨b2, o2, rfl, hcell2⟩ := HB.out (by omega)
      have hck : wr.cell? ⟨b, o + k, none⟩ = some (.int .i64 (xs.getD k 0)) := (HD.cell _).trans (hcell k _ (by simp [show k < xs.length by omega]))
      have hck2 : wr.cell? ⟨b2, o2 + k, none⟩ = some (.int .i64 (ys.getD k 0)) := (HD.cell _).trans (hcell2 k _ (by simp [show k < ys.length by omega]))
      obtain ⟨x, hx⟩ : ∃ x, xs.getD k 0 = x := ⟨_, rfl⟩
      obtain ⟨y, hy⟩ : ∃ y, ys.getD k 0 = y := ⟨_, rfl⟩
      rw [hx] at hck
      rw [hy] at hck2
      have hlti : (k : Int) < (n : Int) := by omega
      have ex : xs[k]'(by omega) = x := by rw [← hx]; simp [show k < xs.length by omega]
      have ey : ys[k]'(by omega) = y := by rw [← hy]; simp [show k < ys.length by omega]
      by_cases he : x = y
      · subst he
        have HR2 : Hid (xs.take (k + 1) = ys.take (k + 1)) := Go.Lib.hid (by
          rw [List.take_succ_eq_append_getElem (by omega), List.take_succ_eq_append_getElem (by omega), HC.out, ex, ey])
        clear hx hy ex ey hcell hcell2
        go_wp2
        go_quiet (fail)
        go_wp2
        go_roundw
        case rel => exact ⟨k + 1, by omega, by go_num, HR2, HD.next _⟩
        case measure => simp [intOf]; omega
      · have hbne : (x == y) = false := by rw [beq_eq_false_iff_ne]; exact he
        have hbne2 : (x != y) = true := by simp [bne, hbne]
        have HR2 : Hid (r = false) := Go.Lib.hid (by
          rw [← HR.out, decide_eq_false_iff_not]
          intro e
          subst e
          exact he (ex.symm.trans ey))
        clear hx hy ex ey hcell hcell2
        go_wp2
        go_quiet (fail)
        go_wp2
        go_ret
        exact ⟨by rw [HR2.out]; rfl, HD.next _⟩
    · have HR2 : Hid (r = true) := Go.Lib.hid (by
        rw [← HR.out, decide_eq_true_iff]
        have h1 := HC.out
        rw [show k = n by omega] at h1
        exact take_all_eq hlx hly h1)
      go_wp2
      go_ret
      exact ⟨by rw [HR2.out]; rfl, HD⟩

theorem l1Own_at (xs : List Int) (g l cp : Nat) (w X : World) (hl7 : l ≤ 1000) (hs : Sees w (.slice (some ⟨g, 0, none⟩) l cp) l (vals xs)) (hX : Below w.heap.size w X) :
    Calls Try.prog 99 #[.slice (some ⟨g, 0, none⟩) l cp] X fun e w' => ∃ g3 c3, e = .returned (.slice (some ⟨g3, 0, none⟩) l c3) ∧ w'.ownsRow w.heap.size 3 1 (.slice (some ⟨g3, 0, none⟩) l c3) l (vals xs) ∧ Below w.heap.size w w' := by
  have hx := hs.grow hX
  have hl : xs.length = l := by simpa using hx.1
  refine (l1Own_any xs g 0 l cp X hl (by omega) (fun j hj => ?_)).mono ?_
  · obtain ⟨_, a, cap, e, _, hc⟩ := hx
    cases e
    obtain ⟨b, o, e, hcell⟩ := hc (by omega)
    cases e
    exact hcell j _ (by simp [hj])
  · rintro e w' ⟨g3, c3, rfl, ho, hb⟩
    exact ⟨g3, c3, rfl, own_lower ho hX.size, hX.trans (hb.mono hX.size)⟩

theorem pick_take_next {zs : List Int} {q : List Nat} {i p : Nat} (hi : i < q.length) (hp : q.getD i 0 = p) : (vals ((pick zs q).take (i + 1))) = vals ((pick zs q).take i) ++ [.int .i64 (zs.getD p 0)] :=
  take_next (by rw [pick_len]; exact hi) (by rw [pick_at hi, hp])

variable {P : Program} (w : World)

theorem wpList_append_two {ops : Array Oper} {rest : List Oper} {o : Oper} {a : Act} {Q : Exit → Act → World → Prop}
    (hg : o.guard = none) (s x : Operand) (t : TypeId) (hop : o.op = Op.call { callee := Callee.builtin Builtin.append, args := #[s, x], argTypes := #[t, t] })
    (base : Nat) (e : TypeId) (i : TypeInfo) (z : Value) (size bytes : Nat) (h1 : P.underlying t = some (.slice e)) (h2 : P.info? e = some i) (h3 : i.zero = some z) (h4 : i.size = size) (h5 : i.bytes = bytes) (h6 : z.cells.size = size) (h7 : 0 < size)
    (v : Value) (k : Nat) (xs : List Value) (hs : a.eval s = v) (hown : w.ownsRow base e size v k xs) (ad : Addr) (m c : Nat) (news : List Value) (hx : a.eval x = .slice (some ad) m c) (hn : news.length = m * size)
    (hc : ∀ j u, news[j]? = some u → w.cell? (ad.add j) = some u) (h1c : ∀ u ∈ news, u.oneCell' = true) (b1 : k + m ≤ maxLen) (b2 : (k + m) * bytes ≤ 140737488355328) (b3 : base ≤ w.heap.size)
    (hK : ∀ v' w', w'.ownsRow base e size v' (k + m) (xs ++ news) → w.grownBy w' v.ownBlock → NewRow w v v' → wpList P ops Q rest (a.put o.dst v') w') :
    wpList P ops Q (o :: rest) a w := by
  refine wpList_plain hg fun K hK' => ?_
  obtain ⟨v', w', hrun, r1, r2, r3⟩ := run_append_two (P := P) w base t o.type e i z size bytes h1 h2 h3 h4 h5 h6 h7 v k xs hown ad m c news hn hc h1c b1 b2 b3
  unfold Oper.wp
  simp [execOp, hop, resolve, invoke, builtin, hs, hx, hrun, Result.andThen]
  exact hK' _ _ (hK v' w' r1 r2 r3)

end Go.Proofs.Ytddenfnoajdjiaa.SameC

/-
  Contract: the model lists the orders that are swept to one. Conditions: lists of at most 2^20 numbers.
-/
namespace Go.Proofs.Ytddenfnoajdjiaa.SwfSpC
open Go.RowKit SeesC IntsC ExactC OrdMath OrdFacts OrderC ListsC ListsEC ListsFC ListsGC WithC AllO SwfM SweepM SweepWC SameC OrdsSpC IterC AtC

/-- The orders are returned, in memory of the call's own. -/
def SwfTo (w : World) (zs : List Int) (e : Ending) (w' : World) : Prop :=
  ∃ v R, e = .returned (.tuple #[v, .bool (isOrd zs)]) ∧ Swf zs R ∧ Lists w' w.heap.size zs.length v (R.map vals) ∧ Below w.heap.size w w'

theorem lists_zero {w : World} {base n : Nat} {v : Value} (h : w.ownsRow base 24 1 v 0 []) : Lists w base n v [] :=
  ⟨[], rfl, h, fun i hi => absurd hi (by simp), by simp, fun p hp => by simp at hp⟩

set_option maxRecDepth 100000 in
set_option maxHeartbeats 4000000 in
theorem specSwf (zs : List Int) (hz : zs.length ≤ 1048576) (W : World) (v : Value) (n : Nat) (hv : Sees W v n (vals zs)) :
    Calls Try.prog 54 #[v] W fun e w' => SwfTo W zs e w' := by
  obtain ⟨j0, hj, hy0, hy1, hy2⟩ := info_parts infoL
  have hl : zs.length = n := by simpa using hv.1
  have hn : n ≤ 1048576 := by omega
  obtain ⟨r, hr⟩ : ∃ r, isOrd zs = r := ⟨_, rfl⟩
  have CO := Go.Lib.hid (fun W' (hs' : Sees W' v n (vals zs)) => l2Order_any W' v n zs r hs' hn hr)
  have HV := Go.Lib.hid hv
  have HR := Go.Lib.hid hr
  have hB0 : Below W.heap.size W (W.alloc (.cells #[] 24)) := (Below.refl _ _).alloc (Nat.le_refl _) _
  have hO0 : (W.alloc (.cells #[] 24)).ownsRow W.heap.size 24 1 (.slice (some ⟨W.heap.size, 0, none⟩) 0 0) 0 [] := World.ownsRow_made (base := W.heap.size) (e := 24) (size := 1) W #[] 0 (Nat.le_refl _) (by unfold maxLen; omega) rfl
  have HB0 := Go.Lib.hid (And.intro hB0 hO0)
  obtain ⟨_, ad, cap, rfl, _, _⟩ := hv
  clear hr hB0 hO0
  cases r with
  | false =>
    have hno : ¬ Ord zs := of_decide_eq_false HR.out
    go_enter Try.func54, Try.ntmps54
    go_wp2_with fail
    refine (CO.out _ (HV.out.grow HB0.out.1)).mono ?_
    rintro e w1 ⟨rfl, hd⟩
    have H1 := Go.Lib.hid (And.intro (HB0.out.1.trans (hd.below _)) (kept_call HB0.out.2 (hd.below _)))
    clear hd
    go_wp2_with fail
    go_ret2
    exact ⟨_, [], by rw [HR.out]; rfl, by unfold Swf; rw [if_neg hno], lists_zero H1.out.2, H1.out.1⟩
  | true =>
    have hord : Ord zs := of_decide_eq_true HR.out
    have hn7 : n ≤ 7 := by have := hord.2.1; omega
    have hn1 : 1 ≤ n := by have := hord.1; omega
    have CA := Go.Lib.hid (fun W' => l2Orders_any n hn1 hn7 W')
    obtain ⟨N, hN⟩ : ∃ N, (allO n).length = N := ⟨_, rfl⟩
    have hN1 : 1 ≤ N := by rw [← hN, allO_len]; exact fact_pos n
    have hN2 : N ≤ 5040 := by rw [← hN, allO_len]; exact fact_7 hn7
    have HN := Go.Lib.hid hN
    have HOR := Go.Lib.hid (fun x (hx : x ∈ allO n) => (mem_allO hn1 hn7).1 hx)
    have HL := Go.Lib.hid hl
    clear hN
    go_enter Try.func54, Try.ntmps54
    go_wp2_with fail
    refine (CO.out _ (HV.out.grow HB0.out.1)).mono ?_
    rintro e w1 ⟨rfl, hd⟩
    have H1 := Go.Lib.hid (And.intro (HB0.out.1.trans (hd.below _)) (And.intro (kept_call HB0.out.2 (hd.below _)) (hd.below (W.alloc (.cells #[] 24)).heap.size).size))
    clear hd CO
    go_wp2_with fail
    refine (CA.out _).mono ?_
    rintro e w2 ⟨va, rfl, hL, hb⟩
    obtain ⟨gs, hW2⟩ := Lists.with hL
    have hoa := hW2.2.1
    rw [List.length_map, HN.out] at hoa
    obtain ⟨g1, c1, rfl⟩ := own_pos hoa (by omega)
    have hsz1 : W.heap.size + 1 ≤ w1.heap.size := by have := H1.out.2.2; simpa using this
    have hg1 := own_block_lt hoa (q := g1) rfl
    have H2 := Go.Lib.hid (And.intro (kept_call H1.out.2.1 hb) (And.intro hW2 (And.intro (H1.out.1.trans (hb.mono H1.out.1.size)) (And.intro hsz1 hg1))))
    clear hL hb hW2 hoa CA hsz1 hg1
    go_wp2_with fail
    go_loopw [4, 6] (fun ov iv wr => ∃ (i g2 c2 N2 : Nat) (Y : List (List Int)) (hs : List (Nat × Nat)), i ≤ N ∧ iv = .int .i64 i ∧ ov = .slice (some ⟨g2, 0, none⟩) N2 c2 ∧ Hid (Y = ((allO n).take i).filter (fun y => decide (sweepL y = zs))) ∧
      Hid (N2 = Y.length ∧ With wr W.heap.size n (.slice (some ⟨g2, 0, none⟩) N2 c2) (Y.map vals) hs ∧ With wr w1.heap.size n (.slice (some ⟨g1, 0, none⟩) N c1) ((allO n).map vals) gs ∧ Below W.heap.size W wr ∧ g2 ≠ g1 ∧ (∀ r ∈ hs, ∃ k, k < i ∧ gs.getD k (0, 0) = r))) (fun _ i _ => N - (intOf i).toNat)
    case atStart => exact ⟨0, W.heap.size, 0, 0, [], [], Nat.zero_le _, rfl, rfl, Go.Lib.hid (by simp), Go.Lib.hid ⟨rfl, ⟨rfl, H2.out.1, fun i hi => absurd hi (by simp), by simp⟩, H2.out.2.1, H2.out.2.2.1, by have h1 := H2.out.2.2.2.1; have h2 := H2.out.2.2.2.2.1; omega, fun r hr => by simp at hr⟩⟩
    case round =>
      obtain ⟨i, g2, c2, N2, Y, hs, hiN, rfl, rfl, HY, HX⟩ := hrel
      clear HB0
      by_cases hlt : i < N
      · obtain ⟨wj, rfl⟩ : ∃ wj, wj = wr := ⟨_, rfl⟩
        have hil : i < (allO n).length := by rw [HN.out]; exact hlt
        obtain ⟨q, hq⟩ : ∃ q, (allO n)[i] = q := ⟨_, rfl⟩
        have hqo := HOR.out q (by rw [← hq]; exact List.getElem_mem _)
        obtain ⟨p, hpp⟩ : ∃ p, gs.getD i (0, 0) = p := ⟨_, rfl⟩
        have hmapl : ((allO n).map vals).length = N := by rw [List.length_map, HN.out]
        have hW := HX.out.2.2.1
        have hgl : gs.length = N := by rw [hW.1, hmapl]
        have hog := hW.2.1
        rw [hmapl] at hog
        have hob := hW.2.2.1 i (by rw [hmapl]; exact hlt)
        have hgd : ((allO n).map vals).getD i [] = vals q := by rw [← hq]; simp [hil]
        rw [hpp, hgd] at hob
        have hck : wj.cell? ⟨g1, i, none⟩ = some (.slice (some ⟨p.1, 0, none⟩) n p.2) := by
          rw [hog.cellAt i (by omega), ← hpp]
          simp [show i < gs.length by omega, sl]
        obtain ⟨p1, p2⟩ := p
        unfold sl at hob
        simp only at hob hck
        obtain ⟨kp, hkp⟩ : ∃ kp, decide (sweepL q = zs) = kp := ⟨_, rfl⟩
        have CS := Go.Lib.hid (l4Sweep_any q hqo.1 wj (.slice (some ⟨p1, 0, none⟩) n p2) n (Sees.owns hob))
        have HE := Go.Lib.hid (And.intro (Exists.intro hil hq : ∃ h : i < (allO n).length, (allO n)[i] = q) (And.intro hpp (And.intro hgl (And.intro hob (And.intro hkp hqo.2)))))
        have hlti : (i : Int) < (N : Int) := by omega
        clear hq hqo hpp hW hgl hog hob hgd hkp hil
        go_wp2_with fail
        refine (CS.out).mono ?_
        rintro e w3 ⟨u3, rfl, ho3, hb3⟩
        rw [sweep_len, HE.out.2.2.2.2.2] at ho3
        have CSa := Go.Lib.hid (l1Same_any (sweepL q) zs kp w3 u3 n (Sees.owns ho3) _ ((HV.out.grow HX.out.2.2.2.1).grow hb3) (by omega) HE.out.2.2.2.2.1)
        have H3 := Go.Lib.hid hb3
        clear ho3 hb3 CS
        go_wp2_with fail
        refine (CSa.out).mono ?_
        rintro e w4 ⟨rfl, hd5⟩
        have hb5 := H3.out.trans (hd5.below wj.heap.size)
        have hck4 : w4.cell? ⟨g1, i, none⟩ = some (.slice (some ⟨p1, 0, none⟩) n p2) := (hb5.cell (p := ⟨g1, i, none⟩) (World.block_lt_of_cell? wj _ hck)).trans hck
        have H5 := Go.Lib.hid hb5
        clear hd5 hb5 CSa hck
        cases kp with
        | false =>
          have HYN : Hid (Y = ((allO n).take (i + 1)).filter (fun y => decide (sweepL y = zs))) := Go.Lib.hid (by
            obtain ⟨⟨hil, hq⟩, _, _, _, hkp, _⟩ := HE.out
            rw [filter_next _ hil, hq, hkp, HY.out]; simp)
          have H6 : Hid (N2 = Y.length ∧ With w4 W.heap.size n (.slice (some ⟨g2, 0, none⟩) N2 c2) (Y.map vals) hs ∧ With w4 w1.heap.size n (.slice (some ⟨g1, 0, none⟩) N c1) ((allO n).map vals) gs ∧ Below W.heap.size W w4 ∧ g2 ≠ g1 ∧ (∀ r ∈ hs, ∃ k, k < i + 1 ∧ gs.getD k (0, 0) = r)) :=
            Go.Lib.hid ⟨HX.out.1, HX.out.2.1.kept H5.out, HX.out.2.2.1.kept H5.out, HX.out.2.2.2.1.trans (H5.out.mono HX.out.2.2.2.1.size), HX.out.2.2.2.2.1, fun r hr => by obtain ⟨k, hk, e⟩ := HX.out.2.2.2.2.2 r hr; exact ⟨k, by omega, e⟩⟩
          clear hck4
          go_wp2
          go_roundw
          case rel => exact ⟨i + 1, g2, c2, N2, Y, hs, by omega, by go_num, rfl, HYN, H6⟩
          case measure => simp [intOf]; omega
        | true =>
          have hWo := HX.out.2.1.kept H5.out
          have hWa := HX.out.2.2.1.kept H5.out
          have hYl : (Y.map vals).length = N2 := by rw [List.length_map, ← HX.out.1]
          have hbW := HX.out.2.2.2.1.trans (H5.out.mono HX.out.2.2.2.1.size)
          have ho6 := hWo.2.1
          rw [hYl] at ho6
          have hN2b : N2 ≤ 5040 := by
            rw [HX.out.1, HY.out]
            have h1 := List.length_filter_le (fun y => decide (sweepL y = zs)) ((allO n).take i)
            rw [List.length_take] at h1
            have := HN.out
            omega
          have hba : Below w4.heap.size w4 (w4.alloc (.cells #[.slice (some ⟨p1, 0, none⟩) n p2] 24)) := (Below.refl _ _).alloc (Nat.le_refl _) _
          have HA := Go.Lib.hid (And.intro (kept_call ho6 hba) (And.intro (hWo.kept hba) (And.intro (hWa.kept hba) (And.intro (hbW.alloc hbW.size (.cells #[.slice (some ⟨p1, 0, none⟩) n p2] 24)) (And.intro hYl (own_block_lt (n := N) (by have := hWa.2.1; rw [List.length_map, HN.out] at this; exact this) (q := g1) rfl).2)))))
          have hsz6 := HA.out.2.2.2.1.size
          clear hWo hWa hYl hbW ho6 hba
          go_wp2_with (at_builtin; refine wpList_append_two _ rfl _ _ 49 rfl W.heap.size 24 j0 (.slice none 0 0) 1 24 Try.underlying49 hj hy0 hy1 hy2 rfl (by decide) _ _ _ rfl HA.out.1 ⟨w4.heap.size, 0, none⟩ 1 1 [.slice (some ⟨p1, 0, none⟩) n p2] rfl rfl (cell_one_new _ _ _) (fun x hx => by simp at hx; subst hx; rfl) (by unfold maxLen; omega) (by omega) (by simpa using hsz6) ?_; intro v' w6 hown6 hgrow6 hnew6)
          obtain ⟨g6, c6, rfl⟩ := ownsRow_succ hown6
          have hob6 : (w4.alloc (.cells #[.slice (some ⟨p1, 0, none⟩) n p2] 24)).ownsRow W.heap.size 3 1 (sl n (p1, p2)) n (vals q) := own_lower (kept_call (kept_call HE.out.2.2.2.1 H5.out) ((Below.refl _ _).alloc (Nat.le_refl _) _)) (by have := H2.out.2.2.2.1; omega)
          have hfr : ∀ r ∈ hs, r.1 ≠ (p1, p2).1 := fun r hr e => by
            obtain ⟨k, hk, ek⟩ := HX.out.2.2.2.2.2 r hr
            have h1 := nodup_ne HX.out.2.2.1.2.2.2 (i := k) (j := i) (by rw [HE.out.2.2.1]; omega) (by rw [HE.out.2.2.1]; exact hlt) (by omega)
            rw [ek, HE.out.2.1] at h1
            exact h1 e
          have hW6 : With w6 W.heap.size n (.slice (some ⟨g6, 0, none⟩) (N2 + 1) c6) ((Y ++ [q]).map vals) (hs ++ [(p1, p2)]) := by
            rw [List.map_append]
            exact with_snoc HA.out.2.1 hob6 hfr (by rw [HA.out.2.2.2.2.1]; exact hown6) hgrow6
          have hg61 : g6 ≠ g1 := by
            rcases hnew6 with h | h
            · have : g6 = g2 := Option.some.inj h
              rw [this]; exact HX.out.2.2.2.2.1
            · have h1 := h g6 rfl
              have h2 := HA.out.2.2.2.2.2
              simp at h1
              omega
          have hA6 := with_mark HA.out.2.2.1 hgrow6 (fun a ha e => by
            have h1 : g2 = a := Option.some.inj ha
            have h2 : g1 = a := Option.some.inj e
            exact HX.out.2.2.2.2.1 (h1.trans h2.symm)) (fun a ha k hk e => own_types HA.out.1 (HA.out.2.2.1.2.2.1 k hk) (by decide) ha (by show some (gs.getD k (0, 0)).1 = some a; rw [e]))
          have hb6 := HA.out.2.2.2.1.grown hgrow6 hsz6 (fun k hk => (HA.out.1.lt k hk).1)
          have HYN : Hid (Y ++ [q] = ((allO n).take (i + 1)).filter (fun y => decide (sweepL y = zs))) := Go.Lib.hid (by
            obtain ⟨⟨hil, hq⟩, _, _, _, hkp, _⟩ := HE.out
            rw [filter_next _ hil, hq, hkp, HY.out]; simp)
          have H6 : Hid (N2 + 1 = (Y ++ [q]).length ∧ With w6 W.heap.size n (.slice (some ⟨g6, 0, none⟩) (N2 + 1) c6) ((Y ++ [q]).map vals) (hs ++ [(p1, p2)]) ∧ With w6 w1.heap.size n (.slice (some ⟨g1, 0, none⟩) N c1) ((allO n).map vals) gs ∧ Below W.heap.size W w6 ∧ g6 ≠ g1 ∧ (∀ r ∈ hs ++ [(p1, p2)], ∃ k, k < i + 1 ∧ gs.getD k (0, 0) = r)) :=
            Go.Lib.hid ⟨by rw [List.length_append, ← HX.out.1]; rfl, hW6, hA6, hb6, hg61, fun r hr => by
              rw [List.mem_append, List.mem_singleton] at hr
              rcases hr with hr | rfl
              · obtain ⟨k, hk, e⟩ := HX.out.2.2.2.2.2 r hr; exact ⟨k, by omega, e⟩
              · exact ⟨i, by omega, HE.out.2.1⟩⟩
          clear hown6 hgrow6 hnew6 hob6 hfr hW6 hg61 hA6 hb6 hsz6 hck4
          go_wp2
          go_roundw
          case rel => exact ⟨i + 1, g6, c6, N2 + 1, Y ++ [q], hs ++ [(p1, p2)], by omega, by go_num, rfl, HYN, H6⟩
          case measure => simp [intOf]; omega
      · have hiN2 : i = N := by omega
        have HF : Hid (Swf zs Y ∧ Lists wr W.heap.size zs.length (.slice (some ⟨g2, 0, none⟩) N2 c2) (Y.map vals)) := Go.Lib.hid ⟨by
          rw [HY.out, List.take_of_length_le (by rw [HN.out]; omega)]
          have h1 := swf_spec hord
          rw [HL.out] at h1
          exact h1, by rw [HL.out]; exact HX.out.2.1.lists⟩
        have hlti : ¬ (i : Int) < (N : Int) := by omega
        clear hiN2
        go_wp2
        go_ret2
        exact ⟨_, Y, by rw [HR.out]; rfl, HF.out.1, HF.out.2, HX.out.2.2.2.1⟩

end Go.Proofs.Ytddenfnoajdjiaa.SwfSpC

/-
  The kit's contract of slices.SortFunc, laid by the kit's own command at this translation.
-/
namespace Go.Proofs
open Go.Shelf Go.RowKit Go.Lib Go.Sort
shelf_lay_g SlLaysF.n6 Slsf 6 at Try 122 as Try.sortLL
end Go.Proofs

/-
  What a row of any elements of one cell owns behind a sort, and the sort of lists of lists by slices.Compare. Conditions: at most 2^20 lists of one length.
-/
namespace Go.Proofs.Ytddenfnoajdjiaa.SortRowC
open Go.Shelf Go.RowKit Go.Lib Go.Sort
open SeesC IntsC ExactC CmpC ListsC ListsBC OutsMath

theorem row_behind {α : Type} [Inhabited α] {enc : α → Value} {w : World} {base g cap m : Nat} {e : TypeId} {os : Array Obj} {d : Array α} {xs : List Value}
    (h : w.ownsRow base e 1 (.slice (some ⟨g, 0, none⟩) d.size cap) d.size xs) : (sortWorld enc w g 0 m d os).ownsRow base e 1 (.slice (some ⟨g, 0, none⟩) d.size cap) d.size (d.toList.map enc) := by
  rcases h.2 with ⟨h0, _⟩ | ⟨g', cap', cur, h0, hbase, hb, h1, h2, h3, h4⟩
  · cases h0
  · cases h0
    refine ⟨by simp, .inr ⟨g, cap, putCells enc 0 d cur, rfl, hbase, ?_, h1, h2, by simp [putCells, h3], ?_⟩⟩
    · have hg : g < w.heap.size := (Array.getElem?_eq_some_iff.1 hb).1
      unfold sortWorld
      rw [heap_grow_old _ _ (by simpa using hg)]
      simp [putRow, mapBlock, Sort.ahead, Array.getElem?_modify, hb, onCells]
    · rw [Nat.mul_one]
      apply List.ext_getElem?
      intro j
      by_cases hj : j < d.size
      · rw [List.getElem?_take_of_lt hj, Array.getElem?_toList]
        simp [putCells, hj, show j < cur.size by omega]
      · rw [List.getElem?_take_eq_none (by omega), List.getElem?_eq_none (by simp; omega)]

theorem grown_behind {α : Type} [Inhabited α] {enc : α → Value} {w : World} {g m : Nat} {os : Array Obj} (d : Array α) : w.grownBy (sortWorld enc w g 0 m d os) (some g) := by
  unfold sortWorld
  refine ⟨rfl, rfl, rfl, by simp, fun k hk hne => ?_⟩
  rw [heap_grow_old _ _ (by simpa using hk)]
  have : g ≠ k := fun e => hne (by rw [e])
  simp [putRow, mapBlock, Sort.ahead, Array.getElem?_modify, this]

theorem holds_row {α : Type} [Inhabited α] {enc : α → Value} {w : World} {base g cap : Nat} {e : TypeId} {d : Array α}
    (h : w.ownsRow base e 1 (.slice (some ⟨g, 0, none⟩) d.size cap) d.size (d.toList.map enc)) : Holds enc w g 0 d := by
  intro j hj
  refine ⟨?_, ?_⟩
  · rw [Nat.zero_add, h.cellAt j (by omega)]
    simp [hj]
  · exact h.frozenAt (0 + j)

end Go.Proofs.Ytddenfnoajdjiaa.SortRowC

/-
  Contract: slices.SortFunc with slices.Compare sorts lists of one length that are told apart. Conditions: 1 to 100000 lists.
-/
namespace Go.Proofs.Ytddenfnoajdjiaa.SortAnyC
open Go.Shelf Go.RowKit Go.Lib Go.Sort
open SeesC IntsC ExactC CmpC ListsC ListsBC OutsMath SortRowC

theorem fin_map {β : Type} (A : List β) (x : β) {N : Nat} (h : A.length = N) : ((List.finRange N).map (fun i => A.getD i.val x)) = A := by
  apply List.ext_getElem
  · simp [h]
  · intro i h1 h2; simp [h2]

theorem swo_lists {N : Nat} (L : List (List Int)) : SWO (ltOf (fun (i j : Fin N) => cmpL (L.getD i.val []) (L.getD j.val []))) where
  irrefl x := by simp [ltOf, cmpL_same]
  trans x y z h1 h2 := by
    simp only [ltOf, decide_eq_true_eq] at *
    exact cmpL_lt_trans _ _ _ h1 h2
  ntrans x y z h1 h2 := by
    simp only [ltOf, decide_eq_false_iff_not] at *
    intro h3
    generalize L.getD x.val [] = a at *
    generalize L.getD y.val [] = b at *
    generalize L.getD z.val [] = c at *
    have e1 := cmpL_neg a b
    have e2 := cmpL_neg b c
    by_cases h4 : cmpL a b = 0
    · have := cmpL_eq a b h4; subst this; exact h2 h3
    · have h5 : cmpL b a < 0 := by omega
      exact h2 (cmpL_lt_trans b a c h5 h3)

theorem sees_behind {w w' : World} {g n : Nat} {v : Value} {xs : List Value} (h : Sees w v n xs) (hg : w.grownBy w' (some g)) (hne : v.ownBlock ≠ some g) : Sees w' v n xs :=
  sees_mark h hg (fun _ a ha e => hne (by rw [ha]; exact e.symm))

set_option maxHeartbeats 2000000 in
theorem sortLists_any (base n g c : Nat) (L : List (List Int)) (w : World) (hv : Lists w base n (.slice (some ⟨g, 0, none⟩) L.length c) (L.map vals)) (hn1 : 1 ≤ n) (hn : n ≤ 100) (hlen : ∀ x ∈ L, x.length = n) (hnd : L.Nodup) (hN : 1 ≤ L.length) (hN2 : L.length ≤ 100000) :
    Calls Try.prog 122 #[.slice (some ⟨g, 0, none⟩) L.length c, .func (.func 107) #[] #[]] w fun e w' => e = .returned (.tuple #[]) ∧ ∃ R, Sorted R ∧ R.Perm L ∧ Lists w' base n (.slice (some ⟨g, 0, none⟩) L.length c) (R.map vals) ∧ w.grownBy w' (some g) := by
  obtain ⟨gs, hg, ho, hin, hgd, hne⟩ := hv
  obtain ⟨N, hLN⟩ : ∃ N, L.length = N := ⟨_, rfl⟩
  have e0 : (L.map vals).length = N := by simp [hLN]
  rw [e0] at hg ho hin
  rw [hLN] at ho hne hN hN2 ⊢
  let enc : Fin N → Value := fun i => sl n (gs.getD i.val (0, 0))
  let cf : Fin N → Fin N → Int := fun i j => cmpL (L.getD i.val []) (L.getD j.val [])
  haveI : Inhabited (Fin N) := ⟨⟨0, hN⟩⟩
  obtain ⟨d, hdl⟩ : ∃ d : Array (Fin N), d = (List.finRange N).toArray := ⟨_, rfl⟩
  have hds : d.size = N := by rw [hdl]; simp
  have hdg : d.toList.map (fun i => gs.getD i.val (0, 0)) = gs := by rw [hdl]; exact fin_map gs (0, 0) hg
  have hdL : d.toList.map (fun i => L.getD i.val []) = L := by rw [hdl]; exact fin_map L [] hLN
  have hde : d.toList.map enc = gs.map (sl n) := by conv => rhs; rw [← hdg]
                                                    rw [List.map_map]; rfl
  have hdn : d.toList.Nodup := by rw [hdl]; exact List.nodup_finRange N
  have eg : ∀ args w, (callFunc 107 args).run Try.prog w = .ok (.enter 107 args) w := enters_of Try.func107 (by kernel_rfl) rfl
  have hod : w.ownsRow base 24 1 (.slice (some ⟨g, 0, none⟩) d.size c) d.size (d.toList.map enc) := by rw [hds, hde]; exact ho
  have hH : Holds enc w g 0 d := holds_row hod
  have hblk : g < w.heap.size := (own_block_lt ho (q := g) rfl).2
  have hblk2 : ∀ i : Fin N, (enc i).ownBlock ≠ some g := fun i e => by
    have h1 := hne (gs.getD i.val (0, 0)) (mem_getD (by rw [hg]; exact i.isLt))
    apply h1
    have e2 : some (gs.getD i.val (0, 0)).1 = some g := e
    rw [e2]; rfl
  have hsee : ∀ i : Fin N, Sees w (enc i) n (vals (L.getD i.val [])) := fun i => by
    have h1 := Sees.owns (hin i.val i.isLt)
    have e1 : (L.map vals).getD i.val [] = vals (L.getD i.val []) := by simp [show i.val < L.length by rw [hLN]; exact i.isLt]
    rw [e1] at h1; exact h1
  have hll : ∀ i : Fin N, (L.getD i.val []).length = n := fun i => hlen _ (by simp [show i.val < L.length by rw [hLN]; exact i.isLt])
  have hcmp : CmpReads Try.prog 107 #[] enc cf g 0 d.size w := fun m os dk hs x y =>
    compare_any (L.getD x.val []) (L.getD y.val []) ((hll x).trans (hll y).symm) _ (enc x) n (sees_behind (hsee x) (grown_behind dk) (hblk2 x)) (enc y) (sees_behind (hsee y) (grown_behind dk) (hblk2 y)) hn1 (by omega) _ rfl
  have hcon := Any.slices_SortFunc Try.sortLL enc (fun _ => rfl) cf (swo_lists L) 107 #[] g 0 c d w eg hcmp.lays hH hblk (by omega)
  change Calls Try.prog 122 _ _ _ at hcon
  rw [hds] at hcon
  refine hcon.mono ?_
  rintro e w' ⟨rfl, d', m, os, hp, hs, rfl⟩
  have hd's : d'.size = N := hp.1.trans hds
  have hperm : d'.toList.Perm d.toList := by
    have h1 := hp.2.2
    have all : ∀ x : Array (Fin N), x.size = N → (x.extract 0 N).toList = x.toList := fun x hx => by
      have h2 := Array.extract_size (xs := x)
      first
        | (rw [Array.extract_eq_self_of_le (by omega)])
        | (simp [List.extract, ← hx])
        | (simp [hx, List.take_of_length_le])
    rw [all d hds, all d' hd's] at h1
    exact h1
  refine ⟨rfl, d'.toList.map (fun i => L.getD i.val []), ?_, ?_, ?_, grown_behind d'⟩
  · unfold Sorted
    rw [List.pairwise_map, List.pairwise_iff_getElem]
    intro i j hi hj hij
    have hi2 : i < d'.size := by simpa using hi
    have hj2 : j < d'.size := by simpa using hj
    have h1 := hs i j (Nat.zero_le _) hij (by omega)
    rw [getElem!_pos d' i hi2, getElem!_pos d' j hj2] at h1
    simp only [ltOf, decide_eq_false_iff_not] at h1
    have h2 : ¬ cmpL (L.getD (d'[j]).val []) (L.getD (d'[i]).val []) < 0 := h1
    have h3 := cmpL_neg (L.getD (d'[i]).val []) (L.getD (d'[j]).val [])
    have h4 : cmpL (L.getD (d'[i]).val []) (L.getD (d'[j]).val []) ≠ 0 := fun e => by
      have e2 := cmpL_eq _ _ e
      have b1 : (d'[i]).val < L.length := by rw [hLN]; exact (d'[i]).isLt
      have b2 : (d'[j]).val < L.length := by rw [hLN]; exact (d'[j]).isLt
      have e3 : L[(d'[i]).val] = L[(d'[j]).val] := by simpa [b1, b2] using e2
      have e4 := (List.getElem_inj hnd).1 e3
      have e5 : d'[i] = d'[j] := Fin.ext e4
      have hn' : d'.toList.Nodup := hperm.nodup_iff.2 hdn
      have e6 : d'.toList[i] = d'.toList[j] := by simpa using e5
      have := (List.getElem_inj hn').1 e6
      omega
    show cmpL (L.getD (d'.toList[i]).val []) (L.getD (d'.toList[j]).val []) < 0
    simp only [Array.getElem_toList]
    omega
  · have h1 := hperm.map (fun i : Fin N => L.getD i.val [])
    rw [hdL] at h1
    exact h1
  · have hgp : (d'.toList.map (fun i : Fin N => gs.getD i.val (0, 0))).Perm gs := by
      have h1 := hperm.map (fun i : Fin N => gs.getD i.val (0, 0))
      rw [hdg] at h1
      exact h1
    have hRl : ((d'.toList.map (fun i : Fin N => L.getD i.val [])).map vals).length = N := by simp [hd's]
    refine ⟨d'.toList.map (fun i => gs.getD i.val (0, 0)), by rw [hRl]; simp [hd's], ?_, fun i hi => ?_, (hgp.map (·.1)).nodup_iff.2 hgd, fun p hp2 => hne p (hgp.mem_iff.1 hp2)⟩
    · rw [hRl]
      have h1 := row_behind (m := m) (os := os) (d := d') (enc := enc) (w := w) (base := base) (g := g) (cap := c) (e := 24) (xs := gs.map (sl n)) (by rw [hd's]; exact ho)
      rw [hd's] at h1
      have e1 : d'.toList.map enc = (d'.toList.map (fun i => gs.getD i.val (0, 0))).map (sl n) := by rw [List.map_map]; rfl
      rw [e1] at h1
      exact h1
    · rw [hRl] at hi
      have hi2 : i < d'.size := by omega
      have e1 : (d'.toList.map (fun i : Fin N => gs.getD i.val (0, 0))).getD i (0, 0) = gs.getD (d'[i]).val (0, 0) := by simp [hi2]
      have e2 : ((d'.toList.map (fun i : Fin N => L.getD i.val [])).map vals).getD i [] = (L.map vals).getD (d'[i]).val [] := by
        have b1 : (d'[i]).val < L.length := by rw [hLN]; exact (d'[i]).isLt
        simp [hi2, b1]
      rw [e1, e2]
      exact own_mark (hin (d'[i]).val (d'[i]).isLt) (grown_behind d') (fun a ha e => hblk2 d'[i] (by rw [show (enc d'[i]).ownBlock = some a from ha]; exact e.symm))

end Go.Proofs.Ytddenfnoajdjiaa.SortAnyC

/-
  Contract: slices.SortFunc with slices.Compare leaves an empty list as it is. Conditions: none.
-/
namespace Go.Proofs.Ytddenfnoajdjiaa.SortNoneC
open Go.Shelf Go.RowKit Go.Lib Go.Sort
open SeesC IntsC ExactC CmpC ListsC ListsBC OutsMath SortRowC

set_option maxRecDepth 100000 in
theorem compare_nil (W : World) :
    Calls Try.prog 107 #[.slice none 0 0, .slice none 0 0] W fun e w' => e = .returned (.int .i64 0) ∧ Drawn W w' := by
  go_enter Try.func107, Try.ntmps107
  go_wp2
  go_loopw [11] (fun kv wr => kv = .int .i64 0 ∧ wr = W) (fun _ _ => 0)
  case atStart => exact ⟨rfl, rfl⟩
  case round =>
    obtain ⟨rfl, rfl⟩ := hrel
    go_wp2
    go_ret
    exact ⟨rfl, Drawn.refl _⟩

theorem sortNone_any (base n g c : Nat) (w : World) (hv : Lists w base n (.slice (some ⟨g, 0, none⟩) 0 c) []) :
    Calls Try.prog 122 #[.slice (some ⟨g, 0, none⟩) 0 c, .func (.func 107) #[] #[]] w fun e w' => e = .returned (.tuple #[]) ∧ Lists w' base n (.slice (some ⟨g, 0, none⟩) 0 c) [] ∧ w.grownBy w' (some g) := by
  obtain ⟨gs, hg, ho, _, _, _⟩ := hv
  have hgs : gs = [] := List.eq_nil_of_length_eq_zero hg
  subst hgs
  let enc : Unit → Value := fun _ => .slice none 0 0
  let cf : Unit → Unit → Int := fun _ _ => 0
  obtain ⟨d, hdl⟩ : ∃ d : Array Unit, d = #[] := ⟨_, rfl⟩
  have hds : d.size = 0 := by rw [hdl]; rfl
  have eg : ∀ args w, (callFunc 107 args).run Try.prog w = .ok (.enter 107 args) w := enters_of Try.func107 (by kernel_rfl) rfl
  have hod : w.ownsRow base 24 1 (.slice (some ⟨g, 0, none⟩) d.size c) d.size (d.toList.map enc) := by rw [hdl]; exact ho
  have hH : Holds enc w g 0 d := holds_row hod
  have hblk : g < w.heap.size := (own_block_lt ho (q := g) rfl).2
  have hO : SWO (ltOf cf) := { irrefl := fun x => by simp [ltOf, cf], trans := fun x y z h1 h2 => by simp [ltOf, cf] at h1, ntrans := fun x y z h1 h2 => by simp [ltOf, cf] }
  have hcmp : CmpReads Try.prog 107 #[] enc cf g 0 d.size w := fun m os dk hs x y => compare_nil _
  have hcon := Any.slices_SortFunc Try.sortLL enc (fun _ => rfl) cf hO 107 #[] g 0 c d w eg hcmp.lays hH hblk (by omega)
  change Calls Try.prog 122 _ _ _ at hcon
  rw [hds] at hcon
  refine hcon.mono ?_
  rintro e w' ⟨rfl, d', m, os, hp, hs, rfl⟩
  have hd's : d'.size = 0 := hp.1.trans hds
  refine ⟨rfl, ⟨[], rfl, ?_, fun i hi => absurd hi (by simp), by simp, fun p hp => by simp at hp⟩, grown_behind d'⟩
  have h1 := row_behind (m := m) (os := os) (d := d') (enc := enc) (w := w) (base := base) (g := g) (cap := c) (e := 24) (xs := ([] : List (Nat × Nat)).map (sl n)) (by rw [hd's]; exact ho)
  rw [hd's] at h1
  have e2 : d'.toList = [] := by
    apply List.eq_nil_of_length_eq_zero
    simpa using hd's
  rw [e2] at h1
  exact h1

end Go.Proofs.Ytddenfnoajdjiaa.SortNoneC

/-
  Contract: slices.SortFunc with slices.Compare leaves no slice as it is. Conditions: none.
-/
namespace Go.Proofs.Ytddenfnoajdjiaa.SortNilC
open Go.RowKit

theorem insNil (fv : Value) (w : World) :
    Calls Try.prog 136 #[.slice none 0 0, .int .i64 0, .int .i64 0, fv] w fun e w' => e = .returned (.tuple #[]) ∧ w' = w := by
  go_enter Try.func136, Try.ntmps136
  go_wp2
  refine wp_loop_rounds 1 ?_
  rw [rounds_succ]
  go_wp2
  go_end0
  exact ⟨rfl, rfl⟩

set_option maxRecDepth 100000 in
set_option maxHeartbeats 2000000 in
theorem pdqNil (fv lim : Value) (w : World) :
    Calls Try.prog 132 #[.slice none 0 0, .int .i64 0, .int .i64 0, lim, fv] w fun e w' => e = .returned (.tuple #[]) ∧ w' = w := by
  go_enter Try.func132, Try.ntmps132
  go_wp2
  refine wp_loop_rounds 1 ?_
  rw [rounds_succ]
  go_wp2_with fail
  refine (insNil _ _).mono ?_
  rintro e _ ⟨rfl, rfl⟩
  go_wp2_with fail
  refine bodyPost_ret (results_none rfl _ _ _) rfl ?_
  exact ⟨rfl, rfl⟩

set_option maxHeartbeats 1000000 in
theorem sortNil_any (w : World) :
    Calls Try.prog 122 #[.slice none 0 0, .func (.func 107) #[] #[]] w fun e w' => e = .returned (.tuple #[]) ∧ w' = w := by
  go_enter Try.func122, Try.ntmps122
  go_wp2_with fail
  refine (Try.bits_Len 0 _ (by omega) (by omega)).mono ?_
  rintro e _ ⟨rfl, rfl⟩
  go_wp2_with fail
  refine (pdqNil _ _ _).mono ?_
  rintro e _ ⟨rfl, rfl⟩
  go_wp2_with fail
  go_end0
  exact ⟨rfl, rfl⟩

end Go.Proofs.Ytddenfnoajdjiaa.SortNilC

/-
  Contract: the program lists the orders that are swept to one. Conditions: lists of at most 2^20 numbers.
-/
namespace Go.Proofs.Ytddenfnoajdjiaa.SwfImC
open Go.RowKit Go.Shelf Go.Maps NumC SeesC IntsC ExactC OrdMath WordMath OrdFacts OrderC CmpC ListsC ListsEC ListsFC ListsGC ListsBC OutsMath WithC MapRowsC ByWordC RangeC ValsC SeqAllC EndsM SweepM StackM AllO SwfM SwfSpC SwfDelC SortAnyC SortNoneC SortNilC IterC WordFacts

/-- Sorted lists are returned, in memory of the call's own. -/
def SortTo (n : Nat) (Q : List (List Int) → Prop) (base : Nat) (w : World) (e : Ending) (w' : World) : Prop :=
  ∃ v L R, e = .returned v ∧ Q L ∧ Sorted R ∧ R.Perm L ∧ Lists w' base n v (R.map vals) ∧ Below w.heap.size w w'

set_option maxRecDepth 100000 in
set_option maxHeartbeats 2000000 in
theorem sortedFunc_any (base n gf : Nat) (lb : Array Value) (eg : ∀ args w, (callFunc gf args).run Try.prog w = .ok (.enter gf args) w) (S : List Value → Prop) (N : Nat) (hN : N ≤ 16384) (w : World) (hn1 : 1 ≤ n) (hn : n ≤ 100)
    (hseq : Hands (α := Value) Fence.wide 2 Try.prog gf lb (fun x => #[x]) (fun x _ => ∃ a l c, x = .slice a l c) KeepsWalks S (fun _ => True) N w) (Q : List (List Int) → Prop)
    (hQ : ∀ xs v w1, S xs → w1.ownsRow w.heap.size 24 1 v xs.length xs → Below w.heap.size w w1 → ∃ L, xs.length = L.length ∧ Lists w1 base n v (L.map vals) ∧ L.Nodup ∧ (∀ x ∈ L, x.length = n) ∧ L.length ≤ 100000 ∧ Q L) :
    Calls Try.prog 105 #[.func (.func gf) #[] lb, .func (.func 107) #[] #[]] w (SortTo n Q base w) := by
  have CC := Go.Lib.hid (collect_any gf lb eg S N hN w hseq)
  have HQ := Go.Lib.hid hQ
  clear hseq eg hQ
  go_enter Try.func105, Try.ntmps105
  go_wp2_with fail
  refine (CC.out).mono ?_
  rintro e w1 ⟨xs, v, rfl, hS, ho, hb⟩
  obtain ⟨L, hlen, hL, hnd, hxl, hL5, hq⟩ := HQ.out xs v w1 hS ho hb
  rcases ho.2 with ⟨rfl, h0⟩ | ⟨g, cap, cur, rfl, hgb, _⟩
  · have hL0 : L = [] := List.eq_nil_of_length_eq_zero (by rw [← hlen]; exact h0)
    subst hL0
    have H1 := Go.Lib.hid (And.intro hq (And.intro hL hb))
    clear hS ho hb hL hnd hxl hL5 hq hlen h0 CC HQ
    go_wp2_with fail
    refine (sortNil_any w1).mono ?_
    rintro e _ ⟨rfl, rfl⟩
    go_wp2_with fail
    go_ret
    exact ⟨_, [], [], rfl, H1.out.1, List.Pairwise.nil, List.Perm.refl _, H1.out.2.1, H1.out.2.2⟩
  · rw [hlen] at hL ⊢
    obtain ⟨K, hK⟩ : ∃ K, L.length = K := ⟨_, rfl⟩
    have HK := Go.Lib.hid hK
    by_cases h0 : K = 0
    · subst h0
      have hL0 : L = [] := List.eq_nil_of_length_eq_zero hK
      subst hL0
      rw [hK] at hL ⊢
      have CS := Go.Lib.hid (sortNone_any base n g cap w1 hL)
      have H1 := Go.Lib.hid (And.intro hq (And.intro hb hgb))
      clear hS ho hb hL hnd hxl hL5 hq hlen hK CC HQ HK
      go_wp2_with fail
      refine (CS.out).mono ?_
      rintro e w2 ⟨rfl, hL2, hg2⟩
      have H2 := Go.Lib.hid (And.intro hL2 (H1.out.2.1.grown hg2 H1.out.2.1.size (fun k hk => by cases hk; exact H1.out.2.2)))
      clear hL2 hg2
      go_wp2_with fail
      go_ret
      exact ⟨_, [], [], rfl, H1.out.1, List.Pairwise.nil, List.Perm.refl _, H2.out.1, H2.out.2⟩
    · have CS := Go.Lib.hid (sortLists_any base n g cap L w1 hL hn1 hn hxl hnd (by omega) hL5)
      rw [hK] at CS ⊢
      have H1 := Go.Lib.hid (And.intro hq (And.intro hb hgb))
      clear hS ho hb hL hnd hxl hL5 hq hlen hK CC HQ h0
      go_wp2_with fail
      refine (CS.out).mono ?_
      rintro e w2 ⟨rfl, R, hs, hp, hL2, hg2⟩
      have H2 := Go.Lib.hid (And.intro hs (And.intro hp (And.intro hL2 (H1.out.2.1.grown hg2 H1.out.2.1.size (fun k hk => by cases hk; exact H1.out.2.2)))))
      clear hs hp hL2 hg2
      go_wp2_with fail
      go_ret
      exact ⟨_, L, R, rfl, H1.out.1, H2.out.1, H2.out.2.1, H2.out.2.2.1, H2.out.2.2.2⟩

theorem words_filter (zs : List Int) (n N : Nat) (hN : (allW n).length = N) :
    ((List.range N).filter (fun j => swOk zs ((allW n).getD j ByteArray.empty))).map (fun j => beforeOf zs ((allW n).getD j ByteArray.empty)) = ((allW n).filter (swOk zs)).map (beforeOf zs) := by
  have e1 : allW n = (List.range N).map (fun j => (allW n).getD j ByteArray.empty) := by
    apply List.ext_getElem
    · simp [hN]
    · intro i h1 h2; simp [h1]
  have e2 : (allW n).filter (swOk zs) = ((List.range N).filter (fun j => swOk zs ((allW n).getD j ByteArray.empty))).map (fun j => (allW n).getD j ByteArray.empty) := by
    conv => lhs; rw [e1]
    rw [List.filter_map]
    rfl
  rw [e2, List.map_map]
  rfl

theorem swOk_iff (zs : List Int) (w : ByteArray) : swOk zs w = decide (swWord (beforeOf zs w) = w.data.toList) := by
  unfold swOk
  rw [decide_eq_decide]
  constructor
  · intro h
    have h1 := congrArg (fun b => b.data.toList) h
    simpa [txt] using h1
  · intro h; rw [h]; cases w; simp [txt]

set_option maxRecDepth 100000 in
set_option maxHeartbeats 4000000 in
theorem implSwf (zs : List Int) (hz : zs.length ≤ 1048576) (W : World) (v : Value) (n : Nat) (hv : Sees W v n (vals zs)) :
    Calls Try.prog 53 #[v] W fun e w' => SwfTo W zs e w' := by
  have hl : zs.length = n := by simpa using hv.1
  have hn : n ≤ 1048576 := by omega
  obtain ⟨r, hr⟩ : ∃ r, isOrd zs = r := ⟨_, rfl⟩
  have CO := Go.Lib.hid (fun W' (hs' : Sees W' v n (vals zs)) => implOrder_any W' v n zs r hs' hn hr)
  have HV := Go.Lib.hid hv
  have HR := Go.Lib.hid hr
  obtain ⟨_, ad, cap, rfl, _, _⟩ := hv
  clear hr
  cases r with
  | false =>
    have hno : ¬ Ord zs := of_decide_eq_false HR.out
    go_enter Try.func53, Try.ntmps53
    go_wp2_with fail
    refine (CO.out _ HV.out).mono ?_
    rintro e w1 ⟨rfl, hd⟩
    have H1 := Go.Lib.hid hd
    clear hd
    go_wp2_with fail
    go_ret2
    exact ⟨_, [], by rw [HR.out]; rfl, by unfold Swf; rw [if_neg hno], lists_zero (World.ownsRow_made (base := W.heap.size) (e := 24) (size := 1) w1 #[] 0 H1.out.size (by unfold maxLen; omega) rfl), H1.out.alloc H1.out.size _⟩
  | true =>
    have hord : Ord zs := of_decide_eq_true HR.out
    have hn7 : n ≤ 7 := by have := hord.2.1; omega
    have hn1 : 1 ≤ n := by have := hord.1; omega
    have CB := Go.Lib.hid (fun W' (hs' : Sees W' (.slice ad n cap) n (vals zs)) => byWord_any zs hord W' _ n hs')
    have HO := Go.Lib.hid (And.intro hord hl)
    clear hord hl
    go_enter Try.func53, Try.ntmps53
    go_wp2_with fail
    refine (CO.out _ HV.out).mono ?_
    rintro e w1 ⟨rfl, hd⟩
    have H1 := Go.Lib.hid hd
    clear hd CO
    go_wp2_with fail
    refine (CB.out _ (HV.out.grow H1.out)).mono ?_
    rintro e w2 ⟨b, gs, rfl, hM⟩
    have H2 := Go.Lib.hid hM
    clear hM CB
    have CD := Go.Lib.hid (delete_any zs HO.out.1 n (allW n).length b HO.out.2 rfl w1 w2 gs H2.out)
    go_wp2_with fail
    refine (CD.out).mono ?_
    rintro e w3 ⟨rfl, ⟨es, pd, R, hR, hperm, hpd, hmap⟩, hrows, hbel⟩
    have H3 := Go.Lib.hid (And.intro (And.intro hR (And.intro hperm (And.intro hpd hmap))) (And.intro hrows hbel))
    clear hR hperm hpd hmap hrows hbel CD
    go_wp2_with fail
    refine (values_any (some b) w3).mono ?_
    rintro e _ ⟨rfl, rfl⟩
    have hba : Below w3.heap.size w3 (w3.alloc (.cells #[.map (some b)] 82)) := (Below.refl _ _).alloc (Nat.le_refl _) _
    have CF : Hid (Calls Try.prog 105 #[.func (.func 123) #[] #[.pointer (some ⟨w3.heap.size, 0, none⟩)], .func (.func 107) #[] #[]] (w3.alloc (.cells #[.map (some b)] 82))
        (SortTo n (fun L => L.Perm (((allW n).filter (swOk zs)).map (beforeOf zs))) W.heap.size (w3.alloc (.cells #[.map (some b)] 82)))) := Go.Lib.hid (by
      obtain ⟨⟨hR, hperm, hpd, hmap⟩, hrows, hbel⟩ := H3.out
      obtain ⟨hgl, _, _, hnd, _, _⟩ := H2.out
      have hww : ∀ j, j < (allW n).length → Word ((allW n).getD j ByteArray.empty) ∧ ((allW n).getD j ByteArray.empty).size = 2 * n := fun j hj => by
        have e : (allW n).getD j ByteArray.empty = (allW n)[j]'hj := by simp [hj]
        rw [e]; exact all_mem hn1 hn7 (List.getElem_mem hj)
      refine sortedFunc_any W.heap.size n _ _ (enters_of Try.func123 (by kernel_rfl) rfl) _ _ ?_ _ hn1 (by omega)
        (values_hands 2 b (allW n).length w3.heap.size (es.filter (fun p => !pd p.1 p.2)) (gs.map (sl n)) R hR (fun v hv => by obtain ⟨p, _, rfl⟩ := List.mem_map.1 hv; exact ⟨_, _, _, rfl⟩) (by omega) _ (by simp) (Boxed.new w3 82 (.map (some b))).cell (map_kept hmap hba)) _ ?_
      · have h1 : (strKeys (DataW.map (es.filter (fun p => !pd p.1 p.2)))).length ≤ es.length := by
          show ((es.filter (fun p => !pd p.1 p.2)).map (fun p => strOf p.1)).length ≤ _
          rw [List.length_map]
          exact List.length_filter_le _ _
        have h2 := hperm.length_eq
        unfold prs at h2
        rw [List.length_map, List.length_range] at h2
        have h3 := Rank4C.all_16k (m := n) hn7
        exact Nat.le_trans h1 (by omega)
      · rintro xs v w4 ⟨ss, hss, hxs⟩ ho hb
        obtain ⟨idx, hidx, hxe⟩ := collected_vals (ws := allW n) (vs := gs.map (sl n)) (N := (allW n).length) (pd := pd) rfl (words_all hn1 hn7).1 hperm hss hxs
        have hjl : ∀ j ∈ idx, j < (allW n).length := fun j hj => List.mem_range.1 (List.mem_filter.1 (hidx.mem_iff.1 hj)).1
        have hvs : ∀ j, j < (allW n).length → (gs.map (sl n)).getD j undef = sl n (gs.getD j (0, 0)) := fun j hj => by simp [show j < gs.length by omega]
        have hxe2 : xs = (idx.map (fun j => gs.getD j (0, 0))).map (sl n) := by
          rw [hxe, List.map_map]
          exact List.map_congr_left (fun j hj => hvs j (hjl j hj))
        have hok : (List.range (allW n).length).filter (fun j => !pd (.string ((allW n).getD j ByteArray.empty).data.toList) (.held ((gs.map (sl n)).getD j undef))) = (List.range (allW n).length).filter (fun j => swOk zs ((allW n).getD j ByteArray.empty)) := by
          apply List.filter_congr
          intro j hj
          rw [List.mem_range] at hj
          rw [hvs j hj, hpd j _ hj, swOk_iff, Bool.not_not]
        rw [hok] at hidx
        have hidn : idx.Nodup := hidx.nodup_iff.2 (List.Pairwise.filter _ List.nodup_range)
        have hLp : (idx.map (fun j => beforeOf zs ((allW n).getD j ByteArray.empty))).Perm (((allW n).filter (swOk zs)).map (beforeOf zs)) := by
          rw [← words_filter zs n _ rfl]
          exact hidx.map _
        have hbb := hba.trans (hb.mono hba.size)
        refine ⟨idx.map (fun j => beforeOf zs ((allW n).getD j ByteArray.empty)), by rw [hxe2]; simp, ?_, ?_, ?_, ?_, hLp⟩
        · refine With.lists (gs := idx.map (fun j => gs.getD j (0, 0))) ⟨by simp, ?_, ?_, ?_⟩
          · have h1 := own_lower ho (base' := W.heap.size) (by have h1 := H1.out.size; have h2 := hbel.size; simp; omega)
            rw [hxe2] at h1
            simpa using h1
          · intro i hi
            have hi2 : i < idx.length := by simpa using hi
            have hjl2 := hjl idx[i] (List.getElem_mem hi2)
            have h1 := own_lower (kept_call (hrows idx[i] hjl2) hbb) (base' := W.heap.size) H1.out.size
            have e1 : (idx.map (fun j => gs.getD j (0, 0))).getD i (0, 0) = gs.getD idx[i] (0, 0) := by
              rw [List.getD_eq_getElem?_getD, List.getElem?_eq_getElem (by simpa using hi2), Option.getD_some, List.getElem_map]
            have e2 : ((idx.map (fun j => beforeOf zs ((allW n).getD j ByteArray.empty))).map vals).getD i [] = vals (beforeOf zs ((allW n).getD idx[i] ByteArray.empty)) := by
              rw [List.getD_eq_getElem?_getD, List.getElem?_eq_getElem (by simpa using hi2), Option.getD_some, List.getElem_map, List.getElem_map]
            rw [e1, e2]
            exact h1
          · rw [List.map_map]
            unfold List.Nodup
            rw [List.pairwise_map]
            refine List.Pairwise.imp_of_mem ?_ hidn
            intro i j hi hj hij e
            exact nodup_ne hnd (by have := hjl i hi; omega) (by have := hjl j hj; omega) hij e
        · unfold List.Nodup
          rw [List.pairwise_map]
          refine List.Pairwise.imp_of_mem ?_ hidn
          intro i j hi hj hij e
          have hi2 := (List.mem_filter.1 (hidx.mem_iff.1 hi)).2
          have hj2 := (List.mem_filter.1 (hidx.mem_iff.1 hj)).2
          unfold swOk at hi2 hj2
          rw [decide_eq_true_eq] at hi2 hj2
          rw [e, hj2] at hi2
          have hwn := (words_all hn1 hn7).1
          have e3 : (allW n)[i]'(hjl i hi) = (allW n)[j]'(hjl j hj) := by simpa [hjl i hi, hjl j hj] using hi2.symm
          exact hij ((List.getElem_inj hwn).1 e3)
        · intro x hx
          obtain ⟨j, hj, rfl⟩ := List.mem_map.1 hx
          rw [before_len, HO.out.2]
        · rw [List.length_map, hidx.length_eq]
          have h1 := List.length_filter_le (fun j => swOk zs ((allW n).getD j ByteArray.empty)) (List.range (allW n).length)
          rw [List.length_range] at h1
          have h3 := Rank4C.all_16k (m := n) hn7
          omega)
    have H4 := Go.Lib.hid (H1.out.trans ((H3.out.2.2.alloc H3.out.2.2.size (.cells #[.map (some b)] 82)).mono H1.out.size))
    clear hba
    go_wp2_with fail
    refine (CF.out).mono ?_
    rintro e w5 ⟨v5, L, Rr, rfl, hQ, hs, hp, hL, hb5⟩
    have H5 := Go.Lib.hid (And.intro (swf_impl HO.out.1 hs (hp.trans (by rw [HO.out.2]; exact hQ))) (And.intro hL (H4.out.trans (hb5.mono H4.out.size))))
    obtain ⟨ad5, l5, cap5, rfl⟩ : ∃ a l c, v5 = .slice a l c := by
      obtain ⟨_, _, h2, _⟩ := hL
      obtain ⟨_, a, c, e, _, _⟩ := Sees.owns h2
      exact ⟨_, _, _, e⟩
    clear hQ hs hp hL hb5
    go_wp2_with fail
    go_ret2
    exact ⟨_, Rr, by rw [HR.out]; rfl, H5.out.1, by rw [HO.out.2]; exact H5.out.2.1, H5.out.2.2⟩

end Go.Proofs.Ytddenfnoajdjiaa.SwfImC

/-
  The contracts of both sides of SweptFrom, in the form in which the walk of the exact law takes them. Conditions: lists of at most 2^20 numbers.
-/
namespace Go.Proofs.Ytddenfnoajdjiaa.SwfLC
open Go.RowKit SeesC IntsC ExactC OrdMath ListsC ListsEC OutsMath SwfM SwfSpC SwfImC

theorem swf_to {W W' : World} {zs : List Int} {e : Ending} {b : Bool} {m : Nat} (hb : isOrd zs = b) (hm : (if b = true then zs.length else 0) = m) (h : SwfTo W zs e W') : LLTo W e W' m b (Swf zs) := by
  obtain ⟨v, R, he, hR, hL, hb2⟩ := h
  refine ⟨v, R, by rw [he, hb], hR, ?_, hb2⟩
  cases b with
  | true => rw [if_pos rfl] at hm; rw [← hm]; exact hL
  | false =>
    have hno : ¬ Ord zs := of_decide_eq_false hb
    unfold Swf at hR
    rw [if_neg hno] at hR
    subst hR
    exact lists_nil hL

theorem swf_m7 {zs : List Int} {b : Bool} {m : Nat} (hb : isOrd zs = b) (hm : (if b = true then zs.length else 0) = m) : m ≤ 7 := by
  cases b with
  | true => have ho : Ord zs := of_decide_eq_true hb; rw [if_pos rfl] at hm; have := ho.2.1; omega
  | false => rw [if_neg (by simp)] at hm; omega

theorem swf_16k {zs : List Int} {R : List (List Int)} (h : Swf zs R) : R.length ≤ 16384 := by have := (swf_len h).1; omega

theorem specSwfL (zs : List Int) (b : Bool) (m : Nat) (hb : isOrd zs = b) (hm : (if b = true then zs.length else 0) = m) (hz : zs.length ≤ 1048576) (W : World) (v : Value) (n : Nat) (hv : Sees W v n (vals zs)) :
    Calls Try.prog 54 #[v] W fun e w' => LLTo W e w' m b (Swf zs) :=
  (specSwf zs hz W v n hv).mono fun _ _ h => swf_to hb hm h

theorem implSwfL (zs : List Int) (b : Bool) (m : Nat) (hb : isOrd zs = b) (hm : (if b = true then zs.length else 0) = m) (hz : zs.length ≤ 1048576) (W : World) (v : Value) (n : Nat) (hv : Sees W v n (vals zs)) :
    Calls Try.prog 53 #[v] W fun e w' => LLTo W e w' m b (Swf zs) :=
  (implSwf zs hz W v n hv).mono fun _ _ h => swf_to hb hm h

end Go.Proofs.Ytddenfnoajdjiaa.SwfLC

namespace Go.Proofs.Ytddenfnoajdjiaa.fnExactSweptFrom
open Go.ChangeShapes Go.WideShapes Go.ChangeAt Go.RowKit SeesC OpenC
open Go.ChangeMaps (open_string shut_string)
open IntsC ExactC OrdMath ListsC ListsEC OutsMath SwfM SwfLC
set_option linter.unusedVariables false

theorem own : ownKnob Try.prog.godebug = none := by kernel_rfl
theorem laidOut : laidOutB Try.prog = true := by kernel_rfl

/-! ### The walk -/
set_option maxHeartbeats 4000000 in
theorem walk (v0 : Value) (n0 : Nat) (a0 : List Int) (w : World) (s0 : Sees w v0 n0 (a0.map (Value.int .i64))) (t0 : n0 ≤ maxLen) (w0 : ∀ z ∈ a0, (Lit.int .i64 z).wf = true) :
    Calls Try.prog 16 #[v0] w fun e w' => e = .returned (.bool true) ∧ Below w.heap.size w w' := by
  have hl0 : a0.length = n0 := by simpa using s0.1
  have hsee0 := Go.Lib.hid s0
  by_cases big0 : (1048576 : Int) < (n0 : Int)
  · obtain ⟨_, adr0, cap0, rfl, _, _⟩ := s0
    unfold maxLen at t0
    go_enter Try.func16, Try.ntmps16
    go_wp2
    go_ret
    exact ⟨rfl, Below.refl _ _⟩
  have hb0 : n0 ≤ 1048576 := by omega
  have hz0 : a0.length ≤ 1048576 := by omega
  obtain ⟨b, hb⟩ : ∃ b, isOrd a0 = b := ⟨_, rfl⟩
  obtain ⟨m, hm⟩ : ∃ m, (if b = true then a0.length else 0) = m := ⟨_, rfl⟩
  have hm7 : m ≤ 7 := swf_m7 hb hm
  have C1 := Go.Lib.hid (specSwfL a0 b m hb hm hz0)
  have C2 := Go.Lib.hid (implSwfL a0 b m hb hm hz0)
  have HLT0 := Go.Lib.hid (fun (h : 0 < n0) q hq => s0.lt h q hq)
  obtain ⟨_, adr0, cap0, rfl, _, _⟩ := s0
  unfold maxLen at t0
  go_enter Try.func16, Try.ntmps16
  go_wp2_with fail
  refine (toIntS_any _ _ n0 a0 (hsee0.out) hb0).mono ?_
  rintro e W1 ⟨g1, rfl, o1, b1⟩
  have ZW1 := Go.Lib.hid (Below.size (b1))
  have Rs0 := Go.Lib.hid (fun q hq => World.ownsRow.lt (o1) q hq)
  have HW1 := Go.Lib.hid (And.intro (Below.trans ((Below.refl w.heap.size w)) (((b1)).mono (Below.size ((Below.refl w.heap.size w))))) (And.intro (Sees.grow (hsee0.out) (b1)) (o1)))
  clear o1 b1
  go_wp2_with fail
  refine (C1.out _ _ _ (Sees.owns (HW1.out.2.2))).mono ?_
  rintro e W2 ⟨v2, R, rfl, u2, o2, b2⟩
  have HU := Go.Lib.hid u2
  have hRl : R.length ≤ 16384 := swf_16k u2
  clear u2
  have ZW2 := Go.Lib.hid (Below.size (b2))
  have HW2 := Go.Lib.hid (And.intro (Below.trans (HW1.out.1) (((b2)).mono (Below.size (HW1.out.1)))) (And.intro (Sees.grow (HW1.out.2.1) (b2)) (And.intro (kept_call (HW1.out.2.2) (b2)) (under_of o2))))
  clear o2 b2
  go_wp2_with fail
  refine (toIntS_any _ _ n0 a0 (HW2.out.2.1) hb0).mono ?_
  rintro e W3 ⟨g3, rfl, o3, b3⟩
  have ZW3 := Go.Lib.hid (Below.size (b3))
  have Rx0 := Go.Lib.hid (fun q hq => World.ownsRow.lt (o3) q hq)
  have HW3 := Go.Lib.hid (And.intro (Below.trans (HW2.out.1) (((b3)).mono (Below.size (HW2.out.1)))) (And.intro (Sees.grow (HW2.out.2.1) (b3)) (And.intro (Under.kept (HW2.out.2.2.2) (b3)) (o3))))
  clear o3 b3
  go_wp2_with fail
  refine (C2.out _ _ _ (Sees.owns (HW3.out.2.2.2))).mono ?_
  rintro e W4 ⟨v4, R4, rfl, u4, o4, b4⟩
  have e4 := swf_unique u4 HU.out
  rw [e4] at o4
  clear e4 u4
  have ZW4 := Go.Lib.hid (Below.size (b4))
  have HW4 := Go.Lib.hid (And.intro (Below.trans (HW3.out.1) (((b4)).mono (Below.size (HW3.out.1)))) (And.intro (Sees.grow (HW3.out.2.1) (b4)) (And.intro (Under.kept (HW3.out.2.2.1) (b4)) (And.intro (kept_call (HW3.out.2.2.2) (b4)) (o4)))))
  clear o4 b4
  go_wp2_with fail
  refine (eqIntSS_same _ _ _ m R (Lists.looks (HW4.out.2.2.2.2)) (Lists.looks (Under.lists (HW4.out.2.2.1))) (by omega) (by omega)).mono ?_
  rintro e W5 ⟨rfl, d5⟩
  have ZW5 := Go.Lib.hid (Below.size (d5.below W4.heap.size))
  have HW5 := Go.Lib.hid (And.intro (Below.trans (HW4.out.1) (((d5.below W4.heap.size)).mono (Below.size (HW4.out.1)))) (And.intro (Sees.grow (HW4.out.2.1) (d5.below W4.heap.size)) (And.intro (Under.kept (HW4.out.2.2.1) (d5.below W4.heap.size)) (And.intro (kept_call (HW4.out.2.2.2.1) (d5.below W4.heap.size)) (Lists.kept (HW4.out.2.2.2.2) (d5.below W4.heap.size))))))
  clear d5
  go_wp2_with fail
  refine (toIntS_any _ _ n0 a0 (HW5.out.2.1) hb0).mono ?_
  rintro e W6 ⟨g6, rfl, o6, b6⟩
  have ZW6 := Go.Lib.hid (Below.size (b6))
  have Ry0 := Go.Lib.hid (fun q hq => World.ownsRow.lt (o6) q hq)
  have HW6 := Go.Lib.hid (And.intro (Below.trans (HW5.out.1) (((b6)).mono (Below.size (HW5.out.1)))) (And.intro (Sees.grow (HW5.out.2.1) (b6)) (And.intro (Under.kept (HW5.out.2.2.1) (b6)) (And.intro (kept_call (HW5.out.2.2.2.1) (b6)) (And.intro (Lists.kept (HW5.out.2.2.2.2) (b6)) (o6))))))
  clear o6 b6
  go_wp2_with fail
  refine (eqIntS_same _ _ _ n0 a0 (Sees.owns (HW6.out.2.2.2.1)) (Sees.owns (HW6.out.2.2.2.2.2)) (by unfold maxLen; omega)).mono ?_
  rintro e W7 ⟨rfl, d7⟩
  have ZW7 := Go.Lib.hid (Below.size (d7.below W6.heap.size))
  have HW7 := Go.Lib.hid (And.intro (Below.trans (HW6.out.1) (((d7.below W6.heap.size)).mono (Below.size (HW6.out.1)))) (And.intro (Sees.grow (HW6.out.2.1) (d7.below W6.heap.size)) (And.intro (Under.kept (HW6.out.2.2.1) (d7.below W6.heap.size)) (And.intro (kept_call (HW6.out.2.2.2.1) (d7.below W6.heap.size)) (And.intro (Lists.kept (HW6.out.2.2.2.2.1) (d7.below W6.heap.size)) (kept_call (HW6.out.2.2.2.2.2) (d7.below W6.heap.size)))))))
  clear d7
  go_wp2_with fail
  refine (markIntS_any _ n0 1 _ _ _ (by omega) (by omega) (HW7.out.2.2.2.1)).mono ?_
  rintro e W8 ⟨rfl, om8, gm8⟩
  have ZW8 := Go.Lib.hid (World.grownBy.size gm8)
  have HW8 := Go.Lib.hid (And.intro (Below.grown (HW7.out.1) gm8 (Below.size (HW7.out.1)) (fun k hk => by have h2 := Rx0.out k hk; have := ZW1.out; have := ZW2.out; have := ZW3.out; have := ZW4.out; have := ZW5.out; have := ZW6.out; have := ZW7.out; omega)) (And.intro (sees_mark (HW7.out.2.1) gm8 (fun hn a ha e => by have h1 := HLT0.out hn a ha; have h2 := Rx0.out a e; have := ZW1.out; have := ZW2.out; have := ZW3.out; have := ZW4.out; have := ZW5.out; have := ZW6.out; have := ZW7.out; omega)) (And.intro (under_far (HW7.out.2.2.1) gm8 (fun q hq => by have h2 := Rx0.out q hq; have := ZW1.out; have := ZW2.out; have := ZW3.out; have := ZW4.out; have := ZW5.out; have := ZW6.out; have := ZW7.out; omega)) (lists_far (HW7.out.2.2.2.2.1) gm8 (fun q hq => by have h2 := Rx0.out q hq; have := ZW1.out; have := ZW2.out; have := ZW3.out; have := ZW4.out; have := ZW5.out; have := ZW6.out; have := ZW7.out; omega)))))
  clear om8 gm8
  go_wp2_with fail
  refine (eqIntSS_same _ _ _ m R (Lists.looks (HW8.out.2.2.2)) (Lists.looks (Under.lists (HW8.out.2.2.1))) (by omega) (by omega)).mono ?_
  rintro e W9 ⟨rfl, d9⟩
  have ZW9 := Go.Lib.hid (Below.size (d9.below W8.heap.size))
  have HW9 := Go.Lib.hid (And.intro (Below.trans (HW8.out.1) (((d9.below W8.heap.size)).mono (Below.size (HW8.out.1)))) (And.intro (Sees.grow (HW8.out.2.1) (d9.below W8.heap.size)) (And.intro (Under.kept (HW8.out.2.2.1) (d9.below W8.heap.size)) (Lists.kept (HW8.out.2.2.2) (d9.below W8.heap.size)))))
  clear d9
  have hml : m * R.length ≤ 7 * 16384 := Nat.mul_le_mul hm7 hRl
  have hmL : 1 + m * (R.map vals).length ≤ 1000000 := by rw [List.length_map]; omega
  have hmM : (R.map vals).length ≤ 1048576 := by rw [List.length_map]; omega
  go_wp2_with fail
  refine (markIntSS_all W3.heap.size m 1 _ _ _ (by omega) hmL (by have := ZW1.out; have := ZW2.out; have := ZW3.out; have := ZW4.out; have := ZW5.out; have := ZW6.out; have := ZW7.out; have := ZW8.out; have := ZW9.out; omega) (HW9.out.2.2.2) hmM).mono ?_
  rw [List.length_map]
  rintro e W10 ⟨rfl, om10, bm10⟩
  have ZW10 := Go.Lib.hid (Below.size bm10)
  have HW10 := Go.Lib.hid (And.intro (Below.trans (HW9.out.1) (bm10.mono (by have := ZW1.out; have := ZW2.out; have := ZW3.out; have := ZW4.out; have := ZW5.out; have := ZW6.out; have := ZW7.out; have := ZW8.out; have := ZW9.out; omega))) (And.intro (Sees.below (HW9.out.2.1) bm10 (fun b hb h => by have h1 := HLT0.out h b hb; have := ZW1.out; have := ZW2.out; have := ZW3.out; have := ZW4.out; have := ZW5.out; have := ZW6.out; have := ZW7.out; have := ZW8.out; have := ZW9.out; omega)) (And.intro (under_below (HW9.out.2.2.1) bm10 (by have := ZW1.out; have := ZW2.out; have := ZW3.out; have := ZW4.out; have := ZW5.out; have := ZW6.out; have := ZW7.out; have := ZW8.out; have := ZW9.out; omega)) (om10))))
  clear om10 bm10
  obtain ⟨q, hq⟩ : ∃ q, 1 + m * R.length = q := ⟨_, rfl⟩
  have hq2 : q ≤ 1000000 := by omega
  have CH := Go.Lib.hid (fun (v : Value) (w' : World) (hv : Looks w' m v (marks 1 m R.length)) => heldIntSS_any m 1 R.length v w' (by omega) (by omega) (by omega) hv)
  rw [hq] at CH ⊢
  have HQQ := Go.Lib.hid hq
  clear hq hml hmL hmM
  go_wp2_with fail
  refine (CH.out _ _ (Lists.looks (HW10.out.2.2.2))).mono ?_
  rintro e _ ⟨rfl, rfl⟩
  go_wp2_with fail
  refine (toIntS_any _ _ n0 a0 (HW10.out.2.1) hb0).mono ?_
  rintro e W11 ⟨g11, rfl, o11, b11⟩
  have ZW11 := Go.Lib.hid (Below.size (b11))
  have Rz0 := Go.Lib.hid (fun q hq => World.ownsRow.lt (o11) q hq)
  have HW11 := Go.Lib.hid (And.intro (Below.trans (HW10.out.1) (((b11)).mono (Below.size (HW10.out.1)))) (And.intro (Sees.grow (HW10.out.2.1) (b11)) (And.intro (Under.kept (HW10.out.2.2.1) (b11)) (And.intro (Lists.kept (HW10.out.2.2.2) (b11)) (o11)))))
  clear o11 b11
  go_wp2_with fail
  refine (C2.out _ _ _ (Sees.owns (HW11.out.2.2.2.2))).mono ?_
  rintro e W12 ⟨v12, R12, rfl, u12, o12, b12⟩
  have e12 := swf_unique u12 HU.out
  rw [e12] at o12
  clear e12 u12
  have ZW12 := Go.Lib.hid (Below.size (b12))
  have HW12 := Go.Lib.hid (And.intro (Below.trans (HW11.out.1) (((b12)).mono (Below.size (HW11.out.1)))) (And.intro (Sees.grow (HW11.out.2.1) (b12)) (And.intro (Under.kept (HW11.out.2.2.1) (b12)) (And.intro (Lists.kept (HW11.out.2.2.2.1) (b12)) (And.intro (kept_call (HW11.out.2.2.2.2) (b12)) (o12))))))
  clear o12 b12
  go_wp2_with fail
  refine (eqIntSS_same _ _ _ m R (Lists.looks (HW12.out.2.2.2.2.2)) (Lists.looks (Under.lists (HW12.out.2.2.1))) (by omega) (by omega)).mono ?_
  rintro e W13 ⟨rfl, d13⟩
  have ZW13 := Go.Lib.hid (Below.size (d13.below W12.heap.size))
  have HW13 := Go.Lib.hid (And.intro (Below.trans (HW12.out.1) (((d13.below W12.heap.size)).mono (Below.size (HW12.out.1)))) (And.intro (Sees.grow (HW12.out.2.1) (d13.below W12.heap.size)) (And.intro (Under.kept (HW12.out.2.2.1) (d13.below W12.heap.size)) (And.intro (Lists.kept (HW12.out.2.2.2.1) (d13.below W12.heap.size)) (Lists.kept (HW12.out.2.2.2.2.2) (d13.below W12.heap.size))))))
  clear d13
  go_wp2_with fail
  refine (CH.out _ _ (Lists.looks (HW13.out.2.2.2.1))).mono ?_
  rintro e _ ⟨rfl, rfl⟩
  go_wp2_with fail
  go_ret
  exact ⟨rfl, HW13.out.1⟩

/-! ### From the walk to the row -/
set_option maxRecDepth 100000 in
theorem lifted (os : Os) (started : os.Started) (H : Type) (enc : TypeId × Value → H) :
    ReturnsInHanded {} Try.checked os 16 .any (Rows.fnExactSweptFromSpec.pre6 enc Try.prog Try.f16 Rows.fnExactSweptFromRow.domain false) (Rows.fnExactSweptFromSpec.post enc Try.prog Try.f16 false true false false) := by
  refine returnsInHanded_of_change (C := Try.checked) own started (by kernel_rfl) Try.func16
    (ChangeSpec.witness6 (enc := enc) (C := Try.checked) false ⟨#[], #[.slice none 0 0], []⟩ 8 (by kernel_rfl) (by kernel_rfl) (by kernel_rfl) (by kernel_rfl)) ?_
  intro W base args ds gs before hval0 hW hcnd _
  have hval : ∀ (j : Nat) t v, Try.f16.params[j]? = some t → args[j]? = some v → Value.okWide Try.prog W .any base t v := hval0
  have hW' := hW
  obtain ⟨p, q, hA0, hV, rfl, hfz, hnd⟩ := hW
  have hA : DataW.TrodAll enc Try.prog W 0 (fun _ => true) true Try.f16.params.toList args.toList ds p := hA0
  rw [Try.params16] at hA hval
  obtain ⟨u0, vs0, d0, ds0, p0, q0, hargs, rfl, rfl, h0, r0⟩ := trodAll_cons hA
  obtain ⟨rfl, rfl, rfl⟩ := trodAll_nil r0
  obtain rfl : args = #[u0] := by cases args; simp_all
  obtain ⟨rfl, rfl⟩ := trodVars_none hV
  have lt0 : ∀ x ∈ p0, x.block < W.heap.size := by obtain ⟨m, hm⟩ := h0; exact DataW.trod_lt m _ _ _ hm
  obtain ⟨n0, a0, s0, t0, w0⟩ := sees_ints Try.underlying24 Try.underlying3 (by kernel_rfl) (hval 0 24 u0 rfl rfl) h0
  clear hA0 hval0
  refine (walk u0 n0 a0 W s0 t0 w0).mono fun e W' ⟨he, bel⟩ => ?_
  subst he
  exact ⟨_, rfl, _, _, _, [], _, [], hW', trodAll_mk1 (shut_bool Try.underlying4 _), (trodAll_cons_mk (Below.trod laidOut (by kernel_rfl) (of_decide_eq_true (by kernel_rfl)) h0 bel lt0) trodAll_mk0), rfl, bel.frame _, fun h => by cases h⟩

theorem over : Rows.fnExactSweptFromRow.holds Try.pinned (OpenSpec.ofChange Rows.fnExactSweptFromSpec) :=
  OpenClaim.holds_of_wide 16 Try.f16 rfl rfl rfl rfl rfl rfl rfl ⟨rfl, rfl, rfl, rfl, rfl⟩ rfl rfl rfl rfl rfl (by kernel_rfl) Try.func16
    (show joinedFacts Try.prog 16 Try.f16 Rows.fnExactSweptFromSpec Rows.fnExactSweptFromRow = true by unfold joinedFacts; rw [SeatC.may, SeatC.lif, SeatC.mke]; kernel_rfl)
    (of_decide_eq_true (by kernel_rfl)) (by unfold Func.isWrapper; first | (rw [if_pos (by decide +kernel)]; kernel_rfl) | (rw [if_neg (by decide +kernel)]; exact ⟨rfl, rfl⟩))
    (fun os started H enc _ => lifted os started H enc)

/-- The statement. -/
theorem proved : Rows.FnExactSweptFromSaid :=
  over
#print axioms proved
end Go.Proofs.Ytddenfnoajdjiaa.fnExactSweptFrom
