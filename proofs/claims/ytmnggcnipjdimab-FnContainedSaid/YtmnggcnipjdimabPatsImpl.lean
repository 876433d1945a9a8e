/-
  Contract: PatternsIn of the program. Conditions: lists of at most 2^20 numbers.
-/
import Derived.Test.YtmnggcnipjdimabPatsSpec
import Derived.Test.YtmnggcnipjdimabNumAt
import Derived.Test.YtmnggcnipjdimabSortWeak
import Derived.Test.YtmnggcnipjdimabSortNone
import Derived.Test.YtmnggcnipjdimabCompact
namespace Go.Proofs.Ytmnggcnipjdimab.PatsImplC
open Go.RowKit SeesC IntsC ExactC OrdMath InC OrderC PatMath ShapeC CmpC ListsC ListsBC ListsCC ListsEC ListsFC PlacesC HasC SameC DropsC OutsMath CompMath PatsMath NumAtC AppendTwoC SortWeakC SortNoneC CompactC PatsSpecC

theorem lists_mark {w w' : World} {base n b2 N2 : Nat} {v v2 : Value} {L : List (List Value)} {xs : List Value} (h : Lists w base n v L) (ho : w.ownsRow b2 24 1 v2 N2 xs) (hg : w.grownBy w' v2.ownBlock) (hne : ∀ a, v2.ownBlock = some a → v.ownBlock ≠ some a) : Lists w' base n v L := by
  obtain ⟨gs, h1, h2, h3, h4, h5⟩ := h
  exact ⟨gs, h1, own_mark h2 hg (fun a ha e => hne a e ha), fun i hi => own_mark (h3 i hi) hg (fun a ha e => own_types ho (h3 i hi) (by decide) e ha), h4, h5⟩

/-- The end of the program's walk: the shapes are sorted, doubles are left out. -/
theorem sort_any (zs : List Int) (m : Nat) (base g c N : Nat) (hN : (shs zs m).length = N) (hN2 : N ≤ 128) (hm1 : 1 ≤ m) (hm7 : m ≤ 7) (w : World) (hv : Lists w base m (.slice (some ⟨g, 0, none⟩) N c) ((shs zs m).map vals)) :
    Calls Try.prog 64 #[.slice (some ⟨g, 0, none⟩) N c, .func (.func 65) #[] #[]] w fun e w' => e = .returned (.tuple #[]) ∧ ∃ R, Weak R ∧ R.length = N ∧ (∀ x, x ∈ R ↔ x ∈ shs zs m) ∧ Lists w' base m (.slice (some ⟨g, 0, none⟩) N c) (R.map vals) ∧ w.grownBy w' (some g) := by
  by_cases h0 : N = 0
  · subst h0
    have hs : shs zs m = [] := List.eq_nil_of_length_eq_zero hN
    rw [hs] at hv
    refine (sortNone_any base m g c w hv).mono ?_
    rintro e w' ⟨he, hL, hg⟩
    exact ⟨he, [], List.Pairwise.nil, rfl, fun x => by rw [hs], hL, hg⟩
  · subst hN
    refine (sortWeak_any base m g c (shs zs m) w hv hm1 (by omega) (fun x hx => shs_len hx) (by omega) (by omega)).mono ?_
    rintro e w' ⟨he, R, hW, hP, hL, hg⟩
    exact ⟨he, R, hW, hP.length_eq, fun x => hP.mem_iff, hL, hg⟩

set_option maxRecDepth 100000 in
set_option maxHeartbeats 4000000 in
theorem implPats (zs : List Int) (k : Int) (m : Nat) (b : Bool) (h : patsHd zs k = (m, b)) (hz : zs.length ≤ 1048576) (W : World) (v : Value) (n : Nat) (hv : Sees W v n (vals zs)) :
    Calls Try.prog 20 #[v, .int .i64 k] W fun e w' => LLTo W e w' m b (patsQ zs k) := by
  have hl : zs.length = n := by simpa using hv.1
  have hn : n ≤ 1048576 := by omega
  obtain ⟨a, ha⟩ : ∃ a, isOrd zs = a := ⟨_, rfl⟩
  have C1 := Go.Lib.hid (implOrder_any W v n zs a hv hn ha)
  have HA := Go.Lib.hid (And.intro ha (And.intro h hl))
  have HV := Go.Lib.hid hv
  have MADE := Go.Lib.hid (fun (X : World) => And.intro ((Below.refl X.heap.size X).alloc (Nat.le_refl _) (.cells #[] 24)) (World.ownsRow_made (base := X.heap.size) (e := 24) (size := 1) X #[] 0 (Nat.le_refl _) (by unfold maxLen; omega) rfl))
  obtain ⟨_, adr, cap, rfl, -, -⟩ := hv
  clear h ha hl
  have NOK : Hid (okPats zs k = false → (m = 0 ∧ b = false) ∧ patsQ zs k []) := Go.Lib.hid (fun h0 => by
    have h1 := HA.out.2.1
    unfold patsHd at h1
    unfold patsQ
    rw [h0] at h1 ⊢
    rw [if_neg (by simp)] at h1 ⊢
    cases h1
    exact ⟨⟨rfl, rfl⟩, rfl⟩)
  cases a with
  | false =>
    obtain ⟨⟨rfl, rfl⟩, hQ⟩ := NOK.out (by unfold okPats; rw [decide_eq_false_iff_not]; exact fun h => (of_decide_eq_false HA.out.1) h.1)
    have HQ := Go.Lib.hid hQ
    clear hQ
    go_enter Try.func20, Try.ntmps20
    go_wp2_with fail
    refine (C1.out).mono ?_
    rintro e w1 ⟨rfl, hd⟩
    have H1 := Go.Lib.hid hd
    clear hd
    go_wp2_with fail
    go_ret2
    exact ll_none (H1.out.alloc H1.out.size _) H1.out.size (MADE.out w1).2 _ HQ.out
  | true =>
    by_cases hk1 : k < 1
    · obtain ⟨⟨rfl, rfl⟩, hQ⟩ := NOK.out (by unfold okPats; rw [decide_eq_false_iff_not]; exact fun h => by omega)
      have HQ := Go.Lib.hid hQ
      clear hQ
      go_enter Try.func20, Try.ntmps20
      go_wp2_with fail
      refine (C1.out).mono ?_
      rintro e w1 ⟨rfl, hd⟩
      have H1 := Go.Lib.hid hd
      clear hd
      go_wp2_with fail
      go_ret2
      exact ll_none (H1.out.alloc H1.out.size _) H1.out.size (MADE.out w1).2 _ HQ.out
    by_cases hk7 : 7 < k
    · obtain ⟨⟨rfl, rfl⟩, hQ⟩ := NOK.out (by unfold okPats; rw [decide_eq_false_iff_not]; exact fun h => by omega)
      have HQ := Go.Lib.hid hQ
      clear hQ
      go_enter Try.func20, Try.ntmps20
      go_wp2_with fail
      refine (C1.out).mono ?_
      rintro e w1 ⟨rfl, hd⟩
      have H1 := Go.Lib.hid hd
      clear hd
      go_wp2_with fail
      go_ret2
      exact ll_none (H1.out.alloc H1.out.size _) H1.out.size (MADE.out w1).2 _ HQ.out
    have hord : Ord zs := of_decide_eq_true HA.out.1
    obtain ⟨kk, rfl⟩ : ∃ kk : Nat, k = (kk : Int) := ⟨k.toNat, by omega⟩
    have hok : okPats zs (kk : Int) = true := by unfold okPats; rw [decide_eq_true_eq]; exact ⟨hord, by omega, by omega⟩
    have hmb : m = kk ∧ b = true := by
      have h1 := HA.out.2.1
      unfold patsHd at h1
      rw [if_pos hok, Int.toNat_natCast] at h1
      cases h1
      exact ⟨rfl, rfl⟩
    obtain ⟨rfl, rfl⟩ := hmb
    have hln := HA.out.2.2
    have hn1 : 1 ≤ n := by have := hord.1; omega
    have hn7 : n ≤ 7 := by have := hord.2.1; omega
    have hm1 : 1 ≤ m := by omega
    have hm7 : m ≤ 7 := by omega
    have CH := Go.Lib.hid (fun (X : World) => allPlaces_any n m hn7 hm7 X)
    obtain ⟨N, hN⟩ : ∃ N, (ch n m []).length = N := ⟨_, rfl⟩
    have hN128 : N ≤ 128 := by rw [← hN]; exact ch_128 n (by omega) m (by omega)
    have HSH : Hid ((shs zs m).length = N) := Go.Lib.hid (by unfold shs; rw [List.length_map, hln]; exact hN)
    have HN := Go.Lib.hid (And.intro hN (And.intro hord hok))
    obtain ⟨j0, hj, hy0, hy1, hy2⟩ := info_parts infoL
    clear hN hord hok hln NOK
    go_enter Try.func20, Try.ntmps20
    go_wp2_with fail
    refine (C1.out).mono ?_
    rintro e w1 ⟨rfl, hd⟩
    have H1 := Go.Lib.hid hd
    clear hd
    go_wp2_with fail
    refine (CH.out _).mono ?_
    rintro e w2 ⟨rv, rfl, hL, hb⟩
    obtain ⟨ra, rc, rfl⟩ := lists_value hL
    rw [List.length_map, HN.out.1] at hL ⊢
    have hb12 := (MADE.out w1).1.trans (hb.mono (MADE.out w1).1.size)
    have H2 := Go.Lib.hid (And.intro (H1.out.trans (hb12.mono H1.out.size)) (And.intro (own_lower (kept_call (MADE.out w1).2 hb) H1.out.size) hL))
    have hWle := H1.out.size
    clear hb hL hb12
    go_wp2_with fail
    go_loopw [6, 27] (fun ov iv wr => ∃ (i g c : Nat), i ≤ N ∧ iv = .int .i64 i ∧ ov = .slice (some ⟨g, 0, none⟩) i c ∧
      Hid (Lists wr W.heap.size m (.slice (some ⟨g, 0, none⟩) i c) (((shs zs m).take i).map vals) ∧ Below W.heap.size W wr ∧ Lists wr W.heap.size m (.slice ra N rc) ((ch n m []).map nv) ∧ ∀ a, (Value.slice ra N rc).ownBlock = some a → g ≠ a)) (fun _ i _ => N - (intOf i).toNat)
    case atStart => exact ⟨0, w1.heap.size, 0, Nat.zero_le _, rfl, rfl, Go.Lib.hid ⟨⟨[], by simp, by simpa using H2.out.2.1, fun i hi => absurd hi (by simp), by simp, fun p hp => by simp at hp⟩, H2.out.1, Lists.lower H2.out.2.2 (by simp; omega), fun a ha e => by
      obtain ⟨_, _, ho, _⟩ := H2.out.2.2
      have h1 := (ho.lt a ha).1
      simp at h1
      omega⟩⟩
    case round =>
      obtain ⟨i, g, c, hiN, rfl, rfl, HX⟩ := hrel
      clear H2
      by_cases hlt : i < N
      · obtain ⟨wj, rfl⟩ : ∃ wj, wj = wr := ⟨_, rfl⟩
        have hil : i < (ch n m []).length := by rw [HN.out.1]; exact hlt
        obtain ⟨q, hq⟩ : ∃ q, (ch n m [])[i] = q := ⟨_, rfl⟩
        have hqm : q ∈ ch n m [] := by rw [← hq]; exact List.getElem_mem _
        have hqn := (ch_asc _ _ (asc_nil _) q hqm).2
        obtain ⟨g2, p1, p2, e0, hck, hob⟩ := lists_at (by rw [List.length_map, HN.out.1]) hlt HX.out.2.2.1
        subst e0
        have hgd : ((ch n m []).map nv).getD i [] = nv q := by rw [← hq]; simp [hil]
        rw [hgd] at hob
        have CA := Go.Lib.hid (numbersAt_any zs q wj _ (.slice (some ⟨p1, 0, none⟩) m p2) n m (HV.out.grow HX.out.2.1) (Sees.owns hob) (by omega) (by omega) hqn)
        have htk : (shs zs m).take (i + 1) = (shs zs m).take i ++ [shp (pick zs q)] := by
          rw [List.take_succ_eq_append_getElem (by rw [HSH.out]; exact hlt)]
          congr 1
          unfold shs
          simp only [List.getElem_map, HA.out.2.2, hq]
        have HE := Go.Lib.hid (And.intro htk hqn)
        have hlti : (i : Int) < (N : Int) := by omega
        clear hq hqm hqn hgd hob htk hil
        go_wp2_with fail
        refine (CA.out).mono ?_
        rintro e w4 ⟨g3, c3, rfl, ho3, hb3⟩
        have CSh := Go.Lib.hid (implShape_any (pick zs q) w4 _ m (by omega) (Sees.owns ho3))
        have H4 := Go.Lib.hid hb3
        clear ho3 hb3 CA hck
        go_wp2_with fail
        refine (CSh.out).mono ?_
        rintro e w5 ⟨u5, rfl, ho5, hb5⟩
        obtain ⟨g5, c5, rfl⟩ := own_pos ho5 (by omega)
        have hb45 := H4.out.trans (hb5.mono H4.out.size)
        have hp5 : w4.heap.size ≤ g5 := (ho5.lt g5 rfl).1
        have hjW := HX.out.2.1.size
        obtain ⟨gs, hg, hog, hin, hnd, _⟩ := HX.out.1
        have hli : (((shs zs m).take i).map vals).length = i := by rw [List.length_map, List.length_take, HSH.out]; omega
        rw [hli] at hg hog hin
        have hba : Below w5.heap.size w5 (w5.alloc (.cells #[.slice (some ⟨g5, 0, none⟩) m c5] 24)) := (Below.refl _ _).alloc (Nat.le_refl _) _
        have hbj := hb45.trans (hba.mono hb45.size)
        have hg2lt : g2 < (w5.alloc (.cells #[.slice (some ⟨g5, 0, none⟩) m c5] 24)).heap.size := by
          obtain ⟨_, _, ho, _⟩ := HX.out.2.2.1.kept hbj
          rw [List.length_map, HN.out.1] at ho
          exact (ho.lt g2 rfl).2
        have HG := Go.Lib.hid (And.intro hg (And.intro hin (And.intro hnd (And.intro hli (And.intro hp5 (own_lower ho5 (Nat.le_trans hjW H4.out.size)))))))
        have HX4 := Go.Lib.hid (And.intro (kept_call hog hbj) (And.intro (fun i2 (hi2 : i2 < i) => kept_call (hin i2 hi2) hbj) (And.intro (kept_call (own_lower ho5 (Nat.le_trans hjW H4.out.size)) hba) (And.intro (HX.out.2.1.trans (hbj.mono hjW)) (And.intro (HX.out.2.2.1.kept hbj) (And.intro HX.out.2.2.2 hg2lt))))))
        have hsz5 : W.heap.size ≤ w5.heap.size := Nat.le_trans hjW hb45.size
        clear hg2lt ho5 hb5 hb45 CSh hg hog hin hnd hba hbj hli hp5
        go_wp2_with (at_builtin; refine wpList_append_two _ rfl _ _ 38 rfl W.heap.size 24 j0 (.slice none 0 0) 1 24 Try.underlying38 hj hy0 hy1 hy2 rfl (by decide) (.slice (some ⟨g, 0, none⟩) i c) i (gs.map (sl m)) rfl HX4.out.1 ⟨w5.heap.size, 0, none⟩ 1 1 [.slice (some ⟨g5, 0, none⟩) m c5] rfl rfl (cell_one_new _ _ _) (fun x hx => by simp at hx; subst hx; rfl) (by unfold maxLen; omega) (by omega) (by simp; omega) ?_; intro v' w6 hown6 hgrow6 hnew6)
        obtain ⟨g6, c6, rfl⟩ := ownsRow_succ hown6
        have hL6 : Lists w6 W.heap.size m (.slice (some ⟨g6, 0, none⟩) (i + 1) c6) (((shs zs m).take i).map vals ++ [vals (shp (pick zs q))]) :=
          lists_snoc (p := (g5, c5)) HG.out.2.2.2.1 HG.out.1 HX4.out.1 HX4.out.2.1 HG.out.2.2.1 HX4.out.2.2.1 (fun i2 hi2 => by
            have h1 := own_block_lt (HG.out.2.1 i2 hi2) (q := (gs.getD i2 (0, 0)).1) rfl
            have h2 := HG.out.2.2.2.2.1
            have h3 := H4.out.size
            show (gs.getD i2 (0, 0)).1 ≠ g5
            omega) hown6 hgrow6
        have e6 : ((shs zs m).take i).map vals ++ [vals (shp (pick zs q))] = ((shs zs m).take (i + 1)).map vals := by rw [HE.out.1]; simp
        rw [e6] at hL6
        have hb6 : Below W.heap.size W w6 := HX4.out.2.2.2.1.grown hgrow6 (by simp; omega) (fun q hq => (HX4.out.1.lt q hq).1)
        have hall6 := lists_mark HX4.out.2.2.2.2.1 HX4.out.1 hgrow6 (fun a ha e => by
          have h1 : g = a := Option.some.inj ha
          exact HX4.out.2.2.2.2.2.1 a e h1)
        have hne6 : ∀ a, (Value.slice (some ⟨g2, 0, none⟩) N rc).ownBlock = some a → g6 ≠ a := fun a ha e => by
          have h2 : g2 = a := Option.some.inj ha
          rcases hnew6 with h | h
          · have h3 : g6 = g := Option.some.inj h
            exact HX4.out.2.2.2.2.2.1 a ha (by rw [← h3]; exact e)
          · have h1 := h g6 rfl
            have h4 := HX4.out.2.2.2.2.2.2
            simp at h1
            simp at h4
            omega
        have H6 := Go.Lib.hid (And.intro hL6 (And.intro hb6 (And.intro hall6 hne6)))
        clear hown6 hgrow6 hnew6 hL6 hb6 hall6 hne6 e6 hsz5
        go_wp2
        go_roundw
        case rel => exact ⟨i + 1, g6, c6, by omega, by go_num, rfl, H6⟩
        case measure => simp [intOf]; omega
      · have hiN2 : i = N := by omega
        subst hiN2
        have hv6 := HX.out.1
        rw [List.take_of_length_le (by rw [HSH.out]; exact Nat.le_refl _)] at hv6
        have CS := Go.Lib.hid (sort_any zs m W.heap.size g c i HSH.out hN128 hm1 hm7 wr hv6)
        have hgW : W.heap.size ≤ g := by
          obtain ⟨_, _, ho, _⟩ := hv6
          exact (ho.lt g rfl).1
        have hlti : ¬ (i : Int) < (i : Int) := by omega
        clear hv6
        go_wp2_with fail
        refine (CS.out).mono ?_
        rintro e w7 ⟨rfl, R, hW, hRl, hRm, hL7, hg7⟩
        have CC := Go.Lib.hid (compact_any W.heap.size m g c R w7 (by rw [hRl]; exact hL7) hm1 (by omega) (fun x hx => shs_len ((hRm x).1 hx)) (by omega))
        rw [hRl] at CC
        have hb7 : Below W.heap.size W w7 := HX.out.2.1.grown hg7 HX.out.2.1.size (fun k e => by cases e; exact hgW)
        have HQ : Hid (patsQ zs (m : Int) (dd R)) := Go.Lib.hid (by
          unfold patsQ
          rw [if_pos HN.out.2.2, Int.toNat_natCast]
          exact ⟨dd_sorted hW, fun x => dd_mem.trans (hRm x)⟩)
        have H7 := Go.Lib.hid hb7
        clear hW hRl hRm hL7 hg7 hb7 CS
        go_wp2_with fail
        refine (CC.out).mono ?_
        rintro e w8 ⟨rfl, hL8, hg8⟩
        have H8 := Go.Lib.hid (And.intro hL8 (H7.out.grown hg8 H7.out.size (fun k e => by cases e; exact hgW)))
        clear hL8 hg8 CC
        go_wp2_with fail
        go_ret2
        exact ⟨_, dd R, rfl, HQ.out, H8.out.1, H8.out.2⟩

end Go.Proofs.Ytmnggcnipjdimab.PatsImplC
