/-
  Contracts: MostPlaces of the model and of the program. Conditions: lists of at most 2^20 numbers.
-/
import Derived.Test.YtddenfnoajdjiabMost
import Derived.Test.YtddenfnoajdjiabPub
import Derived.Test.YtddenfnoajdjiabSpecAv
namespace Go.Proofs.Ytddenfnoajdjiab.MostPubC
open Go.RowKit Go.Shelf SeesC IntsC ExactC OrdMath OrdFacts InC OrderC RankC AtC PatMath ShapeC ListsC ListsEC ListsFC ListsGC PlacesC HasC SpecPlC PubC AvMath OrdersIterC MostMath MostC SpecAvC

set_option maxRecDepth 100000 in
set_option maxHeartbeats 4000000 in
theorem l2Orders_any (n : Nat) (hn1 : 1 ≤ n) (hn7 : n ≤ 7) (W : World) :
    Calls Try.prog 122 #[.int .i64 (n : Int)] W fun e w' => ∃ v, e = .returned v ∧ Lists w' W.heap.size n v ((allOrd n).map vals) ∧ Below W.heap.size W w' := by
  obtain ⟨j0, hj, hy0, hy1, hy2⟩ := info_parts infoL
  have CW := Go.Lib.hid (fun W' => l2Ways_any n W' hn7)
  have CA := Go.Lib.hid (fun (k : Nat) W' (hk : k < fact n) => l2At_any n k W' hn1 hn7 hk)
  have HF := Go.Lib.hid (And.intro (fact_pos n) (fact_7 hn7))
  obtain ⟨f, hf⟩ : ∃ f, fact n = f := ⟨_, rfl⟩
  have HFF := Go.Lib.hid hf
  have hf1 : 1 ≤ f := by rw [← hf]; exact HF.out.1
  have hf2 : f ≤ 5040 := by rw [← hf]; exact HF.out.2
  rw [hf] at CW CA
  clear hf
  have HB0 : Hid (Lists (W.alloc (.cells #[] 24)) W.heap.size n (.slice (some ⟨W.heap.size, 0, none⟩) 0 0) ([] : List (List Value)) ∧ Below W.heap.size W (W.alloc (.cells #[] 24))) := Go.Lib.hid ⟨⟨[], rfl, World.ownsRow_made (base := W.heap.size) (e := 24) (size := 1) W #[] 0 (Nat.le_refl _) (by unfold maxLen; omega) rfl, fun i hi => absurd hi (by simp), by simp, fun p hp => by simp at hp⟩, (Below.refl _ _).alloc (Nat.le_refl _) _⟩
  go_enter Try.func122, Try.ntmps122
  go_wp2
  go_loopw [3, 4] (fun ov kv wr => ∃ (k g c : Nat) (Y : List (List Int)), k ≤ f ∧ kv = .int .i64 k ∧ ov = .slice (some ⟨g, 0, none⟩) k c ∧ Hid (Y = (allOrd n).take k ∧ Y.length = k) ∧ Hid (Lists wr W.heap.size n (.slice (some ⟨g, 0, none⟩) k c) (Y.map vals) ∧ Below W.heap.size W wr)) (fun _ k _ => f - (intOf k).toNat)
  case atStart => exact ⟨0, W.heap.size, 0, [], Nat.zero_le _, rfl, rfl, Go.Lib.hid ⟨by simp, rfl⟩, HB0⟩
  case round =>
    obtain ⟨k, g, c, Y, hk, rfl, rfl, HY, HX⟩ := hrel
    clear HB0
    by_cases hlt : k < f
    · obtain ⟨wj, rfl⟩ : ∃ wj, wj = wr := ⟨_, rfl⟩
      obtain ⟨gs, hg, hog, hin, hnd, hne⟩ := HX.out.1
      rw [List.length_map, HY.out.2] at hg hog hin
      have HG := Go.Lib.hid (And.intro hg (And.intro hog (And.intro hin hnd)))
      have hlti : (k : Int) < (f : Int) := by omega
      have HT := Go.Lib.hid (all_take (m := n) (k := k) (by rw [HFF.out]; exact hlt))
      have CK := Go.Lib.hid (CA.out k wj hlt)
      obtain ⟨x, hx⟩ : ∃ x, atRun n (iota n) k = x := ⟨_, rfl⟩
      rw [hx] at HT CK
      clear hg hog hin hnd hne hx
      go_wp2_with fail
      refine (CW.out _).mono ?_
      rintro e wq ⟨rfl, hwq⟩
      obtain rfl : wj = wq := hwq
      go_wp2_with fail
      refine (CK.out).mono ?_
      rintro e w3 ⟨gu, cu, rfl, ho, hb⟩
      have hwjl := HX.out.2.size
      have H3 := Go.Lib.hid (And.intro ho (And.intro hb (HX.out.2.trans (hb.mono hwjl))))
      clear ho hb CK
      have hsz4 := H3.out.2.2.size
      have hba : Below W.heap.size W (w3.alloc (.cells #[.slice (some ⟨gu, 0, none⟩) n cu] 24)) := H3.out.2.2.alloc hsz4 _
      have hbj : Below wj.heap.size wj (w3.alloc (.cells #[.slice (some ⟨gu, 0, none⟩) n cu] 24)) := H3.out.2.1.alloc (H3.out.2.1.size) _
      have HX4 := Go.Lib.hid (And.intro (kept_call HG.out.2.1 hbj) (And.intro (fun i (hi : i < k) => kept_call (HG.out.2.2.1 i hi) hbj) (And.intro (H3.out.1.alloc (.cells #[.slice (some ⟨gu, 0, none⟩) n cu] 24)) hba)))
      clear hba hbj
      go_wp2_with (at_builtin; refine wpList_append_own _ rfl _ _ 38 rfl W.heap.size 24 j0 (.slice none 0 0) 1 24 Try.underlying38 hj hy0 hy1 hy2 rfl (by decide) (.slice (some ⟨g, 0, none⟩) k c) k (gs.map (sl n)) rfl HX4.out.1 ⟨w3.heap.size, 0, none⟩ 1 1 [.slice (some ⟨gu, 0, none⟩) n cu] rfl rfl (cell_one_new _ _ _) (fun x hx => by simp at hx; subst hx; rfl) (by unfold maxLen; omega) (by omega) (by simp; omega) ?_; intro v' w5 hown5 hgrow5 hnil5)
      obtain ⟨g5, c5, rfl⟩ := ownsRow_succ hown5
      have hL5 : Lists w5 W.heap.size n (.slice (some ⟨g5, 0, none⟩) (k + 1) c5) (Y.map vals ++ [vals x]) :=
        lists_snoc (p := (gu, cu)) (by rw [List.length_map, HY.out.2]) HG.out.1 HX4.out.1 HX4.out.2.1 HG.out.2.2.2 (own_lower HX4.out.2.2.1 hwjl) (fun i hi => by
          have h1 := own_block_lt (HG.out.2.2.1 i hi) (q := (gs.getD i (0, 0)).1) rfl
          have h2 := own_block_lt H3.out.1 (q := gu) rfl
          show (gs.getD i (0, 0)).1 ≠ gu
          omega) hown5 hgrow5
      have hb5 : Below W.heap.size W w5 := HX4.out.2.2.2.grown hgrow5 (by simp; omega) (fun q hq => (HX4.out.1.lt q hq).1)
      have HY5 : Hid (Y ++ [x] = (allOrd n).take (k + 1) ∧ (Y ++ [x]).length = k + 1) := Go.Lib.hid ⟨by rw [HT.out, HY.out.1], by rw [List.length_append, HY.out.2]; rfl⟩
      have e6 : Y.map vals ++ [vals x] = (Y ++ [x]).map vals := by simp
      rw [e6] at hL5
      have H5 := Go.Lib.hid (And.intro hL5 hb5)
      clear hown5 hgrow5 hnil5 hL5 hb5 e6 hsz4
      go_wp2
      go_roundw
      case rel => exact ⟨k + 1, g5, c5, _, by omega, by go_num, rfl, HY5, H5⟩
      case measure => simp [intOf]; omega
    · have hkf : k = f := by omega
      subst hkf
      have HZ : Hid (Y = allOrd n) := Go.Lib.hid (by rw [HY.out.1, List.take_of_length_le (by rw [allOrd_len, HFF.out]; exact Nat.le_refl _)])
      have hlti : ¬ (k : Int) < (k : Int) := by omega
      go_wp2_with fail
      refine (CW.out _).mono ?_
      rintro e wq ⟨rfl, hwq⟩
      obtain rfl : wr = wq := hwq
      go_wp2
      go_ret
      exact ⟨_, rfl, by rw [← HZ.out]; exact HX.out.1, HX.out.2⟩

set_option maxRecDepth 100000 in
set_option maxHeartbeats 4000000 in
theorem specMost (n : Int) (p : List Int) (xs : List Int) (mx : Int) (b : Bool) (h : mostAns n p = (xs, mx, b)) (_hw : (Lit.int .i64 n).wf = true) (hz : p.length ≤ 1048576) (W : World) (u : Value) (q : Nat) (hu : Sees W u q (vals p)) :
    Calls Try.prog 47 #[.int .i64 n, u] W fun e w' => TripTo W e w' xs mx b := by
  have hq : q ≤ 1048576 := by have := hu.1; simp at this; omega
  obtain ⟨s, hs⟩ : ∃ s, decide (1 ≤ n ∧ n ≤ 7) = s := ⟨_, rfl⟩
  obtain ⟨c, hc⟩ : ∃ c, isOrd p = c := ⟨_, rfl⟩
  have C1 := Go.Lib.hid (fun W' => l3Size_any n W' s hs)
  have C2 := Go.Lib.hid (l2Order_any W u q p c hu hq hc)
  have HA := Go.Lib.hid (And.intro hs (And.intro hc h))
  have HU := Go.Lib.hid hu
  obtain ⟨_, ua, uc, rfl, -, -⟩ := hu
  clear h hs hc
  cases s with
  | false =>
    have h0 := HA.out.2.2
    unfold mostAns at h0
    rw [if_neg (fun h => (of_decide_eq_false HA.out.1) ⟨h.1, h.2.1⟩)] at h0
    cases h0
    go_enter Try.func47, Try.ntmps47
    go_wp2_with fail
    refine (C1.out _).mono ?_
    rintro e _ ⟨rfl, rfl⟩
    go_wp2_with fail
    go_ret3
    exact tripTo_none _ _ _
  | true =>
    have h17 : 1 ≤ n ∧ n ≤ 7 := of_decide_eq_true HA.out.1
    cases c with
    | false =>
      have h0 := HA.out.2.2
      unfold mostAns at h0
      rw [if_neg (fun h => (of_decide_eq_false HA.out.2.1) h.2.2)] at h0
      cases h0
      clear h17
      go_enter Try.func47, Try.ntmps47
      go_wp2_with fail
      refine (C1.out _).mono ?_
      rintro e w0 ⟨rfl, hw0⟩
      obtain rfl : W = w0 := hw0.symm
      clear hw0
      go_wp2_with fail
      refine (C2.out).mono ?_
      rintro e w1 ⟨rfl, hb⟩
      have H1 := Go.Lib.hid (hb.below W.heap.size)
      clear hb
      go_wp2_with fail
      go_ret3
      exact tripTo_below H1.out (tripTo_none _ _ _)
    | true =>
      obtain ⟨m, rfl⟩ : ∃ m : Nat, n = (m : Int) := ⟨n.toNat, by omega⟩
      have hm1 : 1 ≤ m := by omega
      have hm7 : m ≤ 7 := by omega
      have hpo : Ord p := of_decide_eq_true HA.out.2.1
      have hans : mostOf p (allOrd m) = (xs, mx) ∧ b = true := by
        have h0 := HA.out.2.2
        unfold mostAns at h0
        rw [if_pos ⟨h17.1, h17.2, hpo⟩, Int.toNat_natCast, mostTo_all] at h0
        cases h0
        exact ⟨rfl, rfl⟩
      obtain ⟨hans, rfl⟩ := hans
      have C3 := Go.Lib.hid (fun W' => l2Orders_any m hm1 hm7 W')
      have hf1 := fact_pos m
      have hf2 := fact_7 hm7
      obtain ⟨N, hNN⟩ : ∃ N, fact m = N := ⟨_, rfl⟩
      rw [hNN] at hf1 hf2
      have HNN := Go.Lib.hid hNN
      have HM := Go.Lib.hid (And.intro hans hpo)
      have HM7 : Hid (∀ x ∈ allOrd m, Ord x ∧ x.length = m) := Go.Lib.hid (fun x hx => ⟨((mem_allOrd hm1 hm7).1 hx).ord hm1 hm7, ((mem_allOrd hm1 hm7).1 hx).1⟩)
      clear hNN h17 hans hpo
      go_enter Try.func47, Try.ntmps47
      go_wp2_with fail
      refine (C1.out _).mono ?_
      rintro e w0 ⟨rfl, hw0⟩
      obtain rfl : W = w0 := hw0.symm
      clear hw0
      go_wp2_with fail
      refine (C2.out).mono ?_
      rintro e w1 ⟨rfl, hb⟩
      have H1 := Go.Lib.hid (hb.below W.heap.size)
      clear hb
      go_wp2_with fail
      refine (C3.out w1).mono ?_
      rintro e w2 ⟨rv, rfl, hL, hb⟩
      obtain ⟨g, cp, rfl⟩ := lists_value hL
      rw [List.length_map, allOrd_len, HNN.out]
      have H2 := Go.Lib.hid (And.intro (H1.out.trans (hb.mono H1.out.size)) hL)
      clear hb hL
      obtain ⟨gs, hg, hog, hin, _, _⟩ := H2.out.2
      rw [List.length_map, allOrd_len, HNN.out] at hg hog hin
      obtain ⟨gg, cc, e0⟩ := own_pos hog (by omega)
      cases e0
      have hrow : ∀ i, i < N → w2.cell? ⟨gg, i, none⟩ = some (.slice (some ⟨(gs.getD i (0, 0)).1, 0, none⟩) m (gs.getD i (0, 0)).2) ∧ w2.ownsRow w1.heap.size 3 1 (.slice (some ⟨(gs.getD i (0, 0)).1, 0, none⟩) m (gs.getD i (0, 0)).2) m (vals ((allOrd m).getD i [])) := fun i hi => by
        refine ⟨by rw [hog.cellAt i (by omega)]; simp [show i < gs.length by omega, sl], ?_⟩
        have h1 := hin i hi
        have e1 : ((allOrd m).map vals).getD i [] = vals ((allOrd m).getD i []) := by
          have hi2 : i < (allOrd m).length := by rw [allOrd_len, HNN.out]; exact hi
          simp [hi2]
        rw [e1] at h1
        exact h1
      have HR := Go.Lib.hid hrow
      obtain ⟨hc0, ho0⟩ := hrow 0 (by omega)
      have hNpos : (0 : Int) < (N : Int) := by omega
      have hNpos2 : 0 < N := by omega
      obtain ⟨p0, hp0⟩ : ∃ p0, gs.getD 0 (0, 0) = p0 := ⟨_, rfl⟩
      rw [hp0] at hc0 ho0
      obtain ⟨q1, q2⟩ := p0
      simp only at hc0 ho0
      have HO0 := Go.Lib.hid ho0
      have HGL := Go.Lib.hid hp0
      clear hg hog hin hrow hp0 ho0
      go_wp2_with fail
      go_loopw [8, 9, 10] (fun bv mv iv wr => ∃ (i q1 q2 : Nat) (bm : Int), i ≤ N ∧ iv = .int .i64 i ∧ mv = .int .i64 bm ∧ -1 ≤ bm ∧ bm ≤ 823543 ∧ bv = .slice (some ⟨q1, 0, none⟩) m q2 ∧
        Hid ((mostOf p ((allOrd m).take i)).2 = bm ∧ (1 ≤ i → (mostOf p ((allOrd m).take i)).1.length = m ∧ w2.ownsRow w1.heap.size 3 1 (.slice (some ⟨q1, 0, none⟩) m q2) m (vals (mostOf p ((allOrd m).take i)).1))) ∧ Hid (Below w2.heap.size w2 wr)) (fun _ _ i _ => N - (intOf i).toNat)
      case atStart => exact ⟨0, q1, q2, -1, Nat.zero_le _, rfl, rfl, by omega, by omega, rfl, Go.Lib.hid ⟨by simp [mostOf], fun h => absurd h (by omega)⟩, Go.Lib.hid (Below.refl _ _)⟩
      case round =>
        obtain ⟨i, q1, q2, bm, hiN, rfl, rfl, hb1, hb2, rfl, HB, HW⟩ := hrel
        clear HO0 hc0
        by_cases hlt : i < N
        · obtain ⟨wj, rfl⟩ : ∃ wj, wj = wr := ⟨_, rfl⟩
          obtain ⟨hck0, hox⟩ := HR.out i hlt
          have hil : i < (allOrd m).length := by rw [allOrd_len, HNN.out]; exact hlt
          obtain ⟨x, hx⟩ : ∃ x, (allOrd m).getD i [] = x := ⟨_, rfl⟩
          have hxe : (allOrd m)[i] = x := by rw [← hx]; simp [hil]
          have hxm := HM7.out x (by rw [← hxe]; exact List.getElem_mem _)
          have hstep : mostOf p ((allOrd m).take (i + 1)) = better p (mostOf p ((allOrd m).take i)) x := by
            rw [List.take_succ_eq_append_getElem hil, mostOf_snoc, hxe]
          obtain ⟨pr, hpr⟩ : ∃ pr, gs.getD i (0, 0) = pr := ⟨_, rfl⟩
          rw [hpr] at hck0 hox
          rw [hx] at hox
          obtain ⟨p1, p2⟩ := pr
          simp only at hck0 hox
          have hlt2 := World.block_lt_of_cell? w2 _ hck0
          have hck : wj.cell? ⟨gg, i, none⟩ = some (.slice (some ⟨p1, 0, none⟩) m p2) := (HW.out.cell (p := ⟨gg, i, none⟩) hlt2).trans hck0
          have hbW := H2.out.1.trans (HW.out.mono H2.out.1.size)
          have CP := Go.Lib.hid (l3Places_any x p hxm.1.1 hxm.1.2.1 HM.out.2 wj (.slice (some ⟨p1, 0, none⟩) m p2) _ m q (Sees.owns (kept_call hox HW.out)) (HU.out.grow hbW))
          obtain ⟨cn, hcn⟩ : ∃ cn, (placesOf x p).length = cn := ⟨_, rfl⟩
          have hcb : cn ≤ 823543 := by rw [← hcn]; exact Nat.le_trans (List.length_filter_le _ _) (ch_823543 hxm.1.2.1 HM.out.2.2.1)
          have HS := Go.Lib.hid (And.intro hstep (And.intro hox (And.intro hcn (And.intro hxm.2 (And.intro hck0 hlt2)))))
          have hlti : (i : Int) < (N : Int) := by omega
          clear hx hxe hxm hil hstep hpr hck0 hox hcn hbW hlt2
          go_wp2_with fail
          refine (CP.out).mono ?_
          rintro e w3 ⟨rv3, rfl, hL3, hb3⟩
          obtain ⟨a3, c3, rfl⟩ := lists_value hL3
          rw [List.length_map, HS.out.2.2.1]
          have H3 := Go.Lib.hid (HW.out.trans (hb3.mono HW.out.size))
          have hck3 : w3.cell? ⟨gg, i, none⟩ = some (.slice (some ⟨p1, 0, none⟩) m p2) := (H3.out.cell (p := ⟨gg, i, none⟩) HS.out.2.2.2.2.2).trans HS.out.2.2.2.2.1
          clear hb3 hL3 CP hck
          by_cases hgt : bm < (cn : Int)
          · have HN : Hid ((mostOf p ((allOrd m).take (i + 1))).2 = (cn : Int) ∧ (1 ≤ i + 1 → (mostOf p ((allOrd m).take (i + 1))).1.length = m ∧ w2.ownsRow w1.heap.size 3 1 (.slice (some ⟨p1, 0, none⟩) m p2) m (vals (mostOf p ((allOrd m).take (i + 1))).1))) := Go.Lib.hid (by
              rw [HS.out.1]; unfold better
              rw [HS.out.2.2.1, if_pos (by rw [HB.out.1]; exact hgt)]
              exact ⟨rfl, fun _ => ⟨HS.out.2.2.2.1, HS.out.2.1⟩⟩)
            go_wp2_with fail
            go_roundw
            case rel => exact ⟨i + 1, p1, p2, (cn : Int), by omega, by go_num, rfl, by omega, by omega, rfl, HN, H3⟩
            case measure => simp [intOf]; omega
          · have hi1 : 1 ≤ i := by
              rcases Nat.eq_zero_or_pos i with h | h
              · exfalso
                have h1 := HB.out.1
                rw [h] at h1
                simp [mostOf] at h1
                omega
              · exact h
            have HN : Hid ((mostOf p ((allOrd m).take (i + 1))).2 = bm ∧ (1 ≤ i + 1 → (mostOf p ((allOrd m).take (i + 1))).1.length = m ∧ w2.ownsRow w1.heap.size 3 1 (.slice (some ⟨q1, 0, none⟩) m q2) m (vals (mostOf p ((allOrd m).take (i + 1))).1))) := Go.Lib.hid (by
              rw [HS.out.1]; unfold better
              rw [HS.out.2.2.1, if_neg (by rw [HB.out.1]; exact hgt)]
              exact ⟨HB.out.1, fun _ => HB.out.2 hi1⟩)
            clear hi1
            go_wp2_with fail
            go_roundw
            case rel => exact ⟨i + 1, q1, q2, bm, by omega, by go_num, rfl, by omega, by omega, rfl, HN, H3⟩
            case measure => simp [intOf]; omega
        · have hiN2 : i = N := by omega
          have HF : Hid (mostOf p ((allOrd m).take i) = (xs, mx)) := Go.Lib.hid (by rw [List.take_of_length_le (by rw [allOrd_len, HNN.out]; omega)]; exact HM.out.1)
          have hbm : bm = mx := by rw [← HB.out.1, HF.out]
          subst hbm
          have HG : Hid (xs.length = m ∧ w2.ownsRow w1.heap.size 3 1 (.slice (some ⟨q1, 0, none⟩) m q2) m (vals xs)) := Go.Lib.hid (by have h1 := HB.out.2 (by omega); rw [HF.out] at h1; exact h1)
          have hlti : ¬ (i : Int) < (N : Int) := by omega
          clear hiN2
          go_wp2_with fail
          go_ret3
          refine ⟨_, rfl, ?_, H2.out.1.trans (HW.out.mono H2.out.1.size)⟩
          rw [HG.out.1]
          exact own_lower (kept_call HG.out.2 HW.out) H1.out.size

set_option maxRecDepth 100000 in
set_option maxHeartbeats 4000000 in
theorem implMost (n : Int) (p : List Int) (xs : List Int) (mx : Int) (b : Bool) (h : mostAns n p = (xs, mx, b)) (_hw : (Lit.int .i64 n).wf = true) (hz : p.length ≤ 1048576) (W : World) (u : Value) (q : Nat) (hu : Sees W u q (vals p)) :
    Calls Try.prog 46 #[.int .i64 n, u] W fun e w' => TripTo W e w' xs mx b := by
  have hq : q ≤ 1048576 := by have := hu.1; simp at this; omega
  by_cases h17 : 1 ≤ n ∧ n ≤ 7
  · obtain ⟨m, rfl⟩ : ∃ m : Nat, n = (m : Int) := ⟨n.toNat, by omega⟩
    by_cases hp : Ord p
    · unfold mostAns at h
      rw [if_pos ⟨h17.1, h17.2, hp⟩, Int.toNat_natCast, mostTo_all] at h
      cases h
      exact callsIn_wide.1 (implMost_in 3 (by omega) m (by omega) (by omega) p hp _ _ rfl W u q hu)
    · have hpf : isOrd p = false := by unfold isOrd; rw [decide_eq_false_iff_not]; exact hp
      have h1i : ¬ (m : Int) < 1 := by omega
      have h7i : ¬ (7 : Int) < (m : Int) := by omega
      have CP := Go.Lib.hid (fun (W' : World) (h : Below W.heap.size W W') => implOrder_any W' u q p false (hu.grow h) hq hpf)
      unfold mostAns at h
      rw [if_neg (fun h => hp h.2.2)] at h
      cases h
      obtain ⟨_, ua, uc, rfl, -, -⟩ := hu
      have hB0 : Below W.heap.size W (W.alloc (.cells #[.slice ua q uc] 24)) := (Below.refl _ W).alloc (Nat.le_refl _) _
      have HB0 := Go.Lib.hid hB0
      clear hp hpf h17 hB0
      go_enter Try.func46, Try.ntmps46
      go_wp2_with fail
      refine (CP.out _ HB0.out).mono ?_
      rintro e w1 ⟨rfl, hb⟩
      have H1 := Go.Lib.hid (HB0.out.trans (hb.mono HB0.out.size))
      clear hb
      go_wp2_with fail
      go_ret3
      exact tripTo_below H1.out (tripTo_none _ _ _)
  · unfold mostAns at h
    rw [if_neg (fun h => h17 ⟨h.1, h.2.1⟩)] at h
    cases h
    obtain ⟨_, ua, uc, rfl, -, -⟩ := hu
    have hB0 : Below W.heap.size W (W.alloc (.cells #[.slice ua q uc] 24)) := (Below.refl _ W).alloc (Nat.le_refl _) _
    have HT := Go.Lib.hid (tripTo_none (W.alloc (.cells #[.slice ua q uc] 24)) 0 false)
    by_cases h1 : n < 1
    · clear h17
      go_enter Try.func46, Try.ntmps46
      go_wp2
      go_ret3
      have hh := tripTo_below hB0 HT.out
      simp only [World.size_alloc] at hh
      exact hh
    · have h7 : 7 < n := by omega
      clear h17
      go_enter Try.func46, Try.ntmps46
      go_wp2
      go_ret3
      have hh := tripTo_below hB0 HT.out
      simp only [World.size_alloc] at hh
      exact hh

end Go.Proofs.Ytddenfnoajdjiab.MostPubC
