/-
  Contract: the program lists what comes out of an order by all words. Conditions: lists of at most 2^20 numbers.
-/
import Derived.Test.YtomheoaophomlabOutsSpec
import Derived.Test.YtomheoaophomlabSortAny
import Derived.Test.YtomheoaophomlabSigns
import Derived.Test.YtomheoaophomlabWordsOf
import Derived.Test.YtomheoaophomlabOrdC0
namespace Go.Proofs.Ytomheoaophomlab.OutsImplC
open Go.RowKit SeesC IntsC ExactC CmpC ListsC ListsBC ListsCC IterC OrdMath WordMath OrderC WordC RunC SignsC WordsC WordsOfC WordFacts PutC OutsMath OutsSpecC SortAnyC OrdC0

theorem types_ne {w : World} {b1 b2 n1 n2 g1 g2 c1 c2 : Nat} {t1 t2 : TypeId} {xs ys : List Value} (h1 : w.ownsRow b1 t1 1 (.slice (some ⟨g1, 0, none⟩) n1 c1) n1 xs) (h2 : w.ownsRow b2 t2 1 (.slice (some ⟨g2, 0, none⟩) n2 c2) n2 ys) (ht : t1 ≠ t2) : g1 ≠ g2 := by
  rcases h1.2 with ⟨h0, _⟩ | ⟨_, _, _, e1, _, hb1, _⟩
  · cases h0
  · rcases h2.2 with ⟨h0, _⟩ | ⟨_, _, _, e2, _, hb2, _⟩
    · cases h0
    · cases e1; cases e2
      intro e
      subst e
      rw [hb1] at hb2
      cases hb2
      exact ht rfl

set_option maxRecDepth 100000 in
set_option maxHeartbeats 1000000 in
theorem implOuts (zs : List Int) (hz : zs.length ≤ 1048576) (W : World) (v : Value) (n : Nat) (hv : Sees W v n (vals zs)) :
    Calls Try.prog 7 #[v] W fun e w' => OutsTo W zs e w' := by
  have hl : zs.length = n := by simpa using hv.1
  have hn : n ≤ 1048576 := by omega
  have HV := Go.Lib.hid hv
  have hv2 := hv
  obtain ⟨_, adr, cap, rfl, _, _⟩ := hv2
  by_cases h17 : 1 ≤ n ∧ n ≤ 7
  · obtain ⟨hn1, hn7⟩ := h17
    obtain ⟨r, hr⟩ : ∃ r, isOrd zs = r := ⟨_, rfl⟩
    obtain ⟨WS, hWS⟩ : ∃ WS, wordsN n = WS := ⟨_, rfl⟩
    obtain ⟨M, hM⟩ : ∃ M, WS.length = M := ⟨_, rfl⟩
    have hM1 : 1 ≤ M := by
      have h1 := words_some hn1
      rw [hWS] at h1
      have : WS.length ≠ 0 := fun e => h1 (List.eq_nil_of_length_eq_zero e)
      omega
    have hMk : M ≤ 16384 := by
      rw [← hM, ← hWS]; exact wordsFrom_16k (by omega)
    have CW := Go.Lib.hid (implWords (n : Int) WS true (by unfold wordsAns; rw [if_pos (by omega), Int.toNat_natCast, ← hWS]; rfl) (wf_small (by omega) (by omega)) W)
    have CO := Go.Lib.hid (fun w' (h : Below W.heap.size W w') => implOrder_any w' _ n zs r (hv.grow h) hn hr)
    have HWS := Go.Lib.hid (And.intro hWS hM)
    cases r
    · have HNO := Go.Lib.hid (of_decide_eq_false hr : ¬ Ord zs)
      clear hv hr hWS hM
      go_enter Try.func7, Try.ntmps7
      go_wp2_with fail
      refine (CW.out).mono ?_
      rintro e w1 ⟨vw, rfl, how, hbw⟩
      have HB := Go.Lib.hid hbw
      clear how hbw
      go_wp2_with fail
      refine (CO.out _ HB.out).mono ?_
      rintro e w2 ⟨rfl, hb2⟩
      have HB2 := Go.Lib.hid (HB.out.trans (hb2.mono HB.out.size))
      clear hb2
      go_wp2_with fail
      go_ret2
      exact outsTo_below HB2.out (outsTo_none _ zs HNO.out)
    · have HO := Go.Lib.hid (of_decide_eq_true hr : Ord zs)
      have HR := Go.Lib.hid (And.intro hr hl)
      obtain ⟨i0, hi, hz0, hz1, hz2⟩ := info_parts infoL
      clear hv hr hWS hM hl
      go_enter Try.func7, Try.ntmps7
      go_wp2_with fail
      refine (CW.out).mono ?_
      rintro e w1 ⟨vw, rfl, how, hbw⟩
      rw [HWS.out.2] at how
      obtain ⟨gw, cw, rfl⟩ := own_pos how hM1
      have HB := Go.Lib.hid hbw
      have HW := Go.Lib.hid how
      clear how hbw
      go_wp2_with fail
      refine (CO.out _ HB.out).mono ?_
      rintro e w2 ⟨rfl, hb2⟩
      have HB2 := Go.Lib.hid (HB.out.trans (hb2.mono HB.out.size))
      have HW2 := Go.Lib.hid (kept_call HW.out hb2)
      have hbs := HB2.out.size
      clear hb2
      go_wp2_with (at_make; refine wpList_make_own _ rfl _ _ 23 rfl W.heap.size 22 i0 (.slice none 0 0) 1 Try.underlying23 hi hz0 hz1 .i64 .i64 _ M rfl rfl rfl (by rw [hz2]; omega) (by unfold maxLen; omega) hbs ?_; intro w3 hown3 hgrow3)
      have hb3 : Below W.heap.size W w3 := HB2.out.grown hgrow3 hbs (fun k hk => by cases hk)
      obtain ⟨g0, c0, hv0⟩ : ∃ g0 c0, (⟨g0, c0⟩ : Nat × Nat) = (w2.heap.size, M) := ⟨_, _, rfl⟩
      have HL0 : Hid (Lists w3 W.heap.size n (.slice (some ⟨w2.heap.size, 0, none⟩) 0 M) (([] : List (List Int)).map vals)) := Go.Lib.hid ⟨[], rfl, by simpa using hown3, fun i hi => absurd hi (by simp), by simp, fun p hp => by simp at hp⟩
      have HW3 := Go.Lib.hid (own_mark HW2.out hgrow3 (fun a ha e => by cases e))
      have HB3 := Go.Lib.hid hb3
      clear hown3 hgrow3 hb3 hbs hv0 CO CW
      go_wp2_with fail
      go_loopw [6, 28] (fun ov iv wr => ∃ (k g c : Nat) (L : List (List Int)), k ≤ M ∧ iv = .int .i64 k ∧ ov = .slice (some ⟨g, 0, none⟩) k c ∧ Hid (L = (WS.take k).map (runOut zs)) ∧ Hid (Lists wr W.heap.size n (.slice (some ⟨g, 0, none⟩) k c) (L.map vals)) ∧ Hid (wr.ownsRow W.heap.size 9 1 (.slice (some ⟨gw, 0, none⟩) M cw) M (WS.map Value.string)) ∧ Hid (Below W.heap.size W wr)) (fun _ i _ => M - (intOf i).toNat)
      case atStart => exact ⟨0, w2.heap.size, M, [], Nat.zero_le _, rfl, rfl, Go.Lib.hid (by simp), HL0, HW3, HB3⟩
      case round =>
        obtain ⟨k, g, c, L, hk, rfl, rfl, HL, HLS, HWD, HB4⟩ := hrel
        clear HL0 HW3 HB3
        by_cases hlt : k < M
        · have hWl := HWS.out.2
          obtain ⟨wd, hwd⟩ : ∃ wd, WS[k]'(by omega) = wd := ⟨_, rfl⟩
          have hck : wr.cell? ⟨gw, k, none⟩ = some (.string wd) := by
            rw [HWD.out.cellAt k (by omega)]
            simp [show k < WS.length by omega, hwd]
          have hall := words_all hn1 hn7
          have hWSe : wordsFrom (2 * n) 0 ByteArray.empty = WS := HWS.out.1
          rw [hWSe] at hall
          have hwm := hall.2 wd (by rw [← hwd]; exact List.getElem_mem _)
          have hzl := HR.out.2
          have CR := Go.Lib.hid (runSigns_any zs wd HO.out hwm.1 (by rw [hwm.2, hzl]) wr _ n (HV.out.grow HB4.out))
          have hol : (runOut zs wd).length = n := by rw [runOut_len hwm.1 (by rw [hwm.2, hzl]), hzl]
          have HF := Go.Lib.hid (And.intro hol (And.intro hwd hWl))
          have hlti : (k : Int) < (M : Int) := by omega
          clear hall hWSe hwm hzl hol
          go_wp2_with fail
          refine (CR.out).mono ?_
          rintro e w4 ⟨u, rfl, hou, hbu⟩
          rw [HF.out.1] at hou
          obtain ⟨gu, cu, rfl⟩ := own_pos hou hn1
          have hLl : (L.map vals).length = k := by rw [HL.out]; simp; have := HF.out.2.2; omega
          obtain ⟨gs, hg, hog, hin, hnd, hne⟩ := HLS.out
          rw [hLl] at hg hog hin
          have hgu := own_block_lt hou (q := gu) rfl
          have HG := Go.Lib.hid ((own_block_lt hog (q := g) rfl).2)
          have hBs := HB4.out.size
          have ho4 := kept_call hog hbu
          have hba : Below W.heap.size W (w4.alloc (.cells #[.slice (some ⟨gu, 0, none⟩) n cu] 22)) := (HB4.out.trans (hbu.mono hBs)).alloc (by have := hbu.size; omega) _
          have HA4 := Go.Lib.hid (And.intro (World.ownsRow.alloc ho4 (.cells #[.slice (some ⟨gu, 0, none⟩) n cu] 22)) (And.intro hba hba.size))
          have hbs4 : Below w4.heap.size w4 (w4.alloc (.cells #[.slice (some ⟨gu, 0, none⟩) n cu] 22)) := (Below.refl _ _).alloc (Nat.le_refl _) _
          have HX := Go.Lib.hid (And.intro (fun i (hi : i < k) => kept_call (kept_call (hin i hi) hbu) hbs4) (And.intro (kept_call hou hbs4) (And.intro hnd (And.intro hne (And.intro hg (And.intro (kept_call (kept_call HWD.out hbu) hbs4) (And.intro hgu (fun i (hi : i < k) => hin i hi))))))))
          have hk16 : k ≤ 16384 := by omega
          have hkx : k ≠ M := by omega
          clear hou hbu hLl hg hog hin hnd hne hgu hBs ho4 hba hbs4
          go_wp2_with (at_builtin; refine wpList_append_own _ rfl _ _ 23 rfl W.heap.size 22 i0 (.slice none 0 0) 1 24 Try.underlying23 hi hz0 hz1 hz2 rfl (by decide) (.slice (some ⟨g, 0, none⟩) k c) k (gs.map (sl n)) rfl HA4.out.1 ⟨w4.heap.size, 0, none⟩ 1 1 [.slice (some ⟨gu, 0, none⟩) n cu] rfl rfl (cell_one_new _ _ _) (fun x hx => by simp at hx; subst hx; rfl) (by unfold maxLen; omega) (by omega) HA4.out.2.2 ?_; intro v' w5 hown5 hgrow5 hnil5)
          obtain ⟨g5, c5, rfl⟩ := own_pos hown5 (by omega)
          have e5 : gs.map (sl n) ++ [Value.slice (some ⟨gu, 0, none⟩) n cu] = (gs.take k ++ [(gu, cu)] ++ gs.drop k).map (sl n) := by
            rw [List.take_of_length_le (by rw [HX.out.2.2.2.2.1]; exact Nat.le_refl _), List.drop_of_length_le (by rw [HX.out.2.2.2.2.1]; exact Nat.le_refl _)]
            simp [sl]
          rw [e5] at hown5
          have hLlen : L.length = k := by rw [HL.out]; simp; have := HF.out.2.2; omega
          have hgk : ∀ q ∈ gs, q.1 < wr.heap.size := fun q hq => by
            obtain ⟨i, hi2, hiq⟩ := List.mem_iff_getElem.1 hq
            have h1 := HX.out.2.2.2.2.2.2.2 i (by rw [← HX.out.2.2.2.2.1]; exact hi2)
            exact (own_block_lt h1 (q := q.1) (by rw [← hiq]; simp [sl, Value.ownBlock, hi2])).2
          have hin5 : ∀ i, i < k → w5.ownsRow W.heap.size 3 1 (sl n (gs.getD i (0, 0))) n ((L.map vals).getD i []) := fun i hi2 => own_mark (HX.out.1 i hi2) hgrow5 (fun a ha e => by
            have h1 := HX.out.2.2.2.1 (gs.getD i (0, 0)) (mem_getD (by rw [HX.out.2.2.2.2.1]; exact hi2))
            exact h1 (e.trans ha.symm |>.trans rfl))
          have hu5 : w5.ownsRow wr.heap.size 3 1 (sl n (gu, cu)) n (vals (runOut zs wd)) := own_mark HX.out.2.1 hgrow5 (fun a ha e => by
            have h2 : some gu = some a := ha
            have h3 : some g = some a := e
            have h4 : gu = g := Option.some.inj (h2.trans h3.symm)
            have h5 := HX.out.2.2.2.2.2.2.1.1
            have h6 := HG.out
            omega)
          have hF : Lists w5 W.heap.size n (.slice (some ⟨g5, 0, none⟩) (k + 1) c5) ((L ++ [runOut zs wd]).map vals) := by
            have hgu1 := HX.out.2.2.2.2.2.2.1.1
            have h1 := lists_put (X := w5) (base := W.heap.size) (n := n) (g := g5) (c := c5) (k := k) (gs := gs) (p := (gu, cu)) (L := L) (o := runOut zs wd) (by rw [HX.out.2.2.2.2.1, hLlen]) (by omega) (by rw [hLlen]; exact hown5) (by rw [hLlen]; exact hin5) (own_lower hu5 HB4.out.size) HX.out.2.2.1 (fun q hq e => by have h3 := hgk q hq; have h4 : q.1 = gu := e; omega) (fun q hq e => by
              obtain ⟨i, hi2, hiq⟩ := List.mem_iff_getElem.1 hq
              have h3 := hin5 i (by rw [← HX.out.2.2.2.2.1]; exact hi2)
              have h4 : gs.getD i (0, 0) = q := by rw [← hiq]; simp [hi2]
              rw [h4] at h3
              exact types_ne hown5 h3 (by decide) e.symm) (fun e => types_ne hown5 hu5 (by decide) e.symm)
            rw [hLlen, List.take_of_length_le (by omega), List.drop_of_length_le (by omega), List.append_nil] at h1
            exact h1
          have HLS5 := Go.Lib.hid hF
          have HL5 : Hid (L ++ [runOut zs wd] = (WS.take (k + 1)).map (runOut zs)) := Go.Lib.hid (by
            rw [List.take_succ_eq_append_getElem (by rw [HF.out.2.2]; exact hlt), HF.out.2.1, List.map_append, ← HL.out]; rfl)
          have HW5 := Go.Lib.hid (own_mark HX.out.2.2.2.2.2.1 hgrow5 (fun a ha e => by
            have h2 : some gw = some a := ha
            have h3 : some g = some a := e
            have h4 : gw = g := Option.some.inj (h2.trans h3.symm)
            exact types_ne HX.out.2.2.2.2.2.1 HA4.out.1 (by decide) h4))
          have HB5 := Go.Lib.hid (HA4.out.2.1.grown hgrow5 HA4.out.2.2 (fun q hq => (HA4.out.1.lt q hq).1))
          clear hown5 hgrow5 hnil5 e5 hLlen hgk hin5 hu5 hF
          go_wp2_with fail
          go_roundw
          case rel => exact ⟨k + 1, g5, c5, _, by omega, by go_num, rfl, HL5, HLS5, HW5, HB5⟩
          case measure => simp [intOf]; omega
        · have hkM : k = M := by omega
          have hzl := HR.out.2
          have hall := words_all hn1 hn7
          have hWSe : wordsFrom (2 * n) 0 ByteArray.empty = WS := HWS.out.1
          rw [hWSe] at hall
          have hLm : L = WS.map (runOut zs) := by rw [HL.out, List.take_of_length_le (by rw [HWS.out.2]; omega)]
          have hLl : L.length = k := by rw [hLm, List.length_map, HWS.out.2, hkM]
          have hnd : L.Nodup := by
            rw [hLm]
            unfold List.Nodup
            rw [List.pairwise_map]
            refine List.Pairwise.imp_of_mem (fun {a b} ha hb hab e => ?_) hall.1
            have h1 := hall.2 a ha
            have h2 := hall.2 b hb
            exact hab (run_inj HO.out.2.2.2 (by rw [h1.2, hzl]) h1.1 (by rw [h2.2, hzl]) h2.1 e)
          have hlen : ∀ x ∈ L, x.length = n := fun x hx => by
            rw [hLm] at hx
            obtain ⟨u, hu, e⟩ := List.mem_map.1 hx
            have h1 := hall.2 u hu
            rw [← e, runOut_len h1.1 (by rw [h1.2, hzl]), hzl]
          have CS := Go.Lib.hid (sortLists_any W.heap.size n g c L wr (by rw [hLl]; exact HLS.out) hn1 (by omega) hlen hnd (by omega) (by omega))
          rw [hLl] at CS
          have HE := Go.Lib.hid (And.intro hLm hWSe)
          have HGB := Go.Lib.hid ((own_block_lt HLS.out.choose_spec.2.1 (q := g) rfl).1)
          have hk16 : k ≤ 16384 := by omega
          have hnlt : ¬ (k : Int) < (M : Int) := by omega
          clear hzl hall hWSe hLm hLl hnd hlen hkM
          go_wp2_with (go_at_call 39; refine CS.out.mono ?_; rintro e w6 ⟨rfl, R, hs6, hp6, hl6, hg6⟩)
          have HOU : Hid (Outs zs R) := Go.Lib.hid (by
            unfold Outs
            rw [if_pos HO.out]
            refine ⟨hs6, ?_⟩
            rw [HR.out.2, HWS.out.1, ← HE.out.1]
            exact hp6)
          have HF6 := Go.Lib.hid (And.intro hl6 (HB4.out.grown hg6 HB4.out.size (fun q hq => by cases hq; exact HGB.out)))
          clear hs6 hp6 hl6 hg6
          go_wp2
          go_ret2
          exact ⟨_, R, by rw [HR.out.1]; rfl, HOU.out, by rw [HR.out.2]; exact HF6.out.1, HF6.out.2⟩
  · have hno : ¬ Ord zs := fun ho => h17 (by have := ho.1; have := ho.2.1; omega)
    have CW := Go.Lib.hid (implWords (n : Int) [] false (by unfold wordsAns; rw [if_neg (by omega)]) (wf_big (by omega) (by omega)) W)
    have HNO := Go.Lib.hid hno
    clear hv hno
    go_enter Try.func7, Try.ntmps7
    go_wp2_with fail
    refine (CW.out).mono ?_
    rintro e w1 ⟨vw, rfl, how, hbw⟩
    have HB := Go.Lib.hid hbw
    clear how hbw
    go_wp2_with fail
    go_ret2
    exact outsTo_below HB.out (outsTo_none _ zs HNO.out)
end Go.Proofs.Ytomheoaophomlab.OutsImplC
