/-
  Contracts and plain facts that the laws' texts lean on. Conditions: as each states.
-/
import Derived.Test.YtnhhnffolmgceaaGreatPv25
import Derived.WalkSmall

section
namespace Go.Proofs.YtnhhnffolmgceaaGreat.SortedOrdC
open Go.RowKit SeesC IntsC ExactC OrdMath InC OrderC RankC IterC AtC

set_option maxRecDepth 100000 in
set_option maxHeartbeats 1000000 in
theorem sortedOrder_any (m : Nat) (W : World) (hm7 : m ≤ 7) :
    Calls Tryz.prog 84 #[.int .i64 m] W fun e w' => ∃ g c, e = .returned (.slice (some ⟨g, 0, none⟩) m c) ∧ w'.ownsRow W.heap.size 3 1 (.slice (some ⟨g, 0, none⟩) m c) m (vals (iota m)) ∧ Below W.heap.size W w' := by
  obtain ⟨i0, hi, hz0, hz1, hz2⟩ := info_parts infoI
  go_enter Tryz.func84, Tryz.ntmps84
  go_wp2_with (at_make; refine wpList_make_full _ rfl _ _ 36 rfl W.heap.size 3 i0 (.int .i64 0) 1 Tryz.underlying36 hi hz0 hz1 .i64 .i64 m m m rfl rfl rfl rfl (by rw [hz2]; omega) (by unfold maxLen; omega) (Nat.le_refl _) ?_; intro w1 hown1 hgrow1)
  have hz : (madeCells (Value.int .i64 0).cells (m * 1)).toList = vals ((iota m).take 0 ++ (List.replicate m 0).drop 0) := by rw [made_int]; simp
  rw [hz] at hown1
  have hb1 : Below W.heap.size W w1 := (Below.refl _ _).grown hgrow1 (Nat.le_refl _) (fun k hk => by cases hk)
  clear hz hgrow1
  go_loopw [9] (fun iv wr => ∃ (i : Nat), i ≤ m ∧ iv = .int .i64 i ∧ wr.ownsRow W.heap.size 3 1 (.slice (some ⟨W.heap.size, 0, none⟩) m m) m (vals ((iota m).take i ++ (List.replicate m 0).drop i)) ∧ Below W.heap.size W wr) (fun i _ => m - (intOf i).toNat)
  case atStart => exact ⟨0, Nat.zero_le _, rfl, hown1, hb1⟩
  case round =>
    obtain ⟨i, him, rfl, hown, hb⟩ := hrel
    clear hown1 hb1
    by_cases hlt : i < m
    · have hst := hown.stored i (.int .i64 ((i : Int) + 1))
      rw [put_next (L := iota m) (zs := List.replicate m 0) (by rw [iota_len]; simp) (by rw [iota_len]; exact hlt) (by rw [List.getD_eq_getElem?_getD, List.getElem?_eq_getElem (by rw [iota_len]; exact hlt), iota_at m i hlt]; rfl)] at hst
      have hdc := hown.cellAt i (by omega)
      have hfz := hown.frozenAt i
      obtain ⟨x, hx⟩ : ∃ x, wr.cell? ⟨W.heap.size, i, none⟩ = some x := ⟨_, hdc.trans (List.getElem?_eq_getElem (by rw [vals_len]; simp [iota_len]; omega))⟩
      have HS := Go.Lib.hid (And.intro hst.1 (hb.setCell (p := ⟨W.heap.size, i, none⟩) (Nat.le_refl _) (.int .i64 ((i : Int) + 1))))
      have hlti : (i : Int) < (m : Int) := by omega
      clear hst hdc hb hown
      go_wp2
      go_roundw
      case rel => exact ⟨i + 1, by omega, by go_num, HS.out.1, HS.out.2⟩
      case measure => simp [intOf] <;> omega
    · have hin : i = m := by omega
      subst hin
      have e1 : (iota i).take i ++ (List.replicate i 0).drop i = iota i := by rw [List.take_of_length_le (by rw [iota_len]; exact Nat.le_refl _), List.drop_of_length_le (by simp), List.append_nil]
      rw [e1] at hown
      have H := Go.Lib.hid (And.intro hown hb)
      clear hown hb
      go_wp2
      go_ret
      exact ⟨_, _, rfl, H.out.1, H.out.2⟩

end Go.Proofs.YtnhhnffolmgceaaGreat.SortedOrdC

end

section
namespace Go.Proofs.YtnhhnffolmgceaaGreat.OrderAtC
open Go.RowKit SeesC IntsC ExactC OrdMath InC OrderC RankC IterC AtC SortedOrdC

/-- One number deleted out of a row of the call's own. -/
theorem delete_own (left : List Int) (g q c ix B : Nat) (W : World) (hl : left.length = q + 1) (hix : ix < q + 1) (hq : q ≤ 7) (hown : W.ownsRow B 3 1 (.slice (some ⟨g, 0, none⟩) (q + 1) c) (q + 1) (vals left)) :
    Calls Tryz.prog 95 #[.slice (some ⟨g, 0, none⟩) (q + 1) c, .int .i64 ix, .int .i64 ((ix + 1 : Nat) : Int)] W fun e w' => e = .returned (.slice (some ⟨g, 0, none⟩) q c) ∧ w'.ownsRow B 3 1 (.slice (some ⟨g, 0, none⟩) q c) q (vals (left.eraseIdx ix)) ∧ W.grownBy w' (some g) := by
  obtain ⟨hcap, hcm⟩ : q + 1 ≤ c ∧ c ≤ maxLen := by
    rcases hown.2 with ⟨h0, _⟩ | ⟨g', cap', cur, h0, _, _, h1, h2, _⟩
    · cases h0
    · cases h0; exact ⟨h1, h2⟩
  have hcs := own_cells hown
  refine (Tryz.slices_Delete_int_cells g 0 (q + 1) c ix (ix + 1) left W (by omega) hcap (by unfold maxLen at hcm; omega) (by omega) (by omega) hcs.1 hcs.2).mono ?_
  rintro e w' ⟨rfl, n, rfl⟩
  have e1 : q + 1 - (ix + 1 - ix) = q := by omega
  have e2 : (left.take (q + 1)).take ix ++ (left.take (q + 1)).drop (ix + 1) ++ List.replicate (ix + 1 - ix) 0 = left.eraseIdx ix ++ [0] := by
    have et : left.take (q + 1) = left := List.take_of_length_le (by omega)
    have : ix + 1 - ix = 1 := by omega
    rw [et, erase_parts, this]; rfl
  rw [e1, e2]
  have h1 := own_setCells (vals (left.eraseIdx ix ++ [0])) (W.drewN n) 0 _ (own_drewN (q := n) hown)
  have hel : (left.eraseIdx ix).length = q := by rw [List.length_eraseIdx, hl]; split <;> omega
  rw [setL_is _ _ _ (by simp [hel, hl])] at h1
  have e3 : List.take 0 (vals left) ++ vals (left.eraseIdx ix ++ [0]) ++ List.drop (0 + (vals (left.eraseIdx ix ++ [0])).length) (vals left) = vals (left.eraseIdx ix) ++ [.int .i64 0] := by
    rw [List.drop_of_length_le (by simp [hel, hl])]; simp
  rw [e3] at h1
  refine ⟨rfl, ownsRow_pop (last := [.int .i64 0]) (by simp [hel]) h1.1, ?_⟩
  exact ⟨h1.2.os, h1.2.tape, h1.2.output, h1.2.size, h1.2.block⟩

set_option maxRecDepth 100000 in
set_option maxHeartbeats 4000000 in
theorem implAt (n k : Int) (xs : List Int) (b : Bool) (h : atAns n k = (xs, b)) (hw : (Lit.int .i64 n).wf = true) (hw2 : (Lit.int .i64 k).wf = true) (W : World) :
    Calls Tryz.prog 80 #[.int .i64 n, .int .i64 k] W fun e w' => ListTo W e w' xs b := by
  obtain ⟨i0, hi, hz0, hz1, hz2⟩ := info_parts infoI
  unfold atAns at h
  by_cases h1 : n < 1
  · rw [if_neg (by omega)] at h
    cases h
    go_enter Tryz.func80, Tryz.ntmps80
    go_wp2
    go_ret2
    exact listTo_none _ _
  by_cases h7 : 7 < n
  · rw [if_neg (by omega)] at h
    cases h
    go_enter Tryz.func80, Tryz.ntmps80
    go_wp2
    go_ret2
    exact listTo_none _ _
  by_cases hk0 : k < 0
  · rw [if_neg (by omega)] at h
    cases h
    go_enter Tryz.func80, Tryz.ntmps80
    go_wp2
    go_ret2
    exact listTo_none _ _
  obtain ⟨m, rfl⟩ : ∃ m : Nat, n = (m : Int) := ⟨n.toNat, by omega⟩
  obtain ⟨kk, rfl⟩ : ∃ kk : Nat, k = (kk : Int) := ⟨k.toNat, by omega⟩
  have hm7 : m ≤ 7 := by omega
  have hm1 : 1 ≤ m := by omega
  rw [Int.toNat_natCast, Int.toNat_natCast] at h
  have C2 := Go.Lib.hid (fun w2 => countOrders_any m w2 hm7)
  have hf1 := fact_pos m
  have hf7 := fact_7 hm7
  by_cases hkf : kk < fact m
  · rw [if_pos (by omega)] at h
    cases h
    have HK := Go.Lib.hid hkf
    have hln : (atRun m (iota m) kk).length = m := atRun_len _ _ _
    have HLN := Go.Lib.hid hln
    obtain ⟨f, hf⟩ : ∃ f, fact m = f := ⟨_, rfl⟩
    rw [hf] at C2 hf1 hf7 hkf
    have hkfi : ¬ (f : Int) ≤ (kk : Int) := by omega
    have hkk5 : kk ≤ 5040 := by omega
    clear hf hln hw hw2
    go_enter Tryz.func80, Tryz.ntmps80
    go_wp2_with fail
    refine (C2.out _).mono ?_
    rintro e w1 ⟨rfl, rfl⟩
    have CSO := Go.Lib.hid (fun w2 => sortedOrder_any m w2 hm7)
    go_wp2_with fail
    refine (CSO.out _).mono ?_
    rintro e wr ⟨gs, cs, rfl, hown, hb⟩
    have hgsb := hown.lt gs rfl
    obtain ⟨i, hieq⟩ : ∃ i, i = m := ⟨m, rfl⟩
    subst hieq
    go_wp2_with (at_make; refine wpList_make_own _ rfl _ _ 36 rfl W.heap.size 3 i0 (.int .i64 0) 1 Tryz.underlying36 hi hz0 hz1 .i64 .i64 _ i rfl rfl rfl (by rw [hz2]; omega) (by unfold maxLen; omega) hb.size ?_; intro w2 hown2 hgrow2)
    have hb2 : Below W.heap.size W w2 := hb.grown hgrow2 hb.size (fun k hk => by cases hk)
    have hr2 := hown.kept (row := none) hgrow2 (.inr (by simp [Value.ownBlock]))
    have hne : wr.heap.size ≠ gs := by have := hgsb.2; omega
    obtain ⟨go, hgo⟩ : ∃ go, wr.heap.size = go := ⟨_, rfl⟩
    rw [hgo] at hown2 hne
    have H0 := Go.Lib.hid (And.intro hown2 (And.intro hr2 (And.intro hne hb2)))
    have HGO := Go.Lib.hid hgo
    clear hgrow2 hown hb hown2 hr2 hne hb2 hgo hgsb
    go_loopw [1, 6, 7] (fun kv lv ov wr => ∃ (q j k' g1 c1 g2 c2 : Nat) (out left : List Int), kv = .int .i64 k' ∧ ov = .slice (some ⟨g1, 0, none⟩) j c1 ∧ lv = .slice (some ⟨g2, 0, none⟩) q c2 ∧ j + q = i ∧ out.length = j ∧ left.length = q ∧ k' ≤ 5040 ∧ wr.ownsRow W.heap.size 3 1 (.slice (some ⟨g1, 0, none⟩) j c1) j (vals out) ∧ wr.ownsRow W.heap.size 3 1 (.slice (some ⟨g2, 0, none⟩) q c2) q (vals left) ∧ g1 ≠ g2 ∧ Below W.heap.size W wr ∧ Hid (out ++ atRun q left k' = atRun i (iota i) kk ∧ k' < fact q)) (fun _ lv _ _ => lenV lv)
    case atStart => exact ⟨i, 0, kk, go, i, gs, cs, [], iota i, rfl, by rw [← HGO.out], rfl, by omega, rfl, iota_len i, hkk5, H0.out.1, H0.out.2.1, H0.out.2.2.1, H0.out.2.2.2, Go.Lib.hid ⟨rfl, HK.out⟩⟩
    case round =>
      obtain ⟨q1, j, k', g1, c1, g2, c2, out, left, rfl, rfl, rfl, hjm, hlo, hll, hk5, hownA, hownB, hg12, hb, HR⟩ := hrel
      by_cases hm0 : 0 < q1
      · obtain ⟨q, rfl⟩ : ∃ q, q1 = q + 1 := ⟨q1 - 1, by omega⟩
        have CW := Go.Lib.hid (fun w3 => countOrders_any q w3 (by omega))
        have hq7 : q ≤ 6 := by omega
        have hff1 := fact_pos q
        have hff7 := fact_6 hq7
        have hkf2 : k' < (q + 1) * fact q := HR.out.2
        have hix : k' / fact q < q + 1 := by rw [Nat.div_lt_iff_lt_mul (by omega)]; exact hkf2
        have hmod := Nat.mod_lt k' (show 0 < fact q by omega)
        have hdiv : (k' : Int).tdiv (fact q : Int) = ((k' / fact q : Nat) : Int) := by rw [Int.tdiv_eq_ediv_of_nonneg (by omega)]; simp
        have hrem : (k' : Int).tmod (fact q : Int) = ((k' % fact q : Nat) : Int) := by rw [Int.tmod_eq_emod_of_nonneg (by omega)]; simp
        have HAT : Hid (atRun (q + 1) left k' = left.getD (k' / fact q) 0 :: atRun q (left.eraseIdx (k' / fact q)) (k' % fact q)) := Go.Lib.hid rfl
        obtain ⟨fq, hfq⟩ : ∃ fq, fact q = fq := ⟨_, rfl⟩
        obtain ⟨ix, hixe⟩ : ∃ ix, k' / fq = ix := ⟨_, rfl⟩
        obtain ⟨km, hkm⟩ : ∃ km, k' % fq = km := ⟨_, rfl⟩
        have HMOD : Hid (k' % fact q < fact q) := Go.Lib.hid hmod
        rw [hfq] at CW hff1 hff7 hix hmod hdiv hrem HAT
        rw [hixe] at hix hdiv HAT
        rw [hkm] at hmod hrem HAT
        rw [hfq, hkm, ← hfq] at HMOD
        obtain ⟨z, hz⟩ : ∃ z, left.getD ix 0 = z := ⟨_, rfl⟩
        rw [hz] at HAT
        have hckz : wr.cell? ⟨g2, ix, none⟩ = some (.int .i64 z) := by rw [hownB.cellAt ix (by omega)]; simp [show ix < left.length by omega]; rw [← hz]; simp [show ix < left.length by omega]
        obtain ⟨ix1, hix1⟩ : ∃ ix1, ix + 1 = ix1 := ⟨_, rfl⟩
        have p0 : IntKind.i64.wrap (ix : Int) = (ix : Int) := IntWalk.i64_in _ (by omega)
        have p1 : IntKind.i64.wrap ((ix : Int) + 1) = (ix1 : Int) := by rw [IntWalk.i64_in _ (by omega)]; omega
        have r4 : (ix : Int) < ((q + 1 : Nat) : Int) := by omega
        have r6 : (ix : Int) < (q : Int) + 1 := by omega
        have hfne : ((fq : Int) == 0) = false := by rw [beq_eq_false_iff_ne]; omega
        have hfne2 : ¬ (fq : Int) = 0 := by omega
        have hfne3 : ¬ fq = 0 := by omega
        have HL := Go.Lib.hid (And.intro hlo (And.intro hll (And.intro hjm (And.intro hix hix1))))
        have hj7 : j ≤ 7 := by omega
        have hkm5 : km ≤ 5040 := by omega
        have HG2 := Go.Lib.hid ((hownB.lt g2 rfl).2)
        clear hlo hll hjm hfq hkf2 hz hixe hkm
        go_wp2_with fail
        refine (CW.out _).mono ?_
        rintro e w3 ⟨rfl, rfl⟩
        go_wp2_with (at_builtin; refine wpList_append_own_at _ rfl _ _ 36 rfl W.heap.size 3 i0 (.int .i64 0) 1 8 Tryz.underlying36 hi hz0 hz1 hz2 rfl (by decide) (.slice (some ⟨g1, 0, none⟩) j c1) j (vals out) rfl (hownA.alloc _) ⟨wr.heap.size, 0, none⟩ 1 1 [.int .i64 z] rfl rfl (cell_one_new _ _ _) (fun x hx => by simp at hx; subst hx; rfl) (by unfold maxLen; omega) (by omega) (by have := hb.size; simp; omega) ?_; intro v' w4 hown' hgrow4 hnil4 hrow4)
        obtain ⟨g', cap', rfl⟩ := ownsRow_succ hown'
        have e1 : vals out ++ [Value.int .i64 z] = vals (out ++ [z]) := by simp
        rw [e1] at hown'
        have hb' : Below W.heap.size W w4 := (hb.alloc hb.size _).grown hgrow4 (by have := hb.size; simp; omega) (fun q hq => (hownA.lt q hq).1)
        have hownB' := own_mark (hownB.alloc (.cells #[.int .i64 z] 3)) hgrow4 (fun a ha e => by simp only [Value.ownBlock, Option.some.injEq] at ha e; omega)
        have hg12' : g' ≠ g2 := by
          have h1 := HG2.out
          rcases hrow4 with h2 | h2
          · simp [Value.ownBlock] at h2; omega
          · simp [Value.ownBlock] at h2; omega
        have CD := Go.Lib.hid (delete_own left g2 q c2 ix W.heap.size w4.drew HL.out.2.1 HL.out.2.2.2.1 (by omega) hownB')
        have hcc : ((ix + 1 : Nat) : Int) = (ix1 : Int) := by have := HL.out; omega
        rw [hcc] at CD
        have H3 := Go.Lib.hid (And.intro hown' (And.intro hg12' (And.intro hb' ((hownB'.lt g2 rfl).1))))
        clear hown' hgrow4 hnil4 hrow4 hownA hownB hb hb' hownB' hg12' e1 hckz hcc
        go_region_law ((go_simp; go_at_call 95; refine CD.out.mono ?_; rintro e w5 ⟨rfl, ho5, hg5⟩; have H5 := Go.Lib.hid (And.intro ho5 hg5)))
        all_goals
          have hgr : w4.grownBy w5 (some g2) := ⟨H5.out.2.os, H5.out.2.tape, H5.out.2.output, H5.out.2.size, H5.out.2.block⟩
          have hout5 := own_mark H3.out.1 hgr (fun a ha e => by have := H3.out.2.1; simp only [Value.ownBlock, Option.some.injEq] at ha e; omega)
          have hb5 : Below W.heap.size W w5 := H3.out.2.2.1.grown hgr H3.out.2.2.1.size (fun k hk => by cases hk; exact H3.out.2.2.2)
          have H7 := Go.Lib.hid (And.intro hout5 (And.intro H5.out.1 hb5))
          have HN : Hid ((out ++ [z]) ++ atRun q (left.eraseIdx ix) km = atRun i (iota i) kk ∧ km < fact q) := Go.Lib.hid ⟨by rw [← HR.out.1, HAT.out]; simp, HMOD.out⟩
          have HGN := Go.Lib.hid H3.out.2.1
          clear hgr hout5 hb5 ho5 hg5
          go_wp2
          go_roundw
          case rel => exact ⟨q, j + 1, km, g', cap', g2, c2, out ++ [z], left.eraseIdx ix, rfl, rfl, rfl, by have := HL.out; omega, by simp; exact HL.out.1, by rw [List.length_eraseIdx, HL.out.2.1]; have := HL.out; split <;> omega, by omega, H7.out.1, H7.out.2.1, HGN.out, H7.out.2.2, HN⟩
          case measure => simp [lenV]
      · obtain rfl : q1 = 0 := by omega
        have HE : Hid (atRun i (iota i) kk = out) := Go.Lib.hid (by rw [← HR.out.1]; simp [atRun])
        have H3 := Go.Lib.hid (And.intro hownA hb)
        obtain rfl : j = i := by omega
        clear hownA hownB hb
        go_wp2
        go_ret2
        exact ⟨_, rfl, by rw [HLN.out, HE.out]; exact H3.out.1, H3.out.2⟩
  · rw [if_neg (by omega)] at h
    cases h
    obtain ⟨f, hf⟩ : ∃ f, fact m = f := ⟨_, rfl⟩
    rw [hf] at C2 hf1 hf7 hkf
    have hkfi : (f : Int) ≤ (kk : Int) := by omega
    clear hf hw hw2
    go_enter Tryz.func80, Tryz.ntmps80
    go_wp2_with fail
    refine (C2.out _).mono ?_
    rintro e w1 ⟨rfl, rfl⟩
    go_wp2_with fail
    go_ret2
    exact listTo_none _ _

end Go.Proofs.YtnhhnffolmgceaaGreat.OrderAtC

end
