/-
  On every argument GreedySharing answers as its model and leaves its arguments as they were.
-/
import Derived.Test.YtekihdnkkeggjaaPkGreedy7LawA
import Derived.Test.YtekihdnkkeggjaaAt
import Derived.WalkSmall
import Derived.Test.YtekihdnkkeggjaaRange
import Derived.Test.YtekihdnkkeggjaaUse
import Derived.Deep.RegionHeld3
import Derived.Deep.RegionLawGrows
import Derived.Laws.EntriesVeiled
import Derived.Test.YtekihdnkkeggjaaCanS
import Derived.WalkMore
import Derived.Test.YtekihdnkkeggjaaRows
import Derived.Test.YtekihdnkkeggjaaSeat
import Derived.Test.YtekihdnkkeggjaaOpen
import Derived.WalkKit
import Derived.ProofKit
import Derived.OpenShut
import Derived.ShutString
import Derived.ChangeOld
import Derived.Below
import Derived.Test.YtekihdnkkeggjaaExact
import Derived.Test.YtekihdnkkeggjaaOrd

/-
  Contract: the program's sorted order. Conditions: at most seven numbers.
-/
namespace Go.Proofs.Ytekihdnkkeggjaa.SortedOrdC
open Go.RowKit SeesC IntsC ExactC OrdMath InC OrderC RankC IterC AtC

set_option maxRecDepth 100000 in
set_option maxHeartbeats 1000000 in
theorem sortedOrder_any (m : Nat) (W : World) (hm7 : m ≤ 7) :
    Calls Try.prog 107 #[.int .i64 m] W fun e w' => ∃ g c, e = .returned (.slice (some ⟨g, 0, none⟩) m c) ∧ w'.ownsRow W.heap.size 3 1 (.slice (some ⟨g, 0, none⟩) m c) m (vals (iota m)) ∧ Below W.heap.size W w' := by
  obtain ⟨i0, hi, hz0, hz1, hz2⟩ := info_parts infoI
  go_enter Try.func107, Try.ntmps107
  go_wp2_with (at_make; refine wpList_make_full _ rfl _ _ 24 rfl W.heap.size 3 i0 (.int .i64 0) 1 Try.underlying24 hi hz0 hz1 .i64 .i64 m m m rfl rfl rfl rfl (by rw [hz2]; omega) (by unfold maxLen; omega) (Nat.le_refl _) ?_; intro w1 hown1 hgrow1)
  have hz : (madeCells (Value.int .i64 0).cells (m * 1)).toList = vals ((iota m).take 0 ++ (List.replicate m 0).drop 0) := by rw [made_int]; simp
  rw [hz] at hown1
  have hb1 : Below W.heap.size W w1 := (Below.refl _ _).grown hgrow1 (Nat.le_refl _) (fun k hk => by cases hk)
  clear hz hgrow1
  go_loopw [9] (fun iv wr => ∃ (i : Nat), i ≤ m ∧ iv = .int .i64 i ∧ wr.ownsRow W.heap.size 3 1 (.slice (some ⟨W.heap.size, 0, none⟩) m m) m (vals ((iota m).take i ++ (List.replicate m 0).drop i)) ∧ Below W.heap.size W wr) (fun i _ => m - (intOf i).toNat)
  case atStart => exact ⟨0, Nat.zero_le _, rfl, hown1, hb1⟩
  case round =>
    obtain ⟨i, him, rfl, hown, hb⟩ := hrel
    clear hown1 hb1
    by_cases hlt : i < m
    · have hst := hown.stored i (.int .i64 ((i : Int) + 1))
      rw [put_next (L := iota m) (zs := List.replicate m 0) (by rw [iota_len]; simp) (by rw [iota_len]; exact hlt) (by rw [List.getD_eq_getElem?_getD, List.getElem?_eq_getElem (by rw [iota_len]; exact hlt), iota_at m i hlt]; rfl)] at hst
      have hdc := hown.cellAt i (by omega)
      have hfz := hown.frozenAt i
      obtain ⟨x, hx⟩ : ∃ x, wr.cell? ⟨W.heap.size, i, none⟩ = some x := ⟨_, hdc.trans (List.getElem?_eq_getElem (by rw [vals_len]; simp [iota_len]; omega))⟩
      have HS := Go.Lib.hid (And.intro hst.1 (hb.setCell (p := ⟨W.heap.size, i, none⟩) (Nat.le_refl _) (.int .i64 ((i : Int) + 1))))
      have hlti : (i : Int) < (m : Int) := by omega
      clear hst hdc hb hown
      go_wp2
      go_roundw
      case rel => exact ⟨i + 1, by omega, by go_num, HS.out.1, HS.out.2⟩
      case measure => simp [intOf] <;> omega
    · have hin : i = m := by omega
      subst hin
      have e1 : (iota i).take i ++ (List.replicate i 0).drop i = iota i := by rw [List.take_of_length_le (by rw [iota_len]; exact Nat.le_refl _), List.drop_of_length_le (by simp), List.append_nil]
      rw [e1] at hown
      have H := Go.Lib.hid (And.intro hown hb)
      clear hown hb
      go_wp2
      go_ret
      exact ⟨_, _, rfl, H.out.1, H.out.2⟩

end Go.Proofs.Ytekihdnkkeggjaa.SortedOrdC

/-
  Contracts: OrderAt of the model and of the program. Conditions: none.
-/
namespace Go.Proofs.Ytekihdnkkeggjaa.OrderAtC
open Go.RowKit SeesC IntsC ExactC OrdMath InC OrderC RankC IterC AtC SortedOrdC

/-- One number deleted out of a row of the call's own. -/
theorem delete_own (left : List Int) (g q c ix B : Nat) (W : World) (hl : left.length = q + 1) (hix : ix < q + 1) (hq : q ≤ 7) (hown : W.ownsRow B 3 1 (.slice (some ⟨g, 0, none⟩) (q + 1) c) (q + 1) (vals left)) :
    Calls Try.prog 108 #[.slice (some ⟨g, 0, none⟩) (q + 1) c, .int .i64 ix, .int .i64 ((ix + 1 : Nat) : Int)] W fun e w' => e = .returned (.slice (some ⟨g, 0, none⟩) q c) ∧ w'.ownsRow B 3 1 (.slice (some ⟨g, 0, none⟩) q c) q (vals (left.eraseIdx ix)) ∧ W.grownBy w' (some g) := by
  obtain ⟨hcap, hcm⟩ : q + 1 ≤ c ∧ c ≤ maxLen := by
    rcases hown.2 with ⟨h0, _⟩ | ⟨g', cap', cur, h0, _, _, h1, h2, _⟩
    · cases h0
    · cases h0; exact ⟨h1, h2⟩
  have hcs := own_cells hown
  refine (Try.slices_Delete_int_cells g 0 (q + 1) c ix (ix + 1) left W (by omega) hcap (by unfold maxLen at hcm; omega) (by omega) (by omega) hcs.1 hcs.2).mono ?_
  rintro e w' ⟨rfl, n, rfl⟩
  have e1 : q + 1 - (ix + 1 - ix) = q := by omega
  have e2 : (left.take (q + 1)).take ix ++ (left.take (q + 1)).drop (ix + 1) ++ List.replicate (ix + 1 - ix) 0 = left.eraseIdx ix ++ [0] := by
    have et : left.take (q + 1) = left := List.take_of_length_le (by omega)
    have : ix + 1 - ix = 1 := by omega
    rw [et, erase_parts, this]; rfl
  rw [e1, e2]
  have h1 := own_setCells (vals (left.eraseIdx ix ++ [0])) (W.drewN n) 0 _ (own_drewN (q := n) hown)
  have hel : (left.eraseIdx ix).length = q := by rw [List.length_eraseIdx, hl]; split <;> omega
  rw [setL_is _ _ _ (by simp [hel, hl])] at h1
  have e3 : List.take 0 (vals left) ++ vals (left.eraseIdx ix ++ [0]) ++ List.drop (0 + (vals (left.eraseIdx ix ++ [0])).length) (vals left) = vals (left.eraseIdx ix) ++ [.int .i64 0] := by
    rw [List.drop_of_length_le (by simp [hel, hl])]; simp
  rw [e3] at h1
  refine ⟨rfl, ownsRow_pop (last := [.int .i64 0]) (by simp [hel]) h1.1, ?_⟩
  exact ⟨h1.2.os, h1.2.tape, h1.2.output, h1.2.size, h1.2.block⟩

set_option maxRecDepth 100000 in
set_option maxHeartbeats 4000000 in
theorem implAt (n k : Int) (xs : List Int) (b : Bool) (h : atAns n k = (xs, b)) (hw : (Lit.int .i64 n).wf = true) (hw2 : (Lit.int .i64 k).wf = true) (W : World) :
    Calls Try.prog 101 #[.int .i64 n, .int .i64 k] W fun e w' => ListTo W e w' xs b := by
  obtain ⟨i0, hi, hz0, hz1, hz2⟩ := info_parts infoI
  unfold atAns at h
  by_cases h1 : n < 1
  · rw [if_neg (by omega)] at h
    cases h
    go_enter Try.func101, Try.ntmps101
    go_wp2
    go_ret2
    exact listTo_none _ _
  by_cases h7 : 7 < n
  · rw [if_neg (by omega)] at h
    cases h
    go_enter Try.func101, Try.ntmps101
    go_wp2
    go_ret2
    exact listTo_none _ _
  by_cases hk0 : k < 0
  · rw [if_neg (by omega)] at h
    cases h
    go_enter Try.func101, Try.ntmps101
    go_wp2
    go_ret2
    exact listTo_none _ _
  obtain ⟨m, rfl⟩ : ∃ m : Nat, n = (m : Int) := ⟨n.toNat, by omega⟩
  obtain ⟨kk, rfl⟩ : ∃ kk : Nat, k = (kk : Int) := ⟨k.toNat, by omega⟩
  have hm7 : m ≤ 7 := by omega
  have hm1 : 1 ≤ m := by omega
  rw [Int.toNat_natCast, Int.toNat_natCast] at h
  have C2 := Go.Lib.hid (fun w2 => countOrders_any m w2 hm7)
  have hf1 := fact_pos m
  have hf7 := fact_7 hm7
  by_cases hkf : kk < fact m
  · rw [if_pos (by omega)] at h
    cases h
    have HK := Go.Lib.hid hkf
    have hln : (atRun m (iota m) kk).length = m := atRun_len _ _ _
    have HLN := Go.Lib.hid hln
    obtain ⟨f, hf⟩ : ∃ f, fact m = f := ⟨_, rfl⟩
    rw [hf] at C2 hf1 hf7 hkf
    have hkfi : ¬ (f : Int) ≤ (kk : Int) := by omega
    have hkk5 : kk ≤ 5040 := by omega
    clear hf hln hw hw2
    go_enter Try.func101, Try.ntmps101
    go_wp2_with fail
    refine (C2.out _).mono ?_
    rintro e w1 ⟨rfl, rfl⟩
    have CSO := Go.Lib.hid (fun w2 => sortedOrder_any m w2 hm7)
    go_wp2_with fail
    refine (CSO.out _).mono ?_
    rintro e wr ⟨gs, cs, rfl, hown, hb⟩
    have hgsb := hown.lt gs rfl
    obtain ⟨i, hieq⟩ : ∃ i, i = m := ⟨m, rfl⟩
    subst hieq
    go_wp2_with (at_make; refine wpList_make_own _ rfl _ _ 24 rfl W.heap.size 3 i0 (.int .i64 0) 1 Try.underlying24 hi hz0 hz1 .i64 .i64 _ i rfl rfl rfl (by rw [hz2]; omega) (by unfold maxLen; omega) hb.size ?_; intro w2 hown2 hgrow2)
    have hb2 : Below W.heap.size W w2 := hb.grown hgrow2 hb.size (fun k hk => by cases hk)
    have hr2 := hown.kept (row := none) hgrow2 (.inr (by simp [Value.ownBlock]))
    have hne : wr.heap.size ≠ gs := by have := hgsb.2; omega
    obtain ⟨go, hgo⟩ : ∃ go, wr.heap.size = go := ⟨_, rfl⟩
    rw [hgo] at hown2 hne
    have H0 := Go.Lib.hid (And.intro hown2 (And.intro hr2 (And.intro hne hb2)))
    have HGO := Go.Lib.hid hgo
    clear hgrow2 hown hb hown2 hr2 hne hb2 hgo hgsb
    go_loopw [1, 6, 7] (fun kv lv ov wr => ∃ (q j k' g1 c1 g2 c2 : Nat) (out left : List Int), kv = .int .i64 k' ∧ ov = .slice (some ⟨g1, 0, none⟩) j c1 ∧ lv = .slice (some ⟨g2, 0, none⟩) q c2 ∧ j + q = i ∧ out.length = j ∧ left.length = q ∧ k' ≤ 5040 ∧ wr.ownsRow W.heap.size 3 1 (.slice (some ⟨g1, 0, none⟩) j c1) j (vals out) ∧ wr.ownsRow W.heap.size 3 1 (.slice (some ⟨g2, 0, none⟩) q c2) q (vals left) ∧ g1 ≠ g2 ∧ Below W.heap.size W wr ∧ Hid (out ++ atRun q left k' = atRun i (iota i) kk ∧ k' < fact q)) (fun _ lv _ _ => lenV lv)
    case atStart => exact ⟨i, 0, kk, go, i, gs, cs, [], iota i, rfl, by rw [← HGO.out], rfl, by omega, rfl, iota_len i, hkk5, H0.out.1, H0.out.2.1, H0.out.2.2.1, H0.out.2.2.2, Go.Lib.hid ⟨rfl, HK.out⟩⟩
    case round =>
      obtain ⟨q1, j, k', g1, c1, g2, c2, out, left, rfl, rfl, rfl, hjm, hlo, hll, hk5, hownA, hownB, hg12, hb, HR⟩ := hrel
      by_cases hm0 : 0 < q1
      · obtain ⟨q, rfl⟩ : ∃ q, q1 = q + 1 := ⟨q1 - 1, by omega⟩
        have CW := Go.Lib.hid (fun w3 => countOrders_any q w3 (by omega))
        have hq7 : q ≤ 6 := by omega
        have hff1 := fact_pos q
        have hff7 := fact_6 hq7
        have hkf2 : k' < (q + 1) * fact q := HR.out.2
        have hix : k' / fact q < q + 1 := by rw [Nat.div_lt_iff_lt_mul (by omega)]; exact hkf2
        have hmod := Nat.mod_lt k' (show 0 < fact q by omega)
        have hdiv : (k' : Int).tdiv (fact q : Int) = ((k' / fact q : Nat) : Int) := by rw [Int.tdiv_eq_ediv_of_nonneg (by omega)]; simp
        have hrem : (k' : Int).tmod (fact q : Int) = ((k' % fact q : Nat) : Int) := by rw [Int.tmod_eq_emod_of_nonneg (by omega)]; simp
        have HAT : Hid (atRun (q + 1) left k' = left.getD (k' / fact q) 0 :: atRun q (left.eraseIdx (k' / fact q)) (k' % fact q)) := Go.Lib.hid rfl
        obtain ⟨fq, hfq⟩ : ∃ fq, fact q = fq := ⟨_, rfl⟩
        obtain ⟨ix, hixe⟩ : ∃ ix, k' / fq = ix := ⟨_, rfl⟩
        obtain ⟨km, hkm⟩ : ∃ km, k' % fq = km := ⟨_, rfl⟩
        have HMOD : Hid (k' % fact q < fact q) := Go.Lib.hid hmod
        rw [hfq] at CW hff1 hff7 hix hmod hdiv hrem HAT
        rw [hixe] at hix hdiv HAT
        rw [hkm] at hmod hrem HAT
        rw [hfq, hkm, ← hfq] at HMOD
        obtain ⟨z, hz⟩ : ∃ z, left.getD ix 0 = z := ⟨_, rfl⟩
        rw [hz] at HAT
        have hckz : wr.cell? ⟨g2, ix, none⟩ = some (.int .i64 z) := by rw [hownB.cellAt ix (by omega)]; simp [show ix < left.length by omega]; rw [← hz]; simp [show ix < left.length by omega]
        obtain ⟨ix1, hix1⟩ : ∃ ix1, ix + 1 = ix1 := ⟨_, rfl⟩
        have p0 : IntKind.i64.wrap (ix : Int) = (ix : Int) := IntWalk.i64_in _ (by omega)
        have p1 : IntKind.i64.wrap ((ix : Int) + 1) = (ix1 : Int) := by rw [IntWalk.i64_in _ (by omega)]; omega
        have r4 : (ix : Int) < ((q + 1 : Nat) : Int) := by omega
        have r6 : (ix : Int) < (q : Int) + 1 := by omega
        have hfne : ((fq : Int) == 0) = false := by rw [beq_eq_false_iff_ne]; omega
        have hfne2 : ¬ (fq : Int) = 0 := by omega
        have hfne3 : ¬ fq = 0 := by omega
        have HL := Go.Lib.hid (And.intro hlo (And.intro hll (And.intro hjm (And.intro hix hix1))))
        have hj7 : j ≤ 7 := by omega
        have hkm5 : km ≤ 5040 := by omega
        have HG2 := Go.Lib.hid ((hownB.lt g2 rfl).2)
        clear hlo hll hjm hfq hkf2 hz hixe hkm
        go_wp2_with fail
        refine (CW.out _).mono ?_
        rintro e w3 ⟨rfl, rfl⟩
        go_wp2_with (at_builtin; refine wpList_append_own_at _ rfl _ _ 24 rfl W.heap.size 3 i0 (.int .i64 0) 1 8 Try.underlying24 hi hz0 hz1 hz2 rfl (by decide) (.slice (some ⟨g1, 0, none⟩) j c1) j (vals out) rfl (hownA.alloc _) ⟨wr.heap.size, 0, none⟩ 1 1 [.int .i64 z] rfl rfl (cell_one_new _ _ _) (fun x hx => by simp at hx; subst hx; rfl) (by unfold maxLen; omega) (by omega) (by have := hb.size; simp; omega) ?_; intro v' w4 hown' hgrow4 hnil4 hrow4)
        obtain ⟨g', cap', rfl⟩ := ownsRow_succ hown'
        have e1 : vals out ++ [Value.int .i64 z] = vals (out ++ [z]) := by simp
        rw [e1] at hown'
        have hb' : Below W.heap.size W w4 := (hb.alloc hb.size _).grown hgrow4 (by have := hb.size; simp; omega) (fun q hq => (hownA.lt q hq).1)
        have hownB' := own_mark (hownB.alloc (.cells #[.int .i64 z] 3)) hgrow4 (fun a ha e => by simp only [Value.ownBlock, Option.some.injEq] at ha e; omega)
        have hg12' : g' ≠ g2 := by
          have h1 := HG2.out
          rcases hrow4 with h2 | h2
          · simp [Value.ownBlock] at h2; omega
          · simp [Value.ownBlock] at h2; omega
        have CD := Go.Lib.hid (delete_own left g2 q c2 ix W.heap.size w4.drew HL.out.2.1 HL.out.2.2.2.1 (by omega) hownB')
        have hcc : ((ix + 1 : Nat) : Int) = (ix1 : Int) := by have := HL.out; omega
        rw [hcc] at CD
        have H3 := Go.Lib.hid (And.intro hown' (And.intro hg12' (And.intro hb' ((hownB'.lt g2 rfl).1))))
        clear hown' hgrow4 hnil4 hrow4 hownA hownB hb hb' hownB' hg12' e1 hckz hcc
        go_region_law ((go_simp; go_at_call 108; refine CD.out.mono ?_; rintro e w5 ⟨rfl, ho5, hg5⟩; have H5 := Go.Lib.hid (And.intro ho5 hg5)))
        all_goals
          have hgr : w4.grownBy w5 (some g2) := ⟨H5.out.2.os, H5.out.2.tape, H5.out.2.output, H5.out.2.size, H5.out.2.block⟩
          have hout5 := own_mark H3.out.1 hgr (fun a ha e => by have := H3.out.2.1; simp only [Value.ownBlock, Option.some.injEq] at ha e; omega)
          have hb5 : Below W.heap.size W w5 := H3.out.2.2.1.grown hgr H3.out.2.2.1.size (fun k hk => by cases hk; exact H3.out.2.2.2)
          have H7 := Go.Lib.hid (And.intro hout5 (And.intro H5.out.1 hb5))
          have HN : Hid ((out ++ [z]) ++ atRun q (left.eraseIdx ix) km = atRun i (iota i) kk ∧ km < fact q) := Go.Lib.hid ⟨by rw [← HR.out.1, HAT.out]; simp, HMOD.out⟩
          have HGN := Go.Lib.hid H3.out.2.1
          clear hgr hout5 hb5 ho5 hg5
          go_wp2
          go_roundw
          case rel => exact ⟨q, j + 1, km, g', cap', g2, c2, out ++ [z], left.eraseIdx ix, rfl, rfl, rfl, by have := HL.out; omega, by simp; exact HL.out.1, by rw [List.length_eraseIdx, HL.out.2.1]; have := HL.out; split <;> omega, by omega, H7.out.1, H7.out.2.1, HGN.out, H7.out.2.2, HN⟩
          case measure => simp [lenV]
      · obtain rfl : q1 = 0 := by omega
        have HE : Hid (atRun i (iota i) kk = out) := Go.Lib.hid (by rw [← HR.out.1]; simp [atRun])
        have H3 := Go.Lib.hid (And.intro hownA hb)
        obtain rfl : j = i := by omega
        clear hownA hownB hb
        go_wp2
        go_ret2
        exact ⟨_, rfl, by rw [HLN.out, HE.out]; exact H3.out.1, H3.out.2⟩
  · rw [if_neg (by omega)] at h
    cases h
    obtain ⟨f, hf⟩ : ∃ f, fact m = f := ⟨_, rfl⟩
    rw [hf] at C2 hf1 hf7 hkf
    have hkfi : (f : Int) ≤ (kk : Int) := by omega
    clear hf hw hw2
    go_enter Try.func101, Try.ntmps101
    go_wp2_with fail
    refine (C2.out _).mono ?_
    rintro e w1 ⟨rfl, rfl⟩
    go_wp2_with fail
    go_ret2
    exact listTo_none _ _

end Go.Proofs.Ytekihdnkkeggjaa.OrderAtC

/-
  Contract: the program's range over all orders of n numbers hands on each of them once, in ascending order of their ranks, in memory of its own. Conditions: 1 to 7 numbers.
-/
namespace Go.Proofs.Ytekihdnkkeggjaa.OrdersIterC
open Go.RowKit Go.Shelf SeesC IntsC ExactC OrdMath OrdFacts RankC OrderAtC AvMath RangeC

attribute [local go_sem] Oper.semAt_some

def Keep1 (a : Nat) (X Y : World) : Prop := Y.heap[a]? = X.heap[a]? ∧ X.heap.size ≤ Y.heap.size

theorem Keep1.trans {a : Nat} {A B C : World} (h : Keep1 a A B) (k : Keep1 a B C) : Keep1 a A C := ⟨Eq.trans k.1 h.1, Nat.le_trans h.2 k.2⟩
theorem Keep1.cell {a : Nat} {A B : World} (h : Keep1 a A B) : B.cell? ⟨a, 0, none⟩ = A.cell? ⟨a, 0, none⟩ := World.cell?_of_block h.1

/-- An order that is handed on: its numbers, and the slice. -/
abbrev El : Type := List Int × Value

def GivenOrd (B m : Nat) (x : El) (W : World) : Prop := (x.1.length = m ∧ Ord x.1) ∧ W.ownsRow B 3 1 x.2 m (vals x.1)

theorem small_wf {n : Nat} (h : n ≤ 5040) : (Lit.int .i64 (n : Int)).wf = true := by
  have e1 : IntKind.i64.min = -9223372036854775808 := rfl
  have e2 : IntKind.i64.max = 9223372036854775807 := rfl
  simp [Lit.wf, e1, e2]
  omega

theorem all_take {m k : Nat} (hk : k < fact m) : (allOrd m).take (k + 1) = (allOrd m).take k ++ [atRun m (iota m) k] := by
  rw [List.take_succ_eq_append_getElem (by rw [allOrd_len]; exact hk)]
  congr 1
  simp [allOrd]

set_option maxRecDepth 100000 in
set_option maxHeartbeats 2000000 in
theorem orders_hands (n Bn B m : Nat) (hn : 1 ≤ n) (hm1 : 1 ≤ m) (hm7 : m ≤ 7) (w : World) (hlt : Bn < w.heap.size) (hB : B ≤ w.heap.size) (hBn : w.cell? ⟨Bn, 0, none⟩ = some (.int .i64 (m : Int))) :
    Hands (α := El) Fence.wide n Try.prog 99 #[.pointer (some ⟨Bn, 0, none⟩)] (fun x => #[x.2]) (GivenOrd B m) (Keep1 Bn) (fun xs => xs.map (·.1) = allOrd m) (fun so => ∃ k, k < fact m ∧ so.map (·.1) = (allOrd m).take (k + 1)) (fact m) w := by
  intro l J Jx W hW hJ hY h0
  have hcell : W.cell? ⟨Bn, 0, none⟩ = some (.int .i64 (m : Int)) := (hW.cell (p := ⟨Bn, 0, none⟩) hlt).trans hBn
  have hBW : B ≤ W.heap.size := Nat.le_trans hB hW.size
  have hBnW : Bn < W.heap.size := Nat.lt_of_lt_of_le hlt hW.size
  have HY := Go.Lib.hid hY
  have HJ := Go.Lib.hid hJ
  have HF := Go.Lib.hid (And.intro (fact_pos m) (fact_7 hm7))
  have CO := Go.Lib.hid (fun W' => countOrders_any m W' hm7)
  obtain ⟨f, hf⟩ : ∃ f, fact m = f := ⟨_, rfl⟩
  have HFF := Go.Lib.hid hf
  have hf1 : 1 ≤ f := by rw [← hf]; exact HF.out.1
  have hf2 : f ≤ 5040 := by rw [← hf]; exact HF.out.2
  rw [hf] at CO
  clear hf hY hJ hBn hlt hB hW
  refine callsIn_of_wp Try.func99 rfl trivial ?_ rfl
  simp only [Try.ntmps99, List.size_toArray, List.length_cons, List.length_nil, Nat.reduceAdd, Nat.reduceSub, Array.replicate_succ, Array.replicate_zero, List.push_toArray, List.append_toArray, List.nil_append, List.cons_append]
  gi_wp2_with (refine ⟨trivial, ?_⟩; gi_at_call 100; refine (callsIn_wide.2 (CO.out _)).mono ?_; rintro e _ ⟨rfl, rfl⟩)
  gi_loopw [8] (fun kv wr => ∃ (k : Nat) (so : List El), k ≤ f ∧ kv = .int .i64 k ∧ wr.cell? ⟨Bn, 0, none⟩ = some (.int .i64 (m : Int)) ∧ Hid (J so wr ∧ so.map (·.1) = (allOrd m).take k ∧ W.heap.size ≤ wr.heap.size)) (fun kv _ => f - (intOf kv).toNat)
  case atStart => exact ⟨0, [], Nat.zero_le _, rfl, hcell, Go.Lib.hid ⟨h0, rfl, Nat.le_refl _⟩⟩
  case round =>
    obtain ⟨k, so, hk, rfl, hc, HS⟩ := hrel
    clear hcell h0
    by_cases hlt : k < f
    · have hkf : k < fact m := by rw [HFF.out]; exact hlt
      have hat : atAns (m : Int) (k : Int) = (atRun m (iota m) k, true) := by
        unfold atAns
        rw [if_pos ⟨by omega, by omega, by omega, by rw [Int.toNat_natCast]; exact Int.ofNat_lt.2 hkf⟩, Int.toNat_natCast, Int.toNat_natCast]
      have CA := Go.Lib.hid (implAt (m : Int) (k : Int) _ _ hat (small_wf (by omega)) (small_wf (by omega)) wr)
      have hln := atRun_len m (iota m) k
      have HO := Go.Lib.hid (rank_of_at hm1 hm7 hkf).1
      have HT := Go.Lib.hid (all_take hkf)
      obtain ⟨xs, hxs⟩ : ∃ xs, atRun m (iota m) k = xs := ⟨_, rfl⟩
      rw [hxs] at CA hln HO HT
      have HLN := Go.Lib.hid hln
      have hlti : (k : Int) < (f : Int) := by omega
      clear hat hxs hkf hln
      gi_wp2_with (refine ⟨trivial, ?_⟩; gi_at_call 101; refine (callsIn_wide.2 CA.out).mono ?_; rintro e w2 ⟨v, rfl, ho, hb⟩; have HW := Go.Lib.hid (And.intro ho hb); clear ho hb; have hlen := congrArg List.length HS.out.2.1; obtain ⟨fn, tmps, assign, body, hy, hR⟩ := HY.out so (xs, v) w2 (HJ.out _ _ _ none HS.out.1 (grown_of_below HW.out.2 none) (fun _ e => by cases e)) ⟨⟨HLN.out, HO.out⟩, by rw [← HLN.out]; exact own_lower HW.out.1 (Nat.le_trans hBW HS.out.2.2)⟩ (by rw [List.length_map, List.length_take, allOrd_len, HFF.out] at hlen; rw [HFF.out]; omega); clear hlen; dsimp only at hy)
      refine hR.mono ?_
      rintro e W3 (⟨rfl, hJ3, hk3⟩ | ⟨rfl, hJx3⟩)
      · have hc3 : W3.cell? ⟨Bn, 0, none⟩ = some (.int .i64 (m : Int)) := hk3.cell.trans ((HW.out.2.cell (p := ⟨Bn, 0, none⟩) (Nat.lt_of_lt_of_le hBnW HS.out.2.2)).trans hc)
        have HN : Hid (J (so ++ [(xs, v)]) W3 ∧ (so ++ [(xs, v)]).map (·.1) = (allOrd m).take (k + 1) ∧ W.heap.size ≤ W3.heap.size) := Go.Lib.hid ⟨hJ3, by rw [List.map_append, HS.out.2.1, HT.out]; rfl, Nat.le_trans HS.out.2.2 (Nat.le_trans HW.out.2.size hk3.2)⟩
        clear hJ3 hk3 hy hR
        gi_wp2
        go_roundw
        case rel => exact ⟨k + 1, _, by omega, by go_num, hc3, HN⟩
        case measure => simp [intOf]; omega
      · have HN : Hid (∃ k, k < fact m ∧ (so ++ [(xs, v)]).map (·.1) = (allOrd m).take (k + 1)) := Go.Lib.hid ⟨k, by rw [HFF.out]; exact hlt, by rw [List.map_append, HS.out.2.1, HT.out]; rfl⟩
        clear hy hR
        gi_wp2
        refine bodyPost_ret (results_none rfl _ _ _) rfl ?_
        exact ⟨⟨_, rfl⟩, .inr ⟨_, HN.out, hJx3⟩⟩
    · have hkf : k = f := by omega
      subst hkf
      have HN : Hid (so.map (·.1) = allOrd m) := Go.Lib.hid (by rw [HS.out.2.1]; exact List.take_of_length_le (by rw [allOrd_len, HFF.out]; exact Nat.le_refl _))
      have hlti : ¬ ((k : Int) < (k : Int)) := by omega
      gi_wp2
      go_end0
      exact ⟨⟨_, rfl⟩, .inl ⟨so, HN.out, HS.out.1⟩⟩

set_option maxHeartbeats 1000000 in
theorem ordersOf_in (F : Fence) (n m : Nat) (h1 : F.fn 80) (hro : F.round = none) (w : World) :
    CallsIn F n Try.prog 80 #[.int .i64 (m : Int)] w fun e w' => e = .returned (.func (.func 99) #[] #[.pointer (some ⟨w.heap.size, 0, none⟩)]) ∧ w' = w.alloc (.cells #[.int .i64 (m : Int)] 3) := by
  refine callsIn_of_wp Try.func80 rfl h1 ?_ hro
  simp only [Try.ntmps80, List.size_toArray, List.length_cons, List.length_nil, Nat.reduceAdd, Nat.reduceSub, Array.replicate_succ, Array.replicate_zero, List.push_toArray, List.append_toArray, List.nil_append, List.cons_append]
  gi_wp2
  go_ret
  exact ⟨rfl, rfl⟩

end Go.Proofs.Ytekihdnkkeggjaa.OrdersIterC

/-
  Contracts: the program's goOn, by recursion, and the iterator of sharingsOf: it hands on each sharing that fits, in ascending order. Conditions: an order, at most 7 stacks.
-/
namespace Go.Proofs.Ytekihdnkkeggjaa.GoOnC
open Go Go.Maps Go.RowKit Go.Shelf SeesC IntsC ExactC OrdMath BesM ListsC ConfIC UseC RangeC Range2C OrdersIterC
set_option linter.unusedVariables false

attribute [local go_sem] Oper.semAt_some

/-- What lies from a block on is as it was: the cells and the maps. -/
def KeepC (B : Nat) (X Y : World) : Prop := X.heap.size ≤ Y.heap.size ∧ ∀ q o, B ≤ q → X.heap[q]? = some o → (o.isCells = true ∨ o.isWalk = true) → Y.heap[q]? = some o

theorem KeepC.refl (B : Nat) (X : World) : KeepC B X X := ⟨Nat.le_refl _, fun _ _ _ h _ => h⟩
theorem KeepC.trans {B : Nat} {X Y Z : World} (h : KeepC B X Y) (k : KeepC B Y Z) : KeepC B X Z := ⟨Nat.le_trans h.1 k.1, fun q o hq ho hc => k.2 q o hq (h.2 q o hq ho hc) hc⟩
theorem KeepC.of_below {B : Nat} {X Y : World} (h : Below X.heap.size X Y) : KeepC B X Y := ⟨h.size, fun q o _ ho _ => by
  have hq : q < X.heap.size := (Array.getElem?_eq_some_iff.1 ho).1
  rw [h.block q hq]; exact ho⟩

theorem cell_obj {X : World} {p : Addr} {v : Value} (h : X.cell? p = some v) : ∃ o, X.heap[p.block]? = some o ∧ o.isCells = true := by
  unfold World.cell? at h
  cases ho : X.heap[p.block]? with
  | none => rw [ho] at h; cases h
  | some o =>
    refine ⟨o, rfl, ?_⟩
    rw [ho] at h
    cases o <;> first | rfl | (simp at h)

theorem KeepC.cell {B : Nat} {X Y : World} (h : KeepC B X Y) {p : Addr} {v : Value} (hp : B ≤ p.block) (hc : X.cell? p = some v) : Y.cell? p = some v := by
  obtain ⟨o, ho, hi⟩ := cell_obj hc
  have h2 := h.2 _ o hp ho (.inl hi)
  rw [World.cell?_of_block (w := X) (w' := Y) (a := p) (by rw [h2, ho])]
  exact hc

theorem KeepC.own {B : Nat} {X Y : World} (h : KeepC B X Y) {ty : TypeId} {size n : Nat} {v : Value} {xs : List Value} (ho : X.ownsRow B ty size v n xs) : Y.ownsRow B ty size v n xs := by
  obtain ⟨h1, h2⟩ := ho
  refine ⟨h1, ?_⟩
  rcases h2 with h2 | ⟨g, cap, cur, hv, hb, hg, rest⟩
  · exact .inl h2
  · exact .inr ⟨g, cap, cur, hv, hb, h.2 _ _ hb hg (.inl rfl), rest⟩

theorem KeepC.use {B : Nat} {X Y : World} (h : KeepC B X Y) {b : Nat} {U : List Int} (hb : B ≤ b) (hu : UseMap X b U) : UseMap Y b U := by
  obtain ⟨n, D, ⟨es, clock, hp, hf, hn, hD⟩, h2, h3, h4⟩ := hu
  exact ⟨n, D, ⟨es, clock, h.2 _ _ hb hp (.inr rfl), hf, hn, hD⟩, h2, h3, h4⟩

/-- The boxes and the rows that goOn reads. -/
structure Env (B n k : Nat) (C : List (Nat × Nat)) (l bo yb bc bk bg : Nat) (ad : Option Addr) (cap g c N : Nat) (X : World) : Prop where
  co : X.cell? ⟨bo, 0, none⟩ = some (.slice ad n cap)
  cy : X.cell? ⟨yb, 0, none⟩ = some (.func (.yield l) #[] #[])
  cc : X.cell? ⟨bc, 0, none⟩ = some (.slice (some ⟨g, 0, none⟩) N c)
  ck : X.cell? ⟨bk, 0, none⟩ = some (.int .i64 (k : Int))
  cg : X.cell? ⟨bg, 0, none⟩ = some (.func (.func 98) #[] #[.pointer (some ⟨bo, 0, none⟩), .pointer (some ⟨yb, 0, none⟩), .pointer (some ⟨bc, 0, none⟩), .pointer (some ⟨bk, 0, none⟩), .pointer (some ⟨bg, 0, none⟩)])
  rows : ∀ i, i < N → X.cell? ⟨g, i * 2, none⟩ = some (.int .i64 ((C.getD i (0, 0)).1 : Int)) ∧ X.cell? ⟨g, i * 2 + 1, none⟩ = some (.int .i64 ((C.getD i (0, 0)).2 : Int))
  low : B ≤ bo ∧ B ≤ yb ∧ B ≤ bc ∧ B ≤ bk ∧ B ≤ bg ∧ B ≤ g
  high : g < X.heap.size

theorem Env.keep {B n k : Nat} {C : List (Nat × Nat)} {l bo yb bc bk bg : Nat} {ad : Option Addr} {cap g c N : Nat} {X Y : World} (h : Env B n k C l bo yb bc bk bg ad cap g c N X) (hk : KeepC B X Y) : Env B n k C l bo yb bc bk bg ad cap g c N Y :=
  ⟨hk.cell h.low.1 h.co, hk.cell h.low.2.1 h.cy, hk.cell h.low.2.2.1 h.cc, hk.cell h.low.2.2.2.1 h.ck, hk.cell h.low.2.2.2.2.1 h.cg,
    fun i hi => ⟨hk.cell h.low.2.2.2.2.2 (h.rows i hi).1, hk.cell h.low.2.2.2.2.2 (h.rows i hi).2⟩, h.low, Nat.lt_of_lt_of_le h.high hk.1⟩

/-- A sharing that is handed on: its places, and the slice. -/
def GivenSh (zs : List Int) (B n k : Nat) (x : El) (X : World) : Prop := (x.1.length = n ∧ Fits zs x.1 ∧ ∀ s ∈ x.1, 0 ≤ s ∧ s < (k : Int)) ∧ X.ownsRow B 3 1 x.2 n (vals x.1)

/-- How goOn ends. -/
def GoPost (zs : List Int) (k B d : Nat) (J Jx : List El → World → Prop) (acc : List El) (so : List Int) (X : World) (e : Ending) (Y : World) : Prop :=
  (e = .returned (.bool true) ∧ (∃ xs : List El, xs.map (·.1) = ext zs k d so ∧ J (acc ++ xs) Y) ∧ KeepC B X Y) ∨
  (e = .returned (.bool false) ∧ ∃ (xs : List El) (t : Nat), t < (ext zs k d so).length ∧ xs.map (·.1) = (ext zs k d so).take (t + 1) ∧ Jx (acc ++ xs) Y ∧ KeepC B X Y)

set_option maxRecDepth 100000 in
set_option maxHeartbeats 2000000 in
theorem goOn_base (zs : List Int) (n k p M : Nat) (hp1 : 1 ≤ p) (l B bo yb bc bk bg : Nat) (C : List (Nat × Nat)) (ad : Option Addr) (cap g c N : Nat) (J Jx : List El → World → Prop)
    (HY : ∀ so x X, J so X → GivenSh zs B n k x X → so.length < M → YieldAt Fence.wide (p - 1) Try.prog l #[x.2] X fun e Y => (e = .returned (.bool true) ∧ J (so ++ [x]) Y ∧ KeepC B X Y) ∨ (e = .returned (.bool false) ∧ Jx (so ++ [x]) Y ∧ KeepC B X Y))
    (so : List Int) (gs cs : Nat) (acc : List El) (X : World) (hso : so.length = n) (hF : Fits zs so) (hr : ∀ s ∈ so, 0 ≤ s ∧ s < (k : Int)) (ho : X.ownsRow B 3 1 (.slice (some ⟨gs, 0, none⟩) n cs) n (vals so)) (hE : Env B n k C l bo yb bc bk bg ad cap g c N X) (hJ : J acc X) (hM : acc.length < M) :
    Calls Try.prog 98 #[.slice (some ⟨gs, 0, none⟩) n cs, .pointer (some ⟨bo, 0, none⟩), .pointer (some ⟨yb, 0, none⟩), .pointer (some ⟨bc, 0, none⟩), .pointer (some ⟨bk, 0, none⟩), .pointer (some ⟨bg, 0, none⟩)] X (GoPost zs k B 0 J Jx acc so X) := by
  have hco := hE.co
  have hcy := hE.cy
  have HP := Go.Lib.hid (HY acc (so, .slice (some ⟨gs, 0, none⟩) n cs) X hJ ⟨⟨hso, hF, hr⟩, ho⟩ hM)
  clear HY hE hJ ho hF hr hM hso
  refine (callsIn_wide (n := p)).1 ?_
  refine callsIn_of_wp Try.func98 rfl trivial ?_ rfl
  simp only [Try.ntmps98, List.size_toArray, List.length_cons, List.length_nil, Nat.reduceAdd, Nat.reduceSub, Array.replicate_succ, Array.replicate_zero, List.push_toArray, List.append_toArray, List.nil_append, List.cons_append]
  gi_wp2_with fail
  obtain ⟨fn, tmps, assign, body, hy, hR⟩ := HP.out
  rw [hy]
  gi_wp2_with fail
  refine hR.mono ?_
  rintro e W3 (⟨rfl, hJ3, hk3⟩ | ⟨rfl, hJx3, hk3⟩)
  · have HN : Hid (GoPost zs k B 0 J Jx acc so X (.returned (.bool true)) W3) := Go.Lib.hid (.inl ⟨rfl, ⟨[(so, .slice (some ⟨gs, 0, none⟩) n cs)], rfl, hJ3⟩, hk3⟩)
    clear hJ3 hk3 hy hR
    gi_wp2
    go_ret
    exact HN.out
  · have HN : Hid (GoPost zs k B 0 J Jx acc so X (.returned (.bool false)) W3) := Go.Lib.hid (.inr ⟨rfl, [(so, .slice (some ⟨gs, 0, none⟩) n cs)], 0, by simp [ext], rfl, hJx3, hk3⟩)
    clear hJx3 hk3 hy hR
    gi_wp2
    go_ret
    exact HN.out

theorem own_heap {w w' : World} (h : w'.heap = w.heap) {base size n : Nat} {ty : TypeId} {v : Value} {xs : List Value} (ho : w.ownsRow base ty size v n xs) : w'.ownsRow base ty size v n xs := by
  unfold World.ownsRow at *
  rw [h]; exact ho

theorem below_heap {w w' a : World} {B : Nat} (h : Below B a w) (h1 : w'.os = w.os) (h2 : w'.tape = w.tape) (h3 : w'.output = w.output) (h4 : w'.heap = w.heap) : Below B a w' :=
  ⟨h1.trans h.os, h2.trans h.tape, h3.trans h.output, by rw [h4]; exact h.size, fun q hq => by rw [h4]; exact h.block q hq⟩

theorem below_grown {X X0 X' a : World} {B : Nat} {row : Option Nat} (hg : X.grownBy X' row) (hb : Below B a X0) (hs : B ≤ X0.heap.size) (h1 : X.os = X0.os) (h2 : X.tape = X0.tape) (h3 : X.output = X0.output) (h4 : X.heap = X0.heap) (hr : ∀ k, row = some k → B ≤ k) : Below B a X' :=
  (below_heap hb h1 h2 h3 h4).grown hg (by rw [h4]; exact hs) hr

theorem cell_heap {w w' : World} (h : w'.heap = w.heap) {a : Addr} {u : Value} (hc : w.cell? a = some u) : w'.cell? a = some u := by
  unfold World.cell? at *
  rw [h]; exact hc

theorem step_append_guarded {P : Program} {ops : Array Oper} {o : Oper} {a : Act} {w : World} {K : Act → World → Prop} {Q : Exit → Act → World → Prop} {E : Prop}
    (hw : Region.wanted o (yielded ops a.tmps) = true) (s x : Operand) (t : TypeId) (hop : o.op = Op.call { callee := Callee.builtin Builtin.append, args := #[s, x], argTypes := #[t, t] })
    (e : TypeId) (i : TypeInfo) (z : Value) (size bytes : Nat) (h1 : P.underlying t = some (.slice e)) (h2 : P.info? e = some i) (h3 : i.zero = some z) (h4 : i.size = size) (h5 : i.bytes = bytes) (h6 : z.cells.size = size) (h7 : 0 < size)
    (b : Addr) (n cap : Nat) (olds : List Value) (hs : a.eval s = .slice (some b) n cap) (hlo : olds.length = n * size) (holds : ∀ j u, olds[j]? = some u → w.cell? (b.add j) = some u)
    (ad : Addr) (m c : Nat) (news : List Value) (hx : a.eval x = .slice (some ad) m c) (hn : news.length = m * size) (hc : ∀ j u, news[j]? = some u → w.cell? (ad.add j) = some u)
    (hfull : cap < n + m) (b1 : n + m ≤ maxLen) (b2 : (n + m) * bytes ≤ 140737488355328)
    (hK : ∀ v' w', w'.ownsRow w.heap.size e size v' (n + m) (olds ++ news) → w.grownBy w' none → K (a.put o.dst v') w') :
    if Region.wanted o (yielded ops a.tmps) = true then Oper.wp P o a w K Q else E := by
  rw [if_pos hw]
  obtain ⟨v', w', hrun, r1, r2⟩ := run_append_arg_grows (P := P) w t o.type e i z size bytes h1 h2 h3 h4 h5 h6 h7 b n cap olds hlo holds ad m c news hn hc hfull b1 b2
  unfold Oper.wp
  simp [execOp, hop, resolve, invoke, builtin, hs, hx, hrun, Result.andThen]
  exact hK v' w' r1 r2

theorem app_new {B m : Nat} {wo X w4 : World} {v4 : Value} {l : List Int} {x : Int} {o : Obj} (h : w4.ownsRow X.heap.size 3 1 v4 (m + 1) (vals l ++ [.int .i64 x])) (hB : B ≤ wo.heap.size) (hg : X.grownBy w4 none) (hb : Below wo.heap.size wo (wo.alloc o)) (h1 : X.os = (wo.alloc o).os := by rfl) (h2 : X.tape = (wo.alloc o).tape := by rfl) (h3 : X.output = (wo.alloc o).output := by rfl) (h4 : X.heap = (wo.alloc o).heap := by rfl) :
    w4.ownsRow B 3 1 v4 (m + 1) (vals (l ++ [x])) ∧ Below wo.heap.size wo w4 := by
  have e : vals (l ++ [x]) = vals l ++ [.int .i64 x] := List.map_append
  rw [e]
  exact ⟨own_lower h (by rw [h4]; exact Nat.le_trans hB hb.size), below_grown hg hb hb.size h1 h2 h3 h4 (fun k hk => by cases hk)⟩

/-- How goOn ends, by its answer. -/
def GoOut (zs : List Int) (k B d : Nat) (J Jx : List El → World → Prop) (acc : List El) (so : List Int) (X : World) (r : Bool) (Y : World) : Prop :=
  (r = true ∧ (∃ xs : List El, xs.map (·.1) = ext zs k d so ∧ J (acc ++ xs) Y) ∧ KeepC B X Y) ∨
  (r = false ∧ ∃ (xs : List El) (t : Nat), t < (ext zs k d so).length ∧ xs.map (·.1) = (ext zs k d so).take (t + 1) ∧ Jx (acc ++ xs) Y ∧ KeepC B X Y)

theorem GoOut.keep {zs : List Int} {k B d : Nat} {J Jx : List El → World → Prop} {acc : List El} {so : List Int} {X : World} {r : Bool} {Y : World} (h : GoOut zs k B d J Jx acc so X r Y) : KeepC B X Y := by
  rcases h with ⟨_, _, h⟩ | ⟨_, _, _, _, _, _, h⟩ <;> exact h

theorem GoPost.out {zs : List Int} {k B d : Nat} {J Jx : List El → World → Prop} {acc : List El} {so : List Int} {X : World} {e : Ending} {Y : World} (h : GoPost zs k B d J Jx acc so X e Y) : ∃ r, e = .returned (.bool r) ∧ GoOut zs k B d J Jx acc so X r Y := by
  rcases h with ⟨h1, h2⟩ | ⟨h1, h2⟩
  · exact ⟨true, h1, .inl ⟨rfl, h2⟩⟩
  · exact ⟨false, h1, .inr ⟨rfl, h2⟩⟩

/-- What goOn does from d places on. -/
def GoOnTo (zs : List Int) (k n B M s0 : Nat) (l bo yb bc bk bg : Nat) (ad : Option Addr) (cap g c N : Nat) (J Jx : List El → World → Prop) (d : Nat) : Prop :=
  ∀ (m : Nat), m + d = n → ∀ (so : List Int) (gs cs : Nat) (acc : List El) (X : World), so.length = m → Fits zs so → (∀ s ∈ so, 0 ≤ s ∧ s < (k : Int)) → X.ownsRow B 3 1 (.slice (some ⟨gs, 0, none⟩) m cs) m (vals so) → Env B n k (confs zs) l bo yb bc bk bg ad cap g c N X → J acc X → s0 ≤ X.heap.size → acc.length + (ext zs k d so).length ≤ M →
  Calls Try.prog 98 #[.slice (some ⟨gs, 0, none⟩) m cs, .pointer (some ⟨bo, 0, none⟩), .pointer (some ⟨yb, 0, none⟩), .pointer (some ⟨bc, 0, none⟩), .pointer (some ⟨bk, 0, none⟩), .pointer (some ⟨bg, 0, none⟩)] X (GoPost zs k B d J Jx acc so X)

/-- The first x of the ways to go on. -/
def part (zs : List Int) (k d : Nat) (so : List Int) (x : Nat) : List (List Int) := (List.range x).flatMap fun (y : Nat) => if okN zs so (y : Int) then ext zs k d (so ++ [(y : Int)]) else []

theorem part_next (zs : List Int) (k d : Nat) (so : List Int) (x : Nat) : part zs k d so (x + 1) = part zs k d so x ++ (if okN zs so (x : Int) then ext zs k d (so ++ [(x : Int)]) else []) := by
  unfold part
  rw [List.range_succ, List.flatMap_append]
  simp

theorem part_pre (zs : List Int) (k d : Nat) (so : List Int) {x y : Nat} (h : x ≤ y) : part zs k d so x <+: part zs k d so y := by
  obtain ⟨z, rfl⟩ : ∃ z, y = x + z := ⟨y - x, by omega⟩
  clear h
  induction z with
  | zero => exact List.prefix_refl _
  | succ z ih => rw [← Nat.add_assoc, part_next]; exact ih.trans (List.prefix_append _ _)

theorem part_end (zs : List Int) (k d : Nat) (so : List Int) : part zs k d so k = ext zs k (d + 1) so := rfl

theorem take_pre {α : Type} {A B L : List α} {t : Nat} (h : A ++ B <+: L) (ht : t < B.length) : A.length + t < L.length ∧ L.take (A.length + t + 1) = A ++ B.take (t + 1) := by
  obtain ⟨C, rfl⟩ := h
  refine ⟨by simp; omega, ?_⟩
  rw [List.append_assoc, Nat.add_assoc, List.take_length_add_append, List.take_append_of_le_length (by omega)]

set_option maxRecDepth 100000 in
set_option maxHeartbeats 4000000 in
theorem goOn_step (zs : List Int) (hord : Ord zs) (n k M s0 : Nat) (hl : zs.length = n) (hk7 : k ≤ 7) (l B bo yb bc bk bg : Nat) (ad : Option Addr) (cap g c N : Nat) (hN : (confs zs).length = N) (hNc : N ≤ c) (J Jx : List El → World → Prop) (HJ : AbidesFrom s0 J)
    (d : Nat) (IH : GoOnTo zs k n B M s0 l bo yb bc bk bg ad cap g c N J Jx d) : GoOnTo zs k n B M s0 l bo yb bc bk bg ad cap g c N J Jx (d + 1) := by
  intro m hmd so gs cs acc X hso hF hr ho hE hJ hs0 hM
  obtain ⟨i0, hi, hz0, hz1, hz2⟩ := info_parts infoI
  have hn7 : n ≤ 7 := by have := hord.2.1; omega
  have hm7 : m ≤ 7 := by omega
  have hN98 : N ≤ 98 := by have := confs_len (zs := zs) (by omega); omega
  have hmcs : m ≤ cs := by
    obtain ⟨_, a, c', e, h3, _⟩ := Sees.owns ho
    cases e; exact h3
  have hco := hE.co
  have hcc := hE.cc
  have hck := hE.ck
  have CU := Go.Lib.hid (inUse_any (confs zs) (fun p hp => (mem_confs (zs := zs) (i := p.1) (j := p.2)).1 hp |>.1) so (fun x hx => by have := hr x hx; omega) X g c N hN hN98 hNc hE.high (fun i hi => hE.rows i hi) (.slice (some ⟨gs, 0, none⟩) m cs) m (Sees.owns ho) (by omega))
  have H0 := Go.Lib.hid (And.intro ho (And.intro hE (And.intro hJ (And.intro hs0 hM))))
  have HF := Go.Lib.hid (And.intro hF (And.intro hr (And.intro hso (And.intro hmd hl))))
  have HJH := Go.Lib.hid HJ
  have IHH := Go.Lib.hid IH
  have hne : ((m : Int) == (n : Int)) = false := by rw [beq_eq_false_iff_ne]; omega
  have hne2 : (m == n) = false := by rw [beq_eq_false_iff_ne]; omega
  clear IH HJ ho hE hJ hs0 hM hF hr hso hmd hl hord hN
  go_enter Try.func98, Try.ntmps98
  go_wp2_with fail
  refine (CU.out).mono ?_
  rintro e w1 ⟨b1, rfl, hu1, hb1, hB1⟩
  have hEk := H0.out.2.1.keep (KeepC.of_below hB1)
  have hck1 := hEk.ck
  have HL0 : Hid (∃ xs : List El, xs.map (·.1) = part zs k d so 0 ∧ J (acc ++ xs) w1 ∧ KeepC B X w1 ∧ UseMap w1 b1 (inUse (confs zs) so)) := Go.Lib.hid ⟨[], rfl, by rw [List.append_nil]; exact HJH.out _ _ _ none H0.out.2.2.1 (grown_of_below hB1 none) (fun _ e => by cases e), KeepC.of_below hB1, hu1⟩
  have HB1 := Go.Lib.hid (And.intro hb1 hB1)
  clear hu1 hb1 hB1 hEk CU hco hcc hck
  go_wp2_with fail
  go_loopw [22] (fun xv wr => ∃ (x : Nat), x ≤ k ∧ xv = .int .i64 (x : Int) ∧ Hid (∃ xs : List El, xs.map (·.1) = part zs k d so x ∧ J (acc ++ xs) wr ∧ KeepC B X wr ∧ UseMap wr b1 (inUse (confs zs) so))) (fun xv _ => k - (intOf xv).toNat)
  case atStart => exact ⟨0, Nat.zero_le _, rfl, HL0⟩
  case round =>
    obtain ⟨x, hxk, rfl, HX⟩ := hrel
    clear HL0 hck1
    obtain ⟨wo, rfl⟩ : ∃ wo, wo = wr := ⟨_, rfl⟩
    by_cases hlt : x < k
    · have hxi : (x : Int) < (k : Int) := by omega
      obtain ⟨u, hu⟩ : ∃ u, (inUse (confs zs) so).contains (x : Int) = u := ⟨_, rfl⟩
      have hlook : ∀ q, (Instr.lookup 82 (.map (some b1)) (.int .i64 (x : Int)) false).run Try.prog (wo.drewN q) = .ok (.bool u) (wo.drewN q) := by
        obtain ⟨xs, _, _, _, hum⟩ := HX.out
        intro q
        have h1 := UseMap.look (w := wo.drewN q) (b := b1) hum (x := (x : Int)) (by omega)
        rw [hu] at h1; exact h1
      have hcg : wo.cell? ⟨bg, 0, none⟩ = some (.func (.func 98) #[] #[.pointer (some ⟨bo, 0, none⟩), .pointer (some ⟨yb, 0, none⟩), .pointer (some ⟨bc, 0, none⟩), .pointer (some ⟨bk, 0, none⟩), .pointer (some ⟨bg, 0, none⟩)]) := by
        obtain ⟨xs, _, _, hkp, _⟩ := HX.out
        exact (H0.out.2.1.keep hkp).cg
      have HUU := Go.Lib.hid hu
      clear hu
      cases u with
      | true =>
        have HN : Hid (∃ xs : List El, xs.map (·.1) = part zs k d so (x + 1) ∧ J (acc ++ xs) wo ∧ KeepC B X wo ∧ UseMap wo b1 (inUse (confs zs) so)) := Go.Lib.hid (by
          obtain ⟨xs, h1, h2, h3, h4⟩ := HX.out
          refine ⟨xs, ?_, h2, h3, h4⟩
          rw [part_next, h1]
          unfold okN
          rw [HUU.out]; simp)
        go_wp2_with fail
        go_quiet (fail)
        go_wp2
        go_roundw
        case rel => exact ⟨x + 1, by omega, by go_num, Go.Lib.hid (by
          obtain ⟨xs, h1, h2, h3, h4⟩ := HN.out
          exact ⟨xs, h1, HJH.out _ _ _ none h2 (grown_of_below (((Drawn.refl wo).next _).below _) none) (fun _ e => by cases e), h3, h4⟩)⟩
        case measure => simp [intOf]; omega
      | false =>
        obtain ⟨xs, hx1, hx2, hx3, hx4⟩ := HX.out
        have hbo := hx3.own H0.out.1
        have hEo := H0.out.2.1.keep hx3
        have hokN : okN zs so (x : Int) = true := by unfold okN; rw [HUU.out]; rfl
        have hF2 : Fits zs (so ++ [(x : Int)]) := (fits_snoc (by have h1 := HF.out.2.2.1; have h2 := HF.out.2.2.2.1; have h3 := HF.out.2.2.2.2; omega)).2 ⟨HF.out.1, hokN⟩
        have hpn := part_next zs k d so x
        rw [if_pos hokN] at hpn
        have hpp := part_pre zs k d so (x := x + 1) (y := k) (by omega)
        have hMM : (acc ++ xs).length + (ext zs k d (so ++ [(x : Int)])).length ≤ M := by
          have h1 := H0.out.2.2.2.2
          have h2 := hpp.length_le
          rw [hpn, List.length_append, part_end] at h2
          have h3 := congrArg List.length hx1
          rw [List.length_map] at h3
          rw [List.length_append]
          omega
        have hs0 : s0 ≤ wo.heap.size := Nat.le_trans H0.out.2.2.2.1 hx3.1
        have CI := Go.Lib.hid (fun (g4 c4 : Nat) (X' : World) (hX' : Below wo.heap.size wo X') (ho4 : X'.ownsRow B 3 1 (.slice (some ⟨g4, 0, none⟩) (m + 1) c4) (m + 1) (vals (so ++ [(x : Int)]))) =>
          (IHH.out (m + 1) (by have := HF.out.2.2.2.1; omega) (so ++ [(x : Int)]) g4 c4 (acc ++ xs) X' (by rw [List.length_append, HF.out.2.2.1]; rfl) hF2 (fun s hs => by
            rw [List.mem_append, List.mem_singleton] at hs
            rcases hs with hs | rfl
            · exact HF.out.2.1 s hs
            · omega) ho4 (hEo.keep (KeepC.of_below hX')) (HJH.out _ _ _ none hx2 (grown_of_below hX' none) (fun _ e => by cases e)) (Nat.le_trans hs0 hX'.size) hMM).mono (fun e Y h => h.out))
        have HCG := Go.Lib.hid (fun (X' : World) (hX' : Below wo.heap.size wo X') => (KeepC.of_below hX').cell hEo.low.2.2.2.2.1 hcg)
        have HBG : Hid (∀ X' : World, Below wo.heap.size wo X' → ∀ b : Addr, some (⟨gs, 0, none⟩ : Addr) = some b → ∀ (j : Nat) (u : Value), (vals so)[j]? = some u → X'.cell? (b.add j) = some u) := Go.Lib.hid (fun X' hX' b hb j u hu => by
          cases hb
          exact (kept_call hbo hX').cells (g := gs) rfl j u hu)
        have hl0 := hlook 0
        have hl1 : (Instr.lookup 82 (.map (some b1)) (.int .i64 (x : Int)) false).run Try.prog wo.drew = .ok (.bool false) wo.drew := hlook 1
        have hl2 : (Instr.lookup 82 (.map (some b1)) (.int .i64 (x : Int)) false).run Try.prog wo.drew.drew = .ok (.bool false) wo.drew.drew := hlook 2
        have hsoB : B ≤ wo.heap.size := by have h1 := hEo.low.2.2.2.2.2; have h2 := hEo.high; omega
        have HXX := Go.Lib.hid (And.intro hx1 (And.intro hx3 (And.intro hpn (And.intro hpp (And.intro hF2 hsoB)))))
        have HBGL : Hid (B ≤ bg) := Go.Lib.hid hEo.low.2.2.2.2.1
        have hbglt : bg < wo.heap.size := World.block_lt_of_cell? wo ⟨bg, 0, none⟩ hcg
        have hcg1 : wo.drew.cell? ⟨bg, 0, none⟩ = some (.func (.func 98) #[] #[.pointer (some ⟨bo, 0, none⟩), .pointer (some ⟨yb, 0, none⟩), .pointer (some ⟨bc, 0, none⟩), .pointer (some ⟨bk, 0, none⟩), .pointer (some ⟨bg, 0, none⟩)]) := hcg
        have hu2 := Try.underlying24
        have HI := Go.Lib.hid (And.intro hi (And.intro hz0 (And.intro hz1 hz2)))
        have BR := Go.Lib.hid (Below.refl wo.heap.size wo)
        have BRA := Go.Lib.hid ((Below.refl wo.heap.size wo).alloc (Nat.le_refl _) (.cells #[.int .i64 (x : Int)] 3))
        have HLV : Hid ((vals so).length = m * 1) := Go.Lib.hid (by rw [List.length_map, HF.out.2.2.1, Nat.mul_one])
        have hx4' := hx4
        clear hx1 hx2 hx3 hx4 hbo hEo hokN hF2 hpn hpp hMM hs0 hx4' hi hz0 hz1 hz2
        go_wp2_with fail
        go_region_held3 (fun X' => X'.cell? ⟨bg, 0, none⟩ = some (.func (.func 98) #[] #[.pointer (some ⟨bo, 0, none⟩), .pointer (some ⟨yb, 0, none⟩), .pointer (some ⟨bc, 0, none⟩), .pointer (some ⟨bk, 0, none⟩), .pointer (some ⟨bg, 0, none⟩)])) (first
          | exact HCG5.out.cell (p := ⟨bg, 0, none⟩) HBGL.out (HCG.out _ (below_heap H4.out.2 (by rfl) (by rfl) (by rfl) (by rfl)))
          | exact HCG.out _ (below_heap H4.out.2 (by rfl) (by rfl) (by rfl) (by rfl))
          | exact HCG.out _ (below_heap BRA.out (by rfl) (by rfl) (by rfl) (by rfl))
          | exact HCG.out _ (below_heap BR.out (by rfl) (by rfl) (by rfl) (by rfl))) (first
          | (have hX4 := H4; go_at_call 98; refine (CI.out g4 c4 _ (below_heap H4.out.2 (by rfl) (by rfl) (by rfl) (by rfl)) (own_heap (by rfl) H4.out.1)).mono ?_; rintro e w5 ⟨r5, rfl, hP5⟩; have H5 := Go.Lib.hid hP5; have HCG5 := Go.Lib.hid hP5.keep; clear hP5 hX4)
          | (refine step_append_guarded (by rfl) (.tmp 36) (.tmp 38) 24 rfl 3 i0 (.int .i64 0) 1 8 hu2 HI.out.1 HI.out.2.1 HI.out.2.2.1 HI.out.2.2.2 rfl (by decide) ⟨gs, 0, none⟩ m m (vals so) (by simp [Act.eval]) HLV.out (HBG.out _ (below_heap BRA.out (by rfl) (by rfl) (by rfl) (by rfl)) _ rfl) ⟨wo.heap.size, 0, none⟩ 1 1 [.int .i64 (x : Int)] (by simp [Act.eval]) rfl (fun jj u hu => cell_heap (by rfl) (cell_one_new wo (.int .i64 (x : Int)) 3 jj u hu)) (by omega) (by unfold maxLen; omega) (by omega) ?_; intro v4 w4 hown4 hgrow4; obtain ⟨g4, c4, rfl⟩ := ownsRow_succ hown4; have H4 := Go.Lib.hid (app_new hown4 HXX.out.2.2.2.2.2 hgrow4 BRA.out); clear hown4 hgrow4))
        all_goals
          clear hl0 hl1 hl2 hlook hcg hcg1 hbglt
          have hum : UseMap wo b1 (inUse (confs zs) so) := by
            obtain ⟨_, _, _, _, h⟩ := HX.out
            exact h
          cases r5 with
          | true =>
            have HN : Hid (∃ xs : List El, xs.map (·.1) = part zs k d so (x + 1) ∧ J (acc ++ xs) w5 ∧ KeepC B X w5 ∧ UseMap w5 b1 (inUse (confs zs) so)) := Go.Lib.hid (by
              have hkw : KeepC B wo w5 := (KeepC.of_below H4.out.2).trans HCG5.out
              rcases H5.out with ⟨_, ⟨ys, h1, h2⟩, _⟩ | ⟨h0, _⟩
              · refine ⟨xs ++ ys, by rw [List.map_append, HXX.out.1, h1, HXX.out.2.2.1], by rw [← List.append_assoc]; exact h2, HXX.out.2.1.trans hkw, hkw.use ?_ hum⟩
                have h3 := HB1.out.1
                have h4 := H0.out.2.1.high
                have h5 := H0.out.2.1.low.2.2.2.2.2
                omega
              · cases h0)
            clear hum
            go_wp2
            go_roundw
            case rel => exact ⟨x + 1, by omega, by go_num, HN⟩
            case measure => simp [intOf]; omega
          | false =>
            have HN : Hid (GoPost zs k B (d + 1) J Jx acc so X (.returned (.bool false)) w5) := Go.Lib.hid (by
              have hkw : KeepC B wo w5 := (KeepC.of_below H4.out.2).trans HCG5.out
              rcases H5.out with ⟨h0, _⟩ | ⟨_, ys, t, h1, h2, h3, _⟩
              · cases h0
              · have hpp := HXX.out.2.2.2.1
                rw [HXX.out.2.2.1, part_end] at hpp
                obtain ⟨h4, h5⟩ := take_pre hpp h1
                refine .inr ⟨rfl, xs ++ ys, (part zs k d so x).length + t, h4, ?_, by rw [← List.append_assoc]; exact h3, HXX.out.2.1.trans hkw⟩
                rw [List.map_append, HXX.out.1, h2, h5])
            clear hum
            go_wp2
            go_ret
            exact HN.out
    · have hxk2 : x = k := by omega
      have HN : Hid (GoPost zs k B (d + 1) J Jx acc so X (.returned (.bool true)) wo) := Go.Lib.hid (by
        obtain ⟨xs, h1, h2, h3, _⟩ := HX.out
        rw [hxk2] at h1
        exact .inl ⟨rfl, ⟨xs, h1, h2⟩, h3⟩)
      have hxi : ¬ (x : Int) < (k : Int) := by omega
      clear hxk2
      go_wp2_with fail
      go_ret
      exact HN.out

end Go.Proofs.Ytekihdnkkeggjaa.GoOnC

/-
  Contracts: the program's sharingsOf, and its iterator: it hands on each sharing that fits, in ascending order. Conditions: an order, at most 7 stacks.
-/
namespace Go.Proofs.Ytekihdnkkeggjaa.SIterC
open Go Go.Maps Go.RowKit Go.Shelf SeesC IntsC ExactC OrdMath BesM ListsC ConfIC UseC RangeC Range2C OrdersIterC GoOnC
set_option linter.unusedVariables false

attribute [local go_sem] Oper.semAt_some

theorem goOn_all (zs : List Int) (hord : Ord zs) (n k M s0 : Nat) (hl : zs.length = n) (hk7 : k ≤ 7) (p : Nat) (hp1 : 1 ≤ p) (l B bo yb bc bk bg : Nat) (ad : Option Addr) (cap g c N : Nat) (hN : (confs zs).length = N) (hNc : N ≤ c) (J Jx : List El → World → Prop) (HJ : AbidesFrom s0 J)
    (HY : ∀ so x X, J so X → GivenSh zs B n k x X → so.length < M → YieldAt Fence.wide (p - 1) Try.prog l #[x.2] X fun e Y => (e = .returned (.bool true) ∧ J (so ++ [x]) Y ∧ KeepC B X Y) ∨ (e = .returned (.bool false) ∧ Jx (so ++ [x]) Y ∧ KeepC B X Y)) :
    ∀ d, GoOnTo zs k n B M s0 l bo yb bc bk bg ad cap g c N J Jx d
  | 0 => by
    intro m hmd so gs cs acc X hso hF hr ho hE hJ hs0 hM
    obtain rfl : m = n := by omega
    exact goOn_base zs m k p M hp1 l B bo yb bc bk bg (confs zs) ad cap g c N J Jx HY so gs cs acc X hso hF hr ho hE hJ (by simp [ext] at hM; omega)
  | d + 1 => goOn_step zs hord n k M s0 hl hk7 l B bo yb bc bk bg ad cap g c N hN hNc J Jx HJ d (goOn_all zs hord n k M s0 hl hk7 p hp1 l B bo yb bc bk bg ad cap g c N hN hNc J Jx HJ HY d)

/-- What sharingsOf's iterator reads. -/
structure Src (B n k : Nat) (C : List (Nat × Nat)) (bo bc bk : Nat) (ad : Option Addr) (cap g c N : Nat) (X : World) : Prop where
  co : X.cell? ⟨bo, 0, none⟩ = some (.slice ad n cap)
  cc : X.cell? ⟨bc, 0, none⟩ = some (.slice (some ⟨g, 0, none⟩) N c)
  ck : X.cell? ⟨bk, 0, none⟩ = some (.int .i64 (k : Int))
  rows : ∀ i, i < N → X.cell? ⟨g, i * 2, none⟩ = some (.int .i64 ((C.getD i (0, 0)).1 : Int)) ∧ X.cell? ⟨g, i * 2 + 1, none⟩ = some (.int .i64 ((C.getD i (0, 0)).2 : Int))
  low : B ≤ bo ∧ B ≤ bc ∧ B ≤ bk ∧ B ≤ g
  high : g < X.heap.size
  len : C.length = N
  cap_le : N ≤ c

theorem Src.keep {B n k : Nat} {C : List (Nat × Nat)} {bo bc bk : Nat} {ad : Option Addr} {cap g c N : Nat} {X Y : World} (h : Src B n k C bo bc bk ad cap g c N X) (hk : KeepC B X Y) : Src B n k C bo bc bk ad cap g c N Y :=
  ⟨hk.cell h.low.1 h.co, hk.cell h.low.2.1 h.cc, hk.cell h.low.2.2.1 h.ck, fun i hi => ⟨hk.cell h.low.2.2.2 (h.rows i hi).1, hk.cell h.low.2.2.2 (h.rows i hi).2⟩, h.low, Nat.lt_of_lt_of_le h.high hk.1, h.len, h.cap_le⟩

theorem new_cell (w : World) (v : Value) (t : TypeId) : (w.alloc (.cells #[v] t)).cell? ⟨w.heap.size, 0, none⟩ = some v := by
  have hn := World.alloc_heap_new w (.cells #[v] t)
  unfold World.cell?; simp only [hn]; rfl

theorem kept_call2 {w w' : World} {B : Nat} {ty : TypeId} {s : Nat} {v : Value} {n : Nat} {xs : List Value} (h : w.ownsRow B ty s v n xs) (hb : Below w.heap.size w w') : w'.ownsRow B ty s v n xs :=
  h.kept (grown_of_below hb none) (by cases hv : v.ownBlock <;> simp)

theorem prv_get : ∀ (C : List (Nat × Nat)) (i : Nat), i < C.length → (prv C)[i * 2]? = some (.int .i64 ((C.getD i (0, 0)).1 : Int)) ∧ (prv C)[i * 2 + 1]? = some (.int .i64 ((C.getD i (0, 0)).2 : Int))
  | [], i, h => by simp at h
  | p :: C, i, h => by
    have e : prv (p :: C) = .int .i64 (p.1 : Int) :: .int .i64 (p.2 : Int) :: prv C := rfl
    rw [e]
    cases i with
    | zero => exact ⟨rfl, rfl⟩
    | succ i =>
      have h2 := prv_get C i (by simpa using h)
      have e2 : (i + 1) * 2 = i * 2 + 1 + 1 := by omega
      rw [e2]
      simpa using h2

theorem prv_cells {w : World} {B g c N : Nat} {C : List (Nat × Nat)} (h : w.ownsRow B 41 2 (.slice (some ⟨g, 0, none⟩) N c) N (prv C)) (hN : C.length = N) {i : Nat} (hi : i < N) : w.cell? ⟨g, i * 2, none⟩ = some (.int .i64 ((C.getD i (0, 0)).1 : Int)) ∧ w.cell? ⟨g, i * 2 + 1, none⟩ = some (.int .i64 ((C.getD i (0, 0)).2 : Int)) := by
  have h1 := prv_get C i (by omega)
  have h2 := h.cells (g := g) rfl (i * 2) _ h1.1
  have h3 := h.cells (g := g) rfl (i * 2 + 1) _ h1.2
  have ea : ∀ j, ((⟨g, 0, none⟩ : Addr).add j) = ⟨g, j, none⟩ := by intro j; cases j <;> simp [Addr.add]
  rw [ea] at h2 h3
  exact ⟨h2, h3⟩

set_option maxRecDepth 100000 in
set_option maxHeartbeats 4000000 in
theorem sharings_hands (zs : List Int) (hord : Ord zs) (n k : Nat) (hl : zs.length = n) (hk7 : k ≤ 7) (q : Nat) (hq : 1 ≤ q) (B bo bc bk : Nat) (ad : Option Addr) (cap g c N : Nat) (w : World) (hB : B ≤ w.heap.size) (hS : Src B n k (confs zs) bo bc bk ad cap g c N w) :
    Hands2 (α := El) Fence.wide q Try.prog 97 #[.pointer (some ⟨bo, 0, none⟩), .pointer (some ⟨bc, 0, none⟩), .pointer (some ⟨bk, 0, none⟩)] (fun x => #[x.2]) (GivenSh zs B n k) (KeepC B) (fun xs => xs.map (·.1) = ext zs k n []) (fun so => ∃ t, t < (ext zs k n []).length ∧ so.map (·.1) = (ext zs k n []).take (t + 1)) (ext zs k n []).length w := by
  intro l J Jx W hW hJ hY h0
  have hSW := hS.keep (KeepC.of_below hW)
  have hBW : B ≤ W.heap.size := Nat.le_trans hB hW.size
  have hb3 : Below W.heap.size W (((W.alloc (.cells #[.func (.yield l) #[] #[]] 58)).alloc (.cells #[(.func (.func 98) #[] #[.pointer (some ⟨bo, 0, none⟩), .pointer (some ⟨W.heap.size, 0, none⟩), .pointer (some ⟨bc, 0, none⟩), .pointer (some ⟨bk, 0, none⟩), .pointer (some ⟨W.heap.size + 1, 0, none⟩)])] 58)).alloc (.cells #[] 3)) := (((Below.refl _ W).alloc (Nat.le_refl _) _).alloc (by simp) _).alloc (by simp; omega) _
  have hB1 := Boxed.new W 58 (.func (.yield l) #[] #[])
  have hB2 := Boxed.new (W.alloc (.cells #[.func (.yield l) #[] #[]] 58)) 58 (.func (.func 98) #[] #[.pointer (some ⟨bo, 0, none⟩), .pointer (some ⟨W.heap.size, 0, none⟩), .pointer (some ⟨bc, 0, none⟩), .pointer (some ⟨bk, 0, none⟩), .pointer (some ⟨W.heap.size + 1, 0, none⟩)])
  have hB0 := Boxed.new (W.alloc (.cells #[.func (.yield l) #[] #[]] 58)) 58 .nilFunc
  rw [World.size_alloc] at hB2 hB0
  have hcy := (((hB1.alloc (.cells #[(.func (.func 98) #[] #[.pointer (some ⟨bo, 0, none⟩), .pointer (some ⟨W.heap.size, 0, none⟩), .pointer (some ⟨bc, 0, none⟩), .pointer (some ⟨bk, 0, none⟩), .pointer (some ⟨W.heap.size + 1, 0, none⟩)])] 58)).alloc (.cells #[] 3))).cell
  have hcg := (hB2.alloc (.cells #[] 3)).cell
  have ho3 : ((((W.alloc (.cells #[.func (.yield l) #[] #[]] 58)).alloc (.cells #[(.func (.func 98) #[] #[.pointer (some ⟨bo, 0, none⟩), .pointer (some ⟨W.heap.size, 0, none⟩), .pointer (some ⟨bc, 0, none⟩), .pointer (some ⟨bk, 0, none⟩), .pointer (some ⟨W.heap.size + 1, 0, none⟩)])] 58)).alloc (.cells #[] 3))).ownsRow B 3 1 (.slice (some ⟨W.heap.size + 1 + 1, 0, none⟩) 0 0) 0 (vals []) := by
    have h1 := World.ownsRow_made (base := B) (e := 3) (size := 1) ((W.alloc (.cells #[.func (.yield l) #[] #[]] 58)).alloc (.cells #[(.func (.func 98) #[] #[.pointer (some ⟨bo, 0, none⟩), .pointer (some ⟨W.heap.size, 0, none⟩), .pointer (some ⟨bc, 0, none⟩), .pointer (some ⟨bk, 0, none⟩), .pointer (some ⟨W.heap.size + 1, 0, none⟩)])] 58)) #[] 0 (by simp; omega) (by unfold maxLen; omega) rfl
    simp only [World.size_alloc] at h1
    exact h1
  have CG : Hid (∀ W3 : World, W3 = (((W.alloc (.cells #[.func (.yield l) #[] #[]] 58)).alloc (.cells #[(.func (.func 98) #[] #[.pointer (some ⟨bo, 0, none⟩), .pointer (some ⟨W.heap.size, 0, none⟩), .pointer (some ⟨bc, 0, none⟩), .pointer (some ⟨bk, 0, none⟩), .pointer (some ⟨W.heap.size + 1, 0, none⟩)])] 58)).alloc (.cells #[] 3)) → Calls Try.prog 98 #[.slice (some ⟨W.heap.size + 1 + 1, 0, none⟩) 0 0, .pointer (some ⟨bo, 0, none⟩), .pointer (some ⟨W.heap.size, 0, none⟩), .pointer (some ⟨bc, 0, none⟩), .pointer (some ⟨bk, 0, none⟩), .pointer (some ⟨W.heap.size + 1, 0, none⟩)] W3 (GoPost zs k B n J Jx [] [] W3)) := Go.Lib.hid (by
    rintro W3 rfl
    have hS3 := hSW.keep (KeepC.of_below hb3)
    refine goOn_all zs hord n k (ext zs k n []).length W.heap.size hl hk7 q hq l B bo W.heap.size bc bk (W.heap.size + 1) ad cap g c N hS.len hS.cap_le J Jx hJ hY n 0 (by omega) [] (W.heap.size + 1 + 1) 0 [] _ rfl (fits_nil zs) (by simp) ho3 ?_ (hJ _ _ _ none h0 (grown_of_below hb3 none) (fun _ e => by cases e)) hb3.size (by simp)
    exact ⟨hS3.co, hcy, hS3.cc, hS3.ck, hcg, hS3.rows, ⟨hS.low.1, hBW, hS.low.2.1, hS.low.2.2.1, by omega, hS.low.2.2.2⟩, hS3.high⟩)
  have hc2 := hB0.cell
  have hf2 := hB0.frozen
  have hc3 := hB2.cell
  clear hb3 hB0 hB1 hB2 hcy hcg ho3 hY hJ h0 hW hS hB hSW
  refine callsIn_of_wp Try.func97 rfl trivial ?_ rfl
  simp only [Try.ntmps97, List.size_toArray, List.length_cons, List.length_nil, Nat.reduceAdd, Nat.reduceSub, Array.replicate_succ, Array.replicate_zero, List.push_toArray, List.append_toArray, List.nil_append, List.cons_append]
  gi_wp2_with fail
  refine ⟨trivial, ?_⟩
  gi_at_call 98
  refine (callsIn_wide.2 (CG.out _ rfl)).mono ?_
  rintro e Y (⟨rfl, ⟨xs, h1, h2⟩, _⟩ | ⟨rfl, xs, t, h1, h2, h3, _⟩)
  · have HN : Hid ((∃ xs : List El, xs.map (·.1) = ext zs k n [] ∧ J xs Y) ∨ ∃ so : List El, (∃ t, t < (ext zs k n []).length ∧ so.map (·.1) = (ext zs k n []).take (t + 1)) ∧ Jx so Y) := Go.Lib.hid (.inl ⟨xs, h1, by simpa using h2⟩)
    clear h1 h2 CG
    gi_wp2_with fail
    go_end0
    exact ⟨⟨_, rfl⟩, HN.out⟩
  · have HN : Hid ((∃ xs : List El, xs.map (·.1) = ext zs k n [] ∧ J xs Y) ∨ ∃ so : List El, (∃ t, t < (ext zs k n []).length ∧ so.map (·.1) = (ext zs k n []).take (t + 1)) ∧ Jx so Y) := Go.Lib.hid (.inr ⟨xs, ⟨t, h1, h2⟩, by simpa using h3⟩)
    clear h1 h2 h3 CG
    gi_wp2_with fail
    go_end0
    exact ⟨⟨_, rfl⟩, HN.out⟩

/-- What sharingsOf hands back. -/
def SrcTo (zs : List Int) (n k : Nat) (W : World) (e : Ending) (w' : World) : Prop :=
  ∃ bo bc bk ad cap g c N, e = .returned (.func (.func 97) #[] #[.pointer (some ⟨bo, 0, none⟩), .pointer (some ⟨bc, 0, none⟩), .pointer (some ⟨bk, 0, none⟩)]) ∧ Src W.heap.size n k (confs zs) bo bc bk ad cap g c N w' ∧ Below W.heap.size W w'

set_option maxRecDepth 100000 in
set_option maxHeartbeats 2000000 in
theorem sharingsOf_any (zs : List Int) (hord : Ord zs) (n k : Nat) (W : World) (v : Value) (hv : Sees W v n (vals zs)) :
    Calls Try.prog 78 #[v, .int .i64 (k : Int)] W (SrcTo zs n k W) := by
  have hl : zs.length = n := by simpa using hv.1
  have HV := Go.Lib.hid hv
  have hOR := Go.Lib.hid hord
  obtain ⟨_, ad, cap, rfl, _, _⟩ := hv
  have hB1 := Boxed.new W 24 (.slice ad n cap)
  have hB2 := Boxed.new (W.alloc (.cells #[.slice ad n cap] 24)) 3 (.int .i64 (k : Int))
  rw [World.size_alloc] at hB2
  have hb2 : Below W.heap.size W ((W.alloc (.cells #[.slice ad n cap] 24)).alloc (.cells #[.int .i64 (k : Int)] 3)) := ((Below.refl _ W).alloc (Nat.le_refl _) _).alloc (by simp) _
  have hco := (hB1.alloc (.cells #[.int .i64 (k : Int)] 3)).cell
  have hck := hB2.cell
  have CC := Go.Lib.hid (conflicts_any zs hord _ (.slice ad n cap) n (HV.out.grow hb2))
  have H2 := Go.Lib.hid (And.intro hb2 (And.intro hco hck))
  clear hB1 hB2 hb2 hck hord hl
  go_enter Try.func78, Try.ntmps78
  go_wp2_with fail
  refine (CC.out).mono ?_
  rintro e w1 ⟨g, c, N, rfl, hW1⟩
  obtain ⟨hlN, ho, hb⟩ := hW1
  have hb1 : Below W.heap.size W w1 := H2.out.1.trans (hb.mono H2.out.1.size)
  have hB3 := Boxed.new w1 36 (.slice none 0 0)
  have hc3 := hB3.cell
  have hf3 := hB3.frozen
  have hco1 := (hb.cell (p := ⟨W.heap.size, 0, none⟩) (by simp; omega)).trans H2.out.2.1
  have hck1 := (hb.cell (p := ⟨W.heap.size + 1, 0, none⟩) (by simp)).trans H2.out.2.2
  have H3 := Go.Lib.hid (And.intro hlN (And.intro ho (And.intro hb1 (And.intro hB3 (And.intro hco1 hck1)))))
  clear hlN ho hb hb1 hB3 hco1 hck1 CC hco
  go_wp2_with fail
  have hbA : Below W.heap.size W (w1.alloc (.cells #[.slice (some ⟨g, 0, none⟩) N c] 36)) := H3.out.2.2.1.alloc H3.out.2.2.1.size _
  have hbN : Below w1.heap.size w1 (w1.alloc (.cells #[.slice (some ⟨g, 0, none⟩) N c] 36)) := (Below.refl _ w1).alloc (Nat.le_refl _) _
  have hB4 := Boxed.new w1 36 (.slice (some ⟨g, 0, none⟩) N c)
  have hs1 := H3.out.2.2.1.size
  have hco2 := H3.out.2.2.2.2.1
  have hck2 := H3.out.2.2.2.2.2
  have hgl := H3.out.2.1.lt g rfl
  have hsz1 := World.block_lt_of_cell? w1 ⟨W.heap.size + 1, 0, none⟩ hck2
  go_ret
  refine ⟨W.heap.size, w1.heap.size, W.heap.size + 1, ad, cap, g, c, N, rfl, ?_, hbA⟩
  refine ⟨(hbN.cell (p := ⟨W.heap.size, 0, none⟩) (by show W.heap.size < _; simp at hsz1; omega)).trans hco2, hB4.cell, (hbN.cell (p := ⟨W.heap.size + 1, 0, none⟩) hsz1).trans hck2, fun i hi => ?_, ⟨Nat.le_refl _, hs1, Nat.le_succ _, by have := hgl.1; simp at this; omega⟩, by have := hgl.2; simp; omega, H3.out.1, ?_⟩
  · have h1 := kept_call2 H3.out.2.1 hbN
    exact prv_cells h1 H3.out.1 hi
  · obtain ⟨_, h2⟩ := H3.out.2.1
    rcases h2 with ⟨h3, h4⟩ | ⟨_, _, _, e, _, _, h5, _⟩
    · cases h3
    · cases e; exact h5

end Go.Proofs.Ytekihdnkkeggjaa.SIterC

/-
  Contracts: GreedySharing of the model and of the program. Conditions: lists of at most 2^20 numbers.
-/
namespace Go.Proofs.Ytekihdnkkeggjaa.GreedyC
open Go.RowKit SeesC IntsC ExactC OrdMath InC OrderC BesM ListsC FitsC Own1C SameC AppendTwoC GoSC ConfIC UseC
set_option linter.unusedVariables false

theorem firstOk_some {zs so : List Int} {x : Nat} (hx : x < 4) (h : okN zs so (x : Int) = true) (hl : ∀ y : Nat, y < x → okN zs so (y : Int) = false) : firstOk zs so = some (x : Int) := by
  unfold firstOk
  have h4 : x = 0 ∨ x = 1 ∨ x = 2 ∨ x = 3 := by omega
  rcases h4 with rfl | rfl | rfl | rfl
  · simp only [List.find?_cons]
    have h' : okN zs so 0 = true := h
    rw [h']; rfl
  · have h0 : okN zs so 0 = false := hl 0 (by omega)
    have h' : okN zs so 1 = true := h
    simp only [List.find?_cons, h0, h']; rfl
  · have h0 : okN zs so 0 = false := hl 0 (by omega)
    have h1 : okN zs so 1 = false := hl 1 (by omega)
    have h' : okN zs so 2 = true := h
    simp only [List.find?_cons, h0, h1, h']; rfl
  · have h0 : okN zs so 0 = false := hl 0 (by omega)
    have h1 : okN zs so 1 = false := hl 1 (by omega)
    have h2 : okN zs so 2 = false := hl 2 (by omega)
    have h' : okN zs so 3 = true := h
    simp only [List.find?_cons, h0, h1, h2, h']; rfl

theorem firstOk_none {zs so : List Int} (hl : ∀ y : Nat, y < 4 → okN zs so (y : Int) = false) : firstOk zs so = none := by
  unfold firstOk
  have h0 : okN zs so 0 = false := hl 0 (by omega)
  have h1 : okN zs so 1 = false := hl 1 (by omega)
  have h2 : okN zs so 2 = false := hl 2 (by omega)
  have h3 : okN zs so 3 = false := hl 3 (by omega)
  simp only [List.find?_cons, List.find?_nil, h0, h1, h2, h3]

section
variable {P : Program} {w : World}
theorem wpList_append_guarded (w : World) {ops : Array Oper} {rest : List Oper} {o : Oper} {a : Act} {Q : Exit → Act → World → Prop}
    (hw : Region.wanted o (yielded ops a.tmps) = true) (s x : Operand) (t : TypeId) (hop : o.op = Op.call { callee := Callee.builtin Builtin.append, args := #[s, x], argTypes := #[t, t] })
    (base : Nat) (e : TypeId) (i : TypeInfo) (z : Value) (size bytes : Nat) (h1 : P.underlying t = some (.slice e)) (h2 : P.info? e = some i) (h3 : i.zero = some z) (h4 : i.size = size) (h5 : i.bytes = bytes) (h6 : z.cells.size = size) (h7 : 0 < size)
    (v : Value) (k : Nat) (xs : List Value) (hs : a.eval s = v) (hown : w.ownsRow base e size v k xs) (ad : Addr) (m c : Nat) (news : List Value) (hx : a.eval x = .slice (some ad) m c) (hn : news.length = m * size)
    (hc : ∀ j u, news[j]? = some u → w.cell? (ad.add j) = some u) (h1c : ∀ u ∈ news, u.oneCell' = true) (b1 : k + m ≤ maxLen) (b2 : (k + m) * bytes ≤ 140737488355328) (b3 : base ≤ w.heap.size)
    (hK : ∀ v' w', w'.ownsRow base e size v' (k + m) (xs ++ news) → w.grownBy w' v.ownBlock → NewRow w v v' → wpList P ops Q rest (a.put o.dst v') w') :
    wpList P ops Q (o :: rest) a w := by
  refine wpList_step fun K hK' => ?_
  rw [if_pos hw]
  obtain ⟨v', w', hrun, r1, r2, r3⟩ := run_append_two (P := P) w base t o.type e i z size bytes h1 h2 h3 h4 h5 h6 h7 v k xs hown ad m c news hn hc h1c b1 b2 b3
  unfold Oper.wp
  simp [execOp, hop, resolve, invoke, builtin, hs, hx, hrun, Result.andThen]
  exact hK' _ _ (hK v' w' r1 r2 r3)
end

/-- The length that a slice's value tells. -/
def lenOf : Value → Nat
  | .slice _ n _ => n
  | _ => 0

/-- What is there behind some places. -/
def GrW (zs : List Int) (n : Nat) (W : World) (R : Option (List Int)) (so : List Int) (m g c : Nat) (wr : World) : Prop :=
  so.length = m ∧ greedy zs (n - m) so = R ∧ Fits zs so ∧ wr.ownsRow W.heap.size 3 1 (.slice (some ⟨g, 0, none⟩) m c) m (vals so) ∧ Below W.heap.size W wr ∧ ∀ x ∈ so, 0 ≤ x ∧ x < 4

theorem own_apart {w : World} {B B' s s' n n' : Nat} {ty ty' : TypeId} {v v' : Value} {xs xs' : List Value} (h : w.ownsRow B ty s v n xs) (h' : w.ownsRow B' ty' s' v' n' xs') (hne : ty ≠ ty') {q : Nat} (e : v.ownBlock = some q) (e' : v'.ownBlock = some q) : False := by
  rcases h.2 with ⟨rfl, _⟩ | ⟨g, cap, cur, rfl, _, hg, _⟩
  · simp [Value.ownBlock] at e
  · rcases h'.2 with ⟨rfl, _⟩ | ⟨g', cap', cur', rfl, _, hg', _⟩
    · simp [Value.ownBlock] at e'
    · simp [Value.ownBlock] at e e'
      subst e
      subst e'
      rw [hg] at hg'
      cases hg'
      exact hne rfl

theorem own_lower2 {w : World} {base base' s : Nat} {ty : TypeId} {v : Value} {n : Nat} {xs : List Value} (h : w.ownsRow base ty s v n xs) (hle : base' ≤ base) : w.ownsRow base' ty s v n xs := own_lower h hle

set_option maxRecDepth 100000 in
set_option maxHeartbeats 8000000 in
theorem specGreedy (zs : List Int)  (xs : List Int) (b : Bool) (h : greedyAns zs = (xs, b)) (hz : zs.length ≤ 1048576)  (W : World) (v : Value) (n : Nat) (hv : Sees W v n (vals zs)) :
    Calls Try.prog 40 #[v] W fun e w' => ListTo W e w' xs b := by
  have hl : zs.length = n := by simpa using hv.1
  have hn : n ≤ 1048576 := by omega
  obtain ⟨r, hr⟩ : ∃ r, isOrd zs = r := ⟨_, rfl⟩
  have CO := Go.Lib.hid (fun W' (hs' : Sees W' v n (vals zs)) => l2Order_any W' v n zs r hs' hn hr)
  have HV := Go.Lib.hid hv
  unfold greedyAns at h
  obtain ⟨_, ad, cap, rfl, _, _⟩ := hv
  cases r with
  | false =>
    rw [if_neg (by intro h1; unfold isOrd at hr; exact of_decide_eq_false hr h1)] at h
    cases h
    clear hr
    go_enter Try.func40, Try.ntmps40
    go_wp2_with fail
    refine (CO.out _ HV.out).mono ?_
    rintro e w1 ⟨rfl, hd⟩
    have HB1 : Hid (Below W.heap.size W w1) := Go.Lib.hid (hd.below _)
    clear hd
    go_wp2_with fail
    go_ret2
    exact listTo_below HB1.out (listTo_none _ _)
  | true =>
    have hord : Ord zs := by unfold isOrd at hr; exact of_decide_eq_true hr
    clear hr
    obtain ⟨i0, hi, hz0, hz1, hz2⟩ := info_parts infoI
    have hn7 : n ≤ 7 := by have := hord.2.1; omega
    rw [if_pos hord, hl] at h
    obtain ⟨R, hR⟩ : ∃ R, greedy zs n [] = R := ⟨_, rfl⟩
    rw [hR] at h
    have HH := Go.Lib.hid (And.intro h (And.intro hl hR))
    clear h hord hl hR hz
    go_enter Try.func40, Try.ntmps40
    go_wp2_with fail
    refine (CO.out _ HV.out).mono ?_
    rintro e w1 ⟨rfl, hd⟩
    have HB1 : Hid (Below W.heap.size W w1) := Go.Lib.hid (hd.below _)
    clear hd
    go_wp2_with fail
    have H0 : Hid (GrW zs n W R [] 0 w1.heap.size 0 (w1.alloc (.cells #[] 3))) := Go.Lib.hid ⟨rfl, by rw [Nat.sub_zero]; exact HH.out.2.2, fits_nil zs, World.ownsRow_made _ _ _ HB1.out.size (by unfold maxLen; omega) rfl, HB1.out.alloc HB1.out.size _, by simp⟩
    go_loopw [4] (fun ov wr => ∃ (m g c : Nat) (so : List Int), m ≤ n ∧ ov = .slice (some ⟨g, 0, none⟩) m c ∧ Hid (GrW zs n W R so m g c wr)) (fun ov _ => n - (lenOf ov))
    case atStart => exact ⟨0, w1.heap.size, 0, [], Nat.zero_le _, rfl, H0⟩
    case round =>
      obtain ⟨m, g, cp, so, hmn, rfl, HX⟩ := hrel
      clear H0
      obtain ⟨wx, rfl⟩ : ∃ wx, wx = wr := ⟨_, rfl⟩
      by_cases hlt : m < n
      · have hmi : (m : Int) < (n : Int) := by omega
        have hfB : fitsB zs so = true := fitsB_iff.2 HX.out.2.2.1
        have HFB := Go.Lib.hid hfB
        clear hfB
        go_wp2_with fail
        go_loopw [5] (fun xv wr => ∃ (x : Nat), x ≤ 4 ∧ xv = .int .i64 (x : Int) ∧ Hid ((∀ y : Nat, y < x → okN zs so (y : Int) = false) ∧ Below wx.heap.size wx wr)) (fun xv _ => 4 - (intOf xv).toNat)
        case atStart => exact ⟨0, by omega, rfl, Go.Lib.hid ⟨fun y hy => by omega, Below.refl _ _⟩⟩
        case round =>
          obtain ⟨x, hx4, rfl, HY⟩ := hrel
          obtain ⟨wo, rfl⟩ : ∃ wo, wo = wr := ⟨_, rfl⟩
          have hWw : W.heap.size ≤ wx.heap.size := HX.out.2.2.2.2.1.size
          have hxs := HY.out.2.size
          by_cases hxl : x < 4
          · have hson := kept_call HX.out.2.2.2.1 HY.out.2
            have HRB : Hid (wo.heap.size ≤ wo.heap.size) := Go.Lib.hid (Nat.le_refl _)
            have CO' := Go.Lib.hid (fun (X : World) (hX : Below wo.heap.size wo X) => l1Own_any so g 0 m cp X HX.out.1 (by omega) (own_zero (Sees.owns (kept_call hson hX))))
            obtain ⟨q, hq⟩ : ∃ q, okN zs so (x : Int) = q := ⟨_, rfl⟩
            have hq2 := (fitsB_snoc (x := (x : Int)) (by have h1 := HX.out.1; have h2 := HH.out.2.1; omega) HFB.out).trans hq
            have HQ := Go.Lib.hid (And.intro hq hq2)
            have hxi : (x : Int) < 4 := by omega
            clear hson hq hq2
            go_wp2_with fail
            refine (CO'.out _ (Below.refl _ _)).mono ?_
            rintro e wA ⟨gA, cA, rfl, hoA, hbA⟩
            have HA := Go.Lib.hid (And.intro hoA hbA)
            have hszA := hbA.size
            clear hoA hbA
            go_wp2_with (at_builtin; refine wpList_append_guarded _ (by rfl) _ _ 24 rfl wo.heap.size 3 i0 (.int .i64 0) 1 8 Try.underlying24 hi hz0 hz1 hz2 rfl (by decide) (.slice (some ⟨gA, 0, none⟩) m cA) m (vals so) rfl (World.ownsRow.alloc (own_lower HA.out.1 HRB.out) _) ⟨wA.heap.size, 0, none⟩ 1 1 [.int .i64 (x : Int)] rfl rfl (cell_one_new _ _ _) (fun u hu => by simp at hu; subst hu; rfl) (by unfold maxLen; omega) (by omega) (by have := HRB.out; simp; omega) ?_; intro v4 w4 hown4 hgrow4 _; obtain ⟨g4, c4, rfl⟩ := ownsRow_succ hown4; have H4 := Go.Lib.hid (app_one hown4 HA.out.1 HA.out.2 hgrow4); clear hown4 hgrow4; have CR := Go.Lib.hid (l7Fits_any zs (so ++ [(x : Int)]) q HQ.out.2 w4 (.slice ad n cap) n (HV.out.grow (HX.out.2.2.2.2.1.trans ((HY.out.2.trans (H4.out.2.mono hxs)).mono HX.out.2.2.2.2.1.size))) (.slice (some ⟨g4, 0, none⟩) (m + 1) c4) (m + 1) (Sees.owns H4.out.1) (by omega) (by omega)))
            refine (CR.out).mono ?_
            rintro e w5 ⟨rfl, hd5⟩
            have H5 : Hid (Below wx.heap.size wx w5) := Go.Lib.hid (HY.out.2.trans ((H4.out.2.trans ((hd5.below _).mono H4.out.2.size)).mono hxs))
            clear hd5 CR CO'
            cases q with
            | false =>
              have HN : Hid ((∀ y : Nat, y < x + 1 → okN zs so (y : Int) = false) ∧ Below wx.heap.size wx w5) := Go.Lib.hid ⟨fun y hy => by
                by_cases h1 : y = x
                · subst h1; exact HQ.out.1
                · exact HY.out.1 y (by omega), H5.out⟩
              go_wp2_with fail
              go_roundw
              case rel => exact ⟨x + 1, by omega, by go_num, HN⟩
              case measure => simp [intOf]; omega
            | true =>
              have hne : ((x : Int) == 4) = false := by rw [beq_eq_false_iff_ne]; omega
              have hfo := firstOk_some hxl HQ.out.1 HY.out.1
              have h5s := H5.out.size
              have HR := Go.Lib.hid (And.intro hfo (World.ownsRow.alloc (kept_call HX.out.2.2.2.1 H5.out) (.cells #[.int .i64 (x : Int)] 3)))
              clear hfo
              go_wp2_with (at_builtin; refine wpList_append_two _ rfl _ _ 24 rfl W.heap.size 3 i0 (.int .i64 0) 1 8 Try.underlying24 hi hz0 hz1 hz2 rfl (by decide) (.slice (some ⟨g, 0, none⟩) m cp) m (vals so) rfl HR.out.2 ⟨w5.heap.size, 0, none⟩ 1 1 [.int .i64 (x : Int)] rfl rfl (cell_one_new _ _ _) (fun u hu => by simp at hu; subst hu; rfl) (by unfold maxLen; omega) (by omega) (by simp; omega) ?_; intro v6 w6 hown6 hgrow6 _; obtain ⟨g6, c6, rfl⟩ := ownsRow_succ hown6; have H6 := Go.Lib.hid (And.intro hown6 hgrow6); clear hown6 hgrow6)
              have HN : Hid (GrW zs n W R (so ++ [(x : Int)]) (m + 1) g6 c6 w6) := Go.Lib.hid (by
                refine ⟨by rw [List.length_append, HX.out.1]; rfl, ?_, (fits_snoc (by have h1 := HX.out.1; have h2 := HH.out.2.1; omega)).2 ⟨HX.out.2.2.1, HQ.out.1⟩, ?_, ?_⟩
                · have h1 := HX.out.2.1
                  rw [show n - m = (n - (m + 1)) + 1 from by omega, greedy, HR.out.1] at h1
                  exact h1
                · have e1 : vals (so ++ [(x : Int)]) = vals so ++ [.int .i64 (x : Int)] := List.map_append
                  rw [e1]; exact H6.out.1
                · have h1 : Below W.heap.size W (w5.alloc (.cells #[.int .i64 (x : Int)] 3)) := (HX.out.2.2.2.2.1.trans (H5.out.mono HX.out.2.2.2.2.1.size)).alloc (by omega) _
                  exact ⟨h1.grown H6.out.2 h1.size (fun q hq => (HX.out.2.2.2.1.lt q hq).1), fun z hz => by
                    rw [List.mem_append, List.mem_singleton] at hz
                    rcases hz with hz | rfl
                    · exact HX.out.2.2.2.2.2 z hz
                    · omega⟩)
              go_roundw
              case rel => exact ⟨m + 1, g6, c6, so ++ [(x : Int)], by omega, rfl, HN⟩
              case measure => simp [lenOf]; omega
          · have hx4' : x = 4 := by omega
            subst hx4'
            have HF : Hid (xs = [] ∧ b = false) := Go.Lib.hid (by
              have h1 := HX.out.2.1
              rw [show n - m = (n - (m + 1)) + 1 from by omega, greedy, firstOk_none HY.out.1] at h1
              have h2 := HH.out.1
              rw [← h1] at h2
              cases h2
              exact ⟨rfl, rfl⟩)
            have HBW : Hid (Below W.heap.size W wo) := Go.Lib.hid (HX.out.2.2.2.2.1.trans (HY.out.2.mono HX.out.2.2.2.2.1.size))
            go_wp2_with fail
            go_ret2
            rw [HF.out.1, HF.out.2]
            exact listTo_below HBW.out (listTo_none _ _)
      · have hmn2 : m = n := by omega
        have HF : Hid (xs = so ∧ b = true) := Go.Lib.hid (by
          have h1 := HX.out.2.1
          rw [show n - m = 0 from by omega, greedy] at h1
          have h2 := HH.out.1
          rw [← h1] at h2
          cases h2
          exact ⟨rfl, rfl⟩)
        have hmi : ¬ (m : Int) < (n : Int) := by omega
        clear hmn2
        go_wp2_with fail
        go_ret2
        rw [HF.out.1, HF.out.2]
        exact ⟨_, rfl, by rw [HX.out.1]; exact HX.out.2.2.2.1, HX.out.2.2.2.2.1⟩

set_option maxRecDepth 100000 in
set_option maxHeartbeats 8000000 in
theorem implGreedy (zs : List Int)  (xs : List Int) (b : Bool) (h : greedyAns zs = (xs, b)) (hz : zs.length ≤ 1048576)  (W : World) (v : Value) (n : Nat) (hv : Sees W v n (vals zs)) :
    Calls Try.prog 39 #[v] W fun e w' => ListTo W e w' xs b := by
  have hl : zs.length = n := by simpa using hv.1
  have hn : n ≤ 1048576 := by omega
  obtain ⟨r, hr⟩ : ∃ r, isOrd zs = r := ⟨_, rfl⟩
  have CO := Go.Lib.hid (fun W' (hs' : Sees W' v n (vals zs)) => implOrder_any W' v n zs r hs' hn hr)
  have HV := Go.Lib.hid hv
  unfold greedyAns at h
  obtain ⟨_, ad, cap, rfl, _, _⟩ := hv
  cases r with
  | false =>
    rw [if_neg (by intro h1; unfold isOrd at hr; exact of_decide_eq_false hr h1)] at h
    cases h
    clear hr
    go_enter Try.func39, Try.ntmps39
    go_wp2_with fail
    go_step3
    go_wp2_with fail
    refine (CO.out _ HV.out).mono ?_
    rintro e w1 ⟨rfl, hd⟩
    have HB1 : Hid (Below W.heap.size W w1) := Go.Lib.hid hd
    clear hd
    go_wp2_with fail
    rw [Exit.noGoto_ret]
    go_ret2
    exact listTo_below HB1.out (listTo_none _ _)
  | true =>
    have hord : Ord zs := by unfold isOrd at hr; exact of_decide_eq_true hr
    clear hr
    obtain ⟨i0, hi, hz0, hz1, hz2⟩ := info_parts infoI
    have hn7 : n ≤ 7 := by have := hord.2.1; omega
    have CC := Go.Lib.hid (fun W' (hs' : Sees W' (.slice ad n cap) n (vals zs)) => conflicts_any zs hord W' (.slice ad n cap) n hs')
    rw [if_pos hord, hl] at h
    obtain ⟨R, hR⟩ : ∃ R, greedy zs n [] = R := ⟨_, rfl⟩
    rw [hR] at h
    have hN98 := confs_len (zs := zs) (by omega)
    have HH := Go.Lib.hid (And.intro h (And.intro hl hR))
    clear h hord hl hR hz
    go_enter Try.func39, Try.ntmps39
    go_wp2_with fail
    go_step3
    go_wp2_with fail
    refine (CO.out _ HV.out).mono ?_
    rintro e w1 ⟨rfl, hd⟩
    have HB1 : Hid (Below W.heap.size W w1) := Go.Lib.hid hd
    clear hd
    go_wp2_with fail
    refine (CC.out _ (HV.out.grow HB1.out)).mono ?_
    rintro e w2 ⟨gc, cc, NC, rfl, hNC, hoC, hbC⟩
    have hNC98 : NC ≤ 98 := by omega
    have H2 := Go.Lib.hid (And.intro hNC (And.intro (own_lower2 hoC HB1.out.size) (HB1.out.trans (hbC.mono HB1.out.size))))
    have h2s := H2.out.2.2.size
    clear hNC hoC hbC CC
    go_wp2_with (at_make; refine wpList_make_own _ rfl _ _ 24 rfl W.heap.size 3 i0 (.int .i64 0) 1 Try.underlying24 hi hz0 hz1 .i64 .i64 _ n rfl rfl (by omega) (by rw [hz2]; omega) (by unfold maxLen; omega) h2s ?_; intro w3 hown3 hgrow3; have hb3 : Below W.heap.size W w3 := H2.out.2.2.grown hgrow3 h2s (fun k hk => by cases hk); have H3 : Hid (GrW zs n W R [] 0 w2.heap.size n w3 ∧ w3.ownsRow W.heap.size 41 2 (.slice (some ⟨gc, 0, none⟩) NC cc) NC (prv (confs zs))) := Go.Lib.hid ⟨⟨rfl, by rw [Nat.sub_zero]; exact HH.out.2.2, fits_nil zs, by simpa using hown3, hb3, by simp⟩, H2.out.2.1.kept hgrow3 (by cases hv : (Value.slice (some ⟨gc, 0, none⟩) NC cc).ownBlock <;> simp)⟩; clear hown3 hgrow3 hb3)
    go_wp2_with fail
    go_step3
    go_wp2_with fail
    go_loopw [5, 19] (fun sv iv wr => ∃ (m g c : Nat) (so : List Int), m ≤ n ∧ iv = .int .i64 (m : Int) ∧ sv = .slice (some ⟨g, 0, none⟩) m c ∧ Hid (GrW zs n W R so m g c wr ∧ wr.ownsRow W.heap.size 41 2 (.slice (some ⟨gc, 0, none⟩) NC cc) NC (prv (confs zs)))) (fun _ iv _ => n - (intOf iv).toNat)
    case atStart => exact ⟨0, w2.heap.size, n, [], Nat.zero_le _, rfl, rfl, H3.out⟩
    case round =>
      obtain ⟨m, g, cp, so, hmn, rfl, rfl, HX⟩ := hrel
      clear H3
      obtain ⟨wo, rfl⟩ : ∃ wo, wo = wr := ⟨_, rfl⟩
      have hWo : W.heap.size ≤ wo.heap.size := HX.out.1.2.2.2.2.1.size
      by_cases hlt : m < n
      · have hmi : (m : Int) < (n : Int) := by omega
        have hcap : NC ≤ cc := by
          obtain ⟨_, h2⟩ := HX.out.2
          rcases h2 with ⟨h3, h4⟩ | ⟨_, _, _, e, _, _, h5, _⟩
          · cases h3
          · cases e; exact h5
        have hso4 : ∀ x ∈ so, 0 ≤ x ∧ x < 100 := fun x hx => by have := HX.out.1.2.2.2.2.2 x hx; omega
        have CU := Go.Lib.hid (inUse_any (confs zs) (fun p hp => (mem_confs (zs := zs) (i := p.1) (j := p.2)).1 hp |>.1) so hso4 wo gc cc NC H2.out.1 hNC98 hcap (HX.out.2.lt gc rfl).2 (fun i hi => SIterC.prv_cells HX.out.2 H2.out.1 hi) (.slice (some ⟨g, 0, none⟩) m cp) m (Sees.owns HX.out.1.2.2.2.1) (by omega))
        clear hcap hso4
        go_wp2_with fail
        refine (CU.out).mono ?_
        rintro e w4 ⟨bm, rfl, hum, hbm, hb4⟩
        have H4 := Go.Lib.hid (And.intro hum (And.intro hbm hb4))
        clear hum hbm hb4 CU
        go_wp2_with fail
        go_loopw [5, 24] (fun sv xv wr => ∃ (x : Nat), x ≤ 4 ∧ sv = .slice (some ⟨g, 0, none⟩) m cp ∧ xv = .int .i64 (x : Int) ∧ wr = w4 ∧ Hid (∀ y : Nat, y < x → okN zs so (y : Int) = false)) (fun _ xv _ => 4 - (intOf xv).toNat)
        case atStart => exact ⟨0, by omega, rfl, rfl, rfl, Go.Lib.hid (fun y hy => by omega)⟩
        case round =>
          obtain ⟨x, hx4, rfl, rfl, rfl, HY⟩ := hrel
          by_cases hxl : x < 4
          · have hxi : (x : Int) < 4 := by omega
            obtain ⟨u, hu⟩ : ∃ u, (inUse (confs zs) so).contains (x : Int) = u := ⟨_, rfl⟩
            have hlook := UseMap.look H4.out.1 (x := (x : Int)) (by omega)
            rw [hu] at hlook
            have HUU := Go.Lib.hid hu
            clear hu
            cases u with
            | true =>
              have HN : Hid (∀ y : Nat, y < x + 1 → okN zs so (y : Int) = false) := Go.Lib.hid (fun y hy => by
                by_cases h1 : y = x
                · subst h1; unfold okN; rw [HUU.out]; rfl
                · exact HY.out y (by omega))
              go_wp2_with fail
              go_roundw
              case rel => exact ⟨x + 1, by omega, rfl, by go_num, by first | rfl | trivial, HN⟩
              case measure => simp [intOf]; omega
            | false =>
              have hok : okN zs so (x : Int) = true := by unfold okN; rw [HUU.out]; rfl
              have hfo := firstOk_some hxl hok HY.out
              have h4s := H4.out.2.2.size
              have HR := Go.Lib.hid (And.intro hfo (And.intro hok (World.ownsRow.alloc (kept_call HX.out.1.2.2.2.1 H4.out.2.2) (.cells #[.int .i64 (x : Int)] 3))))
              clear hfo hok
              go_wp2_with (at_builtin; refine wpList_append_two _ rfl _ _ 24 rfl W.heap.size 3 i0 (.int .i64 0) 1 8 Try.underlying24 hi hz0 hz1 hz2 rfl (by decide) (.slice (some ⟨g, 0, none⟩) m cp) m (vals so) rfl HR.out.2.2 ⟨wr.heap.size, 0, none⟩ 1 1 [.int .i64 (x : Int)] rfl rfl (cell_one_new _ _ _) (fun u hu => by simp at hu; subst hu; rfl) (by unfold maxLen; omega) (by omega) (by simp; omega) ?_; intro v6 w6 hown6 hgrow6 _; obtain ⟨g6, c6, rfl⟩ := ownsRow_succ hown6; have H6 := Go.Lib.hid (And.intro hown6 hgrow6); clear hown6 hgrow6)
              have HN : Hid (GrW zs n W R (so ++ [(x : Int)]) (m + 1) g6 c6 w6 ∧ w6.ownsRow W.heap.size 41 2 (.slice (some ⟨gc, 0, none⟩) NC cc) NC (prv (confs zs))) := Go.Lib.hid (by
                have hX := HX.out.1
                have hb4 := H4.out.2.2
                have hbA : Below W.heap.size W (wr.alloc (.cells #[.int .i64 (x : Int)] 3)) := (hX.2.2.2.2.1.trans (hb4.mono hX.2.2.2.2.1.size)).alloc (by have := hX.2.2.2.2.1.size; omega) _
                refine ⟨⟨by rw [List.length_append, hX.1]; rfl, ?_, (fits_snoc (by have h1 := hX.1; have h2 := HH.out.2.1; omega)).2 ⟨hX.2.2.1, HR.out.2.1⟩, ?_, ?_, fun z hz => ?_⟩, ?_⟩
                · have h1 := hX.2.1
                  rw [show n - m = (n - (m + 1)) + 1 from by omega, greedy, HR.out.1] at h1
                  exact h1
                · have e1 : vals (so ++ [(x : Int)]) = vals so ++ [.int .i64 (x : Int)] := List.map_append
                  rw [e1]; exact H6.out.1
                · exact hbA.grown H6.out.2 hbA.size (fun q hq => (hX.2.2.2.1.lt q hq).1)
                · rw [List.mem_append, List.mem_singleton] at hz
                  rcases hz with hz | rfl
                  · exact hX.2.2.2.2.2 z hz
                  · omega
                · refine ((SIterC.kept_call2 HX.out.2 hb4).alloc _).kept H6.out.2 (.inr ?_)
                  intro e
                  exact own_apart HX.out.2 hX.2.2.2.1 (by decide) (q := gc) rfl e.symm)
              go_roundw
              case rel => exact ⟨m + 1, g6, c6, so ++ [(x : Int)], by omega, by go_num, rfl, HN⟩
              case measure => simp [intOf]; omega
          · have hx4' : x = 4 := by omega
            subst hx4'
            have HF : Hid (xs = [] ∧ b = false) := Go.Lib.hid (by
              have h1 := HX.out.1.2.1
              rw [show n - m = (n - (m + 1)) + 1 from by omega, greedy, firstOk_none HY.out] at h1
              have h2 := HH.out.1
              rw [← h1] at h2
              cases h2
              exact ⟨rfl, rfl⟩)
            have HBW : Hid (Below W.heap.size W wr) := Go.Lib.hid (HX.out.1.2.2.2.2.1.trans (H4.out.2.2.mono HX.out.1.2.2.2.2.1.size))
            go_wp2_with fail
            rw [Exit.noGoto_ret]
            go_ret2
            rw [HF.out.1, HF.out.2]
            exact listTo_below HBW.out (listTo_none _ _)
      · have hmn2 : m = n := by omega
        have HF : Hid (xs = so ∧ b = true) := Go.Lib.hid (by
          have h1 := HX.out.1.2.1
          rw [show n - m = 0 from by omega, greedy] at h1
          have h2 := HH.out.1
          rw [← h1] at h2
          cases h2
          exact ⟨rfl, rfl⟩)
        have hmi : ¬ (m : Int) < (n : Int) := by omega
        clear hmn2
        go_wp2_with fail
        go_ret2
        rw [HF.out.1, HF.out.2]
        exact ⟨_, rfl, by rw [HX.out.1.1]; exact HX.out.1.2.2.2.1, HX.out.1.2.2.2.2.1⟩

end Go.Proofs.Ytekihdnkkeggjaa.GreedyC

namespace Go.Proofs.Ytekihdnkkeggjaa.fnExactGreedySharing
open Go.ChangeShapes Go.WideShapes Go.ChangeAt Go.RowKit SeesC OpenC
open Go.ChangeMaps (open_string shut_string)
open IntsC ExactC OrdMath BesM GreedyC
set_option linter.unusedVariables false

theorem own : ownKnob Try.prog.godebug = none := by kernel_rfl
theorem laidOut : laidOutB Try.prog = true := by kernel_rfl

/-! ### The walk -/
set_option maxHeartbeats 2000000 in
theorem walk (v0 : Value) (n0 : Nat) (a0 : List Int) (w : World) (s0 : Sees w v0 n0 (a0.map (Value.int .i64))) (t0 : n0 ≤ maxLen) (w0 : ∀ z ∈ a0, (Lit.int .i64 z).wf = true) :
    Calls Try.prog 11 #[v0] w fun e w' => e = .returned (.bool true) ∧ Below w.heap.size w w' := by
  have hl0 : a0.length = n0 := by simpa using s0.1
  have hvlt := fun (z : World) => Nat.le_refl z.heap.size
  have hsee0 := Go.Lib.hid s0
  by_cases big0 : (1048576 : Int) < (n0 : Int)
  · clear hvlt
    obtain ⟨_, adr0, cap0, rfl, _, _⟩ := s0
    unfold maxLen at t0
    go_enter Try.func11, Try.ntmps11
    go_wp2
    go_ret
    exact ⟨rfl, Below.refl _ _⟩
  have bels : Hid (Below w.heap.size w w) := Go.Lib.hid (Below.refl _ _)
  obtain ⟨⟨xs, b⟩, hans⟩ : ∃ p, greedyAns a0 = p := ⟨_, rfl⟩
  have hb0 : n0 ≤ 1048576 := by omega
  have C1 := Go.Lib.hid (specGreedy a0 xs b hans (hl0 ▸ hb0))
  have C2 := Go.Lib.hid (implGreedy a0 xs b hans (hl0 ▸ hb0))
  have hxl : xs.length ≤ 1048576 := greedyA_len hans
  clear hans
  have hlt0 : 0 < n0 → ∀ q, v0.ownBlock = some q → q < w.heap.size := fun h q hq => s0.lt h q hq
  have HLT0 := Go.Lib.hid hlt0
  clear hlt0
  obtain ⟨_, adr0, cap0, rfl, _, _⟩ := s0
  unfold maxLen at t0
  clear hvlt
  go_enter Try.func11, Try.ntmps11
  go_wp2_with fail
  refine (toIntS_any _ _ n0 a0 (hsee0.out) hb0).mono ?_
  rintro e W1 ⟨g1, rfl, o1, b1⟩
  have ZW1 := Go.Lib.hid (Below.size (b1))
  have Rs0 := Go.Lib.hid (fun q hq => World.ownsRow.lt (o1) q hq)
  have HW1 := Go.Lib.hid (And.intro (Below.trans (bels.out) ((b1).mono (Below.size (bels.out)))) (And.intro (Sees.grow (hsee0.out) b1) (o1)))
  clear o1 b1
  go_wp2_with fail
  refine (C1.out _ _ _ (Sees.owns (HW1.out.2.2))).mono ?_
  rintro e W2 ⟨v2, rfl, o2, b2⟩
  have ZW2 := Go.Lib.hid (Below.size (b2))
  have Rw0 := Go.Lib.hid (fun q hq => World.ownsRow.lt (o2) q hq)
  have HW2 := Go.Lib.hid (And.intro (Below.trans (HW1.out.1) ((b2).mono (Below.size (HW1.out.1)))) (And.intro (Sees.grow (HW1.out.2.1) b2) (And.intro (kept_call (HW1.out.2.2) b2) (o2))))
  clear o2 b2
  go_wp2_with fail
  refine (toIntS_any _ _ n0 a0 (HW2.out.2.1) hb0).mono ?_
  rintro e W3 ⟨g3, rfl, o3, b3⟩
  have ZW3 := Go.Lib.hid (Below.size (b3))
  have Rx0 := Go.Lib.hid (fun q hq => World.ownsRow.lt (o3) q hq)
  have HW3 := Go.Lib.hid (And.intro (Below.trans (HW2.out.1) ((b3).mono (Below.size (HW2.out.1)))) (And.intro (Sees.grow (HW2.out.2.1) b3) (And.intro (kept_call (HW2.out.2.2.2) b3) (o3))))
  clear o3 b3
  go_wp2_with fail
  refine (C2.out _ _ _ (Sees.owns (HW3.out.2.2.2))).mono ?_
  rintro e W4 ⟨v4, rfl, o4, b4⟩
  have ZW4 := Go.Lib.hid (Below.size (b4))
  have Rg0 := Go.Lib.hid (fun q hq => World.ownsRow.lt (o4) q hq)
  have HW4 := Go.Lib.hid (And.intro (Below.trans (HW3.out.1) ((b4).mono (Below.size (HW3.out.1)))) (And.intro (Sees.grow (HW3.out.2.1) b4) (And.intro (kept_call (HW3.out.2.2.1) b4) (And.intro (kept_call (HW3.out.2.2.2) b4) (o4)))))
  clear o4 b4
  go_wp2_with fail
  refine (eqIntS_same _ _ _ xs.length xs (Sees.owns (HW4.out.2.2.2.2)) (Sees.owns (HW4.out.2.2.1)) (by unfold maxLen; omega)).mono ?_
  rintro e W5 ⟨rfl, d5⟩
  have ZW5 := Go.Lib.hid (Below.size ((d5.below W4.heap.size)))
  have HW5 := Go.Lib.hid (And.intro (Below.trans (HW4.out.1) (((d5.below W4.heap.size)).mono (Below.size (HW4.out.1)))) (And.intro (Sees.grow (HW4.out.2.1) (d5.below W4.heap.size)) (And.intro (kept_call (HW4.out.2.2.1) (d5.below W4.heap.size)) (And.intro (kept_call (HW4.out.2.2.2.1) (d5.below W4.heap.size)) (kept_call (HW4.out.2.2.2.2) (d5.below W4.heap.size))))))
  clear d5
  go_wp2_with fail
  refine (toIntS_any _ _ n0 a0 (HW5.out.2.1) hb0).mono ?_
  rintro e W6 ⟨g6, rfl, o6, b6⟩
  have ZW6 := Go.Lib.hid (Below.size (b6))
  have Ry0 := Go.Lib.hid (fun q hq => World.ownsRow.lt (o6) q hq)
  have HW6 := Go.Lib.hid (And.intro (Below.trans (HW5.out.1) ((b6).mono (Below.size (HW5.out.1)))) (And.intro (Sees.grow (HW5.out.2.1) b6) (And.intro (kept_call (HW5.out.2.2.1) b6) (And.intro (kept_call (HW5.out.2.2.2.1) b6) (And.intro (kept_call (HW5.out.2.2.2.2) b6) (o6))))))
  clear o6 b6
  go_wp2_with fail
  refine (eqIntS_same _ _ _ n0 a0 (Sees.owns (HW6.out.2.2.2.1)) (Sees.owns (HW6.out.2.2.2.2.2)) (by unfold maxLen; omega)).mono ?_
  rintro e W7 ⟨rfl, d7⟩
  have ZW7 := Go.Lib.hid (Below.size ((d7.below W6.heap.size)))
  have HW7 := Go.Lib.hid (And.intro (Below.trans (HW6.out.1) (((d7.below W6.heap.size)).mono (Below.size (HW6.out.1)))) (And.intro (Sees.grow (HW6.out.2.1) (d7.below W6.heap.size)) (And.intro (kept_call (HW6.out.2.2.1) (d7.below W6.heap.size)) (And.intro (kept_call (HW6.out.2.2.2.1) (d7.below W6.heap.size)) (And.intro (kept_call (HW6.out.2.2.2.2.1) (d7.below W6.heap.size)) (kept_call (HW6.out.2.2.2.2.2) (d7.below W6.heap.size)))))))
  clear d7
  go_wp2_with fail
  refine (markIntS_any _ n0 1 _ _ _ (by omega) (by omega) (HW7.out.2.2.2.1)).mono ?_
  rintro e W8 ⟨rfl, om8, gm8⟩
  have ZW8 := Go.Lib.hid (World.grownBy.size gm8)
  have HW8 := Go.Lib.hid (And.intro (Below.grown (HW7.out.1) gm8 (Below.size (HW7.out.1)) (fun k hk => by have h2 := Rx0.out k hk; have := ZW1.out; have := ZW2.out; have := ZW3.out; have := ZW4.out; have := ZW5.out; have := ZW6.out; have := ZW7.out; omega)) (And.intro (sees_mark (HW7.out.2.1) gm8 (fun hn a ha e => by have h1 := HLT0.out hn a ha; have h2 := Rx0.out a e; have := ZW1.out; have := ZW2.out; have := ZW3.out; have := ZW4.out; have := ZW5.out; have := ZW6.out; have := ZW7.out; omega)) (And.intro (own_mark (HW7.out.2.2.1) gm8 (fun a ha e => by have h1 := Rw0.out a ha; have h2 := Rx0.out a e; have := ZW1.out; have := ZW2.out; have := ZW3.out; have := ZW4.out; have := ZW5.out; have := ZW6.out; have := ZW7.out; omega)) (And.intro (own_mark (HW7.out.2.2.2.2.1) gm8 (fun a ha e => by have h1 := Rg0.out a ha; have h2 := Rx0.out a e; have := ZW1.out; have := ZW2.out; have := ZW3.out; have := ZW4.out; have := ZW5.out; have := ZW6.out; have := ZW7.out; omega)) (om8)))))
  clear om8 gm8
  go_wp2_with fail
  refine (eqIntS_same _ _ _ xs.length xs (Sees.owns (HW8.out.2.2.2.1)) (Sees.owns (HW8.out.2.2.1)) (by unfold maxLen; omega)).mono ?_
  rintro e W9 ⟨rfl, d9⟩
  have ZW9 := Go.Lib.hid (Below.size ((d9.below W8.heap.size)))
  have HW9 := Go.Lib.hid (And.intro (Below.trans (HW8.out.1) (((d9.below W8.heap.size)).mono (Below.size (HW8.out.1)))) (And.intro (Sees.grow (HW8.out.2.1) (d9.below W8.heap.size)) (And.intro (kept_call (HW8.out.2.2.1) (d9.below W8.heap.size)) (And.intro (kept_call (HW8.out.2.2.2.1) (d9.below W8.heap.size)) (kept_call (HW8.out.2.2.2.2) (d9.below W8.heap.size))))))
  clear d9
  go_wp2_with fail
  refine (markIntS_any _ xs.length 1 _ _ _ (by omega) (by omega) (HW9.out.2.2.2.1)).mono ?_
  rintro e W10 ⟨rfl, om10, gm10⟩
  have ZW10 := Go.Lib.hid (World.grownBy.size gm10)
  have HW10 := Go.Lib.hid (And.intro (Below.grown (HW9.out.1) gm10 (Below.size (HW9.out.1)) (fun k hk => by have h2 := Rg0.out k hk; have := ZW1.out; have := ZW2.out; have := ZW3.out; have := ZW4.out; have := ZW5.out; have := ZW6.out; have := ZW7.out; have := ZW8.out; have := ZW9.out; omega)) (And.intro (sees_mark (HW9.out.2.1) gm10 (fun hn a ha e => by have h1 := HLT0.out hn a ha; have h2 := Rg0.out a e; have := ZW1.out; have := ZW2.out; have := ZW3.out; have := ZW4.out; have := ZW5.out; have := ZW6.out; have := ZW7.out; have := ZW8.out; have := ZW9.out; omega)) (And.intro (own_mark (HW9.out.2.2.1) gm10 (fun a ha e => by have h1 := Rw0.out a ha; have h2 := Rg0.out a e; have := ZW1.out; have := ZW2.out; have := ZW3.out; have := ZW4.out; have := ZW5.out; have := ZW6.out; have := ZW7.out; have := ZW8.out; have := ZW9.out; omega)) (om10))))
  clear om10 gm10
  go_wp2_with fail
  refine (heldIntS_any xs.length 1 _ _ (by omega) (by omega) (Sees.owns (HW10.out.2.2.2))).mono ?_
  rintro e _ ⟨rfl, rfl⟩
  go_wp2_with fail
  refine (toIntS_any _ _ n0 a0 (HW10.out.2.1) hb0).mono ?_
  rintro e W11 ⟨g11, rfl, o11, b11⟩
  have ZW11 := Go.Lib.hid (Below.size (b11))
  have Rz0 := Go.Lib.hid (fun q hq => World.ownsRow.lt (o11) q hq)
  have HW11 := Go.Lib.hid (And.intro (Below.trans (HW10.out.1) ((b11).mono (Below.size (HW10.out.1)))) (And.intro (Sees.grow (HW10.out.2.1) b11) (And.intro (kept_call (HW10.out.2.2.1) b11) (And.intro (kept_call (HW10.out.2.2.2) b11) (o11)))))
  clear o11 b11
  go_wp2_with fail
  refine (C2.out _ _ _ (Sees.owns (HW11.out.2.2.2.2))).mono ?_
  rintro e W12 ⟨v12, rfl, o12, b12⟩
  have ZW12 := Go.Lib.hid (Below.size (b12))
  have Rh0 := Go.Lib.hid (fun q hq => World.ownsRow.lt (o12) q hq)
  have HW12 := Go.Lib.hid (And.intro (Below.trans (HW11.out.1) ((b12).mono (Below.size (HW11.out.1)))) (And.intro (Sees.grow (HW11.out.2.1) b12) (And.intro (kept_call (HW11.out.2.2.1) b12) (And.intro (kept_call (HW11.out.2.2.2.1) b12) (And.intro (kept_call (HW11.out.2.2.2.2) b12) (o12))))))
  clear o12 b12
  go_wp2_with fail
  refine (eqIntS_same _ _ _ xs.length xs (Sees.owns (HW12.out.2.2.2.2.2)) (Sees.owns (HW12.out.2.2.1)) (by unfold maxLen; omega)).mono ?_
  rintro e W13 ⟨rfl, d13⟩
  have ZW13 := Go.Lib.hid (Below.size ((d13.below W12.heap.size)))
  have HW13 := Go.Lib.hid (And.intro (Below.trans (HW12.out.1) (((d13.below W12.heap.size)).mono (Below.size (HW12.out.1)))) (And.intro (Sees.grow (HW12.out.2.1) (d13.below W12.heap.size)) (And.intro (kept_call (HW12.out.2.2.1) (d13.below W12.heap.size)) (And.intro (kept_call (HW12.out.2.2.2.1) (d13.below W12.heap.size)) (kept_call (HW12.out.2.2.2.2.2) (d13.below W12.heap.size))))))
  clear d13
  go_wp2_with fail
  refine (heldIntS_any xs.length 1 _ _ (by omega) (by omega) (Sees.owns (HW13.out.2.2.2.1))).mono ?_
  rintro e _ ⟨rfl, rfl⟩
  go_wp2_with fail
  go_ret
  exact ⟨rfl, HW13.out.1⟩

/-! ### From the walk to the row -/
set_option maxRecDepth 100000 in
theorem lifted (os : Os) (started : os.Started) (H : Type) (enc : TypeId × Value → H) :
    ReturnsInHanded {} Try.checked os 11 .any (Rows.fnExactGreedySharingSpec.pre6 enc Try.prog Try.f11 Rows.fnExactGreedySharingRow.domain false) (Rows.fnExactGreedySharingSpec.post enc Try.prog Try.f11 false true false false) := by
  refine returnsInHanded_of_change (C := Try.checked) own started (by kernel_rfl) Try.func11
    (ChangeSpec.witness6 (enc := enc) (C := Try.checked) false ⟨#[], #[.slice none 0 0], []⟩ 8 (by kernel_rfl) (by kernel_rfl) (by kernel_rfl) (by kernel_rfl)) ?_
  intro W base args ds gs before hval0 hW hcnd _
  have hval : ∀ (j : Nat) t v, Try.f11.params[j]? = some t → args[j]? = some v → Value.okWide Try.prog W .any base t v := hval0
  have hW' := hW
  obtain ⟨p, q, hA0, hV, rfl, hfz, hnd⟩ := hW
  have hA : DataW.TrodAll enc Try.prog W 0 (fun _ => true) true Try.f11.params.toList args.toList ds p := hA0
  rw [Try.params11] at hA hval
  obtain ⟨u0, vs0, d0, ds0, p0, q0, hargs, rfl, rfl, h0, r0⟩ := trodAll_cons hA
  obtain ⟨rfl, rfl, rfl⟩ := trodAll_nil r0
  obtain rfl : args = #[u0] := by cases args; simp_all
  obtain ⟨rfl, rfl⟩ := trodVars_none hV
  have lt0 : ∀ x ∈ p0, x.block < W.heap.size := by obtain ⟨m, hm⟩ := h0; exact DataW.trod_lt m _ _ _ hm
  obtain ⟨n0, a0, s0, t0, w0⟩ := sees_ints Try.underlying24 Try.underlying3 (by kernel_rfl) (hval 0 24 u0 rfl rfl) h0
  clear hA0 hval0
  refine (walk u0 n0 a0 W s0 t0 w0).mono fun e W' ⟨he, bel⟩ => ?_
  subst he
  exact ⟨_, rfl, _, _, _, [], _, [], hW', trodAll_mk1 (shut_bool Try.underlying4 _), (trodAll_cons_mk (Below.trod laidOut (by kernel_rfl) (of_decide_eq_true (by kernel_rfl)) h0 bel lt0) trodAll_mk0), rfl, bel.frame _, fun h => by cases h⟩

theorem over : Rows.fnExactGreedySharingRow.holds Try.pinned (OpenSpec.ofChange Rows.fnExactGreedySharingSpec) :=
  OpenClaim.holds_of_wide 11 Try.f11 rfl rfl rfl rfl rfl rfl rfl ⟨rfl, rfl, rfl, rfl, rfl⟩ rfl rfl rfl rfl rfl (by kernel_rfl) Try.func11
    (show joinedFacts Try.prog 11 Try.f11 Rows.fnExactGreedySharingSpec Rows.fnExactGreedySharingRow = true by unfold joinedFacts; rw [SeatC.may, SeatC.lif, SeatC.mke]; kernel_rfl)
    (of_decide_eq_true (by kernel_rfl)) (by unfold Func.isWrapper; first | (rw [if_pos (by decide +kernel)]; kernel_rfl) | (rw [if_neg (by decide +kernel)]; exact ⟨rfl, rfl⟩))
    (fun os started H enc _ => lifted os started H enc)

/-- The statement. -/
theorem proved : Rows.FnExactGreedySharingSaid :=
  over
#print axioms proved
end Go.Proofs.Ytekihdnkkeggjaa.fnExactGreedySharing
