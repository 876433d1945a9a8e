/-
  Contracts and plain facts that the laws' texts lean on. Conditions: as each states.
-/
import Derived.Test.YtnhhnffolmgceabGreatPw16
import Derived.Test.YtnhhnffolmgceabGreatPw28
import Derived.Test.YtnhhnffolmgceabGreatPw29
import Derived.Test.YtnhhnffolmgceabGreatPw36
import Derived.Test.YtnhhnffolmgceabGreatPw37
import Derived.Test.YtnhhnffolmgceabGreatPw12
import Derived.Test.YtnhhnffolmgceabGreatPw4
import Derived.Test.YtnhhnffolmgceabGreatPw0
import Derived.Sort.OwnSortedInts

section
namespace Go.Proofs.YtnhhnffolmgceabGreat.MergeIC
open Go.Shelf Go.RowKit Go.Lib Go.Sort
open SeesC IntsC ExactC OrdMath InC OrderC ListsC ListsEC ListsFC LLC RagMarkC RagResC RRC AppendTwoC QueM RRVC PassM AreM OutM RunIC PassSC ConcatC ChunkC RangeC SplitIterC UntilC

attribute [local go_sem] Oper.semAt_some
set_option linter.unusedSimpArgs false
set_option linter.unusedVariables false

theorem two_of {R : List (List Int)} {i : Nat} (h : i < R.length) : (R.drop i).take (min 2 (R.length - i)) = if i + 1 < R.length then [R.getD i [], R.getD (i + 1) []] else [R.getD i []] := by
  have e1 : R.getD i [] = R[i] := by simp [h]
  by_cases h2 : i + 1 < R.length
  · have e2 : R.getD (i + 1) [] = R[i + 1] := by simp [h2]
    rw [if_pos h2, show min 2 (R.length - i) = 2 by omega, List.drop_eq_getElem_cons h, List.drop_eq_getElem_cons h2, e1, e2]; rfl
  · rw [if_neg h2, show min 2 (R.length - i) = 1 by omega, List.drop_eq_getElem_cons h, e1]; rfl

def chunk (R : List (List Int)) (j : Nat) : List (List Int) := (R.drop (2 * j)).take (min 2 (R.length - 2 * j))

theorem chunk_sort {zs : List Int} (h : Ord zs) {j : Nat} (hj : 2 * j < (rTo zs zs.length).length) : ((chunk (rTo zs zs.length) j).flatten.mergeSort fun x y => decide (x ≤ y)) = pairAt (rTo zs zs.length) j := by
  symm
  refine sorted_one ?_ (pair_asc h hj) ?_
  · refine List.Perm.trans ?_ (List.mergeSort_perm _ _).symm
    unfold chunk pairAt
    rw [two_of hj]
    split
    · simpa using mrg_perm _ _
    · simp
  · have := List.pairwise_mergeSort (le := fun x y : Int => decide (x ≤ y)) (fun a b c h1 h2 => by simp at *; omega) (fun a b => by simp; omega) (chunk (rTo zs zs.length) j).flatten
    simpa using this

theorem sees_chunk {X : World} {g K c p : Nat} {R : List (List Int)} (h : SeesLL X (.slice (some ⟨g, 0, none⟩) K c) R) (hK : R.length = K) (hp : p < K) : SeesLL X (.slice (some ⟨g, p, none⟩) (min 2 (K - p)) (min 2 (K - p))) ((R.drop p).take (min 2 (K - p))) := by
  subst hK
  obtain ⟨m, hm⟩ : ∃ m, min 2 (R.length - p) = m := ⟨_, rfl⟩
  rw [hm]
  obtain ⟨vs, h1, h2, h3⟩ := h
  have hl : ((R.drop p).take m).length = m := by simp; omega
  refine ⟨(vs.drop p).take m, by simp [h1], ?_, fun i hi => ?_⟩
  · rw [hl]
    obtain ⟨h4, a, cap, e, h5, h6⟩ := h2
    cases e
    refine ⟨by simp; omega, _, _, rfl, Nat.le_refl _, fun _ => ?_⟩
    obtain ⟨b, o, e2, hc⟩ := h6 (by omega)
    cases e2
    refine ⟨_, _, rfl, fun j u hu => ?_⟩
    have hj : j < m := by
      have := (List.getElem?_eq_some_iff.1 hu).1
      simp at this; omega
    rw [List.getElem?_take_of_lt hj, List.getElem?_drop] at hu
    have := hc (p + j) u hu
    simpa using this
  · rw [hl] at hi
    have e1 : ((vs.drop p).take m).getD i undef = vs.getD (p + i) undef := by
      rw [List.getD_eq_getElem?_getD, List.getElem?_take_of_lt hi, List.getElem?_drop, ← List.getD_eq_getElem?_getD]
    have e2 : ((R.drop p).take m).getD i [] = R.getD (p + i) [] := by
      rw [List.getD_eq_getElem?_getD, List.getElem?_take_of_lt hi, List.getElem?_drop, ← List.getD_eq_getElem?_getD]
    rw [e1, e2]
    exact h3 (p + i) (by omega)

theorem sees_keepR {lo hi : Nat} {w X : World} {v : Value} {n : Nat} {xs : List Value} (h : Sees w v n xs) (hb : ∀ b, v.ownBlock = some b → lo ≤ b ∧ b < hi) (hk : KeepR lo hi w X) : Sees X v n xs := by
  obtain ⟨h1, a, cap, rfl, h3, h2⟩ := h
  refine ⟨h1, a, cap, rfl, h3, fun hn => ?_⟩
  obtain ⟨b, o, rfl, hc⟩ := h2 hn
  exact ⟨b, o, rfl, fun j u hu => (hk.cell (hb b rfl).1 (hb b rfl).2).trans (hc j u hu)⟩

theorem rag_keepR {lo hi : Nat} {w X : World} {v : Value} {R : List (List Int)} (h : Rag w lo v R) (hs : w.heap.size ≤ hi) (hk : KeepR lo hi w X) : SeesLL X v R := by
  obtain ⟨gs, h1, h2, h3, h4⟩ := h
  refine ⟨_, by simp, sees_keepR (Sees.owns h2) (fun b e => by have := own_block_lt h2 e; omega) hk, fun i hi => ?_⟩
  have e1 : ((List.range R.length).map fun i => sl (R.getD i []).length (gs.getD i (0, 0))).getD i undef = sl (R.getD i []).length (gs.getD i (0, 0)) := by
    rw [List.getD_eq_getElem?_getD, List.getElem?_map, List.getElem?_range hi]; rfl
  rw [e1]
  exact sees_keepR (Sees.owns (h3 i hi)) (fun b e => by have := own_block_lt (h3 i hi) e; omega) hk

theorem keepR_own {lo hi B : Nat} {w : World} (hw : hi ≤ w.heap.size) (hB : hi ≤ B) : OwnFrom B (fun (_ : List Nat) X => KeepR lo hi w X) := fun s A C row hs hg hr =>
  ⟨fun k h1 h2 => (hg.block k (by have := hs.2; omega) (fun e => by have := (hr k e.symm).1; omega)).trans (hs.1 k h1 h2), Nat.le_trans hs.2 (World.grownBy.size hg)⟩

theorem sort_any (zs : List Int) (g c base : Nat) (w : World) (ho : w.ownsRow base 3 1 (.slice (some ⟨g, 0, none⟩) zs.length c) zs.length (vals zs)) (hz : zs.length ≤ 1048576) :
    Calls Tryz.prog 103 #[.slice (some ⟨g, 0, none⟩) zs.length c] w fun e w' => e = .returned (.tuple #[]) ∧ w'.ownsRow base 3 1 (.slice (some ⟨g, 0, none⟩) zs.length c) zs.length (vals (zs.mergeSort fun x y => decide (x ≤ y))) ∧ w.grownBy w' (some g) := by
  have hlt := own_block_lt ho (q := g) rfl
  rcases ho.2 with ⟨h0, _⟩ | ⟨g', c', cur, e, hb, h0, h1, h2, h3, h4⟩
  · cases h0
  · cases e
    refine (Tryz.slices_Sort_int g 0 c zs w (holds_of_blockI h0 (by rw [Nat.mul_one] at h4; exact h4)) hlt.2 (by omega)).mono ?_
    rintro e w' ⟨rfl, n, os, rfl⟩
    exact ⟨rfl, ownsRow_sortedI (by simp) hb h0 h1 h2 h3, grownBy_sortedI _⟩

def merged (R : List (List Int)) (so : List Nat) : List Int := (so.map (pairAt R)).flatten

theorem merged_snoc (R : List (List Int)) (so : List Nat) (x : Nat) : merged R (so ++ [x]) = merged R so ++ pairAt R x := by simp [merged]

theorem merged_range (R : List (List Int)) : ∀ j, merged R (List.range j) = pairsTo R j
  | 0 => rfl
  | j + 1 => by rw [List.range_succ, merged_snoc, merged_range R j]; rfl

theorem from_below2 {B : Nat} {X Y : World} (h : Below X.heap.size X Y) : KeepsFrom B X Y := ⟨h.size, fun k o _ hk _ => (h.block k (Array.getElem?_eq_some_iff.1 hk).1).trans hk⟩

/-- What stands behind the append and the store of a round. -/
theorem round_end {X X2 w6 : World} {base lo hi D B3 k m g6 c6 : Nat} {v : Value} {xs ys : List Value} (hbox : Boxed X B3 24 v) (hrow : X.ownsRow base 3 1 v k xs) (hG : ∀ q, v.ownBlock = some q → q < lo ∨ hi ≤ q) (hb : base ≤ B3) (h3 : B3 < lo) (hX : hi ≤ X.heap.size) (hbX : base ≤ X.heap.size) (h5 : Below X.heap.size X X2)
    (hown : w6.ownsRow base 3 1 (.slice (some ⟨g6, 0, none⟩) m c6) m ys) (hgrow : X2.grownBy w6 v.ownBlock) (hnew : NewRow X2 v (.slice (some ⟨g6, 0, none⟩) m c6)) :
    w6.cell? ⟨B3, 0, none⟩ = some v ∧ w6.frozen? ⟨B3, 0, none⟩ = false ∧ Boxed (w6.setCell ⟨B3, 0, none⟩ (.slice (some ⟨g6, 0, none⟩) m c6)) B3 24 (.slice (some ⟨g6, 0, none⟩) m c6) ∧ (w6.setCell ⟨B3, 0, none⟩ (.slice (some ⟨g6, 0, none⟩) m c6)).ownsRow base 3 1 (.slice (some ⟨g6, 0, none⟩) m c6) m ys ∧
    (∀ q, (Value.slice (some ⟨g6, 0, none⟩) m c6).ownBlock = some q → q < lo ∨ hi ≤ q) ∧ KeepsFrom D X (w6.setCell ⟨B3, 0, none⟩ (.slice (some ⟨g6, 0, none⟩) m c6)) ∧ KeepR lo hi X (w6.setCell ⟨B3, 0, none⟩ (.slice (some ⟨g6, 0, none⟩) m c6)) ∧ Below base X (w6.setCell ⟨B3, 0, none⟩ (.slice (some ⟨g6, 0, none⟩) m c6)) := by
  have hbox2 : Boxed X2 B3 24 v := (h5.block B3 hbox.lt).trans hbox
  have hrow2 := kept_call hrow h5
  have b6 : Boxed w6 B3 24 v := hbox2.kept hgrow (hbox2.not_row (by decide) hrow2)
  have hs6 := World.grownBy.size hgrow
  have hs5 := h5.size
  refine ⟨b6.cell, b6.frozen, b6.set _, hown.kept (grownBy_setCell' w6 B3 _) (.inr (b6.not_row (by decide) hown).symm), ?_, ?_, ⟨fun k h1 h2 => ?_, ?_⟩, ?_⟩
  · intro q hq
    rcases hnew with h | h
    · exact hG q (h ▸ hq)
    · have := h q hq
      right; omega
  · refine ((from_below2 h5).trans ((KeepsOthers.of_grownBy hgrow fun j o ej hj => ?_).from _)).trans ((KeepsOthers.setCell _ _ _).from _)
    rcases hrow2.2 with ⟨rfl, _⟩ | ⟨g, cap, cur, rfl, _, hgb, _⟩
    · simp [Value.ownBlock] at ej
    · obtain rfl : g = j := by simpa [Value.ownBlock] using ej
      rw [hgb] at hj; cases hj; rfl
  · rw [Below.heap_setCell _ _ _ _ (by show ¬ _ = _; simp only; omega), hgrow.block k (by omega) (fun e => by have := hG k e.symm; omega), h5.block k (by omega)]
  · have := (KeepsWalks.setCell w6 ⟨B3, 0, none⟩ (.slice (some ⟨g6, 0, none⟩) m c6)).size
    omega
  · refine ((h5.mono hbX).grown hgrow (by omega) fun j ej => ?_).setCell (p := ⟨B3, 0, none⟩) hb _
    exact (own_block_lt hrow2 ej).1

set_option maxRecDepth 100000 in
set_option maxHeartbeats 2000000 in
theorem mergePass_in (n : Nat) (hn : 3 ≤ n) (zs : List Int) (hord : Ord zs) (W : World) (v : Value) (m : Nat) (hv : Sees W v m (vals zs)) :
    CallsIn Fence.wide n Tryz.prog 80 #[v] W fun e w' => ∃ g c, e = .returned (.slice (some ⟨g, 0, none⟩) m c) ∧ w'.ownsRow W.heap.size 3 1 (.slice (some ⟨g, 0, none⟩) m c) m (vals (pass zs)) ∧ Below W.heap.size W w' := by
  have h1 : 1 ≤ n := by omega
  have hl : zs.length = m := by simpa using hv.1
  have hm7 : m ≤ 7 := by have := hord.2.1; omega
  have hm1 : 1 ≤ m := by have := hord.1; omega
  obtain ⟨i0, hi0, hz0, hz1, hz2⟩ := info_parts infoI
  have HI := Go.Lib.hid (And.intro hi0 (And.intro hz0 (And.intro hz1 hz2)))
  have HV := Go.Lib.hid hv
  obtain ⟨R, hR⟩ : ∃ R, rTo zs m = R := ⟨_, rfl⟩
  have CR := Go.Lib.hid (fun (W' : World) (h : Sees W' v m (vals zs)) => runsOf_any zs hord W' v m h)
  rw [hR] at CR
  have hok := rTo_ok zs m
  rw [hR] at hok
  have hpos := rTo_pos zs m
  rw [hR] at hpos
  have hsort : ∀ j, 2 * j < R.length → ((chunk R j).flatten.mergeSort fun x y => decide (x ≤ y)) = pairAt R j := fun j hj => by
    have h2 := chunk_sort hord (j := j) (by rw [hl, hR]; exact hj)
    rw [hl, hR] at h2; exact h2
  have hpass : pairsTo R ((R.length + 1) / 2) = pass zs := by unfold pass; rw [hl, hR]
  have hplen : (pass zs).length = m := by rw [pass_len]; exact hl
  have hcl : ∀ j, 2 * j < R.length → 1 ≤ tot (chunk R j) ∧ tot (chunk R j) ≤ 7 ∧ (chunk R j).length ≤ 2 ∧ ∀ i, i < (chunk R j).length → 0 < ((chunk R j).getD i []).length := fun j hj => by
    have hd0 := hpos (2 * j) hj
    have htt : tot (R.take (2 * j)) + tot (chunk R j) ≤ tot R := by
      have e1 := flat_tot (R.take (2 * j))
      have e2 := flat_tot (chunk R j)
      have e3 := flat_tot R
      have e4 : R.flatten = (R.take (2 * j)).flatten ++ ((chunk R j).flatten ++ ((R.drop (2 * j)).drop (min 2 (R.length - 2 * j))).flatten) := by
        unfold chunk
        rw [← List.flatten_append, ← List.flatten_append, List.take_append_drop, List.take_append_drop]
      have e5 := congrArg List.length e4
      rw [List.length_append, List.length_append] at e5
      omega
    unfold chunk at htt ⊢
    rw [two_of hj] at htt ⊢
    split
    · rename_i h2
      rw [if_pos h2] at htt
      refine ⟨by show 1 ≤ (R.getD (2 * j) []).length + ((R.getD (2 * j + 1) []).length + 0); omega, by omega, by simp, fun i hi => ?_⟩
      have hd1 := hpos (2 * j + 1) h2
      have : i = 0 ∨ i = 1 := by simp at hi; omega
      rcases this with rfl | rfl
      · exact hd0
      · exact hd1
    · rename_i h2
      rw [if_neg h2] at htt
      refine ⟨by show 1 ≤ (R.getD (2 * j) []).length + 0; omega, by omega, by simp, fun i hi => ?_⟩
      have : i = 0 := by simp at hi; omega
      subst this
      exact hd0
  have hK1 : 1 ≤ R.length := hok.2.2.2 hm1
  have hK7 : R.length ≤ 7 := by have := hok.1; omega
  have HM := Go.Lib.hid (And.intro hsort (And.intro hcl (And.intro hpass hplen)))
  clear hsort hcl hpass hplen hok hpos hR hl hord
  have hvlt := fun h => hv.lt (by omega : 0 < m) h
  obtain ⟨_, ad, cap, rfl, _, _⟩ := hv
  refine callsIn_of_wp_marks Tryz.func80 rfl trivial ?_ rfl
  simp only [Tryz.ntmps80, List.size_toArray, List.length_cons, List.length_nil, Nat.reduceAdd, Nat.reduceSub, Array.replicate_succ, Array.replicate_zero, List.push_toArray, List.append_toArray, List.nil_append, List.cons_append]
  gi_wp2_with (gi_at_make; refine wpListIn_make_own _ rfl _ _ 24 rfl W.heap.size 3 i0 (.int .i64 0) 1 Tryz.underlying24 hi0 hz0 hz1 .i64 .i64 _ m rfl rfl rfl (by rw [hz2]; omega) (by unfold maxLen; omega) (Nat.le_refl _) ?_; intro w1 hown1 hgrow1; have H1 := Go.Lib.hid (And.intro hown1 hgrow1); clear hown1 hgrow1)
  have hbox0 := Boxed.new w1 24 (.slice (some ⟨W.heap.size, 0, none⟩) 0 m)
  have hrow0 := H1.out.1.alloc (.cells #[.slice (some ⟨W.heap.size, 0, none⟩) 0 m] 24)
  have hbel0 : Below W.heap.size W (w1.alloc (.cells #[.slice (some ⟨W.heap.size, 0, none⟩) 0 m] 24)) := ((Below.refl W.heap.size W).grown H1.out.2 (Nat.le_refl _) (fun k hk => by cases hk)).alloc (World.grownBy.size H1.out.2) _
  have hgs := (own_block_lt H1.out.1 (q := W.heap.size) rfl).2
  obtain ⟨B3, hB3⟩ : ∃ B3, w1.heap.size = B3 := ⟨_, rfl⟩
  have hsz0 : (w1.alloc (.cells #[.slice (some ⟨W.heap.size, 0, none⟩) 0 m] 24)).heap.size = B3 + 1 := by rw [← hB3]; simp
  rw [hB3] at hbox0 hgs ⊢
  obtain ⟨WA, hWA⟩ : ∃ WA, w1.alloc (.cells #[.slice (some ⟨W.heap.size, 0, none⟩) 0 m] 24) = WA := ⟨_, rfl⟩
  rw [hWA] at hbox0 hrow0 hbel0 hsz0 ⊢
  have HA := Go.Lib.hid (And.intro hbox0 (And.intro hrow0 hbel0))
  clear hbox0 hrow0 hbel0 hWA hB3 H1
  refine ⟨trivial, ?_⟩
  gi_at_call 101
  refine (callsIn_wide.2 (CR.out WA (HV.out.grow HA.out.2.2))).mono ?_
  rintro e w2 ⟨a2, c2, rfl, hr2, hb2⟩
  obtain ⟨gs, _, hro, _⟩ := id hr2
  obtain ⟨g2, _, e2⟩ := own_pos hro (by omega)
  cases e2
  have hKc : R.length ≤ c2 := by
    obtain ⟨_, a, cap, e, h5, _⟩ := Sees.owns hro
    cases e; exact h5
  have HB := Go.Lib.hid (And.intro hr2 hb2)
  have hs2 := hb2.size
  rw [hsz0] at hs2
  clear hr2 hb2 hro
  gi_wp2_with fail
  refine ⟨trivial, ?_⟩
  gi_at_call 100
  refine (chunk_in Fence.wide _ g2 R.length c2 trivial rfl w2).mono ?_
  rintro e w3 ⟨rfl, rfl⟩
  have bS := (Boxed.new w2 57 (.slice (some ⟨g2, 0, none⟩) R.length c2)).alloc (.cells #[.int .i64 2] 3)
  have bN := Boxed.new (w2.alloc (.cells #[.slice (some ⟨g2, 0, none⟩) R.length c2] 57)) 3 (.int .i64 2)
  have hbl := ((Below.refl w2.heap.size w2).alloc (Nat.le_refl _) (.cells #[.slice (some ⟨g2, 0, none⟩) R.length c2] 57)).alloc (by simp) (.cells #[.int .i64 2] 3)
  simp only [World.size_alloc] at bN
  obtain ⟨Wl, hWl⟩ : ∃ Wl, (w2.alloc (.cells #[.slice (some ⟨g2, 0, none⟩) R.length c2] 57)).alloc (.cells #[.int .i64 2] 3) = Wl := ⟨_, rfl⟩
  have hszl : Wl.heap.size = w2.heap.size + 2 := by rw [← hWl]; simp
  rw [hWl] at bS bN hbl ⊢
  have hbA : Below WA.heap.size WA Wl := HB.out.2.trans (hbl.mono HB.out.2.size)
  have hboxl : Boxed Wl B3 24 (.slice (some ⟨W.heap.size, 0, none⟩) 0 m) := (hbA.block B3 HA.out.1.lt).trans HA.out.1
  have hrowl := kept_call HA.out.2.1 hbA
  have hrag : Rag Wl (B3 + 1) (.slice (some ⟨g2, 0, none⟩) R.length c2) R := by have h9 := HB.out.1.kept hbl; rw [hsz0] at h9; exact h9
  have hbW : Below W.heap.size W Wl := HA.out.2.2.trans (hbA.mono (by omega))
  have HL := Go.Lib.hid (And.intro hrag hbW)
  clear hrag hbW hbl hbA hWl
  gi_wp2_with fail
  refine range_hands rfl h1 (gf := 112) (lb := #[.pointer (some ⟨w2.heap.size, 0, none⟩), .pointer (some ⟨w2.heap.size + 1, 0, none⟩)]) rfl trivial (enters_of Tryz.func112 (by kernel_rfl) rfl)
    (chunks_hands (n - 1) (B3 + 1) Wl.heap.size w2.heap.size (w2.heap.size + 1) g2 R.length c2 (by omega) hK1 (by omega) hKc Wl (by omega) (by omega) (Nat.le_refl _) bS.cell bN.cell) (fun h k => h.trans k) (fun X l o o' hl _ _ _ => KeepR.put o' hl) (Below.refl _ _) (fun _ => rfl)
    (fun so X => ((∃ v, Boxed X B3 24 v ∧ X.ownsRow W.heap.size 3 1 v (merged R so).length (vals (merged R so)) ∧ (∀ q, v.ownBlock = some q → q < B3 + 1 ∨ Wl.heap.size ≤ q)) ∧ (merged R so).length ≤ 7 * so.length) ∧ KeepR (B3 + 1) Wl.heap.size Wl X ∧ Below W.heap.size Wl X)
    (fun _ _ _ => False)
    (OwnFrom.and (OwnFrom.and (Own.from (holdsRow_own W.heap.size B3 24 3 1 (fun so : List Nat => (merged R so).length) (fun so => vals (merged R so)) (fun _ v => ∀ q, v.ownBlock = some q → q < B3 + 1 ∨ Wl.heap.size ≤ q)) _) (ownFrom_pure _ _)) (OwnFrom.and (keepR_own (Nat.le_refl _) (Nat.le_refl _)) (ownFrom_below (by omega) (by omega))))
    (fun _ _ _ _ _ hs _ _ => hs) (fun x _ _ _ _ hs _ _ => hs) ⟨⟨⟨_, hboxl, hrowl, fun q hq => by simp [Value.ownBlock] at hq; omega⟩, by simp [merged]⟩, KeepR.refl _ _ _, Below.refl _ _⟩
    (fun x => { tmps := #[.slice ad m cap, undef, .slice none 0 0, .pointer (some ⟨B3, 0, none⟩), (.slice (some ⟨g2, 2 * x, none⟩) (min 2 (R.length - 2 * x)) (min 2 (R.length - 2 * x))), undef, .slice ad m cap, .int .i64 m, .slice (some ⟨W.heap.size, 0, none⟩) 0 m, .slice ad m cap, .slice (some ⟨g2, 0, none⟩) R.length c2, .func (.func 112) #[] #[.pointer (some ⟨w2.heap.size, 0, none⟩), .pointer (some ⟨w2.heap.size + 1, 0, none⟩)], (.slice (some ⟨g2, 2 * x, none⟩) (min 2 (R.length - 2 * x)) (min 2 (R.length - 2 * x))), undef, undef, undef, undef, undef, undef, undef, undef], defers := [] }) ?assign ?body ?done ?stop
  case assign =>
    intro l x X K hK
    unfold enc
    gi_wp2
    exact hK
  case body =>
    rintro l so x X ⟨⟨⟨v, hbox, hrow, hG⟩, hlen⟩, hKR, hB⟩ hx hso
    have hXs : Wl.heap.size ≤ X.heap.size := hB.size
    have hsl := sees_chunk (rag_keepR HL.out.1 (Nat.le_refl _) hKR) rfl hx
    have hcx := HM.out.2.1 x hx
    have hsx := HM.out.1 x hx
    have cc := concat_any (chunk R x) X _ hsl (by omega) hcx.2.2.2 (by omega)
    obtain ⟨fl, hfl⟩ : ∃ fl, (chunk R x).flatten = fl := ⟨_, rfl⟩
    have hft := flat_tot (chunk R x)
    rw [hfl] at hft hsx cc
    rw [← hft] at hcx cc
    have CC := Go.Lib.hid cc
    have hpl : (pairAt R x).length = fl.length := by rw [← hsx]; simp
    obtain ⟨_, va, vc, rfl, _, _⟩ := Sees.owns hrow
    have hfl1 : 1 ≤ fl.length := hcx.1
    have hfl7 : fl.length ≤ 7 := hcx.2.1
    obtain ⟨L0, hL0⟩ : ∃ L0, merged R so = L0 := ⟨_, rfl⟩
    have hms := merged_snoc R so x
    rw [hL0] at hrow hbox hlen hms hG
    obtain ⟨P, hP⟩ : ∃ P, pairAt R x = P := ⟨_, rfl⟩
    rw [hP] at hms hsx hpl
    have HX := Go.Lib.hid (And.intro hbox (And.intro hrow (And.intro hG (And.intro hKR (And.intro hB (And.intro hms hsx))))))
    have hL7 : L0.length ≤ 56 := by omega
    have HLN := Go.Lib.hid hlen
    clear hbox hrow hG hKR hB hms hsx hcx hft hfl cc hsl hlen hL0 hP
    have h2n : 1 ≤ n - 1 - 1 := by omega
    gi_wp2_with fail
    refine ⟨trivial, ?_⟩
    gi_at_call 102
    refine (CallsIn.inRound l (callsIn_wide.2 CC.out)).mono ?_
    rintro e X1 ⟨g4, c4, rfl, ho4, hb4⟩
    have CS := Go.Lib.hid (sort_any fl g4 c4 X.heap.size X1 ho4 (by omega))
    have H4 := Go.Lib.hid (And.intro ho4 hb4)
    clear ho4 hb4 CC
    gi_wp2_with fail
    refine ⟨trivial, ?_⟩
    gi_at_call 103
    refine (CallsIn.inRound l (callsIn_wide.2 CS.out)).mono ?_
    rintro e X2 ⟨rfl, ho5, hg5⟩
    rw [HX.out.2.2.2.2.2.2] at ho5
    have hb5 : Below X.heap.size X X2 := Below.grown H4.out.2 hg5 H4.out.2.size (fun k hk => by cases hk; exact (own_block_lt H4.out.1 rfl).1)
    have hbox2 : Boxed X2 B3 24 (.slice va L0.length vc) := (hb5.block B3 HX.out.1.lt).trans HX.out.1
    have hc3 := hbox2.cell
    have H5 := Go.Lib.hid (And.intro ho5 hb5)
    have hszx := hb5.size
    clear ho5 hb5 hg5 hbox2 CS
    gi_wp2_with (gi_at_builtin; refine wpListIn_append_two _ rfl _ _ 24 rfl W.heap.size 3 i0 (.int .i64 0) 1 8 Tryz.underlying24 HI.out.1 HI.out.2.1 HI.out.2.2.1 HI.out.2.2.2 rfl (by decide) (.slice va L0.length vc) L0.length (vals L0) rfl (kept_call HX.out.2.1 H5.out.2) ⟨g4, 0, none⟩ fl.length c4 (vals P) rfl (by simp [hpl]) (fun j u hu => H5.out.1.cells (g := g4) rfl j u hu) (fun u hu => by obtain ⟨y, _, rfl⟩ := List.mem_map.1 hu; rfl) (by unfold maxLen; omega) (by omega) (by omega) ?_; intro v' w6 hown6 hgrow6 hnew6; obtain ⟨g6, c6, rfl⟩ := own_pos hown6 (by omega); have hre := round_end (D := Wl.heap.size) (lo := B3 + 1) (hi := Wl.heap.size) HX.out.1 HX.out.2.1 HX.out.2.2.1 (by omega) (by omega) hXs (by omega) H5.out.2 hown6 hgrow6 hnew6; have hc6 := hre.1; have hf6 := hre.2.1; have HR6 := Go.Lib.hid hre.2.2; clear hre hown6 hgrow6 hnew6)
    refine ⟨HR6.out.2.2.2.1, HR6.out.2.2.2.2.1, ⟨⟨_, ?_, ?_, HR6.out.2.2.1⟩, ?_⟩, HX.out.2.2.2.1.trans HR6.out.2.2.2.2.1, HX.out.2.2.2.2.1.trans HR6.out.2.2.2.2.2⟩
    · exact HR6.out.1
    · rw [HX.out.2.2.2.2.2.1, List.length_append, hpl]
      have e9 : vals (L0 ++ P) = vals L0 ++ vals P := List.map_append
      rw [e9]
      exact HR6.out.2.1
    · rw [HX.out.2.2.2.2.2.1, List.length_append, List.length_append, hpl]
      have := HLN.out
      simp
      omega
  case done =>
    rintro D ys X hD rfl ⟨⟨⟨v, hbox, hrow, hG⟩, hlen⟩, hKR, hB⟩ hK
    rw [merged_range, HM.out.2.2.1, HM.out.2.2.2] at hrow
    obtain ⟨g, c, rfl⟩ := own_pos hrow hm1
    have hc := hbox.cell
    have HF := Go.Lib.hid (And.intro hrow hB)
    clear hbox hrow hG hlen hKR hB
    gi_wp2
    refine ⟨by simp, .inl ⟨_, _, rfl, run_takeDeferred hK, ?_⟩⟩
    exact ⟨_, results_tmp rfl _ _ _, g, c, rfl, ownsRow_putObj HF.out.1 _ hK rfl, HL.out.2.trans (HF.out.2.trans (belowK_b (w := Wl) (by omega) X D _ _ (by omega) hK rfl rfl))⟩
  case stop =>
    rintro D c so X _ _ h _
    exact h.elim

theorem mergePass_any (zs : List Int) (hord : Ord zs) (W : World) (v : Value) (m : Nat) (hv : Sees W v m (vals zs)) :
    Calls Tryz.prog 80 #[v] W fun e w' => ∃ g c, e = .returned (.slice (some ⟨g, 0, none⟩) m c) ∧ w'.ownsRow W.heap.size 3 1 (.slice (some ⟨g, 0, none⟩) m c) m (vals (pass zs)) ∧ Below W.heap.size W w' :=
  callsIn_wide.1 (mergePass_in 3 (by omega) zs hord W v m hv)

end Go.Proofs.YtnhhnffolmgceabGreat.MergeIC

end

section
namespace Go.Proofs.YtnhhnffolmgceabGreat.PassIC
open Go.RowKit SeesC IntsC ExactC NumC IterC OrdMath InC OrderC OrdFacts ListsC QueM PassM SweepM RunIC PassSC MergeIC UntilC

theorem one_iota {zs : List Int} (h : Ord zs) : (rTo zs zs.length).length ≤ 1 ↔ zs = iota zs.length := by
  constructor
  · intro h1
    have h2 := rTo_flat zs zs.length (Nat.le_refl _)
    have h3 := (rTo_ok zs zs.length).2.2.2 (by have := h.1; omega)
    have h4 := run_asc h (i := 0) (by omega)
    obtain ⟨a, ha⟩ := List.length_eq_one_iff.1 (show (rTo zs zs.length).length = 1 by omega)
    rw [ha] at h2 h4
    rw [List.take_of_length_le (Nat.le_refl _)] at h2
    have h5 : a = zs := by simpa using h2
    subst h5
    exact sorted_is (ord_perm h) h4
  · intro h1
    rw [runs_one h]
    intro k hk
    have h2 : zs.Pairwise (· < ·) := by rw [h1]; exact iota_sorted _
    have := sorted_getD h2 (i := k) (j := k + 1) (by omega) hk
    omega

/-- So many passes. -/
def psN (zs : List Int) : Nat → List Int
  | 0 => zs
  | k + 1 => pass (psN zs k)

theorem psN_shift (zs : List Int) : ∀ k, psN (pass zs) k = psN zs (k + 1)
  | 0 => rfl
  | k + 1 => by show pass (psN (pass zs) k) = pass (psN zs (k + 1)); rw [psN_shift zs k]

theorem psN_ord {zs : List Int} (h : Ord zs) : ∀ k, Ord (psN zs k)
  | 0 => h
  | k + 1 => pass_ord (psN_ord h k)

theorem psN_len (zs : List Int) : ∀ k, (psN zs k).length = zs.length
  | 0 => rfl
  | k + 1 => by show (pass (psN zs k)).length = _; rw [pass_len, psN_len zs k]

theorem passes_is : ∀ (f : Nat) (zs : List Int), Ord zs → (rTo zs zs.length).length ≤ f + 1 → psN zs (passes f zs) = iota zs.length ∧ (∀ j, j < passes f zs → psN zs j ≠ iota zs.length) ∧ passes f zs ≤ f
  | 0, zs, ho, h => ⟨(one_iota ho).1 h, fun j hj => absurd hj (by simp [passes]), Nat.le_refl _⟩
  | f + 1, zs, ho, h => by
    unfold passes
    by_cases h1 : (rTo zs zs.length).length ≤ 1
    · rw [if_pos h1]
      exact ⟨(one_iota ho).1 h1, fun j hj => absurd hj (by omega), by omega⟩
    · rw [if_neg h1]
      have h3 := pass_less ho
      obtain ⟨i1, i2, i3⟩ := passes_is f (pass zs) (pass_ord ho) (by omega)
      rw [pass_len] at i1 i2
      refine ⟨by rw [← psN_shift]; exact i1, fun j hj => ?_, by omega⟩
      cases j with
      | zero => exact fun e => h1 ((one_iota ho).2 e)
      | succ j => rw [← psN_shift]; exact i2 j (by omega)

theorem mergeStep : StepTo pass 80 := fun ys ho W v n hv => mergePass_any ys ho W v n hv

set_option maxRecDepth 100000 in
theorem until_passes (zs : List Int) (hord : Ord zs) (W : World) (v : Value) (n : Nat) (hv : Sees W v n (vals zs)) :
    Calls Tryz.prog 79 #[v, .func (.func 80) #[] #[]] W fun e w' => e = .returned (.int .i64 ((passes 7 zs : Nat) : Int)) ∧ Below W.heap.size W w' := by
  have hl : zs.length = n := by simpa using hv.1
  have hm := passes_is 7 zs hord (by have := (rTo_ok zs zs.length).1; have := hord.2.1; omega)
  rw [hl] at hm
  exact until_any pass _ (fun _ _ => rfl) mergeStep (psN zs) n (passes 7 zs) (fun _ => rfl) (psN_ord hord) (fun k => by rw [psN_len, hl]) (by omega) ⟨hm.1, hm.2.1⟩ W v hv

set_option maxRecDepth 100000 in
set_option maxHeartbeats 1000000 in
theorem implPasses (zs : List Int) (r' : Int) (b : Bool) (h : passesAns zs = (r', b)) (hz : zs.length ≤ 1048576) (W : World) (v : Value) (n : Nat) (hv : Sees W v n (vals zs)) :
    Calls Tryz.prog 50 #[v] W fun e w' => e = .returned (.tuple #[.int .i64 r', .bool b]) ∧ Below W.heap.size W w' := by
  have hl : zs.length = n := by simpa using hv.1
  have hn : n ≤ 1048576 := by omega
  obtain ⟨r, hr⟩ : ∃ r, isOrd zs = r := ⟨_, rfl⟩
  have CO := Go.Lib.hid (fun W' (hs' : Sees W' v n (vals zs)) => implOrder_any W' v n zs r hs' hn hr)
  have HV := Go.Lib.hid hv
  unfold passesAns at h
  obtain ⟨_, ad, cap, rfl, _, _⟩ := hv
  cases r with
  | false =>
    rw [if_neg (by intro h1; unfold isOrd at hr; exact of_decide_eq_false hr h1)] at h
    cases h
    clear hr
    go_enter Tryz.func50, Tryz.ntmps50
    go_wp2_with fail
    refine (CO.out _ HV.out).mono ?_
    rintro e w1 ⟨rfl, hd⟩
    have HB1 : Hid (Below W.heap.size W w1) := Go.Lib.hid hd
    clear hd
    go_wp2_with fail
    go_ret2
    exact ⟨rfl, HB1.out⟩
  | true =>
    have hord : Ord zs := by unfold isOrd at hr; exact of_decide_eq_true hr
    rw [if_pos hord] at h
    cases h
    clear hr
    have CQ := Go.Lib.hid (fun W' (hs' : Sees W' (.slice ad n cap) n (vals zs)) => until_passes zs hord W' (.slice ad n cap) n hs')
    obtain ⟨M, hM⟩ : ∃ M, passes 7 zs = M := ⟨_, rfl⟩
    rw [hM] at CQ ⊢
    clear hM hl hn hz hord
    go_enter Tryz.func50, Tryz.ntmps50
    go_wp2_with fail
    refine (CO.out _ HV.out).mono ?_
    rintro e w1 ⟨rfl, hd⟩
    have HB1 : Hid (Below W.heap.size W w1) := Go.Lib.hid hd
    clear hd
    go_wp2_with fail
    refine (CQ.out _ (HV.out.grow HB1.out)).mono ?_
    rintro e w2 ⟨rfl, hb2⟩
    have H2 := Go.Lib.hid (HB1.out.trans (hb2.mono HB1.out.size))
    clear hb2
    go_wp2_with fail
    go_ret2
    exact ⟨rfl, H2.out⟩

end Go.Proofs.YtnhhnffolmgceabGreat.PassIC

end
