/-
  Contracts and plain facts that the laws' texts lean on. Conditions: as each states.
-/
import Derived.Test.YtnhhnffolmgceaaPz2
import Derived.Test.YtnhhnffolmgceaaPz22
import Derived.Test.YtnhhnffolmgceaaPz11
import Derived.StillTailTactics
import Derived.WalkSmall
import Derived.WalkMore
import Derived.Deep.Cut
import Derived.Test.YtnhhnffolmgceaaPz23

section
namespace Go.Proofs.Ytnhhnffolmgceaa.EPcC
open Go.RowKit SeesC IntsC ExactC NumC IterC OrdMath WordMath InC WordC RunC EPcM

set_option maxRecDepth 100000 in
theorem l1Least_two (j : Nat) (W : World) :
    Calls Try.prog 99 #[.int .i64 (j : Int), .int .i64 2] W fun e w' => e = .returned (.int .i64 ((min j 2 : Nat) : Int)) ∧ w' = W := by
  by_cases h : j < 2
  · have hi : (j : Int) < 2 := by omega
    have HM : Hid (min j 2 = j) := Go.Lib.hid (by omega)
    go_enter Try.func99, Try.ntmps99
    go_wp2
    go_ret
    exact ⟨by rw [HM.out]; rfl, rfl⟩
  · have hi : ¬ (j : Int) < 2 := by omega
    have HM : Hid (min j 2 = 2) := Go.Lib.hid (by omega)
    go_enter Try.func99, Try.ntmps99
    go_wp2
    go_ret
    exact ⟨by rw [HM.out]; rfl, rfl⟩

def nats (l : List Nat) : List Int := l.map Int.ofNat

/-- A row of N numbers of the call's own. -/
def Nr (W : World) (g N : Nat) (l : List Nat) (w : World) : Prop := l.length = N ∧ w.ownsRow W.heap.size 3 1 (.slice (some ⟨g, 0, none⟩) N N) N (vals (nats l))

section
variable {W : World} {g N : Nat} {l : List Nat} {w : World}
theorem Nr.cell (h : Nr W g N l w) {k : Nat} (hk : k < N) : w.cell? ⟨g, k, none⟩ = some (.int .i64 (l.getD k 0 : Nat)) := by
  rw [h.2.cellAt k (by omega)]
  have hk2 : k < l.length := by rw [h.1]; exact hk
  unfold vals nats
  rw [List.getElem?_map, List.getElem?_map, List.getElem?_eq_getElem hk2, List.getD_eq_getElem?_getD, List.getElem?_eq_getElem hk2]
  rfl

theorem Nr.set (h : Nr W g N l w) (k x : Nat) : Nr W g N (l.set k x) (w.setCell ⟨g, k, none⟩ (.int .i64 (x : Nat))) ∧ w.grownBy (w.setCell ⟨g, k, none⟩ (.int .i64 (x : Nat))) (some g) := by
  have hs := World.ownsRow.stored h.2 k (.int .i64 (x : Nat))
  refine ⟨⟨by rw [List.length_set]; exact h.1, ?_⟩, hs.2⟩
  have e : vals (nats (l.set k x)) = (vals (nats l)).set k (.int .i64 (x : Nat)) := by
    unfold vals nats
    rw [List.map_set, List.map_set]
    rfl
  rw [e]
  exact hs.1

theorem Nr.other {g' : Nat} {w' : World} (h : Nr W g N l w) (hg : w.grownBy w' (some g')) (hne : g ≠ g') : Nr W g N l w' :=
  ⟨h.1, own_mark h.2 hg (fun a ha e => by
    simp only [Value.ownBlock, Option.some.injEq] at ha e
    omega)⟩

theorem Nr.call {w' : World} (h : Nr W g N l w) (hb : Below w.heap.size w w') : Nr W g N l w' := ⟨h.1, kept_call h.2 hb⟩
theorem Nr.lt (h : Nr W g N l w) : W.heap.size ≤ g ∧ g < w.heap.size := h.2.lt g rfl
theorem Nr.frozen (h : Nr W g N l w) (k : Nat) : w.frozen? ⟨g, k, none⟩ = false := h.2.frozenAt k
end

theorem made_nats (N : Nat) : (madeCells (Value.int .i64 0).cells (N * 1)).toList = vals (nats (List.replicate N 0)) := by
  rw [made_int]
  unfold vals nats
  simp

/-- Two rows of the call's own. -/
def Two (W : World) (g g' N : Nat) (ws nx : List Nat) (w : World) : Prop := Nr W g N ws w ∧ Nr W g' N nx w ∧ Below W.heap.size W w ∧ g ≠ g'

theorem Two.set {W : World} {g g' N : Nat} {ws nx : List Nat} {w : World} (h : Two W g g' N ws nx w) (k x : Nat) : Two W g g' N ws (nx.set k x) (w.setCell ⟨g', k, none⟩ (.int .i64 (x : Nat))) :=
  ⟨h.1.other (h.2.1.set k x).2 h.2.2.2, (h.2.1.set k x).1, h.2.2.1.setCell (p := ⟨g', k, none⟩) h.2.1.lt.1 _, h.2.2.2⟩

theorem Two.drew {W : World} {g g' N : Nat} {ws nx : List Nat} {w : World} (h : Two W g g' N ws nx w) : Two W g g' N ws nx w.drew :=
  ⟨h.1, h.2.1, h.2.2.1.trans (Drawn.below (w' := w.drew) ⟨1, rfl⟩ _), h.2.2.2⟩

theorem stepJ_yes {ws nx : List Nat} {j : Nat} (h : j + 1 < ws.length) : stepJ ws nx j = if 0 < j then (nx.set (j + 1) (nx.getD (j + 1) 0 + ws.getD j 0)).set (j - 1) ((nx.set (j + 1) (nx.getD (j + 1) 0 + ws.getD j 0)).getD (j - 1) 0 + ws.getD j 0 * min j 2) else nx.set (j + 1) (nx.getD (j + 1) 0 + ws.getD j 0) := by
  unfold stepJ
  rw [if_pos h]
theorem stepJ_no {ws nx : List Nat} {j : Nat} (h : ¬ j + 1 < ws.length) : stepJ ws nx j = if 0 < j then nx.set (j - 1) (nx.getD (j - 1) 0 + ws.getD j 0 * min j 2) else nx := by
  unfold stepJ
  rw [if_neg h]

end Go.Proofs.Ytnhhnffolmgceaa.EPcC

end

section
namespace Go.Proofs.Ytnhhnffolmgceaa.LimEC
open Go.RowKit SeesC IntsC ExactC NumC IterC OrdMath WordMath InC WordC RunC EPcM EPcC LimW

/-- The row of ways, so many signs left. -/
def wyL (d i : Nat) : List Nat := (List.range (d + 1)).map (wy d i)
/-- The next row, filled so far. -/
def nxL (d i k : Nat) : List Nat := (List.range k).map (wy d (i + 1)) ++ List.replicate (d + 1 - k) 0

theorem wyL_len (d i : Nat) : (wyL d i).length = d + 1 := by simp [wyL]
theorem wyL_get {d i k : Nat} (hk : k ≤ d) : (wyL d i).getD k 0 = wy d i k := by
  unfold wyL
  rw [List.getD_eq_getElem?_getD, List.getElem?_map, List.getElem?_range (by omega)]
  rfl
theorem nxL_len {d i k : Nat} (hk : k ≤ d + 1) : (nxL d i k).length = d + 1 := by unfold nxL; simp; omega
theorem nxL_zero (d i : Nat) : nxL d i 0 = List.replicate (d + 1) 0 := by simp [nxL]
theorem nxL_end (d i : Nat) : nxL d i (d + 1) = wyL d (i + 1) := by simp [nxL, wyL]
theorem nxL_at {d i k : Nat} (hk : k ≤ d) : (nxL d i k).getD k 0 = 0 := by
  unfold nxL
  rw [List.getD_eq_getElem?_getD, List.getElem?_append_right (by simp), show d + 1 - k = (d - k) + 1 by omega, List.replicate_succ]
  simp
theorem nxL_next {d i k : Nat} (hk : k ≤ d) : (nxL d i k).set k (wy d (i + 1) k) = nxL d i (k + 1) := by
  unfold nxL
  have e : d + 1 - k = (d + 1 - (k + 1)) + 1 := by omega
  rw [List.set_append_right _ _ (by simp), e, List.replicate_succ, List.range_succ, List.map_append]
  simp
theorem wyL_zero (d : Nat) : wyL d 0 = (List.replicate (d + 1) 0).set 0 1 := by
  unfold wyL
  rw [List.range_succ_eq_map, List.map_cons, List.replicate_succ, List.set_cons_zero, List.map_map]
  congr 1
  apply List.ext_getElem
  · simp
  · intro j h1 h2
    simp [wy]
theorem set_set_same (l : List Nat) (k a b : Nat) : (l.set k a).set k b = l.set k b := by rw [List.set_set]

set_option maxRecDepth 100000 in
set_option maxHeartbeats 4000000 in
theorem l10Ends_any (q left K : Nat) (W : World) (hleft : left ≤ 14) (hK1 : 1 ≤ K) (hK7 : K ≤ 7) :
    Calls Try.prog 81 #[.int .i64 q, .int .i64 left, .int .i64 K] W fun e w' => e = .returned (.int .i64 ((lE K left q : Nat) : Int)) ∧ Below W.heap.size W w' := by
  obtain ⟨i0, hi, hz0, hz1, hz2⟩ := info_parts infoI
  obtain ⟨R, hR⟩ : ∃ R, lE K left q = R := ⟨_, rfl⟩
  have HR := Go.Lib.hid hR
  rw [hR]
  clear hR
  go_enter Try.func81, Try.ntmps81
  go_upto_region 2 with (at_make; refine wpList_make_full _ rfl _ _ 24 rfl W.heap.size 3 i0 (.int .i64 0) 1 Try.underlying24 hi hz0 hz1 .i64 .i64 (K + 1) (K + 1) (K + 1) rfl rfl rfl rfl (by rw [hz2]; omega) (by unfold maxLen; omega) (Nat.le_refl _) ?_; intro w2 hown2 hgrow2)
  rw [made_nats] at hown2
  have hb2 : Below W.heap.size W w2 := (Below.refl _ _).grown hgrow2 (Nat.le_refl _) (fun k hk => by cases hk)
  have hN0 : Nr W W.heap.size (K + 1) (List.replicate (K + 1) 0) w2 := ⟨by simp, hown2⟩
  obtain ⟨z0, hz0'⟩ : ∃ z0, w2.cell? ⟨W.heap.size, 0, none⟩ = some z0 := ⟨_, hN0.cell (k := 0) (by omega)⟩
  have hf0 := hN0.frozen 0
  have H0 : Hid (Nr W W.heap.size (K + 1) (wyL K 0) (w2.setCell ⟨W.heap.size, 0, none⟩ (.int .i64 1)) ∧ Below W.heap.size W (w2.setCell ⟨W.heap.size, 0, none⟩ (.int .i64 1))) := Go.Lib.hid ⟨by rw [wyL_zero]; exact (hN0.set 0 1).1, hb2.setCell (p := ⟨W.heap.size, 0, none⟩) (Nat.le_refl _) _⟩
  have hK0 : (0 : Int) < (K : Int) + 1 := by omega
  clear hown2 hgrow2 hb2 hN0
  go_wp2_with fail
  clear hz0' hf0
  go_loopw [7, 8] (fun wv iv wr => ∃ (i g : Nat), i ≤ left ∧ iv = .int .i64 i ∧ wv = .slice (some ⟨g, 0, none⟩) (K + 1) (K + 1) ∧ Hid (Nr W g (K + 1) (wyL K i) wr ∧ Below W.heap.size W wr)) (fun _ i _ => left - (intOf i).toNat)
  case atStart => exact ⟨0, W.heap.size, Nat.zero_le _, rfl, rfl, H0⟩
  case round =>
    obtain ⟨i, g, hiK, rfl, rfl, HX⟩ := hrel
    clear H0
    by_cases hlt : i < left
    · have hlti : (i : Int) < (left : Int) := by omega
      have hWs := HX.out.2.size
      go_upto_region 7 with (at_make; refine wpList_make_full _ rfl _ _ 24 rfl W.heap.size 3 i0 (.int .i64 0) 1 Try.underlying24 hi hz0 hz1 .i64 .i64 (K + 1) (K + 1) (K + 1) rfl rfl rfl rfl (by rw [hz2]; omega) (by unfold maxLen; omega) hWs ?_; intro w3 hown3 hgrow3)
      rw [made_nats] at hown3
      obtain ⟨ws, hws⟩ : ∃ ws, wyL K i = ws := ⟨_, rfl⟩
      have hgl := HX.out.1.lt
      have h3 : Two W g wr.heap.size (K + 1) ws (nxL K i 0) w3 := by
        refine ⟨?_, ⟨nxL_len (by omega), ?_⟩, HX.out.2.grown hgrow3 hWs (fun k hk => by cases hk), by omega⟩
        · rw [← hws]
          exact ⟨HX.out.1.1, own_mark HX.out.1.2 hgrow3 (fun a ha e => by cases e)⟩
        · rw [nxL_zero]
          exact hown3
      obtain ⟨g', hg'⟩ : ∃ g', wr.heap.size = g' := ⟨_, rfl⟩
      rw [hg'] at h3 ⊢
      have H3 := Go.Lib.hid h3
      have HWG : Hid (∀ k, k ≤ K → ws.getD k 0 = wy K i k) := Go.Lib.hid (fun k hk => by rw [← hws]; exact wyL_get hk)
      have HWB : Hid (∀ k, wy K i k ≤ 16384) := Go.Lib.hid (fun k => wy_16k (by omega))
      clear hown3 hgrow3 h3 hgl hg' hws
      go_wp2_with fail
      go_loopw [10] (fun kv wr => ∃ (k : Nat), k ≤ K + 1 ∧ kv = .int .i64 k ∧ Hid (Two W g g' (K + 1) ws (nxL K i k) wr)) (fun k _ => K + 1 - (intOf k).toNat)
      case atStart => exact ⟨0, Nat.zero_le _, rfl, H3⟩
      case round =>
        obtain ⟨k, hkK, rfl, HX⟩ := hrel
        clear H3
        by_cases hkk : k ≤ K
        · have hkki : (k : Int) ≤ (K : Int) := by omega
          have hk1 : (k : Int) < ((K + 1 : Nat) : Int) := by omega
          have hk1i : (k : Int) < (K : Int) + 1 := by omega
          obtain ⟨nx, hnx⟩ : ∃ nx, nxL K i k = nx := ⟨_, rfl⟩
          have HAT : nx.getD k 0 = 0 := by rw [← hnx]; exact nxL_at hkk
          have HNX : Hid (∀ z, z = wy K (i + 1) k → nx.set k z = nxL K i (k + 1)) := Go.Lib.hid (fun z e => by rw [← hnx, e]; exact nxL_next hkk)
          have HST : Hid (wy K (i + 1) k = (if 0 < k then wy K i (k - 1) else 0) + (if k < K then wy K i (k + 1) else 0)) := Go.Lib.hid rfl
          have HNL : Hid (nx.length = K + 1) := Go.Lib.hid (by rw [← hnx]; exact nxL_len (by omega))
          rw [hnx] at HX
          clear hnx
          obtain ⟨j1, hj1⟩ : ∃ j1, k + 1 = j1 := ⟨_, rfl⟩
          rw [hj1] at HST
          have HJ1 := Go.Lib.hid hj1
          have qj1 : IntKind.i64.wrap ((k : Int) + 1) = (j1 : Int) := by rw [IntWalk.i64_in _ (by omega)]; omega
          by_cases hk0 : 0 < k
          rotate_left
          · have HK0 : Hid (k = 0) := Go.Lib.hid (by omega)
            have hk0i : ¬ (0 : Int) < (k : Int) := by omega
            have hkl : k < K := by omega
            have hkli : (k : Int) < (K : Int) := by omega
            obtain ⟨y, hy⟩ : ∃ y, wy K i j1 = y := ⟨_, rfl⟩
            have hyb : y ≤ 16384 := by rw [← hy]; exact HWB.out _
            have HEE : Hid (nx.set k (0 + y) = nxL K i (k + 1)) := Go.Lib.hid (HNX.out _ (by rw [HST.out, if_neg hk0, if_pos hkl, hy]))
            have hj1i : (j1 : Int) < (K : Int) + 1 := by omega
            have hj1n : (j1 : Int) < ((K + 1 : Nat) : Int) := by omega
            have hj1K : j1 ≤ K := by omega
            clear hk0 hj1
            have c1 := HX.out.2.1.cell (k := k) (by omega)
            have c2 := HX.out.1.cell (k := j1) (by omega)
            rw [HAT] at c1
            rw [HWG.out j1 (by omega), hy] at c2
            have q2 : IntKind.i64.wrap (((0 : Nat) : Int) + (y : Int)) = ((0 + y : Nat) : Int) := by rw [IntWalk.i64_in _ (by omega)]; omega
            obtain ⟨wo, hwo⟩ : ∃ wo, wo = wr := ⟨_, rfl⟩
            subst hwo
            go_wp2_with fail
            refine wp_region_still_tail 13 (by kernel_rfl) (by kernel_rfl) ?_
            simp only [List.take_succ_cons, List.take_zero, List.drop_succ_cons, List.drop_zero]
            repeat still_step
            refine wpStill_nil ?_
            obtain ⟨W3, hW3⟩ : ∃ W3, wo.drew = W3 := ⟨_, rfl⟩
            have hW3' : ({ heap := wo.heap, tape := wo.tape, drawn := wo.drawn + 1, os := wo.os, output := wo.output } : World) = W3 := hW3
            rw [hW3']
            have H3 : Hid (Two W g g' (K + 1) ws nx W3) := Go.Lib.hid (by rw [← hW3]; exact HX.out.drew)
            have hf := H3.out.2.1.frozen k
            obtain ⟨z, hz⟩ : ∃ z, W3.cell? ⟨g', k, none⟩ = some z := ⟨_, H3.out.2.1.cell (k := k) (by omega)⟩
            have H4 : Hid (Two W g g' (K + 1) ws (nx.set k (0 + y)) (W3.setCell ⟨g', k, none⟩ (.int .i64 ((0 + y : Nat) : Int)))) := Go.Lib.hid (H3.out.set _ _)
            clear hW3 hW3' c1 c2
            go_wp2_with fail
            go_roundw
            case rel => exact ⟨k + 1, by omega, by first | rfl | go_num | (have := HJ1.out; congr 1; omega), Go.Lib.hid (by rw [← HEE.out]; first | exact H4.out | (have h := H4.out; simpa using h))⟩
            case measure => have := HJ1.out; simp [intOf]; omega
          · obtain ⟨k1, hk⟩ : ∃ k1, k1 + 1 = k := ⟨k - 1, by omega⟩
            have hk0i : (0 : Int) < (k : Int) := by omega
            obtain ⟨y, hy⟩ : ∃ y, wy K i k1 = y := ⟨_, rfl⟩
            have hyb : y ≤ 16384 := by rw [← hy]; exact HWB.out _
            have q1 : IntKind.i64.wrap ((k : Int) - 1) = (k1 : Int) := by rw [IntWalk.i64_in _ (by omega)]; omega
            have hj1i : (k1 : Int) < (K : Int) + 1 := by omega
            have hj1n : (k1 : Int) < ((K + 1 : Nat) : Int) := by omega
            have HK := Go.Lib.hid hk
            clear hk hk0 hj1
            have c1 := HX.out.2.1.cell (k := k) (by omega)
            have c2 := HX.out.1.cell (k := k1) (by have := HK.out; omega)
            rw [HAT] at c1
            rw [HWG.out k1 (by have := HK.out; omega), hy] at c2
            have q2 : IntKind.i64.wrap (((0 : Nat) : Int) + (y : Int)) = ((0 + y : Nat) : Int) := by rw [IntWalk.i64_in _ (by omega)]; omega
            obtain ⟨wo, hwo⟩ : ∃ wo, wo = wr := ⟨_, rfl⟩
            subst hwo
            go_wp2_with fail
            refine wp_region_still_tail 13 (by kernel_rfl) (by kernel_rfl) ?_
            simp only [List.take_succ_cons, List.take_zero, List.drop_succ_cons, List.drop_zero]
            repeat still_step
            refine wpStill_nil ?_
            obtain ⟨W3, hW3⟩ : ∃ W3, wo.drew = W3 := ⟨_, rfl⟩
            have hW3' : ({ heap := wo.heap, tape := wo.tape, drawn := wo.drawn + 1, os := wo.os, output := wo.output } : World) = W3 := hW3
            rw [hW3']
            have H3 : Hid (Two W g g' (K + 1) ws nx W3) := Go.Lib.hid (by rw [← hW3]; exact HX.out.drew)
            have hf := H3.out.2.1.frozen k
            obtain ⟨z, hz⟩ : ∃ z, W3.cell? ⟨g', k, none⟩ = some z := ⟨_, H3.out.2.1.cell (k := k) (by omega)⟩
            have H4 : Hid (Two W g g' (K + 1) ws (nx.set k (0 + y)) (W3.setCell ⟨g', k, none⟩ (.int .i64 ((0 + y : Nat) : Int)))) := Go.Lib.hid (H3.out.set _ _)
            clear hW3 hW3' c1 c2
            go_upto_region 12 with fail
            obtain ⟨wr, hwr⟩ : ∃ wr, W3.setCell ⟨g', k, none⟩ (.int .i64 ((0 + y : Nat) : Int)) = wr := ⟨_, rfl⟩
            rw [hwr] at H4
            (first | rw [hwr] | (have hwr2 : W3.setCell ⟨g', k, none⟩ (.int .i64 ((0 : Int) + (y : Int))) = wr := hwr; rw [hwr2]) | (have hwr2 : W3.setCell ⟨g', k, none⟩ (.int .i64 (y : Int)) = wr := by rw [← hwr, Nat.zero_add]); rw [hwr2])
            clear hwr hf hz H3 q2
            by_cases hkl : k < K
            · have hkli : (k : Int) < (K : Int) := by omega
              obtain ⟨nx2, hnx2⟩ : ∃ nx2, nx.set k (0 + y) = nx2 := ⟨_, rfl⟩
              have HAT2 : nx2.getD k 0 = 0 + y := by rw [← hnx2, List.getD_eq_getElem?_getD, List.getElem?_set_self (by rw [HNL.out]; omega), Option.getD_some]
              obtain ⟨u, hu⟩ : ∃ u, wy K i j1 = u := ⟨_, rfl⟩
              have hub : u ≤ 16384 := by rw [← hu]; exact HWB.out _
              have HEE : Hid (nx2.set k (0 + y + u) = nxL K i (k + 1)) := Go.Lib.hid (by rw [← hnx2, set_set_same]; exact HNX.out _ (by rw [HST.out, if_pos (by omega), if_pos hkl, show k - 1 = k1 by have := HK.out; omega, hy, hu]; omega))
              rw [hnx2] at H4
              have HX := H4
              have hj1K : j1 ≤ K := by have := HJ1.out; omega
              have hj2i : (j1 : Int) < (K : Int) + 1 := by omega
              have hj2n : (j1 : Int) < ((K + 1 : Nat) : Int) := by omega
              clear hnx2 H4 hy HAT
              have c1 := HX.out.2.1.cell (k := k) (by omega)
              have c2 := HX.out.1.cell (k := j1) (by omega)
              rw [HAT2] at c1
              rw [HWG.out j1 (by omega), hu] at c2
              have q2 : IntKind.i64.wrap (((0 + y : Nat) : Int) + (u : Int)) = ((0 + y + u : Nat) : Int) := by rw [IntWalk.i64_in _ (by omega)]; omega
              obtain ⟨wo, hwo⟩ : ∃ wo, wo = wr := ⟨_, rfl⟩
              subst hwo
              go_wp2_with fail
              refine wp_region_still_tail 13 (by kernel_rfl) (by kernel_rfl) ?_
              simp only [List.take_succ_cons, List.take_zero, List.drop_succ_cons, List.drop_zero]
              repeat still_step
              refine wpStill_nil ?_
              obtain ⟨W3, hW3⟩ : ∃ W3, wo.drew = W3 := ⟨_, rfl⟩
              have hW3' : ({ heap := wo.heap, tape := wo.tape, drawn := wo.drawn + 1, os := wo.os, output := wo.output } : World) = W3 := hW3
              rw [hW3']
              have H3 : Hid (Two W g g' (K + 1) ws nx2 W3) := Go.Lib.hid (by rw [← hW3]; exact HX.out.drew)
              have hf := H3.out.2.1.frozen k
              obtain ⟨z, hz⟩ : ∃ z, W3.cell? ⟨g', k, none⟩ = some z := ⟨_, H3.out.2.1.cell (k := k) (by omega)⟩
              have H4 : Hid (Two W g g' (K + 1) ws (nx2.set k (0 + y + u)) (W3.setCell ⟨g', k, none⟩ (.int .i64 ((0 + y + u : Nat) : Int)))) := Go.Lib.hid (H3.out.set _ _)
              clear hW3 hW3' c1 c2
              go_wp2_with fail
              go_roundw
              case rel => exact ⟨k + 1, by omega, by first | rfl | go_num | (have := HJ1.out; congr 1; omega), Go.Lib.hid (by rw [← HEE.out]; first | exact H4.out | (have h := H4.out; simpa using h))⟩
              case measure => have := HJ1.out; simp [intOf]; omega
            · have hkli : ¬ (k : Int) < (K : Int) := by omega
              have HEE : Hid (nx.set k (0 + y) = nxL K i (k + 1)) := Go.Lib.hid (HNX.out _ (by rw [HST.out, if_pos (by omega), if_neg hkl, show k - 1 = k1 by have := HK.out; omega, hy]; omega))
              go_wp2_with fail
              go_roundw
              case rel => exact ⟨k + 1, by omega, by first | rfl | go_num | (have := HJ1.out; congr 1; omega), Go.Lib.hid (by rw [← HEE.out]; first | exact H4.out | (have h := H4.out; simpa using h))⟩
              case measure => have := HJ1.out; simp [intOf]; omega
        · have hke : k = K + 1 := by omega
          subst hke
          have hkki : ¬ ((K + 1 : Nat) : Int) ≤ (K : Int) := by omega
          have H5 : Hid (Nr W g' (K + 1) (wyL K (i + 1)) wr ∧ Below W.heap.size W wr) := Go.Lib.hid ⟨by rw [← nxL_end]; exact HX.out.2.1, HX.out.2.2.1⟩
          go_wp2_with fail
          go_roundw
          case rel => exact ⟨i + 1, g', by omega, by go_num, rfl, H5⟩
          case measure => simp [intOf]; omega
    · have hie : i = left := by omega
      subst hie
      have hlti : ¬ (i : Int) < (i : Int) := by omega
      by_cases hq : K < q
      · have hqi : (K : Int) < (q : Int) := by omega
        have HZ : Hid (R = 0) := Go.Lib.hid (by rw [← HR.out]; unfold lE; rw [if_pos hq])
        go_wp2_with fail
        go_ret
        exact ⟨by rw [HZ.out]; rfl, HX.out.2⟩
      · have hqi : ¬ (K : Int) < (q : Int) := by omega
        have hck := HX.out.1.cell (k := q) (by omega)
        rw [wyL_get (by omega), show wy K i q = R by rw [← HR.out]; unfold lE; rw [if_neg hq]] at hck
        have hqi2 : (q : Int) < (K : Int) + 1 := by omega
        have hqi3 : (q : Int) < ((K + 1 : Nat) : Int) := by omega
        go_wp2_with fail
        go_ret
        exact ⟨rfl, HX.out.2⟩

end Go.Proofs.Ytnhhnffolmgceaa.LimEC

end
