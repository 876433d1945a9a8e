/-
  Contract: the model's l5Rises, by recursion. Conditions: an order.
-/
import Derived.Test.YteiocoahllnoeabRowsAny
import Derived.Test.YteiocoahllnoeabRiseM
import Derived.Test.YteiocoahllnoeabOwn1
import Derived.Test.YteiocoahllnoeabStepTwo
import Derived.Test.YteiocoahllnoeabSame
import Derived.Test.YteiocoahllnoeabRRV
import Derived.BigQuiet
import Derived.RangeFuncBox
import Derived.IntWalk
namespace Go.Proofs.Yteiocoahllnoeab.RisesSC
open Go.RowKit SeesC IntsC ExactC OrdMath InC OrderC CmpC ListsC ListsEC ListsFC ListsBC LLC AppendTwoC StepTwoC SameC Own1C RRVC RiseM RowsAnyC

theorem ext_len (rise : Bool) : ∀ (xs so : List Int), (ext rise so xs).length + 1 ≤ 2 ^ xs.length
  | [], so => by simp [ext]
  | x :: xs, so => by
    have h1 := ext_len rise xs (so ++ [x])
    have h2 := ext_len rise xs so
    rw [List.length_cons, Nat.pow_succ]
    unfold ext
    rw [List.length_append]
    split
    · rw [List.length_cons]; omega
    · simp; omega

theorem ext_next {rise : Bool} {so zs : List Int} {i : Nat} (h : i < zs.length) : ext rise so (zs.drop i) = (if okTo rise so (zs.getD i 0) then (so ++ [zs.getD i 0]) :: ext rise (so ++ [zs.getD i 0]) (zs.drop (i + 1)) else []) ++ ext rise so (zs.drop (i + 1)) := by
  have e : zs.getD i 0 = zs[i] := by simp [h]
  rw [List.drop_eq_getElem_cons h, e]
  rfl

theorem okTo_last {rise : Bool} {l : List Int} {x : Int} (h : 0 < l.length) : okTo rise l x = ok rise (l.getD (l.length - 1) 0) x := by
  have e : l.getLast? = some (l.getD (l.length - 1) 0) := by
    rw [List.getLast?_eq_getElem?, List.getElem?_eq_getElem (by omega)]; simp [show l.length - 1 < l.length by omega]
  unfold okTo
  rw [e]

theorem below_thru {w X Y : World} (h : Below w.heap.size w X) (k : Below X.heap.size X Y) : Below w.heap.size w Y := h.trans (k.mono h.size)

theorem below_size {w X : World} (h : Below w.heap.size w X) : w.heap.size ≤ X.heap.size := h.size

theorem app_one {rb : Nat} {wo wA w4 : World} {g3 c3 k : Nat} {v4 : Value} {l : List Int} {x : Int} {o : Obj} (h : w4.ownsRow rb 3 1 v4 (k + 1) (vals l ++ [.int .i64 x])) (ho : wA.ownsRow wo.heap.size 3 1 (.slice (some ⟨g3, 0, none⟩) k c3) k (vals l)) (hb : Below wo.heap.size wo wA) (hg : (wA.alloc o).grownBy w4 (Value.slice (some ⟨g3, 0, none⟩) k c3).ownBlock) :
    w4.ownsRow rb 3 1 v4 (k + 1) (vals (l ++ [x])) ∧ Below wo.heap.size wo w4 := by
  have e : vals (l ++ [x]) = vals l ++ [.int .i64 x] := List.map_append
  rw [e]
  exact ⟨h, (hb.alloc hb.size o).grown hg (by have := hb.size; simp; omega) (fun q hq => (own_block_lt ho hq).1)⟩

theorem app_one2 {rb : Nat} {wo wA w4 : World} {g3 c3 k : Nat} {v4 : Value} {l : List Int} {x : Int} (h : w4.ownsRow rb 3 1 v4 (k + 1) (vals l ++ [.int .i64 x])) (ho : wA.ownsRow wo.heap.size 3 1 (.slice (some ⟨g3, 0, none⟩) k c3) k (vals l)) (hb : Below wo.heap.size wo wA) (hg : wA.grownBy w4 (Value.slice (some ⟨g3, 0, none⟩) k c3).ownBlock) :
    w4.ownsRow rb 3 1 v4 (k + 1) (vals (l ++ [x])) ∧ Below wo.heap.size wo w4 := by
  have e : vals (l ++ [x]) = vals l ++ [.int .i64 x] := List.map_append
  rw [e]
  exact ⟨h, hb.grown hg hb.size (fun q hq => (own_block_lt ho hq).1)⟩

theorem new_cell_kept {X wA : World} {x : Int} (h : Below (X.alloc (.cells #[.int .i64 x] 3)).heap.size (X.alloc (.cells #[.int .i64 x] 3)) wA) : wA.cell? ⟨X.heap.size, 0, none⟩ = some (.int .i64 x) := by
  have hn := World.alloc_heap_new X (.cells #[.int .i64 x] 3)
  refine (h.cell (p := ⟨X.heap.size, 0, none⟩) (by simp)).trans ?_
  unfold World.cell?; simp only [hn]; rfl

theorem one_cell {w : World} {b : Nat} {x : Int} (h : w.cell? ⟨b, 0, none⟩ = some (.int .i64 x)) : ∀ (j : Nat) (u : Value), [Value.int .i64 x][j]? = some u → w.cell? ((⟨b, 0, none⟩ : Addr).add j) = some u := by
  intro j u hu
  have hj : j = 0 := by
    have := (List.getElem?_eq_some_iff.1 hu).1
    simp at this; omega
  subst hj
  cases hu
  exact h

theorem own_cell0 {w : World} {rb g c k j : Nat} {l : List Int} (h : w.ownsRow rb 3 1 (.slice (some ⟨g, 0, none⟩) k c) k (vals l)) (hj : j < k) : w.cell? ⟨g, 0 + j, none⟩ = some (.int .i64 (l.getD j 0)) := by
  obtain ⟨b, o, cap, e, _, hl, _, hc⟩ := sees_cells (Sees.owns h) (by omega)
  cases e
  exact hc j (by omega)

def RisesTo (zs : List Int) (rise : Bool) (n f : Nat) : Prop := ∀ (rb : Nat) (so : List Int) (g cp : Nat) (W : World) (v : Value), Sees W v n (vals zs) → so.Sublist (zs.take f) → rb ≤ W.heap.size → W.ownsRow rb 3 1 (.slice (some ⟨g, 0, none⟩) so.length cp) so.length (vals so) →
  Calls Try.prog 35 #[v, .slice (some ⟨g, 0, none⟩) so.length cp, .int .i64 (f : Int), .bool rise] W fun e w' => ∃ g2 c2, e = .returned (.slice (some ⟨g2, 0, none⟩) (so :: ext rise so (zs.drop f)).length c2) ∧ RowsAny w' W.heap.size rb (.slice (some ⟨g2, 0, none⟩) (so :: ext rise so (zs.drop f)).length c2) (so :: ext rise so (zs.drop f)) ∧ Below W.heap.size W w'

set_option maxRecDepth 100000 in
set_option maxHeartbeats 8000000 in
theorem rises_step_true (zs : List Int) (hord : Ord zs) (n : Nat) (hl : zs.length = n) (f : Nat) (hf : f ≤ n) (IH : ∀ f', f < f' → f' ≤ n → RisesTo zs true n f') : RisesTo zs true n f := by
  intro rb so g cp W v hv hsub hrb0 hso
  have hn7 : n ≤ 7 := by have := hord.2.1; omega
  have hn1 : 1 ≤ n := by have := hord.1; omega
  obtain ⟨i0, hi0, hz0, hz1, hz2⟩ := info_parts infoI
  obtain ⟨j0, hj, hy0, hy1, hy2⟩ := info_parts infoL
  have HI := Go.Lib.hid (And.intro hi0 (And.intro hz0 (And.intro hz1 hz2)))
  have HJ := Go.Lib.hid (And.intro hj (And.intro hy0 (And.intro hy1 hy2)))
  have hu2 := Try.underlying22
  have hu3 := Try.underlying33
  have IHH := Go.Lib.hid IH
  have HRB0 := Go.Lib.hid hrb0
  clear hrb0
  have HV := Go.Lib.hid hv
  obtain ⟨bo, oo, capo, rfl, _, _, hbo, hcell⟩ := sees_cells hv (by omega)
  have hlso : so.length ≤ 7 := by have := hsub.length_le; rw [List.length_take] at this; omega
  obtain ⟨l, hll⟩ : ∃ l, so.length = l := ⟨_, rfl⟩
  rw [hll] at hso hlso ⊢
  have hgW := (own_block_lt hso (q := g) rfl).2
  obtain ⟨L, hL⟩ : ∃ L, so :: ext true so (zs.drop f) = L := ⟨_, rfl⟩
  have hL128 : L.length ≤ 128 := by
    rw [← hL]
    have h1 := ext_len true (zs.drop f) so
    have h2 : 2 ^ (zs.drop f).length ≤ 2 ^ 7 := Nat.pow_le_pow_right (by omega) (by rw [List.length_drop]; omega)
    simp; omega
  obtain ⟨N0, hN0⟩ : ∃ N0, L.length = N0 := ⟨_, rfl⟩
  have HL := Go.Lib.hid (And.intro hL (And.intro hN0 (And.intro hll (And.intro hsub (And.intro hord hl)))))
  have HSO := Go.Lib.hid (And.intro hso hcell)
  have hnew := World.alloc_heap_new W (.cells #[.slice (some ⟨g, 0, none⟩) l cp] 22)
  have hb0 := (Below.refl W.heap.size W).alloc (Nat.le_refl _) (.cells #[.slice (some ⟨g, 0, none⟩) l cp] 22)
  have H0 : Hid (Hid ([so] ++ ext true so (zs.drop f) = L) ∧ (1 : Nat) = [so].length ∧ RowsAny (W.alloc (.cells #[.slice (some ⟨g, 0, none⟩) l cp] 22)) W.heap.size rb (.slice (some ⟨W.heap.size, 0, none⟩) 1 1) [so] ∧ Below W.heap.size W (W.alloc (.cells #[.slice (some ⟨g, 0, none⟩) l cp] 22))) :=
    Go.Lib.hid ⟨Go.Lib.hid hL, rfl, ⟨[.slice (some ⟨g, 0, none⟩) l cp], rfl, ⟨rfl, .inr ⟨W.heap.size, 1, #[.slice (some ⟨g, 0, none⟩) l cp], rfl, Nat.le_refl _, hnew, Nat.le_refl _, by unfold maxLen; omega, rfl, rfl⟩⟩, fun i hi => by
      have hi0 : i = 0 := by simp at hi; omega
      subst hi0
      show World.ownsRow _ _ _ _ (.slice (some ⟨g, 0, none⟩) l cp) so.length (vals so)
      rw [hll]
      exact kept_call hso hb0⟩, hb0⟩
  clear hL hN0 hsub hord hl hso hcell hnew hb0 IH hv hi0 hz0 hz1 hz2 hj hy0 hy1 hy2
  rw [HL.out.1, HL.out.2.1]
  go_enter Try.func35, Try.ntmps35
  go_wp2
  go_loopw [9, 10] (fun ov iv wr => ∃ (i g2 c2 N2 : Nat) (Y : List (List Int)), f ≤ i ∧ i ≤ n ∧ iv = .int .i64 i ∧ ov = .slice (some ⟨g2, 0, none⟩) N2 c2 ∧ Hid (Hid (Y ++ ext true so (zs.drop i) = L) ∧ N2 = Y.length ∧ RowsAny wr W.heap.size rb (.slice (some ⟨g2, 0, none⟩) N2 c2) Y ∧ Below W.heap.size W wr)) (fun _ iv _ => n - (intOf iv).toNat)
  case atStart => exact ⟨f, W.heap.size, 1, 1, [so], Nat.le_refl _, hf, rfl, rfl, H0⟩
  case round =>
    obtain ⟨i, g2, c2, N2, Y, hfi, hi, rfl, rfl, HX⟩ := hrel
    clear H0
    obtain ⟨wo, rfl⟩ : ∃ wo, wo = wr := ⟨_, rfl⟩
    by_cases hlt : i < n
    · obtain ⟨x, hx⟩ : ∃ x, zs.getD i 0 = x := ⟨_, rfl⟩
      have hckx : wo.cell? ⟨bo, oo + i, none⟩ = some (.int .i64 x) := by rw [← hx]; exact (HX.out.2.2.2.cell (p := ⟨bo, oo + i, none⟩) hbo).trans (HSO.out.2 i (by have := HL.out.2.2.2.2.2; omega))
      have hen := ext_next (rise := true) (so := so) (zs := zs) (i := i) (by have := HL.out.2.2.2.2.2; omega)
      rw [hx] at hen
      have hN2 : N2 ≤ 128 := by
        have h1 := congrArg List.length HX.out.1.out
        rw [List.length_append] at h1
        have h2 := HX.out.2.1
        have h3 := HL.out.2.1
        omega
      have hso2 := kept_call HSO.out.1 HX.out.2.2.2
      have hWw := HX.out.2.2.2.size
      have HRB : Hid (rb ≤ wo.heap.size) := Go.Lib.hid (Nat.le_trans HRB0.out hWw)
      have hsx : (so ++ [x]).Sublist (zs.take (i + 1)) := by
        have h1 := HL.out.2.2.2.1
        have h2 : zs.take (i + 1) = zs.take i ++ [x] := by
          rw [List.take_succ_eq_append_getElem (by have := HL.out.2.2.2.2.2; omega), ← hx]; simp [show i < zs.length by have := HL.out.2.2.2.2.2; omega]
        rw [h2]
        exact (h1.trans (List.take_sublist_take_left hfi)).append (List.Sublist.refl _)
      have hni : (i : Int) < (n : Int) := by omega
      have CO := Go.Lib.hid (fun (X : World) (hX : Below wo.heap.size wo X) => l1Own_any so g 0 l cp X HL.out.2.2.1 (by omega) (fun j hj => own_cell0 (kept_call hso2 hX) (by have := HL.out.2.2.1; omega)))
      obtain ⟨M, hM⟩ : ∃ M, (so ++ [x]) :: ext true (so ++ [x]) (zs.drop (i + 1)) = M := ⟨_, rfl⟩
      obtain ⟨q, hq⟩ : ∃ q, M.length = q := ⟨_, rfl⟩
      have hq1 : 1 ≤ q := by rw [← hq, ← hM]; simp
      have hq2 : q ≤ 128 := by
        rw [← hq, ← hM]
        have h1 := ext_len true (zs.drop (i + 1)) (so ++ [x])
        have h2 : 2 ^ (zs.drop (i + 1)).length ≤ 2 ^ 7 := Nat.pow_le_pow_right (by omega) (by rw [List.length_drop]; have := HL.out.2.2.2.2.2; omega)
        simp only [List.length_cons]; omega
      have ci := IHH.out (i + 1) (by omega) (by omega) rb
      unfold RisesTo at ci
      have ci2 := ci (so ++ [x])
      have hl1 : (so ++ [x]).length = l + 1 := by rw [List.length_append, HL.out.2.2.1]; rfl
      rw [hM, hl1, show ((i + 1 : Nat) : Int) = (i : Int) + 1 from by omega] at ci2
      have CI := Go.Lib.hid ci2
      have HVX := Go.Lib.hid (HV.out.grow HX.out.2.2.2)
      have hwi : IntKind.i64.wrap ((i : Int) + 1) = (i : Int) + 1 := IntWalk.i64_in _ (by omega)
      have HQ := Go.Lib.hid (And.intro hq (And.intro hl1 hM))
      clear ci ci2 hM hq hl1
      have HSX := Go.Lib.hid (And.intro hsx (And.intro hen HL.out.2.2.1))
      have HC5 : Hid (∀ X, Below wo.heap.size wo X → X.cell? ⟨bo, oo + i, none⟩ = some (.int .i64 x)) := Go.Lib.hid (fun X hX => (hX.cell (p := ⟨bo, oo + i, none⟩) (by show bo < _; omega)).trans hckx)
      clear hsx hen hx
      by_cases hl0 : l = 0
      · subst hl0
        have HOK : Hid (okTo true so x = true) := Go.Lib.hid (by
          have : so = [] := List.length_eq_zero_iff.1 HSX.out.2.2
          subst this; rfl)
        clear hso2
        go_wp2
        go_quiet (fail)
        go_wp2_with fail
        go_region_law (first
          | (refine step_append_two _ rfl (.tmp 42) (.tmp 47) 22 rfl rb 3 i0 (.int .i64 0) 1 8 hu2 HI.out.1 HI.out.2.1 HI.out.2.2.1 HI.out.2.2.2 rfl (by decide) (.slice (some ⟨g3, 0, none⟩) 0 c3) 0 (vals so) (by simp [Act.eval]) (World.ownsRow.alloc (own_lower HA.out.1 HRB.out) _) ⟨wA.heap.size, 0, none⟩ 1 1 [.int .i64 x] (by simp [Act.eval]) rfl (cell_one_new _ _ _) (fun u hu => by simp at hu; subst hu; rfl) (by unfold maxLen; omega) (by omega) (by have h1 := HRB.out; have h2 := HA.out.2.size; first | omega | (simp; omega)) ?_; intro v4 w4 hown4 hgrow4 hnew4; obtain ⟨g4, c4, hv4⟩ : ∃ g4 c4, v4 = .slice (some ⟨g4, 0, none⟩) 1 c4 := own_pos hown4 (by omega); subst hv4; have H4 := Go.Lib.hid (app_one hown4 HA.out.1 HA.out.2 hgrow4); have CIX := Go.Lib.hid (CI.out g4 c4 w4 _ (HVX.out.grow H4.out.2) HSX.out.1 (Nat.le_trans HRB.out H4.out.2.size) H4.out.1); clear hown4 hgrow4 hnew4)
          | (refine step_append_two _ rfl (.tmp 42) (.tmp 47) 22 rfl rb 3 i0 (.int .i64 0) 1 8 hu2 HI.out.1 HI.out.2.1 HI.out.2.2.1 HI.out.2.2.2 rfl (by decide) (.slice (some ⟨g3, 0, none⟩) 0 c3) 0 (vals so) (by simp [Act.eval]) (own_lower HA.out.1 HRB.out) ⟨wo.heap.size, 0, none⟩ 1 1 [.int .i64 x] (by simp [Act.eval]) rfl (one_cell hcN) (fun u hu => by simp at hu; subst hu; rfl) (by unfold maxLen; omega) (by omega) (by have h1 := HRB.out; have h2 := HA.out.2.size; first | omega | (simp; omega)) ?_; intro v4 w4 hown4 hgrow4 hnew4; obtain ⟨g4, c4, hv4⟩ : ∃ g4 c4, v4 = .slice (some ⟨g4, 0, none⟩) 1 c4 := own_pos hown4 (by omega); subst hv4; have H4 := Go.Lib.hid (app_one2 hown4 HA.out.1 HA.out.2 hgrow4); have CIX := Go.Lib.hid (CI.out g4 c4 w4 _ (HVX.out.grow H4.out.2) HSX.out.1 (Nat.le_trans HRB.out H4.out.2.size) H4.out.1); clear hown4 hgrow4 hnew4)
          | (refine step_append_two _ rfl (.tmp 39) (.tmp 52) 33 rfl W.heap.size 22 j0 (.slice none 0 0) 1 24 hu3 HJ.out.1 HJ.out.2.1 HJ.out.2.2.1 HJ.out.2.2.2 rfl (by decide) (.slice (some ⟨g2, 0, none⟩) N2 c2) N2 vs (by simp [Act.eval]) HV5.out.2.1 ⟨g5, 0, none⟩ q c5 us (by simp [Act.eval]) (by rw [HU5.out.1, HQ.out.1, Nat.mul_one]) (HU5.out.2.1.cells (g := g5) rfl) HU5.out.2.2.2 (by unfold maxLen; omega) (by omega) (by have := HB5.out.size; omega) ?_; intro v6 w6 hown6 hgrow6 hnew6; obtain ⟨g6, c6, hv6⟩ : ∃ g6 c6, v6 = .slice (some ⟨g6, 0, none⟩) (N2 + q) c6 := own_pos hown6 (by omega); subst hv6; have H6 := Go.Lib.hid (And.intro hown6 hgrow6); clear hown6 hgrow6 hnew6)
          | (go_simp; go_at_call 35; refine (CIX.out).mono ?_; rintro e w5 ⟨g5, c5, rfl, hR5, hb5⟩; have hbw5 := below_thru H4.out.2 hb5; obtain ⟨us, hu1, huo, hur⟩ := hR5; obtain ⟨vs, hv1, hvo, hvr⟩ := HX.out.2.2.1.kept hbw5; rw [← HX.out.2.1] at hvo; have HU5 := Go.Lib.hid (And.intro hu1 (And.intro huo (And.intro hur (rows_one us huo hur)))); have HV5 := Go.Lib.hid (And.intro hv1 (And.intro hvo hvr)); have HB5 := Go.Lib.hid hbw5; rw [HQ.out.1]; clear hu1 huo hur hv1 hvo hvr hbw5 hb5)
          | (go_simp; go_at_call 40; refine (CO.out _ (by first | exact (drawn_drew ((Drawn.refl _).next _)).below _ | exact (Drawn.refl wr).drew.below _ | exact ((drawn_drew ((Drawn.refl _).next _)).below _).alloc (by simp) _)).mono ?_; rintro e wA ⟨g3, c3, rfl, hoA, hbA⟩; (try have hcN : wA.cell? ⟨wo.heap.size, 0, none⟩ = some (.int .i64 x) := by have hz := new_cell_kept hbA; exact hz); have hbB := below_thru (by first | exact (drawn_drew ((Drawn.refl _).next _)).below _ | exact (Drawn.refl wr).drew.below _ | exact ((drawn_drew ((Drawn.refl _).next _)).below _).alloc (by simp) _) hbA; have hcA := HC5.out wA hbB; have HA := Go.Lib.hid (And.intro (own_lower hoA (below_size (by first | exact (drawn_drew ((Drawn.refl _).next _)).below _ | exact (Drawn.refl wr).drew.below _ | exact ((drawn_drew ((Drawn.refl _).next _)).below _).alloc (by simp) _))) hbB); clear hoA hbA hbB))
        all_goals
          have HN : Hid (Hid ((Y ++ M) ++ ext true so (zs.drop (i + 1)) = L) ∧ N2 + q = (Y ++ M).length ∧ RowsAny w6 W.heap.size rb (.slice (some ⟨g6, 0, none⟩) (N2 + q) c6) (Y ++ M) ∧ Below W.heap.size W w6) := Go.Lib.hid (by
            have h1 := HX.out.1.out
            rw [HSX.out.2.1, HOK.out, if_pos rfl, HQ.out.2.2, ← List.append_assoc] at h1
            have hYl := HX.out.2.1
            have h9 := HB5.out
            have hbW5 : Below W.heap.size W w5 := HX.out.2.2.2.trans (h9.mono hWw)
            refine ⟨Go.Lib.hid h1, by rw [List.length_append, ← hYl, HQ.out.1], ?_, hbW5.grown H6.out.2 hbW5.size (fun k hk => (own_block_lt HV5.out.2.1 hk).1)⟩
            refine RowsAny.cat (w := w5) (v := .slice (some ⟨g2, 0, none⟩) N2 c2) (vs := vs) (us := us) HV5.out.1 (by rw [← hYl]; exact HV5.out.2.1) HV5.out.2.2 HU5.out.1 HU5.out.2.2.1 (by rw [← hYl, HQ.out.1]; exact H6.out.1) H6.out.2)
          go_wp2
          go_roundw
          case rel => exact ⟨i + 1, g6, c6, N2 + q, Y ++ M, by omega, by omega, by go_num, by first | rfl | simp, HN⟩
          case measure => simp [intOf]; omega

      · obtain ⟨t, ht⟩ : ∃ t, l = t + 1 := ⟨l - 1, by omega⟩
        subst ht
        obtain ⟨y, hy⟩ : ∃ y, so.getD t 0 = y := ⟨_, rfl⟩
        have hcy : wo.cell? ⟨g, t, none⟩ = some (.int .i64 y) := by
          have h1 := own_cell0 (l := so) (k := t + 1) hso2 (j := t) (by omega)
          rw [hy, Nat.zero_add] at h1; exact h1
        have hxy : x ≠ y := by
          have h1 := HSX.out.1
          have h2 : (so ++ [x]).Nodup := (h1.trans (List.take_sublist _ _)).nodup HL.out.2.2.2.2.1.2.2.2
          rw [List.nodup_append] at h2
          intro e
          refine h2.2.2 y ?_ x (by simp) e.symm
          rw [← hy]
          have := HSX.out.2.2
          simp [show t < so.length by omega]
        have hok : okTo true so x = ok true y x := by
          have h1 := okTo_last (rise := true) (l := so) (x := x) (by have := HSX.out.2.2; omega)
          rw [HSX.out.2.2, Nat.add_sub_cancel, hy] at h1; exact h1
        by_cases hq : y < x
        · have HOK : Hid (okTo true so x = true) := Go.Lib.hid (by rw [hok]; simp [ok, hq])
          have hyx : y < x := by omega
          have hyd : decide (y < x) = true := by simp; omega
          have he0 : ((t : Int) + 1 == 0) = false := by rw [beq_eq_false_iff_ne]; omega
          clear hso2 hok hy hxy hq
          go_wp2
          go_quiet (fail)
          go_wp2_with fail
          go_region_law (first
            | (refine step_append_two _ rfl (.tmp 42) (.tmp 47) 22 rfl rb 3 i0 (.int .i64 0) 1 8 hu2 HI.out.1 HI.out.2.1 HI.out.2.2.1 HI.out.2.2.2 rfl (by decide) (.slice (some ⟨g3, 0, none⟩) (t + 1) c3) (t + 1) (vals so) (by simp [Act.eval]) (World.ownsRow.alloc (own_lower HA.out.1 HRB.out) _) ⟨wA.heap.size, 0, none⟩ 1 1 [.int .i64 x] (by simp [Act.eval]) rfl (cell_one_new _ _ _) (fun u hu => by simp at hu; subst hu; rfl) (by unfold maxLen; omega) (by omega) (by have h1 := HRB.out; have h2 := HA.out.2.size; first | omega | (simp; omega)) ?_; intro v4 w4 hown4 hgrow4 hnew4; obtain ⟨g4, c4, hv4⟩ : ∃ g4 c4, v4 = .slice (some ⟨g4, 0, none⟩) (t + 1 + 1) c4 := own_pos hown4 (by omega); subst hv4; have H4 := Go.Lib.hid (app_one hown4 HA.out.1 HA.out.2 hgrow4); have CIX := Go.Lib.hid (CI.out g4 c4 w4 _ (HVX.out.grow H4.out.2) HSX.out.1 (Nat.le_trans HRB.out H4.out.2.size) H4.out.1); clear hown4 hgrow4 hnew4)
            | (refine step_append_two _ rfl (.tmp 42) (.tmp 47) 22 rfl rb 3 i0 (.int .i64 0) 1 8 hu2 HI.out.1 HI.out.2.1 HI.out.2.2.1 HI.out.2.2.2 rfl (by decide) (.slice (some ⟨g3, 0, none⟩) (t + 1) c3) (t + 1) (vals so) (by simp [Act.eval]) (own_lower HA.out.1 HRB.out) ⟨wo.heap.size, 0, none⟩ 1 1 [.int .i64 x] (by simp [Act.eval]) rfl (one_cell hcN) (fun u hu => by simp at hu; subst hu; rfl) (by unfold maxLen; omega) (by omega) (by have h1 := HRB.out; have h2 := HA.out.2.size; first | omega | (simp; omega)) ?_; intro v4 w4 hown4 hgrow4 hnew4; obtain ⟨g4, c4, hv4⟩ : ∃ g4 c4, v4 = .slice (some ⟨g4, 0, none⟩) (t + 1 + 1) c4 := own_pos hown4 (by omega); subst hv4; have H4 := Go.Lib.hid (app_one2 hown4 HA.out.1 HA.out.2 hgrow4); have CIX := Go.Lib.hid (CI.out g4 c4 w4 _ (HVX.out.grow H4.out.2) HSX.out.1 (Nat.le_trans HRB.out H4.out.2.size) H4.out.1); clear hown4 hgrow4 hnew4)
            | (refine step_append_two _ rfl (.tmp 39) (.tmp 52) 33 rfl W.heap.size 22 j0 (.slice none 0 0) 1 24 hu3 HJ.out.1 HJ.out.2.1 HJ.out.2.2.1 HJ.out.2.2.2 rfl (by decide) (.slice (some ⟨g2, 0, none⟩) N2 c2) N2 vs (by simp [Act.eval]) HV5.out.2.1 ⟨g5, 0, none⟩ q c5 us (by simp [Act.eval]) (by rw [HU5.out.1, HQ.out.1, Nat.mul_one]) (HU5.out.2.1.cells (g := g5) rfl) HU5.out.2.2.2 (by unfold maxLen; omega) (by omega) (by have := HB5.out.size; omega) ?_; intro v6 w6 hown6 hgrow6 hnew6; obtain ⟨g6, c6, hv6⟩ : ∃ g6 c6, v6 = .slice (some ⟨g6, 0, none⟩) (N2 + q) c6 := own_pos hown6 (by omega); subst hv6; have H6 := Go.Lib.hid (And.intro hown6 hgrow6); clear hown6 hgrow6 hnew6)
            | (go_simp; go_at_call 35; refine (CIX.out).mono ?_; rintro e w5 ⟨g5, c5, rfl, hR5, hb5⟩; have hbw5 := below_thru H4.out.2 hb5; obtain ⟨us, hu1, huo, hur⟩ := hR5; obtain ⟨vs, hv1, hvo, hvr⟩ := HX.out.2.2.1.kept hbw5; rw [← HX.out.2.1] at hvo; have HU5 := Go.Lib.hid (And.intro hu1 (And.intro huo (And.intro hur (rows_one us huo hur)))); have HV5 := Go.Lib.hid (And.intro hv1 (And.intro hvo hvr)); have HB5 := Go.Lib.hid hbw5; rw [HQ.out.1]; clear hu1 huo hur hv1 hvo hvr hbw5 hb5)
            | (go_simp; go_at_call 40; refine (CO.out _ (by first | exact (drawn_drew ((Drawn.refl _).next _)).below _ | exact (Drawn.refl wr).drew.below _ | exact ((drawn_drew ((Drawn.refl _).next _)).below _).alloc (by simp) _)).mono ?_; rintro e wA ⟨g3, c3, rfl, hoA, hbA⟩; (try have hcN : wA.cell? ⟨wo.heap.size, 0, none⟩ = some (.int .i64 x) := by have hz := new_cell_kept hbA; exact hz); have hbB := below_thru (by first | exact (drawn_drew ((Drawn.refl _).next _)).below _ | exact (Drawn.refl wr).drew.below _ | exact ((drawn_drew ((Drawn.refl _).next _)).below _).alloc (by simp) _) hbA; have hcA := HC5.out wA hbB; have HA := Go.Lib.hid (And.intro (own_lower hoA (below_size (by first | exact (drawn_drew ((Drawn.refl _).next _)).below _ | exact (Drawn.refl wr).drew.below _ | exact ((drawn_drew ((Drawn.refl _).next _)).below _).alloc (by simp) _))) hbB); clear hoA hbA hbB))
          all_goals
            have HN : Hid (Hid ((Y ++ M) ++ ext true so (zs.drop (i + 1)) = L) ∧ N2 + q = (Y ++ M).length ∧ RowsAny w6 W.heap.size rb (.slice (some ⟨g6, 0, none⟩) (N2 + q) c6) (Y ++ M) ∧ Below W.heap.size W w6) := Go.Lib.hid (by
              have h1 := HX.out.1.out
              rw [HSX.out.2.1, HOK.out, if_pos rfl, HQ.out.2.2, ← List.append_assoc] at h1
              have hYl := HX.out.2.1
              have h9 := HB5.out
              have hbW5 : Below W.heap.size W w5 := HX.out.2.2.2.trans (h9.mono hWw)
              refine ⟨Go.Lib.hid h1, by rw [List.length_append, ← hYl, HQ.out.1], ?_, hbW5.grown H6.out.2 hbW5.size (fun k hk => (own_block_lt HV5.out.2.1 hk).1)⟩
              refine RowsAny.cat (w := w5) (v := .slice (some ⟨g2, 0, none⟩) N2 c2) (vs := vs) (us := us) HV5.out.1 (by rw [← hYl]; exact HV5.out.2.1) HV5.out.2.2 HU5.out.1 HU5.out.2.2.1 (by rw [← hYl, HQ.out.1]; exact H6.out.1) H6.out.2)
            go_wp2
            go_roundw
            case rel => exact ⟨i + 1, g6, c6, N2 + q, Y ++ M, by omega, by omega, by go_num, by first | rfl | simp, HN⟩
            case measure => simp [intOf]; omega

        · have HOK : Hid (okTo true so x = false) := Go.Lib.hid (by rw [hok]; simp [ok]; omega)
          have hyx : ¬ y < x := by omega
          have hyd : decide (y < x) = false := by simp; omega
          have he0 : ((t : Int) + 1 == 0) = false := by rw [beq_eq_false_iff_ne]; omega
          have HN : Hid (Y ++ ext true so (zs.drop (i + 1)) = L) := Go.Lib.hid (by
            have h1 := HX.out.1.out
            rw [HSX.out.2.1, HOK.out, if_neg (by decide), List.nil_append] at h1
            exact h1)
          clear hso2 hok hy hxy hq
          go_wp2
          go_quiet (fail)
          go_wp2
          go_roundw
          case rel => exact ⟨i + 1, g2, c2, N2, Y, by omega, by omega, by go_num, rfl, Go.Lib.hid ⟨HN, HX.out.2.1, HX.out.2.2.1.kept (((Drawn.refl wo).next _).below _), HX.out.2.2.2.trans (((Drawn.refl wo).next _).below _)⟩⟩
          case measure => simp [intOf]; omega
    · have hin : i = n := by omega
      subst hin
      have HF : Hid (Y = L ∧ N2 = N0) := Go.Lib.hid (by
        have h1 := HX.out.1.out
        rw [List.drop_of_length_le (by have := HL.out.2.2.2.2.2; omega)] at h1
        have h2 : Y = L := by rw [← h1]; simp [ext]
        exact ⟨h2, by rw [HX.out.2.1, h2, HL.out.2.1]⟩)
      have hii : ¬ (i : Int) < (i : Int) := by omega
      obtain rfl : N2 = N0 := HF.out.2
      go_wp2
      go_ret
      exact ⟨g2, c2, rfl, by rw [← HF.out.1]; exact HX.out.2.2.1, HX.out.2.2.2⟩

set_option maxRecDepth 100000 in
set_option maxHeartbeats 8000000 in
theorem rises_step_false (zs : List Int) (hord : Ord zs) (n : Nat) (hl : zs.length = n) (f : Nat) (hf : f ≤ n) (IH : ∀ f', f < f' → f' ≤ n → RisesTo zs false n f') : RisesTo zs false n f := by
  intro rb so g cp W v hv hsub hrb0 hso
  have hn7 : n ≤ 7 := by have := hord.2.1; omega
  have hn1 : 1 ≤ n := by have := hord.1; omega
  obtain ⟨i0, hi0, hz0, hz1, hz2⟩ := info_parts infoI
  obtain ⟨j0, hj, hy0, hy1, hy2⟩ := info_parts infoL
  have HI := Go.Lib.hid (And.intro hi0 (And.intro hz0 (And.intro hz1 hz2)))
  have HJ := Go.Lib.hid (And.intro hj (And.intro hy0 (And.intro hy1 hy2)))
  have hu2 := Try.underlying22
  have hu3 := Try.underlying33
  have IHH := Go.Lib.hid IH
  have HRB0 := Go.Lib.hid hrb0
  clear hrb0
  have HV := Go.Lib.hid hv
  obtain ⟨bo, oo, capo, rfl, _, _, hbo, hcell⟩ := sees_cells hv (by omega)
  have hlso : so.length ≤ 7 := by have := hsub.length_le; rw [List.length_take] at this; omega
  obtain ⟨l, hll⟩ : ∃ l, so.length = l := ⟨_, rfl⟩
  rw [hll] at hso hlso ⊢
  have hgW := (own_block_lt hso (q := g) rfl).2
  obtain ⟨L, hL⟩ : ∃ L, so :: ext false so (zs.drop f) = L := ⟨_, rfl⟩
  have hL128 : L.length ≤ 128 := by
    rw [← hL]
    have h1 := ext_len false (zs.drop f) so
    have h2 : 2 ^ (zs.drop f).length ≤ 2 ^ 7 := Nat.pow_le_pow_right (by omega) (by rw [List.length_drop]; omega)
    simp; omega
  obtain ⟨N0, hN0⟩ : ∃ N0, L.length = N0 := ⟨_, rfl⟩
  have HL := Go.Lib.hid (And.intro hL (And.intro hN0 (And.intro hll (And.intro hsub (And.intro hord hl)))))
  have HSO := Go.Lib.hid (And.intro hso hcell)
  have hnew := World.alloc_heap_new W (.cells #[.slice (some ⟨g, 0, none⟩) l cp] 22)
  have hb0 := (Below.refl W.heap.size W).alloc (Nat.le_refl _) (.cells #[.slice (some ⟨g, 0, none⟩) l cp] 22)
  have H0 : Hid (Hid ([so] ++ ext false so (zs.drop f) = L) ∧ (1 : Nat) = [so].length ∧ RowsAny (W.alloc (.cells #[.slice (some ⟨g, 0, none⟩) l cp] 22)) W.heap.size rb (.slice (some ⟨W.heap.size, 0, none⟩) 1 1) [so] ∧ Below W.heap.size W (W.alloc (.cells #[.slice (some ⟨g, 0, none⟩) l cp] 22))) :=
    Go.Lib.hid ⟨Go.Lib.hid hL, rfl, ⟨[.slice (some ⟨g, 0, none⟩) l cp], rfl, ⟨rfl, .inr ⟨W.heap.size, 1, #[.slice (some ⟨g, 0, none⟩) l cp], rfl, Nat.le_refl _, hnew, Nat.le_refl _, by unfold maxLen; omega, rfl, rfl⟩⟩, fun i hi => by
      have hi0 : i = 0 := by simp at hi; omega
      subst hi0
      show World.ownsRow _ _ _ _ (.slice (some ⟨g, 0, none⟩) l cp) so.length (vals so)
      rw [hll]
      exact kept_call hso hb0⟩, hb0⟩
  clear hL hN0 hsub hord hl hso hcell hnew hb0 IH hv hi0 hz0 hz1 hz2 hj hy0 hy1 hy2
  rw [HL.out.1, HL.out.2.1]
  go_enter Try.func35, Try.ntmps35
  go_wp2
  go_loopw [9, 10] (fun ov iv wr => ∃ (i g2 c2 N2 : Nat) (Y : List (List Int)), f ≤ i ∧ i ≤ n ∧ iv = .int .i64 i ∧ ov = .slice (some ⟨g2, 0, none⟩) N2 c2 ∧ Hid (Hid (Y ++ ext false so (zs.drop i) = L) ∧ N2 = Y.length ∧ RowsAny wr W.heap.size rb (.slice (some ⟨g2, 0, none⟩) N2 c2) Y ∧ Below W.heap.size W wr)) (fun _ iv _ => n - (intOf iv).toNat)
  case atStart => exact ⟨f, W.heap.size, 1, 1, [so], Nat.le_refl _, hf, rfl, rfl, H0⟩
  case round =>
    obtain ⟨i, g2, c2, N2, Y, hfi, hi, rfl, rfl, HX⟩ := hrel
    clear H0
    obtain ⟨wo, rfl⟩ : ∃ wo, wo = wr := ⟨_, rfl⟩
    by_cases hlt : i < n
    · obtain ⟨x, hx⟩ : ∃ x, zs.getD i 0 = x := ⟨_, rfl⟩
      have hckx : wo.cell? ⟨bo, oo + i, none⟩ = some (.int .i64 x) := by rw [← hx]; exact (HX.out.2.2.2.cell (p := ⟨bo, oo + i, none⟩) hbo).trans (HSO.out.2 i (by have := HL.out.2.2.2.2.2; omega))
      have hen := ext_next (rise := false) (so := so) (zs := zs) (i := i) (by have := HL.out.2.2.2.2.2; omega)
      rw [hx] at hen
      have hN2 : N2 ≤ 128 := by
        have h1 := congrArg List.length HX.out.1.out
        rw [List.length_append] at h1
        have h2 := HX.out.2.1
        have h3 := HL.out.2.1
        omega
      have hso2 := kept_call HSO.out.1 HX.out.2.2.2
      have hWw := HX.out.2.2.2.size
      have HRB : Hid (rb ≤ wo.heap.size) := Go.Lib.hid (Nat.le_trans HRB0.out hWw)
      have hsx : (so ++ [x]).Sublist (zs.take (i + 1)) := by
        have h1 := HL.out.2.2.2.1
        have h2 : zs.take (i + 1) = zs.take i ++ [x] := by
          rw [List.take_succ_eq_append_getElem (by have := HL.out.2.2.2.2.2; omega), ← hx]; simp [show i < zs.length by have := HL.out.2.2.2.2.2; omega]
        rw [h2]
        exact (h1.trans (List.take_sublist_take_left hfi)).append (List.Sublist.refl _)
      have hni : (i : Int) < (n : Int) := by omega
      have CO := Go.Lib.hid (fun (X : World) (hX : Below wo.heap.size wo X) => l1Own_any so g 0 l cp X HL.out.2.2.1 (by omega) (fun j hj => own_cell0 (kept_call hso2 hX) (by have := HL.out.2.2.1; omega)))
      obtain ⟨M, hM⟩ : ∃ M, (so ++ [x]) :: ext false (so ++ [x]) (zs.drop (i + 1)) = M := ⟨_, rfl⟩
      obtain ⟨q, hq⟩ : ∃ q, M.length = q := ⟨_, rfl⟩
      have hq1 : 1 ≤ q := by rw [← hq, ← hM]; simp
      have hq2 : q ≤ 128 := by
        rw [← hq, ← hM]
        have h1 := ext_len false (zs.drop (i + 1)) (so ++ [x])
        have h2 : 2 ^ (zs.drop (i + 1)).length ≤ 2 ^ 7 := Nat.pow_le_pow_right (by omega) (by rw [List.length_drop]; have := HL.out.2.2.2.2.2; omega)
        simp only [List.length_cons]; omega
      have ci := IHH.out (i + 1) (by omega) (by omega) rb
      unfold RisesTo at ci
      have ci2 := ci (so ++ [x])
      have hl1 : (so ++ [x]).length = l + 1 := by rw [List.length_append, HL.out.2.2.1]; rfl
      rw [hM, hl1, show ((i + 1 : Nat) : Int) = (i : Int) + 1 from by omega] at ci2
      have CI := Go.Lib.hid ci2
      have HVX := Go.Lib.hid (HV.out.grow HX.out.2.2.2)
      have hwi : IntKind.i64.wrap ((i : Int) + 1) = (i : Int) + 1 := IntWalk.i64_in _ (by omega)
      have HQ := Go.Lib.hid (And.intro hq (And.intro hl1 hM))
      clear ci ci2 hM hq hl1
      have HSX := Go.Lib.hid (And.intro hsx (And.intro hen HL.out.2.2.1))
      have HC5 : Hid (∀ X, Below wo.heap.size wo X → X.cell? ⟨bo, oo + i, none⟩ = some (.int .i64 x)) := Go.Lib.hid (fun X hX => (hX.cell (p := ⟨bo, oo + i, none⟩) (by show bo < _; omega)).trans hckx)
      clear hsx hen hx
      by_cases hl0 : l = 0
      · subst hl0
        have HOK : Hid (okTo false so x = true) := Go.Lib.hid (by
          have : so = [] := List.length_eq_zero_iff.1 HSX.out.2.2
          subst this; rfl)
        clear hso2
        go_wp2
        go_quiet (fail)
        go_wp2_with fail
        go_region_law (first
          | (refine step_append_two _ rfl (.tmp 42) (.tmp 47) 22 rfl rb 3 i0 (.int .i64 0) 1 8 hu2 HI.out.1 HI.out.2.1 HI.out.2.2.1 HI.out.2.2.2 rfl (by decide) (.slice (some ⟨g3, 0, none⟩) 0 c3) 0 (vals so) (by simp [Act.eval]) (World.ownsRow.alloc (own_lower HA.out.1 HRB.out) _) ⟨wA.heap.size, 0, none⟩ 1 1 [.int .i64 x] (by simp [Act.eval]) rfl (cell_one_new _ _ _) (fun u hu => by simp at hu; subst hu; rfl) (by unfold maxLen; omega) (by omega) (by have h1 := HRB.out; have h2 := HA.out.2.size; first | omega | (simp; omega)) ?_; intro v4 w4 hown4 hgrow4 hnew4; obtain ⟨g4, c4, hv4⟩ : ∃ g4 c4, v4 = .slice (some ⟨g4, 0, none⟩) 1 c4 := own_pos hown4 (by omega); subst hv4; have H4 := Go.Lib.hid (app_one hown4 HA.out.1 HA.out.2 hgrow4); have CIX := Go.Lib.hid (CI.out g4 c4 w4 _ (HVX.out.grow H4.out.2) HSX.out.1 (Nat.le_trans HRB.out H4.out.2.size) H4.out.1); clear hown4 hgrow4 hnew4)
          | (refine step_append_two _ rfl (.tmp 42) (.tmp 47) 22 rfl rb 3 i0 (.int .i64 0) 1 8 hu2 HI.out.1 HI.out.2.1 HI.out.2.2.1 HI.out.2.2.2 rfl (by decide) (.slice (some ⟨g3, 0, none⟩) 0 c3) 0 (vals so) (by simp [Act.eval]) (own_lower HA.out.1 HRB.out) ⟨wo.heap.size, 0, none⟩ 1 1 [.int .i64 x] (by simp [Act.eval]) rfl (one_cell hcN) (fun u hu => by simp at hu; subst hu; rfl) (by unfold maxLen; omega) (by omega) (by have h1 := HRB.out; have h2 := HA.out.2.size; first | omega | (simp; omega)) ?_; intro v4 w4 hown4 hgrow4 hnew4; obtain ⟨g4, c4, hv4⟩ : ∃ g4 c4, v4 = .slice (some ⟨g4, 0, none⟩) 1 c4 := own_pos hown4 (by omega); subst hv4; have H4 := Go.Lib.hid (app_one2 hown4 HA.out.1 HA.out.2 hgrow4); have CIX := Go.Lib.hid (CI.out g4 c4 w4 _ (HVX.out.grow H4.out.2) HSX.out.1 (Nat.le_trans HRB.out H4.out.2.size) H4.out.1); clear hown4 hgrow4 hnew4)
          | (refine step_append_two _ rfl (.tmp 39) (.tmp 52) 33 rfl W.heap.size 22 j0 (.slice none 0 0) 1 24 hu3 HJ.out.1 HJ.out.2.1 HJ.out.2.2.1 HJ.out.2.2.2 rfl (by decide) (.slice (some ⟨g2, 0, none⟩) N2 c2) N2 vs (by simp [Act.eval]) HV5.out.2.1 ⟨g5, 0, none⟩ q c5 us (by simp [Act.eval]) (by rw [HU5.out.1, HQ.out.1, Nat.mul_one]) (HU5.out.2.1.cells (g := g5) rfl) HU5.out.2.2.2 (by unfold maxLen; omega) (by omega) (by have := HB5.out.size; omega) ?_; intro v6 w6 hown6 hgrow6 hnew6; obtain ⟨g6, c6, hv6⟩ : ∃ g6 c6, v6 = .slice (some ⟨g6, 0, none⟩) (N2 + q) c6 := own_pos hown6 (by omega); subst hv6; have H6 := Go.Lib.hid (And.intro hown6 hgrow6); clear hown6 hgrow6 hnew6)
          | (go_simp; go_at_call 35; refine (CIX.out).mono ?_; rintro e w5 ⟨g5, c5, rfl, hR5, hb5⟩; have hbw5 := below_thru H4.out.2 hb5; obtain ⟨us, hu1, huo, hur⟩ := hR5; obtain ⟨vs, hv1, hvo, hvr⟩ := HX.out.2.2.1.kept hbw5; rw [← HX.out.2.1] at hvo; have HU5 := Go.Lib.hid (And.intro hu1 (And.intro huo (And.intro hur (rows_one us huo hur)))); have HV5 := Go.Lib.hid (And.intro hv1 (And.intro hvo hvr)); have HB5 := Go.Lib.hid hbw5; rw [HQ.out.1]; clear hu1 huo hur hv1 hvo hvr hbw5 hb5)
          | (go_simp; go_at_call 40; refine (CO.out _ (by first | exact (drawn_drew ((Drawn.refl _).next _)).below _ | exact (Drawn.refl wr).drew.below _ | exact ((drawn_drew ((Drawn.refl _).next _)).below _).alloc (by simp) _)).mono ?_; rintro e wA ⟨g3, c3, rfl, hoA, hbA⟩; (try have hcN : wA.cell? ⟨wo.heap.size, 0, none⟩ = some (.int .i64 x) := by have hz := new_cell_kept hbA; exact hz); have hbB := below_thru (by first | exact (drawn_drew ((Drawn.refl _).next _)).below _ | exact (Drawn.refl wr).drew.below _ | exact ((drawn_drew ((Drawn.refl _).next _)).below _).alloc (by simp) _) hbA; have hcA := HC5.out wA hbB; have HA := Go.Lib.hid (And.intro (own_lower hoA (below_size (by first | exact (drawn_drew ((Drawn.refl _).next _)).below _ | exact (Drawn.refl wr).drew.below _ | exact ((drawn_drew ((Drawn.refl _).next _)).below _).alloc (by simp) _))) hbB); clear hoA hbA hbB))
        all_goals
          have HN : Hid (Hid ((Y ++ M) ++ ext false so (zs.drop (i + 1)) = L) ∧ N2 + q = (Y ++ M).length ∧ RowsAny w6 W.heap.size rb (.slice (some ⟨g6, 0, none⟩) (N2 + q) c6) (Y ++ M) ∧ Below W.heap.size W w6) := Go.Lib.hid (by
            have h1 := HX.out.1.out
            rw [HSX.out.2.1, HOK.out, if_pos rfl, HQ.out.2.2, ← List.append_assoc] at h1
            have hYl := HX.out.2.1
            have h9 := HB5.out
            have hbW5 : Below W.heap.size W w5 := HX.out.2.2.2.trans (h9.mono hWw)
            refine ⟨Go.Lib.hid h1, by rw [List.length_append, ← hYl, HQ.out.1], ?_, hbW5.grown H6.out.2 hbW5.size (fun k hk => (own_block_lt HV5.out.2.1 hk).1)⟩
            refine RowsAny.cat (w := w5) (v := .slice (some ⟨g2, 0, none⟩) N2 c2) (vs := vs) (us := us) HV5.out.1 (by rw [← hYl]; exact HV5.out.2.1) HV5.out.2.2 HU5.out.1 HU5.out.2.2.1 (by rw [← hYl, HQ.out.1]; exact H6.out.1) H6.out.2)
          go_wp2
          go_roundw
          case rel => exact ⟨i + 1, g6, c6, N2 + q, Y ++ M, by omega, by omega, by go_num, by first | rfl | simp, HN⟩
          case measure => simp [intOf]; omega

      · obtain ⟨t, ht⟩ : ∃ t, l = t + 1 := ⟨l - 1, by omega⟩
        subst ht
        obtain ⟨y, hy⟩ : ∃ y, so.getD t 0 = y := ⟨_, rfl⟩
        have hcy : wo.cell? ⟨g, t, none⟩ = some (.int .i64 y) := by
          have h1 := own_cell0 (l := so) (k := t + 1) hso2 (j := t) (by omega)
          rw [hy, Nat.zero_add] at h1; exact h1
        have hxy : x ≠ y := by
          have h1 := HSX.out.1
          have h2 : (so ++ [x]).Nodup := (h1.trans (List.take_sublist _ _)).nodup HL.out.2.2.2.2.1.2.2.2
          rw [List.nodup_append] at h2
          intro e
          refine h2.2.2 y ?_ x (by simp) e.symm
          rw [← hy]
          have := HSX.out.2.2
          simp [show t < so.length by omega]
        have hok : okTo false so x = ok false y x := by
          have h1 := okTo_last (rise := false) (l := so) (x := x) (by have := HSX.out.2.2; omega)
          rw [HSX.out.2.2, Nat.add_sub_cancel, hy] at h1; exact h1
        by_cases hq : x < y
        · have HOK : Hid (okTo false so x = true) := Go.Lib.hid (by rw [hok]; simp [ok, hq])
          have hyx : ¬ y < x := by omega
          have hyd : decide (y < x) = false := by simp; omega
          have he0 : ((t : Int) + 1 == 0) = false := by rw [beq_eq_false_iff_ne]; omega
          clear hso2 hok hy hxy hq
          go_wp2
          go_quiet (fail)
          go_wp2_with fail
          go_region_law (first
            | (refine step_append_two _ rfl (.tmp 42) (.tmp 47) 22 rfl rb 3 i0 (.int .i64 0) 1 8 hu2 HI.out.1 HI.out.2.1 HI.out.2.2.1 HI.out.2.2.2 rfl (by decide) (.slice (some ⟨g3, 0, none⟩) (t + 1) c3) (t + 1) (vals so) (by simp [Act.eval]) (World.ownsRow.alloc (own_lower HA.out.1 HRB.out) _) ⟨wA.heap.size, 0, none⟩ 1 1 [.int .i64 x] (by simp [Act.eval]) rfl (cell_one_new _ _ _) (fun u hu => by simp at hu; subst hu; rfl) (by unfold maxLen; omega) (by omega) (by have h1 := HRB.out; have h2 := HA.out.2.size; first | omega | (simp; omega)) ?_; intro v4 w4 hown4 hgrow4 hnew4; obtain ⟨g4, c4, hv4⟩ : ∃ g4 c4, v4 = .slice (some ⟨g4, 0, none⟩) (t + 1 + 1) c4 := own_pos hown4 (by omega); subst hv4; have H4 := Go.Lib.hid (app_one hown4 HA.out.1 HA.out.2 hgrow4); have CIX := Go.Lib.hid (CI.out g4 c4 w4 _ (HVX.out.grow H4.out.2) HSX.out.1 (Nat.le_trans HRB.out H4.out.2.size) H4.out.1); clear hown4 hgrow4 hnew4)
            | (refine step_append_two _ rfl (.tmp 42) (.tmp 47) 22 rfl rb 3 i0 (.int .i64 0) 1 8 hu2 HI.out.1 HI.out.2.1 HI.out.2.2.1 HI.out.2.2.2 rfl (by decide) (.slice (some ⟨g3, 0, none⟩) (t + 1) c3) (t + 1) (vals so) (by simp [Act.eval]) (own_lower HA.out.1 HRB.out) ⟨wo.heap.size, 0, none⟩ 1 1 [.int .i64 x] (by simp [Act.eval]) rfl (one_cell hcN) (fun u hu => by simp at hu; subst hu; rfl) (by unfold maxLen; omega) (by omega) (by have h1 := HRB.out; have h2 := HA.out.2.size; first | omega | (simp; omega)) ?_; intro v4 w4 hown4 hgrow4 hnew4; obtain ⟨g4, c4, hv4⟩ : ∃ g4 c4, v4 = .slice (some ⟨g4, 0, none⟩) (t + 1 + 1) c4 := own_pos hown4 (by omega); subst hv4; have H4 := Go.Lib.hid (app_one2 hown4 HA.out.1 HA.out.2 hgrow4); have CIX := Go.Lib.hid (CI.out g4 c4 w4 _ (HVX.out.grow H4.out.2) HSX.out.1 (Nat.le_trans HRB.out H4.out.2.size) H4.out.1); clear hown4 hgrow4 hnew4)
            | (refine step_append_two _ rfl (.tmp 39) (.tmp 52) 33 rfl W.heap.size 22 j0 (.slice none 0 0) 1 24 hu3 HJ.out.1 HJ.out.2.1 HJ.out.2.2.1 HJ.out.2.2.2 rfl (by decide) (.slice (some ⟨g2, 0, none⟩) N2 c2) N2 vs (by simp [Act.eval]) HV5.out.2.1 ⟨g5, 0, none⟩ q c5 us (by simp [Act.eval]) (by rw [HU5.out.1, HQ.out.1, Nat.mul_one]) (HU5.out.2.1.cells (g := g5) rfl) HU5.out.2.2.2 (by unfold maxLen; omega) (by omega) (by have := HB5.out.size; omega) ?_; intro v6 w6 hown6 hgrow6 hnew6; obtain ⟨g6, c6, hv6⟩ : ∃ g6 c6, v6 = .slice (some ⟨g6, 0, none⟩) (N2 + q) c6 := own_pos hown6 (by omega); subst hv6; have H6 := Go.Lib.hid (And.intro hown6 hgrow6); clear hown6 hgrow6 hnew6)
            | (go_simp; go_at_call 35; refine (CIX.out).mono ?_; rintro e w5 ⟨g5, c5, rfl, hR5, hb5⟩; have hbw5 := below_thru H4.out.2 hb5; obtain ⟨us, hu1, huo, hur⟩ := hR5; obtain ⟨vs, hv1, hvo, hvr⟩ := HX.out.2.2.1.kept hbw5; rw [← HX.out.2.1] at hvo; have HU5 := Go.Lib.hid (And.intro hu1 (And.intro huo (And.intro hur (rows_one us huo hur)))); have HV5 := Go.Lib.hid (And.intro hv1 (And.intro hvo hvr)); have HB5 := Go.Lib.hid hbw5; rw [HQ.out.1]; clear hu1 huo hur hv1 hvo hvr hbw5 hb5)
            | (go_simp; go_at_call 40; refine (CO.out _ (by first | exact (drawn_drew ((Drawn.refl _).next _)).below _ | exact (Drawn.refl wr).drew.below _ | exact ((drawn_drew ((Drawn.refl _).next _)).below _).alloc (by simp) _)).mono ?_; rintro e wA ⟨g3, c3, rfl, hoA, hbA⟩; (try have hcN : wA.cell? ⟨wo.heap.size, 0, none⟩ = some (.int .i64 x) := by have hz := new_cell_kept hbA; exact hz); have hbB := below_thru (by first | exact (drawn_drew ((Drawn.refl _).next _)).below _ | exact (Drawn.refl wr).drew.below _ | exact ((drawn_drew ((Drawn.refl _).next _)).below _).alloc (by simp) _) hbA; have hcA := HC5.out wA hbB; have HA := Go.Lib.hid (And.intro (own_lower hoA (below_size (by first | exact (drawn_drew ((Drawn.refl _).next _)).below _ | exact (Drawn.refl wr).drew.below _ | exact ((drawn_drew ((Drawn.refl _).next _)).below _).alloc (by simp) _))) hbB); clear hoA hbA hbB))
          all_goals
            have HN : Hid (Hid ((Y ++ M) ++ ext false so (zs.drop (i + 1)) = L) ∧ N2 + q = (Y ++ M).length ∧ RowsAny w6 W.heap.size rb (.slice (some ⟨g6, 0, none⟩) (N2 + q) c6) (Y ++ M) ∧ Below W.heap.size W w6) := Go.Lib.hid (by
              have h1 := HX.out.1.out
              rw [HSX.out.2.1, HOK.out, if_pos rfl, HQ.out.2.2, ← List.append_assoc] at h1
              have hYl := HX.out.2.1
              have h9 := HB5.out
              have hbW5 : Below W.heap.size W w5 := HX.out.2.2.2.trans (h9.mono hWw)
              refine ⟨Go.Lib.hid h1, by rw [List.length_append, ← hYl, HQ.out.1], ?_, hbW5.grown H6.out.2 hbW5.size (fun k hk => (own_block_lt HV5.out.2.1 hk).1)⟩
              refine RowsAny.cat (w := w5) (v := .slice (some ⟨g2, 0, none⟩) N2 c2) (vs := vs) (us := us) HV5.out.1 (by rw [← hYl]; exact HV5.out.2.1) HV5.out.2.2 HU5.out.1 HU5.out.2.2.1 (by rw [← hYl, HQ.out.1]; exact H6.out.1) H6.out.2)
            go_wp2
            go_roundw
            case rel => exact ⟨i + 1, g6, c6, N2 + q, Y ++ M, by omega, by omega, by go_num, by first | rfl | simp, HN⟩
            case measure => simp [intOf]; omega

        · have HOK : Hid (okTo false so x = false) := Go.Lib.hid (by rw [hok]; simp [ok]; omega)
          have hyx : y < x := by omega
          have hyd : decide (y < x) = true := by simp; omega
          have he0 : ((t : Int) + 1 == 0) = false := by rw [beq_eq_false_iff_ne]; omega
          have HN : Hid (Y ++ ext false so (zs.drop (i + 1)) = L) := Go.Lib.hid (by
            have h1 := HX.out.1.out
            rw [HSX.out.2.1, HOK.out, if_neg (by decide), List.nil_append] at h1
            exact h1)
          clear hso2 hok hy hxy hq
          go_wp2
          go_quiet (fail)
          go_wp2
          go_roundw
          case rel => exact ⟨i + 1, g2, c2, N2, Y, by omega, by omega, by go_num, rfl, Go.Lib.hid ⟨HN, HX.out.2.1, HX.out.2.2.1.kept (((Drawn.refl wo).next _).below _), HX.out.2.2.2.trans (((Drawn.refl wo).next _).below _)⟩⟩
          case measure => simp [intOf]; omega
    · have hin : i = n := by omega
      subst hin
      have HF : Hid (Y = L ∧ N2 = N0) := Go.Lib.hid (by
        have h1 := HX.out.1.out
        rw [List.drop_of_length_le (by have := HL.out.2.2.2.2.2; omega)] at h1
        have h2 : Y = L := by rw [← h1]; simp [ext]
        exact ⟨h2, by rw [HX.out.2.1, h2, HL.out.2.1]⟩)
      have hii : ¬ (i : Int) < (i : Int) := by omega
      obtain rfl : N2 = N0 := HF.out.2
      go_wp2
      go_ret
      exact ⟨g2, c2, rfl, by rw [← HF.out.1]; exact HX.out.2.2.1, HX.out.2.2.2⟩

theorem rises_all (rise : Bool) (zs : List Int) (hord : Ord zs) (n : Nat) (hl : zs.length = n) : ∀ (k f : Nat), n - f ≤ k → f ≤ n → RisesTo zs rise n f
  | 0, f, h, hf => by
    cases rise
    · exact rises_step_false zs hord n hl f hf (fun f' h1 h2 => absurd h (by omega))
    · exact rises_step_true zs hord n hl f hf (fun f' h1 h2 => absurd h (by omega))
  | k + 1, f, h, hf => by
    have ih := rises_all rise zs hord n hl k
    cases rise
    · exact rises_step_false zs hord n hl f hf (fun f' h1 h2 => ih f' (by omega) h2)
    · exact rises_step_true zs hord n hl f hf (fun f' h1 h2 => ih f' (by omega) h2)

end Go.Proofs.Yteiocoahllnoeab.RisesSC
