/-
  Contract: the program lists all cuts. Conditions: n in 1..7.
-/
import Derived.Test.YtecbfoodkcgehaaCopyRows
import Derived.Test.YtecbfoodkcgehaaShl
namespace Go.Proofs.Ytecbfoodkcgehaa.AllCutsC
open Go.RowKit SeesC IntsC ExactC OrdMath ListsC ListsEC ListsFC LLC RagMarkC RagResC RRC RRVC CopyRowsC CutsM CutAtM ShlC

theorem cr_put {w wr w2 : World} {L : List (List Int)} {N k g m c : Nat} {gs : List (Nat × Nat)} (h : CR w L N k gs wr) (hk : k < N) (hm : (L.getD k []).length = m)
    (ho : w2.ownsRow wr.heap.size 3 1 (.slice (some ⟨g, 0, none⟩) m c) m (vals (L.getD k []))) (hb : Below wr.heap.size wr w2) :
    (∃ uu, w2.cell? ⟨w.heap.size, k, none⟩ = some uu) ∧ w2.frozen? ⟨w.heap.size, k, none⟩ = false ∧ CR w L N (k + 1) (gs ++ [(g, c)]) (w2.setCell ⟨w.heap.size, k, none⟩ (.slice (some ⟨g, 0, none⟩) m c)) := by
  obtain ⟨h1, h2, h3, h4, h5, h6⟩ := h
  have hgl := own_block_lt ho (q := g) rfl
  have hout := kept_call h2 hb
  have hst := hout.stored k (.slice (some ⟨g, 0, none⟩) m c)
  have hrl : (rowsTo L gs k).length = k := by simp [rowsTo]
  have e2 := rows_set (rowsTo L gs k) k N (.slice (some ⟨g, 0, none⟩) m c) (.slice none 0 0) hrl hk
  have e3 := rowsTo_next L gs (g, c) k h1
  have e4 : sl (L.getD k []).length (g, c) = .slice (some ⟨g, 0, none⟩) m c := by rw [hm]; rfl
  rw [e4] at e3
  rw [e2, ← e3] at hst
  have hb2 : Below w.heap.size w w2 := h3.trans (hb.mono h3.size)
  have hsz := hb.size
  refine ⟨⟨_, (hout.cellAt k (by omega)).trans (List.getElem?_eq_getElem (by simp [hrl]; omega))⟩, hout.frozenAt k, by rw [List.length_append, h1]; rfl, hst.1, hb2.setCell (p := ⟨w.heap.size, k, none⟩) (Nat.le_refl _) _, ?_, ?_, ?_⟩
  · intro i hi
    by_cases hik : i < k
    · have e5 : (gs ++ [(g, c)]).getD i (0, 0) = gs.getD i (0, 0) := RRC.getD_cat_l (by omega)
      rw [e5]
      have h7 := kept_call (h4 i hik) hb
      exact own_mark h7 hst.2 (fun a ha e => own_types hout h7 (by decide) (by show some w.heap.size = some a; exact e) ha)
    · have e6 : i = k := by omega
      subst e6
      have e5 : (gs ++ [(g, c)]).getD i (0, 0) = (g, c) := by rw [← h1, RRC.getD_cat_r]
      rw [e5, hm]
      exact own_lower (own_mark ho hst.2 (fun a ha e => own_types hout ho (by decide) (by show some w.heap.size = some a; exact e) ha)) h3.size
  · rw [List.map_append, List.nodup_append]
    refine ⟨h5, by simp, ?_⟩
    intro x hx y hy e
    simp at hy
    subst hy
    obtain ⟨r, hr, rfl⟩ := List.mem_map.1 hx
    obtain ⟨i, hi, hir⟩ := List.mem_iff_getElem.1 hr
    have h7 := own_block_lt (h4 i (by omega)) (q := (gs.getD i (0, 0)).1) rfl
    have h8 : gs.getD i (0, 0) = r := by rw [← hir]; simp [hi]
    rw [h8] at h7
    omega
  · have a2 := (World.grownBy.size hst.2)
    omega

set_option maxRecDepth 100000 in
set_option maxHeartbeats 2000000 in
theorem allCuts_any (n : Nat) (h1 : 1 ≤ n) (h7 : n ≤ 7) (w : World) :
    Calls Try.prog 93 #[.int .i64 (n : Int)] w fun e w' => ∃ g, e = .returned (.slice (some ⟨g, 0, none⟩) (allC n).length (allC n).length) ∧ Rag w' w.heap.size (.slice (some ⟨g, 0, none⟩) (allC n).length (allC n).length) (allC n) ∧ Below w.heap.size w w' := by
  obtain ⟨j0, hj, hy0, hy1, hy2⟩ := info_parts ListsFC.infoL
  obtain ⟨N, hN⟩ : ∃ N, (allC n).length = N := ⟨_, rfl⟩
  have hp : 2 ^ (n - 1) = N := by rw [← hN, allC_len]
  have hN64 : N ≤ 64 := by rw [← hp]; exact Nat.pow_le_pow_right (n := 2) (by omega) (show n - 1 ≤ 6 by omega)
  have C1 := Go.Lib.hid (countCuts_any n N h1 h7 hp w)
  have CA := Go.Lib.hid (fun (k : Nat) (hk : k < N) (X : World) => cutsAt_any n k h1 h7 (by omega) X)
  have HL : Hid ((allC n).length = N ∧ ∀ k, k < N → (allC n).getD k [] = atC n k) := Go.Lib.hid ⟨hN, fun k hk => allC_at (by rw [hp]; exact hk)⟩
  rw [hN]
  clear hp hN
  go_enter Try.func93, Try.ntmps93
  go_wp2_with fail
  refine (C1.out).mono ?_
  rintro e wq ⟨rfl, hwq⟩
  obtain rfl : w = wq := hwq
  go_wp2_with (at_make; refine wpList_make_full _ rfl _ _ 52 rfl w.heap.size 24 j0 (.slice none 0 0) 1 Try.underlying52 hj hy0 hy1 .i64 .i64 N N N rfl rfl rfl rfl (by rw [hy2]; omega) (by unfold maxLen; omega) (Nat.le_refl _) ?_; intro w1 hown1 hgrow1; clear hj hy0 hy1 hy2)
  have hb1 : Below w.heap.size w w1 := (Below.refl _ _).grown hgrow1 (Nat.le_refl _) (fun k hk => by cases hk)
  rw [made_nil] at hown1
  have H1 : Hid (CR w (allC n) N 0 [] w1) := Go.Lib.hid ⟨rfl, hown1, hb1, fun i hi => absurd hi (by omega), by simp, (own_block_lt hown1 (q := w.heap.size) rfl).2⟩
  clear hown1 hgrow1 hb1
  go_loopw [10] (fun iv wr => ∃ (k : Nat) (gs : List (Nat × Nat)), k ≤ N ∧ iv = .int .i64 k ∧ Hid (CR w (allC n) N k gs wr)) (fun i _ => N - (intOf i).toNat)
  case atStart => exact ⟨0, [], Nat.zero_le _, rfl, H1⟩
  case round =>
    obtain ⟨k, gs, hk, rfl, HX⟩ := hrel
    clear H1
    obtain ⟨wo, rfl⟩ : ∃ wo, wo = wr := ⟨_, rfl⟩
    by_cases hlt : k < N
    · have CK := Go.Lib.hid (CA.out k hlt wo)
      have hkN : (k : Int) < (N : Int) := by omega
      go_wp2_with fail
      refine (CK.out).mono ?_
      rintro e w2 ⟨g, c, m, rfl, hm, ho, hb⟩
      have hpt := cr_put (g := g) (m := m) (c := c) HX.out hlt (by rw [HL.out.2 k hlt]; exact hm.symm) (by rw [HL.out.2 k hlt]; exact ho) hb
      obtain ⟨⟨uu, hu⟩, hf, h4⟩ := hpt
      have H4 := Go.Lib.hid h4
      clear h4 ho hb hm
      go_wp2
      go_roundw
      case rel => exact ⟨k + 1, _, by omega, by go_num, H4⟩
      case measure => simp [intOf]; omega
    · have hkn : k = N := by omega
      subst hkn
      have HF : Hid (Rag wo w.heap.size (.slice (some ⟨w.heap.size, 0, none⟩) k k) (allC n) ∧ Below w.heap.size w wo) := Go.Lib.hid ⟨⟨gs, by rw [HX.out.1, HL.out.1], by
        have h1 := HX.out.2.1
        rw [Nat.sub_self, List.replicate_zero, List.append_nil] at h1
        rw [HL.out.1]
        exact h1, fun i hi => HX.out.2.2.2.1 i (by rw [HL.out.1] at hi; exact hi), HX.out.2.2.2.2.1⟩, HX.out.2.2.1⟩
      have hkN : ¬ (k : Int) < (k : Int) := by omega
      go_wp2
      go_ret
      exact ⟨_, rfl, HF.out.1, HF.out.2⟩

end Go.Proofs.Ytecbfoodkcgehaa.AllCutsC
