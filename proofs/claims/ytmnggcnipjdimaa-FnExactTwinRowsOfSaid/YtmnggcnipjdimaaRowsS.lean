/-
  Contract: the model's rows and twin rows. Conditions: an order.
-/
import Derived.Test.YtmnggcnipjdimaaInsS
import Derived.Test.YtmnggcnipjdimaaRowsI
namespace Go.Proofs.Ytmnggcnipjdimaa.RowsSC
open Go.RowKit SeesC IntsC ExactC OrdMath InC OrderC ListsC ListsEC ListsFC LLC RagMarkC RagResC RRC AppendTwoC SameC QueM PassM RowsM RRVC PutBC InsNumC RowsIC InsSC

set_option maxRecDepth 100000 in
set_option maxHeartbeats 8000000 in
theorem l5Rows_any (zs : List Int) (hord : Ord zs) (W : World) (v : Value) (n : Nat) (hv : Sees W v n (vals zs)) :
    Calls Try.prog 87 #[v] W fun e w' => BothTo W e w' (pq zs n).1 (pq zs n).2 := by
  have hl : zs.length = n := by simpa using hv.1
  have hn7 : n ≤ 7 := by have := hord.2.1; omega
  have hn1 : 1 ≤ n := by have := hord.1; omega
  obtain ⟨i0, hi, hz0, hz1, hz2⟩ := info_parts infoI
  obtain ⟨j0, hj, hy0, hy1, hy2⟩ := info_parts ListsFC.infoL
  obtain ⟨b, o, cap2, rfl, _, _, hbl, hcell⟩ := sees_cells hv (by omega)
  have HC := Go.Lib.hid hcell
  have HL := Go.Lib.hid hl
  have hr0 : Hid (Rag ((W.alloc (.cells #[] 24)).alloc (.cells #[] 24)) W.heap.size (.slice (some ⟨W.heap.size, 0, none⟩) 0 0) [] ∧ Rag ((W.alloc (.cells #[] 24)).alloc (.cells #[] 24)) W.heap.size (.slice (some ⟨W.heap.size + 1, 0, none⟩) 0 0) [] ∧ Below W.heap.size W ((W.alloc (.cells #[] 24)).alloc (.cells #[] 24))) := Go.Lib.hid ⟨Rag.kept (rag_made W W.heap.size (Nat.le_refl _)) ((Below.refl _ _).alloc (Nat.le_refl _) _), by
    have h := rag_made (W.alloc (.cells #[] 24)) W.heap.size (by simp)
    rw [World.size_alloc] at h
    exact h, ((Below.refl _ _).alloc (Nat.le_refl _) _).alloc (by simp) _⟩
  clear hcell hl hv
  go_enter Try.func87, Try.ntmps87
  go_wp2
  go_loopw [4, 5, 6] (fun rv tv iv wr => ∃ (i N c N2 c2 : Nat) (a a2 : Option Addr) (P Q : List (List Int)), i ≤ n ∧ iv = .int .i64 i ∧ rv = .slice a N c ∧ tv = .slice a2 N2 c2 ∧ N ≤ 7 ∧ N2 ≤ 7 ∧ Hid (P = (pq zs i).1 ∧ Q = (pq zs i).2 ∧ P.length = N ∧ Q.length = N2 ∧ Rag wr W.heap.size (.slice a N c) P ∧ Rag wr W.heap.size (.slice a2 N2 c2) Q ∧ Below W.heap.size W wr)) (fun _ _ i _ => n - (intOf i).toNat)
  case atStart => exact ⟨0, 0, _, 0, _, _, _, [], [], Nat.zero_le _, rfl, rfl, rfl, by omega, by omega, Go.Lib.hid ⟨rfl, rfl, rfl, rfl, hr0.out.1, hr0.out.2.1, hr0.out.2.2⟩⟩
  case round =>
    obtain ⟨i, N, c, N2, c2, a, a2, P, Q, hin, rfl, rfl, rfl, hN7, hN27, HQ⟩ := hrel
    clear hr0
    by_cases hlt : i < n
    · have hck : wr.cell? ⟨b, o + i, none⟩ = some (.int .i64 (zs.getD i 0)) := (HQ.out.2.2.2.2.2.2.cell (p := ⟨b, o + i, none⟩) hbl).trans (HC.out i (by have := HL.out; omega))
      obtain ⟨x, hx⟩ : ∃ x, zs.getD i 0 = x := ⟨_, rfl⟩
      rw [hx] at hck
      have HX := Go.Lib.hid hx
      obtain ⟨wo, rfl⟩ : ∃ wo, wo = wr := ⟨_, rfl⟩
      have hok := pq_ok zs i
      rw [← HQ.out.1, ← HQ.out.2.1] at hok
      have HOK := Go.Lib.hid hok
      have CI := Go.Lib.hid (l5Insert_any P x wo _ W.heap.size HQ.out.2.2.2.2.1 (by rw [HQ.out.2.2.1]; omega) (by have := hok.2.1; omega))
      have hlti : (i : Int) < (n : Int) := by omega
      clear hx hok
      go_wp2_with fail
      refine (CI.out).mono ?_
      rintro e w2 ⟨a3, c3, rfl, hr2, hb2⟩
      have hins := insR_le P x
      obtain ⟨R, hR⟩ : ∃ R, (insR P x).1 = R := ⟨_, rfl⟩
      obtain ⟨k, hk⟩ : ∃ k, (insR P x).2 = k := ⟨_, rfl⟩
      rw [hR] at hr2
      rw [hR, hk] at hins
      obtain ⟨N3, hN3⟩ : ∃ N3, R.length = N3 := ⟨_, rfl⟩
      rw [hR, hk, hN3]
      rw [hN3] at hr2
      have hkQ : k ≤ N2 := by have h1 := hins.1; have h2 := HOK.out.2.2.2; have := HQ.out.2.2.2.1; omega
      have htot : tot Q ≤ 7 := by have := HOK.out.2.2.1; omega
      obtain ⟨gs, hgs⟩ := rrv_start (RagV.kept (Rag.ragv HQ.out.2.2.2.2.2.1) hb2)
      have hbase : W.heap.size ≤ w2.heap.size := Nat.le_trans HQ.out.2.2.2.2.2.2.size hb2.size
      have HG := Go.Lib.hid hgs
      have H2 := Go.Lib.hid (And.intro hr2 (And.intro hb2 (And.intro hR (And.intro hk (And.intro hN3 hins)))))
      clear hr2 hb2 hR hk hN3 hins hgs
      by_cases hkn : k < N2
      · obtain ⟨p, hp⟩ : ∃ p, gs.getD k (0, 0) = p := ⟨_, rfl⟩
        obtain ⟨r, hr⟩ : ∃ r, Q.getD k [] = r := ⟨_, rfl⟩
        obtain ⟨m, hm⟩ : ∃ m, r.length = m := ⟨_, rfl⟩
        obtain ⟨g, c', hgc⟩ := rr_slice HG.out.1 HQ.out.2.2.2.1 (by omega)
        cases hgc
        have hhd := HG.out.1.head HQ.out.2.2.2.1 hkn
        have hrow := HG.out.1.2.2.1 k (by have := HQ.out.2.2.2.1; omega)
        have hm7 := tot_row (L := Q) (i := k) (by have := HQ.out.2.2.2.1; omega)
        rw [hr, hm] at hm7
        rw [hp, hr, hm] at hhd hrow
        unfold sl at hrow
        have HO := Go.Lib.hid hrow
        have HP := Go.Lib.hid (And.intro hr (And.intro hm hp))
        obtain ⟨p1, p2⟩ := p
        simp only at hhd HO
        have hkni : ((k : Int) == (N2 : Int)) = false := by rw [beq_eq_false_iff_ne]; omega
        have hkli : (k : Int) < (N2 : Int) := by omega
        have HPUT : Hid (putL Q k ((i : Int) + 1) = Q.set k (r ++ [(i : Int) + 1])) := Go.Lib.hid (by unfold putL; rw [if_pos (by have := HQ.out.2.2.2.1; omega), HP.out.1])
        clear hp hr hm hrow
        go_wp2_with (at_builtin; refine wpList_append_two _ rfl _ _ 24 rfl W.heap.size 3 i0 (.int .i64 0) 1 8 Try.underlying24 hi hz0 hz1 hz2 rfl (by decide) (.slice (some ⟨p1, 0, none⟩) m p2) m (vals r) rfl (HO.out.alloc _) ⟨w2.heap.size, 0, none⟩ 1 1 [.int .i64 ((i : Int) + 1)] rfl rfl (cell_one_new _ _ _) (fun x hx => by simp at hx; subst hx; rfl) (by unfold maxLen; omega) (by omega) (by simp; omega) ?_; intro v' w4 hown4 hgrow4 hnew4; obtain ⟨g4, c4, rfl⟩ := ownsRow_succ hown4; obtain ⟨hH4, hc4, hf4⟩ := rrv_app (x := (i : Int) + 1) HQ.out.2.2.2.1 HG.out hkn HP.out.1 HP.out.2.1 hown4 (by rw [HP.out.2.2]; exact hgrow4) (by rw [HP.out.2.2]; exact hnew4); rw [HP.out.2.2] at hc4; have H4 := Go.Lib.hid hH4; clear hown4 hgrow4 hnew4 hH4)
        have hpq : R = (pq zs (i + 1)).1 ∧ putL Q k ((i : Int) + 1) = (pq zs (i + 1)).2 := by
          show R = (insR (pq zs i).1 (zs.getD i 0)).1 ∧ _ = putL (pq zs i).2 (insR (pq zs i).1 (zs.getD i 0)).2 ((i : Int) + 1)
          rw [← HQ.out.1, ← HQ.out.2.1, HX.out, H2.out.2.2.1, H2.out.2.2.2.1]
          exact ⟨rfl, rfl⟩
        have hok2 := pq_ok zs (i + 1)
        rw [← hpq.1, ← hpq.2, H2.out.2.2.2.2.1] at hok2
        have hNE : (putL Q k ((i : Int) + 1)).length = N2 := by rw [HPUT.out, List.length_set]; exact HQ.out.2.2.2.1
        rw [hNE] at hok2
        have h37 : N3 ≤ 7 := by omega
        have h57 : N2 ≤ 7 := by omega
        have H5 : Hid (R = (pq zs (i + 1)).1 ∧ putL Q k ((i : Int) + 1) = (pq zs (i + 1)).2 ∧ R.length = N3 ∧ (putL Q k ((i : Int) + 1)).length = N2 ∧ Rag (w4.setCell ⟨g, k, none⟩ (.slice (some ⟨g4, 0, none⟩) (m + 1) c4)) W.heap.size (.slice a3 N3 c3) R ∧ Rag (w4.setCell ⟨g, k, none⟩ (.slice (some ⟨g4, 0, none⟩) (m + 1) c4)) W.heap.size (.slice (some ⟨g, 0, none⟩) N2 c2) (putL Q k ((i : Int) + 1)) ∧ Below W.heap.size W (w4.setCell ⟨g, k, none⟩ (.slice (some ⟨g4, 0, none⟩) (m + 1) c4))) :=
          Go.Lib.hid ⟨hpq.1, hpq.2, H2.out.2.2.2.2.1, hNE, Rag.lower (rag_of_mid H2.out.1 H4.out.rag.2 (Nat.le_refl _)) HQ.out.2.2.2.2.2.2.size, by rw [HPUT.out]; exact H4.out.rag.1, HQ.out.2.2.2.2.2.2.trans ((H2.out.2.1.mono HQ.out.2.2.2.2.2.2.size).trans (H4.out.rag.2.below (Below.refl _ _) (Nat.le_refl _) (Nat.le_trans HQ.out.2.2.2.2.2.2.size H2.out.2.1.size)))⟩
        clear hpq hok2 hNE
        go_wp2
        go_roundw
        case rel => exact ⟨i + 1, N3, c3, N2, c2, a3, some ⟨g, 0, none⟩, R, _, by omega, by go_num, rfl, rfl, h37, h57, H5⟩
        case measure => simp [intOf]; omega
      · obtain rfl : k = N2 := by omega
        have HO := Go.Lib.hid (rr_append HG.out.1 HQ.out.2.2.2.1)
        have hkni : ((k : Int) == (k : Int)) = true := by simp
        have HPUT : Hid (putL Q k ((i : Int) + 1) = (Q ++ [[]]).set k ([] ++ [(i : Int) + 1])) := Go.Lib.hid (by
          unfold putL; rw [if_neg (by have := HQ.out.2.2.2.1; omega), ← HQ.out.2.2.2.1, List.set_append_right _ _ (Nat.le_refl _)]; simp)
        go_wp2_with (first
          | (at_builtin; have hX := H3; refine wpList_append_two _ rfl _ _ 24 rfl W.heap.size 3 i0 (.int .i64 0) 1 8 Try.underlying24 hi hz0 hz1 hz2 rfl (by decide) (.slice (some ⟨w2.heap.size, 0, none⟩) 0 0) 0 [] rfl (HO3.out.alloc _) ⟨w3.heap.size, 0, none⟩ 1 1 [.int .i64 ((i : Int) + 1)] rfl rfl (cell_one_new _ _ _) (fun x hx => by simp at hx; subst hx; rfl) (by unfold maxLen; omega) (by omega) (by have := H3.out.2.2.2.size; simp; omega) ?_; intro v' w4 hown4 hgrow4 hnew4; obtain ⟨g4, c4, rfl⟩ := ownsRow_succ hown4; obtain ⟨hH4, hc4, hf4⟩ := rrv_app (x := (i : Int) + 1) (r := []) (m := 0) HL3.out.1 H3.out (by omega) HL3.out.2.1 rfl hown4 (by rw [HL3.out.2.2]; exact hgrow4) (by rw [HL3.out.2.2]; exact hnew4); rw [HL3.out.2.2] at hc4; have H4 := Go.Lib.hid hH4; clear hown4 hgrow4 hnew4 hH4)
          | (at_builtin; refine wpList_append_two _ rfl _ _ 31 rfl W.heap.size 24 j0 (.slice none 0 0) 1 24 Try.underlying31 hj hy0 hy1 hy2 rfl (by decide) (.slice a2 k c2) k (rowsOf Q gs) rfl (HO.out _ _) ⟨w2.heap.size + 1, 0, none⟩ 1 1 [.slice (some ⟨w2.heap.size, 0, none⟩) 0 0] rfl rfl (cell_two_new _ _ _ _ _ rfl) (fun x hx => by simp at hx; subst hx; rfl) (by unfold maxLen; omega) (by omega) (by simp; omega) ?_; intro v' w3 hown3 hgrow3 hnew3; obtain ⟨g3, c3', rfl⟩ := ownsRow_succ hown3; have hH3 := rrv_new HQ.out.2.2.2.1 HG.out hbase hown3 hgrow3 hnew3; have H3 := Go.Lib.hid hH3; have HL3 : Hid ((Q ++ [[]]).length = k + 1 ∧ (Q ++ [[]]).getD k [] = [] ∧ (gs ++ [(w2.heap.size, 0)]).getD k (0, 0) = (w2.heap.size, 0)) := Go.Lib.hid ⟨by simp [HQ.out.2.2.2.1], by rw [← HQ.out.2.2.2.1, RRC.getD_cat_r], by rw [← HQ.out.2.2.2.1, ← HG.out.1.1, RRC.getD_cat_r]⟩; have hc3 := hH3.1.head HL3.out.1 (show k < k + 1 by omega); rw [HL3.out.2.1, HL3.out.2.2] at hc3; have HO3 : Hid (w3.ownsRow W.heap.size 3 1 (.slice (some ⟨w2.heap.size, 0, none⟩) 0 0) 0 []) := Go.Lib.hid (by have h := hH3.1.2.2.1 k (by rw [HL3.out.1]; omega); rw [HL3.out.2.1, HL3.out.2.2] at h; exact h); clear hown3 hgrow3 hnew3 hH3))
        have hpq : R = (pq zs (i + 1)).1 ∧ putL Q k ((i : Int) + 1) = (pq zs (i + 1)).2 := by
          show R = (insR (pq zs i).1 (zs.getD i 0)).1 ∧ _ = putL (pq zs i).2 (insR (pq zs i).1 (zs.getD i 0)).2 ((i : Int) + 1)
          rw [← HQ.out.1, ← HQ.out.2.1, HX.out, H2.out.2.2.1, H2.out.2.2.2.1]
          exact ⟨rfl, rfl⟩
        have hok2 := pq_ok zs (i + 1)
        rw [← hpq.1, ← hpq.2, H2.out.2.2.2.2.1] at hok2
        have hNE : (putL Q k ((i : Int) + 1)).length = (k + 1) := by rw [HPUT.out, List.length_set]; exact HL3.out.1
        rw [hNE] at hok2
        have h37 : N3 ≤ 7 := by omega
        have h57 : (k + 1) ≤ 7 := by omega
        have H5 : Hid (R = (pq zs (i + 1)).1 ∧ putL Q k ((i : Int) + 1) = (pq zs (i + 1)).2 ∧ R.length = N3 ∧ (putL Q k ((i : Int) + 1)).length = (k + 1) ∧ Rag (w4.setCell ⟨g3, k, none⟩ (.slice (some ⟨g4, 0, none⟩) (0 + 1) c4)) W.heap.size (.slice a3 N3 c3) R ∧ Rag (w4.setCell ⟨g3, k, none⟩ (.slice (some ⟨g4, 0, none⟩) (0 + 1) c4)) W.heap.size (.slice (some ⟨g3, 0, none⟩) (k + 1) c3') (putL Q k ((i : Int) + 1)) ∧ Below W.heap.size W (w4.setCell ⟨g3, k, none⟩ (.slice (some ⟨g4, 0, none⟩) (0 + 1) c4))) :=
          Go.Lib.hid ⟨hpq.1, hpq.2, H2.out.2.2.2.2.1, hNE, Rag.lower (rag_of_mid H2.out.1 H4.out.rag.2 (Nat.le_refl _)) HQ.out.2.2.2.2.2.2.size, by rw [HPUT.out]; exact H4.out.rag.1, HQ.out.2.2.2.2.2.2.trans ((H2.out.2.1.mono HQ.out.2.2.2.2.2.2.size).trans (H4.out.rag.2.below (Below.refl _ _) (Nat.le_refl _) (Nat.le_trans HQ.out.2.2.2.2.2.2.size H2.out.2.1.size)))⟩
        clear hpq hok2 hNE
        go_wp2
        go_roundw
        case rel => exact ⟨i + 1, N3, c3, (k + 1), c3', a3, some ⟨g3, 0, none⟩, R, _, by omega, by go_num, rfl, rfl, h37, h57, H5⟩
        case measure => simp [intOf]; omega
    · have hie : i = n := by omega
      subst hie
      have HF := Go.Lib.hid (both_of HQ.out.2.2.2.2.1 HQ.out.2.2.2.2.2.1 HQ.out.2.2.2.2.2.2 HQ.out.2.2.1 HQ.out.2.2.2.1 HQ.out.1 HQ.out.2.1)
      go_wp2
      go_ret2
      exact HF.out

end Go.Proofs.Ytmnggcnipjdimaa.RowsSC
