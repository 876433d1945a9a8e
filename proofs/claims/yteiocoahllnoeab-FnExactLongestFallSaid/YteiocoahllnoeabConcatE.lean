/-
  Contract: slices.Concat of rows some of which may hold nothing. Conditions: each row has memory; at least one number, at most 2^20 numbers together.
-/
import Derived.Test.YteiocoahllnoeabConcatC
namespace Go.Proofs.Yteiocoahllnoeab.ConcatEC
open Go.RowKit SeesC IntsC ExactC OrdMath InC OrderC ListsC ListsEC ListsFC LLC QueM PassM RowsM AreM AreSC AreIC ConcatC

set_option maxRecDepth 100000 in
set_option maxHeartbeats 8000000 in
theorem concatE_any (L : List (List Int)) (W : World) (v : Value) (hv : SeesLL W v L) (hN : L.length + tot L ≤ 1048576) (hpos : ∀ (b o : Nat) (u : Option Addr) (m c1 : Nat), v.ownBlock = some b → W.cell? ⟨b, o, none⟩ = some (.slice u m c1) → ∃ b2 o2, u = some ⟨b2, o2, none⟩) (h0 : 0 < tot L) :
    Calls Try.prog 38 #[v] W fun e w' => ∃ g c, e = .returned (.slice (some ⟨g, 0, none⟩) (tot L) c) ∧ w'.ownsRow W.heap.size 3 1 (.slice (some ⟨g, 0, none⟩) (tot L) c) (tot L) (vals L.flatten) ∧ Below W.heap.size W w' := by
  obtain ⟨i0, hi0, hz0, hz1, hz2⟩ := info_parts infoI
  obtain ⟨a, c, rfl⟩ := hv.value
  obtain ⟨N, hLN⟩ : ∃ N, L.length = N := ⟨_, rfl⟩
  obtain ⟨S, hS⟩ : ∃ S, tot L = S := ⟨_, rfl⟩
  rw [hLN] at hv hN ⊢
  rw [hS] at hN h0 ⊢
  have HV := Go.Lib.hid (And.intro hv (And.intro hLN (And.intro hS hpos)))
  have hNm : N ≤ 1048576 := by omega
  have hSm : S ≤ 1048576 := by omega
  have CG := Go.Lib.hid (grow_any S W h0 hSm)
  clear hv hLN hN hS hpos
  go_enter Try.func38, Try.ntmps38
  go_wp2
  go_loopw [3, 11] (fun sv iv wr => ∃ i s : Nat, i ≤ N ∧ iv = .int .i64 i ∧ sv = .int .i64 s ∧ s ≤ S ∧ wr = W ∧ Hid (s = tot (L.take i))) (fun _ i _ => N - (intOf i).toNat)
  case atStart => exact ⟨0, 0, Nat.zero_le _, rfl, rfl, Nat.zero_le _, by first | rfl | trivial, Go.Lib.hid rfl⟩
  case round =>
    obtain ⟨i, s, hiN, rfl, rfl, hsS, hw, HX⟩ := hrel
    subst hw
    by_cases hlt : i < N
    · obtain ⟨b, o, u, c1, rfl, hck, _⟩ := HV.out.1.at HV.out.2.1 hlt
      obtain ⟨m, hm⟩ : ∃ m, (L.getD i []).length = m := ⟨_, rfl⟩
      rw [hm] at hck
      have hnx : s + m = tot (L.take (i + 1)) := by rw [HX.out, tot_next (by have := HV.out.2.1; omega), hm]
      have hle : s + m ≤ S := by have h1 := tot_take L (i + 1); have h2 := HV.out.2.2.1; omega
      have HNX := Go.Lib.hid hnx
      have hii : (i : Int) < (N : Int) := by omega
      have hsd : decide ((s : Int) + (m : Int) < 0) = false := decide_eq_false (by omega)
      clear hnx hm
      go_wp2
      go_roundw
      case rel => exact ⟨i + 1, s + m, by omega, by go_num, by go_num, hle, by first | rfl | trivial, HNX⟩
      case measure => simp [intOf]; omega
    · obtain rfl : i = N := by omega
      obtain rfl : s = S := by have h := HX.out; rw [List.take_of_length_le (by have := HV.out.2.1; omega)] at h; have := HV.out.2.2.1; omega
      obtain ⟨W0, rfl⟩ : ∃ W0, W0 = wr := ⟨_, rfl⟩
      go_wp2_with fail
      refine (CG.out).mono ?_
      rintro e w2 ⟨cg, rfl, ho2, hb2⟩
      have H2 : Hid (w2.ownsRow W0.heap.size 3 1 (.slice (some ⟨W0.heap.size, 0, none⟩) 0 cg) 0 (vals (L.take 0).flatten) ∧ Below W0.heap.size W0 w2) := Go.Lib.hid ⟨ho2, hb2⟩
      clear ho2 hb2 CG
      go_wp2
      go_loopw [6, 27] (fun ov jv wx => ∃ (j A g cc : Nat), j ≤ i ∧ jv = .int .i64 j ∧ ov = .slice (some ⟨g, 0, none⟩) A cc ∧ A ≤ s ∧ Hid (A = tot (L.take j) ∧ wx.ownsRow W0.heap.size 3 1 (.slice (some ⟨g, 0, none⟩) A cc) A (vals (L.take j).flatten) ∧ Below W0.heap.size W0 wx)) (fun _ j _ => i - (intOf j).toNat)
      case atStart => exact ⟨0, 0, _, cg, Nat.zero_le _, rfl, rfl, Nat.zero_le _, Go.Lib.hid ⟨rfl, H2.out⟩⟩
      case round =>
        obtain ⟨j, A, g, cc, hjN, rfl, rfl, hAS, HY⟩ := hrel
        clear H2
        obtain ⟨wo, rfl⟩ : ∃ wo, wo = wr := ⟨_, rfl⟩
        by_cases hlt : j < i
        · obtain ⟨b, o, u, c1, rfl, hck, hs⟩ := HV.out.1.at HV.out.2.1 hlt
          have hbl := World.block_lt_of_cell? W0 _ hck
          simp only at hbl
          have hjL : j < L.length := by have := HV.out.2.1; omega
          obtain ⟨m, hm⟩ : ∃ m, (L.getD j []).length = m := ⟨_, rfl⟩
          obtain ⟨b2, o2, hu⟩ := HV.out.2.2.2 b (o + j) u _ c1 rfl hck
          subst hu
          rw [hm] at hck hs
          have hrc : ∀ q, q < m → W0.cell? ⟨b2, o2 + q, none⟩ = some (.int .i64 ((L.getD j []).getD q 0)) := by
            by_cases hm0 : 0 < m
            · obtain ⟨b3, o3, e3, h3⟩ := row_cells hs hm0
              cases e3
              exact h3
            · exact fun q hq => absurd hq (by omega)
          have hbl2 : ∀ q, q < m → b2 < W0.heap.size := fun q hq => World.block_lt_of_cell? W0 _ (hrc q hq)
          have hA2 : A + m = tot (L.take (j + 1)) := by rw [HY.out.1, tot_next hjL, hm]
          have hAm : A + m ≤ s := by have h1 := tot_take L (j + 1); have h2 := HV.out.2.2.1; omega
          have hcko := (HY.out.2.2.cell (p := ⟨b, o + j, none⟩) hbl).trans hck
          have HW : Hid (wo.ownsRow W0.heap.size 3 1 (.slice (some ⟨g, 0, none⟩) A cc) A (vals (L.take j).flatten) ∧ Below W0.heap.size W0 wo ∧ ∀ jj u, (vals (L.getD j []))[jj]? = some u → wo.cell? ((⟨b2, o2, none⟩ : Addr).add jj) = some u) :=
            Go.Lib.hid ⟨HY.out.2.1, HY.out.2.2, row_add hm (fun q hq => (HY.out.2.2.cell (p := ⟨b2, o2 + q, none⟩) (hbl2 q hq)).trans (hrc q hq))⟩
          have HM := Go.Lib.hid (And.intro hm (And.intro hA2 (flat_next hjL)))
          have hji : (j : Int) < (i : Int) := by omega
          clear hck hs hrc hm hA2 hjL
          go_wp2_with (at_builtin; refine wpList_append_own _ rfl _ _ 22 rfl W0.heap.size 3 i0 (.int .i64 0) 1 8 Try.underlying22 hi0 hz0 hz1 hz2 rfl (by decide) (.slice (some ⟨g, 0, none⟩) A cc) A (vals (L.take j).flatten) rfl HW.out.1 ⟨b2, o2, none⟩ m c1 (vals (L.getD j [])) rfl (by rw [vals_len, HM.out.1, Nat.mul_one]) HW.out.2.2 (ints_oneCell .i64 _) (by unfold maxLen; omega) (by omega) HW.out.2.1.size ?_; intro v' w5 hown5 hgrow5 hnil5)
          have hne5 : v' ≠ .slice none 0 0 := fun e => by have := (hnil5.1 e).1; cases this
          obtain ⟨g5, c5, rfl⟩ : ∃ g5 c5, v' = .slice (some ⟨g5, 0, none⟩) (A + m) c5 := by
            rcases hown5.2 with ⟨h0, _⟩ | ⟨g5, c5, cur, hv, _⟩
            · exact absurd h0 hne5
            · exact ⟨g5, c5, hv⟩
          have e5 : vals (L.take j).flatten ++ vals (L.getD j []) = vals (L.take (j + 1)).flatten := by rw [HM.out.2.2]; simp
          rw [e5] at hown5
          have H5 : Hid (A + m = tot (L.take (j + 1)) ∧ w5.ownsRow W0.heap.size 3 1 (.slice (some ⟨g5, 0, none⟩) (A + m) c5) (A + m) (vals (L.take (j + 1)).flatten) ∧ Below W0.heap.size W0 w5) :=
            Go.Lib.hid ⟨HM.out.2.1, hown5, HW.out.2.1.grown hgrow5 HW.out.2.1.size (fun q hq => (HW.out.1.lt q hq).1)⟩
          clear hown5 hgrow5 hnil5 e5
          go_wp2
          go_roundw
          case rel => exact ⟨j + 1, A + m, g5, c5, by omega, by go_num, rfl, hAm, H5⟩
          case measure => simp [intOf]; omega
        · obtain rfl : j = i := by omega
          have hAs : A = s := by have h := HY.out.1; rw [List.take_of_length_le (by have := HV.out.2.1; omega)] at h; have := HV.out.2.2.1; omega
          subst hAs
          have HF : Hid (wo.ownsRow W0.heap.size 3 1 (.slice (some ⟨g, 0, none⟩) A cc) A (vals L.flatten) ∧ Below W0.heap.size W0 wo) := Go.Lib.hid (by
            have h := HY.out.2
            rw [List.take_of_length_le (by have := HV.out.2.1; omega)] at h
            exact h)
          go_wp2
          go_ret
          exact ⟨g, cc, rfl, HF.out⟩

end Go.Proofs.Yteiocoahllnoeab.ConcatEC
