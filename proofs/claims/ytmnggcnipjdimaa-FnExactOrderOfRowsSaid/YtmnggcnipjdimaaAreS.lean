/-
  Contract: what the model takes for rows. Conditions: at most 2^20 numbers together.
-/
import Derived.Test.YtmnggcnipjdimaaAreM
import Derived.Test.YtmnggcnipjdimaaOrder
import Derived.Test.YtmnggcnipjdimaaRagRes
import Derived.IntWalk
import Derived.RangeFuncBox
import Derived.Maps.AppendAt
namespace Go.Proofs.Ytmnggcnipjdimaa.AreSC
open Go.RowKit SeesC IntsC ExactC OrdMath InC OrderC ListsC ListsEC ListsFC LLC QueM PassM RowsM AreM

theorem take_snocI {r : List Int} {k : Nat} {x : Int} (h : k < r.length ∧ r.getD k 0 = x) : r.take (k + 1) = r.take k ++ [x] := by
  obtain ⟨h1, rfl⟩ := h
  rw [List.take_succ_eq_append_getElem h1]; simp [h1]

/-- The numbers of a row that is not empty. -/
theorem row_cells {W : World} {u : Option Addr} {m c : Nat} {r : List Int} (h : Sees W (.slice u m c) m (vals r)) (hm : 0 < m) :
    ∃ b o, u = some ⟨b, o, none⟩ ∧ ∀ q, q < m → W.cell? ⟨b, o + q, none⟩ = some (.int .i64 (r.getD q 0)) := by
  obtain ⟨b, o, cap, he, _, hl, _, hc⟩ := sees_cells h hm
  cases he
  exact ⟨b, o, rfl, fun q hq => hc q (by omega)⟩

set_option maxRecDepth 100000 in
set_option maxHeartbeats 16000000 in
theorem l5Are_any (L : List (List Int)) (r : Bool) (hr : areB L = r) (W : World) (v : Value) (hv : SeesLL W v L) (hN : L.length + tot L ≤ 1048576) :
    Calls Try.prog 101 #[v] W fun e w' => e = .returned (.bool r) ∧ Below W.heap.size W w' := by
  obtain ⟨i0, hi0, hz0, hz1, hz2⟩ := info_parts infoI
  obtain ⟨a, c, rfl⟩ := hv.value
  obtain ⟨N, hLN⟩ : ∃ N, L.length = N := ⟨_, rfl⟩
  rw [hLN] at hv hN ⊢
  have HV := Go.Lib.hid (And.intro hv (And.intro hLN hN))
  have HRR := Go.Lib.hid hr
  have hNm : N ≤ 1048576 := by omega
  have H00 : Hid ((W.alloc (.cells #[] 3)).ownsRow W.heap.size 3 1 (.slice (some ⟨W.heap.size, 0, none⟩) 0 0) 0 (vals (L.take 0).flatten) ∧ Below W.heap.size W (W.alloc (.cells #[] 3)) ∧ ∀ j, j < 0 → RowOk L j) :=
    Go.Lib.hid ⟨World.ownsRow_made (base := W.heap.size) (e := 3) (size := 1) W #[] 0 (Nat.le_refl _) (by unfold maxLen; omega) rfl, (Below.refl _ _).alloc (Nat.le_refl _) _, fun j hj => by omega⟩
  clear hv hLN hN hr
  go_enter Try.func101, Try.ntmps101
  go_wp2
  go_loopw [3, 4] (fun av iv wr => ∃ (i A ga ca : Nat), i ≤ N ∧ iv = .int .i64 i ∧ av = .slice (some ⟨ga, 0, none⟩) A ca ∧ A ≤ 7 ∧ Hid (wr.ownsRow W.heap.size 3 1 (.slice (some ⟨ga, 0, none⟩) A ca) A (vals (L.take i).flatten) ∧ Below W.heap.size W wr ∧ ∀ j, j < i → RowOk L j)) (fun _ i _ => N - (intOf i).toNat)
  case atStart => exact ⟨0, 0, _, _, Nat.zero_le _, rfl, rfl, by omega, H00⟩
  case round =>
    obtain ⟨i, A, ga, ca, hiN, rfl, rfl, hA7, HX0⟩ := hrel
    clear H00
    obtain ⟨wo, rfl⟩ : ∃ wo, wo = wr := ⟨_, rfl⟩
    by_cases hlt : i < N
    · obtain ⟨b, o, u, c1, rfl, hck, hs⟩ := HV.out.1.at HV.out.2.1 hlt
      have hbl := World.block_lt_of_cell? W _ hck
      simp only at hbl
      obtain ⟨m, hm⟩ : ∃ m, (L.getD i []).length = m := ⟨_, rfl⟩
      have hm20 : m ≤ 1048576 := by have h1 := tot_row (L := L) (i := i) (by have := HV.out.2.1; omega); have h2 := HV.out.2.2; omega
      rw [hm] at hck hs
      have HCK := Go.Lib.hid hck
      have HS := Go.Lib.hid hs
      have HM := Go.Lib.hid hm
      have HI : Hid (i < L.length) := Go.Lib.hid (by have := HV.out.2.1; omega)
      have HOKS := Go.Lib.hid HX0.out.2.2
      have hflat : (L.take i).flatten.length = A := by have h := HX0.out.1.1; rw [vals_len] at h; omega
      have HFL := Go.Lib.hid hflat
      have hcko := (HX0.out.2.1.cell (p := ⟨b, o + i, none⟩) hbl).trans hck
      have hiNi : (i : Int) < (N : Int) := by omega
      clear hck hs hm hflat
      by_cases hm0 : m = 0
      · subst hm0
        obtain rfl : r = false := by rw [← HRR.out]; exact are_row HI.out (fun h => by have h1 := h.1; have := HM.out; omega)
        go_wp2
        go_quiet (fail)
        go_wp2
        go_ret
        exact ⟨rfl, below_drewN HX0.out.2.1⟩
      · obtain ⟨m1, rfl⟩ : ∃ m1, m = m1 + 1 := ⟨m - 1, by omega⟩
        have hm0d : (((m1 : Int) + 1) == 0) = false := by rw [beq_eq_false_iff_ne]; omega
        obtain ⟨b2, o2, rfl, hrc⟩ := row_cells HS.out (by omega)
        have HRC := Go.Lib.hid hrc
        clear hrc
        obtain ⟨S, hS⟩ : ∃ S : Nat, A + (m1 + 1) = S := ⟨_, rfl⟩
        have hSi : (A : Int) + ((m1 : Int) + 1) = (S : Int) := by omega
        have HWR : Hid (IntKind.i64.wrap ((A : Int) + ((m1 : Int) + 1)) = (S : Int)) := Go.Lib.hid (by rw [IntWalk.i64_in _ (by omega), hSi])
        by_cases hA : 7 < S
        · have hA' : 7 < A + (m1 + 1) := by omega
          have hAd : decide ((7 : Int) < (S : Int)) = true := decide_eq_true (by omega)
          clear hSi
          have hwr := HWR.out
          obtain rfl : r = false := by rw [← HRR.out]; exact are_long HI.out (by rw [HM.out, HFL.out]; exact hA')
          go_wp2
          go_quiet (fail)
          go_wp2
          go_ret
          exact ⟨rfl, below_drewN HX0.out.2.1⟩
        · have hA' : ¬ 7 < A + (m1 + 1) := by omega
          have hAd : decide ((7 : Int) < (S : Int)) = false := decide_eq_false (by omega)
          clear hSi hS
          by_cases hi1 : i = 0
          · subst hi1
            have hck0 : wo.cell? ⟨b, o, none⟩ = some (.slice (some ⟨b2, o2, none⟩) (m1 + 1) c1) := hcko
            have H0 := Go.Lib.hid (And.intro HX0.out.1 (And.intro HX0.out.2.1 (cols_zero L 0)))
            have hwr := HWR.out
            go_wp2
            go_quiet (fail)
            clear hwr
            go_wp2_with fail
            go_loopw [3, 5] (fun av kv wr => ∃ (k gk ck : Nat), k ≤ m1 + 1 ∧ kv = .int .i64 k ∧ av = .slice (some ⟨gk, 0, none⟩) (A + k) ck ∧ Hid (wr.ownsRow W.heap.size 3 1 (.slice (some ⟨gk, 0, none⟩) (A + k) ck) (A + k) (vals ((L.take 0).flatten ++ (L.getD 0 []).take k)) ∧ Below W.heap.size W wr ∧ ColsTo L 0 k)) (fun _ k _ => m1 + 1 - (intOf k).toNat)
            case atStart => exact ⟨0, ga, ca, Nat.zero_le _, rfl, rfl, Go.Lib.hid ⟨by simpa using own_drewN H0.out.1, below_drewN H0.out.2.1, H0.out.2.2⟩⟩
            case round =>
              obtain ⟨k, gk, ck, hkm, rfl, rfl, HK⟩ := hrel
              clear H0 HX0
              have hckr := (HK.out.2.1.cell (p := ⟨b, o + 0, none⟩) hbl).trans HCK.out
              have hckr0 : wr.cell? ⟨b, o, none⟩ = some (.slice (some ⟨b2, o2, none⟩) (m1 + 1) c1) := hckr
              by_cases hlt2 : k < m1 + 1
              · obtain ⟨x, hx⟩ : ∃ x, (L.getD 0 []).getD k 0 = x := ⟨_, rfl⟩
                have hcx := (HK.out.2.1.cell (p := ⟨b2, o2 + k, none⟩) (World.block_lt_of_cell? W _ (HRC.out k (by have := HM.out; omega)))).trans (HRC.out k (by have := HM.out; omega))
                rw [hx] at hcx
                have HX : Hid (k < (L.getD 0 []).length ∧ (L.getD 0 []).getD k 0 = x) := Go.Lib.hid ⟨by have := HM.out; omega, hx⟩
                have hki : (k : Int) < (m1 : Int) + 1 := by omega
                have hkd : decide (k < m1 + 1) = true := decide_eq_true hlt2
                clear hx
                by_cases hk0 : k = 0
                · subst hk0
                  have hk0d : decide (0 < 0) = false := rfl
                  have hcx0 : wr.cell? ⟨b2, o2, none⟩ = some (.int .i64 x) := hcx
                  have HCN := Go.Lib.hid (cols_next HK.out.2.2 (fun h => by omega) (fun h => by omega))
                  go_wp2
                  go_quiet (fail)
                  go_wp2_with (at_builtin; refine wpList_append_own _ rfl _ _ 24 rfl W.heap.size 3 i0 (.int .i64 0) 1 8 Try.underlying24 hi0 hz0 hz1 hz2 rfl (by decide) (.slice (some ⟨gk, 0, none⟩) (A + 0) ck) (A + 0) (vals ((L.take 0).flatten ++ (L.getD 0 []).take 0)) rfl ((own_drewN HK.out.1).alloc _) ⟨wr.heap.size, 0, none⟩ 1 1 [.int .i64 x] rfl rfl (cell_one_new _ _ _) (fun x hx => by simp at hx; subst hx; rfl) (by unfold maxLen; omega) (by omega) (by have := HK.out.2.1.size; simp; omega) ?_; intro v' w3 hown3 hgrow3 hnil3)
                  obtain ⟨g3, c3, rfl⟩ := ownsRow_succ hown3
                  have hx3 : vals ((L.take 0).flatten ++ (L.getD 0 []).take 0) ++ [.int .i64 x] = vals ((L.take 0).flatten ++ (L.getD 0 []).take (0 + 1)) := by
                    rw [take_snocI HX.out]; simp
                  rw [hx3] at hown3
                  have hb3 : Below W.heap.size W w3 := ((below_drewN HK.out.2.1).alloc HK.out.2.1.size _).grown hgrow3 (by have := HK.out.2.1.size; simp; omega) (fun q hq => (HK.out.1.lt q hq).1)
                  have H3 := Go.Lib.hid (And.intro hown3 (And.intro hb3 HCN.out))
                  clear hown3 hgrow3 hnil3 hx3 hb3
                  go_wp2
                  skip
                  go_roundw
                  case rel => first | exact ⟨0 + 1, g3, c3, by omega, by go_num, rfl, H3⟩ | ((repeat apply Exists.intro); exact ⟨⟨0 + 1, g3, c3, by omega, by go_num, rfl, H3⟩, rfl⟩)
                  case measure => simp [intOf] <;> omega
                · obtain ⟨s, rfl⟩ : ∃ s, k = s + 1 := ⟨k - 1, by omega⟩
                  have hk0d : decide (0 < s + 1) = true := decide_eq_true (by omega)
                  have hs0 : 0 ≤ (s : Int) + 1 := by omega
                  obtain ⟨y, hy⟩ : ∃ y, (L.getD 0 []).getD s 0 = y := ⟨_, rfl⟩
                  have hcy := (HK.out.2.1.cell (p := ⟨b2, o2 + s, none⟩) (World.block_lt_of_cell? W _ (HRC.out s (by have := HM.out; omega)))).trans (HRC.out s (by have := HM.out; omega))
                  rw [hy] at hcy
                  have HY := Go.Lib.hid hy
                  clear hy
                  by_cases hxy : x ≤ y
                  · have hxyd : decide (x ≤ y) = true := decide_eq_true hxy
                    obtain rfl : r = false := by rw [← HRR.out]; exact are_row HI.out (fun h => by have h1 := (row_cols h (s + 1) (by have := HM.out; omega)).1 (by omega); rw [show s + 1 - 1 = s from rfl, HY.out, HX.out.2] at h1; omega)
                    go_wp2
                    go_quiet (fail)
                    go_wp2
                    go_ret
                    exact ⟨rfl, below_drewN HK.out.2.1⟩
                  · have hxyd : decide (x ≤ y) = false := decide_eq_false hxy
                    have HCN := Go.Lib.hid (cols_next HK.out.2.2 (fun _ => by rw [show s + 1 - 1 = s from rfl, HY.out, HX.out.2]; omega) (fun h => by omega))
                    go_wp2
                    go_quiet (fail)
                    go_wp2_with (at_builtin; refine wpList_append_own _ rfl _ _ 24 rfl W.heap.size 3 i0 (.int .i64 0) 1 8 Try.underlying24 hi0 hz0 hz1 hz2 rfl (by decide) (.slice (some ⟨gk, 0, none⟩) (A + (s + 1)) ck) (A + (s + 1)) (vals ((L.take 0).flatten ++ (L.getD 0 []).take (s + 1))) rfl ((own_drewN HK.out.1).alloc _) ⟨wr.heap.size, 0, none⟩ 1 1 [.int .i64 x] rfl rfl (cell_one_new _ _ _) (fun x hx => by simp at hx; subst hx; rfl) (by unfold maxLen; omega) (by omega) (by have := HK.out.2.1.size; simp; omega) ?_; intro v' w3 hown3 hgrow3 hnil3)
                    obtain ⟨g3, c3, rfl⟩ := ownsRow_succ hown3
                    have hx3 : vals ((L.take 0).flatten ++ (L.getD 0 []).take (s + 1)) ++ [.int .i64 x] = vals ((L.take 0).flatten ++ (L.getD 0 []).take ((s + 1) + 1)) := by
                      rw [take_snocI HX.out]; simp
                    rw [hx3] at hown3
                    have hb3 : Below W.heap.size W w3 := ((below_drewN HK.out.2.1).alloc HK.out.2.1.size _).grown hgrow3 (by have := HK.out.2.1.size; simp; omega) (fun q hq => (HK.out.1.lt q hq).1)
                    have H3 := Go.Lib.hid (And.intro hown3 (And.intro hb3 HCN.out))
                    clear hown3 hgrow3 hnil3 hx3 hb3
                    go_wp2
                    skip
                    go_roundw
                    case rel => first | exact ⟨(s + 1) + 1, g3, c3, by omega, by go_num, rfl, H3⟩ | ((repeat apply Exists.intro); exact ⟨⟨(s + 1) + 1, g3, c3, by omega, by go_num, rfl, H3⟩, rfl⟩)
                    case measure => simp [intOf] <;> omega
              · obtain rfl : k = m1 + 1 := by omega
                have hkd : decide (m1 + 1 < m1 + 1) = false := decide_eq_false (by omega)
                have HF : Hid (wr.ownsRow W.heap.size 3 1 (.slice (some ⟨gk, 0, none⟩) (A + (m1 + 1)) ck) (A + (m1 + 1)) (vals (L.take (0 + 1)).flatten) ∧ Below W.heap.size W wr ∧ ∀ jj, jj < 0 + 1 → RowOk L jj) := Go.Lib.hid ⟨by
                  have h := HK.out.1
                  rw [List.take_of_length_le (l := L.getD 0 []) (by have := HM.out; omega), ← flat_next HI.out] at h
                  exact h, HK.out.2.1, fun q hq => by
                  by_cases e : q = 0
                  · rw [e]; exact cols_row (by have := HM.out; omega) (fun h => by omega) (by rw [HM.out]; exact HK.out.2.2)
                  · exact HOKS.out q (by omega)⟩
                go_wp2
                go_roundw
                case rel => exact ⟨0 + 1, A + (m1 + 1), gk, ck, by omega, by go_num, by first | rfl | go_num, by omega, HF⟩
                case measure => simp [intOf]; omega
          · obtain ⟨j, rfl⟩ : ∃ j, i = j + 1 := ⟨i - 1, by omega⟩
            have hj0 : 0 ≤ (j : Int) + 1 := by omega
            have hj0d : decide (0 < j + 1) = true := decide_eq_true (by omega)
            obtain ⟨b', o', u3, c3, heq, hcp, hsp⟩ := HV.out.1.at HV.out.2.1 (show j < N by omega)
            cases heq
            obtain ⟨mp, hmp⟩ : ∃ mp, (L.getD j []).length = mp := ⟨_, rfl⟩
            rw [hmp] at hcp hsp
            have HCP := Go.Lib.hid hcp
            have hcpo := (HX0.out.2.1.cell (p := ⟨b, o + j, none⟩) hbl).trans hcp
            by_cases hmm : mp < m1 + 1
            · have hmmd : decide (mp < m1 + 1) = true := decide_eq_true hmm
              have hmmi : (mp : Int) < (m1 : Int) + 1 := by omega
              have HMP := Go.Lib.hid hmp
              clear hcp hsp hmp
              have hwr := HWR.out
              obtain rfl : r = false := by rw [← HRR.out]; exact are_row HI.out (fun h => by have h1 := (h.2.1 (by omega)).1; rw [show j + 1 - 1 = j from rfl] at h1; have := HM.out; have := HMP.out; omega)
              go_wp2
              go_quiet (fail)
              go_wp2
              go_ret
              exact ⟨rfl, below_drewN HX0.out.2.1⟩
            · have hmmd : decide (mp < m1 + 1) = false := decide_eq_false hmm
              have hmmi : ¬ (mp : Int) < (m1 : Int) + 1 := by omega
              obtain ⟨b3, o3, rfl, hpc⟩ := row_cells hsp (by omega)
              have HPC := Go.Lib.hid hpc
              have HMP := Go.Lib.hid hmp
              clear hcp hsp hmp hpc
              have H0 := Go.Lib.hid (And.intro HX0.out.1 (And.intro HX0.out.2.1 (cols_zero L (j + 1))))
              have hwr := HWR.out
              go_wp2
              go_quiet (fail)
              clear hwr
              go_wp2_with fail
              go_loopw [3, 5] (fun av kv wr => ∃ (k gk ck : Nat), k ≤ m1 + 1 ∧ kv = .int .i64 k ∧ av = .slice (some ⟨gk, 0, none⟩) (A + k) ck ∧ Hid (wr.ownsRow W.heap.size 3 1 (.slice (some ⟨gk, 0, none⟩) (A + k) ck) (A + k) (vals ((L.take (j + 1)).flatten ++ (L.getD (j + 1) []).take k)) ∧ Below W.heap.size W wr ∧ ColsTo L (j + 1) k)) (fun _ k _ => m1 + 1 - (intOf k).toNat)
              case atStart => exact ⟨0, ga, ca, Nat.zero_le _, rfl, rfl, Go.Lib.hid ⟨by simpa using own_drewN H0.out.1, below_drewN H0.out.2.1, H0.out.2.2⟩⟩
              case round =>
                obtain ⟨k, gk, ck, hkm, rfl, rfl, HK⟩ := hrel
                clear H0 HX0
                have hckr := (HK.out.2.1.cell (p := ⟨b, o + (j + 1), none⟩) hbl).trans HCK.out
                have hcpr := (HK.out.2.1.cell (p := ⟨b, o + j, none⟩) hbl).trans HCP.out
                by_cases hlt2 : k < m1 + 1
                · obtain ⟨x, hx⟩ : ∃ x, (L.getD (j + 1) []).getD k 0 = x := ⟨_, rfl⟩
                  have hcx := (HK.out.2.1.cell (p := ⟨b2, o2 + k, none⟩) (World.block_lt_of_cell? W _ (HRC.out k (by have := HM.out; omega)))).trans (HRC.out k (by have := HM.out; omega))
                  rw [hx] at hcx
                  have HX : Hid (k < (L.getD (j + 1) []).length ∧ (L.getD (j + 1) []).getD k 0 = x) := Go.Lib.hid ⟨by have := HM.out; omega, hx⟩
                  have hki : (k : Int) < (m1 : Int) + 1 := by omega
                  have hkd : decide (k < m1 + 1) = true := decide_eq_true hlt2
                  clear hx
                  by_cases hk0 : k = 0
                  · subst hk0
                    have hk0d : decide (0 < 0) = false := rfl
                    have hcx0 : wr.cell? ⟨b2, o2, none⟩ = some (.int .i64 x) := hcx
                    obtain ⟨z, hz⟩ : ∃ z, (L.getD j []).getD 0 0 = z := ⟨_, rfl⟩
                    have hcz := (HK.out.2.1.cell (p := ⟨b3, o3 + 0, none⟩) (World.block_lt_of_cell? W _ (HPC.out 0 (by omega)))).trans (HPC.out 0 (by omega))
                    rw [hz] at hcz
                    have hcz0 : wr.cell? ⟨b3, o3, none⟩ = some (.int .i64 z) := hcz
                    have HZ := Go.Lib.hid hz
                    clear hz
                    by_cases hxz : x ≤ z
                    · have hxzd : decide (x ≤ z) = true := decide_eq_true hxz
                      obtain rfl : r = false := by rw [← HRR.out]; exact are_row HI.out (fun h => by have h1 := (row_cols h 0 (by have := HM.out; omega)).2 (by omega); rw [show j + 1 - 1 = j from rfl] at h1; rw [HZ.out, HX.out.2] at h1; omega)
                      go_wp2
                      go_quiet (fail)
                      go_wp2
                      go_ret
                      exact ⟨rfl, below_drewN HK.out.2.1⟩
                    · have hxzd : decide (x ≤ z) = false := decide_eq_false hxz
                      have HCN := Go.Lib.hid (cols_next HK.out.2.2 (fun h => by omega) (fun _ => by rw [show j + 1 - 1 = j from rfl, HZ.out, HX.out.2]; omega))
                      go_wp2
                      go_quiet (fail)
                      go_wp2_with (at_builtin; refine wpList_append_own _ rfl _ _ 24 rfl W.heap.size 3 i0 (.int .i64 0) 1 8 Try.underlying24 hi0 hz0 hz1 hz2 rfl (by decide) (.slice (some ⟨gk, 0, none⟩) (A + 0) ck) (A + 0) (vals ((L.take (j + 1)).flatten ++ (L.getD (j + 1) []).take 0)) rfl ((own_drewN HK.out.1).alloc _) ⟨wr.heap.size, 0, none⟩ 1 1 [.int .i64 x] rfl rfl (cell_one_new _ _ _) (fun x hx => by simp at hx; subst hx; rfl) (by unfold maxLen; omega) (by omega) (by have := HK.out.2.1.size; simp; omega) ?_; intro v' w3 hown3 hgrow3 hnil3)
                      obtain ⟨g3, c3, rfl⟩ := ownsRow_succ hown3
                      have hx3 : vals ((L.take (j + 1)).flatten ++ (L.getD (j + 1) []).take 0) ++ [.int .i64 x] = vals ((L.take (j + 1)).flatten ++ (L.getD (j + 1) []).take (0 + 1)) := by
                        rw [take_snocI HX.out]; simp
                      rw [hx3] at hown3
                      have hb3 : Below W.heap.size W w3 := ((below_drewN HK.out.2.1).alloc HK.out.2.1.size _).grown hgrow3 (by have := HK.out.2.1.size; simp; omega) (fun q hq => (HK.out.1.lt q hq).1)
                      have H3 := Go.Lib.hid (And.intro hown3 (And.intro hb3 HCN.out))
                      clear hown3 hgrow3 hnil3 hx3 hb3
                      go_wp2
                      skip
                      go_roundw
                      case rel => first | exact ⟨0 + 1, g3, c3, by omega, by go_num, rfl, H3⟩ | ((repeat apply Exists.intro); exact ⟨⟨0 + 1, g3, c3, by omega, by go_num, rfl, H3⟩, rfl⟩)
                      case measure => simp [intOf] <;> omega
                  · obtain ⟨s, rfl⟩ : ∃ s, k = s + 1 := ⟨k - 1, by omega⟩
                    have hk0d : decide (0 < s + 1) = true := decide_eq_true (by omega)
                    have hs0 : 0 ≤ (s : Int) + 1 := by omega
                    obtain ⟨y, hy⟩ : ∃ y, (L.getD (j + 1) []).getD s 0 = y := ⟨_, rfl⟩
                    have hcy := (HK.out.2.1.cell (p := ⟨b2, o2 + s, none⟩) (World.block_lt_of_cell? W _ (HRC.out s (by have := HM.out; omega)))).trans (HRC.out s (by have := HM.out; omega))
                    rw [hy] at hcy
                    have HY := Go.Lib.hid hy
                    clear hy
                    by_cases hxy : x ≤ y
                    · have hxyd : decide (x ≤ y) = true := decide_eq_true hxy
                      obtain rfl : r = false := by rw [← HRR.out]; exact are_row HI.out (fun h => by have h1 := (row_cols h (s + 1) (by have := HM.out; omega)).1 (by omega); rw [show s + 1 - 1 = s from rfl, HY.out, HX.out.2] at h1; omega)
                      go_wp2
                      go_quiet (fail)
                      go_wp2
                      go_ret
                      exact ⟨rfl, below_drewN HK.out.2.1⟩
                    · have hxyd : decide (x ≤ y) = false := decide_eq_false hxy
                      obtain ⟨z, hz⟩ : ∃ z, (L.getD j []).getD (s + 1) 0 = z := ⟨_, rfl⟩
                      have hcz := (HK.out.2.1.cell (p := ⟨b3, o3 + (s + 1), none⟩) (World.block_lt_of_cell? W _ (HPC.out (s + 1) (by omega)))).trans (HPC.out (s + 1) (by omega))
                      rw [hz] at hcz
                      have HZ := Go.Lib.hid hz
                      clear hz
                      by_cases hxz : x ≤ z
                      · have hxzd : decide (x ≤ z) = true := decide_eq_true hxz
                        obtain rfl : r = false := by rw [← HRR.out]; exact are_row HI.out (fun h => by have h1 := (row_cols h (s + 1) (by have := HM.out; omega)).2 (by omega); rw [show j + 1 - 1 = j from rfl] at h1; rw [HZ.out, HX.out.2] at h1; omega)
                        go_wp2
                        go_quiet (fail)
                        go_wp2
                        go_ret
                        exact ⟨rfl, below_drewN HK.out.2.1⟩
                      · have hxzd : decide (x ≤ z) = false := decide_eq_false hxz
                        have HCN := Go.Lib.hid (cols_next HK.out.2.2 (fun _ => by rw [show s + 1 - 1 = s from rfl, HY.out, HX.out.2]; omega) (fun _ => by rw [show j + 1 - 1 = j from rfl, HZ.out, HX.out.2]; omega))
                        go_wp2
                        go_quiet (fail)
                        go_wp2_with (at_builtin; refine wpList_append_own _ rfl _ _ 24 rfl W.heap.size 3 i0 (.int .i64 0) 1 8 Try.underlying24 hi0 hz0 hz1 hz2 rfl (by decide) (.slice (some ⟨gk, 0, none⟩) (A + (s + 1)) ck) (A + (s + 1)) (vals ((L.take (j + 1)).flatten ++ (L.getD (j + 1) []).take (s + 1))) rfl ((own_drewN HK.out.1).alloc _) ⟨wr.heap.size, 0, none⟩ 1 1 [.int .i64 x] rfl rfl (cell_one_new _ _ _) (fun x hx => by simp at hx; subst hx; rfl) (by unfold maxLen; omega) (by omega) (by have := HK.out.2.1.size; simp; omega) ?_; intro v' w3 hown3 hgrow3 hnil3)
                        obtain ⟨g3, c3, rfl⟩ := ownsRow_succ hown3
                        have hx3 : vals ((L.take (j + 1)).flatten ++ (L.getD (j + 1) []).take (s + 1)) ++ [.int .i64 x] = vals ((L.take (j + 1)).flatten ++ (L.getD (j + 1) []).take ((s + 1) + 1)) := by
                          rw [take_snocI HX.out]; simp
                        rw [hx3] at hown3
                        have hb3 : Below W.heap.size W w3 := ((below_drewN HK.out.2.1).alloc HK.out.2.1.size _).grown hgrow3 (by have := HK.out.2.1.size; simp; omega) (fun q hq => (HK.out.1.lt q hq).1)
                        have H3 := Go.Lib.hid (And.intro hown3 (And.intro hb3 HCN.out))
                        clear hown3 hgrow3 hnil3 hx3 hb3
                        go_wp2
                        skip
                        go_roundw
                        case rel => first | exact ⟨(s + 1) + 1, g3, c3, by omega, by go_num, rfl, H3⟩ | ((repeat apply Exists.intro); exact ⟨⟨(s + 1) + 1, g3, c3, by omega, by go_num, rfl, H3⟩, rfl⟩)
                        case measure => simp [intOf] <;> omega
                · obtain rfl : k = m1 + 1 := by omega
                  have hkd : decide (m1 + 1 < m1 + 1) = false := decide_eq_false (by omega)
                  have HF : Hid (wr.ownsRow W.heap.size 3 1 (.slice (some ⟨gk, 0, none⟩) (A + (m1 + 1)) ck) (A + (m1 + 1)) (vals (L.take ((j + 1) + 1)).flatten) ∧ Below W.heap.size W wr ∧ ∀ jj, jj < (j + 1) + 1 → RowOk L jj) := Go.Lib.hid ⟨by
                    have h := HK.out.1
                    rw [List.take_of_length_le (l := L.getD (j + 1) []) (by have := HM.out; omega), ← flat_next HI.out] at h
                    exact h, HK.out.2.1, fun q hq => by
                    by_cases e : q = (j + 1)
                    · rw [e]; exact cols_row (by have := HM.out; omega) (fun _ => by have := HM.out; have := HMP.out; rw [show j + 1 - 1 = j from rfl]; omega) (by rw [HM.out]; exact HK.out.2.2)
                    · exact HOKS.out q (by omega)⟩
                  go_wp2
                  go_roundw
                  case rel => exact ⟨(j + 1) + 1, A + (m1 + 1), gk, ck, by omega, by go_num, by first | rfl | go_num, by omega, HF⟩
                  case measure => simp [intOf]; omega
    · have hie : i = N := by omega
      subst hie
      have CO := Go.Lib.hid (l2Order_any wo (.slice (some ⟨ga, 0, none⟩) A ca) A L.flatten r (by
        have h := HX0.out.1
        rw [List.take_of_length_le (by have := HV.out.2.1; omega)] at h
        exact Sees.owns h) (by omega) (by rw [← HRR.out]; exact (are_ok (fun q hq => HX0.out.2.2 q (by have := HV.out.2.1; omega))).symm))
      go_wp2_with fail
      refine (CO.out).mono ?_
      rintro e w2 ⟨rfl, hd⟩
      have H2 := Go.Lib.hid (HX0.out.2.1.trans (hd.below _))
      clear hd
      go_wp2_with fail
      go_ret
      exact ⟨rfl, H2.out⟩

end Go.Proofs.Ytmnggcnipjdimaa.AreSC
