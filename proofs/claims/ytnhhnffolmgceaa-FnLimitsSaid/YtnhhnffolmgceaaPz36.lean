/-
  Contracts: WithinAt, RankWithin and LimitProfile of the program. Conditions: texts of at most 2^20 bytes.
-/
import Derived.Test.YtnhhnffolmgceaaPz30
import Derived.Test.YtnhhnffolmgceaaPz35

namespace Go.Proofs.Ytnhhnffolmgceaa.LimJC
open Go.RowKit SeesC IntsC ExactC NumC IterC OrdMath WordMath InC WordC RunC EndsM EPcM EPcC LimW LimEC BigC LimCC LimIC LimSC Rank4C

/-- What is ahead of a pop. -/
theorem zI_ahead {K p h m : Nat} (hm : 2 * p + h = m + 1) : zI K ((p : Int) - 1) ((h : Int) + 1) = lE K m (h + 1) := by
  rw [← ahead_is (d := K) hm]
  unfold zI
  by_cases h0 : p = 0
  · rw [if_pos h0, if_pos (by omega)]
  · rw [if_neg h0, if_neg (by omega), show ((p : Int) - 1).toNat = p - 1 by omega, show ((h : Int) + 1).toNat = h + 1 by omega]

set_option maxRecDepth 100000 in
set_option maxHeartbeats 4000000 in
theorem implAtD (n dd k : Int) (r' : ByteArray) (b : Bool) (h : atDAns n dd k = (r', b)) (hw : (Lit.int .i64 n).wf = true) (hw3 : (Lit.int .i64 dd).wf = true) (_hw2 : (Lit.int .i64 k).wf = true) (W : World) :
    Calls Try.prog 30 #[.int .i64 n, .int .i64 dd, .int .i64 k] W fun e w' => e = .returned (.tuple #[.string r', .bool b]) ∧ Below W.heap.size W w' := by
  unfold atDAns at h
  by_cases h17 : 1 ≤ n ∧ n ≤ 7 ∧ 1 ≤ dd ∧ dd ≤ 7
  · obtain ⟨j0, hj, hy0, hy1, hy2⟩ := info_parts infoB
    obtain ⟨m, rfl⟩ : ∃ m : Nat, n = (m : Int) := ⟨n.toNat, by omega⟩
    obtain ⟨K, rfl⟩ : ∃ K : Nat, dd = (K : Int) := ⟨dd.toNat, by omega⟩
    have hans : withinAns (m : Int) (K : Int) = (((lE K (2 * m) 0 : Nat) : Int), true) := by unfold withinAns; rw [if_pos h17, Int.toNat_natCast, Int.toNat_natCast]
    have CC := fun w2 => implWithin (m : Int) (K : Int) _ true hans hw hw3 w2
    rw [Int.toNat_natCast, Int.toNat_natCast] at h
    have hK1 : 1 ≤ K := by omega
    have hK7 : K ≤ 7 := by omega
    have hm1 : 1 ≤ m := by omega
    have hm7 : m ≤ 7 := by omega
    have hE16 : lE K (2 * m) 0 ≤ 16384 := lE_16k (by omega)
    by_cases hk : 0 ≤ k ∧ k < (lE K (2 * m) 0 : Int)
    · rw [if_pos ⟨h17.1, h17.2.1, h17.2.2.1, h17.2.2.2, hk.1, hk.2⟩] at h
      cases h
      obtain ⟨kk, rfl⟩ : ∃ kk : Nat, k = (kk : Int) := ⟨k.toNat, by omega⟩
      rw [Int.toNat_natCast]
      obtain ⟨N, hN⟩ : ∃ N, 2 * m = N := ⟨_, rfl⟩
      rw [hN] at CC hk hE16 ⊢
      have HK : Hid (kk < lE K N 0) := Go.Lib.hid (by omega)
      obtain ⟨E, hE⟩ : ∃ E, lE K N 0 = E := ⟨_, rfl⟩
      rw [hE] at CC hk hE16
      have hk0 : ¬ (kk : Int) < 0 := by omega
      have hkE : ¬ (E : Int) ≤ (kk : Int) := by omega
      have hkE2 : (kk : Int) < (E : Int) := by omega
      obtain ⟨R, hR⟩ : ∃ R, atD K N 0 kk = R := ⟨_, rfl⟩
      rw [hR]
      have HRL : Hid (R.length = N) := Go.Lib.hid (by rw [← hR]; exact atD_len K N 0 kk)
      have HR0 := Go.Lib.hid hR
      have hN14 : N ≤ 14 := by omega
      have hNi : (2 : Int) * (m : Int) = (N : Int) := by omega
      have HN := Go.Lib.hid hN
      have CC := Go.Lib.hid CC
      have CWW := Go.Lib.hid (fun w2 => waysWithin_any K (by omega) w2)
      have CF := Go.Lib.hid (fun (db tb wb : Nat) (a b : Int) (h1 : -1 ≤ a) (h2 : a ≤ 7) (h3 : -1 ≤ b) (h4 : b ≤ 8) (w : World) (hs : WS W.heap.size K db tb wb w) => ways_any W.heap.size K db tb wb hK7 (2 * a + b + 3).toNat a b (by omega) h1 h2 h3 h4 w hs)
      clear hE hR hk h17 hw hw3 hans hN
      go_enter Try.func30, Try.ntmps30
      go_wp2_with fail
      refine (CC.out _).mono ?_
      rintro e w0 ⟨rfl, hb0⟩
      have H0 := Go.Lib.hid hb0
      clear hb0
      go_wp2_with fail
      refine (CWW.out _).mono ?_
      rintro e w1 ⟨db, tb, wb, he, hs, hdb, htb, hwb, hbel⟩
      unfold fv at he
      subst he
      have hWs : W.heap.size ≤ w0.heap.size := H0.out.size
      have hs1 : WS W.heap.size K db tb wb w1 := by
        obtain ⟨⟨l, k1, k2⟩, k3⟩ := hs
        exact ⟨⟨l, k1, own_lower k2 hWs⟩, k3⟩
      have H1 := Go.Lib.hid (And.intro hs1 (And.intro (show Below W.heap.size W w1 from H0.out.trans (hbel.mono hWs)) (And.intro (Nat.le_trans hWs htb) (show db < w1.heap.size ∧ tb < w1.heap.size ∧ wb < w1.heap.size from ⟨World.block_lt_of_cell? w1 ⟨db, 0, none⟩ hs1.2.1, (by obtain ⟨⟨l, k1, k2⟩, _⟩ := hs1; exact (k2.lt tb rfl).2), World.block_lt_of_cell? w1 ⟨wb, 0, none⟩ hs1.2.2.1⟩))))
      have hW1 : W.heap.size ≤ w1.heap.size := H1.out.2.1.size
      clear hs hs1 hdb htb hwb hbel
      go_wp2_with (at_make; refine wpList_make_full _ rfl _ _ 22 rfl W.heap.size 5 j0 (.int .u8 0) 1 Try.underlying22 hj hy0 hy1 .i64 .i64 N N N rfl rfl rfl rfl (by rw [hy2]; omega) (by unfold maxLen; omega) hW1 ?_; intro w2 hown1 hgrow1; clear hj hy0 hy1 hy2)
      rw [made_byte] at hown1
      obtain ⟨g, hg⟩ : ∃ g, w1.heap.size = g := ⟨_, rfl⟩
      have HG : Hid (tb ≠ g ∧ db ≠ g ∧ wb ≠ g ∧ W.heap.size ≤ g) := Go.Lib.hid (by have := H1.out.2.2.2; omega)
      have HX0 : Hid (WS W.heap.size K db tb wb w2 ∧ w2.ownsRow W.heap.size 5 1 (.slice (some ⟨g, 0, none⟩) N N) N (bvals (R.take 0 ++ (List.replicate N 0).drop 0)) ∧ Below W.heap.size W w2) := Go.Lib.hid ⟨H1.out.1.kept hgrow1 (by simp) (by simp) (by simp), by rw [hg] at hown1; simpa using hown1, H1.out.2.1.grown hgrow1 hW1 (fun k hk => by cases hk)⟩
      have HTB : Hid (W.heap.size ≤ tb) := Go.Lib.hid H1.out.2.2.1
      rw [hg]
      clear hown1 hgrow1 hg hW1 hWs
      go_loopw [2, 12, 13, 41] (fun kv pv hv iv wr => ∃ (i p hh k r : Nat), i + r = N ∧ kv = .int .i64 k ∧ pv = .int .i64 p ∧ hv = .int .i64 hh ∧ iv = .int .i64 i ∧ 2 * p + hh = r ∧ k ≤ 16384 ∧ Hid (R.drop i = atD K r hh k ∧ k < lE K r hh ∧ hh ≤ K) ∧ Hid (WS W.heap.size K db tb wb wr ∧ wr.ownsRow W.heap.size 5 1 (.slice (some ⟨g, 0, none⟩) N N) N (bvals (R.take i ++ (List.replicate N 0).drop i)) ∧ Below W.heap.size W wr)) (fun _ _ _ i _ => N - (intOf i).toNat)
      case atStart => exact ⟨0, m, 0, kk, N, by omega, rfl, rfl, rfl, rfl, by have := HN.out; omega, by omega, Go.Lib.hid ⟨by rw [HR0.out]; rfl, HK.out, Nat.zero_le _⟩, HX0⟩
      case round =>
        obtain ⟨i, p, hh, k, r, hir, rfl, rfl, rfl, rfl, hph, hk6, HM, HX⟩ := hrel
        clear HX0
        by_cases hi : i < N
        · obtain ⟨q, rfl⟩ : ∃ q, r = q + 1 := ⟨r - 1, by omega⟩
          have hii : (i : Int) < (N : Int) := by omega
          have hhK := HM.out.2.2
          have hza := zI_ahead (K := K) hph
          have hIf := Go.Lib.hid (fun hlt : k < lE K q (hh + 1) => stepD_I hlt)
          have hOf := Go.Lib.hid (fun hlt : ¬ k < lE K q (hh + 1) => stepD_O hhK HM.out.2.1 hlt)
          have hIa := Go.Lib.hid (fun hlt : k < lE K q (hh + 1) => atD_I hlt)
          have hOa := Go.Lib.hid (fun hlt : ¬ k < lE K q (hh + 1) => atD_O hlt)
          have hp0f := Go.Lib.hid (fun (hlt : k < lE K q (hh + 1)) (h0 : p = 0) => (by rw [lE_zero (show q < hh + 1 by omega)] at hlt; omega : False))
          have hE6 := @lE_16k K q (hh + 1) (by omega)
          obtain ⟨E2, hE2⟩ : ∃ E2, lE K q (hh + 1) = E2 := ⟨_, rfl⟩
          rw [hE2] at hza hIf hOf hIa hOa hp0f hE6
          have cf := CF.out db tb wb ((p : Int) - 1) ((hh : Int) + 1) (by omega) (by omega) (by omega) (by omega)
          rw [hza] at cf
          have CFX := Go.Lib.hid cf
          have HE2 := Go.Lib.hid hE2
          have HPH := Go.Lib.hid (And.intro hph hhK)
          have hiR : i < R.length := by rw [HRL.out]; exact hi
          have hrd : R.drop i = R[i]'hiR :: R.drop (i + 1) := List.drop_eq_getElem_cons _
          have HRD := Go.Lib.hid hrd
          have hp7 : p ≤ 7 := by omega
          have hh7 : hh ≤ 7 := by omega
          clear hza cf hE2 hhK hph hrd
          go_wp2_with fail
          refine (CFX.out _ HX.out.1).mono ?_
          rintro e wc ⟨rfl, hs5, hg5⟩
          have HX5 : Hid (WS W.heap.size K db tb wb wc ∧ wc.ownsRow W.heap.size 5 1 (.slice (some ⟨g, 0, none⟩) N N) N (bvals (R.take i ++ (List.replicate N 0).drop i)) ∧ Below W.heap.size W wc) := Go.Lib.hid ⟨hs5, own_mark HX.out.2.1 hg5 (fun a ha e => by simp only [Value.ownBlock, Option.some.injEq] at ha e; exact HG.out.1 (by omega)), HX.out.2.2.grown hg5 HX.out.2.2.size (fun k hk => by cases hk; exact HTB.out)⟩
          clear HX hs5 hg5
          have HX := HX5
          clear HX5
          by_cases hlt : k < E2
          · have hlti2 : (k : Int) < (E2 : Int) := by omega
            have hp1 : 1 ≤ p := by
              rcases Nat.eq_zero_or_pos p with h0 | h0
              · exact absurd h0 (fun h0 => hp0f.out hlt h0)
              · exact h0
            obtain ⟨p1, rfl⟩ : ∃ p1, p = p1 + 1 := ⟨p - 1, by omega⟩
            have hcons : R[i]'hiR :: R.drop (i + 1) = 73 :: atD K q (hh + 1) k := by rw [← HRD.out, HM.out.1, hIa.out hlt]
            obtain ⟨HRI, HRN⟩ := List.cons.inj hcons
            have HMN : Hid (R.drop (i + 1) = atD K q (hh + 1) k ∧ k < lE K q (hh + 1) ∧ hh + 1 ≤ K) := Go.Lib.hid ⟨HRN, by rw [HE2.out]; exact hlt, (hIf.out hlt).1⟩
            have hst := HX.out.2.1.stored i (.int .u8 73)
            have e1 : R[i]'hiR = 73 := HRI
            have hst1 : (wc.setCell ⟨g, i, none⟩ (.int .u8 73)).ownsRow W.heap.size 5 1 (.slice (some ⟨g, 0, none⟩) N N) N (bvals (R.take (i + 1) ++ (List.replicate N 0).drop (i + 1))) := by
              have h1 := hst.1
              have e5 := bput_next (L := R) (zs := List.replicate N 0) (k := i) (z := 73) (by rw [HRL.out]; simp) (by rw [HRL.out]; omega) e1
              rw [show (((73 : UInt8).toNat : Nat) : Int) = 73 from rfl] at e5
              rw [e5] at h1
              exact h1
            have hdc := HX.out.2.1.cellAt i (by omega)
            have hf := HX.out.2.1.frozenAt i
            obtain ⟨x0, hx0⟩ : ∃ x0, wc.cell? ⟨g, i, none⟩ = some x0 := ⟨_, hdc.trans (List.getElem?_eq_getElem (by rw [bvals_len, List.length_append, List.length_take, List.length_drop, HRL.out, List.length_replicate]; omega))⟩
            have HS := Go.Lib.hid (show WS W.heap.size K db tb wb (wc.setCell ⟨g, i, none⟩ (.int .u8 73)) ∧ (wc.setCell ⟨g, i, none⟩ (.int .u8 73)).ownsRow W.heap.size 5 1 (.slice (some ⟨g, 0, none⟩) N N) N (bvals (R.take (i + 1) ++ (List.replicate N 0).drop (i + 1))) ∧ Below W.heap.size W (wc.setCell ⟨g, i, none⟩ (.int .u8 73)) from ⟨HX.out.1.kept hst.2 (fun e => HG.out.1 (by injection e with e; exact e.symm)) (fun e => HG.out.2.1 (by injection e with e; exact e.symm)) (fun e => HG.out.2.2.1 (by injection e with e; exact e.symm)), hst1, HX.out.2.2.setCell (p := ⟨g, i, none⟩) HG.out.2.2.2 _⟩)
            clear hst hst1 hdc e1
            go_wp2_with fail
            go_roundw
            case rel => exact ⟨i + 1, p1, hh + 1, k, q, by omega, rfl, by first | rfl | go_num | (congr 1; omega), by go_num, by go_num, by have := HPH.out.1; omega, hk6, HMN, HS⟩
            case measure => simp [intOf]; omega
          · have hlti2 : ¬ (k : Int) < (E2 : Int) := by omega
            have hO := hOf.out hlt
            obtain ⟨h1, rfl⟩ : ∃ h1, hh = h1 + 1 := ⟨hh - 1, by omega⟩
            obtain ⟨k2, hk2⟩ : ∃ k2, k - E2 = k2 := ⟨_, rfl⟩
            have hkk : (k : Int) - (E2 : Int) = (k2 : Int) := by omega
            have hcons : R[i]'hiR :: R.drop (i + 1) = 79 :: atD K q h1 k2 := by rw [← HRD.out, HM.out.1, hOa.out hlt, hk2]; rfl
            obtain ⟨HRI, HRN⟩ := List.cons.inj hcons
            have HMN : Hid (R.drop (i + 1) = atD K q h1 k2 ∧ k2 < lE K q h1 ∧ h1 ≤ K) := Go.Lib.hid ⟨HRN, by rw [← hk2]; exact hO.2, by have := HPH.out.2; omega⟩
            clear hO
            have hst := HX.out.2.1.stored i (.int .u8 79)
            have e1 : R[i]'hiR = 79 := HRI
            have hst1 : (wc.setCell ⟨g, i, none⟩ (.int .u8 79)).ownsRow W.heap.size 5 1 (.slice (some ⟨g, 0, none⟩) N N) N (bvals (R.take (i + 1) ++ (List.replicate N 0).drop (i + 1))) := by
              have h1 := hst.1
              have e5 := bput_next (L := R) (zs := List.replicate N 0) (k := i) (z := 79) (by rw [HRL.out]; simp) (by rw [HRL.out]; omega) e1
              rw [show (((79 : UInt8).toNat : Nat) : Int) = 79 from rfl] at e5
              rw [e5] at h1
              exact h1
            have hdc := HX.out.2.1.cellAt i (by omega)
            have hf := HX.out.2.1.frozenAt i
            obtain ⟨x0, hx0⟩ : ∃ x0, wc.cell? ⟨g, i, none⟩ = some x0 := ⟨_, hdc.trans (List.getElem?_eq_getElem (by rw [bvals_len, List.length_append, List.length_take, List.length_drop, HRL.out, List.length_replicate]; omega))⟩
            have HS := Go.Lib.hid (show WS W.heap.size K db tb wb (wc.setCell ⟨g, i, none⟩ (.int .u8 79)) ∧ (wc.setCell ⟨g, i, none⟩ (.int .u8 79)).ownsRow W.heap.size 5 1 (.slice (some ⟨g, 0, none⟩) N N) N (bvals (R.take (i + 1) ++ (List.replicate N 0).drop (i + 1))) ∧ Below W.heap.size W (wc.setCell ⟨g, i, none⟩ (.int .u8 79)) from ⟨HX.out.1.kept hst.2 (fun e => HG.out.1 (by injection e with e; exact e.symm)) (fun e => HG.out.2.1 (by injection e with e; exact e.symm)) (fun e => HG.out.2.2.1 (by injection e with e; exact e.symm)), hst1, HX.out.2.2.setCell (p := ⟨g, i, none⟩) HG.out.2.2.2 _⟩)
            clear hst hst1 hdc e1
            go_wp2_with fail
            go_roundw
            case rel => exact ⟨i + 1, p, h1, k2, q, by omega, by first | rfl | go_num | (congr 1; omega), rfl, by first | rfl | go_num | (congr 1; omega), by go_num, by have := HPH.out.1; omega, by omega, HMN, HS⟩
            case measure => simp [intOf]; omega
        · have hin : i = N := by omega
          subst hin
          have hown := HX.out.2.1
          have e1 : R.take i ++ (List.replicate i 0).drop i = R := by rw [List.take_of_length_le (by rw [HRL.out]; exact Nat.le_refl _), List.drop_of_length_le (by simp), List.append_nil]
          rw [e1] at hown
          have hconv := own_text hown
          clear hown e1
          go_wp2_with fail
          go_ret2
          exact ⟨rfl, HX.out.2.2⟩
    · rw [if_neg (by rintro ⟨_, _, _, _, h3, h4⟩; exact hk ⟨h3, h4⟩)] at h
      cases h
      obtain ⟨E, hE⟩ : ∃ E, lE K (2 * m) 0 = E := ⟨_, rfl⟩
      rw [hE] at CC hk hE16
      have CC := Go.Lib.hid CC
      clear hE h17 hw hw3 hans hj hy0 hy1 hy2
      by_cases hk0 : k < 0
      · clear hk
        go_enter Try.func30, Try.ntmps30
        go_wp2_with fail
        refine (CC.out _).mono ?_
        rintro e w0 ⟨rfl, hb0⟩
        have H0 := Go.Lib.hid hb0
        clear hb0
        go_wp2_with fail
        go_ret2
        exact ⟨rfl, H0.out⟩
      · have hkE : (E : Int) ≤ k := by omega
        clear hk
        go_enter Try.func30, Try.ntmps30
        go_wp2_with fail
        refine (CC.out _).mono ?_
        rintro e w0 ⟨rfl, hb0⟩
        have H0 := Go.Lib.hid hb0
        clear hb0
        go_wp2_with fail
        go_ret2
        exact ⟨rfl, H0.out⟩
  · rw [if_neg (by rintro ⟨h1, h2, h3, h4, _⟩; exact h17 ⟨h1, h2, h3, h4⟩)] at h
    cases h
    have CC := Go.Lib.hid (fun w2 => implWithin n dd 0 false (by unfold withinAns; rw [if_neg h17]) hw hw3 w2)
    clear h17 hw hw3
    go_enter Try.func30, Try.ntmps30
    go_wp2_with fail
    refine (CC.out _).mono ?_
    rintro e w0 ⟨rfl, hb0⟩
    have H0 := Go.Lib.hid hb0
    clear hb0
    go_wp2_with fail
    go_ret2
    exact ⟨rfl, H0.out⟩

theorem held_le7 {s : ByteArray} (hw : Word s) {i h : Nat} (hi : i ≤ s.size) (hd : heldTo s i = some h) : ∃ p, 2 * p + h = s.size - i ∧ h ≤ 7 := by
  obtain ⟨m, hm⟩ : ∃ m, s.size = i + m := ⟨s.size - i, by omega⟩
  have h3 := hw.2.2
  rw [hm] at h3
  obtain ⟨d, hd2, h1, h2⟩ := held_back m i 0 h3
  rw [hd] at hd2; cases hd2
  have hp := held_parity _ _ hd
  have he := word_even hw
  have := hw.2.1
  exact ⟨(m - h) / 2, by omega, by omega⟩

set_option maxRecDepth 100000 in
set_option maxHeartbeats 4000000 in
theorem implRankD (s : ByteArray) (dd : Int) (r' : Int) (b : Bool) (h : rankDAns s dd = (r', b)) (hs : s.size ≤ 1048576) (_hw : (Lit.int .i64 dd).wf = true) (W : World) :
    Calls Try.prog 33 #[.string s, .int .i64 dd] W fun e w' => e = .returned (.tuple #[.int .i64 r', .bool b]) ∧ Below W.heap.size W w' := by
  unfold rankDAns at h
  by_cases hw : Word s
  · obtain ⟨dp, hdp⟩ : ∃ dp, depthTo s s.size = dp := ⟨_, rfl⟩
    have CD := Go.Lib.hid (fun w2 => implDepth s (dp : Int) true (by unfold depthAns; rw [if_pos hw, hdp]) hs w2)
    rw [hdp] at h
    by_cases hd17 : 1 ≤ dd ∧ dd ≤ 7
    · obtain ⟨K, rfl⟩ : ∃ K : Nat, dd = (K : Int) := ⟨dd.toNat, by omega⟩
      have hK1 : 1 ≤ K := by omega
      have hK7 : K ≤ 7 := by omega
      have CL := Go.Lib.hid (fun w2 => isLimit_any (K : Int) w2 true (decide_eq_true hd17))
      by_cases hle : (dp : Int) ≤ (K : Int)
      · rw [if_pos ⟨hw, hd17.1, hd17.2, hle⟩, Int.toNat_natCast] at h
        cases h
        have hle2 : ¬ (K : Int) < (dp : Int) := by omega
        have hle3 : ¬ K < dp := by omega
        have hle4 : decide (K < dp) = false := decide_eq_false hle3
        have h14 := hw.2.1
        have HW := Go.Lib.hid hw
        have HDP := Go.Lib.hid (And.intro hdp (show dp ≤ K by omega))
        have hev := word_even hw
        obtain ⟨N, hN⟩ : ∃ N, s.size / 2 = N := ⟨_, rfl⟩
        have hNi2 : (s.size : Int) / 2 = (N : Int) := by omega
        have HN : Hid (s.size = 2 * N) := Go.Lib.hid (by rw [← hN]; exact hev)
        obtain ⟨R, hR⟩ : ∃ R, rkL K s.data.toList 0 = R := ⟨_, rfl⟩
        rw [hR]
        have HR := Go.Lib.hid hR
        have CWW := Go.Lib.hid (fun w2 => waysWithin_any K (by omega) w2)
        have CF := Go.Lib.hid (fun (B : Nat) (db tb wb : Nat) (a b : Int) (h1 : -1 ≤ a) (h2 : a ≤ 7) (h3 : -1 ≤ b) (h4 : b ≤ 8) (w : World) (hs : WS B K db tb wb w) => ways_any B K db tb wb hK7 (2 * a + b + 3).toNat a b (by omega) h1 h2 h3 h4 w hs)
        clear hw hR hdp hd17 hle hev hN
        go_enter Try.func33, Try.ntmps33
        go_wp2_with fail
        refine (CD.out _).mono ?_
        rintro e w0 ⟨rfl, hb0⟩
        have H0 := Go.Lib.hid hb0
        clear hb0
        go_wp2_with fail
        refine (CL.out _).mono ?_
        rintro e w1 ⟨rfl, rfl⟩
        go_wp2_with fail
        refine (CWW.out _).mono ?_
        rintro e w1 ⟨db, tb, wb, he, hs1, hdb, htb, hwb, hbel⟩
        unfold fv at he
        subst he
        obtain ⟨B, hB⟩ : ∃ B, w0.heap.size = B := ⟨_, rfl⟩
        rw [hB] at hs1 hdb htb hwb hbel
        have hWs : W.heap.size ≤ B := by rw [← hB]; exact H0.out.size
        have H1 := Go.Lib.hid (And.intro hs1 (And.intro (show Below W.heap.size W w1 from H0.out.trans (hbel.mono hWs)) (And.intro (Nat.le_trans hWs htb) (show db < w1.heap.size ∧ tb < w1.heap.size ∧ wb < w1.heap.size from ⟨World.block_lt_of_cell? w1 ⟨db, 0, none⟩ hs1.2.1, (by obtain ⟨⟨l, k1, k2⟩, _⟩ := hs1; exact (k2.lt tb rfl).2), World.block_lt_of_cell? w1 ⟨wb, 0, none⟩ hs1.2.2.1⟩))))
        clear hs1 hdb htb hwb hbel hB hWs
        go_wp2_with fail
        obtain ⟨IT, hIT⟩ : ∃ IT, w1.heap.size = IT := ⟨_, rfl⟩
        have HG : Hid (tb ≠ IT ∧ db ≠ IT ∧ wb ≠ IT ∧ W.heap.size ≤ IT ∧ W.heap.size ≤ tb) := Go.Lib.hid (by have h1 := H1.out.2.2.2; have h2 := H1.out.2.1.size; have h3 := H1.out.2.2.1; omega)
        have hit0 : (w1.alloc (.stringIter s 0)).heap[IT]? = some (.stringIter s 0) := by rw [← hIT]; exact heap_alloc_new _ _
        have HX0 : Hid (WS B K db tb wb (w1.alloc (.stringIter s 0)) ∧ Below W.heap.size W (w1.alloc (.stringIter s 0))) := Go.Lib.hid ⟨H1.out.1.kept (World.grownBy_alloc w1 (.stringIter s 0) none) (by simp) (by simp) (by simp), H1.out.2.1.alloc H1.out.2.1.size _⟩
        rw [hIT]
        clear hIT
        go_loopw [9, 10, 11] (fun rv pv hv wr => ∃ (i rk p hh : Nat), i ≤ s.size ∧ rv = .int .i64 rk ∧ pv = .int .i64 p ∧ hv = .int .i64 hh ∧ 2 * p + hh = s.size - i ∧ hh ≤ 7 ∧ rk ≤ 16384 * i ∧ wr.heap[IT]? = some (.stringIter s i) ∧ Hid (WS B K db tb wb wr ∧ Below W.heap.size W wr) ∧ Hid (heldTo s i = some hh ∧ rk + rkL K (s.data.toList.drop i) hh = R)) (fun _ _ _ wr => s.size - wr.iterPos IT)
        case atStart => exact ⟨0, 0, N, 0, Nat.zero_le _, rfl, by first | rfl | go_num | (congr 1; omega), rfl, by have := HN.out; omega, by omega, Nat.zero_le _, hit0, HX0, Go.Lib.hid ⟨rfl, by rw [← HR.out]; simp⟩⟩
        case round =>
          obtain ⟨i, rk, p, hh, hin, rfl, rfl, rfl, hph, hh7, hrk, hit, HX, HS⟩ := hrel
          have HPOS := Go.Lib.hid (iter_pos hit)
          clear hit0 HX0
          by_cases hlt : i < s.size
          · have hnx : ∀ ty, (Instr.next (.pointer (some ⟨IT, 0, none⟩)) true ty).run Try.prog wr = _ := fun ty => Lib.run_next_any_at wr IT s i ty hit hlt
            obtain ⟨d', hd', hd1, hd2, hc⟩ := HW.out.at hlt
            have hdd : d' = hh := by have h1 := HS.out.1; rw [hd'] at h1; exact Option.some.inj h1
            subst hdd
            have hasc : (s[i]'hlt).toNat < 128 := by
              rcases hc with ⟨hI, _⟩ | ⟨hO, _⟩
              · have := (byt_nat hlt 73 (by omega)).2 hI; omega
              · have := (byt_nat hlt 79 (by omega)).2 hO; omega
            rw [decode_ascii s i hlt hasc] at hnx
            have hit2 := Lib.iterAt_heap wr IT s i (i + 1) hit
            have hb2 : WS B K db tb wb (wr.iterAt IT s (i + 1)) ∧ Below W.heap.size W (wr.iterAt IT s (i + 1)) := ⟨HX.out.1.kept (iter_grown hit (i + 1)) (fun e => HG.out.1 (by injection e with e; exact e.symm)) (fun e => HG.out.2.1 (by injection e with e; exact e.symm)) (fun e => HG.out.2.2.1 (by injection e with e; exact e.symm)), Lib.below_iterAt HX.out.2 HG.out.2.2.2.1 s (i + 1)⟩
            obtain ⟨wi, hwi⟩ : ∃ wi, wr.iterAt IT s (i + 1) = wi := ⟨_, rfl⟩
            simp only [hwi] at hnx hit2 hb2
            have HI := Go.Lib.hid (And.intro hit2 hb2)
            have hdb := drop_byt hlt
            have hrb : rk ≤ 16384 * 13 := by omega
            clear hwi hit hb2 hit2 hasc HX
            rcases hc with ⟨hI, hnx2, hI4⟩ | ⟨hO, hd0, hnx2⟩
            · have hnum := (byt_nat hlt 73 (by omega)).2 hI
              simp only [hnum] at hnx
              obtain ⟨p2, hp2, hp27⟩ := held_le7 HW.out (i := i + 1) (by omega) hnx2
              have hpp : p = p2 + 1 := by omega
              subst hpp
              have HN2 : Hid (heldTo s (i + 1) = some (d' + 1) ∧ rk + rkL K (s.data.toList.drop (i + 1)) (d' + 1) = R) := Go.Lib.hid ⟨hnx2, by
                have h1 := HS.out.2
                rw [hdb, hI] at h1
                exact h1⟩
              have HPH := Go.Lib.hid (And.intro hph hp2)
              have hp2b : p2 ≤ 7 := by omega
              clear hd' hd1 hd2 hdb hI hnx2 hI4 hnum hph hp2
              go_wp2_with fail
              go_roundw
              case rel => exact ⟨i + 1, rk, p2, d' + 1, by omega, rfl, by first | rfl | go_num | (congr 1; omega), by go_num, HPH.out.2, hp27, by omega, HI.out.1, Go.Lib.hid HI.out.2, HN2⟩
              case measure => rw [iter_pos HI.out.1, HPOS.out]; omega
            · have hnum := (byt_nat hlt 79 (by omega)).2 hO
              simp only [hnum] at hnx
              obtain ⟨l, hl⟩ : ∃ l, s.size - (i + 1) = l := ⟨_, rfl⟩
              have hll : (s.data.toList.drop (i + 1)).length = l := by rw [List.length_drop, Array.length_toList]; exact hl
              obtain ⟨d1, rfl⟩ : ∃ d1, d' = d1 + 1 := ⟨d' - 1, by omega⟩
              have hza := zI_ahead (K := K) (p := p) (h := d1 + 1) (m := l) (by omega)
              obtain ⟨E, hE⟩ : ∃ E, lE K l (d1 + 1 + 1) = E := ⟨_, rfl⟩
              have hE16 : E ≤ 16384 := by rw [← hE]; exact lE_16k (by omega)
              rw [hE] at hza
              have cf := CF.out B db tb wb ((p : Int) - 1) (((d1 + 1 : Nat) : Int) + 1) (by omega) (by omega) (by omega) (by omega)
              rw [hza, show ((d1 + 1 : Nat) : Int) = (d1 : Int) + 1 by omega] at cf
              have CFX := Go.Lib.hid cf
              have HN2 : Hid (heldTo s (i + 1) = some d1 ∧ (rk + E) + rkL K (s.data.toList.drop (i + 1)) d1 = R) := Go.Lib.hid ⟨hnx2, by
                have h1 := HS.out.2
                rw [hdb, hO] at h1
                have h2 : rkL K (79 :: s.data.toList.drop (i + 1)) (d1 + 1) = lE K (s.data.toList.drop (i + 1)).length (d1 + 1 + 1) + rkL K (s.data.toList.drop (i + 1)) d1 := rfl
                rw [h2, hll, hE] at h1
                omega⟩
              have hp7 : p ≤ 7 := by omega
              have HPH := Go.Lib.hid hph
              clear hd' hd1 hd2 hdb hO hnx2 hnum hl hll hE hza cf hph
              go_wp2_with fail
              refine (CFX.out _ HI.out.2.1).mono ?_
              rintro e wc ⟨rfl, hs5, hg5⟩
              have HX5 := Go.Lib.hid (And.intro (iter_kept HI.out.1 hg5 (fun e => HG.out.1 (by injection e))) (And.intro hs5 (HI.out.2.2.grown hg5 HI.out.2.2.size (fun k hk => by cases hk; exact HG.out.2.2.2.2))))
              clear hs5 hg5
              go_wp2_with fail
              go_roundw
              case rel => exact ⟨i + 1, rk + E, p, d1, by omega, by go_num, rfl, by first | rfl | go_num | (congr 1; omega), by have := HPH.out; omega, by omega, by omega, HX5.out.1, Go.Lib.hid HX5.out.2, HN2⟩
              case measure => rw [iter_pos HX5.out.1, HPOS.out]; omega
          · have hin2 : i = s.size := by omega
            subst hin2
            have hnx : ∀ ty, (Instr.next (.pointer (some ⟨IT, 0, none⟩)) true ty).run Try.prog wr = _ := fun ty => Lib.run_next_end_at wr IT s s.size ty hit (Nat.lt_irrefl _)
            have HE : Hid (rk = R) := Go.Lib.hid (by
              have h1 := HS.out.2
              rw [List.drop_of_length_le (by rw [Array.length_toList]; exact Nat.le_refl _)] at h1
              simpa [rkL] using h1)
            go_wp2_with fail
            go_ret2
            exact ⟨by rw [← HE.out]; rfl, HX.out.2⟩
      · rw [if_neg (by rintro ⟨_, _, _, h4⟩; exact hle h4)] at h
        cases h
        have hle2 : (K : Int) < (dp : Int) := by omega
        clear hw hdp hd17 hle
        go_enter Try.func33, Try.ntmps33
        go_wp2_with fail
        refine (CD.out _).mono ?_
        rintro e w0 ⟨rfl, hb0⟩
        have H0 := Go.Lib.hid hb0
        clear hb0
        go_wp2_with fail
        refine (CL.out _).mono ?_
        rintro e w1 ⟨rfl, rfl⟩
        go_wp2_with fail
        go_ret2
        exact ⟨rfl, H0.out⟩
    · rw [if_neg (by rintro ⟨_, h3, h4, _⟩; exact hd17 ⟨h3, h4⟩)] at h
      cases h
      have CL := Go.Lib.hid (fun w2 => isLimit_any dd w2 false (decide_eq_false hd17))
      clear hw hd17 hdp
      go_enter Try.func33, Try.ntmps33
      go_wp2_with fail
      refine (CD.out _).mono ?_
      rintro e w0 ⟨rfl, hb0⟩
      have H0 := Go.Lib.hid hb0
      clear hb0
      go_wp2_with fail
      refine (CL.out _).mono ?_
      rintro e w1 ⟨rfl, rfl⟩
      go_wp2_with fail
      go_ret2
      exact ⟨rfl, H0.out⟩
  · have CD := Go.Lib.hid (fun w2 => implDepth s 0 false (by unfold depthAns; rw [if_neg hw]) hs w2)
    rw [if_neg (fun h2 => hw h2.1)] at h
    cases h
    clear hw
    go_enter Try.func33, Try.ntmps33
    go_wp2_with fail
    refine (CD.out _).mono ?_
    rintro e w0 ⟨rfl, hb0⟩
    have H0 := Go.Lib.hid hb0
    clear hb0
    go_wp2_with fail
    go_ret2
    exact ⟨rfl, H0.out⟩

theorem prof_at {n i : Nat} (hi : i < n) : (profL n)[i]? = some ((lE (i + 1) (2 * n) 0 : Int) - (lE i (2 * n) 0 : Int)) := by
  simp [profL, hi]

set_option maxRecDepth 100000 in
set_option maxHeartbeats 4000000 in
theorem implProf (a : Int) (xs : List Int) (b : Bool) (h : profAns a = (xs, b)) (hw : (Lit.int .i64 a).wf = true) (W : World) :
    Calls Try.prog 36 #[.int .i64 a] W fun e w' => ListTo W e w' xs b := by
  unfold profAns at h
  by_cases h1 : a < 1
  · rw [if_neg (by omega)] at h
    cases h
    go_enter Try.func36, Try.ntmps36
    go_wp2_with fail
    go_ret2
    exact ⟨_, rfl, World.ownsRow_made _ _ _ (Nat.le_refl _) (by unfold maxLen; omega) rfl, (Below.refl _ _).alloc (Nat.le_refl _) _⟩
  · by_cases h7 : 7 < a
    · rw [if_neg (by omega)] at h
      cases h
      go_enter Try.func36, Try.ntmps36
      go_wp2_with fail
      go_ret2
      exact ⟨_, rfl, World.ownsRow_made _ _ _ (Nat.le_refl _) (by unfold maxLen; omega) rfl, (Below.refl _ _).alloc (Nat.le_refl _) _⟩
    · obtain ⟨i0, hi, hz0, hz1, hz2⟩ := info_parts infoI
      obtain ⟨n, rfl⟩ : ∃ n : Nat, a = (n : Int) := ⟨a.toNat, by omega⟩
      rw [if_pos (by omega), Int.toNat_natCast] at h
      cases h
      have hn1 : 1 ≤ n := by omega
      have hn7 : n ≤ 7 := by omega
      have HPA := Go.Lib.hid (fun (i : Nat) (hi : i < n) => prof_at hi)
      have HPL := Go.Lib.hid (profL_len n)
      have CWW := Go.Lib.hid (fun (K : Nat) (h7 : K ≤ 7) w2 => waysWithin_any K h7 w2)
      have CF := Go.Lib.hid (fun (W0 : World) (K : Nat) (h7 : K ≤ 7) (db tb wb : Nat) (htb : W0.heap.size ≤ tb) (w : World) (hs : WS W0.heap.size K db tb wb w) (hbel : Below W0.heap.size W0 w) => ways_start (n := n) h7 hn7 htb hs hbel)
      have HE16 := Go.Lib.hid (fun (K : Nat) => @lE_16k K (2 * n) 0 (by omega))
      obtain ⟨P, hP⟩ : ∃ P, profL n = P := ⟨_, rfl⟩
      rw [hP] at HPA HPL ⊢
      clear hP hw
      go_enter Try.func36, Try.ntmps36
      go_wp2_with (at_make; refine wpList_make_full _ rfl _ _ 24 rfl W.heap.size 3 i0 (.int .i64 0) 1 Try.underlying24 hi hz0 hz1 .i64 .i64 n n n rfl rfl rfl rfl (by rw [hz2]; omega) (by unfold maxLen; omega) (Nat.le_refl _) ?_; intro w2 hown1 hgrow1)
      rw [made_int] at hown1
      have H0 : Hid (w2.ownsRow W.heap.size 3 1 (.slice (some ⟨W.heap.size, 0, none⟩) n n) n (vals (P.take 0 ++ (List.replicate n 0).drop 0)) ∧ Below W.heap.size W w2) := Go.Lib.hid ⟨by simpa using hown1, (Below.refl _ _).grown hgrow1 (Nat.le_refl _) (fun k hk => by cases hk)⟩
      clear hown1 hgrow1
      go_loopw [16] (fun iv wr => ∃ (i : Nat), i ≤ n ∧ iv = .int .i64 i ∧ Hid (wr.ownsRow W.heap.size 3 1 (.slice (some ⟨W.heap.size, 0, none⟩) n n) n (vals (P.take i ++ (List.replicate n 0).drop i)) ∧ Below W.heap.size W wr)) (fun i _ => n - (intOf i).toNat)
      case atStart => exact ⟨0, Nat.zero_le _, rfl, H0⟩
      case round =>
        obtain ⟨i, hin, rfl, HX⟩ := hrel
        clear H0
        by_cases hlt : i < n
        · have hii : (i : Int) < (n : Int) := by omega
          obtain ⟨z, hz⟩ : ∃ z, i + 1 = z := ⟨_, rfl⟩
          have hzi : IntKind.i64.wrap ((i : Int) + 1) = (z : Int) := by rw [IntWalk.i64_in _ (by omega)]; omega
          have hpa := HPA.out i hlt
          obtain ⟨A, hA⟩ : ∃ A, lE z (2 * n) 0 = A := ⟨_, rfl⟩
          obtain ⟨B, hB⟩ : ∃ B, lE i (2 * n) 0 = B := ⟨_, rfl⟩
          have hA6 := HE16.out z
          have hB6 := HE16.out i
          rw [hz, hA, hB] at hpa
          have CA := Go.Lib.hid (fun (W0 : World) (db tb wb : Nat) (htb : W0.heap.size ≤ tb) (w : World) (hs : WS W0.heap.size z db tb wb w) (hbel : Below W0.heap.size W0 w) => hA ▸ CF.out W0 z (by omega) db tb wb htb w hs hbel)
          have CB := Go.Lib.hid (fun (W0 : World) (db tb wb : Nat) (htb : W0.heap.size ≤ tb) (w : World) (hs : WS W0.heap.size i db tb wb w) (hbel : Below W0.heap.size W0 w) => hB ▸ CF.out W0 i (by omega) db tb wb htb w hs hbel)
          have CZ := Go.Lib.hid (fun w2 => CWW.out z (by omega) w2)
          have CI := Go.Lib.hid (fun w2 => CWW.out i (by omega) w2)
          rw [hA] at hA6
          rw [hB] at hB6
          have HPI := Go.Lib.hid hpa
          have HZ := Go.Lib.hid hz
          clear hA hB hpa hz
          go_wp2_with fail
          refine (CZ.out _).mono ?_
          rintro e w3 ⟨db, tb, wb, he, hs, hdb, htb, hwb, hbel⟩
          unfold fv at he
          subst he
          go_wp2_with fail
          refine (CA.out _ db tb wb htb _ hs hbel).mono ?_
          rintro e w4 ⟨rfl, hb4⟩
          have H4 := Go.Lib.hid (And.intro (kept_call HX.out.1 hb4) (HX.out.2.trans (hb4.mono HX.out.2.size)))
          clear hs hbel hb4 htb hdb hwb
          go_wp2_with fail
          refine (CI.out _).mono ?_
          rintro e w5 ⟨db2, tb2, wb2, he, hs, hdb, htb, hwb, hbel⟩
          unfold fv at he
          subst he
          go_wp2_with fail
          refine (CB.out _ db2 tb2 wb2 htb _ hs hbel).mono ?_
          rintro e w6 ⟨rfl, hb6⟩
          have H6 := Go.Lib.hid (And.intro (kept_call H4.out.1 hb6) (H4.out.2.trans (hb6.mono H4.out.2.size)))
          clear hs hbel hb6 htb hdb hwb
          have hst := H6.out.1.stored i (.int .i64 ((A : Int) - (B : Int)))
          have hst1 : (w6.setCell ⟨W.heap.size, i, none⟩ (.int .i64 ((A : Int) - (B : Int)))).ownsRow W.heap.size 3 1 (.slice (some ⟨W.heap.size, 0, none⟩) n n) n (vals (P.take (i + 1) ++ (List.replicate n 0).drop (i + 1))) := by
            have h1 := hst.1
            have e5 : (vals (P.take i ++ (List.replicate n 0).drop i)).set i (.int .i64 ((A : Int) - (B : Int))) = vals (P.take (i + 1) ++ (List.replicate n 0).drop (i + 1)) := by
              have hiP : i < P.length := by rw [HPL.out]; exact hlt
              have hPi : P[i] = (A : Int) - (B : Int) := by have h := HPI.out; rw [List.getElem?_eq_getElem hiP] at h; exact Option.some.inj h
              unfold vals
              rw [← List.map_set, List.set_append_right _ _ (by simp; omega), show i - (P.take i).length = 0 by simp; omega, List.drop_eq_getElem_cons (by simp; omega), List.set_cons_zero, List.take_succ_eq_append_getElem hiP, hPi, List.append_assoc]
              rfl
            rw [e5] at h1
            exact h1
          have hdc := H6.out.1.cellAt i (by omega)
          have hf := H6.out.1.frozenAt i
          obtain ⟨x0, hx0⟩ : ∃ x0, w6.cell? ⟨W.heap.size, i, none⟩ = some x0 := ⟨_, hdc.trans (List.getElem?_eq_getElem (by rw [vals_len, List.length_append, List.length_take, List.length_drop, HPL.out, List.length_replicate]; omega))⟩
          have HS := Go.Lib.hid (And.intro hst1 (H6.out.2.setCell (p := ⟨W.heap.size, i, none⟩) (Nat.le_refl _) (.int .i64 ((A : Int) - (B : Int)))))
          clear hst hst1 hdc
          go_wp2_with fail
          go_roundw
          case rel => exact ⟨i + 1, by omega, by have := HZ.out; first | rfl | go_num | (congr 1; omega), HS⟩
          case measure => have := HZ.out; simp [intOf]; omega
        · have hie : i = n := by omega
          subst hie
          have e1 : P.take i ++ (List.replicate i 0).drop i = P := by rw [List.take_of_length_le (by rw [HPL.out]; exact Nat.le_refl _), List.drop_of_length_le (by simp), List.append_nil]
          have H3 : Hid (wr.ownsRow W.heap.size 3 1 (.slice (some ⟨W.heap.size, 0, none⟩) i i) i (vals P)) := Go.Lib.hid (by rw [← e1]; exact HX.out.1)
          clear e1
          go_wp2_with fail
          go_ret2
          exact ⟨_, rfl, by rw [HPL.out]; exact H3.out, HX.out.2⟩

theorem prof_alen {a : Int} {xs : List Int} {b : Bool} (h : profAns a = (xs, b)) : xs.length ≤ 1048576 := by
  unfold profAns at h; split at h
  · cases h; rw [profL_len]; omega
  · cases h; simp

end Go.Proofs.Ytnhhnffolmgceaa.LimJC
