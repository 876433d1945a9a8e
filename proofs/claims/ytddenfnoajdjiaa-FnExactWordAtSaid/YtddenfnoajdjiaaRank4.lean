/-
  Contracts: RankOfWord, WordAt and CountOneStack of the model and of the program. Conditions: texts of at most 2^20 bytes.
-/
import Derived.Test.YtddenfnoajdjiaaRankW
import Derived.Test.YtddenfnoajdjiaaEndsC
namespace Go.Proofs.Ytddenfnoajdjiaa.Rank4C
open Go.RowKit SeesC IntsC ExactC NumC IterC WordMath InC WordC WordsC WordsOfC EndsM RankWC EndsC

theorem wf_small {n : Int} (h0 : 0 ≤ n) (h1 : n ≤ 1048576) : (Lit.int .i64 n).wf = true := by
  have e1 : IntKind.i64.min = -9223372036854775808 := rfl
  have e2 : IntKind.i64.max = 9223372036854775807 := rfl
  simp [Lit.wf, e1, e2]
  omega

theorem all_pos {m : Nat} (h1 : 1 ≤ m) (h7 : m ≤ 7) : 0 < (allW m).length := by
  rw [all_len]
  have : m = 1 ∨ m = 2 ∨ m = 3 ∨ m = 4 ∨ m = 5 ∨ m = 6 ∨ m = 7 := by omega
  rcases this with rfl | rfl | rfl | rfl | rfl | rfl | rfl <;> decide +kernel

theorem all_16k {m : Nat} (h7 : m ≤ 7) : (allW m).length ≤ 16384 := wordsFrom_16k (by omega)

theorem words_ans {m : Nat} (h1 : 1 ≤ m) (h7 : m ≤ 7) : wordsAns (m : Int) = (allW m, true) := by
  unfold wordsAns
  rw [if_pos (by omega), Int.toNat_natCast]
  rfl
theorem words_not {n : Int} (h : ¬ (1 ≤ n ∧ n ≤ 7)) : wordsAns n = ([], false) := by
  unfold wordsAns
  rw [if_neg h]

theorem str_cells {w : World} {base g n cap : Nat} {ss : List ByteArray} (x : ByteArray) (h : w.ownsRow base 9 1 (.slice (some ⟨g, 0, none⟩) n cap) n (ss.map Value.string)) : ∀ j, j < n → w.cell? ⟨g, 0 + j, none⟩ = some (.string (ss.getD j x)) := by
  intro j hj
  have hl : ss.length = n := by simpa using h.1
  rw [h.cellAt (0 + j) (by omega)]
  simp [show j < ss.length by omega]

set_option maxRecDepth 100000 in
set_option maxHeartbeats 2000000 in
theorem implRankW (s : ByteArray) (r' : Int) (b : Bool) (h : rankWAns s = (r', b)) (hs : s.size ≤ 1048576) (W : World) :
    Calls Try.prog 35 #[.string s] W fun e w' => e = .returned (.tuple #[.int .i64 r', .bool b]) ∧ Below W.heap.size W w' := by
  obtain ⟨m, hm⟩ : ∃ m, s.size / 2 = m := ⟨_, rfl⟩
  have hmi : (m : Int) = (s.size : Int) / 2 := by omega
  have hwf := wf_small (n := (m : Int)) (by omega) (by omega)
  unfold rankWAns at h
  by_cases h17 : 1 ≤ m ∧ m ≤ 7
  · have hpos := all_pos h17.1 h17.2
    have h16 := all_16k h17.2
    have hfd : decide (Lib.bsGo (fun t => Op.bytesLess ((allW m).getD t s).toList s.toList) (allW m).length 0 (allW m).length < (allW m).length ∧ (allW m).getD (Lib.bsGo (fun t => Op.bytesLess ((allW m).getD t s).toList s.toList) (allW m).length 0 (allW m).length) s = s) = isWord s := by
      unfold isWord
      rw [decide_eq_decide]
      exact found_word h17.1 h17.2 hm.symm
    have HFR := Go.Lib.hid (fun hw : Word s => found_rank hm.symm hw)
    have CB := Go.Lib.hid (fun (g c : Nat) (w : World) (hc : ∀ j, j < (allW m).length → w.cell? ⟨g, 0 + j, none⟩ = some (.string ((allW m).getD j s))) => search_any g (allW m).length c (fun t => (allW m).getD t s) s w (by omega) hc)
    rw [hfd] at CB
    obtain ⟨kk, hkk⟩ : ∃ kk, Lib.bsGo (fun t => Op.bytesLess ((allW m).getD t s).toList s.toList) (allW m).length 0 (allW m).length = kk := ⟨_, rfl⟩
    rw [hkk] at CB HFR
    have CW := Go.Lib.hid (fun W' => implWords (m : Int) (allW m) true (words_ans h17.1 h17.2) hwf W')
    rw [hmi] at CW
    obtain ⟨xs, hxs⟩ : ∃ xs, allW m = xs := ⟨_, rfl⟩
    rw [hxs] at CW CB hpos h16
    clear hfd hkk hxs hwf h17 hm hmi
    go_enter Try.func35, Try.ntmps35
    go_wp2_with fail
    refine (CW.out _).mono ?_
    rintro e w1 ⟨v, rfl, ho, hb⟩
    obtain ⟨g, c, rfl⟩ := own_pos ho hpos
    have hsc := Go.Lib.hid (str_cells s ho)
    have H1 := Go.Lib.hid hb
    clear ho hb
    go_wp2_with fail
    refine (CB.out g c w1 hsc.out).mono ?_
    rintro e w2 ⟨rfl, q, rfl⟩
    have H2 := Go.Lib.hid (ExactC.below_drewN (q := q) H1.out)
    obtain ⟨w2, hw2⟩ : ∃ w2, w1.drewN q = w2 := ⟨_, rfl⟩
    rw [hw2] at H2 ⊢
    clear hw2
    by_cases hw : Word s
    · have hi : isWord s = true := by unfold isWord; exact decide_eq_true hw
      rw [if_pos hw, ← HFR.out hw] at h
      cases h
      rw [hi]
      go_wp2_with fail
      go_ret2
      exact ⟨rfl, H2.out⟩
    · have hi : isWord s = false := by unfold isWord; exact decide_eq_false hw
      rw [if_neg hw] at h
      cases h
      rw [hi]
      go_wp2_with fail
      go_ret2
      exact ⟨rfl, H2.out⟩
  · have hnw : ¬ Word s := by rintro ⟨h1, h2, _⟩; omega
    rw [if_neg hnw] at h
    cases h
    have CW := Go.Lib.hid (fun W' => implWords (m : Int) [] false (words_not (by omega)) hwf W')
    rw [hmi] at CW
    clear hwf h17 hm hmi hnw
    go_enter Try.func35, Try.ntmps35
    go_wp2_with fail
    refine (CW.out _).mono ?_
    rintro e w1 ⟨v, rfl, ho, hb⟩
    obtain ⟨_, ad, cap, rfl, _, _⟩ := Sees.owns ho
    have H1 := Go.Lib.hid hb
    clear ho hb
    go_wp2_with fail
    refine (search_none ad cap s w1).mono ?_
    rintro e w2 ⟨rfl, rfl⟩
    go_wp2_with fail
    go_ret2
    exact ⟨rfl, H1.out⟩

theorem drop_byt {s : ByteArray} {i : Nat} (h : i < s.size) : s.data.toList.drop i = byt s i :: s.data.toList.drop (i + 1) := by
  have h2 : i < s.data.toList.length := by rw [Array.length_toList]; exact h
  rw [List.drop_eq_getElem_cons h2]
  congr 1
  unfold byt
  rw [List.getD_eq_getElem?_getD, List.getElem?_eq_getElem h2, Option.getD_some]

set_option maxRecDepth 100000 in
set_option maxHeartbeats 2000000 in
theorem l4WordRank_any (s : ByteArray) (hw : Word s) (W : World) :
    Calls Try.prog 88 #[.string s] W fun e w' => e = .returned (.int .i64 ((rankL s.data.toList 0 : Nat) : Int)) ∧ Below W.heap.size W w' := by
  obtain ⟨R, hR⟩ : ∃ R, rankL s.data.toList 0 = R := ⟨_, rfl⟩
  rw [hR]
  have HR := Go.Lib.hid hR
  have h14 := hw.2.1
  have HW := Go.Lib.hid hw
  clear hw hR
  go_enter Try.func88, Try.ntmps88
  go_wp2
  go_loopw [3, 4, 5] (fun rv dv iv wr => ∃ (i d rk : Nat), rv = .int .i64 rk ∧ dv = .int .i64 d ∧ iv = .int .i64 i ∧ i ≤ s.size ∧ d ≤ i ∧ rk ≤ 16384 * i ∧ Hid (Below W.heap.size W wr) ∧ Hid (heldTo s i = some d ∧ rk + rankL (s.data.toList.drop i) d = R)) (fun _ _ i _ => s.size - (intOf i).toNat)
  case atStart => exact ⟨0, 0, 0, rfl, rfl, rfl, Nat.zero_le _, Nat.le_refl _, Nat.zero_le _, Go.Lib.hid (Below.refl _ _), Go.Lib.hid ⟨rfl, by rw [← HR.out]; simp⟩⟩
  case round =>
    obtain ⟨i, d, rk, rfl, rfl, rfl, hin, hdi, hrk, HB, HS⟩ := hrel
    by_cases hlt : i < s.size
    · obtain ⟨d', hd', hd1, hd2, hc⟩ := HW.out.at hlt
      have hdd : d' = d := by have h1 := HS.out.1; rw [hd'] at h1; exact Option.some.inj h1
      subst hdd
      have hlti : (i : Int) < (s.size : Int) := by omega
      have hdb := drop_byt hlt
      have hrb : rk ≤ 16384 * 13 := by omega
      rcases hc with ⟨hI, hnx, _⟩ | ⟨hO, hd0, hnx⟩
      · have hI2 : (s[i].toNat : Int) = 73 := by have := (byt_nat hlt 73 (by omega)).2 hI; omega
        have HN : Hid (heldTo s (i + 1) = some (d' + 1) ∧ rk + rankL (s.data.toList.drop (i + 1)) (d' + 1) = R) := Go.Lib.hid ⟨hnx, by
          have h1 := HS.out.2
          rw [hdb, hI] at h1
          exact h1⟩
        clear hd' hd1 hd2 hdb hI hnx
        go_wp2
        go_roundw
        case rel => exact ⟨i + 1, d' + 1, rk, rfl, by go_num, by go_num, by omega, by omega, by omega, HB, HN⟩
        case measure => simp [intOf] <;> omega
      · have hI2 : ((s[i].toNat : Int) == 73) = false := ne_int (b := 73) (by have := (byt_nat hlt 79 (by omega)).2 hO; omega)
        obtain ⟨l, hl⟩ : ∃ l, s.size - (i + 1) = l := ⟨_, rfl⟩
        have hll : (s.data.toList.drop (i + 1)).length = l := by rw [List.length_drop, Array.length_toList]; exact hl
        obtain ⟨d1, rfl⟩ : ∃ d1, d' = d1 + 1 := ⟨d' - 1, by omega⟩
        have CE := Go.Lib.hid (fun W' => l4Ends_any (d1 + 1 + 1) l W' (by omega))
        obtain ⟨E, hE⟩ : ∃ E, ends l (d1 + 1 + 1) = E := ⟨_, rfl⟩
        have hE16 : E ≤ 16384 := by rw [← hE]; exact ends_16k (by omega)
        have HN : Hid (heldTo s (i + 1) = some d1 ∧ (rk + E) + rankL (s.data.toList.drop (i + 1)) d1 = R) := Go.Lib.hid ⟨hnx, by
          have h1 := HS.out.2
          rw [hdb, hO] at h1
          have h2 : rankL (79 :: s.data.toList.drop (i + 1)) (d1 + 1) = ends (s.data.toList.drop (i + 1)).length (d1 + 1 + 1) + rankL (s.data.toList.drop (i + 1)) d1 := rfl
          rw [h2, hll, hE] at h1
          omega⟩
        rw [hE, show ((d1 + 1 + 1 : Nat) : Int) = (d1 : Int) + 1 + 1 by omega, show (l : Int) = (s.size : Int) - 1 - (i : Int) by omega] at CE
        clear hd' hd1 hd2 hdb hO hnx hl hll hE
        go_wp2_with fail
        refine (CE.out _).mono ?_
        rintro e w2 ⟨rfl, hb⟩
        have HB2 := Go.Lib.hid (HB.out.trans (hb.mono HB.out.size))
        clear hb
        go_wp2
        go_roundw
        case rel => exact ⟨i + 1, d1, rk + E, by go_num, by go_num, by go_num, by omega, by omega, by omega, HB2, HN⟩
        case measure => simp [intOf] <;> omega
    · have hin2 : i = s.size := by omega
      have HE : Hid (rk = R) := Go.Lib.hid (by
        have h1 := HS.out.2
        rw [List.drop_of_length_le (by rw [Array.length_toList]; show s.size ≤ i; omega)] at h1
        simpa [rankL] using h1)
      go_wp2
      go_ret
      exact ⟨by rw [← HE.out]; rfl, HB.out⟩

set_option maxRecDepth 100000 in
theorem specRankW (s : ByteArray) (r' : Int) (b : Bool) (h : rankWAns s = (r', b)) (hs : s.size ≤ 1048576) (W : World) :
    Calls Try.prog 36 #[.string s] W fun e w' => e = .returned (.tuple #[.int .i64 r', .bool b]) ∧ Below W.heap.size W w' := by
  unfold rankWAns at h
  by_cases hw : Word s
  · rw [if_pos hw] at h
    cases h
    have CA := Go.Lib.hid (l2Any_any s W true hs (by unfold isWord; exact decide_eq_true hw))
    have CR := Go.Lib.hid (fun W' => l4WordRank_any s hw W')
    obtain ⟨R, hR⟩ : ∃ R, rankL s.data.toList 0 = R := ⟨_, rfl⟩
    rw [hR] at CR
    rw [hR]
    clear hR hw
    go_enter Try.func36, Try.ntmps36
    go_wp2_with fail
    refine CA.out.mono ?_
    rintro e w1 ⟨rfl, rfl⟩
    go_wp2_with fail
    refine (CR.out _).mono ?_
    rintro e w2 ⟨rfl, hb⟩
    have H2 := Go.Lib.hid hb
    clear hb
    go_wp2_with fail
    go_ret2
    exact ⟨rfl, H2.out⟩
  · rw [if_neg hw] at h
    cases h
    have CA := Go.Lib.hid (l2Any_any s W false hs (by unfold isWord; exact decide_eq_false hw))
    clear hw
    go_enter Try.func36, Try.ntmps36
    go_wp2_with fail
    refine CA.out.mono ?_
    rintro e w1 ⟨rfl, rfl⟩
    go_wp2_with fail
    go_ret2
    exact ⟨rfl, Below.refl _ _⟩

set_option maxRecDepth 100000 in
theorem implOne (n : Int) (r' : Int) (b : Bool) (h : oneAns n = (r', b)) (hw : (Lit.int .i64 n).wf = true) (W : World) :
    Calls Try.prog 41 #[.int .i64 n] W fun e w' => e = .returned (.tuple #[.int .i64 r', .bool b]) ∧ Below W.heap.size W w' := by
  unfold oneAns at h
  obtain ⟨xs, hwa, hxs⟩ : ∃ xs, wordsAns n = (xs, b) ∧ (xs.length : Int) = r' := by
    by_cases h17 : 1 ≤ n ∧ n ≤ 7
    · rw [if_pos h17] at h
      cases h
      obtain ⟨m, rfl⟩ : ∃ m : Nat, n = (m : Int) := ⟨n.toNat, by omega⟩
      exact ⟨allW m, words_ans (by omega) (by omega), by rw [all_len, Int.toNat_natCast]⟩
    · rw [if_neg h17] at h
      cases h
      exact ⟨[], words_not h17, rfl⟩
  have hxl := words_len hwa
  have CW := Go.Lib.hid (fun W' => implWords n xs b hwa hw W')
  have HX := Go.Lib.hid hxs
  clear h hwa hxs
  go_enter Try.func41, Try.ntmps41
  go_wp2_with fail
  refine (CW.out _).mono ?_
  rintro e w1 ⟨v, rfl, ho, hb⟩
  obtain ⟨_, ad, cap, rfl, _, _⟩ := Sees.owns ho
  have H1 := Go.Lib.hid hb
  clear ho hb
  go_wp2_with fail
  go_ret2
  exact ⟨by rw [← HX.out]; rfl, H1.out⟩

set_option maxRecDepth 100000 in
theorem specOne (n : Int) (r' : Int) (b : Bool) (h : oneAns n = (r', b)) (_hw : (Lit.int .i64 n).wf = true) (W : World) :
    Calls Try.prog 42 #[.int .i64 n] W fun e w' => e = .returned (.tuple #[.int .i64 r', .bool b]) ∧ Below W.heap.size W w' := by
  unfold oneAns at h
  by_cases h17 : 1 ≤ n ∧ n ≤ 7
  · rw [if_pos h17] at h
    cases h
    obtain ⟨m, rfl⟩ : ∃ m : Nat, n = (m : Int) := ⟨n.toNat, by omega⟩
    rw [Int.toNat_natCast]
    have C1 := Go.Lib.hid (fun w2 => l1In_any (m : Int) 1 7 w2 true (by rw [decide_eq_true_iff]; exact h17))
    have CE := Go.Lib.hid (fun w2 => l4Ends_any 0 (2 * m) w2 (by omega))
    obtain ⟨E, hE⟩ : ∃ E, ends (2 * m) 0 = E := ⟨_, rfl⟩
    rw [hE] at CE
    rw [hE]
    rw [show ((2 * m : Nat) : Int) = 2 * (m : Int) by omega] at CE
    clear hE
    go_enter Try.func42, Try.ntmps42
    go_wp2_with fail
    refine (C1.out _).mono ?_
    rintro e w1 ⟨rfl, rfl⟩
    go_wp2_with fail
    refine (CE.out _).mono ?_
    rintro e w2 ⟨rfl, hb⟩
    have H2 := Go.Lib.hid hb
    clear hb
    go_wp2_with fail
    go_ret2
    exact ⟨rfl, H2.out⟩
  · rw [if_neg h17] at h
    cases h
    have C1 := Go.Lib.hid (fun w2 => l1In_any n 1 7 w2 false (by rw [decide_eq_false_iff_not]; exact h17))
    clear h17
    go_enter Try.func42, Try.ntmps42
    go_wp2_with fail
    refine (C1.out _).mono ?_
    rintro e w1 ⟨rfl, rfl⟩
    go_wp2_with fail
    go_ret2
    exact ⟨rfl, Below.refl _ _⟩

end Go.Proofs.Ytddenfnoajdjiaa.Rank4C
