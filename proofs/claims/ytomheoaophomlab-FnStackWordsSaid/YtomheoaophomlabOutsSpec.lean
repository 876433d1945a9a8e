/-
  Contract: the model lists what comes out of an order by all words. Conditions: lists of at most 2^20 numbers.
-/
import Derived.Test.YtomheoaophomlabPut
import Derived.Test.YtomheoaophomlabOutsMath
import Derived.Test.YtomheoaophomlabRun
namespace Go.Proofs.Ytomheoaophomlab.OutsSpecC
open Go.RowKit SeesC IntsC ExactC CmpC ListsC ListsBC ListsCC IterC OrdMath WordMath OrderC WordC RunC WordsC WordFacts PutC OutsMath

/-- What comes out is returned, in memory of the call's own. -/
def OutsTo (w : World) (zs : List Int) (e : Ending) (w' : World) : Prop :=
  ∃ v R, e = .returned (.tuple #[v, .bool (isOrd zs)]) ∧ Outs zs R ∧ Lists w' w.heap.size zs.length v (R.map vals) ∧ Below w.heap.size w w'

theorem outsTo_none (w : World) (zs : List Int) (h : ¬ Ord zs) : OutsTo w zs (.returned (.tuple #[.slice (some ⟨w.heap.size, 0, none⟩) 0 0, .bool false])) (w.alloc (.cells #[] 22)) := by
  have hf : isOrd zs = false := decide_eq_false h
  refine ⟨_, [], by rw [hf], by unfold Outs; rw [if_neg h], ?_, (Below.refl _ _).alloc (Nat.le_refl _) _⟩
  refine ⟨[], rfl, World.ownsRow_made _ _ _ (Nat.le_refl _) (by unfold maxLen; omega) rfl, fun i hi => absurd hi (by simp), by simp, fun p hp => by simp at hp⟩

theorem outsTo_below {w w1 w' : World} {zs : List Int} {e : Ending} (hb : Below w.heap.size w w1) (h : OutsTo w1 zs e w') : OutsTo w zs e w' := by
  obtain ⟨v, R, he, hR, hL, hb2⟩ := h
  exact ⟨v, R, he, hR, hL.lower hb.size, hb.trans (hb2.mono hb.size)⟩

theorem words_some {n : Nat} (h : 1 ≤ n) : wordsN n ≠ [] := by
  have hgo : ∀ (r d : Nat) (so : ByteArray), d ≤ r → d % 2 = r % 2 → wordsFrom r d so ≠ [] := by
    intro r
    induction r with
    | zero => intro d so _ _; simp [wordsFrom]
    | succ r ih =>
      intro d so hd hp
      unfold wordsFrom
      by_cases h1 : d < r + 1
      · rw [if_pos h1]
        intro e
        exact ih (d + 1) (so ++ sI) (by omega) (by omega) (List.append_eq_nil_iff.1 e).1
      · rw [if_neg h1, if_pos (by omega)]
        intro e
        exact ih (d - 1) (so ++ sO) (by omega) (by omega) (List.append_eq_nil_iff.1 e).2
  exact hgo _ _ _ (by omega) (by omega)

set_option maxRecDepth 100000 in
set_option maxHeartbeats 4000000 in
theorem specOuts (zs : List Int) (hz : zs.length ≤ 1048576) (W : World) (v : Value) (n : Nat) (hv : Sees W v n (vals zs)) :
    Calls Try.prog 5 #[v] W fun e w' => OutsTo W zs e w' := by
  have hl : zs.length = n := by simpa using hv.1
  have hn : n ≤ 1048576 := by omega
  obtain ⟨r, hr⟩ : ∃ r, isOrd zs = r := ⟨_, rfl⟩
  have hA : Below W.heap.size W (W.alloc (.cells #[] 22)) := (Below.refl _ _).alloc (Nat.le_refl _) _
  have CO := Go.Lib.hid (l2Order_any (W.alloc (.cells #[] 22)) v n zs r (hv.grow hA) hn hr)
  have HV := Go.Lib.hid hv
  have HA := Go.Lib.hid hA
  have hv2 := hv
  obtain ⟨_, adr, cap, rfl, _, _⟩ := hv2
  cases r
  · have hno : ¬ Ord zs := of_decide_eq_false hr
    have HNO := Go.Lib.hid hno
    clear hv hr hA hno
    go_enter Try.func5, Try.ntmps5
    go_wp2_with fail
    refine (CO.out).mono ?_
    rintro e w1 ⟨rfl, hd⟩
    have HD := Go.Lib.hid hd
    clear hd
    go_wp2_with fail
    go_ret2
    have h1 := outsTo_none W zs HNO.out
    obtain ⟨v, R, he, hR, hL, hb2⟩ := h1
    exact ⟨v, R, he, hR, hL.kept (HD.out.below _), hb2.trans (HD.out.below _)⟩
  · have ho : Ord zs := of_decide_eq_true hr
    have HO := Go.Lib.hid ho
    have HR := Go.Lib.hid hr
    have hn1 : 1 ≤ n := by have := ho.1; omega
    have hn7 : n ≤ 7 := by have := ho.2.1; omega
    have hM := outs_len (zs := zs) (R := (wordsN zs.length).map (runOut zs))
    have CW := Go.Lib.hid (fun W' => l2Words_any n hn7 (2 * n) 0 ByteArray.empty W' (by simp) (by omega))
    have hMk : (wordsN n).length ≤ 16384 := wordsFrom_16k (by omega)
    have HLN := Go.Lib.hid hl
    have HWN : Hid (wordsFrom (2 * n) 0 ByteArray.empty = wordsN n) := Go.Lib.hid rfl
    rw [HWN.out] at CW
    obtain ⟨M, hM2⟩ : ∃ M, (wordsN n).length = M := ⟨_, rfl⟩
    rw [hM2] at CW hMk
    have HM := Go.Lib.hid hM2
    clear hv hr hA ho hM hM2 hl
    go_enter Try.func5, Try.ntmps5
    go_wp2_with fail
    refine (CO.out).mono ?_
    rintro e w1 ⟨rfl, hd⟩
    have HD := Go.Lib.hid (HA.out.trans (hd.below _))
    have HO1 := Go.Lib.hid (own_heap hd.heap (World.ownsRow_made (base := W.heap.size) (e := 22) (size := 1) W #[] 0 (Nat.le_refl _) (by unfold maxLen; omega) rfl))
    clear hd
    go_wp2_with fail
    refine (CW.out _).mono ?_
    rintro e w2 ⟨gw, cw, rfl, how, hbw⟩
    obtain ⟨WS, hWS⟩ : ∃ WS, wordsN n = WS := ⟨_, rfl⟩
    have HWS := Go.Lib.hid hWS
    have hown0 := how
    rw [hWS] at hown0
    have HL0 : Hid (Lists w2 W.heap.size n (.slice (some ⟨W.heap.size, 0, none⟩) 0 0) (([] : List (List Int)).map vals)) := Go.Lib.hid ⟨[], rfl, kept_call HO1.out hbw, fun i hi => absurd hi (by simp), by simp, fun p hp => by simp at hp⟩
    have HW0 := Go.Lib.hid (own_lower hown0 HD.out.size)
    have HB0 := Go.Lib.hid (HD.out.trans (hbw.mono HD.out.size))
    clear how hown0 hbw hWS CO CW
    go_wp2_with fail
    go_loopw [4, 6] (fun ov iv wr => ∃ (k g c : Nat) (L : List (List Int)), k ≤ M ∧ iv = .int .i64 k ∧ ov = .slice (some ⟨g, 0, none⟩) k c ∧ Hid (L.length = k ∧ Sorted L ∧ L.Perm ((WS.take k).map (runOut zs))) ∧ Hid (Lists wr W.heap.size n (.slice (some ⟨g, 0, none⟩) k c) (L.map vals)) ∧ Hid (wr.ownsRow W.heap.size 9 1 (.slice (some ⟨gw, 0, none⟩) M cw) M (WS.map Value.string)) ∧ Hid (Below W.heap.size W wr)) (fun _ i _ => M - (intOf i).toNat)
    case atStart => exact ⟨0, W.heap.size, 0, [], Nat.zero_le _, rfl, rfl, Go.Lib.hid ⟨rfl, List.Pairwise.nil, by simp⟩, HL0, HW0, HB0⟩
    case round =>
      obtain ⟨k, g, c, L, hk, rfl, rfl, HL, HLS, HWD, HB⟩ := hrel
      clear HL0 HW0 HB0
      by_cases hlt : k < M
      · have hWl : WS.length = M := by rw [← HWS.out, HM.out]
        obtain ⟨wd, hwd⟩ : ∃ wd, WS[k]'(by omega) = wd := ⟨_, rfl⟩
        have hck : wr.cell? ⟨gw, k, none⟩ = some (.string wd) := by
          rw [HWD.out.cellAt k (by omega)]
          simp [show k < WS.length by omega, hwd]
        have hall := words_all hn1 hn7
        have hWSe : wordsFrom (2 * n) 0 ByteArray.empty = WS := HWS.out
        rw [hWSe] at hall
        have hwm := hall.2 wd (by rw [← hwd]; exact List.getElem_mem _)
        have hzl := HLN.out
        have hsv := HV.out.grow HB.out
        have CR := Go.Lib.hid (l2Run_any zs wd HO.out hwm.1 (by rw [hwm.2, hzl]) wr _ n hsv)
        have hol : (runOut zs wd).length = n := by rw [runOut_len hwm.1 (by rw [hwm.2, hzl]), hzl]
        have hfr : runOut zs wd ∉ L := by
          have h1 := run_fresh (zs := zs) HO.out (k := k) (by rw [hzl, HM.out]; exact hlt) (L := L) (by rw [hzl, HWS.out]; exact HL.out.2.2)
          have h2 : (wordsN zs.length)[k]'(by rw [hzl, HM.out]; exact hlt) = wd := by
            have : wordsN zs.length = WS := by rw [hzl, HWS.out]
            simp [this, hwd]
          rw [h2] at h1; exact h1
        have hLlen : ∀ x ∈ L, x.length = n := fun x hx => by
          obtain ⟨u, hu, e⟩ := List.mem_map.1 (HL.out.2.2.mem_iff.1 hx)
          have h3 := hall.2 u (List.mem_of_mem_take hu)
          rw [← e, runOut_len h3.1 (by rw [h3.2, hzl]), hzl]
        have HF := Go.Lib.hid (And.intro hfr (And.intro hLlen (And.intro hol (And.intro hwd hWl))))
        have hlti : (k : Int) < (M : Int) := by omega
        clear hall hWSe hwm hzl hsv hol hfr hLlen
        go_wp2_with fail
        refine (CR.out).mono ?_
        rintro e w3 ⟨u, rfl, hou, hbu⟩
        rw [HF.out.2.2.1] at hou
        obtain ⟨gu, cu, rfl⟩ := own_pos hou hn1
        have hlk := HL.out.1
        have hLv : Lists wr W.heap.size n (.slice (some ⟨g, 0, none⟩) L.length c) (L.map vals) := by rw [hlk]; exact HLS.out
        have hgu := own_block_lt hou (q := gu) rfl
        have CP := Go.Lib.hid (l2Put_any W.heap.size n g c L (runOut zs wd) (gu, cu) w3 hn1 (by omega) (by rw [hlk]; omega) HF.out.2.1 HF.out.1 wr hLv hbu hgu.1 (own_lower hou HB.out.size) (Nat.le_trans HB.out.size hgu.1))
        have HW3 := Go.Lib.hid (kept_call HWD.out hbu)
        have HB3 := Go.Lib.hid (HB.out.trans (hbu.mono HB.out.size))
        rw [hlk] at CP
        unfold sl at CP
        clear hou hbu hlk hLv hgu
        go_wp2_with fail
        refine (CP.out).mono ?_
        rintro e w4 ⟨g4, c4, j4, rfl, hj4, hlo4, hhi4, hL4, hb4⟩
        have HL4 : Hid ((L.take j4 ++ [runOut zs wd] ++ L.drop j4).length = k + 1 ∧ Sorted (L.take j4 ++ [runOut zs wd] ++ L.drop j4) ∧ (L.take j4 ++ [runOut zs wd] ++ L.drop j4).Perm ((WS.take (k + 1)).map (runOut zs))) := Go.Lib.hid (by
          have hp := perm_put (L := L) (o := runOut zs wd) (k := j4)
          refine ⟨by rw [hp.length_eq, List.length_append, HL.out.1]; rfl, sorted_put HL.out.2.1 HF.out.1 hj4 hlo4 hhi4, ?_⟩
          refine hp.trans ?_
          rw [List.take_succ_eq_append_getElem (by rw [HF.out.2.2.2.2]; exact hlt), HF.out.2.2.2.1, List.map_append]
          exact HL.out.2.2.append_right _)
        rw [HL.out.1] at hL4 ⊢
        have HLS4 := Go.Lib.hid hL4
        have HW4 := Go.Lib.hid (kept_call HW3.out hb4)
        have HB4 := Go.Lib.hid (HB3.out.trans (hb4.mono HB3.out.size))
        clear hj4 hlo4 hhi4 hL4 hb4
        go_wp2_with fail
        go_roundw
        case rel => exact ⟨k + 1, g4, c4, _, by omega, by go_num, rfl, HL4, HLS4, HW4, HB4⟩
        case measure => simp [intOf]; omega
      · have hkM : k = M := by omega
        obtain ⟨i0, hi, hz0, hz1, hz2⟩ := info_parts infoL
        obtain ⟨gs, hg, hog, hin, hnd, hne⟩ := HLS.out
        have hgl : gs.length = k := by rw [hg, List.length_map, HL.out.1]
        have hLk : (L.map vals).length = k := by rw [List.length_map, HL.out.1]
        rw [hLk] at hog hin
        have HIN := Go.Lib.hid (And.intro hin (And.intro hnd (And.intro hne (And.intro hgl hLk))))
        have ho0 := World.ownsRow_made (base := wr.heap.size) (e := 22) (size := 1) wr #[] 0 (Nat.le_refl _) (by unfold maxLen; omega) rfl
        have hbA : Below wr.heap.size wr (wr.alloc (.cells #[] 22)) := (Below.refl _ _).alloc (Nat.le_refl _) _
        have HC2 : Hid (∀ j u, (gs.map (sl n))[j]? = some u → (wr.alloc (.cells #[] 22)).cell? ((⟨g, 0, none⟩ : Addr).add j) = some u) := Go.Lib.hid (fun j u hu => by
          have hj : j < k := by have := (List.getElem?_eq_some_iff.1 hu).1; simp at this; omega
          have h1 := (kept_call hog hbA).cellAt j (by omega)
          rw [add_at, Nat.zero_add, h1, hu])
        have HO0 := Go.Lib.hid (And.intro ho0 hbA)
        have hl1 : (gs.map (sl n)).length = k * 1 := by rw [List.length_map, hgl, Nat.mul_one]
        have HL1 := Go.Lib.hid hl1
        have HKM := Go.Lib.hid hkM
        have hk16 : k ≤ 16384 := by omega
        clear hog hin hnd hne hg hgl hLk ho0 hbA hl1 hkM
        go_wp2_with (at_builtin; refine wpList_append_own _ rfl _ _ 23 rfl wr.heap.size 22 i0 (.slice none 0 0) 1 24 Try.underlying23 hi hz0 hz1 hz2 rfl (by decide) (.slice (some ⟨wr.heap.size, 0, none⟩) 0 0) 0 [] rfl HO0.out.1 ⟨g, 0, none⟩ k c (gs.map (sl n)) rfl HL1.out HC2.out (sl_one n gs) (by unfold maxLen; omega) (by omega) (by simp) ?_; intro v' w5 hown' hgrow5 hnil5)
        have hb' : Below wr.heap.size wr w5 := HO0.out.2.grown hgrow5 (by simp) (fun q hq => (HO0.out.1.lt q hq).1)
        rw [Nat.zero_add, List.nil_append] at hown'
        have hM1 : 1 ≤ k := by
          have h1 := HL.out.2.2.length_eq
          have h2 := HKM.out
          by_cases h0 : k = 0
          · exfalso
            have hWl : WS.length = 0 := by rw [← HWS.out, HM.out]; omega
            have h3 : WS = [] := List.eq_nil_of_length_eq_zero hWl
            have h4 := HWS.out
            rw [h3] at h4
            exact absurd h4 (words_some hn1)
          · omega
        obtain ⟨g5, c5, rfl⟩ := own_pos hown' hM1
        have hg5 := own_block_lt hown' (q := g5) rfl
        have hF : Lists w5 W.heap.size n (.slice (some ⟨g5, 0, none⟩) k c5) (L.map vals) := by
          refine ⟨gs, by rw [HIN.out.2.2.2.1, HIN.out.2.2.2.2], by rw [HIN.out.2.2.2.2]; exact own_lower hown' HB.out.size, fun i hi2 => kept_call (HIN.out.1 i (by rw [HIN.out.2.2.2.2] at hi2; exact hi2)) hb', HIN.out.2.1, fun q2 hq2 e => ?_⟩
          obtain ⟨i, hi2, hiq⟩ := List.mem_iff_getElem.1 hq2
          have h1 := HIN.out.1 i (by rw [← HIN.out.2.2.2.1]; exact hi2)
          have h2 := own_block_lt h1 (q := q2.1) (by rw [← hiq]; simp [sl, Value.ownBlock, hi2])
          have e3 : g5 = q2.1 := by simpa [Value.ownBlock] using e
          omega
        have HF := Go.Lib.hid (And.intro hF (HB.out.trans (hb'.mono HB.out.size)))
        have hOuts : Outs zs L := by
          unfold Outs
          rw [if_pos HO.out]
          refine ⟨HL.out.2.1, ?_⟩
          have h2 := HL.out.2.2
          rw [List.take_of_length_le (by rw [← HWS.out, HM.out]; have := HKM.out; omega), ← HWS.out, ← HLN.out] at h2
          exact h2
        have HOU := Go.Lib.hid hOuts
        clear hown' hgrow5 hnil5 hb' hg5 hF hOuts
        go_wp2
        go_ret2
        exact ⟨_, L, by rw [HR.out]; rfl, HOU.out, by rw [HLN.out]; exact HF.out.1, HF.out.2⟩
end Go.Proofs.Ytomheoaophomlab.OutsSpecC
