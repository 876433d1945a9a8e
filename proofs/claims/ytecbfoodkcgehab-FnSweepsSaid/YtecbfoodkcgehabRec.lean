/-
  Contracts: RecordPlaces of the model and of the program. Conditions: lists of at most 2^20 numbers.
-/
import Derived.Test.YtecbfoodkcgehabOrder
import Derived.Test.YtecbfoodkcgehabIter
import Derived.Test.YtecbfoodkcgehabNum
import Derived.Test.YtecbfoodkcgehabWord
import Derived.Test.YtecbfoodkcgehabStackM
namespace Go.Proofs.Ytecbfoodkcgehab.RecC
open Go.RowKit SeesC IntsC ExactC NumC IterC OrdMath WordMath InC OrderC StackM

set_option maxRecDepth 100000 in
set_option maxHeartbeats 2000000 in
theorem specRec (zs : List Int) (xs : List Int) (b : Bool) (h : recAns zs = (xs, b)) (hz : zs.length ≤ 1048576) (W : World) (v : Value) (n : Nat) (hv : Sees W v n (vals zs)) :
    Calls Try.prog 91 #[v] W fun e w' => ListTo W e w' xs b := by
  have hl : zs.length = n := by simpa using hv.1
  have hn : n ≤ 1048576 := by omega
  obtain ⟨r, hr⟩ : ∃ r, isOrd zs = r := ⟨_, rfl⟩
  have CO := Go.Lib.hid (fun W' (hs' : Sees W' v n (vals zs)) => l2Order_any W' v n zs r hs' hn hr)
  have HV := Go.Lib.hid hv
  unfold recAns at h
  obtain ⟨_, ad, cap, rfl, _, _⟩ := hv
  cases r with
  | false =>
    rw [if_neg (by intro h1; unfold isOrd at hr; exact of_decide_eq_false hr h1)] at h
    cases h
    clear hr
    go_enter Try.func91, Try.ntmps91
    go_wp2_with fail
    refine (CO.out _ (HV.out.grow ((Below.refl _ _).alloc (Nat.le_refl _) _))).mono ?_
    rintro e w1 ⟨rfl, hd⟩
    have HB1 : Hid (Below W.heap.size W w1) := Go.Lib.hid (((Below.refl _ _).alloc (Nat.le_refl _) _).trans (hd.below _))
    have HO := Go.Lib.hid (kept_call (World.ownsRow_made (base := W.heap.size) (e := 3) (size := 1) W #[] 0 (Nat.le_refl _) (by unfold maxLen; omega) rfl) (hd.below _))
    clear hd
    go_wp2_with fail
    go_ret2
    exact ⟨_, rfl, HO.out, HB1.out⟩
  | true =>
    have hord : Ord zs := by unfold isOrd at hr; exact of_decide_eq_true hr
    have hn7 : n ≤ 7 := by have := hord.2.1; omega
    have hn1 : 1 ≤ n := by have := hord.1; omega
    rw [if_pos hord] at h
    cases h
    clear hr
    obtain ⟨i0, hi, hz0, hz1, hz2⟩ := info_parts infoI
    obtain ⟨b, o, cap2, heq, _, _, hbl, hcell⟩ := sees_cells HV.out (by omega)
    cases heq
    have HC := Go.Lib.hid hcell
    clear hcell
    go_enter Try.func91, Try.ntmps91
    go_wp2_with fail
    refine (CO.out _ (HV.out.grow ((Below.refl _ _).alloc (Nat.le_refl _) _))).mono ?_
    rintro e w1 ⟨rfl, hd⟩
    have HB1 : Hid (Below W.heap.size W w1) := Go.Lib.hid (((Below.refl _ _).alloc (Nat.le_refl _) _).trans (hd.below _))
    have HO := Go.Lib.hid (kept_call (World.ownsRow_made (base := W.heap.size) (e := 3) (size := 1) W #[] 0 (Nat.le_refl _) (by unfold maxLen; omega) rfl) (hd.below _))
    clear hd
    have HV1 := Go.Lib.hid (HV.out.grow HB1.out)
    have ho0 := HO
    have hb0 := HB1
    go_wp2_with fail
    go_loopw [4, 5, 6] (fun ov mv iv wr => ∃ (i no g c : Nat) (m : Int) (lo : List Int), ov = .slice (some ⟨g, 0, none⟩) no c ∧ mv = .int .i64 m ∧ iv = .int .i64 i ∧ i ≤ n ∧ lo.length = no ∧ no ≤ i ∧ 0 ≤ m ∧ m ≤ 7 ∧ wr.ownsRow W.heap.size 3 1 (.slice (some ⟨g, 0, none⟩) no c) no (vals lo) ∧ Below W.heap.size W wr ∧ Hid (recTo zs i = (lo, m))) (fun _ _ i _ => n - (intOf i).toNat)
    case atStart => exact ⟨0, 0, W.heap.size, 0, 0, [], rfl, rfl, rfl, Nat.zero_le _, rfl, Nat.le_refl _, Int.le_refl _, by omega, by simpa using ho0.out, hb0.out, Go.Lib.hid rfl⟩
    case round =>
      obtain ⟨i, no, g, c, m, lo, rfl, rfl, rfl, hin, hlo, hno, hm0, hm7, hown, hb, HR⟩ := hrel
      clear ho0 hb0
      by_cases hlt : i < n
      · have hck : wr.cell? ⟨b, o + i, none⟩ = some (.int .i64 (zs.getD i 0)) := (hb.cell (p := ⟨b, o + i, none⟩) hbl).trans (HC.out i (by omega))
        obtain ⟨q, hq, hq2⟩ := hord.getD (k := i) (by omega)
        obtain ⟨z, hz2⟩ : ∃ z, zs.getD i 0 = z := ⟨_, rfl⟩
        have HY := Go.Lib.hid (fun hlt2 : m < zs.getD i 0 => rec_yes HR.out hlt2)
        have HN := Go.Lib.hid (fun hlt2 : ¬ m < zs.getD i 0 => rec_no HR.out hlt2)
        rw [hz2] at hck HY HN hq
        have hz7 : 0 ≤ z ∧ z ≤ 7 := by omega
        have hlti : (i : Int) < (n : Int) := by omega
        have HL := Go.Lib.hid hlo
        clear hq hq2 hz2
        by_cases hmz : m < z
        · have HY2 := Go.Lib.hid (HY.out hmz)
          go_wp2_with (at_builtin; refine wpList_append_own _ rfl _ _ 29 rfl W.heap.size 3 i0 (.int .i64 0) 1 8 Try.underlying29 hi hz0 hz1 hz2 rfl (by decide) (.slice (some ⟨g, 0, none⟩) no c) no (vals lo) rfl (hown.alloc _) ⟨wr.heap.size, 0, none⟩ 1 1 [.int .i64 ((i : Int))] rfl rfl (cell_one_new _ _ _) (fun x hx => by simp at hx; subst hx; rfl) (by unfold maxLen; omega) (by omega) (by have := hb.size; simp; omega) ?_; intro v' w3 hown' hgrow3 hnil3)
          obtain ⟨g', cap', rfl⟩ := ownsRow_succ hown'
          have e1 : vals lo ++ [Value.int .i64 ((i : Int))] = vals (lo ++ [(i : Int)]) := by simp
          rw [e1] at hown'
          have hb' : Below W.heap.size W w3 := (hb.alloc hb.size _).grown hgrow3 (by have := hb.size; simp; omega) (fun q hq => (hown.lt q hq).1)
          have H3 := Go.Lib.hid (And.intro hown' hb')
          clear hown' hgrow3 hnil3 hown hb hb' e1
          go_wp2
          go_roundw
          case rel => exact ⟨i + 1, no + 1, g', cap', z, lo ++ [(i : Int)], rfl, rfl, by go_num, by omega, by rw [List.length_append, HL.out]; rfl, by omega, hz7.1, hz7.2, H3.out.1, H3.out.2, HY2⟩
          case measure => simp [intOf]; omega
        · have HY2 := Go.Lib.hid (HN.out hmz)
          have H3 := Go.Lib.hid (And.intro hown hb)
          clear hown hb
          go_wp2
          go_roundw
          case rel => exact ⟨i + 1, no, g, c, m, lo, rfl, rfl, by go_num, by omega, HL.out, by omega, hm0, hm7, H3.out.1, H3.out.2, HY2⟩
          case measure => simp [intOf]; omega
      · have hkn : i = n := by omega
        have HE : Hid ((recTo zs zs.length).1 = lo) := Go.Lib.hid (by rw [hl, ← hkn, HR.out])
        have H3 := Go.Lib.hid (And.intro hown hb)
        clear hown hb
        go_wp2
        go_ret2
        exact ⟨_, rfl, by rw [HE.out, hlo]; exact H3.out.1, H3.out.2⟩

set_option maxRecDepth 100000 in
set_option maxHeartbeats 2000000 in
theorem implRec (zs : List Int) (xs : List Int) (b : Bool) (h : recAns zs = (xs, b)) (hz : zs.length ≤ 1048576) (W : World) (v : Value) (n : Nat) (hv : Sees W v n (vals zs)) :
    Calls Try.prog 90 #[v] W fun e w' => ListTo W e w' xs b := by
  have hl : zs.length = n := by simpa using hv.1
  have hn : n ≤ 1048576 := by omega
  obtain ⟨r, hr⟩ : ∃ r, isOrd zs = r := ⟨_, rfl⟩
  have CO := Go.Lib.hid (fun W' (hs' : Sees W' v n (vals zs)) => implOrder_any W' v n zs r hs' hn hr)
  have HV := Go.Lib.hid hv
  unfold recAns at h
  obtain ⟨_, ad, cap, rfl, _, _⟩ := hv
  cases r with
  | false =>
    rw [if_neg (by intro h1; unfold isOrd at hr; exact of_decide_eq_false hr h1)] at h
    cases h
    clear hr
    go_enter Try.func90, Try.ntmps90
    go_wp2_with fail
    refine (CO.out _ HV.out).mono ?_
    rintro e w1 ⟨rfl, hd⟩
    have HB1 : Hid (Below W.heap.size W w1) := Go.Lib.hid hd
    clear hd
    go_wp2_with fail
    go_ret2
    exact listTo_below HB1.out (listTo_none _ _)
  | true =>
    have hord : Ord zs := by unfold isOrd at hr; exact of_decide_eq_true hr
    have hn7 : n ≤ 7 := by have := hord.2.1; omega
    have hn1 : 1 ≤ n := by have := hord.1; omega
    rw [if_pos hord] at h
    cases h
    clear hr
    obtain ⟨i0, hi, hz0, hz1, hz2⟩ := info_parts infoI
    obtain ⟨b, o, cap2, heq, _, _, hbl, hcell⟩ := sees_cells HV.out (by omega)
    cases heq
    have HC := Go.Lib.hid hcell
    clear hcell
    go_enter Try.func90, Try.ntmps90
    go_wp2_with fail
    refine (CO.out _ HV.out).mono ?_
    rintro e w1 ⟨rfl, hd⟩
    have HB1 : Hid (Below W.heap.size W w1) := Go.Lib.hid hd
    clear hd
    have HV1 := Go.Lib.hid (HV.out.grow HB1.out)
    have ho0 := Go.Lib.hid (World.ownsRow_made (base := W.heap.size) (e := 3) (size := 1) w1 #[] 0 HB1.out.size (by unfold maxLen; omega) rfl)
    have hb0 := Go.Lib.hid (HB1.out.alloc HB1.out.size (.cells #[] 3))
    go_wp2_with fail
    go_loopw [4, 5, 15] (fun ov mv iv wr => ∃ (i no g c : Nat) (m : Int) (lo : List Int), ov = .slice (some ⟨g, 0, none⟩) no c ∧ mv = .int .i64 m ∧ iv = .int .i64 i ∧ i ≤ n ∧ lo.length = no ∧ no ≤ i ∧ 0 ≤ m ∧ m ≤ 7 ∧ wr.ownsRow W.heap.size 3 1 (.slice (some ⟨g, 0, none⟩) no c) no (vals lo) ∧ Below W.heap.size W wr ∧ Hid (recTo zs i = (lo, m))) (fun _ _ i _ => n - (intOf i).toNat)
    case atStart => exact ⟨0, 0, w1.heap.size, 0, 0, [], rfl, rfl, rfl, Nat.zero_le _, rfl, Nat.le_refl _, Int.le_refl _, by omega, by simpa using ho0.out, hb0.out, Go.Lib.hid rfl⟩
    case round =>
      obtain ⟨i, no, g, c, m, lo, rfl, rfl, rfl, hin, hlo, hno, hm0, hm7, hown, hb, HR⟩ := hrel
      clear ho0 hb0
      by_cases hlt : i < n
      · have hck : wr.cell? ⟨b, o + i, none⟩ = some (.int .i64 (zs.getD i 0)) := (hb.cell (p := ⟨b, o + i, none⟩) hbl).trans (HC.out i (by omega))
        obtain ⟨q, hq, hq2⟩ := hord.getD (k := i) (by omega)
        obtain ⟨z, hz2⟩ : ∃ z, zs.getD i 0 = z := ⟨_, rfl⟩
        have HY := Go.Lib.hid (fun hlt2 : m < zs.getD i 0 => rec_yes HR.out hlt2)
        have HN := Go.Lib.hid (fun hlt2 : ¬ m < zs.getD i 0 => rec_no HR.out hlt2)
        rw [hz2] at hck HY HN hq
        have hz7 : 0 ≤ z ∧ z ≤ 7 := by omega
        have hlti : (i : Int) < (n : Int) := by omega
        have HL := Go.Lib.hid hlo
        clear hq hq2 hz2
        by_cases hmz : m < z
        · have HY2 := Go.Lib.hid (HY.out hmz)
          go_wp2_with (at_builtin; refine wpList_append_own _ rfl _ _ 29 rfl W.heap.size 3 i0 (.int .i64 0) 1 8 Try.underlying29 hi hz0 hz1 hz2 rfl (by decide) (.slice (some ⟨g, 0, none⟩) no c) no (vals lo) rfl (hown.alloc _) ⟨wr.heap.size, 0, none⟩ 1 1 [.int .i64 ((i : Int))] rfl rfl (cell_one_new _ _ _) (fun x hx => by simp at hx; subst hx; rfl) (by unfold maxLen; omega) (by omega) (by have := hb.size; simp; omega) ?_; intro v' w3 hown' hgrow3 hnil3)
          obtain ⟨g', cap', rfl⟩ := ownsRow_succ hown'
          have e1 : vals lo ++ [Value.int .i64 ((i : Int))] = vals (lo ++ [(i : Int)]) := by simp
          rw [e1] at hown'
          have hb' : Below W.heap.size W w3 := (hb.alloc hb.size _).grown hgrow3 (by have := hb.size; simp; omega) (fun q hq => (hown.lt q hq).1)
          have H3 := Go.Lib.hid (And.intro hown' hb')
          clear hown' hgrow3 hnil3 hown hb hb' e1
          go_wp2
          go_roundw
          case rel => exact ⟨i + 1, no + 1, g', cap', z, lo ++ [(i : Int)], rfl, rfl, by go_num, by omega, by rw [List.length_append, HL.out]; rfl, by omega, hz7.1, hz7.2, H3.out.1, H3.out.2, HY2⟩
          case measure => simp [intOf]; omega
        · have HY2 := Go.Lib.hid (HN.out hmz)
          have H3 := Go.Lib.hid (And.intro hown hb)
          clear hown hb
          go_wp2
          go_roundw
          case rel => exact ⟨i + 1, no, g, c, m, lo, rfl, rfl, by go_num, by omega, HL.out, by omega, hm0, hm7, H3.out.1, H3.out.2, HY2⟩
          case measure => simp [intOf]; omega
      · have hkn : i = n := by omega
        have HE : Hid ((recTo zs zs.length).1 = lo) := Go.Lib.hid (by rw [hl, ← hkn, HR.out])
        have H3 := Go.Lib.hid (And.intro hown hb)
        clear hown hb
        go_wp2
        go_ret2
        exact ⟨_, rfl, by rw [HE.out, hlo]; exact H3.out.1, H3.out.2⟩

end Go.Proofs.Ytecbfoodkcgehab.RecC
