/-
  Contracts: the model and the program compose two orders. Conditions: both lists can be read and have at most 2^20 numbers.
-/
import Derived.Test.YtecbfoodkcgehabOrder
import Derived.RangeFuncBox
import Derived.Maps.AppendAt
namespace Go.Proofs.Ytecbfoodkcgehab.ComposeC
open Go.RowKit SeesC IntsC ExactC OrdMath OrderC 

set_option maxRecDepth 100000 in
set_option maxHeartbeats 1000000 in
theorem specCompose (xs ys : List Int) (zs : List Int) (b : Bool) (h : composeAns xs ys = (zs, b)) (hx : xs.length ≤ 1048576) (hy : ys.length ≤ 1048576) (W : World) (v : Value) (n : Nat) (hv : Sees W v n (vals xs)) (u : Value) (m : Nat) (hu : Sees W u m (vals ys)) :
    Calls Try.prog 78 #[v, u] W fun e w' => ListTo W e w' zs b := by
  have hn : n ≤ 1048576 := by have := hv.1; simp at this; omega
  have hm : m ≤ 1048576 := by have := hu.1; simp at this; omega
  obtain ⟨i0, hi, hz0, hz1, hz2⟩ := info_parts infoI
  obtain ⟨r, hr⟩ : ∃ r, isOrd xs = r := ⟨_, rfl⟩
  obtain ⟨s, hs⟩ : ∃ s, isOrd ys = s := ⟨_, rfl⟩
  have CO := Go.Lib.hid (fun W' (hs' : Sees W' v n (vals xs)) => l2Order_any W' v n xs r hs' hn hr)
  have CP := Go.Lib.hid (fun W' (hs' : Sees W' u m (vals ys)) => l2Order_any W' u m ys s hs' hm hs)
  have HV := Go.Lib.hid hv
  have HU := Go.Lib.hid hu
  have hl : xs.length = n := by simpa using hv.1
  have hl' : ys.length = m := by simpa using hu.1
  unfold composeAns at h
  obtain ⟨_, ad, cap, rfl, _, _⟩ := hv
  obtain ⟨_, ad', cap', rfl, _, _⟩ := hu
  cases r with
  | false =>
    rw [if_neg (by rintro ⟨h1, _⟩; unfold isOrd at hr; exact of_decide_eq_false hr h1)] at h
    cases h
    clear hr hs
    go_enter Try.func78, Try.ntmps78
    go_wp2_with fail
    refine (CO.out _ (HV.out.grow ((Below.refl _ _).alloc (Nat.le_refl _) _))).mono ?_
    rintro e w1 ⟨rfl, hd⟩
    have HB1 : Hid (Below W.heap.size W w1) := Go.Lib.hid (((Below.refl _ _).alloc (Nat.le_refl _) _).trans (hd.below _))
    have HO1 := Go.Lib.hid (kept_call (World.ownsRow_made (base := W.heap.size) (e := 3) (size := 1) W #[] 0 (Nat.le_refl _) (by unfold maxLen; omega) rfl) (hd.below _))
    clear hd
    go_wp2_with fail
    go_ret2
    exact ⟨_, rfl, HO1.out, HB1.out⟩
  | true =>
    cases s with
    | false =>
      rw [if_neg (by rintro ⟨_, h1, _⟩; unfold isOrd at hs; exact of_decide_eq_false hs h1)] at h
      cases h
      clear hr hs
      go_enter Try.func78, Try.ntmps78
      go_wp2_with fail
      refine (CO.out _ (HV.out.grow ((Below.refl _ _).alloc (Nat.le_refl _) _))).mono ?_
      rintro e w1 ⟨rfl, hd⟩
      have HB1 : Hid (Below W.heap.size W w1) := Go.Lib.hid (((Below.refl _ _).alloc (Nat.le_refl _) _).trans (hd.below _))
      have HO1 := Go.Lib.hid (kept_call (World.ownsRow_made (base := W.heap.size) (e := 3) (size := 1) W #[] 0 (Nat.le_refl _) (by unfold maxLen; omega) rfl) (hd.below _))
      clear hd
      go_wp2_with fail
      refine (CP.out _ (HU.out.grow HB1.out)).mono ?_
      rintro e w2 ⟨rfl, hd⟩
      have HB2 : Hid (Below W.heap.size W w2) := Go.Lib.hid (HB1.out.trans (hd.below _))
      have HO2 := Go.Lib.hid (kept_call HO1.out (hd.below _))
      clear hd
      go_wp2_with fail
      go_ret2
      exact ⟨_, rfl, HO2.out, HB2.out⟩
    | true =>
      have hox : Ord xs := by unfold isOrd at hr; exact of_decide_eq_true hr
      have hoy : Ord ys := by unfold isOrd at hs; exact of_decide_eq_true hs
      clear hr hs
      by_cases hnm : n = m
      · subst hnm
        rw [if_pos ⟨hox, hoy, by omega⟩] at h
        cases h
        have hn1 : 1 ≤ n := by have := hox.1; omega
        have hn7 : n ≤ 7 := by have := hox.2.1; omega
        obtain ⟨b, o, capx, e1, _, _, hbl, hcell⟩ := sees_cells HV.out (by omega)
        cases e1
        obtain ⟨b2, o2, capy, e2, _, _, hbl2, hcell2⟩ := sees_cells HU.out (by omega)
        cases e2
        have HC := Go.Lib.hid hcell
        have HC2 := Go.Lib.hid hcell2
        clear hcell hcell2
        go_enter Try.func78, Try.ntmps78
        go_wp2_with fail
        refine (CO.out _ (HV.out.grow ((Below.refl _ _).alloc (Nat.le_refl _) _))).mono ?_
        rintro e w1 ⟨rfl, hd⟩
        have HB1 : Hid (Below W.heap.size W w1) := Go.Lib.hid (((Below.refl _ _).alloc (Nat.le_refl _) _).trans (hd.below _))
        have HO1 := Go.Lib.hid (kept_call (World.ownsRow_made (base := W.heap.size) (e := 3) (size := 1) W #[] 0 (Nat.le_refl _) (by unfold maxLen; omega) rfl) (hd.below _))
        clear hd
        go_wp2_with fail
        refine (CP.out _ (HU.out.grow HB1.out)).mono ?_
        rintro e w2 ⟨rfl, hd⟩
        have HB2 : Hid (Below W.heap.size W w2) := Go.Lib.hid (HB1.out.trans (hd.below _))
        have HO2 := Go.Lib.hid (kept_call HO1.out (hd.below _))
        clear hd
        go_wp2_with fail
        go_loopw [6, 7] (fun ov iv wr => ∃ (k g c : Nat), k ≤ n ∧ iv = .int .i64 k ∧ ov = .slice (some ⟨g, 0, none⟩) k c ∧ wr.ownsRow W.heap.size 3 1 (.slice (some ⟨g, 0, none⟩) k c) k (vals ((ys.map (fun y => xs.getD (y - 1).toNat 0)).take k)) ∧ Below W.heap.size W wr) (fun _ i _ => n - (intOf i).toNat)
        case atStart => exact ⟨0, W.heap.size, 0, Nat.zero_le _, rfl, rfl, by simpa using HO2.out, HB2.out⟩
        case round =>
          obtain ⟨k, g, c, hk, rfl, rfl, hown, hb⟩ := hrel
          by_cases hlt : k < n
          · have hck : wr.cell? ⟨b2, o2 + k, none⟩ = some (.int .i64 (ys.getD k 0)) := (hb.cell (p := ⟨b2, o2 + k, none⟩) hbl2).trans (HC2.out k (by omega))
            obtain ⟨p, hp, hp2⟩ := hoy.getD (k := k) (by omega)
            have hckp : wr.cell? ⟨b, o + p, none⟩ = some (.int .i64 (xs.getD p 0)) := (hb.cell (p := ⟨b, o + p, none⟩) hbl).trans (HC.out p (by omega))
            obtain ⟨z, hz⟩ : ∃ z, xs.getD p 0 = z := ⟨_, rfl⟩
            have hget : (ys.map (fun y => xs.getD (y - 1).toNat 0)).getD k 0 = z := by
              have e1 : ys[k]'(by omega) = (p : Int) + 1 := by rw [← hp]; simp [show k < ys.length by omega]
              rw [← hz]
              rw [List.getD_eq_getElem?_getD, List.getElem?_map, List.getElem?_eq_getElem (by omega), e1]
              have e2 : ((p : Int) + 1 - 1).toNat = p := by omega
              simp only [Option.map_some, Option.getD_some, e2]
            rw [hz] at hckp
            rw [hp] at hck
            have hlti : (k : Int) < (n : Int) := by omega
            have hpi : (p : Int) < (n : Int) := by omega
            have hp0 : (0 : Int) ≤ (p : Int) := by omega
            have HE : Hid (vals ((ys.map (fun y => xs.getD (y - 1).toNat 0)).take (k + 1)) = vals ((ys.map (fun y => xs.getD (y - 1).toNat 0)).take k) ++ [.int .i64 z]) := Go.Lib.hid (take_next (by simp; omega) hget)
            clear hp hp2 hz hget HB1 HB2 HO1 HO2 HU HV CO CP
            go_wp2_with (at_builtin; refine wpList_append_own _ rfl _ _ 29 rfl W.heap.size 3 i0 (.int .i64 0) 1 8 Try.underlying29 hi hz0 hz1 hz2 rfl (by decide) _ _ _ rfl (hown.alloc _) ⟨wr.heap.size, 0, none⟩ 1 1 [.int .i64 z] rfl rfl (cell_one_new _ _ _) (fun x hx => by simp at hx; subst hx; rfl) (by unfold maxLen; omega) (by omega) (by have := hb.size; simp; omega) ?_; intro v' w3 hown' hgrow3 hnil3)
            obtain ⟨g', cap', rfl⟩ := ownsRow_succ hown'
            rw [← HE.out] at hown'
            have hb' : Below W.heap.size W w3 := (hb.alloc hb.size _).grown hgrow3 (by have := hb.size; simp; omega) (fun q hq => (hown.lt q hq).1)
            have H3 := Go.Lib.hid (And.intro hown' hb')
            clear hown' hgrow3 hnil3 hown hb hb'
            go_wp2
            go_roundw
            case rel => exact ⟨k + 1, g', cap', by omega, by go_num, rfl, H3.out.1, H3.out.2⟩
            case measure => simp [intOf] <;> omega
          · have hkn : k = n := by omega
            subst hkn
            have hl2 : (ys.map (fun y => xs.getD (y - 1).toNat 0)).length = k := by simp [hl']
            have e1 : (ys.map (fun y => xs.getD (y - 1).toNat 0)).take k = (ys.map (fun y => xs.getD (y - 1).toNat 0)) := List.take_of_length_le (by omega)
            rw [e1] at hown
            have H3 := Go.Lib.hid (And.intro hown hb)
            clear hown hb e1
            go_wp2
            go_ret2
            exact ⟨_, rfl, by rw [hl2]; exact H3.out.1, H3.out.2⟩
      · rw [if_neg (by rintro ⟨_, _, h1⟩; omega)] at h
        cases h
        have hne : ((n : Int) == (m : Int)) = false := by rw [beq_eq_false_iff_ne]; omega
        have hne2 : (n : Int) ≠ (m : Int) := by omega
        go_enter Try.func78, Try.ntmps78
        go_wp2_with fail
        refine (CO.out _ (HV.out.grow ((Below.refl _ _).alloc (Nat.le_refl _) _))).mono ?_
        rintro e w1 ⟨rfl, hd⟩
        have HB1 : Hid (Below W.heap.size W w1) := Go.Lib.hid (((Below.refl _ _).alloc (Nat.le_refl _) _).trans (hd.below _))
        have HO1 := Go.Lib.hid (kept_call (World.ownsRow_made (base := W.heap.size) (e := 3) (size := 1) W #[] 0 (Nat.le_refl _) (by unfold maxLen; omega) rfl) (hd.below _))
        clear hd
        go_wp2_with fail
        refine (CP.out _ (HU.out.grow HB1.out)).mono ?_
        rintro e w2 ⟨rfl, hd⟩
        have HB2 : Hid (Below W.heap.size W w2) := Go.Lib.hid (HB1.out.trans (hd.below _))
        have HO2 := Go.Lib.hid (kept_call HO1.out (hd.below _))
        clear hd
        go_wp2_with fail
        go_ret2
        exact ⟨_, rfl, HO2.out, HB2.out⟩

set_option maxRecDepth 100000 in
set_option maxHeartbeats 1000000 in
theorem implCompose (xs ys : List Int) (zs : List Int) (b : Bool) (h : composeAns xs ys = (zs, b)) (hx : xs.length ≤ 1048576) (hy : ys.length ≤ 1048576) (W : World) (v : Value) (n : Nat) (hv : Sees W v n (vals xs)) (u : Value) (m : Nat) (hu : Sees W u m (vals ys)) :
    Calls Try.prog 77 #[v, u] W fun e w' => ListTo W e w' zs b := by
  have hn : n ≤ 1048576 := by have := hv.1; simp at this; omega
  have hm : m ≤ 1048576 := by have := hu.1; simp at this; omega
  obtain ⟨i0, hi, hz0, hz1, hz2⟩ := info_parts infoI
  obtain ⟨r, hr⟩ : ∃ r, isOrd xs = r := ⟨_, rfl⟩
  obtain ⟨s, hs⟩ : ∃ s, isOrd ys = s := ⟨_, rfl⟩
  have CO := Go.Lib.hid (fun W' (hs' : Sees W' v n (vals xs)) => implOrder_any W' v n xs r hs' hn hr)
  have CP := Go.Lib.hid (fun W' (hs' : Sees W' u m (vals ys)) => implOrder_any W' u m ys s hs' hm hs)
  have HV := Go.Lib.hid hv
  have HU := Go.Lib.hid hu
  have hl : xs.length = n := by simpa using hv.1
  have hl' : ys.length = m := by simpa using hu.1
  unfold composeAns at h
  obtain ⟨_, ad, cap, rfl, _, _⟩ := hv
  obtain ⟨_, ad', cap', rfl, _, _⟩ := hu
  cases r with
  | false =>
    rw [if_neg (by rintro ⟨h1, _⟩; unfold isOrd at hr; exact of_decide_eq_false hr h1)] at h
    cases h
    clear hr hs
    go_enter Try.func77, Try.ntmps77
    go_wp2_with fail
    refine (CO.out _ HV.out).mono ?_
    rintro e w1 ⟨rfl, hd⟩
    have HB1 : Hid (Below W.heap.size W w1) := Go.Lib.hid hd
    clear hd
    go_wp2_with fail
    go_ret2
    exact listTo_below HB1.out (listTo_none _ _)
  | true =>
    cases s with
    | false =>
      rw [if_neg (by rintro ⟨_, h1, _⟩; unfold isOrd at hs; exact of_decide_eq_false hs h1)] at h
      cases h
      clear hr hs
      go_enter Try.func77, Try.ntmps77
      go_wp2_with fail
      refine (CO.out _ HV.out).mono ?_
      rintro e w1 ⟨rfl, hd⟩
      have HB1 : Hid (Below W.heap.size W w1) := Go.Lib.hid hd
      clear hd
      go_wp2_with fail
      refine (CP.out _ (HU.out.grow HB1.out)).mono ?_
      rintro e w2 ⟨rfl, hd⟩
      have HB2 : Hid (Below W.heap.size W w2) := Go.Lib.hid (HB1.out.trans (hd.mono HB1.out.size))
      clear hd
      go_wp2_with fail
      go_ret2
      exact listTo_below HB2.out (listTo_none _ _)
    | true =>
      have hox : Ord xs := by unfold isOrd at hr; exact of_decide_eq_true hr
      have hoy : Ord ys := by unfold isOrd at hs; exact of_decide_eq_true hs
      clear hr hs
      by_cases hnm : n = m
      · subst hnm
        rw [if_pos ⟨hox, hoy, by omega⟩] at h
        cases h
        have hn1 : 1 ≤ n := by have := hox.1; omega
        have hn7 : n ≤ 7 := by have := hox.2.1; omega
        obtain ⟨b, o, capx, e1, _, _, hbl, hcell⟩ := sees_cells HV.out (by omega)
        cases e1
        obtain ⟨b2, o2, capy, e2, _, _, hbl2, hcell2⟩ := sees_cells HU.out (by omega)
        cases e2
        have HC := Go.Lib.hid hcell
        have HC2 := Go.Lib.hid hcell2
        clear hcell hcell2
        go_enter Try.func77, Try.ntmps77
        go_wp2_with fail
        refine (CO.out _ HV.out).mono ?_
        rintro e w1 ⟨rfl, hd⟩
        have HB1 : Hid (Below W.heap.size W w1) := Go.Lib.hid hd
        clear hd
        go_wp2_with fail
        refine (CP.out _ (HU.out.grow HB1.out)).mono ?_
        rintro e w2 ⟨rfl, hd⟩
        have HB2 : Hid (Below W.heap.size W w2) := Go.Lib.hid (HB1.out.trans (hd.mono HB1.out.size))
        clear hd
        go_wp2_with (at_make; refine wpList_make_full _ rfl _ _ 29 rfl W.heap.size 3 i0 (.int .i64 0) 1 Try.underlying29 hi hz0 hz1 .i64 .i64 n n n rfl rfl rfl rfl (by rw [hz2]; omega) (by unfold maxLen; omega) (HB2.out.size) ?_; intro w3 hown1 hgrow1; clear hi hz0 hz1 hz2)
        have hz : (madeCells (Value.int .i64 0).cells (n * 1)).toList = vals ((ys.map (fun y => xs.getD (y - 1).toNat 0)).take 0 ++ (List.replicate n 0).drop 0) := by rw [made_int]; simp
        rw [hz] at hown1
        have hb1 : Below W.heap.size W w3 := HB2.out.grown hgrow1 HB2.out.size (fun k hk => by cases hk)
        have hgb : W.heap.size ≤ w2.heap.size := HB2.out.size
        clear hz hgrow1
        go_loopw [30] (fun iv wr => ∃ (k : Nat), k ≤ n ∧ iv = .int .i64 k ∧ wr.ownsRow W.heap.size 3 1 (.slice (some ⟨w2.heap.size, 0, none⟩) n n) n (vals ((ys.map (fun y => xs.getD (y - 1).toNat 0)).take k ++ (List.replicate n 0).drop k)) ∧ Below W.heap.size W wr) (fun i _ => n - (intOf i).toNat)
        case atStart => exact ⟨0, Nat.zero_le _, rfl, hown1, hb1⟩
        case round =>
          obtain ⟨k, hk, rfl, hown, hb⟩ := hrel
          clear hown1 hb1
          by_cases hlt : k < n
          · have hck : wr.cell? ⟨b2, o2 + k, none⟩ = some (.int .i64 (ys.getD k 0)) := (hb.cell (p := ⟨b2, o2 + k, none⟩) hbl2).trans (HC2.out k (by omega))
            obtain ⟨p, hp, hp2⟩ := hoy.getD (k := k) (by omega)
            have hckp : wr.cell? ⟨b, o + p, none⟩ = some (.int .i64 (xs.getD p 0)) := (hb.cell (p := ⟨b, o + p, none⟩) hbl).trans (HC.out p (by omega))
            obtain ⟨z, hz⟩ : ∃ z, xs.getD p 0 = z := ⟨_, rfl⟩
            have hget : (ys.map (fun y => xs.getD (y - 1).toNat 0)).getD k 0 = z := by
              have e1 : ys[k]'(by omega) = (p : Int) + 1 := by rw [← hp]; simp [show k < ys.length by omega]
              rw [← hz]
              rw [List.getD_eq_getElem?_getD, List.getElem?_map, List.getElem?_eq_getElem (by omega), e1]
              have e2 : ((p : Int) + 1 - 1).toNat = p := by omega
              simp only [Option.map_some, Option.getD_some, e2]
            rw [hz] at hckp
            rw [hp] at hck
            have hlti : (k : Int) < (n : Int) := by omega
            have hpi : (p : Int) < (n : Int) := by omega
            have hp0 : (0 : Int) ≤ (p : Int) := by omega
            have hst := hown.stored k (.int .i64 z)
            rw [put_next (L := (ys.map (fun y => xs.getD (y - 1).toNat 0))) (zs := List.replicate n 0) (by simp [hl']) (by simp; omega) hget] at hst
            have hdc := hown.cellAt k (by omega)
            have hf := hown.frozenAt k
            obtain ⟨x, hx⟩ : ∃ x, wr.cell? ⟨w2.heap.size, k, none⟩ = some x := ⟨_, hdc.trans (List.getElem?_eq_getElem (by rw [vals_len]; simp; omega))⟩
            have HS := Go.Lib.hid (And.intro hst.1 (hb.setCell (p := ⟨w2.heap.size, k, none⟩) hgb (.int .i64 z)))
            clear hp hp2 hz hget HB1 HB2 HU HV CO CP hst hdc hb hown
            go_wp2
            go_roundw
            case rel => exact ⟨k + 1, by omega, by go_num, HS.out.1, HS.out.2⟩
            case measure => simp [intOf] <;> omega
          · have hkn : k = n := by omega
            subst hkn
            have hl2 : (ys.map (fun y => xs.getD (y - 1).toNat 0)).length = k := by simp [hl']
            have e1 : (ys.map (fun y => xs.getD (y - 1).toNat 0)).take k ++ (List.replicate k 0).drop k = (ys.map (fun y => xs.getD (y - 1).toNat 0)) := by rw [List.take_of_length_le (by omega), List.drop_of_length_le (by simp), List.append_nil]
            rw [e1] at hown
            have H3 := Go.Lib.hid (And.intro hown hb)
            clear hown hb e1
            go_wp2
            go_ret2
            exact ⟨_, rfl, by rw [hl2]; exact H3.out.1, H3.out.2⟩
      · rw [if_neg (by rintro ⟨_, _, h1⟩; omega)] at h
        cases h
        have hne : ((n : Int) == (m : Int)) = false := by rw [beq_eq_false_iff_ne]; omega
        have hne2 : (n : Int) ≠ (m : Int) := by omega
        go_enter Try.func77, Try.ntmps77
        go_wp2_with fail
        refine (CO.out _ HV.out).mono ?_
        rintro e w1 ⟨rfl, hd⟩
        have HB1 : Hid (Below W.heap.size W w1) := Go.Lib.hid hd
        clear hd
        go_wp2_with fail
        refine (CP.out _ (HU.out.grow HB1.out)).mono ?_
        rintro e w2 ⟨rfl, hd⟩
        have HB2 : Hid (Below W.heap.size W w2) := Go.Lib.hid (HB1.out.trans (hd.mono HB1.out.size))
        clear hd
        go_wp2_with fail
        go_ret2
        exact listTo_below HB2.out (listTo_none _ _)

end Go.Proofs.Ytecbfoodkcgehab.ComposeC
