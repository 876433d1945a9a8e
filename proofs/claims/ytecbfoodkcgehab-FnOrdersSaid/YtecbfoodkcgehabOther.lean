/-
  Contracts: the model and the program take each number of an order from n + 1. Conditions: the list can be read and has at most 2^20 numbers.
-/
import Derived.Test.YtecbfoodkcgehabOrder
import Derived.Test.YtecbfoodkcgehabShelf
import Derived.RangeFuncBox
import Derived.Maps.AppendAt
namespace Go.Proofs.Ytecbfoodkcgehab.OtherC
open Go.RowKit SeesC IntsC ExactC OrdMath OrderC 

set_option maxRecDepth 100000 in
set_option maxHeartbeats 1000000 in
theorem specOther (zs : List Int) (xs : List Int) (b : Bool) (h : otherAns zs = (xs, b)) (hz : zs.length ≤ 1048576) (W : World) (v : Value) (n : Nat) (hv : Sees W v n (vals zs)) :
    Calls Try.prog 69 #[v] W fun e w' => ListTo W e w' xs b := by
  have hn : n ≤ 1048576 := by have := hv.1; simp at this; omega
  obtain ⟨i0, hi, hz0, hz1, hz2⟩ := info_parts infoI
  obtain ⟨r, hr⟩ : ∃ r, isOrd zs = r := ⟨_, rfl⟩
  have CO := Go.Lib.hid (fun W' (hs : Sees W' v n (vals zs)) => l2Order_any W' v n zs r hs hn hr)
  have HV := Go.Lib.hid hv
  unfold otherAns at h
  cases r with
  | false =>
    rw [if_neg (by unfold isOrd at hr; exact of_decide_eq_false hr)] at h
    cases h
    clear hv hr
    go_enter Try.func69, Try.ntmps69
    go_wp2_with fail
    refine (CO.out _ (HV.out.grow ((Below.refl _ _).alloc (Nat.le_refl _) _))).mono ?_
    rintro e w1 ⟨rfl, hd⟩
    have HB : Hid (Below W.heap.size W w1) := Go.Lib.hid (((Below.refl _ _).alloc (Nat.le_refl _) _).trans (hd.below _))
    have HO := Go.Lib.hid (kept_call (World.ownsRow_made (base := W.heap.size) (e := 3) (size := 1) W #[] 0 (Nat.le_refl _) (by unfold maxLen; omega) rfl) (hd.below _))
    go_wp2_with fail
    go_ret2
    exact ⟨_, rfl, HO.out, HB.out⟩
  | true =>
    have hord : Ord zs := by unfold isOrd at hr; exact of_decide_eq_true hr
    rw [if_pos hord] at h
    cases h
    have hl : zs.length = n := by simpa using hv.1
    have hn1 : 1 ≤ n := by have := hord.1; omega
    have hn7 : n ≤ 7 := by have := hord.2.1; omega
    obtain ⟨b, o, cap, rfl, hcap, _, hbl, hcell⟩ := sees_cells hv (by omega)
    have HC := Go.Lib.hid hcell
    clear hv hr hcell
    go_enter Try.func69, Try.ntmps69
    go_wp2_with fail
    refine (CO.out _ (HV.out.grow ((Below.refl _ _).alloc (Nat.le_refl _) _))).mono ?_
    rintro e w1 ⟨rfl, hd⟩
    have HB : Hid (Below W.heap.size W w1) := Go.Lib.hid (((Below.refl _ _).alloc (Nat.le_refl _) _).trans (hd.below _))
    have HO := Go.Lib.hid (kept_call (World.ownsRow_made (base := W.heap.size) (e := 3) (size := 1) W #[] 0 (Nat.le_refl _) (by unfold maxLen; omega) rfl) (hd.below _))
    clear hd
    go_wp2_with fail
    go_loopw [4, 5] (fun ov iv wr => ∃ (k g c : Nat), k ≤ n ∧ iv = .int .i64 k ∧ ov = .slice (some ⟨g, 0, none⟩) k c ∧ wr.ownsRow W.heap.size 3 1 (.slice (some ⟨g, 0, none⟩) k c) k (vals ((zs.map (fun z => (zs.length : Int) + 1 - z)).take k)) ∧ Below W.heap.size W wr) (fun _ i _ => n - (intOf i).toNat)
    case atStart => exact ⟨0, W.heap.size, 0, Nat.zero_le _, rfl, rfl, by simpa using HO.out, HB.out⟩
    case round =>
      obtain ⟨k, g, c, hk, rfl, rfl, hown, hb⟩ := hrel
      clear HB HO
      by_cases hlt : k < n
      · have hck : wr.cell? ⟨b, o + k, none⟩ = some (.int .i64 (zs.getD k 0)) := (hb.cell (p := ⟨b, o + k, none⟩) hbl).trans (HC.out k (by omega))
        obtain ⟨m, hm, hm2⟩ := hord.getD (k := k) (by omega)
        have HE : Hid (vals ((zs.map (fun z => (zs.length : Int) + 1 - z)).take (k + 1)) = vals ((zs.map (fun z => (zs.length : Int) + 1 - z)).take k) ++ [.int .i64 ((n : Int) + 1 - ((m : Int) + 1))]) := Go.Lib.hid (take_next (by simp; omega) (by rw [← hl, ← hm]; simp [show k < zs.length by omega]))
        rw [hm] at hck
        have hlti : (k : Int) < (n : Int) := by omega
        have hmi : (m : Int) < (n : Int) := by omega
        clear hm hm2
        go_wp2_with (at_builtin; refine wpList_append_own _ rfl _ _ 29 rfl W.heap.size 3 i0 (.int .i64 0) 1 8 Try.underlying29 hi hz0 hz1 hz2 rfl (by decide) _ _ _ rfl (hown.alloc _) ⟨wr.heap.size, 0, none⟩ 1 1 [.int .i64 ((n : Int) + 1 - ((m : Int) + 1))] rfl rfl (cell_one_new _ _ _) (fun x hx => by simp at hx; subst hx; rfl) (by unfold maxLen; omega) (by omega) (by have := hb.size; simp; omega) ?_; intro v' w3 hown' hgrow3 hnil3)
        obtain ⟨g', cap', rfl⟩ := ownsRow_succ hown'
        rw [← HE.out] at hown'
        have hb' : Below W.heap.size W w3 := (hb.alloc hb.size _).grown hgrow3 (by have := hb.size; simp; omega) (fun q hq => (hown.lt q hq).1)
        have H3 := Go.Lib.hid (And.intro hown' hb')
        clear hown' hgrow3 hnil3 hown hb hb'
        go_wp2
        go_roundw
        case rel => exact ⟨k + 1, g', cap', by omega, by go_num, rfl, H3.out.1, H3.out.2⟩
        case measure => simp [intOf] <;> omega
      · have hkn : k = n := by omega
        subst hkn
        have e1 : (zs.map (fun z => (zs.length : Int) + 1 - z)).take k = zs.map (fun z => (zs.length : Int) + 1 - z) := List.take_of_length_le (by simp; omega)
        rw [e1] at hown
        have H3 := Go.Lib.hid (And.intro hown hb)
        have hl2 : (zs.map (fun z => (zs.length : Int) + 1 - z)).length = k := by simp [hl]
        clear hown hb e1
        go_wp2
        go_ret2
        exact ⟨_, rfl, by rw [hl2]; exact H3.out.1, H3.out.2⟩

set_option maxRecDepth 100000 in
set_option maxHeartbeats 1000000 in
theorem implOther (zs : List Int) (xs : List Int) (b : Bool) (h : otherAns zs = (xs, b)) (hz : zs.length ≤ 1048576) (W : World) (v : Value) (n : Nat) (hv : Sees W v n (vals zs)) :
    Calls Try.prog 68 #[v] W fun e w' => ListTo W e w' xs b := by
  have hn : n ≤ 1048576 := by have := hv.1; simp at this; omega
  obtain ⟨i0, hi, hz0, hz1, hz2⟩ := info_parts infoI
  obtain ⟨r, hr⟩ : ∃ r, isOrd zs = r := ⟨_, rfl⟩
  have CO := Go.Lib.hid (fun W' (hs : Sees W' v n (vals zs)) => implOrder_any W' v n zs r hs hn hr)
  have HV := Go.Lib.hid hv
  unfold otherAns at h
  cases r with
  | false =>
    rw [if_neg (by unfold isOrd at hr; exact of_decide_eq_false hr)] at h
    cases h
    clear hv hr
    go_enter Try.func68, Try.ntmps68
    go_wp2_with fail
    refine (CO.out _ HV.out).mono ?_
    rintro e w1 ⟨rfl, hd⟩
    have HB : Hid (Below W.heap.size W w1) := Go.Lib.hid hd
    go_wp2_with fail
    go_ret2
    exact listTo_below HB.out (listTo_none _ _)
  | true =>
    have hord : Ord zs := by unfold isOrd at hr; exact of_decide_eq_true hr
    rw [if_pos hord] at h
    cases h
    have hl : zs.length = n := by simpa using hv.1
    have hn1 : 1 ≤ n := by have := hord.1; omega
    have hn7 : n ≤ 7 := by have := hord.2.1; omega
    obtain ⟨b, o, cap, rfl, hcap, _, hbl, hcell⟩ := sees_cells hv (by omega)
    have HC := Go.Lib.hid hcell
    clear hv hr hcell
    go_enter Try.func68, Try.ntmps68
    go_wp2_with fail
    refine (CO.out _ HV.out).mono ?_
    rintro e w1 ⟨rfl, hd⟩
    have HB : Hid (Below W.heap.size W w1) := Go.Lib.hid hd
    clear hd
    have HSE := Go.Lib.hid (HV.out.grow HB.out)
    obtain ⟨b', o', cap', e', _, _, _, hcell⟩ := sees_cells HSE.out (by omega)
    cases e'
    have HC1 := Go.Lib.hid hcell
    clear hcell
    go_wp2_with fail
    refine (Try.slices_Clone_int b o n cap zs w1 (by omega) (by omega) HC1.out).mono ?_
    rintro e w2 ⟨u, rfl, ho, hne, hb⟩
    rw [List.take_of_length_le (by omega)] at ho
    obtain ⟨g, c, rfl⟩ := own_pos ho (by omega)
    have H := Go.Lib.hid (And.intro (own_lower ho HB.out.size) (HB.out.trans (hb.mono HB.out.size)))
    have hgb : W.heap.size ≤ g := by have := (ho.lt g rfl).1; have := HB.out.size; omega
    clear ho hb hne HC1 HSE HV
    go_wp2_with fail
    go_loopw [14] (fun iv wr => ∃ (k : Nat), k ≤ n ∧ iv = .int .i64 k ∧ wr.ownsRow W.heap.size 3 1 (.slice (some ⟨g, 0, none⟩) n c) n (vals ((zs.map (fun z => (zs.length : Int) + 1 - z)).take k ++ zs.drop k)) ∧ Below W.heap.size W wr) (fun i _ => n - (intOf i).toNat)
    case atStart => exact ⟨0, Nat.zero_le _, rfl, by simpa using H.out.1, H.out.2⟩
    case round =>
      obtain ⟨k, hk, rfl, hown, hb⟩ := hrel
      clear HB H
      by_cases hlt : k < n
      · have hck : wr.cell? ⟨b, o + k, none⟩ = some (.int .i64 (zs.getD k 0)) := (hb.cell (p := ⟨b, o + k, none⟩) hbl).trans (HC.out k (by omega))
        obtain ⟨m, hm, hm2⟩ := hord.getD (k := k) (by omega)
        have hst := hown.stored k (.int .i64 ((n : Int) + 1 - ((m : Int) + 1)))
        have e2 := put_next (L := zs.map (fun z => (zs.length : Int) + 1 - z)) (zs := zs) (k := k) (z := (n : Int) + 1 - ((m : Int) + 1)) (by simp) (by simp; omega) (by rw [← hl, ← hm]; simp [show k < zs.length by omega])
        rw [e2] at hst
        have hdc := hown.cellAt k (by omega)
        have hf := hown.frozenAt k
        obtain ⟨u, hu⟩ : ∃ u, wr.cell? ⟨g, k, none⟩ = some u := ⟨_, hdc.trans (List.getElem?_eq_getElem (by simp; omega))⟩
        have HS := Go.Lib.hid (And.intro hst.1 (hb.setCell (p := ⟨g, k, none⟩) hgb (.int .i64 ((n : Int) + 1 - ((m : Int) + 1)))))
        rw [hm] at hck
        have hlti : (k : Int) < (n : Int) := by omega
        have hmi : (m : Int) < (n : Int) := by omega
        clear hm hm2 hst e2 hdc hb hown
        go_wp2
        go_roundw
        case rel => exact ⟨k + 1, by omega, by go_num, HS.out.1, HS.out.2⟩
        case measure => simp [intOf] <;> omega
      · have hkn : k = n := by omega
        subst hkn
        have e1 : (zs.map (fun z => (zs.length : Int) + 1 - z)).take k ++ zs.drop k = zs.map (fun z => (zs.length : Int) + 1 - z) := by
          rw [List.take_of_length_le (by simp; omega), List.drop_of_length_le (by omega), List.append_nil]
        rw [e1] at hown
        have H3 := Go.Lib.hid (And.intro hown hb)
        have hl2 : (zs.map (fun z => (zs.length : Int) + 1 - z)).length = k := by simp [hl]
        clear hown hb e1
        go_wp2
        go_ret2
        exact ⟨_, rfl, by rw [hl2]; exact H3.out.1, H3.out.2⟩

end Go.Proofs.Ytecbfoodkcgehab.OtherC
