/-
  Contracts: the model and the program invert an order. Conditions: the list can be read and has at most 2^20 numbers.
-/
import Derived.Test.YtecbfoodkcgehabOrder
namespace Go.Proofs.Ytecbfoodkcgehab.InverseC
open Go.RowKit SeesC IntsC ExactC OrdMath OrderC 

theorem inv_next {zs : List Int} {k m : Nat} (hm : zs.getD k 0 = (m : Int) + 1) : vals (invOf zs (k + 1)) = (vals (invOf zs k)).set m (.int .i64 ((k : Int) + 1)) := by
  have e : (zs.getD k 0 - 1).toNat = m := by omega
  show List.map _ ((invOf zs k).set _ _) = _
  rw [e, List.map_set]

theorem made_zero (zs : List Int) : (madeCells (Value.int .i64 0).cells (zs.length * 1)).toList = vals (invOf zs 0) := by
  rw [made_int]; simp [invOf]

set_option maxRecDepth 100000 in
set_option maxHeartbeats 1000000 in
theorem l2Inverse_any (zs : List Int) (hord : Ord zs) (W : World) (v : Value) (n : Nat) (hv : Sees W v n (vals zs)) :
    Calls Try.prog 138 #[v] W fun e w' => ∃ u, e = .returned u ∧ w'.ownsRow W.heap.size 3 1 u (invOf zs zs.length).length (vals (invOf zs zs.length)) ∧ Below W.heap.size W w' := by
  obtain ⟨i0, hi, hz0, hz1, hz2⟩ := info_parts infoI
  have hl : zs.length = n := by simpa using hv.1
  have hn1 : 1 ≤ n := by have := hord.1; omega
  have hn7 : n ≤ 7 := by have := hord.2.1; omega
  obtain ⟨b, o, cap, rfl, hcap, _, hbl, hcell⟩ := sees_cells hv (by omega)
  have HC := Go.Lib.hid hcell
  have hgb : W.heap.size ≤ W.heap.size := Nat.le_refl _
  clear hv hcell
  go_enter Try.func138, Try.ntmps138
  go_wp2_with (at_make; refine wpList_make_full _ rfl _ _ 29 rfl W.heap.size 3 i0 (.int .i64 0) 1 Try.underlying29 hi hz0 hz1 .i64 .i64 n n n rfl rfl rfl rfl (by rw [hz2]; omega) (by unfold maxLen; omega) (Nat.le_refl _) ?_; intro w2 hown1 hgrow1; clear hi hz0 hz1 hz2)
  have hz := made_zero zs
  rw [hl] at hz
  rw [hz] at hown1
  have hb1 : Below W.heap.size W w2 := (Below.refl _ _).grown hgrow1 (Nat.le_refl _) (fun k hk => by cases hk)
  clear hz hgrow1
  go_loopw [4] (fun iv wr => ∃ (k : Nat), k ≤ n ∧ iv = .int .i64 k ∧ wr.ownsRow W.heap.size 3 1 (.slice (some ⟨W.heap.size, 0, none⟩) n n) n (vals (invOf zs k)) ∧ Below W.heap.size W wr) (fun i _ => n - (intOf i).toNat)
  case atStart => exact ⟨0, Nat.zero_le _, rfl, hown1, hb1⟩
  case round =>
    obtain ⟨k, hk, rfl, hown, hb⟩ := hrel
    clear hown1 hb1
    by_cases hlt : k < n
    · have hck : wr.cell? ⟨b, o + k, none⟩ = some (.int .i64 (zs.getD k 0)) := (hb.cell (p := ⟨b, o + k, none⟩) hbl).trans (HC.out k (by omega))
      obtain ⟨m, hm, hm2⟩ := hord.getD (k := k) (by omega)
      have hst := hown.stored m (.int .i64 ((k : Int) + 1))
      rw [← inv_next hm] at hst
      have hdc := hown.cellAt m (by omega)
      have hf := hown.frozenAt m
      obtain ⟨u, hu⟩ : ∃ u, wr.cell? ⟨W.heap.size, m, none⟩ = some u := ⟨_, hdc.trans (List.getElem?_eq_getElem (by rw [vals_len, invOf_len]; omega))⟩
      have HS := Go.Lib.hid (And.intro hst.1 (hb.setCell (p := ⟨W.heap.size, m, none⟩) hgb (.int .i64 ((k : Int) + 1))))
      rw [hm] at hck
      have hlti : (k : Int) < (n : Int) := by omega
      have hmi : (m : Int) < (n : Int) := by omega
      have hm0 : (0 : Int) ≤ (m : Int) := by omega
      clear hm hm2 hst hdc hb hown
      go_wp2
      go_roundw
      case rel => exact ⟨k + 1, by omega, by go_num, HS.out.1, HS.out.2⟩
      case measure => simp [intOf] <;> omega
    · have hkn : k = n := by omega
      subst hkn
      have H3 := Go.Lib.hid (And.intro hown hb)
      have hl2 : (invOf zs zs.length).length = k := by rw [invOf_len, hl]
      clear hown hb
      go_wp2
      go_ret
      exact ⟨_, rfl, by rw [hl2]; rw [hl]; exact H3.out.1, H3.out.2⟩

set_option maxRecDepth 100000 in
set_option maxHeartbeats 1000000 in
theorem specInverse (zs : List Int) (xs : List Int) (b : Bool) (h : inverseAns zs = (xs, b)) (hz : zs.length ≤ 1048576) (W : World) (v : Value) (n : Nat) (hv : Sees W v n (vals zs)) :
    Calls Try.prog 65 #[v] W fun e w' => ListTo W e w' xs b := by
  have hn : n ≤ 1048576 := by have := hv.1; simp at this; omega
  obtain ⟨i0, hi, hz0, hz1, hz2⟩ := info_parts infoI
  obtain ⟨r, hr⟩ : ∃ r, isOrd zs = r := ⟨_, rfl⟩
  have CO := Go.Lib.hid (fun W' (hs : Sees W' v n (vals zs)) => l2Order_any W' v n zs r hs hn hr)
  have HV := Go.Lib.hid hv
  unfold inverseAns at h
  cases r with
  | false =>
    rw [if_neg (by unfold isOrd at hr; exact of_decide_eq_false hr)] at h
    cases h
    clear hv hr
    go_enter Try.func65, Try.ntmps65
    go_wp2_with fail
    refine (CO.out _ HV.out).mono ?_
    rintro e w1 ⟨rfl, hd⟩
    have HB : Hid (Below W.heap.size W w1) := Go.Lib.hid (hd.below _)
    go_wp2_with fail
    go_ret2
    exact listTo_below HB.out (listTo_none _ _)
  | true =>
    have hord : Ord zs := by unfold isOrd at hr; exact of_decide_eq_true hr
    rw [if_pos hord] at h
    cases h
    have hl : zs.length = n := by simpa using hv.1
    have hn1 : 1 ≤ n := by have := hord.1; omega
    have hn7 : n ≤ 7 := by have := hord.2.1; omega
    obtain ⟨b, o, cap, rfl, hcap, _, hbl, hcell⟩ := sees_cells hv (by omega)
    have HC := Go.Lib.hid hcell
    clear hv hr hcell
    go_enter Try.func65, Try.ntmps65
    go_wp2_with fail
    refine (CO.out _ HV.out).mono ?_
    rintro e w1 ⟨rfl, hd⟩
    have HB : Hid (Below W.heap.size W w1) := Go.Lib.hid (hd.below _)
    clear hd
    go_wp2_with fail
    refine (l2Inverse_any zs hord w1 _ n (HV.out.grow HB.out)).mono ?_
    rintro e w2 ⟨u, rfl, ho, hb⟩
    have H := Go.Lib.hid (And.intro ho hb)
    clear ho hb
    go_wp2_with fail
    go_ret2
    exact listTo_below HB.out ⟨_, rfl, H.out.1, H.out.2⟩

set_option maxRecDepth 100000 in
set_option maxHeartbeats 1000000 in
theorem implInverse (zs : List Int) (xs : List Int) (b : Bool) (h : inverseAns zs = (xs, b)) (hz : zs.length ≤ 1048576) (W : World) (v : Value) (n : Nat) (hv : Sees W v n (vals zs)) :
    Calls Try.prog 64 #[v] W fun e w' => ListTo W e w' xs b := by
  have hn : n ≤ 1048576 := by have := hv.1; simp at this; omega
  obtain ⟨i0, hi, hz0, hz1, hz2⟩ := info_parts infoI
  obtain ⟨r, hr⟩ : ∃ r, isOrd zs = r := ⟨_, rfl⟩
  have CO := Go.Lib.hid (fun W' (hs : Sees W' v n (vals zs)) => implOrder_any W' v n zs r hs hn hr)
  have HV := Go.Lib.hid hv
  unfold inverseAns at h
  cases r with
  | false =>
    rw [if_neg (by unfold isOrd at hr; exact of_decide_eq_false hr)] at h
    cases h
    clear hv hr
    go_enter Try.func64, Try.ntmps64
    go_wp2_with fail
    refine (CO.out _ HV.out).mono ?_
    rintro e w1 ⟨rfl, hd⟩
    have HB : Hid (Below W.heap.size W w1) := Go.Lib.hid hd
    go_wp2_with fail
    go_ret2
    exact listTo_below HB.out (listTo_none _ _)
  | true =>
    have hord : Ord zs := by unfold isOrd at hr; exact of_decide_eq_true hr
    rw [if_pos hord] at h
    cases h
    have hl : zs.length = n := by simpa using hv.1
    have hn1 : 1 ≤ n := by have := hord.1; omega
    have hn7 : n ≤ 7 := by have := hord.2.1; omega
    obtain ⟨b, o, cap, rfl, hcap, _, hbl, hcell⟩ := sees_cells hv (by omega)
    have HC := Go.Lib.hid hcell
    clear hv hr hcell
    go_enter Try.func64, Try.ntmps64
    go_wp2_with fail
    refine (CO.out _ HV.out).mono ?_
    rintro e w1 ⟨rfl, hd⟩
    have HB : Hid (Below W.heap.size W w1) := Go.Lib.hid hd
    clear hd
    go_wp2_with (at_make; refine wpList_make_full _ rfl _ _ 29 rfl W.heap.size 3 i0 (.int .i64 0) 1 Try.underlying29 hi hz0 hz1 .i64 .i64 n n n rfl rfl rfl rfl (by rw [hz2]; omega) (by unfold maxLen; omega) (HB.out.size) ?_; intro w2 hown1 hgrow1; clear hi hz0 hz1 hz2)
    have hgb : W.heap.size ≤ w1.heap.size := HB.out.size
    have hz := made_zero zs
    rw [hl] at hz
    rw [hz] at hown1
    have hb1 : Below W.heap.size W w2 := HB.out.grown hgrow1 HB.out.size (fun k hk => by cases hk)
    clear hz hgrow1
    go_loopw [16] (fun iv wr => ∃ (k : Nat), k ≤ n ∧ iv = .int .i64 k ∧ wr.ownsRow W.heap.size 3 1 (.slice (some ⟨w1.heap.size, 0, none⟩) n n) n (vals (invOf zs k)) ∧ Below W.heap.size W wr) (fun i _ => n - (intOf i).toNat)
    case atStart => exact ⟨0, Nat.zero_le _, rfl, hown1, hb1⟩
    case round =>
      obtain ⟨k, hk, rfl, hown, hb⟩ := hrel
      clear hown1 hb1
      by_cases hlt : k < n
      · have hck : wr.cell? ⟨b, o + k, none⟩ = some (.int .i64 (zs.getD k 0)) := (hb.cell (p := ⟨b, o + k, none⟩) hbl).trans (HC.out k (by omega))
        obtain ⟨m, hm, hm2⟩ := hord.getD (k := k) (by omega)
        have hst := hown.stored m (.int .i64 ((k : Int) + 1))
        rw [← inv_next hm] at hst
        have hdc := hown.cellAt m (by omega)
        have hf := hown.frozenAt m
        obtain ⟨u, hu⟩ : ∃ u, wr.cell? ⟨w1.heap.size, m, none⟩ = some u := ⟨_, hdc.trans (List.getElem?_eq_getElem (by rw [vals_len, invOf_len]; omega))⟩
        have HS := Go.Lib.hid (And.intro hst.1 (hb.setCell (p := ⟨w1.heap.size, m, none⟩) hgb (.int .i64 ((k : Int) + 1))))
        rw [hm] at hck
        have hlti : (k : Int) < (n : Int) := by omega
        have hmi : (m : Int) < (n : Int) := by omega
        have hm0 : (0 : Int) ≤ (m : Int) := by omega
        clear hm hm2 hst hdc hb hown
        go_wp2
        go_roundw
        case rel => exact ⟨k + 1, by omega, by go_num, HS.out.1, HS.out.2⟩
        case measure => simp [intOf] <;> omega
      · have hkn : k = n := by omega
        subst hkn
        have H3 := Go.Lib.hid (And.intro hown hb)
        have hl2 : (invOf zs zs.length).length = k := by rw [invOf_len, hl]
        clear hown hb
        go_wp2
        go_ret2
        exact ⟨_, rfl, by rw [hl2]; rw [hl]; exact H3.out.1, H3.out.2⟩

end Go.Proofs.Ytecbfoodkcgehab.InverseC
