/-
  Contracts: whether a list is a sharing of an order, by the model and by the program. Conditions: lists of at most 2^20 numbers.
-/
import Derived.Test.YtekihdnkkeggjaaMinMax
import Derived.Test.YtekihdnkkeggjaaOrder
import Derived.Test.YtekihdnkkeggjaaIn
import Derived.Test.YtekihdnkkeggjaaShelf
namespace Go.Proofs.Ytekihdnkkeggjaa.SharC
open Go.RowKit SeesC IntsC ExactC OrdMath OrderC InC BesM MinMaxC
set_option linter.unusedVariables false

set_option maxRecDepth 100000 in
set_option maxHeartbeats 4000000 in
theorem l7Sharing_any (zs so : List Int) (ret : Bool) (h : isShB zs so = ret) (hz : zs.length ≤ 1048576) (hs : so.length ≤ 1048576) (W : World) (v : Value) (n : Nat) (hv : Sees W v n (vals zs)) (u : Value) (m : Nat) (hu : Sees W u m (vals so)) :
    Calls Try.prog 60 #[v, u] W fun e w' => e = .returned (.bool ret) ∧ Drawn W w' := by
  have hn : n ≤ 1048576 := by have := hv.1; simp at this; omega
  have hm : m ≤ 1048576 := by have := hu.1; simp at this; omega
  obtain ⟨r, hr⟩ : ∃ r, isOrd zs = r := ⟨_, rfl⟩
  have CO := Go.Lib.hid (fun W' (hs' : Sees W' v n (vals zs)) => l2Order_any W' v n zs r hs' hn hr)
  have HV := Go.Lib.hid hv
  have HU := Go.Lib.hid hu
  have hl : zs.length = n := by simpa using hv.1
  have hl2 : so.length = m := by simpa using hu.1
  unfold isShB at h
  obtain ⟨_, ad, cap, rfl, _, _⟩ := hv
  obtain ⟨_, ad', cap', rfl, _, _⟩ := hu
  cases r with
  | false =>
    rw [decide_eq_false (by rintro ⟨h1, _⟩; unfold isOrd at hr; exact of_decide_eq_false hr h1)] at h
    subst h
    clear hr
    go_enter Try.func60, Try.ntmps60
    go_wp2_with fail
    refine (CO.out _ HV.out).mono ?_
    rintro e w1 ⟨rfl, hd⟩
    have HB1 : Hid (Drawn W w1) := Go.Lib.hid hd
    clear hd
    go_wp2_with fail
    go_ret
    exact ⟨rfl, HB1.out⟩
  | true =>
    have hord : Ord zs := by unfold isOrd at hr; exact of_decide_eq_true hr
    have HO := Go.Lib.hid hord
    have hn7 : n ≤ 7 := by have := hord.2.1; omega
    have hn1 : 1 ≤ n := by have := hord.1; omega
    clear hr
    by_cases hmn : m = n
    · subst hmn
      have HH : Hid (decide (∀ s ∈ so, 0 ≤ s ∧ s ≤ 3) = ret) := Go.Lib.hid (by
        rw [← h]
        exact decide_eq_decide.2 ⟨fun h1 => ⟨HO.out, by omega, h1⟩, fun h1 => h1.2.2⟩)
      have HL := Go.Lib.hid hl2
      clear h hord hl hl2
      go_enter Try.func60, Try.ntmps60
      go_wp2_with fail
      refine (CO.out _ HV.out).mono ?_
      rintro e w1 ⟨rfl, hd⟩
      have HB1 : Hid (Drawn W w1) := Go.Lib.hid hd
      clear hd
      obtain ⟨b, o, capx, e1, _, _, hbl, hcell⟩ := sees_cells HU.out (by omega)
      cases e1
      have HC := Go.Lib.hid hcell
      clear hcell
      go_wp2_with fail
      go_loopw [5] (fun iv wr => ∃ i : Nat, i ≤ m ∧ iv = .int .i64 (i : Int) ∧ Drawn W wr ∧ Hid (∀ s ∈ so.take i, 0 ≤ s ∧ s ≤ 3)) (fun iv _ => m - (intOf iv).toNat)
      case atStart => exact ⟨0, Nat.zero_le _, rfl, HB1.out, Go.Lib.hid (by simp)⟩
      case round =>
        obtain ⟨i, him, rfl, HD, HQ⟩ := hrel
        obtain ⟨wo, rfl⟩ : ∃ wo, wo = wr := ⟨_, rfl⟩
        have HDB := Go.Lib.hid HD
        clear HD
        by_cases hlt : i < m
        · obtain ⟨x, hx⟩ : ∃ x, so.getD i 0 = x := ⟨_, rfl⟩
          have hck := ((HDB.out.below W.heap.size).cell (p := ⟨b, o + i, none⟩) hbl).trans (HC.out i (by have := HL.out; omega))
          rw [hx] at hck
          have hxe : so[i]'(by have := HL.out; omega) = x := by rw [← hx]; have := HL.out; simp [show i < so.length by omega]
          obtain ⟨q, hq⟩ : ∃ q, decide ((0 : Int) ≤ x ∧ x ≤ 3) = q := ⟨_, rfl⟩
          have CI := Go.Lib.hid (l1In_any x 0 3 wo q hq)
          have HQ2 := Go.Lib.hid (And.intro hq hxe)
          have hlti : (i : Int) < (m : Int) := by omega
          clear hx hxe hq
          cases q with
          | false =>
            have HF : Hid (ret = false) := Go.Lib.hid (by
              rw [← HH.out]
              refine decide_eq_false (fun h1 => ?_)
              have h2 := h1 x (by rw [← HQ2.out.2]; exact List.getElem_mem _)
              have h3 := HQ2.out.1
              rw [decide_eq_true h2] at h3
              cases h3)
            go_wp2_with fail
            refine (CI.out).mono ?_
            rintro e wq ⟨rfl, hwq⟩
            obtain rfl : wo = wq := hwq
            go_wp2_with fail
            go_ret
            rw [HF.out]
            exact ⟨rfl, HDB.out⟩
          | true =>
            have HN : Hid (∀ s ∈ so.take (i + 1), 0 ≤ s ∧ s ≤ 3) := Go.Lib.hid (by
              intro s hs
              rw [List.take_succ_eq_append_getElem (by have := HL.out; omega), HQ2.out.2, List.mem_append] at hs
              rcases hs with hs | hs
              · exact HQ.out s hs
              · simp at hs; subst hs; exact of_decide_eq_true HQ2.out.1)
            go_wp2_with fail
            refine (CI.out).mono ?_
            rintro e wq ⟨rfl, hwq⟩
            obtain rfl : wo = wq := hwq
            go_wp2_with fail
            go_roundw
            case rel => exact ⟨i + 1, by omega, by go_num, HDB.out, HN⟩
            case measure => simp [intOf]; omega
        · have him2 : i = m := by omega
          have HF : Hid (ret = true) := Go.Lib.hid (by
            rw [← HH.out]
            have := HQ.out
            rw [List.take_of_length_le (by have := HL.out; omega)] at this
            exact decide_eq_true this)
          have hlti : ¬ (i : Int) < (m : Int) := by omega
          clear him2
          go_wp2_with fail
          go_ret
          rw [HF.out]
          exact ⟨rfl, HDB.out⟩
    · rw [decide_eq_false (by rintro ⟨_, h1, _⟩; omega)] at h
      subst h
      have e1 : ((m : Int) == (n : Int)) = false := by rw [beq_eq_false_iff_ne]; omega
      have e2 : ((m : Int) != (n : Int)) = true := by rw [bne, e1]; rfl
      have e3 : (m == n) = false := by rw [beq_eq_false_iff_ne]; exact hmn
      clear hord hl hl2
      go_enter Try.func60, Try.ntmps60
      go_wp2_with fail
      refine (CO.out _ HV.out).mono ?_
      rintro e w1 ⟨rfl, hd⟩
      have HB1 : Hid (Drawn W w1) := Go.Lib.hid hd
      clear hd
      go_wp2_with fail
      go_ret
      exact ⟨rfl, HB1.out⟩

set_option maxRecDepth 100000 in
set_option maxHeartbeats 1000000 in
theorem specIsSharing (zs so : List Int) (ret : Bool) (h : isShB zs so = ret) (hz : zs.length ≤ 1048576) (hs : so.length ≤ 1048576) (W : World) (v : Value) (n : Nat) (hv : Sees W v n (vals zs)) (u : Value) (m : Nat) (hu : Sees W u m (vals so)) :
    Calls Try.prog 32 #[v, u] W fun e w' => ValTo W e w' (.bool ret) := by
  have C1 := Go.Lib.hid (l7Sharing_any zs so ret h hz hs W v n hv u m hu)
  obtain ⟨_, ad, cap, rfl, _, _⟩ := hv
  obtain ⟨_, ad', cap', rfl, _, _⟩ := hu
  clear h
  go_enter Try.func32, Try.ntmps32
  go_wp2_with fail
  refine (C1.out).mono ?_
  rintro e w1 ⟨rfl, hd⟩
  have HB : Hid (Below W.heap.size W w1) := Go.Lib.hid (hd.below _)
  clear hd
  go_wp2_with fail
  go_ret
  exact ⟨rfl, HB.out⟩

set_option maxRecDepth 100000 in
set_option maxHeartbeats 4000000 in
theorem implIsSharing (zs so : List Int) (ret : Bool) (h : isShB zs so = ret) (hz : zs.length ≤ 1048576) (hs : so.length ≤ 1048576) (W : World) (v : Value) (n : Nat) (hv : Sees W v n (vals zs)) (u : Value) (m : Nat) (hu : Sees W u m (vals so)) :
    Calls Try.prog 31 #[v, u] W fun e w' => ValTo W e w' (.bool ret) := by
  have hn : n ≤ 1048576 := by have := hv.1; simp at this; omega
  have hm : m ≤ 1048576 := by have := hu.1; simp at this; omega
  obtain ⟨r, hr⟩ : ∃ r, isOrd zs = r := ⟨_, rfl⟩
  have CO := Go.Lib.hid (fun W' (hs' : Sees W' v n (vals zs)) => implOrder_any W' v n zs r hs' hn hr)
  have HV := Go.Lib.hid hv
  have HU := Go.Lib.hid hu
  have hl : zs.length = n := by simpa using hv.1
  have hl2 : so.length = m := by simpa using hu.1
  unfold isShB at h
  obtain ⟨_, ad, cap, rfl, _, _⟩ := hv
  obtain ⟨_, ad', cap', rfl, _, _⟩ := hu
  cases r with
  | false =>
    rw [decide_eq_false (by rintro ⟨h1, _⟩; unfold isOrd at hr; exact of_decide_eq_false hr h1)] at h
    subst h
    clear hr
    go_enter Try.func31, Try.ntmps31
    go_wp2_with fail
    refine (CO.out _ HV.out).mono ?_
    rintro e w1 ⟨rfl, hd⟩
    have HB1 : Hid (Below W.heap.size W w1) := Go.Lib.hid hd
    clear hd
    go_wp2_with fail
    go_ret
    exact ⟨rfl, HB1.out⟩
  | true =>
    have hord : Ord zs := by unfold isOrd at hr; exact of_decide_eq_true hr
    have HO := Go.Lib.hid hord
    have hn7 : n ≤ 7 := by have := hord.2.1; omega
    have hn1 : 1 ≤ n := by have := hord.1; omega
    clear hr
    by_cases hmn : m = n
    · subst hmn
      have HH : Hid (decide (∀ s ∈ so, 0 ≤ s ∧ s ≤ 3) = ret) := Go.Lib.hid (by
        rw [← h]
        exact decide_eq_decide.2 ⟨fun h1 => ⟨HO.out, by omega, h1⟩, fun h1 => h1.2.2⟩)
      have HL := Go.Lib.hid hl2
      clear h hord hl hl2
      obtain ⟨b, o, capx, e1, _, _, hbl, hcell⟩ := sees_cells HU.out (by omega)
      cases e1
      have hne : so ≠ [] := by intro e; have := HL.out; rw [e] at this; simp at this; omega
      have htk : so.take m = so := List.take_of_length_le (by have := HL.out; omega)
      have CMin := Go.Lib.hid (fun (X : World) (hX : Below W.heap.size W X) => Try.slices_Min_int b o m cap' so X (by omega) (by have := HL.out; omega) (by omega) (fun j hj => (hX.cell (p := ⟨b, o + j, none⟩) hbl).trans (hcell j hj)))
      have CMax := Go.Lib.hid (fun (X : World) (hX : Below W.heap.size W X) => Try.slices_Max_int b o m cap' so X (by omega) (by have := HL.out; omega) (by omega) (fun j hj => (hX.cell (p := ⟨b, o + j, none⟩) hbl).trans (hcell j hj)))
      rw [htk] at CMin CMax
      obtain ⟨mn, hmn⟩ : ∃ mn, Go.Lib.minOf so = mn := ⟨_, rfl⟩
      obtain ⟨mx, hmx⟩ : ∃ mx, Go.Lib.maxOf so = mx := ⟨_, rfl⟩
      have HR : Hid (decide (0 ≤ mn ∧ mx < 4) = ret) := Go.Lib.hid (by
        rw [← HH.out, ← hmn, ← hmx]
        exact decide_eq_decide.2 (sh_minmax hne).symm)
      rw [hmn] at CMin
      rw [hmx] at CMax
      clear hmn hmx htk hne hcell
      go_enter Try.func31, Try.ntmps31
      go_wp2_with fail
      refine (CO.out _ HV.out).mono ?_
      rintro e w1 ⟨rfl, hd⟩
      have HB1 : Hid (Below W.heap.size W w1) := Go.Lib.hid hd
      clear hd
      go_wp2_with fail
      refine (CMin.out _ HB1.out).mono ?_
      rintro e wq ⟨rfl, hwq⟩
      obtain rfl : wq = w1 := hwq
      by_cases h0 : (0 : Int) ≤ mn
      · by_cases h4 : mx < (4 : Int)
        · have HF : Hid (ret = true) := Go.Lib.hid (by rw [← HR.out]; exact decide_eq_true ⟨h0, h4⟩)
          go_wp2_with fail
          refine (CMax.out _ HB1.out).mono ?_
          rintro e wq2 ⟨rfl, hwq⟩
          obtain rfl : wq2 = wq := hwq
          go_wp2_with fail
          go_ret
          rw [HF.out]
          exact ⟨rfl, HB1.out⟩
        · have HF : Hid (ret = false) := Go.Lib.hid (by rw [← HR.out]; exact decide_eq_false (fun h => h4 h.2))
          go_wp2_with fail
          refine (CMax.out _ HB1.out).mono ?_
          rintro e wq2 ⟨rfl, hwq⟩
          obtain rfl : wq2 = wq := hwq
          go_wp2_with fail
          go_ret
          rw [HF.out]
          exact ⟨by show Ending.returned (Value.bool (decide (mx < 4))) = _; rw [decide_eq_false (by omega)], HB1.out⟩
      · have HF : Hid (ret = false) := Go.Lib.hid (by rw [← HR.out]; exact decide_eq_false (fun h => h0 h.1))
        go_wp2_with fail
        go_ret
        rw [HF.out]
        exact ⟨rfl, HB1.out⟩
    · rw [decide_eq_false (by rintro ⟨_, h1, _⟩; omega)] at h
      subst h
      have e1 : ((m : Int) == (n : Int)) = false := by rw [beq_eq_false_iff_ne]; omega
      have e2 : ((m : Int) != (n : Int)) = true := by rw [bne, e1]; rfl
      have e3 : (m == n) = false := by rw [beq_eq_false_iff_ne]; exact hmn
      clear hord hl hl2
      go_enter Try.func31, Try.ntmps31
      go_wp2_with fail
      refine (CO.out _ HV.out).mono ?_
      rintro e w1 ⟨rfl, hd⟩
      have HB1 : Hid (Below W.heap.size W w1) := Go.Lib.hid hd
      clear hd
      go_wp2_with fail
      go_ret
      exact ⟨rfl, HB1.out⟩

end Go.Proofs.Ytekihdnkkeggjaa.SharC
