/-
  Contracts: the model's l7Conflicts; ConflictsOf of the model and of the program. Conditions: lists of at most 2^20 numbers.
-/
import Derived.Test.YtekihdnkkeggjaaConf
import Derived.Test.YtekihdnkkeggjaaConfI
import Derived.Test.YtekihdnkkeggjaaOrder
import Derived.Test.YtekihdnkkeggjaaPairs
namespace Go.Proofs.Ytekihdnkkeggjaa.ConfSC
open Go.RowKit SeesC IntsC ExactC OrdMath OrderC BesM ListsC SameC AppendTwoC MinMaxC ConfC ConfIC
set_option linter.unusedVariables false

set_option maxRecDepth 100000 in
set_option maxHeartbeats 4000000 in
theorem l7Conflicts_any (zs : List Int) (hord : Ord zs) (W : World) (v : Value) (n : Nat) (hv : Sees W v n (vals zs)) :
    Calls Try.prog 66 #[v] W fun e w' => ∃ g c N, e = .returned (.slice (some ⟨g, 0, none⟩) N c) ∧ CfW zs W (confs zs) N g c w' := by
  obtain ⟨i0, hi, hz0, hz1, hz2⟩ := info_parts infoA2
  have hl : zs.length = n := by simpa using hv.1
  have hn7 : n ≤ 7 := by have := hord.2.1; omega
  have hn1 : 1 ≤ n := by have := hord.1; omega
  obtain ⟨b, o, cap, rfl, hcap, _, hbl, hcell⟩ := sees_cells hv (by omega)
  have HC := Go.Lib.hid hcell
  have HV := Go.Lib.hid hv
  have HL := Go.Lib.hid (And.intro hl hord)
  have H0 : Hid (CfW zs W (allC zs 0) 0 W.heap.size 0 (W.alloc (.cells #[] 41))) := Go.Lib.hid ⟨rfl, World.ownsRow_made _ _ _ (Nat.le_refl _) (by unfold maxLen; omega) rfl, (Below.refl _ _).alloc (Nat.le_refl _) _⟩
  have HLEN : Hid (∀ i, i ≤ n → (allC zs i).length ≤ 49) := Go.Lib.hid (fun i hi => by
    have h1 := allC_len zs i
    have h2 : i * zs.length ≤ 7 * 7 := Nat.mul_le_mul (by omega) (by omega)
    omega)
  clear hcell hl hv hord
  go_enter Try.func66, Try.ntmps66
  go_wp2
  go_loopw [3, 4] (fun lv iv wr => ∃ (i N g c : Nat), i ≤ n ∧ iv = .int .i64 (i : Int) ∧ lv = .slice (some ⟨g, 0, none⟩) N c ∧ Hid (CfW zs W (allC zs i) N g c wr)) (fun _ iv _ => n - (intOf iv).toNat)
  case atStart => exact ⟨0, 0, W.heap.size, 0, Nat.zero_le _, rfl, rfl, H0⟩
  case round =>
    obtain ⟨i, N0, g0, c0, hin, rfl, rfl, HX⟩ := hrel
    clear H0
    obtain ⟨wo, rfl⟩ : ∃ wo, wo = wr := ⟨_, rfl⟩
    by_cases hlt : i < n
    · skip
      have hlti : (i : Int) < (n : Int) := by omega
      have HA0 : Hid (CfW zs W (allC zs i ++ rowC zs i (i + 1)) N0 g0 c0 wo) := Go.Lib.hid (by rw [rowC_small zs i (i + 1) (Nat.le_refl _), List.append_nil]; exact HX.out)
      go_wp2
      go_loopw [3, 5] (fun lv jv wr => ∃ (j N g c : Nat), i + 1 ≤ j ∧ j ≤ n ∧ jv = .int .i64 (j : Int) ∧ lv = .slice (some ⟨g, 0, none⟩) N c ∧ Hid (CfW zs W (allC zs i ++ rowC zs i j) N g c wr)) (fun _ jv _ => n - (intOf jv).toNat)
      case atStart => exact ⟨i + 1, N0, g0, c0, Nat.le_refl _, by omega, by go_num, rfl, HA0⟩
      case round =>
        obtain ⟨j, N, g, c, hij, hjn, rfl, rfl, HY⟩ := hrel
        clear HA0
        obtain ⟨wx, rfl⟩ : ∃ wx, wx = wr := ⟨_, rfl⟩
        by_cases hjl : j < n
        · obtain ⟨c1, hc1⟩ : ∃ c1, conf zs i j = c1 := ⟨_, rfl⟩
          have CM := Go.Lib.hid (l7Conflict_any zs i j c1 hc1 wx _ n (HV.out.grow HY.out.2.2) hlt hjl (by omega))
          have HCM := Go.Lib.hid hc1
          have hjli : (j : Int) < (n : Int) := by omega
          have hN49 : N ≤ 98 := by
            have h1 := HY.out.1
            rw [List.length_append] at h1
            have h2 := HLEN.out i (by omega)
            have h3 := rowC_len zs i j
            omega
          clear hc1
          go_wp2_with fail
          refine (CM.out).mono ?_
          rintro e wq ⟨rfl, hdq⟩
          have HY2 : Hid (CfW zs W (allC zs i ++ rowC zs i j) N g c wq) := Go.Lib.hid ⟨HY.out.1, HY.out.2.1.kept (grown_of_below (hdq.below _) none) (by simp [Value.ownBlock]), HY.out.2.2.trans (hdq.below _)⟩
          clear hdq CM
          cases c1 with
          | true =>
            have hst : allC zs i ++ rowC zs i (j + 1) = (allC zs i ++ rowC zs i j) ++ [(i, j)] := by
              have e : rowC zs i (j + 1) = rowC zs i j ++ [(i, j)] := by
                show (if i < j ∧ conf zs i j = true then _ else _) = _
                rw [if_pos ⟨by omega, HCM.out⟩]
              rw [e, List.append_assoc]
            have HST := Go.Lib.hid hst
            have hsz := HY2.out.2.2.size
            clear hst
            go_wp2_with (at_builtin; refine wpList_append_two _ rfl _ _ 36 rfl W.heap.size 41 i0 (.agg #[.int .i64 0, .int .i64 0]) 2 16 Try.underlying36 hi hz0 hz1 hz2 rfl (by decide) (.slice (some ⟨g, 0, none⟩) N c) N (prv (allC zs i ++ rowC zs i j)) rfl (World.ownsRow.alloc HY2.out.2.1 _) ⟨wq.heap.size, 0, none⟩ 1 1 [.int .i64 (i : Int), .int .i64 (j : Int)] rfl rfl (two_new _ _ _ _) (fun u hu => by simp at hu; rcases hu with rfl | rfl <;> rfl) (by unfold maxLen; omega) (by omega) (by simp; omega) ?_; intro v4 w4 hown4 hgrow4 _; obtain ⟨g4, c4, rfl⟩ := ownsRow_succ hown4; have H4 := Go.Lib.hid (And.intro hown4 hgrow4); clear hown4 hgrow4)
            have HN : Hid (CfW zs W (allC zs i ++ rowC zs i (j + 1)) (N + 1) g4 c4 w4) := Go.Lib.hid (by
              refine ⟨by rw [HST.out, List.length_append, HY2.out.1]; rfl, ?_, ?_⟩
              · rw [HST.out, prv_append]; exact H4.out.1
              · have h1 : Below W.heap.size W (wq.alloc (.cells #[.int .i64 (i : Int), .int .i64 (j : Int)] 41)) := HY2.out.2.2.alloc HY2.out.2.2.size _
                exact h1.grown H4.out.2 h1.size (fun q hq => (HY2.out.2.1.lt q hq).1))
            go_roundw
            case rel => exact ⟨j + 1, N + 1, g4, c4, by omega, by omega, by go_num, rfl, HN⟩
            case measure => simp [intOf]; omega
          | false =>
            have HN : Hid (CfW zs W (allC zs i ++ rowC zs i (j + 1)) N g c wq) := Go.Lib.hid (by
              have e : rowC zs i (j + 1) = rowC zs i j := by
                show (if i < j ∧ conf zs i j = true then _ else _) = _
                rw [if_neg (by rw [HCM.out]; simp)]
              rw [e]; exact HY2.out)
            go_wp2_with fail
            go_roundw
            case rel => exact ⟨j + 1, N, g, c, by omega, by omega, by go_num, rfl, HN⟩
            case measure => simp [intOf]; omega
        · have hjn2 : j = n := by omega
          have HN : Hid (CfW zs W (allC zs (i + 1)) N g c wx) := Go.Lib.hid (by
            have h1 := HY.out
            rw [hjn2] at h1
            show CfW zs W (allC zs i ++ rowC zs i zs.length) N g c wx
            rw [HL.out.1]; exact h1)
          have hjli : ¬ (j : Int) < (n : Int) := by omega
          clear hjn2
          go_wp2
          go_roundw
          case rel => exact ⟨i + 1, N, g, c, by omega, by go_num, rfl, HN⟩
          case measure => simp [intOf]; omega
    · have hin2 : i = n := by omega
      have HF : Hid (CfW zs W (confs zs) N0 g0 c0 wo) := Go.Lib.hid (by
        have h1 := HX.out
        rw [hin2] at h1
        unfold confs; rw [HL.out.1]; exact h1)
      have hlti : ¬ (i : Int) < (n : Int) := by omega
      clear hin2
      go_wp2
      go_ret
      exact ⟨g0, c0, N0, rfl, HF.out⟩

/-- Pairs of numbers and a truth value are returned, the pairs in memory of the call's own. -/
def PairsTo (w : World) (e : Ending) (w' : World) (C : List (Nat × Nat)) (b : Bool) : Prop :=
  ∃ v, e = .returned (.tuple #[v, .bool b]) ∧ w'.ownsRow w.heap.size 41 2 v C.length (prv C) ∧ Below w.heap.size w w'

theorem pairsTo_none {w w1 : World} (hb : Below w.heap.size w w1) (b : Bool) : PairsTo w (.returned (.tuple #[.slice (some ⟨w1.heap.size, 0, none⟩) 0 0, .bool b])) (w1.alloc (.cells #[] 41)) [] b :=
  ⟨_, rfl, World.ownsRow_made _ _ _ hb.size (by unfold maxLen; omega) rfl, hb.alloc hb.size _⟩

def confsAns (zs : List Int) : List (Nat × Nat) × Bool := if Ord zs then (confs zs, true) else ([], false)

theorem confsAns_len {zs : List Int} {C : List (Nat × Nat)} {b : Bool} (h : confsAns zs = (C, b)) : C.length ≤ 49 := by
  unfold confsAns at h
  split at h
  · rename_i ho; cases h; exact confs_len ho.2.1
  · cases h; simp

set_option maxRecDepth 100000 in
set_option maxHeartbeats 2000000 in
theorem specConfs (zs : List Int)  (xs : List (Nat × Nat)) (b : Bool) (h : confsAns zs = (xs, b)) (hz : zs.length ≤ 1048576)  (W : World) (v : Value) (n : Nat) (hv : Sees W v n (vals zs)) :
    Calls Try.prog 28 #[v] W fun e w' => PairsTo W e w' xs b := by
  have hl : zs.length = n := by simpa using hv.1
  have hn : n ≤ 1048576 := by omega
  obtain ⟨r, hr⟩ : ∃ r, isOrd zs = r := ⟨_, rfl⟩
  have CO := Go.Lib.hid (fun W' (hs' : Sees W' v n (vals zs)) => l2Order_any W' v n zs r hs' hn hr)
  have HV := Go.Lib.hid hv
  unfold confsAns at h
  obtain ⟨_, ad, cap, rfl, _, _⟩ := hv
  cases r with
  | false =>
    rw [if_neg (by intro h1; unfold isOrd at hr; exact of_decide_eq_false hr h1)] at h
    cases h
    clear hr
    go_enter Try.func28, Try.ntmps28
    go_wp2_with fail
    refine (CO.out _ HV.out).mono ?_
    rintro e w1 ⟨rfl, hd⟩
    have HB1 : Hid (Below W.heap.size W w1) := Go.Lib.hid (hd.below _)
    clear hd
    go_wp2_with fail
    go_ret2
    exact pairsTo_none HB1.out _
  | true =>
    have hord : Ord zs := by unfold isOrd at hr; exact of_decide_eq_true hr
    clear hr
    rw [if_pos hord] at h
    cases h
    have CQ := Go.Lib.hid (fun W' (hs' : Sees W' (.slice ad n cap) n (vals zs)) => l7Conflicts_any zs hord W' (.slice ad n cap) n hs')
    obtain ⟨L, hL⟩ : ∃ L, confs zs = L := ⟨_, rfl⟩
    rw [hL] at CQ ⊢
    clear hL hord hl
    go_enter Try.func28, Try.ntmps28
    go_wp2_with fail
    refine (CO.out _ HV.out).mono ?_
    rintro e w1 ⟨rfl, hd⟩
    have HB1 : Hid (Below W.heap.size W w1) := Go.Lib.hid (hd.below _)
    clear hd
    go_wp2_with fail
    refine (CQ.out _ (HV.out.grow HB1.out)).mono ?_
    rintro e w2 ⟨g2, c2, N2, rfl, hl2, ho2, hb2⟩
    have H2 : Hid (w2.ownsRow W.heap.size 41 2 (.slice (some ⟨g2, 0, none⟩) N2 c2) L.length (prv L) ∧ Below W.heap.size W w2) := Go.Lib.hid ⟨by rw [hl2]; exact own_lower ho2 HB1.out.size, HB1.out.trans (hb2.mono HB1.out.size)⟩
    clear hl2 ho2 hb2
    go_wp2_with fail
    go_ret2
    exact ⟨_, rfl, H2.out.1, H2.out.2⟩

set_option maxRecDepth 100000 in
set_option maxHeartbeats 2000000 in
theorem implConfs (zs : List Int)  (xs : List (Nat × Nat)) (b : Bool) (h : confsAns zs = (xs, b)) (hz : zs.length ≤ 1048576)  (W : World) (v : Value) (n : Nat) (hv : Sees W v n (vals zs)) :
    Calls Try.prog 27 #[v] W fun e w' => PairsTo W e w' xs b := by
  have hl : zs.length = n := by simpa using hv.1
  have hn : n ≤ 1048576 := by omega
  obtain ⟨r, hr⟩ : ∃ r, isOrd zs = r := ⟨_, rfl⟩
  have CO := Go.Lib.hid (fun W' (hs' : Sees W' v n (vals zs)) => implOrder_any W' v n zs r hs' hn hr)
  have HV := Go.Lib.hid hv
  unfold confsAns at h
  obtain ⟨_, ad, cap, rfl, _, _⟩ := hv
  cases r with
  | false =>
    rw [if_neg (by intro h1; unfold isOrd at hr; exact of_decide_eq_false hr h1)] at h
    cases h
    clear hr
    go_enter Try.func27, Try.ntmps27
    go_wp2_with fail
    refine (CO.out _ HV.out).mono ?_
    rintro e w1 ⟨rfl, hd⟩
    have HB1 : Hid (Below W.heap.size W w1) := Go.Lib.hid hd
    clear hd
    go_wp2_with fail
    go_ret2
    exact pairsTo_none HB1.out _
  | true =>
    have hord : Ord zs := by unfold isOrd at hr; exact of_decide_eq_true hr
    clear hr
    rw [if_pos hord] at h
    cases h
    have CQ := Go.Lib.hid (fun W' (hs' : Sees W' (.slice ad n cap) n (vals zs)) => conflicts_any zs hord W' (.slice ad n cap) n hs')
    obtain ⟨L, hL⟩ : ∃ L, confs zs = L := ⟨_, rfl⟩
    rw [hL] at CQ ⊢
    clear hL hord hl
    go_enter Try.func27, Try.ntmps27
    go_wp2_with fail
    refine (CO.out _ HV.out).mono ?_
    rintro e w1 ⟨rfl, hd⟩
    have HB1 : Hid (Below W.heap.size W w1) := Go.Lib.hid hd
    clear hd
    go_wp2_with fail
    refine (CQ.out _ (HV.out.grow HB1.out)).mono ?_
    rintro e w2 ⟨g2, c2, N2, rfl, hl2, ho2, hb2⟩
    have H2 : Hid (w2.ownsRow W.heap.size 41 2 (.slice (some ⟨g2, 0, none⟩) N2 c2) L.length (prv L) ∧ Below W.heap.size W w2) := Go.Lib.hid ⟨by rw [hl2]; exact own_lower ho2 HB1.out.size, HB1.out.trans (hb2.mono HB1.out.size)⟩
    clear hl2 ho2 hb2
    go_wp2_with fail
    go_ret2
    exact ⟨_, rfl, H2.out.1, H2.out.2⟩

end Go.Proofs.Ytekihdnkkeggjaa.ConfSC
