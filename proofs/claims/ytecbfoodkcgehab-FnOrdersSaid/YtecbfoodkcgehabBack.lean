/-
  Contracts: the model and the program turn an order from its last number to its first one. Conditions: the list can be read and has at most 2^20 numbers.
-/
import Derived.Test.YtecbfoodkcgehabOrder
import Derived.Test.YtecbfoodkcgehabShelf
import Derived.RangeFuncBox
import Derived.Maps.AppendAt
namespace Go.Proofs.Ytecbfoodkcgehab.BackC
open Go.RowKit SeesC IntsC ExactC OrdMath OrderC

set_option maxRecDepth 100000 in
theorem l2Back_any (zs : List Int) (W : World) (v : Value) (n : Nat) (hz : zs.length ≤ 1048576) (hv : Sees W v n (vals zs)) :
    Calls Try.prog 139 #[v] W fun e w' => ∃ u, e = .returned u ∧ w'.ownsRow W.heap.size 3 1 u zs.reverse.length (vals zs.reverse) ∧ Below W.heap.size W w' := by
  obtain ⟨i0, hi, hz0, hz1, hz2⟩ := info_parts infoI
  have hvb := fun hp => hv.lt hp
  obtain ⟨hlen, a, cap, rfl, hcap, hc⟩ := hv
  simp at hlen
  go_enter Try.func139, Try.ntmps139
  go_wp2
  go_loopw [3, 4] (fun ov iv wr => ∃ (k : Nat) (g c : Nat), k ≤ n ∧ iv = .int .i64 ((k : Int) - 1) ∧ ov = .slice (some ⟨g, 0, none⟩) (n - k) c ∧ wr.ownsRow W.heap.size 3 1 (.slice (some ⟨g, 0, none⟩) (n - k) c) (n - k) (vals (zs.drop k).reverse) ∧ Below W.heap.size W wr) (fun _ i _ => (intOf i + 1).toNat)
  case atStart => exact ⟨n, W.heap.size, 0, Nat.le_refl _, by go_num, by simp, by
    have := World.ownsRow_made (base := W.heap.size) (e := 3) (size := 1) W #[] 0 (Nat.le_refl _) (by unfold maxLen; omega) rfl
    rw [Nat.sub_self, List.drop_of_length_le (by omega)]; exact this, (Below.refl _ _).alloc (Nat.le_refl _) _⟩
  case round =>
    obtain ⟨k, g, c, hk, rfl, rfl, hown, hb⟩ := hrel
    by_cases hlt : 0 < k
    · obtain ⟨m, rfl⟩ : ∃ m, k = m + 1 := ⟨k - 1, by omega⟩
      obtain ⟨b, o, rfl, hcell⟩ := hc (by omega)
      have hm : m < zs.length := by omega
      have hbl : b < W.heap.size := hvb (by omega) b rfl
      have hck : wr.cell? ⟨b, o + m, none⟩ = some (.int .i64 zs[m]) := (hb.cell (p := ⟨b, o + m, none⟩) hbl).trans (hcell m _ (by simp [hm]))
      have e0 : ((m + 1 : Nat) : Int) - 1 = (m : Int) := by omega
      rw [e0]
      obtain ⟨z, hz⟩ : ∃ z, zs[m] = z := ⟨_, rfl⟩
      rw [hz] at hck
      have hm0 : (0 : Int) ≤ (m : Int) := by omega
      have hm1 : (m : Int) < (n : Int) := by omega
      have HE : Hid (vals (zs.drop m).reverse = vals (zs.drop (m + 1)).reverse ++ [.int .i64 z]) := Go.Lib.hid (by rw [List.drop_eq_getElem_cons hm, hz]; simp)
      clear hcell hc hz e0 hvb
      go_wp2_with (at_builtin; go_loud (refine wpList_append_own _ rfl _ _ 29 rfl W.heap.size 3 i0 (.int .i64 0) 1 8 Try.underlying29 hi hz0 hz1 hz2 rfl (by decide) _ _ _ rfl (hown.alloc _) ⟨wr.heap.size, 0, none⟩ 1 1 [.int .i64 z] rfl rfl (cell_one_new _ _ _) (fun x hx => by simp at hx; subst hx; rfl) (by unfold maxLen; omega) (by omega) (by have := hb.size; simp; omega) ?_); intro v' w3 hown' hgrow3 hnil3)
      obtain ⟨g', cap', rfl⟩ := ownsRow_succ hown'
      have e1 : n - (m + 1) + 1 = n - m := by omega
      rw [e1, ← HE.out] at hown'
      have hb' : Below W.heap.size W w3 := (hb.alloc hb.size _).grown hgrow3 (by have := hb.size; simp; omega) (fun q hq => (hown.lt q hq).1)
      have H3 := Go.Lib.hid (And.intro hown' hb')
      clear hown' hgrow3 hnil3 hown hb hb'
      go_wp2
      go_roundw
      case rel => exact ⟨m, g', cap', by omega, by first | rfl | go_num, by first | rfl | rw [e1], H3.out.1, H3.out.2⟩
      case measure => simp [intOf] <;> omega
    · have hk0 : k = 0 := by omega
      subst hk0
      have H3 := Go.Lib.hid (And.intro hown hb)
      have hl : n = zs.reverse.length := by simp [hlen]
      clear hown hb
      go_wp2
      go_ret
      exact ⟨_, rfl, by have := H3.out.1; simp at this; simpa [hlen] using this, H3.out.2⟩

set_option maxRecDepth 100000 in
theorem specBack (zs : List Int) (xs : List Int) (b : Bool) (h : backAns zs = (xs, b)) (hz : zs.length ≤ 1048576) (W : World) (v : Value) (n : Nat) (hv : Sees W v n (vals zs)) :
    Calls Try.prog 67 #[v] W fun e w' => ListTo W e w' xs b := by
  have hn : n ≤ 1048576 := by have := hv.1; simp at this; omega
  obtain ⟨r, hr⟩ : ∃ r, isOrd zs = r := ⟨_, rfl⟩
  have C1 := fun w1 (hd : Drawn W w1) => l2Order_any W v n zs r hv hn hr
  have CO := Go.Lib.hid (l2Order_any W v n zs r hv hn hr)
  have CB := Go.Lib.hid (fun W' (hs : Sees W' v n (vals zs)) => l2Back_any zs W' v n hz hs)
  have HV := Go.Lib.hid hv
  unfold backAns at h
  clear C1
  cases r with
  | false =>
    rw [if_neg (by unfold isOrd at hr; exact of_decide_eq_false hr)] at h
    cases h
    clear hv hr
    go_enter Try.func67, Try.ntmps67
    go_wp2_with fail
    refine CO.out.mono ?_
    rintro e w1 ⟨rfl, hd⟩
    go_wp2_with fail
    go_ret2
    exact listTo_below (hd.below _) (listTo_none _ _)
  | true =>
    rw [if_pos (by unfold isOrd at hr; exact of_decide_eq_true hr)] at h
    cases h
    clear hv hr
    go_enter Try.func67, Try.ntmps67
    go_wp2_with fail
    refine CO.out.mono ?_
    rintro e w1 ⟨rfl, hd⟩
    go_wp2_with fail
    refine (CB.out _ (hd.sees HV.out)).mono ?_
    rintro e w2 ⟨u, rfl, ho, hb⟩
    have H := Go.Lib.hid (And.intro ho hb)
    clear ho hb
    go_wp2_with fail
    go_ret2
    exact listTo_below (hd.below _) ⟨_, rfl, H.out.1, H.out.2⟩

set_option maxRecDepth 100000 in
theorem implBack (zs : List Int) (xs : List Int) (b : Bool) (h : backAns zs = (xs, b)) (hz : zs.length ≤ 1048576) (W : World) (v : Value) (n : Nat) (hv : Sees W v n (vals zs)) :
    Calls Try.prog 53 #[v] W fun e w' => ListTo W e w' xs b := by
  have hn : n ≤ 1048576 := by have := hv.1; simp at this; omega
  obtain ⟨r, hr⟩ : ∃ r, isOrd zs = r := ⟨_, rfl⟩
  have CO := Go.Lib.hid (implOrder_any W v n zs r hv hn hr)
  have HV := Go.Lib.hid hv
  unfold backAns at h
  cases r with
  | false =>
    rw [if_neg (by unfold isOrd at hr; exact of_decide_eq_false hr)] at h
    cases h
    clear hv hr
    go_enter Try.func53, Try.ntmps53
    go_wp2_with fail
    refine CO.out.mono ?_
    rintro e w1 ⟨rfl, hd⟩
    go_wp2_with fail
    go_ret2
    exact listTo_below hd (listTo_none _ _)
  | true =>
    have hord : Ord zs := by unfold isOrd at hr; exact of_decide_eq_true hr
    rw [if_pos hord] at h
    cases h
    have hl : zs.length = n := by simpa using hv.1
    obtain ⟨b, o, cap, rfl, hcap, _, hbl, hcell⟩ := sees_cells hv (by have := hord.1; omega)
    clear hv hr hcell
    go_enter Try.func53, Try.ntmps53
    go_wp2_with fail
    refine CO.out.mono ?_
    rintro e w1 ⟨rfl, hd⟩
    obtain ⟨b', o', cap', e', _, _, _, hcell⟩ := sees_cells (HV.out.grow hd) (by have := hord.1; omega)
    cases e'
    have HC := Go.Lib.hid hcell
    clear hcell
    go_wp2_with fail
    refine (Try.slices_Clone_int b o n cap zs w1 (by omega) (by omega) HC.out).mono ?_
    rintro e w2 ⟨u, rfl, ho, hne, hb⟩
    rw [List.take_of_length_le (by omega)] at ho
    obtain ⟨m, rfl⟩ : ∃ m, n = m + 1 := ⟨n - 1, by have := hord.1; omega⟩
    obtain ⟨g, c, rfl⟩ := ownsRow_succ ho
    have hcs := Go.Lib.hid (own_cells ho)
    have H := Go.Lib.hid (And.intro ho (hd.trans (hb.mono hd.size)))
    have HG := Go.Lib.hid ((ho.lt g rfl).1)
    clear ho hb
    go_wp2_with fail
    refine (Try.slices_Reverse_int_cells g 0 (m + 1) c zs w2 (by omega) (by omega) hcs.out.1 hcs.out.2).mono ?_
    rintro e w3 ⟨rfl, q, rfl⟩
    have hs := own_setCells (vals (zs.take (m + 1)).reverse) (w2.drewN q) 0 _ (own_drewN H.out.1)
    rw [setL_is _ _ _ (by simp; omega)] at hs
    have e1 : List.take 0 (vals zs) ++ vals (zs.take (m + 1)).reverse ++ List.drop (0 + (vals (zs.take (m + 1)).reverse).length) (vals zs) = vals zs.reverse := by
      rw [List.take_of_length_le (l := zs) (by omega)]
      simp
    rw [e1] at hs
    have hb3 : Below W.heap.size W ((w2.drewN q).setCells g 0 (vals (zs.take (m + 1)).reverse)) := setCells_below (by have := HG.out; have := hd.size; omega) _ _ _ (below_drewN H.out.2)
    have H3 := Go.Lib.hid (And.intro hs.1 hb3)
    clear hs hb3 e1
    obtain ⟨w4, hw4⟩ : ∃ w4, (w2.drewN q).setCells g 0 (vals (zs.take (m + 1)).reverse) = w4 := ⟨_, rfl⟩
    rw [hw4] at H3 ⊢
    clear hw4
    go_wp2_with fail
    go_ret2
    have hl2 : zs.reverse.length = m + 1 := by simp [hl]
    exact ⟨_, rfl, by rw [hl2]; exact own_lower H3.out.1 hd.size, H3.out.2⟩

end Go.Proofs.Ytecbfoodkcgehab.BackC
