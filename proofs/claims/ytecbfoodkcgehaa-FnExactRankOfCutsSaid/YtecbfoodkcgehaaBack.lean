/-
  Contracts: the model and the program turn an order from its last number to its first one. Conditions: the list can be read and has at most 2^20 numbers.
-/
import Derived.Test.YtecbfoodkcgehaaOrder
import Derived.Test.YtecbfoodkcgehaaShelf
import Derived.RangeFuncBox
import Derived.Maps.AppendAt
namespace Go.Proofs.Ytecbfoodkcgehaa.BackC
open Go.RowKit SeesC IntsC ExactC OrdMath OrderC

set_option maxRecDepth 100000 in
theorem l2Back_any (zs : List Int) (W : World) (v : Value) (n : Nat) (hz : zs.length ≤ 1048576) (hv : Sees W v n (vals zs)) :
    Calls Try.prog 120 #[v] W fun e w' => ∃ u, e = .returned u ∧ w'.ownsRow W.heap.size 3 1 u zs.reverse.length (vals zs.reverse) ∧ Below W.heap.size W w' := by
  obtain ⟨i0, hi, hz0, hz1, hz2⟩ := info_parts infoI
  have hvb := fun hp => hv.lt hp
  obtain ⟨hlen, a, cap, rfl, hcap, hc⟩ := hv
  simp at hlen
  go_enter Try.func120, Try.ntmps120
  go_wp2
  go_loopw [3, 4] (fun ov iv wr => ∃ (k : Nat) (g c : Nat), k ≤ n ∧ iv = .int .i64 ((k : Int) - 1) ∧ ov = .slice (some ⟨g, 0, none⟩) (n - k) c ∧ wr.ownsRow W.heap.size 3 1 (.slice (some ⟨g, 0, none⟩) (n - k) c) (n - k) (vals (zs.drop k).reverse) ∧ Below W.heap.size W wr) (fun _ i _ => (intOf i + 1).toNat)
  case atStart => exact ⟨n, W.heap.size, 0, Nat.le_refl _, by go_num, by simp, by
    have := World.ownsRow_made (base := W.heap.size) (e := 3) (size := 1) W #[] 0 (Nat.le_refl _) (by unfold maxLen; omega) rfl
    rw [Nat.sub_self, List.drop_of_length_le (by omega)]; exact this, (Below.refl _ _).alloc (Nat.le_refl _) _⟩
  case round =>
    obtain ⟨k, g, c, hk, rfl, rfl, hown, hb⟩ := hrel
    by_cases hlt : 0 < k
    · obtain ⟨m, rfl⟩ : ∃ m, k = m + 1 := ⟨k - 1, by omega⟩
      obtain ⟨b, o, rfl, hcell⟩ := hc (by omega)
      have hm : m < zs.length := by omega
      have hbl : b < W.heap.size := hvb (by omega) b rfl
      have hck : wr.cell? ⟨b, o + m, none⟩ = some (.int .i64 zs[m]) := (hb.cell (p := ⟨b, o + m, none⟩) hbl).trans (hcell m _ (by simp [hm]))
      have e0 : ((m + 1 : Nat) : Int) - 1 = (m : Int) := by omega
      rw [e0]
      obtain ⟨z, hz⟩ : ∃ z, zs[m] = z := ⟨_, rfl⟩
      rw [hz] at hck
      have hm0 : (0 : Int) ≤ (m : Int) := by omega
      have hm1 : (m : Int) < (n : Int) := by omega
      have HE : Hid (vals (zs.drop m).reverse = vals (zs.drop (m + 1)).reverse ++ [.int .i64 z]) := Go.Lib.hid (by rw [List.drop_eq_getElem_cons hm, hz]; simp)
      clear hcell hc hz e0 hvb
      go_wp2_with (at_builtin; go_loud (refine wpList_append_own _ rfl _ _ 24 rfl W.heap.size 3 i0 (.int .i64 0) 1 8 Try.underlying24 hi hz0 hz1 hz2 rfl (by decide) _ _ _ rfl (hown.alloc _) ⟨wr.heap.size, 0, none⟩ 1 1 [.int .i64 z] rfl rfl (cell_one_new _ _ _) (fun x hx => by simp at hx; subst hx; rfl) (by unfold maxLen; omega) (by omega) (by have := hb.size; simp; omega) ?_); intro v' w3 hown' hgrow3 hnil3)
      obtain ⟨g', cap', rfl⟩ := ownsRow_succ hown'
      have e1 : n - (m + 1) + 1 = n - m := by omega
      rw [e1, ← HE.out] at hown'
      have hb' : Below W.heap.size W w3 := (hb.alloc hb.size _).grown hgrow3 (by have := hb.size; simp; omega) (fun q hq => (hown.lt q hq).1)
      have H3 := Go.Lib.hid (And.intro hown' hb')
      clear hown' hgrow3 hnil3 hown hb hb'
      go_wp2
      go_roundw
      case rel => exact ⟨m, g', cap', by omega, by first | rfl | go_num, by first | rfl | rw [e1], H3.out.1, H3.out.2⟩
      case measure => simp [intOf] <;> omega
    · have hk0 : k = 0 := by omega
      subst hk0
      have H3 := Go.Lib.hid (And.intro hown hb)
      have hl : n = zs.reverse.length := by simp [hlen]
      clear hown hb
      go_wp2
      go_ret
      exact ⟨_, rfl, by have := H3.out.1; simp at this; simpa [hlen] using this, H3.out.2⟩

end Go.Proofs.Ytecbfoodkcgehaa.BackC
