/-
  Contracts: the model and the program tell the shape of a list. Conditions: the list can be read and has at most 2^20 numbers.
-/
import Derived.Test.YtpkjnlabjmpokaaOrder
import Derived.Test.YtpkjnlabjmpokaaPatMath
import Derived.RangeFuncBox
import Derived.Maps.AppendAt
namespace Go.Proofs.Ytpkjnlabjmpokaa.ShapeC
open Go.RowKit SeesC IntsC ExactC OrdMath InC OrderC PatMath

theorem drawn_own {w w' : World} {B size n : Nat} {ty : TypeId} {v : Value} {xs : List Value} (h : Drawn w w') (ho : w.ownsRow B ty size v n xs) : w'.ownsRow B ty size v n xs := by
  obtain ⟨m, rfl⟩ := h; exact ho

theorem getD_el {zs : List Int} {j : Nat} (h : j < zs.length) : zs.getD j 0 = zs[j] := by simp [h]

theorem cl_step {zs : List Int} {j : Nat} (z x : Int) (h : j < zs.length) (hx : zs.getD j 0 = x) : cl z (zs.take (j + 1)) = cl z (zs.take j) + (if x < z then 1 else 0) := by
  rw [cl_next h, ← hx, getD_el h]

set_option maxRecDepth 100000 in
set_option maxHeartbeats 2000000 in
theorem l3Shape_any (zs : List Int) (W : World) (v : Value) (n : Nat) (hn : n ≤ 1000) (hv : Sees W v n (vals zs)) :
    Calls Try.prog 164 #[v] W fun e w' => ∃ u, e = .returned u ∧ w'.ownsRow W.heap.size 3 1 u n (vals (shp zs)) ∧ Below W.heap.size W w' := by
  obtain ⟨i0, hi, hz0, hz1, hz2⟩ := info_parts infoI
  have HVB := Go.Lib.hid (fun hp => hv.lt hp)
  obtain ⟨hlen, a, cap, rfl, hcap, hc⟩ := hv
  simp at hlen
  have HC := Go.Lib.hid hc
  clear hc
  go_enter Try.func164, Try.ntmps164
  go_wp2
  go_loopw [3, 4] (fun ov iv wr => ∃ (k g c : Nat), k ≤ n ∧ iv = .int .i64 k ∧ ov = .slice (some ⟨g, 0, none⟩) k c ∧ wr.ownsRow W.heap.size 3 1 (.slice (some ⟨g, 0, none⟩) k c) k (vals ((shp zs).take k)) ∧ Below W.heap.size W wr) (fun _ i _ => n - (intOf i).toNat)
  case atStart => exact ⟨0, W.heap.size, 0, Nat.zero_le _, rfl, rfl, by simpa using World.ownsRow_made (base := W.heap.size) (e := 3) (size := 1) W #[] 0 (Nat.le_refl _) (by unfold maxLen; omega) rfl, (Below.refl _ _).alloc (Nat.le_refl _) _⟩
  case round =>
    obtain ⟨i, g, c, hk, rfl, rfl, hown, hb⟩ := hrel
    by_cases hlt : i < n
    · obtain ⟨b, o, rfl, hcell⟩ := HC.out (by omega)
      have hbl := HVB.out (by omega) b rfl
      have HCC : Hid (∀ j, j < zs.length → wr.cell? ⟨b, o + j, none⟩ = some (.int .i64 (zs.getD j 0))) := Go.Lib.hid (fun j hj => (hb.cell (p := ⟨b, o + j, none⟩) hbl).trans (hcell j _ (by simp [hj])))
      have HS := Go.Lib.hid (And.intro hown hb)
      have hlti : (i : Int) < (n : Int) := by omega
      obtain ⟨z, hz⟩ : ∃ z, zs.getD i 0 = z := ⟨_, rfl⟩
      have HZ := Go.Lib.hid hz
      clear hcell hown hb hz
      obtain ⟨wo, rfl⟩ : ∃ wo, wo = wr := ⟨_, rfl⟩
      go_wp2
      go_loopw [5, 6] (fun xv kv w2 => ∃ (j l : Nat), j ≤ n ∧ kv = .int .i64 j ∧ xv = .int .i64 ((1 + l : Nat) : Int) ∧ l ≤ j ∧ Hid (l = cl z (zs.take j)) ∧ Drawn wo w2) (fun _ k _ => n - (intOf k).toNat)
      case atStart => exact ⟨0, 0, Nat.zero_le _, rfl, rfl, Nat.le_refl _, Go.Lib.hid (by simp [cl]), Drawn.refl _⟩
      case round =>
        obtain ⟨j, l, hj, rfl, rfl, hlj, HLL, HD2⟩ := hrel
        by_cases hlt2 : j < n
        · have hck : wr.cell? ⟨b, o + j, none⟩ = some (.int .i64 (zs.getD j 0)) := (HD2.cell _).trans (HCC.out j (by omega))
          have hck1 : wr.cell? ⟨b, o + i, none⟩ = some (.int .i64 z) := (HD2.cell _).trans (by rw [HCC.out i (by omega), HZ.out])
          obtain ⟨x, hx⟩ : ∃ x, zs.getD j 0 = x := ⟨_, rfl⟩
          have HN : Hid (cl z (zs.take (j + 1)) = l + (if x < z then 1 else 0)) := Go.Lib.hid (by rw [cl_step z x (by omega) hx, HLL.out])
          rw [hx] at hck
          have hki : (j : Int) < (n : Int) := by omega
          clear hx
          by_cases hxz : x < z
          · rw [if_pos hxz] at HN
            go_wp2
            go_quiet (fail)
            go_wp2
            go_roundw
            case rel => exact ⟨j + 1, l + 1, by omega, by go_num, by rw [← Nat.add_assoc]; go_num, by omega, Go.Lib.hid HN.out.symm, HD2.next _⟩
            case measure => simp [intOf]; omega
          · rw [if_neg hxz] at HN
            go_wp2
            go_quiet (fail)
            go_wp2
            go_roundw
            case rel => exact ⟨j + 1, l, by omega, by go_num, rfl, by omega, Go.Lib.hid (by rw [HN.out]; rfl), HD2.next _⟩
            case measure => simp [intOf]; omega
        · have HE : Hid (vals ((shp zs).take (i + 1)) = vals ((shp zs).take i) ++ [.int .i64 ((1 + l : Nat) : Int)]) := Go.Lib.hid (take_next (by rw [shp_len]; omega) (by rw [shp_at (by omega), HZ.out, HLL.out, List.take_of_length_le (by omega)]; omega))
          have hown := drawn_own HD2 HS.out.1
          have hb := HS.out.2.trans (HD2.below _)
          have hl1 : l ≤ 1000 := by omega
          obtain ⟨y, hy⟩ : ∃ y : Int, ((1 + l : Nat) : Int) = y := ⟨_, rfl⟩
          rw [hy] at HE ⊢
          clear hy
          go_wp2_with (at_builtin; refine wpList_append_own _ rfl _ _ 22 rfl W.heap.size 3 i0 (.int .i64 0) 1 8 Try.underlying22 hi hz0 hz1 hz2 rfl (by decide) _ _ _ rfl (hown.alloc _) ⟨wr.heap.size, 0, none⟩ 1 1 [.int .i64 y] rfl rfl (cell_one_new _ _ _) (fun x hx => by simp at hx; subst hx; rfl) (by unfold maxLen; omega) (by omega) (by have := hb.size; simp; omega) ?_; intro v' w3 hown' hgrow3 hnil3)
          obtain ⟨g', cap', rfl⟩ := ownsRow_succ hown'
          rw [← HE.out] at hown'
          have hb' : Below W.heap.size W w3 := (hb.alloc hb.size _).grown hgrow3 (by have := hb.size; simp; omega) (fun q hq => (hown.lt q hq).1)
          have H3 := Go.Lib.hid (And.intro hown' hb')
          clear hown' hgrow3 hnil3 hown hb hb'
          go_wp2
          go_roundw
          case rel => exact ⟨i + 1, g', cap', by omega, by go_num, rfl, H3.out.1, H3.out.2⟩
          case measure => simp [intOf] <;> omega
    · have hkn : i = n := by omega
      subst hkn
      have e1 : (shp zs).take i = shp zs := List.take_of_length_le (by rw [shp_len]; omega)
      rw [e1] at hown
      have H3 := Go.Lib.hid (And.intro hown hb)
      clear hown hb e1
      go_wp2
      go_ret
      exact ⟨_, rfl, H3.out.1, H3.out.2⟩

/-- What the program has filled in so far. -/
def filled (zs : List Int) (k n : Nat) : List Int := (shp zs).take k ++ List.replicate (n - k) 0

theorem filled_len {zs : List Int} {k n : Nat} (hl : zs.length = n) (hk : k ≤ n) : (filled zs k n).length = n := by
  simp [filled, shp_len]; omega

theorem filled_next {zs : List Int} {k n : Nat} {y : Int} (hl : zs.length = n) (hk : k < n) (hy : (shp zs).getD k 0 = y) : (filled zs k n).set k y = filled zs (k + 1) n := by
  have h1 : k < (shp zs).length := by rw [shp_len]; omega
  have h2 := set_next (shp zs) 0 n k h1 (by rw [shp_len]; exact hl)
  rw [← getD_el h1, hy] at h2
  exact h2

theorem made_filled (zs : List Int) (n : Nat) : (madeCells (Value.int .i64 0).cells (n * 1)).toList = vals (filled zs 0 n) := by
  rw [made_int]; simp [filled]

end Go.Proofs.Ytpkjnlabjmpokaa.ShapeC
