/-
  Contracts: the model and the program put a last number behind an order. Conditions: the list can be read and has at most 2^20 numbers.
-/
import Derived.Test.YtpkjnlabjmpokaaPx20

namespace Go.Proofs.Ytpkjnlabjmpokaa.InsertC
open Go.RowKit SeesC IntsC ExactC OrdMath InC OrderC PatMath ShapeC

/-- The number behind an insertion. -/
def up (k z : Int) : Int := if k ≤ z then z + 1 else z

theorem ins_up (zs : List Int) (k : Int) : ins zs k = zs.map (up k) ++ [k] := rfl

theorem up_at {zs : List Int} {i : Nat} {k z : Int} (h : i < zs.length) (hz : zs.getD i 0 = z) : (zs.map (up k)).getD i 0 = up k z := by
  rw [← hz]; simp [h]

theorem vals_snoc (zs : List Int) (k : Int) : vals (zs ++ [k]) = vals zs ++ [.int .i64 k] := by simp

set_option maxRecDepth 100000 in
set_option maxHeartbeats 2000000 in
theorem l3Insert_any (zs : List Int) (k : Int) (W : World) (v : Value) (n : Nat) (hn : n ≤ 1000) (hr : ∀ z ∈ zs, -1000 ≤ z ∧ z ≤ 1000) (hv : Sees W v n (vals zs)) :
    Calls Try.prog 113 #[v, .int .i64 k] W fun e w' => ∃ u, e = .returned u ∧ w'.ownsRow W.heap.size 3 1 u (n + 1) (vals (ins zs k)) ∧ Below W.heap.size W w' := by
  obtain ⟨i0, hi, hz0, hz1, hz2⟩ := info_parts infoI
  have HVB := Go.Lib.hid (fun hp => hv.lt hp)
  obtain ⟨hlen, a, cap, rfl, hcap, hc⟩ := hv
  simp at hlen
  have HC := Go.Lib.hid hc
  have HR := Go.Lib.hid hr
  clear hc hr
  go_enter Try.func113, Try.ntmps113
  go_wp2
  go_loopw [5, 6] (fun ov iv wr => ∃ (i g c : Nat), i ≤ n ∧ iv = .int .i64 i ∧ ov = .slice (some ⟨g, 0, none⟩) i c ∧ wr.ownsRow W.heap.size 3 1 (.slice (some ⟨g, 0, none⟩) i c) i (vals ((zs.map (up k)).take i)) ∧ Below W.heap.size W wr) (fun _ i _ => n - (intOf i).toNat)
  case atStart => exact ⟨0, W.heap.size, 0, Nat.zero_le _, rfl, rfl, by simpa using World.ownsRow_made (base := W.heap.size) (e := 3) (size := 1) W #[] 0 (Nat.le_refl _) (by unfold maxLen; omega) rfl, (Below.refl _ _).alloc (Nat.le_refl _) _⟩
  case round =>
    obtain ⟨i, g, c, hk, rfl, rfl, hown, hb⟩ := hrel
    by_cases hlt : i < n
    · obtain ⟨b, o, rfl, hcell⟩ := HC.out (by omega)
      have hbl := HVB.out (by omega) b rfl
      obtain ⟨z, hz⟩ : ∃ z, zs.getD i 0 = z := ⟨_, rfl⟩
      have hck : wr.cell? ⟨b, o + i, none⟩ = some (.int .i64 z) := (hb.cell (p := ⟨b, o + i, none⟩) hbl).trans (hcell i _ (by rw [← hz]; simp [show i < zs.length by omega]))
      have hzr := HR.out z (by rw [← hz, getD_el (by omega)]; exact List.getElem_mem _)
      obtain ⟨y, hy⟩ : ∃ y, up k z = y := ⟨_, rfl⟩
      have HE : Hid (vals ((zs.map (up k)).take (i + 1)) = vals ((zs.map (up k)).take i) ++ [.int .i64 y]) := Go.Lib.hid (take_next (by simp; omega) (by rw [up_at (by omega) hz, hy]))
      have hlti : (i : Int) < (n : Int) := by omega
      clear hcell hz
      by_cases hkz : k ≤ z
      · have hy2 : y = z + 1 := by rw [← hy]; unfold up; rw [if_pos hkz]
        subst hy2
        clear hy
        go_wp2_with (at_builtin; refine wpList_append_own _ rfl _ _ 22 rfl W.heap.size 3 i0 (.int .i64 0) 1 8 Try.underlying22 hi hz0 hz1 hz2 rfl (by decide) _ _ _ rfl (hown.alloc _) ⟨wr.heap.size, 0, none⟩ 1 1 [.int .i64 (z + 1)] rfl rfl (cell_one_new _ _ _) (fun x hx => by simp at hx; subst hx; rfl) (by unfold maxLen; omega) (by omega) (by have := hb.size; simp; omega) ?_; intro v' w3 hown' hgrow3 hnil3)
        obtain ⟨g', cap', rfl⟩ := ownsRow_succ hown'
        rw [← HE.out] at hown'
        have hb' : Below W.heap.size W w3 := (hb.alloc hb.size _).grown hgrow3 (by have := hb.size; simp; omega) (fun q hq => (hown.lt q hq).1)
        have H3 := Go.Lib.hid (And.intro hown' hb')
        clear hown' hgrow3 hnil3 hown hb hb'
        go_wp2
        go_roundw
        case rel => exact ⟨i + 1, g', cap', by omega, by go_num, rfl, H3.out.1, H3.out.2⟩
        case measure => simp [intOf] <;> omega
      · have hy2 : y = z := by rw [← hy]; unfold up; rw [if_neg hkz]
        subst hy2
        clear hy
        go_wp2_with (at_builtin; refine wpList_append_own _ rfl _ _ 22 rfl W.heap.size 3 i0 (.int .i64 0) 1 8 Try.underlying22 hi hz0 hz1 hz2 rfl (by decide) _ _ _ rfl (hown.alloc _) ⟨wr.heap.size, 0, none⟩ 1 1 [.int .i64 y] rfl rfl (cell_one_new _ _ _) (fun x hx => by simp at hx; subst hx; rfl) (by unfold maxLen; omega) (by omega) (by have := hb.size; simp; omega) ?_; intro v' w3 hown' hgrow3 hnil3)
        obtain ⟨g', cap', rfl⟩ := ownsRow_succ hown'
        rw [← HE.out] at hown'
        have hb' : Below W.heap.size W w3 := (hb.alloc hb.size _).grown hgrow3 (by have := hb.size; simp; omega) (fun q hq => (hown.lt q hq).1)
        have H3 := Go.Lib.hid (And.intro hown' hb')
        clear hown' hgrow3 hnil3 hown hb hb'
        go_wp2
        go_roundw
        case rel => exact ⟨i + 1, g', cap', by omega, by go_num, rfl, H3.out.1, H3.out.2⟩
        case measure => simp [intOf] <;> omega
    · have hkn : i = n := by omega
      subst hkn
      have e1 : (zs.map (up k)).take i = zs.map (up k) := List.take_of_length_le (by simp; omega)
      rw [e1] at hown
      go_wp2_with (at_builtin; refine wpList_append_own _ rfl _ _ 22 rfl W.heap.size 3 i0 (.int .i64 0) 1 8 Try.underlying22 hi hz0 hz1 hz2 rfl (by decide) _ _ _ rfl (hown.alloc _) ⟨wr.heap.size, 0, none⟩ 1 1 [.int .i64 k] rfl rfl (cell_one_new _ _ _) (fun x hx => by simp at hx; subst hx; rfl) (by unfold maxLen; omega) (by omega) (by have := hb.size; simp; omega) ?_; intro v' w3 hown' hgrow3 hnil3)
      have hb' : Below W.heap.size W w3 := (hb.alloc hb.size _).grown hgrow3 (by have := hb.size; simp; omega) (fun q hq => (hown.lt q hq).1)
      rw [← vals_snoc, ← ins_up] at hown'
      have H3 := Go.Lib.hid (And.intro hown' hb')
      clear hown' hgrow3 hnil3 hown hb hb'
      go_wp2
      go_ret
      exact ⟨_, rfl, H3.out.1, H3.out.2⟩

end Go.Proofs.Ytpkjnlabjmpokaa.InsertC
