/-
  Contract: the lengths of rows in the model, and lists of different lengths are not the same. Conditions: at most 2^20 numbers together.
-/
import Derived.Test.YtmnggcnipjdimaaOutM
import Derived.Test.YtmnggcnipjdimaaOrder
import Derived.Test.YtmnggcnipjdimaaRagRes
import Derived.Test.YtmnggcnipjdimaaSame
import Derived.IntWalk
import Derived.Maps.AppendAt
namespace Go.Proofs.Ytmnggcnipjdimaa.LongC
open Go.RowKit SeesC IntsC ExactC OrdMath InC OrderC ListsC ListsEC ListsFC LLC QueM PassM RowsM AreM OutM SameC

/-- The lengths of rows, as numbers. -/
def lensI (L : List (List Int)) : List Int := L.map fun r => (r.length : Int)

theorem lensI_len (L : List (List Int)) : (lensI L).length = L.length := by simp [lensI]

theorem lensI_iff : ∀ (L M : List (List Int)), lensI L = lensI M ↔ lens L = lens M
  | [], [] => by simp [lensI, lens]
  | [], _ :: _ => by simp [lensI, lens]
  | _ :: _, [] => by simp [lensI, lens]
  | r :: R, s :: S => by
    have ih := lensI_iff R S
    unfold lensI lens at ih ⊢
    rw [List.map_cons, List.map_cons, List.map_cons, List.map_cons, List.cons.injEq, List.cons.injEq, ih]
    constructor <;> intro h <;> exact ⟨by have := h.1; omega, h.2⟩

theorem lensI_next {L : List (List Int)} {i m : Nat} (hi : i < L.length) (hm : (L.getD i []).length = m) : vals ((lensI L).take (i + 1)) = vals ((lensI L).take i) ++ [.int .i64 (m : Int)] :=
  take_next (by rw [lensI_len]; exact hi) (by
    unfold lensI
    rw [List.getD_eq_getElem?_getD, List.getElem?_map, List.getElem?_eq_getElem hi]
    rw [List.getD_eq_getElem?_getD, List.getElem?_eq_getElem hi] at hm
    simp at hm ⊢
    omega)

set_option maxRecDepth 100000 in
set_option maxHeartbeats 8000000 in
theorem l5Long_any (L : List (List Int)) (W : World) (v : Value) (hv : SeesLL W v L) (hN : L.length + tot L ≤ 1048576) :
    Calls Try.prog 103 #[v] W fun e w' => ∃ g c, e = .returned (.slice (some ⟨g, 0, none⟩) L.length c) ∧ w'.ownsRow W.heap.size 3 1 (.slice (some ⟨g, 0, none⟩) L.length c) L.length (vals (lensI L)) ∧ Below W.heap.size W w' := by
  obtain ⟨i0, hi0, hz0, hz1, hz2⟩ := info_parts infoI
  obtain ⟨a, c, rfl⟩ := hv.value
  obtain ⟨N, hLN⟩ : ∃ N, L.length = N := ⟨_, rfl⟩
  rw [hLN] at hv hN ⊢
  have HV := Go.Lib.hid (And.intro hv (And.intro hLN hN))
  have hNm : N ≤ 1048576 := by omega
  have H00 : Hid ((W.alloc (.cells #[] 3)).ownsRow W.heap.size 3 1 (.slice (some ⟨W.heap.size, 0, none⟩) 0 0) 0 (vals ((lensI L).take 0)) ∧ Below W.heap.size W (W.alloc (.cells #[] 3))) :=
    Go.Lib.hid ⟨World.ownsRow_made (base := W.heap.size) (e := 3) (size := 1) W #[] 0 (Nat.le_refl _) (by unfold maxLen; omega) rfl, (Below.refl _ _).alloc (Nat.le_refl _) _⟩
  clear hv hLN hN
  go_enter Try.func103, Try.ntmps103
  go_wp2
  go_loopw [3, 4] (fun ov iv wr => ∃ (i g c2 : Nat), i ≤ N ∧ iv = .int .i64 i ∧ ov = .slice (some ⟨g, 0, none⟩) i c2 ∧ Hid (wr.ownsRow W.heap.size 3 1 (.slice (some ⟨g, 0, none⟩) i c2) i (vals ((lensI L).take i)) ∧ Below W.heap.size W wr)) (fun _ i _ => N - (intOf i).toNat)
  case atStart => exact ⟨0, _, _, Nat.zero_le _, rfl, rfl, H00⟩
  case round =>
    obtain ⟨i, g, c2, hiN, rfl, rfl, HX⟩ := hrel
    clear H00
    obtain ⟨wo, rfl⟩ : ∃ wo, wo = wr := ⟨_, rfl⟩
    by_cases hlt : i < N
    · obtain ⟨b, o, u, c1, rfl, hck, hs⟩ := HV.out.1.at HV.out.2.1 hlt
      have hbl := World.block_lt_of_cell? W _ hck
      simp only at hbl
      obtain ⟨m, hm⟩ : ∃ m, (L.getD i []).length = m := ⟨_, rfl⟩
      have hNX := Go.Lib.hid (lensI_next (L := L) (i := i) (by have := HV.out.2.1; omega) hm)
      rw [hm] at hck
      have hcko := (HX.out.2.cell (p := ⟨b, o + i, none⟩) hbl).trans hck
      have hii : (i : Int) < (N : Int) := by omega
      have hm20 : m ≤ 1048576 := by have h1 := tot_row (L := L) (i := i) (by have := HV.out.2.1; omega); have h2 := HV.out.2.2; omega
      clear hck hs hm hbl
      go_wp2_with (at_builtin; refine wpList_append_own _ rfl _ _ 24 rfl W.heap.size 3 i0 (.int .i64 0) 1 8 Try.underlying24 hi0 hz0 hz1 hz2 rfl (by decide) (.slice (some ⟨g, 0, none⟩) i c2) i (vals ((lensI L).take i)) rfl ((HX.out.1).alloc _) ⟨wo.heap.size, 0, none⟩ 1 1 [.int .i64 (m : Int)] rfl rfl (cell_one_new _ _ _) (fun x hx => by simp at hx; subst hx; rfl) (by unfold maxLen; omega) (by omega) (by have := HX.out.2.size; simp; omega) ?_; intro v' w3 hown3 hgrow3 hnil3)
      obtain ⟨g3, c3, rfl⟩ := ownsRow_succ hown3
      rw [← hNX.out] at hown3
      have hb3 : Below W.heap.size W w3 := (HX.out.2.alloc HX.out.2.size _).grown hgrow3 (by have := HX.out.2.size; simp; omega) (fun q hq => (HX.out.1.lt q hq).1)
      have H3 := Go.Lib.hid (And.intro hown3 hb3)
      clear hown3 hgrow3 hnil3 hb3
      go_wp2
      go_roundw
      case rel => exact ⟨i + 1, g3, c3, by omega, by go_num, rfl, H3⟩
      case measure => simp [intOf]; omega
    · obtain rfl : i = N := by omega
      have HF : Hid (wo.ownsRow W.heap.size 3 1 (.slice (some ⟨g, 0, none⟩) i c2) i (vals (lensI L)) ∧ Below W.heap.size W wo) := Go.Lib.hid (by
        have h := HX.out
        rw [List.take_of_length_le (by rw [lensI_len]; have := HV.out.2.1; omega)] at h
        exact h)
      go_wp2
      go_ret
      exact ⟨g, c2, rfl, HF.out⟩

set_option maxHeartbeats 2000000 in
theorem l1Same_len (W : World) (v u : Value) (n m : Nat) (xs ys : List Int) (hv : Sees W v n (vals xs)) (hu : Sees W u m (vals ys)) (hne : n ≠ m) :
    Calls Try.prog 102 #[v, u] W fun e w' => e = .returned (.bool false) ∧ Drawn W w' := by
  obtain ⟨_, a, c, rfl, _, _⟩ := hv
  obtain ⟨_, a2, c2, rfl, _, _⟩ := hu
  have h1 : ((n : Int) == (m : Int)) = false := beq_eq_false_iff_ne.2 (by omega)
  go_enter Try.func102, Try.ntmps102
  go_wp2
  go_ret
  exact ⟨rfl, ⟨0, rfl⟩⟩

/-- Lists of any lengths, compared. -/
theorem l1Same_all (W : World) (v u : Value) (n m : Nat) (xs ys : List Int) (r : Bool) (hv : Sees W v n (vals xs)) (hu : Sees W u m (vals ys)) (hn : n ≤ 1048576) (hr : decide (xs = ys) = r) :
    Calls Try.prog 102 #[v, u] W fun e w' => e = .returned (.bool r) ∧ Drawn W w' := by
  by_cases h : n = m
  · subst h
    exact l1Same_any xs ys r W v n hv u hu hn hr
  · have h1 : xs.length = n := by simpa using hv.1
    have h2 : ys.length = m := by simpa using hu.1
    have : r = false := by rw [← hr]; exact decide_eq_false (fun e => h (by rw [← h1, ← h2, e]))
    rw [this]
    exact l1Same_len W v u n m xs ys hv hu h
end Go.Proofs.Ytmnggcnipjdimaa.LongC
