/-
  Contracts: the model and the program drop as few places as can be. Conditions: lists of at most 2^20 numbers.
-/
import Derived.Test.YtmnggcnipjdimabSpecPl
import Derived.Test.YtmnggcnipjdimabDropMath
import Derived.Test.YtmnggcnipjdimabShelf
namespace Go.Proofs.Ytmnggcnipjdimab.DropsC
open Go.RowKit SeesC IntsC ExactC OrdMath InC OrderC PatMath DropMath ShapeC ListsC ListsEC ListsFC ListsGC PlacesC Own1C SameC GoesC ChoicesC HasC SpecPlC

theorem mem_nat {q : List Nat} {i : Nat} : (i : Int) ∈ nat q ↔ i ∈ q := by
  show (i : Int) ∈ List.map _ q ↔ _
  rw [List.mem_map]
  constructor
  · rintro ⟨x, hx, e⟩
    have : x = i := by omega
    rw [← this]; exact hx
  · intro h; exact ⟨i, h, rfl⟩

theorem places_contain (q : List Nat) (i : Nat) (r : Bool) (W : World) (u : Value) (k : Nat) (hu : Sees W u k (nv q)) (hk : k ≤ 1000) (hr : decide (i ∈ q) = r) :
    Calls Try.prog 89 #[u, .int .i64 (i : Int)] W fun e w' => e = .returned (.bool r) ∧ w' = W := by
  have hl : (nat q).length = k := by have := hu.1; rw [nv_len] at this; rw [nat_len]; exact this
  by_cases h0 : k = 0
  · subst h0
    obtain ⟨_, a, c, rfl, _, _⟩ := hu
    have hq : q = [] := List.eq_nil_of_length_eq_zero (by rw [← nat_len]; exact hl)
    subst hq
    have hr2 : r = false := by rw [← hr]; simp
    subst hr2
    exact Try.slices_Contains_int_empty a c (i : Int) W
  · obtain ⟨b, o, c, rfl, _, _, _, hc⟩ := sees_cells hu (by omega)
    refine (Try.slices_Contains_int b o k c (nat q) (i : Int) W (by omega) (by omega) hc).mono ?_
    rintro e w' ⟨rfl, rfl⟩
    refine ⟨?_, rfl⟩
    rw [List.take_of_length_le (by omega), ← hr]
    congr 2
    rw [Bool.eq_iff_iff, decide_eq_true_eq, List.contains_iff_mem]
    exact mem_nat

set_option maxRecDepth 100000 in
set_option maxHeartbeats 2000000 in
theorem l3Others_any (q : List Nat) (n : Nat) (W : World) (u : Value) (k : Nat) (hu : Sees W u k (nv q)) (hk : k ≤ 1000) (hn : n ≤ 7) :
    Calls Try.prog 55 #[u, .int .i64 n] W fun e w' => ∃ g c, e = .returned (.slice (some ⟨g, 0, none⟩) (others q n).length c) ∧ w'.ownsRow W.heap.size 3 1 (.slice (some ⟨g, 0, none⟩) (others q n).length c) (others q n).length (nv (others q n)) ∧ Below W.heap.size W w' := by
  obtain ⟨i0, hi, hz0, hz1, hz2⟩ := info_parts infoI
  have HU := Go.Lib.hid hu
  obtain ⟨_, a1, c1, rfl, -, -⟩ := hu
  obtain ⟨N0, hN0⟩ : ∃ N0, (others q n).length = N0 := ⟨_, rfl⟩
  have HN0 := Go.Lib.hid hN0
  rw [hN0]
  clear hN0
  go_enter Try.func55, Try.ntmps55
  go_wp2
  go_loopw [5, 6] (fun ov iv wr => ∃ (i g c N : Nat) (Y : List Nat), i ≤ n ∧ iv = .int .i64 i ∧ ov = .slice (some ⟨g, 0, none⟩) N c ∧ Hid (Y = others q i) ∧ N ≤ i ∧ Hid (N = Y.length ∧ wr.ownsRow W.heap.size 3 1 (.slice (some ⟨g, 0, none⟩) N c) N (nv Y) ∧ Below W.heap.size W wr)) (fun _ i _ => n - (intOf i).toNat)
  case atStart => exact ⟨0, W.heap.size, 0, 0, [], Nat.zero_le _, rfl, rfl, Go.Lib.hid rfl, Nat.le_refl _, Go.Lib.hid ⟨rfl, World.ownsRow_made (base := W.heap.size) (e := 3) (size := 1) W #[] 0 (Nat.le_refl _) (by unfold maxLen; omega) rfl, (Below.refl _ _).alloc (Nat.le_refl _) _⟩⟩
  case round =>
    obtain ⟨i, g, c, N, Y, hin, rfl, rfl, HY, hNi, HX⟩ := hrel
    by_cases hlt : i < n
    · have hlti : (i : Int) < (n : Int) := by omega
      obtain ⟨r, hr⟩ : ∃ r, decide (i ∈ q) = r := ⟨_, rfl⟩
      obtain ⟨wj, rfl⟩ : ∃ wj, wj = wr := ⟨_, rfl⟩
      have CH := Go.Lib.hid (fun (W' : World) (h : Below wj.heap.size wj W') => l1Has_any W' _ k (nat q) (i : Int) r ((HU.out.grow HX.out.2.2).grow h) (by unfold maxLen; omega) (by rw [← hr, decide_eq_decide]; exact mem_nat))
      have HR := Go.Lib.hid hr
      clear hr
      go_wp2_with fail
      refine (CH.out _ (Below.refl _ _)).mono ?_
      rintro e w1 ⟨rfl, rfl⟩
      cases r with
      | true =>
        have HYN : Hid (Y = others q (i + 1)) := Go.Lib.hid (by rw [others_next, if_pos (of_decide_eq_true HR.out), List.append_nil, HY.out])
        go_wp2
        go_roundw
        case rel => exact ⟨i + 1, g, c, N, Y, by omega, by go_num, rfl, HYN, by omega, HX⟩
        case measure => simp [intOf]; omega
      | false =>
        have HYN : Hid (Y ++ [i] = others q (i + 1)) := Go.Lib.hid (by rw [others_next, if_neg (of_decide_eq_false HR.out), HY.out])
        have hown := HX.out.2.1
        have hb := HX.out.2.2
        go_wp2_with (at_builtin; refine wpList_append_own _ rfl _ _ 24 rfl W.heap.size 3 i0 (.int .i64 0) 1 8 Try.underlying24 hi hz0 hz1 hz2 rfl (by decide) _ _ _ rfl (hown.alloc _) ⟨wj.heap.size, 0, none⟩ 1 1 [.int .i64 (i : Int)] rfl rfl (cell_one_new _ _ _) (fun x hx => by simp at hx; subst hx; rfl) (by unfold maxLen; omega) (by omega) (by have := hb.size; simp; omega) ?_; intro v' w3 hown' hgrow3 hnil3)
        obtain ⟨g', cap', rfl⟩ := ownsRow_succ hown'
        rw [← nv_snoc] at hown'
        have hb' : Below W.heap.size W w3 := (hb.alloc hb.size _).grown hgrow3 (by have := hb.size; simp; omega) (fun q hq => (hown.lt q hq).1)
        have H3 : Hid (N + 1 = (Y ++ [i]).length ∧ w3.ownsRow W.heap.size 3 1 (.slice (some ⟨g', 0, none⟩) (N + 1) cap') (N + 1) (nv (Y ++ [i])) ∧ Below W.heap.size W w3) := Go.Lib.hid ⟨by rw [List.length_append, ← HX.out.1]; rfl, hown', hb'⟩
        clear hown' hgrow3 hnil3 hown hb hb'
        go_wp2
        go_roundw
        case rel => exact ⟨i + 1, g', cap', N + 1, Y ++ [i], by omega, by go_num, rfl, HYN, by omega, H3⟩
        case measure => simp [intOf]; omega
    · have hkn : i = n := by omega
      subst hkn
      have hYl : N = N0 := by rw [HX.out.1, HY.out, HN0.out]
      subst hYl
      have H3 := Go.Lib.hid (show wr.ownsRow W.heap.size 3 1 (.slice (some ⟨g, 0, none⟩) N c) N (nv (others q i)) by rw [← HY.out]; exact HX.out.2.1)
      go_wp2
      go_ret
      exact ⟨_, _, rfl, H3.out, HX.out.2.2⟩

set_option maxRecDepth 100000 in
set_option maxHeartbeats 2000000 in
theorem beside_any (zs : List Int) (q : List Nat) (W : World) (v u : Value) (n k : Nat) (hv : Sees W v n (vals zs)) (hu : Sees W u k (nv q)) (hk : k ≤ 1000) (hn1 : 1 ≤ n) (hn : n ≤ 7) :
    Calls Try.prog 51 #[v, u] W fun e w' => ∃ g c, e = .returned (.slice (some ⟨g, 0, none⟩) (beside zs q).length c) ∧ w'.ownsRow W.heap.size 3 1 (.slice (some ⟨g, 0, none⟩) (beside zs q).length c) (beside zs q).length (vals (beside zs q)) ∧ Below W.heap.size W w' := by
  obtain ⟨i0, hi, hz0, hz1, hz2⟩ := info_parts infoI
  have hlz : zs.length = n := by simpa using hv.1
  have HU := Go.Lib.hid hu
  have HLZ := Go.Lib.hid hlz
  obtain ⟨_, a1, c1, rfl, -, -⟩ := hu
  obtain ⟨zb, zo, zc, rfl, -, -, -, -⟩ := sees_cells hv (by omega)
  have HV := Go.Lib.hid hv
  clear hv hlz
  obtain ⟨N0, hN0⟩ : ∃ N0, (beside zs q).length = N0 := ⟨_, rfl⟩
  have HN0 := Go.Lib.hid hN0
  rw [hN0]
  clear hN0
  go_enter Try.func51, Try.ntmps51
  go_wp2
  go_loopw [5, 11] (fun ov iv wr => ∃ (i g c N : Nat) (Y : List Int), i ≤ n ∧ iv = .int .i64 i ∧ ov = .slice (some ⟨g, 0, none⟩) N c ∧ Hid (Y = pick zs (others q i)) ∧ N ≤ i ∧ Hid (N = Y.length ∧ wr.ownsRow W.heap.size 3 1 (.slice (some ⟨g, 0, none⟩) N c) N (vals Y) ∧ Below W.heap.size W wr)) (fun _ i _ => n - (intOf i).toNat)
  case atStart => exact ⟨0, W.heap.size, 0, 0, [], Nat.zero_le _, rfl, rfl, Go.Lib.hid rfl, Nat.le_refl _, Go.Lib.hid ⟨rfl, World.ownsRow_made (base := W.heap.size) (e := 3) (size := 1) W #[] 0 (Nat.le_refl _) (by unfold maxLen; omega) rfl, (Below.refl _ _).alloc (Nat.le_refl _) _⟩⟩
  case round =>
    obtain ⟨i, g, c, N, Y, hin, rfl, rfl, HY, hNi, HX⟩ := hrel
    by_cases hlt : i < n
    · have hlti : (i : Int) < (n : Int) := by omega
      obtain ⟨r, hr⟩ : ∃ r, decide (i ∈ q) = r := ⟨_, rfl⟩
      obtain ⟨wj, rfl⟩ : ∃ wj, wj = wr := ⟨_, rfl⟩
      obtain ⟨x, hx⟩ : ∃ x, zs.getD i 0 = x := ⟨_, rfl⟩
      have hck : wj.cell? ⟨zb, zo + i, none⟩ = some (.int .i64 x) := sees_at (HV.out.grow HX.out.2.2) hlt hx
      have CH := Go.Lib.hid (places_contain q i r wj _ k (HU.out.grow HX.out.2.2) hk hr)
      have HR := Go.Lib.hid (And.intro hr hx)
      clear hr hx
      go_wp2_with fail
      refine (CH.out).mono ?_
      rintro e w1 ⟨rfl, rfl⟩
      cases r with
      | true =>
        have HYN : Hid (Y = pick zs (others q (i + 1))) := Go.Lib.hid (by rw [others_next, if_pos (of_decide_eq_true HR.out.1), List.append_nil, HY.out])
        go_wp2
        go_roundw
        case rel => exact ⟨i + 1, g, c, N, Y, by omega, by go_num, rfl, HYN, by omega, HX⟩
        case measure => simp [intOf]; omega
      | false =>
        have HYN : Hid (Y ++ [x] = pick zs (others q (i + 1))) := Go.Lib.hid (by rw [others_next, if_neg (of_decide_eq_false HR.out.1), pick_snoc, HR.out.2, HY.out])
        have hown := HX.out.2.1
        have hb := HX.out.2.2
        go_wp2_with (at_builtin; refine wpList_append_own _ rfl _ _ 24 rfl W.heap.size 3 i0 (.int .i64 0) 1 8 Try.underlying24 hi hz0 hz1 hz2 rfl (by decide) _ _ _ rfl (hown.alloc _) ⟨w1.heap.size, 0, none⟩ 1 1 [.int .i64 x] rfl rfl (cell_one_new _ _ _) (fun x hx => by simp at hx; subst hx; rfl) (by unfold maxLen; omega) (by omega) (by have := hb.size; simp; omega) ?_; intro v' w3 hown' hgrow3 hnil3)
        obtain ⟨g', cap', rfl⟩ := ownsRow_succ hown'
        rw [← vals_app] at hown'
        have hb' : Below W.heap.size W w3 := (hb.alloc hb.size _).grown hgrow3 (by have := hb.size; simp; omega) (fun q hq => (hown.lt q hq).1)
        have H3 : Hid (N + 1 = (Y ++ [x]).length ∧ w3.ownsRow W.heap.size 3 1 (.slice (some ⟨g', 0, none⟩) (N + 1) cap') (N + 1) (vals (Y ++ [x])) ∧ Below W.heap.size W w3) := Go.Lib.hid ⟨by rw [List.length_append, ← HX.out.1]; rfl, hown', hb'⟩
        clear hown' hgrow3 hnil3 hown hb hb'
        go_wp2
        go_roundw
        case rel => exact ⟨i + 1, g', cap', N + 1, Y ++ [x], by omega, by go_num, rfl, HYN, by omega, H3⟩
        case measure => simp [intOf]; omega
    · have hkn : i = n := by omega
      subst hkn
      have hYb : Y = beside zs q := by rw [HY.out]; unfold beside; rw [HLZ.out]
      have hYl : N = N0 := by rw [HX.out.1, hYb, HN0.out]
      subst hYl
      have H3 := Go.Lib.hid (show wr.ownsRow W.heap.size 3 1 (.slice (some ⟨g, 0, none⟩) N c) N (vals (beside zs q)) by rw [← hYb]; exact HX.out.2.1)
      clear hYb
      go_wp2
      go_ret
      exact ⟨_, _, rfl, H3.out, HX.out.2.2⟩

set_option maxRecDepth 100000 in
theorem anyPlaces_any (u : Value) (n : Nat) (xs : List Value) (W : World) (hu : Sees W u n xs) :
    Calls Try.prog 50 #[u] W fun e w' => e = .returned (.bool true) ∧ Drawn W w' := by
  obtain ⟨_, a1, c1, rfl, -, -⟩ := hu
  go_enter Try.func50, Try.ntmps50
  go_wp2
  go_ret
  exact ⟨rfl, Drawn.refl _⟩

theorem allPlaces_any (n c : Nat) (hn : n ≤ 7) (hc7 : c ≤ 7) (W : World) :
    Calls Try.prog 49 #[.int .i64 n, .int .i64 c, .func (.func 50) #[] #[]] W fun e w' => ∃ v, e = .returned v ∧ Lists w' W.heap.size c v ((ch n c []).map nv) ∧ Below W.heap.size W w' := by
  have h := placeLists_any n c hn hc7 50 #[] (fun _ => true) W (run_enter Try.func50 (by kernel_rfl) rfl) (fun W' u q _ _ _ _ hs => anyPlaces_any u _ _ W' hs)
  rw [lev_all] at h
  exact h

/-- One of owned lists. -/
theorem lists_at {w : World} {base n N c i : Nat} {a : Option Addr} {L : List (List Value)} (hN : L.length = N) (hi : i < N) (h : Lists w base n (.slice a N c) L) : ∃ g p1 p2, a = some ⟨g, 0, none⟩ ∧ w.cell? ⟨g, i, none⟩ = some (.slice (some ⟨p1, 0, none⟩) n p2) ∧ w.ownsRow base 3 1 (.slice (some ⟨p1, 0, none⟩) n p2) n (L.getD i []) := by
  obtain ⟨gs, h1, h2, h3, _, _⟩ := h
  rw [hN] at h1 h2
  obtain ⟨g, c2, e⟩ := own_pos h2 (by omega)
  cases e
  have h4 := h3 i (by omega)
  have h5 := h2.cellAt i (by omega)
  obtain ⟨p, hp⟩ : ∃ p, gs.getD i (0, 0) = p := ⟨_, rfl⟩
  rw [hp] at h4
  have e1 : (gs.map (sl n))[i]? = some (sl n p) := by rw [← hp]; simp [show i < gs.length by omega]
  rw [e1] at h5
  exact ⟨g, p.1, p.2, rfl, h5, h4⟩

end Go.Proofs.Ytmnggcnipjdimab.DropsC
