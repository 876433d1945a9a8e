/-
  Contracts: the model and the program tell the shape of a list. Conditions: the list can be read and has at most 2^20 numbers.
-/
import Derived.Test.YtecbfoodkcgehabOrder
import Derived.Test.YtecbfoodkcgehabPatMath
import Derived.RangeFuncBox
import Derived.Maps.AppendAt
namespace Go.Proofs.Ytecbfoodkcgehab.ShapeC
open Go.RowKit SeesC IntsC ExactC OrdMath InC OrderC PatMath

theorem drawn_own {w w' : World} {B size n : Nat} {ty : TypeId} {v : Value} {xs : List Value} (h : Drawn w w') (ho : w.ownsRow B ty size v n xs) : w'.ownsRow B ty size v n xs := by
  obtain ⟨m, rfl⟩ := h; exact ho

theorem getD_el {zs : List Int} {j : Nat} (h : j < zs.length) : zs.getD j 0 = zs[j] := by simp [h]

theorem cl_step {zs : List Int} {j : Nat} (z x : Int) (h : j < zs.length) (hx : zs.getD j 0 = x) : cl z (zs.take (j + 1)) = cl z (zs.take j) + (if x < z then 1 else 0) := by
  rw [cl_next h, ← hx, getD_el h]

set_option maxRecDepth 100000 in
set_option maxHeartbeats 2000000 in
theorem l3Shape_any (zs : List Int) (W : World) (v : Value) (n : Nat) (hn : n ≤ 1000) (hv : Sees W v n (vals zs)) :
    Calls Try.prog 176 #[v] W fun e w' => ∃ u, e = .returned u ∧ w'.ownsRow W.heap.size 3 1 u n (vals (shp zs)) ∧ Below W.heap.size W w' := by
  obtain ⟨i0, hi, hz0, hz1, hz2⟩ := info_parts infoI
  have HVB := Go.Lib.hid (fun hp => hv.lt hp)
  obtain ⟨hlen, a, cap, rfl, hcap, hc⟩ := hv
  simp at hlen
  have HC := Go.Lib.hid hc
  clear hc
  go_enter Try.func176, Try.ntmps176
  go_wp2
  go_loopw [3, 4] (fun ov iv wr => ∃ (k g c : Nat), k ≤ n ∧ iv = .int .i64 k ∧ ov = .slice (some ⟨g, 0, none⟩) k c ∧ wr.ownsRow W.heap.size 3 1 (.slice (some ⟨g, 0, none⟩) k c) k (vals ((shp zs).take k)) ∧ Below W.heap.size W wr) (fun _ i _ => n - (intOf i).toNat)
  case atStart => exact ⟨0, W.heap.size, 0, Nat.zero_le _, rfl, rfl, by simpa using World.ownsRow_made (base := W.heap.size) (e := 3) (size := 1) W #[] 0 (Nat.le_refl _) (by unfold maxLen; omega) rfl, (Below.refl _ _).alloc (Nat.le_refl _) _⟩
  case round =>
    obtain ⟨i, g, c, hk, rfl, rfl, hown, hb⟩ := hrel
    by_cases hlt : i < n
    · obtain ⟨b, o, rfl, hcell⟩ := HC.out (by omega)
      have hbl := HVB.out (by omega) b rfl
      have HCC : Hid (∀ j, j < zs.length → wr.cell? ⟨b, o + j, none⟩ = some (.int .i64 (zs.getD j 0))) := Go.Lib.hid (fun j hj => (hb.cell (p := ⟨b, o + j, none⟩) hbl).trans (hcell j _ (by simp [hj])))
      have HS := Go.Lib.hid (And.intro hown hb)
      have hlti : (i : Int) < (n : Int) := by omega
      obtain ⟨z, hz⟩ : ∃ z, zs.getD i 0 = z := ⟨_, rfl⟩
      have HZ := Go.Lib.hid hz
      clear hcell hown hb hz
      obtain ⟨wo, rfl⟩ : ∃ wo, wo = wr := ⟨_, rfl⟩
      go_wp2
      go_loopw [5, 6] (fun xv kv w2 => ∃ (j l : Nat), j ≤ n ∧ kv = .int .i64 j ∧ xv = .int .i64 ((1 + l : Nat) : Int) ∧ l ≤ j ∧ Hid (l = cl z (zs.take j)) ∧ Drawn wo w2) (fun _ k _ => n - (intOf k).toNat)
      case atStart => exact ⟨0, 0, Nat.zero_le _, rfl, rfl, Nat.le_refl _, Go.Lib.hid (by simp [cl]), Drawn.refl _⟩
      case round =>
        obtain ⟨j, l, hj, rfl, rfl, hlj, HLL, HD2⟩ := hrel
        by_cases hlt2 : j < n
        · have hck : wr.cell? ⟨b, o + j, none⟩ = some (.int .i64 (zs.getD j 0)) := (HD2.cell _).trans (HCC.out j (by omega))
          have hck1 : wr.cell? ⟨b, o + i, none⟩ = some (.int .i64 z) := (HD2.cell _).trans (by rw [HCC.out i (by omega), HZ.out])
          obtain ⟨x, hx⟩ : ∃ x, zs.getD j 0 = x := ⟨_, rfl⟩
          have HN : Hid (cl z (zs.take (j + 1)) = l + (if x < z then 1 else 0)) := Go.Lib.hid (by rw [cl_step z x (by omega) hx, HLL.out])
          rw [hx] at hck
          have hki : (j : Int) < (n : Int) := by omega
          clear hx
          by_cases hxz : x < z
          · rw [if_pos hxz] at HN
            go_wp2
            go_quiet (fail)
            go_wp2
            go_roundw
            case rel => exact ⟨j + 1, l + 1, by omega, by go_num, by rw [← Nat.add_assoc]; go_num, by omega, Go.Lib.hid HN.out.symm, HD2.next _⟩
            case measure => simp [intOf]; omega
          · rw [if_neg hxz] at HN
            go_wp2
            go_quiet (fail)
            go_wp2
            go_roundw
            case rel => exact ⟨j + 1, l, by omega, by go_num, rfl, by omega, Go.Lib.hid (by rw [HN.out]; rfl), HD2.next _⟩
            case measure => simp [intOf]; omega
        · have HE : Hid (vals ((shp zs).take (i + 1)) = vals ((shp zs).take i) ++ [.int .i64 ((1 + l : Nat) : Int)]) := Go.Lib.hid (take_next (by rw [shp_len]; omega) (by rw [shp_at (by omega), HZ.out, HLL.out, List.take_of_length_le (by omega)]; omega))
          have hown := drawn_own HD2 HS.out.1
          have hb := HS.out.2.trans (HD2.below _)
          have hl1 : l ≤ 1000 := by omega
          obtain ⟨y, hy⟩ : ∃ y : Int, ((1 + l : Nat) : Int) = y := ⟨_, rfl⟩
          rw [hy] at HE ⊢
          clear hy
          go_wp2_with (at_builtin; refine wpList_append_own _ rfl _ _ 29 rfl W.heap.size 3 i0 (.int .i64 0) 1 8 Try.underlying29 hi hz0 hz1 hz2 rfl (by decide) _ _ _ rfl (hown.alloc _) ⟨wr.heap.size, 0, none⟩ 1 1 [.int .i64 y] rfl rfl (cell_one_new _ _ _) (fun x hx => by simp at hx; subst hx; rfl) (by unfold maxLen; omega) (by omega) (by have := hb.size; simp; omega) ?_; intro v' w3 hown' hgrow3 hnil3)
          obtain ⟨g', cap', rfl⟩ := ownsRow_succ hown'
          rw [← HE.out] at hown'
          have hb' : Below W.heap.size W w3 := (hb.alloc hb.size _).grown hgrow3 (by have := hb.size; simp; omega) (fun q hq => (hown.lt q hq).1)
          have H3 := Go.Lib.hid (And.intro hown' hb')
          clear hown' hgrow3 hnil3 hown hb hb'
          go_wp2
          go_roundw
          case rel => exact ⟨i + 1, g', cap', by omega, by go_num, rfl, H3.out.1, H3.out.2⟩
          case measure => simp [intOf] <;> omega
    · have hkn : i = n := by omega
      subst hkn
      have e1 : (shp zs).take i = shp zs := List.take_of_length_le (by rw [shp_len]; omega)
      rw [e1] at hown
      have H3 := Go.Lib.hid (And.intro hown hb)
      clear hown hb e1
      go_wp2
      go_ret
      exact ⟨_, rfl, H3.out.1, H3.out.2⟩

/-- What the program has filled in so far. -/
def filled (zs : List Int) (k n : Nat) : List Int := (shp zs).take k ++ List.replicate (n - k) 0

theorem filled_len {zs : List Int} {k n : Nat} (hl : zs.length = n) (hk : k ≤ n) : (filled zs k n).length = n := by
  simp [filled, shp_len]; omega

theorem filled_next {zs : List Int} {k n : Nat} {y : Int} (hl : zs.length = n) (hk : k < n) (hy : (shp zs).getD k 0 = y) : (filled zs k n).set k y = filled zs (k + 1) n := by
  have h1 : k < (shp zs).length := by rw [shp_len]; omega
  have h2 := set_next (shp zs) 0 n k h1 (by rw [shp_len]; exact hl)
  rw [← getD_el h1, hy] at h2
  exact h2

theorem made_filled (zs : List Int) (n : Nat) : (madeCells (Value.int .i64 0).cells (n * 1)).toList = vals (filled zs 0 n) := by
  rw [made_int]; simp [filled]

set_option maxRecDepth 100000 in
set_option maxHeartbeats 4000000 in
theorem implShape_any (zs : List Int) (W : World) (v : Value) (n : Nat) (hn : n ≤ 1000) (hv : Sees W v n (vals zs)) :
    Calls Try.prog 122 #[v] W fun e w' => ∃ u, e = .returned u ∧ w'.ownsRow W.heap.size 3 1 u n (vals (shp zs)) ∧ Below W.heap.size W w' := by
  obtain ⟨i0, hi, hz0, hz1, hz2⟩ := info_parts infoI
  have HVB := Go.Lib.hid (fun hp => hv.lt hp)
  obtain ⟨hlen, a, cap, rfl, hcap, hc⟩ := hv
  simp at hlen
  have HC := Go.Lib.hid hc
  have hgb : W.heap.size ≤ W.heap.size := Nat.le_refl _
  clear hc
  go_enter Try.func122, Try.ntmps122
  go_wp2_with (at_make; refine wpList_make_full _ rfl _ _ 29 rfl W.heap.size 3 i0 (.int .i64 0) 1 Try.underlying29 hi hz0 hz1 .i64 .i64 n n n rfl rfl rfl rfl (by rw [hz2]; omega) (by unfold maxLen; omega) (Nat.le_refl _) ?_; intro w2 hown1 hgrow1; clear hi hz0 hz1 hz2)
  rw [made_filled zs n] at hown1
  have hb1 : Below W.heap.size W w2 := (Below.refl _ _).grown hgrow1 (Nat.le_refl _) (fun k hk => by cases hk)
  clear hgrow1
  go_loopw [13] (fun iv wr => ∃ (k : Nat), k ≤ n ∧ iv = .int .i64 k ∧ wr.ownsRow W.heap.size 3 1 (.slice (some ⟨W.heap.size, 0, none⟩) n n) n (vals (filled zs k n)) ∧ Below W.heap.size W wr) (fun i _ => n - (intOf i).toNat)
  case atStart => exact ⟨0, Nat.zero_le _, rfl, hown1, hb1⟩
  case round =>
    obtain ⟨k, hk, rfl, hown, hb⟩ := hrel
    clear hown1 hb1
    by_cases hlt : k < n
    · obtain ⟨b, o, rfl, hcell⟩ := HC.out (by omega)
      have hbl := HVB.out (by omega) b rfl
      have HCC : Hid (∀ (w3 : World), Below W.heap.size W w3 → ∀ j, j < zs.length → w3.cell? ⟨b, o + j, none⟩ = some (.int .i64 (zs.getD j 0))) := Go.Lib.hid (fun w3 hb3 j hj => (hb3.cell (p := ⟨b, o + j, none⟩) hbl).trans (hcell j _ (by simp [hj])))
      obtain ⟨z, hz⟩ : ∃ z, zs.getD k 0 = z := ⟨_, rfl⟩
      have HZ := Go.Lib.hid hz
      have hck : wr.cell? ⟨b, o + k, none⟩ = some (.int .i64 z) := by rw [HCC.out wr hb k (by omega), HZ.out]
      have hst := hown.stored k (.int .i64 1)
      have e2 : (vals (filled zs k n)).set k (.int .i64 1) = vals ((filled zs k n).set k ((1 + 0 : Nat) : Int)) := by simp [List.map_set]
      rw [e2] at hst
      have hdc := hown.cellAt k (by omega)
      have hf := hown.frozenAt k
      obtain ⟨u, hu⟩ : ∃ u, wr.cell? ⟨W.heap.size, k, none⟩ = some u := ⟨_, hdc.trans (List.getElem?_eq_getElem (by rw [vals_len, filled_len hlen hk]; omega))⟩
      have HS := Go.Lib.hid (And.intro hst.1 (hb.setCell (p := ⟨W.heap.size, k, none⟩) hgb (.int .i64 1)))
      have hlti : (k : Int) < (n : Int) := by omega
      have hk0 : (0 : Int) ≤ (k : Int) := by omega
      clear hst e2 hdc hb hown hz hcell
      go_wp2
      go_loopw [23] (fun iv w3 => ∃ (j l : Nat), j ≤ n ∧ iv = .int .i64 j ∧ l ≤ j ∧ Hid (l = cl z (zs.take j)) ∧ w3.ownsRow W.heap.size 3 1 (.slice (some ⟨W.heap.size, 0, none⟩) n n) n (vals ((filled zs k n).set k ((1 + l : Nat) : Int))) ∧ Below W.heap.size W w3) (fun i _ => n - (intOf i).toNat)
      case atStart => exact ⟨0, 0, Nat.zero_le _, rfl, Nat.le_refl _, Go.Lib.hid (by simp [cl]), HS.out.1, HS.out.2⟩
      case round =>
        obtain ⟨j, l, hj, rfl, hlj, HLL, hown3, hb3⟩ := hrel
        clear HS
        by_cases hlt2 : j < n
        · have hckj : wr.cell? ⟨b, o + j, none⟩ = some (.int .i64 (zs.getD j 0)) := HCC.out wr hb3 j (by omega)
          obtain ⟨x, hx⟩ : ∃ x, zs.getD j 0 = x := ⟨_, rfl⟩
          have HN : Hid (cl z (zs.take (j + 1)) = l + (if x < z then 1 else 0)) := Go.Lib.hid (by rw [cl_step z x (by omega) hx, HLL.out])
          rw [hx] at hckj
          have hki : (j : Int) < (n : Int) := by omega
          clear hx
          by_cases hxz : x < z
          · rw [if_pos hxz] at HN
            have hd3 := hown3.cellAt k (by omega)
            have hd4 : (vals ((filled zs k n).set k ((1 + l : Nat) : Int)))[k]? = some (.int .i64 ((1 + l : Nat) : Int)) := by
              simp [filled_len hlen hk, hlt]
            rw [hd4] at hd3
            have hf3 := hown3.frozenAt k
            obtain ⟨y, hy⟩ : ∃ y : Int, ((1 + l : Nat) : Int) = y := ⟨_, rfl⟩
            have hy2 : (0 : Int) ≤ y ∧ y ≤ 2000 := by omega
            have hst := hown3.stored k (.int .i64 (y + 1))
            have e2 : (vals ((filled zs k n).set k ((1 + l : Nat) : Int))).set k (.int .i64 (y + 1)) = vals ((filled zs k n).set k ((1 + (l + 1) : Nat) : Int)) := by
              have e3 : y + 1 = ((1 + (l + 1) : Nat) : Int) := by omega
              simp only [vals, List.map_set, List.set_set, e3]
            rw [e2] at hst
            rw [hy] at hd3
            have HS := Go.Lib.hid (And.intro hst.1 (hb3.setCell (p := ⟨W.heap.size, k, none⟩) hgb (.int .i64 (y + 1))))
            clear hst e2 hd4 hy hown3 hb3
            go_wp2
            go_roundw
            case rel => exact ⟨j + 1, l + 1, by omega, by go_num, by omega, Go.Lib.hid HN.out.symm, HS.out.1, HS.out.2⟩
            case measure => simp [intOf] <;> omega
          · rw [if_neg hxz] at HN
            have HS := Go.Lib.hid (And.intro hown3 hb3)
            clear hown3 hb3
            go_wp2
            go_roundw
            case rel => exact ⟨j + 1, l, by omega, by go_num, by omega, Go.Lib.hid (by rw [HN.out]; rfl), HS.out.1, HS.out.2⟩
            case measure => simp [intOf] <;> omega
        · have e4 := filled_next (zs := zs) (k := k) (n := n) (y := ((1 + l : Nat) : Int)) hlen hlt (by rw [shp_at (by omega), HZ.out, HLL.out, List.take_of_length_le (by omega)]; omega)
          rw [e4] at hown3
          have HS := Go.Lib.hid (And.intro hown3 hb3)
          clear hown3 hb3 e4
          go_wp2
          go_roundw
          case rel => exact ⟨k + 1, by omega, by go_num, HS.out.1, HS.out.2⟩
          case measure => simp [intOf] <;> omega
    · have hkn : k = n := by omega
      subst hkn
      have e1 : filled zs k k = shp zs := by unfold filled; rw [List.take_of_length_le (by rw [shp_len]; omega), Nat.sub_self]; simp
      rw [e1] at hown
      have H3 := Go.Lib.hid (And.intro hown hb)
      clear hown hb e1
      go_wp2
      go_ret
      exact ⟨_, rfl, H3.out.1, H3.out.2⟩

set_option maxRecDepth 100000 in
set_option maxHeartbeats 2000000 in
theorem implShape (zs : List Int) (xs : List Int) (b : Bool) (h : shapeAns zs = (xs, b)) (hz : zs.length ≤ 1048576) (W : World) (v : Value) (n : Nat) (hv : Sees W v n (vals zs)) :
    Calls Try.prog 34 #[v] W fun e w' => ListTo W e w' xs b := by
  have hl : zs.length = n := by simpa using hv.1
  have hn : n ≤ 1048576 := by omega
  have HV := Go.Lib.hid hv
  unfold shapeAns at h
  by_cases h7 : n ≤ 7
  · have CS := Go.Lib.hid (implShape_any zs W v n (by omega) hv)
    obtain ⟨_, adr, cap, rfl, _, _⟩ := hv
    have hni : ¬ ((7 : Int) < (n : Int)) := by omega
    have HH := Go.Lib.hid h
    obtain ⟨r, hr⟩ : ∃ r, isOrd (shp zs) = r := ⟨_, rfl⟩
    have CO := Go.Lib.hid (fun W' u (hs : Sees W' u n (vals (shp zs))) => implOrder_any W' u n (shp zs) r hs hn hr)
    have HR := Go.Lib.hid hr
    clear h hr
    go_enter Try.func34, Try.ntmps34
    go_wp2_with fail
    refine (CS.out).mono ?_
    rintro e w1 ⟨u, rfl, ho, hb⟩
    have H1 := Go.Lib.hid (And.intro ho hb)
    clear ho hb
    go_wp2_with fail
    refine (CO.out _ _ (Sees.owns H1.out.1)).mono ?_
    rintro e w2 ⟨rfl, hb⟩
    have H2 := Go.Lib.hid (And.intro (kept_call H1.out.1 hb) (H1.out.2.trans (hb.mono H1.out.2.size)))
    clear hb
    cases r with
    | false =>
      have hno : ¬ Ord (shp zs) := of_decide_eq_false HR.out
      have h0 := HH.out
      rw [if_neg (fun h => hno ((shp_ord h.1 h.2.1).2 h.2.2))] at h0
      cases h0
      go_wp2_with fail
      go_ret2
      exact listTo_below H2.out.2 (listTo_none _ _)
    | true =>
      have ho : Ord (shp zs) := of_decide_eq_true HR.out
      have h0 := HH.out
      have h1 : 1 ≤ zs.length := by have := ho.1; rwa [shp_len] at this
      rw [if_pos ⟨h1, by omega, (shp_ord h1 (by omega)).1 ho⟩] at h0
      cases h0
      have hsl : (shp zs).length = n := by rw [shp_len, hl]
      go_wp2_with fail
      go_ret2
      exact ⟨_, rfl, by rw [hsl]; exact H2.out.1, H2.out.2⟩
  · rw [if_neg (fun h => by omega)] at h
    cases h
    obtain ⟨_, adr, cap, rfl, _, _⟩ := hv
    have hni : (7 : Int) < (n : Int) := by omega
    go_enter Try.func34, Try.ntmps34
    go_wp2
    go_ret2
    exact listTo_none _ _

end Go.Proofs.Ytecbfoodkcgehab.ShapeC
