/-
  Contracts: the laws' comparison of lists of pairs, their marks, and the sight of the marks. Conditions: at most 100 pairs.
-/
import Derived.Test.YtekihdnkkeggjaaConfI
import Derived.Deep.RegionHeld3
namespace Go.Proofs.Ytekihdnkkeggjaa.PairsC
open Go.RowKit SeesC IntsC ExactC OrdMath BesM ListsC ConfIC
set_option linter.unusedVariables false

theorem below_heap {w w' a : World} {B : Nat} (h : Below B a w) (h1 : w'.os = w.os) (h2 : w'.tape = w.tape) (h3 : w'.output = w.output) (h4 : w'.heap = w.heap) : Below B a w' :=
  ⟨h1.trans h.os, h2.trans h.tape, h3.trans h.output, by rw [h4]; exact h.size, fun q hq => by rw [h4]; exact h.block q hq⟩

theorem kept2 {w w' : World} {B : Nat} {ty : TypeId} {s : Nat} {v : Value} {n : Nat} {xs : List Value} (h : w.ownsRow B ty s v n xs) (hb : Below w.heap.size w w') : w'.ownsRow B ty s v n xs :=
  h.kept (grown_of_below hb none) (by cases hv : v.ownBlock <;> simp)

theorem two_cells (w : World) (x y : Value) (t : TypeId) : (w.alloc (.cells #[x, y] t)).cell? ⟨w.heap.size, 0, none⟩ = some x ∧ (w.alloc (.cells #[x, y] t)).cell? ⟨w.heap.size, 1, none⟩ = some y := by
  have hn := World.alloc_heap_new w (.cells #[x, y] t)
  constructor <;> (unfold World.cell?; simp only [hn]; rfl)

set_option maxRecDepth 100000 in
set_option maxHeartbeats 2000000 in
theorem eqIntA2_same (w : World) (a b : Int) :
    Calls Try.prog 85 #[.agg #[.int .i64 a, .int .i64 b], .agg #[.int .i64 a, .int .i64 b]] w fun e w' => e = .returned (.bool true) ∧ Below w.heap.size w w' := by
  have hA1 := two_cells w (.int .i64 a) (.int .i64 b) 41
  have hb1 : Below w.heap.size w (w.alloc (.cells #[.int .i64 a, .int .i64 b] 41)) := (Below.refl _ _).alloc (Nat.le_refl _) _
  have hb2 := hb1.alloc hb1.size (.cells #[.int .i64 a, .int .i64 b] 41)
  have hbb := (Below.refl (w.alloc (.cells #[.int .i64 a, .int .i64 b] 41)).heap.size (w.alloc (.cells #[.int .i64 a, .int .i64 b] 41))).alloc (Nat.le_refl _) (.cells #[.int .i64 a, .int .i64 b] 41)
  have hA2 := two_cells (w.alloc (.cells #[.int .i64 a, .int .i64 b] 41)) (.int .i64 a) (.int .i64 b) 41
  rw [World.size_alloc] at hA2 hbb
  have a0 := (hbb.cell (p := ⟨w.heap.size, 0, none⟩) (by simp)).trans hA1.1
  have a1 := (hbb.cell (p := ⟨w.heap.size, 1, none⟩) (by simp)).trans hA1.2
  have HA := Go.Lib.hid (And.intro a0 (And.intro a1 (And.intro hA2.1 (And.intro hA2.2 hb2))))
  clear hA1 hA2 hb1 hb2 hbb a0 a1
  go_enter Try.func85, Try.ntmps85
  go_wp2_with fail
  obtain ⟨w2, hw2⟩ : ∃ w2, (w.alloc (.cells #[.int .i64 a, .int .i64 b] 41)).alloc (.cells #[.int .i64 a, .int .i64 b] 41) = w2 := ⟨_, rfl⟩
  rw [hw2] at HA ⊢
  clear hw2
  go_loopw [5] (fun i wr => ∃ k : Nat, k ≤ 2 ∧ i = .int .i64 k ∧ Hid (Drawn w2 wr)) (fun i _ => 2 - (intOf i).toNat)
  case atStart => exact ⟨0, by omega, rfl, Go.Lib.hid (Drawn.refl _)⟩
  case round =>
    obtain ⟨k, hk, rfl, HD⟩ := hrel
    by_cases hlt : k < 2
    · obtain ⟨x, hx⟩ : ∃ x : Int, ∀ g, (g = w.heap.size ∨ g = w.heap.size + 1) → wr.cell? ⟨g, k, none⟩ = some (.int .i64 x) := by
        match k, hlt with
        | 0, _ => exact ⟨a, by rintro g (rfl | rfl); exact (HD.out.cell _).trans HA.out.1; exact (HD.out.cell _).trans HA.out.2.2.1⟩
        | 1, _ => exact ⟨b, by rintro g (rfl | rfl); exact (HD.out.cell _).trans HA.out.2.1; exact (HD.out.cell _).trans HA.out.2.2.2.1⟩
      have hck := hx _ (.inl rfl)
      have hck2 := hx _ (.inr rfl)
      have hlti : (k : Int) < 2 := by omega
      clear hx
      go_wp2
      go_quiet (fail)
      go_wp2
      go_roundw
      case rel => exact ⟨k + 1, by omega, by go_num, Go.Lib.hid (HD.out.next _)⟩
      case measure => simp [intOf]; omega
    · go_wp2
      go_ret
      exact ⟨rfl, HA.out.2.2.2.2.trans (HD.out.below _)⟩

theorem pair_at {w : World} {B g c N i : Nat} {xs : List Value} (h : w.ownsRow B 41 2 (.slice (some ⟨g, 0, none⟩) N c) N xs) (hi : i < N * 2) : w.cell? ⟨g, i, none⟩ = some (xs.getD i undef) := by
  have hl := h.1
  have h2 := h.cells (g := g) rfl i (xs.getD i undef) (by simp [show i < xs.length by omega])
  have ea : ∀ j, ((⟨g, 0, none⟩ : Addr).add j) = ⟨g, j, none⟩ := by intro j; cases j <;> simp [Addr.add]
  rw [ea] at h2
  exact h2

theorem vals_getD {zs : List Int} {i : Nat} (h : i < zs.length) : (vals zs).getD i undef = .int .i64 (zs.getD i 0) := by simp [h]

set_option maxRecDepth 100000 in
set_option maxHeartbeats 4000000 in
theorem eqA2S_same (B B' N : Nat) (w : World) (v u : Value) (zs : List Int) (hv : w.ownsRow B 41 2 v N (vals zs)) (hu : w.ownsRow B' 41 2 u N (vals zs)) (hN : N ≤ 100) :
    Calls Try.prog 51 #[v, u] w fun e w' => e = .returned (.bool true) ∧ Below w.heap.size w w' := by
  have hzl : zs.length = N * 2 := by have := hv.1; simpa using this
  have hva : ∃ a c, v = .slice a N c := by
    rcases hv.2 with ⟨rfl, rfl⟩ | ⟨g, cap, cur, rfl, _⟩
    · exact ⟨_, _, rfl⟩
    · exact ⟨_, _, rfl⟩
  have hua : ∃ a c, u = .slice a N c := by
    rcases hu.2 with ⟨rfl, rfl⟩ | ⟨g, cap, cur, rfl, _⟩
    · exact ⟨_, _, rfl⟩
    · exact ⟨_, _, rfl⟩
  obtain ⟨av, cv, rfl⟩ := hva
  obtain ⟨au, cu, rfl⟩ := hua
  have HV := Go.Lib.hid hv
  have HU := Go.Lib.hid hu
  have HZ := Go.Lib.hid hzl
  clear hv hu hzl
  go_enter Try.func51, Try.ntmps51
  go_wp2_with fail
  go_loopw [5] (fun i wr => ∃ k : Nat, k ≤ N ∧ i = .int .i64 k ∧ Hid (Below w.heap.size w wr)) (fun i _ => N - (intOf i).toNat)
  case atStart => exact ⟨0, Nat.zero_le _, rfl, Go.Lib.hid (Below.refl _ _)⟩
  case round =>
    obtain ⟨k, hk, rfl, HB⟩ := hrel
    obtain ⟨wo, rfl⟩ : ∃ wo, wo = wr := ⟨_, rfl⟩
    by_cases hlt : k < N
    · obtain ⟨gv, cv', ev⟩ : ∃ g c, (Value.slice av N cv) = .slice (some ⟨g, 0, none⟩) N c := by
        rcases HV.out.2 with ⟨_, h0⟩ | ⟨g, cap, cur, e, _⟩
        · omega
        · exact ⟨_, _, e⟩
      obtain ⟨gu, cu', eu⟩ : ∃ g c, (Value.slice au N cu) = .slice (some ⟨g, 0, none⟩) N c := by
        rcases HU.out.2 with ⟨_, h0⟩ | ⟨g, cap, cur, e, _⟩
        · omega
        · exact ⟨_, _, e⟩
      cases ev
      cases eu
      obtain ⟨x, hx⟩ : ∃ x, zs.getD (k * 2) 0 = x := ⟨_, rfl⟩
      obtain ⟨y, hy⟩ : ∃ y, zs.getD (k * 2 + 1) 0 = y := ⟨_, rfl⟩
      have HC : Hid (∀ X : World, Below wo.heap.size wo X → X.cell? ⟨gv, k * 2, none⟩ = some (.int .i64 x) ∧ X.cell? ⟨gv, k * 2 + 1, none⟩ = some (.int .i64 y) ∧ X.cell? ⟨gu, k * 2, none⟩ = some (.int .i64 x) ∧ X.cell? ⟨gu, k * 2 + 1, none⟩ = some (.int .i64 y)) := Go.Lib.hid (fun X hX => by
        have h1 := kept2 HV.out (HB.out.trans (hX.mono HB.out.size))
        have h2 := kept2 HU.out (HB.out.trans (hX.mono HB.out.size))
        have hz := HZ.out
        refine ⟨?_, ?_, ?_, ?_⟩
        · rw [pair_at h1 (by omega), vals_getD (by omega), hx]
        · rw [pair_at h1 (by omega), vals_getD (by omega), hy]
        · rw [pair_at h2 (by omega), vals_getD (by omega), hx]
        · rw [pair_at h2 (by omega), vals_getD (by omega), hy])
      have CE := Go.Lib.hid (fun X => eqIntA2_same X x y)
      have BR := Go.Lib.hid (Below.refl wo.heap.size wo)
      have hki : (k : Int) < (N : Int) := by omega
      clear hx hy
      go_wp2_with fail
      go_region_held3 (fun X => X.cell? ⟨gv, k * 2, none⟩ = some (.int .i64 x) ∧ X.cell? ⟨gv, k * 2 + 1, none⟩ = some (.int .i64 y) ∧ X.cell? ⟨gu, k * 2, none⟩ = some (.int .i64 x) ∧ X.cell? ⟨gu, k * 2 + 1, none⟩ = some (.int .i64 y)) (first
        | exact HC.out _ (below_heap H5.out (by rfl) (by rfl) (by rfl) (by rfl))
        | exact HC.out _ (below_heap BR.out (by rfl) (by rfl) (by rfl) (by rfl))) (first
        | (go_at_call 85; refine (CE.out _).mono ?_; rintro e w5 ⟨rfl, hb5⟩; have H5 := Go.Lib.hid ((below_heap BR.out (by rfl) (by rfl) (by rfl) (by rfl)).trans (hb5.mono (below_heap BR.out (by rfl) (by rfl) (by rfl) (by rfl)).size)); clear hb5))
      all_goals
        have HN : Hid (Below w.heap.size w w5) := Go.Lib.hid (HB.out.trans (H5.out.mono HB.out.size))
        go_wp2
        go_roundw
        case rel => exact ⟨k + 1, by omega, by go_num, HN⟩
        case measure => simp [intOf]; omega
    · go_wp2
      go_ret
      exact ⟨rfl, HB.out⟩

/-- The list has been marked. -/
def PMarked (B : Nat) (v : Value) (N k : Nat) (w : World) (e : Ending) (w' : World) : Prop :=
  e = .returned (.int .i64 ((k + N * 2 : Nat) : Int)) ∧ w'.ownsRow B 41 2 v N (imarks k (N * 2)) ∧ w.grownBy w' v.ownBlock

set_option maxRecDepth 100000 in
set_option maxHeartbeats 4000000 in
theorem markA2S_any (B N k0 : Nat) (v : Value) (xs : List Value) (w : World) (hN : N ≤ 100) (hk0 : k0 ≤ 1048577) (hown : w.ownsRow B 41 2 v N xs) :
    Calls Try.prog 54 #[v, .int .i64 k0] w (PMarked B v N k0 w) := by
  have hxl : xs.length = N * 2 := hown.1
  rcases hown.2 with ⟨rfl, rfl⟩ | ⟨g, cap, cur, rfl, _⟩
  · have hx : xs = [] := List.eq_nil_of_length_eq_zero (by simpa using hxl)
    subst hx
    go_enter Try.func54, Try.ntmps54
    go_wp2
    go_loopw [1, 5] (fun kv iv wr => iv = .int .i64 0 ∧ kv = .int .i64 (k0 : Int) ∧ wr = w) (fun _ _ _ => 0)
    case atStart => exact ⟨rfl, rfl, rfl⟩
    case round =>
      obtain ⟨rfl, rfl, rfl⟩ := hrel
      go_wp2
      go_ret
      exact ⟨by simp, hown, ⟨rfl, rfl, rfl, Nat.le_refl _, fun _ _ _ => rfl⟩⟩
  · have HX := Go.Lib.hid hxl
    go_enter Try.func54, Try.ntmps54
    go_wp2
    go_loopw [1, 5] (fun kv iv wr => ∃ i : Nat, i ≤ N ∧ iv = .int .i64 i ∧ kv = .int .i64 ((k0 + i * 2 : Nat) : Int) ∧ Hid (wr.ownsRow B 41 2 (.slice (some ⟨g, 0, none⟩) N cap) N ((imarks k0 (N * 2)).take (i * 2) ++ xs.drop (i * 2)) ∧ w.grownBy wr (some g))) (fun _ i _ => N - (intOf i).toNat)
    case atStart => exact ⟨0, Nat.zero_le _, rfl, rfl, Go.Lib.hid ⟨by simpa using hown, ⟨rfl, rfl, rfl, Nat.le_refl _, fun _ _ _ => rfl⟩⟩⟩
    case round =>
      obtain ⟨i, hi, rfl, rfl, HO⟩ := hrel
      clear hown hxl
      by_cases hlt : i < N
      · have hlti : (i : Int) < (N : Int) := by omega
        obtain ⟨wo, rfl⟩ : ∃ wo, wo = wr := ⟨_, rfl⟩
        go_wp2
        go_loopw [1, 6] (fun kv jv wr => ∃ j : Nat, j ≤ 2 ∧ jv = .int .i64 j ∧ kv = .int .i64 ((k0 + (i * 2 + j) : Nat) : Int) ∧ Hid (wr.ownsRow B 41 2 (.slice (some ⟨g, 0, none⟩) N cap) N ((imarks k0 (N * 2)).take (i * 2 + j) ++ xs.drop (i * 2 + j)) ∧ w.grownBy wr (some g))) (fun _ j _ => 2 - (intOf j).toNat)
        case atStart => exact ⟨0, by omega, rfl, rfl, HO⟩
        case round =>
          obtain ⟨j, hj, rfl, rfl, HP⟩ := hrel
          obtain ⟨wx, rfl⟩ : ∃ wx, wx = wr := ⟨_, rfl⟩
          by_cases hjl : j < 2
          · have hji : (j : Int) < 2 := by omega
            have hst := HP.out.1.stored (i * 2 + j) (.int .i64 ((k0 + (i * 2 + j) : Nat) : Int))
            rw [set_imark xs k0 (N * 2) (i * 2 + j) (by omega) HX.out] at hst
            have hd := pair_at HP.out.1 (i := i * 2 + j) (by omega)
            have hf := HP.out.1.frozenAt (i * 2 + j)
            obtain ⟨d, hdd⟩ : ∃ d, ((imarks k0 (N * 2)).take (i * 2 + j) ++ xs.drop (i * 2 + j)).getD (i * 2 + j) undef = d := ⟨_, rfl⟩
            rw [hdd] at hd
            have HS := Go.Lib.hid (And.intro hst.1 (grown_trans HP.out.2 hst.2))
            obtain ⟨kk, hkk⟩ : ∃ kk, k0 + (i * 2 + j) = kk := ⟨_, rfl⟩
            have hkk3 : kk ≤ 2097154 := by omega
            have HK := Go.Lib.hid hkk
            rw [hkk] at HS ⊢
            clear hst hdd hkk
            go_wp2
            go_roundw
            case rel => exact ⟨j + 1, by omega, by go_num, by rw [← Nat.add_assoc, ← Nat.add_assoc, Nat.add_assoc k0, HK.out]; go_num, HS⟩
            case measure => simp [intOf]; omega
          · have hj2 : j = 2 := by omega
            subst hj2
            have HN : Hid (wx.ownsRow B 41 2 (.slice (some ⟨g, 0, none⟩) N cap) N ((imarks k0 (N * 2)).take ((i + 1) * 2) ++ xs.drop ((i + 1) * 2)) ∧ w.grownBy wx (some g)) := Go.Lib.hid (by
              rw [show (i + 1) * 2 = i * 2 + 2 from by omega]; exact HP.out)
            go_wp2
            go_roundw
            case rel => exact ⟨i + 1, by omega, by go_num, by rw [show (i + 1) * 2 = i * 2 + 2 from by omega], HN⟩
            case measure => simp [intOf]; omega
      · have hin : i = N := by omega
        subst hin
        have HF : Hid (wr.ownsRow B 41 2 (.slice (some ⟨g, 0, none⟩) i cap) i (imarks k0 (i * 2)) ∧ w.grownBy wr (some g)) := Go.Lib.hid (by
          have h1 := HO.out
          rw [List.take_of_length_le (by rw [imarks_len]; omega), List.drop_of_length_le (by have := HX.out; omega), List.append_nil] at h1
          exact h1)
        go_wp2
        go_ret
        exact ⟨rfl, HF.out.1, HF.out.2⟩

set_option maxRecDepth 100000 in
set_option maxHeartbeats 4000000 in
theorem heldA2S_any (B N k0 : Nat) (v : Value) (w : World) (hN : N ≤ 100) (hk0 : k0 ≤ 1048577) (hown : w.ownsRow B 41 2 v N (imarks k0 (N * 2))) :
    Calls Try.prog 55 #[v, .int .i64 k0] w fun e w' => e = .returned (.int .i64 ((k0 + N * 2 : Nat) : Int)) ∧ w' = w := by
  obtain ⟨av, cv, rfl⟩ : ∃ a c, v = .slice a N c := by
    rcases hown.2 with ⟨rfl, rfl⟩ | ⟨g, cap, cur, rfl, _⟩
    · exact ⟨_, _, rfl⟩
    · exact ⟨_, _, rfl⟩
  have HO := Go.Lib.hid hown
  clear hown
  go_enter Try.func55, Try.ntmps55
  go_wp2
  go_loopw [1, 5] (fun kv iv wr => ∃ i : Nat, i ≤ N ∧ iv = .int .i64 i ∧ kv = .int .i64 ((k0 + i * 2 : Nat) : Int) ∧ wr = w) (fun _ i _ => N - (intOf i).toNat)
  case atStart => exact ⟨0, Nat.zero_le _, rfl, rfl, rfl⟩
  case round =>
    obtain ⟨i, hi, rfl, rfl, rfl⟩ := hrel
    by_cases hlt : i < N
    · have hlti : (i : Int) < (N : Int) := by omega
      obtain ⟨g, c, ev⟩ : ∃ g c, (Value.slice av N cv) = .slice (some ⟨g, 0, none⟩) N c := by
        rcases HO.out.2 with ⟨_, h0⟩ | ⟨g, cap, cur, e, _⟩
        · omega
        · exact ⟨_, _, e⟩
      cases ev
      obtain ⟨wo, hwo⟩ : ∃ wo, wo = wr := ⟨_, rfl⟩
      have HW := Go.Lib.hid hwo
      go_wp2
      go_loopw [1, 6] (fun kv jv wr => ∃ j : Nat, j ≤ 2 ∧ jv = .int .i64 j ∧ kv = .int .i64 ((k0 + (i * 2 + j) : Nat) : Int) ∧ wr = wo) (fun _ j _ => 2 - (intOf j).toNat)
      case atStart => exact ⟨0, by omega, rfl, rfl, hwo.symm⟩
      case round =>
        obtain ⟨j, hj, rfl, rfl, rfl⟩ := hrel
        by_cases hjl : j < 2
        · have hji : (j : Int) < 2 := by omega
          have hd : wr.cell? ⟨g, i * 2 + j, none⟩ = some (.int .i64 ((k0 + (i * 2 + j) : Nat) : Int)) := by
            have h1 := pair_at HO.out (i := i * 2 + j) (by omega)
            have e2 : (imarks k0 (N * 2)).getD (i * 2 + j) undef = .int .i64 ((k0 + (i * 2 + j) : Nat) : Int) := by
              have h2 : i * 2 + j < (imarks k0 (N * 2)).length := by rw [imarks_len]; omega
              have h3 := imarks_at k0 (N * 2) (i * 2 + j) (by omega)
              rw [← h3]; simp [h2]
            rw [e2] at h1
            rw [HW.out]; exact h1
          obtain ⟨kk, hkk⟩ : ∃ kk, k0 + (i * 2 + j) = kk := ⟨_, rfl⟩
          have hkk3 : kk ≤ 2097154 := by omega
          rw [hkk] at hd ⊢
          have HK := Go.Lib.hid hkk
          clear hkk hwo
          go_wp2
          go_roundw
          case rel => exact ⟨j + 1, by omega, by go_num, by rw [← Nat.add_assoc, ← Nat.add_assoc, Nat.add_assoc k0, HK.out]; go_num, by first | rfl | trivial⟩
          case measure => simp [intOf]; omega
        · have hj2 : j = 2 := by omega
          subst hj2
          clear hwo
          go_wp2
          go_roundw
          case rel => exact ⟨i + 1, by omega, by go_num, by rw [show (i + 1) * 2 = i * 2 + 2 from by omega], HW.out⟩
          case measure => simp [intOf]; omega
    · have hin : i = N := by omega
      subst hin
      go_wp2
      go_ret
      exact ⟨rfl, rfl⟩

def flatP (C : List (Nat × Nat)) : List Int := C.flatMap fun p => [(p.1 : Int), (p.2 : Int)]

theorem prv_vals : ∀ C : List (Nat × Nat), prv C = vals (flatP C)
  | [] => rfl
  | p :: C => by
    have e1 : prv (p :: C) = .int .i64 (p.1 : Int) :: .int .i64 (p.2 : Int) :: prv C := rfl
    have e2 : flatP (p :: C) = (p.1 : Int) :: (p.2 : Int) :: flatP C := rfl
    rw [e1, e2, prv_vals C]
    rfl

theorem own_mark2 {w w' : World} {row : Option Nat} {B : Nat} {ty : TypeId} {s : Nat} {v : Value} {n : Nat} {xs : List Value} (h : w.ownsRow B ty s v n xs) (hg : w.grownBy w' row) (hne : ∀ a, v.ownBlock = some a → row ≠ some a) : w'.ownsRow B ty s v n xs :=
  h.kept hg (by
    cases hv : v.ownBlock with
    | none => simp
    | some a => exact .inr (fun e => hne a hv e.symm))

end Go.Proofs.Ytekihdnkkeggjaa.PairsC
