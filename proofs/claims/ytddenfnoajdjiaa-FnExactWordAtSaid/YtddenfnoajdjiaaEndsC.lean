/-
  Contract: the model counts in how many ways a word goes on. Conditions: at most fourteen signs are left.
-/
import Derived.Test.YtddenfnoajdjiaaEnds
import Derived.Test.YtddenfnoajdjiaaOrder
import Derived.Test.YtddenfnoajdjiaaNum
import Derived.Test.YtddenfnoajdjiaaRun
import Derived.IntWalk
namespace Go.Proofs.Ytddenfnoajdjiaa.EndsC
open Go.RowKit SeesC RunC IntsC ExactC NumC IterC OrdMath WordMath InC WordC EndsM

/-- The row of ways, so many signs left. -/
def waysL (j n : Nat) : List Int := (List.range n).map (fun t => ((ends j t : Nat) : Int))

theorem ways_len (j n : Nat) : (waysL j n).length = n := by simp [waysL]
theorem ways_next (j n : Nat) : waysL j (n + 1) = waysL j n ++ [((ends j n : Nat) : Int)] := by unfold waysL; rw [List.range_succ, List.map_append]; rfl
theorem ways_at {j n t : Nat} (h : t < n) : (vals (waysL j n))[t]? = some (.int .i64 ((ends j t : Nat) : Int)) := by simp [waysL, h]

theorem ends_0 (j : Nat) : ends (j + 1) 0 = ends j (0 + 1) := by
  show (if 0 < 0 then ends j (0 - 1) else 0) + ends j (0 + 1) = _
  simp
theorem ends_s (j k : Nat) : ends (j + 1) (k + 1) = ends j k + ends j (k + 1 + 1) := by
  show (if 0 < k + 1 then ends j (k + 1 - 1) else 0) + ends j (k + 1 + 1) = _
  simp

set_option maxRecDepth 100000 in
set_option maxHeartbeats 4000000 in
theorem l4Ends_any (q left : Nat) (W : World) (hleft : left ≤ 14) :
    Calls Try.prog 91 #[.int .i64 q, .int .i64 left] W fun e w' => e = .returned (.int .i64 ((ends left q : Nat) : Int)) ∧ Below W.heap.size W w' := by
  obtain ⟨i0, hi, hz0, hz1, hz2⟩ := info_parts infoI
  obtain ⟨R, hR⟩ : ∃ R, ends left q = R := ⟨_, rfl⟩
  have HR := Go.Lib.hid hR
  rw [hR]
  clear hR
  go_enter Try.func91, Try.ntmps91
  go_wp2
  have ho0 : (W.alloc (.cells #[.int .i64 1] 3)).ownsRow W.heap.size 3 1 (.slice (some ⟨W.heap.size, 0, none⟩) 1 1) 1 (vals (waysL 0 1)) := block_own (ex := []) (by show (W.heap.push _)[W.heap.size]? = _; rw [Array.getElem?_push_size]; rfl) rfl rfl (Nat.le_refl _) (by unfold maxLen; omega)
  have hb0 : Below W.heap.size W (W.alloc (.cells #[.int .i64 1] 3)) := (Below.refl _ _).alloc (Nat.le_refl _) _
  go_loopw [5, 6] (fun vv iv wr => ∃ (j g c : Nat), iv = .int .i64 ((j : Int) + 1) ∧ vv = .slice (some ⟨g, 0, none⟩) (j + 1) c ∧ j ≤ left ∧ wr.ownsRow W.heap.size 3 1 (.slice (some ⟨g, 0, none⟩) (j + 1) c) (j + 1) (vals (waysL j (j + 1))) ∧ Below W.heap.size W wr) (fun _ i _ => left + 1 - (intOf i).toNat)
  case atStart => exact ⟨0, W.heap.size, 1, by first | rfl | go_num, rfl, Nat.zero_le _, ho0, hb0⟩
  case round =>
    obtain ⟨j, g, c, rfl, rfl, hj, hown, hb⟩ := hrel
    clear ho0 hb0
    by_cases hlt : j < left
    · have hjl : (j : Int) + 1 ≤ (left : Int) := by omega
      have hj14 : j ≤ 13 := by omega
      have HJ := Go.Lib.hid (And.intro hown hb)
      have HC := Go.Lib.hid (fun (t : Nat) (ht : t < j + 1) => (show wr.cell? ⟨g, t, none⟩ = some (.int .i64 ((ends j t : Nat) : Int)) by rw [hown.cellAt t (by omega)]; exact ways_at ht))
      have hg := hown.lt g rfl
      clear hown hb
      have hgl := hg.2
      go_wp2_with fail
      have hn0 := World.ownsRow_made (base := wr.heap.size) (e := 3) (size := 1) wr #[] 0 (Nat.le_refl _) (by unfold maxLen; omega) rfl
      have hnb : Below wr.heap.size wr (wr.alloc (.cells #[] 3)) := (Below.refl _ _).alloc (Nat.le_refl _) _
      obtain ⟨wl, rfl⟩ : ∃ wl, wl = wr := ⟨_, rfl⟩
      go_loopw [7, 8] (fun nv kv wk => ∃ (k g2 c2 : Nat), kv = .int .i64 k ∧ nv = .slice (some ⟨g2, 0, none⟩) k c2 ∧ k ≤ j + 2 ∧ wk.ownsRow wl.heap.size 3 1 (.slice (some ⟨g2, 0, none⟩) k c2) k (vals (waysL (j + 1) k)) ∧ Below wl.heap.size wl wk) (fun _ k _ => j + 2 - (intOf k).toNat)
      case atStart => exact ⟨0, wl.heap.size, 0, rfl, rfl, Nat.zero_le _, by simpa [waysL] using hn0, hnb⟩
      case round =>
        obtain ⟨k, g2, c2, rfl, rfl, hk, hownk, hbk⟩ := hrel
        clear hn0 hnb
        obtain ⟨wk, rfl⟩ : ∃ wk, wk = wr := ⟨_, rfl⟩
        have H2 := Go.Lib.hid (And.intro hownk hbk)
        have HCK := Go.Lib.hid (fun (t : Nat) (ht : t < j + 1) => (show wk.cell? ⟨g, t, none⟩ = some (.int .i64 ((ends j t : Nat) : Int)) from (hbk.cell (p := ⟨g, t, none⟩) hgl).trans (HC.out t ht)))
        clear hownk hbk
        by_cases hkj : k < j + 2
        · have hkji : (k : Int) ≤ (j : Int) + 1 := by omega
          obtain ⟨bb, hbb⟩ : ∃ bb, ends j (k + 1) = bb := ⟨_, rfl⟩
          have hb16 : bb ≤ 16384 := by rw [← hbb]; exact ends_16k (by omega)
          by_cases hk0 : k = 0
          · subst hk0
            have HE : Hid (ends (j + 1) 0 = bb) := Go.Lib.hid (by rw [← hbb]; exact ends_0 j)
            by_cases hb1 : 0 + 1 < j + 1
            · have hck := HCK.out (0 + 1) hb1
              rw [hbb] at hck
              have hb1i : (1 : Int) < (j : Int) + 1 := by omega
              have hck1 : wk.cell? ⟨g, 1, none⟩ = some (.int .i64 (bb : Int)) := by simpa using hck
              clear hbb hck
              go_wp2_with (at_builtin; refine wpList_append_own _ rfl _ _ 24 rfl wl.heap.size 3 i0 (.int .i64 0) 1 8 Try.underlying24 hi hz0 hz1 hz2 rfl (by decide) (.slice (some ⟨g2, 0, none⟩) (0) c2) (0) (vals (waysL (j + 1) (0))) rfl (H2.out.1.alloc _) ⟨wk.heap.size, 0, none⟩ 1 1 [.int .i64 ((bb : Int))] rfl rfl (cell_one_new _ _ _) (fun x hx => by simp at hx; subst hx; rfl) (by unfold maxLen; omega) (by omega) (by have := H2.out.2.size; simp; omega) ?_; intro v' w3 hown' hgrow3 hnil3)
              obtain ⟨g', cap', rfl⟩ := ownsRow_succ hown'
              have e1 : vals (waysL (j + 1) (0)) ++ [Value.int .i64 ((bb : Int))] = vals (waysL (j + 1) (0 + 1)) := by rw [ways_next (j + 1) (0), show ((ends (j + 1) (0) : Nat) : Int) = (bb : Int) by have := HE.out; omega]; simp
              rw [e1] at hown'
              have hb' : Below wl.heap.size wl w3 := (H2.out.2.alloc H2.out.2.size _).grown hgrow3 (by have := H2.out.2.size; simp; omega) (fun q hq => (H2.out.1.lt q hq).1)
              have H3 := Go.Lib.hid (And.intro hown' hb')
              clear hown' hgrow3 hnil3 hb' e1
              go_wp2
              go_roundw
              case rel => exact ⟨0 + 1, g', cap', by go_num, rfl, by omega, H3.out.1, H3.out.2⟩
              case measure => simp [intOf] <;> omega
            · have hbz : bb = 0 := by rw [← hbb]; exact ends_zero _ _ (by omega)
              subst hbz
              have hb1i : ¬ (1 : Int) < (j : Int) + 1 := by omega
              clear hbb
              go_wp2_with (at_builtin; refine wpList_append_own _ rfl _ _ 24 rfl wl.heap.size 3 i0 (.int .i64 0) 1 8 Try.underlying24 hi hz0 hz1 hz2 rfl (by decide) (.slice (some ⟨g2, 0, none⟩) (0) c2) (0) (vals (waysL (j + 1) (0))) rfl (H2.out.1.alloc _) ⟨wk.heap.size, 0, none⟩ 1 1 [.int .i64 (0)] rfl rfl (cell_one_new _ _ _) (fun x hx => by simp at hx; subst hx; rfl) (by unfold maxLen; omega) (by omega) (by have := H2.out.2.size; simp; omega) ?_; intro v' w3 hown' hgrow3 hnil3)
              obtain ⟨g', cap', rfl⟩ := ownsRow_succ hown'
              have e1 : vals (waysL (j + 1) (0)) ++ [Value.int .i64 (0)] = vals (waysL (j + 1) (0 + 1)) := by rw [ways_next (j + 1) (0), show ((ends (j + 1) (0) : Nat) : Int) = 0 by have := HE.out; omega]; simp
              rw [e1] at hown'
              have hb' : Below wl.heap.size wl w3 := (H2.out.2.alloc H2.out.2.size _).grown hgrow3 (by have := H2.out.2.size; simp; omega) (fun q hq => (H2.out.1.lt q hq).1)
              have H3 := Go.Lib.hid (And.intro hown' hb')
              clear hown' hgrow3 hnil3 hb' e1
              go_wp2
              go_roundw
              case rel => exact ⟨0 + 1, g', cap', by go_num, rfl, by omega, H3.out.1, H3.out.2⟩
              case measure => simp [intOf] <;> omega
          · obtain ⟨k1, rfl⟩ : ∃ k1, k = k1 + 1 := ⟨k - 1, by omega⟩
            obtain ⟨aa, haa⟩ : ∃ aa, ends j k1 = aa := ⟨_, rfl⟩
            have ha16 : aa ≤ 16384 := by rw [← haa]; exact ends_16k (by omega)
            have HE : Hid (ends (j + 1) (k1 + 1) = aa + bb) := Go.Lib.hid (by rw [← haa, ← hbb]; exact ends_s j k1)
            have hcka := HCK.out k1 (by omega)
            rw [haa] at hcka
            have q1 : IntKind.i64.wrap ((k1 : Int) + 1 - 1) = (k1 : Int) := by rw [IntWalk.i64_in _ (by omega)]; omega
            have hk1i : (k1 : Int) < (j : Int) + 1 := by omega
            by_cases hb1 : k1 + 1 + 1 < j + 1
            · have hck := HCK.out (k1 + 1 + 1) hb1
              rw [hbb] at hck
              have hb1i : (k1 : Int) + 1 + 1 < (j : Int) + 1 := by omega
              clear hbb haa
              go_wp2_with (at_builtin; refine wpList_append_own _ rfl _ _ 24 rfl wl.heap.size 3 i0 (.int .i64 0) 1 8 Try.underlying24 hi hz0 hz1 hz2 rfl (by decide) (.slice (some ⟨g2, 0, none⟩) (k1 + 1) c2) (k1 + 1) (vals (waysL (j + 1) (k1 + 1))) rfl (H2.out.1.alloc _) ⟨wk.heap.size, 0, none⟩ 1 1 [.int .i64 ((aa : Int) + (bb : Int))] rfl rfl (cell_one_new _ _ _) (fun x hx => by simp at hx; subst hx; rfl) (by unfold maxLen; omega) (by omega) (by have := H2.out.2.size; simp; omega) ?_; intro v' w3 hown' hgrow3 hnil3)
              obtain ⟨g', cap', rfl⟩ := ownsRow_succ hown'
              have e1 : vals (waysL (j + 1) (k1 + 1)) ++ [Value.int .i64 ((aa : Int) + (bb : Int))] = vals (waysL (j + 1) (k1 + 1 + 1)) := by rw [ways_next (j + 1) (k1 + 1), show ((ends (j + 1) (k1 + 1) : Nat) : Int) = (aa : Int) + (bb : Int) by have := HE.out; omega]; simp
              rw [e1] at hown'
              have hb' : Below wl.heap.size wl w3 := (H2.out.2.alloc H2.out.2.size _).grown hgrow3 (by have := H2.out.2.size; simp; omega) (fun q hq => (H2.out.1.lt q hq).1)
              have H3 := Go.Lib.hid (And.intro hown' hb')
              clear hown' hgrow3 hnil3 hb' e1
              go_wp2
              go_roundw
              case rel => exact ⟨k1 + 1 + 1, g', cap', by go_num, rfl, by omega, H3.out.1, H3.out.2⟩
              case measure => simp [intOf] <;> omega
            · have hbz : bb = 0 := by rw [← hbb]; exact ends_zero _ _ (by omega)
              subst hbz
              have hb1i : ¬ (k1 : Int) + 1 + 1 < (j : Int) + 1 := by omega
              clear hbb haa
              go_wp2_with (at_builtin; refine wpList_append_own _ rfl _ _ 24 rfl wl.heap.size 3 i0 (.int .i64 0) 1 8 Try.underlying24 hi hz0 hz1 hz2 rfl (by decide) (.slice (some ⟨g2, 0, none⟩) (k1 + 1) c2) (k1 + 1) (vals (waysL (j + 1) (k1 + 1))) rfl (H2.out.1.alloc _) ⟨wk.heap.size, 0, none⟩ 1 1 [.int .i64 ((aa : Int))] rfl rfl (cell_one_new _ _ _) (fun x hx => by simp at hx; subst hx; rfl) (by unfold maxLen; omega) (by omega) (by have := H2.out.2.size; simp; omega) ?_; intro v' w3 hown' hgrow3 hnil3)
              obtain ⟨g', cap', rfl⟩ := ownsRow_succ hown'
              have e1 : vals (waysL (j + 1) (k1 + 1)) ++ [Value.int .i64 ((aa : Int))] = vals (waysL (j + 1) (k1 + 1 + 1)) := by rw [ways_next (j + 1) (k1 + 1), show ((ends (j + 1) (k1 + 1) : Nat) : Int) = (aa : Int) by have := HE.out; omega]; simp
              rw [e1] at hown'
              have hb' : Below wl.heap.size wl w3 := (H2.out.2.alloc H2.out.2.size _).grown hgrow3 (by have := H2.out.2.size; simp; omega) (fun q hq => (H2.out.1.lt q hq).1)
              have H3 := Go.Lib.hid (And.intro hown' hb')
              clear hown' hgrow3 hnil3 hb' e1
              go_wp2
              go_roundw
              case rel => exact ⟨k1 + 1 + 1, g', cap', by go_num, rfl, by omega, H3.out.1, H3.out.2⟩
              case measure => simp [intOf] <;> omega
        · have hkn : k = j + 2 := by omega
          subst hkn
          have hkji : ¬ ((j + 2 : Nat) : Int) ≤ (j : Int) + 1 := by omega
          have hbw : Below W.heap.size W wk := HJ.out.2.trans (H2.out.2.mono HJ.out.2.size)
          have H3 := Go.Lib.hid (And.intro (own_lower H2.out.1 HJ.out.2.size) hbw)
          clear hbw
          go_wp2
          go_roundw
          case rel => exact ⟨j + 1, g2, c2, by go_num, rfl, by omega, H3.out.1, H3.out.2⟩
          case measure => simp [intOf] <;> omega
    · have hjl : j = left := by omega
      subst hjl
      have hck := fun (h : q < j + 1) => (show wr.cell? ⟨g, q, none⟩ = some (.int .i64 ((ends j q : Nat) : Int)) by rw [hown.cellAt q (by omega)]; exact ways_at h)
      rw [HR.out] at hck
      have HB := Go.Lib.hid hb
      clear hown hb
      by_cases hqj : q < j + 1
      · have hckq := hck hqj
        have hqi : ¬ (j : Int) + 1 ≤ (q : Int) := by omega
        have hqi2 : (q : Int) < (j : Int) + 1 := by omega
        clear hck
        go_wp2
        go_ret
        exact ⟨rfl, HB.out⟩
      · have hqi : (j : Int) + 1 ≤ (q : Int) := by omega
        have HZ : Hid (R = 0) := Go.Lib.hid (by rw [← HR.out]; exact ends_zero _ _ (by omega))
        clear hck
        go_wp2
        go_ret
        exact ⟨by rw [HZ.out]; rfl, HB.out⟩

end Go.Proofs.Ytddenfnoajdjiaa.EndsC
