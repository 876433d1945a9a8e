/-
  Contract: the program counts cuts. Conditions: n in 1..7.
-/
import Derived.Test.YtecbfoodkcgehaaCutAtM
import Derived.Test.YtecbfoodkcgehaaCutsI
import Derived.IntWalk
namespace Go.Proofs.Ytecbfoodkcgehaa.ShlC
open Go.RowKit SeesC IntsC ExactC OrdMath CutsM CutAtM

theorem wrap_pow {d : Nat} (h : d ≤ 20) : IntKind.i64.wrap (2 ^ d) = ((2 ^ d : Nat) : Int) := by
  have h1 : 2 ^ d ≤ 2 ^ 20 := Nat.pow_le_pow_right (by omega) h
  have h2 : ((2 : Int) ^ d) = ((2 ^ d : Nat) : Int) := by simp
  rw [h2]
  generalize 2 ^ d = P at h1
  exact IntWalk.i64_in _ (by omega)

set_option maxRecDepth 100000 in
theorem countCuts_any (n p : Nat) (h1 : 1 ≤ n) (h7 : n ≤ 7) (hp : 2 ^ (n - 1) = p) (W : World) :
    Calls Try.prog 88 #[.int .i64 (n : Int)] W fun e w' => e = .returned (.int .i64 (p : Int)) ∧ W = w' := by
  obtain ⟨d, rfl⟩ : ∃ d, n = d + 1 := ⟨n - 1, by omega⟩
  rw [Nat.add_sub_cancel] at hp
  have hw := wrap_pow (d := d) (by omega)
  rw [hp] at hw
  have hmin : min d 64 = d := by omega
  clear hp
  go_enter Try.func88, Try.ntmps88
  go_wp2_with fail
  go_ret
  exact ⟨rfl, rfl⟩

/-- What the program asks of a bit. -/
theorem bit_all : ∀ b : Nat, b < 6 → ∀ k : Nat, k < 64 → (bits .and .i64 ((k : Int) / 2 ^ b) 1 == 0) = decide (k / 2 ^ b % 2 = 0) := by decide +kernel

theorem atB_next {k d : Nat} {L R : List Int} (h : atB k (d + 1) L = R) : atB k d (if k / 2 ^ d % 2 = 0 then L ++ [1] else bump L) = R := by
  rw [← h]
  show _ = atB k d (bump (if k / 2 ^ d % 2 = 0 then L ++ [0] else L))
  split
  · rw [bump_snoc]; rfl
  · rfl

set_option maxRecDepth 100000 in
set_option maxHeartbeats 1000000 in
theorem cutsAt_any (n k : Nat) (h1 : 1 ≤ n) (h7 : n ≤ 7) (hk : k < 64) (W : World) :
    Calls Try.prog 89 #[.int .i64 (n : Int), .int .i64 (k : Int)] W fun e w' => ∃ g c N, e = .returned (.slice (some ⟨g, 0, none⟩) N c) ∧ N = (atC n k).length ∧ w'.ownsRow W.heap.size 3 1 (.slice (some ⟨g, 0, none⟩) N c) N (vals (atC n k)) ∧ Below W.heap.size W w' := by
  obtain ⟨i0, hi, hz0, hz1, hz2⟩ := info_parts infoI
  have HR : Hid (atB k (n - 1) [1] = atC n k) := Go.Lib.hid rfl
  have HO : Hid ((W.alloc (.cells #[.int .i64 1] 3)).ownsRow W.heap.size 3 1 (.slice (some ⟨W.heap.size, 0, none⟩) 1 1) 1 (vals [1]) ∧ Below W.heap.size W (W.alloc (.cells #[.int .i64 1] 3))) := Go.Lib.hid
    ⟨World.ownsRow_lit (base := W.heap.size) (e := 3) (size := 1) W #[.int .i64 1] 1 (Nat.le_refl _) (by unfold maxLen; omega) rfl, (Below.refl W.heap.size W).alloc (Nat.le_refl _) _⟩
  obtain ⟨R, hR⟩ : ∃ R, atC n k = R := ⟨_, rfl⟩
  rw [hR] at HR ⊢
  clear hR
  go_enter Try.func89, Try.ntmps89
  go_wp2
  go_loopw [5, 6] (fun ov bv wr => ∃ (b N g c : Nat) (L : List Int), b + 1 ≤ n ∧ 1 ≤ N ∧ N ≤ n - b ∧ bv = .int .i64 ((b : Int) - 1) ∧ ov = .slice (some ⟨g, 0, none⟩) N c ∧ Hid (atB k b L = R ∧ L.length = N ∧ (∀ x ∈ L, 0 ≤ x ∧ x ≤ (n : Int) - b) ∧ wr.ownsRow W.heap.size 3 1 (.slice (some ⟨g, 0, none⟩) N c) N (vals L) ∧ Below W.heap.size W wr)) (fun _ b _ => (intOf b + 1).toNat)
  case atStart => exact ⟨n - 1, 1, W.heap.size, 1, [1], by omega, by omega, by omega, by go_num, rfl, Go.Lib.hid ⟨HR.out, rfl, by simp; omega, HO.out.1, HO.out.2⟩⟩
  case round =>
    obtain ⟨b, N, g, c, L, hb, hN1, hNb, rfl, rfl, HQ⟩ := hrel
    clear HO
    by_cases hb0 : b = 0
    · subst hb0
      have HF : Hid (R = L) := Go.Lib.hid HQ.out.1.symm
      go_wp2
      go_ret
      exact ⟨g, c, N, rfl, by rw [HF.out, HQ.out.2.1], by rw [HF.out]; exact HQ.out.2.2.2.1, HQ.out.2.2.2.2⟩
    · obtain ⟨d, rfl⟩ : ∃ d, b = d + 1 := ⟨b - 1, by omega⟩
      obtain ⟨wr, rfl⟩ : ∃ wq, wq = wr := ⟨_, rfl⟩
      have e0 : ((d + 1 : Nat) : Int) - 1 = (d : Int) := by omega
      rw [e0]
      have hmin : min d 64 = d := by omega
      have hbit := bit_all d (by omega) k hk
      have hnx := atB_next HQ.out.1
      have hd0 : (0 : Int) ≤ (d : Int) := by omega
      have HLR := Go.Lib.hid HQ.out.2.2.1
      by_cases hq : k / 2 ^ d % 2 = 0
      · rw [decide_eq_true hq] at hbit
        rw [if_pos hq] at hnx
        have HN := Go.Lib.hid hnx
        have HEL : Hid (∀ x ∈ L ++ [1], 0 ≤ x ∧ x ≤ (n : Int) - d) := Go.Lib.hid (fun x hx => by
          rcases List.mem_append.1 hx with hx | hx
          · have := HLR.out x hx; omega
          · simp at hx; omega)
        clear hq hnx e0
        go_wp2_with (at_builtin; refine wpList_append_own _ rfl _ _ 24 rfl W.heap.size 3 i0 (.int .i64 0) 1 8 Try.underlying24 hi hz0 hz1 hz2 rfl (by decide) (.slice (some ⟨g, 0, none⟩) N c) N (vals L) rfl (HQ.out.2.2.2.1.alloc _) ⟨wr.heap.size, 0, none⟩ 1 1 [.int .i64 0] rfl rfl (cell_one_new _ _ _) (fun x hx => by simp at hx; subst hx; rfl) (by unfold maxLen; omega) (by omega) (by have := HQ.out.2.2.2.2.size; simp; omega) ?_; intro v' w3 hown3 hgrow3 hnil3; obtain ⟨g3, c3, rfl⟩ := ownsRow_succ hown3; have hcq : w3.cell? ⟨g3, N, none⟩ = some (.int .i64 0) := (by rw [hown3.cellAt N (by omega)]; have := HQ.out.2.1; simp [this]); have hf := hown3.frozenAt N; have hst3 := hown3.stored N (.int .i64 1); have H3 : Hid (atB k d (L ++ [1]) = R ∧ (L ++ [1]).length = N + 1 ∧ (∀ x ∈ L ++ [1], 0 ≤ x ∧ x ≤ (n : Int) - d) ∧ (w3.setCell ⟨g3, N, none⟩ (.int .i64 1)).ownsRow W.heap.size 3 1 (.slice (some ⟨g3, 0, none⟩) (N + 1) c3) (N + 1) (vals (L ++ [1])) ∧ Below W.heap.size W (w3.setCell ⟨g3, N, none⟩ (.int .i64 1))) := Go.Lib.hid ⟨HN.out, by simp [HQ.out.2.1], HEL.out, by have h := hst3.1; have e : (vals L ++ [Value.int .i64 0]).set N (.int .i64 1) = vals (L ++ [1]) := (by have := HQ.out.2.1; subst this; simp [vals, List.set_append_right]); rw [e] at h; exact h, ((HQ.out.2.2.2.2.alloc HQ.out.2.2.2.2.size _).grown hgrow3 (by have := HQ.out.2.2.2.2.size; simp; omega) (fun q hq => (HQ.out.2.2.2.1.lt q hq).1)).setCell (p := ⟨g3, N, none⟩) (hown3.lt g3 rfl).1 _⟩; clear hown3 hgrow3 hnil3 hst3)
        go_roundw
        case rel => exact ⟨d, N + 1, g3, c3, L ++ [1], by omega, by omega, by omega, by first | rfl | go_num, rfl, H3⟩
        case measure => simp [intOf] <;> omega
      · rw [decide_eq_false hq] at hbit
        rw [if_neg hq] at hnx
        have HN := Go.Lib.hid hnx
        obtain ⟨aL, c0, hL⟩ := snoc_of (l := L) (by have := HQ.out.2.1; omega)
        have hLl : aL.length + 1 = N := by rw [← HQ.out.2.1, hL]; simp
        obtain ⟨q, rfl⟩ : ∃ q, N = q + 1 := ⟨aL.length, hLl.symm⟩
        have hcq : wr.cell? ⟨g, q, none⟩ = some (.int .i64 c0) := by
          have h := (own_cells HQ.out.2.2.2.1).1 q (by have := HQ.out.2.1; omega)
          rw [Nat.zero_add] at h
          rw [h, hL]
          congr 2
          have e : q = aL.length := by omega
          subst e
          simp
        have hf := HQ.out.2.2.2.1.frozenAt q
        have hcb := HLR.out c0 (by rw [hL]; simp)
        obtain ⟨hc01, hc07⟩ := hcb
        have H3 : Hid (atB k d (bump L) = R ∧ (bump L).length = q + 1 ∧ (∀ x ∈ bump L, 0 ≤ x ∧ x ≤ (n : Int) - d) ∧ (wr.setCell ⟨g, q, none⟩ (.int .i64 (c0 + 1))).ownsRow W.heap.size 3 1 (.slice (some ⟨g, 0, none⟩) (q + 1) c) (q + 1) (vals (bump L)) ∧ Below W.heap.size W (wr.setCell ⟨g, q, none⟩ (.int .i64 (c0 + 1)))) := Go.Lib.hid (by
          have hst := HQ.out.2.2.2.1.stored q (.int .i64 (c0 + 1))
          refine ⟨HN.out, by rw [bump_len]; exact HQ.out.2.1, ?_, ?_, HQ.out.2.2.2.2.setCell (p := ⟨g, q, none⟩) (HQ.out.2.2.2.1.lt g rfl).1 _⟩
          · intro x hx
            rw [hL, bump_snoc] at hx
            rcases List.mem_append.1 hx with hx | hx
            · have := HLR.out x (by rw [hL]; simp [hx]); omega
            · simp at hx; omega
          · have e : (vals L).set q (.int .i64 (c0 + 1)) = vals (bump L) := by
              rw [hL, bump_snoc]
              have e2 : q = aL.length := by omega
              subst e2
              simp [vals, List.set_append_right]
            rw [← e]
            exact hst.1)
        have hqi : (q : Int) < (q : Int) + 1 := by omega
        clear hL hLl hq hnx e0
        go_wp2
        go_roundw
        case rel => exact ⟨d, q + 1, g, c, bump L, by omega, by omega, by omega, by first | rfl | go_num, rfl, H3⟩
        case measure => simp [intOf] <;> omega

end Go.Proofs.Ytecbfoodkcgehaa.ShlC
