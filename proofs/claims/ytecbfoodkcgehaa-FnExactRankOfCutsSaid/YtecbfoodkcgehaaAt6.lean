/-
  Contracts: the model's l6At; CutsAt of the model and of the program. Conditions: none beyond those named.
-/
import Derived.Test.YtecbfoodkcgehaaShl
namespace Go.Proofs.Ytecbfoodkcgehaa.At6C
open Go.RowKit SeesC IntsC ExactC OrdMath InC CutsM CutAtM ShlC

theorem inC_yes {m fu k f p : Nat} {P : Nat × Nat} (h : inC m (fu + 1) k f = P) (h1 : f < m) (h2 : 2 ^ (m - f - 1) = p) (h3 : p ≤ k) : inC m fu (k - p) (f + 1) = P := by
  rw [← h]
  show _ = (if f < m ∧ 2 ^ (m - f - 1) ≤ k then inC m fu (k - 2 ^ (m - f - 1)) (f + 1) else (k, f))
  rw [h2, if_pos ⟨h1, h3⟩]

theorem inC_no {m fu k f : Nat} (h : ¬ (f < m ∧ 2 ^ (m - f - 1) ≤ k)) : inC m fu k f = (k, f) := by
  cases fu with
  | zero => rfl
  | succ fu => show (if f < m ∧ 2 ^ (m - f - 1) ≤ k then _ else (k, f)) = _; rw [if_neg h]

theorem atS_go {g m k : Nat} (h : 0 < m) : atS (g + 1) m k = ((inC m m k 1).2 : Int) :: atS g (m - (inC m m k 1).2) (inC m m k 1).1 := by
  show (if m = 0 then [] else _) = _
  rw [if_neg (by omega)]

theorem atS_end {g k : Nat} : atS g 0 k = [] := by
  cases g <;> rfl

set_option maxRecDepth 100000 in
set_option maxHeartbeats 2000000 in
theorem l6At_any (n k : Nat) (h1 : 1 ≤ n) (h7 : n ≤ 7) (hk : k < 2 ^ (n - 1)) (W : World) :
    Calls Try.prog 91 #[.int .i64 (n : Int), .int .i64 (k : Int)] W fun e w' => ∃ g c N, e = .returned (.slice (some ⟨g, 0, none⟩) N c) ∧ N = (atC n k).length ∧ w'.ownsRow W.heap.size 3 1 (.slice (some ⟨g, 0, none⟩) N c) N (vals (atC n k)) ∧ Below W.heap.size W w' := by
  obtain ⟨i0, hi, hz0, hz1, hz2⟩ := info_parts infoI
  have hR0 : atS n n k = atC n k := by rw [at_eq n (by omega) k hk, if_neg (by omega)]
  have hk64 : k < 64 := Nat.lt_of_lt_of_le hk (Nat.pow_le_pow_right (n := 2) (by omega) (show n - 1 ≤ 6 by omega))
  obtain ⟨R, hR⟩ : ∃ R, atC n k = R := ⟨_, rfl⟩
  rw [hR] at hR0 ⊢
  have HR := Go.Lib.hid hR0
  have ho1 := Go.Lib.hid (World.ownsRow_made (base := W.heap.size) (e := 3) (size := 1) W #[] 0 (Nat.le_refl _) (by unfold maxLen; omega) rfl)
  have hb0 := Go.Lib.hid ((Below.refl W.heap.size W).alloc (Nat.le_refl _) (.cells #[] 3))
  clear hR hR0 hk
  go_enter Try.func91, Try.ntmps91
  go_wp2
  go_loopw [0, 1, 5, 6] (fun nv kv ov fv wr => ∃ (gf m kk N g c : Nat) (L : List Int), nv = .int .i64 (m : Int) ∧ kv = .int .i64 (kk : Int) ∧ ov = .slice (some ⟨g, 0, none⟩) N c ∧ fv = .int .i64 1 ∧ m ≤ gf ∧ N + m ≤ 7 ∧ kk < 64 ∧ Hid (L ++ atS gf m kk = R ∧ L.length = N ∧ wr.ownsRow W.heap.size 3 1 (.slice (some ⟨g, 0, none⟩) N c) N (vals L) ∧ Below W.heap.size W wr)) (fun n _ _ _ _ => (intOf n).toNat)
  case atStart => exact ⟨n, n, k, 0, _, _, [], rfl, rfl, rfl, rfl, Nat.le_refl _, by omega, hk64, Go.Lib.hid ⟨HR.out, rfl, ho1.out, hb0.out⟩⟩
  case round =>
    obtain ⟨gf0, m, k0, N, g, c, L, rfl, rfl, rfl, rfl, hmg, hNm, hk0, HQ⟩ := hrel
    clear ho1 hb0
    by_cases hm : 0 < m
    · obtain ⟨gf, rfl⟩ : ∃ gf, gf0 = gf + 1 := ⟨gf0 - 1, by omega⟩
      obtain ⟨wo, rfl⟩ : ∃ wo, wo = wr := ⟨_, rfl⟩
      obtain ⟨P, hP⟩ : ∃ P, inC m m k0 1 = P := ⟨_, rfl⟩
      have HO : Hid (L ++ atS (gf + 1) m k0 = R ∧ L.length = N ∧ wo.ownsRow W.heap.size 3 1 (.slice (some ⟨g, 0, none⟩) N c) N (vals L) ∧ Below W.heap.size W wo) := Go.Lib.hid HQ.out
      have HP : Hid (atS (gf + 1) m k0 = (P.2 : Int) :: atS gf (m - P.2) P.1) := Go.Lib.hid (by rw [atS_go hm, hP])
      have HIN : Hid (inC m m k0 1 = P) := Go.Lib.hid hP
      clear hP HQ
      go_wp2_with fail
      go_loopw [1, 6] (fun kv fv wr => ∃ (fu kk f : Nat), kv = .int .i64 (kk : Int) ∧ fv = .int .i64 (f : Int) ∧ 1 ≤ f ∧ f ≤ m ∧ f + fu = m + 1 ∧ kk < 64 ∧ wo = wr ∧ Hid (inC m fu kk f = P ∧ True)) (fun _ f _ => m - (intOf f).toNat)
      case atStart => exact ⟨m, k0, 1, rfl, rfl, Nat.le_refl _, hm, by omega, hk0, rfl, Go.Lib.hid ⟨HIN.out, trivial⟩⟩
      case round =>
        obtain ⟨fu0, kk, f, rfl, rfl, hf1, hfm, hfu, hkk, rfl, HI⟩ := hrel
        obtain ⟨fu, rfl⟩ : ∃ fu, fu0 = fu + 1 := ⟨fu0 - 1, by omega⟩
        by_cases hlt : f < m
        · obtain ⟨d, hd⟩ : ∃ d, m - f - 1 = d := ⟨_, rfl⟩
          obtain ⟨p, hp⟩ : ∃ p, 2 ^ d = p := ⟨_, rfl⟩
          have hw := wrap_pow (d := d) (by omega)
          rw [hp] at hw
          have hmin : min d 64 = d := by omega
          have hy : (m : Int) - (f : Int) - 1 = (d : Int) := by omega
          have hd0 : (0 : Int) ≤ (d : Int) := by omega
          have hp1 : 1 ≤ p := by rw [← hp]; exact Nat.two_pow_pos d
          have hlti : (f : Int) < (m : Int) := by omega
          have HD := Go.Lib.hid (And.intro hd hp)
          clear hd hp
          by_cases hpk : p ≤ kk
          · have hpki : (p : Int) ≤ (kk : Int) := by omega
            have HN : Hid (inC m fu (kk - p) (f + 1) = P ∧ True) := Go.Lib.hid ⟨inC_yes HI.out.1 hlt (by rw [HD.out.1]; exact HD.out.2) hpk, trivial⟩
            go_wp2
            go_roundw
            case rel => exact ⟨fu, kk - p, f + 1, by first | rfl | (apply congrArg (Value.int .i64); omega), by go_num, by omega, by omega, by omega, by omega, by first | rfl | trivial, HN⟩
            case measure => simp [intOf]; omega
          · have hpki : ¬ ((p : Int) ≤ (kk : Int)) := by omega
            have HP2 : Hid (P = (kk, f)) := Go.Lib.hid (by rw [← HI.out.1]; exact inC_no (fun h => by have h2 := h.2; rw [HD.out.1, HD.out.2] at h2; omega))
            have HNX : Hid ((L ++ [(f : Int)]) ++ atS gf (m - f) kk = R) := Go.Lib.hid (by rw [← HO.out.1, HP.out, HP2.out]; simp)
            go_wp2_with (at_builtin; refine wpList_append_own _ rfl _ _ 24 rfl W.heap.size 3 i0 (.int .i64 0) 1 8 Try.underlying24 hi hz0 hz1 hz2 rfl (by decide) (.slice (some ⟨g, 0, none⟩) N c) N (vals L) rfl (HO.out.2.2.1.alloc _) ⟨wo.heap.size, 0, none⟩ 1 1 [.int .i64 (f : Int)] rfl rfl (cell_one_new _ _ _) (fun x hx => by simp at hx; subst hx; rfl) (by unfold maxLen; omega) (by omega) (by have := HO.out.2.2.2.size; simp; omega) ?_; intro v' w3 hown3 hgrow3 hnil3)
            obtain ⟨g3, c3, rfl⟩ := ownsRow_succ hown3
            have H3 : Hid ((L ++ [(f : Int)]) ++ atS gf (m - f) kk = R ∧ (L ++ [(f : Int)]).length = N + 1 ∧ w3.ownsRow W.heap.size 3 1 (.slice (some ⟨g3, 0, none⟩) (N + 1) c3) (N + 1) (vals (L ++ [(f : Int)])) ∧ Below W.heap.size W w3) := Go.Lib.hid
              ⟨HNX.out, by simp [HO.out.2.1], by have h := hown3; simp only [vals, List.map_append] at h ⊢; exact h, (HO.out.2.2.2.alloc HO.out.2.2.2.size _).grown hgrow3 (by have := HO.out.2.2.2.size; simp; omega) (fun q hq => (HO.out.2.2.1.lt q hq).1)⟩
            clear hown3 hgrow3 hnil3
            go_wp2
            go_roundw
            case rel => exact ⟨gf, m - f, kk, N + 1, g3, c3, L ++ [(f : Int)], by first | rfl | (apply congrArg (Value.int .i64); omega), rfl, rfl, rfl, by omega, by omega, by omega, H3⟩
            case measure => simp [intOf]; omega
        · have hlti : ¬ ((f : Int) < (m : Int)) := by omega
          have HP2 : Hid (P = (kk, f)) := Go.Lib.hid (by rw [← HI.out.1]; exact inC_no (fun h => hlt h.1))
          have HNX : Hid ((L ++ [(f : Int)]) ++ atS gf (m - f) kk = R) := Go.Lib.hid (by rw [← HO.out.1, HP.out, HP2.out]; simp)
          go_wp2_with (at_builtin; refine wpList_append_own _ rfl _ _ 24 rfl W.heap.size 3 i0 (.int .i64 0) 1 8 Try.underlying24 hi hz0 hz1 hz2 rfl (by decide) (.slice (some ⟨g, 0, none⟩) N c) N (vals L) rfl (HO.out.2.2.1.alloc _) ⟨wo.heap.size, 0, none⟩ 1 1 [.int .i64 (f : Int)] rfl rfl (cell_one_new _ _ _) (fun x hx => by simp at hx; subst hx; rfl) (by unfold maxLen; omega) (by omega) (by have := HO.out.2.2.2.size; simp; omega) ?_; intro v' w3 hown3 hgrow3 hnil3)
          obtain ⟨g3, c3, rfl⟩ := ownsRow_succ hown3
          have H3 : Hid ((L ++ [(f : Int)]) ++ atS gf (m - f) kk = R ∧ (L ++ [(f : Int)]).length = N + 1 ∧ w3.ownsRow W.heap.size 3 1 (.slice (some ⟨g3, 0, none⟩) (N + 1) c3) (N + 1) (vals (L ++ [(f : Int)])) ∧ Below W.heap.size W w3) := Go.Lib.hid
            ⟨HNX.out, by simp [HO.out.2.1], by have h := hown3; simp only [vals, List.map_append] at h ⊢; exact h, (HO.out.2.2.2.alloc HO.out.2.2.2.size _).grown hgrow3 (by have := HO.out.2.2.2.size; simp; omega) (fun q hq => (HO.out.2.2.1.lt q hq).1)⟩
          clear hown3 hgrow3 hnil3
          go_wp2
          go_roundw
          case rel => exact ⟨gf, m - f, kk, N + 1, g3, c3, L ++ [(f : Int)], by first | rfl | (apply congrArg (Value.int .i64); omega), rfl, rfl, rfl, by omega, by omega, by omega, H3⟩
          case measure => simp [intOf]; omega
    · have hm0 : m = 0 := by omega
      subst hm0
      have HF : Hid (R = L) := Go.Lib.hid (by rw [← HQ.out.1, atS_end, List.append_nil])
      go_wp2
      go_ret
      exact ⟨g, c, N, rfl, by rw [HF.out, HQ.out.2.1], by rw [HF.out]; exact HQ.out.2.2.1, HQ.out.2.2.2⟩

set_option maxRecDepth 100000 in
set_option maxHeartbeats 1000000 in
theorem specCutsAt (n k : Int) (xs : List Int) (b : Bool) (h : atCAns n k = (xs, b)) (_h0 : (Lit.int .i64 n).wf = true) (_h1 : (Lit.int .i64 k).wf = true) (W : World) :
    Calls Try.prog 32 #[.int .i64 n, .int .i64 k] W fun e w' => ListTo W e w' xs b := by
  unfold atCAns at h
  obtain ⟨q, hq⟩ : ∃ q, decide (1 ≤ n ∧ n ≤ 7) = q := ⟨_, rfl⟩
  have C1 := Go.Lib.hid (fun W' => l1In_any n 1 7 W' q hq)
  cases q with
  | false =>
    rw [if_neg (fun h => (of_decide_eq_false hq) ⟨h.1, h.2.1⟩)] at h
    cases h
    clear hq
    go_enter Try.func32, Try.ntmps32
    go_wp2_with fail
    refine (C1.out _).mono ?_
    rintro e wq ⟨rfl, hwq⟩
    obtain rfl : W = wq := hwq
    go_wp2_with fail
    go_ret2
    exact listTo_none _ _
  | true =>
    have hn := of_decide_eq_true hq
    obtain ⟨m, rfl⟩ : ∃ m : Nat, n = ((m + 1 : Nat) : Int) := ⟨(n - 1).toNat, by omega⟩
    obtain ⟨p, hp⟩ : ∃ p, 2 ^ m = p := ⟨_, rfl⟩
    have hp64 : p ≤ 64 := by rw [← hp]; exact Nat.pow_le_pow_right (n := 2) (by omega) (show m ≤ 6 by omega)
    have hp1 : 1 ≤ p := by rw [← hp]; exact Nat.two_pow_pos m
    have hw := wrap_pow (d := m) (by omega)
    rw [hp] at hw
    have hmin : min m 64 = m := by omega
    have hm7 : m + 1 ≤ 7 := by omega
    obtain ⟨q2, hq2⟩ : ∃ q, decide (0 ≤ k ∧ k ≤ (p : Int) - 1) = q := ⟨_, rfl⟩
    have C2 := Go.Lib.hid (fun W' => l1In_any k 0 ((p : Int) - 1) W' q2 hq2)
    rw [Int.toNat_natCast, Nat.add_sub_cancel, hp] at h
    cases q2 with
    | false =>
      rw [if_neg (fun h => (of_decide_eq_false hq2) ⟨h.2.2.1, by omega⟩)] at h
      cases h
      clear hq hq2 hn hp
      go_enter Try.func32, Try.ntmps32
      go_wp2_with fail
      refine (C1.out _).mono ?_
      rintro e wq ⟨rfl, hwq⟩
      obtain rfl : W = wq := hwq
      go_wp2_with fail
      refine (C2.out _).mono ?_
      rintro e wq ⟨rfl, hwq⟩
      obtain rfl : W = wq := hwq
      go_wp2_with fail
      go_ret2
      exact listTo_none _ _
    | true =>
      have hk := of_decide_eq_true hq2
      obtain ⟨kk, rfl⟩ : ∃ kk : Nat, k = (kk : Int) := ⟨k.toNat, by omega⟩
      rw [if_pos ⟨hn.1, hn.2, hk.1, by omega⟩, Int.toNat_natCast] at h
      cases h
      have C3 := Go.Lib.hid (l6At_any (m + 1) kk (by omega) hm7 (by rw [Nat.add_sub_cancel, hp]; omega) W)
      obtain ⟨L, hL⟩ : ∃ L, atC (m + 1) kk = L := ⟨_, rfl⟩
      rw [hL] at C3 ⊢
      clear hL hq hq2 hn hp hk
      go_enter Try.func32, Try.ntmps32
      go_wp2_with fail
      refine (C1.out _).mono ?_
      rintro e wq ⟨rfl, hwq⟩
      obtain rfl : W = wq := hwq
      go_wp2_with fail
      refine (C2.out _).mono ?_
      rintro e wq ⟨rfl, hwq⟩
      obtain rfl : W = wq := hwq
      go_wp2_with fail
      refine (C3.out).mono ?_
      rintro e w3 ⟨g, c, N, rfl, hN, ho, hb⟩
      have H3 := Go.Lib.hid (And.intro hN (And.intro ho hb))
      clear hN ho hb
      go_wp2_with fail
      go_ret2
      exact ⟨_, rfl, by rw [← H3.out.1]; exact H3.out.2.1, H3.out.2.2⟩

set_option maxRecDepth 100000 in
set_option maxHeartbeats 1000000 in
theorem implCutsAt (n k : Int) (xs : List Int) (b : Bool) (h : atCAns n k = (xs, b)) (_h0 : (Lit.int .i64 n).wf = true) (_h1 : (Lit.int .i64 k).wf = true) (W : World) :
    Calls Try.prog 31 #[.int .i64 n, .int .i64 k] W fun e w' => ListTo W e w' xs b := by
  unfold atCAns at h
  by_cases h1 : n < 1
  · rw [if_neg (fun h => by omega)] at h
    cases h
    go_enter Try.func31, Try.ntmps31
    go_wp2_with fail
    go_ret2
    exact listTo_none _ _
  · by_cases h7 : 7 < n
    · rw [if_neg (fun h => by omega)] at h
      cases h
      go_enter Try.func31, Try.ntmps31
      go_wp2_with fail
      go_ret2
      exact listTo_none _ _
    · obtain ⟨m, rfl⟩ : ∃ m : Nat, n = (m : Int) := ⟨n.toNat, by omega⟩
      obtain ⟨p, hp⟩ : ∃ p, 2 ^ (m - 1) = p := ⟨_, rfl⟩
      have hp64 : p ≤ 64 := by rw [← hp]; exact Nat.pow_le_pow_right (n := 2) (by omega) (show m - 1 ≤ 6 by omega)
      have C2 := Go.Lib.hid (countCuts_any m p (by omega) (by omega) hp W)
      rw [Int.toNat_natCast, hp] at h
      by_cases h0 : k < 0
      · rw [if_neg (fun h => by omega)] at h
        cases h
        clear hp
        go_enter Try.func31, Try.ntmps31
        go_wp2_with fail
        go_ret2
        exact listTo_none _ _
      · obtain ⟨kk, rfl⟩ : ∃ kk : Nat, k = (kk : Int) := ⟨k.toNat, by omega⟩
        by_cases hk : kk < p
        · rw [if_pos ⟨by omega, by omega, by omega, by omega⟩, Int.toNat_natCast] at h
          cases h
          have C3 := Go.Lib.hid (cutsAt_any m kk (by omega) (by omega) (by omega) W)
          obtain ⟨L, hL⟩ : ∃ L, atC m kk = L := ⟨_, rfl⟩
          rw [hL] at C3 ⊢
          have hki : (kk : Int) < (p : Int) := by omega
          clear hL hp
          go_enter Try.func31, Try.ntmps31
          go_wp2_with fail
          refine (C2.out).mono ?_
          rintro e wq ⟨rfl, hwq⟩
          obtain rfl : W = wq := hwq
          go_wp2_with fail
          refine (C3.out).mono ?_
          rintro e w3 ⟨g, c, N, rfl, hN, ho, hb⟩
          have H3 := Go.Lib.hid (And.intro hN (And.intro ho hb))
          clear hN ho hb
          go_wp2_with fail
          go_ret2
          exact ⟨_, rfl, by rw [← H3.out.1]; exact H3.out.2.1, H3.out.2.2⟩
        · rw [if_neg (fun h => by omega)] at h
          cases h
          have hki : ¬ (kk : Int) < (p : Int) := by omega
          clear hp
          go_enter Try.func31, Try.ntmps31
          go_wp2_with fail
          refine (C2.out).mono ?_
          rintro e wq ⟨rfl, hwq⟩
          obtain rfl : W = wq := hwq
          go_wp2_with fail
          go_ret2
          exact listTo_none _ _

end Go.Proofs.Ytecbfoodkcgehaa.At6C
