/-
  Contracts: how many orders there are of so many numbers, how many numbers behind a place are less, the rank of an order and its inversions. Conditions: at most 7 numbers where orders are counted; lists of at most 2^20 numbers.
-/
import Derived.Test.YtpkjnlabjmpokaaPx12

namespace Go.Proofs.Ytpkjnlabjmpokaa.RankC
open Go.RowKit SeesC IntsC ExactC OrdMath OrderC 

set_option maxRecDepth 100000 in
theorem l2Ways_any (n : Nat) (W : World) (hn : n ≤ 7) :
    Calls Try.prog 107 #[.int .i64 n] W fun e w' => e = .returned (.int .i64 (fact n : Nat)) ∧ W = w' := by
  go_enter Try.func107, Try.ntmps107
  go_wp2
  go_loop [3, 4] (fun cv fv => ∃ (f q : Nat), 2 ≤ f ∧ (f = 2 ∨ f ≤ n + 1) ∧ fv = .int .i64 f ∧ cv = .int .i64 q ∧ Hid (q = fact (f - 1))) (fun _ f => (n + 1 - intOf f).toNat)
  case atStart => exact ⟨2, 1, Nat.le_refl _, .inl rfl, rfl, rfl, Go.Lib.hid rfl⟩
  case round =>
    obtain ⟨f, q, h2, hf, rfl, rfl, HQ⟩ := hrel
    by_cases hlt : f ≤ n
    · have HN : Hid (q * f = fact (f + 1 - 1)) := Go.Lib.hid (by
        obtain ⟨j, rfl⟩ : ∃ j, f = j + 1 := ⟨f - 1, by omega⟩
        rw [HQ.out]; simp [fact, Nat.mul_comm])
      obtain ⟨r, hr⟩ : ∃ r, q * f = r := ⟨_, rfl⟩
      have hr7 : r ≤ 5040 := by rw [← hr, HN.out]; exact fact_7 (by omega)
      have hp : (q : Int) * (f : Int) = (r : Int) := by rw [← hr]; simp
      have hlti : (f : Int) ≤ (n : Int) := by omega
      rw [hr] at HN
      clear hr
      go_wp2
      go_round
      case rel => exact ⟨f + 1, r, by omega, by omega, by go_num, rfl, HN⟩
      case measure => simp [intOf]; omega
    · have HR : Hid (q = fact n) := Go.Lib.hid (by
        rw [HQ.out]
        by_cases h0 : n = 0
        · subst h0; have : f = 2 := by omega
          subst this; rfl
        · by_cases h1 : f = 2
          · subst h1; have : n = 1 := by omega
            subst this; rfl
          · have : f - 1 = n := by omega
            rw [this])
      go_wp2
      go_ret
      exact ⟨by rw [← HR.out]; rfl, rfl⟩

set_option maxRecDepth 100000 in
theorem countOrders_any (n : Nat) (W : World) (hn : n ≤ 7) :
    Calls Try.prog 137 #[.int .i64 n] W fun e w' => e = .returned (.int .i64 (fact n : Nat)) ∧ W = w' := by
  go_enter Try.func137, Try.ntmps137
  go_wp2
  go_loop [3, 4] (fun cv fv => ∃ (f q : Nat), 2 ≤ f ∧ (f = 2 ∨ f ≤ n + 1) ∧ fv = .int .i64 f ∧ cv = .int .i64 q ∧ Hid (q = fact (f - 1))) (fun _ f => (n + 1 - intOf f).toNat)
  case atStart => exact ⟨2, 1, Nat.le_refl _, .inl rfl, rfl, rfl, Go.Lib.hid rfl⟩
  case round =>
    obtain ⟨f, q, h2, hf, rfl, rfl, HQ⟩ := hrel
    by_cases hlt : f ≤ n
    · have HN : Hid (q * f = fact (f + 1 - 1)) := Go.Lib.hid (by
        obtain ⟨j, rfl⟩ : ∃ j, f = j + 1 := ⟨f - 1, by omega⟩
        rw [HQ.out]; simp [fact, Nat.mul_comm])
      obtain ⟨r, hr⟩ : ∃ r, q * f = r := ⟨_, rfl⟩
      have hr7 : r ≤ 5040 := by rw [← hr, HN.out]; exact fact_7 (by omega)
      have hp : (q : Int) * (f : Int) = (r : Int) := by rw [← hr]; simp
      have hlti : (f : Int) ≤ (n : Int) := by omega
      rw [hr] at HN
      clear hr
      go_wp2
      go_round
      case rel => exact ⟨f + 1, r, by omega, by omega, by go_num, rfl, HN⟩
      case measure => simp [intOf]; omega
    · have HR : Hid (q = fact n) := Go.Lib.hid (by
        rw [HQ.out]
        by_cases h0 : n = 0
        · subst h0; have : f = 2 := by omega
          subst this; rfl
        · by_cases h1 : f = 2
          · subst h1; have : n = 1 := by omega
            subst this; rfl
          · have : f - 1 = n := by omega
            rw [this])
      go_wp2
      go_ret
      exact ⟨by rw [← HR.out]; rfl, rfl⟩

set_option maxRecDepth 100000 in
set_option maxHeartbeats 1000000 in
theorem lessBehind_any (zs : List Int) (i : Nat) (W : World) (v : Value) (n : Nat) (hz : zs.length ≤ 1048576) (hi : i < zs.length) (hv : Sees W v n (vals zs)) :
    Calls Try.prog 127 #[v, .int .i64 i] W fun e w' => e = .returned (.int .i64 (lessAt zs i : Nat)) ∧ Drawn W w' := by
  have hl : zs.length = n := by simpa using hv.1
  obtain ⟨b, o, cap, rfl, hcap, _, hbl, hcell⟩ := sees_cells hv (by omega)
  have HC := Go.Lib.hid hcell
  clear hv hcell
  have hck0 : W.cell? ⟨b, o + i, none⟩ = some (.int .i64 (zs.getD i 0)) := HC.out i hi
  obtain ⟨z, hz⟩ : ∃ z, zs.getD i 0 = z := ⟨_, rfl⟩
  have HL : Hid (lessAt zs i = cl z (zs.drop (i + 1))) := Go.Lib.hid (by rw [← hz]; rfl)
  rw [hz] at hck0
  have hin : (i : Int) < (n : Int) := by omega
  by_cases hlast : i + 1 = n
  · have HR : Hid (lessAt zs i = 0) := Go.Lib.hid (by rw [HL.out, List.drop_of_length_le (by omega)]; rfl)
    have hn0 : n - (i + 1) = 0 := by omega
    by_cases hc : cap = i + 1
    all_goals
      go_enter Try.func127, Try.ntmps127
      go_wp2
      go_loop [5, 13] (fun cv jv => cv = .int .i64 0 ∧ jv = .int .i64 0) (fun _ _ => 0)
      case atStart => exact ⟨rfl, rfl⟩
      case round =>
        obtain ⟨rfl, rfl⟩ := hrel
        go_wp2
        go_ret
        exact ⟨by rw [HR.out]; rfl, Drawn.refl _⟩
  · have hc : ¬ cap = i + 1 := by omega
    go_enter Try.func127, Try.ntmps127
    go_wp2
    go_loopw [5, 13] (fun cv jv wr => ∃ (j q : Nat), j ≤ n - (i + 1) ∧ jv = .int .i64 j ∧ cv = .int .i64 q ∧ q ≤ j ∧ Hid (q = cl z ((zs.drop (i + 1)).take j)) ∧ Drawn W wr) (fun _ j _ => n - (intOf j).toNat)
    case atStart => exact ⟨0, 0, Nat.zero_le _, rfl, rfl, Nat.le_refl _, Go.Lib.hid (by simp [cl]), Drawn.refl _⟩
    case round =>
      obtain ⟨j, q, hj, rfl, rfl, hq, HQ, HD⟩ := hrel
      by_cases hlt : j < n - (i + 1)
      · have hck : wr.cell? ⟨b, o + (i + 1) + j, none⟩ = some (.int .i64 (zs.getD (i + 1 + j) 0)) := by
          have := HC.out (i + 1 + j) (by omega)
          rw [HD.cell, ← this]; congr 2; omega
        have hck1 : wr.cell? ⟨b, o + i, none⟩ = some (.int .i64 z) := (HD.cell _).trans hck0
        have hdl : j < (zs.drop (i + 1)).length := by rw [List.length_drop]; omega
        have hgd : (zs.drop (i + 1))[j] = zs.getD (i + 1 + j) 0 := by rw [List.getElem_drop]; simp [show i + 1 + j < zs.length by omega]
        obtain ⟨x, hx⟩ : ∃ x, zs.getD (i + 1 + j) 0 = x := ⟨_, rfl⟩
        have HN : Hid (cl z ((zs.drop (i + 1)).take (j + 1)) = q + (if x < z then 1 else 0)) := Go.Lib.hid (by rw [cl_next hdl, hgd, hx, HQ.out])
        rw [hx] at hck
        have hlti : (j : Int) < ((n - (i + 1) : Nat) : Int) := by omega
        have hj2 : j < n := by omega
        clear hx hgd hdl
        by_cases hxz : x < z
        · rw [if_pos hxz] at HN
          go_wp2
          go_roundw
          case rel => exact ⟨j + 1, q + 1, by omega, by go_num, by go_num, by omega, Go.Lib.hid HN.out.symm, HD⟩
          case measure => simp [intOf]; omega
        · rw [if_neg hxz] at HN
          go_wp2
          go_roundw
          case rel => exact ⟨j + 1, q, by omega, by go_num, rfl, by omega, Go.Lib.hid (by rw [HN.out]; rfl), HD⟩
          case measure => simp [intOf]; omega
      · have HR : Hid (q = lessAt zs i) := Go.Lib.hid (by rw [HQ.out, HL.out, List.take_of_length_le (by rw [List.length_drop]; omega)])
        have hlti : ¬ (j : Int) < ((n - (i + 1) : Nat) : Int) := by omega
        go_wp2
        go_ret
        exact ⟨by rw [← HR.out]; rfl, HD⟩

set_option maxRecDepth 100000 in
set_option maxHeartbeats 1000000 in
theorem implInvs (zs : List Int) (r' : Int) (b : Bool) (h : invsAns zs = (r', b)) (hz : zs.length ≤ 1048576) (W : World) (v : Value) (n : Nat) (hv : Sees W v n (vals zs)) :
    Calls Try.prog 90 #[v] W fun e w' => e = .returned (.tuple #[.int .i64 r', .bool b]) ∧ Below W.heap.size W w' := by
  have hn : n ≤ 1048576 := by have := hv.1; simp at this; omega
  obtain ⟨i0, hi, hz0, hz1, hz2⟩ := info_parts infoI
  obtain ⟨r, hr⟩ : ∃ r, isOrd zs = r := ⟨_, rfl⟩
  have CO := Go.Lib.hid (fun W' (hs : Sees W' v n (vals zs)) => implOrder_any W' v n zs r hs hn hr)
  have HV := Go.Lib.hid hv
  unfold invsAns at h
  cases r with
  | false =>
    rw [if_neg (by unfold isOrd at hr; exact of_decide_eq_false hr)] at h
    cases h
    clear hv hr
    go_enter Try.func90, Try.ntmps90
    go_wp2_with fail
    refine (CO.out _ HV.out).mono ?_
    rintro e w1 ⟨rfl, hd⟩
    have HB : Hid (Below W.heap.size W w1) := Go.Lib.hid hd
    go_wp2_with fail
    go_ret2
    exact ⟨rfl, HB.out⟩
  | true =>
    have hord : Ord zs := by unfold isOrd at hr; exact of_decide_eq_true hr
    rw [if_pos hord] at h
    cases h
    have hl : zs.length = n := by simpa using hv.1
    have hn1 : 1 ≤ n := by have := hord.1; omega
    have hn7 : n ≤ 7 := by have := hord.2.1; omega
    obtain ⟨b, o, cap, rfl, hcap, _, hbl, hcell⟩ := sees_cells hv (by omega)
    have HC := Go.Lib.hid hcell
    clear hv hr hcell
    go_enter Try.func90, Try.ntmps90
    go_wp2_with fail
    refine (CO.out _ HV.out).mono ?_
    rintro e w1 ⟨rfl, hd⟩
    have HB : Hid (Below W.heap.size W w1) := Go.Lib.hid hd
    clear hd
    go_wp2_with fail
    go_loopw [4, 11] (fun rv iv wr => ∃ (k q : Nat), k ≤ n ∧ iv = .int .i64 k ∧ rv = .int .i64 q ∧ q ≤ 49 ∧ Hid (q = invTo zs k) ∧ Below W.heap.size W wr) (fun _ i _ => n - (intOf i).toNat)
    case atStart => exact ⟨0, 0, Nat.zero_le _, rfl, rfl, Nat.zero_le _, Go.Lib.hid rfl, HB.out⟩
    case round =>
      obtain ⟨k, q, hk, rfl, rfl, hq, HQ, hb⟩ := hrel
      by_cases hlt : k < n
      · have CL := Go.Lib.hid (lessBehind_any zs k wr _ n hz (by omega) (HV.out.grow hb))
        obtain ⟨l, hl0⟩ : ∃ l, lessAt zs k = l := ⟨_, rfl⟩
        have hl6 : l ≤ 7 := by rw [← hl0]; have := lessAt_le zs k; omega
        have HN : Hid (invTo zs (k + 1) = q + l) := Go.Lib.hid (by rw [← hl0, HQ.out]; rfl)
        have hN := invTo_le zs (by omega) (k + 1) (by omega)
        rw [HN.out] at hN
        rw [hl0] at CL
        have hlti : (k : Int) < (n : Int) := by omega
        have HBB := Go.Lib.hid hb
        clear hl0 hb HB CO
        go_wp2_with fail
        refine CL.out.mono ?_
        rintro e w2 ⟨rfl, hd⟩
        go_wp2_with fail
        go_roundw
        case rel => exact ⟨k + 1, q + l, by omega, by go_num, by go_num, by omega, Go.Lib.hid HN.out.symm, HBB.out.trans (hd.below _)⟩
        case measure => simp [intOf] <;> omega
      · have HR : Hid (q = invTo zs zs.length) := Go.Lib.hid (by rw [HQ.out]; congr 1; omega)
        have HBB := Go.Lib.hid hb
        clear hb
        go_wp2
        go_ret2
        exact ⟨by rw [← HR.out]; rfl, HBB.out⟩

set_option maxRecDepth 100000 in
set_option maxHeartbeats 1000000 in
theorem specInvs (zs : List Int) (r' : Int) (b : Bool) (h : invsAns zs = (r', b)) (hz : zs.length ≤ 1048576) (W : World) (v : Value) (n : Nat) (hv : Sees W v n (vals zs)) :
    Calls Try.prog 88 #[v] W fun e w' => e = .returned (.tuple #[.int .i64 r', .bool b]) ∧ Below W.heap.size W w' := by
  have hn : n ≤ 1048576 := by have := hv.1; simp at this; omega
  obtain ⟨i0, hi, hz0, hz1, hz2⟩ := info_parts infoI
  obtain ⟨r, hr⟩ : ∃ r, isOrd zs = r := ⟨_, rfl⟩
  have CO := Go.Lib.hid (fun W' (hs : Sees W' v n (vals zs)) => l2Order_any W' v n zs r hs hn hr)
  have HV := Go.Lib.hid hv
  unfold invsAns at h
  cases r with
  | false =>
    rw [if_neg (by unfold isOrd at hr; exact of_decide_eq_false hr)] at h
    cases h
    clear hv hr
    go_enter Try.func88, Try.ntmps88
    go_wp2_with fail
    refine (CO.out _ HV.out).mono ?_
    rintro e w1 ⟨rfl, hd⟩
    have HB : Hid (Below W.heap.size W w1) := Go.Lib.hid (hd.below _)
    go_wp2_with fail
    go_ret2
    exact ⟨rfl, HB.out⟩
  | true =>
    have hord : Ord zs := by unfold isOrd at hr; exact of_decide_eq_true hr
    rw [if_pos hord] at h
    cases h
    have hl : zs.length = n := by simpa using hv.1
    have hn1 : 1 ≤ n := by have := hord.1; omega
    have hn7 : n ≤ 7 := by have := hord.2.1; omega
    obtain ⟨b, o, cap, rfl, hcap, _, hbl, hcell⟩ := sees_cells hv (by omega)
    have HC := Go.Lib.hid hcell
    clear hv hr hcell
    go_enter Try.func88, Try.ntmps88
    go_wp2_with fail
    refine (CO.out _ HV.out).mono ?_
    rintro e w1 ⟨rfl, hd⟩
    have HB : Hid (Below W.heap.size W w1) := Go.Lib.hid (hd.below _)
    clear hd
    go_wp2_with fail
    go_loopw [4, 5] (fun mv iv wr => ∃ (i q : Nat), i ≤ n ∧ iv = .int .i64 i ∧ mv = .int .i64 q ∧ q ≤ 49 ∧ Hid (q = invTo zs i) ∧ Below W.heap.size W wr) (fun _ i _ => n - (intOf i).toNat)
    case atStart => exact ⟨0, 0, Nat.zero_le _, rfl, rfl, Nat.zero_le _, Go.Lib.hid rfl, HB.out⟩
    case round =>
      obtain ⟨i, q, hi, rfl, rfl, hq, HQ, HD⟩ := hrel
      by_cases hlt : i < n
      · have hck0 := HC.out i (by omega)
        obtain ⟨z, hz⟩ : ∃ z, zs.getD i 0 = z := ⟨_, rfl⟩
        have HL : Hid (lessAt zs i = cl z (zs.drop (i + 1))) := Go.Lib.hid (by rw [← hz]; rfl)
        rw [hz] at hck0
        have hin : (i : Int) < (n : Int) := by omega
        clear hz
        go_wp2
        go_loopw [4, 6] (fun mv kv w2 => ∃ (j l : Nat), j ≤ n - (i + 1) ∧ kv = .int .i64 ((i + 1 + j : Nat) : Int) ∧ mv = .int .i64 ((q + l : Nat) : Int) ∧ l ≤ j ∧ Hid (l = cl z ((zs.drop (i + 1)).take j)) ∧ Below W.heap.size W w2) (fun _ k _ => n - (intOf k).toNat)
        case atStart => exact ⟨0, 0, Nat.zero_le _, by go_num, rfl, Nat.le_refl _, Go.Lib.hid (by simp [cl]), HD⟩
        case round =>
          obtain ⟨j, l, hj, rfl, rfl, hlj, HLL, HD2⟩ := hrel
          clear HD
          by_cases hlt2 : j < n - (i + 1)
          · obtain ⟨kk, hkk⟩ : ∃ kk, i + 1 + j = kk := ⟨_, rfl⟩
            have hck : wr.cell? ⟨b, o + kk, none⟩ = some (.int .i64 (zs.getD kk 0)) := (HD2.cell (p := ⟨b, o + kk, none⟩) hbl).trans (HC.out kk (by omega))
            have hck1 : wr.cell? ⟨b, o + i, none⟩ = some (.int .i64 z) := (HD2.cell (p := ⟨b, o + i, none⟩) hbl).trans hck0
            have hdl : j < (zs.drop (i + 1)).length := by rw [List.length_drop]; omega
            have hgd : (zs.drop (i + 1))[j] = zs.getD kk 0 := by rw [List.getElem_drop, ← hkk]; simp [show i + 1 + j < zs.length by omega]
            obtain ⟨x, hx⟩ : ∃ x, zs.getD kk 0 = x := ⟨_, rfl⟩
            have HN : Hid (cl z ((zs.drop (i + 1)).take (j + 1)) = l + (if x < z then 1 else 0)) := Go.Lib.hid (by rw [cl_next hdl, hgd, hx, HLL.out])
            rw [hx] at hck
            rw [hkk]
            obtain ⟨ql, hql⟩ : ∃ ql, q + l = ql := ⟨_, rfl⟩
            rw [hql]
            have hql2 : ql ≤ 60 := by omega
            have hki : (kk : Int) < (n : Int) := by omega
            have HK := Go.Lib.hid (And.intro hkk hql)
            clear hx hgd hdl hkk hql
            by_cases hxz : x < z
            · rw [if_pos hxz] at HN
              go_wp2
              go_quiet (fail)
              go_wp2
              go_roundw
              case rel => exact ⟨j + 1, l + 1, by omega, by rw [← Nat.add_assoc, HK.out.1]; go_num, by rw [← Nat.add_assoc, HK.out.2]; go_num, by omega, Go.Lib.hid HN.out.symm, below_drewN HD2⟩
              case measure => simp [intOf]; omega
            · rw [if_neg hxz] at HN
              go_wp2
              go_quiet (fail)
              go_wp2
              go_roundw
              case rel => exact ⟨j + 1, l, by omega, by rw [← Nat.add_assoc, HK.out.1]; go_num, by rw [HK.out.2], by omega, Go.Lib.hid (by rw [HN.out]; rfl), below_drewN HD2⟩
              case measure => simp [intOf]; omega
          · have HR : Hid (lessAt zs i = l) := Go.Lib.hid (by rw [HLL.out, HL.out, List.take_of_length_le (by rw [List.length_drop]; omega)])
            have hkn : i + 1 + j = n := by omega
            rw [hkn]
            have HN : Hid (q + l = invTo zs (i + 1)) := Go.Lib.hid (by rw [HQ.out]; show _ = invTo zs i + lessAt zs i; rw [HR.out])
            have hN := invTo_le zs (by omega) (i + 1) (by omega)
            rw [← HN.out] at hN
            have hq2 : q + l ≤ 49 := by omega
            clear hkn hck0
            go_wp2_with fail
            go_roundw
            case rel => exact ⟨i + 1, q + l, by omega, by go_num, rfl, hq2, HN, HD2⟩
            case measure => simp [intOf]; omega
      · have HR : Hid (q = invTo zs zs.length) := Go.Lib.hid (by rw [HQ.out]; congr 1; omega)
        go_wp2
        go_ret2
        exact ⟨by rw [← HR.out]; rfl, HD⟩

end Go.Proofs.Ytpkjnlabjmpokaa.RankC
