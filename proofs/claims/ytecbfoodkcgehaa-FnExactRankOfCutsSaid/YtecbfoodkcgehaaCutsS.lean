/-
  Contracts: the model's l6Cuts, l6Run, l6Falls, l6Sweep. Conditions: lists that can be read, of at most 2^20 numbers.
-/
import Derived.Test.YtecbfoodkcgehaaCutsM
import Derived.Test.YtecbfoodkcgehaaOrder
import Derived.Test.YtecbfoodkcgehaaBack
import Derived.Test.YtecbfoodkcgehaaAppendTwo
namespace Go.Proofs.Ytecbfoodkcgehaa.CutsSC
open Go.RowKit SeesC IntsC ExactC OrdMath InC OrderC BackC CutsM

theorem lF_next {n s : Int} {f m k : Nat} {cs : List Int} {r : Bool} (h : lF n f s (cs.drop k) = r) (hf : f = m + 1) (hk : k < cs.length) : (if 1 ≤ cs.getD k 0 ∧ cs.getD k 0 ≤ 7 then lF n m (s + cs.getD k 0) (cs.drop (k + 1)) else false) = r := by
  subst hf
  rw [List.drop_eq_getElem_cons hk] at h
  have e : cs.getD k 0 = cs[k] := by simp [hk]
  rw [e]
  exact h

theorem lF_end {n s : Int} {f : Nat} {cs : List Int} {r : Bool} (h : lF n f s cs = r) (hf : f = 0 ∨ cs = []) : (decide (1 ≤ n ∧ n ≤ 7) && decide (s = n)) = r := by
  rcases hf with rfl | rfl
  · exact h
  · cases f <;> exact h

set_option maxRecDepth 100000 in
set_option maxHeartbeats 1000000 in
theorem l6Cuts_any (n : Int) (cs : List Int) (r : Bool) (hr : cutsB n cs = r) (W : World) (v : Value) (m : Nat) (hv : Sees W v m (vals cs)) (hm : m ≤ 1048576) :
    Calls Try.prog 76 #[.int .i64 n, v] W fun e w' => e = .returned (.bool r) ∧ W = w' := by
  have hl : cs.length = m := by simpa using hv.1
  have HR := Go.Lib.hid (show lF n 8 0 cs = r by rw [lF_cuts]; exact hr)
  have HL := Go.Lib.hid hl
  obtain ⟨_, ad, cap, rfl, hcap, hc⟩ := hv
  have HC := Go.Lib.hid hc
  clear hr hc hl
  go_enter Try.func76, Try.ntmps76
  go_wp2
  go_loopw [5, 6] (fun sv iv wr => ∃ (k : Nat) (s : Int), k ≤ m ∧ k ≤ 8 ∧ iv = .int .i64 k ∧ sv = .int .i64 s ∧ 0 ≤ s ∧ s ≤ 7 * (k : Int) ∧ W = wr ∧ Hid (lF n (8 - k) s (cs.drop k) = r)) (fun _ i _ => m + 1 - (intOf i).toNat)
  case atStart => exact ⟨0, 0, Nat.zero_le _, Nat.zero_le _, rfl, rfl, by omega, by omega, rfl, HR⟩
  case round =>
    obtain ⟨k, s, hk, hk8, rfl, rfl, hs0, hs7, rfl, HS⟩ := hrel
    by_cases hgo : k < m ∧ k < 8
    · obtain ⟨hlt, hlt8⟩ := hgo
      obtain ⟨b, o, rfl, hcell⟩ := HC.out (by omega)
      obtain ⟨c, hcc⟩ : ∃ c, cs.getD k 0 = c := ⟨_, rfl⟩
      have hck : W.cell? ⟨b, o + k, none⟩ = some (.int .i64 c) := hcell k _ (by have := HL.out; rw [← hcc]; simp [show k < cs.length by omega])
      have HN := Go.Lib.hid (lF_next HS.out (m := 7 - k) (by omega) (by have := HL.out; omega))
      rw [hcc] at HN
      have hlti : (k : Int) < (m : Int) := by omega
      have hk7i : (k : Int) ≤ 7 := by omega
      obtain ⟨q, hq⟩ : ∃ q, decide (1 ≤ c ∧ c ≤ 7) = q := ⟨_, rfl⟩
      have CI := Go.Lib.hid (fun W' => l1In_any c 1 7 W' q hq)
      have HQ := Go.Lib.hid hq
      clear hcell hcc hq
      cases q with
      | true =>
        have hin : 1 ≤ c ∧ c ≤ 7 := of_decide_eq_true HQ.out
        obtain ⟨hc1, hc7⟩ := hin
        have HN2 : Hid (lF n (8 - (k + 1)) (s + c) (cs.drop (k + 1)) = r) := Go.Lib.hid (by have h := HN.out; rw [if_pos ⟨hc1, hc7⟩] at h; rw [show 8 - (k + 1) = 7 - k by omega]; exact h)
        go_wp2_with fail
        refine (CI.out _).mono ?_
        rintro e wq ⟨rfl, hwq⟩
        obtain rfl : W = wq := hwq
        go_wp2_with fail
        go_roundw
        case rel => exact ⟨k + 1, s + c, by omega, by omega, by go_num, rfl, by omega, by omega, by first | rfl | trivial, HN2⟩
        case measure => simp [intOf]; omega
      | false =>
        have hrf : r = false := by have h := HN.out; rw [if_neg (of_decide_eq_false HQ.out)] at h; exact h.symm
        subst hrf
        go_wp2_with fail
        refine (CI.out _).mono ?_
        rintro e wq ⟨rfl, hwq⟩
        obtain rfl : W = wq := hwq
        go_wp2_with fail
        go_ret
        exact ⟨rfl, rfl⟩
    · have HE := Go.Lib.hid (lF_end HS.out (by have := HL.out; rcases Nat.lt_or_ge k 8 with h8 | h8 <;> first | exact .inl (by omega) | exact .inr (List.drop_of_length_le (by omega))))
      have hs8 : s ≤ 56 := by omega
      obtain ⟨q, hq⟩ : ∃ q, decide (1 ≤ n ∧ n ≤ 7) = q := ⟨_, rfl⟩
      have CI := Go.Lib.hid (fun W' => l1In_any n 1 7 W' q hq)
      rw [hq] at HE
      have HST : Hid (¬ (k < m ∧ k < 8)) := Go.Lib.hid hgo
      clear hq hgo
      have fin : ∀ (hh : (k < m ∧ ¬ k < 8) ∨ ¬ k < m), True := fun _ => trivial
      by_cases hlt : k < m
      · have h8 : k = 8 := by have := HST.out; omega
        subst h8
        have hlti : (8 : Int) < (m : Int) := by omega
        cases q with
        | true =>
          by_cases hsn : s = n
          · have e1 : (s == n) = true := by rw [beq_iff_eq]; exact hsn
            have hrt : r = true := by rw [← HE.out, decide_eq_true hsn]; rfl
            subst hrt
            clear hsn
            go_wp2_with fail
            refine (CI.out _).mono ?_
            rintro e wq ⟨rfl, hwq⟩
            obtain rfl : W = wq := hwq
            go_wp2_with fail
            go_ret
            exact ⟨rfl, rfl⟩
          · have e1 : (s == n) = false := by rw [beq_eq_false_iff_ne]; exact hsn
            have hrt : r = false := by rw [← HE.out, decide_eq_false hsn]; rfl
            subst hrt
            clear hsn
            go_wp2_with fail
            refine (CI.out _).mono ?_
            rintro e wq ⟨rfl, hwq⟩
            obtain rfl : W = wq := hwq
            go_wp2_with fail
            go_ret
            exact ⟨rfl, rfl⟩
        | false =>
          have hrt : r = false := by rw [← HE.out]; rfl
          subst hrt
          go_wp2_with fail
          refine (CI.out _).mono ?_
          rintro e wq ⟨rfl, hwq⟩
          obtain rfl : W = wq := hwq
          go_wp2_with fail
          go_ret
          exact ⟨rfl, rfl⟩
      · have hlti : ¬ (k : Int) < (m : Int) := by omega
        cases q with
        | true =>
          by_cases hsn : s = n
          · have e1 : (s == n) = true := by rw [beq_iff_eq]; exact hsn
            have hrt : r = true := by rw [← HE.out, decide_eq_true hsn]; rfl
            subst hrt
            clear hsn
            go_wp2_with fail
            refine (CI.out _).mono ?_
            rintro e wq ⟨rfl, hwq⟩
            obtain rfl : W = wq := hwq
            go_wp2_with fail
            go_ret
            exact ⟨rfl, rfl⟩
          · have e1 : (s == n) = false := by rw [beq_eq_false_iff_ne]; exact hsn
            have hrt : r = false := by rw [← HE.out, decide_eq_false hsn]; rfl
            subst hrt
            clear hsn
            go_wp2_with fail
            refine (CI.out _).mono ?_
            rintro e wq ⟨rfl, hwq⟩
            obtain rfl : W = wq := hwq
            go_wp2_with fail
            go_ret
            exact ⟨rfl, rfl⟩
        | false =>
          have hrt : r = false := by rw [← HE.out]; rfl
          subst hrt
          go_wp2_with fail
          refine (CI.out _).mono ?_
          rintro e wq ⟨rfl, hwq⟩
          obtain rfl : W = wq := hwq
          go_wp2_with fail
          go_ret
          exact ⟨rfl, rfl⟩

/-- A part of a slice that is read. -/
theorem sees_part {w : World} {b o n : Nat} {zs : List Int} (hc : ∀ j, j < zs.length → w.cell? ⟨b, o + j, none⟩ = some (.int .i64 (zs.getD j 0))) (hl : zs.length = n) (s k c : Nat) (hk : s + k ≤ n) (hkc : k ≤ c) :
    Sees w (.slice (some ⟨b, o + s, none⟩) k c) k (vals ((zs.drop s).take k)) := by
  refine ⟨by simp; omega, _, c, rfl, hkc, fun _ => ⟨b, o + s, rfl, fun j u hu => ?_⟩⟩
  simp only [vals, List.getElem?_map, Option.map_eq_some_iff] at hu
  obtain ⟨z, hz, rfl⟩ := hu
  rw [List.getElem?_take] at hz
  split at hz
  · rename_i hj
    rw [List.getElem?_drop] at hz
    have h1 := hc (s + j) (by omega)
    rw [Nat.add_assoc, h1]
    rw [List.getD_eq_getElem?_getD, hz]
    rfl
  · cases hz

set_option maxRecDepth 100000 in
set_option maxHeartbeats 2000000 in
theorem l6Run_any (zs cs : List Int) (hn : zs.length ≤ 7) (hcs : CutsFor zs.length cs) (W : World) (v u : Value) (n m : Nat) (hv : Sees W v n (vals zs)) (hu : Sees W u m (vals cs)) :
    Calls Try.prog 77 #[v, u] W fun e w' => ∃ g c, e = .returned (.slice (some ⟨g, 0, none⟩) n c) ∧ w'.ownsRow W.heap.size 3 1 (.slice (some ⟨g, 0, none⟩) n c) n (vals (runL zs cs)) ∧ Below W.heap.size W w' := by
  obtain ⟨i0, hi, hz0, hz1, hz2⟩ := info_parts infoI
  have hl : zs.length = n := by simpa using hv.1
  have hm : cs.length = m := by simpa using hu.1
  have hlen := hcs.len
  have hn1 : 1 ≤ n := by have := hcs.1; omega
  have hn7 : n ≤ 7 := by omega
  have hm7 : m ≤ 7 := by omega
  obtain ⟨b, o, cap, rfl, hcap, _, hbl, hcell⟩ := sees_cells hv (by omega)
  obtain ⟨b2, o2, cap2, rfl, hcap2, _, hbl2, hcell2⟩ := sees_cells hu (by omega)
  have HC := Go.Lib.hid hcell
  have HC2 := Go.Lib.hid hcell2
  have HL := Go.Lib.hid (And.intro hl (And.intro hm hcs))
  have ho1 := Go.Lib.hid (World.ownsRow_made (base := W.heap.size) (e := 3) (size := 1) W #[] 0 (Nat.le_refl _) (by unfold maxLen; omega) rfl)
  have hb0 := Go.Lib.hid ((Below.refl W.heap.size W).alloc (Nat.le_refl _) (.cells #[] 3))
  clear hv hu hcell hcell2 hl hm hcs hlen hn
  go_enter Try.func77, Try.ntmps77
  go_wp2
  go_loopw [5, 6, 7] (fun ov fv iv wr => ∃ (k s g c : Nat), k ≤ m ∧ s ≤ n ∧ iv = .int .i64 k ∧ fv = .int .i64 s ∧ ov = .slice (some ⟨g, 0, none⟩) s c ∧ Hid ((cs.take k).sum = s ∧ wr.ownsRow W.heap.size 3 1 (.slice (some ⟨g, 0, none⟩) s c) s (vals (runL zs (cs.take k))) ∧ Below W.heap.size W wr)) (fun _ _ i _ => m - (intOf i).toNat)
  case atStart => exact ⟨0, 0, _, _, Nat.zero_le _, Nat.zero_le _, rfl, rfl, rfl, Go.Lib.hid ⟨by simp, by simpa [runL] using ho1.out, hb0.out⟩⟩
  case round =>
    obtain ⟨k, s, g, c, hk, hs, rfl, rfl, rfl, HQ⟩ := hrel
    clear ho1 hb0
    by_cases hlt : k < m
    · obtain ⟨p, hp, hp1, hps⟩ : ∃ p : Nat, cs.getD k 0 = p ∧ 1 ≤ p ∧ s + p ≤ n := by
        have hkl : k < cs.length := by have := HL.out.2.1; omega
        have h1 := HL.out.2.2.2.2.1 (cs.getD k 0) (by simp [hkl])
        have h2 := take_sum_next hkl
        have h3 := (take_sum_le HL.out.2.2.2.2.1 (k + 1)).2
        have h4 := HL.out.2.2.2.2.2
        have h5 := HQ.out.1
        have h6 := HL.out.1
        exact ⟨(cs.getD k 0).toNat, by omega, by omega, by omega⟩
      have hckp : wr.cell? ⟨b2, o2 + k, none⟩ = some (.int .i64 p) := by
        rw [(HQ.out.2.2.cell (p := ⟨b2, o2 + k, none⟩) hbl2), HC2.out k (by have := HL.out.2.1; omega), hp]
      have hcw : ∀ j, j < zs.length → wr.cell? ⟨b, o + j, none⟩ = some (.int .i64 (zs.getD j 0)) := fun j hj => (HQ.out.2.2.cell (p := ⟨b, o + j, none⟩) hbl).trans (HC.out j hj)
      have HN : Hid (runL zs (cs.take (k + 1)) = runL zs (cs.take k) ++ ((zs.drop s).take p).reverse ∧ (cs.take (k + 1)).sum = ((s + p : Nat) : Int)) := Go.Lib.hid (by
        have hkl : k < cs.length := by have := HL.out.2.1; omega
        refine ⟨?_, by rw [take_sum_next hkl, HQ.out.1, hp]; omega⟩
        rw [runL_next HL.out.2.2.2.2.1 hkl, HQ.out.1, hp, Int.toNat_natCast, Int.toNat_natCast])
      obtain ⟨Q, hQ⟩ : ∃ Q, ((zs.drop s).take p).reverse = Q := ⟨_, rfl⟩
      have hQl : Q.length = p := by rw [← hQ, List.length_reverse, List.length_take, List.length_drop]; have := HL.out.1; omega
      have DB := l2Back_any ((zs.drop s).take p) wr (.slice (some ⟨b, o + s, none⟩) p (cap - s)) p (by rw [List.length_take]; omega) (sees_part hcw HL.out.1 s p (cap - s) hps (by omega))
      rw [hQ, hQl] at DB
      rw [hQ] at HN
      have CB := Go.Lib.hid DB
      have HQL := Go.Lib.hid hQl
      have hlti : (k : Int) < (m : Int) := by omega
      have hp7 : p ≤ 7 := by omega
      have hpsi : (s : Int) + (p : Int) ≤ (n : Int) := by omega
      have hszW := HQ.out.2.2.size
      have HP : Hid (W.cell? ⟨b2, o2 + k, none⟩ = some (.int .i64 p)) := Go.Lib.hid (by rw [HC2.out k (by have := HL.out.2.1; omega), hp])
      clear hp hcw hQ DB hQl
      go_wp2_with fail
      refine (CB.out).mono ?_
      rintro e w3 ⟨uu, rfl, hob, hbb⟩
      obtain ⟨gb, cb, rfl⟩ := own_pos hob (by omega)
      have hob2 := hob.cells rfl
      have H3 := Go.Lib.hid (And.intro (kept_call HQ.out.2.1 hbb) (And.intro (HQ.out.2.2.trans (hbb.mono hszW)) hob2))
      clear hob hbb hob2 hckp
      go_wp2_with (at_builtin; refine wpList_append_own _ rfl _ _ 24 rfl W.heap.size 3 i0 (.int .i64 0) 1 8 Try.underlying24 hi hz0 hz1 hz2 rfl (by decide) (.slice (some ⟨g, 0, none⟩) s c) s (vals (runL zs (cs.take k))) rfl H3.out.1 ⟨gb, 0, none⟩ p cb (vals Q) rfl (by rw [vals_len, HQL.out, Nat.mul_one]) H3.out.2.2 (ints_oneCell .i64 _) (by unfold maxLen; omega) (by omega) H3.out.2.1.size ?_; intro v' w5 hown5 hgrow5 hnil5; obtain ⟨g5, c5, rfl⟩ := own_pos hown5 (by omega); have hck5 : w5.cell? ⟨b2, o2 + k, none⟩ = some (.int .i64 p) := (((H3.out.2.1.grown hgrow5 H3.out.2.1.size (fun q hq => (H3.out.1.lt q hq).1)).cell (p := ⟨b2, o2 + k, none⟩) hbl2).trans HP.out))
      have H5 : Hid ((cs.take (k + 1)).sum = ((s + p : Nat) : Int) ∧ w5.ownsRow W.heap.size 3 1 (.slice (some ⟨g5, 0, none⟩) (s + p) c5) (s + p) (vals (runL zs (cs.take (k + 1)))) ∧ Below W.heap.size W w5) := Go.Lib.hid (by
        refine ⟨HN.out.2, ?_, H3.out.2.1.grown hgrow5 H3.out.2.1.size (fun q hq => (H3.out.1.lt q hq).1)⟩
        rw [HN.out.1]
        simpa using hown5)
      clear hown5 hgrow5 hnil5 H3 HN HQL CB hck5
      go_wp2
      go_roundw
      case rel => exact ⟨k + 1, s + p, g5, c5, by omega, by omega, by go_num, by first | rfl | go_num, rfl, H5⟩
      case measure => simp [intOf]; omega
    · obtain rfl : k = m := by omega
      have hsn : s = n := by
        have h1 := HQ.out.1
        rw [List.take_of_length_le (by have := HL.out.2.1; omega), HL.out.2.2.2.2.2] at h1
        have := HL.out.1; omega
      subst hsn
      have HF : Hid (wr.ownsRow W.heap.size 3 1 (.slice (some ⟨g, 0, none⟩) s c) s (vals (runL zs cs)) ∧ Below W.heap.size W wr) := Go.Lib.hid (by
        have h1 := HQ.out.2
        rw [List.take_of_length_le (by have := HL.out.2.1; omega)] at h1
        exact h1)
      go_wp2
      go_ret
      exact ⟨g, c, rfl, HF.out⟩

set_option maxRecDepth 100000 in
set_option maxHeartbeats 2000000 in
theorem l6Falls_any (zs : List Int) (hord : Ord zs) (W : World) (v : Value) (n : Nat) (hv : Sees W v n (vals zs)) :
    Calls Try.prog 108 #[v] W fun e w' => ∃ g c, e = .returned (.slice (some ⟨g, 0, none⟩) (fallsL zs).length c) ∧ w'.ownsRow W.heap.size 3 1 (.slice (some ⟨g, 0, none⟩) (fallsL zs).length c) (fallsL zs).length (vals (fallsL zs)) ∧ Below W.heap.size W w' := by
  obtain ⟨i0, hi, hz0, hz1, hz2⟩ := info_parts infoI
  have hl : zs.length = n := by simpa using hv.1
  have hn7 : n ≤ 7 := by have := hord.2.1; omega
  have hn1 : 1 ≤ n := by have := hord.1; omega
  obtain ⟨b, o, cap2, rfl, _, _, hbl, hcell⟩ := sees_cells hv (by omega)
  have HC := Go.Lib.hid hcell
  have HL := Go.Lib.hid hl
  have ho1 := Go.Lib.hid (World.ownsRow_made (base := W.heap.size) (e := 3) (size := 1) W #[] 0 (Nat.le_refl _) (by unfold maxLen; omega) rfl)
  have hb0 := Go.Lib.hid ((Below.refl W.heap.size W).alloc (Nat.le_refl _) (.cells #[] 3))
  clear hcell hl hv hord
  go_enter Try.func108, Try.ntmps108
  go_wp2
  go_loopw [3, 4] (fun ov iv wr => ∃ (i N g c : Nat) (L : List Int), i ≤ n ∧ N ≤ i ∧ iv = .int .i64 i ∧ ov = .slice (some ⟨g, 0, none⟩) N c ∧ Hid (L = fTo zs i ∧ L.length = N ∧ wr.ownsRow W.heap.size 3 1 (.slice (some ⟨g, 0, none⟩) N c) N (vals L) ∧ Below W.heap.size W wr)) (fun _ i _ => n - (intOf i).toNat)
  case atStart => exact ⟨0, 0, _, _, [], Nat.zero_le _, Nat.le_refl _, rfl, rfl, Go.Lib.hid ⟨rfl, rfl, ho1.out, hb0.out⟩⟩
  case round =>
    obtain ⟨i, N, g, c, L, hin, hNi, rfl, rfl, HQ⟩ := hrel
    clear ho1 hb0
    by_cases hlt : i < n
    · have hck : ∀ j, j < n → wr.cell? ⟨b, o + j, none⟩ = some (.int .i64 (zs.getD j 0)) := fun j hj => (HQ.out.2.2.2.cell (p := ⟨b, o + j, none⟩) hbl).trans (HC.out j (by have := HL.out; omega))
      have hcki := hck i hlt
      obtain ⟨x, hx⟩ : ∃ x, zs.getD i 0 = x := ⟨_, rfl⟩
      rw [hx] at hcki
      have hlti : (i : Int) < (n : Int) := by omega
      have HX := Go.Lib.hid hx
      have hok := fTo_ok zs i
      rw [← HQ.out.1, HQ.out.2.1] at hok
      have HOK := Go.Lib.hid hok
      clear hok hx
      by_cases h0 : i = 0
      · subst h0
        have hk0d : decide (0 < 0) = false := rfl
        have hcki0 : wr.cell? ⟨b, o, none⟩ = some (.int .i64 x) := hcki
        have HN : Hid (fTo zs (0 + 1) = L ++ [1]) := Go.Lib.hid (by rw [HQ.out.1]; show (if _ then _ else _) = _; rw [if_neg (fun h => absurd h.1 (Nat.lt_irrefl 0))])
        clear hck
        go_wp2
        go_quiet (fail)
        go_wp2_with (at_builtin; refine wpList_append_own _ rfl _ _ 24 rfl W.heap.size 3 i0 (.int .i64 0) 1 8 Try.underlying24 hi hz0 hz1 hz2 rfl (by decide) (.slice (some ⟨g, 0, none⟩) N c) N (vals L) rfl ((own_drewN HQ.out.2.2.1).alloc _) ⟨wr.heap.size, 0, none⟩ 1 1 [.int .i64 1] rfl rfl (cell_one_new _ _ _) (fun x hx => by simp at hx; subst hx; rfl) (by unfold maxLen; omega) (by omega) (by have := HQ.out.2.2.2.size; simp; omega) ?_; intro v' w3 hown3 hgrow3 hnil3)
        obtain ⟨g3, c3, rfl⟩ := ownsRow_succ hown3
        have H3 : Hid (L ++ [1] = fTo zs (0 + 1) ∧ (L ++ [1]).length = N + 1 ∧ w3.ownsRow W.heap.size 3 1 (.slice (some ⟨g3, 0, none⟩) (N + 1) c3) (N + 1) (vals (L ++ [1])) ∧ Below W.heap.size W w3) := Go.Lib.hid
          ⟨HN.out.symm, by simp [HQ.out.2.1], by have h := hown3; simp only [vals, List.map_append] at h ⊢; exact h, ((ExactC.below_drewN HQ.out.2.2.2).alloc HQ.out.2.2.2.size _).grown hgrow3 (by have := HQ.out.2.2.2.size; simp; omega) (fun q hq => (HQ.out.2.2.1.lt q hq).1)⟩
        clear hown3 hgrow3 hnil3
        go_wp2
        go_roundw
        case rel => exact ⟨0 + 1, N + 1, g3, c3, L ++ [1], by omega, by omega, by go_num, rfl, H3⟩
        case measure => simp [intOf]; omega
      · obtain ⟨j, rfl⟩ : ∃ j, i = j + 1 := ⟨i - 1, by omega⟩
        have hckj := hck j (by omega)
        have hk0d : decide (0 < j + 1) = true := decide_eq_true (by omega)
        have hj0 : 0 ≤ (j : Int) + 1 := by omega
        obtain ⟨y, hy⟩ : ∃ y, zs.getD j 0 = y := ⟨_, rfl⟩
        rw [hy] at hckj
        have HY := Go.Lib.hid hy
        clear hy
        by_cases hxy : x < y
        · have hxd : decide (x < y) = true := decide_eq_true hxy
          have HN : Hid (fTo zs (j + 1 + 1) = bump L) := Go.Lib.hid (by rw [HQ.out.1]; show (if _ then _ else _) = _; rw [if_pos ⟨by omega, by rw [Nat.add_sub_cancel, HX.out, HY.out]; exact hxy⟩])
          obtain ⟨aL, c0, hL⟩ := snoc_of (l := L) (by have := HOK.out.2.2.2 (by omega); have := HQ.out.2.1; omega)
          have hLl : aL.length + 1 = N := by rw [← HQ.out.2.1, hL]; simp
          obtain ⟨q, rfl⟩ : ∃ q, N = q + 1 := ⟨aL.length, hLl.symm⟩
          have hcq : wr.cell? ⟨g, q, none⟩ = some (.int .i64 c0) := by
            have h := (own_cells HQ.out.2.2.1).1 q (by have := HQ.out.2.1; omega)
            rw [Nat.zero_add] at h
            rw [h, hL]
            congr 2
            have e : q = aL.length := by omega
            subst e
            simp
          have hf := HQ.out.2.2.1.frozenAt q
          have hcb : 1 ≤ c0 ∧ c0 ≤ 7 := by
            have h1 := HOK.out.2.1 c0 (by rw [hL]; simp)
            have h2 := sum_one HOK.out.2.1 (c := c0) (by rw [hL]; simp)
            have h3 := HOK.out.2.2.1
            omega
          obtain ⟨hc01, hc07⟩ := hcb
          have hst := fun (X : World) (hX : X.ownsRow W.heap.size 3 1 (.slice (some ⟨g, 0, none⟩) (q + 1) c) (q + 1) (vals L)) => hX.stored q (.int .i64 (c0 + 1))
          have hset : (vals L).set q (.int .i64 (c0 + 1)) = vals (bump L) := by
            rw [hL, bump_snoc]
            have e2 : q = aL.length := by omega
            subst e2
            simp [vals, List.set_append_right]
          have HST := Go.Lib.hid (fun (z : Nat) => show bump L = fTo zs (j + 1 + 1) ∧ (bump L).length = q + 1 ∧ ((wr.drewN z).setCell ⟨g, q, none⟩ (.int .i64 (c0 + 1))).ownsRow W.heap.size 3 1 (.slice (some ⟨g, 0, none⟩) (q + 1) c) (q + 1) (vals (bump L)) ∧ Below W.heap.size W ((wr.drewN z).setCell ⟨g, q, none⟩ (.int .i64 (c0 + 1))) from by
            refine ⟨HN.out.symm, by rw [bump_len]; exact HQ.out.2.1, ?_, (ExactC.below_drewN HQ.out.2.2.2).setCell (p := ⟨g, q, none⟩) (HQ.out.2.2.1.lt g rfl).1 _⟩
            have h := (hst (wr.drewN z) (own_drewN HQ.out.2.2.1)).1
            rw [hset] at h
            exact h)
          have hqi : (q : Int) < (q : Int) + 1 := by omega
          clear hL hLl hck hst hset
          go_wp2
          go_quiet (fail)
          go_wp2
          go_roundw
          case rel => exact ⟨j + 1 + 1, q + 1, g, c, bump L, by omega, by omega, by go_num, rfl, Go.Lib.hid (HST.out _)⟩
          case measure => simp [intOf]; omega
        · have hxd : decide (x < y) = false := decide_eq_false hxy
          have HN : Hid (fTo zs ((j + 1) + 1) = L ++ [1]) := Go.Lib.hid (by rw [HQ.out.1]; show (if _ then _ else _) = _; rw [if_neg (by rw [Nat.add_sub_cancel, HX.out, HY.out]; omega)])
          clear hck
          go_wp2
          go_quiet (fail)
          go_wp2_with (at_builtin; refine wpList_append_own _ rfl _ _ 24 rfl W.heap.size 3 i0 (.int .i64 0) 1 8 Try.underlying24 hi hz0 hz1 hz2 rfl (by decide) (.slice (some ⟨g, 0, none⟩) N c) N (vals L) rfl ((own_drewN HQ.out.2.2.1).alloc _) ⟨wr.heap.size, 0, none⟩ 1 1 [.int .i64 1] rfl rfl (cell_one_new _ _ _) (fun x hx => by simp at hx; subst hx; rfl) (by unfold maxLen; omega) (by omega) (by have := HQ.out.2.2.2.size; simp; omega) ?_; intro v' w3 hown3 hgrow3 hnil3)
          obtain ⟨g3, c3, rfl⟩ := ownsRow_succ hown3
          have H3 : Hid (L ++ [1] = fTo zs ((j + 1) + 1) ∧ (L ++ [1]).length = N + 1 ∧ w3.ownsRow W.heap.size 3 1 (.slice (some ⟨g3, 0, none⟩) (N + 1) c3) (N + 1) (vals (L ++ [1])) ∧ Below W.heap.size W w3) := Go.Lib.hid
            ⟨HN.out.symm, by simp [HQ.out.2.1], by have h := hown3; simp only [vals, List.map_append] at h ⊢; exact h, ((ExactC.below_drewN HQ.out.2.2.2).alloc HQ.out.2.2.2.size _).grown hgrow3 (by have := HQ.out.2.2.2.size; simp; omega) (fun q hq => (HQ.out.2.2.1.lt q hq).1)⟩
          clear hown3 hgrow3 hnil3
          go_wp2
          go_roundw
          case rel => exact ⟨(j + 1) + 1, N + 1, g3, c3, L ++ [1], by omega, by omega, by go_num, rfl, H3⟩
          case measure => simp [intOf]; omega
    · obtain rfl : i = n := by omega
      have HF : Hid ((fallsL zs).length = N ∧ wr.ownsRow W.heap.size 3 1 (.slice (some ⟨g, 0, none⟩) N c) N (vals (fallsL zs)) ∧ Below W.heap.size W wr) := Go.Lib.hid (by
        have e : fallsL zs = L := by unfold fallsL; rw [HL.out, HQ.out.1]
        rw [e]; exact ⟨HQ.out.2.1, HQ.out.2.2⟩)
      go_wp2
      go_ret
      exact ⟨g, c, by rw [HF.out.1]; rfl, by rw [HF.out.1]; exact HF.out.2.1, HF.out.2.2⟩

end Go.Proofs.Ytecbfoodkcgehaa.CutsSC
