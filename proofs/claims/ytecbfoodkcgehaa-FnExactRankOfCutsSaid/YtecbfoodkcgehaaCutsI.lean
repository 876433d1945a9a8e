/-
  Contracts: the program's sizeOfCuts, runCuts, fallsOf, fallSweepOf. Conditions: lists that can be read, of at most 2^20 numbers.
-/
import Derived.Test.YtecbfoodkcgehaaCutsS
import Derived.Test.YtecbfoodkcgehaaWords
namespace Go.Proofs.Ytecbfoodkcgehaa.CutsIC
open Go.RowKit SeesC IntsC ExactC OrdMath InC OrderC BackC CutsM CutsSC WordsC

theorem szF_next {s : Int} {k : Nat} {cs : List Int} {r : Int} (h : szF s (cs.drop k) = r) (hk : k < cs.length) : (if cs.getD k 0 < 1 ∨ 7 - s < cs.getD k 0 then 0 else szF (s + cs.getD k 0) (cs.drop (k + 1))) = r := by
  rw [List.drop_eq_getElem_cons hk] at h
  have e : cs.getD k 0 = cs[k] := by simp [hk]
  rw [e]
  exact h

set_option maxRecDepth 100000 in
set_option maxHeartbeats 1000000 in
theorem sizeOfCuts_any (cs : List Int) (r : Int) (hr : szF 0 cs = r) (W : World) (v : Value) (m : Nat) (hv : Sees W v m (vals cs)) (hm : m ≤ 1048576) :
    Calls Try.prog 79 #[v] W fun e w' => e = .returned (.int .i64 r) ∧ W = w' := by
  have hl : cs.length = m := by simpa using hv.1
  have HR := Go.Lib.hid (show szF 0 (cs.drop 0) = r from hr)
  have HL := Go.Lib.hid hl
  obtain ⟨_, ad, cap, rfl, hcap, hc⟩ := hv
  have HC := Go.Lib.hid hc
  clear hr hc hl
  go_enter Try.func79, Try.ntmps79
  go_wp2
  go_loopw [3, 8] (fun sv iv wr => ∃ (k : Nat) (s : Int), k ≤ m ∧ iv = .int .i64 k ∧ sv = .int .i64 s ∧ 0 ≤ s ∧ s ≤ 7 ∧ W = wr ∧ Hid (szF s (cs.drop k) = r)) (fun _ i _ => m - (intOf i).toNat)
  case atStart => exact ⟨0, 0, Nat.zero_le _, rfl, rfl, by omega, by omega, rfl, HR⟩
  case round =>
    obtain ⟨k, s, hk, rfl, rfl, hs0, hs7, rfl, HS⟩ := hrel
    by_cases hlt : k < m
    · obtain ⟨b, o, rfl, hcell⟩ := HC.out (by omega)
      obtain ⟨c, hcc⟩ : ∃ c, cs.getD k 0 = c := ⟨_, rfl⟩
      have hck : W.cell? ⟨b, o + k, none⟩ = some (.int .i64 c) := hcell k _ (by have := HL.out; rw [← hcc]; simp [show k < cs.length by omega])
      have HN := Go.Lib.hid (szF_next HS.out (by have := HL.out; omega))
      rw [hcc] at HN
      have hlti : (k : Int) < (m : Int) := by omega
      clear hcell hcc
      by_cases h1 : c < 1
      · have hr0 : r = 0 := by have h := HN.out; rw [if_pos (.inl h1)] at h; exact h.symm
        subst hr0
        have hd1 : decide (c < 1) = true := decide_eq_true h1
        go_wp2_with fail
        go_ret
        exact ⟨rfl, rfl⟩
      · have hd1 : decide (c < 1) = false := decide_eq_false h1
        by_cases h2 : 7 - s < c
        · have hr0 : r = 0 := by have h := HN.out; rw [if_pos (.inr h2)] at h; exact h.symm
          subst hr0
          have hd2 : decide (7 - s < c) = true := decide_eq_true h2
          go_wp2_with fail
          go_ret
          exact ⟨rfl, rfl⟩
        · have hd2 : decide (7 - s < c) = false := decide_eq_false h2
          have HN2 : Hid (szF (s + c) (cs.drop (k + 1)) = r) := Go.Lib.hid (by have h := HN.out; rw [if_neg (by omega)] at h; exact h)
          go_wp2_with fail
          go_roundw
          case rel => exact ⟨k + 1, s + c, by omega, by go_num, rfl, by omega, by omega, by first | rfl | trivial, HN2⟩
          case measure => simp [intOf]; omega
    · obtain rfl : k = m := by omega
      have hs : s = r := by have h := HS.out; rw [List.drop_of_length_le (by have := HL.out; omega)] at h; exact h
      subst hs
      go_wp2
      go_ret
      exact ⟨rfl, rfl⟩

/-- What has come out by the first cuts, and behind it what has not. -/
def midL (zs cs : List Int) (k s : Nat) : List Int := runL zs (cs.take k) ++ zs.drop s

theorem mid_next {zs cs : List Int} {k s p : Nat} (h : ∀ c ∈ cs, 1 ≤ c) (hk : k < cs.length) (hs : (cs.take k).sum = s) (hp : cs.getD k 0 = p) (hle : s + p ≤ zs.length) (_hsum : cs.sum ≤ zs.length) :
    setL (vals (midL zs cs k s)) s (((zs.drop s).take p).reverse.map (Value.int .i64)) = vals (midL zs cs (k + 1) (s + p)) := by
  have hlr : (runL zs (cs.take k)).length = s := by
    have h1 := take_sum_le h k
    rw [runL_len _ _ (fun c hc => h c (List.mem_of_mem_take hc)) (by omega), hs]; simp
  have hlp : (((zs.drop s).take p).reverse.map (Value.int .i64)).length = p := by simp; omega
  rw [setL_is _ _ _ (by rw [hlp]; unfold midL; simp [hlr]; omega), hlp]
  unfold midL
  rw [runL_next h hk, hs, hp, Int.toNat_natCast, Int.toNat_natCast]
  unfold vals
  simp only [List.map_append]
  rw [List.take_left' (by simpa using hlr), ← List.drop_drop, List.drop_left' (by simpa using hlr)]
  rw [← List.map_drop, List.drop_drop]

theorem mid_len {zs cs : List Int} {k s : Nat} (h : ∀ c ∈ cs, 1 ≤ c) (hs : (cs.take k).sum = s) (hle : s ≤ zs.length) (_hsum : cs.sum ≤ zs.length) : (midL zs cs k s).length = zs.length := by
  have h1 := take_sum_le h k
  unfold midL
  rw [List.length_append, runL_len _ _ (fun c hc => h c (List.mem_of_mem_take hc)) (by omega), hs, List.length_drop]
  simp; omega

set_option maxRecDepth 100000 in
set_option maxHeartbeats 2000000 in
theorem runCuts_any (zs cs : List Int) (hn : zs.length ≤ 7) (hcs : CutsFor zs.length cs) (W : World) (v u : Value) (n m : Nat) (hv : Sees W v n (vals zs)) (hu : Sees W u m (vals cs)) :
    Calls Try.prog 74 #[v, u] W fun e w' => ∃ g c, e = .returned (.slice (some ⟨g, 0, none⟩) n c) ∧ w'.ownsRow W.heap.size 3 1 (.slice (some ⟨g, 0, none⟩) n c) n (vals (runL zs cs)) ∧ Below W.heap.size W w' := by
  have hl : zs.length = n := by simpa using hv.1
  have hm : cs.length = m := by simpa using hu.1
  have hlen := hcs.len
  have hn1 : 1 ≤ n := by have := hcs.1; omega
  have hn7 : n ≤ 7 := by omega
  have hm7 : m ≤ 7 := by omega
  obtain ⟨b, o, cap, rfl, hcap, _, hbl, hcell⟩ := sees_cells hv (by omega)
  obtain ⟨b2, o2, cap2, rfl, hcap2, _, hbl2, hcell2⟩ := sees_cells hu (by omega)
  have HC := Go.Lib.hid hcell
  have HC2 := Go.Lib.hid hcell2
  have HL := Go.Lib.hid (And.intro hl (And.intro hm hcs))
  clear hv hu hcell hcell2 hl hm hcs hlen hn
  go_enter Try.func74, Try.ntmps74
  go_wp2_with fail
  refine (Try.slices_Clone_int b o n cap zs _ (by have := HL.out.1; omega) (by omega) (fun j hj => HC.out j hj)).mono ?_
  rintro e w1 ⟨uu, rfl, ho, hne, hb⟩
  rw [List.take_of_length_le (by have := HL.out.1; omega)] at ho
  obtain ⟨g, c, rfl⟩ := own_form ho hne
  have H1 := Go.Lib.hid (And.intro ho hb)
  have hgW := (ho.lt g rfl).1
  clear ho hne hb
  go_wp2
  go_loopw [6, 13] (fun sv iv wr => ∃ (k s : Nat), k ≤ m ∧ s ≤ n ∧ iv = .int .i64 k ∧ sv = .int .i64 s ∧ Hid ((cs.take k).sum = s ∧ wr.ownsRow W.heap.size 3 1 (.slice (some ⟨g, 0, none⟩) n c) n (vals (midL zs cs k s)) ∧ Below W.heap.size W wr)) (fun _ i _ => m - (intOf i).toNat)
  case atStart => exact ⟨0, 0, Nat.zero_le _, Nat.zero_le _, rfl, rfl, Go.Lib.hid ⟨by simp, by simpa [midL, runL] using H1.out.1, H1.out.2⟩⟩
  case round =>
    obtain ⟨k, s, hk, hs, rfl, rfl, HQ⟩ := hrel
    clear H1
    by_cases hlt : k < m
    · obtain ⟨p, hp, hp1, hps⟩ : ∃ p : Nat, cs.getD k 0 = p ∧ 1 ≤ p ∧ s + p ≤ n := by
        have hkl : k < cs.length := by have := HL.out.2.1; omega
        have h1 := HL.out.2.2.2.2.1 (cs.getD k 0) (by simp [hkl])
        have h2 := take_sum_next hkl
        have h3 := (take_sum_le HL.out.2.2.2.2.1 (k + 1)).2
        have h4 := HL.out.2.2.2.2.2
        have h5 := HQ.out.1
        have h6 := HL.out.1
        exact ⟨(cs.getD k 0).toNat, by omega, by omega, by omega⟩
      obtain ⟨wo, rfl⟩ : ∃ wo, wo = wr := ⟨_, rfl⟩
      have hckp : wo.cell? ⟨b2, o2 + k, none⟩ = some (.int .i64 p) := by
        rw [(HQ.out.2.2.cell (p := ⟨b2, o2 + k, none⟩) hbl2), HC2.out k (by have := HL.out.2.1; omega), hp]
      have hkl : k < cs.length := by have := HL.out.2.1; omega
      have hml := mid_len (zs := zs) HL.out.2.2.2.2.1 HQ.out.1 (by have := HL.out.1; omega) (by have := HL.out.2.2.2.2.2; omega)
      have hmd : (midL zs cs k s).drop s = zs.drop s := by
        unfold midL
        have h1 := take_sum_le HL.out.2.2.2.2.1 k
        rw [List.drop_left' (by rw [runL_len _ _ (fun c hc => HL.out.2.2.2.2.1 c (List.mem_of_mem_take hc)) (by have := HL.out.2.2.2.2.2; omega), HQ.out.1]; simp)]
      have hcells := own_cells HQ.out.2.1
      have CR := Go.Lib.hid (Try.slices_Reverse_int_cells g s p (c - s) ((zs.drop s).take p) wo (by rw [List.length_take, List.length_drop]; have := HL.out.1; omega) (by omega) (fun j hj => by
        rw [List.length_take, List.length_drop] at hj
        have h := hcells.1 (s + j) (by have := HL.out.1; omega)
        rw [Nat.zero_add] at h
        rw [h]
        congr 2
        have e : (midL zs cs k s).getD (s + j) 0 = ((midL zs cs k s).drop s).getD j 0 := by simp
        rw [e, hmd]
        simp only [List.getD_eq_getElem?_getD]
        rw [List.getElem?_take_of_lt (by omega)]) (fun j hj => by
        have h := hcells.2 (s + j) (by omega)
        rw [Nat.zero_add] at h
        exact h))
      have HSET : Hid (setL (vals (midL zs cs k s)) s (((zs.drop s).take p).reverse.map (Value.int .i64)) = vals (midL zs cs (k + 1) (s + p)) ∧ (cs.take (k + 1)).sum = ((s + p : Nat) : Int)) := Go.Lib.hid
        ⟨mid_next HL.out.2.2.2.2.1 hkl HQ.out.1 hp (by have := HL.out.1; omega) (by have := HL.out.2.2.2.2.2; omega), by rw [take_sum_next hkl, HQ.out.1, hp]; omega⟩
      obtain ⟨Q, hQ⟩ : ∃ Q, (zs.drop s).take p = Q := ⟨_, rfl⟩
      have hQp : Q.take p = Q := by rw [← hQ, List.take_take]; simp
      rw [hQ, hQp] at CR
      rw [hQ] at HSET
      have hlti : (k : Int) < (m : Int) := by omega
      have hp7 : p ≤ 7 := by omega
      have hpsi : (s : Int) + (p : Int) ≤ (n : Int) := by omega
      have hcc : n ≤ c := by
        rcases HQ.out.2.1.2 with ⟨h0, _⟩ | ⟨g', cap', cur, h0, _, _, h1, _⟩
        · cases h0
        · cases h0; exact h1
      clear hp hkl hml hmd hcells hQ hQp
      go_wp2_with fail
      refine (CR.out).mono ?_
      rintro e w3 ⟨rfl, q, rfl⟩
      have hx := own_setCells (Q.reverse.map (Value.int .i64)) (wo.drewN q) s _ (own_drewN (q := q) HQ.out.2.1)
      have hbx := setCells_below hgW (Q.reverse.map (Value.int .i64)) (wo.drewN q) s (ExactC.below_drewN (q := q) HQ.out.2.2)
      rw [HSET.out.1] at hx
      obtain ⟨w3, hw3⟩ : ∃ w3, (wo.drewN q).setCells g s (Q.reverse.map (Value.int .i64)) = w3 := ⟨_, rfl⟩
      rw [hw3] at hx hbx ⊢
      have H3 : Hid ((cs.take (k + 1)).sum = ((s + p : Nat) : Int) ∧ w3.ownsRow W.heap.size 3 1 (.slice (some ⟨g, 0, none⟩) n c) n (vals (midL zs cs (k + 1) (s + p))) ∧ Below W.heap.size W w3) := Go.Lib.hid ⟨HSET.out.2, hx.1, hbx⟩
      clear hx hbx hw3 HSET CR hckp
      go_wp2
      go_roundw
      case rel => exact ⟨k + 1, s + p, by omega, by omega, by go_num, by first | rfl | go_num, H3⟩
      case measure => simp [intOf]; omega
    · obtain rfl : k = m := by omega
      have HF : Hid (wr.ownsRow W.heap.size 3 1 (.slice (some ⟨g, 0, none⟩) n c) n (vals (runL zs cs)) ∧ Below W.heap.size W wr) := Go.Lib.hid (by
        have h1 := HQ.out.1
        have h2 := HQ.out.2
        rw [List.take_of_length_le (by have := HL.out.2.1; omega), HL.out.2.2.2.2.2] at h1
        unfold midL at h2
        rw [List.take_of_length_le (by have := HL.out.2.1; omega), List.drop_of_length_le (by have := HL.out.1; omega), List.append_nil] at h2
        exact h2)
      go_wp2
      go_ret
      exact ⟨g, c, rfl, HF.out⟩

/-- The number before the i-th one. -/
def prv (zs : List Int) (i : Nat) : Int := if i = 0 then 0 else zs.getD (i - 1) 0

theorem falls_step {zs : List Int} (h : Ord zs) {i : Nat} (hi : i < zs.length) : fTo zs (i + 1) = (if prv zs i < zs.getD i 0 then fTo zs i ++ [1] else bump (fTo zs i)) ∧ (¬ prv zs i < zs.getD i 0 → 0 < i) := by
  obtain ⟨q, h1, h2⟩ := h.getD hi
  show (if 0 < i ∧ zs.getD i 0 < zs.getD (i - 1) 0 then bump (fTo zs i) else fTo zs i ++ [1]) = _ ∧ _
  by_cases h0 : i = 0
  · subst h0
    have e : prv zs 0 = 0 := rfl
    rw [e, if_neg (by omega), if_pos (by omega)]
    exact ⟨rfl, by omega⟩
  · have e : prv zs i = zs.getD (i - 1) 0 := by unfold prv; rw [if_neg h0]
    have hne : zs.getD (i - 1) 0 ≠ zs.getD i 0 := by
      intro e2
      have h3 : i - 1 < zs.length := by omega
      have e3 : zs[i - 1] = zs[i] := by
        have a1 : zs.getD (i - 1) 0 = zs[i - 1] := by simp [h3]
        have a2 : zs.getD i 0 = zs[i] := by simp [hi]
        rw [← a1, ← a2]; exact e2
      have := (List.getElem_inj h.2.2.2).1 e3
      omega
    rw [e]
    by_cases hx : zs.getD (i - 1) 0 < zs.getD i 0
    · rw [if_neg (by omega), if_pos hx]; exact ⟨rfl, fun h => absurd hx h⟩
    · rw [if_pos (by omega), if_neg hx]; exact ⟨rfl, fun _ => by omega⟩

set_option maxRecDepth 100000 in
set_option maxHeartbeats 2000000 in
theorem fallsOf_any (zs : List Int) (hord : Ord zs) (W : World) (v : Value) (n : Nat) (hv : Sees W v n (vals zs)) :
    Calls Try.prog 107 #[v] W fun e w' => ∃ g c, e = .returned (.slice (some ⟨g, 0, none⟩) (fallsL zs).length c) ∧ w'.ownsRow W.heap.size 3 1 (.slice (some ⟨g, 0, none⟩) (fallsL zs).length c) (fallsL zs).length (vals (fallsL zs)) ∧ Below W.heap.size W w' := by
  obtain ⟨i0, hi, hz0, hz1, hz2⟩ := info_parts infoI
  have hl : zs.length = n := by simpa using hv.1
  have hn7 : n ≤ 7 := by have := hord.2.1; omega
  have hn1 : 1 ≤ n := by have := hord.1; omega
  obtain ⟨b, o, cap2, rfl, _, _, hbl, hcell⟩ := sees_cells hv (by omega)
  have HC := Go.Lib.hid hcell
  have HL := Go.Lib.hid (And.intro hl hord)
  have ho1 := Go.Lib.hid (World.ownsRow_made (base := W.heap.size) (e := 3) (size := 1) W #[] 0 (Nat.le_refl _) (by unfold maxLen; omega) rfl)
  have hb0 := Go.Lib.hid ((Below.refl W.heap.size W).alloc (Nat.le_refl _) (.cells #[] 3))
  clear hcell hl hv hord
  go_enter Try.func107, Try.ntmps107
  go_wp2
  go_loopw [3, 4, 10] (fun ov lv iv wr => ∃ (i N g c : Nat) (L : List Int) (ls : Int), i ≤ n ∧ N ≤ i ∧ iv = .int .i64 i ∧ lv = .int .i64 ls ∧ 0 ≤ ls ∧ ls ≤ 7 ∧ ov = .slice (some ⟨g, 0, none⟩) N c ∧ Hid (L = fTo zs i ∧ L.length = N ∧ wr.ownsRow W.heap.size 3 1 (.slice (some ⟨g, 0, none⟩) N c) N (vals L) ∧ Below W.heap.size W wr ∧ ls = prv zs i)) (fun _ _ i _ => n - (intOf i).toNat)
  case atStart => exact ⟨0, 0, _, _, [], 0, Nat.zero_le _, Nat.le_refl _, rfl, rfl, by omega, by omega, rfl, Go.Lib.hid ⟨rfl, rfl, ho1.out, hb0.out, rfl⟩⟩
  case round =>
    obtain ⟨i, N, g, c, L, ls, hin, hNi, rfl, rfl, hls0, hls7, rfl, HQ⟩ := hrel
    clear ho1 hb0
    obtain ⟨wr, rfl⟩ : ∃ wq, wq = wr := ⟨_, rfl⟩
    by_cases hlt : i < n
    · have hcki : wr.cell? ⟨b, o + i, none⟩ = some (.int .i64 (zs.getD i 0)) := (HQ.out.2.2.2.1.cell (p := ⟨b, o + i, none⟩) hbl).trans (HC.out i (by have := HL.out.1; omega))
      obtain ⟨x, hx⟩ : ∃ x, zs.getD i 0 = x := ⟨_, rfl⟩
      rw [hx] at hcki
      have hlti : (i : Int) < (n : Int) := by omega
      have hst := falls_step HL.out.2 (i := i) (by have := HL.out.1; omega)
      rw [hx, ← HQ.out.2.2.2.2] at hst
      obtain ⟨qm, hq1, hq2⟩ := HL.out.2.getD (k := i) (by have := HL.out.1; omega)
      rw [hx] at hq1
      have hx0 : 0 ≤ x := by omega
      have hx7 : x ≤ 7 := by have := HL.out.1; omega
      have HX : Hid (x = prv zs (i + 1)) := Go.Lib.hid (by show _ = zs.getD i 0; exact hx.symm)
      have HST := Go.Lib.hid hst
      have hok := fTo_ok zs i
      rw [← HQ.out.1, HQ.out.2.1] at hok
      have HOK := Go.Lib.hid hok
      clear hok hx hst hq1 hq2
      by_cases hxy : ls < x
      · have hxd : decide (ls < x) = true := decide_eq_true hxy
        have HN : Hid (fTo zs (i + 1) = L ++ [1]) := Go.Lib.hid (by rw [HST.out.1, if_pos hxy, HQ.out.1])
        go_wp2_with (at_builtin; refine wpList_append_own _ rfl _ _ 24 rfl W.heap.size 3 i0 (.int .i64 0) 1 8 Try.underlying24 hi hz0 hz1 hz2 rfl (by decide) (.slice (some ⟨g, 0, none⟩) N c) N (vals L) rfl (HQ.out.2.2.1.alloc _) ⟨wr.heap.size, 0, none⟩ 1 1 [.int .i64 0] rfl rfl (cell_one_new _ _ _) (fun x hx => by simp at hx; subst hx; rfl) (by unfold maxLen; omega) (by omega) (by have := HQ.out.2.2.2.1.size; simp; omega) ?_; intro v' w3 hown3 hgrow3 hnil3; obtain ⟨g3, c3, rfl⟩ := ownsRow_succ hown3; have hcq : w3.cell? ⟨g3, N, none⟩ = some (.int .i64 0) := (by rw [hown3.cellAt N (by omega)]; have := HQ.out.2.1; simp [this]); have hf := hown3.frozenAt N; have hst3 := hown3.stored N (.int .i64 1); have H3 : Hid (L ++ [1] = fTo zs (i + 1) ∧ (L ++ [1]).length = N + 1 ∧ (w3.setCell ⟨g3, N, none⟩ (.int .i64 1)).ownsRow W.heap.size 3 1 (.slice (some ⟨g3, 0, none⟩) (N + 1) c3) (N + 1) (vals (L ++ [1])) ∧ Below W.heap.size W (w3.setCell ⟨g3, N, none⟩ (.int .i64 1)) ∧ x = prv zs (i + 1)) := Go.Lib.hid ⟨HN.out.symm, by simp [HQ.out.2.1], by have h := hst3.1; have e : (vals L ++ [Value.int .i64 0]).set N (.int .i64 1) = vals (L ++ [1]) := (by have := HQ.out.2.1; subst this; simp [vals, List.set_append_right]); rw [e] at h; exact h, ((HQ.out.2.2.2.1.alloc HQ.out.2.2.2.1.size _).grown hgrow3 (by have := HQ.out.2.2.2.1.size; simp; omega) (fun q hq => (HQ.out.2.2.1.lt q hq).1)).setCell (p := ⟨g3, N, none⟩) (hown3.lt g3 rfl).1 _, HX.out⟩; clear hown3 hgrow3 hnil3 hst3)
        go_roundw
        case rel => exact ⟨i + 1, N + 1, g3, c3, L ++ [1], x, by omega, by omega, by go_num, rfl, by omega, by omega, rfl, H3⟩
        case measure => simp [intOf]; omega
      · have hxd : decide (ls < x) = false := decide_eq_false hxy
        have hi0 : 0 < i := HST.out.2 hxy
        have HN : Hid (fTo zs (i + 1) = bump L) := Go.Lib.hid (by rw [HST.out.1, if_neg hxy, HQ.out.1])
        obtain ⟨aL, c0, hL⟩ := snoc_of (l := L) (by have := HOK.out.2.2.2 hi0; have := HQ.out.2.1; omega)
        have hLl : aL.length + 1 = N := by rw [← HQ.out.2.1, hL]; simp
        obtain ⟨q, rfl⟩ : ∃ q, N = q + 1 := ⟨aL.length, hLl.symm⟩
        have hcq : wr.cell? ⟨g, q, none⟩ = some (.int .i64 c0) := by
          have h := (own_cells HQ.out.2.2.1).1 q (by have := HQ.out.2.1; omega)
          rw [Nat.zero_add] at h
          rw [h, hL]
          congr 2
          have e : q = aL.length := by omega
          subst e
          simp
        have hf := HQ.out.2.2.1.frozenAt q
        have hcb : 1 ≤ c0 ∧ c0 ≤ 7 := by
          have h1 := HOK.out.2.1 c0 (by rw [hL]; simp)
          have h2 := sum_one HOK.out.2.1 (c := c0) (by rw [hL]; simp)
          have h3 := HOK.out.2.2.1
          omega
        obtain ⟨hc01, hc07⟩ := hcb
        have H3 : Hid (bump L = fTo zs (i + 1) ∧ (bump L).length = q + 1 ∧ (wr.setCell ⟨g, q, none⟩ (.int .i64 (c0 + 1))).ownsRow W.heap.size 3 1 (.slice (some ⟨g, 0, none⟩) (q + 1) c) (q + 1) (vals (bump L)) ∧ Below W.heap.size W (wr.setCell ⟨g, q, none⟩ (.int .i64 (c0 + 1))) ∧ x = prv zs (i + 1)) := Go.Lib.hid (by
          have hst := HQ.out.2.2.1.stored q (.int .i64 (c0 + 1))
          refine ⟨HN.out.symm, by rw [bump_len]; exact HQ.out.2.1, ?_, HQ.out.2.2.2.1.setCell (p := ⟨g, q, none⟩) (HQ.out.2.2.1.lt g rfl).1 _, HX.out⟩
          have e : (vals L).set q (.int .i64 (c0 + 1)) = vals (bump L) := by
            rw [hL, bump_snoc]
            have e2 : q = aL.length := by omega
            subst e2
            simp [vals, List.set_append_right]
          rw [← e]
          exact hst.1)
        have hqi : (q : Int) < (q : Int) + 1 := by omega
        clear hL hLl
        go_wp2
        go_roundw
        case rel => exact ⟨i + 1, q + 1, g, c, bump L, x, by omega, by omega, by go_num, rfl, by omega, by omega, rfl, H3⟩
        case measure => simp [intOf]; omega
    · obtain rfl : i = n := by omega
      have HF : Hid ((fallsL zs).length = N ∧ wr.ownsRow W.heap.size 3 1 (.slice (some ⟨g, 0, none⟩) N c) N (vals (fallsL zs)) ∧ Below W.heap.size W wr) := Go.Lib.hid (by
        have e : fallsL zs = L := by unfold fallsL; rw [HL.out.1, HQ.out.1]
        rw [e]; exact ⟨HQ.out.2.1, HQ.out.2.2.1, HQ.out.2.2.2.1⟩)
      go_wp2
      go_ret
      exact ⟨g, c, by rw [HF.out.1]; rfl, by rw [HF.out.1]; exact HF.out.2.1, HF.out.2.2⟩

theorem sees_own {w : World} {base n : Nat} {v : Value} {zs : List Int} (h : w.ownsRow base 3 1 v n (vals zs)) : Sees w v n (vals zs) := Sees.owns h

set_option maxRecDepth 100000 in
set_option maxHeartbeats 1000000 in
theorem l6Sweep_any (zs : List Int) (hord : Ord zs) (W : World) (v : Value) (n : Nat) (hv : Sees W v n (vals zs)) :
    Calls Try.prog 109 #[v] W fun e w' => ∃ g c, e = .returned (.slice (some ⟨g, 0, none⟩) n c) ∧ w'.ownsRow W.heap.size 3 1 (.slice (some ⟨g, 0, none⟩) n c) n (vals (fsw zs)) ∧ Below W.heap.size W w' := by
  have C1 := Go.Lib.hid (l6Falls_any zs hord W v n hv)
  have C2 := Go.Lib.hid (fun (w' : World) (hb : Below W.heap.size W w') (u : Value) (hu : Sees w' u (fallsL zs).length (vals (fallsL zs))) => l6Run_any zs (fallsL zs) hord.2.1 (falls_cuts hord) w' v u n _ (hv.grow hb) hu)
  obtain ⟨N, hN⟩ : ∃ N, (fallsL zs).length = N := ⟨_, rfl⟩
  rw [hN] at C1 C2
  obtain ⟨_, ad, cap, rfl, _, _⟩ := hv
  clear hN hord
  go_enter Try.func109, Try.ntmps109
  go_wp2_with fail
  refine (C1.out).mono ?_
  rintro e w1 ⟨g, c, rfl, ho, hb⟩
  have H1 := Go.Lib.hid (And.intro ho hb)
  clear ho hb
  go_wp2_with fail
  refine (C2.out w1 H1.out.2 _ (Sees.owns H1.out.1)).mono ?_
  rintro e w2 ⟨g2, c2, rfl, ho, hb⟩
  have H2 := Go.Lib.hid (And.intro (own_lower ho H1.out.2.size) (H1.out.2.trans (hb.mono H1.out.2.size)))
  clear ho hb
  go_wp2_with fail
  go_ret
  exact ⟨g2, c2, rfl, H2.out⟩

set_option maxRecDepth 100000 in
set_option maxHeartbeats 1000000 in
theorem fallSweepOf_any (zs : List Int) (hord : Ord zs) (W : World) (v : Value) (n : Nat) (hv : Sees W v n (vals zs)) :
    Calls Try.prog 103 #[v] W fun e w' => ∃ g c, e = .returned (.slice (some ⟨g, 0, none⟩) n c) ∧ w'.ownsRow W.heap.size 3 1 (.slice (some ⟨g, 0, none⟩) n c) n (vals (fsw zs)) ∧ Below W.heap.size W w' := by
  have C1 := Go.Lib.hid (fallsOf_any zs hord W v n hv)
  have C2 := Go.Lib.hid (fun (w' : World) (hb : Below W.heap.size W w') (u : Value) (hu : Sees w' u (fallsL zs).length (vals (fallsL zs))) => runCuts_any zs (fallsL zs) hord.2.1 (falls_cuts hord) w' v u n _ (hv.grow hb) hu)
  obtain ⟨N, hN⟩ : ∃ N, (fallsL zs).length = N := ⟨_, rfl⟩
  rw [hN] at C1 C2
  obtain ⟨_, ad, cap, rfl, _, _⟩ := hv
  clear hN hord
  go_enter Try.func103, Try.ntmps103
  go_wp2_with fail
  refine (C1.out).mono ?_
  rintro e w1 ⟨g, c, rfl, ho, hb⟩
  have H1 := Go.Lib.hid (And.intro ho hb)
  clear ho hb
  go_wp2_with fail
  refine (C2.out w1 H1.out.2 _ (Sees.owns H1.out.1)).mono ?_
  rintro e w2 ⟨g2, c2, rfl, ho, hb⟩
  have H2 := Go.Lib.hid (And.intro (own_lower ho H1.out.2.size) (H1.out.2.trans (hb.mono H1.out.2.size)))
  clear ho hb
  go_wp2_with fail
  go_ret
  exact ⟨g2, c2, rfl, H2.out⟩

end Go.Proofs.Ytecbfoodkcgehaa.CutsIC
