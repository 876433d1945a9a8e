/-
  Contract: slices.CompactFunc with slices.Equal leaves out repeated neighbours of lists of one length. Conditions: at most 100000 lists.
-/
import Derived.Test.YtmnggcnipjdimabCompMath
import Derived.Test.YtmnggcnipjdimabListsG
import Derived.Test.YtmnggcnipjdimabShelf
import Derived.Lib.SliceRun
import Derived.BigQuiet
import Derived.Deep.QuietTactic
namespace Go.Proofs.Ytmnggcnipjdimab.CompactC
open Go.RowKit SeesC IntsC ExactC CmpC ListsC ListsBC ListsEC ListsFC ListsGC OutsMath CompMath

theorem equal_any (xs ys : List Int) (n : Nat) (hx : xs.length = n) (hy : ys.length = n) (hn1 : 1 ≤ n) (hn : n ≤ 100) (r : Bool) (hr : decide (xs = ys) = r) (W : World) (v u : Value) (hv : Sees W v n (vals xs)) (hu : Sees W u n (vals ys)) :
    Calls Try.prog 67 #[v, u] W fun e w' => e = .returned (.bool r) ∧ Drawn W w' := by
  obtain ⟨b, o, c, rfl, _, _, _, hc⟩ := sees_cells hv (by omega)
  obtain ⟨b2, o2, c2, rfl, _, _, _, hc2⟩ := sees_cells hu (by omega)
  refine (Try.slices_Equal_int b o n c b2 o2 n c2 xs ys W (by omega) (by omega) (by omega) (by omega) hc hc2).mono ?_
  rintro e w' ⟨rfl, q, rfl⟩
  refine ⟨?_, q, rfl⟩
  rw [List.take_of_length_le (by omega), List.take_of_length_le (by omega), ← hr]
  have e : (xs == ys) = decide (xs = ys) := by by_cases h : xs = ys <;> simp [h]
  rw [e]

theorem row_block {w : World} {base g n cap : Nat} {ty : TypeId} {xs : List Value} (h : w.ownsRow base ty 1 (.slice (some ⟨g, 0, none⟩) n cap) n xs) : ∃ ex, w.heap[g]? = some (.cells (xs ++ ex).toArray ty (0, 0)) ∧ n + ex.length = cap ∧ xs.length = n ∧ base ≤ g ∧ cap ≤ maxLen := by
  have hl : xs.length = n := by simpa using h.1
  rcases h.2 with ⟨h0, _⟩ | ⟨g', cap', cur, h0, hb, hh, h1, hm, hsz, ht⟩
  · cases h0
  · cases h0
    refine ⟨cur.toList.drop n, ?_, ?_, hl, hb, hm⟩
    · rw [← ht, Nat.mul_one, List.take_append_drop]; simpa using hh
    · rw [List.length_drop, Array.length_toList, hsz]; omega

theorem block_row {w : World} {base g n cap : Nat} {ty : TypeId} {xs ex : List Value} (hh : w.heap[g]? = some (.cells (xs ++ ex).toArray ty (0, 0))) (hc : n + ex.length = cap) (hl : xs.length = n) (hb : base ≤ g) (hm : cap ≤ maxLen) : w.ownsRow base ty 1 (.slice (some ⟨g, 0, none⟩) n cap) n xs :=
  ⟨by simpa using hl, .inr ⟨g, cap, _, rfl, hb, hh, by omega, hm, by simp; omega, by simp [← hl]⟩⟩

/-- A row cut at its end. -/
theorem own_cut {w : World} {base g n m cap : Nat} {ty : TypeId} {xs last : List Value} (hx : xs.length = n) (h : w.ownsRow base ty 1 (.slice (some ⟨g, 0, none⟩) m cap) m (xs ++ last)) : w.ownsRow base ty 1 (.slice (some ⟨g, 0, none⟩) n cap) n xs := by
  obtain ⟨ex, h1, h2, h3, h4, h5⟩ := row_block h
  rw [List.append_assoc] at h1
  exact block_row h1 (by rw [List.length_append] at h3 ⊢; omega) hx h4 h5

/-- The rows kept of the first m. -/
def kg (gs : List (Nat × Nat)) (L : List (List Int)) (m : Nat) : List (Nat × Nat) := (idx L m).map (fun i => gs.getD i (0, 0))

theorem kg_len (gs : List (Nat × Nat)) (L : List (List Int)) (m : Nat) : (kg gs L m).length = (idx L m).length := by simp [kg]

theorem kg_set {gs : List (Nat × Nat)} {L : List (List Int)} {m n : Nat} (hk : kp L m = true) (hm : m < gs.length) (hle : (idx L m).length ≤ m) :
    ((kg gs L m ++ gs.drop (idx L m).length).map (sl n)).set (idx L m).length (sl n (gs.getD m (0, 0))) = (kg gs L (m + 1) ++ gs.drop (idx L m).length.succ).map (sl n) := by
  have hkl : (idx L m).length < gs.length := by omega
  have e1 : kg gs L (m + 1) = kg gs L m ++ [gs.getD m (0, 0)] := by
    unfold kg
    rw [idx_next, if_pos hk, List.map_append]
    rfl
  rw [e1, List.map_append, List.set_append_right _ _ (by simp [kg]), List.length_map, kg_len, Nat.sub_self, List.drop_eq_getElem_cons hkl, List.map_cons, List.set_cons_zero, List.map_append, List.map_append, List.append_assoc]
  rfl

theorem kg_rest {gs : List (Nat × Nat)} {L : List (List Int)} {m i n : Nat} (h1 : (idx L m).length ≤ i) (hi : i < gs.length) : ((kg gs L m ++ gs.drop (idx L m).length).map (sl n))[i]? = some (sl n (gs.getD i (0, 0))) := by
  rw [List.getElem?_map, List.getElem?_append_right (by rw [kg_len]; exact h1), kg_len, List.getElem?_drop]
  have e : (idx L m).length + (i - (idx L m).length) = i := by omega
  rw [e, List.getElem?_eq_getElem hi]
  simp [hi]

theorem kp_yes {L : List (List Int)} {j : Nat} (_hj : 1 ≤ j) (h : L.getD j [] ≠ L.getD (j - 1) []) : kp L j = true := by unfold kp; rw [decide_eq_true_eq]; exact .inr h
theorem kp_no {L : List (List Int)} {j : Nat} (hj : 1 ≤ j) (h : L.getD j [] = L.getD (j - 1) []) : kp L j = false := by
  unfold kp; rw [decide_eq_false_iff_not]
  rintro (h2 | h2)
  · omega
  · exact h2 h

theorem set_row {w X : World} {base g c n N i : Nat} {xs : List Value} (u : Value) (h : X.ownsRow base 24 1 (.slice (some ⟨g, 0, none⟩) N c) N xs) (hg : w.grownBy X (some g)) (_hn : n = n) :
    (X.setCell ⟨g, i, none⟩ u).ownsRow base 24 1 (.slice (some ⟨g, 0, none⟩) N c) N (xs.set i u) ∧ w.grownBy (X.setCell ⟨g, i, none⟩ u) (some g) := by
  have h1 := h.stored i u
  exact ⟨h1.1, IntsC.grown_trans hg h1.2⟩

theorem kg_all {gs : List (Nat × Nat)} {L : List (List Int)} {k : Nat} (h : ∀ j, j < k → kp L j = true) (hk : k ≤ gs.length) : kg gs L k = gs.take k ∧ (idx L k).length = k := by
  unfold kg
  rw [idx_all h]
  refine ⟨?_, by simp⟩
  apply List.ext_getElem
  · simp; omega
  · intro i h1 h2
    have : i < gs.length := by simp at h1; omega
    simp [this]

theorem kg_skip {gs : List (Nat × Nat)} {L : List (List Int)} {m : Nat} (h : kp L m = false) : kg gs L (m + 1) = kg gs L m ∧ idx L (m + 1) = idx L m := by
  have e : idx L (m + 1) = idx L m := by rw [idx_next, h]; simp
  exact ⟨by unfold kg; rw [e], e⟩

theorem idx_keep {L : List (List Int)} {m : Nat} (h : kp L m = true) : (idx L (m + 1)).length = (idx L m).length + 1 := by rw [idx_next, if_pos h]; simp

theorem sees_turn {w w' : World} {g n : Nat} {v : Value} {xs : List Value} (h : Sees w v n xs) (hg : w.grownBy w' (some g)) (hne : v.ownBlock ≠ some g) : Sees w' v n xs :=
  sees_mark h hg (fun _ a ha e => hne (by rw [ha]; exact e.symm))

theorem row_drewN {w : World} {base size n q : Nat} {ty : TypeId} {v : Value} {xs : List Value} (h : w.ownsRow base ty size v n xs) : (w.drewN q).ownsRow base ty size v n xs := h

theorem grown_drewN {w X : World} {row : Option Nat} (h : w.grownBy X row) (q : Nat) : w.grownBy (X.drewN q) row := ⟨h.os, h.tape, h.output, h.size, h.block⟩

set_option maxRecDepth 100000 in
set_option maxHeartbeats 4000000 in
theorem compact_any (base n g c : Nat) (L : List (List Int)) (w : World) (hv : Lists w base n (.slice (some ⟨g, 0, none⟩) L.length c) (L.map vals)) (hn1 : 1 ≤ n) (hn : n ≤ 100) (hlen : ∀ x ∈ L, x.length = n) (hN2 : L.length ≤ 100000) :
    Calls Try.prog 66 #[.slice (some ⟨g, 0, none⟩) L.length c, .func (.func 67) #[] #[]] w fun e w' =>
      e = .returned (.slice (some ⟨g, 0, none⟩) (dd L).length c) ∧ Lists w' base n (.slice (some ⟨g, 0, none⟩) (dd L).length c) ((dd L).map vals) ∧ w.grownBy w' (some g) := by
  obtain ⟨gs, hg, ho, hin, hgd, hne⟩ := hv
  obtain ⟨N, hLN⟩ : ∃ N, L.length = N := ⟨_, rfl⟩
  have e0 : (L.map vals).length = N := by simp [hLN]
  rw [e0] at hg ho hin
  rw [hLN] at ho hne hN2 ⊢
  have hll : ∀ i, i < N → (L.getD i []).length = n := fun i hi => hlen _ (by simp [show i < L.length by omega])
  have hsee : ∀ i, i < N → Sees w (sl n (gs.getD i (0, 0))) n (vals (L.getD i [])) := fun i hi => by
    have h1 := Sees.owns (hin i hi)
    have e1 : (L.map vals).getD i [] = vals (L.getD i []) := by simp [show i < L.length by omega]
    rw [e1] at h1; exact h1
  have hcN : N ≤ c ∧ c ≤ maxLen := by
    rcases ho.2 with ⟨h0, _⟩ | ⟨_, _, _, e1, _, _, h1, h2, _⟩
    · cases h0
    · cases e1; exact ⟨h1, h2⟩
  have hnb : ∀ i, i < N → (sl n (gs.getD i (0, 0))).ownBlock ≠ some g := fun i hi e => by
    have h1 := hne (gs.getD i (0, 0)) (mem_getD (by rw [hg]; exact hi))
    apply h1
    have e2 : some (gs.getD i (0, 0)).1 = some g := e
    rw [e2]; rfl
  have HE := Go.Lib.hid (And.intro hg (And.intro hgd (And.intro hin (And.intro hLN (And.intro hne hnb)))))
  have HS := Go.Lib.hid (And.intro hll hsee)
  have HO := Go.Lib.hid ho
  -- the answer where nothing is left out
  have SAME : ∀ X : World, Drawn w X → (∀ j, j < N → kp L j = true) → N = (dd L).length ∧ Lists X base n (.slice (some ⟨g, 0, none⟩) (dd L).length c) ((dd L).map vals) ∧ w.grownBy X (some g) := fun X hX hall => by
    have e1 : dd L = L := dd_all (fun j hj => hall j (by omega))
    rw [e1]
    obtain ⟨q, rfl⟩ := hX
    refine ⟨hLN.symm, ?_, ⟨rfl, rfl, rfl, Nat.le_refl _, fun _ _ _ => rfl⟩⟩
    rw [hLN]
    exact ⟨gs, by rw [e0]; exact hg, by rw [e0]; exact ho, fun i hi => hin i (by rw [e0] at hi; exact hi), hgd, hne⟩
  have HSAME := Go.Lib.hid SAME
  clear SAME ho hin hgd hne hll hsee hnb hg hlen e0
  unfold maxLen at hcN
  by_cases h2 : N < 2
  · have h2i : (N : Int) < 2 := by omega
    have HA := Go.Lib.hid (HSAME.out w (Drawn.refl _) (fun j hj => by
      have : j = 0 := by omega
      subst this; simp [kp]))
    go_enter Try.func66, Try.ntmps66
    go_wp2
    go_ret
    exact ⟨by rw [← HA.out.1]; rfl, HA.out.2.1, HA.out.2.2⟩
  · have h2i : ¬ (N : Int) < 2 := by omega
    go_enter Try.func66, Try.ntmps66
    go_wp2
    go_loopw [5] (fun kv wr => ∃ k : Nat, 1 ≤ k ∧ k ≤ N ∧ kv = .int .i64 k ∧ Drawn w wr ∧ Hid (∀ j, j < k → kp L j = true)) (fun kv _ => N - (intOf kv).toNat)
    case atStart => exact ⟨1, Nat.le_refl _, by omega, rfl, Drawn.refl _, Go.Lib.hid (fun j hj => by
      have : j = 0 := by omega
      subst this; simp [kp])⟩
    case round =>
      obtain ⟨k, hk1, hk, rfl, HD, HK⟩ := hrel
      by_cases hlt : k < N
      · obtain ⟨p, hp⟩ : ∃ p, gs.getD k (0, 0) = p := ⟨_, rfl⟩
        obtain ⟨q, hq⟩ : ∃ q, gs.getD (k - 1) (0, 0) = q := ⟨_, rfl⟩
        have hgl := HE.out.1
        have hck0 : w.cell? ⟨g, k, none⟩ = some (sl n p) := by rw [HO.out.cellAt k (by omega), ← hp]; simp [show k < gs.length by omega]
        have hcq0 : w.cell? ⟨g, k - 1, none⟩ = some (sl n q) := by rw [HO.out.cellAt (k - 1) (by omega), ← hq]; simp [show k - 1 < gs.length by omega]
        have hck : wr.cell? ⟨g, k, none⟩ = some (sl n p) := (HD.cell _).trans hck0
        have hcq : wr.cell? ⟨g, k - 1, none⟩ = some (sl n q) := (HD.cell _).trans hcq0
        have s1 := HS.out.2 k hlt
        have s2 := HS.out.2 (k - 1) (by omega)
        rw [hp] at s1
        rw [hq] at s2
        obtain ⟨r, hr⟩ : ∃ r, decide (L.getD k [] = L.getD (k - 1) []) = r := ⟨_, rfl⟩
        have CE := Go.Lib.hid (fun W (h : Drawn w W) => equal_any (L.getD k []) (L.getD (k - 1) []) n (HS.out.1 k hlt) (HS.out.1 (k - 1) (by omega)) hn1 hn r hr W (sl n p) (sl n q) (h.sees s1) (h.sees s2))
        have HR := Go.Lib.hid hr
        have HDH := Go.Lib.hid HD
        have hlti : (k : Int) < (N : Int) := by omega
        have hk1n : ((k : Int) - 1).toNat = k - 1 := by omega
        have hk10 : (0 : Int) ≤ (k : Int) - 1 := by omega
        unfold sl at hck hcq CE
        clear hp hq hgl hck0 hcq0 s1 s2 hr
        cases r with
        | true =>
          go_wp2
          go_quiet ((go_at_call 67; exact quiet_drawn (CE.out _ (HDH.out.next _))))
          obtain ⟨M, hM⟩ : ∃ M, N - k = M := ⟨_, rfl⟩
          obtain ⟨C2, hC2⟩ : ∃ C2, c - k = C2 := ⟨_, rfl⟩
          have HM := Go.Lib.hid (And.intro hM hC2)
          have HMi : Hid ((M : Int) = (N : Int) - (k : Int)) := Go.Lib.hid (by omega)
          have HST : Hid (k = (idx L (k + 1)).length ∧ (wr.drewN nq).ownsRow base 24 1 (.slice (some ⟨g, 0, none⟩) N c) N ((kg gs L (k + 1) ++ gs.drop k).map (sl n)) ∧ w.grownBy (wr.drewN nq) (some g)) := Go.Lib.hid (by
            have hkn := kp_no hk1 (of_decide_eq_true HR.out)
            have h1 := kg_skip (gs := gs) hkn
            have h3 := kg_all (gs := gs) HK.out (by rw [HE.out.1]; omega)
            obtain ⟨q0, rfl⟩ := HDH.out
            refine ⟨by rw [h1.2, h3.2], ?_, ⟨rfl, rfl, rfl, Nat.le_refl _, fun _ _ _ => rfl⟩⟩
            rw [h1.1, h3.1, List.take_append_drop]
            exact HO.out)
          have hkc : k ≤ c := by omega
          clear hck hcq hk1n hk10 HD
          go_wp2
          go_loopw [5, 7] (fun kv k2v wr => ∃ kk k2 : Nat, kv = .int .i64 kk ∧ k2v = .int .i64 k2 ∧ 1 ≤ k2 ∧ k2 ≤ M ∧ kk < k + k2 ∧ Hid (kk = (idx L (k + k2)).length ∧ wr.ownsRow base 24 1 (.slice (some ⟨g, 0, none⟩) N c) N ((kg gs L (k + k2) ++ gs.drop kk).map (sl n)) ∧ w.grownBy wr (some g))) (fun _ k2v _ => M - (intOf k2v).toNat)
          case atStart => exact ⟨k, 1, rfl, rfl, Nat.le_refl _, by omega, by omega, HST⟩
          case round =>
            obtain ⟨kk, k2, rfl, rfl, hk21, hk2M, hkk, HX⟩ := hrel
            clear HST
            have hgl := HE.out.1
            by_cases hlt2 : k2 < M
            · obtain ⟨wj, rfl⟩ : ∃ wj, wj = wr := ⟨_, rfl⟩
              obtain ⟨m, hm⟩ : ∃ m, k + k2 = m := ⟨_, rfl⟩
              obtain ⟨m1, hm1⟩ : ∃ m1, k + (k2 - 1) = m1 := ⟨_, rfl⟩
              have hmN : m < N := by have := HM.out.1; omega
              obtain ⟨p2, hp2⟩ : ∃ p2, gs.getD m (0, 0) = p2 := ⟨_, rfl⟩
              obtain ⟨q2, hq2⟩ : ∃ q2, gs.getD m1 (0, 0) = q2 := ⟨_, rfl⟩
              have hrow := HX.out.2.1
              have hkke := HX.out.1
              rw [hm] at hrow hkke
              have hck : wj.cell? ⟨g, m, none⟩ = some (sl n p2) := by rw [hrow.cellAt m (by omega), hkke, kg_rest (by omega) (by omega), hp2]
              have hcq : wj.cell? ⟨g, m1, none⟩ = some (sl n q2) := by rw [hrow.cellAt m1 (by omega), hkke, kg_rest (by omega) (by omega), hq2]
              have s1 := sees_turn (HS.out.2 m hmN) HX.out.2.2 (HE.out.2.2.2.2.2 m hmN)
              have s2 := sees_turn (HS.out.2 m1 (by omega)) HX.out.2.2 (HE.out.2.2.2.2.2 m1 (by omega))
              rw [hp2] at s1
              rw [hq2] at s2
              have e1 : m - 1 = m1 := by omega
              obtain ⟨r, hr⟩ : ∃ r, decide (L.getD m [] = L.getD m1 []) = r := ⟨_, rfl⟩
              have CE2 := Go.Lib.hid (fun W (h : Drawn wj W) => equal_any (L.getD m []) (L.getD m1 []) n (HS.out.1 m hmN) (HS.out.1 m1 (by omega)) hn1 hn r hr W (sl n p2) (sl n q2) (h.sees s1) (h.sees s2))
              have HR2 := Go.Lib.hid (And.intro hr (And.intro hp2 (And.intro hm (And.intro hrow (And.intro hkke e1)))))
              have hfz := hrow.frozenAt kk
              obtain ⟨old, hold⟩ : ∃ old, wj.cell? ⟨g, kk, none⟩ = some old := ⟨_, (hrow.cellAt kk (by omega)).trans (List.getElem?_eq_getElem (by have h := hrow.1; omega))⟩
              have hk2i : (k2 : Int) < (M : Int) := by omega
              have hkkN : (kk : Int) < (N : Int) := by omega
              have hk21n : ((k2 : Int) - 1).toNat = k2 - 1 := by omega
              have hk210 : (0 : Int) ≤ (k2 : Int) - 1 := by omega
              have hk2M1 : (k2 : Int) - 1 < (M : Int) := by omega
              unfold sl at hck hcq CE2
              clear hp2 hq2 hrow hkke s1 s2 hr e1 hgl
              cases r with
              | true =>
                go_wp2
                go_quiet ((go_at_call 67; exact quiet_drawn (CE2.out _ ⟨_, rfl⟩)))
                have HN : Hid (kk = (idx L (k + (k2 + 1))).length ∧ (wj.drewN nq).ownsRow base 24 1 (.slice (some ⟨g, 0, none⟩) N c) N ((kg gs L (k + (k2 + 1)) ++ gs.drop kk).map (sl n)) ∧ w.grownBy (wj.drewN nq) (some g)) := Go.Lib.hid (by
                  have hkn := kp_no (L := L) (j := m) (by omega) (by rw [HR2.out.2.2.2.2.2]; exact of_decide_eq_true HR2.out.1)
                  have h1 := kg_skip (gs := gs) hkn
                  have e3 : k + (k2 + 1) = m + 1 := by omega
                  rw [e3, h1.1, h1.2]
                  exact ⟨HR2.out.2.2.2.2.1, HR2.out.2.2.2.1, grown_drewN HX.out.2.2 _⟩)
                clear hck hcq hold hfz
                go_wp2
                go_roundw
                case rel => exact ⟨kk, k2 + 1, rfl, by go_num, by omega, by omega, by omega, HN⟩
                case measure => simp [intOf]; omega
              | false =>
                go_wp2
                go_quiet ((go_at_call 67; exact quiet_drawn (CE2.out _ ⟨_, rfl⟩)))
                have hck3 : (wj.drewN nq).cell? ⟨g, m, none⟩ = some (.slice (some ⟨p2.1, 0, none⟩) n p2.2) := hck
                have hold3 : (wj.drewN nq).cell? ⟨g, kk, none⟩ = some old := hold
                have hfz3 : (wj.drewN nq).frozen? ⟨g, kk, none⟩ = false := hfz
                have HN : Hid (kk + 1 = (idx L (k + (k2 + 1))).length ∧ ((wj.drewN nq).setCell ⟨g, kk, none⟩ (.slice (some ⟨p2.1, 0, none⟩) n p2.2)).ownsRow base 24 1 (.slice (some ⟨g, 0, none⟩) N c) N ((kg gs L (k + (k2 + 1)) ++ gs.drop (kk + 1)).map (sl n)) ∧ w.grownBy ((wj.drewN nq).setCell ⟨g, kk, none⟩ (.slice (some ⟨p2.1, 0, none⟩) n p2.2)) (some g)) := Go.Lib.hid (by
                  have hkn := kp_yes (L := L) (j := m) (by omega) (by rw [HR2.out.2.2.2.2.2]; exact of_decide_eq_false HR2.out.1)
                  have e3 : k + (k2 + 1) = m + 1 := by omega
                  have h4 := set_row (n := n) (i := kk) (.slice (some ⟨p2.1, 0, none⟩) n p2.2) (row_drewN (q := nq) HR2.out.2.2.2.1) (grown_drewN HX.out.2.2 nq) rfl
                  have h5 := kg_set (gs := gs) (L := L) (m := m) (n := n) hkn (by rw [HE.out.1]; exact hmN) (by have := HR2.out.2.2.2.2.1; omega)
                  rw [HR2.out.2.1, ← HR2.out.2.2.2.2.1] at h5
                  have e4 : sl n p2 = .slice (some ⟨p2.1, 0, none⟩) n p2.2 := rfl
                  rw [e4] at h5
                  rw [h5] at h4
                  rw [e3, idx_keep hkn, ← HR2.out.2.2.2.2.1]
                  exact ⟨rfl, h4.1, h4.2⟩)
                clear hck hcq hold hfz
                go_wp2
                go_roundw
                case rel => exact ⟨kk + 1, k2 + 1, by go_num, by go_num, by omega, by omega, by omega, HN⟩
                case measure => simp [intOf]; omega
            · have hk2M2 : k2 = M := by omega
              have hmN : k + k2 = N := by have := HM.out.1; omega
              have hrow := HX.out.2.1
              have hkke := HX.out.1
              rw [hmN] at hrow hkke
              have hkkN : kk < N := by omega
              have hcl : ∀ ty, (Builtin.clear_ #[38] ty #[.slice (some ⟨g, kk, none⟩) (N - kk) (c - kk)]).run Try.prog wr = .ok (.tuple #[]) (wr.setCells g kk (List.replicate (N - kk) (.slice none 0 0))) := fun ty =>
                Lib.run_clear_slice wr _ _ ty _ Try.underlying38 Try.zeroValue24 rfl rfl g kk _ _ (by omega)
                  (fun j hj => by rw [hrow.cellAt (kk + j) (by omega)]; rw [List.getElem?_eq_getElem (by have h := hrow.1; omega)]; rfl)
                  (fun j hj => hrow.frozenAt (kk + j))
              have HFIN : Hid (kk = (dd L).length ∧ Lists (wr.setCells g kk (List.replicate (N - kk) (.slice none 0 0))) base n (.slice (some ⟨g, 0, none⟩) kk c) ((dd L).map vals) ∧ w.grownBy (wr.setCells g kk (List.replicate (N - kk) (.slice none 0 0))) (some g)) := Go.Lib.hid (by
                have e5 : (dd L).length = kk := by rw [dd_len, HE.out.2.2.2.1, ← hkke]
                have h1 := own_setCells (List.replicate (N - kk) (.slice none 0 0)) wr kk _ hrow
                have hrl := hrow.1
                rw [Nat.mul_one] at hrl
                rw [setL_is _ _ _ (by rw [List.length_replicate]; omega)] at h1
                have hgr := IntsC.grown_trans HX.out.2.2 h1.2
                have hkl : ((kg gs L N).map (sl n)).length = kk := by rw [List.length_map, kg_len, ← hkke]
                have e6 : ((kg gs L N ++ gs.drop kk).map (sl n)).take kk = (kg gs L N).map (sl n) := by
                  rw [List.map_append, List.take_append_of_le_length (by omega), List.take_of_length_le (by omega)]
                rw [e6, List.append_assoc] at h1
                have hcut := own_cut hkl h1.1
                have hil : (idx L N).length = kk := hkke.symm
                refine ⟨e5.symm, ⟨kg gs L N, by rw [List.length_map, kg_len, e5, hil], by rw [List.length_map, e5]; exact hcut, ?_, ?_, ?_⟩, hgr⟩
                · intro i hi
                  rw [List.length_map, e5] at hi
                  have hi2 : i < (idx L N).length := by omega
                  obtain ⟨j, hj⟩ : ∃ j, (idx L N)[i] = j := ⟨_, rfl⟩
                  have hjN : j < N := idx_lt (L := L) (by rw [← hj]; exact List.getElem_mem _)
                  have x1 : (kg gs L N).getD i (0, 0) = gs.getD j (0, 0) := by unfold kg; rw [← hj]; simp [hi2]
                  have x2 : ((dd L).map vals).getD i [] = (L.map vals).getD j [] := by
                    have hi3 : i < (idx L L.length).length := by rw [HE.out.2.2.2.1]; exact hi2
                    have hjL : j < L.length := by rw [HE.out.2.2.2.1]; exact hjN
                    have x3 : (dd L).getD i [] = L.getD j [] := by
                      unfold dd
                      rw [← hj]
                      simp only [HE.out.2.2.2.1]
                      simp [hi2]
                    have hdl : i < (dd L).length := by omega
                    have x4 : ((dd L).map vals).getD i [] = vals ((dd L).getD i []) := by simp [hdl]
                    have x5 : (L.map vals).getD j [] = vals (L.getD j []) := by simp [hjL]
                    rw [x4, x5, x3]
                  rw [x1, x2]
                  exact own_mark (HE.out.2.2.1 j hjN) hgr (fun a ha e => HE.out.2.2.2.2.2 j hjN (by rw [ha]; exact e.symm))
                · have hs : ((kg gs L N).map (·.1)).Sublist (gs.map (·.1)) := by
                    have h7 : (List.range gs.length).map (fun i => gs.getD i (0, 0)) = gs := range_get gs (0, 0)
                    have h8 : (kg gs L N).Sublist gs := by
                      conv => rhs; rw [← h7]
                      unfold kg idx
                      rw [HE.out.1]
                      exact (List.filter_sublist).map _
                    exact h8.map _
                  exact List.Pairwise.sublist hs HE.out.2.1
                · intro p hp
                  unfold kg at hp
                  obtain ⟨j, hj, rfl⟩ := List.mem_map.1 hp
                  exact HE.out.2.2.2.2.1 _ (mem_getD (by rw [HE.out.1]; exact idx_lt hj)))
              have hkci : (kk : Int) ≤ (c : Int) := by omega
              have hkNi : (kk : Int) ≤ (N : Int) := by omega
              clear hrow hkke hk2M2
              go_wp2
              go_ret
              exact ⟨by rw [← HFIN.out.1]; rfl, by rw [← HFIN.out.1]; exact HFIN.out.2.1, HFIN.out.2.2⟩
        | false =>
          go_wp2
          go_quiet ((go_at_call 67; exact quiet_drawn (CE.out _ (HDH.out.next _))))
          have HKN : Hid (∀ j, j < k + 1 → kp L j = true) := Go.Lib.hid (fun j hj => by
            by_cases e : j = k
            · subst e
              exact kp_yes hk1 (of_decide_eq_false HR.out)
            · exact HK.out j (by omega))
          have HD2 : Drawn w (wr.drewN nq) := HDH.out.next _
          clear hck hcq HD
          go_wp2
          go_roundw
          case rel => exact ⟨k + 1, by omega, by omega, by go_num, HD2, HKN⟩
          case measure => simp [intOf]; omega
      · have hkN : k = N := by omega
        subst hkN
        have HA := Go.Lib.hid (HSAME.out wr HD HK.out)
        go_wp2
        go_ret
        exact ⟨by rw [← HA.out.1]; rfl, HA.out.2.1, HA.out.2.2⟩

end Go.Proofs.Ytmnggcnipjdimab.CompactC
