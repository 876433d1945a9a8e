/-
  Contracts: CountPlainEnds of the model and of the program. Conditions: none.
-/
import Derived.Test.YtpkjnlabjmpokabDoorPx2
import Derived.Test.YtpkjnlabjmpokabDoorPx25
import Derived.Test.YtpkjnlabjmpokabDoorPx10
import Derived.StillTailTactics
import Derived.WalkSmall
import Derived.WalkMore
import Derived.Deep.Cut

namespace Go.Proofs.YtpkjnlabjmpokabDoor.EPcC
open Go.RowKit SeesC IntsC ExactC NumC IterC OrdMath WordMath InC WordC RunC EPcM

set_option maxRecDepth 100000 in
set_option maxHeartbeats 2000000 in
theorem cpe_any : ∀ (q p h : Nat), 2 * p + h = q → p + h ≤ 7 → ∀ W : World, Calls Tryd.prog 41 #[.int .i64 (p : Int), .int .i64 (h : Int)] W fun e w' => e = .returned (.int .i64 (cp q p h : Nat)) ∧ w' = W := by
  intro q
  induction q with
  | zero =>
    intro p h e h7 W
    obtain rfl : p = 0 := by omega
    obtain rfl : h = 0 := by omega
    go_enter Tryd.func41, Tryd.ntmps41
    go_wp2
    go_ret
    exact ⟨rfl, rfl⟩
  | succ q ih =>
    intro p h e h7 W
    have hb := cp_le h7
    rw [e] at hb
    have hst : cp (q + 1) p h = (if p = 0 ∧ h = 0 then 1 else (if 0 < p then cp q (p - 1) (h + 1) else 0) + (if 0 < h then min h 2 * cp q p (h - 1) else 0)) := rfl
    rw [if_neg (by omega)] at hst
    obtain ⟨T, hT⟩ : ∃ T, cp (q + 1) p h = T := ⟨_, rfl⟩
    rw [hT] at hst hb ⊢
    have IH := Go.Lib.hid ih
    clear ih hT
    cases p with
    | zero =>
      obtain ⟨h', rfl⟩ : ∃ h', h = h' + 1 := ⟨h - 1, by omega⟩
      have C2 := Go.Lib.hid (IH.out 0 h' (by omega) (by omega))
      have hc2 := cp_le (p := 0) (h := h') (by omega)
      rw [show 2 * 0 + h' = q by omega] at hc2
      obtain ⟨y, hy⟩ : ∃ y, cp q 0 h' = y := ⟨_, rfl⟩
      rw [if_neg (by omega), if_pos (by omega), show h' + 1 - 1 = h' by omega, hy, Nat.zero_add] at hst
      rw [hy] at C2 hc2
      have hh0 : ((h' : Int) + 1 == 0) = false := by rw [beq_eq_false_iff_ne]; omega
      have hh1 : (((h' + 1 : Nat) : Int) == 0) = false := by rw [beq_eq_false_iff_ne]; omega
      have HST := Go.Lib.hid hst
      clear hst hy e
      by_cases hm : h' = 0
      · subst hm
        have HE : Hid (T = y) := Go.Lib.hid (by rw [HST.out]; simp)
        have hmin1 : min (1 : Int) 2 = 1 := by decide
        go_enter Tryd.func41, Tryd.ntmps41
        go_wp2_with fail
        refine (C2.out _).mono ?_
        rintro e w1 ⟨rfl, rfl⟩
        go_wp2_with fail
        go_ret
        exact ⟨by rw [HE.out]; simp, rfl⟩
      · have HE : Hid (T = 2 * y) := Go.Lib.hid (by rw [HST.out, show min (h' + 1) 2 = 2 by omega])
        have hmin : min ((h' : Int) + 1) 2 = 2 := by omega
        have hmin2 : min (((h' + 1 : Nat) : Int)) 2 = 2 := by omega
        have q1 : IntKind.i64.wrap ((h' : Int) + 1 - 1) = (h' : Int) := by rw [IntWalk.i64_in _ (by omega)]; omega
        go_enter Tryd.func41, Tryd.ntmps41
        go_wp2_with fail
        refine (C2.out _).mono ?_
        rintro e w1 ⟨rfl, rfl⟩
        go_wp2_with fail
        go_ret
        exact ⟨by rw [HE.out]; simp, rfl⟩
    | succ p =>
      have C1 := Go.Lib.hid (IH.out p (h + 1) (by omega) (by omega))
      have hc1 := cp_le (p := p) (h := h + 1) (by omega)
      rw [show 2 * p + (h + 1) = q by omega] at hc1
      obtain ⟨x, hx⟩ : ∃ x, cp q p (h + 1) = x := ⟨_, rfl⟩
      rw [if_pos (by omega), show p + 1 - 1 = p by omega, hx] at hst
      rw [hx] at C1 hc1
      have hp0 : ((p : Int) + 1 == 0) = false := by rw [beq_eq_false_iff_ne]; omega
      have hp1 : (((p + 1 : Nat) : Int) == 0) = false := by rw [beq_eq_false_iff_ne]; omega
      have q0 : IntKind.i64.wrap ((p : Int) + 1 - 1) = (p : Int) := by rw [IntWalk.i64_in _ (by omega)]; omega
      have q2 : IntKind.i64.wrap ((h : Int) + 1) = ((h + 1 : Nat) : Int) := by rw [IntWalk.i64_in _ (by omega)]; omega
      cases h with
      | zero =>
        have HE : Hid (T = x) := Go.Lib.hid (by rw [hst, if_neg (by omega)]; rfl)
        clear hst hx e
        go_enter Tryd.func41, Tryd.ntmps41
        go_wp2_with fail
        refine (C1.out _).mono ?_
        rintro e w1 ⟨rfl, rfl⟩
        go_wp2_with fail
        go_ret
        exact ⟨by rw [HE.out]; simp, rfl⟩
      | succ h' =>
        have C2 := Go.Lib.hid (IH.out (p + 1) h' (by omega) (by omega))
        have hc2 := cp_le (p := p + 1) (h := h') (by omega)
        rw [show 2 * (p + 1) + h' = q by omega] at hc2
        obtain ⟨y, hy⟩ : ∃ y, cp q (p + 1) h' = y := ⟨_, rfl⟩
        rw [if_pos (by omega), show h' + 1 - 1 = h' by omega, hy] at hst
        rw [hy] at C2 hc2
        have q1 : IntKind.i64.wrap ((h' : Int) + 1 - 1) = (h' : Int) := by rw [IntWalk.i64_in _ (by omega)]; omega
        have HST := Go.Lib.hid hst
        clear hst hx hy e
        by_cases hm : h' = 0
        · subst hm
          have HE : Hid (T = x + y) := Go.Lib.hid (by rw [HST.out]; simp)
          have hmin1 : min (1 : Int) 2 = 1 := by decide
          go_enter Tryd.func41, Tryd.ntmps41
          go_wp2_with fail
          refine (C1.out _).mono ?_
          rintro e w1 ⟨rfl, rfl⟩
          go_wp2_with fail
          refine (C2.out _).mono ?_
          rintro e w1 ⟨rfl, rfl⟩
          go_wp2_with fail
          go_ret
          exact ⟨by rw [HE.out]; simp, rfl⟩
        · have HE : Hid (T = x + 2 * y) := Go.Lib.hid (by rw [HST.out, show min (h' + 1) 2 = 2 by omega])
          have hmin : min ((h' : Int) + 1) 2 = 2 := by omega
          have hmin2 : min (((h' + 1 : Nat) : Int)) 2 = 2 := by omega
          go_enter Tryd.func41, Tryd.ntmps41
          go_wp2_with fail
          refine (C1.out _).mono ?_
          rintro e w1 ⟨rfl, rfl⟩
          go_wp2_with fail
          refine (C2.out _).mono ?_
          rintro e w1 ⟨rfl, rfl⟩
          go_wp2_with fail
          go_ret
          exact ⟨by rw [HE.out]; simp, rfl⟩

set_option maxRecDepth 100000 in
set_option maxHeartbeats 1000000 in
theorem implCPE (a : Int) (r : Int) (b : Bool) (h : cpAns a = (r, b)) (hw : (Lit.int .i64 a).wf = true) (W : World) :
    Calls Tryd.prog 15 #[.int .i64 a] W fun e w' => e = .returned (.tuple #[.int .i64 r, .bool b]) ∧ Below W.heap.size W w' := by
  unfold cpAns at h
  by_cases h1 : a < 1
  · rw [if_neg (by omega)] at h
    cases h
    go_enter Tryd.func15, Tryd.ntmps15
    go_wp2
    go_ret2
    exact ⟨rfl, Below.refl _ _⟩
  · by_cases h7 : 7 < a
    · rw [if_neg (by omega)] at h
      cases h
      go_enter Tryd.func15, Tryd.ntmps15
      go_wp2
      go_ret2
      exact ⟨rfl, Below.refl _ _⟩
    · obtain ⟨n, rfl⟩ : ∃ n : Nat, a = (n : Int) := ⟨a.toNat, by omega⟩
      have hn1 : 1 ≤ n := by omega
      have hn7 : n ≤ 7 := by omega
      rw [if_pos ⟨by omega, by omega⟩, Int.toNat_natCast] at h
      obtain ⟨h2, h3⟩ := Prod.mk.inj h
      subst h3
      have D := fun (X : World) => cpe_any (2 * n) n 0 (by omega) (by omega) X
      rw [h2] at D
      have CC := Go.Lib.hid D
      clear D h h2
      go_enter Tryd.func15, Tryd.ntmps15
      go_wp2_with fail
      refine (CC.out _).mono ?_
      rintro e w1 ⟨rfl, rfl⟩
      go_wp2_with fail
      go_ret2
      exact ⟨rfl, Below.refl _ _⟩

set_option maxRecDepth 100000 in
theorem l1Least_two (j : Nat) (W : World) :
    Calls Tryd.prog 42 #[.int .i64 (j : Int), .int .i64 2] W fun e w' => e = .returned (.int .i64 ((min j 2 : Nat) : Int)) ∧ w' = W := by
  by_cases h : j < 2
  · have hi : (j : Int) < 2 := by omega
    have HM : Hid (min j 2 = j) := Go.Lib.hid (by omega)
    go_enter Tryd.func42, Tryd.ntmps42
    go_wp2
    go_ret
    exact ⟨by rw [HM.out]; rfl, rfl⟩
  · have hi : ¬ (j : Int) < 2 := by omega
    have HM : Hid (min j 2 = 2) := Go.Lib.hid (by omega)
    go_enter Tryd.func42, Tryd.ntmps42
    go_wp2
    go_ret
    exact ⟨by rw [HM.out]; rfl, rfl⟩

def nats (l : List Nat) : List Int := l.map Int.ofNat

/-- A row of N numbers of the call's own. -/
def Nr (W : World) (g N : Nat) (l : List Nat) (w : World) : Prop := l.length = N ∧ w.ownsRow W.heap.size 3 1 (.slice (some ⟨g, 0, none⟩) N N) N (vals (nats l))

section
variable {W : World} {g N : Nat} {l : List Nat} {w : World}
theorem Nr.cell (h : Nr W g N l w) {k : Nat} (hk : k < N) : w.cell? ⟨g, k, none⟩ = some (.int .i64 (l.getD k 0 : Nat)) := by
  rw [h.2.cellAt k (by omega)]
  have hk2 : k < l.length := by rw [h.1]; exact hk
  unfold vals nats
  rw [List.getElem?_map, List.getElem?_map, List.getElem?_eq_getElem hk2, List.getD_eq_getElem?_getD, List.getElem?_eq_getElem hk2]
  rfl

theorem Nr.set (h : Nr W g N l w) (k x : Nat) : Nr W g N (l.set k x) (w.setCell ⟨g, k, none⟩ (.int .i64 (x : Nat))) ∧ w.grownBy (w.setCell ⟨g, k, none⟩ (.int .i64 (x : Nat))) (some g) := by
  have hs := World.ownsRow.stored h.2 k (.int .i64 (x : Nat))
  refine ⟨⟨by rw [List.length_set]; exact h.1, ?_⟩, hs.2⟩
  have e : vals (nats (l.set k x)) = (vals (nats l)).set k (.int .i64 (x : Nat)) := by
    unfold vals nats
    rw [List.map_set, List.map_set]
    rfl
  rw [e]
  exact hs.1

theorem Nr.other {g' : Nat} {w' : World} (h : Nr W g N l w) (hg : w.grownBy w' (some g')) (hne : g ≠ g') : Nr W g N l w' :=
  ⟨h.1, own_mark h.2 hg (fun a ha e => by
    simp only [Value.ownBlock, Option.some.injEq] at ha e
    omega)⟩

theorem Nr.call {w' : World} (h : Nr W g N l w) (hb : Below w.heap.size w w') : Nr W g N l w' := ⟨h.1, kept_call h.2 hb⟩
theorem Nr.lt (h : Nr W g N l w) : W.heap.size ≤ g ∧ g < w.heap.size := h.2.lt g rfl
theorem Nr.frozen (h : Nr W g N l w) (k : Nat) : w.frozen? ⟨g, k, none⟩ = false := h.2.frozenAt k
end

theorem made_nats (N : Nat) : (madeCells (Value.int .i64 0).cells (N * 1)).toList = vals (nats (List.replicate N 0)) := by
  rw [made_int]
  unfold vals nats
  simp

/-- Two rows of the call's own. -/
def Two (W : World) (g g' N : Nat) (ws nx : List Nat) (w : World) : Prop := Nr W g N ws w ∧ Nr W g' N nx w ∧ Below W.heap.size W w ∧ g ≠ g'

theorem Two.set {W : World} {g g' N : Nat} {ws nx : List Nat} {w : World} (h : Two W g g' N ws nx w) (k x : Nat) : Two W g g' N ws (nx.set k x) (w.setCell ⟨g', k, none⟩ (.int .i64 (x : Nat))) :=
  ⟨h.1.other (h.2.1.set k x).2 h.2.2.2, (h.2.1.set k x).1, h.2.2.1.setCell (p := ⟨g', k, none⟩) h.2.1.lt.1 _, h.2.2.2⟩

theorem Two.drew {W : World} {g g' N : Nat} {ws nx : List Nat} {w : World} (h : Two W g g' N ws nx w) : Two W g g' N ws nx w.drew :=
  ⟨h.1, h.2.1, h.2.2.1.trans (Drawn.below (w' := w.drew) ⟨1, rfl⟩ _), h.2.2.2⟩

theorem stepJ_yes {ws nx : List Nat} {j : Nat} (h : j + 1 < ws.length) : stepJ ws nx j = if 0 < j then (nx.set (j + 1) (nx.getD (j + 1) 0 + ws.getD j 0)).set (j - 1) ((nx.set (j + 1) (nx.getD (j + 1) 0 + ws.getD j 0)).getD (j - 1) 0 + ws.getD j 0 * min j 2) else nx.set (j + 1) (nx.getD (j + 1) 0 + ws.getD j 0) := by
  unfold stepJ
  rw [if_pos h]
theorem stepJ_no {ws nx : List Nat} {j : Nat} (h : ¬ j + 1 < ws.length) : stepJ ws nx j = if 0 < j then nx.set (j - 1) (nx.getD (j - 1) 0 + ws.getD j 0 * min j 2) else nx := by
  unfold stepJ
  rw [if_neg h]

set_option maxRecDepth 100000 in
set_option maxHeartbeats 4000000 in
theorem specCPE (a : Int) (r : Int) (b : Bool) (h : cpAns a = (r, b)) (hw : (Lit.int .i64 a).wf = true) (W : World) :
    Calls Tryd.prog 16 #[.int .i64 a] W fun e w' => e = .returned (.tuple #[.int .i64 r, .bool b]) ∧ Below W.heap.size W w' := by
  unfold cpAns at h
  by_cases h17 : 1 ≤ a ∧ a ≤ 7
  · obtain ⟨i0, hi, hz0, hz1, hz2⟩ := info_parts infoI
    obtain ⟨n, rfl⟩ : ∃ n : Nat, a = (n : Int) := ⟨a.toNat, by omega⟩
    have hn1 : 1 ≤ n := by omega
    have hn7 : n ≤ 7 := by omega
    rw [if_pos h17, Int.toNat_natCast] at h
    obtain ⟨h1, h2⟩ := Prod.mk.inj h
    subst h2
    have HR : Hid (((waysTo n (2 * n)).getD 0 0 : Int) = r) := Go.Lib.hid (by rw [ways_cp hn7]; exact h1)
    have C1 := Go.Lib.hid (fun w2 => l1In_any (n : Int) 1 7 w2 true (by rw [decide_eq_true_iff]; exact h17))
    have CL := Go.Lib.hid (fun (j : Nat) (X : World) => l1Least_two j X)
    have HSM := Go.Lib.hid (fun (i j k : Nat) (hi : i < 2 * n) (hj : j ≤ 2 * n + 1) => step_small hn7 hi hj k)
    have HWM := Go.Lib.hid (fun (i k : Nat) (hi : i ≤ 2 * n) => ways_small hn7 hi k)
    have h2n : (2 : Int) * (n : Int) = ((2 * n : Nat) : Int) := by simp
    obtain ⟨K, hK⟩ : ∃ K, 2 * n = K := ⟨_, rfl⟩
    have hK1 : 2 ≤ K := by omega
    have hK14 : K ≤ 14 := by omega
    have HL : Hid (∀ i, (waysTo n i).length = K + 1) := Go.Lib.hid (fun i => by rw [waysTo_len, hK])
    have HW0 : Hid (waysTo n 0 = (List.replicate (K + 1) 0).set 0 1) := Go.Lib.hid (by show (List.replicate (2 * n + 1) 0).set 0 1 = _; rw [hK])
    have HWS : Hid (∀ i, waysTo n (i + 1) = stepTo (waysTo n i) (K + 1)) := Go.Lib.hid (fun i => by show stepTo (waysTo n i) (2 * n + 1) = _; rw [hK])
    rw [hK] at h2n HR HSM HWM
    clear h h1 h17 hK
    go_enter Tryd.func16, Tryd.ntmps16
    go_wp2_with fail
    refine (C1.out _).mono ?_
    rintro e w1 ⟨rfl, rfl⟩
    go_upto_region 4 with (at_make; refine wpList_make_full _ rfl _ _ 24 rfl W.heap.size 3 i0 (.int .i64 0) 1 Tryd.underlying24 hi hz0 hz1 .i64 .i64 (K + 1) (K + 1) (K + 1) rfl rfl rfl rfl (by rw [hz2]; omega) (by unfold maxLen; omega) (Nat.le_refl _) ?_; intro w2 hown2 hgrow2)
    rw [made_nats] at hown2
    have hb2 : Below W.heap.size W w2 := (Below.refl _ _).grown hgrow2 (Nat.le_refl _) (fun k hk => by cases hk)
    have hN0 : Nr W W.heap.size (K + 1) (List.replicate (K + 1) 0) w2 := ⟨by simp, hown2⟩
    obtain ⟨z0, hz0'⟩ : ∃ z0, w2.cell? ⟨W.heap.size, 0, none⟩ = some z0 := ⟨_, hN0.cell (k := 0) (by omega)⟩
    have hf0 := hN0.frozen 0
    have H0 : Hid (Nr W W.heap.size (K + 1) (waysTo n 0) (w2.setCell ⟨W.heap.size, 0, none⟩ (.int .i64 1)) ∧ Below W.heap.size W (w2.setCell ⟨W.heap.size, 0, none⟩ (.int .i64 1))) := Go.Lib.hid ⟨by rw [HW0.out]; exact (hN0.set 0 1).1, hb2.setCell (p := ⟨W.heap.size, 0, none⟩) (Nat.le_refl _) _⟩
    have hK0 : (0 : Int) < (K : Int) + 1 := by omega
    clear hown2 hgrow2 hb2 hN0
    go_wp2_with fail
    clear hz0' hf0
    go_loopw [4, 5] (fun wv iv wr => ∃ (i g : Nat), i ≤ K ∧ iv = .int .i64 i ∧ wv = .slice (some ⟨g, 0, none⟩) (K + 1) (K + 1) ∧ Hid (Nr W g (K + 1) (waysTo n i) wr ∧ Below W.heap.size W wr)) (fun _ i _ => K - (intOf i).toNat)
    case atStart => exact ⟨0, W.heap.size, Nat.zero_le _, rfl, rfl, H0⟩
    case round =>
      obtain ⟨i, g, hiK, rfl, rfl, HX⟩ := hrel
      clear H0
      by_cases hlt : i < K
      · have hlti : (i : Int) < (K : Int) := by omega
        have hWs := HX.out.2.size
        go_upto_region 9 with (at_make; refine wpList_make_full _ rfl _ _ 24 rfl W.heap.size 3 i0 (.int .i64 0) 1 Tryd.underlying24 hi hz0 hz1 .i64 .i64 (K + 1) (K + 1) (K + 1) rfl rfl rfl rfl (by rw [hz2]; omega) (by unfold maxLen; omega) hWs ?_; intro w3 hown3 hgrow3)
        rw [made_nats] at hown3
        obtain ⟨ws, hws⟩ : ∃ ws, waysTo n i = ws := ⟨_, rfl⟩
        have HWL : Hid (ws.length = K + 1) := Go.Lib.hid (by rw [← hws]; exact HL.out i)
        have hgl := HX.out.1.lt
        have h3 : Two W g wr.heap.size (K + 1) ws (stepTo ws 0) w3 := by
          refine ⟨?_, ⟨by rw [stepTo_len]; exact HWL.out, ?_⟩, HX.out.2.grown hgrow3 hWs (fun k hk => by cases hk), by omega⟩
          · rw [← hws]
            exact ⟨HX.out.1.1, own_mark HX.out.1.2 hgrow3 (fun a ha e => by cases e)⟩
          · show w3.ownsRow _ _ _ _ _ (vals (nats (List.replicate ws.length 0)))
            rw [HWL.out]
            exact hown3
        obtain ⟨g', hg'⟩ : ∃ g', wr.heap.size = g' := ⟨_, rfl⟩
        rw [hg'] at h3 ⊢
        have H3 := Go.Lib.hid h3
        have HSB : Hid (∀ (j k : Nat), j ≤ K + 1 → (stepTo ws j).getD k 0 ≤ 10000000) := Go.Lib.hid (fun j k hj => by rw [← hws]; exact HSM.out i j k hlt hj)
        have HWB : Hid (∀ k, ws.getD k 0 ≤ 10000000) := Go.Lib.hid (fun k => by rw [← hws]; exact HWM.out i k hiK)
        have HNW : Hid (waysTo n (i + 1) = stepTo ws (K + 1)) := Go.Lib.hid (by rw [HWS.out, hws])
        clear hown3 hgrow3 h3 hgl hg' hws
        go_wp2_with fail
        go_loopw [7] (fun jv wr => ∃ (j : Nat), j ≤ K + 1 ∧ jv = .int .i64 j ∧ Hid (Two W g g' (K + 1) ws (stepTo ws j) wr)) (fun j _ => K + 1 - (intOf j).toNat)
        case atStart => exact ⟨0, Nat.zero_le _, rfl, H3⟩
        case round =>
          obtain ⟨j, hjK, rfl, HX⟩ := hrel
          clear H3
          by_cases hjk : j ≤ K
          · have hjki : (j : Int) ≤ (K : Int) := by omega
            obtain ⟨nx, hnx⟩ : ∃ nx, stepTo ws j = nx := ⟨_, rfl⟩
            have HNX := Go.Lib.hid hnx
            have HNB : Hid (∀ k, nx.getD k 0 ≤ 10000000) := Go.Lib.hid (fun k => by rw [← hnx]; exact HSB.out j k hjK)
            rw [hnx] at HX
            obtain ⟨y, hy⟩ : ∃ y, ws.getD j 0 = y := ⟨_, rfl⟩
            have hyb : y ≤ 10000000 := by rw [← hy]; exact HWB.out j
            have HY := Go.Lib.hid hy
            clear hnx
            by_cases hjlt : j < K
            · obtain ⟨j1, hj1⟩ : ∃ j1, j + 1 = j1 := ⟨_, rfl⟩
              have HJ1 := Go.Lib.hid hj1
              have c1 := HX.out.2.1.cell (k := j1) (by omega)
              have c2 := HX.out.1.cell (k := j) (by omega)
              obtain ⟨x, hx⟩ : ∃ x, nx.getD j1 0 = x := ⟨_, rfl⟩
              rw [hx] at c1
              rw [hy] at c2
              have hxb : x ≤ 10000000 := by rw [← hx]; exact HNB.out j1
              have q1 : IntKind.i64.wrap ((j : Int) + 1) = (j1 : Int) := by rw [IntWalk.i64_in _ (by omega)]; omega
              have q2 : IntKind.i64.wrap ((x : Int) + (y : Int)) = ((x + y : Nat) : Int) := by rw [IntWalk.i64_in _ (by omega)]; omega
              have hji : (j : Int) < (K : Int) := by omega
              have hj1i : (j1 : Int) < (K : Int) + 1 := by omega
              have hj1n : (j1 : Int) < ((K + 1 : Nat) : Int) := by omega
              have hjn : (j : Int) < ((K + 1 : Nat) : Int) := by omega
              have hjn2 : (j : Int) < (K : Int) + 1 := by omega
              have HXX := Go.Lib.hid hx
              obtain ⟨wo, hwo⟩ : ∃ wo, wo = wr := ⟨_, rfl⟩
              subst hwo
              clear hx hj1
              go_wp2_with fail
              refine wp_region_still_tail 14 (by kernel_rfl) (by kernel_rfl) ?_
              simp only [List.take_succ_cons, List.take_zero, List.drop_succ_cons, List.drop_zero]
              repeat still_step
              refine wpStill_nil ?_
              obtain ⟨W3, hW3⟩ : ∃ W3, wo.drew = W3 := ⟨_, rfl⟩
              have hW3' : ({ heap := wo.heap, tape := wo.tape, drawn := wo.drawn + 1, os := wo.os, output := wo.output } : World) = W3 := hW3
              rw [hW3']
              have H3 : Hid (Two W g g' (K + 1) ws nx W3) := Go.Lib.hid (by rw [← hW3]; exact HX.out.drew)
              have hf := H3.out.2.1.frozen j1
              obtain ⟨z, hz⟩ : ∃ z, W3.cell? ⟨g', j1, none⟩ = some z := ⟨_, H3.out.2.1.cell (k := j1) (by have := HJ1.out; omega)⟩
              have H4 : Hid (Two W g g' (K + 1) ws (nx.set j1 (x + y)) (W3.setCell ⟨g', j1, none⟩ (.int .i64 ((x + y : Nat) : Int)))) := Go.Lib.hid (H3.out.set _ _)
              clear hW3 hW3' c1 c2
              go_upto_region 14 with fail
              obtain ⟨wr, hwr⟩ : ∃ wr, W3.setCell ⟨g', j1, none⟩ (.int .i64 ((x + y : Nat) : Int)) = wr := ⟨_, rfl⟩
              rw [hwr] at H4
              (first | rw [hwr] | (have hwr2 : W3.setCell ⟨g', j1, none⟩ (.int .i64 ((x : Int) + (y : Int))) = wr := hwr; rw [hwr2]))
              clear hwr hf hz H3 q2
              obtain ⟨nx2, hnx2⟩ : ∃ nx2, nx.set j1 (x + y) = nx2 := ⟨_, rfl⟩
              rw [hnx2] at H4
              have HN2 := Go.Lib.hid hnx2
              clear hnx2
              by_cases hj0 : j = 0
              · have HEE : Hid (nx2 = stepTo ws j1) := Go.Lib.hid (by
                  rw [← HJ1.out]
                  show _ = stepJ ws (stepTo ws j) j
                  rw [HNX.out, stepJ_yes (by rw [HWL.out]; omega), if_neg (by omega), HJ1.out, HXX.out, HY.out, HN2.out])
                have hj0i : ¬ (0 : Int) < (j : Int) := by omega
                have HJ0 := Go.Lib.hid hj0
                clear hj0 hy
                go_wp2_with fail
                go_roundw
                case rel => exact ⟨j1, by have := HJ1.out; omega, by first | rfl | go_num, Go.Lib.hid (by rw [← HEE.out]; exact H4.out)⟩
                case measure => have := HJ1.out; simp [intOf]; omega
              · have HNB2 : Hid (∀ k, nx2.getD k 0 ≤ 20000000) := Go.Lib.hid (fun k => by
                  rw [← HN2.out]
                  have h1 := HNB.out k
                  by_cases hk : j1 = k
                  · subst hk
                    by_cases hl : j1 < nx.length
                    · rw [List.getD_eq_getElem?_getD, List.getElem?_set_self hl]; simp; omega
                    · rw [List.getD_eq_getElem?_getD, List.getElem?_eq_none (by rw [List.length_set]; omega)]; simp
                  · rw [List.getD_eq_getElem?_getD, List.getElem?_set_ne hk, ← List.getD_eq_getElem?_getD]; omega)
                obtain ⟨jm, hjm⟩ : ∃ jm, j - 1 = jm := ⟨_, rfl⟩
                have HJM := Go.Lib.hid hjm
                have c1 := H4.out.2.1.cell (k := jm) (by omega)
                have c2 := H4.out.1.cell (k := j) (by omega)
                obtain ⟨u, hu⟩ : ∃ u, nx2.getD jm 0 = u := ⟨_, rfl⟩
                rw [hu] at c1
                rw [hy] at c2
                have hub : u ≤ 20000000 := by rw [← hu]; exact HNB2.out jm
                obtain ⟨m2, hm2⟩ : ∃ m2, min j 2 = m2 := ⟨_, rfl⟩
                have hm2b : m2 ≤ 2 := by omega
                have CLJ := Go.Lib.hid (fun (X : World) => CL.out j X)
                rw [hm2] at CLJ
                have hymb : y * m2 ≤ 20000000 := Nat.le_trans (Nat.mul_le_mul hyb hm2b) (by omega)
                have q3 : IntKind.i64.wrap ((j : Int) - 1) = (jm : Int) := by rw [IntWalk.i64_in _ (by omega)]; omega
                obtain ⟨ym, hym⟩ : ∃ ym, y * m2 = ym := ⟨_, rfl⟩
                have q4 : IntKind.i64.wrap ((y : Int) * (m2 : Int)) = (ym : Int) := by rw [← hym, ← Int.natCast_mul, IntWalk.i64_in _ (by omega)]
                rw [hym] at hymb
                have q5 : IntKind.i64.wrap ((u : Int) + (ym : Int)) = ((u + ym : Nat) : Int) := by rw [IntWalk.i64_in _ (by omega)]; omega
                have hj2 : (jm : Int) < (K : Int) + 1 := by omega
                have hj2n : (jm : Int) < ((K + 1 : Nat) : Int) := by omega
                have hjnn : (j : Int) < ((K + 1 : Nat) : Int) := by omega
                have hj0i : (0 : Int) < (j : Int) := by omega
                have hji1 : (j : Int) < (K : Int) + 1 := by omega
                have HUU := Go.Lib.hid (And.intro hu (And.intro hm2 hym))
                obtain ⟨wo, hwo⟩ : ∃ wo, wo = wr := ⟨_, rfl⟩
                subst hwo
                clear hu hm2 hym hjm
                go_wp2_with fail
                refine wp_region_still_tail 17 (by kernel_rfl) (by kernel_rfl) ?_
                simp only [List.take_succ_cons, List.take_zero, List.drop_succ_cons, List.drop_zero]
                iterate 13 still_step
                still_call (CLJ.out _)
                iterate 3 still_step
                refine wpStill_nil ?_
                obtain ⟨W3, hW3⟩ : ∃ W3, wo.drew = W3 := ⟨_, rfl⟩
                have hW3' : ({ heap := wo.heap, tape := wo.tape, drawn := wo.drawn + 1, os := wo.os, output := wo.output } : World) = W3 := hW3
                rw [hW3']
                have H3 : Hid (Two W g g' (K + 1) ws nx2 W3) := Go.Lib.hid (by rw [← hW3]; exact H4.out.drew)
                have hf := H3.out.2.1.frozen jm
                obtain ⟨z, hz⟩ : ∃ z, W3.cell? ⟨g', jm, none⟩ = some z := ⟨_, H3.out.2.1.cell (k := jm) (by have := HJM.out; omega)⟩
                have H5 : Hid (Two W g g' (K + 1) ws (nx2.set jm (u + ym)) (W3.setCell ⟨g', jm, none⟩ (.int .i64 ((u + ym : Nat) : Int)))) := Go.Lib.hid (H3.out.set _ _)
                have HE5 : Hid (nx2.set jm (u + ym) = stepTo ws j1) := Go.Lib.hid (by
                  rw [← HJ1.out]
                  show _ = stepJ ws (stepTo ws j) j
                  rw [HNX.out]
                  rw [stepJ_yes (by rw [HWL.out]; omega), if_pos (by omega), HJ1.out, HJM.out, HXX.out, HY.out, HN2.out, HUU.out.1, HUU.out.2.1, HUU.out.2.2])
                clear hW3 hW3' c1 c2
                go_wp2_with fail
                go_roundw
                case rel => exact ⟨j1, by have := HJ1.out; omega, by first | rfl | go_num, Go.Lib.hid (by rw [← HE5.out]; first | exact H5.out | (have h := H5.out; simpa using h))⟩
                case measure => have := HJ1.out; simp [intOf]; omega
            · have hjlti : ¬ (j : Int) < (K : Int) := by omega
              obtain ⟨jm, hjm⟩ : ∃ jm, j - 1 = jm := ⟨_, rfl⟩
              have HJM := Go.Lib.hid hjm
              have c1 := HX.out.2.1.cell (k := jm) (by omega)
              have c2 := HX.out.1.cell (k := j) (by omega)
              obtain ⟨u, hu⟩ : ∃ u, nx.getD jm 0 = u := ⟨_, rfl⟩
              rw [hu] at c1
              rw [hy] at c2
              have hub : u ≤ 10000000 := by rw [← hu]; exact HNB.out jm
              obtain ⟨m2, hm2⟩ : ∃ m2, min j 2 = m2 := ⟨_, rfl⟩
              have hm2b : m2 ≤ 2 := by omega
              have CLJ := Go.Lib.hid (fun (X : World) => CL.out j X)
              rw [hm2] at CLJ
              have hymb : y * m2 ≤ 20000000 := Nat.le_trans (Nat.mul_le_mul hyb hm2b) (by omega)
              have q3 : IntKind.i64.wrap ((j : Int) - 1) = (jm : Int) := by rw [IntWalk.i64_in _ (by omega)]; omega
              obtain ⟨ym, hym⟩ : ∃ ym, y * m2 = ym := ⟨_, rfl⟩
              have q4 : IntKind.i64.wrap ((y : Int) * (m2 : Int)) = (ym : Int) := by rw [← hym, ← Int.natCast_mul, IntWalk.i64_in _ (by omega)]
              rw [hym] at hymb
              have q5 : IntKind.i64.wrap ((u : Int) + (ym : Int)) = ((u + ym : Nat) : Int) := by rw [IntWalk.i64_in _ (by omega)]; omega
              have hj2 : (jm : Int) < (K : Int) + 1 := by omega
              have hj2n : (jm : Int) < ((K + 1 : Nat) : Int) := by omega
              have hjnn : (j : Int) < ((K + 1 : Nat) : Int) := by omega
              have hj0i : (0 : Int) < (j : Int) := by omega
              have hji1 : (j : Int) < (K : Int) + 1 := by omega
              have HUU := Go.Lib.hid (And.intro hu (And.intro hm2 hym))
              obtain ⟨wo, hwo⟩ : ∃ wo, wo = wr := ⟨_, rfl⟩
              subst hwo
              clear hu hm2 hym hjm
              go_wp2_with fail
              refine wp_region_still_tail 17 (by kernel_rfl) (by kernel_rfl) ?_
              simp only [List.take_succ_cons, List.take_zero, List.drop_succ_cons, List.drop_zero]
              iterate 13 still_step
              still_call (CLJ.out _)
              iterate 3 still_step
              refine wpStill_nil ?_
              obtain ⟨W3, hW3⟩ : ∃ W3, wo.drew = W3 := ⟨_, rfl⟩
              have hW3' : ({ heap := wo.heap, tape := wo.tape, drawn := wo.drawn + 1, os := wo.os, output := wo.output } : World) = W3 := hW3
              rw [hW3']
              have H3 : Hid (Two W g g' (K + 1) ws nx W3) := Go.Lib.hid (by rw [← hW3]; exact HX.out.drew)
              have hf := H3.out.2.1.frozen jm
              obtain ⟨z, hz⟩ : ∃ z, W3.cell? ⟨g', jm, none⟩ = some z := ⟨_, H3.out.2.1.cell (k := jm) (by have := HJM.out; omega)⟩
              have H5 : Hid (Two W g g' (K + 1) ws (nx.set jm (u + ym)) (W3.setCell ⟨g', jm, none⟩ (.int .i64 ((u + ym : Nat) : Int)))) := Go.Lib.hid (H3.out.set _ _)
              have HE5 : Hid (nx.set jm (u + ym) = stepTo ws (j + 1)) := Go.Lib.hid (by
                show _ = stepJ ws (stepTo ws j) j
                rw [HNX.out]
                rw [stepJ_no (by rw [HWL.out]; omega), if_pos (by omega), HJM.out, HY.out, HUU.out.1, HUU.out.2.1, HUU.out.2.2])
              clear hW3 hW3' c1 c2
              go_wp2_with fail
              go_roundw
              case rel => exact ⟨j + 1, by omega, by go_num, Go.Lib.hid (by rw [← HE5.out]; first | exact H5.out | (have h := H5.out; simpa using h))⟩
              case measure => simp [intOf]; omega
          · have hje : j = K + 1 := by omega
            have HF : Hid (Nr W g' (K + 1) (waysTo n (i + 1)) wr ∧ Below W.heap.size W wr) := Go.Lib.hid ⟨by have h := HX.out.2.1; rw [hje] at h; rw [HNW.out]; exact h, HX.out.2.2.1⟩
            have hjki : ¬ (j : Int) ≤ (K : Int) := by omega
            clear hje
            go_wp2_with fail
            go_roundw
            case rel => exact ⟨i + 1, g', by omega, by go_num, rfl, HF⟩
            case measure => simp [intOf]; omega
      · have hie : i = K := by omega
        subst hie
        have hck := HX.out.1.cell (k := 0) (by omega)
        rw [HR.out] at hck
        have hlti : ¬ (i : Int) < (i : Int) := by omega
        go_wp2
        go_ret2
        exact ⟨rfl, HX.out.2⟩
  · rw [if_neg h17] at h
    cases h
    have C1 := Go.Lib.hid (fun w2 => l1In_any a 1 7 w2 false (by rw [decide_eq_false_iff_not]; exact h17))
    clear h17
    go_enter Tryd.func16, Tryd.ntmps16
    go_wp2_with fail
    refine (C1.out _).mono ?_
    rintro e w1 ⟨rfl, rfl⟩
    go_wp2_with fail
    go_ret2
    exact ⟨rfl, Below.refl _ _⟩

end Go.Proofs.YtpkjnlabjmpokabDoor.EPcC
