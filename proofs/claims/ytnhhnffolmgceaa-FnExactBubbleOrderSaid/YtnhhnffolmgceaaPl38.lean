/-
  Contracts: BubbleOrder of the model and of the program. Conditions: lists of at most 2^20 numbers.
-/
import Derived.Test.YtnhhnffolmgceaaPl31
import Derived.Test.YtnhhnffolmgceaaPl5
import Derived.Test.YtnhhnffolmgceaaPl25
import Derived.Test.YtnhhnffolmgceaaPl21
import Derived.Test.YtnhhnffolmgceaaPl22
import Derived.StillTailTactics
import Derived.WalkSmall
import Derived.WalkMore
import Derived.Deep.Cut

namespace Go.Proofs.Ytnhhnffolmgceaa.LimBC
open Go.RowKit SeesC WordsC IntsC ExactC NumC IterC OrdMath WordMath OrdFacts InC OrderC AtC WordC RunC EndsM SweepM StackM LimW LimM

/-- So many places have been gone through. -/
def bubP : Int → List Int → Nat → List Int
  | m, t, 0 => m :: t
  | m, [], _ + 1 => [m]
  | m, x :: t, i + 1 => min m x :: bubP (max m x) t i

theorem bubP_zero (m : Int) (t : List Int) : bubP m t 0 = m :: t := by cases t <;> rfl

theorem bubP_len : ∀ (i : Nat) (m : Int) (t : List Int), (bubP m t i).length = t.length + 1
  | 0, m, t => by simp [bubP]
  | i + 1, m, [] => rfl
  | i + 1, m, x :: t => by show (bubP (max m x) t i).length + 1 = _; rw [bubP_len i]; rfl

theorem bubP_end : ∀ (t : List Int) (m : Int), bubP m t t.length = bub m t
  | [], m => rfl
  | x :: t, m => by show min m x :: bubP (max m x) t t.length = _; rw [bubP_end t]; rfl

/-- One place. -/
theorem bubP_step : ∀ (i : Nat) (m : Int) (t : List Int), i < t.length →
    ((bubP m t i).set i (min ((bubP m t i).getD i 0) ((bubP m t i).getD (i + 1) 0))).set (i + 1) (max ((bubP m t i).getD i 0) ((bubP m t i).getD (i + 1) 0)) = bubP m t (i + 1)
  | i, m, [], h => by simp at h
  | 0, m, x :: t, _ => by cases t <;> simp [bubP]
  | i + 1, m, x :: t, h => by
    have ih := bubP_step i (max m x) t (by simpa using h)
    have e : bubP m (x :: t) (i + 1) = min m x :: bubP (max m x) t i := rfl
    have e2 : bubP m (x :: t) (i + 1 + 1) = min m x :: bubP (max m x) t (i + 1) := rfl
    rw [e, e2, ← ih]
    simp only [List.getD_cons_succ, List.set_cons_succ]

theorem bubP_keep {i : Nat} {m : Int} {t : List Int} (h : i < t.length) (hk : ¬ (bubP m t i).getD (i + 1) 0 < (bubP m t i).getD i 0) : bubP m t (i + 1) = bubP m t i := by
  rw [← bubP_step i m t h]
  have hl := bubP_len i m t
  obtain ⟨l, hll⟩ : ∃ l, bubP m t i = l := ⟨_, rfl⟩
  rw [hll] at hk hl ⊢
  rw [show min (l.getD i 0) (l.getD (i + 1) 0) = l.getD i 0 by omega, show max (l.getD i 0) (l.getD (i + 1) 0) = l.getD (i + 1) 0 by omega]
  have e : ∀ j, j < l.length → l.set j (l.getD j 0) = l := by
    intro j hj
    rw [List.getD_eq_getElem?_getD, List.getElem?_eq_getElem hj, Option.getD_some, List.set_getElem_self]
  rw [e i (by omega), e (i + 1) (by omega)]

theorem bubP_mem : ∀ (i : Nat) (m : Int) (t : List Int) (B : Int), (∀ y ∈ m :: t, 1 ≤ y ∧ y ≤ B) → ∀ y ∈ bubP m t i, 1 ≤ y ∧ y ≤ B
  | 0, m, t, B, h => by rw [bubP_zero]; exact h
  | i + 1, m, [], B, h => by intro y hy; exact h y hy
  | i + 1, m, x :: t, B, h => by
    intro y hy
    have h1 := h m (by simp)
    have h2 := h x (by simp)
    rcases List.mem_cons.1 hy with rfl | hy
    · omega
    · refine bubP_mem i (max m x) t B (fun z hz => ?_) y hy
      rcases List.mem_cons.1 hz with rfl | hz
      · omega
      · exact h z (by simp [hz])

/-- Of an order. -/
def bubS (zs : List Int) (i : Nat) : List Int := match zs with | [] => [] | x :: t => bubP x t i

theorem bubS_len (zs : List Int) (i : Nat) : (bubS zs i).length = zs.length := by cases zs with | nil => rfl | cons x t => exact bubP_len i x t
theorem bubS_zero (zs : List Int) : bubS zs 0 = zs := by cases zs with | nil => rfl | cons x t => exact bubP_zero x t
theorem bubS_end (zs : List Int) : bubS zs (zs.length - 1) = bubL zs := by cases zs with | nil => rfl | cons x t => exact bubP_end t x
theorem bubS_step {zs : List Int} {i : Nat} (h : i + 1 < zs.length) : ((bubS zs i).set i (min ((bubS zs i).getD i 0) ((bubS zs i).getD (i + 1) 0))).set (i + 1) (max ((bubS zs i).getD i 0) ((bubS zs i).getD (i + 1) 0)) = bubS zs (i + 1) := by
  cases zs with
  | nil => simp at h
  | cons x t => exact bubP_step i x t (by simpa using h)
theorem bubS_keep {zs : List Int} {i : Nat} (h : i + 1 < zs.length) (hk : ¬ (bubS zs i).getD (i + 1) 0 < (bubS zs i).getD i 0) : bubS zs (i + 1) = bubS zs i := by
  cases zs with
  | nil => simp at h
  | cons x t => exact bubP_keep (by simpa using h) hk
theorem bubS_mem {zs : List Int} (ho : Ord zs) (i : Nat) {j : Nat} (hj : j < zs.length) : 1 ≤ (bubS zs i).getD j 0 ∧ (bubS zs i).getD j 0 ≤ 7 := by
  have hm : (bubS zs i).getD j 0 ∈ bubS zs i := by
    have hj2 : j < (bubS zs i).length := by rw [bubS_len]; exact hj
    rw [List.getD_eq_getElem?_getD, List.getElem?_eq_getElem hj2, Option.getD_some]; exact List.getElem_mem hj2
  cases zs with
  | nil => simp at hj
  | cons x t => exact bubP_mem i x t 7 (fun y hy => by have h1 := ho.2.2.1 y hy; have h2 := ho.2.1; omega) _ hm

theorem bub_alen {zs xs : List Int} {b : Bool} (h : bubAns zs = (xs, b)) : xs.length ≤ 1048576 := by
  unfold bubAns at h; split at h
  · rename_i ho; cases h; rw [← bubS_end, bubS_len]; have := ho.2.1; omega
  · cases h; simp

/-- A row of the call's own. -/
def Ob (W : World) (g c : Nat) (l : List Int) (w : World) : Prop := w.ownsRow W.heap.size 3 1 (.slice (some ⟨g, 0, none⟩) l.length c) l.length (vals l) ∧ Below W.heap.size W w

theorem Ob.set {W : World} {g c : Nat} {l : List Int} {w : World} (h : Ob W g c l w) (k : Nat) (x : Int) : Ob W g c (l.set k x) (w.setCell ⟨g, k, none⟩ (.int .i64 x)) := by
  have hs := h.1.stored k (.int .i64 x)
  have hB := (h.1.lt g rfl).1
  refine ⟨?_, h.2.setCell (p := ⟨g, k, none⟩) hB _⟩
  have e : vals (l.set k x) = (vals l).set k (.int .i64 x) := by unfold vals; rw [List.map_set]
  rw [e, List.length_set]
  exact hs.1
theorem Ob.cell {W : World} {g c : Nat} {l : List Int} {w : World} (h : Ob W g c l w) {k : Nat} (hk : k < l.length) : w.cell? ⟨g, k, none⟩ = some (.int .i64 (l.getD k 0)) := by
  rw [h.1.cellAt k (by omega)]; simp [hk]
theorem Ob.frozen {W : World} {g c : Nat} {l : List Int} {w : World} (h : Ob W g c l w) (k : Nat) : w.frozen? ⟨g, k, none⟩ = false := h.1.frozenAt k
theorem Ob.drew {W : World} {g c : Nat} {l : List Int} {w : World} (h : Ob W g c l w) : Ob W g c l w.drew := ⟨h.1, h.2.trans (Drawn.below (w' := w.drew) ⟨1, rfl⟩ _)⟩
theorem Ob.drewN {W : World} {g c q : Nat} {l : List Int} {w : World} (h : Ob W g c l w) : Ob W g c l (w.drewN q) := ⟨own_drewN (q := q) h.1, ExactC.below_drewN (q := q) h.2⟩

set_option maxRecDepth 100000 in
theorem l1Least_int (a b : Int) (W : World) : Calls Try.prog 99 #[.int .i64 a, .int .i64 b] W fun e w' => e = .returned (.int .i64 (min a b)) ∧ W = w' := by
  by_cases h : a < b
  · have hm : min a b = a := by omega
    rw [hm]
    go_enter Try.func99, Try.ntmps99
    go_wp2
    go_ret
    exact ⟨rfl, rfl⟩
  · have hm : min a b = b := by omega
    rw [hm]
    go_enter Try.func99, Try.ntmps99
    go_wp2
    go_ret
    exact ⟨rfl, rfl⟩

set_option maxRecDepth 100000 in
theorem l1Most_int (a b : Int) (W : World) : Calls Try.prog 100 #[.int .i64 a, .int .i64 b] W fun e w' => e = .returned (.int .i64 (max a b)) ∧ W = w' := by
  by_cases h : b < a
  · have hm : max a b = a := by omega
    rw [hm]
    go_enter Try.func100, Try.ntmps100
    go_wp2
    go_ret
    exact ⟨rfl, rfl⟩
  · have hm : max a b = b := by omega
    rw [hm]
    go_enter Try.func100, Try.ntmps100
    go_wp2
    go_ret
    exact ⟨rfl, rfl⟩

set_option maxRecDepth 100000 in
set_option maxHeartbeats 4000000 in
theorem specBub (zs : List Int) (xs : List Int) (b : Bool) (h : bubAns zs = (xs, b)) (hz : zs.length ≤ 1048576) (W : World) (v : Value) (n : Nat) (hv : Sees W v n (vals zs)) :
    Calls Try.prog 53 #[v] W fun e w' => ListTo W e w' xs b := by
  have hl : zs.length = n := by simpa using hv.1
  have hn : n ≤ 1048576 := by omega
  obtain ⟨r, hr⟩ : ∃ r, isOrd zs = r := ⟨_, rfl⟩
  have CO := Go.Lib.hid (fun W' (hs' : Sees W' v n (vals zs)) => l2Order_any W' v n zs r hs' hn hr)
  have HV := Go.Lib.hid hv
  unfold bubAns at h
  obtain ⟨_, ad, cap, rfl, _, _⟩ := hv
  cases r with
  | false =>
    rw [if_neg (by intro h1; unfold isOrd at hr; exact of_decide_eq_false hr h1)] at h
    cases h
    clear hr
    go_enter Try.func53, Try.ntmps53
    go_wp2_with fail
    refine (CO.out _ HV.out).mono ?_
    rintro e w1 ⟨rfl, hd⟩
    have HB1 : Hid (Below W.heap.size W w1) := Go.Lib.hid (hd.below W.heap.size)
    clear hd
    go_wp2_with fail
    go_ret2
    exact listTo_below HB1.out (listTo_none _ _)
  | true =>
    have hord : Ord zs := by unfold isOrd at hr; exact of_decide_eq_true hr
    have hn7 : n ≤ 7 := by have := hord.2.1; omega
    have hn1 : 1 ≤ n := by have := hord.1; omega
    rw [if_pos hord] at h
    cases h
    clear hr
    have HMEM := Go.Lib.hid (fun (i j : Nat) (hj : j < zs.length) => bubS_mem hord i hj)
    have HSL := Go.Lib.hid (fun i => (show (bubS zs i).length = n by rw [bubS_len, hl]))
    have HEND : Hid (bubS zs (n - 1) = bubL zs) := Go.Lib.hid (by rw [← hl]; exact bubS_end zs)
    have HST := Go.Lib.hid (fun (i : Nat) (h : i + 1 < n) => bubS_step (zs := zs) (i := i) (by omega))
    have HKP := Go.Lib.hid (fun (i : Nat) (h : i + 1 < n) hk => bubS_keep (zs := zs) (i := i) (by omega) hk)
    have HLN := Go.Lib.hid hl
    obtain ⟨R, hR⟩ : ∃ R, bubL zs = R := ⟨_, rfl⟩
    rw [hR] at HEND ⊢
    clear hR
    go_enter Try.func53, Try.ntmps53
    go_wp2_with fail
    refine (CO.out _ HV.out).mono ?_
    rintro e w1 ⟨rfl, hd⟩
    have HB1 : Hid (Below W.heap.size W w1) := Go.Lib.hid (hd.below W.heap.size)
    clear hd
    have HV1 := Go.Lib.hid (HV.out.grow HB1.out)
    obtain ⟨b, o, cap2, heq, _, _, hbl, hcell⟩ := sees_cells HV1.out (by omega)
    cases heq
    have COW := Go.Lib.hid (Own1C.l1Own_any zs b o n cap w1 hl (by omega) hcell)
    clear hcell
    go_wp2_with fail
    refine COW.out.mono ?_
    rintro e w2 ⟨g, c, rfl, ho, hb⟩
    have H0 : Hid (Ob W g c (bubS zs 0) w2) := Go.Lib.hid ⟨by rw [bubS_zero, hl]; exact own_lower ho HB1.out.size, HB1.out.trans (hb.mono HB1.out.size)⟩
    clear ho hb COW
    go_wp2_with fail
    go_loopw [5] (fun iv wr => ∃ (i : Nat), i + 1 ≤ n ∧ iv = .int .i64 i ∧ Hid (Ob W g c (bubS zs i) wr)) (fun i _ => n - (intOf i).toNat)
    case atStart => exact ⟨0, hn1, rfl, H0⟩
    case round =>
      obtain ⟨i, hin, rfl, HX⟩ := hrel
      clear H0
      by_cases hlt : i + 1 < n
      · obtain ⟨i1, hi1⟩ : ∃ i1, i + 1 = i1 := ⟨_, rfl⟩
        have hst := HST.out i hlt
        have hm1 := HMEM.out i i (by have := HLN.out; omega)
        have hm2 := HMEM.out i i1 (by have := HLN.out; omega)
        have c1 := HX.out.cell (k := i) (by rw [HSL.out]; omega)
        have c2 := HX.out.cell (k := i1) (by rw [HSL.out]; omega)
        rw [hi1] at hst
        obtain ⟨l, hll⟩ : ∃ l, bubS zs i = l := ⟨_, rfl⟩
        rw [hll] at hst hm1 hm2 c1 c2
        obtain ⟨x, hx⟩ : ∃ x, l.getD i 0 = x := ⟨_, rfl⟩
        obtain ⟨y, hy⟩ : ∃ y, l.getD i1 0 = y := ⟨_, rfl⟩
        rw [hx] at hm1 c1
        rw [hy] at hm2 c2
        rw [hx, hy] at hst
        have HLL : Hid (l.length = n) := Go.Lib.hid (by rw [← hll]; exact HSL.out i)
        have qi1 : IntKind.i64.wrap ((i : Int) + 1) = (i1 : Int) := by rw [IntWalk.i64_in _ (by omega)]; omega
        have hii : (i : Int) < (n : Int) := by omega
        have hi1i : (i1 : Int) < (n : Int) := by omega
        have HI1 := Go.Lib.hid hi1
        have HSTT := Go.Lib.hid hst
        have HX1 : Hid (Ob W g c l wr) := Go.Lib.hid (by rw [← hll]; exact HX.out)
        have hlti : (i1 : Int) < (n : Int) := hi1i
        have CL := Go.Lib.hid (fun X => l1Least_int x y X)
        have CM := Go.Lib.hid (fun X => l1Most_int x y X)
        obtain ⟨mn, hmn⟩ : ∃ mn, min x y = mn := ⟨_, rfl⟩
        obtain ⟨mx, hmx⟩ : ∃ mx, max x y = mx := ⟨_, rfl⟩
        rw [hmn] at CL
        rw [hmx] at CM
        have HMM := Go.Lib.hid (And.intro hmn hmx)
        clear hll hx hy hi1 hst hmn hmx HX
        go_wp2_with fail
        go_quiet (fail)
        have HX2 := Go.Lib.hid (HX1.out.drewN (q := nq))
        obtain ⟨wq, hwq⟩ : ∃ wq, wr.drewN nq = wq := ⟨_, rfl⟩
        rw [hwq] at HX2 ⊢
        clear hwq c1 c2 HX1
        go_wp2_with fail
        refine (CL.out _).mono ?_
        rintro e w5 ⟨rfl, rfl⟩
        have HX3 := Go.Lib.hid (HX2.out.set i mn)
        have hf3 := HX2.out.frozen i
        obtain ⟨z3, hz3⟩ : ∃ z3, wq.cell? ⟨g, i, none⟩ = some z3 := ⟨_, HX2.out.cell (k := i) (by rw [HLL.out]; omega)⟩
        go_upto_region 9 with fail
        obtain ⟨w6, hw6⟩ : ∃ w6, wq.setCell ⟨g, i, none⟩ (.int .i64 mn) = w6 := ⟨_, rfl⟩
        rw [hw6] at HX3 ⊢
        clear hw6 hf3 hz3 HX2
        go_wp2_with fail
        refine (CM.out _).mono ?_
        rintro e w7 ⟨rfl, rfl⟩
        have HX4 := Go.Lib.hid (HX3.out.set i1 mx)
        have hf4 := HX3.out.frozen i1
        obtain ⟨z4, hz4⟩ : ∃ z4, w6.cell? ⟨g, i1, none⟩ = some z4 := ⟨_, HX3.out.cell (k := i1) (by rw [List.length_set, HLL.out]; omega)⟩
        have HE : Hid (Ob W g c (bubS zs i1) (w6.setCell ⟨g, i1, none⟩ (.int .i64 mx))) := Go.Lib.hid (by rw [← HSTT.out, HMM.out.1, HMM.out.2]; exact HX4.out)
        clear HX4
        go_wp2_with fail
        go_roundw
        case rel => exact ⟨i1, by have := HI1.out; omega, by first | rfl | go_num | (have := HI1.out; congr 1; omega), HE⟩
        case measure => have := HI1.out; simp [intOf]; omega
      · have hin2 : i = n - 1 := by omega
        have HR3 : Hid (Ob W g c R wr) := Go.Lib.hid (by rw [← HEND.out, ← hin2]; exact HX.out)
        have hlti : ¬ (i : Int) + 1 < (n : Int) := by omega
        have HRL : Hid (R.length = n) := Go.Lib.hid (by rw [← HEND.out]; exact HSL.out _)
        clear HX hin2
        go_wp2_with fail
        go_ret2
        have h3 := HR3.out.1
        rw [HRL.out] at h3
        exact ⟨_, rfl, by rw [HRL.out]; exact h3, HR3.out.2⟩

set_option maxRecDepth 100000 in
set_option maxHeartbeats 4000000 in
theorem implBub (zs : List Int) (xs : List Int) (b : Bool) (h : bubAns zs = (xs, b)) (hz : zs.length ≤ 1048576) (W : World) (v : Value) (n : Nat) (hv : Sees W v n (vals zs)) :
    Calls Try.prog 52 #[v] W fun e w' => ListTo W e w' xs b := by
  have hl : zs.length = n := by simpa using hv.1
  have hn : n ≤ 1048576 := by omega
  obtain ⟨r, hr⟩ : ∃ r, isOrd zs = r := ⟨_, rfl⟩
  have CO := Go.Lib.hid (fun W' (hs' : Sees W' v n (vals zs)) => implOrder_any W' v n zs r hs' hn hr)
  have HV := Go.Lib.hid hv
  unfold bubAns at h
  obtain ⟨_, ad, cap, rfl, _, _⟩ := hv
  cases r with
  | false =>
    rw [if_neg (by intro h1; unfold isOrd at hr; exact of_decide_eq_false hr h1)] at h
    cases h
    clear hr
    go_enter Try.func52, Try.ntmps52
    go_wp2_with fail
    refine (CO.out _ HV.out).mono ?_
    rintro e w1 ⟨rfl, hd⟩
    have HB1 : Hid (Below W.heap.size W w1) := Go.Lib.hid hd
    clear hd
    go_wp2_with fail
    go_ret2
    exact listTo_below HB1.out (listTo_none _ _)
  | true =>
    have hord : Ord zs := by unfold isOrd at hr; exact of_decide_eq_true hr
    have hn7 : n ≤ 7 := by have := hord.2.1; omega
    have hn1 : 1 ≤ n := by have := hord.1; omega
    rw [if_pos hord] at h
    cases h
    clear hr
    have HMEM := Go.Lib.hid (fun (i j : Nat) (hj : j < zs.length) => bubS_mem hord i hj)
    have HSL := Go.Lib.hid (fun i => (show (bubS zs i).length = n by rw [bubS_len, hl]))
    have HEND : Hid (bubS zs (n - 1) = bubL zs) := Go.Lib.hid (by rw [← hl]; exact bubS_end zs)
    have HST := Go.Lib.hid (fun (i : Nat) (h : i + 1 < n) => bubS_step (zs := zs) (i := i) (by omega))
    have HKP := Go.Lib.hid (fun (i : Nat) (h : i + 1 < n) hk => bubS_keep (zs := zs) (i := i) (by omega) hk)
    have HLN := Go.Lib.hid hl
    obtain ⟨R, hR⟩ : ∃ R, bubL zs = R := ⟨_, rfl⟩
    rw [hR] at HEND ⊢
    clear hR
    go_enter Try.func52, Try.ntmps52
    go_wp2_with fail
    refine (CO.out _ HV.out).mono ?_
    rintro e w1 ⟨rfl, hd⟩
    have HB1 : Hid (Below W.heap.size W w1) := Go.Lib.hid hd
    clear hd
    have HV1 := Go.Lib.hid (HV.out.grow HB1.out)
    obtain ⟨b, o, cap2, heq, _, _, hbl, hcell⟩ := sees_cells HV1.out (by omega)
    cases heq
    go_wp2_with fail
    refine (Try.slices_Clone_int b o n cap zs w1 (by omega) (by omega) hcell).mono ?_
    rintro e w2 ⟨u, rfl, ho, hne, hb⟩
    rw [List.take_of_length_le (by omega)] at ho
    obtain ⟨g, c, rfl⟩ := own_form ho hne
    have H0 : Hid (Ob W g c (bubS zs 0) w2) := Go.Lib.hid ⟨by rw [bubS_zero, hl]; exact own_lower ho HB1.out.size, HB1.out.trans (hb.mono HB1.out.size)⟩
    clear ho hb hne hcell
    obtain ⟨n1, hn1'⟩ : ∃ n1, n - 1 = n1 := ⟨_, rfl⟩
    have qn1 : IntKind.i64.wrap ((n : Int) - 1) = (n1 : Int) := by rw [IntWalk.i64_in _ (by omega)]; omega
    have HN1 := Go.Lib.hid hn1'
    clear hn1'
    go_wp2_with fail
    go_loopw [15] (fun iv wr => ∃ (i : Nat), i ≤ n1 ∧ iv = .int .i64 i ∧ Hid (Ob W g c (bubS zs i) wr)) (fun i _ => n1 - (intOf i).toNat)
    case atStart => exact ⟨0, Nat.zero_le _, rfl, H0⟩
    case round =>
      obtain ⟨i, hin, rfl, HX⟩ := hrel
      clear H0
      by_cases hlt1 : i < n1
      · have hlt : i + 1 < n := by have := HN1.out; omega
        obtain ⟨i1, hi1⟩ : ∃ i1, i + 1 = i1 := ⟨_, rfl⟩
        have hst := HST.out i hlt
        have hm1 := HMEM.out i i (by have := HLN.out; omega)
        have hm2 := HMEM.out i i1 (by have := HLN.out; omega)
        have c1 := HX.out.cell (k := i) (by rw [HSL.out]; omega)
        have c2 := HX.out.cell (k := i1) (by rw [HSL.out]; omega)
        rw [hi1] at hst
        obtain ⟨l, hll⟩ : ∃ l, bubS zs i = l := ⟨_, rfl⟩
        rw [hll] at hst hm1 hm2 c1 c2
        obtain ⟨x, hx⟩ : ∃ x, l.getD i 0 = x := ⟨_, rfl⟩
        obtain ⟨y, hy⟩ : ∃ y, l.getD i1 0 = y := ⟨_, rfl⟩
        rw [hx] at hm1 c1
        rw [hy] at hm2 c2
        rw [hx, hy] at hst
        have HLL : Hid (l.length = n) := Go.Lib.hid (by rw [← hll]; exact HSL.out i)
        have qi1 : IntKind.i64.wrap ((i : Int) + 1) = (i1 : Int) := by rw [IntWalk.i64_in _ (by omega)]; omega
        have hii : (i : Int) < (n : Int) := by omega
        have hi1i : (i1 : Int) < (n : Int) := by omega
        have HI1 := Go.Lib.hid hi1
        have HSTT := Go.Lib.hid hst
        have HX1 : Hid (Ob W g c l wr) := Go.Lib.hid (by rw [← hll]; exact HX.out)
        have hlti : (i : Int) < (n1 : Int) := by omega
        have hk : ¬ y < x → bubS zs i1 = l := fun h => by
          have h1 := HKP.out i hlt (by rw [hi1, hll, hx, hy]; omega)
          rw [hi1, hll] at h1
          exact h1
        by_cases hyx : y < x
        · have HSW : Hid ((l.set i y).set i1 x = bubS zs i1) := Go.Lib.hid (by rw [← hst, show min x y = y by omega, show max x y = x by omega])
          have hne : i ≠ i1 := by omega
          have hne2 : i1 ≠ i := by omega
          have HXY := Go.Lib.hid (And.intro hx hy)
          clear hll hx hy hi1 hst hk HX
          have hl1 : i < l.length := by rw [HLL.out]; omega
          have hl2 : i1 < l.length := by rw [HLL.out]; omega
          have HB := Go.Lib.hid (And.intro hl1 hl2)
          clear hl1 hl2
          go_wp2_with fail
          go_quiet (fail)
          have HX2 := Go.Lib.hid (HX1.out.drewN (q := nq))
          obtain ⟨wq, hwq⟩ : ∃ wq, wr.drewN nq = wq := ⟨_, rfl⟩
          rw [hwq] at HX2 ⊢
          clear hwq HX1
          have e1 : wq.cell? ⟨g, i, none⟩ = some (.int .i64 x) := (HX2.out.cell HB.out.1).trans (by rw [HXY.out.1])
          have e2 : wq.cell? ⟨g, i1, none⟩ = some (.int .i64 y) := (HX2.out.cell HB.out.2).trans (by rw [HXY.out.2])
          have f1 := HX2.out.frozen i
          have f2 := HX2.out.frozen i1
          have HX3 := Go.Lib.hid (HX2.out.set i y)
          have HX4 := Go.Lib.hid (HX3.out.set i1 x)
          have e3 : (wq.setCell ⟨g, i, none⟩ (.int .i64 y)).cell? ⟨g, i1, none⟩ = some (.int .i64 y) := (HX3.out.cell (k := i1) (by rw [List.length_set]; exact HB.out.2)).trans (by rw [List.getD_eq_getElem?_getD, List.getElem?_set_ne hne, ← List.getD_eq_getElem?_getD, HXY.out.2])
          have f3 := HX3.out.frozen i1
          clear c1 c2
          go_upto_region 8 with fail
          go_region
          have HE : Hid (Ob W g c (bubS zs i1) ((wq.setCell ⟨g, i, none⟩ (.int .i64 y)).setCell ⟨g, i1, none⟩ (.int .i64 x)).drew) := Go.Lib.hid (by rw [← HSW.out]; exact HX4.out.drew)
          clear HX3 HX4 e1 e2 e3 f1 f2 f3 HX2
          go_wp2_with fail
          go_roundw
          case rel => exact ⟨i1, by have := HI1.out; omega, by first | rfl | go_num | (have := HI1.out; congr 1; omega), HE⟩
          case measure => have := HI1.out; simp [intOf]; omega
        · have HSW : Hid (bubS zs i1 = l) := Go.Lib.hid (hk hyx)
          clear hll hx hy hi1 hst hk HX
          go_wp2_with fail
          go_quiet (fail)
          have HX2 := Go.Lib.hid (HX1.out.drewN (q := nq))
          obtain ⟨wq, hwq⟩ : ∃ wq, wr.drewN nq = wq := ⟨_, rfl⟩
          rw [hwq] at HX2 ⊢
          clear hwq c1 c2 HX1
          go_wp2_with fail
          go_roundw
          case rel => exact ⟨i1, by have := HI1.out; omega, by first | rfl | go_num | (have := HI1.out; congr 1; omega), Go.Lib.hid (by rw [HSW.out]; exact HX2.out)⟩
          case measure => have := HI1.out; simp [intOf]; omega
      · have hin2 : i = n - 1 := by have := HN1.out; omega
        have HR3 : Hid (Ob W g c R wr) := Go.Lib.hid (by rw [← HEND.out, ← hin2]; exact HX.out)
        have hlti : ¬ (i : Int) < (n1 : Int) := by omega
        have HRL : Hid (R.length = n) := Go.Lib.hid (by rw [← HEND.out]; exact HSL.out _)
        clear HX hin2
        go_wp2_with fail
        go_ret2
        have h3 := HR3.out.1
        rw [HRL.out] at h3
        exact ⟨_, rfl, by rw [HRL.out]; exact h3, HR3.out.2⟩

end Go.Proofs.Ytnhhnffolmgceaa.LimBC
