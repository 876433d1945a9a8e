/-
  Contract: BadTriple of the model. Conditions: lists of at most 2^20 numbers.
-/
import Derived.Test.YtddenfnoajdjiaaBadM
import Derived.Test.YtddenfnoajdjiaaOrder
import Derived.Test.YtddenfnoajdjiaaNum
import Derived.Test.YtddenfnoajdjiaaIter
import Derived.Test.YtddenfnoajdjiaaRun
import Derived.Test.YtddenfnoajdjiaaPub
import Derived.WalkLawsBesides
import Derived.BigQuiet
import Derived.IntWalk
import Derived.Laws.ResultCell
import Derived.Laws.Rows
namespace Go.Proofs.Ytddenfnoajdjiaa.BadCC
open Go.RowKit SeesC IntsC ExactC NumC IterC OrdMath InC OrderC PatMath BadM RunC PubC ListsC

/-- Three cells of the call's own. -/
def Arr (w : World) (B g : Nat) (x y z : Value) : Prop := w.ownsRow B 33 1 (.slice (some ⟨g, 0, none⟩) 3 3) 3 [x, y, z]

theorem arr_cells {w : World} {B g : Nat} {x y z : Value} (h : Arr w B g x y z) : w.cell? ⟨g, 0, none⟩ = some x ∧ w.cell? ⟨g, 1, none⟩ = some y ∧ w.cell? ⟨g, 2, none⟩ = some z ∧ w.frozen? ⟨g, 0, none⟩ = false ∧ w.frozen? ⟨g, 1, none⟩ = false ∧ w.frozen? ⟨g, 2, none⟩ = false :=
  ⟨h.cellAt 0 (by omega), h.cellAt 1 (by omega), h.cellAt 2 (by omega), h.frozenAt 0, h.frozenAt 1, h.frozenAt 2⟩

theorem arr_alloc (w : World) (x y z : Value) : Arr (w.alloc (.cells #[x, y, z] 33)) w.heap.size w.heap.size x y z :=
  block_own (ex := []) (by show (w.heap.push _)[w.heap.size]? = _; rw [Array.getElem?_push_size]; rfl) rfl rfl (Nat.le_refl _) (by unfold maxLen; omega)

theorem arr_call {w w' : World} {B g : Nat} {x y z : Value} (h : Arr w B g x y z) (hb : Below w.heap.size w w') : Arr w' B g x y z := kept_call h hb

/-- Three stores. -/
theorem arr_store {w : World} {B g : Nat} {x y z : Value} (h : Arr w B g x y z) (a b c : Value) :
    (w.setCell ⟨g, 0, none⟩ a).cell? ⟨g, 1, none⟩ = some y ∧ (w.setCell ⟨g, 0, none⟩ a).frozen? ⟨g, 1, none⟩ = false ∧
    ((w.setCell ⟨g, 0, none⟩ a).setCell ⟨g, 1, none⟩ b).cell? ⟨g, 2, none⟩ = some z ∧ ((w.setCell ⟨g, 0, none⟩ a).setCell ⟨g, 1, none⟩ b).frozen? ⟨g, 2, none⟩ = false ∧
    Arr (((w.setCell ⟨g, 0, none⟩ a).setCell ⟨g, 1, none⟩ b).setCell ⟨g, 2, none⟩ c) B g a b c := by
  have h0 := (h.stored 0 a).1
  have h1 := (h0.stored 1 b).1
  have h2 := (h1.stored 2 c).1
  exact ⟨h0.cellAt 1 (by omega), h0.frozenAt 1, h1.cellAt 2 (by omega), h1.frozenAt 2, h2⟩

theorem arr_below {w W : World} {B g : Nat} (hg : B ≤ g) (h : Below B W w) (a b c : Value) : Below B W (((w.setCell ⟨g, 0, none⟩ a).setCell ⟨g, 1, none⟩ b).setCell ⟨g, 2, none⟩ c) :=
  ((h.setCell (p := ⟨g, 0, none⟩) hg a).setCell (p := ⟨g, 1, none⟩) hg b).setCell (p := ⟨g, 2, none⟩) hg c

theorem arr_heap {w : World} {B g : Nat} {x y z : Value} (h : Arr w B g x y z) : w.heap[g]? = some (.cells #[x, y, z] 33 (0, 0)) := by
  obtain ⟨ex, h1, h2, _⟩ := own_block h
  have : ex = [] := List.eq_nil_of_length_eq_zero (by omega)
  subst this
  exact h1

theorem arr_result {fn : Func} {p u : Tmp} (h : fn.results = #[.cell p 33, .tmp u]) {tmps : Array Value} {w : World} {B g : Nat} {x y z : Value} (hp : tmps.getD p undef = .pointer (some ⟨g, 0, none⟩)) (hA : Arr w B g x y z) :
    (results fn tmps).run Try.prog w = .ok (.tuple #[.agg #[x, y, z], tmps.getD u undef]) w := by
  rw [results_cell_tmp h, hp]
  have h2 := run_loadVar_row (P := Try.prog) w g 33 33 #[x, y, z] (0, 0) _ (arr_heap hA) Try.underlying33 rfl (by kernel_rfl)
  have h1 : (asAddr (Value.pointer (some ⟨g, 0, none⟩))).run Try.prog w = .ok ⟨g, 0, none⟩ w := by simp [asAddr]
  rw [h1]
  simp only [Result.andThen, h2]

theorem out_step {zs : List Int} {n i : Nat} (hl : zs.length = n) (hi : i < n) : outr zs (n - i) i = (mid zs i (n - (i + 1)) (i + 1)).or (outr zs (n - (i + 1)) (i + 1)) := by
  rw [show n - i = (n - (i + 1)) + 1 by omega]
  conv => lhs; unfold outr
  rw [hl]
  cases mid zs i (n - (i + 1)) (i + 1) <;> rfl
theorem mid_step {zs : List Int} {n i k : Nat} (hl : zs.length = n) (hk : k < n) : mid zs i (n - k) k = (inn zs i k (n - (k + 1)) (k + 1)).or (mid zs i (n - (k + 1)) (k + 1)) := by
  rw [show n - k = (n - (k + 1)) + 1 by omega]
  conv => lhs; unfold mid
  rw [hl]
  cases inn zs i k (n - (k + 1)) (k + 1) <;> rfl
theorem inn_yes {zs : List Int} {n i k j : Nat} (hj : j < n) (h : bad zs i k j = true) : inn zs i k (n - j) j = some [i, k, j] := by
  rw [show n - j = (n - (j + 1)) + 1 by omega]
  conv => lhs; unfold inn
  rw [if_pos h]
theorem inn_no {zs : List Int} {n i k j : Nat} (hj : j < n) (h : bad zs i k j = false) : inn zs i k (n - j) j = inn zs i k (n - (j + 1)) (j + 1) := by
  rw [show n - j = (n - (j + 1)) + 1 by omega]
  conv => lhs; unfold inn
  rw [if_neg (by rw [h]; simp)]

def badT (zs : List Int) : (Int × Int × Int) × Bool := if Ord zs then (match badOf zs with | some [i, k, j] => (((i : Int), (k : Int), (j : Int)), true) | _ => ((0, 0, 0), false)) else ((0, 0, 0), false)

set_option maxRecDepth 100000 in
set_option maxHeartbeats 4000000 in
theorem specBad (zs : List Int) (a b c : Int) (ok : Bool) (h : badT zs = ((a, b, c), ok)) (hz : zs.length ≤ 1048576) (W : World) (v : Value) (n : Nat) (hv : Sees W v n (vals zs)) :
    Calls Try.prog 30 #[v] W fun e w' => e = .returned (.tuple #[.agg #[.int .i64 a, .int .i64 b, .int .i64 c], .bool ok]) ∧ Below W.heap.size W w' := by
  have hl : zs.length = n := by simpa using hv.1
  have hn : n ≤ 1048576 := by omega
  obtain ⟨r, hr⟩ : ∃ r, isOrd zs = r := ⟨_, rfl⟩
  have CO := Go.Lib.hid (fun W' (hs' : Sees W' v n (vals zs)) => l2Order_any W' v n zs r hs' hn hr)
  have HV := Go.Lib.hid hv
  have hB0 := Go.Lib.hid ((Below.refl W.heap.size W).alloc (Nat.le_refl _) (.cells #[.int .i64 0, .int .i64 0, .int .i64 0] 33))
  have hA0 := Go.Lib.hid (arr_alloc W (.int .i64 0) (.int .i64 0) (.int .i64 0))
  unfold badT at h
  cases r with
  | false =>
    rw [if_neg (by intro h1; unfold isOrd at hr; exact of_decide_eq_false hr h1)] at h
    cases h
    clear hr
    obtain ⟨_, ad, cap, rfl, _, _⟩ := hv
    go_enter Try.func30, Try.ntmps30
    go_wp2_with fail
    refine (CO.out _ (HV.out.grow hB0.out)).mono ?_
    rintro e w1 ⟨rfl, hd⟩
    have HA := Go.Lib.hid (arr_call hA0.out (hd.below _))
    have HB1 : Hid (Below W.heap.size W w1) := Go.Lib.hid (hB0.out.trans (hd.below _))
    clear hd
    obtain ⟨k0, k1, k2, f0, f1, f2⟩ := arr_cells HA.out
    obtain ⟨s1, s2, s3, s4, hN⟩ := arr_store HA.out (.int .i64 0) (.int .i64 0) (.int .i64 0)
    obtain ⟨m0, m1, m2, _, _, _⟩ := arr_cells hN
    have HBN := Go.Lib.hid (arr_below (Nat.le_refl _) HB1.out (.int .i64 0) (.int .i64 0) (.int .i64 0))
    have HNN := Go.Lib.hid hN
    clear hN
    go_wp2_with fail
    (try simp only [Exit.inBlock, Exit.then])
    refine bodyPost_ret (arr_result rfl rfl HNN.out) rfl ?_
    exact ⟨rfl, HBN.out⟩
  | true =>
    have hord : Ord zs := by unfold isOrd at hr; exact of_decide_eq_true hr
    have hn7 : n ≤ 7 := by have := hord.2.1; omega
    have hn1 : 1 ≤ n := by have := hord.1; omega
    rw [if_pos hord] at h
    have HB0 : Hid (badOf zs = outr zs (n - 0) 0) := Go.Lib.hid (by unfold badOf; rw [hl]; rfl)
    obtain ⟨R, hR⟩ : ∃ R, badOf zs = R := ⟨_, rfl⟩
    rw [hR] at h HB0
    have HH := Go.Lib.hid h
    obtain ⟨b1, o, cap, rfl, _, _, hbl, hcell⟩ := sees_cells hv (by omega)
    have HC := Go.Lib.hid hcell
    clear hv hcell hr h hR
    go_enter Try.func30, Try.ntmps30
    go_wp2_with fail
    refine (CO.out _ (HV.out.grow hB0.out)).mono ?_
    rintro e w1 ⟨rfl, hd⟩
    have HW1 := Go.Lib.hid (And.intro (arr_call hA0.out (hd.below _)) (hB0.out.trans (hd.below _)))
    clear hd
    go_wp2_with fail
    go_loopw [4] (fun iv wr => ∃ (i : Nat), iv = .int .i64 i ∧ i ≤ n ∧ Hid (Arr wr W.heap.size W.heap.size (.int .i64 0) (.int .i64 0) (.int .i64 0) ∧ Below W.heap.size W wr) ∧ Hid (outr zs (n - i) i = R)) (fun i _ => n - (intOf i).toNat)
    case atStart => exact ⟨0, rfl, Nat.zero_le _, HW1, Go.Lib.hid HB0.out.symm⟩
    case round =>
      obtain ⟨i, rfl, hin, HWR, HR⟩ := hrel
      by_cases hi : i < n
      · have hii : (i : Int) < (n : Int) := by omega
        have HR2 : Hid ((mid zs i (n - (i + 1)) (i + 1)).or (outr zs (n - (i + 1)) (i + 1)) = R) := Go.Lib.hid (by rw [← out_step hl hi]; exact HR.out)
        obtain ⟨x, hx⟩ : ∃ x, zs.getD i 0 = x := ⟨_, rfl⟩
        have HX := Go.Lib.hid hx
        clear hx
        go_wp2_with fail
        go_loopw [5] (fun kv wr => ∃ (k : Nat), kv = .int .i64 k ∧ i + 1 ≤ k ∧ k ≤ n ∧ Hid (Arr wr W.heap.size W.heap.size (.int .i64 0) (.int .i64 0) (.int .i64 0) ∧ Below W.heap.size W wr) ∧ Hid ((mid zs i (n - k) k).or (outr zs (n - (i + 1)) (i + 1)) = R)) (fun k _ => n - (intOf k).toNat)
        case atStart => exact ⟨i + 1, by go_num, Nat.le_refl _, hi, HWR, HR2⟩
        case round =>
          clear HWR
          obtain ⟨k, rfl, hik, hkn, HWR, HM⟩ := hrel
          by_cases hk : k < n
          · have hki : (k : Int) < (n : Int) := by omega
            have HM2 : Hid (((inn zs i k (n - (k + 1)) (k + 1)).or (mid zs i (n - (k + 1)) (k + 1))).or (outr zs (n - (i + 1)) (i + 1)) = R) := Go.Lib.hid (by rw [← mid_step hl hk]; exact HM.out)
            obtain ⟨y, hy⟩ : ∃ y, zs.getD k 0 = y := ⟨_, rfl⟩
            have HY := Go.Lib.hid hy
            clear hy
            go_wp2_with fail
            go_loopw [6] (fun jv wr => ∃ (j : Nat), jv = .int .i64 j ∧ k + 1 ≤ j ∧ j ≤ n ∧ Hid (Arr wr W.heap.size W.heap.size (.int .i64 0) (.int .i64 0) (.int .i64 0) ∧ Below W.heap.size W wr) ∧ Hid (((inn zs i k (n - j) j).or (mid zs i (n - (k + 1)) (k + 1))).or (outr zs (n - (i + 1)) (i + 1)) = R)) (fun j _ => n - (intOf j).toNat)
            case atStart => exact ⟨k + 1, by go_num, Nat.le_refl _, hk, HWR, HM2⟩
            case round =>
              clear HWR
              obtain ⟨j, rfl, hkj, hjn, HWR, HJ⟩ := hrel
              by_cases hj : j < n
              · have hji : (j : Int) < (n : Int) := by omega
                obtain ⟨z, hz⟩ : ∃ z, zs.getD j 0 = z := ⟨_, rfl⟩
                have cx : wr.cell? ⟨b1, o + i, none⟩ = some (.int .i64 x) := by rw [← HX.out]; exact (HWR.out.2.cell (p := ⟨b1, o + i, none⟩) hbl).trans (HC.out i (by omega))
                have cy : wr.cell? ⟨b1, o + k, none⟩ = some (.int .i64 y) := by rw [← HY.out]; exact (HWR.out.2.cell (p := ⟨b1, o + k, none⟩) hbl).trans (HC.out k (by omega))
                have cz : wr.cell? ⟨b1, o + j, none⟩ = some (.int .i64 z) := by rw [← hz]; exact (HWR.out.2.cell (p := ⟨b1, o + j, none⟩) hbl).trans (HC.out j (by omega))
                have HBAD : Hid (bad zs i k j = decide (z < x ∧ x < y)) := Go.Lib.hid (by unfold bad; rw [HX.out, HY.out, hz])
                clear hz
                by_cases hzx : z < x
                · have dzx : decide (z < x) = true := decide_eq_true hzx
                  by_cases hxy : x < y
                  · have dxy : decide (x < y) = true := decide_eq_true hxy
                    have HF : Hid (R = some [i, k, j]) := Go.Lib.hid (by
                      have h1 := HJ.out
                      rw [inn_yes hj (by rw [HBAD.out]; exact decide_eq_true ⟨hzx, hxy⟩)] at h1
                      exact h1.symm)
                    have hans : a = (i : Int) ∧ b = (k : Int) ∧ c = (j : Int) ∧ ok = true := by
                      have h1 := HH.out
                      rw [HF.out] at h1
                      cases h1
                      exact ⟨rfl, rfl, rfl, rfl⟩
                    obtain ⟨rfl, rfl, rfl, rfl⟩ := hans
                    go_wp2_with fail
                    go_quiet (fail)
                    have hw2 := Go.Lib.hid (show Arr (wr.drewN nq) W.heap.size W.heap.size (.int .i64 0) (.int .i64 0) (.int .i64 0) from own_drewN HWR.out.1)
                    have hw3 := Go.Lib.hid (ExactC.below_drewN (q := nq) HWR.out.2)
                    obtain ⟨wq, hwq⟩ : ∃ wq, wr.drewN nq = wq := ⟨_, rfl⟩
                    rw [hwq] at hw2 hw3 ⊢
                    clear hwq HWR cx cy cz
                    have HWR := Go.Lib.hid (And.intro hw2.out hw3.out)
                    obtain ⟨k0, k1, k2, f0, f1, f2⟩ := arr_cells HWR.out.1
                    obtain ⟨s1, s2, s3, s4, hN⟩ := arr_store HWR.out.1 (.int .i64 (i : Int)) (.int .i64 (k : Int)) (.int .i64 (j : Int))
                    obtain ⟨m0, m1, m2, _, _, _⟩ := arr_cells hN
                    have HBN := Go.Lib.hid (arr_below (Nat.le_refl _) HWR.out.2 (.int .i64 (i : Int)) (.int .i64 (k : Int)) (.int .i64 (j : Int)))
                    have HNN := Go.Lib.hid hN
                    clear hN
                    go_wp2_with fail
                    (try simp only [Exit.inBlock, Exit.then])
                    refine bodyPost_ret (arr_result rfl rfl HNN.out) rfl ?_
                    exact ⟨rfl, HBN.out⟩
                  · have dxy : decide (x < y) = false := decide_eq_false hxy
                    have HN : Hid (((inn zs i k (n - (j + 1)) (j + 1)).or (mid zs i (n - (k + 1)) (k + 1))).or (outr zs (n - (i + 1)) (i + 1)) = R) := Go.Lib.hid (by rw [← inn_no hj (by rw [HBAD.out]; exact decide_eq_false (fun h => hxy h.2))]; exact HJ.out)
                    go_wp2_with fail
                    go_quiet (fail)
                    have hw2 : Hid (Arr (wr.drewN nq) W.heap.size W.heap.size (.int .i64 0) (.int .i64 0) (.int .i64 0) ∧ Below W.heap.size W (wr.drewN nq)) := Go.Lib.hid ⟨own_drewN HWR.out.1, ExactC.below_drewN HWR.out.2⟩
                    go_wp2
                    go_roundw
                    case rel => exact ⟨j + 1, by go_num, by omega, by omega, hw2, HN⟩
                    case measure => simp [intOf] <;> omega
                · have dzx : decide (z < x) = false := decide_eq_false hzx
                  have HN : Hid (((inn zs i k (n - (j + 1)) (j + 1)).or (mid zs i (n - (k + 1)) (k + 1))).or (outr zs (n - (i + 1)) (i + 1)) = R) := Go.Lib.hid (by rw [← inn_no hj (by rw [HBAD.out]; exact decide_eq_false (fun h => hzx h.1))]; exact HJ.out)
                  go_wp2_with fail
                  go_quiet (fail)
                  have hw2 : Hid (Arr (wr.drewN nq) W.heap.size W.heap.size (.int .i64 0) (.int .i64 0) (.int .i64 0) ∧ Below W.heap.size W (wr.drewN nq)) := Go.Lib.hid ⟨own_drewN HWR.out.1, ExactC.below_drewN HWR.out.2⟩
                  go_wp2
                  go_roundw
                  case rel => exact ⟨j + 1, by go_num, by omega, by omega, hw2, HN⟩
                  case measure => simp [intOf] <;> omega
              · have hjn2 : j = n := by omega
                have HN : Hid ((mid zs i (n - (k + 1)) (k + 1)).or (outr zs (n - (i + 1)) (i + 1)) = R) := Go.Lib.hid (by
                  have h1 := HJ.out
                  rw [show n - j = 0 by omega] at h1
                  simpa [inn] using h1)
                go_wp2
                go_roundw
                case rel => exact ⟨k + 1, by go_num, by omega, by omega, HWR, HN⟩
                case measure => simp [intOf] <;> omega
          · have HN : Hid (outr zs (n - (i + 1)) (i + 1) = R) := Go.Lib.hid (by
              have h1 := HM.out
              rw [show n - k = 0 by omega] at h1
              simpa [mid] using h1)
            have hki : ¬ (k : Int) < (n : Int) := by omega
            go_wp2
            go_roundw
            case rel => exact ⟨i + 1, by go_num, by omega, HWR, HN⟩
            case measure => simp [intOf] <;> omega
      · have HF : Hid (R = none) := Go.Lib.hid (by
          have h1 := HR.out
          rw [show n - i = 0 by omega] at h1
          exact h1.symm)
        have hans : a = 0 ∧ b = 0 ∧ c = 0 ∧ ok = false := by
          have h1 := HH.out
          rw [HF.out] at h1
          cases h1
          exact ⟨rfl, rfl, rfl, rfl⟩
        obtain ⟨rfl, rfl, rfl, rfl⟩ := hans
        have hii : ¬ (i : Int) < (n : Int) := by omega
        obtain ⟨k0, k1, k2, f0, f1, f2⟩ := arr_cells HWR.out.1
        obtain ⟨s1, s2, s3, s4, hN⟩ := arr_store HWR.out.1 (.int .i64 0) (.int .i64 0) (.int .i64 0)
        obtain ⟨m0, m1, m2, _, _, _⟩ := arr_cells hN
        have HBN := Go.Lib.hid (arr_below (Nat.le_refl _) HWR.out.2 (.int .i64 0) (.int .i64 0) (.int .i64 0))
        have HNN := Go.Lib.hid hN
        clear hN
        go_wp2_with fail
        (try simp only [Exit.inBlock, Exit.then])
        refine bodyPost_ret (arr_result rfl rfl HNN.out) rfl ?_
        exact ⟨rfl, HBN.out⟩

theorem ord231 : Ord [2, 3, 1] := by decide

theorem bad_link {zs : List Int} {a b c : Int} {ok : Bool} (h : badT zs = ((a, b, c), ok)) :
    ∃ xs, firstAns zs [2, 3, 1] = (xs, ok) ∧ ((ok = true ∧ xs = [a, b, c]) ∨ (ok = false ∧ a = 0 ∧ b = 0 ∧ c = 0)) := by
  unfold badT at h
  unfold firstAns
  by_cases ho : Ord zs
  · rw [if_pos ho, bad_first] at h
    cases hp : placesOf zs [2, 3, 1] with
    | nil =>
      rw [hp] at h
      cases h
      have hn : ¬ (Ord zs ∧ Ord [2, 3, 1] ∧ has zs [2, 3, 1] = true) := by
        rintro ⟨_, _, hh⟩
        have h2 := has_len.1 hh
        rw [hp] at h2
        simp at h2
      rw [if_neg hn]
      exact ⟨_, rfl, .inr ⟨rfl, rfl, rfl, rfl⟩⟩
    | cons q t =>
      have hy : Ord zs ∧ Ord [2, 3, 1] ∧ has zs [2, 3, 1] = true := ⟨ho, ord231, has_len.2 (by rw [hp]; simp)⟩
      rw [if_pos hy]
      have hl : q.length = 3 := places_len (zs := zs) (pat := [2, 3, 1]) (by rw [hp]; simp)
      obtain ⟨i, k, j, rfl⟩ : ∃ i k j, q = [i, k, j] := by
        match q, hl with
        | [i, k, j], _ => exact ⟨i, k, j, rfl⟩
      rw [hp] at h
      cases h
      exact ⟨_, rfl, .inl ⟨rfl, rfl⟩⟩
  · rw [if_neg ho] at h
    cases h
    rw [if_neg (fun h => ho h.1)]
    exact ⟨_, rfl, .inr ⟨rfl, rfl, rfl, rfl⟩⟩

set_option maxRecDepth 100000 in
set_option maxHeartbeats 4000000 in
theorem implBad (zs : List Int) (a b c : Int) (ok : Bool) (h : badT zs = ((a, b, c), ok)) (hz : zs.length ≤ 1048576) (W : World) (v : Value) (n : Nat) (hv : Sees W v n (vals zs)) :
    Calls Try.prog 29 #[v] W fun e w' => e = .returned (.tuple #[.agg #[.int .i64 a, .int .i64 b, .int .i64 c], .bool ok]) ∧ Below W.heap.size W w' := by
  have hl : zs.length = n := by simpa using hv.1
  obtain ⟨xs, hf, hx⟩ := bad_link h
  have HX := Go.Lib.hid hx
  have CF := Go.Lib.hid (fun (W' : World) (u : Value) (h1 : Sees W' v n (vals zs)) (h2 : Sees W' u 3 (vals [2, 3, 1])) => implFirst zs [2, 3, 1] xs ok hf hz (by decide) W' v n h1 u 3 h2)
  have HV := Go.Lib.hid hv
  obtain ⟨_, ad, cap, rfl, _, _⟩ := hv
  clear h hf hx
  obtain ⟨W1, hW1⟩ : ∃ W1, W.alloc (.cells #[.int .i64 0, .int .i64 0, .int .i64 0] 33) = W1 := ⟨_, rfl⟩
  have hs1 : W1.heap.size = W.heap.size + 1 := by rw [← hW1]; simp
  have hB0 := Go.Lib.hid ((Below.refl W.heap.size W).alloc (Nat.le_refl _) (.cells #[.int .i64 0, .int .i64 0, .int .i64 0] 33))
  have hA0 := Go.Lib.hid (arr_alloc W (.int .i64 0) (.int .i64 0) (.int .i64 0))
  rw [hW1] at hB0 hA0
  have hu0 : (W1.alloc (.cells #[.int .i64 2, .int .i64 3, .int .i64 1] 3)).ownsRow W1.heap.size 3 1 (.slice (some ⟨W1.heap.size, 0, none⟩) 3 3) 3 (vals [2, 3, 1]) :=
    block_own (ex := []) (by show (W1.heap.push _)[W1.heap.size]? = _; rw [Array.getElem?_push_size]; rfl) rfl rfl (Nat.le_refl _) (by unfold maxLen; omega)
  have HU := Go.Lib.hid (Sees.owns hu0)
  have hb2 : Below W1.heap.size W1 (W1.alloc (.cells #[.int .i64 2, .int .i64 3, .int .i64 1] 3)) := (Below.refl _ _).alloc (Nat.le_refl _) _
  have HB2 := Go.Lib.hid (hB0.out.trans (hb2.mono hB0.out.size))
  have HA2 := Go.Lib.hid (arr_call hA0.out hb2)
  clear hu0 hb2
  have HS1 := Go.Lib.hid hs1
  have HW1 := Go.Lib.hid hW1
  clear hs1 hW1
  go_enter Try.func29, Try.ntmps29
  go_wp2_with fail
  rw [HW1.out]
  refine (CF.out _ _ (HV.out.grow HB2.out) (by rw [← HS1.out]; exact HU.out)).mono ?_
  rintro e w3 ⟨u, rfl, ho, hb⟩
  have H3 := Go.Lib.hid (And.intro (arr_call HA2.out hb) (HB2.out.trans (hb.mono HB2.out.size)))
  have HO := Go.Lib.hid (own_lower ho HB2.out.size)
  clear ho hb HA2 HB2 HU hB0 hA0 HW1 HS1
  obtain ⟨k0, k1, k2, f0, f1, f2⟩ := arr_cells H3.out.1
  obtain ⟨s1, s2, s3, s4, hN⟩ := arr_store H3.out.1 (.int .i64 a) (.int .i64 b) (.int .i64 c)
  obtain ⟨m0, m1, m2, _, _, _⟩ := arr_cells hN
  have HBN := Go.Lib.hid (arr_below (Nat.le_refl _) H3.out.2 (.int .i64 a) (.int .i64 b) (.int .i64 c))
  have HNN := Go.Lib.hid hN
  clear hN
  rcases HX.out with ⟨rfl, rfl⟩ | ⟨rfl, rfl, rfl, rfl⟩
  · have ho3 : w3.ownsRow W.heap.size 3 1 u 3 (vals [a, b, c]) := HO.out
    obtain ⟨g, cp, rfl⟩ := own_pos ho3 (by omega)
    have c0 : w3.cell? ⟨g, 0, none⟩ = some (.int .i64 a) := ho3.cellAt 0 (by omega)
    have c1 : w3.cell? ⟨g, 1, none⟩ = some (.int .i64 b) := ho3.cellAt 1 (by omega)
    have c2 : w3.cell? ⟨g, 2, none⟩ = some (.int .i64 c) := ho3.cellAt 2 (by omega)
    have hA := run_arrayAt (P := Try.prog) (w := w3) 33 3 3 (some ⟨g, 0, none⟩) 3 cp (by kernel_rfl) (by omega)
    clear ho3 HO CF
    go_wp2_with fail
    (try simp only [Exit.inBlock, Exit.then])
    refine bodyPost_ret (arr_result rfl rfl HNN.out) rfl ?_
    exact ⟨rfl, HBN.out⟩
  · go_wp2_with fail
    (try simp only [Exit.inBlock, Exit.then])
    refine bodyPost_ret (arr_result rfl rfl HNN.out) rfl ?_
    exact ⟨rfl, HBN.out⟩

set_option maxHeartbeats 1000000 in
theorem eqIntA3_same (w : World) (a b c : Int) :
    Calls Try.prog 63 #[.agg #[.int .i64 a, .int .i64 b, .int .i64 c], .agg #[.int .i64 a, .int .i64 b, .int .i64 c]] w fun e w' => e = .returned (.bool true) ∧ Below w.heap.size w w' := by
  have hA1 := (arr_alloc w (.int .i64 a) (.int .i64 b) (.int .i64 c))
  have hb1 : Below w.heap.size w (w.alloc (.cells #[.int .i64 a, .int .i64 b, .int .i64 c] 33)) := (Below.refl _ _).alloc (Nat.le_refl _) _
  have hb2 := hb1.alloc hb1.size (.cells #[.int .i64 a, .int .i64 b, .int .i64 c] 33)
  have hA1' := arr_call hA1 ((Below.refl _ _).alloc (Nat.le_refl _) (.cells #[.int .i64 a, .int .i64 b, .int .i64 c] 33))
  have hA2 := (arr_alloc (w.alloc (.cells #[.int .i64 a, .int .i64 b, .int .i64 c] 33)) (.int .i64 a) (.int .i64 b) (.int .i64 c))
  rw [World.size_alloc] at hA2
  have HA := Go.Lib.hid (And.intro hA1' (And.intro hA2 hb2))
  clear hA1 hA1' hA2 hb1 hb2
  go_enter Try.func63, Try.ntmps63
  go_wp2_with fail
  obtain ⟨w2, hw2⟩ : ∃ w2, (w.alloc (.cells #[.int .i64 a, .int .i64 b, .int .i64 c] 33)).alloc (.cells #[.int .i64 a, .int .i64 b, .int .i64 c] 33) = w2 := ⟨_, rfl⟩
  rw [hw2] at HA ⊢
  clear hw2
  go_loopw [5] (fun i wr => ∃ k : Nat, k ≤ 3 ∧ i = .int .i64 k ∧ Hid (Drawn w2 wr)) (fun i _ => 3 - (intOf i).toNat)
  case atStart => exact ⟨0, by omega, rfl, Go.Lib.hid (Drawn.refl _)⟩
  case round =>
    obtain ⟨k, hk, rfl, HD⟩ := hrel
    by_cases hlt : k < 3
    · obtain ⟨x, hx⟩ : ∃ x : Int, ∀ g, (g = w.heap.size ∨ g = w.heap.size + 1) → wr.cell? ⟨g, k, none⟩ = some (.int .i64 x) := by
        obtain ⟨a0, a1, a2, _⟩ := arr_cells HA.out.1
        obtain ⟨b0, b1, b2, _⟩ := arr_cells HA.out.2.1
        match k, hlt with
        | 0, _ => exact ⟨a, by rintro g (rfl | rfl); exact (HD.out.cell _).trans a0; exact (HD.out.cell _).trans b0⟩
        | 1, _ => exact ⟨b, by rintro g (rfl | rfl); exact (HD.out.cell _).trans a1; exact (HD.out.cell _).trans b1⟩
        | 2, _ => exact ⟨c, by rintro g (rfl | rfl); exact (HD.out.cell _).trans a2; exact (HD.out.cell _).trans b2⟩
      have hck := hx _ (.inl rfl)
      have hck2 := hx _ (.inr rfl)
      have hlti : (k : Int) < 3 := by omega
      clear hx
      go_wp2
      go_quiet (fail)
      go_wp2
      go_roundw
      case rel => exact ⟨k + 1, by omega, by go_num, Go.Lib.hid (HD.out.next _)⟩
      case measure => simp [intOf]; omega
    · go_wp2
      go_ret
      exact ⟨rfl, HA.out.2.2.trans (HD.out.below _)⟩

end Go.Proofs.Ytddenfnoajdjiaa.BadCC
