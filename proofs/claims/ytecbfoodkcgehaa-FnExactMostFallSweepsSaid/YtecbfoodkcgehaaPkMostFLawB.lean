/-
  On every argument MostFallSweeps answers as its model, leaves its arguments as they were, and owns its answer.
-/
import Derived.Test.YtecbfoodkcgehaaPkMostFLawA
import Derived.Shelf.SlSorted.IsSorted
import Derived.Shelf.Lay
import Derived.Ground.SlsoProg
import Derived.Test.YtecbfoodkcgehaaProg
import Derived.Test.YtecbfoodkcgehaaWord
import Derived.Test.YtecbfoodkcgehaaOrder
import Derived.Test.YtecbfoodkcgehaaShelf
import Derived.RangeFuncBox
import Derived.Maps.AppendAt
import Derived.WalkSmall
import Derived.Laws.CopyOwn
import Derived.IntWalk
import Derived.Test.YtecbfoodkcgehaaAt
import Derived.BigQuiet
import Derived.Deep.QuietTactic
import Derived.ArgAppend
import Derived.Test.YtecbfoodkcgehaaSame
import Derived.Test.YtecbfoodkcgehaaCutsI
import Derived.Test.YtecbfoodkcgehaaFSortM
import Derived.Test.YtecbfoodkcgehaaMostFM
import Derived.Test.YtecbfoodkcgehaaRows
import Derived.Test.YtecbfoodkcgehaaSeat
import Derived.Test.YtecbfoodkcgehaaOpen
import Derived.WalkKit
import Derived.ProofKit
import Derived.OpenShut
import Derived.ShutString
import Derived.ChangeOld
import Derived.Below
import Derived.Test.YtecbfoodkcgehaaExact
import Derived.Test.YtecbfoodkcgehaaOrd

/-
  The kit's contract of slices.IsSorted at integers, laid by the kit's own command at this translation.
-/
namespace Go.Proofs
open Go.Shelf Go.RowKit Go.Lib Go.Sort
shelf_lay_g SlLaysO.n10 Slso 10 at Try 126 as Try.laysIS
end Go.Proofs

/-
  Contracts: the model and the program run an order by a word. Conditions: lists and texts of at most 2^20 elements.
-/
namespace Go.Proofs.Ytecbfoodkcgehaa.RunC
open Go.RowKit SeesC IntsC ExactC NumC IterC OrdMath WordMath InC OrderC WordC

def runAns (zs : List Int) (s : ByteArray) : List Int × Bool := if Ord zs ∧ Word s ∧ s.size = 2 * zs.length then (runOut zs s, true) else ([], false)

theorem runOut_len {zs : List Int} {s : ByteArray} (hw : Word s) (hsz : s.size = 2 * zs.length) : (runOut zs s).length = zs.length := by
  have := run_len (zs := zs) s.size 0 hw.2.2
  unfold runOut
  omega

theorem run_ans_len {zs : List Int} {s : ByteArray} {xs : List Int} {b : Bool} (h : runAns zs s = (xs, b)) : xs.length ≤ 1048576 := by
  unfold runAns at h; split at h
  · rename_i ho; cases h; rw [runOut_len ho.2.1 ho.2.2]; have := ho.1.2.1; omega
  · cases h; simp

/-- A list that is not empty, as all but the last, and the last. -/
theorem split_last {l : List Int} (h : 0 < l.length) : ∃ a p, l = a ++ [p] ∧ l.getLast?.getD 0 = p ∧ l.dropLast = a := by
  have hne : l ≠ [] := by intro e; subst e; simp at h
  have e := (List.dropLast_concat_getLast hne).symm
  refine ⟨l.dropLast, l.getLast hne, e, ?_, rfl⟩
  conv => lhs; rw [e]
  simp

/-- A row of the call's own as a block that is known whole, and back. -/
theorem own_block {w : World} {base g n cap : Nat} {ty : TypeId} {xs : List Value} (h : w.ownsRow base ty 1 (.slice (some ⟨g, 0, none⟩) n cap) n xs) : ∃ ex, w.heap[g]? = some (.cells (xs ++ ex).toArray ty (0, 0)) ∧ n + ex.length = cap ∧ xs.length = n ∧ base ≤ g ∧ cap ≤ maxLen := by
  have hl : xs.length = n := by simpa using h.1
  rcases h.2 with ⟨h0, _⟩ | ⟨g', cap', cur, h0, hb, hh, h1, hm, hsz, ht⟩
  · cases h0
  · cases h0
    refine ⟨cur.toList.drop n, ?_, ?_, hl, hb, hm⟩
    · rw [← ht, Nat.mul_one, List.take_append_drop]; simpa using hh
    · rw [List.length_drop, Array.length_toList, hsz]; omega

theorem block_own {w : World} {base g n cap : Nat} {ty : TypeId} {xs ex : List Value} (hh : w.heap[g]? = some (.cells (xs ++ ex).toArray ty (0, 0))) (hc : n + ex.length = cap) (hl : xs.length = n) (hb : base ≤ g) (hm : cap ≤ maxLen) : w.ownsRow base ty 1 (.slice (some ⟨g, 0, none⟩) n cap) n xs :=
  ⟨by simpa using hl, .inr ⟨g, cap, _, rfl, hb, hh, by omega, hm, by simp; omega, by simp [← hl]⟩⟩

/-- What a pop does to the line. -/
theorem line_pop (lo la R : List Int) (p : Int) (ex : List Value) (no : Nat) (hno : lo.length = no) :
    (splice (vals (lo ++ (la ++ [p]) ++ R) ++ ex) (no + 1) (vals la)).set no (.int .i64 p) = vals ((lo ++ [p]) ++ la ++ R) ++ ex := by
  subst hno
  unfold splice vals
  have e1 : List.map (Value.int .i64) (lo ++ (la ++ [p]) ++ R) ++ ex = List.map (Value.int .i64) lo ++ (List.map (Value.int .i64) (la ++ [p]) ++ (List.map (Value.int .i64) R ++ ex)) := by simp
  rw [e1]
  obtain ⟨y, ys, hy⟩ : ∃ y ys, List.map (Value.int .i64) (la ++ [p]) = y :: ys := by
    cases la with
    | nil => exact ⟨_, _, rfl⟩
    | cons a tl => exact ⟨_, _, rfl⟩
  have hys : ys.length = la.length := by have := congrArg List.length hy; simp at this; omega
  rw [hy]
  have e2 : (List.map (Value.int .i64) lo ++ (y :: ys ++ (List.map (Value.int .i64) R ++ ex))).take (lo.length + 1) = List.map (Value.int .i64) lo ++ [y] := by
    have h9 : List.map (Value.int .i64) lo ++ (y :: ys ++ (List.map (Value.int .i64) R ++ ex)) = (List.map (Value.int .i64) lo ++ [y]) ++ (ys ++ (List.map (Value.int .i64) R ++ ex)) := by simp
    rw [h9, List.take_append_of_le_length (by simp)]
    exact List.take_of_length_le (by simp)
  have e3 : (List.map (Value.int .i64) lo ++ (y :: ys ++ (List.map (Value.int .i64) R ++ ex))).drop (lo.length + 1 + (List.map (Value.int .i64) la).length) = List.map (Value.int .i64) R ++ ex := by
    have h9 : List.map (Value.int .i64) lo ++ (y :: ys ++ (List.map (Value.int .i64) R ++ ex)) = (List.map (Value.int .i64) lo ++ y :: ys) ++ (List.map (Value.int .i64) R ++ ex) := by simp
    rw [h9, List.drop_append_of_le_length (by simp; omega), List.drop_of_length_le (by simp; omega), List.nil_append]
  rw [e2, e3, List.append_assoc, List.set_append_right _ _ (by simp)]
  simp

end Go.Proofs.Ytecbfoodkcgehaa.RunC

/-
  Contract: the model's word of the sweep, and its sweep. Conditions: an order.
-/
namespace Go.Proofs.Ytecbfoodkcgehaa.SweepWC
open Go.RowKit SeesC IntsC ExactC NumC IterC OrdMath WordMath OrdFacts InC OrderC WordC RunC AtC EndsM SweepM StackM

/-- What the inner loop keeps: the signs and the stack of the next number. -/
def In (zs : List Int) (i : Nat) (x : Int) (st : List Int) (acc : List UInt8) : Prop :=
  acc ++ List.replicate (popd st x).length 79 ++ [73] = sgTo zs (i + 1) ∧ belw st x ++ [x] = (swTo zs (i + 1)).2

theorem in_start {zs : List Int} {i : Nat} (hi : i < zs.length) : In zs i (zs.getD i 0) (swTo zs i).2 (sgTo zs i) := by
  obtain ⟨o, s, hr⟩ : ∃ o s, swTo zs i = (o, s) := ⟨_, _, rfl⟩
  refine ⟨rfl, ?_⟩
  rw [sw_next hi hr, hr]

theorem in_pop {zs : List Int} {i : Nat} {x p : Int} {la : List Int} {acc : List UInt8} (h : In zs i x (la ++ [p]) acc) (hp : p < x) : In zs i x la (acc ++ [79]) := by
  obtain ⟨h1, h2⟩ := h
  rw [popd_less hp] at h1
  rw [belw_less hp] at h2
  refine ⟨?_, h2⟩
  rw [← h1]
  simp [List.replicate_succ]

theorem in_end {zs : List Int} {i : Nat} {x : Int} {st : List Int} {acc : List UInt8} (h : In zs i x st acc) (hp : st.getLast?.all (fun p => decide (¬ p < x))) : acc ++ [73] = sgTo zs (i + 1) ∧ st ++ [x] = (swTo zs (i + 1)).2 := by
  obtain ⟨h1, h2⟩ := h
  rcases List.eq_nil_or_concat st with rfl | ⟨la, p, rfl⟩
  · rw [popd_nil] at h1
    rw [belw_nil] at h2
    exact ⟨by simpa using h1, h2⟩
  · rw [List.concat_eq_append] at *
    have : ¬ p < x := by simpa using hp
    rw [popd_not this] at h1
    rw [belw_not this] at h2
    exact ⟨by simpa using h1, h2⟩

theorem in_len {zs : List Int} {i : Nat} {x : Int} {st : List Int} {acc : List UInt8} (h : In zs i x st acc) (hi : i < zs.length) (h7 : zs.length ≤ 7) : acc.length ≤ 13 := by
  have h1 := congrArg List.length h.1
  have h2 := sg_len zs (i + 1) hi
  simp at h1
  omega

theorem in_len2 {zs : List Int} {i : Nat} {x : Int} {st : List Int} (h : st ++ [x] = (swTo zs (i + 1)).2) (hi : i < zs.length) (h7 : zs.length ≤ 7) : st.length ≤ 6 := by
  have h1 := congrArg List.length h
  have h2 := sg_len zs (i + 1) hi
  simp at h1
  omega

end Go.Proofs.Ytecbfoodkcgehaa.SweepWC

/-
  Contract: the program's sweep. Conditions: an order.
-/
namespace Go.Proofs.Ytecbfoodkcgehaa.SweepIC
open Go.RowKit SeesC WordsC IntsC ExactC NumC IterC OrdMath WordMath OrdFacts InC OrderC AtC EndsM SweepM StackM CutStC

theorem sweep_sent {zs : List Int} {y : Int} (h : ∀ z ∈ zs, z < y) : (swTo (zs ++ [y]) (zs.length + 1)).1 = sweepL zs := by
  unfold swTo
  rw [List.take_of_length_le (by simp), List.foldl_append]
  obtain ⟨o, s, hr⟩ : ∃ o s, zs.foldl swF ([], []) = (o, s) := ⟨_, _, rfl⟩
  rw [hr]
  have hs : ∀ z ∈ s, z < y := by
    intro z hz
    have hp := sw_perm zs [] []
    rw [hr] at hp
    have h9 : z ∈ o ++ s := List.mem_append.2 (.inr hz)
    have := hp.mem_iff.1 h9
    exact h z (by simpa using this)
  show o ++ popd s y = _
  rw [popd_all hs]
  unfold sweepL
  rw [hr]

theorem drop_popd {st : List Int} {x : Int} {k : Nat} (h : st.take k = belw st x) : (st.drop k).reverse = popd st x := by
  have h1 := parts st x
  rw [← h] at h1
  have h2 : st.take k ++ (popd st x).reverse = st.take k ++ st.drop k := by rw [h1, List.take_append_drop]
  have h3 := List.append_cancel_left h2
  rw [← h3, List.reverse_reverse]

theorem setL_drop (st : List Int) (k : Nat) (hk : k ≤ st.length) : setL (vals st) k (vals (st.drop k).reverse) = vals (st.take k ++ (st.drop k).reverse) := by
  rw [setL_is _ _ _ (by simp; omega)]
  have e : (vals st).drop (k + (vals (st.drop k).reverse).length) = [] := List.drop_of_length_le (by simp; omega)
  rw [e, List.append_nil]
  unfold vals
  rw [← List.map_take, List.map_append]

theorem rev_set (st : List Int) (x : Int) (k m g c o' B : Nat) (w : World) (hst : st.length = m) (hkm : k ≤ m) (ho : k < m → o' = k) (htk : st.take k = belw st x) (hown : w.ownsRow B 3 1 (.slice (some ⟨g, 0, none⟩) m c) m (vals st)) :
    w.grownBy (w.setCells g o' (((st.drop k).take (m - k)).reverse.map (Value.int .i64))) (some g) ∧ (∀ j u, (vals (popd st x))[j]? = some u → (w.setCells g o' (((st.drop k).take (m - k)).reverse.map (Value.int .i64))).cell? ((⟨g, o', none⟩ : Addr).add j) = some u) := by
  have e0 : (st.drop k).take (m - k) = st.drop k := List.take_of_length_le (by simp; omega)
  have e1 := drop_popd htk
  rw [e0]
  by_cases h : k < m
  · obtain rfl := ho h
    have h1 := own_setCells (vals (st.drop o').reverse) w o' _ hown
    rw [setL_drop st o' (by omega)] at h1
    refine ⟨h1.2, fun j u hu => ?_⟩
    have h2 := h1.1.cells (g := g) rfl (o' + j) u (by
      have e9 : (st.take o').length = o' := by rw [List.length_take]; omega
      rw [show vals (st.take o' ++ (st.drop o').reverse) = vals (st.take o') ++ vals (st.drop o').reverse by simp, List.getElem?_append_right (by rw [vals_len, e9]; omega), vals_len, e9, Nat.add_sub_cancel_left, e1]
      exact hu)
    have e10 : ((⟨g, 0, none⟩ : Addr).add (o' + j)) = ((⟨g, o', none⟩ : Addr).add j) := by
      unfold Addr.add
      by_cases h0 : o' + j = 0
      · obtain ⟨rfl, rfl⟩ : o' = 0 ∧ j = 0 := by omega
        rfl
      · rw [if_neg h0]
        by_cases hj : j = 0
        · subst hj; rw [if_pos rfl]; simp
        · rw [if_neg hj]; simp
    rw [e10] at h2
    exact h2
  · have hk : k = m := by omega
    have e2 : st.drop k = [] := List.drop_of_length_le (by omega)
    rw [e2] at e1
    rw [e2, ← e1]
    exact ⟨⟨rfl, rfl, rfl, Nat.le_refl _, fun _ _ _ => rfl⟩, fun j u hu => by simp at hu⟩

end Go.Proofs.Ytecbfoodkcgehaa.SweepIC

/-
  Contracts: CountSweeps of the model and of the program. Conditions: lists of at most 2^20 numbers.
-/
namespace Go.Proofs.Ytecbfoodkcgehaa.SweepsC
open Go.RowKit SeesC IntsC ExactC NumC IterC OrdMath WordMath OrdFacts InC OrderC WordC RunC AtC EndsM SweepM StackM SweepWC SweepIC SameC

theorem sorted_iff {zs : List Int} (h : Ord zs) : (∀ i, i < zs.toArray.size - 1 → decide (zs.toArray[i + 1]! < zs.toArray[i]!) = false) ↔ zs = iota zs.length := by
  have hget : ∀ i, i < zs.length → zs.toArray[i]! = zs.getD i 0 := by
    intro i hi
    rw [getElem!_pos zs.toArray i (by simpa using hi)]
    simp [hi]
  constructor
  · intro hs
    refine sorted_is (ord_perm h) ?_
    have step : ∀ m i, i + m < zs.length → zs.getD i 0 ≤ zs.getD (i + m) 0 := by
      intro m
      induction m with
      | zero => intro i _; exact Int.le_refl _
      | succ m ih =>
        intro i hi
        have h1 := ih i (by omega)
        have h2 := of_decide_eq_false (hs (i + m) (by simp; omega))
        rw [hget (i + m + 1) (by omega), hget (i + m) (by omega)] at h2
        have e : i + (m + 1) = i + m + 1 := rfl
        rw [e]
        omega
    rw [List.pairwise_iff_getElem]
    intro i j hi hj hij
    have h1 := step (j - i) i (by omega)
    rw [show i + (j - i) = j by omega] at h1
    have h2 : zs[i] ≠ zs[j] := fun e => by have := (List.getElem_inj h.2.2.2).1 e; omega
    have e1 : zs.getD i 0 = zs[i] := by simp [hi]
    have e2 : zs.getD j 0 = zs[j] := by simp [hj]
    rw [e1, e2] at h1
    omega
  · intro e i hi
    have hi2 : i + 1 < zs.length := by simp at hi; omega
    rw [decide_eq_false_iff_not, hget (i + 1) hi2, hget i (by omega), e, iota_getD hi2, iota_getD (by omega)]
    omega

theorem isSorted_any (zs : List Int) (hord : Ord zs) (r : Bool) (hr : decide (zs = iota zs.length) = r) (W : World) (v : Value) (n : Nat) (hv : Sees W v n (vals zs)) :
    Calls Try.prog 126 #[v] W fun e w' => e = .returned (.bool r) ∧ ∃ q, w' = W.drewN q := by
  have hl : zs.length = n := by simpa using hv.1
  have h7 := hord.2.1
  obtain ⟨b, o, cap, rfl, _, _, hbl, hcell⟩ := sees_cells hv (by have := hord.1; omega)
  have hsz : zs.toArray.size = n := by simpa using hl
  have h1 := AnyO.slices_IsSorted_int Try.laysIS b o cap zs.toArray W (fun i hi => by
    have hi2 : i < zs.length := by simpa using hi
    rw [hcell i hi2, getElem!_pos zs.toArray i hi]
    simp [hi2]) (by omega)
  have e : Lib.downOK (fun x y => decide (x < y)) zs.toArray (zs.toArray.size - 1) = r := by
    rw [← hr, Bool.eq_iff_iff, Lib.downOK_iff, decide_eq_true_iff]
    exact sorted_iff hord
  rw [e] at h1
  rw [hsz] at h1
  exact h1

end Go.Proofs.Ytecbfoodkcgehaa.SweepsC

/-
  Contract: the program counts how many times a step has to be made until an order is sorted. Conditions: the step makes orders of orders, and sorts after so many times.
-/
namespace Go.Proofs.Ytecbfoodkcgehaa.UntilC
open Go.RowKit SeesC IntsC ExactC IterC OrdMath OrderC OrdFacts SweepsC

/-- What a step does. -/
def StepTo (stepf : List Int → List Int) (fid : FuncId) : Prop :=
  ∀ (ys : List Int), Ord ys → ∀ (W : World) (v : Value) (n : Nat), Sees W v n (vals ys) →
    Calls Try.prog fid #[v] W fun e w' => ∃ g c, e = .returned (.slice (some ⟨g, 0, none⟩) n c) ∧ w'.ownsRow W.heap.size 3 1 (.slice (some ⟨g, 0, none⟩) n c) n (vals (stepf ys)) ∧ Below W.heap.size W w'

set_option maxRecDepth 100000 in
set_option maxHeartbeats 2000000 in
theorem until_any (stepf : List Int → List Int) (fid : FuncId) (hcf : ∀ (args : Array Value) (w : World), Sem.run Try.prog (callFunc fid args) w = .ok (.enter fid args) w) (HF : StepTo stepf fid) (N : Nat → List Int) (n M : Nat) (hstep : ∀ k, N (k + 1) = stepf (N k)) (hordN : ∀ k, Ord (N k)) (hlenN : ∀ k, (N k).length = n)
    (hM7 : M ≤ 1000) (hM : N M = iota n ∧ ∀ j, j < M → N j ≠ iota n) (W : World) (v : Value) (hv : Sees W v n (vals (N 0))) :
    Calls Try.prog 102 #[v, .func (.func fid) #[] #[]] W fun e w' => e = .returned (.int .i64 (M : Int)) ∧ Below W.heap.size W w' := by
  have hn7 : n ≤ 7 := by have := (hordN 0).2.1; have := hlenN 0; omega
  have hn1 : 1 ≤ n := by have := (hordN 0).1; have := hlenN 0; omega
  have HMI := Go.Lib.hid hM
  have HST := Go.Lib.hid hstep
  have HORD := Go.Lib.hid hordN
  have HLEN := Go.Lib.hid hlenN
  have HFH := Go.Lib.hid HF
  have HCF := Go.Lib.hid hcf
  have HV := Go.Lib.hid hv
  obtain ⟨_, ad, cap, rfl, _, _⟩ := hv
  clear hM hstep hordN hlenN HF hcf
  go_enter Try.func102, Try.ntmps102
  go_wp2_with fail
  go_loopw [0, 5] (fun nv mv wr => ∃ (k c : Nat) (a : Option Addr), mv = .int .i64 k ∧ nv = .slice a n c ∧ k ≤ M ∧ Hid (Sees wr (.slice a n c) n (vals (N k)) ∧ Below W.heap.size W wr)) (fun _ mv _ => M - (intOf mv).toNat)
  case atStart => exact ⟨0, cap, ad, rfl, rfl, Nat.zero_le _, Go.Lib.hid ⟨HV.out, Below.refl _ _⟩⟩
  case round =>
    obtain ⟨k, c, a, rfl, rfl, hk, HK⟩ := hrel
    obtain ⟨r, hr⟩ : ∃ r, decide (N k = iota (N k).length) = r := ⟨_, rfl⟩
    have HRR := Go.Lib.hid hr
    go_wp2_with fail
    refine (isSorted_any (N k) (HORD.out k) r hr wr _ n HK.out.1).mono ?_
    rintro e w4 ⟨rfl, q, rfl⟩
    have H4 := Go.Lib.hid (And.intro (HK.out.1.grow (ExactC.below_drewN (q := q) (Below.refl wr.heap.size wr))) (ExactC.below_drewN (q := q) HK.out.2))
    obtain ⟨w4, hw4⟩ : ∃ w4, wr.drewN q = w4 := ⟨_, rfl⟩
    rw [hw4] at H4 ⊢
    clear hr hw4
    by_cases hkM : k < M
    · have hrf : r = false := by
        rw [← HRR.out, decide_eq_false_iff_not, HLEN.out k]
        exact HMI.out.2 k hkM
      subst hrf
      have CW := Go.Lib.hid (HFH.out (N k) (HORD.out k) w4 _ n H4.out.1)
      go_wp2_with fail
      rw [HCF.out, Oper.upon_enter]
      refine CW.out.mono ?_
      rintro e w5 ⟨g5, c5, rfl, ho, hb⟩
      have H5 : Hid (Sees w5 (.slice (some ⟨g5, 0, none⟩) n c5) n (vals (N (k + 1))) ∧ Below W.heap.size W w5) := Go.Lib.hid ⟨by rw [HST.out]; exact Sees.owns ho, H4.out.2.trans (hb.mono H4.out.2.size)⟩
      clear ho hb
      go_wp2
      go_roundw
      case rel => exact ⟨k + 1, c5, some ⟨g5, 0, none⟩, by go_num, rfl, by omega, H5⟩
      case measure => simp [intOf]; omega
    · have hkM2 : k = M := by omega
      subst hkM2
      have hrt : r = true := by
        rw [← HRR.out, decide_eq_true_iff, HLEN.out k]
        exact HMI.out.1
      subst hrt
      go_wp2_with fail
      go_ret
      exact ⟨rfl, H4.out.2⟩

end Go.Proofs.Ytecbfoodkcgehaa.UntilC

/-
  Contracts: CountFallSweeps of the model and of the program. Conditions: lists of at most 2^20 numbers.
-/
namespace Go.Proofs.Ytecbfoodkcgehaa.FSweepsC
open Go.RowKit SeesC IntsC ExactC IterC OrdMath OrderC OrdFacts AtC SameC SweepsC CutsM CutsSC CutsIC FSortM UntilC

theorem fallStep : StepTo fsw 103 := fun ys ho W v n hv => fallSweepOf_any ys ho W v n hv

set_option maxRecDepth 100000 in
theorem until_falls (zs : List Int) (hord : Ord zs) (W : World) (v : Value) (n : Nat) (hv : Sees W v n (vals zs)) :
    Calls Try.prog 102 #[v, .func (.func 103) #[] #[]] W fun e w' => e = .returned (.int .i64 ((manyF zs : Nat) : Int)) ∧ Below W.heap.size W w' := by
  have hl : zs.length = n := by simpa using hv.1
  have hm := manyF_is hord
  rw [hl] at hm
  exact until_any fsw _ (fun _ _ => rfl) fallStep (fsN zs) n (manyF zs) (fun _ => rfl) (ord_fsN hord) (fun k => by rw [fsN_len, hl]) (by have := hord.2.1; omega) ⟨hm.1, hm.2.1⟩ W v hv

set_option maxRecDepth 100000 in
set_option maxHeartbeats 2000000 in
theorem l6Sweeps_any (zs : List Int) (hord : Ord zs) (W : World) (v : Value) (n : Nat) (hv : Sees W v n (vals zs)) :
    Calls Try.prog 104 #[v] W fun e w' => e = .returned (.int .i64 ((manyF zs : Nat) : Int)) ∧ Below W.heap.size W w' := by
  have hl : zs.length = n := by simpa using hv.1
  have hn7 : n ≤ 7 := by have := hord.2.1; omega
  have hn1 : 1 ≤ n := by have := hord.1; omega
  obtain ⟨M, hM⟩ : ∃ M, manyF zs = M := ⟨_, rfl⟩
  have hmi := manyF_is hord
  rw [hM] at hmi
  rw [hM]
  have hM7 : M ≤ 7 := by omega
  have HMI := Go.Lib.hid hmi
  have HORD := Go.Lib.hid (fun k => ord_fsN hord k)
  have HL := Go.Lib.hid hl
  clear hM hmi
  obtain ⟨b, o, cap, rfl, _, _, hbl, hcell⟩ := sees_cells hv (by omega)
  have CO := Go.Lib.hid (Own1C.l1Own_any zs b o n cap W hl (by omega) hcell)
  have CS := Go.Lib.hid (fun W' => l2Sorted_any n W' hn7)
  clear hcell hv hord hl
  go_enter Try.func104, Try.ntmps104
  go_wp2_with fail
  refine CO.out.mono ?_
  rintro e w2 ⟨g, c, rfl, ho, hb⟩
  have H2 := Go.Lib.hid (And.intro ho hb)
  clear ho hb
  go_wp2_with fail
  go_loopw [3, 4] (fun mv nv wr => ∃ (k g c : Nat), mv = .int .i64 k ∧ nv = .slice (some ⟨g, 0, none⟩) n c ∧ k ≤ M ∧ Hid (wr.ownsRow W.heap.size 3 1 (.slice (some ⟨g, 0, none⟩) n c) n (vals (fsN zs k)) ∧ Below W.heap.size W wr)) (fun mv _ _ => M - (intOf mv).toNat)
  case atStart => exact ⟨0, g, c, rfl, rfl, Nat.zero_le _, H2⟩
  case round =>
    obtain ⟨k, g, c, rfl, rfl, hk, HK⟩ := hrel
    clear H2
    obtain ⟨r, hr⟩ : ∃ r, decide (fsN zs k = iota n) = r := ⟨_, rfl⟩
    have HRR := Go.Lib.hid hr
    go_wp2_with fail
    refine (CS.out _).mono ?_
    rintro e w3 ⟨g3, c3, rfl, ho, hb⟩
    have H3 := Go.Lib.hid (And.intro (kept_call HK.out.1 hb) (And.intro (HK.out.2.trans (hb.mono HK.out.2.size)) ho))
    clear ho hb
    go_wp2_with fail
    refine (l1Same_any (fsN zs k) (iota n) r w3 _ n (Sees.owns H3.out.1) _ (Sees.owns H3.out.2.2) (by omega) hr).mono ?_
    rintro e w4 ⟨rfl, hd⟩
    have H4 := Go.Lib.hid (And.intro (kept_call H3.out.1 (hd.below w3.heap.size)) (H3.out.2.1.trans (hd.below _)))
    clear hd hr
    by_cases hkM : k < M
    · have hrf : r = false := by
        rw [← HRR.out, decide_eq_false_iff_not]
        have h1 := HMI.out.2.1 k hkM
        rw [HL.out] at h1
        exact h1
      subst hrf
      have CW := Go.Lib.hid (l6Sweep_any (fsN zs k) (HORD.out k) w4 _ n (Sees.owns H4.out.1))
      go_wp2_with fail
      refine CW.out.mono ?_
      rintro e w5 ⟨g5, c5, rfl, ho, hb⟩
      have H5 : Hid (w5.ownsRow W.heap.size 3 1 (.slice (some ⟨g5, 0, none⟩) n c5) n (vals (fsN zs (k + 1))) ∧ Below W.heap.size W w5) := Go.Lib.hid ⟨own_lower ho H4.out.2.size, H4.out.2.trans (hb.mono H4.out.2.size)⟩
      clear ho hb
      go_wp2
      go_roundw
      case rel => exact ⟨k + 1, g5, c5, by go_num, rfl, by omega, H5⟩
      case measure => simp [intOf]; omega
    · have hkM2 : k = M := by omega
      subst hkM2
      have hrt : r = true := by
        rw [← HRR.out, decide_eq_true_iff]
        have h1 := HMI.out.1
        rw [HL.out] at h1
        exact h1
      subst hrt
      go_wp2_with fail
      go_ret
      exact ⟨rfl, H4.out.2⟩

set_option maxRecDepth 100000 in
set_option maxHeartbeats 1000000 in
theorem specCountFallSweeps (zs : List Int) (r' : Int) (b : Bool) (h : fsweepsAns zs = (r', b)) (hz : zs.length ≤ 1048576) (W : World) (v : Value) (n : Nat) (hv : Sees W v n (vals zs)) :
    Calls Try.prog 45 #[v] W fun e w' => e = .returned (.tuple #[.int .i64 r', .bool b]) ∧ Below W.heap.size W w' := by
  have hl : zs.length = n := by simpa using hv.1
  have hn : n ≤ 1048576 := by omega
  obtain ⟨r, hr⟩ : ∃ r, isOrd zs = r := ⟨_, rfl⟩
  have CO := Go.Lib.hid (fun W' (hs' : Sees W' v n (vals zs)) => l2Order_any W' v n zs r hs' hn hr)
  have HV := Go.Lib.hid hv
  unfold fsweepsAns at h
  obtain ⟨_, ad, cap, rfl, _, _⟩ := hv
  cases r with
  | false =>
    rw [if_neg (by intro h1; unfold isOrd at hr; exact of_decide_eq_false hr h1)] at h
    cases h
    clear hr
    go_enter Try.func45, Try.ntmps45
    go_wp2_with fail
    refine (CO.out _ HV.out).mono ?_
    rintro e w1 ⟨rfl, hd⟩
    have HB1 : Hid (Below W.heap.size W w1) := Go.Lib.hid (hd.below _)
    clear hd
    go_wp2_with fail
    go_ret2
    exact ⟨rfl, HB1.out⟩
  | true =>
    have hord : Ord zs := by unfold isOrd at hr; exact of_decide_eq_true hr
    rw [if_pos hord] at h
    cases h
    clear hr
    have CQ := Go.Lib.hid (fun W' (hs' : Sees W' (.slice ad n cap) n (vals zs)) => l6Sweeps_any zs hord W' (.slice ad n cap) n hs')
    obtain ⟨M, hM⟩ : ∃ M, manyF zs = M := ⟨_, rfl⟩
    rw [hM] at CQ ⊢
    clear hM hl hn hz hord
    go_enter Try.func45, Try.ntmps45
    go_wp2_with fail
    refine (CO.out _ HV.out).mono ?_
    rintro e w1 ⟨rfl, hd⟩
    have HB1 : Hid (Below W.heap.size W w1) := Go.Lib.hid (hd.below _)
    clear hd
    go_wp2_with fail
    refine (CQ.out _ (HV.out.grow HB1.out)).mono ?_
    rintro e w2 ⟨rfl, hb2⟩
    have H2 := Go.Lib.hid (HB1.out.trans (hb2.mono HB1.out.size))
    clear hb2
    go_wp2_with fail
    go_ret2
    exact ⟨rfl, H2.out⟩

set_option maxRecDepth 100000 in
set_option maxHeartbeats 1000000 in
theorem implCountFallSweeps (zs : List Int) (r' : Int) (b : Bool) (h : fsweepsAns zs = (r', b)) (hz : zs.length ≤ 1048576) (W : World) (v : Value) (n : Nat) (hv : Sees W v n (vals zs)) :
    Calls Try.prog 44 #[v] W fun e w' => e = .returned (.tuple #[.int .i64 r', .bool b]) ∧ Below W.heap.size W w' := by
  have hl : zs.length = n := by simpa using hv.1
  have hn : n ≤ 1048576 := by omega
  obtain ⟨r, hr⟩ : ∃ r, isOrd zs = r := ⟨_, rfl⟩
  have CO := Go.Lib.hid (fun W' (hs' : Sees W' v n (vals zs)) => implOrder_any W' v n zs r hs' hn hr)
  have HV := Go.Lib.hid hv
  unfold fsweepsAns at h
  obtain ⟨_, ad, cap, rfl, _, _⟩ := hv
  cases r with
  | false =>
    rw [if_neg (by intro h1; unfold isOrd at hr; exact of_decide_eq_false hr h1)] at h
    cases h
    clear hr
    go_enter Try.func44, Try.ntmps44
    go_wp2_with fail
    refine (CO.out _ HV.out).mono ?_
    rintro e w1 ⟨rfl, hd⟩
    have HB1 : Hid (Below W.heap.size W w1) := Go.Lib.hid hd
    clear hd
    go_wp2_with fail
    go_ret2
    exact ⟨rfl, HB1.out⟩
  | true =>
    have hord : Ord zs := by unfold isOrd at hr; exact of_decide_eq_true hr
    rw [if_pos hord] at h
    cases h
    clear hr
    have CQ := Go.Lib.hid (fun W' (hs' : Sees W' (.slice ad n cap) n (vals zs)) => until_falls zs hord W' (.slice ad n cap) n hs')
    obtain ⟨M, hM⟩ : ∃ M, manyF zs = M := ⟨_, rfl⟩
    rw [hM] at CQ ⊢
    clear hM hl hn hz hord
    go_enter Try.func44, Try.ntmps44
    go_wp2_with fail
    refine (CO.out _ HV.out).mono ?_
    rintro e w1 ⟨rfl, hd⟩
    have HB1 : Hid (Below W.heap.size W w1) := Go.Lib.hid hd
    clear hd
    go_wp2_with fail
    refine (CQ.out _ (HV.out.grow HB1.out)).mono ?_
    rintro e w2 ⟨rfl, hb2⟩
    have H2 := Go.Lib.hid (HB1.out.trans (hb2.mono HB1.out.size))
    clear hb2
    go_wp2_with fail
    go_ret2
    exact ⟨rfl, H2.out⟩

end Go.Proofs.Ytecbfoodkcgehaa.FSweepsC

/-
  Contracts: MostFallSweeps of the model and of the program. Conditions: none.
-/
namespace Go.Proofs.Ytecbfoodkcgehaa.MostFC
set_option linter.unusedVariables false
open Go.RowKit Go.Shelf SeesC IntsC ExactC OrdMath OrdFacts PatMath InC OrderC ListsC ListsFC HasC AvoidC AvMath RangeC OrdersIterC CountAvC FirstAvC MostPubC CutsM FSortM MostFM FSweepsC UntilC

attribute [local go_sem] Oper.semAt_some

/-- A number, a list of integers and a truth value are returned, the list in memory of the call's own. -/
def NumListTo (w : World) (e : Ending) (w' : World) (xs : List Int) (m : Int) (b : Bool) : Prop :=
  ∃ v, e = .returned (.tuple #[.int .i64 m, v, .bool b]) ∧ w'.ownsRow w.heap.size 3 1 v xs.length (vals xs) ∧ Below w.heap.size w w'

theorem numList_below {w w1 w' : World} {e : Ending} {xs : List Int} {m : Int} {b : Bool} (hb : Below w.heap.size w w1) (h : NumListTo w1 e w' xs m b) : NumListTo w e w' xs m b := by
  obtain ⟨v, rfl, ho, hb2⟩ := h
  exact ⟨v, rfl, own_lower ho hb.size, hb.trans (hb2.mono hb.size)⟩

theorem numList_none (w : World) (m : Int) (b : Bool) : NumListTo w (.returned (.tuple #[.int .i64 m, .slice (some ⟨w.heap.size, 0, none⟩) 0 0, .bool b])) (w.alloc (.cells #[] 3)) [] m b :=
  ⟨_, rfl, World.ownsRow_made _ _ _ (Nat.le_refl _) (by unfold maxLen; omega) rfl, (Below.refl _ _).alloc (Nat.le_refl _) _⟩

set_option maxRecDepth 100000 in
set_option maxHeartbeats 2000000 in
theorem implMostF_in (n : Nat) (hn : 3 ≤ n) (m : Nat) (hm1 : 1 ≤ m) (hm6 : m ≤ 6) (xs : List Int) (best : Int) (hbest : mostFs (allOrd m) = (xs, best)) (W : World) :
    CallsIn Fence.wide n Try.prog 59 #[.int .i64 (m : Int)] W fun e W' => NumListTo W e W' xs best true := by
  have h1 : 1 ≤ n := by omega
  have hm7 : m ≤ 7 := by omega
  have HU := Go.Lib.hid hbest
  have h1i : ¬ (m : Int) < 1 := by omega
  have h7i : ¬ (6 : Int) < (m : Int) := by omega
  clear hbest
  refine callsIn_of_wp_marks Try.func59 rfl trivial ?_ rfl
  simp only [Try.ntmps59, List.size_toArray, List.length_cons, List.length_nil, Nat.reduceAdd, Nat.reduceSub, Array.replicate_succ, Array.replicate_zero, List.push_toArray, List.append_toArray, List.nil_append, List.cons_append]
  gi_wp2_with fail
  refine ⟨trivial, ?_⟩
  gi_at_call 112
  refine (ordersOf_in Fence.wide _ m trivial rfl _).mono ?_
  rintro e w2 ⟨rfl, rfl⟩
  gi_wp2_with fail
  obtain ⟨E, hE⟩ : ∃ E, W.heap.size = E := ⟨_, rfl⟩
  have hEW : W.heap.size ≤ W.heap.size := Nat.le_refl _
  have hmade := World.ownsRow_made (base := W.heap.size) (e := 3) (size := 1) W #[] 0 hEW (by unfold maxLen; omega) rfl
  have hB1 := Boxed.new (W.alloc (.cells #[] 3)) 3 (.int .i64 (-1))
  have hB2 := Boxed.new ((W.alloc (.cells #[] 3)).alloc (.cells #[.int .i64 (-1)] 3)) 24 (.slice (some ⟨W.heap.size, 0, none⟩) 0 0)
  have hB3 := Boxed.new (((W.alloc (.cells #[] 3)).alloc (.cells #[.int .i64 (-1)] 3)).alloc (.cells #[.slice (some ⟨W.heap.size, 0, none⟩) 0 0] 24)) 3 (.int .i64 (m : Int))
  have hBel := ((((Below.refl W.heap.size W).alloc hEW (.cells #[] 3)).alloc (by simp) (.cells #[.int .i64 (-1)] 3)).alloc (by simp; omega) (.cells #[.slice (some ⟨W.heap.size, 0, none⟩) 0 0] 24)).alloc (by simp; omega) (.cells #[.int .i64 (m : Int)] 3)
  have hm2 := ((hmade.alloc (.cells #[.int .i64 (-1)] 3)).alloc (.cells #[.slice (some ⟨W.heap.size, 0, none⟩) 0 0] 24)).alloc (.cells #[.int .i64 (m : Int)] 3)
  have hB11 := (hB1.alloc (.cells #[.slice (some ⟨W.heap.size, 0, none⟩) 0 0] 24)).alloc (.cells #[.int .i64 (m : Int)] 3)
  have hB22 := hB2.alloc (.cells #[.int .i64 (m : Int)] 3)
  simp only [World.size_alloc] at hB11 hB22 hB3
  clear hmade hB1 hB2
  rw [hE] at hEW hBel hm2 hB11 hB22 hB3 ⊢
  obtain ⟨Wl, hWl⟩ : ∃ Wl, (((W.alloc (.cells #[] 3)).alloc (.cells #[.int .i64 (-1)] 3)).alloc (.cells #[.slice (some ⟨E, 0, none⟩) 0 0] 24)).alloc (.cells #[.int .i64 (m : Int)] 3) = Wl := ⟨_, rfl⟩
  have hsz : Wl.heap.size = E + 4 := by rw [← hWl]; simp; omega
  rw [hWl] at hBel hm2 hB11 hB22 hB3 ⊢
  have hWB := hBel.size
  have HEW := Go.Lib.hid hE
  have hm3 : Wl.ownsRow W.heap.size 3 1 (.slice (some ⟨E, 0, none⟩) 0 0) 0 [] := by rw [hE]; exact hm2
  rw [← hE] at hBel
  clear hm2
  clear hWl
  refine range_hands rfl h1 (gf := 127) (lb := #[.pointer (some ⟨E + 1 + 1 + 1, 0, none⟩)]) rfl trivial (enters_of Try.func127 (by kernel_rfl) rfl)
    (orders_hands (n - 1) (E + 1 + 1 + 1) Wl.heap.size m (by omega) hm1 hm7 Wl (by omega) (Nat.le_refl _) hB3.cell) (fun h k => h.trans k) (fun X l o o' hl ho _ _ => keep1_put (by omega) X l o o' hl ho) (Below.refl _ _) (fun _ => rfl)
    (fun so X => (((∃ g' cap', Boxed X (E + 1 + 1) 24 (.slice (some ⟨g', 0, none⟩) (mostFs (so.map (·.1))).1.length cap') ∧ X.ownsRow W.heap.size 3 1 (.slice (some ⟨g', 0, none⟩) (mostFs (so.map (·.1))).1.length cap') (mostFs (so.map (·.1))).1.length (vals (mostFs (so.map (·.1))).1)) ∧ Boxed X (E + 1) 3 (.int .i64 (mostFs (so.map (·.1))).2)) ∧ ∀ x ∈ so.map (·.1), x.length ≤ 7) ∧ Below W.heap.size Wl X)
    (fun _ _ _ => False)
    (OwnFrom.and (OwnFrom.and (OwnFrom.and (fun s A B row hs hg hr => by
      obtain ⟨g, cap, h1, h2⟩ := hs
      exact ⟨g, cap, boxed_turn h1 hg (fun r e => (hr r e).2), row_own h2 hg (fun r e => (hr r e).2)⟩) (Own.from (boxed_own _ _ _) _)) (ownFrom_pure _ _)) (ownFrom_below hWB hWB))
    (fun _ _ _ _ _ hs _ _ => hs) (fun x => given_own _ _ x _) ⟨⟨⟨⟨E, 0, hB22, hm3⟩, hB11⟩, by simp⟩, Below.refl _ _⟩
    (fun x => { tmps := #[.int .i64 m, undef, .int .i64 0, .slice none 0 0, .bool false, .pointer (some ⟨E + 1, 0, none⟩), .pointer (some ⟨E + 1 + 1, 0, none⟩), x.2, undef, .int .i64 m, .bool false, .bool false, .int .i64 m, .bool false, .bool false, undef, .slice (some ⟨E, 0, none⟩) 0 0, .int .i64 m, .func (.func 127) #[] #[.pointer (some ⟨E + 1 + 1 + 1, 0, none⟩)], x.2, undef, undef, undef, undef, undef, undef, undef, undef, undef], defers := [] }) ?assign ?body ?done ?stop
  case assign =>
    intro l x X K hK
    gi_wp2
    exact hK
  case body =>
    rintro l so ⟨zs, v⟩ X ⟨⟨⟨⟨g0, cap0, hbb, hob⟩, hbm⟩, h77⟩, hB⟩ ⟨⟨hzl, hzo⟩, hrow⟩ hlen
    obtain ⟨g, cap, rfl⟩ := own_pos hrow hm1
    have hXs : E + 1 + 1 + 1 < X.heap.size := by have := hB.size; omega
    have CA := Go.Lib.hid (until_falls zs hzo X _ m (Sees.owns hrow))
    have hrg := mostFs_range (so.map (·.1)) h77
    obtain ⟨⟨bl, bm⟩, hs⟩ : ∃ s, mostFs (so.map (·.1)) = s := ⟨_, rfl⟩
    have hsn : mostFs ((so ++ [((zs, .slice (some ⟨g, 0, none⟩) m cap) : El)]).map (·.1)) = betterF (bl, bm) zs := by rw [List.map_append, ← hs]; exact mostFs_snoc _ zs
    have h78 : ∀ x ∈ (so ++ [((zs, .slice (some ⟨g, 0, none⟩) m cap) : El)]).map (·.1), x.length ≤ 7 := by
      intro x hx
      rw [List.map_append, List.mem_append] at hx
      rcases hx with hx | hx
      · exact h77 x hx
      · simp at hx; rw [hx, hzl]; exact hm7
    rw [hs] at hbb hob hbm hrg
    obtain ⟨c, hc⟩ : ∃ c, manyF zs = c := ⟨_, rfl⟩
    have hcb : c ≤ 7 := by rw [← hc]; exact manyF_le (by have : zs.length = m := hzl; omega)
    rw [hc] at CA
    simp only at hbb hob hbm hrg
    have HO1 := Go.Lib.hid (And.intro hc (And.intro hzl (And.intro hsn h78)))
    have HS := Go.Lib.hid (And.intro hbb (And.intro hob (And.intro hbm (And.intro hrow hB))))
    dsimp only
    clear hrow hzl hzo hbb hob hbm hB hlen hs hsn h78 h77 hc
    have h2 : 1 ≤ n - 1 - 1 := by omega
    gi_wp2_with fail
    refine ⟨trivial, ?_⟩
    gi_at_call 102
    refine (CallsIn.inRound l (callsIn_wide.2 CA.out)).mono ?_
    rintro e Y ⟨rfl, hb⟩
    have HY := Go.Lib.hid (And.intro hb (And.intro (boxed_below HS.out.1 hb) (And.intro (kept_call HS.out.2.1 hb) (And.intro (boxed_below HS.out.2.2.1 hb) (And.intro (kept_call HS.out.2.2.2.1 hb) (HS.out.2.2.2.2.trans (hb.mono (Nat.le_trans hWB HS.out.2.2.2.2.size))))))))
    have hc4 := HY.out.2.2.2.1.cell
    have hf4 := HY.out.2.2.2.1.frozen
    have hc5 := HY.out.2.1.cell
    have hf5 := HY.out.2.1.frozen
    clear hb CA
    by_cases hlt : bm < (c : Int)
    · have b1 := HY.out.2.2.2.1.set (.int .i64 (c : Int))
      have b2 := HY.out.2.1.other (B' := E + 1) (by omega) (.int .i64 (c : Int))
      have hc55 := b2.cell
      have hf55 := b2.frozen
      have k1 : KeepsFrom Wl.heap.size X ((Y.setCell ⟨E + 1, 0, none⟩ (.int .i64 (c : Int))).setCell ⟨E + 1 + 1, 0, none⟩ (.slice (some ⟨g, 0, none⟩) m cap)) := (from_below HY.out.1).trans (((KeepsOthers.setCell _ _ _).from _).trans ((KeepsOthers.setCell _ _ _).from _))
      have k2 : Keep1 (E + 1 + 1 + 1) X ((Y.setCell ⟨E + 1, 0, none⟩ (.int .i64 (c : Int))).setCell ⟨E + 1 + 1, 0, none⟩ (.slice (some ⟨g, 0, none⟩) m cap)) := ((keep1_below (by omega) HY.out.1).trans ⟨Below.heap_setCell _ _ _ _ (by show ¬ _ = _; simp only; omega), by simp⟩).trans ⟨Below.heap_setCell _ _ _ _ (by show ¬ _ = _; simp only; omega), by simp⟩
      have b11 := b1.other (B' := E + 1 + 1) (by omega) (.slice (some ⟨g, 0, none⟩) m cap)
      have b22 := b2.set (.slice (some ⟨g, 0, none⟩) m cap)
      have hown := HY.out.2.2.2.2.1
      have hne2 : g ≠ E + 1 := by have := (hown.lt g rfl).1; omega
      have hne3 : g ≠ E + 1 + 1 := by have := (hown.lt g rfl).1; omega
      have hown2 := own_set (own_set hown hne2 (.int .i64 (c : Int))) hne3 (.slice (some ⟨g, 0, none⟩) m cap)
      have hbel := (HY.out.2.2.2.2.2.setCell (p := ⟨E + 1, 0, none⟩) (by show W.heap.size ≤ E + 1; have := HEW.out; omega) (.int .i64 (c : Int))).setCell (p := ⟨E + 1 + 1, 0, none⟩) (by show W.heap.size ≤ E + 1 + 1; have := HEW.out; omega) (.slice (some ⟨g, 0, none⟩) m cap)
      have hst : mostFs ((so ++ [((zs, .slice (some ⟨g, 0, none⟩) m cap) : El)]).map (·.1)) = (zs, (c : Int)) := by
        rw [HO1.out.2.2.1]; unfold betterF; rw [HO1.out.1, if_pos hlt]
      have HN : Hid (((∃ g' cap', Boxed ((Y.setCell ⟨E + 1, 0, none⟩ (.int .i64 (c : Int))).setCell ⟨E + 1 + 1, 0, none⟩ (.slice (some ⟨g, 0, none⟩) m cap)) (E + 1 + 1) 24 (.slice (some ⟨g', 0, none⟩) (mostFs ((so ++ [((zs, .slice (some ⟨g, 0, none⟩) m cap) : El)]).map (·.1))).1.length cap') ∧ ((Y.setCell ⟨E + 1, 0, none⟩ (.int .i64 (c : Int))).setCell ⟨E + 1 + 1, 0, none⟩ (.slice (some ⟨g, 0, none⟩) m cap)).ownsRow W.heap.size 3 1 (.slice (some ⟨g', 0, none⟩) (mostFs ((so ++ [((zs, .slice (some ⟨g, 0, none⟩) m cap) : El)]).map (·.1))).1.length cap') (mostFs ((so ++ [((zs, .slice (some ⟨g, 0, none⟩) m cap) : El)]).map (·.1))).1.length (vals (mostFs ((so ++ [((zs, .slice (some ⟨g, 0, none⟩) m cap) : El)]).map (·.1))).1)) ∧ Boxed ((Y.setCell ⟨E + 1, 0, none⟩ (.int .i64 (c : Int))).setCell ⟨E + 1 + 1, 0, none⟩ (.slice (some ⟨g, 0, none⟩) m cap)) (E + 1) 3 (.int .i64 (mostFs ((so ++ [((zs, .slice (some ⟨g, 0, none⟩) m cap) : El)]).map (·.1))).2))) := Go.Lib.hid (by
        rw [hst]
        exact ⟨⟨g, cap, by rw [HO1.out.2.1]; exact b22, by rw [HO1.out.2.1]; exact own_lower hown2 hWB⟩, b11⟩)
      gi_wp2
      exact ⟨k1, k2, ⟨HN.out, HO1.out.2.2.2⟩, hbel⟩
    · have k1 : KeepsFrom Wl.heap.size X Y := from_below HY.out.1
      have k2 : Keep1 (E + 1 + 1 + 1) X Y := keep1_below (by omega) HY.out.1
      have hst : mostFs ((so ++ [((zs, .slice (some ⟨g, 0, none⟩) m cap) : El)]).map (·.1)) = (bl, bm) := by
        rw [HO1.out.2.2.1]; unfold betterF; rw [HO1.out.1, if_neg hlt]
      have HN : Hid (((∃ g' cap', Boxed Y (E + 1 + 1) 24 (.slice (some ⟨g', 0, none⟩) (mostFs ((so ++ [((zs, .slice (some ⟨g, 0, none⟩) m cap) : El)]).map (·.1))).1.length cap') ∧ Y.ownsRow W.heap.size 3 1 (.slice (some ⟨g', 0, none⟩) (mostFs ((so ++ [((zs, .slice (some ⟨g, 0, none⟩) m cap) : El)]).map (·.1))).1.length cap') (mostFs ((so ++ [((zs, .slice (some ⟨g, 0, none⟩) m cap) : El)]).map (·.1))).1.length (vals (mostFs ((so ++ [((zs, .slice (some ⟨g, 0, none⟩) m cap) : El)]).map (·.1))).1)) ∧ Boxed Y (E + 1) 3 (.int .i64 (mostFs ((so ++ [((zs, .slice (some ⟨g, 0, none⟩) m cap) : El)]).map (·.1))).2))) := Go.Lib.hid (by
        rw [hst]
        exact ⟨⟨g0, cap0, HY.out.2.1, HY.out.2.2.1⟩, HY.out.2.2.2.1⟩)
      gi_wp2
      exact ⟨k1, k2, ⟨HN.out, HO1.out.2.2.2⟩, HY.out.2.2.2.2.2⟩
  case done =>
    rintro D ys X hD hys ⟨⟨⟨⟨g, cap, hbb, hob⟩, hbm⟩, _⟩, hB⟩ hK
    rw [hys, HU.out] at hbb hob hbm
    simp only at hbb hob hbm
    have hc4 := hbb.cell
    have hc5 := hbm.cell
    have HF := Go.Lib.hid (And.intro hob hB)
    clear hbb hob hbm hB
    gi_wp2
    gi_region
    all_goals gi_wp2
    have hK2 : X.drew.heap[D]? = some (.deferred (some [])) := hK
    have hB2 : Below W.heap.size Wl X.drew := HF.out.2.drew
    have ho2 : X.drew.ownsRow W.heap.size 3 1 (.slice (some ⟨g, 0, none⟩) xs.length cap) xs.length (vals xs) := HF.out.1
    refine ⟨by simp, .inl ⟨_, _, rfl, run_takeDeferred hK2, ?_⟩⟩
    exact ⟨_, results_tmp3 rfl _ _ _, _, rfl, row_own ho2 (grownBy_putObj' _ D (.deferred none)) (fun r e => by cases e; exact ⟨_, hK2, rfl⟩), hBel.trans (hB2.trans (belowK_b (w := Wl) hWB _ D _ _ (by omega) hK2 rfl rfl))⟩
  case stop =>
    rintro D c so X _ _ h _
    exact absurd h id

set_option maxRecDepth 100000 in
set_option maxHeartbeats 1000000 in
theorem implMostF (n : Int) (xs : List Int) (mx : Int) (b : Bool) (h : mostFAns n = (xs, mx, b)) (_hw : (Lit.int .i64 n).wf = true) (W : World) :
    Calls Try.prog 59 #[.int .i64 n] W fun e w' => NumListTo W e w' xs mx b := by
  by_cases h17 : 1 ≤ n ∧ n ≤ 6
  · obtain ⟨m, rfl⟩ : ∃ m : Nat, n = (m : Int) := ⟨n.toNat, by omega⟩
    unfold mostFAns at h
    rw [if_pos h17, Int.toNat_natCast] at h
    cases h
    exact callsIn_wide.1 (implMostF_in 3 (by omega) m (by omega) (by omega) _ _ rfl W)
  · unfold mostFAns at h
    rw [if_neg h17] at h
    cases h
    have HT := Go.Lib.hid (numList_none W 0 false)
    by_cases h1 : n < 1
    · clear h17
      go_enter Try.func59, Try.ntmps59
      go_wp2
      go_ret3
      exact HT.out
    · have h7 : 6 < n := by omega
      clear h17
      go_enter Try.func59, Try.ntmps59
      go_wp2
      go_ret3
      exact HT.out

set_option maxRecDepth 100000 in
set_option maxHeartbeats 4000000 in
theorem specMostF (n : Int) (xs : List Int) (mx : Int) (b : Bool) (h : mostFAns n = (xs, mx, b)) (_hw : (Lit.int .i64 n).wf = true) (W : World) :
    Calls Try.prog 60 #[.int .i64 n] W fun e w' => NumListTo W e w' xs mx b := by
  obtain ⟨s, hs⟩ : ∃ s, decide (1 ≤ n ∧ n ≤ 6) = s := ⟨_, rfl⟩
  have C1 := Go.Lib.hid (fun W' => l1In_any n 1 6 W' s hs)
  have HA := Go.Lib.hid (And.intro hs h)
  clear h hs
  cases s with
  | false =>
    have h0 := HA.out.2
    unfold mostFAns at h0
    rw [if_neg (of_decide_eq_false HA.out.1)] at h0
    cases h0
    go_enter Try.func60, Try.ntmps60
    go_wp2_with fail
    refine (C1.out _).mono ?_
    rintro e wq ⟨rfl, hwq⟩
    obtain rfl : W = wq := hwq
    go_wp2_with fail
    go_ret3
    exact numList_none _ _ _
  | true =>
    have h17 : 1 ≤ n ∧ n ≤ 6 := of_decide_eq_true HA.out.1
    obtain ⟨m, rfl⟩ : ∃ m : Nat, n = (m : Int) := ⟨n.toNat, by omega⟩
    have hm1 : 1 ≤ m := by omega
    have hm7 : m ≤ 7 := by omega
    have hans : mostFs (allOrd m) = (xs, mx) ∧ b = true := by
      have h0 := HA.out.2
      unfold mostFAns at h0
      rw [if_pos h17, Int.toNat_natCast] at h0
      cases h0
      exact ⟨rfl, rfl⟩
    obtain ⟨hans, rfl⟩ := hans
    have C3 := Go.Lib.hid (fun W' => l2Orders_any m hm1 hm7 W')
    have hf1 := fact_pos m
    have hf2 := fact_7 hm7
    obtain ⟨N, hNN⟩ : ∃ N, fact m = N := ⟨_, rfl⟩
    rw [hNN] at hf1 hf2
    have HNN := Go.Lib.hid hNN
    have HM := Go.Lib.hid hans
    have HM7 : Hid (∀ x ∈ allOrd m, Ord x ∧ x.length = m) := Go.Lib.hid (fun x hx => ⟨((mem_allOrd hm1 hm7).1 hx).ord hm1 hm7, ((mem_allOrd hm1 hm7).1 hx).1⟩)
    have HB0 : Hid ((W.alloc (.cells #[] 3)).ownsRow W.heap.size 3 1 (.slice (some ⟨W.heap.size, 0, none⟩) 0 0) 0 [] ∧ Below W.heap.size W (W.alloc (.cells #[] 3))) := Go.Lib.hid ⟨World.ownsRow_made (base := W.heap.size) (e := 3) (size := 1) W #[] 0 (Nat.le_refl _) (by unfold maxLen; omega) rfl, (Below.refl _ _).alloc (Nat.le_refl _) _⟩
    clear hNN h17 hans
    go_enter Try.func60, Try.ntmps60
    go_wp2_with fail
    refine (C1.out _).mono ?_
    rintro e wq ⟨rfl, hwq⟩
    obtain rfl : W = wq := hwq
    go_wp2_with fail
    refine (C3.out _).mono ?_
    rintro e w2 ⟨rv, rfl, hL, hb⟩
    obtain ⟨g, cp, rfl⟩ := lists_value hL
    rw [List.length_map, allOrd_len, HNN.out]
    have H2 := Go.Lib.hid (And.intro (HB0.out.2.trans (hb.mono HB0.out.2.size)) (And.intro hL (kept_call HB0.out.1 hb)))
    clear hb hL
    obtain ⟨gs, hg, hog, hin, _, _⟩ := H2.out.2.1
    rw [List.length_map, allOrd_len, HNN.out] at hg hog hin
    obtain ⟨gg, cc, e0⟩ := own_pos hog (by omega)
    cases e0
    have hrow : ∀ i, i < N → w2.cell? ⟨gg, i, none⟩ = some (.slice (some ⟨(gs.getD i (0, 0)).1, 0, none⟩) m (gs.getD i (0, 0)).2) ∧ w2.ownsRow (W.alloc (.cells #[] 3)).heap.size 3 1 (.slice (some ⟨(gs.getD i (0, 0)).1, 0, none⟩) m (gs.getD i (0, 0)).2) m (vals ((allOrd m).getD i [])) := fun i hi => by
      refine ⟨by rw [hog.cellAt i (by omega)]; simp [show i < gs.length by omega, sl], ?_⟩
      have h1 := hin i hi
      have e1 : ((allOrd m).map vals).getD i [] = vals ((allOrd m).getD i []) := by
        have hi2 : i < (allOrd m).length := by rw [allOrd_len, HNN.out]; exact hi
        simp [hi2]
      rw [e1] at h1
      exact h1
    have HR := Go.Lib.hid hrow
    clear hg hog hin hrow
    go_wp2_with fail
    go_loopw [5, 6, 8] (fun mv bv iv wr => ∃ (i L q1 q2 : Nat) (bm : Int), i ≤ N ∧ iv = .int .i64 i ∧ mv = .int .i64 bm ∧ -1 ≤ bm ∧ bm ≤ 7 ∧ bv = .slice (some ⟨q1, 0, none⟩) L q2 ∧
      Hid ((mostFs ((allOrd m).take i)).2 = bm ∧ (mostFs ((allOrd m).take i)).1.length = L ∧ w2.ownsRow W.heap.size 3 1 (.slice (some ⟨q1, 0, none⟩) L q2) L (vals (mostFs ((allOrd m).take i)).1)) ∧ Hid (Below w2.heap.size w2 wr)) (fun _ _ i _ => N - (intOf i).toNat)
    case atStart => exact ⟨0, 0, W.heap.size, 0, -1, Nat.zero_le _, rfl, rfl, by omega, by omega, rfl, Go.Lib.hid ⟨by simp [mostFs], by simp [mostFs], by simpa [mostFs] using H2.out.2.2⟩, Go.Lib.hid (Below.refl _ _)⟩
    case round =>
      obtain ⟨i, L, q1, q2, bm, hiN, rfl, rfl, hb1, hb2, rfl, HB, HW⟩ := hrel
      by_cases hlt : i < N
      · obtain ⟨wj, rfl⟩ : ∃ wj, wj = wr := ⟨_, rfl⟩
        obtain ⟨hck0, hox⟩ := HR.out i hlt
        have hil : i < (allOrd m).length := by rw [allOrd_len, HNN.out]; exact hlt
        obtain ⟨x, hx⟩ : ∃ x, (allOrd m).getD i [] = x := ⟨_, rfl⟩
        have hxe : (allOrd m)[i] = x := by rw [← hx]; simp [hil]
        have hxm := HM7.out x (by rw [← hxe]; exact List.getElem_mem _)
        have hstep : mostFs ((allOrd m).take (i + 1)) = betterF (mostFs ((allOrd m).take i)) x := by
          rw [List.take_succ_eq_append_getElem hil, mostFs_snoc, hxe]
        obtain ⟨pr, hpr⟩ : ∃ pr, gs.getD i (0, 0) = pr := ⟨_, rfl⟩
        rw [hpr] at hck0 hox
        rw [hx] at hox
        obtain ⟨p1, p2⟩ := pr
        simp only at hck0 hox
        have hlt2 := World.block_lt_of_cell? w2 _ hck0
        have hck : wj.cell? ⟨gg, i, none⟩ = some (.slice (some ⟨p1, 0, none⟩) m p2) := (HW.out.cell (p := ⟨gg, i, none⟩) hlt2).trans hck0
        have CP := Go.Lib.hid (l6Sweeps_any x hxm.1 wj (.slice (some ⟨p1, 0, none⟩) m p2) m (Sees.owns (kept_call hox HW.out)))
        obtain ⟨cn, hcn⟩ : ∃ cn, manyF x = cn := ⟨_, rfl⟩
        rw [hcn] at CP
        have hcb : cn ≤ 7 := by rw [← hcn]; exact manyF_le (by have := hxm.2; omega)
        have HS := Go.Lib.hid (And.intro hstep (And.intro hox (And.intro hcn (And.intro hxm.2 (And.intro hck0 hlt2)))))
        have hlti : (i : Int) < (N : Int) := by omega
        clear hx hxe hxm hil hstep hpr hck0 hox hcn hlt2
        go_wp2_with fail
        refine (CP.out).mono ?_
        rintro e w3 ⟨rfl, hb3⟩
        have H3 := Go.Lib.hid (HW.out.trans (hb3.mono HW.out.size))
        have hck3 : w3.cell? ⟨gg, i, none⟩ = some (.slice (some ⟨p1, 0, none⟩) m p2) := (H3.out.cell (p := ⟨gg, i, none⟩) HS.out.2.2.2.2.2).trans HS.out.2.2.2.2.1
        clear hb3 CP hck
        by_cases hgt : bm < (cn : Int)
        · have HN : Hid ((mostFs ((allOrd m).take (i + 1))).2 = (cn : Int) ∧ (mostFs ((allOrd m).take (i + 1))).1.length = m ∧ w2.ownsRow W.heap.size 3 1 (.slice (some ⟨p1, 0, none⟩) m p2) m (vals (mostFs ((allOrd m).take (i + 1))).1)) := Go.Lib.hid (by
            rw [HS.out.1]; unfold betterF
            rw [HS.out.2.2.1, if_pos (by rw [HB.out.1]; exact hgt)]
            exact ⟨rfl, HS.out.2.2.2.1, own_lower HS.out.2.1 (by simp)⟩)
          go_wp2_with fail
          go_roundw
          case rel => exact ⟨i + 1, m, p1, p2, (cn : Int), by omega, by go_num, rfl, by omega, by omega, rfl, HN, H3⟩
          case measure => simp [intOf]; omega
        · have HN : Hid ((mostFs ((allOrd m).take (i + 1))).2 = bm ∧ (mostFs ((allOrd m).take (i + 1))).1.length = L ∧ w2.ownsRow W.heap.size 3 1 (.slice (some ⟨q1, 0, none⟩) L q2) L (vals (mostFs ((allOrd m).take (i + 1))).1)) := Go.Lib.hid (by
            rw [HS.out.1]; unfold betterF
            rw [HS.out.2.2.1, if_neg (by rw [HB.out.1]; exact hgt)]
            exact HB.out)
          go_wp2_with fail
          go_roundw
          case rel => exact ⟨i + 1, L, q1, q2, bm, by omega, by go_num, rfl, by omega, by omega, rfl, HN, H3⟩
          case measure => simp [intOf]; omega
      · have hiN2 : i = N := by omega
        have HF : Hid (mostFs ((allOrd m).take i) = (xs, mx)) := Go.Lib.hid (by rw [List.take_of_length_le (by rw [allOrd_len, HNN.out]; omega)]; exact HM.out)
        have hbm : bm = mx := by rw [← HB.out.1, HF.out]
        subst hbm
        have HG : Hid (xs.length = L ∧ w2.ownsRow W.heap.size 3 1 (.slice (some ⟨q1, 0, none⟩) L q2) L (vals xs)) := Go.Lib.hid (by have h1 := HB.out.2; rw [HF.out] at h1; exact h1)
        have hlti : ¬ (i : Int) < (N : Int) := by omega
        clear hiN2
        go_wp2_with fail
        go_ret3
        refine ⟨_, rfl, ?_, H2.out.1.trans (HW.out.mono H2.out.1.size)⟩
        rw [HG.out.1]
        exact kept_call HG.out.2 HW.out

end Go.Proofs.Ytecbfoodkcgehaa.MostFC

namespace Go.Proofs.Ytecbfoodkcgehaa.fnExactMostFallSweeps
open Go.ChangeShapes Go.WideShapes Go.ChangeAt Go.RowKit SeesC OpenC
open Go.ChangeMaps (open_string shut_string)
open IntsC ExactC OrdMath CutsM MostFM MostFC
set_option linter.unusedVariables false

theorem own : ownKnob Try.prog.godebug = none := by kernel_rfl
theorem laidOut : laidOutB Try.prog = true := by kernel_rfl

/-! ### The walk -/
set_option maxHeartbeats 2000000 in
theorem walk (a0 : Int) (w : World) (w0 : (Lit.int .i64 a0).wf = true) :
    Calls Try.prog 16 #[.int .i64 a0] w fun e w' => e = .returned (.bool true) ∧ Below w.heap.size w w' := by
  have hvlt := fun (z : World) => Nat.le_refl z.heap.size
  have bels : Hid (Below w.heap.size w w) := Go.Lib.hid (Below.refl _ _)
  obtain ⟨⟨xs, r, b⟩, hans⟩ : ∃ p, mostFAns a0 = p := ⟨_, rfl⟩
  have C1 := Go.Lib.hid (specMostF a0 xs r b hans w0)
  have C2 := Go.Lib.hid (implMostF a0 xs r b hans w0)
  have hxl : xs.length ≤ 1048576 := mostF_alen hans
  clear hans
  clear hvlt
  go_enter Try.func16, Try.ntmps16
  go_wp2_with fail
  refine (C1.out _ ).mono ?_
  rintro e W1 ⟨v1, rfl, o1, b1⟩
  have ZW1 := Go.Lib.hid (Below.size (b1))
  have Rw0 := Go.Lib.hid (fun q hq => World.ownsRow.lt (o1) q hq)
  have HW1 := Go.Lib.hid (And.intro (Below.trans (bels.out) ((b1).mono (Below.size (bels.out)))) (o1))
  clear o1 b1
  go_wp2_with fail
  refine (C2.out _ ).mono ?_
  rintro e W2 ⟨v2, rfl, o2, b2⟩
  have ZW2 := Go.Lib.hid (Below.size (b2))
  have Rg0 := Go.Lib.hid (fun q hq => World.ownsRow.lt (o2) q hq)
  have HW2 := Go.Lib.hid (And.intro (Below.trans (HW1.out.1) ((b2).mono (Below.size (HW1.out.1)))) (And.intro (kept_call (HW1.out.2) b2) (o2)))
  clear o2 b2
  go_wp2_with fail
  refine (eqIntS_same _ _ _ xs.length xs (Sees.owns (HW2.out.2.2)) (Sees.owns (HW2.out.2.1)) (by unfold maxLen; omega)).mono ?_
  rintro e W3 ⟨rfl, d3⟩
  have ZW3 := Go.Lib.hid (Below.size ((d3.below W2.heap.size)))
  have HW3 := Go.Lib.hid (And.intro (Below.trans (HW2.out.1) (((d3.below W2.heap.size)).mono (Below.size (HW2.out.1)))) (And.intro (kept_call (HW2.out.2.1) (d3.below W2.heap.size)) (kept_call (HW2.out.2.2) (d3.below W2.heap.size))))
  clear d3
  go_wp2_with fail
  refine (markIntS_any _ xs.length 1 _ _ _ (by omega) (by omega) (HW3.out.2.2)).mono ?_
  rintro e W4 ⟨rfl, om4, gm4⟩
  have ZW4 := Go.Lib.hid (World.grownBy.size gm4)
  have HW4 := Go.Lib.hid (And.intro (Below.grown (HW3.out.1) gm4 (Below.size (HW3.out.1)) (fun k hk => by have h2 := Rg0.out k hk; have := ZW1.out; have := ZW2.out; have := ZW3.out; omega)) (And.intro (own_mark (HW3.out.2.1) gm4 (fun a ha e => by have h1 := Rw0.out a ha; have h2 := Rg0.out a e; have := ZW1.out; have := ZW2.out; have := ZW3.out; omega)) (om4)))
  clear om4 gm4
  go_wp2_with fail
  refine (heldIntS_any xs.length 1 _ _ (by omega) (by omega) (Sees.owns (HW4.out.2.2))).mono ?_
  rintro e _ ⟨rfl, rfl⟩
  go_wp2_with fail
  refine (C2.out _ ).mono ?_
  rintro e W5 ⟨v5, rfl, o5, b5⟩
  have ZW5 := Go.Lib.hid (Below.size (b5))
  have Rh0 := Go.Lib.hid (fun q hq => World.ownsRow.lt (o5) q hq)
  have HW5 := Go.Lib.hid (And.intro (Below.trans (HW4.out.1) ((b5).mono (Below.size (HW4.out.1)))) (And.intro (kept_call (HW4.out.2.1) b5) (And.intro (kept_call (HW4.out.2.2) b5) (o5))))
  clear o5 b5
  go_wp2_with fail
  refine (eqIntS_same _ _ _ xs.length xs (Sees.owns (HW5.out.2.2.2)) (Sees.owns (HW5.out.2.1)) (by unfold maxLen; omega)).mono ?_
  rintro e W6 ⟨rfl, d6⟩
  have ZW6 := Go.Lib.hid (Below.size ((d6.below W5.heap.size)))
  have HW6 := Go.Lib.hid (And.intro (Below.trans (HW5.out.1) (((d6.below W5.heap.size)).mono (Below.size (HW5.out.1)))) (And.intro (kept_call (HW5.out.2.1) (d6.below W5.heap.size)) (And.intro (kept_call (HW5.out.2.2.1) (d6.below W5.heap.size)) (kept_call (HW5.out.2.2.2) (d6.below W5.heap.size)))))
  clear d6
  go_wp2_with fail
  refine (heldIntS_any xs.length 1 _ _ (by omega) (by omega) (Sees.owns (HW6.out.2.2.1))).mono ?_
  rintro e _ ⟨rfl, rfl⟩
  go_wp2_with fail
  go_ret
  exact ⟨rfl, HW6.out.1⟩

/-! ### From the walk to the row -/
set_option maxRecDepth 100000 in
theorem lifted (os : Os) (started : os.Started) (H : Type) (enc : TypeId × Value → H) :
    ReturnsInHanded {} Try.checked os 16 .any (Rows.fnExactMostFallSweepsSpec.pre6 enc Try.prog Try.f16 Rows.fnExactMostFallSweepsRow.domain false) (Rows.fnExactMostFallSweepsSpec.post enc Try.prog Try.f16 false true false false) := by
  refine returnsInHanded_of_change (C := Try.checked) own started (by kernel_rfl) Try.func16
    (ChangeSpec.witness6 (enc := enc) (C := Try.checked) false ⟨#[], #[.int .i64 0], []⟩ 8 (by kernel_rfl) (by kernel_rfl) (by kernel_rfl) (by kernel_rfl)) ?_
  intro W base args ds gs before hval0 hW hcnd _
  have hval : ∀ (j : Nat) t v, Try.f16.params[j]? = some t → args[j]? = some v → Value.okWide Try.prog W .any base t v := hval0
  have hW' := hW
  obtain ⟨p, q, hA0, hV, rfl, hfz, hnd⟩ := hW
  have hA : DataW.TrodAll enc Try.prog W 0 (fun _ => true) true Try.f16.params.toList args.toList ds p := hA0
  rw [Try.params16] at hA hval
  obtain ⟨u0, vs0, d0, ds0, p0, q0, hargs, rfl, rfl, h0, r0⟩ := trodAll_cons hA
  obtain ⟨rfl, rfl, rfl⟩ := trodAll_nil r0
  obtain rfl : args = #[u0] := by cases args; simp_all
  obtain ⟨rfl, rfl⟩ := trodVars_none hV
  obtain ⟨a0, rfl, rfl, rfl, w0⟩ := open_int Try.underlying3 (hval 0 3 u0 rfl rfl) h0
  clear hA0 hval0
  refine (walk a0 W w0).mono fun e W' ⟨he, bel⟩ => ?_
  subst he
  exact ⟨_, rfl, _, _, _, [], _, [], hW', trodAll_mk1 (shut_bool Try.underlying4 _), (trodAll_cons_mk (shut_int Try.underlying3 w0) trodAll_mk0), rfl, bel.frame _, fun h => by cases h⟩

theorem over : Rows.fnExactMostFallSweepsRow.holds Try.pinned (OpenSpec.ofChange Rows.fnExactMostFallSweepsSpec) :=
  OpenClaim.holds_of_wide 16 Try.f16 rfl rfl rfl rfl rfl rfl rfl ⟨rfl, rfl, rfl, rfl, rfl⟩ rfl rfl rfl rfl rfl (by kernel_rfl) Try.func16
    (show joinedFacts Try.prog 16 Try.f16 Rows.fnExactMostFallSweepsSpec Rows.fnExactMostFallSweepsRow = true by unfold joinedFacts; rw [SeatC.may, SeatC.lif, SeatC.mke]; kernel_rfl)
    (of_decide_eq_true (by kernel_rfl)) (by unfold Func.isWrapper; first | (rw [if_pos (by decide +kernel)]; kernel_rfl) | (rw [if_neg (by decide +kernel)]; exact ⟨rfl, rfl⟩))
    (fun os started H enc _ => lifted os started H enc)

/-- The statement. -/
theorem proved : Rows.FnExactMostFallSweepsSaid :=
  over
#print axioms proved
end Go.Proofs.Ytecbfoodkcgehaa.fnExactMostFallSweeps
