/-
  Contracts and plain facts that the laws' texts lean on. Conditions: as each states.
-/
import Derived.Test.YtnhhnffolmgceaaPz8
import Derived.Test.YtnhhnffolmgceaaPz29
import Derived.Test.YtnhhnffolmgceaaPz28
import Derived.Test.YtnhhnffolmgceaaPz24

section
namespace Go.Proofs.Ytnhhnffolmgceaa.SweepsC
open Go.RowKit SeesC IntsC ExactC NumC IterC OrdMath WordMath OrdFacts InC OrderC WordC RunC AtC EndsM SweepM StackM SweepWC SweepIC SameC

theorem sorted_iff {zs : List Int} (h : Ord zs) : (∀ i, i < zs.toArray.size - 1 → decide (zs.toArray[i + 1]! < zs.toArray[i]!) = false) ↔ zs = iota zs.length := by
  have hget : ∀ i, i < zs.length → zs.toArray[i]! = zs.getD i 0 := by
    intro i hi
    rw [getElem!_pos zs.toArray i (by simpa using hi)]
    simp [hi]
  constructor
  · intro hs
    refine sorted_is (ord_perm h) ?_
    have step : ∀ m i, i + m < zs.length → zs.getD i 0 ≤ zs.getD (i + m) 0 := by
      intro m
      induction m with
      | zero => intro i _; exact Int.le_refl _
      | succ m ih =>
        intro i hi
        have h1 := ih i (by omega)
        have h2 := of_decide_eq_false (hs (i + m) (by simp; omega))
        rw [hget (i + m + 1) (by omega), hget (i + m) (by omega)] at h2
        have e : i + (m + 1) = i + m + 1 := rfl
        rw [e]
        omega
    rw [List.pairwise_iff_getElem]
    intro i j hi hj hij
    have h1 := step (j - i) i (by omega)
    rw [show i + (j - i) = j by omega] at h1
    have h2 : zs[i] ≠ zs[j] := fun e => by have := (List.getElem_inj h.2.2.2).1 e; omega
    have e1 : zs.getD i 0 = zs[i] := by simp [hi]
    have e2 : zs.getD j 0 = zs[j] := by simp [hj]
    rw [e1, e2] at h1
    omega
  · intro e i hi
    have hi2 : i + 1 < zs.length := by simp at hi; omega
    rw [decide_eq_false_iff_not, hget (i + 1) hi2, hget i (by omega), e, iota_getD hi2, iota_getD (by omega)]
    omega

theorem isSorted_any (zs : List Int) (hord : Ord zs) (r : Bool) (hr : decide (zs = iota zs.length) = r) (W : World) (v : Value) (n : Nat) (hv : Sees W v n (vals zs)) :
    Calls Try.prog 92 #[v] W fun e w' => e = .returned (.bool r) ∧ ∃ q, w' = W.drewN q := by
  have hl : zs.length = n := by simpa using hv.1
  have h7 := hord.2.1
  obtain ⟨b, o, cap, rfl, _, _, hbl, hcell⟩ := sees_cells hv (by have := hord.1; omega)
  have hsz : zs.toArray.size = n := by simpa using hl
  have h1 := AnyO.slices_IsSorted_int Try.laysIS b o cap zs.toArray W (fun i hi => by
    have hi2 : i < zs.length := by simpa using hi
    rw [hcell i hi2, getElem!_pos zs.toArray i hi]
    simp [hi2]) (by omega)
  have e : Lib.downOK (fun x y => decide (x < y)) zs.toArray (zs.toArray.size - 1) = r := by
    rw [← hr, Bool.eq_iff_iff, Lib.downOK_iff, decide_eq_true_iff]
    exact sorted_iff hord
  rw [e] at h1
  rw [hsz] at h1
  exact h1

end Go.Proofs.Ytnhhnffolmgceaa.SweepsC

end

section
namespace Go.Proofs.Ytnhhnffolmgceaa.UntilC
open Go.RowKit SeesC IntsC ExactC IterC OrdMath OrderC OrdFacts SweepsC

/-- What a step does. -/
def StepTo (stepf : List Int → List Int) (fid : FuncId) : Prop :=
  ∀ (ys : List Int), Ord ys → ∀ (W : World) (v : Value) (n : Nat), Sees W v n (vals ys) →
    Calls Try.prog fid #[v] W fun e w' => ∃ g c, e = .returned (.slice (some ⟨g, 0, none⟩) n c) ∧ w'.ownsRow W.heap.size 3 1 (.slice (some ⟨g, 0, none⟩) n c) n (vals (stepf ys)) ∧ Below W.heap.size W w'

set_option maxRecDepth 100000 in
set_option maxHeartbeats 2000000 in
theorem until_any (stepf : List Int → List Int) (fid : FuncId) (hcf : ∀ (args : Array Value) (w : World), Sem.run Try.prog (callFunc fid args) w = .ok (.enter fid args) w) (HF : StepTo stepf fid) (N : Nat → List Int) (n M : Nat) (hstep : ∀ k, N (k + 1) = stepf (N k)) (hordN : ∀ k, Ord (N k)) (hlenN : ∀ k, (N k).length = n)
    (hM7 : M ≤ 1000) (hM : N M = iota n ∧ ∀ j, j < M → N j ≠ iota n) (W : World) (v : Value) (hv : Sees W v n (vals (N 0))) :
    Calls Try.prog 94 #[v, .func (.func fid) #[] #[]] W fun e w' => e = .returned (.int .i64 (M : Int)) ∧ Below W.heap.size W w' := by
  have hn7 : n ≤ 7 := by have := (hordN 0).2.1; have := hlenN 0; omega
  have hn1 : 1 ≤ n := by have := (hordN 0).1; have := hlenN 0; omega
  have HMI := Go.Lib.hid hM
  have HST := Go.Lib.hid hstep
  have HORD := Go.Lib.hid hordN
  have HLEN := Go.Lib.hid hlenN
  have HFH := Go.Lib.hid HF
  have HCF := Go.Lib.hid hcf
  have HV := Go.Lib.hid hv
  obtain ⟨_, ad, cap, rfl, _, _⟩ := hv
  clear hM hstep hordN hlenN HF hcf
  go_enter Try.func94, Try.ntmps94
  go_wp2_with fail
  go_loopw [0, 5] (fun nv mv wr => ∃ (k c : Nat) (a : Option Addr), mv = .int .i64 k ∧ nv = .slice a n c ∧ k ≤ M ∧ Hid (Sees wr (.slice a n c) n (vals (N k)) ∧ Below W.heap.size W wr)) (fun _ mv _ => M - (intOf mv).toNat)
  case atStart => exact ⟨0, cap, ad, rfl, rfl, Nat.zero_le _, Go.Lib.hid ⟨HV.out, Below.refl _ _⟩⟩
  case round =>
    obtain ⟨k, c, a, rfl, rfl, hk, HK⟩ := hrel
    obtain ⟨r, hr⟩ : ∃ r, decide (N k = iota (N k).length) = r := ⟨_, rfl⟩
    have HRR := Go.Lib.hid hr
    go_wp2_with fail
    refine (isSorted_any (N k) (HORD.out k) r hr wr _ n HK.out.1).mono ?_
    rintro e w4 ⟨rfl, q, rfl⟩
    have H4 := Go.Lib.hid (And.intro (HK.out.1.grow (ExactC.below_drewN (q := q) (Below.refl wr.heap.size wr))) (ExactC.below_drewN (q := q) HK.out.2))
    obtain ⟨w4, hw4⟩ : ∃ w4, wr.drewN q = w4 := ⟨_, rfl⟩
    rw [hw4] at H4 ⊢
    clear hr hw4
    by_cases hkM : k < M
    · have hrf : r = false := by
        rw [← HRR.out, decide_eq_false_iff_not, HLEN.out k]
        exact HMI.out.2 k hkM
      subst hrf
      have CW := Go.Lib.hid (HFH.out (N k) (HORD.out k) w4 _ n H4.out.1)
      go_wp2_with fail
      rw [HCF.out, Oper.upon_enter]
      refine CW.out.mono ?_
      rintro e w5 ⟨g5, c5, rfl, ho, hb⟩
      have H5 : Hid (Sees w5 (.slice (some ⟨g5, 0, none⟩) n c5) n (vals (N (k + 1))) ∧ Below W.heap.size W w5) := Go.Lib.hid ⟨by rw [HST.out]; exact Sees.owns ho, H4.out.2.trans (hb.mono H4.out.2.size)⟩
      clear ho hb
      go_wp2
      go_roundw
      case rel => exact ⟨k + 1, c5, some ⟨g5, 0, none⟩, by go_num, rfl, by omega, H5⟩
      case measure => simp [intOf]; omega
    · have hkM2 : k = M := by omega
      subst hkM2
      have hrt : r = true := by
        rw [← HRR.out, decide_eq_true_iff, HLEN.out k]
        exact HMI.out.1
      subst hrt
      go_wp2_with fail
      go_ret
      exact ⟨rfl, H4.out.2⟩

end Go.Proofs.Ytnhhnffolmgceaa.UntilC

end

section
namespace Go.Proofs.Ytnhhnffolmgceaa.CountSwC
open Go.RowKit SeesC IntsC ExactC NumC IterC OrdMath WordMath InC OrderC OrdFacts WordC RunC AtC EndsM SweepM StackM SweepWC SweepIC SameC SweepsC UntilC

theorem sweepStep : StepTo sweepL 101 := fun ys ho W v n hv => (sweepOf_any ys ho W v n hv).mono fun e w' ⟨u, he, hown, hb⟩ => by
  have hl : ys.length = n := by simpa using hv.1
  have hs : (sweepL ys).length = n := by rw [sweep_len]; exact hl
  rw [hs] at hown
  obtain ⟨g, c, rfl⟩ := own_pos hown (by have := ho.1; omega)
  exact ⟨g, c, he, hown, hb⟩

set_option maxRecDepth 100000 in
theorem until_sweeps (zs : List Int) (hord : Ord zs) (W : World) (v : Value) (n : Nat) (hv : Sees W v n (vals zs)) :
    Calls Try.prog 94 #[v, .func (.func 101) #[] #[]] W fun e w' => e = .returned (.int .i64 ((many zs : Nat) : Int)) ∧ Below W.heap.size W w' := by
  have hl : zs.length = n := by simpa using hv.1
  have hm := many_is hord
  rw [hl] at hm
  exact until_any sweepL _ (fun _ _ => rfl) sweepStep (swN zs) n (many zs) (fun _ => rfl) (ord_swN hord) (fun k => by rw [swN_len, hl]) (by have := hord.2.1; omega) ⟨hm.1, hm.2.1⟩ W v hv

end Go.Proofs.Ytnhhnffolmgceaa.CountSwC

end
