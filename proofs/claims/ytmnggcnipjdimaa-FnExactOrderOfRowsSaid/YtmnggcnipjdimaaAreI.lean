/-
  Contract: what the program takes for rows. Conditions: at most 2^20 numbers together.
-/
import Derived.Test.YtmnggcnipjdimaaAreS
import Derived.Test.YtmnggcnipjdimaaLayIS
namespace Go.Proofs.Ytmnggcnipjdimaa.AreIC
open Go.RowKit SeesC IntsC ExactC OrdMath InC OrderC ListsC ListsEC ListsFC LLC QueM PassM RowsM AreM AreSC

theorem row_add {w : World} {b o m : Nat} {r : List Int} (hm : r.length = m) (hc : ∀ q, q < m → w.cell? ⟨b, o + q, none⟩ = some (.int .i64 (r.getD q 0))) : ∀ j u, (vals r)[j]? = some u → w.cell? ((⟨b, o, none⟩ : Addr).add j) = some u := by
  intro j u hu
  have hj : j < r.length := by have := (List.getElem?_eq_some_iff.1 hu).1; simpa using this
  have e0 : (⟨b, o, none⟩ : Addr).add j = ⟨b, o + j, none⟩ := by unfold Addr.add; split <;> simp_all
  rw [e0, hc j (by omega)]
  simp [hj] at hu
  rw [← hu]; simp [hj]

theorem up_iff (r : List Int) : (∀ i, i < r.toArray.size - 1 → decide (r.toArray[i + 1]! < r.toArray[i]!) = false) ↔ r.Pairwise (· ≤ ·) := by
  have hget : ∀ i, i < r.length → r.toArray[i]! = r.getD i 0 := by
    intro i hi
    rw [getElem!_pos r.toArray i (by simpa using hi)]
    simp [hi]
  constructor
  · intro hs
    have step : ∀ m i, i + m < r.length → r.getD i 0 ≤ r.getD (i + m) 0 := by
      intro m
      induction m with
      | zero => intro i _; exact Int.le_refl _
      | succ m ih =>
        intro i hi
        have h1 := ih i (by omega)
        have h2 := of_decide_eq_false (hs (i + m) (by simp; omega))
        rw [hget (i + m + 1) (by omega), hget (i + m) (by omega)] at h2
        have e : i + (m + 1) = i + m + 1 := rfl
        rw [e]
        omega
    rw [List.pairwise_iff_getElem]
    intro i j hi hj hij
    have h1 := step (j - i) i (by omega)
    rw [show i + (j - i) = j by omega] at h1
    simpa [hi, hj] using h1
  · intro h i hi
    have hi2 : i + 1 < r.length := by simp at hi; omega
    rw [decide_eq_false_iff_not, hget (i + 1) hi2, hget i (by omega)]
    have := List.pairwise_iff_getElem.1 h i (i + 1) (by omega) hi2 (by omega)
    have e1 : r.getD i 0 = r[i] := by simp [show i < r.length by omega]
    have e2 : r.getD (i + 1) 0 = r[i + 1] := by simp [hi2]
    rw [e1, e2]; omega

theorem sortedRow_any (r : List Int) (rb : Bool) (hr : decide (r.Pairwise (· ≤ ·)) = rb) (W : World) (b o m c : Nat) (hm : r.length = m) (hm7 : m ≤ 1000) (hc : ∀ q, q < m → W.cell? ⟨b, o + q, none⟩ = some (.int .i64 (r.getD q 0))) :
    Calls Try.prog 92 #[.slice (some ⟨b, o, none⟩) m c] W fun e w' => e = .returned (.bool rb) ∧ Drawn W w' := by
  have hsz : r.toArray.size = m := by simpa using hm
  have h1 := AnyO.slices_IsSorted_int Try.laysIS b o c r.toArray W (fun i hi => by
    have hi2 : i < r.length := by simpa using hi
    rw [hc i (by omega), getElem!_pos r.toArray i hi]
    simp [hi2]) (by omega)
  have e : Lib.downOK (fun x y => decide (x < y)) r.toArray (r.toArray.size - 1) = rb := by
    rw [← hr, Bool.eq_iff_iff, Lib.downOK_iff, decide_eq_true_iff]
    exact up_iff r
  rw [e] at h1
  rw [hsz] at h1
  exact h1.mono fun _ _ ⟨h, q, hq⟩ => ⟨h, q, hq⟩

def Fits (p r : List Int) : Prop := r.length ≤ p.length ∧ ∀ j, j < r.length → p.getD j 0 ≤ r.getD j 0

instance (p r : List Int) : Decidable (Fits p r) := by unfold Fits; infer_instance

set_option maxRecDepth 100000 in
set_option maxHeartbeats 2000000 in
theorem fitsBelow_any (p r : List Int) (fb : Bool) (hf : decide (Fits p r) = fb) (W : World) (b o m c b3 o3 mp c3 : Nat) (hm : r.length = m) (hmp : p.length = mp) (hm7 : m ≤ 1000) (hmp7 : mp ≤ 1048576)
    (hc : ∀ q, q < m → W.cell? ⟨b, o + q, none⟩ = some (.int .i64 (r.getD q 0))) (hc3 : ∀ q, q < mp → W.cell? ⟨b3, o3 + q, none⟩ = some (.int .i64 (p.getD q 0))) :
    Calls Try.prog 107 #[.slice (some ⟨b, o, none⟩) m c, .slice (some ⟨b3, o3, none⟩) mp c3] W fun e w' => e = .returned (.bool fb) ∧ W = w' := by
  have HC := Go.Lib.hid (And.intro hc hc3)
  have HM := Go.Lib.hid (And.intro hm hmp)
  have HF := Go.Lib.hid hf
  clear hc hc3 hm hmp hf
  by_cases hlen : mp < m
  · obtain rfl : fb = false := by rw [← HF.out]; exact decide_eq_false (fun h => by have := h.1; have := HM.out; omega)
    have hd : decide (mp < m) = true := decide_eq_true hlen
    go_enter Try.func107, Try.ntmps107
    go_wp2
    go_ret
    exact ⟨rfl, rfl⟩
  · have hd : decide (mp < m) = false := decide_eq_false hlen
    go_enter Try.func107, Try.ntmps107
    go_wp2
    go_loop [14] (fun iv => ∃ i : Nat, i ≤ m ∧ iv = .int .i64 i ∧ Hid (∀ j, j < i → p.getD j 0 ≤ r.getD j 0)) (fun i => m - (intOf i).toNat)
    case atStart => exact ⟨0, Nat.zero_le _, rfl, Go.Lib.hid (fun j hj => by omega)⟩
    case round =>
      obtain ⟨i, him, rfl, HK⟩ := hrel
      by_cases hlt : i < m
      · obtain ⟨x, hx⟩ : ∃ x, r.getD i 0 = x := ⟨_, rfl⟩
        obtain ⟨y, hy⟩ : ∃ y, p.getD i 0 = y := ⟨_, rfl⟩
        have h1 := HC.out.1 i hlt
        have h2 := HC.out.2 i (by omega)
        rw [hx] at h1
        rw [hy] at h2
        have HX := Go.Lib.hid (And.intro hx hy)
        have hii : (i : Int) < (m : Int) := by omega
        have hip : (i : Int) < (mp : Int) := by omega
        clear hx hy
        by_cases hxy : x < y
        · obtain rfl : fb = false := by rw [← HF.out]; exact decide_eq_false (fun h => by have := h.2 i (by have := HM.out; omega); rw [HX.out.1, HX.out.2] at this; omega)
          have hxd : decide (x < y) = true := decide_eq_true hxy
          go_wp2
          go_ret
          exact ⟨rfl, rfl⟩
        · have HK2 : Hid (∀ j, j < i + 1 → p.getD j 0 ≤ r.getD j 0) := Go.Lib.hid (fun j hj => by
            by_cases e : j = i
            · rw [e, HX.out.1, HX.out.2]; omega
            · exact HK.out j (by omega))
          have hxd : decide (x < y) = false := decide_eq_false hxy
          go_wp2
          go_round
          case rel => exact ⟨i + 1, by omega, by go_num, HK2⟩
          case measure => simp [intOf]; omega
      · obtain rfl : i = m := by omega
        obtain rfl : fb = true := by rw [← HF.out]; exact decide_eq_true ⟨by have := HM.out; omega, fun j hj => HK.out j (by have := HM.out; omega)⟩
        go_wp2
        go_ret
        exact ⟨rfl, rfl⟩

set_option maxRecDepth 100000 in
set_option maxHeartbeats 16000000 in
theorem implAreRows (L : List (List Int)) (r : Bool) (hr : areB L = r) (hN : L.length + tot L ≤ 1048576) (W : World) (v : Value) (hv : SeesLL W v L) :
    Calls Try.prog 53 #[v] W fun e w' => e = .returned (.bool r) ∧ Below W.heap.size W w' := by
  obtain ⟨i0, hi0, hz0, hz1, hz2⟩ := info_parts infoI
  obtain ⟨a, c, rfl⟩ := hv.value
  obtain ⟨N, hLN⟩ : ∃ N, L.length = N := ⟨_, rfl⟩
  rw [hLN] at hv hN ⊢
  have HV := Go.Lib.hid (And.intro hv (And.intro hLN hN))
  have HRR := Go.Lib.hid hr
  have hNm : N ≤ 1048576 := by omega
  have H00 : Hid ((W.alloc (.cells #[] 3)).ownsRow W.heap.size 3 1 (.slice (some ⟨W.heap.size, 0, none⟩) 0 0) 0 (vals (L.take 0).flatten) ∧ Below W.heap.size W (W.alloc (.cells #[] 3)) ∧ ∀ j, j < 0 → RowWk L j) :=
    Go.Lib.hid ⟨World.ownsRow_made (base := W.heap.size) (e := 3) (size := 1) W #[] 0 (Nat.le_refl _) (by unfold maxLen; omega) rfl, (Below.refl _ _).alloc (Nat.le_refl _) _, fun j hj => by omega⟩
  clear hv hLN hN hr
  by_cases hN7 : 7 < N
  · obtain rfl : r = false := by rw [← HRR.out]; exact are_many (by rw [HV.out.2.1]; exact hN7)
    go_enter Try.func53, Try.ntmps53
    go_wp2
    go_ret
    exact ⟨rfl, Below.refl _ _⟩
  go_enter Try.func53, Try.ntmps53
  go_wp2
  go_loopw [3, 12] (fun av iv wr => ∃ (i A ga ca : Nat), i ≤ N ∧ iv = .int .i64 i ∧ av = .slice (some ⟨ga, 0, none⟩) A ca ∧ A ≤ 7 * i ∧ Hid (wr.ownsRow W.heap.size 3 1 (.slice (some ⟨ga, 0, none⟩) A ca) A (vals (L.take i).flatten) ∧ Below W.heap.size W wr ∧ ∀ jj, jj < i → RowWk L jj)) (fun _ i _ => N - (intOf i).toNat)
  case atStart => exact ⟨0, 0, _, _, Nat.zero_le _, rfl, rfl, by omega, H00⟩
  case round =>
    obtain ⟨i, A, ga, ca, hiN, rfl, rfl, hA7, HX0⟩ := hrel
    clear H00
    obtain ⟨wo, rfl⟩ : ∃ wo, wo = wr := ⟨_, rfl⟩
    by_cases hlt : i < N
    · obtain ⟨b, o, u, c1, rfl, hck, hs⟩ := HV.out.1.at HV.out.2.1 hlt
      have hbl := World.block_lt_of_cell? W _ hck
      simp only at hbl
      obtain ⟨m, hm⟩ : ∃ m, (L.getD i []).length = m := ⟨_, rfl⟩
      have hm20 : m ≤ 1048576 := by have h1 := tot_row (L := L) (i := i) (by have := HV.out.2.1; omega); have h2 := HV.out.2.2; omega
      rw [hm] at hck hs
      have HS := Go.Lib.hid hs
      have HM := Go.Lib.hid hm
      have HI : Hid (i < L.length) := Go.Lib.hid (by have := HV.out.2.1; omega)
      have HOKS := Go.Lib.hid HX0.out.2.2
      have hcko := (HX0.out.2.1.cell (p := ⟨b, o + i, none⟩) hbl).trans hck
      have hiNi : (i : Int) < (N : Int) := by omega
      clear hck hs hm
      by_cases hm0 : m < 1
      · have hm0d : decide (m < 1) = true := decide_eq_true hm0
        have hm0i : (m : Int) < 1 := by omega
        obtain rfl : r = false := by rw [← HRR.out]; exact are_not_wk HI.out (fun h => by have := h.1; have := HM.out; omega)
        go_wp2
        go_ret
        exact ⟨rfl, HX0.out.2.1⟩
      · by_cases hm8 : 7 < m
        · have hm8i : (7 : Int) < (m : Int) := by omega
          have hm0i : ¬ (m : Int) < 1 := by omega
          obtain rfl : r = false := by rw [← HRR.out]; exact are_not_wk HI.out (fun h => by have := h.2.1; have := HM.out; omega)
          go_wp2
          go_ret
          exact ⟨rfl, HX0.out.2.1⟩
        · obtain ⟨m1, rfl⟩ : ∃ m1, m = m1 + 1 := ⟨m - 1, by omega⟩
          obtain ⟨b2, o2, rfl, hrc⟩ := row_cells HS.out (by omega)
          have HRC := Go.Lib.hid (fun q (hq : q < m1 + 1) => (HX0.out.2.1.cell (p := ⟨b2, o2 + q, none⟩) (World.block_lt_of_cell? W _ (hrc q hq))).trans (hrc q hq))
          have hm0i : ¬ ((m1 : Int) + 1) < 1 := by omega
          have hm8i : ¬ (7 : Int) < (m1 : Int) + 1 := by omega
          obtain ⟨rb, hrb⟩ : ∃ rb, decide ((L.getD i []).Pairwise (· ≤ ·)) = rb := ⟨_, rfl⟩
          have CS := Go.Lib.hid (sortedRow_any (L.getD i []) rb hrb wo b2 o2 (m1 + 1) c1 HM.out (by omega) HRC.out)
          have HRB := Go.Lib.hid hrb
          clear hrc hrb
          cases rb with
          | false =>
            obtain rfl : r = false := by rw [← HRR.out]; exact are_not_wk HI.out (fun h => (of_decide_eq_false HRB.out) h.2.2.2)
            go_wp2_with fail
            refine (CS.out).mono ?_
            rintro e w2 ⟨rfl, hd⟩
            have H2 := Go.Lib.hid (HX0.out.2.1.trans (hd.below _))
            clear hd
            go_wp2_with fail
            go_ret
            exact ⟨rfl, H2.out⟩
          | true =>
            have hup := of_decide_eq_true HRB.out
            have HUP := Go.Lib.hid hup
            clear hup
            by_cases hi1 : i = 0
            · subst hi1
              have hck0 : wo.cell? ⟨b, o, none⟩ = some (.slice (some ⟨b2, o2, none⟩) (m1 + 1) c1) := hcko
              have HWK : Hid (RowWk L 0) := Go.Lib.hid ⟨by have := HM.out; omega, by have := HM.out; omega, fun h => by omega, HUP.out⟩
              go_wp2_with fail
              refine (CS.out).mono ?_
              rintro e w2 ⟨rfl, hd⟩
              have HW : Hid (w2.ownsRow W.heap.size 3 1 (.slice (some ⟨ga, 0, none⟩) A ca) A (vals (L.take 0).flatten) ∧ Below W.heap.size W w2 ∧ (∀ j u, (vals (L.getD 0 []))[j]? = some u → w2.cell? ((⟨b2, o2, none⟩ : Addr).add j) = some u)) := Go.Lib.hid ⟨kept_call HX0.out.1 (hd.below _), HX0.out.2.1.trans (hd.below _), row_add HM.out (fun q hq => (hd.cell _).trans (HRC.out q hq))⟩
              clear hd
              go_wp2_with (at_builtin; refine wpList_append_own _ rfl _ _ 24 rfl W.heap.size 3 i0 (.int .i64 0) 1 8 Try.underlying24 hi0 hz0 hz1 hz2 rfl (by decide) (.slice (some ⟨ga, 0, none⟩) A ca) A (vals (L.take 0).flatten) rfl HW.out.1 ⟨b2, o2, none⟩ (m1 + 1) c1 (vals (L.getD 0 [])) rfl (by rw [vals_len, HM.out, Nat.mul_one]) HW.out.2.2 (ints_oneCell .i64 _) (by unfold maxLen; omega) (by omega) HW.out.2.1.size ?_; intro v' w5 hown5 hgrow5 hnil5)
              obtain ⟨g5, c5, rfl⟩ : ∃ g c, v' = .slice (some ⟨g, 0, none⟩) (A + (m1 + 1)) c := own_pos hown5 (by omega)
              have e5 : vals (L.take 0).flatten ++ vals (L.getD 0 []) = vals (L.take (0 + 1)).flatten := by rw [flat_next HI.out]; simp
              rw [e5] at hown5
              have H5 : Hid (w5.ownsRow W.heap.size 3 1 (.slice (some ⟨g5, 0, none⟩) (A + (m1 + 1)) c5) (A + (m1 + 1)) (vals (L.take (0 + 1)).flatten) ∧ Below W.heap.size W w5 ∧ ∀ jj, jj < 0 + 1 → RowWk L jj) := Go.Lib.hid ⟨hown5, HW.out.2.1.grown hgrow5 HW.out.2.1.size (fun q hq => (HW.out.1.lt q hq).1), fun q hq => by
                by_cases e : q = 0
                · rw [e]; exact HWK.out
                · exact HOKS.out q (by omega)⟩
              clear hown5 hgrow5 hnil5 e5
              go_wp2
              go_roundw
              case rel => exact ⟨0 + 1, A + (m1 + 1), g5, c5, by omega, by go_num, by first | rfl | go_num, by omega, H5⟩
              case measure => simp [intOf] <;> omega
            · obtain ⟨j, rfl⟩ : ∃ j, i = j + 1 := ⟨i - 1, by omega⟩
              have hj0 : 0 ≤ (j : Int) + 1 := by omega
              have hj0d : decide (0 < j + 1) = true := decide_eq_true (by omega)
              have hj1 : (0 : Int) < (j : Int) + 1 := by omega
              obtain ⟨b', o', u3, c3, heq, hcp, hsp⟩ := HV.out.1.at HV.out.2.1 (show j < N by omega)
              cases heq
              obtain ⟨mp, hmp⟩ : ∃ mp, (L.getD j []).length = mp := ⟨_, rfl⟩
              have hwj := HOKS.out j (by omega)
              have hmp1 : 1 ≤ mp := by rw [← hmp]; exact hwj.1
              have hmp7 : mp ≤ 7 := by rw [← hmp]; exact hwj.2.1
              rw [hmp] at hcp hsp
              have hcpo := (HX0.out.2.1.cell (p := ⟨b, o + j, none⟩) hbl).trans hcp
              obtain ⟨b3, o3, rfl, hpc⟩ := row_cells hsp (by omega)
              have HPC := Go.Lib.hid (fun q (hq : q < mp) => (HX0.out.2.1.cell (p := ⟨b3, o3 + q, none⟩) (World.block_lt_of_cell? W _ (hpc q hq))).trans (hpc q hq))
              have HMP := Go.Lib.hid hmp
              obtain ⟨fb, hfb⟩ : ∃ fb, decide (Fits (L.getD j []) (L.getD (j + 1) [])) = fb := ⟨_, rfl⟩
              have CF : Hid (∀ w2, Drawn wo w2 → _) := Go.Lib.hid (fun w2 (hd : Drawn wo w2) => fitsBelow_any (L.getD j []) (L.getD (j + 1) []) fb hfb w2 b2 o2 (m1 + 1) c1 b3 o3 mp c3 HM.out HMP.out (by omega) (by omega) (fun q hq => (hd.cell _).trans (HRC.out q hq)) (fun q hq => (hd.cell _).trans (HPC.out q hq)))
              have HFB := Go.Lib.hid hfb
              clear hcp hsp hmp hpc hwj hfb
              cases fb with
              | false =>
                obtain rfl : r = false := by rw [← HRR.out]; exact are_not_wk HI.out (fun h => (of_decide_eq_false HFB.out) (h.2.2.1 (by omega)))
                go_wp2_with fail
                refine (CS.out).mono ?_
                rintro e w2 ⟨rfl, hd⟩
                have H2 := Go.Lib.hid (HX0.out.2.1.trans (hd.below _))
                have hcpo2 := (hd.cell ⟨b, o + j, none⟩).trans hcpo
                have CF2 := Go.Lib.hid (CF.out w2 hd)
                clear hd
                go_wp2_with fail
                refine (CF2.out).mono ?_
                rintro e _ ⟨rfl, rfl⟩
                go_wp2_with fail
                go_ret
                exact ⟨rfl, H2.out⟩
              | true =>
                have HWK : Hid (RowWk L (j + 1)) := Go.Lib.hid ⟨by have := HM.out; omega, by have := HM.out; omega, fun _ => of_decide_eq_true HFB.out, HUP.out⟩
                go_wp2_with fail
                refine (CS.out).mono ?_
                rintro e w2 ⟨rfl, hd⟩
                have HW : Hid (w2.ownsRow W.heap.size 3 1 (.slice (some ⟨ga, 0, none⟩) A ca) A (vals (L.take (j + 1)).flatten) ∧ Below W.heap.size W w2 ∧ (∀ q u, (vals (L.getD (j + 1) []))[q]? = some u → w2.cell? ((⟨b2, o2, none⟩ : Addr).add q) = some u)) := Go.Lib.hid ⟨kept_call HX0.out.1 (hd.below _), HX0.out.2.1.trans (hd.below _), row_add HM.out (fun q hq => (hd.cell _).trans (HRC.out q hq))⟩
                have hcpo2 := (hd.cell ⟨b, o + j, none⟩).trans hcpo
                have CF2 := Go.Lib.hid (CF.out w2 hd)
                clear hd
                go_wp2_with fail
                refine (CF2.out).mono ?_
                rintro e _ ⟨rfl, rfl⟩
                go_wp2_with (at_builtin; refine wpList_append_own _ rfl _ _ 24 rfl W.heap.size 3 i0 (.int .i64 0) 1 8 Try.underlying24 hi0 hz0 hz1 hz2 rfl (by decide) (.slice (some ⟨ga, 0, none⟩) A ca) A (vals (L.take (j + 1)).flatten) rfl HW.out.1 ⟨b2, o2, none⟩ (m1 + 1) c1 (vals (L.getD (j + 1) [])) rfl (by rw [vals_len, HM.out, Nat.mul_one]) HW.out.2.2 (ints_oneCell .i64 _) (by unfold maxLen; omega) (by omega) HW.out.2.1.size ?_; intro v' w5 hown5 hgrow5 hnil5)
                obtain ⟨g5, c5, rfl⟩ : ∃ g c, v' = .slice (some ⟨g, 0, none⟩) (A + (m1 + 1)) c := own_pos hown5 (by omega)
                have e5 : vals (L.take (j + 1)).flatten ++ vals (L.getD (j + 1) []) = vals (L.take ((j + 1) + 1)).flatten := by rw [flat_next HI.out]; simp
                rw [e5] at hown5
                have H5 : Hid (w5.ownsRow W.heap.size 3 1 (.slice (some ⟨g5, 0, none⟩) (A + (m1 + 1)) c5) (A + (m1 + 1)) (vals (L.take ((j + 1) + 1)).flatten) ∧ Below W.heap.size W w5 ∧ ∀ jj, jj < (j + 1) + 1 → RowWk L jj) := Go.Lib.hid ⟨hown5, HW.out.2.1.grown hgrow5 HW.out.2.1.size (fun q hq => (HW.out.1.lt q hq).1), fun q hq => by
                  by_cases e : q = (j + 1)
                  · rw [e]; exact HWK.out
                  · exact HOKS.out q (by omega)⟩
                clear hown5 hgrow5 hnil5 e5
                go_wp2
                go_roundw
                case rel => exact ⟨(j + 1) + 1, A + (m1 + 1), g5, c5, by omega, by go_num, by first | rfl | go_num, by omega, H5⟩
                case measure => simp [intOf] <;> omega
    · have hie : i = N := by omega
      subst hie
      have CO := Go.Lib.hid (implOrder_any wo (.slice (some ⟨ga, 0, none⟩) A ca) A L.flatten r (by
        have h := HX0.out.1
        rw [List.take_of_length_le (by have := HV.out.2.1; omega)] at h
        exact Sees.owns h) (by omega) (by rw [← HRR.out]; exact (are_wk (fun q hq => HX0.out.2.2 q (by have := HV.out.2.1; omega))).symm))
      go_wp2_with fail
      refine (CO.out).mono ?_
      rintro e w2 ⟨rfl, hd⟩
      have H2 := Go.Lib.hid (HX0.out.2.1.trans (hd.mono HX0.out.2.1.size))
      clear hd
      go_wp2_with fail
      go_ret
      exact ⟨rfl, H2.out⟩

theorem specAreRows (L : List (List Int)) (r : Bool) (hr : areB L = r) (hN : L.length + tot L ≤ 1048576) (W : World) (v : Value) (hv : SeesLL W v L) :
    Calls Try.prog 54 #[v] W fun e w' => e = .returned (.bool r) ∧ Below W.heap.size W w' := by
  obtain ⟨a, c, rfl⟩ := hv.value
  have C1 := Go.Lib.hid (l5Are_any L r hr W _ hv hN)
  clear hr hN hv
  go_enter Try.func54, Try.ntmps54
  go_wp2_with fail
  refine (C1.out).mono ?_
  rintro e w1 ⟨rfl, hb⟩
  have H1 := Go.Lib.hid hb
  clear hb
  go_wp2_with fail
  go_ret
  exact ⟨rfl, H1.out⟩

end Go.Proofs.Ytmnggcnipjdimaa.AreIC
