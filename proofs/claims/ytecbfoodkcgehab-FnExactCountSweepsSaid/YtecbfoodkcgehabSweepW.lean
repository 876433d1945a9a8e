/-
  Contract: the model's word of the sweep, and its sweep. Conditions: an order.
-/
import Derived.Test.YtecbfoodkcgehabAt
import Derived.Test.YtecbfoodkcgehabRun
import Derived.Test.YtecbfoodkcgehabStackM
import Derived.BigQuiet
import Derived.IntWalk
import Derived.Deep.QuietTactic
namespace Go.Proofs.Ytecbfoodkcgehab.SweepWC
open Go.RowKit SeesC IntsC ExactC NumC IterC OrdMath WordMath OrdFacts InC OrderC WordC RunC AtC EndsM SweepM StackM

/-- What the inner loop keeps: the signs and the stack of the next number. -/
def In (zs : List Int) (i : Nat) (x : Int) (st : List Int) (acc : List UInt8) : Prop :=
  acc ++ List.replicate (popd st x).length 79 ++ [73] = sgTo zs (i + 1) ∧ belw st x ++ [x] = (swTo zs (i + 1)).2

theorem in_start {zs : List Int} {i : Nat} (hi : i < zs.length) : In zs i (zs.getD i 0) (swTo zs i).2 (sgTo zs i) := by
  obtain ⟨o, s, hr⟩ : ∃ o s, swTo zs i = (o, s) := ⟨_, _, rfl⟩
  refine ⟨rfl, ?_⟩
  rw [sw_next hi hr, hr]

theorem in_pop {zs : List Int} {i : Nat} {x p : Int} {la : List Int} {acc : List UInt8} (h : In zs i x (la ++ [p]) acc) (hp : p < x) : In zs i x la (acc ++ [79]) := by
  obtain ⟨h1, h2⟩ := h
  rw [popd_less hp] at h1
  rw [belw_less hp] at h2
  refine ⟨?_, h2⟩
  rw [← h1]
  simp [List.replicate_succ]

theorem in_end {zs : List Int} {i : Nat} {x : Int} {st : List Int} {acc : List UInt8} (h : In zs i x st acc) (hp : st.getLast?.all (fun p => decide (¬ p < x))) : acc ++ [73] = sgTo zs (i + 1) ∧ st ++ [x] = (swTo zs (i + 1)).2 := by
  obtain ⟨h1, h2⟩ := h
  rcases List.eq_nil_or_concat st with rfl | ⟨la, p, rfl⟩
  · rw [popd_nil] at h1
    rw [belw_nil] at h2
    exact ⟨by simpa using h1, h2⟩
  · rw [List.concat_eq_append] at *
    have : ¬ p < x := by simpa using hp
    rw [popd_not this] at h1
    rw [belw_not this] at h2
    exact ⟨by simpa using h1, h2⟩

theorem in_len {zs : List Int} {i : Nat} {x : Int} {st : List Int} {acc : List UInt8} (h : In zs i x st acc) (hi : i < zs.length) (h7 : zs.length ≤ 7) : acc.length ≤ 13 := by
  have h1 := congrArg List.length h.1
  have h2 := sg_len zs (i + 1) hi
  simp at h1
  omega

theorem in_len2 {zs : List Int} {i : Nat} {x : Int} {st : List Int} (h : st ++ [x] = (swTo zs (i + 1)).2) (hi : i < zs.length) (h7 : zs.length ≤ 7) : st.length ≤ 6 := by
  have h1 := congrArg List.length h
  have h2 := sg_len zs (i + 1) hi
  simp at h1
  omega

set_option maxRecDepth 100000 in
set_option maxHeartbeats 4000000 in
theorem l4SweepWord_any (zs : List Int) (hord : Ord zs) (W : World) (v : Value) (n : Nat) (hv : Sees W v n (vals zs)) :
    Calls Try.prog 189 #[v] W fun e w' => e = .returned (.string (txt (swWord zs))) ∧ Below W.heap.size W w' := by
  obtain ⟨i0, hi, hz0, hz1, hz2⟩ := info_parts infoI
  have hl : zs.length = n := by simpa using hv.1
  have hn1 : 1 ≤ n := by have := hord.1; omega
  have hn7 : n ≤ 7 := by have := hord.2.1; omega
  obtain ⟨b, o, cap, rfl, _, _, hbl, hcell⟩ := sees_cells hv (by omega)
  have HC := Go.Lib.hid hcell
  obtain ⟨R, hR⟩ : ∃ R, swWord zs = R := ⟨_, rfl⟩
  rw [hR]
  have HRR := Go.Lib.hid hR
  clear hv hcell hR
  go_enter Try.func189, Try.ntmps189
  go_wp2
  have ho0 := World.ownsRow_made (base := W.heap.size) (e := 3) (size := 1) W #[] 0 (Nat.le_refl _) (by unfold maxLen; omega) rfl
  have hb0 : Below W.heap.size W (W.alloc (.cells #[] 3)) := (Below.refl _ _).alloc (Nat.le_refl _) _
  go_loopw [3, 4, 5] (fun wv sv iv wr => ∃ (i ns g c : Nat) (st : List Int) (acc : List UInt8) (s : ByteArray), iv = .int .i64 i ∧ wv = .string s ∧ sv = .slice (some ⟨g, 0, none⟩) ns c ∧ i ≤ n ∧ ns ≤ 7 ∧ s.size ≤ 14 ∧ st.length = ns ∧ Hid (s = txt acc) ∧ wr.ownsRow W.heap.size 3 1 (.slice (some ⟨g, 0, none⟩) ns c) ns (vals st) ∧ Below W.heap.size W wr ∧ Hid (acc = sgTo zs i ∧ st = (swTo zs i).2)) (fun _ _ i _ => n - (intOf i).toNat)
  case atStart => exact ⟨0, 0, W.heap.size, 0, [], [], ByteArray.empty, rfl, rfl, rfl, Nat.zero_le _, by omega, by decide, rfl, Go.Lib.hid rfl, by simpa using ho0, hb0, Go.Lib.hid ⟨rfl, rfl⟩⟩
  case round =>
    obtain ⟨i, ns, g, c, st, acc, s, rfl, rfl, rfl, hin, hns7, hs14, hst, HS, hown, hb, HM⟩ := hrel
    clear ho0 hb0
    by_cases hlt : i < n
    · obtain ⟨x, hx⟩ : ∃ x, zs.getD i 0 = x := ⟨_, rfl⟩
      have hxi := HC.out i (by omega)
      rw [hx] at hxi
      have HI0 : Hid (In zs i x st acc) := Go.Lib.hid (by have := in_start (zs := zs) (i := i) (by omega); rw [HM.out.1, HM.out.2, ← hx]; exact this)
      have HHX := Go.Lib.hid hx
      have hlti : (i : Int) < (n : Int) := by omega
      clear hx
      go_wp2_with fail
      go_loopw [3, 4] (fun wv sv w2 => ∃ (ns g c : Nat) (st : List Int) (acc : List UInt8) (s : ByteArray), wv = .string s ∧ sv = .slice (some ⟨g, 0, none⟩) ns c ∧ ns ≤ 7 ∧ s.size ≤ 14 ∧ st.length = ns ∧ Hid (s = txt acc) ∧ w2.ownsRow W.heap.size 3 1 (.slice (some ⟨g, 0, none⟩) ns c) ns (vals st) ∧ Below W.heap.size W w2 ∧ Hid (In zs i x st acc)) (fun _ sv _ => lenV sv)
      case atStart => exact ⟨ns, g, c, st, acc, s, rfl, rfl, hns7, hs14, hst, HS, hown, hb, HI0⟩
      case round =>
        clear hown hb HI0 HS hst hs14 hns7 HM
        obtain ⟨ns, g, c, st, acc, s, rfl, rfl, hns7, hs14, hst, HS, hown, hb, HI⟩ := hrel
        have hla := in_len HI.out (by omega) (by omega)
        have hs13 : s.size ≤ 13 := by rw [HS.out, txt_size]; exact hla
        have hti2 : wr.cell? ⟨b, o + i, none⟩ = some (.int .i64 x) := (hb.cell (p := ⟨b, o + i, none⟩) hbl).trans hxi
        have HTI := Go.Lib.hid hxi
        clear hxi hla
        have HS1 : Hid (s ++ ({ data := #[73] } : ByteArray) = txt (acc ++ [73])) := Go.Lib.hid (by rw [HS.out]; exact txt_append _ [73])
        have HSL := Go.Lib.hid hst
        by_cases hn0 : ns = 0
        · have hst0 : st = [] := List.eq_nil_of_length_eq_zero (by omega)
          have HN : Hid (acc ++ [73] = sgTo zs (i + 1) ∧ st ++ [x] = (swTo zs (i + 1)).2) := Go.Lib.hid (in_end HI.out (by rw [hst0]; rfl))
          have hns6 : ns ≤ 6 := by omega
          subst hn0
          clear hst0 hst
          go_wp2_with fail
          go_quiet (fail)
          have hownq := own_drewN (q := nq) hown
          have hbq := ExactC.below_drewN (q := nq) hb
          have hckq : (wr.drewN nq).cell? ⟨b, o + i, none⟩ = some (.int .i64 x) := hti2
          obtain ⟨wq, hwq⟩ : ∃ wq, wr.drewN nq = wq := ⟨_, rfl⟩
          rw [hwq] at hownq hbq hckq ⊢
          clear hwq hown hb hti2
          go_wp2_with (at_builtin; refine wpList_append_own _ rfl _ _ 29 rfl W.heap.size 3 i0 (.int .i64 0) 1 8 Try.underlying29 hi hz0 hz1 hz2 rfl (by decide) (.slice (some ⟨g, 0, none⟩) 0 c) 0 (vals st) rfl (hownq.alloc _) ⟨wq.heap.size, 0, none⟩ 1 1 [.int .i64 x] rfl rfl (cell_one_new _ _ _) (fun x hx => by simp at hx; subst hx; rfl) (by unfold maxLen; omega) (by omega) (by have := hbq.size; simp; omega) ?_; intro v' w3 hown' hgrow3 hnil3)
          obtain ⟨g', cap', rfl⟩ := ownsRow_succ hown'
          have e1 : vals st ++ [Value.int .i64 x] = vals (st ++ [x]) := by simp
          rw [e1] at hown'
          have hb' : Below W.heap.size W w3 := (hbq.alloc hbq.size _).grown hgrow3 (by have := hbq.size; simp; omega) (fun q hq => (hownq.lt q hq).1)
          have H3 := Go.Lib.hid (And.intro hown' hb')
          clear hown' hgrow3 hnil3 hownq hbq hb' e1
          go_wp2
          go_roundw
          case rel => exact ⟨i + 1, 0 + 1, g', cap', st ++ [x], acc ++ [73], s ++ ({ data := #[73] } : ByteArray), by go_num, rfl, rfl, by omega, by omega, by rw [ByteArray.size_append]; exact Nat.add_le_add hs13 (Nat.le_refl 1), by rw [List.length_append, HSL.out]; rfl, HS1, H3.out.1, H3.out.2, HN⟩
          case measure => simp [intOf]; omega
        · obtain ⟨la, p, hlap, hlast, hdrop⟩ := split_last (l := st) (by omega)
          obtain ⟨m, rfl⟩ : ∃ m, ns = m + 1 := ⟨ns - 1, by omega⟩
          have hlam : la.length = m := by rw [hlap] at hst; simp at hst; omega
          have hckp : wr.cell? ⟨g, m, none⟩ = some (.int .i64 p) := by
            rw [hown.cellAt m (by omega), hlap]
            simp [← hlam]
          have hm7 : m ≤ 6 := by omega
          have q1 : IntKind.i64.wrap ((m : Int) + 1 - 1) = (m : Int) := by rw [IntWalk.i64_in _ (by omega)]; omega
          by_cases hpx : p < x
          · have HN : Hid (In zs i x la (acc ++ [79])) := Go.Lib.hid (by have := HI.out; rw [hlap] at this; exact in_pop this hpx)
            have hpd : decide (p < x) = true := decide_eq_true hpx
            have hpop : wr.ownsRow W.heap.size 3 1 (.slice (some ⟨g, 0, none⟩) m c) m (vals la) := ownsRow_pop (last := [.int .i64 p]) (by simp [hlam]) (by rw [hlap] at hown; simpa using hown)
            have hmc : m + 1 ≤ c := by
              rcases hown.2 with ⟨h0, _⟩ | ⟨g', cap', cur, h0, _, _, h1, _⟩
              · cases h0
              · cases h0; exact h1
            have HS2 : Hid (s ++ ({ data := #[79] } : ByteArray) = txt (acc ++ [79])) := Go.Lib.hid (by rw [HS.out]; exact txt_append _ [79])
            have HLA := Go.Lib.hid hlam
            have H3 := Go.Lib.hid (And.intro hpop hb)
            clear hst hlap hlast hdrop hpop hown hb hlam hn0
            go_wp2_with fail
            go_quiet (fail)
            have hw4 := own_drewN (q := nq) H3.out.1
            have hw5 := ExactC.below_drewN (q := nq) H3.out.2
            have H4 := Go.Lib.hid (And.intro hw4 hw5)
            clear hw4 hw5
            go_wp2
            go_roundw
            case rel => exact ⟨m, g, c, la, acc ++ [79], s ++ ({ data := #[79] } : ByteArray), rfl, rfl, by omega, by rw [ByteArray.size_append]; exact Nat.add_le_add hs13 (Nat.le_refl 1), HLA.out, HS2, H4.out.1, H4.out.2, HN⟩
            case measure => simp [lenV]
          · have hpd : decide (p < x) = false := decide_eq_false hpx
            have HN : Hid (acc ++ [73] = sgTo zs (i + 1) ∧ st ++ [x] = (swTo zs (i + 1)).2) := Go.Lib.hid (in_end HI.out (by rw [hlap]; simp; omega))
            have hns6 : m + 1 ≤ 6 := by have := in_len2 HN.out.2 (by omega) (by omega); omega
            clear hst hlap hlast hdrop hlam hn0
            go_wp2_with fail
            go_quiet (fail)
            have hownq := own_drewN (q := nq) hown
            have hbq := ExactC.below_drewN (q := nq) hb
            have hckq : (wr.drewN nq).cell? ⟨b, o + i, none⟩ = some (.int .i64 x) := hti2
            obtain ⟨wq, hwq⟩ : ∃ wq, wr.drewN nq = wq := ⟨_, rfl⟩
            rw [hwq] at hownq hbq hckq ⊢
            clear hwq hown hb hti2 hckp
            go_wp2_with (at_builtin; refine wpList_append_own _ rfl _ _ 29 rfl W.heap.size 3 i0 (.int .i64 0) 1 8 Try.underlying29 hi hz0 hz1 hz2 rfl (by decide) (.slice (some ⟨g, 0, none⟩) (m + 1) c) (m + 1) (vals st) rfl (hownq.alloc _) ⟨wq.heap.size, 0, none⟩ 1 1 [.int .i64 x] rfl rfl (cell_one_new _ _ _) (fun x hx => by simp at hx; subst hx; rfl) (by unfold maxLen; omega) (by omega) (by have := hbq.size; simp; omega) ?_; intro v' w3 hown' hgrow3 hnil3)
            obtain ⟨g', cap', rfl⟩ := ownsRow_succ hown'
            have e1 : vals st ++ [Value.int .i64 x] = vals (st ++ [x]) := by simp
            rw [e1] at hown'
            have hb' : Below W.heap.size W w3 := (hbq.alloc hbq.size _).grown hgrow3 (by have := hbq.size; simp; omega) (fun q hq => (hownq.lt q hq).1)
            have H3 := Go.Lib.hid (And.intro hown' hb')
            clear hown' hgrow3 hnil3 hownq hbq hb' e1
            go_wp2
            go_roundw
            case rel => exact ⟨i + 1, (m + 1) + 1, g', cap', st ++ [x], acc ++ [73], s ++ ({ data := #[73] } : ByteArray), by go_num, rfl, rfl, by omega, by omega, by rw [ByteArray.size_append]; exact Nat.add_le_add hs13 (Nat.le_refl 1), by rw [List.length_append, HSL.out]; rfl, HS1, H3.out.1, H3.out.2, HN⟩
            case measure => simp [intOf]; omega
    · have hkn : i = n := by omega
      subst hkn
      have HB := Go.Lib.hid hb
      have HE : Hid (acc ++ List.replicate ns 79 = R ∧ acc.length + ns = 14 ∨ acc ++ List.replicate ns 79 = R ∧ acc.length + ns ≤ 14) := Go.Lib.hid (by
        right
        have h1 := HM.out
        have h2 := sg_len zs i (by omega)
        refine ⟨?_, ?_⟩
        · rw [← HRR.out, ← hst, h1.1, h1.2]; unfold swWord; rw [hl]
        · rw [← hst, h1.1, h1.2]; omega)
      have hle : acc.length + ns ≤ 14 := by rcases HE.out with h | h <;> omega
      have HE2 : Hid (acc ++ List.replicate ns 79 = R) := Go.Lib.hid (by rcases HE.out with h | h <;> exact h.1)
      have hsz : s.size + ns ≤ 14 := by rw [HS.out, txt_size]; exact hle
      clear hown hb HE hle hst
      go_wp2_with fail
      go_loopw [3, 6] (fun wv jv w2 => ∃ (j : Nat) (t : ByteArray), jv = .int .i64 j ∧ wv = .string t ∧ j ≤ ns ∧ Hid (t.size = s.size + j) ∧ Hid (w2 = wr) ∧ Hid (t = txt (acc ++ List.replicate j 79))) (fun _ j _ => ns - (intOf j).toNat)
      case atStart => exact ⟨0, s, rfl, rfl, Nat.zero_le _, Go.Lib.hid rfl, Go.Lib.hid rfl, Go.Lib.hid (by rw [HS.out]; simp)⟩
      case round =>
        obtain ⟨j, t, rfl, rfl, hj, HTS, HW2, HT⟩ := hrel
        have ht := HTS.out
        have hw2 := HW2.out
        subst hw2
        by_cases hjn : j < ns
        · have hji : (j : Int) < (ns : Int) := by omega
          have ht13 : t.size ≤ 13 := by omega
          have HT2 : Hid (t ++ ({ data := #[79] } : ByteArray) = txt (acc ++ List.replicate (j + 1) 79)) := Go.Lib.hid (by
            rw [HT.out, List.replicate_succ', ← List.append_assoc]; exact txt_append _ [79])
          have HSZ : Hid ((t ++ ({ data := #[79] } : ByteArray)).size = s.size + (j + 1)) := Go.Lib.hid (by rw [ByteArray.size_append, ht]; rfl)
          go_wp2
          go_roundw
          case rel => exact ⟨j + 1, _, by go_num, rfl, by omega, HSZ, Go.Lib.hid (by first | rfl | trivial), HT2⟩
          case measure => simp [intOf]; omega
        · have hjn2 : j = ns := by omega
          subst hjn2
          have HT3 : Hid (t = txt R) := Go.Lib.hid (by rw [HT.out, HE2.out])
          go_wp2
          go_ret
          exact ⟨by rw [HT3.out]; rfl, HB.out⟩

set_option maxHeartbeats 1000000 in
set_option maxRecDepth 100000 in
theorem l4Sweep_any (zs : List Int) (hord : Ord zs) (W : World) (v : Value) (n : Nat) (hv : Sees W v n (vals zs)) :
    Calls Try.prog 158 #[v] W fun e w' => ∃ u, e = .returned u ∧ w'.ownsRow W.heap.size 3 1 u (sweepL zs).length (vals (sweepL zs)) ∧ Below W.heap.size W w' := by
  have HV := Go.Lib.hid hv
  have CW := Go.Lib.hid (fun W' (h : Sees W' v n (vals zs)) => l4SweepWord_any zs hord W' v n h)
  have hsw := sweep_word hord.1 hord.2.1
  have CR := Go.Lib.hid (fun W' (h : Sees W' v n (vals zs)) => l2Run_any zs (txt (swWord zs)) hord hsw.1 hsw.2.1 W' v n h)
  have HSW := Go.Lib.hid hsw.2.2
  obtain ⟨R, hR⟩ : ∃ R, txt (swWord zs) = R := ⟨_, rfl⟩
  rw [hR] at CW CR HSW
  clear hR hsw
  obtain ⟨_, ad, cap, rfl, _, _⟩ := hv
  go_enter Try.func158, Try.ntmps158
  go_wp2_with fail
  refine (CW.out _ HV.out).mono ?_
  rintro e w1 ⟨rfl, hb⟩
  have H1 := Go.Lib.hid hb
  clear hb
  go_wp2_with fail
  refine (CR.out _ (HV.out.grow H1.out)).mono ?_
  rintro e w2 ⟨u, rfl, ho, hb⟩
  have H2 := Go.Lib.hid (And.intro (own_lower ho H1.out.size) (H1.out.trans (hb.mono H1.out.size)))
  clear ho hb
  go_wp2_with fail
  go_ret
  exact ⟨_, rfl, by rw [← HSW.out]; exact H2.out.1, H2.out.2⟩

end Go.Proofs.Ytecbfoodkcgehab.SweepWC
