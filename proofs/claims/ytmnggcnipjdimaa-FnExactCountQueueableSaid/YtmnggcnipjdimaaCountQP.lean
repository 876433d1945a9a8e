/-
  Contracts: CountQueueable of the model and of the program. Conditions: none.
-/
import Derived.Test.YtmnggcnipjdimaaCountQ
import Derived.Test.YtmnggcnipjdimaaOrdsSp
namespace Go.Proofs.Ytmnggcnipjdimaa.CountQPC
open Go.RowKit SeesC IntsC ExactC OrdMath InC OrderC ListsC ListsEC ListsFC LLC RagMarkC RagResC AvMath AllO QueM QueSC CountQC OrdsSpC

def countQAns (n k : Int) : Int × Bool := if 1 ≤ n ∧ n ≤ 7 ∧ 1 ≤ k ∧ k ≤ 4 then ((((allOrd n.toNat).filter (few k.toNat)).length : Nat), true) else (0, false)

set_option maxRecDepth 100000 in
theorem l3Size2_any (n : Int) (w : World) (r : Bool) (h : decide (1 ≤ n ∧ n ≤ 7) = r) :
    Calls Try.prog 81 #[.int .i64 n] w fun e w' => e = .returned (.bool r) ∧ w' = w := by
  have C1 := Go.Lib.hid (l1In_any n 1 7 w r h)
  clear h
  go_enter Try.func81, Try.ntmps81
  go_wp2_with fail
  refine (C1.out).mono ?_
  rintro e _ ⟨rfl, rfl⟩
  go_wp2_with fail
  go_ret
  exact ⟨rfl, rfl⟩

set_option maxRecDepth 100000 in
set_option maxHeartbeats 4000000 in
theorem implCountQueueable (n k : Int) (r : Int) (b : Bool) (h : countQAns n k = (r, b)) (_h0 : (Lit.int .i64 n).wf = true) (_h1 : (Lit.int .i64 k).wf = true) (W : World) :
    Calls Try.prog 32 #[.int .i64 n, .int .i64 k] W fun e w' => e = .returned (.tuple #[.int .i64 r, .bool b]) ∧ Below W.heap.size W w' := by
  have hB0 : Below W.heap.size W (W.alloc (.cells #[.int .i64 k] 3)) := (Below.refl _ W).alloc (Nat.le_refl _) _
  by_cases hin : 1 ≤ n ∧ n ≤ 7 ∧ 1 ≤ k ∧ k ≤ 4
  · obtain ⟨m, rfl⟩ : ∃ m : Nat, n = (m : Int) := ⟨n.toNat, by omega⟩
    obtain ⟨q, rfl⟩ : ∃ q : Nat, k = (q : Int) := ⟨k.toNat, by omega⟩
    unfold countQAns at h
    rw [if_pos hin, Int.toNat_natCast, Int.toNat_natCast] at h
    cases h
    exact callsIn_wide.1 (implCountQ_in 3 (by omega) m (by omega) (by omega) q (by omega) (by omega) W)
  · unfold countQAns at h
    rw [if_neg hin] at h
    cases h
    by_cases h1 : n < 1
    · clear hin
      go_enter Try.func32, Try.ntmps32
      go_wp2
      go_ret2
      exact ⟨rfl, hB0⟩
    · by_cases h2 : 7 < n
      · clear hin
        go_enter Try.func32, Try.ntmps32
        go_wp2
        go_ret2
        exact ⟨rfl, hB0⟩
      · by_cases h3 : k < 1
        · clear hin
          go_enter Try.func32, Try.ntmps32
          go_wp2
          go_ret2
          exact ⟨rfl, hB0⟩
        · have h4 : 4 < k := by omega
          clear hin
          go_enter Try.func32, Try.ntmps32
          go_wp2
          go_ret2
          exact ⟨rfl, hB0⟩

theorem few_next {m k i : Nat} (hi : i < fact m) : (((allO m).take (i + 1)).filter (few k)).length = (((allO m).take i).filter (few k)).length + (if few k (atRun m (iota m) i) = true then 1 else 0) := by
  rw [allO_take hi, List.filter_append, List.length_append]
  by_cases h : few k (atRun m (iota m) i) = true
  · simp [h]
  · simp [h]

theorem allO_getD {m i : Nat} (hi : i < fact m) : (allO m).getD i [] = atRun m (iota m) i := by
  unfold allO
  simp [hi]

set_option maxRecDepth 100000 in
set_option maxHeartbeats 8000000 in
theorem specCountQueueable (n k : Int) (r : Int) (b : Bool) (h : countQAns n k = (r, b)) (_h0 : (Lit.int .i64 n).wf = true) (_h1 : (Lit.int .i64 k).wf = true) (W : World) :
    Calls Try.prog 33 #[.int .i64 n, .int .i64 k] W fun e w' => e = .returned (.tuple #[.int .i64 r, .bool b]) ∧ Below W.heap.size W w' := by
  obtain ⟨r1, hr1⟩ : ∃ r, decide (1 ≤ n ∧ n ≤ 7) = r := ⟨_, rfl⟩
  obtain ⟨r2, hr2⟩ : ∃ r, decide (1 ≤ k ∧ k ≤ 4) = r := ⟨_, rfl⟩
  have C1 := Go.Lib.hid (l3Size2_any n W r1 hr1)
  have C2 := Go.Lib.hid (l1In_any k 1 4 W r2 hr2)
  have HH := Go.Lib.hid (And.intro h (And.intro hr1 hr2))
  clear h hr1 hr2
  cases r1 with
  | false =>
    have h := HH.out.1
    unfold countQAns at h
    rw [if_neg (fun hh => (of_decide_eq_false HH.out.2.1) ⟨hh.1, hh.2.1⟩)] at h
    cases h
    go_enter Try.func33, Try.ntmps33
    go_wp2_with fail
    refine (C1.out).mono ?_
    rintro e _ ⟨rfl, rfl⟩
    go_wp2_with fail
    go_ret2
    exact ⟨rfl, Below.refl _ _⟩
  | true =>
    cases r2 with
    | false =>
      have h := HH.out.1
      unfold countQAns at h
      rw [if_neg (fun hh => (of_decide_eq_false HH.out.2.2) ⟨hh.2.2.1, hh.2.2.2⟩)] at h
      cases h
      go_enter Try.func33, Try.ntmps33
      go_wp2_with fail
      refine (C1.out).mono ?_
      rintro e _ ⟨rfl, rfl⟩
      go_wp2_with fail
      refine (C2.out).mono ?_
      rintro e _ ⟨rfl, rfl⟩
      go_wp2_with fail
      go_ret2
      exact ⟨rfl, Below.refl _ _⟩
    | true =>
      have h17 := of_decide_eq_true HH.out.2.1
      have h14 := of_decide_eq_true HH.out.2.2
      obtain ⟨m, rfl⟩ : ∃ m : Nat, n = (m : Int) := ⟨n.toNat, by omega⟩
      obtain ⟨q, rfl⟩ : ∃ q : Nat, k = (q : Int) := ⟨k.toNat, by omega⟩
      have h := HH.out.1
      unfold countQAns at h
      rw [if_pos ⟨h17.1, h17.2, h14⟩, Int.toNat_natCast, Int.toNat_natCast] at h
      cases h
      have hm1 : 1 ≤ m := by omega
      have hm7 : m ≤ 7 := by omega
      have hq4 : q ≤ 4 := by omega
      have CO := Go.Lib.hid (l2Orders_any m hm1 hm7 W)
      obtain ⟨F, hF⟩ : ∃ F, fact m = F := ⟨_, rfl⟩
      have hF5 : F ≤ 5040 := by rw [← hF]; exact fact_7 hm7
      have HF := Go.Lib.hid (And.intro hF (allO_len m))
      obtain ⟨R, hR⟩ : ∃ R, ((allOrd m).filter (few q)).length = R := ⟨_, rfl⟩
      have HR : Hid (((allO m).filter (few q)).length = R) := Go.Lib.hid hR
      rw [hR]
      clear hR hF HH h17 h14
      go_enter Try.func33, Try.ntmps33
      go_wp2_with fail
      refine (C1.out).mono ?_
      rintro e _ ⟨rfl, rfl⟩
      go_wp2_with fail
      refine (C2.out).mono ?_
      rintro e _ ⟨rfl, rfl⟩
      go_wp2_with fail
      refine (CO.out).mono ?_
      rintro e w2 ⟨v2, rfl, hl2, hb2⟩
      obtain ⟨gs, hg, hog, hin, _, _⟩ := hl2
      rw [List.length_map, HF.out.2, HF.out.1] at hg hog hin
      obtain ⟨g, c, rfl⟩ := own_pos hog (by have := HF.out.1; have := fact_pos m; omega)
      have H2 := Go.Lib.hid (And.intro hg (And.intro hog (And.intro hin hb2)))
      clear hg hog hin hb2
      go_wp2_with fail
      go_loopw [6, 8] (fun mv iv wr => ∃ (i t : Nat), i ≤ F ∧ t ≤ i ∧ iv = .int .i64 i ∧ mv = .int .i64 t ∧ Hid (t = (((allO m).take i).filter (few q)).length ∧ Below w2.heap.size w2 wr)) (fun _ i _ => F - (intOf i).toNat)
      case atStart => exact ⟨0, 0, Nat.zero_le _, Nat.le_refl _, rfl, rfl, Go.Lib.hid ⟨by simp, Below.refl _ _⟩⟩
      case round =>
        obtain ⟨i, t, hiF, hti, rfl, rfl, HX⟩ := hrel
        by_cases hlt : i < F
        · have hif : i < fact m := by rw [HF.out.1]; exact hlt
          obtain ⟨p, hp⟩ : ∃ p, gs.getD i (0, 0) = p := ⟨_, rfl⟩
          obtain ⟨zs, hzs⟩ : ∃ zs, atRun m (iota m) i = zs := ⟨_, rfl⟩
          have hmem : zs ∈ allO m := by rw [← hzs, ← allO_getD hif]; have : i < (allO m).length := by rw [HF.out.2]; exact hif
                                        simp [this]
          have hord := (mem_allO hm1 hm7).1 hmem
          have hrow := H2.out.2.2.1 i hlt
          have hgd : ((allO m).map vals).getD i [] = vals zs := by
            have hh : i < (allO m).length := by rw [HF.out.2]; exact hif
            rw [← hzs, ← allO_getD hif]; simp [hh]
          rw [hp, hgd] at hrow
          have hck : w2.cell? ⟨g, i, none⟩ = some (.slice (some ⟨p.1, 0, none⟩) m p.2) := by
            rw [H2.out.2.1.cellAt i (by omega), ← hp]
            simp [show i < gs.length by have := H2.out.1; omega, sl]
          have hgl := (H2.out.2.1.lt g rfl).2
          have hckr := (HX.out.2.cell (p := ⟨g, i, none⟩) hgl).trans hck
          obtain ⟨p1, p2⟩ := p
          unfold sl at hrow
          simp only at hckr hrow
          have hsee := Sees.owns (kept_call hrow HX.out.2)
          have CQ := Go.Lib.hid (l5Queues_any zs hord.1 wr _ m hsee)
          obtain ⟨o1, ho1⟩ : ∃ o1, decide ((qTo zs m).length ≤ q) = o1 := ⟨_, rfl⟩
          obtain ⟨Q, hQ⟩ : ∃ Q, qTo zs m = Q := ⟨_, rfl⟩
          have hQ7 : Q.length ≤ 7 := by rw [← hQ]; have := (qTo_ok zs m).1; omega
          have hnx := few_next (k := q) hif
          rw [hzs] at hnx
          unfold few at hnx
          rw [hord.2, ho1] at hnx
          rw [hQ] at CQ ho1
          have HN : Hid ((((allO m).take (i + 1)).filter (few q)).length = t + (if o1 = true then 1 else 0)) := Go.Lib.hid (by rw [HX.out.1]; exact hnx)
          have hlti : (i : Int) < (F : Int) := by omega
          clear hif hp hzs hmem hord hrow hgd hck hgl hsee hnx hQ
          go_wp2_with fail
          refine (CQ.out).mono ?_
          rintro e w4 ⟨a4, c4, rfl, _, hb4⟩
          have HB4 := Go.Lib.hid (HX.out.2.trans (hb4.mono HX.out.2.size))
          clear hb4 CQ
          cases o1 with
          | true =>
            have hle := of_decide_eq_true ho1
            have hNe : Hid (t + 1 = (((allO m).take (i + 1)).filter (few q)).length) := Go.Lib.hid (by rw [HN.out]; rfl)
            obtain ⟨lq, hlq⟩ : ∃ lq, Q.length = lq := ⟨_, rfl⟩
            rw [hlq] at hle hQ7
            rw [hlq]
            clear ho1 hlq
            have hld : decide (lq ≤ q) = true := decide_eq_true hle
            go_wp2
            go_roundw
            case rel => exact ⟨i + 1, t + 1, by omega, by omega, by go_num, by go_num, Go.Lib.hid ⟨hNe.out, HB4.out⟩⟩
            case measure => simp [intOf]; omega
          | false =>
            have hle := of_decide_eq_false ho1
            have hNe : Hid (t = (((allO m).take (i + 1)).filter (few q)).length) := Go.Lib.hid (by rw [HN.out]; rfl)
            obtain ⟨lq, hlq⟩ : ∃ lq, Q.length = lq := ⟨_, rfl⟩
            rw [hlq] at hle hQ7
            rw [hlq]
            clear ho1 hlq
            have hld : decide (lq ≤ q) = false := decide_eq_false hle
            go_wp2
            go_roundw
            case rel => exact ⟨i + 1, t, by omega, by omega, by go_num, rfl, Go.Lib.hid ⟨hNe.out, HB4.out⟩⟩
            case measure => simp [intOf]; omega
        · obtain rfl : i = F := by omega
          obtain rfl : t = R := by
            rw [HX.out.1, List.take_of_length_le (by rw [HF.out.2, HF.out.1]; exact Nat.le_refl _)]
            exact HR.out
          have HBW := Go.Lib.hid (H2.out.2.2.2.trans (HX.out.2.mono H2.out.2.2.2.size))
          go_wp2
          go_ret2
          exact ⟨rfl, HBW.out⟩

end Go.Proofs.Ytmnggcnipjdimaa.CountQPC
