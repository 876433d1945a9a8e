/-
  Contracts and plain facts that the laws' texts lean on. Conditions: as each states.
-/
import Derived.Test.YtnhhnffolmgceaaPl31
import Derived.Test.YtnhhnffolmgceaaPl32

namespace Go.Proofs.Ytnhhnffolmgceaa.LimWSC
open Go.RowKit SeesC IntsC ExactC NumC IterC OrdMath WordMath OrdFacts InC OrderC WordC RunC AtC EndsM SweepM StackM LimW LimM

/-- What the inner loop keeps: the signs and the stack of the next number. -/
def InD (d : Nat) (zs : List Int) (i : Nat) (x : Int) (st : List Int) (acc : List UInt8) : Prop :=
  acc ++ List.replicate (pop d st x).length 79 ++ [73] = lsgTo d zs (i + 1) ∧ kept d st x ++ [x] = (llTo d zs (i + 1)).2 ∧ Desc st ∧ st.length ≤ d

theorem in_start {d : Nat} (hd : 1 ≤ d) {zs : List Int} {i : Nat} (hi : i < zs.length) : InD d zs i (zs.getD i 0) (llTo d zs i).2 (lsgTo d zs i) := by
  obtain ⟨o, s, hr⟩ : ∃ o s, llTo d zs i = (o, s) := ⟨_, _, rfl⟩
  have h := ll_desc d zs i (by omega)
  refine ⟨rfl, ?_, h.1, by have := h.2; omega⟩
  rw [ll_next hi hr, hr]

theorem in_pop {d : Nat} (hd : 1 ≤ d) {zs : List Int} {i : Nat} {x p : Int} {la : List Int} {acc : List UInt8} (h : InD d zs i x (la ++ [p]) acc) (hp : p < x ∨ la.length + 1 = d) : InD d zs i x la (acc ++ [79]) := by
  obtain ⟨h1, h2, h3, h4⟩ := h
  have hl : la.length + 1 ≤ d := by simpa using h4
  obtain ⟨k1, k2⟩ := pop_one h3 hd hl hp
  rw [k2] at h1
  rw [k1] at h2
  refine ⟨?_, h2, (List.pairwise_append.1 h3).1, by omega⟩
  rw [← h1]
  simp [List.replicate_succ]

theorem in_end {d : Nat} {zs : List Int} {i : Nat} {x : Int} {st : List Int} {acc : List UInt8} (h : InD d zs i x st acc) (hl : st.length < d) (hp : st.getLast?.all (fun p => decide (¬ p < x))) : acc ++ [73] = lsgTo d zs (i + 1) ∧ st ++ [x] = (llTo d zs (i + 1)).2 := by
  obtain ⟨h1, h2, _, _⟩ := h
  obtain ⟨k1, k2⟩ := pop_none hl hp
  rw [k2] at h1
  rw [k1] at h2
  exact ⟨by simpa using h1, h2⟩

theorem in_len {d : Nat} {zs : List Int} {i : Nat} {x : Int} {st : List Int} {acc : List UInt8} (h : InD d zs i x st acc) (hi : i < zs.length) (h7 : zs.length ≤ 7) : acc.length ≤ 13 := by
  have h1 := congrArg List.length h.1
  have h2 := lsg_len d zs (i + 1) hi
  simp at h1
  omega

theorem in_len2 {d : Nat} {zs : List Int} {i : Nat} {x : Int} {st : List Int} (h : st ++ [x] = (llTo d zs (i + 1)).2) (hi : i < zs.length) (h7 : zs.length ≤ 7) : st.length ≤ 6 := by
  have h1 := congrArg List.length h
  have h2 := lsg_len d zs (i + 1) hi
  simp at h1
  omega

set_option maxRecDepth 100000 in
set_option maxHeartbeats 4000000 in
theorem l10Word_any (zs : List Int) (K : Nat) (hK1 : 1 ≤ K) (_hK7 : K ≤ 7) (hord : Ord zs) (W : World) (v : Value) (n : Nat) (hv : Sees W v n (vals zs)) :
    Calls Try.prog 91 #[v, .int .i64 (K : Int)] W fun e w' => e = .returned (.string (txt (lsWord K zs))) ∧ Below W.heap.size W w' := by
  obtain ⟨i0, hi, hz0, hz1, hz2⟩ := info_parts infoI
  have hl : zs.length = n := by simpa using hv.1
  have hn1 : 1 ≤ n := by have := hord.1; omega
  have hn7 : n ≤ 7 := by have := hord.2.1; omega
  obtain ⟨b, o, cap, rfl, _, _, hbl, hcell⟩ := sees_cells hv (by omega)
  have HC := Go.Lib.hid hcell
  obtain ⟨R, hR⟩ : ∃ R, lsWord K zs = R := ⟨_, rfl⟩
  rw [hR]
  have HRR := Go.Lib.hid hR
  clear hv hcell hR
  go_enter Try.func91, Try.ntmps91
  go_wp2
  have ho0 := World.ownsRow_made (base := W.heap.size) (e := 3) (size := 1) W #[] 0 (Nat.le_refl _) (by unfold maxLen; omega) rfl
  have hb0 : Below W.heap.size W (W.alloc (.cells #[] 3)) := (Below.refl _ _).alloc (Nat.le_refl _) _
  go_loopw [5, 6, 7] (fun wv sv iv wr => ∃ (i ns g c : Nat) (st : List Int) (acc : List UInt8) (s : ByteArray), iv = .int .i64 i ∧ wv = .string s ∧ sv = .slice (some ⟨g, 0, none⟩) ns c ∧ i ≤ n ∧ ns ≤ 7 ∧ s.size ≤ 14 ∧ st.length = ns ∧ Hid (s = txt acc) ∧ wr.ownsRow W.heap.size 3 1 (.slice (some ⟨g, 0, none⟩) ns c) ns (vals st) ∧ Below W.heap.size W wr ∧ Hid (acc = lsgTo K zs i ∧ st = (llTo K zs i).2)) (fun _ _ i _ => n - (intOf i).toNat)
  case atStart => exact ⟨0, 0, W.heap.size, 0, [], [], ByteArray.empty, rfl, rfl, rfl, Nat.zero_le _, by omega, by decide, rfl, Go.Lib.hid rfl, by simpa using ho0, hb0, Go.Lib.hid ⟨rfl, rfl⟩⟩
  case round =>
    obtain ⟨i, ns, g, c, st, acc, s, rfl, rfl, rfl, hin, hns7, hs14, hst, HS, hown, hb, HM⟩ := hrel
    clear ho0 hb0
    by_cases hlt : i < n
    · obtain ⟨x, hx⟩ : ∃ x, zs.getD i 0 = x := ⟨_, rfl⟩
      have hxi := HC.out i (by omega)
      rw [hx] at hxi
      have HI0 : Hid (InD K zs i x st acc) := Go.Lib.hid (by have := in_start (d := K) hK1 (zs := zs) (i := i) (by omega); rw [HM.out.1, HM.out.2, ← hx]; exact this)
      have HHX := Go.Lib.hid hx
      have hlti : (i : Int) < (n : Int) := by omega
      clear hx
      go_wp2_with fail
      go_loopw [5, 6] (fun wv sv w2 => ∃ (ns g c : Nat) (st : List Int) (acc : List UInt8) (s : ByteArray), wv = .string s ∧ sv = .slice (some ⟨g, 0, none⟩) ns c ∧ ns ≤ 7 ∧ s.size ≤ 14 ∧ st.length = ns ∧ Hid (s = txt acc) ∧ w2.ownsRow W.heap.size 3 1 (.slice (some ⟨g, 0, none⟩) ns c) ns (vals st) ∧ Below W.heap.size W w2 ∧ Hid (InD K zs i x st acc)) (fun _ sv _ => lenV sv)
      case atStart => exact ⟨ns, g, c, st, acc, s, rfl, rfl, hns7, hs14, hst, HS, hown, hb, HI0⟩
      case round =>
        clear hown hb HI0 HS hst hs14 hns7 HM
        obtain ⟨ns, g, c, st, acc, s, rfl, rfl, hns7, hs14, hst, HS, hown, hb, HI⟩ := hrel
        have hla := in_len HI.out (by omega) (by omega)
        have hs13 : s.size ≤ 13 := by rw [HS.out, txt_size]; exact hla
        have hti2 : wr.cell? ⟨b, o + i, none⟩ = some (.int .i64 x) := (hb.cell (p := ⟨b, o + i, none⟩) hbl).trans hxi
        have HTI := Go.Lib.hid hxi
        clear hxi hla
        have HS1 : Hid (s ++ ({ data := #[73] } : ByteArray) = txt (acc ++ [73])) := Go.Lib.hid (by rw [HS.out]; exact txt_append _ [73])
        have HSL := Go.Lib.hid hst
        by_cases hn0 : ns = 0
        · have hst0 : st = [] := List.eq_nil_of_length_eq_zero (by omega)
          have HN : Hid (acc ++ [73] = lsgTo K zs (i + 1) ∧ st ++ [x] = (llTo K zs (i + 1)).2) := Go.Lib.hid (in_end HI.out (by rw [hst0]; exact hK1) (by rw [hst0]; rfl))
          have hns6 : ns ≤ 6 := by omega
          subst hn0
          clear hst0 hst
          go_wp2_with fail
          go_quiet (fail)
          have hownq := own_drewN (q := nq) hown
          have hbq := ExactC.below_drewN (q := nq) hb
          have hckq : (wr.drewN nq).cell? ⟨b, o + i, none⟩ = some (.int .i64 x) := hti2
          obtain ⟨wq, hwq⟩ : ∃ wq, wr.drewN nq = wq := ⟨_, rfl⟩
          rw [hwq] at hownq hbq hckq ⊢
          clear hwq hown hb hti2
          go_wp2_with (at_builtin; refine wpList_append_own _ rfl _ _ 24 rfl W.heap.size 3 i0 (.int .i64 0) 1 8 Try.underlying24 hi hz0 hz1 hz2 rfl (by decide) (.slice (some ⟨g, 0, none⟩) 0 c) 0 (vals st) rfl (hownq.alloc _) ⟨wq.heap.size, 0, none⟩ 1 1 [.int .i64 x] rfl rfl (cell_one_new _ _ _) (fun x hx => by simp at hx; subst hx; rfl) (by unfold maxLen; omega) (by omega) (by have := hbq.size; simp; omega) ?_; intro v' w3 hown' hgrow3 hnil3)
          obtain ⟨g', cap', rfl⟩ := ownsRow_succ hown'
          have e1 : vals st ++ [Value.int .i64 x] = vals (st ++ [x]) := by simp
          rw [e1] at hown'
          have hb' : Below W.heap.size W w3 := (hbq.alloc hbq.size _).grown hgrow3 (by have := hbq.size; simp; omega) (fun q hq => (hownq.lt q hq).1)
          have H3 := Go.Lib.hid (And.intro hown' hb')
          clear hown' hgrow3 hnil3 hownq hbq hb' e1
          go_wp2
          go_roundw
          case rel => exact ⟨i + 1, 0 + 1, g', cap', st ++ [x], acc ++ [73], s ++ ({ data := #[73] } : ByteArray), by go_num, rfl, rfl, by omega, by omega, by rw [ByteArray.size_append]; exact Nat.add_le_add hs13 (Nat.le_refl 1), by rw [List.length_append, HSL.out]; rfl, HS1, H3.out.1, H3.out.2, HN⟩
          case measure => simp [intOf]; omega
        · obtain ⟨la, p, hlap, hlast, hdrop⟩ := split_last (l := st) (by omega)
          obtain ⟨m, rfl⟩ : ∃ m, ns = m + 1 := ⟨ns - 1, by omega⟩
          have hlam : la.length = m := by rw [hlap] at hst; simp at hst; omega
          have hckp : wr.cell? ⟨g, m, none⟩ = some (.int .i64 p) := by
            rw [hown.cellAt m (by omega), hlap]
            simp [← hlam]
          have hm7 : m ≤ 6 := by omega
          have q1 : IntKind.i64.wrap ((m : Int) + 1 - 1) = (m : Int) := by rw [IntWalk.i64_in _ (by omega)]; omega
          by_cases hpx : p < x
          · have HN : Hid (InD K zs i x la (acc ++ [79])) := Go.Lib.hid (by have := HI.out; rw [hlap] at this; exact in_pop hK1 this (.inl hpx))
            have hpd : decide (p < x) = true := decide_eq_true hpx
            have hpop : wr.ownsRow W.heap.size 3 1 (.slice (some ⟨g, 0, none⟩) m c) m (vals la) := ownsRow_pop (last := [.int .i64 p]) (by simp [hlam]) (by rw [hlap] at hown; simpa using hown)
            have hmc : m + 1 ≤ c := by
              rcases hown.2 with ⟨h0, _⟩ | ⟨g', cap', cur, h0, _, _, h1, _⟩
              · cases h0
              · cases h0; exact h1
            have HS2 : Hid (s ++ ({ data := #[79] } : ByteArray) = txt (acc ++ [79])) := Go.Lib.hid (by rw [HS.out]; exact txt_append _ [79])
            have HLA := Go.Lib.hid hlam
            have H3 := Go.Lib.hid (And.intro hpop hb)
            clear hst hlap hlast hdrop hpop hown hb hlam hn0
            go_wp2_with fail
            go_quiet (fail)
            have hw4 := own_drewN (q := nq) H3.out.1
            have hw5 := ExactC.below_drewN (q := nq) H3.out.2
            have H4 := Go.Lib.hid (And.intro hw4 hw5)
            clear hw4 hw5
            go_wp2
            go_roundw
            case rel => exact ⟨m, g, c, la, acc ++ [79], s ++ ({ data := #[79] } : ByteArray), rfl, rfl, by omega, by rw [ByteArray.size_append]; exact Nat.add_le_add hs13 (Nat.le_refl 1), HLA.out, HS2, H4.out.1, H4.out.2, HN⟩
            case measure => simp [lenV]
          · have hpd : decide (p < x) = false := decide_eq_false hpx
            by_cases hmk : m + 1 = K
            · have hmk2 : (((m : Int) + 1) == (K : Int)) = true := by rw [beq_iff_eq]; omega
              have HN : Hid (InD K zs i x la (acc ++ [79])) := Go.Lib.hid (by have := HI.out; rw [hlap] at this; exact in_pop hK1 this (.inr (by omega)))
              have hpop : wr.ownsRow W.heap.size 3 1 (.slice (some ⟨g, 0, none⟩) m c) m (vals la) := ownsRow_pop (last := [.int .i64 p]) (by simp [hlam]) (by rw [hlap] at hown; simpa using hown)
              have hmc : m + 1 ≤ c := by
                rcases hown.2 with ⟨h0, _⟩ | ⟨g', cap', cur, h0, _, _, h1, _⟩
                · cases h0
                · cases h0; exact h1
              have HS2 : Hid (s ++ ({ data := #[79] } : ByteArray) = txt (acc ++ [79])) := Go.Lib.hid (by rw [HS.out]; exact txt_append _ [79])
              have HLA := Go.Lib.hid hlam
              have H3 := Go.Lib.hid (And.intro hpop hb)
              clear hmk hst hlap hlast hdrop hpop hown hb hlam hn0
              go_wp2_with fail
              go_quiet (fail)
              have hw4 := own_drewN (q := nq) H3.out.1
              have hw5 := ExactC.below_drewN (q := nq) H3.out.2
              have H4 := Go.Lib.hid (And.intro hw4 hw5)
              clear hw4 hw5
              go_wp2
              go_roundw
              case rel => exact ⟨m, g, c, la, acc ++ [79], s ++ ({ data := #[79] } : ByteArray), rfl, rfl, by omega, by rw [ByteArray.size_append]; exact Nat.add_le_add hs13 (Nat.le_refl 1), HLA.out, HS2, H4.out.1, H4.out.2, HN⟩
              case measure => simp [lenV]
            · have hmk2 : (((m : Int) + 1) == (K : Int)) = false := by rw [beq_eq_false_iff_ne]; omega
              skip
              have HN : Hid (acc ++ [73] = lsgTo K zs (i + 1) ∧ st ++ [x] = (llTo K zs (i + 1)).2) := Go.Lib.hid (in_end HI.out (by have h9 := HI.out.2.2.2; have h8 := HSL.out; omega) (by rw [hlap]; simp; omega))
              have hns6 : m + 1 ≤ 6 := by have := in_len2 HN.out.2 (by omega) (by omega); omega
              clear hmk hst hlap hlast hdrop hlam hn0
              go_wp2_with fail
              go_quiet (fail)
              have hownq := own_drewN (q := nq) hown
              have hbq := ExactC.below_drewN (q := nq) hb
              have hckq : (wr.drewN nq).cell? ⟨b, o + i, none⟩ = some (.int .i64 x) := hti2
              obtain ⟨wq, hwq⟩ : ∃ wq, wr.drewN nq = wq := ⟨_, rfl⟩
              rw [hwq] at hownq hbq hckq ⊢
              clear hwq hown hb hti2 hckp
              go_wp2_with (at_builtin; refine wpList_append_own _ rfl _ _ 24 rfl W.heap.size 3 i0 (.int .i64 0) 1 8 Try.underlying24 hi hz0 hz1 hz2 rfl (by decide) (.slice (some ⟨g, 0, none⟩) (m + 1) c) (m + 1) (vals st) rfl (hownq.alloc _) ⟨wq.heap.size, 0, none⟩ 1 1 [.int .i64 x] rfl rfl (cell_one_new _ _ _) (fun x hx => by simp at hx; subst hx; rfl) (by unfold maxLen; omega) (by omega) (by have := hbq.size; simp; omega) ?_; intro v' w3 hown' hgrow3 hnil3)
              obtain ⟨g', cap', rfl⟩ := ownsRow_succ hown'
              have e1 : vals st ++ [Value.int .i64 x] = vals (st ++ [x]) := by simp
              rw [e1] at hown'
              have hb' : Below W.heap.size W w3 := (hbq.alloc hbq.size _).grown hgrow3 (by have := hbq.size; simp; omega) (fun q hq => (hownq.lt q hq).1)
              have H3 := Go.Lib.hid (And.intro hown' hb')
              clear hown' hgrow3 hnil3 hownq hbq hb' e1
              go_wp2
              go_roundw
              case rel => exact ⟨i + 1, (m + 1) + 1, g', cap', st ++ [x], acc ++ [73], s ++ ({ data := #[73] } : ByteArray), by go_num, rfl, rfl, by omega, by omega, by rw [ByteArray.size_append]; exact Nat.add_le_add hs13 (Nat.le_refl 1), by rw [List.length_append, HSL.out]; rfl, HS1, H3.out.1, H3.out.2, HN⟩
              case measure => simp [intOf]; omega
    · have hkn : i = n := by omega
      subst hkn
      have HB := Go.Lib.hid hb
      have HE : Hid (acc ++ List.replicate ns 79 = R ∧ acc.length + ns = 14 ∨ acc ++ List.replicate ns 79 = R ∧ acc.length + ns ≤ 14) := Go.Lib.hid (by
        right
        have h1 := HM.out
        have h2 := lsg_len K zs i (by omega)
        refine ⟨?_, ?_⟩
        · rw [← HRR.out, ← hst, h1.1, h1.2]; unfold lsWord; rw [hl]
        · rw [← hst, h1.1, h1.2]; omega)
      have hle : acc.length + ns ≤ 14 := by rcases HE.out with h | h <;> omega
      have HE2 : Hid (acc ++ List.replicate ns 79 = R) := Go.Lib.hid (by rcases HE.out with h | h <;> exact h.1)
      have hsz : s.size + ns ≤ 14 := by rw [HS.out, txt_size]; exact hle
      clear hown hb HE hle hst
      go_wp2_with fail
      go_loopw [5, 8] (fun wv jv w2 => ∃ (j : Nat) (t : ByteArray), jv = .int .i64 j ∧ wv = .string t ∧ j ≤ ns ∧ Hid (t.size = s.size + j) ∧ Hid (w2 = wr) ∧ Hid (t = txt (acc ++ List.replicate j 79))) (fun _ j _ => ns - (intOf j).toNat)
      case atStart => exact ⟨0, s, rfl, rfl, Nat.zero_le _, Go.Lib.hid rfl, Go.Lib.hid rfl, Go.Lib.hid (by rw [HS.out]; simp)⟩
      case round =>
        obtain ⟨j, t, rfl, rfl, hj, HTS, HW2, HT⟩ := hrel
        have ht := HTS.out
        have hw2 := HW2.out
        subst hw2
        by_cases hjn : j < ns
        · have hji : (j : Int) < (ns : Int) := by omega
          have ht13 : t.size ≤ 13 := by omega
          have HT2 : Hid (t ++ ({ data := #[79] } : ByteArray) = txt (acc ++ List.replicate (j + 1) 79)) := Go.Lib.hid (by
            rw [HT.out, List.replicate_succ', ← List.append_assoc]; exact txt_append _ [79])
          have HSZ : Hid ((t ++ ({ data := #[79] } : ByteArray)).size = s.size + (j + 1)) := Go.Lib.hid (by rw [ByteArray.size_append, ht]; rfl)
          go_wp2
          go_roundw
          case rel => exact ⟨j + 1, _, by go_num, rfl, by omega, HSZ, Go.Lib.hid (by first | rfl | trivial), HT2⟩
          case measure => simp [intOf]; omega
        · have hjn2 : j = ns := by omega
          subst hjn2
          have HT3 : Hid (t = txt R) := Go.Lib.hid (by rw [HT.out, HE2.out])
          go_wp2
          go_ret
          exact ⟨by rw [HT3.out]; rfl, HB.out⟩

set_option maxHeartbeats 1000000 in
set_option maxRecDepth 100000 in
theorem l10Sweep_any (zs : List Int) (K : Nat) (hK1 : 1 ≤ K) (hK7 : K ≤ 7) (hord : Ord zs) (W : World) (v : Value) (n : Nat) (hv : Sees W v n (vals zs)) :
    Calls Try.prog 89 #[v, .int .i64 (K : Int)] W fun e w' => ∃ u, e = .returned u ∧ w'.ownsRow W.heap.size 3 1 u (lsL K zs).length (vals (lsL K zs)) ∧ Below W.heap.size W w' := by
  have HV := Go.Lib.hid hv
  have CW := Go.Lib.hid (fun W' (h : Sees W' v n (vals zs)) => l10Word_any zs K hK1 hK7 hord W' v n h)
  have hsw := ls_word (d := K) hK1 hord.1 hord.2.1
  have CR := Go.Lib.hid (fun W' (h : Sees W' v n (vals zs)) => l2Run_any zs (txt (lsWord K zs)) hord hsw.1 hsw.2.2.1 W' v n h)
  have HSW := Go.Lib.hid hsw.2.2.2
  obtain ⟨R, hR⟩ : ∃ R, txt (lsWord K zs) = R := ⟨_, rfl⟩
  rw [hR] at CW CR HSW
  clear hR hsw
  obtain ⟨_, ad, cap, rfl, _, _⟩ := hv
  go_enter Try.func89, Try.ntmps89
  go_wp2_with fail
  refine (CW.out _ HV.out).mono ?_
  rintro e w1 ⟨rfl, hb⟩
  have H1 := Go.Lib.hid hb
  clear hb
  go_wp2_with fail
  refine (CR.out _ (HV.out.grow H1.out)).mono ?_
  rintro e w2 ⟨u, rfl, ho, hb⟩
  have H2 := Go.Lib.hid (And.intro (own_lower ho H1.out.size) (H1.out.trans (hb.mono H1.out.size)))
  clear ho hb
  go_wp2_with fail
  go_ret
  exact ⟨_, rfl, by rw [← HSW.out]; exact H2.out.1, H2.out.2⟩

end Go.Proofs.Ytnhhnffolmgceaa.LimWSC

namespace Go.Proofs.Ytnhhnffolmgceaa.LimT
open NumC OrdMath WordMath OrdFacts EndsM SweepM StackM LimW LimM ToC WordFacts

/-- The greatest m: m have come out, the stack is st, x numbers have been pushed. -/
def mwG (d : Nat) (zs : List Int) : Nat → Nat → List Int → Nat → Nat
  | 0, i, _, _ => i
  | f + 1, i, st, x =>
    if i < zs.length then
      if st.getLast? = some ((i : Int) + 1) then mwG d zs f (i + 1) st.dropLast x
      else if x < zs.length ∧ st.length < d then mwG d zs f i (st ++ [zs.getD x 0]) (x + 1)
      else i
    else i

def mwR (d : Nat) (zs : List Int) : Nat := mwG d zs (zs.length + zs.length + 1) 0 [] 0

/-- What is known in the midst of it. -/
def MidW (d : Nat) (zs : List Int) (R i : Nat) (st : List Int) (x : Nat) : Prop :=
  mwG d zs ((zs.length - i) + (zs.length - x) + 1) i st x = R ∧ i + st.length = x ∧ x ≤ zs.length ∧ st.length ≤ d

theorem midW_start (d : Nat) (zs : List Int) : MidW d zs (mwR d zs) 0 [] 0 := ⟨rfl, rfl, Nat.zero_le _, Nat.zero_le _⟩

theorem midW_end {d : Nat} {zs : List Int} {R i x : Nat} {st : List Int} (h : MidW d zs R i st x) (hi : ¬ i < zs.length) : R = i := by
  rw [← h.1]; simp [mwG, hi]

theorem midW_pop {d : Nat} {zs : List Int} {R i x : Nat} {st : List Int} (h : MidW d zs R i st x) (ht : st.getLast? = some ((i : Int) + 1)) : MidW d zs R (i + 1) st.dropLast x ∧ i < zs.length := by
  obtain ⟨h1, h2, h3, h4⟩ := h
  have hl : 0 < st.length := by cases st with | nil => simp at ht | cons a b => simp
  have hi : i < zs.length := by omega
  refine ⟨⟨?_, by simp; omega, h3, by simp; omega⟩, hi⟩
  rw [← h1]
  have e : (zs.length - i) + (zs.length - x) + 1 = ((zs.length - (i + 1)) + (zs.length - x) + 1) + 1 := by omega
  rw [e]
  conv => rhs; unfold mwG
  rw [if_pos hi, if_pos ht]

theorem midW_push {d : Nat} {zs : List Int} {R i x : Nat} {st : List Int} (h : MidW d zs R i st x) (ht : st.getLast? ≠ some ((i : Int) + 1)) (hx : x < zs.length) (hs : st.length < d) : MidW d zs R i (st ++ [zs.getD x 0]) (x + 1) := by
  obtain ⟨h1, h2, h3, h4⟩ := h
  have hi : i < zs.length := by omega
  refine ⟨?_, by simp; omega, by omega, by simp; omega⟩
  rw [← h1]
  have e : (zs.length - i) + (zs.length - x) + 1 = ((zs.length - i) + (zs.length - (x + 1)) + 1) + 1 := by omega
  rw [e]
  conv => rhs; unfold mwG
  rw [if_pos hi, if_neg ht, if_pos ⟨hx, hs⟩]

theorem midW_stop {d : Nat} {zs : List Int} {R i x : Nat} {st : List Int} (h : MidW d zs R i st x) (ht : st.getLast? ≠ some ((i : Int) + 1)) (hx : ¬ (x < zs.length ∧ st.length < d)) : R = i := by
  rw [← h.1]
  unfold mwG
  rw [if_neg ht, if_neg hx]; simp

theorem mwG_ge (d : Nat) (zs : List Int) : ∀ f i st x, i ≤ mwG d zs f i st x
  | 0, i, _, _ => Nat.le_refl _
  | f + 1, i, st, x => by
    unfold mwG
    split
    · split
      · have := mwG_ge d zs f (i + 1) st.dropLast x; omega
      · split
        · exact mwG_ge d zs f i _ _
        · exact Nat.le_refl _
    · exact Nat.le_refl _

theorem mwG_le (d : Nat) (zs : List Int) : ∀ f i st x, i ≤ zs.length → mwG d zs f i st x ≤ zs.length
  | 0, i, _, _, h => h
  | f + 1, i, st, x, h => by
    unfold mwG
    split
    · split
      · exact mwG_le d zs f (i + 1) _ _ (by omega)
      · split
        · exact mwG_le d zs f i _ _ h
        · exact h
    · exact h

theorem mwR_le (d : Nat) (zs : List Int) : mwR d zs ≤ zs.length := mwG_le d zs _ 0 [] 0 (Nat.zero_le _)

theorem mwG_mono {d e : Nat} (hd : d ≤ e) (zs : List Int) : ∀ f i st x, mwG d zs f i st x ≤ mwG e zs f i st x
  | 0, i, _, _ => Nat.le_refl _
  | f + 1, i, st, x => by
    unfold mwG
    split
    · split
      · exact mwG_mono hd zs f _ _ _
      · by_cases h1 : x < zs.length ∧ st.length < d
        · rw [if_pos h1, if_pos ⟨h1.1, by omega⟩]; exact mwG_mono hd zs f _ _ _
        · rw [if_neg h1]
          split
          · exact mwG_ge e zs f i _ _
          · exact Nat.le_refl _
    · exact Nat.le_refl _

theorem mwR_mono {d e : Nat} (hd : d ≤ e) (zs : List Int) : mwR d zs ≤ mwR e zs := mwG_mono hd zs _ _ _ _

/-- All come out just if the order is sorted by a word within the limit. -/
theorem go_most {d : Nat} {zs : List Int} : ∀ (f i : Nat) (st : List Int) (x : Nat) (acc : List UInt8), i + st.length = x → x ≤ zs.length → (zs.length - i) + (zs.length - x) + 1 ≤ f → st.length ≤ d →
    ((∃ l, goTo zs (iota zs.length) f i st x acc = some (acc ++ l) ∧ GoesD d l st.length) ↔ mwG d zs f i st x = zs.length)
  | 0, i, st, x, acc, _, _, hf, _ => by omega
  | f + 1, i, st, x, acc, h1, h2, hf, h3 => by
    unfold goTo mwG
    rw [iota_len]
    by_cases hi : i < zs.length
    · rw [if_pos hi, if_pos hi, iota_getD hi]
      by_cases ht : st.getLast? = some ((i : Int) + 1)
      · have hl : 0 < st.length := by cases st with | nil => simp at ht | cons a b => simp
        rw [if_pos ht, if_pos ht, ← go_most f (i + 1) st.dropLast x (acc ++ [79]) (by simp; omega) h2 (by omega) (by simp; omega), List.length_dropLast]
        constructor
        · rintro ⟨l, e, hg⟩
          cases l with
          | nil => have h8 : st.length = 0 := hg; omega
          | cons c t =>
            obtain ⟨u, hu⟩ := goTo_prefix _ _ _ _ _ _ e
            have hc : c = 79 ∧ u = t := by
              rw [List.append_assoc] at hu
              have := List.append_cancel_left hu
              injection this with a b
              exact ⟨a.symm, b⟩
            obtain ⟨rfl, rfl⟩ := hc
            rcases hg with ⟨h9, _⟩ | ⟨_, _, hg⟩
            · cases h9
            · exact ⟨u, by rw [e]; simp, hg⟩
        · rintro ⟨l, e, hg⟩
          exact ⟨79 :: l, by rw [e]; simp, .inr ⟨rfl, hl, hg⟩⟩
      · rw [if_neg ht, if_neg ht]
        by_cases hx : x < zs.length
        · rw [if_pos hx]
          by_cases hs : st.length < d
          · rw [if_pos ⟨hx, hs⟩, ← go_most f i (st ++ [zs.getD x 0]) (x + 1) (acc ++ [73]) (by simp; omega) (by omega) (by omega) (by simp; omega)]
            have hlen : (st ++ [zs.getD x 0]).length = st.length + 1 := by simp
            rw [hlen]
            constructor
            · rintro ⟨l, e, hg⟩
              obtain ⟨u, hu⟩ := goTo_prefix _ _ _ _ _ _ e
              rw [List.append_assoc] at hu
              have hu2 := List.append_cancel_left hu
              subst hu2
              rcases hg with ⟨_, _, hg⟩ | ⟨h9, _, _⟩
              · exact ⟨u, by rw [e]; simp, hg⟩
              · cases h9
            · rintro ⟨l, e, hg⟩
              exact ⟨73 :: l, by rw [e]; simp, .inl ⟨rfl, by omega, hg⟩⟩
          · rw [if_neg (by omega)]
            constructor
            · rintro ⟨l, e, hg⟩
              obtain ⟨u, hu⟩ := goTo_prefix _ _ _ _ _ _ e
              rw [List.append_assoc] at hu
              have hu2 := List.append_cancel_left hu
              subst hu2
              rcases hg with ⟨_, h9, _⟩ | ⟨h9, _, _⟩
              · omega
              · cases h9
            · intro h; omega
        · rw [if_neg hx, if_neg (by omega)]
          constructor
          · rintro ⟨l, e, _⟩; cases e
          · intro h; omega
    · rw [if_neg hi, if_neg hi]
      have hi2 : i = zs.length := by omega
      have hst : st.length = 0 := by omega
      constructor
      · intro _; exact hi2
      · intro _; exact ⟨[], by simp, by rw [hst]; rfl⟩

theorem can_most {d : Nat} (zs : List Int) : (∃ l, toRes zs (iota zs.length) = some l ∧ GoesD d l 0) ↔ mwR d zs = zs.length := by
  have := go_most (d := d) (zs := zs) (zs.length + zs.length + 1) 0 [] 0 [] rfl (Nat.zero_le _) (by omega) (Nat.zero_le _)
  simpa [toRes, mwR] using this

/-! ### The answers -/
def limAns (zs : List Int) : Int × Bool := if Ord zs then (match toRes zs (iota zs.length) with | some l => ((depthTo (txt l) (txt l).size : Nat), true) | none => (0, false)) else (0, false)
def canD (d : Nat) (zs : List Int) : Bool := match toRes zs (iota zs.length) with | some l => decide (depthTo (txt l) (txt l).size ≤ d) | none => false
def canAns (zs : List Int) (d : Int) : Bool × Bool := if Ord zs ∧ 1 ≤ d ∧ d ≤ 7 then (canD d.toNat zs, true) else (false, false)
def mwAns (zs : List Int) (d : Int) : Int × Bool := if Ord zs ∧ 1 ≤ d ∧ d ≤ 7 then ((mwR d.toNat zs : Nat), true) else (0, false)

/-- Given that what is found is a word of so many signs. -/
theorem canD_most {d : Nat} {zs : List Int} (h1 : 1 ≤ zs.length) (h7 : zs.length ≤ 7) (hw : ∀ l, toRes zs (iota zs.length) = some l → Word (txt l) ∧ (txt l).size = 2 * zs.length) : canD d zs = decide (mwR d zs = zs.length) := by
  have h := can_most (d := d) zs
  unfold canD
  cases hr : toRes zs (iota zs.length) with
  | none =>
    rw [hr] at h
    have : ¬ mwR d zs = zs.length := fun e => by obtain ⟨l, e2, _⟩ := h.2 e; cases e2
    rw [decide_eq_false this]
  | some l =>
    obtain ⟨w1, w2⟩ := hw l hr
    rw [hr] at h
    have hs : (txt l).size = l.length := txt_size l
    have : (depthTo (txt l) (txt l).size ≤ d) ↔ mwR d zs = zs.length := by
      rw [← h]
      constructor
      · intro hd; have := within_word w1 hd; rw [txt_list] at this; exact ⟨l, rfl, this⟩
      · rintro ⟨u, e, hg⟩
        cases e
        exact (word_within hg (by omega) (by omega)).2
    simp only [this]

end Go.Proofs.Ytnhhnffolmgceaa.LimT
