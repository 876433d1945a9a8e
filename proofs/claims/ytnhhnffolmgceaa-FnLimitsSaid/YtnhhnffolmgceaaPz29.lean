/-
  Contracts and plain facts that the laws' texts lean on. Conditions: as each states.
-/
import Derived.Test.YtnhhnffolmgceaaPz19
import Derived.Test.YtnhhnffolmgceaaPz22
import Derived.Test.YtnhhnffolmgceaaPz23
import Derived.BigQuiet
import Derived.IntWalk
import Derived.Deep.QuietTactic
import Derived.Test.YtnhhnffolmgceaaPz13
import Derived.Test.YtnhhnffolmgceaaPz11
import Derived.Test.YtnhhnffolmgceaaPz21

section
namespace Go.Proofs.Ytnhhnffolmgceaa.SweepWC
open Go.RowKit SeesC IntsC ExactC NumC IterC OrdMath WordMath OrdFacts InC OrderC WordC RunC AtC EndsM SweepM StackM

/-- What the inner loop keeps: the signs and the stack of the next number. -/
def In (zs : List Int) (i : Nat) (x : Int) (st : List Int) (acc : List UInt8) : Prop :=
  acc ++ List.replicate (popd st x).length 79 ++ [73] = sgTo zs (i + 1) ∧ belw st x ++ [x] = (swTo zs (i + 1)).2

theorem in_start {zs : List Int} {i : Nat} (hi : i < zs.length) : In zs i (zs.getD i 0) (swTo zs i).2 (sgTo zs i) := by
  obtain ⟨o, s, hr⟩ : ∃ o s, swTo zs i = (o, s) := ⟨_, _, rfl⟩
  refine ⟨rfl, ?_⟩
  rw [sw_next hi hr, hr]

theorem in_pop {zs : List Int} {i : Nat} {x p : Int} {la : List Int} {acc : List UInt8} (h : In zs i x (la ++ [p]) acc) (hp : p < x) : In zs i x la (acc ++ [79]) := by
  obtain ⟨h1, h2⟩ := h
  rw [popd_less hp] at h1
  rw [belw_less hp] at h2
  refine ⟨?_, h2⟩
  rw [← h1]
  simp [List.replicate_succ]

theorem in_end {zs : List Int} {i : Nat} {x : Int} {st : List Int} {acc : List UInt8} (h : In zs i x st acc) (hp : st.getLast?.all (fun p => decide (¬ p < x))) : acc ++ [73] = sgTo zs (i + 1) ∧ st ++ [x] = (swTo zs (i + 1)).2 := by
  obtain ⟨h1, h2⟩ := h
  rcases List.eq_nil_or_concat st with rfl | ⟨la, p, rfl⟩
  · rw [popd_nil] at h1
    rw [belw_nil] at h2
    exact ⟨by simpa using h1, h2⟩
  · rw [List.concat_eq_append] at *
    have : ¬ p < x := by simpa using hp
    rw [popd_not this] at h1
    rw [belw_not this] at h2
    exact ⟨by simpa using h1, h2⟩

theorem in_len {zs : List Int} {i : Nat} {x : Int} {st : List Int} {acc : List UInt8} (h : In zs i x st acc) (hi : i < zs.length) (h7 : zs.length ≤ 7) : acc.length ≤ 13 := by
  have h1 := congrArg List.length h.1
  have h2 := sg_len zs (i + 1) hi
  simp at h1
  omega

theorem in_len2 {zs : List Int} {i : Nat} {x : Int} {st : List Int} (h : st ++ [x] = (swTo zs (i + 1)).2) (hi : i < zs.length) (h7 : zs.length ≤ 7) : st.length ≤ 6 := by
  have h1 := congrArg List.length h
  have h2 := sg_len zs (i + 1) hi
  simp at h1
  omega

end Go.Proofs.Ytnhhnffolmgceaa.SweepWC

end

section
namespace Go.Proofs.Ytnhhnffolmgceaa.LimWSC
open Go.RowKit SeesC IntsC ExactC NumC IterC OrdMath WordMath OrdFacts InC OrderC WordC RunC AtC EndsM SweepM StackM LimW LimM

/-- What the inner loop keeps: the signs and the stack of the next number. -/
def InD (d : Nat) (zs : List Int) (i : Nat) (x : Int) (st : List Int) (acc : List UInt8) : Prop :=
  acc ++ List.replicate (pop d st x).length 79 ++ [73] = lsgTo d zs (i + 1) ∧ kept d st x ++ [x] = (llTo d zs (i + 1)).2 ∧ Desc st ∧ st.length ≤ d

theorem in_start {d : Nat} (hd : 1 ≤ d) {zs : List Int} {i : Nat} (hi : i < zs.length) : InD d zs i (zs.getD i 0) (llTo d zs i).2 (lsgTo d zs i) := by
  obtain ⟨o, s, hr⟩ : ∃ o s, llTo d zs i = (o, s) := ⟨_, _, rfl⟩
  have h := ll_desc d zs i (by omega)
  refine ⟨rfl, ?_, h.1, by have := h.2; omega⟩
  rw [ll_next hi hr, hr]

theorem in_pop {d : Nat} (hd : 1 ≤ d) {zs : List Int} {i : Nat} {x p : Int} {la : List Int} {acc : List UInt8} (h : InD d zs i x (la ++ [p]) acc) (hp : p < x ∨ la.length + 1 = d) : InD d zs i x la (acc ++ [79]) := by
  obtain ⟨h1, h2, h3, h4⟩ := h
  have hl : la.length + 1 ≤ d := by simpa using h4
  obtain ⟨k1, k2⟩ := pop_one h3 hd hl hp
  rw [k2] at h1
  rw [k1] at h2
  refine ⟨?_, h2, (List.pairwise_append.1 h3).1, by omega⟩
  rw [← h1]
  simp [List.replicate_succ]

theorem in_end {d : Nat} {zs : List Int} {i : Nat} {x : Int} {st : List Int} {acc : List UInt8} (h : InD d zs i x st acc) (hl : st.length < d) (hp : st.getLast?.all (fun p => decide (¬ p < x))) : acc ++ [73] = lsgTo d zs (i + 1) ∧ st ++ [x] = (llTo d zs (i + 1)).2 := by
  obtain ⟨h1, h2, _, _⟩ := h
  obtain ⟨k1, k2⟩ := pop_none hl hp
  rw [k2] at h1
  rw [k1] at h2
  exact ⟨by simpa using h1, h2⟩

theorem in_len {d : Nat} {zs : List Int} {i : Nat} {x : Int} {st : List Int} {acc : List UInt8} (h : InD d zs i x st acc) (hi : i < zs.length) (h7 : zs.length ≤ 7) : acc.length ≤ 13 := by
  have h1 := congrArg List.length h.1
  have h2 := lsg_len d zs (i + 1) hi
  simp at h1
  omega

theorem in_len2 {d : Nat} {zs : List Int} {i : Nat} {x : Int} {st : List Int} (h : st ++ [x] = (llTo d zs (i + 1)).2) (hi : i < zs.length) (h7 : zs.length ≤ 7) : st.length ≤ 6 := by
  have h1 := congrArg List.length h
  have h2 := lsg_len d zs (i + 1) hi
  simp at h1
  omega

set_option maxRecDepth 100000 in
set_option maxHeartbeats 4000000 in
theorem l10Word_any (zs : List Int) (K : Nat) (hK1 : 1 ≤ K) (_hK7 : K ≤ 7) (hord : Ord zs) (W : World) (v : Value) (n : Nat) (hv : Sees W v n (vals zs)) :
    Calls Try.prog 91 #[v, .int .i64 (K : Int)] W fun e w' => e = .returned (.string (txt (lsWord K zs))) ∧ Below W.heap.size W w' := by
  obtain ⟨i0, hi, hz0, hz1, hz2⟩ := info_parts infoI
  have hl : zs.length = n := by simpa using hv.1
  have hn1 : 1 ≤ n := by have := hord.1; omega
  have hn7 : n ≤ 7 := by have := hord.2.1; omega
  obtain ⟨b, o, cap, rfl, _, _, hbl, hcell⟩ := sees_cells hv (by omega)
  have HC := Go.Lib.hid hcell
  obtain ⟨R, hR⟩ : ∃ R, lsWord K zs = R := ⟨_, rfl⟩
  rw [hR]
  have HRR := Go.Lib.hid hR
  clear hv hcell hR
  go_enter Try.func91, Try.ntmps91
  go_wp2
  have ho0 := World.ownsRow_made (base := W.heap.size) (e := 3) (size := 1) W #[] 0 (Nat.le_refl _) (by unfold maxLen; omega) rfl
  have hb0 : Below W.heap.size W (W.alloc (.cells #[] 3)) := (Below.refl _ _).alloc (Nat.le_refl _) _
  go_loopw [5, 6, 7] (fun wv sv iv wr => ∃ (i ns g c : Nat) (st : List Int) (acc : List UInt8) (s : ByteArray), iv = .int .i64 i ∧ wv = .string s ∧ sv = .slice (some ⟨g, 0, none⟩) ns c ∧ i ≤ n ∧ ns ≤ 7 ∧ s.size ≤ 14 ∧ st.length = ns ∧ Hid (s = txt acc) ∧ wr.ownsRow W.heap.size 3 1 (.slice (some ⟨g, 0, none⟩) ns c) ns (vals st) ∧ Below W.heap.size W wr ∧ Hid (acc = lsgTo K zs i ∧ st = (llTo K zs i).2)) (fun _ _ i _ => n - (intOf i).toNat)
  case atStart => exact ⟨0, 0, W.heap.size, 0, [], [], ByteArray.empty, rfl, rfl, rfl, Nat.zero_le _, by omega, by decide, rfl, Go.Lib.hid rfl, by simpa using ho0, hb0, Go.Lib.hid ⟨rfl, rfl⟩⟩
  case round =>
    obtain ⟨i, ns, g, c, st, acc, s, rfl, rfl, rfl, hin, hns7, hs14, hst, HS, hown, hb, HM⟩ := hrel
    clear ho0 hb0
    by_cases hlt : i < n
    · obtain ⟨x, hx⟩ : ∃ x, zs.getD i 0 = x := ⟨_, rfl⟩
      have hxi := HC.out i (by omega)
      rw [hx] at hxi
      have HI0 : Hid (InD K zs i x st acc) := Go.Lib.hid (by have := in_start (d := K) hK1 (zs := zs) (i := i) (by omega); rw [HM.out.1, HM.out.2, ← hx]; exact this)
      have HHX := Go.Lib.hid hx
      have hlti : (i : Int) < (n : Int) := by omega
      clear hx
      go_wp2_with fail
      go_loopw [5, 6] (fun wv sv w2 => ∃ (ns g c : Nat) (st : List Int) (acc : List UInt8) (s : ByteArray), wv = .string s ∧ sv = .slice (some ⟨g, 0, none⟩) ns c ∧ ns ≤ 7 ∧ s.size ≤ 14 ∧ st.length = ns ∧ Hid (s = txt acc) ∧ w2.ownsRow W.heap.size 3 1 (.slice (some ⟨g, 0, none⟩) ns c) ns (vals st) ∧ Below W.heap.size W w2 ∧ Hid (InD K zs i x st acc)) (fun _ sv _ => lenV sv)
      case atStart => exact ⟨ns, g, c, st, acc, s, rfl, rfl, hns7, hs14, hst, HS, hown, hb, HI0⟩
      case round =>
        clear hown hb HI0 HS hst hs14 hns7 HM
        obtain ⟨ns, g, c, st, acc, s, rfl, rfl, hns7, hs14, hst, HS, hown, hb, HI⟩ := hrel
        have hla := in_len HI.out (by omega) (by omega)
        have hs13 : s.size ≤ 13 := by rw [HS.out, txt_size]; exact hla
        have hti2 : wr.cell? ⟨b, o + i, none⟩ = some (.int .i64 x) := (hb.cell (p := ⟨b, o + i, none⟩) hbl).trans hxi
        have HTI := Go.Lib.hid hxi
        clear hxi hla
        have HS1 : Hid (s ++ ({ data := #[73] } : ByteArray) = txt (acc ++ [73])) := Go.Lib.hid (by rw [HS.out]; exact txt_append _ [73])
        have HSL := Go.Lib.hid hst
        by_cases hn0 : ns = 0
        · have hst0 : st = [] := List.eq_nil_of_length_eq_zero (by omega)
          have HN : Hid (acc ++ [73] = lsgTo K zs (i + 1) ∧ st ++ [x] = (llTo K zs (i + 1)).2) := Go.Lib.hid (in_end HI.out (by rw [hst0]; exact hK1) (by rw [hst0]; rfl))
          have hns6 : ns ≤ 6 := by omega
          subst hn0
          clear hst0 hst
          go_wp2_with fail
          go_quiet (fail)
          have hownq := own_drewN (q := nq) hown
          have hbq := ExactC.below_drewN (q := nq) hb
          have hckq : (wr.drewN nq).cell? ⟨b, o + i, none⟩ = some (.int .i64 x) := hti2
          obtain ⟨wq, hwq⟩ : ∃ wq, wr.drewN nq = wq := ⟨_, rfl⟩
          rw [hwq] at hownq hbq hckq ⊢
          clear hwq hown hb hti2
          go_wp2_with (at_builtin; refine wpList_append_own _ rfl _ _ 24 rfl W.heap.size 3 i0 (.int .i64 0) 1 8 Try.underlying24 hi hz0 hz1 hz2 rfl (by decide) (.slice (some ⟨g, 0, none⟩) 0 c) 0 (vals st) rfl (hownq.alloc _) ⟨wq.heap.size, 0, none⟩ 1 1 [.int .i64 x] rfl rfl (cell_one_new _ _ _) (fun x hx => by simp at hx; subst hx; rfl) (by unfold maxLen; omega) (by omega) (by have := hbq.size; simp; omega) ?_; intro v' w3 hown' hgrow3 hnil3)
          obtain ⟨g', cap', rfl⟩ := ownsRow_succ hown'
          have e1 : vals st ++ [Value.int .i64 x] = vals (st ++ [x]) := by simp
          rw [e1] at hown'
          have hb' : Below W.heap.size W w3 := (hbq.alloc hbq.size _).grown hgrow3 (by have := hbq.size; simp; omega) (fun q hq => (hownq.lt q hq).1)
          have H3 := Go.Lib.hid (And.intro hown' hb')
          clear hown' hgrow3 hnil3 hownq hbq hb' e1
          go_wp2
          go_roundw
          case rel => exact ⟨i + 1, 0 + 1, g', cap', st ++ [x], acc ++ [73], s ++ ({ data := #[73] } : ByteArray), by go_num, rfl, rfl, by omega, by omega, by rw [ByteArray.size_append]; exact Nat.add_le_add hs13 (Nat.le_refl 1), by rw [List.length_append, HSL.out]; rfl, HS1, H3.out.1, H3.out.2, HN⟩
          case measure => simp [intOf]; omega
        · obtain ⟨la, p, hlap, hlast, hdrop⟩ := split_last (l := st) (by omega)
          obtain ⟨m, rfl⟩ : ∃ m, ns = m + 1 := ⟨ns - 1, by omega⟩
          have hlam : la.length = m := by rw [hlap] at hst; simp at hst; omega
          have hckp : wr.cell? ⟨g, m, none⟩ = some (.int .i64 p) := by
            rw [hown.cellAt m (by omega), hlap]
            simp [← hlam]
          have hm7 : m ≤ 6 := by omega
          have q1 : IntKind.i64.wrap ((m : Int) + 1 - 1) = (m : Int) := by rw [IntWalk.i64_in _ (by omega)]; omega
          by_cases hpx : p < x
          · have HN : Hid (InD K zs i x la (acc ++ [79])) := Go.Lib.hid (by have := HI.out; rw [hlap] at this; exact in_pop hK1 this (.inl hpx))
            have hpd : decide (p < x) = true := decide_eq_true hpx
            have hpop : wr.ownsRow W.heap.size 3 1 (.slice (some ⟨g, 0, none⟩) m c) m (vals la) := ownsRow_pop (last := [.int .i64 p]) (by simp [hlam]) (by rw [hlap] at hown; simpa using hown)
            have hmc : m + 1 ≤ c := by
              rcases hown.2 with ⟨h0, _⟩ | ⟨g', cap', cur, h0, _, _, h1, _⟩
              · cases h0
              · cases h0; exact h1
            have HS2 : Hid (s ++ ({ data := #[79] } : ByteArray) = txt (acc ++ [79])) := Go.Lib.hid (by rw [HS.out]; exact txt_append _ [79])
            have HLA := Go.Lib.hid hlam
            have H3 := Go.Lib.hid (And.intro hpop hb)
            clear hst hlap hlast hdrop hpop hown hb hlam hn0
            go_wp2_with fail
            go_quiet (fail)
            have hw4 := own_drewN (q := nq) H3.out.1
            have hw5 := ExactC.below_drewN (q := nq) H3.out.2
            have H4 := Go.Lib.hid (And.intro hw4 hw5)
            clear hw4 hw5
            go_wp2
            go_roundw
            case rel => exact ⟨m, g, c, la, acc ++ [79], s ++ ({ data := #[79] } : ByteArray), rfl, rfl, by omega, by rw [ByteArray.size_append]; exact Nat.add_le_add hs13 (Nat.le_refl 1), HLA.out, HS2, H4.out.1, H4.out.2, HN⟩
            case measure => simp [lenV]
          · have hpd : decide (p < x) = false := decide_eq_false hpx
            by_cases hmk : m + 1 = K
            · have hmk2 : (((m : Int) + 1) == (K : Int)) = true := by rw [beq_iff_eq]; omega
              have HN : Hid (InD K zs i x la (acc ++ [79])) := Go.Lib.hid (by have := HI.out; rw [hlap] at this; exact in_pop hK1 this (.inr (by omega)))
              have hpop : wr.ownsRow W.heap.size 3 1 (.slice (some ⟨g, 0, none⟩) m c) m (vals la) := ownsRow_pop (last := [.int .i64 p]) (by simp [hlam]) (by rw [hlap] at hown; simpa using hown)
              have hmc : m + 1 ≤ c := by
                rcases hown.2 with ⟨h0, _⟩ | ⟨g', cap', cur, h0, _, _, h1, _⟩
                · cases h0
                · cases h0; exact h1
              have HS2 : Hid (s ++ ({ data := #[79] } : ByteArray) = txt (acc ++ [79])) := Go.Lib.hid (by rw [HS.out]; exact txt_append _ [79])
              have HLA := Go.Lib.hid hlam
              have H3 := Go.Lib.hid (And.intro hpop hb)
              clear hmk hst hlap hlast hdrop hpop hown hb hlam hn0
              go_wp2_with fail
              go_quiet (fail)
              have hw4 := own_drewN (q := nq) H3.out.1
              have hw5 := ExactC.below_drewN (q := nq) H3.out.2
              have H4 := Go.Lib.hid (And.intro hw4 hw5)
              clear hw4 hw5
              go_wp2
              go_roundw
              case rel => exact ⟨m, g, c, la, acc ++ [79], s ++ ({ data := #[79] } : ByteArray), rfl, rfl, by omega, by rw [ByteArray.size_append]; exact Nat.add_le_add hs13 (Nat.le_refl 1), HLA.out, HS2, H4.out.1, H4.out.2, HN⟩
              case measure => simp [lenV]
            · have hmk2 : (((m : Int) + 1) == (K : Int)) = false := by rw [beq_eq_false_iff_ne]; omega
              skip
              have HN : Hid (acc ++ [73] = lsgTo K zs (i + 1) ∧ st ++ [x] = (llTo K zs (i + 1)).2) := Go.Lib.hid (in_end HI.out (by have h9 := HI.out.2.2.2; have h8 := HSL.out; omega) (by rw [hlap]; simp; omega))
              have hns6 : m + 1 ≤ 6 := by have := in_len2 HN.out.2 (by omega) (by omega); omega
              clear hmk hst hlap hlast hdrop hlam hn0
              go_wp2_with fail
              go_quiet (fail)
              have hownq := own_drewN (q := nq) hown
              have hbq := ExactC.below_drewN (q := nq) hb
              have hckq : (wr.drewN nq).cell? ⟨b, o + i, none⟩ = some (.int .i64 x) := hti2
              obtain ⟨wq, hwq⟩ : ∃ wq, wr.drewN nq = wq := ⟨_, rfl⟩
              rw [hwq] at hownq hbq hckq ⊢
              clear hwq hown hb hti2 hckp
              go_wp2_with (at_builtin; refine wpList_append_own _ rfl _ _ 24 rfl W.heap.size 3 i0 (.int .i64 0) 1 8 Try.underlying24 hi hz0 hz1 hz2 rfl (by decide) (.slice (some ⟨g, 0, none⟩) (m + 1) c) (m + 1) (vals st) rfl (hownq.alloc _) ⟨wq.heap.size, 0, none⟩ 1 1 [.int .i64 x] rfl rfl (cell_one_new _ _ _) (fun x hx => by simp at hx; subst hx; rfl) (by unfold maxLen; omega) (by omega) (by have := hbq.size; simp; omega) ?_; intro v' w3 hown' hgrow3 hnil3)
              obtain ⟨g', cap', rfl⟩ := ownsRow_succ hown'
              have e1 : vals st ++ [Value.int .i64 x] = vals (st ++ [x]) := by simp
              rw [e1] at hown'
              have hb' : Below W.heap.size W w3 := (hbq.alloc hbq.size _).grown hgrow3 (by have := hbq.size; simp; omega) (fun q hq => (hownq.lt q hq).1)
              have H3 := Go.Lib.hid (And.intro hown' hb')
              clear hown' hgrow3 hnil3 hownq hbq hb' e1
              go_wp2
              go_roundw
              case rel => exact ⟨i + 1, (m + 1) + 1, g', cap', st ++ [x], acc ++ [73], s ++ ({ data := #[73] } : ByteArray), by go_num, rfl, rfl, by omega, by omega, by rw [ByteArray.size_append]; exact Nat.add_le_add hs13 (Nat.le_refl 1), by rw [List.length_append, HSL.out]; rfl, HS1, H3.out.1, H3.out.2, HN⟩
              case measure => simp [intOf]; omega
    · have hkn : i = n := by omega
      subst hkn
      have HB := Go.Lib.hid hb
      have HE : Hid (acc ++ List.replicate ns 79 = R ∧ acc.length + ns = 14 ∨ acc ++ List.replicate ns 79 = R ∧ acc.length + ns ≤ 14) := Go.Lib.hid (by
        right
        have h1 := HM.out
        have h2 := lsg_len K zs i (by omega)
        refine ⟨?_, ?_⟩
        · rw [← HRR.out, ← hst, h1.1, h1.2]; unfold lsWord; rw [hl]
        · rw [← hst, h1.1, h1.2]; omega)
      have hle : acc.length + ns ≤ 14 := by rcases HE.out with h | h <;> omega
      have HE2 : Hid (acc ++ List.replicate ns 79 = R) := Go.Lib.hid (by rcases HE.out with h | h <;> exact h.1)
      have hsz : s.size + ns ≤ 14 := by rw [HS.out, txt_size]; exact hle
      clear hown hb HE hle hst
      go_wp2_with fail
      go_loopw [5, 8] (fun wv jv w2 => ∃ (j : Nat) (t : ByteArray), jv = .int .i64 j ∧ wv = .string t ∧ j ≤ ns ∧ Hid (t.size = s.size + j) ∧ Hid (w2 = wr) ∧ Hid (t = txt (acc ++ List.replicate j 79))) (fun _ j _ => ns - (intOf j).toNat)
      case atStart => exact ⟨0, s, rfl, rfl, Nat.zero_le _, Go.Lib.hid rfl, Go.Lib.hid rfl, Go.Lib.hid (by rw [HS.out]; simp)⟩
      case round =>
        obtain ⟨j, t, rfl, rfl, hj, HTS, HW2, HT⟩ := hrel
        have ht := HTS.out
        have hw2 := HW2.out
        subst hw2
        by_cases hjn : j < ns
        · have hji : (j : Int) < (ns : Int) := by omega
          have ht13 : t.size ≤ 13 := by omega
          have HT2 : Hid (t ++ ({ data := #[79] } : ByteArray) = txt (acc ++ List.replicate (j + 1) 79)) := Go.Lib.hid (by
            rw [HT.out, List.replicate_succ', ← List.append_assoc]; exact txt_append _ [79])
          have HSZ : Hid ((t ++ ({ data := #[79] } : ByteArray)).size = s.size + (j + 1)) := Go.Lib.hid (by rw [ByteArray.size_append, ht]; rfl)
          go_wp2
          go_roundw
          case rel => exact ⟨j + 1, _, by go_num, rfl, by omega, HSZ, Go.Lib.hid (by first | rfl | trivial), HT2⟩
          case measure => simp [intOf]; omega
        · have hjn2 : j = ns := by omega
          subst hjn2
          have HT3 : Hid (t = txt R) := Go.Lib.hid (by rw [HT.out, HE2.out])
          go_wp2
          go_ret
          exact ⟨by rw [HT3.out]; rfl, HB.out⟩

set_option maxHeartbeats 1000000 in
set_option maxRecDepth 100000 in
theorem l10Sweep_any (zs : List Int) (K : Nat) (hK1 : 1 ≤ K) (hK7 : K ≤ 7) (hord : Ord zs) (W : World) (v : Value) (n : Nat) (hv : Sees W v n (vals zs)) :
    Calls Try.prog 89 #[v, .int .i64 (K : Int)] W fun e w' => ∃ u, e = .returned u ∧ w'.ownsRow W.heap.size 3 1 u (lsL K zs).length (vals (lsL K zs)) ∧ Below W.heap.size W w' := by
  have HV := Go.Lib.hid hv
  have CW := Go.Lib.hid (fun W' (h : Sees W' v n (vals zs)) => l10Word_any zs K hK1 hK7 hord W' v n h)
  have hsw := ls_word (d := K) hK1 hord.1 hord.2.1
  have CR := Go.Lib.hid (fun W' (h : Sees W' v n (vals zs)) => l2Run_any zs (txt (lsWord K zs)) hord hsw.1 hsw.2.2.1 W' v n h)
  have HSW := Go.Lib.hid hsw.2.2.2
  obtain ⟨R, hR⟩ : ∃ R, txt (lsWord K zs) = R := ⟨_, rfl⟩
  rw [hR] at CW CR HSW
  clear hR hsw
  obtain ⟨_, ad, cap, rfl, _, _⟩ := hv
  go_enter Try.func89, Try.ntmps89
  go_wp2_with fail
  refine (CW.out _ HV.out).mono ?_
  rintro e w1 ⟨rfl, hb⟩
  have H1 := Go.Lib.hid hb
  clear hb
  go_wp2_with fail
  refine (CR.out _ (HV.out.grow H1.out)).mono ?_
  rintro e w2 ⟨u, rfl, ho, hb⟩
  have H2 := Go.Lib.hid (And.intro (own_lower ho H1.out.size) (H1.out.trans (hb.mono H1.out.size)))
  clear ho hb
  go_wp2_with fail
  go_ret
  exact ⟨_, rfl, by rw [← HSW.out]; exact H2.out.1, H2.out.2⟩

end Go.Proofs.Ytnhhnffolmgceaa.LimWSC

end

section
namespace Go.Proofs.Ytnhhnffolmgceaa.EndsC
open Go.RowKit SeesC RunC IntsC ExactC NumC IterC OrdMath WordMath InC WordC EndsM

/-- The row of ways, so many signs left. -/
def waysL (j n : Nat) : List Int := (List.range n).map (fun t => ((ends j t : Nat) : Int))

theorem ways_len (j n : Nat) : (waysL j n).length = n := by simp [waysL]
theorem ways_next (j n : Nat) : waysL j (n + 1) = waysL j n ++ [((ends j n : Nat) : Int)] := by unfold waysL; rw [List.range_succ, List.map_append]; rfl
theorem ways_at {j n t : Nat} (h : t < n) : (vals (waysL j n))[t]? = some (.int .i64 ((ends j t : Nat) : Int)) := by simp [waysL, h]

theorem ends_0 (j : Nat) : ends (j + 1) 0 = ends j (0 + 1) := by
  show (if 0 < 0 then ends j (0 - 1) else 0) + ends j (0 + 1) = _
  simp
theorem ends_s (j k : Nat) : ends (j + 1) (k + 1) = ends j k + ends j (k + 1 + 1) := by
  show (if 0 < k + 1 then ends j (k + 1 - 1) else 0) + ends j (k + 1 + 1) = _
  simp

end Go.Proofs.Ytnhhnffolmgceaa.EndsC

end

section
namespace Go.Proofs.Ytnhhnffolmgceaa.WordFacts
open OrdMath WordMath RunC ToC NumC

theorem byts_take {w : ByteArray} {k : Nat} (h : k < w.size) : w.data.toList.take (k + 1) = w.data.toList.take k ++ [byt w k] := by
  have h2 : k < w.data.toList.length := by rw [Array.length_toList]; exact h
  rw [List.take_succ_eq_append_getElem h2]
  unfold byt
  rw [List.getD_eq_getElem?_getD, List.getElem?_eq_getElem h2, Option.getD_some]

/-- What has come out goes on. -/
theorem out_prefix {zs : List Int} {w : ByteArray} (k : Nat) : ∀ m, (runTo zs w k).1 <+: (runTo zs w (k + m)).1
  | 0 => List.prefix_refl _
  | m + 1 => by
    refine (out_prefix k m).trans ?_
    show (runTo zs w (k + m)).1 <+: (runTo zs w (k + m + 1)).1
    obtain ⟨o, s, x, hr⟩ : ∃ o s x, runTo zs w (k + m) = (o, s, x) := ⟨_, _, _, rfl⟩
    by_cases hc : byt w (k + m) = 73
    · rw [run_I hr hc, hr]; exact List.prefix_refl _
    · have : runTo zs w (k + m + 1) = (o ++ [s.getLast?.getD 0], s.dropLast, x) := by simp [runTo, hr, hc]
      rw [this, hr]; exact List.prefix_append _ _

theorem out_end {zs : List Int} {w : ByteArray} {k : Nat} (h : k ≤ w.size) : (runTo zs w k).1 <+: runOut zs w := by
  have := out_prefix (zs := zs) (w := w) k (w.size - k)
  rw [Nat.add_sub_cancel' h] at this
  exact this

theorem prefix_getD {a l : List Int} {p : Int} (h : a ++ [p] <+: l) : l.getD a.length 0 = p := by
  obtain ⟨t, rfl⟩ := h
  simp

/-- The numbers on the stack have been pushed. -/
theorem stack_mem {zs : List Int} {w : ByteArray} (hl : w.size = 2 * zs.length) (hw : Word w) : ∀ k, k ≤ w.size → ∀ p ∈ (runTo zs w k).2.1, p ∈ zs.take (runTo zs w k).2.2 := by
  intro k
  induction k with
  | zero => intro _ p hp; simp [runTo] at hp
  | succ k ih =>
    intro hk p hp
    obtain ⟨d, hd, hd1, hd2, hc⟩ := hw.at (k := k) (by omega)
    have hrl := run_len (zs := zs) k d hd
    obtain ⟨o, s, x, hr⟩ : ∃ o s x, runTo zs w k = (o, s, x) := ⟨_, _, _, rfl⟩
    have ih' := ih (by omega)
    rw [hr] at ih' hrl
    simp only at ih' hrl
    rcases hc with ⟨hI, _, _⟩ | ⟨hO, _, _⟩
    · rw [run_I hr hI] at hp ⊢
      simp only at hp ⊢
      have hx : x < zs.length := by omega
      rw [List.take_succ_eq_append_getElem hx]
      rcases List.mem_append.1 hp with h | h
      · exact List.mem_append.2 (.inl (ih' p h))
      · refine List.mem_append.2 (.inr ?_)
        have e : zs.getD x 0 = zs[x] := by simp [hx]
        rw [e] at h; exact h
    · rw [run_O hr hO] at hp ⊢
      exact ih' p (List.dropLast_subset s hp)

/-- Behind a push the next number that comes out is one of those pushed from there on. -/
theorem next_out {zs : List Int} {w : ByteArray} (hl : w.size = 2 * zs.length) (hw : Word w) : ∀ m k, k + m = w.size → k < w.size → byt w k = 73 → (runOut zs w).getD (runTo zs w k).1.length 0 ∈ zs.drop (runTo zs w k).2.2 := by
  intro m
  induction m with
  | zero => intro k h1 h2; omega
  | succ m ih =>
    intro k hkm hk hI
    obtain ⟨d, hd, hd1, hd2, hc⟩ := hw.at (k := k) hk
    have hrl := run_len (zs := zs) k d hd
    obtain ⟨o, s, x, hr⟩ : ∃ o s x, runTo zs w k = (o, s, x) := ⟨_, _, _, rfl⟩
    rw [hr] at hrl
    simp only at hrl
    have hx : x < zs.length := by
      rcases hc with ⟨_, _, h3⟩ | ⟨hO, _, _⟩
      · omega
      · rw [hI] at hO; exact absurd hO (by decide)
    have hd3 : d + 1 ≤ w.size - (k + 1) := by
      rcases hc with ⟨_, _, h3⟩ | ⟨hO, _, _⟩
      · exact h3
      · rw [hI] at hO; exact absurd hO (by decide)
    have hr2 := run_I hr hI
    have hk2 : k + 1 < w.size := by omega
    rw [hr]
    show (runOut zs w).getD o.length 0 ∈ zs.drop x
    have e : zs.getD x 0 = zs[x] := by simp [hx]
    obtain ⟨d2, hd2', _, _, hc2⟩ := hw.at (k := k + 1) hk2
    rcases hc2 with ⟨hI2, _, _⟩ | ⟨hO2, _, _⟩
    · have := ih (k + 1) (by omega) hk2 hI2
      rw [hr2] at this
      simp only at this
      rw [List.drop_eq_getElem_cons hx]
      exact List.mem_cons_of_mem _ this
    · have hr3 := run_O hr2 hO2
      have hp := out_end (zs := zs) (w := w) (k := k + 1 + 1) (by omega)
      rw [hr3] at hp
      have hg := prefix_getD hp
      have e3 : (s ++ [zs.getD x 0]).getLast?.getD 0 = zs[x] := by rw [e]; simp
      rw [hg, e3, List.drop_eq_getElem_cons hx]
      exact List.mem_cons_self

/-- The search for the word to what comes out by a word goes along this word. -/
theorem mid_run {zs : List Int} {w : ByteArray} (hn : zs.Nodup) (hl : w.size = 2 * zs.length) (hw : Word w) : ∀ k, k ≤ w.size →
    Mid zs (runOut zs w) (toRes zs (runOut zs w)) (runTo zs w k).1.length (runTo zs w k).2.1 (runTo zs w k).2.2 (w.data.toList.take k) := by
  have hol : zs.length = (runOut zs w).length := (runOut_len hw hl).symm
  intro k
  induction k with
  | zero => intro _; exact mid_start _ _ hol
  | succ k ih =>
    intro hk
    have ih' := ih (by omega)
    obtain ⟨d, hd, hd1, hd2, hc⟩ := hw.at (k := k) (by omega)
    have hrl := run_len (zs := zs) k d hd
    have hsm := stack_mem (zs := zs) hl hw k (by omega)
    have hno := next_out (zs := zs) hl hw (w.size - k) k (by omega) (by omega)
    obtain ⟨o, s, x, hr⟩ : ∃ o s x, runTo zs w k = (o, s, x) := ⟨_, _, _, rfl⟩
    rw [hr] at ih' hrl hsm hno
    simp only at ih' hrl hsm hno
    rw [byts_take (by omega)]
    rcases hc with ⟨hI, _, h3⟩ | ⟨hO, hd0, _⟩
    · rw [run_I hr hI, hI]
      show Mid zs (runOut zs w) (toRes zs (runOut zs w)) o.length (s ++ [zs.getD x 0]) (x + 1) (w.data.toList.take k ++ [73])
      refine mid_push ih' (by omega) ?_ (by omega)
      intro ht
      have h1 := hsm _ (List.mem_of_getLast? ht)
      have h2 := hno hI
      obtain ⟨i, hi, e1⟩ := List.mem_iff_getElem.1 h1
      obtain ⟨j, hj, e2⟩ := List.mem_iff_getElem.1 h2
      rw [List.getElem_take] at e1
      rw [List.getElem_drop] at e2
      have hi2 : i < x := by simp at hi; omega
      have := (List.getElem_inj hn).1 (e1.trans e2.symm)
      omega
    · have hr2 := run_O hr hO
      have hp := out_end (zs := zs) (w := w) (k := k + 1) hk
      rw [hr2] at hp
      have hg := prefix_getD hp
      rw [hr2, hO]
      show Mid zs (runOut zs w) (toRes zs (runOut zs w)) (o ++ [s.getLast?.getD 0]).length s.dropLast x (w.data.toList.take k ++ [79])
      have hne : s ≠ [] := by intro e; subst e; simp at hrl; omega
      have := mid_pop ih' (by omega) (by rw [hg, List.getLast?_eq_some_getLast hne]; simp)
      simpa using this

/-- The word to what comes out by a word is this word. -/
theorem to_run {zs : List Int} {w : ByteArray} (hn : zs.Nodup) (hl : w.size = 2 * zs.length) (hw : Word w) : toRes zs (runOut zs w) = some w.data.toList := by
  have h := mid_run (zs := zs) hn hl hw w.size (Nat.le_refl _)
  have h2 := mid_end h (by unfold runOut; omega)
  rw [h2, List.take_of_length_le (by rw [Array.length_toList]; exact Nat.le_refl _)]

theorem run_inj {zs : List Int} {w u : ByteArray} (hn : zs.Nodup) (hl : w.size = 2 * zs.length) (hw : Word w) (hl2 : u.size = 2 * zs.length) (hu : Word u) (h : runOut zs w = runOut zs u) : w = u := by
  have h1 := to_run hn hl hw
  rw [h, to_run hn hl2 hu] at h1
  cases w; cases u
  simpa using h1.symm

theorem run_mem {zs : List Int} {w : ByteArray} (hl : w.size = 2 * zs.length) (hw : Word w) : ∀ k, k ≤ w.size → ((runTo zs w k).1 ++ (runTo zs w k).2.1).Perm (zs.take (runTo zs w k).2.2) := by
  intro k
  induction k with
  | zero => intro _; simp [runTo]
  | succ k ih =>
    intro hk
    have ih' := ih (by omega)
    obtain ⟨d, hd, hd1, hd2, hc⟩ := hw.at (k := k) (by omega)
    have hrl := run_len (zs := zs) k d hd
    obtain ⟨o, s, x, hr⟩ : ∃ o s x, runTo zs w k = (o, s, x) := ⟨_, _, _, rfl⟩
    rw [hr] at ih' hrl
    simp only at ih' hrl
    rcases hc with ⟨hI, _, h3⟩ | ⟨hO, hd0, _⟩
    · rw [run_I hr hI]
      have hx : x < zs.length := by omega
      have e : zs.getD x 0 = zs[x] := by simp [hx]
      show (o ++ (s ++ [zs.getD x 0])).Perm (zs.take (x + 1))
      rw [List.take_succ_eq_append_getElem hx, e, ← List.append_assoc]
      exact ih'.append_right _
    · rw [run_O hr hO]
      obtain ⟨a, p, hap, hlast, hdrop⟩ := split_last (l := s) (by omega)
      show ((o ++ [s.getLast?.getD 0]) ++ s.dropLast).Perm (zs.take x)
      rw [hlast, hdrop]
      rw [hap] at ih'
      refine List.Perm.trans ?_ ih'
      rw [List.append_assoc]
      exact List.Perm.append_left o (List.perm_append_comm (l₁ := [p]) (l₂ := a))

theorem ord_run {zs : List Int} {w : ByteArray} (ho : Ord zs) (hl : w.size = 2 * zs.length) (hw : Word w) : Ord (runOut zs w) := by
  have h := run_mem (zs := zs) hl hw w.size (Nat.le_refl _)
  have hrl := run_len (zs := zs) w.size 0 hw.2.2
  have hs : (runTo zs w w.size).2.1 = [] := List.eq_nil_of_length_eq_zero hrl.1
  rw [hs, List.append_nil, List.take_of_length_le (by omega)] at h
  have hlen : (runOut zs w).length = zs.length := h.length_eq
  refine ⟨by rw [hlen]; exact ho.1, by rw [hlen]; exact ho.2.1, fun z hz => by rw [hlen]; exact ho.2.2.1 z (h.mem_iff.1 hz), (h.nodup_iff).2 ho.2.2.2⟩

/-! ### The other way -/
theorem goTo_prefix {zs ts : List Int} : ∀ (f i : Nat) (st : List Int) (x : Nat) (acc l : List UInt8), goTo zs ts f i st x acc = some l → acc <+: l
  | 0, _, _, _, _, _, h => by simp [goTo] at h
  | f + 1, i, st, x, acc, l, h => by
    unfold goTo at h
    split at h
    · split at h
      · exact (List.prefix_append _ _).trans (goTo_prefix f _ _ _ _ _ h)
      · split at h
        · exact (List.prefix_append _ _).trans (goTo_prefix f _ _ _ _ _ h)
        · cases h
    · cases h; exact List.prefix_refl _

theorem byt_txt_prefix {a l : List UInt8} {c : UInt8} (h : a ++ [c] <+: l) : byt (txt l) a.length = c := by
  obtain ⟨t, rfl⟩ := h
  unfold byt
  rw [txt_list]
  simp

theorem go_run {zs ts : List Int} (hlen : zs.length = ts.length) : ∀ (f i : Nat) (st : List Int) (x : Nat) (acc l : List UInt8), goTo zs ts f i st x acc = some l → i ≤ ts.length → i + st.length = x → x ≤ zs.length →
    heldTo (txt l) acc.length = some st.length → runTo zs (txt l) acc.length = (ts.take i, st, x) → acc.length = i + x →
    heldTo (txt l) l.length = some 0 ∧ (runTo zs (txt l) l.length).1 = ts ∧ l.length = 2 * ts.length
  | 0, _, _, _, _, _, h, _, _, _, _, _, _ => by simp [goTo] at h
  | f + 1, i, st, x, acc, l, h, hi, hx, hxl, hh, hr, ha => by
    unfold goTo at h
    split at h
    · rename_i hlt
      split at h
      · rename_i hlast
        have hp := goTo_prefix f _ _ _ _ _ h
        have hb := byt_txt_prefix hp
        have hpos : 0 < st.length := by cases st with | nil => simp at hlast | cons a b => simp
        have e : (acc ++ [79]).length = acc.length + 1 := by simp
        refine go_run hlen f (i + 1) st.dropLast x (acc ++ [79]) l h (by omega) (by simp; omega) hxl ?_ ?_ (by simp; omega)
        · rw [e, held_O hh hb hpos]; simp
        · rw [e, run_O hr hb]
          rw [List.take_succ_eq_append_getElem hlt, hlast]
          simp [hlt]
      · split at h
        · rename_i hxl2
          have hp := goTo_prefix f _ _ _ _ _ h
          have hb := byt_txt_prefix hp
          have e : (acc ++ [73]).length = acc.length + 1 := by simp
          refine go_run hlen f i (st ++ [zs.getD x 0]) (x + 1) (acc ++ [73]) l h hi (by simp; omega) (by omega) ?_ ?_ (by simp; omega)
          · rw [e, held_I hh hb]; simp
          · rw [e, run_I hr hb]
        · cases h
    · rename_i hlt
      cases h
      have h0 : st.length = 0 := by omega
      refine ⟨by rw [hh, h0], ?_, by omega⟩
      rw [hr]
      exact List.take_of_length_le (by omega)

theorem run_to {zs ts : List Int} {l : List UInt8} (ho : Ord zs) (hlen : zs.length = ts.length) (h : toRes zs ts = some l) : Word (txt l) ∧ (txt l).size = 2 * zs.length ∧ runOut zs (txt l) = ts := by
  have h1 := go_run hlen _ 0 [] 0 [] l h (Nat.zero_le _) rfl (Nat.zero_le _) rfl rfl rfl
  have h2 := ho.1
  have h3 := ho.2.1
  have hs : (txt l).size = l.length := txt_size l
  refine ⟨⟨by omega, by omega, by rw [hs]; exact h1.1⟩, by omega, by unfold runOut; rw [hs]; exact h1.2.1⟩

/-! ### All words -/
open WordsC in
theorem sI_txt : sI = txt [73] := rfl
open WordsC in
theorem sO_txt : sO = txt [79] := rfl

theorem txt_snoc (a : List UInt8) (c : UInt8) : txt a ++ txt [c] = txt (a ++ [c]) := txt_append _ _

theorem byt_before {a l : List UInt8} (h : a <+: l) {k : Nat} (hk : k < a.length) : byt (txt l) k = byt (txt a) k := by
  obtain ⟨t, rfl⟩ := h
  unfold byt
  rw [txt_list, txt_list, List.getD_eq_getElem?_getD, List.getD_eq_getElem?_getD, List.getElem?_append_left hk]

theorem held_before {a l : List UInt8} (h : a <+: l) : ∀ k, k ≤ a.length → heldTo (txt l) k = heldTo (txt a) k
  | 0, _ => rfl
  | k + 1, hk => by
    show (heldTo (txt l) k).bind _ = (heldTo (txt a) k).bind _
    rw [held_before h k (by omega), byt_before h (by omega)]

theorem held_snoc {a : List UInt8} {c : UInt8} {d e : Nat} (h : heldTo (txt a) a.length = some d) (hs : stepOf c d = some e) : heldTo (txt (a ++ [c])) (a ++ [c]).length = some e := by
  have hl : (a ++ [c]).length = a.length + 1 := by simp
  rw [hl]
  show (heldTo (txt (a ++ [c])) a.length).bind _ = _
  rw [held_before (List.prefix_append a [c]) a.length (Nat.le_refl _), h, byt_txt_prefix (List.prefix_refl (a ++ [c]))]
  exact hs

open WordsC in
/-- Each text of the list goes on from the text that was begun, and ends with nothing held. -/
theorem words_word : ∀ (r d : Nat) (a : List UInt8), heldTo (txt a) a.length = some d → d ≤ r → d % 2 = r % 2 → ∀ u ∈ wordsFrom r d (txt a), ∃ l, u = txt l ∧ a <+: l ∧ l.length = a.length + r ∧ heldTo (txt l) l.length = some 0
  | 0, d, a, h, hd, _, u, hu => by
    have : d = 0 := by omega
    subst this
    simp [wordsFrom] at hu
    subst hu
    exact ⟨a, rfl, List.prefix_refl _, rfl, h⟩
  | r + 1, d, a, h, hd, hp, u, hu => by
    unfold wordsFrom at hu
    rcases List.mem_append.1 hu with hu | hu
    · split at hu
      · rw [sI_txt, txt_snoc] at hu
        obtain ⟨l, e, hpre, hlen, hh⟩ := words_word r (d + 1) (a ++ [73]) (held_snoc h (by simp [stepOf])) (by omega) (by omega) u hu
        exact ⟨l, e, (List.prefix_append _ _).trans hpre, by rw [hlen]; simp; omega, hh⟩
      · simp at hu
    · split at hu
      · rename_i h0
        rw [sO_txt, txt_snoc] at hu
        obtain ⟨l, e, hpre, hlen, hh⟩ := words_word r (d - 1) (a ++ [79]) (held_snoc h (by simp [stepOf, h0])) (by omega) (by omega) u hu
        exact ⟨l, e, (List.prefix_append _ _).trans hpre, by rw [hlen]; simp; omega, hh⟩
      · simp at hu

open WordsC in
theorem words_nodup : ∀ (r d : Nat) (a : List UInt8), heldTo (txt a) a.length = some d → d ≤ r → d % 2 = r % 2 → (wordsFrom r d (txt a)).Nodup
  | 0, d, a, _, _, _ => by simp [wordsFrom]
  | r + 1, d, a, h, hd, hp => by
    unfold wordsFrom
    rw [sI_txt, sO_txt, txt_snoc, txt_snoc, List.nodup_append]
    refine ⟨?_, ?_, ?_⟩
    · split
      · exact words_nodup r (d + 1) (a ++ [73]) (held_snoc h (by simp [stepOf])) (by omega) (by omega)
      · exact List.nodup_nil
    · split
      · rename_i h0
        exact words_nodup r (d - 1) (a ++ [79]) (held_snoc h (by simp [stepOf, h0])) (by omega) (by omega)
      · exact List.nodup_nil
    · intro u hu v hv e
      subst e
      split at hu
      · split at hv
        · rename_i h0
          obtain ⟨l, e1, p1, _, _⟩ := words_word r (d + 1) (a ++ [73]) (held_snoc h (by simp [stepOf])) (by omega) (by omega) u hu
          obtain ⟨l2, e2, p2, _, _⟩ := words_word r (d - 1) (a ++ [79]) (held_snoc h (by simp [stepOf, h0])) (by omega) (by omega) u hv
          have b1 := byt_txt_prefix p1
          have b2 := byt_txt_prefix p2
          rw [← e1] at b1
          rw [← e2] at b2
          rw [b1] at b2
          exact absurd b2 (by decide)
        · simp at hv
      · simp at hu

open WordsC in
theorem words_all {n : Nat} (h1 : 1 ≤ n) (h7 : n ≤ 7) : (wordsFrom (2 * n) 0 ByteArray.empty).Nodup ∧ ∀ u ∈ wordsFrom (2 * n) 0 ByteArray.empty, Word u ∧ u.size = 2 * n := by
  have e : (ByteArray.empty : ByteArray) = txt [] := rfl
  rw [e]
  refine ⟨words_nodup _ 0 [] rfl (Nat.zero_le _) (by omega), fun u hu => ?_⟩
  obtain ⟨l, e1, _, hl, hh⟩ := words_word (2 * n) 0 [] rfl (Nat.zero_le _) (by omega) u hu
  have hs : u.size = l.length := by rw [e1]; exact txt_size l
  simp at hl
  refine ⟨⟨by omega, by omega, by rw [hs, e1]; exact hh⟩, by omega⟩

end Go.Proofs.Ytnhhnffolmgceaa.WordFacts

end

section
namespace Go.Proofs.Ytnhhnffolmgceaa.LimT
open NumC OrdMath WordMath OrdFacts EndsM SweepM StackM LimW LimM ToC WordFacts

/-- The greatest m: m have come out, the stack is st, x numbers have been pushed. -/
def mwG (d : Nat) (zs : List Int) : Nat → Nat → List Int → Nat → Nat
  | 0, i, _, _ => i
  | f + 1, i, st, x =>
    if i < zs.length then
      if st.getLast? = some ((i : Int) + 1) then mwG d zs f (i + 1) st.dropLast x
      else if x < zs.length ∧ st.length < d then mwG d zs f i (st ++ [zs.getD x 0]) (x + 1)
      else i
    else i

def mwR (d : Nat) (zs : List Int) : Nat := mwG d zs (zs.length + zs.length + 1) 0 [] 0

/-- What is known in the midst of it. -/
def MidW (d : Nat) (zs : List Int) (R i : Nat) (st : List Int) (x : Nat) : Prop :=
  mwG d zs ((zs.length - i) + (zs.length - x) + 1) i st x = R ∧ i + st.length = x ∧ x ≤ zs.length ∧ st.length ≤ d

theorem midW_start (d : Nat) (zs : List Int) : MidW d zs (mwR d zs) 0 [] 0 := ⟨rfl, rfl, Nat.zero_le _, Nat.zero_le _⟩

theorem midW_end {d : Nat} {zs : List Int} {R i x : Nat} {st : List Int} (h : MidW d zs R i st x) (hi : ¬ i < zs.length) : R = i := by
  rw [← h.1]; simp [mwG, hi]

theorem midW_pop {d : Nat} {zs : List Int} {R i x : Nat} {st : List Int} (h : MidW d zs R i st x) (ht : st.getLast? = some ((i : Int) + 1)) : MidW d zs R (i + 1) st.dropLast x ∧ i < zs.length := by
  obtain ⟨h1, h2, h3, h4⟩ := h
  have hl : 0 < st.length := by cases st with | nil => simp at ht | cons a b => simp
  have hi : i < zs.length := by omega
  refine ⟨⟨?_, by simp; omega, h3, by simp; omega⟩, hi⟩
  rw [← h1]
  have e : (zs.length - i) + (zs.length - x) + 1 = ((zs.length - (i + 1)) + (zs.length - x) + 1) + 1 := by omega
  rw [e]
  conv => rhs; unfold mwG
  rw [if_pos hi, if_pos ht]

theorem midW_push {d : Nat} {zs : List Int} {R i x : Nat} {st : List Int} (h : MidW d zs R i st x) (ht : st.getLast? ≠ some ((i : Int) + 1)) (hx : x < zs.length) (hs : st.length < d) : MidW d zs R i (st ++ [zs.getD x 0]) (x + 1) := by
  obtain ⟨h1, h2, h3, h4⟩ := h
  have hi : i < zs.length := by omega
  refine ⟨?_, by simp; omega, by omega, by simp; omega⟩
  rw [← h1]
  have e : (zs.length - i) + (zs.length - x) + 1 = ((zs.length - i) + (zs.length - (x + 1)) + 1) + 1 := by omega
  rw [e]
  conv => rhs; unfold mwG
  rw [if_pos hi, if_neg ht, if_pos ⟨hx, hs⟩]

theorem midW_stop {d : Nat} {zs : List Int} {R i x : Nat} {st : List Int} (h : MidW d zs R i st x) (ht : st.getLast? ≠ some ((i : Int) + 1)) (hx : ¬ (x < zs.length ∧ st.length < d)) : R = i := by
  rw [← h.1]
  unfold mwG
  rw [if_neg ht, if_neg hx]; simp

theorem mwG_ge (d : Nat) (zs : List Int) : ∀ f i st x, i ≤ mwG d zs f i st x
  | 0, i, _, _ => Nat.le_refl _
  | f + 1, i, st, x => by
    unfold mwG
    split
    · split
      · have := mwG_ge d zs f (i + 1) st.dropLast x; omega
      · split
        · exact mwG_ge d zs f i _ _
        · exact Nat.le_refl _
    · exact Nat.le_refl _

theorem mwG_le (d : Nat) (zs : List Int) : ∀ f i st x, i ≤ zs.length → mwG d zs f i st x ≤ zs.length
  | 0, i, _, _, h => h
  | f + 1, i, st, x, h => by
    unfold mwG
    split
    · split
      · exact mwG_le d zs f (i + 1) _ _ (by omega)
      · split
        · exact mwG_le d zs f i _ _ h
        · exact h
    · exact h

theorem mwR_le (d : Nat) (zs : List Int) : mwR d zs ≤ zs.length := mwG_le d zs _ 0 [] 0 (Nat.zero_le _)

theorem mwG_mono {d e : Nat} (hd : d ≤ e) (zs : List Int) : ∀ f i st x, mwG d zs f i st x ≤ mwG e zs f i st x
  | 0, i, _, _ => Nat.le_refl _
  | f + 1, i, st, x => by
    unfold mwG
    split
    · split
      · exact mwG_mono hd zs f _ _ _
      · by_cases h1 : x < zs.length ∧ st.length < d
        · rw [if_pos h1, if_pos ⟨h1.1, by omega⟩]; exact mwG_mono hd zs f _ _ _
        · rw [if_neg h1]
          split
          · exact mwG_ge e zs f i _ _
          · exact Nat.le_refl _
    · exact Nat.le_refl _

theorem mwR_mono {d e : Nat} (hd : d ≤ e) (zs : List Int) : mwR d zs ≤ mwR e zs := mwG_mono hd zs _ _ _ _

/-- All come out just if the order is sorted by a word within the limit. -/
theorem go_most {d : Nat} {zs : List Int} : ∀ (f i : Nat) (st : List Int) (x : Nat) (acc : List UInt8), i + st.length = x → x ≤ zs.length → (zs.length - i) + (zs.length - x) + 1 ≤ f → st.length ≤ d →
    ((∃ l, goTo zs (iota zs.length) f i st x acc = some (acc ++ l) ∧ GoesD d l st.length) ↔ mwG d zs f i st x = zs.length)
  | 0, i, st, x, acc, _, _, hf, _ => by omega
  | f + 1, i, st, x, acc, h1, h2, hf, h3 => by
    unfold goTo mwG
    rw [iota_len]
    by_cases hi : i < zs.length
    · rw [if_pos hi, if_pos hi, iota_getD hi]
      by_cases ht : st.getLast? = some ((i : Int) + 1)
      · have hl : 0 < st.length := by cases st with | nil => simp at ht | cons a b => simp
        rw [if_pos ht, if_pos ht, ← go_most f (i + 1) st.dropLast x (acc ++ [79]) (by simp; omega) h2 (by omega) (by simp; omega), List.length_dropLast]
        constructor
        · rintro ⟨l, e, hg⟩
          cases l with
          | nil => have h8 : st.length = 0 := hg; omega
          | cons c t =>
            obtain ⟨u, hu⟩ := goTo_prefix _ _ _ _ _ _ e
            have hc : c = 79 ∧ u = t := by
              rw [List.append_assoc] at hu
              have := List.append_cancel_left hu
              injection this with a b
              exact ⟨a.symm, b⟩
            obtain ⟨rfl, rfl⟩ := hc
            rcases hg with ⟨h9, _⟩ | ⟨_, _, hg⟩
            · cases h9
            · exact ⟨u, by rw [e]; simp, hg⟩
        · rintro ⟨l, e, hg⟩
          exact ⟨79 :: l, by rw [e]; simp, .inr ⟨rfl, hl, hg⟩⟩
      · rw [if_neg ht, if_neg ht]
        by_cases hx : x < zs.length
        · rw [if_pos hx]
          by_cases hs : st.length < d
          · rw [if_pos ⟨hx, hs⟩, ← go_most f i (st ++ [zs.getD x 0]) (x + 1) (acc ++ [73]) (by simp; omega) (by omega) (by omega) (by simp; omega)]
            have hlen : (st ++ [zs.getD x 0]).length = st.length + 1 := by simp
            rw [hlen]
            constructor
            · rintro ⟨l, e, hg⟩
              obtain ⟨u, hu⟩ := goTo_prefix _ _ _ _ _ _ e
              rw [List.append_assoc] at hu
              have hu2 := List.append_cancel_left hu
              subst hu2
              rcases hg with ⟨_, _, hg⟩ | ⟨h9, _, _⟩
              · exact ⟨u, by rw [e]; simp, hg⟩
              · cases h9
            · rintro ⟨l, e, hg⟩
              exact ⟨73 :: l, by rw [e]; simp, .inl ⟨rfl, by omega, hg⟩⟩
          · rw [if_neg (by omega)]
            constructor
            · rintro ⟨l, e, hg⟩
              obtain ⟨u, hu⟩ := goTo_prefix _ _ _ _ _ _ e
              rw [List.append_assoc] at hu
              have hu2 := List.append_cancel_left hu
              subst hu2
              rcases hg with ⟨_, h9, _⟩ | ⟨h9, _, _⟩
              · omega
              · cases h9
            · intro h; omega
        · rw [if_neg hx, if_neg (by omega)]
          constructor
          · rintro ⟨l, e, _⟩; cases e
          · intro h; omega
    · rw [if_neg hi, if_neg hi]
      have hi2 : i = zs.length := by omega
      have hst : st.length = 0 := by omega
      constructor
      · intro _; exact hi2
      · intro _; exact ⟨[], by simp, by rw [hst]; rfl⟩

theorem can_most {d : Nat} (zs : List Int) : (∃ l, toRes zs (iota zs.length) = some l ∧ GoesD d l 0) ↔ mwR d zs = zs.length := by
  have := go_most (d := d) (zs := zs) (zs.length + zs.length + 1) 0 [] 0 [] rfl (Nat.zero_le _) (by omega) (Nat.zero_le _)
  simpa [toRes, mwR] using this

/-! ### The answers -/
def limAns (zs : List Int) : Int × Bool := if Ord zs then (match toRes zs (iota zs.length) with | some l => ((depthTo (txt l) (txt l).size : Nat), true) | none => (0, false)) else (0, false)
def canD (d : Nat) (zs : List Int) : Bool := match toRes zs (iota zs.length) with | some l => decide (depthTo (txt l) (txt l).size ≤ d) | none => false
def canAns (zs : List Int) (d : Int) : Bool × Bool := if Ord zs ∧ 1 ≤ d ∧ d ≤ 7 then (canD d.toNat zs, true) else (false, false)
def mwAns (zs : List Int) (d : Int) : Int × Bool := if Ord zs ∧ 1 ≤ d ∧ d ≤ 7 then ((mwR d.toNat zs : Nat), true) else (0, false)

/-- Given that what is found is a word of so many signs. -/
theorem canD_most {d : Nat} {zs : List Int} (h1 : 1 ≤ zs.length) (h7 : zs.length ≤ 7) (hw : ∀ l, toRes zs (iota zs.length) = some l → Word (txt l) ∧ (txt l).size = 2 * zs.length) : canD d zs = decide (mwR d zs = zs.length) := by
  have h := can_most (d := d) zs
  unfold canD
  cases hr : toRes zs (iota zs.length) with
  | none =>
    rw [hr] at h
    have : ¬ mwR d zs = zs.length := fun e => by obtain ⟨l, e2, _⟩ := h.2 e; cases e2
    rw [decide_eq_false this]
  | some l =>
    obtain ⟨w1, w2⟩ := hw l hr
    rw [hr] at h
    have hs : (txt l).size = l.length := txt_size l
    have : (depthTo (txt l) (txt l).size ≤ d) ↔ mwR d zs = zs.length := by
      rw [← h]
      constructor
      · intro hd; have := within_word w1 hd; rw [txt_list] at this; exact ⟨l, rfl, this⟩
      · rintro ⟨u, e, hg⟩
        cases e
        exact (word_within hg (by omega) (by omega)).2
    simp only [this]

end Go.Proofs.Ytnhhnffolmgceaa.LimT

end

section
namespace Go.Proofs.Ytnhhnffolmgceaa.Sort4C
open Go.RowKit SeesC IntsC ExactC NumC IterC OrdMath WordMath InC OrderC WordC RunC ToC ToImplC WordToC AtC SortedOrdC StackM

def sortAns (zs : List Int) : ByteArray × Bool := if Ord zs then optAns (toRes zs (iota zs.length)) else (ByteArray.empty, false)
def sortableAns (zs : List Int) : Bool × Bool := if Ord zs then ((optAns (toRes zs (iota zs.length))).2, true) else (false, false)

set_option maxHeartbeats 1000000 in
theorem l4Sortable_any (zs : List Int) (hord : Ord zs) (W : World) (v : Value) (n : Nat) (hv : Sees W v n (vals zs)) :
    Calls Try.prog 76 #[v] W fun e w' => e = .returned (.tuple #[.string (optAns (toRes zs (iota zs.length))).1, .bool (optAns (toRes zs (iota zs.length))).2]) ∧ Below W.heap.size W w' := by
  have hl : zs.length = n := by simpa using hv.1
  have hn7 : n ≤ 7 := by have := hord.2.1; omega
  have HV := Go.Lib.hid hv
  have CS := Go.Lib.hid (fun W' => l2Sorted_any n W' hn7)
  rw [hl]
  have CT := Go.Lib.hid (fun (W' : World) (u : Value) (h1 : Sees W' v n (vals zs)) (h2 : Sees W' u n (vals (iota n))) => l2To_any zs (iota n) hord (by rw [iota_len]; exact hl) W' v n h1 u h2)
  obtain ⟨⟨rw, rb⟩, hR⟩ : ∃ R, optAns (toRes zs (iota n)) = R := ⟨_, rfl⟩
  rw [hR] at CT ⊢
  clear hR
  obtain ⟨_, ad, cap, rfl, _, _⟩ := hv
  go_enter Try.func76, Try.ntmps76
  go_wp2_with fail
  refine (CS.out _).mono ?_
  rintro e w1 ⟨g, c, rfl, ho, hb⟩
  have H1 := Go.Lib.hid (And.intro ho hb)
  clear ho hb
  go_wp2_with fail
  refine (CT.out _ _ (HV.out.grow H1.out.2) (Sees.owns H1.out.1)).mono ?_
  rintro e w2 ⟨rfl, hb⟩
  have H2 := Go.Lib.hid (H1.out.2.trans (hb.mono H1.out.2.size))
  clear hb
  go_wp2_with fail
  go_ret2
  exact ⟨rfl, H2.out⟩

set_option maxHeartbeats 1000000 in
theorem implSorting (zs : List Int) (r' : ByteArray) (b : Bool) (h : sortAns zs = (r', b)) (hz : zs.length ≤ 1048576) (W : World) (v : Value) (n : Nat) (hv : Sees W v n (vals zs)) :
    Calls Try.prog 75 #[v] W fun e w' => e = .returned (.tuple #[.string r', .bool b]) ∧ Below W.heap.size W w' := by
  have hl : zs.length = n := by simpa using hv.1
  have hn : n ≤ 1048576 := by omega
  obtain ⟨r, hr⟩ : ∃ r, isOrd zs = r := ⟨_, rfl⟩
  have CO := Go.Lib.hid (fun W' (hs' : Sees W' v n (vals zs)) => implOrder_any W' v n zs r hs' hn hr)
  have HV := Go.Lib.hid hv
  unfold sortAns at h
  obtain ⟨_, ad, cap, rfl, _, _⟩ := hv
  cases r with
  | false =>
    rw [if_neg (by intro h1; unfold isOrd at hr; exact of_decide_eq_false hr h1)] at h
    cases h
    clear hr
    go_enter Try.func75, Try.ntmps75
    go_wp2_with fail
    refine (CO.out _ HV.out).mono ?_
    rintro e w1 ⟨rfl, hd⟩
    have HB1 : Hid (Below W.heap.size W w1) := Go.Lib.hid hd
    clear hd
    go_wp2_with fail
    go_ret2
    exact ⟨rfl, HB1.out⟩
  | true =>
    have hord : Ord zs := by unfold isOrd at hr; exact of_decide_eq_true hr
    have hn7 : n ≤ 7 := by have := hord.2.1; omega
    have hn1 : 1 ≤ n := by have := hord.1; omega
    rw [if_pos hord] at h
    clear hr
    have HA : Hid ((optAns (toRes zs (iota zs.length))).1 = r' ∧ (optAns (toRes zs (iota zs.length))).2 = b) := Go.Lib.hid (by rw [h]; exact ⟨rfl, rfl⟩)
    clear h
    have CS := Go.Lib.hid (fun W' => sortedOrder_any n W' hn7)
    have CT := Go.Lib.hid (fun (W' : World) (u : Value) (h1 : Sees W' (.slice ad n cap) n (vals zs)) (h2 : Sees W' u n (vals (iota n))) => implTo zs (iota n) r' b (by unfold toAns; rw [if_pos ⟨hord, ord_iota hn1 hn7, by rw [iota_len]; exact hl⟩, ← HA.out.1, ← HA.out.2, hl]) hz (by rw [iota_len]; omega) W' _ n h1 u n h2)
    go_enter Try.func75, Try.ntmps75
    go_wp2_with fail
    refine (CO.out _ HV.out).mono ?_
    rintro e w1 ⟨rfl, hd⟩
    have HB1 : Hid (Below W.heap.size W w1) := Go.Lib.hid hd
    clear hd
    have HV1 := Go.Lib.hid (HV.out.grow HB1.out)
    go_wp2_with fail
    refine (CS.out _).mono ?_
    rintro e w2 ⟨g, c, rfl, ho, hb⟩
    have H2 := Go.Lib.hid (And.intro ho (HB1.out.trans (hb.mono HB1.out.size)))
    clear ho hb
    go_wp2_with fail
    refine (CT.out _ _ (HV.out.grow H2.out.2) (Sees.owns H2.out.1)).mono ?_
    rintro e w3 ⟨rfl, hb⟩
    have H3 := Go.Lib.hid (H2.out.2.trans (hb.mono H2.out.2.size))
    clear hb
    go_wp2_with fail
    go_ret2
    exact ⟨rfl, H3.out⟩

end Go.Proofs.Ytnhhnffolmgceaa.Sort4C

end

section
namespace Go.Proofs.Ytnhhnffolmgceaa.LimFC
open NumC OrdMath WordMath OrdFacts EndsM SweepM StackM LimW LimM ToC WordFacts LimT RunC

/-! ### Depths of words -/
theorem depth_7 {w : ByteArray} (h : Word w) : ∀ k, k ≤ w.size → depthTo w k ≤ 7
  | 0, _ => Nat.zero_le _
  | k + 1, hk => by
    obtain ⟨m, hm⟩ : ∃ m, w.size = (k + 1) + m := ⟨w.size - (k + 1), by omega⟩
    have h3 := h.2.2
    rw [hm] at h3
    obtain ⟨d, hd, h1, h2⟩ := held_back m (k + 1) 0 h3
    have hp := held_parity _ _ hd
    have := depth_7 h k (by omega)
    rw [depth_next hd]
    have := h.2.1
    omega

theorem depth_1 {w : ByteArray} (h : Word w) : ∀ k, 1 ≤ k → k ≤ w.size → 1 ≤ depthTo w k
  | 0, h1, _ => by omega
  | k + 1, _, hk => by
    by_cases hk0 : k = 0
    · subst hk0
      obtain ⟨d, hd, _, _, hc⟩ := h.at (k := 0) (by have := h.1; omega)
      cases hd
      rcases hc with ⟨_, h2, _⟩ | ⟨_, h2, _⟩
      · rw [depth_next h2]; omega
      · omega
    · have := depth_1 h k (by omega) (by omega)
      exact Nat.le_trans this (Nat.le_max_left _ _)

theorem lim_bd {zs : List Int} {limit : Int} (h : limAns zs = (limit, true)) : 1 ≤ limit ∧ limit ≤ 7 ∧ canAns zs limit = (true, true) ∧ ∃ no eight, canAns zs (limit - 1) = (no, eight) ∧ (eight && no) = false := by
  unfold limAns at h
  by_cases ho : Ord zs
  · rw [if_pos ho] at h
    cases hr : toRes zs (iota zs.length) with
    | none => rw [hr] at h; cases h
    | some l =>
      have hw := run_to ho (by rw [iota_len]) hr
      rw [hr] at h
      obtain ⟨dp, hdp⟩ : ∃ dp, depthTo (txt l) (txt l).size = dp := ⟨_, rfl⟩
      simp only [hdp] at h
      cases h
      have h1 := depth_1 hw.1 (txt l).size (by have := hw.1.1; omega) (Nat.le_refl _)
      have h7 := depth_7 hw.1 (txt l).size (Nat.le_refl _)
      rw [hdp] at h1 h7
      refine ⟨by omega, by omega, ?_, ?_⟩
      · unfold canAns
        rw [if_pos ⟨ho, by omega, by omega⟩, Int.toNat_natCast]
        unfold canD
        rw [hr]
        simp [hdp]
      · refine ⟨(canAns zs ((dp : Int) - 1)).1, (canAns zs ((dp : Int) - 1)).2, rfl, ?_⟩
        unfold canAns
        by_cases h2 : 1 ≤ (dp : Int) - 1
        · rw [if_pos ⟨ho, by omega, by omega⟩]
          unfold canD
          rw [hr]
          have e : ((dp : Int) - 1).toNat = dp - 1 := by omega
          simp [hdp, e]
          omega
        · rw [if_neg (fun h => h2 h.2.1)]; rfl
  · rw [if_neg ho] at h; cases h

theorem lim_facts (zs : List Int) : ∃ limit one, limAns zs = (limit, one) ∧ (one = true → 1 ≤ limit ∧ limit ≤ 7 ∧ canAns zs limit = (true, true) ∧ ∃ no eight, canAns zs (limit - 1) = (no, eight) ∧ (eight && no) = false) :=
  ⟨(limAns zs).1, (limAns zs).2, rfl, fun h => lim_bd (by rw [← h])⟩

theorem can_facts (zs : List Int) (d : Int) : ∃ can ok, canAns zs d = (can, ok) ∧ (ok = true → ∃ M : Nat, mwAns zs d = ((M : Int), true) ∧ can = decide (M = zs.length) ∧ M ≤ 7) := by
  refine ⟨(canAns zs d).1, (canAns zs d).2, rfl, fun h => ?_⟩
  unfold canAns at h
  by_cases hg : Ord zs ∧ 1 ≤ d ∧ d ≤ 7
  · refine ⟨mwR d.toNat zs, by unfold mwAns; rw [if_pos hg], ?_, by have := mwR_le d.toNat zs; have := hg.1.2.1; omega⟩
    show (canAns zs d).1 = _
    unfold canAns
    rw [if_pos hg]
    exact canD_most hg.1.1 hg.1.2.1 (fun l hl => by have := run_to hg.1 (by rw [iota_len]) hl; exact ⟨this.1, this.2.1⟩)
  · rw [if_neg hg] at h; cases h

theorem at_facts (n d k : Int) : ∃ at_ four, atDAns n d k = (at_, four) ∧ at_.size ≤ 60 ∧ (four = true → rankDAns at_ d = (k, true) ∧ ∃ deep : Int, depthAns at_ = (deep, true) ∧ deep ≤ d) := by
  refine ⟨(atDAns n d k).1, (atDAns n d k).2, rfl, ?_, fun h => ?_⟩
  · show (atDAns n d k).1.size ≤ 60
    unfold atDAns
    split
    · rename_i h; show (txt _).size ≤ 60; rw [txt_size, atD_len]; omega
    · decide
  · unfold atDAns at h ⊢
    by_cases hg : 1 ≤ n ∧ n ≤ 7 ∧ 1 ≤ d ∧ d ≤ 7 ∧ 0 ≤ k ∧ k < (lE d.toNat (2 * n.toNat) 0 : Int)
    · rw [if_pos hg]
      have hr := at_rankD d.toNat (2 * n.toNat) 0 k.toNat (Nat.zero_le _) (by omega)
      have hl := atD_len d.toNat (2 * n.toNat) 0 k.toNat
      have hw := word_within hr.1 (by omega) (by omega)
      show rankDAns (txt _) d = _ ∧ _
      refine ⟨?_, (depthTo (txt (atD d.toNat (2 * n.toNat) 0 k.toNat)) (txt (atD d.toNat (2 * n.toNat) 0 k.toNat)).size : Nat), ?_, by have := hw.2; omega⟩
      · unfold rankDAns
        rw [if_pos ⟨hw.1, hg.2.2.1, hg.2.2.2.1, by have := hw.2; omega⟩, txt_list, hr.2]
        congr 1
        omega
      · show depthAns (txt _) = _
        unfold depthAns; rw [if_pos hw.1]
    · rw [if_neg hg] at h; cases h

theorem rank_facts (w : ByteArray) (d : Int) : ∃ rank five, rankDAns w d = (rank, five) ∧ 0 ≤ rank ∧ rank ≤ 16384 ∧ (five = true → atDAns ((w.size : Int) / 2) d rank = (w, true) ∧ w.size ≤ 14) := by
  refine ⟨(rankDAns w d).1, (rankDAns w d).2, rfl, ?_, ?_, fun h => ?_⟩
  · show 0 ≤ (rankDAns w d).1; unfold rankDAns; split
    · show (0 : Int) ≤ ((rkL d.toNat w.data.toList 0 : Nat) : Int); omega
    · show (0 : Int) ≤ 0; omega
  · show (rankDAns w d).1 ≤ 16384; unfold rankDAns; split
    · rename_i hg
      have hr := rank_atD d.toNat w.data.toList 0 (Nat.zero_le _) (within_word hg.1 (by omega))
      have hl : w.data.toList.length = w.size := by rw [Array.length_toList]; rfl
      have h16 := @lE_16k d.toNat w.data.toList.length 0 (by have := hg.1.2.1; omega)
      show ((rkL d.toNat w.data.toList 0 : Nat) : Int) ≤ 16384
      omega
    · show (0 : Int) ≤ 16384; omega
  · unfold rankDAns at h ⊢
    by_cases hg : Word w ∧ 1 ≤ d ∧ d ≤ 7 ∧ (depthTo w w.size : Int) ≤ d
    · rw [if_pos hg]
      have hr := rank_atD d.toNat w.data.toList 0 (Nat.zero_le _) (within_word hg.1 (by omega))
      have hl : w.data.toList.length = w.size := by rw [Array.length_toList]; rfl
      have he := word_even hg.1
      have h1 := hg.1.1
      have h2 := hg.1.2.1
      rw [hl] at hr
      refine ⟨?_, h2⟩
      show atDAns _ d ((rkL d.toNat w.data.toList 0 : Nat) : Int) = _
      unfold atDAns
      have e : 2 * ((w.size : Int) / 2).toNat = w.size := by omega
      rw [e, Int.toNat_natCast, if_pos ⟨by omega, by omega, hg.2.1, hg.2.2.1, by omega, by omega⟩, hr.2, txt_data]
    · rw [if_neg hg] at h; cases h

def profChk (n : Nat) : Bool := decide ((profL n).sum = ((ends (2 * n) 0 : Nat) : Int)) && (decide ((profL n).getD 0 0 = 1) && (decide ((profL n).getD (n - 1) 0 = 1) && (profL n).all (fun z => decide (0 ≤ z) && decide (z ≤ 16384))))
theorem profChk_all : (List.range 8).all (fun n => decide (n = 0) || profChk n) = true := by decide +kernel

theorem prof_facts (p : Int) : ∃ profile six, profAns p = (profile, six) ∧ profile.length ≤ 7 ∧ (six = true → ∃ m : Nat, p = ((m + 1 : Nat) : Int) ∧ profile.length = m + 1 ∧ oneAns p = (profile.sum, true) ∧ profile.getD 0 0 = 1 ∧ profile.getD m 0 = 1 ∧ ∀ z ∈ profile, 0 ≤ z ∧ z ≤ 16384) := by
  refine ⟨(profAns p).1, (profAns p).2, rfl, ?_, fun h => ?_⟩
  · show (profAns p).1.length ≤ 7
    unfold profAns
    split
    · show (profL _).length ≤ 7; simp [profL]; omega
    · simp
  · unfold profAns at h ⊢
    by_cases hg : 1 ≤ p ∧ p ≤ 7
    · rw [if_pos hg]
      obtain ⟨m, rfl⟩ : ∃ m : Nat, p = ((m + 1 : Nat) : Int) := ⟨(p - 1).toNat, by omega⟩
      rw [Int.toNat_natCast]
      have hc := List.all_eq_true.1 profChk_all (m + 1) (List.mem_range.2 (by omega))
      rw [Bool.or_eq_true, decide_eq_true_iff] at hc
      have hc := hc.resolve_left (by omega)
      unfold profChk at hc
      rw [Bool.and_eq_true, Bool.and_eq_true, Bool.and_eq_true, decide_eq_true_iff, decide_eq_true_iff, decide_eq_true_iff, List.all_eq_true] at hc
      refine ⟨m, rfl, by show (profL _).length = _; simp [profL], ?_, hc.2.1, hc.2.2.1, fun z hz => ?_⟩
      · show oneAns _ = ((profL (m + 1)).sum, true)
        unfold oneAns
        rw [if_pos hg, Int.toNat_natCast, hc.1]
      · have := hc.2.2.2 z hz
        rw [Bool.and_eq_true, decide_eq_true_iff, decide_eq_true_iff] at this
        exact this
    · rw [if_neg hg] at h; cases h

theorem sum_take {l : List Int} (hb : ∀ z ∈ l, 0 ≤ z ∧ z ≤ 16384) : ∀ k, k ≤ l.length → 0 ≤ (l.take k).sum ∧ (l.take k).sum ≤ 16384 * k := by
  intro k
  induction k with
  | zero => intro _; simp
  | succ k ih =>
    intro hk
    have h1 := ih (by omega)
    have h2 := hb l[k] (List.getElem_mem (by omega))
    rw [List.take_succ_eq_append_getElem (by omega), List.sum_append]
    simp
    omega
theorem sum_next {l : List Int} {k : Nat} (hk : k < l.length) : (l.take (k + 1)).sum = (l.take k).sum + l.getD k 0 := by
  rw [List.take_succ_eq_append_getElem hk, List.sum_append]
  simp [hk]

/-! ### Limited sweeps -/
theorem sweepD_facts (zs : List Int) (d : Int) (hz : zs.length ≤ 8) (hd0 : 0 ≤ d) (hd8 : d ≤ 8) : ∃ sweep ok lw many two, lsAns zs d = (sweep, ok) ∧ lswAns zs d = (lw, ok) ∧ lsmAns zs d = (many, two) ∧ sweep.length ≤ 8 ∧ lw.size ≤ 60 ∧ 0 ≤ many ∧ many ≤ 7 ∧ (two = true → ok = true) ∧
    (ok = true → runAns zs lw = (sweep, true) ∧ ∃ deep : Int, depthAns lw = (deep, true) ∧ deep ≤ d) ∧
    (two = true → ∃ M K : Nat, many = (M : Int) ∧ d = (K : Int) ∧ 1 ≤ K ∧ K ≤ 7 ∧ Ord zs ∧ (M < zs.length ∨ M = 0) ∧ lsN K zs M = iota zs.length ∧ ∀ j, j < M → lsN K zs j ≠ iota zs.length) := by
  refine ⟨(lsAns zs d).1, (lsAns zs d).2, (lswAns zs d).1, (lsmAns zs d).1, (lsmAns zs d).2, rfl, ?_, rfl, ?_, ?_, ?_, ?_, ?_, ?_, ?_⟩
  · show lswAns zs d = ((lswAns zs d).1, (lsAns zs d).2)
    unfold lswAns lsAns; split <;> rfl
  · show (lsAns zs d).1.length ≤ 8
    unfold lsAns; split
    · show (lsL _ _).length ≤ 8; rw [ls_len]; exact hz
    · simp
  · show (lswAns zs d).1.size ≤ 60
    unfold lswAns; split
    · show (txt _).size ≤ 60; rw [txt_size, lsWord_len]; omega
    · decide
  · show 0 ≤ (lsmAns zs d).1
    unfold lsmAns; split
    · show (0 : Int) ≤ ((manyD _ _ : Nat) : Int); omega
    · show (0 : Int) ≤ 0; omega
  · show (lsmAns zs d).1 ≤ 7
    unfold lsmAns; split
    · rename_i h
      have := (manyD_is (d := d.toNat) h.1 (by rcases h.2.2.2 with h1 | h1; exact .inl (by omega); exact .inr h1)).2.2
      have := h.1.2.1
      show ((manyD d.toNat zs : Nat) : Int) ≤ 7; omega
    · show (0 : Int) ≤ 7; omega
  · show (lsmAns zs d).2 = true → (lsAns zs d).2 = true
    unfold lsmAns lsAns
    intro h
    split at h
    · rename_i h2; rw [if_pos ⟨h2.1, h2.2.1, h2.2.2.1⟩]
    · cases h
  · show (lsAns zs d).2 = true → runAns zs (lswAns zs d).1 = ((lsAns zs d).1, true) ∧ ∃ deep : Int, depthAns (lswAns zs d).1 = (deep, true) ∧ deep ≤ d
    unfold lsAns lswAns
    intro h
    by_cases hg : Ord zs ∧ 1 ≤ d ∧ d ≤ 7
    · rw [if_pos hg, if_pos hg]
      have hw := ls_word (d := d.toNat) (zs := zs) (by omega) hg.1.1 hg.1.2.1
      show runAns zs (txt _) = (lsL _ _, true) ∧ ∃ deep : Int, depthAns (txt _) = (deep, true) ∧ deep ≤ d
      refine ⟨?_, (depthTo (txt (lsWord d.toNat zs)) (txt (lsWord d.toNat zs)).size : Nat), ?_, by have := hw.2.1; omega⟩
      · unfold runAns; rw [if_pos ⟨hg.1, hw.1, hw.2.2.1⟩, hw.2.2.2]
      · unfold depthAns; rw [if_pos hw.1]
    · rw [if_neg hg] at h; cases h
  · show (lsmAns zs d).2 = true → ∃ M K : Nat, (lsmAns zs d).1 = (M : Int) ∧ _
    unfold lsmAns
    intro h
    by_cases hg : Ord zs ∧ 1 ≤ d ∧ d ≤ 7 ∧ (d ≠ 1 ∨ zs = iota zs.length)
    · rw [if_pos hg]
      have hm := manyD_is (d := d.toNat) hg.1 (by rcases hg.2.2.2 with h1 | h1; exact .inl (by omega); exact .inr h1)
      exact ⟨manyD d.toNat zs, d.toNat, rfl, by omega, by omega, by omega, hg.1, .inl (by have := hm.2.2; have := hg.1.1; omega), hm.1, hm.2.1⟩
    · rw [if_neg hg] at h; cases h

theorem most_facts (zs : List Int) (e : Int) : ∃ most three, mwAns zs e = (most, three) ∧ 0 ≤ most ∧ (three = true → e < 7 → ∃ more, mwAns zs (e + 1) = (more, true) ∧ most ≤ more) := by
  refine ⟨(mwAns zs e).1, (mwAns zs e).2, rfl, ?_, fun h h7 => ?_⟩
  · show 0 ≤ (mwAns zs e).1
    unfold mwAns; split
    · show (0 : Int) ≤ ((mwR _ _ : Nat) : Int); omega
    · show (0 : Int) ≤ 0; omega
  · unfold mwAns at h
    by_cases hg : Ord zs ∧ 1 ≤ e ∧ e ≤ 7
    · refine ⟨(mwR (e + 1).toNat zs : Nat), by unfold mwAns; rw [if_pos ⟨hg.1, by omega, by omega⟩], ?_⟩
      show (mwAns zs e).1 ≤ _
      unfold mwAns
      rw [if_pos hg]
      have := mwR_mono (d := e.toNat) (e := (e + 1).toNat) (by omega) zs
      show ((mwR e.toNat zs : Nat) : Int) ≤ _
      omega
    · rw [if_neg hg] at h; cases h

theorem bub_facts (ys : List Int) (hy : ys.length ≤ 8) : ∃ bubble four, bubAns ys = (bubble, four) ∧ bubble.length ≤ 8 ∧ (four = true → ys.length ≤ 7 ∧ 1 ≤ ys.length ∧ lsAns ys 1 = (ys, true) ∧ lsAns ys 2 = (bubble, true) ∧ ∃ plain, lsAns ys (ys.length : Int) = (plain, true) ∧ sweepAns ys = (plain, true) ∧ plain.length ≤ 8) := by
  refine ⟨(bubAns ys).1, (bubAns ys).2, rfl, ?_, fun h => ?_⟩
  · show (bubAns ys).1.length ≤ 8
    unfold bubAns; split
    · show (bubL ys).length ≤ 8; rw [← ls_two, ls_len]; exact hy
    · simp
  · unfold bubAns at h ⊢
    by_cases hg : Ord ys
    · rw [if_pos hg]
      have h1 := hg.1; have h7 := hg.2.1
      refine ⟨h7, h1, ?_, ?_, sweepL ys, ?_, ?_, by rw [sweep_len]; exact hy⟩
      · unfold lsAns; rw [if_pos ⟨hg, by omega, by omega⟩]; show (lsL 1 ys, true) = _; rw [ls_one]
      · unfold lsAns; rw [if_pos ⟨hg, by omega, by omega⟩]; show (lsL 2 ys, true) = _; rw [ls_two]
      · unfold lsAns; rw [if_pos ⟨hg, by omega, by omega⟩, Int.toNat_natCast, ls_n]
      · unfold sweepAns; rw [if_pos hg]
    · rw [if_neg hg] at h; cases h

theorem lsN_next (K : Nat) (zs : List Int) (h1 : 1 ≤ K) (h7 : K ≤ 7) (ho : Ord zs) (j : Nat) : lsAns (lsN K zs j) (K : Int) = (lsN K zs (j + 1), true) := by
  unfold lsAns
  rw [if_pos ⟨ord_lsN ho j, by omega, by omega⟩, Int.toNat_natCast]
  rfl

end Go.Proofs.Ytnhhnffolmgceaa.LimFC

end
