/-
  Contract: the model's l7Can, by recursion, and l7Fewest: whether stacks are enough, and how few are. Conditions: at most 7 numbers, at most 7 stacks.
-/
import Derived.Test.YtnhhnffolmgceabGreatPw9
import Derived.Test.YtnhhnffolmgceabGreatPw22
import Derived.Test.YtnhhnffolmgceabGreatPw23
import Derived.Test.YtnhhnffolmgceabGreatPw0
import Derived.Test.YtnhhnffolmgceabGreatPw17

namespace Go.Proofs.YtnhhnffolmgceabGreat.CanSC
open Go.RowKit SeesC IntsC ExactC OrdMath BesM ConfC FitsC ListsC Own1C SameC AppendTwoC WordC GoSC
set_option linter.unusedVariables false

def CanTo (zs : List Int) (k n d : Nat) : Prop := ∀ (m : Nat), m + d = n → ∀ (so : List Int) (g cp u : Nat) (W : World) (v : Value), Sees W v n (vals zs) → so.length = m → u ≤ k → Sees W (.slice (some ⟨g, 0, none⟩) m cp) m (vals so) →
  Calls Tryz.prog 89 #[v, .slice (some ⟨g, 0, none⟩) m cp, .int .i64 (u : Int), .int .i64 (k : Int)] W fun e w' => e = .returned (.bool (fitsB zs so && canG zs k d so u)) ∧ Below W.heap.size W w'

def canB (zs : List Int) (k d : Nat) (so : List Int) (u x : Nat) : Bool := (List.range x).any fun (y : Nat) => okN zs so (y : Int) && canG zs k d (so ++ [(y : Int)]) (max u (y + 1))

theorem canB_next (zs : List Int) (k d : Nat) (so : List Int) (u x : Nat) : canB zs k d so u (x + 1) = (canB zs k d so u x || (okN zs so (x : Int) && canG zs k d (so ++ [(x : Int)]) (max u (x + 1)))) := by
  unfold canB
  rw [List.range_succ, List.any_append]
  simp

theorem canB_mono {zs : List Int} {k d : Nat} {so : List Int} {u x y : Nat} (h : x ≤ y) (hx : canB zs k d so u x = true) : canB zs k d so u y = true := by
  unfold canB at *
  rw [List.any_eq_true] at *
  obtain ⟨z, hz, h2⟩ := hx
  exact ⟨z, List.mem_range.2 (by have := List.mem_range.1 hz; omega), h2⟩

set_option maxRecDepth 100000 in
set_option maxHeartbeats 4000000 in
theorem can_step (zs : List Int) (n : Nat) (hl : zs.length = n) (hn7 : n ≤ 7) (k : Nat) (hk7 : k ≤ 7) (d : Nat) (IH : ∀ d', d' < d → CanTo zs k n d') : CanTo zs k n d := by
  intro m hmd so g cp u W v hv hso huk hu
  have hV := hv
  obtain ⟨i0, hi, hz0, hz1, hz2⟩ := info_parts infoI
  obtain ⟨r, hr⟩ : ∃ r, fitsB zs so = r := ⟨_, rfl⟩
  obtain ⟨_, ad, cap, rfl, _, _⟩ := hv
  have CF := Go.Lib.hid (l7Fits_any zs so r hr W (.slice ad n cap) n hV (.slice (some ⟨g, 0, none⟩) m cp) m hu (by omega) (by omega))
  have HV := Go.Lib.hid hV
  have HU := Go.Lib.hid hu
  have HL := Go.Lib.hid (And.intro hl (And.intro hso hr))
  have IHH := Go.Lib.hid IH
  rw [hr]
  clear IH hu hl hso hV
  cases r with
  | false =>
    clear hr
    go_enter Tryz.func89, Tryz.ntmps89
    go_wp2_with fail
    refine (CF.out).mono ?_
    rintro e w1 ⟨rfl, hd⟩
    have HB1 : Hid (Below W.heap.size W w1) := Go.Lib.hid (hd.below _)
    clear hd
    go_wp2_with fail
    go_ret
    exact ⟨rfl, HB1.out⟩
  | true =>
    clear hr
    rw [Bool.true_and]
    cases d with
    | zero =>
      have hmn : m = n := by omega
      subst hmn
      clear hmd
      go_enter Tryz.func89, Tryz.ntmps89
      go_wp2_with fail
      refine (CF.out).mono ?_
      rintro e w1 ⟨rfl, hd⟩
      have HB1 : Hid (Below W.heap.size W w1) := Go.Lib.hid (hd.below _)
      clear hd
      go_wp2_with fail
      go_ret
      exact ⟨rfl, HB1.out⟩
    | succ d =>
      have hne : ((m : Int) == (n : Int)) = false := by rw [beq_eq_false_iff_ne]; omega
      have hne2 : (m == n) = false := by rw [beq_eq_false_iff_ne]; omega
      obtain ⟨ret, hret⟩ : ∃ ret, canG zs k (d + 1) so u = ret := ⟨_, rfl⟩
      have HR : Hid (canB zs k d so u (min (u + 1) k) = ret) := Go.Lib.hid (by rw [← hret]; rfl)
      rw [hret]
      clear hret
      have HMD := Go.Lib.hid hmd
      have hm7 : m ≤ 7 := by omega
      clear hmd
      go_enter Tryz.func89, Tryz.ntmps89
      go_wp2_with fail
      refine (CF.out).mono ?_
      rintro e w1 ⟨rfl, hd⟩
      have HB1 : Hid (Below W.heap.size W w1) := Go.Lib.hid (hd.below _)
      clear hd CF
      go_wp2_with fail
      go_loopw [9] (fun xv wr => ∃ (x : Nat), x ≤ k ∧ x ≤ u + 1 ∧ xv = .int .i64 (x : Int) ∧ Hid (canB zs k d so u x = false ∧ Below W.heap.size W wr)) (fun xv _ => k - (intOf xv).toNat)
      case atStart => exact ⟨0, Nat.zero_le _, Nat.zero_le _, rfl, Go.Lib.hid ⟨rfl, HB1.out⟩⟩
      case round =>
        obtain ⟨x, hxk, hxu, rfl, HX⟩ := hrel
        obtain ⟨wo, rfl⟩ : ∃ wo, wo = wr := ⟨_, rfl⟩
        by_cases hlt : x < k ∧ x ≤ u
        · have hson := HU.out.grow HX.out.2
          have HRB : Hid (wo.heap.size ≤ wo.heap.size) := Go.Lib.hid (Nat.le_refl _)
          have CO := Go.Lib.hid (fun (X : World) (hX : Below wo.heap.size wo X) => l1Own_any so g 0 m cp X HL.out.2.1 (by omega) (own_zero (hson.grow hX)))
          have HMX := Go.Lib.hid (fun W' => l1Most_any u (x + 1) W')
          have hxi : (x : Int) < (k : Int) := by omega
          have hxui : (x : Int) ≤ (u : Int) := by omega
          have hmx : max u (x + 1) ≤ k := by omega
          have hst := canB_next zs k d so u x
          rw [HX.out.1, Bool.false_or, ← fitsB_snoc (x := (x : Int)) (by have h1 := HL.out.1; have h2 := HL.out.2.1; have h3 := HMD.out; omega) HL.out.2.2] at hst
          obtain ⟨q, hq⟩ : ∃ q, (fitsB zs (so ++ [(x : Int)]) && canG zs k d (so ++ [(x : Int)]) (max u (x + 1))) = q := ⟨_, rfl⟩
          rw [hq] at hst
          have HQ := Go.Lib.hid (And.intro hq hst)
          obtain ⟨mu, hmu⟩ : ∃ mu, max u (x + 1) = mu := ⟨_, rfl⟩
          rw [hmu] at hmx
          have HMU := Go.Lib.hid (And.intro hmu hmx)
          clear hson hst hq hmu hmx
          go_wp2_with fail
          refine (CO.out _ (Below.refl _ _)).mono ?_
          rintro e wA ⟨gA, cA, rfl, hoA, hbA⟩
          have HA := Go.Lib.hid (And.intro hoA hbA)
          have hszA := hbA.size
          clear hoA hbA
          go_wp2_with (at_builtin; refine wpList_append_two _ rfl _ _ 24 rfl wo.heap.size 3 i0 (.int .i64 0) 1 8 Tryz.underlying24 hi hz0 hz1 hz2 rfl (by decide) (.slice (some ⟨gA, 0, none⟩) m cA) m (vals so) rfl (World.ownsRow.alloc (own_lower HA.out.1 HRB.out) _) ⟨wA.heap.size, 0, none⟩ 1 1 [.int .i64 (x : Int)] rfl rfl (cell_one_new _ _ _) (fun u hu => by simp at hu; subst hu; rfl) (by unfold maxLen; omega) (by omega) (by have := HRB.out; simp; omega) ?_; intro v4 w4 hown4 hgrow4 _; obtain ⟨g4, c4, rfl⟩ := ownsRow_succ hown4; have H4 := Go.Lib.hid (app_one hown4 HA.out.1 HA.out.2 hgrow4); clear hown4 hgrow4; have CR := Go.Lib.hid (IHH.out d (Nat.lt_succ_self d) (m + 1) (by have := HMD.out; omega) (so ++ [(x : Int)]) g4 c4 mu w4 (.slice ad n cap) (HV.out.grow (HX.out.2.trans (H4.out.2.mono HX.out.2.size))) (by rw [List.length_append, HL.out.2.1]; rfl) HMU.out.2 (Sees.owns H4.out.1)))
          have CM := Go.Lib.hid (by have h1 := HMX.out w4; rw [HMU.out.1, show ((x + 1 : Nat) : Int) = (x : Int) + 1 from by omega] at h1; exact h1)
          refine (CM.out).mono ?_
          rintro e wm ⟨rfl, hwm⟩
          obtain rfl : w4 = wm := hwm
          go_wp2_with fail
          refine (CR.out).mono ?_
          rintro e w5 ⟨rfl, hb5⟩
          have hqm : (fitsB zs (so ++ [(x : Int)]) && canG zs k d (so ++ [(x : Int)]) mu) = q := by rw [← HMU.out.1]; exact HQ.out.1
          rw [hqm]
          have hb5W : Below W.heap.size W w5 := HX.out.2.trans ((H4.out.2.trans (hb5.mono H4.out.2.size)).mono HX.out.2.size)
          have H5 := Go.Lib.hid hb5W
          clear hb5 hb5W hqm CR CO CM
          cases q with
          | true =>
            have HF : Hid (ret = true) := Go.Lib.hid (by rw [← HR.out]; exact canB_mono (by omega) HQ.out.2)
            go_wp2_with fail
            go_ret
            rw [HF.out]
            exact ⟨rfl, H5.out⟩
          | false =>
            have HN : Hid (canB zs k d so u (x + 1) = false ∧ Below W.heap.size W w5) := Go.Lib.hid ⟨HQ.out.2, H5.out⟩
            go_wp2_with fail
            go_roundw
            case rel => exact ⟨x + 1, by omega, by omega, by go_num, HN⟩
            case measure => simp [intOf]; omega
        · have HF : Hid (ret = false) := Go.Lib.hid (by rw [← HR.out, show min (u + 1) k = x from by omega]; exact HX.out.1)
          have H5 := Go.Lib.hid HX.out.2
          by_cases hxu2 : x ≤ u
          · have hxui : (x : Int) ≤ (u : Int) := by omega
            have hxi : ¬ (x : Int) < (k : Int) := by omega
            clear hlt
            go_wp2_with fail
            go_ret
            rw [HF.out]
            exact ⟨by first | rfl | (show Ending.returned (Value.bool (decide ((x : Int) < (k : Int)))) = _; rw [decide_eq_false (by omega)]), H5.out⟩
          · have hxui : ¬ (x : Int) ≤ (u : Int) := by omega
            clear hlt
            go_wp2_with fail
            go_ret
            rw [HF.out]
            exact ⟨rfl, H5.out⟩

theorem can_all (zs : List Int) (n : Nat) (hl : zs.length = n) (hn7 : n ≤ 7) (k : Nat) (hk7 : k ≤ 7) (d : Nat) : CanTo zs k n d := by
  induction d using Nat.strongRecOn with
  | ind d ih => exact can_step zs n hl hn7 k hk7 d ih

theorem sees_empty (W : World) : Sees (W.alloc (.cells #[] 3)) (.slice (some ⟨W.heap.size, 0, none⟩) 0 0) 0 (vals []) :=
  Sees.owns (World.ownsRow_made (base := W.heap.size) (e := 3) (size := 1) W #[] 0 (Nat.le_refl _) (by unfold maxLen; omega) rfl)

/-- From nothing on. -/
theorem can_start (zs : List Int) (n : Nat) (hl : zs.length = n) (hn7 : n ≤ 7) (k : Nat) (hk7 : k ≤ 7) (W : World) (v : Value) (hv : Sees W v n (vals zs)) :
    Calls Tryz.prog 89 #[v, .slice (some ⟨W.heap.size, 0, none⟩) 0 0, .int .i64 0, .int .i64 (k : Int)] (W.alloc (.cells #[] 3)) fun e w' => e = .returned (.bool (enough zs k)) ∧ Below W.heap.size W w' := by
  have b1 := (Below.refl W.heap.size W).alloc (Nat.le_refl _) (.cells #[] 3)
  refine (can_all zs n hl hn7 k hk7 n 0 (by omega) [] W.heap.size 0 0 _ v (hv.grow b1) rfl (by omega) (sees_empty W)).mono ?_
  rintro e w' ⟨rfl, hb⟩
  refine ⟨?_, b1.trans (hb.mono b1.size)⟩
  have h1 : fitsB zs [] = true := fitsB_iff.2 (fits_nil zs)
  rw [h1, Bool.true_and, ← hl, enough_can]

set_option maxRecDepth 100000 in
set_option maxHeartbeats 2000000 in
theorem l7Fewest_any (zs : List Int) (hord : Ord zs) (W : World) (v : Value) (n : Nat) (hv : Sees W v n (vals zs)) :
    Calls Tryz.prog 62 #[v] W fun e w' => e = .returned (.int .i64 ((fewest zs : Nat) : Int)) ∧ Below W.heap.size W w' := by
  have hl : zs.length = n := by simpa using hv.1
  have hn7 : n ≤ 7 := by have := hord.2.1; omega
  have hf7 : fewest zs ≤ 7 := by have := fewest_le hord.1; have := hord.2.1; omega
  have hf1 := fewest_pos zs
  have HV := Go.Lib.hid hv
  have HE := Go.Lib.hid (And.intro (fewest_enough zs) (fun m (h1 : 1 ≤ m) (h2 : m < fewest zs) => fewest_least (zs := zs) h1 h2))
  have CC := Go.Lib.hid (fun (X : World) (hX : Below W.heap.size W X) (k : Nat) (hk : k ≤ 7) => can_start zs n hl hn7 k hk X v (hv.grow hX))
  obtain ⟨_, ad, cap, rfl, _, _⟩ := hv
  obtain ⟨f, hf⟩ : ∃ f, fewest zs = f := ⟨_, rfl⟩
  rw [hf] at hf7 hf1 HE ⊢
  clear hf hl hord
  go_enter Tryz.func62, Tryz.ntmps62
  go_wp2
  go_loopw [3] (fun kv wr => ∃ k : Nat, 1 ≤ k ∧ k ≤ f ∧ kv = .int .i64 (k : Int) ∧ Hid (Below W.heap.size W wr)) (fun kv _ => f - (intOf kv).toNat)
  case atStart => exact ⟨1, Nat.le_refl _, hf1, rfl, Go.Lib.hid (Below.refl _ _)⟩
  case round =>
    obtain ⟨k, hk1, hkf, rfl, HB⟩ := hrel
    obtain ⟨wo, rfl⟩ : ∃ wo, wo = wr := ⟨_, rfl⟩
    obtain ⟨q, hq⟩ : ∃ q, enough zs k = q := ⟨_, rfl⟩
    have CK := Go.Lib.hid (CC.out wo HB.out k (by omega))
    rw [hq] at CK
    have HQ := Go.Lib.hid hq
    clear hq
    go_wp2_with fail
    refine (CK.out).mono ?_
    rintro e w1 ⟨rfl, hb⟩
    have HB1 : Hid (Below W.heap.size W w1) := Go.Lib.hid (HB.out.trans (hb.mono HB.out.size))
    clear hb CK
    cases q with
    | true =>
      have hkf2 : k = f := by
        apply Classical.byContradiction
        intro hne
        have := HE.out.2 k hk1 (by omega)
        rw [HQ.out] at this
        cases this
      have HF := Go.Lib.hid hkf2
      clear hkf2
      go_wp2_with fail
      go_ret
      rw [HF.out]
      exact ⟨rfl, HB1.out⟩
    | false =>
      have hkf2 : k < f := by
        apply Classical.byContradiction
        intro hne
        have e : k = f := by omega
        have := HE.out.1
        rw [← e, HQ.out] at this
        cases this
      go_wp2_with fail
      go_roundw
      case rel => exact ⟨k + 1, by omega, by omega, by go_num, HB1⟩
      case measure => simp [intOf]; omega

end Go.Proofs.YtnhhnffolmgceabGreat.CanSC
