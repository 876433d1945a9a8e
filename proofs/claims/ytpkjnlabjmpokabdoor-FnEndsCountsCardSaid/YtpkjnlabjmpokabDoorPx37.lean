/-
  Contracts and plain facts that the laws' texts lean on. Conditions: as each states.
-/
import Derived.Test.YtpkjnlabjmpokabDoorPx33
import Derived.Test.YtpkjnlabjmpokabDoorPx15
import Derived.Test.YtpkjnlabjmpokabDoorPx22
import Derived.Test.YtpkjnlabjmpokabDoorPx28
import Derived.Test.YtpkjnlabjmpokabDoorPx2

section
namespace Go.Proofs.YtpkjnlabjmpokabDoor.EOSpC
open Go.RowKit SeesC IntsC ExactC OrdMath OrdFacts WordMath OrderC ListsC ListsEC ListsFC ListsGC WithC AllO SameC OrdsSpC IterC AtC ToC EndM EToC

/-- Does an order come out of another one by an ends word. -/
def eCan (zs y : List Int) : Bool := (optAns (eRes zs y)).2

/-- What is listed. -/
def Outs8 (zs : List Int) (R : List (List Int)) : Prop := R = if Ord zs then (allO zs.length).filter (eCan zs) else []

theorem eo_unique {zs : List Int} {R S : List (List Int)} (h1 : Outs8 zs R) (h2 : Outs8 zs S) : R = S := by
  unfold Outs8 at h1 h2; rw [h1, h2]

theorem eo_16k {zs : List Int} {R : List (List Int)} (h : Outs8 zs R) : R.length ≤ 16384 := by
  unfold Outs8 at h
  rw [h]
  split
  · rename_i ho
    have h1 := List.length_filter_le (eCan zs) (allO zs.length)
    rw [allO_len] at h1
    have := fact_7 ho.2.1
    omega
  · simp

/-- The orders are returned, in memory of the call's own. -/
def EOTo (w : World) (zs : List Int) (e : Ending) (w' : World) : Prop :=
  ∃ v R, e = .returned (.tuple #[v, .bool (isOrd zs)]) ∧ Outs8 zs R ∧ Lists w' w.heap.size zs.length v (R.map vals) ∧ Below w.heap.size w w'

theorem lists_zero {w : World} {base n : Nat} {v : Value} (h : w.ownsRow base 24 1 v 0 []) : Lists w base n v [] :=
  ⟨[], rfl, h, fun i hi => absurd hi (by simp), by simp, fun p hp => by simp at hp⟩

set_option maxRecDepth 100000 in
set_option maxHeartbeats 4000000 in
theorem specEO (zs : List Int) (hz : zs.length ≤ 1048576) (W : World) (v : Value) (n : Nat) (hv : Sees W v n (vals zs)) :
    Calls Tryd.prog 7 #[v] W fun e w' => EOTo W zs e w' := by
  obtain ⟨j0, hj, hy0, hy1, hy2⟩ := info_parts infoL
  have hl : zs.length = n := by simpa using hv.1
  have hn : n ≤ 1048576 := by omega
  obtain ⟨r, hr⟩ : ∃ r, isOrd zs = r := ⟨_, rfl⟩
  have CO := Go.Lib.hid (fun W' (hs' : Sees W' v n (vals zs)) => l2Order_any W' v n zs r hs' hn hr)
  have HV := Go.Lib.hid hv
  have HR := Go.Lib.hid hr
  have hB0 : Below W.heap.size W (W.alloc (.cells #[] 24)) := (Below.refl _ _).alloc (Nat.le_refl _) _
  have hO0 : (W.alloc (.cells #[] 24)).ownsRow W.heap.size 24 1 (.slice (some ⟨W.heap.size, 0, none⟩) 0 0) 0 [] := World.ownsRow_made (base := W.heap.size) (e := 24) (size := 1) W #[] 0 (Nat.le_refl _) (by unfold maxLen; omega) rfl
  have HB0 := Go.Lib.hid (And.intro hB0 hO0)
  obtain ⟨_, ad, cap, rfl, _, _⟩ := hv
  clear hr hB0 hO0
  cases r with
  | false =>
    have hno : ¬ Ord zs := of_decide_eq_false HR.out
    go_enter Tryd.func7, Tryd.ntmps7
    go_wp2_with fail
    refine (CO.out _ (HV.out.grow HB0.out.1)).mono ?_
    rintro e w1 ⟨rfl, hd⟩
    have H1 := Go.Lib.hid (And.intro (HB0.out.1.trans (hd.below _)) (kept_call HB0.out.2 (hd.below _)))
    clear hd
    go_wp2_with fail
    go_ret2
    exact ⟨_, [], by rw [HR.out]; rfl, by unfold Outs8; rw [if_neg hno], lists_zero H1.out.2, H1.out.1⟩
  | true =>
    have hord : Ord zs := of_decide_eq_true HR.out
    have hn7 : n ≤ 7 := by have := hord.2.1; omega
    have hn1 : 1 ≤ n := by have := hord.1; omega
    have CA := Go.Lib.hid (fun W' => l2Orders_any n hn1 hn7 W')
    obtain ⟨N, hN⟩ : ∃ N, (allO n).length = N := ⟨_, rfl⟩
    have hN1 : 1 ≤ N := by rw [← hN, allO_len]; exact fact_pos n
    have hN2 : N ≤ 5040 := by rw [← hN, allO_len]; exact fact_7 hn7
    have HN := Go.Lib.hid hN
    have HOR := Go.Lib.hid (fun x (hx : x ∈ allO n) => (mem_allO hn1 hn7).1 hx)
    have HL := Go.Lib.hid hl
    clear hN
    go_enter Tryd.func7, Tryd.ntmps7
    go_wp2_with fail
    refine (CO.out _ (HV.out.grow HB0.out.1)).mono ?_
    rintro e w1 ⟨rfl, hd⟩
    have H1 := Go.Lib.hid (And.intro (HB0.out.1.trans (hd.below _)) (And.intro (kept_call HB0.out.2 (hd.below _)) (hd.below (W.alloc (.cells #[] 24)).heap.size).size))
    clear hd CO
    go_wp2_with fail
    refine (CA.out _).mono ?_
    rintro e w2 ⟨va, rfl, hL, hb⟩
    obtain ⟨gs, hW2⟩ := Lists.with hL
    have hoa := hW2.2.1
    rw [List.length_map, HN.out] at hoa
    obtain ⟨g1, c1, rfl⟩ := own_pos hoa (by omega)
    have hsz1 : W.heap.size + 1 ≤ w1.heap.size := by have := H1.out.2.2; simpa using this
    have hg1 := own_block_lt hoa (q := g1) rfl
    have H2 := Go.Lib.hid (And.intro (kept_call H1.out.2.1 hb) (And.intro hW2 (And.intro (H1.out.1.trans (hb.mono H1.out.1.size)) (And.intro hsz1 hg1))))
    clear hL hb hW2 hoa CA hsz1 hg1
    go_wp2_with fail
    go_loopw [4, 6] (fun ov iv wr => ∃ (i g2 c2 N2 : Nat) (Y : List (List Int)) (hs : List (Nat × Nat)), i ≤ N ∧ iv = .int .i64 i ∧ ov = .slice (some ⟨g2, 0, none⟩) N2 c2 ∧ Hid (Y = ((allO n).take i).filter (eCan zs)) ∧
      Hid (N2 = Y.length ∧ With wr W.heap.size n (.slice (some ⟨g2, 0, none⟩) N2 c2) (Y.map vals) hs ∧ With wr w1.heap.size n (.slice (some ⟨g1, 0, none⟩) N c1) ((allO n).map vals) gs ∧ Below W.heap.size W wr ∧ g2 ≠ g1 ∧ (∀ r ∈ hs, ∃ k, k < i ∧ gs.getD k (0, 0) = r))) (fun _ i _ => N - (intOf i).toNat)
    case atStart => exact ⟨0, W.heap.size, 0, 0, [], [], Nat.zero_le _, rfl, rfl, Go.Lib.hid (by simp), Go.Lib.hid ⟨rfl, ⟨rfl, H2.out.1, fun i hi => absurd hi (by simp), by simp⟩, H2.out.2.1, H2.out.2.2.1, by have h1 := H2.out.2.2.2.1; have h2 := H2.out.2.2.2.2.1; omega, fun r hr => by simp at hr⟩⟩
    case round =>
      obtain ⟨i, g2, c2, N2, Y, hs, hiN, rfl, rfl, HY, HX⟩ := hrel
      clear HB0
      by_cases hlt : i < N
      · obtain ⟨wj, rfl⟩ : ∃ wj, wj = wr := ⟨_, rfl⟩
        have hil : i < (allO n).length := by rw [HN.out]; exact hlt
        obtain ⟨q, hq⟩ : ∃ q, (allO n)[i] = q := ⟨_, rfl⟩
        have hqo := HOR.out q (by rw [← hq]; exact List.getElem_mem _)
        obtain ⟨p, hpp⟩ : ∃ p, gs.getD i (0, 0) = p := ⟨_, rfl⟩
        have hmapl : ((allO n).map vals).length = N := by rw [List.length_map, HN.out]
        have hW := HX.out.2.2.1
        have hgl : gs.length = N := by rw [hW.1, hmapl]
        have hog := hW.2.1
        rw [hmapl] at hog
        have hob := hW.2.2.1 i (by rw [hmapl]; exact hlt)
        have hgd : ((allO n).map vals).getD i [] = vals q := by rw [← hq]; simp [hil]
        rw [hpp, hgd] at hob
        have hck : wj.cell? ⟨g1, i, none⟩ = some (.slice (some ⟨p.1, 0, none⟩) n p.2) := by
          rw [hog.cellAt i (by omega), ← hpp]
          simp [show i < gs.length by omega, sl]
        obtain ⟨p1, p2⟩ := p
        unfold sl at hob
        simp only at hob hck
        obtain ⟨kp, hkp⟩ : ∃ kp, eCan zs q = kp := ⟨_, rfl⟩
        obtain ⟨tx, htx⟩ : ∃ tx, (optAns (eRes zs q)).1 = tx := ⟨_, rfl⟩
        have CS0 := l8To_any zs q hord (by rw [hl, hqo.2]) wj _ n (HV.out.grow HX.out.2.2.2.1) (.slice (some ⟨p1, 0, none⟩) n p2) (Sees.owns hob)
        have hkp2 : (optAns (eRes zs q)).2 = kp := hkp
        rw [htx, hkp2] at CS0
        have CS := Go.Lib.hid CS0
        clear CS0 htx hkp2
        have HE := Go.Lib.hid (And.intro (Exists.intro hil hq : ∃ h : i < (allO n).length, (allO n)[i] = q) (And.intro hpp (And.intro hgl (And.intro hob (And.intro hkp hqo.2)))))
        have hlti : (i : Int) < (N : Int) := by omega
        clear hq hqo hpp hW hgl hog hob hgd hkp hil
        go_wp2_with fail
        refine (CS.out).mono ?_
        rintro e w4 ⟨rfl, hb5⟩
        have hck4 : w4.cell? ⟨g1, i, none⟩ = some (.slice (some ⟨p1, 0, none⟩) n p2) := (hb5.cell (p := ⟨g1, i, none⟩) (World.block_lt_of_cell? wj _ hck)).trans hck
        have H5 := Go.Lib.hid hb5
        clear hb5 CS hck
        cases kp with
        | false =>
          have HYN : Hid (Y = ((allO n).take (i + 1)).filter (eCan zs)) := Go.Lib.hid (by
            obtain ⟨⟨hil, hq⟩, _, _, _, hkp, _⟩ := HE.out
            rw [filter_next _ hil, hq, hkp, HY.out]; simp)
          have H6 : Hid (N2 = Y.length ∧ With w4 W.heap.size n (.slice (some ⟨g2, 0, none⟩) N2 c2) (Y.map vals) hs ∧ With w4 w1.heap.size n (.slice (some ⟨g1, 0, none⟩) N c1) ((allO n).map vals) gs ∧ Below W.heap.size W w4 ∧ g2 ≠ g1 ∧ (∀ r ∈ hs, ∃ k, k < i + 1 ∧ gs.getD k (0, 0) = r)) :=
            Go.Lib.hid ⟨HX.out.1, HX.out.2.1.kept H5.out, HX.out.2.2.1.kept H5.out, HX.out.2.2.2.1.trans (H5.out.mono HX.out.2.2.2.1.size), HX.out.2.2.2.2.1, fun r hr => by obtain ⟨k, hk, e⟩ := HX.out.2.2.2.2.2 r hr; exact ⟨k, by omega, e⟩⟩
          clear hck4
          go_wp2
          go_roundw
          case rel => exact ⟨i + 1, g2, c2, N2, Y, hs, by omega, by go_num, rfl, HYN, H6⟩
          case measure => simp [intOf]; omega
        | true =>
          have hWo := HX.out.2.1.kept H5.out
          have hWa := HX.out.2.2.1.kept H5.out
          have hYl : (Y.map vals).length = N2 := by rw [List.length_map, ← HX.out.1]
          have hbW := HX.out.2.2.2.1.trans (H5.out.mono HX.out.2.2.2.1.size)
          have ho6 := hWo.2.1
          rw [hYl] at ho6
          have hN2b : N2 ≤ 5040 := by
            rw [HX.out.1, HY.out]
            have h1 := List.length_filter_le (eCan zs) ((allO n).take i)
            rw [List.length_take] at h1
            have := HN.out
            omega
          have hba : Below w4.heap.size w4 (w4.alloc (.cells #[.slice (some ⟨p1, 0, none⟩) n p2] 24)) := (Below.refl _ _).alloc (Nat.le_refl _) _
          have HA := Go.Lib.hid (And.intro (kept_call ho6 hba) (And.intro (hWo.kept hba) (And.intro (hWa.kept hba) (And.intro (hbW.alloc hbW.size (.cells #[.slice (some ⟨p1, 0, none⟩) n p2] 24)) (And.intro hYl (own_block_lt (n := N) (by have := hWa.2.1; rw [List.length_map, HN.out] at this; exact this) (q := g1) rfl).2)))))
          have hsz6 := HA.out.2.2.2.1.size
          clear hWo hWa hYl hbW ho6 hba
          go_wp2_with (at_builtin; refine wpList_append_two _ rfl _ _ 26 rfl W.heap.size 24 j0 (.slice none 0 0) 1 24 Tryd.underlying26 hj hy0 hy1 hy2 rfl (by decide) _ _ _ rfl HA.out.1 ⟨w4.heap.size, 0, none⟩ 1 1 [.slice (some ⟨p1, 0, none⟩) n p2] rfl rfl (cell_one_new _ _ _) (fun x hx => by simp at hx; subst hx; rfl) (by unfold maxLen; omega) (by omega) (by simpa using hsz6) ?_; intro v' w6 hown6 hgrow6 hnew6)
          obtain ⟨g6, c6, rfl⟩ := ownsRow_succ hown6
          have hob6 : (w4.alloc (.cells #[.slice (some ⟨p1, 0, none⟩) n p2] 24)).ownsRow W.heap.size 3 1 (sl n (p1, p2)) n (vals q) := own_lower (kept_call (kept_call HE.out.2.2.2.1 H5.out) ((Below.refl _ _).alloc (Nat.le_refl _) _)) (by have := H2.out.2.2.2.1; omega)
          have hfr : ∀ r ∈ hs, r.1 ≠ (p1, p2).1 := fun r hr e => by
            obtain ⟨k, hk, ek⟩ := HX.out.2.2.2.2.2 r hr
            have h1 := nodup_ne HX.out.2.2.1.2.2.2 (i := k) (j := i) (by rw [HE.out.2.2.1]; omega) (by rw [HE.out.2.2.1]; exact hlt) (by omega)
            rw [ek, HE.out.2.1] at h1
            exact h1 e
          have hW6 : With w6 W.heap.size n (.slice (some ⟨g6, 0, none⟩) (N2 + 1) c6) ((Y ++ [q]).map vals) (hs ++ [(p1, p2)]) := by
            rw [List.map_append]
            exact with_snoc HA.out.2.1 hob6 hfr (by rw [HA.out.2.2.2.2.1]; exact hown6) hgrow6
          have hg61 : g6 ≠ g1 := by
            rcases hnew6 with h | h
            · have : g6 = g2 := Option.some.inj h
              rw [this]; exact HX.out.2.2.2.2.1
            · have h1 := h g6 rfl
              have h2 := HA.out.2.2.2.2.2
              simp at h1
              omega
          have hA6 := with_mark HA.out.2.2.1 hgrow6 (fun a ha e => by
            have h1 : g2 = a := Option.some.inj ha
            have h2 : g1 = a := Option.some.inj e
            exact HX.out.2.2.2.2.1 (h1.trans h2.symm)) (fun a ha k hk e => own_types HA.out.1 (HA.out.2.2.1.2.2.1 k hk) (by decide) ha (by show some (gs.getD k (0, 0)).1 = some a; rw [e]))
          have hb6 := HA.out.2.2.2.1.grown hgrow6 hsz6 (fun k hk => (HA.out.1.lt k hk).1)
          have HYN : Hid (Y ++ [q] = ((allO n).take (i + 1)).filter (eCan zs)) := Go.Lib.hid (by
            obtain ⟨⟨hil, hq⟩, _, _, _, hkp, _⟩ := HE.out
            rw [filter_next _ hil, hq, hkp, HY.out]; simp)
          have H6 : Hid (N2 + 1 = (Y ++ [q]).length ∧ With w6 W.heap.size n (.slice (some ⟨g6, 0, none⟩) (N2 + 1) c6) ((Y ++ [q]).map vals) (hs ++ [(p1, p2)]) ∧ With w6 w1.heap.size n (.slice (some ⟨g1, 0, none⟩) N c1) ((allO n).map vals) gs ∧ Below W.heap.size W w6 ∧ g6 ≠ g1 ∧ (∀ r ∈ hs ++ [(p1, p2)], ∃ k, k < i + 1 ∧ gs.getD k (0, 0) = r)) :=
            Go.Lib.hid ⟨by rw [List.length_append, ← HX.out.1]; rfl, hW6, hA6, hb6, hg61, fun r hr => by
              rw [List.mem_append, List.mem_singleton] at hr
              rcases hr with hr | rfl
              · obtain ⟨k, hk, e⟩ := HX.out.2.2.2.2.2 r hr; exact ⟨k, by omega, e⟩
              · exact ⟨i, by omega, HE.out.2.1⟩⟩
          clear hown6 hgrow6 hnew6 hob6 hfr hW6 hg61 hA6 hb6 hsz6 hck4
          go_wp2
          go_roundw
          case rel => exact ⟨i + 1, g6, c6, N2 + 1, Y ++ [q], hs ++ [(p1, p2)], by omega, by go_num, rfl, HYN, H6⟩
          case measure => simp [intOf]; omega
      · have hiN2 : i = N := by omega
        have HF : Hid (Outs8 zs Y ∧ Lists wr W.heap.size zs.length (.slice (some ⟨g2, 0, none⟩) N2 c2) (Y.map vals)) := Go.Lib.hid ⟨by
          rw [HY.out, List.take_of_length_le (by rw [HN.out]; omega)]
          unfold Outs8
          rw [if_pos hord, HL.out], by rw [HL.out]; exact HX.out.2.1.lists⟩
        have hlti : ¬ (i : Int) < (N : Int) := by omega
        clear hiN2
        go_wp2
        go_ret2
        exact ⟨_, Y, by rw [HR.out]; rfl, HF.out.1, HF.out.2, HX.out.2.2.2.1⟩

end Go.Proofs.YtpkjnlabjmpokabDoor.EOSpC

end

section
namespace Go.Proofs.YtpkjnlabjmpokabDoor.ECNum
open AllO OrdMath EndM EOSpC EPcM

theorem ce_le6 : ∀ n < 7, ((allO n).filter (eCan (iota n))).length ≤ cp (2 * n) n 0 := by decide +kernel
theorem ce_le7 : ((allO 7).filter (eCan (iota 7))).length ≤ cp (2 * 7) 7 0 := by decide +kernel

theorem ce_le {n : Nat} (h : n ≤ 7) : ((allO n).filter (eCan (iota n))).length ≤ cp (2 * n) n 0 := by
  by_cases h7 : n = 7
  · subst h7; exact ce_le7
  · exact ce_le6 n (by omega)

end Go.Proofs.YtpkjnlabjmpokabDoor.ECNum

end
