/-
  Contract: PatternsIn of the model. Conditions: lists of at most 2^20 numbers.
-/
import Derived.Test.YtmnggcnipjdimabPatsMath
import Derived.Test.YtmnggcnipjdimabPutSame
import Derived.Test.YtmnggcnipjdimabSpecPl
import Derived.Test.YtmnggcnipjdimabListsE
import Derived.Test.YtmnggcnipjdimabDrops
namespace Go.Proofs.Ytmnggcnipjdimab.PatsSpecC
open Go.RowKit SeesC IntsC ExactC OrdMath InC OrderC PatMath ShapeC CmpC ListsC ListsBC ListsCC ListsEC ListsFC PlacesC ChoicesC HasC SameC SpecPlC DropsC PutC PutSameC OutsMath CompMath PatsMath

theorem mem_put {L : List (List Int)} {o x : List Int} {k : Nat} : x ∈ L.take k ++ [o] ++ L.drop k ↔ x ∈ L ∨ x = o := by
  have h := (perm_put (L := L) (o := o) (k := k)).mem_iff (a := x)
  rw [h, List.mem_append, List.mem_singleton]

theorem ll_none {w w1 : World} {base m : Nat} (hb : Below w.heap.size w w1) (hle : w.heap.size ≤ base) (ho : w1.ownsRow base 24 1 (.slice (some ⟨base, 0, none⟩) 0 0) 0 []) (Q : List (List Int) → Prop) (hQ : Q []) :
    LLTo w (.returned (.tuple #[.slice (some ⟨base, 0, none⟩) 0 0, .bool false])) w1 m false Q :=
  ⟨_, [], rfl, hQ, ⟨[], rfl, own_lower ho hle, fun i hi => absurd hi (by simp), by simp, fun p hp => by simp at hp⟩, hb⟩

set_option maxRecDepth 100000 in
set_option maxHeartbeats 4000000 in
theorem specPats (zs : List Int) (k : Int) (m : Nat) (b : Bool) (h : patsHd zs k = (m, b)) (hz : zs.length ≤ 1048576) (W : World) (v : Value) (n : Nat) (hv : Sees W v n (vals zs)) :
    Calls Try.prog 21 #[v, .int .i64 k] W fun e w' => LLTo W e w' m b (patsQ zs k) := by
  have hl : zs.length = n := by simpa using hv.1
  have hn : n ≤ 1048576 := by omega
  obtain ⟨a, ha⟩ : ∃ a, isOrd zs = a := ⟨_, rfl⟩
  obtain ⟨s, hs⟩ : ∃ s, decide (1 ≤ k ∧ k ≤ 7) = s := ⟨_, rfl⟩
  have hB0 : Below W.heap.size W (W.alloc (.cells #[] 24)) := (Below.refl _ _).alloc (Nat.le_refl _) _
  have hO0 := World.ownsRow_made (base := W.heap.size) (e := 24) (size := 1) W #[] 0 (Nat.le_refl _) (by unfold maxLen; omega) rfl
  have C1 := Go.Lib.hid (l2Order_any (W.alloc (.cells #[] 24)) v n zs a (hv.grow hB0) hn ha)
  have C2 := Go.Lib.hid (fun W' => l1In_any k 1 7 W' s hs)
  have HA := Go.Lib.hid (And.intro ha (And.intro hs (And.intro h hl)))
  have HV := Go.Lib.hid hv
  have H0 := Go.Lib.hid (And.intro hB0 hO0)
  obtain ⟨_, adr, cap, rfl, -, -⟩ := hv
  clear h ha hs hB0 hO0 hl
  have NOK : Hid (okPats zs k = false → (m = 0 ∧ b = false) ∧ patsQ zs k []) := Go.Lib.hid (fun h0 => by
    have h1 := HA.out.2.2.1
    unfold patsHd at h1
    unfold patsQ
    rw [h0] at h1 ⊢
    rw [if_neg (by simp)] at h1 ⊢
    cases h1
    exact ⟨⟨rfl, rfl⟩, rfl⟩)
  cases a with
  | false =>
    obtain ⟨⟨rfl, rfl⟩, hQ⟩ := NOK.out (by unfold okPats; rw [decide_eq_false_iff_not]; exact fun h => (of_decide_eq_false HA.out.1) h.1)
    have HQ := Go.Lib.hid hQ
    clear hQ
    go_enter Try.func21, Try.ntmps21
    go_wp2_with fail
    refine (C1.out).mono ?_
    rintro e w1 ⟨rfl, hd⟩
    have H1 := Go.Lib.hid (And.intro (H0.out.1.trans (hd.below _)) (kept_call H0.out.2 (hd.below _)))
    clear hd
    go_wp2_with fail
    go_ret2
    exact ll_none H1.out.1 (Nat.le_refl _) H1.out.2 _ HQ.out
  | true =>
    cases s with
    | false =>
      obtain ⟨⟨rfl, rfl⟩, hQ⟩ := NOK.out (by unfold okPats; rw [decide_eq_false_iff_not]; exact fun h => (of_decide_eq_false HA.out.2.1) h.2)
      have HQ := Go.Lib.hid hQ
      clear hQ
      go_enter Try.func21, Try.ntmps21
      go_wp2_with fail
      refine (C1.out).mono ?_
      rintro e w1 ⟨rfl, hd⟩
      have H1 := Go.Lib.hid (And.intro (H0.out.1.trans (hd.below _)) (kept_call H0.out.2 (hd.below _)))
      clear hd
      go_wp2_with fail
      refine (C2.out _).mono ?_
      rintro e w2 ⟨rfl, hw2⟩
      obtain rfl : w1 = w2 := hw2
      go_wp2_with fail
      go_ret2
      exact ll_none H1.out.1 (Nat.le_refl _) H1.out.2 _ HQ.out
    | true =>
      have hord : Ord zs := of_decide_eq_true HA.out.1
      have hk17 : 1 ≤ k ∧ k ≤ 7 := of_decide_eq_true HA.out.2.1
      obtain ⟨kk, rfl⟩ : ∃ kk : Nat, k = (kk : Int) := ⟨k.toNat, by omega⟩
      have hok : okPats zs (kk : Int) = true := by unfold okPats; rw [decide_eq_true_eq]; exact ⟨hord, hk17⟩
      have hmb : m = kk ∧ b = true := by
        have h1 := HA.out.2.2.1
        unfold patsHd at h1
        rw [if_pos hok, Int.toNat_natCast] at h1
        cases h1
        exact ⟨rfl, rfl⟩
      obtain ⟨rfl, rfl⟩ := hmb
      have hln := HA.out.2.2.2
      have hn1 : 1 ≤ n := by have := hord.1; omega
      have hn7 : n ≤ 7 := by have := hord.2.1; omega
      have hm1 : 1 ≤ m := by omega
      have hm7 : m ≤ 7 := by omega
      have CH := Go.Lib.hid (fun (g1 : Nat) (X : World) (hX : X.ownsRow g1 3 1 (.slice (some ⟨g1, 0, none⟩) 0 0) 0 []) (hlt : g1 ≤ X.heap.size) => chosen_all n m hn7 hm7 m [] g1 g1 0 X (by simp) (fun p hp => by simp at hp) hlt hX)
      have HCN : Hid ((ch n m []).length ≤ 128) := Go.Lib.hid (ch_128 n (by omega) m (by omega))
      obtain ⟨N, hN⟩ : ∃ N, (ch n m []).length = N := ⟨_, rfl⟩
      have hN128 : N ≤ 128 := by rw [← hN]; exact HCN.out
      have HN := Go.Lib.hid (And.intro hN (And.intro hord hok))
      clear hN hord hk17 hok hln
      go_enter Try.func21, Try.ntmps21
      go_wp2_with fail
      refine (C1.out).mono ?_
      rintro e w1 ⟨rfl, hd⟩
      have H1 := Go.Lib.hid (And.intro (H0.out.1.trans (hd.below _)) (kept_call H0.out.2 (hd.below _)))
      clear hd
      go_wp2_with fail
      refine (C2.out _).mono ?_
      rintro e w2 ⟨rfl, hw2⟩
      obtain rfl : w1 = w2 := hw2
      have HM := Go.Lib.hid (World.ownsRow_made (base := w1.heap.size) (e := 3) (size := 1) w1 #[] 0 (Nat.le_refl _) (by unfold maxLen; omega) rfl)
      go_wp2_with fail
      refine (CH.out w1.heap.size _ HM.out (by simp)).mono ?_
      rintro e w3 ⟨g1, c1, rfl, hL1, hb1⟩
      rw [HN.out.1] at hL1 ⊢
      have hb13 : Below w1.heap.size w1 w3 := ((Below.refl w1.heap.size w1).alloc (Nat.le_refl _) (.cells #[] 3)).trans (hb1.mono (by simp))
      have H3 := Go.Lib.hid (And.intro (H1.out.1.trans (hb13.mono H1.out.1.size)) (And.intro (kept_call H1.out.2 hb13) hL1))
      have hWle := H1.out.1.size
      clear hb1 hL1 hb13
      go_wp2_with fail
      go_loopw [6, 8] (fun ov iv wr => ∃ (i g c : Nat) (R : List (List Int)), i ≤ N ∧ R.length ≤ i ∧ iv = .int .i64 i ∧ ov = .slice (some ⟨g, 0, none⟩) R.length c ∧ Hid (Sorted R ∧ ∀ x, x ∈ R ↔ x ∈ (shs zs m).take i) ∧
        Hid (Lists wr W.heap.size m (.slice (some ⟨g, 0, none⟩) R.length c) (R.map vals) ∧ Below W.heap.size W wr ∧ Lists wr w1.heap.size m (.slice (some ⟨g1, 0, none⟩) N c1) ((ch n m []).map nv))) (fun _ i _ => N - (intOf i).toNat)
      case atStart => exact ⟨0, W.heap.size, 0, [], Nat.zero_le _, by simp, rfl, rfl, Go.Lib.hid ⟨by simp [Sorted], by simp⟩, Go.Lib.hid ⟨⟨[], rfl, H3.out.2.1, fun i hi => absurd hi (by simp), by simp, fun p hp => by simp at hp⟩, H3.out.1, by simpa using Lists.lower H3.out.2.2 (by simp)⟩⟩
      case round =>
        obtain ⟨i, g, c, R, hiN, hRi, rfl, rfl, HR, HX⟩ := hrel
        clear H3
        by_cases hlt : i < N
        · obtain ⟨wj, rfl⟩ : ∃ wj, wj = wr := ⟨_, rfl⟩
          have hil : i < (ch n m []).length := by rw [HN.out.1]; exact hlt
          obtain ⟨q, hq⟩ : ∃ q, (ch n m [])[i] = q := ⟨_, rfl⟩
          have hqm : q ∈ ch n m [] := by rw [← hq]; exact List.getElem_mem _
          have hqn := (ch_asc _ _ (asc_nil _) q hqm).2
          obtain ⟨g2, p1, p2, e0, hck, hob⟩ := lists_at (by rw [List.length_map, HN.out.1]) hlt HX.out.2.2
          cases e0
          have hgd : ((ch n m []).map nv).getD i [] = nv q := by rw [← hq]; simp [hil]
          rw [hgd] at hob
          have CA := Go.Lib.hid (l3At_any zs q wj _ (.slice (some ⟨p1, 0, none⟩) m p2) n m (HV.out.grow HX.out.2.1) (Sees.owns hob) (by omega) (by omega) hqn)
          have hshl : (shs zs m).length = N := by unfold shs; rw [List.length_map, HA.out.2.2.2, HN.out.1]
          have htk : (shs zs m).take (i + 1) = (shs zs m).take i ++ [shp (pick zs q)] := by
            rw [List.take_succ_eq_append_getElem (by omega)]
            congr 1
            unfold shs
            simp only [List.getElem_map, HA.out.2.2.2, hq]
          have hon : shp (pick zs q) ∈ shs zs m := List.mem_of_mem_take (i := i + 1) (by rw [htk]; simp)
          have HE := Go.Lib.hid (And.intro htk (And.intro hon hqn))
          have hlti : (i : Int) < (N : Int) := by omega
          clear hq hqm hqn hgd hob hshl htk hon hil
          go_wp2_with fail
          refine (CA.out).mono ?_
          rintro e w4 ⟨g3, c3, rfl, ho3, hb3⟩
          have CSh := Go.Lib.hid (l3Shape_any (pick zs q) w4 _ m (by omega) (Sees.owns ho3))
          have H4 := Go.Lib.hid hb3
          clear ho3 hb3 CA hck
          go_wp2_with fail
          refine (CSh.out).mono ?_
          rintro e w5 ⟨u5, rfl, ho5, hb5⟩
          obtain ⟨g5, c5, rfl⟩ := own_pos ho5 (by omega)
          have hb45 := H4.out.trans (hb5.mono H4.out.size)
          have hp5 : w4.heap.size ≤ g5 := (ho5.lt g5 rfl).1
          have H5 := Go.Lib.hid (And.intro ho5 (And.intro hb45 hp5))
          have hjW := HX.out.2.1.size
          clear ho5 hb5 hb45 hp5 CSh
          by_cases hin : shp (pick zs q) ∈ R
          · have CP := Go.Lib.hid (l2Put_same W.heap.size m g c R (shp (pick zs q)) (g5, c5) w5 hm1 (by omega) (by omega) (fun x hx => shs_len (zs := zs) (List.mem_of_mem_take ((HR.out.2 x).1 hx))) HR.out.1 hin (HX.out.1.kept H5.out.2.1) (Sees.owns H5.out.1))
            have HRN : Hid (Sorted R ∧ ∀ x, x ∈ R ↔ x ∈ (shs zs m).take (i + 1)) := Go.Lib.hid ⟨HR.out.1, fun x => by
              rw [HE.out.1, List.mem_append, List.mem_singleton]
              constructor
              · intro hx; exact .inl ((HR.out.2 x).1 hx)
              · rintro (hx | rfl)
                · exact (HR.out.2 x).2 hx
                · exact hin⟩
            unfold sl at CP
            clear hin
            go_wp2_with fail
            refine (CP.out).mono ?_
            rintro e w6 ⟨rfl, hd⟩
            have hbj := H5.out.2.1.trans ((hd.below w5.heap.size).mono H5.out.2.1.size)
            have H6 := Go.Lib.hid (And.intro (HX.out.1.kept hbj) (And.intro (HX.out.2.1.trans (hbj.mono hjW)) (HX.out.2.2.kept hbj)))
            clear hd hbj CP
            go_wp2_with fail
            go_roundw
            case rel => exact ⟨i + 1, g, c, R, by omega, by omega, by go_num, rfl, HRN, H6⟩
            case measure => simp [intOf]; omega
          · have CP := Go.Lib.hid (l2Put_any W.heap.size m g c R (shp (pick zs q)) (g5, c5) w5 hm1 (by omega) (by omega) (fun x hx => shs_len (zs := zs) (List.mem_of_mem_take ((HR.out.2 x).1 hx))) hin wj HX.out.1 H5.out.2.1 (Nat.le_trans H4.out.size H5.out.2.2) (own_lower H5.out.1 (Nat.le_trans hjW H4.out.size)) (Nat.le_trans hjW (Nat.le_trans H4.out.size H5.out.2.2)))
            unfold sl at CP
            have HIN := Go.Lib.hid hin
            clear hin
            go_wp2_with fail
            refine (CP.out).mono ?_
            rintro e w6 ⟨g6, c6, k6, rfl, hk6, hlo, hhi, hL6, hb6⟩
            have hbj := H5.out.2.1.trans (hb6.mono H5.out.2.1.size)
            obtain ⟨R2, hR2⟩ : ∃ R2, R.take k6 ++ [shp (pick zs q)] ++ R.drop k6 = R2 := ⟨_, rfl⟩
            have hR2l : R.length + 1 = R2.length := by rw [← hR2]; simp; omega
            have HRN : Hid (Sorted R2 ∧ ∀ x, x ∈ R2 ↔ x ∈ (shs zs m).take (i + 1)) := Go.Lib.hid ⟨by rw [← hR2]; exact sorted_put HR.out.1 HIN.out hk6 hlo hhi, fun x => by
              rw [← hR2, mem_put, HE.out.1, List.mem_append, List.mem_singleton, HR.out.2 x]⟩
            rw [hR2, hR2l] at hL6
            have hR2b : R2.length ≤ i + 1 := by omega
            rw [hR2l]
            have H6 := Go.Lib.hid (And.intro hL6 (And.intro (HX.out.2.1.trans (hbj.mono hjW)) (HX.out.2.2.kept hbj)))
            clear hk6 hlo hhi hL6 hb6 hbj hR2 hR2l CP
            go_wp2_with fail
            go_roundw
            case rel => exact ⟨i + 1, g6, c6, R2, by omega, hR2b, by go_num, rfl, HRN, H6⟩
            case measure => simp [intOf]; omega
        · have hiN2 : i = N := by omega
          have HQ : Hid (patsQ zs (m : Int) R) := Go.Lib.hid (by
            unfold patsQ
            rw [if_pos HN.out.2.2, Int.toNat_natCast]
            have hshl : (shs zs m).length = N := by unfold shs; rw [List.length_map, HA.out.2.2.2, HN.out.1]
            have h1 := HR.out
            rw [List.take_of_length_le (by omega)] at h1
            exact h1)
          have hlti : ¬ (i : Int) < (N : Int) := by omega
          clear hiN2
          go_wp2_with fail
          go_ret2
          exact ⟨_, R, rfl, HQ.out, HX.out.1, HX.out.2.1⟩

end Go.Proofs.Ytmnggcnipjdimab.PatsSpecC
