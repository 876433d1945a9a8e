/-
  Contracts: FewestDrops of the model and of the program. Conditions: lists of at most 2^20 numbers.
-/
import Derived.Test.YtmnggcnipjdimabDrops
import Derived.WalkMore
namespace Go.Proofs.Ytmnggcnipjdimab.DropFnC
open Go.RowKit SeesC IntsC ExactC OrdMath InC OrderC PatMath DropMath ShapeC ListsC ListsEC ListsFC ListsGC PlacesC Own1C SameC GoesC ChoicesC HasC SpecPlC DropsC

theorem el_at {n k i : Nat} {q : List Nat} (hil : i < (ch n k []).length) (hq : (ch n k [])[i] = q) : ((ch n k []).map nv).getD i [] = nv q := by
  rw [← hq]; simp [hil]

theorem el_mem {n k i : Nat} {q : List Nat} (hil : i < (ch n k []).length) (hq : (ch n k [])[i] = q) : q ∈ ch n k [] := by
  rw [← hq]; exact List.getElem_mem _

theorem el_len {n k : Nat} {q : List Nat} (h : q ∈ ch n k []) : q.length = k := by
  have := (ch_pre _ _ q h).1; simpa using this

theorem below_next {zs pat : List Int} {k N i : Nat} (hN : (ch zs.length k []).length = N) (hi : i = N) (h1 : ∀ k', k' < k → ∀ q ∈ ch zs.length k' [], has (beside zs q) pat = true) (h2 : ∀ q ∈ (ch zs.length k []).take i, has (beside zs q) pat = true) : ∀ k', k' < k + 1 → ∀ q ∈ ch zs.length k' [], has (beside zs q) pat = true := by
  intro k' hk' q hq
  by_cases h : k' = k
  · subst h
    exact h2 q (by rw [List.take_of_length_le (by omega)]; exact hq)
  · exact h1 k' (by omega) q hq

theorem in_next {zs pat : List Int} {k i : Nat} {q : List Nat} (hil : i < (ch zs.length k []).length) (hq : (ch zs.length k [])[i] = q) (h : has (beside zs q) pat = true) (h2 : ∀ q ∈ (ch zs.length k []).take i, has (beside zs q) pat = true) : ∀ q ∈ (ch zs.length k []).take (i + 1), has (beside zs q) pat = true := by
  intro x hx
  rw [List.take_succ_eq_append_getElem hil, List.mem_append, List.mem_singleton] at hx
  rcases hx with hx | rfl
  · exact h2 x hx
  · rw [hq]; exact h

set_option maxRecDepth 100000 in
set_option maxHeartbeats 4000000 in
theorem implDrops (zs pat : List Int) (xs : List Int) (b : Bool) (h : dropsAns zs pat = (xs, b)) (hz1 : zs.length ≤ 1048576) (hz2 : pat.length ≤ 1048576) (W : World) (v : Value) (n : Nat) (hv : Sees W v n (vals zs)) (u : Value) (m : Nat) (hu : Sees W u m (vals pat)) :
    Calls Try.prog 13 #[v, u] W fun e w' => ListTo W e w' xs b := by
  have hn : n ≤ 1048576 := by have := hv.1; simp at this; omega
  have hm : m ≤ 1048576 := by have := hu.1; simp at this; omega
  have hlz : zs.length = n := by simpa using hv.1
  have hlp : pat.length = m := by simpa using hu.1
  obtain ⟨a, ha⟩ : ∃ a, isOrd zs = a := ⟨_, rfl⟩
  obtain ⟨c, hc⟩ : ∃ c, isOrd pat = c := ⟨_, rfl⟩
  have C1 := Go.Lib.hid (implOrder_any W v n zs a hv hn ha)
  have C2 := Go.Lib.hid (fun (W' : World) (h : Below W.heap.size W W') => implOrder_any W' u m pat c (hu.grow h) hm hc)
  have HV := Go.Lib.hid (And.intro hv hu)
  have HA := Go.Lib.hid (And.intro ha (And.intro hc h))
  have HL := Go.Lib.hid (And.intro hlz hlp)
  obtain ⟨_, a1, c1, rfl, -, -⟩ := hv
  obtain ⟨_, a2, c2, rfl, -, -⟩ := hu
  clear h ha hc hlz hlp
  cases a with
  | false =>
    have h0 := HA.out.2.2
    unfold dropsAns at h0
    rw [if_neg (fun h => (of_decide_eq_false HA.out.1) h.1)] at h0
    cases h0
    go_enter Try.func13, Try.ntmps13
    go_wp2_with fail
    go_step3
    go_wp2_with fail
    refine (C1.out).mono ?_
    rintro e w1 ⟨rfl, hb⟩
    have H1 := Go.Lib.hid hb
    clear hb
    go_wp2_with fail
    rw [Exit.noGoto_ret]
    go_ret2
    exact listTo_below H1.out (listTo_none _ _)
  | true =>
    cases c with
    | false =>
      have h0 := HA.out.2.2
      unfold dropsAns at h0
      rw [if_neg (fun h => (of_decide_eq_false HA.out.2.1) h.2.1)] at h0
      cases h0
      go_enter Try.func13, Try.ntmps13
      go_wp2_with fail
      go_step3
      go_wp2_with fail
      refine (C1.out).mono ?_
      rintro e w1 ⟨rfl, hb⟩
      have H1 := Go.Lib.hid hb
      clear hb
      go_wp2_with fail
      refine (C2.out _ H1.out).mono ?_
      rintro e w2 ⟨rfl, hb⟩
      have H2 := Go.Lib.hid (H1.out.trans (hb.mono H1.out.size))
      clear hb
      go_wp2_with fail
      rw [Exit.noGoto_ret]
      go_ret2
      exact listTo_below H2.out (listTo_none _ _)
    | true =>
      have hord : Ord zs := of_decide_eq_true HA.out.1
      have hpo : Ord pat := of_decide_eq_true HA.out.2.1
      have hn1 : 1 ≤ n := by have := hord.1; have := HL.out.1; omega
      have hn7 : n ≤ 7 := by have := hord.2.1; have := HL.out.1; omega
      have hm1 : 1 ≤ m := by have := hpo.1; have := HL.out.2; omega
      have HO := Go.Lib.hid (And.intro hord hpo)
      clear hord hpo
      go_enter Try.func13, Try.ntmps13
      go_wp2_with fail
      go_step3
      go_wp2_with fail
      refine (C1.out).mono ?_
      rintro e w0 ⟨rfl, hb⟩
      have H0 := Go.Lib.hid hb
      clear hb
      go_wp2_with fail
      refine (C2.out _ H0.out).mono ?_
      rintro e w1 ⟨rfl, hb⟩
      have H1 := Go.Lib.hid (H0.out.trans (hb.mono H0.out.size))
      clear hb
      by_cases hm2 : m = 1
      · have h0 := HA.out.2.2
        unfold dropsAns at h0
        rw [if_neg (fun h => h.2.2 (by rw [HL.out.2]; exact hm2))] at h0
        cases h0
        subst hm2
        go_wp2_with fail
        rw [Exit.noGoto_ret]
        go_ret2
        exact listTo_below H1.out (listTo_none _ _)
      · have hm3 : ((m : Int) == 1) = false := by rw [beq_eq_false_iff_ne]; omega
        have HM2 : Hid (2 ≤ pat.length) := Go.Lib.hid (by rw [HL.out.2]; omega)
        have h0 := HA.out.2.2
        unfold dropsAns at h0
        rw [if_pos ⟨HO.out.1, HO.out.2, by rw [HL.out.2]; exact hm2⟩] at h0
        obtain ⟨fd, hfd⟩ : ∃ fd, firstDrop zs pat = fd := ⟨_, rfl⟩
        rw [hfd] at h0
        have HFD := Go.Lib.hid hfd
        cases h0
        have HB0 := Go.Lib.hid (H1.out.alloc H1.out.size (.cells #[] 3))
        clear hfd hm2
        go_wp2_with fail
        go_step3
        go_wp2_with fail
        clear hm3
        go_loopw [6, 27] (fun dv iv wr => ∃ k : Nat, k ≤ n ∧ iv = .int .i64 k ∧ dv = .slice (some ⟨w1.heap.size, 0, none⟩) 0 0 ∧ Hid (∀ k', k' < k → ∀ q ∈ ch zs.length k' [], has (beside zs q) pat = true) ∧ Hid (Below W.heap.size W wr)) (fun _ i _ => n - (intOf i).toNat)
        case atStart => exact ⟨0, Nat.zero_le _, rfl, rfl, Go.Lib.hid (fun k' hk' => absurd hk' (by omega)), HB0⟩
        case round =>
          obtain ⟨k, hk, rfl, rfl, HK, HB⟩ := hrel
          clear HB0
          by_cases hlt : k < n
          · have hlti : (k : Int) < (n : Int) := by omega
            obtain ⟨wk, rfl⟩ : ∃ wk, wk = wr := ⟨_, rfl⟩
            have CP := Go.Lib.hid (allPlaces_any n k hn7 (by omega) wk)
            go_wp2_with fail
            refine (CP.out).mono ?_
            rintro e w2 ⟨rv, rfl, hL, hb⟩
            obtain ⟨ad, cp, rfl⟩ := lists_value hL
            obtain ⟨N, hN⟩ : ∃ N, (ch n k []).length = N := ⟨_, rfl⟩
            rw [List.length_map, hN] at hL ⊢
            have hNb : N ≤ 823543 := by rw [← hN]; exact ch_823543 hn7 (by omega)
            have HN := Go.Lib.hid hN
            have HX0 := Go.Lib.hid (And.intro (hL.lower HB.out.size) (HB.out.trans (hb.mono HB.out.size)))
            clear hL hb hN CP
            go_wp2_with fail
            go_loopw [6, 35] (fun dv iv wr => ∃ i : Nat, i ≤ N ∧ iv = .int .i64 i ∧ dv = .slice (some ⟨w1.heap.size, 0, none⟩) 0 0 ∧ Hid (∀ q ∈ (ch zs.length k []).take i, has (beside zs q) pat = true) ∧ Hid (Lists wr W.heap.size k (.slice ad N cp) ((ch n k []).map nv) ∧ Below W.heap.size W wr)) (fun _ i _ => N - (intOf i).toNat)
            case atStart => exact ⟨0, Nat.zero_le _, rfl, rfl, Go.Lib.hid (fun q hq => by simp at hq), HX0⟩
            case round =>
              obtain ⟨i, hi, rfl, rfl, HI, HX⟩ := hrel
              clear HX0
              by_cases hlt2 : i < N
              · have hil : i < (ch n k []).length := by rw [HN.out]; exact hlt2
                obtain ⟨q, hq⟩ : ∃ q, (ch n k [])[i] = q := ⟨_, rfl⟩
                have hqm := el_mem hil hq
                have hql := el_len hqm
                obtain ⟨g, p1, p2, rfl, hck, hoq⟩ := lists_at (by rw [List.length_map, HN.out]) hlt2 HX.out.1
                rw [el_at hil hq] at hoq
                have hlti2 : (i : Int) < (N : Int) := by omega
                obtain ⟨wi, rfl⟩ : ∃ wi, wi = wr := ⟨_, rfl⟩
                have CB := Go.Lib.hid (beside_any zs q wi _ (.slice (some ⟨p1, 0, none⟩) k p2) n k (HV.out.1.grow HX.out.2) (Sees.owns hoq) (by omega) hn1 hn7)
                obtain ⟨r, hr⟩ : ∃ r, has (beside zs q) pat = r := ⟨_, rfl⟩
                have hbl := beside_len_le zs q
                have hbp : 1 ≤ (beside zs q).length := beside_pos (by rw [hql, HL.out.1]; exact hlt)
                have CC := Go.Lib.hid (fun (W' : World) (v' : Value) (hb' : Below wi.heap.size wi W') (hs : Sees W' v' (beside zs q).length (vals (beside zs q))) => contains_any (beside zs q) pat r (beside_nodup HO.out.1.2.2.2 q) hbp (by have := HO.out.1.2.1; omega) HO.out.2 hr W' v' _ _ m hs ((HV.out.2.grow HX.out.2).grow hb'))
                have HE := Go.Lib.hid (And.intro (Exists.intro hil hq : ∃ h : i < (ch n k []).length, (ch n k [])[i] = q) (And.intro hoq (And.intro hr hql)))
                obtain ⟨BL, hBL⟩ : ∃ BL, (beside zs q).length = BL := ⟨_, rfl⟩
                rw [hBL] at CB CC
                clear hil hq hqm hql hoq hr hbl hbp hBL
                go_wp2_with fail
                refine (CB.out).mono ?_
                rintro e w3 ⟨g3, c3, rfl, ho3, hb3⟩
                have CC2 := Go.Lib.hid (CC.out w3 _ hb3 (Sees.owns ho3))
                have H3 := Go.Lib.hid hb3
                clear ho3 hb3 CB CC
                go_wp2_with fail
                refine (CC2.out).mono ?_
                rintro e w4 ⟨rfl, hb4⟩
                have H4 := Go.Lib.hid (H3.out.trans (hb4.mono H3.out.size))
                clear hb4 CC2
                cases r with
                | true =>
                  have HIN : Hid (∀ q ∈ (ch zs.length k []).take (i + 1), has (beside zs q) pat = true) := Go.Lib.hid (by
                    obtain ⟨⟨hil, hq⟩, _, hr, _⟩ := HE.out
                    have hl := HL.out.1
                    subst hl
                    exact in_next hil hq hr HI.out)
                  have HXN : Hid (Lists w4 W.heap.size k (.slice (some ⟨g, 0, none⟩) N cp) ((ch n k []).map nv) ∧ Below W.heap.size W w4) := Go.Lib.hid ⟨HX.out.1.kept H4.out, HX.out.2.trans (H4.out.mono HX.out.2.size)⟩
                  clear hck
                  go_wp2_with fail
                  go_roundw
                  case rel => exact ⟨i + 1, by omega, by go_num, rfl, HIN, HXN⟩
                  case measure => simp [intOf]; omega
                | false =>
                  have HF : Hid (fd = q) := Go.Lib.hid (by
                    obtain ⟨⟨hil, hq⟩, _, hr, _⟩ := HE.out
                    have hl := HL.out.1
                    subst hl
                    rw [← HFD.out, firstDrop_is hlt hil (by rw [hq]; exact hr) HK.out HI.out, hq])
                  have hxl : (nat fd).length = k := by rw [nat_len, HF.out, HE.out.2.2.2]
                  have HR : Hid (w4.ownsRow W.heap.size 3 1 (.slice (some ⟨p1, 0, none⟩) k p2) k (vals (nat fd)) ∧ Below W.heap.size W w4 ∧ (nat fd).length = k) := Go.Lib.hid ⟨by rw [HF.out]; exact kept_call HE.out.2.1 H4.out, HX.out.2.trans (H4.out.mono HX.out.2.size), hxl⟩
                  clear hck hxl
                  go_wp2_with fail
                  rw [Exit.noGoto_ret]
                  go_ret2
                  exact ⟨_, rfl, by rw [HR.out.2.2]; exact HR.out.1, HR.out.2.1⟩
              · have hiN : i = N := by omega
                have HKN : Hid (∀ k', k' < k + 1 → ∀ q ∈ ch zs.length k' [], has (beside zs q) pat = true) := Go.Lib.hid (by
                  have hl := HL.out.1
                  subst hl
                  exact below_next HN.out hiN HK.out HI.out)
                have HBN := Go.Lib.hid HX.out.2
                clear hiN
                go_wp2_with fail
                go_roundw
                case rel => exact ⟨k + 1, by omega, by go_num, rfl, HKN, HBN⟩
                case measure => simp [intOf]; omega
          · exfalso
            obtain ⟨k', q, hk', hq, hf⟩ := drop_end (zs := zs) (pat := pat) HO.out.1.1 HM2.out
            have := HK.out k' (by have := HL.out.1; omega) q hq
            rw [hf] at this
            cases this

end Go.Proofs.Ytmnggcnipjdimab.DropFnC
