/-
  Contract: FewestDrops of the model. Conditions: lists of at most 2^20 numbers.
-/
import Derived.Test.YtmnggcnipjdimabDropFn
namespace Go.Proofs.Ytmnggcnipjdimab.DropSpC
open Go.RowKit SeesC IntsC ExactC OrdMath InC OrderC PatMath DropMath ShapeC ListsC ListsEC ListsFC ListsGC PlacesC Own1C SameC GoesC ChoicesC HasC SpecPlC DropsC DropFnC

set_option maxRecDepth 100000 in
set_option maxHeartbeats 4000000 in
theorem specDrops (zs pat : List Int) (xs : List Int) (b : Bool) (h : dropsAns zs pat = (xs, b)) (hz1 : zs.length ≤ 1048576) (hz2 : pat.length ≤ 1048576) (W : World) (v : Value) (n : Nat) (hv : Sees W v n (vals zs)) (u : Value) (m : Nat) (hu : Sees W u m (vals pat)) :
    Calls Try.prog 14 #[v, u] W fun e w' => ListTo W e w' xs b := by
  have hn : n ≤ 1048576 := by have := hv.1; simp at this; omega
  have hm : m ≤ 1048576 := by have := hu.1; simp at this; omega
  have hlz : zs.length = n := by simpa using hv.1
  have hlp : pat.length = m := by simpa using hu.1
  obtain ⟨gd, hgd⟩ : ∃ gd, (isOrd zs && isOrd pat) = gd := ⟨_, rfl⟩
  have C1 := Go.Lib.hid (l3Good_any zs pat gd W v u n m hv hu hn hm hgd)
  have HV := Go.Lib.hid (And.intro hv hu)
  have HA := Go.Lib.hid (And.intro hgd h)
  have HL := Go.Lib.hid (And.intro hlz hlp)
  obtain ⟨_, a1, c1, rfl, -, -⟩ := hv
  obtain ⟨_, a2, c2, rfl, -, -⟩ := hu
  clear h hgd hlz hlp
  cases gd with
  | false =>
    have h0 := HA.out.2
    unfold dropsAns at h0
    rw [if_neg (fun h => by have h1 := HA.out.1; simp [isOrd, h.1, h.2.1] at h1)] at h0
    cases h0
    go_enter Try.func14, Try.ntmps14
    go_wp2_with fail
    refine (C1.out).mono ?_
    rintro e w1 ⟨rfl, hb⟩
    have H1 := Go.Lib.hid hb
    clear hb
    go_wp2_with fail
    go_ret2
    exact listTo_below H1.out (listTo_none _ _)
  | true =>
    have hab := HA.out.1
    rw [Bool.and_eq_true] at hab
    have hord : Ord zs := of_decide_eq_true hab.1
    have hpo : Ord pat := of_decide_eq_true hab.2
    have hn1 : 1 ≤ n := by have := hord.1; have := HL.out.1; omega
    have hn7 : n ≤ 7 := by have := hord.2.1; have := HL.out.1; omega
    have hm1 : 1 ≤ m := by have := hpo.1; have := HL.out.2; omega
    have HO := Go.Lib.hid (And.intro hord hpo)
    clear hord hpo hab
    go_enter Try.func14, Try.ntmps14
    go_wp2_with fail
    refine (C1.out).mono ?_
    rintro e w1 ⟨rfl, hb⟩
    have H1 := Go.Lib.hid hb
    clear hb
    by_cases hm2 : m = 1
    · have h0 := HA.out.2
      unfold dropsAns at h0
      rw [if_neg (fun h => h.2.2 (by rw [HL.out.2]; exact hm2))] at h0
      cases h0
      subst hm2
      go_wp2_with fail
      go_ret2
      exact listTo_below H1.out (listTo_none _ _)
    · have hm3 : ((m : Int) == 1) = false := by rw [beq_eq_false_iff_ne]; omega
      have HM2 : Hid (2 ≤ pat.length) := Go.Lib.hid (by rw [HL.out.2]; omega)
      have h0 := HA.out.2
      unfold dropsAns at h0
      rw [if_pos ⟨HO.out.1, HO.out.2, by rw [HL.out.2]; exact hm2⟩] at h0
      obtain ⟨fd, hfd⟩ : ∃ fd, firstDrop zs pat = fd := ⟨_, rfl⟩
      rw [hfd] at h0
      have HFD := Go.Lib.hid hfd
      cases h0
      clear hfd hm2
      go_wp2_with fail
      clear hm3
      go_loopw [6] (fun iv wr => ∃ k : Nat, k ≤ n ∧ iv = .int .i64 k ∧ Hid (∀ k', k' < k → ∀ q ∈ ch zs.length k' [], has (beside zs q) pat = true) ∧ Hid (Below W.heap.size W wr)) (fun i _ => n - (intOf i).toNat)
      case atStart => exact ⟨0, Nat.zero_le _, rfl, Go.Lib.hid (fun k' hk' => absurd hk' (by omega)), H1⟩
      case round =>
        obtain ⟨k, hk, rfl, HK, HB⟩ := hrel
        by_cases hlt : k < n
        · have hlti : (k : Int) < (n : Int) := by omega
          obtain ⟨wk, rfl⟩ : ∃ wk, wk = wr := ⟨_, rfl⟩
          have HBA := Go.Lib.hid (HB.out.alloc HB.out.size (.cells #[] 3))
          have C0 := chosen_all n k hn7 (by omega) k [] W.heap.size wk.heap.size 0 (wk.alloc (.cells #[] 3)) (by simp) (fun p hp => by simp at hp) HBA.out.size (World.ownsRow_made (base := W.heap.size) (e := 3) (size := 1) wk #[] 0 HB.out.size (by unfold maxLen; omega) rfl)
          simp only [List.length_nil] at C0
          obtain ⟨N, hN⟩ : ∃ N, (ch n k []).length = N := ⟨_, rfl⟩
          rw [hN] at C0
          have hNb : N ≤ 823543 := by rw [← hN]; exact ch_823543 hn7 (by omega)
          have HN := Go.Lib.hid hN
          have CP := Go.Lib.hid C0
          clear hN C0
          go_wp2_with fail
          refine (CP.out).mono ?_
          rintro e w2 ⟨g, cp, rfl, hL, hb⟩
          have HX0 := Go.Lib.hid (And.intro hL (HBA.out.trans (hb.mono HBA.out.size)))
          clear hL hb CP
          go_wp2_with fail
          go_loopw [8] (fun iv wr => ∃ i : Nat, i ≤ N ∧ iv = .int .i64 i ∧ Hid (∀ q ∈ (ch zs.length k []).take i, has (beside zs q) pat = true) ∧ Hid (Lists wr W.heap.size k (.slice (some ⟨g, 0, none⟩) N cp) ((ch n k []).map nv) ∧ Below W.heap.size W wr)) (fun i _ => N - (intOf i).toNat)
          case atStart => exact ⟨0, Nat.zero_le _, rfl, Go.Lib.hid (fun q hq => by simp at hq), HX0⟩
          case round =>
            obtain ⟨i, hi, rfl, HI, HX⟩ := hrel
            clear HX0
            by_cases hlt2 : i < N
            · have hil : i < (ch n k []).length := by rw [HN.out]; exact hlt2
              obtain ⟨q, hq⟩ : ∃ q, (ch n k [])[i] = q := ⟨_, rfl⟩
              have hqm := el_mem hil hq
              have hql := el_len hqm
              obtain ⟨g', p1, p2, eg, hck, hoq⟩ := lists_at (by rw [List.length_map, HN.out]) hlt2 HX.out.1
              cases eg
              rw [el_at hil hq] at hoq
              have hlti2 : (i : Int) < (N : Int) := by omega
              obtain ⟨wi, rfl⟩ : ∃ wi, wi = wr := ⟨_, rfl⟩
              have CO := Go.Lib.hid (l3Others_any q n wi (.slice (some ⟨p1, 0, none⟩) k p2) k (Sees.owns hoq) (by omega) hn7)
              obtain ⟨r, hr⟩ : ∃ r, has (beside zs q) pat = r := ⟨_, rfl⟩
              have hbl := beside_len_le zs q
              have hbp : 1 ≤ (beside zs q).length := beside_pos (by rw [hql, HL.out.1]; exact hlt)
              obtain ⟨OL, hOL⟩ : ∃ OL, (others q n).length = OL := ⟨_, rfl⟩
              have hOb : (beside zs q).length = OL := by unfold beside; rw [pick_len, HL.out.1, hOL]
              have hOL7 : OL ≤ 7 := by have := HL.out.1; omega
              rw [hOL] at CO
              have CA := Go.Lib.hid (fun (W' : World) (v' : Value) (hb' : Below wi.heap.size wi W') (hs : Sees W' v' OL (nv (others q n))) => l3At_any zs (others q n) W' _ v' n OL ((HV.out.1.grow HX.out.2).grow hb') hs (by omega) (by omega) others_lt)
              have CSh := Go.Lib.hid (fun (W' : World) (v' : Value) (hs : Sees W' v' OL (vals (beside zs q))) => l3Shape_any (beside zs q) W' v' OL (by omega) hs)
              have CI := Go.Lib.hid (fun (W' : World) (v' : Value) (hb' : Below wi.heap.size wi W') (hs : Sees W' v' OL (vals (shp (beside zs q)))) => l3In_any (shp (beside zs q)) pat r (by rw [shp_len]; omega) (by rw [shp_len]; omega) HO.out.2 (by rw [has_shape]; exact hr) W' v' _ OL m hs ((HV.out.2.grow HX.out.2).grow hb'))
              have HBE : Hid (pick zs (others q n) = beside zs q) := Go.Lib.hid (by unfold beside; rw [HL.out.1])
              have HE := Go.Lib.hid (And.intro (Exists.intro hil hq : ∃ h : i < (ch n k []).length, (ch n k [])[i] = q) (And.intro hoq (And.intro hr hql)))
              clear hil hq hqm hql hoq hr hbl hbp hOL hOb
              go_wp2_with fail
              refine (CO.out).mono ?_
              rintro e w3 ⟨g3, c3, rfl, ho3, hb3⟩
              have CA2 := Go.Lib.hid (CA.out w3 _ hb3 (Sees.owns ho3))
              have H3 := Go.Lib.hid hb3
              clear ho3 hb3 CO CA
              go_wp2_with fail
              refine (CA2.out).mono ?_
              rintro e w4 ⟨g4, c4, rfl, ho4, hb4⟩
              rw [HBE.out] at ho4
              have CS2 := Go.Lib.hid (CSh.out w4 _ (Sees.owns ho4))
              have H4 := Go.Lib.hid (H3.out.trans (hb4.mono H3.out.size))
              clear ho4 hb4 CA2 CSh
              go_wp2_with fail
              refine (CS2.out).mono ?_
              rintro e w5 ⟨u5, rfl, ho5, hb5⟩
              have hb5' := H4.out.trans (hb5.mono H4.out.size)
              have CI2 := Go.Lib.hid (CI.out w5 _ hb5' (Sees.owns ho5))
              have H5 := Go.Lib.hid hb5'
              clear ho5 hb5 hb5' CS2 CI
              go_wp2_with fail
              refine (CI2.out).mono ?_
              rintro e w6 ⟨rfl, hb6⟩
              have H6 := Go.Lib.hid (H5.out.trans (hb6.mono H5.out.size))
              have hck6 : w6.cell? ⟨g, i, none⟩ = some (.slice (some ⟨p1, 0, none⟩) k p2) := (H6.out.cell (p := ⟨g, i, none⟩) (World.block_lt_of_cell? wi _ hck)).trans hck
              clear hb6 CI2 hck
              cases r with
              | true =>
                have HIN : Hid (∀ q ∈ (ch zs.length k []).take (i + 1), has (beside zs q) pat = true) := Go.Lib.hid (by
                  obtain ⟨⟨hil, hq⟩, _, hr, _⟩ := HE.out
                  have hl := HL.out.1
                  subst hl
                  exact in_next hil hq hr HI.out)
                have HXN : Hid (Lists w6 W.heap.size k (.slice (some ⟨g, 0, none⟩) N cp) ((ch n k []).map nv) ∧ Below W.heap.size W w6) := Go.Lib.hid ⟨HX.out.1.kept H6.out, HX.out.2.trans (H6.out.mono HX.out.2.size)⟩
                clear hck6
                go_wp2_with fail
                go_roundw
                case rel => exact ⟨i + 1, by omega, by go_num, HIN, HXN⟩
                case measure => simp [intOf]; omega
              | false =>
                have HF : Hid (fd = q) := Go.Lib.hid (by
                  obtain ⟨⟨hil, hq⟩, _, hr, _⟩ := HE.out
                  have hl := HL.out.1
                  subst hl
                  rw [← HFD.out, firstDrop_is hlt hil (by rw [hq]; exact hr) HK.out HI.out, hq])
                have hxl : (nat fd).length = k := by rw [nat_len, HF.out, HE.out.2.2.2]
                have HR : Hid (w6.ownsRow W.heap.size 3 1 (.slice (some ⟨p1, 0, none⟩) k p2) k (vals (nat fd)) ∧ Below W.heap.size W w6 ∧ (nat fd).length = k) := Go.Lib.hid ⟨by rw [HF.out]; exact kept_call HE.out.2.1 H6.out, HX.out.2.trans (H6.out.mono HX.out.2.size), hxl⟩
                clear hxl
                go_wp2_with fail
                go_ret2
                exact ⟨_, rfl, by rw [HR.out.2.2]; exact HR.out.1, HR.out.2.1⟩
            · have hiN : i = N := by omega
              have HKN : Hid (∀ k', k' < k + 1 → ∀ q ∈ ch zs.length k' [], has (beside zs q) pat = true) := Go.Lib.hid (by
                have hl := HL.out.1
                subst hl
                exact below_next HN.out hiN HK.out HI.out)
              have HBN := Go.Lib.hid HX.out.2
              clear hiN
              go_wp2_with fail
              go_roundw
              case rel => exact ⟨k + 1, by omega, by go_num, HKN, HBN⟩
              case measure => simp [intOf]; omega
        · exfalso
          obtain ⟨k', q, hk', hq, hf⟩ := drop_end (zs := zs) (pat := pat) HO.out.1.1 HM2.out
          have := HK.out k' (by have := HL.out.1; omega) q hq
          rw [hf] at this
          cases this

end Go.Proofs.Ytmnggcnipjdimab.DropSpC
