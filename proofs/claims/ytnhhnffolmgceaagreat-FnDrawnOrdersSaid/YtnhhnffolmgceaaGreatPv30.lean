/-
  Contracts and plain facts that the laws' texts lean on. Conditions: as each states.
-/
import Derived.Test.YtnhhnffolmgceaaGreatPv20
import Derived.Test.YtnhhnffolmgceaaGreatPv24
import Derived.Test.YtnhhnffolmgceaaGreatPv10
import Derived.Test.YtnhhnffolmgceaaGreatPv15
import Derived.Test.YtnhhnffolmgceaaGreatPv17
import Derived.Deep.RegionLaw

section
namespace Go.Proofs.YtnhhnffolmgceaaGreat.PutBC
open Go.RowKit SeesC IntsC ExactC ListsC ListsEC ListsFC LLC RagMarkC RagResC RRC AppendTwoC QueM RRVC SameC

theorem rr_append {X : World} {base N : Nat} {v : Value} {gs : List (Nat × Nat)} {L : List (List Int)} (h : RR X base v gs L) (hN : L.length = N) (o1 o2 : Obj) :
    ((X.alloc o1).alloc o2).ownsRow base 36 1 v N (rowsOf L gs) := by
  have := h.2.1
  rw [hN] at this
  exact (this.alloc _).alloc _

set_option maxRecDepth 100000 in
set_option maxHeartbeats 2000000 in
theorem putBehind_old (base D : Nat) (L : List (List Int)) (k : Nat) (x : Int) (W : World) (g N c : Nat) (hN : L.length = N) (hk : k < N) (hv : RagV W base D (.slice (some ⟨g, 0, none⟩) N c) L) (hb : base ≤ W.heap.size) (hr1 : (L.getD k []).length ≤ 100) :
    Calls Tryz.prog 67 #[.slice (some ⟨g, 0, none⟩) N c, .int .i64 k, .int .i64 x] W fun e w' => ∃ v', e = .returned v' ∧ Rag w' base v' (putL L k x) ∧ Mid base D W w' := by
  obtain ⟨i0, hi, hz0, hz1, hz2⟩ := info_parts infoI
  obtain ⟨gs, H⟩ := rrv_start hv
  have HR := Go.Lib.hid H
  obtain ⟨p, hp⟩ : ∃ p, gs.getD k (0, 0) = p := ⟨_, rfl⟩
  obtain ⟨r, hr⟩ : ∃ r, L.getD k [] = r := ⟨_, rfl⟩
  obtain ⟨m, hm⟩ : ∃ m, r.length = m := ⟨_, rfl⟩
  have hhd := H.1.head hN hk
  have hrow := H.1.2.2.1 k (by omega)
  rw [hr] at hr1
  rw [hp, hr, hm] at hhd
  rw [hp, hr, hm] at hrow
  unfold sl at hrow
  have HO := Go.Lib.hid hrow
  have HP := Go.Lib.hid (And.intro hN (And.intro hr (And.intro hm (And.intro hp hb))))
  have hm100 : m ≤ 100 := by omega
  have hki : (k : Int) < (N : Int) := by omega
  have hkn : ((k : Int) == (N : Int)) = false := by rw [beq_eq_false_iff_ne]; omega
  obtain ⟨p1, p2⟩ := p
  simp only at hhd HO
  have HPUT : Hid (putL L k x = L.set k (r ++ [x])) := Go.Lib.hid (by unfold putL; rw [if_pos (by omega), hr])
  clear H hv hp hr hm hrow hr1 hN
  go_enter Tryz.func67, Tryz.ntmps67
  go_wp2_with (at_builtin; refine wpList_append_two _ rfl _ _ 36 rfl base 3 i0 (.int .i64 0) 1 8 Tryz.underlying36 hi hz0 hz1 hz2 rfl (by decide) (.slice (some ⟨p1, 0, none⟩) m p2) m (vals r) rfl (HO.out.alloc _) ⟨W.heap.size, 0, none⟩ 1 1 [.int .i64 x] rfl rfl (cell_one_new _ _ _) (fun x hx => by simp at hx; subst hx; rfl) (by unfold maxLen; omega) (by omega) (by have := HP.out.2.2.2.2; simp; omega) ?_; intro v' w3 hown3 hgrow3 hnew3; obtain ⟨g3, c3, rfl⟩ := ownsRow_succ hown3; obtain ⟨hH3, hc3, hf3⟩ := rrv_app (x := x) HP.out.1 HR.out hk HP.out.2.1 HP.out.2.2.1 hown3 (by rw [HP.out.2.2.2.1]; exact hgrow3) (by rw [HP.out.2.2.2.1]; exact hnew3); have H3 := Go.Lib.hid hH3; clear hown3 hgrow3 hnew3 hH3)
  go_ret
  exact ⟨_, rfl, by rw [HPUT.out]; exact H3.out.rag.1, H3.out.rag.2⟩

set_option maxRecDepth 100000 in
set_option maxHeartbeats 2000000 in
theorem putBehind_new (base D : Nat) (L : List (List Int)) (x : Int) (W : World) (v : Value) (N : Nat) (hN : L.length = N) (hv : RagV W base D v L) (hb : base ≤ W.heap.size) (hN1 : N ≤ 100) :
    Calls Tryz.prog 67 #[v, .int .i64 N, .int .i64 x] W fun e w' => ∃ v', e = .returned v' ∧ Rag w' base v' (putL L N x) ∧ Mid base D W w' := by
  obtain ⟨i0, hi, hz0, hz1, hz2⟩ := info_parts infoI
  obtain ⟨j0, hj, hy0, hy1, hy2⟩ := info_parts infoL
  obtain ⟨gs, H⟩ := rrv_start hv
  have HR := Go.Lib.hid H
  have HO := Go.Lib.hid (rr_append H.1 hN)
  have HP := Go.Lib.hid (And.intro hN hb)
  have hnn : ((N : Int) == (N : Int)) = true := by simp
  have HPUT : Hid (putL L N x = (L ++ [[]]).set N ([] ++ [x])) := Go.Lib.hid (by
    unfold putL; rw [if_neg (by omega), ← hN, List.set_append_right _ _ (Nat.le_refl _)]; simp)
  obtain ⟨a, c, rfl⟩ : ∃ a c, v = .slice a N c := by
    obtain ⟨a, c, h⟩ := (RagV.sees hv).value
    rw [hN] at h
    exact ⟨a, c, h⟩
  clear H hv hN hb
  go_enter Tryz.func67, Tryz.ntmps67
  go_wp2_with (first
    | (at_builtin; have hX := H3; refine wpList_append_two _ rfl _ _ 36 rfl base 3 i0 (.int .i64 0) 1 8 Tryz.underlying36 hi hz0 hz1 hz2 rfl (by decide) (.slice (some ⟨W.heap.size, 0, none⟩) 0 0) 0 [] rfl (HO3.out.alloc _) ⟨w3.heap.size, 0, none⟩ 1 1 [.int .i64 x] rfl rfl (cell_one_new _ _ _) (fun x hx => by simp at hx; subst hx; rfl) (by unfold maxLen; omega) (by omega) (by have := HP.out.2; have := H3.out.2.2.2.size; simp; omega) ?_; intro v' w4 hown4 hgrow4 hnew4; obtain ⟨g4, c4, rfl⟩ := ownsRow_succ hown4; obtain ⟨hH4, hc4, hf4⟩ := rrv_app (x := x) (r := []) (m := 0) HL3.out.1 H3.out (by omega) HL3.out.2.1 rfl hown4 (by rw [HL3.out.2.2]; exact hgrow4) (by rw [HL3.out.2.2]; exact hnew4); rw [HL3.out.2.2] at hc4; have H4 := Go.Lib.hid hH4; clear hown4 hgrow4 hnew4 hH4)
    | (at_builtin; refine wpList_append_two _ rfl _ _ 32 rfl base 36 j0 (.slice none 0 0) 1 24 Tryz.underlying32 hj hy0 hy1 hy2 rfl (by decide) (.slice a N c) N (rowsOf L gs) rfl (HO.out _ _) ⟨W.heap.size + 1, 0, none⟩ 1 1 [.slice (some ⟨W.heap.size, 0, none⟩) 0 0] rfl rfl (fun jj u hu => by have := cell_one_new (W.alloc (.cells #[] 3)) (.slice (some ⟨W.heap.size, 0, none⟩) 0 0) 36 jj u hu; simpa using this) (fun x hx => by simp at hx; subst hx; rfl) (by unfold maxLen; omega) (by omega) (by have := HP.out.2; simp; omega) ?_; intro v' w3 hown3 hgrow3 hnew3; obtain ⟨g3, c3, rfl⟩ := ownsRow_succ hown3; have hH3 := rrv_new HP.out.1 HR.out HP.out.2 hown3 hgrow3 hnew3; have H3 := Go.Lib.hid hH3; have HL3 : Hid ((L ++ [[]]).length = N + 1 ∧ (L ++ [[]]).getD N [] = [] ∧ (gs ++ [(W.heap.size, 0)]).getD N (0, 0) = (W.heap.size, 0)) := Go.Lib.hid ⟨by simp [HP.out.1], by rw [← HP.out.1, getD_cat_r], by rw [← HP.out.1, ← HR.out.1.1, getD_cat_r]⟩; have hc3 := hH3.1.head HL3.out.1 (show N < N + 1 by omega); rw [HL3.out.2.1, HL3.out.2.2] at hc3; have HO3 : Hid (w3.ownsRow base 3 1 (.slice (some ⟨W.heap.size, 0, none⟩) 0 0) 0 []) := Go.Lib.hid (by have h := hH3.1.2.2.1 N (by rw [HL3.out.1]; omega); rw [HL3.out.2.1, HL3.out.2.2] at h; exact h); clear hown3 hgrow3 hnew3 hH3))
  go_ret
  exact ⟨_, rfl, by rw [HPUT.out]; exact H4.out.rag.1, H4.out.rag.2⟩

theorem putBehind_any (base D : Nat) (L : List (List Int)) (k : Nat) (x : Int) (W : World) (v : Value) (hk : k ≤ L.length) (hv : RagV W base D v L) (hb : base ≤ W.heap.size) (hN1 : L.length ≤ 100) (hr1 : tot L ≤ 100) :
    Calls Tryz.prog 67 #[v, .int .i64 k, .int .i64 x] W fun e w' => ∃ v', e = .returned v' ∧ Rag w' base v' (putL L k x) ∧ Mid base D W w' := by
  by_cases h : k < L.length
  · obtain ⟨gs, H⟩ := rrv_start hv
    obtain ⟨g, c, rfl⟩ := rr_slice H.1 rfl (by omega)
    exact putBehind_old base D L k x W g L.length c rfl h hv hb (Nat.le_trans (tot_row h) hr1)
  · have e : k = L.length := by omega
    subst e
    exact putBehind_new base D L x W v L.length rfl hv hb hN1

/-- The same where all of the lists is the call's own, behind draws. -/
theorem putBehind_in {W wo wd : World} {base : Nat} {v : Value} {Q : List (List Int)} (k : Nat) (x : Int) (hR : Rag wo base v Q) (hb : Below base W wo) (hW : base ≤ W.heap.size) (hd : Drawn wo wd) (hk : k ≤ Q.length) (hN1 : Q.length ≤ 100) (hr1 : tot Q ≤ 100) :
    Calls Tryz.prog 67 #[v, .int .i64 k, .int .i64 x] wd fun e w' => ∃ a c, e = .returned (.slice a (putL Q k x).length c) ∧ Rag w' base (.slice a (putL Q k x).length c) (putL Q k x) ∧ Below base W w' := by
  have h1 : Rag wd base v Q := Rag.kept hR (hd.below _)
  have h2 : base ≤ wd.heap.size := by rw [hd.heap]; exact Nat.le_trans hW hb.size
  refine (putBehind_any base wd.heap.size Q k x wd v hk (Rag.ragv h1) h2 hN1 hr1).mono ?_
  rintro e w' ⟨v', rfl, hr, hm⟩
  obtain ⟨a, c, rfl⟩ := (Rag.sees hr).value
  exact ⟨a, c, rfl, hr, hb.trans ((hd.below _).trans (mid_below hm h2))⟩

end Go.Proofs.YtnhhnffolmgceaaGreat.PutBC

end

section
namespace Go.Proofs.YtnhhnffolmgceaaGreat.QueIC
open Go.RowKit SeesC IntsC ExactC OrdMath InC OrderC ListsC ListsEC ListsFC LLC RagMarkC RagResC RRC AppendTwoC QueM RRVC PutBC

/-- The last number of a row, where it lies. -/
theorem rr_last {X : World} {base : Nat} {v : Value} {gs : List (Nat × Nat)} {L : List (List Int)} (h : RR X base v gs L) {k m : Nat} (hk : k < L.length) (hm : (L.getD k []).length = m + 1) :
    X.cell? ⟨(gs.getD k (0, 0)).1, m, none⟩ = some (.int .i64 (last (L.getD k []))) := by
  rw [h.num hk (by omega)]
  unfold last
  rw [hm]; rfl

set_option maxRecDepth 100000 in
set_option maxHeartbeats 4000000 in
theorem implQueues (zs : List Int) (L : List (List Int)) (b : Bool) (h : queuesAns zs = (L, b)) (hz : zs.length ≤ 1048576) (W : World) (v : Value) (n : Nat) (hv : Sees W v n (vals zs)) :
    Calls Tryz.prog 91 #[v] W fun e w' => RagTo W e w' L b := by
  have hl : zs.length = n := by simpa using hv.1
  have hn : n ≤ 1048576 := by omega
  obtain ⟨r, hr⟩ : ∃ r, isOrd zs = r := ⟨_, rfl⟩
  have CO := Go.Lib.hid (fun W' (hs' : Sees W' v n (vals zs)) => implOrder_any W' v n zs r hs' hn hr)
  have HV := Go.Lib.hid hv
  unfold queuesAns at h
  obtain ⟨_, ad, cap, rfl, _, _⟩ := hv
  cases r with
  | false =>
    rw [if_neg (by intro h1; unfold isOrd at hr; exact of_decide_eq_false hr h1)] at h
    cases h
    clear hr
    go_enter Tryz.func91, Tryz.ntmps91
    go_wp2_with fail
    refine (CO.out _ HV.out).mono ?_
    rintro e w1 ⟨rfl, hd⟩
    have HB1 : Hid (Below W.heap.size W w1) := Go.Lib.hid hd
    clear hd
    go_wp2_with fail
    go_ret2
    exact ragTo_below HB1.out (ragTo_none _ _)
  | true =>
    have hord : Ord zs := by unfold isOrd at hr; exact of_decide_eq_true hr
    have hn7 : n ≤ 7 := by have := hord.2.1; omega
    have hn1 : 1 ≤ n := by have := hord.1; omega
    rw [if_pos hord] at h
    cases h
    clear hr
    obtain ⟨b, o, cap2, heq, _, _, hbl, hcell⟩ := sees_cells HV.out (by omega)
    cases heq
    have HC := Go.Lib.hid hcell
    have HL := Go.Lib.hid hl
    rw [hl]
    clear hcell hl hz
    go_enter Tryz.func91, Tryz.ntmps91
    go_wp2_with fail
    refine (CO.out _ HV.out).mono ?_
    rintro e w1 ⟨rfl, hd⟩
    have HB1 : Hid (Below W.heap.size W w1) := Go.Lib.hid hd
    clear hd
    have hr0 := Go.Lib.hid (rag_made w1 W.heap.size HB1.out.size)
    have hb0 := Go.Lib.hid (HB1.out.alloc HB1.out.size (.cells #[] 36))
    go_wp2_with fail
    go_loopw [4, 15] (fun qv iv wr => ∃ (i N c : Nat) (a : Option Addr) (Q : List (List Int)), i ≤ n ∧ iv = .int .i64 i ∧ qv = .slice a N c ∧ N ≤ 7 ∧ Hid (Q = qTo zs i ∧ Q.length = N ∧ Rag wr W.heap.size (.slice a N c) Q ∧ Below W.heap.size W wr)) (fun _ i _ => n - (intOf i).toNat)
    case atStart => exact ⟨0, 0, _, _, [], Nat.zero_le _, rfl, rfl, by omega, Go.Lib.hid ⟨rfl, rfl, hr0.out, hb0.out⟩⟩
    case round =>
      obtain ⟨i, N, c, a, Q, hin, rfl, rfl, hN7, HQ⟩ := hrel
      clear hr0 hb0
      by_cases hlt : i < n
      · have hck : wr.cell? ⟨b, o + i, none⟩ = some (.int .i64 (zs.getD i 0)) := (HQ.out.2.2.2.cell (p := ⟨b, o + i, none⟩) hbl).trans (HC.out i (by have := HL.out; omega))
        obtain ⟨x, hx⟩ : ∃ x, zs.getD i 0 = x := ⟨_, rfl⟩
        rw [hx] at hck
        have HX := Go.Lib.hid hx
        obtain ⟨wo, rfl⟩ : ∃ wo, wo = wr := ⟨_, rfl⟩
        obtain ⟨gs, hgs⟩ := rag_rr HQ.out.2.2.1
        have HG := Go.Lib.hid hgs
        have hok := qTo_ok zs i
        rw [← HQ.out.1] at hok
        have HOK := Go.Lib.hid hok
        have hlti : (i : Int) < (n : Int) := by omega
        clear hx hgs hok
        go_wp2_with fail
        go_loopw [7] (fun kv wr => ∃ k : Nat, k ≤ N ∧ kv = .int .i64 k ∧ Hid (Drawn wo wr ∧ ∀ j, j < k → last (Q.getD j []) > x)) (fun k _ => N - (intOf k).toNat)
        case atStart => exact ⟨0, Nat.zero_le _, rfl, Go.Lib.hid ⟨Drawn.refl _, fun j hj => by omega⟩⟩
        case round =>
          obtain ⟨k, hkN, rfl, HK⟩ := hrel
          by_cases hkl : k < N
          · obtain ⟨m, hm⟩ : ∃ m, (Q.getD k []).length = m + 1 := ⟨(Q.getD k []).length - 1, by have := HOK.out.2.2 k (by have := HQ.out.2.1; omega); omega⟩
            have hm7 : m ≤ 7 := by
              have h1 := tot_row (L := Q) (i := k) (by have := HQ.out.2.1; omega)
              have h2 := HOK.out.2.1
              omega
            obtain ⟨p, hp⟩ : ∃ p, gs.getD k (0, 0) = p := ⟨_, rfl⟩
            obtain ⟨y, hy⟩ : ∃ y, last (Q.getD k []) = y := ⟨_, rfl⟩
            obtain ⟨g, c', hgc⟩ := rr_slice HG.out HQ.out.2.1 (by omega)
            cases hgc
            have hhd := (HK.out.1.cell ⟨g, k, none⟩).trans (HG.out.head HQ.out.2.1 hkl)
            have hlast := (HK.out.1.cell ⟨(gs.getD k (0, 0)).1, m, none⟩).trans (rr_last HG.out (by have := HQ.out.2.1; omega) hm)
            rw [hp, hm] at hhd
            rw [hp, hy] at hlast
            have HY := Go.Lib.hid hy
            obtain ⟨p1, p2⟩ := p
            simp only at hhd hlast
            have hkli : (k : Int) < (N : Int) := by omega
            have hkd : decide (k < N) = true := decide_eq_true hkl
            clear hp hm hy
            by_cases hgt : y > x
            · have HK2 : Hid (∀ j, j < k + 1 → last (Q.getD j []) > x) := Go.Lib.hid (fun j hj => by
                by_cases e : j = k
                · rw [e, HY.out]; exact hgt
                · exact HK.out.2 j (by omega))
              have hgd : decide (x < y) = true := decide_eq_true hgt
              go_wp2
              go_quiet (fail)
              go_wp2
              go_roundw
              case rel => exact ⟨k + 1, by omega, by go_num, Go.Lib.hid ⟨HK.out.1.next _, HK2.out⟩⟩
              case measure => simp [intOf]; omega
            · have HAT : Hid (qAt Q x = k) := Go.Lib.hid (qAt_is Q x k (by have := HQ.out.2.1; omega) HK.out.2 (fun _ => by rw [HY.out]; exact hgt))
              have hgd : decide (x < y) = false := decide_eq_false hgt
              have CP := Go.Lib.hid (fun m => putBehind_in (W := W) (wd := wr.drewN m) k x HQ.out.2.2.1 HQ.out.2.2.2 (Nat.le_refl _) (HK.out.1.next m) (by have := HQ.out.2.1; omega) (by have := HQ.out.2.1; omega) (by have := HOK.out.2.1; omega))
              go_wp2
              go_quiet (fail)
              go_wp2_with fail
              refine (CP.out _).mono ?_
              rintro e w5 ⟨a5, c5, rfl, hr5, hb5⟩
              obtain ⟨N5, hN5⟩ : ∃ N5, (putL Q k x).length = N5 := ⟨_, rfl⟩
              rw [hN5] at hr5
              have H5 : Hid (putL Q k x = qTo zs (i + 1) ∧ (putL Q k x).length = N5 ∧ Rag w5 W.heap.size (.slice a5 N5 c5) (putL Q k x) ∧ Below W.heap.size W w5) := Go.Lib.hid ⟨by
                show _ = putL (qTo zs i) (qAt (qTo zs i) (zs.getD i 0)) (zs.getD i 0)
                rw [← HQ.out.1, HX.out, HAT.out], hN5, hr5, hb5⟩
              have hl5 : N5 ≤ 7 := by rw [← hN5, H5.out.1]; have := (qTo_ok zs (i + 1)).1; omega
              have HN5 := Go.Lib.hid hN5
              clear hr5 hb5 hN5
              rw [HN5.out]
              go_wp2_with fail
              go_roundw
              case rel => exact ⟨i + 1, N5, c5, a5, putL Q k x, by omega, by go_num, rfl, hl5, H5⟩
              case measure => simp [intOf]; omega
          · have hkE : k = N := by omega
            subst hkE
            have HAT : Hid (qAt Q x = k) := Go.Lib.hid (qAt_is Q x k (by have := HQ.out.2.1; omega) HK.out.2 (fun h => by have := HQ.out.2.1; omega))
            have hkd : decide (k < k) = false := decide_eq_false (Nat.lt_irrefl _)
            have CP := Go.Lib.hid (fun m => putBehind_in (W := W) (wd := wr.drewN m) k x HQ.out.2.2.1 HQ.out.2.2.2 (Nat.le_refl _) (HK.out.1.next m) (by have := HQ.out.2.1; omega) (by have := HQ.out.2.1; omega) (by have := HOK.out.2.1; omega))
            go_wp2
            go_quiet (fail)
            go_wp2_with fail
            refine (CP.out _).mono ?_
            rintro e w5 ⟨a5, c5, rfl, hr5, hb5⟩
            obtain ⟨N5, hN5⟩ : ∃ N5, (putL Q k x).length = N5 := ⟨_, rfl⟩
            rw [hN5] at hr5
            have H5 : Hid (putL Q k x = qTo zs (i + 1) ∧ (putL Q k x).length = N5 ∧ Rag w5 W.heap.size (.slice a5 N5 c5) (putL Q k x) ∧ Below W.heap.size W w5) := Go.Lib.hid ⟨by
              show _ = putL (qTo zs i) (qAt (qTo zs i) (zs.getD i 0)) (zs.getD i 0)
              rw [← HQ.out.1, HX.out, HAT.out], hN5, hr5, hb5⟩
            have hl5 : N5 ≤ 7 := by rw [← hN5, H5.out.1]; have := (qTo_ok zs (i + 1)).1; omega
            have HN5 := Go.Lib.hid hN5
            clear hr5 hb5 hN5
            rw [HN5.out]
            go_wp2_with fail
            go_roundw
            case rel => exact ⟨i + 1, N5, c5, a5, putL Q k x, by omega, by go_num, rfl, hl5, H5⟩
            case measure => simp [intOf]; omega
      · have hie : i = n := by omega
        subst hie
        have HF : Hid (RagTo W (.returned (.tuple #[.slice a N c, .bool true])) wr (qTo zs i) true) := Go.Lib.hid (by
          rw [← HQ.out.1]; exact ⟨_, rfl, HQ.out.2.2.1, HQ.out.2.2.2⟩)
        go_wp2
        go_ret2
        exact HF.out

end Go.Proofs.YtnhhnffolmgceaaGreat.QueIC

end

section
namespace Go.Proofs.YtnhhnffolmgceaaGreat.RunIC
open Go.RowKit SeesC IntsC ExactC OrdMath InC OrderC ListsC ListsEC ListsFC LLC RagMarkC RagResC RRC AppendTwoC QueM RRVC PutBC QueIC PassM

/-- The number before the i-th one. -/
def prev (zs : List Int) (i : Nat) : Int := if i = 0 then 0 else zs.getD (i - 1) 0

theorem prev_bd {zs : List Int} (h : Ord zs) {i : Nat} (hi : i ≤ zs.length) : 0 ≤ prev zs i ∧ prev zs i ≤ 7 := by
  unfold prev
  split
  · omega
  · obtain ⟨m, h1, h2⟩ := h.getD (k := i - 1) (by omega)
    have := h.2.1
    omega

theorem run_yes {zs : List Int} (h : Ord zs) {i : Nat} (hi : i < zs.length) (hx : zs.getD i 0 < prev zs i) : runAt zs (rTo zs i) i = (rTo zs i).length ∧ 1 ≤ i ∧ 1 ≤ (rTo zs i).length := by
  obtain ⟨m, h1, h2⟩ := h.getD hi
  have h0 : i ≠ 0 := by
    intro e
    subst e
    unfold prev at hx
    rw [if_pos rfl] at hx
    omega
  unfold prev at hx
  rw [if_neg h0] at hx
  refine ⟨?_, by omega, (rTo_ok zs i).2.2.2 (by omega)⟩
  unfold runAt
  rw [if_pos (.inr hx)]

theorem run_no {zs : List Int} {i : Nat} (hx : ¬ zs.getD i 0 < prev zs i) : runAt zs (rTo zs i) i = (rTo zs i).length - 1 := by
  by_cases h0 : i = 0
  · subst h0; rfl
  · unfold prev at hx
    rw [if_neg h0] at hx
    unfold runAt
    rw [if_neg (by omega)]

theorem run_next (zs : List Int) (i : Nat) {k : Nat} {x : Int} {R : List (List Int)} (hR : R = rTo zs i) (hk : runAt zs (rTo zs i) i = k) (hx : zs.getD i 0 = x) : putL R k x = rTo zs (i + 1) := by
  subst hR
  show _ = putL (rTo zs i) (runAt zs (rTo zs i) i) (zs.getD i 0)
  rw [hk, hx]

theorem prev_next (zs : List Int) (i : Nat) : prev zs (i + 1) = zs.getD i 0 := rfl

set_option maxRecDepth 100000 in
set_option maxHeartbeats 4000000 in
theorem runsOf_any (zs : List Int) (hord : Ord zs) (W : World) (v : Value) (n : Nat) (hv : Sees W v n (vals zs)) :
    Calls Tryz.prog 37 #[v] W fun e w' => LTo W e w' (rTo zs n) := by
  have hl : zs.length = n := by simpa using hv.1
  have hn7 : n ≤ 7 := by have := hord.2.1; omega
  have hn1 : 1 ≤ n := by have := hord.1; omega
  obtain ⟨b, o, cap2, rfl, _, _, hbl, hcell⟩ := sees_cells hv (by omega)
  have HC := Go.Lib.hid hcell
  have HL := Go.Lib.hid hl
  have hr0 := Go.Lib.hid (rag_made W W.heap.size (Nat.le_refl _))
  have hb0 := Go.Lib.hid ((Below.refl W.heap.size W).alloc (Nat.le_refl _) (.cells #[] 36))
  clear hcell hl hv
  go_enter Tryz.func37, Tryz.ntmps37
  go_wp2
  go_loopw [3, 4, 5, 11] (fun qv rv lv iv wr => ∃ (i N c : Nat) (a : Option Addr) (R : List (List Int)) (rn : Nat) (ls : Int), i ≤ n ∧ iv = .int .i64 i ∧ qv = .slice a N c ∧ rv = .int .i64 rn ∧ lv = .int .i64 ls ∧ N ≤ 7 ∧ rn ≤ 7 ∧ 0 ≤ ls ∧ ls ≤ 7 ∧ Hid (R = rTo zs i ∧ R.length = N ∧ Rag wr W.heap.size (.slice a N c) R ∧ Below W.heap.size W wr ∧ rn = N - 1 ∧ ls = prev zs i)) (fun _ _ _ i _ => n - (intOf i).toNat)
  case atStart => exact ⟨0, 0, _, _, [], 0, 0, Nat.zero_le _, rfl, rfl, rfl, rfl, by omega, by omega, by omega, by omega, Go.Lib.hid ⟨rfl, rfl, hr0.out, hb0.out, rfl, rfl⟩⟩
  case round =>
    obtain ⟨i, N, c, a, R, rn, ls, hin, rfl, rfl, rfl, rfl, hN7, hrn7, hls0, hls7, HQ⟩ := hrel
    clear hr0 hb0
    by_cases hlt : i < n
    · have hck : wr.cell? ⟨b, o + i, none⟩ = some (.int .i64 (zs.getD i 0)) := (HQ.out.2.2.2.1.cell (p := ⟨b, o + i, none⟩) hbl).trans (HC.out i (by have := HL.out; omega))
      obtain ⟨x, hx⟩ : ∃ x, zs.getD i 0 = x := ⟨_, rfl⟩
      obtain ⟨qm, hq1, hq2⟩ := hord.getD (k := i) (by have := HL.out; omega)
      rw [hx] at hck hq1
      have hx1 : 1 ≤ x := by omega
      have hx7 : x ≤ 7 := by have := HL.out; omega
      have HX := Go.Lib.hid hx
      have hok := rTo_ok zs i
      rw [← HQ.out.1] at hok
      have HOK := Go.Lib.hid hok
      have hlti : (i : Int) < (n : Int) := by omega
      clear hx hok hq1 hq2
      by_cases hxl : x < ls
      · have hyes := run_yes hord (i := i) (by have := HL.out; omega) (by rw [HX.out, ← HQ.out.2.2.2.2.2]; exact hxl)
        have HN := Go.Lib.hid (run_next zs i (k := rn + 1) HQ.out.1 (by rw [hyes.1, ← HQ.out.1]; have h1 := HQ.out.2.1; have h2 := HQ.out.2.2.2.2.1; have h3 := hyes.2.2; rw [← HQ.out.1] at h3; omega) HX.out)
        have HAT : Hid (rn + 1 = N) := Go.Lib.hid (by have h1 := HQ.out.2.1; have h2 := HQ.out.2.2.2.2.1; have h3 := hyes.2.2; rw [← HQ.out.1] at h3; omega)
        have hrn1 : rn + 1 ≤ 7 := by have := HAT.out; omega
        have CP : Hid (Calls Tryz.prog 67 #[.slice a N c, .int .i64 ((rn : Int) + 1), .int .i64 x] wr _) := Go.Lib.hid (putBehind_in (W := W) (wd := wr) (rn + 1) x HQ.out.2.2.1 HQ.out.2.2.2.1 (Nat.le_refl _) (Drawn.refl _) (by have := HQ.out.2.1; have := HAT.out; omega) (by have := HQ.out.2.1; omega) (by have := HOK.out.2.1; omega))
        have hxd : decide (x < ls) = true := decide_eq_true hxl
        clear hyes
        go_wp2_with fail
        refine (CP.out).mono ?_
        rintro e w5 ⟨a5, c5, rfl, hr5, hb5⟩
        obtain ⟨N5, hN5⟩ : ∃ N5, (putL R (rn + 1) x).length = N5 := ⟨_, rfl⟩
        rw [hN5] at hr5
        have hl5 : N5 ≤ 7 := by rw [← hN5, HN.out]; have := (rTo_ok zs (i + 1)).1; omega
        have H5 : Hid (putL R (rn + 1) x = rTo zs (i + 1) ∧ (putL R (rn + 1) x).length = N5 ∧ Rag w5 W.heap.size (.slice a5 N5 c5) (putL R (rn + 1) x) ∧ Below W.heap.size W w5 ∧ (rn + 1) = N5 - 1 ∧ x = prev zs (i + 1)) := Go.Lib.hid ⟨HN.out, hN5, hr5, hb5, by rw [← hN5, putL_len]; have := HQ.out.2.1; have := HQ.out.2.2.2.2.1; have := HAT.out; split <;> omega, by rw [prev_next, HX.out]⟩
        have HN5 := Go.Lib.hid hN5
        clear hr5 hb5 hN5
        rw [HN5.out]
        go_wp2_with fail
        go_roundw
        case rel => exact ⟨i + 1, N5, c5, a5, putL R (rn + 1) x, (rn + 1), x, by omega, by go_num, rfl, by first | rfl | go_num, rfl, hl5, by omega, by omega, by omega, H5⟩
        case measure => simp [intOf]; omega
      · have HN := Go.Lib.hid (run_next zs i (k := rn) HQ.out.1 (by rw [run_no (by rw [HX.out, ← HQ.out.2.2.2.2.2]; exact hxl), ← HQ.out.1]; have h1 := HQ.out.2.1; have h2 := HQ.out.2.2.2.2.1; omega) HX.out)
        have HAT : Hid (rn = N - 1) := Go.Lib.hid HQ.out.2.2.2.2.1
        have hrn1 : rn ≤ 7 := hrn7
        have CP := Go.Lib.hid (putBehind_in (W := W) (wd := wr) rn x HQ.out.2.2.1 HQ.out.2.2.2.1 (Nat.le_refl _) (Drawn.refl _) (by have := HQ.out.2.1; have := HAT.out; omega) (by have := HQ.out.2.1; omega) (by have := HOK.out.2.1; omega))
        have hxd : decide (x < ls) = false := decide_eq_false hxl
        go_wp2_with fail
        refine (CP.out).mono ?_
        rintro e w5 ⟨a5, c5, rfl, hr5, hb5⟩
        obtain ⟨N5, hN5⟩ : ∃ N5, (putL R rn x).length = N5 := ⟨_, rfl⟩
        rw [hN5] at hr5
        have hl5 : N5 ≤ 7 := by rw [← hN5, HN.out]; have := (rTo_ok zs (i + 1)).1; omega
        have H5 : Hid (putL R rn x = rTo zs (i + 1) ∧ (putL R rn x).length = N5 ∧ Rag w5 W.heap.size (.slice a5 N5 c5) (putL R rn x) ∧ Below W.heap.size W w5 ∧ rn = N5 - 1 ∧ x = prev zs (i + 1)) := Go.Lib.hid ⟨HN.out, hN5, hr5, hb5, by rw [← hN5, putL_len]; have := HQ.out.2.1; have := HQ.out.2.2.2.2.1; have := HAT.out; split <;> omega, by rw [prev_next, HX.out]⟩
        have HN5 := Go.Lib.hid hN5
        clear hr5 hb5 hN5
        rw [HN5.out]
        go_wp2_with fail
        go_roundw
        case rel => exact ⟨i + 1, N5, c5, a5, putL R rn x, rn, x, by omega, by go_num, rfl, by first | rfl | go_num, rfl, hl5, by omega, by omega, by omega, H5⟩
        case measure => simp [intOf]; omega
    · have hie : i = n := by omega
      subst hie
      have HF := Go.Lib.hid (lto_of HQ.out.2.2.1 HQ.out.2.2.2.1 HQ.out.2.1 HQ.out.1)
      go_wp2
      go_ret
      exact HF.out

end Go.Proofs.YtnhhnffolmgceaaGreat.RunIC

end

section
namespace Go.Proofs.YtnhhnffolmgceaaGreat.RunSC
open Go.RowKit SeesC IntsC ExactC OrdMath InC OrderC ListsC ListsEC ListsFC LLC RagMarkC RagResC RRC AppendTwoC QueM RRVC PutBC QueIC PassM RunIC SameC StepTwoC

set_option maxRecDepth 100000 in
set_option maxHeartbeats 8000000 in
theorem l5Runs_any (zs : List Int) (hord : Ord zs) (W : World) (v : Value) (n : Nat) (hv : Sees W v n (vals zs)) :
    Calls Tryz.prog 38 #[v] W fun e w' => LTo W e w' (rTo zs n) := by
  have hl : zs.length = n := by simpa using hv.1
  have hn7 : n ≤ 7 := by have := hord.2.1; omega
  have hn1 : 1 ≤ n := by have := hord.1; omega
  obtain ⟨i0, hi, hz0, hz1, hz2⟩ := info_parts infoI
  obtain ⟨j0, hj, hy0, hy1, hy2⟩ := info_parts ListsFC.infoL
  obtain ⟨b, o, cap2, rfl, _, _, hbl, hcell⟩ := sees_cells hv (by omega)
  have HC := Go.Lib.hid hcell
  have HL := Go.Lib.hid hl
  have hu2 := Tryz.underlying36
  have HI := Go.Lib.hid (And.intro hi (And.intro hz0 (And.intro hz1 hz2)))
  have hr0 := Go.Lib.hid (rag_made W W.heap.size (Nat.le_refl _))
  have hb0 := Go.Lib.hid ((Below.refl W.heap.size W).alloc (Nat.le_refl _) (.cells #[] 36))
  clear hcell hl hv
  go_enter Tryz.func38, Tryz.ntmps38
  go_wp2
  go_loopw [3, 4] (fun qv iv wr => ∃ (i N c : Nat) (a : Option Addr) (R : List (List Int)), i ≤ n ∧ iv = .int .i64 i ∧ qv = .slice a N c ∧ N ≤ 7 ∧ Hid (R = rTo zs i ∧ R.length = N ∧ Rag wr W.heap.size (.slice a N c) R ∧ Below W.heap.size W wr)) (fun _ i _ => n - (intOf i).toNat)
  case atStart => exact ⟨0, 0, _, _, [], Nat.zero_le _, rfl, rfl, by omega, Go.Lib.hid ⟨rfl, rfl, hr0.out, hb0.out⟩⟩
  case round =>
    obtain ⟨i, N, c, a, R, hin, rfl, rfl, hN7, HQ⟩ := hrel
    clear hr0 hb0
    by_cases hlt : i < n
    · have hck : wr.cell? ⟨b, o + i, none⟩ = some (.int .i64 (zs.getD i 0)) := (HQ.out.2.2.2.cell (p := ⟨b, o + i, none⟩) hbl).trans (HC.out i (by have := HL.out; omega))
      obtain ⟨x, hx⟩ : ∃ x, zs.getD i 0 = x := ⟨_, rfl⟩
      rw [hx] at hck
      have HX := Go.Lib.hid hx
      obtain ⟨wo, rfl⟩ : ∃ wo, wo = wr := ⟨_, rfl⟩
      obtain ⟨gs, hgs⟩ := rag_rr HQ.out.2.2.1
      have HG := Go.Lib.hid hgs
      have hok := rTo_ok zs i
      rw [← HQ.out.1] at hok
      have HOK := Go.Lib.hid hok
      have hlti : (i : Int) < (n : Int) := by omega
      clear hx hgs hok
      by_cases h0 : i = 0
      · have hi0 : ((i : Int) == 0) = true := by subst h0; rfl
        have HN := Go.Lib.hid (run_next zs i (k := N) HQ.out.1 (by unfold runAt; rw [if_pos (.inl h0), ← HQ.out.1]; exact HQ.out.2.1) HX.out)
        have HPUT : Hid (putL R N x = (R ++ [[]]).set N ([] ++ [x])) := Go.Lib.hid (by
          unfold putL; rw [if_neg (by have := HQ.out.2.1; omega), ← HQ.out.2.1, List.set_append_right _ _ (Nat.le_refl _)]; simp)
        have HRX : Hid (∀ X, Drawn wo X → RRV W W.heap.size W.heap.size X (.slice a N c) gs R) := Go.Lib.hid (fun X hX => (rrv_own HG.out HQ.out.2.2.2).more (hX.below _))
        have HOX : Hid (∀ X, Drawn wo X → ∀ o1 o2, ((X.alloc o1).alloc o2).ownsRow W.heap.size 36 1 (.slice a N c) N (rowsOf R gs)) := Go.Lib.hid (fun X hX o1 o2 => rr_append (HRX.out X hX).1 HQ.out.2.1 o1 o2)
        have hszW : W.heap.size ≤ wo.heap.size := HQ.out.2.2.2.size
        go_wp2
        go_quiet (fail)
        go_wp2_with (at_builtin; refine wpList_append_two _ rfl _ _ 32 rfl W.heap.size 36 j0 (.slice none 0 0) 1 24 Tryz.underlying32 hj hy0 hy1 hy2 rfl (by decide) (.slice a N c) N (rowsOf R gs) rfl (HOX.out _ ((Drawn.refl _).next _) _ _) ⟨wo.heap.size + 1, 0, none⟩ 1 1 [.slice (some ⟨wo.heap.size, 0, none⟩) 0 0] rfl rfl (cell_two_new _ _ _ _ _ rfl) (fun x hx => by simp at hx; subst hx; rfl) (by unfold maxLen; omega) (by omega) (by simp; omega) ?_; intro v' w3 hown3 hgrow3 hnew3; obtain ⟨g3, c3, rfl⟩ := ownsRow_succ hown3; have hH3 := rrv_new HQ.out.2.1 (HRX.out _ ((Drawn.refl _).next _)) hszW hown3 hgrow3 hnew3; have H3 : Hid (RRV W W.heap.size W.heap.size w3 (.slice (some ⟨g3, 0, none⟩) (N + 1) c3) (gs ++ [(wo.heap.size, 0)]) (R ++ [[]])) := Go.Lib.hid hH3; clear hown3 hgrow3 hnew3 hH3)
        have HL3 : Hid ((R ++ [[]]).length = N + 1 ∧ (R ++ [[]]).getD N [] = [] ∧ (gs ++ [(wo.heap.size, 0)]).getD N (0, 0) = (wo.heap.size, 0)) := Go.Lib.hid ⟨by simp [HQ.out.2.1], by rw [← HQ.out.2.1, RRC.getD_cat_r], by rw [← HQ.out.2.1, ← HG.out.1, RRC.getD_cat_r]⟩
        have hhd3 := H3.out.1.head HL3.out.1 (show N < N + 1 by omega)
        rw [HL3.out.2.1, HL3.out.2.2] at hhd3
        have hb3 := mid_below H3.out.rag.2 (Nat.le_refl _)
        have hck3 : w3.cell? ⟨b, o + i, none⟩ = some (.int .i64 x) := (hb3.cell (p := ⟨b, o + i, none⟩) hbl).trans ((HC.out i (by have := HL.out; omega)).trans (by rw [HX.out]))
        have hck4 : w3.cell? ⟨b, o, none⟩ = some (.int .i64 x) := by have h := hck3; rw [h0] at h; exact h
        have hgl3 : g3 < w3.heap.size := (own_block_lt H3.out.1.2.1 rfl).2
        have hhdA : ∀ (oo : Obj), (w3.drew.alloc oo).cell? ⟨g3, N, none⟩ = some (.slice (some ⟨wo.heap.size, 0, none⟩) 0 0) := fun oo => (Below.cell ((Below.refl w3.drew.heap.size w3.drew).alloc (Nat.le_refl _) oo) (p := ⟨g3, N, none⟩) hgl3).trans hhd3
        have HRX3 : Hid (∀ X, Drawn w3 X → RRV W W.heap.size W.heap.size X (.slice (some ⟨g3, 0, none⟩) (N + 1) c3) (gs ++ [(wo.heap.size, 0)]) (R ++ [[]])) := Go.Lib.hid (fun X hX => H3.out.more (hX.below _))
        have hrow3 := H3.out.1.2.2.1 N (by rw [HL3.out.1]; omega)
        rw [HL3.out.2.1, HL3.out.2.2] at hrow3
        have HOX3 : Hid (∀ X, Drawn w3 X → X.ownsRow W.heap.size 3 1 (.slice (some ⟨wo.heap.size, 0, none⟩) 0 0) 0 []) := Go.Lib.hid (fun X hX => own_hp hX.heap hrow3)
        have hszW3 : W.heap.size ≤ w3.heap.size := hb3.size
        have hki : (N : Int) < (N : Int) + 1 := by omega
        clear hb3 hrow3 HOX HRX hck
        go_region_law (refine step_append_two _ rfl (.tmp 39) (.tmp 44) 36 rfl W.heap.size 3 i0 (.int .i64 0) 1 8 hu2 HI.out.1 HI.out.2.1 HI.out.2.2.1 HI.out.2.2.2 rfl (by decide) (.slice (some ⟨wo.heap.size, 0, none⟩) 0 0) 0 [] (by simp [Act.eval]) (World.ownsRow.alloc (HOX3.out _ (drawn_drew (Drawn.refl _))) _) ⟨w3.heap.size, 0, none⟩ 1 1 [.int .i64 x] (by simp [Act.eval]) rfl (cell_one_new _ _ _) (fun x hx => by simp at hx; subst hx; rfl) (by unfold maxLen; omega) (by omega) (by simp; omega) ?_; intro v5 w5 hown5 hgrow5 hnew5; obtain ⟨g5, c5, rfl⟩ := ownsRow_succ hown5; obtain ⟨hH5, hc5, hf5⟩ := rrv_app (x := x) (r := []) (m := 0) HL3.out.1 (HRX3.out _ (drawn_drew (Drawn.refl _))) (by omega) HL3.out.2.1 rfl hown5 (by rw [HL3.out.2.2]; exact hgrow5) (by rw [HL3.out.2.2]; exact hnew5); rw [HL3.out.2.2] at hc5; have H5 := Go.Lib.hid hH5; clear hown5 hgrow5 hnew5 hH5)
        all_goals
          have hl7 : N + 1 ≤ 7 := by have := HOK.out.1; have := HQ.out.2.1; omega
          have H6 : Hid (putL R N x = rTo zs (i + 1) ∧ (putL R N x).length = N + 1 ∧ Rag (w5.setCell ⟨g3, N, none⟩ (.slice (some ⟨g5, 0, none⟩) (0 + 1) c5)) W.heap.size (.slice (some ⟨g3, 0, none⟩) (N + 1) c3) (putL R N x) ∧ Below W.heap.size W (w5.setCell ⟨g3, N, none⟩ (.slice (some ⟨g5, 0, none⟩) (0 + 1) c5))) := Go.Lib.hid ⟨HN.out, by rw [HPUT.out, List.length_set]; exact HL3.out.1, by rw [HPUT.out]; exact H5.out.rag.1, mid_below H5.out.rag.2 (Nat.le_refl _)⟩
          clear hc5 hf5
          go_wp2
          go_roundw
          case rel => exact ⟨i + 1, N + 1, c3, _, putL R N x, by omega, by go_num, rfl, hl7, H6⟩
          case measure => simp [intOf]; omega
      · obtain ⟨j, rfl⟩ : ∃ j, i = j + 1 := ⟨i - 1, by omega⟩
        have hi0 : (((j : Int) + 1) == 0) = false := by rw [beq_eq_false_iff_ne]; omega
        have hj0 : 0 ≤ (j : Int) + 1 := by omega
        obtain ⟨y, hy⟩ : ∃ y, zs.getD j 0 = y := ⟨_, rfl⟩
        have hckj : wo.cell? ⟨b, o + j, none⟩ = some (.int .i64 (zs.getD j 0)) := (HQ.out.2.2.2.cell (p := ⟨b, o + j, none⟩) hbl).trans (HC.out j (by have := HL.out; omega))
        rw [hy] at hckj
        have HY := Go.Lib.hid hy
        clear hy
        by_cases hxl : x < y
        · have HN := Go.Lib.hid (run_next zs (j + 1) (k := N) HQ.out.1 (by unfold runAt; rw [if_pos (.inr (by show zs.getD (j + 1) 0 < zs.getD j 0; rw [HX.out, HY.out]; exact hxl)), ← HQ.out.1]; exact HQ.out.2.1) HX.out)
          have hxd : decide (x < y) = true := decide_eq_true hxl
          have HPUT : Hid (putL R N x = (R ++ [[]]).set N ([] ++ [x])) := Go.Lib.hid (by
            unfold putL; rw [if_neg (by have := HQ.out.2.1; omega), ← HQ.out.2.1, List.set_append_right _ _ (Nat.le_refl _)]; simp)
          have HRX : Hid (∀ X, Drawn wo X → RRV W W.heap.size W.heap.size X (.slice a N c) gs R) := Go.Lib.hid (fun X hX => (rrv_own HG.out HQ.out.2.2.2).more (hX.below _))
          have HOX : Hid (∀ X, Drawn wo X → ∀ o1 o2, ((X.alloc o1).alloc o2).ownsRow W.heap.size 36 1 (.slice a N c) N (rowsOf R gs)) := Go.Lib.hid (fun X hX o1 o2 => rr_append (HRX.out X hX).1 HQ.out.2.1 o1 o2)
          have hszW : W.heap.size ≤ wo.heap.size := HQ.out.2.2.2.size
          go_wp2
          go_quiet (fail)
          go_wp2_with (at_builtin; refine wpList_append_two _ rfl _ _ 32 rfl W.heap.size 36 j0 (.slice none 0 0) 1 24 Tryz.underlying32 hj hy0 hy1 hy2 rfl (by decide) (.slice a N c) N (rowsOf R gs) rfl (HOX.out _ ((Drawn.refl _).next _) _ _) ⟨wo.heap.size + 1, 0, none⟩ 1 1 [.slice (some ⟨wo.heap.size, 0, none⟩) 0 0] rfl rfl (cell_two_new _ _ _ _ _ rfl) (fun x hx => by simp at hx; subst hx; rfl) (by unfold maxLen; omega) (by omega) (by simp; omega) ?_; intro v' w3 hown3 hgrow3 hnew3; obtain ⟨g3, c3, rfl⟩ := ownsRow_succ hown3; have hH3 := rrv_new HQ.out.2.1 (HRX.out _ ((Drawn.refl _).next _)) hszW hown3 hgrow3 hnew3; have H3 : Hid (RRV W W.heap.size W.heap.size w3 (.slice (some ⟨g3, 0, none⟩) (N + 1) c3) (gs ++ [(wo.heap.size, 0)]) (R ++ [[]])) := Go.Lib.hid hH3; clear hown3 hgrow3 hnew3 hH3)
          have HL3 : Hid ((R ++ [[]]).length = N + 1 ∧ (R ++ [[]]).getD N [] = [] ∧ (gs ++ [(wo.heap.size, 0)]).getD N (0, 0) = (wo.heap.size, 0)) := Go.Lib.hid ⟨by simp [HQ.out.2.1], by rw [← HQ.out.2.1, RRC.getD_cat_r], by rw [← HQ.out.2.1, ← HG.out.1, RRC.getD_cat_r]⟩
          have hhd3 := H3.out.1.head HL3.out.1 (show N < N + 1 by omega)
          rw [HL3.out.2.1, HL3.out.2.2] at hhd3
          have hb3 := mid_below H3.out.rag.2 (Nat.le_refl _)
          have hck3 : w3.cell? ⟨b, o + (j + 1), none⟩ = some (.int .i64 x) := (hb3.cell (p := ⟨b, o + (j + 1), none⟩) hbl).trans ((HC.out (j + 1) (by have := HL.out; omega)).trans (by rw [HX.out]))
          have hgl3 : g3 < w3.heap.size := (own_block_lt H3.out.1.2.1 rfl).2
          have hhdA : ∀ (oo : Obj), (w3.drew.alloc oo).cell? ⟨g3, N, none⟩ = some (.slice (some ⟨wo.heap.size, 0, none⟩) 0 0) := fun oo => (Below.cell ((Below.refl w3.drew.heap.size w3.drew).alloc (Nat.le_refl _) oo) (p := ⟨g3, N, none⟩) hgl3).trans hhd3
          have HRX3 : Hid (∀ X, Drawn w3 X → RRV W W.heap.size W.heap.size X (.slice (some ⟨g3, 0, none⟩) (N + 1) c3) (gs ++ [(wo.heap.size, 0)]) (R ++ [[]])) := Go.Lib.hid (fun X hX => H3.out.more (hX.below _))
          have hrow3 := H3.out.1.2.2.1 N (by rw [HL3.out.1]; omega)
          rw [HL3.out.2.1, HL3.out.2.2] at hrow3
          have HOX3 : Hid (∀ X, Drawn w3 X → X.ownsRow W.heap.size 3 1 (.slice (some ⟨wo.heap.size, 0, none⟩) 0 0) 0 []) := Go.Lib.hid (fun X hX => own_hp hX.heap hrow3)
          have hszW3 : W.heap.size ≤ w3.heap.size := hb3.size
          have hki : (N : Int) < (N : Int) + 1 := by omega
          clear hb3 hrow3 HOX HRX hck
          go_region_law (refine step_append_two _ rfl (.tmp 39) (.tmp 44) 36 rfl W.heap.size 3 i0 (.int .i64 0) 1 8 hu2 HI.out.1 HI.out.2.1 HI.out.2.2.1 HI.out.2.2.2 rfl (by decide) (.slice (some ⟨wo.heap.size, 0, none⟩) 0 0) 0 [] (by simp [Act.eval]) (World.ownsRow.alloc (HOX3.out _ (drawn_drew (Drawn.refl _))) _) ⟨w3.heap.size, 0, none⟩ 1 1 [.int .i64 x] (by simp [Act.eval]) rfl (cell_one_new _ _ _) (fun x hx => by simp at hx; subst hx; rfl) (by unfold maxLen; omega) (by omega) (by simp; omega) ?_; intro v5 w5 hown5 hgrow5 hnew5; obtain ⟨g5, c5, rfl⟩ := ownsRow_succ hown5; obtain ⟨hH5, hc5, hf5⟩ := rrv_app (x := x) (r := []) (m := 0) HL3.out.1 (HRX3.out _ (drawn_drew (Drawn.refl _))) (by omega) HL3.out.2.1 rfl hown5 (by rw [HL3.out.2.2]; exact hgrow5) (by rw [HL3.out.2.2]; exact hnew5); rw [HL3.out.2.2] at hc5; have H5 := Go.Lib.hid hH5; clear hown5 hgrow5 hnew5 hH5)
          all_goals
            have hl7 : N + 1 ≤ 7 := by have := HOK.out.1; have := HQ.out.2.1; omega
            have H6 : Hid (putL R N x = rTo zs ((j + 1) + 1) ∧ (putL R N x).length = N + 1 ∧ Rag (w5.setCell ⟨g3, N, none⟩ (.slice (some ⟨g5, 0, none⟩) (0 + 1) c5)) W.heap.size (.slice (some ⟨g3, 0, none⟩) (N + 1) c3) (putL R N x) ∧ Below W.heap.size W (w5.setCell ⟨g3, N, none⟩ (.slice (some ⟨g5, 0, none⟩) (0 + 1) c5))) := Go.Lib.hid ⟨HN.out, by rw [HPUT.out, List.length_set]; exact HL3.out.1, by rw [HPUT.out]; exact H5.out.rag.1, mid_below H5.out.rag.2 (Nat.le_refl _)⟩
            clear hc5 hf5
            go_wp2
            go_roundw
            case rel => exact ⟨(j + 1) + 1, N + 1, c3, _, putL R N x, by omega, by go_num, rfl, hl7, H6⟩
            case measure => simp [intOf]; omega
        · have HN := Go.Lib.hid (run_next zs (j + 1) (k := N - 1) HQ.out.1 (by unfold runAt; rw [if_neg (by show ¬ (j + 1 = 0 ∨ zs.getD (j + 1) 0 < zs.getD j 0); rw [HX.out, HY.out]; omega), ← HQ.out.1]; have := HQ.out.2.1; omega) HX.out)
          have HPOS : Hid (1 ≤ N) := Go.Lib.hid (by have h1 := HOK.out.2.2.2 (by omega); have := HQ.out.2.1; omega)
          have hxd : decide (x < y) = false := decide_eq_false hxl
          obtain ⟨k, rfl⟩ : ∃ k, N = k + 1 := ⟨N - 1, by have := HPOS.out; omega⟩
          obtain ⟨m, hm⟩ : ∃ m, (R.getD k []).length = m := ⟨_, rfl⟩
          have hm7 : m ≤ 7 := by
            have h1 := tot_row (L := R) (i := k) (by have := HQ.out.2.1; omega)
            have h2 := HOK.out.2.1
            omega
          obtain ⟨p, hp⟩ : ∃ p, gs.getD k (0, 0) = p := ⟨_, rfl⟩
          obtain ⟨g, c', hgc⟩ := rr_slice HG.out HQ.out.2.1 (by omega)
          cases hgc
          have hhd := HG.out.head HQ.out.2.1 (show k < k + 1 by omega)
          have hrow := HG.out.2.2.1 k (by have := HQ.out.2.1; omega)
          rw [hp, hm] at hhd
          rw [hp, hm] at hrow
          unfold sl at hrow
          have HP := Go.Lib.hid (And.intro hp hm)
          obtain ⟨p1, p2⟩ := p
          simp only at hhd
          have HO := Go.Lib.hid hrow
          have hkli : (k : Int) < (k : Int) + 1 := by omega
          clear hp hm hrow
          have HRX : Hid (∀ X, Drawn wo X → RRV W W.heap.size W.heap.size X (.slice (some ⟨g, 0, none⟩) (k + 1) c) gs R) := Go.Lib.hid (fun X hX => (rrv_own HG.out HQ.out.2.2.2).more (hX.below _))
          have HOX : Hid (∀ X, Drawn wo X → X.ownsRow W.heap.size 3 1 (.slice (some ⟨p1, 0, none⟩) m p2) m (vals (R.getD k []))) := Go.Lib.hid (fun X hX => own_hp hX.heap HO.out)
          have hszW : W.heap.size ≤ wo.heap.size := HQ.out.2.2.2.size
          have hgl : g < wo.heap.size := (own_block_lt HG.out.2.1 rfl).2
          have hhdA : ∀ (nn : Nat) (oo : Obj), ((wo.drewN nn).alloc oo).cell? ⟨g, k, none⟩ = some (.slice (some ⟨p1, 0, none⟩) m p2) := fun nn oo => (Below.cell ((Below.refl (wo.drewN nn).heap.size (wo.drewN nn)).alloc (Nat.le_refl _) oo) (p := ⟨g, k, none⟩) hgl).trans hhd
          have HPUT : Hid (putL R k x = R.set k (R.getD k [] ++ [x])) := Go.Lib.hid (by unfold putL; rw [if_pos (by have := HQ.out.2.1; omega)])
          go_wp2
          go_quiet (fail)
          go_wp2_with fail
          go_region_law (refine step_append_two _ rfl (.tmp 39) (.tmp 44) 36 rfl W.heap.size 3 i0 (.int .i64 0) 1 8 hu2 HI.out.1 HI.out.2.1 HI.out.2.2.1 HI.out.2.2.2 rfl (by decide) (.slice (some ⟨p1, 0, none⟩) m p2) m (vals (R.getD k [])) (by simp [Act.eval]) (World.ownsRow.alloc (HOX.out _ (drawn_drew ((Drawn.refl _).next _))) _) ⟨wo.heap.size, 0, none⟩ 1 1 [.int .i64 x] (by simp [Act.eval]) rfl (cell_one_new _ _ _) (fun x hx => by simp at hx; subst hx; rfl) (by unfold maxLen; omega) (by omega) (by simp; omega) ?_; intro v5 w5 hown5 hgrow5 hnew5; obtain ⟨g5, c5, rfl⟩ := ownsRow_succ hown5; obtain ⟨hH5, hc5, hf5⟩ := rrv_app (x := x) HQ.out.2.1 (HRX.out _ (drawn_drew ((Drawn.refl _).next _))) (show k < k + 1 by omega) rfl HP.out.2 hown5 (by rw [HP.out.1]; exact hgrow5) (by rw [HP.out.1]; exact hnew5); rw [HP.out.1] at hc5; have H5 := Go.Lib.hid hH5; clear hown5 hgrow5 hnew5 hH5)
          all_goals
            have H6 : Hid (putL R k x = rTo zs ((j + 1) + 1) ∧ (putL R k x).length = k + 1 ∧ Rag (w5.setCell ⟨g, k, none⟩ (.slice (some ⟨g5, 0, none⟩) (m + 1) c5)) W.heap.size (.slice (some ⟨g, 0, none⟩) (k + 1) c) (putL R k x) ∧ Below W.heap.size W (w5.setCell ⟨g, k, none⟩ (.slice (some ⟨g5, 0, none⟩) (m + 1) c5))) := Go.Lib.hid ⟨HN.out, by rw [HPUT.out, List.length_set]; exact HQ.out.2.1, by rw [HPUT.out]; exact H5.out.rag.1, mid_below H5.out.rag.2 (Nat.le_refl _)⟩
            clear hc5 hf5
            go_wp2
            go_roundw
            case rel => exact ⟨(j + 1) + 1, k + 1, c, _, putL R k x, by omega, by go_num, rfl, hN7, H6⟩
            case measure => simp [intOf]; omega
    · have hie : i = n := by omega
      subst hie
      have HF := Go.Lib.hid (lto_of HQ.out.2.2.1 HQ.out.2.2.2 HQ.out.2.1 HQ.out.1)
      go_wp2
      go_ret
      exact HF.out

end Go.Proofs.YtnhhnffolmgceaaGreat.RunSC

end

section
namespace Go.Proofs.YtnhhnffolmgceaaGreat.QueSC
open Go.RowKit SeesC IntsC ExactC OrdMath InC OrderC ListsC ListsEC ListsFC LLC RagMarkC RagResC RRC AppendTwoC QueM RRVC PutBC QueIC SameC StepTwoC

set_option maxRecDepth 100000 in
set_option maxHeartbeats 8000000 in
theorem l5Queues_any (zs : List Int) (hord : Ord zs) (W : World) (v : Value) (n : Nat) (hv : Sees W v n (vals zs)) :
    Calls Tryz.prog 51 #[v] W fun e w' => LTo W e w' (qTo zs n) := by
  have hl : zs.length = n := by simpa using hv.1
  have hn7 : n ≤ 7 := by have := hord.2.1; omega
  have hn1 : 1 ≤ n := by have := hord.1; omega
  obtain ⟨i0, hi, hz0, hz1, hz2⟩ := info_parts infoI
  obtain ⟨j0, hj, hy0, hy1, hy2⟩ := info_parts ListsFC.infoL
  obtain ⟨b, o, cap2, rfl, _, _, hbl, hcell⟩ := sees_cells hv (by omega)
  have HC := Go.Lib.hid hcell
  have HL := Go.Lib.hid hl
  have hu2 := Tryz.underlying36
  have HI := Go.Lib.hid (And.intro hi (And.intro hz0 (And.intro hz1 hz2)))
  have hr0 := Go.Lib.hid (rag_made W W.heap.size (Nat.le_refl _))
  have hb0 := Go.Lib.hid ((Below.refl W.heap.size W).alloc (Nat.le_refl _) (.cells #[] 36))
  clear hcell hl hv
  go_enter Tryz.func51, Tryz.ntmps51
  go_wp2
  go_loopw [3, 4] (fun qv iv wr => ∃ (i N c : Nat) (a : Option Addr) (Q : List (List Int)), i ≤ n ∧ iv = .int .i64 i ∧ qv = .slice a N c ∧ N ≤ 7 ∧ Hid (Q = qTo zs i ∧ Q.length = N ∧ Rag wr W.heap.size (.slice a N c) Q ∧ Below W.heap.size W wr)) (fun _ i _ => n - (intOf i).toNat)
  case atStart => exact ⟨0, 0, _, _, [], Nat.zero_le _, rfl, rfl, by omega, Go.Lib.hid ⟨rfl, rfl, hr0.out, hb0.out⟩⟩
  case round =>
    obtain ⟨i, N, c, a, Q, hin, rfl, rfl, hN7, HQ⟩ := hrel
    clear hr0 hb0
    by_cases hlt : i < n
    · have hck : wr.cell? ⟨b, o + i, none⟩ = some (.int .i64 (zs.getD i 0)) := (HQ.out.2.2.2.cell (p := ⟨b, o + i, none⟩) hbl).trans (HC.out i (by have := HL.out; omega))
      obtain ⟨x, hx⟩ : ∃ x, zs.getD i 0 = x := ⟨_, rfl⟩
      rw [hx] at hck
      have HX := Go.Lib.hid hx
      have HCK := Go.Lib.hid hck
      obtain ⟨wo, rfl⟩ : ∃ wo, wo = wr := ⟨_, rfl⟩
      obtain ⟨gs, hgs⟩ := rag_rr HQ.out.2.2.1
      have HG := Go.Lib.hid hgs
      have hok := qTo_ok zs i
      rw [← HQ.out.1] at hok
      have HOK := Go.Lib.hid hok
      have hlti : (i : Int) < (n : Int) := by omega
      clear hx hgs hok hck
      go_wp2
      go_loopw [5] (fun kv wr => ∃ k : Nat, k ≤ N ∧ kv = .int .i64 k ∧ Hid (Drawn wo wr ∧ ∀ j, j < k → last (Q.getD j []) > x)) (fun k _ => N - (intOf k).toNat)
      case atStart => exact ⟨0, Nat.zero_le _, rfl, Go.Lib.hid ⟨Drawn.refl _, fun j hj => by omega⟩⟩
      case round =>
        obtain ⟨k, hkN, rfl, HK⟩ := hrel
        have hck := (HK.out.1.cell ⟨b, o + i, none⟩).trans HCK.out
        by_cases hkl : k < N
        · obtain ⟨m, hm⟩ : ∃ m, (Q.getD k []).length = m + 1 := ⟨(Q.getD k []).length - 1, by have := HOK.out.2.2 k (by have := HQ.out.2.1; omega); omega⟩
          have hm7 : m ≤ 7 := by
            have h1 := tot_row (L := Q) (i := k) (by have := HQ.out.2.1; omega)
            have h2 := HOK.out.2.1
            omega
          obtain ⟨p, hp⟩ : ∃ p, gs.getD k (0, 0) = p := ⟨_, rfl⟩
          obtain ⟨y, hy⟩ : ∃ y, last (Q.getD k []) = y := ⟨_, rfl⟩
          obtain ⟨g, c', hgc⟩ := rr_slice HG.out HQ.out.2.1 (by omega)
          cases hgc
          have hhd := (HK.out.1.cell ⟨g, k, none⟩).trans (HG.out.head HQ.out.2.1 hkl)
          have hlast := (HK.out.1.cell ⟨(gs.getD k (0, 0)).1, m, none⟩).trans (rr_last HG.out (by have := HQ.out.2.1; omega) hm)
          have hrow := HG.out.2.2.1 k (by have := HQ.out.2.1; omega)
          rw [hp, hm] at hhd
          rw [hp, hy] at hlast
          rw [hp, hm] at hrow
          unfold sl at hrow
          have HP := Go.Lib.hid (And.intro hp hm)
          have HY := Go.Lib.hid hy
          obtain ⟨p1, p2⟩ := p
          simp only at hhd hlast
          have HO := Go.Lib.hid hrow
          have hkli : (k : Int) < (N : Int) := by omega
          have hkd : decide (k < N) = true := decide_eq_true hkl
          clear hp hm hy hrow
          by_cases hgt : y > x
          · have HK2 : Hid (∀ j, j < k + 1 → last (Q.getD j []) > x) := Go.Lib.hid (fun j hj => by
              by_cases e : j = k
              · rw [e, HY.out]; exact hgt
              · exact HK.out.2 j (by omega))
            have hgd : decide (x < y) = true := decide_eq_true hgt
            go_wp2
            go_quiet (fail)
            go_wp2
            go_roundw
            case rel => exact ⟨k + 1, by omega, by go_num, Go.Lib.hid ⟨HK.out.1.next _, HK2.out⟩⟩
            case measure => simp [intOf]; omega
          · have HAT : Hid (qAt Q x = k) := Go.Lib.hid (qAt_is Q x k (by have := HQ.out.2.1; omega) HK.out.2 (fun _ => by rw [HY.out]; exact hgt))
            have hgd : decide (x < y) = false := decide_eq_false hgt
            have hkn : ((k : Int) == (N : Int)) = false := by rw [beq_eq_false_iff_ne]; omega
            obtain ⟨wk, hwk⟩ : ∃ wk, wk = wr := ⟨_, rfl⟩
            have HRX : Hid (∀ X, Drawn wo X → RRV W W.heap.size W.heap.size X (.slice (some ⟨g, 0, none⟩) N c) gs Q) := Go.Lib.hid (fun X hX => (rrv_own HG.out HQ.out.2.2.2).more (hX.below _))
            have HOX : Hid (∀ X, Drawn wo X → X.ownsRow W.heap.size 3 1 (.slice (some ⟨p1, 0, none⟩) (m + 1) p2) (m + 1) (vals (Q.getD k []))) := Go.Lib.hid (fun X hX => own_hp hX.heap HO.out)
            have hszW : W.heap.size ≤ wr.heap.size := by rw [HK.out.1.heap]; exact HQ.out.2.2.2.size
            have hgl : g < wr.heap.size := by rw [HK.out.1.heap]; exact (own_block_lt HG.out.2.1 rfl).2
            have hhdA : ∀ (nn : Nat) (oo : Obj), ((wr.drewN nn).alloc oo).cell? ⟨g, k, none⟩ = some (.slice (some ⟨p1, 0, none⟩) (m + 1) p2) := fun nn oo => (Below.cell ((Below.refl (wr.drewN nn).heap.size (wr.drewN nn)).alloc (Nat.le_refl _) oo) (p := ⟨g, k, none⟩) hgl).trans hhd
            have HPUT : Hid (putL Q k x = Q.set k (Q.getD k [] ++ [x])) := Go.Lib.hid (by unfold putL; rw [if_pos (by have := HQ.out.2.1; omega)])
            go_wp2
            go_quiet (fail)
            go_wp2_with fail
            go_region_law (refine step_append_two _ rfl (.tmp 51) (.tmp 56) 36 rfl W.heap.size 3 i0 (.int .i64 0) 1 8 hu2 HI.out.1 HI.out.2.1 HI.out.2.2.1 HI.out.2.2.2 rfl (by decide) (.slice (some ⟨p1, 0, none⟩) (m + 1) p2) (m + 1) (vals (Q.getD k [])) (by simp [Act.eval]) (World.ownsRow.alloc (HOX.out _ (drawn_drew (HK.out.1.next _))) _) ⟨wr.heap.size, 0, none⟩ 1 1 [.int .i64 x] (by simp [Act.eval]) rfl (cell_one_new _ _ _) (fun x hx => by simp at hx; subst hx; rfl) (by unfold maxLen; omega) (by omega) (by simp; omega) ?_; intro v5 w5 hown5 hgrow5 hnew5; obtain ⟨g5, c5, rfl⟩ := ownsRow_succ hown5; obtain ⟨hH5, hc5, hf5⟩ := rrv_app (x := x) HQ.out.2.1 (HRX.out _ (drawn_drew (HK.out.1.next _))) hkl rfl HP.out.2 hown5 (by rw [HP.out.1]; exact hgrow5) (by rw [HP.out.1]; exact hnew5); rw [HP.out.1] at hc5; have H5 := Go.Lib.hid hH5; clear hown5 hgrow5 hnew5 hH5)
            all_goals
              have H6 : Hid (putL Q k x = qTo zs (i + 1) ∧ (putL Q k x).length = N ∧ Rag (w5.setCell ⟨g, k, none⟩ (.slice (some ⟨g5, 0, none⟩) (m + 1 + 1) c5)) W.heap.size (.slice (some ⟨g, 0, none⟩) N c) (putL Q k x) ∧ Below W.heap.size W (w5.setCell ⟨g, k, none⟩ (.slice (some ⟨g5, 0, none⟩) (m + 1 + 1) c5))) := Go.Lib.hid ⟨by
                show _ = putL (qTo zs i) (qAt (qTo zs i) (zs.getD i 0)) (zs.getD i 0)
                rw [← HQ.out.1, HX.out, HAT.out], by rw [HPUT.out, List.length_set]; exact HQ.out.2.1, by rw [HPUT.out]; exact H5.out.rag.1, mid_below H5.out.rag.2 (Nat.le_refl _)⟩
              clear hc5 hf5
              go_wp2
              go_roundw
              case rel => exact ⟨i + 1, N, c, _, putL Q k x, by omega, by go_num, rfl, hN7, H6⟩
              case measure => simp [intOf]; omega
        · have hkE : k = N := by omega
          subst hkE
          have HAT : Hid (qAt Q x = k) := Go.Lib.hid (qAt_is Q x k (by have := HQ.out.2.1; omega) HK.out.2 (fun h => by have := HQ.out.2.1; omega))
          have hkd : decide (k < k) = false := decide_eq_false (Nat.lt_irrefl _)
          have hkn : ((k : Int) == (k : Int)) = true := by simp
          have HRX : Hid (∀ X, Drawn wo X → RRV W W.heap.size W.heap.size X (.slice a k c) gs Q) := Go.Lib.hid (fun X hX => (rrv_own HG.out HQ.out.2.2.2).more (hX.below _))
          have HOX : Hid (∀ X, Drawn wo X → ∀ o1 o2, ((X.alloc o1).alloc o2).ownsRow W.heap.size 36 1 (.slice a k c) k (rowsOf Q gs)) := Go.Lib.hid (fun X hX o1 o2 => rr_append (HRX.out X hX).1 HQ.out.2.1 o1 o2)
          have hszW : W.heap.size ≤ wr.heap.size := by rw [HK.out.1.heap]; exact HQ.out.2.2.2.size
          have hbS : b < wr.heap.size := by omega
          have HPUT : Hid (putL Q k x = (Q ++ [[]]).set k ([] ++ [x])) := Go.Lib.hid (by
            unfold putL; rw [if_neg (by have := HQ.out.2.1; omega), ← HQ.out.2.1, List.set_append_right _ _ (Nat.le_refl _)]; simp)
          go_wp2
          go_quiet (fail)
          go_wp2_with (at_builtin; refine wpList_append_two _ rfl _ _ 32 rfl W.heap.size 36 j0 (.slice none 0 0) 1 24 Tryz.underlying32 hj hy0 hy1 hy2 rfl (by decide) (.slice a k c) k (rowsOf Q gs) rfl (HOX.out _ (HK.out.1.next _) _ _) ⟨wr.heap.size + 1, 0, none⟩ 1 1 [.slice (some ⟨wr.heap.size, 0, none⟩) 0 0] rfl rfl (cell_two_new _ _ _ _ _ rfl) (fun x hx => by simp at hx; subst hx; rfl) (by unfold maxLen; omega) (by omega) (by simp; omega) ?_; intro v' w3 hown3 hgrow3 hnew3; obtain ⟨g3, c3, rfl⟩ := ownsRow_succ hown3; have hH3 := rrv_new HQ.out.2.1 (HRX.out _ (HK.out.1.next _)) hszW hown3 hgrow3 hnew3; have H3 : Hid (RRV W W.heap.size W.heap.size w3 (.slice (some ⟨g3, 0, none⟩) (k + 1) c3) (gs ++ [(wr.heap.size, 0)]) (Q ++ [[]])) := Go.Lib.hid hH3; clear hown3 hgrow3 hnew3 hH3)
          have HL3 : Hid ((Q ++ [[]]).length = k + 1 ∧ (Q ++ [[]]).getD k [] = [] ∧ (gs ++ [(wr.heap.size, 0)]).getD k (0, 0) = (wr.heap.size, 0)) := Go.Lib.hid ⟨by simp [HQ.out.2.1], by rw [← HQ.out.2.1, RRC.getD_cat_r], by rw [← HQ.out.2.1, ← HG.out.1, RRC.getD_cat_r]⟩
          have hhd3 := H3.out.1.head HL3.out.1 (show k < k + 1 by omega)
          rw [HL3.out.2.1, HL3.out.2.2] at hhd3
          have hb3 := mid_below H3.out.rag.2 (Nat.le_refl _)
          have hck3 : w3.cell? ⟨b, o + i, none⟩ = some (.int .i64 x) := (hb3.cell (p := ⟨b, o + i, none⟩) hbl).trans ((HC.out i (by have := HL.out; omega)).trans (by rw [HX.out]))
          have hgl3 : g3 < w3.heap.size := (own_block_lt H3.out.1.2.1 rfl).2
          have hhdA : ∀ (oo : Obj), (w3.drew.alloc oo).cell? ⟨g3, k, none⟩ = some (.slice (some ⟨wr.heap.size, 0, none⟩) 0 0) := fun oo => (Below.cell ((Below.refl w3.drew.heap.size w3.drew).alloc (Nat.le_refl _) oo) (p := ⟨g3, k, none⟩) hgl3).trans hhd3
          have HRX3 : Hid (∀ X, Drawn w3 X → RRV W W.heap.size W.heap.size X (.slice (some ⟨g3, 0, none⟩) (k + 1) c3) (gs ++ [(wr.heap.size, 0)]) (Q ++ [[]])) := Go.Lib.hid (fun X hX => H3.out.more (hX.below _))
          have hrow3 := H3.out.1.2.2.1 k (by rw [HL3.out.1]; omega)
          rw [HL3.out.2.1, HL3.out.2.2] at hrow3
          have HOX3 : Hid (∀ X, Drawn w3 X → X.ownsRow W.heap.size 3 1 (.slice (some ⟨wr.heap.size, 0, none⟩) 0 0) 0 []) := Go.Lib.hid (fun X hX => own_hp hX.heap hrow3)
          have hszW3 : W.heap.size ≤ w3.heap.size := hb3.size
          have hki : (k : Int) < (k : Int) + 1 := by omega
          clear hb3 hrow3 HOX HRX hck
          go_region_law (refine step_append_two _ rfl (.tmp 51) (.tmp 56) 36 rfl W.heap.size 3 i0 (.int .i64 0) 1 8 hu2 HI.out.1 HI.out.2.1 HI.out.2.2.1 HI.out.2.2.2 rfl (by decide) (.slice (some ⟨wr.heap.size, 0, none⟩) 0 0) 0 [] (by simp [Act.eval]) (World.ownsRow.alloc (HOX3.out _ (drawn_drew (Drawn.refl _))) _) ⟨w3.heap.size, 0, none⟩ 1 1 [.int .i64 x] (by simp [Act.eval]) rfl (cell_one_new _ _ _) (fun x hx => by simp at hx; subst hx; rfl) (by unfold maxLen; omega) (by omega) (by simp; omega) ?_; intro v5 w5 hown5 hgrow5 hnew5; obtain ⟨g5, c5, rfl⟩ := ownsRow_succ hown5; obtain ⟨hH5, hc5, hf5⟩ := rrv_app (x := x) (r := []) (m := 0) HL3.out.1 (HRX3.out _ (drawn_drew (Drawn.refl _))) (by omega) HL3.out.2.1 rfl hown5 (by rw [HL3.out.2.2]; exact hgrow5) (by rw [HL3.out.2.2]; exact hnew5); rw [HL3.out.2.2] at hc5; have H5 := Go.Lib.hid hH5; clear hown5 hgrow5 hnew5 hH5)
          all_goals
            have hl7 : k + 1 ≤ 7 := by have := HOK.out.1; have := HQ.out.2.1; omega
            have H6 : Hid (putL Q k x = qTo zs (i + 1) ∧ (putL Q k x).length = k + 1 ∧ Rag (w5.setCell ⟨g3, k, none⟩ (.slice (some ⟨g5, 0, none⟩) (0 + 1) c5)) W.heap.size (.slice (some ⟨g3, 0, none⟩) (k + 1) c3) (putL Q k x) ∧ Below W.heap.size W (w5.setCell ⟨g3, k, none⟩ (.slice (some ⟨g5, 0, none⟩) (0 + 1) c5))) := Go.Lib.hid ⟨by
              show _ = putL (qTo zs i) (qAt (qTo zs i) (zs.getD i 0)) (zs.getD i 0)
              rw [← HQ.out.1, HX.out, HAT.out], by rw [HPUT.out, List.length_set]; exact HL3.out.1, by rw [HPUT.out]; exact H5.out.rag.1, mid_below H5.out.rag.2 (Nat.le_refl _)⟩
            clear hc5 hf5
            go_wp2
            go_roundw
            case rel => exact ⟨i + 1, k + 1, c3, _, putL Q k x, by omega, by go_num, rfl, hl7, H6⟩
            case measure => simp [intOf]; omega
    · have hie : i = n := by omega
      subst hie
      have HF := Go.Lib.hid (lto_of HQ.out.2.2.1 HQ.out.2.2.2 HQ.out.2.1 HQ.out.1)
      go_wp2
      go_ret
      exact HF.out

end Go.Proofs.YtnhhnffolmgceaaGreat.QueSC

end

section
namespace Go.Proofs.YtnhhnffolmgceaaGreat.QuePC
open Go.RowKit SeesC IntsC ExactC OrdMath InC OrderC ListsC ListsEC ListsFC LLC RagMarkC RagResC QueM QueIC QueSC

theorem few_of (zs : List Int) (x : Int) (b : Bool) (h : fewAns zs = (x, b)) : ∃ L, queuesAns zs = (L, b) ∧ x = (L.length : Nat) := by
  unfold fewAns at h
  unfold queuesAns
  split at h
  · rename_i ho
    cases h
    exact ⟨_, by rw [if_pos ho], rfl⟩
  · rename_i ho
    cases h
    exact ⟨_, by rw [if_neg ho], rfl⟩

set_option maxRecDepth 100000 in
set_option maxHeartbeats 2000000 in
theorem implFewestQueues (zs : List Int) (x : Int) (b : Bool) (h : fewAns zs = (x, b)) (hz : zs.length ≤ 1048576) (W : World) (v : Value) (n : Nat) (hv : Sees W v n (vals zs)) :
    Calls Tryz.prog 74 #[v] W fun e w' => e = .returned (.tuple #[.int .i64 x, .bool b]) ∧ Below W.heap.size W w' := by
  obtain ⟨L, h1, rfl⟩ := few_of zs x b h
  have C1 := Go.Lib.hid (implQueues zs L b h1 hz W v n hv)
  obtain ⟨_, ad, cap, rfl, _, _⟩ := hv
  clear h h1 hz
  go_enter Tryz.func74, Tryz.ntmps74
  go_wp2_with fail
  refine (C1.out).mono ?_
  rintro e w1 ⟨v1, rfl, hr, hb⟩
  obtain ⟨a, c, rfl⟩ := (Rag.sees hr).value
  have H1 := Go.Lib.hid hb
  clear hr hb
  go_wp2_with fail
  go_ret2
  exact ⟨rfl, H1.out⟩

end Go.Proofs.YtnhhnffolmgceaaGreat.QuePC

end
