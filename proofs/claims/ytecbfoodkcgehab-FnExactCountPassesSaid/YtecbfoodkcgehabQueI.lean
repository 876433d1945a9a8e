/-
  Contract: QueuesOf of the program. Conditions: lists of at most 2^20 numbers.
-/
import Derived.Test.YtecbfoodkcgehabOrder
import Derived.Test.YtecbfoodkcgehabPutB
namespace Go.Proofs.Ytecbfoodkcgehab.QueIC
open Go.RowKit SeesC IntsC ExactC OrdMath InC OrderC ListsC ListsEC ListsFC LLC RagMarkC RagResC RRC AppendTwoC QueM RRVC PutBC

/-- The last number of a row, where it lies. -/
theorem rr_last {X : World} {base : Nat} {v : Value} {gs : List (Nat × Nat)} {L : List (List Int)} (h : RR X base v gs L) {k m : Nat} (hk : k < L.length) (hm : (L.getD k []).length = m + 1) :
    X.cell? ⟨(gs.getD k (0, 0)).1, m, none⟩ = some (.int .i64 (last (L.getD k []))) := by
  rw [h.num hk (by omega)]
  unfold last
  rw [hm]; rfl

set_option maxRecDepth 100000 in
set_option maxHeartbeats 4000000 in
theorem implQueues (zs : List Int) (L : List (List Int)) (b : Bool) (h : queuesAns zs = (L, b)) (hz : zs.length ≤ 1048576) (W : World) (v : Value) (n : Nat) (hv : Sees W v n (vals zs)) :
    Calls Try.prog 44 #[v] W fun e w' => RagTo W e w' L b := by
  have hl : zs.length = n := by simpa using hv.1
  have hn : n ≤ 1048576 := by omega
  obtain ⟨r, hr⟩ : ∃ r, isOrd zs = r := ⟨_, rfl⟩
  have CO := Go.Lib.hid (fun W' (hs' : Sees W' v n (vals zs)) => implOrder_any W' v n zs r hs' hn hr)
  have HV := Go.Lib.hid hv
  unfold queuesAns at h
  obtain ⟨_, ad, cap, rfl, _, _⟩ := hv
  cases r with
  | false =>
    rw [if_neg (by intro h1; unfold isOrd at hr; exact of_decide_eq_false hr h1)] at h
    cases h
    clear hr
    go_enter Try.func44, Try.ntmps44
    go_wp2_with fail
    refine (CO.out _ HV.out).mono ?_
    rintro e w1 ⟨rfl, hd⟩
    have HB1 : Hid (Below W.heap.size W w1) := Go.Lib.hid hd
    clear hd
    go_wp2_with fail
    go_ret2
    exact ragTo_below HB1.out (ragTo_none _ _)
  | true =>
    have hord : Ord zs := by unfold isOrd at hr; exact of_decide_eq_true hr
    have hn7 : n ≤ 7 := by have := hord.2.1; omega
    have hn1 : 1 ≤ n := by have := hord.1; omega
    rw [if_pos hord] at h
    cases h
    clear hr
    obtain ⟨b, o, cap2, heq, _, _, hbl, hcell⟩ := sees_cells HV.out (by omega)
    cases heq
    have HC := Go.Lib.hid hcell
    have HL := Go.Lib.hid hl
    rw [hl]
    clear hcell hl hz
    go_enter Try.func44, Try.ntmps44
    go_wp2_with fail
    refine (CO.out _ HV.out).mono ?_
    rintro e w1 ⟨rfl, hd⟩
    have HB1 : Hid (Below W.heap.size W w1) := Go.Lib.hid hd
    clear hd
    have hr0 := Go.Lib.hid (rag_made w1 W.heap.size HB1.out.size)
    have hb0 := Go.Lib.hid (HB1.out.alloc HB1.out.size (.cells #[] 29))
    go_wp2_with fail
    go_loopw [4, 15] (fun qv iv wr => ∃ (i N c : Nat) (a : Option Addr) (Q : List (List Int)), i ≤ n ∧ iv = .int .i64 i ∧ qv = .slice a N c ∧ N ≤ 7 ∧ Hid (Q = qTo zs i ∧ Q.length = N ∧ Rag wr W.heap.size (.slice a N c) Q ∧ Below W.heap.size W wr)) (fun _ i _ => n - (intOf i).toNat)
    case atStart => exact ⟨0, 0, _, _, [], Nat.zero_le _, rfl, rfl, by omega, Go.Lib.hid ⟨rfl, rfl, hr0.out, hb0.out⟩⟩
    case round =>
      obtain ⟨i, N, c, a, Q, hin, rfl, rfl, hN7, HQ⟩ := hrel
      clear hr0 hb0
      by_cases hlt : i < n
      · have hck : wr.cell? ⟨b, o + i, none⟩ = some (.int .i64 (zs.getD i 0)) := (HQ.out.2.2.2.cell (p := ⟨b, o + i, none⟩) hbl).trans (HC.out i (by have := HL.out; omega))
        obtain ⟨x, hx⟩ : ∃ x, zs.getD i 0 = x := ⟨_, rfl⟩
        rw [hx] at hck
        have HX := Go.Lib.hid hx
        obtain ⟨wo, rfl⟩ : ∃ wo, wo = wr := ⟨_, rfl⟩
        obtain ⟨gs, hgs⟩ := rag_rr HQ.out.2.2.1
        have HG := Go.Lib.hid hgs
        have hok := qTo_ok zs i
        rw [← HQ.out.1] at hok
        have HOK := Go.Lib.hid hok
        have hlti : (i : Int) < (n : Int) := by omega
        clear hx hgs hok
        go_wp2_with fail
        go_loopw [7] (fun kv wr => ∃ k : Nat, k ≤ N ∧ kv = .int .i64 k ∧ Hid (Drawn wo wr ∧ ∀ j, j < k → last (Q.getD j []) > x)) (fun k _ => N - (intOf k).toNat)
        case atStart => exact ⟨0, Nat.zero_le _, rfl, Go.Lib.hid ⟨Drawn.refl _, fun j hj => by omega⟩⟩
        case round =>
          obtain ⟨k, hkN, rfl, HK⟩ := hrel
          by_cases hkl : k < N
          · obtain ⟨m, hm⟩ : ∃ m, (Q.getD k []).length = m + 1 := ⟨(Q.getD k []).length - 1, by have := HOK.out.2.2 k (by have := HQ.out.2.1; omega); omega⟩
            have hm7 : m ≤ 7 := by
              have h1 := tot_row (L := Q) (i := k) (by have := HQ.out.2.1; omega)
              have h2 := HOK.out.2.1
              omega
            obtain ⟨p, hp⟩ : ∃ p, gs.getD k (0, 0) = p := ⟨_, rfl⟩
            obtain ⟨y, hy⟩ : ∃ y, last (Q.getD k []) = y := ⟨_, rfl⟩
            obtain ⟨g, c', hgc⟩ := rr_slice HG.out HQ.out.2.1 (by omega)
            cases hgc
            have hhd := (HK.out.1.cell ⟨g, k, none⟩).trans (HG.out.head HQ.out.2.1 hkl)
            have hlast := (HK.out.1.cell ⟨(gs.getD k (0, 0)).1, m, none⟩).trans (rr_last HG.out (by have := HQ.out.2.1; omega) hm)
            rw [hp, hm] at hhd
            rw [hp, hy] at hlast
            have HY := Go.Lib.hid hy
            obtain ⟨p1, p2⟩ := p
            simp only at hhd hlast
            have hkli : (k : Int) < (N : Int) := by omega
            have hkd : decide (k < N) = true := decide_eq_true hkl
            clear hp hm hy
            by_cases hgt : y > x
            · have HK2 : Hid (∀ j, j < k + 1 → last (Q.getD j []) > x) := Go.Lib.hid (fun j hj => by
                by_cases e : j = k
                · rw [e, HY.out]; exact hgt
                · exact HK.out.2 j (by omega))
              have hgd : decide (x < y) = true := decide_eq_true hgt
              go_wp2
              go_quiet (fail)
              go_wp2
              go_roundw
              case rel => exact ⟨k + 1, by omega, by go_num, Go.Lib.hid ⟨HK.out.1.next _, HK2.out⟩⟩
              case measure => simp [intOf]; omega
            · have HAT : Hid (qAt Q x = k) := Go.Lib.hid (qAt_is Q x k (by have := HQ.out.2.1; omega) HK.out.2 (fun _ => by rw [HY.out]; exact hgt))
              have hgd : decide (x < y) = false := decide_eq_false hgt
              have CP := Go.Lib.hid (fun m => putBehind_in (W := W) (wd := wr.drewN m) k x HQ.out.2.2.1 HQ.out.2.2.2 (Nat.le_refl _) (HK.out.1.next m) (by have := HQ.out.2.1; omega) (by have := HQ.out.2.1; omega) (by have := HOK.out.2.1; omega))
              go_wp2
              go_quiet (fail)
              go_wp2_with fail
              refine (CP.out _).mono ?_
              rintro e w5 ⟨a5, c5, rfl, hr5, hb5⟩
              obtain ⟨N5, hN5⟩ : ∃ N5, (putL Q k x).length = N5 := ⟨_, rfl⟩
              rw [hN5] at hr5
              have H5 : Hid (putL Q k x = qTo zs (i + 1) ∧ (putL Q k x).length = N5 ∧ Rag w5 W.heap.size (.slice a5 N5 c5) (putL Q k x) ∧ Below W.heap.size W w5) := Go.Lib.hid ⟨by
                show _ = putL (qTo zs i) (qAt (qTo zs i) (zs.getD i 0)) (zs.getD i 0)
                rw [← HQ.out.1, HX.out, HAT.out], hN5, hr5, hb5⟩
              have hl5 : N5 ≤ 7 := by rw [← hN5, H5.out.1]; have := (qTo_ok zs (i + 1)).1; omega
              have HN5 := Go.Lib.hid hN5
              clear hr5 hb5 hN5
              rw [HN5.out]
              go_wp2_with fail
              go_roundw
              case rel => exact ⟨i + 1, N5, c5, a5, putL Q k x, by omega, by go_num, rfl, hl5, H5⟩
              case measure => simp [intOf]; omega
          · have hkE : k = N := by omega
            subst hkE
            have HAT : Hid (qAt Q x = k) := Go.Lib.hid (qAt_is Q x k (by have := HQ.out.2.1; omega) HK.out.2 (fun h => by have := HQ.out.2.1; omega))
            have hkd : decide (k < k) = false := decide_eq_false (Nat.lt_irrefl _)
            have CP := Go.Lib.hid (fun m => putBehind_in (W := W) (wd := wr.drewN m) k x HQ.out.2.2.1 HQ.out.2.2.2 (Nat.le_refl _) (HK.out.1.next m) (by have := HQ.out.2.1; omega) (by have := HQ.out.2.1; omega) (by have := HOK.out.2.1; omega))
            go_wp2
            go_quiet (fail)
            go_wp2_with fail
            refine (CP.out _).mono ?_
            rintro e w5 ⟨a5, c5, rfl, hr5, hb5⟩
            obtain ⟨N5, hN5⟩ : ∃ N5, (putL Q k x).length = N5 := ⟨_, rfl⟩
            rw [hN5] at hr5
            have H5 : Hid (putL Q k x = qTo zs (i + 1) ∧ (putL Q k x).length = N5 ∧ Rag w5 W.heap.size (.slice a5 N5 c5) (putL Q k x) ∧ Below W.heap.size W w5) := Go.Lib.hid ⟨by
              show _ = putL (qTo zs i) (qAt (qTo zs i) (zs.getD i 0)) (zs.getD i 0)
              rw [← HQ.out.1, HX.out, HAT.out], hN5, hr5, hb5⟩
            have hl5 : N5 ≤ 7 := by rw [← hN5, H5.out.1]; have := (qTo_ok zs (i + 1)).1; omega
            have HN5 := Go.Lib.hid hN5
            clear hr5 hb5 hN5
            rw [HN5.out]
            go_wp2_with fail
            go_roundw
            case rel => exact ⟨i + 1, N5, c5, a5, putL Q k x, by omega, by go_num, rfl, hl5, H5⟩
            case measure => simp [intOf]; omega
      · have hie : i = n := by omega
        subst hie
        have HF : Hid (RagTo W (.returned (.tuple #[.slice a N c, .bool true])) wr (qTo zs i) true) := Go.Lib.hid (by
          rw [← HQ.out.1]; exact ⟨_, rfl, HQ.out.2.2.1, HQ.out.2.2.2⟩)
        go_wp2
        go_ret2
        exact HF.out

end Go.Proofs.Ytecbfoodkcgehab.QueIC
