/-
  Contract: the program's order of rows and twin rows. Conditions: rows of at most 2^20 numbers together.
-/
import Derived.Test.YtmnggcnipjdimaaOfS
import Derived.Test.YtmnggcnipjdimaaOfI
import Derived.Test.YtmnggcnipjdimaaConcatC
import Derived.Test.YtmnggcnipjdimaaTakeO
import Derived.Test.YtmnggcnipjdimaaCopyRows
namespace Go.Proofs.Ytmnggcnipjdimaa.OfPC
open Go.RowKit SeesC IntsC ExactC OrdMath InC OrderC ListsC ListsEC ListsFC LLC RagMarkC RagResC RRC QueM PassM RowsM RRVC AreM OutM TakeIC TakeOC OnlyC AreSC AreIC OfIC OfSC ConcatC CopyRowsC

set_option maxRecDepth 100000 in
set_option maxHeartbeats 8000000 in
theorem implOf (T U : List (List Int)) (xs : List Int) (b : Bool) (hans : ofAns T U = (xs, b)) (hT : T.length + tot T ≤ 1048576) (hU : U.length + tot U ≤ 1048576) (W : World) (v : Value) (hv : SeesLL W v T) (u : Value) (hu : SeesLL W u U) :
    Calls Try.prog 50 #[v, u] W fun e w' => ListTo W e w' xs b := by
  obtain ⟨i0, hi, hz0, hz1, hz2⟩ := info_parts infoI
  obtain ⟨a, c, rfl⟩ := hv.value
  obtain ⟨a2, c2, rfl⟩ := hu.value
  obtain ⟨rT, hrT⟩ : ∃ r, areB T = r := ⟨_, rfl⟩
  obtain ⟨rU, hrU⟩ : ∃ r, areB U = r := ⟨_, rfl⟩
  obtain ⟨rs, hrs⟩ : ∃ r, decide (lens T = lens U) = r := ⟨_, rfl⟩
  have DCT := implAreRows T rT hrT hT W _ hv
  have DCU := fun (X : World) (h : Below W.heap.size W X) => implAreRows U rU hrU hU X _ (hu.grow h)
  have DCE := fun (X : World) (h : Below W.heap.size W X) => equalLens_any T U X _ _ (hv.grow h) (hu.grow h) (by omega) (by omega) rs hrs
  have DCC := fun (X : World) (h : Below W.heap.size W X) => copyRows_any X _ T (hv.grow h) hT
  have DCK := fun (X : World) (h : Below W.heap.size W X) => concat_any T X _ (hv.grow h) hT
  have HV3 := Go.Lib.hid (And.intro hT hU)
  obtain ⟨N, hN⟩ : ∃ N, T.length = N := ⟨_, rfl⟩
  obtain ⟨M, hM⟩ : ∃ M, U.length = M := ⟨_, rfl⟩
  obtain ⟨S, hS⟩ : ∃ S, tot T = S := ⟨_, rfl⟩
  simp only [hN] at DCT DCE DCC DCK
  simp only [hM] at DCU DCE
  simp only [hS] at DCK
  rw [hN] at hT ⊢
  rw [hM] at hU ⊢
  rw [hN] at hv
  rw [hM] at hu
  have CT := Go.Lib.hid DCT
  have CU := Go.Lib.hid DCU
  have CE := Go.Lib.hid DCE
  have CC := Go.Lib.hid DCC
  have CK := Go.Lib.hid DCK
  have HV := Go.Lib.hid (And.intro hv hu)
  have HA := Go.Lib.hid (And.intro hrT (And.intro hrU hrs))
  have HANS := Go.Lib.hid hans
  have HN := Go.Lib.hid (And.intro hN hM)
  have HSS := Go.Lib.hid hS
  clear DCT DCU DCE DCC DCK hv hu hrT hrU hrs hans hN hM hT hU hS
  go_enter Try.func50, Try.ntmps50
  go_wp2_with fail
  refine (CT.out).mono ?_
  rintro e w1 ⟨rfl, hb1⟩
  have H1 := Go.Lib.hid hb1
  clear hb1
  cases rT with
  | false =>
    obtain ⟨rfl, rfl⟩ := of_no HANS.out (fun h => by rw [HA.out.1] at h; cases h.1)
    go_wp2
    go_ret2
    exact listTo_below H1.out (listTo_none _ _)
  | true =>
    go_wp2_with fail
    refine (CU.out w1 H1.out).mono ?_
    rintro e w2 ⟨rfl, hb2⟩
    have H2 : Hid (Below W.heap.size W w2) := Go.Lib.hid (H1.out.trans (hb2.mono H1.out.size))
    clear hb2 H1
    cases rU with
    | false =>
      obtain ⟨rfl, rfl⟩ := of_no HANS.out (fun h => by rw [HA.out.2.1] at h; cases h.2.1)
      go_wp2
      go_ret2
      exact listTo_below H2.out (listTo_none _ _)
    | true =>
      go_wp2_with fail
      refine (CE.out w2 H2.out).mono ?_
      rintro e w3 ⟨rfl, hw3⟩
      subst hw3
      cases rs with
      | false =>
        obtain ⟨rfl, rfl⟩ := of_no HANS.out (fun h => of_decide_eq_false HA.out.2.2 h.2.2)
        go_wp2
        go_ret2
        exact listTo_below H2.out (listTo_none _ _)
      | true =>
        have hlens : lens T = lens U := of_decide_eq_true HA.out.2.2
        obtain ⟨rfl, rfl⟩ := of_yes HANS.out ⟨HA.out.1, HA.out.2.1, hlens⟩
        obtain rfl : M = N := by have h := lens_len hlens; rw [HN.out.1, HN.out.2] at h; exact h.symm
        have hsm := are_small HA.out.1
        have hsm2 := are_small HA.out.2.1
        have hinv0 := inv_start HA.out.1 HA.out.2.1 hlens
        rw [flat_tot, HSS.out] at hinv0
        have hord : 0 < S := by
          have h := HA.out.1
          unfold areB at h
          rw [decide_eq_true_iff] at h
          have h1 : 0 < T.flatten.length := h.2.1
          rw [flat_tot, HSS.out] at h1
          exact h1
        have HIN := Go.Lib.hid (inv_all hinv0)
        have HTT := Go.Lib.hid (And.intro HSS.out.symm (And.intro hsm.2.1 hsm2.2.1))
        have HPOS := Go.Lib.hid hsm.2.2
        have hM7 : M ≤ 7 := by have := hsm.1; have := HN.out.1; omega
        have hS7 : S ≤ 7 := by have := hsm.2.1; have := HSS.out; omega
        clear hlens hsm hsm2 hinv0
        have hszw := H2.out.size
        go_wp2_with fail
        refine (CC.out _ H2.out).mono ?_
        rintro e w4 ⟨g, rfl, hr4, hb4⟩
        obtain ⟨gs, hgs⟩ := rag_rr (Rag.lower hr4 hszw)
        have H4 := Go.Lib.hid (And.intro hgs (H2.out.trans (hb4.mono hszw)))
        clear hr4 hb4 hgs
        go_wp2_with fail
        refine (CK.out _ H4.out.2 (by have := HPOS.out; have := HN.out.1; intro i hi; exact HPOS.out i (by omega)) hord).mono ?_
        rintro e wo ⟨gc, cc, rfl, ho5, hb5⟩
        have HR : Hid (RR wo W.heap.size (.slice (some ⟨g, 0, none⟩) M M) gs T ∧ Below W.heap.size W wo) := Go.Lib.hid ⟨H4.out.1.kept hb5, H4.out.2.trans (hb5.mono H4.out.2.size)⟩
        clear ho5 hb5 H4
        have hszo := HR.out.2.size
        go_wp2_with (at_make; refine wpList_make_full _ rfl _ _ 24 rfl W.heap.size 3 i0 (.int .i64 0) 1 Try.underlying24 hi hz0 hz1 .i64 .i64 S S S rfl rfl rfl rfl (by rw [hz2]; omega) (by unfold maxLen; omega) hszo ?_; intro w11 hown11 hgrow11)
        obtain ⟨og, hog⟩ : ∃ og, wo.heap.size = og := ⟨_, rfl⟩
        rw [hog] at hown11
        have HB11 := Go.Lib.hid ((Below.refl wo.heap.size wo).grown hgrow11 (Nat.le_refl _) (fun k hk => by cases hk))
        have HOG : Hid ((∀ q, q ∈ g :: gs.map (·.1) → q ≠ og) ∧ W.heap.size ≤ og) := Go.Lib.hid ⟨fun q hq => by have := (rr_blk HR.out.1 q hq).2; omega, by omega⟩
        have H12 : Hid (RR w11 W.heap.size (.slice (some ⟨g, 0, none⟩) M M) gs (st T U S (S - S)).1 ∧ w11.ownsRow W.heap.size 3 1 (.slice (some ⟨og, 0, none⟩) S S) S (List.replicate S (Value.int .i64 0) ++ (vals (backO T U S)).drop S) ∧ Below W.heap.size W w11) := Go.Lib.hid (by
          rw [Nat.sub_self]
          refine ⟨HR.out.1.kept HB11.out, ?_, HR.out.2.trans (HB11.out.mono hszo)⟩
          rw [made_int] at hown11
          rw [List.drop_eq_nil_of_le (by simp [backO]), List.append_nil]
          exact hown11)
        rw [hog]
        clear hown11 hgrow11 HB11 HR hog
        go_wp2_with fail
        go_loopw [8] (fun xv wr => ∃ k : Nat, k ≤ S ∧ xv = .int .i64 k ∧ Hid (RR wr W.heap.size (.slice (some ⟨g, 0, none⟩) M M) gs (st T U S (S - k)).1 ∧ wr.ownsRow W.heap.size 3 1 (.slice (some ⟨og, 0, none⟩) S S) S (List.replicate k (Value.int .i64 0) ++ (vals (backO T U S)).drop k) ∧ Below W.heap.size W wr)) (fun x _ => (intOf x).toNat)
        case atStart => exact ⟨S, Nat.le_refl _, rfl, H12⟩
        case round =>
          obtain ⟨k, hkS, rfl, HX⟩ := hrel
          clear H12
          obtain ⟨wb, rfl⟩ : ∃ wb, wb = wr := ⟨_, rfl⟩
          cases k with
          | zero =>
            have HF : Hid (ListTo W (.returned (.tuple #[.slice (some ⟨og, 0, none⟩) S S, .bool true])) wb (backO T U (tot T)) true) := Go.Lib.hid (by
              have h := HX.out.2.1
              rw [List.replicate_zero, List.nil_append, List.drop_zero] at h
              rw [← HTT.out.1]
              refine ⟨_, rfl, ?_, HX.out.2.2⟩
              rw [show (backO T U S).length = S by simp [backO]]
              exact h)
            go_wp2
            go_ret2
            exact HF.out
          | succ k =>
            have hinv := HIN.out (S - (k + 1)) (by omega)
            have hat := inv_at hinv (by omega)
            have htt := st_tot T U S (S - (k + 1))
            have hstep : st T U S (S - k) = ((outR (st T U S (S - (k + 1))).1 (rowEnd (st T U S (S - (k + 1))).2 ((S - (S - (k + 1)) : Nat) : Int))).1, cutL (st T U S (S - (k + 1))).2 (rowEnd (st T U S (S - (k + 1))).2 ((S - (S - (k + 1)) : Nat) : Int))) := by
              rw [show S - k = (S - (k + 1)) + 1 by omega]; rfl
            have hval : outV T U S (S - (k + 1)) = (outR (st T U S (S - (k + 1))).1 (rowEnd (st T U S (S - (k + 1))).2 ((S - (S - (k + 1)) : Nat) : Int))).2 := rfl
            have hx : ((S - (S - (k + 1)) : Nat) : Int) = (k : Int) + 1 := by omega
            have hkeep := fun i => hinv.keep i ((k : Int) + 1) (by omega)
            rw [hx] at hat hstep hval
            obtain ⟨P, hP⟩ : ∃ P, (st T U S (S - (k + 1))).1 = P := ⟨_, rfl⟩
            obtain ⟨Q, hQ⟩ : ∃ Q, (st T U S (S - (k + 1))).2 = Q := ⟨_, rfl⟩
            have hlPQ := hinv.lens
            have hlQ := hinv.len2
            have htP := hinv.tab1
            have hnP := hinv.nd1
            have hRP := HX.out.1
            rw [hP, hQ] at hstep hval htt hlPQ
            rw [hQ] at hat hlQ hkeep
            rw [hP] at htP hnP hRP
            obtain ⟨t, ht⟩ : ∃ t, rowEnd Q ((k : Int) + 1) = t := ⟨_, rfl⟩
            rw [ht] at hat hstep hval
            have hQM : Q.length = M := by rw [hlQ]; exact HN.out.2
            have hPM : P.length = M := by rw [lens_len hlPQ]; exact hQM
            have hti : t < M := by have := hat.1.1; omega
            have hQ0 := hat.1.2.1
            have hP0 : 0 < (P.getD t []).length := by rw [lens_at hlPQ]; exact hQ0
            have htot1 : tot P ≤ 7 := by have h1 := htt.1; have h2 := HTT.out.2.1; omega
            have hxU : ((k : Int) + 1) ∈ U.getD t [] := (hkeep t).1 (by have h := last_mem hQ0; rw [hat.2.1] at h; exact h)
            obtain ⟨y, hy⟩ : ∃ y, (outR P t).2 = y := ⟨_, rfl⟩
            rw [hy] at hval
            have DW := rowWith_any U ((k : Int) + 1) wb _ (HV.out.2.grow (HX.out.2.2)) HV3.out.2 t (by rw [HN.out.2]; exact hti) hxU
            rw [hat.2.2] at DW
            have CW := Go.Lib.hid DW
            have HAL := Go.Lib.hid (And.intro hRP (And.intro hPM (And.intro htP (And.intro hnP (And.intro hP0 htot1)))))
            have HST := Go.Lib.hid (And.intro hstep (And.intro hval hy))
            have HXX := Go.Lib.hid HX.out.2
            clear DW hinv hat htt hstep hval hx hlPQ hlQ htP hnP hRP ht hQM hPM hQ0 hP0 htot1 hkeep hxU HX hP hQ hy
            go_wp2_with fail
            refine (CW.out).mono ?_
            rintro e w13 ⟨rfl, hb13⟩
            have H13 : Hid (RR w13 W.heap.size (.slice (some ⟨g, 0, none⟩) M M) gs P ∧ w13.ownsRow W.heap.size 3 1 (.slice (some ⟨og, 0, none⟩) S S) S (List.replicate (k + 1) (Value.int .i64 0) ++ (vals (backO T U S)).drop (k + 1)) ∧ Below W.heap.size W w13) := Go.Lib.hid
              ⟨HAL.out.1.kept hb13, kept_call HXX.out.1 hb13, HXX.out.2.trans (hb13.mono HXX.out.2.size)⟩
            clear hb13 CW
            have HOUT := takeBack_only P t w13 W.heap.size g M M gs H13.out.1 HAL.out.2.1 HAL.out.2.2.1 HAL.out.2.2.2.1 hti HAL.out.2.2.2.2.1 hM7 HAL.out.2.2.2.2.2
            rw [HST.out.2.2] at HOUT
            have HO := Go.Lib.hid HOUT
            clear HOUT
            go_wp2_with fail
            refine (HO.out).mono ?_
            rintro e w15 ⟨rfl, hr15, ho15⟩
            have H15 : Hid (RR w15 W.heap.size (.slice (some ⟨g, 0, none⟩) M M) gs (outR P t).1 ∧ w15.ownsRow W.heap.size 3 1 (.slice (some ⟨og, 0, none⟩) S S) S (List.replicate (k + 1) (Value.int .i64 0) ++ (vals (backO T U S)).drop (k + 1)) ∧ Below W.heap.size W w15) := Go.Lib.hid
              ⟨hr15, own_only H13.out.2.1 ho15 (fun q hq hs => by cases hq; exact HOG.out.1 _ hs rfl), H13.out.2.2.trans (only_below ho15 (fun q hq => (rr_blk H13.out.1 q hq).1) H13.out.2.2.size)⟩
            clear hr15 ho15 HO
            have hst := H15.out.2.1.stored k (.int .i64 y)
            have hcl : ∃ z, w15.cell? ⟨og, k, none⟩ = some z := ⟨_, (H15.out.2.1.cellAt k (by omega)).trans (List.getElem?_eq_getElem (by have h := H15.out.2.1.1; omega))⟩
            obtain ⟨z, hz⟩ := hcl
            have hf := H15.out.2.1.frozenAt k
            rw [← HST.out.2.1, back_set (by omega)] at hst
            have H16 : Hid (RR (w15.setCell ⟨og, k, none⟩ (.int .i64 y)) W.heap.size (.slice (some ⟨g, 0, none⟩) M M) gs (st T U S (S - k)).1 ∧ (w15.setCell ⟨og, k, none⟩ (.int .i64 y)).ownsRow W.heap.size 3 1 (.slice (some ⟨og, 0, none⟩) S S) S (List.replicate k (Value.int .i64 0) ++ (vals (backO T U S)).drop k) ∧ Below W.heap.size W (w15.setCell ⟨og, k, none⟩ (.int .i64 y))) := Go.Lib.hid (by
              have hon : Only [og] w15 (w15.setCell ⟨og, k, none⟩ (.int .i64 y)) := only_set _ _ _ (List.mem_cons_self ..)
              rw [HST.out.1]
              rw [HST.out.2.1] at hst
              exact ⟨rr_keep H15.out.1 hon (fun q hq hs => by rw [List.mem_singleton] at hs; exact HOG.out.1 q hq hs), hst.1, H15.out.2.2.setCell (p := ⟨og, k, none⟩) HOG.out.2 _⟩)
            clear hst
            have hkI : (k : Int) < (S : Int) := by omega
            go_wp2_with fail
            go_roundw
            case rel => exact ⟨k, by omega, by go_num, H16⟩
            case measure => simp [intOf] <;> omega

end Go.Proofs.Ytmnggcnipjdimaa.OfPC
