/-
  Contract: the model inserts a number into rows. Conditions: rows that ascend, at most 100 numbers.
-/
import Derived.Test.YtmnggcnipjdimaaInsNum
import Derived.Test.YtmnggcnipjdimaaOwn1
import Derived.Test.YtmnggcnipjdimaaSame
namespace Go.Proofs.Ytmnggcnipjdimaa.InsSC
open Go.RowKit SeesC IntsC ExactC OrdMath ListsC ListsEC ListsFC LLC RagMarkC RagResC RRC AppendTwoC SameC QueM PassM RowsM RRVC InsNumC Own1C

theorem take_nextL {T : List (List Int)} {k : Nat} (hk : k < T.length) : T.take (k + 1) = T.take k ++ [T.getD k []] := by
  rw [List.take_succ_eq_append_getElem hk]; simp [hk]

/-- A row more, that has just been made. -/
theorem rr_push {W X X2 X3 : World} {base N : Nat} {v v5 : Value} {gs : List (Nat × Nat)} {L : List (List Int)} {q : List Int} {p : Nat × Nat} {o : Obj}
    (hN : L.length = N) (h : RR X base v gs L) (hb : Below base W X) (hbX : base ≤ X.heap.size) (ho : X2.ownsRow X.heap.size 3 1 (sl q.length p) q.length (vals q)) (hb2 : Below X.heap.size X X2)
    (ho5 : X3.ownsRow base 24 1 v5 (N + 1) (rowsOf L gs ++ [sl q.length p])) (hg : (X2.alloc o).grownBy X3 v.ownBlock) :
    RR X3 base v5 (gs ++ [p]) (L ++ [q]) ∧ Below base W X3 := by
  have hbx : Below X.heap.size X (X2.alloc o) := hb2.alloc hb2.size _
  have hR := rr_snoc (q := q) hN (h.kept hbx) ((own_lower ho hbX).alloc o) (fun i hi => by have h1 := (h.lt (i := i) (by omega)).2; have h2 := (own_block_lt ho (q := p.1) rfl).1; omega) ho5 hg
  exact ⟨hR, (hb.trans (hbx.mono hbX)).grown hg (by have := hbx.size; omega) (fun k hk => (own_block_lt h.2.1 hk).1)⟩

set_option maxRecDepth 100000 in
set_option maxHeartbeats 8000000 in
theorem l5Insert_any (T : List (List Int)) (x : Int) (W : World) (v : Value) (B : Nat) (hv : Rag W B v T) (hN1 : T.length ≤ 100) (hr1 : tot T ≤ 100) :
    Calls Try.prog 121 #[v, .int .i64 x] W fun e w' => InsTo W e w' T x := by
  obtain ⟨i0, hi, hz0, hz1, hz2⟩ := info_parts infoI
  obtain ⟨j0, hj, hy0, hy1, hy2⟩ := info_parts ListsFC.infoL
  have HI := Go.Lib.hid (And.intro hi (And.intro hz0 (And.intro hz1 hz2)))
  obtain ⟨N, hN⟩ : ∃ N, T.length = N := ⟨_, rfl⟩
  obtain ⟨gv, hgv⟩ := rag_rr hv
  obtain ⟨av, cv, rfl⟩ := (Rag.sees hv).value
  rw [hN] at hgv ⊢
  have HN := Go.Lib.hid (And.intro hN (And.intro hgv (And.intro hN1 hr1)))
  have hN100 : N ≤ 100 := by omega
  have H0 : Hid (RR (W.alloc (.cells #[] 24)) W.heap.size (.slice (some ⟨W.heap.size, 0, none⟩) 0 0) [] (T.take 0) ∧ Below W.heap.size W (W.alloc (.cells #[] 24))) :=
    Go.Lib.hid ⟨⟨rfl, World.ownsRow_made _ _ _ (Nat.le_refl _) (by unfold maxLen; omega) rfl, fun i hi => absurd hi (by simp), by simp⟩, (Below.refl _ _).alloc (Nat.le_refl _) _⟩
  clear hv hN hgv hN1 hr1
  go_enter Try.func121, Try.ntmps121
  go_wp2
  go_loopw [6, 7] (fun ov iv wr => ∃ (k g c : Nat) (gs : List (Nat × Nat)), k ≤ N ∧ iv = .int .i64 k ∧ ov = .slice (some ⟨g, 0, none⟩) k c ∧ Hid (RR wr W.heap.size (.slice (some ⟨g, 0, none⟩) k c) gs (T.take k) ∧ Below W.heap.size W wr)) (fun _ i _ => N - (intOf i).toNat)
  case atStart => exact ⟨0, _, _, _, Nat.zero_le _, rfl, rfl, H0⟩
  case round =>
    obtain ⟨k, g, c, gs, hkN, rfl, rfl, HX⟩ := hrel
    clear H0
    by_cases hlt : k < N
    · obtain ⟨p, hp⟩ : ∃ p, gv.getD k (0, 0) = p := ⟨_, rfl⟩
      obtain ⟨m, hm⟩ : ∃ m, (T.getD k []).length = m := ⟨_, rfl⟩
      obtain ⟨gq, cq, hgq⟩ := rr_slice HN.out.2.1 HN.out.1 (by omega)
      cases hgq
      have hq := own_block_lt HN.out.2.1.2.1 (q := gq) rfl
      have hhd := (HX.out.2.cell (p := ⟨gq, k, none⟩) hq.2).trans (HN.out.2.1.head HN.out.1 hlt)
      have hpl := (HN.out.2.1.lt (i := k) (by have := HN.out.1; omega)).2
      have hmt := tot_row (L := T) (i := k) (by have := HN.out.1; omega)
      have hcs : ∀ j, j < (T.getD k []).length → wr.cell? ⟨p.1, 0 + j, none⟩ = some (.int .i64 ((T.getD k []).getD j 0)) := fun j hj => by
        rw [← hp, Nat.zero_add]
        exact (HX.out.2.cell (p := ⟨(gv.getD k (0, 0)).1, j, none⟩) hpl).trans (HN.out.2.1.num (by have := HN.out.1; omega) hj)
      have hm100 : m ≤ 100 := by have := HN.out.2.2.2; omega
      rw [hp, hm] at hhd
      have CO := Go.Lib.hid (l1Own_any (T.getD k []) p.1 0 m p.2 wr hm (by omega) hcs)
      have HM := Go.Lib.hid (And.intro hm (take_nextL (T := T) (k := k) (by have := HN.out.1; omega)))
      obtain ⟨p1, p2⟩ := p
      simp only at hhd CO
      have hki : (k : Int) < (N : Int) := by omega
      obtain ⟨wo, rfl⟩ : ∃ wo, wo = wr := ⟨_, rfl⟩
      clear hp hm hq hpl hmt hcs
      go_wp2_with fail
      refine (CO.out).mono ?_
      rintro e w2 ⟨g2, c2, rfl, ho2, hb2⟩
      have hsz := HX.out.2.size
      have hsz2 := hb2.size
      have hl1 : (T.take k).length = k := by rw [List.length_take]; have := HN.out.1; omega
      have hot : w2.ownsRow W.heap.size 24 1 (.slice (some ⟨g, 0, none⟩) k c) k (rowsOf (T.take k) gs) := by
        have h := kept_call HX.out.1.2.1 hb2
        rw [hl1] at h
        exact h
      have H2 := Go.Lib.hid (And.intro hot (And.intro ho2 (And.intro hb2 hl1)))
      clear ho2 hb2 CO hot hl1
      go_wp2_with (at_builtin; refine wpList_append_own _ rfl _ _ 31 rfl W.heap.size 24 j0 (.slice none 0 0) 1 24 Try.underlying31 hj hy0 hy1 hy2 rfl (by decide) (.slice (some ⟨g, 0, none⟩) k c) k (rowsOf (T.take k) gs) rfl (H2.out.1.alloc _) ⟨w2.heap.size, 0, none⟩ 1 1 [.slice (some ⟨g2, 0, none⟩) m c2] rfl rfl (cell_one_new _ _ _) (fun x hx => by simp at hx; subst hx; rfl) (by unfold maxLen; omega) (by omega) (by simp; omega) ?_; intro v' w3 hown3 hgrow3 hnil3)
      obtain ⟨g3, c3, rfl⟩ := ownsRow_succ hown3
      have hps := rr_push (q := T.getD k []) (p := (g2, c2)) H2.out.2.2.2 HX.out.1 HX.out.2 HX.out.2.size (by rw [HM.out.1]; exact H2.out.2.1) H2.out.2.2.1 (by rw [HM.out.1]; exact hown3) hgrow3
      rw [← HM.out.2] at hps
      have H3 := Go.Lib.hid hps
      clear hown3 hgrow3 hnil3 hps
      go_wp2
      go_roundw
      case rel => exact ⟨k + 1, g3, c3, _, by omega, by go_num, rfl, H3⟩
      case measure => simp [intOf]; omega
    · obtain rfl : k = N := by omega
      have HT : Hid (RR wr W.heap.size (.slice (some ⟨g, 0, none⟩) k c) gs T ∧ Below W.heap.size W wr) := Go.Lib.hid (by
        have h := HX.out
        rw [List.take_of_length_le (by have := HN.out.1; omega)] at h
        exact h)
      clear HX
      obtain ⟨wa, rfl⟩ : ∃ wa, wa = wr := ⟨_, rfl⟩
      go_wp2_with fail
      go_loopw [1, 8] (fun xv jv wr => ∃ (j : Nat) (A : List (List Int)) (y : Int), j ≤ k ∧ jv = .int .i64 j ∧ xv = .int .i64 y ∧ Hid (Bumped T x j A y ∧ RR wr W.heap.size (.slice (some ⟨g, 0, none⟩) k c) gs (A ++ T.drop j) ∧ (A ++ T.drop j).length = k ∧ Below W.heap.size W wr)) (fun _ j _ => k - (intOf j).toNat)
      case atStart => exact ⟨0, [], x, Nat.zero_le _, rfl, rfl, Go.Lib.hid ⟨bumped_start T x, by simpa using HT.out.1, by simpa using HN.out.1, HT.out.2⟩⟩
      case round =>
        obtain ⟨j, A, y, hjN, rfl, rfl, HX⟩ := hrel
        clear HT
        obtain ⟨wb, rfl⟩ : ∃ wb, wb = wr := ⟨_, rfl⟩
        have hsz := HX.out.2.2.2.size
        by_cases hlt : j < k
        · have hjT : j < T.length := by have := HN.out.1; omega
          have hma := mid_at (T := T) HX.out.1.1
          obtain ⟨r, hr⟩ : ∃ r, T.getD j [] = r := ⟨_, rfl⟩
          obtain ⟨m, hm⟩ : ∃ m, r.length = m := ⟨_, rfl⟩
          obtain ⟨p, hp⟩ : ∃ p, gs.getD j (0, 0) = p := ⟨_, rfl⟩
          have hm100 : m ≤ 100 := by have := tot_row hjT; rw [hr] at this; have := HN.out.2.2.2; omega
          have hhd := HX.out.2.1.head HX.out.2.2.1 hlt
          have hrow := HX.out.2.1.2.2.1 j (by have := HX.out.2.2.1; omega)
          have hnum := fun q (hq : q < ((A ++ T.drop j).getD j []).length) => HX.out.2.1.num (i := j) (by have := HX.out.2.2.1; omega) hq
          rw [hma, hr] at hhd hrow hnum
          rw [hp, hm] at hhd hrow
          rw [hp] at hnum
          unfold sl at hrow
          have hpB := (own_block_lt hrow (q := p.1) rfl)
          have HNUM := Go.Lib.hid hnum
          have HO := Go.Lib.hid hrow
          have HM := Go.Lib.hid (And.intro hr (And.intro hm (And.intro hp (And.intro hjT (hma.trans hr)))))
          have HFR := Go.Lib.hid (fun q => hrow.frozenAt q)
          obtain ⟨p1, p2⟩ := p
          simp only at hhd hpB HNUM HO HFR
          have hjn : ((j : Int) == (k : Int)) = false := by rw [beq_eq_false_iff_ne]; omega
          have hji : (j : Int) < (k : Int) := by omega
          clear hma hr hm hp hrow hnum hjT
          go_wp2_with fail
          go_loop [9] (fun qv => ∃ q : Nat, q ≤ m ∧ qv = .int .i64 q ∧ Hid (∀ s, s < q → r.getD s 0 < y)) (fun q => m - (intOf q).toNat)
          case atStart => exact ⟨0, Nat.zero_le _, rfl, Go.Lib.hid (fun s hs => by omega)⟩
          case round =>
            obtain ⟨q, hqm, rfl, HQ⟩ := hrel
            by_cases hql : q < m
            · obtain ⟨z, hz⟩ : ∃ z, r.getD q 0 = z := ⟨_, rfl⟩
              have hck := HNUM.out q (by have := HM.out.2.1; omega)
              rw [hz] at hck
              have HZ := Go.Lib.hid hz
              have hqi : (q : Int) < (m : Int) := by omega
              have hqd : decide (q < m) = true := decide_eq_true hql
              clear hz
              by_cases hzy : z < y
              · have HQ2 : Hid (∀ s, s < q + 1 → r.getD s 0 < y) := Go.Lib.hid (fun s hs => by
                  by_cases e : s = q
                  · rw [e, HZ.out]; exact hzy
                  · exact HQ.out s (by omega))
                have hzd : decide (z < y) = true := decide_eq_true hzy
                go_wp2
                go_round
                case rel => exact ⟨q + 1, by omega, by go_num, HQ2⟩
                case measure => simp [intOf]; omega
              · have HK : Hid (putAt r y = q) := Go.Lib.hid (putAt_is r y q (by have := HM.out.2.1; omega) HQ.out (fun _ => by rw [HZ.out]; exact hzy))
                have hzd : decide (z < y) = false := decide_eq_false hzy
                have hqn : ((q : Int) == (m : Int)) = false := by rw [beq_eq_false_iff_ne]; omega
                have hfr := HFR.out q
                have hrp := rr_put (k := j) (j := q) (y := y) HX.out.2.1 (by have := HX.out.2.2.1; omega)
                rw [HM.out.2.2.2.2, HM.out.2.2.1, mid_set HX.out.1.1 HM.out.2.2.2.1] at hrp
                have H4 : Hid (Bumped T x (j + 1) (A ++ [r.set q y]) z ∧ RR (wb.setCell ⟨p1, q, none⟩ (.int .i64 y)) W.heap.size (.slice (some ⟨g, 0, none⟩) k c) gs ((A ++ [r.set q y]) ++ T.drop (j + 1)) ∧ ((A ++ [r.set q y]) ++ T.drop (j + 1)).length = k ∧ Below W.heap.size W (wb.setCell ⟨p1, q, none⟩ (.int .i64 y))) := Go.Lib.hid ⟨by
                  have h := bumped_next HX.out.1 HM.out.2.2.2.1 (by rw [HM.out.1, HK.out, HM.out.2.1]; exact hql)
                  rw [HM.out.1, HK.out, HZ.out] at h; exact h, hrp, by
                  have h := HX.out.2.2.1
                  rw [← mid_set HX.out.1.1 HM.out.2.2.2.1, List.length_set]; exact h, HX.out.2.2.2.setCell (p := ⟨p1, q, none⟩) hpB.1 _⟩
                clear hrp
                go_wp2
                go_roundw
                case rel => exact ⟨j + 1, _, z, by omega, by go_num, rfl, H4⟩
                case measure => simp [intOf]; omega
            · obtain rfl : q = m := by omega
              have HK : Hid (putAt r y = q) := Go.Lib.hid (putAt_is r y q (by have := HM.out.2.1; omega) HQ.out (fun h => by have := HM.out.2.1; omega))
              have hqd : decide (q < q) = false := decide_eq_false hql
              have hqn : ((q : Int) == (q : Int)) = true := by simp
              have HE := Go.Lib.hid (bumped_end HX.out.1 (by have := HN.out.1; omega) (fun _ => by rw [HM.out.1, HK.out, HM.out.2.1]; exact hql))
              have HR := Go.Lib.hid (rrv_own HX.out.2.1 HX.out.2.2.2)
              go_wp2_with (at_builtin; refine wpList_append_two _ rfl _ _ 24 rfl W.heap.size 3 i0 (.int .i64 0) 1 8 Try.underlying24 HI.out.1 HI.out.2.1 HI.out.2.2.1 HI.out.2.2.2 rfl (by decide) (.slice (some ⟨p1, 0, none⟩) q p2) q (vals r) rfl (HO.out.alloc _) ⟨wb.heap.size, 0, none⟩ 1 1 [.int .i64 y] rfl rfl (cell_one_new _ _ _) (fun x hx => by simp at hx; subst hx; rfl) (by unfold maxLen; omega) (by omega) (by simp; omega) ?_; intro v' w3 hown3 hgrow3 hnew3; obtain ⟨g3, c3, rfl⟩ := ownsRow_succ hown3; obtain ⟨hH3, hc3, hf3⟩ := rrv_app (x := y) HX.out.2.2.1 HR.out hlt HM.out.2.2.2.2 HM.out.2.1 hown3 (by rw [HM.out.2.2.1]; exact hgrow3) (by rw [HM.out.2.2.1]; exact hnew3); rw [HM.out.2.2.1] at hc3; have H3 := Go.Lib.hid hH3; clear hown3 hgrow3 hnew3 hH3)
              have H5 : Hid (InsTo W (.returned (.tuple #[.slice (some ⟨g, 0, none⟩) k c, .int .i64 (j : Int)])) (w3.setCell ⟨g, j, none⟩ (.slice (some ⟨g3, 0, none⟩) (q + 1) c3)) T x) := Go.Lib.hid (by
                unfold InsTo
                rw [HE.out]
                have e : putL (A ++ T.drop j) j y = (A ++ T.drop j).set j (r ++ [y]) := by
                  unfold putL; rw [if_pos (by have := HX.out.2.2.1; omega), HM.out.2.2.2.2]
                have el : (putL (A ++ T.drop j) j y).length = k := by rw [e, List.length_set]; exact HX.out.2.2.1
                show ∃ a c_1, _ = Ending.returned (.tuple #[.slice a (putL (A ++ T.drop j) j y).length c_1, _]) ∧ Rag _ _ (.slice a (putL (A ++ T.drop j) j y).length c_1) (putL (A ++ T.drop j) j y) ∧ _
                rw [el, e]
                exact ⟨_, c, rfl, H3.out.rag.1, mid_below H3.out.rag.2 (Nat.le_refl _)⟩)
              go_ret2
              exact H5.out
        · obtain rfl : j = k := by omega
          have hjn : ((j : Int) == (j : Int)) = true := by simp
          have HE := Go.Lib.hid (bumped_end HX.out.1 (by have := HN.out.1; omega) (fun h => by have := HN.out.1; omega))
          have hot : ∀ o1 o2, ((wb.alloc o1).alloc o2).ownsRow W.heap.size 24 1 (.slice (some ⟨g, 0, none⟩) j c) j (rowsOf (A ++ T.drop j) gs) := fun o1 o2 => by
            have h := HX.out.2.1.2.1
            rw [HX.out.2.2.1] at h
            exact (h.alloc _).alloc _
          have HOT := Go.Lib.hid hot
          clear hot
          go_wp2_with (at_builtin; refine wpList_append_own _ rfl _ _ 31 rfl W.heap.size 24 j0 (.slice none 0 0) 1 24 Try.underlying31 hj hy0 hy1 hy2 rfl (by decide) (.slice (some ⟨g, 0, none⟩) j c) j (rowsOf (A ++ T.drop j) gs) rfl (HOT.out _ _) ⟨wb.heap.size + 1, 0, none⟩ 1 1 [.slice (some ⟨wb.heap.size, 0, none⟩) 1 1] rfl rfl (cell_two_new _ _ _ _ _ rfl) (fun x hx => by simp at hx; subst hx; rfl) (by unfold maxLen; omega) (by omega) (by simp; omega) ?_; intro v' w3 hown3 hgrow3 hnil3)
          obtain ⟨g3, c3, rfl⟩ := ownsRow_succ hown3
          have hps := rr_push (W := W) (X := wb) (X2 := wb.alloc (.cells #[.int .i64 y] 3)) (q := [y]) (p := (wb.heap.size, 1)) HX.out.2.2.1 HX.out.2.1 HX.out.2.2.2 hsz (World.ownsRow_lit (base := wb.heap.size) (e := 3) (size := 1) wb #[.int .i64 y] 1 (Nat.le_refl _) (by unfold maxLen; omega) (by simp)) ((Below.refl _ _).alloc (Nat.le_refl _) _) hown3 hgrow3
          have H5 : Hid (InsTo W (.returned (.tuple #[.slice (some ⟨g3, 0, none⟩) (j + 1) c3, .int .i64 (j : Int)])) w3 T x) := Go.Lib.hid (by
            unfold InsTo
            rw [HE.out]
            have e : putL (A ++ T.drop j) j y = (A ++ T.drop j) ++ [[y]] := by
              unfold putL; rw [if_neg (by have := HX.out.2.2.1; omega)]
            have el : (putL (A ++ T.drop j) j y).length = j + 1 := by rw [e, List.length_append, HX.out.2.2.1]; rfl
            show ∃ a c_1, _ = Ending.returned (.tuple #[.slice a (putL (A ++ T.drop j) j y).length c_1, _]) ∧ Rag _ _ (.slice a (putL (A ++ T.drop j) j y).length c_1) (putL (A ++ T.drop j) j y) ∧ _
            rw [el, e]
            exact ⟨_, c3, rfl, rr_rag hps.1, hps.2⟩)
          clear hown3 hgrow3 hnil3 hps
          go_wp2
          go_ret2
          exact H5.out

end Go.Proofs.Ytmnggcnipjdimaa.InsSC
