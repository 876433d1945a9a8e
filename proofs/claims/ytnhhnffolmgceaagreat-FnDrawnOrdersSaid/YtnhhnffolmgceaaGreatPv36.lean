/-
  Contracts and plain facts that the laws' texts lean on. Conditions: as each states.
-/
import Derived.Test.YtnhhnffolmgceaaGreatPv23
import Derived.Test.YtnhhnffolmgceaaGreatPv20
import Derived.Test.YtnhhnffolmgceaaGreatPv30
import Derived.Test.YtnhhnffolmgceaaGreatPv21
import Derived.Test.YtnhhnffolmgceaaGreatPv24
import Derived.Test.YtnhhnffolmgceaaGreatPv10

section
namespace Go.Proofs.YtnhhnffolmgceaaGreat.InsNumC
open Go.RowKit SeesC IntsC ExactC OrdMath ListsC ListsEC ListsFC LLC RagMarkC RagResC RRC QueM PassM RowsM RRVC RoomC CopyRowsC PutBC

/-- Rows with a number inserted, and the row that has a place more. -/
def InsTo (W : World) (e : Ending) (w' : World) (T : List (List Int)) (x : Int) : Prop :=
  ∃ a c, e = .returned (.tuple #[.slice a (insR T x).1.length c, .int .i64 (((insR T x).2 : Nat) : Int)]) ∧ Rag w' W.heap.size (.slice a (insR T x).1.length c) (insR T x).1 ∧ Below W.heap.size W w'

theorem tab_row : ∀ {T : List (List Int)} {j : Nat}, Tab T → j < T.length → (T.getD j []).Pairwise (· < ·)
  | [], j, _, h => absurd h (by simp)
  | r :: R, 0, h, _ => tab_head h
  | r :: R, j + 1, h, hj => tab_row (T := R) (j := j) (tab_tail h) (by simpa using hj)

theorem mid_at {A T : List (List Int)} {j : Nat} (hA : A.length = j) : (A ++ T.drop j).getD j [] = T.getD j [] := by
  rw [List.getD_eq_getElem?_getD, List.getElem?_append_right (by omega), hA, Nat.sub_self, List.getElem?_drop, Nat.add_zero, ← List.getD_eq_getElem?_getD]

theorem mid_set {A T : List (List Int)} {j : Nat} (hA : A.length = j) (hj : j < T.length) (r : List Int) : (A ++ T.drop j).set j r = (A ++ [r]) ++ T.drop (j + 1) := by
  rw [List.set_append_right _ _ (by omega), hA, Nat.sub_self, List.drop_eq_getElem_cons hj, List.set_cons_zero]
  simp

theorem kept_start {W w2 : World} {g N c : Nat} {gs : List (Nat × Nat)} {T : List (List Int)} {x : Int} {ty ty3 : TypeId} (hN : T.length = N)
    (hR : RR w2 (W.heap.size + 1) (.slice (some ⟨g, 0, none⟩) N c) gs T) (hb : Below (W.heap.size + 1) (W.alloc (.cells #[.int .i64 x] ty3)) w2) :
    Kept W.heap.size w2.heap.size (w2.alloc (.cells #[.slice (some ⟨g, 0, none⟩) N c] ty)) (W.heap.size + 1) g N c gs T x ∧ Below W.heap.size W (w2.alloc (.cells #[.slice (some ⟨g, 0, none⟩) N c] ty)) := by
  have hg := own_block_lt hR.2.1 (q := g) rfl
  have hbx : Below w2.heap.size w2 (w2.alloc (.cells #[.slice (some ⟨g, 0, none⟩) N c] ty)) := (Below.refl _ _).alloc (Nat.le_refl _) _
  have hsz := hb.size
  simp at hsz
  have e2 : ∀ b : Nat, (⟨b, 0, none⟩ : Addr).add 0 = ⟨b, 0, none⟩ := fun b => by unfold Addr.add; split <;> simp_all
  have hc1 : (W.alloc (.cells #[.int .i64 x] ty3)).cell? ⟨W.heap.size, 0, none⟩ = some (.int .i64 x) := by
    have := cell_one_new W (.int .i64 x) ty3 0 _ rfl
    rw [e2] at this; exact this
  have hf1 : (W.alloc (.cells #[.int .i64 x] ty3)).frozen? ⟨W.heap.size, 0, none⟩ = false := by
    have h := World.ownsRow_lit (base := W.heap.size) (e := ty3) (size := 1) W #[.int .i64 x] 1 (Nat.le_refl _) (by unfold maxLen; omega) (by simp)
    exact World.ownsRow.frozenAt h 0
  have hc6 : (w2.alloc (.cells #[.slice (some ⟨g, 0, none⟩) N c] ty)).cell? ⟨w2.heap.size, 0, none⟩ = some (.slice (some ⟨g, 0, none⟩) N c) := by
    have := cell_one_new w2 (.slice (some ⟨g, 0, none⟩) N c) ty 0 _ rfl
    rw [e2] at this; exact this
  refine ⟨⟨hR.kept hbx, hN, hc6, ?_, ?_, by omega, fun i hi => (hR.lt hi).2, hg.2⟩, ?_⟩
  · exact (hbx.cell (p := ⟨W.heap.size, 0, none⟩) (by simp only; omega)).trans ((hb.cell (p := ⟨W.heap.size, 0, none⟩) (by simp)).trans hc1)
  · exact (hbx.frozen (p := ⟨W.heap.size, 0, none⟩) (by simp only; omega)).trans ((hb.frozen (p := ⟨W.heap.size, 0, none⟩) (by simp)).trans hf1)
  · exact (((Below.refl W.heap.size W).alloc (Nat.le_refl _) _).trans (hb.mono (by omega))).trans (hbx.mono (by omega))

end Go.Proofs.YtnhhnffolmgceaaGreat.InsNumC

end

section
namespace Go.Proofs.YtnhhnffolmgceaaGreat.InsSC
open Go.RowKit SeesC IntsC ExactC OrdMath ListsC ListsEC ListsFC LLC RagMarkC RagResC RRC AppendTwoC SameC QueM PassM RowsM RRVC InsNumC Own1C

theorem take_nextL {T : List (List Int)} {k : Nat} (hk : k < T.length) : T.take (k + 1) = T.take k ++ [T.getD k []] := by
  rw [List.take_succ_eq_append_getElem hk]; simp [hk]

/-- A row more, that has just been made. -/
theorem rr_push {W X X2 X3 : World} {base N : Nat} {v v5 : Value} {gs : List (Nat × Nat)} {L : List (List Int)} {q : List Int} {p : Nat × Nat} {o : Obj}
    (hN : L.length = N) (h : RR X base v gs L) (hb : Below base W X) (hbX : base ≤ X.heap.size) (ho : X2.ownsRow X.heap.size 3 1 (sl q.length p) q.length (vals q)) (hb2 : Below X.heap.size X X2)
    (ho5 : X3.ownsRow base 36 1 v5 (N + 1) (rowsOf L gs ++ [sl q.length p])) (hg : (X2.alloc o).grownBy X3 v.ownBlock) :
    RR X3 base v5 (gs ++ [p]) (L ++ [q]) ∧ Below base W X3 := by
  have hbx : Below X.heap.size X (X2.alloc o) := hb2.alloc hb2.size _
  have hR := rr_snoc (q := q) hN (h.kept hbx) ((own_lower ho hbX).alloc o) (fun i hi => by have h1 := (h.lt (i := i) (by omega)).2; have h2 := (own_block_lt ho (q := p.1) rfl).1; omega) ho5 hg
  exact ⟨hR, (hb.trans (hbx.mono hbX)).grown hg (by have := hbx.size; omega) (fun k hk => (own_block_lt h.2.1 hk).1)⟩

set_option maxRecDepth 100000 in
set_option maxHeartbeats 8000000 in
theorem l5Insert_any (T : List (List Int)) (x : Int) (W : World) (v : Value) (B : Nat) (hv : Rag W B v T) (hN1 : T.length ≤ 100) (hr1 : tot T ≤ 100) :
    Calls Tryz.prog 70 #[v, .int .i64 x] W fun e w' => InsTo W e w' T x := by
  obtain ⟨i0, hi, hz0, hz1, hz2⟩ := info_parts infoI
  obtain ⟨j0, hj, hy0, hy1, hy2⟩ := info_parts ListsFC.infoL
  have HI := Go.Lib.hid (And.intro hi (And.intro hz0 (And.intro hz1 hz2)))
  obtain ⟨N, hN⟩ : ∃ N, T.length = N := ⟨_, rfl⟩
  obtain ⟨gv, hgv⟩ := rag_rr hv
  obtain ⟨av, cv, rfl⟩ := (Rag.sees hv).value
  rw [hN] at hgv ⊢
  have HN := Go.Lib.hid (And.intro hN (And.intro hgv (And.intro hN1 hr1)))
  have hN100 : N ≤ 100 := by omega
  have H0 : Hid (RR (W.alloc (.cells #[] 36)) W.heap.size (.slice (some ⟨W.heap.size, 0, none⟩) 0 0) [] (T.take 0) ∧ Below W.heap.size W (W.alloc (.cells #[] 36))) :=
    Go.Lib.hid ⟨⟨rfl, World.ownsRow_made _ _ _ (Nat.le_refl _) (by unfold maxLen; omega) rfl, fun i hi => absurd hi (by simp), by simp⟩, (Below.refl _ _).alloc (Nat.le_refl _) _⟩
  clear hv hN hgv hN1 hr1
  go_enter Tryz.func70, Tryz.ntmps70
  go_wp2
  go_loopw [6, 7] (fun ov iv wr => ∃ (k g c : Nat) (gs : List (Nat × Nat)), k ≤ N ∧ iv = .int .i64 k ∧ ov = .slice (some ⟨g, 0, none⟩) k c ∧ Hid (RR wr W.heap.size (.slice (some ⟨g, 0, none⟩) k c) gs (T.take k) ∧ Below W.heap.size W wr)) (fun _ i _ => N - (intOf i).toNat)
  case atStart => exact ⟨0, _, _, _, Nat.zero_le _, rfl, rfl, H0⟩
  case round =>
    obtain ⟨k, g, c, gs, hkN, rfl, rfl, HX⟩ := hrel
    clear H0
    by_cases hlt : k < N
    · obtain ⟨p, hp⟩ : ∃ p, gv.getD k (0, 0) = p := ⟨_, rfl⟩
      obtain ⟨m, hm⟩ : ∃ m, (T.getD k []).length = m := ⟨_, rfl⟩
      obtain ⟨gq, cq, hgq⟩ := rr_slice HN.out.2.1 HN.out.1 (by omega)
      cases hgq
      have hq := own_block_lt HN.out.2.1.2.1 (q := gq) rfl
      have hhd := (HX.out.2.cell (p := ⟨gq, k, none⟩) hq.2).trans (HN.out.2.1.head HN.out.1 hlt)
      have hpl := (HN.out.2.1.lt (i := k) (by have := HN.out.1; omega)).2
      have hmt := tot_row (L := T) (i := k) (by have := HN.out.1; omega)
      have hcs : ∀ j, j < (T.getD k []).length → wr.cell? ⟨p.1, 0 + j, none⟩ = some (.int .i64 ((T.getD k []).getD j 0)) := fun j hj => by
        rw [← hp, Nat.zero_add]
        exact (HX.out.2.cell (p := ⟨(gv.getD k (0, 0)).1, j, none⟩) hpl).trans (HN.out.2.1.num (by have := HN.out.1; omega) hj)
      have hm100 : m ≤ 100 := by have := HN.out.2.2.2; omega
      rw [hp, hm] at hhd
      have CO := Go.Lib.hid (l1Own_any (T.getD k []) p.1 0 m p.2 wr hm (by omega) hcs)
      have HM := Go.Lib.hid (And.intro hm (take_nextL (T := T) (k := k) (by have := HN.out.1; omega)))
      obtain ⟨p1, p2⟩ := p
      simp only at hhd CO
      have hki : (k : Int) < (N : Int) := by omega
      obtain ⟨wo, rfl⟩ : ∃ wo, wo = wr := ⟨_, rfl⟩
      clear hp hm hq hpl hmt hcs
      go_wp2_with fail
      refine (CO.out).mono ?_
      rintro e w2 ⟨g2, c2, rfl, ho2, hb2⟩
      have hsz := HX.out.2.size
      have hsz2 := hb2.size
      have hl1 : (T.take k).length = k := by rw [List.length_take]; have := HN.out.1; omega
      have hot : w2.ownsRow W.heap.size 36 1 (.slice (some ⟨g, 0, none⟩) k c) k (rowsOf (T.take k) gs) := by
        have h := kept_call HX.out.1.2.1 hb2
        rw [hl1] at h
        exact h
      have H2 := Go.Lib.hid (And.intro hot (And.intro ho2 (And.intro hb2 hl1)))
      clear ho2 hb2 CO hot hl1
      go_wp2_with (at_builtin; refine wpList_append_own _ rfl _ _ 32 rfl W.heap.size 36 j0 (.slice none 0 0) 1 24 Tryz.underlying32 hj hy0 hy1 hy2 rfl (by decide) (.slice (some ⟨g, 0, none⟩) k c) k (rowsOf (T.take k) gs) rfl (H2.out.1.alloc _) ⟨w2.heap.size, 0, none⟩ 1 1 [.slice (some ⟨g2, 0, none⟩) m c2] rfl rfl (cell_one_new _ _ _) (fun x hx => by simp at hx; subst hx; rfl) (by unfold maxLen; omega) (by omega) (by simp; omega) ?_; intro v' w3 hown3 hgrow3 hnil3)
      obtain ⟨g3, c3, rfl⟩ := ownsRow_succ hown3
      have hps := rr_push (q := T.getD k []) (p := (g2, c2)) H2.out.2.2.2 HX.out.1 HX.out.2 HX.out.2.size (by rw [HM.out.1]; exact H2.out.2.1) H2.out.2.2.1 (by rw [HM.out.1]; exact hown3) hgrow3
      rw [← HM.out.2] at hps
      have H3 := Go.Lib.hid hps
      clear hown3 hgrow3 hnil3 hps
      go_wp2
      go_roundw
      case rel => exact ⟨k + 1, g3, c3, _, by omega, by go_num, rfl, H3⟩
      case measure => simp [intOf]; omega
    · obtain rfl : k = N := by omega
      have HT : Hid (RR wr W.heap.size (.slice (some ⟨g, 0, none⟩) k c) gs T ∧ Below W.heap.size W wr) := Go.Lib.hid (by
        have h := HX.out
        rw [List.take_of_length_le (by have := HN.out.1; omega)] at h
        exact h)
      clear HX
      obtain ⟨wa, rfl⟩ : ∃ wa, wa = wr := ⟨_, rfl⟩
      go_wp2_with fail
      go_loopw [1, 8] (fun xv jv wr => ∃ (j : Nat) (A : List (List Int)) (y : Int), j ≤ k ∧ jv = .int .i64 j ∧ xv = .int .i64 y ∧ Hid (Bumped T x j A y ∧ RR wr W.heap.size (.slice (some ⟨g, 0, none⟩) k c) gs (A ++ T.drop j) ∧ (A ++ T.drop j).length = k ∧ Below W.heap.size W wr)) (fun _ j _ => k - (intOf j).toNat)
      case atStart => exact ⟨0, [], x, Nat.zero_le _, rfl, rfl, Go.Lib.hid ⟨bumped_start T x, by simpa using HT.out.1, by simpa using HN.out.1, HT.out.2⟩⟩
      case round =>
        obtain ⟨j, A, y, hjN, rfl, rfl, HX⟩ := hrel
        clear HT
        obtain ⟨wb, rfl⟩ : ∃ wb, wb = wr := ⟨_, rfl⟩
        have hsz := HX.out.2.2.2.size
        by_cases hlt : j < k
        · have hjT : j < T.length := by have := HN.out.1; omega
          have hma := mid_at (T := T) HX.out.1.1
          obtain ⟨r, hr⟩ : ∃ r, T.getD j [] = r := ⟨_, rfl⟩
          obtain ⟨m, hm⟩ : ∃ m, r.length = m := ⟨_, rfl⟩
          obtain ⟨p, hp⟩ : ∃ p, gs.getD j (0, 0) = p := ⟨_, rfl⟩
          have hm100 : m ≤ 100 := by have := tot_row hjT; rw [hr] at this; have := HN.out.2.2.2; omega
          have hhd := HX.out.2.1.head HX.out.2.2.1 hlt
          have hrow := HX.out.2.1.2.2.1 j (by have := HX.out.2.2.1; omega)
          have hnum := fun q (hq : q < ((A ++ T.drop j).getD j []).length) => HX.out.2.1.num (i := j) (by have := HX.out.2.2.1; omega) hq
          rw [hma, hr] at hhd hrow hnum
          rw [hp, hm] at hhd hrow
          rw [hp] at hnum
          unfold sl at hrow
          have hpB := (own_block_lt hrow (q := p.1) rfl)
          have HNUM := Go.Lib.hid hnum
          have HO := Go.Lib.hid hrow
          have HM := Go.Lib.hid (And.intro hr (And.intro hm (And.intro hp (And.intro hjT (hma.trans hr)))))
          have HFR := Go.Lib.hid (fun q => hrow.frozenAt q)
          obtain ⟨p1, p2⟩ := p
          simp only at hhd hpB HNUM HO HFR
          have hjn : ((j : Int) == (k : Int)) = false := by rw [beq_eq_false_iff_ne]; omega
          have hji : (j : Int) < (k : Int) := by omega
          clear hma hr hm hp hrow hnum hjT
          go_wp2_with fail
          go_loop [9] (fun qv => ∃ q : Nat, q ≤ m ∧ qv = .int .i64 q ∧ Hid (∀ s, s < q → r.getD s 0 < y)) (fun q => m - (intOf q).toNat)
          case atStart => exact ⟨0, Nat.zero_le _, rfl, Go.Lib.hid (fun s hs => by omega)⟩
          case round =>
            obtain ⟨q, hqm, rfl, HQ⟩ := hrel
            by_cases hql : q < m
            · obtain ⟨z, hz⟩ : ∃ z, r.getD q 0 = z := ⟨_, rfl⟩
              have hck := HNUM.out q (by have := HM.out.2.1; omega)
              rw [hz] at hck
              have HZ := Go.Lib.hid hz
              have hqi : (q : Int) < (m : Int) := by omega
              have hqd : decide (q < m) = true := decide_eq_true hql
              clear hz
              by_cases hzy : z < y
              · have HQ2 : Hid (∀ s, s < q + 1 → r.getD s 0 < y) := Go.Lib.hid (fun s hs => by
                  by_cases e : s = q
                  · rw [e, HZ.out]; exact hzy
                  · exact HQ.out s (by omega))
                have hzd : decide (z < y) = true := decide_eq_true hzy
                go_wp2
                go_round
                case rel => exact ⟨q + 1, by omega, by go_num, HQ2⟩
                case measure => simp [intOf]; omega
              · have HK : Hid (putAt r y = q) := Go.Lib.hid (putAt_is r y q (by have := HM.out.2.1; omega) HQ.out (fun _ => by rw [HZ.out]; exact hzy))
                have hzd : decide (z < y) = false := decide_eq_false hzy
                have hqn : ((q : Int) == (m : Int)) = false := by rw [beq_eq_false_iff_ne]; omega
                have hfr := HFR.out q
                have hrp := rr_put (k := j) (j := q) (y := y) HX.out.2.1 (by have := HX.out.2.2.1; omega)
                rw [HM.out.2.2.2.2, HM.out.2.2.1, mid_set HX.out.1.1 HM.out.2.2.2.1] at hrp
                have H4 : Hid (Bumped T x (j + 1) (A ++ [r.set q y]) z ∧ RR (wb.setCell ⟨p1, q, none⟩ (.int .i64 y)) W.heap.size (.slice (some ⟨g, 0, none⟩) k c) gs ((A ++ [r.set q y]) ++ T.drop (j + 1)) ∧ ((A ++ [r.set q y]) ++ T.drop (j + 1)).length = k ∧ Below W.heap.size W (wb.setCell ⟨p1, q, none⟩ (.int .i64 y))) := Go.Lib.hid ⟨by
                  have h := bumped_next HX.out.1 HM.out.2.2.2.1 (by rw [HM.out.1, HK.out, HM.out.2.1]; exact hql)
                  rw [HM.out.1, HK.out, HZ.out] at h; exact h, hrp, by
                  have h := HX.out.2.2.1
                  rw [← mid_set HX.out.1.1 HM.out.2.2.2.1, List.length_set]; exact h, HX.out.2.2.2.setCell (p := ⟨p1, q, none⟩) hpB.1 _⟩
                clear hrp
                go_wp2
                go_roundw
                case rel => exact ⟨j + 1, _, z, by omega, by go_num, rfl, H4⟩
                case measure => simp [intOf]; omega
            · obtain rfl : q = m := by omega
              have HK : Hid (putAt r y = q) := Go.Lib.hid (putAt_is r y q (by have := HM.out.2.1; omega) HQ.out (fun h => by have := HM.out.2.1; omega))
              have hqd : decide (q < q) = false := decide_eq_false hql
              have hqn : ((q : Int) == (q : Int)) = true := by simp
              have HE := Go.Lib.hid (bumped_end HX.out.1 (by have := HN.out.1; omega) (fun _ => by rw [HM.out.1, HK.out, HM.out.2.1]; exact hql))
              have HR := Go.Lib.hid (rrv_own HX.out.2.1 HX.out.2.2.2)
              go_wp2_with (at_builtin; refine wpList_append_two _ rfl _ _ 36 rfl W.heap.size 3 i0 (.int .i64 0) 1 8 Tryz.underlying36 HI.out.1 HI.out.2.1 HI.out.2.2.1 HI.out.2.2.2 rfl (by decide) (.slice (some ⟨p1, 0, none⟩) q p2) q (vals r) rfl (HO.out.alloc _) ⟨wb.heap.size, 0, none⟩ 1 1 [.int .i64 y] rfl rfl (cell_one_new _ _ _) (fun x hx => by simp at hx; subst hx; rfl) (by unfold maxLen; omega) (by omega) (by simp; omega) ?_; intro v' w3 hown3 hgrow3 hnew3; obtain ⟨g3, c3, rfl⟩ := ownsRow_succ hown3; obtain ⟨hH3, hc3, hf3⟩ := rrv_app (x := y) HX.out.2.2.1 HR.out hlt HM.out.2.2.2.2 HM.out.2.1 hown3 (by rw [HM.out.2.2.1]; exact hgrow3) (by rw [HM.out.2.2.1]; exact hnew3); rw [HM.out.2.2.1] at hc3; have H3 := Go.Lib.hid hH3; clear hown3 hgrow3 hnew3 hH3)
              have H5 : Hid (InsTo W (.returned (.tuple #[.slice (some ⟨g, 0, none⟩) k c, .int .i64 (j : Int)])) (w3.setCell ⟨g, j, none⟩ (.slice (some ⟨g3, 0, none⟩) (q + 1) c3)) T x) := Go.Lib.hid (by
                unfold InsTo
                rw [HE.out]
                have e : putL (A ++ T.drop j) j y = (A ++ T.drop j).set j (r ++ [y]) := by
                  unfold putL; rw [if_pos (by have := HX.out.2.2.1; omega), HM.out.2.2.2.2]
                have el : (putL (A ++ T.drop j) j y).length = k := by rw [e, List.length_set]; exact HX.out.2.2.1
                show ∃ a c_1, _ = Ending.returned (.tuple #[.slice a (putL (A ++ T.drop j) j y).length c_1, _]) ∧ Rag _ _ (.slice a (putL (A ++ T.drop j) j y).length c_1) (putL (A ++ T.drop j) j y) ∧ _
                rw [el, e]
                exact ⟨_, c, rfl, H3.out.rag.1, mid_below H3.out.rag.2 (Nat.le_refl _)⟩)
              go_ret2
              exact H5.out
        · obtain rfl : j = k := by omega
          have hjn : ((j : Int) == (j : Int)) = true := by simp
          have HE := Go.Lib.hid (bumped_end HX.out.1 (by have := HN.out.1; omega) (fun h => by have := HN.out.1; omega))
          have hot : ∀ o1 o2, ((wb.alloc o1).alloc o2).ownsRow W.heap.size 36 1 (.slice (some ⟨g, 0, none⟩) j c) j (rowsOf (A ++ T.drop j) gs) := fun o1 o2 => by
            have h := HX.out.2.1.2.1
            rw [HX.out.2.2.1] at h
            exact (h.alloc _).alloc _
          have HOT := Go.Lib.hid hot
          clear hot
          go_wp2_with (at_builtin; refine wpList_append_own _ rfl _ _ 32 rfl W.heap.size 36 j0 (.slice none 0 0) 1 24 Tryz.underlying32 hj hy0 hy1 hy2 rfl (by decide) (.slice (some ⟨g, 0, none⟩) j c) j (rowsOf (A ++ T.drop j) gs) rfl (HOT.out _ _) ⟨wb.heap.size + 1, 0, none⟩ 1 1 [.slice (some ⟨wb.heap.size, 0, none⟩) 1 1] rfl rfl (cell_two_new _ _ _ _ _ rfl) (fun x hx => by simp at hx; subst hx; rfl) (by unfold maxLen; omega) (by omega) (by simp; omega) ?_; intro v' w3 hown3 hgrow3 hnil3)
          obtain ⟨g3, c3, rfl⟩ := ownsRow_succ hown3
          have hps := rr_push (W := W) (X := wb) (X2 := wb.alloc (.cells #[.int .i64 y] 3)) (q := [y]) (p := (wb.heap.size, 1)) HX.out.2.2.1 HX.out.2.1 HX.out.2.2.2 hsz (World.ownsRow_lit (base := wb.heap.size) (e := 3) (size := 1) wb #[.int .i64 y] 1 (Nat.le_refl _) (by unfold maxLen; omega) (by simp)) ((Below.refl _ _).alloc (Nat.le_refl _) _) hown3 hgrow3
          have H5 : Hid (InsTo W (.returned (.tuple #[.slice (some ⟨g3, 0, none⟩) (j + 1) c3, .int .i64 (j : Int)])) w3 T x) := Go.Lib.hid (by
            unfold InsTo
            rw [HE.out]
            have e : putL (A ++ T.drop j) j y = (A ++ T.drop j) ++ [[y]] := by
              unfold putL; rw [if_neg (by have := HX.out.2.2.1; omega)]
            have el : (putL (A ++ T.drop j) j y).length = j + 1 := by rw [e, List.length_append, HX.out.2.2.1]; rfl
            show ∃ a c_1, _ = Ending.returned (.tuple #[.slice a (putL (A ++ T.drop j) j y).length c_1, _]) ∧ Rag _ _ (.slice a (putL (A ++ T.drop j) j y).length c_1) (putL (A ++ T.drop j) j y) ∧ _
            rw [el, e]
            exact ⟨_, c3, rfl, rr_rag hps.1, hps.2⟩)
          clear hown3 hgrow3 hnil3 hps
          go_wp2
          go_ret2
          exact H5.out

end Go.Proofs.YtnhhnffolmgceaaGreat.InsSC

end

section
namespace Go.Proofs.YtnhhnffolmgceaaGreat.RowsIC
open Go.RowKit SeesC IntsC ExactC OrdMath InC OrderC ListsC ListsEC ListsFC LLC RagMarkC RagResC RRC AppendTwoC QueM PassM RowsM RRVC PutBC InsNumC

/-- Both rows are returned. -/
def BothTo (W : World) (e : Ending) (w' : World) (P Q : List (List Int)) : Prop :=
  ∃ a c a2 c2, e = .returned (.tuple #[.slice a P.length c, .slice a2 Q.length c2]) ∧ Rag w' W.heap.size (.slice a P.length c) P ∧ Rag w' W.heap.size (.slice a2 Q.length c2) Q ∧ Below W.heap.size W w'

theorem rag_nil (w : World) (base : Nat) : Rag w base (.slice none 0 0) [] := ⟨[], rfl, World.ownsRow_nil w base _ 1, fun i hi => absurd hi (by simp), by simp⟩

theorem both_of {W w' : World} {a a2 : Option Addr} {N N2 c c2 : Nat} {P Q P' Q' : List (List Int)} (h1 : Rag w' W.heap.size (.slice a N c) P) (h2 : Rag w' W.heap.size (.slice a2 N2 c2) Q) (hb : Below W.heap.size W w') (hN : P.length = N) (hN2 : Q.length = N2) (hP : P = P') (hQ : Q = Q') :
    BothTo W (.returned (.tuple #[.slice a N c, .slice a2 N2 c2])) w' P' Q' := by
  subst hP; subst hQ; subst hN; subst hN2
  exact ⟨a, c, a2, c2, rfl, h1, h2, hb⟩

end Go.Proofs.YtnhhnffolmgceaaGreat.RowsIC

end

section
namespace Go.Proofs.YtnhhnffolmgceaaGreat.RowsSC
open Go.RowKit SeesC IntsC ExactC OrdMath InC OrderC ListsC ListsEC ListsFC LLC RagMarkC RagResC RRC AppendTwoC SameC QueM PassM RowsM RRVC PutBC InsNumC RowsIC InsSC

set_option maxRecDepth 100000 in
set_option maxHeartbeats 8000000 in
theorem l5Rows_any (zs : List Int) (hord : Ord zs) (W : World) (v : Value) (n : Nat) (hv : Sees W v n (vals zs)) :
    Calls Tryz.prog 42 #[v] W fun e w' => BothTo W e w' (pq zs n).1 (pq zs n).2 := by
  have hl : zs.length = n := by simpa using hv.1
  have hn7 : n ≤ 7 := by have := hord.2.1; omega
  have hn1 : 1 ≤ n := by have := hord.1; omega
  obtain ⟨i0, hi, hz0, hz1, hz2⟩ := info_parts infoI
  obtain ⟨j0, hj, hy0, hy1, hy2⟩ := info_parts ListsFC.infoL
  obtain ⟨b, o, cap2, rfl, _, _, hbl, hcell⟩ := sees_cells hv (by omega)
  have HC := Go.Lib.hid hcell
  have HL := Go.Lib.hid hl
  have hr0 : Hid (Rag ((W.alloc (.cells #[] 36)).alloc (.cells #[] 36)) W.heap.size (.slice (some ⟨W.heap.size, 0, none⟩) 0 0) [] ∧ Rag ((W.alloc (.cells #[] 36)).alloc (.cells #[] 36)) W.heap.size (.slice (some ⟨W.heap.size + 1, 0, none⟩) 0 0) [] ∧ Below W.heap.size W ((W.alloc (.cells #[] 36)).alloc (.cells #[] 36))) := Go.Lib.hid ⟨Rag.kept (rag_made W W.heap.size (Nat.le_refl _)) ((Below.refl _ _).alloc (Nat.le_refl _) _), by
    have h := rag_made (W.alloc (.cells #[] 36)) W.heap.size (by simp)
    rw [World.size_alloc] at h
    exact h, ((Below.refl _ _).alloc (Nat.le_refl _) _).alloc (by simp) _⟩
  clear hcell hl hv
  go_enter Tryz.func42, Tryz.ntmps42
  go_wp2
  go_loopw [4, 5, 6] (fun rv tv iv wr => ∃ (i N c N2 c2 : Nat) (a a2 : Option Addr) (P Q : List (List Int)), i ≤ n ∧ iv = .int .i64 i ∧ rv = .slice a N c ∧ tv = .slice a2 N2 c2 ∧ N ≤ 7 ∧ N2 ≤ 7 ∧ Hid (P = (pq zs i).1 ∧ Q = (pq zs i).2 ∧ P.length = N ∧ Q.length = N2 ∧ Rag wr W.heap.size (.slice a N c) P ∧ Rag wr W.heap.size (.slice a2 N2 c2) Q ∧ Below W.heap.size W wr)) (fun _ _ i _ => n - (intOf i).toNat)
  case atStart => exact ⟨0, 0, _, 0, _, _, _, [], [], Nat.zero_le _, rfl, rfl, rfl, by omega, by omega, Go.Lib.hid ⟨rfl, rfl, rfl, rfl, hr0.out.1, hr0.out.2.1, hr0.out.2.2⟩⟩
  case round =>
    obtain ⟨i, N, c, N2, c2, a, a2, P, Q, hin, rfl, rfl, rfl, hN7, hN27, HQ⟩ := hrel
    clear hr0
    by_cases hlt : i < n
    · have hck : wr.cell? ⟨b, o + i, none⟩ = some (.int .i64 (zs.getD i 0)) := (HQ.out.2.2.2.2.2.2.cell (p := ⟨b, o + i, none⟩) hbl).trans (HC.out i (by have := HL.out; omega))
      obtain ⟨x, hx⟩ : ∃ x, zs.getD i 0 = x := ⟨_, rfl⟩
      rw [hx] at hck
      have HX := Go.Lib.hid hx
      obtain ⟨wo, rfl⟩ : ∃ wo, wo = wr := ⟨_, rfl⟩
      have hok := pq_ok zs i
      rw [← HQ.out.1, ← HQ.out.2.1] at hok
      have HOK := Go.Lib.hid hok
      have CI := Go.Lib.hid (l5Insert_any P x wo _ W.heap.size HQ.out.2.2.2.2.1 (by rw [HQ.out.2.2.1]; omega) (by have := hok.2.1; omega))
      have hlti : (i : Int) < (n : Int) := by omega
      clear hx hok
      go_wp2_with fail
      refine (CI.out).mono ?_
      rintro e w2 ⟨a3, c3, rfl, hr2, hb2⟩
      have hins := insR_le P x
      obtain ⟨R, hR⟩ : ∃ R, (insR P x).1 = R := ⟨_, rfl⟩
      obtain ⟨k, hk⟩ : ∃ k, (insR P x).2 = k := ⟨_, rfl⟩
      rw [hR] at hr2
      rw [hR, hk] at hins
      obtain ⟨N3, hN3⟩ : ∃ N3, R.length = N3 := ⟨_, rfl⟩
      rw [hR, hk, hN3]
      rw [hN3] at hr2
      have hkQ : k ≤ N2 := by have h1 := hins.1; have h2 := HOK.out.2.2.2; have := HQ.out.2.2.2.1; omega
      have htot : tot Q ≤ 7 := by have := HOK.out.2.2.1; omega
      obtain ⟨gs, hgs⟩ := rrv_start (RagV.kept (Rag.ragv HQ.out.2.2.2.2.2.1) hb2)
      have hbase : W.heap.size ≤ w2.heap.size := Nat.le_trans HQ.out.2.2.2.2.2.2.size hb2.size
      have HG := Go.Lib.hid hgs
      have H2 := Go.Lib.hid (And.intro hr2 (And.intro hb2 (And.intro hR (And.intro hk (And.intro hN3 hins)))))
      clear hr2 hb2 hR hk hN3 hins hgs
      by_cases hkn : k < N2
      · obtain ⟨p, hp⟩ : ∃ p, gs.getD k (0, 0) = p := ⟨_, rfl⟩
        obtain ⟨r, hr⟩ : ∃ r, Q.getD k [] = r := ⟨_, rfl⟩
        obtain ⟨m, hm⟩ : ∃ m, r.length = m := ⟨_, rfl⟩
        obtain ⟨g, c', hgc⟩ := rr_slice HG.out.1 HQ.out.2.2.2.1 (by omega)
        cases hgc
        have hhd := HG.out.1.head HQ.out.2.2.2.1 hkn
        have hrow := HG.out.1.2.2.1 k (by have := HQ.out.2.2.2.1; omega)
        have hm7 := tot_row (L := Q) (i := k) (by have := HQ.out.2.2.2.1; omega)
        rw [hr, hm] at hm7
        rw [hp, hr, hm] at hhd hrow
        unfold sl at hrow
        have HO := Go.Lib.hid hrow
        have HP := Go.Lib.hid (And.intro hr (And.intro hm hp))
        obtain ⟨p1, p2⟩ := p
        simp only at hhd HO
        have hkni : ((k : Int) == (N2 : Int)) = false := by rw [beq_eq_false_iff_ne]; omega
        have hkli : (k : Int) < (N2 : Int) := by omega
        have HPUT : Hid (putL Q k ((i : Int) + 1) = Q.set k (r ++ [(i : Int) + 1])) := Go.Lib.hid (by unfold putL; rw [if_pos (by have := HQ.out.2.2.2.1; omega), HP.out.1])
        clear hp hr hm hrow
        go_wp2_with (at_builtin; refine wpList_append_two _ rfl _ _ 36 rfl W.heap.size 3 i0 (.int .i64 0) 1 8 Tryz.underlying36 hi hz0 hz1 hz2 rfl (by decide) (.slice (some ⟨p1, 0, none⟩) m p2) m (vals r) rfl (HO.out.alloc _) ⟨w2.heap.size, 0, none⟩ 1 1 [.int .i64 ((i : Int) + 1)] rfl rfl (cell_one_new _ _ _) (fun x hx => by simp at hx; subst hx; rfl) (by unfold maxLen; omega) (by omega) (by simp; omega) ?_; intro v' w4 hown4 hgrow4 hnew4; obtain ⟨g4, c4, rfl⟩ := ownsRow_succ hown4; obtain ⟨hH4, hc4, hf4⟩ := rrv_app (x := (i : Int) + 1) HQ.out.2.2.2.1 HG.out hkn HP.out.1 HP.out.2.1 hown4 (by rw [HP.out.2.2]; exact hgrow4) (by rw [HP.out.2.2]; exact hnew4); rw [HP.out.2.2] at hc4; have H4 := Go.Lib.hid hH4; clear hown4 hgrow4 hnew4 hH4)
        have hpq : R = (pq zs (i + 1)).1 ∧ putL Q k ((i : Int) + 1) = (pq zs (i + 1)).2 := by
          show R = (insR (pq zs i).1 (zs.getD i 0)).1 ∧ _ = putL (pq zs i).2 (insR (pq zs i).1 (zs.getD i 0)).2 ((i : Int) + 1)
          rw [← HQ.out.1, ← HQ.out.2.1, HX.out, H2.out.2.2.1, H2.out.2.2.2.1]
          exact ⟨rfl, rfl⟩
        have hok2 := pq_ok zs (i + 1)
        rw [← hpq.1, ← hpq.2, H2.out.2.2.2.2.1] at hok2
        have hNE : (putL Q k ((i : Int) + 1)).length = N2 := by rw [HPUT.out, List.length_set]; exact HQ.out.2.2.2.1
        rw [hNE] at hok2
        have h37 : N3 ≤ 7 := by omega
        have h57 : N2 ≤ 7 := by omega
        have H5 : Hid (R = (pq zs (i + 1)).1 ∧ putL Q k ((i : Int) + 1) = (pq zs (i + 1)).2 ∧ R.length = N3 ∧ (putL Q k ((i : Int) + 1)).length = N2 ∧ Rag (w4.setCell ⟨g, k, none⟩ (.slice (some ⟨g4, 0, none⟩) (m + 1) c4)) W.heap.size (.slice a3 N3 c3) R ∧ Rag (w4.setCell ⟨g, k, none⟩ (.slice (some ⟨g4, 0, none⟩) (m + 1) c4)) W.heap.size (.slice (some ⟨g, 0, none⟩) N2 c2) (putL Q k ((i : Int) + 1)) ∧ Below W.heap.size W (w4.setCell ⟨g, k, none⟩ (.slice (some ⟨g4, 0, none⟩) (m + 1) c4))) :=
          Go.Lib.hid ⟨hpq.1, hpq.2, H2.out.2.2.2.2.1, hNE, Rag.lower (rag_of_mid H2.out.1 H4.out.rag.2 (Nat.le_refl _)) HQ.out.2.2.2.2.2.2.size, by rw [HPUT.out]; exact H4.out.rag.1, HQ.out.2.2.2.2.2.2.trans ((H2.out.2.1.mono HQ.out.2.2.2.2.2.2.size).trans (H4.out.rag.2.below (Below.refl _ _) (Nat.le_refl _) (Nat.le_trans HQ.out.2.2.2.2.2.2.size H2.out.2.1.size)))⟩
        clear hpq hok2 hNE
        go_wp2
        go_roundw
        case rel => exact ⟨i + 1, N3, c3, N2, c2, a3, some ⟨g, 0, none⟩, R, _, by omega, by go_num, rfl, rfl, h37, h57, H5⟩
        case measure => simp [intOf]; omega
      · obtain rfl : k = N2 := by omega
        have HO := Go.Lib.hid (rr_append HG.out.1 HQ.out.2.2.2.1)
        have hkni : ((k : Int) == (k : Int)) = true := by simp
        have HPUT : Hid (putL Q k ((i : Int) + 1) = (Q ++ [[]]).set k ([] ++ [(i : Int) + 1])) := Go.Lib.hid (by
          unfold putL; rw [if_neg (by have := HQ.out.2.2.2.1; omega), ← HQ.out.2.2.2.1, List.set_append_right _ _ (Nat.le_refl _)]; simp)
        go_wp2_with (first
          | (at_builtin; have hX := H3; refine wpList_append_two _ rfl _ _ 36 rfl W.heap.size 3 i0 (.int .i64 0) 1 8 Tryz.underlying36 hi hz0 hz1 hz2 rfl (by decide) (.slice (some ⟨w2.heap.size, 0, none⟩) 0 0) 0 [] rfl (HO3.out.alloc _) ⟨w3.heap.size, 0, none⟩ 1 1 [.int .i64 ((i : Int) + 1)] rfl rfl (cell_one_new _ _ _) (fun x hx => by simp at hx; subst hx; rfl) (by unfold maxLen; omega) (by omega) (by have := H3.out.2.2.2.size; simp; omega) ?_; intro v' w4 hown4 hgrow4 hnew4; obtain ⟨g4, c4, rfl⟩ := ownsRow_succ hown4; obtain ⟨hH4, hc4, hf4⟩ := rrv_app (x := (i : Int) + 1) (r := []) (m := 0) HL3.out.1 H3.out (by omega) HL3.out.2.1 rfl hown4 (by rw [HL3.out.2.2]; exact hgrow4) (by rw [HL3.out.2.2]; exact hnew4); rw [HL3.out.2.2] at hc4; have H4 := Go.Lib.hid hH4; clear hown4 hgrow4 hnew4 hH4)
          | (at_builtin; refine wpList_append_two _ rfl _ _ 32 rfl W.heap.size 36 j0 (.slice none 0 0) 1 24 Tryz.underlying32 hj hy0 hy1 hy2 rfl (by decide) (.slice a2 k c2) k (rowsOf Q gs) rfl (HO.out _ _) ⟨w2.heap.size + 1, 0, none⟩ 1 1 [.slice (some ⟨w2.heap.size, 0, none⟩) 0 0] rfl rfl (cell_two_new _ _ _ _ _ rfl) (fun x hx => by simp at hx; subst hx; rfl) (by unfold maxLen; omega) (by omega) (by simp; omega) ?_; intro v' w3 hown3 hgrow3 hnew3; obtain ⟨g3, c3', rfl⟩ := ownsRow_succ hown3; have hH3 := rrv_new HQ.out.2.2.2.1 HG.out hbase hown3 hgrow3 hnew3; have H3 := Go.Lib.hid hH3; have HL3 : Hid ((Q ++ [[]]).length = k + 1 ∧ (Q ++ [[]]).getD k [] = [] ∧ (gs ++ [(w2.heap.size, 0)]).getD k (0, 0) = (w2.heap.size, 0)) := Go.Lib.hid ⟨by simp [HQ.out.2.2.2.1], by rw [← HQ.out.2.2.2.1, RRC.getD_cat_r], by rw [← HQ.out.2.2.2.1, ← HG.out.1.1, RRC.getD_cat_r]⟩; have hc3 := hH3.1.head HL3.out.1 (show k < k + 1 by omega); rw [HL3.out.2.1, HL3.out.2.2] at hc3; have HO3 : Hid (w3.ownsRow W.heap.size 3 1 (.slice (some ⟨w2.heap.size, 0, none⟩) 0 0) 0 []) := Go.Lib.hid (by have h := hH3.1.2.2.1 k (by rw [HL3.out.1]; omega); rw [HL3.out.2.1, HL3.out.2.2] at h; exact h); clear hown3 hgrow3 hnew3 hH3))
        have hpq : R = (pq zs (i + 1)).1 ∧ putL Q k ((i : Int) + 1) = (pq zs (i + 1)).2 := by
          show R = (insR (pq zs i).1 (zs.getD i 0)).1 ∧ _ = putL (pq zs i).2 (insR (pq zs i).1 (zs.getD i 0)).2 ((i : Int) + 1)
          rw [← HQ.out.1, ← HQ.out.2.1, HX.out, H2.out.2.2.1, H2.out.2.2.2.1]
          exact ⟨rfl, rfl⟩
        have hok2 := pq_ok zs (i + 1)
        rw [← hpq.1, ← hpq.2, H2.out.2.2.2.2.1] at hok2
        have hNE : (putL Q k ((i : Int) + 1)).length = (k + 1) := by rw [HPUT.out, List.length_set]; exact HL3.out.1
        rw [hNE] at hok2
        have h37 : N3 ≤ 7 := by omega
        have h57 : (k + 1) ≤ 7 := by omega
        have H5 : Hid (R = (pq zs (i + 1)).1 ∧ putL Q k ((i : Int) + 1) = (pq zs (i + 1)).2 ∧ R.length = N3 ∧ (putL Q k ((i : Int) + 1)).length = (k + 1) ∧ Rag (w4.setCell ⟨g3, k, none⟩ (.slice (some ⟨g4, 0, none⟩) (0 + 1) c4)) W.heap.size (.slice a3 N3 c3) R ∧ Rag (w4.setCell ⟨g3, k, none⟩ (.slice (some ⟨g4, 0, none⟩) (0 + 1) c4)) W.heap.size (.slice (some ⟨g3, 0, none⟩) (k + 1) c3') (putL Q k ((i : Int) + 1)) ∧ Below W.heap.size W (w4.setCell ⟨g3, k, none⟩ (.slice (some ⟨g4, 0, none⟩) (0 + 1) c4))) :=
          Go.Lib.hid ⟨hpq.1, hpq.2, H2.out.2.2.2.2.1, hNE, Rag.lower (rag_of_mid H2.out.1 H4.out.rag.2 (Nat.le_refl _)) HQ.out.2.2.2.2.2.2.size, by rw [HPUT.out]; exact H4.out.rag.1, HQ.out.2.2.2.2.2.2.trans ((H2.out.2.1.mono HQ.out.2.2.2.2.2.2.size).trans (H4.out.rag.2.below (Below.refl _ _) (Nat.le_refl _) (Nat.le_trans HQ.out.2.2.2.2.2.2.size H2.out.2.1.size)))⟩
        clear hpq hok2 hNE
        go_wp2
        go_roundw
        case rel => exact ⟨i + 1, N3, c3, (k + 1), c3', a3, some ⟨g3, 0, none⟩, R, _, by omega, by go_num, rfl, rfl, h37, h57, H5⟩
        case measure => simp [intOf]; omega
    · have hie : i = n := by omega
      subst hie
      have HF := Go.Lib.hid (both_of HQ.out.2.2.2.2.1 HQ.out.2.2.2.2.2.1 HQ.out.2.2.2.2.2.2 HQ.out.2.2.1 HQ.out.2.2.2.1 HQ.out.1 HQ.out.2.1)
      go_wp2
      go_ret2
      exact HF.out

end Go.Proofs.YtnhhnffolmgceaaGreat.RowsSC

end
