/-
  Contract: the program inserts a number into rows. Conditions: rows that ascend, at most 100 numbers.
-/
import Derived.Test.YtmnggcnipjdimaaRoom
import Derived.Test.YtmnggcnipjdimaaCopyRows
import Derived.Test.YtmnggcnipjdimaaPutB
namespace Go.Proofs.Ytmnggcnipjdimaa.InsNumC
open Go.RowKit SeesC IntsC ExactC OrdMath ListsC ListsEC ListsFC LLC RagMarkC RagResC RRC QueM PassM RowsM RRVC RoomC CopyRowsC PutBC

/-- Rows with a number inserted, and the row that has a place more. -/
def InsTo (W : World) (e : Ending) (w' : World) (T : List (List Int)) (x : Int) : Prop :=
  ∃ a c, e = .returned (.tuple #[.slice a (insR T x).1.length c, .int .i64 (((insR T x).2 : Nat) : Int)]) ∧ Rag w' W.heap.size (.slice a (insR T x).1.length c) (insR T x).1 ∧ Below W.heap.size W w'

theorem tab_row : ∀ {T : List (List Int)} {j : Nat}, Tab T → j < T.length → (T.getD j []).Pairwise (· < ·)
  | [], j, _, h => absurd h (by simp)
  | r :: R, 0, h, _ => tab_head h
  | r :: R, j + 1, h, hj => tab_row (T := R) (j := j) (tab_tail h) (by simpa using hj)

theorem mid_at {A T : List (List Int)} {j : Nat} (hA : A.length = j) : (A ++ T.drop j).getD j [] = T.getD j [] := by
  rw [List.getD_eq_getElem?_getD, List.getElem?_append_right (by omega), hA, Nat.sub_self, List.getElem?_drop, Nat.add_zero, ← List.getD_eq_getElem?_getD]

theorem mid_set {A T : List (List Int)} {j : Nat} (hA : A.length = j) (hj : j < T.length) (r : List Int) : (A ++ T.drop j).set j r = (A ++ [r]) ++ T.drop (j + 1) := by
  rw [List.set_append_right _ _ (by omega), hA, Nat.sub_self, List.drop_eq_getElem_cons hj, List.set_cons_zero]
  simp

theorem kept_start {W w2 : World} {g N c : Nat} {gs : List (Nat × Nat)} {T : List (List Int)} {x : Int} {ty ty3 : TypeId} (hN : T.length = N)
    (hR : RR w2 (W.heap.size + 1) (.slice (some ⟨g, 0, none⟩) N c) gs T) (hb : Below (W.heap.size + 1) (W.alloc (.cells #[.int .i64 x] ty3)) w2) :
    Kept W.heap.size w2.heap.size (w2.alloc (.cells #[.slice (some ⟨g, 0, none⟩) N c] ty)) (W.heap.size + 1) g N c gs T x ∧ Below W.heap.size W (w2.alloc (.cells #[.slice (some ⟨g, 0, none⟩) N c] ty)) := by
  have hg := own_block_lt hR.2.1 (q := g) rfl
  have hbx : Below w2.heap.size w2 (w2.alloc (.cells #[.slice (some ⟨g, 0, none⟩) N c] ty)) := (Below.refl _ _).alloc (Nat.le_refl _) _
  have hsz := hb.size
  simp at hsz
  have e2 : ∀ b : Nat, (⟨b, 0, none⟩ : Addr).add 0 = ⟨b, 0, none⟩ := fun b => by unfold Addr.add; split <;> simp_all
  have hc1 : (W.alloc (.cells #[.int .i64 x] ty3)).cell? ⟨W.heap.size, 0, none⟩ = some (.int .i64 x) := by
    have := cell_one_new W (.int .i64 x) ty3 0 _ rfl
    rw [e2] at this; exact this
  have hf1 : (W.alloc (.cells #[.int .i64 x] ty3)).frozen? ⟨W.heap.size, 0, none⟩ = false := by
    have h := World.ownsRow_lit (base := W.heap.size) (e := ty3) (size := 1) W #[.int .i64 x] 1 (Nat.le_refl _) (by unfold maxLen; omega) (by simp)
    exact World.ownsRow.frozenAt h 0
  have hc6 : (w2.alloc (.cells #[.slice (some ⟨g, 0, none⟩) N c] ty)).cell? ⟨w2.heap.size, 0, none⟩ = some (.slice (some ⟨g, 0, none⟩) N c) := by
    have := cell_one_new w2 (.slice (some ⟨g, 0, none⟩) N c) ty 0 _ rfl
    rw [e2] at this; exact this
  refine ⟨⟨hR.kept hbx, hN, hc6, ?_, ?_, by omega, fun i hi => (hR.lt hi).2, hg.2⟩, ?_⟩
  · exact (hbx.cell (p := ⟨W.heap.size, 0, none⟩) (by simp only; omega)).trans ((hb.cell (p := ⟨W.heap.size, 0, none⟩) (by simp)).trans hc1)
  · exact (hbx.frozen (p := ⟨W.heap.size, 0, none⟩) (by simp only; omega)).trans ((hb.frozen (p := ⟨W.heap.size, 0, none⟩) (by simp)).trans hf1)
  · exact (((Below.refl W.heap.size W).alloc (Nat.le_refl _) _).trans (hb.mono (by omega))).trans (hbx.mono (by omega))

set_option maxRecDepth 100000 in
set_option maxHeartbeats 8000000 in
theorem insertNumber_any (T : List (List Int)) (x : Int) (W : World) (v : Value) (hv : SeesLL W v T) (hT : Tab T) (hN1 : T.length ≤ 100) (hr1 : tot T ≤ 100) :
    Calls Try.prog 120 #[v, .int .i64 x] W fun e w' => InsTo W e w' T x := by
  obtain ⟨av, cv, rfl⟩ := hv.value
  obtain ⟨N, hN⟩ : ∃ N, T.length = N := ⟨_, rfl⟩
  have CP := Go.Lib.hid (copyRows_any (W.alloc (.cells #[.int .i64 x] 3)) (.slice av T.length cv) T (hv.grow ((Below.refl _ _).alloc (Nat.le_refl _) _)) (by omega))
  rw [hN] at CP ⊢
  have HN := Go.Lib.hid (And.intro hN (And.intro hT (And.intro hN1 hr1)))
  have hN100 : N ≤ 100 := by omega
  clear hv hN hT hN1 hr1
  go_enter Try.func120, Try.ntmps120
  go_wp2_with fail
  refine (CP.out).mono ?_
  rintro e w2 ⟨g, rfl, hr2, hb2⟩
  obtain ⟨gs, hgs⟩ := rag_rr hr2
  rw [World.size_alloc] at hgs hb2
  have H2 := Go.Lib.hid (And.intro hgs hb2)
  clear hr2 hgs hb2 CP
  have hks := kept_start (ty := 31) HN.out.1 H2.out.1 H2.out.2
  have HKS := Go.Lib.hid hks
  clear hks
  obtain ⟨a3, ha3⟩ : ∃ a3, W.heap.size = a3 := ⟨_, rfl⟩
  obtain ⟨a6, ha6⟩ : ∃ a6, w2.heap.size = a6 := ⟨_, rfl⟩
  go_wp2_with fail
  rw [ha3, ha6] at HKS
  have HA := Go.Lib.hid (And.intro ha3 ha6)
  clear ha3 ha6 H2
  go_loopw [8] (fun jv wr => ∃ (j : Nat) (A : List (List Int)) (y : Int), j ≤ N ∧ jv = .int .i64 j ∧ Hid (Bumped T x j A y ∧ Kept a3 a6 wr (a3 + 1) g N N gs (A ++ T.drop j) y ∧ Below a3 W wr)) (fun j _ => N - (intOf j).toNat)
  case atStart => exact ⟨0, [], x, Nat.zero_le _, rfl, Go.Lib.hid ⟨bumped_start T x, by simpa using HKS.out.1, HKS.out.2⟩⟩
  case round =>
    obtain ⟨j, A, y, hjN, rfl, HX⟩ := hrel
    clear HKS
    have h6 := HX.out.2.1.2.2.1
    have h3 := HX.out.2.1.2.2.2.1
    by_cases hlt : j < N
    · have hjT : j < T.length := by have := HN.out.1; omega
      have hma := mid_at (T := T) HX.out.1.1
      obtain ⟨k, hk⟩ : ∃ k, putAt (T.getD j []) y = k := ⟨_, rfl⟩
      obtain ⟨m, hm⟩ : ∃ m, (T.getD j []).length = m := ⟨_, rfl⟩
      have hm100 : m ≤ 100 := by have := tot_row hjT; have := HN.out.2.2.2; omega
      have hasc := tab_row HN.out.2.1 hjT
      have HM := Go.Lib.hid (And.intro hk (And.intro hm hjT))
      rw [← hma] at hk hm hasc
      have hjd : decide (j < N) = true := decide_eq_true hlt
      by_cases hkm : k < m
      · have CR := Go.Lib.hid (makeRoom_yes a3 a6 j (a3 + 1) g N N k m wr gs _ y HX.out.2.1 hlt hm hm100 hasc hk hkm)
        rw [hma] at CR
        clear hk hm hasc hma hjT
        go_wp2_with fail
        refine (CR.out).mono ?_
        rintro e w4 ⟨rfl, hK, hb⟩
        rw [mid_set HX.out.1.1 HM.out.2.2] at hK
        have H4 : Hid (Bumped T x (j + 1) (A ++ [(T.getD j []).set k y]) ((T.getD j []).getD k 0) ∧ Kept a3 a6 w4 (a3 + 1) g N N gs ((A ++ [(T.getD j []).set k y]) ++ T.drop (j + 1)) ((T.getD j []).getD k 0) ∧ Below a3 W w4) := Go.Lib.hid ⟨by
          have h := bumped_next HX.out.1 HM.out.2.2 (by rw [HM.out.1, HM.out.2.1]; exact hkm)
          rw [HM.out.1] at h; exact h, hK, HX.out.2.2.trans hb⟩
        clear hK hb
        go_wp2_with fail
        go_roundw
        case rel => exact ⟨j + 1, _, _, by omega, by go_num, H4⟩
        case measure => simp [intOf]; omega
      · have CR := Go.Lib.hid (makeRoom_no a3 a6 j (a3 + 1) g N N k m wr gs _ y HX.out.2.1 hlt hm hm100 hasc hk hkm)
        have HE := Go.Lib.hid (bumped_end HX.out.1 (by have := HN.out.1; omega) (fun _ => by rw [HM.out.1, HM.out.2.1]; exact hkm))
        clear hk hm hasc hma hjT
        go_wp2_with fail
        refine (CR.out).mono ?_
        rintro e w4 ⟨rfl, hd⟩
        have HK4 := Go.Lib.hid (HX.out.2.1.drawn hd)
        have HB4 := Go.Lib.hid (HX.out.2.2.trans (hd.below _))
        have h64 := HK4.out.2.2.1
        have h34 := HK4.out.2.2.2.1
        have hlen : (A ++ T.drop j).length ≤ 100 := by rw [HX.out.2.1.2.1]; exact hN100
        have htot : tot (A ++ T.drop j) ≤ 100 := by
          have h1 := putL_tot (A ++ T.drop j) j y
          have h2 := congrArg (fun p => tot p.1) HE.out
          simp only at h2
          have h3 := (insR_le T x).2.2.2
          have h4 := HN.out.2.2.2
          omega
        have CP := Go.Lib.hid (putBehind_in (W := w4) (wo := w4) (wd := w4) (base := a3 + 1) j y (rr_rag HK4.out.1) (Below.refl _ _) (by have := HA.out.1; have := HB4.out.size; have := World.block_lt_of_cell? w4 _ h34; simp only at this; omega) (Drawn.refl _) (by rw [HX.out.2.1.2.1]; omega) hlen htot)
        clear hd hlen htot h6 h3
        go_wp2_with fail
        refine (CP.out).mono ?_
        rintro e w5 ⟨a5, c5, rfl, hr5, hb5⟩
        have H5 : Hid (InsTo W (.returned (.tuple #[.slice a5 (putL (A ++ T.drop j) j y).length c5, .int .i64 (j : Int)])) w5 T x) := Go.Lib.hid (by
          unfold InsTo
          rw [HE.out]
          refine ⟨a5, c5, rfl, Rag.lower hr5 (by have := HA.out.1; omega), ?_⟩
          rw [HA.out.1]
          exact HB4.out.trans (hb5.mono (by omega)))
        clear hr5 hb5
        go_wp2_with fail
        go_ret2
        exact H5.out
    · have hjd : decide (j < N) = false := decide_eq_false hlt
      obtain rfl : j = N := by omega
      have HE := Go.Lib.hid (bumped_end HX.out.1 (by have := HN.out.1; omega) (fun h => by have := HN.out.1; omega))
      obtain ⟨w4, hw4⟩ : ∃ w4, w4 = wr := ⟨_, rfl⟩
      have hd : Drawn wr w4 := by rw [hw4]; exact Drawn.refl _
      rw [← hw4]
      clear hw4
      have HK4 := Go.Lib.hid (HX.out.2.1.drawn hd)
      have HB4 := Go.Lib.hid (HX.out.2.2.trans (hd.below _))
      have h64 := HK4.out.2.2.1
      have h34 := HK4.out.2.2.2.1
      have hlen : (A ++ T.drop j).length ≤ 100 := by rw [HX.out.2.1.2.1]; exact hN100
      have htot : tot (A ++ T.drop j) ≤ 100 := by
        have h1 := putL_tot (A ++ T.drop j) j y
        have h2 := congrArg (fun p => tot p.1) HE.out
        simp only at h2
        have h3 := (insR_le T x).2.2.2
        have h4 := HN.out.2.2.2
        omega
      have CP := Go.Lib.hid (putBehind_in (W := w4) (wo := w4) (wd := w4) (base := a3 + 1) j y (rr_rag HK4.out.1) (Below.refl _ _) (by have := HA.out.1; have := HB4.out.size; have := World.block_lt_of_cell? w4 _ h34; simp only at this; omega) (Drawn.refl _) (by rw [HX.out.2.1.2.1]; omega) hlen htot)
      clear hd hlen htot h6 h3
      go_wp2_with fail
      refine (CP.out).mono ?_
      rintro e w5 ⟨a5, c5, rfl, hr5, hb5⟩
      have H5 : Hid (InsTo W (.returned (.tuple #[.slice a5 (putL (A ++ T.drop j) j y).length c5, .int .i64 (j : Int)])) w5 T x) := Go.Lib.hid (by
        unfold InsTo
        rw [HE.out]
        refine ⟨a5, c5, rfl, Rag.lower hr5 (by have := HA.out.1; omega), ?_⟩
        rw [HA.out.1]
        exact HB4.out.trans (hb5.mono (by omega)))
      clear hr5 hb5
      go_wp2_with fail
      go_ret2
      exact H5.out

end Go.Proofs.Ytmnggcnipjdimaa.InsNumC
