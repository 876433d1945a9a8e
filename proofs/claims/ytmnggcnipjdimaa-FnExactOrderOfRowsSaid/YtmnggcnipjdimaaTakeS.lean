/-
  Contract: the model takes a number out of rows. Conditions: rows that ascend, at most 7 of at most 7 numbers.
-/
import Derived.Test.YtmnggcnipjdimaaOutM
import Derived.Test.YtmnggcnipjdimaaTakeI
import Derived.Test.YtmnggcnipjdimaaOnly
import Derived.IntWalk
namespace Go.Proofs.Ytmnggcnipjdimaa.TakeSC
open Go.RowKit SeesC IntsC ExactC OrdMath ListsC ListsEC ListsFC LLC RagMarkC RagResC RRC QueM PassM RowsM RRVC RoomC AreM OutM TakeIC OnlyC

theorem desc_test {r : List Int} {x : Int} {q j : Nat} (hr : r.Pairwise (· < ·)) (hx : x ∉ r) (hq : putAt r x = q + 1) (hj : j < r.length) : (q < j → x < r.getD j 0) ∧ (j ≤ q → r.getD j 0 < x) := by
  refine ⟨fun h => ?_, fun h => putAt_lt r x j (by omega)⟩
  have h1 : x ≤ r.getD j 0 := Int.not_lt.1 (fun h3 => by have := putAt_more hr hj h3; omega)
  have h2 : r.getD j 0 ∈ r := getD_mem hj
  have h3 : x ≠ r.getD j 0 := fun e => hx (e ▸ h2)
  omega

set_option maxRecDepth 100000 in
set_option maxHeartbeats 8000000 in
theorem l5Out_any (T : List (List Int)) (k : Nat) (W : World) (base g N c : Nat) (gs : List (Nat × Nat)) (H : RR W base (.slice (some ⟨g, 0, none⟩) N c) gs T) (hN : T.length = N) (ht : Tab T) (hn : T.flatten.Nodup) (hk : k < N) (h0 : 0 < (T.getD k []).length) (hN7 : N ≤ 7) (hr7 : tot T ≤ 7) :
    Calls Try.prog 106 #[.slice (some ⟨g, 0, none⟩) N c, .int .i64 k] W fun e w' => e = .returned (.int .i64 (outR T k).2) ∧ RR w' base (.slice (some ⟨g, 0, none⟩) N c) gs (outR T k).1 ∧ Only (g :: gs.map (·.1)) W w' := by
  have hgl : gs.length = N := by rw [H.1, hN]
  obtain ⟨⟨p1, p2⟩, hp⟩ : ∃ p, gs.getD k (0, 0) = p := ⟨_, rfl⟩
  obtain ⟨m, hm⟩ : ∃ m, (T.getD k []).length = m + 1 := ⟨(T.getD k []).length - 1, by omega⟩
  have hm7 : m ≤ 7 := by have := tot_row (L := T) (i := k) (by omega); omega
  have hhd := H.head hN hk
  have hlast := H.num (i := k) (j := m) (by omega) (by omega)
  have hl2 : (T.getD k []).getD m 0 = last (T.getD k []) := by unfold last; rw [hm]; rfl
  obtain ⟨hpop, hcap, hfr, hbg⟩ := rr_pop hN H hk hm hp
  rw [set_same hp (by omega)] at hpop
  rw [hp, hm] at hhd
  rw [hp, hl2] at hlast
  simp only at hhd hlast
  obtain ⟨x0, hx0⟩ : ∃ x0, last (T.getD k []) = x0 := ⟨_, rfl⟩
  rw [hx0] at hlast
  have hus := up_start (T := T) (k := k) (by omega)
  rw [hx0] at hus
  have HS : Hid (RR (W.setCell ⟨g, k, none⟩ (.slice (some ⟨p1, 0, none⟩) m p2)) base (.slice (some ⟨g, 0, none⟩) N c) gs (Up T k k) ∧ x0 = (outR (T.drop k) (k - k)).2 ∧ Only (g :: gs.map (·.1)) W (W.setCell ⟨g, k, none⟩ (.slice (some ⟨p1, 0, none⟩) m p2))) := Go.Lib.hid ⟨by rw [hus.1]; exact hpop, hus.2.symm, only_set _ _ _ (List.mem_cons_self ..)⟩
  have HGL := Go.Lib.hid hgl
  have HT := Go.Lib.hid (And.intro ht (And.intro hn (And.intro hN (And.intro h0 hr7))))
  have hki : (k : Int) < (N : Int) := by omega
  have hmi : (m : Int) < (m : Int) + 1 := by omega
  have hmp : (m : Int) ≤ (p2 : Int) := by omega
  clear H hgl hp hm hl2 hpop hx0 hus ht hn hN h0 hr7
  go_enter Try.func106, Try.ntmps106
  go_wp2
  go_loopw [6, 7] (fun xv iv wr => ∃ (i : Nat) (x : Int), i ≤ k ∧ iv = .int .i64 ((i : Int) - 1) ∧ xv = .int .i64 x ∧ Hid (x = (outR (T.drop i) (k - i)).2 ∧ RR wr base (.slice (some ⟨g, 0, none⟩) N c) gs (Up T k i) ∧ Only (g :: gs.map (·.1)) W wr)) (fun _ i => fun _ => (intOf i + 1).toNat)
  case atStart => exact ⟨k, x0, Nat.le_refl _, rfl, rfl, Go.Lib.hid ⟨HS.out.2.1, HS.out.1, HS.out.2.2⟩⟩
  case round =>
    obtain ⟨i, x, hik, rfl, rfl, HX⟩ := hrel
    clear HS hhd hlast hfr
    obtain ⟨wo, rfl⟩ : ∃ wo, wo = wr := ⟨_, rfl⟩
    cases i with
    | zero =>
      have HF : Hid (Ending.returned (.int .i64 x) = .returned (.int .i64 (outR T k).2) ∧ RR wo base (.slice (some ⟨g, 0, none⟩) N c) gs (outR T k).1 ∧ Only (g :: gs.map (·.1)) W wo) := Go.Lib.hid ⟨by rw [HX.out.1]; rfl, HX.out.2.1, HX.out.2.2⟩
      go_wp2
      go_ret
      exact HF.out
    | succ i =>
      have hkN : k < T.length := by have := HT.out.2.2.1; omega
      have hst := up_step (T := T) (i := i) (k := k) HT.out.1 HT.out.2.1 (by omega) hkN HT.out.2.2.2.1
      have hnx := up_next (T := T) (k := k) (i := i) (by omega) hkN
      have hg2 := HX.out.2.1
      have hUl := up_len (T := T) (k := k) (i := i + 1) (by omega)
      rw [← HX.out.1] at hst hnx
      obtain ⟨r, hr⟩ : ∃ r, T.getD i [] = r := ⟨_, rfl⟩
      obtain ⟨q, hq⟩ : ∃ q, putAt r x = q + 1 := ⟨putAt r x - 1, by rw [← hr]; omega⟩
      obtain ⟨mr, hmr⟩ : ∃ mr, r.length = mr := ⟨_, rfl⟩
      obtain ⟨⟨b1, b2⟩, hb⟩ : ∃ p, gs.getD i (0, 0) = p := ⟨_, rfl⟩
      have hhd := hg2.head (i := i) (by rw [hUl]; exact HT.out.2.2.1) (by omega)
      have hnum := fun s (hs : s < ((Up T k (i + 1)).getD i []).length) => hg2.num (i := i) (by rw [hUl]; omega) hs
      have hput := fun (y : Int) => rr_put (k := i) (j := q) (y := y) hg2 (by rw [hUl]; omega)
      have hrow := hg2.2.2.1 i (by rw [hUl]; omega)
      rw [hnx.2.2, hr] at hhd hnum hput hrow
      rw [hb, hmr] at hhd hrow
      rw [hb] at hnum hput
      rw [hr] at hst hnx
      rw [hq, Nat.add_sub_cancel] at hnx
      unfold sl at hrow
      simp only at hhd hnum hput hrow
      have hqm : q < mr := by have := putAt_le r x; omega
      have hmr7 : mr ≤ 7 := by have h1 := tot_row (L := T) (i := i) (by omega); rw [hr, hmr] at h1; have := HT.out.2.2.2.2; omega
      obtain ⟨z, hz⟩ : ∃ z, r.getD q 0 = z := ⟨_, rfl⟩
      have hck := hnum q (by rw [hmr]; exact hqm)
      rw [hz] at hck hnx
      have hfr := hrow.frozenAt q
      have hbl := (own_block_lt hrow (q := b1) rfl)
      have hmem : b1 ∈ g :: gs.map (·.1) := List.mem_cons_of_mem _ (by have h := mem_places (gs := gs) (i := i) (by have := HGL.out; omega); rw [hb] at h; exact h)
      have HN : Hid (z = (outR (T.drop i) (k - i)).2 ∧ RR (wo.setCell ⟨b1, q, none⟩ (.int .i64 x)) base (.slice (some ⟨g, 0, none⟩) N c) gs (Up T k i) ∧ Only (g :: gs.map (·.1)) W (wo.setCell ⟨b1, q, none⟩ (.int .i64 x))) := Go.Lib.hid ⟨hnx.2.1.symm, by
        rw [hnx.1]
        have h := rr_put (k := i) (j := q) (y := x) hg2 (by rw [hUl]; omega)
        rw [hnx.2.2, hb] at h
        exact h, only_trans HX.out.2.2 (only_set _ _ _ hmem)⟩
      clear hmem
      have hii : (i : Int) < (N : Int) := by omega
      have hi0 : (0 : Int) ≤ (i : Int) := by omega
      have hqi : (q : Int) < (mr : Int) := by omega
      obtain ⟨m1, rfl⟩ : ∃ m1, mr = m1 + 1 := ⟨mr - 1, by omega⟩
      have HG := Go.Lib.hid (fun (j : Nat) (hj : j < m1 + 1) => desc_test hst.2.2.2 hst.2.1 hq (by rw [hmr]; exact hj : j < r.length))
      have HNUM := Go.Lib.hid (fun (s : Nat) (hs : s < m1 + 1) => hnum s (by rw [hmr]; exact hs))
      have HIDE := Go.Lib.hid (And.intro hmr (And.intro hq hz))
      have H5 := HN
      have HBL := Go.Lib.hid hbl
      have HFR := Go.Lib.hid hfr
      have HCK := Go.Lib.hid hck
      clear hst hnx hg2 hUl hnum hput hrow hr hq hmr hz hkN hbl hfr hck
      go_wp2_with fail
      go_loopw [8] (fun kv wr => ∃ j : Nat, q ≤ j ∧ j < m1 + 1 ∧ kv = .int .i64 j ∧ wr = wo) (fun kv _ => (intOf kv).toNat)
      case atStart => exact ⟨m1, by omega, by omega, by first | rfl | go_num, by first | rfl | trivial⟩
      case round =>
        obtain ⟨j, hj1, hj2, rfl, hw⟩ := hrel
        subst hw
        have hG := HG.out j hj2
        have hcj := HNUM.out j hj2
        obtain ⟨y, hy⟩ : ∃ y, r.getD j 0 = y := ⟨_, rfl⟩
        rw [hy] at hcj hG
        have HY := Go.Lib.hid hy
        clear hy
        have hji : (j : Int) < (m1 : Int) + 1 := by omega
        have hj0 : (0 : Int) ≤ (j : Int) := by omega
        by_cases hjq : q < j
        · have hxy : x < y := hG.1 hjq
          clear hG
          go_wp2_with fail
          go_roundw
          case rel => exact ⟨j - 1, by omega, by omega, congrArg (Value.int .i64) (by omega), by first | rfl | trivial⟩
          case measure => simp [intOf] <;> omega
        · obtain rfl : j = q := by omega
          obtain rfl : y = z := by rw [← HY.out, HIDE.out.2.2]
          have hxy : y < x := hG.2 (Nat.le_refl _)
          have hxyd : decide (x < y) = false := decide_eq_false (by omega)
          have hck := HCK.out
          have hfr := HFR.out
          clear hG hcj
          go_wp2_with fail
          go_roundw
          case rel => exact ⟨i, y, by omega, by first | rfl | go_num, rfl, H5⟩
          case measure => simp [intOf] <;> omega

end Go.Proofs.Ytmnggcnipjdimaa.TakeSC
