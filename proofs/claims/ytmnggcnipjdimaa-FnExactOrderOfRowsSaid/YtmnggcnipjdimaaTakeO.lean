/-
  Contract: the program takes a number out of rows. Conditions: rows that ascend, at most 7 of at most 7 numbers.
-/
import Derived.Test.YtmnggcnipjdimaaOutM
import Derived.Test.YtmnggcnipjdimaaTakeI
import Derived.Test.YtmnggcnipjdimaaOnly
import Derived.IntWalk
namespace Go.Proofs.Ytmnggcnipjdimaa.TakeOC
open Go.RowKit SeesC IntsC ExactC OrdMath ListsC ListsEC ListsFC LLC RagMarkC RagResC RRC QueM PassM RowsM RRVC RoomC AreM OutM TakeIC OnlyC

set_option maxRecDepth 100000 in
set_option maxHeartbeats 8000000 in
theorem takeBack_only (T : List (List Int)) (k : Nat) (W : World) (base g N c : Nat) (gs : List (Nat × Nat)) (H : RR W base (.slice (some ⟨g, 0, none⟩) N c) gs T) (hN : T.length = N) (ht : Tab T) (hn : T.flatten.Nodup) (hk : k < N) (h0 : 0 < (T.getD k []).length) (hN7 : N ≤ 7) (hr7 : tot T ≤ 7) :
    Calls Try.prog 99 #[.slice (some ⟨g, 0, none⟩) N c, .int .i64 k] W fun e w' => e = .returned (.int .i64 (outR T k).2) ∧ RR w' base (.slice (some ⟨g, 0, none⟩) N c) gs (outR T k).1 ∧ Only (g :: gs.map (·.1)) W w' := by
  have hgl : gs.length = N := by rw [H.1, hN]
  obtain ⟨⟨p1, p2⟩, hp⟩ : ∃ p, gs.getD k (0, 0) = p := ⟨_, rfl⟩
  obtain ⟨m, hm⟩ : ∃ m, (T.getD k []).length = m + 1 := ⟨(T.getD k []).length - 1, by omega⟩
  have hm7 : m ≤ 7 := by have := tot_row (L := T) (i := k) (by omega); omega
  have hhd := H.head hN hk
  have hlast := H.num (i := k) (j := m) (by omega) (by omega)
  have hl2 : (T.getD k []).getD m 0 = last (T.getD k []) := by unfold last; rw [hm]; rfl
  obtain ⟨hpop, hcap, hfr, hbg⟩ := rr_pop hN H hk hm hp
  rw [set_same hp (by omega)] at hpop
  rw [hp, hm] at hhd
  rw [hp, hl2] at hlast
  simp only at hhd hlast
  obtain ⟨x0, hx0⟩ : ∃ x0, last (T.getD k []) = x0 := ⟨_, rfl⟩
  rw [hx0] at hlast
  have hus := up_start (T := T) (k := k) (by omega)
  rw [hx0] at hus
  have HS : Hid (RR (W.setCell ⟨g, k, none⟩ (.slice (some ⟨p1, 0, none⟩) m p2)) base (.slice (some ⟨g, 0, none⟩) N c) gs (Up T k k) ∧ x0 = (outR (T.drop k) (k - k)).2 ∧ Only (g :: gs.map (·.1)) W (W.setCell ⟨g, k, none⟩ (.slice (some ⟨p1, 0, none⟩) m p2))) := Go.Lib.hid ⟨by rw [hus.1]; exact hpop, hus.2.symm, only_set _ _ _ (List.mem_cons_self ..)⟩
  have HGL := Go.Lib.hid hgl
  have HT := Go.Lib.hid (And.intro ht (And.intro hn (And.intro hN (And.intro h0 hr7))))
  have hki : (k : Int) < (N : Int) := by omega
  have hmi : (m : Int) < (m : Int) + 1 := by omega
  have hmp : (m : Int) ≤ (p2 : Int) := by omega
  clear H hgl hp hm hl2 hpop hx0 hus ht hn hN h0 hr7
  go_enter Try.func99, Try.ntmps99
  go_wp2
  go_loopw [6, 7] (fun xv iv wr => ∃ (i : Nat) (x : Int), i ≤ k ∧ iv = .int .i64 ((i : Int) - 1) ∧ xv = .int .i64 x ∧ Hid (x = (outR (T.drop i) (k - i)).2 ∧ RR wr base (.slice (some ⟨g, 0, none⟩) N c) gs (Up T k i) ∧ Only (g :: gs.map (·.1)) W wr)) (fun _ i => fun _ => (intOf i + 1).toNat)
  case atStart => exact ⟨k, x0, Nat.le_refl _, rfl, rfl, Go.Lib.hid ⟨HS.out.2.1, HS.out.1, HS.out.2.2⟩⟩
  case round =>
    obtain ⟨i, x, hik, rfl, rfl, HX⟩ := hrel
    clear HS hhd hlast hfr
    obtain ⟨wo, rfl⟩ : ∃ wo, wo = wr := ⟨_, rfl⟩
    cases i with
    | zero =>
      have HF : Hid (Ending.returned (.int .i64 x) = .returned (.int .i64 (outR T k).2) ∧ RR wo base (.slice (some ⟨g, 0, none⟩) N c) gs (outR T k).1 ∧ Only (g :: gs.map (·.1)) W wo) := Go.Lib.hid ⟨by rw [HX.out.1]; rfl, HX.out.2.1, HX.out.2.2⟩
      go_wp2
      go_ret
      exact HF.out
    | succ i =>
      have hkN : k < T.length := by have := HT.out.2.2.1; omega
      have hst := up_step (T := T) (i := i) (k := k) HT.out.1 HT.out.2.1 (by omega) hkN HT.out.2.2.2.1
      have hnx := up_next (T := T) (k := k) (i := i) (by omega) hkN
      have hg2 := HX.out.2.1
      have hUl := up_len (T := T) (k := k) (i := i + 1) (by omega)
      rw [← HX.out.1] at hst hnx
      obtain ⟨r, hr⟩ : ∃ r, T.getD i [] = r := ⟨_, rfl⟩
      obtain ⟨q, hq⟩ : ∃ q, putAt r x = q + 1 := ⟨putAt r x - 1, by rw [← hr]; omega⟩
      obtain ⟨mr, hmr⟩ : ∃ mr, r.length = mr := ⟨_, rfl⟩
      obtain ⟨⟨b1, b2⟩, hb⟩ : ∃ p, gs.getD i (0, 0) = p := ⟨_, rfl⟩
      have hhd := hg2.head (i := i) (by rw [hUl]; exact HT.out.2.2.1) (by omega)
      have hnum := fun s (hs : s < ((Up T k (i + 1)).getD i []).length) => hg2.num (i := i) (by rw [hUl]; omega) hs
      have hput := fun (y : Int) => rr_put (k := i) (j := q) (y := y) hg2 (by rw [hUl]; omega)
      have hrow := hg2.2.2.1 i (by rw [hUl]; omega)
      rw [hnx.2.2, hr] at hhd hnum hput hrow
      rw [hb, hmr] at hhd hrow
      rw [hb] at hnum hput
      rw [hr] at hst hnx
      rw [hq, Nat.add_sub_cancel] at hnx
      unfold sl at hrow
      simp only at hhd hnum hput hrow
      have hqm : q < mr := by have := putAt_le r x; omega
      have hmr7 : mr ≤ 7 := by have h1 := tot_row (L := T) (i := i) (by omega); rw [hr, hmr] at h1; have := HT.out.2.2.2.2; omega
      obtain ⟨z, hz⟩ : ∃ z, r.getD q 0 = z := ⟨_, rfl⟩
      have hck := hnum q (by rw [hmr]; exact hqm)
      rw [hz] at hck hnx
      have hfr := hrow.frozenAt q
      have hbl := (own_block_lt hrow (q := b1) rfl)
      have hmem : b1 ∈ g :: gs.map (·.1) := List.mem_cons_of_mem _ (by have h := mem_places (gs := gs) (i := i) (by have := HGL.out; omega); rw [hb] at h; exact h)
      have HN : Hid (z = (outR (T.drop i) (k - i)).2 ∧ (∀ X, Drawn wo X → RR (X.setCell ⟨b1, q, none⟩ (.int .i64 x)) base (.slice (some ⟨g, 0, none⟩) N c) gs (Up T k i) ∧ Only (g :: gs.map (·.1)) W (X.setCell ⟨b1, q, none⟩ (.int .i64 x)))) := Go.Lib.hid ⟨hnx.2.1.symm, fun X hX => ⟨by
        rw [hnx.1]
        have h := rr_put (k := i) (j := q) (y := x) (hg2.kept (hX.below _)) (by rw [hUl]; omega)
        rw [hnx.2.2, hb] at h
        exact h, only_trans HX.out.2.2 (only_trans (only_new (hX.below _)) (only_set _ _ _ hmem))⟩⟩
      clear hmem
      have hii : (i : Int) < (N : Int) := by omega
      have hi0 : (0 : Int) ≤ (i : Int) := by omega
      have hqi : (q : Int) < (mr : Int) := by omega
      have CB := Go.Lib.hid (search_any r x wo b1 mr b2 hmr (by omega) hst.2.2.2 (fun s hs => by rw [Nat.zero_add]; exact hnum s hs))
      rw [hq] at CB
      obtain ⟨bb, hbb⟩ : ∃ bb, r.contains x = bb := ⟨_, rfl⟩
      rw [hbb] at CB
      have HIDE := Go.Lib.hid (And.intro hmr (And.intro hq hz))
      clear hst hnx hg2 hUl hnum hput hrow hr hq hmr hz hbb hb hkN
      go_wp2_with fail
      refine (CB.out).mono ?_
      rintro e w3 ⟨rfl, hd⟩
      have hhd3 := (hd.cell ⟨g, i, none⟩).trans hhd
      have hck3 := (hd.cell ⟨b1, q, none⟩).trans hck
      have hfr3 : w3.frozen? ⟨b1, q, none⟩ = false := by obtain ⟨nn, rfl⟩ := hd; exact hfr
      have hwr : IntKind.i64.wrap ((q : Int) + 1 - 1) = (q : Int) ∧ IntKind.i64.wrap (q : Int) = (q : Int) ∧ (0 : Int) ≤ (q : Int) := ⟨by rw [IntWalk.i64_in _ (by omega)]; omega, IntWalk.i64_in _ (by omega), by omega⟩
      have HD := Go.Lib.hid hd
      have HWR := Go.Lib.hid hwr
      clear hd hwr hhd hck hfr
      go_wp2_with fail
      obtain ⟨W2, hW2, H2⟩ : ∃ W2 : World, ({ w3 with drawn := w3.drawn + 1 } : World) = W2 ∧ Hid (Drawn wo W2 ∧ Drawn w3 W2) := ⟨_, rfl, Go.Lib.hid ⟨HD.out.trans ⟨1, rfl⟩, ⟨1, rfl⟩⟩⟩
      have hhd2 := (H2.out.2.cell _).trans hhd3
      have hck2 := (H2.out.2.cell _).trans hck3
      have hfr2 : W2.frozen? ⟨b1, q, none⟩ = false := by rw [← hW2]; exact hfr3
      obtain ⟨hwr, hwr2, hq0⟩ := HWR.out
      refine wp_region_still_tail 16 (by kernel_rfl) (by kernel_rfl) ?_
      simp only [List.take_succ_cons, List.take_zero, List.drop_succ_cons, List.drop_zero]
      rw [hW2]
      clear hhd3 hck3 hfr3 hW2
      repeat still_step
      refine wpStill_nil ?_
      clear hwr hwr2 hq0
      have H5 := Go.Lib.hid (And.intro HN.out.1 (HN.out.2 W2 H2.out.1))
      go_wp2
      go_roundw
      case rel => exact ⟨i, z, by omega, by first | rfl | go_num, rfl, H5⟩
      case measure => simp [intOf] <;> omega

end Go.Proofs.Ytmnggcnipjdimaa.TakeOC
