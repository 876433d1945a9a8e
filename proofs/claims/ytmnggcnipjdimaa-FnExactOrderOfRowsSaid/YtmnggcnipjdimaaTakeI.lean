/-
  Contract: the program takes a number out of rows. Conditions: rows that ascend, at most 7 of at most 7 numbers.
-/
import Derived.Test.YtmnggcnipjdimaaOutM
import Derived.Test.YtmnggcnipjdimaaRoom
import Derived.IntWalk
namespace Go.Proofs.Ytmnggcnipjdimaa.TakeIC
open Go.RowKit SeesC IntsC ExactC OrdMath ListsC ListsEC ListsFC LLC RagMarkC RagResC RRC QueM PassM RowsM RRVC RoomC AreM OutM

theorem take_upd {T : List (List Int)} {i : Nat} {A : List (List Int)} {r : List Int} (hi : i < T.length) : (T.take (i + 1) ++ A).set i r = T.take i ++ r :: A := by
  rw [List.take_succ_eq_append_getElem hi, List.append_assoc, List.set_append_right _ _ (by rw [List.length_take]; omega), List.length_take, Nat.min_eq_left (by omega), Nat.sub_self]
  rfl

theorem take_at {T : List (List Int)} {i : Nat} {A : List (List Int)} (hi : i < T.length) : (T.take (i + 1) ++ A).getD i [] = T.getD i [] := by
  rw [List.getD_eq_getElem?_getD, List.getElem?_append_left (by rw [List.length_take]; omega), List.getElem?_take, if_pos (by omega), ← List.getD_eq_getElem?_getD]

theorem drop_getD {T : List (List Int)} {i : Nat} (hi : i < T.length) : T.drop i = T.getD i [] :: T.drop (i + 1) := by
  rw [List.drop_eq_getElem_cons hi]; simp [hi]

theorem tab_drop : ∀ {T : List (List Int)} (i : Nat), Tab T → Tab (T.drop i)
  | [], i, _ => by simp; trivial
  | r :: R, 0, h => h
  | r :: R, i + 1, h => tab_drop (T := R) i (tab_tail h)

theorem nodup_drop {T : List (List Int)} (i : Nat) (h : T.flatten.Nodup) : (T.drop i).flatten.Nodup := by
  have : T.flatten = (T.take i).flatten ++ (T.drop i).flatten := by rw [← List.flatten_append, List.take_append_drop]
  rw [this] at h
  exact (List.nodup_append.1 h).2.1

/-- The step upward: what comes up fits into the row above. -/
theorem up_step {T : List (List Int)} {i k : Nat} (ht : Tab T) (hn : T.flatten.Nodup) (hi : i < k) (hk : k < T.length) (h0 : 0 < (T.getD k []).length) :
    1 ≤ putAt (T.getD i []) (outR (T.drop (i + 1)) (k - (i + 1))).2 ∧ (outR (T.drop (i + 1)) (k - (i + 1))).2 ∉ T.getD i [] ∧ 0 < (T.getD i []).length ∧ (T.getD i []).Pairwise (· < ·) := by
  have e1 := drop_getD (T := T) (i := i) (by omega)
  have e2 := drop_getD (T := T) (i := i + 1) (by omega)
  have t1 := tab_drop i ht
  have n1 := nodup_drop i hn
  rw [e1, e2] at t1 n1
  have hkk : k - (i + 1) < (T.getD (i + 1) [] :: T.drop (i + 1 + 1)).length := by rw [← e2, List.length_drop]; omega
  have hg : ∀ q, (T.getD (i + 1) [] :: T.drop (i + 1 + 1)).getD q [] = T.getD (i + 1 + q) [] := by
    intro q
    rw [← e2, List.getD_eq_getElem?_getD, List.getElem?_drop, ← List.getD_eq_getElem?_getD]
  have hpos : 0 < ((T.getD (i + 1) [] :: T.drop (i + 1 + 1)).getD (k - (i + 1)) []).length := by
    rw [hg, show i + 1 + (k - (i + 1)) = k by omega]; exact h0
  have hup := outR_up t1 hkk hpos
  have hx := out_notin n1 hkk (tab_pos (tab_tail t1) hkk hpos)
  rw [← e2] at hup hx
  exact ⟨hup.2.2, hx, hup.1, tab_head t1⟩

/-- Rows taken out so far: from row i on. -/
def Up (T : List (List Int)) (k i : Nat) : List (List Int) := T.take i ++ (outR (T.drop i) (k - i)).1

theorem up_len {T : List (List Int)} {k i : Nat} (hi : i ≤ T.length) : (Up T k i).length = T.length := by
  unfold Up; rw [List.length_append, outR_len, List.length_take, List.length_drop]; omega

theorem up_start {T : List (List Int)} {k : Nat} (hk : k < T.length) : Up T k k = T.set k (T.getD k []).dropLast ∧ (outR (T.drop k) (k - k)).2 = last (T.getD k []) := by
  rw [Nat.sub_self]
  unfold Up
  rw [Nat.sub_self, drop_getD hk]
  refine ⟨?_, rfl⟩
  show T.take k ++ (T.getD k []).dropLast :: T.drop (k + 1) = _
  rw [List.set_eq_take_append_cons_drop, if_pos hk]

theorem up_next {T : List (List Int)} {k i : Nat} (hi : i < k) (hk : k < T.length) :
    Up T k i = (Up T k (i + 1)).set i ((T.getD i []).set (putAt (T.getD i []) (outR (T.drop (i + 1)) (k - (i + 1))).2 - 1) (outR (T.drop (i + 1)) (k - (i + 1))).2) ∧
      (outR (T.drop i) (k - i)).2 = (T.getD i []).getD (putAt (T.getD i []) (outR (T.drop (i + 1)) (k - (i + 1))).2 - 1) 0 ∧ (Up T k (i + 1)).getD i [] = T.getD i [] := by
  have e : k - i = (k - (i + 1)) + 1 := by omega
  refine ⟨?_, ?_, take_at (by omega)⟩
  · unfold Up
    rw [take_upd (by omega), drop_getD (i := i) (by omega), e]
    rfl
  · rw [drop_getD (i := i) (by omega), e]
    rfl

/-- A row cut by its last number, its header stored. -/
theorem rr_pop {X : World} {base g N c k m p1 p2 : Nat} {gs : List (Nat × Nat)} {T : List (List Int)} (hN : T.length = N) (h : RR X base (.slice (some ⟨g, 0, none⟩) N c) gs T) (hk : k < N) (hm : (T.getD k []).length = m + 1) (hp : gs.getD k (0, 0) = (p1, p2)) :
    RR (X.setCell ⟨g, k, none⟩ (.slice (some ⟨p1, 0, none⟩) m p2)) base (.slice (some ⟨g, 0, none⟩) N c) (gs.set k (p1, p2)) (T.set k (T.getD k []).dropLast) ∧ m + 1 ≤ p2 ∧ X.frozen? ⟨g, k, none⟩ = false ∧ base ≤ g := by
  have hrow := h.2.2.1 k (by omega)
  rw [hp, hm] at hrow
  have hcut := own_cut hrow (show m ≤ m + 1 by omega)
  have el : (T.getD k []).dropLast.length = m := by rw [List.length_dropLast, hm]; rfl
  have ev : (vals (T.getD k [])).take m = vals (T.getD k []).dropLast := by
    rw [List.dropLast_eq_take, hm, Nat.add_sub_cancel]; unfold vals; rw [List.map_take]
  rw [ev] at hcut
  have h1 := rr_set (X' := X) (g' := p1) (c' := p2) (r := (T.getD k []).dropLast) hN h hk (by rw [el]; exact hcut) ⟨rfl, rfl, rfl, Nat.le_refl _, fun _ _ _ => rfl⟩ (.inl (by rw [hp]))
  rw [el] at h1
  have ho := h.2.1
  refine ⟨h1, ?_, ?_, (own_block_lt h.2.1 (q := g) rfl).1⟩
  · rcases hrow.2 with ⟨h0, _⟩ | ⟨g', cap, cur, hv, _, _, hc, _⟩
    · unfold sl at h0; cases h0
    · unfold sl at hv; cases hv; exact hc
  · rw [hN] at ho; exact ho.frozenAt k

set_option maxRecDepth 100000 in
set_option maxHeartbeats 8000000 in
theorem takeBack_any (T : List (List Int)) (k : Nat) (W : World) (base g N c : Nat) (hv : Rag W base (.slice (some ⟨g, 0, none⟩) N c) T) (hN : T.length = N) (ht : Tab T) (hn : T.flatten.Nodup) (hk : k < N) (h0 : 0 < (T.getD k []).length) (hN7 : N ≤ 7) (hr7 : tot T ≤ 7) :
    Calls Try.prog 99 #[.slice (some ⟨g, 0, none⟩) N c, .int .i64 k] W fun e w' => e = .returned (.int .i64 (outR T k).2) ∧ Rag w' base (.slice (some ⟨g, 0, none⟩) N c) (outR T k).1 ∧ Below base W w' := by
  obtain ⟨gs, H⟩ := rag_rr hv
  obtain ⟨⟨p1, p2⟩, hp⟩ : ∃ p, gs.getD k (0, 0) = p := ⟨_, rfl⟩
  obtain ⟨m, hm⟩ : ∃ m, (T.getD k []).length = m + 1 := ⟨(T.getD k []).length - 1, by omega⟩
  have hm7 : m ≤ 7 := by have := tot_row (L := T) (i := k) (by omega); omega
  have hhd := H.head hN hk
  have hlast := H.num (i := k) (j := m) (by omega) (by omega)
  have hl2 : (T.getD k []).getD m 0 = last (T.getD k []) := by unfold last; rw [hm]; rfl
  obtain ⟨hpop, hcap, hfr, hbg⟩ := rr_pop hN H hk hm hp
  rw [hp, hm] at hhd
  rw [hp, hl2] at hlast
  simp only at hhd hlast
  obtain ⟨x0, hx0⟩ : ∃ x0, last (T.getD k []) = x0 := ⟨_, rfl⟩
  rw [hx0] at hlast
  have hus := up_start (T := T) (k := k) (by omega)
  rw [hx0] at hus
  have HS : Hid (Rag (W.setCell ⟨g, k, none⟩ (.slice (some ⟨p1, 0, none⟩) m p2)) base (.slice (some ⟨g, 0, none⟩) N c) (Up T k k) ∧ x0 = (outR (T.drop k) (k - k)).2 ∧ Below base W (W.setCell ⟨g, k, none⟩ (.slice (some ⟨p1, 0, none⟩) m p2))) := Go.Lib.hid ⟨by rw [hus.1]; exact rr_rag hpop, hus.2.symm, (Below.refl base W).setCell (p := ⟨g, k, none⟩) hbg _⟩
  have HT := Go.Lib.hid (And.intro ht (And.intro hn (And.intro hN (And.intro h0 hr7))))
  have hki : (k : Int) < (N : Int) := by omega
  have hmi : (m : Int) < (m : Int) + 1 := by omega
  have hmp : (m : Int) ≤ (p2 : Int) := by omega
  clear H hv hp hm hl2 hpop hx0 hus ht hn hN h0 hr7
  go_enter Try.func99, Try.ntmps99
  go_wp2
  go_loopw [6, 7] (fun xv iv wr => ∃ (i : Nat) (x : Int), i ≤ k ∧ iv = .int .i64 ((i : Int) - 1) ∧ xv = .int .i64 x ∧ Hid (x = (outR (T.drop i) (k - i)).2 ∧ Rag wr base (.slice (some ⟨g, 0, none⟩) N c) (Up T k i) ∧ Below base W wr)) (fun _ i => fun _ => (intOf i + 1).toNat)
  case atStart => exact ⟨k, x0, Nat.le_refl _, rfl, rfl, Go.Lib.hid ⟨HS.out.2.1, HS.out.1, HS.out.2.2⟩⟩
  case round =>
    obtain ⟨i, x, hik, rfl, rfl, HX⟩ := hrel
    clear HS hhd hlast hfr
    obtain ⟨wo, rfl⟩ : ∃ wo, wo = wr := ⟨_, rfl⟩
    cases i with
    | zero =>
      have HF : Hid (Ending.returned (.int .i64 x) = .returned (.int .i64 (outR T k).2) ∧ Rag wo base (.slice (some ⟨g, 0, none⟩) N c) (outR T k).1 ∧ Below base W wo) := Go.Lib.hid ⟨by rw [HX.out.1]; rfl, HX.out.2.1, HX.out.2.2⟩
      go_wp2
      go_ret
      exact HF.out
    | succ i =>
      have hkN : k < T.length := by have := HT.out.2.2.1; omega
      have hst := up_step (T := T) (i := i) (k := k) HT.out.1 HT.out.2.1 (by omega) hkN HT.out.2.2.2.1
      have hnx := up_next (T := T) (k := k) (i := i) (by omega) hkN
      obtain ⟨gs2, hg2⟩ := rag_rr HX.out.2.1
      have hUl := up_len (T := T) (k := k) (i := i + 1) (by omega)
      rw [← HX.out.1] at hst hnx
      obtain ⟨r, hr⟩ : ∃ r, T.getD i [] = r := ⟨_, rfl⟩
      obtain ⟨q, hq⟩ : ∃ q, putAt r x = q + 1 := ⟨putAt r x - 1, by rw [← hr]; omega⟩
      obtain ⟨mr, hmr⟩ : ∃ mr, r.length = mr := ⟨_, rfl⟩
      obtain ⟨⟨b1, b2⟩, hb⟩ : ∃ p, gs2.getD i (0, 0) = p := ⟨_, rfl⟩
      have hhd := hg2.head (i := i) (by rw [hUl]; exact HT.out.2.2.1) (by omega)
      have hnum := fun s (hs : s < ((Up T k (i + 1)).getD i []).length) => hg2.num (i := i) (by rw [hUl]; omega) hs
      have hput := fun (y : Int) => rr_put (k := i) (j := q) (y := y) hg2 (by rw [hUl]; omega)
      have hrow := hg2.2.2.1 i (by rw [hUl]; omega)
      rw [hnx.2.2, hr] at hhd hnum hput hrow
      rw [hb, hmr] at hhd hrow
      rw [hb] at hnum hput
      rw [hr] at hst hnx
      rw [hq, Nat.add_sub_cancel] at hnx
      unfold sl at hrow
      simp only at hhd hnum hput hrow
      have hqm : q < mr := by have := putAt_le r x; omega
      have hmr7 : mr ≤ 7 := by have h1 := tot_row (L := T) (i := i) (by omega); rw [hr, hmr] at h1; have := HT.out.2.2.2.2; omega
      obtain ⟨z, hz⟩ : ∃ z, r.getD q 0 = z := ⟨_, rfl⟩
      have hck := hnum q (by rw [hmr]; exact hqm)
      rw [hz] at hck hnx
      have hfr := hrow.frozenAt q
      have hbl := (own_block_lt hrow (q := b1) rfl)
      have HN : Hid (z = (outR (T.drop i) (k - i)).2 ∧ (∀ X, Drawn wo X → Rag (X.setCell ⟨b1, q, none⟩ (.int .i64 x)) base (.slice (some ⟨g, 0, none⟩) N c) (Up T k i) ∧ Below base W (X.setCell ⟨b1, q, none⟩ (.int .i64 x)))) := Go.Lib.hid ⟨hnx.2.1.symm, fun X hX => ⟨by
        rw [hnx.1]
        have h := rr_put (k := i) (j := q) (y := x) (hg2.kept (hX.below _)) (by rw [hUl]; omega)
        rw [hnx.2.2, hb] at h
        exact rr_rag h, (HX.out.2.2.trans (hX.below _)).setCell (p := ⟨b1, q, none⟩) hbl.1 _⟩⟩
      have hii : (i : Int) < (N : Int) := by omega
      have hi0 : (0 : Int) ≤ (i : Int) := by omega
      have hqi : (q : Int) < (mr : Int) := by omega
      have CB := Go.Lib.hid (search_any r x wo b1 mr b2 hmr (by omega) hst.2.2.2 (fun s hs => by rw [Nat.zero_add]; exact hnum s hs))
      rw [hq] at CB
      obtain ⟨bb, hbb⟩ : ∃ bb, r.contains x = bb := ⟨_, rfl⟩
      rw [hbb] at CB
      have HIDE := Go.Lib.hid (And.intro hmr (And.intro hq hz))
      clear hst hnx hg2 hUl hnum hput hrow hr hq hmr hz hbb hb hkN
      go_wp2_with fail
      refine (CB.out).mono ?_
      rintro e w3 ⟨rfl, hd⟩
      have hhd3 := (hd.cell ⟨g, i, none⟩).trans hhd
      have hck3 := (hd.cell ⟨b1, q, none⟩).trans hck
      have hfr3 : w3.frozen? ⟨b1, q, none⟩ = false := by obtain ⟨nn, rfl⟩ := hd; exact hfr
      have hwr : IntKind.i64.wrap ((q : Int) + 1 - 1) = (q : Int) ∧ IntKind.i64.wrap (q : Int) = (q : Int) ∧ (0 : Int) ≤ (q : Int) := ⟨by rw [IntWalk.i64_in _ (by omega)]; omega, IntWalk.i64_in _ (by omega), by omega⟩
      have HD := Go.Lib.hid hd
      have HWR := Go.Lib.hid hwr
      clear hd hwr hhd hck hfr
      go_wp2_with fail
      obtain ⟨W2, hW2, H2⟩ : ∃ W2 : World, ({ w3 with drawn := w3.drawn + 1 } : World) = W2 ∧ Hid (Drawn wo W2 ∧ Drawn w3 W2) := ⟨_, rfl, Go.Lib.hid ⟨HD.out.trans ⟨1, rfl⟩, ⟨1, rfl⟩⟩⟩
      have hhd2 := (H2.out.2.cell _).trans hhd3
      have hck2 := (H2.out.2.cell _).trans hck3
      have hfr2 : W2.frozen? ⟨b1, q, none⟩ = false := by rw [← hW2]; exact hfr3
      obtain ⟨hwr, hwr2, hq0⟩ := HWR.out
      refine wp_region_still_tail 16 (by kernel_rfl) (by kernel_rfl) ?_
      simp only [List.take_succ_cons, List.take_zero, List.drop_succ_cons, List.drop_zero]
      rw [hW2]
      clear hhd3 hck3 hfr3 hW2
      repeat still_step
      refine wpStill_nil ?_
      clear hwr hwr2 hq0
      have H5 := Go.Lib.hid (And.intro HN.out.1 (HN.out.2 W2 H2.out.1))
      go_wp2
      go_roundw
      case rel => exact ⟨i, z, by omega, by first | rfl | go_num, rfl, H5⟩
      case measure => simp [intOf] <;> omega

end Go.Proofs.Ytmnggcnipjdimaa.TakeIC
