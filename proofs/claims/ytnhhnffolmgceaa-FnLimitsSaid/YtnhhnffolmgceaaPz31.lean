/-
  Contract: the program's word of the limited sweep, and its limited sweep. Conditions: an order, a limit in 1..7.
-/
import Derived.Test.YtnhhnffolmgceaaPz23
import Derived.Test.YtnhhnffolmgceaaPz26
import Derived.Test.YtnhhnffolmgceaaPz5
import Derived.Test.YtnhhnffolmgceaaPz28
import Derived.Lib.JoinLaws

namespace Go.Proofs.Ytnhhnffolmgceaa.LimWIC
open Go.RowKit SeesC WordsC IntsC ExactC NumC IterC OrdMath WordMath OrdFacts InC OrderC AtC EndsM SweepM StackM CutStC CutSt2C SweepIC LimW LimM

theorem repeat_one (x : UInt8) : ∀ c, Lib.repeatL [x] c = List.replicate c x
  | 0 => rfl
  | c + 1 => by show [x] ++ Lib.repeatL [x] c = _; rw [repeat_one x c]; rfl

theorem take_cells {st : List Int} {k j : Nat} {u : Value} (hu : (vals (st.take k))[j]? = some u) : (vals st)[j]? = some u := by
  simp only [vals, List.map_take, List.getElem?_take] at hu ⊢
  split at hu <;> simp_all

theorem own_room {w : World} {B g n c : Nat} {ty : TypeId} {xs : List Value} (h : w.ownsRow B ty 1 (.slice (some ⟨g, 0, none⟩) n c) n xs) : n ≤ c := by
  rcases h.2 with ⟨h0, _⟩ | ⟨g', cap', cur, h0, _, _, h1, _⟩
  · cases h0
  · cases h0; exact h1

set_option maxRecDepth 100000 in
set_option maxHeartbeats 8000000 in
theorem limitedWordOf_any (zs : List Int) (K : Nat) (hK1 : 1 ≤ K) (hK7 : K ≤ 7) (hord : Ord zs) (W : World) (v : Value) (n : Nat) (hv : Sees W v n (vals zs)) :
    Calls Try.prog 90 #[v, .int .i64 (K : Int)] W fun e w' => e = .returned (.string (txt (lsWord K zs))) ∧ Below W.heap.size W w' := by
  obtain ⟨i0, hi, hz0, hz1, hz2⟩ := info_parts infoI
  have hl : zs.length = n := by simpa using hv.1
  have hn1 : 1 ≤ n := by have := hord.1; omega
  have hn7 : n ≤ 7 := by have := hord.2.1; omega
  obtain ⟨b, o, cap, rfl, _, _, hbl, hcell⟩ := sees_cells hv (by omega)
  have HC := Go.Lib.hid hcell
  have HLN := Go.Lib.hid (And.intro hl hn7)
  obtain ⟨R, hR⟩ : ∃ R, lsWord K zs = R := ⟨_, rfl⟩
  rw [hR]
  have HRR := Go.Lib.hid hR
  obtain ⟨K1, hKK⟩ : ∃ K1, K - 1 = K1 := ⟨_, rfl⟩
  have HK1 : Hid (K1 + 1 = K) := Go.Lib.hid (by omega)
  have qK : IntKind.i64.wrap ((K : Int) - 1) = (K1 : Int) := by rw [IntWalk.i64_in _ (by omega)]; omega
  have CR := Go.Lib.hid (fun (c : Nat) (hc : c ≤ 7) (W' : World) => Try.strings_Repeat ⟨#[79]⟩ c W' (by omega) (by show 1 * c ≤ _; omega))
  clear hv hcell hl hR hKK
  go_enter Try.func90, Try.ntmps90
  have ho0 := World.ownsRow_made (base := W.heap.size) (e := 3) (size := 1) W #[] 0 (Nat.le_refl _) (by unfold maxLen; omega) rfl
  have hb0 : Below W.heap.size W (W.alloc (.cells #[] 3)) := (Below.refl _ _).alloc (Nat.le_refl _) _
  have H0 : Hid ((W.alloc (.cells #[] 3)).ownsRow W.heap.size 3 1 (.slice (some ⟨W.heap.size, 0, none⟩) 0 0) 0 (vals []) ∧ Below W.heap.size W (W.alloc (.cells #[] 3))) := Go.Lib.hid ⟨by simpa using ho0, hb0⟩
  clear ho0 hb0
  go_wp2_with fail
  go_loopw [5, 6, 15] (fun wv sv iv wr => ∃ (i m g c cq : Nat) (st : List Int) (acc : List UInt8) (s : ByteArray), iv = .int .i64 i ∧ wv = .string s ∧ sv = .slice (some ⟨g, 0, none⟩) m cq ∧ i ≤ n ∧ m ≤ cq ∧ cq ≤ c ∧ m ≤ 8 ∧ s.size ≤ 14 ∧ st.length = m ∧ Hid (s = txt acc) ∧ Hid (wr.ownsRow W.heap.size 3 1 (.slice (some ⟨g, 0, none⟩) m c) m (vals st) ∧ Below W.heap.size W wr) ∧ Hid (acc = lsgTo K zs i ∧ st = (llTo K zs i).2)) (fun _ _ i _ => n - (intOf i).toNat)
  case atStart => exact ⟨0, 0, W.heap.size, 0, 0, [], [], ByteArray.empty, rfl, rfl, rfl, Nat.zero_le _, Nat.le_refl _, Nat.le_refl _, by omega, by decide, rfl, Go.Lib.hid rfl, H0, Go.Lib.hid ⟨rfl, rfl⟩⟩
  case round =>
    obtain ⟨i, m, g, c, cq, st, acc, s, rfl, rfl, rfl, hin, hmq, hqc, hm8, hs14, hst, HS, HX, HM⟩ := hrel
    clear H0
    by_cases hlt : i < n
    · obtain ⟨x, hx⟩ : ∃ x, zs.getD i 0 = x := ⟨_, rfl⟩
      have hckx : wr.cell? ⟨b, o + i, none⟩ = some (.int .i64 x) := (HX.out.2.cell (p := ⟨b, o + i, none⟩) hbl).trans (by rw [← hx]; exact HC.out i (by have := HLN.out.1; omega))
      have hdesc := ll_desc K zs i (by have := HLN.out.1; omega)
      have HMK : Hid (m ≤ K) := Go.Lib.hid (by have h1 := hdesc.2; rw [← HM.out.2, hst] at h1; omega)
      have HNXT : Hid ((llTo K zs (i + 1)).2 = kept K st x ++ [x]) := Go.Lib.hid (by
        obtain ⟨o2, s2, hr⟩ : ∃ o2 s2, llTo K zs i = (o2, s2) := ⟨_, _, rfl⟩
        have h1 := ll_next (d := K) (zs := zs) (k := i) (by have := HLN.out.1; omega) hr
        have h2 : st = s2 := by rw [HM.out.2, hr]
        rw [h1, h2, hx])
      have HSG : Hid (lsgTo K zs (i + 1) = acc ++ List.replicate (pop K st x).length 79 ++ [73]) := Go.Lib.hid (by rw [HM.out.1, HM.out.2, ← hx]; rfl)
      have HL := Go.Lib.hid hst
      have hmK7 : m ≤ 7 := by have := HMK.out; omega
      have hlti : (i : Int) < (n : Int) := by omega
      have CC := Go.Lib.hid (cutStack2_any st x m g c cq W.heap.size hmq wr hst hm8 HX.out.1)
      clear hx hst hdesc
      go_wp2_with fail
      refine (CC.out).mono ?_
      rintro e w4 ⟨k, o', c', hkm, ho', htk, rfl, q, rfl⟩
      have h4 : Hid ((wr.drewN q).ownsRow W.heap.size 3 1 (.slice (some ⟨g, 0, none⟩) m c) m (vals st) ∧ Below W.heap.size W (wr.drewN q)) := Go.Lib.hid ⟨own_drewN (q := q) HX.out.1, ExactC.below_drewN (q := q) HX.out.2⟩
      obtain ⟨w4, hw4⟩ : ∃ w4, wr.drewN q = w4 := ⟨_, rfl⟩
      rw [hw4] at h4 ⊢
      have hbl : (belw st x).length = k := by rw [← htk, List.length_take, HL.out]; omega
      have HTK := Go.Lib.hid htk
      clear hw4 htk HX CC
      by_cases hkl : k ≤ K1
      · have hkept : kept K st x = st.take k := by unfold kept; rw [HTK.out, List.take_of_length_le (by have := HK1.out; omega)]
        have hpl : (pop K st x).length = m - k := by have := lensD K st x; rw [hkept, List.length_take, HL.out] at this; omega
        obtain ⟨p, hp⟩ : ∃ p, m - k = p := ⟨_, rfl⟩
        have hpi : (m : Int) - (k : Int) = (p : Int) := by omega
        have hp7 : p ≤ 7 := by omega
        obtain ⟨r2, hr2⟩ : ∃ r2, txt (List.replicate p 79) = r2 := ⟨_, rfl⟩
        have C2 := fun W' => CR.out p hp7 W'
        rw [show (⟨(Lib.repeatL (⟨#[79]⟩ : ByteArray).data.toList p).toArray⟩ : ByteArray) = r2 by rw [← hr2]; show (⟨(Lib.repeatL [79] p).toArray⟩ : ByteArray) = _; rw [repeat_one]; rfl] at C2
        have C2 := Go.Lib.hid C2
        have hzr2 : r2.size ≤ 7 := by rw [← hr2, txt_size, List.length_replicate]; exact hp7
        have HT6 : Hid (s ++ (r2 ++ ({ data := #[73] } : ByteArray)) = txt (acc ++ List.replicate p 79 ++ [73])) := Go.Lib.hid (by
          rw [HS.out, ← hr2, show ({ data := #[73] } : ByteArray) = txt [73] from rfl, txt_append, txt_append, List.append_assoc])
        have HM6 : Hid (acc ++ List.replicate p 79 ++ [73] = lsgTo K zs (i + 1) ∧ st.take k ++ [x] = (llTo K zs (i + 1)).2) := Go.Lib.hid (by
          have h1 := HNXT.out
          rw [hkept] at h1
          refine ⟨?_, h1.symm⟩
          have h2 : lsgTo K zs (i + 1) = acc ++ List.replicate (pop K st x).length 79 ++ [73] := HSG.out
          rw [h2, hpl, hp])
        have HSZ : Hid ((s ++ (r2 ++ ({ data := #[73] } : ByteArray))).size ≤ 14) := Go.Lib.hid (by
          rw [HT6.out, HM6.out.1, txt_size]
          have := lsg_len K zs (i + 1) (by have := HLN.out; omega)
          have h7 := HLN.out
          omega)
        have hs14b : s.size ≤ 14 := hs14
        clear hr2 hp
        have H4 := h4
        clear h4 hkept hpl hbl
        have hmin : min (k : Int) (K1 : Int) = (k : Int) := by omega
        go_wp2_with fail
        refine (C2.out _).mono ?_
        rintro e w5 ⟨rfl, hb5⟩
        have H5 := Go.Lib.hid (And.intro (kept_call H4.out.1 hb5) (H4.out.2.trans (hb5.mono H4.out.2.size)))
        clear hb5 H4
        go_wp2_with (at_builtin; refine wpList_append_grows _ rfl _ _ 24 rfl 3 i0 (.int .i64 0) 1 8 Try.underlying24 hi hz0 hz1 hz2 rfl (by decide) (some ⟨g, 0, none⟩) k k (vals (st.take k)) rfl (fun h => by cases h) (by rw [vals_len, List.length_take, HL.out]; omega) (fun b' e j u hu => by cases e; exact (H5.out.1.alloc _).cells (g := g) rfl j u (take_cells hu)) ⟨w5.heap.size, 0, none⟩ 1 1 [.int .i64 x] rfl rfl (cell_one_new _ _ _) (fun x hx => by simp at hx; subst hx; rfl) (by omega) (by unfold maxLen; omega) (by omega) ?_; intro v' w6 hown6 hgrow6)
        obtain ⟨g', cap', rfl⟩ := ownsRow_succ hown6
        have e5 : vals (st.take k) ++ [Value.int .i64 x] = vals (st.take k ++ [x]) := by simp
        rw [e5] at hown6
        have hcc := own_room hown6
        have hlow := own_lower hown6 (base' := W.heap.size) (by have := H5.out.2.size; simp; omega)
        have HR6 := Go.Lib.hid (And.intro hlow ((H5.out.2.alloc H5.out.2.size (.cells #[.int .i64 x] 3)).grown hgrow6 (by have := H5.out.2.size; simp; omega) (fun k hk => by cases hk)))
        have HST6 : Hid ((st.take k ++ [x]).length = k + 1) := Go.Lib.hid (by rw [List.length_append, List.length_take, HL.out]; simp; omega)
        clear hown6 hgrow6 hlow H5 e5
        go_wp2_with fail
        go_roundw
        case rel => exact ⟨i + 1, k + 1, g', cap', cap', st.take k ++ [x], acc ++ List.replicate p 79 ++ [73], s ++ (r2 ++ ({ data := #[73] } : ByteArray)), by go_num, rfl, rfl, by omega, hcc, Nat.le_refl _, by omega, HSZ.out, HST6.out, HT6, HR6, HM6⟩
        case measure => simp [intOf]; omega
      · have hkK : k = K := by have := HK1.out; have := HMK.out; omega
        have hmK : m = K := by have := HMK.out; omega
        have hst : st.take k = st := List.take_of_length_le (by rw [HL.out]; omega)
        have hkept : kept K st x = st.take K1 := by unfold kept; rw [← HTK.out, hst, show K - 1 = K1 by have := HK1.out; omega]
        have hpl : (pop K st x).length = m - K1 := by have := lensD K st x; rw [hkept, List.length_take, HL.out] at this; have := HK1.out; omega
        obtain ⟨p, hp⟩ : ∃ p, m - K1 = p := ⟨_, rfl⟩
        have hpi : (m : Int) - (K1 : Int) = (p : Int) := by omega
        have hp7 : p ≤ 7 := by omega
        obtain ⟨r2, hr2⟩ : ∃ r2, txt (List.replicate p 79) = r2 := ⟨_, rfl⟩
        have C2 := fun W' => CR.out p hp7 W'
        rw [show (⟨(Lib.repeatL (⟨#[79]⟩ : ByteArray).data.toList p).toArray⟩ : ByteArray) = r2 by rw [← hr2]; show (⟨(Lib.repeatL [79] p).toArray⟩ : ByteArray) = _; rw [repeat_one]; rfl] at C2
        have C2 := Go.Lib.hid C2
        have hzr2 : r2.size ≤ 7 := by rw [← hr2, txt_size, List.length_replicate]; exact hp7
        have HT6 : Hid (s ++ (r2 ++ ({ data := #[73] } : ByteArray)) = txt (acc ++ List.replicate p 79 ++ [73])) := Go.Lib.hid (by
          rw [HS.out, ← hr2, show ({ data := #[73] } : ByteArray) = txt [73] from rfl, txt_append, txt_append, List.append_assoc])
        have HM6 : Hid (acc ++ List.replicate p 79 ++ [73] = lsgTo K zs (i + 1) ∧ st.take K1 ++ [x] = (llTo K zs (i + 1)).2) := Go.Lib.hid (by
          have h1 := HNXT.out
          rw [hkept] at h1
          refine ⟨?_, h1.symm⟩
          have h2 : lsgTo K zs (i + 1) = acc ++ List.replicate (pop K st x).length 79 ++ [73] := HSG.out
          rw [h2, hpl, hp])
        have HSZ : Hid ((s ++ (r2 ++ ({ data := #[73] } : ByteArray))).size ≤ 14) := Go.Lib.hid (by
          rw [HT6.out, HM6.out.1, txt_size]
          have := lsg_len K zs (i + 1) (by have := HLN.out; omega)
          have h7 := HLN.out
          omega)
        have hs14b : s.size ≤ 14 := hs14
        clear hr2 hp
        have H4 := h4
        clear h4 hkept hpl hbl hst
        have hmin : min (k : Int) (K1 : Int) = (K1 : Int) := by omega
        have hK1k : K1 ≤ k := by omega
        have hK1i : (K1 : Int) ≤ (k : Int) := by omega
        have HKK := Go.Lib.hid (And.intro hkK hmK)
        clear hkK hmK hkl
        go_wp2_with fail
        refine (C2.out _).mono ?_
        rintro e w5 ⟨rfl, hb5⟩
        have H5 := Go.Lib.hid (And.intro (kept_call H4.out.1 hb5) (H4.out.2.trans (hb5.mono H4.out.2.size)))
        clear hb5 H4
        go_wp2_with (at_builtin; refine wpList_append_room1 _ rfl _ _ 24 24 rfl 3 (.int .i64 0) 8 Try.underlying24 infoI g 0 K1 k rfl _ rfl 1 [.int .i64 x] (Src.ofSlice _ Try.underlying24 ⟨w5.heap.size, 0, none⟩ 1 1 [.int .i64 x] rfl (cell_one_new _ _ _) (fun x hx => by simp at hx; subst hx; rfl)) (by have h1 := HKK.out; have h2 := HK1.out; omega) (fun j hj => by
          simp at hj; subst hj
          rw [show 0 + K1 + 0 = K1 by omega, (H5.out.1.alloc _).cellAt K1 (by have h1 := HKK.out; have h2 := HK1.out; omega)]
          rw [List.getElem?_eq_getElem (by rw [vals_len, HL.out]; have h1 := HKK.out; have h2 := HK1.out; omega)]; rfl) (fun j hj => by
          simp at hj; subst hj
          rw [show 0 + K1 + 0 = K1 by omega]; exact (H5.out.1.alloc _).frozenAt K1) ?_)
        have hst5 := (H5.out.1.alloc (.cells #[.int .i64 x] 3)).stored K1 (.int .i64 x)
        have e5 : (vals st).set K1 (.int .i64 x) = vals (st.take K1 ++ [x]) := by
          have hl := HL.out; have h1 := HKK.out; have h2 := HK1.out
          unfold vals
          rw [← List.map_set]
          congr 1
          rw [List.set_eq_take_append_cons_drop, if_pos (by omega), List.drop_of_length_le (by omega)]
        rw [e5] at hst5
        obtain ⟨w6, hw6⟩ : ∃ w6, (w5.alloc (.cells #[.int .i64 x] 3)).setCell ⟨g, K1, none⟩ (.int .i64 x) = w6 := ⟨_, rfl⟩
        rw [hw6] at hst5
        have hcc := own_room H5.out.1
        have hgB := (H5.out.1.lt g rfl).1
        have HR6 := Go.Lib.hid (And.intro hst5.1 (show Below W.heap.size W w6 from (H5.out.2.alloc H5.out.2.size (.cells #[.int .i64 x] 3)).grown hst5.2 (by have := H5.out.2.size; simp; omega) (fun k hk => by cases hk; exact hgB)))
        have hw6' : (w5.alloc (.cells #[.int .i64 x] 3)).setCells g (0 + K1) [.int .i64 x] = w6 := by rw [Nat.zero_add]; exact hw6
        have hw6'' : (w5.alloc (.cells #[.int .i64 x] 3)).setCells g K1 [.int .i64 x] = w6 := hw6
        try rw [hw6']
        try rw [hw6'']
        try rw [hw6]
        have HST6 : Hid ((st.take K1 ++ [x]).length = m) := Go.Lib.hid (by rw [List.length_append, List.length_take, HL.out]; have h1 := HKK.out; have h2 := HK1.out; simp; omega)
        have hmk2 : K1 + 1 = m := by have h1 := HKK.out; have h2 := HK1.out; omega
        have hmk3 : m ≤ k := by have h1 := HKK.out; omega
        have hkc : k ≤ c := by have h1 := HKK.out; omega
        clear hst5 hw6 hw6' hw6'' H5 e5 hgB HKK
        go_wp2_with fail
        go_roundw
        case rel => exact ⟨i + 1, m, g, c, k, st.take K1 ++ [x], acc ++ List.replicate p 79 ++ [73], s ++ (r2 ++ ({ data := #[73] } : ByteArray)), by go_num, rfl, by first | rfl | (congr 1 <;> omega), by omega, hmk3, hkc, by omega, HSZ.out, HST6.out, HT6, HR6, HM6⟩
        case measure => simp [intOf]; omega
    · have hin2 : i = n := by omega
      subst hin2
      obtain ⟨r2, hr2⟩ : ∃ r2, txt (List.replicate m 79) = r2 := ⟨_, rfl⟩
      have hm7 : m ≤ 7 := by have h1 := lsg_len K zs i (by have := HLN.out.1; omega); have h2 := HLN.out; have h3 := HM.out.2; rw [← h3, hst] at h1; omega
      have C2 := fun W' => CR.out m hm7 W'
      rw [show (⟨(Lib.repeatL (⟨#[79]⟩ : ByteArray).data.toList m).toArray⟩ : ByteArray) = r2 by rw [← hr2]; show (⟨(Lib.repeatL [79] m).toArray⟩ : ByteArray) = _; rw [repeat_one]; rfl] at C2
      have C2 := Go.Lib.hid C2
      have hzr2 : r2.size ≤ 7 := by rw [← hr2, txt_size, List.length_replicate]; exact hm7
      have HE : Hid (s ++ r2 = txt R) := Go.Lib.hid (by
        rw [HS.out, ← hr2, txt_append, HM.out.1, ← HRR.out]
        unfold lsWord
        rw [HLN.out.1, ← HM.out.2, hst])
      have hii : ¬ (i : Int) < (i : Int) := by omega
      clear hr2 hst
      go_wp2_with fail
      refine (C2.out _).mono ?_
      rintro e w5 ⟨rfl, hb5⟩
      have H5 := Go.Lib.hid (HX.out.2.trans (hb5.mono HX.out.2.size))
      clear hb5
      go_wp2_with fail
      go_ret
      exact ⟨by rw [HE.out]; rfl, H5.out⟩

end Go.Proofs.Ytnhhnffolmgceaa.LimWIC
