/-
  Contracts and plain facts that the laws' texts lean on. Conditions: as each states.
-/
import Derived.Test.YtpkjnlabjmpokabDoorPx29
import Derived.Test.YtpkjnlabjmpokabDoorPx33
import Derived.ScopeJumps
import Derived.Test.YtpkjnlabjmpokabDoorPx23
import Derived.Test.YtpkjnlabjmpokabDoorPx2

section
namespace Go.Proofs.YtpkjnlabjmpokabDoor.EToIC
open Go.RowKit SeesC IntsC ExactC NumC IterC OrdMath WordMath InC OrderC WordC RunC ToC EndM BigC OpSC EToC

theorem wp_scope_back {P : Program} {a : Act} {w : World} {Q : Exit → Act → World → Prop} {rest : Code} (l : Nat) (J : Act → World → Prop) (μ : Act → World → Nat) (start : J a w)
    (pass : ∀ (K : Exit → Act → World → Prop) (a : Act) (w : World), J a w → Hid ((∀ a' w', J a' w' → μ a' w' < μ a w → K (.goto l) a' w') ∧ (∀ a' w', Q .normal a' w' → K .normal a' w') ∧ (∀ a' w', Q .ret a' w' → K .ret a' w')) → rest.wp P K a w) : (Code.scope (.seq (.label l) rest)).wp P Q a w :=
  have pass' : ∀ a w, J a w → rest.wp P (Exit.jump l (fun a' w' => J a' w' ∧ μ a' w' < μ a w) Q) a w := fun a w h => pass _ a w h (Go.Lib.hid ⟨fun _ _ hj hm => ⟨rfl, hj, hm⟩, fun _ _ h => h, fun _ _ h => h⟩)
  wp_scope_jumps l J μ (rest := .seq .skip rest) (by simp [findLabel]) (wp_seq (wp_label (Code.wp_mono (fun e a w h => by cases e <;> first | exact h | exact ⟨h.1, h.2.1⟩) (pass' a w start)))) (fun a w h => wp_seq (wp_skip (pass' a w h)))

theorem top_iff {d : List Int} {t : Int} (ht : t ≠ 0) : top d = t ↔ d.getLast? = some t := by
  unfold top
  cases h : d.getLast? with
  | none => simp; exact fun e => ht e.symm
  | some y => simp
theorem bot_iff {d : List Int} {t : Int} (ht : t ≠ 0) : bot d = t ↔ d.head? = some t := by
  unfold bot
  cases h : d.head? with
  | none => simp; exact fun e => ht e.symm
  | some y => simp

set_option maxRecDepth 100000 in
set_option maxHeartbeats 4000000 in
theorem implETo_main (zs ts : List Int) (hox : Ord zs) (hoy : Ord ts) (hlen : zs.length = ts.length) (W : World) (v : Value) (n : Nat) (hv : Sees W v n (vals zs)) (u : Value) (hu : Sees W u n (vals ts)) :
    Calls Tryd.prog 28 #[v, u] W fun e w' => e = .returned (.tuple #[.string (optAns (eRes zs ts)).1, .bool (optAns (eRes zs ts)).2]) ∧ Below W.heap.size W w' := by
  obtain ⟨j0, hj, hy0, hy1, hy2⟩ := info_parts infoB
  have hl : zs.length = n := by simpa using hv.1
  have hlt : ts.length = n := by omega
  have hn1 : 1 ≤ n := by have := hox.1; omega
  have hn7 : n ≤ 7 := by have := hox.2.1; omega
  have CO := Go.Lib.hid (implOrder_any W v n zs true hv (by omega) (by unfold isOrd; exact decide_eq_true hox))
  have CP := Go.Lib.hid (fun W' (hs' : Sees W' u n (vals ts)) => implOrder_any W' u n ts true hs' (by omega) (by unfold isOrd; exact decide_eq_true hoy))
  have HU := Go.Lib.hid hu
  obtain ⟨b, o, cap, rfl, _, _, hbl, hcell⟩ := sees_cells hv (by omega)
  obtain ⟨b2, o2, cap2, rfl, _, _, hbl2, hcell2⟩ := sees_cells hu (by omega)
  have HC := Go.Lib.hid hcell
  have HC2 := Go.Lib.hid hcell2
  have HM0 := Go.Lib.hid (midE_start zs ts hlen)
  obtain ⟨R, hR⟩ : ∃ R, eRes zs ts = R := ⟨_, rfl⟩
  rw [hR] at HM0 ⊢
  have hpos := Go.Lib.hid (fun i (hi : i < n) => hoy.getD (k := i) (by omega))
  clear hv hu hcell hcell2 hR
  have h2n : (2 : Int) * (n : Int) = ((2 * n : Nat) : Int) := by simp
  obtain ⟨nn, hnn⟩ : ∃ nn, 2 * n = nn := ⟨_, rfl⟩
  have hnn14 : nn ≤ 14 := by omega
  rw [hnn] at h2n
  clear hnn
  go_enter Tryd.func28, Tryd.ntmps28
  go_wp2_with fail
  refine CO.out.mono ?_
  rintro e wa ⟨rfl, hda⟩
  go_wp2_with fail
  refine (CP.out _ (HU.out.grow hda)).mono ?_
  rintro e wb ⟨rfl, hdb⟩
  have hbb := hda.trans (hdb.mono hda.size)
  clear hda hdb
  go_upto_region 4 with (at_make; refine wpList_make_own _ rfl _ _ 22 rfl W.heap.size 5 j0 (.int .u8 0) 1 Tryd.underlying22 hj hy0 hy1 .i64 .i64 _ nn rfl rfl rfl (by rw [hy2]; omega) (by unfold maxLen; omega) hbb.size ?_; intro wd hownd hgrowd)
  have hbd : Below W.heap.size W wd := hbb.grown hgrowd hbb.size (fun k hk => by cases hk)
  obtain ⟨gb, hgb⟩ : ∃ gb, wb.heap.size = gb := ⟨_, rfl⟩
  rw [hgb] at hownd ⊢
  have HO0 := Go.Lib.hid (open0 W.heap.size wd hbd.size)
  have HD0 := Go.Lib.hid (And.intro (hownd.alloc (.cells zcellsO.toArray 65)) (hbd.alloc hbd.size (.cells zcellsO.toArray 65)))
  obtain ⟨a, ha⟩ : ∃ a, wd.heap.size = a := ⟨_, rfl⟩
  have HA := Go.Lib.hid ha
  clear hgrowd hownd hbd hgb hbb
  go_upto_region 6 with (first
    | (refine wpList_alloc_agg rfl _ rfl zcellsO.toArray 9 infoO ?_)
    | (refine wpList_build_is rfl _ rfl zcellsO.toArray builtO ?_)
    | (refine wpList_store_new rfl _ _ _ rfl _ zcellsO.toArray zcellsO.toArray rfl rfl rfl sizeO rfl oneO ?_))
  obtain ⟨w0, hw0⟩ : ∃ w0, wd.alloc (.cells zcellsO.toArray 65) = w0 := ⟨_, rfl⟩
  rw [hw0] at HO0 HD0 ⊢
  rw [ha] at HO0
  clear hw0 ha HA
  go_loopw [6, 8, 34] (fun gv xv iv wr => ∃ (i x na g2 c2 : Nat) (st : List Int) (acc : List UInt8), iv = .int .i64 i ∧ xv = .int .i64 x ∧ gv = .slice (some ⟨g2, 0, none⟩) na c2 ∧ i ≤ n ∧ x ≤ 7 ∧ na ≤ 14 ∧ Hid (acc.length = na ∧ StE 5 W a st x (.slice (some ⟨g2, 0, none⟩) na c2) na (bvals acc) wr) ∧ Hid (MidE zs ts R i st x acc)) (fun _ _ i _ => n - (intOf i).toNat)
  case atStart => exact ⟨0, 0, 0, gb, nn, [], [], rfl, rfl, rfl, Nat.zero_le _, by omega, by omega, Go.Lib.hid ⟨rfl, HO0.out, HD0.out⟩, HM0⟩
  case round =>
    obtain ⟨i, x, na, g2, c2, st, acc, rfl, rfl, rfl, hin, hx7, hna14, HX, HMID⟩ := hrel
    clear HO0 HD0
    by_cases hlt2 : i < n
    · have hti := (HX.out.2.2.2.cell (p := ⟨b2, o2 + i, none⟩) hbl2).trans (HC2.out i (by omega))
      obtain ⟨tt, htt⟩ : ∃ tt, ts.getD i 0 = tt := ⟨_, rfl⟩
      obtain ⟨k0, hk0, _⟩ := hpos.out i hlt2
      rw [htt] at hti hk0
      have htt0 : tt ≠ 0 := by omega
      have HT := Go.Lib.hid (And.intro htt htt0)
      have hini : (i : Int) < (n : Int) := by omega
      clear htt hk0 htt0
      go_upto_region 8 with fail
      obtain ⟨JJ, hJJ⟩ : ∃ JJ : Act → World → Prop, JJ = (fun a' w' => ∃ (x na g2 c2 : Nat) (st : List Int) (acc : List UInt8) (u11 u38 u39 u40 u41 u42 u43 u44 u45 u46 u47 u48 u49 u50 u51 u52 u53 u54 u55 u56 u57 u58 u59 u60 u61 u62 u63 u64 u65 u66 u67 u68 u69 u70 u71 : Value), a' = { tmps := #[.slice (some ⟨b, o, none⟩) n cap, .slice (some ⟨b2, o2, none⟩) n cap2, undef, undef, u4, u5, .slice (some ⟨g2, 0, none⟩) na c2, .pointer (some ⟨a, 0, none⟩), .int .i64 (x : Int), undef, .int .i64 tt, u11, .slice (some ⟨b, o, none⟩) n cap, .bool true, .bool false, .bool false, .slice (some ⟨b2, o2, none⟩) n cap2, .bool true, .bool false, .bool false, .bool false, .slice (some ⟨b, o, none⟩) n cap, .int .i64 (n : Int), .slice (some ⟨b2, o2, none⟩) n cap2, .int .i64 (n : Int), .bool false, .bool false, .slice (some ⟨b, o, none⟩) n cap, .int .i64 (n : Int), .int .i64 (nn : Int), .slice (some ⟨gb, 0, none⟩) 0 nn, .agg zcellsO.toArray, .slice (some ⟨b2, o2, none⟩) n cap2, .int .i64 (n : Int), .int .i64 (i : Int), .bool true, .pointer (some ⟨b2, o2 + i, none⟩), .int .i64 tt, u38, u39, u40, u41, u42, u43, u44, u45, u46, u47, u48, u49, u50, u51, u52, u53, u54, u55, u56, u57, u58, u59, u60, u61, u62, u63, u64, u65, u66, u67, u68, u69, u70, u71, u72, undef, undef], defers := [] } ∧ x ≤ 7 ∧ na ≤ 14 ∧ Hid (acc.length = na ∧ StE 5 W a st x (.slice (some ⟨g2, 0, none⟩) na c2) na (bvals acc) w') ∧ Hid (MidE zs ts R i st x acc)) := ⟨_, rfl⟩
      have HJ := Go.Lib.hid hJJ
      refine wp_scope_back 0 JJ (fun a' _ => n - (intOf (a'.tmps.getD 8 undef)).toNat) (by rw [hJJ]; exact ⟨x, na, g2, c2, st, acc, u11, u38, u39, u40, u41, u42, u43, u44, u45, u46, u47, u48, u49, u50, u51, u52, u53, u54, u55, u56, u57, u58, u59, u60, u61, u62, u63, u64, u65, u66, u67, u68, u69, u70, u71, rfl, hx7, hna14, HX, HMID⟩) ?_
      clear hJJ hti HX HMID hx7 hna14
      intro KK a' wr hj HK
      rw [HJ.out] at hj
      obtain ⟨x, na, g2, c2, st, acc, u11, u38, u39, u40, u41, u42, u43, u44, u45, u46, u47, u48, u49, u50, u51, u52, u53, u54, u55, u56, u57, u58, u59, u60, u61, u62, u63, u64, u65, u66, u67, u68, u69, u70, u71, rfl, hx7, hna14, HX, HMID⟩ := hj
      have CE := Go.Lib.hid (ends_any W.heap.size a st x wr HX.out.2.1 hx7)
      obtain ⟨x0, hx0⟩ : ∃ x0, bot st = x0 := ⟨_, rfl⟩
      obtain ⟨x1, hx1⟩ : ∃ x1, top st = x1 := ⟨_, rfl⟩
      rw [hx0, hx1] at CE
      have HE := Go.Lib.hid (And.intro hx0 hx1)
      clear hx0 hx1
      go_wp2_with fail
      refine CE.out.mono ?_
      rintro e w1 ⟨rfl, hb1⟩
      have hN := arr2_alloc w1 (.int .i64 x0) (.int .i64 x1)
      have hbN : Below wr.heap.size wr (w1.alloc (.cells #[.int .i64 x0, .int .i64 x1] 69)) := hb1.alloc hb1.size _
      clear CE hb1
      go_upto_region 10 with (refine wpList_alloc_agg rfl _ rfl #[.int .i64 0, .int .i64 0] 2 infoA ?_)
      obtain ⟨w2, hw2⟩ : ∃ w2, w1.alloc (.cells #[.int .i64 x0, .int .i64 x1] 69) = w2 := ⟨_, rfl⟩
      rw [hw2] at hN hbN ⊢
      obtain ⟨g5, hg5⟩ : ∃ g5, w1.heap.size = g5 := ⟨_, rfl⟩
      rw [hg5] at hN ⊢
      clear hw2 hg5
      obtain ⟨k0, k1, _, _⟩ := arr2_cells hN
      have HS := Go.Lib.hid (HX.out.2.call hbN)
      have HN := Go.Lib.hid HX.out.1
      clear hN hbN HX
      by_cases h1 : x1 = tt
      · have hgl : st.getLast? = some tt := (top_iff HT.out.2).1 (by rw [HE.out.2]; exact h1)
        have HM : Hid (MidE zs ts R (i + 1) st.dropLast x (acc ++ [84])) := Go.Lib.hid (midE_top HMID.out (by omega) (by rw [HT.out.1]; exact hgl))
        have hx1t : (x1 == tt) = true := by rw [beq_iff_eq]; exact h1
        have HH1 := Go.Lib.hid h1
        clear h1
        have hna13 : na ≤ 13 := by have := HMID.out.2.2.2.2; have := HN.out; omega
        have hne : st ≠ [] := by intro e; rw [e] at hgl; simp at hgl
        have CP := Go.Lib.hid (fun (X : World) (hX : OpenAt W.heap.size a st x X) => pop_top W.heap.size a st x X hX hx7 hne)
        clear hgl hne HE
        go_wp2_with (at_builtin; refine wpList_append_own_at _ rfl _ _ 22 rfl W.heap.size 5 j0 (.int .u8 0) 1 1 Tryd.underlying22 hj hy0 hy1 hy2 rfl (by decide) (.slice (some ⟨g2, 0, none⟩) na c2) na (bvals acc) rfl (World.ownsRow.alloc HS.out.2.1 _) ⟨w2.heap.size, 0, none⟩ 1 1 [.int .u8 84] rfl rfl (cell_one_new _ _ _) (fun x hx => by simp at hx; subst hx; rfl) (by unfold maxLen; omega) (by omega) (by have := HS.out.2.2.size; simp; omega) ?_; intro bv bw bown bgrow bnil brow)
        obtain ⟨g6, c6, rfl⟩ := ownsRow_succ bown
        have e1 : bvals acc ++ [Value.int .u8 84] = bvals (acc ++ [84]) := by simp
        rw [e1] at bown
        have HS2 : Hid (StE 5 W a st x (.slice (some ⟨g6, 0, none⟩) (na + 1) c6) (na + 1) (bvals (acc ++ [84])) bw) := Go.Lib.hid (HS.out.app (by decide) bown bgrow)
        clear bown bgrow bnil brow e1
        refine (CP.out _ HS2.out.1).mono ?_
        rintro e w4 ⟨rfl, ho4, hg4⟩
        have HS3 := Go.Lib.hid (HS2.out.moved (by decide) ho4 hg4)
        clear ho4 hg4 CP HS2 HS
        go_wp2_with fail
        refine HK.out.2.1 _ _ ?_
        clear HK HJ
        go_wp2_with fail
        go_roundw
        case rel => exact ⟨i + 1, x, na + 1, g6, c6, st.dropLast, acc ++ [84], by go_num, rfl, rfl, by omega, hx7, by omega, Go.Lib.hid ⟨by rw [List.length_append, HN.out]; rfl, HS3.out⟩, HM⟩
        case measure => simp [intOf]; omega
      · have hx1t : (x1 == tt) = false := by rw [beq_eq_false_iff_ne]; exact h1
        have HL : Hid (st.getLast? ≠ some tt) := Go.Lib.hid (fun e => h1 (by rw [← HE.out.2]; exact (top_iff HT.out.2).2 e))
        have HH1 := Go.Lib.hid h1
        clear h1
        by_cases h0 : x0 = tt
        · have hgl : st.head? = some tt := (bot_iff HT.out.2).1 (by rw [HE.out.1]; exact h0)
          have HM : Hid (MidE zs ts R (i + 1) st.tail x (acc ++ [66])) := Go.Lib.hid (midE_bot HMID.out (by omega) (by rw [HT.out.1]; exact HL.out) (by rw [HT.out.1]; exact hgl))
          have hx0t : (x0 == tt) = true := by rw [beq_iff_eq]; exact h0
          have HH0 := Go.Lib.hid h0
          clear h0
          have hna13 : na ≤ 13 := by have := HMID.out.2.2.2.2; have := HN.out; omega
          have hne : st ≠ [] := by intro e; rw [e] at hgl; simp at hgl
          have CP := Go.Lib.hid (fun (X : World) (hX : OpenAt W.heap.size a st x X) => pop_bottom W.heap.size a st x X hX hx7 hne)
          clear hgl hne HE
          go_wp2_with (at_builtin; refine wpList_append_own_at _ rfl _ _ 22 rfl W.heap.size 5 j0 (.int .u8 0) 1 1 Tryd.underlying22 hj hy0 hy1 hy2 rfl (by decide) (.slice (some ⟨g2, 0, none⟩) na c2) na (bvals acc) rfl (World.ownsRow.alloc HS.out.2.1 _) ⟨w2.heap.size, 0, none⟩ 1 1 [.int .u8 66] rfl rfl (cell_one_new _ _ _) (fun x hx => by simp at hx; subst hx; rfl) (by unfold maxLen; omega) (by omega) (by have := HS.out.2.2.size; simp; omega) ?_; intro bv bw bown bgrow bnil brow)
          obtain ⟨g6, c6, rfl⟩ := ownsRow_succ bown
          have e1 : bvals acc ++ [Value.int .u8 66] = bvals (acc ++ [66]) := by simp
          rw [e1] at bown
          have HS2 : Hid (StE 5 W a st x (.slice (some ⟨g6, 0, none⟩) (na + 1) c6) (na + 1) (bvals (acc ++ [66])) bw) := Go.Lib.hid (HS.out.app (by decide) bown bgrow)
          clear bown bgrow bnil brow e1
          refine (CP.out _ HS2.out.1).mono ?_
          rintro e w4 ⟨rfl, ho4, hg4⟩
          have HS3 := Go.Lib.hid (HS2.out.moved (by decide) ho4 hg4)
          clear ho4 hg4 CP HS2 HS
          go_wp2_with fail
          refine HK.out.2.1 _ _ ?_
          clear HK HJ
          go_wp2_with fail
          go_roundw
          case rel => exact ⟨i + 1, x, na + 1, g6, c6, st.tail, acc ++ [66], by go_num, rfl, rfl, by omega, hx7, by omega, Go.Lib.hid ⟨by rw [List.length_append, HN.out]; rfl, HS3.out⟩, HM⟩
          case measure => simp [intOf]; omega
        · have hx0t : (x0 == tt) = false := by rw [beq_eq_false_iff_ne]; exact h0
          have HL0 : Hid (st.head? ≠ some tt) := Go.Lib.hid (fun e => h0 (by rw [← HE.out.1]; exact (bot_iff HT.out.2).2 e))
          have HH0 := Go.Lib.hid h0
          clear h0
          by_cases hxn : x < n
          · have hck0 := HC.out x (by omega)
            obtain ⟨z, hz⟩ : ∃ z, zs.getD x 0 = z := ⟨_, rfl⟩
            rw [hz] at hck0
            have HCK := Go.Lib.hid hck0
            have hxi : (x : Int) < (n : Int) := by omega
            have hna13 : na ≤ 13 := by have := HMID.out.2.2.2.2; have := HN.out; omega
            have HM : Hid (MidE zs ts R i (st ++ [z]) (x + 1) (acc ++ [73])) := Go.Lib.hid (by rw [← hz]; exact midE_push HMID.out (by omega) (by rw [HT.out.1]; exact HL.out) (by rw [HT.out.1]; exact HL0.out) (by omega))
            have CP := Go.Lib.hid (fun (X : World) (hX : OpenAt W.heap.size a st x X) => push_any W.heap.size a st x X hX (by omega) z)
            clear hz hck0 HE
            go_wp2_with (at_builtin; refine wpList_append_own_at _ rfl _ _ 22 rfl W.heap.size 5 j0 (.int .u8 0) 1 1 Tryd.underlying22 hj hy0 hy1 hy2 rfl (by decide) (.slice (some ⟨g2, 0, none⟩) na c2) na (bvals acc) rfl (World.ownsRow.alloc HS.out.2.1 _) ⟨w2.heap.size, 0, none⟩ 1 1 [.int .u8 73] rfl rfl (cell_one_new _ _ _) (fun x hx => by simp at hx; subst hx; rfl) (by unfold maxLen; omega) (by omega) (by have := HS.out.2.2.size; simp; omega) ?_; intro bv bw bown bgrow bnil brow; have hckb : bw.cell? ⟨b, o + x, none⟩ = some (.int .i64 z) := ((HS.out.app (xs' := bvals acc ++ [Value.int .u8 73]) (by decide) bown bgrow).2.2.cell (p := ⟨b, o + x, none⟩) hbl).trans HCK.out)
            obtain ⟨g6, c6, rfl⟩ := ownsRow_succ bown
            have e1 : bvals acc ++ [Value.int .u8 73] = bvals (acc ++ [73]) := by simp
            rw [e1] at bown
            have HS2 : Hid (StE 5 W a st x (.slice (some ⟨g6, 0, none⟩) (na + 1) c6) (na + 1) (bvals (acc ++ [73])) bw) := Go.Lib.hid (HS.out.app (by decide) bown bgrow)
            clear bown bgrow bnil brow e1
            refine (CP.out _ HS2.out.1).mono ?_
            rintro e w4 ⟨rfl, ho4, hg4⟩
            have HS3 := Go.Lib.hid (HS2.out.moved (by decide) ho4 hg4)
            clear ho4 hg4 CP HS2 HS hckb
            go_wp2_with fail
            refine wp_goto ?_
            show KK (.goto 0) _ _
            refine HK.out.1 _ _ ?_ ?_
            · rw [HJ.out]
              exact ⟨x + 1, na + 1, g6, c6, st ++ [z], acc ++ [73], _, _, _, _, _, _, _, _, _, _, _, _, _, _, _, _, _, _, _, _, _, _, _, _, _, _, _, _, _, _, _, _, _, _, _, by go_num, by omega, by omega, Go.Lib.hid ⟨by rw [List.length_append, HN.out]; rfl, HS3.out⟩, HM⟩
            · simp [intOf]; omega
          · have hxn2 : ¬ (x : Int) < (n : Int) := by omega
            have HF : Hid (R = none) := Go.Lib.hid (midE_fail HMID.out (by omega) (by rw [HT.out.1]; exact HL.out) (by rw [HT.out.1]; exact HL0.out) (by omega))
            have HSS : Hid (ByteArray.empty = (optAns R).1 ∧ false = (optAns R).2) := Go.Lib.hid (by rw [HF.out]; exact ⟨rfl, rfl⟩)
            clear HE
            go_wp2_with fail
            refine HK.out.2.2 _ _ ?_
            go_wp2
            go_ret2
            exact ⟨by rw [← HSS.out.1, ← HSS.out.2]; rfl, HS.out.2.2⟩
    · have HE : Hid (R = some acc) := Go.Lib.hid (midE_end HMID.out (by omega))
      have HB := Go.Lib.hid HX.out.2.2.2
      have hconv := own_text HX.out.2.2.1
      obtain ⟨tx, htx⟩ : ∃ tx, txt acc = tx := ⟨_, rfl⟩
      rw [htx] at hconv
      have HSS : Hid (tx = (optAns R).1 ∧ true = (optAns R).2) := Go.Lib.hid (by rw [HE.out]; exact ⟨htx.symm, rfl⟩)
      have hini : ¬ (i : Int) < (n : Int) := by omega
      clear htx
      go_wp2
      go_ret2
      exact ⟨by rw [← HSS.out.1, ← HSS.out.2]; rfl, HB.out⟩

end Go.Proofs.YtpkjnlabjmpokabDoor.EToIC

end

section
namespace Go.Proofs.YtpkjnlabjmpokabDoor.EToPC
open Go.RowKit SeesC IntsC ExactC NumC IterC OrdMath WordMath InC OrderC WordC RunC ToC EndM EToC EToIC

set_option maxRecDepth 100000 in
set_option maxHeartbeats 1000000 in
theorem implETo (xs ys : List Int) (r' : ByteArray) (b : Bool) (h : endsAns xs ys = (r', b)) (hx : xs.length ≤ 1048576) (hy : ys.length ≤ 1048576) (W : World) (v : Value) (n : Nat) (hv : Sees W v n (vals xs)) (u : Value) (m : Nat) (hu : Sees W u m (vals ys)) :
    Calls Tryd.prog 28 #[v, u] W fun e w' => e = .returned (.tuple #[.string r', .bool b]) ∧ Below W.heap.size W w' := by
  have hn : n ≤ 1048576 := by have := hv.1; simp at this; omega
  have hm : m ≤ 1048576 := by have := hu.1; simp at this; omega
  obtain ⟨r, hr⟩ : ∃ r, isOrd xs = r := ⟨_, rfl⟩
  obtain ⟨s, hs⟩ : ∃ s, isOrd ys = s := ⟨_, rfl⟩
  have CO := Go.Lib.hid (fun W' (hs' : Sees W' v n (vals xs)) => implOrder_any W' v n xs r hs' hn hr)
  have CP := Go.Lib.hid (fun W' (hs' : Sees W' u m (vals ys)) => implOrder_any W' u m ys s hs' hm hs)
  have HV := Go.Lib.hid hv
  have HU := Go.Lib.hid hu
  have hl : xs.length = n := by simpa using hv.1
  have hl' : ys.length = m := by simpa using hu.1
  unfold endsAns at h
  obtain ⟨_, ad, cap, rfl, _, _⟩ := hv
  obtain ⟨_, ad', cap', rfl, _, _⟩ := hu
  cases r with
  | false =>
    rw [if_neg (by rintro ⟨h1, _⟩; unfold isOrd at hr; exact of_decide_eq_false hr h1)] at h
    cases h
    clear hr hs
    go_enter Tryd.func28, Tryd.ntmps28
    go_wp2_with fail
    refine (CO.out _ HV.out).mono ?_
    rintro e w1 ⟨rfl, hd⟩
    have HB1 : Hid (Below W.heap.size W w1) := Go.Lib.hid hd
    clear hd
    go_wp2_with fail
    go_ret2
    exact ⟨rfl, HB1.out⟩
  | true =>
    cases s with
    | false =>
      rw [if_neg (by rintro ⟨_, h1, _⟩; unfold isOrd at hs; exact of_decide_eq_false hs h1)] at h
      cases h
      clear hr hs
      go_enter Tryd.func28, Tryd.ntmps28
      go_wp2_with fail
      refine (CO.out _ HV.out).mono ?_
      rintro e w1 ⟨rfl, hd⟩
      have HB1 : Hid (Below W.heap.size W w1) := Go.Lib.hid hd
      clear hd
      go_wp2_with fail
      refine (CP.out _ (HU.out.grow HB1.out)).mono ?_
      rintro e w2 ⟨rfl, hd⟩
      have HB2 : Hid (Below W.heap.size W w2) := Go.Lib.hid (HB1.out.trans (hd.mono HB1.out.size))
      clear hd
      go_wp2_with fail
      go_ret2
      exact ⟨rfl, HB2.out⟩
    | true =>
      have hox : Ord xs := by unfold isOrd at hr; exact of_decide_eq_true hr
      have hoy : Ord ys := by unfold isOrd at hs; exact of_decide_eq_true hs
      clear hr hs
      by_cases hnm : n = m
      · subst hnm
        rw [if_pos ⟨hox, hoy, by omega⟩] at h
        have HA1 : Hid ((optAns (eRes xs ys)).1 = r' ∧ (optAns (eRes xs ys)).2 = b) := Go.Lib.hid (by rw [h]; exact ⟨rfl, rfl⟩)
        have CT := implETo_main xs ys hox hoy (by omega) W _ n HV.out _ HU.out
        rw [HA1.out.1, HA1.out.2] at CT
        exact CT
      · rw [if_neg (by rintro ⟨_, _, h1⟩; omega)] at h
        cases h
        have hne : ((n : Int) == (m : Int)) = false := by rw [beq_eq_false_iff_ne]; omega
        have hne2 : (n : Int) ≠ (m : Int) := by omega
        go_enter Tryd.func28, Tryd.ntmps28
        go_wp2_with fail
        refine (CO.out _ HV.out).mono ?_
        rintro e w1 ⟨rfl, hd⟩
        have HB1 : Hid (Below W.heap.size W w1) := Go.Lib.hid hd
        clear hd
        go_wp2_with fail
        refine (CP.out _ (HU.out.grow HB1.out)).mono ?_
        rintro e w2 ⟨rfl, hd⟩
        have HB2 : Hid (Below W.heap.size W w2) := Go.Lib.hid (HB1.out.trans (hd.mono HB1.out.size))
        clear hd
        go_wp2_with fail
        go_ret2
        exact ⟨rfl, HB2.out⟩

end Go.Proofs.YtpkjnlabjmpokabDoor.EToPC

end

section
namespace Go.Proofs.YtpkjnlabjmpokabDoor.ECanC
open Go.RowKit SeesC IntsC ExactC NumC IterC OrdMath OrdFacts WordMath InC OrderC WordC RunC ToC EndM EToC EToPC AtC SortedOrdC

def canAns (zs : List Int) : Bool × Bool := if Ord zs then ((optAns (eRes zs (iota zs.length))).2, true) else (false, false)

theorem ord_iota {n : Nat} (h1 : 1 ≤ n) (h7 : n ≤ 7) : Ord (iota n) := ord_of_perm (List.Perm.refl _) h1 h7

set_option maxRecDepth 100000 in
set_option maxHeartbeats 1000000 in
theorem specECan (zs : List Int) (r b : Bool) (h : canAns zs = (r, b)) (hz : zs.length ≤ 1048576) (W : World) (v : Value) (n : Nat) (hv : Sees W v n (vals zs)) :
    Calls Tryd.prog 19 #[v] W fun e w' => e = .returned (.tuple #[.bool r, .bool b]) ∧ Below W.heap.size W w' := by
  have hl : zs.length = n := by simpa using hv.1
  have hn : n ≤ 1048576 := by omega
  obtain ⟨q, hq⟩ : ∃ q, isOrd zs = q := ⟨_, rfl⟩
  have CO := Go.Lib.hid (fun W' (hs' : Sees W' v n (vals zs)) => l2Order_any W' v n zs q hs' hn hq)
  have HV := Go.Lib.hid hv
  unfold canAns at h
  obtain ⟨_, ad, cap, rfl, _, _⟩ := hv
  cases q with
  | false =>
    rw [if_neg (by intro h1; unfold isOrd at hq; exact of_decide_eq_false hq h1)] at h
    cases h
    clear hq
    go_enter Tryd.func19, Tryd.ntmps19
    go_wp2_with fail
    refine (CO.out _ HV.out).mono ?_
    rintro e w1 ⟨rfl, hd⟩
    have HB1 : Hid (Below W.heap.size W w1) := Go.Lib.hid (hd.below W.heap.size)
    clear hd
    go_wp2_with fail
    go_ret2
    exact ⟨rfl, HB1.out⟩
  | true =>
    have hox : Ord zs := by unfold isOrd at hq; exact of_decide_eq_true hq
    have hn7 : n ≤ 7 := by have := hox.2.1; omega
    have hn1 : 1 ≤ n := by have := hox.1; omega
    rw [if_pos hox, hl] at h
    obtain ⟨h1, h2⟩ := Prod.mk.inj h
    subst h2
    have hoi := ord_iota hn1 hn7
    have CS := Go.Lib.hid (fun W' => l2Sorted_any n W' hn7)
    have CT := Go.Lib.hid (fun W' (h1 : Sees W' (.slice ad n cap) n (vals zs)) (u : Value) (h2 : Sees W' u n (vals (iota n))) => l8To_any zs (iota n) hox (by rw [hl, iota_len]) W' _ n h1 u h2)
    rw [h1] at CT
    clear hq h h1 hoi hox
    go_enter Tryd.func19, Tryd.ntmps19
    go_wp2_with fail
    refine (CO.out _ HV.out).mono ?_
    rintro e w1 ⟨rfl, hd⟩
    have HB1 : Hid (Below W.heap.size W w1) := Go.Lib.hid (hd.below W.heap.size)
    clear hd
    go_wp2_with fail
    refine (CS.out _).mono ?_
    rintro e w2 ⟨g, c, rfl, ho, hb⟩
    have H2 := Go.Lib.hid (And.intro ho (HB1.out.trans (hb.mono HB1.out.size)))
    clear ho hb
    go_wp2_with fail
    refine (CT.out _ (HV.out.grow H2.out.2) _ (Sees.owns H2.out.1)).mono ?_
    rintro e w3 ⟨rfl, hb⟩
    have HB3 := Go.Lib.hid (H2.out.2.trans (hb.mono H2.out.2.size))
    clear hb
    go_wp2_with fail
    go_ret2
    exact ⟨rfl, HB3.out⟩

set_option maxRecDepth 100000 in
set_option maxHeartbeats 1000000 in
theorem implECan (zs : List Int) (r b : Bool) (h : canAns zs = (r, b)) (hz : zs.length ≤ 1048576) (W : World) (v : Value) (n : Nat) (hv : Sees W v n (vals zs)) :
    Calls Tryd.prog 18 #[v] W fun e w' => e = .returned (.tuple #[.bool r, .bool b]) ∧ Below W.heap.size W w' := by
  have hl : zs.length = n := by simpa using hv.1
  have hn : n ≤ 1048576 := by omega
  obtain ⟨q, hq⟩ : ∃ q, isOrd zs = q := ⟨_, rfl⟩
  have CO := Go.Lib.hid (fun W' (hs' : Sees W' v n (vals zs)) => implOrder_any W' v n zs q hs' hn hq)
  have HV := Go.Lib.hid hv
  unfold canAns at h
  obtain ⟨_, ad, cap, rfl, _, _⟩ := hv
  cases q with
  | false =>
    rw [if_neg (by intro h1; unfold isOrd at hq; exact of_decide_eq_false hq h1)] at h
    cases h
    clear hq
    go_enter Tryd.func18, Tryd.ntmps18
    go_wp2_with fail
    refine (CO.out _ HV.out).mono ?_
    rintro e w1 ⟨rfl, hd⟩
    have HB1 : Hid (Below W.heap.size W w1) := Go.Lib.hid hd
    clear hd
    go_wp2_with fail
    go_ret2
    exact ⟨rfl, HB1.out⟩
  | true =>
    have hox : Ord zs := by unfold isOrd at hq; exact of_decide_eq_true hq
    have hn7 : n ≤ 7 := by have := hox.2.1; omega
    have hn1 : 1 ≤ n := by have := hox.1; omega
    rw [if_pos hox, hl] at h
    obtain ⟨h1, h2⟩ := Prod.mk.inj h
    subst h2
    have hoi := ord_iota hn1 hn7
    have CS := Go.Lib.hid (fun W' => sortedOrder_any n W' hn7)
    have CT := Go.Lib.hid (fun W' (h1 : Sees W' (.slice ad n cap) n (vals zs)) (u : Value) (h2 : Sees W' u n (vals (iota n))) => implETo zs (iota n) (optAns (eRes zs (iota n))).1 (optAns (eRes zs (iota n))).2 (by unfold endsAns; rw [if_pos ⟨hox, hoi, by rw [hl, iota_len]⟩]) hz (by rw [iota_len]; omega) W' _ n h1 u n h2)
    rw [h1] at CT
    clear hq h h1 hoi hox
    go_enter Tryd.func18, Tryd.ntmps18
    go_wp2_with fail
    refine (CO.out _ HV.out).mono ?_
    rintro e w1 ⟨rfl, hd⟩
    have HB1 : Hid (Below W.heap.size W w1) := Go.Lib.hid hd
    clear hd
    go_wp2_with fail
    refine (CS.out _).mono ?_
    rintro e w2 ⟨g, c, rfl, ho, hb⟩
    have H2 := Go.Lib.hid (And.intro ho (HB1.out.trans (hb.mono HB1.out.size)))
    clear ho hb
    go_wp2_with fail
    refine (CT.out _ (HV.out.grow H2.out.2) _ (Sees.owns H2.out.1)).mono ?_
    rintro e w3 ⟨rfl, hb⟩
    have HB3 := Go.Lib.hid (H2.out.2.trans (hb.mono H2.out.2.size))
    clear hb
    go_wp2_with fail
    go_ret2
    exact ⟨rfl, HB3.out⟩

end Go.Proofs.YtpkjnlabjmpokabDoor.ECanC

end
