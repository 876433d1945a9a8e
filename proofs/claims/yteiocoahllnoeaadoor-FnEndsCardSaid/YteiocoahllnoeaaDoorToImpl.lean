/-
  Contract: the program finds the word that leads from an order to another. Conditions: as the model's.
-/
import Derived.Test.YteiocoahllnoeaaDoorTo
namespace Go.Proofs.YteiocoahllnoeaaDoor.ToImplC
open Go.RowKit SeesC IntsC ExactC NumC IterC OrdMath WordMath InC OrderC WordC RunC ToC

set_option maxRecDepth 100000 in
set_option maxHeartbeats 4000000 in
theorem implTo_main (zs ts : List Int) (hox : Ord zs) (hoy : Ord ts) (hlen : zs.length = ts.length) (W : World) (v : Value) (n : Nat) (hv : Sees W v n (vals zs)) (u : Value) (hu : Sees W u n (vals ts)) :
    Calls Tryd.prog 28 #[v, u] W fun e w' => e = .returned (.tuple #[.string (optAns (toRes zs ts)).1, .bool (optAns (toRes zs ts)).2]) ∧ Below W.heap.size W w' := by
  obtain ⟨i0, hi, hz0, hz1, hz2⟩ := info_parts infoI
  obtain ⟨j0, hj, hy0, hy1, hy2⟩ := info_parts infoB
  have hl : zs.length = n := by simpa using hv.1
  have hlt : ts.length = n := by omega
  have hn1 : 1 ≤ n := by have := hox.1; omega
  have hn7 : n ≤ 7 := by have := hox.2.1; omega
  have CO := Go.Lib.hid (implOrder_any W v n zs true hv (by omega) (by unfold isOrd; exact decide_eq_true hox))
  have CP := Go.Lib.hid (fun W' (hs' : Sees W' u n (vals ts)) => implOrder_any W' u n ts true hs' (by omega) (by unfold isOrd; exact decide_eq_true hoy))
  have HU := Go.Lib.hid hu
  obtain ⟨b, o, cap, rfl, _, _, hbl, hcell⟩ := sees_cells hv (by omega)
  obtain ⟨b2, o2, cap2, rfl, _, _, hbl2, hcell2⟩ := sees_cells hu (by omega)
  have HC := Go.Lib.hid hcell
  have HC2 := Go.Lib.hid hcell2
  have HM0 := Go.Lib.hid (mid_start zs ts hlen)
  obtain ⟨R, hR⟩ : ∃ R, toRes zs ts = R := ⟨_, rfl⟩
  rw [hR] at HM0 ⊢
  clear hv hu hcell hcell2 hR
  have h2n : (2 : Int) * (n : Int) = ((2 * n : Nat) : Int) := by simp
  obtain ⟨nn, hnn⟩ : ∃ nn, 2 * n = nn := ⟨_, rfl⟩
  have hnn14 : nn ≤ 14 := by omega
  rw [hnn] at h2n
  clear hnn
  go_enter Tryd.func28, Tryd.ntmps28
  go_wp2_with fail
  refine CO.out.mono ?_
  rintro e wa ⟨rfl, hda⟩
  go_wp2_with fail
  refine (CP.out _ (HU.out.grow hda)).mono ?_
  rintro e wb ⟨rfl, hdb⟩
  have hbb := hda.trans (hdb.mono hda.size)
  clear hda hdb
  go_wp2_with (first
    | (at_make; refine wpList_make_own _ rfl _ _ 24 rfl W.heap.size 3 i0 (.int .i64 0) 1 Tryd.underlying24 hi hz0 hz1 .i64 .i64 _ n rfl rfl rfl (by rw [hz2]; omega) (by unfold maxLen; omega) hbb.size ?_; intro wc hownc hgrowc; have hbc : Below W.heap.size W wc := hbb.grown hgrowc hbb.size (fun k hk => by cases hk))
    | (at_make; refine wpList_make_own _ rfl _ _ 22 rfl W.heap.size 5 j0 (.int .u8 0) 1 Tryd.underlying22 hj hy0 hy1 .i64 .i64 _ nn rfl rfl rfl (by rw [hy2]; omega) (by unfold maxLen; omega) hbc.size ?_; intro wd hownd hgrowd))
  have hne0 : wb.heap.size < wc.heap.size := (hownc.lt _ rfl).2
  have hbd : Below W.heap.size W wd := hbc.grown hgrowd hbc.size (fun k hk => by cases hk)
  have hownc2 := hownc.kept (row := none) hgrowd (.inr (by simp [Value.ownBlock]))
  obtain ⟨ga, hga⟩ : ∃ ga, wb.heap.size = ga := ⟨_, rfl⟩
  obtain ⟨gb, hgb⟩ : ∃ gb, wc.heap.size = gb := ⟨_, rfl⟩
  rw [hga] at hownc2 hne0
  rw [hgb] at hownd hne0
  have H0 := Go.Lib.hid (And.intro hownc2 (And.intro hownd (And.intro (Nat.ne_of_lt hne0) hbd)))
  have HGA := Go.Lib.hid (And.intro hga hgb)
  clear hgrowd hgrowc hownc hownc2 hownd hbd hbc hne0 hbb hga hgb
  go_wp2_with fail
  go_loopw [6, 7, 8, 35] (fun sv gv xv iv wr => ∃ (i x ns na g1 c1 g2 c2 : Nat) (st : List Int) (acc : List UInt8), iv = .int .i64 i ∧ xv = .int .i64 x ∧ sv = .slice (some ⟨g1, 0, none⟩) ns c1 ∧ gv = .slice (some ⟨g2, 0, none⟩) na c2 ∧ i ≤ n ∧ x ≤ 7 ∧ ns ≤ 7 ∧ na ≤ 14 ∧ st.length = ns ∧ acc.length = na ∧ wr.ownsRow W.heap.size 3 1 (.slice (some ⟨g1, 0, none⟩) ns c1) ns (vals st) ∧ wr.ownsRow W.heap.size 5 1 (.slice (some ⟨g2, 0, none⟩) na c2) na (bvals acc) ∧ g1 ≠ g2 ∧ Below W.heap.size W wr ∧ Hid (Mid zs ts R i st x acc)) (fun _ _ _ i _ => n - (intOf i).toNat)
  case atStart => exact ⟨0, 0, 0, 0, ga, n, gb, nn, [], [], rfl, rfl, by first | rfl | rw [← HGA.out.1], by first | rfl | rw [← HGA.out.2], Nat.zero_le _, by omega, by omega, by omega, rfl, rfl, H0.out.1, H0.out.2.1, H0.out.2.2.1, H0.out.2.2.2, HM0⟩
  case round =>
    obtain ⟨i, x, ns, na, g1, c1, g2, c2, st, acc, rfl, rfl, rfl, rfl, hin, hx7, hns7, hna14, hst, hna, hown1, hown2, hg12, hb, HMID⟩ := hrel
    by_cases hlt2 : i < n
    · have hti := (hb.cell (p := ⟨b2, o2 + i, none⟩) hbl2).trans (HC2.out i (by omega))
      obtain ⟨tt, htt⟩ : ∃ tt, ts.getD i 0 = tt := ⟨_, rfl⟩
      rw [htt] at hti
      have HT := Go.Lib.hid htt
      have hini : (i : Int) < (n : Int) := by omega
      clear htt
      go_wp2_with fail
      go_loopw [6, 7, 8] (fun sv gv xv w2 => ∃ (x ns na g1 c1 g2 c2 : Nat) (st : List Int) (acc : List UInt8), xv = .int .i64 x ∧ sv = .slice (some ⟨g1, 0, none⟩) ns c1 ∧ gv = .slice (some ⟨g2, 0, none⟩) na c2 ∧ x ≤ 7 ∧ ns ≤ 7 ∧ na ≤ 14 ∧ st.length = ns ∧ acc.length = na ∧ w2.ownsRow W.heap.size 3 1 (.slice (some ⟨g1, 0, none⟩) ns c1) ns (vals st) ∧ w2.ownsRow W.heap.size 5 1 (.slice (some ⟨g2, 0, none⟩) na c2) na (bvals acc) ∧ g1 ≠ g2 ∧ Below W.heap.size W w2 ∧ Hid (Mid zs ts R i st x acc)) (fun _ _ x _ => n - (intOf x).toNat)
      case atStart => exact ⟨x, ns, na, g1, c1, g2, c2, st, acc, rfl, rfl, rfl, hx7, hns7, hna14, hst, hna, hown1, hown2, hg12, hb, HMID⟩
      case round =>
        obtain ⟨x, ns, na, g1, c1, g2, c2, st, acc, rfl, rfl, rfl, hx7, hns7, hna14, hst, hna, hown1, hown2, hg12, hb, HMID⟩ := hrel
        have hmid := HMID.out
        have hln := hmid.2.1
        have hxle := hmid.2.2.1
        have hla := hmid.2.2.2.2
        clear hti
        have HNA := Go.Lib.hid hna
        have HSL := Go.Lib.hid hst
        by_cases hn0 : ns = 0
        · have hxn : x < n := by omega
          have hck := (hb.cell (p := ⟨b, o + x, none⟩) hbl).trans (HC.out x (by omega))
          obtain ⟨z, hz⟩ : ∃ z, zs.getD x 0 = z := ⟨_, rfl⟩
          have HZ := Go.Lib.hid hz
          rw [hz] at hck
          have hxi : (x : Int) < (n : Int) := by omega
          have hxe : ((x : Int) == (n : Int)) = false := by rw [beq_eq_false_iff_ne]; omega
          have hna13 : na ≤ 13 := by omega
          have hst0 : st = [] := List.eq_nil_of_length_eq_zero (by omega)
          have HN : Hid (Mid zs ts R i (st ++ [z]) (x + 1) (acc ++ [73])) := Go.Lib.hid (by rw [← HZ.out]; exact mid_push hmid (by omega) (by rw [hst0]; simp) (by omega))
          subst hn0
          clear hz hmid hln hla hst0 hst hna hxle
          go_wp2_with (first
            | (at_builtin
               refine wpList_append_own_at _ rfl _ _ 24 rfl W.heap.size 3 i0 (.int .i64 0) 1 8 Tryd.underlying24 hi hz0 hz1 hz2 rfl (by decide) (.slice (some ⟨g1, 0, none⟩) 0 c1) 0 (vals st) rfl (hown1.alloc _) ⟨wr.heap.size, 0, none⟩ 1 1 [.int .i64 z] rfl rfl (cell_one_new _ _ _) (fun x hx => by simp at hx; subst hx; rfl) (by unfold maxLen; omega) (by omega) (by have := hb.size; simp; omega) ?_
               intro av aw aown agrow anil arow
               obtain ⟨g1', c1', rfl⟩ := ownsRow_succ aown
               have e1 : vals st ++ [Value.int .i64 z] = vals (st ++ [z]) := by simp
               rw [e1] at aown
               have hb1 : Below W.heap.size W aw := (hb.alloc hb.size _).grown agrow (by have := hb.size; simp; omega) (fun q hq => (hown1.lt q hq).1)
               have hown2a := own_mark (hown2.alloc (.cells #[.int .i64 z] 3)) agrow (fun a ha e => by simp only [Value.ownBlock, Option.some.injEq] at ha e; omega)
               have hg12a : g1' ≠ g2 := by
                 have h1 := (hown2.lt g2 rfl).2
                 rcases arow with h2 | h2
                 · simp [Value.ownBlock] at h2; omega
                 · simp [Value.ownBlock] at h2; omega)
            | (at_builtin; refine wpList_append_own_at _ rfl _ _ 22 rfl W.heap.size 5 j0 (.int .u8 0) 1 1 Tryd.underlying22 hj hy0 hy1 hy2 rfl (by decide) (.slice (some ⟨g2, 0, none⟩) na c2) na (bvals acc) rfl (hown2a.alloc _) ⟨aw.heap.size, 0, none⟩ 1 1 [.int .u8 73] rfl rfl (cell_one_new _ _ _) (fun x hx => by simp at hx; subst hx; rfl) (by unfold maxLen; omega) (by omega) (by have := hb1.size; simp; omega) ?_; intro bv bw bown bgrow bnil brow))
          obtain ⟨g2', c2', rfl⟩ := ownsRow_succ bown
          have e1 : bvals acc ++ [Value.int .u8 73] = bvals (acc ++ [73]) := by simp
          rw [e1] at bown
          have hb2 : Below W.heap.size W bw := (hb1.alloc hb1.size _).grown bgrow (by have := hb1.size; simp; omega) (fun q hq => (hown2a.lt q hq).1)
          have hown1b := own_mark (aown.alloc (.cells #[.int .u8 73] 5)) bgrow (fun a ha e => by simp only [Value.ownBlock, Option.some.injEq] at ha e; omega)
          have hg12b : g1' ≠ g2' := by
            have h1 := (aown.lt g1' rfl).2
            rcases brow with h2 | h2
            · simp [Value.ownBlock] at h2; omega
            · simp [Value.ownBlock] at h2; omega
          have H3 := Go.Lib.hid (And.intro hown1b (And.intro bown (And.intro hg12b hb2)))
          clear bgrow bnil brow agrow anil arow hown1 hown2 hb aown hown2a hb1 hown1b bown hg12b hb2 e1 hg12a
          go_wp2
          go_roundw
          case rel => exact ⟨x + 1, 0 + 1, na + 1, g1', c1', g2', c2', st ++ [z], acc ++ [73], by go_num, rfl, rfl, by omega, by omega, by omega, by rw [List.length_append, HSL.out]; rfl, by rw [List.length_append, HNA.out]; rfl, H3.out.1, H3.out.2.1, H3.out.2.2.1, H3.out.2.2.2, HN⟩
          case measure => simp [intOf]; omega
        · obtain ⟨la, p, hlap, hlast, hdrop⟩ := split_last (l := st) (by omega)
          have hgl : st.getLast? = some p := by rw [hlap]; simp
          obtain ⟨m, rfl⟩ : ∃ m, ns = m + 1 := ⟨ns - 1, by omega⟩
          have hckp : wr.cell? ⟨g1, m, none⟩ = some (.int .i64 p) := by
            rw [hown1.cellAt m (by omega), hlap]
            have : la.length = m := by rw [hlap] at hst; simp at hst; omega
            simp [← this]
          have hm7 : m ≤ 6 := by omega
          have hz1' : (((m + 1 : Nat) : Int) == 0) = false := by rw [beq_eq_false_iff_ne]; omega
          have hz2' : ((m : Int) + 1 == 0) = false := by rw [beq_eq_false_iff_ne]; omega
          by_cases hpt : p = tt
          · have hna13 : na ≤ 13 := by omega
            subst hpt
            have HN : Hid (Mid zs ts R (i + 1) la x (acc ++ [79])) := Go.Lib.hid (by rw [← hdrop]; exact mid_pop hmid (by omega) (by rw [hgl, HT.out]))
            have hpop : wr.ownsRow W.heap.size 3 1 (.slice (some ⟨g1, 0, none⟩) m c1) m (vals la) := ownsRow_pop (last := [.int .i64 p]) (by have := hst; rw [hlap] at this; simp at this; simp; omega) (by rw [hlap] at hown1; simpa using hown1)
            have hmc : m + 1 ≤ c1 := by
              rcases hown1.2 with ⟨h0, _⟩ | ⟨g', cap', cur, h0, _, _, h1, _⟩
              · cases h0
              · cases h0; exact h1
            have HLA : Hid (la.length = m) := Go.Lib.hid (by have := hst; rw [hlap] at this; simp at this; omega)
            clear hmid hln hla hst hlap hlast hdrop hgl hown1 hna hxle
            go_wp2_with (at_builtin; refine wpList_append_own_at _ rfl _ _ 22 rfl W.heap.size 5 j0 (.int .u8 0) 1 1 Tryd.underlying22 hj hy0 hy1 hy2 rfl (by decide) (.slice (some ⟨g2, 0, none⟩) na c2) na (bvals acc) rfl (hown2.alloc _) ⟨wr.heap.size, 0, none⟩ 1 1 [.int .u8 79] rfl rfl (cell_one_new _ _ _) (fun x hx => by simp at hx; subst hx; rfl) (by unfold maxLen; omega) (by omega) (by have := hb.size; simp; omega) ?_; intro bv bw bown bgrow bnil brow)
            obtain ⟨g2', c2', rfl⟩ := ownsRow_succ bown
            have e1 : bvals acc ++ [Value.int .u8 79] = bvals (acc ++ [79]) := by simp
            rw [e1] at bown
            have hb2 : Below W.heap.size W bw := (hb.alloc hb.size _).grown bgrow (by have := hb.size; simp; omega) (fun q hq => (hown2.lt q hq).1)
            have hown1b := own_mark (hpop.alloc (.cells #[.int .u8 79] 5)) bgrow (fun a ha e => by simp only [Value.ownBlock, Option.some.injEq] at ha e; omega)
            have hg12b : g1 ≠ g2' := by
              have h1 := (hpop.lt g1 rfl).2
              rcases brow with h2 | h2
              · simp [Value.ownBlock] at h2; omega
              · simp [Value.ownBlock] at h2; omega
            have H3 := Go.Lib.hid (And.intro hown1b (And.intro bown (And.intro hg12b hb2)))
            clear bgrow bnil brow hpop hown2 hb hown1b bown hg12b hb2 e1
            go_wp2
            go_roundw
            case rel => exact ⟨i + 1, x, m, na + 1, g1, c1, g2', c2', la, acc ++ [79], by go_num, rfl, rfl, rfl, by omega, hx7, by omega, by omega, HLA.out, by rw [List.length_append, HNA.out]; rfl, H3.out.1, H3.out.2.1, H3.out.2.2.1, H3.out.2.2.2, HN⟩
            case measure => simp [intOf]; omega
          · have hpt2 : (p == tt) = false := by rw [beq_eq_false_iff_ne]; exact hpt
            have hne : st.getLast? ≠ some (ts.getD i 0) := by rw [hgl, HT.out]; intro e; exact hpt (by cases e; rfl)
            by_cases hxn : x < n
            · have hck := (hb.cell (p := ⟨b, o + x, none⟩) hbl).trans (HC.out x (by omega))
              obtain ⟨z, hz⟩ : ∃ z, zs.getD x 0 = z := ⟨_, rfl⟩
              have HZ := Go.Lib.hid hz
              rw [hz] at hck
              have hxi : (x : Int) < (n : Int) := by omega
              have hxe : ((x : Int) == (n : Int)) = false := by rw [beq_eq_false_iff_ne]; omega
              have hna13 : na ≤ 13 := by omega
              have hm5 : m ≤ 5 := by omega
              have HN : Hid (Mid zs ts R i (st ++ [z]) (x + 1) (acc ++ [73])) := Go.Lib.hid (by rw [← HZ.out]; exact mid_push hmid (by omega) hne (by omega))
              clear hz hmid hln hla hst hlap hlast hdrop hgl hna hne hxle
              go_wp2_with (first
                | (at_builtin
                   refine wpList_append_own_at _ rfl _ _ 24 rfl W.heap.size 3 i0 (.int .i64 0) 1 8 Tryd.underlying24 hi hz0 hz1 hz2 rfl (by decide) (.slice (some ⟨g1, 0, none⟩) (m + 1) c1) (m + 1) (vals st) rfl (hown1.alloc _) ⟨wr.heap.size, 0, none⟩ 1 1 [.int .i64 z] rfl rfl (cell_one_new _ _ _) (fun x hx => by simp at hx; subst hx; rfl) (by unfold maxLen; omega) (by omega) (by have := hb.size; simp; omega) ?_
                   intro av aw aown agrow anil arow
                   obtain ⟨g1', c1', rfl⟩ := ownsRow_succ aown
                   have e1 : vals st ++ [Value.int .i64 z] = vals (st ++ [z]) := by simp
                   rw [e1] at aown
                   have hb1 : Below W.heap.size W aw := (hb.alloc hb.size _).grown agrow (by have := hb.size; simp; omega) (fun q hq => (hown1.lt q hq).1)
                   have hown2a := own_mark (hown2.alloc (.cells #[.int .i64 z] 3)) agrow (fun a ha e => by simp only [Value.ownBlock, Option.some.injEq] at ha e; omega)
                   have hg12a : g1' ≠ g2 := by
                     have h1 := (hown2.lt g2 rfl).2
                     rcases arow with h2 | h2
                     · simp [Value.ownBlock] at h2; omega
                     · simp [Value.ownBlock] at h2; omega)
                | (at_builtin; refine wpList_append_own_at _ rfl _ _ 22 rfl W.heap.size 5 j0 (.int .u8 0) 1 1 Tryd.underlying22 hj hy0 hy1 hy2 rfl (by decide) (.slice (some ⟨g2, 0, none⟩) na c2) na (bvals acc) rfl (hown2a.alloc _) ⟨aw.heap.size, 0, none⟩ 1 1 [.int .u8 73] rfl rfl (cell_one_new _ _ _) (fun x hx => by simp at hx; subst hx; rfl) (by unfold maxLen; omega) (by omega) (by have := hb1.size; simp; omega) ?_; intro bv bw bown bgrow bnil brow))
              obtain ⟨g2', c2', rfl⟩ := ownsRow_succ bown
              have e1 : bvals acc ++ [Value.int .u8 73] = bvals (acc ++ [73]) := by simp
              rw [e1] at bown
              have hb2 : Below W.heap.size W bw := (hb1.alloc hb1.size _).grown bgrow (by have := hb1.size; simp; omega) (fun q hq => (hown2a.lt q hq).1)
              have hown1b := own_mark (aown.alloc (.cells #[.int .u8 73] 5)) bgrow (fun a ha e => by simp only [Value.ownBlock, Option.some.injEq] at ha e; omega)
              have hg12b : g1' ≠ g2' := by
                have h1 := (aown.lt g1' rfl).2
                rcases brow with h2 | h2
                · simp [Value.ownBlock] at h2; omega
                · simp [Value.ownBlock] at h2; omega
              have H3 := Go.Lib.hid (And.intro hown1b (And.intro bown (And.intro hg12b hb2)))
              clear bgrow bnil brow agrow anil arow hown1 hown2 hb aown hown2a hb1 hown1b bown hg12b hb2 e1 hg12a
              go_wp2
              go_roundw
              case rel => exact ⟨x + 1, (m + 1) + 1, na + 1, g1', c1', g2', c2', st ++ [z], acc ++ [73], by go_num, rfl, rfl, by omega, by omega, by omega, by rw [List.length_append, HSL.out]; rfl, by rw [List.length_append, HNA.out]; rfl, H3.out.1, H3.out.2.1, H3.out.2.2.1, H3.out.2.2.2, HN⟩
              case measure => simp [intOf]; omega
            · have hxe : x = n := by omega
              have HF : Hid (R = none) := Go.Lib.hid (mid_fail hmid (by omega) hne (by omega))
              have HSS : Hid (ByteArray.empty = (optAns R).1 ∧ false = (optAns R).2) := Go.Lib.hid (by rw [HF.out]; exact ⟨rfl, rfl⟩)
              have HB := Go.Lib.hid hb
              subst hxe
              clear hmid hln hla hst hlap hlast hdrop hgl hna hne hown1 hown2 hb hxle
              go_wp2
              go_ret2
              exact ⟨by rw [← HSS.out.1, ← HSS.out.2]; rfl, HB.out⟩
    · have HE : Hid (R = some acc) := Go.Lib.hid (mid_end HMID.out (by omega))
      have HB := Go.Lib.hid hb
      have hconv := own_text hown2
      obtain ⟨tx, htx⟩ : ∃ tx, txt acc = tx := ⟨_, rfl⟩
      rw [htx] at hconv
      have HSS : Hid (tx = (optAns R).1 ∧ true = (optAns R).2) := Go.Lib.hid (by rw [HE.out]; exact ⟨htx.symm, rfl⟩)
      clear hown1 hown2 hb htx
      go_wp2
      go_ret2
      exact ⟨by rw [← HSS.out.1, ← HSS.out.2]; rfl, HB.out⟩

end Go.Proofs.YteiocoahllnoeaaDoor.ToImplC
