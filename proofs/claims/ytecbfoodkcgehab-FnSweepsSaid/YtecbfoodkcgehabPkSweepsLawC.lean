/-
  Contracts and plain facts that the law's text leans on, part 3 of 4. Conditions: as each states.
-/
import Derived.Test.YtecbfoodkcgehabPkSweepsLawB
import Derived.Shelf.SlMaps.DeleteFunc
import Derived.Shelf.Lay
import Derived.Ground.SlmdProg
import Derived.Shelf.SlSortCmp.Whole1
import Derived.Ground.SlsfProg
import Derived.Test.YtecbfoodkcgehabProg
import Derived.WalkKit
import Derived.IntWalk
import Derived.BigQuiet
import Derived.Test.YtecbfoodkcgehabSees
import Derived.Lib.Hide
import Derived.LoopTactic
import Derived.OwnWalk
import Derived.Laws.OwnMore
import Derived.Maps.AppendAt
import Derived.Outline
import Derived.RangeFuncBox
import Derived.Test.YtecbfoodkcgehabOrder
import Derived.Test.YtecbfoodkcgehabNum
import Derived.Test.YtecbfoodkcgehabIter
import Derived.Lib.OthersKept
import Derived.WalkSmall
import Derived.Deep.QuietTactic
import Derived.Maps.RangeWalk
import Derived.Test.YtecbfoodkcgehabStep

/-
  Contract: the program finds the word that leads from an order to another. Conditions: as the model's.
-/
namespace Go.Proofs.Ytecbfoodkcgehab.ToImplC
open Go.RowKit SeesC IntsC ExactC NumC IterC OrdMath WordMath InC OrderC WordC RunC ToC

set_option maxRecDepth 100000 in
set_option maxHeartbeats 4000000 in
theorem implTo_main (zs ts : List Int) (hox : Ord zs) (hoy : Ord ts) (hlen : zs.length = ts.length) (W : World) (v : Value) (n : Nat) (hv : Sees W v n (vals zs)) (u : Value) (hu : Sees W u n (vals ts)) :
    Calls Try.prog 193 #[v, u] W fun e w' => e = .returned (.tuple #[.string (optAns (toRes zs ts)).1, .bool (optAns (toRes zs ts)).2]) ∧ Below W.heap.size W w' := by
  obtain ⟨i0, hi, hz0, hz1, hz2⟩ := info_parts infoI
  obtain ⟨j0, hj, hy0, hy1, hy2⟩ := info_parts infoB
  have hl : zs.length = n := by simpa using hv.1
  have hlt : ts.length = n := by omega
  have hn1 : 1 ≤ n := by have := hox.1; omega
  have hn7 : n ≤ 7 := by have := hox.2.1; omega
  have CO := Go.Lib.hid (implOrder_any W v n zs true hv (by omega) (by unfold isOrd; exact decide_eq_true hox))
  have CP := Go.Lib.hid (fun W' (hs' : Sees W' u n (vals ts)) => implOrder_any W' u n ts true hs' (by omega) (by unfold isOrd; exact decide_eq_true hoy))
  have HU := Go.Lib.hid hu
  obtain ⟨b, o, cap, rfl, _, _, hbl, hcell⟩ := sees_cells hv (by omega)
  obtain ⟨b2, o2, cap2, rfl, _, _, hbl2, hcell2⟩ := sees_cells hu (by omega)
  have HC := Go.Lib.hid hcell
  have HC2 := Go.Lib.hid hcell2
  have HM0 := Go.Lib.hid (mid_start zs ts hlen)
  obtain ⟨R, hR⟩ : ∃ R, toRes zs ts = R := ⟨_, rfl⟩
  rw [hR] at HM0 ⊢
  clear hv hu hcell hcell2 hR
  have h2n : (2 : Int) * (n : Int) = ((2 * n : Nat) : Int) := by simp
  obtain ⟨nn, hnn⟩ : ∃ nn, 2 * n = nn := ⟨_, rfl⟩
  have hnn14 : nn ≤ 14 := by omega
  rw [hnn] at h2n
  clear hnn
  go_enter Try.func193, Try.ntmps193
  go_wp2_with fail
  refine CO.out.mono ?_
  rintro e wa ⟨rfl, hda⟩
  go_wp2_with fail
  refine (CP.out _ (HU.out.grow hda)).mono ?_
  rintro e wb ⟨rfl, hdb⟩
  have hbb := hda.trans (hdb.mono hda.size)
  clear hda hdb
  go_wp2_with (first
    | (at_make; refine wpList_make_own _ rfl _ _ 29 rfl W.heap.size 3 i0 (.int .i64 0) 1 Try.underlying29 hi hz0 hz1 .i64 .i64 _ n rfl rfl rfl (by rw [hz2]; omega) (by unfold maxLen; omega) hbb.size ?_; intro wc hownc hgrowc; have hbc : Below W.heap.size W wc := hbb.grown hgrowc hbb.size (fun k hk => by cases hk))
    | (at_make; refine wpList_make_own _ rfl _ _ 22 rfl W.heap.size 5 j0 (.int .u8 0) 1 Try.underlying22 hj hy0 hy1 .i64 .i64 _ nn rfl rfl rfl (by rw [hy2]; omega) (by unfold maxLen; omega) hbc.size ?_; intro wd hownd hgrowd))
  have hne0 : wb.heap.size < wc.heap.size := (hownc.lt _ rfl).2
  have hbd : Below W.heap.size W wd := hbc.grown hgrowd hbc.size (fun k hk => by cases hk)
  have hownc2 := hownc.kept (row := none) hgrowd (.inr (by simp [Value.ownBlock]))
  obtain ⟨ga, hga⟩ : ∃ ga, wb.heap.size = ga := ⟨_, rfl⟩
  obtain ⟨gb, hgb⟩ : ∃ gb, wc.heap.size = gb := ⟨_, rfl⟩
  rw [hga] at hownc2 hne0
  rw [hgb] at hownd hne0
  have H0 := Go.Lib.hid (And.intro hownc2 (And.intro hownd (And.intro (Nat.ne_of_lt hne0) hbd)))
  have HGA := Go.Lib.hid (And.intro hga hgb)
  clear hgrowd hgrowc hownc hownc2 hownd hbd hbc hne0 hbb hga hgb
  go_wp2_with fail
  go_loopw [6, 7, 8, 35] (fun sv gv xv iv wr => ∃ (i x ns na g1 c1 g2 c2 : Nat) (st : List Int) (acc : List UInt8), iv = .int .i64 i ∧ xv = .int .i64 x ∧ sv = .slice (some ⟨g1, 0, none⟩) ns c1 ∧ gv = .slice (some ⟨g2, 0, none⟩) na c2 ∧ i ≤ n ∧ x ≤ 7 ∧ ns ≤ 7 ∧ na ≤ 14 ∧ st.length = ns ∧ acc.length = na ∧ wr.ownsRow W.heap.size 3 1 (.slice (some ⟨g1, 0, none⟩) ns c1) ns (vals st) ∧ wr.ownsRow W.heap.size 5 1 (.slice (some ⟨g2, 0, none⟩) na c2) na (bvals acc) ∧ g1 ≠ g2 ∧ Below W.heap.size W wr ∧ Hid (Mid zs ts R i st x acc)) (fun _ _ _ i _ => n - (intOf i).toNat)
  case atStart => exact ⟨0, 0, 0, 0, ga, n, gb, nn, [], [], rfl, rfl, by first | rfl | rw [← HGA.out.1], by first | rfl | rw [← HGA.out.2], Nat.zero_le _, by omega, by omega, by omega, rfl, rfl, H0.out.1, H0.out.2.1, H0.out.2.2.1, H0.out.2.2.2, HM0⟩
  case round =>
    obtain ⟨i, x, ns, na, g1, c1, g2, c2, st, acc, rfl, rfl, rfl, rfl, hin, hx7, hns7, hna14, hst, hna, hown1, hown2, hg12, hb, HMID⟩ := hrel
    by_cases hlt2 : i < n
    · have hti := (hb.cell (p := ⟨b2, o2 + i, none⟩) hbl2).trans (HC2.out i (by omega))
      obtain ⟨tt, htt⟩ : ∃ tt, ts.getD i 0 = tt := ⟨_, rfl⟩
      rw [htt] at hti
      have HT := Go.Lib.hid htt
      have hini : (i : Int) < (n : Int) := by omega
      clear htt
      go_wp2_with fail
      go_loopw [6, 7, 8] (fun sv gv xv w2 => ∃ (x ns na g1 c1 g2 c2 : Nat) (st : List Int) (acc : List UInt8), xv = .int .i64 x ∧ sv = .slice (some ⟨g1, 0, none⟩) ns c1 ∧ gv = .slice (some ⟨g2, 0, none⟩) na c2 ∧ x ≤ 7 ∧ ns ≤ 7 ∧ na ≤ 14 ∧ st.length = ns ∧ acc.length = na ∧ w2.ownsRow W.heap.size 3 1 (.slice (some ⟨g1, 0, none⟩) ns c1) ns (vals st) ∧ w2.ownsRow W.heap.size 5 1 (.slice (some ⟨g2, 0, none⟩) na c2) na (bvals acc) ∧ g1 ≠ g2 ∧ Below W.heap.size W w2 ∧ Hid (Mid zs ts R i st x acc)) (fun _ _ x _ => n - (intOf x).toNat)
      case atStart => exact ⟨x, ns, na, g1, c1, g2, c2, st, acc, rfl, rfl, rfl, hx7, hns7, hna14, hst, hna, hown1, hown2, hg12, hb, HMID⟩
      case round =>
        obtain ⟨x, ns, na, g1, c1, g2, c2, st, acc, rfl, rfl, rfl, hx7, hns7, hna14, hst, hna, hown1, hown2, hg12, hb, HMID⟩ := hrel
        have hmid := HMID.out
        have hln := hmid.2.1
        have hxle := hmid.2.2.1
        have hla := hmid.2.2.2.2
        clear hti
        have HNA := Go.Lib.hid hna
        have HSL := Go.Lib.hid hst
        by_cases hn0 : ns = 0
        · have hxn : x < n := by omega
          have hck := (hb.cell (p := ⟨b, o + x, none⟩) hbl).trans (HC.out x (by omega))
          obtain ⟨z, hz⟩ : ∃ z, zs.getD x 0 = z := ⟨_, rfl⟩
          have HZ := Go.Lib.hid hz
          rw [hz] at hck
          have hxi : (x : Int) < (n : Int) := by omega
          have hxe : ((x : Int) == (n : Int)) = false := by rw [beq_eq_false_iff_ne]; omega
          have hna13 : na ≤ 13 := by omega
          have hst0 : st = [] := List.eq_nil_of_length_eq_zero (by omega)
          have HN : Hid (Mid zs ts R i (st ++ [z]) (x + 1) (acc ++ [73])) := Go.Lib.hid (by rw [← HZ.out]; exact mid_push hmid (by omega) (by rw [hst0]; simp) (by omega))
          subst hn0
          clear hz hmid hln hla hst0 hst hna hxle
          go_wp2_with (first
            | (at_builtin
               refine wpList_append_own_at _ rfl _ _ 29 rfl W.heap.size 3 i0 (.int .i64 0) 1 8 Try.underlying29 hi hz0 hz1 hz2 rfl (by decide) (.slice (some ⟨g1, 0, none⟩) 0 c1) 0 (vals st) rfl (hown1.alloc _) ⟨wr.heap.size, 0, none⟩ 1 1 [.int .i64 z] rfl rfl (cell_one_new _ _ _) (fun x hx => by simp at hx; subst hx; rfl) (by unfold maxLen; omega) (by omega) (by have := hb.size; simp; omega) ?_
               intro av aw aown agrow anil arow
               obtain ⟨g1', c1', rfl⟩ := ownsRow_succ aown
               have e1 : vals st ++ [Value.int .i64 z] = vals (st ++ [z]) := by simp
               rw [e1] at aown
               have hb1 : Below W.heap.size W aw := (hb.alloc hb.size _).grown agrow (by have := hb.size; simp; omega) (fun q hq => (hown1.lt q hq).1)
               have hown2a := own_mark (hown2.alloc (.cells #[.int .i64 z] 3)) agrow (fun a ha e => by simp only [Value.ownBlock, Option.some.injEq] at ha e; omega)
               have hg12a : g1' ≠ g2 := by
                 have h1 := (hown2.lt g2 rfl).2
                 rcases arow with h2 | h2
                 · simp [Value.ownBlock] at h2; omega
                 · simp [Value.ownBlock] at h2; omega)
            | (at_builtin; refine wpList_append_own_at _ rfl _ _ 22 rfl W.heap.size 5 j0 (.int .u8 0) 1 1 Try.underlying22 hj hy0 hy1 hy2 rfl (by decide) (.slice (some ⟨g2, 0, none⟩) na c2) na (bvals acc) rfl (hown2a.alloc _) ⟨aw.heap.size, 0, none⟩ 1 1 [.int .u8 73] rfl rfl (cell_one_new _ _ _) (fun x hx => by simp at hx; subst hx; rfl) (by unfold maxLen; omega) (by omega) (by have := hb1.size; simp; omega) ?_; intro bv bw bown bgrow bnil brow))
          obtain ⟨g2', c2', rfl⟩ := ownsRow_succ bown
          have e1 : bvals acc ++ [Value.int .u8 73] = bvals (acc ++ [73]) := by simp
          rw [e1] at bown
          have hb2 : Below W.heap.size W bw := (hb1.alloc hb1.size _).grown bgrow (by have := hb1.size; simp; omega) (fun q hq => (hown2a.lt q hq).1)
          have hown1b := own_mark (aown.alloc (.cells #[.int .u8 73] 5)) bgrow (fun a ha e => by simp only [Value.ownBlock, Option.some.injEq] at ha e; omega)
          have hg12b : g1' ≠ g2' := by
            have h1 := (aown.lt g1' rfl).2
            rcases brow with h2 | h2
            · simp [Value.ownBlock] at h2; omega
            · simp [Value.ownBlock] at h2; omega
          have H3 := Go.Lib.hid (And.intro hown1b (And.intro bown (And.intro hg12b hb2)))
          clear bgrow bnil brow agrow anil arow hown1 hown2 hb aown hown2a hb1 hown1b bown hg12b hb2 e1 hg12a
          go_wp2
          go_roundw
          case rel => exact ⟨x + 1, 0 + 1, na + 1, g1', c1', g2', c2', st ++ [z], acc ++ [73], by go_num, rfl, rfl, by omega, by omega, by omega, by rw [List.length_append, HSL.out]; rfl, by rw [List.length_append, HNA.out]; rfl, H3.out.1, H3.out.2.1, H3.out.2.2.1, H3.out.2.2.2, HN⟩
          case measure => simp [intOf]; omega
        · obtain ⟨la, p, hlap, hlast, hdrop⟩ := split_last (l := st) (by omega)
          have hgl : st.getLast? = some p := by rw [hlap]; simp
          obtain ⟨m, rfl⟩ : ∃ m, ns = m + 1 := ⟨ns - 1, by omega⟩
          have hckp : wr.cell? ⟨g1, m, none⟩ = some (.int .i64 p) := by
            rw [hown1.cellAt m (by omega), hlap]
            have : la.length = m := by rw [hlap] at hst; simp at hst; omega
            simp [← this]
          have hm7 : m ≤ 6 := by omega
          have hz1' : (((m + 1 : Nat) : Int) == 0) = false := by rw [beq_eq_false_iff_ne]; omega
          have hz2' : ((m : Int) + 1 == 0) = false := by rw [beq_eq_false_iff_ne]; omega
          by_cases hpt : p = tt
          · have hna13 : na ≤ 13 := by omega
            subst hpt
            have HN : Hid (Mid zs ts R (i + 1) la x (acc ++ [79])) := Go.Lib.hid (by rw [← hdrop]; exact mid_pop hmid (by omega) (by rw [hgl, HT.out]))
            have hpop : wr.ownsRow W.heap.size 3 1 (.slice (some ⟨g1, 0, none⟩) m c1) m (vals la) := ownsRow_pop (last := [.int .i64 p]) (by have := hst; rw [hlap] at this; simp at this; simp; omega) (by rw [hlap] at hown1; simpa using hown1)
            have hmc : m + 1 ≤ c1 := by
              rcases hown1.2 with ⟨h0, _⟩ | ⟨g', cap', cur, h0, _, _, h1, _⟩
              · cases h0
              · cases h0; exact h1
            have HLA : Hid (la.length = m) := Go.Lib.hid (by have := hst; rw [hlap] at this; simp at this; omega)
            clear hmid hln hla hst hlap hlast hdrop hgl hown1 hna hxle
            go_wp2_with (at_builtin; refine wpList_append_own_at _ rfl _ _ 22 rfl W.heap.size 5 j0 (.int .u8 0) 1 1 Try.underlying22 hj hy0 hy1 hy2 rfl (by decide) (.slice (some ⟨g2, 0, none⟩) na c2) na (bvals acc) rfl (hown2.alloc _) ⟨wr.heap.size, 0, none⟩ 1 1 [.int .u8 79] rfl rfl (cell_one_new _ _ _) (fun x hx => by simp at hx; subst hx; rfl) (by unfold maxLen; omega) (by omega) (by have := hb.size; simp; omega) ?_; intro bv bw bown bgrow bnil brow)
            obtain ⟨g2', c2', rfl⟩ := ownsRow_succ bown
            have e1 : bvals acc ++ [Value.int .u8 79] = bvals (acc ++ [79]) := by simp
            rw [e1] at bown
            have hb2 : Below W.heap.size W bw := (hb.alloc hb.size _).grown bgrow (by have := hb.size; simp; omega) (fun q hq => (hown2.lt q hq).1)
            have hown1b := own_mark (hpop.alloc (.cells #[.int .u8 79] 5)) bgrow (fun a ha e => by simp only [Value.ownBlock, Option.some.injEq] at ha e; omega)
            have hg12b : g1 ≠ g2' := by
              have h1 := (hpop.lt g1 rfl).2
              rcases brow with h2 | h2
              · simp [Value.ownBlock] at h2; omega
              · simp [Value.ownBlock] at h2; omega
            have H3 := Go.Lib.hid (And.intro hown1b (And.intro bown (And.intro hg12b hb2)))
            clear bgrow bnil brow hpop hown2 hb hown1b bown hg12b hb2 e1
            go_wp2
            go_roundw
            case rel => exact ⟨i + 1, x, m, na + 1, g1, c1, g2', c2', la, acc ++ [79], by go_num, rfl, rfl, rfl, by omega, hx7, by omega, by omega, HLA.out, by rw [List.length_append, HNA.out]; rfl, H3.out.1, H3.out.2.1, H3.out.2.2.1, H3.out.2.2.2, HN⟩
            case measure => simp [intOf]; omega
          · have hpt2 : (p == tt) = false := by rw [beq_eq_false_iff_ne]; exact hpt
            have hne : st.getLast? ≠ some (ts.getD i 0) := by rw [hgl, HT.out]; intro e; exact hpt (by cases e; rfl)
            by_cases hxn : x < n
            · have hck := (hb.cell (p := ⟨b, o + x, none⟩) hbl).trans (HC.out x (by omega))
              obtain ⟨z, hz⟩ : ∃ z, zs.getD x 0 = z := ⟨_, rfl⟩
              have HZ := Go.Lib.hid hz
              rw [hz] at hck
              have hxi : (x : Int) < (n : Int) := by omega
              have hxe : ((x : Int) == (n : Int)) = false := by rw [beq_eq_false_iff_ne]; omega
              have hna13 : na ≤ 13 := by omega
              have hm5 : m ≤ 5 := by omega
              have HN : Hid (Mid zs ts R i (st ++ [z]) (x + 1) (acc ++ [73])) := Go.Lib.hid (by rw [← HZ.out]; exact mid_push hmid (by omega) hne (by omega))
              clear hz hmid hln hla hst hlap hlast hdrop hgl hna hne hxle
              go_wp2_with (first
                | (at_builtin
                   refine wpList_append_own_at _ rfl _ _ 29 rfl W.heap.size 3 i0 (.int .i64 0) 1 8 Try.underlying29 hi hz0 hz1 hz2 rfl (by decide) (.slice (some ⟨g1, 0, none⟩) (m + 1) c1) (m + 1) (vals st) rfl (hown1.alloc _) ⟨wr.heap.size, 0, none⟩ 1 1 [.int .i64 z] rfl rfl (cell_one_new _ _ _) (fun x hx => by simp at hx; subst hx; rfl) (by unfold maxLen; omega) (by omega) (by have := hb.size; simp; omega) ?_
                   intro av aw aown agrow anil arow
                   obtain ⟨g1', c1', rfl⟩ := ownsRow_succ aown
                   have e1 : vals st ++ [Value.int .i64 z] = vals (st ++ [z]) := by simp
                   rw [e1] at aown
                   have hb1 : Below W.heap.size W aw := (hb.alloc hb.size _).grown agrow (by have := hb.size; simp; omega) (fun q hq => (hown1.lt q hq).1)
                   have hown2a := own_mark (hown2.alloc (.cells #[.int .i64 z] 3)) agrow (fun a ha e => by simp only [Value.ownBlock, Option.some.injEq] at ha e; omega)
                   have hg12a : g1' ≠ g2 := by
                     have h1 := (hown2.lt g2 rfl).2
                     rcases arow with h2 | h2
                     · simp [Value.ownBlock] at h2; omega
                     · simp [Value.ownBlock] at h2; omega)
                | (at_builtin; refine wpList_append_own_at _ rfl _ _ 22 rfl W.heap.size 5 j0 (.int .u8 0) 1 1 Try.underlying22 hj hy0 hy1 hy2 rfl (by decide) (.slice (some ⟨g2, 0, none⟩) na c2) na (bvals acc) rfl (hown2a.alloc _) ⟨aw.heap.size, 0, none⟩ 1 1 [.int .u8 73] rfl rfl (cell_one_new _ _ _) (fun x hx => by simp at hx; subst hx; rfl) (by unfold maxLen; omega) (by omega) (by have := hb1.size; simp; omega) ?_; intro bv bw bown bgrow bnil brow))
              obtain ⟨g2', c2', rfl⟩ := ownsRow_succ bown
              have e1 : bvals acc ++ [Value.int .u8 73] = bvals (acc ++ [73]) := by simp
              rw [e1] at bown
              have hb2 : Below W.heap.size W bw := (hb1.alloc hb1.size _).grown bgrow (by have := hb1.size; simp; omega) (fun q hq => (hown2a.lt q hq).1)
              have hown1b := own_mark (aown.alloc (.cells #[.int .u8 73] 5)) bgrow (fun a ha e => by simp only [Value.ownBlock, Option.some.injEq] at ha e; omega)
              have hg12b : g1' ≠ g2' := by
                have h1 := (aown.lt g1' rfl).2
                rcases brow with h2 | h2
                · simp [Value.ownBlock] at h2; omega
                · simp [Value.ownBlock] at h2; omega
              have H3 := Go.Lib.hid (And.intro hown1b (And.intro bown (And.intro hg12b hb2)))
              clear bgrow bnil brow agrow anil arow hown1 hown2 hb aown hown2a hb1 hown1b bown hg12b hb2 e1 hg12a
              go_wp2
              go_roundw
              case rel => exact ⟨x + 1, (m + 1) + 1, na + 1, g1', c1', g2', c2', st ++ [z], acc ++ [73], by go_num, rfl, rfl, by omega, by omega, by omega, by rw [List.length_append, HSL.out]; rfl, by rw [List.length_append, HNA.out]; rfl, H3.out.1, H3.out.2.1, H3.out.2.2.1, H3.out.2.2.2, HN⟩
              case measure => simp [intOf]; omega
            · have hxe : x = n := by omega
              have HF : Hid (R = none) := Go.Lib.hid (mid_fail hmid (by omega) hne (by omega))
              have HSS : Hid (ByteArray.empty = (optAns R).1 ∧ false = (optAns R).2) := Go.Lib.hid (by rw [HF.out]; exact ⟨rfl, rfl⟩)
              have HB := Go.Lib.hid hb
              subst hxe
              clear hmid hln hla hst hlap hlast hdrop hgl hna hne hown1 hown2 hb hxle
              go_wp2
              go_ret2
              exact ⟨by rw [← HSS.out.1, ← HSS.out.2]; rfl, HB.out⟩
    · have HE : Hid (R = some acc) := Go.Lib.hid (mid_end HMID.out (by omega))
      have HB := Go.Lib.hid hb
      have hconv := own_text hown2
      obtain ⟨tx, htx⟩ : ∃ tx, txt acc = tx := ⟨_, rfl⟩
      rw [htx] at hconv
      have HSS : Hid (tx = (optAns R).1 ∧ true = (optAns R).2) := Go.Lib.hid (by rw [HE.out]; exact ⟨htx.symm, rfl⟩)
      clear hown1 hown2 hb htx
      go_wp2
      go_ret2
      exact ⟨by rw [← HSS.out.1, ← HSS.out.2]; rfl, HB.out⟩

end Go.Proofs.Ytecbfoodkcgehab.ToImplC

/-
  Contracts: WordTo of the model and of the program. Conditions: lists of at most 2^20 numbers.
-/
namespace Go.Proofs.Ytecbfoodkcgehab.WordToC
open Go.RowKit SeesC IntsC ExactC NumC IterC OrdMath WordMath InC OrderC WordC RunC ToC ToImplC

set_option maxRecDepth 100000 in
set_option maxHeartbeats 1000000 in
theorem implTo (xs ys : List Int) (r' : ByteArray) (b : Bool) (h : toAns xs ys = (r', b)) (hx : xs.length ≤ 1048576) (hy : ys.length ≤ 1048576) (W : World) (v : Value) (n : Nat) (hv : Sees W v n (vals xs)) (u : Value) (m : Nat) (hu : Sees W u m (vals ys)) :
    Calls Try.prog 193 #[v, u] W fun e w' => e = .returned (.tuple #[.string r', .bool b]) ∧ Below W.heap.size W w' := by
  have hn : n ≤ 1048576 := by have := hv.1; simp at this; omega
  have hm : m ≤ 1048576 := by have := hu.1; simp at this; omega
  obtain ⟨r, hr⟩ : ∃ r, isOrd xs = r := ⟨_, rfl⟩
  obtain ⟨s, hs⟩ : ∃ s, isOrd ys = s := ⟨_, rfl⟩
  have CO := Go.Lib.hid (fun W' (hs' : Sees W' v n (vals xs)) => implOrder_any W' v n xs r hs' hn hr)
  have CP := Go.Lib.hid (fun W' (hs' : Sees W' u m (vals ys)) => implOrder_any W' u m ys s hs' hm hs)
  have HV := Go.Lib.hid hv
  have HU := Go.Lib.hid hu
  have hl : xs.length = n := by simpa using hv.1
  have hl' : ys.length = m := by simpa using hu.1
  unfold toAns at h
  obtain ⟨_, ad, cap, rfl, _, _⟩ := hv
  obtain ⟨_, ad', cap', rfl, _, _⟩ := hu
  cases r with
  | false =>
    rw [if_neg (by rintro ⟨h1, _⟩; unfold isOrd at hr; exact of_decide_eq_false hr h1)] at h
    cases h
    clear hr hs
    go_enter Try.func193, Try.ntmps193
    go_wp2_with fail
    refine (CO.out _ HV.out).mono ?_
    rintro e w1 ⟨rfl, hd⟩
    have HB1 : Hid (Below W.heap.size W w1) := Go.Lib.hid hd
    clear hd
    go_wp2_with fail
    go_ret2
    exact ⟨rfl, HB1.out⟩
  | true =>
    cases s with
    | false =>
      rw [if_neg (by rintro ⟨_, h1, _⟩; unfold isOrd at hs; exact of_decide_eq_false hs h1)] at h
      cases h
      clear hr hs
      go_enter Try.func193, Try.ntmps193
      go_wp2_with fail
      refine (CO.out _ HV.out).mono ?_
      rintro e w1 ⟨rfl, hd⟩
      have HB1 : Hid (Below W.heap.size W w1) := Go.Lib.hid hd
      clear hd
      go_wp2_with fail
      refine (CP.out _ (HU.out.grow HB1.out)).mono ?_
      rintro e w2 ⟨rfl, hd⟩
      have HB2 : Hid (Below W.heap.size W w2) := Go.Lib.hid (HB1.out.trans (hd.mono HB1.out.size))
      clear hd
      go_wp2_with fail
      go_ret2
      exact ⟨rfl, HB2.out⟩
    | true =>
      have hox : Ord xs := by unfold isOrd at hr; exact of_decide_eq_true hr
      have hoy : Ord ys := by unfold isOrd at hs; exact of_decide_eq_true hs
      clear hr hs
      by_cases hnm : n = m
      · subst hnm
        rw [if_pos ⟨hox, hoy, by omega⟩] at h
        have HA1 : Hid ((optAns (toRes xs ys)).1 = r' ∧ (optAns (toRes xs ys)).2 = b) := Go.Lib.hid (by rw [h]; exact ⟨rfl, rfl⟩)
        have CT := implTo_main xs ys hox hoy (by omega) W _ n HV.out _ HU.out
        rw [HA1.out.1, HA1.out.2] at CT
        exact CT
      · rw [if_neg (by rintro ⟨_, _, h1⟩; omega)] at h
        cases h
        have hne : ((n : Int) == (m : Int)) = false := by rw [beq_eq_false_iff_ne]; omega
        have hne2 : (n : Int) ≠ (m : Int) := by omega
        go_enter Try.func193, Try.ntmps193
        go_wp2_with fail
        refine (CO.out _ HV.out).mono ?_
        rintro e w1 ⟨rfl, hd⟩
        have HB1 : Hid (Below W.heap.size W w1) := Go.Lib.hid hd
        clear hd
        go_wp2_with fail
        refine (CP.out _ (HU.out.grow HB1.out)).mono ?_
        rintro e w2 ⟨rfl, hd⟩
        have HB2 : Hid (Below W.heap.size W w2) := Go.Lib.hid (HB1.out.trans (hd.mono HB1.out.size))
        clear hd
        go_wp2_with fail
        go_ret2
        exact ⟨rfl, HB2.out⟩

end Go.Proofs.Ytecbfoodkcgehab.WordToC

/-
  Contracts: SweepOrder and SweepWord of the model and of the program. Conditions: lists of at most 2^20 numbers.
-/
namespace Go.Proofs.Ytecbfoodkcgehab.Sweep4C
open Go.RowKit SeesC IntsC ExactC NumC IterC OrdMath WordMath InC OrderC WordC RunC ToC ToImplC WordToC AtC EndsM SweepM StackM SweepWC SweepIC WordFacts

set_option maxHeartbeats 1000000 in
theorem implSweep (zs : List Int) (xs : List Int) (b : Bool) (h : sweepAns zs = (xs, b)) (hz : zs.length ≤ 1048576) (W : World) (v : Value) (n : Nat) (hv : Sees W v n (vals zs)) :
    Calls Try.prog 99 #[v] W fun e w' => ListTo W e w' xs b := by
  have hl : zs.length = n := by simpa using hv.1
  have hn : n ≤ 1048576 := by omega
  obtain ⟨r, hr⟩ : ∃ r, isOrd zs = r := ⟨_, rfl⟩
  have CO := Go.Lib.hid (fun W' (hs' : Sees W' v n (vals zs)) => implOrder_any W' v n zs r hs' hn hr)
  have HV := Go.Lib.hid hv
  unfold sweepAns at h
  obtain ⟨_, ad, cap, rfl, _, _⟩ := hv
  cases r with
  | false =>
    rw [if_neg (by intro h1; unfold isOrd at hr; exact of_decide_eq_false hr h1)] at h
    cases h
    clear hr
    go_enter Try.func99, Try.ntmps99
    go_wp2_with fail
    refine (CO.out _ HV.out).mono ?_
    rintro e w1 ⟨rfl, hd⟩
    have HB1 : Hid (Below W.heap.size W w1) := Go.Lib.hid hd
    clear hd
    go_wp2_with fail
    go_ret2
    exact listTo_below HB1.out (listTo_none _ _)
  | true =>
    have hord : Ord zs := by unfold isOrd at hr; exact of_decide_eq_true hr
    have hn7 : n ≤ 7 := by have := hord.2.1; omega
    have hn1 : 1 ≤ n := by have := hord.1; omega
    rw [if_pos hord] at h
    cases h
    clear hr
    have C1 := Go.Lib.hid (fun W' (hs' : Sees W' (.slice ad n cap) n (vals zs)) => sweepOf_any zs hord W' _ n hs')
    go_enter Try.func99, Try.ntmps99
    go_wp2_with fail
    refine (CO.out _ HV.out).mono ?_
    rintro e w1 ⟨rfl, hd⟩
    have HB1 : Hid (Below W.heap.size W w1) := Go.Lib.hid hd
    clear hd
    have HV1 := Go.Lib.hid (HV.out.grow HB1.out)
    go_wp2_with fail
    refine (C1.out _ HV1.out).mono ?_
    rintro e w2 ⟨u, rfl, ho, hb⟩
    have H2 := Go.Lib.hid (And.intro (own_lower ho HB1.out.size) (HB1.out.trans (hb.mono HB1.out.size)))
    clear ho hb
    go_wp2_with fail
    go_ret2
    exact ⟨_, rfl, H2.out.1, H2.out.2⟩

set_option maxHeartbeats 1000000 in
theorem implSweepW (zs : List Int) (r' : ByteArray) (b : Bool) (h : swWordAns zs = (r', b)) (hz : zs.length ≤ 1048576) (W : World) (v : Value) (n : Nat) (hv : Sees W v n (vals zs)) :
    Calls Try.prog 164 #[v] W fun e w' => e = .returned (.tuple #[.string r', .bool b]) ∧ Below W.heap.size W w' := by
  have hl : zs.length = n := by simpa using hv.1
  have hn : n ≤ 1048576 := by omega
  obtain ⟨r, hr⟩ : ∃ r, isOrd zs = r := ⟨_, rfl⟩
  have CO := Go.Lib.hid (fun W' (hs' : Sees W' v n (vals zs)) => implOrder_any W' v n zs r hs' hn hr)
  have HV := Go.Lib.hid hv
  unfold swWordAns at h
  obtain ⟨_, ad, cap, rfl, _, _⟩ := hv
  cases r with
  | false =>
    rw [if_neg (by intro h1; unfold isOrd at hr; exact of_decide_eq_false hr h1)] at h
    cases h
    clear hr
    go_enter Try.func164, Try.ntmps164
    go_wp2_with fail
    refine (CO.out _ HV.out).mono ?_
    rintro e w1 ⟨rfl, hd⟩
    have HB1 : Hid (Below W.heap.size W w1) := Go.Lib.hid hd
    clear hd
    go_wp2_with fail
    go_ret2
    exact ⟨rfl, HB1.out⟩
  | true =>
    have hord : Ord zs := by unfold isOrd at hr; exact of_decide_eq_true hr
    have hn7 : n ≤ 7 := by have := hord.2.1; omega
    have hn1 : 1 ≤ n := by have := hord.1; omega
    rw [if_pos hord] at h
    cases h
    clear hr
    obtain ⟨R, hR⟩ : ∃ R, txt (swWord zs) = R := ⟨_, rfl⟩
    have C1 := Go.Lib.hid (fun W' (hs' : Sees W' (.slice ad n cap) n (vals zs)) => sweepOf_any zs hord W' _ n hs')
    have hto : toAns zs (sweepL zs) = (R, true) := by
      have hsw := sweep_word hord.1 hord.2.1
      have h1 := to_run hord.2.2.2 hsw.2.1 hsw.1
      rw [hsw.2.2] at h1
      unfold toAns
      rw [if_pos ⟨hord, ord_sweep hord, (sweep_len zs).symm⟩, h1]
      show (txt (txt (swWord zs)).data.toList, true) = (R, true)
      rw [EndsM.txt_data, hR]
    have C2 := Go.Lib.hid (fun (W' : World) (h1 : Sees W' (.slice ad n cap) n (vals zs)) (u : Value) (h2 : Sees W' u (sweepL zs).length (vals (sweepL zs))) => implTo zs (sweepL zs) R true hto hz (by rw [sweep_len]; exact hz) W' _ n h1 u _ h2)
    rw [hR]
    clear hR hto
    go_enter Try.func164, Try.ntmps164
    go_wp2_with fail
    refine (CO.out _ HV.out).mono ?_
    rintro e w1 ⟨rfl, hd⟩
    have HB1 : Hid (Below W.heap.size W w1) := Go.Lib.hid hd
    clear hd
    have HV1 := Go.Lib.hid (HV.out.grow HB1.out)
    go_wp2_with fail
    refine (C1.out _ HV1.out).mono ?_
    rintro e w2 ⟨u, rfl, ho, hb⟩
    have H2 := Go.Lib.hid (And.intro ho (HB1.out.trans (hb.mono HB1.out.size)))
    clear ho hb
    go_wp2_with fail
    refine (C2.out _ (HV.out.grow H2.out.2) _ (Sees.owns H2.out.1)).mono ?_
    rintro e w3 ⟨rfl, hb⟩
    have H3 := Go.Lib.hid (H2.out.2.trans (hb.mono H2.out.2.size))
    clear hb
    go_wp2_with fail
    go_ret2
    exact ⟨rfl, H3.out⟩

end Go.Proofs.Ytecbfoodkcgehab.Sweep4C

/-
  Contracts: what is struck from the map of orders by words; the values collected and sorted. Conditions: as stated.
-/
namespace Go.Proofs
open Go.Shelf Go.RowKit Go.Lib Go.Sort
shelf_lay_g SlLaysDf.n5 Slmd 5 at Try 162 as Try.laysDf
end Go.Proofs
namespace Go.Proofs.Ytecbfoodkcgehab.SwfDelC
open Go.RowKit Go.Shelf Go.Maps NumC SeesC IntsC ExactC OrdMath WordMath ListsC ListsGC WithC MapRowsC ByWordC EndsM SweepM StackM SwfM Sweep4C

set_option maxHeartbeats 1000000 in
theorem swDel_any (ys : List Int) (hy : Ord ys) (s : ByteArray) (W : World) (v : Value) (n : Nat) (hv : Sees W v n (vals ys)) :
    Calls Try.prog 163 #[.string s, v] W fun e w' => e = .returned (.bool (!decide (swWord ys = s.data.toList))) ∧ Below W.heap.size W w' := by
  obtain ⟨t, ht⟩ : ∃ t, txt (swWord ys) = t := ⟨_, rfl⟩
  have hte : swWord ys = t.data.toList := by rw [← ht]; simp [txt]
  have CW := Go.Lib.hid (implSweepW ys t true (by unfold swWordAns; rw [if_pos hy, ht]) (by have := hy.2.1; omega) W v n hv)
  obtain ⟨_, ad, cap, rfl, _, _⟩ := hv
  rw [hte]
  clear ht hte
  by_cases he : t = s
  · subst he
    have h1 : (t.toList == t.toList) = true := by simp
    have h2 : (!t.toList == t.toList) = false := by simp
    have hd : (!decide (t.data.toList = t.data.toList)) = false := by simp
    rw [hd]
    clear hd
    go_enter Try.func163, Try.ntmps163
    go_wp2_with fail
    refine (CW.out).mono ?_
    rintro e w1 ⟨rfl, hb⟩
    have H1 := Go.Lib.hid hb
    clear hb
    go_wp2_with fail
    go_ret
    exact ⟨rfl, H1.out⟩
  · have hne : t.data.toList ≠ s.data.toList := fun e => he (by cases t; cases s; simpa using e)
    have hd : (!decide (t.data.toList = s.data.toList)) = true := by simpa using hne
    rw [hd]
    have h1 : (t.toList == s.toList) = false := by
      rw [beq_eq_false_iff_ne]
      intro e
      exact hne (by rw [← ByteArray.toList_eq, ← ByteArray.toList_eq]; exact e)
    have h2 : (!t.toList == s.toList) = true := by rw [h1]; rfl
    clear hd hne he
    go_enter Try.func163, Try.ntmps163
    go_wp2_with fail
    refine (CW.out).mono ?_
    rintro e w1 ⟨rfl, hb⟩
    have H1 := Go.Lib.hid hb
    clear hb
    go_wp2_with fail
    go_ret
    exact ⟨rfl, H1.out⟩

/-- What is struck: an order by a word that isn't the word of its sweep. -/
theorem pd_ex (zs : List Int) (n N : Nat) (gs : List (Nat × Nat)) (hl : gs.length = N) (hnd : (gs.map (·.1)).Nodup) :
    ∃ pd : Lit → DV → Bool, ∀ j x, j < N → pd (.string x) (.held (sl n (gs.getD j (0, 0)))) = !decide (swWord (beforeOf zs ((allW n).getD j ByteArray.empty)) = x) := by
  classical
  refine ⟨fun kl yd => decide (∃ j x, j < N ∧ kl = .string x ∧ yd = .held (sl n (gs.getD j (0, 0))) ∧ swWord (beforeOf zs ((allW n).getD j ByteArray.empty)) ≠ x), fun j x hj => ?_⟩
  by_cases h : swWord (beforeOf zs ((allW n).getD j ByteArray.empty)) = x
  · have e1 : (!decide (swWord (beforeOf zs ((allW n).getD j ByteArray.empty)) = x)) = false := by rw [decide_eq_true h]; rfl
    rw [e1, decide_eq_false_iff_not]
    rintro ⟨k, y, hk, e2, e3, h4⟩
    have e5 : x = y := by simpa using e2
    have e6 : sl n (gs.getD j (0, 0)) = sl n (gs.getD k (0, 0)) := by simpa using e3
    have e7 : (gs.getD j (0, 0)).1 = (gs.getD k (0, 0)).1 := by
      unfold sl at e6
      simp only [Value.slice.injEq, Option.some.injEq, Addr.mk.injEq] at e6
      exact e6.1.1
    have e8 : j = k := Classical.byContradiction fun hne => nodup_ne hnd (by omega) (by omega) hne e7
    subst e8
    exact h4 (h.trans e5)
  · have e1 : (!decide (swWord (beforeOf zs ((allW n).getD j ByteArray.empty)) = x)) = true := by rw [decide_eq_false h]; rfl
    rw [e1, decide_eq_true_eq]
    exact ⟨j, x, hj, rfl, rfl, h⟩

theorem grown_none {w w' : World} (hb : Below w.heap.size w w') : w.grownBy w' none := grown_of_below hb none

set_option maxHeartbeats 2000000 in
theorem delete_any (zs : List Int) (hord : Ord zs) (n N b : Nat) (hl : zs.length = n) (hN : (allW n).length = N) (W w : World) (gs : List (Nat × Nat)) (hM : Mid zs n W b N gs w) :
    Calls Try.prog 162 #[.map (some b), .func (.func 163) #[] #[]] w fun e w' => e = .returned (.tuple #[]) ∧
      (∃ es pd R, IsR (gs.map (sl n)) R ∧ es.Perm (prs (allW n) (gs.map (sl n)) N) ∧ (∀ j x, j < N → pd (.string x) (.held (sl n (gs.getD j (0, 0)))) = !decide (swWord (beforeOf zs ((allW n).getD j ByteArray.empty)) = x)) ∧ w'.ownsMap Try.prog 9 R b N (Lib.deleteFuncD pd (.map es))) ∧
      (∀ j, j < N → w'.ownsRow W.heap.size 3 1 (sl n (gs.getD j (0, 0))) n (vals (beforeOf zs ((allW n).getD j ByteArray.empty)))) ∧ Below W.heap.size W w' := by
  obtain ⟨hgl, ⟨es, R, hR, hmap, hperm⟩, hrows, hnd, hbel, hWb⟩ := hM
  obtain ⟨pd, hpd⟩ := pd_ex zs n N gs hgl hnd
  have hn1 : 1 ≤ n := by rw [← hl]; exact hord.1
  have hn7 : n ≤ 7 := by rw [← hl]; exact hord.2.1
  have eg : ∀ args w, (callFunc 163 args).run Try.prog w = .ok (.enter 163 args) w := enters_of Try.func163 (by kernel_rfl) rfl
  have hcon := AnyDf.maps_DeleteFunc Try.laysDf strKeyed R pd 163 #[] b N (.map es) w eg hmap (fun X key val kl yd yp hg hkey hv => by
    obtain ⟨hvm, hz⟩ := hR.2 _ _ hv
    obtain ⟨p, hp, rfl⟩ := List.mem_map.1 hvm
    obtain ⟨j, hj, hjp⟩ := mem_at hp
    have hjN : j < N := by omega
    obtain ⟨s, rfl⟩ := Maps.keyOf_string_inv Try.underlying9 hkey
    have hkl : kl = .string s.data.toList := by
      have h1 : keyOf Try.prog 9 (.string s) = some kl := hkey
      simp [keyOf, Try.underlying9, mapKey] at h1
      exact h1.2.symm
    have hyd : yd = .held (sl n p) := by cases hz; rfl
    subst hkl hyd
    have hw : (allW n).getD j ByteArray.empty ∈ allW n := by
      have e : (allW n).getD j ByteArray.empty = (allW n)[j]'(by omega) := by simp [show j < (allW n).length by omega]
      rw [e]; exact List.getElem_mem _
    have hww := all_mem hn1 hn7 hw
    have hrow : X.ownsRow W.heap.size 3 1 (sl n p) n (vals (beforeOf zs ((allW n).getD j ByteArray.empty))) := by rw [← hjp]; exact own_map (hrows j hjN) hmap hg
    have hpj := hpd j s.data.toList hjN
    rw [hjp] at hpj
    rw [hpj]
    exact (swDel_any _ (ord_before hord hww.1 (by rw [hl]; exact hww.2)) s X (sl n p) n (Sees.owns hrow)).mono fun e w' ⟨h1, h2⟩ => ⟨h1, grown_none h2⟩)
  refine hcon.mono ?_
  rintro e w' ⟨rfl, hmap', hg'⟩
  exact ⟨rfl, ⟨es, pd, R, hR, hperm, hpd, hmap'⟩, fun j hj => own_map (hrows j hj) hmap hg', hbel.grown hg' hbel.size (fun k hk => by cases hk; exact hWb)⟩

end Go.Proofs.Ytecbfoodkcgehab.SwfDelC

/-
  Contract: the model's list of all orders of n numbers. Conditions: 1 to 7 numbers.
-/
namespace Go.Proofs.Ytecbfoodkcgehab.OrdsSpC
open Go.RowKit SeesC IntsC ExactC OrdMath OrdFacts InC OrderC RankC AtC ListsC ListsEC ListsFC ListsGC AllO

set_option maxRecDepth 100000 in
set_option maxHeartbeats 4000000 in
theorem l2Orders_any (n : Nat) (hn1 : 1 ≤ n) (hn7 : n ≤ 7) (W : World) :
    Calls Try.prog 120 #[.int .i64 (n : Int)] W fun e w' => ∃ v, e = .returned v ∧ Lists w' W.heap.size n v ((allO n).map vals) ∧ Below W.heap.size W w' := by
  obtain ⟨j0, hj, hy0, hy1, hy2⟩ := info_parts infoL
  have CW := Go.Lib.hid (fun W' => l2Ways_any n W' hn7)
  have CA := Go.Lib.hid (fun (k : Nat) W' (hk : k < fact n) => l2At_any n k W' hn1 hn7 hk)
  have HF := Go.Lib.hid (And.intro (fact_pos n) (fact_7 hn7))
  obtain ⟨f, hf⟩ : ∃ f, fact n = f := ⟨_, rfl⟩
  have HFF := Go.Lib.hid hf
  have hf1 : 1 ≤ f := by rw [← hf]; exact HF.out.1
  have hf2 : f ≤ 5040 := by rw [← hf]; exact HF.out.2
  rw [hf] at CW CA
  clear hf
  have HB0 : Hid (Lists (W.alloc (.cells #[] 29)) W.heap.size n (.slice (some ⟨W.heap.size, 0, none⟩) 0 0) ([] : List (List Value)) ∧ Below W.heap.size W (W.alloc (.cells #[] 29))) := Go.Lib.hid ⟨⟨[], rfl, World.ownsRow_made (base := W.heap.size) (e := 29) (size := 1) W #[] 0 (Nat.le_refl _) (by unfold maxLen; omega) rfl, fun i hi => absurd hi (by simp), by simp, fun p hp => by simp at hp⟩, (Below.refl _ _).alloc (Nat.le_refl _) _⟩
  go_enter Try.func120, Try.ntmps120
  go_wp2
  go_loopw [3, 4] (fun ov kv wr => ∃ (k g c : Nat) (Y : List (List Int)), k ≤ f ∧ kv = .int .i64 k ∧ ov = .slice (some ⟨g, 0, none⟩) k c ∧ Hid (Y = (allO n).take k ∧ Y.length = k) ∧ Hid (Lists wr W.heap.size n (.slice (some ⟨g, 0, none⟩) k c) (Y.map vals) ∧ Below W.heap.size W wr)) (fun _ k _ => f - (intOf k).toNat)
  case atStart => exact ⟨0, W.heap.size, 0, [], Nat.zero_le _, rfl, rfl, Go.Lib.hid ⟨by simp, rfl⟩, HB0⟩
  case round =>
    obtain ⟨k, g, c, Y, hk, rfl, rfl, HY, HX⟩ := hrel
    clear HB0
    by_cases hlt : k < f
    · obtain ⟨wj, rfl⟩ : ∃ wj, wj = wr := ⟨_, rfl⟩
      obtain ⟨gs, hg, hog, hin, hnd, hne⟩ := HX.out.1
      rw [List.length_map, HY.out.2] at hg hog hin
      have HG := Go.Lib.hid (And.intro hg (And.intro hog (And.intro hin hnd)))
      have hlti : (k : Int) < (f : Int) := by omega
      have HT := Go.Lib.hid (allO_take (m := n) (k := k) (by rw [HFF.out]; exact hlt))
      have CK := Go.Lib.hid (CA.out k wj hlt)
      obtain ⟨x, hx⟩ : ∃ x, atRun n (iota n) k = x := ⟨_, rfl⟩
      rw [hx] at HT CK
      clear hg hog hin hnd hne hx
      go_wp2_with fail
      refine (CW.out _).mono ?_
      rintro e wq ⟨rfl, hwq⟩
      obtain rfl : wj = wq := hwq
      go_wp2_with fail
      refine (CK.out).mono ?_
      rintro e w3 ⟨gu, cu, rfl, ho, hb⟩
      have hwjl := HX.out.2.size
      have H3 := Go.Lib.hid (And.intro ho (And.intro hb (HX.out.2.trans (hb.mono hwjl))))
      clear ho hb CK
      have hsz4 := H3.out.2.2.size
      have hba : Below W.heap.size W (w3.alloc (.cells #[.slice (some ⟨gu, 0, none⟩) n cu] 29)) := H3.out.2.2.alloc hsz4 _
      have hbj : Below wj.heap.size wj (w3.alloc (.cells #[.slice (some ⟨gu, 0, none⟩) n cu] 29)) := H3.out.2.1.alloc (H3.out.2.1.size) _
      have HX4 := Go.Lib.hid (And.intro (kept_call HG.out.2.1 hbj) (And.intro (fun i (hi : i < k) => kept_call (HG.out.2.2.1 i hi) hbj) (And.intro (H3.out.1.alloc (.cells #[.slice (some ⟨gu, 0, none⟩) n cu] 29)) hba)))
      clear hba hbj
      go_wp2_with (at_builtin; refine wpList_append_own _ rfl _ _ 24 rfl W.heap.size 29 j0 (.slice none 0 0) 1 24 Try.underlying24 hj hy0 hy1 hy2 rfl (by decide) (.slice (some ⟨g, 0, none⟩) k c) k (gs.map (sl n)) rfl HX4.out.1 ⟨w3.heap.size, 0, none⟩ 1 1 [.slice (some ⟨gu, 0, none⟩) n cu] rfl rfl (cell_one_new _ _ _) (fun x hx => by simp at hx; subst hx; rfl) (by unfold maxLen; omega) (by omega) (by simp; omega) ?_; intro v' w5 hown5 hgrow5 hnil5)
      obtain ⟨g5, c5, rfl⟩ := ownsRow_succ hown5
      have hL5 : Lists w5 W.heap.size n (.slice (some ⟨g5, 0, none⟩) (k + 1) c5) (Y.map vals ++ [vals x]) :=
        lists_snoc (p := (gu, cu)) (by rw [List.length_map, HY.out.2]) HG.out.1 HX4.out.1 HX4.out.2.1 HG.out.2.2.2 (own_lower HX4.out.2.2.1 hwjl) (fun i hi => by
          have h1 := own_block_lt (HG.out.2.2.1 i hi) (q := (gs.getD i (0, 0)).1) rfl
          have h2 := own_block_lt H3.out.1 (q := gu) rfl
          show (gs.getD i (0, 0)).1 ≠ gu
          omega) hown5 hgrow5
      have hb5 : Below W.heap.size W w5 := HX4.out.2.2.2.grown hgrow5 (by simp; omega) (fun q hq => (HX4.out.1.lt q hq).1)
      have HY5 : Hid (Y ++ [x] = (allO n).take (k + 1) ∧ (Y ++ [x]).length = k + 1) := Go.Lib.hid ⟨by rw [HT.out, HY.out.1], by rw [List.length_append, HY.out.2]; rfl⟩
      have e6 : Y.map vals ++ [vals x] = (Y ++ [x]).map vals := by simp
      rw [e6] at hL5
      have H5 := Go.Lib.hid (And.intro hL5 hb5)
      clear hown5 hgrow5 hnil5 hL5 hb5 e6 hsz4
      go_wp2
      go_roundw
      case rel => exact ⟨k + 1, g5, c5, _, by omega, by go_num, rfl, HY5, H5⟩
      case measure => simp [intOf]; omega
    · have hkf : k = f := by omega
      subst hkf
      have HZ : Hid (Y = allO n) := Go.Lib.hid (by rw [HY.out.1, List.take_of_length_le (by rw [allO_len, HFF.out]; exact Nat.le_refl _)])
      have hlti : ¬ (k : Int) < (k : Int) := by omega
      go_wp2_with fail
      refine (CW.out _).mono ?_
      rintro e wq ⟨rfl, hwq⟩
      obtain rfl : wr = wq := hwq
      go_wp2
      go_ret
      exact ⟨_, rfl, by rw [← HZ.out]; exact HX.out.1, HX.out.2⟩

end Go.Proofs.Ytecbfoodkcgehab.OrdsSpC

/-
  Contract: the model lists the orders that are swept to one. Conditions: lists of at most 2^20 numbers.
-/
namespace Go.Proofs.Ytecbfoodkcgehab.SwfSpC
open Go.RowKit SeesC IntsC ExactC OrdMath OrdFacts OrderC ListsC ListsEC ListsFC ListsGC WithC AllO SwfM SweepM SweepWC SameC OrdsSpC IterC AtC

/-- The orders are returned, in memory of the call's own. -/
def SwfTo (w : World) (zs : List Int) (e : Ending) (w' : World) : Prop :=
  ∃ v R, e = .returned (.tuple #[v, .bool (isOrd zs)]) ∧ Swf zs R ∧ Lists w' w.heap.size zs.length v (R.map vals) ∧ Below w.heap.size w w'

theorem lists_zero {w : World} {base n : Nat} {v : Value} (h : w.ownsRow base 29 1 v 0 []) : Lists w base n v [] :=
  ⟨[], rfl, h, fun i hi => absurd hi (by simp), by simp, fun p hp => by simp at hp⟩

set_option maxRecDepth 100000 in
set_option maxHeartbeats 4000000 in
theorem specSwf (zs : List Int) (hz : zs.length ≤ 1048576) (W : World) (v : Value) (n : Nat) (hv : Sees W v n (vals zs)) :
    Calls Try.prog 94 #[v] W fun e w' => SwfTo W zs e w' := by
  obtain ⟨j0, hj, hy0, hy1, hy2⟩ := info_parts infoL
  have hl : zs.length = n := by simpa using hv.1
  have hn : n ≤ 1048576 := by omega
  obtain ⟨r, hr⟩ : ∃ r, isOrd zs = r := ⟨_, rfl⟩
  have CO := Go.Lib.hid (fun W' (hs' : Sees W' v n (vals zs)) => l2Order_any W' v n zs r hs' hn hr)
  have HV := Go.Lib.hid hv
  have HR := Go.Lib.hid hr
  have hB0 : Below W.heap.size W (W.alloc (.cells #[] 29)) := (Below.refl _ _).alloc (Nat.le_refl _) _
  have hO0 : (W.alloc (.cells #[] 29)).ownsRow W.heap.size 29 1 (.slice (some ⟨W.heap.size, 0, none⟩) 0 0) 0 [] := World.ownsRow_made (base := W.heap.size) (e := 29) (size := 1) W #[] 0 (Nat.le_refl _) (by unfold maxLen; omega) rfl
  have HB0 := Go.Lib.hid (And.intro hB0 hO0)
  obtain ⟨_, ad, cap, rfl, _, _⟩ := hv
  clear hr hB0 hO0
  cases r with
  | false =>
    have hno : ¬ Ord zs := of_decide_eq_false HR.out
    go_enter Try.func94, Try.ntmps94
    go_wp2_with fail
    refine (CO.out _ (HV.out.grow HB0.out.1)).mono ?_
    rintro e w1 ⟨rfl, hd⟩
    have H1 := Go.Lib.hid (And.intro (HB0.out.1.trans (hd.below _)) (kept_call HB0.out.2 (hd.below _)))
    clear hd
    go_wp2_with fail
    go_ret2
    exact ⟨_, [], by rw [HR.out]; rfl, by unfold Swf; rw [if_neg hno], lists_zero H1.out.2, H1.out.1⟩
  | true =>
    have hord : Ord zs := of_decide_eq_true HR.out
    have hn7 : n ≤ 7 := by have := hord.2.1; omega
    have hn1 : 1 ≤ n := by have := hord.1; omega
    have CA := Go.Lib.hid (fun W' => l2Orders_any n hn1 hn7 W')
    obtain ⟨N, hN⟩ : ∃ N, (allO n).length = N := ⟨_, rfl⟩
    have hN1 : 1 ≤ N := by rw [← hN, allO_len]; exact fact_pos n
    have hN2 : N ≤ 5040 := by rw [← hN, allO_len]; exact fact_7 hn7
    have HN := Go.Lib.hid hN
    have HOR := Go.Lib.hid (fun x (hx : x ∈ allO n) => (mem_allO hn1 hn7).1 hx)
    have HL := Go.Lib.hid hl
    clear hN
    go_enter Try.func94, Try.ntmps94
    go_wp2_with fail
    refine (CO.out _ (HV.out.grow HB0.out.1)).mono ?_
    rintro e w1 ⟨rfl, hd⟩
    have H1 := Go.Lib.hid (And.intro (HB0.out.1.trans (hd.below _)) (And.intro (kept_call HB0.out.2 (hd.below _)) (hd.below (W.alloc (.cells #[] 29)).heap.size).size))
    clear hd CO
    go_wp2_with fail
    refine (CA.out _).mono ?_
    rintro e w2 ⟨va, rfl, hL, hb⟩
    obtain ⟨gs, hW2⟩ := Lists.with hL
    have hoa := hW2.2.1
    rw [List.length_map, HN.out] at hoa
    obtain ⟨g1, c1, rfl⟩ := own_pos hoa (by omega)
    have hsz1 : W.heap.size + 1 ≤ w1.heap.size := by have := H1.out.2.2; simpa using this
    have hg1 := own_block_lt hoa (q := g1) rfl
    have H2 := Go.Lib.hid (And.intro (kept_call H1.out.2.1 hb) (And.intro hW2 (And.intro (H1.out.1.trans (hb.mono H1.out.1.size)) (And.intro hsz1 hg1))))
    clear hL hb hW2 hoa CA hsz1 hg1
    go_wp2_with fail
    go_loopw [4, 6] (fun ov iv wr => ∃ (i g2 c2 N2 : Nat) (Y : List (List Int)) (hs : List (Nat × Nat)), i ≤ N ∧ iv = .int .i64 i ∧ ov = .slice (some ⟨g2, 0, none⟩) N2 c2 ∧ Hid (Y = ((allO n).take i).filter (fun y => decide (sweepL y = zs))) ∧
      Hid (N2 = Y.length ∧ With wr W.heap.size n (.slice (some ⟨g2, 0, none⟩) N2 c2) (Y.map vals) hs ∧ With wr w1.heap.size n (.slice (some ⟨g1, 0, none⟩) N c1) ((allO n).map vals) gs ∧ Below W.heap.size W wr ∧ g2 ≠ g1 ∧ (∀ r ∈ hs, ∃ k, k < i ∧ gs.getD k (0, 0) = r))) (fun _ i _ => N - (intOf i).toNat)
    case atStart => exact ⟨0, W.heap.size, 0, 0, [], [], Nat.zero_le _, rfl, rfl, Go.Lib.hid (by simp), Go.Lib.hid ⟨rfl, ⟨rfl, H2.out.1, fun i hi => absurd hi (by simp), by simp⟩, H2.out.2.1, H2.out.2.2.1, by have h1 := H2.out.2.2.2.1; have h2 := H2.out.2.2.2.2.1; omega, fun r hr => by simp at hr⟩⟩
    case round =>
      obtain ⟨i, g2, c2, N2, Y, hs, hiN, rfl, rfl, HY, HX⟩ := hrel
      clear HB0
      by_cases hlt : i < N
      · obtain ⟨wj, rfl⟩ : ∃ wj, wj = wr := ⟨_, rfl⟩
        have hil : i < (allO n).length := by rw [HN.out]; exact hlt
        obtain ⟨q, hq⟩ : ∃ q, (allO n)[i] = q := ⟨_, rfl⟩
        have hqo := HOR.out q (by rw [← hq]; exact List.getElem_mem _)
        obtain ⟨p, hpp⟩ : ∃ p, gs.getD i (0, 0) = p := ⟨_, rfl⟩
        have hmapl : ((allO n).map vals).length = N := by rw [List.length_map, HN.out]
        have hW := HX.out.2.2.1
        have hgl : gs.length = N := by rw [hW.1, hmapl]
        have hog := hW.2.1
        rw [hmapl] at hog
        have hob := hW.2.2.1 i (by rw [hmapl]; exact hlt)
        have hgd : ((allO n).map vals).getD i [] = vals q := by rw [← hq]; simp [hil]
        rw [hpp, hgd] at hob
        have hck : wj.cell? ⟨g1, i, none⟩ = some (.slice (some ⟨p.1, 0, none⟩) n p.2) := by
          rw [hog.cellAt i (by omega), ← hpp]
          simp [show i < gs.length by omega, sl]
        obtain ⟨p1, p2⟩ := p
        unfold sl at hob
        simp only at hob hck
        obtain ⟨kp, hkp⟩ : ∃ kp, decide (sweepL q = zs) = kp := ⟨_, rfl⟩
        have CS := Go.Lib.hid (l4Sweep_any q hqo.1 wj (.slice (some ⟨p1, 0, none⟩) n p2) n (Sees.owns hob))
        have HE := Go.Lib.hid (And.intro (Exists.intro hil hq : ∃ h : i < (allO n).length, (allO n)[i] = q) (And.intro hpp (And.intro hgl (And.intro hob (And.intro hkp hqo.2)))))
        have hlti : (i : Int) < (N : Int) := by omega
        clear hq hqo hpp hW hgl hog hob hgd hkp hil
        go_wp2_with fail
        refine (CS.out).mono ?_
        rintro e w3 ⟨u3, rfl, ho3, hb3⟩
        rw [sweep_len, HE.out.2.2.2.2.2] at ho3
        have CSa := Go.Lib.hid (l1Same_any (sweepL q) zs kp w3 u3 n (Sees.owns ho3) _ ((HV.out.grow HX.out.2.2.2.1).grow hb3) (by omega) HE.out.2.2.2.2.1)
        have H3 := Go.Lib.hid hb3
        clear ho3 hb3 CS
        go_wp2_with fail
        refine (CSa.out).mono ?_
        rintro e w4 ⟨rfl, hd5⟩
        have hb5 := H3.out.trans (hd5.below wj.heap.size)
        have hck4 : w4.cell? ⟨g1, i, none⟩ = some (.slice (some ⟨p1, 0, none⟩) n p2) := (hb5.cell (p := ⟨g1, i, none⟩) (World.block_lt_of_cell? wj _ hck)).trans hck
        have H5 := Go.Lib.hid hb5
        clear hd5 hb5 CSa hck
        cases kp with
        | false =>
          have HYN : Hid (Y = ((allO n).take (i + 1)).filter (fun y => decide (sweepL y = zs))) := Go.Lib.hid (by
            obtain ⟨⟨hil, hq⟩, _, _, _, hkp, _⟩ := HE.out
            rw [filter_next _ hil, hq, hkp, HY.out]; simp)
          have H6 : Hid (N2 = Y.length ∧ With w4 W.heap.size n (.slice (some ⟨g2, 0, none⟩) N2 c2) (Y.map vals) hs ∧ With w4 w1.heap.size n (.slice (some ⟨g1, 0, none⟩) N c1) ((allO n).map vals) gs ∧ Below W.heap.size W w4 ∧ g2 ≠ g1 ∧ (∀ r ∈ hs, ∃ k, k < i + 1 ∧ gs.getD k (0, 0) = r)) :=
            Go.Lib.hid ⟨HX.out.1, HX.out.2.1.kept H5.out, HX.out.2.2.1.kept H5.out, HX.out.2.2.2.1.trans (H5.out.mono HX.out.2.2.2.1.size), HX.out.2.2.2.2.1, fun r hr => by obtain ⟨k, hk, e⟩ := HX.out.2.2.2.2.2 r hr; exact ⟨k, by omega, e⟩⟩
          clear hck4
          go_wp2
          go_roundw
          case rel => exact ⟨i + 1, g2, c2, N2, Y, hs, by omega, by go_num, rfl, HYN, H6⟩
          case measure => simp [intOf]; omega
        | true =>
          have hWo := HX.out.2.1.kept H5.out
          have hWa := HX.out.2.2.1.kept H5.out
          have hYl : (Y.map vals).length = N2 := by rw [List.length_map, ← HX.out.1]
          have hbW := HX.out.2.2.2.1.trans (H5.out.mono HX.out.2.2.2.1.size)
          have ho6 := hWo.2.1
          rw [hYl] at ho6
          have hN2b : N2 ≤ 5040 := by
            rw [HX.out.1, HY.out]
            have h1 := List.length_filter_le (fun y => decide (sweepL y = zs)) ((allO n).take i)
            rw [List.length_take] at h1
            have := HN.out
            omega
          have hba : Below w4.heap.size w4 (w4.alloc (.cells #[.slice (some ⟨p1, 0, none⟩) n p2] 29)) := (Below.refl _ _).alloc (Nat.le_refl _) _
          have HA := Go.Lib.hid (And.intro (kept_call ho6 hba) (And.intro (hWo.kept hba) (And.intro (hWa.kept hba) (And.intro (hbW.alloc hbW.size (.cells #[.slice (some ⟨p1, 0, none⟩) n p2] 29)) (And.intro hYl (own_block_lt (n := N) (by have := hWa.2.1; rw [List.length_map, HN.out] at this; exact this) (q := g1) rfl).2)))))
          have hsz6 := HA.out.2.2.2.1.size
          clear hWo hWa hYl hbW ho6 hba
          go_wp2_with (at_builtin; refine wpList_append_two _ rfl _ _ 24 rfl W.heap.size 29 j0 (.slice none 0 0) 1 24 Try.underlying24 hj hy0 hy1 hy2 rfl (by decide) _ _ _ rfl HA.out.1 ⟨w4.heap.size, 0, none⟩ 1 1 [.slice (some ⟨p1, 0, none⟩) n p2] rfl rfl (cell_one_new _ _ _) (fun x hx => by simp at hx; subst hx; rfl) (by unfold maxLen; omega) (by omega) (by simpa using hsz6) ?_; intro v' w6 hown6 hgrow6 hnew6)
          obtain ⟨g6, c6, rfl⟩ := ownsRow_succ hown6
          have hob6 : (w4.alloc (.cells #[.slice (some ⟨p1, 0, none⟩) n p2] 29)).ownsRow W.heap.size 3 1 (sl n (p1, p2)) n (vals q) := own_lower (kept_call (kept_call HE.out.2.2.2.1 H5.out) ((Below.refl _ _).alloc (Nat.le_refl _) _)) (by have := H2.out.2.2.2.1; omega)
          have hfr : ∀ r ∈ hs, r.1 ≠ (p1, p2).1 := fun r hr e => by
            obtain ⟨k, hk, ek⟩ := HX.out.2.2.2.2.2 r hr
            have h1 := nodup_ne HX.out.2.2.1.2.2.2 (i := k) (j := i) (by rw [HE.out.2.2.1]; omega) (by rw [HE.out.2.2.1]; exact hlt) (by omega)
            rw [ek, HE.out.2.1] at h1
            exact h1 e
          have hW6 : With w6 W.heap.size n (.slice (some ⟨g6, 0, none⟩) (N2 + 1) c6) ((Y ++ [q]).map vals) (hs ++ [(p1, p2)]) := by
            rw [List.map_append]
            exact with_snoc HA.out.2.1 hob6 hfr (by rw [HA.out.2.2.2.2.1]; exact hown6) hgrow6
          have hg61 : g6 ≠ g1 := by
            rcases hnew6 with h | h
            · have : g6 = g2 := Option.some.inj h
              rw [this]; exact HX.out.2.2.2.2.1
            · have h1 := h g6 rfl
              have h2 := HA.out.2.2.2.2.2
              simp at h1
              omega
          have hA6 := with_mark HA.out.2.2.1 hgrow6 (fun a ha e => by
            have h1 : g2 = a := Option.some.inj ha
            have h2 : g1 = a := Option.some.inj e
            exact HX.out.2.2.2.2.1 (h1.trans h2.symm)) (fun a ha k hk e => own_types HA.out.1 (HA.out.2.2.1.2.2.1 k hk) (by decide) ha (by show some (gs.getD k (0, 0)).1 = some a; rw [e]))
          have hb6 := HA.out.2.2.2.1.grown hgrow6 hsz6 (fun k hk => (HA.out.1.lt k hk).1)
          have HYN : Hid (Y ++ [q] = ((allO n).take (i + 1)).filter (fun y => decide (sweepL y = zs))) := Go.Lib.hid (by
            obtain ⟨⟨hil, hq⟩, _, _, _, hkp, _⟩ := HE.out
            rw [filter_next _ hil, hq, hkp, HY.out]; simp)
          have H6 : Hid (N2 + 1 = (Y ++ [q]).length ∧ With w6 W.heap.size n (.slice (some ⟨g6, 0, none⟩) (N2 + 1) c6) ((Y ++ [q]).map vals) (hs ++ [(p1, p2)]) ∧ With w6 w1.heap.size n (.slice (some ⟨g1, 0, none⟩) N c1) ((allO n).map vals) gs ∧ Below W.heap.size W w6 ∧ g6 ≠ g1 ∧ (∀ r ∈ hs ++ [(p1, p2)], ∃ k, k < i + 1 ∧ gs.getD k (0, 0) = r)) :=
            Go.Lib.hid ⟨by rw [List.length_append, ← HX.out.1]; rfl, hW6, hA6, hb6, hg61, fun r hr => by
              rw [List.mem_append, List.mem_singleton] at hr
              rcases hr with hr | rfl
              · obtain ⟨k, hk, e⟩ := HX.out.2.2.2.2.2 r hr; exact ⟨k, by omega, e⟩
              · exact ⟨i, by omega, HE.out.2.1⟩⟩
          clear hown6 hgrow6 hnew6 hob6 hfr hW6 hg61 hA6 hb6 hsz6 hck4
          go_wp2
          go_roundw
          case rel => exact ⟨i + 1, g6, c6, N2 + 1, Y ++ [q], hs ++ [(p1, p2)], by omega, by go_num, rfl, HYN, H6⟩
          case measure => simp [intOf]; omega
      · have hiN2 : i = N := by omega
        have HF : Hid (Swf zs Y ∧ Lists wr W.heap.size zs.length (.slice (some ⟨g2, 0, none⟩) N2 c2) (Y.map vals)) := Go.Lib.hid ⟨by
          rw [HY.out, List.take_of_length_le (by rw [HN.out]; omega)]
          have h1 := swf_spec hord
          rw [HL.out] at h1
          exact h1, by rw [HL.out]; exact HX.out.2.1.lists⟩
        have hlti : ¬ (i : Int) < (N : Int) := by omega
        clear hiN2
        go_wp2
        go_ret2
        exact ⟨_, Y, by rw [HR.out]; rfl, HF.out.1, HF.out.2, HX.out.2.2.2.1⟩

end Go.Proofs.Ytecbfoodkcgehab.SwfSpC

/-
  The kit's contract of slices.SortFunc, laid by the kit's own command at this translation.
-/
namespace Go.Proofs
open Go.Shelf Go.RowKit Go.Lib Go.Sort
shelf_lay_g SlLaysF.n6 Slsf 6 at Try 195 as Try.sortLL
end Go.Proofs

/-
  What a row of any elements of one cell owns behind a sort, and the sort of lists of lists by slices.Compare. Conditions: at most 2^20 lists of one length.
-/
namespace Go.Proofs.Ytecbfoodkcgehab.SortRowC
open Go.Shelf Go.RowKit Go.Lib Go.Sort
open SeesC IntsC ExactC CmpC ListsC ListsBC OutsMath

theorem row_behind {α : Type} [Inhabited α] {enc : α → Value} {w : World} {base g cap m : Nat} {e : TypeId} {os : Array Obj} {d : Array α} {xs : List Value}
    (h : w.ownsRow base e 1 (.slice (some ⟨g, 0, none⟩) d.size cap) d.size xs) : (sortWorld enc w g 0 m d os).ownsRow base e 1 (.slice (some ⟨g, 0, none⟩) d.size cap) d.size (d.toList.map enc) := by
  rcases h.2 with ⟨h0, _⟩ | ⟨g', cap', cur, h0, hbase, hb, h1, h2, h3, h4⟩
  · cases h0
  · cases h0
    refine ⟨by simp, .inr ⟨g, cap, putCells enc 0 d cur, rfl, hbase, ?_, h1, h2, by simp [putCells, h3], ?_⟩⟩
    · have hg : g < w.heap.size := (Array.getElem?_eq_some_iff.1 hb).1
      unfold sortWorld
      rw [heap_grow_old _ _ (by simpa using hg)]
      simp [putRow, mapBlock, Sort.ahead, Array.getElem?_modify, hb, onCells]
    · rw [Nat.mul_one]
      apply List.ext_getElem?
      intro j
      by_cases hj : j < d.size
      · rw [List.getElem?_take_of_lt hj, Array.getElem?_toList]
        simp [putCells, hj, show j < cur.size by omega]
      · rw [List.getElem?_take_eq_none (by omega), List.getElem?_eq_none (by simp; omega)]

theorem grown_behind {α : Type} [Inhabited α] {enc : α → Value} {w : World} {g m : Nat} {os : Array Obj} (d : Array α) : w.grownBy (sortWorld enc w g 0 m d os) (some g) := by
  unfold sortWorld
  refine ⟨rfl, rfl, rfl, by simp, fun k hk hne => ?_⟩
  rw [heap_grow_old _ _ (by simpa using hk)]
  have : g ≠ k := fun e => hne (by rw [e])
  simp [putRow, mapBlock, Sort.ahead, Array.getElem?_modify, this]

theorem holds_row {α : Type} [Inhabited α] {enc : α → Value} {w : World} {base g cap : Nat} {e : TypeId} {d : Array α}
    (h : w.ownsRow base e 1 (.slice (some ⟨g, 0, none⟩) d.size cap) d.size (d.toList.map enc)) : Holds enc w g 0 d := by
  intro j hj
  refine ⟨?_, ?_⟩
  · rw [Nat.zero_add, h.cellAt j (by omega)]
    simp [hj]
  · exact h.frozenAt (0 + j)

end Go.Proofs.Ytecbfoodkcgehab.SortRowC

/-
  Contract: slices.SortFunc with slices.Compare sorts lists of one length that are told apart. Conditions: 1 to 100000 lists.
-/
namespace Go.Proofs.Ytecbfoodkcgehab.SortAnyC
open Go.Shelf Go.RowKit Go.Lib Go.Sort
open SeesC IntsC ExactC CmpC ListsC ListsBC OutsMath SortRowC

theorem fin_map {β : Type} (A : List β) (x : β) {N : Nat} (h : A.length = N) : ((List.finRange N).map (fun i => A.getD i.val x)) = A := by
  apply List.ext_getElem
  · simp [h]
  · intro i h1 h2; simp [h2]

theorem swo_lists {N : Nat} (L : List (List Int)) : SWO (ltOf (fun (i j : Fin N) => cmpL (L.getD i.val []) (L.getD j.val []))) where
  irrefl x := by simp [ltOf, cmpL_same]
  trans x y z h1 h2 := by
    simp only [ltOf, decide_eq_true_eq] at *
    exact cmpL_lt_trans _ _ _ h1 h2
  ntrans x y z h1 h2 := by
    simp only [ltOf, decide_eq_false_iff_not] at *
    intro h3
    generalize L.getD x.val [] = a at *
    generalize L.getD y.val [] = b at *
    generalize L.getD z.val [] = c at *
    have e1 := cmpL_neg a b
    have e2 := cmpL_neg b c
    by_cases h4 : cmpL a b = 0
    · have := cmpL_eq a b h4; subst this; exact h2 h3
    · have h5 : cmpL b a < 0 := by omega
      exact h2 (cmpL_lt_trans b a c h5 h3)

theorem sees_behind {w w' : World} {g n : Nat} {v : Value} {xs : List Value} (h : Sees w v n xs) (hg : w.grownBy w' (some g)) (hne : v.ownBlock ≠ some g) : Sees w' v n xs :=
  sees_mark h hg (fun _ a ha e => hne (by rw [ha]; exact e.symm))

set_option maxHeartbeats 2000000 in
theorem sortLists_any (base n g c : Nat) (L : List (List Int)) (w : World) (hv : Lists w base n (.slice (some ⟨g, 0, none⟩) L.length c) (L.map vals)) (hn1 : 1 ≤ n) (hn : n ≤ 100) (hlen : ∀ x ∈ L, x.length = n) (hnd : L.Nodup) (hN : 1 ≤ L.length) (hN2 : L.length ≤ 100000) :
    Calls Try.prog 195 #[.slice (some ⟨g, 0, none⟩) L.length c, .func (.func 167) #[] #[]] w fun e w' => e = .returned (.tuple #[]) ∧ ∃ R, Sorted R ∧ R.Perm L ∧ Lists w' base n (.slice (some ⟨g, 0, none⟩) L.length c) (R.map vals) ∧ w.grownBy w' (some g) := by
  obtain ⟨gs, hg, ho, hin, hgd, hne⟩ := hv
  obtain ⟨N, hLN⟩ : ∃ N, L.length = N := ⟨_, rfl⟩
  have e0 : (L.map vals).length = N := by simp [hLN]
  rw [e0] at hg ho hin
  rw [hLN] at ho hne hN hN2 ⊢
  let enc : Fin N → Value := fun i => sl n (gs.getD i.val (0, 0))
  let cf : Fin N → Fin N → Int := fun i j => cmpL (L.getD i.val []) (L.getD j.val [])
  haveI : Inhabited (Fin N) := ⟨⟨0, hN⟩⟩
  obtain ⟨d, hdl⟩ : ∃ d : Array (Fin N), d = (List.finRange N).toArray := ⟨_, rfl⟩
  have hds : d.size = N := by rw [hdl]; simp
  have hdg : d.toList.map (fun i => gs.getD i.val (0, 0)) = gs := by rw [hdl]; exact fin_map gs (0, 0) hg
  have hdL : d.toList.map (fun i => L.getD i.val []) = L := by rw [hdl]; exact fin_map L [] hLN
  have hde : d.toList.map enc = gs.map (sl n) := by conv => rhs; rw [← hdg]
                                                    rw [List.map_map]; rfl
  have hdn : d.toList.Nodup := by rw [hdl]; exact List.nodup_finRange N
  have eg : ∀ args w, (callFunc 167 args).run Try.prog w = .ok (.enter 167 args) w := enters_of Try.func167 (by kernel_rfl) rfl
  have hod : w.ownsRow base 29 1 (.slice (some ⟨g, 0, none⟩) d.size c) d.size (d.toList.map enc) := by rw [hds, hde]; exact ho
  have hH : Holds enc w g 0 d := holds_row hod
  have hblk : g < w.heap.size := (own_block_lt ho (q := g) rfl).2
  have hblk2 : ∀ i : Fin N, (enc i).ownBlock ≠ some g := fun i e => by
    have h1 := hne (gs.getD i.val (0, 0)) (mem_getD (by rw [hg]; exact i.isLt))
    apply h1
    have e2 : some (gs.getD i.val (0, 0)).1 = some g := e
    rw [e2]; rfl
  have hsee : ∀ i : Fin N, Sees w (enc i) n (vals (L.getD i.val [])) := fun i => by
    have h1 := Sees.owns (hin i.val i.isLt)
    have e1 : (L.map vals).getD i.val [] = vals (L.getD i.val []) := by simp [show i.val < L.length by rw [hLN]; exact i.isLt]
    rw [e1] at h1; exact h1
  have hll : ∀ i : Fin N, (L.getD i.val []).length = n := fun i => hlen _ (by simp [show i.val < L.length by rw [hLN]; exact i.isLt])
  have hcmp : CmpReads Try.prog 167 #[] enc cf g 0 d.size w := fun m os dk hs x y =>
    compare_any (L.getD x.val []) (L.getD y.val []) ((hll x).trans (hll y).symm) _ (enc x) n (sees_behind (hsee x) (grown_behind dk) (hblk2 x)) (enc y) (sees_behind (hsee y) (grown_behind dk) (hblk2 y)) hn1 (by omega) _ rfl
  have hcon := Any.slices_SortFunc Try.sortLL enc (fun _ => rfl) cf (swo_lists L) 167 #[] g 0 c d w eg hcmp.lays hH hblk (by omega)
  change Calls Try.prog 195 _ _ _ at hcon
  rw [hds] at hcon
  refine hcon.mono ?_
  rintro e w' ⟨rfl, d', m, os, hp, hs, rfl⟩
  have hd's : d'.size = N := hp.1.trans hds
  have hperm : d'.toList.Perm d.toList := by
    have h1 := hp.2.2
    have all : ∀ x : Array (Fin N), x.size = N → (x.extract 0 N).toList = x.toList := fun x hx => by
      have h2 := Array.extract_size (xs := x)
      first
        | (rw [Array.extract_eq_self_of_le (by omega)])
        | (simp [List.extract, ← hx])
        | (simp [hx, List.take_of_length_le])
    rw [all d hds, all d' hd's] at h1
    exact h1
  refine ⟨rfl, d'.toList.map (fun i => L.getD i.val []), ?_, ?_, ?_, grown_behind d'⟩
  · unfold Sorted
    rw [List.pairwise_map, List.pairwise_iff_getElem]
    intro i j hi hj hij
    have hi2 : i < d'.size := by simpa using hi
    have hj2 : j < d'.size := by simpa using hj
    have h1 := hs i j (Nat.zero_le _) hij (by omega)
    rw [getElem!_pos d' i hi2, getElem!_pos d' j hj2] at h1
    simp only [ltOf, decide_eq_false_iff_not] at h1
    have h2 : ¬ cmpL (L.getD (d'[j]).val []) (L.getD (d'[i]).val []) < 0 := h1
    have h3 := cmpL_neg (L.getD (d'[i]).val []) (L.getD (d'[j]).val [])
    have h4 : cmpL (L.getD (d'[i]).val []) (L.getD (d'[j]).val []) ≠ 0 := fun e => by
      have e2 := cmpL_eq _ _ e
      have b1 : (d'[i]).val < L.length := by rw [hLN]; exact (d'[i]).isLt
      have b2 : (d'[j]).val < L.length := by rw [hLN]; exact (d'[j]).isLt
      have e3 : L[(d'[i]).val] = L[(d'[j]).val] := by simpa [b1, b2] using e2
      have e4 := (List.getElem_inj hnd).1 e3
      have e5 : d'[i] = d'[j] := Fin.ext e4
      have hn' : d'.toList.Nodup := hperm.nodup_iff.2 hdn
      have e6 : d'.toList[i] = d'.toList[j] := by simpa using e5
      have := (List.getElem_inj hn').1 e6
      omega
    show cmpL (L.getD (d'.toList[i]).val []) (L.getD (d'.toList[j]).val []) < 0
    simp only [Array.getElem_toList]
    omega
  · have h1 := hperm.map (fun i : Fin N => L.getD i.val [])
    rw [hdL] at h1
    exact h1
  · have hgp : (d'.toList.map (fun i : Fin N => gs.getD i.val (0, 0))).Perm gs := by
      have h1 := hperm.map (fun i : Fin N => gs.getD i.val (0, 0))
      rw [hdg] at h1
      exact h1
    have hRl : ((d'.toList.map (fun i : Fin N => L.getD i.val [])).map vals).length = N := by simp [hd's]
    refine ⟨d'.toList.map (fun i => gs.getD i.val (0, 0)), by rw [hRl]; simp [hd's], ?_, fun i hi => ?_, (hgp.map (·.1)).nodup_iff.2 hgd, fun p hp2 => hne p (hgp.mem_iff.1 hp2)⟩
    · rw [hRl]
      have h1 := row_behind (m := m) (os := os) (d := d') (enc := enc) (w := w) (base := base) (g := g) (cap := c) (e := 29) (xs := gs.map (sl n)) (by rw [hd's]; exact ho)
      rw [hd's] at h1
      have e1 : d'.toList.map enc = (d'.toList.map (fun i => gs.getD i.val (0, 0))).map (sl n) := by rw [List.map_map]; rfl
      rw [e1] at h1
      exact h1
    · rw [hRl] at hi
      have hi2 : i < d'.size := by omega
      have e1 : (d'.toList.map (fun i : Fin N => gs.getD i.val (0, 0))).getD i (0, 0) = gs.getD (d'[i]).val (0, 0) := by simp [hi2]
      have e2 : ((d'.toList.map (fun i : Fin N => L.getD i.val [])).map vals).getD i [] = (L.map vals).getD (d'[i]).val [] := by
        have b1 : (d'[i]).val < L.length := by rw [hLN]; exact (d'[i]).isLt
        simp [hi2, b1]
      rw [e1, e2]
      exact own_mark (hin (d'[i]).val (d'[i]).isLt) (grown_behind d') (fun a ha e => hblk2 d'[i] (by rw [show (enc d'[i]).ownBlock = some a from ha]; exact e.symm))

end Go.Proofs.Ytecbfoodkcgehab.SortAnyC

/-
  Contract: slices.SortFunc with slices.Compare leaves an empty list as it is. Conditions: none.
-/
namespace Go.Proofs.Ytecbfoodkcgehab.SortNoneC
open Go.Shelf Go.RowKit Go.Lib Go.Sort
open SeesC IntsC ExactC CmpC ListsC ListsBC OutsMath SortRowC

set_option maxRecDepth 100000 in
theorem compare_nil (W : World) :
    Calls Try.prog 167 #[.slice none 0 0, .slice none 0 0] W fun e w' => e = .returned (.int .i64 0) ∧ Drawn W w' := by
  go_enter Try.func167, Try.ntmps167
  go_wp2
  go_loopw [11] (fun kv wr => kv = .int .i64 0 ∧ wr = W) (fun _ _ => 0)
  case atStart => exact ⟨rfl, rfl⟩
  case round =>
    obtain ⟨rfl, rfl⟩ := hrel
    go_wp2
    go_ret
    exact ⟨rfl, Drawn.refl _⟩

theorem sortNone_any (base n g c : Nat) (w : World) (hv : Lists w base n (.slice (some ⟨g, 0, none⟩) 0 c) []) :
    Calls Try.prog 195 #[.slice (some ⟨g, 0, none⟩) 0 c, .func (.func 167) #[] #[]] w fun e w' => e = .returned (.tuple #[]) ∧ Lists w' base n (.slice (some ⟨g, 0, none⟩) 0 c) [] ∧ w.grownBy w' (some g) := by
  obtain ⟨gs, hg, ho, _, _, _⟩ := hv
  have hgs : gs = [] := List.eq_nil_of_length_eq_zero hg
  subst hgs
  let enc : Unit → Value := fun _ => .slice none 0 0
  let cf : Unit → Unit → Int := fun _ _ => 0
  obtain ⟨d, hdl⟩ : ∃ d : Array Unit, d = #[] := ⟨_, rfl⟩
  have hds : d.size = 0 := by rw [hdl]; rfl
  have eg : ∀ args w, (callFunc 167 args).run Try.prog w = .ok (.enter 167 args) w := enters_of Try.func167 (by kernel_rfl) rfl
  have hod : w.ownsRow base 29 1 (.slice (some ⟨g, 0, none⟩) d.size c) d.size (d.toList.map enc) := by rw [hdl]; exact ho
  have hH : Holds enc w g 0 d := holds_row hod
  have hblk : g < w.heap.size := (own_block_lt ho (q := g) rfl).2
  have hO : SWO (ltOf cf) := { irrefl := fun x => by simp [ltOf, cf], trans := fun x y z h1 h2 => by simp [ltOf, cf] at h1, ntrans := fun x y z h1 h2 => by simp [ltOf, cf] }
  have hcmp : CmpReads Try.prog 167 #[] enc cf g 0 d.size w := fun m os dk hs x y => compare_nil _
  have hcon := Any.slices_SortFunc Try.sortLL enc (fun _ => rfl) cf hO 167 #[] g 0 c d w eg hcmp.lays hH hblk (by omega)
  change Calls Try.prog 195 _ _ _ at hcon
  rw [hds] at hcon
  refine hcon.mono ?_
  rintro e w' ⟨rfl, d', m, os, hp, hs, rfl⟩
  have hd's : d'.size = 0 := hp.1.trans hds
  refine ⟨rfl, ⟨[], rfl, ?_, fun i hi => absurd hi (by simp), by simp, fun p hp => by simp at hp⟩, grown_behind d'⟩
  have h1 := row_behind (m := m) (os := os) (d := d') (enc := enc) (w := w) (base := base) (g := g) (cap := c) (e := 29) (xs := ([] : List (Nat × Nat)).map (sl n)) (by rw [hd's]; exact ho)
  rw [hd's] at h1
  have e2 : d'.toList = [] := by
    apply List.eq_nil_of_length_eq_zero
    simpa using hd's
  rw [e2] at h1
  exact h1

end Go.Proofs.Ytecbfoodkcgehab.SortNoneC

/-
  Contract: slices.SortFunc with slices.Compare leaves no slice as it is. Conditions: none.
-/
namespace Go.Proofs.Ytecbfoodkcgehab.SortNilC
open Go.RowKit

theorem insNil (fv : Value) (w : World) :
    Calls Try.prog 222 #[.slice none 0 0, .int .i64 0, .int .i64 0, fv] w fun e w' => e = .returned (.tuple #[]) ∧ w' = w := by
  go_enter Try.func222, Try.ntmps222
  go_wp2
  refine wp_loop_rounds 1 ?_
  rw [rounds_succ]
  go_wp2
  go_end0
  exact ⟨rfl, rfl⟩

set_option maxRecDepth 100000 in
set_option maxHeartbeats 2000000 in
theorem pdqNil (fv lim : Value) (w : World) :
    Calls Try.prog 210 #[.slice none 0 0, .int .i64 0, .int .i64 0, lim, fv] w fun e w' => e = .returned (.tuple #[]) ∧ w' = w := by
  go_enter Try.func210, Try.ntmps210
  go_wp2
  refine wp_loop_rounds 1 ?_
  rw [rounds_succ]
  go_wp2_with fail
  refine (insNil _ _).mono ?_
  rintro e _ ⟨rfl, rfl⟩
  go_wp2_with fail
  refine bodyPost_ret (results_none rfl _ _ _) rfl ?_
  exact ⟨rfl, rfl⟩

set_option maxHeartbeats 1000000 in
theorem sortNil_any (w : World) :
    Calls Try.prog 195 #[.slice none 0 0, .func (.func 167) #[] #[]] w fun e w' => e = .returned (.tuple #[]) ∧ w' = w := by
  go_enter Try.func195, Try.ntmps195
  go_wp2_with fail
  refine (Try.bits_Len 0 _ (by omega) (by omega)).mono ?_
  rintro e _ ⟨rfl, rfl⟩
  go_wp2_with fail
  refine (pdqNil _ _ _).mono ?_
  rintro e _ ⟨rfl, rfl⟩
  go_wp2_with fail
  go_end0
  exact ⟨rfl, rfl⟩

end Go.Proofs.Ytecbfoodkcgehab.SortNilC

/-
  Contract: the program lists the orders that are swept to one. Conditions: lists of at most 2^20 numbers.
-/
namespace Go.Proofs.Ytecbfoodkcgehab.SwfImC
open Go.RowKit Go.Shelf Go.Maps NumC SeesC IntsC ExactC OrdMath WordMath OrdFacts OrderC CmpC ListsC ListsEC ListsFC ListsGC ListsBC OutsMath WithC MapRowsC ByWordC RangeC ValsC SeqAllC EndsM SweepM StackM AllO SwfM SwfSpC SwfDelC SortAnyC SortNoneC SortNilC IterC WordFacts

/-- Sorted lists are returned, in memory of the call's own. -/
def SortTo (n : Nat) (Q : List (List Int) → Prop) (base : Nat) (w : World) (e : Ending) (w' : World) : Prop :=
  ∃ v L R, e = .returned v ∧ Q L ∧ Sorted R ∧ R.Perm L ∧ Lists w' base n v (R.map vals) ∧ Below w.heap.size w w'

set_option maxRecDepth 100000 in
set_option maxHeartbeats 2000000 in
theorem sortedFunc_any (base n gf : Nat) (lb : Array Value) (eg : ∀ args w, (callFunc gf args).run Try.prog w = .ok (.enter gf args) w) (S : List Value → Prop) (N : Nat) (hN : N ≤ 16384) (w : World) (hn1 : 1 ≤ n) (hn : n ≤ 100)
    (hseq : Hands (α := Value) Fence.wide 2 Try.prog gf lb (fun x => #[x]) (fun x _ => ∃ a l c, x = .slice a l c) KeepsWalks S (fun _ => True) N w) (Q : List (List Int) → Prop)
    (hQ : ∀ xs v w1, S xs → w1.ownsRow w.heap.size 29 1 v xs.length xs → Below w.heap.size w w1 → ∃ L, xs.length = L.length ∧ Lists w1 base n v (L.map vals) ∧ L.Nodup ∧ (∀ x ∈ L, x.length = n) ∧ L.length ≤ 100000 ∧ Q L) :
    Calls Try.prog 165 #[.func (.func gf) #[] lb, .func (.func 167) #[] #[]] w (SortTo n Q base w) := by
  have CC := Go.Lib.hid (collect_any gf lb eg S N hN w hseq)
  have HQ := Go.Lib.hid hQ
  clear hseq eg hQ
  go_enter Try.func165, Try.ntmps165
  go_wp2_with fail
  refine (CC.out).mono ?_
  rintro e w1 ⟨xs, v, rfl, hS, ho, hb⟩
  obtain ⟨L, hlen, hL, hnd, hxl, hL5, hq⟩ := HQ.out xs v w1 hS ho hb
  rcases ho.2 with ⟨rfl, h0⟩ | ⟨g, cap, cur, rfl, hgb, _⟩
  · have hL0 : L = [] := List.eq_nil_of_length_eq_zero (by rw [← hlen]; exact h0)
    subst hL0
    have H1 := Go.Lib.hid (And.intro hq (And.intro hL hb))
    clear hS ho hb hL hnd hxl hL5 hq hlen h0 CC HQ
    go_wp2_with fail
    refine (sortNil_any w1).mono ?_
    rintro e _ ⟨rfl, rfl⟩
    go_wp2_with fail
    go_ret
    exact ⟨_, [], [], rfl, H1.out.1, List.Pairwise.nil, List.Perm.refl _, H1.out.2.1, H1.out.2.2⟩
  · rw [hlen] at hL ⊢
    obtain ⟨K, hK⟩ : ∃ K, L.length = K := ⟨_, rfl⟩
    have HK := Go.Lib.hid hK
    by_cases h0 : K = 0
    · subst h0
      have hL0 : L = [] := List.eq_nil_of_length_eq_zero hK
      subst hL0
      rw [hK] at hL ⊢
      have CS := Go.Lib.hid (sortNone_any base n g cap w1 hL)
      have H1 := Go.Lib.hid (And.intro hq (And.intro hb hgb))
      clear hS ho hb hL hnd hxl hL5 hq hlen hK CC HQ HK
      go_wp2_with fail
      refine (CS.out).mono ?_
      rintro e w2 ⟨rfl, hL2, hg2⟩
      have H2 := Go.Lib.hid (And.intro hL2 (H1.out.2.1.grown hg2 H1.out.2.1.size (fun k hk => by cases hk; exact H1.out.2.2)))
      clear hL2 hg2
      go_wp2_with fail
      go_ret
      exact ⟨_, [], [], rfl, H1.out.1, List.Pairwise.nil, List.Perm.refl _, H2.out.1, H2.out.2⟩
    · have CS := Go.Lib.hid (sortLists_any base n g cap L w1 hL hn1 hn hxl hnd (by omega) hL5)
      rw [hK] at CS ⊢
      have H1 := Go.Lib.hid (And.intro hq (And.intro hb hgb))
      clear hS ho hb hL hnd hxl hL5 hq hlen hK CC HQ h0
      go_wp2_with fail
      refine (CS.out).mono ?_
      rintro e w2 ⟨rfl, R, hs, hp, hL2, hg2⟩
      have H2 := Go.Lib.hid (And.intro hs (And.intro hp (And.intro hL2 (H1.out.2.1.grown hg2 H1.out.2.1.size (fun k hk => by cases hk; exact H1.out.2.2)))))
      clear hs hp hL2 hg2
      go_wp2_with fail
      go_ret
      exact ⟨_, L, R, rfl, H1.out.1, H2.out.1, H2.out.2.1, H2.out.2.2.1, H2.out.2.2.2⟩

theorem words_filter (zs : List Int) (n N : Nat) (hN : (allW n).length = N) :
    ((List.range N).filter (fun j => swOk zs ((allW n).getD j ByteArray.empty))).map (fun j => beforeOf zs ((allW n).getD j ByteArray.empty)) = ((allW n).filter (swOk zs)).map (beforeOf zs) := by
  have e1 : allW n = (List.range N).map (fun j => (allW n).getD j ByteArray.empty) := by
    apply List.ext_getElem
    · simp [hN]
    · intro i h1 h2; simp [h1]
  have e2 : (allW n).filter (swOk zs) = ((List.range N).filter (fun j => swOk zs ((allW n).getD j ByteArray.empty))).map (fun j => (allW n).getD j ByteArray.empty) := by
    conv => lhs; rw [e1]
    rw [List.filter_map]
    rfl
  rw [e2, List.map_map]
  rfl

theorem swOk_iff (zs : List Int) (w : ByteArray) : swOk zs w = decide (swWord (beforeOf zs w) = w.data.toList) := by
  unfold swOk
  rw [decide_eq_decide]
  constructor
  · intro h
    have h1 := congrArg (fun b => b.data.toList) h
    simpa [txt] using h1
  · intro h; rw [h]; cases w; simp [txt]

set_option maxRecDepth 100000 in
set_option maxHeartbeats 4000000 in
theorem implSwf (zs : List Int) (hz : zs.length ≤ 1048576) (W : World) (v : Value) (n : Nat) (hv : Sees W v n (vals zs)) :
    Calls Try.prog 93 #[v] W fun e w' => SwfTo W zs e w' := by
  have hl : zs.length = n := by simpa using hv.1
  have hn : n ≤ 1048576 := by omega
  obtain ⟨r, hr⟩ : ∃ r, isOrd zs = r := ⟨_, rfl⟩
  have CO := Go.Lib.hid (fun W' (hs' : Sees W' v n (vals zs)) => implOrder_any W' v n zs r hs' hn hr)
  have HV := Go.Lib.hid hv
  have HR := Go.Lib.hid hr
  obtain ⟨_, ad, cap, rfl, _, _⟩ := hv
  clear hr
  cases r with
  | false =>
    have hno : ¬ Ord zs := of_decide_eq_false HR.out
    go_enter Try.func93, Try.ntmps93
    go_wp2_with fail
    refine (CO.out _ HV.out).mono ?_
    rintro e w1 ⟨rfl, hd⟩
    have H1 := Go.Lib.hid hd
    clear hd
    go_wp2_with fail
    go_ret2
    exact ⟨_, [], by rw [HR.out]; rfl, by unfold Swf; rw [if_neg hno], lists_zero (World.ownsRow_made (base := W.heap.size) (e := 29) (size := 1) w1 #[] 0 H1.out.size (by unfold maxLen; omega) rfl), H1.out.alloc H1.out.size _⟩
  | true =>
    have hord : Ord zs := of_decide_eq_true HR.out
    have hn7 : n ≤ 7 := by have := hord.2.1; omega
    have hn1 : 1 ≤ n := by have := hord.1; omega
    have CB := Go.Lib.hid (fun W' (hs' : Sees W' (.slice ad n cap) n (vals zs)) => byWord_any zs hord W' _ n hs')
    have HO := Go.Lib.hid (And.intro hord hl)
    clear hord hl
    go_enter Try.func93, Try.ntmps93
    go_wp2_with fail
    refine (CO.out _ HV.out).mono ?_
    rintro e w1 ⟨rfl, hd⟩
    have H1 := Go.Lib.hid hd
    clear hd CO
    go_wp2_with fail
    refine (CB.out _ (HV.out.grow H1.out)).mono ?_
    rintro e w2 ⟨b, gs, rfl, hM⟩
    have H2 := Go.Lib.hid hM
    clear hM CB
    have CD := Go.Lib.hid (delete_any zs HO.out.1 n (allW n).length b HO.out.2 rfl w1 w2 gs H2.out)
    go_wp2_with fail
    refine (CD.out).mono ?_
    rintro e w3 ⟨rfl, ⟨es, pd, R, hR, hperm, hpd, hmap⟩, hrows, hbel⟩
    have H3 := Go.Lib.hid (And.intro (And.intro hR (And.intro hperm (And.intro hpd hmap))) (And.intro hrows hbel))
    clear hR hperm hpd hmap hrows hbel CD
    go_wp2_with fail
    refine (values_any (some b) w3).mono ?_
    rintro e _ ⟨rfl, rfl⟩
    have hba : Below w3.heap.size w3 (w3.alloc (.cells #[.map (some b)] 112)) := (Below.refl _ _).alloc (Nat.le_refl _) _
    have CF : Hid (Calls Try.prog 165 #[.func (.func 196) #[] #[.pointer (some ⟨w3.heap.size, 0, none⟩)], .func (.func 167) #[] #[]] (w3.alloc (.cells #[.map (some b)] 112))
        (SortTo n (fun L => L.Perm (((allW n).filter (swOk zs)).map (beforeOf zs))) W.heap.size (w3.alloc (.cells #[.map (some b)] 112)))) := Go.Lib.hid (by
      obtain ⟨⟨hR, hperm, hpd, hmap⟩, hrows, hbel⟩ := H3.out
      obtain ⟨hgl, _, _, hnd, _, _⟩ := H2.out
      have hww : ∀ j, j < (allW n).length → Word ((allW n).getD j ByteArray.empty) ∧ ((allW n).getD j ByteArray.empty).size = 2 * n := fun j hj => by
        have e : (allW n).getD j ByteArray.empty = (allW n)[j]'hj := by simp [hj]
        rw [e]; exact all_mem hn1 hn7 (List.getElem_mem hj)
      refine sortedFunc_any W.heap.size n _ _ (enters_of Try.func196 (by kernel_rfl) rfl) _ _ ?_ _ hn1 (by omega)
        (values_hands 2 b (allW n).length w3.heap.size (es.filter (fun p => !pd p.1 p.2)) (gs.map (sl n)) R hR (fun v hv => by obtain ⟨p, _, rfl⟩ := List.mem_map.1 hv; exact ⟨_, _, _, rfl⟩) (by omega) _ (by simp) (Boxed.new w3 112 (.map (some b))).cell (map_kept hmap hba)) _ ?_
      · have h1 : (strKeys (DataW.map (es.filter (fun p => !pd p.1 p.2)))).length ≤ es.length := by
          show ((es.filter (fun p => !pd p.1 p.2)).map (fun p => strOf p.1)).length ≤ _
          rw [List.length_map]
          exact List.length_filter_le _ _
        have h2 := hperm.length_eq
        unfold prs at h2
        rw [List.length_map, List.length_range] at h2
        have h3 := Rank4C.all_16k (m := n) hn7
        exact Nat.le_trans h1 (by omega)
      · rintro xs v w4 ⟨ss, hss, hxs⟩ ho hb
        obtain ⟨idx, hidx, hxe⟩ := collected_vals (ws := allW n) (vs := gs.map (sl n)) (N := (allW n).length) (pd := pd) rfl (words_all hn1 hn7).1 hperm hss hxs
        have hjl : ∀ j ∈ idx, j < (allW n).length := fun j hj => List.mem_range.1 (List.mem_filter.1 (hidx.mem_iff.1 hj)).1
        have hvs : ∀ j, j < (allW n).length → (gs.map (sl n)).getD j undef = sl n (gs.getD j (0, 0)) := fun j hj => by simp [show j < gs.length by omega]
        have hxe2 : xs = (idx.map (fun j => gs.getD j (0, 0))).map (sl n) := by
          rw [hxe, List.map_map]
          exact List.map_congr_left (fun j hj => hvs j (hjl j hj))
        have hok : (List.range (allW n).length).filter (fun j => !pd (.string ((allW n).getD j ByteArray.empty).data.toList) (.held ((gs.map (sl n)).getD j undef))) = (List.range (allW n).length).filter (fun j => swOk zs ((allW n).getD j ByteArray.empty)) := by
          apply List.filter_congr
          intro j hj
          rw [List.mem_range] at hj
          rw [hvs j hj, hpd j _ hj, swOk_iff, Bool.not_not]
        rw [hok] at hidx
        have hidn : idx.Nodup := hidx.nodup_iff.2 (List.Pairwise.filter _ List.nodup_range)
        have hLp : (idx.map (fun j => beforeOf zs ((allW n).getD j ByteArray.empty))).Perm (((allW n).filter (swOk zs)).map (beforeOf zs)) := by
          rw [← words_filter zs n _ rfl]
          exact hidx.map _
        have hbb := hba.trans (hb.mono hba.size)
        refine ⟨idx.map (fun j => beforeOf zs ((allW n).getD j ByteArray.empty)), by rw [hxe2]; simp, ?_, ?_, ?_, ?_, hLp⟩
        · refine With.lists (gs := idx.map (fun j => gs.getD j (0, 0))) ⟨by simp, ?_, ?_, ?_⟩
          · have h1 := own_lower ho (base' := W.heap.size) (by have h1 := H1.out.size; have h2 := hbel.size; simp; omega)
            rw [hxe2] at h1
            simpa using h1
          · intro i hi
            have hi2 : i < idx.length := by simpa using hi
            have hjl2 := hjl idx[i] (List.getElem_mem hi2)
            have h1 := own_lower (kept_call (hrows idx[i] hjl2) hbb) (base' := W.heap.size) H1.out.size
            have e1 : (idx.map (fun j => gs.getD j (0, 0))).getD i (0, 0) = gs.getD idx[i] (0, 0) := by
              rw [List.getD_eq_getElem?_getD, List.getElem?_eq_getElem (by simpa using hi2), Option.getD_some, List.getElem_map]
            have e2 : ((idx.map (fun j => beforeOf zs ((allW n).getD j ByteArray.empty))).map vals).getD i [] = vals (beforeOf zs ((allW n).getD idx[i] ByteArray.empty)) := by
              rw [List.getD_eq_getElem?_getD, List.getElem?_eq_getElem (by simpa using hi2), Option.getD_some, List.getElem_map, List.getElem_map]
            rw [e1, e2]
            exact h1
          · rw [List.map_map]
            unfold List.Nodup
            rw [List.pairwise_map]
            refine List.Pairwise.imp_of_mem ?_ hidn
            intro i j hi hj hij e
            exact nodup_ne hnd (by have := hjl i hi; omega) (by have := hjl j hj; omega) hij e
        · unfold List.Nodup
          rw [List.pairwise_map]
          refine List.Pairwise.imp_of_mem ?_ hidn
          intro i j hi hj hij e
          have hi2 := (List.mem_filter.1 (hidx.mem_iff.1 hi)).2
          have hj2 := (List.mem_filter.1 (hidx.mem_iff.1 hj)).2
          unfold swOk at hi2 hj2
          rw [decide_eq_true_eq] at hi2 hj2
          rw [e, hj2] at hi2
          have hwn := (words_all hn1 hn7).1
          have e3 : (allW n)[i]'(hjl i hi) = (allW n)[j]'(hjl j hj) := by simpa [hjl i hi, hjl j hj] using hi2.symm
          exact hij ((List.getElem_inj hwn).1 e3)
        · intro x hx
          obtain ⟨j, hj, rfl⟩ := List.mem_map.1 hx
          rw [before_len, HO.out.2]
        · rw [List.length_map, hidx.length_eq]
          have h1 := List.length_filter_le (fun j => swOk zs ((allW n).getD j ByteArray.empty)) (List.range (allW n).length)
          rw [List.length_range] at h1
          have h3 := Rank4C.all_16k (m := n) hn7
          omega)
    have H4 := Go.Lib.hid (H1.out.trans ((H3.out.2.2.alloc H3.out.2.2.size (.cells #[.map (some b)] 112)).mono H1.out.size))
    clear hba
    go_wp2_with fail
    refine (CF.out).mono ?_
    rintro e w5 ⟨v5, L, Rr, rfl, hQ, hs, hp, hL, hb5⟩
    have H5 := Go.Lib.hid (And.intro (swf_impl HO.out.1 hs (hp.trans (by rw [HO.out.2]; exact hQ))) (And.intro hL (H4.out.trans (hb5.mono H4.out.size))))
    obtain ⟨ad5, l5, cap5, rfl⟩ : ∃ a l c, v5 = .slice a l c := by
      obtain ⟨_, _, h2, _⟩ := hL
      obtain ⟨_, a, c, e, _, _⟩ := Sees.owns h2
      exact ⟨_, _, _, e⟩
    clear hQ hs hp hL hb5
    go_wp2_with fail
    go_ret2
    exact ⟨_, Rr, by rw [HR.out]; rfl, H5.out.1, by rw [HO.out.2]; exact H5.out.2.1, H5.out.2.2⟩

end Go.Proofs.Ytecbfoodkcgehab.SwfImC

/-
  The contracts of both sides of SweptFrom, in the form in which the walk of the exact law takes them. Conditions: lists of at most 2^20 numbers.
-/
namespace Go.Proofs.Ytecbfoodkcgehab.SwfLC
open Go.RowKit SeesC IntsC ExactC OrdMath ListsC ListsEC OutsMath SwfM SwfSpC SwfImC

theorem swf_to {W W' : World} {zs : List Int} {e : Ending} {b : Bool} {m : Nat} (hb : isOrd zs = b) (hm : (if b = true then zs.length else 0) = m) (h : SwfTo W zs e W') : LLTo W e W' m b (Swf zs) := by
  obtain ⟨v, R, he, hR, hL, hb2⟩ := h
  refine ⟨v, R, by rw [he, hb], hR, ?_, hb2⟩
  cases b with
  | true => rw [if_pos rfl] at hm; rw [← hm]; exact hL
  | false =>
    have hno : ¬ Ord zs := of_decide_eq_false hb
    unfold Swf at hR
    rw [if_neg hno] at hR
    subst hR
    exact lists_nil hL

theorem swf_m7 {zs : List Int} {b : Bool} {m : Nat} (hb : isOrd zs = b) (hm : (if b = true then zs.length else 0) = m) : m ≤ 7 := by
  cases b with
  | true => have ho : Ord zs := of_decide_eq_true hb; rw [if_pos rfl] at hm; have := ho.2.1; omega
  | false => rw [if_neg (by simp)] at hm; omega

theorem swf_16k {zs : List Int} {R : List (List Int)} (h : Swf zs R) : R.length ≤ 16384 := by have := (swf_len h).1; omega

theorem specSwfL (zs : List Int) (b : Bool) (m : Nat) (hb : isOrd zs = b) (hm : (if b = true then zs.length else 0) = m) (hz : zs.length ≤ 1048576) (W : World) (v : Value) (n : Nat) (hv : Sees W v n (vals zs)) :
    Calls Try.prog 94 #[v] W fun e w' => LLTo W e w' m b (Swf zs) :=
  (specSwf zs hz W v n hv).mono fun _ _ h => swf_to hb hm h

theorem implSwfL (zs : List Int) (b : Bool) (m : Nat) (hb : isOrd zs = b) (hm : (if b = true then zs.length else 0) = m) (hz : zs.length ≤ 1048576) (W : World) (v : Value) (n : Nat) (hv : Sees W v n (vals zs)) :
    Calls Try.prog 93 #[v] W fun e w' => LLTo W e w' m b (Swf zs) :=
  (implSwf zs hz W v n hv).mono fun _ _ h => swf_to hb hm h

end Go.Proofs.Ytecbfoodkcgehab.SwfLC

/-
  What the answers of chapter 4 on sweeps, record places, blocks have to do with one another. Conditions: short lists. Plain facts.
-/
namespace Go.Proofs.Ytecbfoodkcgehab.SwsFacts
open NumC OrdMath WordMath OrdFacts EndsM SweepM StackM SwfM

theorem rec_first {zs : List Int} (h : Ord zs) : ∀ k, 1 ≤ k → k ≤ zs.length → ∃ t, (recTo zs k).1 = 0 :: t
  | 0, h1, _ => by omega
  | 1, _, hk => by
    obtain ⟨q, hq, _⟩ := h.getD (k := 0) (by omega)
    have e : recTo zs 1 = ([] ++ [((0 : Nat) : Int)], zs.getD 0 0) := rec_yes (m := 0) (r := []) rfl (by omega)
    exact ⟨[], by rw [e]; rfl⟩
  | k + 2, _, hk => by
    obtain ⟨t, ht⟩ := rec_first h (k + 1) (by omega) (by omega)
    obtain ⟨r, m, hr⟩ : ∃ r m, recTo zs (k + 1) = (r, m) := ⟨_, _, rfl⟩
    rw [hr] at ht
    simp only at ht
    by_cases hlt : m < zs.getD (k + 1) 0
    · rw [rec_yes hr hlt]
      exact ⟨t ++ [((k + 1 : Nat) : Int)], by rw [ht]; rfl⟩
    · rw [rec_no hr hlt]
      exact ⟨t, ht⟩

/-- Where the i-th block begins. -/
def beg (l : List Int) (i : Nat) : Int := (l.take i).sum

/-- Each block has its own numbers. -/
def Own (zs : List Int) (l : List Int) : Prop := ∀ i, i < l.length → 0 ≤ beg l i ∧ 1 ≤ l.getD i 0 ∧ beg l (i + 1) = beg l i + l.getD i 0 ∧ beg l (i + 1) ≤ (zs.length : Int) ∧
  ∀ k : Nat, beg l i ≤ (k : Int) → (k : Int) < beg l (i + 1) → beg l i < zs.getD k 0 ∧ zs.getD k 0 ≤ beg l (i + 1)

theorem beg_next {l : List Int} {i : Nat} (h : i < l.length) : beg l (i + 1) = beg l i + l.getD i 0 := by
  unfold beg
  rw [List.take_succ_eq_append_getElem h, List.sum_append]
  simp [h]

theorem beg_snoc (l : List Int) (x : Int) {i : Nat} (h : i ≤ l.length) : beg (l ++ [x]) i = beg l i := by
  unfold beg
  rw [List.take_append_of_le_length h]

theorem beg_all (l : List Int) : beg l l.length = l.sum := by unfold beg; rw [List.take_length]

structure BInv (zs : List Int) (k : Nat) (l : List Int) (c : Nat) (g : Int) : Prop where
  sum : l.sum = (c : Int)
  le : c ≤ k
  own : Own zs l
  low : ∀ j, j < c → zs.getD j 0 ≤ (c : Int)
  max_ : ∀ j, j < k → zs.getD j 0 ≤ g
  some_ : 1 ≤ k → ∃ j, j < k ∧ zs.getD j 0 = g

theorem high {zs : List Int} (h : Ord zs) {c : Nat} (hc : c ≤ zs.length) (hl : ∀ j, j < c → zs.getD j 0 ≤ (c : Int)) : ∀ j, c ≤ j → j < zs.length → (c : Int) < zs.getD j 0 := by
  intro j hcj hj
  have hp : (zs.take c).Perm (iota c) := by
    refine perm_of_sub _ _ (h.2.2.2.sublist (List.take_sublist _ _)) ?_ (by rw [iota_len, List.length_take]; omega)
    intro x hx
    obtain ⟨i, hi, e⟩ := List.mem_iff_getElem.1 hx
    rw [List.length_take] at hi
    rw [List.getElem_take] at e
    have h1 := hl i (by omega)
    have e2 : zs.getD i 0 = x := by rw [← e]; simp [show i < zs.length by omega]
    have h2 := h.2.2.1 x (List.mem_of_mem_take hx)
    exact mem_iota.2 (by omega)
  have ej : zs.getD j 0 = zs[j]'hj := by simp [hj]
  have h3 := h.2.2.1 (zs.getD j 0) (by rw [ej]; exact List.getElem_mem _)
  apply Classical.byContradiction
  intro hn
  have h4 : zs.getD j 0 ∈ zs.take c := hp.mem_iff.2 (mem_iota.2 (by omega))
  obtain ⟨i, hi, e⟩ := List.mem_iff_getElem.1 h4
  rw [List.length_take] at hi
  rw [List.getElem_take, ej] at e
  have := (List.getElem_inj h.2.2.2).1 e
  omega

theorem binv {zs : List Int} (h : Ord zs) : ∀ k, k ≤ zs.length → BInv zs k (blkTo zs k).1 (blkTo zs k).2.1 (blkTo zs k).2.2
  | 0, _ => ⟨rfl, Nat.le_refl _, fun i hi => by simp [blkTo] at hi, fun j hj => by simp [blkTo] at hj, fun j hj => by omega, fun h => by omega⟩
  | k + 1, hk => by
    have ih := binv h k (by omega)
    obtain ⟨l, c, g, hb⟩ : ∃ l c g, blkTo zs k = (l, c, g) := ⟨_, _, _, rfl⟩
    rw [hb] at ih
    simp only at ih
    obtain ⟨m, hm⟩ : ∃ m, max g (zs.getD k 0) = m := ⟨_, rfl⟩
    have hmx : ∀ j, j < k + 1 → zs.getD j 0 ≤ m := fun j hj => by
      by_cases e : j = k
      · rw [e]; omega
      · have := ih.max_ j (by omega); omega
    have hms : ∃ j, j < k + 1 ∧ zs.getD j 0 = m := by
      by_cases hg : g ≤ zs.getD k 0
      · exact ⟨k, by omega, by omega⟩
      · by_cases hk0 : k = 0
        · subst hk0
          have e : g = 0 := by have := hb; simp [blkTo] at this; exact this.2.2.symm
          obtain ⟨q, hq, _⟩ := h.getD (k := 0) (by omega)
          omega
        · obtain ⟨j, hj, e⟩ := ih.some_ (by omega)
          exact ⟨j, by omega, by omega⟩
    by_cases hz : m = (k : Int) + 1
    · rw [blk_yes hb hm hz]
      have hsum : (l ++ [(k : Int) + 1 - (c : Int)]).sum = ((k + 1 : Nat) : Int) := by rw [List.sum_append, ih.sum]; simp; omega
      have hle := ih.le
      refine ⟨hsum, Nat.le_refl _, ?_, ?_, hmx, fun _ => hms⟩
      · intro i hi
        rw [List.length_append, List.length_singleton] at hi
        by_cases hil : i < l.length
        · obtain ⟨a1, a2, a3, a4, a5⟩ := ih.own i hil
          rw [beg_snoc _ _ (by omega), beg_snoc _ _ (by omega)]
          have e : (l ++ [(k : Int) + 1 - (c : Int)]).getD i 0 = l.getD i 0 := by
            rw [List.getD_eq_getElem?_getD, List.getElem?_append_left hil, ← List.getD_eq_getElem?_getD]
          rw [e]
          exact ⟨a1, a2, a3, a4, a5⟩
        · have hie : i = l.length := by omega
          subst hie
          have b1 : beg (l ++ [(k : Int) + 1 - (c : Int)]) l.length = (c : Int) := by rw [beg_snoc _ _ (Nat.le_refl _), beg_all, ih.sum]
          have b2 : beg (l ++ [(k : Int) + 1 - (c : Int)]) (l.length + 1) = ((k + 1 : Nat) : Int) := by
            have := beg_all (l ++ [(k : Int) + 1 - (c : Int)])
            rw [List.length_append, List.length_singleton, hsum] at this
            exact this
          have e : (l ++ [(k : Int) + 1 - (c : Int)]).getD l.length 0 = (k : Int) + 1 - (c : Int) := by simp
          rw [b1, b2, e]
          refine ⟨by omega, by omega, by omega, by omega, fun j hj1 hj2 => ⟨high h (by omega) ih.low j (by omega) (by omega), ?_⟩⟩
          have := hmx j (by omega)
          omega
      · intro j hj
        have := hmx j hj
        show zs.getD j 0 ≤ ((k + 1 : Nat) : Int)
        omega
    · rw [blk_no hb hm hz]
      exact ⟨ih.sum, Nat.le_succ_of_le ih.le, ih.own, ih.low, hmx, fun _ => hms⟩

theorem blk_end {zs : List Int} (h : Ord zs) : Own zs (blkTo zs zs.length).1 ∧ (blkTo zs zs.length).1.sum = (zs.length : Int) := by
  have hi := binv h zs.length (Nat.le_refl _)
  refine ⟨hi.own, ?_⟩
  -- the last round closes a block
  obtain ⟨n, hn⟩ : ∃ n, zs.length = n + 1 := ⟨zs.length - 1, by have := h.1; omega⟩
  have hi2 := binv h n (by omega)
  obtain ⟨l, c, g, hb⟩ : ∃ l c g, blkTo zs n = (l, c, g) := ⟨_, _, _, rfl⟩
  rw [hb] at hi2
  simp only at hi2
  obtain ⟨m, hm⟩ : ∃ m, max g (zs.getD n 0) = m := ⟨_, rfl⟩
  have hz : m = (n : Int) + 1 := by
    obtain ⟨j, hj, e⟩ := ord_surj h (p := n) (by omega)
    have hub : ∀ j, j < zs.length → zs.getD j 0 ≤ (n : Int) + 1 := fun j hj => by
      have ej : zs.getD j 0 = zs[j]'hj := by simp [hj]
      have := (h.2.2.1 (zs.getD j 0) (by rw [ej]; exact List.getElem_mem _)).2
      omega
    have h1 := hub n (by omega)
    by_cases ejn : j = n
    · subst ejn
      by_cases hn0 : j = 0
      · subst hn0
        have eg : g = 0 := by have := hb; simp [blkTo] at this; exact this.2.2.symm
        omega
      · obtain ⟨q, hq, eq⟩ := hi2.some_ (by omega)
        have := hub q (by omega)
        omega
    · have h2 := hi2.max_ j (by omega)
      obtain ⟨q, hq, eq⟩ := hi2.some_ (by omega)
      have := hub q (by omega)
      omega
  have e := blk_yes hb hm hz
  rw [hn, e]
  show (l ++ [(n : Int) + 1 - (c : Int)]).sum = _
  rw [List.sum_append, hi2.sum]
  simp
  omega

theorem facts_rec (zs : List Int) (hz : zs.length ≤ 8) : ∃ recs one, recAns zs = (recs, one) ∧ recs.length ≤ 8 ∧ (one = true → ∃ t, recs = 0 :: t) := by
  by_cases ho : Ord zs
  · refine ⟨_, true, by unfold recAns; rw [if_pos ho], Nat.le_trans (rec_len zs zs.length) hz, fun _ => rec_first ho zs.length ho.1 (Nat.le_refl _)⟩
  · exact ⟨[], false, by unfold recAns; rw [if_neg ho], by simp, fun h => by cases h⟩

theorem facts_blk (zs : List Int) (hz : zs.length ≤ 8) : ∃ bl three, blkAns zs = (bl, three) ∧ bl.length ≤ 8 ∧ (three = true → Own zs bl ∧ bl.sum = (zs.length : Int)) := by
  by_cases ho : Ord zs
  · refine ⟨_, true, by unfold blkAns; rw [if_pos ho], Nat.le_trans (blk_len zs zs.length).1 hz, fun _ => blk_end ho⟩
  · exact ⟨[], false, by unfold blkAns; rw [if_neg ho], by simp, fun h => by cases h⟩

theorem facts_many (zs : List Int) : ∃ mn ok, sweepsAns zs = (mn, ok) ∧ isOrd zs = ok ∧ (ok = true → ∃ M : Nat, mn = M ∧ M < zs.length ∧ zs.length ≤ 7 ∧ 1 ≤ zs.length ∧ swN zs M = iota zs.length ∧ (∀ j, j < M → swN zs j ≠ iota zs.length) ∧ ∀ k, Ord (swN zs k)) := by
  by_cases ho : Ord zs
  · have h := many_is ho
    exact ⟨_, true, by unfold sweepsAns; rw [if_pos ho], decide_eq_true ho, fun _ => ⟨many zs, rfl, h.2.2, ho.2.1, ho.1, h.1, h.2.1, fun k => ord_swN ho k⟩⟩
  · exact ⟨0, false, by unfold sweepsAns; rw [if_neg ho], decide_eq_false ho, fun h => by cases h⟩

end Go.Proofs.Ytecbfoodkcgehab.SwsFacts

/-
  What FnSweeps's walk needs besides: worlds behind a loop's head, the orders that are swept to one. Conditions: as stated.
-/
namespace Go.Proofs.Ytecbfoodkcgehab.SwsMore
open Go.RowKit OrdMath SweepM SwfM

theorem since_on {W A B : World} (t : Below W.heap.size W A) (b : Below A.heap.size A B) : Below W.heap.size W B := t.trans (b.mono t.size)

theorem swf_sweeps {ys : List Int} {two : Bool} {m : Nat} {R : List (List Int)} (h1 : isOrd ys = two) (h2 : (if two = true then ys.length else 0) = m) (hR : Swf ys R) : ∀ q ∈ R, sweepAns q = (ys, true) ∧ q.length = m ∧ q.length ≤ 8 := by
  intro q hq
  unfold Swf at hR
  by_cases ho : Ord ys
  · rw [if_pos ho] at hR
    have h3 := (hR.2 q).1 hq
    have ht : two = true := by rw [← h1]; exact decide_eq_true ho
    rw [if_pos ht] at h2
    exact ⟨by unfold sweepAns; rw [if_pos h3.1, h3.2.2], by omega, by have := ho.2.1; omega⟩
  · rw [if_neg ho] at hR
    rw [hR] at hq
    simp at hq

end Go.Proofs.Ytecbfoodkcgehab.SwsMore

/-
  Contracts of the model's drawing of inputs: a cursor over bytes gives numbers within their bounds, texts out of lists, and writes nothing but itself. Conditions: at most 65536 bytes, and fewer than 2^61 steps.
-/
namespace Go.Proofs.Ytecbfoodkcgehab.CurC
open Go.RowKit SeesC

/-- Block B is a cursor that has gone at most lim steps. -/
def Cur (w : World) (B lim : Nat) : Prop :=
  ∃ (a : Option Addr) (n cap p : Nat) (zs : List Int) (sd : Int), w.heap[B]? = some (.cells #[.slice a n cap, .int .i64 p, .int .u64 sd] 74 (0, 0)) ∧ p ≤ lim ∧ Sees w (.slice a n cap) n (zs.map (Value.int .u8)) ∧ (∀ z ∈ zs, 0 ≤ z ∧ z ≤ 255) ∧ n ≤ 65536 ∧
    (∀ x, a = some x → 0 < n → x.block < B) ∧ 0 ≤ sd ∧ sd ≤ 18446744073709551615

/-- A number within bounds comes back; the cursor has gone on; nothing else has turned. -/
def Drew (B lim : Nat) (hi : Int) (w : World) (e : Ending) (w' : World) : Prop :=
  ∃ x : Int, e = .returned (.int .i64 x) ∧ 0 ≤ x ∧ x ≤ hi ∧ Cur w' B lim ∧ w.grownBy w' (some B)

theorem cell_in {w : World} {B : Nat} {cs : Array Value} {e : TypeId} (h : w.heap[B]? = some (.cells cs e (0, 0))) (j : Nat) : w.cell? ⟨B, j, none⟩ = cs[j]? := cell_of_row w B j cs e (0, 0) h

theorem wrap_bd (x : Int) : 0 ≤ IntKind.u64.wrap x ∧ IntKind.u64.wrap x ≤ 18446744073709551615 := by
  rw [IntKind.wrap_u64]; omega

theorem and_bd (x : Int) : 0 ≤ wrap64 (bits BinOp.and IntKind.u64 x 255) ∧ wrap64 (bits BinOp.and IntKind.u64 x 255) ≤ 255 := by
  have h : 0 ≤ bits BinOp.and IntKind.u64 x 255 ∧ bits BinOp.and IntKind.u64 x 255 ≤ 255 := by
    have hn : (BitVec.ofInt 64 x &&& BitVec.ofInt 64 255).toNat ≤ 255 := by
      rw [BitVec.toNat_and]; exact Nat.le_trans Nat.and_le_right (by decide)
    show 0 ≤ IntKind.u64.wrap ((BitVec.ofInt 64 x &&& BitVec.ofInt 64 255).toNat : Int) ∧ IntKind.u64.wrap ((BitVec.ofInt 64 x &&& BitVec.ofInt 64 255).toNat : Int) ≤ 255
    rw [IntKind.wrap_u64]
    omega
  rw [IntWalk.wrap64_in _ (by omega)]
  exact h

theorem cur_step {w : World} {B lim n cap p : Nat} {a : Option Addr} {zs : List Int} {sd : Int} (hb : w.heap[B]? = some (.cells #[.slice a n cap, .int .i64 p, .int .u64 sd] 74 (0, 0))) (hp : p ≤ lim) (hs : Sees w (.slice a n cap) n (zs.map (Value.int .u8)))
    (hz : ∀ z ∈ zs, 0 ≤ z ∧ z ≤ 255) (hn : n ≤ 65536) (hne : ∀ x, a = some x → 0 < n → x.block < B) (q1 q2 : Nat) (s2 : Int) :
    Cur ((((w.drewN q1).setCell ⟨B, 1, none⟩ (.int .i64 ((p : Int) + 1))).setCell ⟨B, 2, none⟩ (.int .u64 (IntKind.u64.wrap s2))).drewN q2) B (lim + 1) ∧
    w.grownBy ((((w.drewN q1).setCell ⟨B, 1, none⟩ (.int .i64 ((p : Int) + 1))).setCell ⟨B, 2, none⟩ (.int .u64 (IntKind.u64.wrap s2))).drewN q2) (some B) := by
  have hb0 : (w.drewN q1).heap[B]? = some (.cells #[.slice a n cap, .int .i64 p, .int .u64 sd] 74 (0, 0)) := hb
  have h1 := heap_setCell_same (w.drewN q1) B 1 _ _ (.int .i64 ((p : Int) + 1)) hb0
  have h2 := heap_setCell_same _ B 2 _ _ (.int .u64 (IntKind.u64.wrap s2)) h1
  have hg : w.grownBy ((((w.drewN q1).setCell ⟨B, 1, none⟩ (.int .i64 ((p : Int) + 1))).setCell ⟨B, 2, none⟩ (.int .u64 (IntKind.u64.wrap s2))).drewN q2) (some B) := by
    refine ⟨rfl, rfl, rfl, ?_, fun k _ hk => ?_⟩
    · show w.heap.size ≤ (((w.drewN q1).setCell ⟨B, 1, none⟩ (.int .i64 ((p : Int) + 1))).setCell ⟨B, 2, none⟩ (.int .u64 (IntKind.u64.wrap s2))).heap.size
      rw [World.size_setCell, World.size_setCell]
      exact Nat.le_refl _
    · have hkB : k ≠ B := fun e => hk (by rw [e])
      show (((w.drewN q1).setCell ⟨B, 1, none⟩ (.int .i64 ((p : Int) + 1))).setCell ⟨B, 2, none⟩ (.int .u64 (IntKind.u64.wrap s2))).heap[k]? = _
      rw [Below.heap_setCell _ _ _ _ hkB, Below.heap_setCell _ _ _ _ hkB]
      rfl
  refine ⟨⟨a, n, cap, p + 1, zs, IntKind.u64.wrap s2, h2, by omega, ?_, hz, hn, hne, (wrap_bd s2).1, (wrap_bd s2).2⟩, hg⟩
  by_cases h0 : 0 < n
  · refine hs.kept hg fun x hx e => ?_
    obtain ⟨_, a', cap', hv, _, hc⟩ := hs
    cases hv
    obtain ⟨b, o, rfl, _⟩ := hc h0
    simp [Value.ownBlock] at hx
    cases e
    exact absurd hx (Nat.ne_of_lt (hne _ rfl h0))
  · obtain ⟨hl, a', cap', hv, hcap, hc⟩ := hs
    cases hv
    exact ⟨hl, a, cap, rfl, hcap, fun h => absurd h h0⟩

set_option maxRecDepth 100000 in
set_option maxHeartbeats 1000000 in
theorem next_any (B lim : Nat) (w : World) (h : Cur w B lim) (hl : lim ≤ 2305843009213693952) :
    Calls Try.prog 172 #[.pointer (some ⟨B, 0, none⟩)] w fun e w' => Drew B (lim + 1) 255 w e w' := by
  obtain ⟨a, n, cap, p, zs, sd, hb, hp, hs, hz, hn, hne, hsd0, hsd1⟩ := h
  have c0 : w.cell? ⟨B, 0, none⟩ = some (.slice a n cap) := by rw [cell_in hb]; rfl
  have c1 : w.cell? ⟨B, 1, none⟩ = some (.int .i64 p) := by rw [cell_in hb]; rfl
  have c2 : w.cell? ⟨B, 2, none⟩ = some (.int .u64 sd) := by rw [cell_in hb]; rfl
  have f1 : w.frozen? ⟨B, 1, none⟩ = false := frozen_of_row w B 1 _ _ hb
  have f2 : w.frozen? ⟨B, 2, none⟩ = false := frozen_of_row w B 2 _ _ hb
  by_cases hlt : p < n
  · obtain ⟨hlen, a', cap', hv, hcap, hc⟩ := hs
    cases hv
    obtain ⟨b, o, rfl, hcell⟩ := hc (by omega)
    have hlz : zs.length = n := by simpa using hlen
    have hbb : b ≠ B := Nat.ne_of_lt (hne _ rfl (by omega))
    have hcz : w.cell? ⟨b, o + p, none⟩ = some (.int .u8 zs[p]) := hcell p _ (by rw [List.getElem?_map, List.getElem?_eq_getElem (by omega)]; rfl)
    obtain ⟨hz0, hz1⟩ := hz zs[p] (List.getElem_mem (by omega))
    go_enter Try.func172, Try.ntmps172
    go_wp2
    go_quiet (fail)
    go_wp2
    go_quiet (fail)
    go_wp2
    go_quiet (fail)
    go_wp2
    go_ret
    have hcs := cur_step hb hp ⟨hlen, _, _, rfl, hcap, hc⟩ hz hn hne
    exact ⟨zs[p], rfl, hz0, hz1, (hcs _ _ _).1, (hcs _ _ _).2⟩
  · have hcs := fun q1 q2 s2 => Go.Lib.hid (cur_step hb hp hs hz hn hne q1 q2 s2)
    clear hs hne hz
    go_enter Try.func172, Try.ntmps172
    go_wp2
    go_quiet (fail)
    go_wp2
    go_quiet (fail)
    go_wp2
    go_ret
    obtain ⟨hx0, hx1⟩ := and_bd (IntKind.u64.wrap (IntKind.u64.wrap (IntKind.u64.wrap (sd * 6364136223846793005)) + 462197) / 1099511627776)
    exact ⟨_, rfl, hx0, hx1, (hcs _ _ _).out.1, (hcs _ _ _).out.2⟩

theorem Cur.more {w : World} {B lim lim' : Nat} (h : Cur w B lim) (hl : lim ≤ lim') : Cur w B lim' := by
  obtain ⟨a, n, cap, p, zs, sd, h1, h2, h3⟩ := h
  exact ⟨a, n, cap, p, zs, sd, h1, Nat.le_trans h2 hl, h3⟩

theorem grown_trans {a b c : World} {row : Option Nat} (h : a.grownBy b row) (k : b.grownBy c row) : a.grownBy c row :=
  ⟨k.os.trans h.os, k.tape.trans h.tape, k.output.trans h.output, Nat.le_trans h.size k.size, fun q hq hr => (k.block q (Nat.lt_of_lt_of_le hq h.size) hr).trans (h.block q hq hr)⟩

set_option maxRecDepth 100000 in
set_option maxHeartbeats 1000000 in
theorem pick_any (B lim : Nat) (n : Int) (w : World) (h : Cur w B lim) (hl : lim ≤ 1152921504606846976) (h1 : 1 ≤ n) (h2 : n ≤ 1048576) :
    Calls Try.prog 115 #[.pointer (some ⟨B, 0, none⟩), .int .i64 n] w fun e w' => Drew B (lim + 2) (n - 1) w e w' := by
  by_cases hn : n ≤ 1
  · have HC := Go.Lib.hid h
    clear h
    go_enter Try.func115, Try.ntmps115
    go_wp2_with fail
    go_ret
    exact ⟨0, rfl, by omega, by omega, HC.out.more (by omega), ⟨rfl, rfl, rfl, Nat.le_refl _, fun _ _ _ => rfl⟩⟩
  · have hn' : 1 < n := by omega
    have c1 := next_any B lim w h (by omega)
    clear h hn
    by_cases hb : n ≤ 200
    · go_enter Try.func115, Try.ntmps115
      go_wp2_with fail
      refine c1.mono ?_
      rintro e W1 ⟨x, rfl, hx0, hx1, hc, hg⟩
      have HC := Go.Lib.hid (And.intro hc hg)
      clear hc hg c1
      have hm0 := Int.emod_nonneg x (show n ≠ 0 by omega)
      have hm1 := Int.emod_lt_of_pos x (show 0 < n by omega)
      go_wp2_with fail
      go_ret
      exact ⟨_, rfl, by omega, by omega, HC.out.1.more (by omega), HC.out.2⟩
    · have hb' : 200 < n := by omega
      go_enter Try.func115, Try.ntmps115
      go_wp2_with fail
      refine c1.mono ?_
      rintro e W1 ⟨x, rfl, hx0, hx1, hc, hg⟩
      have c2 := next_any B (lim + 1) W1 hc (by omega)
      have HC := Go.Lib.hid hg
      clear hc hg c1
      go_wp2_with fail
      refine c2.mono ?_
      rintro e W2 ⟨y, rfl, hy0, hy1, hc2, hg2⟩
      have HC2 := Go.Lib.hid (And.intro hc2 (grown_trans HC.out hg2))
      clear hc2 hg2 c2
      have hm0 := Int.emod_nonneg (x * 256 + y) (show n ≠ 0 by omega)
      have hm1 := Int.emod_lt_of_pos (x * 256 + y) (show 0 < n by omega)
      go_wp2_with fail
      go_ret
      exact ⟨_, rfl, by omega, by omega, HC2.out.1.more (by omega), HC2.out.2⟩

/-- A truth value comes back; the cursor has gone on; nothing else has turned. -/
def DrewB (B lim : Nat) (w : World) (e : Ending) (w' : World) : Prop :=
  ∃ b : Bool, e = .returned (.bool b) ∧ Cur w' B lim ∧ w.grownBy w' (some B)

set_option maxRecDepth 100000 in
theorem one_any (B lim : Nat) (n : Int) (w : World) (h : Cur w B lim) (hl : lim ≤ 1152921504606846976) (h1 : 1 ≤ n) (h2 : n ≤ 1048576) :
    Calls Try.prog 144 #[.pointer (some ⟨B, 0, none⟩), .int .i64 n] w fun e w' => DrewB B (lim + 2) w e w' := by
  have c := pick_any B lim n w h hl h1 h2
  clear h
  go_enter Try.func144, Try.ntmps144
  go_wp2_with fail
  refine c.mono ?_
  rintro e W1 ⟨x, rfl, hx0, hx1, hc, hg⟩
  have HC := Go.Lib.hid (And.intro hc hg)
  clear hc hg c
  go_wp2_with fail
  go_ret
  exact ⟨_, rfl, HC.out.1, HC.out.2⟩

/-- A text of a list comes back; the cursor has gone on; nothing else has turned. -/
def DrewS (B lim : Nat) (ss : List ByteArray) (w : World) (e : Ending) (w' : World) : Prop :=
  ∃ t : ByteArray, t ∈ ss ∧ e = .returned (.string t) ∧ Cur w' B lim ∧ w.grownBy w' (some B)

end Go.Proofs.Ytecbfoodkcgehab.CurC

/-
  What a walk carries of the model's cursor over bytes: it stays where other memory grows, and how it is made. Conditions: as each states.
-/
namespace Go.Proofs.Ytecbfoodkcgehab.CurMoreC
open Go.RowKit SeesC CurC

theorem cur_kept {w w' : World} {B lim : Nat} {row : Option Nat} (h : Cur w B lim) (hg : w.grownBy w' row) (hr : ∀ k, row = some k → B < k) : Cur w' B lim := by
  obtain ⟨a, n, cap, p, zs, sd, h1, h2, h3, h4, h5, h6, h7⟩ := h
  refine ⟨a, n, cap, p, zs, sd, ?_, h2, ?_, h4, h5, h6, h7⟩
  · rw [hg.block B (Array.getElem?_eq_some_iff.1 h1).1 (fun e => by have := hr B e.symm; omega)]
    exact h1
  · obtain ⟨hl, a', cap', hv, hcap, hc⟩ := h3
    cases hv
    refine ⟨hl, a, cap, rfl, hcap, fun hn => ?_⟩
    obtain ⟨b, o, rfl, hcell⟩ := hc hn
    have hb := h6 _ rfl hn
    refine ⟨b, o, rfl, fun j u hu => hg.cell (hcell j u hu) (fun e => ?_)⟩
    have := hr b e.symm
    simp at hb
    omega

theorem cur_lt {w : World} {B lim : Nat} (h : Cur w B lim) : B < w.heap.size := by
  obtain ⟨a, n, cap, p, zs, sd, h1, _⟩ := h
  exact (Array.getElem?_eq_some_iff.1 h1).1

theorem cur_made {w : World} {v : Value} {n : Nat} {zs : List Int} (hv : Sees w v n (zs.map (Value.int .u8))) (hz : ∀ z ∈ zs, 0 ≤ z ∧ z ≤ 255) (hn : n ≤ 65536) :
    Cur (w.alloc (.cells #[v, .int .i64 0, .int .u64 0] 74)) w.heap.size 0 := by
  have hlt := fun h => hv.lt h
  have hs := hv.kept (World.grownBy_alloc w (.cells #[v, .int .i64 0, .int .u64 0] 74) none) (fun a _ e => by cases e)
  obtain ⟨hl, a, cap, rfl, hcap, hc⟩ := hv
  refine ⟨a, n, cap, 0, zs, 0, World.alloc_heap_new w _, Nat.le_refl _, hs, hz, hn, fun x hx h0 => ?_, by omega, by omega⟩
  subst hx
  exact hlt h0 _ rfl

theorem below_of_grown {w w' : World} {B n : Nat} (h : w.grownBy w' (some B)) (hn : n ≤ w.heap.size) (hB : n ≤ B) : Below n w w' :=
  (Below.refl n w).grown h hn (fun k e => by cases e; exact hB)

end Go.Proofs.Ytecbfoodkcgehab.CurMoreC

/-
  Contracts of the model's drawn orders: a list of at most eight numbers comes back in memory of the call's own. Conditions: at most 65536 bytes, and fewer than 2^60 steps.
-/
namespace Go.Proofs.Ytecbfoodkcgehab.DrawOrdC
open Go.RowKit SeesC IntsC ExactC IterC CurC CurMoreC Own1C

/-- A number of a list comes back; the cursor has gone on; nothing else has turned. -/
def DrewI (B lim : Nat) (ss : List Int) (w : World) (e : Ending) (w' : World) : Prop :=
  ∃ t : Int, t ∈ ss ∧ e = .returned (.int .i64 t) ∧ Cur w' B lim ∧ w.grownBy w' (some B)

set_option maxRecDepth 100000 in
theorem among_any (B lim g cap : Nat) (ss : List Int) (w : World) (h : Cur w B lim) (hl : lim ≤ 1152921504606846976) (h1 : 1 ≤ ss.length) (h2 : ss.length ≤ 1048576) (hg : g ≠ B)
    (hc : ∀ (j : Nat) (x : Int), ss[j]? = some x → w.cell? ⟨g, j, none⟩ = some (.int .i64 x)) :
    Calls Try.prog 117 #[.pointer (some ⟨B, 0, none⟩), .slice (some ⟨g, 0, none⟩) ss.length cap] w fun e w' => DrewI B (lim + 2) ss w e w' := by
  have c := pick_any B lim ss.length w h hl (by omega) (by omega)
  have HC := Go.Lib.hid hc
  clear h hc
  go_enter Try.func117, Try.ntmps117
  go_wp2_with fail
  refine c.mono ?_
  rintro e W1 ⟨x, rfl, hx0, hx1, hc, hgr⟩
  have HD := Go.Lib.hid (And.intro hc hgr)
  obtain ⟨j, rfl⟩ : ∃ j : Nat, x = (j : Int) := ⟨x.toNat, by omega⟩
  have hj : j < ss.length := by omega
  have hcell : W1.cell? ⟨g, j, none⟩ = some (.int .i64 ss[j]) := hgr.cell (HC.out j _ (List.getElem?_eq_getElem hj)) (by intro e; cases e; exact hg rfl)
  clear hc hgr c
  go_wp2_with fail
  go_ret
  exact ⟨ss[j], List.getElem_mem hj, rfl, HD.out.1, HD.out.2⟩

theorem cell_ints (w : World) (ss : List Int) (t : TypeId) (j : Nat) (x : Int) (h : ss[j]? = some x) : (w.alloc (.cells (ss.map (Value.int .i64)).toArray t)).cell? ⟨w.heap.size, j, none⟩ = some (.int .i64 x) := by
  rw [World.cell?_alloc_new]
  simp [h]

/-- An order or another list comes back in memory of the call's own; the cursor has gone on; nothing else has turned. -/
def DrewL (B lim : Nat) (w : World) (e : Ending) (w' : World) : Prop :=
  ∃ (g c : Nat) (zs : List Int), e = .returned (.slice (some ⟨g, 0, none⟩) zs.length c) ∧ zs.length ≤ 8 ∧ w'.ownsRow w.heap.size 3 1 (.slice (some ⟨g, 0, none⟩) zs.length c) zs.length (vals zs) ∧ Cur w' B lim ∧ w.grownBy w' (some B)

def manyL : List Int := [4, 5, 3, 6, 2, 7, 1, 4]
theorem many_bd (t : Int) (h : t ∈ manyL) : 1 ≤ t ∧ t ≤ 7 := by
  have : ∀ t ∈ manyL, 1 ≤ t ∧ t ≤ 7 := by decide
  exact this t h
def badL : List Int := [0, 1, 8, -1]
theorem bad_bd (t : Int) (h : t ∈ badL) : -1 ≤ t ∧ t ≤ 8 := by
  have : ∀ t ∈ badL, -1 ≤ t ∧ t ≤ 8 := by decide
  exact this t h

theorem grown_drew {w w' : World} {row : Option Nat} (h : w.grownBy w' row) (q : Nat) : w.grownBy (w'.drewN q) row := ⟨h.os, h.tape, h.output, h.size, h.block⟩
theorem grown_below {w w' : World} {n : Nat} (h : Below n w w') (hn : w.heap.size ≤ n) (row : Option Nat) : w.grownBy w' row := ⟨h.os, h.tape, h.output, h.size, fun k hk _ => h.block k (by omega)⟩
/-- Rows of the call's own do not count for what was there. -/
theorem grown_own {w w1 w2 : World} {B : Nat} {row : Option Nat} (h : w.grownBy w1 (some B)) (k : w1.grownBy w2 row) (hr : ∀ x, row = some x → w.heap.size ≤ x) : w.grownBy w2 (some B) :=
  ⟨k.os.trans h.os, k.tape.trans h.tape, k.output.trans h.output, Nat.le_trans h.size k.size, fun q hq hne => (k.block q (Nat.lt_of_lt_of_le hq h.size) (fun e => by have := hr q e.symm; omega)).trans (h.block q hq hne)⟩

/-- What stays in the midst of a draw: the list so far, the cursor, what was there. -/
def St (w : World) (B lim g j c n0 : Nat) (out : List Int) (W : World) : Prop :=
  W.ownsRow w.heap.size 3 1 (.slice (some ⟨g, 0, none⟩) j c) j (vals out) ∧ Cur W B lim ∧ w.grownBy W (some B) ∧ g < n0 ∧ B < n0 ∧ w.heap.size ≤ n0 ∧ n0 ≤ W.heap.size

theorem St.step {w W W' : World} {B lim g j c n0 : Nat} {out : List Int} {row : Option Nat} (h : St w B lim g j c n0 out W) (hg : W.grownBy W' row) (hr : ∀ x, row = some x → n0 ≤ x) : St w B lim g j c n0 out W' := by
  obtain ⟨h1, h2, h3, h4, h5, h6, h7⟩ := h
  refine ⟨own_mark h1 hg (fun a ha e => ?_), cur_kept h2 hg (fun k e => ?_), grown_own h3 hg (fun x e => ?_), h4, h5, h6, Nat.le_trans h7 hg.size⟩
  · simp only [Value.ownBlock, Option.some.injEq] at ha
    have := hr a e
    omega
  · have := hr k e; omega
  · have := hr x e; omega

theorem St.drew {w W : World} {B lim g j c n0 : Nat} {out : List Int} (h : St w B lim g j c n0 out W) : St w B lim g j c n0 out W.drew := by
  obtain ⟨h1, h2, h3, h4, h5, h6, h7⟩ := h
  exact ⟨h1, h2, ⟨h3.os, h3.tape, h3.output, h3.size, h3.block⟩, h4, h5, h6, h7⟩

theorem put_in (out : List Int) (k j : Nat) (z : Int) (hl : out.length = j) (hk : k ≤ j) : (out.take k ++ [z] ++ out.drop k).length = j + 1 := by simp; omega

set_option maxRecDepth 100000 in
set_option maxHeartbeats 1000000 in
theorem order_any (B lim : Nat) (w : World) (h : Cur w B lim) (hl : lim ≤ 1000000) :
    Calls Try.prog 114 #[.pointer (some ⟨B, 0, none⟩)] w fun e w' => DrewL B (lim + 22) w e w' := by
  obtain ⟨i0, hi, hz0, hz1, hz2⟩ := info_parts infoI
  have hB := cur_lt h
  have hg0 : w.grownBy (w.alloc (.cells #[] 3)) (some B) := World.grownBy_alloc w _ _
  have hc0 := cur_kept h (World.grownBy_alloc w (.cells #[] 3) none) (fun k e => by cases e)
  have ho0 : (w.alloc (.cells #[] 3)).ownsRow w.heap.size 3 1 (.slice (some ⟨w.heap.size, 0, none⟩) 0 0) 0 [] := World.ownsRow_made (base := w.heap.size) (e := 3) (size := 1) w #[] 0 (Nat.le_refl _) (by unfold maxLen; omega) rfl
  have C1 := Go.Lib.hid (among_any B lim (w.heap.size + 1) 8 manyL ((w.alloc (.cells #[] 3)).alloc (.cells (manyL.map (Value.int .i64)).toArray 3)) (cur_kept hc0 (World.grownBy_alloc _ _ none) (fun k e => by cases e)) (by omega) (by decide) (by decide) (by omega) (fun j x hx => by have h9 := cell_ints (w.alloc (.cells #[] 3)) manyL 3 j x hx; rw [show (w.alloc (.cells #[] 3)).heap.size = w.heap.size + 1 by simp] at h9; exact h9))
  have H0 := Go.Lib.hid (And.intro (ho0.alloc (.cells (manyL.map (Value.int .i64)).toArray 3)) (grown_own hg0 (World.grownBy_alloc (w.alloc (.cells #[] 3)) (.cells (manyL.map (Value.int .i64)).toArray 3) none) (fun x e => by cases e)))
  clear h hg0 hc0 ho0
  go_enter Try.func114, Try.ntmps114
  go_wp2_with fail
  refine (C1.out).mono ?_
  rintro e W1 ⟨t, ht, rfl, hc1, hg1⟩
  obtain ⟨ht1, ht7⟩ := many_bd t ht
  obtain ⟨N, rfl⟩ : ∃ N : Nat, t = (N : Int) := ⟨t.toNat, by omega⟩
  have ho1 := own_mark H0.out.1 hg1 (fun a ha e => by simp only [Value.ownBlock, Option.some.injEq] at ha e; omega)
  have hgw1 := IntsC.grown_trans H0.out.2 hg1
  have H1 := Go.Lib.hid (And.intro ho1 (And.intro hc1 hgw1))
  clear ht hc1 hg1 ho1 hgw1
  go_wp2_with fail
  go_loopw [3, 4, 5] (fun ov nv _ wr => ∃ (j q g c : Nat) (out : List Int), nv = .int .i64 q ∧ ov = .slice (some ⟨g, 0, none⟩) j c ∧ j + q = N ∧ out.length = j ∧ wr.ownsRow w.heap.size 3 1 (.slice (some ⟨g, 0, none⟩) j c) j (vals out) ∧ Cur wr B (lim + 2 + 2 * j) ∧ w.grownBy wr (some B)) (fun _ n _ _ => (intOf n).toNat)
  case atStart => exact ⟨0, N, w.heap.size, 0, [], rfl, rfl, by omega, rfl, H1.out.1, H1.out.2.1, H1.out.2.2⟩
  case round =>
    obtain ⟨j, q, g, c, out, rfl, rfl, hjq, hlo, hown, hcur, hgw⟩ := hrel
    by_cases hq : 0 < q
    · have hqi : (0 : Int) < (q : Int) := by omega
      have hj7 : j ≤ 6 := by omega
      have C2 := Go.Lib.hid (pick_any B (lim + 2 + 2 * j) ((j : Int) + 1) wr hcur (by omega) (by omega) (by omega))
      have H2 := Go.Lib.hid (And.intro hown hgw)
      clear hcur hown hgw
      go_wp2_with fail
      refine (C2.out).mono ?_
      rintro e W3 ⟨x, rfl, hx0, hx1, hc3, hg3⟩
      obtain ⟨k, rfl⟩ : ∃ k : Nat, x = (k : Int) := ⟨x.toNat, by omega⟩
      have hkj : k ≤ j := by omega
      have hgB : g ≠ B := by
        have := (H2.out.1.lt g rfl).1
        omega
      have ho3 := own_mark H2.out.1 hg3 (fun a ha e => by simp only [Value.ownBlock, Option.some.injEq] at ha e; omega)
      have hgw3 := IntsC.grown_trans H2.out.2 hg3
      have hcapj : j ≤ c := by
        rcases ho3.2 with ⟨h0, _⟩ | ⟨g', cap', cur, h0, _, _, h1, _⟩
        · cases h0
        · cases h0; exact h1
      have HSZ : Hid (w.heap.size ≤ W3.heap.size) := Go.Lib.hid hgw3.size
      have H3 := Go.Lib.hid (And.intro ho3 (And.intro hc3 hgw3))
      have htl : (out.take k).length = k := by rw [List.length_take, hlo]; omega
      have CO := Go.Lib.hid (fun W' (hc : W'.ownsRow w.heap.size 3 1 (.slice (some ⟨g, 0, none⟩) j c) j (vals out)) => l1Own_any (out.take k) g 0 k c W' htl (by omega) (by
        intro i hi
        have hi2 : i < k := by omega
        have h1 := (own_cells hc).1 i (by rw [hlo]; omega)
        rw [h1]
        simp [hi2]))
      have hu2 := Try.underlying29
      have q1 : IntKind.i64.wrap ((j : Int) + 1) = ((j + 1 : Nat) : Int) := by rw [IntWalk.i64_in _ (by omega)]; simp
      have HL := Go.Lib.hid (And.intro hlo hjq)
      clear ho3 hc3 hg3 hgw3 htl hlo hx0 hx1
      go_wp2_with fail
      have s1 : k ≤ c := by omega
      have r1 : (k : Int) ≤ (j : Int) := by omega
      have r2 : (k : Int) ≤ (c : Int) := by omega
      have hgl := (H3.out.1.lt g rfl).2
      have hBl := cur_lt H3.out.2.1
      have SA : Hid (St w B (lim + 2 + 2 * j + 2) g j c W3.heap.size out W3) := Go.Lib.hid ⟨H3.out.1, H3.out.2.1, H3.out.2.2, hgl, hBl, HSZ.out, Nat.le_refl _⟩
      have SD := Go.Lib.hid SA.out.drew
      clear hgl hBl
      by_cases hck : c = k
      · obtain rfl : j = k := by omega
        subst hck
        have NEWS : Hid (∀ w4 : World, w4.ownsRow w.heap.size 3 1 (.slice (some ⟨g, 0, none⟩) c c) c (vals out) → ∀ j u, (vals (out.drop c))[j]? = some u → w4.cell? ((⟨g, 0, none⟩ : Addr).add j) = some u) := Go.Lib.hid (fun w4 h j u hu => by
          rw [List.drop_of_length_le (by rw [HL.out.1]; exact Nat.le_refl _)] at hu
          simp at hu)
        go_region_law (first
          | (go_simp; go_at_call 155; refine (CO.out _ (by first | exact H3.out.1 | exact H3.out.1.alloc _)).mono ?_; rintro e w4 ⟨g3, c3, rfl, ho4, hb4⟩; have H5 := Go.Lib.hid (And.intro (show w4.ownsRow W3.heap.size 3 1 (.slice (some ⟨g3, 0, none⟩) c c3) c (vals (out.take c)) from own_lower ho4 (by first | exact Nat.le_refl _ | exact (SA.out.step (World.grownBy_alloc W3 (.cells #[.int .i64 ((c : Int) + 1)] 3) none) (fun x e => by cases e)).2.2.2.2.2.2)) (show St w B (lim + 2 + 2 * c + 2) g c c W3.heap.size out w4 by first | exact SD.out.step (IntsC.grown_of_below hb4 none) (fun x e => by cases e) | exact (SD.out.step (World.grownBy_alloc W3.drew (.cells #[.int .i64 ((c : Int) + 1)] 3) none) (fun x e => by cases e)).step (IntsC.grown_of_below hb4 none) (fun x e => by cases e) | exact ((SA.out.step (World.grownBy_alloc W3 (.cells #[.int .i64 ((c : Int) + 1)] 3) none) (fun x e => by cases e)).drew).step (IntsC.grown_of_below hb4 none) (fun x e => by cases e))); have HB4 := Go.Lib.hid hb4)
          | (refine step_append_own _ rfl (.tmp 22) (.tmp 26) 29 rfl W3.heap.size 3 i0 (.int .i64 0) 1 8 hu2 hi hz0 hz1 hz2 rfl (by decide) (.slice (some ⟨g3, 0, none⟩) c c3) c (vals (out.take c)) (by simp [Act.eval]) (H5.out.1.alloc _) ⟨w4.heap.size, 0, none⟩ 1 1 [.int .i64 ((c : Int) + 1)] (by simp [Act.eval]) rfl (cell_one_new _ _ _) (fun x hx => by simp at hx; subst hx; rfl) (by unfold maxLen; omega) (by omega) (Nat.le_trans H5.out.2.2.2.2.2.2.2 (by simp)) ?_; intro v5 w5 hown5 hgrow5 hnil5; have H6 := Go.Lib.hid (And.intro hown5 (And.intro hnil5 ((H5.out.2.step (World.grownBy_alloc w4 _ none) (fun x e => by cases e)).step hgrow5 (fun x e => by have h9 := (H5.out.1.lt x e).1; omega)))))
          | (refine step_append_own _ rfl (.tmp 22) (.tmp 26) 29 rfl W3.heap.size 3 i0 (.int .i64 0) 1 8 hu2 hi hz0 hz1 hz2 rfl (by decide) (.slice (some ⟨g3, 0, none⟩) c c3) c (vals (out.take c)) (by simp [Act.eval]) H5.out.1 ⟨W3.heap.size, 0, none⟩ 1 1 [.int .i64 ((c : Int) + 1)] (by simp [Act.eval]) rfl (fun jj u hu => (HB4.out.cell (by simp [Addr.add]; split <;> simp)).trans (cell_one_new _ _ _ jj u hu)) (fun x hx => by simp at hx; subst hx; rfl) (by unfold maxLen; omega) (by omega) H5.out.2.2.2.2.2.2.2 ?_; intro v5 w5 hown5 hgrow5 hnil5; have H6 := Go.Lib.hid (And.intro hown5 (And.intro hnil5 (H5.out.2.step hgrow5 (fun x e => by have h9 := (H5.out.1.lt x e).1; omega)))))
          | (refine step_append_own _ rfl (.tmp 27) (.tmp 30) 29 rfl W3.heap.size 3 i0 (.int .i64 0) 1 8 hu2 hi hz0 hz1 hz2 rfl (by decide) v5 (c + 1) (vals (out.take c) ++ [.int .i64 ((c : Int) + 1)]) (by simp [Act.eval]) H6.out.1 ⟨g, 0, none⟩ (c - c) 0 (vals (out.drop c)) (by simp [Act.eval]) (by rw [vals_len, List.length_drop, HL.out.1, Nat.mul_one]) (NEWS.out _ H6.out.2.2.1) (ints_oneCell .i64 _) (by unfold maxLen; omega) (by omega) H6.out.2.2.2.2.2.2.2.2 ?_; intro v6 w6 hown6 hgrow6 hnil6))
        all_goals
          have ST6 := H6.out.2.2.step hgrow6 (fun x e => (H6.out.1.lt x e).1)
          have hne6 : v6 ≠ .slice none 0 0 := fun e => by
            have h8 := (hnil6.1 e).1
            have h9 := (H6.out.2.1.1 h8).1
            cases h9
          obtain ⟨g6, c6, rfl⟩ : ∃ gg cc, v6 = .slice (some ⟨gg, 0, none⟩) (c + 1 + (c - c)) cc := by
            rcases hown6.2 with ⟨h0, _⟩ | ⟨gg, cc, cur, hv, _⟩
            · exact absurd h0 hne6
            · exact ⟨gg, cc, hv⟩
          have hn6 : c + 1 + (c - c) = c + 1 := by omega
          have e6 : vals (out.take c) ++ [.int .i64 ((c : Int) + 1)] ++ vals (out.drop c) = vals (out.take c ++ [(c : Int) + 1] ++ out.drop c) := by simp
          rw [hn6, e6] at hown6
          have H7 := Go.Lib.hid (And.intro (own_lower hown6 HSZ.out) ST6)
          have hpl := put_in out c c ((c : Int) + 1) HL.out.1 (by omega)
          have HPL := Go.Lib.hid hpl
          clear hown6 hgrow6 hnil6 hown5 hgrow5 hnil5 ST6 hne6 e6 ho4 hb4 hpl
          rw [hn6]
          go_wp2
          go_roundw
          case rel => exact ⟨c + 1, q - 1, g6, c6, _, by go_num, rfl, by have := HL.out.2; omega, HPL.out, H7.out.1, H7.out.2.2.1.more (by omega), H7.out.2.2.2.1⟩
          case measure => simp [intOf]; omega
      · have NEWS : Hid (∀ w4 : World, w4.ownsRow w.heap.size 3 1 (.slice (some ⟨g, 0, none⟩) j c) j (vals out) → ∀ i u, (vals (out.drop k))[i]? = some u → w4.cell? ((⟨g, k, none⟩ : Addr).add i) = some u) := Go.Lib.hid (fun w4 h => own_drop_cells h k)
        go_region_law (first
          | (go_simp; go_at_call 155; refine (CO.out _ (by first | exact H3.out.1 | exact H3.out.1.alloc _)).mono ?_; rintro e w4 ⟨g3, c3, rfl, ho4, hb4⟩; have H5 := Go.Lib.hid (And.intro (show w4.ownsRow W3.heap.size 3 1 (.slice (some ⟨g3, 0, none⟩) k c3) k (vals (out.take k)) from own_lower ho4 (by first | exact Nat.le_refl _ | exact (SA.out.step (World.grownBy_alloc W3 (.cells #[.int .i64 ((j : Int) + 1)] 3) none) (fun x e => by cases e)).2.2.2.2.2.2)) (show St w B (lim + 2 + 2 * j + 2) g j c W3.heap.size out w4 by first | exact SD.out.step (IntsC.grown_of_below hb4 none) (fun x e => by cases e) | exact (SD.out.step (World.grownBy_alloc W3.drew (.cells #[.int .i64 ((j : Int) + 1)] 3) none) (fun x e => by cases e)).step (IntsC.grown_of_below hb4 none) (fun x e => by cases e) | exact ((SA.out.step (World.grownBy_alloc W3 (.cells #[.int .i64 ((j : Int) + 1)] 3) none) (fun x e => by cases e)).drew).step (IntsC.grown_of_below hb4 none) (fun x e => by cases e))); have HB4 := Go.Lib.hid hb4)
          | (refine step_append_own _ rfl (.tmp 22) (.tmp 26) 29 rfl W3.heap.size 3 i0 (.int .i64 0) 1 8 hu2 hi hz0 hz1 hz2 rfl (by decide) (.slice (some ⟨g3, 0, none⟩) k c3) k (vals (out.take k)) (by simp [Act.eval]) (H5.out.1.alloc _) ⟨w4.heap.size, 0, none⟩ 1 1 [.int .i64 ((j : Int) + 1)] (by simp [Act.eval]) rfl (cell_one_new _ _ _) (fun x hx => by simp at hx; subst hx; rfl) (by unfold maxLen; omega) (by omega) (Nat.le_trans H5.out.2.2.2.2.2.2.2 (by simp)) ?_; intro v5 w5 hown5 hgrow5 hnil5; have H6 := Go.Lib.hid (And.intro hown5 (And.intro hnil5 ((H5.out.2.step (World.grownBy_alloc w4 _ none) (fun x e => by cases e)).step hgrow5 (fun x e => by have h9 := (H5.out.1.lt x e).1; omega)))))
          | (refine step_append_own _ rfl (.tmp 22) (.tmp 26) 29 rfl W3.heap.size 3 i0 (.int .i64 0) 1 8 hu2 hi hz0 hz1 hz2 rfl (by decide) (.slice (some ⟨g3, 0, none⟩) k c3) k (vals (out.take k)) (by simp [Act.eval]) H5.out.1 ⟨W3.heap.size, 0, none⟩ 1 1 [.int .i64 ((j : Int) + 1)] (by simp [Act.eval]) rfl (fun jj u hu => (HB4.out.cell (by simp [Addr.add]; split <;> simp)).trans (cell_one_new _ _ _ jj u hu)) (fun x hx => by simp at hx; subst hx; rfl) (by unfold maxLen; omega) (by omega) H5.out.2.2.2.2.2.2.2 ?_; intro v5 w5 hown5 hgrow5 hnil5; have H6 := Go.Lib.hid (And.intro hown5 (And.intro hnil5 (H5.out.2.step hgrow5 (fun x e => by have h9 := (H5.out.1.lt x e).1; omega)))))
          | (refine step_append_own _ rfl (.tmp 27) (.tmp 30) 29 rfl W3.heap.size 3 i0 (.int .i64 0) 1 8 hu2 hi hz0 hz1 hz2 rfl (by decide) v5 (k + 1) (vals (out.take k) ++ [.int .i64 ((j : Int) + 1)]) (by simp [Act.eval]) H6.out.1 ⟨g, k, none⟩ (j - k) (c - k) (vals (out.drop k)) (by simp [Act.eval]) (by rw [vals_len, List.length_drop, HL.out.1, Nat.mul_one]) (NEWS.out _ H6.out.2.2.1) (ints_oneCell .i64 _) (by unfold maxLen; omega) (by omega) H6.out.2.2.2.2.2.2.2.2 ?_; intro v6 w6 hown6 hgrow6 hnil6))
        all_goals
          have ST6 := H6.out.2.2.step hgrow6 (fun x e => (H6.out.1.lt x e).1)
          have hne6 : v6 ≠ .slice none 0 0 := fun e => by
            have h8 := (hnil6.1 e).1
            have h9 := (H6.out.2.1.1 h8).1
            cases h9
          obtain ⟨g6, c6, rfl⟩ : ∃ gg cc, v6 = .slice (some ⟨gg, 0, none⟩) (k + 1 + (j - k)) cc := by
            rcases hown6.2 with ⟨h0, _⟩ | ⟨gg, cc, cur, hv, _⟩
            · exact absurd h0 hne6
            · exact ⟨gg, cc, hv⟩
          have hn6 : k + 1 + (j - k) = j + 1 := by omega
          have e6 : vals (out.take k) ++ [.int .i64 ((j : Int) + 1)] ++ vals (out.drop k) = vals (out.take k ++ [(j : Int) + 1] ++ out.drop k) := by simp
          rw [hn6, e6] at hown6
          have H7 := Go.Lib.hid (And.intro (own_lower hown6 HSZ.out) ST6)
          have hpl := put_in out k j ((j : Int) + 1) HL.out.1 (by omega)
          have HPL := Go.Lib.hid hpl
          clear hown6 hgrow6 hnil6 hown5 hgrow5 hnil5 ST6 hne6 e6 ho4 hb4 hpl
          rw [hn6]
          go_wp2
          go_roundw
          case rel => exact ⟨j + 1, q - 1, g6, c6, _, by go_num, rfl, by have := HL.out.2; omega, HPL.out, H7.out.1, H7.out.2.2.1.more (by omega), H7.out.2.2.2.1⟩
          case measure => simp [intOf]; omega
    · obtain rfl : q = 0 := by omega
      have hqi : ¬ (0 : Int) < ((0 : Nat) : Int) := by omega
      have hj1 : 1 ≤ j := by omega
      have hj7 : j ≤ 7 := by omega
      have C5 := Go.Lib.hid (pick_any B (lim + 2 + 2 * j) 40 wr hcur (by omega) (by omega) (by omega))
      have H2 := Go.Lib.hid (And.intro hown hgw)
      have HLO := Go.Lib.hid hlo
      clear hcur hown hgw hlo
      go_wp2_with fail
      refine (C5.out).mono ?_
      rintro e W3 ⟨x, rfl, hx0, hx1, hc3, hg3⟩
      have hgB : g ≠ B := by
        have := (H2.out.1.lt g rfl).1
        omega
      have ho3 := own_mark H2.out.1 hg3 (fun a ha e => by simp only [Value.ownBlock, Option.some.injEq] at ha e; omega)
      have hgw3 := IntsC.grown_trans H2.out.2 hg3
      have H3 := Go.Lib.hid (And.intro ho3 (And.intro hc3 hgw3))
      clear ho3 hc3 hg3 hgw3
      by_cases hx_0 : x = 0
      · subst hx_0
        go_wp2
        go_ret
        refine ⟨W3.heap.size, 0, [], rfl, by simp, ?_, (cur_kept H3.out.2.1 (World.grownBy_alloc W3 _ none) (fun k e => by cases e)).more (by omega), grown_own H3.out.2.2 (World.grownBy_alloc W3 _ none) (fun x e => by cases e)⟩
        exact World.ownsRow_made (base := w.heap.size) (e := 3) (size := 1) W3 #[] 0 H3.out.2.2.size (by unfold maxLen; omega) rfl
      have hx_0b : (x == 0) = false := by rw [beq_eq_false_iff_ne]; exact hx_0
      by_cases hx_1 : x = 1
      · subst hx_1
        have C6 := Go.Lib.hid (pick_any B (lim + 2 + 2 * j + 2) (j : Int) W3 H3.out.2.1 (by omega) (by omega) (by omega))
        go_wp2_with fail
        refine (C6.out).mono ?_
        rintro e W4 ⟨y, rfl, hy0, hy1, hc4, hg4⟩
        obtain ⟨k, rfl⟩ : ∃ k : Nat, y = (k : Int) := ⟨y.toNat, by omega⟩
        have hkj : k < j := by omega
        have ho4 := own_mark H3.out.1 hg4 (fun a ha e => by simp only [Value.ownBlock, Option.some.injEq] at ha e; omega)
        have hgw4 := IntsC.grown_trans H3.out.2.2 hg4
        have hB4 := cur_lt hc4
        have C7 := Go.Lib.hid (among_any B (lim + 2 + 2 * j + 2 + 2) W4.heap.size 4 badL (W4.alloc (.cells (badL.map (Value.int .i64)).toArray 3)) (cur_kept hc4 (World.grownBy_alloc W4 _ none) (fun k e => by cases e)) (by omega) (by decide) (by decide) (by omega) (fun j x hx => cell_ints W4 badL _ j x hx))
        have H4 := Go.Lib.hid (And.intro (ho4.alloc (.cells (badL.map (Value.int .i64)).toArray 3)) (grown_own hgw4 (World.grownBy_alloc W4 (.cells (badL.map (Value.int .i64)).toArray 3) none) (fun x e => by cases e)))
        clear hc4 hg4 ho4 hgw4 hy0 hy1
        go_wp2_with fail
        refine (C7.out).mono ?_
        rintro e W5 ⟨t, ht, rfl, hc5, hg5⟩
        have ho5 := own_mark H4.out.1 hg5 (fun a ha e => by simp only [Value.ownBlock, Option.some.injEq] at ha e; omega)
        have hgw5 := IntsC.grown_trans H4.out.2 hg5
        have hst := ho5.stored k (.int .i64 t)
        have hdc := ho5.cellAt k (by omega)
        have hf := ho5.frozenAt k
        obtain ⟨u, hu⟩ : ∃ u, W5.cell? ⟨g, k, none⟩ = some u := ⟨_, hdc.trans (List.getElem?_eq_getElem (by rw [vals_len, HLO.out]; exact hkj))⟩
        have hgw6 := grown_own hgw5 hst.2 (fun x e => by cases e; exact (ho5.lt g rfl).1)
        have hBg : B < g := by have := (ho5.lt g rfl).1; omega
        have hc6 := cur_kept hc5 hst.2 (fun k e => by cases e; exact hBg)
        have e8 : (vals out).set k (.int .i64 t) = vals (out.set k t) := by unfold vals; rw [List.map_set]
        have h9 := hst.1
        rw [e8] at h9
        have H6 := Go.Lib.hid (And.intro h9 (And.intro hc6 hgw6))
        have hki : (k : Int) < (j : Int) := by omega
        have hls : (out.set k t).length = j := by rw [List.length_set, HLO.out]
        clear hc5 hg5 ho5 hgw5 hst hdc hgw6 hBg hc6 e8 h9 ht
        go_wp2_with fail
        go_ret
        exact ⟨g, c, out.set k t, by rw [hls]; rfl, by omega, by rw [hls]; exact H6.out.1, H6.out.2.1.more (by omega), H6.out.2.2⟩
      have hx_1b : (x == 1) = false := by rw [beq_eq_false_iff_ne]; exact hx_1
      by_cases hx_2 : x = 2
      · subst hx_2
        go_wp2
        go_ret
        refine ⟨W3.heap.size, 8, [1, 2, 3, 4, 5, 6, 7, 8], rfl, by simp, ?_, (cur_kept H3.out.2.1 (World.grownBy_alloc W3 _ none) (fun k e => by cases e)).more (by omega), grown_own H3.out.2.2 (World.grownBy_alloc W3 _ none) (fun x e => by cases e)⟩
        exact World.ownsRow_lit (base := w.heap.size) (e := 3) (size := 1) W3 (vals [1, 2, 3, 4, 5, 6, 7, 8]).toArray 8 H3.out.2.2.size (by unfold maxLen; omega) rfl
      have hx_2b : (x == 2) = false := by rw [beq_eq_false_iff_ne]; exact hx_2
      go_wp2
      go_ret
      exact ⟨g, c, out, by rw [HLO.out]; rfl, by have := HLO.out; omega, by rw [HLO.out]; exact H3.out.1, H3.out.2.1.more (by omega), H3.out.2.2⟩

end Go.Proofs.Ytecbfoodkcgehab.DrawOrdC

/-
  Contracts: the model and the program write an order as digits and read it again. Conditions: lists and texts of at most 2^20 elements.
-/
namespace Go.Proofs.Ytecbfoodkcgehab.TextC
open Go.RowKit SeesC IntsC ExactC OrdMath OrderC NumC IterC

/-- The digit of a number. -/
def dig (z : Int) : UInt8 := UInt8.ofNat (48 + z.toNat)

def textAns (zs : List Int) : ByteArray × Bool := if Ord zs then (txt (zs.map dig), true) else (ByteArray.empty, false)

/-- The numbers of a text's bytes. -/
def raw (s : ByteArray) : List Int := s.data.toList.map fun c => (c.toNat : Int) - 48

theorem raw_len (s : ByteArray) : (raw s).length = s.size := by unfold raw; rw [List.length_map, Array.length_toList]; rfl

theorem raw_at (s : ByteArray) (k : Nat) (h : k < s.size) : (raw s).getD k 0 = (s[k].toNat : Int) - 48 := by
  have h2 : k < s.data.toList.length := by rw [Array.length_toList]; exact h
  rw [List.getD_eq_getElem?_getD, List.getElem?_eq_getElem (by rw [raw_len]; exact h)]
  simp [raw]
  rfl

def parseAns (s : ByteArray) : List Int × Bool := if s.size ≤ 7 ∧ Ord (raw s) then (raw s, true) else ([], false)

theorem parse_len {s : ByteArray} {xs : List Int} {b : Bool} (h : parseAns s = (xs, b)) : xs.length ≤ 1048576 := by
  unfold parseAns at h; split at h
  · rename_i ho; cases h; rw [raw_len]; omega
  · cases h; simp

theorem isOrd_big {zs : List Int} {z : Int} (hz : z ∈ zs) (h : 7 < z) : isOrd zs = false := by
  unfold isOrd; rw [decide_eq_false_iff_not]; rintro ⟨_, h2, h3, _⟩; have := (h3 z hz).2; omega

theorem dig_nat (u : Nat) (h : u < 10) : (dig (u : Int)).toNat = 48 + u := by
  unfold dig; rw [Int.toNat_natCast, UInt8.toNat_ofNat']; omega

theorem Ord.getN {zs : List Int} (h : OrdMath.Ord zs) {k : Nat} (hk : k < zs.length) : ∃ u : Nat, zs.getD k 0 = (u : Int) ∧ 1 ≤ u ∧ u ≤ 7 := by
  obtain ⟨m, h1, h2⟩ := h.getD hk
  exact ⟨m + 1, by rw [h1]; simp, by omega, by have := h.2.1; omega⟩

set_option maxRecDepth 100000 in
set_option maxHeartbeats 1000000 in
theorem l2Text_any (zs : List Int) (hord : OrdMath.Ord zs) (W : World) (v : Value) (n : Nat) (hv : Sees W v n (vals zs)) :
    Calls Try.prog 143 #[v] W fun e w' => e = .returned (.string (txt (zs.map dig))) ∧ Drawn W w' := by
  have hl : zs.length = n := by simpa using hv.1
  have hn1 : 1 ≤ n := by have := hord.1; omega
  have hn7 : n ≤ 7 := by have := hord.2.1; omega
  obtain ⟨b, o, cap, rfl, hcap, _, hbl, hcell⟩ := sees_cells hv (by omega)
  have HC := Go.Lib.hid hcell
  clear hv hcell
  go_enter Try.func143, Try.ntmps143
  go_wp2
  go_loopw [3, 4] (fun sv iv wr => ∃ (k : Nat) (s : ByteArray), k ≤ n ∧ iv = .int .i64 k ∧ sv = .string s ∧ s.size ≤ k ∧ Hid (s = txt ((zs.map dig).take k)) ∧ Drawn W wr) (fun _ i _ => n - (intOf i).toNat)
  case atStart => exact ⟨0, ByteArray.empty, Nat.zero_le _, rfl, rfl, by decide, Go.Lib.hid (by simp [txt]; rfl), Drawn.refl _⟩
  case round =>
    obtain ⟨k, s, hk, rfl, rfl, hs, HS, HD⟩ := hrel
    by_cases hlt : k < n
    · have hck : wr.cell? ⟨b, o + k, none⟩ = some (.int .i64 (zs.getD k 0)) := (HD.cell _).trans (HC.out k (by omega))
      obtain ⟨u, hu, hu1, hu7⟩ := Ord.getN hord (k := k) (by omega)
      obtain ⟨dg, hdg⟩ : ∃ dg, txt [dig (u : Int)] = dg := ⟨_, rfl⟩
      have CN := Go.Lib.hid (fun w2 => by have := l1Num_small u w2 (by omega); rw [Lib.decDigits_one (by omega)] at this; rw [show txt [UInt8.ofNat (48 + u)] = dg by rw [← hdg]; rfl] at this; exact this)
      have HN : Hid (s ++ dg = txt ((zs.map dig).take (k + 1))) := Go.Lib.hid (by
        have e1 : zs[k]'(by omega) = (u : Int) := by rw [← hu]; simp [show k < zs.length by omega]
        rw [HS.out, ← hdg, txt_append, List.take_succ_eq_append_getElem (by simp; omega)]
        simp [e1])
      have hds : dg.size ≤ 1 := by rw [← hdg, txt_size]; simp
      rw [hu] at hck
      have hlti : (k : Int) < (n : Int) := by omega
      clear hu hdg
      go_wp2_with fail
      refine (CN.out _).mono ?_
      rintro e w2 ⟨rfl, hd⟩
      go_wp2_with fail
      go_roundw
      case rel => exact ⟨k + 1, s ++ dg, by omega, by go_num, rfl, by simp; omega, HN, HD.trans hd⟩
      case measure => simp [intOf]; omega
    · have HR : Hid (s = txt (zs.map dig)) := Go.Lib.hid (by rw [HS.out, List.take_of_length_le (by simp; omega)])
      go_wp2
      go_ret
      exact ⟨by rw [← HR.out]; rfl, HD⟩

set_option maxRecDepth 100000 in
set_option maxHeartbeats 1000000 in
theorem specText (zs : List Int) (r' : ByteArray) (b : Bool) (h : textAns zs = (r', b)) (hz : zs.length ≤ 1048576) (W : World) (v : Value) (n : Nat) (hv : Sees W v n (vals zs)) :
    Calls Try.prog 75 #[v] W fun e w' => e = .returned (.tuple #[.string r', .bool b]) ∧ Below W.heap.size W w' := by
  have hn : n ≤ 1048576 := by have := hv.1; simp at this; omega
  obtain ⟨i0, hi, hz0, hz1, hz2⟩ := info_parts infoI
  obtain ⟨r, hr⟩ : ∃ r, isOrd zs = r := ⟨_, rfl⟩
  have CO := Go.Lib.hid (fun W' (hs : Sees W' v n (vals zs)) => l2Order_any W' v n zs r hs hn hr)
  have HV := Go.Lib.hid hv
  unfold textAns at h
  cases r with
  | false =>
    rw [if_neg (by unfold isOrd at hr; exact of_decide_eq_false hr)] at h
    cases h
    clear hv hr
    go_enter Try.func75, Try.ntmps75
    go_wp2_with fail
    refine (CO.out _ HV.out).mono ?_
    rintro e w1 ⟨rfl, hd⟩
    have HB : Hid (Below W.heap.size W w1) := Go.Lib.hid (hd.below _)
    go_wp2_with fail
    go_ret2
    exact ⟨rfl, HB.out⟩
  | true =>
    have hord : Ord zs := by unfold isOrd at hr; exact of_decide_eq_true hr
    rw [if_pos hord] at h
    cases h
    have hl : zs.length = n := by simpa using hv.1
    have hn1 : 1 ≤ n := by have := hord.1; omega
    have hn7 : n ≤ 7 := by have := hord.2.1; omega
    obtain ⟨b, o, cap, rfl, hcap, _, hbl, hcell⟩ := sees_cells hv (by omega)
    have HC := Go.Lib.hid hcell
    clear hv hr hcell
    go_enter Try.func75, Try.ntmps75
    go_wp2_with fail
    refine (CO.out _ HV.out).mono ?_
    rintro e w1 ⟨rfl, hd⟩
    have HB : Hid (Below W.heap.size W w1) := Go.Lib.hid (hd.below _)
    clear hd
    go_wp2_with fail
    refine (l2Text_any zs hord w1 _ n (HV.out.grow HB.out)).mono ?_
    rintro e w2 ⟨rfl, hd⟩
    go_wp2_with fail
    go_ret2
    exact ⟨rfl, HB.out.trans (hd.below _)⟩

set_option maxRecDepth 100000 in
set_option maxHeartbeats 1000000 in
theorem l2Parse_any (s : ByteArray) (xs : List Int) (b : Bool) (h : parseAns s = (xs, b)) (hs : s.size ≤ 1048576) (W : World) :
    Calls Try.prog 154 #[.string s] W fun e w' => ListTo W e w' xs b := by
  obtain ⟨i0, hi, hz0, hz1, hz2⟩ := info_parts infoI
  unfold parseAns at h
  by_cases h7 : s.size ≤ 7
  · obtain ⟨r, hr⟩ : ∃ r, isOrd (raw s) = r := ⟨_, rfl⟩
    have CO := Go.Lib.hid (fun W' v' (hs' : Sees W' v' s.size (vals (raw s))) => l2Order_any W' v' s.size (raw s) r hs' hs hr)
    have HX : Hid (if r = true then xs = raw s ∧ b = true else xs = [] ∧ b = false) := Go.Lib.hid (by
      cases r with
      | true => rw [if_pos ⟨h7, by unfold isOrd at hr; exact of_decide_eq_true hr⟩] at h; cases h; exact ⟨rfl, rfl⟩
      | false => rw [if_neg (by rintro ⟨_, ho⟩; unfold isOrd at hr; exact of_decide_eq_false hr ho)] at h; cases h; exact ⟨rfl, rfl⟩)
    have h7i : ¬ (7 : Int) < (s.size : Int) := by omega
    clear h hr
    go_enter Try.func154, Try.ntmps154
    go_wp2
    go_loopw [4, 5] (fun ov iv wr => ∃ (k g c : Nat), k ≤ s.size ∧ iv = .int .i64 k ∧ ov = .slice (some ⟨g, 0, none⟩) k c ∧ wr.ownsRow W.heap.size 3 1 (.slice (some ⟨g, 0, none⟩) k c) k (vals ((raw s).take k)) ∧ Below W.heap.size W wr) (fun _ i _ => s.size - (intOf i).toNat)
    case atStart => exact ⟨0, W.heap.size, 0, Nat.zero_le _, rfl, rfl, by
      have := World.ownsRow_made (base := W.heap.size) (e := 3) (size := 1) W #[] 0 (Nat.le_refl _) (by unfold maxLen; omega) rfl
      simpa using this, (Below.refl _ _).alloc (Nat.le_refl _) _⟩
    case round =>
      obtain ⟨k, g, c, hk, rfl, rfl, hown, hb⟩ := hrel
      by_cases hlt : k < s.size
      · have HE : Hid (vals ((raw s).take (k + 1)) = vals ((raw s).take k) ++ [.int .i64 ((s[k].toNat : Int) - 48)]) := Go.Lib.hid (take_next (by rw [raw_len]; exact hlt) (raw_at s k hlt))
        have hc256 : s[k].toNat < 256 := s[k].toNat_lt
        go_wp2_with (at_builtin; refine wpList_append_own _ rfl _ _ 29 rfl W.heap.size 3 i0 (.int .i64 0) 1 8 Try.underlying29 hi hz0 hz1 hz2 rfl (by decide) _ _ _ rfl (hown.alloc _) ⟨wr.heap.size, 0, none⟩ 1 1 [.int .i64 ((s[k].toNat : Int) - 48)] rfl rfl (cell_one_new _ _ _) (fun x hx => by simp at hx; subst hx; rfl) (by unfold maxLen; omega) (by omega) (by have := hb.size; simp; omega) ?_; intro v' w3 hown' hgrow3 hnil3)
        obtain ⟨g', cap', rfl⟩ := ownsRow_succ hown'
        rw [← HE.out] at hown'
        have hb' : Below W.heap.size W w3 := (hb.alloc hb.size _).grown hgrow3 (by have := hb.size; simp; omega) (fun q hq => (hown.lt q hq).1)
        have H3 := Go.Lib.hid (And.intro hown' hb')
        clear hown' hgrow3 hnil3 hown hb hb'
        go_wp2
        go_roundw
        case rel => exact ⟨k + 1, g', cap', by omega, by go_num, rfl, H3.out.1, H3.out.2⟩
        case measure => simp [intOf] <;> omega
      · have hkn : k = s.size := by omega
        subst hkn
        rw [List.take_of_length_le (by rw [raw_len]; exact Nat.le_refl _)] at hown
        have H3 := Go.Lib.hid (And.intro hown hb)
        clear hown hb
        go_wp2_with fail
        refine (CO.out _ _ (Sees.owns H3.out.1)).mono ?_
        rintro e w2 ⟨rfl, hd⟩
        have H4 := Go.Lib.hid (And.intro (kept_call H3.out.1 (hd.below _)) (H3.out.2.trans (hd.below _)))
        clear hd
        cases r with
        | true =>
          obtain ⟨rfl, rfl⟩ : xs = raw s ∧ b = true := by have := HX.out; simpa using this
          go_wp2_with fail
          go_ret2
          exact ⟨_, rfl, by rw [raw_len]; exact H4.out.1, H4.out.2⟩
        | false =>
          obtain ⟨rfl, rfl⟩ : xs = [] ∧ b = false := by have := HX.out; simpa using this
          go_wp2_with fail
          go_ret2
          exact listTo_below H4.out.2 (listTo_none _ _)
  · rw [if_neg (by rintro ⟨h1, _⟩; exact h7 h1)] at h
    cases h
    have h7i : (7 : Int) < (s.size : Int) := by omega
    go_enter Try.func154, Try.ntmps154
    go_wp2
    go_ret2
    exact listTo_none _ _

set_option maxRecDepth 100000 in
theorem specParse (s : ByteArray) (xs : List Int) (b : Bool) (h : parseAns s = (xs, b)) (hs : s.size ≤ 1048576) (W : World) :
    Calls Try.prog 84 #[.string s] W fun e w' => ListTo W e w' xs b := by
  have CP := Go.Lib.hid (l2Parse_any s xs b h hs W)
  go_enter Try.func84, Try.ntmps84
  go_wp2_with fail
  refine CP.out.mono ?_
  rintro e w1 ⟨v, rfl, ho, hb⟩
  have H := Go.Lib.hid (And.intro ho hb)
  clear ho hb
  go_wp2_with fail
  go_ret2
  exact ⟨v, rfl, H.out.1, H.out.2⟩

set_option maxRecDepth 100000 in
set_option maxHeartbeats 1000000 in
theorem digitsOf_any (zs : List Int) (hr : ∀ z ∈ zs, 0 ≤ z ∧ z ≤ 9) (W : World) (v : Value) (n : Nat) (hn1 : 1 ≤ n) (hn7 : n ≤ 1000) (hv : Sees W v n (vals zs)) :
    Calls Try.prog 142 #[v] W fun e w' => e = .returned (.string (txt (zs.map dig))) ∧ Below W.heap.size W w' := by
  have hl : zs.length = n := by simpa using hv.1
  obtain ⟨b, o, cap, rfl, hcap, _, hbl, hcell⟩ := sees_cells hv (by omega)
  have HC := Go.Lib.hid hcell
  have HR := Go.Lib.hid hr
  have HL := Go.Lib.hid hl
  obtain ⟨j0, hj, hy0, hy1, hy2⟩ := info_parts infoB
  clear hv hcell hr hl
  go_enter Try.func142, Try.ntmps142
  go_wp2_with (at_make; refine wpList_make_full _ rfl _ _ 22 rfl W.heap.size 5 j0 (.int .u8 0) 1 Try.underlying22 hj hy0 hy1 .i64 .i64 n n n rfl rfl rfl rfl (by rw [hy2]; omega) (by unfold maxLen; omega) (Nat.le_refl _) ?_; intro w2 hown1 hgrow1; clear hj hy0 hy1 hy2)
  rw [made_byte] at hown1
  have hb1 : Below W.heap.size W w2 := (Below.refl W.heap.size W).grown hgrow1 (Nat.le_refl _) (fun k hk => by cases hk)
  have hgb : W.heap.size ≤ W.heap.size := Nat.le_refl _
  clear hgrow1
  go_loopw [11] (fun iv wr => ∃ (k : Nat), k ≤ n ∧ iv = .int .i64 k ∧ wr.ownsRow W.heap.size 5 1 (.slice (some ⟨W.heap.size, 0, none⟩) n n) n (bvals ((zs.map dig).take k ++ (List.replicate n 0).drop k)) ∧ Below W.heap.size W wr) (fun i _ => n - (intOf i).toNat)
  case atStart => exact ⟨0, Nat.zero_le _, rfl, by simpa using hown1, hb1⟩
  case round =>
    obtain ⟨k, hk, rfl, hown, hb⟩ := hrel
    clear hown1 hb1
    by_cases hlt : k < n
    · have hkl : k < zs.length := by have := HL.out; omega
      have hck : wr.cell? ⟨b, o + k, none⟩ = some (.int .i64 (zs.getD k 0)) := (hb.cell (p := ⟨b, o + k, none⟩) hbl).trans (HC.out k hkl)
      obtain ⟨u, hu, hu7⟩ : ∃ u : Nat, zs.getD k 0 = (u : Int) ∧ u ≤ 9 := by
        have h1 := HR.out (zs.getD k 0) (by simp [hkl])
        exact ⟨(zs.getD k 0).toNat, by omega, by omega⟩
      have hst := hown.stored k (.int .u8 (48 + (u : Int)))
      have e0 : (48 + (u : Int)) = ((dig (u : Int)).toNat : Int) := by rw [dig_nat u (by omega)]; simp
      have e1 : (zs.map dig)[k]'(by simp; omega) = dig (u : Int) := by
        have : zs[k]'(by omega) = (u : Int) := by rw [← hu]; simp [hkl]
        simp [this]
      have hst1 : (wr.setCell ⟨W.heap.size, k, none⟩ (.int .u8 (48 + (u : Int)))).ownsRow W.heap.size 5 1 (.slice (some ⟨W.heap.size, 0, none⟩) n n) n (bvals ((zs.map dig).take (k + 1) ++ (List.replicate n 0).drop (k + 1))) := by
        have h1 := hst.1
        rw [e0] at h1 ⊢
        rw [bput_next (by simp [HL.out]) (by simp; omega) e1] at h1
        exact h1
      have hdc := hown.cellAt k (by omega)
      have hf := hown.frozenAt k
      obtain ⟨x, hx⟩ : ∃ x, wr.cell? ⟨W.heap.size, k, none⟩ = some x := ⟨_, hdc.trans (List.getElem?_eq_getElem (by rw [bvals_len]; simp; omega))⟩
      have HS := Go.Lib.hid (And.intro hst1 (hb.setCell (p := ⟨W.heap.size, k, none⟩) hgb (.int .u8 (48 + (u : Int)))))
      rw [hu] at hck
      have hlti : (k : Int) < (n : Int) := by omega
      clear hu hst hst1 e0 e1 hdc hb hown hkl
      go_wp2
      go_roundw
      case rel => exact ⟨k + 1, by omega, by go_num, HS.out.1, HS.out.2⟩
      case measure => simp [intOf] <;> omega
    · have hkn : k = n := by omega
      subst hkn
      have e1 : (zs.map dig).take k ++ (List.replicate k 0).drop k = zs.map dig := by rw [List.take_of_length_le (by simp; have := HL.out; omega), List.drop_of_length_le (by simp), List.append_nil]
      rw [e1] at hown
      have hconv := own_text hown
      have HB3 := Go.Lib.hid hb
      clear hown hb e1
      go_wp2
      go_ret
      exact ⟨rfl, HB3.out⟩

set_option maxRecDepth 100000 in
set_option maxHeartbeats 1000000 in
theorem implText (zs : List Int) (r' : ByteArray) (b : Bool) (h : textAns zs = (r', b)) (hz : zs.length ≤ 1048576) (W : World) (v : Value) (n : Nat) (hv : Sees W v n (vals zs)) :
    Calls Try.prog 74 #[v] W fun e w' => e = .returned (.tuple #[.string r', .bool b]) ∧ Below W.heap.size W w' := by
  have hn : n ≤ 1048576 := by have := hv.1; simp at this; omega
  obtain ⟨r, hr⟩ : ∃ r, isOrd zs = r := ⟨_, rfl⟩
  have CO := Go.Lib.hid (fun W' (hs : Sees W' v n (vals zs)) => implOrder_any W' v n zs r hs hn hr)
  have HV := Go.Lib.hid hv
  unfold textAns at h
  cases r with
  | false =>
    rw [if_neg (by unfold isOrd at hr; exact of_decide_eq_false hr)] at h
    cases h
    obtain ⟨_, ad, cap, rfl, _, _⟩ := hv
    clear hr
    go_enter Try.func74, Try.ntmps74
    go_wp2_with fail
    refine (CO.out _ HV.out).mono ?_
    rintro e w1 ⟨rfl, hd⟩
    have HB : Hid (Below W.heap.size W w1) := Go.Lib.hid hd
    go_wp2_with fail
    go_ret2
    exact ⟨rfl, HB.out⟩
  | true =>
    have hord : OrdMath.Ord zs := by unfold isOrd at hr; exact of_decide_eq_true hr
    rw [if_pos hord] at h
    cases h
    have hl : zs.length = n := by simpa using hv.1
    have CD := Go.Lib.hid (fun W' (hs : Sees W' v n (vals zs)) => digitsOf_any zs (fun z hz => by have := hord.2.2.1 z hz; have := hord.2.1; omega) W' v n (by have := hord.1; omega) (by have := hord.2.1; omega) hs)
    obtain ⟨_, ad, cap, rfl, _, _⟩ := hv
    clear hr hl hord
    go_enter Try.func74, Try.ntmps74
    go_wp2_with fail
    refine (CO.out _ HV.out).mono ?_
    rintro e w1 ⟨rfl, hd⟩
    have HB : Hid (Below W.heap.size W w1) := Go.Lib.hid hd
    clear hd
    go_wp2_with fail
    refine (CD.out _ (HV.out.grow HB.out)).mono ?_
    rintro e w2 ⟨rfl, hd⟩
    have HB2 : Hid (Below W.heap.size W w2) := Go.Lib.hid (HB.out.trans (hd.mono HB.out.size))
    clear hd
    go_wp2_with fail
    go_ret2
    exact ⟨rfl, HB2.out⟩

/-- What the program reads off a text. -/
def ReadTo (s : ByteArray) (W : World) (e : Ending) (w' : World) : Prop :=
  ∃ (g k c : Nat) (acc : List Int), e = .returned (.slice (some ⟨g, 0, none⟩) k c) ∧ acc.length = k ∧ k ≤ s.size ∧ w'.ownsRow W.heap.size 3 1 (.slice (some ⟨g, 0, none⟩) k c) k (vals acc) ∧ Below W.heap.size W w' ∧ (acc = raw s ∨ ((∃ p, ∃ hp : p < s.size, 128 ≤ (s[p]'hp).toNat) ∧ isOrd (raw s) = false ∧ ∃ z ∈ acc, 7 < z))

set_option maxRecDepth 100000 in
set_option maxHeartbeats 1000000 in
theorem numbersOf_any (s : ByteArray) (hs : s.size ≤ 1000) (W : World) :
    Calls Try.prog 153 #[.string s] W (ReadTo s W) := by
  obtain ⟨i0, hi, hz0, hz1, hz2⟩ := info_parts infoI
  go_enter Try.func153, Try.ntmps153
  go_wp2_with (at_make; refine wpList_make_own _ rfl _ _ 29 rfl W.heap.size 3 i0 (.int .i64 0) 1 Try.underlying29 hi hz0 hz1 .i64 .i64 _ s.size rfl rfl rfl (by rw [hz2]; omega) (by unfold maxLen; omega) (Nat.le_refl _) ?_; intro w1 hown1 hgrow1)
  have hb1 : Below W.heap.size W w1 := (Below.refl _ _).grown hgrow1 (Nat.le_refl _) (fun k hk => by cases hk)
  clear hgrow1
  go_loopw [3] (fun ov wr => ∃ (pos g k c : Nat) (acc : List Int), ov = .slice (some ⟨g, 0, none⟩) k c ∧ k = acc.length ∧ wr.heap[w1.heap.size]? = some (.stringIter s pos) ∧ wr.ownsRow W.heap.size 3 1 (.slice (some ⟨g, 0, none⟩) k c) k (vals acc) ∧ Below W.heap.size W wr ∧ k ≤ pos ∧ k ≤ s.size ∧ Hid ((acc = (raw s).take pos ∧ pos ≤ s.size) ∨ ((∃ p, ∃ hp : p < s.size, 128 ≤ (s[p]'hp).toNat) ∧ isOrd (raw s) = false ∧ ∃ z ∈ acc, 7 < z))) (fun _ wr => s.size - wr.iterPos w1.heap.size)
  case atStart => exact ⟨0, W.heap.size, 0, s.size, [], rfl, rfl, heap_alloc_new _ _, hown1.alloc _, hb1.alloc hb1.size _, Nat.le_refl _, Nat.zero_le _, Go.Lib.hid (.inl ⟨rfl, Nat.zero_le _⟩)⟩
  case round =>
    obtain ⟨pos, g, k, c, acc, rfl, hka, hit, hown, hb, hkp, hk7, HA⟩ := hrel
    have HIT := Go.Lib.hid hit
    have hpos0 := iter_pos hit
    have HKA := Go.Lib.hid hka
    by_cases hp : pos < s.size
    · have hnx : ∀ ty, (Instr.next (.pointer (some ⟨w1.heap.size, 0, none⟩)) true ty).run Try.prog wr = _ := fun ty => Lib.run_next_any_at wr w1.heap.size s pos ty hit hp
      have hwd := width_pos s pos hp
      obtain ⟨rn, hrn⟩ : ∃ rn, (Utf8.decode s pos).1 = rn := ⟨_, rfl⟩
      obtain ⟨wd, hwdd⟩ : ∃ wd, (Utf8.decode s pos).2 = wd := ⟨_, rfl⟩
      have hrb : rn ≤ 2147483647 := by rw [← hrn]; exact decode_le s pos
      have HA2 : Hid ((acc ++ [(rn : Int) - 48] = (raw s).take (pos + wd) ∧ pos + wd ≤ s.size) ∨ ((∃ p, ∃ hp : p < s.size, 128 ≤ (s[p]'hp).toNat) ∧ isOrd (raw s) = false ∧ ∃ z ∈ acc ++ [(rn : Int) - 48], 7 < z)) := Go.Lib.hid (by
        rcases HA.out with ⟨h1, h2⟩ | ⟨h0, h1, z, hz, h2⟩
        · by_cases ha : (s[pos]'hp).toNat < 128
          · have hd := decode_ascii s pos hp ha
            rw [hd] at hrn hwdd
            left
            refine ⟨?_, by rw [← hwdd]; omega⟩
            have e1 := raw_at s pos hp
            have e2 : (raw s)[pos]'(by rw [raw_len]; exact hp) = (s[pos].toNat : Int) - 48 := by rw [← e1]; simp [raw_len, hp]
            rw [← hwdd, ← hrn, List.take_succ_eq_append_getElem (by rw [raw_len]; exact hp), e2, h1]
          · have hd := (decode_high s pos hp (by omega)).1
            rw [hrn] at hd
            right
            have e1 := raw_at s pos hp
            refine ⟨⟨pos, hp, by omega⟩, isOrd_big (z := (s[pos].toNat : Int) - 48) ?_ (by omega), (rn : Int) - 48, by simp, by omega⟩
            rw [← e1, List.getD_eq_getElem?_getD, List.getElem?_eq_getElem (by rw [raw_len]; exact hp)]
            exact List.getElem_mem _
        · right
          exact ⟨h0, h1, z, by simp [hz], h2⟩)
      rw [hrn, hwdd] at hnx
      rw [hwdd] at hwd
      have hne := own_ne_iter hown hit
      have hown2 := own_iterAt hown hit (pos + wd)
      have hit2 := Lib.iterAt_heap wr w1.heap.size s pos (pos + wd) hit
      have hb2 : Below W.heap.size W (wr.iterAt w1.heap.size s (pos + wd)) := Lib.below_iterAt hb hb1.size s (pos + wd)
      obtain ⟨wi, hwi⟩ : ∃ wi, wr.iterAt w1.heap.size s (pos + wd) = wi := ⟨_, rfl⟩
      rw [hwi] at hnx hown2 hit2 hb2
      have hk8 : k < 1001 := by omega
      have hksz : k + 1 ≤ s.size := by omega
      have H2 := Go.Lib.hid (And.intro hit2 (And.intro hne hb1.size))
      have HRD := Go.Lib.hid (And.intro hrn hwdd)
      have HPOS := Go.Lib.hid hpos0
      clear hrn hwdd hwi hit2 hne hit hown hb hb1 hown1 HA hpos0 hka
      go_wp2_with (at_builtin; refine wpList_append_own _ rfl _ _ 29 rfl W.heap.size 3 i0 (.int .i64 0) 1 8 Try.underlying29 hi hz0 hz1 hz2 rfl (by decide) _ _ _ rfl (hown2.alloc _) ⟨wi.heap.size, 0, none⟩ 1 1 [.int .i64 ((rn : Int) - 48)] rfl rfl (cell_one_new _ _ _) (fun x hx => by simp at hx; subst hx; rfl) (by unfold maxLen; omega) (by omega) (by have := hb2.size; simp; omega) ?_; intro v' w3 hown' hgrow3 hnil3)
      obtain ⟨g', cap', rfl⟩ := ownsRow_succ hown'
      have hb' : Below W.heap.size W w3 := (hb2.alloc hb2.size _).grown hgrow3 (by have := hb2.size; simp; omega) (fun q hq => (hown2.lt q hq).1)
      have hit3 := iter_kept (iter_alloc H2.out.1 _) hgrow3 H2.out.2.1
      have e1 : vals acc ++ [Value.int .i64 ((rn : Int) - 48)] = vals (acc ++ [(rn : Int) - 48]) := by simp
      rw [e1] at hown'
      have H3 := Go.Lib.hid (And.intro hown' (And.intro hb' hit3))
      have hpos3 := iter_pos hit3
      have HP3 := Go.Lib.hid hpos3
      clear hown' hgrow3 hnil3 hown2 hb2 hb' hit3 hpos3 e1
      go_wp2
      go_roundw
      case rel => exact ⟨pos + wd, g', k + 1, cap', acc ++ [(rn : Int) - 48], rfl, by simp; exact HKA.out, H3.out.2.2, H3.out.1, H3.out.2.1, by omega, hksz, HA2⟩
      case measure => rw [HP3.out, HPOS.out]; omega
    · have hnx : ∀ ty, (Instr.next (.pointer (some ⟨w1.heap.size, 0, none⟩)) true ty).run Try.prog wr = _ := fun ty => Lib.run_next_end_at wr w1.heap.size s pos ty hit hp
      have HF : Hid (acc = raw s ∨ ((∃ p, ∃ hp : p < s.size, 128 ≤ (s[p]'hp).toNat) ∧ isOrd (raw s) = false ∧ ∃ z ∈ acc, 7 < z)) := Go.Lib.hid (by
        rcases HA.out with ⟨h1, h2⟩ | h
        · rw [List.take_of_length_le (by rw [raw_len]; omega)] at h1
          exact .inl h1
        · exact .inr h)
      have H3 := Go.Lib.hid (And.intro hown hb)
      clear hown hb hit hown1 hb1 hka
      go_wp2_with fail
      go_ret
      exact ⟨g, k, c, acc, rfl, HKA.out.symm, hk7, H3.out.1, H3.out.2, HF.out⟩

set_option maxRecDepth 100000 in
set_option maxHeartbeats 1000000 in
theorem implParse (s : ByteArray) (xs : List Int) (b : Bool) (h : parseAns s = (xs, b)) (hs : s.size ≤ 1048576) (W : World) :
    Calls Try.prog 83 #[.string s] W fun e w' => ListTo W e w' xs b := by
  unfold parseAns at h
  by_cases h7 : s.size ≤ 7
  · have HX : Hid (if isOrd (raw s) = true then xs = raw s ∧ b = true else xs = [] ∧ b = false) := Go.Lib.hid (by
      by_cases hr : isOrd (raw s) = true
      · rw [if_pos ⟨h7, by unfold isOrd at hr; exact of_decide_eq_true hr⟩] at h; cases h; rw [if_pos hr]; exact ⟨rfl, rfl⟩
      · rw [if_neg (by rintro ⟨_, ho⟩; exact hr (by unfold isOrd; exact decide_eq_true ho))] at h; cases h; rw [if_neg hr]; exact ⟨rfl, rfl⟩)
    have h7i : ¬ (7 : Int) < (s.size : Int) := by omega
    have CN := Go.Lib.hid (numbersOf_any s (by omega) W)
    clear h
    go_enter Try.func83, Try.ntmps83
    go_wp2_with fail
    refine (CN.out).mono ?_
    rintro e w1 ⟨g, k, c, acc, rfl, hka, hks, hown, hb, hA⟩
    obtain ⟨r, hr⟩ : ∃ r, isOrd acc = r := ⟨_, rfl⟩
    have HX2 : Hid (if r = true then xs = acc ∧ b = true else xs = [] ∧ b = false) := Go.Lib.hid (by
      have hx := HX.out
      rcases hA with h1 | ⟨_, h1, z, hz, h2⟩
      · rw [← h1, hr] at hx
        exact hx
      · rw [h1] at hx
        rw [← hr, isOrd_big hz h2]
        exact hx)
    have CO := Go.Lib.hid (fun W' v' (hs' : Sees W' v' k (vals acc)) => implOrder_any W' v' k acc r hs' (by omega) hr)
    have H3 := Go.Lib.hid (And.intro hown hb)
    have HKA := Go.Lib.hid hka
    clear hown hb hr hka hA
    go_wp2_with fail
    refine (CO.out _ _ (Sees.owns H3.out.1)).mono ?_
    rintro e w2 ⟨rfl, hd⟩
    have H4 := Go.Lib.hid (And.intro (kept_call H3.out.1 hd) (H3.out.2.trans (hd.mono H3.out.2.size)))
    clear hd
    cases r with
    | true =>
      obtain ⟨rfl, rfl⟩ : xs = acc ∧ b = true := by have := HX2.out; simpa using this
      go_wp2_with fail
      go_ret2
      exact ⟨_, rfl, by rw [HKA.out]; exact H4.out.1, H4.out.2⟩
    | false =>
      obtain ⟨rfl, rfl⟩ : xs = [] ∧ b = false := by have := HX2.out; simpa using this
      go_wp2_with fail
      go_ret2
      exact listTo_below H4.out.2 (listTo_none _ _)
  · rw [if_neg (by rintro ⟨h1, _⟩; exact h7 h1)] at h
    cases h
    have h7i : (7 : Int) < (s.size : Int) := by omega
    go_enter Try.func83, Try.ntmps83
    go_wp2
    go_ret2
    exact listTo_none _ _

end Go.Proofs.Ytecbfoodkcgehab.TextC

/-
  Contracts: OrderAt of the model and of the program. Conditions: none.
-/
namespace Go.Proofs.Ytecbfoodkcgehab.OrderAtC
open Go.RowKit SeesC IntsC ExactC OrdMath InC OrderC RankC IterC AtC SortedOrdC

set_option maxRecDepth 100000 in
theorem specAt (n k : Int) (xs : List Int) (b : Bool) (h : atAns n k = (xs, b)) (hw : (Lit.int .i64 n).wf = true) (hw2 : (Lit.int .i64 k).wf = true) (W : World) :
    Calls Try.prog 81 #[.int .i64 n, .int .i64 k] W fun e w' => ListTo W e w' xs b := by
  unfold atAns at h
  by_cases h17 : 1 ≤ n ∧ n ≤ 7
  · obtain ⟨m, rfl⟩ : ∃ m : Nat, n = (m : Int) := ⟨n.toNat, by omega⟩
    have hm7 : m ≤ 7 := by omega
    rw [Int.toNat_natCast] at h
    have C1 := Go.Lib.hid (fun w2 => l1In_any (m : Int) 1 7 w2 true (by rw [decide_eq_true_iff]; exact h17))
    have C2 := Go.Lib.hid (fun w2 => l2Ways_any m w2 hm7)
    have hf1 := fact_pos m
    have hf7 := fact_7 hm7
    by_cases hk : 0 ≤ k ∧ k < (fact m : Int)
    · rw [if_pos ⟨h17.1, h17.2, hk.1, hk.2⟩] at h
      cases h
      obtain ⟨kk, rfl⟩ : ∃ kk : Nat, k = (kk : Int) := ⟨k.toNat, by omega⟩
      rw [Int.toNat_natCast]
      have C4 := Go.Lib.hid (fun w2 => l2At_any m kk w2 (by omega) hm7 (by omega))
      have hln : (atRun m (iota m) kk).length = m := atRun_len _ _ _
      have C3 := Go.Lib.hid (fun w2 => l1In_any (kk : Int) 0 ((fact m : Int) - 1) w2 true (by rw [decide_eq_true_iff]; omega))
      obtain ⟨f, hf⟩ : ∃ f, fact m = f := ⟨_, rfl⟩
      rw [hf] at C2 C3 hf1 hf7
      have HL := Go.Lib.hid hln
      clear h17 hw hw2 hk hf hln
      go_enter Try.func81, Try.ntmps81
      go_wp2_with fail
      refine (C1.out _).mono ?_
      rintro e w1 ⟨rfl, rfl⟩
      go_wp2_with fail
      refine (C2.out _).mono ?_
      rintro e w1 ⟨rfl, rfl⟩
      go_wp2_with fail
      refine (C3.out _).mono ?_
      rintro e w1 ⟨rfl, rfl⟩
      go_wp2_with fail
      refine (C4.out _).mono ?_
      rintro e w2 ⟨g, c, rfl, ho, hb⟩
      have H := Go.Lib.hid (And.intro ho hb)
      clear ho hb
      go_wp2_with fail
      go_ret2
      exact ⟨_, rfl, by rw [HL.out]; exact H.out.1, H.out.2⟩
    · rw [if_neg (by rintro ⟨_, _, h3, h4⟩; exact hk ⟨h3, h4⟩)] at h
      cases h
      have C3 := Go.Lib.hid (fun w2 => l1In_any k 0 ((fact m : Int) - 1) w2 false (by rw [decide_eq_false_iff_not]; omega))
      obtain ⟨f, hf⟩ : ∃ f, fact m = f := ⟨_, rfl⟩
      rw [hf] at C2 C3 hf1 hf7
      clear h17 hw hw2 hk hf
      go_enter Try.func81, Try.ntmps81
      go_wp2_with fail
      refine (C1.out _).mono ?_
      rintro e w1 ⟨rfl, rfl⟩
      go_wp2_with fail
      refine (C2.out _).mono ?_
      rintro e w1 ⟨rfl, rfl⟩
      go_wp2_with fail
      refine (C3.out _).mono ?_
      rintro e w1 ⟨rfl, rfl⟩
      go_wp2_with fail
      go_ret2
      exact listTo_none _ _
  · rw [if_neg (by rintro ⟨h1, h2, _⟩; exact h17 ⟨h1, h2⟩)] at h
    cases h
    have C1 := Go.Lib.hid (fun w2 => l1In_any n 1 7 w2 false (by rw [decide_eq_false_iff_not]; exact h17))
    clear h17 hw hw2
    go_enter Try.func81, Try.ntmps81
    go_wp2_with fail
    refine (C1.out _).mono ?_
    rintro e w1 ⟨rfl, rfl⟩
    go_wp2_with fail
    go_ret2
    exact listTo_none _ _

/-- One number deleted out of a row of the call's own. -/
theorem delete_own (left : List Int) (g q c ix B : Nat) (W : World) (hl : left.length = q + 1) (hix : ix < q + 1) (hq : q ≤ 7) (hown : W.ownsRow B 3 1 (.slice (some ⟨g, 0, none⟩) (q + 1) c) (q + 1) (vals left)) :
    Calls Try.prog 151 #[.slice (some ⟨g, 0, none⟩) (q + 1) c, .int .i64 ix, .int .i64 ((ix + 1 : Nat) : Int)] W fun e w' => e = .returned (.slice (some ⟨g, 0, none⟩) q c) ∧ w'.ownsRow B 3 1 (.slice (some ⟨g, 0, none⟩) q c) q (vals (left.eraseIdx ix)) ∧ W.grownBy w' (some g) := by
  obtain ⟨hcap, hcm⟩ : q + 1 ≤ c ∧ c ≤ maxLen := by
    rcases hown.2 with ⟨h0, _⟩ | ⟨g', cap', cur, h0, _, _, h1, h2, _⟩
    · cases h0
    · cases h0; exact ⟨h1, h2⟩
  have hcs := own_cells hown
  refine (Try.slices_Delete_int_cells g 0 (q + 1) c ix (ix + 1) left W (by omega) hcap (by unfold maxLen at hcm; omega) (by omega) (by omega) hcs.1 hcs.2).mono ?_
  rintro e w' ⟨rfl, n, rfl⟩
  have e1 : q + 1 - (ix + 1 - ix) = q := by omega
  have e2 : (left.take (q + 1)).take ix ++ (left.take (q + 1)).drop (ix + 1) ++ List.replicate (ix + 1 - ix) 0 = left.eraseIdx ix ++ [0] := by
    have et : left.take (q + 1) = left := List.take_of_length_le (by omega)
    have : ix + 1 - ix = 1 := by omega
    rw [et, erase_parts, this]; rfl
  rw [e1, e2]
  have h1 := own_setCells (vals (left.eraseIdx ix ++ [0])) (W.drewN n) 0 _ (own_drewN (q := n) hown)
  have hel : (left.eraseIdx ix).length = q := by rw [List.length_eraseIdx, hl]; split <;> omega
  rw [setL_is _ _ _ (by simp [hel, hl])] at h1
  have e3 : List.take 0 (vals left) ++ vals (left.eraseIdx ix ++ [0]) ++ List.drop (0 + (vals (left.eraseIdx ix ++ [0])).length) (vals left) = vals (left.eraseIdx ix) ++ [.int .i64 0] := by
    rw [List.drop_of_length_le (by simp [hel, hl])]; simp
  rw [e3] at h1
  refine ⟨rfl, ownsRow_pop (last := [.int .i64 0]) (by simp [hel]) h1.1, ?_⟩
  exact ⟨h1.2.os, h1.2.tape, h1.2.output, h1.2.size, h1.2.block⟩

set_option maxRecDepth 100000 in
set_option maxHeartbeats 4000000 in
theorem implAt (n k : Int) (xs : List Int) (b : Bool) (h : atAns n k = (xs, b)) (hw : (Lit.int .i64 n).wf = true) (hw2 : (Lit.int .i64 k).wf = true) (W : World) :
    Calls Try.prog 80 #[.int .i64 n, .int .i64 k] W fun e w' => ListTo W e w' xs b := by
  obtain ⟨i0, hi, hz0, hz1, hz2⟩ := info_parts infoI
  unfold atAns at h
  by_cases h1 : n < 1
  · rw [if_neg (by omega)] at h
    cases h
    go_enter Try.func80, Try.ntmps80
    go_wp2
    go_ret2
    exact listTo_none _ _
  by_cases h7 : 7 < n
  · rw [if_neg (by omega)] at h
    cases h
    go_enter Try.func80, Try.ntmps80
    go_wp2
    go_ret2
    exact listTo_none _ _
  by_cases hk0 : k < 0
  · rw [if_neg (by omega)] at h
    cases h
    go_enter Try.func80, Try.ntmps80
    go_wp2
    go_ret2
    exact listTo_none _ _
  obtain ⟨m, rfl⟩ : ∃ m : Nat, n = (m : Int) := ⟨n.toNat, by omega⟩
  obtain ⟨kk, rfl⟩ : ∃ kk : Nat, k = (kk : Int) := ⟨k.toNat, by omega⟩
  have hm7 : m ≤ 7 := by omega
  have hm1 : 1 ≤ m := by omega
  rw [Int.toNat_natCast, Int.toNat_natCast] at h
  have C2 := Go.Lib.hid (fun w2 => countOrders_any m w2 hm7)
  have hf1 := fact_pos m
  have hf7 := fact_7 hm7
  by_cases hkf : kk < fact m
  · rw [if_pos (by omega)] at h
    cases h
    have HK := Go.Lib.hid hkf
    have hln : (atRun m (iota m) kk).length = m := atRun_len _ _ _
    have HLN := Go.Lib.hid hln
    obtain ⟨f, hf⟩ : ∃ f, fact m = f := ⟨_, rfl⟩
    rw [hf] at C2 hf1 hf7 hkf
    have hkfi : ¬ (f : Int) ≤ (kk : Int) := by omega
    have hkk5 : kk ≤ 5040 := by omega
    clear hf hln hw hw2
    go_enter Try.func80, Try.ntmps80
    go_wp2_with fail
    refine (C2.out _).mono ?_
    rintro e w1 ⟨rfl, rfl⟩
    have CSO := Go.Lib.hid (fun w2 => sortedOrder_any m w2 hm7)
    go_wp2_with fail
    refine (CSO.out _).mono ?_
    rintro e wr ⟨gs, cs, rfl, hown, hb⟩
    have hgsb := hown.lt gs rfl
    obtain ⟨i, hieq⟩ : ∃ i, i = m := ⟨m, rfl⟩
    subst hieq
    go_wp2_with (at_make; refine wpList_make_own _ rfl _ _ 29 rfl W.heap.size 3 i0 (.int .i64 0) 1 Try.underlying29 hi hz0 hz1 .i64 .i64 _ i rfl rfl rfl (by rw [hz2]; omega) (by unfold maxLen; omega) hb.size ?_; intro w2 hown2 hgrow2)
    have hb2 : Below W.heap.size W w2 := hb.grown hgrow2 hb.size (fun k hk => by cases hk)
    have hr2 := hown.kept (row := none) hgrow2 (.inr (by simp [Value.ownBlock]))
    have hne : wr.heap.size ≠ gs := by have := hgsb.2; omega
    obtain ⟨go, hgo⟩ : ∃ go, wr.heap.size = go := ⟨_, rfl⟩
    rw [hgo] at hown2 hne
    have H0 := Go.Lib.hid (And.intro hown2 (And.intro hr2 (And.intro hne hb2)))
    have HGO := Go.Lib.hid hgo
    clear hgrow2 hown hb hown2 hr2 hne hb2 hgo hgsb
    go_loopw [1, 6, 7] (fun kv lv ov wr => ∃ (q j k' g1 c1 g2 c2 : Nat) (out left : List Int), kv = .int .i64 k' ∧ ov = .slice (some ⟨g1, 0, none⟩) j c1 ∧ lv = .slice (some ⟨g2, 0, none⟩) q c2 ∧ j + q = i ∧ out.length = j ∧ left.length = q ∧ k' ≤ 5040 ∧ wr.ownsRow W.heap.size 3 1 (.slice (some ⟨g1, 0, none⟩) j c1) j (vals out) ∧ wr.ownsRow W.heap.size 3 1 (.slice (some ⟨g2, 0, none⟩) q c2) q (vals left) ∧ g1 ≠ g2 ∧ Below W.heap.size W wr ∧ Hid (out ++ atRun q left k' = atRun i (iota i) kk ∧ k' < fact q)) (fun _ lv _ _ => lenV lv)
    case atStart => exact ⟨i, 0, kk, go, i, gs, cs, [], iota i, rfl, by rw [← HGO.out], rfl, by omega, rfl, iota_len i, hkk5, H0.out.1, H0.out.2.1, H0.out.2.2.1, H0.out.2.2.2, Go.Lib.hid ⟨rfl, HK.out⟩⟩
    case round =>
      obtain ⟨q1, j, k', g1, c1, g2, c2, out, left, rfl, rfl, rfl, hjm, hlo, hll, hk5, hownA, hownB, hg12, hb, HR⟩ := hrel
      by_cases hm0 : 0 < q1
      · obtain ⟨q, rfl⟩ : ∃ q, q1 = q + 1 := ⟨q1 - 1, by omega⟩
        have CW := Go.Lib.hid (fun w3 => countOrders_any q w3 (by omega))
        have hq7 : q ≤ 6 := by omega
        have hff1 := fact_pos q
        have hff7 := fact_6 hq7
        have hkf2 : k' < (q + 1) * fact q := HR.out.2
        have hix : k' / fact q < q + 1 := by rw [Nat.div_lt_iff_lt_mul (by omega)]; exact hkf2
        have hmod := Nat.mod_lt k' (show 0 < fact q by omega)
        have hdiv : (k' : Int).tdiv (fact q : Int) = ((k' / fact q : Nat) : Int) := by rw [Int.tdiv_eq_ediv_of_nonneg (by omega)]; simp
        have hrem : (k' : Int).tmod (fact q : Int) = ((k' % fact q : Nat) : Int) := by rw [Int.tmod_eq_emod_of_nonneg (by omega)]; simp
        have HAT : Hid (atRun (q + 1) left k' = left.getD (k' / fact q) 0 :: atRun q (left.eraseIdx (k' / fact q)) (k' % fact q)) := Go.Lib.hid rfl
        obtain ⟨fq, hfq⟩ : ∃ fq, fact q = fq := ⟨_, rfl⟩
        obtain ⟨ix, hixe⟩ : ∃ ix, k' / fq = ix := ⟨_, rfl⟩
        obtain ⟨km, hkm⟩ : ∃ km, k' % fq = km := ⟨_, rfl⟩
        have HMOD : Hid (k' % fact q < fact q) := Go.Lib.hid hmod
        rw [hfq] at CW hff1 hff7 hix hmod hdiv hrem HAT
        rw [hixe] at hix hdiv HAT
        rw [hkm] at hmod hrem HAT
        rw [hfq, hkm, ← hfq] at HMOD
        obtain ⟨z, hz⟩ : ∃ z, left.getD ix 0 = z := ⟨_, rfl⟩
        rw [hz] at HAT
        have hckz : wr.cell? ⟨g2, ix, none⟩ = some (.int .i64 z) := by rw [hownB.cellAt ix (by omega)]; simp [show ix < left.length by omega]; rw [← hz]; simp [show ix < left.length by omega]
        obtain ⟨ix1, hix1⟩ : ∃ ix1, ix + 1 = ix1 := ⟨_, rfl⟩
        have p0 : IntKind.i64.wrap (ix : Int) = (ix : Int) := IntWalk.i64_in _ (by omega)
        have p1 : IntKind.i64.wrap ((ix : Int) + 1) = (ix1 : Int) := by rw [IntWalk.i64_in _ (by omega)]; omega
        have r4 : (ix : Int) < ((q + 1 : Nat) : Int) := by omega
        have r6 : (ix : Int) < (q : Int) + 1 := by omega
        have hfne : ((fq : Int) == 0) = false := by rw [beq_eq_false_iff_ne]; omega
        have hfne2 : ¬ (fq : Int) = 0 := by omega
        have hfne3 : ¬ fq = 0 := by omega
        have HL := Go.Lib.hid (And.intro hlo (And.intro hll (And.intro hjm (And.intro hix hix1))))
        have hj7 : j ≤ 7 := by omega
        have hkm5 : km ≤ 5040 := by omega
        have HG2 := Go.Lib.hid ((hownB.lt g2 rfl).2)
        clear hlo hll hjm hfq hkf2 hz hixe hkm
        go_wp2_with fail
        refine (CW.out _).mono ?_
        rintro e w3 ⟨rfl, rfl⟩
        go_wp2_with (at_builtin; refine wpList_append_own_at _ rfl _ _ 29 rfl W.heap.size 3 i0 (.int .i64 0) 1 8 Try.underlying29 hi hz0 hz1 hz2 rfl (by decide) (.slice (some ⟨g1, 0, none⟩) j c1) j (vals out) rfl (hownA.alloc _) ⟨wr.heap.size, 0, none⟩ 1 1 [.int .i64 z] rfl rfl (cell_one_new _ _ _) (fun x hx => by simp at hx; subst hx; rfl) (by unfold maxLen; omega) (by omega) (by have := hb.size; simp; omega) ?_; intro v' w4 hown' hgrow4 hnil4 hrow4)
        obtain ⟨g', cap', rfl⟩ := ownsRow_succ hown'
        have e1 : vals out ++ [Value.int .i64 z] = vals (out ++ [z]) := by simp
        rw [e1] at hown'
        have hb' : Below W.heap.size W w4 := (hb.alloc hb.size _).grown hgrow4 (by have := hb.size; simp; omega) (fun q hq => (hownA.lt q hq).1)
        have hownB' := own_mark (hownB.alloc (.cells #[.int .i64 z] 3)) hgrow4 (fun a ha e => by simp only [Value.ownBlock, Option.some.injEq] at ha e; omega)
        have hg12' : g' ≠ g2 := by
          have h1 := HG2.out
          rcases hrow4 with h2 | h2
          · simp [Value.ownBlock] at h2; omega
          · simp [Value.ownBlock] at h2; omega
        have CD := Go.Lib.hid (delete_own left g2 q c2 ix W.heap.size w4.drew HL.out.2.1 HL.out.2.2.2.1 (by omega) hownB')
        have hcc : ((ix + 1 : Nat) : Int) = (ix1 : Int) := by have := HL.out; omega
        rw [hcc] at CD
        have H3 := Go.Lib.hid (And.intro hown' (And.intro hg12' (And.intro hb' ((hownB'.lt g2 rfl).1))))
        clear hown' hgrow4 hnil4 hrow4 hownA hownB hb hb' hownB' hg12' e1 hckz hcc
        go_region_law ((go_simp; go_at_call 151; refine CD.out.mono ?_; rintro e w5 ⟨rfl, ho5, hg5⟩; have H5 := Go.Lib.hid (And.intro ho5 hg5)))
        all_goals
          have hgr : w4.grownBy w5 (some g2) := ⟨H5.out.2.os, H5.out.2.tape, H5.out.2.output, H5.out.2.size, H5.out.2.block⟩
          have hout5 := own_mark H3.out.1 hgr (fun a ha e => by have := H3.out.2.1; simp only [Value.ownBlock, Option.some.injEq] at ha e; omega)
          have hb5 : Below W.heap.size W w5 := H3.out.2.2.1.grown hgr H3.out.2.2.1.size (fun k hk => by cases hk; exact H3.out.2.2.2)
          have H7 := Go.Lib.hid (And.intro hout5 (And.intro H5.out.1 hb5))
          have HN : Hid ((out ++ [z]) ++ atRun q (left.eraseIdx ix) km = atRun i (iota i) kk ∧ km < fact q) := Go.Lib.hid ⟨by rw [← HR.out.1, HAT.out]; simp, HMOD.out⟩
          have HGN := Go.Lib.hid H3.out.2.1
          clear hgr hout5 hb5 ho5 hg5
          go_wp2
          go_roundw
          case rel => exact ⟨q, j + 1, km, g', cap', g2, c2, out ++ [z], left.eraseIdx ix, rfl, rfl, rfl, by have := HL.out; omega, by simp; exact HL.out.1, by rw [List.length_eraseIdx, HL.out.2.1]; have := HL.out; split <;> omega, by omega, H7.out.1, H7.out.2.1, HGN.out, H7.out.2.2, HN⟩
          case measure => simp [lenV]
      · obtain rfl : q1 = 0 := by omega
        have HE : Hid (atRun i (iota i) kk = out) := Go.Lib.hid (by rw [← HR.out.1]; simp [atRun])
        have H3 := Go.Lib.hid (And.intro hownA hb)
        obtain rfl : j = i := by omega
        clear hownA hownB hb
        go_wp2
        go_ret2
        exact ⟨_, rfl, by rw [HLN.out, HE.out]; exact H3.out.1, H3.out.2⟩
  · rw [if_neg (by omega)] at h
    cases h
    obtain ⟨f, hf⟩ : ∃ f, fact m = f := ⟨_, rfl⟩
    rw [hf] at C2 hf1 hf7 hkf
    have hkfi : (f : Int) ≤ (kk : Int) := by omega
    clear hf hw hw2
    go_enter Try.func80, Try.ntmps80
    go_wp2_with fail
    refine (C2.out _).mono ?_
    rintro e w1 ⟨rfl, rfl⟩
    go_wp2_with fail
    go_ret2
    exact listTo_none _ _

end Go.Proofs.Ytecbfoodkcgehab.OrderAtC

/-
  Contracts of the model's drawn arguments of the functions on orders. Conditions: the code has at most 65536 bytes.
-/
namespace Go.Proofs.Ytecbfoodkcgehab.DrawOrd2C
open Go.RowKit SeesC IntsC ExactC NumC IterC OrdMath OrderC RankC TextC CurC CurMoreC DrawOrdC AtC

theorem ex_size (t : ByteArray) (a b : Nat) : (t.extract a b).size ≤ t.size := by
  rw [ByteArray.size_extract]; omega

/-- A short text comes back; the cursor has gone on; nothing else has turned. -/
def DrewT (B lim k : Nat) (w : World) (e : Ending) (w' : World) : Prop :=
  ∃ t : ByteArray, t.size ≤ k ∧ e = .returned (.string t) ∧ Cur w' B lim ∧ w.grownBy w' (some B)

set_option maxRecDepth 100000 in
set_option maxHeartbeats 2000000 in
theorem spoilt_any (B lim : Nat) (t s : ByteArray) (w : World) (h : Cur w B lim) (hl : lim ≤ 1000000) (ht : t.size ≤ 20) (hs : 1 ≤ s.size) (hs2 : s.size ≤ 20) :
    Calls Try.prog 152 #[.pointer (some ⟨B, 0, none⟩), .string t, .string s] w fun e w' => DrewT B (lim + 6) 60 w e w' := by
  by_cases h0 : t = ByteArray.empty
  · subst h0
    have hx := ex_size s 0 1
    have HC := Go.Lib.hid h
    clear h
    go_enter Try.func152, Try.ntmps152
    go_wp2
    go_ret
    exact ⟨_, by omega, rfl, HC.out.more (by omega), ⟨rfl, rfl, rfl, Nat.le_refl _, fun _ _ _ => rfl⟩⟩
  · have hts : 1 ≤ t.size := by
      rcases Nat.eq_zero_or_pos t.size with h9 | h9
      · exfalso; apply h0
        cases t with
        | mk d => have : d.size = 0 := h9; have : d = #[] := Array.eq_empty_of_size_eq_zero this; subst this; rfl
      · exact h9
    by_cases he : t.toList.isEmpty = true
    · have hx := ex_size s 0 1
      have HC := Go.Lib.hid h
      clear h
      go_enter Try.func152, Try.ntmps152
      go_wp2
      go_ret
      exact ⟨_, by omega, rfl, HC.out.more (by omega), ⟨rfl, rfl, rfl, Nat.le_refl _, fun _ _ _ => rfl⟩⟩
    have he2 : t.toList.isEmpty = false := by simpa using he
    have C1 := Go.Lib.hid (pick_any B lim t.size w h (by omega) (by omega) (by omega))
    clear h he
    go_enter Try.func152, Try.ntmps152
    go_wp2_with fail
    refine (C1.out).mono ?_
    rintro e W1 ⟨x, rfl, hx0, hx1, hc1, hg1⟩
    obtain ⟨i, rfl⟩ : ∃ i : Nat, x = (i : Int) := ⟨x.toNat, by omega⟩
    have C2 := Go.Lib.hid (pick_any B (lim + 2) s.size W1 hc1 (by omega) (by omega) (by omega))
    have HG1 := Go.Lib.hid hg1
    clear hc1 hg1
    go_wp2_with fail
    refine (C2.out).mono ?_
    rintro e W2 ⟨y, rfl, hy0, hy1, hc2, hg2⟩
    obtain ⟨k, rfl⟩ : ∃ k : Nat, y = (k : Int) := ⟨y.toNat, by omega⟩
    have C3 := Go.Lib.hid (pick_any B (lim + 2 + 2) 3 W2 hc2 (by omega) (by omega) (by omega))
    have HG2 := Go.Lib.hid (IntsC.grown_trans HG1.out hg2)
    have hit : i < t.size := by omega
    have hks : k < s.size := by omega
    have hksi : (k : Int) ≤ (s.size : Int) := by omega
    have hsz : (s.extract k s.size).size = s.size - k := by rw [ByteArray.size_extract]; omega
    have hsz1 : (1 : Int) ≤ ((s.extract k s.size).size : Int) := by omega
    clear hc2 hg2
    go_wp2_with fail
    refine (C3.out).mono ?_
    rintro e W3 ⟨z, rfl, hz0, hz1, hc3, hg3⟩
    have H3 := Go.Lib.hid (And.intro hc3 (IntsC.grown_trans HG2.out hg3))
    have hw1 := ex_size (s.extract k s.size) 0 1
    obtain ⟨ww, hww⟩ : ∃ ww, (s.extract k s.size).extract 0 1 = ww := ⟨_, rfl⟩
    have hta := ex_size t 0 i
    have htb := ex_size t i t.size
    have htc := ex_size t (i + 1) t.size
    have hiti : (i : Int) ≤ (t.size : Int) := by omega
    have hiti1 : (i : Int) + 1 ≤ (t.size : Int) := by omega
    have hi1w : IntKind.i64.wrap ((i : Int) + 1) = (i : Int) + 1 := IntWalk.i64_in _ (by omega)
    have hi1n : ((i : Int) + 1).toNat = i + 1 := by omega
    have hi10 : (0 : Int) ≤ (i : Int) + 1 := by omega
    rw [hww] at hw1
    have hww20 : ww.size ≤ 20 := by omega
    obtain ⟨ta, hta2⟩ : ∃ ta, t.extract 0 i = ta := ⟨_, rfl⟩
    obtain ⟨tb, htb2⟩ : ∃ tb, t.extract i t.size = tb := ⟨_, rfl⟩
    obtain ⟨tc, htc2⟩ : ∃ tc, t.extract (i + 1) t.size = tc := ⟨_, rfl⟩
    rw [hta2] at hta
    rw [htb2] at htb
    rw [htc2] at htc
    have hta20 : ta.size ≤ 20 := by omega
    have htb20 : tb.size ≤ 20 := by omega
    have htc20 : tc.size ≤ 20 := by omega
    have hab : (ta ++ ww).size ≤ 40 := by rw [ByteArray.size_append]; omega
    clear hc3 hg3
    by_cases hz_0 : z = 0
    · subst hz_0
      go_wp2
      go_quiet (fail)
      go_wp2
      go_ret
      exact ⟨_, by simp only [ByteArray.size_append]; omega, rfl, H3.out.1, grown_drew H3.out.2 _⟩
    have hz_0b : (z == 0) = false := by rw [beq_eq_false_iff_ne]; exact hz_0
    by_cases hz_1 : z = 1
    · subst hz_1
      go_wp2
      go_quiet (fail)
      go_wp2
      go_ret
      exact ⟨_, by simp only [ByteArray.size_append]; omega, rfl, H3.out.1, grown_drew H3.out.2 _⟩
    have hz_1b : (z == 1) = false := by rw [beq_eq_false_iff_ne]; exact hz_1
    go_wp2
    go_quiet (fail)
    go_wp2
    go_ret
    exact ⟨_, by simp only [ByteArray.size_append]; omega, rfl, H3.out.1, grown_drew H3.out.2 _⟩

/-- A list comes back in memory of the call's own; nothing that was there has turned. -/
def OneL (w : World) (e : Ending) (w' : World) : Prop :=
  ∃ (v : Value) (zs : List Int), e = .returned v ∧ zs.length ≤ 8 ∧ w'.ownsRow w.heap.size 3 1 v zs.length (vals zs) ∧ Below w.heap.size w w'

theorem oneL_of {w W1 W2 : World} {g c : Nat} {zs : List Int} (hb : Below w.heap.size w W1) (hB : w.heap.size < W1.heap.size) (hz : zs.length ≤ 8) (ho : W2.ownsRow W1.heap.size 3 1 (.slice (some ⟨g, 0, none⟩) zs.length c) zs.length (vals zs)) (hg : W1.grownBy W2 (some w.heap.size)) :
    OneL w (.returned (.slice (some ⟨g, 0, none⟩) zs.length c)) W2 :=
  ⟨_, zs, rfl, hz, own_lower ho (by omega), hb.grown hg hb.size (fun k e => by cases e; exact Nat.le_refl _)⟩

set_option maxRecDepth 100000 in
theorem drawIsOrder_any (v : Value) (n : Nat) (zs : List Int) (w : World) (hv : Sees w v n (zs.map (Value.int .u8))) (hz : ∀ z ∈ zs, 0 ≤ z ∧ z ≤ 255) (hn : n ≤ 65536) :
    Calls Try.prog 137 #[v] w fun e w' => OneL w e w' := by
  have c0 := cur_made hv hz hn
  obtain ⟨_, a, cap, rfl, _, _⟩ := hv
  have C1 := Go.Lib.hid (order_any w.heap.size 0 _ c0 (by decide))
  clear c0
  go_enter Try.func137, Try.ntmps137
  go_wp2_with fail
  refine (C1.out).mono ?_
  rintro e W1 ⟨g, c, ys, rfl, hys, ho, hc, hg⟩
  have H := Go.Lib.hid (oneL_of ((Below.refl w.heap.size w).alloc (Nat.le_refl _) _) (by simp) hys ho hg)
  clear ho hc hg
  go_wp2_with fail
  go_ret
  exact H.out

set_option maxRecDepth 100000 in
theorem drawInverse_any (v : Value) (n : Nat) (zs : List Int) (w : World) (hv : Sees w v n (zs.map (Value.int .u8))) (hz : ∀ z ∈ zs, 0 ≤ z ∧ z ≤ 255) (hn : n ≤ 65536) :
    Calls Try.prog 63 #[v] w fun e w' => OneL w e w' := by
  have C1 := Go.Lib.hid (drawIsOrder_any v n zs w hv hz hn)
  clear hv
  go_enter Try.func63, Try.ntmps63
  go_wp2_with fail
  refine (C1.out).mono ?_
  rintro e W1 ⟨u, ys, rfl, hys, ho, hb⟩
  have H := Go.Lib.hid (And.intro ho hb)
  clear ho hb
  go_wp2_with fail
  go_ret
  exact ⟨u, ys, rfl, hys, H.out.1, H.out.2⟩

/-- Two lists come back in memory of the call's own; nothing that was there has turned. -/
def TwoL (w : World) (e : Ending) (w' : World) : Prop :=
  ∃ (v u : Value) (zs ys : List Int), e = .returned (.tuple #[v, u]) ∧ zs.length ≤ 8 ∧ ys.length ≤ 8 ∧ w'.ownsRow w.heap.size 3 1 v zs.length (vals zs) ∧ w'.ownsRow w.heap.size 3 1 u ys.length (vals ys) ∧ Below w.heap.size w w'

set_option maxRecDepth 100000 in
set_option maxHeartbeats 1000000 in
theorem drawCompose_any (v : Value) (n : Nat) (zs : List Int) (w : World) (hv : Sees w v n (zs.map (Value.int .u8))) (hz : ∀ z ∈ zs, 0 ≤ z ∧ z ≤ 255) (hn : n ≤ 65536) :
    Calls Try.prog 76 #[v] w fun e w' => TwoL w e w' := by
  have c0 := cur_made hv hz hn
  obtain ⟨_, a, cap, rfl, _, _⟩ := hv
  have C1 := Go.Lib.hid (order_any w.heap.size 0 _ c0 (by decide))
  have HB0 := Go.Lib.hid ((Below.refl w.heap.size w).alloc (Nat.le_refl _) (.cells #[.slice a n cap, .int .i64 0, .int .u64 0] 74))
  clear c0
  go_enter Try.func76, Try.ntmps76
  go_wp2_with fail
  refine (C1.out).mono ?_
  rintro e W1 ⟨g, c, ys, rfl, hys, ho, hc, hg⟩
  have hgl : w.heap.size < g := by have := (ho.lt g rfl).1; simp at this; omega
  have hb1 := HB0.out.grown hg HB0.out.size (fun k e => by cases e; exact Nat.le_refl _)
  have ho' := own_lower ho HB0.out.size
  obtain ⟨r, hr⟩ : ∃ r, isOrd ys = r := ⟨_, rfl⟩
  have C2 := Go.Lib.hid (l2Order_any W1 _ ys.length ys r (Sees.owns ho) (by omega) hr)
  have H1 := Go.Lib.hid (And.intro ho' (And.intro hc hb1))
  clear ho hc hg ho' hb1
  go_wp2_with fail
  refine (C2.out).mono ?_
  rintro e W2 ⟨rfl, hd⟩
  have hc2 : Cur W2 w.heap.size 22 := by obtain ⟨q, rfl⟩ := hd; exact H1.out.2.1
  have H2 := Go.Lib.hid (And.intro (kept_call H1.out.1 (hd.below _)) (And.intro hc2 (H1.out.2.2.trans (hd.below _))))
  clear hd hc2
  cases r with
  | false =>
    have C4 := Go.Lib.hid (order_any w.heap.size 22 W2 H2.out.2.1 (by omega))
    go_wp2_with fail
    refine (C4.out).mono ?_
    rintro e W3 ⟨g4, c4, xs, rfl, hxs, ho4, hc4, hg4⟩
    have h5 := own_mark H2.out.1 hg4 (fun a ha e => by simp only [Value.ownBlock, Option.some.injEq] at ha e; omega)
    have h6 := own_lower ho4 H2.out.2.2.size
    have h7 := H2.out.2.2.grown hg4 H2.out.2.2.size (fun k e => by cases e; exact Nat.le_refl _)
    have H3 := Go.Lib.hid (And.intro h5 (And.intro h6 h7))
    clear ho4 hc4 hg4 h5 h6 h7
    go_wp2_with fail
    go_ret2
    exact ⟨_, _, ys, xs, rfl, hys, hxs, H3.out.1, H3.out.2.1, H3.out.2.2⟩
  | true =>
    have hord : Ord ys := by unfold isOrd at hr; exact of_decide_eq_true hr
    have C4 := Go.Lib.hid (one_any w.heap.size 22 6 W2 H2.out.2.1 (by omega) (by omega) (by omega))
    go_wp2_with fail
    refine (C4.out).mono ?_
    rintro e W3 ⟨b, rfl, hc4, hg4⟩
    have h5 := own_mark H2.out.1 hg4 (fun a ha e => by simp only [Value.ownBlock, Option.some.injEq] at ha e; omega)
    have h7 := H2.out.2.2.grown hg4 H2.out.2.2.size (fun k e => by cases e; exact Nat.le_refl _)
    have H3 := Go.Lib.hid (And.intro h5 (And.intro hc4 h7))
    clear hc4 hg4 h5 h7
    cases b with
    | true =>
      have C5 := Go.Lib.hid (order_any w.heap.size 24 W3 H3.out.2.1 (by omega))
      go_wp2_with fail
      refine (C5.out).mono ?_
      rintro e W4 ⟨g4, c4, xs, rfl, hxs, ho4, hc4, hg4⟩
      have h5 := own_mark H3.out.1 hg4 (fun a ha e => by simp only [Value.ownBlock, Option.some.injEq] at ha e; omega)
      have h6 := own_lower ho4 H3.out.2.2.size
      have h7 := H3.out.2.2.grown hg4 H3.out.2.2.size (fun k e => by cases e; exact Nat.le_refl _)
      have H4 := Go.Lib.hid (And.intro h5 (And.intro h6 h7))
      clear ho4 hc4 hg4 h5 h6 h7
      go_wp2_with fail
      go_ret2
      exact ⟨_, _, ys, xs, rfl, hys, hxs, H4.out.1, H4.out.2.1, H4.out.2.2⟩
    | false =>
      have h1 := hord.1
      have h7 := hord.2.1
      have CW := Go.Lib.hid (fun w2 => l2Ways_any ys.length w2 h7)
      have hf1 := fact_pos ys.length
      have hf7 := fact_7 h7
      obtain ⟨f, hf⟩ : ∃ f, fact ys.length = f := ⟨_, rfl⟩
      rw [hf] at CW hf1 hf7
      have C5 := Go.Lib.hid (pick_any w.heap.size 24 (f : Int) W3 H3.out.2.1 (by omega) (by omega) (by omega))
      have HF := Go.Lib.hid hf
      clear hf
      go_wp2_with fail
      refine (CW.out _).mono ?_
      rintro e W4 ⟨rfl, rfl⟩
      go_wp2_with fail
      refine (C5.out).mono ?_
      rintro e W4 ⟨x, rfl, hx0, hx1, hc5, hg5⟩
      obtain ⟨k, rfl⟩ : ∃ k : Nat, x = (k : Int) := ⟨x.toNat, by omega⟩
      have h5 := own_mark H3.out.1 hg5 (fun a ha e => by simp only [Value.ownBlock, Option.some.injEq] at ha e; omega)
      have h8 := H3.out.2.2.grown hg5 H3.out.2.2.size (fun k e => by cases e; exact Nat.le_refl _)
      have CA := Go.Lib.hid (l2At_any ys.length k W4 h1 h7 (by have := HF.out; omega))
      have H4 := Go.Lib.hid (And.intro h5 h8)
      clear hc5 hg5 h5 h8
      go_wp2_with fail
      refine (CA.out).mono ?_
      rintro e W5 ⟨g6, c6, rfl, ho6, hb6⟩
      have hln : (atRun ys.length (iota ys.length) k).length = ys.length := atRun_len _ _ _
      have H5 := Go.Lib.hid (And.intro (kept_call H4.out.1 hb6) (And.intro (own_lower ho6 H4.out.2.size) (H4.out.2.trans (hb6.mono H4.out.2.size))))
      have HLN := Go.Lib.hid hln
      clear ho6 hb6 hln
      go_wp2_with fail
      go_ret2
      exact ⟨_, _, ys, atRun ys.length (iota ys.length) k, rfl, hys, by rw [HLN.out]; exact hys, H5.out.1, by rw [HLN.out]; exact H5.out.2.1, H5.out.2.2⟩

/-- Two numbers come back; nothing that was there has turned. -/
def TwoI (w : World) (e : Ending) (w' : World) : Prop :=
  ∃ a b : Int, e = .returned (.tuple #[.int .i64 a, .int .i64 b]) ∧ -100000 ≤ a ∧ a ≤ 100000 ∧ -100000 ≤ b ∧ b ≤ 100000 ∧ Below w.heap.size w w'

def atL : List Int := [3, 4, 5, 2, 7, 6, 1, 0, 8]
theorem at_bd (t : Int) (h : t ∈ atL) : 0 ≤ t ∧ t ≤ 8 := by
  have : ∀ t ∈ atL, 0 ≤ t ∧ t ≤ 8 := by decide
  exact this t h

set_option maxRecDepth 100000 in
theorem least_any (a b : Int) (W : World) :
    ∃ r, r = min a b ∧ Calls Try.prog 148 #[.int .i64 a, .int .i64 b] W fun e w' => e = .returned (.int .i64 r) ∧ W = w' := by
  refine ⟨min a b, rfl, ?_⟩
  by_cases h : a < b
  · have HM : Hid (min a b = a) := Go.Lib.hid (by omega)
    go_enter Try.func148, Try.ntmps148
    go_wp2
    go_ret
    exact ⟨by rw [HM.out]; rfl, rfl⟩
  · have HM : Hid (min a b = b) := Go.Lib.hid (by omega)
    go_enter Try.func148, Try.ntmps148
    go_wp2
    go_ret
    exact ⟨by rw [HM.out]; rfl, rfl⟩

set_option maxRecDepth 100000 in
theorem most_any (a b : Int) (W : World) :
    ∃ r, r = max a b ∧ Calls Try.prog 147 #[.int .i64 a, .int .i64 b] W fun e w' => e = .returned (.int .i64 r) ∧ W = w' := by
  refine ⟨max a b, rfl, ?_⟩
  by_cases h : b < a
  · have HM : Hid (max a b = a) := Go.Lib.hid (by omega)
    go_enter Try.func147, Try.ntmps147
    go_wp2
    go_ret
    exact ⟨by rw [HM.out]; rfl, rfl⟩
  · have HM : Hid (max a b = b) := Go.Lib.hid (by omega)
    go_enter Try.func147, Try.ntmps147
    go_wp2
    go_ret
    exact ⟨by rw [HM.out]; rfl, rfl⟩

set_option maxRecDepth 100000 in
set_option maxHeartbeats 1000000 in
theorem drawAt_any (v : Value) (n : Nat) (zs : List Int) (w : World) (hv : Sees w v n (zs.map (Value.int .u8))) (hz : ∀ z ∈ zs, 0 ≤ z ∧ z ≤ 255) (hn : n ≤ 65536) :
    Calls Try.prog 79 #[v] w fun e w' => TwoI w e w' := by
  have c0 := cur_made hv hz hn
  obtain ⟨_, a, cap, rfl, _, _⟩ := hv
  have HB0 := Go.Lib.hid (((Below.refl w.heap.size w).alloc (Nat.le_refl _) (.cells #[.slice a n cap, .int .i64 0, .int .u64 0] 74)).alloc (by simp) (.cells (atL.map (Value.int .i64)).toArray 3))
  have C1 := Go.Lib.hid (among_any w.heap.size 0 (w.heap.size + 1) 9 atL ((w.alloc (.cells #[.slice a n cap, .int .i64 0, .int .u64 0] 74)).alloc (.cells (atL.map (Value.int .i64)).toArray 3)) (cur_kept c0 (World.grownBy_alloc _ _ none) (fun k e => by cases e)) (by omega) (by decide) (by decide) (by omega) (fun j x hx => by have h9 := cell_ints (w.alloc (.cells #[.slice a n cap, .int .i64 0, .int .u64 0] 74)) atL 3 j x hx; rw [show (w.alloc (.cells #[.slice a n cap, .int .i64 0, .int .u64 0] 74)).heap.size = w.heap.size + 1 by simp] at h9; exact h9))
  clear c0
  go_enter Try.func79, Try.ntmps79
  go_wp2_with fail
  refine (C1.out).mono ?_
  rintro e W1 ⟨t, ht, rfl, hc1, hg1⟩
  obtain ⟨ht0, ht8⟩ := at_bd t ht
  have H1 := Go.Lib.hid (And.intro hc1 (HB0.out.grown hg1 HB0.out.size (fun k e => by cases e; exact Nat.le_refl _)))
  clear ht hc1 hg1
  obtain ⟨r1, hr1, c2⟩ := least_any t 7 W1
  obtain ⟨r2, hr2, c3⟩ := most_any 1 r1 W1
  have C2 := Go.Lib.hid c2
  have C3 := Go.Lib.hid c3
  obtain ⟨m, rfl⟩ : ∃ m : Nat, r2 = (m : Int) := ⟨r2.toNat, by omega⟩
  have hm7 : m ≤ 7 := by omega
  have CW := Go.Lib.hid (fun w2 => l2Ways_any m w2 hm7)
  have hf1 := fact_pos m
  have hf7 := fact_7 hm7
  obtain ⟨f, hf⟩ : ∃ f, fact m = f := ⟨_, rfl⟩
  rw [hf] at CW hf1 hf7
  have C4 := Go.Lib.hid (pick_any w.heap.size 2 (f : Int) W1 (H1.out.1.more (by omega)) (by omega) (by omega) (by omega))
  clear hf c2 c3 hr1 hr2
  go_wp2_with fail
  refine (C2.out).mono ?_
  rintro e W2 ⟨rfl, rfl⟩
  go_wp2_with fail
  refine (C3.out).mono ?_
  rintro e W2 ⟨rfl, rfl⟩
  go_wp2_with fail
  refine (CW.out _).mono ?_
  rintro e W2 ⟨rfl, rfl⟩
  go_wp2_with fail
  refine (C4.out).mono ?_
  rintro e W2 ⟨x, rfl, hx0, hx1, hc2, hg2⟩
  have C5 := Go.Lib.hid (pick_any w.heap.size 4 24 W2 hc2 (by omega) (by omega) (by omega))
  have HB2 := Go.Lib.hid (H1.out.2.grown hg2 H1.out.2.size (fun k e => by cases e; exact Nat.le_refl _))
  clear hc2 hg2
  go_wp2_with fail
  refine (C5.out).mono ?_
  rintro e W3 ⟨y, rfl, hy0, hy1, hc3, hg3⟩
  have C6 := Go.Lib.hid (pick_any w.heap.size 6 24 W3 hc3 (by omega) (by omega) (by omega))
  have HB3 := Go.Lib.hid (HB2.out.grown hg3 HB2.out.size (fun k e => by cases e; exact Nat.le_refl _))
  have hyd : y.tdiv 23 = y / 23 := Int.tdiv_eq_ediv_of_nonneg hy0
  clear hc3 hg3
  go_wp2_with fail
  refine (C6.out).mono ?_
  rintro e W4 ⟨z, rfl, hz0, hz1, hc4, hg4⟩
  have HB4 := Go.Lib.hid (HB3.out.grown hg4 HB3.out.size (fun k e => by cases e; exact Nat.le_refl _))
  have hzd : z.tdiv 23 = z / 23 := Int.tdiv_eq_ediv_of_nonneg hz0
  clear hc4 hg4
  go_wp2_with fail
  go_ret2
  exact ⟨t, x - y / 23 + z / 23, by first | rfl | (congr), by omega, by omega, by omega, by omega, HB4.out⟩

/-- A short text comes back; nothing that was there has turned. -/
def OneT (k : Nat) (w : World) (e : Ending) (w' : World) : Prop :=
  ∃ t : ByteArray, t.size ≤ k ∧ e = .returned (.string t) ∧ Below w.heap.size w w'

set_option maxRecDepth 100000 in
set_option maxHeartbeats 1000000 in
theorem drawParse_any (v : Value) (n : Nat) (zs : List Int) (w : World) (hv : Sees w v n (zs.map (Value.int .u8))) (hz : ∀ z ∈ zs, 0 ≤ z ∧ z ≤ 255) (hn : n ≤ 65536) :
    Calls Try.prog 82 #[v] w fun e w' => OneT 60 w e w' := by
  have c0 := cur_made hv hz hn
  obtain ⟨_, a, cap, rfl, _, _⟩ := hv
  have C1 := Go.Lib.hid (order_any w.heap.size 0 _ c0 (by decide))
  have HB0 := Go.Lib.hid ((Below.refl w.heap.size w).alloc (Nat.le_refl _) (.cells #[.slice a n cap, .int .i64 0, .int .u64 0] 74))
  clear c0
  go_enter Try.func82, Try.ntmps82
  go_wp2_with fail
  refine (C1.out).mono ?_
  rintro e W1 ⟨g, c, ys, rfl, hys, ho, hc, hg⟩
  have hb1 := HB0.out.grown hg HB0.out.size (fun k e => by cases e; exact Nat.le_refl _)
  obtain ⟨r, hr⟩ : ∃ r, isOrd ys = r := ⟨_, rfl⟩
  have C2 := Go.Lib.hid (l2Order_any W1 _ ys.length ys r (Sees.owns ho) (by omega) hr)
  have H1 := Go.Lib.hid (And.intro (Sees.owns ho) (And.intro hc hb1))
  clear ho hc hg hb1
  go_wp2_with fail
  refine (C2.out).mono ?_
  rintro e W2 ⟨rfl, hd⟩
  have hc2 : Cur W2 w.heap.size 22 := by obtain ⟨q, rfl⟩ := hd; exact H1.out.2.1
  have H2 := Go.Lib.hid (And.intro (hd.sees H1.out.1) (And.intro hc2 (H1.out.2.2.trans (hd.below _))))
  clear hd hc2
  cases r with
  | false =>
    have C4 := Go.Lib.hid (one_any w.heap.size 22 3 W2 H2.out.2.1 (by omega) (by omega) (by omega))
    go_wp2_with fail
    refine (C4.out).mono ?_
    rintro e W3 ⟨b, rfl, hc4, hg4⟩
    have H3 := Go.Lib.hid (And.intro hc4 (H2.out.2.2.grown hg4 H2.out.2.2.size (fun k e => by cases e; exact Nat.le_refl _)))
    clear hc4 hg4
    cases b with
    | false =>
      go_wp2_with fail
      go_ret
      exact ⟨_, by decide, rfl, H3.out.2⟩
    | true =>
      have C5 := Go.Lib.hid (spoilt_any w.heap.size 24 { data := #[51, 49, 50] } { data := #[49, 50, 51, 52, 53, 32, 120] } W3 H3.out.1 (by omega) (by decide) (by decide) (by decide))
      go_wp2_with fail
      refine (C5.out).mono ?_
      rintro e W4 ⟨t, ht, rfl, hc5, hg5⟩
      have HB := Go.Lib.hid (H3.out.2.grown hg5 H3.out.2.size (fun k e => by cases e; exact Nat.le_refl _))
      clear hc5 hg5
      go_wp2_with fail
      go_ret
      exact ⟨t, ht, rfl, HB.out⟩
  | true =>
    have hord : OrdMath.Ord ys := by unfold isOrd at hr; exact of_decide_eq_true hr
    have CT := Go.Lib.hid (l2Text_any ys hord W2 _ ys.length H2.out.1)
    have hts : (txt (ys.map dig)).size ≤ 8 := by rw [txt_size]; simp; exact hys
    obtain ⟨tt, htt⟩ : ∃ tt, txt (ys.map dig) = tt := ⟨_, rfl⟩
    rw [htt] at CT hts
    go_wp2_with fail
    refine (CT.out).mono ?_
    rintro e W2b ⟨rfl, hd⟩
    have hc2 : Cur W2b w.heap.size 22 := by obtain ⟨q, rfl⟩ := hd; exact H2.out.2.1
    have H2b := Go.Lib.hid (And.intro hc2 (H2.out.2.2.trans (hd.below _)))
    clear hd hc2
    have C4 := Go.Lib.hid (one_any w.heap.size 22 3 W2b H2b.out.1 (by omega) (by omega) (by omega))
    go_wp2_with fail
    refine (C4.out).mono ?_
    rintro e W3 ⟨b, rfl, hc4, hg4⟩
    have H3 := Go.Lib.hid (And.intro hc4 (H2b.out.2.grown hg4 H2b.out.2.size (fun k e => by cases e; exact Nat.le_refl _)))
    clear hc4 hg4
    cases b with
    | false =>
      go_wp2_with fail
      go_ret
      exact ⟨tt, by omega, rfl, H3.out.2⟩
    | true =>
      have C5 := Go.Lib.hid (spoilt_any w.heap.size 24 tt { data := #[49, 50, 51, 52, 53, 32, 120] } W3 H3.out.1 (by omega) (by omega) (by decide) (by decide))
      go_wp2_with fail
      refine (C5.out).mono ?_
      rintro e W4 ⟨t, ht, rfl, hc5, hg5⟩
      have HB := Go.Lib.hid (H3.out.2.grown hg5 H3.out.2.size (fun k e => by cases e; exact Nat.le_refl _))
      clear hc5 hg5
      go_wp2_with fail
      go_ret
      exact ⟨t, ht, rfl, HB.out⟩

end Go.Proofs.Ytecbfoodkcgehab.DrawOrd2C

/-
  Contracts of the model's drawn arguments of the laws on sweeps: one of some lists, an order, or a sweep. Conditions: the code has at most 65536 bytes.
-/
namespace Go.Proofs.Ytecbfoodkcgehab.Draw5C
open Go.RowKit SeesC IntsC ExactC OrdMath OrderC CurC CurMoreC DrawOrdC DrawOrd2C AtC SweepM SweepWC

/-- A list of integers lies in a block of its own. -/
def Blk (w : World) (p : Nat) (ys : List Int) : Prop := w.heap[p]? = some (.cells (vals ys).toArray 3 (0, 0))

theorem Blk.new (w : World) (ys : List Int) : Blk (w.alloc (.cells (vals ys).toArray 3)) w.heap.size ys := World.alloc_heap_new w _
theorem Blk.alloc {w : World} {p : Nat} {ys : List Int} (h : Blk w p ys) (o : Obj) : Blk (w.alloc o) p ys := (Below.heap_alloc w o p (Array.getElem?_eq_some_iff.1 h).1).trans h
theorem Blk.grown {w w' : World} {p B : Nat} {ys : List Int} (h : Blk w p ys) (hg : w.grownBy w' (some B)) (hne : p ≠ B) : Blk w' p ys := (hg.block p (Array.getElem?_eq_some_iff.1 h).1 (by simpa using hne)).trans h
theorem Blk.cell {w : World} {p : Nat} {ys : List Int} (h : Blk w p ys) : ∀ j, j < ys.length → w.cell? ⟨p, 0 + j, none⟩ = some (.int .i64 (ys.getD j 0)) := by
  intro j hj
  rw [Nat.zero_add, cell_of_row w p j _ _ _ h]
  simp [hj]

/-- One of some lists is copied. -/
def Copied (B lim : Nat) (w : World) (e : Ending) (w' : World) : Prop :=
  ∃ (g c : Nat) (ys : List Int), e = .returned (.slice (some ⟨g, 0, none⟩) ys.length c) ∧ ys.length ≤ 8 ∧ w'.ownsRow w.heap.size 3 1 (.slice (some ⟨g, 0, none⟩) ys.length c) ys.length (vals ys) ∧ Cur w' B lim ∧ w.grownBy w' (some B)

set_option maxRecDepth 100000 in
set_option maxHeartbeats 1000000 in
theorem among2_any (B lim g cap N : Nat) (w : World) (h : Cur w B lim) (hl : lim ≤ 900000) (hN1 : 1 ≤ N) (hN2 : N ≤ 100) (hg : g ≠ B)
    (hall : ∀ j, j < N → ∃ (p : Nat) (ys : List Int), w.cell? ⟨g, j, none⟩ = some (.slice (some ⟨p, 0, none⟩) ys.length ys.length) ∧ p ≠ B ∧ ys.length ≤ 8 ∧ Blk w p ys) :
    Calls Try.prog 160 #[.pointer (some ⟨B, 0, none⟩), .slice (some ⟨g, 0, none⟩) N cap] w fun e w' => Copied B (lim + 2) w e w' := by
  have C1 := Go.Lib.hid (pick_any B lim N w h (by omega) (by omega) (by omega))
  have HA := Go.Lib.hid hall
  have HB := Go.Lib.hid (cur_lt h)
  clear h hall
  go_enter Try.func160, Try.ntmps160
  go_wp2_with fail
  refine (C1.out).mono ?_
  rintro e W1 ⟨x, rfl, hx0, hx1, hc1, hg1⟩
  obtain ⟨j, rfl⟩ : ∃ j : Nat, x = (j : Int) := ⟨x.toNat, by omega⟩
  obtain ⟨p, ys, hck, hpB, hy8, hbl⟩ := HA.out j (by omega)
  have hck1 : W1.cell? ⟨g, j, none⟩ = some (.slice (some ⟨p, 0, none⟩) ys.length ys.length) := by
    have hlt := World.block_lt_of_cell? w _ hck
    exact (World.cell?_of_block (hg1.block g hlt (by simpa using hg))).trans hck
  have CO := Go.Lib.hid (l1Own_any ys p 0 ys.length ys.length W1 rfl (by omega) (Blk.cell (hbl.grown hg1 hpB)))
  have H1 := Go.Lib.hid (And.intro hc1 hg1)
  have hjN : (j : Int) < (N : Int) := by omega
  clear hc1 hg1 hck hbl
  go_wp2_with fail
  refine (CO.out).mono ?_
  rintro e W2 ⟨g2, c2, rfl, ho, hb⟩
  have hc2 : Cur W2 B (lim + 2) := cur_kept H1.out.1 (grown_of_below hb none) (fun k e => by cases e)
  have H2 := Go.Lib.hid (And.intro (own_lower ho H1.out.2.size) (And.intro hc2 (IntsC.grown_trans H1.out.2 ((grown_of_below hb none).but _))))
  clear ho hb hc2
  go_wp2_with fail
  go_ret
  exact ⟨g2, c2, ys, rfl, hy8, H2.out.1, H2.out.2.1, H2.out.2.2⟩

set_option maxRecDepth 100000 in
theorem drawRec_any (v : Value) (n : Nat) (zs : List Int) (w : World) (hv : Sees w v n (zs.map (Value.int .u8))) (hz : ∀ z ∈ zs, 0 ≤ z ∧ z ≤ 255) (hn : n ≤ 65536) :
    Calls Try.prog 89 #[v] w fun e w' => OneL w e w' := by
  have C1 := Go.Lib.hid (drawIsOrder_any v n zs w hv hz hn)
  clear hv
  go_enter Try.func89, Try.ntmps89
  go_wp2_with fail
  refine (C1.out).mono ?_
  rintro e W1 ⟨u, ys, rfl, hy, ho, hb⟩
  have H := Go.Lib.hid (And.intro ho hb)
  clear ho hb
  go_wp2_with fail
  go_ret
  exact ⟨_, ys, rfl, hy, H.out.1, H.out.2⟩

set_option maxRecDepth 100000 in
set_option maxHeartbeats 2000000 in
theorem drawSweeps_any (v : Value) (n : Nat) (zs : List Int) (w : World) (hv : Sees w v n (zs.map (Value.int .u8))) (hz : ∀ z ∈ zs, 0 ≤ z ∧ z ≤ 255) (hn : n ≤ 65536) :
    Calls Try.prog 88 #[v] w fun e w' => OneL w e w' := by
  have c0 := cur_made hv hz hn
  obtain ⟨_, a, cap, rfl, _, _⟩ := hv
  have HB0 := Go.Lib.hid ((Below.refl w.heap.size w).alloc (Nat.le_refl _) (.cells #[.slice a n cap, .int .i64 0, .int .u64 0] 74))
  have C1 := Go.Lib.hid (one_any w.heap.size 0 4 _ c0 (by omega) (by omega) (by omega))
  clear c0
  go_enter Try.func88, Try.ntmps88
  go_wp2_with fail
  refine (C1.out).mono ?_
  rintro e W1 ⟨b, rfl, hc, hg⟩
  have hb1 := HB0.out.grown hg HB0.out.size (fun k e => by cases e; exact Nat.le_refl _)
  have hB1 : w.heap.size < W1.heap.size := cur_lt hc
  have H1 := Go.Lib.hid (And.intro hc hb1)
  clear hc hg hb1
  cases b with
  | false =>
    have C2 := Go.Lib.hid (order_any w.heap.size 2 W1 (H1.out.1.more (by omega)) (by decide))
    go_wp2_with fail
    refine (C2.out).mono ?_
    rintro e W2 ⟨g, c, ys, rfl, hy, ho, hc2, hg2⟩
    have H2 := Go.Lib.hid (oneL_of H1.out.2 hB1 hy ho hg2)
    clear ho hc2 hg2
    go_wp2_with fail
    go_ret
    exact H2.out
  | true =>
    obtain ⟨V0, hV0⟩ : ∃ V, W1.alloc (.cells #[.int .i64 2, .int .i64 3, .int .i64 1] 3) = V := ⟨_, rfl⟩
    obtain ⟨V1, hV1⟩ : ∃ V, V0.alloc (.cells #[.int .i64 2, .int .i64 3, .int .i64 4, .int .i64 1] 3) = V := ⟨_, rfl⟩
    obtain ⟨V2, hV2⟩ : ∃ V, V1.alloc (.cells #[.int .i64 2, .int .i64 3, .int .i64 4, .int .i64 5, .int .i64 6, .int .i64 7, .int .i64 1] 3) = V := ⟨_, rfl⟩
    obtain ⟨V3, hV3⟩ : ∃ V, V2.alloc (.cells #[.int .i64 1] 3) = V := ⟨_, rfl⟩
    obtain ⟨V4, hV4⟩ : ∃ V, V3.alloc (.cells #[.int .i64 3, .int .i64 2, .int .i64 4, .int .i64 1] 3) = V := ⟨_, rfl⟩
    obtain ⟨V5, hV5⟩ : ∃ V, V4.alloc (.cells #[.int .i64 1, .int .i64 2, .int .i64 3] 3) = V := ⟨_, rfl⟩
    obtain ⟨VL, hVL⟩ : ∃ V, V5.alloc (.cells #[.slice (some ⟨W1.heap.size, 0, none⟩) 3 3, .slice (some ⟨W1.heap.size + 1, 0, none⟩) 4 4, .slice (some ⟨W1.heap.size + 1 + 1, 0, none⟩) 7 7, .slice (some ⟨W1.heap.size + 1 + 1 + 1, 0, none⟩) 1 1, .slice (some ⟨W1.heap.size + 1 + 1 + 1 + 1, 0, none⟩) 4 4, .slice (some ⟨W1.heap.size + 1 + 1 + 1 + 1 + 1, 0, none⟩) 3 3] 29) = V := ⟨_, rfl⟩
    have z0 : V0.heap.size = W1.heap.size + 1 := by rw [← hV0, World.size_alloc]
    have z1 : V1.heap.size = W1.heap.size + 1 + 1 := by rw [← hV1, World.size_alloc, z0]
    have z2 : V2.heap.size = W1.heap.size + 1 + 1 + 1 := by rw [← hV2, World.size_alloc, z1]
    have z3 : V3.heap.size = W1.heap.size + 1 + 1 + 1 + 1 := by rw [← hV3, World.size_alloc, z2]
    have z4 : V4.heap.size = W1.heap.size + 1 + 1 + 1 + 1 + 1 := by rw [← hV4, World.size_alloc, z3]
    have z5 : V5.heap.size = W1.heap.size + 1 + 1 + 1 + 1 + 1 + 1 := by rw [← hV5, World.size_alloc, z4]
    have b0 : Blk V0 W1.heap.size [2, 3, 1] := by rw [← hV0]; exact Blk.new _ [2, 3, 1]
    have b0_1 : Blk V1 (W1.heap.size) [2, 3, 1] := by rw [← hV1]; exact Blk.alloc b0 _
    have b0_2 : Blk V2 (W1.heap.size) [2, 3, 1] := by rw [← hV2]; exact Blk.alloc b0_1 _
    have b0_3 : Blk V3 (W1.heap.size) [2, 3, 1] := by rw [← hV3]; exact Blk.alloc b0_2 _
    have b0_4 : Blk V4 (W1.heap.size) [2, 3, 1] := by rw [← hV4]; exact Blk.alloc b0_3 _
    have b0_5 : Blk V5 (W1.heap.size) [2, 3, 1] := by rw [← hV5]; exact Blk.alloc b0_4 _
    have bL0 : Blk VL (W1.heap.size) [2, 3, 1] := by rw [← hVL]; exact Blk.alloc b0_5 _
    have b1 : Blk V1 V0.heap.size [2, 3, 4, 1] := by rw [← hV1]; exact Blk.new _ [2, 3, 4, 1]
    rw [z0] at b1
    have b1_2 : Blk V2 (W1.heap.size + 1) [2, 3, 4, 1] := by rw [← hV2]; exact Blk.alloc b1 _
    have b1_3 : Blk V3 (W1.heap.size + 1) [2, 3, 4, 1] := by rw [← hV3]; exact Blk.alloc b1_2 _
    have b1_4 : Blk V4 (W1.heap.size + 1) [2, 3, 4, 1] := by rw [← hV4]; exact Blk.alloc b1_3 _
    have b1_5 : Blk V5 (W1.heap.size + 1) [2, 3, 4, 1] := by rw [← hV5]; exact Blk.alloc b1_4 _
    have bL1 : Blk VL (W1.heap.size + 1) [2, 3, 4, 1] := by rw [← hVL]; exact Blk.alloc b1_5 _
    have b2 : Blk V2 V1.heap.size [2, 3, 4, 5, 6, 7, 1] := by rw [← hV2]; exact Blk.new _ [2, 3, 4, 5, 6, 7, 1]
    rw [z1] at b2
    have b2_3 : Blk V3 (W1.heap.size + 1 + 1) [2, 3, 4, 5, 6, 7, 1] := by rw [← hV3]; exact Blk.alloc b2 _
    have b2_4 : Blk V4 (W1.heap.size + 1 + 1) [2, 3, 4, 5, 6, 7, 1] := by rw [← hV4]; exact Blk.alloc b2_3 _
    have b2_5 : Blk V5 (W1.heap.size + 1 + 1) [2, 3, 4, 5, 6, 7, 1] := by rw [← hV5]; exact Blk.alloc b2_4 _
    have bL2 : Blk VL (W1.heap.size + 1 + 1) [2, 3, 4, 5, 6, 7, 1] := by rw [← hVL]; exact Blk.alloc b2_5 _
    have b3 : Blk V3 V2.heap.size [1] := by rw [← hV3]; exact Blk.new _ [1]
    rw [z2] at b3
    have b3_4 : Blk V4 (W1.heap.size + 1 + 1 + 1) [1] := by rw [← hV4]; exact Blk.alloc b3 _
    have b3_5 : Blk V5 (W1.heap.size + 1 + 1 + 1) [1] := by rw [← hV5]; exact Blk.alloc b3_4 _
    have bL3 : Blk VL (W1.heap.size + 1 + 1 + 1) [1] := by rw [← hVL]; exact Blk.alloc b3_5 _
    have b4 : Blk V4 V3.heap.size [3, 2, 4, 1] := by rw [← hV4]; exact Blk.new _ [3, 2, 4, 1]
    rw [z3] at b4
    have b4_5 : Blk V5 (W1.heap.size + 1 + 1 + 1 + 1) [3, 2, 4, 1] := by rw [← hV5]; exact Blk.alloc b4 _
    have bL4 : Blk VL (W1.heap.size + 1 + 1 + 1 + 1) [3, 2, 4, 1] := by rw [← hVL]; exact Blk.alloc b4_5 _
    have b5 : Blk V5 V4.heap.size [1, 2, 3] := by rw [← hV5]; exact Blk.new _ [1, 2, 3]
    rw [z4] at b5
    have bL5 : Blk VL (W1.heap.size + 1 + 1 + 1 + 1 + 1) [1, 2, 3] := by rw [← hVL]; exact Blk.alloc b5 _
    have hLst : VL.heap[W1.heap.size + 1 + 1 + 1 + 1 + 1 + 1]? = some (.cells #[.slice (some ⟨W1.heap.size, 0, none⟩) 3 3, .slice (some ⟨W1.heap.size + 1, 0, none⟩) 4 4, .slice (some ⟨W1.heap.size + 1 + 1, 0, none⟩) 7 7, .slice (some ⟨W1.heap.size + 1 + 1 + 1, 0, none⟩) 1 1, .slice (some ⟨W1.heap.size + 1 + 1 + 1 + 1, 0, none⟩) 4 4, .slice (some ⟨W1.heap.size + 1 + 1 + 1 + 1 + 1, 0, none⟩) 3 3] 29 (0, 0)) := by rw [← hVL, ← z5]; exact World.alloc_heap_new _ _
    have hbV : Below W1.heap.size W1 VL := by
      rw [← hVL]
      have d0 : Below W1.heap.size W1 V0 := by rw [← hV0]; exact (Below.refl _ _).alloc (Nat.le_refl _) _
      have d1 : Below W1.heap.size W1 V1 := by rw [← hV1]; exact d0.alloc d0.size _
      have d2 : Below W1.heap.size W1 V2 := by rw [← hV2]; exact d1.alloc d1.size _
      have d3 : Below W1.heap.size W1 V3 := by rw [← hV3]; exact d2.alloc d2.size _
      have d4 : Below W1.heap.size W1 V4 := by rw [← hV4]; exact d3.alloc d3.size _
      have d5 : Below W1.heap.size W1 V5 := by rw [← hV5]; exact d4.alloc d4.size _
      exact d5.alloc d5.size _
    have hcV : Cur VL w.heap.size 2 := cur_kept H1.out.1 (grown_of_below hbV none) (fun k e => by cases e)
    have C2 := Go.Lib.hid (among2_any w.heap.size 2 (W1.heap.size + 1 + 1 + 1 + 1 + 1 + 1) 6 6 VL hcV (by omega) (by omega) (by omega) (by omega) (fun j hj => by
      match j, hj with
      | 0, _ => exact ⟨_, [2, 3, 1], cell_of_row VL _ 0 _ _ _ hLst, by omega, by simp, bL0⟩
      | 1, _ => exact ⟨_, [2, 3, 4, 1], cell_of_row VL _ 1 _ _ _ hLst, by omega, by simp, bL1⟩
      | 2, _ => exact ⟨_, [2, 3, 4, 5, 6, 7, 1], cell_of_row VL _ 2 _ _ _ hLst, by omega, by simp, bL2⟩
      | 3, _ => exact ⟨_, [1], cell_of_row VL _ 3 _ _ _ hLst, by omega, by simp, bL3⟩
      | 4, _ => exact ⟨_, [3, 2, 4, 1], cell_of_row VL _ 4 _ _ _ hLst, by omega, by simp, bL4⟩
      | 5, _ => exact ⟨_, [1, 2, 3], cell_of_row VL _ 5 _ _ _ hLst, by omega, by simp, bL5⟩))
    have HV := Go.Lib.hid (H1.out.2.trans (hbV.mono H1.out.2.size))
    have EV := Go.Lib.hid (And.intro hV0 (And.intro hV1 (And.intro hV2 (And.intro hV3 (And.intro hV4 (And.intro hV5 hVL))))))
    clear hV0 hV1 hV2 hV3 hV4 hV5 hVL hLst hbV hcV z0 z1 z2 z3 z4 z5 bL0 bL1 bL2 bL3 bL4 bL5 b0 b1 b2 b3 b4 b5 b0_1 b0_2 b0_3 b0_4 b0_5 b1_2 b1_3 b1_4 b1_5 b2_3 b2_4 b2_5 b3_4 b3_5 b4_5
    go_wp2_with fail
    rw [EV.out.1]
    rw [EV.out.2.1]
    rw [EV.out.2.2.1]
    rw [EV.out.2.2.2.1]
    rw [EV.out.2.2.2.2.1]
    rw [EV.out.2.2.2.2.2.1]
    rw [EV.out.2.2.2.2.2.2]
    refine (C2.out).mono ?_
    rintro e W2 ⟨g, c, ys, rfl, hy, ho, hc2, hg2⟩
    have H2 := Go.Lib.hid (And.intro (own_lower ho HV.out.size) (HV.out.grown hg2 HV.out.size (fun k e => by cases e; exact Nat.le_refl _)))
    clear ho hc2 hg2
    go_wp2_with fail
    go_ret
    exact ⟨_, ys, rfl, hy, H2.out.1, H2.out.2⟩

set_option maxRecDepth 100000 in
set_option maxHeartbeats 2000000 in
theorem drawBlocks_any (v : Value) (n : Nat) (zs : List Int) (w : World) (hv : Sees w v n (zs.map (Value.int .u8))) (hz : ∀ z ∈ zs, 0 ≤ z ∧ z ≤ 255) (hn : n ≤ 65536) :
    Calls Try.prog 96 #[v] w fun e w' => OneL w e w' := by
  have c0 := cur_made hv hz hn
  obtain ⟨_, a, cap, rfl, _, _⟩ := hv
  have HB0 := Go.Lib.hid ((Below.refl w.heap.size w).alloc (Nat.le_refl _) (.cells #[.slice a n cap, .int .i64 0, .int .u64 0] 74))
  have C1 := Go.Lib.hid (one_any w.heap.size 0 4 _ c0 (by omega) (by omega) (by omega))
  clear c0
  go_enter Try.func96, Try.ntmps96
  go_wp2_with fail
  refine (C1.out).mono ?_
  rintro e W1 ⟨b, rfl, hc, hg⟩
  have hb1 := HB0.out.grown hg HB0.out.size (fun k e => by cases e; exact Nat.le_refl _)
  have hB1 : w.heap.size < W1.heap.size := cur_lt hc
  have H1 := Go.Lib.hid (And.intro hc hb1)
  clear hc hg hb1
  cases b with
  | false =>
    have C2 := Go.Lib.hid (order_any w.heap.size 2 W1 (H1.out.1.more (by omega)) (by decide))
    go_wp2_with fail
    refine (C2.out).mono ?_
    rintro e W2 ⟨g, c, ys, rfl, hy, ho, hc2, hg2⟩
    have H2 := Go.Lib.hid (oneL_of H1.out.2 hB1 hy ho hg2)
    clear ho hc2 hg2
    go_wp2_with fail
    go_ret
    exact H2.out
  | true =>
    obtain ⟨V0, hV0⟩ : ∃ V, W1.alloc (.cells #[.int .i64 2, .int .i64 1, .int .i64 4, .int .i64 3] 3) = V := ⟨_, rfl⟩
    obtain ⟨V1, hV1⟩ : ∃ V, V0.alloc (.cells #[.int .i64 1, .int .i64 3, .int .i64 2, .int .i64 4] 3) = V := ⟨_, rfl⟩
    obtain ⟨V2, hV2⟩ : ∃ V, V1.alloc (.cells #[.int .i64 3, .int .i64 1, .int .i64 2, .int .i64 5, .int .i64 4] 3) = V := ⟨_, rfl⟩
    obtain ⟨V3, hV3⟩ : ∃ V, V2.alloc (.cells #[.int .i64 1, .int .i64 2] 3) = V := ⟨_, rfl⟩
    obtain ⟨V4, hV4⟩ : ∃ V, V3.alloc (.cells #[.int .i64 4, .int .i64 3, .int .i64 2, .int .i64 1] 3) = V := ⟨_, rfl⟩
    obtain ⟨VL, hVL⟩ : ∃ V, V4.alloc (.cells #[.slice (some ⟨W1.heap.size, 0, none⟩) 4 4, .slice (some ⟨W1.heap.size + 1, 0, none⟩) 4 4, .slice (some ⟨W1.heap.size + 1 + 1, 0, none⟩) 5 5, .slice (some ⟨W1.heap.size + 1 + 1 + 1, 0, none⟩) 2 2, .slice (some ⟨W1.heap.size + 1 + 1 + 1 + 1, 0, none⟩) 4 4] 29) = V := ⟨_, rfl⟩
    have z0 : V0.heap.size = W1.heap.size + 1 := by rw [← hV0, World.size_alloc]
    have z1 : V1.heap.size = W1.heap.size + 1 + 1 := by rw [← hV1, World.size_alloc, z0]
    have z2 : V2.heap.size = W1.heap.size + 1 + 1 + 1 := by rw [← hV2, World.size_alloc, z1]
    have z3 : V3.heap.size = W1.heap.size + 1 + 1 + 1 + 1 := by rw [← hV3, World.size_alloc, z2]
    have z4 : V4.heap.size = W1.heap.size + 1 + 1 + 1 + 1 + 1 := by rw [← hV4, World.size_alloc, z3]
    have b0 : Blk V0 W1.heap.size [2, 1, 4, 3] := by rw [← hV0]; exact Blk.new _ [2, 1, 4, 3]
    have b0_1 : Blk V1 (W1.heap.size) [2, 1, 4, 3] := by rw [← hV1]; exact Blk.alloc b0 _
    have b0_2 : Blk V2 (W1.heap.size) [2, 1, 4, 3] := by rw [← hV2]; exact Blk.alloc b0_1 _
    have b0_3 : Blk V3 (W1.heap.size) [2, 1, 4, 3] := by rw [← hV3]; exact Blk.alloc b0_2 _
    have b0_4 : Blk V4 (W1.heap.size) [2, 1, 4, 3] := by rw [← hV4]; exact Blk.alloc b0_3 _
    have bL0 : Blk VL (W1.heap.size) [2, 1, 4, 3] := by rw [← hVL]; exact Blk.alloc b0_4 _
    have b1 : Blk V1 V0.heap.size [1, 3, 2, 4] := by rw [← hV1]; exact Blk.new _ [1, 3, 2, 4]
    rw [z0] at b1
    have b1_2 : Blk V2 (W1.heap.size + 1) [1, 3, 2, 4] := by rw [← hV2]; exact Blk.alloc b1 _
    have b1_3 : Blk V3 (W1.heap.size + 1) [1, 3, 2, 4] := by rw [← hV3]; exact Blk.alloc b1_2 _
    have b1_4 : Blk V4 (W1.heap.size + 1) [1, 3, 2, 4] := by rw [← hV4]; exact Blk.alloc b1_3 _
    have bL1 : Blk VL (W1.heap.size + 1) [1, 3, 2, 4] := by rw [← hVL]; exact Blk.alloc b1_4 _
    have b2 : Blk V2 V1.heap.size [3, 1, 2, 5, 4] := by rw [← hV2]; exact Blk.new _ [3, 1, 2, 5, 4]
    rw [z1] at b2
    have b2_3 : Blk V3 (W1.heap.size + 1 + 1) [3, 1, 2, 5, 4] := by rw [← hV3]; exact Blk.alloc b2 _
    have b2_4 : Blk V4 (W1.heap.size + 1 + 1) [3, 1, 2, 5, 4] := by rw [← hV4]; exact Blk.alloc b2_3 _
    have bL2 : Blk VL (W1.heap.size + 1 + 1) [3, 1, 2, 5, 4] := by rw [← hVL]; exact Blk.alloc b2_4 _
    have b3 : Blk V3 V2.heap.size [1, 2] := by rw [← hV3]; exact Blk.new _ [1, 2]
    rw [z2] at b3
    have b3_4 : Blk V4 (W1.heap.size + 1 + 1 + 1) [1, 2] := by rw [← hV4]; exact Blk.alloc b3 _
    have bL3 : Blk VL (W1.heap.size + 1 + 1 + 1) [1, 2] := by rw [← hVL]; exact Blk.alloc b3_4 _
    have b4 : Blk V4 V3.heap.size [4, 3, 2, 1] := by rw [← hV4]; exact Blk.new _ [4, 3, 2, 1]
    rw [z3] at b4
    have bL4 : Blk VL (W1.heap.size + 1 + 1 + 1 + 1) [4, 3, 2, 1] := by rw [← hVL]; exact Blk.alloc b4 _
    have hLst : VL.heap[W1.heap.size + 1 + 1 + 1 + 1 + 1]? = some (.cells #[.slice (some ⟨W1.heap.size, 0, none⟩) 4 4, .slice (some ⟨W1.heap.size + 1, 0, none⟩) 4 4, .slice (some ⟨W1.heap.size + 1 + 1, 0, none⟩) 5 5, .slice (some ⟨W1.heap.size + 1 + 1 + 1, 0, none⟩) 2 2, .slice (some ⟨W1.heap.size + 1 + 1 + 1 + 1, 0, none⟩) 4 4] 29 (0, 0)) := by rw [← hVL, ← z4]; exact World.alloc_heap_new _ _
    have hbV : Below W1.heap.size W1 VL := by
      rw [← hVL]
      have d0 : Below W1.heap.size W1 V0 := by rw [← hV0]; exact (Below.refl _ _).alloc (Nat.le_refl _) _
      have d1 : Below W1.heap.size W1 V1 := by rw [← hV1]; exact d0.alloc d0.size _
      have d2 : Below W1.heap.size W1 V2 := by rw [← hV2]; exact d1.alloc d1.size _
      have d3 : Below W1.heap.size W1 V3 := by rw [← hV3]; exact d2.alloc d2.size _
      have d4 : Below W1.heap.size W1 V4 := by rw [← hV4]; exact d3.alloc d3.size _
      exact d4.alloc d4.size _
    have hcV : Cur VL w.heap.size 2 := cur_kept H1.out.1 (grown_of_below hbV none) (fun k e => by cases e)
    have C2 := Go.Lib.hid (among2_any w.heap.size 2 (W1.heap.size + 1 + 1 + 1 + 1 + 1) 5 5 VL hcV (by omega) (by omega) (by omega) (by omega) (fun j hj => by
      match j, hj with
      | 0, _ => exact ⟨_, [2, 1, 4, 3], cell_of_row VL _ 0 _ _ _ hLst, by omega, by simp, bL0⟩
      | 1, _ => exact ⟨_, [1, 3, 2, 4], cell_of_row VL _ 1 _ _ _ hLst, by omega, by simp, bL1⟩
      | 2, _ => exact ⟨_, [3, 1, 2, 5, 4], cell_of_row VL _ 2 _ _ _ hLst, by omega, by simp, bL2⟩
      | 3, _ => exact ⟨_, [1, 2], cell_of_row VL _ 3 _ _ _ hLst, by omega, by simp, bL3⟩
      | 4, _ => exact ⟨_, [4, 3, 2, 1], cell_of_row VL _ 4 _ _ _ hLst, by omega, by simp, bL4⟩))
    have HV := Go.Lib.hid (H1.out.2.trans (hbV.mono H1.out.2.size))
    have EV := Go.Lib.hid (And.intro hV0 (And.intro hV1 (And.intro hV2 (And.intro hV3 (And.intro hV4 hVL)))))
    clear hV0 hV1 hV2 hV3 hV4 hVL hLst hbV hcV z0 z1 z2 z3 z4 bL0 bL1 bL2 bL3 bL4 b0 b1 b2 b3 b4 b0_1 b0_2 b0_3 b0_4 b1_2 b1_3 b1_4 b2_3 b2_4 b3_4
    go_wp2_with fail
    rw [EV.out.1]
    rw [EV.out.2.1]
    rw [EV.out.2.2.1]
    rw [EV.out.2.2.2.1]
    rw [EV.out.2.2.2.2.1]
    rw [EV.out.2.2.2.2.2]
    refine (C2.out).mono ?_
    rintro e W2 ⟨g, c, ys, rfl, hy, ho, hc2, hg2⟩
    have H2 := Go.Lib.hid (And.intro (own_lower ho HV.out.size) (HV.out.grown hg2 HV.out.size (fun k e => by cases e; exact Nat.le_refl _)))
    clear ho hc2 hg2
    go_wp2_with fail
    go_ret
    exact ⟨_, ys, rfl, hy, H2.out.1, H2.out.2⟩

/-- Behind the order: it, or its sweep. -/
theorem own_len {w : World} {B : Nat} {ys : List Int} {g c : Nat} (h : w.ownsRow B 3 1 (.slice (some ⟨g, 0, none⟩) ys.length c) ys.length (vals ys)) : Sees w (.slice (some ⟨g, 0, none⟩) ys.length c) ys.length (vals ys) := Sees.owns h

set_option maxRecDepth 100000 in
set_option maxHeartbeats 4000000 in
theorem drawSwept_any (v : Value) (n : Nat) (zs : List Int) (w : World) (hv : Sees w v n (zs.map (Value.int .u8))) (hz : ∀ z ∈ zs, 0 ≤ z ∧ z ≤ 255) (hn : n ≤ 65536) :
    Calls Try.prog 92 #[v] w fun e w' => OneL w e w' := by
  have c0 := cur_made hv hz hn
  obtain ⟨_, a, cap, rfl, _, _⟩ := hv
  have C1 := Go.Lib.hid (order_any w.heap.size 0 _ c0 (by decide))
  have HB0 := Go.Lib.hid ((Below.refl w.heap.size w).alloc (Nat.le_refl _) (.cells #[.slice a n cap, .int .i64 0, .int .u64 0] 74))
  clear c0
  go_enter Try.func92, Try.ntmps92
  go_wp2_with fail
  refine (C1.out).mono ?_
  rintro e W1 ⟨g, c, ys, rfl, hys, ho, hc, hg⟩
  have hgl : w.heap.size < g := by have := (ho.lt g rfl).1; simp at this; omega
  have H1 := Go.Lib.hid (And.intro (own_lower ho HB0.out.size) (And.intro (hc.more (by omega : 0 + 22 ≤ 22)) (HB0.out.grown hg HB0.out.size (fun k e => by cases e; exact Nat.le_refl _))))
  clear ho hc hg
  by_cases h5 : (5 : Int) < (ys.length : Int)
  · have hb4 : Blk (W1.alloc (.cells #[.int .i64 2, .int .i64 1, .int .i64 3, .int .i64 4] 3)) W1.heap.size [2, 1, 3, 4] := Blk.new _ [2, 1, 3, 4]
    have hB4 : Below W1.heap.size W1 (W1.alloc (.cells #[.int .i64 2, .int .i64 1, .int .i64 3, .int .i64 4] 3)) := (Below.refl _ _).alloc (Nat.le_refl _) _
    obtain ⟨W2, hW2⟩ : ∃ W2, W1.alloc (.cells #[.int .i64 2, .int .i64 1, .int .i64 3, .int .i64 4] 3) = W2 := ⟨_, rfl⟩
    rw [hW2] at hb4 hB4
    have ho4 : W2.ownsRow w.heap.size 3 1 (.slice (some ⟨W1.heap.size, 0, none⟩) 4 4) 4 (vals [2, 1, 3, 4]) := RunC.block_own (ex := []) hb4 rfl rfl H1.out.2.2.size (by unfold maxLen; omega)
    have C2 := Go.Lib.hid (l2Order_any W2 _ 4 [2, 1, 3, 4] true (Sees.owns ho4) (by omega) (by decide))
    have hc2 : Cur W2 w.heap.size 22 := cur_kept H1.out.2.1 (grown_of_below hB4 none) (fun k e => by cases e)
    have H2 := Go.Lib.hid (And.intro ho4 (And.intro hc2 (H1.out.2.2.trans (hB4.mono H1.out.2.2.size))))
    have EW := Go.Lib.hid hW2
    clear hW2 hb4 hB4 ho4 hc2
    go_wp2_with fail
    rw [EW.out]
    refine (C2.out).mono ?_
    rintro e W3 ⟨rfl, hd⟩
    have hc3 : Cur W3 w.heap.size 22 := by obtain ⟨q, rfl⟩ := hd; exact H2.out.2.1
    have H3 := Go.Lib.hid (And.intro (kept_call H2.out.1 (hd.below _)) (And.intro hc3 (H2.out.2.2.trans (hd.below _))))
    clear hd hc3 EW
    have C5 := Go.Lib.hid (one_any w.heap.size 22 2 W3 H3.out.2.1 (by omega) (by omega) (by omega))
    have hne : w.heap.size ≠ W1.heap.size := by have := cur_lt H1.out.2.1; omega
    go_wp2_with fail
    refine (C5.out).mono ?_
    rintro e W4 ⟨b, rfl, hc5, hg5⟩
    have h5 := own_mark H3.out.1 hg5 (fun a ha e => by simp only [Value.ownBlock, Option.some.injEq] at ha e; omega)
    have H4 := Go.Lib.hid (And.intro h5 (H3.out.2.2.grown hg5 H3.out.2.2.size (fun k e => by cases e; exact Nat.le_refl _)))
    clear hc5 hg5 h5
    cases b with
    | false =>
      go_wp2_with fail
      go_ret
      exact ⟨_, [2, 1, 3, 4], rfl, by simp, H4.out.1, H4.out.2⟩
    | true =>
      have CS := Go.Lib.hid (l4Sweep_any [2, 1, 3, 4] (by decide) W4 _ 4 (Sees.owns H4.out.1))
      go_wp2_with fail
      refine (CS.out).mono ?_
      rintro e W5 ⟨u, rfl, ho5, hb5⟩
      have H5 := Go.Lib.hid (And.intro (own_lower ho5 H4.out.2.size) (H4.out.2.trans (hb5.mono H4.out.2.size)))
      clear ho5 hb5
      go_wp2_with fail
      go_ret
      exact ⟨u, _, rfl, by rw [sweep_len]; simp, H5.out.1, H5.out.2⟩
  · obtain ⟨r, hr⟩ : ∃ r, isOrd ys = r := ⟨_, rfl⟩
    have C2 := Go.Lib.hid (l2Order_any W1 _ ys.length ys r (Sees.owns H1.out.1) (by omega) hr)
    have HR := Go.Lib.hid hr
    clear hr
    go_wp2_with fail
    refine (C2.out).mono ?_
    rintro e W3 ⟨rfl, hd⟩
    have hc3 : Cur W3 w.heap.size 22 := by obtain ⟨q, rfl⟩ := hd; exact H1.out.2.1
    have H3 := Go.Lib.hid (And.intro (kept_call H1.out.1 (hd.below _)) (And.intro hc3 (H1.out.2.2.trans (hd.below _))))
    clear hd hc3
    cases r with
    | false =>
      go_wp2_with fail
      go_ret
      exact ⟨_, ys, rfl, hys, H3.out.1, H3.out.2.2⟩
    | true =>
      have C5 := Go.Lib.hid (one_any w.heap.size 22 2 W3 H3.out.2.1 (by omega) (by omega) (by omega))
      go_wp2_with fail
      refine (C5.out).mono ?_
      rintro e W4 ⟨b, rfl, hc5, hg5⟩
      have h6 := own_mark H3.out.1 hg5 (fun a ha e => by simp only [Value.ownBlock, Option.some.injEq] at ha e; omega)
      have H4 := Go.Lib.hid (And.intro h6 (H3.out.2.2.grown hg5 H3.out.2.2.size (fun k e => by cases e; exact Nat.le_refl _)))
      clear hc5 hg5 h6
      cases b with
      | false =>
        go_wp2_with fail
        go_ret
        exact ⟨_, ys, rfl, hys, H4.out.1, H4.out.2⟩
      | true =>
        have CS := Go.Lib.hid (l4Sweep_any ys (of_decide_eq_true HR.out) W4 _ ys.length (Sees.owns H4.out.1))
        go_wp2_with fail
        refine (CS.out).mono ?_
        rintro e W5 ⟨u, rfl, ho5, hb5⟩
        have H5 := Go.Lib.hid (And.intro (own_lower ho5 H4.out.2.size) (H4.out.2.trans (hb5.mono H4.out.2.size)))
        clear ho5 hb5
        go_wp2_with fail
        go_ret
        exact ⟨u, _, rfl, by rw [sweep_len]; exact hys, H5.out.1, H5.out.2⟩

end Go.Proofs.Ytecbfoodkcgehab.Draw5C

/-
  Contract: the model puts a list to its place among sorted lists. Conditions: at most 1000 lists of one length.
-/
namespace Go.Proofs.Ytecbfoodkcgehab.PutC
open Go.RowKit SeesC IntsC ExactC CmpC ListsC ListsBC ListsCC IterC

theorem infoL : (Try.prog.info? 29).map (fun i => (i.zero, i.size, i.bytes)) = some (some (.slice none 0 0), 1, 24) := by kernel_rfl

/-- An order has come to its place. -/
def PutTo (w : World) (base n : Nat) (L : List (List Int)) (o : List Int) (e : Ending) (w' : World) : Prop :=
  ∃ g c k : Nat, e = .returned (.slice (some ⟨g, 0, none⟩) (L.length + 1) c) ∧ k ≤ L.length ∧ (∀ j, j < k → cmpL (L.getD j []) o < 0) ∧ (k < L.length → ¬ cmpL (L.getD k []) o < 0) ∧
    Lists w' base n (.slice (some ⟨g, 0, none⟩) (L.length + 1) c) ((L.take k ++ [o] ++ L.drop k).map vals) ∧ Below w.heap.size w w'

theorem sl_one (n : Nat) (gs : List (Nat × Nat)) : ∀ u ∈ gs.map (sl n), u.oneCell' = true := by
  intro u hu
  rw [List.mem_map] at hu
  obtain ⟨p, _, rfl⟩ := hu
  rfl

theorem ins_getD {α : Type} (A : List α) (k : Nat) (hk : k ≤ A.length) (x d : α) (i : Nat) : (A.take k ++ [x] ++ A.drop k).getD i d = if i < k then A.getD i d else if i = k then x else A.getD (i - 1) d := by
  have hl : (A.take k).length = k := by rw [List.length_take]; omega
  rw [List.append_assoc]
  by_cases h1 : i < k
  · rw [if_pos h1, List.getD_eq_getElem?_getD, List.getElem?_append_left (by omega), List.getElem?_take_of_lt h1, List.getD_eq_getElem?_getD]
  · rw [if_neg h1, List.getD_eq_getElem?_getD, List.getElem?_append_right (by omega), hl]
    by_cases h2 : i = k
    · subst h2; simp
    · rw [if_neg h2]
      obtain ⟨m, hm⟩ : ∃ m, i - k = m + 1 := ⟨i - k - 1, by omega⟩
      rw [hm]
      simp only [List.singleton_append, List.getElem?_cons_succ, List.getElem?_drop]
      rw [List.getD_eq_getElem?_getD, show k + m = i - 1 by omega]

theorem own_heap {w w' : World} (h : w'.heap = w.heap) {base size n : Nat} {ty : TypeId} {v : Value} {xs : List Value} (ho : w.ownsRow base ty size v n xs) : w'.ownsRow base ty size v n xs := by
  unfold World.ownsRow at ho ⊢
  rw [h]; exact ho

theorem below_heap {w w' a : World} {B : Nat} (h : Below B a w) (h1 : w'.os = w.os) (h2 : w'.tape = w.tape) (h3 : w'.output = w.output) (h4 : w'.heap = w.heap) : Below B a w' := by
  exact ⟨h1.trans h.os, h2.trans h.tape, h3.trans h.output, by rw [h4]; exact h.size, fun q hq => by rw [h4]; exact h.block q hq⟩

theorem below_grown {X X0 X' a : World} {B : Nat} {row : Option Nat} (hg : X.grownBy X' row) (hb : Below B a X0) (hs : B ≤ X0.heap.size) (h1 : X.os = X0.os) (h2 : X.tape = X0.tape) (h3 : X.output = X0.output) (h4 : X.heap = X0.heap) (hr : ∀ k, row = some k → B ≤ k) : Below B a X' :=
  (below_heap hb h1 h2 h3 h4).grown hg (by rw [h4]; exact hs) hr

theorem cell_heap {w w' : World} (h : w'.heap = w.heap) {a : Addr} {u : Value} (hc : w.cell? a = some u) : w'.cell? a = some u := by
  unfold World.cell? at hc ⊢
  rw [h]; exact hc

theorem add_at (g k j : Nat) : (⟨g, k, none⟩ : Addr).add j = ⟨g, k + j, none⟩ := by unfold Addr.add; split <;> simp_all

theorem lists_put {X : World} {base n g c k : Nat} {gs : List (Nat × Nat)} {p : Nat × Nat} {L : List (List Int)} {o : List Int} (hg : gs.length = L.length) (hk : k ≤ L.length)
    (ho : X.ownsRow base 29 1 (.slice (some ⟨g, 0, none⟩) (L.length + 1) c) (L.length + 1) ((gs.take k ++ [p] ++ gs.drop k).map (sl n)))
    (hin : ∀ i, i < L.length → X.ownsRow base 3 1 (sl n (gs.getD i (0, 0))) n ((L.map vals).getD i [])) (hu : X.ownsRow base 3 1 (sl n p) n (vals o))
    (hnd : (gs.map (·.1)).Nodup) (hq : ∀ q ∈ gs, q.1 ≠ p.1) (hgq : ∀ q ∈ gs, q.1 ≠ g) (hgp : p.1 ≠ g) :
    Lists X base n (.slice (some ⟨g, 0, none⟩) (L.length + 1) c) ((L.take k ++ [o] ++ L.drop k).map vals) := by
  have e : (L.take k ++ [o] ++ L.drop k).map vals = (L.map vals).take k ++ [vals o] ++ (L.map vals).drop k := by simp [List.map_take, List.map_drop]
  have hperm : (gs.take k ++ [p] ++ gs.drop k).Perm (p :: gs) := by
    rw [List.append_assoc]
    refine List.perm_middle.trans ?_
    show (p :: (gs.take k ++ gs.drop k)).Perm (p :: gs)
    rw [List.take_append_drop]
  have hlen : ((L.take k ++ [o] ++ L.drop k).map vals).length = L.length + 1 := by simp; omega
  refine ⟨gs.take k ++ [p] ++ gs.drop k, by simp; omega, ?_, fun i hi => ?_, ?_, fun q hqm => ?_⟩
  · rw [hlen]; exact ho
  · rw [hlen] at hi
    rw [e, ins_getD gs k (by omega), ins_getD (L.map vals) k (by simp; omega)]
    by_cases h1 : i < k
    · rw [if_pos h1, if_pos h1]; exact hin i (by omega)
    · rw [if_neg h1, if_neg h1]
      by_cases h2 : i = k
      · rw [if_pos h2, if_pos h2]; exact hu
      · rw [if_neg h2, if_neg h2]; exact hin (i - 1) (by omega)
  · have := (hperm.map (·.1)).nodup_iff.2 (by
      simp only [List.map_cons, List.nodup_cons]
      refine ⟨fun hm => ?_, hnd⟩
      obtain ⟨q, hq1, hq2⟩ := List.mem_map.1 hm
      exact hq q hq1 hq2)
    exact this
  · have := hperm.mem_iff.1 hqm
    intro e2
    have e3 : g = q.1 := by simpa [Value.ownBlock] using e2
    rcases List.mem_cons.1 this with rfl | h
    · exact hgp e3.symm
    · exact hgq q h e3.symm

end Go.Proofs.Ytecbfoodkcgehab.PutC

/-
  Sorted lists of lists: what comes out by all words, in order; there is one such list. Conditions: none. Plain facts: nothing of the program.
-/
namespace Go.Proofs.Ytecbfoodkcgehab.OutsMath
open OrdMath WordMath RunC WordsC WordFacts CmpC ListsBC

/-- All words of a size, and what comes out by them. -/
def wordsN (n : Nat) : List ByteArray := wordsFrom (2 * n) 0 ByteArray.empty

/-- What comes out by all words, in order. -/
def Outs (zs : List Int) (R : List (List Int)) : Prop := if Ord zs then Sorted R ∧ R.Perm ((wordsN zs.length).map (runOut zs)) else R = []

theorem outs_unique {zs : List Int} {R S : List (List Int)} (h1 : Outs zs R) (h2 : Outs zs S) : R = S := by
  unfold Outs at h1 h2
  by_cases h : Ord zs
  · rw [if_pos h] at h1 h2
    exact sorted_unique R S h1.1 h2.1 (h1.2.trans h2.2.symm)
  · rw [if_neg h] at h1 h2
    rw [h1, h2]

theorem outs_len {zs : List Int} {R : List (List Int)} (h : Outs zs R) : R.length ≤ 16384 := by
  unfold Outs at h
  split at h
  · rename_i ho
    rw [h.2.length_eq, List.length_map]
    exact wordsFrom_16k (by have := ho.2.1; omega)
  · rw [h]; simp

/-- The next thing that comes out is not among those before. -/
theorem run_fresh {zs : List Int} (ho : Ord zs) {k : Nat} (hk : k < (wordsN zs.length).length) {L : List (List Int)} (hp : L.Perm (((wordsN zs.length).take k).map (runOut zs))) : runOut zs ((wordsN zs.length)[k]) ∉ L := by
  intro hm
  have hw := words_all ho.1 ho.2.1
  obtain ⟨u, hu, e⟩ := List.mem_map.1 (hp.mem_iff.1 hm)
  have hum := List.mem_of_mem_take hu
  have h1 := hw.2 u hum
  have h2 := hw.2 _ (List.getElem_mem hk)
  have heq := run_inj ho.2.2.2 h1.2 h1.1 h2.2 h2.1 e
  obtain ⟨j, hj, e2⟩ := List.mem_iff_getElem.1 hu
  rw [List.getElem_take] at e2
  have hj2 : j < k := by simp at hj; omega
  have := (List.getElem_inj hw.1).1 (e2.trans heq)
  omega

end Go.Proofs.Ytecbfoodkcgehab.OutsMath

/-
  Contract: the model lists what comes out of an order by all words. Conditions: lists of at most 2^20 numbers.
-/
namespace Go.Proofs.Ytecbfoodkcgehab.OutsSpecC
open Go.RowKit SeesC IntsC ExactC CmpC ListsC ListsBC ListsCC IterC OrdMath WordMath OrderC WordC RunC WordsC WordFacts PutC OutsMath

/-- What comes out is returned, in memory of the call's own. -/
def OutsTo (w : World) (zs : List Int) (e : Ending) (w' : World) : Prop :=
  ∃ v R, e = .returned (.tuple #[v, .bool (isOrd zs)]) ∧ Outs zs R ∧ Lists w' w.heap.size zs.length v (R.map vals) ∧ Below w.heap.size w w'

theorem outsTo_none (w : World) (zs : List Int) (h : ¬ Ord zs) : OutsTo w zs (.returned (.tuple #[.slice (some ⟨w.heap.size, 0, none⟩) 0 0, .bool false])) (w.alloc (.cells #[] 29)) := by
  have hf : isOrd zs = false := decide_eq_false h
  refine ⟨_, [], by rw [hf], by unfold Outs; rw [if_neg h], ?_, (Below.refl _ _).alloc (Nat.le_refl _) _⟩
  refine ⟨[], rfl, World.ownsRow_made _ _ _ (Nat.le_refl _) (by unfold maxLen; omega) rfl, fun i hi => absurd hi (by simp), by simp, fun p hp => by simp at hp⟩

theorem outsTo_below {w w1 w' : World} {zs : List Int} {e : Ending} (hb : Below w.heap.size w w1) (h : OutsTo w1 zs e w') : OutsTo w zs e w' := by
  obtain ⟨v, R, he, hR, hL, hb2⟩ := h
  exact ⟨v, R, he, hR, hL.lower hb.size, hb.trans (hb2.mono hb.size)⟩

theorem words_some {n : Nat} (h : 1 ≤ n) : wordsN n ≠ [] := by
  have hgo : ∀ (r d : Nat) (so : ByteArray), d ≤ r → d % 2 = r % 2 → wordsFrom r d so ≠ [] := by
    intro r
    induction r with
    | zero => intro d so _ _; simp [wordsFrom]
    | succ r ih =>
      intro d so hd hp
      unfold wordsFrom
      by_cases h1 : d < r + 1
      · rw [if_pos h1]
        intro e
        exact ih (d + 1) (so ++ sI) (by omega) (by omega) (List.append_eq_nil_iff.1 e).1
      · rw [if_neg h1, if_pos (by omega)]
        intro e
        exact ih (d - 1) (so ++ sO) (by omega) (by omega) (List.append_eq_nil_iff.1 e).2
  exact hgo _ _ _ (by omega) (by omega)

end Go.Proofs.Ytecbfoodkcgehab.OutsSpecC

/-
  Contract: the program lists what comes out of an order by all words. Conditions: lists of at most 2^20 numbers.
-/
namespace Go.Proofs.Ytecbfoodkcgehab.OutsImplC
open Go.RowKit SeesC IntsC ExactC CmpC ListsC ListsBC ListsCC IterC OrdMath WordMath OrderC WordC RunC SignsC WordsC WordsOfC WordFacts PutC OutsMath OutsSpecC SortAnyC OrdC0

theorem types_ne {w : World} {b1 b2 n1 n2 g1 g2 c1 c2 : Nat} {t1 t2 : TypeId} {xs ys : List Value} (h1 : w.ownsRow b1 t1 1 (.slice (some ⟨g1, 0, none⟩) n1 c1) n1 xs) (h2 : w.ownsRow b2 t2 1 (.slice (some ⟨g2, 0, none⟩) n2 c2) n2 ys) (ht : t1 ≠ t2) : g1 ≠ g2 := by
  rcases h1.2 with ⟨h0, _⟩ | ⟨_, _, _, e1, _, hb1, _⟩
  · cases h0
  · rcases h2.2 with ⟨h0, _⟩ | ⟨_, _, _, e2, _, hb2, _⟩
    · cases h0
    · cases e1; cases e2
      intro e
      subst e
      rw [hb1] at hb2
      cases hb2
      exact ht rfl

end Go.Proofs.Ytecbfoodkcgehab.OutsImplC

/-
  The law on words: what the answers are for one list and one word; texts compared. Conditions: none. Plain facts, and one contract.
-/
namespace Go.Proofs.Ytecbfoodkcgehab.WordLawFacts
open Go.RowKit SeesC IntsC ExactC NumC CmpC ListsC OrdMath WordMath OrderC WordC RunC ToC MirrorC WordsC WordFacts MirFacts OutsMath OutsSpecC OutsImplC

theorem txt_data (s : ByteArray) : txt s.data.toList = s := by
  cases s with
  | mk d => simp [txt]

theorem facts_run (zs : List Int) (s : ByteArray) (hz : zs.length ≤ 8) : ∃ out ok, runAns zs s = (out, ok) ∧ out.length ≤ 8 ∧ (ok = true → toAns zs out = (s, true)) := by
  unfold runAns
  by_cases h : Ord zs ∧ Word s ∧ s.size = 2 * zs.length
  · rw [if_pos h]
    refine ⟨_, _, rfl, by rw [runOut_len h.2.1 h.2.2]; exact hz, fun _ => ?_⟩
    unfold toAns
    rw [if_pos ⟨h.1, ord_run h.1 h.2.2 h.2.1, (runOut_len h.2.1 h.2.2).symm⟩, to_run h.1.2.2.2 h.2.2 h.2.1]
    unfold optAns
    exact congrArg (·, true) (txt_data s)
  · rw [if_neg h]
    exact ⟨[], false, rfl, by simp, fun h => by cases h⟩

theorem facts_to (xa xb : List Int) (ha : xa.length ≤ 8) : ∃ to one, toAns xa xb = (to, one) ∧ to.size ≤ 60 ∧ (one = true → runAns xa to = (xb, true)) := by
  unfold toAns
  by_cases h : Ord xa ∧ Ord xb ∧ xa.length = xb.length
  · rw [if_pos h]
    cases hr : toRes xa xb with
    | none => exact ⟨_, _, rfl, by show (0 : Nat) ≤ 60; omega, fun h => by cases h⟩
    | some l =>
      have h2 := run_to h.1 h.2.2 hr
      refine ⟨txt l, true, rfl, by rw [h2.2.1]; omega, fun _ => ?_⟩
      unfold runAns
      rw [if_pos ⟨h.1, h2.1, h2.2.1⟩, h2.2.2]
  · rw [if_neg h]
    exact ⟨_, _, rfl, by show (0 : Nat) ≤ 60; omega, fun h => by cases h⟩

theorem facts_mir (x : ByteArray) (hx : x.size ≤ 60) : ∃ mr two dp, mirrorAns x = (mr, two) ∧ isWord x = two ∧ depthAns x = (dp, two) ∧ mr.size ≤ 60 ∧ (two = true → mirrorAns mr = (x, true) ∧ depthAns mr = (dp, true)) := by
  by_cases h : Word x
  · have h2 := mir_facts h
    refine ⟨txt (mirList x), true, (depthTo x x.size : Nat), by unfold mirrorAns; rw [if_pos h], by simp [isWord, h], by unfold depthAns; rw [if_pos h], by rw [mir_size]; exact hx, fun _ => ⟨h2.1, ?_⟩⟩
    rw [h2.2]; unfold depthAns; rw [if_pos h]
  · exact ⟨ByteArray.empty, false, 0, by unfold mirrorAns; rw [if_neg h], by simp [isWord, h], by unfold depthAns; rw [if_neg h], by show (0 : Nat) ≤ 60; omega, fun h => by cases h⟩

theorem facts_words (n : Int) : ∃ ws four, wordsAns n = (ws, four) ∧ ws.length ≤ 1048576 := by
  obtain ⟨⟨ws, four⟩, h⟩ : ∃ p, wordsAns n = p := ⟨_, rfl⟩
  exact ⟨ws, four, h, words_len h⟩

theorem facts_outs {ys : List Int} {R : List (List Int)} (h : Outs ys R) (ho : isOrd ys = true) : ∃ ws, wordsAns (ys.length : Int) = (ws, true) ∧ ws.length = R.length := by
  have hord : Ord ys := of_decide_eq_true ho
  unfold Outs at h
  rw [if_pos hord] at h
  refine ⟨wordsN ys.length, ?_, ?_⟩
  · unfold wordsAns
    rw [if_pos ⟨by have := hord.1; omega, by have := hord.2.1; omega⟩, Int.toNat_natCast]
    rfl
  · rw [h.2.length_eq, List.length_map]

theorem lists_val {w : World} {base n N : Nat} {v : Value} {L : List (List Value)} (hN : L.length = N) (h : Lists w base n v L) : ∃ a c, v = .slice a N c := by
  obtain ⟨gs, _, h2, _⟩ := h
  rw [hN] at h2
  obtain ⟨_, a, c, e, _, _⟩ := Sees.owns h2
  exact ⟨a, c, e⟩

def Outs2 (w : World) (zs : List Int) (r : Bool) (e : Ending) (w' : World) : Prop :=
  ∃ a c R, e = .returned (.tuple #[.slice a R.length c, .bool r]) ∧ Outs zs R ∧ Lists w' w.heap.size zs.length (.slice a R.length c) (R.map vals) ∧ Below w.heap.size w w'

theorem outs2_of {w w' : World} {zs : List Int} {r : Bool} {e : Ending} (hr : isOrd zs = r) (h : OutsTo w zs e w') : Outs2 w zs r e w' := by
  obtain ⟨v, R, rfl, hR, hL, hb⟩ := h
  obtain ⟨a, c, rfl⟩ := lists_val (N := R.length) (by simp) hL
  exact ⟨a, c, R, by rw [hr], hR, hL, hb⟩

set_option maxRecDepth 100000 in
theorem rBig_of (w : World) (a : Option Addr) (n cap : Nat) (r : Bool) (h : decide ((65536 : Int) < (n : Int)) = r) :
    Calls Try.prog 62 #[.slice a n cap] w fun e w' => e = .returned (.bool r) ∧ w = w' := by
  have H := Go.Lib.hid h
  clear h
  go_enter Try.func62, Try.ntmps62
  go_wp2
  go_ret
  exact ⟨by rw [← H.out]; rfl, rfl⟩

theorem byte_bd {zs : List Int} (h : ∀ z ∈ zs, (Lit.int .u8 z).wf = true) : ∀ z ∈ zs, 0 ≤ z ∧ z ≤ 255 := fun z hz => by
  have := h z hz
  have e1 : IntKind.u8.min = 0 := rfl
  have e2 : IntKind.u8.max = 255 := rfl
  simpa [Lit.wf, e1, e2] using this

end Go.Proofs.Ytecbfoodkcgehab.WordLawFacts
