/-
  Contracts and plain facts that the law's text leans on, part 2 of 4. Conditions: as each states.
-/
import Derived.Test.YtecbfoodkcgehabPkSweepsLawA
import Derived.Shelf.SlSorted.IsSorted
import Derived.Shelf.Lay
import Derived.Ground.SlsoProg
import Derived.Test.YtecbfoodkcgehabProg
import Derived.Shelf.Small.Bits
import Derived.Shelf.Small.Wraps
import Derived.Shelf.Strconv.Itoa0
import Derived.Shelf.Slices.Reverse
import Derived.Ground.Names2Prog
import Derived.Shelf.Slices.Clone
import Derived.Shelf.Slices.SearchI
import Derived.Shelf.Slices.Delete
import Derived.Shelf.Slices.Cells
import Derived.Shelf.Slices.Empties
import Derived.Ground.SlgnProg
import Derived.Shelf.SlicesE.Clone
import Derived.Ground.SlsfProg
import Derived.Shelf.SlSortCmp.Insertion
import Derived.Test.YtecbfoodkcgehabStep
import Derived.RangeFuncBox
import Derived.Maps.AppendAt
import Derived.Deep.RegionLaw
import Derived.IntWalk
import Derived.Test.YtecbfoodkcgehabWord
import Derived.Test.YtecbfoodkcgehabOrder
import Derived.WalkSmall
import Derived.Laws.CopyOwn
import Derived.Test.YtecbfoodkcgehabStackM
import Derived.BigQuiet
import Derived.Deep.QuietTactic
import Derived.ArgAppend
import Derived.Maps.RangeWalk
import Derived.Maps.OwnSet
import Derived.Sort.KeysCollected
import Derived.Lib.SlMapFilter
import Derived.Test.YtecbfoodkcgehabRows
import Derived.Test.YtecbfoodkcgehabWords
import Derived.Shelf.Spec.SearchS
import Derived.Test.YtecbfoodkcgehabEnds
import Derived.Test.YtecbfoodkcgehabNum
import Derived.RangeFuncNested
import Derived.RangeFuncBound
import Derived.RangeFuncCalls
import Derived.RangeFuncLeaves
import Derived.Shelf.Abstract
import Derived.Shelf.RegionOpen
import Derived.WalkKit
import Derived.OwnWalkIn
import Derived.TacticsInMore
import Derived.LoopNIn
import Derived.LoopIn
import Derived.Outline
import Derived.RangeFuncSeq
import Derived.Sort.MapsRangeIn
import Derived.RegionIn

/-
  The kit's contract of slices.IsSorted at integers, laid by the kit's own command at this translation.
-/
namespace Go.Proofs
open Go.Shelf Go.RowKit Go.Lib Go.Sort
shelf_lay_g SlLaysO.n10 Slso 10 at Try 186 as Try.laysIS
end Go.Proofs

/-
  The kit's contracts of library functions at this translation, laid by the kit's own command and cut down to those that are used. Conditions: as each states.
-/
namespace Go.Proofs
open Go.Shelf

def Try.lays125_ren : Go.Shelf.Ren := ⟨fun | 125 => 205 | 128 => 220 | 129 => 221 | n => n, fun | 46 => 139 | 3 => 3 | 51 => 154 | 53 => 72 | 4 => 4 | 5 => 5 | 9 => 9 | n => n, fun | n => n⟩

theorem Try.lays125 : Go.Proofs.Lays.n125 Try.prog Try.lays125_ren := {
  mixed := by kernel_rfl
  f125 := Try.func205.trans (congrArg some (by kernel_rfl))
  f128 := Try.func220.trans (congrArg some (by kernel_rfl))
  f129 := Try.func221.trans (congrArg some (by kernel_rfl))
  t3 := Try.underlying3
  a3 := Try.isAgg3
  z3 := Try.sizeOf3
  v3 := Try.zeroValue3
  t4 := Try.underlying4
  a4 := Try.isAgg4
  z4 := Try.sizeOf4
  v4 := Try.zeroValue4
  t5 := Try.underlying5
  a5 := Try.isAgg5
  z5 := Try.sizeOf5
  v5 := Try.zeroValue5
  t9 := Try.underlying9
  a9 := Try.isAgg9
  z9 := Try.sizeOf9
  v9 := Try.zeroValue9
  t46 := Try.underlying139
  a46 := Try.isAgg139
  z46 := Try.sizeOf139
  v46 := Try.zeroValue139
  t51 := Try.underlying154
  a51 := Try.isAgg154
  z51 := Try.sizeOf154
  v51 := Try.zeroValue154
  t53 := Try.underlying72
  a53 := Try.isAgg72
  z53 := Try.sizeOf72
  v53 := Try.zeroValue72 }

theorem Try.bits_Len (x : Int) (w : World) (h0 : 0 ≤ x) (h1 : x ≤ 18446744073709551615) :
    Calls Try.prog 205 #[.int .u64 x] w fun e w' => e = .returned (.int .i64 (Lib.bitLen x.toNat)) ∧ w' = w := Any.bits_Len Try.lays125 x w h0 h1

def Try.lays112_ren : Go.Shelf.Ren := ⟨fun | 112 => 132 | n => n, fun | 28 => 29 | 3 => 3 | 4 => 4 | 0 => 0 | n => n, fun | n => n⟩

theorem Try.lays112 : Go.Proofs.Lays.n112 Try.prog Try.lays112_ren := {
  mixed := by kernel_rfl
  f112 := Try.func132.trans (congrArg some (by kernel_rfl))
  t0 := Try.underlying0
  a0 := Try.isAgg0
  z0 := Try.sizeOf0
  v0 := Try.zeroValue0
  t3 := Try.underlying3
  a3 := Try.isAgg3
  z3 := Try.sizeOf3
  v3 := Try.zeroValue3
  t4 := Try.underlying4
  a4 := Try.isAgg4
  z4 := Try.sizeOf4
  v4 := Try.zeroValue4
  t28 := Try.underlying29
  a28 := Try.isAgg29
  z28 := Try.sizeOf29
  v28 := Try.zeroValue29 }

open Go.RowKit Go.Lib Go.Sort in
theorem Try.slices_Reverse_int_empty (a : Option Addr) (cap : Nat) (w : World) :
    Calls Try.prog 132 #[.slice a 0 cap] w fun e w' => e = .returned (.tuple #[]) ∧ w' = w := Any.slices_Reverse_int_empty Try.lays112 a cap w

def Try.laysNm215_ren : Go.Shelf.Ren := ⟨fun | 15 => 131 | n => n, fun | 22 => 29 | 3 => 3 | 4 => 4 | n => n, fun | n => n⟩

theorem Try.laysNm215 : Go.Proofs.Lays2.n15 Try.prog Try.laysNm215_ren := {
  mixed := by kernel_rfl
  f15 := Try.func131.trans (congrArg some (by kernel_rfl))
  t3 := Try.underlying3
  a3 := Try.isAgg3
  z3 := Try.sizeOf3
  v3 := Try.zeroValue3
  t4 := Try.underlying4
  a4 := Try.isAgg4
  z4 := Try.sizeOf4
  v4 := Try.zeroValue4
  t22 := Try.underlying29
  a22 := Try.isAgg29
  z22 := Try.sizeOf29
  v22 := Try.zeroValue29
  i3 := by kernel_rfl }

open Go.RowKit Go.Lib in
theorem Try.slices_Clone_int (b off n c : Nat) (zs : List Int) (w : World) (hz : n ≤ zs.length) (hbig : n * 8 ≤ 140737488355328) (hc : ∀ j, j < zs.length → w.cell? ⟨b, off + j, none⟩ = some (.int .i64 (zs.getD j 0))) :
    Calls Try.prog 131 #[.slice (some ⟨b, off, none⟩) n c] w fun e w' => ∃ v', e = .returned v' ∧ w'.ownsRow w.heap.size 3 1 v' n ((zs.take n).map (Value.int .i64)) ∧ v' ≠ .slice none 0 0 ∧ Below w.heap.size w w' := Any.slices_Clone_int Try.laysNm215 b off n c zs w hz hbig hc

open Go.RowKit Go.Lib in
theorem Try.slices_Clone_int_nil (n c : Nat) (w : World) :
    Calls Try.prog 131 #[.slice none n c] w fun e w' => e = .returned (.slice none 0 0) ∧ w' = w := Any.slices_Clone_int_nil Try.laysNm215 n c w

def Try.laysNm223_ren : Go.Shelf.Ren := ⟨fun | 23 => 151 | n => n, fun | 22 => 29 | 3 => 3 | 4 => 4 | 0 => 0 | n => n, fun | n => n⟩

theorem Try.laysNm223 : Go.Proofs.Lays2.n23 Try.prog Try.laysNm223_ren := {
  mixed := by kernel_rfl
  f23 := Try.func151.trans (congrArg some (by kernel_rfl))
  t0 := Try.underlying0
  a0 := Try.isAgg0
  z0 := Try.sizeOf0
  v0 := Try.zeroValue0
  t3 := Try.underlying3
  a3 := Try.isAgg3
  z3 := Try.sizeOf3
  v3 := Try.zeroValue3
  t4 := Try.underlying4
  a4 := Try.isAgg4
  z4 := Try.sizeOf4
  v4 := Try.zeroValue4
  t22 := Try.underlying29
  a22 := Try.isAgg29
  z22 := Try.sizeOf29
  v22 := Try.zeroValue29
  i3 := by kernel_rfl }

open Go.RowKit Go.Lib Go.Sort in
theorem Try.slices_Reverse_int_cells (b off n c : Nat) (zs : List Int) (w : World) (hz : n ≤ zs.length) (hbig : n ≤ 9223372036854775807) (hc : ∀ j, j < zs.length → w.cell? ⟨b, off + j, none⟩ = some (.int .i64 (zs.getD j 0))) (hf : ∀ j, j < n → w.frozen? ⟨b, off + j, none⟩ = false) :
    Calls Try.prog 132 #[.slice (some ⟨b, off, none⟩) n c] w fun e w' => e = .returned (.tuple #[]) ∧ ∃ q, w' = (w.drewN q).setCells b off ((zs.take n).reverse.map (Value.int .i64)) := Any.slices_Reverse_int_cells Try.lays112 b off n c zs w hz hbig hc hf

open Go.RowKit Go.Lib Go.Sort in
theorem Try.slices_Delete_int_cells (b off n c i j : Nat) (zs : List Int) (w : World) (hz : n ≤ zs.length) (hcap : n ≤ c) (hm : c ≤ 9223372036854775807) (hij : i ≤ j) (hj : j ≤ n) (hc : ∀ j, j < zs.length → w.cell? ⟨b, off + j, none⟩ = some (.int .i64 (zs.getD j 0))) (hf : ∀ j, j < n → w.frozen? ⟨b, off + j, none⟩ = false) :
    Calls Try.prog 151 #[.slice (some ⟨b, off, none⟩) n c, .int .i64 i, .int .i64 j] w fun e w' => e = .returned (.slice (some ⟨b, off, none⟩) (n - (j - i)) c) ∧ ∃ q, w' = (w.drewN q).setCells b off (((zs.take n).take i ++ (zs.take n).drop j ++ List.replicate (j - i) 0).map (Value.int .i64)) := Any.slices_Delete_int_cells Try.laysNm223 b off n c i j zs w hz hcap hm hij hj hc hf

end Go.Proofs

/-
  Contracts: the model and the program find the order with a rank. Conditions: none.
-/
namespace Go.Proofs.Ytecbfoodkcgehab.AtC
open Go.RowKit SeesC IntsC ExactC OrdMath InC OrderC RankC IterC

set_option maxRecDepth 100000 in
theorem l2Sorted_any (n : Nat) (W : World) (hn : n ≤ 7) :
    Calls Try.prog 157 #[.int .i64 n] W fun e w' => ∃ g c, e = .returned (.slice (some ⟨g, 0, none⟩) n c) ∧ w'.ownsRow W.heap.size 3 1 (.slice (some ⟨g, 0, none⟩) n c) n (vals (iota n)) ∧ Below W.heap.size W w' := by
  obtain ⟨i0, hi, hz0, hz1, hz2⟩ := info_parts infoI
  go_enter Try.func157, Try.ntmps157
  go_wp2
  go_loopw [3, 4] (fun ov xv wr => ∃ (k g c : Nat), k ≤ n ∧ xv = .int .i64 ((k + 1 : Nat) : Int) ∧ ov = .slice (some ⟨g, 0, none⟩) k c ∧ wr.ownsRow W.heap.size 3 1 (.slice (some ⟨g, 0, none⟩) k c) k (vals (iota k)) ∧ Below W.heap.size W wr) (fun _ x _ => (n + 1 - intOf x).toNat)
  case atStart => exact ⟨0, W.heap.size, 0, Nat.zero_le _, rfl, rfl, by
    have := World.ownsRow_made (base := W.heap.size) (e := 3) (size := 1) W #[] 0 (Nat.le_refl _) (by unfold maxLen; omega) rfl
    simpa [iota] using this, (Below.refl _ _).alloc (Nat.le_refl _) _⟩
  case round =>
    obtain ⟨k, g, c, hk, rfl, rfl, hown, hb⟩ := hrel
    by_cases hlt : k < n
    · have hlti : ((k + 1 : Nat) : Int) ≤ (n : Int) := by omega
      have HE : Hid (vals (iota (k + 1)) = vals (iota k) ++ [.int .i64 ((k + 1 : Nat) : Int)]) := Go.Lib.hid (by rw [iota_next]; simp)
      obtain ⟨z, hz⟩ : ∃ z, k + 1 = z := ⟨_, rfl⟩
      rw [hz] at hlti HE ⊢
      have HZ := Go.Lib.hid hz
      have hz7 : z ≤ 7 := by omega
      clear hz
      go_wp2_with (at_builtin; refine wpList_append_own _ rfl _ _ 29 rfl W.heap.size 3 i0 (.int .i64 0) 1 8 Try.underlying29 hi hz0 hz1 hz2 rfl (by decide) _ _ _ rfl (hown.alloc _) ⟨wr.heap.size, 0, none⟩ 1 1 [.int .i64 (z : Int)] rfl rfl (cell_one_new _ _ _) (fun x hx => by simp at hx; subst hx; rfl) (by unfold maxLen; omega) (by omega) (by have := hb.size; simp; omega) ?_; intro v' w3 hown' hgrow3 hnil3)
      obtain ⟨g', cap', rfl⟩ := ownsRow_succ hown'
      rw [← HE.out, HZ.out] at hown'
      have hb' : Below W.heap.size W w3 := (hb.alloc hb.size _).grown hgrow3 (by have := hb.size; simp; omega) (fun q hq => (hown.lt q hq).1)
      have H3 := Go.Lib.hid (And.intro hown' hb')
      clear hown' hgrow3 hnil3 hown hb hb'
      go_wp2
      go_roundw
      case rel => exact ⟨z, g', cap', by have := HZ.out; omega, by go_num, by rw [HZ.out], H3.out.1, H3.out.2⟩
      case measure => have := HZ.out; simp [intOf]; omega
    · have hlti : ¬ ((k + 1 : Nat) : Int) ≤ (n : Int) := by omega
      have hkn : k = n := by omega
      subst hkn
      have H3 := Go.Lib.hid (And.intro hown hb)
      clear hown hb
      go_wp2
      go_ret
      exact ⟨_, _, rfl, H3.out.1, H3.out.2⟩

set_option maxRecDepth 100000 in
theorem l1Own_any (zs : List Int) (b o n cap : Nat) (W : World) (hl : zs.length = n) (hn : n ≤ 1048576) (hc : ∀ j, j < zs.length → W.cell? ⟨b, o + j, none⟩ = some (.int .i64 (zs.getD j 0))) :
    Calls Try.prog 155 #[.slice (some ⟨b, o, none⟩) n cap] W fun e w' => ∃ g c, e = .returned (.slice (some ⟨g, 0, none⟩) n c) ∧ w'.ownsRow W.heap.size 3 1 (.slice (some ⟨g, 0, none⟩) n c) n (vals zs) ∧ Below W.heap.size W w' := by
  obtain ⟨i0, hi, hz0, hz1, hz2⟩ := info_parts infoI
  have ho0 := World.ownsRow_made (base := W.heap.size) (e := 3) (size := 1) W #[] 0 (Nat.le_refl _) (by unfold maxLen; omega) rfl
  have hc2 : ∀ j u, (vals zs)[j]? = some u → (W.alloc (.cells #[] 3)).cell? ((⟨b, o, none⟩ : Addr).add j) = some u := by
    intro j u hu
    have hj : j < zs.length := by have := (List.getElem?_eq_some_iff.1 hu).1; simpa using this
    have e0 : (⟨b, o, none⟩ : Addr).add j = ⟨b, o + j, none⟩ := by unfold Addr.add; split <;> simp_all
    have h1 := hc j hj
    have hlt := World.block_lt_of_cell? W _ h1
    have hbl : Below W.heap.size W (W.alloc (.cells #[] 3)) := (Below.refl _ _).alloc (Nat.le_refl _) _
    rw [e0, hbl.cell (p := ⟨b, o + j, none⟩) hlt, h1]
    simp [hj] at hu
    rw [← hu]; simp [hj]
  have HC2 := Go.Lib.hid hc2
  clear hc hc2
  go_enter Try.func155, Try.ntmps155
  go_wp2_with (at_builtin; refine wpList_append_own _ rfl _ _ 29 rfl W.heap.size 3 i0 (.int .i64 0) 1 8 Try.underlying29 hi hz0 hz1 hz2 rfl (by decide) (.slice (some ⟨W.heap.size, 0, none⟩) 0 0) 0 [] rfl ho0 ⟨b, o, none⟩ n cap (vals zs) rfl (by rw [vals_len, hl, Nat.mul_one]) HC2.out (ints_oneCell .i64 zs) (by unfold maxLen; omega) (by omega) (by simp) ?_; intro v' w3 hown' hgrow3 hnil3)
  have hb' : Below W.heap.size W w3 := ((Below.refl _ _).alloc (Nat.le_refl _) _).grown hgrow3 (by simp) (fun q hq => (ho0.lt q hq).1)
  have hne : v' ≠ .slice none 0 0 := fun e => by have := (hnil3.1 e).1; cases this
  rw [Nat.zero_add, List.nil_append] at hown'
  obtain ⟨g, c, rfl⟩ : ∃ g c, v' = .slice (some ⟨g, 0, none⟩) n c := by
    rcases hown'.2 with ⟨h0, _⟩ | ⟨g, c, cur, hv, _⟩
    · exact absurd h0 hne
    · exact ⟨g, c, hv⟩
  have H3 := Go.Lib.hid (And.intro hown' hb')
  clear hown' hgrow3 hnil3 ho0 hb' hne
  go_wp2
  go_ret
  exact ⟨_, _, rfl, H3.out.1, H3.out.2⟩

theorem own_drop_cells {w : World} {base g n cap : Nat} {ty : TypeId} {zs : List Int} (h : w.ownsRow base ty 1 (.slice (some ⟨g, 0, none⟩) n cap) n (vals zs)) (i : Nat) : ∀ j u, (vals (zs.drop i))[j]? = some u → w.cell? ((⟨g, i, none⟩ : Addr).add j) = some u := by
  intro j u hu
  have hl : zs.length = n := by simpa using h.1
  have hj : i + j < zs.length := by have := (List.getElem?_eq_some_iff.1 hu).1; simp at this; omega
  have e0 : (⟨g, i, none⟩ : Addr).add j = ⟨g, i + j, none⟩ := by unfold Addr.add; split <;> simp_all
  rw [e0, h.cellAt (i + j) (by omega)]
  simp at hu ⊢
  exact hu

/-- A slice's length. -/
def lenV : Value → Nat
  | .slice _ m _ => m
  | _ => 0

/-- What is left behind a pick. -/
theorem erase_parts {left : List Int} {i : Nat} : left.eraseIdx i = left.take i ++ left.drop (i + 1) := by
  rw [List.eraseIdx_eq_take_drop_succ]

set_option maxRecDepth 100000 in
set_option maxHeartbeats 4000000 in
theorem l2At_any (n k : Nat) (W : World) (hn1 : 1 ≤ n) (hn : n ≤ 7) (hk : k < fact n) :
    Calls Try.prog 145 #[.int .i64 n, .int .i64 k] W fun e w' => ∃ g c, e = .returned (.slice (some ⟨g, 0, none⟩) n c) ∧ w'.ownsRow W.heap.size 3 1 (.slice (some ⟨g, 0, none⟩) n c) n (vals (atRun n (iota n) k)) ∧ Below W.heap.size W w' := by
  obtain ⟨i0, hi, hz0, hz1, hz2⟩ := info_parts infoI
  have CS := Go.Lib.hid (fun W' => l2Sorted_any n W' hn)
  have hk7 := fact_7 hn
  have ho0 := World.ownsRow_made (base := W.heap.size) (e := 3) (size := 1) W #[] 0 (Nat.le_refl _) (by unfold maxLen; omega) rfl
  have H0 := Go.Lib.hid (And.intro ho0 ((Below.refl W.heap.size W).alloc (Nat.le_refl _) (.cells #[] 3)))
  have HK := Go.Lib.hid hk
  clear ho0 hk
  go_enter Try.func145, Try.ntmps145
  go_wp2_with fail
  refine (CS.out _).mono ?_
  rintro e w1 ⟨gs, cs, rfl, os, bs⟩
  have hos := kept_call H0.out.1 bs
  have hbs := H0.out.2.trans (bs.mono H0.out.2.size)
  have hos2 := own_lower os H0.out.2.size
  have hne : W.heap.size ≠ gs := by
    have h1 := (os.lt gs rfl).1
    have h2 := (H0.out.1.lt W.heap.size rfl).2
    omega
  have H1 := Go.Lib.hid (And.intro hos (And.intro hos2 (And.intro hne hbs)))
  clear os bs hos hbs hos2 hne
  go_wp2_with fail
  go_loopw [1, 5, 6, 7] (fun kv ov lv _ wr => ∃ (m j k' g1 c1 g2 c2 : Nat) (out left : List Int), kv = .int .i64 k' ∧ ov = .slice (some ⟨g1, 0, none⟩) j c1 ∧ lv = .slice (some ⟨g2, 0, none⟩) m c2 ∧ j + m = n ∧ out.length = j ∧ left.length = m ∧ k' ≤ 5040 ∧ wr.ownsRow W.heap.size 3 1 (.slice (some ⟨g1, 0, none⟩) j c1) j (vals out) ∧ wr.ownsRow W.heap.size 3 1 (.slice (some ⟨g2, 0, none⟩) m c2) m (vals left) ∧ g1 ≠ g2 ∧ Below W.heap.size W wr ∧ Hid (out ++ atRun m left k' = atRun n (iota n) k ∧ k' < fact m)) (fun _ _ lv _ _ => lenV lv)
  case atStart => exact ⟨n, 0, k, W.heap.size, 0, gs, cs, [], iota n, rfl, rfl, rfl, by omega, rfl, iota_len n, by have := HK.out; omega, H1.out.1, H1.out.2.1, H1.out.2.2.1, H1.out.2.2.2, Go.Lib.hid ⟨rfl, HK.out⟩⟩
  case round =>
    obtain ⟨m, j, k', g1, c1, g2, c2, out, left, rfl, rfl, rfl, hjm, hlo, hll, hk5, hown1, hown2, hg12, hb, HR⟩ := hrel
    by_cases hm0 : 0 < m
    · obtain ⟨q, rfl⟩ : ∃ q, m = q + 1 := ⟨m - 1, by omega⟩
      have CW := Go.Lib.hid (fun w3 => l2Ways_any q w3 (by omega))
      have hq7 : q ≤ 6 := by omega
      have hf1 := fact_pos q
      have hf7 := fact_6 hq7
      have hkf : k' < (q + 1) * fact q := HR.out.2
      have hix : k' / fact q < q + 1 := by rw [Nat.div_lt_iff_lt_mul (by omega)]; exact hkf
      have hmod := Nat.mod_lt k' (show 0 < fact q by omega)
      have hdiv : (k' : Int).tdiv (fact q : Int) = ((k' / fact q : Nat) : Int) := by rw [Int.tdiv_eq_ediv_of_nonneg (by omega)]; simp
      have hrem : (k' : Int).tmod (fact q : Int) = ((k' % fact q : Nat) : Int) := by rw [Int.tmod_eq_emod_of_nonneg (by omega)]; simp
      have HAT : Hid (atRun (q + 1) left k' = left.getD (k' / fact q) 0 :: atRun q (left.eraseIdx (k' / fact q)) (k' % fact q)) := Go.Lib.hid rfl
      obtain ⟨fq, hfq⟩ : ∃ fq, fact q = fq := ⟨_, rfl⟩
      obtain ⟨ix, hixe⟩ : ∃ ix, k' / fq = ix := ⟨_, rfl⟩
      obtain ⟨km, hkm⟩ : ∃ km, k' % fq = km := ⟨_, rfl⟩
      rw [hfq] at CW hf1 hf7 hix hmod hdiv hrem HAT
      rw [hixe] at hix hdiv HAT
      rw [hkm] at hmod hrem HAT
      obtain ⟨z, hz⟩ : ∃ z, left.getD ix 0 = z := ⟨_, rfl⟩
      rw [hz] at HAT
      have hckz : wr.cell? ⟨g2, ix, none⟩ = some (.int .i64 z) := by rw [hown2.cellAt ix (by omega)]; simp [show ix < left.length by omega]; rw [← hz]; simp [show ix < left.length by omega]
      have hcapm : q + 1 ≤ c2 := by
        rcases hown2.2 with ⟨h0, _⟩ | ⟨g', cap', cur, h0, _, _, h1, _⟩
        · cases h0
        · cases h0; exact h1
      obtain ⟨ix1, hix1⟩ : ∃ ix1, ix + 1 = ix1 := ⟨_, rfl⟩
      have q1 : IntKind.i64.wrap ((ix : Int) + 1) = (ix1 : Int) := by rw [IntWalk.i64_in _ (by omega)]; omega
      have s1 : ix ≤ c2 := by omega
      have s2 : ix1 ≤ q + 1 := by omega
      have s3 : ix1 ≤ c2 := by omega
      have s4 : ix ≤ ix1 := by omega
      have r7 : (ix : Int) ≤ (ix1 : Int) := by omega
      have r1 : (ix : Int) ≤ (c2 : Int) := by omega
      have r2 : (ix1 : Int) ≤ ((q + 1 : Nat) : Int) := by omega
      have r3 : (ix1 : Int) ≤ (c2 : Int) := by omega
      have r4 : (ix : Int) < ((q + 1 : Nat) : Int) := by omega
      have r5 : (ix1 : Int) ≤ (q : Int) + 1 := by omega
      have r6 : (ix : Int) < (q : Int) + 1 := by omega
      have hfne : ((fq : Int) == 0) = false := by rw [beq_eq_false_iff_ne]; omega
      have hfne2 : ¬ (fq : Int) = 0 := by omega
      have hfne3 : ¬ fq = 0 := by omega
      have q0 : IntKind.i64.wrap (ix : Int) = (ix : Int) := IntWalk.i64_in _ (by omega)
      have HL := Go.Lib.hid (And.intro hlo (And.intro hll (And.intro hjm (And.intro hix (And.intro hix1 (And.intro hmod hz))))))
      have hj7 : j ≤ 7 := by omega
      have hk6 : k' / fq ≤ 5040 := by omega
      have HG2 := Go.Lib.hid ((hown2.lt g2 rfl).2)
      have HMOD : Hid (km < fact q) := Go.Lib.hid (by rw [hfq]; exact hmod)
      have hkm5 : km ≤ 5040 := by omega
      clear hlo hll hjm hfq hkf hz hixe hkm
      go_wp2_with fail
      refine (CW.out _).mono ?_
      rintro e w2 ⟨rfl, rfl⟩
      go_wp2_with (at_builtin; refine wpList_append_own_at _ rfl _ _ 29 rfl W.heap.size 3 i0 (.int .i64 0) 1 8 Try.underlying29 hi hz0 hz1 hz2 rfl (by decide) (.slice (some ⟨g1, 0, none⟩) j c1) j (vals out) rfl (hown1.alloc _) ⟨wr.heap.size, 0, none⟩ 1 1 [.int .i64 z] rfl rfl (cell_one_new _ _ _) (fun x hx => by simp at hx; subst hx; rfl) (by unfold maxLen; omega) (by omega) (by have := hb.size; simp; omega) ?_; intro v' w3 hown' hgrow3 hnil3 hrow3)
      obtain ⟨g', cap', rfl⟩ := ownsRow_succ hown'
      have e1 : vals out ++ [Value.int .i64 z] = vals (out ++ [z]) := by simp
      rw [e1] at hown'
      have hb' : Below W.heap.size W w3 := (hb.alloc hb.size _).grown hgrow3 (by have := hb.size; simp; omega) (fun q hq => (hown1.lt q hq).1)
      have hown2' := own_mark (hown2.alloc (.cells #[.int .i64 z] 3)) hgrow3 (fun a ha e => by simp only [Value.ownBlock, Option.some.injEq] at ha e; omega)
      have hg12' : g' ≠ g2 := by
        have h1 := HG2.out
        rcases hrow3 with h2 | h2
        · simp [Value.ownBlock] at h2; omega
        · simp [Value.ownBlock] at h2; omega
      have H3 := Go.Lib.hid (And.intro hown' (And.intro hown2' (And.intro hg12' hb')))
      have HG1 := Go.Lib.hid ((hown'.lt g' rfl).2)
      have htl : (left.take ix).length = ix := by rw [List.length_take, HL.out.2.1]; omega
      have CO := Go.Lib.hid (l1Own_any (left.take ix) g2 0 ix c2 w3.drew htl (by omega) (by
        intro i hi
        have hi2 : i < ix := by omega
        have h1 := (own_cells hown2').1 i (by rw [HL.out.2.1]; omega)
        have h2 : w3.drew.cell? ⟨g2, 0 + i, none⟩ = w3.cell? ⟨g2, 0 + i, none⟩ := rfl
        rw [h2, h1]
        simp [hi2]))
      have HB3 : Hid (W.heap.size ≤ w3.drew.heap.size) := Go.Lib.hid hb'.size
      have hi3 := hi
      clear hown' hgrow3 hnil3 hrow3 hown1 hown2 hb hb' hown2' hg12' e1 htl hckz
      have HINFO := Go.Lib.hid (And.intro hi (And.intro hz0 (And.intro hz1 hz2)))
      have hu2 := Try.underlying29
      have NEWS1 : Hid (∀ w4 : World, w4.ownsRow W.heap.size 3 1 (.slice (some ⟨g2, 0, none⟩) (q + 1) c2) (q + 1) (vals left) → ∀ j u, (vals (left.drop ix1))[j]? = some u → w4.cell? ((⟨g2, ix1, none⟩ : Addr).add j) = some u) := Go.Lib.hid (fun w4 h => own_drop_cells h ix1)
      have NEWS0 : Hid (∀ w4 : World, c2 = ix1 → w4.ownsRow W.heap.size 3 1 (.slice (some ⟨g2, 0, none⟩) (q + 1) c2) (q + 1) (vals left) → ∀ j u, (vals (left.drop ix1))[j]? = some u → w4.cell? ((⟨g2, 0, none⟩ : Addr).add j) = some u) := Go.Lib.hid (fun w4 hc h j u hu => by
        rw [List.drop_of_length_le (by rw [HL.out.2.1]; omega)] at hu
        simp at hu)
      by_cases hcc : c2 = ix1
      · subst hcc
        go_region_law (first
          | (refine step_append_own _ rfl (.tmp 32) (.tmp 38) 29 rfl w3.drew.heap.size 3 i0 (.int .i64 0) 1 8 hu2 HINFO.out.1 HINFO.out.2.1 HINFO.out.2.2.1 HINFO.out.2.2.2 rfl (by decide) (.slice (some ⟨g3, 0, none⟩) ix c3) ix (vals (left.take ix)) (by simp [Act.eval]) H5.out.1 ⟨g2, 0, none⟩ (q + 1 - c2) 0 (vals (left.drop c2)) (by simp [Act.eval] <;> omega) H5.out.2.2.1 H5.out.2.2.2.1 (ints_oneCell .i64 _) (by unfold maxLen; omega) (by omega) H5.out.2.2.2.2 ?_; intro v6 w6 hown6 hgrow6 hnil6)
          | (go_simp; go_at_call 155; refine CO.out.mono ?_; rintro e w4 ⟨g3, c3, rfl, ho4, hb4⟩; have H5 := Go.Lib.hid (And.intro ho4 (And.intro hb4 (And.intro (show (vals (left.drop c2)).length = (q + 1 - c2) * 1 by rw [vals_len, List.length_drop, HL.out.2.1, Nat.mul_one]) (And.intro (NEWS0.out w4 rfl (kept_call (show w3.drew.ownsRow W.heap.size 3 1 (.slice (some ⟨g2, 0, none⟩) (q + 1) c2) (q + 1) (vals left) from H3.out.2.1) hb4)) hb4.size)))); have H6 := Go.Lib.hid (ho4.lt g3 rfl)))
        all_goals
          have hne6 : v6 ≠ .slice none 0 0 := fun e => by have := (hnil6.1 e).1; cases this
          obtain ⟨g6, c6, rfl⟩ : ∃ g c, v6 = .slice (some ⟨g, 0, none⟩) (ix + (q + 1 - c2)) c := by
            rcases hown6.2 with ⟨h0, _⟩ | ⟨g, c, cur, hv, _⟩
            · exact absurd h0 hne6
            · exact ⟨g, c, hv⟩
          have hn6 : ix + (q + 1 - c2) = q := by have := HL.out; omega
          have e6 : vals (left.take ix) ++ vals (left.drop c2) = vals (left.eraseIdx ix) := by rw [erase_parts, HL.out.2.2.2.2.1]; simp
          rw [e6, hn6] at hown6
          have hout4 : w4.ownsRow W.heap.size 3 1 (.slice (some ⟨g', 0, none⟩) (j + 1) cap') (j + 1) (vals (out ++ [z])) := kept_call (show w3.drew.ownsRow W.heap.size 3 1 (.slice (some ⟨g', 0, none⟩) (j + 1) cap') (j + 1) (vals (out ++ [z])) from H3.out.1) H5.out.2.1
          have hg36 : g' < g3 := by
            have h1 := HG1.out
            have h2 := H6.out.1
            have h3 : w3.drew.heap.size = w3.heap.size := rfl
            omega
          have hout6 := own_mark hout4 hgrow6 (fun a ha e => by simp only [Value.ownBlock, Option.some.injEq] at ha e; omega)
          have hb4' : Below W.heap.size W w4 := H3.out.2.2.2.drew.trans (H5.out.2.1.mono HB3.out)
          have hb6 : Below W.heap.size W w6 := hb4'.grown hgrow6 (Nat.le_trans HB3.out H5.out.2.2.2.2) (fun k hk => by simp only [Value.ownBlock, Option.some.injEq] at hk; have h1 := H6.out.1; have h2 := HB3.out; omega)
          have hg16 : g' ≠ g6 := by
            intro e
            subst e
            have h1 := (hown6.lt g' rfl).1
            have h2 := HG1.out
            have h3 : w3.drew.heap.size = w3.heap.size := rfl
            omega
          have H7 := Go.Lib.hid (And.intro hout6 (And.intro (own_lower hown6 HB3.out) (And.intro hg16 hb6)))
          have HN : Hid ((out ++ [z]) ++ atRun q (left.eraseIdx ix) km = atRun n (iota n) k ∧ km < fact q) := Go.Lib.hid ⟨by rw [← HR.out.1, HAT.out]; simp, HMOD.out⟩
          clear hgrow6 hnil6 hout4 hout6 hb4' hb6 hg16 hown6 e6 hne6
          rw [hn6]
          go_wp2
          go_roundw
          case rel => exact ⟨q, j + 1, km, g', cap', g6, c6, out ++ [z], left.eraseIdx ix, rfl, rfl, rfl, by have := HL.out; omega, by simp; exact HL.out.1, by rw [List.length_eraseIdx, HL.out.2.1]; have := HL.out; split <;> omega, by omega, H7.out.1, H7.out.2.1, H7.out.2.2.1, H7.out.2.2.2, HN⟩
          case measure => simp [lenV]
      · skip
        go_region_law (first
          | (refine step_append_own _ rfl (.tmp 32) (.tmp 38) 29 rfl w3.drew.heap.size 3 i0 (.int .i64 0) 1 8 hu2 HINFO.out.1 HINFO.out.2.1 HINFO.out.2.2.1 HINFO.out.2.2.2 rfl (by decide) (.slice (some ⟨g3, 0, none⟩) ix c3) ix (vals (left.take ix)) (by simp [Act.eval]) H5.out.1 ⟨g2, ix1, none⟩ (q + 1 - ix1) (c2 - ix1) (vals (left.drop ix1)) (by simp [Act.eval]) H5.out.2.2.1 H5.out.2.2.2.1 (ints_oneCell .i64 _) (by unfold maxLen; omega) (by omega) H5.out.2.2.2.2 ?_; intro v6 w6 hown6 hgrow6 hnil6)
          | (go_simp; go_at_call 155; refine CO.out.mono ?_; rintro e w4 ⟨g3, c3, rfl, ho4, hb4⟩; have H5 := Go.Lib.hid (And.intro ho4 (And.intro hb4 (And.intro (show (vals (left.drop ix1)).length = (q + 1 - ix1) * 1 by rw [vals_len, List.length_drop, HL.out.2.1, Nat.mul_one]) (And.intro (NEWS1.out w4 (kept_call (show w3.drew.ownsRow W.heap.size 3 1 (.slice (some ⟨g2, 0, none⟩) (q + 1) c2) (q + 1) (vals left) from H3.out.2.1) hb4)) hb4.size)))); have H6 := Go.Lib.hid (ho4.lt g3 rfl)))
        all_goals
          have hne6 : v6 ≠ .slice none 0 0 := fun e => by have := (hnil6.1 e).1; cases this
          obtain ⟨g6, c6, rfl⟩ : ∃ g c, v6 = .slice (some ⟨g, 0, none⟩) (ix + (q + 1 - ix1)) c := by
            rcases hown6.2 with ⟨h0, _⟩ | ⟨g, c, cur, hv, _⟩
            · exact absurd h0 hne6
            · exact ⟨g, c, hv⟩
          have hn6 : ix + (q + 1 - ix1) = q := by have := HL.out; omega
          have e6 : vals (left.take ix) ++ vals (left.drop ix1) = vals (left.eraseIdx ix) := by rw [erase_parts, HL.out.2.2.2.2.1]; simp
          rw [e6, hn6] at hown6
          have hout4 : w4.ownsRow W.heap.size 3 1 (.slice (some ⟨g', 0, none⟩) (j + 1) cap') (j + 1) (vals (out ++ [z])) := kept_call (show w3.drew.ownsRow W.heap.size 3 1 (.slice (some ⟨g', 0, none⟩) (j + 1) cap') (j + 1) (vals (out ++ [z])) from H3.out.1) H5.out.2.1
          have hg36 : g' < g3 := by
            have h1 := HG1.out
            have h2 := H6.out.1
            have h3 : w3.drew.heap.size = w3.heap.size := rfl
            omega
          have hout6 := own_mark hout4 hgrow6 (fun a ha e => by simp only [Value.ownBlock, Option.some.injEq] at ha e; omega)
          have hb4' : Below W.heap.size W w4 := H3.out.2.2.2.drew.trans (H5.out.2.1.mono HB3.out)
          have hb6 : Below W.heap.size W w6 := hb4'.grown hgrow6 (Nat.le_trans HB3.out H5.out.2.2.2.2) (fun k hk => by simp only [Value.ownBlock, Option.some.injEq] at hk; have h1 := H6.out.1; have h2 := HB3.out; omega)
          have hg16 : g' ≠ g6 := by
            intro e
            subst e
            have h1 := (hown6.lt g' rfl).1
            have h2 := HG1.out
            have h3 : w3.drew.heap.size = w3.heap.size := rfl
            omega
          have H7 := Go.Lib.hid (And.intro hout6 (And.intro (own_lower hown6 HB3.out) (And.intro hg16 hb6)))
          have HN : Hid ((out ++ [z]) ++ atRun q (left.eraseIdx ix) km = atRun n (iota n) k ∧ km < fact q) := Go.Lib.hid ⟨by rw [← HR.out.1, HAT.out]; simp, HMOD.out⟩
          clear hgrow6 hnil6 hout4 hout6 hb4' hb6 hg16 hown6 e6 hne6
          rw [hn6]
          go_wp2
          go_roundw
          case rel => exact ⟨q, j + 1, km, g', cap', g6, c6, out ++ [z], left.eraseIdx ix, rfl, rfl, rfl, by have := HL.out; omega, by simp; exact HL.out.1, by rw [List.length_eraseIdx, HL.out.2.1]; have := HL.out; split <;> omega, by omega, H7.out.1, H7.out.2.1, H7.out.2.2.1, H7.out.2.2.2, HN⟩
          case measure => simp [lenV]
    · obtain rfl : m = 0 := by omega
      have HE : Hid (atRun n (iota n) k = out) := Go.Lib.hid (by rw [← HR.out.1]; simp [atRun])
      have H3 := Go.Lib.hid (And.intro hown1 hb)
      obtain rfl : j = n := by omega
      clear hown1 hown2 hb
      go_wp2
      go_ret
      exact ⟨_, _, rfl, by rw [HE.out]; exact H3.out.1, H3.out.2⟩

end Go.Proofs.Ytecbfoodkcgehab.AtC

/-
  Contracts: the model and the program run an order by a word. Conditions: lists and texts of at most 2^20 elements.
-/
namespace Go.Proofs.Ytecbfoodkcgehab.RunC
open Go.RowKit SeesC IntsC ExactC NumC IterC OrdMath WordMath InC OrderC WordC

def runAns (zs : List Int) (s : ByteArray) : List Int × Bool := if Ord zs ∧ Word s ∧ s.size = 2 * zs.length then (runOut zs s, true) else ([], false)

theorem runOut_len {zs : List Int} {s : ByteArray} (hw : Word s) (hsz : s.size = 2 * zs.length) : (runOut zs s).length = zs.length := by
  have := run_len (zs := zs) s.size 0 hw.2.2
  unfold runOut
  omega

theorem run_ans_len {zs : List Int} {s : ByteArray} {xs : List Int} {b : Bool} (h : runAns zs s = (xs, b)) : xs.length ≤ 1048576 := by
  unfold runAns at h; split at h
  · rename_i ho; cases h; rw [runOut_len ho.2.1 ho.2.2]; have := ho.1.2.1; omega
  · cases h; simp

/-- A list that is not empty, as all but the last, and the last. -/
theorem split_last {l : List Int} (h : 0 < l.length) : ∃ a p, l = a ++ [p] ∧ l.getLast?.getD 0 = p ∧ l.dropLast = a := by
  have hne : l ≠ [] := by intro e; subst e; simp at h
  have e := (List.dropLast_concat_getLast hne).symm
  refine ⟨l.dropLast, l.getLast hne, e, ?_, rfl⟩
  conv => lhs; rw [e]
  simp

set_option maxRecDepth 100000 in
set_option maxHeartbeats 2000000 in
theorem l2Run_any (zs : List Int) (s : ByteArray) (hord : Ord zs) (hw : Word s) (hsz : s.size = 2 * zs.length) (W : World) (v : Value) (n : Nat) (hv : Sees W v n (vals zs)) :
    Calls Try.prog 188 #[v, .string s] W fun e w' => ∃ u, e = .returned u ∧ w'.ownsRow W.heap.size 3 1 u (runOut zs s).length (vals (runOut zs s)) ∧ Below W.heap.size W w' := by
  obtain ⟨i0, hi, hz0, hz1, hz2⟩ := info_parts infoI
  have hl : zs.length = n := by simpa using hv.1
  have hn1 : 1 ≤ n := by have := hord.1; omega
  have hn7 : n ≤ 7 := by have := hord.2.1; omega
  obtain ⟨b, o, cap, rfl, hcap, _, hbl, hcell⟩ := sees_cells hv (by omega)
  have HC := Go.Lib.hid hcell
  have HSZ := Go.Lib.hid hsz
  have hs14 : s.size ≤ 14 := hw.2.1
  have HW := Go.Lib.hid hw
  clear hv hcell hsz hw
  go_enter Try.func188, Try.ntmps188
  go_wp2
  have ho1 : ((W.alloc (.cells #[] 3)).alloc (.cells #[] 3)).ownsRow W.heap.size 3 1 (.slice (some ⟨W.heap.size, 0, none⟩) 0 0) 0 [] := (World.ownsRow_made (base := W.heap.size) (e := 3) (size := 1) W #[] 0 (Nat.le_refl _) (by unfold maxLen; omega) rfl).alloc _
  have ho2 : ((W.alloc (.cells #[] 3)).alloc (.cells #[] 3)).ownsRow W.heap.size 3 1 (.slice (some ⟨W.heap.size + 1, 0, none⟩) 0 0) 0 [] := by
    have := World.ownsRow_made (base := W.heap.size) (e := 3) (size := 1) (W.alloc (.cells #[] 3)) #[] 0 (by simp) (by unfold maxLen; omega) rfl
    simpa using this
  have hb0 : Below W.heap.size W ((W.alloc (.cells #[] 3)).alloc (.cells #[] 3)) := ((Below.refl _ _).alloc (Nat.le_refl _) _).alloc (by simp) _
  go_loopw [5, 6, 7, 8] (fun ov sv xv kv wr => ∃ (k no ns x g1 c1 g2 c2 : Nat) (lo ls : List Int), k ≤ s.size ∧ kv = .int .i64 k ∧ xv = .int .i64 x ∧ ov = .slice (some ⟨g1, 0, none⟩) no c1 ∧ sv = .slice (some ⟨g2, 0, none⟩) ns c2 ∧ lo.length = no ∧ ls.length = ns ∧ wr.ownsRow W.heap.size 3 1 (.slice (some ⟨g1, 0, none⟩) no c1) no (vals lo) ∧ wr.ownsRow W.heap.size 3 1 (.slice (some ⟨g2, 0, none⟩) ns c2) ns (vals ls) ∧ g1 ≠ g2 ∧ Below W.heap.size W wr ∧ Hid (runTo zs s k = (lo, ls, x))) (fun _ _ _ k _ => s.size - (intOf k).toNat)
  case atStart => exact ⟨0, 0, 0, 0, W.heap.size, 0, W.heap.size + 1, 0, [], [], Nat.zero_le _, rfl, rfl, rfl, rfl, rfl, rfl, ho1, ho2, by omega, hb0, Go.Lib.hid rfl⟩
  case round =>
    obtain ⟨k, no, ns, x, g1, c1, g2, c2, lo, ls, hk, rfl, rfl, rfl, rfl, hlo, hls, hown1, hown2, hg12, hb, HR⟩ := hrel
    clear ho1 ho2 hb0
    by_cases hlt : k < s.size
    · have hlti : (k : Int) < (s.size : Int) := by omega
      obtain ⟨d, hd, hd1, hd2, hc⟩ := HW.out.at hlt
      have hrl := run_len (zs := zs) k d hd
      rw [HR.out] at hrl
      simp only at hrl
      have hsz := HSZ.out
      rcases hc with ⟨hI, hn, hd3⟩ | ⟨hO, hd0, hn⟩
      · have hI2 : (s[k].toNat : Int) = 73 := by have := (byt_nat hlt 73 (by omega)).2 hI; omega
        have hx : x < zs.length := by omega
        have hck : wr.cell? ⟨b, o + x, none⟩ = some (.int .i64 (zs.getD x 0)) := (hb.cell (p := ⟨b, o + x, none⟩) hbl).trans (HC.out x hx)
        obtain ⟨z, hz⟩ : ∃ z, zs.getD x 0 = z := ⟨_, rfl⟩
        have HN : Hid (runTo zs s (k + 1) = (lo, ls ++ [z], x + 1)) := Go.Lib.hid (by rw [run_I HR.out hI, hz])
        rw [hz] at hck
        have hxi : (x : Int) < (n : Int) := by omega
        have hns14 : ns ≤ 14 := by omega
        have HSL := Go.Lib.hid hls
        clear hz hI hn hd3 hd hd1 hd2 hrl hsz hx hls
        go_wp2_with (at_builtin; refine wpList_append_own_at _ rfl _ _ 29 rfl W.heap.size 3 i0 (.int .i64 0) 1 8 Try.underlying29 hi hz0 hz1 hz2 rfl (by decide) (.slice (some ⟨g2, 0, none⟩) ns c2) ns (vals ls) rfl (hown2.alloc _) ⟨wr.heap.size, 0, none⟩ 1 1 [.int .i64 z] rfl rfl (cell_one_new _ _ _) (fun x hx => by simp at hx; subst hx; rfl) (by unfold maxLen; omega) (by omega) (by have := hb.size; simp; omega) ?_; intro v' w3 hown' hgrow3 hnil3 hrow3)
        obtain ⟨g', cap', rfl⟩ := ownsRow_succ hown'
        have e1 : vals ls ++ [Value.int .i64 z] = vals (ls ++ [z]) := by simp
        rw [e1] at hown'
        have hb' : Below W.heap.size W w3 := (hb.alloc hb.size _).grown hgrow3 (by have := hb.size; simp; omega) (fun q hq => (hown2.lt q hq).1)
        have hown1' := own_mark (hown1.alloc (.cells #[.int .i64 z] 3)) hgrow3 (fun a ha e => by simp only [Value.ownBlock, Option.some.injEq] at ha e; omega)
        have hg12' : g1 ≠ g' := by
          have h1 := (hown1.lt g1 rfl).2
          rcases hrow3 with h2 | h2
          · simp [Value.ownBlock] at h2; omega
          · simp [Value.ownBlock] at h2; omega
        have H3 := Go.Lib.hid (And.intro hown1' (And.intro hown' (And.intro hg12' hb')))
        clear hown' hgrow3 hnil3 hrow3 hown1 hown2 hb hb' hown1' hg12' e1
        go_wp2
        go_roundw
        case rel => exact ⟨k + 1, no, ns + 1, x + 1, g1, c1, g', cap', lo, ls ++ [z], by omega, by go_num, by go_num, rfl, rfl, hlo, by simp; exact HSL.out, H3.out.1, H3.out.2.1, H3.out.2.2.1, H3.out.2.2.2, HN⟩
        case measure => simp [intOf]; omega
      · have hI2 : ((s[k].toNat : Int) == 73) = false := ne_int (b := 73) (by have := (byt_nat hlt 79 (by omega)).2 hO; omega)
        obtain ⟨la, p, hlap, hlast, hdrop⟩ := split_last (l := ls) (by omega)
        have HN : Hid (runTo zs s (k + 1) = (lo ++ [p], la, x)) := Go.Lib.hid (by rw [run_O HR.out hO, hlast, hdrop])
        subst hlap
        obtain ⟨m, hm⟩ : ∃ m, la.length = m := ⟨_, rfl⟩
        obtain rfl : ns = m + 1 := by rw [← hls, ← hm]; simp
        have hck : wr.cell? ⟨g2, m, none⟩ = some (.int .i64 p) := by rw [hown2.cellAt m (by omega)]; simp [← hm]
        have hpop : wr.ownsRow W.heap.size 3 1 (.slice (some ⟨g2, 0, none⟩) m c2) m (vals la) := ownsRow_pop (last := [.int .i64 p]) (by simp [hm]) (by simpa using hown2)
        have hmc : m + 1 ≤ c2 := by
          rcases hown2.2 with ⟨h0, _⟩ | ⟨g, cap, cur, h0, _, _, h1, _⟩
          · cases h0
          · cases h0; exact h1
        have hno7 : no ≤ 14 := by omega
        have hm14 : m ≤ 14 := by omega
        have HSL := Go.Lib.hid (And.intro hm hlo)
        have hgb2 := Go.Lib.hid (hown2.lt g2 rfl)
        clear hO hn hd hd1 hd2 hrl hsz hlast hdrop hls hown2 hm hlo
        go_wp2_with (at_builtin; refine wpList_append_own_at _ rfl _ _ 29 rfl W.heap.size 3 i0 (.int .i64 0) 1 8 Try.underlying29 hi hz0 hz1 hz2 rfl (by decide) (.slice (some ⟨g1, 0, none⟩) no c1) no (vals lo) rfl (hown1.alloc _) ⟨wr.heap.size, 0, none⟩ 1 1 [.int .i64 p] rfl rfl (cell_one_new _ _ _) (fun x hx => by simp at hx; subst hx; rfl) (by unfold maxLen; omega) (by omega) (by have := hb.size; simp; omega) ?_; intro v' w3 hown' hgrow3 hnil3 hrow3)
        obtain ⟨g', cap', rfl⟩ := ownsRow_succ hown'
        have e1 : vals lo ++ [Value.int .i64 p] = vals (lo ++ [p]) := by simp
        rw [e1] at hown'
        have hb' : Below W.heap.size W w3 := (hb.alloc hb.size _).grown hgrow3 (by have := hb.size; simp; omega) (fun q hq => (hown1.lt q hq).1)
        have hown2' := own_mark (hpop.alloc (.cells #[.int .i64 p] 3)) hgrow3 (fun a ha e => by simp only [Value.ownBlock, Option.some.injEq] at ha e; omega)
        have hg12' : g' ≠ g2 := by
          have h1 := hgb2.out.2
          rcases hrow3 with h2 | h2
          · simp [Value.ownBlock] at h2; omega
          · simp [Value.ownBlock] at h2; omega
        have H3 := Go.Lib.hid (And.intro hown' (And.intro hown2' (And.intro hg12' hb')))
        clear hown' hgrow3 hnil3 hrow3 hown1 hpop hb hb' hown2' hg12' e1
        go_wp2
        go_roundw
        case rel => exact ⟨k + 1, no + 1, m, x, g', cap', g2, c2, lo ++ [p], la, by omega, by go_num, rfl, rfl, rfl, by simp; exact HSL.out.2, HSL.out.1, H3.out.1, H3.out.2.1, H3.out.2.2.1, H3.out.2.2.2, HN⟩
        case measure => simp [intOf]; omega
    · have hkn : k = s.size := by omega
      have HE : Hid (runOut zs s = lo) := Go.Lib.hid (by unfold runOut; rw [← hkn, HR.out])
      have H3 := Go.Lib.hid (And.intro hown1 hb)
      clear hown1 hown2 hb
      go_wp2
      go_ret
      exact ⟨_, rfl, by rw [HE.out, hlo]; exact H3.out.1, H3.out.2⟩

/-- A row of the call's own as a block that is known whole, and back. -/
theorem own_block {w : World} {base g n cap : Nat} {ty : TypeId} {xs : List Value} (h : w.ownsRow base ty 1 (.slice (some ⟨g, 0, none⟩) n cap) n xs) : ∃ ex, w.heap[g]? = some (.cells (xs ++ ex).toArray ty (0, 0)) ∧ n + ex.length = cap ∧ xs.length = n ∧ base ≤ g ∧ cap ≤ maxLen := by
  have hl : xs.length = n := by simpa using h.1
  rcases h.2 with ⟨h0, _⟩ | ⟨g', cap', cur, h0, hb, hh, h1, hm, hsz, ht⟩
  · cases h0
  · cases h0
    refine ⟨cur.toList.drop n, ?_, ?_, hl, hb, hm⟩
    · rw [← ht, Nat.mul_one, List.take_append_drop]; simpa using hh
    · rw [List.length_drop, Array.length_toList, hsz]; omega

theorem block_own {w : World} {base g n cap : Nat} {ty : TypeId} {xs ex : List Value} (hh : w.heap[g]? = some (.cells (xs ++ ex).toArray ty (0, 0))) (hc : n + ex.length = cap) (hl : xs.length = n) (hb : base ≤ g) (hm : cap ≤ maxLen) : w.ownsRow base ty 1 (.slice (some ⟨g, 0, none⟩) n cap) n xs :=
  ⟨by simpa using hl, .inr ⟨g, cap, _, rfl, hb, hh, by omega, hm, by simp; omega, by simp [← hl]⟩⟩

/-- What a pop does to the line. -/
theorem line_pop (lo la R : List Int) (p : Int) (ex : List Value) (no : Nat) (hno : lo.length = no) :
    (splice (vals (lo ++ (la ++ [p]) ++ R) ++ ex) (no + 1) (vals la)).set no (.int .i64 p) = vals ((lo ++ [p]) ++ la ++ R) ++ ex := by
  subst hno
  unfold splice vals
  have e1 : List.map (Value.int .i64) (lo ++ (la ++ [p]) ++ R) ++ ex = List.map (Value.int .i64) lo ++ (List.map (Value.int .i64) (la ++ [p]) ++ (List.map (Value.int .i64) R ++ ex)) := by simp
  rw [e1]
  obtain ⟨y, ys, hy⟩ : ∃ y ys, List.map (Value.int .i64) (la ++ [p]) = y :: ys := by
    cases la with
    | nil => exact ⟨_, _, rfl⟩
    | cons a tl => exact ⟨_, _, rfl⟩
  have hys : ys.length = la.length := by have := congrArg List.length hy; simp at this; omega
  rw [hy]
  have e2 : (List.map (Value.int .i64) lo ++ (y :: ys ++ (List.map (Value.int .i64) R ++ ex))).take (lo.length + 1) = List.map (Value.int .i64) lo ++ [y] := by
    have h9 : List.map (Value.int .i64) lo ++ (y :: ys ++ (List.map (Value.int .i64) R ++ ex)) = (List.map (Value.int .i64) lo ++ [y]) ++ (ys ++ (List.map (Value.int .i64) R ++ ex)) := by simp
    rw [h9, List.take_append_of_le_length (by simp)]
    exact List.take_of_length_le (by simp)
  have e3 : (List.map (Value.int .i64) lo ++ (y :: ys ++ (List.map (Value.int .i64) R ++ ex))).drop (lo.length + 1 + (List.map (Value.int .i64) la).length) = List.map (Value.int .i64) R ++ ex := by
    have h9 : List.map (Value.int .i64) lo ++ (y :: ys ++ (List.map (Value.int .i64) R ++ ex)) = (List.map (Value.int .i64) lo ++ y :: ys) ++ (List.map (Value.int .i64) R ++ ex) := by simp
    rw [h9, List.drop_append_of_le_length (by simp; omega), List.drop_of_length_le (by simp; omega), List.nil_append]
  rw [e2, e3, List.append_assoc, List.set_append_right _ _ (by simp)]
  simp

end Go.Proofs.Ytecbfoodkcgehab.RunC

/-
  Contract: the model's word of the sweep, and its sweep. Conditions: an order.
-/
namespace Go.Proofs.Ytecbfoodkcgehab.SweepWC
open Go.RowKit SeesC IntsC ExactC NumC IterC OrdMath WordMath OrdFacts InC OrderC WordC RunC AtC EndsM SweepM StackM

/-- What the inner loop keeps: the signs and the stack of the next number. -/
def In (zs : List Int) (i : Nat) (x : Int) (st : List Int) (acc : List UInt8) : Prop :=
  acc ++ List.replicate (popd st x).length 79 ++ [73] = sgTo zs (i + 1) ∧ belw st x ++ [x] = (swTo zs (i + 1)).2

theorem in_start {zs : List Int} {i : Nat} (hi : i < zs.length) : In zs i (zs.getD i 0) (swTo zs i).2 (sgTo zs i) := by
  obtain ⟨o, s, hr⟩ : ∃ o s, swTo zs i = (o, s) := ⟨_, _, rfl⟩
  refine ⟨rfl, ?_⟩
  rw [sw_next hi hr, hr]

theorem in_pop {zs : List Int} {i : Nat} {x p : Int} {la : List Int} {acc : List UInt8} (h : In zs i x (la ++ [p]) acc) (hp : p < x) : In zs i x la (acc ++ [79]) := by
  obtain ⟨h1, h2⟩ := h
  rw [popd_less hp] at h1
  rw [belw_less hp] at h2
  refine ⟨?_, h2⟩
  rw [← h1]
  simp [List.replicate_succ]

theorem in_end {zs : List Int} {i : Nat} {x : Int} {st : List Int} {acc : List UInt8} (h : In zs i x st acc) (hp : st.getLast?.all (fun p => decide (¬ p < x))) : acc ++ [73] = sgTo zs (i + 1) ∧ st ++ [x] = (swTo zs (i + 1)).2 := by
  obtain ⟨h1, h2⟩ := h
  rcases List.eq_nil_or_concat st with rfl | ⟨la, p, rfl⟩
  · rw [popd_nil] at h1
    rw [belw_nil] at h2
    exact ⟨by simpa using h1, h2⟩
  · rw [List.concat_eq_append] at *
    have : ¬ p < x := by simpa using hp
    rw [popd_not this] at h1
    rw [belw_not this] at h2
    exact ⟨by simpa using h1, h2⟩

theorem in_len {zs : List Int} {i : Nat} {x : Int} {st : List Int} {acc : List UInt8} (h : In zs i x st acc) (hi : i < zs.length) (h7 : zs.length ≤ 7) : acc.length ≤ 13 := by
  have h1 := congrArg List.length h.1
  have h2 := sg_len zs (i + 1) hi
  simp at h1
  omega

theorem in_len2 {zs : List Int} {i : Nat} {x : Int} {st : List Int} (h : st ++ [x] = (swTo zs (i + 1)).2) (hi : i < zs.length) (h7 : zs.length ≤ 7) : st.length ≤ 6 := by
  have h1 := congrArg List.length h
  have h2 := sg_len zs (i + 1) hi
  simp at h1
  omega

set_option maxRecDepth 100000 in
set_option maxHeartbeats 4000000 in
theorem l4SweepWord_any (zs : List Int) (hord : Ord zs) (W : World) (v : Value) (n : Nat) (hv : Sees W v n (vals zs)) :
    Calls Try.prog 189 #[v] W fun e w' => e = .returned (.string (txt (swWord zs))) ∧ Below W.heap.size W w' := by
  obtain ⟨i0, hi, hz0, hz1, hz2⟩ := info_parts infoI
  have hl : zs.length = n := by simpa using hv.1
  have hn1 : 1 ≤ n := by have := hord.1; omega
  have hn7 : n ≤ 7 := by have := hord.2.1; omega
  obtain ⟨b, o, cap, rfl, _, _, hbl, hcell⟩ := sees_cells hv (by omega)
  have HC := Go.Lib.hid hcell
  obtain ⟨R, hR⟩ : ∃ R, swWord zs = R := ⟨_, rfl⟩
  rw [hR]
  have HRR := Go.Lib.hid hR
  clear hv hcell hR
  go_enter Try.func189, Try.ntmps189
  go_wp2
  have ho0 := World.ownsRow_made (base := W.heap.size) (e := 3) (size := 1) W #[] 0 (Nat.le_refl _) (by unfold maxLen; omega) rfl
  have hb0 : Below W.heap.size W (W.alloc (.cells #[] 3)) := (Below.refl _ _).alloc (Nat.le_refl _) _
  go_loopw [3, 4, 5] (fun wv sv iv wr => ∃ (i ns g c : Nat) (st : List Int) (acc : List UInt8) (s : ByteArray), iv = .int .i64 i ∧ wv = .string s ∧ sv = .slice (some ⟨g, 0, none⟩) ns c ∧ i ≤ n ∧ ns ≤ 7 ∧ s.size ≤ 14 ∧ st.length = ns ∧ Hid (s = txt acc) ∧ wr.ownsRow W.heap.size 3 1 (.slice (some ⟨g, 0, none⟩) ns c) ns (vals st) ∧ Below W.heap.size W wr ∧ Hid (acc = sgTo zs i ∧ st = (swTo zs i).2)) (fun _ _ i _ => n - (intOf i).toNat)
  case atStart => exact ⟨0, 0, W.heap.size, 0, [], [], ByteArray.empty, rfl, rfl, rfl, Nat.zero_le _, by omega, by decide, rfl, Go.Lib.hid rfl, by simpa using ho0, hb0, Go.Lib.hid ⟨rfl, rfl⟩⟩
  case round =>
    obtain ⟨i, ns, g, c, st, acc, s, rfl, rfl, rfl, hin, hns7, hs14, hst, HS, hown, hb, HM⟩ := hrel
    clear ho0 hb0
    by_cases hlt : i < n
    · obtain ⟨x, hx⟩ : ∃ x, zs.getD i 0 = x := ⟨_, rfl⟩
      have hxi := HC.out i (by omega)
      rw [hx] at hxi
      have HI0 : Hid (In zs i x st acc) := Go.Lib.hid (by have := in_start (zs := zs) (i := i) (by omega); rw [HM.out.1, HM.out.2, ← hx]; exact this)
      have HHX := Go.Lib.hid hx
      have hlti : (i : Int) < (n : Int) := by omega
      clear hx
      go_wp2_with fail
      go_loopw [3, 4] (fun wv sv w2 => ∃ (ns g c : Nat) (st : List Int) (acc : List UInt8) (s : ByteArray), wv = .string s ∧ sv = .slice (some ⟨g, 0, none⟩) ns c ∧ ns ≤ 7 ∧ s.size ≤ 14 ∧ st.length = ns ∧ Hid (s = txt acc) ∧ w2.ownsRow W.heap.size 3 1 (.slice (some ⟨g, 0, none⟩) ns c) ns (vals st) ∧ Below W.heap.size W w2 ∧ Hid (In zs i x st acc)) (fun _ sv _ => lenV sv)
      case atStart => exact ⟨ns, g, c, st, acc, s, rfl, rfl, hns7, hs14, hst, HS, hown, hb, HI0⟩
      case round =>
        clear hown hb HI0 HS hst hs14 hns7 HM
        obtain ⟨ns, g, c, st, acc, s, rfl, rfl, hns7, hs14, hst, HS, hown, hb, HI⟩ := hrel
        have hla := in_len HI.out (by omega) (by omega)
        have hs13 : s.size ≤ 13 := by rw [HS.out, txt_size]; exact hla
        have hti2 : wr.cell? ⟨b, o + i, none⟩ = some (.int .i64 x) := (hb.cell (p := ⟨b, o + i, none⟩) hbl).trans hxi
        have HTI := Go.Lib.hid hxi
        clear hxi hla
        have HS1 : Hid (s ++ ({ data := #[73] } : ByteArray) = txt (acc ++ [73])) := Go.Lib.hid (by rw [HS.out]; exact txt_append _ [73])
        have HSL := Go.Lib.hid hst
        by_cases hn0 : ns = 0
        · have hst0 : st = [] := List.eq_nil_of_length_eq_zero (by omega)
          have HN : Hid (acc ++ [73] = sgTo zs (i + 1) ∧ st ++ [x] = (swTo zs (i + 1)).2) := Go.Lib.hid (in_end HI.out (by rw [hst0]; rfl))
          have hns6 : ns ≤ 6 := by omega
          subst hn0
          clear hst0 hst
          go_wp2_with fail
          go_quiet (fail)
          have hownq := own_drewN (q := nq) hown
          have hbq := ExactC.below_drewN (q := nq) hb
          have hckq : (wr.drewN nq).cell? ⟨b, o + i, none⟩ = some (.int .i64 x) := hti2
          obtain ⟨wq, hwq⟩ : ∃ wq, wr.drewN nq = wq := ⟨_, rfl⟩
          rw [hwq] at hownq hbq hckq ⊢
          clear hwq hown hb hti2
          go_wp2_with (at_builtin; refine wpList_append_own _ rfl _ _ 29 rfl W.heap.size 3 i0 (.int .i64 0) 1 8 Try.underlying29 hi hz0 hz1 hz2 rfl (by decide) (.slice (some ⟨g, 0, none⟩) 0 c) 0 (vals st) rfl (hownq.alloc _) ⟨wq.heap.size, 0, none⟩ 1 1 [.int .i64 x] rfl rfl (cell_one_new _ _ _) (fun x hx => by simp at hx; subst hx; rfl) (by unfold maxLen; omega) (by omega) (by have := hbq.size; simp; omega) ?_; intro v' w3 hown' hgrow3 hnil3)
          obtain ⟨g', cap', rfl⟩ := ownsRow_succ hown'
          have e1 : vals st ++ [Value.int .i64 x] = vals (st ++ [x]) := by simp
          rw [e1] at hown'
          have hb' : Below W.heap.size W w3 := (hbq.alloc hbq.size _).grown hgrow3 (by have := hbq.size; simp; omega) (fun q hq => (hownq.lt q hq).1)
          have H3 := Go.Lib.hid (And.intro hown' hb')
          clear hown' hgrow3 hnil3 hownq hbq hb' e1
          go_wp2
          go_roundw
          case rel => exact ⟨i + 1, 0 + 1, g', cap', st ++ [x], acc ++ [73], s ++ ({ data := #[73] } : ByteArray), by go_num, rfl, rfl, by omega, by omega, by rw [ByteArray.size_append]; exact Nat.add_le_add hs13 (Nat.le_refl 1), by rw [List.length_append, HSL.out]; rfl, HS1, H3.out.1, H3.out.2, HN⟩
          case measure => simp [intOf]; omega
        · obtain ⟨la, p, hlap, hlast, hdrop⟩ := split_last (l := st) (by omega)
          obtain ⟨m, rfl⟩ : ∃ m, ns = m + 1 := ⟨ns - 1, by omega⟩
          have hlam : la.length = m := by rw [hlap] at hst; simp at hst; omega
          have hckp : wr.cell? ⟨g, m, none⟩ = some (.int .i64 p) := by
            rw [hown.cellAt m (by omega), hlap]
            simp [← hlam]
          have hm7 : m ≤ 6 := by omega
          have q1 : IntKind.i64.wrap ((m : Int) + 1 - 1) = (m : Int) := by rw [IntWalk.i64_in _ (by omega)]; omega
          by_cases hpx : p < x
          · have HN : Hid (In zs i x la (acc ++ [79])) := Go.Lib.hid (by have := HI.out; rw [hlap] at this; exact in_pop this hpx)
            have hpd : decide (p < x) = true := decide_eq_true hpx
            have hpop : wr.ownsRow W.heap.size 3 1 (.slice (some ⟨g, 0, none⟩) m c) m (vals la) := ownsRow_pop (last := [.int .i64 p]) (by simp [hlam]) (by rw [hlap] at hown; simpa using hown)
            have hmc : m + 1 ≤ c := by
              rcases hown.2 with ⟨h0, _⟩ | ⟨g', cap', cur, h0, _, _, h1, _⟩
              · cases h0
              · cases h0; exact h1
            have HS2 : Hid (s ++ ({ data := #[79] } : ByteArray) = txt (acc ++ [79])) := Go.Lib.hid (by rw [HS.out]; exact txt_append _ [79])
            have HLA := Go.Lib.hid hlam
            have H3 := Go.Lib.hid (And.intro hpop hb)
            clear hst hlap hlast hdrop hpop hown hb hlam hn0
            go_wp2_with fail
            go_quiet (fail)
            have hw4 := own_drewN (q := nq) H3.out.1
            have hw5 := ExactC.below_drewN (q := nq) H3.out.2
            have H4 := Go.Lib.hid (And.intro hw4 hw5)
            clear hw4 hw5
            go_wp2
            go_roundw
            case rel => exact ⟨m, g, c, la, acc ++ [79], s ++ ({ data := #[79] } : ByteArray), rfl, rfl, by omega, by rw [ByteArray.size_append]; exact Nat.add_le_add hs13 (Nat.le_refl 1), HLA.out, HS2, H4.out.1, H4.out.2, HN⟩
            case measure => simp [lenV]
          · have hpd : decide (p < x) = false := decide_eq_false hpx
            have HN : Hid (acc ++ [73] = sgTo zs (i + 1) ∧ st ++ [x] = (swTo zs (i + 1)).2) := Go.Lib.hid (in_end HI.out (by rw [hlap]; simp; omega))
            have hns6 : m + 1 ≤ 6 := by have := in_len2 HN.out.2 (by omega) (by omega); omega
            clear hst hlap hlast hdrop hlam hn0
            go_wp2_with fail
            go_quiet (fail)
            have hownq := own_drewN (q := nq) hown
            have hbq := ExactC.below_drewN (q := nq) hb
            have hckq : (wr.drewN nq).cell? ⟨b, o + i, none⟩ = some (.int .i64 x) := hti2
            obtain ⟨wq, hwq⟩ : ∃ wq, wr.drewN nq = wq := ⟨_, rfl⟩
            rw [hwq] at hownq hbq hckq ⊢
            clear hwq hown hb hti2 hckp
            go_wp2_with (at_builtin; refine wpList_append_own _ rfl _ _ 29 rfl W.heap.size 3 i0 (.int .i64 0) 1 8 Try.underlying29 hi hz0 hz1 hz2 rfl (by decide) (.slice (some ⟨g, 0, none⟩) (m + 1) c) (m + 1) (vals st) rfl (hownq.alloc _) ⟨wq.heap.size, 0, none⟩ 1 1 [.int .i64 x] rfl rfl (cell_one_new _ _ _) (fun x hx => by simp at hx; subst hx; rfl) (by unfold maxLen; omega) (by omega) (by have := hbq.size; simp; omega) ?_; intro v' w3 hown' hgrow3 hnil3)
            obtain ⟨g', cap', rfl⟩ := ownsRow_succ hown'
            have e1 : vals st ++ [Value.int .i64 x] = vals (st ++ [x]) := by simp
            rw [e1] at hown'
            have hb' : Below W.heap.size W w3 := (hbq.alloc hbq.size _).grown hgrow3 (by have := hbq.size; simp; omega) (fun q hq => (hownq.lt q hq).1)
            have H3 := Go.Lib.hid (And.intro hown' hb')
            clear hown' hgrow3 hnil3 hownq hbq hb' e1
            go_wp2
            go_roundw
            case rel => exact ⟨i + 1, (m + 1) + 1, g', cap', st ++ [x], acc ++ [73], s ++ ({ data := #[73] } : ByteArray), by go_num, rfl, rfl, by omega, by omega, by rw [ByteArray.size_append]; exact Nat.add_le_add hs13 (Nat.le_refl 1), by rw [List.length_append, HSL.out]; rfl, HS1, H3.out.1, H3.out.2, HN⟩
            case measure => simp [intOf]; omega
    · have hkn : i = n := by omega
      subst hkn
      have HB := Go.Lib.hid hb
      have HE : Hid (acc ++ List.replicate ns 79 = R ∧ acc.length + ns = 14 ∨ acc ++ List.replicate ns 79 = R ∧ acc.length + ns ≤ 14) := Go.Lib.hid (by
        right
        have h1 := HM.out
        have h2 := sg_len zs i (by omega)
        refine ⟨?_, ?_⟩
        · rw [← HRR.out, ← hst, h1.1, h1.2]; unfold swWord; rw [hl]
        · rw [← hst, h1.1, h1.2]; omega)
      have hle : acc.length + ns ≤ 14 := by rcases HE.out with h | h <;> omega
      have HE2 : Hid (acc ++ List.replicate ns 79 = R) := Go.Lib.hid (by rcases HE.out with h | h <;> exact h.1)
      have hsz : s.size + ns ≤ 14 := by rw [HS.out, txt_size]; exact hle
      clear hown hb HE hle hst
      go_wp2_with fail
      go_loopw [3, 6] (fun wv jv w2 => ∃ (j : Nat) (t : ByteArray), jv = .int .i64 j ∧ wv = .string t ∧ j ≤ ns ∧ Hid (t.size = s.size + j) ∧ Hid (w2 = wr) ∧ Hid (t = txt (acc ++ List.replicate j 79))) (fun _ j _ => ns - (intOf j).toNat)
      case atStart => exact ⟨0, s, rfl, rfl, Nat.zero_le _, Go.Lib.hid rfl, Go.Lib.hid rfl, Go.Lib.hid (by rw [HS.out]; simp)⟩
      case round =>
        obtain ⟨j, t, rfl, rfl, hj, HTS, HW2, HT⟩ := hrel
        have ht := HTS.out
        have hw2 := HW2.out
        subst hw2
        by_cases hjn : j < ns
        · have hji : (j : Int) < (ns : Int) := by omega
          have ht13 : t.size ≤ 13 := by omega
          have HT2 : Hid (t ++ ({ data := #[79] } : ByteArray) = txt (acc ++ List.replicate (j + 1) 79)) := Go.Lib.hid (by
            rw [HT.out, List.replicate_succ', ← List.append_assoc]; exact txt_append _ [79])
          have HSZ : Hid ((t ++ ({ data := #[79] } : ByteArray)).size = s.size + (j + 1)) := Go.Lib.hid (by rw [ByteArray.size_append, ht]; rfl)
          go_wp2
          go_roundw
          case rel => exact ⟨j + 1, _, by go_num, rfl, by omega, HSZ, Go.Lib.hid (by first | rfl | trivial), HT2⟩
          case measure => simp [intOf]; omega
        · have hjn2 : j = ns := by omega
          subst hjn2
          have HT3 : Hid (t = txt R) := Go.Lib.hid (by rw [HT.out, HE2.out])
          go_wp2
          go_ret
          exact ⟨by rw [HT3.out]; rfl, HB.out⟩

set_option maxHeartbeats 1000000 in
set_option maxRecDepth 100000 in
theorem l4Sweep_any (zs : List Int) (hord : Ord zs) (W : World) (v : Value) (n : Nat) (hv : Sees W v n (vals zs)) :
    Calls Try.prog 158 #[v] W fun e w' => ∃ u, e = .returned u ∧ w'.ownsRow W.heap.size 3 1 u (sweepL zs).length (vals (sweepL zs)) ∧ Below W.heap.size W w' := by
  have HV := Go.Lib.hid hv
  have CW := Go.Lib.hid (fun W' (h : Sees W' v n (vals zs)) => l4SweepWord_any zs hord W' v n h)
  have hsw := sweep_word hord.1 hord.2.1
  have CR := Go.Lib.hid (fun W' (h : Sees W' v n (vals zs)) => l2Run_any zs (txt (swWord zs)) hord hsw.1 hsw.2.1 W' v n h)
  have HSW := Go.Lib.hid hsw.2.2
  obtain ⟨R, hR⟩ : ∃ R, txt (swWord zs) = R := ⟨_, rfl⟩
  rw [hR] at CW CR HSW
  clear hR hsw
  obtain ⟨_, ad, cap, rfl, _, _⟩ := hv
  go_enter Try.func158, Try.ntmps158
  go_wp2_with fail
  refine (CW.out _ HV.out).mono ?_
  rintro e w1 ⟨rfl, hb⟩
  have H1 := Go.Lib.hid hb
  clear hb
  go_wp2_with fail
  refine (CR.out _ (HV.out.grow H1.out)).mono ?_
  rintro e w2 ⟨u, rfl, ho, hb⟩
  have H2 := Go.Lib.hid (And.intro (own_lower ho H1.out.size) (H1.out.trans (hb.mono H1.out.size)))
  clear ho hb
  go_wp2_with fail
  go_ret
  exact ⟨_, rfl, by rw [← HSW.out]; exact H2.out.1, H2.out.2⟩

end Go.Proofs.Ytecbfoodkcgehab.SweepWC

/-
  Contract: the program's stack is cut below the numbers that are less. Conditions: at most eight numbers.
-/
namespace Go.Proofs.Ytecbfoodkcgehab.CutStC
open Go.RowKit SeesC IntsC ExactC NumC IterC OrdMath WordMath OrdFacts InC OrderC AtC EndsM SweepM StackM

theorem take_snoc {st : List Int} {k : Nat} {p : Int} (hk : k < st.length) (h : st.getD k 0 = p) : st.take (k + 1) = st.take k ++ [p] := by
  rw [List.take_succ_eq_append_getElem hk, ← h]
  simp [hk]

set_option maxRecDepth 100000 in
set_option maxHeartbeats 2000000 in
theorem cutStack_any (st : List Int) (x : Int) (m g c B : Nat) (W : World) (hst : st.length = m) (hm : m ≤ 8) (hown : W.ownsRow B 3 1 (.slice (some ⟨g, 0, none⟩) m c) m (vals st)) :
    Calls Try.prog 190 #[.slice (some ⟨g, 0, none⟩) m c, .int .i64 x] W fun e w' => ∃ k o' c', k ≤ m ∧ (k < m → o' = k) ∧ st.take k = belw st x ∧ e = .returned (.tuple #[.slice (some ⟨g, 0, none⟩) k k, .slice (some ⟨g, o', none⟩) (m - k) c']) ∧ ∃ q, w' = W.drewN q := by
  have hmc : m ≤ c := by
    rcases hown.2 with ⟨h0, _⟩ | ⟨g', cap', cur, h0, _, _, h1, _⟩
    · cases h0
    · cases h0; exact h1
  have HC := Go.Lib.hid (fun (j : Nat) (hj : j < m) => (show W.cell? ⟨g, j, none⟩ = some (.int .i64 (st.getD j 0)) by rw [hown.cellAt j (by omega)]; simp [show j < st.length by omega]))
  have HST := Go.Lib.hid hst
  clear hown
  go_enter Try.func190, Try.ntmps190
  go_wp2
  go_loopw [6] (fun cv wr => ∃ (k : Nat), cv = .int .i64 k ∧ k ≤ m ∧ Hid (wr = W) ∧ Hid (belw (st.take k) x = belw st x)) (fun cv _ => (intOf cv).toNat)
  case atStart => exact ⟨m, rfl, Nat.le_refl _, Go.Lib.hid (by first | rfl | trivial), Go.Lib.hid (by rw [List.take_of_length_le (by omega)])⟩
  case round =>
    obtain ⟨k, rfl, hkm, HW, HB⟩ := hrel
    have hw := HW.out
    subst hw
    by_cases hk0 : k = 0
    · subst hk0
      have HE : Hid (st.take 0 = belw st x) := Go.Lib.hid (by rw [← HB.out]; rfl)
      go_wp2_with fail
      go_quiet (fail)
      go_wp2_with fail
      go_ret2
      exact ⟨0, 0, _, Nat.zero_le _, fun _ => rfl, HE.out, rfl, _, rfl⟩
    · obtain ⟨j, rfl⟩ : ∃ j, k = j + 1 := ⟨k - 1, by omega⟩
      obtain ⟨p, hp⟩ : ∃ p, st.getD j 0 = p := ⟨_, rfl⟩
      have hck := HC.out j (by omega)
      rw [hp] at hck
      have HT := Go.Lib.hid (take_snoc (st := st) (k := j) (p := p) (by omega) hp)
      have q1 : IntKind.i64.wrap ((j : Int) + 1 - 1) = (j : Int) := by rw [IntWalk.i64_in _ (by omega)]; omega
      have hjm : (j : Int) < (m : Int) := by omega
      clear hp
      by_cases hpx : p < x
      · have hpd : decide (p < x) = true := decide_eq_true hpx
        have HN : Hid (belw (st.take j) x = belw st x) := Go.Lib.hid (by rw [← HB.out, HT.out, belw_less hpx])
        go_wp2
        go_roundw
        case rel => exact ⟨j, rfl, by omega, Go.Lib.hid (by first | rfl | trivial), HN⟩
        case measure => simp [intOf]
      · have hpd : decide (p < x) = false := decide_eq_false hpx
        have HE : Hid (st.take (j + 1) = belw st x) := Go.Lib.hid (by rw [← HB.out, HT.out, belw_not hpx])
        by_cases hcj : c = j + 1
        · subst hcj
          go_wp2_with fail
          go_quiet (fail)
          go_wp2_with fail
          go_ret2
          exact ⟨j + 1, 0, 0, hkm, fun h => by omega, HE.out, by rw [show m - (j + 1) = 0 by omega]; rfl, _, rfl⟩
        · have hcj2 : j + 1 < c := by omega
          go_wp2_with fail
          go_quiet (fail)
          go_wp2_with fail
          go_ret2
          exact ⟨j + 1, j + 1, _, hkm, fun _ => rfl, HE.out, rfl, _, rfl⟩

end Go.Proofs.Ytecbfoodkcgehab.CutStC

/-
  Contract: the program's sweep. Conditions: an order.
-/
namespace Go.Proofs.Ytecbfoodkcgehab.SweepIC
open Go.RowKit SeesC WordsC IntsC ExactC NumC IterC OrdMath WordMath OrdFacts InC OrderC AtC EndsM SweepM StackM CutStC

theorem sweep_sent {zs : List Int} {y : Int} (h : ∀ z ∈ zs, z < y) : (swTo (zs ++ [y]) (zs.length + 1)).1 = sweepL zs := by
  unfold swTo
  rw [List.take_of_length_le (by simp), List.foldl_append]
  obtain ⟨o, s, hr⟩ : ∃ o s, zs.foldl swF ([], []) = (o, s) := ⟨_, _, rfl⟩
  rw [hr]
  have hs : ∀ z ∈ s, z < y := by
    intro z hz
    have hp := sw_perm zs [] []
    rw [hr] at hp
    have h9 : z ∈ o ++ s := List.mem_append.2 (.inr hz)
    have := hp.mem_iff.1 h9
    exact h z (by simpa using this)
  show o ++ popd s y = _
  rw [popd_all hs]
  unfold sweepL
  rw [hr]

theorem drop_popd {st : List Int} {x : Int} {k : Nat} (h : st.take k = belw st x) : (st.drop k).reverse = popd st x := by
  have h1 := parts st x
  rw [← h] at h1
  have h2 : st.take k ++ (popd st x).reverse = st.take k ++ st.drop k := by rw [h1, List.take_append_drop]
  have h3 := List.append_cancel_left h2
  rw [← h3, List.reverse_reverse]

theorem setL_drop (st : List Int) (k : Nat) (hk : k ≤ st.length) : setL (vals st) k (vals (st.drop k).reverse) = vals (st.take k ++ (st.drop k).reverse) := by
  rw [setL_is _ _ _ (by simp; omega)]
  have e : (vals st).drop (k + (vals (st.drop k).reverse).length) = [] := List.drop_of_length_le (by simp; omega)
  rw [e, List.append_nil]
  unfold vals
  rw [← List.map_take, List.map_append]

theorem rev_set (st : List Int) (x : Int) (k m g c o' B : Nat) (w : World) (hst : st.length = m) (hkm : k ≤ m) (ho : k < m → o' = k) (htk : st.take k = belw st x) (hown : w.ownsRow B 3 1 (.slice (some ⟨g, 0, none⟩) m c) m (vals st)) :
    w.grownBy (w.setCells g o' (((st.drop k).take (m - k)).reverse.map (Value.int .i64))) (some g) ∧ (∀ j u, (vals (popd st x))[j]? = some u → (w.setCells g o' (((st.drop k).take (m - k)).reverse.map (Value.int .i64))).cell? ((⟨g, o', none⟩ : Addr).add j) = some u) := by
  have e0 : (st.drop k).take (m - k) = st.drop k := List.take_of_length_le (by simp; omega)
  have e1 := drop_popd htk
  rw [e0]
  by_cases h : k < m
  · obtain rfl := ho h
    have h1 := own_setCells (vals (st.drop o').reverse) w o' _ hown
    rw [setL_drop st o' (by omega)] at h1
    refine ⟨h1.2, fun j u hu => ?_⟩
    have h2 := h1.1.cells (g := g) rfl (o' + j) u (by
      have e9 : (st.take o').length = o' := by rw [List.length_take]; omega
      rw [show vals (st.take o' ++ (st.drop o').reverse) = vals (st.take o') ++ vals (st.drop o').reverse by simp, List.getElem?_append_right (by rw [vals_len, e9]; omega), vals_len, e9, Nat.add_sub_cancel_left, e1]
      exact hu)
    have e10 : ((⟨g, 0, none⟩ : Addr).add (o' + j)) = ((⟨g, o', none⟩ : Addr).add j) := by
      unfold Addr.add
      by_cases h0 : o' + j = 0
      · obtain ⟨rfl, rfl⟩ : o' = 0 ∧ j = 0 := by omega
        rfl
      · rw [if_neg h0]
        by_cases hj : j = 0
        · subst hj; rw [if_pos rfl]; simp
        · rw [if_neg hj]; simp
    rw [e10] at h2
    exact h2
  · have hk : k = m := by omega
    have e2 : st.drop k = [] := List.drop_of_length_le (by omega)
    rw [e2] at e1
    rw [e2, ← e1]
    exact ⟨⟨rfl, rfl, rfl, Nat.le_refl _, fun _ _ _ => rfl⟩, fun j u hu => by simp at hu⟩

set_option maxRecDepth 100000 in
set_option maxHeartbeats 4000000 in
theorem sweepOf_any (zs : List Int) (hord : Ord zs) (W : World) (v : Value) (n : Nat) (hv : Sees W v n (vals zs)) :
    Calls Try.prog 159 #[v] W fun e w' => ∃ u, e = .returned u ∧ w'.ownsRow W.heap.size 3 1 u (sweepL zs).length (vals (sweepL zs)) ∧ Below W.heap.size W w' := by
  obtain ⟨i0, hi, hz0, hz1, hz2⟩ := info_parts infoI
  have hl : zs.length = n := by simpa using hv.1
  have hn1 : 1 ≤ n := by have := hord.1; omega
  have hn7 : n ≤ 7 := by have := hord.2.1; omega
  have HV := Go.Lib.hid hv
  have hsent : (swTo (zs ++ [(n : Int) + 1]) (n + 1)).1 = sweepL zs := by
    have h1 := sweep_sent (zs := zs) (y := (n : Int) + 1) (fun z hz => by have := (hord.2.2.1 z hz).2; omega)
    rw [hl] at h1
    exact h1
  obtain ⟨R, hR⟩ : ∃ R, sweepL zs = R := ⟨_, rfl⟩
  rw [hR] at hsent ⊢
  have HRL : Hid (R.length = n) := Go.Lib.hid (by rw [← hR, sweep_len, hl])
  have hrange : ∀ i, i < n + 1 → 0 ≤ (zs ++ [(n : Int) + 1]).getD i 0 ∧ (zs ++ [(n : Int) + 1]).getD i 0 ≤ 8 := by
    intro i hi
    by_cases h : i < n
    · obtain ⟨q, h1, h2⟩ := hord.getD (k := i) (by omega)
      rw [List.getD_eq_getElem?_getD, List.getElem?_append_left (by omega), ← List.getD_eq_getElem?_getD, h1]
      omega
    · have e : (zs ++ [(n : Int) + 1]).getD i 0 = (n : Int) + 1 := by rw [show i = zs.length by omega]; simp
      rw [e]
      omega
  have HRNG := Go.Lib.hid hrange
  have HRES := Go.Lib.hid hsent
  obtain ⟨ys, hys⟩ : ∃ ys, zs ++ [(n : Int) + 1] = ys := ⟨_, rfl⟩
  rw [hys] at HRES HRNG
  have hly : ys.length = n + 1 := by rw [← hys]; simp [hl]
  have HLY := Go.Lib.hid hly
  have HYS := Go.Lib.hid hys
  obtain ⟨b, o, cap, rfl, _, _, hbl, hcell⟩ := sees_cells hv (by omega)
  have HC := Go.Lib.hid hcell
  clear hv hsent hR hcell hly hys hrange
  go_enter Try.func159, Try.ntmps159
  go_wp2_with (at_make; refine wpList_make_own _ rfl _ _ 29 rfl W.heap.size 3 i0 (.int .i64 0) 1 Try.underlying29 hi hz0 hz1 .i64 .i64 _ n rfl rfl rfl (by rw [hz2]; omega) (by unfold maxLen; omega) (Nat.le_refl _) ?_; intro w1 hown1 hgrow1)
  have hb1 : Below W.heap.size W w1 := (Below.refl _ _).grown hgrow1 (Nat.le_refl _) (fun k hk => by cases hk)
  have hown2 := World.ownsRow_made (base := W.heap.size) (e := 3) (size := 1) w1 #[] 0 hb1.size (by unfold maxLen; omega) rfl
  have H1 := Go.Lib.hid (And.intro (hown1.alloc (.cells #[] 3)) (And.intro hown2 (And.intro (hb1.alloc hb1.size (.cells #[] 3)) (And.intro ((hown1.lt W.heap.size rfl).2) ((hown1.lt W.heap.size rfl).1)))))
  clear hown1 hgrow1 hown2 hb1
  go_wp2_with fail
  refine (Try.slices_Clone_int b o n cap zs _ (by omega) (by omega) (fun j hj => (H1.out.2.2.1.cell (p := ⟨b, o + j, none⟩) hbl).trans (HC.out j hj))).mono ?_
  rintro e w2 ⟨u, rfl, ho, hne, hb⟩
  rw [List.take_of_length_le (by omega)] at ho
  obtain ⟨gu, cu, rfl⟩ := own_form ho hne
  have hgu := ho.lt gu rfl
  have hs1 : w1.heap.size < gu := by have := hgu.1; simp at this; omega
  have hgu2 := hgu.2
  have hs0 : W.heap.size < w1.heap.size := H1.out.2.2.2.1
  have hbW : Below W.heap.size W w2 := H1.out.2.2.1.trans (hb.mono H1.out.2.2.1.size)
  have hkS := kept_call H1.out.1 hb
  have hkK := kept_call H1.out.2.1 hb
  have H2 := Go.Lib.hid (And.intro (own_lower ho (base' := W.heap.size) H1.out.2.2.1.size) (And.intro hkS (And.intro hkK hbW)))
  clear ho hne hb hgu hbW hkS hkK H1
  go_wp2_with (at_builtin; refine wpList_append_own_at _ rfl _ _ 29 rfl W.heap.size 3 i0 (.int .i64 0) 1 8 Try.underlying29 hi hz0 hz1 hz2 rfl (by decide) (.slice (some ⟨gu, 0, none⟩) n cu) n (vals zs) rfl (H2.out.1.alloc _) ⟨w2.heap.size, 0, none⟩ 1 1 [.int .i64 ((n : Int) + 1)] rfl rfl (cell_one_new _ _ _) (fun x hx => by simp at hx; subst hx; rfl) (by unfold maxLen; omega) (by omega) (by have := H2.out.2.2.2.size; simp; omega) ?_; intro v' w3 hown' hgrow3 hnil3 hrow3)
  obtain ⟨ga, ca, rfl⟩ := ownsRow_succ hown'
  have e1 : vals zs ++ [Value.int .i64 ((n : Int) + 1)] = vals ys := by rw [← HYS.out]; simp
  rw [e1] at hown'
  have hb3 : Below W.heap.size W w3 := (H2.out.2.2.2.alloc H2.out.2.2.2.size _).grown hgrow3 (by have := H2.out.2.2.2.size; simp; omega) (fun q hq => (H2.out.1.lt q hq).1)
  have hS3 := own_mark (H2.out.2.1.alloc _) hgrow3 (fun a ha e => by simp only [Value.ownBlock, Option.some.injEq] at ha e; omega)
  have hK3 := own_mark (H2.out.2.2.1.alloc _) hgrow3 (fun a ha e => by simp only [Value.ownBlock, Option.some.injEq] at ha e; omega)
  have hga : w1.heap.size < ga := by
    rcases hrow3 with h2 | h2
    · simp [Value.ownBlock] at h2; omega
    · simp [Value.ownBlock] at h2; omega
  obtain ⟨N, hN⟩ : ∃ N, n + 1 = N := ⟨_, rfl⟩
  rw [hN] at hown' ⊢
  have HNN := Go.Lib.hid hN
  have hN8 : N ≤ 8 := by omega
  have H3 := Go.Lib.hid (And.intro hown' (And.intro hS3 (And.intro hK3 hb3)))
  clear hown' hgrow3 hnil3 hrow3 hS3 hK3 hb3 H2 e1 hs1 hgu2 hN
  go_simp
  go_wp2_with fail
  go_loopw [3, 4, 21] (fun sv kv iv wr => ∃ (i ns gs cs m g c : Nat) (out st : List Int), iv = .int .i64 i ∧ sv = .slice (some ⟨gs, 0, none⟩) ns cs ∧ kv = .slice (some ⟨g, 0, none⟩) m c ∧ i ≤ N ∧ st.length = m ∧ out.length = ns ∧ ns + m = i ∧ gs ≠ g ∧ gs ≠ ga ∧ g ≠ ga ∧ wr.ownsRow W.heap.size 3 1 (.slice (some ⟨gs, 0, none⟩) ns cs) ns (vals out) ∧ wr.ownsRow W.heap.size 3 1 (.slice (some ⟨g, 0, none⟩) m c) m (vals st) ∧ wr.ownsRow W.heap.size 3 1 (.slice (some ⟨ga, 0, none⟩) N ca) N (vals ys) ∧ Below W.heap.size W wr ∧ Hid (swTo ys i = (out, st))) (fun _ _ i _ => N - (intOf i).toNat)
  case atStart => exact ⟨0, 0, W.heap.size, n, 0, w1.heap.size, 0, [], [], rfl, rfl, rfl, Nat.zero_le _, rfl, rfl, rfl, by omega, by omega, by omega, by simpa using H3.out.2.1, by simpa using H3.out.2.2.1, H3.out.1, H3.out.2.2.2, Go.Lib.hid rfl⟩
  case round =>
    obtain ⟨i, ns, gs, cs, m, g, c, out, st, rfl, rfl, rfl, hin, hst, hlo, hnm, hn12, hn13, hn23, hownS, hownK, hownA, hb, HR⟩ := hrel
    clear H3
    by_cases hlt : i < N
    · obtain ⟨x, hx⟩ : ∃ x, ys.getD i 0 = x := ⟨_, rfl⟩
      have hckx : wr.cell? ⟨ga, i, none⟩ = some (.int .i64 x) := by rw [hownA.cellAt i (by omega)]; rw [← hx]; have := HLY.out; have := HNN.out; simp [show i < ys.length by omega]
      have HX : Hid (swTo ys (i + 1) = (out ++ popd st x, belw st x ++ [x])) := Go.Lib.hid (by rw [← hx]; exact sw_next (by have := HLY.out; have := HNN.out; omega) HR.out)
      have hx8 := HRNG.out i (by have := HNN.out; omega)
      rw [hx] at hx8
      have hlti : (i : Int) < (N : Int) := by omega
      have hm8 : m ≤ 8 := by omega
      have hns8 : ns ≤ 8 := by omega
      have CC := Go.Lib.hid (cutStack_any st x m g c W.heap.size wr hst hm8 hownK)
      have HL := Go.Lib.hid (And.intro hst (And.intro hlo hnm))
      have H4 := Go.Lib.hid (And.intro hownS (And.intro hownK (And.intro hownA hb)))
      clear hx hownS hownK hownA hb hst hlo
      go_wp2_with fail
      refine CC.out.mono ?_
      rintro e w4 ⟨k, o', c', hkm, ho', htk, rfl, q, rfl⟩
      have h4S := own_drewN (q := q) H4.out.1
      have h4K := own_drewN (q := q) H4.out.2.1
      have h4A := own_drewN (q := q) H4.out.2.2.1
      have h4b := ExactC.below_drewN (q := q) H4.out.2.2.2
      obtain ⟨w4, hw4⟩ : ∃ w4, wr.drewN q = w4 := ⟨_, rfl⟩
      rw [hw4] at h4S h4K h4A h4b ⊢
      have hlk : (st.take k).length = k := by rw [List.length_take]; have := HL.out.1; omega
      have H5 := Go.Lib.hid (And.intro h4S (And.intro h4K (And.intro h4A h4b)))
      have HTK := Go.Lib.hid htk
      have hk8 : k ≤ 8 := by omega
      clear hw4 h4S h4K h4A h4b H4 htk hckx
      go_wp2_with (at_builtin; refine wpList_append_grows _ rfl _ _ 29 rfl 3 i0 (.int .i64 0) 1 8 Try.underlying29 hi hz0 hz1 hz2 rfl (by decide) (some ⟨g, 0, none⟩) k k (vals (st.take k)) rfl (fun h => by cases h) (by rw [vals_len, hlk, Nat.mul_one]) (fun b' e j u hu => by cases e; exact (H5.out.2.1.alloc _).cells (g := g) rfl j u (by simp only [vals, List.map_take, List.getElem?_take] at hu ⊢; split at hu <;> simp_all)) ⟨w4.heap.size, 0, none⟩ 1 1 [.int .i64 x] rfl rfl (cell_one_new _ _ _) (fun x hx => by simp at hx; subst hx; rfl) (by omega) (by unfold maxLen; omega) (by omega) ?_; intro v' w5 hown5 hgrow5)
      obtain ⟨g', cap', rfl⟩ := ownsRow_succ hown5
      have e5 : vals (st.take k) ++ [Value.int .i64 x] = vals (belw st x ++ [x]) := by rw [← HTK.out]; simp
      rw [e5] at hown5
      have hg' := (hown5.lt g' rfl).1
      simp only [World.size_alloc] at hg'
      have hS5 := own_mark (H5.out.1.alloc (.cells #[.int .i64 x] 3)) hgrow5 (fun a ha e => by cases e)
      have hK5 := own_mark (H5.out.2.1.alloc (.cells #[.int .i64 x] 3)) hgrow5 (fun a ha e => by cases e)
      have hA5 := own_mark (H5.out.2.2.1.alloc (.cells #[.int .i64 x] 3)) hgrow5 (fun a ha e => by cases e)
      have hb5 : Below W.heap.size W w5 := (H5.out.2.2.2.alloc H5.out.2.2.2.size _).grown hgrow5 (by have := H5.out.2.2.2.size; simp; omega) (fun k hk => by cases hk)
      have hlt1 := (H5.out.1.lt gs rfl).2
      have hlt2 := (H5.out.2.1.lt g rfl).2
      have hlt3 := (H5.out.2.2.1.lt ga rfl).2
      have hgB := (H5.out.2.1.lt g rfl).1
      have hK5n := own_lower hown5 (base' := W.heap.size) (by have := H5.out.2.2.2.size; simp; omega)
      have hn24 : g' ≠ gs ∧ g' ≠ g ∧ g' ≠ ga := by omega
      have H6 := Go.Lib.hid (And.intro hS5 (And.intro hK5 (And.intro hA5 (And.intro hK5n hb5))))
      clear hown5 hgrow5 hS5 hK5 hA5 hb5 H5 e5 hg' hlt1 hlt2 hlt3 hK5n
      go_wp2_with fail
      refine (Try.slices_Reverse_int_cells g o' (m - k) c' (st.drop k) w5 (by rw [List.length_drop]; have := HL.out.1; omega) (by omega) (fun j hj => by
        rw [List.length_drop, HL.out.1] at hj
        obtain rfl := ho' (by omega)
        have h1 := (own_cells H6.out.2.1).1 (o' + j) (by have := HL.out.1; omega)
        rw [Nat.zero_add] at h1
        rw [h1]
        congr 2
        simp) (fun j hj => by
        obtain rfl := ho' (by omega)
        have h1 := (own_cells H6.out.2.1).2 (o' + j) (by omega)
        rw [Nat.zero_add] at h1
        exact h1)).mono ?_
      rintro e w6 ⟨rfl, q2, rfl⟩
      have hrev := rev_set st x k m g c o' W.heap.size (w5.drewN q2) HL.out.1 hkm ho' HTK.out (own_drewN H6.out.2.1)
      have hS6 := own_mark (own_drewN (q := q2) H6.out.1) hrev.1 (fun a ha e => by simp only [Value.ownBlock, Option.some.injEq] at ha e; omega)
      have hA6 := own_mark (own_drewN (q := q2) H6.out.2.2.1) hrev.1 (fun a ha e => by simp only [Value.ownBlock, Option.some.injEq] at ha e; omega)
      have hK6 := own_mark (own_drewN (q := q2) H6.out.2.2.2.1) hrev.1 (fun a ha e => by simp only [Value.ownBlock, Option.some.injEq] at ha e; omega)
      have hb6 := (ExactC.below_drewN (q := q2) H6.out.2.2.2.2).grown hrev.1 H6.out.2.2.2.2.size (fun k hk => by cases hk; exact hgB)
      obtain ⟨w6, hw6⟩ : ∃ w6, (w5.drewN q2).setCells g o' (((st.drop k).take (m - k)).reverse.map (Value.int .i64)) = w6 := ⟨_, rfl⟩
      rw [hw6] at hS6 hA6 hK6 hb6 hrev ⊢
      have hlp : (popd st x).length = m - k := by rw [← drop_popd HTK.out]; simp [HL.out.1]
      have HLP := Go.Lib.hid hlp
      have H7 := Go.Lib.hid (And.intro hS6 (And.intro hA6 (And.intro hK6 (And.intro hb6 hrev.2))))
      clear hS6 hA6 hK6 hb6 hrev hw6 hlp H6
      go_wp2_with (at_builtin; refine wpList_append_own_at _ rfl _ _ 29 rfl W.heap.size 3 i0 (.int .i64 0) 1 8 Try.underlying29 hi hz0 hz1 hz2 rfl (by decide) (.slice (some ⟨gs, 0, none⟩) ns cs) ns (vals out) rfl H7.out.1 ⟨g, o', none⟩ (m - k) c' (vals (popd st x)) rfl (by rw [vals_len, HLP.out, Nat.mul_one]) H7.out.2.2.2.2 (fun u hu => by simp only [vals, List.mem_map] at hu; obtain ⟨z, _, rfl⟩ := hu; rfl) (by unfold maxLen; omega) (by omega) H7.out.2.2.2.1.size ?_; intro v'' w7 hown7 hgrow7 hnil7 hrow7)
      obtain ⟨gs', cs', rfl⟩ := own_form hown7 (fun e => by cases (hnil7.1 e).1)
      have e7 : vals out ++ vals (popd st x) = vals (out ++ popd st x) := by simp
      rw [e7] at hown7
      have hb7 : Below W.heap.size W w7 := H7.out.2.2.2.1.grown hgrow7 H7.out.2.2.2.1.size (fun q hq => (H7.out.1.lt q hq).1)
      have hA7 := own_mark H7.out.2.1 hgrow7 (fun a ha e => by simp only [Value.ownBlock, Option.some.injEq] at ha e; omega)
      have hK7 := own_mark H7.out.2.2.1 hgrow7 (fun a ha e => by simp only [Value.ownBlock, Option.some.injEq] at ha e; omega)
      have hgl := (H7.out.2.2.1.lt g' rfl).2
      have hal := (H7.out.2.1.lt ga rfl).2
      have hns' : gs' ≠ g' ∧ gs' ≠ ga := by
        rcases hrow7 with h2 | h2
        · simp only [Value.ownBlock, Option.some.injEq] at h2; omega
        · simp only [Value.ownBlock, Option.some.injEq] at h2; omega
      have H8 := Go.Lib.hid (And.intro hown7 (And.intro hK7 (And.intro hA7 hb7)))
      have HLB : Hid ((belw st x ++ [x]).length = k + 1 ∧ (out ++ popd st x).length = ns + (m - k)) := Go.Lib.hid ⟨by rw [List.length_append, ← HTK.out, List.length_take]; have := HL.out.1; simp; omega, by rw [List.length_append, HLP.out, HL.out.2.1]⟩
      clear hown7 hgrow7 hnil7 hrow7 hb7 hA7 hK7 hgl hal H7 e7
      go_wp2
      go_roundw
      case rel => exact ⟨i + 1, ns + (m - k), gs', cs', k + 1, g', cap', out ++ popd st x, belw st x ++ [x], by go_num, rfl, rfl, by omega, HLB.out.1, HLB.out.2, by have := HL.out; omega, hns'.1, hns'.2, hn24.2.2, H8.out.1, H8.out.2.1, H8.out.2.2.1, H8.out.2.2.2, HX⟩
      case measure => simp [intOf]; omega
    · have hkn : i = N := by omega
      have HE : Hid (out = R) := Go.Lib.hid (by have h1 := HRES.out; rw [HNN.out, ← hkn, HR.out] at h1; exact h1)
      have H3 := Go.Lib.hid (And.intro hownS hb)
      have HLO := Go.Lib.hid hlo
      clear hownS hownK hownA hb hlo
      go_wp2
      go_ret
      obtain rfl : ns = R.length := by rw [← HE.out]; exact HLO.out.symm
      exact ⟨_, rfl, by have h1 := H3.out.1; rw [HE.out] at h1; exact h1, H3.out.2⟩

end Go.Proofs.Ytecbfoodkcgehab.SweepIC

/-
  Contract: the model copies a list into memory of the call's own. Conditions: at most 2^20 numbers.
-/
namespace Go.Proofs.Ytecbfoodkcgehab.Own1C
open Go.RowKit SeesC IntsC ExactC IterC

set_option maxRecDepth 100000 in
theorem l1Own_any (zs : List Int) (b o n cap : Nat) (W : World) (hl : zs.length = n) (hn : n ≤ 1048576) (hc : ∀ j, j < zs.length → W.cell? ⟨b, o + j, none⟩ = some (.int .i64 (zs.getD j 0))) :
    Calls Try.prog 155 #[.slice (some ⟨b, o, none⟩) n cap] W fun e w' => ∃ g c, e = .returned (.slice (some ⟨g, 0, none⟩) n c) ∧ w'.ownsRow W.heap.size 3 1 (.slice (some ⟨g, 0, none⟩) n c) n (vals zs) ∧ Below W.heap.size W w' := by
  obtain ⟨i0, hi, hz0, hz1, hz2⟩ := info_parts infoI
  have ho0 := World.ownsRow_made (base := W.heap.size) (e := 3) (size := 1) W #[] 0 (Nat.le_refl _) (by unfold maxLen; omega) rfl
  have hc2 : ∀ j u, (vals zs)[j]? = some u → (W.alloc (.cells #[] 3)).cell? ((⟨b, o, none⟩ : Addr).add j) = some u := by
    intro j u hu
    have hj : j < zs.length := by have := (List.getElem?_eq_some_iff.1 hu).1; simpa using this
    have e0 : (⟨b, o, none⟩ : Addr).add j = ⟨b, o + j, none⟩ := by unfold Addr.add; split <;> simp_all
    have h1 := hc j hj
    have hlt := World.block_lt_of_cell? W _ h1
    have hbl : Below W.heap.size W (W.alloc (.cells #[] 3)) := (Below.refl _ _).alloc (Nat.le_refl _) _
    rw [e0, hbl.cell (p := ⟨b, o + j, none⟩) hlt, h1]
    simp [hj] at hu
    rw [← hu]; simp [hj]
  have HC2 := Go.Lib.hid hc2
  clear hc hc2
  go_enter Try.func155, Try.ntmps155
  go_wp2_with (at_builtin; refine wpList_append_own _ rfl _ _ 29 rfl W.heap.size 3 i0 (.int .i64 0) 1 8 Try.underlying29 hi hz0 hz1 hz2 rfl (by decide) (.slice (some ⟨W.heap.size, 0, none⟩) 0 0) 0 [] rfl ho0 ⟨b, o, none⟩ n cap (vals zs) rfl (by rw [vals_len, hl, Nat.mul_one]) HC2.out (ints_oneCell .i64 zs) (by unfold maxLen; omega) (by omega) (by simp) ?_; intro v' w3 hown' hgrow3 hnil3)
  have hb' : Below W.heap.size W w3 := ((Below.refl _ _).alloc (Nat.le_refl _) _).grown hgrow3 (by simp) (fun q hq => (ho0.lt q hq).1)
  have hne : v' ≠ .slice none 0 0 := fun e => by have := (hnil3.1 e).1; cases this
  rw [Nat.zero_add, List.nil_append] at hown'
  obtain ⟨g, c, rfl⟩ : ∃ g c, v' = .slice (some ⟨g, 0, none⟩) n c := by
    rcases hown'.2 with ⟨h0, _⟩ | ⟨g, c, cur, hv, _⟩
    · exact absurd h0 hne
    · exact ⟨g, c, hv⟩
  have H3 := Go.Lib.hid (And.intro hown' hb')
  clear hown' hgrow3 hnil3 ho0 hb' hne
  go_wp2
  go_ret
  exact ⟨_, _, rfl, H3.out.1, H3.out.2⟩

theorem own_drop_cells {w : World} {base g n cap : Nat} {ty : TypeId} {zs : List Int} (h : w.ownsRow base ty 1 (.slice (some ⟨g, 0, none⟩) n cap) n (vals zs)) (i : Nat) : ∀ j u, (vals (zs.drop i))[j]? = some u → w.cell? ((⟨g, i, none⟩ : Addr).add j) = some u := by
  intro j u hu
  have hl : zs.length = n := by simpa using h.1
  have hj : i + j < zs.length := by have := (List.getElem?_eq_some_iff.1 hu).1; simp at this; omega
  have e0 : (⟨g, i, none⟩ : Addr).add j = ⟨g, i + j, none⟩ := by unfold Addr.add; split <;> simp_all
  rw [e0, h.cellAt (i + j) (by omega)]
  simp at hu ⊢
  exact hu

end Go.Proofs.Ytecbfoodkcgehab.Own1C

/-
  Contracts: the model and the program tell the shape of a list. Conditions: the list can be read and has at most 2^20 numbers.
-/
namespace Go.Proofs.Ytecbfoodkcgehab.ShapeC
open Go.RowKit SeesC IntsC ExactC OrdMath InC OrderC PatMath

theorem drawn_own {w w' : World} {B size n : Nat} {ty : TypeId} {v : Value} {xs : List Value} (h : Drawn w w') (ho : w.ownsRow B ty size v n xs) : w'.ownsRow B ty size v n xs := by
  obtain ⟨m, rfl⟩ := h; exact ho

theorem getD_el {zs : List Int} {j : Nat} (h : j < zs.length) : zs.getD j 0 = zs[j] := by simp [h]

theorem cl_step {zs : List Int} {j : Nat} (z x : Int) (h : j < zs.length) (hx : zs.getD j 0 = x) : cl z (zs.take (j + 1)) = cl z (zs.take j) + (if x < z then 1 else 0) := by
  rw [cl_next h, ← hx, getD_el h]

set_option maxRecDepth 100000 in
set_option maxHeartbeats 2000000 in
theorem l3Shape_any (zs : List Int) (W : World) (v : Value) (n : Nat) (hn : n ≤ 1000) (hv : Sees W v n (vals zs)) :
    Calls Try.prog 176 #[v] W fun e w' => ∃ u, e = .returned u ∧ w'.ownsRow W.heap.size 3 1 u n (vals (shp zs)) ∧ Below W.heap.size W w' := by
  obtain ⟨i0, hi, hz0, hz1, hz2⟩ := info_parts infoI
  have HVB := Go.Lib.hid (fun hp => hv.lt hp)
  obtain ⟨hlen, a, cap, rfl, hcap, hc⟩ := hv
  simp at hlen
  have HC := Go.Lib.hid hc
  clear hc
  go_enter Try.func176, Try.ntmps176
  go_wp2
  go_loopw [3, 4] (fun ov iv wr => ∃ (k g c : Nat), k ≤ n ∧ iv = .int .i64 k ∧ ov = .slice (some ⟨g, 0, none⟩) k c ∧ wr.ownsRow W.heap.size 3 1 (.slice (some ⟨g, 0, none⟩) k c) k (vals ((shp zs).take k)) ∧ Below W.heap.size W wr) (fun _ i _ => n - (intOf i).toNat)
  case atStart => exact ⟨0, W.heap.size, 0, Nat.zero_le _, rfl, rfl, by simpa using World.ownsRow_made (base := W.heap.size) (e := 3) (size := 1) W #[] 0 (Nat.le_refl _) (by unfold maxLen; omega) rfl, (Below.refl _ _).alloc (Nat.le_refl _) _⟩
  case round =>
    obtain ⟨i, g, c, hk, rfl, rfl, hown, hb⟩ := hrel
    by_cases hlt : i < n
    · obtain ⟨b, o, rfl, hcell⟩ := HC.out (by omega)
      have hbl := HVB.out (by omega) b rfl
      have HCC : Hid (∀ j, j < zs.length → wr.cell? ⟨b, o + j, none⟩ = some (.int .i64 (zs.getD j 0))) := Go.Lib.hid (fun j hj => (hb.cell (p := ⟨b, o + j, none⟩) hbl).trans (hcell j _ (by simp [hj])))
      have HS := Go.Lib.hid (And.intro hown hb)
      have hlti : (i : Int) < (n : Int) := by omega
      obtain ⟨z, hz⟩ : ∃ z, zs.getD i 0 = z := ⟨_, rfl⟩
      have HZ := Go.Lib.hid hz
      clear hcell hown hb hz
      obtain ⟨wo, rfl⟩ : ∃ wo, wo = wr := ⟨_, rfl⟩
      go_wp2
      go_loopw [5, 6] (fun xv kv w2 => ∃ (j l : Nat), j ≤ n ∧ kv = .int .i64 j ∧ xv = .int .i64 ((1 + l : Nat) : Int) ∧ l ≤ j ∧ Hid (l = cl z (zs.take j)) ∧ Drawn wo w2) (fun _ k _ => n - (intOf k).toNat)
      case atStart => exact ⟨0, 0, Nat.zero_le _, rfl, rfl, Nat.le_refl _, Go.Lib.hid (by simp [cl]), Drawn.refl _⟩
      case round =>
        obtain ⟨j, l, hj, rfl, rfl, hlj, HLL, HD2⟩ := hrel
        by_cases hlt2 : j < n
        · have hck : wr.cell? ⟨b, o + j, none⟩ = some (.int .i64 (zs.getD j 0)) := (HD2.cell _).trans (HCC.out j (by omega))
          have hck1 : wr.cell? ⟨b, o + i, none⟩ = some (.int .i64 z) := (HD2.cell _).trans (by rw [HCC.out i (by omega), HZ.out])
          obtain ⟨x, hx⟩ : ∃ x, zs.getD j 0 = x := ⟨_, rfl⟩
          have HN : Hid (cl z (zs.take (j + 1)) = l + (if x < z then 1 else 0)) := Go.Lib.hid (by rw [cl_step z x (by omega) hx, HLL.out])
          rw [hx] at hck
          have hki : (j : Int) < (n : Int) := by omega
          clear hx
          by_cases hxz : x < z
          · rw [if_pos hxz] at HN
            go_wp2
            go_quiet (fail)
            go_wp2
            go_roundw
            case rel => exact ⟨j + 1, l + 1, by omega, by go_num, by rw [← Nat.add_assoc]; go_num, by omega, Go.Lib.hid HN.out.symm, HD2.next _⟩
            case measure => simp [intOf]; omega
          · rw [if_neg hxz] at HN
            go_wp2
            go_quiet (fail)
            go_wp2
            go_roundw
            case rel => exact ⟨j + 1, l, by omega, by go_num, rfl, by omega, Go.Lib.hid (by rw [HN.out]; rfl), HD2.next _⟩
            case measure => simp [intOf]; omega
        · have HE : Hid (vals ((shp zs).take (i + 1)) = vals ((shp zs).take i) ++ [.int .i64 ((1 + l : Nat) : Int)]) := Go.Lib.hid (take_next (by rw [shp_len]; omega) (by rw [shp_at (by omega), HZ.out, HLL.out, List.take_of_length_le (by omega)]; omega))
          have hown := drawn_own HD2 HS.out.1
          have hb := HS.out.2.trans (HD2.below _)
          have hl1 : l ≤ 1000 := by omega
          obtain ⟨y, hy⟩ : ∃ y : Int, ((1 + l : Nat) : Int) = y := ⟨_, rfl⟩
          rw [hy] at HE ⊢
          clear hy
          go_wp2_with (at_builtin; refine wpList_append_own _ rfl _ _ 29 rfl W.heap.size 3 i0 (.int .i64 0) 1 8 Try.underlying29 hi hz0 hz1 hz2 rfl (by decide) _ _ _ rfl (hown.alloc _) ⟨wr.heap.size, 0, none⟩ 1 1 [.int .i64 y] rfl rfl (cell_one_new _ _ _) (fun x hx => by simp at hx; subst hx; rfl) (by unfold maxLen; omega) (by omega) (by have := hb.size; simp; omega) ?_; intro v' w3 hown' hgrow3 hnil3)
          obtain ⟨g', cap', rfl⟩ := ownsRow_succ hown'
          rw [← HE.out] at hown'
          have hb' : Below W.heap.size W w3 := (hb.alloc hb.size _).grown hgrow3 (by have := hb.size; simp; omega) (fun q hq => (hown.lt q hq).1)
          have H3 := Go.Lib.hid (And.intro hown' hb')
          clear hown' hgrow3 hnil3 hown hb hb'
          go_wp2
          go_roundw
          case rel => exact ⟨i + 1, g', cap', by omega, by go_num, rfl, H3.out.1, H3.out.2⟩
          case measure => simp [intOf] <;> omega
    · have hkn : i = n := by omega
      subst hkn
      have e1 : (shp zs).take i = shp zs := List.take_of_length_le (by rw [shp_len]; omega)
      rw [e1] at hown
      have H3 := Go.Lib.hid (And.intro hown hb)
      clear hown hb e1
      go_wp2
      go_ret
      exact ⟨_, rfl, H3.out.1, H3.out.2⟩

/-- What the program has filled in so far. -/
def filled (zs : List Int) (k n : Nat) : List Int := (shp zs).take k ++ List.replicate (n - k) 0

theorem filled_len {zs : List Int} {k n : Nat} (hl : zs.length = n) (hk : k ≤ n) : (filled zs k n).length = n := by
  simp [filled, shp_len]; omega

theorem filled_next {zs : List Int} {k n : Nat} {y : Int} (hl : zs.length = n) (hk : k < n) (hy : (shp zs).getD k 0 = y) : (filled zs k n).set k y = filled zs (k + 1) n := by
  have h1 : k < (shp zs).length := by rw [shp_len]; omega
  have h2 := set_next (shp zs) 0 n k h1 (by rw [shp_len]; exact hl)
  rw [← getD_el h1, hy] at h2
  exact h2

theorem made_filled (zs : List Int) (n : Nat) : (madeCells (Value.int .i64 0).cells (n * 1)).toList = vals (filled zs 0 n) := by
  rw [made_int]; simp [filled]

set_option maxRecDepth 100000 in
set_option maxHeartbeats 4000000 in
theorem implShape_any (zs : List Int) (W : World) (v : Value) (n : Nat) (hn : n ≤ 1000) (hv : Sees W v n (vals zs)) :
    Calls Try.prog 122 #[v] W fun e w' => ∃ u, e = .returned u ∧ w'.ownsRow W.heap.size 3 1 u n (vals (shp zs)) ∧ Below W.heap.size W w' := by
  obtain ⟨i0, hi, hz0, hz1, hz2⟩ := info_parts infoI
  have HVB := Go.Lib.hid (fun hp => hv.lt hp)
  obtain ⟨hlen, a, cap, rfl, hcap, hc⟩ := hv
  simp at hlen
  have HC := Go.Lib.hid hc
  have hgb : W.heap.size ≤ W.heap.size := Nat.le_refl _
  clear hc
  go_enter Try.func122, Try.ntmps122
  go_wp2_with (at_make; refine wpList_make_full _ rfl _ _ 29 rfl W.heap.size 3 i0 (.int .i64 0) 1 Try.underlying29 hi hz0 hz1 .i64 .i64 n n n rfl rfl rfl rfl (by rw [hz2]; omega) (by unfold maxLen; omega) (Nat.le_refl _) ?_; intro w2 hown1 hgrow1; clear hi hz0 hz1 hz2)
  rw [made_filled zs n] at hown1
  have hb1 : Below W.heap.size W w2 := (Below.refl _ _).grown hgrow1 (Nat.le_refl _) (fun k hk => by cases hk)
  clear hgrow1
  go_loopw [13] (fun iv wr => ∃ (k : Nat), k ≤ n ∧ iv = .int .i64 k ∧ wr.ownsRow W.heap.size 3 1 (.slice (some ⟨W.heap.size, 0, none⟩) n n) n (vals (filled zs k n)) ∧ Below W.heap.size W wr) (fun i _ => n - (intOf i).toNat)
  case atStart => exact ⟨0, Nat.zero_le _, rfl, hown1, hb1⟩
  case round =>
    obtain ⟨k, hk, rfl, hown, hb⟩ := hrel
    clear hown1 hb1
    by_cases hlt : k < n
    · obtain ⟨b, o, rfl, hcell⟩ := HC.out (by omega)
      have hbl := HVB.out (by omega) b rfl
      have HCC : Hid (∀ (w3 : World), Below W.heap.size W w3 → ∀ j, j < zs.length → w3.cell? ⟨b, o + j, none⟩ = some (.int .i64 (zs.getD j 0))) := Go.Lib.hid (fun w3 hb3 j hj => (hb3.cell (p := ⟨b, o + j, none⟩) hbl).trans (hcell j _ (by simp [hj])))
      obtain ⟨z, hz⟩ : ∃ z, zs.getD k 0 = z := ⟨_, rfl⟩
      have HZ := Go.Lib.hid hz
      have hck : wr.cell? ⟨b, o + k, none⟩ = some (.int .i64 z) := by rw [HCC.out wr hb k (by omega), HZ.out]
      have hst := hown.stored k (.int .i64 1)
      have e2 : (vals (filled zs k n)).set k (.int .i64 1) = vals ((filled zs k n).set k ((1 + 0 : Nat) : Int)) := by simp [List.map_set]
      rw [e2] at hst
      have hdc := hown.cellAt k (by omega)
      have hf := hown.frozenAt k
      obtain ⟨u, hu⟩ : ∃ u, wr.cell? ⟨W.heap.size, k, none⟩ = some u := ⟨_, hdc.trans (List.getElem?_eq_getElem (by rw [vals_len, filled_len hlen hk]; omega))⟩
      have HS := Go.Lib.hid (And.intro hst.1 (hb.setCell (p := ⟨W.heap.size, k, none⟩) hgb (.int .i64 1)))
      have hlti : (k : Int) < (n : Int) := by omega
      have hk0 : (0 : Int) ≤ (k : Int) := by omega
      clear hst e2 hdc hb hown hz hcell
      go_wp2
      go_loopw [23] (fun iv w3 => ∃ (j l : Nat), j ≤ n ∧ iv = .int .i64 j ∧ l ≤ j ∧ Hid (l = cl z (zs.take j)) ∧ w3.ownsRow W.heap.size 3 1 (.slice (some ⟨W.heap.size, 0, none⟩) n n) n (vals ((filled zs k n).set k ((1 + l : Nat) : Int))) ∧ Below W.heap.size W w3) (fun i _ => n - (intOf i).toNat)
      case atStart => exact ⟨0, 0, Nat.zero_le _, rfl, Nat.le_refl _, Go.Lib.hid (by simp [cl]), HS.out.1, HS.out.2⟩
      case round =>
        obtain ⟨j, l, hj, rfl, hlj, HLL, hown3, hb3⟩ := hrel
        clear HS
        by_cases hlt2 : j < n
        · have hckj : wr.cell? ⟨b, o + j, none⟩ = some (.int .i64 (zs.getD j 0)) := HCC.out wr hb3 j (by omega)
          obtain ⟨x, hx⟩ : ∃ x, zs.getD j 0 = x := ⟨_, rfl⟩
          have HN : Hid (cl z (zs.take (j + 1)) = l + (if x < z then 1 else 0)) := Go.Lib.hid (by rw [cl_step z x (by omega) hx, HLL.out])
          rw [hx] at hckj
          have hki : (j : Int) < (n : Int) := by omega
          clear hx
          by_cases hxz : x < z
          · rw [if_pos hxz] at HN
            have hd3 := hown3.cellAt k (by omega)
            have hd4 : (vals ((filled zs k n).set k ((1 + l : Nat) : Int)))[k]? = some (.int .i64 ((1 + l : Nat) : Int)) := by
              simp [filled_len hlen hk, hlt]
            rw [hd4] at hd3
            have hf3 := hown3.frozenAt k
            obtain ⟨y, hy⟩ : ∃ y : Int, ((1 + l : Nat) : Int) = y := ⟨_, rfl⟩
            have hy2 : (0 : Int) ≤ y ∧ y ≤ 2000 := by omega
            have hst := hown3.stored k (.int .i64 (y + 1))
            have e2 : (vals ((filled zs k n).set k ((1 + l : Nat) : Int))).set k (.int .i64 (y + 1)) = vals ((filled zs k n).set k ((1 + (l + 1) : Nat) : Int)) := by
              have e3 : y + 1 = ((1 + (l + 1) : Nat) : Int) := by omega
              simp only [vals, List.map_set, List.set_set, e3]
            rw [e2] at hst
            rw [hy] at hd3
            have HS := Go.Lib.hid (And.intro hst.1 (hb3.setCell (p := ⟨W.heap.size, k, none⟩) hgb (.int .i64 (y + 1))))
            clear hst e2 hd4 hy hown3 hb3
            go_wp2
            go_roundw
            case rel => exact ⟨j + 1, l + 1, by omega, by go_num, by omega, Go.Lib.hid HN.out.symm, HS.out.1, HS.out.2⟩
            case measure => simp [intOf] <;> omega
          · rw [if_neg hxz] at HN
            have HS := Go.Lib.hid (And.intro hown3 hb3)
            clear hown3 hb3
            go_wp2
            go_roundw
            case rel => exact ⟨j + 1, l, by omega, by go_num, by omega, Go.Lib.hid (by rw [HN.out]; rfl), HS.out.1, HS.out.2⟩
            case measure => simp [intOf] <;> omega
        · have e4 := filled_next (zs := zs) (k := k) (n := n) (y := ((1 + l : Nat) : Int)) hlen hlt (by rw [shp_at (by omega), HZ.out, HLL.out, List.take_of_length_le (by omega)]; omega)
          rw [e4] at hown3
          have HS := Go.Lib.hid (And.intro hown3 hb3)
          clear hown3 hb3 e4
          go_wp2
          go_roundw
          case rel => exact ⟨k + 1, by omega, by go_num, HS.out.1, HS.out.2⟩
          case measure => simp [intOf] <;> omega
    · have hkn : k = n := by omega
      subst hkn
      have e1 : filled zs k k = shp zs := by unfold filled; rw [List.take_of_length_le (by rw [shp_len]; omega), Nat.sub_self]; simp
      rw [e1] at hown
      have H3 := Go.Lib.hid (And.intro hown hb)
      clear hown hb e1
      go_wp2
      go_ret
      exact ⟨_, rfl, H3.out.1, H3.out.2⟩

set_option maxRecDepth 100000 in
set_option maxHeartbeats 2000000 in
theorem implShape (zs : List Int) (xs : List Int) (b : Bool) (h : shapeAns zs = (xs, b)) (hz : zs.length ≤ 1048576) (W : World) (v : Value) (n : Nat) (hv : Sees W v n (vals zs)) :
    Calls Try.prog 34 #[v] W fun e w' => ListTo W e w' xs b := by
  have hl : zs.length = n := by simpa using hv.1
  have hn : n ≤ 1048576 := by omega
  have HV := Go.Lib.hid hv
  unfold shapeAns at h
  by_cases h7 : n ≤ 7
  · have CS := Go.Lib.hid (implShape_any zs W v n (by omega) hv)
    obtain ⟨_, adr, cap, rfl, _, _⟩ := hv
    have hni : ¬ ((7 : Int) < (n : Int)) := by omega
    have HH := Go.Lib.hid h
    obtain ⟨r, hr⟩ : ∃ r, isOrd (shp zs) = r := ⟨_, rfl⟩
    have CO := Go.Lib.hid (fun W' u (hs : Sees W' u n (vals (shp zs))) => implOrder_any W' u n (shp zs) r hs hn hr)
    have HR := Go.Lib.hid hr
    clear h hr
    go_enter Try.func34, Try.ntmps34
    go_wp2_with fail
    refine (CS.out).mono ?_
    rintro e w1 ⟨u, rfl, ho, hb⟩
    have H1 := Go.Lib.hid (And.intro ho hb)
    clear ho hb
    go_wp2_with fail
    refine (CO.out _ _ (Sees.owns H1.out.1)).mono ?_
    rintro e w2 ⟨rfl, hb⟩
    have H2 := Go.Lib.hid (And.intro (kept_call H1.out.1 hb) (H1.out.2.trans (hb.mono H1.out.2.size)))
    clear hb
    cases r with
    | false =>
      have hno : ¬ Ord (shp zs) := of_decide_eq_false HR.out
      have h0 := HH.out
      rw [if_neg (fun h => hno ((shp_ord h.1 h.2.1).2 h.2.2))] at h0
      cases h0
      go_wp2_with fail
      go_ret2
      exact listTo_below H2.out.2 (listTo_none _ _)
    | true =>
      have ho : Ord (shp zs) := of_decide_eq_true HR.out
      have h0 := HH.out
      have h1 : 1 ≤ zs.length := by have := ho.1; rwa [shp_len] at this
      rw [if_pos ⟨h1, by omega, (shp_ord h1 (by omega)).1 ho⟩] at h0
      cases h0
      have hsl : (shp zs).length = n := by rw [shp_len, hl]
      go_wp2_with fail
      go_ret2
      exact ⟨_, rfl, by rw [hsl]; exact H2.out.1, H2.out.2⟩
  · rw [if_neg (fun h => by omega)] at h
    cases h
    obtain ⟨_, adr, cap, rfl, _, _⟩ := hv
    have hni : (7 : Int) < (n : Int) := by omega
    go_enter Try.func34, Try.ntmps34
    go_wp2
    go_ret2
    exact listTo_none _ _

end Go.Proofs.Ytecbfoodkcgehab.ShapeC

/-
  Contract: the program's lists of places, level by level. Conditions: at most 7 places of 7.
-/
namespace Go.Proofs.Ytecbfoodkcgehab.PlacesC
open Go.RowKit SeesC IntsC ExactC OrdMath InC OrderC PatMath ShapeC ListsC ListsEC ListsFC

/-- Places as values. -/
abbrev nv (q : List Nat) : List Value := vals (nat q)

theorem nv_len (q : List Nat) : (nv q).length = q.length := by simp [PatMath.nat]

theorem nv_snoc (b : List Nat) (p : Nat) : nv (b ++ [p]) = nv b ++ [.int .i64 (p : Int)] := by
  show List.map _ (List.map _ _) = List.map _ (List.map _ _) ++ _
  rw [List.map_append, List.map_append]; rfl

set_option maxRecDepth 100000 in
set_option maxHeartbeats 1000000 in
theorem behind_any (b : List Nat) (W : World) (v : Value) (l : Nat) (hl : b.length = l) (hl7 : l ≤ 7) (hb : ∀ p ∈ b, p < 1000) (hv : Sees W v l (nv b)) :
    Calls Try.prog 199 #[v] W fun e w' => e = .returned (.int .i64 ((behind b : Nat) : Int)) ∧ w' = W := by
  rcases List.eq_nil_or_concat b with rfl | ⟨ys, x, rfl⟩
  · have h0 : l = 0 := by rw [← hl]; rfl
    subst h0
    obtain ⟨_, adr, cap, rfl, _, _⟩ := hv
    go_enter Try.func199, Try.ntmps199
    go_wp2
    go_ret
    exact ⟨rfl, rfl⟩
  · rw [List.concat_eq_append] at hl hb hv ⊢
    obtain ⟨i, hi⟩ : ∃ i, ys.length = i := ⟨_, rfl⟩
    have hli : l = i + 1 := by rw [← hl, List.length_append, hi]; rfl
    subst hli
    obtain ⟨_, adr, cap, rfl, _, hc⟩ := hv
    obtain ⟨g, o, rfl, hcell⟩ := hc (by omega)
    have hck : W.cell? ⟨g, o + i, none⟩ = some (.int .i64 (x : Int)) := hcell i _ (by simp [PatMath.nat, hi])
    have hx : x < 1000 := hb x (by simp)
    have HB : Hid (behind (ys ++ [x]) = x + 1) := Go.Lib.hid (behind_snoc _ _)
    have he : (((i + 1 : Nat) : Int) == 0) = false := by rw [beq_eq_false_iff_ne]; omega
    have he2 : (((i : Int) + 1) == 0) = false := by rw [beq_eq_false_iff_ne]; omega
    rw [HB.out]
    clear hcell hc hb hl hi
    go_enter Try.func199, Try.ntmps199
    go_wp2
    go_ret
    exact ⟨by go_num, rfl⟩

theorem take_next_flat {α β : Type} {l : List α} {i : Nat} (h : i < l.length) (g : α → List β) : (l.take (i + 1)).flatMap g = (l.take i).flatMap g ++ g l[i] := by
  rw [List.take_succ_eq_append_getElem h, List.flatMap_append]; simp

theorem range_next (s j : Nat) : List.range' s (j + 1) = List.range' s j ++ [s + j] := by
  rw [List.range'_concat]; simp

theorem part_next (f : List Nat → Bool) (b : List Nat) (s j : Nat) : ((List.range' s (j + 1)).map (fun p => b ++ [p])).filter f = ((List.range' s j).map (fun p => b ++ [p])).filter f ++ (if f (b ++ [s + j]) = true then [b ++ [s + j]] else []) := by
  rw [range_next, List.map_append, List.filter_append]
  simp [List.filter_cons]

theorem lev_below {n c : Nat} {f : List Nat → Bool} : ∀ l, ∀ q ∈ lev n c f l, ∀ p ∈ q, p < n
  | 0, q, h, p, hp => by simp [lev] at h; subst h; simp at hp
  | l + 1, q, h, p, hp => by
    unfold lev at h
    rw [List.mem_flatMap] at h
    obtain ⟨b, hb, hq⟩ := h
    have ih := lev_below l b hb
    have hq := (List.mem_filter.1 hq).1
    unfold nexts at hq
    rw [List.mem_map] at hq
    obtain ⟨x, hx, rfl⟩ := hq
    rw [List.mem_range'_1] at hx
    rw [List.mem_append, List.mem_singleton] at hp
    rcases hp with hp | rfl
    · exact ih p hp
    · omega

set_option maxRecDepth 100000 in
set_option maxHeartbeats 8000000 in
theorem placeLists_any (n c : Nat) (hn : n ≤ 7) (hc7 : c ≤ 7) (fid : FuncId) (ex : Array Value) (f : List Nat → Bool) (W : World)
    (hcf : ∀ (args : Array Value) (w : World), Sem.run Try.prog (callFunc fid args) w = .ok (.enter fid args) w)
    (HF : ∀ (W' : World) (u : Value) (q : List Nat), Below W.heap.size W W' → 1 ≤ q.length → q.length ≤ c → (∀ p ∈ q, p < n) → Sees W' u q.length (nv q) →
      Calls Try.prog fid (#[u] ++ ex) W' fun e w' => e = .returned (.bool (f q)) ∧ Drawn W' w') :
    Calls Try.prog 173 #[.int .i64 n, .int .i64 c, .func (.func fid) #[] ex] W fun e w' => ∃ v, e = .returned v ∧ Lists w' W.heap.size c v ((lev n c f c).map nv) ∧ Below W.heap.size W w' := by
  obtain ⟨i0, hi, hz0, hz1, hz2⟩ := info_parts infoI
  obtain ⟨j0, hj, hy0, hy1, hy2⟩ := info_parts infoL
  have HFH := Go.Lib.hid HF
  have HCF := Go.Lib.hid hcf
  clear hcf
  have HS := Go.Lib.hid (lists_start W)
  clear HF
  go_enter Try.func173, Try.ntmps173
  go_wp2
  go_loopw [7, 18] (fun lv iv wr => ∃ (l g cp N : Nat), l ≤ c ∧ iv = .int .i64 l ∧ lv = .slice (some ⟨g, 0, none⟩) N cp ∧ Hid (N = (lev n c f l).length ∧ Lists wr W.heap.size l (.slice (some ⟨g, 0, none⟩) N cp) ((lev n c f l).map nv) ∧ Below W.heap.size W wr)) (fun _ i _ => c - (intOf i).toNat)
  case atStart => exact ⟨0, W.heap.size + 1, 1, 1, Nat.zero_le _, rfl, by simp, Go.Lib.hid ⟨rfl, HS.out.1, HS.out.2⟩⟩
  case round =>
    obtain ⟨l, g, cp, N, hl, rfl, rfl, HL⟩ := hrel
    clear HS
    by_cases hlt : l < c
    · obtain ⟨wl, rfl⟩ : ∃ wl, wl = wr := ⟨_, rfl⟩
      have hlti : (l : Int) < (c : Int) := by omega
      have HB0 : Hid (Lists (wl.alloc (.cells #[] 29)) wl.heap.size (l + 1) (.slice (some ⟨wl.heap.size, 0, none⟩) 0 0) ([] : List (List Value))) := Go.Lib.hid ⟨[], rfl, World.ownsRow_made (base := wl.heap.size) (e := 29) (size := 1) wl #[] 0 (Nat.le_refl _) (by unfold maxLen; omega) rfl, fun i hi => absurd hi (by simp), by simp, fun p hp => by simp at hp⟩
      have HB1 : Hid (Below wl.heap.size wl (wl.alloc (.cells #[] 29))) := Go.Lib.hid ((Below.refl _ _).alloc (Nat.le_refl _) _)
      have hNm : N ≤ 823543 := by rw [HL.out.1]; exact lev_823543 hn (by omega)
      go_wp2
      go_loopw [10, 29] (fun ov iv wr => ∃ (i g2 c2 N2 : Nat) (Y : List (List Nat)), i ≤ N ∧ iv = .int .i64 i ∧ ov = .slice (some ⟨g2, 0, none⟩) N2 c2 ∧ Hid (Y = ((lev n c f l).take i).flatMap (fun b => (nexts n (c - 1 - l) b).filter f)) ∧ Hid (N2 = Y.length ∧ Lists wr wl.heap.size (l + 1) (.slice (some ⟨g2, 0, none⟩) N2 c2) (Y.map nv) ∧ Below wl.heap.size wl wr)) (fun _ i _ => N - (intOf i).toNat)
      case atStart => exact ⟨0, wl.heap.size, 0, 0, [], Nat.zero_le _, rfl, rfl, Go.Lib.hid (by simp), Go.Lib.hid ⟨rfl, HB0.out, HB1.out⟩⟩
      case round =>
        obtain ⟨i, g2, c2, N2, Y0, hiN, rfl, rfl, HY0, HX0⟩ := hrel
        clear HB0 HB1
        by_cases hlt2 : i < N
        · have hil : i < (lev n c f l).length := by rw [← HL.out.1]; exact hlt2
          obtain ⟨b, hb⟩ : ∃ b, (lev n c f l)[i] = b := ⟨_, rfl⟩
          have hbm : b ∈ lev n c f l := by rw [← hb]; exact List.getElem_mem _
          have hbl : b.length = l := lev_len l b hbm
          have hbn : ∀ p ∈ b, p < n := lev_below l b hbm
          obtain ⟨gs, hg, hog, hin, hnd, hne⟩ := (HL.out.2.1.kept HX0.out.2.2)
          rw [List.length_map, ← HL.out.1] at hg hog hin
          obtain ⟨p, hp⟩ : ∃ p, gs.getD i (0, 0) = p := ⟨_, rfl⟩
          have hob := hin i hlt2
          have hgd : ((lev n c f l).map nv).getD i [] = nv b := by rw [← hb]; simp [hil]
          rw [hp, hgd] at hob
          have hck : wr.cell? ⟨g, i, none⟩ = some (.slice (some ⟨p.1, 0, none⟩) l p.2) := by
            rw [hog.cellAt i (by omega)]
            rw [← hp] 
            simp [show i < gs.length by omega, sl]
          obtain ⟨wi, rfl⟩ : ∃ wi, wi = wr := ⟨_, rfl⟩
          have CB := Go.Lib.hid (behind_any b wi _ l hbl (by omega) (fun q hq => by have := hbn q hq; omega) (Sees.owns hob))
          unfold sl at CB hob
          have HOB := Go.Lib.hid (And.intro hob (And.intro hbl (And.intro hbn (Exists.intro hil hb : ∃ h : i < (lev n c f l).length, (lev n c f l)[i] = b))))
          have hpc : l ≤ p.2 := by
            rcases hob.2 with ⟨h0, _⟩ | ⟨_, _, _, h0, _, _, h1, _⟩
            · cases h0
            · cases h0; exact h1
          obtain ⟨bh, hbh⟩ : ∃ bh, behind b = bh := ⟨_, rfl⟩
          have HBH := Go.Lib.hid hbh
          have hbh8 : bh ≤ 8 := by
            rw [← hbh]; unfold behind
            cases h : b.getLast? with
            | none => exact Nat.zero_le _
            | some x => have := hbn x (List.mem_of_getLast? h); show x + 1 ≤ 8; omega
          rw [hbh] at CB
          obtain ⟨m, hm⟩ : ∃ m, n - (c - 1 - l) - bh = m := ⟨_, rfl⟩
          have HM := Go.Lib.hid hm
          have hm7 : m ≤ 7 := by omega
          obtain ⟨p1, p2⟩ := p
          simp only at hck CB HOB hpc
          have hY0 : Y0.length ≤ 7 * 823543 := by
            rw [HY0.out]
            have h1 := flat_len (g := fun b => (nexts n (c - 1 - l) b).filter f) (m := 7) (l := (lev n c f l).take i) (fun b _ => by
              have h1 := List.length_filter_le f (nexts n (c - 1 - l) b)
              have h2 := nexts_len n (c - 1 - l) b
              omega)
            have h2 : ((lev n c f l).take i).length ≤ 823543 := by rw [List.length_take]; omega
            omega
          have hiNi : (i : Int) < (N : Int) := by omega
          clear hb hbm hbl hbn hg hog hin hnd hne hp hob hgd hbh hm hil
          go_wp2_with fail
          refine (CB.out).mono ?_
          rintro e _ ⟨rfl, rfl⟩
          go_wp2_with fail
          go_loopw [10, 13] (fun ov pv wr => ∃ (j g3 c3 N3 : Nat) (Y : List (List Nat)), j ≤ m ∧ pv = .int .i64 ((bh + j : Nat) : Int) ∧ ov = .slice (some ⟨g3, 0, none⟩) N3 c3 ∧ Hid (Y = Y0 ++ ((List.range' bh j).map (fun p => b ++ [p])).filter f) ∧ Hid (N3 = Y.length ∧ Lists wr wl.heap.size (l + 1) (.slice (some ⟨g3, 0, none⟩) N3 c3) (Y.map nv) ∧ Below wl.heap.size wl wr ∧ wr.ownsRow W.heap.size 3 1 (.slice (some ⟨p1, 0, none⟩) l p2) l (nv b))) (fun _ p _ => bh + m - (intOf p).toNat)
          case atStart => exact ⟨0, g2, c2, N2, Y0, Nat.zero_le _, rfl, rfl, Go.Lib.hid (by simp), Go.Lib.hid ⟨HX0.out.1, HX0.out.2.1, HX0.out.2.2, HOB.out.1⟩⟩
          case round =>
            obtain ⟨j, g3, c3, N3, Y, hjm, rfl, rfl, HY, HX⟩ := hrel
            by_cases hlt3 : j < m
            · obtain ⟨pp, hpp⟩ : ∃ pp, bh + j = pp := ⟨_, rfl⟩
              have hcond : (pp : Int) ≤ (n : Int) - (c : Int) + (l : Int) := by have := HM.out; omega
              have hppn : pp < n := by have := HM.out; omega
              rw [hpp]
              have HPP := Go.Lib.hid hpp
              have hN3 : N3 ≤ 8 * 823543 := by
                rw [HX.out.1, HY.out, List.length_append]
                have h1 := List.length_filter_le f ((List.range' bh j).map (fun p => b ++ [p]))
                simp at h1
                omega
              obtain ⟨gs, hg, hog, hin, hnd, hne⟩ := HX.out.2.1
              rw [List.length_map, ← HX.out.1] at hg hog hin
              have HG := Go.Lib.hid (And.intro hg (And.intro hog (And.intro hin hnd)))
              obtain ⟨wj, rfl⟩ : ∃ wj, wj = wr := ⟨_, rfl⟩
              have HA : Hid (Below wl.heap.size wl (wj.alloc (.cells #[.int .i64 (pp : Int)] 3)) ∧ (wj.alloc (.cells #[.int .i64 (pp : Int)] 3)).ownsRow W.heap.size 3 1 (.slice (some ⟨p1, 0, none⟩) l p2) l (nv b) ∧ Below wj.heap.size wj (wj.alloc (.cells #[.int .i64 (pp : Int)] 3))) := Go.Lib.hid ⟨HX.out.2.2.1.alloc HX.out.2.2.1.size _, HX.out.2.2.2.alloc _, (Below.refl _ _).alloc (Nat.le_refl _) _⟩
              have hbl : (nv b).length = l * 1 := by rw [nv_len, HOB.out.2.1, Nat.mul_one]
              have HBL := Go.Lib.hid hbl
              clear hpp hg hog hin hnd hne hbl
              go_wp2_with (at_builtin; refine wpList_append_grows _ rfl _ _ 29 rfl 3 i0 (.int .i64 0) 1 8 Try.underlying29 hi hz0 hz1 hz2 rfl (by decide) (some ⟨p1, 0, none⟩) l l (nv b) rfl (fun h => by cases h) HBL.out (fun b' e j u hu => by cases e; exact HA.out.2.1.cells (g := p1) rfl j u hu) ⟨wj.heap.size, 0, none⟩ 1 1 [.int .i64 (pp : Int)] rfl rfl (cell_one_new _ _ _) (fun x hx => by simp at hx; subst hx; rfl) (by omega) (by unfold maxLen; omega) (by omega) ?_; intro v' w3 hown3 hgrow3)
              obtain ⟨gu, cu, rfl⟩ := ownsRow_succ hown3
              rw [← nv_snoc] at hown3
              have hwjl := HX.out.2.2.1.size
              have hb3 : Below wj.heap.size wj w3 := HA.out.2.2.grown hgrow3 (by simp) (fun k hk => by cases hk)
              have hb3l : Below wl.heap.size wl w3 := HX.out.2.2.1.trans (hb3.mono hwjl)
              have hql : (b ++ [pp]).length = l + 1 := by rw [List.length_append, HOB.out.2.1]; rfl
              have hu3 := own_lower hown3 (base' := wj.heap.size) (by simp)
              have CF := Go.Lib.hid (HFH.out w3 (.slice (some ⟨gu, 0, none⟩) (l + 1) cu) (b ++ [pp]) (HL.out.2.2.trans (hb3l.mono HL.out.2.2.size)) (by omega) (by omega) (fun x hx => by
                rw [List.mem_append, List.mem_singleton] at hx
                rcases hx with hx | rfl
                · exact HOB.out.2.2.1 x hx
                · exact hppn) (by rw [hql]; exact Sees.owns hu3))
              have H3 := Go.Lib.hid (And.intro hu3 (And.intro hb3 hb3l))
              clear hown3 hgrow3 hb3 hb3l hu3 HA
              obtain ⟨r, hr⟩ : ∃ r, f (b ++ [pp]) = r := ⟨_, rfl⟩
              rw [hr] at CF
              have HR := Go.Lib.hid hr
              clear hr
              go_wp2_with fail
              rw [HCF.out, Oper.upon_enter]
              refine (CF.out).mono ?_
              rintro e w4 ⟨rfl, hd4⟩
              have hd4b := hd4.below w3.heap.size
              have HB4 := Go.Lib.hid (And.intro (H3.out.2.2.trans (hd4.below _)) (And.intro (kept_call H3.out.1 hd4b) (H3.out.2.1.trans (hd4.below _))))
              clear hd4 hd4b
              cases r with
              | true =>
                have hsz4 := HB4.out.1.size
                have hba : Below wl.heap.size wl (w4.alloc (.cells #[.slice (some ⟨gu, 0, none⟩) (l + 1) cu] 29)) := HB4.out.1.alloc hsz4 _
                have hbj : Below wj.heap.size wj (w4.alloc (.cells #[.slice (some ⟨gu, 0, none⟩) (l + 1) cu] 29)) := HB4.out.2.2.alloc (HB4.out.2.2.size) _
                have HX4 := Go.Lib.hid (And.intro (kept_call HG.out.2.1 hbj) (And.intro (fun i (hi : i < N3) => kept_call (HG.out.2.2.1 i hi) hbj) (And.intro (HB4.out.2.1.alloc (.cells #[.slice (some ⟨gu, 0, none⟩) (l + 1) cu] 29)) (And.intro hba (kept_call HX.out.2.2.2 hbj)))))
                clear hba hbj
                go_wp2_with (at_builtin; refine wpList_append_own _ rfl _ _ 24 rfl wl.heap.size 29 j0 (.slice none 0 0) 1 24 Try.underlying24 hj hy0 hy1 hy2 rfl (by decide) (.slice (some ⟨g3, 0, none⟩) N3 c3) N3 (gs.map (sl (l + 1))) rfl HX4.out.1 ⟨w4.heap.size, 0, none⟩ 1 1 [.slice (some ⟨gu, 0, none⟩) (l + 1) cu] rfl rfl (cell_one_new _ _ _) (fun x hx => by simp at hx; subst hx; rfl) (by unfold maxLen; omega) (by omega) (by simp; omega) ?_; intro v' w5 hown5 hgrow5 hnil5)
                obtain ⟨g5, c5, rfl⟩ := ownsRow_succ hown5
                have hL5 : Lists w5 wl.heap.size (l + 1) (.slice (some ⟨g5, 0, none⟩) (N3 + 1) c5) (Y.map nv ++ [nv (b ++ [pp])]) :=
                  lists_snoc (p := (gu, cu)) (by rw [List.length_map, ← HX.out.1]) HG.out.1 HX4.out.1 HX4.out.2.1 HG.out.2.2.2 (own_lower HX4.out.2.2.1 hwjl) (fun i hi => by
                    have h1 := own_block_lt (HG.out.2.2.1 i hi) (q := (gs.getD i (0, 0)).1) rfl
                    have h2 := own_block_lt H3.out.1 (q := gu) rfl
                    show (gs.getD i (0, 0)).1 ≠ gu
                    omega) hown5 hgrow5
                have hob5 := own_mark HX4.out.2.2.2.2 hgrow5 (fun a ha e => own_types HX4.out.1 HX4.out.2.2.2.2 (by decide) e ha)
                have hb5 : Below wl.heap.size wl w5 := HX4.out.2.2.2.1.grown hgrow5 (by simp; omega) (fun q hq => (HX4.out.1.lt q hq).1)
                have HY5 : Hid (Y ++ [b ++ [pp]] = Y0 ++ ((List.range' bh (j + 1)).map (fun p => b ++ [p])).filter f) := Go.Lib.hid (by
                  rw [part_next, HPP.out, HR.out, if_pos rfl, ← List.append_assoc, HY.out])
                have e6 : Y.map nv ++ [nv (b ++ [pp])] = (Y ++ [b ++ [pp]]).map nv := by simp
                rw [e6] at hL5
                have H5 : Hid (N3 + 1 = (Y ++ [b ++ [pp]]).length ∧ Lists w5 wl.heap.size (l + 1) (.slice (some ⟨g5, 0, none⟩) (N3 + 1) c5) ((Y ++ [b ++ [pp]]).map nv) ∧ Below wl.heap.size wl w5 ∧ w5.ownsRow W.heap.size 3 1 (.slice (some ⟨p1, 0, none⟩) l p2) l (nv b)) := Go.Lib.hid ⟨by rw [List.length_append, ← HX.out.1]; rfl, hL5, hb5, hob5⟩
                clear hown5 hgrow5 hnil5 hL5 hob5 hb5 e6 hsz4
                go_wp2
                go_roundw
                case rel => exact ⟨j + 1, g5, c5, N3 + 1, _, by omega, by rw [← Nat.add_assoc, HPP.out]; go_num, rfl, HY5, H5⟩
                case measure => simp [intOf]; have := HPP.out; omega
              | false =>
                have HY5 : Hid (Y = Y0 ++ ((List.range' bh (j + 1)).map (fun p => b ++ [p])).filter f) := Go.Lib.hid (by
                  rw [part_next, HPP.out, HR.out, if_neg (by simp), List.append_nil, HY.out])
                have H5 : Hid (N3 = Y.length ∧ Lists w4 wl.heap.size (l + 1) (.slice (some ⟨g3, 0, none⟩) N3 c3) (Y.map nv) ∧ Below wl.heap.size wl w4 ∧ w4.ownsRow W.heap.size 3 1 (.slice (some ⟨p1, 0, none⟩) l p2) l (nv b)) := Go.Lib.hid ⟨HX.out.1, HX.out.2.1.kept HB4.out.2.2, HB4.out.1, kept_call HX.out.2.2.2 HB4.out.2.2⟩
                go_wp2
                go_roundw
                case rel => exact ⟨j + 1, g3, c3, N3, _, by omega, by rw [← Nat.add_assoc, HPP.out]; go_num, rfl, HY5, H5⟩
                case measure => simp [intOf]; have := HPP.out; omega
            · have hjm2 : j = m := by omega
              obtain ⟨pp, hpp⟩ : ∃ pp, bh + j = pp := ⟨_, rfl⟩
              have hcond : ¬ (pp : Int) ≤ (n : Int) - (c : Int) + (l : Int) := by have := HM.out; omega
              rw [hpp]
              have HYN : Hid (Y = ((lev n c f l).take (i + 1)).flatMap (fun b => (nexts n (c - 1 - l) b).filter f)) := Go.Lib.hid (by
                obtain ⟨hil, hb⟩ := HOB.out.2.2.2
                rw [take_next_flat hil, hb, ← HY0.out, HY.out]
                congr 1
                unfold nexts
                rw [HBH.out, HM.out, hjm2])
              have H5 : Hid (N3 = Y.length ∧ Lists wr wl.heap.size (l + 1) (.slice (some ⟨g3, 0, none⟩) N3 c3) (Y.map nv) ∧ Below wl.heap.size wl wr) := Go.Lib.hid ⟨HX.out.1, HX.out.2.1, HX.out.2.2.1⟩
              clear hpp hjm2
              go_wp2
              go_roundw
              case rel => exact ⟨i + 1, g3, c3, N3, Y, by omega, by go_num, rfl, HYN, H5⟩
              case measure => simp [intOf]; omega
        · have hiN2 : i = N := by omega
          have HYN : Hid (Y0 = lev n c f (l + 1)) := Go.Lib.hid (by
            rw [HY0.out, List.take_of_length_le (by rw [← HL.out.1]; omega)]; rfl)
          have H5 : Hid (N2 = (lev n c f (l + 1)).length ∧ Lists wr W.heap.size (l + 1) (.slice (some ⟨g2, 0, none⟩) N2 c2) ((lev n c f (l + 1)).map nv) ∧ Below W.heap.size W wr) := Go.Lib.hid (by
            rw [← HYN.out]
            exact ⟨HX0.out.1, HX0.out.2.1.lower HL.out.2.2.size, HL.out.2.2.trans (HX0.out.2.2.mono HL.out.2.2.size)⟩)
          clear hiN2
          go_wp2
          go_roundw
          case rel => exact ⟨l + 1, g2, c2, N2, by omega, by go_num, rfl, H5⟩
          case measure => simp [intOf]; omega
    · have hlc : l = c := by omega
      subst hlc
      go_wp2
      go_ret
      exact ⟨_, rfl, HL.out.2.1, HL.out.2.2⟩

end Go.Proofs.Ytecbfoodkcgehab.PlacesC

/-
  Contracts: the model's comparison of lists, its copies, its numbers at places. Conditions: lists of at most 1000 numbers.
-/
namespace Go.Proofs.Ytecbfoodkcgehab.SameC
open Go.RowKit SeesC IntsC ExactC OrdMath InC OrderC PatMath ShapeC PlacesC Own1C AppendTwoC

theorem sees_heap {w w' : World} (h : w'.heap = w.heap) {v : Value} {n : Nat} {xs : List Value} (hs : Sees w v n xs) : Sees w' v n xs := by
  obtain ⟨h1, a, cap, rfl, h3, h2⟩ := hs
  refine ⟨h1, a, cap, rfl, h3, fun hn => ?_⟩
  obtain ⟨b, o, rfl, hc⟩ := h2 hn
  refine ⟨b, o, rfl, fun j u hu => ?_⟩
  have := hc j u hu
  unfold World.cell? at this ⊢
  rw [h]; exact this

theorem take_all_eq {xs ys : List Int} {n : Nat} (hx : xs.length = n) (hy : ys.length = n) (h : xs.take n = ys.take n) : xs = ys := by
  rwa [List.take_of_length_le (by omega), List.take_of_length_le (by omega)] at h

set_option maxRecDepth 100000 in
set_option maxHeartbeats 1000000 in
theorem l1Same_any (xs ys : List Int) (r : Bool) (W : World) (v : Value) (n : Nat) (hv : Sees W v n (vals xs)) (u : Value) (hu : Sees W u n (vals ys)) (hn : n ≤ 1048576) (hr : decide (xs = ys) = r) :
    Calls Try.prog 156 #[v, u] W fun e w' => e = .returned (.bool r) ∧ Drawn W w' := by
  have hlx : xs.length = n := by simpa using hv.1
  have hly : ys.length = n := by simpa using hu.1
  obtain ⟨_, a, cap, rfl, _, hc⟩ := hv
  obtain ⟨_, a2, cap2, rfl, _, hc2⟩ := hu
  have HA := Go.Lib.hid hc
  have HB := Go.Lib.hid hc2
  have HR := Go.Lib.hid hr
  clear hc hc2 hr
  go_enter Try.func156, Try.ntmps156
  go_wp2
  go_loopw [5] (fun i wr => ∃ k : Nat, k ≤ n ∧ i = .int .i64 k ∧ Hid (xs.take k = ys.take k) ∧ Drawn W wr) (fun i _ => n - (intOf i).toNat)
  case atStart => exact ⟨0, Nat.zero_le _, rfl, Go.Lib.hid rfl, Drawn.refl _⟩
  case round =>
    obtain ⟨k, hk, rfl, HC, HD⟩ := hrel
    by_cases hlt : k < n
    · obtain ⟨b, o, rfl, hcell⟩ := HA.out (by omega)
      obtain ⟨b2, o2, rfl, hcell2⟩ := HB.out (by omega)
      have hck : wr.cell? ⟨b, o + k, none⟩ = some (.int .i64 (xs.getD k 0)) := (HD.cell _).trans (hcell k _ (by simp [show k < xs.length by omega]))
      have hck2 : wr.cell? ⟨b2, o2 + k, none⟩ = some (.int .i64 (ys.getD k 0)) := (HD.cell _).trans (hcell2 k _ (by simp [show k < ys.length by omega]))
      obtain ⟨x, hx⟩ : ∃ x, xs.getD k 0 = x := ⟨_, rfl⟩
      obtain ⟨y, hy⟩ : ∃ y, ys.getD k 0 = y := ⟨_, rfl⟩
      rw [hx] at hck
      rw [hy] at hck2
      have hlti : (k : Int) < (n : Int) := by omega
      have ex : xs[k]'(by omega) = x := by rw [← hx]; simp [show k < xs.length by omega]
      have ey : ys[k]'(by omega) = y := by rw [← hy]; simp [show k < ys.length by omega]
      by_cases he : x = y
      · subst he
        have HR2 : Hid (xs.take (k + 1) = ys.take (k + 1)) := Go.Lib.hid (by
          rw [List.take_succ_eq_append_getElem (by omega), List.take_succ_eq_append_getElem (by omega), HC.out, ex, ey])
        clear hx hy ex ey hcell hcell2
        go_wp2
        go_quiet (fail)
        go_wp2
        go_roundw
        case rel => exact ⟨k + 1, by omega, by go_num, HR2, HD.next _⟩
        case measure => simp [intOf]; omega
      · have hbne : (x == y) = false := by rw [beq_eq_false_iff_ne]; exact he
        have hbne2 : (x != y) = true := by simp [bne, hbne]
        have HR2 : Hid (r = false) := Go.Lib.hid (by
          rw [← HR.out, decide_eq_false_iff_not]
          intro e
          subst e
          exact he (ex.symm.trans ey))
        clear hx hy ex ey hcell hcell2
        go_wp2
        go_quiet (fail)
        go_wp2
        go_ret
        exact ⟨by rw [HR2.out]; rfl, HD.next _⟩
    · have HR2 : Hid (r = true) := Go.Lib.hid (by
        rw [← HR.out, decide_eq_true_iff]
        have h1 := HC.out
        rw [show k = n by omega] at h1
        exact take_all_eq hlx hly h1)
      go_wp2
      go_ret
      exact ⟨by rw [HR2.out]; rfl, HD⟩

theorem l1Own_at (xs : List Int) (g l cp : Nat) (w X : World) (hl7 : l ≤ 1000) (hs : Sees w (.slice (some ⟨g, 0, none⟩) l cp) l (vals xs)) (hX : Below w.heap.size w X) :
    Calls Try.prog 155 #[.slice (some ⟨g, 0, none⟩) l cp] X fun e w' => ∃ g3 c3, e = .returned (.slice (some ⟨g3, 0, none⟩) l c3) ∧ w'.ownsRow w.heap.size 3 1 (.slice (some ⟨g3, 0, none⟩) l c3) l (vals xs) ∧ Below w.heap.size w w' := by
  have hx := hs.grow hX
  have hl : xs.length = l := by simpa using hx.1
  refine (l1Own_any xs g 0 l cp X hl (by omega) (fun j hj => ?_)).mono ?_
  · obtain ⟨_, a, cap, e, _, hc⟩ := hx
    cases e
    obtain ⟨b, o, e, hcell⟩ := hc (by omega)
    cases e
    exact hcell j _ (by simp [hj])
  · rintro e w' ⟨g3, c3, rfl, ho, hb⟩
    exact ⟨g3, c3, rfl, own_lower ho hX.size, hX.trans (hb.mono hX.size)⟩

theorem pick_take_next {zs : List Int} {q : List Nat} {i p : Nat} (hi : i < q.length) (hp : q.getD i 0 = p) : (vals ((pick zs q).take (i + 1))) = vals ((pick zs q).take i) ++ [.int .i64 (zs.getD p 0)] :=
  take_next (by rw [pick_len]; exact hi) (by rw [pick_at hi, hp])

set_option maxRecDepth 100000 in
set_option maxHeartbeats 2000000 in
theorem l3At_any (zs : List Int) (q : List Nat) (W : World) (v u : Value) (n m : Nat) (hv : Sees W v n (vals zs)) (hu : Sees W u m (nv q)) (hn : n ≤ 1000) (hm : m ≤ 1000) (hq : ∀ p ∈ q, p < n) :
    Calls Try.prog 177 #[v, u] W fun e w' => ∃ g c, e = .returned (.slice (some ⟨g, 0, none⟩) m c) ∧ w'.ownsRow W.heap.size 3 1 (.slice (some ⟨g, 0, none⟩) m c) m (vals (pick zs q)) ∧ Below W.heap.size W w' := by
  obtain ⟨i0, hi, hz0, hz1, hz2⟩ := info_parts infoI
  have HVB := Go.Lib.hid (fun hp => hv.lt hp)
  have HUB := Go.Lib.hid (fun hp => hu.lt hp)
  have hlz : zs.length = n := by simpa using hv.1
  have hlq : q.length = m := by have := hu.1; rwa [nv_len] at this
  obtain ⟨_, a, cap, rfl, _, hc⟩ := hv
  obtain ⟨_, a2, cap2, rfl, _, hc2⟩ := hu
  have HC := Go.Lib.hid hc
  have HC2 := Go.Lib.hid hc2
  have HQ := Go.Lib.hid hq
  clear hc hc2 hq
  go_enter Try.func177, Try.ntmps177
  go_wp2
  go_loopw [5, 6] (fun ov iv wr => ∃ (i g c : Nat), i ≤ m ∧ iv = .int .i64 i ∧ ov = .slice (some ⟨g, 0, none⟩) i c ∧ wr.ownsRow W.heap.size 3 1 (.slice (some ⟨g, 0, none⟩) i c) i (vals ((pick zs q).take i)) ∧ Below W.heap.size W wr) (fun _ i _ => m - (intOf i).toNat)
  case atStart => exact ⟨0, W.heap.size, 0, Nat.zero_le _, rfl, rfl, by simpa using World.ownsRow_made (base := W.heap.size) (e := 3) (size := 1) W #[] 0 (Nat.le_refl _) (by unfold maxLen; omega) rfl, (Below.refl _ _).alloc (Nat.le_refl _) _⟩
  case round =>
    obtain ⟨i, g, c, hk, rfl, rfl, hown, hb⟩ := hrel
    by_cases hlt : i < m
    · obtain ⟨p, hp⟩ : ∃ p, q.getD i 0 = p := ⟨_, rfl⟩
      have hpm : p ∈ q := by
        rw [← hp]
        have e1 : q.getD i 0 = q[i]'(by omega) := by simp [show i < q.length by omega]
        rw [e1]; exact List.getElem_mem _
      have hpn := HQ.out p hpm
      obtain ⟨b, o, rfl, hcell⟩ := HC.out (by omega)
      obtain ⟨b2, o2, rfl, hcell2⟩ := HC2.out (by omega)
      have hbl := HVB.out (by omega) b rfl
      have hbl2 := HUB.out (by omega) b2 rfl
      obtain ⟨x, hx⟩ : ∃ x, zs.getD p 0 = x := ⟨_, rfl⟩
      have hck : wr.cell? ⟨b, o + p, none⟩ = some (.int .i64 x) := (hb.cell (p := ⟨b, o + p, none⟩) hbl).trans (hcell p _ (by rw [← hx]; simp [show p < zs.length by omega]))
      have hck2 : wr.cell? ⟨b2, o2 + i, none⟩ = some (.int .i64 (p : Int)) := (hb.cell (p := ⟨b2, o2 + i, none⟩) hbl2).trans (hcell2 i _ (by
        have e1 : q[i]'(by omega) = p := by rw [← hp]; simp [show i < q.length by omega]
        show (List.map _ (List.map _ q))[i]? = _
        simp [show i < q.length by omega, e1]))
      have HE : Hid (vals ((pick zs q).take (i + 1)) = vals ((pick zs q).take i) ++ [.int .i64 x]) := Go.Lib.hid (by rw [pick_take_next (by omega) hp, hx])
      have hlti : (i : Int) < (m : Int) := by omega
      have hpni : (p : Int) < (n : Int) := by omega
      clear hcell hcell2 hp hpm hx
      go_wp2_with (at_builtin; refine wpList_append_own _ rfl _ _ 29 rfl W.heap.size 3 i0 (.int .i64 0) 1 8 Try.underlying29 hi hz0 hz1 hz2 rfl (by decide) _ _ _ rfl (hown.alloc _) ⟨wr.heap.size, 0, none⟩ 1 1 [.int .i64 x] rfl rfl (cell_one_new _ _ _) (fun x hx => by simp at hx; subst hx; rfl) (by unfold maxLen; omega) (by omega) (by have := hb.size; simp; omega) ?_; intro v' w3 hown' hgrow3 hnil3)
      obtain ⟨g', cap', rfl⟩ := ownsRow_succ hown'
      rw [← HE.out] at hown'
      have hb' : Below W.heap.size W w3 := (hb.alloc hb.size _).grown hgrow3 (by have := hb.size; simp; omega) (fun q hq => (hown.lt q hq).1)
      have H3 := Go.Lib.hid (And.intro hown' hb')
      clear hown' hgrow3 hnil3 hown hb hb'
      go_wp2
      go_roundw
      case rel => exact ⟨i + 1, g', cap', by omega, by go_num, rfl, H3.out.1, H3.out.2⟩
      case measure => simp [intOf] <;> omega
    · have hkn : i = m := by omega
      subst hkn
      have e1 : (pick zs q).take i = pick zs q := List.take_of_length_le (by rw [pick_len]; omega)
      rw [e1] at hown
      have H3 := Go.Lib.hid (And.intro hown hb)
      clear hown hb e1
      go_wp2
      go_ret
      exact ⟨_, _, rfl, H3.out.1, H3.out.2⟩

variable {P : Program} (w : World)

theorem wpList_append_two {ops : Array Oper} {rest : List Oper} {o : Oper} {a : Act} {Q : Exit → Act → World → Prop}
    (hg : o.guard = none) (s x : Operand) (t : TypeId) (hop : o.op = Op.call { callee := Callee.builtin Builtin.append, args := #[s, x], argTypes := #[t, t] })
    (base : Nat) (e : TypeId) (i : TypeInfo) (z : Value) (size bytes : Nat) (h1 : P.underlying t = some (.slice e)) (h2 : P.info? e = some i) (h3 : i.zero = some z) (h4 : i.size = size) (h5 : i.bytes = bytes) (h6 : z.cells.size = size) (h7 : 0 < size)
    (v : Value) (k : Nat) (xs : List Value) (hs : a.eval s = v) (hown : w.ownsRow base e size v k xs) (ad : Addr) (m c : Nat) (news : List Value) (hx : a.eval x = .slice (some ad) m c) (hn : news.length = m * size)
    (hc : ∀ j u, news[j]? = some u → w.cell? (ad.add j) = some u) (h1c : ∀ u ∈ news, u.oneCell' = true) (b1 : k + m ≤ maxLen) (b2 : (k + m) * bytes ≤ 140737488355328) (b3 : base ≤ w.heap.size)
    (hK : ∀ v' w', w'.ownsRow base e size v' (k + m) (xs ++ news) → w.grownBy w' v.ownBlock → NewRow w v v' → wpList P ops Q rest (a.put o.dst v') w') :
    wpList P ops Q (o :: rest) a w := by
  refine wpList_plain hg fun K hK' => ?_
  obtain ⟨v', w', hrun, r1, r2, r3⟩ := run_append_two (P := P) w base t o.type e i z size bytes h1 h2 h3 h4 h5 h6 h7 v k xs hown ad m c news hn hc h1c b1 b2 b3
  unfold Oper.wp
  simp [execOp, hop, resolve, invoke, builtin, hs, hx, hrun, Result.andThen]
  exact hK' _ _ (hK v' w' r1 r2 r3)

end Go.Proofs.Ytecbfoodkcgehab.SameC

/-
  Contracts: CountSweeps of the model and of the program. Conditions: lists of at most 2^20 numbers.
-/
namespace Go.Proofs.Ytecbfoodkcgehab.SweepsC
open Go.RowKit SeesC IntsC ExactC NumC IterC OrdMath WordMath OrdFacts InC OrderC WordC RunC AtC EndsM SweepM StackM SweepWC SweepIC SameC

theorem sorted_iff {zs : List Int} (h : Ord zs) : (∀ i, i < zs.toArray.size - 1 → decide (zs.toArray[i + 1]! < zs.toArray[i]!) = false) ↔ zs = iota zs.length := by
  have hget : ∀ i, i < zs.length → zs.toArray[i]! = zs.getD i 0 := by
    intro i hi
    rw [getElem!_pos zs.toArray i (by simpa using hi)]
    simp [hi]
  constructor
  · intro hs
    refine sorted_is (ord_perm h) ?_
    have step : ∀ m i, i + m < zs.length → zs.getD i 0 ≤ zs.getD (i + m) 0 := by
      intro m
      induction m with
      | zero => intro i _; exact Int.le_refl _
      | succ m ih =>
        intro i hi
        have h1 := ih i (by omega)
        have h2 := of_decide_eq_false (hs (i + m) (by simp; omega))
        rw [hget (i + m + 1) (by omega), hget (i + m) (by omega)] at h2
        have e : i + (m + 1) = i + m + 1 := rfl
        rw [e]
        omega
    rw [List.pairwise_iff_getElem]
    intro i j hi hj hij
    have h1 := step (j - i) i (by omega)
    rw [show i + (j - i) = j by omega] at h1
    have h2 : zs[i] ≠ zs[j] := fun e => by have := (List.getElem_inj h.2.2.2).1 e; omega
    have e1 : zs.getD i 0 = zs[i] := by simp [hi]
    have e2 : zs.getD j 0 = zs[j] := by simp [hj]
    rw [e1, e2] at h1
    omega
  · intro e i hi
    have hi2 : i + 1 < zs.length := by simp at hi; omega
    rw [decide_eq_false_iff_not, hget (i + 1) hi2, hget i (by omega), e, iota_getD hi2, iota_getD (by omega)]
    omega

theorem isSorted_any (zs : List Int) (hord : Ord zs) (r : Bool) (hr : decide (zs = iota zs.length) = r) (W : World) (v : Value) (n : Nat) (hv : Sees W v n (vals zs)) :
    Calls Try.prog 186 #[v] W fun e w' => e = .returned (.bool r) ∧ ∃ q, w' = W.drewN q := by
  have hl : zs.length = n := by simpa using hv.1
  have h7 := hord.2.1
  obtain ⟨b, o, cap, rfl, _, _, hbl, hcell⟩ := sees_cells hv (by have := hord.1; omega)
  have hsz : zs.toArray.size = n := by simpa using hl
  have h1 := AnyO.slices_IsSorted_int Try.laysIS b o cap zs.toArray W (fun i hi => by
    have hi2 : i < zs.length := by simpa using hi
    rw [hcell i hi2, getElem!_pos zs.toArray i hi]
    simp [hi2]) (by omega)
  have e : Lib.downOK (fun x y => decide (x < y)) zs.toArray (zs.toArray.size - 1) = r := by
    rw [← hr, Bool.eq_iff_iff, Lib.downOK_iff, decide_eq_true_iff]
    exact sorted_iff hord
  rw [e] at h1
  rw [hsz] at h1
  exact h1

end Go.Proofs.Ytecbfoodkcgehab.SweepsC

/-
  Contract: the program counts how many times a step has to be made until an order is sorted. Conditions: the step makes orders of orders, and sorts after so many times.
-/
namespace Go.Proofs.Ytecbfoodkcgehab.UntilC
open Go.RowKit SeesC IntsC ExactC IterC OrdMath OrderC OrdFacts SweepsC

/-- What a step does. -/
def StepTo (stepf : List Int → List Int) (fid : FuncId) : Prop :=
  ∀ (ys : List Int), Ord ys → ∀ (W : World) (v : Value) (n : Nat), Sees W v n (vals ys) →
    Calls Try.prog fid #[v] W fun e w' => ∃ g c, e = .returned (.slice (some ⟨g, 0, none⟩) n c) ∧ w'.ownsRow W.heap.size 3 1 (.slice (some ⟨g, 0, none⟩) n c) n (vals (stepf ys)) ∧ Below W.heap.size W w'

set_option maxRecDepth 100000 in
set_option maxHeartbeats 2000000 in
theorem until_any (stepf : List Int → List Int) (fid : FuncId) (hcf : ∀ (args : Array Value) (w : World), Sem.run Try.prog (callFunc fid args) w = .ok (.enter fid args) w) (HF : StepTo stepf fid) (N : Nat → List Int) (n M : Nat) (hstep : ∀ k, N (k + 1) = stepf (N k)) (hordN : ∀ k, Ord (N k)) (hlenN : ∀ k, (N k).length = n)
    (hM7 : M ≤ 1000) (hM : N M = iota n ∧ ∀ j, j < M → N j ≠ iota n) (W : World) (v : Value) (hv : Sees W v n (vals (N 0))) :
    Calls Try.prog 136 #[v, .func (.func fid) #[] #[]] W fun e w' => e = .returned (.int .i64 (M : Int)) ∧ Below W.heap.size W w' := by
  have hn7 : n ≤ 7 := by have := (hordN 0).2.1; have := hlenN 0; omega
  have hn1 : 1 ≤ n := by have := (hordN 0).1; have := hlenN 0; omega
  have HMI := Go.Lib.hid hM
  have HST := Go.Lib.hid hstep
  have HORD := Go.Lib.hid hordN
  have HLEN := Go.Lib.hid hlenN
  have HFH := Go.Lib.hid HF
  have HCF := Go.Lib.hid hcf
  have HV := Go.Lib.hid hv
  obtain ⟨_, ad, cap, rfl, _, _⟩ := hv
  clear hM hstep hordN hlenN HF hcf
  go_enter Try.func136, Try.ntmps136
  go_wp2_with fail
  go_loopw [0, 5] (fun nv mv wr => ∃ (k c : Nat) (a : Option Addr), mv = .int .i64 k ∧ nv = .slice a n c ∧ k ≤ M ∧ Hid (Sees wr (.slice a n c) n (vals (N k)) ∧ Below W.heap.size W wr)) (fun _ mv _ => M - (intOf mv).toNat)
  case atStart => exact ⟨0, cap, ad, rfl, rfl, Nat.zero_le _, Go.Lib.hid ⟨HV.out, Below.refl _ _⟩⟩
  case round =>
    obtain ⟨k, c, a, rfl, rfl, hk, HK⟩ := hrel
    obtain ⟨r, hr⟩ : ∃ r, decide (N k = iota (N k).length) = r := ⟨_, rfl⟩
    have HRR := Go.Lib.hid hr
    go_wp2_with fail
    refine (isSorted_any (N k) (HORD.out k) r hr wr _ n HK.out.1).mono ?_
    rintro e w4 ⟨rfl, q, rfl⟩
    have H4 := Go.Lib.hid (And.intro (HK.out.1.grow (ExactC.below_drewN (q := q) (Below.refl wr.heap.size wr))) (ExactC.below_drewN (q := q) HK.out.2))
    obtain ⟨w4, hw4⟩ : ∃ w4, wr.drewN q = w4 := ⟨_, rfl⟩
    rw [hw4] at H4 ⊢
    clear hr hw4
    by_cases hkM : k < M
    · have hrf : r = false := by
        rw [← HRR.out, decide_eq_false_iff_not, HLEN.out k]
        exact HMI.out.2 k hkM
      subst hrf
      have CW := Go.Lib.hid (HFH.out (N k) (HORD.out k) w4 _ n H4.out.1)
      go_wp2_with fail
      rw [HCF.out, Oper.upon_enter]
      refine CW.out.mono ?_
      rintro e w5 ⟨g5, c5, rfl, ho, hb⟩
      have H5 : Hid (Sees w5 (.slice (some ⟨g5, 0, none⟩) n c5) n (vals (N (k + 1))) ∧ Below W.heap.size W w5) := Go.Lib.hid ⟨by rw [HST.out]; exact Sees.owns ho, H4.out.2.trans (hb.mono H4.out.2.size)⟩
      clear ho hb
      go_wp2
      go_roundw
      case rel => exact ⟨k + 1, c5, some ⟨g5, 0, none⟩, by go_num, rfl, by omega, H5⟩
      case measure => simp [intOf]; omega
    · have hkM2 : k = M := by omega
      subst hkM2
      have hrt : r = true := by
        rw [← HRR.out, decide_eq_true_iff, HLEN.out k]
        exact HMI.out.1
      subst hrt
      go_wp2_with fail
      go_ret
      exact ⟨rfl, H4.out.2⟩

end Go.Proofs.Ytecbfoodkcgehab.UntilC

/-
  Contracts: CountSweeps of the model and of the program. Conditions: lists of at most 2^20 numbers.
-/
namespace Go.Proofs.Ytecbfoodkcgehab.CountSwC
open Go.RowKit SeesC IntsC ExactC NumC IterC OrdMath WordMath InC OrderC OrdFacts WordC RunC AtC EndsM SweepM StackM SweepWC SweepIC SameC SweepsC UntilC

set_option maxRecDepth 100000 in
set_option maxHeartbeats 2000000 in
theorem specSweeps (zs : List Int) (r' : Int) (b : Bool) (h : sweepsAns zs = (r', b)) (hz : zs.length ≤ 1048576) (W : World) (v : Value) (n : Nat) (hv : Sees W v n (vals zs)) :
    Calls Try.prog 86 #[v] W fun e w' => e = .returned (.tuple #[.int .i64 r', .bool b]) ∧ Below W.heap.size W w' := by
  have hl : zs.length = n := by simpa using hv.1
  have hn : n ≤ 1048576 := by omega
  obtain ⟨r, hr⟩ : ∃ r, isOrd zs = r := ⟨_, rfl⟩
  have CO := Go.Lib.hid (fun W' (hs' : Sees W' v n (vals zs)) => l2Order_any W' v n zs r hs' hn hr)
  have HV := Go.Lib.hid hv
  unfold sweepsAns at h
  obtain ⟨_, ad, cap, rfl, _, _⟩ := hv
  cases r with
  | false =>
    rw [if_neg (by intro h1; unfold isOrd at hr; exact of_decide_eq_false hr h1)] at h
    cases h
    clear hr
    go_enter Try.func86, Try.ntmps86
    go_wp2_with fail
    refine (CO.out _ HV.out).mono ?_
    rintro e w1 ⟨rfl, hd⟩
    have HB1 : Hid (Below W.heap.size W w1) := Go.Lib.hid (hd.below W.heap.size)
    clear hd
    go_wp2_with fail
    go_ret2
    exact ⟨rfl, HB1.out⟩
  | true =>
    have hord : Ord zs := by unfold isOrd at hr; exact of_decide_eq_true hr
    have hn7 : n ≤ 7 := by have := hord.2.1; omega
    have hn1 : 1 ≤ n := by have := hord.1; omega
    rw [if_pos hord] at h
    cases h
    clear hr
    obtain ⟨M, hM⟩ : ∃ M, many zs = M := ⟨_, rfl⟩
    have hmi := many_is hord
    rw [hM] at hmi
    rw [hM]
    have HMI := Go.Lib.hid hmi
    have HORD := Go.Lib.hid (fun k => ord_swN hord k)
    have hM7 : M ≤ 7 := by omega
    clear hM hmi
    go_enter Try.func86, Try.ntmps86
    go_wp2_with fail
    refine (CO.out _ HV.out).mono ?_
    rintro e w1 ⟨rfl, hd⟩
    have HB1 : Hid (Below W.heap.size W w1) := Go.Lib.hid (hd.below W.heap.size)
    clear hd
    have HV1 := Go.Lib.hid (HV.out.grow HB1.out)
    obtain ⟨b, o, cap2, heq, _, _, hbl, hcell⟩ := sees_cells HV1.out (by omega)
    cases heq
    have HC := Go.Lib.hid hcell
    have CO := Go.Lib.hid (Own1C.l1Own_any zs b o n cap w1 hl (by omega) hcell)
    have CS := Go.Lib.hid (fun W' => l2Sorted_any n W' hn7)
    clear hcell
    go_wp2_with fail
    refine CO.out.mono ?_
    rintro e w2 ⟨g, c, rfl, ho, hb⟩
    have H2 := Go.Lib.hid (And.intro (own_lower ho HB1.out.size) (HB1.out.trans (hb.mono HB1.out.size)))
    clear ho hb
    go_wp2_with fail
    go_loopw [4, 5] (fun mv nv wr => ∃ (k g c : Nat), mv = .int .i64 k ∧ nv = .slice (some ⟨g, 0, none⟩) n c ∧ k ≤ M ∧ Hid (wr.ownsRow W.heap.size 3 1 (.slice (some ⟨g, 0, none⟩) n c) n (vals (swN zs k)) ∧ Below W.heap.size W wr)) (fun mv _ _ => M - (intOf mv).toNat)
    case atStart => exact ⟨0, g, c, rfl, rfl, Nat.zero_le _, H2⟩
    case round =>
      obtain ⟨k, g, c, rfl, rfl, hk, HK⟩ := hrel
      clear H2
      have HSL : Hid ((swN zs k).length = n) := Go.Lib.hid (by rw [swN_len, hl])
      obtain ⟨r, hr⟩ : ∃ r, decide (swN zs k = iota n) = r := ⟨_, rfl⟩
      have HRR := Go.Lib.hid hr
      go_wp2_with fail
      refine (CS.out _).mono ?_
      rintro e w3 ⟨g3, c3, rfl, ho, hb⟩
      have H3 := Go.Lib.hid (And.intro (kept_call HK.out.1 hb) (And.intro (HK.out.2.trans (hb.mono HK.out.2.size)) ho))
      clear ho hb
      go_wp2_with fail
      refine (l1Same_any (swN zs k) (iota n) r w3 _ n (Sees.owns H3.out.1) _ (Sees.owns H3.out.2.2) (by omega) hr).mono ?_
      rintro e w4 ⟨rfl, hd⟩
      have H4 := Go.Lib.hid (And.intro (kept_call H3.out.1 (hd.below w3.heap.size)) (H3.out.2.1.trans (hd.below _)))
      clear hd hr
      by_cases hkM : k < M
      · have hrf : r = false := by
          rw [← HRR.out, decide_eq_false_iff_not]
          have h1 := HMI.out.2.1 k hkM
          rw [hl] at h1
          exact h1
        subst hrf
        have CW := Go.Lib.hid (l4Sweep_any (swN zs k) (HORD.out k) w4 _ n (Sees.owns H4.out.1))
        go_wp2_with fail
        refine CW.out.mono ?_
        rintro e w5 ⟨u, rfl, ho, hb⟩
        have hsl : (sweepL (swN zs k)).length = n := by rw [sweep_len]; exact HSL.out
        rw [hsl] at ho
        obtain ⟨g5, c5, rfl⟩ := own_pos ho (by omega)
        have H5 : Hid (w5.ownsRow W.heap.size 3 1 (.slice (some ⟨g5, 0, none⟩) n c5) n (vals (swN zs (k + 1))) ∧ Below W.heap.size W w5) := Go.Lib.hid ⟨own_lower ho H4.out.2.size, H4.out.2.trans (hb.mono H4.out.2.size)⟩
        clear ho hb hsl
        go_wp2
        go_roundw
        case rel => exact ⟨k + 1, g5, c5, by go_num, rfl, by omega, H5⟩
        case measure => simp [intOf]; omega
      · have hkM2 : k = M := by omega
        subst hkM2
        have hrt : r = true := by
          rw [← HRR.out, decide_eq_true_iff]
          have h1 := HMI.out.1
          rw [hl] at h1
          exact h1
        subst hrt
        go_wp2_with fail
        go_ret2
        exact ⟨rfl, H4.out.2⟩

theorem sweepStep : StepTo sweepL 159 := fun ys ho W v n hv => (sweepOf_any ys ho W v n hv).mono fun e w' ⟨u, he, hown, hb⟩ => by
  have hl : ys.length = n := by simpa using hv.1
  have hs : (sweepL ys).length = n := by rw [sweep_len]; exact hl
  rw [hs] at hown
  obtain ⟨g, c, rfl⟩ := own_pos hown (by have := ho.1; omega)
  exact ⟨g, c, he, hown, hb⟩

set_option maxRecDepth 100000 in
theorem until_sweeps (zs : List Int) (hord : Ord zs) (W : World) (v : Value) (n : Nat) (hv : Sees W v n (vals zs)) :
    Calls Try.prog 136 #[v, .func (.func 159) #[] #[]] W fun e w' => e = .returned (.int .i64 ((many zs : Nat) : Int)) ∧ Below W.heap.size W w' := by
  have hl : zs.length = n := by simpa using hv.1
  have hm := many_is hord
  rw [hl] at hm
  exact until_any sweepL _ (fun _ _ => rfl) sweepStep (swN zs) n (many zs) (fun _ => rfl) (ord_swN hord) (fun k => by rw [swN_len, hl]) (by have := hord.2.1; omega) ⟨hm.1, hm.2.1⟩ W v hv

set_option maxRecDepth 100000 in
set_option maxHeartbeats 1000000 in
theorem implSweeps (zs : List Int) (r' : Int) (b : Bool) (h : sweepsAns zs = (r', b)) (hz : zs.length ≤ 1048576) (W : World) (v : Value) (n : Nat) (hv : Sees W v n (vals zs)) :
    Calls Try.prog 87 #[v] W fun e w' => e = .returned (.tuple #[.int .i64 r', .bool b]) ∧ Below W.heap.size W w' := by
  have hl : zs.length = n := by simpa using hv.1
  have hn : n ≤ 1048576 := by omega
  obtain ⟨r, hr⟩ : ∃ r, isOrd zs = r := ⟨_, rfl⟩
  have CO := Go.Lib.hid (fun W' (hs' : Sees W' v n (vals zs)) => implOrder_any W' v n zs r hs' hn hr)
  have HV := Go.Lib.hid hv
  unfold sweepsAns at h
  obtain ⟨_, ad, cap, rfl, _, _⟩ := hv
  cases r with
  | false =>
    rw [if_neg (by intro h1; unfold isOrd at hr; exact of_decide_eq_false hr h1)] at h
    cases h
    clear hr
    go_enter Try.func87, Try.ntmps87
    go_wp2_with fail
    refine (CO.out _ HV.out).mono ?_
    rintro e w1 ⟨rfl, hd⟩
    have HB1 : Hid (Below W.heap.size W w1) := Go.Lib.hid hd
    clear hd
    go_wp2_with fail
    go_ret2
    exact ⟨rfl, HB1.out⟩
  | true =>
    have hord : Ord zs := by unfold isOrd at hr; exact of_decide_eq_true hr
    rw [if_pos hord] at h
    cases h
    clear hr
    have CQ := Go.Lib.hid (fun W' (hs' : Sees W' (.slice ad n cap) n (vals zs)) => until_sweeps zs hord W' (.slice ad n cap) n hs')
    obtain ⟨M, hM⟩ : ∃ M, many zs = M := ⟨_, rfl⟩
    rw [hM] at CQ ⊢
    clear hM hl hn hz hord
    go_enter Try.func87, Try.ntmps87
    go_wp2_with fail
    refine (CO.out _ HV.out).mono ?_
    rintro e w1 ⟨rfl, hd⟩
    have HB1 : Hid (Below W.heap.size W w1) := Go.Lib.hid hd
    clear hd
    go_wp2_with fail
    refine (CQ.out _ (HV.out.grow HB1.out)).mono ?_
    rintro e w2 ⟨rfl, hb2⟩
    have H2 := Go.Lib.hid (HB1.out.trans (hb2.mono HB1.out.size))
    clear hb2
    go_wp2_with fail
    go_ret2
    exact ⟨rfl, H2.out⟩

end Go.Proofs.Ytecbfoodkcgehab.CountSwC

/-
  Maps from texts whose elements are slices: what they read as, and what is collected of them. Conditions: none. Plain facts.
-/
namespace Go.Proofs.Ytecbfoodkcgehab.MapRowsC
open Go Go.Maps

/-- The data of a map whose elements are told by their own values. -/
abbrev DV : Type := DataW Value

/-- The elements are among these values, each read as itself. -/
def IsR (V : List Value) (R : Value → Option (DV × List MemPlace)) : Prop :=
  (∀ v ∈ V, R v = some (.held v, [])) ∧ ∀ v z, R v = some z → v ∈ V ∧ z = (.held v, [])

theorem isR_ex (V : List Value) : ∃ R, IsR V R := by
  classical
  exact ⟨fun v => if v ∈ V then some (.held v, []) else none, fun v hv => by simp [hv], fun v z hz => by
    by_cases h : v ∈ V
    · simp only [h, if_true] at hz; exact ⟨h, (Option.some.inj hz).symm⟩
    · simp [h] at hz⟩

theorem IsR.sub {V V' : List Value} {R R' : Value → Option (DV × List MemPlace)} (h : IsR V R) (h' : IsR V' R') (hs : ∀ v ∈ V, v ∈ V') : ∀ v z, R v = some z → R' v = some z := by
  intro v z hz
  obtain ⟨hv, rfl⟩ := h.2 v z hz
  exact h'.1 v (hs v hv)

theorem owns_sub {P : Program} {k : TypeId} {R R' : Value → Option (DV × List MemPlace)} {w : World} {b n : Nat} {D : DV} (h : w.ownsMap P k R b n D) (hs : ∀ v z, R v = some z → R' v = some z) : w.ownsMap P k R' b n D := by
  obtain ⟨es, clock, hb, F, hn, rfl⟩ := h
  exact (World.ownsMap_of_fit hb F (fun x _ z hz => hs _ _ hz)).mono hn

/-- The entries, key by key. -/
def prs (ws : List ByteArray) (vs : List Value) (i : Nat) : List (Lit × DV) := (List.range i).map (fun j => (.string (ws.getD j ByteArray.empty).data.toList, .held (vs.getD j undef)))

theorem prs_next (ws : List ByteArray) (vs : List Value) (i : Nat) : prs ws vs (i + 1) = prs ws vs i ++ [(.string (ws.getD i ByteArray.empty).data.toList, .held (vs.getD i undef))] := by
  unfold prs; rw [List.range_succ, List.map_append]; rfl

theorem prs_snoc (ws : List ByteArray) (vs : List Value) (v : Value) (i : Nat) (h : i ≤ vs.length) : prs ws (vs ++ [v]) i = prs ws vs i := by
  unfold prs
  apply List.map_congr_left
  intro j hj
  rw [List.mem_range] at hj
  have e : (vs ++ [v]).getD j undef = vs.getD j undef := by
    rw [List.getD_eq_getElem?_getD, List.getElem?_append_left (by omega), ← List.getD_eq_getElem?_getD]
  rw [e]

theorem put_fresh {es : List (Lit × DV)} {x : List UInt8} {d : DV} (hnew : ∀ p ∈ es, p.1 ≠ .string x) : ∃ es', (DataW.map es).put (.string x) d = .map es' ∧ es'.Perm ((.string x, d) :: es) := by
  refine ⟨_, DataW.put_eq es _ d, ?_⟩
  unfold ChangeMaps.putKey
  have e : es.filter (ChangeMaps.notKey (.string x)) = es := List.filter_eq_self.2 (fun p hp => (notKey_iff (by trivial)).2 (hnew p hp))
  rw [e]
  exact WideShapes.insert_perm _ _

theorem perm_lift {α β : Type} {f : α → β} {a b : List β} (h : a.Perm b) : ∀ l : List α, b = l.map f → ∃ m : List α, m.Perm l ∧ a = m.map f := by
  induction h with
  | nil => intro l hl; exact ⟨l, List.Perm.refl _, hl⟩
  | cons x _ ih =>
    intro l hl
    cases l with
    | nil => simp at hl
    | cons y l =>
      simp only [List.map_cons, List.cons.injEq] at hl
      obtain ⟨m, hm, e⟩ := ih l hl.2
      exact ⟨y :: m, hm.cons y, by rw [List.map_cons, e, hl.1]⟩
  | swap x y t =>
    intro l hl
    match l, hl with
    | p :: q :: l, hl =>
      simp only [List.map_cons, List.cons.injEq] at hl
      exact ⟨q :: p :: l, List.Perm.swap _ _ _, by rw [List.map_cons, List.map_cons, hl.1, hl.2.1, hl.2.2]⟩
  | trans _ _ ih1 ih2 =>
    intro l hl
    obtain ⟨m, hm, e⟩ := ih2 l hl
    obtain ⟨m2, hm2, e2⟩ := ih1 m e
    exact ⟨m2, hm2.trans hm, e2⟩

/-- The value at a key. -/
def valAt (D : DV) (x : List UInt8) : Value := match D.atKey (.string x) .nil with | .held v => v | _ => undef

theorem collected_vals {ws : List ByteArray} {vs xs : List Value} {N : Nat} {es : List (Lit × DV)} {pd : Lit → DV → Bool} {ss : List (List UInt8)} (hw : ws.length = N) (hnd : ws.Nodup) (hp : es.Perm (prs ws vs N))
    (hs : ss.Perm (strKeys (Lib.deleteFuncD pd (.map es)))) (hx : xs = ss.map (valAt (Lib.deleteFuncD pd (.map es)))) :
    ∃ idx : List Nat, idx.Perm ((List.range N).filter (fun j => !pd (.string (ws.getD j ByteArray.empty).data.toList) (.held (vs.getD j undef)))) ∧ xs = idx.map (fun j => vs.getD j undef) := by
  obtain ⟨E, hE⟩ : ∃ E, es.filter (fun p => !pd p.1 p.2) = E := ⟨_, rfl⟩
  have hD : Lib.deleteFuncD pd (.map es) = .map E := by rw [← hE]; rfl
  rw [hD] at hs hx
  obtain ⟨I, hI⟩ : ∃ I, (List.range N).filter (fun j => !pd (.string (ws.getD j ByteArray.empty).data.toList) (.held (vs.getD j undef))) = I := ⟨_, rfl⟩
  rw [hI]
  have hEp : E.Perm (I.map (fun j => (Lit.string (ws.getD j ByteArray.empty).data.toList, DataW.held (vs.getD j undef)))) := by
    rw [← hE, ← hI]
    have h1 := hp.filter (fun p => !pd p.1 p.2)
    unfold prs at h1
    rw [List.filter_map] at h1
    exact h1
  have hIr : ∀ j ∈ I, j < N := fun j hj => by rw [← hI] at hj; exact List.mem_range.1 (List.mem_filter.1 hj).1
  have hIn : I.Nodup := by rw [← hI]; exact List.Pairwise.filter _ List.nodup_range
  have hinj : ∀ i j, i < N → j < N → (ws.getD i ByteArray.empty).data.toList = (ws.getD j ByteArray.empty).data.toList → i = j := by
    intro i j hi hj e
    have e2 : ws.getD i ByteArray.empty = ws.getD j ByteArray.empty := by
      cases h1 : ws.getD i ByteArray.empty; cases h2 : ws.getD j ByteArray.empty
      rw [h1, h2] at e
      simpa using e
    have e3 : ws[i]'(by omega) = ws[j]'(by omega) := by simpa [show i < ws.length by omega, show j < ws.length by omega] using e2
    exact (List.getElem_inj hnd).1 e3
  have hks : strKeys (DataW.map E) = E.map (fun p => strOf p.1) := rfl
  rw [hks] at hs
  have hs2 : ss.Perm (I.map (fun j => (ws.getD j ByteArray.empty).data.toList)) := by
    refine hs.trans ((hEp.map (fun p => strOf p.1)).trans ?_)
    rw [List.map_map]
    exact List.Perm.refl _
  obtain ⟨idx, hidx, hse⟩ := perm_lift hs2 I rfl
  refine ⟨idx, hidx, ?_⟩
  rw [hx, hse, List.map_map]
  apply List.map_congr_left
  intro j hj
  have hjI := hidx.mem_iff.1 hj
  have hm : ((Lit.string (ws.getD j ByteArray.empty).data.toList, DataW.held (vs.getD j undef)) : Lit × DV) ∈ E := hEp.mem_iff.2 (List.mem_map.2 ⟨j, hjI, rfl⟩)
  have hpw : E.Pairwise (fun p q => p.1 ≠ q.1) := by
    refine (List.Perm.pairwise_iff (fun h => Ne.symm h) hEp).2 ?_
    rw [List.pairwise_map]
    refine List.Pairwise.imp_of_mem ?_ hIn
    intro a c ha hc hac e
    exact hac (hinj a c (hIr a ha) (hIr c hc) (by simpa using e))
  have h1 := WideAt.atKey_mem (.nil : DV) (by trivial) hpw hm
  show valAt (.map E) _ = _
  unfold valAt
  rw [h1]

/-- No more is collected than there are keys. -/
theorem sub_len : ∀ {l m : List (List UInt8)}, l.Nodup → (∀ x ∈ l, x ∈ m) → l.length ≤ m.length
  | [], m, _, _ => by simp
  | a :: l, m, hn, hs => by
    have ha : a ∈ m := hs a (by simp)
    have hn2 := List.nodup_cons.1 hn
    have ih := sub_len (l := l) (m := m.erase a) hn2.2 (fun x hx => (List.mem_erase_of_ne (fun e => hn2.1 (by rw [← e]; exact hx))).2 (hs x (by simp [hx])))
    have h2 := List.length_erase_of_mem ha
    have h3 : 0 < m.length := List.length_pos_of_mem ha
    simp only [List.length_cons]
    omega

theorem has_keys {es : List (Lit × DV)} {x : List UInt8} (h : has (DataW.map es) (.string x) = true) : x ∈ strKeys (DataW.map es) := by
  rw [has_eq, List.any_eq_true] at h
  obtain ⟨p, hp, hs⟩ := h
  have e := WideAt.sameKey_eq hs
  exact List.mem_map.2 ⟨p, hp, by rw [e]; rfl⟩

theorem collected_len {es : List (Lit × DV)} {left : Lit → Bool} {ss : List (List UInt8)} {x : List UInt8} {y : DV} (h : Collected (DataW.map es) left ss) (hlk : left (.string x) = true) (hat : ∀ zd, (DataW.map es).atKey (.string x) zd = y) : ss.length < (strKeys (DataW.map es)).length := by
  have h2 := h.step hlk hat
  have h3 := sub_len h2.1 (m := strKeys (DataW.map es)) (fun z hz => has_keys ((h2.2 z).1 hz).1)
  rw [List.length_append] at h3
  simp at h3
  omega

end Go.Proofs.Ytecbfoodkcgehab.MapRowsC

/-
  Contract: the program's sorted order. Conditions: at most seven numbers.
-/
namespace Go.Proofs.Ytecbfoodkcgehab.SortedOrdC
open Go.RowKit SeesC IntsC ExactC OrdMath InC OrderC RankC IterC AtC

set_option maxRecDepth 100000 in
set_option maxHeartbeats 1000000 in
theorem sortedOrder_any (m : Nat) (W : World) (hm7 : m ≤ 7) :
    Calls Try.prog 150 #[.int .i64 m] W fun e w' => ∃ g c, e = .returned (.slice (some ⟨g, 0, none⟩) m c) ∧ w'.ownsRow W.heap.size 3 1 (.slice (some ⟨g, 0, none⟩) m c) m (vals (iota m)) ∧ Below W.heap.size W w' := by
  obtain ⟨i0, hi, hz0, hz1, hz2⟩ := info_parts infoI
  go_enter Try.func150, Try.ntmps150
  go_wp2_with (at_make; refine wpList_make_full _ rfl _ _ 29 rfl W.heap.size 3 i0 (.int .i64 0) 1 Try.underlying29 hi hz0 hz1 .i64 .i64 m m m rfl rfl rfl rfl (by rw [hz2]; omega) (by unfold maxLen; omega) (Nat.le_refl _) ?_; intro w1 hown1 hgrow1)
  have hz : (madeCells (Value.int .i64 0).cells (m * 1)).toList = vals ((iota m).take 0 ++ (List.replicate m 0).drop 0) := by rw [made_int]; simp
  rw [hz] at hown1
  have hb1 : Below W.heap.size W w1 := (Below.refl _ _).grown hgrow1 (Nat.le_refl _) (fun k hk => by cases hk)
  clear hz hgrow1
  go_loopw [9] (fun iv wr => ∃ (i : Nat), i ≤ m ∧ iv = .int .i64 i ∧ wr.ownsRow W.heap.size 3 1 (.slice (some ⟨W.heap.size, 0, none⟩) m m) m (vals ((iota m).take i ++ (List.replicate m 0).drop i)) ∧ Below W.heap.size W wr) (fun i _ => m - (intOf i).toNat)
  case atStart => exact ⟨0, Nat.zero_le _, rfl, hown1, hb1⟩
  case round =>
    obtain ⟨i, him, rfl, hown, hb⟩ := hrel
    clear hown1 hb1
    by_cases hlt : i < m
    · have hst := hown.stored i (.int .i64 ((i : Int) + 1))
      rw [put_next (L := iota m) (zs := List.replicate m 0) (by rw [iota_len]; simp) (by rw [iota_len]; exact hlt) (by rw [List.getD_eq_getElem?_getD, List.getElem?_eq_getElem (by rw [iota_len]; exact hlt), iota_at m i hlt]; rfl)] at hst
      have hdc := hown.cellAt i (by omega)
      have hfz := hown.frozenAt i
      obtain ⟨x, hx⟩ : ∃ x, wr.cell? ⟨W.heap.size, i, none⟩ = some x := ⟨_, hdc.trans (List.getElem?_eq_getElem (by rw [vals_len]; simp [iota_len]; omega))⟩
      have HS := Go.Lib.hid (And.intro hst.1 (hb.setCell (p := ⟨W.heap.size, i, none⟩) (Nat.le_refl _) (.int .i64 ((i : Int) + 1))))
      have hlti : (i : Int) < (m : Int) := by omega
      clear hst hdc hb hown
      go_wp2
      go_roundw
      case rel => exact ⟨i + 1, by omega, by go_num, HS.out.1, HS.out.2⟩
      case measure => simp [intOf] <;> omega
    · have hin : i = m := by omega
      subst hin
      have e1 : (iota i).take i ++ (List.replicate i 0).drop i = iota i := by rw [List.take_of_length_le (by rw [iota_len]; exact Nat.le_refl _), List.drop_of_length_le (by simp), List.append_nil]
      rw [e1] at hown
      have H := Go.Lib.hid (And.intro hown hb)
      clear hown hb
      go_wp2
      go_ret
      exact ⟨_, _, rfl, H.out.1, H.out.2⟩

end Go.Proofs.Ytecbfoodkcgehab.SortedOrdC

/-
  Contract: the program runs an order by a word in one line. Conditions: as the model's.
-/
namespace Go.Proofs.Ytecbfoodkcgehab.SignsC
open Go.RowKit SeesC IntsC ExactC NumC IterC OrdMath WordMath InC OrderC WordC RunC

/-- A copy inside a row of the call's own, as one step of a region that draws its order: all other blocks stay. -/
theorem step_copy_own {P : Program} {ops : Array Oper} {o : Oper} {a : Act} {w : World} {K : Act → World → Prop} {Q : Exit → Act → World → Prop} {E : Prop} (hgd : o.guard = none) (d s : Operand) (dT sT : TypeId)
    (ho : o.op = .call { callee := .builtin .copy, args := #[d, s], argTypes := #[dT, sT] }) (elem : TypeId) (hu : P.underlying dT = some (.slice elem)) (hsz : (P.info? elem).map (·.size) = some 1)
    (dp sp : Option Addr) (dLen dCap sLen sCap : Nat) (hd : a.eval d = .slice dp dLen dCap) (hs : a.eval s = .slice sp sLen sCap)
    (g off : Nat) (cur : List Value) (t : TypeId) (hg : w.heap[g]? = some (.cells cur.toArray t (0, 0))) (cs : List Value) (hn : cs.length = Nat.min sLen dLen)
    (hpos : 0 < cs.length → dp = some ⟨g, off, none⟩ ∧ ∃ ad, sp = some ad ∧ ∀ j v, cs[j]? = some v → w.cell? (ad.add j) = some v)
    (hfit : off + cs.length ≤ cur.length) (h1 : ∀ v ∈ cs, v.oneCell' = true)
    (h : ∀ w', Hid (w'.heap[g]? = some (.cells (splice cur off cs).toArray t (0, 0))) → w.grownBy w' (some g) → K (a.put o.dst (goInt cs.length)) w') :
    if Region.wanted o (yielded ops a.tmps) = true then Oper.wp P o a w K Q else E := by
  have hw : Region.wanted o (yielded ops a.tmps) = true := by simp [Region.wanted, hgd]
  rw [if_pos hw]
  by_cases h0 : cs.length = 0
  · obtain rfl : cs = [] := List.eq_nil_of_length_eq_zero h0
    have hrun := run_copy_none (P := P) w dT sT o.type elem dp sp dLen dCap sLen sCap hu hsz (by simpa using hn.symm)
    unfold Oper.wp
    simp [execOp, ho, resolve, invoke, builtin, hd, hs, hrun, Result.andThen]
    exact h w (show _ = _ by simpa [splice] using hg) (World.grownBy.refl w _)
  · obtain ⟨rfl, ad, rfl, hsrc⟩ := hpos (by omega)
    have hrun := run_copy_row (P := P) w dT sT o.type elem g off dLen dCap ad sLen sCap cur.toArray t cs hu hsz hg hn hsrc (by simpa using hfit) h1
    unfold Oper.wp
    simp [execOp, ho, resolve, invoke, builtin, hd, hs, hrun, Result.andThen]
    exact h _ (show _ = _ by simpa [splice] using setRow_heap w g _ _ t _ hg) ⟨rfl, rfl, rfl, by simp [World.setRow], fun k _ hne => setRow_other w g k _ (fun e => hne (by rw [e]))⟩

set_option maxRecDepth 100000 in
set_option maxHeartbeats 2000000 in
theorem runSigns_any (zs : List Int) (s : ByteArray) (hord : Ord zs) (hw : Word s) (hsz : s.size = 2 * zs.length) (W : World) (v : Value) (n : Nat) (hv : Sees W v n (vals zs)) :
    Calls Try.prog 208 #[v, .string s] W fun e w' => ∃ u, e = .returned u ∧ w'.ownsRow W.heap.size 3 1 u (runOut zs s).length (vals (runOut zs s)) ∧ Below W.heap.size W w' := by
  have hl : zs.length = n := by simpa using hv.1
  have hn1 : 1 ≤ n := by have := hord.1; omega
  have hn7 : n ≤ 7 := by have := hord.2.1; omega
  obtain ⟨b, o, cap, rfl, hcap, _, hbl, hcell⟩ := sees_cells hv (by omega)
  have HC := Go.Lib.hid hcell
  have HSZ := Go.Lib.hid hsz
  have hs14 : s.size ≤ 14 := hw.2.1
  have HW := Go.Lib.hid hw
  have hsz1 : (Try.prog.info? 3).map (·.size) = some 1 := by kernel_rfl
  have HI := Go.Lib.hid hsz1
  clear hv hcell hsz hw hsz1
  go_enter Try.func208, Try.ntmps208
  go_wp2_with fail
  refine (Try.slices_Clone_int b o n cap zs W (by omega) (by omega) HC.out).mono ?_
  rintro e w2 ⟨u, rfl, ho, hne, hb1⟩
  rw [List.take_of_length_le (by omega)] at ho
  obtain ⟨g, c, rfl⟩ := own_pos ho (by omega)
  obtain ⟨IT, hIT⟩ : ∃ IT, w2.heap.size = IT := ⟨_, rfl⟩
  have hit0 : (w2.alloc (.stringIter s 0)).heap[IT]? = some (.stringIter s 0) := by rw [← hIT]; exact heap_alloc_new _ _
  have hITB : W.heap.size ≤ IT := by rw [← hIT]; exact hb1.size
  have hgb := (ho.lt g rfl).1
  have H0 := Go.Lib.hid (And.intro (ho.alloc (.stringIter s 0)) (hb1.alloc hb1.size (.stringIter s 0)))
  have HGB := Go.Lib.hid hgb
  clear ho hne hb1 hgb
  go_wp2_with fail
  clear hIT
  go_loopw [6, 7] (fun ov xv wr => ∃ (pos no x : Nat) (lo ls : List Int), wr.heap[IT]? = some (.stringIter s pos) ∧ pos ≤ s.size ∧ ov = .int .i64 no ∧ xv = .int .i64 x ∧ lo.length = no ∧ wr.ownsRow W.heap.size 3 1 (.slice (some ⟨g, 0, none⟩) n c) n (vals (lo ++ ls ++ zs.drop x)) ∧ Below W.heap.size W wr ∧ Hid (runTo zs s pos = (lo, ls, x))) (fun _ _ wr => s.size - wr.iterPos IT)
  case atStart => exact ⟨0, 0, 0, [], [], hit0, Nat.zero_le _, rfl, rfl, rfl, by show (w2.alloc (.stringIter s 0)).ownsRow _ _ _ _ _ _; simpa using H0.out.1, H0.out.2, Go.Lib.hid rfl⟩
  case round =>
    obtain ⟨pos, no, x, lo, ls, hit, hpos, rfl, rfl, hlo, hown0, hb, HR⟩ := hrel
    have HPOS := Go.Lib.hid (iter_pos hit)
    clear hit0
    by_cases hp : pos < s.size
    · have hnx : ∀ ty, (Instr.next (.pointer (some ⟨IT, 0, none⟩)) true ty).run Try.prog wr = _ := fun ty => Lib.run_next_any_at wr IT s pos ty hit hp
      obtain ⟨d, hd, hd1, hd2, hc⟩ := HW.out.at hp
      have hasc : (s[pos]'hp).toNat < 128 := by
        rcases hc with ⟨hI, _⟩ | ⟨hO, _⟩
        · have := (byt_nat hp 73 (by omega)).2 hI; omega
        · have := (byt_nat hp 79 (by omega)).2 hO; omega
      rw [decode_ascii s pos hp hasc] at hnx
      have hne := own_ne_iter hown0 hit
      have hit2 := Lib.iterAt_heap wr IT s pos (pos + 1) hit
      have hb2 : Below W.heap.size W (wr.iterAt IT s (pos + 1)) := Lib.below_iterAt hb hITB s (pos + 1)
      have hown := own_iterAt hown0 hit (pos + 1)
      obtain ⟨wi, hwi⟩ : ∃ wi, wr.iterAt IT s (pos + 1) = wi := ⟨_, rfl⟩
      simp only [hwi] at hnx hit2 hb2 hown
      have hrl := run_len (zs := zs) pos d hd
      rw [HR.out] at hrl
      simp only at hrl
      have hsz := HSZ.out
      clear hwi hit hb hown0 hasc
      rcases hc with ⟨hI, hn, hd3⟩ | ⟨hO, hd0, hn⟩
      · have hnum := (byt_nat hp 73 (by omega)).2 hI
        have hx : x < zs.length := by omega
        have HN : Hid (runTo zs s (pos + 1) = (lo, ls ++ [zs.getD x 0], x + 1)) := Go.Lib.hid (run_I HR.out hI)
        have HL : Hid (lo ++ (ls ++ [zs.getD x 0]) ++ zs.drop (x + 1) = lo ++ ls ++ zs.drop x) := Go.Lib.hid (by
          rw [List.drop_eq_getElem_cons hx]; simp [hx])
        simp only [hnum] at hnx
        have H3 := Go.Lib.hid (And.intro hit2 (And.intro hb2 hown))
        clear hI hn hd3 hd hd1 hd2 hrl hsz hit2 hb2 hown hne hnum
        go_wp2
        go_roundw
        case rel => exact ⟨pos + 1, no, x + 1, lo, ls ++ [zs.getD x 0], H3.out.1, by omega, rfl, by go_num, hlo, by rw [HL.out]; exact H3.out.2.2, H3.out.2.1, HN⟩
        case measure => rw [iter_pos H3.out.1, HPOS.out]; omega
      · have hnum := (byt_nat hp 79 (by omega)).2 hO
        obtain ⟨la, p, hlap, hlast, hdrop⟩ := split_last (l := ls) (by omega)
        have HN : Hid (runTo zs s (pos + 1) = (lo ++ [p], la, x)) := Go.Lib.hid (by rw [run_O HR.out hO, hlast, hdrop])
        subst hlap
        obtain ⟨m, hm⟩ : ∃ m, la.length = m := ⟨_, rfl⟩
        have hxm : x = no + m + 1 := by have := hrl.2.1; have := hrl.1; simp at this; omega
        have hxn : x ≤ n := by omega
        obtain ⟨ex, hheap, hexc, hlen, hgB, hcm⟩ := own_block hown
        have hck : wi.cell? ⟨g, no + m, none⟩ = some (.int .i64 p) := by
          rw [hown.cellAt (no + m) (by omega)]
          have e1 : lo ++ (la ++ [p]) ++ zs.drop x = (lo ++ la) ++ (p :: zs.drop x) := by simp
          unfold vals
          rw [e1, List.map_append, List.getElem?_append_right (by simp; omega)]
          have e2 : no + m - (List.map (Value.int .i64) (lo ++ la)).length = 0 := by simp; omega
          rw [e2]; simp
        simp only [hnum] at hnx
        obtain ⟨y, hy⟩ : ∃ y, no + m = y := ⟨_, rfl⟩
        obtain ⟨no1, hno1⟩ : ∃ q, no + 1 = q := ⟨_, rfl⟩
        rw [hy] at hck
        have hu2 := Try.underlying29
        have q1 : IntKind.i64.wrap ((no : Int) + 1) = (no1 : Int) := by rw [IntWalk.i64_in _ (by omega)]; omega
        have q2 : IntKind.i64.wrap ((x : Int) - 1) = (y : Int) := by rw [IntWalk.i64_in _ (by omega)]; omega
        have r1 : (no1 : Int) ≤ (x : Int) := by omega
        have r2 : (x : Int) ≤ (c : Int) := by omega
        have r3 : (no : Int) ≤ (y : Int) := by omega
        have r4 : (y : Int) ≤ (c : Int) := by omega
        have r5 : (y : Int) < (n : Int) := by omega
        have r6 : (no : Int) < (n : Int) := by omega
        have hcno : ¬ c = no := by omega
        have hnx0 : (0 : Int) < (x : Int) := by omega
        have HSP := Go.Lib.hid (line_pop lo la (zs.drop x) p ex no hlo)
        have hxm1 : x - no1 = m := by omega
        have hyn : y - no = m := by omega
        have H3 := Go.Lib.hid (And.intro hit2 (And.intro hb2 (And.intro hne hheap)))
        have HM := Go.Lib.hid (And.intro hlo (And.intro hm (And.intro hlast (And.intro hdrop (And.intro hy (And.intro hno1 (And.intro hxm (And.intro hexc (And.intro hcm hlen)))))))))
        have hsrc : ∀ j v, (vals la)[j]? = some v → wi.cell? ((⟨g, no, none⟩ : Addr).add j) = some v := by
          intro j v hj
          have hjm : j < m := by rw [← hm]; have := (List.getElem?_eq_some_iff.1 hj).1; simpa using this
          have e0 : (⟨g, no, none⟩ : Addr).add j = ⟨g, no + j, none⟩ := by unfold Addr.add; split <;> simp_all
          rw [e0, hown.cellAt (no + j) (by omega)]
          have e1 : lo ++ (la ++ [p]) ++ zs.drop x = lo ++ (la ++ (p :: zs.drop x)) := by simp
          unfold vals
          rw [e1, List.map_append, List.getElem?_append_right (by simp; omega)]
          have e2 : no + j - (List.map (Value.int .i64) lo).length = j := by simp; omega
          rw [e2, List.map_append, List.getElem?_append_left (by simp; omega)]
          exact hj
        have HSRC := Go.Lib.hid hsrc
        have s1 : no1 ≤ x := by omega
        have s2 : x ≤ c := by omega
        have s3 : no ≤ y := by omega
        have s4 : y ≤ c := by omega
        clear hsrc hO hn hd hd1 hd2 hrl hsz hit2 hb2 hown hne hlo hm hlast hdrop hnum hheap hxm hy hno1 hexc hcm hlen
        have HGB2 : Hid (W.heap.size ≤ g) := HGB
        obtain ⟨LL, hLL⟩ : ∃ LL, vals (lo ++ (la ++ [p]) ++ zs.drop x) ++ ex = LL := ⟨_, rfl⟩
        obtain ⟨VA, hVA⟩ : ∃ VA, vals la = VA := ⟨_, rfl⟩
        have P1 : Hid (VA.length = Nat.min m m) := Go.Lib.hid (by have := HM.out.2.1; rw [← hVA]; simp [this])
        have HLL : Hid (vals (lo ++ (la ++ [p]) ++ zs.drop x) ++ ex = LL ∧ LL.length = c) := Go.Lib.hid ⟨hLL, by have := HM.out; rw [← hLL]; simp; simp at this; omega⟩
        have P2 : Hid (no1 + VA.length ≤ LL.length) := Go.Lib.hid (by have := HM.out; have := P1.out; rw [HLL.out.2]; simp at this; omega)
        have P3 : Hid (∀ v ∈ VA, v.oneCell' = true) := Go.Lib.hid (by rw [← hVA]; exact ints_oneCell .i64 la)
        have HVA := Go.Lib.hid hVA
        have H4 := Go.Lib.hid (show wi.drew.heap[g]? = some (.cells LL.toArray 3 (0, 0)) by rw [← hLL]; exact H3.out.2.2.2)
        have HSRC2 := Go.Lib.hid (show ∀ j v, VA[j]? = some v → wi.drew.cell? ((⟨g, no, none⟩ : Addr).add j) = some v by rw [← hVA]; exact HSRC.out)
        have hnon : no < n := by have := HM.out; omega
        clear hLL hVA HSRC
        by_cases hcc : c = no1
        · have HNO : Hid (c = no + 1) := Go.Lib.hid (by have := HM.out; omega)
          subst hcc
          have P0 : Hid (¬ 0 < VA.length) := Go.Lib.hid (by have := HM.out; have := P1.out; simp at this; omega)
          go_wp2_with fail
          go_region_law ((refine step_copy_own rfl (.tmp 31) (.tmp 36) 29 29 rfl 3 hu2 HI.out (some ⟨g, 0, none⟩) (some ⟨g, no, none⟩) m (0) m (c - no) (by simp [Act.eval, Act.put]) (by simp [Act.eval, Act.put]) g c LL 3 H4.out VA P1.out (fun hpos => absurd hpos P0.out) P2.out P3.out ?_; intro w3 hh3 hg3))
          have hh4 := hh3.out
          have hgr : wi.grownBy w3 (some g) := ⟨hg3.os, hg3.tape, hg3.output, hg3.size, hg3.block⟩
          have hown3 : w3.ownsRow W.heap.size 3 1 (.slice (some ⟨g, 0, none⟩) n c) n ((splice LL c VA).take n) := by
            refine block_own (ex := (splice LL c VA).drop n) (by rw [List.take_append_drop]; exact hh4) ?_ ?_ HGB2.out HM.out.2.2.2.2.2.2.2.2.1
            · rw [List.length_drop, length_splice _ _ _ P2.out, HLL.out.2]; have := HM.out; omega
            · rw [List.length_take, length_splice _ _ _ P2.out, HLL.out.2]; have := HM.out; omega
          have hst := hown3.stored no (.int .i64 p)
          have e9 : ((splice LL c VA).take n).set no (.int .i64 p) = vals (lo ++ [p] ++ la ++ zs.drop x) := by
            rw [← List.take_set, ← HLL.out.1, ← HVA.out, HNO.out, HSP.out]
            have h10 := HM.out.1
            have h11 := HM.out.2.1
            have h12 := HM.out.2.2.2.2.2.2.1
            refine List.take_left' ?_
            rw [vals_len, List.length_append, List.length_append, List.length_append, List.length_drop, h10, h11, hl]
            simp only [List.length_singleton]
            omega
          rw [e9] at hst
          have hdc := hown3.cellAt no (by omega)
          have hf := hown3.frozenAt no
          obtain ⟨u, hu⟩ : ∃ u, w3.cell? ⟨g, no, none⟩ = some u := ⟨_, hdc.trans (List.getElem?_eq_getElem (by have := hown3.1; omega))⟩
          have hit3 := iter_kept H3.out.1 (grown_trans hgr hst.2) (fun e => H3.out.2.2.1 (by simpa [Value.ownBlock] using e))
          have hb3 : Below W.heap.size W (w3.setCell ⟨g, no, none⟩ (.int .i64 p)) := (H3.out.2.1.grown hgr H3.out.2.1.size (fun q hq => by cases hq; exact HGB2.out)).setCell (p := ⟨g, no, none⟩) HGB2.out _
          have H5 := Go.Lib.hid (And.intro hst.1 (And.intro hit3 hb3))
          clear hst hdc hit3 hb3 hown3 hgr hg3 hh3 hh4 e9
          go_wp2
          go_roundw
          case rel => exact ⟨pos + 1, c, x, lo ++ [p], la, H5.out.2.1, by omega, rfl, rfl, by have := HM.out.1; have := HNO.out; simp; omega, H5.out.1, H5.out.2.2, HN⟩
          case measure => rw [iter_pos H5.out.2.1, HPOS.out]; omega
        · have HNO : Hid (no1 = no + 1) := Go.Lib.hid (by have := HM.out; omega)
          go_wp2_with fail
          go_region_law ((refine step_copy_own rfl (.tmp 31) (.tmp 36) 29 29 rfl 3 hu2 HI.out (some ⟨g, no1, none⟩) (some ⟨g, no, none⟩) m (c - no1) m (c - no) (by simp [Act.eval, Act.put]) (by simp [Act.eval, Act.put]) g no1 LL 3 H4.out VA P1.out (fun _ => And.intro rfl (Exists.intro _ (And.intro rfl HSRC2.out))) P2.out P3.out ?_; intro w3 hh3 hg3))
          have hh4 := hh3.out
          have hgr : wi.grownBy w3 (some g) := ⟨hg3.os, hg3.tape, hg3.output, hg3.size, hg3.block⟩
          have hown3 : w3.ownsRow W.heap.size 3 1 (.slice (some ⟨g, 0, none⟩) n c) n ((splice LL no1 VA).take n) := by
            refine block_own (ex := (splice LL no1 VA).drop n) (by rw [List.take_append_drop]; exact hh4) ?_ ?_ HGB2.out HM.out.2.2.2.2.2.2.2.2.1
            · rw [List.length_drop, length_splice _ _ _ P2.out, HLL.out.2]; have := HM.out; omega
            · rw [List.length_take, length_splice _ _ _ P2.out, HLL.out.2]; have := HM.out; omega
          have hst := hown3.stored no (.int .i64 p)
          have e9 : ((splice LL no1 VA).take n).set no (.int .i64 p) = vals (lo ++ [p] ++ la ++ zs.drop x) := by
            rw [← List.take_set, ← HLL.out.1, ← HVA.out, HNO.out, HSP.out]
            have h10 := HM.out.1
            have h11 := HM.out.2.1
            have h12 := HM.out.2.2.2.2.2.2.1
            refine List.take_left' ?_
            rw [vals_len, List.length_append, List.length_append, List.length_append, List.length_drop, h10, h11, hl]
            simp only [List.length_singleton]
            omega
          rw [e9] at hst
          have hdc := hown3.cellAt no (by omega)
          have hf := hown3.frozenAt no
          obtain ⟨u, hu⟩ : ∃ u, w3.cell? ⟨g, no, none⟩ = some u := ⟨_, hdc.trans (List.getElem?_eq_getElem (by have := hown3.1; omega))⟩
          have hit3 := iter_kept H3.out.1 (grown_trans hgr hst.2) (fun e => H3.out.2.2.1 (by simpa [Value.ownBlock] using e))
          have hb3 : Below W.heap.size W (w3.setCell ⟨g, no, none⟩ (.int .i64 p)) := (H3.out.2.1.grown hgr H3.out.2.1.size (fun q hq => by cases hq; exact HGB2.out)).setCell (p := ⟨g, no, none⟩) HGB2.out _
          have H5 := Go.Lib.hid (And.intro hst.1 (And.intro hit3 hb3))
          clear hst hdc hit3 hb3 hown3 hgr hg3 hh3 hh4 e9
          go_wp2
          go_roundw
          case rel => exact ⟨pos + 1, no1, x, lo ++ [p], la, H5.out.2.1, by omega, rfl, rfl, by have := HM.out.1; have := HNO.out; simp; omega, H5.out.1, H5.out.2.2, HN⟩
          case measure => rw [iter_pos H5.out.2.1, HPOS.out]; omega
    · have hnx : ∀ ty, (Instr.next (.pointer (some ⟨IT, 0, none⟩)) true ty).run Try.prog wr = _ := fun ty => Lib.run_next_end_at wr IT s pos ty hit hp
      have hkn : pos = s.size := by omega
      have hrl := run_len (zs := zs) s.size 0 HW.out.2.2
      have hsz := HSZ.out
      have HE : Hid (runOut zs s = lo ++ ls ++ zs.drop x ∧ (runOut zs s).length = n) := Go.Lib.hid (by
        rw [← hkn, HR.out] at hrl
        simp only at hrl
        have hls : ls = [] := List.eq_nil_of_length_eq_zero hrl.1
        refine ⟨?_, by rw [runOut_len HW.out HSZ.out, hl]⟩
        rw [hls, List.append_nil, List.drop_of_length_le (by omega), List.append_nil]
        unfold runOut; rw [← hkn, HR.out])
      have H3 := Go.Lib.hid (And.intro hown0 hb)
      clear hown0 hb hit hrl hsz
      go_wp2
      go_ret
      exact ⟨_, rfl, by rw [HE.out.2, HE.out.1]; exact H3.out.1, H3.out.2⟩

end Go.Proofs.Ytecbfoodkcgehab.SignsC

/-
  Contracts: the model and the program find the word that leads from an order to another. Conditions: lists of at most 2^20 numbers.
-/
namespace Go.Proofs.Ytecbfoodkcgehab.ToC
open Go.RowKit SeesC IntsC ExactC NumC IterC OrdMath WordMath InC OrderC WordC RunC

/-- The signs by which an order is reached: place i of it is sought, the stack is st, x numbers have been pushed. -/
def goTo (zs ts : List Int) : Nat → Nat → List Int → Nat → List UInt8 → Option (List UInt8)
  | 0, _, _, _, _ => none
  | f + 1, i, st, x, acc =>
    if i < ts.length then
      if st.getLast? = some (ts.getD i 0) then goTo zs ts f (i + 1) st.dropLast x (acc ++ [79])
      else if x < zs.length then goTo zs ts f i (st ++ [zs.getD x 0]) (x + 1) (acc ++ [73])
      else none
    else some acc

def toRes (zs ts : List Int) : Option (List UInt8) := goTo zs ts (zs.length + zs.length + 1) 0 [] 0 []

def optAns (o : Option (List UInt8)) : ByteArray × Bool := match o with | some l => (txt l, true) | none => (ByteArray.empty, false)

def toAns (zs ts : List Int) : ByteArray × Bool := if Ord zs ∧ Ord ts ∧ zs.length = ts.length then optAns (toRes zs ts) else (ByteArray.empty, false)

/-- What is known in the midst of the search. -/
def Mid (zs ts : List Int) (R : Option (List UInt8)) (i : Nat) (st : List Int) (x : Nat) (acc : List UInt8) : Prop :=
  goTo zs ts ((ts.length - i) + (zs.length - x) + 1) i st x acc = R ∧ i + st.length = x ∧ x ≤ zs.length ∧ i ≤ ts.length ∧ acc.length = i + x

theorem mid_start (zs ts : List Int) (h : zs.length = ts.length) : Mid zs ts (toRes zs ts) 0 [] 0 [] := ⟨by rw [← h]; rfl, rfl, Nat.zero_le _, Nat.zero_le _, rfl⟩

theorem mid_end {zs ts : List Int} {R : Option (List UInt8)} {i x : Nat} {st : List Int} {acc : List UInt8} (h : Mid zs ts R i st x acc) (hi : ¬ i < ts.length) : R = some acc := by
  rw [← h.1]; simp [goTo, hi]

theorem mid_pop {zs ts : List Int} {R : Option (List UInt8)} {i x : Nat} {st : List Int} {acc : List UInt8} (h : Mid zs ts R i st x acc) (hi : i < ts.length) (ht : st.getLast? = some (ts.getD i 0)) : Mid zs ts R (i + 1) st.dropLast x (acc ++ [79]) := by
  obtain ⟨h1, h2, h3, h4, h5⟩ := h
  have hl : 0 < st.length := by cases st with | nil => simp at ht | cons a b => simp
  refine ⟨?_, by simp; omega, h3, by omega, by simp; omega⟩
  rw [← h1]
  have e : (ts.length - i) + (zs.length - x) + 1 = ((ts.length - (i + 1)) + (zs.length - x) + 1) + 1 := by omega
  rw [e]
  conv => rhs; unfold goTo
  rw [if_pos hi, if_pos ht]

theorem mid_push {zs ts : List Int} {R : Option (List UInt8)} {i x : Nat} {st : List Int} {acc : List UInt8} (h : Mid zs ts R i st x acc) (hi : i < ts.length) (ht : st.getLast? ≠ some (ts.getD i 0)) (hx : x < zs.length) : Mid zs ts R i (st ++ [zs.getD x 0]) (x + 1) (acc ++ [73]) := by
  obtain ⟨h1, h2, h3, h4, h5⟩ := h
  refine ⟨?_, by simp; omega, by omega, h4, by simp; omega⟩
  rw [← h1]
  have e : (ts.length - i) + (zs.length - x) + 1 = ((ts.length - i) + (zs.length - (x + 1)) + 1) + 1 := by omega
  rw [e]
  conv => rhs; unfold goTo
  rw [if_pos hi, if_neg ht, if_pos hx]

theorem mid_fail {zs ts : List Int} {R : Option (List UInt8)} {i x : Nat} {st : List Int} {acc : List UInt8} (h : Mid zs ts R i st x acc) (hi : i < ts.length) (ht : st.getLast? ≠ some (ts.getD i 0)) (hx : ¬ x < zs.length) : R = none := by
  rw [← h.1]
  unfold goTo
  rw [if_pos hi, if_neg ht, if_neg hx]

end Go.Proofs.Ytecbfoodkcgehab.ToC

/-
  The mathematics of the law on words: the word to what comes out by a word is this word, and what comes out by the word to an order is this order. Conditions: none. Plain facts on texts and lists: nothing of the program.
-/
namespace Go.Proofs.Ytecbfoodkcgehab.WordFacts
open OrdMath WordMath RunC ToC NumC

theorem byts_take {w : ByteArray} {k : Nat} (h : k < w.size) : w.data.toList.take (k + 1) = w.data.toList.take k ++ [byt w k] := by
  have h2 : k < w.data.toList.length := by rw [Array.length_toList]; exact h
  rw [List.take_succ_eq_append_getElem h2]
  unfold byt
  rw [List.getD_eq_getElem?_getD, List.getElem?_eq_getElem h2, Option.getD_some]

/-- What has come out goes on. -/
theorem out_prefix {zs : List Int} {w : ByteArray} (k : Nat) : ∀ m, (runTo zs w k).1 <+: (runTo zs w (k + m)).1
  | 0 => List.prefix_refl _
  | m + 1 => by
    refine (out_prefix k m).trans ?_
    show (runTo zs w (k + m)).1 <+: (runTo zs w (k + m + 1)).1
    obtain ⟨o, s, x, hr⟩ : ∃ o s x, runTo zs w (k + m) = (o, s, x) := ⟨_, _, _, rfl⟩
    by_cases hc : byt w (k + m) = 73
    · rw [run_I hr hc, hr]; exact List.prefix_refl _
    · have : runTo zs w (k + m + 1) = (o ++ [s.getLast?.getD 0], s.dropLast, x) := by simp [runTo, hr, hc]
      rw [this, hr]; exact List.prefix_append _ _

theorem out_end {zs : List Int} {w : ByteArray} {k : Nat} (h : k ≤ w.size) : (runTo zs w k).1 <+: runOut zs w := by
  have := out_prefix (zs := zs) (w := w) k (w.size - k)
  rw [Nat.add_sub_cancel' h] at this
  exact this

theorem prefix_getD {a l : List Int} {p : Int} (h : a ++ [p] <+: l) : l.getD a.length 0 = p := by
  obtain ⟨t, rfl⟩ := h
  simp

/-- The numbers on the stack have been pushed. -/
theorem stack_mem {zs : List Int} {w : ByteArray} (hl : w.size = 2 * zs.length) (hw : Word w) : ∀ k, k ≤ w.size → ∀ p ∈ (runTo zs w k).2.1, p ∈ zs.take (runTo zs w k).2.2 := by
  intro k
  induction k with
  | zero => intro _ p hp; simp [runTo] at hp
  | succ k ih =>
    intro hk p hp
    obtain ⟨d, hd, hd1, hd2, hc⟩ := hw.at (k := k) (by omega)
    have hrl := run_len (zs := zs) k d hd
    obtain ⟨o, s, x, hr⟩ : ∃ o s x, runTo zs w k = (o, s, x) := ⟨_, _, _, rfl⟩
    have ih' := ih (by omega)
    rw [hr] at ih' hrl
    simp only at ih' hrl
    rcases hc with ⟨hI, _, _⟩ | ⟨hO, _, _⟩
    · rw [run_I hr hI] at hp ⊢
      simp only at hp ⊢
      have hx : x < zs.length := by omega
      rw [List.take_succ_eq_append_getElem hx]
      rcases List.mem_append.1 hp with h | h
      · exact List.mem_append.2 (.inl (ih' p h))
      · refine List.mem_append.2 (.inr ?_)
        have e : zs.getD x 0 = zs[x] := by simp [hx]
        rw [e] at h; exact h
    · rw [run_O hr hO] at hp ⊢
      exact ih' p (List.dropLast_subset s hp)

/-- Behind a push the next number that comes out is one of those pushed from there on. -/
theorem next_out {zs : List Int} {w : ByteArray} (hl : w.size = 2 * zs.length) (hw : Word w) : ∀ m k, k + m = w.size → k < w.size → byt w k = 73 → (runOut zs w).getD (runTo zs w k).1.length 0 ∈ zs.drop (runTo zs w k).2.2 := by
  intro m
  induction m with
  | zero => intro k h1 h2; omega
  | succ m ih =>
    intro k hkm hk hI
    obtain ⟨d, hd, hd1, hd2, hc⟩ := hw.at (k := k) hk
    have hrl := run_len (zs := zs) k d hd
    obtain ⟨o, s, x, hr⟩ : ∃ o s x, runTo zs w k = (o, s, x) := ⟨_, _, _, rfl⟩
    rw [hr] at hrl
    simp only at hrl
    have hx : x < zs.length := by
      rcases hc with ⟨_, _, h3⟩ | ⟨hO, _, _⟩
      · omega
      · rw [hI] at hO; exact absurd hO (by decide)
    have hd3 : d + 1 ≤ w.size - (k + 1) := by
      rcases hc with ⟨_, _, h3⟩ | ⟨hO, _, _⟩
      · exact h3
      · rw [hI] at hO; exact absurd hO (by decide)
    have hr2 := run_I hr hI
    have hk2 : k + 1 < w.size := by omega
    rw [hr]
    show (runOut zs w).getD o.length 0 ∈ zs.drop x
    have e : zs.getD x 0 = zs[x] := by simp [hx]
    obtain ⟨d2, hd2', _, _, hc2⟩ := hw.at (k := k + 1) hk2
    rcases hc2 with ⟨hI2, _, _⟩ | ⟨hO2, _, _⟩
    · have := ih (k + 1) (by omega) hk2 hI2
      rw [hr2] at this
      simp only at this
      rw [List.drop_eq_getElem_cons hx]
      exact List.mem_cons_of_mem _ this
    · have hr3 := run_O hr2 hO2
      have hp := out_end (zs := zs) (w := w) (k := k + 1 + 1) (by omega)
      rw [hr3] at hp
      have hg := prefix_getD hp
      have e3 : (s ++ [zs.getD x 0]).getLast?.getD 0 = zs[x] := by rw [e]; simp
      rw [hg, e3, List.drop_eq_getElem_cons hx]
      exact List.mem_cons_self

/-- The search for the word to what comes out by a word goes along this word. -/
theorem mid_run {zs : List Int} {w : ByteArray} (hn : zs.Nodup) (hl : w.size = 2 * zs.length) (hw : Word w) : ∀ k, k ≤ w.size →
    Mid zs (runOut zs w) (toRes zs (runOut zs w)) (runTo zs w k).1.length (runTo zs w k).2.1 (runTo zs w k).2.2 (w.data.toList.take k) := by
  have hol : zs.length = (runOut zs w).length := (runOut_len hw hl).symm
  intro k
  induction k with
  | zero => intro _; exact mid_start _ _ hol
  | succ k ih =>
    intro hk
    have ih' := ih (by omega)
    obtain ⟨d, hd, hd1, hd2, hc⟩ := hw.at (k := k) (by omega)
    have hrl := run_len (zs := zs) k d hd
    have hsm := stack_mem (zs := zs) hl hw k (by omega)
    have hno := next_out (zs := zs) hl hw (w.size - k) k (by omega) (by omega)
    obtain ⟨o, s, x, hr⟩ : ∃ o s x, runTo zs w k = (o, s, x) := ⟨_, _, _, rfl⟩
    rw [hr] at ih' hrl hsm hno
    simp only at ih' hrl hsm hno
    rw [byts_take (by omega)]
    rcases hc with ⟨hI, _, h3⟩ | ⟨hO, hd0, _⟩
    · rw [run_I hr hI, hI]
      show Mid zs (runOut zs w) (toRes zs (runOut zs w)) o.length (s ++ [zs.getD x 0]) (x + 1) (w.data.toList.take k ++ [73])
      refine mid_push ih' (by omega) ?_ (by omega)
      intro ht
      have h1 := hsm _ (List.mem_of_getLast? ht)
      have h2 := hno hI
      obtain ⟨i, hi, e1⟩ := List.mem_iff_getElem.1 h1
      obtain ⟨j, hj, e2⟩ := List.mem_iff_getElem.1 h2
      rw [List.getElem_take] at e1
      rw [List.getElem_drop] at e2
      have hi2 : i < x := by simp at hi; omega
      have := (List.getElem_inj hn).1 (e1.trans e2.symm)
      omega
    · have hr2 := run_O hr hO
      have hp := out_end (zs := zs) (w := w) (k := k + 1) hk
      rw [hr2] at hp
      have hg := prefix_getD hp
      rw [hr2, hO]
      show Mid zs (runOut zs w) (toRes zs (runOut zs w)) (o ++ [s.getLast?.getD 0]).length s.dropLast x (w.data.toList.take k ++ [79])
      have hne : s ≠ [] := by intro e; subst e; simp at hrl; omega
      have := mid_pop ih' (by omega) (by rw [hg, List.getLast?_eq_some_getLast hne]; simp)
      simpa using this

/-- The word to what comes out by a word is this word. -/
theorem to_run {zs : List Int} {w : ByteArray} (hn : zs.Nodup) (hl : w.size = 2 * zs.length) (hw : Word w) : toRes zs (runOut zs w) = some w.data.toList := by
  have h := mid_run (zs := zs) hn hl hw w.size (Nat.le_refl _)
  have h2 := mid_end h (by unfold runOut; omega)
  rw [h2, List.take_of_length_le (by rw [Array.length_toList]; exact Nat.le_refl _)]

theorem run_inj {zs : List Int} {w u : ByteArray} (hn : zs.Nodup) (hl : w.size = 2 * zs.length) (hw : Word w) (hl2 : u.size = 2 * zs.length) (hu : Word u) (h : runOut zs w = runOut zs u) : w = u := by
  have h1 := to_run hn hl hw
  rw [h, to_run hn hl2 hu] at h1
  cases w; cases u
  simpa using h1.symm

theorem run_mem {zs : List Int} {w : ByteArray} (hl : w.size = 2 * zs.length) (hw : Word w) : ∀ k, k ≤ w.size → ((runTo zs w k).1 ++ (runTo zs w k).2.1).Perm (zs.take (runTo zs w k).2.2) := by
  intro k
  induction k with
  | zero => intro _; simp [runTo]
  | succ k ih =>
    intro hk
    have ih' := ih (by omega)
    obtain ⟨d, hd, hd1, hd2, hc⟩ := hw.at (k := k) (by omega)
    have hrl := run_len (zs := zs) k d hd
    obtain ⟨o, s, x, hr⟩ : ∃ o s x, runTo zs w k = (o, s, x) := ⟨_, _, _, rfl⟩
    rw [hr] at ih' hrl
    simp only at ih' hrl
    rcases hc with ⟨hI, _, h3⟩ | ⟨hO, hd0, _⟩
    · rw [run_I hr hI]
      have hx : x < zs.length := by omega
      have e : zs.getD x 0 = zs[x] := by simp [hx]
      show (o ++ (s ++ [zs.getD x 0])).Perm (zs.take (x + 1))
      rw [List.take_succ_eq_append_getElem hx, e, ← List.append_assoc]
      exact ih'.append_right _
    · rw [run_O hr hO]
      obtain ⟨a, p, hap, hlast, hdrop⟩ := split_last (l := s) (by omega)
      show ((o ++ [s.getLast?.getD 0]) ++ s.dropLast).Perm (zs.take x)
      rw [hlast, hdrop]
      rw [hap] at ih'
      refine List.Perm.trans ?_ ih'
      rw [List.append_assoc]
      exact List.Perm.append_left o (List.perm_append_comm (l₁ := [p]) (l₂ := a))

theorem ord_run {zs : List Int} {w : ByteArray} (ho : Ord zs) (hl : w.size = 2 * zs.length) (hw : Word w) : Ord (runOut zs w) := by
  have h := run_mem (zs := zs) hl hw w.size (Nat.le_refl _)
  have hrl := run_len (zs := zs) w.size 0 hw.2.2
  have hs : (runTo zs w w.size).2.1 = [] := List.eq_nil_of_length_eq_zero hrl.1
  rw [hs, List.append_nil, List.take_of_length_le (by omega)] at h
  have hlen : (runOut zs w).length = zs.length := h.length_eq
  refine ⟨by rw [hlen]; exact ho.1, by rw [hlen]; exact ho.2.1, fun z hz => by rw [hlen]; exact ho.2.2.1 z (h.mem_iff.1 hz), (h.nodup_iff).2 ho.2.2.2⟩

/-! ### The other way -/
theorem goTo_prefix {zs ts : List Int} : ∀ (f i : Nat) (st : List Int) (x : Nat) (acc l : List UInt8), goTo zs ts f i st x acc = some l → acc <+: l
  | 0, _, _, _, _, _, h => by simp [goTo] at h
  | f + 1, i, st, x, acc, l, h => by
    unfold goTo at h
    split at h
    · split at h
      · exact (List.prefix_append _ _).trans (goTo_prefix f _ _ _ _ _ h)
      · split at h
        · exact (List.prefix_append _ _).trans (goTo_prefix f _ _ _ _ _ h)
        · cases h
    · cases h; exact List.prefix_refl _

theorem byt_txt_prefix {a l : List UInt8} {c : UInt8} (h : a ++ [c] <+: l) : byt (txt l) a.length = c := by
  obtain ⟨t, rfl⟩ := h
  unfold byt
  rw [txt_list]
  simp

theorem go_run {zs ts : List Int} (hlen : zs.length = ts.length) : ∀ (f i : Nat) (st : List Int) (x : Nat) (acc l : List UInt8), goTo zs ts f i st x acc = some l → i ≤ ts.length → i + st.length = x → x ≤ zs.length →
    heldTo (txt l) acc.length = some st.length → runTo zs (txt l) acc.length = (ts.take i, st, x) → acc.length = i + x →
    heldTo (txt l) l.length = some 0 ∧ (runTo zs (txt l) l.length).1 = ts ∧ l.length = 2 * ts.length
  | 0, _, _, _, _, _, h, _, _, _, _, _, _ => by simp [goTo] at h
  | f + 1, i, st, x, acc, l, h, hi, hx, hxl, hh, hr, ha => by
    unfold goTo at h
    split at h
    · rename_i hlt
      split at h
      · rename_i hlast
        have hp := goTo_prefix f _ _ _ _ _ h
        have hb := byt_txt_prefix hp
        have hpos : 0 < st.length := by cases st with | nil => simp at hlast | cons a b => simp
        have e : (acc ++ [79]).length = acc.length + 1 := by simp
        refine go_run hlen f (i + 1) st.dropLast x (acc ++ [79]) l h (by omega) (by simp; omega) hxl ?_ ?_ (by simp; omega)
        · rw [e, held_O hh hb hpos]; simp
        · rw [e, run_O hr hb]
          rw [List.take_succ_eq_append_getElem hlt, hlast]
          simp [hlt]
      · split at h
        · rename_i hxl2
          have hp := goTo_prefix f _ _ _ _ _ h
          have hb := byt_txt_prefix hp
          have e : (acc ++ [73]).length = acc.length + 1 := by simp
          refine go_run hlen f i (st ++ [zs.getD x 0]) (x + 1) (acc ++ [73]) l h hi (by simp; omega) (by omega) ?_ ?_ (by simp; omega)
          · rw [e, held_I hh hb]; simp
          · rw [e, run_I hr hb]
        · cases h
    · rename_i hlt
      cases h
      have h0 : st.length = 0 := by omega
      refine ⟨by rw [hh, h0], ?_, by omega⟩
      rw [hr]
      exact List.take_of_length_le (by omega)

theorem run_to {zs ts : List Int} {l : List UInt8} (ho : Ord zs) (hlen : zs.length = ts.length) (h : toRes zs ts = some l) : Word (txt l) ∧ (txt l).size = 2 * zs.length ∧ runOut zs (txt l) = ts := by
  have h1 := go_run hlen _ 0 [] 0 [] l h (Nat.zero_le _) rfl (Nat.zero_le _) rfl rfl rfl
  have h2 := ho.1
  have h3 := ho.2.1
  have hs : (txt l).size = l.length := txt_size l
  refine ⟨⟨by omega, by omega, by rw [hs]; exact h1.1⟩, by omega, by unfold runOut; rw [hs]; exact h1.2.1⟩

/-! ### All words -/
open WordsC in
theorem sI_txt : sI = txt [73] := rfl
open WordsC in
theorem sO_txt : sO = txt [79] := rfl

theorem txt_snoc (a : List UInt8) (c : UInt8) : txt a ++ txt [c] = txt (a ++ [c]) := txt_append _ _

theorem byt_before {a l : List UInt8} (h : a <+: l) {k : Nat} (hk : k < a.length) : byt (txt l) k = byt (txt a) k := by
  obtain ⟨t, rfl⟩ := h
  unfold byt
  rw [txt_list, txt_list, List.getD_eq_getElem?_getD, List.getD_eq_getElem?_getD, List.getElem?_append_left hk]

theorem held_before {a l : List UInt8} (h : a <+: l) : ∀ k, k ≤ a.length → heldTo (txt l) k = heldTo (txt a) k
  | 0, _ => rfl
  | k + 1, hk => by
    show (heldTo (txt l) k).bind _ = (heldTo (txt a) k).bind _
    rw [held_before h k (by omega), byt_before h (by omega)]

theorem held_snoc {a : List UInt8} {c : UInt8} {d e : Nat} (h : heldTo (txt a) a.length = some d) (hs : stepOf c d = some e) : heldTo (txt (a ++ [c])) (a ++ [c]).length = some e := by
  have hl : (a ++ [c]).length = a.length + 1 := by simp
  rw [hl]
  show (heldTo (txt (a ++ [c])) a.length).bind _ = _
  rw [held_before (List.prefix_append a [c]) a.length (Nat.le_refl _), h, byt_txt_prefix (List.prefix_refl (a ++ [c]))]
  exact hs

open WordsC in
/-- Each text of the list goes on from the text that was begun, and ends with nothing held. -/
theorem words_word : ∀ (r d : Nat) (a : List UInt8), heldTo (txt a) a.length = some d → d ≤ r → d % 2 = r % 2 → ∀ u ∈ wordsFrom r d (txt a), ∃ l, u = txt l ∧ a <+: l ∧ l.length = a.length + r ∧ heldTo (txt l) l.length = some 0
  | 0, d, a, h, hd, _, u, hu => by
    have : d = 0 := by omega
    subst this
    simp [wordsFrom] at hu
    subst hu
    exact ⟨a, rfl, List.prefix_refl _, rfl, h⟩
  | r + 1, d, a, h, hd, hp, u, hu => by
    unfold wordsFrom at hu
    rcases List.mem_append.1 hu with hu | hu
    · split at hu
      · rw [sI_txt, txt_snoc] at hu
        obtain ⟨l, e, hpre, hlen, hh⟩ := words_word r (d + 1) (a ++ [73]) (held_snoc h (by simp [stepOf])) (by omega) (by omega) u hu
        exact ⟨l, e, (List.prefix_append _ _).trans hpre, by rw [hlen]; simp; omega, hh⟩
      · simp at hu
    · split at hu
      · rename_i h0
        rw [sO_txt, txt_snoc] at hu
        obtain ⟨l, e, hpre, hlen, hh⟩ := words_word r (d - 1) (a ++ [79]) (held_snoc h (by simp [stepOf, h0])) (by omega) (by omega) u hu
        exact ⟨l, e, (List.prefix_append _ _).trans hpre, by rw [hlen]; simp; omega, hh⟩
      · simp at hu

open WordsC in
theorem words_nodup : ∀ (r d : Nat) (a : List UInt8), heldTo (txt a) a.length = some d → d ≤ r → d % 2 = r % 2 → (wordsFrom r d (txt a)).Nodup
  | 0, d, a, _, _, _ => by simp [wordsFrom]
  | r + 1, d, a, h, hd, hp => by
    unfold wordsFrom
    rw [sI_txt, sO_txt, txt_snoc, txt_snoc, List.nodup_append]
    refine ⟨?_, ?_, ?_⟩
    · split
      · exact words_nodup r (d + 1) (a ++ [73]) (held_snoc h (by simp [stepOf])) (by omega) (by omega)
      · exact List.nodup_nil
    · split
      · rename_i h0
        exact words_nodup r (d - 1) (a ++ [79]) (held_snoc h (by simp [stepOf, h0])) (by omega) (by omega)
      · exact List.nodup_nil
    · intro u hu v hv e
      subst e
      split at hu
      · split at hv
        · rename_i h0
          obtain ⟨l, e1, p1, _, _⟩ := words_word r (d + 1) (a ++ [73]) (held_snoc h (by simp [stepOf])) (by omega) (by omega) u hu
          obtain ⟨l2, e2, p2, _, _⟩ := words_word r (d - 1) (a ++ [79]) (held_snoc h (by simp [stepOf, h0])) (by omega) (by omega) u hv
          have b1 := byt_txt_prefix p1
          have b2 := byt_txt_prefix p2
          rw [← e1] at b1
          rw [← e2] at b2
          rw [b1] at b2
          exact absurd b2 (by decide)
        · simp at hv
      · simp at hu

open WordsC in
theorem words_all {n : Nat} (h1 : 1 ≤ n) (h7 : n ≤ 7) : (wordsFrom (2 * n) 0 ByteArray.empty).Nodup ∧ ∀ u ∈ wordsFrom (2 * n) 0 ByteArray.empty, Word u ∧ u.size = 2 * n := by
  have e : (ByteArray.empty : ByteArray) = txt [] := rfl
  rw [e]
  refine ⟨words_nodup _ 0 [] rfl (Nat.zero_le _) (by omega), fun u hu => ?_⟩
  obtain ⟨l, e1, _, hl, hh⟩ := words_word (2 * n) 0 [] rfl (Nat.zero_le _) (by omega) u hu
  have hs : u.size = l.length := by rw [e1]; exact txt_size l
  simp at hl
  refine ⟨⟨by omega, by omega, by rw [hs, e1]; exact hh⟩, by omega⟩

end Go.Proofs.Ytecbfoodkcgehab.WordFacts

/-
  Contracts: the order before another one by a word; OrderOfWord of the model and of the program. Conditions: texts of at most 2^20 bytes.
-/
namespace Go.Proofs.Ytecbfoodkcgehab.BeforeC
open Go.RowKit SeesC IntsC ExactC NumC IterC OrdMath WordMath OrdFacts InC OrderC WordC RunC SignsC InverseC AtC SortedOrdC EndsM SweepM StackM WordFacts

theorem bef_next {out ps : List Int} {k m : Nat} (hm : ps.getD k 0 = (m : Int) + 1) : vals (befTo out ps (k + 1)) = (vals (befTo out ps k)).set m (.int .i64 (out.getD k 0)) := by
  have e : (ps.getD k 0 - 1).toNat = m := by omega
  show List.map _ ((befTo out ps k).set _ _) = _
  rw [e, List.map_set]

theorem bef_zero (out ps : List Int) (n : Nat) (h : out.length = n) : (madeCells (Value.int .i64 0).cells (n * 1)).toList = vals (befTo out ps 0) := by
  rw [made_int]; simp [befTo, h]

set_option maxRecDepth 100000 in
set_option maxHeartbeats 2000000 in
theorem orderBefore_any (out : List Int) (s : ByteArray) (hw : Word s) (hsz : s.size = 2 * out.length) (W : World) (v : Value) (n : Nat) (hv : Sees W v n (vals out)) :
    Calls Try.prog 192 #[v, .string s] W fun e w' => ∃ g c, e = .returned (.slice (some ⟨g, 0, none⟩) n c) ∧ w'.ownsRow W.heap.size 3 1 (.slice (some ⟨g, 0, none⟩) n c) n (vals (beforeOf out s)) ∧ Below W.heap.size W w' := by
  obtain ⟨i0, hi, hz0, hz1, hz2⟩ := info_parts infoI
  have hl : out.length = n := by simpa using hv.1
  have hn1 : 1 ≤ n := by have := hw.1; omega
  have hn7 : n ≤ 7 := by have := hw.2.1; omega
  obtain ⟨b, o, cap, rfl, hcap, _, hbl, hcell⟩ := sees_cells hv (by omega)
  have HC := Go.Lib.hid hcell
  have hoi := ord_iota hn1 hn7
  have hsz2 : s.size = 2 * (iota n).length := by rw [iota_len, ← hl]; exact hsz
  have CS := Go.Lib.hid (fun W' => sortedOrder_any n W' hn7)
  have CR := Go.Lib.hid (fun (W' : World) (u : Value) (h1 : Sees W' u n (vals (iota n))) => runSigns_any (iota n) s hoi hw hsz2 W' u n h1)
  have hps := ord_run hoi hsz2 hw
  have hpl : (runOut (iota n) s).length = n := by rw [runOut_len hw hsz2, iota_len]
  have hB : beforeOf out s = befTo out (runOut (iota n) s) n := by unfold beforeOf; rw [hl]
  rw [hB]
  obtain ⟨ps, hpe⟩ : ∃ ps, runOut (iota n) s = ps := ⟨_, rfl⟩
  rw [hpe] at CR hps hpl ⊢
  have HPS := Go.Lib.hid hps
  have HPL := Go.Lib.hid hpl
  have HL := Go.Lib.hid hl
  clear hv hcell hw hsz hsz2 hoi hB hpe hps hpl
  go_enter Try.func192, Try.ntmps192
  go_wp2_with (at_make; refine wpList_make_full _ rfl _ _ 29 rfl W.heap.size 3 i0 (.int .i64 0) 1 Try.underlying29 hi hz0 hz1 .i64 .i64 n n n rfl rfl rfl rfl (by rw [hz2]; omega) (by unfold maxLen; omega) (Nat.le_refl _) ?_; intro w2 hown1 hgrow1; clear hi hz0 hz1 hz2)
  rw [bef_zero out ps n HL.out] at hown1
  have hb1 : Below W.heap.size W w2 := (Below.refl _ _).grown hgrow1 (Nat.le_refl _) (fun k hk => by cases hk)
  have hWlt := (hown1.lt W.heap.size rfl).2
  have H1 := Go.Lib.hid (And.intro hown1 hb1)
  clear hgrow1 hown1 hb1
  go_wp2_with fail
  refine (CS.out _).mono ?_
  rintro e w3 ⟨g3, c3, rfl, ho, hb⟩
  have H2 := Go.Lib.hid (And.intro (kept_call H1.out.1 hb) (And.intro (H1.out.2.trans (hb.mono H1.out.2.size)) ho))
  clear ho hb
  go_wp2_with fail
  refine (CR.out _ _ (Sees.owns H2.out.2.2)).mono ?_
  rintro e w4 ⟨u, rfl, ho, hb⟩
  rw [HPL.out] at ho
  obtain ⟨g4, c4, rfl⟩ := own_pos ho (by omega)
  have hg4 := (ho.lt g4 rfl).1
  have hg3 := H2.out.2.1.size
  have hcells := Go.Lib.hid (own_lower ho (base' := W.heap.size) H2.out.2.1.size)
  have hg4b := (ho.lt g4 rfl).2
  have hlt43 : W.heap.size < g4 := by have := (H2.out.1.lt W.heap.size rfl).2; omega
  have H3 := Go.Lib.hid (And.intro (kept_call H2.out.1 hb) (H2.out.2.1.trans (hb.mono H2.out.2.1.size)))
  have HO4 := Go.Lib.hid ho
  clear ho hb hg4 hg3
  go_wp2_with fail
  go_loopw [17] (fun iv wr => ∃ (k : Nat), k ≤ n ∧ iv = .int .i64 k ∧ wr.ownsRow W.heap.size 3 1 (.slice (some ⟨W.heap.size, 0, none⟩) n n) n (vals (befTo out ps k)) ∧ Below W.heap.size W wr ∧ Hid (wr.ownsRow W.heap.size 3 1 (.slice (some ⟨g4, 0, none⟩) n c4) n (vals ps))) (fun i _ => n - (intOf i).toNat)
  case atStart => exact ⟨0, Nat.zero_le _, rfl, H3.out.1, H3.out.2, hcells⟩
  case round =>
    obtain ⟨k, hk, rfl, hown, hb, HP⟩ := hrel
    clear hcells
    by_cases hlt : k < n
    · have hck : wr.cell? ⟨b, o + k, none⟩ = some (.int .i64 (out.getD k 0)) := (hb.cell (p := ⟨b, o + k, none⟩) hbl).trans (HC.out k (by have := HL.out; omega))
      have hcp : wr.cell? ⟨g4, k, none⟩ = some (.int .i64 (ps.getD k 0)) := by rw [HP.out.cellAt k (by omega)]; have := HPL.out; simp [show k < ps.length by omega]
      obtain ⟨m, hm, hm2⟩ := HPS.out.getD (k := k) (by have := HPL.out; omega)
      rw [hm] at hcp
      have hmn : m < n := by have := HPL.out; omega
      obtain ⟨z, hz⟩ : ∃ z, out.getD k 0 = z := ⟨_, rfl⟩
      have hst := hown.stored m (.int .i64 z)
      rw [← hz, ← bef_next hm, hz] at hst
      rw [hz] at hck
      have hdc := hown.cellAt m (by omega)
      have hf := hown.frozenAt m
      obtain ⟨u, hu⟩ : ∃ u, wr.cell? ⟨W.heap.size, m, none⟩ = some u := ⟨_, hdc.trans (List.getElem?_eq_getElem (by rw [vals_len, befTo_len]; have := HL.out; omega))⟩
      have HP2 := Go.Lib.hid (own_mark HP.out hst.2 (fun a ha e => by simp only [Value.ownBlock, Option.some.injEq] at ha e; omega))
      have HS := Go.Lib.hid (And.intro hst.1 (hb.setCell (p := ⟨W.heap.size, m, none⟩) (Nat.le_refl _) (.int .i64 z)))
      have hlti : (k : Int) < (n : Int) := by omega
      have hmi : (m : Int) < (n : Int) := by omega
      have hm0 : (0 : Int) ≤ (m : Int) := by omega
      have q1 : IntKind.i64.wrap ((m : Int) + 1 - 1) = (m : Int) := by rw [IntWalk.i64_in _ (by omega)]; omega
      clear hm hm2 hst hdc hb hown hz HP
      go_wp2
      go_roundw
      case rel => exact ⟨k + 1, by omega, by go_num, HS.out.1, HS.out.2, HP2⟩
      case measure => simp [intOf] <;> omega
    · have hkn : k = n := by omega
      subst hkn
      have H5 := Go.Lib.hid (And.intro hown hb)
      clear hown hb HP
      go_wp2
      go_ret
      exact ⟨_, _, rfl, H5.out.1, H5.out.2⟩

def beforeAns (s : ByteArray) : List Int × Bool := if Word s then (invOf (runOut (iota (s.size / 2)) s) (runOut (iota (s.size / 2)) s).length, true) else ([], false)

theorem before_alen {s : ByteArray} {xs : List Int} {b : Bool} (h : beforeAns s = (xs, b)) : xs.length ≤ 1048576 := by
  unfold beforeAns at h; split at h
  · rename_i hw; cases h
    have := word_even hw
    rw [invOf_len, runOut_len hw (by rw [iota_len]; exact this), iota_len]
    have := hw.2.1; omega
  · cases h; simp

end Go.Proofs.Ytecbfoodkcgehab.BeforeC

/-
  The kit's contract of slices.BinarySearch at texts, laid by the kit's own command at this translation.
-/
namespace Go.Proofs
open Go.Shelf Go.RowKit Go.Lib
end Go.Proofs

/-
  Contracts: RankOfWord of the program, by a search among all words. Conditions: texts of at most 2^20 bytes.
-/
namespace Go.Proofs.Ytecbfoodkcgehab.RankWC
open Go.RowKit SeesC IntsC ExactC NumC IterC WordMath InC WordC WordsC WordsOfC EndsM

/-- Where the search ends. -/
theorem found_word {w : ByteArray} {m : Nat} (h1 : 1 ≤ m) (h7 : m ≤ 7) (hm : m = w.size / 2) :
    (Lib.bsGo (fun t => Op.bytesLess ((allW m).getD t w).toList w.toList) (allW m).length 0 (allW m).length < (allW m).length ∧ (allW m).getD (Lib.bsGo (fun t => Op.bytesLess ((allW m).getD t w).toList w.toList) (allW m).length 0 (allW m).length) w = w) ↔ Word w := by
  constructor
  · rintro ⟨h2, h3⟩
    have h4 : (allW m)[Lib.bsGo (fun t => Op.bytesLess ((allW m).getD t w).toList w.toList) (allW m).length 0 (allW m).length] = w := by
      rw [List.getD_eq_getElem?_getD, List.getElem?_eq_getElem h2, Option.getD_some] at h3
      exact h3
    exact (all_mem h1 h7 (h4 ▸ List.getElem_mem h2)).1
  · intro hw
    have hr := all_rank hw
    rw [← hm] at hr
    obtain ⟨g1, g2⟩ := List.getElem?_eq_some_iff.1 hr
    have e : Lib.bsGo (fun t => Op.bytesLess ((allW m).getD t w).toList w.toList) (allW m).length 0 (allW m).length = rankL w.data.toList 0 := by
      refine Lib.bsGo_spec _ _ ?_ ?_ _ _ _ (by omega) (Nat.zero_le _) (by omega)
      · intro t ht
        have h5 := all_before hr (t := t) (by omega)
        rw [decide_eq_true ht] at h5
        unfold lss at h5
        rw [Lib.toList_data, Lib.toList_data, List.getD_eq_getElem?_getD, List.getElem?_eq_getElem (by omega), Option.getD_some]
        exact h5
      · intro t ht
        rw [Lib.toList_data, Lib.toList_data]
        by_cases h6 : t < (allW m).length
        · have h5 := all_before hr (t := t) h6
          rw [decide_eq_false (by omega)] at h5
          unfold lss at h5
          rw [List.getD_eq_getElem?_getD, List.getElem?_eq_getElem h6, Option.getD_some]
          exact h5
        · rw [List.getD_eq_getElem?_getD, List.getElem?_eq_none (by omega), Option.getD_none]
          exact less_self _
    rw [e]
    exact ⟨g1, by rw [List.getD_eq_getElem?_getD, hr, Option.getD_some]⟩

theorem found_rank {w : ByteArray} {m : Nat} (hm : m = w.size / 2) (hw : Word w) :
    Lib.bsGo (fun t => Op.bytesLess ((allW m).getD t w).toList w.toList) (allW m).length 0 (allW m).length = rankL w.data.toList 0 := by
  have hr := all_rank hw
  rw [← hm] at hr
  obtain ⟨g1, g2⟩ := List.getElem?_eq_some_iff.1 hr
  refine Lib.bsGo_spec _ _ ?_ ?_ _ _ _ (by omega) (Nat.zero_le _) (by omega)
  · intro t ht
    have h5 := all_before hr (t := t) (by omega)
    rw [decide_eq_true ht] at h5
    unfold lss at h5
    rw [Lib.toList_data, Lib.toList_data, List.getD_eq_getElem?_getD, List.getElem?_eq_getElem (by omega), Option.getD_some]
    exact h5
  · intro t ht
    rw [Lib.toList_data, Lib.toList_data]
    by_cases h6 : t < (allW m).length
    · have h5 := all_before hr (t := t) h6
      rw [decide_eq_false (by omega)] at h5
      unfold lss at h5
      rw [List.getD_eq_getElem?_getD, List.getElem?_eq_getElem h6, Option.getD_some]
      exact h5
    · rw [List.getD_eq_getElem?_getD, List.getElem?_eq_none (by omega), Option.getD_none]
      exact less_self _

end Go.Proofs.Ytecbfoodkcgehab.RankWC

/-
  Contract: the model counts in how many ways a word goes on. Conditions: at most fourteen signs are left.
-/
namespace Go.Proofs.Ytecbfoodkcgehab.EndsC
open Go.RowKit SeesC RunC IntsC ExactC NumC IterC OrdMath WordMath InC WordC EndsM

/-- The row of ways, so many signs left. -/
def waysL (j n : Nat) : List Int := (List.range n).map (fun t => ((ends j t : Nat) : Int))

theorem ways_len (j n : Nat) : (waysL j n).length = n := by simp [waysL]
theorem ways_next (j n : Nat) : waysL j (n + 1) = waysL j n ++ [((ends j n : Nat) : Int)] := by unfold waysL; rw [List.range_succ, List.map_append]; rfl
theorem ways_at {j n t : Nat} (h : t < n) : (vals (waysL j n))[t]? = some (.int .i64 ((ends j t : Nat) : Int)) := by simp [waysL, h]

theorem ends_0 (j : Nat) : ends (j + 1) 0 = ends j (0 + 1) := by
  show (if 0 < 0 then ends j (0 - 1) else 0) + ends j (0 + 1) = _
  simp
theorem ends_s (j k : Nat) : ends (j + 1) (k + 1) = ends j k + ends j (k + 1 + 1) := by
  show (if 0 < k + 1 then ends j (k + 1 - 1) else 0) + ends j (k + 1 + 1) = _
  simp

end Go.Proofs.Ytecbfoodkcgehab.EndsC

/-
  Contracts: RankOfWord, WordAt and CountOneStack of the model and of the program. Conditions: texts of at most 2^20 bytes.
-/
namespace Go.Proofs.Ytecbfoodkcgehab.Rank4C
open Go.RowKit SeesC IntsC ExactC NumC IterC WordMath InC WordC WordsC WordsOfC EndsM RankWC EndsC

theorem wf_small {n : Int} (h0 : 0 ≤ n) (h1 : n ≤ 1048576) : (Lit.int .i64 n).wf = true := by
  have e1 : IntKind.i64.min = -9223372036854775808 := rfl
  have e2 : IntKind.i64.max = 9223372036854775807 := rfl
  simp [Lit.wf, e1, e2]
  omega

theorem all_pos {m : Nat} (h1 : 1 ≤ m) (h7 : m ≤ 7) : 0 < (allW m).length := by
  rw [all_len]
  have : m = 1 ∨ m = 2 ∨ m = 3 ∨ m = 4 ∨ m = 5 ∨ m = 6 ∨ m = 7 := by omega
  rcases this with rfl | rfl | rfl | rfl | rfl | rfl | rfl <;> decide +kernel

theorem all_16k {m : Nat} (h7 : m ≤ 7) : (allW m).length ≤ 16384 := wordsFrom_16k (by omega)

theorem words_ans {m : Nat} (h1 : 1 ≤ m) (h7 : m ≤ 7) : wordsAns (m : Int) = (allW m, true) := by
  unfold wordsAns
  rw [if_pos (by omega), Int.toNat_natCast]
  rfl
theorem words_not {n : Int} (h : ¬ (1 ≤ n ∧ n ≤ 7)) : wordsAns n = ([], false) := by
  unfold wordsAns
  rw [if_neg h]

theorem str_cells {w : World} {base g n cap : Nat} {ss : List ByteArray} (x : ByteArray) (h : w.ownsRow base 9 1 (.slice (some ⟨g, 0, none⟩) n cap) n (ss.map Value.string)) : ∀ j, j < n → w.cell? ⟨g, 0 + j, none⟩ = some (.string (ss.getD j x)) := by
  intro j hj
  have hl : ss.length = n := by simpa using h.1
  rw [h.cellAt (0 + j) (by omega)]
  simp [show j < ss.length by omega]

theorem drop_byt {s : ByteArray} {i : Nat} (h : i < s.size) : s.data.toList.drop i = byt s i :: s.data.toList.drop (i + 1) := by
  have h2 : i < s.data.toList.length := by rw [Array.length_toList]; exact h
  rw [List.drop_eq_getElem_cons h2]
  congr 1
  unfold byt
  rw [List.getD_eq_getElem?_getD, List.getElem?_eq_getElem h2, Option.getD_some]

end Go.Proofs.Ytecbfoodkcgehab.Rank4C

/-
  Contract: the program's map of the orders before one by their words. Conditions: 1 to 7 numbers.
-/
namespace Go.Proofs.Ytecbfoodkcgehab.ByWordC
open Go.Maps
open Go.RowKit SeesC IntsC ExactC OrdMath WordMath OrdFacts ListsC ListsEC ListsFC ListsGC WithC MapRowsC EndsM StackM WordsC WordsOfC Rank4C BeforeC IterC WordFacts

theorem run_makeMap_hint (i : Int) (w : World) : (Instr.makeMap 112 (some (.int .i64 i))).run Try.prog w = .ok (.map (some w.heap.size)) (w.alloc (.map #[] 0)) := by
  have h := run_underlying (P := Try.prog) (w := w) Try.underlying112
  simp [Instr.makeMap, h, asInt, Result.andThen]
  rfl

theorem strKeyed : Keyed Try.prog 9 := string_keyed Try.underlying9

theorem strKey (s : ByteArray) (h : s.size ≤ maxLen) : keyOf Try.prog 9 (.string s) = some (.string s.data.toList) := by
  simp [keyOf, Try.underlying9, mapKey, h]

theorem row_not_map {w : World} {base n b m : Nat} {ty k : TypeId} {v : Value} {xs : List Value} {R : Value → Option (DV × List MemPlace)} {D : DV} (ho : w.ownsRow base ty 1 v n xs) (hm : w.ownsMap Try.prog k R b m D) : v.ownBlock ≠ some b := by
  intro e
  obtain ⟨es, clock, hb, _⟩ := hm
  rcases ho.2 with ⟨rfl, _⟩ | ⟨g, cap, cur, rfl, _, hg, _⟩
  · simp [Value.ownBlock] at e
  · have : g = b := by simpa [Value.ownBlock] using e
    subst this
    rw [hg] at hb
    cases hb

theorem own_map {w w' : World} {base n b m : Nat} {ty k : TypeId} {v : Value} {xs : List Value} {R : Value → Option (DV × List MemPlace)} {D : DV} (ho : w.ownsRow base ty 1 v n xs) (hm : w.ownsMap Try.prog k R b m D) (hg : w.grownBy w' (some b)) : w'.ownsRow base ty 1 v n xs :=
  own_mark ho hg (fun a ha e => row_not_map ho hm (by rw [ha]; exact e.symm))

theorem map_kept {w w' : World} {b m : Nat} {k : TypeId} {R : Value → Option (DV × List MemPlace)} {D : DV} (hm : w.ownsMap Try.prog k R b m D) (hb : Below w.heap.size w w') : w'.ownsMap Try.prog k R b m D := hm.kept (grown_of_below hb none) (by simp)

/-- What is there of the map behind i words. -/
def Mid (zs : List Int) (n : Nat) (W : World) (b i : Nat) (gs : List (Nat × Nat)) (X : World) : Prop :=
  gs.length = i ∧ (∃ es R, IsR (gs.map (sl n)) R ∧ X.ownsMap Try.prog 9 R b i (.map es) ∧ es.Perm (prs (allW n) (gs.map (sl n)) i)) ∧
    (∀ j, j < i → X.ownsRow W.heap.size 3 1 (sl n (gs.getD j (0, 0))) n (vals (beforeOf zs ((allW n).getD j ByteArray.empty)))) ∧ (gs.map (·.1)).Nodup ∧ Below W.heap.size W X ∧ W.heap.size ≤ b

def ByW (zs : List Int) (n : Nat) (W : World) (e : Ending) (w' : World) : Prop := ∃ b gs, e = .returned (.map (some b)) ∧ Mid zs n W b (allW n).length gs w'

set_option maxRecDepth 100000 in
set_option maxHeartbeats 4000000 in
theorem byWord_any (zs : List Int) (hord : Ord zs) (W : World) (v : Value) (n : Nat) (hv : Sees W v n (vals zs)) :
    Calls Try.prog 161 #[v] W (ByW zs n W) := by
  have hl : zs.length = n := by simpa using hv.1
  have hn7 : n ≤ 7 := by have := hord.2.1; omega
  have hn1 : 1 ≤ n := by have := hord.1; omega
  have hmm := run_makeMap_hint
  have hwf : (Lit.int .i64 (n : Int)).wf = true := wf_small (by omega) (by omega)
  have CW := Go.Lib.hid (fun W' => implWords (n : Int) (allW n) true (words_ans hn1 hn7) hwf W')
  obtain ⟨N, hN⟩ : ∃ N, (allW n).length = N := ⟨_, rfl⟩
  have hN1 : 1 ≤ N := by rw [← hN]; exact all_pos hn1 hn7
  have hN2 : N ≤ 16384 := by rw [← hN]; exact all_16k hn7
  have HN := Go.Lib.hid hN
  have HWD := Go.Lib.hid (fun k (hk : k < (allW n).length) => all_mem hn1 hn7 (List.getElem_mem hk))
  have HND := Go.Lib.hid (words_all hn1 hn7).1
  have HV := Go.Lib.hid hv
  have HL := Go.Lib.hid hl
  have HO := Go.Lib.hid hord
  obtain ⟨_, ad, cap, rfl, _, _⟩ := hv
  clear hN hwf hl hord
  go_enter Try.func161, Try.ntmps161
  go_wp2_with fail
  refine (CW.out _).mono ?_
  rintro e w1 ⟨va, rfl, ho, hb⟩
  rw [HN.out] at ho
  obtain ⟨ga, ca, rfl⟩ := own_pos ho (by omega)
  have H1 := Go.Lib.hid (And.intro ho hb)
  clear ho hb CW
  have hM0 : Mid zs n W w1.heap.size 0 [] (w1.alloc (.map #[] 0)) := by
    obtain ⟨R0, hR0⟩ := isR_ex []
    exact ⟨rfl, ⟨[], R0, hR0, World.ownsMap_made w1 _ _ _, List.Perm.refl _⟩, fun j hj => by omega, by simp, H1.out.2.alloc H1.out.2.size _, H1.out.2.size⟩
  have HM0 := Go.Lib.hid (And.intro hM0 (H1.out.1.alloc (.map #[] 0)))
  clear hM0
  go_wp2_with fail
  go_loopw [19] (fun iv wr => ∃ (i : Nat) (gs : List (Nat × Nat)), i ≤ N ∧ iv = .int .i64 i ∧ Hid (Mid zs n W w1.heap.size i gs wr ∧ wr.ownsRow W.heap.size 9 1 (.slice (some ⟨ga, 0, none⟩) N ca) N ((allW n).map Value.string))) (fun iv _ => N - (intOf iv).toNat)
  case atStart => exact ⟨0, [], Nat.zero_le _, rfl, HM0⟩
  case round =>
    obtain ⟨i, gs, hi, rfl, HX⟩ := hrel
    clear HM0 H1
    by_cases hlt : i < N
    · obtain ⟨wj, rfl⟩ : ∃ wj, wj = wr := ⟨_, rfl⟩
      have hil : i < (allW n).length := by rw [HN.out]; exact hlt
      have hwd := HWD.out i hil
      obtain ⟨s, hs⟩ : ∃ s, (allW n).getD i ByteArray.empty = s := ⟨_, rfl⟩
      have hse : (allW n)[i] = s := by rw [← hs]; simp [hil]
      rw [hse] at hwd
      have hck : wj.cell? ⟨ga, i, none⟩ = some (.string s) := by
        rw [HX.out.2.cellAt i (by omega), ← hs]
        simp [hil]
      have CB := Go.Lib.hid (orderBefore_any zs s hwd.1 (by rw [HL.out]; exact hwd.2) wj _ n (HV.out.grow HX.out.1.2.2.2.2.1))
      have HS := Go.Lib.hid (And.intro hs (And.intro hwd (Exists.intro hil hse : ∃ h : i < (allW n).length, (allW n)[i] = s)))
      have hlti : (i : Int) < (N : Int) := by omega
      clear hs hwd hse hil
      go_wp2_with fail
      refine (CB.out).mono ?_
      rintro e w2 ⟨g, c, rfl, ho, hb⟩
      obtain ⟨hgl, ⟨es, R, hR, hmap, hperm⟩, hrows, hnd, hbel, hWb⟩ := HX.out.1
      have hgj : ∀ j, j < i → (gs.getD j (0, 0)).1 ≠ g := fun j hj e => by
        have h1 := own_block_lt (hrows j hj) (q := (gs.getD j (0, 0)).1) rfl
        have h2 := own_block_lt ho (q := g) rfl
        omega
      obtain ⟨R', hR'⟩ := isR_ex ((gs ++ [(g, c)]).map (sl n))
      have hmap2 : w2.ownsMap Try.prog 9 R' w1.heap.size i (.map es) := owns_sub (map_kept hmap hb) (hR.sub hR' (fun v hv => by rw [List.map_append]; exact List.mem_append_left _ hv))
      have hnew : ∀ p ∈ es, p.1 ≠ Lit.string s.data.toList := by
        intro p hp e
        have h1 := hperm.mem_iff.1 hp
        unfold prs at h1
        obtain ⟨j, hj, rfl⟩ := List.mem_map.1 h1
        rw [List.mem_range] at hj
        have e2 : ((allW n).getD j ByteArray.empty).data.toList = s.data.toList := by simpa using e
        have e3 : (allW n).getD j ByteArray.empty = s := by
          cases h3 : (allW n).getD j ByteArray.empty; cases s
          rw [h3] at e2
          simpa using e2
        obtain ⟨hil, hse⟩ := HS.out.2.2
        have e4 : (allW n)[j]'(by omega) = (allW n)[i]'hil := by
          rw [hse, ← e3]
          simp [show j < (allW n).length by omega]
        have := (List.getElem_inj HND.out).1 e4
        omega
      obtain ⟨es', hput, hpe⟩ := put_fresh (d := DataW.held (sl n (g, c))) hnew
      have hkey := strKey s (by have := HS.out.2.1.2; unfold maxLen; omega)
      have hRv : R' (.slice (some ⟨g, 0, none⟩) n c) = some (.held (sl n (g, c)), []) := hR'.1 _ (by rw [List.map_append]; exact List.mem_append_right _ (by simp [sl]))
      have hwords := kept_call HX.out.2 hb
      have HP := Go.Lib.hid (And.intro hput (And.intro hpe (And.intro hR' (And.intro hwords (And.intro ho hb)))))
      have HG := Go.Lib.hid (And.intro hgl (And.intro hperm (And.intro (fun j (hj : j < i) => kept_call (hrows j hj) hb) (And.intro hnd (And.intro (hbel.trans (hb.mono hbel.size)) (And.intro hWb hgj))))))
      have hszb : w1.heap.size < w2.heap.size := by have h1 := hmap2.lt; omega
      clear hput hpe hR hR' hwords ho hb hmap hgl hperm hrows hnd hbel hWb hgj hnew hck CB
      go_wp2_with (at_mapUpdate; refine wpList_mapUpdate_own _ rfl _ _ _ 112 rfl 9 29 strKeyed Try.underlying112 R' w1.heap.size i (.map es) rfl hmap2 (by unfold maxLen; omega) _ _ (.string s.data.toList) rfl rfl hkey (.held (sl n (g, c))) [] hRv ?_; intro w3 hown3 hgrow3)
      rw [HP.out.1] at hown3
      have hM : Mid zs n W w1.heap.size (i + 1) (gs ++ [(g, c)]) w3 := by
        obtain ⟨hgl, hperm, hrows, hnd, hbel, hWb, hgj⟩ := HG.out
        refine ⟨by rw [List.length_append, hgl]; rfl, ⟨es', R', HP.out.2.2.1, hown3, ?_⟩, ?_, ?_, ?_, hWb⟩
        · refine HP.out.2.1.trans ?_
          rw [List.map_append, List.map_cons, List.map_nil, prs_next, prs_snoc _ _ _ _ (by rw [List.length_map, hgl]; exact Nat.le_refl _)]
          have e1 : (gs.map (sl n) ++ [sl n (g, c)]).getD i undef = sl n (g, c) := by
            rw [List.getD_eq_getElem?_getD, List.getElem?_append_right (by rw [List.length_map, hgl]; exact Nat.le_refl _), List.length_map, hgl]
            simp
          rw [e1, HS.out.1]
          exact (hperm.cons _).trans (List.perm_append_comm (l₁ := [_])).symm.symm
        · intro j hj
          by_cases hji : j < i
          · rw [getD_left (by omega)]
            exact own_map (hrows j hji) hmap2 hgrow3
          · have hje : j = i := by omega
            subst hje
            rw [getD_right (by omega), hgl, Nat.sub_self, HS.out.1]
            exact own_lower (own_map HP.out.2.2.2.2.1 hmap2 hgrow3) (by have h1 := HX.out.1.2.2.2.2.1.size; exact h1)
        · rw [List.map_append, List.nodup_append]
          refine ⟨hnd, by simp, ?_⟩
          intro a ha b' hb' e
          simp at hb'
          subst hb'
          obtain ⟨r, hr, rfl⟩ := List.mem_map.1 ha
          obtain ⟨j, hj, hjr⟩ := mem_at hr
          exact hgj j (by omega) (by rw [hjr]; exact e)
        · exact hbel.grown hgrow3 hbel.size (fun k hk => by cases hk; exact hWb)
      have HXN := Go.Lib.hid (And.intro hM (own_map HP.out.2.2.2.1 hmap2 hgrow3))
      clear hM hmap2 hown3 hgrow3 hRv hkey HP HG
      go_wp2
      go_roundw
      case rel => exact ⟨i + 1, gs ++ [(g, c)], by omega, by go_num, HXN⟩
      case measure => simp [intOf]; omega
    · have hin : i = N := by omega
      subst hin
      have hlti : ¬ (i : Int) < (i : Int) := by omega
      go_wp2
      go_ret
      exact ⟨_, gs, rfl, by rw [HN.out]; exact HX.out.1⟩

end Go.Proofs.Ytecbfoodkcgehab.ByWordC

/-
  A range over a function whose iterator hands on values of which it knows something in the world of the moment (a slice that it has made): what the body is told beside the value. Conditions: as stated.
-/
namespace Go.Proofs.Ytecbfoodkcgehab.RangeC
open Go.RowKit

/-- An iterator of which is known: at each value that it hands on, Pre holds of it and the world. -/
def Hands {α : Type} (F : Fence) (n : Nat) (P : Program) (g : Nat) (lb : Array Value) (encs : α → Array Value) (Pre : α → World → Prop) (Kp : World → World → Prop) (S Sp : List α → Prop) (N : Nat) (w : World) : Prop :=
  ∀ (l : Nat) (J Jx : List α → World → Prop) (W : World), Below w.heap.size w W → AbidesFrom W.heap.size J →
    (∀ so x X, J so X → Pre x X → so.length < N → YieldAt F (n - 1) P l (encs x) X fun e Y =>
      (e = .returned (.bool true) ∧ J (so ++ [x]) Y ∧ Kp X Y) ∨ (e = .returned (.bool false) ∧ Jx (so ++ [x]) Y)) →
    J [] W → CallsIn F n P g (#[.func (.yield l) #[] #[]] ++ lb) W fun e Y => (∃ v, e = .returned v) ∧ ((∃ xs, S xs ∧ J xs Y) ∨ (∃ so, Sp so ∧ Jx so Y))

variable {F : Fence} {n : Nat} {P : Program} {w : World}

/-- What a round is told of its loop: the record, and the block for deferred calls ahead of it. -/
def Laid (w : World) (rec : LoopState → Option Code → Loop) (st : LoopState) (pe : Option Code) (W : World) : Prop :=
  W.heap[w.heap.size + 1]? = some (.loop (rec st pe)) ∧ W.heap[w.heap.size]? = some (.deferred (some []))

theorem Laid.from {rec : LoopState → Option Code → Loop} {st : LoopState} {pe : Option Code} {A B : World} (h : Laid w rec st pe A) (k : KeepsFrom w.heap.size A B) : Laid w rec st pe B :=
  ⟨k.same _ _ (by omega) h.1 rfl, k.same _ _ (Nat.le_refl _) h.2 rfl⟩

theorem Laid.put {rec : LoopState → Option Code → Loop} {st st' : LoopState} {pe pe' : Option Code} {A : World} (h : Laid w rec st pe A) : Laid w rec st' pe' (A.putObj (w.heap.size + 1) (.loop (rec st' pe'))) :=
  ⟨World.putObj_heap_same (Array.getElem?_eq_some_iff.1 h.1).1, (World.putObj_heap_other (by omega)).trans h.2⟩

theorem Laid.kept {rec : LoopState → Option Code → Loop} {st : LoopState} {pe : Option Code} {A B : World} {row : Option Nat} (h : Laid w rec st pe A) (hg : A.grownBy B row) (hr : ∀ r, row = some r → ∃ o : Obj, A.heap[r]? = some o ∧ o.isWalk = true) : Laid w rec st pe B :=
  ⟨(grownBy_keeps hg hr h.1 rfl).trans h.1, (grownBy_keeps hg hr h.2 rfl).trans h.2⟩

set_option maxHeartbeats 1000000 in
theorem range_hands {α : Type} {g : Operand} {ps : Array Tmp} {assign body : Code} {Q : Exit → Act → World → Prop} {a : Act}
    (hro : F.round = none) (h1 : 1 ≤ n) {gf : Nat} {lb : Array Value} (hg : a.eval g = .func (.func gf) #[] lb) (hFg : F.fn gf) (eg : ∀ args w, (callFunc gf args).run P w = .ok (.enter gf args) w)
    {encs : α → Array Value} {Pre : α → World → Prop} {Kp : World → World → Prop} {S Sp : List α → Prop} {N : Nat} {w0 : World} (hseq : Hands F (n - 1) P gf lb encs Pre Kp S Sp N w0)
    (hKt : ∀ {A B C : World}, Kp A B → Kp B C → Kp A C) (hKb : ∀ (W : World) (l : Nat) (o o' : Obj), w.heap.size ≤ l → W.heap[l]? = some o → o.isCells = false → o.isWalk = false → Kp W (W.putObj l o')) (hb0 : Below w0.heap.size w0 w) (hps : ∀ x, (encs x).size = ps.size)
    (I : List α → World → Prop) (Ix : Code → List α → World → Prop) (hI : OwnFrom w.heap.size I) (hIx : ∀ c, OwnFrom w.heap.size (Ix c)) (hPre : ∀ x, OwnFrom w.heap.size (fun (_ : Unit) W => Pre x W)) (h0 : I [] w) (a₁ : α → Act)
    (hassign : ∀ (l : Nat) (x : α) (W : World) (K : Act → World → Prop), K (a₁ x) W →
      assign.wpIn (F.inRound l) (n - 1 - 1) P (Exit.then K (fun _ _ _ => False)) { tmps := (ps.zip (encs x)).foldl (fun t (p, v) => t.setIfInBounds p v) a.tmps, defers := [] } W)
    (hbody : ∀ (l : Nat) (so : List α) (x : α) (W : World), I so W → Pre x W → so.length < N → body.wpIn (F.inRound l) (n - 1 - 1) P (ownPostG w.heap.size Kp I Ix (so ++ [x]) W) (a₁ x) W)
    (hdone : ∀ (D : Nat) (xs : List α) (W : World), w.heap.size ≤ D → S xs → I xs W → W.heap[D]? = some (.deferred (some [])) → Q .normal { a with defers := { target := .collected D, args := #[] } :: a.defers } W)
    (hstop : ∀ (D : Nat) (c : Code) (so : List α) (W : World), w.heap.size ≤ D → Sp so → Ix c so W → W.heap[D]? = some (.deferred (some [])) → c.wpIn F n P Q { a with defers := { target := .collected D, args := #[] } :: a.defers } W) :
    (Code.rangeFunc g ps assign body).wpIn F n P Q a w := by
  refine wpIn_rangeFunc fun fn hfn => ?_
  rw [hro]
  obtain ⟨rec, hrec⟩ : ∃ rec : LoopState → Option Code → Loop, rec = fun st pe => { state := st, pending := pe, fn := fn, tmps := a.tmps, params := ps, assign := assign, body := body, defers := w.heap.size } := ⟨_, rfl⟩
  obtain ⟨W1, hW1⟩ : ∃ W1, (w.alloc (.deferred (some []))).alloc (.loop (rec .ready none)) = W1 := ⟨_, rfl⟩
  have hsz : W1.heap.size = w.heap.size + 2 := by rw [← hW1]; simp
  have hL1 : Laid w rec .ready none W1 := by
    rw [← hW1]
    refine ⟨?_, (Below.heap_alloc _ _ _ (by simp)).trans (World.alloc_heap_new w _)⟩
    have := World.alloc_heap_new (w.alloc (.deferred (some []))) (.loop (rec .ready none))
    rwa [World.size_alloc] at this
  have hI1 : I [] W1 := by rw [← hW1]; exact hI.alloc _ (hI.alloc _ h0)
  have hb1 : Below w0.heap.size w0 W1 := by
    rw [← hW1]; exact hb0.trans ((((Below.refl _ w).alloc (Nat.le_refl _) _).alloc (by simp) _).mono hb0.size)
  have hput : ∀ {X : World} {st st' : LoopState} {pe pe' : Option Code}, Laid w rec st pe X → Kp X (X.putObj (w.heap.size + 1) (.loop (rec st' pe'))) := fun h => hKb _ _ _ _ (by omega) h.1 rfl rfl
  refine ⟨w.heap.size + 1, [{ target := .collected w.heap.size, args := #[] }], W1, { target := .fn (.func gf) lb, args := #[.func (.yield (w.heap.size + 1)) #[] #[]] }, W1, gf,
    #[.func (.yield (w.heap.size + 1)) #[] #[]] ++ lb, W1, by rw [← hW1, hrec]; exact run_enterLoop_outer _ _ _ _ _, by simp only [resolve, hg]; simp [go_sem], fun f' hf' => by simp [Target.leads] at hf'; subst hf'; exact hFg,
    by simp [invoke, go_sem, eg], fun _ => h1, ?_⟩
  refine (hseq (w.heap.size + 1) (fun so W => I so W ∧ Laid w rec .ready none W) (fun so W => ∃ c, Ix c so W ∧ Laid w rec .done (some c) W) W1 hb1
    (fun s A B row hs hgr hr => ⟨hI s A B row hs.1 hgr (fun r e => by obtain ⟨h2, o, ho, hw⟩ := hr r e; exact ⟨by omega, o, ho, Obj.not_cells_of_walk hw⟩), hs.2.kept hgr (fun r e => (hr r e).2)⟩) ?_ ⟨hI1, hL1⟩).mono ?_
  · rintro so x W ⟨hi, hl⟩ hpx hlen
    have hy := run_yield (P := P) (args := encs x) hl.1 (by rw [hrec]; exact hps x)
    rw [hrec] at hy
    refine ⟨fn, _, assign, body, hy, roundIn_of_wpIn hfn (hassign _ x W _ ?_)⟩
    clear hy
    have hl2 : Laid w rec .busy none (W.putObj (w.heap.size + 1) (.loop (rec .busy none))) := hl.put
    have hkb := hput (st' := .busy) (pe' := none) hl
    refine ⟨W.putObj (w.heap.size + 1) (.loop (rec .busy none)), by have h2 := run_beginRound (P := P) hl.1 (by rw [hrec]); rw [h2, hrec], ?_⟩
    refine wpIn_mono (hbody _ so x _ (hI.putObj _ hi (by omega) hl.1 rfl) ((hPre x).putObj (s := ()) _ hpx (by omega) hl.1 rfl) hlen) ?_
    have fin : ∀ (jump : Option Code) (W3 : World), KeepsFrom w.heap.size (W.putObj (w.heap.size + 1) (.loop (rec .busy none))) W3 →
        (Instr.endRound (w.heap.size + 1) jump).run P W3 = .ok (.bool jump.isNone) (W3.putObj (w.heap.size + 1) (.loop (rec (if jump.isNone then .ready else .done) jump))) ∧ Laid w rec .busy none W3 := fun jump W3 hk3 => by
      have hl3 := hl2.from hk3
      have h2 := run_endRound (P := P) jump hl3.1
      rw [h2, hrec]
      exact ⟨rfl, by rw [hrec] at hl3; exact hl3⟩
    rintro e a3 W3 hp
    cases e with
    | normal =>
      obtain ⟨hr, hl3⟩ := fin none W3 hp.1
      exact ⟨_, _, hr, .inl ⟨rfl, ⟨hI.putObj _ hp.2.2 (by omega) hl3.1 rfl, hl3.put⟩, hKt (hKt hkb hp.2.1) (hput hl3)⟩⟩
    | ret =>
      obtain ⟨hr, hl3⟩ := fin (some .ret) W3 hp.1
      exact ⟨_, _, hr, .inr ⟨rfl, .ret, (hIx _).putObj _ hp.2 (by omega) hl3.1 rfl, hl3.put⟩⟩
    | exit id =>
      obtain ⟨hr, hl3⟩ := fin (some (.exit id)) W3 hp.1
      exact ⟨_, _, hr, .inr ⟨rfl, .exit id, (hIx _).putObj _ hp.2 (by omega) hl3.1 rfl, hl3.put⟩⟩
    | goto t =>
      obtain ⟨hr, hl3⟩ := fin (some (.goto t)) W3 hp.1
      exact ⟨_, _, hr, .inr ⟨rfl, .goto t, (hIx _).putObj _ hp.2 (by omega) hl3.1 rfl, hl3.put⟩⟩
    | panic ch => exact hp.elim
    | outgrown => exact hp.elim
  · rintro e W2 ⟨⟨v, rfl⟩, (⟨xs, hS, hi, hl⟩ | ⟨so, hSp, c, hi, hl⟩)⟩
    · have h2 := run_endLoop (P := P) hl.1 (by rw [hrec]; simp)
      have h3 : (rec .ready none).pending = none := by rw [hrec]
      rw [h3] at h2
      exact ⟨none, _, h2, hdone _ xs _ (Nat.le_refl _) hS (hI.putObj _ hi (by omega) hl.1 rfl) ((World.putObj_heap_other (by omega)).trans hl.2)⟩
    · have h2 := run_endLoop (P := P) hl.1 (by rw [hrec]; simp)
      have h3 : (rec .done (some c)).pending = some c := by rw [hrec]
      rw [h3] at h2
      exact ⟨some c, _, h2, hstop _ c so _ (Nat.le_refl _) hSp ((hIx c).putObj _ hi (by omega) hl.1 rfl) ((World.putObj_heap_other (by omega)).trans hl.2)⟩

end Go.Proofs.Ytecbfoodkcgehab.RangeC

/-
  Contracts: maps.Values of a map from texts to slices, and its iterator: each value comes once, in some order. Conditions: as stated.
-/
namespace Go.Proofs.Ytecbfoodkcgehab.ValsC
open Go.RowKit Go.Shelf Go.Maps SeesC IntsC ExactC RangeC MapRowsC ByWordC

attribute [local go_sem] Oper.semAt_some

theorem str_under : Try.prog.underlying 9 = some .string := Try.underlying9

set_option maxRecDepth 100000 in
set_option maxHeartbeats 2000000 in
theorem values_hands (n b nn Bm : Nat) (es : List (Lit × DV)) (V : List Value) (R : Value → Option (DV × List MemPlace)) (hR : IsR V R) (hV : ∀ v ∈ V, ∃ a l c, v = Value.slice a l c) (hn : 1 ≤ n) (w : World) (hlt : Bm < w.heap.size) (hBm : w.cell? ⟨Bm, 0, none⟩ = some (.map (some b))) (hown0 : w.ownsMap Try.prog 9 R b nn (.map es)) :
    Hands (α := Value) Fence.wide n Try.prog 196 #[.pointer (some ⟨Bm, 0, none⟩)] (fun x => #[x]) (fun x _ => ∃ a l c, x = .slice a l c) KeepsWalks (fun xs => ∃ ss : List (List UInt8), ss.Perm (strKeys (DataW.map es)) ∧ xs = ss.map (valAt (.map es))) (fun _ => True) (strKeys (DataW.map es)).length w := by
  intro l J Jx W hW hJ hY h0
  have hm : W.cell? ⟨Bm, 0, none⟩ = some (.map (some b)) := (hW.cell (p := ⟨Bm, 0, none⟩) hlt).trans hBm
  have hown : W.ownsMap Try.prog 9 R b nn (.map es) := map_kept hown0 hW
  have HY := Go.Lib.hid hY
  have HJ := Go.Lib.hid hJ
  clear hY hJ hBm hown0 hW hlt
  refine callsIn_of_wp Try.func196 rfl trivial ?_ rfl
  simp only [Try.ntmps196, List.size_toArray, List.length_cons, List.length_nil, Nat.reduceAdd, Nat.reduceSub, Array.replicate_succ, Array.replicate_zero, List.push_toArray, List.append_toArray, List.nil_append, List.cons_append]
  gi_wp2_with (gi_at_range; refine wpListIn_range_own _ rfl _ 112 rfl 9 29 strKeyed Try.underlying112 _ b nn _ rfl hown ?_; intro w0 hrg0 hg0 hs0)
  (try go_frame)
  gi_loopw [4] (fun _ wr => ∃ (left : Lit → Bool) (cnt : Nat) (ss : List (List UInt8)), wr.ranges Try.prog 9 R b W.heap.size nn (.map es) left cnt ∧ Collected (.map es) left ss ∧ J (ss.map (valAt (.map es))) wr)
    (fun _ wr => wr.rangeLeft b W.heap.size)
  case atStart =>
    exact ⟨_, _, [], hrg0, Collected.start _, HJ.out [] W w0 none h0 hg0 (fun r e => by cases e)⟩
  case round =>
    obtain ⟨left, cnt, ss, hrg, hC, hJs⟩ := hrel
    gi_wp2_with (gi_at_next; refine wpListIn_next_ranges _ rfl _ rfl 9 strKeyed R Go.Proofs.encStr id (fun key kl hk => by obtain ⟨x, hx, _⟩ := Maps.keyOf_str str_under hk; exact ⟨x, hx⟩) (fun v _ _ => ⟨v, rfl⟩) b W.heap.size nn _ _ _ rfl hrg ?_ ?_)
    · intro hc0 hl0
      gi_wp2
      go_end0
      exact ⟨⟨_, rfl⟩, .inl ⟨_, ⟨ss, hC.perm hown strKeyed str_under hl0, rfl⟩, hJs⟩⟩
    · intro x c kl yd yp w2 cnt2 hkey hlk hv hat hrg2 hlt hg2 hs2 hen
      obtain ⟨x', ex, rfl, _⟩ := Maps.keyOf_str str_under hkey
      obtain rfl : x = x' := encStr_inj ex
      have hJ2 : J (ss.map (valAt (.map es))) w2 := HJ.out _ wr w2 (some W.heap.size) hJs hg2 (fun r e => by cases e; exact ⟨Nat.le_refl _, hrg.iter_walk⟩)
      have hyd := (hR.2 _ _ hv).2
      have hva : valAt (.map es) x = c := by
        unfold valAt
        rw [hat]
        cases hyd
        rfl
      have hss : ss.map (valAt (.map es)) ++ [c] = (ss ++ [x]).map (valAt (.map es)) := by rw [List.map_append, List.map_cons, List.map_nil, hva]
      obtain ⟨fn, tmps, assign, body, hy, hRd⟩ := HY.out _ c w2 hJ2 (hV _ (hR.2 _ _ hv).1) (by rw [List.length_map]; exact collected_len hC hlk hat)
      rw [hss] at hRd
      clear hs2 hss hva hyd
      gi_wp2
      refine hRd.mono ?_
      rintro e W3 (⟨rfl, hJ3, hk3⟩ | ⟨rfl, hJx3⟩)
      · gi_wp2
        have hrg3 := hrg2.of_walks hk3
        go_roundw
        case rel => exact ⟨_, cnt2, ss ++ [x], hrg3, hC.step hlk hat, hJ3⟩
        case measure => rw [hrg3.left_eq, hrg.left_eq]; exact hlt
      · gi_wp2
        refine bodyPost_ret (results_none rfl _ _ _) rfl ?_
        exact ⟨⟨_, rfl⟩, .inr ⟨_, trivial, hJx3⟩⟩

set_option maxHeartbeats 1000000 in
theorem values_any (mb : Option Nat) (w : World) :
    Calls Try.prog 166 #[.map mb] w fun e w' => e = .returned (.func (.func 196) #[] #[.pointer (some ⟨w.heap.size, 0, none⟩)]) ∧ w' = w.alloc (.cells #[.map mb] 112) := by
  go_enter Try.func166, Try.ntmps166
  go_wp2
  go_ret
  exact ⟨rfl, rfl⟩

end Go.Proofs.Ytecbfoodkcgehab.ValsC

/-
  Contracts: slices.AppendSeq, slices.Collect behind no slice, over an iterator that hands on each value of some once. Conditions: as stated.
-/
namespace Go.Proofs.Ytecbfoodkcgehab.SeqAllC
set_option linter.unusedVariables false
open Go.RowKit Go.Shelf Go.Maps SeesC IntsC ExactC RangeC MapRowsC ByWordC ValsC AppendTwoC ListsFC

attribute [local go_sem] Oper.semAt_some

/-- A list of slices is returned, in memory of the call's own: all that the iterator hands on, in some order. -/
def AllTo (S : List Value → Prop) (w : World) (e : Ending) (w' : World) : Prop := ∃ xs v, e = .returned v ∧ S xs ∧ w'.ownsRow w.heap.size 29 1 v xs.length xs ∧ Below w.heap.size w w'

set_option maxRecDepth 100000 in
set_option maxHeartbeats 2000000 in
theorem appendSeq_in (n : Nat) (hn : 3 ≤ n) (gf : Nat) (lb : Array Value) (eg : ∀ args w, (callFunc gf args).run Try.prog w = .ok (.enter gf args) w) (S : List Value → Prop) (N : Nat) (hN : N ≤ 16384) (w : World)
    (hseq : Hands (α := Value) Fence.wide (n - 1) Try.prog gf lb (fun x => #[x]) (fun x _ => ∃ a l c, x = .slice a l c) KeepsWalks S (fun _ => True) N w) :
    CallsIn Fence.wide n Try.prog 209 #[.slice none 0 0, .func (.func gf) #[] lb] w (AllTo S w) := by
  have h1 : 1 ≤ n := by omega
  obtain ⟨j0, hj, hy0, hy1, hy2⟩ := info_parts infoL
  refine callsIn_of_wp_marks Try.func209 rfl trivial ?_ rfl
  simp only [Try.ntmps209, List.size_toArray, List.length_cons, List.length_nil, Nat.reduceAdd, Nat.reduceSub, Array.replicate_succ, Array.replicate_zero, List.push_toArray, List.append_toArray, List.nil_append, List.cons_append]
  gi_wp2_with fail
  have bO := Boxed.new w 24 (.slice none 0 0)
  have hB0 : Below w.heap.size w (w.alloc (.cells #[.slice none 0 0] 24)) := (Below.refl _ _).alloc (Nat.le_refl _) _
  have hsz : (w.alloc (.cells #[.slice none 0 0] 24)).heap.size = w.heap.size + 1 := by simp
  obtain ⟨Wl, hWl⟩ : ∃ Wl, w.alloc (.cells #[.slice none 0 0] 24) = Wl := ⟨_, rfl⟩
  rw [hWl] at bO hB0 hsz ⊢
  clear hWl
  refine range_hands rfl h1 (gf := gf) (lb := lb) rfl trivial eg hseq (fun h k => h.trans k) walksK_b hB0 (fun _ => rfl)
    (fun so X => (∃ v, Boxed X w.heap.size 24 v ∧ X.ownsRow w.heap.size 29 1 v so.length so ∧ True) ∧ Below w.heap.size Wl X)
    (fun _ _ _ => False)
    (OwnFrom.and (Own.from (holdsRow_own w.heap.size w.heap.size 24 29 1 (fun so : List Value => so.length) (fun so => so) (fun _ _ => True)) _) (ownFrom_below (by omega) (by omega)))
    (fun _ _ _ _ _ hs _ _ => hs) (fun x _ _ _ _ hs _ _ => hs) ⟨⟨_, bO, World.ownsRow_nil _ _ _ _, trivial⟩, Below.refl _ _⟩
    (fun x => { tmps := #[.slice none 0 0, .func (.func gf) #[] lb, .pointer (some ⟨w.heap.size, 0, none⟩), undef, .slice none 0 0, x, .func (.func gf) #[] lb, x, undef, undef, undef, undef, undef], defers := [] }) ?assign ?body ?done ?stop
  case assign =>
    intro l x X K hK
    gi_wp2
    exact hK
  case body =>
    rintro l so x X ⟨⟨v, hv, hrow, -⟩, hB⟩ hx1 hlt
    have hc := hv.cell
    have hWs : w.heap.size + 1 ≤ X.heap.size := by have := hB.size; omega
    obtain ⟨xa, xl, xc, rfl⟩ := hx1
    obtain ⟨_, va, vc, rfl, _, _⟩ := Sees.owns hrow
    gi_wp2_with (gi_at_builtin; refine wpListIn_append_two _ rfl _ _ 24 rfl w.heap.size 29 j0 (.slice none 0 0) 1 24 Try.underlying24 hj hy0 hy1 hy2 rfl (by decide) _ _ _ rfl (hrow.alloc _) ⟨X.heap.size, 0, none⟩ 1 1 [.slice xa xl xc] rfl rfl (cell_one_new _ _ _) (by simp [Value.oneCell']) (by unfold maxLen; omega) (by omega) (by simp; omega) ?_; intro v' w1 hown' hgrow hnew; obtain ⟨g', cap', rfl⟩ := ownsRow_succ hown'; obtain ⟨hv1, hv2, hr2, hk2, hb2⟩ := hv.appended (by decide) hrow (by omega) (by omega) hown' hgrow; have hc1 := hv1.cell; have hf1 := hv1.frozen)
    exact ⟨hk2.from _, ⟨hk2.size, fun k o h hw => hk2.same k o h (Obj.not_cells_of_walk hw)⟩, ⟨_, hv2, by simpa using hr2⟩, hB.trans hb2⟩
  case done =>
    rintro D ys X hD hys ⟨⟨v, hv, hrow, -⟩, hB⟩ hK
    have hc := hv.cell
    gi_wp2
    refine ⟨by simp, .inl ⟨_, _, rfl, run_takeDeferred hK, ?_⟩⟩
    exact ⟨_, results_tmp rfl _ _ _, ys, v, rfl, hys, ownsRow_putObj hrow _ hK rfl, hB0.trans (hB.trans (belowK_b (w := Wl) (by omega) X D _ _ (by omega) hK rfl rfl))⟩
  case stop =>
    rintro D c so X _ _ h _
    exact h.elim

set_option maxHeartbeats 1000000 in
theorem collect_any (gf : Nat) (lb : Array Value) (eg : ∀ args w, (callFunc gf args).run Try.prog w = .ok (.enter gf args) w) (S : List Value → Prop) (N : Nat) (hN : N ≤ 16384) (w : World)
    (hseq : Hands (α := Value) Fence.wide 2 Try.prog gf lb (fun x => #[x]) (fun x _ => ∃ a l c, x = .slice a l c) KeepsWalks S (fun _ => True) N w) :
    Calls Try.prog 194 #[.func (.func gf) #[] lb] w (AllTo S w) := by
  have CA := Go.Lib.hid (callsIn_wide.1 (appendSeq_in 3 (by omega) gf lb eg S N hN w hseq))
  clear hseq eg
  go_enter Try.func194, Try.ntmps194
  go_wp2_with fail
  refine (CA.out).mono ?_
  rintro e w1 ⟨xs, v, rfl, hS, ho, hb⟩
  have H1 := Go.Lib.hid (And.intro hS (And.intro ho hb))
  clear hS ho hb
  go_wp2_with fail
  go_ret
  exact ⟨xs, _, rfl, H1.out.1, H1.out.2.1, H1.out.2.2⟩

end Go.Proofs.Ytecbfoodkcgehab.SeqAllC

/-
  The mathematics of the orders that are swept to one: the order before another one by a word comes out as that one. Conditions: none. Plain facts.
-/
namespace Go.Proofs.Ytecbfoodkcgehab.SwfM
open NumC OrdMath WordMath OrdFacts EndsM SweepM StackM WordFacts CmpC ListsBC OutsMath AllO RunC

/-- What runs as places runs as the numbers at them. -/
def num (zs : List Int) (p : Int) : Int := zs.getD (p - 1).toNat 0

theorem nat_run {zs : List Int} {n : Nat} {w : ByteArray} (_hl : zs.length = n) (hw : Word w) (hs : w.size = 2 * n) : ∀ k, k ≤ w.size →
    runTo zs w k = ((runTo (iota n) w k).1.map (num zs), (runTo (iota n) w k).2.1.map (num zs), (runTo (iota n) w k).2.2) := by
  intro k
  induction k with
  | zero => intro _; rfl
  | succ k ih =>
    intro hk
    have ih' := ih (by omega)
    obtain ⟨d, hd, hd1, hd2, hc⟩ := hw.at (k := k) (by omega)
    have hrl := run_len (zs := iota n) k d hd
    obtain ⟨o, s, x, hr⟩ : ∃ o s x, runTo (iota n) w k = (o, s, x) := ⟨_, _, _, rfl⟩
    rw [hr] at ih' hrl
    simp only at ih' hrl
    rcases hc with ⟨hI, _, h3⟩ | ⟨hO, hd0, _⟩
    · rw [run_I hr hI, run_I ih' hI]
      have hx : x < n := by omega
      have e : num zs ((iota n).getD x 0) = zs.getD x 0 := by
        rw [iota_getD hx]
        unfold num
        congr 1
        omega
      show _ = ((o.map (num zs)), (s ++ [(iota n).getD x 0]).map (num zs), x + 1)
      rw [List.map_append, List.map_cons, List.map_nil, e]
    · rw [run_O hr hO, run_O ih' hO]
      obtain ⟨a, p, hap, hlast, hdrop⟩ := split_last (l := s) (by omega)
      rw [hlast, hdrop]
      subst hap
      simp

theorem run_nat {zs : List Int} {n : Nat} {w : ByteArray} (hl : zs.length = n) (hw : Word w) (hs : w.size = 2 * n) : runOut zs w = (runOut (iota n) w).map (num zs) := by
  unfold runOut
  rw [nat_run hl hw hs w.size (Nat.le_refl _)]

theorem bef_get {out ps : List Int} (h : Ord ps) (hl : out.length = ps.length) : ∀ k, k ≤ ps.length → ∀ j, j < k → (befTo out ps k).getD (ps.getD j 0 - 1).toNat 0 = out.getD j 0 := by
  intro k
  induction k with
  | zero => intro _ j hj; omega
  | succ k ih =>
    intro hk j hj
    obtain ⟨m, hm, hm2⟩ := h.getD (k := k) (by omega)
    show ((befTo out ps k).set (ps.getD k 0 - 1).toNat (out.getD k 0)).getD (ps.getD j 0 - 1).toNat 0 = out.getD j 0
    by_cases e : j = k
    · subst e
      rw [getD_set_same _ _ _ (by rw [befTo_len, hl, hm]; omega)]
    · obtain ⟨q, hq, hq2⟩ := h.getD (k := j) (by omega)
      rw [getD_set_other _ _ _ _ (by
        intro e2
        have e3 : ps.getD k 0 = ps.getD j 0 := by omega
        have e4 : ps[k]'(by omega) = ps[j]'(by omega) := by simpa [show k < ps.length by omega, show j < ps.length by omega] using e3
        have := (List.getElem_inj h.2.2.2).1 e4
        omega)]
      exact ih (by omega) j (by omega)

theorem before_len (out : List Int) (w : ByteArray) : (beforeOf out w).length = out.length := befTo_len _ _ _

theorem places_ord {n : Nat} {w : ByteArray} (h1 : 1 ≤ n) (h7 : n ≤ 7) (hw : Word w) (hs : w.size = 2 * n) : Ord (runOut (iota n) w) ∧ (runOut (iota n) w).length = n := by
  have hs2 : w.size = 2 * (iota n).length := by rw [iota_len]; exact hs
  exact ⟨ord_run (ord_iota h1 h7) hs2 hw, by rw [runOut_len hw hs2, iota_len]⟩

theorem run_before {out : List Int} {w : ByteArray} (h1 : 1 ≤ out.length) (h7 : out.length ≤ 7) (hw : Word w) (hs : w.size = 2 * out.length) : runOut (beforeOf out w) w = out := by
  have hp := places_ord h1 h7 hw hs
  rw [run_nat (before_len out w) hw hs]
  apply List.ext_getElem
  · rw [List.length_map, hp.2]
  · intro j hj1 hj2
    have hjp : j < (runOut (iota out.length) w).length := by simpa using hj1
    have h3 := bef_get hp.1 hp.2.symm (runOut (iota out.length) w).length (Nat.le_refl _) j hjp
    rw [List.getElem_map]
    unfold num beforeOf
    have e1 : (runOut (iota out.length) w)[j] = (runOut (iota out.length) w).getD j 0 := by simp [hjp]
    rw [e1]
    rw [hp.2] at h3
    rw [h3]
    simp [hj2]

theorem before_run {ys : List Int} {w : ByteArray} (h1 : 1 ≤ ys.length) (h7 : ys.length ≤ 7) (hw : Word w) (hs : w.size = 2 * ys.length) : beforeOf (runOut ys w) w = ys := by
  have hp := places_ord h1 h7 hw hs
  have hol : (runOut ys w).length = ys.length := runOut_len hw hs
  apply List.ext_getElem
  · rw [before_len, hol]
  · intro p hp1 hp2
    obtain ⟨j, hj, e⟩ := ord_surj hp.1 (p := p) (by rw [hp.2]; exact hp2)
    have h3 := bef_get (out := runOut ys w) hp.1 (by rw [hol, hp.2]) (runOut (iota ys.length) w).length (Nat.le_refl _) j hj
    have e2 : ((p : Int) + 1 - 1).toNat = p := by omega
    rw [e, e2] at h3
    have h4 : (beforeOf (runOut ys w) w).getD p 0 = ys.getD p 0 := by
      have h5 : beforeOf (runOut ys w) w = befTo (runOut ys w) (runOut (iota ys.length) w) (runOut (iota ys.length) w).length := by
        unfold beforeOf
        rw [hol, hp.2]
      rw [h5, h3]
      rw [run_nat rfl hw hs]
      have e5 : ((runOut (iota ys.length) w).map (num ys)).getD j 0 = num ys ((runOut (iota ys.length) w).getD j 0) := by simp [hj]
      rw [e5, e]
      unfold num
      rw [e2]
    have e6 : (beforeOf (runOut ys w) w)[p] = (beforeOf (runOut ys w) w).getD p 0 := by simp [hp1]
    have e7 : ys[p] = ys.getD p 0 := by simp [hp2]
    rw [e6, e7, h4]

theorem ord_before {out : List Int} {w : ByteArray} (ho : Ord out) (hw : Word w) (hs : w.size = 2 * out.length) : Ord (beforeOf out w) := by
  have hr := run_before ho.1 ho.2.1 hw hs
  have hs2 : w.size = 2 * (beforeOf out w).length := by rw [before_len]; exact hs
  have h := run_mem (zs := beforeOf out w) hs2 hw w.size (Nat.le_refl _)
  have hrl := run_len (zs := beforeOf out w) w.size 0 hw.2.2
  have hst : (runTo (beforeOf out w) w w.size).2.1 = [] := List.eq_nil_of_length_eq_zero hrl.1
  rw [hst, List.append_nil, List.take_of_length_le (by omega)] at h
  have hp : (beforeOf out w).Perm out := by rw [← hr] ; exact (by rw [hr]; exact h.symm.trans (by unfold runOut at hr; rw [hr]))
  exact ord_of_perm (hp.trans (ord_perm ho)) ho.1 ho.2.1

/-! ### The orders that are swept to one -/
def swOk (out : List Int) (w : ByteArray) : Bool := decide (txt (swWord (beforeOf out w)) = w)

def Swf (zs : List Int) (R : List (List Int)) : Prop := if Ord zs then Sorted R ∧ ∀ y, y ∈ R ↔ (Ord y ∧ y.length = zs.length ∧ sweepL y = zs) else R = []

theorem sorted_nodup {R : List (List Int)} (h : Sorted R) : R.Nodup := by
  refine List.Pairwise.imp ?_ h
  intro a b hab e
  rw [e, cmpL_same] at hab
  omega

theorem swf_unique {zs : List Int} {R S : List (List Int)} (h1 : Swf zs R) (h2 : Swf zs S) : R = S := by
  unfold Swf at h1 h2
  by_cases h : Ord zs
  · rw [if_pos h] at h1 h2
    refine sorted_unique R S h1.1 h2.1 ((List.perm_ext_iff_of_nodup (sorted_nodup h1.1) (sorted_nodup h2.1)).2 (fun y => ?_))
    rw [h1.2, h2.2]
  · rw [if_neg h] at h1 h2
    rw [h1, h2]

theorem swf_spec {zs : List Int} (h : Ord zs) : Swf zs ((allO zs.length).filter (fun y => decide (sweepL y = zs))) := by
  unfold Swf
  rw [if_pos h]
  refine ⟨List.Pairwise.filter _ (allO_sorted h.1 h.2.1), fun y => ?_⟩
  rw [List.mem_filter, mem_allO h.1 h.2.1, decide_eq_true_eq, and_assoc]

theorem all_words {n : Nat} {w : ByteArray} (h1 : 1 ≤ n) (h7 : n ≤ 7) : w ∈ allW n ↔ (Word w ∧ w.size = 2 * n) := by
  constructor
  · exact all_mem h1 h7
  · rintro ⟨hw, hs⟩
    have h2 := all_rank hw
    rw [show w.size / 2 = n by omega] at h2
    exact List.mem_of_getElem? h2

theorem swf_impl {zs : List Int} {R : List (List Int)} (h : Ord zs) (hs : Sorted R) (hp : R.Perm (((allW zs.length).filter (swOk zs)).map (beforeOf zs))) : Swf zs R := by
  unfold Swf
  rw [if_pos h]
  refine ⟨hs, fun y => ?_⟩
  rw [hp.mem_iff, List.mem_map]
  constructor
  · rintro ⟨w, hw, rfl⟩
    rw [List.mem_filter] at hw
    have hww := (all_words h.1 h.2.1).1 hw.1
    have ho := ord_before h hww.1 hww.2
    refine ⟨ho, before_len _ _, ?_⟩
    have h2 := hw.2
    unfold swOk at h2
    rw [decide_eq_true_eq] at h2
    have h3 := sweep_word ho.1 ho.2.1
    rw [h2] at h3
    rw [← h3.2.2]
    exact run_before h.1 h.2.1 hww.1 hww.2
  · rintro ⟨ho, hl, he⟩
    have h3 := sweep_word ho.1 ho.2.1
    have hb : beforeOf zs (txt (swWord y)) = y := by
      rw [← he, ← h3.2.2]
      exact before_run ho.1 ho.2.1 h3.1 h3.2.1
    refine ⟨txt (swWord y), List.mem_filter.2 ⟨(all_words h.1 h.2.1).2 ⟨h3.1, by rw [h3.2.1, hl]⟩, ?_⟩, hb⟩
    unfold swOk
    rw [hb]
    simp

theorem swf_len {zs : List Int} {R : List (List Int)} (h : Swf zs R) : R.length ≤ 5040 ∧ ∀ y ∈ R, y.length = zs.length := by
  unfold Swf at h
  split at h
  · rename_i ho
    have h2 := swf_unique (R := R) (S := (allO zs.length).filter (fun y => decide (sweepL y = zs))) (by unfold Swf; rw [if_pos ho]; exact h) (swf_spec ho)
    refine ⟨?_, fun y hy => ((h.2 y).1 hy).2.1⟩
    rw [h2]
    refine Nat.le_trans (List.length_filter_le _ _) ?_
    rw [allO_len]
    exact fact_7 ho.2.1
  · rw [h]; simp

end Go.Proofs.Ytecbfoodkcgehab.SwfM
