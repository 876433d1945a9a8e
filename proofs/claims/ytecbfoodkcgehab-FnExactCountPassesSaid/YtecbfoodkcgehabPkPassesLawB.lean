/-
  On every argument CountPasses answers as its model and leaves its arguments as they were.
-/
import Derived.Test.YtecbfoodkcgehabPkPassesLawA
import Derived.Shelf.Small.Bits
import Derived.Shelf.Small.Wraps
import Derived.Shelf.Strconv.Itoa0
import Derived.Shelf.Slices.Reverse
import Derived.Ground.Names2Prog
import Derived.Shelf.Slices.Clone
import Derived.Shelf.Slices.SearchI
import Derived.Shelf.Slices.Delete
import Derived.Shelf.Slices.Cells
import Derived.Shelf.Slices.Empties
import Derived.Ground.SlgnProg
import Derived.Shelf.SlicesE.Clone
import Derived.Ground.SlsfProg
import Derived.Shelf.SlSortCmp.Insertion
import Derived.Test.YtecbfoodkcgehabProg
import Derived.Test.YtecbfoodkcgehabRRV
import Derived.Test.YtecbfoodkcgehabRowsM
import Derived.Deep.QuietTactic
import Derived.BigQuiet
import Derived.StillTailTactics
import Derived.Test.YtecbfoodkcgehabOutM
import Derived.IntWalk
import Derived.Test.YtecbfoodkcgehabOrder
import Derived.Test.YtecbfoodkcgehabRagRes
import Derived.Test.YtecbfoodkcgehabSame
import Derived.Maps.AppendAt
import Derived.Test.YtecbfoodkcgehabPutB
import Derived.Test.YtecbfoodkcgehabOwn1
import Derived.Test.YtecbfoodkcgehabAreS
import Derived.Test.YtecbfoodkcgehabRunS
import Derived.Test.YtecbfoodkcgehabPutN
import Derived.Test.YtecbfoodkcgehabStep
import Derived.RangeFuncBox
import Derived.Deep.RegionLaw
import Derived.WalkSmall
import Derived.Laws.CopyOwn
import GoSem.Op.String
import Derived.Test.YtecbfoodkcgehabOrdFacts
import Derived.ArgAppend
import Derived.Test.YtecbfoodkcgehabLayIS
import Derived.Shelf.Sort.Plain
import Derived.Shelf.Slices.In.SortNone
import Derived.Shelf.SlSortCmp.SiftDown1
import Derived.Shelf.SlSortCmp.HeapSort1
import Derived.Shelf.SlSortCmp.Insertion1
import Derived.Shelf.SlSortCmp.Median1
import Derived.Shelf.SlSortCmp.Pivot1
import Derived.Shelf.SlSortCmp.ReverseRange1
import Derived.Shelf.SlSortCmp.PartialInsertion1
import Derived.Shelf.SlSortCmp.PartitionEqual1
import Derived.Shelf.SlSortCmp.Partition1
import Derived.Shelf.SlSortCmp.Pdq1
import Derived.Shelf.SlSortCmp.Whole1
import Derived.Test.YtecbfoodkcgehabChunk
import Derived.Test.YtecbfoodkcgehabConcatC
import Derived.Test.YtecbfoodkcgehabRunI
import Derived.Test.YtecbfoodkcgehabAppendTwo
import Derived.Sort.OwnSortedInts
import Derived.Test.YtecbfoodkcgehabRows
import Derived.Test.YtecbfoodkcgehabSeat
import Derived.Test.YtecbfoodkcgehabOpen
import Derived.WalkKit
import Derived.ProofKit
import Derived.OpenShut
import Derived.ShutString
import Derived.ChangeOld
import Derived.Below
import Derived.Test.YtecbfoodkcgehabExact
import Derived.Test.YtecbfoodkcgehabOrd

/-
  The kit's contracts of library functions at this translation, laid by the kit's own command and cut down to those that are used. Conditions: as each states.
-/
namespace Go.Proofs
open Go.Shelf

def Try.lays125_ren : Go.Shelf.Ren := ⟨fun | 125 => 205 | 128 => 220 | 129 => 221 | n => n, fun | 46 => 139 | 3 => 3 | 51 => 154 | 53 => 72 | 4 => 4 | 5 => 5 | 9 => 9 | n => n, fun | n => n⟩

theorem Try.lays125 : Go.Proofs.Lays.n125 Try.prog Try.lays125_ren := {
  mixed := by kernel_rfl
  f125 := Try.func205.trans (congrArg some (by kernel_rfl))
  f128 := Try.func220.trans (congrArg some (by kernel_rfl))
  f129 := Try.func221.trans (congrArg some (by kernel_rfl))
  t3 := Try.underlying3
  a3 := Try.isAgg3
  z3 := Try.sizeOf3
  v3 := Try.zeroValue3
  t4 := Try.underlying4
  a4 := Try.isAgg4
  z4 := Try.sizeOf4
  v4 := Try.zeroValue4
  t5 := Try.underlying5
  a5 := Try.isAgg5
  z5 := Try.sizeOf5
  v5 := Try.zeroValue5
  t9 := Try.underlying9
  a9 := Try.isAgg9
  z9 := Try.sizeOf9
  v9 := Try.zeroValue9
  t46 := Try.underlying139
  a46 := Try.isAgg139
  z46 := Try.sizeOf139
  v46 := Try.zeroValue139
  t51 := Try.underlying154
  a51 := Try.isAgg154
  z51 := Try.sizeOf154
  v51 := Try.zeroValue154
  t53 := Try.underlying72
  a53 := Try.isAgg72
  z53 := Try.sizeOf72
  v53 := Try.zeroValue72 }

theorem Try.bits_Len (x : Int) (w : World) (h0 : 0 ≤ x) (h1 : x ≤ 18446744073709551615) :
    Calls Try.prog 205 #[.int .u64 x] w fun e w' => e = .returned (.int .i64 (Lib.bitLen x.toNat)) ∧ w' = w := Any.bits_Len Try.lays125 x w h0 h1

def Try.lays112_ren : Go.Shelf.Ren := ⟨fun | 112 => 132 | n => n, fun | 28 => 29 | 3 => 3 | 4 => 4 | 0 => 0 | n => n, fun | n => n⟩

theorem Try.lays112 : Go.Proofs.Lays.n112 Try.prog Try.lays112_ren := {
  mixed := by kernel_rfl
  f112 := Try.func132.trans (congrArg some (by kernel_rfl))
  t0 := Try.underlying0
  a0 := Try.isAgg0
  z0 := Try.sizeOf0
  v0 := Try.zeroValue0
  t3 := Try.underlying3
  a3 := Try.isAgg3
  z3 := Try.sizeOf3
  v3 := Try.zeroValue3
  t4 := Try.underlying4
  a4 := Try.isAgg4
  z4 := Try.sizeOf4
  v4 := Try.zeroValue4
  t28 := Try.underlying29
  a28 := Try.isAgg29
  z28 := Try.sizeOf29
  v28 := Try.zeroValue29 }

open Go.RowKit Go.Lib Go.Sort in
theorem Try.slices_Reverse_int_empty (a : Option Addr) (cap : Nat) (w : World) :
    Calls Try.prog 132 #[.slice a 0 cap] w fun e w' => e = .returned (.tuple #[]) ∧ w' = w := Any.slices_Reverse_int_empty Try.lays112 a cap w

def Try.laysNm215_ren : Go.Shelf.Ren := ⟨fun | 15 => 131 | n => n, fun | 22 => 29 | 3 => 3 | 4 => 4 | n => n, fun | n => n⟩

theorem Try.laysNm215 : Go.Proofs.Lays2.n15 Try.prog Try.laysNm215_ren := {
  mixed := by kernel_rfl
  f15 := Try.func131.trans (congrArg some (by kernel_rfl))
  t3 := Try.underlying3
  a3 := Try.isAgg3
  z3 := Try.sizeOf3
  v3 := Try.zeroValue3
  t4 := Try.underlying4
  a4 := Try.isAgg4
  z4 := Try.sizeOf4
  v4 := Try.zeroValue4
  t22 := Try.underlying29
  a22 := Try.isAgg29
  z22 := Try.sizeOf29
  v22 := Try.zeroValue29
  i3 := by kernel_rfl }

open Go.RowKit Go.Lib in
theorem Try.slices_Clone_int (b off n c : Nat) (zs : List Int) (w : World) (hz : n ≤ zs.length) (hbig : n * 8 ≤ 140737488355328) (hc : ∀ j, j < zs.length → w.cell? ⟨b, off + j, none⟩ = some (.int .i64 (zs.getD j 0))) :
    Calls Try.prog 131 #[.slice (some ⟨b, off, none⟩) n c] w fun e w' => ∃ v', e = .returned v' ∧ w'.ownsRow w.heap.size 3 1 v' n ((zs.take n).map (Value.int .i64)) ∧ v' ≠ .slice none 0 0 ∧ Below w.heap.size w w' := Any.slices_Clone_int Try.laysNm215 b off n c zs w hz hbig hc

open Go.RowKit Go.Lib in
theorem Try.slices_Clone_int_nil (n c : Nat) (w : World) :
    Calls Try.prog 131 #[.slice none n c] w fun e w' => e = .returned (.slice none 0 0) ∧ w' = w := Any.slices_Clone_int_nil Try.laysNm215 n c w

def Try.laysNm223_ren : Go.Shelf.Ren := ⟨fun | 23 => 151 | n => n, fun | 22 => 29 | 3 => 3 | 4 => 4 | 0 => 0 | n => n, fun | n => n⟩

theorem Try.laysNm223 : Go.Proofs.Lays2.n23 Try.prog Try.laysNm223_ren := {
  mixed := by kernel_rfl
  f23 := Try.func151.trans (congrArg some (by kernel_rfl))
  t0 := Try.underlying0
  a0 := Try.isAgg0
  z0 := Try.sizeOf0
  v0 := Try.zeroValue0
  t3 := Try.underlying3
  a3 := Try.isAgg3
  z3 := Try.sizeOf3
  v3 := Try.zeroValue3
  t4 := Try.underlying4
  a4 := Try.isAgg4
  z4 := Try.sizeOf4
  v4 := Try.zeroValue4
  t22 := Try.underlying29
  a22 := Try.isAgg29
  z22 := Try.sizeOf29
  v22 := Try.zeroValue29
  i3 := by kernel_rfl }

open Go.RowKit Go.Lib Go.Sort in
theorem Try.slices_Reverse_int_cells (b off n c : Nat) (zs : List Int) (w : World) (hz : n ≤ zs.length) (hbig : n ≤ 9223372036854775807) (hc : ∀ j, j < zs.length → w.cell? ⟨b, off + j, none⟩ = some (.int .i64 (zs.getD j 0))) (hf : ∀ j, j < n → w.frozen? ⟨b, off + j, none⟩ = false) :
    Calls Try.prog 132 #[.slice (some ⟨b, off, none⟩) n c] w fun e w' => e = .returned (.tuple #[]) ∧ ∃ q, w' = (w.drewN q).setCells b off ((zs.take n).reverse.map (Value.int .i64)) := Any.slices_Reverse_int_cells Try.lays112 b off n c zs w hz hbig hc hf

open Go.RowKit Go.Lib Go.Sort in
theorem Try.slices_Delete_int_cells (b off n c i j : Nat) (zs : List Int) (w : World) (hz : n ≤ zs.length) (hcap : n ≤ c) (hm : c ≤ 9223372036854775807) (hij : i ≤ j) (hj : j ≤ n) (hc : ∀ j, j < zs.length → w.cell? ⟨b, off + j, none⟩ = some (.int .i64 (zs.getD j 0))) (hf : ∀ j, j < n → w.frozen? ⟨b, off + j, none⟩ = false) :
    Calls Try.prog 151 #[.slice (some ⟨b, off, none⟩) n c, .int .i64 i, .int .i64 j] w fun e w' => e = .returned (.slice (some ⟨b, off, none⟩) (n - (j - i)) c) ∧ ∃ q, w' = (w.drewN q).setCells b off (((zs.take n).take i ++ (zs.take n).drop j ++ List.replicate (j - i) 0).map (Value.int .i64)) := Any.slices_Delete_int_cells Try.laysNm223 b off n c i j zs w hz hcap hm hij hj hc hf

end Go.Proofs

/-
  Contract: the program makes room in a row: the closure of its insert. Conditions: at most 100 rows of at most 100 numbers.
-/
namespace Go.Proofs.Ytecbfoodkcgehab.RoomC
open Go.RowKit SeesC IntsC ExactC OrdMath ListsC ListsEC ListsFC LLC RagMarkC RagResC RRC QueM PassM RowsM RRVC

theorem countP_put : ∀ (r : List Int) (x : Int), r.Pairwise (· < ·) → r.countP (fun z => decide (z < x)) = putAt r x
  | [], _, _ => rfl
  | y :: r, x, h => by
    rw [List.pairwise_cons] at h
    unfold putAt
    by_cases hy : y < x
    · rw [List.countP_cons_of_pos (by simpa using hy), countP_put r x h.2, if_pos hy]
    · rw [List.countP_cons_of_neg (by simpa using hy), if_neg hy, List.countP_eq_zero]
      intro z hz
      have := h.1 z hz
      simp
      omega

/-- What the walk below the insert carries: the rows, where they lie, and the number that is to be inserted, in the variables' own cells. -/
def Kept (a3 a6 : Nat) (W : World) (base g N c : Nat) (gs : List (Nat × Nat)) (T : List (List Int)) (y : Int) : Prop :=
  RR W base (.slice (some ⟨g, 0, none⟩) N c) gs T ∧ T.length = N ∧ W.cell? ⟨a6, 0, none⟩ = some (.slice (some ⟨g, 0, none⟩) N c) ∧ W.cell? ⟨a3, 0, none⟩ = some (.int .i64 y) ∧ W.frozen? ⟨a3, 0, none⟩ = false ∧
    a3 < base ∧ (∀ i, i < T.length → (gs.getD i (0, 0)).1 < a6) ∧ g < a6

theorem Kept.drawn {a3 a6 : Nat} {W W' : World} {base g N c : Nat} {gs : List (Nat × Nat)} {T : List (List Int)} {y : Int} (h : Kept a3 a6 W base g N c gs T y) (hd : Drawn W W') : Kept a3 a6 W' base g N c gs T y := by
  obtain ⟨h1, h2, h3, h4, h5, h6⟩ := h
  have hf : W'.frozen? ⟨a3, 0, none⟩ = W.frozen? ⟨a3, 0, none⟩ := by obtain ⟨m, rfl⟩ := hd; rfl
  exact ⟨h1.kept (hd.below _), h2, (hd.cell _).trans h3, (hd.cell _).trans h4, hf.trans h5, h6⟩

/-- The two stores: a number into a row, the old one into the variable. -/
theorem Kept.room {a3 a6 : Nat} {W : World} {base g N c j k : Nat} {gs : List (Nat × Nat)} {T : List (List Int)} {y z : Int} (h : Kept a3 a6 W base g N c gs T y) (hj : j < N) :
    Kept a3 a6 ((W.setCell ⟨(gs.getD j (0, 0)).1, k, none⟩ (.int .i64 y)).setCell ⟨a3, 0, none⟩ (.int .i64 z)) base g N c gs (T.set j ((T.getD j []).set k y)) z ∧
      Below a3 W ((W.setCell ⟨(gs.getD j (0, 0)).1, k, none⟩ (.int .i64 y)).setCell ⟨a3, 0, none⟩ (.int .i64 z)) := by
  obtain ⟨h1, h2, h3, h4, h5, h6, h7, h8⟩ := h
  have hr := rr_put (k := j) (j := k) (y := y) h1 (by omega)
  have hb := (h1.lt (i := j) (by omega)).1
  have h6' := h7 j (by omega)
  have g1 : W.grownBy (W.setCell ⟨(gs.getD j (0, 0)).1, k, none⟩ (.int .i64 y)) (some (gs.getD j (0, 0)).1) := by
    have o1 := h1.2.2.1 j (by omega)
    unfold sl at o1
    exact (World.ownsRow.stored o1 k _).2
  have g2 : (W.setCell ⟨(gs.getD j (0, 0)).1, k, none⟩ (.int .i64 y)).grownBy ((W.setCell ⟨(gs.getD j (0, 0)).1, k, none⟩ (.int .i64 y)).setCell ⟨a3, 0, none⟩ (.int .i64 z)) (some a3) :=
    ⟨rfl, rfl, rfl, by simp [World.setCell], fun q _ hq => Below.heap_setCell _ _ _ _ (fun e => hq (by rw [e]))⟩
  have hgb := (own_block_lt h1.2.1 (q := g) rfl).1
  have hc3 : (W.setCell ⟨(gs.getD j (0, 0)).1, k, none⟩ (.int .i64 y)).cell? ⟨a3, 0, none⟩ = some (.int .i64 y) := g1.cell h4 (by intro e; have := Option.some.inj e; simp only at this; omega)
  have hf3 : (W.setCell ⟨(gs.getD j (0, 0)).1, k, none⟩ (.int .i64 y)).frozen? ⟨a3, 0, none⟩ = false := by
    rw [World.frozen?_of_block (w := W) (g1.block a3 (by have := World.block_lt_of_cell? W _ h4; exact this) (by intro e; have := Option.some.inj e; omega))]
    exact h5
  refine ⟨⟨?_, by simp [h2], ?_, ?_, ?_, h6, fun i hi => h7 i (by simpa using hi), h8⟩, ?_⟩
  · have hlow : ∀ {ty : TypeId} {v : Value} {n : Nat} {xs : List Value}, (W.setCell ⟨(gs.getD j (0, 0)).1, k, none⟩ (.int .i64 y)).ownsRow base ty 1 v n xs → ((W.setCell ⟨(gs.getD j (0, 0)).1, k, none⟩ (.int .i64 y)).setCell ⟨a3, 0, none⟩ (.int .i64 z)).ownsRow base ty 1 v n xs :=
      fun {ty v n xs} ho => ownsRow_setCell_below ho h6 _
    exact ⟨hr.1, hlow hr.2.1, fun i hi => hlow (hr.2.2.1 i hi), hr.2.2.2⟩
  · refine g2.cell (g1.cell h3 ?_) ?_
    · intro e; have := Option.some.inj e; simp only at this; omega
    · intro e; have := Option.some.inj e; simp only at this; omega
  · exact World.cell?_setCell_same _ _ _ hc3
  · rw [World.frozen?_setCell]; exact hf3
  · exact ((Below.refl a3 W).setCell (p := ⟨(gs.getD j (0, 0)).1, k, none⟩) (by simp only; omega) _).setCell (p := ⟨a3, 0, none⟩) (Nat.le_refl _) _

end Go.Proofs.Ytecbfoodkcgehab.RoomC

/-
  Contract: the program takes a number out of rows. Conditions: rows that ascend, at most 7 of at most 7 numbers.
-/
namespace Go.Proofs.Ytecbfoodkcgehab.TakeIC
open Go.RowKit SeesC IntsC ExactC OrdMath ListsC ListsEC ListsFC LLC RagMarkC RagResC RRC QueM PassM RowsM RRVC RoomC AreM OutM

theorem take_upd {T : List (List Int)} {i : Nat} {A : List (List Int)} {r : List Int} (hi : i < T.length) : (T.take (i + 1) ++ A).set i r = T.take i ++ r :: A := by
  rw [List.take_succ_eq_append_getElem hi, List.append_assoc, List.set_append_right _ _ (by rw [List.length_take]; omega), List.length_take, Nat.min_eq_left (by omega), Nat.sub_self]
  rfl

theorem take_at {T : List (List Int)} {i : Nat} {A : List (List Int)} (hi : i < T.length) : (T.take (i + 1) ++ A).getD i [] = T.getD i [] := by
  rw [List.getD_eq_getElem?_getD, List.getElem?_append_left (by rw [List.length_take]; omega), List.getElem?_take, if_pos (by omega), ← List.getD_eq_getElem?_getD]

theorem drop_getD {T : List (List Int)} {i : Nat} (hi : i < T.length) : T.drop i = T.getD i [] :: T.drop (i + 1) := by
  rw [List.drop_eq_getElem_cons hi]; simp [hi]

theorem tab_drop : ∀ {T : List (List Int)} (i : Nat), Tab T → Tab (T.drop i)
  | [], i, _ => by simp; trivial
  | r :: R, 0, h => h
  | r :: R, i + 1, h => tab_drop (T := R) i (tab_tail h)

theorem nodup_drop {T : List (List Int)} (i : Nat) (h : T.flatten.Nodup) : (T.drop i).flatten.Nodup := by
  have : T.flatten = (T.take i).flatten ++ (T.drop i).flatten := by rw [← List.flatten_append, List.take_append_drop]
  rw [this] at h
  exact (List.nodup_append.1 h).2.1

/-- The step upward: what comes up fits into the row above. -/
theorem up_step {T : List (List Int)} {i k : Nat} (ht : Tab T) (hn : T.flatten.Nodup) (hi : i < k) (hk : k < T.length) (h0 : 0 < (T.getD k []).length) :
    1 ≤ putAt (T.getD i []) (outR (T.drop (i + 1)) (k - (i + 1))).2 ∧ (outR (T.drop (i + 1)) (k - (i + 1))).2 ∉ T.getD i [] ∧ 0 < (T.getD i []).length ∧ (T.getD i []).Pairwise (· < ·) := by
  have e1 := drop_getD (T := T) (i := i) (by omega)
  have e2 := drop_getD (T := T) (i := i + 1) (by omega)
  have t1 := tab_drop i ht
  have n1 := nodup_drop i hn
  rw [e1, e2] at t1 n1
  have hkk : k - (i + 1) < (T.getD (i + 1) [] :: T.drop (i + 1 + 1)).length := by rw [← e2, List.length_drop]; omega
  have hg : ∀ q, (T.getD (i + 1) [] :: T.drop (i + 1 + 1)).getD q [] = T.getD (i + 1 + q) [] := by
    intro q
    rw [← e2, List.getD_eq_getElem?_getD, List.getElem?_drop, ← List.getD_eq_getElem?_getD]
  have hpos : 0 < ((T.getD (i + 1) [] :: T.drop (i + 1 + 1)).getD (k - (i + 1)) []).length := by
    rw [hg, show i + 1 + (k - (i + 1)) = k by omega]; exact h0
  have hup := outR_up t1 hkk hpos
  have hx := out_notin n1 hkk (tab_pos (tab_tail t1) hkk hpos)
  rw [← e2] at hup hx
  exact ⟨hup.2.2, hx, hup.1, tab_head t1⟩

/-- Rows taken out so far: from row i on. -/
def Up (T : List (List Int)) (k i : Nat) : List (List Int) := T.take i ++ (outR (T.drop i) (k - i)).1

theorem up_len {T : List (List Int)} {k i : Nat} (hi : i ≤ T.length) : (Up T k i).length = T.length := by
  unfold Up; rw [List.length_append, outR_len, List.length_take, List.length_drop]; omega

theorem up_start {T : List (List Int)} {k : Nat} (hk : k < T.length) : Up T k k = T.set k (T.getD k []).dropLast ∧ (outR (T.drop k) (k - k)).2 = last (T.getD k []) := by
  rw [Nat.sub_self]
  unfold Up
  rw [Nat.sub_self, drop_getD hk]
  refine ⟨?_, rfl⟩
  show T.take k ++ (T.getD k []).dropLast :: T.drop (k + 1) = _
  rw [List.set_eq_take_append_cons_drop, if_pos hk]

theorem up_next {T : List (List Int)} {k i : Nat} (hi : i < k) (hk : k < T.length) :
    Up T k i = (Up T k (i + 1)).set i ((T.getD i []).set (putAt (T.getD i []) (outR (T.drop (i + 1)) (k - (i + 1))).2 - 1) (outR (T.drop (i + 1)) (k - (i + 1))).2) ∧
      (outR (T.drop i) (k - i)).2 = (T.getD i []).getD (putAt (T.getD i []) (outR (T.drop (i + 1)) (k - (i + 1))).2 - 1) 0 ∧ (Up T k (i + 1)).getD i [] = T.getD i [] := by
  have e : k - i = (k - (i + 1)) + 1 := by omega
  refine ⟨?_, ?_, take_at (by omega)⟩
  · unfold Up
    rw [take_upd (by omega), drop_getD (i := i) (by omega), e]
    rfl
  · rw [drop_getD (i := i) (by omega), e]
    rfl

/-- A row cut by its last number, its header stored. -/
theorem rr_pop {X : World} {base g N c k m p1 p2 : Nat} {gs : List (Nat × Nat)} {T : List (List Int)} (hN : T.length = N) (h : RR X base (.slice (some ⟨g, 0, none⟩) N c) gs T) (hk : k < N) (hm : (T.getD k []).length = m + 1) (hp : gs.getD k (0, 0) = (p1, p2)) :
    RR (X.setCell ⟨g, k, none⟩ (.slice (some ⟨p1, 0, none⟩) m p2)) base (.slice (some ⟨g, 0, none⟩) N c) (gs.set k (p1, p2)) (T.set k (T.getD k []).dropLast) ∧ m + 1 ≤ p2 ∧ X.frozen? ⟨g, k, none⟩ = false ∧ base ≤ g := by
  have hrow := h.2.2.1 k (by omega)
  rw [hp, hm] at hrow
  have hcut := own_cut hrow (show m ≤ m + 1 by omega)
  have el : (T.getD k []).dropLast.length = m := by rw [List.length_dropLast, hm]; rfl
  have ev : (vals (T.getD k [])).take m = vals (T.getD k []).dropLast := by
    rw [List.dropLast_eq_take, hm, Nat.add_sub_cancel]; unfold vals; rw [List.map_take]
  rw [ev] at hcut
  have h1 := rr_set (X' := X) (g' := p1) (c' := p2) (r := (T.getD k []).dropLast) hN h hk (by rw [el]; exact hcut) ⟨rfl, rfl, rfl, Nat.le_refl _, fun _ _ _ => rfl⟩ (.inl (by rw [hp]))
  rw [el] at h1
  have ho := h.2.1
  refine ⟨h1, ?_, ?_, (own_block_lt h.2.1 (q := g) rfl).1⟩
  · rcases hrow.2 with ⟨h0, _⟩ | ⟨g', cap, cur, hv, _, _, hc, _⟩
    · unfold sl at h0; cases h0
    · unfold sl at hv; cases hv; exact hc
  · rw [hN] at ho; exact ho.frozenAt k

end Go.Proofs.Ytecbfoodkcgehab.TakeIC

/-
  Contract: the model takes a number out of rows. Conditions: rows that ascend, at most 7 of at most 7 numbers.
-/
namespace Go.Proofs.Ytecbfoodkcgehab.TakeSC
open Go.RowKit SeesC IntsC ExactC OrdMath ListsC ListsEC ListsFC LLC RagMarkC RagResC RRC QueM PassM RowsM RRVC RoomC AreM OutM TakeIC OnlyC

theorem desc_test {r : List Int} {x : Int} {q j : Nat} (hr : r.Pairwise (· < ·)) (hx : x ∉ r) (hq : putAt r x = q + 1) (hj : j < r.length) : (q < j → x < r.getD j 0) ∧ (j ≤ q → r.getD j 0 < x) := by
  refine ⟨fun h => ?_, fun h => putAt_lt r x j (by omega)⟩
  have h1 : x ≤ r.getD j 0 := Int.not_lt.1 (fun h3 => by have := putAt_more hr hj h3; omega)
  have h2 : r.getD j 0 ∈ r := getD_mem hj
  have h3 : x ≠ r.getD j 0 := fun e => hx (e ▸ h2)
  omega

end Go.Proofs.Ytecbfoodkcgehab.TakeSC

/-
  Contract: the model's row that ends with a number. Conditions: there is one.
-/
namespace Go.Proofs.Ytecbfoodkcgehab.EndRowC
open Go.RowKit SeesC IntsC ExactC OrdMath ListsC ListsEC ListsFC LLC RagMarkC RagResC RRC QueM PassM RowsM RRVC AreM OutM

end Go.Proofs.Ytecbfoodkcgehab.EndRowC

/-
  Contract: the lengths of rows in the model, and lists of different lengths are not the same. Conditions: at most 2^20 numbers together.
-/
namespace Go.Proofs.Ytecbfoodkcgehab.LongC
open Go.RowKit SeesC IntsC ExactC OrdMath InC OrderC ListsC ListsEC ListsFC LLC QueM PassM RowsM AreM OutM SameC

/-- The lengths of rows, as numbers. -/
def lensI (L : List (List Int)) : List Int := L.map fun r => (r.length : Int)

theorem lensI_len (L : List (List Int)) : (lensI L).length = L.length := by simp [lensI]

theorem lensI_iff : ∀ (L M : List (List Int)), lensI L = lensI M ↔ lens L = lens M
  | [], [] => by simp [lensI, lens]
  | [], _ :: _ => by simp [lensI, lens]
  | _ :: _, [] => by simp [lensI, lens]
  | r :: R, s :: S => by
    have ih := lensI_iff R S
    unfold lensI lens at ih ⊢
    rw [List.map_cons, List.map_cons, List.map_cons, List.map_cons, List.cons.injEq, List.cons.injEq, ih]
    constructor <;> intro h <;> exact ⟨by have := h.1; omega, h.2⟩

theorem lensI_next {L : List (List Int)} {i m : Nat} (hi : i < L.length) (hm : (L.getD i []).length = m) : vals ((lensI L).take (i + 1)) = vals ((lensI L).take i) ++ [.int .i64 (m : Int)] :=
  take_next (by rw [lensI_len]; exact hi) (by
    unfold lensI
    rw [List.getD_eq_getElem?_getD, List.getElem?_map, List.getElem?_eq_getElem hi]
    rw [List.getD_eq_getElem?_getD, List.getElem?_eq_getElem hi] at hm
    simp at hm ⊢
    omega)

set_option maxHeartbeats 2000000 in
theorem l1Same_len (W : World) (v u : Value) (n m : Nat) (xs ys : List Int) (hv : Sees W v n (vals xs)) (hu : Sees W u m (vals ys)) (hne : n ≠ m) :
    Calls Try.prog 156 #[v, u] W fun e w' => e = .returned (.bool false) ∧ Drawn W w' := by
  obtain ⟨_, a, c, rfl, _, _⟩ := hv
  obtain ⟨_, a2, c2, rfl, _, _⟩ := hu
  have h1 : ((n : Int) == (m : Int)) = false := beq_eq_false_iff_ne.2 (by omega)
  go_enter Try.func156, Try.ntmps156
  go_wp2
  go_ret
  exact ⟨rfl, ⟨0, rfl⟩⟩

/-- Lists of any lengths, compared. -/
theorem l1Same_all (W : World) (v u : Value) (n m : Nat) (xs ys : List Int) (r : Bool) (hv : Sees W v n (vals xs)) (hu : Sees W u m (vals ys)) (hn : n ≤ 1048576) (hr : decide (xs = ys) = r) :
    Calls Try.prog 156 #[v, u] W fun e w' => e = .returned (.bool r) ∧ Drawn W w' := by
  by_cases h : n = m
  · subst h
    exact l1Same_any xs ys r W v n hv u hu hn hr
  · have h1 : xs.length = n := by simpa using hv.1
    have h2 : ys.length = m := by simpa using hu.1
    have : r = false := by rw [← hr]; exact decide_eq_false (fun e => h (by rw [← h1, ← h2, e]))
    rw [this]
    exact l1Same_len W v u n m xs ys hv hu h
end Go.Proofs.Ytecbfoodkcgehab.LongC

/-
  Contract: the program inserts a number into rows. Conditions: rows that ascend, at most 100 numbers.
-/
namespace Go.Proofs.Ytecbfoodkcgehab.InsNumC
open Go.RowKit SeesC IntsC ExactC OrdMath ListsC ListsEC ListsFC LLC RagMarkC RagResC RRC QueM PassM RowsM RRVC RoomC CopyRowsC PutBC

/-- Rows with a number inserted, and the row that has a place more. -/
def InsTo (W : World) (e : Ending) (w' : World) (T : List (List Int)) (x : Int) : Prop :=
  ∃ a c, e = .returned (.tuple #[.slice a (insR T x).1.length c, .int .i64 (((insR T x).2 : Nat) : Int)]) ∧ Rag w' W.heap.size (.slice a (insR T x).1.length c) (insR T x).1 ∧ Below W.heap.size W w'

theorem tab_row : ∀ {T : List (List Int)} {j : Nat}, Tab T → j < T.length → (T.getD j []).Pairwise (· < ·)
  | [], j, _, h => absurd h (by simp)
  | r :: R, 0, h, _ => tab_head h
  | r :: R, j + 1, h, hj => tab_row (T := R) (j := j) (tab_tail h) (by simpa using hj)

theorem mid_at {A T : List (List Int)} {j : Nat} (hA : A.length = j) : (A ++ T.drop j).getD j [] = T.getD j [] := by
  rw [List.getD_eq_getElem?_getD, List.getElem?_append_right (by omega), hA, Nat.sub_self, List.getElem?_drop, Nat.add_zero, ← List.getD_eq_getElem?_getD]

theorem mid_set {A T : List (List Int)} {j : Nat} (hA : A.length = j) (hj : j < T.length) (r : List Int) : (A ++ T.drop j).set j r = (A ++ [r]) ++ T.drop (j + 1) := by
  rw [List.set_append_right _ _ (by omega), hA, Nat.sub_self, List.drop_eq_getElem_cons hj, List.set_cons_zero]
  simp

theorem kept_start {W w2 : World} {g N c : Nat} {gs : List (Nat × Nat)} {T : List (List Int)} {x : Int} {ty ty3 : TypeId} (hN : T.length = N)
    (hR : RR w2 (W.heap.size + 1) (.slice (some ⟨g, 0, none⟩) N c) gs T) (hb : Below (W.heap.size + 1) (W.alloc (.cells #[.int .i64 x] ty3)) w2) :
    Kept W.heap.size w2.heap.size (w2.alloc (.cells #[.slice (some ⟨g, 0, none⟩) N c] ty)) (W.heap.size + 1) g N c gs T x ∧ Below W.heap.size W (w2.alloc (.cells #[.slice (some ⟨g, 0, none⟩) N c] ty)) := by
  have hg := own_block_lt hR.2.1 (q := g) rfl
  have hbx : Below w2.heap.size w2 (w2.alloc (.cells #[.slice (some ⟨g, 0, none⟩) N c] ty)) := (Below.refl _ _).alloc (Nat.le_refl _) _
  have hsz := hb.size
  simp at hsz
  have e2 : ∀ b : Nat, (⟨b, 0, none⟩ : Addr).add 0 = ⟨b, 0, none⟩ := fun b => by unfold Addr.add; split <;> simp_all
  have hc1 : (W.alloc (.cells #[.int .i64 x] ty3)).cell? ⟨W.heap.size, 0, none⟩ = some (.int .i64 x) := by
    have := cell_one_new W (.int .i64 x) ty3 0 _ rfl
    rw [e2] at this; exact this
  have hf1 : (W.alloc (.cells #[.int .i64 x] ty3)).frozen? ⟨W.heap.size, 0, none⟩ = false := by
    have h := World.ownsRow_lit (base := W.heap.size) (e := ty3) (size := 1) W #[.int .i64 x] 1 (Nat.le_refl _) (by unfold maxLen; omega) (by simp)
    exact World.ownsRow.frozenAt h 0
  have hc6 : (w2.alloc (.cells #[.slice (some ⟨g, 0, none⟩) N c] ty)).cell? ⟨w2.heap.size, 0, none⟩ = some (.slice (some ⟨g, 0, none⟩) N c) := by
    have := cell_one_new w2 (.slice (some ⟨g, 0, none⟩) N c) ty 0 _ rfl
    rw [e2] at this; exact this
  refine ⟨⟨hR.kept hbx, hN, hc6, ?_, ?_, by omega, fun i hi => (hR.lt hi).2, hg.2⟩, ?_⟩
  · exact (hbx.cell (p := ⟨W.heap.size, 0, none⟩) (by simp only; omega)).trans ((hb.cell (p := ⟨W.heap.size, 0, none⟩) (by simp)).trans hc1)
  · exact (hbx.frozen (p := ⟨W.heap.size, 0, none⟩) (by simp only; omega)).trans ((hb.frozen (p := ⟨W.heap.size, 0, none⟩) (by simp)).trans hf1)
  · exact (((Below.refl W.heap.size W).alloc (Nat.le_refl _) _).trans (hb.mono (by omega))).trans (hbx.mono (by omega))

end Go.Proofs.Ytecbfoodkcgehab.InsNumC

/-
  Contract: the model inserts a number into rows. Conditions: rows that ascend, at most 100 numbers.
-/
namespace Go.Proofs.Ytecbfoodkcgehab.InsSC
open Go.RowKit SeesC IntsC ExactC OrdMath ListsC ListsEC ListsFC LLC RagMarkC RagResC RRC AppendTwoC SameC QueM PassM RowsM RRVC InsNumC Own1C

theorem take_nextL {T : List (List Int)} {k : Nat} (hk : k < T.length) : T.take (k + 1) = T.take k ++ [T.getD k []] := by
  rw [List.take_succ_eq_append_getElem hk]; simp [hk]

/-- A row more, that has just been made. -/
theorem rr_push {W X X2 X3 : World} {base N : Nat} {v v5 : Value} {gs : List (Nat × Nat)} {L : List (List Int)} {q : List Int} {p : Nat × Nat} {o : Obj}
    (hN : L.length = N) (h : RR X base v gs L) (hb : Below base W X) (hbX : base ≤ X.heap.size) (ho : X2.ownsRow X.heap.size 3 1 (sl q.length p) q.length (vals q)) (hb2 : Below X.heap.size X X2)
    (ho5 : X3.ownsRow base 29 1 v5 (N + 1) (rowsOf L gs ++ [sl q.length p])) (hg : (X2.alloc o).grownBy X3 v.ownBlock) :
    RR X3 base v5 (gs ++ [p]) (L ++ [q]) ∧ Below base W X3 := by
  have hbx : Below X.heap.size X (X2.alloc o) := hb2.alloc hb2.size _
  have hR := rr_snoc (q := q) hN (h.kept hbx) ((own_lower ho hbX).alloc o) (fun i hi => by have h1 := (h.lt (i := i) (by omega)).2; have h2 := (own_block_lt ho (q := p.1) rfl).1; omega) ho5 hg
  exact ⟨hR, (hb.trans (hbx.mono hbX)).grown hg (by have := hbx.size; omega) (fun k hk => (own_block_lt h.2.1 hk).1)⟩

end Go.Proofs.Ytecbfoodkcgehab.InsSC

/-
  Contract: the model's order of rows and twin rows. Conditions: rows of at most 2^20 numbers together.
-/
namespace Go.Proofs.Ytecbfoodkcgehab.OfSC
open Go.RowKit SeesC IntsC ExactC OrdMath InC OrderC ListsC ListsEC ListsFC LLC RagMarkC RagResC RRC QueM PassM RowsM RRVC AreM OutM TakeIC OnlyC TakeSC EndRowC LongC AreSC InsSC AppendTwoC Own1C SameC

/-- The places of two lists of rows are apart. -/
def Apart (g : Nat) (gs : List (Nat × Nat)) (g2 : Nat) (gs2 : List (Nat × Nat)) : Prop := ∀ q, q ∈ g :: gs.map (·.1) → q ∉ g2 :: gs2.map (·.1)

theorem apart_symm {g : Nat} {gs : List (Nat × Nat)} {g2 : Nat} {gs2 : List (Nat × Nat)} (h : Apart g gs g2 gs2) : Apart g2 gs2 g gs := fun q hq hp => h q hp hq

theorem rr_blk {X : World} {base g N c : Nat} {gs : List (Nat × Nat)} {L : List (List Int)} (h : RR X base (.slice (some ⟨g, 0, none⟩) N c) gs L) : ∀ q, q ∈ g :: gs.map (·.1) → base ≤ q ∧ q < X.heap.size := by
  intro q hq
  rcases List.mem_cons.1 hq with rfl | hq
  · exact own_block_lt h.2.1 rfl
  · obtain ⟨p, hp, rfl⟩ := List.mem_map.1 hq
    obtain ⟨i, hi, rfl⟩ := List.getElem_of_mem hp
    have h1 := h.lt (i := i) (by rw [← h.1]; exact hi)
    rw [List.getD_eq_getElem?_getD, List.getElem?_eq_getElem hi] at h1
    exact h1

theorem rr_keep {S : List Nat} {X X' : World} {base g N c : Nat} {gs : List (Nat × Nat)} {L : List (List Int)} (h : RR X base (.slice (some ⟨g, 0, none⟩) N c) gs L) (ho : Only S X X') (hs : ∀ q, q ∈ g :: gs.map (·.1) → q ∉ S) : RR X' base (.slice (some ⟨g, 0, none⟩) N c) gs L :=
  rr_only h ho (fun q hq => by cases hq; exact hs _ (List.mem_cons_self ..)) (fun i hi => hs _ (List.mem_cons_of_mem _ (mem_places (by rw [h.1]; exact hi))))

/-- A row more in one of two lists. -/
theorem two_push {W X X2 X3 : World} {base N N2 g g2 g3 c c2 c3 : Nat} {gs gs2 : List (Nat × Nat)} {L L2 : List (List Int)} {q : List Int} {p : Nat × Nat} {o : Obj}
    (hN : L.length = N) (h : RR X base (.slice (some ⟨g, 0, none⟩) N c) gs L) (h2 : RR X base (.slice (some ⟨g2, 0, none⟩) N2 c2) gs2 L2) (ha : Apart g gs g2 gs2)
    (hb : Below base W X) (hbX : base ≤ X.heap.size) (ho : X2.ownsRow X.heap.size 3 1 (sl q.length p) q.length (vals q)) (hb2 : Below X.heap.size X X2)
    (ho5 : X3.ownsRow base 29 1 (.slice (some ⟨g3, 0, none⟩) (N + 1) c3) (N + 1) (rowsOf L gs ++ [sl q.length p])) (hg : (X2.alloc o).grownBy X3 (some g))
    (hnew : NewRow (X2.alloc o) (.slice (some ⟨g, 0, none⟩) N c) (.slice (some ⟨g3, 0, none⟩) (N + 1) c3)) :
    RR X3 base (.slice (some ⟨g3, 0, none⟩) (N + 1) c3) (gs ++ [p]) (L ++ [q]) ∧ RR X3 base (.slice (some ⟨g2, 0, none⟩) N2 c2) gs2 L2 ∧ Apart g3 (gs ++ [p]) g2 gs2 ∧ Below base W X3 := by
  have hps := rr_push (v := .slice (some ⟨g, 0, none⟩) N c) hN h hb hbX ho hb2 ho5 hg
  have hon : Only [g] X X3 := only_trans (only_new (hb2.alloc hb2.size _)) (only_grown hg (fun q hq => by cases hq; exact List.mem_cons_self ..))
  refine ⟨hps.1, rr_keep h2 hon (fun q hq hs => ?_), ?_, hps.2⟩
  · rw [List.mem_singleton] at hs
    subst hs
    exact ha _ (List.mem_cons_self ..) hq
  · intro q hq hq2
    have hlt := (rr_blk h2 q hq2).2
    rcases List.mem_cons.1 hq with rfl | hq
    · rcases newRow_or hnew with e | e
      · subst e; exact ha _ (List.mem_cons_self ..) hq2
      · have := hb2.size
        simp at e
        omega
    · rw [List.map_append, List.mem_append] at hq
      rcases hq with hq | hq
      · exact ha _ (List.mem_cons_of_mem _ hq) hq2
      · have e : q = p.1 := by simpa using hq
        have := (own_block_lt ho (q := p.1) rfl).1
        omega

theorem of_no {T U : List (List Int)} {xs : List Int} {b : Bool} (h : ofAns T U = (xs, b)) (hn : ¬ (areB T = true ∧ areB U = true ∧ lens T = lens U)) : xs = [] ∧ b = false := by
  unfold ofAns at h; rw [if_neg hn] at h; cases h; exact ⟨rfl, rfl⟩

theorem of_yes {T U : List (List Int)} {xs : List Int} {b : Bool} (h : ofAns T U = (xs, b)) (hn : areB T = true ∧ areB U = true ∧ lens T = lens U) : xs = backO T U (tot T) ∧ b = true := by
  unfold ofAns at h; rw [if_pos hn, flat_tot] at h; cases h; exact ⟨rfl, rfl⟩

theorem are_small {T : List (List Int)} (h : areB T = true) : T.length ≤ 7 ∧ tot T ≤ 7 ∧ ∀ i, i < T.length → 0 < (T.getD i []).length := by
  unfold areB at h
  rw [decide_eq_true_iff] at h
  have h1 : T.flatten.length ≤ 7 := h.2.2.1
  have h2 : ∀ i, i < T.length → 0 < (T.getD i []).length := fun i hi => (h.1 i hi).1
  refine ⟨?_, by rw [← flat_tot]; exact h1, h2⟩
  have h3 : ∀ (L : List (List Int)), (∀ i, i < L.length → 0 < (L.getD i []).length) → L.length ≤ tot L := by
    intro L
    induction L with
    | nil => intro _; exact Nat.zero_le _
    | cons r R ih =>
      intro h
      have a := h 0 (by simp)
      have b := ih (fun i hi => h (i + 1) (by simpa using hi))
      have a' : 0 < r.length := a
      show R.length + 1 ≤ r.length + tot R
      omega
  have h4 := h3 T h2
  rw [flat_tot] at h1
  omega

theorem outR_tot : ∀ (T : List (List Int)) (k : Nat), tot (outR T k).1 ≤ tot T
  | [], _ => Nat.le_refl _
  | r :: R, 0 => by
    show r.dropLast.length + tot R ≤ r.length + tot R
    rw [List.length_dropLast]; omega
  | r :: R, k + 1 => by
    have ih := outR_tot R k
    show (r.set _ _).length + tot (outR R k).1 ≤ r.length + tot R
    rw [List.length_set]; omega

theorem cutL_tot (U : List (List Int)) (k : Nat) : tot (cutL U k) ≤ tot U := by
  unfold cutL
  by_cases h : k < U.length
  · have h1 := tot_set U k (U.getD k []).dropLast h
    rw [List.length_dropLast] at h1
    omega
  · rw [List.set_eq_of_length_le (by omega)]; exact Nat.le_refl _

theorem st_tot (T U : List (List Int)) (n : Nat) : ∀ m, tot (st T U n m).1 ≤ tot T ∧ tot (st T U n m).2 ≤ tot U
  | 0 => ⟨Nat.le_refl _, Nat.le_refl _⟩
  | m + 1 => by
    have ih := st_tot T U n m
    exact ⟨Nat.le_trans (outR_tot _ _) ih.1, Nat.le_trans (cutL_tot _ _) ih.2⟩

/-- The next number is laid down. -/
theorem back_set {T U : List (List Int)} {n k : Nat} (hk : k < n) :
    (List.replicate (k + 1) (Value.int .i64 0) ++ (vals (backO T U n)).drop (k + 1)).set k (.int .i64 (outV T U n (n - (k + 1)))) = List.replicate k (Value.int .i64 0) ++ (vals (backO T U n)).drop k := by
  have hl : (vals (backO T U n)).length = n := by simp [backO]
  have e : (vals (backO T U n)).drop k = .int .i64 (outV T U n (n - (k + 1))) :: (vals (backO T U n)).drop (k + 1) := by
    rw [List.drop_eq_getElem_cons (by omega)]
    congr 1
    simp [backO, vals]
    congr 1
    omega
  rw [e, List.replicate_succ', List.append_assoc, List.set_append_right _ _ (by simp)]
  simp

end Go.Proofs.Ytecbfoodkcgehab.OfSC

/-
  Contract: the model's pass over the runs of an order. Conditions: an order.
-/
namespace Go.Proofs.Ytecbfoodkcgehab.PassSC
open Go.RowKit SeesC IntsC ExactC OrdMath InC OrderC ListsC ListsEC ListsFC LLC RagMarkC RagResC RRC AppendTwoC QueM RRVC PassM AreM OutM RunSC SameC Own1C PutNC OnlyC OfSC

theorem putL_pos {L : List (List Int)} {k : Nat} {x : Int} (h : ∀ i, i < L.length → 0 < (L.getD i []).length) : ∀ i, i < (putL L k x).length → 0 < ((putL L k x).getD i []).length := by
  intro i hi
  unfold putL at hi ⊢
  split
  · rename_i hk
    rw [if_pos hk, List.length_set] at hi
    by_cases e : k = i
    · subst e; rw [RRC.getD_set_eq hk]; simp
    · rw [RRC.getD_set_ne e]; exact h i hi
  · rename_i hk
    rw [if_neg hk, List.length_append] at hi
    by_cases e : i < L.length
    · rw [RRC.getD_cat_l e]; exact h i e
    · have : i = L.length := by simp at hi; omega
      subst this
      rw [RRC.getD_cat_r]; simp

theorem rTo_pos (zs : List Int) : ∀ k i, i < (rTo zs k).length → 0 < ((rTo zs k).getD i []).length
  | 0, i, h => by simp [rTo] at h
  | k + 1, i, h => putL_pos (rTo_pos zs k) i h

theorem pairs_len (R : List (List Int)) (j : Nat) : (pairsTo R j).length ≤ tot R := by
  rw [(pairsTo_perm R j).length_eq, flat_tot]; exact tot_take R (2 * j)

theorem put_notin {a b : List Int} {k : Nat} (h : (a ++ b).Nodup) (hk : k < b.length) : b.getD k 0 ∉ mrg a (b.take k) := by
  intro hm
  have h1 := (mrg_perm a (b.take k)).mem_iff.1 hm
  rw [List.mem_append] at h1
  rw [List.nodup_append] at h
  have hb : b.getD k 0 ∈ b := getD_mem hk
  rcases h1 with h1 | h1
  · exact h.2.2 _ h1 _ hb rfl
  · obtain ⟨i, hi, e⟩ := List.mem_iff_getElem.1 h1
    have hi' : i < k ∧ i < b.length := by rw [List.length_take] at hi; omega
    rw [List.getElem_take] at e
    have h2 := (List.pairwise_iff_getElem.1 h.2.1) i k hi'.2 hk hi'.1
    apply h2
    rw [e]; simp [hk]

set_option maxRecDepth 100000 in
set_option maxHeartbeats 8000000 in
theorem l5Pass_any (zs : List Int) (hord : Ord zs) (W : World) (v : Value) (n : Nat) (hv : Sees W v n (vals zs)) :
    Calls Try.prog 133 #[v] W fun e w' => ∃ g c, e = .returned (.slice (some ⟨g, 0, none⟩) n c) ∧ w'.ownsRow W.heap.size 3 1 (.slice (some ⟨g, 0, none⟩) n c) n (vals (pass zs)) ∧ Below W.heap.size W w' := by
  obtain ⟨i0, hi0, hz0, hz1, hz2⟩ := info_parts infoI
  have hl : zs.length = n := by simpa using hv.1
  have hn7 : n ≤ 7 := by have := hord.2.1; omega
  have hn1 : 1 ≤ n := by have := hord.1; omega
  have hbm : Below W.heap.size W (W.alloc (.cells #[] 3)) := (Below.refl _ _).alloc (Nat.le_refl _) _
  have DR := l5Runs_any zs hord (W.alloc (.cells #[] 3)) v n (hv.grow hbm)
  obtain ⟨R, hR⟩ : ∃ R, rTo zs n = R := ⟨_, rfl⟩
  rw [hR] at DR
  have htot : tot R = n := by rw [← flat_tot, ← hR, rTo_flat zs n (by omega), List.take_of_length_le (by omega)]; exact hl
  have hpos : ∀ i, i < R.length → 0 < (R.getD i []).length := by rw [← hR]; exact rTo_pos zs n
  have hlen7 : R.length ≤ tot R := by
    have h3 : ∀ (L : List (List Int)), (∀ i, i < L.length → 0 < (L.getD i []).length) → L.length ≤ tot L := by
      intro L
      induction L with
      | nil => intro _; exact Nat.zero_le _
      | cons r T ih =>
        intro h
        have a : 0 < r.length := h 0 (by simp)
        have b := ih (fun i hi => h (i + 1) (by simpa using hi))
        show T.length + 1 ≤ r.length + tot T
        omega
    exact h3 R hpos
  have hpn : ∀ i, i + 1 < R.length → (R.getD i [] ++ R.getD (i + 1) []).Nodup := by
    rw [← hR, ← hl]; exact fun i hi => pair_nodup hord hi
  have hfin : pass zs = pairsTo R ((R.length + 1) / 2) := by unfold pass; rw [hl, hR]
  have CR := Go.Lib.hid DR
  obtain ⟨Rn, hRn⟩ : ∃ Rn, R.length = Rn := ⟨_, rfl⟩
  have HR := Go.Lib.hid (And.intro hRn (And.intro (show tot R ≤ 7 by omega) (And.intro hpos (And.intro hpn (And.intro hfin (show (pass zs).length = n by rw [pass_len]; exact hl))))))
  have hRn7 : Rn ≤ 7 := by omega
  obtain ⟨av, cv, rfl⟩ : ∃ a c, v = .slice a n c := by obtain ⟨_, a, c, rfl, _, _⟩ := hv; exact ⟨a, c, rfl⟩
  have HW0 := Go.Lib.hid hbm
  have HO0 := Go.Lib.hid (World.ownsRow_made (base := W.heap.size) (e := 3) (size := 1) W #[] 0 (Nat.le_refl _) (by unfold maxLen; omega) rfl)
  clear DR hR htot hpos hpn hfin hlen7 hbm hv hl hord
  go_enter Try.func133, Try.ntmps133
  go_wp2_with fail
  refine (CR.out).mono ?_
  rintro e w2 ⟨ar, cr, rfl, hrag, hb2⟩
  rw [hRn]
  obtain ⟨gs, hrr⟩ := rag_rr hrag
  rw [hRn] at hrr
  obtain ⟨D0, hD0⟩ : ∃ D0, (W.alloc (.cells #[] 3)).heap.size = D0 := ⟨_, rfl⟩
  rw [hD0] at hrr
  obtain ⟨DD, hDD⟩ : ∃ DD, w2.heap.size = DD := ⟨_, rfl⟩
  have hRp : 0 < Rn := by
    by_cases h : 0 < Rn
    · exact h
    · have h1 := HR.out.2.2.2.2.1
      have h2 := HR.out.2.2.2.2.2
      rw [h1] at h2
      have h3 := pairs_len R ((R.length + 1) / 2)
      have h4 : R = [] := List.eq_nil_of_length_eq_zero (by have := HR.out.1; omega)
      rw [h4] at h3
      simp [tot] at h3
      rw [h4] at h2
      simp [pairsTo] at h2
      omega
  obtain ⟨gr, _, e0⟩ := rr_slice hrr HR.out.1 hRp
  cases e0
  have HBK : Hid (∀ q, q ∈ gr :: gs.map (·.1) → D0 ≤ q ∧ q < DD) := Go.Lib.hid (fun q hq => by have h := rr_blk hrr q hq; omega)
  have H0 : Hid (0 = (pairsTo R 0).length ∧ w2.ownsRow W.heap.size 3 1 (.slice (some ⟨W.heap.size, 0, none⟩) 0 0) 0 (vals (pairsTo R 0)) ∧ RR w2 D0 (.slice (some ⟨gr, 0, none⟩) Rn cr) gs R ∧ (W.heap.size < D0 ∨ DD ≤ W.heap.size) ∧ Below W.heap.size W w2 ∧ DD ≤ w2.heap.size) := Go.Lib.hid
    ⟨rfl, kept_call HO0.out hb2, hrr, .inl (by rw [← hD0]; simp), HW0.out.trans (hb2.mono (by simp)), by omega⟩
  clear hrag hrr hb2 hD0 hDD CR hRn HO0 HW0
  go_wp2_with fail
  go_loopw [3, 5] (fun ov iv wr => ∃ (j A g c : Nat), j ≤ (Rn + 1) / 2 ∧ iv = .int .i64 ((2 * j : Nat) : Int) ∧ ov = .slice (some ⟨g, 0, none⟩) A c ∧ A ≤ 7 ∧ Hid (A = (pairsTo R j).length ∧ wr.ownsRow W.heap.size 3 1 (.slice (some ⟨g, 0, none⟩) A c) A (vals (pairsTo R j)) ∧ RR wr D0 (.slice (some ⟨gr, 0, none⟩) Rn cr) gs R ∧ (g < D0 ∨ DD ≤ g) ∧ Below W.heap.size W wr ∧ DD ≤ wr.heap.size)) (fun _ i _ => Rn + 1 - (intOf i).toNat)
  case atStart => exact ⟨0, 0, _, _, Nat.zero_le _, rfl, rfl, by omega, H0⟩
  case round =>
    obtain ⟨j, A, g, c, hj, rfl, rfl, hA7, HX⟩ := hrel
    clear H0
    obtain ⟨wo, rfl⟩ : ∃ wo, wo = wr := ⟨_, rfl⟩
    by_cases hlt : 2 * j < Rn
    · obtain ⟨i, hi⟩ : ∃ i, 2 * j = i := ⟨_, rfl⟩
      rw [hi] at hlt ⊢
      have hiR : i < R.length := by have := HR.out.1; omega
      obtain ⟨⟨p1, p2⟩, hp⟩ : ∃ p, gs.getD i (0, 0) = p := ⟨_, rfl⟩
      obtain ⟨m, hm⟩ : ∃ m, (R.getD i []).length = m := ⟨_, rfl⟩
      have hhd := HX.out.2.2.1.head HR.out.1 hlt
      rw [hp, hm] at hhd
      simp only at hhd
      have hm7 : m ≤ 7 := by have h1 := tot_row hiR; have := HR.out.2.1; omega
      have hm0 : 0 < m := by have := HR.out.2.2.1 i hiR; omega
      have CO := Go.Lib.hid (l1Own_any (R.getD i []) p1 0 m p2 wo hm (by omega) (fun q hq => by
        have h := HX.out.2.2.1.num hiR hq
        rw [hp] at h
        rw [Nat.zero_add]; exact h))
      have HI := Go.Lib.hid (And.intro hi (And.intro hm hiR))
      have HG := Go.Lib.hid HX.out.2.2.2.1
      have hii : (i : Int) < (Rn : Int) := by omega
      have hszW := HX.out.2.2.2.2.1.size
      clear hp hm hiR
      go_wp2_with fail
      refine (CO.out).mono ?_
      rintro e w3 ⟨gb, cb, rfl, ho3, hb3⟩
      have H3 : Hid (w3.ownsRow wo.heap.size 3 1 (.slice (some ⟨gb, 0, none⟩) m cb) m (vals (R.getD i [])) ∧ w3.ownsRow W.heap.size 3 1 (.slice (some ⟨g, 0, none⟩) A c) A (vals (pairsTo R j)) ∧ RR w3 D0 (.slice (some ⟨gr, 0, none⟩) Rn cr) gs R ∧ Below W.heap.size W w3 ∧ DD ≤ w3.heap.size) := Go.Lib.hid
        ⟨ho3, kept_call HX.out.2.1 hb3, HX.out.2.2.1.kept hb3, HX.out.2.2.2.2.1.trans (hb3.mono hszW), Nat.le_trans HX.out.2.2.2.2.2 hb3.size⟩
      clear ho3 hb3 CO hhd
      by_cases hl2 : i + 1 < Rn
      · have hl2i : (i : Int) + 1 < (Rn : Int) := by omega
        have hiR2 : i + 1 < R.length := by have := HR.out.1; omega
        obtain ⟨⟨s1, s2⟩, hs⟩ : ∃ p, gs.getD (i + 1) (0, 0) = p := ⟨_, rfl⟩
        obtain ⟨m2, hm2⟩ : ∃ m2, (R.getD (i + 1) []).length = m2 := ⟨_, rfl⟩
        have hm27 : m2 ≤ 7 := by have h1 := tot_row hiR2; have := HR.out.2.1; omega
        have hND := Go.Lib.hid (HR.out.2.2.2.1 i hiR2)
        have HI2 := Go.Lib.hid (And.intro hs (And.intro hm2 hiR2))
        have H4 : Hid (w3.ownsRow W.heap.size 3 1 (.slice (some ⟨gb, 0, none⟩) (m + 0) cb) (m + 0) (vals (mrg (R.getD i []) ((R.getD (i + 1) []).take 0))) ∧ w3.ownsRow W.heap.size 3 1 (.slice (some ⟨g, 0, none⟩) A c) A (vals (pairsTo R j)) ∧ RR w3 D0 (.slice (some ⟨gr, 0, none⟩) Rn cr) gs R ∧ Below W.heap.size W w3 ∧ DD ≤ w3.heap.size) := Go.Lib.hid
          ⟨own_lower H3.out.1 hszW, H3.out.2⟩
        have hAA := HX.out.1
        have HAA := Go.Lib.hid hAA
        clear H3 HX hs hm2 hiR2 hAA
        go_wp2_with fail
        go_loopw [6, 7] (fun bv kv wr => ∃ (k g6 c6 : Nat), k ≤ m2 ∧ kv = .int .i64 k ∧ bv = .slice (some ⟨g6, 0, none⟩) (m + k) c6 ∧ Hid (wr.ownsRow W.heap.size 3 1 (.slice (some ⟨g6, 0, none⟩) (m + k) c6) (m + k) (vals (mrg (R.getD i []) ((R.getD (i + 1) []).take k))) ∧ wr.ownsRow W.heap.size 3 1 (.slice (some ⟨g, 0, none⟩) A c) A (vals (pairsTo R j)) ∧ RR wr D0 (.slice (some ⟨gr, 0, none⟩) Rn cr) gs R ∧ Below W.heap.size W wr ∧ DD ≤ wr.heap.size)) (fun _ k _ => m2 - (intOf k).toNat)
        case atStart => exact ⟨0, gb, cb, Nat.zero_le _, rfl, rfl, H4⟩
        case round =>
          obtain ⟨k, g6, c6, hk, rfl, rfl, HY⟩ := hrel
          clear H4
          obtain ⟨wb, rfl⟩ : ∃ wb, wb = wr := ⟨_, rfl⟩
          have hhd2 := HY.out.2.2.1.head HR.out.1 hl2
          rw [HI2.out.1, HI2.out.2.1] at hhd2
          simp only at hhd2
          by_cases hkm : k < m2
          · obtain ⟨x, hx⟩ : ∃ x, (R.getD (i + 1) []).getD k 0 = x := ⟨_, rfl⟩
            have hcx := HY.out.2.2.1.num (i := i + 1) (j := k) HI2.out.2.2 (by rw [HI2.out.2.1]; exact hkm)
            rw [HI2.out.1, hx] at hcx
            simp only at hcx
            have hni := put_notin hND.out (k := k) (by rw [HI2.out.2.1]; exact hkm)
            have hmx := mrg_next (R.getD i []) (R.getD (i + 1) []) (k := k) (by rw [HI2.out.2.1]; exact hkm)
            rw [hx] at hni hmx
            have hml : (mrg (R.getD i []) ((R.getD (i + 1) []).take k)).length = m + k := by
              rw [mrg_len, HI.out.2.1, List.length_take, HI2.out.2.1]; omega
            have CP := Go.Lib.hid (l1Put_any _ x wb W.heap.size (m + k) g6 c6 hml (by omega) hni HY.out.1)
            have HMX := Go.Lib.hid hmx
            have hki : (k : Int) < (m2 : Int) := by omega
            clear hx hni hmx hml
            go_wp2_with fail
            refine (CP.out).mono ?_
            rintro e w7 ⟨g7, c7, rfl, ho7, hb7⟩
            have hszb := HY.out.2.2.2.1.size
            have H8 : Hid (w7.ownsRow W.heap.size 3 1 (.slice (some ⟨g7, 0, none⟩) (m + (k + 1)) c7) (m + (k + 1)) (vals (mrg (R.getD i []) ((R.getD (i + 1) []).take (k + 1)))) ∧ w7.ownsRow W.heap.size 3 1 (.slice (some ⟨g, 0, none⟩) A c) A (vals (pairsTo R j)) ∧ RR w7 D0 (.slice (some ⟨gr, 0, none⟩) Rn cr) gs R ∧ Below W.heap.size W w7 ∧ DD ≤ w7.heap.size) := Go.Lib.hid
              ⟨by rw [HMX.out]; exact own_lower ho7 hszb, kept_call HY.out.2.1 hb7, HY.out.2.2.1.kept hb7, HY.out.2.2.2.1.trans (hb7.mono hszb), Nat.le_trans HY.out.2.2.2.2 hb7.size⟩
            clear ho7 hb7 CP hcx
            go_wp2_with fail
            go_roundw
            case rel => exact ⟨k + 1, g7, c7, by omega, by go_num, rfl, H8⟩
            case measure => simp [intOf]; omega
          · obtain rfl : k = m2 := by omega
            have hpa : pairAt R j = mrg (R.getD i []) (R.getD (i + 1) []) := by unfold pairAt; rw [HI.out.1, if_pos (by have := HR.out.1; omega)]
            obtain ⟨mb, hmb⟩ : ∃ mb, m + k = mb := ⟨_, rfl⟩
            have HB : Hid (A = (pairsTo R j).length ∧ wb.ownsRow W.heap.size 3 1 (.slice (some ⟨g, 0, none⟩) A c) A (vals (pairsTo R j)) ∧ (∀ jj u, (vals (pairAt R j))[jj]? = some u → wb.cell? ((⟨g6, 0, none⟩ : Addr).add jj) = some u) ∧ (pairAt R j).length = mb ∧ Below W.heap.size W wb ∧ RR wb D0 (.slice (some ⟨gr, 0, none⟩) Rn cr) gs R ∧ DD ≤ wb.heap.size) := Go.Lib.hid (by
              have h1 := HY.out.1
              rw [List.take_of_length_le (by rw [HI2.out.2.1]; exact Nat.le_refl _), ← hpa] at h1
              exact ⟨HAA.out, HY.out.2.1, h1.cells rfl, by rw [hpa, mrg_len, HI.out.2.1, HI2.out.2.1]; exact hmb, HY.out.2.2.2.1, HY.out.2.2.1, HY.out.2.2.2.2⟩)
            have hj2 : j + 1 ≤ (Rn + 1) / 2 := by have := HI.out.1; omega
            have hi2 : 2 * j = i := HI.out.1
            have hmb0 : 0 < mb := by omega
            have hmb7 : mb ≤ 14 := by omega
            rw [hmb]
            have HMB := Go.Lib.hid hmb
            clear hpa HY hmb
            go_wp2_with (at_builtin; refine wpList_append_two _ rfl _ _ 29 rfl W.heap.size 3 i0 (.int .i64 0) 1 8 Try.underlying29 hi0 hz0 hz1 hz2 rfl (by decide) (.slice (some ⟨g, 0, none⟩) A c) A (vals (pairsTo R j)) rfl HB.out.2.1 ⟨g6, 0, none⟩ mb c6 (vals (pairAt R j)) rfl (by rw [vals_len, HB.out.2.2.2.1, Nat.mul_one]) HB.out.2.2.1 (ints_oneCell .i64 _) (by unfold maxLen; omega) (by omega) HB.out.2.2.2.2.1.size ?_; intro v' w5 hown5 hgrow5 hnew5)
            obtain ⟨q, rfl⟩ : ∃ q, mb = q + 1 := ⟨mb - 1, by omega⟩
            obtain ⟨g5, c5, rfl⟩ := ownsRow_succ (k := A + q) hown5
            have e5 : vals (pairsTo R j) ++ vals (pairAt R j) = vals (pairsTo R (j + 1)) := by
              show _ = vals (pairsTo R j ++ pairAt R j)
              simp
            rw [e5] at hown5
            have H5 : Hid (A + (q + 1) = (pairsTo R (j + 1)).length ∧ w5.ownsRow W.heap.size 3 1 (.slice (some ⟨g5, 0, none⟩) (A + (q + 1)) c5) (A + (q + 1)) (vals (pairsTo R (j + 1))) ∧ RR w5 D0 (.slice (some ⟨gr, 0, none⟩) Rn cr) gs R ∧ (g5 < D0 ∨ DD ≤ g5) ∧ Below W.heap.size W w5 ∧ DD ≤ w5.heap.size) := Go.Lib.hid (by
              have hon : Only [g] wb w5 := only_grown hgrow5 (fun q hq => by cases hq; exact List.mem_cons_self ..)
              have hbw := HB.out.2.2.2.2.1
              have hd := HB.out.2.2.2.2.2.2
              refine ⟨?_, hown5, rr_keep HB.out.2.2.2.2.2.1 hon (fun q hq hs => ?_), ?_, hbw.grown hgrow5 hbw.size (fun q hq => (HB.out.2.1.lt q hq).1), ?_⟩
              · show _ = (pairsTo R j ++ pairAt R j).length
                rw [List.length_append, ← HB.out.1, HB.out.2.2.2.1]
              · rw [List.mem_singleton] at hs
                have h1 := HBK.out q hq
                rcases HG.out with h | h <;> omega
              · rcases newRow_or hnew5 with h | h
                · rw [h]; exact HG.out
                · exact .inr (by omega)
              · have := hgrow5.size; omega)
            have hA5 : A + (q + 1) ≤ 7 := by have h1 := pairs_len R (j + 1); have h2 := HR.out.2.1; have h3 := H5.out.1; omega
            clear hown5 hgrow5 hnew5 e5
            go_wp2
            go_roundw
            case rel => exact ⟨j + 1, A + (q + 1), g5, c5, by omega, congrArg (Value.int .i64) (by omega), rfl, hA5, H5⟩
            case measure => simp [intOf]; omega
      · have hl2i : ¬ ((i : Int) + 1 < (Rn : Int)) := by omega
        obtain ⟨wb, rfl⟩ : ∃ wb, wb = w3 := ⟨_, rfl⟩
        have hpa : pairAt R j = R.getD i [] := by unfold pairAt; rw [HI.out.1, if_neg (by have := HR.out.1; omega)]
        obtain ⟨mb, hmb⟩ : ∃ mb, m = mb := ⟨_, rfl⟩
        subst hmb
        have HB : Hid (A = (pairsTo R j).length ∧ wb.ownsRow W.heap.size 3 1 (.slice (some ⟨g, 0, none⟩) A c) A (vals (pairsTo R j)) ∧ (∀ jj u, (vals (pairAt R j))[jj]? = some u → wb.cell? ((⟨gb, 0, none⟩ : Addr).add jj) = some u) ∧ (pairAt R j).length = m ∧ Below W.heap.size W wb ∧ RR wb D0 (.slice (some ⟨gr, 0, none⟩) Rn cr) gs R ∧ DD ≤ wb.heap.size) := Go.Lib.hid
          ⟨HX.out.1, H3.out.2.1, by rw [hpa]; exact H3.out.1.cells rfl, by rw [hpa]; exact HI.out.2.1, H3.out.2.2.2.1, H3.out.2.2.1, H3.out.2.2.2.2⟩
        have hj2 : j + 1 ≤ (Rn + 1) / 2 := by have := HI.out.1; omega
        have hi2 : 2 * j = i := HI.out.1
        clear hpa H3 HX
        go_wp2_with (at_builtin; refine wpList_append_two _ rfl _ _ 29 rfl W.heap.size 3 i0 (.int .i64 0) 1 8 Try.underlying29 hi0 hz0 hz1 hz2 rfl (by decide) (.slice (some ⟨g, 0, none⟩) A c) A (vals (pairsTo R j)) rfl HB.out.2.1 ⟨gb, 0, none⟩ m cb (vals (pairAt R j)) rfl (by rw [vals_len, HB.out.2.2.2.1, Nat.mul_one]) HB.out.2.2.1 (ints_oneCell .i64 _) (by unfold maxLen; omega) (by omega) HB.out.2.2.2.2.1.size ?_; intro v' w5 hown5 hgrow5 hnew5)
        obtain ⟨q, rfl⟩ : ∃ q, m = q + 1 := ⟨m - 1, by omega⟩
        obtain ⟨g5, c5, rfl⟩ := ownsRow_succ (k := A + q) hown5
        have e5 : vals (pairsTo R j) ++ vals (pairAt R j) = vals (pairsTo R (j + 1)) := by
          show _ = vals (pairsTo R j ++ pairAt R j)
          simp
        rw [e5] at hown5
        have H5 : Hid (A + (q + 1) = (pairsTo R (j + 1)).length ∧ w5.ownsRow W.heap.size 3 1 (.slice (some ⟨g5, 0, none⟩) (A + (q + 1)) c5) (A + (q + 1)) (vals (pairsTo R (j + 1))) ∧ RR w5 D0 (.slice (some ⟨gr, 0, none⟩) Rn cr) gs R ∧ (g5 < D0 ∨ DD ≤ g5) ∧ Below W.heap.size W w5 ∧ DD ≤ w5.heap.size) := Go.Lib.hid (by
          have hon : Only [g] wb w5 := only_grown hgrow5 (fun q hq => by cases hq; exact List.mem_cons_self ..)
          have hbw := HB.out.2.2.2.2.1
          have hd := HB.out.2.2.2.2.2.2
          refine ⟨?_, hown5, rr_keep HB.out.2.2.2.2.2.1 hon (fun q hq hs => ?_), ?_, hbw.grown hgrow5 hbw.size (fun q hq => (HB.out.2.1.lt q hq).1), ?_⟩
          · show _ = (pairsTo R j ++ pairAt R j).length
            rw [List.length_append, ← HB.out.1, HB.out.2.2.2.1]
          · rw [List.mem_singleton] at hs
            have h1 := HBK.out q hq
            rcases HG.out with h | h <;> omega
          · rcases newRow_or hnew5 with h | h
            · rw [h]; exact HG.out
            · exact .inr (by omega)
          · have := hgrow5.size; omega)
        have hA5 : A + (q + 1) ≤ 7 := by have h1 := pairs_len R (j + 1); have h2 := HR.out.2.1; have h3 := H5.out.1; omega
        clear hown5 hgrow5 hnew5 e5
        go_wp2
        go_roundw
        case rel => exact ⟨j + 1, A + (q + 1), g5, c5, by omega, congrArg (Value.int .i64) (by omega), rfl, hA5, H5⟩
        case measure => simp [intOf]; omega

    · have hlti : ¬ (((2 * j : Nat) : Int) < (Rn : Int)) := by omega
      have hjj : j = (Rn + 1) / 2 := by omega
      have HF : Hid (A = n ∧ wo.ownsRow W.heap.size 3 1 (.slice (some ⟨g, 0, none⟩) A c) A (vals (pass zs)) ∧ Below W.heap.size W wo) := Go.Lib.hid (by
        have h1 := HR.out.2.2.2.2.1
        rw [HR.out.1, ← hjj] at h1
        exact ⟨by rw [HX.out.1, ← h1]; exact HR.out.2.2.2.2.2, by rw [h1]; exact HX.out.2.1, HX.out.2.2.2.2.1⟩)
      obtain rfl : A = n := HF.out.1
      clear hjj
      go_wp2_with fail
      go_ret
      exact ⟨g, c, rfl, HF.out.2⟩
end Go.Proofs.Ytecbfoodkcgehab.PassSC

/-
  Contracts: the model and the program find the order with a rank. Conditions: none.
-/
namespace Go.Proofs.Ytecbfoodkcgehab.AtC
open Go.RowKit SeesC IntsC ExactC OrdMath InC OrderC RankC IterC

set_option maxRecDepth 100000 in
theorem l2Sorted_any (n : Nat) (W : World) (hn : n ≤ 7) :
    Calls Try.prog 157 #[.int .i64 n] W fun e w' => ∃ g c, e = .returned (.slice (some ⟨g, 0, none⟩) n c) ∧ w'.ownsRow W.heap.size 3 1 (.slice (some ⟨g, 0, none⟩) n c) n (vals (iota n)) ∧ Below W.heap.size W w' := by
  obtain ⟨i0, hi, hz0, hz1, hz2⟩ := info_parts infoI
  go_enter Try.func157, Try.ntmps157
  go_wp2
  go_loopw [3, 4] (fun ov xv wr => ∃ (k g c : Nat), k ≤ n ∧ xv = .int .i64 ((k + 1 : Nat) : Int) ∧ ov = .slice (some ⟨g, 0, none⟩) k c ∧ wr.ownsRow W.heap.size 3 1 (.slice (some ⟨g, 0, none⟩) k c) k (vals (iota k)) ∧ Below W.heap.size W wr) (fun _ x _ => (n + 1 - intOf x).toNat)
  case atStart => exact ⟨0, W.heap.size, 0, Nat.zero_le _, rfl, rfl, by
    have := World.ownsRow_made (base := W.heap.size) (e := 3) (size := 1) W #[] 0 (Nat.le_refl _) (by unfold maxLen; omega) rfl
    simpa [iota] using this, (Below.refl _ _).alloc (Nat.le_refl _) _⟩
  case round =>
    obtain ⟨k, g, c, hk, rfl, rfl, hown, hb⟩ := hrel
    by_cases hlt : k < n
    · have hlti : ((k + 1 : Nat) : Int) ≤ (n : Int) := by omega
      have HE : Hid (vals (iota (k + 1)) = vals (iota k) ++ [.int .i64 ((k + 1 : Nat) : Int)]) := Go.Lib.hid (by rw [iota_next]; simp)
      obtain ⟨z, hz⟩ : ∃ z, k + 1 = z := ⟨_, rfl⟩
      rw [hz] at hlti HE ⊢
      have HZ := Go.Lib.hid hz
      have hz7 : z ≤ 7 := by omega
      clear hz
      go_wp2_with (at_builtin; refine wpList_append_own _ rfl _ _ 29 rfl W.heap.size 3 i0 (.int .i64 0) 1 8 Try.underlying29 hi hz0 hz1 hz2 rfl (by decide) _ _ _ rfl (hown.alloc _) ⟨wr.heap.size, 0, none⟩ 1 1 [.int .i64 (z : Int)] rfl rfl (cell_one_new _ _ _) (fun x hx => by simp at hx; subst hx; rfl) (by unfold maxLen; omega) (by omega) (by have := hb.size; simp; omega) ?_; intro v' w3 hown' hgrow3 hnil3)
      obtain ⟨g', cap', rfl⟩ := ownsRow_succ hown'
      rw [← HE.out, HZ.out] at hown'
      have hb' : Below W.heap.size W w3 := (hb.alloc hb.size _).grown hgrow3 (by have := hb.size; simp; omega) (fun q hq => (hown.lt q hq).1)
      have H3 := Go.Lib.hid (And.intro hown' hb')
      clear hown' hgrow3 hnil3 hown hb hb'
      go_wp2
      go_roundw
      case rel => exact ⟨z, g', cap', by have := HZ.out; omega, by go_num, by rw [HZ.out], H3.out.1, H3.out.2⟩
      case measure => have := HZ.out; simp [intOf]; omega
    · have hlti : ¬ ((k + 1 : Nat) : Int) ≤ (n : Int) := by omega
      have hkn : k = n := by omega
      subst hkn
      have H3 := Go.Lib.hid (And.intro hown hb)
      clear hown hb
      go_wp2
      go_ret
      exact ⟨_, _, rfl, H3.out.1, H3.out.2⟩

set_option maxRecDepth 100000 in
theorem l1Own_any (zs : List Int) (b o n cap : Nat) (W : World) (hl : zs.length = n) (hn : n ≤ 1048576) (hc : ∀ j, j < zs.length → W.cell? ⟨b, o + j, none⟩ = some (.int .i64 (zs.getD j 0))) :
    Calls Try.prog 155 #[.slice (some ⟨b, o, none⟩) n cap] W fun e w' => ∃ g c, e = .returned (.slice (some ⟨g, 0, none⟩) n c) ∧ w'.ownsRow W.heap.size 3 1 (.slice (some ⟨g, 0, none⟩) n c) n (vals zs) ∧ Below W.heap.size W w' := by
  obtain ⟨i0, hi, hz0, hz1, hz2⟩ := info_parts infoI
  have ho0 := World.ownsRow_made (base := W.heap.size) (e := 3) (size := 1) W #[] 0 (Nat.le_refl _) (by unfold maxLen; omega) rfl
  have hc2 : ∀ j u, (vals zs)[j]? = some u → (W.alloc (.cells #[] 3)).cell? ((⟨b, o, none⟩ : Addr).add j) = some u := by
    intro j u hu
    have hj : j < zs.length := by have := (List.getElem?_eq_some_iff.1 hu).1; simpa using this
    have e0 : (⟨b, o, none⟩ : Addr).add j = ⟨b, o + j, none⟩ := by unfold Addr.add; split <;> simp_all
    have h1 := hc j hj
    have hlt := World.block_lt_of_cell? W _ h1
    have hbl : Below W.heap.size W (W.alloc (.cells #[] 3)) := (Below.refl _ _).alloc (Nat.le_refl _) _
    rw [e0, hbl.cell (p := ⟨b, o + j, none⟩) hlt, h1]
    simp [hj] at hu
    rw [← hu]; simp [hj]
  have HC2 := Go.Lib.hid hc2
  clear hc hc2
  go_enter Try.func155, Try.ntmps155
  go_wp2_with (at_builtin; refine wpList_append_own _ rfl _ _ 29 rfl W.heap.size 3 i0 (.int .i64 0) 1 8 Try.underlying29 hi hz0 hz1 hz2 rfl (by decide) (.slice (some ⟨W.heap.size, 0, none⟩) 0 0) 0 [] rfl ho0 ⟨b, o, none⟩ n cap (vals zs) rfl (by rw [vals_len, hl, Nat.mul_one]) HC2.out (ints_oneCell .i64 zs) (by unfold maxLen; omega) (by omega) (by simp) ?_; intro v' w3 hown' hgrow3 hnil3)
  have hb' : Below W.heap.size W w3 := ((Below.refl _ _).alloc (Nat.le_refl _) _).grown hgrow3 (by simp) (fun q hq => (ho0.lt q hq).1)
  have hne : v' ≠ .slice none 0 0 := fun e => by have := (hnil3.1 e).1; cases this
  rw [Nat.zero_add, List.nil_append] at hown'
  obtain ⟨g, c, rfl⟩ : ∃ g c, v' = .slice (some ⟨g, 0, none⟩) n c := by
    rcases hown'.2 with ⟨h0, _⟩ | ⟨g, c, cur, hv, _⟩
    · exact absurd h0 hne
    · exact ⟨g, c, hv⟩
  have H3 := Go.Lib.hid (And.intro hown' hb')
  clear hown' hgrow3 hnil3 ho0 hb' hne
  go_wp2
  go_ret
  exact ⟨_, _, rfl, H3.out.1, H3.out.2⟩

theorem own_drop_cells {w : World} {base g n cap : Nat} {ty : TypeId} {zs : List Int} (h : w.ownsRow base ty 1 (.slice (some ⟨g, 0, none⟩) n cap) n (vals zs)) (i : Nat) : ∀ j u, (vals (zs.drop i))[j]? = some u → w.cell? ((⟨g, i, none⟩ : Addr).add j) = some u := by
  intro j u hu
  have hl : zs.length = n := by simpa using h.1
  have hj : i + j < zs.length := by have := (List.getElem?_eq_some_iff.1 hu).1; simp at this; omega
  have e0 : (⟨g, i, none⟩ : Addr).add j = ⟨g, i + j, none⟩ := by unfold Addr.add; split <;> simp_all
  rw [e0, h.cellAt (i + j) (by omega)]
  simp at hu ⊢
  exact hu

/-- A slice's length. -/
def lenV : Value → Nat
  | .slice _ m _ => m
  | _ => 0

/-- What is left behind a pick. -/
theorem erase_parts {left : List Int} {i : Nat} : left.eraseIdx i = left.take i ++ left.drop (i + 1) := by
  rw [List.eraseIdx_eq_take_drop_succ]

set_option maxRecDepth 100000 in
set_option maxHeartbeats 4000000 in
theorem l2At_any (n k : Nat) (W : World) (hn1 : 1 ≤ n) (hn : n ≤ 7) (hk : k < fact n) :
    Calls Try.prog 145 #[.int .i64 n, .int .i64 k] W fun e w' => ∃ g c, e = .returned (.slice (some ⟨g, 0, none⟩) n c) ∧ w'.ownsRow W.heap.size 3 1 (.slice (some ⟨g, 0, none⟩) n c) n (vals (atRun n (iota n) k)) ∧ Below W.heap.size W w' := by
  obtain ⟨i0, hi, hz0, hz1, hz2⟩ := info_parts infoI
  have CS := Go.Lib.hid (fun W' => l2Sorted_any n W' hn)
  have hk7 := fact_7 hn
  have ho0 := World.ownsRow_made (base := W.heap.size) (e := 3) (size := 1) W #[] 0 (Nat.le_refl _) (by unfold maxLen; omega) rfl
  have H0 := Go.Lib.hid (And.intro ho0 ((Below.refl W.heap.size W).alloc (Nat.le_refl _) (.cells #[] 3)))
  have HK := Go.Lib.hid hk
  clear ho0 hk
  go_enter Try.func145, Try.ntmps145
  go_wp2_with fail
  refine (CS.out _).mono ?_
  rintro e w1 ⟨gs, cs, rfl, os, bs⟩
  have hos := kept_call H0.out.1 bs
  have hbs := H0.out.2.trans (bs.mono H0.out.2.size)
  have hos2 := own_lower os H0.out.2.size
  have hne : W.heap.size ≠ gs := by
    have h1 := (os.lt gs rfl).1
    have h2 := (H0.out.1.lt W.heap.size rfl).2
    omega
  have H1 := Go.Lib.hid (And.intro hos (And.intro hos2 (And.intro hne hbs)))
  clear os bs hos hbs hos2 hne
  go_wp2_with fail
  go_loopw [1, 5, 6, 7] (fun kv ov lv _ wr => ∃ (m j k' g1 c1 g2 c2 : Nat) (out left : List Int), kv = .int .i64 k' ∧ ov = .slice (some ⟨g1, 0, none⟩) j c1 ∧ lv = .slice (some ⟨g2, 0, none⟩) m c2 ∧ j + m = n ∧ out.length = j ∧ left.length = m ∧ k' ≤ 5040 ∧ wr.ownsRow W.heap.size 3 1 (.slice (some ⟨g1, 0, none⟩) j c1) j (vals out) ∧ wr.ownsRow W.heap.size 3 1 (.slice (some ⟨g2, 0, none⟩) m c2) m (vals left) ∧ g1 ≠ g2 ∧ Below W.heap.size W wr ∧ Hid (out ++ atRun m left k' = atRun n (iota n) k ∧ k' < fact m)) (fun _ _ lv _ _ => lenV lv)
  case atStart => exact ⟨n, 0, k, W.heap.size, 0, gs, cs, [], iota n, rfl, rfl, rfl, by omega, rfl, iota_len n, by have := HK.out; omega, H1.out.1, H1.out.2.1, H1.out.2.2.1, H1.out.2.2.2, Go.Lib.hid ⟨rfl, HK.out⟩⟩
  case round =>
    obtain ⟨m, j, k', g1, c1, g2, c2, out, left, rfl, rfl, rfl, hjm, hlo, hll, hk5, hown1, hown2, hg12, hb, HR⟩ := hrel
    by_cases hm0 : 0 < m
    · obtain ⟨q, rfl⟩ : ∃ q, m = q + 1 := ⟨m - 1, by omega⟩
      have CW := Go.Lib.hid (fun w3 => l2Ways_any q w3 (by omega))
      have hq7 : q ≤ 6 := by omega
      have hf1 := fact_pos q
      have hf7 := fact_6 hq7
      have hkf : k' < (q + 1) * fact q := HR.out.2
      have hix : k' / fact q < q + 1 := by rw [Nat.div_lt_iff_lt_mul (by omega)]; exact hkf
      have hmod := Nat.mod_lt k' (show 0 < fact q by omega)
      have hdiv : (k' : Int).tdiv (fact q : Int) = ((k' / fact q : Nat) : Int) := by rw [Int.tdiv_eq_ediv_of_nonneg (by omega)]; simp
      have hrem : (k' : Int).tmod (fact q : Int) = ((k' % fact q : Nat) : Int) := by rw [Int.tmod_eq_emod_of_nonneg (by omega)]; simp
      have HAT : Hid (atRun (q + 1) left k' = left.getD (k' / fact q) 0 :: atRun q (left.eraseIdx (k' / fact q)) (k' % fact q)) := Go.Lib.hid rfl
      obtain ⟨fq, hfq⟩ : ∃ fq, fact q = fq := ⟨_, rfl⟩
      obtain ⟨ix, hixe⟩ : ∃ ix, k' / fq = ix := ⟨_, rfl⟩
      obtain ⟨km, hkm⟩ : ∃ km, k' % fq = km := ⟨_, rfl⟩
      rw [hfq] at CW hf1 hf7 hix hmod hdiv hrem HAT
      rw [hixe] at hix hdiv HAT
      rw [hkm] at hmod hrem HAT
      obtain ⟨z, hz⟩ : ∃ z, left.getD ix 0 = z := ⟨_, rfl⟩
      rw [hz] at HAT
      have hckz : wr.cell? ⟨g2, ix, none⟩ = some (.int .i64 z) := by rw [hown2.cellAt ix (by omega)]; simp [show ix < left.length by omega]; rw [← hz]; simp [show ix < left.length by omega]
      have hcapm : q + 1 ≤ c2 := by
        rcases hown2.2 with ⟨h0, _⟩ | ⟨g', cap', cur, h0, _, _, h1, _⟩
        · cases h0
        · cases h0; exact h1
      obtain ⟨ix1, hix1⟩ : ∃ ix1, ix + 1 = ix1 := ⟨_, rfl⟩
      have q1 : IntKind.i64.wrap ((ix : Int) + 1) = (ix1 : Int) := by rw [IntWalk.i64_in _ (by omega)]; omega
      have s1 : ix ≤ c2 := by omega
      have s2 : ix1 ≤ q + 1 := by omega
      have s3 : ix1 ≤ c2 := by omega
      have s4 : ix ≤ ix1 := by omega
      have r7 : (ix : Int) ≤ (ix1 : Int) := by omega
      have r1 : (ix : Int) ≤ (c2 : Int) := by omega
      have r2 : (ix1 : Int) ≤ ((q + 1 : Nat) : Int) := by omega
      have r3 : (ix1 : Int) ≤ (c2 : Int) := by omega
      have r4 : (ix : Int) < ((q + 1 : Nat) : Int) := by omega
      have r5 : (ix1 : Int) ≤ (q : Int) + 1 := by omega
      have r6 : (ix : Int) < (q : Int) + 1 := by omega
      have hfne : ((fq : Int) == 0) = false := by rw [beq_eq_false_iff_ne]; omega
      have hfne2 : ¬ (fq : Int) = 0 := by omega
      have hfne3 : ¬ fq = 0 := by omega
      have q0 : IntKind.i64.wrap (ix : Int) = (ix : Int) := IntWalk.i64_in _ (by omega)
      have HL := Go.Lib.hid (And.intro hlo (And.intro hll (And.intro hjm (And.intro hix (And.intro hix1 (And.intro hmod hz))))))
      have hj7 : j ≤ 7 := by omega
      have hk6 : k' / fq ≤ 5040 := by omega
      have HG2 := Go.Lib.hid ((hown2.lt g2 rfl).2)
      have HMOD : Hid (km < fact q) := Go.Lib.hid (by rw [hfq]; exact hmod)
      have hkm5 : km ≤ 5040 := by omega
      clear hlo hll hjm hfq hkf hz hixe hkm
      go_wp2_with fail
      refine (CW.out _).mono ?_
      rintro e w2 ⟨rfl, rfl⟩
      go_wp2_with (at_builtin; refine wpList_append_own_at _ rfl _ _ 29 rfl W.heap.size 3 i0 (.int .i64 0) 1 8 Try.underlying29 hi hz0 hz1 hz2 rfl (by decide) (.slice (some ⟨g1, 0, none⟩) j c1) j (vals out) rfl (hown1.alloc _) ⟨wr.heap.size, 0, none⟩ 1 1 [.int .i64 z] rfl rfl (cell_one_new _ _ _) (fun x hx => by simp at hx; subst hx; rfl) (by unfold maxLen; omega) (by omega) (by have := hb.size; simp; omega) ?_; intro v' w3 hown' hgrow3 hnil3 hrow3)
      obtain ⟨g', cap', rfl⟩ := ownsRow_succ hown'
      have e1 : vals out ++ [Value.int .i64 z] = vals (out ++ [z]) := by simp
      rw [e1] at hown'
      have hb' : Below W.heap.size W w3 := (hb.alloc hb.size _).grown hgrow3 (by have := hb.size; simp; omega) (fun q hq => (hown1.lt q hq).1)
      have hown2' := own_mark (hown2.alloc (.cells #[.int .i64 z] 3)) hgrow3 (fun a ha e => by simp only [Value.ownBlock, Option.some.injEq] at ha e; omega)
      have hg12' : g' ≠ g2 := by
        have h1 := HG2.out
        rcases hrow3 with h2 | h2
        · simp [Value.ownBlock] at h2; omega
        · simp [Value.ownBlock] at h2; omega
      have H3 := Go.Lib.hid (And.intro hown' (And.intro hown2' (And.intro hg12' hb')))
      have HG1 := Go.Lib.hid ((hown'.lt g' rfl).2)
      have htl : (left.take ix).length = ix := by rw [List.length_take, HL.out.2.1]; omega
      have CO := Go.Lib.hid (l1Own_any (left.take ix) g2 0 ix c2 w3.drew htl (by omega) (by
        intro i hi
        have hi2 : i < ix := by omega
        have h1 := (own_cells hown2').1 i (by rw [HL.out.2.1]; omega)
        have h2 : w3.drew.cell? ⟨g2, 0 + i, none⟩ = w3.cell? ⟨g2, 0 + i, none⟩ := rfl
        rw [h2, h1]
        simp [hi2]))
      have HB3 : Hid (W.heap.size ≤ w3.drew.heap.size) := Go.Lib.hid hb'.size
      have hi3 := hi
      clear hown' hgrow3 hnil3 hrow3 hown1 hown2 hb hb' hown2' hg12' e1 htl hckz
      have HINFO := Go.Lib.hid (And.intro hi (And.intro hz0 (And.intro hz1 hz2)))
      have hu2 := Try.underlying29
      have NEWS1 : Hid (∀ w4 : World, w4.ownsRow W.heap.size 3 1 (.slice (some ⟨g2, 0, none⟩) (q + 1) c2) (q + 1) (vals left) → ∀ j u, (vals (left.drop ix1))[j]? = some u → w4.cell? ((⟨g2, ix1, none⟩ : Addr).add j) = some u) := Go.Lib.hid (fun w4 h => own_drop_cells h ix1)
      have NEWS0 : Hid (∀ w4 : World, c2 = ix1 → w4.ownsRow W.heap.size 3 1 (.slice (some ⟨g2, 0, none⟩) (q + 1) c2) (q + 1) (vals left) → ∀ j u, (vals (left.drop ix1))[j]? = some u → w4.cell? ((⟨g2, 0, none⟩ : Addr).add j) = some u) := Go.Lib.hid (fun w4 hc h j u hu => by
        rw [List.drop_of_length_le (by rw [HL.out.2.1]; omega)] at hu
        simp at hu)
      by_cases hcc : c2 = ix1
      · subst hcc
        go_region_law (first
          | (refine step_append_own _ rfl (.tmp 32) (.tmp 38) 29 rfl w3.drew.heap.size 3 i0 (.int .i64 0) 1 8 hu2 HINFO.out.1 HINFO.out.2.1 HINFO.out.2.2.1 HINFO.out.2.2.2 rfl (by decide) (.slice (some ⟨g3, 0, none⟩) ix c3) ix (vals (left.take ix)) (by simp [Act.eval]) H5.out.1 ⟨g2, 0, none⟩ (q + 1 - c2) 0 (vals (left.drop c2)) (by simp [Act.eval] <;> omega) H5.out.2.2.1 H5.out.2.2.2.1 (ints_oneCell .i64 _) (by unfold maxLen; omega) (by omega) H5.out.2.2.2.2 ?_; intro v6 w6 hown6 hgrow6 hnil6)
          | (go_simp; go_at_call 155; refine CO.out.mono ?_; rintro e w4 ⟨g3, c3, rfl, ho4, hb4⟩; have H5 := Go.Lib.hid (And.intro ho4 (And.intro hb4 (And.intro (show (vals (left.drop c2)).length = (q + 1 - c2) * 1 by rw [vals_len, List.length_drop, HL.out.2.1, Nat.mul_one]) (And.intro (NEWS0.out w4 rfl (kept_call (show w3.drew.ownsRow W.heap.size 3 1 (.slice (some ⟨g2, 0, none⟩) (q + 1) c2) (q + 1) (vals left) from H3.out.2.1) hb4)) hb4.size)))); have H6 := Go.Lib.hid (ho4.lt g3 rfl)))
        all_goals
          have hne6 : v6 ≠ .slice none 0 0 := fun e => by have := (hnil6.1 e).1; cases this
          obtain ⟨g6, c6, rfl⟩ : ∃ g c, v6 = .slice (some ⟨g, 0, none⟩) (ix + (q + 1 - c2)) c := by
            rcases hown6.2 with ⟨h0, _⟩ | ⟨g, c, cur, hv, _⟩
            · exact absurd h0 hne6
            · exact ⟨g, c, hv⟩
          have hn6 : ix + (q + 1 - c2) = q := by have := HL.out; omega
          have e6 : vals (left.take ix) ++ vals (left.drop c2) = vals (left.eraseIdx ix) := by rw [erase_parts, HL.out.2.2.2.2.1]; simp
          rw [e6, hn6] at hown6
          have hout4 : w4.ownsRow W.heap.size 3 1 (.slice (some ⟨g', 0, none⟩) (j + 1) cap') (j + 1) (vals (out ++ [z])) := kept_call (show w3.drew.ownsRow W.heap.size 3 1 (.slice (some ⟨g', 0, none⟩) (j + 1) cap') (j + 1) (vals (out ++ [z])) from H3.out.1) H5.out.2.1
          have hg36 : g' < g3 := by
            have h1 := HG1.out
            have h2 := H6.out.1
            have h3 : w3.drew.heap.size = w3.heap.size := rfl
            omega
          have hout6 := own_mark hout4 hgrow6 (fun a ha e => by simp only [Value.ownBlock, Option.some.injEq] at ha e; omega)
          have hb4' : Below W.heap.size W w4 := H3.out.2.2.2.drew.trans (H5.out.2.1.mono HB3.out)
          have hb6 : Below W.heap.size W w6 := hb4'.grown hgrow6 (Nat.le_trans HB3.out H5.out.2.2.2.2) (fun k hk => by simp only [Value.ownBlock, Option.some.injEq] at hk; have h1 := H6.out.1; have h2 := HB3.out; omega)
          have hg16 : g' ≠ g6 := by
            intro e
            subst e
            have h1 := (hown6.lt g' rfl).1
            have h2 := HG1.out
            have h3 : w3.drew.heap.size = w3.heap.size := rfl
            omega
          have H7 := Go.Lib.hid (And.intro hout6 (And.intro (own_lower hown6 HB3.out) (And.intro hg16 hb6)))
          have HN : Hid ((out ++ [z]) ++ atRun q (left.eraseIdx ix) km = atRun n (iota n) k ∧ km < fact q) := Go.Lib.hid ⟨by rw [← HR.out.1, HAT.out]; simp, HMOD.out⟩
          clear hgrow6 hnil6 hout4 hout6 hb4' hb6 hg16 hown6 e6 hne6
          rw [hn6]
          go_wp2
          go_roundw
          case rel => exact ⟨q, j + 1, km, g', cap', g6, c6, out ++ [z], left.eraseIdx ix, rfl, rfl, rfl, by have := HL.out; omega, by simp; exact HL.out.1, by rw [List.length_eraseIdx, HL.out.2.1]; have := HL.out; split <;> omega, by omega, H7.out.1, H7.out.2.1, H7.out.2.2.1, H7.out.2.2.2, HN⟩
          case measure => simp [lenV]
      · skip
        go_region_law (first
          | (refine step_append_own _ rfl (.tmp 32) (.tmp 38) 29 rfl w3.drew.heap.size 3 i0 (.int .i64 0) 1 8 hu2 HINFO.out.1 HINFO.out.2.1 HINFO.out.2.2.1 HINFO.out.2.2.2 rfl (by decide) (.slice (some ⟨g3, 0, none⟩) ix c3) ix (vals (left.take ix)) (by simp [Act.eval]) H5.out.1 ⟨g2, ix1, none⟩ (q + 1 - ix1) (c2 - ix1) (vals (left.drop ix1)) (by simp [Act.eval]) H5.out.2.2.1 H5.out.2.2.2.1 (ints_oneCell .i64 _) (by unfold maxLen; omega) (by omega) H5.out.2.2.2.2 ?_; intro v6 w6 hown6 hgrow6 hnil6)
          | (go_simp; go_at_call 155; refine CO.out.mono ?_; rintro e w4 ⟨g3, c3, rfl, ho4, hb4⟩; have H5 := Go.Lib.hid (And.intro ho4 (And.intro hb4 (And.intro (show (vals (left.drop ix1)).length = (q + 1 - ix1) * 1 by rw [vals_len, List.length_drop, HL.out.2.1, Nat.mul_one]) (And.intro (NEWS1.out w4 (kept_call (show w3.drew.ownsRow W.heap.size 3 1 (.slice (some ⟨g2, 0, none⟩) (q + 1) c2) (q + 1) (vals left) from H3.out.2.1) hb4)) hb4.size)))); have H6 := Go.Lib.hid (ho4.lt g3 rfl)))
        all_goals
          have hne6 : v6 ≠ .slice none 0 0 := fun e => by have := (hnil6.1 e).1; cases this
          obtain ⟨g6, c6, rfl⟩ : ∃ g c, v6 = .slice (some ⟨g, 0, none⟩) (ix + (q + 1 - ix1)) c := by
            rcases hown6.2 with ⟨h0, _⟩ | ⟨g, c, cur, hv, _⟩
            · exact absurd h0 hne6
            · exact ⟨g, c, hv⟩
          have hn6 : ix + (q + 1 - ix1) = q := by have := HL.out; omega
          have e6 : vals (left.take ix) ++ vals (left.drop ix1) = vals (left.eraseIdx ix) := by rw [erase_parts, HL.out.2.2.2.2.1]; simp
          rw [e6, hn6] at hown6
          have hout4 : w4.ownsRow W.heap.size 3 1 (.slice (some ⟨g', 0, none⟩) (j + 1) cap') (j + 1) (vals (out ++ [z])) := kept_call (show w3.drew.ownsRow W.heap.size 3 1 (.slice (some ⟨g', 0, none⟩) (j + 1) cap') (j + 1) (vals (out ++ [z])) from H3.out.1) H5.out.2.1
          have hg36 : g' < g3 := by
            have h1 := HG1.out
            have h2 := H6.out.1
            have h3 : w3.drew.heap.size = w3.heap.size := rfl
            omega
          have hout6 := own_mark hout4 hgrow6 (fun a ha e => by simp only [Value.ownBlock, Option.some.injEq] at ha e; omega)
          have hb4' : Below W.heap.size W w4 := H3.out.2.2.2.drew.trans (H5.out.2.1.mono HB3.out)
          have hb6 : Below W.heap.size W w6 := hb4'.grown hgrow6 (Nat.le_trans HB3.out H5.out.2.2.2.2) (fun k hk => by simp only [Value.ownBlock, Option.some.injEq] at hk; have h1 := H6.out.1; have h2 := HB3.out; omega)
          have hg16 : g' ≠ g6 := by
            intro e
            subst e
            have h1 := (hown6.lt g' rfl).1
            have h2 := HG1.out
            have h3 : w3.drew.heap.size = w3.heap.size := rfl
            omega
          have H7 := Go.Lib.hid (And.intro hout6 (And.intro (own_lower hown6 HB3.out) (And.intro hg16 hb6)))
          have HN : Hid ((out ++ [z]) ++ atRun q (left.eraseIdx ix) km = atRun n (iota n) k ∧ km < fact q) := Go.Lib.hid ⟨by rw [← HR.out.1, HAT.out]; simp, HMOD.out⟩
          clear hgrow6 hnil6 hout4 hout6 hb4' hb6 hg16 hown6 e6 hne6
          rw [hn6]
          go_wp2
          go_roundw
          case rel => exact ⟨q, j + 1, km, g', cap', g6, c6, out ++ [z], left.eraseIdx ix, rfl, rfl, rfl, by have := HL.out; omega, by simp; exact HL.out.1, by rw [List.length_eraseIdx, HL.out.2.1]; have := HL.out; split <;> omega, by omega, H7.out.1, H7.out.2.1, H7.out.2.2.1, H7.out.2.2.2, HN⟩
          case measure => simp [lenV]
    · obtain rfl : m = 0 := by omega
      have HE : Hid (atRun n (iota n) k = out) := Go.Lib.hid (by rw [← HR.out.1]; simp [atRun])
      have H3 := Go.Lib.hid (And.intro hown1 hb)
      obtain rfl : j = n := by omega
      clear hown1 hown2 hb
      go_wp2
      go_ret
      exact ⟨_, _, rfl, by rw [HE.out]; exact H3.out.1, H3.out.2⟩

end Go.Proofs.Ytecbfoodkcgehab.AtC

/-
  Contracts: the model and the program run an order by a word. Conditions: lists and texts of at most 2^20 elements.
-/
namespace Go.Proofs.Ytecbfoodkcgehab.RunC
open Go.RowKit SeesC IntsC ExactC NumC IterC OrdMath WordMath InC OrderC WordC

def runAns (zs : List Int) (s : ByteArray) : List Int × Bool := if Ord zs ∧ Word s ∧ s.size = 2 * zs.length then (runOut zs s, true) else ([], false)

theorem runOut_len {zs : List Int} {s : ByteArray} (hw : Word s) (hsz : s.size = 2 * zs.length) : (runOut zs s).length = zs.length := by
  have := run_len (zs := zs) s.size 0 hw.2.2
  unfold runOut
  omega

theorem run_ans_len {zs : List Int} {s : ByteArray} {xs : List Int} {b : Bool} (h : runAns zs s = (xs, b)) : xs.length ≤ 1048576 := by
  unfold runAns at h; split at h
  · rename_i ho; cases h; rw [runOut_len ho.2.1 ho.2.2]; have := ho.1.2.1; omega
  · cases h; simp

/-- A list that is not empty, as all but the last, and the last. -/
theorem split_last {l : List Int} (h : 0 < l.length) : ∃ a p, l = a ++ [p] ∧ l.getLast?.getD 0 = p ∧ l.dropLast = a := by
  have hne : l ≠ [] := by intro e; subst e; simp at h
  have e := (List.dropLast_concat_getLast hne).symm
  refine ⟨l.dropLast, l.getLast hne, e, ?_, rfl⟩
  conv => lhs; rw [e]
  simp

set_option maxRecDepth 100000 in
set_option maxHeartbeats 2000000 in
theorem l2Run_any (zs : List Int) (s : ByteArray) (hord : Ord zs) (hw : Word s) (hsz : s.size = 2 * zs.length) (W : World) (v : Value) (n : Nat) (hv : Sees W v n (vals zs)) :
    Calls Try.prog 188 #[v, .string s] W fun e w' => ∃ u, e = .returned u ∧ w'.ownsRow W.heap.size 3 1 u (runOut zs s).length (vals (runOut zs s)) ∧ Below W.heap.size W w' := by
  obtain ⟨i0, hi, hz0, hz1, hz2⟩ := info_parts infoI
  have hl : zs.length = n := by simpa using hv.1
  have hn1 : 1 ≤ n := by have := hord.1; omega
  have hn7 : n ≤ 7 := by have := hord.2.1; omega
  obtain ⟨b, o, cap, rfl, hcap, _, hbl, hcell⟩ := sees_cells hv (by omega)
  have HC := Go.Lib.hid hcell
  have HSZ := Go.Lib.hid hsz
  have hs14 : s.size ≤ 14 := hw.2.1
  have HW := Go.Lib.hid hw
  clear hv hcell hsz hw
  go_enter Try.func188, Try.ntmps188
  go_wp2
  have ho1 : ((W.alloc (.cells #[] 3)).alloc (.cells #[] 3)).ownsRow W.heap.size 3 1 (.slice (some ⟨W.heap.size, 0, none⟩) 0 0) 0 [] := (World.ownsRow_made (base := W.heap.size) (e := 3) (size := 1) W #[] 0 (Nat.le_refl _) (by unfold maxLen; omega) rfl).alloc _
  have ho2 : ((W.alloc (.cells #[] 3)).alloc (.cells #[] 3)).ownsRow W.heap.size 3 1 (.slice (some ⟨W.heap.size + 1, 0, none⟩) 0 0) 0 [] := by
    have := World.ownsRow_made (base := W.heap.size) (e := 3) (size := 1) (W.alloc (.cells #[] 3)) #[] 0 (by simp) (by unfold maxLen; omega) rfl
    simpa using this
  have hb0 : Below W.heap.size W ((W.alloc (.cells #[] 3)).alloc (.cells #[] 3)) := ((Below.refl _ _).alloc (Nat.le_refl _) _).alloc (by simp) _
  go_loopw [5, 6, 7, 8] (fun ov sv xv kv wr => ∃ (k no ns x g1 c1 g2 c2 : Nat) (lo ls : List Int), k ≤ s.size ∧ kv = .int .i64 k ∧ xv = .int .i64 x ∧ ov = .slice (some ⟨g1, 0, none⟩) no c1 ∧ sv = .slice (some ⟨g2, 0, none⟩) ns c2 ∧ lo.length = no ∧ ls.length = ns ∧ wr.ownsRow W.heap.size 3 1 (.slice (some ⟨g1, 0, none⟩) no c1) no (vals lo) ∧ wr.ownsRow W.heap.size 3 1 (.slice (some ⟨g2, 0, none⟩) ns c2) ns (vals ls) ∧ g1 ≠ g2 ∧ Below W.heap.size W wr ∧ Hid (runTo zs s k = (lo, ls, x))) (fun _ _ _ k _ => s.size - (intOf k).toNat)
  case atStart => exact ⟨0, 0, 0, 0, W.heap.size, 0, W.heap.size + 1, 0, [], [], Nat.zero_le _, rfl, rfl, rfl, rfl, rfl, rfl, ho1, ho2, by omega, hb0, Go.Lib.hid rfl⟩
  case round =>
    obtain ⟨k, no, ns, x, g1, c1, g2, c2, lo, ls, hk, rfl, rfl, rfl, rfl, hlo, hls, hown1, hown2, hg12, hb, HR⟩ := hrel
    clear ho1 ho2 hb0
    by_cases hlt : k < s.size
    · have hlti : (k : Int) < (s.size : Int) := by omega
      obtain ⟨d, hd, hd1, hd2, hc⟩ := HW.out.at hlt
      have hrl := run_len (zs := zs) k d hd
      rw [HR.out] at hrl
      simp only at hrl
      have hsz := HSZ.out
      rcases hc with ⟨hI, hn, hd3⟩ | ⟨hO, hd0, hn⟩
      · have hI2 : (s[k].toNat : Int) = 73 := by have := (byt_nat hlt 73 (by omega)).2 hI; omega
        have hx : x < zs.length := by omega
        have hck : wr.cell? ⟨b, o + x, none⟩ = some (.int .i64 (zs.getD x 0)) := (hb.cell (p := ⟨b, o + x, none⟩) hbl).trans (HC.out x hx)
        obtain ⟨z, hz⟩ : ∃ z, zs.getD x 0 = z := ⟨_, rfl⟩
        have HN : Hid (runTo zs s (k + 1) = (lo, ls ++ [z], x + 1)) := Go.Lib.hid (by rw [run_I HR.out hI, hz])
        rw [hz] at hck
        have hxi : (x : Int) < (n : Int) := by omega
        have hns14 : ns ≤ 14 := by omega
        have HSL := Go.Lib.hid hls
        clear hz hI hn hd3 hd hd1 hd2 hrl hsz hx hls
        go_wp2_with (at_builtin; refine wpList_append_own_at _ rfl _ _ 29 rfl W.heap.size 3 i0 (.int .i64 0) 1 8 Try.underlying29 hi hz0 hz1 hz2 rfl (by decide) (.slice (some ⟨g2, 0, none⟩) ns c2) ns (vals ls) rfl (hown2.alloc _) ⟨wr.heap.size, 0, none⟩ 1 1 [.int .i64 z] rfl rfl (cell_one_new _ _ _) (fun x hx => by simp at hx; subst hx; rfl) (by unfold maxLen; omega) (by omega) (by have := hb.size; simp; omega) ?_; intro v' w3 hown' hgrow3 hnil3 hrow3)
        obtain ⟨g', cap', rfl⟩ := ownsRow_succ hown'
        have e1 : vals ls ++ [Value.int .i64 z] = vals (ls ++ [z]) := by simp
        rw [e1] at hown'
        have hb' : Below W.heap.size W w3 := (hb.alloc hb.size _).grown hgrow3 (by have := hb.size; simp; omega) (fun q hq => (hown2.lt q hq).1)
        have hown1' := own_mark (hown1.alloc (.cells #[.int .i64 z] 3)) hgrow3 (fun a ha e => by simp only [Value.ownBlock, Option.some.injEq] at ha e; omega)
        have hg12' : g1 ≠ g' := by
          have h1 := (hown1.lt g1 rfl).2
          rcases hrow3 with h2 | h2
          · simp [Value.ownBlock] at h2; omega
          · simp [Value.ownBlock] at h2; omega
        have H3 := Go.Lib.hid (And.intro hown1' (And.intro hown' (And.intro hg12' hb')))
        clear hown' hgrow3 hnil3 hrow3 hown1 hown2 hb hb' hown1' hg12' e1
        go_wp2
        go_roundw
        case rel => exact ⟨k + 1, no, ns + 1, x + 1, g1, c1, g', cap', lo, ls ++ [z], by omega, by go_num, by go_num, rfl, rfl, hlo, by simp; exact HSL.out, H3.out.1, H3.out.2.1, H3.out.2.2.1, H3.out.2.2.2, HN⟩
        case measure => simp [intOf]; omega
      · have hI2 : ((s[k].toNat : Int) == 73) = false := ne_int (b := 73) (by have := (byt_nat hlt 79 (by omega)).2 hO; omega)
        obtain ⟨la, p, hlap, hlast, hdrop⟩ := split_last (l := ls) (by omega)
        have HN : Hid (runTo zs s (k + 1) = (lo ++ [p], la, x)) := Go.Lib.hid (by rw [run_O HR.out hO, hlast, hdrop])
        subst hlap
        obtain ⟨m, hm⟩ : ∃ m, la.length = m := ⟨_, rfl⟩
        obtain rfl : ns = m + 1 := by rw [← hls, ← hm]; simp
        have hck : wr.cell? ⟨g2, m, none⟩ = some (.int .i64 p) := by rw [hown2.cellAt m (by omega)]; simp [← hm]
        have hpop : wr.ownsRow W.heap.size 3 1 (.slice (some ⟨g2, 0, none⟩) m c2) m (vals la) := ownsRow_pop (last := [.int .i64 p]) (by simp [hm]) (by simpa using hown2)
        have hmc : m + 1 ≤ c2 := by
          rcases hown2.2 with ⟨h0, _⟩ | ⟨g, cap, cur, h0, _, _, h1, _⟩
          · cases h0
          · cases h0; exact h1
        have hno7 : no ≤ 14 := by omega
        have hm14 : m ≤ 14 := by omega
        have HSL := Go.Lib.hid (And.intro hm hlo)
        have hgb2 := Go.Lib.hid (hown2.lt g2 rfl)
        clear hO hn hd hd1 hd2 hrl hsz hlast hdrop hls hown2 hm hlo
        go_wp2_with (at_builtin; refine wpList_append_own_at _ rfl _ _ 29 rfl W.heap.size 3 i0 (.int .i64 0) 1 8 Try.underlying29 hi hz0 hz1 hz2 rfl (by decide) (.slice (some ⟨g1, 0, none⟩) no c1) no (vals lo) rfl (hown1.alloc _) ⟨wr.heap.size, 0, none⟩ 1 1 [.int .i64 p] rfl rfl (cell_one_new _ _ _) (fun x hx => by simp at hx; subst hx; rfl) (by unfold maxLen; omega) (by omega) (by have := hb.size; simp; omega) ?_; intro v' w3 hown' hgrow3 hnil3 hrow3)
        obtain ⟨g', cap', rfl⟩ := ownsRow_succ hown'
        have e1 : vals lo ++ [Value.int .i64 p] = vals (lo ++ [p]) := by simp
        rw [e1] at hown'
        have hb' : Below W.heap.size W w3 := (hb.alloc hb.size _).grown hgrow3 (by have := hb.size; simp; omega) (fun q hq => (hown1.lt q hq).1)
        have hown2' := own_mark (hpop.alloc (.cells #[.int .i64 p] 3)) hgrow3 (fun a ha e => by simp only [Value.ownBlock, Option.some.injEq] at ha e; omega)
        have hg12' : g' ≠ g2 := by
          have h1 := hgb2.out.2
          rcases hrow3 with h2 | h2
          · simp [Value.ownBlock] at h2; omega
          · simp [Value.ownBlock] at h2; omega
        have H3 := Go.Lib.hid (And.intro hown' (And.intro hown2' (And.intro hg12' hb')))
        clear hown' hgrow3 hnil3 hrow3 hown1 hpop hb hb' hown2' hg12' e1
        go_wp2
        go_roundw
        case rel => exact ⟨k + 1, no + 1, m, x, g', cap', g2, c2, lo ++ [p], la, by omega, by go_num, rfl, rfl, rfl, by simp; exact HSL.out.2, HSL.out.1, H3.out.1, H3.out.2.1, H3.out.2.2.1, H3.out.2.2.2, HN⟩
        case measure => simp [intOf]; omega
    · have hkn : k = s.size := by omega
      have HE : Hid (runOut zs s = lo) := Go.Lib.hid (by unfold runOut; rw [← hkn, HR.out])
      have H3 := Go.Lib.hid (And.intro hown1 hb)
      clear hown1 hown2 hb
      go_wp2
      go_ret
      exact ⟨_, rfl, by rw [HE.out, hlo]; exact H3.out.1, H3.out.2⟩

/-- A row of the call's own as a block that is known whole, and back. -/
theorem own_block {w : World} {base g n cap : Nat} {ty : TypeId} {xs : List Value} (h : w.ownsRow base ty 1 (.slice (some ⟨g, 0, none⟩) n cap) n xs) : ∃ ex, w.heap[g]? = some (.cells (xs ++ ex).toArray ty (0, 0)) ∧ n + ex.length = cap ∧ xs.length = n ∧ base ≤ g ∧ cap ≤ maxLen := by
  have hl : xs.length = n := by simpa using h.1
  rcases h.2 with ⟨h0, _⟩ | ⟨g', cap', cur, h0, hb, hh, h1, hm, hsz, ht⟩
  · cases h0
  · cases h0
    refine ⟨cur.toList.drop n, ?_, ?_, hl, hb, hm⟩
    · rw [← ht, Nat.mul_one, List.take_append_drop]; simpa using hh
    · rw [List.length_drop, Array.length_toList, hsz]; omega

theorem block_own {w : World} {base g n cap : Nat} {ty : TypeId} {xs ex : List Value} (hh : w.heap[g]? = some (.cells (xs ++ ex).toArray ty (0, 0))) (hc : n + ex.length = cap) (hl : xs.length = n) (hb : base ≤ g) (hm : cap ≤ maxLen) : w.ownsRow base ty 1 (.slice (some ⟨g, 0, none⟩) n cap) n xs :=
  ⟨by simpa using hl, .inr ⟨g, cap, _, rfl, hb, hh, by omega, hm, by simp; omega, by simp [← hl]⟩⟩

/-- What a pop does to the line. -/
theorem line_pop (lo la R : List Int) (p : Int) (ex : List Value) (no : Nat) (hno : lo.length = no) :
    (splice (vals (lo ++ (la ++ [p]) ++ R) ++ ex) (no + 1) (vals la)).set no (.int .i64 p) = vals ((lo ++ [p]) ++ la ++ R) ++ ex := by
  subst hno
  unfold splice vals
  have e1 : List.map (Value.int .i64) (lo ++ (la ++ [p]) ++ R) ++ ex = List.map (Value.int .i64) lo ++ (List.map (Value.int .i64) (la ++ [p]) ++ (List.map (Value.int .i64) R ++ ex)) := by simp
  rw [e1]
  obtain ⟨y, ys, hy⟩ : ∃ y ys, List.map (Value.int .i64) (la ++ [p]) = y :: ys := by
    cases la with
    | nil => exact ⟨_, _, rfl⟩
    | cons a tl => exact ⟨_, _, rfl⟩
  have hys : ys.length = la.length := by have := congrArg List.length hy; simp at this; omega
  rw [hy]
  have e2 : (List.map (Value.int .i64) lo ++ (y :: ys ++ (List.map (Value.int .i64) R ++ ex))).take (lo.length + 1) = List.map (Value.int .i64) lo ++ [y] := by
    have h9 : List.map (Value.int .i64) lo ++ (y :: ys ++ (List.map (Value.int .i64) R ++ ex)) = (List.map (Value.int .i64) lo ++ [y]) ++ (ys ++ (List.map (Value.int .i64) R ++ ex)) := by simp
    rw [h9, List.take_append_of_le_length (by simp)]
    exact List.take_of_length_le (by simp)
  have e3 : (List.map (Value.int .i64) lo ++ (y :: ys ++ (List.map (Value.int .i64) R ++ ex))).drop (lo.length + 1 + (List.map (Value.int .i64) la).length) = List.map (Value.int .i64) R ++ ex := by
    have h9 : List.map (Value.int .i64) lo ++ (y :: ys ++ (List.map (Value.int .i64) R ++ ex)) = (List.map (Value.int .i64) lo ++ y :: ys) ++ (List.map (Value.int .i64) R ++ ex) := by simp
    rw [h9, List.drop_append_of_le_length (by simp; omega), List.drop_of_length_le (by simp; omega), List.nil_append]
  rw [e2, e3, List.append_assoc, List.set_append_right _ _ (by simp)]
  simp

end Go.Proofs.Ytecbfoodkcgehab.RunC

/-
  Contracts: the model and the program list all words for so many numbers. Conditions: none.
-/
namespace Go.Proofs.Ytecbfoodkcgehab.WordsC
open Go.RowKit SeesC IntsC ExactC NumC IterC WordMath InC WordC

theorem infoS : (Try.prog.info? 9).map (fun i => (i.zero, i.size, i.bytes)) = some (some (.string ByteArray.empty), 1, 16) := by kernel_rfl

def sI : ByteArray := { data := #[73] }
def sO : ByteArray := { data := #[79] }

/-- All words that go on from a text, r signs long, with d on the stack. -/
def wordsFrom : Nat → Nat → ByteArray → List ByteArray
  | 0, _, so => [so]
  | r + 1, d, so => (if d < r + 1 then wordsFrom r (d + 1) (so ++ sI) else []) ++ (if 0 < d then wordsFrom r (d - 1) (so ++ sO) else [])

theorem wordsFrom_len : ∀ (r d : Nat) (so : ByteArray), (wordsFrom r d so).length ≤ 2 ^ r
  | 0, _, _ => Nat.le_refl _
  | r + 1, d, so => by
    unfold wordsFrom
    rw [List.length_append]
    have h1 : (if d < r + 1 then wordsFrom r (d + 1) (so ++ sI) else []).length ≤ 2 ^ r := by
      split
      · exact wordsFrom_len r _ _
      · simp
    have h2 : (if 0 < d then wordsFrom r (d - 1) (so ++ sO) else []).length ≤ 2 ^ r := by
      split
      · exact wordsFrom_len r _ _
      · simp
    rw [Nat.pow_succ]; omega

theorem wordsFrom_16k {r d : Nat} {so : ByteArray} (h : r ≤ 14) : (wordsFrom r d so).length ≤ 16384 := by
  have h1 := wordsFrom_len r d so
  have h2 : 2 ^ r ≤ 2 ^ 14 := Nat.pow_le_pow_right (by omega) h
  have h3 : (2 : Nat) ^ 14 = 16384 := by decide
  omega

def wordsAns (n : Int) : List ByteArray × Bool := if 1 ≤ n ∧ n ≤ 7 then (wordsFrom (2 * n.toNat) 0 ByteArray.empty, true) else ([], false)

theorem words_len {n : Int} {xs : List ByteArray} {b : Bool} (h : wordsAns n = (xs, b)) : xs.length ≤ 1048576 := by
  unfold wordsAns at h; split at h
  · cases h; have := @wordsFrom_16k (2 * n.toNat) 0 ByteArray.empty (by omega); omega
  · cases h; simp

/-- Texts and a truth value are returned, the texts in memory of the call's own. -/
def TextsTo (w : World) (e : Ending) (w' : World) (xs : List ByteArray) (b : Bool) : Prop :=
  ∃ v, e = .returned (.tuple #[v, .bool b]) ∧ w'.ownsRow w.heap.size 9 1 v xs.length (xs.map Value.string) ∧ Below w.heap.size w w'

theorem textsTo_none (w : World) (b : Bool) : TextsTo w (.returned (.tuple #[.slice (some ⟨w.heap.size, 0, none⟩) 0 0, .bool b])) (w.alloc (.cells #[] 9)) [] b :=
  ⟨_, rfl, World.ownsRow_made _ _ _ (Nat.le_refl _) (by unfold maxLen; omega) rfl, (Below.refl _ _).alloc (Nat.le_refl _) _⟩

theorem own_form {w : World} {base size n : Nat} {ty : TypeId} {v : Value} {xs : List Value} (h : w.ownsRow base ty size v n xs) (hne : v ≠ .slice none 0 0) : ∃ g cap, v = .slice (some ⟨g, 0, none⟩) n cap := by
  rcases h.2 with ⟨h0, _⟩ | ⟨g, cap, cur, hv, _⟩
  · exact absurd h0 hne
  · exact ⟨g, cap, hv⟩

end Go.Proofs.Ytecbfoodkcgehab.WordsC

/-
  The mathematics of ranks of words: in how many ways a word goes on, which place a word has among all, and which word is at a place. Conditions: none. Plain facts on texts and lists: nothing of the program.
-/
namespace Go.Proofs.Ytecbfoodkcgehab.EndsM
open NumC WordMath WordsC

/-- In how many ways a word goes on, with n signs left and k on the stack. -/
def ends : Nat → Nat → Nat
  | 0, k => if k = 0 then 1 else 0
  | n + 1, k => (if 0 < k then ends n (k - 1) else 0) + ends n (k + 1)

theorem ends_zero : ∀ n k, n < k → ends n k = 0
  | 0, k, h => by unfold ends; rw [if_neg (by omega)]
  | n + 1, k, h => by
    unfold ends
    rw [if_pos (by omega), ends_zero n (k - 1) (by omega), ends_zero n (k + 1) (by omega)]

theorem ends_le : ∀ n k, ends n k ≤ 2 ^ n
  | 0, k => by unfold ends; split <;> simp
  | n + 1, k => by
    have h1 := ends_le n (k - 1)
    have h2 := ends_le n (k + 1)
    have e : 2 ^ (n + 1) = 2 ^ n + 2 ^ n := by rw [Nat.pow_succ]; omega
    unfold ends
    split <;> omega

theorem ends_16k {n k : Nat} (h : n ≤ 14) : ends n k ≤ 16384 := by
  have h1 := ends_le n k
  have h2 : 2 ^ n ≤ 2 ^ 14 := Nat.pow_le_pow_right (by omega) h
  have h3 : (2 : Nat) ^ 14 = 16384 := by decide
  omega

/-- So many signs can be left with so many on the stack. -/
def Fits (r d : Nat) : Prop := d ≤ r ∧ r % 2 = d % 2

theorem Fits.I {r d : Nat} (h : Fits (r + 1) d) (h2 : d < r + 1) : Fits r (d + 1) := by unfold Fits at *; omega
theorem Fits.O {r d : Nat} (h : Fits (r + 1) d) (h2 : 0 < d) : Fits r (d - 1) := by unfold Fits at *; omega

theorem words_count : ∀ r d so, Fits r d → (wordsFrom r d so).length = ends r d
  | 0, d, so, h => by
    have : d = 0 := by unfold Fits at h; omega
    subst this; rfl
  | r + 1, d, so, h => by
    unfold wordsFrom ends
    rw [List.length_append, Nat.add_comm]
    congr 1
    · by_cases h2 : 0 < d
      · rw [if_pos h2, if_pos h2, words_count r _ _ (h.O h2)]
      · rw [if_neg h2, if_neg h2]; rfl
    · by_cases h2 : d < r + 1
      · rw [if_pos h2, words_count r _ _ (h.I h2)]
      · rw [if_neg h2, ends_zero r (d + 1) (by omega)]; rfl

/-- Signs that go on to the end of a word. -/
def Goes : List UInt8 → Nat → Prop
  | [], d => d = 0
  | c :: t, d => (c = 73 ∧ Goes t (d + 1)) ∨ (c = 79 ∧ 0 < d ∧ Goes t (d - 1))

theorem goes_fits : ∀ l d, Goes l d → Fits l.length d
  | [], d, h => by cases h; exact ⟨Nat.le_refl _, rfl⟩
  | c :: t, d, h => by
    rcases h with ⟨_, h⟩ | ⟨_, h0, h⟩
    · have := goes_fits t _ h; unfold Fits at *; simp; omega
    · have := goes_fits t _ h; unfold Fits at *; simp; omega

/-- How many words come before, of those that go on in the same way so far. -/
def rankL : List UInt8 → Nat → Nat
  | [], _ => 0
  | c :: t, d => if c = 73 then rankL t (d + 1) else ends t.length (d + 1) + rankL t (d - 1)

theorem sI_cons (so : ByteArray) (l : List UInt8) : (so ++ sI) ++ txt l = so ++ txt (73 :: l) := by
  have e : sI = txt [73] := rfl
  rw [e, ByteArray.append_assoc, txt_append]; rfl
theorem sO_cons (so : ByteArray) (l : List UInt8) : (so ++ sO) ++ txt l = so ++ txt (79 :: l) := by
  have e : sO = txt [79] := rfl
  rw [e, ByteArray.append_assoc, txt_append]; rfl
theorem txt_nil (so : ByteArray) : so ++ txt [] = so := by
  have e : txt [] = ByteArray.empty := rfl
  rw [e, ByteArray.append_empty]

theorem fits_lt {r d : Nat} (h : Fits r (d + 1)) : d < r + 1 := by unfold Fits at h; omega

/-- The words of a state begin with those that go on by a push. -/
theorem words_parts {r d : Nat} (so : ByteArray) (h : Fits (r + 1) d) : ∃ a b, wordsFrom (r + 1) d so = a ++ b ∧ a.length = ends r (d + 1) ∧ (d < r + 1 → a = wordsFrom r (d + 1) (so ++ sI)) ∧ (0 < d → b = wordsFrom r (d - 1) (so ++ sO)) ∧ (¬ 0 < d → b = []) := by
  refine ⟨_, _, rfl, ?_, fun h2 => if_pos h2, fun h2 => if_pos h2, fun h2 => if_neg h2⟩
  by_cases h2 : d < r + 1
  · rw [if_pos h2, words_count r _ _ (h.I h2)]
  · rw [if_neg h2, ends_zero r (d + 1) (by omega)]; rfl

theorem word_at_rank : ∀ (l : List UInt8) (d : Nat) (so : ByteArray), Goes l d → (wordsFrom l.length d so)[rankL l d]? = some (so ++ txt l)
  | [], d, so, h => by show [so][0]? = _; rw [txt_nil]; rfl
  | c :: t, d, so, h => by
    have hf := goes_fits _ _ h
    obtain ⟨a, b, e1, e2, e3, e4, _⟩ := words_parts (r := t.length) (d := d) so hf
    show (wordsFrom (t.length + 1) d so)[_]? = _
    rw [e1]
    rcases h with ⟨rfl, h⟩ | ⟨rfl, h0, h⟩
    · have ha := e3 (fits_lt (goes_fits _ _ h))
      have ih := word_at_rank t (d + 1) (so ++ sI) h
      have hlt : rankL t (d + 1) < a.length := by
        rw [← ha] at ih
        exact (List.getElem?_eq_some_iff.1 ih).1
      show (a ++ b)[rankL t (d + 1)]? = _
      rw [List.getElem?_append_left hlt, ha, ih, sI_cons]
    · have hb := e4 h0
      have ih := word_at_rank t (d - 1) (so ++ sO) h
      show (a ++ b)[ends t.length (d + 1) + rankL t (d - 1)]? = _
      rw [← e2, List.getElem?_append_right (by omega), Nat.add_sub_cancel_left, hb, ih, sO_cons]

/-- The word at a place, sign by sign. -/
def atW : Nat → Nat → Nat → List UInt8
  | 0, _, _ => []
  | r + 1, d, k => if k < ends r (d + 1) then 73 :: atW r (d + 1) k else 79 :: atW r (d - 1) (k - ends r (d + 1))

theorem atW_len : ∀ r d k, (atW r d k).length = r
  | 0, _, _ => rfl
  | r + 1, d, k => by
    unfold atW
    split <;> simp [atW_len r]

theorem at_words : ∀ (r d k : Nat) (so : ByteArray), Fits r d → k < ends r d → (wordsFrom r d so)[k]? = some (so ++ txt (atW r d k)) ∧ Goes (atW r d k) d
  | 0, d, k, so, h, hk => by
    have : d = 0 := by unfold Fits at h; omega
    subst this
    have : k = 0 := by unfold ends at hk; simp at hk; exact hk
    subst this
    exact ⟨by show [so][0]? = some (so ++ txt []); rw [txt_nil]; rfl, rfl⟩
  | r + 1, d, k, so, h, hk => by
    obtain ⟨a, b, e1, e2, e3, e4, e5⟩ := words_parts (r := r) (d := d) so h
    rw [e1]
    unfold atW
    by_cases h2 : k < ends r (d + 1)
    · rw [if_pos h2]
      have hd : d < r + 1 := by
        rcases Nat.lt_or_ge d (r + 1) with h3 | h3
        · exact h3
        · rw [ends_zero r (d + 1) (by omega)] at h2; omega
      have ih := at_words r (d + 1) k (so ++ sI) (h.I hd) h2
      rw [List.getElem?_append_left (by omega), e3 hd, ih.1, sI_cons]
      exact ⟨rfl, .inl ⟨rfl, ih.2⟩⟩
    · rw [if_neg h2]
      unfold ends at hk
      have h0 : 0 < d := by
        rcases Nat.eq_zero_or_pos d with h3 | h3
        · rw [if_neg (by omega)] at hk; omega
        · exact h3
      rw [if_pos h0] at hk
      have ih := at_words r (d - 1) (k - ends r (d + 1)) (so ++ sO) (h.O h0) (by omega)
      rw [List.getElem?_append_right (by omega), e2, e4 h0, ih.1, sO_cons]
      exact ⟨rfl, .inr ⟨rfl, h0, ih.2⟩⟩

/-- The words come in ascending order. -/
def lss (a b : ByteArray) : Bool := Op.bytesLess a.data.toList b.data.toList

theorem less_self : ∀ l : List UInt8, Op.bytesLess l l = false
  | [] => rfl
  | a :: t => by unfold Op.bytesLess; simp [less_self t, UInt8.lt_irrefl]

theorem less_not : ∀ (x y : List UInt8), Op.bytesLess x y = true → Op.bytesLess y x = false
  | _, [], h => by unfold Op.bytesLess at h; cases h
  | [], _ :: _, _ => by unfold Op.bytesLess; rfl
  | a :: x, b :: y, h => by
    unfold Op.bytesLess at h ⊢
    simp only [Bool.or_eq_true, Bool.and_eq_true, decide_eq_true_eq, beq_iff_eq, Bool.or_eq_false_iff, Bool.and_eq_false_imp, decide_eq_false_iff_not] at h ⊢
    rcases h with h | ⟨rfl, h⟩
    · refine ⟨fun h2 => UInt8.lt_asymm h h2, fun e => ?_⟩
      subst e; exact absurd h (UInt8.lt_irrefl _)
    · exact ⟨UInt8.lt_irrefl _, fun _ => less_not _ _ h⟩

theorem less_pre : ∀ (p x y : List UInt8), Op.bytesLess (p ++ x) (p ++ y) = Op.bytesLess x y
  | [], _, _ => rfl
  | a :: p, x, y => by
    show Op.bytesLess (a :: (p ++ x)) (a :: (p ++ y)) = _
    rw [Op.bytesLess]
    simp [less_pre p, UInt8.lt_irrefl]

theorem mem_words : ∀ (r d : Nat) (so x : ByteArray), Fits r d → x ∈ wordsFrom r d so → ∃ l, l.length = r ∧ Goes l d ∧ x = so ++ txt l
  | 0, d, so, x, h, hx => by
    have : d = 0 := by unfold Fits at h; omega
    subst this
    have : x = so := by simpa [wordsFrom] using hx
    subst this
    exact ⟨[], rfl, rfl, (txt_nil _).symm⟩
  | r + 1, d, so, x, h, hx => by
    unfold wordsFrom at hx
    rcases List.mem_append.1 hx with hx | hx
    · by_cases h2 : d < r + 1
      · rw [if_pos h2] at hx
        obtain ⟨l, h3, h4, h5⟩ := mem_words r _ _ x (h.I h2) hx
        exact ⟨73 :: l, by simp [h3], .inl ⟨rfl, h4⟩, by rw [h5, sI_cons]⟩
      · rw [if_neg h2] at hx; cases hx
    · by_cases h2 : 0 < d
      · rw [if_pos h2] at hx
        obtain ⟨l, h3, h4, h5⟩ := mem_words r _ _ x (h.O h2) hx
        exact ⟨79 :: l, by simp [h3], .inr ⟨rfl, h2, h4⟩, by rw [h5, sO_cons]⟩
      · rw [if_neg h2] at hx; cases hx

theorem app_data (so : ByteArray) (l : List UInt8) : (so ++ txt l).data.toList = so.data.toList ++ l := by simp [txt]

theorem words_sorted : ∀ (r d : Nat) (so : ByteArray), Fits r d → (wordsFrom r d so).Pairwise (fun a b => lss a b = true)
  | 0, d, so, h => by unfold wordsFrom; exact List.pairwise_singleton _ _
  | r + 1, d, so, h => by
    unfold wordsFrom
    rw [List.pairwise_append]
    refine ⟨?_, ?_, ?_⟩
    · by_cases h2 : d < r + 1
      · rw [if_pos h2]; exact words_sorted r _ _ (h.I h2)
      · rw [if_neg h2]; exact .nil
    · by_cases h2 : 0 < d
      · rw [if_pos h2]; exact words_sorted r _ _ (h.O h2)
      · rw [if_neg h2]; exact .nil
    · intro a ha b hb
      by_cases h2 : d < r + 1
      · rw [if_pos h2] at ha
        by_cases h3 : 0 < d
        · rw [if_pos h3] at hb
          obtain ⟨l, _, _, rfl⟩ := mem_words r _ _ a (h.I h2) ha
          obtain ⟨m, _, _, rfl⟩ := mem_words r _ _ b (h.O h3) hb
          unfold lss
          rw [sI_cons, sO_cons, app_data, app_data, less_pre]
          rfl
        · rw [if_neg h3] at hb; cases hb
      · rw [if_neg h2] at ha; cases ha

/-- A word's signs go on to the end. -/
theorem held_goes {w : ByteArray} : ∀ (m k d : Nat), k + m = w.size → heldTo w k = some d → heldTo w w.size = some 0 → Goes (w.data.toList.drop k) d
  | 0, k, d, h, hd, h0 => by
    have e : k = w.size := by omega
    subst e
    rw [hd] at h0; cases h0
    rw [List.drop_of_length_le (by rw [Array.length_toList]; exact Nat.le_refl _)]
    rfl
  | m + 1, k, d, h, hd, h0 => by
    have hk : k < w.data.toList.length := by rw [Array.length_toList]; show k < w.size; omega
    have hb : w.data.toList[k] = byt w k := by unfold byt; rw [List.getD_eq_getElem?_getD, List.getElem?_eq_getElem hk, Option.getD_some]
    rw [List.drop_eq_getElem_cons hk, hb]
    obtain ⟨e, he, _, _⟩ := held_back (w := w) m (k + 1) 0 (by rw [show k + 1 + m = w.size by omega]; exact h0)
    obtain ⟨d2, hd2, hc⟩ := held_cases he
    rw [hd] at hd2; cases hd2
    have ih := held_goes m (k + 1) e (by omega) he h0
    rcases hc with ⟨h1, rfl⟩ | ⟨h1, h2, rfl⟩
    · exact .inl ⟨h1, ih⟩
    · exact .inr ⟨h1, h2, ih⟩

theorem word_goes {w : ByteArray} (h : Word w) : Goes w.data.toList 0 := held_goes w.size 0 0 (Nat.zero_add _) rfl h.2.2

/-- And signs that do are a word. -/
theorem goes_held {w : ByteArray} : ∀ (m k d : Nat), k + m = w.size → heldTo w k = some d → Goes (w.data.toList.drop k) d → heldTo w w.size = some 0
  | 0, k, d, h, hd, hg => by
    have e : k = w.size := by omega
    subst e
    rw [List.drop_of_length_le (by rw [Array.length_toList]; exact Nat.le_refl _)] at hg
    cases hg; exact hd
  | m + 1, k, d, h, hd, hg => by
    have hk : k < w.data.toList.length := by rw [Array.length_toList]; show k < w.size; omega
    have hb : w.data.toList[k] = byt w k := by unfold byt; rw [List.getD_eq_getElem?_getD, List.getElem?_eq_getElem hk, Option.getD_some]
    rw [List.drop_eq_getElem_cons hk, hb] at hg
    rcases hg with ⟨h1, hg⟩ | ⟨h1, h2, hg⟩
    · exact goes_held m (k + 1) _ (by omega) (held_I hd h1) hg
    · exact goes_held m (k + 1) _ (by omega) (held_O hd h1 h2) hg

theorem goes_word {l : List UInt8} (h : Goes l 0) (h1 : 2 ≤ l.length) (h2 : l.length ≤ 14) : Word (txt l) := by
  have e : (txt l).size = l.length := txt_size l
  refine ⟨by omega, by omega, ?_⟩
  exact goes_held (w := txt l) (txt l).size 0 0 (Nat.zero_add _) rfl (by rw [txt_list]; exact h)

theorem txt_data (s : ByteArray) : txt s.data.toList = s := by
  cases s with
  | mk d => simp [txt]

theorem empty_txt (l : List UInt8) : ByteArray.empty ++ txt l = txt l := ByteArray.empty_append

def allW (n : Nat) : List ByteArray := wordsFrom (2 * n) 0 ByteArray.empty

theorem all_fits (n : Nat) : Fits (2 * n) 0 := ⟨Nat.zero_le _, by omega⟩

theorem all_len (n : Nat) : (allW n).length = ends (2 * n) 0 := words_count _ _ _ (all_fits n)

/-- The place of a word. -/
theorem all_rank {w : ByteArray} (h : Word w) : (allW (w.size / 2))[rankL w.data.toList 0]? = some w := by
  have := word_at_rank _ _ ByteArray.empty (word_goes h)
  have e : w.data.toList.length = 2 * (w.size / 2) := by rw [Array.length_toList]; exact word_even h
  rw [e, empty_txt, txt_data] at this
  exact this

theorem all_mem {n : Nat} {w : ByteArray} (h1 : 1 ≤ n) (h7 : n ≤ 7) (h : w ∈ allW n) : Word w ∧ w.size = 2 * n := by
  obtain ⟨l, hl, hg, rfl⟩ := mem_words _ _ _ w (all_fits n) h
  rw [empty_txt]
  exact ⟨goes_word hg (by omega) (by omega), by rw [txt_size, hl]⟩

theorem all_at {n k : Nat} (hk : k < ends (2 * n) 0) : (allW n)[k]? = some (txt (atW (2 * n) 0 k)) := by
  have := (at_words (2 * n) 0 k ByteArray.empty (all_fits n) hk).1
  rw [empty_txt] at this
  exact this

/-- Which words are before one. -/
theorem all_before {n k t : Nat} {w : ByteArray} (hk : (allW n)[k]? = some w) (ht : t < (allW n).length) : lss ((allW n)[t]) w = decide (t < k) := by
  have hs := words_sorted _ _ ByteArray.empty (all_fits n)
  obtain ⟨h1, h2⟩ := List.getElem?_eq_some_iff.1 hk
  rw [List.pairwise_iff_getElem] at hs
  rcases Nat.lt_trichotomy t k with h | h | h
  · rw [decide_eq_true h, ← h2]; exact hs t k ht h1 h
  · subst h; rw [h2, decide_eq_false (by omega)]; exact less_self _
  · rw [decide_eq_false (by omega), ← h2]; exact less_not _ _ (hs k t h1 ht h)

/-- The rank of the word at a place. -/
theorem rank_at {n k : Nat} (h1 : 1 ≤ n) (h7 : n ≤ 7) (hk : k < ends (2 * n) 0) : Word (txt (atW (2 * n) 0 k)) ∧ (txt (atW (2 * n) 0 k)).size = 2 * n ∧ rankL (atW (2 * n) 0 k) 0 = k := by
  have ha := all_at (n := n) hk
  have hm := all_mem h1 h7 (List.mem_of_getElem? ha)
  have hr := all_rank hm.1
  have e : (txt (atW (2 * n) 0 k)).size / 2 = n := by omega
  rw [e, txt_list] at hr
  refine ⟨hm.1, hm.2, ?_⟩
  obtain ⟨g1, g2⟩ := List.getElem?_eq_some_iff.1 hr
  have := all_before ha g1
  rw [g2] at this
  have e2 := all_before hr (t := k) (by rw [all_len]; exact hk)
  obtain ⟨g3, g4⟩ := List.getElem?_eq_some_iff.1 ha
  rw [g4] at e2
  have z := less_self (txt (atW (2 * n) 0 k)).data.toList
  unfold lss at this e2
  rw [z] at this e2
  have a1 := of_decide_eq_false this.symm
  have a2 := of_decide_eq_false e2.symm
  omega

theorem rank_lt {w : ByteArray} (h : Word w) : rankL w.data.toList 0 < ends (2 * (w.size / 2)) 0 := by
  have := (List.getElem?_eq_some_iff.1 (all_rank h)).1
  rw [all_len] at this; exact this

/-! ### The answers -/
def rankWAns (w : ByteArray) : Int × Bool := if Word w then ((rankL w.data.toList 0 : Nat), true) else (0, false)
def atWAns (n k : Int) : ByteArray × Bool := if 1 ≤ n ∧ n ≤ 7 ∧ 0 ≤ k ∧ k < (ends (2 * n.toNat) 0 : Int) then (txt (atW (2 * n.toNat) 0 k.toNat), true) else (ByteArray.empty, false)
def oneAns (n : Int) : Int × Bool := if 1 ≤ n ∧ n ≤ 7 then ((ends (2 * n.toNat) 0 : Nat), true) else (0, false)

end Go.Proofs.Ytecbfoodkcgehab.EndsM

/-
  The mathematics of the sweep: what comes out of an order when each number pops all that are less, the signs of it as a word, and that sweeps sort. Conditions: none. Plain facts on texts and lists: nothing of the program.
-/
namespace Go.Proofs.Ytecbfoodkcgehab.SweepM
open NumC OrdMath WordMath OrdFacts EndsM

/-- What a number pops, the top first. -/
def popd (s : List Int) (x : Int) : List Int := s.reverse.takeWhile (fun y => decide (y < x))
/-- What it leaves on the stack. -/
def belw (s : List Int) (x : Int) : List Int := (s.reverse.dropWhile (fun y => decide (y < x))).reverse

theorem parts (s : List Int) (x : Int) : belw s x ++ (popd s x).reverse = s := by
  unfold belw popd
  rw [← List.reverse_append, List.takeWhile_append_dropWhile, List.reverse_reverse]

theorem popd_nil (x : Int) : popd [] x = [] := rfl
theorem belw_nil (x : Int) : belw [] x = [] := rfl
theorem popd_less {s : List Int} {y x : Int} (h : y < x) : popd (s ++ [y]) x = y :: popd s x := by simp [popd, h]
theorem belw_less {s : List Int} {y x : Int} (h : y < x) : belw (s ++ [y]) x = belw s x := by simp [belw, h]
theorem popd_not {s : List Int} {y x : Int} (h : ¬ y < x) : popd (s ++ [y]) x = [] := by simp [popd, h]
theorem belw_not {s : List Int} {y x : Int} (h : ¬ y < x) : belw (s ++ [y]) x = s ++ [y] := by simp [belw, h]

theorem tw_all {p : Int → Bool} : ∀ {l : List Int}, (∀ y ∈ l, p y = true) → l.takeWhile p = l
  | [], _ => rfl
  | a :: t, h => by rw [List.takeWhile_cons, if_pos (h a (by simp)), tw_all (fun y hy => h y (by simp [hy]))]
theorem tw_mem {p : Int → Bool} {y : Int} : ∀ {l : List Int}, y ∈ l.takeWhile p → p y = true
  | [], h => by simp at h
  | a :: t, h => by
    rw [List.takeWhile_cons] at h
    split at h
    · rename_i ha
      rcases List.mem_cons.1 h with rfl | h
      · exact ha
      · exact tw_mem h
    · cases h

theorem popd_all {s : List Int} {x : Int} (h : ∀ y ∈ s, y < x) : popd s x = s.reverse := by
  unfold popd
  exact tw_all (fun y hy => decide_eq_true (h y (List.mem_reverse.1 hy)))
theorem belw_all {s : List Int} {x : Int} (h : ∀ y ∈ s, y < x) : belw s x = [] := by
  have h1 := parts s x
  rw [popd_all h, List.reverse_reverse] at h1
  exact List.eq_nil_of_length_eq_zero (by have := congrArg List.length h1; simp at this; exact List.length_eq_zero_iff.2 this)

theorem lens (s : List Int) (x : Int) : (belw s x).length + (popd s x).length = s.length := by
  have := congrArg List.length (parts s x); simpa using this

/-- One number. -/
def swF (r : List Int × List Int) (x : Int) : List Int × List Int := (r.1 ++ popd r.2 x, belw r.2 x ++ [x])

/-- What has come out and what is on the stack, behind the first numbers. -/
def swTo (zs : List Int) (k : Nat) : List Int × List Int := (zs.take k).foldl swF ([], [])

theorem sw_start (zs : List Int) : swTo zs 0 = ([], []) := rfl
theorem sw_next {zs : List Int} {k : Nat} {o s : List Int} (hk : k < zs.length) (h : swTo zs k = (o, s)) : swTo zs (k + 1) = (o ++ popd s (zs.getD k 0), belw s (zs.getD k 0) ++ [zs.getD k 0]) := by
  unfold swTo at h ⊢
  rw [List.take_succ_eq_append_getElem hk, List.foldl_append, h]
  have e : zs.getD k 0 = zs[k] := by simp [hk]
  rw [e]; rfl

/-- The sweep. -/
def sweepL (zs : List Int) : List Int := (zs.foldl swF ([], [])).1 ++ (zs.foldl swF ([], [])).2.reverse

theorem sweep_end {zs o s : List Int} (h : swTo zs zs.length = (o, s)) : sweepL zs = o ++ s.reverse := by
  unfold swTo at h
  rw [List.take_length] at h
  unfold sweepL
  rw [h]

theorem fold_out (l : List Int) : ∀ (o s : List Int), l.foldl swF (o, s) = (o ++ (l.foldl swF ([], s)).1, (l.foldl swF ([], s)).2) := by
  induction l with
  | nil => intro o s; simp
  | cons x t ih =>
    intro o s
    show t.foldl swF (o ++ popd s x, belw s x ++ [x]) = _
    rw [ih]
    have e : (x :: t).foldl swF ([], s) = t.foldl swF ([] ++ popd s x, belw s x ++ [x]) := rfl
    rw [e, ih ([] ++ popd s x)]
    simp

theorem sw_perm (l : List Int) : ∀ (o s : List Int), ((l.foldl swF (o, s)).1 ++ (l.foldl swF (o, s)).2).Perm (o ++ s ++ l) := by
  induction l with
  | nil => intro o s; simp
  | cons x t ih =>
    intro o s
    refine (ih (o ++ popd s x) (belw s x ++ [x])).trans ?_
    have h1 : (popd s x ++ belw s x).Perm s := by
      have h2 : (belw s x ++ popd s x).Perm (belw s x ++ (popd s x).reverse) := (List.reverse_perm _).symm.append_left _
      rw [parts] at h2
      exact List.perm_append_comm.trans h2
    have e : o ++ popd s x ++ (belw s x ++ [x]) ++ t = o ++ (popd s x ++ belw s x) ++ (x :: t) := by simp
    rw [e]
    exact (h1.append_left o).append_right _

theorem sweep_perm (zs : List Int) : (sweepL zs).Perm zs := by
  have h := sw_perm zs [] []
  simp only [List.nil_append] at h
  unfold sweepL
  exact ((List.reverse_perm _).append_left _).trans h

theorem sweep_len (zs : List Int) : (sweepL zs).length = zs.length := (sweep_perm zs).length_eq

theorem ord_sweep {zs : List Int} (h : Ord zs) : Ord (sweepL zs) :=
  ord_of_perm ((sweep_perm zs).trans (ord_perm h)) h.1 h.2.1

theorem stack_ne (l : List Int) (x : Int) (o s : List Int) : ((l ++ [x]).foldl swF (o, s)).2 ≠ [] := by
  rw [List.foldl_append]; show _ ++ [x] ≠ []; simp

/-! ### The word -/
/-- The signs of the first numbers. -/
def sgTo (zs : List Int) : Nat → List UInt8
  | 0 => []
  | k + 1 => sgTo zs k ++ List.replicate (popd (swTo zs k).2 (zs.getD k 0)).length 79 ++ [73]

def swWord (zs : List Int) : List UInt8 := sgTo zs zs.length ++ List.replicate (swTo zs zs.length).2.length 79

def stepL (zs : List Int) (r : List Int × List Int × Nat) (c : UInt8) : List Int × List Int × Nat :=
  if c = 73 then (r.1, r.2.1 ++ [zs.getD r.2.2 0], r.2.2 + 1) else (r.1 ++ [r.2.1.getLast?.getD 0], r.2.1.dropLast, r.2.2)

theorem run_fold (zs : List Int) (w : ByteArray) : ∀ k, k ≤ w.size → runTo zs w k = (w.data.toList.take k).foldl (stepL zs) ([], [], 0)
  | 0, _ => rfl
  | k + 1, h => by
    have h2 : k < w.data.toList.length := by rw [Array.length_toList]; exact h
    have hb : w.data.toList[k] = byt w k := by unfold byt; rw [List.getD_eq_getElem?_getD, List.getElem?_eq_getElem h2, Option.getD_some]
    rw [List.take_succ_eq_append_getElem h2, List.foldl_append, ← run_fold zs w k (by omega), hb]
    rfl

theorem run_txt (zs : List Int) (l : List UInt8) : runOut zs (txt l) = (l.foldl (stepL zs) ([], [], 0)).1 := by
  unfold runOut
  rw [run_fold zs (txt l) _ (Nat.le_refl _), txt_list, txt_size, List.take_length]

theorem step_pops (zs : List Int) (x : Nat) : ∀ (t s o : List Int), (List.replicate t.length 79).foldl (stepL zs) (o, s ++ t.reverse, x) = (o ++ t, s, x)
  | [], s, o => by simp
  | a :: t, s, o => by
    have e : (List.replicate (a :: t).length (79 : UInt8)) = 79 :: List.replicate t.length 79 := rfl
    rw [e]
    show (List.replicate t.length 79).foldl (stepL zs) (stepL zs (o, s ++ (a :: t).reverse, x) 79) = _
    have e2 : stepL zs (o, s ++ (a :: t).reverse, x) 79 = (o ++ [a], s ++ t.reverse, x) := by
      unfold stepL
      rw [if_neg (by decide)]
      have e3 : s ++ (a :: t).reverse = (s ++ t.reverse) ++ [a] := by simp
      rw [e3]
      simp
    rw [e2, step_pops zs x t s (o ++ [a])]
    simp

theorem sg_run (zs : List Int) : ∀ k, k ≤ zs.length → (sgTo zs k).foldl (stepL zs) ([], [], 0) = ((swTo zs k).1, (swTo zs k).2, k)
  | 0, _ => rfl
  | k + 1, h => by
    obtain ⟨o, s, hr⟩ : ∃ o s, swTo zs k = (o, s) := ⟨_, _, rfl⟩
    have hn := sw_next (zs := zs) (k := k) (by omega) hr
    unfold sgTo
    rw [List.foldl_append, List.foldl_append, sg_run zs k (by omega), hr, hn]
    simp only
    have e : s = belw s (zs.getD k 0) ++ (popd s (zs.getD k 0)).reverse := (parts _ _).symm
    have h2 := step_pops zs k (popd s (zs.getD k 0)) (belw s (zs.getD k 0)) o
    rw [← e] at h2
    rw [h2]
    rfl

/-- A walk over signs from a depth to another one. -/
def Path : List UInt8 → Nat → Nat → Prop
  | [], d, e => d = e
  | c :: t, d, e => (c = 73 ∧ Path t (d + 1) e) ∨ (c = 79 ∧ 0 < d ∧ Path t (d - 1) e)

theorem path_goes : ∀ l d, Path l d 0 → Goes l d
  | [], _, h => h
  | c :: t, d, h => by
    rcases h with ⟨h1, h⟩ | ⟨h1, h2, h⟩
    · exact .inl ⟨h1, path_goes t _ h⟩
    · exact .inr ⟨h1, h2, path_goes t _ h⟩

theorem path_append : ∀ (l m : List UInt8) (d e f : Nat), Path l d e → Path m e f → Path (l ++ m) d f
  | [], m, d, e, f, h, h2 => by cases h; exact h2
  | c :: t, m, d, e, f, h, h2 => by
    rcases h with ⟨h1, h⟩ | ⟨h1, h3, h⟩
    · exact .inl ⟨h1, path_append t m _ e f h h2⟩
    · exact .inr ⟨h1, h3, path_append t m _ e f h h2⟩

theorem path_pops : ∀ (m d : Nat), Path (List.replicate m 79) (d + m) d
  | 0, d => rfl
  | m + 1, d => .inr ⟨rfl, by omega, path_pops m d⟩

theorem sg_path (zs : List Int) : ∀ k, k ≤ zs.length → Path (sgTo zs k) 0 (swTo zs k).2.length
  | 0, _ => rfl
  | k + 1, h => by
    obtain ⟨o, s, hr⟩ : ∃ o s, swTo zs k = (o, s) := ⟨_, _, rfl⟩
    have hn := sw_next (zs := zs) (k := k) (by omega) hr
    have ih := sg_path zs k (by omega)
    unfold sgTo
    rw [hr] at ih ⊢
    rw [hn]
    simp only at ih ⊢
    refine path_append _ _ _ (belw s (zs.getD k 0)).length _ (path_append _ _ _ s.length _ ih ?_) ?_
    · rw [← lens s (zs.getD k 0)]; exact path_pops _ _
    · exact .inl ⟨rfl, by show _ = _; simp⟩

theorem sg_len (zs : List Int) : ∀ k, k ≤ zs.length → (sgTo zs k).length = k + (swTo zs k).1.length ∧ (swTo zs k).1.length + (swTo zs k).2.length = k
  | 0, _ => ⟨rfl, rfl⟩
  | k + 1, h => by
    obtain ⟨o, s, hr⟩ : ∃ o s, swTo zs k = (o, s) := ⟨_, _, rfl⟩
    have hn := sw_next (zs := zs) (k := k) (by omega) hr
    have ih := sg_len zs k (by omega)
    unfold sgTo
    rw [hr] at ih ⊢
    rw [hn]
    simp only at ih ⊢
    have := lens s (zs.getD k 0)
    simp only [List.length_append, List.length_replicate, List.length_singleton]
    omega

theorem swWord_len (zs : List Int) : (swWord zs).length = 2 * zs.length := by
  have h := sg_len zs zs.length (Nat.le_refl _)
  unfold swWord
  simp
  omega

theorem sweep_word {zs : List Int} (h1 : 1 ≤ zs.length) (h7 : zs.length ≤ 7) : Word (txt (swWord zs)) ∧ (txt (swWord zs)).size = 2 * zs.length ∧ runOut zs (txt (swWord zs)) = sweepL zs := by
  have hl := swWord_len zs
  refine ⟨goes_word (path_goes _ _ ?_) (by omega) (by omega), by rw [txt_size, hl], ?_⟩
  · have h := sg_path zs zs.length (Nat.le_refl _)
    refine path_append _ _ _ _ _ h ?_
    have := path_pops (swTo zs zs.length).2.length 0
    rwa [Nat.zero_add] at this
  · obtain ⟨o, s, hr⟩ : ∃ o s, swTo zs zs.length = (o, s) := ⟨_, _, rfl⟩
    rw [run_txt, sweep_end hr]
    unfold swWord
    rw [List.foldl_append, sg_run zs _ (Nat.le_refl _), hr]
    have h2 := step_pops zs zs.length s.reverse [] o
    rw [List.reverse_reverse, List.nil_append, List.length_reverse] at h2
    show (List.foldl (stepL zs) (o, s, zs.length) (List.replicate s.length 79)).1 = _
    rw [h2]

/-! ### Sweeps sort -/
/-- The number at the bottom of the stack is the greatest one so far. -/
def Top (s : List Int) (seen : List Int) : Prop := ∃ m t, s = m :: t ∧ m ∈ seen ∧ ∀ y ∈ seen, y ≤ m

theorem top_next {s seen : List Int} {x : Int} (h : Top s seen) (hs : ∀ y ∈ s, y ∈ seen) : Top (belw s x ++ [x]) (seen ++ [x]) ∧ ∀ y ∈ belw s x ++ [x], y ∈ seen ++ [x] := by
  obtain ⟨m, t, rfl, hm, hall⟩ := h
  have hp := parts (m :: t) x
  have hsub : ∀ y ∈ belw (m :: t) x, y ∈ m :: t := fun y hy => by rw [← hp]; exact List.mem_append.2 (.inl hy)
  refine ⟨?_, ?_⟩
  · by_cases hmx : m < x
    · have hb : belw (m :: t) x = [] := belw_all (fun y hy => by have := hall y (hs y hy); omega)
      refine ⟨x, [], by rw [hb]; rfl, by simp, ?_⟩
      intro y hy
      rcases List.mem_append.1 hy with h | h
      · have := hall y h; omega
      · simp at h; omega
    · have hne : belw (m :: t) x ≠ [] := by
        intro e
        rw [e, List.nil_append] at hp
        have h9 : m ∈ popd (m :: t) x := by
          have : m ∈ (popd (m :: t) x).reverse := by rw [hp]; simp
          exact List.mem_reverse.1 this
        unfold popd at h9
        have := tw_mem h9
        exact hmx (of_decide_eq_true this)
      obtain ⟨a, u, hu⟩ : ∃ a u, belw (m :: t) x = a :: u := by
        cases hb : belw (m :: t) x with
        | nil => exact absurd hb hne
        | cons a u => exact ⟨a, u, rfl⟩
      rw [hu] at hp
      have ha : a = m := by injection hp
      subst ha
      refine ⟨a, u ++ [x], by rw [hu]; rfl, by simp [hm], ?_⟩
      intro y hy
      rcases List.mem_append.1 hy with h | h
      · exact hall y h
      · simp at h; omega
  · intro y hy
    rcases List.mem_append.1 hy with h | h
    · exact List.mem_append.2 (.inl (hs y (hsub y h)))
    · exact List.mem_append.2 (.inr h)

theorem top_fold : ∀ (l s seen o : List Int), Top s seen → (∀ y ∈ s, y ∈ seen) → Top (l.foldl swF (o, s)).2 (seen ++ l)
  | [], s, seen, o, h, _ => by simpa using h
  | x :: t, s, seen, o, h, hs => by
    have h2 := top_next (x := x) h hs
    have := top_fold t (belw s x ++ [x]) (seen ++ [x]) (o ++ popd s x) h2.1 h2.2
    rw [List.append_assoc] at this
    exact this

theorem sweep_top {l : List Int} (h : l ≠ []) : Top (l.foldl swF ([], [])).2 l := by
  cases l with
  | nil => exact absurd rfl h
  | cons x t =>
    have := top_fold t [x] [x] [] ⟨x, [], rfl, by simp, fun y hy => by simp at hy; omega⟩ (fun y hy => hy)
    exact this

/-- The sweep ends with the greatest number. -/
theorem sweep_last {l : List Int} (h : l ≠ []) : ∃ p m, sweepL l = p ++ [m] ∧ m ∈ l ∧ ∀ y ∈ l, y ≤ m := by
  obtain ⟨m, t, h1, h2, h3⟩ := sweep_top h
  refine ⟨(l.foldl swF ([], [])).1 ++ t.reverse, m, ?_, h2, h3⟩
  unfold sweepL
  rw [h1]
  simp

/-- Ascending numbers greater than all ahead of them stay. -/
theorem sweep_tail : ∀ (q o s : List Int), q.Pairwise (· < ·) → (∀ y ∈ q, ∀ z ∈ s, z < y) → (q.foldl swF (o, s)).1 ++ (q.foldl swF (o, s)).2.reverse = o ++ s.reverse ++ q
  | [], o, s, _, _ => by simp
  | y :: q, o, s, h, hs => by
    have hall : ∀ z ∈ s, z < y := hs y (by simp)
    have e : (y :: q).foldl swF (o, s) = q.foldl swF (o ++ s.reverse, [y]) := by
      show q.foldl swF (o ++ popd s y, belw s y ++ [y]) = _
      rw [popd_all hall, belw_all hall]; rfl
    rw [e, sweep_tail q _ _ (List.pairwise_cons.1 h).2 (fun z hz u hu => by simp at hu; subst hu; exact (List.pairwise_cons.1 h).1 z hz)]
    simp

theorem sweep_append {p q : List Int} (hq : q.Pairwise (· < ·)) (hp : ∀ y ∈ q, ∀ z ∈ p, z < y) : sweepL (p ++ q) = sweepL p ++ q := by
  unfold sweepL
  rw [List.foldl_append]
  obtain ⟨o, s, hr⟩ : ∃ o s, p.foldl swF ([], []) = (o, s) := ⟨_, _, rfl⟩
  rw [hr]
  have hs : ∀ z ∈ s, z ∈ p := by
    intro z hz
    have h := sw_perm p [] []
    rw [hr] at h
    have h9 : z ∈ o ++ s := List.mem_append.2 (.inr hz)
    have := h.mem_iff.1 h9
    simpa using this
  rw [sweep_tail q o s hq (fun y hy z hz => hp y hy z (hs z hz))]

/-- So many sweeps. -/
def swN (zs : List Int) : Nat → List Int
  | 0 => zs
  | k + 1 => sweepL (swN zs k)

theorem swN_perm (zs : List Int) : ∀ k, (swN zs k).Perm zs
  | 0 => List.Perm.refl _
  | k + 1 => (sweep_perm _).trans (swN_perm zs k)

theorem ord_swN {zs : List Int} (h : Ord zs) (k : Nat) : Ord (swN zs k) := ord_of_perm ((swN_perm zs k).trans (ord_perm h)) h.1 h.2.1
theorem swN_len (zs : List Int) (k : Nat) : (swN zs k).length = zs.length := (swN_perm zs k).length_eq

theorem swN_tail {zs : List Int} (hn : zs.Nodup) : ∀ k, k ≤ zs.length → ∃ p q, swN zs k = p ++ q ∧ q.length = k ∧ q.Pairwise (· < ·) ∧ ∀ y ∈ q, ∀ z ∈ p, z < y
  | 0, _ => ⟨zs, [], by simp [swN], rfl, .nil, by simp⟩
  | k + 1, h => by
    obtain ⟨p, q, e, hq, hs, hp⟩ := swN_tail hn k (by omega)
    have hl := swN_len zs k
    rw [e] at hl
    have hne : p ≠ [] := by intro h0; subst h0; simp at hl; omega
    obtain ⟨p2, m, e2, hm, hmax⟩ := sweep_last hne
    refine ⟨p2, m :: q, ?_, by simp [hq], ?_, ?_⟩
    · show sweepL (swN zs k) = _
      rw [e, sweep_append hs hp, e2]; simp
    · exact List.pairwise_cons.2 ⟨fun y hy => hp y hy m hm, hs⟩
    · have hperm := sweep_perm p
      rw [e2] at hperm
      have hnd : p.Nodup := by
        have h1 := (swN_perm zs k).nodup_iff.2 hn
        rw [e] at h1
        exact (List.nodup_append.1 h1).1
      have hnd2 := hperm.nodup_iff.2 hnd
      have hmem : ∀ z ∈ p2, z ∈ p := fun z hz => hperm.mem_iff.1 (by simp [hz])
      intro y hy z hz
      rcases List.mem_cons.1 hy with rfl | hy
      · have h1 := hmax z (hmem z hz)
        have h2 : z ≠ y := by
          intro e3; subst e3
          exact (List.nodup_append.1 hnd2).2.2 z hz z (by simp) rfl
        omega
      · exact hp y hy z (hmem z hz)

theorem sorted_is {l : List Int} {n : Nat} (h : l.Perm (iota n)) (hs : l.Pairwise (· < ·)) : l = iota n :=
  h.eq_of_pairwise (fun a b _ _ h1 h2 => by omega) hs (iota_sorted n)

theorem swN_sorts {zs : List Int} (h : Ord zs) : swN zs (zs.length - 1) = iota zs.length := by
  have h1 := h.1
  obtain ⟨p, q, e, hq, hs, hp⟩ := swN_tail h.2.2.2 (zs.length - 1) (by omega)
  have hl := swN_len zs (zs.length - 1)
  refine sorted_is ((swN_perm zs _).trans (ord_perm h)) ?_
  rw [e] at hl ⊢
  simp at hl
  rw [List.pairwise_append]
  refine ⟨?_, hs, fun z hz y hy => hp y hy z hz⟩
  match p, hl with
  | [], _ => exact .nil
  | [a], _ => exact List.pairwise_singleton _ _
  | a :: b :: t, hl => simp at hl; omega

/-- The number of sweeps that sort. -/
def firstN (zs : List Int) : Nat → Nat → Nat
  | 0, k => k
  | f + 1, k => if swN zs k = iota zs.length then k else firstN zs f (k + 1)

def many (zs : List Int) : Nat := firstN zs (zs.length - 1) 0

theorem first_is {zs : List Int} : ∀ f k, swN zs (k + f) = iota zs.length → (∀ j, j < k → swN zs j ≠ iota zs.length) → swN zs (firstN zs f k) = iota zs.length ∧ (∀ j, j < firstN zs f k → swN zs j ≠ iota zs.length) ∧ firstN zs f k ≤ k + f
  | 0, k, h, hb => ⟨h, hb, Nat.le_refl _⟩
  | f + 1, k, h, hb => by
    unfold firstN
    by_cases he : swN zs k = iota zs.length
    · rw [if_pos he]; exact ⟨he, hb, by omega⟩
    · rw [if_neg he]
      have := first_is f (k + 1) (by rw [show k + 1 + f = k + (f + 1) by omega]; exact h) (fun j hj => by
        rcases Nat.lt_succ_iff_lt_or_eq.1 hj with h1 | h1
        · exact hb j h1
        · subst h1; exact he)
      exact ⟨this.1, this.2.1, by omega⟩

theorem many_is {zs : List Int} (h : Ord zs) : swN zs (many zs) = iota zs.length ∧ (∀ j, j < many zs → swN zs j ≠ iota zs.length) ∧ many zs < zs.length := by
  have h1 := h.1
  have := first_is (zs := zs) (zs.length - 1) 0 (by rw [Nat.zero_add]; exact swN_sorts h) (by omega)
  unfold many
  exact ⟨this.1, this.2.1, by omega⟩

/-! ### The answers -/
def sweepAns (zs : List Int) : List Int × Bool := if Ord zs then (sweepL zs, true) else ([], false)
def swWordAns (zs : List Int) : ByteArray × Bool := if Ord zs then (txt (swWord zs), true) else (ByteArray.empty, false)
def sweepsAns (zs : List Int) : Int × Bool := if Ord zs then ((many zs : Nat), true) else (0, false)

theorem sweep_alen {zs xs : List Int} {b : Bool} (h : sweepAns zs = (xs, b)) : xs.length ≤ 1048576 := by
  unfold sweepAns at h; split at h
  · rename_i ho; cases h; have := ho.2.1; rw [sweep_len]; omega
  · cases h; simp

end Go.Proofs.Ytecbfoodkcgehab.SweepM

/-
  The mathematics of chapter 4: the order before another one by a word, record places, blocks, the word that sorts. Conditions: none. Plain facts on texts and lists: nothing of the program.
-/
namespace Go.Proofs.Ytecbfoodkcgehab.StackM
open NumC OrdMath WordMath OrdFacts EndsM SweepM

/-- The order before, place by place. -/
def befTo (out ps : List Int) : Nat → List Int
  | 0 => List.replicate out.length 0
  | k + 1 => (befTo out ps k).set (ps.getD k 0 - 1).toNat (out.getD k 0)

theorem befTo_len (out ps : List Int) : ∀ k, (befTo out ps k).length = out.length
  | 0 => by simp [befTo]
  | k + 1 => by simp [befTo, befTo_len out ps k]

/-- The order from which another one comes out by a word. -/
def beforeOf (out : List Int) (w : ByteArray) : List Int := befTo out (runOut (iota out.length) w) out.length

theorem iota_getD {n k : Nat} (h : k < n) : (iota n).getD k 0 = (k : Int) + 1 := by
  have := iota_at n k h
  rw [List.getD_eq_getElem?_getD, List.getElem?_eq_getElem (by rw [iota_len]; exact h), Option.getD_some, this]

theorem bef_inv {n : Nat} {ps : List Int} (h : ps.length = n) : ∀ k, k ≤ n → befTo (iota n) ps k = invOf ps k
  | 0, _ => by unfold befTo invOf; rw [iota_len, h]
  | k + 1, hk => by
    unfold befTo invOf
    rw [bef_inv h k (by omega), iota_getD (by omega)]

theorem ord_iota {n : Nat} (h1 : 1 ≤ n) (h7 : n ≤ 7) : Ord (iota n) := ord_of_perm (List.Perm.refl _) h1 h7

/-! ### Record places -/
def recTo (zs : List Int) : Nat → List Int × Int
  | 0 => ([], 0)
  | k + 1 => if (recTo zs k).2 < zs.getD k 0 then ((recTo zs k).1 ++ [(k : Int)], zs.getD k 0) else recTo zs k

theorem rec_yes {zs r : List Int} {k : Nat} {m : Int} (h : recTo zs k = (r, m)) (hz : m < zs.getD k 0) : recTo zs (k + 1) = (r ++ [(k : Int)], zs.getD k 0) := by
  unfold recTo; rw [h]; simp only; rw [if_pos hz]
theorem rec_no {zs r : List Int} {k : Nat} {m : Int} (h : recTo zs k = (r, m)) (hz : ¬ m < zs.getD k 0) : recTo zs (k + 1) = (r, m) := by
  unfold recTo; rw [h]; simp only; rw [if_neg hz]
theorem rec_len (zs : List Int) : ∀ k, (recTo zs k).1.length ≤ k
  | 0 => Nat.le_refl _
  | k + 1 => by
    have := rec_len zs k
    unfold recTo
    split
    · simp; exact this
    · omega
theorem rec_range {zs : List Int} (h : Ord zs) : ∀ k, k ≤ zs.length → 0 ≤ (recTo zs k).2 ∧ (recTo zs k).2 ≤ 7
  | 0, _ => by simp [recTo]
  | k + 1, hk => by
    have := rec_range h k (by omega)
    obtain ⟨m, h1, h2⟩ := h.getD (k := k) (by omega)
    have := h.2.1
    unfold recTo
    split
    · simp only; omega
    · exact rec_range h k (by omega)

def recAns (zs : List Int) : List Int × Bool := if Ord zs then ((recTo zs zs.length).1, true) else ([], false)

theorem rec_alen {zs xs : List Int} {b : Bool} (h : recAns zs = (xs, b)) : xs.length ≤ 1048576 := by
  unfold recAns at h; split at h
  · rename_i ho; cases h; have := ho.2.1; have := rec_len zs zs.length; omega
  · cases h; simp

/-! ### Blocks -/
/-- The lengths of the blocks so far, where the last one ends, and the greatest number so far. -/
def blkTo (zs : List Int) : Nat → List Int × Nat × Int
  | 0 => ([], 0, 0)
  | k + 1 => let r := blkTo zs k
    let m := max r.2.2 (zs.getD k 0)
    if m = (k : Int) + 1 then (r.1 ++ [(k : Int) + 1 - (r.2.1 : Int)], k + 1, m) else (r.1, r.2.1, m)

theorem blk_yes {zs l : List Int} {k c : Nat} {g m : Int} (h : blkTo zs k = (l, c, g)) (hm : max g (zs.getD k 0) = m) (hz : m = (k : Int) + 1) : blkTo zs (k + 1) = (l ++ [(k : Int) + 1 - (c : Int)], k + 1, m) := by
  unfold blkTo; rw [h]; simp only; rw [hm, if_pos hz]
theorem blk_no {zs l : List Int} {k c : Nat} {g m : Int} (h : blkTo zs k = (l, c, g)) (hm : max g (zs.getD k 0) = m) (hz : ¬ m = (k : Int) + 1) : blkTo zs (k + 1) = (l, c, m) := by
  unfold blkTo; rw [h]; simp only; rw [hm, if_neg hz]
theorem blk_len (zs : List Int) : ∀ k, (blkTo zs k).1.length ≤ k ∧ (blkTo zs k).2.1 ≤ k
  | 0 => ⟨Nat.le_refl _, Nat.le_refl _⟩
  | k + 1 => by
    have := blk_len zs k
    obtain ⟨l, c, g, hr⟩ : ∃ l c g, blkTo zs k = (l, c, g) := ⟨_, _, _, rfl⟩
    obtain ⟨m, hm⟩ : ∃ m, max g (zs.getD k 0) = m := ⟨_, rfl⟩
    rw [hr] at this
    simp only at this
    by_cases hz : m = (k : Int) + 1
    · rw [blk_yes hr hm hz]; simp; omega
    · rw [blk_no hr hm hz]; simp only; omega
theorem blk_range {zs : List Int} (h : Ord zs) : ∀ k, k ≤ zs.length → 0 ≤ (blkTo zs k).2.2 ∧ (blkTo zs k).2.2 ≤ 7
  | 0, _ => by simp [blkTo]
  | k + 1, hk => by
    have ih := blk_range h k (by omega)
    obtain ⟨x, h1, h2⟩ := h.getD (k := k) (by omega)
    have := h.2.1
    obtain ⟨l, c, g, hr⟩ : ∃ l c g, blkTo zs k = (l, c, g) := ⟨_, _, _, rfl⟩
    obtain ⟨m, hm⟩ : ∃ m, max g (zs.getD k 0) = m := ⟨_, rfl⟩
    rw [hr] at ih
    simp only at ih
    have hm2 : 0 ≤ m ∧ m ≤ 7 := by omega
    by_cases hz : m = (k : Int) + 1
    · rw [blk_yes hr hm hz]; exact hm2
    · rw [blk_no hr hm hz]; exact hm2

def blkAns (zs : List Int) : List Int × Bool := if Ord zs then ((blkTo zs zs.length).1, true) else ([], false)

theorem blk_alen {zs xs : List Int} {b : Bool} (h : blkAns zs = (xs, b)) : xs.length ≤ 1048576 := by
  unfold blkAns at h; split at h
  · rename_i ho; cases h; have := ho.2.1; have := (blk_len zs zs.length).1; omega
  · cases h; simp

end Go.Proofs.Ytecbfoodkcgehab.StackM

/-
  Contract: the model's word of the sweep, and its sweep. Conditions: an order.
-/
namespace Go.Proofs.Ytecbfoodkcgehab.SweepWC
open Go.RowKit SeesC IntsC ExactC NumC IterC OrdMath WordMath OrdFacts InC OrderC WordC RunC AtC EndsM SweepM StackM

/-- What the inner loop keeps: the signs and the stack of the next number. -/
def In (zs : List Int) (i : Nat) (x : Int) (st : List Int) (acc : List UInt8) : Prop :=
  acc ++ List.replicate (popd st x).length 79 ++ [73] = sgTo zs (i + 1) ∧ belw st x ++ [x] = (swTo zs (i + 1)).2

theorem in_start {zs : List Int} {i : Nat} (hi : i < zs.length) : In zs i (zs.getD i 0) (swTo zs i).2 (sgTo zs i) := by
  obtain ⟨o, s, hr⟩ : ∃ o s, swTo zs i = (o, s) := ⟨_, _, rfl⟩
  refine ⟨rfl, ?_⟩
  rw [sw_next hi hr, hr]

theorem in_pop {zs : List Int} {i : Nat} {x p : Int} {la : List Int} {acc : List UInt8} (h : In zs i x (la ++ [p]) acc) (hp : p < x) : In zs i x la (acc ++ [79]) := by
  obtain ⟨h1, h2⟩ := h
  rw [popd_less hp] at h1
  rw [belw_less hp] at h2
  refine ⟨?_, h2⟩
  rw [← h1]
  simp [List.replicate_succ]

theorem in_end {zs : List Int} {i : Nat} {x : Int} {st : List Int} {acc : List UInt8} (h : In zs i x st acc) (hp : st.getLast?.all (fun p => decide (¬ p < x))) : acc ++ [73] = sgTo zs (i + 1) ∧ st ++ [x] = (swTo zs (i + 1)).2 := by
  obtain ⟨h1, h2⟩ := h
  rcases List.eq_nil_or_concat st with rfl | ⟨la, p, rfl⟩
  · rw [popd_nil] at h1
    rw [belw_nil] at h2
    exact ⟨by simpa using h1, h2⟩
  · rw [List.concat_eq_append] at *
    have : ¬ p < x := by simpa using hp
    rw [popd_not this] at h1
    rw [belw_not this] at h2
    exact ⟨by simpa using h1, h2⟩

theorem in_len {zs : List Int} {i : Nat} {x : Int} {st : List Int} {acc : List UInt8} (h : In zs i x st acc) (hi : i < zs.length) (h7 : zs.length ≤ 7) : acc.length ≤ 13 := by
  have h1 := congrArg List.length h.1
  have h2 := sg_len zs (i + 1) hi
  simp at h1
  omega

theorem in_len2 {zs : List Int} {i : Nat} {x : Int} {st : List Int} (h : st ++ [x] = (swTo zs (i + 1)).2) (hi : i < zs.length) (h7 : zs.length ≤ 7) : st.length ≤ 6 := by
  have h1 := congrArg List.length h
  have h2 := sg_len zs (i + 1) hi
  simp at h1
  omega

set_option maxRecDepth 100000 in
set_option maxHeartbeats 4000000 in
theorem l4SweepWord_any (zs : List Int) (hord : Ord zs) (W : World) (v : Value) (n : Nat) (hv : Sees W v n (vals zs)) :
    Calls Try.prog 189 #[v] W fun e w' => e = .returned (.string (txt (swWord zs))) ∧ Below W.heap.size W w' := by
  obtain ⟨i0, hi, hz0, hz1, hz2⟩ := info_parts infoI
  have hl : zs.length = n := by simpa using hv.1
  have hn1 : 1 ≤ n := by have := hord.1; omega
  have hn7 : n ≤ 7 := by have := hord.2.1; omega
  obtain ⟨b, o, cap, rfl, _, _, hbl, hcell⟩ := sees_cells hv (by omega)
  have HC := Go.Lib.hid hcell
  obtain ⟨R, hR⟩ : ∃ R, swWord zs = R := ⟨_, rfl⟩
  rw [hR]
  have HRR := Go.Lib.hid hR
  clear hv hcell hR
  go_enter Try.func189, Try.ntmps189
  go_wp2
  have ho0 := World.ownsRow_made (base := W.heap.size) (e := 3) (size := 1) W #[] 0 (Nat.le_refl _) (by unfold maxLen; omega) rfl
  have hb0 : Below W.heap.size W (W.alloc (.cells #[] 3)) := (Below.refl _ _).alloc (Nat.le_refl _) _
  go_loopw [3, 4, 5] (fun wv sv iv wr => ∃ (i ns g c : Nat) (st : List Int) (acc : List UInt8) (s : ByteArray), iv = .int .i64 i ∧ wv = .string s ∧ sv = .slice (some ⟨g, 0, none⟩) ns c ∧ i ≤ n ∧ ns ≤ 7 ∧ s.size ≤ 14 ∧ st.length = ns ∧ Hid (s = txt acc) ∧ wr.ownsRow W.heap.size 3 1 (.slice (some ⟨g, 0, none⟩) ns c) ns (vals st) ∧ Below W.heap.size W wr ∧ Hid (acc = sgTo zs i ∧ st = (swTo zs i).2)) (fun _ _ i _ => n - (intOf i).toNat)
  case atStart => exact ⟨0, 0, W.heap.size, 0, [], [], ByteArray.empty, rfl, rfl, rfl, Nat.zero_le _, by omega, by decide, rfl, Go.Lib.hid rfl, by simpa using ho0, hb0, Go.Lib.hid ⟨rfl, rfl⟩⟩
  case round =>
    obtain ⟨i, ns, g, c, st, acc, s, rfl, rfl, rfl, hin, hns7, hs14, hst, HS, hown, hb, HM⟩ := hrel
    clear ho0 hb0
    by_cases hlt : i < n
    · obtain ⟨x, hx⟩ : ∃ x, zs.getD i 0 = x := ⟨_, rfl⟩
      have hxi := HC.out i (by omega)
      rw [hx] at hxi
      have HI0 : Hid (In zs i x st acc) := Go.Lib.hid (by have := in_start (zs := zs) (i := i) (by omega); rw [HM.out.1, HM.out.2, ← hx]; exact this)
      have HHX := Go.Lib.hid hx
      have hlti : (i : Int) < (n : Int) := by omega
      clear hx
      go_wp2_with fail
      go_loopw [3, 4] (fun wv sv w2 => ∃ (ns g c : Nat) (st : List Int) (acc : List UInt8) (s : ByteArray), wv = .string s ∧ sv = .slice (some ⟨g, 0, none⟩) ns c ∧ ns ≤ 7 ∧ s.size ≤ 14 ∧ st.length = ns ∧ Hid (s = txt acc) ∧ w2.ownsRow W.heap.size 3 1 (.slice (some ⟨g, 0, none⟩) ns c) ns (vals st) ∧ Below W.heap.size W w2 ∧ Hid (In zs i x st acc)) (fun _ sv _ => lenV sv)
      case atStart => exact ⟨ns, g, c, st, acc, s, rfl, rfl, hns7, hs14, hst, HS, hown, hb, HI0⟩
      case round =>
        clear hown hb HI0 HS hst hs14 hns7 HM
        obtain ⟨ns, g, c, st, acc, s, rfl, rfl, hns7, hs14, hst, HS, hown, hb, HI⟩ := hrel
        have hla := in_len HI.out (by omega) (by omega)
        have hs13 : s.size ≤ 13 := by rw [HS.out, txt_size]; exact hla
        have hti2 : wr.cell? ⟨b, o + i, none⟩ = some (.int .i64 x) := (hb.cell (p := ⟨b, o + i, none⟩) hbl).trans hxi
        have HTI := Go.Lib.hid hxi
        clear hxi hla
        have HS1 : Hid (s ++ ({ data := #[73] } : ByteArray) = txt (acc ++ [73])) := Go.Lib.hid (by rw [HS.out]; exact txt_append _ [73])
        have HSL := Go.Lib.hid hst
        by_cases hn0 : ns = 0
        · have hst0 : st = [] := List.eq_nil_of_length_eq_zero (by omega)
          have HN : Hid (acc ++ [73] = sgTo zs (i + 1) ∧ st ++ [x] = (swTo zs (i + 1)).2) := Go.Lib.hid (in_end HI.out (by rw [hst0]; rfl))
          have hns6 : ns ≤ 6 := by omega
          subst hn0
          clear hst0 hst
          go_wp2_with fail
          go_quiet (fail)
          have hownq := own_drewN (q := nq) hown
          have hbq := ExactC.below_drewN (q := nq) hb
          have hckq : (wr.drewN nq).cell? ⟨b, o + i, none⟩ = some (.int .i64 x) := hti2
          obtain ⟨wq, hwq⟩ : ∃ wq, wr.drewN nq = wq := ⟨_, rfl⟩
          rw [hwq] at hownq hbq hckq ⊢
          clear hwq hown hb hti2
          go_wp2_with (at_builtin; refine wpList_append_own _ rfl _ _ 29 rfl W.heap.size 3 i0 (.int .i64 0) 1 8 Try.underlying29 hi hz0 hz1 hz2 rfl (by decide) (.slice (some ⟨g, 0, none⟩) 0 c) 0 (vals st) rfl (hownq.alloc _) ⟨wq.heap.size, 0, none⟩ 1 1 [.int .i64 x] rfl rfl (cell_one_new _ _ _) (fun x hx => by simp at hx; subst hx; rfl) (by unfold maxLen; omega) (by omega) (by have := hbq.size; simp; omega) ?_; intro v' w3 hown' hgrow3 hnil3)
          obtain ⟨g', cap', rfl⟩ := ownsRow_succ hown'
          have e1 : vals st ++ [Value.int .i64 x] = vals (st ++ [x]) := by simp
          rw [e1] at hown'
          have hb' : Below W.heap.size W w3 := (hbq.alloc hbq.size _).grown hgrow3 (by have := hbq.size; simp; omega) (fun q hq => (hownq.lt q hq).1)
          have H3 := Go.Lib.hid (And.intro hown' hb')
          clear hown' hgrow3 hnil3 hownq hbq hb' e1
          go_wp2
          go_roundw
          case rel => exact ⟨i + 1, 0 + 1, g', cap', st ++ [x], acc ++ [73], s ++ ({ data := #[73] } : ByteArray), by go_num, rfl, rfl, by omega, by omega, by rw [ByteArray.size_append]; exact Nat.add_le_add hs13 (Nat.le_refl 1), by rw [List.length_append, HSL.out]; rfl, HS1, H3.out.1, H3.out.2, HN⟩
          case measure => simp [intOf]; omega
        · obtain ⟨la, p, hlap, hlast, hdrop⟩ := split_last (l := st) (by omega)
          obtain ⟨m, rfl⟩ : ∃ m, ns = m + 1 := ⟨ns - 1, by omega⟩
          have hlam : la.length = m := by rw [hlap] at hst; simp at hst; omega
          have hckp : wr.cell? ⟨g, m, none⟩ = some (.int .i64 p) := by
            rw [hown.cellAt m (by omega), hlap]
            simp [← hlam]
          have hm7 : m ≤ 6 := by omega
          have q1 : IntKind.i64.wrap ((m : Int) + 1 - 1) = (m : Int) := by rw [IntWalk.i64_in _ (by omega)]; omega
          by_cases hpx : p < x
          · have HN : Hid (In zs i x la (acc ++ [79])) := Go.Lib.hid (by have := HI.out; rw [hlap] at this; exact in_pop this hpx)
            have hpd : decide (p < x) = true := decide_eq_true hpx
            have hpop : wr.ownsRow W.heap.size 3 1 (.slice (some ⟨g, 0, none⟩) m c) m (vals la) := ownsRow_pop (last := [.int .i64 p]) (by simp [hlam]) (by rw [hlap] at hown; simpa using hown)
            have hmc : m + 1 ≤ c := by
              rcases hown.2 with ⟨h0, _⟩ | ⟨g', cap', cur, h0, _, _, h1, _⟩
              · cases h0
              · cases h0; exact h1
            have HS2 : Hid (s ++ ({ data := #[79] } : ByteArray) = txt (acc ++ [79])) := Go.Lib.hid (by rw [HS.out]; exact txt_append _ [79])
            have HLA := Go.Lib.hid hlam
            have H3 := Go.Lib.hid (And.intro hpop hb)
            clear hst hlap hlast hdrop hpop hown hb hlam hn0
            go_wp2_with fail
            go_quiet (fail)
            have hw4 := own_drewN (q := nq) H3.out.1
            have hw5 := ExactC.below_drewN (q := nq) H3.out.2
            have H4 := Go.Lib.hid (And.intro hw4 hw5)
            clear hw4 hw5
            go_wp2
            go_roundw
            case rel => exact ⟨m, g, c, la, acc ++ [79], s ++ ({ data := #[79] } : ByteArray), rfl, rfl, by omega, by rw [ByteArray.size_append]; exact Nat.add_le_add hs13 (Nat.le_refl 1), HLA.out, HS2, H4.out.1, H4.out.2, HN⟩
            case measure => simp [lenV]
          · have hpd : decide (p < x) = false := decide_eq_false hpx
            have HN : Hid (acc ++ [73] = sgTo zs (i + 1) ∧ st ++ [x] = (swTo zs (i + 1)).2) := Go.Lib.hid (in_end HI.out (by rw [hlap]; simp; omega))
            have hns6 : m + 1 ≤ 6 := by have := in_len2 HN.out.2 (by omega) (by omega); omega
            clear hst hlap hlast hdrop hlam hn0
            go_wp2_with fail
            go_quiet (fail)
            have hownq := own_drewN (q := nq) hown
            have hbq := ExactC.below_drewN (q := nq) hb
            have hckq : (wr.drewN nq).cell? ⟨b, o + i, none⟩ = some (.int .i64 x) := hti2
            obtain ⟨wq, hwq⟩ : ∃ wq, wr.drewN nq = wq := ⟨_, rfl⟩
            rw [hwq] at hownq hbq hckq ⊢
            clear hwq hown hb hti2 hckp
            go_wp2_with (at_builtin; refine wpList_append_own _ rfl _ _ 29 rfl W.heap.size 3 i0 (.int .i64 0) 1 8 Try.underlying29 hi hz0 hz1 hz2 rfl (by decide) (.slice (some ⟨g, 0, none⟩) (m + 1) c) (m + 1) (vals st) rfl (hownq.alloc _) ⟨wq.heap.size, 0, none⟩ 1 1 [.int .i64 x] rfl rfl (cell_one_new _ _ _) (fun x hx => by simp at hx; subst hx; rfl) (by unfold maxLen; omega) (by omega) (by have := hbq.size; simp; omega) ?_; intro v' w3 hown' hgrow3 hnil3)
            obtain ⟨g', cap', rfl⟩ := ownsRow_succ hown'
            have e1 : vals st ++ [Value.int .i64 x] = vals (st ++ [x]) := by simp
            rw [e1] at hown'
            have hb' : Below W.heap.size W w3 := (hbq.alloc hbq.size _).grown hgrow3 (by have := hbq.size; simp; omega) (fun q hq => (hownq.lt q hq).1)
            have H3 := Go.Lib.hid (And.intro hown' hb')
            clear hown' hgrow3 hnil3 hownq hbq hb' e1
            go_wp2
            go_roundw
            case rel => exact ⟨i + 1, (m + 1) + 1, g', cap', st ++ [x], acc ++ [73], s ++ ({ data := #[73] } : ByteArray), by go_num, rfl, rfl, by omega, by omega, by rw [ByteArray.size_append]; exact Nat.add_le_add hs13 (Nat.le_refl 1), by rw [List.length_append, HSL.out]; rfl, HS1, H3.out.1, H3.out.2, HN⟩
            case measure => simp [intOf]; omega
    · have hkn : i = n := by omega
      subst hkn
      have HB := Go.Lib.hid hb
      have HE : Hid (acc ++ List.replicate ns 79 = R ∧ acc.length + ns = 14 ∨ acc ++ List.replicate ns 79 = R ∧ acc.length + ns ≤ 14) := Go.Lib.hid (by
        right
        have h1 := HM.out
        have h2 := sg_len zs i (by omega)
        refine ⟨?_, ?_⟩
        · rw [← HRR.out, ← hst, h1.1, h1.2]; unfold swWord; rw [hl]
        · rw [← hst, h1.1, h1.2]; omega)
      have hle : acc.length + ns ≤ 14 := by rcases HE.out with h | h <;> omega
      have HE2 : Hid (acc ++ List.replicate ns 79 = R) := Go.Lib.hid (by rcases HE.out with h | h <;> exact h.1)
      have hsz : s.size + ns ≤ 14 := by rw [HS.out, txt_size]; exact hle
      clear hown hb HE hle hst
      go_wp2_with fail
      go_loopw [3, 6] (fun wv jv w2 => ∃ (j : Nat) (t : ByteArray), jv = .int .i64 j ∧ wv = .string t ∧ j ≤ ns ∧ Hid (t.size = s.size + j) ∧ Hid (w2 = wr) ∧ Hid (t = txt (acc ++ List.replicate j 79))) (fun _ j _ => ns - (intOf j).toNat)
      case atStart => exact ⟨0, s, rfl, rfl, Nat.zero_le _, Go.Lib.hid rfl, Go.Lib.hid rfl, Go.Lib.hid (by rw [HS.out]; simp)⟩
      case round =>
        obtain ⟨j, t, rfl, rfl, hj, HTS, HW2, HT⟩ := hrel
        have ht := HTS.out
        have hw2 := HW2.out
        subst hw2
        by_cases hjn : j < ns
        · have hji : (j : Int) < (ns : Int) := by omega
          have ht13 : t.size ≤ 13 := by omega
          have HT2 : Hid (t ++ ({ data := #[79] } : ByteArray) = txt (acc ++ List.replicate (j + 1) 79)) := Go.Lib.hid (by
            rw [HT.out, List.replicate_succ', ← List.append_assoc]; exact txt_append _ [79])
          have HSZ : Hid ((t ++ ({ data := #[79] } : ByteArray)).size = s.size + (j + 1)) := Go.Lib.hid (by rw [ByteArray.size_append, ht]; rfl)
          go_wp2
          go_roundw
          case rel => exact ⟨j + 1, _, by go_num, rfl, by omega, HSZ, Go.Lib.hid (by first | rfl | trivial), HT2⟩
          case measure => simp [intOf]; omega
        · have hjn2 : j = ns := by omega
          subst hjn2
          have HT3 : Hid (t = txt R) := Go.Lib.hid (by rw [HT.out, HE2.out])
          go_wp2
          go_ret
          exact ⟨by rw [HT3.out]; rfl, HB.out⟩

set_option maxHeartbeats 1000000 in
set_option maxRecDepth 100000 in
theorem l4Sweep_any (zs : List Int) (hord : Ord zs) (W : World) (v : Value) (n : Nat) (hv : Sees W v n (vals zs)) :
    Calls Try.prog 158 #[v] W fun e w' => ∃ u, e = .returned u ∧ w'.ownsRow W.heap.size 3 1 u (sweepL zs).length (vals (sweepL zs)) ∧ Below W.heap.size W w' := by
  have HV := Go.Lib.hid hv
  have CW := Go.Lib.hid (fun W' (h : Sees W' v n (vals zs)) => l4SweepWord_any zs hord W' v n h)
  have hsw := sweep_word hord.1 hord.2.1
  have CR := Go.Lib.hid (fun W' (h : Sees W' v n (vals zs)) => l2Run_any zs (txt (swWord zs)) hord hsw.1 hsw.2.1 W' v n h)
  have HSW := Go.Lib.hid hsw.2.2
  obtain ⟨R, hR⟩ : ∃ R, txt (swWord zs) = R := ⟨_, rfl⟩
  rw [hR] at CW CR HSW
  clear hR hsw
  obtain ⟨_, ad, cap, rfl, _, _⟩ := hv
  go_enter Try.func158, Try.ntmps158
  go_wp2_with fail
  refine (CW.out _ HV.out).mono ?_
  rintro e w1 ⟨rfl, hb⟩
  have H1 := Go.Lib.hid hb
  clear hb
  go_wp2_with fail
  refine (CR.out _ (HV.out.grow H1.out)).mono ?_
  rintro e w2 ⟨u, rfl, ho, hb⟩
  have H2 := Go.Lib.hid (And.intro (own_lower ho H1.out.size) (H1.out.trans (hb.mono H1.out.size)))
  clear ho hb
  go_wp2_with fail
  go_ret
  exact ⟨_, rfl, by rw [← HSW.out]; exact H2.out.1, H2.out.2⟩

end Go.Proofs.Ytecbfoodkcgehab.SweepWC

/-
  Contract: the program's stack is cut below the numbers that are less. Conditions: at most eight numbers.
-/
namespace Go.Proofs.Ytecbfoodkcgehab.CutStC
open Go.RowKit SeesC IntsC ExactC NumC IterC OrdMath WordMath OrdFacts InC OrderC AtC EndsM SweepM StackM

theorem take_snoc {st : List Int} {k : Nat} {p : Int} (hk : k < st.length) (h : st.getD k 0 = p) : st.take (k + 1) = st.take k ++ [p] := by
  rw [List.take_succ_eq_append_getElem hk, ← h]
  simp [hk]

set_option maxRecDepth 100000 in
set_option maxHeartbeats 2000000 in
theorem cutStack_any (st : List Int) (x : Int) (m g c B : Nat) (W : World) (hst : st.length = m) (hm : m ≤ 8) (hown : W.ownsRow B 3 1 (.slice (some ⟨g, 0, none⟩) m c) m (vals st)) :
    Calls Try.prog 190 #[.slice (some ⟨g, 0, none⟩) m c, .int .i64 x] W fun e w' => ∃ k o' c', k ≤ m ∧ (k < m → o' = k) ∧ st.take k = belw st x ∧ e = .returned (.tuple #[.slice (some ⟨g, 0, none⟩) k k, .slice (some ⟨g, o', none⟩) (m - k) c']) ∧ ∃ q, w' = W.drewN q := by
  have hmc : m ≤ c := by
    rcases hown.2 with ⟨h0, _⟩ | ⟨g', cap', cur, h0, _, _, h1, _⟩
    · cases h0
    · cases h0; exact h1
  have HC := Go.Lib.hid (fun (j : Nat) (hj : j < m) => (show W.cell? ⟨g, j, none⟩ = some (.int .i64 (st.getD j 0)) by rw [hown.cellAt j (by omega)]; simp [show j < st.length by omega]))
  have HST := Go.Lib.hid hst
  clear hown
  go_enter Try.func190, Try.ntmps190
  go_wp2
  go_loopw [6] (fun cv wr => ∃ (k : Nat), cv = .int .i64 k ∧ k ≤ m ∧ Hid (wr = W) ∧ Hid (belw (st.take k) x = belw st x)) (fun cv _ => (intOf cv).toNat)
  case atStart => exact ⟨m, rfl, Nat.le_refl _, Go.Lib.hid (by first | rfl | trivial), Go.Lib.hid (by rw [List.take_of_length_le (by omega)])⟩
  case round =>
    obtain ⟨k, rfl, hkm, HW, HB⟩ := hrel
    have hw := HW.out
    subst hw
    by_cases hk0 : k = 0
    · subst hk0
      have HE : Hid (st.take 0 = belw st x) := Go.Lib.hid (by rw [← HB.out]; rfl)
      go_wp2_with fail
      go_quiet (fail)
      go_wp2_with fail
      go_ret2
      exact ⟨0, 0, _, Nat.zero_le _, fun _ => rfl, HE.out, rfl, _, rfl⟩
    · obtain ⟨j, rfl⟩ : ∃ j, k = j + 1 := ⟨k - 1, by omega⟩
      obtain ⟨p, hp⟩ : ∃ p, st.getD j 0 = p := ⟨_, rfl⟩
      have hck := HC.out j (by omega)
      rw [hp] at hck
      have HT := Go.Lib.hid (take_snoc (st := st) (k := j) (p := p) (by omega) hp)
      have q1 : IntKind.i64.wrap ((j : Int) + 1 - 1) = (j : Int) := by rw [IntWalk.i64_in _ (by omega)]; omega
      have hjm : (j : Int) < (m : Int) := by omega
      clear hp
      by_cases hpx : p < x
      · have hpd : decide (p < x) = true := decide_eq_true hpx
        have HN : Hid (belw (st.take j) x = belw st x) := Go.Lib.hid (by rw [← HB.out, HT.out, belw_less hpx])
        go_wp2
        go_roundw
        case rel => exact ⟨j, rfl, by omega, Go.Lib.hid (by first | rfl | trivial), HN⟩
        case measure => simp [intOf]
      · have hpd : decide (p < x) = false := decide_eq_false hpx
        have HE : Hid (st.take (j + 1) = belw st x) := Go.Lib.hid (by rw [← HB.out, HT.out, belw_not hpx])
        by_cases hcj : c = j + 1
        · subst hcj
          go_wp2_with fail
          go_quiet (fail)
          go_wp2_with fail
          go_ret2
          exact ⟨j + 1, 0, 0, hkm, fun h => by omega, HE.out, by rw [show m - (j + 1) = 0 by omega]; rfl, _, rfl⟩
        · have hcj2 : j + 1 < c := by omega
          go_wp2_with fail
          go_quiet (fail)
          go_wp2_with fail
          go_ret2
          exact ⟨j + 1, j + 1, _, hkm, fun _ => rfl, HE.out, rfl, _, rfl⟩

end Go.Proofs.Ytecbfoodkcgehab.CutStC

/-
  Contract: the program's sweep. Conditions: an order.
-/
namespace Go.Proofs.Ytecbfoodkcgehab.SweepIC
open Go.RowKit SeesC WordsC IntsC ExactC NumC IterC OrdMath WordMath OrdFacts InC OrderC AtC EndsM SweepM StackM CutStC

theorem sweep_sent {zs : List Int} {y : Int} (h : ∀ z ∈ zs, z < y) : (swTo (zs ++ [y]) (zs.length + 1)).1 = sweepL zs := by
  unfold swTo
  rw [List.take_of_length_le (by simp), List.foldl_append]
  obtain ⟨o, s, hr⟩ : ∃ o s, zs.foldl swF ([], []) = (o, s) := ⟨_, _, rfl⟩
  rw [hr]
  have hs : ∀ z ∈ s, z < y := by
    intro z hz
    have hp := sw_perm zs [] []
    rw [hr] at hp
    have h9 : z ∈ o ++ s := List.mem_append.2 (.inr hz)
    have := hp.mem_iff.1 h9
    exact h z (by simpa using this)
  show o ++ popd s y = _
  rw [popd_all hs]
  unfold sweepL
  rw [hr]

theorem drop_popd {st : List Int} {x : Int} {k : Nat} (h : st.take k = belw st x) : (st.drop k).reverse = popd st x := by
  have h1 := parts st x
  rw [← h] at h1
  have h2 : st.take k ++ (popd st x).reverse = st.take k ++ st.drop k := by rw [h1, List.take_append_drop]
  have h3 := List.append_cancel_left h2
  rw [← h3, List.reverse_reverse]

theorem setL_drop (st : List Int) (k : Nat) (hk : k ≤ st.length) : setL (vals st) k (vals (st.drop k).reverse) = vals (st.take k ++ (st.drop k).reverse) := by
  rw [setL_is _ _ _ (by simp; omega)]
  have e : (vals st).drop (k + (vals (st.drop k).reverse).length) = [] := List.drop_of_length_le (by simp; omega)
  rw [e, List.append_nil]
  unfold vals
  rw [← List.map_take, List.map_append]

theorem rev_set (st : List Int) (x : Int) (k m g c o' B : Nat) (w : World) (hst : st.length = m) (hkm : k ≤ m) (ho : k < m → o' = k) (htk : st.take k = belw st x) (hown : w.ownsRow B 3 1 (.slice (some ⟨g, 0, none⟩) m c) m (vals st)) :
    w.grownBy (w.setCells g o' (((st.drop k).take (m - k)).reverse.map (Value.int .i64))) (some g) ∧ (∀ j u, (vals (popd st x))[j]? = some u → (w.setCells g o' (((st.drop k).take (m - k)).reverse.map (Value.int .i64))).cell? ((⟨g, o', none⟩ : Addr).add j) = some u) := by
  have e0 : (st.drop k).take (m - k) = st.drop k := List.take_of_length_le (by simp; omega)
  have e1 := drop_popd htk
  rw [e0]
  by_cases h : k < m
  · obtain rfl := ho h
    have h1 := own_setCells (vals (st.drop o').reverse) w o' _ hown
    rw [setL_drop st o' (by omega)] at h1
    refine ⟨h1.2, fun j u hu => ?_⟩
    have h2 := h1.1.cells (g := g) rfl (o' + j) u (by
      have e9 : (st.take o').length = o' := by rw [List.length_take]; omega
      rw [show vals (st.take o' ++ (st.drop o').reverse) = vals (st.take o') ++ vals (st.drop o').reverse by simp, List.getElem?_append_right (by rw [vals_len, e9]; omega), vals_len, e9, Nat.add_sub_cancel_left, e1]
      exact hu)
    have e10 : ((⟨g, 0, none⟩ : Addr).add (o' + j)) = ((⟨g, o', none⟩ : Addr).add j) := by
      unfold Addr.add
      by_cases h0 : o' + j = 0
      · obtain ⟨rfl, rfl⟩ : o' = 0 ∧ j = 0 := by omega
        rfl
      · rw [if_neg h0]
        by_cases hj : j = 0
        · subst hj; rw [if_pos rfl]; simp
        · rw [if_neg hj]; simp
    rw [e10] at h2
    exact h2
  · have hk : k = m := by omega
    have e2 : st.drop k = [] := List.drop_of_length_le (by omega)
    rw [e2] at e1
    rw [e2, ← e1]
    exact ⟨⟨rfl, rfl, rfl, Nat.le_refl _, fun _ _ _ => rfl⟩, fun j u hu => by simp at hu⟩

set_option maxRecDepth 100000 in
set_option maxHeartbeats 4000000 in
theorem sweepOf_any (zs : List Int) (hord : Ord zs) (W : World) (v : Value) (n : Nat) (hv : Sees W v n (vals zs)) :
    Calls Try.prog 159 #[v] W fun e w' => ∃ u, e = .returned u ∧ w'.ownsRow W.heap.size 3 1 u (sweepL zs).length (vals (sweepL zs)) ∧ Below W.heap.size W w' := by
  obtain ⟨i0, hi, hz0, hz1, hz2⟩ := info_parts infoI
  have hl : zs.length = n := by simpa using hv.1
  have hn1 : 1 ≤ n := by have := hord.1; omega
  have hn7 : n ≤ 7 := by have := hord.2.1; omega
  have HV := Go.Lib.hid hv
  have hsent : (swTo (zs ++ [(n : Int) + 1]) (n + 1)).1 = sweepL zs := by
    have h1 := sweep_sent (zs := zs) (y := (n : Int) + 1) (fun z hz => by have := (hord.2.2.1 z hz).2; omega)
    rw [hl] at h1
    exact h1
  obtain ⟨R, hR⟩ : ∃ R, sweepL zs = R := ⟨_, rfl⟩
  rw [hR] at hsent ⊢
  have HRL : Hid (R.length = n) := Go.Lib.hid (by rw [← hR, sweep_len, hl])
  have hrange : ∀ i, i < n + 1 → 0 ≤ (zs ++ [(n : Int) + 1]).getD i 0 ∧ (zs ++ [(n : Int) + 1]).getD i 0 ≤ 8 := by
    intro i hi
    by_cases h : i < n
    · obtain ⟨q, h1, h2⟩ := hord.getD (k := i) (by omega)
      rw [List.getD_eq_getElem?_getD, List.getElem?_append_left (by omega), ← List.getD_eq_getElem?_getD, h1]
      omega
    · have e : (zs ++ [(n : Int) + 1]).getD i 0 = (n : Int) + 1 := by rw [show i = zs.length by omega]; simp
      rw [e]
      omega
  have HRNG := Go.Lib.hid hrange
  have HRES := Go.Lib.hid hsent
  obtain ⟨ys, hys⟩ : ∃ ys, zs ++ [(n : Int) + 1] = ys := ⟨_, rfl⟩
  rw [hys] at HRES HRNG
  have hly : ys.length = n + 1 := by rw [← hys]; simp [hl]
  have HLY := Go.Lib.hid hly
  have HYS := Go.Lib.hid hys
  obtain ⟨b, o, cap, rfl, _, _, hbl, hcell⟩ := sees_cells hv (by omega)
  have HC := Go.Lib.hid hcell
  clear hv hsent hR hcell hly hys hrange
  go_enter Try.func159, Try.ntmps159
  go_wp2_with (at_make; refine wpList_make_own _ rfl _ _ 29 rfl W.heap.size 3 i0 (.int .i64 0) 1 Try.underlying29 hi hz0 hz1 .i64 .i64 _ n rfl rfl rfl (by rw [hz2]; omega) (by unfold maxLen; omega) (Nat.le_refl _) ?_; intro w1 hown1 hgrow1)
  have hb1 : Below W.heap.size W w1 := (Below.refl _ _).grown hgrow1 (Nat.le_refl _) (fun k hk => by cases hk)
  have hown2 := World.ownsRow_made (base := W.heap.size) (e := 3) (size := 1) w1 #[] 0 hb1.size (by unfold maxLen; omega) rfl
  have H1 := Go.Lib.hid (And.intro (hown1.alloc (.cells #[] 3)) (And.intro hown2 (And.intro (hb1.alloc hb1.size (.cells #[] 3)) (And.intro ((hown1.lt W.heap.size rfl).2) ((hown1.lt W.heap.size rfl).1)))))
  clear hown1 hgrow1 hown2 hb1
  go_wp2_with fail
  refine (Try.slices_Clone_int b o n cap zs _ (by omega) (by omega) (fun j hj => (H1.out.2.2.1.cell (p := ⟨b, o + j, none⟩) hbl).trans (HC.out j hj))).mono ?_
  rintro e w2 ⟨u, rfl, ho, hne, hb⟩
  rw [List.take_of_length_le (by omega)] at ho
  obtain ⟨gu, cu, rfl⟩ := own_form ho hne
  have hgu := ho.lt gu rfl
  have hs1 : w1.heap.size < gu := by have := hgu.1; simp at this; omega
  have hgu2 := hgu.2
  have hs0 : W.heap.size < w1.heap.size := H1.out.2.2.2.1
  have hbW : Below W.heap.size W w2 := H1.out.2.2.1.trans (hb.mono H1.out.2.2.1.size)
  have hkS := kept_call H1.out.1 hb
  have hkK := kept_call H1.out.2.1 hb
  have H2 := Go.Lib.hid (And.intro (own_lower ho (base' := W.heap.size) H1.out.2.2.1.size) (And.intro hkS (And.intro hkK hbW)))
  clear ho hne hb hgu hbW hkS hkK H1
  go_wp2_with (at_builtin; refine wpList_append_own_at _ rfl _ _ 29 rfl W.heap.size 3 i0 (.int .i64 0) 1 8 Try.underlying29 hi hz0 hz1 hz2 rfl (by decide) (.slice (some ⟨gu, 0, none⟩) n cu) n (vals zs) rfl (H2.out.1.alloc _) ⟨w2.heap.size, 0, none⟩ 1 1 [.int .i64 ((n : Int) + 1)] rfl rfl (cell_one_new _ _ _) (fun x hx => by simp at hx; subst hx; rfl) (by unfold maxLen; omega) (by omega) (by have := H2.out.2.2.2.size; simp; omega) ?_; intro v' w3 hown' hgrow3 hnil3 hrow3)
  obtain ⟨ga, ca, rfl⟩ := ownsRow_succ hown'
  have e1 : vals zs ++ [Value.int .i64 ((n : Int) + 1)] = vals ys := by rw [← HYS.out]; simp
  rw [e1] at hown'
  have hb3 : Below W.heap.size W w3 := (H2.out.2.2.2.alloc H2.out.2.2.2.size _).grown hgrow3 (by have := H2.out.2.2.2.size; simp; omega) (fun q hq => (H2.out.1.lt q hq).1)
  have hS3 := own_mark (H2.out.2.1.alloc _) hgrow3 (fun a ha e => by simp only [Value.ownBlock, Option.some.injEq] at ha e; omega)
  have hK3 := own_mark (H2.out.2.2.1.alloc _) hgrow3 (fun a ha e => by simp only [Value.ownBlock, Option.some.injEq] at ha e; omega)
  have hga : w1.heap.size < ga := by
    rcases hrow3 with h2 | h2
    · simp [Value.ownBlock] at h2; omega
    · simp [Value.ownBlock] at h2; omega
  obtain ⟨N, hN⟩ : ∃ N, n + 1 = N := ⟨_, rfl⟩
  rw [hN] at hown' ⊢
  have HNN := Go.Lib.hid hN
  have hN8 : N ≤ 8 := by omega
  have H3 := Go.Lib.hid (And.intro hown' (And.intro hS3 (And.intro hK3 hb3)))
  clear hown' hgrow3 hnil3 hrow3 hS3 hK3 hb3 H2 e1 hs1 hgu2 hN
  go_simp
  go_wp2_with fail
  go_loopw [3, 4, 21] (fun sv kv iv wr => ∃ (i ns gs cs m g c : Nat) (out st : List Int), iv = .int .i64 i ∧ sv = .slice (some ⟨gs, 0, none⟩) ns cs ∧ kv = .slice (some ⟨g, 0, none⟩) m c ∧ i ≤ N ∧ st.length = m ∧ out.length = ns ∧ ns + m = i ∧ gs ≠ g ∧ gs ≠ ga ∧ g ≠ ga ∧ wr.ownsRow W.heap.size 3 1 (.slice (some ⟨gs, 0, none⟩) ns cs) ns (vals out) ∧ wr.ownsRow W.heap.size 3 1 (.slice (some ⟨g, 0, none⟩) m c) m (vals st) ∧ wr.ownsRow W.heap.size 3 1 (.slice (some ⟨ga, 0, none⟩) N ca) N (vals ys) ∧ Below W.heap.size W wr ∧ Hid (swTo ys i = (out, st))) (fun _ _ i _ => N - (intOf i).toNat)
  case atStart => exact ⟨0, 0, W.heap.size, n, 0, w1.heap.size, 0, [], [], rfl, rfl, rfl, Nat.zero_le _, rfl, rfl, rfl, by omega, by omega, by omega, by simpa using H3.out.2.1, by simpa using H3.out.2.2.1, H3.out.1, H3.out.2.2.2, Go.Lib.hid rfl⟩
  case round =>
    obtain ⟨i, ns, gs, cs, m, g, c, out, st, rfl, rfl, rfl, hin, hst, hlo, hnm, hn12, hn13, hn23, hownS, hownK, hownA, hb, HR⟩ := hrel
    clear H3
    by_cases hlt : i < N
    · obtain ⟨x, hx⟩ : ∃ x, ys.getD i 0 = x := ⟨_, rfl⟩
      have hckx : wr.cell? ⟨ga, i, none⟩ = some (.int .i64 x) := by rw [hownA.cellAt i (by omega)]; rw [← hx]; have := HLY.out; have := HNN.out; simp [show i < ys.length by omega]
      have HX : Hid (swTo ys (i + 1) = (out ++ popd st x, belw st x ++ [x])) := Go.Lib.hid (by rw [← hx]; exact sw_next (by have := HLY.out; have := HNN.out; omega) HR.out)
      have hx8 := HRNG.out i (by have := HNN.out; omega)
      rw [hx] at hx8
      have hlti : (i : Int) < (N : Int) := by omega
      have hm8 : m ≤ 8 := by omega
      have hns8 : ns ≤ 8 := by omega
      have CC := Go.Lib.hid (cutStack_any st x m g c W.heap.size wr hst hm8 hownK)
      have HL := Go.Lib.hid (And.intro hst (And.intro hlo hnm))
      have H4 := Go.Lib.hid (And.intro hownS (And.intro hownK (And.intro hownA hb)))
      clear hx hownS hownK hownA hb hst hlo
      go_wp2_with fail
      refine CC.out.mono ?_
      rintro e w4 ⟨k, o', c', hkm, ho', htk, rfl, q, rfl⟩
      have h4S := own_drewN (q := q) H4.out.1
      have h4K := own_drewN (q := q) H4.out.2.1
      have h4A := own_drewN (q := q) H4.out.2.2.1
      have h4b := ExactC.below_drewN (q := q) H4.out.2.2.2
      obtain ⟨w4, hw4⟩ : ∃ w4, wr.drewN q = w4 := ⟨_, rfl⟩
      rw [hw4] at h4S h4K h4A h4b ⊢
      have hlk : (st.take k).length = k := by rw [List.length_take]; have := HL.out.1; omega
      have H5 := Go.Lib.hid (And.intro h4S (And.intro h4K (And.intro h4A h4b)))
      have HTK := Go.Lib.hid htk
      have hk8 : k ≤ 8 := by omega
      clear hw4 h4S h4K h4A h4b H4 htk hckx
      go_wp2_with (at_builtin; refine wpList_append_grows _ rfl _ _ 29 rfl 3 i0 (.int .i64 0) 1 8 Try.underlying29 hi hz0 hz1 hz2 rfl (by decide) (some ⟨g, 0, none⟩) k k (vals (st.take k)) rfl (fun h => by cases h) (by rw [vals_len, hlk, Nat.mul_one]) (fun b' e j u hu => by cases e; exact (H5.out.2.1.alloc _).cells (g := g) rfl j u (by simp only [vals, List.map_take, List.getElem?_take] at hu ⊢; split at hu <;> simp_all)) ⟨w4.heap.size, 0, none⟩ 1 1 [.int .i64 x] rfl rfl (cell_one_new _ _ _) (fun x hx => by simp at hx; subst hx; rfl) (by omega) (by unfold maxLen; omega) (by omega) ?_; intro v' w5 hown5 hgrow5)
      obtain ⟨g', cap', rfl⟩ := ownsRow_succ hown5
      have e5 : vals (st.take k) ++ [Value.int .i64 x] = vals (belw st x ++ [x]) := by rw [← HTK.out]; simp
      rw [e5] at hown5
      have hg' := (hown5.lt g' rfl).1
      simp only [World.size_alloc] at hg'
      have hS5 := own_mark (H5.out.1.alloc (.cells #[.int .i64 x] 3)) hgrow5 (fun a ha e => by cases e)
      have hK5 := own_mark (H5.out.2.1.alloc (.cells #[.int .i64 x] 3)) hgrow5 (fun a ha e => by cases e)
      have hA5 := own_mark (H5.out.2.2.1.alloc (.cells #[.int .i64 x] 3)) hgrow5 (fun a ha e => by cases e)
      have hb5 : Below W.heap.size W w5 := (H5.out.2.2.2.alloc H5.out.2.2.2.size _).grown hgrow5 (by have := H5.out.2.2.2.size; simp; omega) (fun k hk => by cases hk)
      have hlt1 := (H5.out.1.lt gs rfl).2
      have hlt2 := (H5.out.2.1.lt g rfl).2
      have hlt3 := (H5.out.2.2.1.lt ga rfl).2
      have hgB := (H5.out.2.1.lt g rfl).1
      have hK5n := own_lower hown5 (base' := W.heap.size) (by have := H5.out.2.2.2.size; simp; omega)
      have hn24 : g' ≠ gs ∧ g' ≠ g ∧ g' ≠ ga := by omega
      have H6 := Go.Lib.hid (And.intro hS5 (And.intro hK5 (And.intro hA5 (And.intro hK5n hb5))))
      clear hown5 hgrow5 hS5 hK5 hA5 hb5 H5 e5 hg' hlt1 hlt2 hlt3 hK5n
      go_wp2_with fail
      refine (Try.slices_Reverse_int_cells g o' (m - k) c' (st.drop k) w5 (by rw [List.length_drop]; have := HL.out.1; omega) (by omega) (fun j hj => by
        rw [List.length_drop, HL.out.1] at hj
        obtain rfl := ho' (by omega)
        have h1 := (own_cells H6.out.2.1).1 (o' + j) (by have := HL.out.1; omega)
        rw [Nat.zero_add] at h1
        rw [h1]
        congr 2
        simp) (fun j hj => by
        obtain rfl := ho' (by omega)
        have h1 := (own_cells H6.out.2.1).2 (o' + j) (by omega)
        rw [Nat.zero_add] at h1
        exact h1)).mono ?_
      rintro e w6 ⟨rfl, q2, rfl⟩
      have hrev := rev_set st x k m g c o' W.heap.size (w5.drewN q2) HL.out.1 hkm ho' HTK.out (own_drewN H6.out.2.1)
      have hS6 := own_mark (own_drewN (q := q2) H6.out.1) hrev.1 (fun a ha e => by simp only [Value.ownBlock, Option.some.injEq] at ha e; omega)
      have hA6 := own_mark (own_drewN (q := q2) H6.out.2.2.1) hrev.1 (fun a ha e => by simp only [Value.ownBlock, Option.some.injEq] at ha e; omega)
      have hK6 := own_mark (own_drewN (q := q2) H6.out.2.2.2.1) hrev.1 (fun a ha e => by simp only [Value.ownBlock, Option.some.injEq] at ha e; omega)
      have hb6 := (ExactC.below_drewN (q := q2) H6.out.2.2.2.2).grown hrev.1 H6.out.2.2.2.2.size (fun k hk => by cases hk; exact hgB)
      obtain ⟨w6, hw6⟩ : ∃ w6, (w5.drewN q2).setCells g o' (((st.drop k).take (m - k)).reverse.map (Value.int .i64)) = w6 := ⟨_, rfl⟩
      rw [hw6] at hS6 hA6 hK6 hb6 hrev ⊢
      have hlp : (popd st x).length = m - k := by rw [← drop_popd HTK.out]; simp [HL.out.1]
      have HLP := Go.Lib.hid hlp
      have H7 := Go.Lib.hid (And.intro hS6 (And.intro hA6 (And.intro hK6 (And.intro hb6 hrev.2))))
      clear hS6 hA6 hK6 hb6 hrev hw6 hlp H6
      go_wp2_with (at_builtin; refine wpList_append_own_at _ rfl _ _ 29 rfl W.heap.size 3 i0 (.int .i64 0) 1 8 Try.underlying29 hi hz0 hz1 hz2 rfl (by decide) (.slice (some ⟨gs, 0, none⟩) ns cs) ns (vals out) rfl H7.out.1 ⟨g, o', none⟩ (m - k) c' (vals (popd st x)) rfl (by rw [vals_len, HLP.out, Nat.mul_one]) H7.out.2.2.2.2 (fun u hu => by simp only [vals, List.mem_map] at hu; obtain ⟨z, _, rfl⟩ := hu; rfl) (by unfold maxLen; omega) (by omega) H7.out.2.2.2.1.size ?_; intro v'' w7 hown7 hgrow7 hnil7 hrow7)
      obtain ⟨gs', cs', rfl⟩ := own_form hown7 (fun e => by cases (hnil7.1 e).1)
      have e7 : vals out ++ vals (popd st x) = vals (out ++ popd st x) := by simp
      rw [e7] at hown7
      have hb7 : Below W.heap.size W w7 := H7.out.2.2.2.1.grown hgrow7 H7.out.2.2.2.1.size (fun q hq => (H7.out.1.lt q hq).1)
      have hA7 := own_mark H7.out.2.1 hgrow7 (fun a ha e => by simp only [Value.ownBlock, Option.some.injEq] at ha e; omega)
      have hK7 := own_mark H7.out.2.2.1 hgrow7 (fun a ha e => by simp only [Value.ownBlock, Option.some.injEq] at ha e; omega)
      have hgl := (H7.out.2.2.1.lt g' rfl).2
      have hal := (H7.out.2.1.lt ga rfl).2
      have hns' : gs' ≠ g' ∧ gs' ≠ ga := by
        rcases hrow7 with h2 | h2
        · simp only [Value.ownBlock, Option.some.injEq] at h2; omega
        · simp only [Value.ownBlock, Option.some.injEq] at h2; omega
      have H8 := Go.Lib.hid (And.intro hown7 (And.intro hK7 (And.intro hA7 hb7)))
      have HLB : Hid ((belw st x ++ [x]).length = k + 1 ∧ (out ++ popd st x).length = ns + (m - k)) := Go.Lib.hid ⟨by rw [List.length_append, ← HTK.out, List.length_take]; have := HL.out.1; simp; omega, by rw [List.length_append, HLP.out, HL.out.2.1]⟩
      clear hown7 hgrow7 hnil7 hrow7 hb7 hA7 hK7 hgl hal H7 e7
      go_wp2
      go_roundw
      case rel => exact ⟨i + 1, ns + (m - k), gs', cs', k + 1, g', cap', out ++ popd st x, belw st x ++ [x], by go_num, rfl, rfl, by omega, HLB.out.1, HLB.out.2, by have := HL.out; omega, hns'.1, hns'.2, hn24.2.2, H8.out.1, H8.out.2.1, H8.out.2.2.1, H8.out.2.2.2, HX⟩
      case measure => simp [intOf]; omega
    · have hkn : i = N := by omega
      have HE : Hid (out = R) := Go.Lib.hid (by have h1 := HRES.out; rw [HNN.out, ← hkn, HR.out] at h1; exact h1)
      have H3 := Go.Lib.hid (And.intro hownS hb)
      have HLO := Go.Lib.hid hlo
      clear hownS hownK hownA hb hlo
      go_wp2
      go_ret
      obtain rfl : ns = R.length := by rw [← HE.out]; exact HLO.out.symm
      exact ⟨_, rfl, by have h1 := H3.out.1; rw [HE.out] at h1; exact h1, H3.out.2⟩

end Go.Proofs.Ytecbfoodkcgehab.SweepIC

/-
  Contracts: CountSweeps of the model and of the program. Conditions: lists of at most 2^20 numbers.
-/
namespace Go.Proofs.Ytecbfoodkcgehab.SweepsC
open Go.RowKit SeesC IntsC ExactC NumC IterC OrdMath WordMath OrdFacts InC OrderC WordC RunC AtC EndsM SweepM StackM SweepWC SweepIC SameC

theorem sorted_iff {zs : List Int} (h : Ord zs) : (∀ i, i < zs.toArray.size - 1 → decide (zs.toArray[i + 1]! < zs.toArray[i]!) = false) ↔ zs = iota zs.length := by
  have hget : ∀ i, i < zs.length → zs.toArray[i]! = zs.getD i 0 := by
    intro i hi
    rw [getElem!_pos zs.toArray i (by simpa using hi)]
    simp [hi]
  constructor
  · intro hs
    refine sorted_is (ord_perm h) ?_
    have step : ∀ m i, i + m < zs.length → zs.getD i 0 ≤ zs.getD (i + m) 0 := by
      intro m
      induction m with
      | zero => intro i _; exact Int.le_refl _
      | succ m ih =>
        intro i hi
        have h1 := ih i (by omega)
        have h2 := of_decide_eq_false (hs (i + m) (by simp; omega))
        rw [hget (i + m + 1) (by omega), hget (i + m) (by omega)] at h2
        have e : i + (m + 1) = i + m + 1 := rfl
        rw [e]
        omega
    rw [List.pairwise_iff_getElem]
    intro i j hi hj hij
    have h1 := step (j - i) i (by omega)
    rw [show i + (j - i) = j by omega] at h1
    have h2 : zs[i] ≠ zs[j] := fun e => by have := (List.getElem_inj h.2.2.2).1 e; omega
    have e1 : zs.getD i 0 = zs[i] := by simp [hi]
    have e2 : zs.getD j 0 = zs[j] := by simp [hj]
    rw [e1, e2] at h1
    omega
  · intro e i hi
    have hi2 : i + 1 < zs.length := by simp at hi; omega
    rw [decide_eq_false_iff_not, hget (i + 1) hi2, hget i (by omega), e, iota_getD hi2, iota_getD (by omega)]
    omega

theorem isSorted_any (zs : List Int) (hord : Ord zs) (r : Bool) (hr : decide (zs = iota zs.length) = r) (W : World) (v : Value) (n : Nat) (hv : Sees W v n (vals zs)) :
    Calls Try.prog 186 #[v] W fun e w' => e = .returned (.bool r) ∧ ∃ q, w' = W.drewN q := by
  have hl : zs.length = n := by simpa using hv.1
  have h7 := hord.2.1
  obtain ⟨b, o, cap, rfl, _, _, hbl, hcell⟩ := sees_cells hv (by have := hord.1; omega)
  have hsz : zs.toArray.size = n := by simpa using hl
  have h1 := AnyO.slices_IsSorted_int Try.laysIS b o cap zs.toArray W (fun i hi => by
    have hi2 : i < zs.length := by simpa using hi
    rw [hcell i hi2, getElem!_pos zs.toArray i hi]
    simp [hi2]) (by omega)
  have e : Lib.downOK (fun x y => decide (x < y)) zs.toArray (zs.toArray.size - 1) = r := by
    rw [← hr, Bool.eq_iff_iff, Lib.downOK_iff, decide_eq_true_iff]
    exact sorted_iff hord
  rw [e] at h1
  rw [hsz] at h1
  exact h1

end Go.Proofs.Ytecbfoodkcgehab.SweepsC

/-
  Contract: the program counts how many times a step has to be made until an order is sorted. Conditions: the step makes orders of orders, and sorts after so many times.
-/
namespace Go.Proofs.Ytecbfoodkcgehab.UntilC
open Go.RowKit SeesC IntsC ExactC IterC OrdMath OrderC OrdFacts SweepsC

/-- What a step does. -/
def StepTo (stepf : List Int → List Int) (fid : FuncId) : Prop :=
  ∀ (ys : List Int), Ord ys → ∀ (W : World) (v : Value) (n : Nat), Sees W v n (vals ys) →
    Calls Try.prog fid #[v] W fun e w' => ∃ g c, e = .returned (.slice (some ⟨g, 0, none⟩) n c) ∧ w'.ownsRow W.heap.size 3 1 (.slice (some ⟨g, 0, none⟩) n c) n (vals (stepf ys)) ∧ Below W.heap.size W w'

set_option maxRecDepth 100000 in
set_option maxHeartbeats 2000000 in
theorem until_any (stepf : List Int → List Int) (fid : FuncId) (hcf : ∀ (args : Array Value) (w : World), Sem.run Try.prog (callFunc fid args) w = .ok (.enter fid args) w) (HF : StepTo stepf fid) (N : Nat → List Int) (n M : Nat) (hstep : ∀ k, N (k + 1) = stepf (N k)) (hordN : ∀ k, Ord (N k)) (hlenN : ∀ k, (N k).length = n)
    (hM7 : M ≤ 1000) (hM : N M = iota n ∧ ∀ j, j < M → N j ≠ iota n) (W : World) (v : Value) (hv : Sees W v n (vals (N 0))) :
    Calls Try.prog 136 #[v, .func (.func fid) #[] #[]] W fun e w' => e = .returned (.int .i64 (M : Int)) ∧ Below W.heap.size W w' := by
  have hn7 : n ≤ 7 := by have := (hordN 0).2.1; have := hlenN 0; omega
  have hn1 : 1 ≤ n := by have := (hordN 0).1; have := hlenN 0; omega
  have HMI := Go.Lib.hid hM
  have HST := Go.Lib.hid hstep
  have HORD := Go.Lib.hid hordN
  have HLEN := Go.Lib.hid hlenN
  have HFH := Go.Lib.hid HF
  have HCF := Go.Lib.hid hcf
  have HV := Go.Lib.hid hv
  obtain ⟨_, ad, cap, rfl, _, _⟩ := hv
  clear hM hstep hordN hlenN HF hcf
  go_enter Try.func136, Try.ntmps136
  go_wp2_with fail
  go_loopw [0, 5] (fun nv mv wr => ∃ (k c : Nat) (a : Option Addr), mv = .int .i64 k ∧ nv = .slice a n c ∧ k ≤ M ∧ Hid (Sees wr (.slice a n c) n (vals (N k)) ∧ Below W.heap.size W wr)) (fun _ mv _ => M - (intOf mv).toNat)
  case atStart => exact ⟨0, cap, ad, rfl, rfl, Nat.zero_le _, Go.Lib.hid ⟨HV.out, Below.refl _ _⟩⟩
  case round =>
    obtain ⟨k, c, a, rfl, rfl, hk, HK⟩ := hrel
    obtain ⟨r, hr⟩ : ∃ r, decide (N k = iota (N k).length) = r := ⟨_, rfl⟩
    have HRR := Go.Lib.hid hr
    go_wp2_with fail
    refine (isSorted_any (N k) (HORD.out k) r hr wr _ n HK.out.1).mono ?_
    rintro e w4 ⟨rfl, q, rfl⟩
    have H4 := Go.Lib.hid (And.intro (HK.out.1.grow (ExactC.below_drewN (q := q) (Below.refl wr.heap.size wr))) (ExactC.below_drewN (q := q) HK.out.2))
    obtain ⟨w4, hw4⟩ : ∃ w4, wr.drewN q = w4 := ⟨_, rfl⟩
    rw [hw4] at H4 ⊢
    clear hr hw4
    by_cases hkM : k < M
    · have hrf : r = false := by
        rw [← HRR.out, decide_eq_false_iff_not, HLEN.out k]
        exact HMI.out.2 k hkM
      subst hrf
      have CW := Go.Lib.hid (HFH.out (N k) (HORD.out k) w4 _ n H4.out.1)
      go_wp2_with fail
      rw [HCF.out, Oper.upon_enter]
      refine CW.out.mono ?_
      rintro e w5 ⟨g5, c5, rfl, ho, hb⟩
      have H5 : Hid (Sees w5 (.slice (some ⟨g5, 0, none⟩) n c5) n (vals (N (k + 1))) ∧ Below W.heap.size W w5) := Go.Lib.hid ⟨by rw [HST.out]; exact Sees.owns ho, H4.out.2.trans (hb.mono H4.out.2.size)⟩
      clear ho hb
      go_wp2
      go_roundw
      case rel => exact ⟨k + 1, c5, some ⟨g5, 0, none⟩, by go_num, rfl, by omega, H5⟩
      case measure => simp [intOf]; omega
    · have hkM2 : k = M := by omega
      subst hkM2
      have hrt : r = true := by
        rw [← HRR.out, decide_eq_true_iff, HLEN.out k]
        exact HMI.out.1
      subst hrt
      go_wp2_with fail
      go_ret
      exact ⟨rfl, H4.out.2⟩

end Go.Proofs.Ytecbfoodkcgehab.UntilC

/-
  The kit's contracts of library functions at this translation, laid by the kit's own command and cut down to those that are used. Conditions: as each states.
-/
namespace Go.Proofs
open Go.Shelf

def Try.lays189_ren : Go.Shelf.Ren := ⟨fun | 189 => 185 | 125 => 205 | 257 => 204 | 128 => 220 | 129 => 221 | 294 => 212 | 295 => 213 | 296 => 214 | 297 => 215 | 298 => 216 | 299 => 217 | 216 => 206 | 300 => 218 | 301 => 219 | 328 => 230 | 329 => 231 | 330 => 232 | 331 => 233 | 332 => 234 | 215 => 211 | 343 => 238 | n => n, fun | 28 => 29 | 3 => 3 | 46 => 139 | 0 => 0 | 51 => 154 | 53 => 72 | 4 => 4 | 183 => 148 | 182 => 147 | 131 => 27 | 5 => 5 | 9 => 9 | 218 => 161 | 222 => 165 | 228 => 169 | 229 => 53 | n => n, fun | n => n⟩

theorem Try.lays189 : Go.Proofs.Lays.n189 Try.prog Try.lays189_ren := {
  mixed := by kernel_rfl
  f125 := Try.func205.trans (congrArg some (by kernel_rfl))
  f128 := Try.func220.trans (congrArg some (by kernel_rfl))
  f129 := Try.func221.trans (congrArg some (by kernel_rfl))
  f189 := Try.func185.trans (congrArg some (by kernel_rfl))
  f215 := Try.func211.trans (congrArg some (by kernel_rfl))
  f216 := Try.func206.trans (congrArg some (by kernel_rfl))
  f257 := Try.func204.trans (congrArg some (by kernel_rfl))
  f294 := Try.func212.trans (congrArg some (by kernel_rfl))
  f295 := Try.func213.trans (congrArg some (by kernel_rfl))
  f296 := Try.func214.trans (congrArg some (by kernel_rfl))
  f297 := Try.func215.trans (congrArg some (by kernel_rfl))
  f298 := Try.func216.trans (congrArg some (by kernel_rfl))
  f299 := Try.func217.trans (congrArg some (by kernel_rfl))
  f300 := Try.func218.trans (congrArg some (by kernel_rfl))
  f301 := Try.func219.trans (congrArg some (by kernel_rfl))
  f328 := Try.func230.trans (congrArg some (by kernel_rfl))
  f329 := Try.func231.trans (congrArg some (by kernel_rfl))
  f330 := Try.func232.trans (congrArg some (by kernel_rfl))
  f331 := Try.func233.trans (congrArg some (by kernel_rfl))
  f332 := Try.func234.trans (congrArg some (by kernel_rfl))
  f343 := Try.func238.trans (congrArg some (by kernel_rfl))
  t0 := Try.underlying0
  a0 := Try.isAgg0
  z0 := Try.sizeOf0
  v0 := Try.zeroValue0
  t3 := Try.underlying3
  a3 := Try.isAgg3
  z3 := Try.sizeOf3
  v3 := Try.zeroValue3
  t4 := Try.underlying4
  a4 := Try.isAgg4
  z4 := Try.sizeOf4
  v4 := Try.zeroValue4
  t5 := Try.underlying5
  a5 := Try.isAgg5
  z5 := Try.sizeOf5
  v5 := Try.zeroValue5
  t9 := Try.underlying9
  a9 := Try.isAgg9
  z9 := Try.sizeOf9
  v9 := Try.zeroValue9
  t28 := Try.underlying29
  a28 := Try.isAgg29
  z28 := Try.sizeOf29
  v28 := Try.zeroValue29
  t46 := Try.underlying139
  a46 := Try.isAgg139
  z46 := Try.sizeOf139
  v46 := Try.zeroValue139
  t51 := Try.underlying154
  a51 := Try.isAgg154
  z51 := Try.sizeOf154
  v51 := Try.zeroValue154
  t53 := Try.underlying72
  a53 := Try.isAgg72
  z53 := Try.sizeOf72
  v53 := Try.zeroValue72
  t131 := Try.underlying27
  a131 := Try.isAgg27
  z131 := Try.sizeOf27
  v131 := Try.zeroValue27
  t182 := Try.underlying147
  a182 := Try.isAgg147
  z182 := Try.sizeOf147
  v182 := Try.zeroValue147
  t183 := Try.underlying148
  a183 := Try.isAgg148
  z183 := Try.sizeOf148
  v183 := Try.zeroValue148
  t218 := Try.underlying161
  a218 := Try.isAgg161
  z218 := Try.sizeOf161
  v218 := Try.zeroValue161
  t222 := Try.underlying165
  a222 := Try.isAgg165
  z222 := Try.sizeOf165
  v222 := Try.zeroValue165
  t228 := Try.underlying169
  a228 := Try.isAgg169
  z228 := Try.sizeOf169
  v228 := Try.zeroValue169
  t229 := Try.underlying53
  a229 := Try.isAgg53
  z229 := Try.sizeOf53
  v229 := Try.zeroValue53 }

open Go.Sort Go.RowKit in
theorem Try.slices_Sort_int (blk off cap : Nat) (zs : List Int) (w : World) (hH : Holds (Value.int .i64) w blk off zs.toArray) (hblk : blk < w.heap.size) (hsz : zs.length < 4611686018427387904) :
    Calls Try.prog 185 #[.slice (some ⟨blk, off, none⟩) zs.length cap] w fun e w' =>
      e = .returned (.tuple #[]) ∧ ∃ n os, w' = grow (putRow (Value.int .i64) (Sort.ahead w n) blk off (zs.mergeSort fun x y => decide (x ≤ y)).toArray) os := Any.slices_Sort_int Try.lays189 blk off cap zs w hH hblk hsz

end Go.Proofs

/-
  Contract: the program's mergePass. Conditions: an order.
-/
namespace Go.Proofs.Ytecbfoodkcgehab.MergeIC
open Go.Shelf Go.RowKit Go.Lib Go.Sort
open SeesC IntsC ExactC OrdMath InC OrderC ListsC ListsEC ListsFC LLC RagMarkC RagResC RRC AppendTwoC QueM RRVC PassM AreM OutM RunIC PassSC ConcatC ChunkC RangeC SplitIterC UntilC

attribute [local go_sem] Oper.semAt_some
set_option linter.unusedSimpArgs false
set_option linter.unusedVariables false

theorem two_of {R : List (List Int)} {i : Nat} (h : i < R.length) : (R.drop i).take (min 2 (R.length - i)) = if i + 1 < R.length then [R.getD i [], R.getD (i + 1) []] else [R.getD i []] := by
  have e1 : R.getD i [] = R[i] := by simp [h]
  by_cases h2 : i + 1 < R.length
  · have e2 : R.getD (i + 1) [] = R[i + 1] := by simp [h2]
    rw [if_pos h2, show min 2 (R.length - i) = 2 by omega, List.drop_eq_getElem_cons h, List.drop_eq_getElem_cons h2, e1, e2]; rfl
  · rw [if_neg h2, show min 2 (R.length - i) = 1 by omega, List.drop_eq_getElem_cons h, e1]; rfl

def chunk (R : List (List Int)) (j : Nat) : List (List Int) := (R.drop (2 * j)).take (min 2 (R.length - 2 * j))

theorem chunk_sort {zs : List Int} (h : Ord zs) {j : Nat} (hj : 2 * j < (rTo zs zs.length).length) : ((chunk (rTo zs zs.length) j).flatten.mergeSort fun x y => decide (x ≤ y)) = pairAt (rTo zs zs.length) j := by
  symm
  refine sorted_one ?_ (pair_asc h hj) ?_
  · refine List.Perm.trans ?_ (List.mergeSort_perm _ _).symm
    unfold chunk pairAt
    rw [two_of hj]
    split
    · simpa using mrg_perm _ _
    · simp
  · have := List.pairwise_mergeSort (le := fun x y : Int => decide (x ≤ y)) (fun a b c h1 h2 => by simp at *; omega) (fun a b => by simp; omega) (chunk (rTo zs zs.length) j).flatten
    simpa using this

theorem sees_chunk {X : World} {g K c p : Nat} {R : List (List Int)} (h : SeesLL X (.slice (some ⟨g, 0, none⟩) K c) R) (hK : R.length = K) (hp : p < K) : SeesLL X (.slice (some ⟨g, p, none⟩) (min 2 (K - p)) (min 2 (K - p))) ((R.drop p).take (min 2 (K - p))) := by
  subst hK
  obtain ⟨m, hm⟩ : ∃ m, min 2 (R.length - p) = m := ⟨_, rfl⟩
  rw [hm]
  obtain ⟨vs, h1, h2, h3⟩ := h
  have hl : ((R.drop p).take m).length = m := by simp; omega
  refine ⟨(vs.drop p).take m, by simp [h1], ?_, fun i hi => ?_⟩
  · rw [hl]
    obtain ⟨h4, a, cap, e, h5, h6⟩ := h2
    cases e
    refine ⟨by simp; omega, _, _, rfl, Nat.le_refl _, fun _ => ?_⟩
    obtain ⟨b, o, e2, hc⟩ := h6 (by omega)
    cases e2
    refine ⟨_, _, rfl, fun j u hu => ?_⟩
    have hj : j < m := by
      have := (List.getElem?_eq_some_iff.1 hu).1
      simp at this; omega
    rw [List.getElem?_take_of_lt hj, List.getElem?_drop] at hu
    have := hc (p + j) u hu
    simpa using this
  · rw [hl] at hi
    have e1 : ((vs.drop p).take m).getD i undef = vs.getD (p + i) undef := by
      rw [List.getD_eq_getElem?_getD, List.getElem?_take_of_lt hi, List.getElem?_drop, ← List.getD_eq_getElem?_getD]
    have e2 : ((R.drop p).take m).getD i [] = R.getD (p + i) [] := by
      rw [List.getD_eq_getElem?_getD, List.getElem?_take_of_lt hi, List.getElem?_drop, ← List.getD_eq_getElem?_getD]
    rw [e1, e2]
    exact h3 (p + i) (by omega)

theorem sees_keepR {lo hi : Nat} {w X : World} {v : Value} {n : Nat} {xs : List Value} (h : Sees w v n xs) (hb : ∀ b, v.ownBlock = some b → lo ≤ b ∧ b < hi) (hk : KeepR lo hi w X) : Sees X v n xs := by
  obtain ⟨h1, a, cap, rfl, h3, h2⟩ := h
  refine ⟨h1, a, cap, rfl, h3, fun hn => ?_⟩
  obtain ⟨b, o, rfl, hc⟩ := h2 hn
  exact ⟨b, o, rfl, fun j u hu => (hk.cell (hb b rfl).1 (hb b rfl).2).trans (hc j u hu)⟩

theorem rag_keepR {lo hi : Nat} {w X : World} {v : Value} {R : List (List Int)} (h : Rag w lo v R) (hs : w.heap.size ≤ hi) (hk : KeepR lo hi w X) : SeesLL X v R := by
  obtain ⟨gs, h1, h2, h3, h4⟩ := h
  refine ⟨_, by simp, sees_keepR (Sees.owns h2) (fun b e => by have := own_block_lt h2 e; omega) hk, fun i hi => ?_⟩
  have e1 : ((List.range R.length).map fun i => sl (R.getD i []).length (gs.getD i (0, 0))).getD i undef = sl (R.getD i []).length (gs.getD i (0, 0)) := by
    rw [List.getD_eq_getElem?_getD, List.getElem?_map, List.getElem?_range hi]; rfl
  rw [e1]
  exact sees_keepR (Sees.owns (h3 i hi)) (fun b e => by have := own_block_lt (h3 i hi) e; omega) hk

theorem keepR_own {lo hi B : Nat} {w : World} (hw : hi ≤ w.heap.size) (hB : hi ≤ B) : OwnFrom B (fun (_ : List Nat) X => KeepR lo hi w X) := fun s A C row hs hg hr =>
  ⟨fun k h1 h2 => (hg.block k (by have := hs.2; omega) (fun e => by have := (hr k e.symm).1; omega)).trans (hs.1 k h1 h2), Nat.le_trans hs.2 (World.grownBy.size hg)⟩

theorem sort_any (zs : List Int) (g c base : Nat) (w : World) (ho : w.ownsRow base 3 1 (.slice (some ⟨g, 0, none⟩) zs.length c) zs.length (vals zs)) (hz : zs.length ≤ 1048576) :
    Calls Try.prog 185 #[.slice (some ⟨g, 0, none⟩) zs.length c] w fun e w' => e = .returned (.tuple #[]) ∧ w'.ownsRow base 3 1 (.slice (some ⟨g, 0, none⟩) zs.length c) zs.length (vals (zs.mergeSort fun x y => decide (x ≤ y))) ∧ w.grownBy w' (some g) := by
  have hlt := own_block_lt ho (q := g) rfl
  rcases ho.2 with ⟨h0, _⟩ | ⟨g', c', cur, e, hb, h0, h1, h2, h3, h4⟩
  · cases h0
  · cases e
    refine (Try.slices_Sort_int g 0 c zs w (holds_of_blockI h0 (by rw [Nat.mul_one] at h4; exact h4)) hlt.2 (by omega)).mono ?_
    rintro e w' ⟨rfl, n, os, rfl⟩
    exact ⟨rfl, ownsRow_sortedI (by simp) hb h0 h1 h2 h3, grownBy_sortedI _⟩

def merged (R : List (List Int)) (so : List Nat) : List Int := (so.map (pairAt R)).flatten

theorem merged_snoc (R : List (List Int)) (so : List Nat) (x : Nat) : merged R (so ++ [x]) = merged R so ++ pairAt R x := by simp [merged]

theorem merged_range (R : List (List Int)) : ∀ j, merged R (List.range j) = pairsTo R j
  | 0 => rfl
  | j + 1 => by rw [List.range_succ, merged_snoc, merged_range R j]; rfl

theorem from_below2 {B : Nat} {X Y : World} (h : Below X.heap.size X Y) : KeepsFrom B X Y := ⟨h.size, fun k o _ hk _ => (h.block k (Array.getElem?_eq_some_iff.1 hk).1).trans hk⟩

/-- What stands behind the append and the store of a round. -/
theorem round_end {X X2 w6 : World} {base lo hi D B3 k m g6 c6 : Nat} {v : Value} {xs ys : List Value} (hbox : Boxed X B3 29 v) (hrow : X.ownsRow base 3 1 v k xs) (hG : ∀ q, v.ownBlock = some q → q < lo ∨ hi ≤ q) (hb : base ≤ B3) (h3 : B3 < lo) (hX : hi ≤ X.heap.size) (hbX : base ≤ X.heap.size) (h5 : Below X.heap.size X X2)
    (hown : w6.ownsRow base 3 1 (.slice (some ⟨g6, 0, none⟩) m c6) m ys) (hgrow : X2.grownBy w6 v.ownBlock) (hnew : NewRow X2 v (.slice (some ⟨g6, 0, none⟩) m c6)) :
    w6.cell? ⟨B3, 0, none⟩ = some v ∧ w6.frozen? ⟨B3, 0, none⟩ = false ∧ Boxed (w6.setCell ⟨B3, 0, none⟩ (.slice (some ⟨g6, 0, none⟩) m c6)) B3 29 (.slice (some ⟨g6, 0, none⟩) m c6) ∧ (w6.setCell ⟨B3, 0, none⟩ (.slice (some ⟨g6, 0, none⟩) m c6)).ownsRow base 3 1 (.slice (some ⟨g6, 0, none⟩) m c6) m ys ∧
    (∀ q, (Value.slice (some ⟨g6, 0, none⟩) m c6).ownBlock = some q → q < lo ∨ hi ≤ q) ∧ KeepsFrom D X (w6.setCell ⟨B3, 0, none⟩ (.slice (some ⟨g6, 0, none⟩) m c6)) ∧ KeepR lo hi X (w6.setCell ⟨B3, 0, none⟩ (.slice (some ⟨g6, 0, none⟩) m c6)) ∧ Below base X (w6.setCell ⟨B3, 0, none⟩ (.slice (some ⟨g6, 0, none⟩) m c6)) := by
  have hbox2 : Boxed X2 B3 29 v := (h5.block B3 hbox.lt).trans hbox
  have hrow2 := kept_call hrow h5
  have b6 : Boxed w6 B3 29 v := hbox2.kept hgrow (hbox2.not_row (by decide) hrow2)
  have hs6 := World.grownBy.size hgrow
  have hs5 := h5.size
  refine ⟨b6.cell, b6.frozen, b6.set _, hown.kept (grownBy_setCell' w6 B3 _) (.inr (b6.not_row (by decide) hown).symm), ?_, ?_, ⟨fun k h1 h2 => ?_, ?_⟩, ?_⟩
  · intro q hq
    rcases hnew with h | h
    · exact hG q (h ▸ hq)
    · have := h q hq
      right; omega
  · refine ((from_below2 h5).trans ((KeepsOthers.of_grownBy hgrow fun j o ej hj => ?_).from _)).trans ((KeepsOthers.setCell _ _ _).from _)
    rcases hrow2.2 with ⟨rfl, _⟩ | ⟨g, cap, cur, rfl, _, hgb, _⟩
    · simp [Value.ownBlock] at ej
    · obtain rfl : g = j := by simpa [Value.ownBlock] using ej
      rw [hgb] at hj; cases hj; rfl
  · rw [Below.heap_setCell _ _ _ _ (by show ¬ _ = _; simp only; omega), hgrow.block k (by omega) (fun e => by have := hG k e.symm; omega), h5.block k (by omega)]
  · have := (KeepsWalks.setCell w6 ⟨B3, 0, none⟩ (.slice (some ⟨g6, 0, none⟩) m c6)).size
    omega
  · refine ((h5.mono hbX).grown hgrow (by omega) fun j ej => ?_).setCell (p := ⟨B3, 0, none⟩) hb _
    exact (own_block_lt hrow2 ej).1

set_option maxRecDepth 100000 in
set_option maxHeartbeats 2000000 in
theorem mergePass_in (n : Nat) (hn : 3 ≤ n) (zs : List Int) (hord : Ord zs) (W : World) (v : Value) (m : Nat) (hv : Sees W v m (vals zs)) :
    CallsIn Fence.wide n Try.prog 134 #[v] W fun e w' => ∃ g c, e = .returned (.slice (some ⟨g, 0, none⟩) m c) ∧ w'.ownsRow W.heap.size 3 1 (.slice (some ⟨g, 0, none⟩) m c) m (vals (pass zs)) ∧ Below W.heap.size W w' := by
  have h1 : 1 ≤ n := by omega
  have hl : zs.length = m := by simpa using hv.1
  have hm7 : m ≤ 7 := by have := hord.2.1; omega
  have hm1 : 1 ≤ m := by have := hord.1; omega
  obtain ⟨i0, hi0, hz0, hz1, hz2⟩ := info_parts infoI
  have HI := Go.Lib.hid (And.intro hi0 (And.intro hz0 (And.intro hz1 hz2)))
  have HV := Go.Lib.hid hv
  obtain ⟨R, hR⟩ : ∃ R, rTo zs m = R := ⟨_, rfl⟩
  have CR := Go.Lib.hid (fun (W' : World) (h : Sees W' v m (vals zs)) => runsOf_any zs hord W' v m h)
  rw [hR] at CR
  have hok := rTo_ok zs m
  rw [hR] at hok
  have hpos := rTo_pos zs m
  rw [hR] at hpos
  have hsort : ∀ j, 2 * j < R.length → ((chunk R j).flatten.mergeSort fun x y => decide (x ≤ y)) = pairAt R j := fun j hj => by
    have h2 := chunk_sort hord (j := j) (by rw [hl, hR]; exact hj)
    rw [hl, hR] at h2; exact h2
  have hpass : pairsTo R ((R.length + 1) / 2) = pass zs := by unfold pass; rw [hl, hR]
  have hplen : (pass zs).length = m := by rw [pass_len]; exact hl
  have hcl : ∀ j, 2 * j < R.length → 1 ≤ tot (chunk R j) ∧ tot (chunk R j) ≤ 7 ∧ (chunk R j).length ≤ 2 ∧ ∀ i, i < (chunk R j).length → 0 < ((chunk R j).getD i []).length := fun j hj => by
    have hd0 := hpos (2 * j) hj
    have htt : tot (R.take (2 * j)) + tot (chunk R j) ≤ tot R := by
      have e1 := flat_tot (R.take (2 * j))
      have e2 := flat_tot (chunk R j)
      have e3 := flat_tot R
      have e4 : R.flatten = (R.take (2 * j)).flatten ++ ((chunk R j).flatten ++ ((R.drop (2 * j)).drop (min 2 (R.length - 2 * j))).flatten) := by
        unfold chunk
        rw [← List.flatten_append, ← List.flatten_append, List.take_append_drop, List.take_append_drop]
      have e5 := congrArg List.length e4
      rw [List.length_append, List.length_append] at e5
      omega
    unfold chunk at htt ⊢
    rw [two_of hj] at htt ⊢
    split
    · rename_i h2
      rw [if_pos h2] at htt
      refine ⟨by show 1 ≤ (R.getD (2 * j) []).length + ((R.getD (2 * j + 1) []).length + 0); omega, by omega, by simp, fun i hi => ?_⟩
      have hd1 := hpos (2 * j + 1) h2
      have : i = 0 ∨ i = 1 := by simp at hi; omega
      rcases this with rfl | rfl
      · exact hd0
      · exact hd1
    · rename_i h2
      rw [if_neg h2] at htt
      refine ⟨by show 1 ≤ (R.getD (2 * j) []).length + 0; omega, by omega, by simp, fun i hi => ?_⟩
      have : i = 0 := by simp at hi; omega
      subst this
      exact hd0
  have hK1 : 1 ≤ R.length := hok.2.2.2 hm1
  have hK7 : R.length ≤ 7 := by have := hok.1; omega
  have HM := Go.Lib.hid (And.intro hsort (And.intro hcl (And.intro hpass hplen)))
  clear hsort hcl hpass hplen hok hpos hR hl hord
  have hvlt := fun h => hv.lt (by omega : 0 < m) h
  obtain ⟨_, ad, cap, rfl, _, _⟩ := hv
  refine callsIn_of_wp_marks Try.func134 rfl trivial ?_ rfl
  simp only [Try.ntmps134, List.size_toArray, List.length_cons, List.length_nil, Nat.reduceAdd, Nat.reduceSub, Array.replicate_succ, Array.replicate_zero, List.push_toArray, List.append_toArray, List.nil_append, List.cons_append]
  gi_wp2_with (gi_at_make; refine wpListIn_make_own _ rfl _ _ 29 rfl W.heap.size 3 i0 (.int .i64 0) 1 Try.underlying29 hi0 hz0 hz1 .i64 .i64 _ m rfl rfl rfl (by rw [hz2]; omega) (by unfold maxLen; omega) (Nat.le_refl _) ?_; intro w1 hown1 hgrow1; have H1 := Go.Lib.hid (And.intro hown1 hgrow1); clear hown1 hgrow1)
  have hbox0 := Boxed.new w1 29 (.slice (some ⟨W.heap.size, 0, none⟩) 0 m)
  have hrow0 := H1.out.1.alloc (.cells #[.slice (some ⟨W.heap.size, 0, none⟩) 0 m] 29)
  have hbel0 : Below W.heap.size W (w1.alloc (.cells #[.slice (some ⟨W.heap.size, 0, none⟩) 0 m] 29)) := ((Below.refl W.heap.size W).grown H1.out.2 (Nat.le_refl _) (fun k hk => by cases hk)).alloc (World.grownBy.size H1.out.2) _
  have hgs := (own_block_lt H1.out.1 (q := W.heap.size) rfl).2
  obtain ⟨B3, hB3⟩ : ∃ B3, w1.heap.size = B3 := ⟨_, rfl⟩
  have hsz0 : (w1.alloc (.cells #[.slice (some ⟨W.heap.size, 0, none⟩) 0 m] 29)).heap.size = B3 + 1 := by rw [← hB3]; simp
  rw [hB3] at hbox0 hgs ⊢
  obtain ⟨WA, hWA⟩ : ∃ WA, w1.alloc (.cells #[.slice (some ⟨W.heap.size, 0, none⟩) 0 m] 29) = WA := ⟨_, rfl⟩
  rw [hWA] at hbox0 hrow0 hbel0 hsz0 ⊢
  have HA := Go.Lib.hid (And.intro hbox0 (And.intro hrow0 hbel0))
  clear hbox0 hrow0 hbel0 hWA hB3 H1
  refine ⟨trivial, ?_⟩
  gi_at_call 184
  refine (callsIn_wide.2 (CR.out WA (HV.out.grow HA.out.2.2))).mono ?_
  rintro e w2 ⟨a2, c2, rfl, hr2, hb2⟩
  obtain ⟨gs, _, hro, _⟩ := id hr2
  obtain ⟨g2, _, e2⟩ := own_pos hro (by omega)
  cases e2
  have hKc : R.length ≤ c2 := by
    obtain ⟨_, a, cap, e, h5, _⟩ := Sees.owns hro
    cases e; exact h5
  have HB := Go.Lib.hid (And.intro hr2 hb2)
  have hs2 := hb2.size
  rw [hsz0] at hs2
  clear hr2 hb2 hro
  gi_wp2_with fail
  refine ⟨trivial, ?_⟩
  gi_at_call 183
  refine (chunk_in Fence.wide _ g2 R.length c2 trivial rfl w2).mono ?_
  rintro e w3 ⟨rfl, rfl⟩
  have bS := (Boxed.new w2 24 (.slice (some ⟨g2, 0, none⟩) R.length c2)).alloc (.cells #[.int .i64 2] 3)
  have bN := Boxed.new (w2.alloc (.cells #[.slice (some ⟨g2, 0, none⟩) R.length c2] 24)) 3 (.int .i64 2)
  have hbl := ((Below.refl w2.heap.size w2).alloc (Nat.le_refl _) (.cells #[.slice (some ⟨g2, 0, none⟩) R.length c2] 24)).alloc (by simp) (.cells #[.int .i64 2] 3)
  simp only [World.size_alloc] at bN
  obtain ⟨Wl, hWl⟩ : ∃ Wl, (w2.alloc (.cells #[.slice (some ⟨g2, 0, none⟩) R.length c2] 24)).alloc (.cells #[.int .i64 2] 3) = Wl := ⟨_, rfl⟩
  have hszl : Wl.heap.size = w2.heap.size + 2 := by rw [← hWl]; simp
  rw [hWl] at bS bN hbl ⊢
  have hbA : Below WA.heap.size WA Wl := HB.out.2.trans (hbl.mono HB.out.2.size)
  have hboxl : Boxed Wl B3 29 (.slice (some ⟨W.heap.size, 0, none⟩) 0 m) := (hbA.block B3 HA.out.1.lt).trans HA.out.1
  have hrowl := kept_call HA.out.2.1 hbA
  have hrag : Rag Wl (B3 + 1) (.slice (some ⟨g2, 0, none⟩) R.length c2) R := by have h9 := HB.out.1.kept hbl; rw [hsz0] at h9; exact h9
  have hbW : Below W.heap.size W Wl := HA.out.2.2.trans (hbA.mono (by omega))
  have HL := Go.Lib.hid (And.intro hrag hbW)
  clear hrag hbW hbl hbA hWl
  gi_wp2_with fail
  refine range_hands rfl h1 (gf := 203) (lb := #[.pointer (some ⟨w2.heap.size, 0, none⟩), .pointer (some ⟨w2.heap.size + 1, 0, none⟩)]) rfl trivial (enters_of Try.func203 (by kernel_rfl) rfl)
    (chunks_hands (n - 1) (B3 + 1) Wl.heap.size w2.heap.size (w2.heap.size + 1) g2 R.length c2 (by omega) hK1 (by omega) hKc Wl (by omega) (by omega) (Nat.le_refl _) bS.cell bN.cell) (fun h k => h.trans k) (fun X l o o' hl _ _ _ => KeepR.put o' hl) (Below.refl _ _) (fun _ => rfl)
    (fun so X => ((∃ v, Boxed X B3 29 v ∧ X.ownsRow W.heap.size 3 1 v (merged R so).length (vals (merged R so)) ∧ (∀ q, v.ownBlock = some q → q < B3 + 1 ∨ Wl.heap.size ≤ q)) ∧ (merged R so).length ≤ 7 * so.length) ∧ KeepR (B3 + 1) Wl.heap.size Wl X ∧ Below W.heap.size Wl X)
    (fun _ _ _ => False)
    (OwnFrom.and (OwnFrom.and (Own.from (holdsRow_own W.heap.size B3 29 3 1 (fun so : List Nat => (merged R so).length) (fun so => vals (merged R so)) (fun _ v => ∀ q, v.ownBlock = some q → q < B3 + 1 ∨ Wl.heap.size ≤ q)) _) (ownFrom_pure _ _)) (OwnFrom.and (keepR_own (Nat.le_refl _) (Nat.le_refl _)) (ownFrom_below (by omega) (by omega))))
    (fun _ _ _ _ _ hs _ _ => hs) (fun x _ _ _ _ hs _ _ => hs) ⟨⟨⟨_, hboxl, hrowl, fun q hq => by simp [Value.ownBlock] at hq; omega⟩, by simp [merged]⟩, KeepR.refl _ _ _, Below.refl _ _⟩
    (fun x => { tmps := #[.slice ad m cap, undef, .slice none 0 0, .pointer (some ⟨B3, 0, none⟩), (.slice (some ⟨g2, 2 * x, none⟩) (min 2 (R.length - 2 * x)) (min 2 (R.length - 2 * x))), undef, .slice ad m cap, .int .i64 m, .slice (some ⟨W.heap.size, 0, none⟩) 0 m, .slice ad m cap, .slice (some ⟨g2, 0, none⟩) R.length c2, .func (.func 203) #[] #[.pointer (some ⟨w2.heap.size, 0, none⟩), .pointer (some ⟨w2.heap.size + 1, 0, none⟩)], (.slice (some ⟨g2, 2 * x, none⟩) (min 2 (R.length - 2 * x)) (min 2 (R.length - 2 * x))), undef, undef, undef, undef, undef, undef, undef, undef], defers := [] }) ?assign ?body ?done ?stop
  case assign =>
    intro l x X K hK
    unfold enc
    gi_wp2
    exact hK
  case body =>
    rintro l so x X ⟨⟨⟨v, hbox, hrow, hG⟩, hlen⟩, hKR, hB⟩ hx hso
    have hXs : Wl.heap.size ≤ X.heap.size := hB.size
    have hsl := sees_chunk (rag_keepR HL.out.1 (Nat.le_refl _) hKR) rfl hx
    have hcx := HM.out.2.1 x hx
    have hsx := HM.out.1 x hx
    have cc := concat_any (chunk R x) X _ hsl (by omega) hcx.2.2.2 (by omega)
    obtain ⟨fl, hfl⟩ : ∃ fl, (chunk R x).flatten = fl := ⟨_, rfl⟩
    have hft := flat_tot (chunk R x)
    rw [hfl] at hft hsx cc
    rw [← hft] at hcx cc
    have CC := Go.Lib.hid cc
    have hpl : (pairAt R x).length = fl.length := by rw [← hsx]; simp
    obtain ⟨_, va, vc, rfl, _, _⟩ := Sees.owns hrow
    have hfl1 : 1 ≤ fl.length := hcx.1
    have hfl7 : fl.length ≤ 7 := hcx.2.1
    obtain ⟨L0, hL0⟩ : ∃ L0, merged R so = L0 := ⟨_, rfl⟩
    have hms := merged_snoc R so x
    rw [hL0] at hrow hbox hlen hms hG
    obtain ⟨P, hP⟩ : ∃ P, pairAt R x = P := ⟨_, rfl⟩
    rw [hP] at hms hsx hpl
    have HX := Go.Lib.hid (And.intro hbox (And.intro hrow (And.intro hG (And.intro hKR (And.intro hB (And.intro hms hsx))))))
    have hL7 : L0.length ≤ 56 := by omega
    have HLN := Go.Lib.hid hlen
    clear hbox hrow hG hKR hB hms hsx hcx hft hfl cc hsl hlen hL0 hP
    have h2n : 1 ≤ n - 1 - 1 := by omega
    gi_wp2_with fail
    refine ⟨trivial, ?_⟩
    gi_at_call 179
    refine (CallsIn.inRound l (callsIn_wide.2 CC.out)).mono ?_
    rintro e X1 ⟨g4, c4, rfl, ho4, hb4⟩
    have CS := Go.Lib.hid (sort_any fl g4 c4 X.heap.size X1 ho4 (by omega))
    have H4 := Go.Lib.hid (And.intro ho4 hb4)
    clear ho4 hb4 CC
    gi_wp2_with fail
    refine ⟨trivial, ?_⟩
    gi_at_call 185
    refine (CallsIn.inRound l (callsIn_wide.2 CS.out)).mono ?_
    rintro e X2 ⟨rfl, ho5, hg5⟩
    rw [HX.out.2.2.2.2.2.2] at ho5
    have hb5 : Below X.heap.size X X2 := Below.grown H4.out.2 hg5 H4.out.2.size (fun k hk => by cases hk; exact (own_block_lt H4.out.1 rfl).1)
    have hbox2 : Boxed X2 B3 29 (.slice va L0.length vc) := (hb5.block B3 HX.out.1.lt).trans HX.out.1
    have hc3 := hbox2.cell
    have H5 := Go.Lib.hid (And.intro ho5 hb5)
    have hszx := hb5.size
    clear ho5 hb5 hg5 hbox2 CS
    gi_wp2_with (gi_at_builtin; refine wpListIn_append_two _ rfl _ _ 29 rfl W.heap.size 3 i0 (.int .i64 0) 1 8 Try.underlying29 HI.out.1 HI.out.2.1 HI.out.2.2.1 HI.out.2.2.2 rfl (by decide) (.slice va L0.length vc) L0.length (vals L0) rfl (kept_call HX.out.2.1 H5.out.2) ⟨g4, 0, none⟩ fl.length c4 (vals P) rfl (by simp [hpl]) (fun j u hu => H5.out.1.cells (g := g4) rfl j u hu) (fun u hu => by obtain ⟨y, _, rfl⟩ := List.mem_map.1 hu; rfl) (by unfold maxLen; omega) (by omega) (by omega) ?_; intro v' w6 hown6 hgrow6 hnew6; obtain ⟨g6, c6, rfl⟩ := own_pos hown6 (by omega); have hre := round_end (D := Wl.heap.size) (lo := B3 + 1) (hi := Wl.heap.size) HX.out.1 HX.out.2.1 HX.out.2.2.1 (by omega) (by omega) hXs (by omega) H5.out.2 hown6 hgrow6 hnew6; have hc6 := hre.1; have hf6 := hre.2.1; have HR6 := Go.Lib.hid hre.2.2; clear hre hown6 hgrow6 hnew6)
    refine ⟨HR6.out.2.2.2.1, HR6.out.2.2.2.2.1, ⟨⟨_, ?_, ?_, HR6.out.2.2.1⟩, ?_⟩, HX.out.2.2.2.1.trans HR6.out.2.2.2.2.1, HX.out.2.2.2.2.1.trans HR6.out.2.2.2.2.2⟩
    · exact HR6.out.1
    · rw [HX.out.2.2.2.2.2.1, List.length_append, hpl]
      have e9 : vals (L0 ++ P) = vals L0 ++ vals P := List.map_append
      rw [e9]
      exact HR6.out.2.1
    · rw [HX.out.2.2.2.2.2.1, List.length_append, List.length_append, hpl]
      have := HLN.out
      simp
      omega
  case done =>
    rintro D ys X hD rfl ⟨⟨⟨v, hbox, hrow, hG⟩, hlen⟩, hKR, hB⟩ hK
    rw [merged_range, HM.out.2.2.1, HM.out.2.2.2] at hrow
    obtain ⟨g, c, rfl⟩ := own_pos hrow hm1
    have hc := hbox.cell
    have HF := Go.Lib.hid (And.intro hrow hB)
    clear hbox hrow hG hlen hKR hB
    gi_wp2
    refine ⟨by simp, .inl ⟨_, _, rfl, run_takeDeferred hK, ?_⟩⟩
    exact ⟨_, results_tmp rfl _ _ _, g, c, rfl, ownsRow_putObj HF.out.1 _ hK rfl, HL.out.2.trans (HF.out.2.trans (belowK_b (w := Wl) (by omega) X D _ _ (by omega) hK rfl rfl))⟩
  case stop =>
    rintro D c so X _ _ h _
    exact h.elim

theorem mergePass_any (zs : List Int) (hord : Ord zs) (W : World) (v : Value) (m : Nat) (hv : Sees W v m (vals zs)) :
    Calls Try.prog 134 #[v] W fun e w' => ∃ g c, e = .returned (.slice (some ⟨g, 0, none⟩) m c) ∧ w'.ownsRow W.heap.size 3 1 (.slice (some ⟨g, 0, none⟩) m c) m (vals (pass zs)) ∧ Below W.heap.size W w' :=
  callsIn_wide.1 (mergePass_in 3 (by omega) zs hord W v m hv)

end Go.Proofs.Ytecbfoodkcgehab.MergeIC

/-
  Contracts: MergePass and CountPasses of the model. Conditions: lists of at most 2^20 numbers.
-/
namespace Go.Proofs.Ytecbfoodkcgehab.PassPC
open Go.RowKit SeesC IntsC ExactC OrdMath InC OrderC ListsC ListsEC ListsFC LLC RagMarkC RagResC QueM PassM RunSC PassSC

set_option maxRecDepth 100000 in
set_option maxHeartbeats 2000000 in
theorem specMerge (zs : List Int) (xs : List Int) (b : Bool) (h : passAns zs = (xs, b)) (hz : zs.length ≤ 1048576) (W : World) (v : Value) (n : Nat) (hv : Sees W v n (vals zs)) :
    Calls Try.prog 58 #[v] W fun e w' => ListTo W e w' xs b := by
  have hl : zs.length = n := by simpa using hv.1
  have hn : n ≤ 1048576 := by omega
  obtain ⟨r, hr⟩ : ∃ r, isOrd zs = r := ⟨_, rfl⟩
  have CO := Go.Lib.hid (fun W' (hs' : Sees W' v n (vals zs)) => l2Order_any W' v n zs r hs' hn hr)
  have HV := Go.Lib.hid hv
  unfold passAns at h
  obtain ⟨_, ad, cap, rfl, _, _⟩ := hv
  cases r with
  | false =>
    rw [if_neg (by intro h1; unfold isOrd at hr; exact of_decide_eq_false hr h1)] at h
    cases h
    clear hr
    go_enter Try.func58, Try.ntmps58
    go_wp2_with fail
    refine (CO.out _ HV.out).mono ?_
    rintro e w1 ⟨rfl, hd⟩
    have HB1 : Hid (Below W.heap.size W w1) := Go.Lib.hid (hd.below _)
    clear hd
    go_wp2_with fail
    go_ret2
    exact listTo_below HB1.out (listTo_none _ _)
  | true =>
    have hord : Ord zs := by unfold isOrd at hr; exact of_decide_eq_true hr
    rw [if_pos hord] at h
    cases h
    clear hr
    have CQ := Go.Lib.hid (fun W' (hs' : Sees W' (.slice ad n cap) n (vals zs)) => l5Pass_any zs hord W' (.slice ad n cap) n hs')
    have hpl : (pass zs).length = n := by rw [pass_len]; exact hl
    clear hl hn hz
    obtain ⟨L, hL⟩ : ∃ L, pass zs = L := ⟨_, rfl⟩
    rw [hL] at CQ hpl ⊢
    clear hL
    have HPL := Go.Lib.hid hpl
    clear hpl
    go_enter Try.func58, Try.ntmps58
    go_wp2_with fail
    refine (CO.out _ HV.out).mono ?_
    rintro e w1 ⟨rfl, hd⟩
    have HB1 : Hid (Below W.heap.size W w1) := Go.Lib.hid (hd.below _)
    clear hd
    go_wp2_with fail
    refine (CQ.out _ (HV.out.grow HB1.out)).mono ?_
    rintro e w2 ⟨a2, c2, rfl, hr2, hb2⟩
    have H2 := Go.Lib.hid (And.intro (own_lower hr2 HB1.out.size) (HB1.out.trans (hb2.mono HB1.out.size)))
    clear hr2 hb2
    go_wp2_with fail
    go_ret2
    refine ⟨_, rfl, ?_, H2.out.2⟩
    rw [HPL.out]
    exact H2.out.1

theorem passes_step {f : Nat} {ys : List Int} (h : 1 < (rTo ys ys.length).length) : passes (f + 1) ys = passes f (pass ys) + 1 := by
  show (if (rTo ys ys.length).length ≤ 1 then 0 else passes f (pass ys) + 1) = _
  rw [if_neg (by omega)]

theorem passes_one {f : Nat} {ys : List Int} (h : ¬ 1 < (rTo ys ys.length).length) : passes f ys = 0 := by
  cases f with
  | zero => rfl
  | succ f =>
    show (if (rTo ys ys.length).length ≤ 1 then 0 else passes f (pass ys) + 1) = _
    rw [if_pos (by omega)]

theorem rTo_short (zs : List Int) : ∀ k, (rTo zs k).length ≤ k
  | 0 => by simp [rTo]
  | k + 1 => by
    have ih := rTo_short zs k
    have h := putL_le (rTo zs k) (runAt zs (rTo zs k) k) (zs.getD k 0)
    show (putL _ _ _).length ≤ k + 1
    omega

set_option maxRecDepth 100000 in
set_option maxHeartbeats 4000000 in
theorem specPasses (zs : List Int) (r : Int) (b : Bool) (h : passesAns zs = (r, b)) (hz : zs.length ≤ 1048576) (W : World) (v : Value) (n : Nat) (hv : Sees W v n (vals zs)) :
    Calls Try.prog 60 #[v] W fun e w' => e = .returned (.tuple #[.int .i64 r, .bool b]) ∧ Below W.heap.size W w' := by
  have hl : zs.length = n := by simpa using hv.1
  have hn : n ≤ 1048576 := by omega
  obtain ⟨rr, hr⟩ : ∃ rr, isOrd zs = rr := ⟨_, rfl⟩
  have CO := Go.Lib.hid (l2Order_any W v n zs rr hv hn hr)
  unfold passesAns at h
  cases rr with
  | false =>
    rw [if_neg (by intro h1; unfold isOrd at hr; exact of_decide_eq_false hr h1)] at h
    cases h
    clear hr
    obtain ⟨_, ad, cap, rfl, _, _⟩ := hv
    go_enter Try.func60, Try.ntmps60
    go_wp2_with fail
    refine (CO.out).mono ?_
    rintro e w1 ⟨rfl, hd⟩
    have HB1 : Hid (Below W.heap.size W w1) := Go.Lib.hid (hd.below _)
    clear hd
    go_wp2_with fail
    go_ret2
    exact ⟨rfl, HB1.out⟩
  | true =>
    have hord : Ord zs := by unfold isOrd at hr; exact of_decide_eq_true hr
    rw [if_pos hord] at h
    cases h
    clear hr
    have hn7 : n ≤ 7 := by have := hord.2.1; omega
    have HO := Go.Lib.hid (And.intro hord hl)
    have HV := Go.Lib.hid hv
    obtain ⟨_, av, cv, rfl, _, _⟩ := hv
    have hr0 : (rTo zs zs.length).length ≤ 7 + 1 := by have := rTo_short zs zs.length; omega
    have HR0 := Go.Lib.hid hr0
    clear hr0
    go_enter Try.func60, Try.ntmps60
    go_wp2_with fail
    refine (CO.out).mono ?_
    rintro e w1 ⟨rfl, hd⟩
    have HB1 : Hid (Below W.heap.size W w1) := Go.Lib.hid (hd.below _)
    clear hd hord hl CO
    go_wp2_with fail
    go_loopw [4, 5] (fun mv nv wr => ∃ (m f c : Nat) (a : Option Addr) (ys : List Int), m + f = 7 ∧ mv = .int .i64 m ∧ nv = .slice a n c ∧ Hid (Ord ys ∧ ys.length = n ∧ Sees wr (.slice a n c) n (vals ys) ∧ passes 7 zs = m + passes f ys ∧ (rTo ys ys.length).length ≤ f + 1 ∧ Below W.heap.size W wr)) (fun m _ _ => 7 - (intOf m).toNat)
    case atStart => exact ⟨0, 7, _, _, zs, rfl, rfl, rfl, Go.Lib.hid ⟨HO.out.1, HO.out.2, HV.out.grow HB1.out, by omega, HR0.out, HB1.out⟩⟩
    case round =>
      obtain ⟨m, f, cc, aa, ys, hmf, rfl, rfl, HX⟩ := hrel
      obtain ⟨wo, rfl⟩ : ∃ wo, wo = wr := ⟨_, rfl⟩
      obtain ⟨L, hL⟩ : ∃ L, rTo ys n = L := ⟨_, rfl⟩
      obtain ⟨R, hR⟩ : ∃ R, L.length = R := ⟨_, rfl⟩
      have DR := l5Runs_any ys HX.out.1 wo (.slice aa n cc) n HX.out.2.2.1
      rw [hL] at DR
      unfold LTo at DR
      rw [hR] at DR
      have CR := Go.Lib.hid DR
      have CP := Go.Lib.hid (fun (X : World) (hX : Below wo.heap.size wo X) => l5Pass_any ys HX.out.1 X (.slice aa n cc) n (HX.out.2.2.1.grow hX))
      have hlen : (rTo ys ys.length).length = R := by rw [HX.out.2.1, hL, hR]
      have HLEN := Go.Lib.hid hlen
      have hszo := HX.out.2.2.2.2.2.size
      clear DR hL hR hlen HB1
      go_wp2_with fail
      refine (CR.out).mono ?_
      rintro e w2 ⟨a2, c2, rfl, hr2, hb2⟩
      have H2 := Go.Lib.hid hb2
      clear hr2 hb2 CR
      by_cases h1 : 1 < R
      · have h1i : (1 : Int) < (R : Int) := by omega
        obtain ⟨f', rfl⟩ : ∃ f', f = f' + 1 := ⟨f - 1, by have h3 := HX.out.2.2.2.2.1; rw [HLEN.out] at h3; omega⟩
        go_wp2_with fail
        refine (CP.out w2 H2.out).mono ?_
        rintro e w3 ⟨g3, c3, rfl, ho3, hb3⟩
        have H3 : Hid (Ord (pass ys) ∧ (pass ys).length = n ∧ Sees w3 (.slice (some ⟨g3, 0, none⟩) n c3) n (vals (pass ys)) ∧ passes 7 zs = (m + 1) + passes f' (pass ys) ∧ (rTo (pass ys) (pass ys).length).length ≤ f' + 1 ∧ Below W.heap.size W w3) := Go.Lib.hid (by
          have hp := pass_less HX.out.1
          have h3 := HX.out.2.2.2.2.1
          have h4 := HX.out.2.2.2.1
          rw [HLEN.out] at hp h3
          have h6 := passes_step (f := f') (ys := ys) (by rw [HLEN.out]; exact h1)
          rw [h6] at h4
          refine ⟨pass_ord HX.out.1, by rw [pass_len]; exact HX.out.2.1, Sees.owns ho3, ?_, by omega, HX.out.2.2.2.2.2.trans ((H2.out.trans (hb3.mono H2.out.size)).mono hszo)⟩
          omega)
        clear ho3 hb3
        go_wp2_with fail
        go_roundw
        case rel => exact ⟨m + 1, f', c3, _, pass ys, by omega, by go_num, rfl, H3⟩
        case measure => simp [intOf]; omega
      · have h1i : ¬ (1 : Int) < (R : Int) := by omega
        have HF : Hid (passes 7 zs = m ∧ Below W.heap.size W w2) := Go.Lib.hid (by
          refine ⟨?_, HX.out.2.2.2.2.2.trans (H2.out.mono hszo)⟩
          rw [HX.out.2.2.2.1]
          rw [passes_one (f := f) (ys := ys) (by rw [HLEN.out]; exact h1)]
          rfl)
        go_wp2_with fail
        go_ret2
        refine ⟨?_, HF.out.2⟩
        rw [HF.out.1]
        rfl

end Go.Proofs.Ytecbfoodkcgehab.PassPC

/-
  Contracts: CountSweeps of the model and of the program. Conditions: lists of at most 2^20 numbers.
-/
namespace Go.Proofs.Ytecbfoodkcgehab.CountSwC
open Go.RowKit SeesC IntsC ExactC NumC IterC OrdMath WordMath InC OrderC OrdFacts WordC RunC AtC EndsM SweepM StackM SweepWC SweepIC SameC SweepsC UntilC

set_option maxRecDepth 100000 in
set_option maxHeartbeats 2000000 in
theorem specSweeps (zs : List Int) (r' : Int) (b : Bool) (h : sweepsAns zs = (r', b)) (hz : zs.length ≤ 1048576) (W : World) (v : Value) (n : Nat) (hv : Sees W v n (vals zs)) :
    Calls Try.prog 86 #[v] W fun e w' => e = .returned (.tuple #[.int .i64 r', .bool b]) ∧ Below W.heap.size W w' := by
  have hl : zs.length = n := by simpa using hv.1
  have hn : n ≤ 1048576 := by omega
  obtain ⟨r, hr⟩ : ∃ r, isOrd zs = r := ⟨_, rfl⟩
  have CO := Go.Lib.hid (fun W' (hs' : Sees W' v n (vals zs)) => l2Order_any W' v n zs r hs' hn hr)
  have HV := Go.Lib.hid hv
  unfold sweepsAns at h
  obtain ⟨_, ad, cap, rfl, _, _⟩ := hv
  cases r with
  | false =>
    rw [if_neg (by intro h1; unfold isOrd at hr; exact of_decide_eq_false hr h1)] at h
    cases h
    clear hr
    go_enter Try.func86, Try.ntmps86
    go_wp2_with fail
    refine (CO.out _ HV.out).mono ?_
    rintro e w1 ⟨rfl, hd⟩
    have HB1 : Hid (Below W.heap.size W w1) := Go.Lib.hid (hd.below W.heap.size)
    clear hd
    go_wp2_with fail
    go_ret2
    exact ⟨rfl, HB1.out⟩
  | true =>
    have hord : Ord zs := by unfold isOrd at hr; exact of_decide_eq_true hr
    have hn7 : n ≤ 7 := by have := hord.2.1; omega
    have hn1 : 1 ≤ n := by have := hord.1; omega
    rw [if_pos hord] at h
    cases h
    clear hr
    obtain ⟨M, hM⟩ : ∃ M, many zs = M := ⟨_, rfl⟩
    have hmi := many_is hord
    rw [hM] at hmi
    rw [hM]
    have HMI := Go.Lib.hid hmi
    have HORD := Go.Lib.hid (fun k => ord_swN hord k)
    have hM7 : M ≤ 7 := by omega
    clear hM hmi
    go_enter Try.func86, Try.ntmps86
    go_wp2_with fail
    refine (CO.out _ HV.out).mono ?_
    rintro e w1 ⟨rfl, hd⟩
    have HB1 : Hid (Below W.heap.size W w1) := Go.Lib.hid (hd.below W.heap.size)
    clear hd
    have HV1 := Go.Lib.hid (HV.out.grow HB1.out)
    obtain ⟨b, o, cap2, heq, _, _, hbl, hcell⟩ := sees_cells HV1.out (by omega)
    cases heq
    have HC := Go.Lib.hid hcell
    have CO := Go.Lib.hid (Own1C.l1Own_any zs b o n cap w1 hl (by omega) hcell)
    have CS := Go.Lib.hid (fun W' => l2Sorted_any n W' hn7)
    clear hcell
    go_wp2_with fail
    refine CO.out.mono ?_
    rintro e w2 ⟨g, c, rfl, ho, hb⟩
    have H2 := Go.Lib.hid (And.intro (own_lower ho HB1.out.size) (HB1.out.trans (hb.mono HB1.out.size)))
    clear ho hb
    go_wp2_with fail
    go_loopw [4, 5] (fun mv nv wr => ∃ (k g c : Nat), mv = .int .i64 k ∧ nv = .slice (some ⟨g, 0, none⟩) n c ∧ k ≤ M ∧ Hid (wr.ownsRow W.heap.size 3 1 (.slice (some ⟨g, 0, none⟩) n c) n (vals (swN zs k)) ∧ Below W.heap.size W wr)) (fun mv _ _ => M - (intOf mv).toNat)
    case atStart => exact ⟨0, g, c, rfl, rfl, Nat.zero_le _, H2⟩
    case round =>
      obtain ⟨k, g, c, rfl, rfl, hk, HK⟩ := hrel
      clear H2
      have HSL : Hid ((swN zs k).length = n) := Go.Lib.hid (by rw [swN_len, hl])
      obtain ⟨r, hr⟩ : ∃ r, decide (swN zs k = iota n) = r := ⟨_, rfl⟩
      have HRR := Go.Lib.hid hr
      go_wp2_with fail
      refine (CS.out _).mono ?_
      rintro e w3 ⟨g3, c3, rfl, ho, hb⟩
      have H3 := Go.Lib.hid (And.intro (kept_call HK.out.1 hb) (And.intro (HK.out.2.trans (hb.mono HK.out.2.size)) ho))
      clear ho hb
      go_wp2_with fail
      refine (l1Same_any (swN zs k) (iota n) r w3 _ n (Sees.owns H3.out.1) _ (Sees.owns H3.out.2.2) (by omega) hr).mono ?_
      rintro e w4 ⟨rfl, hd⟩
      have H4 := Go.Lib.hid (And.intro (kept_call H3.out.1 (hd.below w3.heap.size)) (H3.out.2.1.trans (hd.below _)))
      clear hd hr
      by_cases hkM : k < M
      · have hrf : r = false := by
          rw [← HRR.out, decide_eq_false_iff_not]
          have h1 := HMI.out.2.1 k hkM
          rw [hl] at h1
          exact h1
        subst hrf
        have CW := Go.Lib.hid (l4Sweep_any (swN zs k) (HORD.out k) w4 _ n (Sees.owns H4.out.1))
        go_wp2_with fail
        refine CW.out.mono ?_
        rintro e w5 ⟨u, rfl, ho, hb⟩
        have hsl : (sweepL (swN zs k)).length = n := by rw [sweep_len]; exact HSL.out
        rw [hsl] at ho
        obtain ⟨g5, c5, rfl⟩ := own_pos ho (by omega)
        have H5 : Hid (w5.ownsRow W.heap.size 3 1 (.slice (some ⟨g5, 0, none⟩) n c5) n (vals (swN zs (k + 1))) ∧ Below W.heap.size W w5) := Go.Lib.hid ⟨own_lower ho H4.out.2.size, H4.out.2.trans (hb.mono H4.out.2.size)⟩
        clear ho hb hsl
        go_wp2
        go_roundw
        case rel => exact ⟨k + 1, g5, c5, by go_num, rfl, by omega, H5⟩
        case measure => simp [intOf]; omega
      · have hkM2 : k = M := by omega
        subst hkM2
        have hrt : r = true := by
          rw [← HRR.out, decide_eq_true_iff]
          have h1 := HMI.out.1
          rw [hl] at h1
          exact h1
        subst hrt
        go_wp2_with fail
        go_ret2
        exact ⟨rfl, H4.out.2⟩

theorem sweepStep : StepTo sweepL 159 := fun ys ho W v n hv => (sweepOf_any ys ho W v n hv).mono fun e w' ⟨u, he, hown, hb⟩ => by
  have hl : ys.length = n := by simpa using hv.1
  have hs : (sweepL ys).length = n := by rw [sweep_len]; exact hl
  rw [hs] at hown
  obtain ⟨g, c, rfl⟩ := own_pos hown (by have := ho.1; omega)
  exact ⟨g, c, he, hown, hb⟩

set_option maxRecDepth 100000 in
theorem until_sweeps (zs : List Int) (hord : Ord zs) (W : World) (v : Value) (n : Nat) (hv : Sees W v n (vals zs)) :
    Calls Try.prog 136 #[v, .func (.func 159) #[] #[]] W fun e w' => e = .returned (.int .i64 ((many zs : Nat) : Int)) ∧ Below W.heap.size W w' := by
  have hl : zs.length = n := by simpa using hv.1
  have hm := many_is hord
  rw [hl] at hm
  exact until_any sweepL _ (fun _ _ => rfl) sweepStep (swN zs) n (many zs) (fun _ => rfl) (ord_swN hord) (fun k => by rw [swN_len, hl]) (by have := hord.2.1; omega) ⟨hm.1, hm.2.1⟩ W v hv

set_option maxRecDepth 100000 in
set_option maxHeartbeats 1000000 in
theorem implSweeps (zs : List Int) (r' : Int) (b : Bool) (h : sweepsAns zs = (r', b)) (hz : zs.length ≤ 1048576) (W : World) (v : Value) (n : Nat) (hv : Sees W v n (vals zs)) :
    Calls Try.prog 87 #[v] W fun e w' => e = .returned (.tuple #[.int .i64 r', .bool b]) ∧ Below W.heap.size W w' := by
  have hl : zs.length = n := by simpa using hv.1
  have hn : n ≤ 1048576 := by omega
  obtain ⟨r, hr⟩ : ∃ r, isOrd zs = r := ⟨_, rfl⟩
  have CO := Go.Lib.hid (fun W' (hs' : Sees W' v n (vals zs)) => implOrder_any W' v n zs r hs' hn hr)
  have HV := Go.Lib.hid hv
  unfold sweepsAns at h
  obtain ⟨_, ad, cap, rfl, _, _⟩ := hv
  cases r with
  | false =>
    rw [if_neg (by intro h1; unfold isOrd at hr; exact of_decide_eq_false hr h1)] at h
    cases h
    clear hr
    go_enter Try.func87, Try.ntmps87
    go_wp2_with fail
    refine (CO.out _ HV.out).mono ?_
    rintro e w1 ⟨rfl, hd⟩
    have HB1 : Hid (Below W.heap.size W w1) := Go.Lib.hid hd
    clear hd
    go_wp2_with fail
    go_ret2
    exact ⟨rfl, HB1.out⟩
  | true =>
    have hord : Ord zs := by unfold isOrd at hr; exact of_decide_eq_true hr
    rw [if_pos hord] at h
    cases h
    clear hr
    have CQ := Go.Lib.hid (fun W' (hs' : Sees W' (.slice ad n cap) n (vals zs)) => until_sweeps zs hord W' (.slice ad n cap) n hs')
    obtain ⟨M, hM⟩ : ∃ M, many zs = M := ⟨_, rfl⟩
    rw [hM] at CQ ⊢
    clear hM hl hn hz hord
    go_enter Try.func87, Try.ntmps87
    go_wp2_with fail
    refine (CO.out _ HV.out).mono ?_
    rintro e w1 ⟨rfl, hd⟩
    have HB1 : Hid (Below W.heap.size W w1) := Go.Lib.hid hd
    clear hd
    go_wp2_with fail
    refine (CQ.out _ (HV.out.grow HB1.out)).mono ?_
    rintro e w2 ⟨rfl, hb2⟩
    have H2 := Go.Lib.hid (HB1.out.trans (hb2.mono HB1.out.size))
    clear hb2
    go_wp2_with fail
    go_ret2
    exact ⟨rfl, H2.out⟩

end Go.Proofs.Ytecbfoodkcgehab.CountSwC

/-
  Contracts: MergePass and CountPasses of the program. Conditions: lists of at most 2^20 numbers.
-/
namespace Go.Proofs.Ytecbfoodkcgehab.PassIC
open Go.RowKit SeesC IntsC ExactC NumC IterC OrdMath InC OrderC OrdFacts ListsC QueM PassM SweepM RunIC PassSC MergeIC UntilC

theorem one_iota {zs : List Int} (h : Ord zs) : (rTo zs zs.length).length ≤ 1 ↔ zs = iota zs.length := by
  constructor
  · intro h1
    have h2 := rTo_flat zs zs.length (Nat.le_refl _)
    have h3 := (rTo_ok zs zs.length).2.2.2 (by have := h.1; omega)
    have h4 := run_asc h (i := 0) (by omega)
    obtain ⟨a, ha⟩ := List.length_eq_one_iff.1 (show (rTo zs zs.length).length = 1 by omega)
    rw [ha] at h2 h4
    rw [List.take_of_length_le (Nat.le_refl _)] at h2
    have h5 : a = zs := by simpa using h2
    subst h5
    exact sorted_is (ord_perm h) h4
  · intro h1
    rw [runs_one h]
    intro k hk
    have h2 : zs.Pairwise (· < ·) := by rw [h1]; exact iota_sorted _
    have := sorted_getD h2 (i := k) (j := k + 1) (by omega) hk
    omega

/-- So many passes. -/
def psN (zs : List Int) : Nat → List Int
  | 0 => zs
  | k + 1 => pass (psN zs k)

theorem psN_shift (zs : List Int) : ∀ k, psN (pass zs) k = psN zs (k + 1)
  | 0 => rfl
  | k + 1 => by show pass (psN (pass zs) k) = pass (psN zs (k + 1)); rw [psN_shift zs k]

theorem psN_ord {zs : List Int} (h : Ord zs) : ∀ k, Ord (psN zs k)
  | 0 => h
  | k + 1 => pass_ord (psN_ord h k)

theorem psN_len (zs : List Int) : ∀ k, (psN zs k).length = zs.length
  | 0 => rfl
  | k + 1 => by show (pass (psN zs k)).length = _; rw [pass_len, psN_len zs k]

theorem passes_is : ∀ (f : Nat) (zs : List Int), Ord zs → (rTo zs zs.length).length ≤ f + 1 → psN zs (passes f zs) = iota zs.length ∧ (∀ j, j < passes f zs → psN zs j ≠ iota zs.length) ∧ passes f zs ≤ f
  | 0, zs, ho, h => ⟨(one_iota ho).1 h, fun j hj => absurd hj (by simp [passes]), Nat.le_refl _⟩
  | f + 1, zs, ho, h => by
    unfold passes
    by_cases h1 : (rTo zs zs.length).length ≤ 1
    · rw [if_pos h1]
      exact ⟨(one_iota ho).1 h1, fun j hj => absurd hj (by omega), by omega⟩
    · rw [if_neg h1]
      have h3 := pass_less ho
      obtain ⟨i1, i2, i3⟩ := passes_is f (pass zs) (pass_ord ho) (by omega)
      rw [pass_len] at i1 i2
      refine ⟨by rw [← psN_shift]; exact i1, fun j hj => ?_, by omega⟩
      cases j with
      | zero => exact fun e => h1 ((one_iota ho).2 e)
      | succ j => rw [← psN_shift]; exact i2 j (by omega)

theorem mergeStep : StepTo pass 134 := fun ys ho W v n hv => mergePass_any ys ho W v n hv

set_option maxRecDepth 100000 in
theorem until_passes (zs : List Int) (hord : Ord zs) (W : World) (v : Value) (n : Nat) (hv : Sees W v n (vals zs)) :
    Calls Try.prog 136 #[v, .func (.func 134) #[] #[]] W fun e w' => e = .returned (.int .i64 ((passes 7 zs : Nat) : Int)) ∧ Below W.heap.size W w' := by
  have hl : zs.length = n := by simpa using hv.1
  have hm := passes_is 7 zs hord (by have := (rTo_ok zs zs.length).1; have := hord.2.1; omega)
  rw [hl] at hm
  exact until_any pass _ (fun _ _ => rfl) mergeStep (psN zs) n (passes 7 zs) (fun _ => rfl) (psN_ord hord) (fun k => by rw [psN_len, hl]) (by omega) ⟨hm.1, hm.2.1⟩ W v hv

set_option maxRecDepth 100000 in
set_option maxHeartbeats 1000000 in
theorem implMerge (zs : List Int) (xs : List Int) (b : Bool) (h : passAns zs = (xs, b)) (hz : zs.length ≤ 1048576) (W : World) (v : Value) (n : Nat) (hv : Sees W v n (vals zs)) :
    Calls Try.prog 59 #[v] W fun e w' => ListTo W e w' xs b := by
  have hl : zs.length = n := by simpa using hv.1
  have hn : n ≤ 1048576 := by omega
  obtain ⟨r, hr⟩ : ∃ r, isOrd zs = r := ⟨_, rfl⟩
  have CO := Go.Lib.hid (fun W' (hs' : Sees W' v n (vals zs)) => implOrder_any W' v n zs r hs' hn hr)
  have HV := Go.Lib.hid hv
  unfold passAns at h
  obtain ⟨_, ad, cap, rfl, _, _⟩ := hv
  cases r with
  | false =>
    rw [if_neg (by intro h1; unfold isOrd at hr; exact of_decide_eq_false hr h1)] at h
    cases h
    clear hr
    go_enter Try.func59, Try.ntmps59
    go_wp2_with fail
    refine (CO.out _ HV.out).mono ?_
    rintro e w1 ⟨rfl, hd⟩
    have HB1 : Hid (Below W.heap.size W w1) := Go.Lib.hid hd
    clear hd
    go_wp2_with fail
    go_ret2
    exact listTo_below HB1.out (listTo_none _ _)
  | true =>
    have hord : Ord zs := by unfold isOrd at hr; exact of_decide_eq_true hr
    rw [if_pos hord] at h
    cases h
    clear hr
    have CQ := Go.Lib.hid (fun W' (hs' : Sees W' (.slice ad n cap) n (vals zs)) => mergePass_any zs hord W' (.slice ad n cap) n hs')
    have hpl : (pass zs).length = n := by rw [pass_len]; exact hl
    obtain ⟨L, hL⟩ : ∃ L, pass zs = L := ⟨_, rfl⟩
    rw [hL] at CQ hpl ⊢
    have HPL := Go.Lib.hid hpl
    clear hL hl hn hz hord hpl
    go_enter Try.func59, Try.ntmps59
    go_wp2_with fail
    refine (CO.out _ HV.out).mono ?_
    rintro e w1 ⟨rfl, hd⟩
    have HB1 : Hid (Below W.heap.size W w1) := Go.Lib.hid hd
    clear hd
    go_wp2_with fail
    refine (CQ.out _ (HV.out.grow HB1.out)).mono ?_
    rintro e w2 ⟨g2, c2, rfl, hr2, hb2⟩
    have H2 := Go.Lib.hid (And.intro (own_lower hr2 HB1.out.size) (HB1.out.trans (hb2.mono HB1.out.size)))
    clear hr2 hb2
    go_wp2_with fail
    go_ret2
    refine ⟨_, rfl, ?_, H2.out.2⟩
    rw [HPL.out]
    exact H2.out.1

set_option maxRecDepth 100000 in
set_option maxHeartbeats 1000000 in
theorem implPasses (zs : List Int) (r' : Int) (b : Bool) (h : passesAns zs = (r', b)) (hz : zs.length ≤ 1048576) (W : World) (v : Value) (n : Nat) (hv : Sees W v n (vals zs)) :
    Calls Try.prog 61 #[v] W fun e w' => e = .returned (.tuple #[.int .i64 r', .bool b]) ∧ Below W.heap.size W w' := by
  have hl : zs.length = n := by simpa using hv.1
  have hn : n ≤ 1048576 := by omega
  obtain ⟨r, hr⟩ : ∃ r, isOrd zs = r := ⟨_, rfl⟩
  have CO := Go.Lib.hid (fun W' (hs' : Sees W' v n (vals zs)) => implOrder_any W' v n zs r hs' hn hr)
  have HV := Go.Lib.hid hv
  unfold passesAns at h
  obtain ⟨_, ad, cap, rfl, _, _⟩ := hv
  cases r with
  | false =>
    rw [if_neg (by intro h1; unfold isOrd at hr; exact of_decide_eq_false hr h1)] at h
    cases h
    clear hr
    go_enter Try.func61, Try.ntmps61
    go_wp2_with fail
    refine (CO.out _ HV.out).mono ?_
    rintro e w1 ⟨rfl, hd⟩
    have HB1 : Hid (Below W.heap.size W w1) := Go.Lib.hid hd
    clear hd
    go_wp2_with fail
    go_ret2
    exact ⟨rfl, HB1.out⟩
  | true =>
    have hord : Ord zs := by unfold isOrd at hr; exact of_decide_eq_true hr
    rw [if_pos hord] at h
    cases h
    clear hr
    have CQ := Go.Lib.hid (fun W' (hs' : Sees W' (.slice ad n cap) n (vals zs)) => until_passes zs hord W' (.slice ad n cap) n hs')
    obtain ⟨M, hM⟩ : ∃ M, passes 7 zs = M := ⟨_, rfl⟩
    rw [hM] at CQ ⊢
    clear hM hl hn hz hord
    go_enter Try.func61, Try.ntmps61
    go_wp2_with fail
    refine (CO.out _ HV.out).mono ?_
    rintro e w1 ⟨rfl, hd⟩
    have HB1 : Hid (Below W.heap.size W w1) := Go.Lib.hid hd
    clear hd
    go_wp2_with fail
    refine (CQ.out _ (HV.out.grow HB1.out)).mono ?_
    rintro e w2 ⟨rfl, hb2⟩
    have H2 := Go.Lib.hid (HB1.out.trans (hb2.mono HB1.out.size))
    clear hb2
    go_wp2_with fail
    go_ret2
    exact ⟨rfl, H2.out⟩

end Go.Proofs.Ytecbfoodkcgehab.PassIC

namespace Go.Proofs.Ytecbfoodkcgehab.fnExactCountPasses
open Go.ChangeShapes Go.WideShapes Go.ChangeAt Go.RowKit SeesC OpenC
open Go.ChangeMaps (open_string shut_string)
open IntsC ExactC OrdMath QueM PassM PassPC PassIC
set_option linter.unusedVariables false

theorem own : ownKnob Try.prog.godebug = none := by kernel_rfl
theorem laidOut : laidOutB Try.prog = true := by kernel_rfl

/-! ### The walk -/
set_option maxHeartbeats 2000000 in
theorem walk (v0 : Value) (n0 : Nat) (a0 : List Int) (w : World) (s0 : Sees w v0 n0 (a0.map (Value.int .i64))) (t0 : n0 ≤ maxLen) (w0 : ∀ z ∈ a0, (Lit.int .i64 z).wf = true) :
    Calls Try.prog 9 #[v0] w fun e w' => e = .returned (.bool true) ∧ Below w.heap.size w w' := by
  have hl0 : a0.length = n0 := by simpa using s0.1
  have hvlt := fun (z : World) => Nat.le_refl z.heap.size
  have hsee0 := Go.Lib.hid s0
  by_cases big0 : (1048576 : Int) < (n0 : Int)
  · clear hvlt
    obtain ⟨_, adr0, cap0, rfl, _, _⟩ := s0
    unfold maxLen at t0
    go_enter Try.func9, Try.ntmps9
    go_wp2
    go_ret
    exact ⟨rfl, Below.refl _ _⟩
  have bels : Hid (Below w.heap.size w w) := Go.Lib.hid (Below.refl _ _)
  obtain ⟨⟨r, b⟩, hans⟩ : ∃ p, passesAns a0 = p := ⟨_, rfl⟩
  have hb0 : n0 ≤ 1048576 := by omega
  have C1 := Go.Lib.hid (specPasses a0 r b hans (hl0 ▸ hb0))
  have C2 := Go.Lib.hid (implPasses a0 r b hans (hl0 ▸ hb0))
  clear hans
  have hlt0 : 0 < n0 → ∀ q, v0.ownBlock = some q → q < w.heap.size := fun h q hq => s0.lt h q hq
  have HLT0 := Go.Lib.hid hlt0
  clear hlt0
  obtain ⟨_, adr0, cap0, rfl, _, _⟩ := s0
  unfold maxLen at t0
  clear hvlt
  go_enter Try.func9, Try.ntmps9
  go_wp2_with fail
  refine (toIntS_any _ _ n0 a0 (hsee0.out) hb0).mono ?_
  rintro e W1 ⟨g1, rfl, o1, b1⟩
  have ZW1 := Go.Lib.hid (Below.size (b1))
  have Rs0 := Go.Lib.hid (fun q hq => World.ownsRow.lt (o1) q hq)
  have HW1 := Go.Lib.hid (And.intro (Below.trans (bels.out) ((b1).mono (Below.size (bels.out)))) (And.intro (Sees.grow (hsee0.out) b1) (o1)))
  clear o1 b1
  go_wp2_with fail
  refine (C1.out _ _ _ (Sees.owns (HW1.out.2.2))).mono ?_
  rintro e W2 ⟨rfl, b2⟩
  have ZW2 := Go.Lib.hid (Below.size (b2))
  have HW2 := Go.Lib.hid (And.intro (Below.trans (HW1.out.1) ((b2).mono (Below.size (HW1.out.1)))) (And.intro (Sees.grow (HW1.out.2.1) b2) (kept_call (HW1.out.2.2) b2)))
  clear b2
  go_wp2_with fail
  refine (toIntS_any _ _ n0 a0 (HW2.out.2.1) hb0).mono ?_
  rintro e W3 ⟨g3, rfl, o3, b3⟩
  have ZW3 := Go.Lib.hid (Below.size (b3))
  have Rx0 := Go.Lib.hid (fun q hq => World.ownsRow.lt (o3) q hq)
  have HW3 := Go.Lib.hid (And.intro (Below.trans (HW2.out.1) ((b3).mono (Below.size (HW2.out.1)))) (And.intro (Sees.grow (HW2.out.2.1) b3) (o3)))
  clear o3 b3
  go_wp2_with fail
  refine (C2.out _ _ _ (Sees.owns (HW3.out.2.2))).mono ?_
  rintro e W4 ⟨rfl, b4⟩
  have ZW4 := Go.Lib.hid (Below.size (b4))
  have HW4 := Go.Lib.hid (And.intro (Below.trans (HW3.out.1) ((b4).mono (Below.size (HW3.out.1)))) (And.intro (Sees.grow (HW3.out.2.1) b4) (kept_call (HW3.out.2.2) b4)))
  clear b4
  go_wp2_with fail
  refine (toIntS_any _ _ n0 a0 (HW4.out.2.1) hb0).mono ?_
  rintro e W5 ⟨g5, rfl, o5, b5⟩
  have ZW5 := Go.Lib.hid (Below.size (b5))
  have Ry0 := Go.Lib.hid (fun q hq => World.ownsRow.lt (o5) q hq)
  have HW5 := Go.Lib.hid (And.intro (Below.trans (HW4.out.1) ((b5).mono (Below.size (HW4.out.1)))) (And.intro (Sees.grow (HW4.out.2.1) b5) (And.intro (kept_call (HW4.out.2.2) b5) (o5))))
  clear o5 b5
  go_wp2_with fail
  refine (eqIntS_same _ _ _ n0 a0 (Sees.owns (HW5.out.2.2.1)) (Sees.owns (HW5.out.2.2.2)) (by unfold maxLen; omega)).mono ?_
  rintro e W6 ⟨rfl, d6⟩
  have ZW6 := Go.Lib.hid (Below.size ((d6.below W5.heap.size)))
  have HW6 := Go.Lib.hid (And.intro (Below.trans (HW5.out.1) (((d6.below W5.heap.size)).mono (Below.size (HW5.out.1)))) (And.intro (Sees.grow (HW5.out.2.1) (d6.below W5.heap.size)) (And.intro (kept_call (HW5.out.2.2.1) (d6.below W5.heap.size)) (kept_call (HW5.out.2.2.2) (d6.below W5.heap.size)))))
  clear d6
  go_wp2_with fail
  go_ret
  exact ⟨rfl, HW6.out.1⟩

/-! ### From the walk to the row -/
set_option maxRecDepth 100000 in
theorem lifted (os : Os) (started : os.Started) (H : Type) (enc : TypeId × Value → H) :
    ReturnsInHanded {} Try.checked os 9 .any (Rows.fnExactCountPassesSpec.pre6 enc Try.prog Try.f9 Rows.fnExactCountPassesRow.domain false) (Rows.fnExactCountPassesSpec.post enc Try.prog Try.f9 false true false false) := by
  refine returnsInHanded_of_change (C := Try.checked) own started (by kernel_rfl) Try.func9
    (ChangeSpec.witness6 (enc := enc) (C := Try.checked) false ⟨#[], #[.slice none 0 0], []⟩ 8 (by kernel_rfl) (by kernel_rfl) (by kernel_rfl) (by kernel_rfl)) ?_
  intro W base args ds gs before hval0 hW hcnd _
  have hval : ∀ (j : Nat) t v, Try.f9.params[j]? = some t → args[j]? = some v → Value.okWide Try.prog W .any base t v := hval0
  have hW' := hW
  obtain ⟨p, q, hA0, hV, rfl, hfz, hnd⟩ := hW
  have hA : DataW.TrodAll enc Try.prog W 0 (fun _ => true) true Try.f9.params.toList args.toList ds p := hA0
  rw [Try.params9] at hA hval
  obtain ⟨u0, vs0, d0, ds0, p0, q0, hargs, rfl, rfl, h0, r0⟩ := trodAll_cons hA
  obtain ⟨rfl, rfl, rfl⟩ := trodAll_nil r0
  obtain rfl : args = #[u0] := by cases args; simp_all
  obtain ⟨rfl, rfl⟩ := trodVars_none hV
  have lt0 : ∀ x ∈ p0, x.block < W.heap.size := by obtain ⟨m, hm⟩ := h0; exact DataW.trod_lt m _ _ _ hm
  obtain ⟨n0, a0, s0, t0, w0⟩ := sees_ints Try.underlying29 Try.underlying3 (by kernel_rfl) (hval 0 29 u0 rfl rfl) h0
  clear hA0 hval0
  refine (walk u0 n0 a0 W s0 t0 w0).mono fun e W' ⟨he, bel⟩ => ?_
  subst he
  exact ⟨_, rfl, _, _, _, [], _, [], hW', trodAll_mk1 (shut_bool Try.underlying4 _), (trodAll_cons_mk (Below.trod laidOut (by kernel_rfl) (of_decide_eq_true (by kernel_rfl)) h0 bel lt0) trodAll_mk0), rfl, bel.frame _, fun h => by cases h⟩

theorem over : Rows.fnExactCountPassesRow.holds Try.pinned (OpenSpec.ofChange Rows.fnExactCountPassesSpec) :=
  OpenClaim.holds_of_wide 9 Try.f9 rfl rfl rfl rfl rfl rfl rfl ⟨rfl, rfl, rfl, rfl, rfl⟩ rfl rfl rfl rfl rfl (by kernel_rfl) Try.func9
    (show joinedFacts Try.prog 9 Try.f9 Rows.fnExactCountPassesSpec Rows.fnExactCountPassesRow = true by unfold joinedFacts; rw [SeatC.may, SeatC.lif, SeatC.mke]; kernel_rfl)
    (of_decide_eq_true (by kernel_rfl)) (by unfold Func.isWrapper; first | (rw [if_pos (by decide +kernel)]; kernel_rfl) | (rw [if_neg (by decide +kernel)]; exact ⟨rfl, rfl⟩))
    (fun os started H enc _ => lifted os started H enc)

/-- The statement. -/
theorem proved : Rows.FnExactCountPassesSaid :=
  over
#print axioms proved
end Go.Proofs.Ytecbfoodkcgehab.fnExactCountPasses
