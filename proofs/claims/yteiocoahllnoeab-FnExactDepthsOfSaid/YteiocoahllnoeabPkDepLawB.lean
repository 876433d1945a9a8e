/-
  At every two lists DepthsOf answers as the model. Conditions: none.
-/
import Derived.Test.YteiocoahllnoeabPkDepLawA
import Derived.Test.YteiocoahllnoeabWord
import Derived.Test.YteiocoahllnoeabOrder
import Derived.Test.YteiocoahllnoeabShelf
import Derived.RangeFuncBox
import Derived.Maps.AppendAt
import Derived.WalkSmall
import Derived.Laws.CopyOwn
import Derived.IntWalk
import Derived.BigQuiet
import Derived.Deep.QuietTactic
import Derived.Test.YteiocoahllnoeabPlayM
import Derived.Test.YteiocoahllnoeabIter
import Derived.WalkMore
import Derived.Test.YteiocoahllnoeabNum
import Derived.WalkLawsBesides
import Derived.Laws.ResultCell
import Derived.Laws.Rows
import Derived.ChangeKeysEq
import Derived.DeepKeys
import Derived.Test.YteiocoahllnoeabLL
import Derived.StillTailTactics
import Derived.Deep.CutRange
import Derived.Test.YteiocoahllnoeabFits
import Derived.Test.YteiocoahllnoeabOrd
import Derived.Test.YteiocoahllnoeabRows
import Derived.Test.YteiocoahllnoeabSeat
import Derived.Test.YteiocoahllnoeabOpen
import Derived.WalkKit
import Derived.ProofKit
import Derived.OpenShut
import Derived.ShutString
import Derived.ChangeOld
import Derived.Below
import Derived.Test.YteiocoahllnoeabExact

/-
  Contracts: the model and the program run an order by a word. Conditions: lists and texts of at most 2^20 elements.
-/
namespace Go.Proofs.Yteiocoahllnoeab.RunC
open Go.RowKit SeesC IntsC ExactC NumC IterC OrdMath WordMath InC OrderC WordC

def runAns (zs : List Int) (s : ByteArray) : List Int × Bool := if Ord zs ∧ Word s ∧ s.size = 2 * zs.length then (runOut zs s, true) else ([], false)

theorem runOut_len {zs : List Int} {s : ByteArray} (hw : Word s) (hsz : s.size = 2 * zs.length) : (runOut zs s).length = zs.length := by
  have := run_len (zs := zs) s.size 0 hw.2.2
  unfold runOut
  omega

theorem run_ans_len {zs : List Int} {s : ByteArray} {xs : List Int} {b : Bool} (h : runAns zs s = (xs, b)) : xs.length ≤ 1048576 := by
  unfold runAns at h; split at h
  · rename_i ho; cases h; rw [runOut_len ho.2.1 ho.2.2]; have := ho.1.2.1; omega
  · cases h; simp

/-- A list that is not empty, as all but the last, and the last. -/
theorem split_last {l : List Int} (h : 0 < l.length) : ∃ a p, l = a ++ [p] ∧ l.getLast?.getD 0 = p ∧ l.dropLast = a := by
  have hne : l ≠ [] := by intro e; subst e; simp at h
  have e := (List.dropLast_concat_getLast hne).symm
  refine ⟨l.dropLast, l.getLast hne, e, ?_, rfl⟩
  conv => lhs; rw [e]
  simp

/-- A row of the call's own as a block that is known whole, and back. -/
theorem own_block {w : World} {base g n cap : Nat} {ty : TypeId} {xs : List Value} (h : w.ownsRow base ty 1 (.slice (some ⟨g, 0, none⟩) n cap) n xs) : ∃ ex, w.heap[g]? = some (.cells (xs ++ ex).toArray ty (0, 0)) ∧ n + ex.length = cap ∧ xs.length = n ∧ base ≤ g ∧ cap ≤ maxLen := by
  have hl : xs.length = n := by simpa using h.1
  rcases h.2 with ⟨h0, _⟩ | ⟨g', cap', cur, h0, hb, hh, h1, hm, hsz, ht⟩
  · cases h0
  · cases h0
    refine ⟨cur.toList.drop n, ?_, ?_, hl, hb, hm⟩
    · rw [← ht, Nat.mul_one, List.take_append_drop]; simpa using hh
    · rw [List.length_drop, Array.length_toList, hsz]; omega

theorem block_own {w : World} {base g n cap : Nat} {ty : TypeId} {xs ex : List Value} (hh : w.heap[g]? = some (.cells (xs ++ ex).toArray ty (0, 0))) (hc : n + ex.length = cap) (hl : xs.length = n) (hb : base ≤ g) (hm : cap ≤ maxLen) : w.ownsRow base ty 1 (.slice (some ⟨g, 0, none⟩) n cap) n xs :=
  ⟨by simpa using hl, .inr ⟨g, cap, _, rfl, hb, hh, by omega, hm, by simp; omega, by simp [← hl]⟩⟩

/-- What a pop does to the line. -/
theorem line_pop (lo la R : List Int) (p : Int) (ex : List Value) (no : Nat) (hno : lo.length = no) :
    (splice (vals (lo ++ (la ++ [p]) ++ R) ++ ex) (no + 1) (vals la)).set no (.int .i64 p) = vals ((lo ++ [p]) ++ la ++ R) ++ ex := by
  subst hno
  unfold splice vals
  have e1 : List.map (Value.int .i64) (lo ++ (la ++ [p]) ++ R) ++ ex = List.map (Value.int .i64) lo ++ (List.map (Value.int .i64) (la ++ [p]) ++ (List.map (Value.int .i64) R ++ ex)) := by simp
  rw [e1]
  obtain ⟨y, ys, hy⟩ : ∃ y ys, List.map (Value.int .i64) (la ++ [p]) = y :: ys := by
    cases la with
    | nil => exact ⟨_, _, rfl⟩
    | cons a tl => exact ⟨_, _, rfl⟩
  have hys : ys.length = la.length := by have := congrArg List.length hy; simp at this; omega
  rw [hy]
  have e2 : (List.map (Value.int .i64) lo ++ (y :: ys ++ (List.map (Value.int .i64) R ++ ex))).take (lo.length + 1) = List.map (Value.int .i64) lo ++ [y] := by
    have h9 : List.map (Value.int .i64) lo ++ (y :: ys ++ (List.map (Value.int .i64) R ++ ex)) = (List.map (Value.int .i64) lo ++ [y]) ++ (ys ++ (List.map (Value.int .i64) R ++ ex)) := by simp
    rw [h9, List.take_append_of_le_length (by simp)]
    exact List.take_of_length_le (by simp)
  have e3 : (List.map (Value.int .i64) lo ++ (y :: ys ++ (List.map (Value.int .i64) R ++ ex))).drop (lo.length + 1 + (List.map (Value.int .i64) la).length) = List.map (Value.int .i64) R ++ ex := by
    have h9 : List.map (Value.int .i64) lo ++ (y :: ys ++ (List.map (Value.int .i64) R ++ ex)) = (List.map (Value.int .i64) lo ++ y :: ys) ++ (List.map (Value.int .i64) R ++ ex) := by simp
    rw [h9, List.drop_append_of_le_length (by simp; omega), List.drop_of_length_le (by simp; omega), List.nil_append]
  rw [e2, e3, List.append_assoc, List.set_append_right _ _ (by simp)]
  simp

end Go.Proofs.Yteiocoahllnoeab.RunC

/-
  Contracts: the model and the program find the word that leads from an order to another. Conditions: lists of at most 2^20 numbers.
-/
namespace Go.Proofs.Yteiocoahllnoeab.ToC
open Go.RowKit SeesC IntsC ExactC NumC IterC OrdMath WordMath InC OrderC WordC RunC

/-- The signs by which an order is reached: place i of it is sought, the stack is st, x numbers have been pushed. -/
def goTo (zs ts : List Int) : Nat → Nat → List Int → Nat → List UInt8 → Option (List UInt8)
  | 0, _, _, _, _ => none
  | f + 1, i, st, x, acc =>
    if i < ts.length then
      if st.getLast? = some (ts.getD i 0) then goTo zs ts f (i + 1) st.dropLast x (acc ++ [79])
      else if x < zs.length then goTo zs ts f i (st ++ [zs.getD x 0]) (x + 1) (acc ++ [73])
      else none
    else some acc

def toRes (zs ts : List Int) : Option (List UInt8) := goTo zs ts (zs.length + zs.length + 1) 0 [] 0 []

def optAns (o : Option (List UInt8)) : ByteArray × Bool := match o with | some l => (txt l, true) | none => (ByteArray.empty, false)

def toAns (zs ts : List Int) : ByteArray × Bool := if Ord zs ∧ Ord ts ∧ zs.length = ts.length then optAns (toRes zs ts) else (ByteArray.empty, false)

/-- What is known in the midst of the search. -/
def Mid (zs ts : List Int) (R : Option (List UInt8)) (i : Nat) (st : List Int) (x : Nat) (acc : List UInt8) : Prop :=
  goTo zs ts ((ts.length - i) + (zs.length - x) + 1) i st x acc = R ∧ i + st.length = x ∧ x ≤ zs.length ∧ i ≤ ts.length ∧ acc.length = i + x

theorem mid_start (zs ts : List Int) (h : zs.length = ts.length) : Mid zs ts (toRes zs ts) 0 [] 0 [] := ⟨by rw [← h]; rfl, rfl, Nat.zero_le _, Nat.zero_le _, rfl⟩

theorem mid_end {zs ts : List Int} {R : Option (List UInt8)} {i x : Nat} {st : List Int} {acc : List UInt8} (h : Mid zs ts R i st x acc) (hi : ¬ i < ts.length) : R = some acc := by
  rw [← h.1]; simp [goTo, hi]

theorem mid_pop {zs ts : List Int} {R : Option (List UInt8)} {i x : Nat} {st : List Int} {acc : List UInt8} (h : Mid zs ts R i st x acc) (hi : i < ts.length) (ht : st.getLast? = some (ts.getD i 0)) : Mid zs ts R (i + 1) st.dropLast x (acc ++ [79]) := by
  obtain ⟨h1, h2, h3, h4, h5⟩ := h
  have hl : 0 < st.length := by cases st with | nil => simp at ht | cons a b => simp
  refine ⟨?_, by simp; omega, h3, by omega, by simp; omega⟩
  rw [← h1]
  have e : (ts.length - i) + (zs.length - x) + 1 = ((ts.length - (i + 1)) + (zs.length - x) + 1) + 1 := by omega
  rw [e]
  conv => rhs; unfold goTo
  rw [if_pos hi, if_pos ht]

theorem mid_push {zs ts : List Int} {R : Option (List UInt8)} {i x : Nat} {st : List Int} {acc : List UInt8} (h : Mid zs ts R i st x acc) (hi : i < ts.length) (ht : st.getLast? ≠ some (ts.getD i 0)) (hx : x < zs.length) : Mid zs ts R i (st ++ [zs.getD x 0]) (x + 1) (acc ++ [73]) := by
  obtain ⟨h1, h2, h3, h4, h5⟩ := h
  refine ⟨?_, by simp; omega, by omega, h4, by simp; omega⟩
  rw [← h1]
  have e : (ts.length - i) + (zs.length - x) + 1 = ((ts.length - i) + (zs.length - (x + 1)) + 1) + 1 := by omega
  rw [e]
  conv => rhs; unfold goTo
  rw [if_pos hi, if_neg ht, if_pos hx]

theorem mid_fail {zs ts : List Int} {R : Option (List UInt8)} {i x : Nat} {st : List Int} {acc : List UInt8} (h : Mid zs ts R i st x acc) (hi : i < ts.length) (ht : st.getLast? ≠ some (ts.getD i 0)) (hx : ¬ x < zs.length) : R = none := by
  rw [← h.1]
  unfold goTo
  rw [if_pos hi, if_neg ht, if_neg hx]

end Go.Proofs.Yteiocoahllnoeab.ToC

/-
  Contract: the program finds the word that leads from an order to another. Conditions: as the model's.
-/
namespace Go.Proofs.Yteiocoahllnoeab.ToImplC
open Go.RowKit SeesC IntsC ExactC NumC IterC OrdMath WordMath InC OrderC WordC RunC ToC

end Go.Proofs.Yteiocoahllnoeab.ToImplC

/-
  Contract: the program's besideRun: a push, and all pops that can be made at once. Conditions: at most 7 numbers.
-/
namespace Go.Proofs.Yteiocoahllnoeab.RunPC
open Go.RowKit SeesC IntsC ExactC NumC IterC OrdMath BesM PlayM WordMath InC OrderC WordC RunC ToC ListsC SameC AppendTwoC GreedyC
set_option linter.unusedVariables false

def deps (p : Pl) : List Int := p.st.map fun l => (l.length : Int)

/-- What the run's memory holds, cell by cell: the stacks, their depths, the greatest depths, the moves and what came out. -/
def cellsR (F : List Int) (D P : List Int) (mv ov : Value) : List Value := vals F ++ (vals D ++ (vals P ++ [mv, ov]))

def RunAt (W : World) (a : Nat) (p : Pl) (w : World) : Prop := ∃ (F : List Int) (am ao : Option Addr) (cm co : Nat),
  F.length = 28 ∧ p.st.length = 4 ∧ p.dp.length = 4 ∧
  (∀ s, s < 4 → (p.st.getD s []).length ≤ 7 ∧ ∀ d, d < (p.st.getD s []).length → F.getD (s * 7 + d) 0 = (p.st.getD s []).getD d 0) ∧
  w.ownsRow W.heap.size 41 38 (.slice (some ⟨a, 0, none⟩) 1 1) 1 (cellsR F (deps p) p.dp (.slice am p.mv.length cm) (.slice ao p.c co)) ∧
  w.ownsRow W.heap.size 5 1 (.slice am p.mv.length cm) p.mv.length (bvals p.mv) ∧
  w.ownsRow W.heap.size 3 1 (.slice ao p.c co) p.c (vals (iota p.c)) ∧
  Below W.heap.size W w

theorem cells_stack {F D P : List Int} {mv ov : Value} (hF : F.length = 28) {j : Nat} (hj : j < 28) : (cellsR F D P mv ov)[j]? = some (.int .i64 (F.getD j 0)) := by
  unfold cellsR
  rw [List.getElem?_append_left (by simp; omega)]
  simp [hF, hj]

theorem cells_depth {F D P : List Int} {mv ov : Value} (hF : F.length = 28) (hD : D.length = 4) {j : Nat} (hj : j < 4) : (cellsR F D P mv ov)[28 + j]? = some (.int .i64 (D.getD j 0)) := by
  unfold cellsR
  rw [List.getElem?_append_right (by simp; omega), List.getElem?_append_left (by simp; omega)]
  simp [hF, hD, hj]

theorem cells_most {F D P : List Int} {mv ov : Value} (hF : F.length = 28) (hD : D.length = 4) (hP : P.length = 4) {j : Nat} (hj : j < 4) : (cellsR F D P mv ov)[32 + j]? = some (.int .i64 (P.getD j 0)) := by
  unfold cellsR
  rw [List.getElem?_append_right (by simp; omega), List.getElem?_append_right (by simp; omega), List.getElem?_append_left (by simp; omega)]
  simp [hF, hD, hP, hj, show 32 + j - 28 - 4 = j from by omega]

theorem cells_mv {F D P : List Int} {mv ov : Value} (hF : F.length = 28) (hD : D.length = 4) (hP : P.length = 4) : (cellsR F D P mv ov)[36]? = some mv := by
  unfold cellsR
  rw [List.getElem?_append_right (by simp; omega), List.getElem?_append_right (by simp; omega), List.getElem?_append_right (by simp; omega)]
  simp [hF, hD, hP]

theorem cells_ov {F D P : List Int} {mv ov : Value} (hF : F.length = 28) (hD : D.length = 4) (hP : P.length = 4) : (cellsR F D P mv ov)[37]? = some ov := by
  unfold cellsR
  rw [List.getElem?_append_right (by simp; omega), List.getElem?_append_right (by simp; omega), List.getElem?_append_right (by simp; omega)]
  simp [hF, hD, hP]

theorem set_stack {F D P : List Int} {mv ov : Value} (hF : F.length = 28) {j : Nat} (hj : j < 28) (x : Int) : (cellsR F D P mv ov).set j (.int .i64 x) = cellsR (F.set j x) D P mv ov := by
  unfold cellsR
  rw [List.set_append_left _ _ (by simp; omega)]
  simp

theorem set_depth {F D P : List Int} {mv ov : Value} (hF : F.length = 28) (hD : D.length = 4) {j : Nat} (hj : j < 4) (x : Int) : (cellsR F D P mv ov).set (28 + j) (.int .i64 x) = cellsR F (D.set j x) P mv ov := by
  unfold cellsR
  rw [List.set_append_right _ _ (by simp; omega), List.set_append_left _ _ (by simp; omega)]
  simp [hF]

theorem set_most {F D P : List Int} {mv ov : Value} (hF : F.length = 28) (hD : D.length = 4) (hP : P.length = 4) {j : Nat} (hj : j < 4) (x : Int) : (cellsR F D P mv ov).set (32 + j) (.int .i64 x) = cellsR F D (P.set j x) mv ov := by
  unfold cellsR
  rw [List.set_append_right _ _ (by simp; omega), List.set_append_right _ _ (by simp; omega), List.set_append_left _ _ (by simp; omega)]
  simp [hF, hD, show 32 + j - 28 - 4 = j from by omega]

theorem set_mv {F D P : List Int} {mv ov : Value} (hF : F.length = 28) (hD : D.length = 4) (hP : P.length = 4) (x : Value) : (cellsR F D P mv ov).set 36 x = cellsR F D P x ov := by
  unfold cellsR
  rw [List.set_append_right _ _ (by simp; omega), List.set_append_right _ _ (by simp; omega), List.set_append_right _ _ (by simp; omega)]
  simp [hF, hD, hP]

theorem set_ov {F D P : List Int} {mv ov : Value} (hF : F.length = 28) (hD : D.length = 4) (hP : P.length = 4) (x : Value) : (cellsR F D P mv ov).set 37 x = cellsR F D P mv x := by
  unfold cellsR
  rw [List.set_append_right _ _ (by simp; omega), List.set_append_right _ _ (by simp; omega), List.set_append_right _ _ (by simp; omega)]
  simp [hF, hD, hP]

theorem deps_len (p : Pl) : (deps p).length = p.st.length := by unfold deps; simp

theorem deps_at {p : Pl} (h : p.st.length = 4) {s : Nat} (hs : s < 4) : (deps p).getD s 0 = ((p.st.getD s []).length : Int) := by
  unfold deps
  simp [h, hs]

/-- The memory of a run: what the walks read and write. -/
def St (W : World) (a : Nat) (C : List Value) (mv : Value) (nm : Nat) (ml : List UInt8) (ov : Value) (no : Nat) (ol : List Int) (w : World) : Prop :=
  w.ownsRow W.heap.size 41 38 (.slice (some ⟨a, 0, none⟩) 1 1) 1 C ∧ w.ownsRow W.heap.size 5 1 mv nm (bvals ml) ∧ w.ownsRow W.heap.size 3 1 ov no (vals ol) ∧ Below W.heap.size W w

section
variable {W : World} {a : Nat} {C : List Value} {mv : Value} {nm : Nat} {ml : List UInt8} {ov : Value} {no : Nat} {ol : List Int} {w : World}

theorem St.cell (h : St W a C mv nm ml ov no ol w) {j : Nat} {u : Value} (hj : C[j]? = some u) : w.cell? ⟨a, j, none⟩ = some u := by
  have h1 : j < 1 * 38 := by
    have := (List.getElem?_eq_some_iff.1 hj).1
    have h2 := h.1.1
    omega
  rw [World.ownsRow.cellAt h.1 j h1, hj]

theorem St.frozen (h : St W a C mv nm ml ov no ol w) (j : Nat) : w.frozen? ⟨a, j, none⟩ = false := World.ownsRow.frozenAt h.1 j

theorem St.ge (h : St W a C mv nm ml ov no ol w) : W.heap.size ≤ a := (h.1.lt a rfl).1

theorem St.set (h : St W a C mv nm ml ov no ol w) (j : Nat) (u : Value) : St W a (C.set j u) mv nm ml ov no ol (w.setCell ⟨a, j, none⟩ u) := by
  have hs := World.ownsRow.stored h.1 j u
  refine ⟨hs.1, own_mark h.2.1 hs.2 (fun q hq e => ?_), own_mark h.2.2.1 hs.2 (fun q hq e => ?_), h.2.2.2.setCell (p := ⟨a, j, none⟩) h.ge _⟩
  · cases e; exact own_apart h.1 h.2.1 (by decide) rfl hq
  · cases e; exact own_apart h.1 h.2.2.1 (by decide) rfl hq

theorem St.drew (h : St W a C mv nm ml ov no ol w) : St W a C mv nm ml ov no ol w.drew := ⟨h.1, h.2.1, h.2.2.1, h.2.2.2.trans (Drawn.below (w' := w.drew) ⟨1, rfl⟩ _)⟩

theorem St.alloc (h : St W a C mv nm ml ov no ol w) (o : Obj) : St W a C mv nm ml ov no ol (w.alloc o) :=
  ⟨h.1.alloc o, h.2.1.alloc o, h.2.2.1.alloc o, h.2.2.2.alloc h.2.2.2.size o⟩

theorem St.moved (h : St W a C mv nm ml ov no ol w) {w' : World} {mv' : Value} {nm' : Nat} {ml' : List UInt8} (ho : w'.ownsRow W.heap.size 5 1 mv' nm' (bvals ml')) (hg : w.grownBy w' mv.ownBlock) : St W a C mv' nm' ml' ov no ol w' := by
  refine ⟨h.1.kept hg (.inr ?_), ho, own_mark h.2.2.1 hg (fun q hq e => own_apart h.2.1 h.2.2.1 (by decide) e hq), h.2.2.2.grown hg h.2.2.2.size (fun q hq => (h.2.1.lt q hq).1)⟩
  intro e
  exact own_apart h.1 h.2.1 (by decide) (q := a) rfl e.symm

theorem St.came (h : St W a C mv nm ml ov no ol w) {w' : World} {ov' : Value} {no' : Nat} {ol' : List Int} (ho : w'.ownsRow W.heap.size 3 1 ov' no' (vals ol')) (hg : w.grownBy w' ov.ownBlock) : St W a C mv nm ml ov' no' ol' w' := by
  refine ⟨h.1.kept hg (.inr ?_), own_mark h.2.1 hg (fun q hq e => own_apart h.2.1 h.2.2.1 (by decide) hq e), ho, h.2.2.2.grown hg h.2.2.2.size (fun q hq => (h.2.2.1.lt q hq).1)⟩
  intro e
  exact own_apart h.1 h.2.2.1 (by decide) (q := a) rfl e.symm
end

theorem bsnoc {l : List UInt8} {c : UInt8} {k : Int} (h : (c.toNat : Int) = k) : bvals l ++ [Value.int .u8 k] = bvals (l ++ [c]) := by
  unfold bvals
  rw [List.map_append, List.map_cons, List.map_nil, h]

theorem chr65 {s : Nat} (hs : s < 4) : ((UInt8.ofNat (65 + s)).toNat : Int) = 65 + (s : Int) := by
  have : s = 0 ∨ s = 1 ∨ s = 2 ∨ s = 3 := by omega
  rcases this with rfl | rfl | rfl | rfl <;> rfl

theorem chr97 {s : Nat} (hs : s < 4) : ((UInt8.ofNat (97 + s)).toNat : Int) = 97 + (s : Int) := by
  have : s = 0 ∨ s = 1 ∨ s = 2 ∨ s = 3 := by omega
  rcases this with rfl | rfl | rfl | rfl <;> rfl

theorem snoc_at {l : List Int} {x : Int} {d : Nat} : (l ++ [x]).getD d 0 = if d < l.length then l.getD d 0 else if d = l.length then x else 0 := by
  by_cases h : d < l.length
  · rw [if_pos h]; simp [List.getElem?_append_left h]
  · rw [if_neg h]
    by_cases h2 : d = l.length
    · subst h2; simp
    · rw [if_neg h2]; simp [List.getElem?_append_right (show l.length ≤ d by omega)]
      rw [List.getElem?_eq_none (by simp; omega)]; rfl

set_option maxRecDepth 100000 in
set_option maxHeartbeats 4000000 in
theorem push_any (W : World) (a : Nat) (p : Pl) (w : World) (hw : RunAt W a p w) (s : Nat) (hs : s < 4) (x : Int) (hd7 : (p.st.getD s []).length < 7) (hmv : p.mv.length ≤ 1000) :
    Calls Try.prog 32 #[.pointer (some ⟨a, 0, none⟩), .int .i64 (s : Int), .int .i64 x] w fun e w' => e = .returned (.tuple #[]) ∧ RunAt W a (pushP p s x) w' := by
  obtain ⟨F, am, ao, cm, co, hF, hS, hP, hst, hm, hbm, hbo, hB⟩ := hw
  obtain ⟨j0, hj, hy0, hy1, hy2⟩ := info_parts infoB
  have hD : (deps p).length = 4 := by rw [deps_len, hS]
  obtain ⟨d, hd⟩ : ∃ d, (p.st.getD s []).length = d := ⟨_, rfl⟩
  have hda := deps_at hS hs
  rw [hd] at hda hd7
  obtain ⟨mx, hmx⟩ : ∃ mx, p.dp.getD s 0 = mx := ⟨_, rfl⟩
  obtain ⟨nm, hnm⟩ : ∃ nm, p.mv.length = nm := ⟨_, rfl⟩
  have S0 : Hid (St W a (cellsR F (deps p) p.dp (.slice am nm cm) (.slice ao p.c co)) (.slice am nm cm) nm p.mv (.slice ao p.c co) p.c (iota p.c) w) := Go.Lib.hid (by rw [← hnm]; exact ⟨hm, hbm, hbo, hB⟩)
  have c1 := S0.out.cell (cells_depth hF hD hs)
  rw [hda] at c1
  have c0 := S0.out.cell (cells_stack hF (j := s * 7 + d) (by omega))
  have f0 := S0.out.frozen (s * 7 + d)
  have hsi : (s : Int) < 4 := by omega
  have hdi : (d : Int) < 7 := by omega
  rw [hnm] at hmv
  have HN := Go.Lib.hid (And.intro hnm (And.intro hmx (And.intro hst hd)))
  clear hm hbm hbo hB hnm hmx hst hd
  go_enter Try.func32, Try.ntmps32
  go_wp2_with fail
  go_region
  obtain ⟨w1, hw1⟩ : ∃ w1, (w.setCell ⟨a, s * 7 + d, none⟩ (.int .i64 x)).drew = w1 := ⟨_, rfl⟩
  have S1 : Hid (St W a (cellsR (F.set (s * 7 + d) x) (deps p) p.dp (.slice am nm cm) (.slice ao p.c co)) (.slice am nm cm) nm p.mv (.slice ao p.c co) p.c (iota p.c) w1) := Go.Lib.hid (by
    rw [← hw1, ← set_stack hF (by omega)]; exact (S0.out.set _ _).drew)
  rw [hw1]
  clear hw1 c0 c1 f0
  have hF1 : (F.set (s * 7 + d) x).length = 28 := by rw [List.length_set]; exact hF
  have c1 := S1.out.cell (cells_depth hF1 hD hs)
  rw [hda] at c1
  have f0 := S1.out.frozen (28 + s)
  go_wp2_with fail
  go_region
  obtain ⟨w2, hw2⟩ : ∃ w2, (w1.setCell ⟨a, 28 + s, none⟩ (.int .i64 ((d : Int) + 1))).drew = w2 := ⟨_, rfl⟩
  have S2 : Hid (St W a (cellsR (F.set (s * 7 + d) x) ((deps p).set s ((d : Int) + 1)) p.dp (.slice am nm cm) (.slice ao p.c co)) (.slice am nm cm) nm p.mv (.slice ao p.c co) p.c (iota p.c) w2) := Go.Lib.hid (by
    rw [← hw2, ← set_depth hF1 hD hs]; exact (S1.out.set _ _).drew)
  rw [hw2]
  clear hw2 c1 f0
  have hD1 : ((deps p).set s ((d : Int) + 1)).length = 4 := by rw [List.length_set]; exact hD
  have c1 := S2.out.cell (cells_depth hF1 hD1 hs)
  rw [show ((deps p).set s ((d : Int) + 1)).getD s 0 = (d : Int) + 1 from getD_set_self (by omega)] at c1
  have c2 := S2.out.cell (cells_most hF1 hD1 hP hs)
  rw [HN.out.2.1] at c2
  have f0 := S2.out.frozen (32 + s)
  go_wp2_with fail
  go_region
  obtain ⟨w3, hw3⟩ : ∃ w3, (w2.setCell ⟨a, 32 + s, none⟩ (.int .i64 (max mx ((d : Int) + 1)))).drew = w3 := ⟨_, rfl⟩
  have S3 : Hid (St W a (cellsR (F.set (s * 7 + d) x) ((deps p).set s ((d : Int) + 1)) (p.dp.set s (max mx ((d : Int) + 1))) (.slice am nm cm) (.slice ao p.c co)) (.slice am nm cm) nm p.mv (.slice ao p.c co) p.c (iota p.c) w3) := Go.Lib.hid (by
    rw [← hw3, ← set_most hF1 hD1 hP hs]; exact (S2.out.set _ _).drew)
  rw [hw3]
  clear hw3 c1 c2 f0
  have hP1 : (p.dp.set s (max mx ((d : Int) + 1))).length = 4 := by rw [List.length_set]; exact hP
  have c3 := S3.out.cell (cells_mv hF1 hD1 hP1)
  have hlt : w3.heap.size < w3.heap.size + 1 := Nat.lt_succ_self _
  have hWs := S3.out.2.2.2.size
  go_wp2_with (at_builtin; refine wpList_append_own_at _ rfl _ _ 39 rfl W.heap.size 5 j0 (.int .u8 0) 1 1 Try.underlying39 hj hy0 hy1 hy2 rfl (by decide) (.slice am nm cm) nm (bvals p.mv) rfl (World.ownsRow.alloc S3.out.2.1 _) ⟨w3.heap.size, 0, none⟩ 1 1 [.int .u8 ((65 : Int) + (s : Int))] rfl rfl (cell_one_new _ _ _) (fun u hu => by simp at hu; subst hu; rfl) (by unfold maxLen; omega) (by omega) (by simp; omega) ?_; intro v4 w4 hown4 hgrow4 _ _; obtain ⟨g4, cp4, rfl⟩ := ownsRow_succ hown4; have S4 : Hid (St W a (cellsR (F.set (s * 7 + d) x) ((deps p).set s ((d : Int) + 1)) (p.dp.set s (max mx ((d : Int) + 1))) (.slice am nm cm) (.slice ao p.c co)) (.slice (some ⟨g4, 0, none⟩) (nm + 1) cp4) (nm + 1) (p.mv ++ [UInt8.ofNat (65 + s)]) (.slice ao p.c co) p.c (iota p.c) w4) := Go.Lib.hid ((S3.out.alloc _).moved (by rw [← bsnoc (chr65 hs)]; exact hown4) hgrow4); have c4 := S4.out.cell (cells_mv hF1 hD1 hP1); have f4 := S4.out.frozen 36; clear hown4 hgrow4)
  go_wp2_with fail
  go_end0
  refine ⟨rfl, (F.set (s * 7 + d) x), some ⟨g4, 0, none⟩, ao, cp4, co, hF1, by simp [pushP, hS], by simp [pushP, hP], ?_, ?_⟩
  · intro t ht
    refine ⟨?_, fun q hq => ?_⟩
    · unfold pushP
      simp only
      by_cases hts : t = s
      · subst hts
        rw [getD_set_self (by omega), List.length_append, HN.out.2.2.2]
        simp; omega
      · rw [getD_set_other (by omega)]
        exact (HN.out.2.2.1 t ht).1
    unfold pushP at hq ⊢
    simp only at hq ⊢
    by_cases hts : t = s
    · subst hts
      rw [getD_set_self (by omega)] at hq ⊢
      rw [List.length_append, HN.out.2.2.2] at hq
      simp at hq
      rw [snoc_at, HN.out.2.2.2]
      by_cases hqd : q = d
      · subst hqd
        rw [getD_set_self (by omega), if_neg (by omega), if_pos rfl]
      · rw [getD_set_other (by omega), if_pos (by omega)]
        exact (HN.out.2.2.1 t ht).2 q (by rw [HN.out.2.2.2]; omega)
    · rw [getD_set_other (α := List Int) (by omega)] at hq ⊢
      have h7 : q < 7 := by have := (HN.out.2.2.1 t ht).1; omega
      rw [getD_set_other (by omega)]
      exact (HN.out.2.2.1 t ht).2 q hq
  · have e1 : deps (pushP p s x) = (deps p).set s ((d : Int) + 1) := by
      unfold deps pushP
      simp only [List.map_set, List.length_append, HN.out.2.2.2]
      rfl
    have e2 : (pushP p s x).dp = p.dp.set s (max mx ((d : Int) + 1)) := by
      unfold pushP
      simp only [HN.out.2.1, HN.out.2.2.2]
      rfl
    have e3 : (pushP p s x).mv = p.mv ++ [UInt8.ofNat (65 + s)] := rfl
    have e4 : (pushP p s x).mv.length = nm + 1 := by rw [e3, List.length_append, HN.out.1]; rfl
    rw [e1, e2, e4, e3]
    have h := S4.out.set 36 (.slice (some ⟨g4, 0, none⟩) (nm + 1) cp4)
    rw [set_mv hF1 hD1 hP1] at h
    exact h

end Go.Proofs.Yteiocoahllnoeab.RunPC

/-
  Contract: the program's besideRun: all pops that can be made at once. Conditions: a run that is sound.
-/
namespace Go.Proofs.Yteiocoahllnoeab.RunP2C
open Go.RowKit SeesC IntsC ExactC NumC IterC OrdMath BesM PlayM WordMath InC OrderC WordC RunC ToC ListsC SameC AppendTwoC GreedyC RunPC
set_option linter.unusedVariables false

theorem topIs_at {p : Pl} {s e : Nat} (h : (p.st.getD s []).length = e + 1) : topIs p s = ((p.st.getD s []).getD e 0 == (p.c : Int) + 1) := by
  unfold topIs
  generalize p.st.getD s [] = l at *
  rw [List.getLast?_eq_getElem?, h]
  simp [h]

theorem topIs_none {p : Pl} {s : Nat} (h : (p.st.getD s []).length = 0) : topIs p s = false := by
  unfold topIs
  rw [List.length_eq_zero_iff.1 h]
  rfl

theorem iota_snoc (c : Nat) : vals (iota c) ++ [Value.int .i64 ((c : Int) + 1)] = vals (iota (c + 1)) := by
  unfold iota
  rw [List.range_succ]
  simp

theorem drop_at {l : List Int} {e d : Nat} (h : l.length = e + 1) (hd : d < e) : l.dropLast.getD d 0 = l.getD d 0 := by
  have h2 : d < l.length := by omega
  rw [List.getD_eq_getElem?_getD, List.getD_eq_getElem?_getD, List.getElem?_dropLast, if_pos (by omega)]

theorem new_at {w : World} {x : Value} {a : Nat} {W : World} {C : List Value} {mv : Value} {nm : Nat} {ml : List UInt8} {ov : Value} {no : Nat} {ol : List Int} {u0 : Value} {k : Nat} (h : St W a C mv nm ml ov no ol (w.setCell ⟨a, k, none⟩ u0)) (t : TypeId) : ∀ j u, [x][j]? = some u → ((w.setCell ⟨a, k, none⟩ u0).alloc (.cells #[x] t)).cell? ((⟨w.heap.size, 0, none⟩ : Addr).add j) = some u := by
  have := cell_one_new (w.setCell ⟨a, k, none⟩ u0) x t
  simpa using this

def PopW (zs so : List Int) (m : Nat) (W : World) (a : Nat) (p : Pl) (f : Nat) (q : Pl) (wr : World) : Prop :=
  popAll zs.length p = popAll f q ∧ Inv zs so m q ∧ zs.length ≤ f + q.c ∧ RunAt W a q wr

/-- What a pop leaves. -/
theorem popped {W : World} {a : Nat} {q : Pl} {s e nm c : Nat} {F : List Int} {mv : Option Addr} {cm : Nat} {ao : Option Addr} {co : Nat} {w : World} (hs : s < 4) (hF : F.length = 28) (hS : q.st.length = 4) (hP : q.dp.length = 4)
    (hst : ∀ s, s < 4 → (q.st.getD s []).length ≤ 7 ∧ ∀ d, d < (q.st.getD s []).length → F.getD (s * 7 + d) 0 = (q.st.getD s []).getD d 0) (he : (q.st.getD s []).length = e + 1) (hnm : q.mv.length = nm) (hc : q.c = c)
    (h : St W a (cellsR F ((deps q).set s (e : Int)) q.dp (.slice mv (nm + 1) cm) (.slice ao (c + 1) co)) (.slice mv (nm + 1) cm) (nm + 1) (q.mv ++ [UInt8.ofNat (97 + s)]) (.slice ao (c + 1) co) (c + 1) (iota (c + 1)) w) : RunAt W a (popP q s) w := by
  have e1 : deps (popP q s) = (deps q).set s (e : Int) := by
    unfold deps popP
    simp only [List.map_set, List.length_dropLast, he, Nat.add_sub_cancel]
  have e4 : (popP q s).mv.length = nm + 1 := by unfold popP; simp only; rw [List.length_append, hnm]; rfl
  have e5 : (popP q s).c = c + 1 := by unfold popP; simp only; rw [hc]
  refine ⟨F, mv, ao, cm, co, hF, by simp [popP, hS], by simp [popP, hP], ?_, ?_⟩
  · intro t ht
    unfold popP
    simp only
    by_cases hts : t = s
    · subst hts
      rw [getD_set_self (by omega)]
      refine ⟨by rw [List.length_dropLast]; have := (hst t ht).1; omega, fun d hd => ?_⟩
      rw [List.length_dropLast, he] at hd
      rw [drop_at he (by omega)]
      exact (hst t ht).2 d (by omega)
    · rw [getD_set_other (by omega)]
      exact hst t ht
  · rw [e1, e4, e5]
    exact h

set_option maxRecDepth 100000 in
set_option maxHeartbeats 8000000 in
theorem pop_any (zs so : List Int) (ho : Ord zs) (m : Nat) (hm : m ≤ zs.length) (W : World) (a : Nat) (p : Pl) (hI : Inv zs so m p) (w : World) (hw : RunAt W a p w) :
    Calls Try.prog 33 #[.pointer (some ⟨a, 0, none⟩)] w fun e w' => e = .returned (.tuple #[]) ∧ RunAt W a (popAll zs.length p) w' := by
  obtain ⟨i0, hi, hz0, hz1, hz2⟩ := info_parts infoI
  obtain ⟨j0, hj, hy0, hy1, hy2⟩ := info_parts infoB
  have hn7 : zs.length ≤ 7 := ho.2.1
  obtain ⟨n, hn⟩ : ∃ n, zs.length = n := ⟨_, rfl⟩
  have H0 : Hid (PopW zs so m W a p zs.length p w) := Go.Lib.hid ⟨rfl, hI, by omega, hw⟩
  have HO := Go.Lib.hid (And.intro ho (And.intro hm hn))
  rw [hn] at hn7
  obtain ⟨c0, hc0⟩ : ∃ c0, p.c = c0 := ⟨_, rfl⟩
  have hcn : c0 ≤ 7 := by have := hI.cle; omega
  have k37 : ∃ ao co, w.cell? ⟨a, 37, none⟩ = some (.slice ao c0 co) := by
    obtain ⟨F, am, ao, cm, co, hF, hS, hP, hst, hmm, hbm, hbo, hB⟩ := hw
    have hD : (deps p).length = 4 := by rw [deps_len, hS]
    have S0 : St W a (cellsR F (deps p) p.dp (.slice am p.mv.length cm) (.slice ao p.c co)) (.slice am p.mv.length cm) p.mv.length p.mv (.slice ao p.c co) p.c (iota p.c) w := ⟨hmm, hbm, hbo, hB⟩
    rw [← hc0]
    exact ⟨ao, co, S0.cell (cells_ov hF hD hP)⟩
  obtain ⟨aoo, coo, k37⟩ := k37
  have HC0 := Go.Lib.hid hc0
  clear hn hI hw hc0 ho hm
  go_enter Try.func33, Try.ntmps33
  go_wp2_with fail
  go_step3
  go_wp2_with fail
  go_step3
  go_wp2_with fail
  go_loopw [2] (fun lv wr => ∃ (c : Nat) (f : Nat) (q : Pl), c ≤ 7 ∧ lv = .int .i64 ((c : Int) + 1) ∧ Hid (PopW zs so m W a p f q wr ∧ q.c = c)) (fun lv _ => 9 - (intOf lv).toNat)
  case atStart => exact ⟨c0, zs.length, p, hcn, rfl, Go.Lib.hid ⟨H0.out, HC0.out⟩⟩
  case round =>
    obtain ⟨c, f, q, hc7, rfl, HX⟩ := hrel
    clear H0 k37 HC0
    obtain ⟨wo, rfl⟩ : ∃ wo, wo = wr := ⟨_, rfl⟩
    obtain ⟨F, am, ao, cm, co, hF, hS, hP, hst, hmm, hbm, hbo, hB⟩ := HX.out.1.2.2.2
    have hD : (deps q).length = 4 := by rw [deps_len, hS]
    obtain ⟨nm, hnm⟩ : ∃ nm, q.mv.length = nm := ⟨_, rfl⟩
    have hnm14 : nm ≤ 14 := by
      have h1 := HX.out.1.2.1.mvl
      have h2 := HX.out.1.2.1.cle
      have h3 := HO.out.2.1
      have h4 := HO.out.2.2
      omega
    have S0 : Hid (St W a (cellsR F (deps q) q.dp (.slice am nm cm) (.slice ao c co)) (.slice am nm cm) nm q.mv (.slice ao c co) c (iota c) wo) := Go.Lib.hid (by rw [← hnm, ← HX.out.2]; exact ⟨hmm, hbm, hbo, hB⟩)
    obtain ⟨L0, hL0⟩ : ∃ L, (q.st.getD 0 []).length = L := ⟨_, rfl⟩
    obtain ⟨L1, hL1⟩ : ∃ L, (q.st.getD 1 []).length = L := ⟨_, rfl⟩
    obtain ⟨L2, hL2⟩ : ∃ L, (q.st.getD 2 []).length = L := ⟨_, rfl⟩
    obtain ⟨L3, hL3⟩ : ∃ L, (q.st.getD 3 []).length = L := ⟨_, rfl⟩
    have c28 := S0.out.cell (cells_depth hF hD (j := 0) (by omega))
    have c29 := S0.out.cell (cells_depth hF hD (j := 1) (by omega))
    have c30 := S0.out.cell (cells_depth hF hD (j := 2) (by omega))
    have c31 := S0.out.cell (cells_depth hF hD (j := 3) (by omega))
    rw [deps_at hS (by omega)] at c28 c29 c30 c31
    rw [hL0] at c28
    rw [hL1] at c29
    rw [hL2] at c30
    rw [hL3] at c31
    have HH := Go.Lib.hid (And.intro hF (And.intro hS (And.intro hP (And.intro hst (And.intro hD hnm)))))
    have HL := Go.Lib.hid (And.intro hL0 (And.intro hL1 (And.intro hL2 hL3)))
    clear hF hS hP hst hmm hbm hbo hB hD hnm hL0 hL1 hL2 hL3
    go_wp2_with fail
    go_loopw [17] (fun xv wr => ∃ (x : Nat), x ≤ 4 ∧ xv = .int .i64 (x : Int) ∧ wr = wo ∧ Hid (∀ y : Nat, y < x → topIs q y = false)) (fun xv _ => 4 - (intOf xv).toNat)
    case atStart => exact ⟨0, by omega, rfl, rfl, Go.Lib.hid (fun y hy => by omega)⟩
    case round =>
      obtain ⟨x, hx4, rfl, rfl, HY⟩ := hrel
      by_cases hxl : x < 4
      · have hcase : x = 0 ∨ x = 1 ∨ x = 2 ∨ x = 3 := by omega
        rcases hcase with rfl | rfl | rfl | rfl
        · have HLx : Hid ((q.st.getD 0 []).length = L0) := Go.Lib.hid HL.out.1
          clear HL
          have ix : ∀ (v0 v1 v2 v3 : Value) (w : World), (Instr.index 23 (.agg #[v0, v1, v2, v3]) (.int .i64 0)).run Try.prog w = .ok v0 w := fun _ _ _ _ _ => by kernel_rfl
          rcases L0 with _ | e
          · have HN : Hid (∀ y : Nat, y < 0 + 1 → topIs q y = false) := Go.Lib.hid (fun y hy => by
              by_cases h1 : y = 0
              · subst h1; exact topIs_none HLx.out
              · exact HY.out y (by omega))
            go_wp2_with fail
            go_roundw
            case rel => exact ⟨0 + 1, by omega, by go_num, by first | rfl | trivial, HN⟩
            case measure => simp [intOf]
          · have he7 : e < 7 := by have h1 := (HH.out.2.2.2.1 0 (by omega)).1; have h2 := HLx.out; omega
            obtain ⟨z, hz⟩ : ∃ z, (q.st.getD 0 []).getD e 0 = z := ⟨_, rfl⟩
            have htop := topIs_at HLx.out
            rw [hz, HX.out.2] at htop
            have cz := S0.out.cell (cells_stack (D := deps q) (P := q.dp) (mv := .slice am nm cm) (ov := .slice ao c co) HH.out.1 (j := 0 * 7 + e) (by omega))
            rw [(HH.out.2.2.2.1 0 (by omega)).2 e (by rw [HLx.out]; omega), hz] at cz
            rw [Nat.zero_mul, Nat.zero_add] at cz
            have hei : (e : Int) < 7 := by omega
            have HT := Go.Lib.hid htop
            clear htop hz
            by_cases hzc : z = (c : Int) + 1
            · subst hzc
              have ht : topIs q 0 = true := by rw [HT.out]; exact beq_iff_eq.2 rfl
              have HINV := Go.Lib.hid (And.intro ht (inv_pop HO.out.1 HO.out.2.1 (by omega) ht HX.out.1.2.1))
              have hc6 : c < 7 := by have h1 := HINV.out.2.2; have h2 := HO.out.2.2; have h3 := HX.out.2; omega
              have f0 := S0.out.frozen (28 + 0)
              clear ht
              go_wp2_with fail
              go_region
              obtain ⟨w1, hw1⟩ : ∃ w1, (wr.setCell ⟨a, 28 + 0, none⟩ (.int .i64 (e : Int))).drew = w1 := ⟨_, rfl⟩
              have S1 : Hid (St W a (cellsR F ((deps q).set 0 (e : Int)) q.dp (.slice am nm cm) (.slice ao c co)) (.slice am nm cm) nm q.mv (.slice ao c co) c (iota c) w1) := Go.Lib.hid (by
                rw [← hw1, ← set_depth HH.out.1 HH.out.2.2.2.2.1 (by omega)]; exact (S0.out.set _ _).drew)
              try rw [hw1]
              clear hw1 f0 cz c28 c29 c30 c31
              have hD1 : ((deps q).set 0 (e : Int)).length = 4 := by rw [List.length_set]; exact HH.out.2.2.2.2.1
              have c36 := S1.out.cell (cells_mv HH.out.1 hD1 HH.out.2.2.1)
              have hWs := S1.out.2.2.2.size
              go_wp2_with (first
                | (at_builtin; refine wpList_append_own_at _ rfl _ _ 39 rfl W.heap.size 5 j0 (.int .u8 0) 1 1 Try.underlying39 hj hy0 hy1 hy2 rfl (by decide) (.slice am nm cm) nm (bvals q.mv) rfl (World.ownsRow.alloc S1.out.2.1 _) ⟨w1.heap.size, 0, none⟩ 1 1 [.int .u8 97] rfl rfl (cell_one_new _ _ _) (fun u hu => by simp at hu; subst hu; rfl) (by unfold maxLen; omega) (by omega) (by simp; omega) ?_; intro v4 w4 hown4 hgrow4 _ _; obtain ⟨g4, cp4, rfl⟩ := ownsRow_succ hown4; have S4 : Hid (St W a (cellsR F ((deps q).set 0 (e : Int)) q.dp (.slice am nm cm) (.slice ao c co)) (.slice (some ⟨g4, 0, none⟩) (nm + 1) cp4) (nm + 1) (q.mv ++ [UInt8.ofNat (97 + 0)]) (.slice ao c co) c (iota c) w4) := Go.Lib.hid ((S1.out.alloc _).moved (by rw [← bsnoc (chr97 (s := 0) (by omega))]; exact hown4) hgrow4); have c4 := S4.out.cell (cells_mv HH.out.1 hD1 HH.out.2.2.1); have f4 := S4.out.frozen 36; have S5 : Hid (St W a (cellsR F ((deps q).set 0 (e : Int)) q.dp (.slice (some ⟨g4, 0, none⟩) (nm + 1) cp4) (.slice ao c co)) (.slice (some ⟨g4, 0, none⟩) (nm + 1) cp4) (nm + 1) (q.mv ++ [UInt8.ofNat (97 + 0)]) (.slice ao c co) c (iota c) (w4.setCell ⟨a, 36, none⟩ (.slice (some ⟨g4, 0, none⟩) (nm + 1) cp4))) := Go.Lib.hid (by rw [← set_mv (mv := .slice am nm cm) HH.out.1 hD1 HH.out.2.2.1]; exact S4.out.set _ _); have c37 := S5.out.cell (cells_ov HH.out.1 hD1 HH.out.2.2.1); have hWs5 := S5.out.2.2.2.size; clear hown4 hgrow4 c36)
                | (at_builtin; refine wpList_append_own_at _ rfl _ _ 22 rfl W.heap.size 3 i0 (.int .i64 0) 1 8 Try.underlying22 hi hz0 hz1 hz2 rfl (by decide) (.slice ao c co) c (vals (iota c)) rfl (World.ownsRow.alloc S5.out.2.2.1 _) ⟨w4.heap.size, 0, none⟩ 1 1 [.int .i64 ((c : Int) + 1)] rfl rfl (new_at S5.out _) (fun u hu => by simp at hu; subst hu; rfl) (by unfold maxLen; omega) (by omega) ((S5.out.alloc _).2.2.2.size) ?_; intro v6 w6 hown6 hgrow6 _ _; obtain ⟨g6, cp6, rfl⟩ := ownsRow_succ hown6; have S6 : Hid (St W a (cellsR F ((deps q).set 0 (e : Int)) q.dp (.slice (some ⟨g4, 0, none⟩) (nm + 1) cp4) (.slice ao c co)) (.slice (some ⟨g4, 0, none⟩) (nm + 1) cp4) (nm + 1) (q.mv ++ [UInt8.ofNat (97 + 0)]) (.slice (some ⟨g6, 0, none⟩) (c + 1) cp6) (c + 1) (iota (c + 1)) w6) := Go.Lib.hid ((S5.out.alloc _).came (by rw [← iota_snoc]; exact hown6) hgrow6); have c6 := S6.out.cell (cells_ov HH.out.1 hD1 HH.out.2.2.1); have f6 := S6.out.frozen 37; clear hown6 hgrow6 c37))
              have HN : Hid (PopW zs so m W a p (f - 1) (popP q 0) (w6.setCell ⟨a, 37, none⟩ (.slice (some ⟨g6, 0, none⟩) (c + 1) cp6)) ∧ (popP q 0).c = c + 1) := Go.Lib.hid (by
                have h7 := S6.out.set 37 (.slice (some ⟨g6, 0, none⟩) (c + 1) cp6)
                rw [set_ov HH.out.1 hD1 HH.out.2.2.1] at h7
                have h1 := HINV.out.2.2
                have h2 := HX.out.1.2.2.1
                refine ⟨⟨?_, HINV.out.2.1, by simp [popP]; omega, popped (by omega) HH.out.1 HH.out.2.1 HH.out.2.2.1 HH.out.2.2.2.1 HLx.out HH.out.2.2.2.2.2 HX.out.2 h7⟩, by simp [popP, HX.out.2]⟩
                rw [HX.out.1.1]
                obtain ⟨f', rfl⟩ : ∃ f', f = f' + 1 := ⟨f - 1, by omega⟩
                rw [popAll_step (findTop_is (by omega) HINV.out.1 HY.out), Nat.add_sub_cancel])
              go_wp2_with fail
              go_roundw
              case rel => exact ⟨c + 1, f - 1, popP q 0, by omega, by go_num, HN⟩
              case measure => simp [intOf]; omega
            · have hzb : (z == (c : Int) + 1) = false := by rw [beq_eq_false_iff_ne]; exact hzc
              have HN : Hid (∀ y : Nat, y < 0 + 1 → topIs q y = false) := Go.Lib.hid (fun y hy => by
                by_cases h1 : y = 0
                · subst h1; rw [HT.out]; exact hzb
                · exact HY.out y (by omega))
              go_wp2_with fail
              go_roundw
              case rel => exact ⟨0 + 1, by omega, by go_num, by first | rfl | trivial, HN⟩
              case measure => simp [intOf]
        · have HLx : Hid ((q.st.getD 1 []).length = L1) := Go.Lib.hid HL.out.2.1
          clear HL
          have ix : ∀ (v0 v1 v2 v3 : Value) (w : World), (Instr.index 23 (.agg #[v0, v1, v2, v3]) (.int .i64 1)).run Try.prog w = .ok v1 w := fun _ _ _ _ _ => by kernel_rfl
          rcases L1 with _ | e
          · have HN : Hid (∀ y : Nat, y < 1 + 1 → topIs q y = false) := Go.Lib.hid (fun y hy => by
              by_cases h1 : y = 1
              · subst h1; exact topIs_none HLx.out
              · exact HY.out y (by omega))
            go_wp2_with fail
            go_roundw
            case rel => exact ⟨1 + 1, by omega, by go_num, by first | rfl | trivial, HN⟩
            case measure => simp [intOf]
          · have he7 : e < 7 := by have h1 := (HH.out.2.2.2.1 1 (by omega)).1; have h2 := HLx.out; omega
            obtain ⟨z, hz⟩ : ∃ z, (q.st.getD 1 []).getD e 0 = z := ⟨_, rfl⟩
            have htop := topIs_at HLx.out
            rw [hz, HX.out.2] at htop
            have cz := S0.out.cell (cells_stack (D := deps q) (P := q.dp) (mv := .slice am nm cm) (ov := .slice ao c co) HH.out.1 (j := 1 * 7 + e) (by omega))
            rw [(HH.out.2.2.2.1 1 (by omega)).2 e (by rw [HLx.out]; omega), hz] at cz
            have hei : (e : Int) < 7 := by omega
            have HT := Go.Lib.hid htop
            clear htop hz
            by_cases hzc : z = (c : Int) + 1
            · subst hzc
              have ht : topIs q 1 = true := by rw [HT.out]; exact beq_iff_eq.2 rfl
              have HINV := Go.Lib.hid (And.intro ht (inv_pop HO.out.1 HO.out.2.1 (by omega) ht HX.out.1.2.1))
              have hc6 : c < 7 := by have h1 := HINV.out.2.2; have h2 := HO.out.2.2; have h3 := HX.out.2; omega
              have f0 := S0.out.frozen (28 + 1)
              clear ht
              go_wp2_with fail
              go_region
              obtain ⟨w1, hw1⟩ : ∃ w1, (wr.setCell ⟨a, 28 + 1, none⟩ (.int .i64 (e : Int))).drew = w1 := ⟨_, rfl⟩
              have S1 : Hid (St W a (cellsR F ((deps q).set 1 (e : Int)) q.dp (.slice am nm cm) (.slice ao c co)) (.slice am nm cm) nm q.mv (.slice ao c co) c (iota c) w1) := Go.Lib.hid (by
                rw [← hw1, ← set_depth HH.out.1 HH.out.2.2.2.2.1 (by omega)]; exact (S0.out.set _ _).drew)
              try rw [hw1]
              clear hw1 f0 cz c28 c29 c30 c31
              have hD1 : ((deps q).set 1 (e : Int)).length = 4 := by rw [List.length_set]; exact HH.out.2.2.2.2.1
              have c36 := S1.out.cell (cells_mv HH.out.1 hD1 HH.out.2.2.1)
              have hWs := S1.out.2.2.2.size
              go_wp2_with (first
                | (at_builtin; refine wpList_append_own_at _ rfl _ _ 39 rfl W.heap.size 5 j0 (.int .u8 0) 1 1 Try.underlying39 hj hy0 hy1 hy2 rfl (by decide) (.slice am nm cm) nm (bvals q.mv) rfl (World.ownsRow.alloc S1.out.2.1 _) ⟨w1.heap.size, 0, none⟩ 1 1 [.int .u8 98] rfl rfl (cell_one_new _ _ _) (fun u hu => by simp at hu; subst hu; rfl) (by unfold maxLen; omega) (by omega) (by simp; omega) ?_; intro v4 w4 hown4 hgrow4 _ _; obtain ⟨g4, cp4, rfl⟩ := ownsRow_succ hown4; have S4 : Hid (St W a (cellsR F ((deps q).set 1 (e : Int)) q.dp (.slice am nm cm) (.slice ao c co)) (.slice (some ⟨g4, 0, none⟩) (nm + 1) cp4) (nm + 1) (q.mv ++ [UInt8.ofNat (97 + 1)]) (.slice ao c co) c (iota c) w4) := Go.Lib.hid ((S1.out.alloc _).moved (by rw [← bsnoc (chr97 (s := 1) (by omega))]; exact hown4) hgrow4); have c4 := S4.out.cell (cells_mv HH.out.1 hD1 HH.out.2.2.1); have f4 := S4.out.frozen 36; have S5 : Hid (St W a (cellsR F ((deps q).set 1 (e : Int)) q.dp (.slice (some ⟨g4, 0, none⟩) (nm + 1) cp4) (.slice ao c co)) (.slice (some ⟨g4, 0, none⟩) (nm + 1) cp4) (nm + 1) (q.mv ++ [UInt8.ofNat (97 + 1)]) (.slice ao c co) c (iota c) (w4.setCell ⟨a, 36, none⟩ (.slice (some ⟨g4, 0, none⟩) (nm + 1) cp4))) := Go.Lib.hid (by rw [← set_mv (mv := .slice am nm cm) HH.out.1 hD1 HH.out.2.2.1]; exact S4.out.set _ _); have c37 := S5.out.cell (cells_ov HH.out.1 hD1 HH.out.2.2.1); have hWs5 := S5.out.2.2.2.size; clear hown4 hgrow4 c36)
                | (at_builtin; refine wpList_append_own_at _ rfl _ _ 22 rfl W.heap.size 3 i0 (.int .i64 0) 1 8 Try.underlying22 hi hz0 hz1 hz2 rfl (by decide) (.slice ao c co) c (vals (iota c)) rfl (World.ownsRow.alloc S5.out.2.2.1 _) ⟨w4.heap.size, 0, none⟩ 1 1 [.int .i64 ((c : Int) + 1)] rfl rfl (new_at S5.out _) (fun u hu => by simp at hu; subst hu; rfl) (by unfold maxLen; omega) (by omega) ((S5.out.alloc _).2.2.2.size) ?_; intro v6 w6 hown6 hgrow6 _ _; obtain ⟨g6, cp6, rfl⟩ := ownsRow_succ hown6; have S6 : Hid (St W a (cellsR F ((deps q).set 1 (e : Int)) q.dp (.slice (some ⟨g4, 0, none⟩) (nm + 1) cp4) (.slice ao c co)) (.slice (some ⟨g4, 0, none⟩) (nm + 1) cp4) (nm + 1) (q.mv ++ [UInt8.ofNat (97 + 1)]) (.slice (some ⟨g6, 0, none⟩) (c + 1) cp6) (c + 1) (iota (c + 1)) w6) := Go.Lib.hid ((S5.out.alloc _).came (by rw [← iota_snoc]; exact hown6) hgrow6); have c6 := S6.out.cell (cells_ov HH.out.1 hD1 HH.out.2.2.1); have f6 := S6.out.frozen 37; clear hown6 hgrow6 c37))
              have HN : Hid (PopW zs so m W a p (f - 1) (popP q 1) (w6.setCell ⟨a, 37, none⟩ (.slice (some ⟨g6, 0, none⟩) (c + 1) cp6)) ∧ (popP q 1).c = c + 1) := Go.Lib.hid (by
                have h7 := S6.out.set 37 (.slice (some ⟨g6, 0, none⟩) (c + 1) cp6)
                rw [set_ov HH.out.1 hD1 HH.out.2.2.1] at h7
                have h1 := HINV.out.2.2
                have h2 := HX.out.1.2.2.1
                refine ⟨⟨?_, HINV.out.2.1, by simp [popP]; omega, popped (by omega) HH.out.1 HH.out.2.1 HH.out.2.2.1 HH.out.2.2.2.1 HLx.out HH.out.2.2.2.2.2 HX.out.2 h7⟩, by simp [popP, HX.out.2]⟩
                rw [HX.out.1.1]
                obtain ⟨f', rfl⟩ : ∃ f', f = f' + 1 := ⟨f - 1, by omega⟩
                rw [popAll_step (findTop_is (by omega) HINV.out.1 HY.out), Nat.add_sub_cancel])
              go_wp2_with fail
              go_roundw
              case rel => exact ⟨c + 1, f - 1, popP q 1, by omega, by go_num, HN⟩
              case measure => simp [intOf]; omega
            · have hzb : (z == (c : Int) + 1) = false := by rw [beq_eq_false_iff_ne]; exact hzc
              have HN : Hid (∀ y : Nat, y < 1 + 1 → topIs q y = false) := Go.Lib.hid (fun y hy => by
                by_cases h1 : y = 1
                · subst h1; rw [HT.out]; exact hzb
                · exact HY.out y (by omega))
              go_wp2_with fail
              go_roundw
              case rel => exact ⟨1 + 1, by omega, by go_num, by first | rfl | trivial, HN⟩
              case measure => simp [intOf]
        · have HLx : Hid ((q.st.getD 2 []).length = L2) := Go.Lib.hid HL.out.2.2.1
          clear HL
          have ix : ∀ (v0 v1 v2 v3 : Value) (w : World), (Instr.index 23 (.agg #[v0, v1, v2, v3]) (.int .i64 2)).run Try.prog w = .ok v2 w := fun _ _ _ _ _ => by kernel_rfl
          rcases L2 with _ | e
          · have HN : Hid (∀ y : Nat, y < 2 + 1 → topIs q y = false) := Go.Lib.hid (fun y hy => by
              by_cases h1 : y = 2
              · subst h1; exact topIs_none HLx.out
              · exact HY.out y (by omega))
            go_wp2_with fail
            go_roundw
            case rel => exact ⟨2 + 1, by omega, by go_num, by first | rfl | trivial, HN⟩
            case measure => simp [intOf]
          · have he7 : e < 7 := by have h1 := (HH.out.2.2.2.1 2 (by omega)).1; have h2 := HLx.out; omega
            obtain ⟨z, hz⟩ : ∃ z, (q.st.getD 2 []).getD e 0 = z := ⟨_, rfl⟩
            have htop := topIs_at HLx.out
            rw [hz, HX.out.2] at htop
            have cz := S0.out.cell (cells_stack (D := deps q) (P := q.dp) (mv := .slice am nm cm) (ov := .slice ao c co) HH.out.1 (j := 2 * 7 + e) (by omega))
            rw [(HH.out.2.2.2.1 2 (by omega)).2 e (by rw [HLx.out]; omega), hz] at cz
            have hei : (e : Int) < 7 := by omega
            have HT := Go.Lib.hid htop
            clear htop hz
            by_cases hzc : z = (c : Int) + 1
            · subst hzc
              have ht : topIs q 2 = true := by rw [HT.out]; exact beq_iff_eq.2 rfl
              have HINV := Go.Lib.hid (And.intro ht (inv_pop HO.out.1 HO.out.2.1 (by omega) ht HX.out.1.2.1))
              have hc6 : c < 7 := by have h1 := HINV.out.2.2; have h2 := HO.out.2.2; have h3 := HX.out.2; omega
              have f0 := S0.out.frozen (28 + 2)
              clear ht
              go_wp2_with fail
              go_region
              obtain ⟨w1, hw1⟩ : ∃ w1, (wr.setCell ⟨a, 28 + 2, none⟩ (.int .i64 (e : Int))).drew = w1 := ⟨_, rfl⟩
              have S1 : Hid (St W a (cellsR F ((deps q).set 2 (e : Int)) q.dp (.slice am nm cm) (.slice ao c co)) (.slice am nm cm) nm q.mv (.slice ao c co) c (iota c) w1) := Go.Lib.hid (by
                rw [← hw1, ← set_depth HH.out.1 HH.out.2.2.2.2.1 (by omega)]; exact (S0.out.set _ _).drew)
              try rw [hw1]
              clear hw1 f0 cz c28 c29 c30 c31
              have hD1 : ((deps q).set 2 (e : Int)).length = 4 := by rw [List.length_set]; exact HH.out.2.2.2.2.1
              have c36 := S1.out.cell (cells_mv HH.out.1 hD1 HH.out.2.2.1)
              have hWs := S1.out.2.2.2.size
              go_wp2_with (first
                | (at_builtin; refine wpList_append_own_at _ rfl _ _ 39 rfl W.heap.size 5 j0 (.int .u8 0) 1 1 Try.underlying39 hj hy0 hy1 hy2 rfl (by decide) (.slice am nm cm) nm (bvals q.mv) rfl (World.ownsRow.alloc S1.out.2.1 _) ⟨w1.heap.size, 0, none⟩ 1 1 [.int .u8 99] rfl rfl (cell_one_new _ _ _) (fun u hu => by simp at hu; subst hu; rfl) (by unfold maxLen; omega) (by omega) (by simp; omega) ?_; intro v4 w4 hown4 hgrow4 _ _; obtain ⟨g4, cp4, rfl⟩ := ownsRow_succ hown4; have S4 : Hid (St W a (cellsR F ((deps q).set 2 (e : Int)) q.dp (.slice am nm cm) (.slice ao c co)) (.slice (some ⟨g4, 0, none⟩) (nm + 1) cp4) (nm + 1) (q.mv ++ [UInt8.ofNat (97 + 2)]) (.slice ao c co) c (iota c) w4) := Go.Lib.hid ((S1.out.alloc _).moved (by rw [← bsnoc (chr97 (s := 2) (by omega))]; exact hown4) hgrow4); have c4 := S4.out.cell (cells_mv HH.out.1 hD1 HH.out.2.2.1); have f4 := S4.out.frozen 36; have S5 : Hid (St W a (cellsR F ((deps q).set 2 (e : Int)) q.dp (.slice (some ⟨g4, 0, none⟩) (nm + 1) cp4) (.slice ao c co)) (.slice (some ⟨g4, 0, none⟩) (nm + 1) cp4) (nm + 1) (q.mv ++ [UInt8.ofNat (97 + 2)]) (.slice ao c co) c (iota c) (w4.setCell ⟨a, 36, none⟩ (.slice (some ⟨g4, 0, none⟩) (nm + 1) cp4))) := Go.Lib.hid (by rw [← set_mv (mv := .slice am nm cm) HH.out.1 hD1 HH.out.2.2.1]; exact S4.out.set _ _); have c37 := S5.out.cell (cells_ov HH.out.1 hD1 HH.out.2.2.1); have hWs5 := S5.out.2.2.2.size; clear hown4 hgrow4 c36)
                | (at_builtin; refine wpList_append_own_at _ rfl _ _ 22 rfl W.heap.size 3 i0 (.int .i64 0) 1 8 Try.underlying22 hi hz0 hz1 hz2 rfl (by decide) (.slice ao c co) c (vals (iota c)) rfl (World.ownsRow.alloc S5.out.2.2.1 _) ⟨w4.heap.size, 0, none⟩ 1 1 [.int .i64 ((c : Int) + 1)] rfl rfl (new_at S5.out _) (fun u hu => by simp at hu; subst hu; rfl) (by unfold maxLen; omega) (by omega) ((S5.out.alloc _).2.2.2.size) ?_; intro v6 w6 hown6 hgrow6 _ _; obtain ⟨g6, cp6, rfl⟩ := ownsRow_succ hown6; have S6 : Hid (St W a (cellsR F ((deps q).set 2 (e : Int)) q.dp (.slice (some ⟨g4, 0, none⟩) (nm + 1) cp4) (.slice ao c co)) (.slice (some ⟨g4, 0, none⟩) (nm + 1) cp4) (nm + 1) (q.mv ++ [UInt8.ofNat (97 + 2)]) (.slice (some ⟨g6, 0, none⟩) (c + 1) cp6) (c + 1) (iota (c + 1)) w6) := Go.Lib.hid ((S5.out.alloc _).came (by rw [← iota_snoc]; exact hown6) hgrow6); have c6 := S6.out.cell (cells_ov HH.out.1 hD1 HH.out.2.2.1); have f6 := S6.out.frozen 37; clear hown6 hgrow6 c37))
              have HN : Hid (PopW zs so m W a p (f - 1) (popP q 2) (w6.setCell ⟨a, 37, none⟩ (.slice (some ⟨g6, 0, none⟩) (c + 1) cp6)) ∧ (popP q 2).c = c + 1) := Go.Lib.hid (by
                have h7 := S6.out.set 37 (.slice (some ⟨g6, 0, none⟩) (c + 1) cp6)
                rw [set_ov HH.out.1 hD1 HH.out.2.2.1] at h7
                have h1 := HINV.out.2.2
                have h2 := HX.out.1.2.2.1
                refine ⟨⟨?_, HINV.out.2.1, by simp [popP]; omega, popped (by omega) HH.out.1 HH.out.2.1 HH.out.2.2.1 HH.out.2.2.2.1 HLx.out HH.out.2.2.2.2.2 HX.out.2 h7⟩, by simp [popP, HX.out.2]⟩
                rw [HX.out.1.1]
                obtain ⟨f', rfl⟩ : ∃ f', f = f' + 1 := ⟨f - 1, by omega⟩
                rw [popAll_step (findTop_is (by omega) HINV.out.1 HY.out), Nat.add_sub_cancel])
              go_wp2_with fail
              go_roundw
              case rel => exact ⟨c + 1, f - 1, popP q 2, by omega, by go_num, HN⟩
              case measure => simp [intOf]; omega
            · have hzb : (z == (c : Int) + 1) = false := by rw [beq_eq_false_iff_ne]; exact hzc
              have HN : Hid (∀ y : Nat, y < 2 + 1 → topIs q y = false) := Go.Lib.hid (fun y hy => by
                by_cases h1 : y = 2
                · subst h1; rw [HT.out]; exact hzb
                · exact HY.out y (by omega))
              go_wp2_with fail
              go_roundw
              case rel => exact ⟨2 + 1, by omega, by go_num, by first | rfl | trivial, HN⟩
              case measure => simp [intOf]
        · have HLx : Hid ((q.st.getD 3 []).length = L3) := Go.Lib.hid HL.out.2.2.2
          clear HL
          have ix : ∀ (v0 v1 v2 v3 : Value) (w : World), (Instr.index 23 (.agg #[v0, v1, v2, v3]) (.int .i64 3)).run Try.prog w = .ok v3 w := fun _ _ _ _ _ => by kernel_rfl
          rcases L3 with _ | e
          · have HN : Hid (∀ y : Nat, y < 3 + 1 → topIs q y = false) := Go.Lib.hid (fun y hy => by
              by_cases h1 : y = 3
              · subst h1; exact topIs_none HLx.out
              · exact HY.out y (by omega))
            go_wp2_with fail
            go_roundw
            case rel => exact ⟨3 + 1, by omega, by go_num, by first | rfl | trivial, HN⟩
            case measure => simp [intOf]
          · have he7 : e < 7 := by have h1 := (HH.out.2.2.2.1 3 (by omega)).1; have h2 := HLx.out; omega
            obtain ⟨z, hz⟩ : ∃ z, (q.st.getD 3 []).getD e 0 = z := ⟨_, rfl⟩
            have htop := topIs_at HLx.out
            rw [hz, HX.out.2] at htop
            have cz := S0.out.cell (cells_stack (D := deps q) (P := q.dp) (mv := .slice am nm cm) (ov := .slice ao c co) HH.out.1 (j := 3 * 7 + e) (by omega))
            rw [(HH.out.2.2.2.1 3 (by omega)).2 e (by rw [HLx.out]; omega), hz] at cz
            have hei : (e : Int) < 7 := by omega
            have HT := Go.Lib.hid htop
            clear htop hz
            by_cases hzc : z = (c : Int) + 1
            · subst hzc
              have ht : topIs q 3 = true := by rw [HT.out]; exact beq_iff_eq.2 rfl
              have HINV := Go.Lib.hid (And.intro ht (inv_pop HO.out.1 HO.out.2.1 (by omega) ht HX.out.1.2.1))
              have hc6 : c < 7 := by have h1 := HINV.out.2.2; have h2 := HO.out.2.2; have h3 := HX.out.2; omega
              have f0 := S0.out.frozen (28 + 3)
              clear ht
              go_wp2_with fail
              go_region
              obtain ⟨w1, hw1⟩ : ∃ w1, (wr.setCell ⟨a, 28 + 3, none⟩ (.int .i64 (e : Int))).drew = w1 := ⟨_, rfl⟩
              have S1 : Hid (St W a (cellsR F ((deps q).set 3 (e : Int)) q.dp (.slice am nm cm) (.slice ao c co)) (.slice am nm cm) nm q.mv (.slice ao c co) c (iota c) w1) := Go.Lib.hid (by
                rw [← hw1, ← set_depth HH.out.1 HH.out.2.2.2.2.1 (by omega)]; exact (S0.out.set _ _).drew)
              try rw [hw1]
              clear hw1 f0 cz c28 c29 c30 c31
              have hD1 : ((deps q).set 3 (e : Int)).length = 4 := by rw [List.length_set]; exact HH.out.2.2.2.2.1
              have c36 := S1.out.cell (cells_mv HH.out.1 hD1 HH.out.2.2.1)
              have hWs := S1.out.2.2.2.size
              go_wp2_with (first
                | (at_builtin; refine wpList_append_own_at _ rfl _ _ 39 rfl W.heap.size 5 j0 (.int .u8 0) 1 1 Try.underlying39 hj hy0 hy1 hy2 rfl (by decide) (.slice am nm cm) nm (bvals q.mv) rfl (World.ownsRow.alloc S1.out.2.1 _) ⟨w1.heap.size, 0, none⟩ 1 1 [.int .u8 100] rfl rfl (cell_one_new _ _ _) (fun u hu => by simp at hu; subst hu; rfl) (by unfold maxLen; omega) (by omega) (by simp; omega) ?_; intro v4 w4 hown4 hgrow4 _ _; obtain ⟨g4, cp4, rfl⟩ := ownsRow_succ hown4; have S4 : Hid (St W a (cellsR F ((deps q).set 3 (e : Int)) q.dp (.slice am nm cm) (.slice ao c co)) (.slice (some ⟨g4, 0, none⟩) (nm + 1) cp4) (nm + 1) (q.mv ++ [UInt8.ofNat (97 + 3)]) (.slice ao c co) c (iota c) w4) := Go.Lib.hid ((S1.out.alloc _).moved (by rw [← bsnoc (chr97 (s := 3) (by omega))]; exact hown4) hgrow4); have c4 := S4.out.cell (cells_mv HH.out.1 hD1 HH.out.2.2.1); have f4 := S4.out.frozen 36; have S5 : Hid (St W a (cellsR F ((deps q).set 3 (e : Int)) q.dp (.slice (some ⟨g4, 0, none⟩) (nm + 1) cp4) (.slice ao c co)) (.slice (some ⟨g4, 0, none⟩) (nm + 1) cp4) (nm + 1) (q.mv ++ [UInt8.ofNat (97 + 3)]) (.slice ao c co) c (iota c) (w4.setCell ⟨a, 36, none⟩ (.slice (some ⟨g4, 0, none⟩) (nm + 1) cp4))) := Go.Lib.hid (by rw [← set_mv (mv := .slice am nm cm) HH.out.1 hD1 HH.out.2.2.1]; exact S4.out.set _ _); have c37 := S5.out.cell (cells_ov HH.out.1 hD1 HH.out.2.2.1); have hWs5 := S5.out.2.2.2.size; clear hown4 hgrow4 c36)
                | (at_builtin; refine wpList_append_own_at _ rfl _ _ 22 rfl W.heap.size 3 i0 (.int .i64 0) 1 8 Try.underlying22 hi hz0 hz1 hz2 rfl (by decide) (.slice ao c co) c (vals (iota c)) rfl (World.ownsRow.alloc S5.out.2.2.1 _) ⟨w4.heap.size, 0, none⟩ 1 1 [.int .i64 ((c : Int) + 1)] rfl rfl (new_at S5.out _) (fun u hu => by simp at hu; subst hu; rfl) (by unfold maxLen; omega) (by omega) ((S5.out.alloc _).2.2.2.size) ?_; intro v6 w6 hown6 hgrow6 _ _; obtain ⟨g6, cp6, rfl⟩ := ownsRow_succ hown6; have S6 : Hid (St W a (cellsR F ((deps q).set 3 (e : Int)) q.dp (.slice (some ⟨g4, 0, none⟩) (nm + 1) cp4) (.slice ao c co)) (.slice (some ⟨g4, 0, none⟩) (nm + 1) cp4) (nm + 1) (q.mv ++ [UInt8.ofNat (97 + 3)]) (.slice (some ⟨g6, 0, none⟩) (c + 1) cp6) (c + 1) (iota (c + 1)) w6) := Go.Lib.hid ((S5.out.alloc _).came (by rw [← iota_snoc]; exact hown6) hgrow6); have c6 := S6.out.cell (cells_ov HH.out.1 hD1 HH.out.2.2.1); have f6 := S6.out.frozen 37; clear hown6 hgrow6 c37))
              have HN : Hid (PopW zs so m W a p (f - 1) (popP q 3) (w6.setCell ⟨a, 37, none⟩ (.slice (some ⟨g6, 0, none⟩) (c + 1) cp6)) ∧ (popP q 3).c = c + 1) := Go.Lib.hid (by
                have h7 := S6.out.set 37 (.slice (some ⟨g6, 0, none⟩) (c + 1) cp6)
                rw [set_ov HH.out.1 hD1 HH.out.2.2.1] at h7
                have h1 := HINV.out.2.2
                have h2 := HX.out.1.2.2.1
                refine ⟨⟨?_, HINV.out.2.1, by simp [popP]; omega, popped (by omega) HH.out.1 HH.out.2.1 HH.out.2.2.1 HH.out.2.2.2.1 HLx.out HH.out.2.2.2.2.2 HX.out.2 h7⟩, by simp [popP, HX.out.2]⟩
                rw [HX.out.1.1]
                obtain ⟨f', rfl⟩ : ∃ f', f = f' + 1 := ⟨f - 1, by omega⟩
                rw [popAll_step (findTop_is (by omega) HINV.out.1 HY.out), Nat.add_sub_cancel])
              go_wp2_with fail
              go_roundw
              case rel => exact ⟨c + 1, f - 1, popP q 3, by omega, by go_num, HN⟩
              case measure => simp [intOf]; omega
            · have hzb : (z == (c : Int) + 1) = false := by rw [beq_eq_false_iff_ne]; exact hzc
              have HN : Hid (∀ y : Nat, y < 3 + 1 → topIs q y = false) := Go.Lib.hid (fun y hy => by
                by_cases h1 : y = 3
                · subst h1; rw [HT.out]; exact hzb
                · exact HY.out y (by omega))
              go_wp2_with fail
              go_roundw
              case rel => exact ⟨3 + 1, by omega, by go_num, by first | rfl | trivial, HN⟩
              case measure => simp [intOf]
      · have hx4' : x = 4 := by omega
        subst hx4'
        go_wp2_with fail
        rw [Exit.noGoto_ret]
        refine bodyPost_ret (results_none rfl _ _ _) rfl ?_
        refine ⟨rfl, ?_⟩
        rw [HX.out.1.1, popAll_end (findTop_not HY.out)]
        exact HX.out.1.2.2.2

end Go.Proofs.Yteiocoahllnoeab.RunP2C

/-
  Contract: BadTriple of the model. Conditions: lists of at most 2^20 numbers.
-/
namespace Go.Proofs.Yteiocoahllnoeab.BadCC
open Go.RowKit SeesC IntsC ExactC NumC IterC OrdMath InC OrderC PatMath BadM RunC PubC ListsC

theorem arr_below {w W : World} {B g : Nat} (hg : B ≤ g) (h : Below B W w) (a b c : Value) : Below B W (((w.setCell ⟨g, 0, none⟩ a).setCell ⟨g, 1, none⟩ b).setCell ⟨g, 2, none⟩ c) :=
  ((h.setCell (p := ⟨g, 0, none⟩) hg a).setCell (p := ⟨g, 1, none⟩) hg b).setCell (p := ⟨g, 2, none⟩) hg c

theorem out_step {zs : List Int} {n i : Nat} (hl : zs.length = n) (hi : i < n) : outr zs (n - i) i = (mid zs i (n - (i + 1)) (i + 1)).or (outr zs (n - (i + 1)) (i + 1)) := by
  rw [show n - i = (n - (i + 1)) + 1 by omega]
  conv => lhs; unfold outr
  rw [hl]
  cases mid zs i (n - (i + 1)) (i + 1) <;> rfl
theorem mid_step {zs : List Int} {n i k : Nat} (hl : zs.length = n) (hk : k < n) : mid zs i (n - k) k = (inn zs i k (n - (k + 1)) (k + 1)).or (mid zs i (n - (k + 1)) (k + 1)) := by
  rw [show n - k = (n - (k + 1)) + 1 by omega]
  conv => lhs; unfold mid
  rw [hl]
  cases inn zs i k (n - (k + 1)) (k + 1) <;> rfl
theorem inn_yes {zs : List Int} {n i k j : Nat} (hj : j < n) (h : bad zs i k j = true) : inn zs i k (n - j) j = some [i, k, j] := by
  rw [show n - j = (n - (j + 1)) + 1 by omega]
  conv => lhs; unfold inn
  rw [if_pos h]
theorem inn_no {zs : List Int} {n i k j : Nat} (hj : j < n) (h : bad zs i k j = false) : inn zs i k (n - j) j = inn zs i k (n - (j + 1)) (j + 1) := by
  rw [show n - j = (n - (j + 1)) + 1 by omega]
  conv => lhs; unfold inn
  rw [if_neg (by rw [h]; simp)]

def badT (zs : List Int) : (Int × Int × Int) × Bool := if Ord zs then (match badOf zs with | some [i, k, j] => (((i : Int), (k : Int), (j : Int)), true) | _ => ((0, 0, 0), false)) else ((0, 0, 0), false)

theorem ord231 : Ord [2, 3, 1] := by decide

theorem bad_link {zs : List Int} {a b c : Int} {ok : Bool} (h : badT zs = ((a, b, c), ok)) :
    ∃ xs, firstAns zs [2, 3, 1] = (xs, ok) ∧ ((ok = true ∧ xs = [a, b, c]) ∨ (ok = false ∧ a = 0 ∧ b = 0 ∧ c = 0)) := by
  unfold badT at h
  unfold firstAns
  by_cases ho : Ord zs
  · rw [if_pos ho, bad_first] at h
    cases hp : placesOf zs [2, 3, 1] with
    | nil =>
      rw [hp] at h
      cases h
      have hn : ¬ (Ord zs ∧ Ord [2, 3, 1] ∧ has zs [2, 3, 1] = true) := by
        rintro ⟨_, _, hh⟩
        have h2 := has_len.1 hh
        rw [hp] at h2
        simp at h2
      rw [if_neg hn]
      exact ⟨_, rfl, .inr ⟨rfl, rfl, rfl, rfl⟩⟩
    | cons q t =>
      have hy : Ord zs ∧ Ord [2, 3, 1] ∧ has zs [2, 3, 1] = true := ⟨ho, ord231, has_len.2 (by rw [hp]; simp)⟩
      rw [if_pos hy]
      have hl : q.length = 3 := places_len (zs := zs) (pat := [2, 3, 1]) (by rw [hp]; simp)
      obtain ⟨i, k, j, rfl⟩ : ∃ i k j, q = [i, k, j] := by
        match q, hl with
        | [i, k, j], _ => exact ⟨i, k, j, rfl⟩
      rw [hp] at h
      cases h
      exact ⟨_, rfl, .inl ⟨rfl, rfl⟩⟩
  · rw [if_neg ho] at h
    cases h
    rw [if_neg (fun h => ho h.1)]
    exact ⟨_, rfl, .inr ⟨rfl, rfl, rfl, rfl⟩⟩

end Go.Proofs.Yteiocoahllnoeab.BadCC

/-
  Contract: the program's runBeside: all moves of an order by a sharing. Conditions: an order and one of its sharings.
-/
namespace Go.Proofs.Yteiocoahllnoeab.RunBC
open Go.RowKit SeesC IntsC ExactC NumC IterC OrdMath BesM PlayM WordMath InC OrderC WordC RunC ToC ListsC SameC AppendTwoC GreedyC RunPC RunP2C BigC
set_option linter.unusedVariables false

/-- What a run leaves behind: the struct's cells, and what they point to. -/
def Ran (W : World) (p : Pl) (e : Ending) (w : World) : Prop := ∃ (F : List Int) (am ao : Option Addr) (cm co : Nat),
  F.length = 28 ∧ e = .returned (.agg (cellsR F (deps p) p.dp (.slice am p.mv.length cm) (.slice ao p.c co)).toArray) ∧
  w.ownsRow W.heap.size 5 1 (.slice am p.mv.length cm) p.mv.length (bvals p.mv) ∧
  w.ownsRow W.heap.size 3 1 (.slice ao p.c co) p.c (vals (iota p.c)) ∧ Below W.heap.size W w

theorem run0 (W : World) (w : World) (hb : Below W.heap.size W w) : RunAt W w.heap.size pl0 (w.alloc (.cells (cellsR (List.replicate 28 0) [0, 0, 0, 0] [0, 0, 0, 0] (.slice none 0 0) (.slice none 0 0)).toArray 41)) := by
  refine ⟨List.replicate 28 0, none, none, 0, 0, rfl, rfl, rfl, ?_, ?_, ?_, ?_, hb.alloc hb.size _⟩
  · intro s hs
    have : s = 0 ∨ s = 1 ∨ s = 2 ∨ s = 3 := by omega
    rcases this with rfl | rfl | rfl | rfl <;> exact ⟨by decide, fun d hd => by simp [pl0] at hd⟩
  · exact World.ownsRow_lit w _ 1 hb.size (by unfold maxLen; omega) rfl
  · exact World.ownsRow_nil _ _ _ _
  · exact World.ownsRow_nil _ _ _ _

def zcells : List Value := cellsR (List.replicate 28 0) [0, 0, 0, 0] [0, 0, 0, 0] (.slice none 0 0) (.slice none 0 0)

theorem infoRun : (Try.prog.info? 41).map (fun i => (i.zero, i.size)) = some (some (.agg zcells.toArray), 38) := by kernel_rfl
theorem builtRun : Try.prog.built 41 [] = some zcells.toArray := by kernel_rfl
theorem sizeRun (cs : Array Value) (h : cs.size = 38) : (Try.prog.info? 41).map (·.size) = some cs.size := by rw [h]; kernel_rfl

theorem oneRun {F D P : List Int} {a b : Option Addr} {n c m d : Nat} : (cellsR F D P (.slice a n c) (.slice b m d)).toArray.all (·.oneCell') = true := by
  refine all_oneCell_toArray fun v hv => ?_
  unfold cellsR at hv
  simp only [List.mem_append, List.mem_map, List.mem_cons, List.not_mem_nil, or_false] at hv
  rcases hv with ⟨x, _, rfl⟩ | ⟨x, _, rfl⟩ | ⟨x, _, rfl⟩ | rfl | rfl <;> rfl

theorem stBlock {W : World} {a : Nat} {C : List Value} {mv : Value} {nm : Nat} {ml : List UInt8} {ov : Value} {no : Nat} {ol : List Int} {w : World} (h : St W a C mv nm ml ov no ol w) : w.heap[a]? = some (.cells C.toArray 41 (0, 0)) := by
  rcases h.1.2 with ⟨h1, _⟩ | ⟨g, cap, cur, e, _, hg, _, _, hcs, ht⟩
  · simp at h1
  · simp only [Value.slice.injEq, Option.some.injEq, Addr.mk.injEq, and_true, true_and] at e
    obtain ⟨rfl, rfl⟩ := e
    rw [hg, ← ht, List.take_of_length_le (by rw [Array.length_toList, hcs]; exact Nat.le_refl _)]

theorem setRow_grown (w : World) (g : Nat) (cs : Array Value) : w.grownBy (w.setRow g cs) (some g) :=
  ⟨rfl, rfl, rfl, by simp [World.setRow], fun k _ hk => setRow_other w g k _ (fun e => hk (by simp [e]))⟩

set_option maxRecDepth 100000 in
set_option maxHeartbeats 8000000 in
theorem run_any (zs so : List Int) (ho : Ord zs) (hsh : Sh zs so) (W : World) (v : Value) (n : Nat) (hv : Sees W v n (vals zs)) (u : Value) (hu : Sees W u n (vals so)) :
    Calls Try.prog 20 #[v, u] W fun e w' => Ran W (play zs so n) e w' := by
  have hl : zs.length = n := by simpa using hv.1
  have hn7 : n ≤ 7 := by have := ho.2.1; omega
  have hn1 : 1 ≤ n := by have := ho.1; omega
  obtain ⟨b, o, cap, rfl, _, _, hbl, hcell⟩ := sees_cells hv (by omega)
  obtain ⟨b2, o2, cap2, rfl, _, _, hbl2, hcell2⟩ := sees_cells hu (by omega)
  have HC := Go.Lib.hid hcell
  have HC2 := Go.Lib.hid hcell2
  have HL := Go.Lib.hid (And.intro hl (And.intro ho hsh))
  clear hcell hcell2 hl hv hu ho hsh
  go_enter Try.func20, Try.ntmps20
  have H0 : Hid (RunAt (W.alloc (.cells zcells.toArray 41)) (W.heap.size + 1) pl0 ((W.alloc (.cells zcells.toArray 41)).alloc (.cells zcells.toArray 41))) := Go.Lib.hid (by
    have h := run0 (W.alloc (.cells zcells.toArray 41)) (W.alloc (.cells zcells.toArray 41)) (Below.refl _ _)
    have e : (W.alloc (.cells zcells.toArray 41)).heap.size = W.heap.size + 1 := by simp
    rw [e] at h
    exact h)
  have HW1 : Hid ((W.alloc (.cells zcells.toArray 41)).heap.size = W.heap.size + 1 ∧ (W.alloc (.cells zcells.toArray 41)).heap[W.heap.size]? = some (.cells zcells.toArray 41 (0, 0)) ∧ Below W.heap.size W (W.alloc (.cells zcells.toArray 41))) := Go.Lib.hid ⟨by simp, heap_alloc_new _ _, (Below.refl _ _).alloc (Nat.le_refl _) _⟩
  have hZs : zcells.toArray.size = 38 := rfl
  have hZ1 : zcells.toArray.all (·.oneCell') = true := oneRun
  have hIZ := sizeRun zcells.toArray hZs
  go_wp2_with (first
    | (refine wpList_alloc_agg rfl _ rfl zcells.toArray 38 infoRun ?_)
    | (refine wpList_build_is rfl _ rfl zcells.toArray builtRun ?_)
    | (refine wpList_store_new rfl _ _ _ rfl _ zcells.toArray zcells.toArray rfl rfl rfl hIZ rfl hZ1 ?_))
  obtain ⟨W1, hW1⟩ : ∃ W1, W.alloc (.cells zcells.toArray 41) = W1 := ⟨_, rfl⟩
  rw [hW1] at H0 HW1 ⊢
  clear hW1
  go_loopw [11] (fun iv wr => ∃ (i : Nat), i ≤ n ∧ iv = .int .i64 (i : Int) ∧ Hid (RunAt W1 (W.heap.size + 1) (play zs so i) wr)) (fun iv _ => n - (intOf iv).toNat)
  case atStart => exact ⟨0, Nat.zero_le _, rfl, H0⟩
  case round =>
    obtain ⟨i, hin, rfl, HX⟩ := hrel
    clear H0
    obtain ⟨wo, rfl⟩ : ∃ wo, wo = wr := ⟨_, rfl⟩
    have hbW : Hid (Below W.heap.size W wo) := Go.Lib.hid (by
      obtain ⟨_, _, _, _, _, _, _, _, _, _, _, _, hB⟩ := HX.out
      exact HW1.out.2.2.trans (hB.mono (by rw [HW1.out.1]; omega)))
    by_cases hlt : i < n
    · have hck := (hbW.out.cell (p := ⟨b, o + i, none⟩) hbl).trans (HC.out i (by have := HL.out.1; omega))
      have hck2 := (hbW.out.cell (p := ⟨b2, o2 + i, none⟩) hbl2).trans (HC2.out i (by have := HL.out.1; have := HL.out.2.2.1; omega))
      obtain ⟨s, hs, hso⟩ := HL.out.2.2.at (i := i) (by have := HL.out.1; omega)
      obtain ⟨x, hx⟩ : ∃ x, zs.getD i 0 = x := ⟨_, rfl⟩
      rw [hx] at hck
      rw [hso] at hck2
      obtain ⟨hI, _⟩ := inv_play HL.out.2.1 HL.out.2.2 i (by have := HL.out.1; omega)
      have hlen7 : ((play zs so i).st.getD s []).length < 7 := by
        rw [hI.st s hs]
        have := onS_len zs so s i (play zs so i).c
        omega
      have CP := Go.Lib.hid (push_any W1 (W.heap.size + 1) (play zs so i) wo HX.out s hs x hlen7 (by have := hI.mvl; have := hI.cle; have := HL.out.1; omega))
      have hI2 := inv_push HL.out.2.1 (by have := HL.out.1; omega) hs hso hI
      rw [hx] at hI2
      have CQ := Go.Lib.hid (fun (w : World) (hw : RunAt W1 (W.heap.size + 1) (pushP (play zs so i) s x) w) => pop_any zs so HL.out.2.1 (i + 1) (by have := HL.out.1; omega) W1 (W.heap.size + 1) (pushP (play zs so i) s x) hI2 w hw)
      have HE : Hid (popAll zs.length (pushP (play zs so i) s x) = play zs so (i + 1)) := Go.Lib.hid (by
        show _ = popAll zs.length (pushP (play zs so i) (so.getD i 0).toNat (zs.getD i 0))
        rw [hso, hx, Int.toNat_natCast])
      have hlti : (i : Int) < (n : Int) := by omega
      clear hI hI2 hlen7 hx hso
      go_wp2_with fail
      refine (CP.out).mono ?_
      rintro e w2 ⟨rfl, hr2⟩
      have HR2 := Go.Lib.hid hr2
      clear hr2 CP
      go_wp2_with fail
      refine (CQ.out _ HR2.out).mono ?_
      rintro e w3 ⟨rfl, hr3⟩
      rw [HE.out] at hr3
      have HR3 := Go.Lib.hid hr3
      clear hr3 CQ
      go_wp2_with fail
      go_roundw
      case rel => exact ⟨i + 1, by omega, by go_num, HR3⟩
      case measure => simp [intOf]; omega
    · have hni : i = n := by omega
      subst hni
      obtain ⟨F, am, ao, cm, co, hF, hS, hP, hst, hm, hbm, hbo, hB⟩ := HX.out
      have hD : (deps (play zs so i)).length = 4 := by rw [deps_len, hS]
      obtain ⟨C, hC⟩ : ∃ C, cellsR F (deps (play zs so i)) (play zs so i).dp (.slice am (play zs so i).mv.length cm) (.slice ao (play zs so i).c co) = C := ⟨_, rfl⟩
      have hC1 : C.toArray.all (·.oneCell') = true := by rw [← hC]; exact oneRun
      have hCs : C.toArray.size = 38 := by rw [← hC]; unfold cellsR; simp [hF, hD, hP]
      rw [hC] at hm
      have HS : Hid (St W1 (W.heap.size + 1) C (.slice am (play zs so i).mv.length cm) (play zs so i).mv.length (play zs so i).mv (.slice ao (play zs so i).c co) (play zs so i).c (iota (play zs so i).c) wo) := Go.Lib.hid ⟨hm, hbm, hbo, hB⟩
      have hblk := stBlock HS.out
      have hres : wo.heap[W.heap.size]? = some (.cells zcells.toArray 41 (0, 0)) := by
        rw [HS.out.2.2.2.block W.heap.size (by rw [HW1.out.1]; omega)]; exact HW1.out.2.1
      have hIC := sizeRun C.toArray hCs
      have HF := Go.Lib.hid (And.intro hF hC)
      clear hm hbm hbo hB hst hS hP hF hC hD
      go_wp2_with (first
        | (refine wpList_load_row rfl _ _ rfl (W.heap.size + 1) rfl 41 C.toArray (0, 0) _ hblk Try.underlying41 rfl hIC ?_)
        | (refine wpList_store_row rfl _ _ _ rfl W.heap.size C.toArray rfl rfl 41 zcells.toArray hres hIC (by rw [hCs]; rfl) hC1 ?_))
      refine bodyPost_ret (v := .agg C.toArray) (results_cell_row rfl _ _ W.heap.size 41 C.toArray (0, 0) _ rfl (setRow_heap _ _ _ _ _ _ hres) Try.underlying41 rfl hIC) rfl ?_
      have hg := setRow_grown wo W.heap.size C.toArray
      have hWle : W.heap.size ≤ W1.heap.size := by rw [HW1.out.1]; omega
      have hB := HW1.out.2.2.trans (HS.out.2.2.2.mono hWle)
      refine ⟨F, am, ao, cm, co, HF.out.1, by rw [HF.out.2], own_lower2 (own_mark HS.out.2.1 hg (fun q hq e => ?_)) hWle, own_lower2 (own_mark HS.out.2.2.1 hg (fun q hq e => ?_)) hWle, hB.grown hg hB.size (fun q hq => by cases hq; exact Nat.le_refl _)⟩
      · cases e
        have := (HS.out.2.1.lt _ hq).1
        rw [HW1.out.1] at this; omega
      · cases e
        have := (HS.out.2.2.1.lt _ hq).1
        rw [HW1.out.1] at this; omega

end Go.Proofs.Yteiocoahllnoeab.RunBC

/-
  The fields of what a run leaves behind, and whether four numbers are all nought. Conditions: none.
-/
namespace Go.Proofs.Yteiocoahllnoeab.RunFC
open Go.RowKit SeesC IntsC ExactC OrdMath BesM PlayM ListsC RunPC RunBC BigC
set_option linter.unusedVariables false
set_option linter.unusedSimpArgs false

theorem fldAgg1 (cs : Array Value) (w : World) : (Instr.field 41 (.agg cs) 1).run Try.prog w = .ok (.agg (cs.extract 28 32)) w := by kernel_rfl
theorem fldAgg2 (cs : Array Value) (w : World) : (Instr.field 41 (.agg cs) 2).run Try.prog w = .ok (.agg (cs.extract 32 36)) w := by kernel_rfl
theorem fld3 (cs : Array Value) (w : World) : (Instr.field 41 (.agg cs) 3).run Try.prog w = (part 39 cs 36).run Try.prog w := by kernel_rfl
theorem fld4 (cs : Array Value) (w : World) : (Instr.field 41 (.agg cs) 4).run Try.prog w = (part 22 cs 37).run Try.prog w := by kernel_rfl

section
variable {F D P : List Int} {mv ov : Value}

theorem runMoves (hF : F.length = 28) (hD : D.length = 4) (hP : P.length = 4) (w : World) : (Instr.field 41 (.agg (cellsR F D P mv ov).toArray) 3).run Try.prog w = .ok mv w := by
  rw [fld3]
  have h : (cellsR F D P mv ov).toArray[36]? = some mv := by rw [List.getElem?_toArray]; exact cells_mv hF hD hP
  simp [part, isAgg, run_underlying Try.underlying39, h]

theorem runOut (hF : F.length = 28) (hD : D.length = 4) (hP : P.length = 4) (w : World) : (Instr.field 41 (.agg (cellsR F D P mv ov).toArray) 4).run Try.prog w = .ok ov w := by
  rw [fld4]
  have h : (cellsR F D P mv ov).toArray[37]? = some ov := by rw [List.getElem?_toArray]; exact cells_ov hF hD hP
  simp [part, isAgg, run_underlying Try.underlying22, h]

theorem runDepths (hF : F.length = 28) (hD : D.length = 4) (w : World) : (Instr.field 41 (.agg (cellsR F D P mv ov).toArray) 1).run Try.prog w = .ok (.agg (vals D).toArray) w := by
  rw [fldAgg1]
  have h : (cellsR F D P mv ov).toArray.extract 28 32 = (vals D).toArray := by
    unfold cellsR
    simp [hF, hD]
  rw [h]

theorem runMost (hF : F.length = 28) (hD : D.length = 4) (hP : P.length = 4) (w : World) : (Instr.field 41 (.agg (cellsR F D P mv ov).toArray) 2).run Try.prog w = .ok (.agg (vals P).toArray) w := by
  rw [fldAgg2]
  have h : (cellsR F D P mv ov).toArray.extract 32 36 = (vals P).toArray := by
    unfold cellsR
    have e : vals F ++ (vals D ++ (vals P ++ [mv, ov])) = (vals F ++ vals D) ++ (vals P ++ [mv, ov]) := by simp
    have e2 : (vals F ++ vals D).length = 32 := by simp [hF, hD]
    have e3 : (vals P).length = 4 := by simp [hP]
    have e4 : List.take 4 (List.drop 32 (vals F ++ (vals D ++ (vals P ++ [mv, ov])))) = vals P := by
      rw [e, List.drop_left' e2, List.take_left' e3]
    simpa using e4
  rw [h]
end

theorem eqA4 (a b c d x y z u : Int) (W : World) : (Op.equalIn 10000 23 (.agg #[.int .i64 a, .int .i64 b, .int .i64 c, .int .i64 d]) (.agg #[.int .i64 x, .int .i64 y, .int .i64 z, .int .i64 u])).run Try.prog W = .ok (decide (a = x ∧ b = y ∧ c = z ∧ d = u)) W := by
  have hp : Try.prog.plainKey 3 = true := by kernel_rfl
  have hc : Try.prog.cellsOf 3 = 1 := by kernel_rfl
  obtain ⟨i, hi⟩ : ∃ i, Try.prog.info? 3 = some i := info_of_underlying Try.underlying3
  have p0 := fun (a b c d : Int) => run_part_plain (P := Try.prog) (w := W) hp (xs := #[.int .i64 a, .int .i64 b, .int .i64 c, .int .i64 d]) (off := 0) (v := .int .i64 a) rfl
  have p1 := fun (a b c d : Int) => run_part_plain (P := Try.prog) (w := W) hp (xs := #[.int .i64 a, .int .i64 b, .int .i64 c, .int .i64 d]) (off := 1) (v := .int .i64 b) rfl
  have p2 := fun (a b c d : Int) => run_part_plain (P := Try.prog) (w := W) hp (xs := #[.int .i64 a, .int .i64 b, .int .i64 c, .int .i64 d]) (off := 2) (v := .int .i64 c) rfl
  have p3 := fun (a b c d : Int) => run_part_plain (P := Try.prog) (w := W) hp (xs := #[.int .i64 a, .int .i64 b, .int .i64 c, .int .i64 d]) (off := 3) (v := .int .i64 d) rfl
  have e0 := fun (x y : Int) => run_equalIn_int (P := Try.prog) (w := W) 9998 3 .i64 .i64 x y Try.underlying3
  have h := run_equalIn_array (P := Try.prog) W 9999 (#[.int .i64 a, .int .i64 b, .int .i64 c, .int .i64 d]) (#[.int .i64 x, .int .i64 y, .int .i64 z, .int .i64 u]) Try.underlying23 hi
  rw [hc] at h
  refine h.trans ?_
  show (Op.eqItems 9999 3 1 _ _ [0, 1, 2, 3]).run _ _ = _
  simp only [Op.eqItems, Nat.mul_one, Sem.run_bind, p0, p1, p2, p3, e0, Result.andThen_ok]
  by_cases h1 : a = x
  · by_cases h2 : b = y
    · by_cases h3 : c = z
      · by_cases h4 : d = u <;> simp [h1, h2, h3, h4, Sem.run_bind, p0, p1, p2, p3, e0, Result.andThen_ok, Sem.run_pure]
      · simp [h1, h2, h3, Sem.run_bind, p0, p1, p2, p3, e0, Result.andThen_ok, Sem.run_pure]
    · simp [h1, h2, Sem.run_bind, p0, p1, p2, p3, e0, Result.andThen_ok, Sem.run_pure]
  · simp [h1, Sem.run_pure]

theorem four {D : List Int} (h : D.length = 4) : vals D = [.int .i64 (D.getD 0 0), .int .i64 (D.getD 1 0), .int .i64 (D.getD 2 0), .int .i64 (D.getD 3 0)] := by
  match D, h with
  | [a, b, c, d], _ => rfl

end Go.Proofs.Yteiocoahllnoeab.RunFC

/-
  The model's stacks side by side in memory: rows on four stacks, what came out, and what a pop and a push leave. Conditions: none.
-/
namespace Go.Proofs.Yteiocoahllnoeab.PlaySC
open Go.RowKit SeesC IntsC ExactC OrdMath BesM PlayM ListsC SameC AppendTwoC StepTwoC GreedyC RunPC RunBC BigC
set_option linter.unusedVariables false

/-- The slice of a stack. -/
def rv (al : List (Option Addr × Nat)) (st : List (List Int)) (s : Nat) : Value := .slice (al.getD s (none, 0)).1 (st.getD s []).length (al.getD s (none, 0)).2
def rowsV (al : List (Option Addr × Nat)) (st : List (List Int)) : List Value := (List.range 4).map (rv al st)

theorem rowsV_at {al : List (Option Addr × Nat)} {st : List (List Int)} {s : Nat} (hs : s < 4) : (rowsV al st)[s]? = some (rv al st s) := by
  unfold rowsV
  rw [List.getElem?_map, List.getElem?_range hs]
  rfl

/-- The stacks' rows and what came out, each in memory of its own. -/
structure PS (W : World) (h : Nat) (al : List (Option Addr × Nat)) (st : List (List Int)) (ao : Option Addr) (co c : Nat) (w : World) : Prop where
  alen : al.length = 4
  slen : st.length = 4
  hd : w.ownsRow W.heap.size 22 1 (.slice (some ⟨h, 0, none⟩) 4 4) 4 (rowsV al st)
  row : ∀ s, s < 4 → w.ownsRow W.heap.size 3 1 (rv al st s) (st.getD s []).length (vals (st.getD s []))
  out : w.ownsRow W.heap.size 3 1 (.slice ao c co) c (vals (iota c))
  dis : ∀ s t, s < 4 → t < 4 → s ≠ t → ∀ q, (rv al st s).ownBlock = some q → (rv al st t).ownBlock ≠ some q
  dio : ∀ s, s < 4 → ∀ q, (rv al st s).ownBlock = some q → (Value.slice ao c co).ownBlock ≠ some q
  bel : Below W.heap.size W w

/-- What is of another type stays. -/
def Stays (w w' : World) : Prop := w.heap.size ≤ w'.heap.size ∧ ∀ (B : Nat) (ty : TypeId) (sz : Nat) (v : Value) (n : Nat) (xs : List Value), ty ≠ 3 → ty ≠ 22 → w.ownsRow B ty sz v n xs → w'.ownsRow B ty sz v n xs

theorem Stays.refl (w : World) : Stays w w := ⟨Nat.le_refl _, fun _ _ _ _ _ _ _ _ h => h⟩
theorem Stays.trans {a b c : World} (h : Stays a b) (k : Stays b c) : Stays a c := ⟨Nat.le_trans h.1 k.1, fun B ty sz v n xs h1 h2 h3 => k.2 B ty sz v n xs h1 h2 (h.2 B ty sz v n xs h1 h2 h3)⟩
theorem Stays.below {a b : World} (h : Below a.heap.size a b) : Stays a b := ⟨h.size, fun B ty sz v n xs _ _ h3 => by
  refine ⟨h3.1, ?_⟩
  rcases h3.2 with h1 | ⟨g, cap, cur, e, hb, hg, rest⟩
  · exact .inl h1
  · exact .inr ⟨g, cap, cur, e, hb, (h.block g (Array.getElem?_eq_some_iff.1 hg).1).trans hg, rest⟩⟩
theorem Stays.drew (a : World) : Stays a a.drew := ⟨Nat.le_refl _, fun _ _ _ _ _ _ _ _ h => h⟩
theorem Stays.drewN (a : World) (n : Nat) : Stays a (a.drewN n) := ⟨Nat.le_refl _, fun _ _ _ _ _ _ _ _ h => h⟩
theorem Stays.grown {a b : World} {B sz n : Nat} {ty : TypeId} {v : Value} {xs : List Value} (ho : a.ownsRow B ty sz v n xs) (ht : ty = 3 ∨ ty = 22) (hg : a.grownBy b v.ownBlock) : Stays a b := by
  refine ⟨hg.size, fun B' ty' sz' v' n' xs' h1 h2 h3 => h3.kept hg ?_⟩
  cases hv : v'.ownBlock with
  | none => exact .inl rfl
  | some q =>
    refine .inr (fun e => ?_)
    refine own_apart h3 ho (fun e2 => ?_) hv e.symm
    rcases ht with rfl | rfl
    · exact h1 e2
    · exact h2 e2

section
variable {W : World} {h : Nat} {al : List (Option Addr × Nat)} {st : List (List Int)} {ao : Option Addr} {co c : Nat} {w : World}

theorem own_heap {w w' : World} (h : w'.heap = w.heap) {base size n : Nat} {ty : TypeId} {v : Value} {xs : List Value} (ho : w.ownsRow base ty size v n xs) : w'.ownsRow base ty size v n xs := by
  unfold World.ownsRow at ho ⊢
  rw [h]; exact ho

theorem PS.drawn (k : PS W h al st ao co c w) {w' : World} (hd : Drawn w w') : PS W h al st ao co c w' :=
  ⟨k.alen, k.slen, own_heap hd.heap k.hd, fun s hs => own_heap hd.heap (k.row s hs), own_heap hd.heap k.out, k.dis, k.dio, k.bel.trans (hd.below _)⟩

theorem PS.more (k : PS W h al st ao co c w) {w' : World} (hb : Below w.heap.size w w') : PS W h al st ao co c w' :=
  ⟨k.alen, k.slen, kept_call k.hd hb, fun s hs => kept_call (k.row s hs) hb, kept_call k.out hb, k.dis, k.dio, k.bel.trans (hb.mono k.bel.size)⟩

theorem PS.alloc (k : PS W h al st ao co c w) (o : Obj) : PS W h al st ao co c (w.alloc o) := k.more ((Below.refl _ _).alloc (Nat.le_refl _) _)

theorem PS.grows (k : PS W h al st ao co c w) {w' : World} {row : Option Nat} (hg : w.grownBy w' row) (hr : ∀ q, row = some q → W.heap.size ≤ q) : Below W.heap.size W w' := k.bel.grown hg k.bel.size hr

/-- What comes out is laid behind. -/
theorem PS.came (k : PS W h al st ao co c w) {w' : World} {g cp : Nat} (ho : w'.ownsRow W.heap.size 3 1 (.slice (some ⟨g, 0, none⟩) (c + 1) cp) (c + 1) (vals (iota (c + 1)))) (hg : w.grownBy w' (Value.slice ao c co).ownBlock) (hn : NewRow w (.slice ao c co) (.slice (some ⟨g, 0, none⟩) (c + 1) cp)) : PS W h al st (some ⟨g, 0, none⟩) cp (c + 1) w' := by
  refine ⟨k.alen, k.slen, own_mark k.hd hg (fun q hq e => own_apart k.hd k.out (by decide) hq e), fun s hs => own_mark (k.row s hs) hg (fun q hq e => k.dio s hs q hq e), ho, k.dis, ?_, k.grows hg (fun q hq => (k.out.lt q hq).1)⟩
  intro s hs q hq e
  rcases hn with h1 | h1
  · rw [h1] at e; exact k.dio s hs q hq e
  · have h2 := h1 q e
    have h3 := ((k.row s hs).lt q hq).2
    omega

theorem getD_set_selfA {α : Type} {l : List α} {i : Nat} {a d : α} (h : i < l.length) : (l.set i a).getD i d = a := by simp [h]
theorem getD_set_otherA {α : Type} {l : List α} {i j : Nat} {a d : α} (h : i ≠ j) : (l.set i a).getD j d = l.getD j d := by simp [h]

theorem rowsV_set (al al' : List (Option Addr × Nat)) (st st' : List (List Int)) (s : Nat) (hs : s < 4) (v : Value) (hv : rv al' st' s = v) (ho : ∀ t, t ≠ s → rv al' st' t = rv al st t) : (rowsV al st).set s v = rowsV al' st' := by
  have : s = 0 ∨ s = 1 ∨ s = 2 ∨ s = 3 := by omega
  unfold rowsV
  have e4 : List.range 4 = [0, 1, 2, 3] := rfl
  rw [e4]
  simp only [List.map_cons, List.map_nil]
  rcases this with rfl | rfl | rfl | rfl
  · rw [hv, ho 1 (by omega), ho 2 (by omega), ho 3 (by omega)]; rfl
  · rw [hv, ho 0 (by omega), ho 2 (by omega), ho 3 (by omega)]; rfl
  · rw [hv, ho 0 (by omega), ho 1 (by omega), ho 3 (by omega)]; rfl
  · rw [hv, ho 0 (by omega), ho 1 (by omega), ho 2 (by omega)]; rfl

/-- A row's beginning. -/
theorem own_less {w : World} {B : Nat} {ad : Option Addr} {n e cp : Nat} {xs : List Value} (hk : w.ownsRow B 3 1 (.slice ad n cp) n xs) (he : e < n) : w.ownsRow B 3 1 (.slice ad e cp) e (xs.take e) := by
  have hl : xs.length = n := by simpa using hk.1
  refine ⟨by rw [List.length_take]; omega, .inr ?_⟩
  rcases hk.2 with ⟨h0, h1⟩ | ⟨g, cap, cur, hv, hb, hh, hnc, hcm, hcs, ht⟩
  · omega
  · cases hv
    refine ⟨g, cp, cur, rfl, hb, hh, by omega, hcm, hcs, ?_⟩
    rw [← ht, List.take_take]
    congr 1
    omega

/-- The last of a stack is taken off. -/
theorem PS.shrink (k : PS W h al st ao co c w) {s e : Nat} (hs : s < 4) (he : (st.getD s []).length = e + 1) :
    PS W h al (st.set s (st.getD s []).dropLast) ao co c (w.setCell ⟨h, s, none⟩ (.slice (al.getD s (none, 0)).1 e (al.getD s (none, 0)).2)) ∧ Stays w (w.setCell ⟨h, s, none⟩ (.slice (al.getD s (none, 0)).1 e (al.getD s (none, 0)).2)) := by
  have hst := World.ownsRow.stored k.hd s (.slice (al.getD s (none, 0)).1 e (al.getD s (none, 0)).2)
  have hrs : rv al (st.set s (st.getD s []).dropLast) s = .slice (al.getD s (none, 0)).1 e (al.getD s (none, 0)).2 := by
    unfold rv
    rw [getD_set_selfA (by have := k.slen; omega), List.length_dropLast, he, Nat.add_sub_cancel]
  have hro : ∀ t, t ≠ s → rv al (st.set s (st.getD s []).dropLast) t = rv al st t := fun t ht => by
    unfold rv
    rw [getD_set_otherA (by omega)]
  have hbl : ∀ t, (rv al (st.set s (st.getD s []).dropLast) t).ownBlock = (rv al st t).ownBlock := fun t => by
    by_cases hts : t = s
    · subst hts; rw [hrs]; unfold rv; cases (al.getD t (none, 0)).1 <;> rfl
    · rw [hro t hts]
  refine ⟨⟨k.alen, by rw [List.length_set]; exact k.slen, ?_, ?_, own_mark k.out hst.2 (fun q hq e2 => ?_), ?_, ?_, k.grows hst.2 (fun q hq => ?_)⟩, Stays.grown k.hd (.inr rfl) hst.2⟩
  · rw [← rowsV_set al al st (st.set s (st.getD s []).dropLast) s hs _ hrs hro]; exact hst.1
  · intro t ht
    by_cases hts : t = s
    · subst hts
      have h1 := own_mark (k.row t ht) hst.2 (fun q hq e2 => by cases e2; exact own_apart k.hd (k.row t ht) (by decide) rfl hq)
      rw [hrs, getD_set_selfA (by have := k.slen; omega), List.length_dropLast, he, Nat.add_sub_cancel]
      have h2 := own_less (e := e) h1 (by omega)
      have h3 : vals (st.getD t []).dropLast = (vals (st.getD t [])).take e := by
        rw [List.dropLast_eq_take, he, Nat.add_sub_cancel]; simp [List.map_take]
      rw [h3]; exact h2
    · rw [hro t hts, getD_set_otherA (by omega)]
      exact own_mark (k.row t ht) hst.2 (fun q hq e2 => by cases e2; exact own_apart k.hd (k.row t ht) (by decide) rfl hq)
  · cases e2; exact own_apart k.hd k.out (by decide) rfl hq
  · intro a b ha hb hab q hq
    rw [hbl] at hq ⊢
    exact k.dis a b ha hb hab q hq
  · intro a ha q hq
    rw [hbl] at hq
    exact k.dio a ha q hq
  · cases hq; exact (k.hd.lt h rfl).1

/-- A number is laid on a stack. -/
theorem PS.pushed (k : PS W h al st ao co c w) {s : Nat} (hs : s < 4) {x : Int} {w' : World} {g cp : Nat} (ho : w'.ownsRow W.heap.size 3 1 (.slice (some ⟨g, 0, none⟩) ((st.getD s []).length + 1) cp) ((st.getD s []).length + 1) (vals (st.getD s [] ++ [x]))) (hg : w.grownBy w' (rv al st s).ownBlock) (hn : NewRow w (rv al st s) (.slice (some ⟨g, 0, none⟩) ((st.getD s []).length + 1) cp)) :
    PS W h (al.set s (some ⟨g, 0, none⟩, cp)) (st.set s (st.getD s [] ++ [x])) ao co c (w'.setCell ⟨h, s, none⟩ (.slice (some ⟨g, 0, none⟩) ((st.getD s []).length + 1) cp)) ∧ Stays w (w'.setCell ⟨h, s, none⟩ (.slice (some ⟨g, 0, none⟩) ((st.getD s []).length + 1) cp)) := by
  have hH := own_mark k.hd hg (fun q hq e => own_apart k.hd (k.row s hs) (by decide) hq e)
  have hst := World.ownsRow.stored hH s (.slice (some ⟨g, 0, none⟩) ((st.getD s []).length + 1) cp)
  have hrs : rv (al.set s (some ⟨g, 0, none⟩, cp)) (st.set s (st.getD s [] ++ [x])) s = .slice (some ⟨g, 0, none⟩) ((st.getD s []).length + 1) cp := by
    unfold rv
    rw [getD_set_selfA (by have := k.alen; omega), getD_set_selfA (by have := k.slen; omega), List.length_append]
    rfl
  have hro : ∀ t, t ≠ s → rv (al.set s (some ⟨g, 0, none⟩, cp)) (st.set s (st.getD s [] ++ [x])) t = rv al st t := fun t ht => by
    unfold rv
    rw [getD_set_otherA (by omega), getD_set_otherA (by omega)]
  have hgn : ∀ t, t < 4 → t ≠ s → ∀ q, (rv al st t).ownBlock = some q → q ≠ g := fun t ht hts q hq e => by
    subst e
    rcases hn with h1 | h1
    · exact k.dis t s ht hs hts q hq h1.symm
    · have h2 := h1 q rfl
      have h3 := ((k.row t ht).lt q hq).2
      omega
  have hgo : ∀ q, (Value.slice ao c co).ownBlock = some q → q ≠ g := fun q hq e => by
    subst e
    rcases hn with h1 | h1
    · exact k.dio s hs q h1.symm hq
    · have h2 := h1 q rfl
      have h3 := (k.out.lt q hq).2
      omega
  have hB1 := k.grows hg (fun q hq => ((k.row s hs).lt q hq).1)
  have hS1 : Stays w w' := Stays.grown (k.row s hs) (.inl rfl) hg
  refine ⟨⟨by rw [List.length_set]; exact k.alen, by rw [List.length_set]; exact k.slen, ?_, ?_, ?_, ?_, ?_, hB1.grown hst.2 hB1.size (fun q hq => ?_)⟩, hS1.trans (Stays.grown hH (.inr rfl) hst.2)⟩
  · rw [← rowsV_set al (al.set s (some ⟨g, 0, none⟩, cp)) st (st.set s (st.getD s [] ++ [x])) s hs _ hrs hro]; exact hst.1
  · intro t ht
    by_cases hts : t = s
    · subst hts
      rw [hrs, getD_set_selfA (by have := k.slen; omega), List.length_append]
      exact own_mark ho hst.2 (fun q hq e2 => by cases e2; exact own_apart hH ho (by decide) rfl hq)
    · rw [hro t hts, getD_set_otherA (by omega)]
      have h1 := own_mark (k.row t ht) hg (fun q hq e => k.dis t s ht hs hts q hq e)
      exact own_mark h1 hst.2 (fun q hq e2 => by cases e2; exact own_apart hH h1 (by decide) rfl hq)
  · have h1 := own_mark k.out hg (fun q hq e => k.dio s hs q e hq)
    exact own_mark h1 hst.2 (fun q hq e2 => by cases e2; exact own_apart hH h1 (by decide) rfl hq)
  · intro a b ha hb hab q hq e
    by_cases has : a = s
    · subst has
      rw [hrs] at hq
      rw [hro b (by omega)] at e
      cases hq
      exact hgn b hb (by omega) _ e rfl
    · rw [hro a has] at hq
      by_cases hbs : b = s
      · subst hbs
        rw [hrs] at e
        cases e
        exact hgn a ha has _ hq rfl
      · rw [hro b hbs] at e
        exact k.dis a b ha hb hab q hq e
  · intro a ha q hq e
    by_cases has : a = s
    · subst has
      rw [hrs] at hq
      cases hq
      exact hgo _ e rfl
    · rw [hro a has] at hq
      exact k.dio a ha q hq e
  · cases hq; exact (hH.lt h rfl).1
end

end Go.Proofs.Yteiocoahllnoeab.PlaySC

/-
  Contract: the model's l7Pop: all pops that can be made at once. Conditions: a play that is sound.
-/
namespace Go.Proofs.Yteiocoahllnoeab.PlayPopC
open Go.RowKit SeesC IntsC ExactC OrdMath BesM PlayM ListsC SameC AppendTwoC StepTwoC GreedyC RunPC RunP2C RunBC BigC PlaySC
set_option linter.unusedVariables false

/-- A play's cells. -/
def pcells (h : Nat) (mv : ByteArray) (ov : Value) (d0 d1 d2 d3 : Int) : List Value := [.slice (some ⟨h, 0, none⟩) 4 4, .string mv, ov, .int .i64 d0, .int .i64 d1, .int .i64 d2, .int .i64 d3]

theorem infoPlay : (Try.prog.info? 35).map (fun i => (i.zero, i.size)) = some (some (.agg #[.slice none 0 0, .string ByteArray.empty, .slice none 0 0, .int .i64 0, .int .i64 0, .int .i64 0, .int .i64 0]), 7) := by kernel_rfl
theorem sizePlay (cs : Array Value) (h : cs.size = 7) : (Try.prog.info? 35).map (·.size) = some cs.size := by rw [h]; kernel_rfl

/-- A block of seven cells. -/
def PB (W : World) (b : Nat) (C : List Value) (w : World) : Prop := w.ownsRow W.heap.size 35 7 (.slice (some ⟨b, 0, none⟩) 1 1) 1 C

/-- The moves as a text. -/
def txt (l : List UInt8) : ByteArray := ⟨l.toArray⟩

def PopI (zs so : List Int) (m T : Nat) (W : World) (h b1 b2 : Nat) (Z : List Value) (d0 d1 d2 d3 : Int) (p : Pl) (f : Nat) (q : Pl) (al : List (Option Addr × Nat)) (ao : Option Addr) (co : Nat) (wS wr : World) : Prop :=
  popAll T p = popAll f q ∧ Inv zs so m q ∧ T ≤ f + q.c ∧ PS W h al q.st ao co q.c wr ∧ PB W b1 (pcells h (txt q.mv) (.slice ao q.c co) d0 d1 d2 d3) wr ∧ PB W b2 Z wr ∧ Stays wS wr

theorem PopI.drawn {zs so : List Int} {m T : Nat} {W : World} {h b1 b2 : Nat} {Z : List Value} {d0 d1 d2 d3 : Int} {p : Pl} {f : Nat} {q : Pl} {al : List (Option Addr × Nat)} {ao : Option Addr} {co : Nat} {wS wr w' : World}
    (k : PopI zs so m T W h b1 b2 Z d0 d1 d2 d3 p f q al ao co wS wr) (hd : Drawn wr w') : PopI zs so m T W h b1 b2 Z d0 d1 d2 d3 p f q al ao co wS w' :=
  ⟨k.1, k.2.1, k.2.2.1, k.2.2.2.1.drawn hd, own_heap hd.heap k.2.2.2.2.1, own_heap hd.heap k.2.2.2.2.2.1, k.2.2.2.2.2.2.trans (Stays.below (hd.below _))⟩

theorem own_some {w : World} {B sz n cp : Nat} {ty : TypeId} {ad : Option Addr} {xs : List Value} (h : w.ownsRow B ty sz (.slice ad (n + 1) cp) (n + 1) xs) : ∃ g, ad = some ⟨g, 0, none⟩ := by
  rcases h.2 with ⟨h1, h2⟩ | ⟨g, _, _, e, _⟩
  · omega
  · cases e; exact ⟨g, rfl⟩

theorem pb_heap {W : World} {b : Nat} {C : List Value} {w : World} (h : PB W b C w) : w.heap[b]? = some (.cells C.toArray 35 (0, 0)) := by
  rcases h.2 with ⟨h1, _⟩ | ⟨g, cap, cur, e, _, hg, _, _, hcs, ht⟩
  · simp at h1
  · simp only [Value.slice.injEq, Option.some.injEq, Addr.mk.injEq, and_true, true_and] at e
    obtain ⟨rfl, rfl⟩ := e
    rw [hg, ← ht, List.take_of_length_le (by rw [Array.length_toList, hcs]; exact Nat.le_refl _)]

theorem onePlay {h : Nat} {mv : ByteArray} {a : Option Addr} {n k : Nat} {d0 d1 d2 d3 : Int} : (pcells h mv (.slice a n k) d0 d1 d2 d3).toArray.all (·.oneCell') = true := by
  refine all_oneCell_toArray fun v hv => ?_
  unfold pcells at hv
  simp only [List.mem_cons, List.not_mem_nil, or_false] at hv
  rcases hv with rfl | rfl | rfl | rfl | rfl | rfl | rfl <;> rfl

theorem drawnDrew {w w' : World} (h : Drawn w w') : Drawn w w'.drew := h.next 1

/-- Behind the append to what came out. -/
theorem came_all {W : World} {h : Nat} {al : List (Option Addr × Nat)} {st : List (List Int)} {ao : Option Addr} {co c : Nat} {wo X w5 : World} {oo : Obj} {g5 c5 : Nat} (k : PS W h al st ao co c wo) (hd : Drawn wo X)
    (hown : w5.ownsRow W.heap.size 3 1 (.slice (some ⟨g5, 0, none⟩) (c + 1) c5) (c + 1) (vals (iota c) ++ [.int .i64 ((c : Int) + 1)])) (hg : (X.alloc oo).grownBy w5 (Value.slice ao c co).ownBlock) (hn : NewRow (X.alloc oo) (.slice ao c co) (.slice (some ⟨g5, 0, none⟩) (c + 1) c5)) :
    PS W h al st (some ⟨g5, 0, none⟩) c5 (c + 1) w5 ∧ Stays wo w5 := by
  have k1 := (k.drawn hd).alloc oo
  exact ⟨k1.came (by rw [← iota_snoc]; exact hown) hg hn, (Stays.below (hd.below _)).trans ((Stays.below ((Below.refl _ _).alloc (Nat.le_refl _) _)).trans (Stays.grown k1.out (.inl rfl) hg))⟩

theorem stays_pb {W : World} {b : Nat} {C : List Value} {w w' : World} (hs : Stays w w') (h : PB W b C w) : PB W b C w' := hs.2 _ _ _ _ _ _ (by decide) (by decide) h

theorem pb_set {W : World} {b : Nat} {C : List Value} {w : World} (h : PB W b C w) (j : Nat) (v : Value) : PB W b (C.set j v) (w.setCell ⟨b, j, none⟩ v) := (World.ownsRow.stored h j v).1

/-- A write beside the stacks. -/
theorem psAside {W : World} {h : Nat} {al : List (Option Addr × Nat)} {st : List (List Int)} {ao : Option Addr} {co c : Nat} {w w' : World} {B sz n : Nat} {ty : TypeId} {v : Value} {xs : List Value} (k : PS W h al st ao co c w)
    (ho : w.ownsRow B ty sz v n xs) (hB : W.heap.size ≤ B) (h1 : ty ≠ 3) (h2 : ty ≠ 22) (hg : w.grownBy w' v.ownBlock) : PS W h al st ao co c w' :=
  ⟨k.alen, k.slen, own_mark k.hd hg (fun q hq e => own_apart ho k.hd h2 e hq), fun s hs => own_mark (k.row s hs) hg (fun q hq e => own_apart ho (k.row s hs) h1 e hq), own_mark k.out hg (fun q hq e => own_apart ho k.out h1 e hq), k.dis, k.dio, k.grows hg (fun q hq => Nat.le_trans hB (ho.lt q hq).1)⟩

def Bun (W : World) (h : Nat) (al : List (Option Addr × Nat)) (st : List (List Int)) (ao : Option Addr) (co c b1 : Nat) (C Z : List Value) (wS w : World) : Prop :=
  PS W h al st ao co c w ∧ PB W b1 C w ∧ PB W (b1 + 1) Z w ∧ Stays wS w ∧ wS.heap.size = b1

section
variable {W : World} {h : Nat} {al : List (Option Addr × Nat)} {st : List (List Int)} {ao : Option Addr} {co c b1 : Nat} {C Z : List Value} {wS w : World}

theorem Bun.set1 (k : Bun W h al st ao co c b1 C Z wS w) (j : Nat) (v : Value) : Bun W h al st ao co c b1 (C.set j v) Z wS (w.setCell ⟨b1, j, none⟩ v) := by
  have hs := World.ownsRow.stored k.2.1 j v
  refine ⟨psAside k.1 k.2.1 (Nat.le_refl _) (by decide) (by decide) hs.2, hs.1, k.2.2.1.kept hs.2 (.inr (fun e => ?_)), ⟨Nat.le_trans k.2.2.2.1.1 hs.2.size, fun B ty sz v n xs e1 e2 h3 => (k.2.2.2.1.2 B ty sz v n xs e1 e2 h3).kept hs.2 ?_⟩, k.2.2.2.2⟩
  · simp [Value.ownBlock] at e
  · cases hv : v.ownBlock with
    | none => exact .inl rfl
    | some q =>
      refine .inr (fun e => ?_)
      cases e
      have := (h3.lt _ hv).2
      have := k.2.2.2.2
      omega

theorem Bun.stays (k : Bun W h al st ao co c b1 C Z wS w) {al' : List (Option Addr × Nat)} {st' : List (List Int)} {ao' : Option Addr} {co' c' : Nat} {w' : World} (hp : PS W h al' st' ao' co' c' w') (hs : Stays w w') : Bun W h al' st' ao' co' c' b1 C Z wS w' :=
  ⟨hp, stays_pb hs k.2.1, stays_pb hs k.2.2.1, k.2.2.2.1.trans hs, k.2.2.2.2⟩

theorem Bun.drew (k : Bun W h al st ao co c b1 C Z wS w) : Bun W h al st ao co c b1 C Z wS w.drew := k.stays (k.1.drawn (drawnDrew (Drawn.refl _))) (Stays.drew _)
end

theorem cutLow0 (w : World) : (Instr.slice 9 (.string { data := #[97, 98, 99, 100] }) (some (.int .i64 ((0 : Nat) : Int))) (some (.int .i64 (((0 : Nat) : Int) + 1))) none).run Try.prog w = .ok (.string ⟨#[UInt8.ofNat (97 + 0)]⟩) w := by kernel_rfl
theorem cutLow1 (w : World) : (Instr.slice 9 (.string { data := #[97, 98, 99, 100] }) (some (.int .i64 ((1 : Nat) : Int))) (some (.int .i64 (((1 : Nat) : Int) + 1))) none).run Try.prog w = .ok (.string ⟨#[UInt8.ofNat (97 + 1)]⟩) w := by kernel_rfl
theorem cutLow2 (w : World) : (Instr.slice 9 (.string { data := #[97, 98, 99, 100] }) (some (.int .i64 ((2 : Nat) : Int))) (some (.int .i64 (((2 : Nat) : Int) + 1))) none).run Try.prog w = .ok (.string ⟨#[UInt8.ofNat (97 + 2)]⟩) w := by kernel_rfl
theorem cutLow3 (w : World) : (Instr.slice 9 (.string { data := #[97, 98, 99, 100] }) (some (.int .i64 ((3 : Nat) : Int))) (some (.int .i64 (((3 : Nat) : Int) + 1))) none).run Try.prog w = .ok (.string ⟨#[UInt8.ofNat (97 + 3)]⟩) w := by kernel_rfl
theorem cutLow {x : Nat} (hx : x < 4) (w : World) : (Instr.slice 9 (.string { data := #[97, 98, 99, 100] }) (some (.int .i64 (x : Int))) (some (.int .i64 ((x : Int) + 1))) none).run Try.prog w = .ok (.string ⟨#[UInt8.ofNat (97 + x)]⟩) w := by
  have : x = 0 ∨ x = 1 ∨ x = 2 ∨ x = 3 := by omega
  rcases this with rfl | rfl | rfl | rfl
  · exact cutLow0 w
  · exact cutLow1 w
  · exact cutLow2 w
  · exact cutLow3 w

theorem txt_size (l : List UInt8) : (txt l).size = l.length := by unfold txt; rfl

theorem txt_snoc (l : List UInt8) (c : UInt8) : txt l ++ ⟨#[c]⟩ = txt (l ++ [c]) := by
  unfold txt
  apply ByteArray.ext
  simp

set_option maxRecDepth 100000 in
set_option maxHeartbeats 8000000 in
theorem l7Pop_any (zs so : List Int) (ho : Ord zs) (m : Nat) (hm : m ≤ zs.length) (W : World) (h : Nat) (p : Pl) (hI : Inv zs so m p) (al : List (Option Addr × Nat)) (ao : Option Addr) (co : Nat) (d0 d1 d2 d3 : Int) (w : World) (hp : PS W h al p.st ao co p.c w) :
    Calls Try.prog 29 #[.agg (pcells h (txt p.mv) (.slice ao p.c co) d0 d1 d2 d3).toArray] w fun e w' => ∃ al' ao' co', e = .returned (.agg (pcells h (txt (popAll zs.length p).mv) (.slice ao' (popAll zs.length p).c co') d0 d1 d2 d3).toArray) ∧ PS W h al' (popAll zs.length p).st ao' co' (popAll zs.length p).c w' ∧ Stays w w' := by
  obtain ⟨i0, hi, hz0, hz1, hz2⟩ := info_parts infoI
  have hu2 := Try.underlying22
  have hn7 : zs.length ≤ 7 := ho.2.1
  obtain ⟨T, hT⟩ : ∃ T, zs.length = T := ⟨_, rfl⟩
  have HO := Go.Lib.hid (And.intro ho (And.intro hm hT))
  have HII := Go.Lib.hid (And.intro hi (And.intro hz0 (And.intro hz1 hz2)))
  obtain ⟨Z, hZ⟩ : ∃ Z : List Value, [.slice none 0 0, .string ByteArray.empty, .slice none 0 0, .int .i64 0, .int .i64 0, .int .i64 0, .int .i64 0] = Z := ⟨_, rfl⟩
  have hZs : Z.toArray.size = 7 := by rw [← hZ]; rfl
  have H0 : Hid (PopI zs so m T W h w.heap.size (w.heap.size + 1) Z d0 d1 d2 d3 p T p al ao co w ((w.alloc (.cells (pcells h (txt p.mv) (.slice ao p.c co) d0 d1 d2 d3).toArray 35)).alloc (.cells Z.toArray 35))) := Go.Lib.hid (by
    have hW := hp.bel.size
    have hsz : (w.alloc (.cells (pcells h (txt p.mv) (.slice ao p.c co) d0 d1 d2 d3).toArray 35)).heap.size = w.heap.size + 1 := by simp
    have hb1 : PB W w.heap.size (pcells h (txt p.mv) (.slice ao p.c co) d0 d1 d2 d3) (w.alloc (.cells (pcells h (txt p.mv) (.slice ao p.c co) d0 d1 d2 d3).toArray 35)) := World.ownsRow_lit w _ 1 hW (by unfold maxLen; omega) rfl
    have hb2 := World.ownsRow_lit (size := 7) (e := 35) (base := W.heap.size) (w.alloc (.cells (pcells h (txt p.mv) (.slice ao p.c co) d0 d1 d2 d3).toArray 35)) Z.toArray 1 (by rw [hsz]; omega) (by unfold maxLen; omega) hZs
    rw [hsz] at hb2
    exact ⟨rfl, hI, by omega, (hp.alloc _).alloc _, hb1.alloc _, hb2, (Stays.below ((Below.refl _ _).alloc (Nat.le_refl _) _)).trans (Stays.below ((Below.refl _ _).alloc (Nat.le_refl _) _))⟩)
  rw [hT] at hn7
  rw [hT]
  have HZ := Go.Lib.hid (And.intro hZ hZs)
  clear hT hZ hZs hI hp hm ho hi hz0 hz1 hz2
  go_enter Try.func29, Try.ntmps29
  go_wp2_with fail
  rw [show (#[Value.slice none 0 0, Value.string { data := #[] }, Value.slice none 0 0, Value.int IntKind.i64 0, Value.int IntKind.i64 0, Value.int IntKind.i64 0, Value.int IntKind.i64 0] : Array Value) = Z.toArray from by rw [← HZ.out.1]; rfl]
  obtain ⟨W2, hW2⟩ : ∃ W2, ((w.alloc (.cells (pcells h (txt p.mv) (.slice ao p.c co) d0 d1 d2 d3).toArray 35)).alloc (.cells Z.toArray 35)) = W2 := ⟨_, rfl⟩
  obtain ⟨b1, hb1⟩ : ∃ b, w.heap.size = b := ⟨_, rfl⟩
  rw [hW2] at H0 ⊢
  rw [hb1] at H0 ⊢
  have HBB := Go.Lib.hid hb1
  clear hW2 hb1
  go_loopw [3] (fun xv wr => ∃ (x f : Nat) (q : Pl) (al : List (Option Addr × Nat)) (ao : Option Addr) (co : Nat), x ≤ 4 ∧ xv = .int .i64 (x : Int) ∧ Hid (PopI zs so m T W h b1 (b1 + 1) Z d0 d1 d2 d3 p f q al ao co w wr ∧ ∀ y : Nat, y < x → topIs q y = false)) (fun xv wr => (9 - lenOf ((wr.cell? ⟨b1, 2, none⟩).getD undef)) * 5 + (4 - (intOf xv).toNat))
  case atStart => exact ⟨0, T, p, al, ao, co, by omega, rfl, Go.Lib.hid ⟨H0.out, fun y hy => by omega⟩⟩
  case round =>
    obtain ⟨x, f, q, al, ao, co, hx4, rfl, HX⟩ := hrel
    clear H0
    obtain ⟨wo, rfl⟩ : ∃ wo, wo = wr := ⟨_, rfl⟩
    have HP := Go.Lib.hid HX.out.1.2.2.2.1
    obtain ⟨c, hc⟩ : ∃ c, q.c = c := ⟨_, rfl⟩
    have hc7 : c ≤ 7 := by have h1 := HX.out.1.2.1.cle; have h2 := HO.out.2.2; omega
    have HB1 : Hid (PB W b1 (pcells h (txt q.mv) (.slice ao c co) d0 d1 d2 d3) wo) := Go.Lib.hid (by rw [← hc]; exact HX.out.1.2.2.2.2.1)
    have HPS : Hid (PS W h al q.st ao co c wo) := Go.Lib.hid (by rw [← hc]; exact HX.out.1.2.2.2.1)
    have HC := Go.Lib.hid hc
    clear hc HP
    have k0 : wo.cell? ⟨b1, 0, none⟩ = some (.slice (some ⟨h, 0, none⟩) 4 4) := World.ownsRow.cellAt HB1.out 0 (by omega)
    have k1 : wo.cell? ⟨b1, 1, none⟩ = some (.string (txt q.mv)) := World.ownsRow.cellAt HB1.out 1 (by omega)
    have k2 : wo.cell? ⟨b1, 2, none⟩ = some (.slice ao c co) := World.ownsRow.cellAt HB1.out 2 (by omega)
    have hm0 : (wo.cell? ⟨b1, 2, none⟩).getD undef = .slice ao c co := by rw [k2]; rfl
    rw [hm0]
    clear hm0
    by_cases hxl : x < 4
    · have hh := (World.ownsRow.cellAt HPS.out.hd x (by omega)).trans (rowsV_at hxl)
      obtain ⟨ad, had⟩ : ∃ a, (al.getD x (none, 0)).1 = a := ⟨_, rfl⟩
      obtain ⟨cp, hcp⟩ : ∃ a, (al.getD x (none, 0)).2 = a := ⟨_, rfl⟩
      obtain ⟨L, hL⟩ : ∃ L, (q.st.getD x []).length = L := ⟨_, rfl⟩
      have hrow := HPS.out.row x hxl
      unfold rv at hh hrow
      rw [had, hcp, hL] at hh hrow
      have hxi : (x : Int) < 4 := by omega
      have HR := Go.Lib.hid (And.intro had (And.intro hcp (And.intro hL hrow)))
      clear had hcp hL hrow
      rcases L with _ | e
      · have HN : Hid (∀ y : Nat, y < x + 1 → topIs q y = false) := Go.Lib.hid (fun y hy => by
          by_cases h1 : y = x
          · subst h1; exact topIs_none HR.out.2.2.1
          · exact HX.out.2 y (by omega))
        go_wp2
        go_quiet (fail)
        go_wp2
        go_roundw
        case rel => exact ⟨x + 1, f, q, al, ao, co, by omega, by go_num, Go.Lib.hid ⟨HX.out.1.drawn ((Drawn.refl _).next _), HN.out⟩⟩
        case measure => rw [show ∀ nq, (wo.drewN nq).cell? ⟨b1, 2, none⟩ = some (.slice ao c co) from fun _ => k2]; simp [intOf, lenOf]; omega
      · obtain ⟨g, rfl⟩ := own_some HR.out.2.2.2
        obtain ⟨z, hz⟩ : ∃ z, (q.st.getD x []).getD e 0 = z := ⟨_, rfl⟩
        have cz : wo.cell? ⟨g, e, none⟩ = some (.int .i64 z) := by
          have h1 := World.ownsRow.cellAt HR.out.2.2.2 e (by omega)
          have h2 : e < (q.st.getD x []).length := by have := HR.out.2.2.1; omega
          rw [h1, List.getElem?_map, List.getElem?_eq_getElem h2, ← hz]
          generalize q.st.getD x [] = l at h2 ⊢
          simp [h2]
        have htop := topIs_at HR.out.2.2.1
        rw [hz, HC.out] at htop
        have hei : (e : Int) < (e : Int) + 1 := by omega
        have hL7 : e < 7 := by
          have h1 := HX.out.1.2.1.st x hxl
          have h2 := onS_len zs so x m q.c
          have h3 := HR.out.2.2.1
          have h4 := HO.out.2.1; have h5 := HO.out.2.2
          rw [← h1] at h2; omega
        have hed : decide (0 < e + 1) = true := by simp
        have HT := Go.Lib.hid (And.intro htop hz)
        clear htop hz
        by_cases hzc : z = (c : Int) + 1
        · subst hzc
          have ht : topIs q x = true := by rw [HT.out.1]; exact beq_iff_eq.2 rfl
          have HINV := Go.Lib.hid (And.intro ht (inv_pop HO.out.1 HO.out.2.1 (by omega) ht HX.out.1.2.1))
          have hc6 : c < 7 := by have h1 := HINV.out.2.2; have h2 := HO.out.2.2; have h3 := HC.out; omega
          have HOO : Hid (∀ X, Drawn wo X → ∀ oo, (X.alloc oo).ownsRow W.heap.size 3 1 (.slice ao c co) c (vals (iota c))) := Go.Lib.hid (fun X hX oo => World.ownsRow.alloc (own_heap hX.heap HPS.out.out) oo)
          have hWs : W.heap.size ≤ wo.heap.size := HPS.out.bel.size
          have hb1l : b1 < wo.heap.size := (HB1.out.lt b1 rfl).2
          have k2A : ∀ (nn : Nat) (oo : Obj), ((wo.drewN nn).alloc oo).cell? ⟨b1, 2, none⟩ = some (.slice ao c co) := fun nn oo => (Below.cell ((Below.refl (wo.drewN nn).heap.size (wo.drewN nn)).alloc (Nat.le_refl _) oo) (p := ⟨b1, 2, none⟩) hb1l).trans k2
          have hecp : e ≤ cp := by
            rcases HR.out.2.2.2.2 with ⟨h1, h2⟩ | ⟨_, _, _, e1, _, _, h3, _⟩
            · omega
            · cases e1; omega
          have hwe : IntKind.i64.wrap (e : Int) = (e : Int) := IntWalk.i64_in _ (by omega)
          have HBU : Hid (Bun W h al q.st ao co c b1 (pcells h (txt q.mv) (.slice ao c co) d0 d1 d2 d3) Z w wo) := Go.Lib.hid ⟨HPS.out, HB1.out, HX.out.1.2.2.2.2.2.1, HX.out.1.2.2.2.2.2.2, HBB.out⟩
          clear ht
          go_wp2
          go_quiet (fail)
          go_wp2_with fail
          go_region_law (refine step_append_two _ rfl (.tmp 37) (.tmp 47) 22 rfl W.heap.size 3 i0 (.int .i64 0) 1 8 hu2 HII.out.1 HII.out.2.1 HII.out.2.2.1 HII.out.2.2.2 rfl (by decide) (.slice ao c co) c (vals (iota c)) (by simp [Act.eval]) (HOO.out _ (drawnDrew ((Drawn.refl _).next _)) _) ⟨wo.heap.size, 0, none⟩ 1 1 [.int .i64 ((c : Int) + 1)] (by simp [Act.eval]) rfl (cell_one_new _ _ _) (fun x hx => by simp at hx; subst hx; rfl) (by unfold maxLen; omega) (by omega) (by simp; omega) ?_; intro v5 w5 hown5 hgrow5 hnew5; obtain ⟨g5, c5, rfl⟩ := ownsRow_succ hown5; have h5 := came_all HPS.out (drawnDrew ((Drawn.refl _).next _)) hown5 hgrow5 hnew5; have H5 := Go.Lib.hid (Bun.stays HBU.out h5.1 h5.2); have kk : w5.cell? ⟨b1, 2, none⟩ = some (.slice ao c co) := World.ownsRow.cellAt H5.out.2.1 2 (by omega); have ff := World.ownsRow.frozenAt H5.out.2.1 2; clear hown5 hgrow5 hnew5 h5)
          all_goals
            have H6 := Go.Lib.hid (Bun.set1 H5.out 2 (.slice (some ⟨g5, 0, none⟩) (c + 1) c5))
            obtain ⟨w6, hw6⟩ : ∃ w6, w5.setCell ⟨b1, 2, none⟩ (.slice (some ⟨g5, 0, none⟩) (c + 1) c5) = w6 := ⟨_, rfl⟩
            rw [hw6] at H6 ⊢
            clear hw6 kk ff k0 k1 k2 k2A cz hh H5
            have k0 : w6.cell? ⟨b1, 0, none⟩ = some (.slice (some ⟨h, 0, none⟩) 4 4) := World.ownsRow.cellAt H6.out.2.1 0 (by omega)
            have hh := (World.ownsRow.cellAt H6.out.1.hd x (by omega)).trans (rowsV_at hxl)
            unfold rv at hh
            rw [HR.out.1, HR.out.2.1, HR.out.2.2.1] at hh
            have ff := World.ownsRow.frozenAt H6.out.1.hd x
            go_wp2_with fail
            go_region
            have h7 := PS.shrink H6.out.1 hxl HR.out.2.2.1
            rw [HR.out.1, HR.out.2.1] at h7
            have H7 := Go.Lib.hid (Bun.drew (Bun.stays H6.out h7.1 h7.2))
            obtain ⟨w7, hw7⟩ : ∃ w7, (w6.setCell ⟨h, x, none⟩ (.slice (some ⟨g, 0, none⟩) e cp)).drew = w7 := ⟨_, rfl⟩
            rw [hw7] at H7 ⊢
            clear hw7 h7 k0 hh ff
            have k1 : w7.cell? ⟨b1, 1, none⟩ = some (.string (txt q.mv)) := World.ownsRow.cellAt H7.out.2.1 1 (by omega)
            have ff := World.ownsRow.frozenAt H7.out.2.1 1
            have hwx : IntKind.i64.wrap ((x : Int) + 1) = (x : Int) + 1 := IntWalk.i64_in _ (by omega)
            have hcut := fun (w : World) => cutLow hxl w
            obtain ⟨ch, hch⟩ : ∃ ch : ByteArray, ⟨#[UInt8.ofNat (97 + x)]⟩ = ch := ⟨_, rfl⟩
            have hszt : ¬ 9223372036854775807 < (txt q.mv).size + ch.size := by
              have h1 := HX.out.1.2.1.mvl
              have h2 := HO.out.2.1; have h3 := HO.out.2.2; have h4 := HC.out
              rw [txt_size, ← hch]
              show ¬ _ < _ + 1
              omega
            rw [hch] at hcut
            have HCH := Go.Lib.hid hch
            clear hch
            go_wp2_with fail
            go_region
            have H8 := Go.Lib.hid (Bun.drew (Bun.set1 H7.out 1 (.string (txt q.mv ++ ch))))
            obtain ⟨w8, hw8⟩ : ∃ w8, (w7.setCell ⟨b1, 1, none⟩ (.string (txt q.mv ++ ch))).drew = w8 := ⟨_, rfl⟩
            rw [hw8] at H8 ⊢
            clear hw8 k1 ff hcut
            have HN : Hid (PopI zs so m T W h b1 (b1 + 1) Z d0 d1 d2 d3 p (f - 1) (popP q x) al (some ⟨g5, 0, none⟩) c5 w w8) := Go.Lib.hid (by
              have h1 := HINV.out.2.2
              have h2 := HX.out.1.2.2.1
              have h3 := HO.out.2.2
              have h8 := H8.out
              have e1 : txt q.mv ++ ch = txt (popP q x).mv := by rw [← HCH.out, txt_snoc]; rfl
              have e2 : (popP q x).c = c + 1 := by show q.c + 1 = _; rw [HC.out]
              refine ⟨?_, HINV.out.2.1, by rw [e2]; have := HC.out; omega, ?_, ?_, h8.2.2.1, h8.2.2.2.1⟩
              · rw [HX.out.1.1]
                obtain ⟨f', rfl⟩ : ∃ f', f = f' + 1 := ⟨f - 1, by omega⟩
                rw [popAll_step (findTop_is hxl HINV.out.1 HX.out.2), Nat.add_sub_cancel]
              · rw [e2]; exact h8.1
              · rw [e2, ← e1]; exact h8.2.1)
            have k2 : w8.cell? ⟨b1, 2, none⟩ = some (.slice (some ⟨g5, 0, none⟩) (c + 1) c5) := World.ownsRow.cellAt H8.out.2.1 2 (by omega)
            go_wp2_with fail
            go_roundw
            case rel => exact ⟨0, f - 1, popP q x, al, some ⟨g5, 0, none⟩, c5, by omega, by go_num, Go.Lib.hid ⟨HN.out, fun y hy => by omega⟩⟩
            case measure => rw [k2]; simp [intOf, lenOf]; omega
        · have hzb : (z == (c : Int) + 1) = false := by rw [beq_eq_false_iff_ne]; exact hzc
          have HN : Hid (∀ y : Nat, y < x + 1 → topIs q y = false) := Go.Lib.hid (fun y hy => by
            by_cases h1 : y = x
            · subst h1; rw [HT.out.1]; exact hzb
            · exact HX.out.2 y (by omega))
          go_wp2
          go_quiet (fail)
          go_wp2
          go_roundw
          case rel => exact ⟨x + 1, f, q, al, ao, co, by omega, by go_num, Go.Lib.hid ⟨HX.out.1.drawn ((Drawn.refl _).next _), HN.out⟩⟩
          case measure => rw [show ∀ nq, (wo.drewN nq).cell? ⟨b1, 2, none⟩ = some (.slice ao c co) from fun _ => k2]; simp [intOf, lenOf]; omega
    · have hx4' : x = 4 := by omega
      subst hx4'
      have hend : popAll T p = q := by rw [HX.out.1.1, popAll_end (findTop_not HX.out.2)]
      obtain ⟨C, hC⟩ : ∃ C, pcells h (txt q.mv) (.slice ao c co) d0 d1 d2 d3 = C := ⟨_, rfl⟩
      have hCs : C.toArray.size = 7 := by rw [← hC]; rfl
      have hC1 : C.toArray.all (·.oneCell') = true := by rw [← hC]; exact onePlay
      have hIC := sizePlay C.toArray hCs
      have hblk : wo.heap[b1]? = some (.cells C.toArray 35 (0, 0)) := by rw [← hC]; exact pb_heap HB1.out
      have hres : wo.heap[b1 + 1]? = some (.cells Z.toArray 35 (0, 0)) := pb_heap HX.out.1.2.2.2.2.2.1
      have HE := Go.Lib.hid (And.intro hend hC)
      clear hend hC
      go_wp2_with (first
        | (refine wpList_load_row rfl _ _ rfl b1 rfl 35 C.toArray (0, 0) _ hblk Try.underlying35 rfl hIC ?_)
        | (refine wpList_store_row rfl _ _ _ rfl (b1 + 1) C.toArray rfl rfl 35 Z.toArray hres hIC (by rw [hCs]; exact HZ.out.2) hC1 ?_))
      refine bodyPost_ret (v := .agg C.toArray) (results_cell_row rfl _ _ (b1 + 1) 35 C.toArray (0, 0) _ rfl (setRow_heap _ _ _ _ _ _ hres) Try.underlying35 rfl hIC) rfl ?_
      have hg := setRow_grown wo (b1 + 1) C.toArray
      have hB2 := HX.out.1.2.2.2.2.2.1
      rw [HE.out.1]
      refine ⟨al, ao, co, by rw [HC.out, HE.out.2], by rw [HC.out]; exact psAside HPS.out hB2 (Nat.le_refl _) (by decide) (by decide) hg, ⟨Nat.le_trans HX.out.1.2.2.2.2.2.2.1 hg.size, fun B ty sz v n xs e1 e2 h3 => (HX.out.1.2.2.2.2.2.2.2 B ty sz v n xs e1 e2 h3).kept hg ?_⟩⟩
      cases hv : v.ownBlock with
      | none => exact .inl rfl
      | some r =>
        refine .inr (fun e => ?_)
        cases e
        have := (h3.lt _ hv).2
        have := HBB.out
        omega

end Go.Proofs.Yteiocoahllnoeab.PlayPopC

/-
  Contract: the model's l7Moves: an order is played by a sharing. Conditions: an order and one of its sharings.
-/
namespace Go.Proofs.Yteiocoahllnoeab.PlayMvC
open Go.RowKit SeesC IntsC ExactC OrdMath BesM PlayM ListsC SameC AppendTwoC StepTwoC GreedyC RunPC RunP2C RunBC BigC PlaySC PlayPopC WordC
set_option linter.unusedVariables false
set_option linter.unusedSimpArgs false

theorem infoLL : (Try.prog.info? 22).map (fun i => (i.zero, i.size, i.bytes)) = some (some (.slice none 0 0), 1, 24) := by kernel_rfl

section
variable {P : Program} {ops : Array Oper} {rest : List Oper} {o : Oper} {a : Act} {w : World} {Q : Exit → Act → World → Prop}
theorem wpList_makeSlice_full (hgd : o.guard = none) (t : TypeId) (x y : Operand) (ho : o.op = .makeSlice t x y) (base : Nat) (e : TypeId) (i : TypeInfo) (z : Value) (size : Nat) (ht : P.underlying t = some (.slice e)) (hi : P.info? e = some i) (hz : i.zero = some z) (hsize : i.size = size)
    (n : Nat) (hx : a.eval x = .int .i64 (n : Int)) (hy : a.eval y = .int .i64 (n : Int)) (hcells : n * size ≤ 16777216) (hbytes : i.bytes * n ≤ 281474976710656) (h63 : n ≤ maxLen) (hbase : base ≤ w.heap.size)
    (h : ∀ w', w'.ownsRow base e size (.slice (some ⟨w.heap.size, 0, none⟩) n n) n (madeCells z.cells (n * size)).toList → w.grownBy w' none → wpList P ops Q rest (a.put o.dst (.slice (some ⟨w.heap.size, 0, none⟩) n n)) w') : wpList P ops Q (o :: rest) a w := by
  refine wpList_plain hgd fun K hK => ?_
  obtain ⟨w', hr, h1, h2⟩ := run_makeSlice_full (P := P) w base t e i z size ht hi hz hsize .i64 .i64 n hcells hbytes h63 hbase
  unfold Oper.wp execOp
  simp only [ho, hx, hy, Sem.run_bind, hr, Result.andThen_ok, Sem.run_pure]
  exact hK _ _ (h w' h1 h2)
end

/-- A play's cells by its list of depths. -/
def pcl (h : Nat) (mv : ByteArray) (ov : Value) (D : List Int) : List Value := [.slice (some ⟨h, 0, none⟩) 4 4, .string mv, ov] ++ vals D

theorem pcl_eq {h : Nat} {mv : ByteArray} {ov : Value} {D : List Int} (hD : D.length = 4) : pcl h mv ov D = pcells h mv ov (D.getD 0 0) (D.getD 1 0) (D.getD 2 0) (D.getD 3 0) := by
  match D, hD with
  | [a, b, c, d], _ => rfl

theorem pcl_at {h : Nat} {mv : ByteArray} {ov : Value} {D : List Int} {s : Nat} (hs : s < D.length) : (pcl h mv ov D)[3 + s]? = some (.int .i64 (D.getD s 0)) := by
  unfold pcl
  rw [List.getElem?_append_right (by simp)]
  simp [hs]

theorem pcl_set {h : Nat} {mv : ByteArray} {ov : Value} {D : List Int} {s : Nat} {x : Int} : (pcl h mv ov D).set (3 + s) (.int .i64 x) = pcl h mv ov (D.set s x) := by
  unfold pcl
  rw [List.set_append_right _ _ (by simp)]
  simp

/-- What has been played: the stacks and the play's cells. -/
def MvI (W1 : World) (h b5 : Nat) (q : Pl) (al : List (Option Addr × Nat)) (ao : Option Addr) (co : Nat) (w : World) : Prop :=
  PS W1 h al q.st ao co q.c w ∧ PB W1 b5 (pcl h (txt q.mv) (.slice ao q.c co) q.dp) w

theorem onePcl {h : Nat} {mv : ByteArray} {a : Option Addr} {n k : Nat} {D : List Int} : (pcl h mv (.slice a n k) D).toArray.all (·.oneCell') = true := by
  refine all_oneCell_toArray fun v hv => ?_
  unfold pcl at hv
  simp only [List.mem_append, List.mem_cons, List.mem_map, List.not_mem_nil, or_false] at hv
  rcases hv with (rfl | rfl | rfl) | ⟨x, _, rfl⟩ <;> rfl

theorem cutUp0 (w : World) : (Instr.slice 9 (.string { data := #[65, 66, 67, 68] }) (some (.int .i64 ((0 : Nat) : Int))) (some (.int .i64 (((0 : Nat) : Int) + 1))) none).run Try.prog w = .ok (.string ⟨#[UInt8.ofNat (65 + 0)]⟩) w := by kernel_rfl
theorem cutUp1 (w : World) : (Instr.slice 9 (.string { data := #[65, 66, 67, 68] }) (some (.int .i64 ((1 : Nat) : Int))) (some (.int .i64 (((1 : Nat) : Int) + 1))) none).run Try.prog w = .ok (.string ⟨#[UInt8.ofNat (65 + 1)]⟩) w := by kernel_rfl
theorem cutUp2 (w : World) : (Instr.slice 9 (.string { data := #[65, 66, 67, 68] }) (some (.int .i64 ((2 : Nat) : Int))) (some (.int .i64 (((2 : Nat) : Int) + 1))) none).run Try.prog w = .ok (.string ⟨#[UInt8.ofNat (65 + 2)]⟩) w := by kernel_rfl
theorem cutUp3 (w : World) : (Instr.slice 9 (.string { data := #[65, 66, 67, 68] }) (some (.int .i64 ((3 : Nat) : Int))) (some (.int .i64 (((3 : Nat) : Int) + 1))) none).run Try.prog w = .ok (.string ⟨#[UInt8.ofNat (65 + 3)]⟩) w := by kernel_rfl
theorem cutUp {x : Nat} (hx : x < 4) (w : World) : (Instr.slice 9 (.string { data := #[65, 66, 67, 68] }) (some (.int .i64 (x : Int))) (some (.int .i64 ((x : Int) + 1))) none).run Try.prog w = .ok (.string ⟨#[UInt8.ofNat (65 + x)]⟩) w := by
  have : x = 0 ∨ x = 1 ∨ x = 2 ∨ x = 3 := by omega
  rcases this with rfl | rfl | rfl | rfl
  · exact cutUp0 w
  · exact cutUp1 w
  · exact cutUp2 w
  · exact cutUp3 w

/-- Behind the append to a stack. -/
theorem pushed_all {W : World} {h : Nat} {al : List (Option Addr × Nat)} {st : List (List Int)} {ao : Option Addr} {co c : Nat} {wo X w5 : World} {oo : Obj} {g5 c5 s L : Nat} {x : Int} {v0 : Value} (k : PS W h al st ao co c wo) (hd : Drawn wo X) (hs : s < 4) (hL : (st.getD s []).length = L) (hv0 : rv al st s = v0)
    (hown : w5.ownsRow W.heap.size 3 1 (.slice (some ⟨g5, 0, none⟩) (L + 1) c5) (L + 1) (vals (st.getD s []) ++ [.int .i64 x])) (hg : (X.alloc oo).grownBy w5 v0.ownBlock) (hn : NewRow (X.alloc oo) v0 (.slice (some ⟨g5, 0, none⟩) (L + 1) c5)) :
    (PS W h (al.set s (some ⟨g5, 0, none⟩, c5)) (st.set s (st.getD s [] ++ [x])) ao co c (w5.setCell ⟨h, s, none⟩ (.slice (some ⟨g5, 0, none⟩) (L + 1) c5)) ∧ Stays wo (w5.setCell ⟨h, s, none⟩ (.slice (some ⟨g5, 0, none⟩) (L + 1) c5))) ∧ w5.cell? ⟨h, s, none⟩ = some v0 ∧ w5.frozen? ⟨h, s, none⟩ = false ∧ Stays wo w5 := by
  subst hL hv0
  have k1 := (k.drawn hd).alloc oo
  have e1 : vals (st.getD s []) ++ [Value.int .i64 x] = vals (st.getD s [] ++ [x]) := by simp
  rw [e1] at hown
  have h1 := k1.pushed hs hown hg hn
  have hH := own_mark k1.hd hg (fun q hq e => own_apart k1.hd (k1.row s hs) (by decide) hq e)
  exact ⟨⟨h1.1, (Stays.below (hd.below _)).trans ((Stays.below ((Below.refl _ _).alloc (Nat.le_refl _) _)).trans h1.2)⟩, (World.ownsRow.cellAt hH s (by omega)).trans (rowsV_at hs), World.ownsRow.frozenAt hH s, (Stays.below (hd.below _)).trans ((Stays.below ((Below.refl _ _).alloc (Nat.le_refl _) _)).trans (Stays.grown (k1.row s hs) (.inl rfl) hg))⟩

theorem mv0 {W1 w3 : World} (hown3 : w3.ownsRow W1.heap.size 22 1 (.slice (some ⟨W1.heap.size, 0, none⟩) 4 4) 4 (madeCells (Value.slice none 0 0).cells (4 * 1)).toList) (hgrow3 : W1.grownBy w3 none) :
    MvI W1 W1.heap.size (w3.heap.size + 1) pl0 (List.replicate 4 (none, 0)) (some ⟨w3.heap.size, 0, none⟩) 0 ((w3.alloc (.cells #[] 3)).alloc (.cells (pcl W1.heap.size (txt []) (.slice (some ⟨w3.heap.size, 0, none⟩) 0 0) [0, 0, 0, 0]).toArray 35)) := by
  have hb3 : Below W1.heap.size W1 w3 := (Below.refl _ _).grown hgrow3 (Nat.le_refl _) (fun q hq => by cases hq)
  have hsz : (w3.alloc (.cells #[] 3)).heap.size = w3.heap.size + 1 := by simp
  have hpb := World.ownsRow_lit (size := 7) (e := 35) (base := W1.heap.size) (w3.alloc (.cells #[] 3)) (pcl W1.heap.size (txt []) (.slice (some ⟨w3.heap.size, 0, none⟩) 0 0) [0, 0, 0, 0]).toArray 1 (by rw [hsz]; have := hb3.size; omega) (by unfold maxLen; omega) rfl
  rw [hsz] at hpb
  have hnil : ∀ s, s < 4 → rv (List.replicate 4 (none, 0)) [[], [], [], []] s = .slice none 0 0 ∧ ([[], [], [], []] : List (List Int)).getD s [] = [] := fun s hs => by
    have : s = 0 ∨ s = 1 ∨ s = 2 ∨ s = 3 := by omega
    rcases this with rfl | rfl | rfl | rfl <;> exact ⟨rfl, rfl⟩
  have e3 : (madeCells (Value.slice none 0 0).cells (4 * 1)).toList = rowsV (List.replicate 4 (none, 0)) pl0.st := by
    have e4 : rowsV (List.replicate 4 (none, 0)) pl0.st = List.replicate 4 (.slice none 0 0) := rfl
    rw [e4]
    exact LLC.made_nil 4
  rw [e3] at hown3
  refine ⟨PS.alloc ⟨rfl, rfl, hown3.alloc _, ?_, World.ownsRow_made w3 _ _ hb3.size (by unfold maxLen; omega) rfl, ?_, ?_, hb3.alloc hb3.size _⟩ _, hpb⟩
  · intro s hs
    show World.ownsRow _ _ _ _ (rv _ [[], [], [], []] s) (([[], [], [], []] : List (List Int)).getD s []).length (vals (([[], [], [], []] : List (List Int)).getD s []))
    rw [(hnil s hs).1, (hnil s hs).2]
    exact World.ownsRow_nil _ _ _ _
  · intro a b ha hb hab q hq
    have : rv (List.replicate 4 (none, 0)) pl0.st a = .slice none 0 0 := (hnil a ha).1
    rw [this] at hq; simp [Value.ownBlock] at hq
  · intro a ha q hq
    have : rv (List.replicate 4 (none, 0)) pl0.st a = .slice none 0 0 := (hnil a ha).1
    rw [this] at hq; simp [Value.ownBlock] at hq

theorem popAll_dp : ∀ (f : Nat) (p : Pl), (popAll f p).dp = p.dp
  | 0, _ => rfl
  | f + 1, p => by
    rw [popAll]
    split
    · rfl
    · rw [popAll_dp f]; rfl

theorem pb_row {W : World} {b : Nat} {C C' : List Value} {w : World} (h : PB W b C w) (hC : C'.length = 7) : PB W b C' (w.setRow b C'.toArray) := by
  have hh := setRow_heap w b _ C'.toArray _ _ (pb_heap h)
  exact ⟨by omega, .inr ⟨b, 1, C'.toArray, rfl, (h.lt b rfl).1, hh, Nat.le_refl _, by unfold maxLen; omega, by simp [hC], List.take_of_length_le (by simp [hC])⟩⟩

set_option maxRecDepth 100000 in
set_option maxHeartbeats 8000000 in
theorem l7Moves_any (zs so : List Int) (ho : Ord zs) (hsh : Sh zs so) (W : World) (v : Value) (n : Nat) (hv : Sees W v n (vals zs)) (u : Value) (hu : Sees W u n (vals so)) :
    Calls Try.prog 18 #[v, u] W fun e w' => ∃ (h : Nat) (ao : Option Addr) (co : Nat), e = .returned (.agg (pcl h (txt (play zs so n).mv) (.slice ao (play zs so n).c co) (play zs so n).dp).toArray) ∧ w'.ownsRow W.heap.size 3 1 (.slice ao (play zs so n).c co) (play zs so n).c (vals (iota (play zs so n).c)) ∧ Below W.heap.size W w' := by
  obtain ⟨i0, hi, hz0, hz1, hz2⟩ := info_parts infoI
  obtain ⟨l0, hl0, hy0, hy1, hy2⟩ := info_parts infoLL
  have hu2 := Try.underlying22
  have hl : zs.length = n := by simpa using hv.1
  have hn7 : n ≤ 7 := by have := ho.2.1; omega
  have hn1 : 1 ≤ n := by have := ho.1; omega
  obtain ⟨b, o, cap, rfl, _, _, hbl, hcell⟩ := sees_cells hv (by omega)
  obtain ⟨b2, o2, cap2, rfl, _, _, hbl2, hcell2⟩ := sees_cells hu (by omega)
  have HC := Go.Lib.hid hcell
  have HC2 := Go.Lib.hid hcell2
  have HL := Go.Lib.hid (And.intro hl (And.intro ho hsh))
  have HII := Go.Lib.hid (And.intro hi (And.intro hz0 (And.intro hz1 hz2)))
  clear hcell hcell2 hl hv hu ho hsh
  go_enter Try.func18, Try.ntmps18
  obtain ⟨Z, hZ⟩ : ∃ Z : List Value, [.slice none 0 0, .string ByteArray.empty, .slice none 0 0, .int .i64 0, .int .i64 0, .int .i64 0, .int .i64 0] = Z := ⟨_, rfl⟩
  have hZs : Z.toArray.size = 7 := by rw [← hZ]; rfl
  have hinfo : (Try.prog.info? 35).map (fun i => (i.zero, i.size)) = some (some (.agg Z.toArray), 7) := by rw [← hZ]; exact infoPlay
  have HZ := Go.Lib.hid (And.intro hZ hZs)
  clear hZ hZs
  go_wp2_with (first
    | (refine wpList_alloc_agg rfl _ rfl Z.toArray 7 hinfo ?_; first
        | (obtain ⟨W1, hW1⟩ : ∃ W1, W.alloc (.cells Z.toArray 35) = W1 := ⟨_, rfl⟩; rw [hW1]; have HW1 : Hid (W1.heap.size = W.heap.size + 1 ∧ W1.heap[W.heap.size]? = some (.cells Z.toArray 35 (0, 0)) ∧ Below W.heap.size W W1) := Go.Lib.hid (by rw [← hW1]; exact ⟨by simp, heap_alloc_new _ _, (Below.refl _ _).alloc (Nat.le_refl _) _⟩); clear hW1)
        | skip)
    | (refine wpList_makeSlice_full rfl 33 _ _ rfl W1.heap.size 22 l0 (.slice none 0 0) 1 Try.underlying33 hl0 hy0 hy1 4 rfl rfl (by omega) (by rw [hy2]; omega) (by unfold maxLen; omega) (Nat.le_refl _) ?_; intro w3 hown3 hgrow3)
    | (refine wpList_store_new rfl 35 (.tmp 5) (.tmp 10) rfl (w3.alloc (.cells #[] 3)) Z.toArray (pcl W1.heap.size (txt []) (.slice (some ⟨w3.heap.size, 0, none⟩) 0 0) [0, 0, 0, 0]).toArray rfl rfl (by first | rfl | simp [Act.eval, pcl, txt]) (sizePlay _ rfl) (by rw [HZ.out.2]; rfl) onePcl ?_))
  have H0 := Go.Lib.hid (mv0 hown3 hgrow3)
  obtain ⟨h, hh⟩ : ∃ h, W1.heap.size = h := ⟨_, rfl⟩
  obtain ⟨b5, hb5⟩ : ∃ b, w3.heap.size + 1 = b := ⟨_, rfl⟩
  obtain ⟨w6, hw6⟩ : ∃ w6, ((w3.alloc (.cells #[] 3)).alloc (.cells (pcl W1.heap.size (txt []) (.slice (some ⟨w3.heap.size, 0, none⟩) 0 0) [0, 0, 0, 0]).toArray 35)) = w6 := ⟨_, rfl⟩
  rw [hw6] at H0 ⊢
  rw [hb5] at H0 ⊢
  rw [hh] at H0 ⊢
  clear hw6 hh hb5 hown3 hgrow3 hinfo hl0 hy0 hy1 hy2
  go_loopw [6] (fun iv wr => ∃ (i : Nat) (al : List (Option Addr × Nat)) (ao : Option Addr) (co : Nat), i ≤ n ∧ iv = .int .i64 (i : Int) ∧ Hid (MvI W1 h b5 (play zs so i) al ao co wr)) (fun iv _ => n - (intOf iv).toNat)
  case atStart => exact ⟨0, _, _, _, Nat.zero_le _, rfl, H0⟩
  case round =>
    obtain ⟨i, al, ao, co, hin, rfl, HX⟩ := hrel
    clear H0
    obtain ⟨wo, rfl⟩ : ∃ wo, wo = wr := ⟨_, rfl⟩
    have hbW : Hid (Below W.heap.size W wo) := Go.Lib.hid (HW1.out.2.2.trans (HX.out.1.bel.mono (by rw [HW1.out.1]; omega)))
    by_cases hlt : i < n
    · have hck := (hbW.out.cell (p := ⟨b, o + i, none⟩) hbl).trans (HC.out i (by have := HL.out.1; omega))
      have hck2 := (hbW.out.cell (p := ⟨b2, o2 + i, none⟩) hbl2).trans (HC2.out i (by have := HL.out.1; have := HL.out.2.2.1; omega))
      obtain ⟨s, hs, hso⟩ := HL.out.2.2.at (i := i) (by have := HL.out.1; omega)
      obtain ⟨x, hx⟩ : ∃ x, zs.getD i 0 = x := ⟨_, rfl⟩
      rw [hx] at hck
      rw [hso] at hck2
      obtain ⟨hI, _⟩ := inv_play HL.out.2.1 HL.out.2.2 i (by have := HL.out.1; omega)
      have hlen7 : ((play zs so i).st.getD s []).length < 7 := by
        rw [hI.st s hs]
        have := onS_len zs so s i (play zs so i).c
        omega
      have HI := Go.Lib.hid (And.intro hx (And.intro hso hI))
      obtain ⟨q, hq⟩ : ∃ q, play zs so i = q := ⟨_, rfl⟩
      rw [hq] at HX HI hlen7 hI
      have HQ := Go.Lib.hid hq
      obtain ⟨L, hL⟩ : ∃ L, (q.st.getD s []).length = L := ⟨_, rfl⟩
      rw [hL] at hlen7
      have hhd := (World.ownsRow.cellAt HX.out.1.hd s (by omega)).trans (rowsV_at hs)
      have hrow := HX.out.1.row s hs
      obtain ⟨ad, had⟩ : ∃ a, (al.getD s (none, 0)).1 = a := ⟨_, rfl⟩
      obtain ⟨cp, hcp⟩ : ∃ a, (al.getD s (none, 0)).2 = a := ⟨_, rfl⟩
      have hrv : rv al q.st s = .slice ad L cp := by unfold rv; rw [had, hcp, hL]
      rw [hrv] at hhd hrow
      rw [hL] at hrow
      have HOO : Hid (∀ X, Drawn wo X → ∀ oo, (X.alloc oo).ownsRow W1.heap.size 3 1 (.slice ad L cp) L (vals (q.st.getD s []))) := Go.Lib.hid (fun X hX oo => World.ownsRow.alloc (own_heap hX.heap hrow) oo)
      have HR := Go.Lib.hid (And.intro hL hrv)
      have k0 : wo.cell? ⟨b5, 0, none⟩ = some (.slice (some ⟨h, 0, none⟩) 4 4) := World.ownsRow.cellAt HX.out.2 0 (by omega)
      have hblt : b5 < wo.heap.size := (HX.out.2.lt b5 rfl).2
      have hhl : h < wo.heap.size := (HX.out.1.hd.lt h rfl).2
      have hhdA : ∀ oo : Obj, (wo.alloc oo).cell? ⟨h, s, none⟩ = some (.slice ad L cp) := fun oo => (Below.cell ((Below.refl wo.heap.size wo).alloc (Nat.le_refl _) oo) (p := ⟨h, s, none⟩) hhl).trans hhd
      have k0A : ∀ oo : Obj, (wo.alloc oo).cell? ⟨b5, 0, none⟩ = some (.slice (some ⟨h, 0, none⟩) 4 4) := fun oo => (Below.cell ((Below.refl wo.heap.size wo).alloc (Nat.le_refl _) oo) (p := ⟨b5, 0, none⟩) hblt).trans k0
      have hsi : (s : Int) < 4 := by omega
      have hii : (i : Int) < (n : Int) := by omega
      have hWs : W1.heap.size ≤ wo.heap.size := HX.out.1.bel.size
      clear hx hso hI hq hL had hcp hrv hrow
      have hx5 : b5 ≠ h := fun e => by subst e; exact own_apart HX.out.2 HX.out.1.hd (by decide) rfl rfl
      go_upto_region 6 with fail
      go_cut [] from 11 to 59 (fun wx => ∃ g5 c5, Hid (PS W1 h (al.set s (some ⟨g5, 0, none⟩, c5)) (q.st.set s (q.st.getD s [] ++ [x])) ao co q.c wx ∧ Stays wo wx))
      case first =>
        go_region_law (refine step_append_two _ rfl (.tmp 28) (.tmp 33) 22 rfl W1.heap.size 3 i0 (.int .i64 0) 1 8 hu2 HII.out.1 HII.out.2.1 HII.out.2.2.1 HII.out.2.2.2 rfl (by decide) (.slice ad L cp) L (vals (q.st.getD s [])) (by simp [Act.eval]) (HOO.out _ (drawnDrew (Drawn.refl _)) _) ⟨wo.heap.size, 0, none⟩ 1 1 [.int .i64 x] (by simp [Act.eval]) rfl (cell_one_new _ _ _) (fun x hx => by simp at hx; subst hx; rfl) (by unfold maxLen; omega) (by omega) (by simp; omega) ?_; intro v5 w5 hown5 hgrow5 hnew5; obtain ⟨g5, c5, rfl⟩ := ownsRow_succ hown5; obtain ⟨h5, kk, ff, hs5⟩ := pushed_all HX.out.1 (drawnDrew (Drawn.refl _)) hs HR.out.1 HR.out.2 hown5 hgrow5 hnew5; have H5 := Go.Lib.hid h5; have kk0 : w5.cell? ⟨b5, 0, none⟩ = some (.slice (some ⟨h, 0, none⟩) 4 4) := World.ownsRow.cellAt (stays_pb hs5 HX.out.2) 0 (by omega); clear hown5 hgrow5 hnew5 h5 hs5)
        all_goals (go_wp2_with fail; go_meet; exact ⟨g5, c5, H5⟩)
      case rest =>
        obtain ⟨g5, c5, H5⟩ := hcut
        clear k0A hhdA hhd HOO k0
        have HB6 := Go.Lib.hid (stays_pb H5.out.2 HX.out.2)
        have k1 : wc.cell? ⟨b5, 1, none⟩ = some (.string (txt q.mv)) := World.ownsRow.cellAt HB6.out 1 (by omega)
        have ff := World.ownsRow.frozenAt HB6.out 1
        have hwx : IntKind.i64.wrap ((s : Int) + 1) = (s : Int) + 1 := IntWalk.i64_in _ (by omega)
        have hcut2 := fun (w : World) => cutUp hs w
        obtain ⟨ch, hch⟩ : ∃ ch : ByteArray, ⟨#[UInt8.ofNat (65 + s)]⟩ = ch := ⟨_, rfl⟩
        have hszt : ¬ 9223372036854775807 < (txt q.mv).size + ch.size := by
          have h1 := HI.out.2.2.mvl
          have h2 := HI.out.2.2.cle
          have h3 := HL.out.1
          rw [txt_size, ← hch]
          show ¬ _ < _ + 1
          omega
        rw [hch] at hcut2
        have HCH := Go.Lib.hid hch
        clear hch
        go_wp2_with fail
        go_region
        obtain ⟨w7, hw7⟩ : ∃ w7, (wc.setCell ⟨b5, 1, none⟩ (.string (txt q.mv ++ ch))).drew = w7 := ⟨_, rfl⟩
        have hst7 := World.ownsRow.stored HB6.out 1 (.string (txt q.mv ++ ch))
        have H7 : Hid (PS W1 h (al.set s (some ⟨g5, 0, none⟩, c5)) (pushP q s x).st ao co q.c w7 ∧ PB W1 b5 (pcl h (txt (pushP q s x).mv) (.slice ao q.c co) q.dp) w7) := Go.Lib.hid (by
          rw [← hw7]
          refine ⟨(psAside H5.out.1 HB6.out (Nat.le_refl _) (by decide) (by decide) hst7.2).drawn (drawnDrew (Drawn.refl _)), own_heap rfl ?_⟩
          have e1 : txt q.mv ++ ch = txt (pushP q s x).mv := by rw [← HCH.out, txt_snoc]; rfl
          rw [← e1]
          exact hst7.1)
        rw [hw7]
        clear hw7 hst7 k1 ff hcut2 hszt hwx
        obtain ⟨ds, hds⟩ : ∃ ds : Nat, q.dp.getD s 0 = (ds : Int) := ⟨(q.dp.getD s 0).toNat, by have := (HI.out.2.2.dpb s hs).1; omega⟩
        have hd4 := HI.out.2.2.dlen
        obtain ⟨W2, hW2, H8⟩ : ∃ W2 : World, ({ w7 with drawn := w7.drawn + 1 } : World) = W2 ∧ Hid (PS W1 h (al.set s (some ⟨g5, 0, none⟩, c5)) (pushP q s x).st ao co q.c W2 ∧ PB W1 b5 (pcl h (txt (pushP q s x).mv) (.slice ao q.c co) q.dp) W2) := ⟨_, rfl, Go.Lib.hid ⟨H7.out.1.drawn (drawnDrew (Drawn.refl _)), own_heap rfl H7.out.2⟩⟩
        have k0 : W2.cell? ⟨b5, 0, none⟩ = some (.slice (some ⟨h, 0, none⟩) 4 4) := World.ownsRow.cellAt H8.out.2 0 (by omega)
        have k3 : W2.cell? ⟨b5, 3 + s, none⟩ = some (.int .i64 (ds : Int)) := (World.ownsRow.cellAt H8.out.2 (3 + s) (by omega)).trans (by rw [pcl_at (by omega), hds])
        have f3 := World.ownsRow.frozenAt H8.out.2 (3 + s)
        have hhd : W2.cell? ⟨h, s, none⟩ = some (.slice (some ⟨g5, 0, none⟩) (L + 1) c5) := (World.ownsRow.cellAt H8.out.1.hd s (by omega)).trans (by
          rw [rowsV_at hs]
          unfold rv pushP
          simp only
          rw [getD_set_selfA (by have := HX.out.1.alen; omega), getD_set_selfA (by have := HX.out.1.slen; omega), List.length_append, HR.out.1]
          rfl)
        have CM : Hid (Calls Try.prog 28 #[.int .i64 (ds : Int), .int .i64 ((L : Int) + 1)] W2 fun e w' => e = .returned (.int .i64 ((max ds (L + 1) : Nat) : Int)) ∧ w' = W2) := Go.Lib.hid ((l1Most_any ds (L + 1) W2).mono (fun e w' h => ⟨h.1, h.2.symm⟩))
        have HDS := Go.Lib.hid (And.intro hds hd4)
        clear hds hd4
        go_wp2_with fail
        refine wp_region_still_tail 14 (by kernel_rfl) (by kernel_rfl) ?_
        simp only [List.take_succ_cons, List.take_zero, List.drop_succ_cons, List.drop_zero]
        rw [hW2]
        clear hW2
        iterate 11 still_step
        still_call (CM.out)
        iterate 2 still_step
        refine wpStill_nil ?_
        have hst9 := World.ownsRow.stored H8.out.2 (3 + s) (.int .i64 ((max ds (L + 1) : Nat) : Int))
        obtain ⟨w9, hw9⟩ : ∃ w9, W2.setCell ⟨b5, 3 + s, none⟩ (.int .i64 ((max ds (L + 1) : Nat) : Int)) = w9 := ⟨_, rfl⟩
        have H9 : Hid (PS W1 h (al.set s (some ⟨g5, 0, none⟩, c5)) (pushP q s x).st ao co (pushP q s x).c w9 ∧ PB W1 b5 (pcl h (txt (pushP q s x).mv) (.slice ao (pushP q s x).c co) (pushP q s x).dp) w9) := Go.Lib.hid (by
          rw [← hw9]
          refine ⟨psAside H8.out.1 H8.out.2 (Nat.le_refl _) (by decide) (by decide) hst9.2, ?_⟩
          have e1 : (pushP q s x).dp = q.dp.set s ((max ds (L + 1) : Nat) : Int) := by
            unfold pushP
            simp only [HDS.out.1, HR.out.1]
            congr 1
            omega
          rw [e1, ← pcl_set]
          exact hst9.1)
        have hInv := inv_push HL.out.2.1 (by have := HL.out.1; omega) hs HI.out.2.1 HI.out.2.2
        rw [HI.out.1] at hInv
        have hd9 := hInv.dlen
        have heq := pcl_eq (h := h) (mv := txt (pushP q s x).mv) (ov := .slice ao (pushP q s x).c co) hd9
        have CP := Go.Lib.hid (l7Pop_any zs so HL.out.2.1 (i + 1) (by have := HL.out.1; omega) W1 h (pushP q s x) hInv (al.set s (some ⟨g5, 0, none⟩, c5)) ao co ((pushP q s x).dp.getD 0 0) ((pushP q s x).dp.getD 1 0) ((pushP q s x).dp.getD 2 0) ((pushP q s x).dp.getD 3 0) w9 H9.out.1)
        rw [← heq] at CP
        obtain ⟨C, hC⟩ : ∃ C, pcl h (txt (pushP q s x).mv) (.slice ao (pushP q s x).c co) (pushP q s x).dp = C := ⟨_, rfl⟩
        rw [hC] at CP
        have hblk : w9.heap[b5]? = some (.cells C.toArray 35 (0, 0)) := by rw [← hC]; exact pb_heap H9.out.2
        have hCs : C.toArray.size = 7 := by rw [← hC, heq]; rfl
        have hIC := sizePlay C.toArray hCs
        have HCC := Go.Lib.hid (And.intro hC hd9)
        clear hst9 hC heq hInv hd9 k0 hhd CM
        go_wp2_with (first
          | (rw [hw9]; clear hw9)
          | (refine wpList_load_row rfl _ _ rfl b5 rfl 35 C.toArray (0, 0) _ hblk Try.underlying35 rfl hIC ?_))
        refine (CP.out).mono ?_
        rintro e w10 ⟨al', ao', co', rfl, hps, hst10⟩
        have hE : popAll zs.length (pushP q s x) = play zs so (i + 1) := by
          show _ = popAll zs.length (pushP (play zs so i) (so.getD i 0).toNat (zs.getD i 0))
          rw [HI.out.2.1, HI.out.1, Int.toNat_natCast, HQ.out]
        have hdp : (play zs so (i + 1)).dp = (pushP q s x).dp := by rw [← hE, popAll_dp]
        rw [hE] at hps ⊢
        have heq2 := pcl_eq (h := h) (mv := txt (play zs so (i + 1)).mv) (ov := .slice ao' (play zs so (i + 1)).c co') HCC.out.2
        rw [← heq2]
        obtain ⟨C2, hC2⟩ : ∃ C2, pcl h (txt (play zs so (i + 1)).mv) (.slice ao' (play zs so (i + 1)).c co') (pushP q s x).dp = C2 := ⟨_, rfl⟩
        rw [hC2]
        have hC2s : C2.toArray.size = 7 := by rw [← hC2, heq2]; rfl
        have hC21 : C2.toArray.all (·.oneCell') = true := by rw [← hC2]; exact onePcl
        have hIC2 := sizePlay C2.toArray hC2s
        have HB10 := Go.Lib.hid (stays_pb hst10 H9.out.2)
        have hblk2 : w10.heap[b5]? = some (.cells C.toArray 35 (0, 0)) := by rw [← HCC.out.1]; exact pb_heap HB10.out
        have HN : Hid (MvI W1 h b5 (play zs so (i + 1)) al' ao' co' (w10.setRow b5 C2.toArray)) := Go.Lib.hid (by
          refine ⟨psAside hps HB10.out (Nat.le_refl _) (by decide) (by decide) (setRow_grown _ _ _), ?_⟩
          rw [hdp, hC2]
          exact pb_row HB10.out hC2s)
        clear hC2 heq2 hps hst10 hE hdp CP hblk hIC
        go_wp2_with (refine wpList_store_row rfl _ _ _ rfl b5 C2.toArray rfl rfl 35 C.toArray hblk2 hIC2 (by rw [hC2s]; exact hCs) hC21 ?_)
        go_roundw
        case rel => exact ⟨i + 1, al', ao', co', by omega, by go_num, HN⟩
        case measure => simp [intOf]; omega
    · have hni : i = n := by omega
      subst hni
      obtain ⟨C, hC⟩ : ∃ C, pcl h (txt (play zs so i).mv) (.slice ao (play zs so i).c co) (play zs so i).dp = C := ⟨_, rfl⟩
      have hd9 := (inv_play HL.out.2.1 HL.out.2.2 i (by have := HL.out.1; omega)).1.dlen
      have hCs : C.toArray.size = 7 := by rw [← hC, pcl_eq hd9]; rfl
      have hC1 : C.toArray.all (·.oneCell') = true := by rw [← hC]; exact onePcl
      have hIC := sizePlay C.toArray hCs
      have hblk : wo.heap[b5]? = some (.cells C.toArray 35 (0, 0)) := by rw [← hC]; exact pb_heap HX.out.2
      have hres : wo.heap[W.heap.size]? = some (.cells Z.toArray 35 (0, 0)) := by
        rw [HX.out.1.bel.block W.heap.size (by rw [HW1.out.1]; omega)]; exact HW1.out.2.1
      have HE := Go.Lib.hid hC
      clear hC hd9
      go_wp2_with (first
        | (refine wpList_load_row rfl _ _ rfl b5 rfl 35 C.toArray (0, 0) _ hblk Try.underlying35 rfl hIC ?_)
        | (refine wpList_store_row rfl _ _ _ rfl W.heap.size C.toArray rfl rfl 35 Z.toArray hres hIC (by rw [hCs]; exact HZ.out.2) hC1 ?_))
      refine bodyPost_ret (v := .agg C.toArray) (results_cell_row rfl _ _ W.heap.size 35 C.toArray (0, 0) _ rfl (setRow_heap _ _ _ _ _ _ hres) Try.underlying35 rfl hIC) rfl ?_
      have hg := setRow_grown wo W.heap.size C.toArray
      refine ⟨h, ao, co, by rw [HE.out], own_lower2 (own_mark HX.out.1.out hg (fun q hq e => ?_)) (by rw [HW1.out.1]; omega), hbW.out.grown hg hbW.out.size (fun q hq => by cases hq; exact Nat.le_refl _)⟩
      cases e
      have := (HX.out.1.out.lt _ hq).1
      rw [HW1.out.1] at this
      omega

end Go.Proofs.Yteiocoahllnoeab.PlayMvC

/-
  Contract: FitsSharing of the model and of the program. Conditions: lists of at most 2^20 numbers.
-/
namespace Go.Proofs.Yteiocoahllnoeab.FitsPubC
open Go.RowKit SeesC IntsC ExactC NumC OrdMath BesM PlayM SharC FitsC IterC RunPC RunBC RunFC BigC 
set_option linter.unusedVariables false

theorem deps_zero {p : Pl} (h : p.st.length = 4) : (∀ s, s < 4 → (p.st.getD s []).length = 0) ↔ ((deps p).getD 0 0 = 0 ∧ (deps p).getD 1 0 = 0 ∧ (deps p).getD 2 0 = 0 ∧ (deps p).getD 3 0 = 0) := by
  rw [deps_at h (by omega), deps_at h (by omega), deps_at h (by omega), deps_at h (by omega)]
  constructor
  · intro hs
    have h0 := hs 0 (by omega); have h1 := hs 1 (by omega); have h2 := hs 2 (by omega); have h3 := hs 3 (by omega)
    omega
  · rintro ⟨h0, h1, h2, h3⟩ s hs
    have : s = 0 ∨ s = 1 ∨ s = 2 ∨ s = 3 := by omega
    rcases this with rfl | rfl | rfl | rfl <;> omega

theorem builtFour : Try.prog.built 23 [] = some #[.int .i64 0, .int .i64 0, .int .i64 0, .int .i64 0] := by kernel_rfl

end Go.Proofs.Yteiocoahllnoeab.FitsPubC

/-
  Contracts: DepthsOf of the model and of the program. Conditions: lists of at most 2^20 numbers.
-/
namespace Go.Proofs.Yteiocoahllnoeab.DepIC
open Go.RowKit SeesC IntsC ExactC NumC OrdMath BesM PlayM SharC FitsC IterC RunC PubC RunPC RunBC RunFC BigC FitsPubC
set_option linter.unusedVariables false

/-- Four cells of the call's own. -/
def Arr4 (w : World) (B g : Nat) (x y z u : Value) : Prop := w.ownsRow B 23 1 (.slice (some ⟨g, 0, none⟩) 4 4) 4 [x, y, z, u]

theorem arr4_cells {w : World} {B g : Nat} {x y z u : Value} (h : Arr4 w B g x y z u) : w.cell? ⟨g, 0, none⟩ = some x ∧ w.cell? ⟨g, 1, none⟩ = some y ∧ w.cell? ⟨g, 2, none⟩ = some z ∧ w.cell? ⟨g, 3, none⟩ = some u ∧ w.frozen? ⟨g, 0, none⟩ = false ∧ w.frozen? ⟨g, 1, none⟩ = false ∧ w.frozen? ⟨g, 2, none⟩ = false ∧ w.frozen? ⟨g, 3, none⟩ = false :=
  ⟨h.cellAt 0 (by omega), h.cellAt 1 (by omega), h.cellAt 2 (by omega), h.cellAt 3 (by omega), h.frozenAt 0, h.frozenAt 1, h.frozenAt 2, h.frozenAt 3⟩

theorem arr4_alloc (w : World) (x y z u : Value) : Arr4 (w.alloc (.cells #[x, y, z, u] 23)) w.heap.size w.heap.size x y z u :=
  block_own (ex := []) (by show (w.heap.push _)[w.heap.size]? = _; rw [Array.getElem?_push_size]; rfl) rfl rfl (Nat.le_refl _) (by unfold maxLen; omega)

theorem arr4_call {w w' : World} {B g : Nat} {x y z u : Value} (h : Arr4 w B g x y z u) (hb : Below w.heap.size w w') : Arr4 w' B g x y z u := kept_call h hb

/-- Four stores. -/
theorem arr4_store {w : World} {B g : Nat} {x y z u : Value} (h : Arr4 w B g x y z u) (a b c d : Value) :
    (w.setCell ⟨g, 0, none⟩ a).cell? ⟨g, 1, none⟩ = some y ∧ (w.setCell ⟨g, 0, none⟩ a).frozen? ⟨g, 1, none⟩ = false ∧
    ((w.setCell ⟨g, 0, none⟩ a).setCell ⟨g, 1, none⟩ b).cell? ⟨g, 2, none⟩ = some z ∧ ((w.setCell ⟨g, 0, none⟩ a).setCell ⟨g, 1, none⟩ b).frozen? ⟨g, 2, none⟩ = false ∧
    (((w.setCell ⟨g, 0, none⟩ a).setCell ⟨g, 1, none⟩ b).setCell ⟨g, 2, none⟩ c).cell? ⟨g, 3, none⟩ = some u ∧ (((w.setCell ⟨g, 0, none⟩ a).setCell ⟨g, 1, none⟩ b).setCell ⟨g, 2, none⟩ c).frozen? ⟨g, 3, none⟩ = false ∧
    Arr4 ((((w.setCell ⟨g, 0, none⟩ a).setCell ⟨g, 1, none⟩ b).setCell ⟨g, 2, none⟩ c).setCell ⟨g, 3, none⟩ d) B g a b c d := by
  have h0 := (h.stored 0 a).1
  have h1 := (h0.stored 1 b).1
  have h2 := (h1.stored 2 c).1
  have h3 := (h2.stored 3 d).1
  exact ⟨h0.cellAt 1 (by omega), h0.frozenAt 1, h1.cellAt 2 (by omega), h1.frozenAt 2, h2.cellAt 3 (by omega), h2.frozenAt 3, h3⟩

theorem arr4_below {w W : World} {B g : Nat} (hg : B ≤ g) (h : Below B W w) (a b c d : Value) : Below B W ((((w.setCell ⟨g, 0, none⟩ a).setCell ⟨g, 1, none⟩ b).setCell ⟨g, 2, none⟩ c).setCell ⟨g, 3, none⟩ d) :=
  (((h.setCell (p := ⟨g, 0, none⟩) hg a).setCell (p := ⟨g, 1, none⟩) hg b).setCell (p := ⟨g, 2, none⟩) hg c).setCell (p := ⟨g, 3, none⟩) hg d

theorem arr4_heap {w : World} {B g : Nat} {x y z u : Value} (h : Arr4 w B g x y z u) : w.heap[g]? = some (.cells #[x, y, z, u] 23 (0, 0)) := by
  obtain ⟨ex, h1, h2, _⟩ := own_block h
  have : ex = [] := List.eq_nil_of_length_eq_zero (by omega)
  subst this
  exact h1

theorem info4 : (Try.prog.info? 23).map (fun i => (i.zero, i.size)) = some (some (.agg #[.int .i64 0, .int .i64 0, .int .i64 0, .int .i64 0]), 4) := by kernel_rfl

theorem arr4_result {fn : Func} {p u : Tmp} (h : fn.results = #[.cell p 23, .tmp u]) {tmps : Array Value} {w : World} {B g : Nat} {a b c d : Value} (hp : tmps.getD p undef = .pointer (some ⟨g, 0, none⟩)) (hA : Arr4 w B g a b c d) :
    (results fn tmps).run Try.prog w = .ok (.tuple #[.agg #[a, b, c, d], tmps.getD u undef]) w := by
  rw [results_cell_tmp h, hp]
  have h2 := run_loadVar_row (P := Try.prog) w g 23 23 #[a, b, c, d] (0, 0) _ (arr4_heap hA) Try.underlying23 rfl (by kernel_rfl)
  have h1 : (asAddr (Value.pointer (some ⟨g, 0, none⟩))).run Try.prog w = .ok ⟨g, 0, none⟩ w := by simp [asAddr]
  rw [h1]
  simp only [Result.andThen, h2]

theorem vals_inj {a b : List Int} (h : vals a = vals b) : a = b := by
  unfold vals at h
  exact (List.map_inj_right (fun x y e => by cases e; rfl)).1 h

def depQ (zs so : List Int) : (Int × Int × Int × Int) × Bool := (((depthsAns zs so).1.getD 0 0, (depthsAns zs so).1.getD 1 0, (depthsAns zs so).1.getD 2 0, (depthsAns zs so).1.getD 3 0), (depthsAns zs so).2)

set_option maxRecDepth 100000 in
set_option maxHeartbeats 4000000 in
theorem implDep (zs so : List Int) (x0 x1 x2 x3 : Int) (b : Bool) (h : depQ zs so = ((x0, x1, x2, x3), b)) (hz : zs.length ≤ 1048576) (hs : so.length ≤ 1048576) (W : World) (v : Value) (n : Nat) (hv : Sees W v n (vals zs)) (u : Value) (m : Nat) (hu : Sees W u m (vals so)) :
    Calls Try.prog 8 #[v, u] W fun e w' => e = .returned (.tuple #[.agg #[.int .i64 x0, .int .i64 x1, .int .i64 x2, .int .i64 x3], .bool b]) ∧ Below W.heap.size W w' := by
  have hl : zs.length = n := by simpa using hv.1
  have hl2 : so.length = m := by simpa using hu.1
  obtain ⟨r, hr⟩ : ∃ r, isShB zs so = r := ⟨_, rfl⟩
  have hB0 := Go.Lib.hid ((Below.refl W.heap.size W).alloc (Nat.le_refl _) (.cells #[.int .i64 0, .int .i64 0, .int .i64 0, .int .i64 0] 23))
  have hA0 := Go.Lib.hid (arr4_alloc W (.int .i64 0) (.int .i64 0) (.int .i64 0) (.int .i64 0))
  have CS := Go.Lib.hid (fun (X : World) (hX : Below W.heap.size W X) => implIsSharing zs so r hr hz hs X v n (hv.grow hX) u m (hu.grow hX))
  have HV := Go.Lib.hid hv
  have HU := Go.Lib.hid hu
  unfold depQ depthsAns at h
  rw [hr] at h
  obtain ⟨_, ad, cap, rfl, _, _⟩ := hv
  obtain ⟨_, ad', cap', rfl, _, _⟩ := hu
  cases r with
  | false =>
    rw [if_neg (by simp)] at h
    cases h
    clear hr
    go_enter Try.func8, Try.ntmps8
    go_wp2_with (refine wpList_alloc_agg rfl _ rfl #[.int .i64 0, .int .i64 0, .int .i64 0, .int .i64 0] 4 info4 ?_)
    refine (CS.out _ hB0.out).mono ?_
    rintro e w1 ⟨rfl, hd⟩
    have HA := arr4_call hA0.out hd
    have HB1 : Below W.heap.size W w1 := hB0.out.trans (Below.mono hd (by simp))
    clear hd
    obtain ⟨k0, k1, k2, k3, f0, f1, f2, f3⟩ := arr4_cells HA
    obtain ⟨s1, s2, s3, s4, s5, s6, hN⟩ := arr4_store HA (.int .i64 0) (.int .i64 0) (.int .i64 0) (.int .i64 0)
    have HN := Go.Lib.hid (And.intro hN (arr4_below (Nat.le_refl _) HB1 (.int .i64 0) (.int .i64 0) (.int .i64 0) (.int .i64 0)))
    clear HA HB1 hN
    go_wp2_with (refine wpList_build_is rfl _ rfl #[.int .i64 0, .int .i64 0, .int .i64 0, .int .i64 0] builtFour ?_)
    (try simp only [Exit.inBlock, Exit.then])
    refine bodyPost_ret (arr4_result rfl rfl HN.out.1) rfl ?_
    exact ⟨rfl, HN.out.2⟩
  | true =>
    rw [if_pos rfl] at h
    obtain ⟨ho, hsh⟩ := isSh_iff.1 hr
    have hmn : m = n := by rw [← hl, ← hl2, hsh.1]
    subst hmn
    rw [hl] at h
    obtain ⟨hI, _⟩ := inv_play ho hsh m (by omega)
    have hS := hI.len
    have hP := hI.dlen
    have hP4 := four hP
    obtain ⟨h1, h2⟩ := Prod.mk.inj h
    obtain ⟨e0, h1⟩ := Prod.mk.inj h1
    obtain ⟨e1, h1⟩ := Prod.mk.inj h1
    obtain ⟨e2, e3⟩ := Prod.mk.inj h1
    subst h2
    simp only at e0 e1 e2 e3
    rw [e0, e1, e2, e3] at hP4
    have HP := Go.Lib.hid hP4
    have CQ := Go.Lib.hid (fun W' (hb : Below W.heap.size W W') => run_any zs so ho hsh W' (.slice ad m cap) m (HV.out.grow hb) (.slice ad' m cap') (HU.out.grow hb))
    have hD : (deps (play zs so m)).length = 4 := by rw [deps_len, hS]
    clear hr h h1 e0 e1 e2 e3 hP4 hI
    go_enter Try.func8, Try.ntmps8
    go_wp2_with (refine wpList_alloc_agg rfl _ rfl #[.int .i64 0, .int .i64 0, .int .i64 0, .int .i64 0] 4 info4 ?_)
    refine (CS.out _ hB0.out).mono ?_
    rintro e w1 ⟨rfl, hd⟩
    have HA1 := Go.Lib.hid (And.intro (arr4_call hA0.out hd) (hB0.out.trans (Below.mono hd (by simp)) : Below W.heap.size W w1))
    clear hd CS
    go_wp2_with fail
    refine (CQ.out _ HA1.out.2).mono ?_
    rintro e w2 ⟨F, am, ao, cm, co, hF, rfl, hbm, hbo, hB⟩
    have fld := fun (w : World) => runMost (F := F) (D := deps (play zs so m)) (P := (play zs so m).dp) (mv := .slice am (play zs so m).mv.length cm) (ov := .slice ao (play zs so m).c co) hF hD hP w
    rw [HP.out] at fld
    clear hbm hbo hF
    generalize (cellsR F (deps (play zs so m)) (play zs so m).dp (.slice am (play zs so m).mv.length cm) (.slice ao (play zs so m).c co)).toArray = C at fld ⊢
    have HA := arr4_call HA1.out.1 hB
    have HB1 := HA1.out.2.trans (hB.mono HA1.out.2.size)
    obtain ⟨k0, k1, k2, k3, f0, f1, f2, f3⟩ := arr4_cells HA
    obtain ⟨s1, s2, s3, s4, s5, s6, hN⟩ := arr4_store HA (.int .i64 x0) (.int .i64 x1) (.int .i64 x2) (.int .i64 x3)
    have HN := Go.Lib.hid (And.intro hN (arr4_below (Nat.le_refl _) HB1 (.int .i64 x0) (.int .i64 x1) (.int .i64 x2) (.int .i64 x3)))
    clear HA HB1 hN hB
    go_wp2_with fail
    (try simp only [Exit.inBlock, Exit.then])
    refine bodyPost_ret (arr4_result rfl rfl HN.out.1) rfl ?_
    exact ⟨rfl, HN.out.2⟩

end Go.Proofs.Yteiocoahllnoeab.DepIC

/-
  Contract: DepthsOf of the model. Conditions: lists of at most 2^20 numbers.
-/
namespace Go.Proofs.Yteiocoahllnoeab.DepC
open Go.RowKit SeesC IntsC ExactC NumC OrdMath BesM PlayM SharC FitsC IterC RunPC RunBC RunFC BigC FitsPubC RunC PubC DepIC PlayMvC
set_option linter.unusedVariables false

theorem pfld3 (cs : Array Value) (w : World) : (Instr.field 35 (.agg cs) 3).run Try.prog w = .ok (.agg (cs.extract 3 7)) w := by kernel_rfl

theorem playDepths {h : Nat} {mv : ByteArray} {ov : Value} {d0 d1 d2 d3 : Int} (w : World) : (Instr.field 35 (.agg (pcl h mv ov [d0, d1, d2, d3]).toArray) 3).run Try.prog w = .ok (.agg #[.int .i64 d0, .int .i64 d1, .int .i64 d2, .int .i64 d3]) w := by
  rw [pfld3]
  rfl

set_option maxRecDepth 100000 in
set_option maxHeartbeats 4000000 in
theorem specDep (zs so : List Int) (x0 x1 x2 x3 : Int) (b : Bool) (h : depQ zs so = ((x0, x1, x2, x3), b)) (hz : zs.length ≤ 1048576) (hs : so.length ≤ 1048576) (W : World) (v : Value) (n : Nat) (hv : Sees W v n (vals zs)) (u : Value) (m : Nat) (hu : Sees W u m (vals so)) :
    Calls Try.prog 6 #[v, u] W fun e w' => e = .returned (.tuple #[.agg #[.int .i64 x0, .int .i64 x1, .int .i64 x2, .int .i64 x3], .bool b]) ∧ Below W.heap.size W w' := by
  have hl : zs.length = n := by simpa using hv.1
  have hl2 : so.length = m := by simpa using hu.1
  obtain ⟨r, hr⟩ : ∃ r, isShB zs so = r := ⟨_, rfl⟩
  have hB0 := Go.Lib.hid ((Below.refl W.heap.size W).alloc (Nat.le_refl _) (.cells #[.int .i64 0, .int .i64 0, .int .i64 0, .int .i64 0] 23))
  have hA0 := Go.Lib.hid (arr4_alloc W (.int .i64 0) (.int .i64 0) (.int .i64 0) (.int .i64 0))
  have CS := Go.Lib.hid (fun (X : World) (hX : Below W.heap.size W X) => l7Sharing_any zs so r hr hz hs X v n (hv.grow hX) u m (hu.grow hX))
  have HV := Go.Lib.hid hv
  have HU := Go.Lib.hid hu
  unfold depQ depthsAns at h
  rw [hr] at h
  obtain ⟨_, ad, cap, rfl, _, _⟩ := hv
  obtain ⟨_, ad', cap', rfl, _, _⟩ := hu
  cases r with
  | false =>
    rw [if_neg (by simp)] at h
    cases h
    clear hr
    go_enter Try.func6, Try.ntmps6
    go_wp2_with (refine wpList_alloc_agg rfl _ rfl #[.int .i64 0, .int .i64 0, .int .i64 0, .int .i64 0] 4 info4 ?_)
    refine (CS.out _ hB0.out).mono ?_
    rintro e w1 ⟨rfl, hd⟩
    have HA := arr4_call hA0.out (hd.below _)
    have HB1 : Below W.heap.size W w1 := hB0.out.trans (hd.below _)
    clear hd
    obtain ⟨k0, k1, k2, k3, f0, f1, f2, f3⟩ := arr4_cells HA
    obtain ⟨s1, s2, s3, s4, s5, s6, hN⟩ := arr4_store HA (.int .i64 0) (.int .i64 0) (.int .i64 0) (.int .i64 0)
    have HN := Go.Lib.hid (And.intro hN (arr4_below (Nat.le_refl _) HB1 (.int .i64 0) (.int .i64 0) (.int .i64 0) (.int .i64 0)))
    clear HA HB1 hN
    go_wp2_with (refine wpList_build_is rfl _ rfl #[.int .i64 0, .int .i64 0, .int .i64 0, .int .i64 0] builtFour ?_)
    (try simp only [Exit.inBlock, Exit.then])
    refine bodyPost_ret (arr4_result rfl rfl HN.out.1) rfl ?_
    exact ⟨rfl, HN.out.2⟩
  | true =>
    rw [if_pos rfl] at h
    obtain ⟨ho, hsh⟩ := isSh_iff.1 hr
    have hmn : m = n := by rw [← hl, ← hl2, hsh.1]
    subst hmn
    rw [hl] at h
    obtain ⟨hI, _⟩ := inv_play ho hsh m (by omega)
    have hS := hI.len
    have hP := hI.dlen
    have hP4 := four hP
    obtain ⟨h1, h2⟩ := Prod.mk.inj h
    obtain ⟨e0, h1⟩ := Prod.mk.inj h1
    obtain ⟨e1, h1⟩ := Prod.mk.inj h1
    obtain ⟨e2, e3⟩ := Prod.mk.inj h1
    subst h2
    simp only at e0 e1 e2 e3
    rw [e0, e1, e2, e3] at hP4
    have HP := Go.Lib.hid hP4
    have CQ := Go.Lib.hid (fun W' (hb : Below W.heap.size W W') => l7Moves_any zs so ho hsh W' (.slice ad m cap) m (HV.out.grow hb) (.slice ad' m cap') (HU.out.grow hb))
    clear hr h h1 e0 e1 e2 e3 hP4 hI
    go_enter Try.func6, Try.ntmps6
    go_wp2_with (refine wpList_alloc_agg rfl _ rfl #[.int .i64 0, .int .i64 0, .int .i64 0, .int .i64 0] 4 info4 ?_)
    refine (CS.out _ hB0.out).mono ?_
    rintro e w1 ⟨rfl, hd⟩
    have HA1 := Go.Lib.hid (And.intro (arr4_call hA0.out (hd.below _)) (hB0.out.trans (hd.below _) : Below W.heap.size W w1))
    clear hd CS
    go_wp2_with fail
    refine (CQ.out _ HA1.out.2).mono ?_
    rintro e w2 ⟨hh, ao, co, rfl, hbo, hB⟩
    have hdp : (play zs so m).dp = [x0, x1, x2, x3] := by
      have h4 := HP.out
      exact vals_inj (b := [x0, x1, x2, x3]) h4
    rw [hdp]
    have fld := fun (w : World) => playDepths (h := hh) (mv := PlayPopC.txt (play zs so m).mv) (ov := .slice ao (play zs so m).c co) (d0 := x0) (d1 := x1) (d2 := x2) (d3 := x3) w
    clear hdp hbo
    generalize (pcl hh (PlayPopC.txt (play zs so m).mv) (.slice ao (play zs so m).c co) [x0, x1, x2, x3]).toArray = C at fld ⊢
    have HA := arr4_call HA1.out.1 hB
    have HB1 := HA1.out.2.trans (hB.mono HA1.out.2.size)
    obtain ⟨k0, k1, k2, k3, f0, f1, f2, f3⟩ := arr4_cells HA
    obtain ⟨s1, s2, s3, s4, s5, s6, hN⟩ := arr4_store HA (.int .i64 x0) (.int .i64 x1) (.int .i64 x2) (.int .i64 x3)
    have HN := Go.Lib.hid (And.intro hN (arr4_below (Nat.le_refl _) HB1 (.int .i64 x0) (.int .i64 x1) (.int .i64 x2) (.int .i64 x3)))
    clear HA HB1 hN hB
    go_wp2_with fail
    (try simp only [Exit.inBlock, Exit.then])
    refine bodyPost_ret (arr4_result rfl rfl HN.out.1) rfl ?_
    exact ⟨rfl, HN.out.2⟩

end Go.Proofs.Yteiocoahllnoeab.DepC

/-
  Contract: the law's comparison of two equal arrays of four. Conditions: none.
-/
namespace Go.Proofs.Yteiocoahllnoeab.DepEC
open Go.RowKit SeesC IntsC ExactC NumC DepIC
set_option linter.unusedVariables false

set_option maxHeartbeats 1000000 in
theorem eqIntA4_same (w : World) (a b c d : Int) :
    Calls Try.prog 9 #[.agg #[.int .i64 a, .int .i64 b, .int .i64 c, .int .i64 d], .agg #[.int .i64 a, .int .i64 b, .int .i64 c, .int .i64 d]] w fun e w' => e = .returned (.bool true) ∧ Below w.heap.size w w' := by
  have hA1 := (arr4_alloc w (.int .i64 a) (.int .i64 b) (.int .i64 c) (.int .i64 d))
  have hb1 : Below w.heap.size w (w.alloc (.cells #[.int .i64 a, .int .i64 b, .int .i64 c, .int .i64 d] 23)) := (Below.refl _ _).alloc (Nat.le_refl _) _
  have hb2 := hb1.alloc hb1.size (.cells #[.int .i64 a, .int .i64 b, .int .i64 c, .int .i64 d] 23)
  have hA1' := arr4_call hA1 ((Below.refl _ _).alloc (Nat.le_refl _) (.cells #[.int .i64 a, .int .i64 b, .int .i64 c, .int .i64 d] 23))
  have hA2 := (arr4_alloc (w.alloc (.cells #[.int .i64 a, .int .i64 b, .int .i64 c, .int .i64 d] 23)) (.int .i64 a) (.int .i64 b) (.int .i64 c) (.int .i64 d))
  rw [World.size_alloc] at hA2
  have HA := Go.Lib.hid (And.intro hA1' (And.intro hA2 hb2))
  clear hA1 hA1' hA2 hb1 hb2
  go_enter Try.func9, Try.ntmps9
  go_wp2_with fail
  obtain ⟨w2, hw2⟩ : ∃ w2, (w.alloc (.cells #[.int .i64 a, .int .i64 b, .int .i64 c, .int .i64 d] 23)).alloc (.cells #[.int .i64 a, .int .i64 b, .int .i64 c, .int .i64 d] 23) = w2 := ⟨_, rfl⟩
  rw [hw2] at HA ⊢
  clear hw2
  go_loopw [5] (fun i wr => ∃ k : Nat, k ≤ 4 ∧ i = .int .i64 k ∧ Hid (Drawn w2 wr)) (fun i _ => 4 - (intOf i).toNat)
  case atStart => exact ⟨0, by omega, rfl, Go.Lib.hid (Drawn.refl _)⟩
  case round =>
    obtain ⟨k, hk, rfl, HD⟩ := hrel
    by_cases hlt : k < 4
    · obtain ⟨x, hx⟩ : ∃ x : Int, ∀ g, (g = w.heap.size ∨ g = w.heap.size + 1) → wr.cell? ⟨g, k, none⟩ = some (.int .i64 x) := by
        obtain ⟨a0, a1, a2, a3, _⟩ := arr4_cells HA.out.1
        obtain ⟨b0, b1, b2, b3, _⟩ := arr4_cells HA.out.2.1
        match k, hlt with
        | 0, _ => exact ⟨a, by rintro g (rfl | rfl); exact (HD.out.cell _).trans a0; exact (HD.out.cell _).trans b0⟩
        | 1, _ => exact ⟨b, by rintro g (rfl | rfl); exact (HD.out.cell _).trans a1; exact (HD.out.cell _).trans b1⟩
        | 2, _ => exact ⟨c, by rintro g (rfl | rfl); exact (HD.out.cell _).trans a2; exact (HD.out.cell _).trans b2⟩
        | 3, _ => exact ⟨d, by rintro g (rfl | rfl); exact (HD.out.cell _).trans a3; exact (HD.out.cell _).trans b3⟩
      have hck := hx _ (.inl rfl)
      have hck2 := hx _ (.inr rfl)
      have hlti : (k : Int) < 4 := by omega
      clear hx
      go_wp2
      go_quiet (fail)
      go_wp2
      go_roundw
      case rel => exact ⟨k + 1, by omega, by go_num, Go.Lib.hid (HD.out.next _)⟩
      case measure => simp [intOf]; omega
    · go_wp2
      go_ret
      exact ⟨rfl, HA.out.2.2.trans (HD.out.below _)⟩

end Go.Proofs.Yteiocoahllnoeab.DepEC

namespace Go.Proofs.Yteiocoahllnoeab.fnExactDepthsOf
open Go.ChangeShapes Go.WideShapes Go.ChangeAt Go.RowKit SeesC OpenC
open Go.ChangeMaps (open_string shut_string)
open IntsC ExactC OrdMath BesM PlayM DepIC DepC DepEC
set_option linter.unusedVariables false

theorem own : ownKnob Try.prog.godebug = none := by kernel_rfl
theorem laidOut : laidOutB Try.prog = true := by kernel_rfl

/-! ### The walk -/
set_option maxRecDepth 100000 in
set_option maxHeartbeats 4000000 in
theorem walk (v0 : Value) (n0 : Nat) (a0 : List Int) (v1 : Value) (n1 : Nat) (a1 : List Int) (w : World) (s0 : Sees w v0 n0 (a0.map (Value.int .i64))) (t0 : n0 ≤ maxLen) (w0 : ∀ z ∈ a0, (Lit.int .i64 z).wf = true) (s1 : Sees w v1 n1 (a1.map (Value.int .i64))) (t1 : n1 ≤ maxLen) (w1 : ∀ z ∈ a1, (Lit.int .i64 z).wf = true) :
    Calls Try.prog 3 #[v0, v1] w fun e w' => e = .returned (.bool true) ∧ Below w.heap.size w w' := by
  have hl0 : a0.length = n0 := by simpa using s0.1
  have hl1 : a1.length = n1 := by simpa using s1.1
  have hsee0 := Go.Lib.hid s0
  have hsee1 := Go.Lib.hid s1
  by_cases big0 : (1048576 : Int) < (n0 : Int)
  · obtain ⟨_, adr0, cap0, rfl, _, _⟩ := s0
    unfold maxLen at t0
    go_enter Try.func3, Try.ntmps3
    go_wp2
    go_ret
    exact ⟨rfl, Below.refl _ _⟩
  by_cases big1 : (1048576 : Int) < (n1 : Int)
  · obtain ⟨_, adr0, cap0, rfl, _, _⟩ := s0
    obtain ⟨_, adr1, cap1, rfl, _, _⟩ := s1
    unfold maxLen at t0 t1
    go_enter Try.func3, Try.ntmps3
    go_wp2
    go_ret
    exact ⟨rfl, Below.refl _ _⟩
  have bels : Hid (Below w.heap.size w w) := Go.Lib.hid (Below.refl _ _)
  obtain ⟨⟨⟨x, y, z, u⟩, b⟩, hans⟩ : ∃ p, depQ a0 a1 = p := ⟨_, rfl⟩
  have hb0 : n0 ≤ 1048576 := by omega
  have hb1 : n1 ≤ 1048576 := by omega
  have C1 := Go.Lib.hid (specDep a0 a1 x y z u b hans (hl0 ▸ hb0) (hl1 ▸ hb1))
  have C2 := Go.Lib.hid (implDep a0 a1 x y z u b hans (hl0 ▸ hb0) (hl1 ▸ hb1))
  clear hans hl0 hl1
  obtain ⟨_, adr0, cap0, rfl, _, _⟩ := s0
  obtain ⟨_, adr1, cap1, rfl, _, _⟩ := s1
  unfold maxLen at t0 t1
  go_enter Try.func3, Try.ntmps3
  go_wp2_with fail
  refine (toIntS_any _ _ n0 a0 (hsee0.out) hb0).mono ?_
  rintro e W1 ⟨g1, rfl, o1, b1⟩
  have HW1 := Go.Lib.hid (And.intro (Below.trans (bels.out) ((b1).mono (Below.size (bels.out)))) o1)
  clear o1 b1
  go_wp2_with fail
  refine (toIntS_any _ _ n1 a1 (hsee1.out.grow HW1.out.1) hb1).mono ?_
  rintro e Wa ⟨ga, rfl, oa, ba⟩
  have HWa := Go.Lib.hid (And.intro (HW1.out.1.trans (ba.mono HW1.out.1.size)) (And.intro (kept_call HW1.out.2 ba) oa))
  clear oa ba HW1
  go_wp2_with fail
  refine (C1.out _ _ _ (Sees.owns (HWa.out.2.1)) _ _ (Sees.owns (HWa.out.2.2))).mono ?_
  rintro e W2 ⟨rfl, b2⟩
  have HX2 := Go.Lib.hid (HWa.out.1.trans (b2.mono HWa.out.1.size))
  clear b2 HWa
  have hA := arr4_alloc W2 (.int .i64 x) (.int .i64 y) (.int .i64 z) (.int .i64 u)
  have hB := (HX2.out).alloc (HX2.out).size (.cells #[.int .i64 x, .int .i64 y, .int .i64 z, .int .i64 u] 23)
  have hgle : w.heap.size ≤ W2.heap.size := (HX2.out).size
  go_wp2_with fail
  obtain ⟨V2, hV2⟩ : ∃ V, W2.alloc (.cells #[.int .i64 x, .int .i64 y, .int .i64 z, .int .i64 u] 23) = V := ⟨_, rfl⟩
  rw [hV2] at hA hB ⊢
  obtain ⟨g2, hg2⟩ : ∃ g, W2.heap.size = g := ⟨_, rfl⟩
  rw [hg2] at hA hgle ⊢
  have HV2 := Go.Lib.hid (And.intro hB hA)
  clear hA hB hV2 hg2 HX2
  refine (toIntS_any _ _ n0 a0 (hsee0.out.grow HV2.out.1) hb0).mono ?_
  rintro e W3 ⟨u3, rfl, o3, b3⟩
  have HW3 := Go.Lib.hid (And.intro (HV2.out.1.trans (b3.mono HV2.out.1.size)) (And.intro (arr4_call HV2.out.2 b3) o3))
  clear o3 b3 HV2
  go_wp2_with fail
  refine (toIntS_any _ _ n1 a1 (hsee1.out.grow HW3.out.1) hb1).mono ?_
  rintro e Wb ⟨ub, rfl, ob, bb⟩
  have HWb := Go.Lib.hid (And.intro (HW3.out.1.trans (bb.mono HW3.out.1.size)) (And.intro (arr4_call HW3.out.2.1 bb) (And.intro (kept_call HW3.out.2.2 bb) ob)))
  clear ob bb HW3
  go_wp2_with fail
  refine (C2.out _ _ _ (Sees.owns (HWb.out.2.2.1)) _ _ (Sees.owns (HWb.out.2.2.2))).mono ?_
  rintro e W4 ⟨rfl, b4⟩
  have HX4 := Go.Lib.hid (And.intro (HWb.out.1.trans (b4.mono HWb.out.1.size)) (And.intro (arr4_call HWb.out.2.1 b4) (And.intro (kept_call HWb.out.2.2.1 b4) (kept_call HWb.out.2.2.2 b4))))
  clear b4 HWb
  have hA := arr4_call HX4.out.2.1 ((Below.refl W4.heap.size W4).alloc (Nat.le_refl _) (.cells #[.int .i64 x, .int .i64 y, .int .i64 z, .int .i64 u] 23))
  obtain ⟨k0, k1, k2, k3, _, _, _, _⟩ := arr4_cells hA
  have hbW : Below W4.heap.size W4 (W4.alloc (.cells #[.int .i64 x, .int .i64 y, .int .i64 z, .int .i64 u] 23)) := (Below.refl _ _).alloc (Nat.le_refl _) _
  have HX5 := Go.Lib.hid (And.intro (HX4.out.1.trans (hbW.mono HX4.out.1.size)) (And.intro (kept_call HX4.out.2.2.1 hbW) (kept_call HX4.out.2.2.2 hbW)))
  clear hA hbW
  go_wp2_with fail
  refine (eqIntA4_same _ x y z u).mono ?_
  rintro e W6 ⟨rfl, b6⟩
  have HX6 := Go.Lib.hid (And.intro (HX5.out.1.trans (b6.mono HX5.out.1.size)) (And.intro (kept_call HX5.out.2.1 b6) (kept_call HX5.out.2.2 b6)))
  clear b6 k0 k1 k2 k3 HX4 HX5
  go_wp2_with fail
  refine (toIntS_any _ _ n0 a0 (hsee0.out.grow HX6.out.1) hb0).mono ?_
  rintro e W7 ⟨u7, rfl, o7, b7⟩
  have HX7 := Go.Lib.hid (And.intro (HX6.out.1.trans (b7.mono HX6.out.1.size)) (And.intro (kept_call HX6.out.2.1 b7) (And.intro (kept_call HX6.out.2.2 b7) o7)))
  clear o7 b7 HX6
  go_wp2_with fail
  refine (eqIntS_same _ _ _ n0 a0 (Sees.owns HX7.out.2.1) (Sees.owns HX7.out.2.2.2) (by unfold maxLen; omega)).mono ?_
  rintro e W8 ⟨rfl, d8⟩
  have HX8 := Go.Lib.hid (And.intro (HX7.out.1.trans (d8.below _)) (kept_call HX7.out.2.2.1 (d8.below _)))
  clear d8 HX7
  go_wp2_with fail
  refine (toIntS_any _ _ n1 a1 (hsee1.out.grow HX8.out.1) hb1).mono ?_
  rintro e W9 ⟨u9, rfl, o9, b9⟩
  have HX9 := Go.Lib.hid (And.intro (HX8.out.1.trans (b9.mono HX8.out.1.size)) (And.intro (kept_call HX8.out.2 b9) o9))
  clear o9 b9 HX8
  go_wp2_with fail
  refine (eqIntS_same _ _ _ n1 a1 (Sees.owns HX9.out.2.1) (Sees.owns HX9.out.2.2) (by unfold maxLen; omega)).mono ?_
  rintro e W10 ⟨rfl, d10⟩
  have HX10 := Go.Lib.hid (HX9.out.1.trans (d10.below _))
  clear d10 HX9
  go_wp2_with fail
  go_ret
  exact ⟨rfl, HX10.out⟩

/-! ### From the walk to the row -/
set_option maxRecDepth 100000 in
theorem lifted (os : Os) (started : os.Started) (H : Type) (enc : TypeId × Value → H) :
    ReturnsInHanded {} Try.checked os 3 .any (Rows.fnExactDepthsOfSpec.pre6 enc Try.prog Try.f3 Rows.fnExactDepthsOfRow.domain false) (Rows.fnExactDepthsOfSpec.post enc Try.prog Try.f3 false true false false) := by
  refine returnsInHanded_of_change (C := Try.checked) own started (by kernel_rfl) Try.func3
    (ChangeSpec.witness6 (enc := enc) (C := Try.checked) false ⟨#[], #[.slice none 0 0, .slice none 0 0], []⟩ 8 (by kernel_rfl) (by kernel_rfl) (by kernel_rfl) (by kernel_rfl)) ?_
  intro W base args ds gs before hval0 hW hcnd _
  have hval : ∀ (j : Nat) t v, Try.f3.params[j]? = some t → args[j]? = some v → Value.okWide Try.prog W .any base t v := hval0
  have hW' := hW
  obtain ⟨p, q, hA0, hV, rfl, hfz, hnd⟩ := hW
  have hA : DataW.TrodAll enc Try.prog W 0 (fun _ => true) true Try.f3.params.toList args.toList ds p := hA0
  rw [Try.params3] at hA hval
  obtain ⟨u0, vs0, d0, ds0, p0, q0, hargs, rfl, rfl, h0, r0⟩ := trodAll_cons hA
  obtain ⟨u1, vs1, d1, ds1, p1, q1, rfl, rfl, rfl, h1, r1⟩ := trodAll_cons r0
  obtain ⟨rfl, rfl, rfl⟩ := trodAll_nil r1
  obtain rfl : args = #[u0, u1] := by cases args; simp_all
  obtain ⟨rfl, rfl⟩ := trodVars_none hV
  have lt0 : ∀ x ∈ p0, x.block < W.heap.size := by obtain ⟨m, hm⟩ := h0; exact DataW.trod_lt m _ _ _ hm
  obtain ⟨n0, a0, s0, t0, w0⟩ := sees_ints Try.underlying22 Try.underlying3 (by kernel_rfl) (hval 0 22 u0 rfl rfl) h0
  have lt1 : ∀ x ∈ p1, x.block < W.heap.size := by obtain ⟨m, hm⟩ := h1; exact DataW.trod_lt m _ _ _ hm
  obtain ⟨n1, a1, s1, t1, w1⟩ := sees_ints Try.underlying22 Try.underlying3 (by kernel_rfl) (hval 1 22 u1 rfl rfl) h1
  clear hA0 hval0
  refine (walk u0 n0 a0 u1 n1 a1 W s0 t0 w0 s1 t1 w1).mono fun e W' ⟨he, bel⟩ => ?_
  subst he
  exact ⟨_, rfl, _, _, _, [], _, [], hW', trodAll_mk1 (shut_bool Try.underlying4 _), (trodAll_cons_mk (Below.trod laidOut (by kernel_rfl) (of_decide_eq_true (by kernel_rfl)) h0 bel lt0) (trodAll_cons_mk (Below.trod laidOut (by kernel_rfl) (of_decide_eq_true (by kernel_rfl)) h1 bel lt1) trodAll_mk0)), rfl, bel.frame _, fun h => by cases h⟩

theorem over : Rows.fnExactDepthsOfRow.holds Try.pinned (OpenSpec.ofChange Rows.fnExactDepthsOfSpec) :=
  OpenClaim.holds_of_wide 3 Try.f3 rfl rfl rfl rfl rfl rfl rfl ⟨rfl, rfl, rfl, rfl, rfl⟩ rfl rfl rfl rfl rfl (by kernel_rfl) Try.func3
    (show joinedFacts Try.prog 3 Try.f3 Rows.fnExactDepthsOfSpec Rows.fnExactDepthsOfRow = true by unfold joinedFacts; rw [SeatC.may, SeatC.lif, SeatC.mke]; kernel_rfl)
    (of_decide_eq_true (by kernel_rfl)) (by unfold Func.isWrapper; first | (rw [if_pos (by decide +kernel)]; kernel_rfl) | (rw [if_neg (by decide +kernel)]; exact ⟨rfl, rfl⟩))
    (fun os started H enc _ => lifted os started H enc)

/-- The statement. -/
theorem proved : Rows.FnExactDepthsOfSaid :=
  over
#print axioms proved
end Go.Proofs.Yteiocoahllnoeab.fnExactDepthsOf
