/-
  On every argument FitsSharing answers as its model, and leaves its arguments as they were.
-/
import Derived.Test.YtekihdnkkeggjaaPkFitsLawA
import Derived.Test.YtekihdnkkeggjaaWord
import Derived.Test.YtekihdnkkeggjaaOrder
import Derived.Test.YtekihdnkkeggjaaShelf
import Derived.RangeFuncBox
import Derived.Maps.AppendAt
import Derived.WalkSmall
import Derived.Laws.CopyOwn
import Derived.IntWalk
import Derived.BigQuiet
import Derived.Deep.QuietTactic
import Derived.Test.YtekihdnkkeggjaaPlayM
import Derived.Test.YtekihdnkkeggjaaIter
import Derived.WalkMore
import Derived.Test.YtekihdnkkeggjaaNum
import Derived.WalkLawsBesides
import Derived.Laws.ResultCell
import Derived.Laws.Rows
import Derived.ChangeKeysEq
import Derived.DeepKeys
import Derived.Test.YtekihdnkkeggjaaFits
import Derived.Test.YtekihdnkkeggjaaOrd
import Derived.Test.YtekihdnkkeggjaaRows
import Derived.Test.YtekihdnkkeggjaaSeat
import Derived.Test.YtekihdnkkeggjaaOpen
import Derived.WalkKit
import Derived.ProofKit
import Derived.OpenShut
import Derived.ShutString
import Derived.ChangeOld
import Derived.Below
import Derived.Test.YtekihdnkkeggjaaExact

/-
  Contracts: the model and the program run an order by a word. Conditions: lists and texts of at most 2^20 elements.
-/
namespace Go.Proofs.Ytekihdnkkeggjaa.RunC
open Go.RowKit SeesC IntsC ExactC NumC IterC OrdMath WordMath InC OrderC WordC

def runAns (zs : List Int) (s : ByteArray) : List Int × Bool := if Ord zs ∧ Word s ∧ s.size = 2 * zs.length then (runOut zs s, true) else ([], false)

theorem runOut_len {zs : List Int} {s : ByteArray} (hw : Word s) (hsz : s.size = 2 * zs.length) : (runOut zs s).length = zs.length := by
  have := run_len (zs := zs) s.size 0 hw.2.2
  unfold runOut
  omega

theorem run_ans_len {zs : List Int} {s : ByteArray} {xs : List Int} {b : Bool} (h : runAns zs s = (xs, b)) : xs.length ≤ 1048576 := by
  unfold runAns at h; split at h
  · rename_i ho; cases h; rw [runOut_len ho.2.1 ho.2.2]; have := ho.1.2.1; omega
  · cases h; simp

/-- A list that is not empty, as all but the last, and the last. -/
theorem split_last {l : List Int} (h : 0 < l.length) : ∃ a p, l = a ++ [p] ∧ l.getLast?.getD 0 = p ∧ l.dropLast = a := by
  have hne : l ≠ [] := by intro e; subst e; simp at h
  have e := (List.dropLast_concat_getLast hne).symm
  refine ⟨l.dropLast, l.getLast hne, e, ?_, rfl⟩
  conv => lhs; rw [e]
  simp

/-- A row of the call's own as a block that is known whole, and back. -/
theorem own_block {w : World} {base g n cap : Nat} {ty : TypeId} {xs : List Value} (h : w.ownsRow base ty 1 (.slice (some ⟨g, 0, none⟩) n cap) n xs) : ∃ ex, w.heap[g]? = some (.cells (xs ++ ex).toArray ty (0, 0)) ∧ n + ex.length = cap ∧ xs.length = n ∧ base ≤ g ∧ cap ≤ maxLen := by
  have hl : xs.length = n := by simpa using h.1
  rcases h.2 with ⟨h0, _⟩ | ⟨g', cap', cur, h0, hb, hh, h1, hm, hsz, ht⟩
  · cases h0
  · cases h0
    refine ⟨cur.toList.drop n, ?_, ?_, hl, hb, hm⟩
    · rw [← ht, Nat.mul_one, List.take_append_drop]; simpa using hh
    · rw [List.length_drop, Array.length_toList, hsz]; omega

theorem block_own {w : World} {base g n cap : Nat} {ty : TypeId} {xs ex : List Value} (hh : w.heap[g]? = some (.cells (xs ++ ex).toArray ty (0, 0))) (hc : n + ex.length = cap) (hl : xs.length = n) (hb : base ≤ g) (hm : cap ≤ maxLen) : w.ownsRow base ty 1 (.slice (some ⟨g, 0, none⟩) n cap) n xs :=
  ⟨by simpa using hl, .inr ⟨g, cap, _, rfl, hb, hh, by omega, hm, by simp; omega, by simp [← hl]⟩⟩

/-- What a pop does to the line. -/
theorem line_pop (lo la R : List Int) (p : Int) (ex : List Value) (no : Nat) (hno : lo.length = no) :
    (splice (vals (lo ++ (la ++ [p]) ++ R) ++ ex) (no + 1) (vals la)).set no (.int .i64 p) = vals ((lo ++ [p]) ++ la ++ R) ++ ex := by
  subst hno
  unfold splice vals
  have e1 : List.map (Value.int .i64) (lo ++ (la ++ [p]) ++ R) ++ ex = List.map (Value.int .i64) lo ++ (List.map (Value.int .i64) (la ++ [p]) ++ (List.map (Value.int .i64) R ++ ex)) := by simp
  rw [e1]
  obtain ⟨y, ys, hy⟩ : ∃ y ys, List.map (Value.int .i64) (la ++ [p]) = y :: ys := by
    cases la with
    | nil => exact ⟨_, _, rfl⟩
    | cons a tl => exact ⟨_, _, rfl⟩
  have hys : ys.length = la.length := by have := congrArg List.length hy; simp at this; omega
  rw [hy]
  have e2 : (List.map (Value.int .i64) lo ++ (y :: ys ++ (List.map (Value.int .i64) R ++ ex))).take (lo.length + 1) = List.map (Value.int .i64) lo ++ [y] := by
    have h9 : List.map (Value.int .i64) lo ++ (y :: ys ++ (List.map (Value.int .i64) R ++ ex)) = (List.map (Value.int .i64) lo ++ [y]) ++ (ys ++ (List.map (Value.int .i64) R ++ ex)) := by simp
    rw [h9, List.take_append_of_le_length (by simp)]
    exact List.take_of_length_le (by simp)
  have e3 : (List.map (Value.int .i64) lo ++ (y :: ys ++ (List.map (Value.int .i64) R ++ ex))).drop (lo.length + 1 + (List.map (Value.int .i64) la).length) = List.map (Value.int .i64) R ++ ex := by
    have h9 : List.map (Value.int .i64) lo ++ (y :: ys ++ (List.map (Value.int .i64) R ++ ex)) = (List.map (Value.int .i64) lo ++ y :: ys) ++ (List.map (Value.int .i64) R ++ ex) := by simp
    rw [h9, List.drop_append_of_le_length (by simp; omega), List.drop_of_length_le (by simp; omega), List.nil_append]
  rw [e2, e3, List.append_assoc, List.set_append_right _ _ (by simp)]
  simp

end Go.Proofs.Ytekihdnkkeggjaa.RunC

/-
  Contracts: the model and the program find the word that leads from an order to another. Conditions: lists of at most 2^20 numbers.
-/
namespace Go.Proofs.Ytekihdnkkeggjaa.ToC
open Go.RowKit SeesC IntsC ExactC NumC IterC OrdMath WordMath InC OrderC WordC RunC

/-- The signs by which an order is reached: place i of it is sought, the stack is st, x numbers have been pushed. -/
def goTo (zs ts : List Int) : Nat → Nat → List Int → Nat → List UInt8 → Option (List UInt8)
  | 0, _, _, _, _ => none
  | f + 1, i, st, x, acc =>
    if i < ts.length then
      if st.getLast? = some (ts.getD i 0) then goTo zs ts f (i + 1) st.dropLast x (acc ++ [79])
      else if x < zs.length then goTo zs ts f i (st ++ [zs.getD x 0]) (x + 1) (acc ++ [73])
      else none
    else some acc

def toRes (zs ts : List Int) : Option (List UInt8) := goTo zs ts (zs.length + zs.length + 1) 0 [] 0 []

def optAns (o : Option (List UInt8)) : ByteArray × Bool := match o with | some l => (txt l, true) | none => (ByteArray.empty, false)

def toAns (zs ts : List Int) : ByteArray × Bool := if Ord zs ∧ Ord ts ∧ zs.length = ts.length then optAns (toRes zs ts) else (ByteArray.empty, false)

/-- What is known in the midst of the search. -/
def Mid (zs ts : List Int) (R : Option (List UInt8)) (i : Nat) (st : List Int) (x : Nat) (acc : List UInt8) : Prop :=
  goTo zs ts ((ts.length - i) + (zs.length - x) + 1) i st x acc = R ∧ i + st.length = x ∧ x ≤ zs.length ∧ i ≤ ts.length ∧ acc.length = i + x

theorem mid_start (zs ts : List Int) (h : zs.length = ts.length) : Mid zs ts (toRes zs ts) 0 [] 0 [] := ⟨by rw [← h]; rfl, rfl, Nat.zero_le _, Nat.zero_le _, rfl⟩

theorem mid_end {zs ts : List Int} {R : Option (List UInt8)} {i x : Nat} {st : List Int} {acc : List UInt8} (h : Mid zs ts R i st x acc) (hi : ¬ i < ts.length) : R = some acc := by
  rw [← h.1]; simp [goTo, hi]

theorem mid_pop {zs ts : List Int} {R : Option (List UInt8)} {i x : Nat} {st : List Int} {acc : List UInt8} (h : Mid zs ts R i st x acc) (hi : i < ts.length) (ht : st.getLast? = some (ts.getD i 0)) : Mid zs ts R (i + 1) st.dropLast x (acc ++ [79]) := by
  obtain ⟨h1, h2, h3, h4, h5⟩ := h
  have hl : 0 < st.length := by cases st with | nil => simp at ht | cons a b => simp
  refine ⟨?_, by simp; omega, h3, by omega, by simp; omega⟩
  rw [← h1]
  have e : (ts.length - i) + (zs.length - x) + 1 = ((ts.length - (i + 1)) + (zs.length - x) + 1) + 1 := by omega
  rw [e]
  conv => rhs; unfold goTo
  rw [if_pos hi, if_pos ht]

theorem mid_push {zs ts : List Int} {R : Option (List UInt8)} {i x : Nat} {st : List Int} {acc : List UInt8} (h : Mid zs ts R i st x acc) (hi : i < ts.length) (ht : st.getLast? ≠ some (ts.getD i 0)) (hx : x < zs.length) : Mid zs ts R i (st ++ [zs.getD x 0]) (x + 1) (acc ++ [73]) := by
  obtain ⟨h1, h2, h3, h4, h5⟩ := h
  refine ⟨?_, by simp; omega, by omega, h4, by simp; omega⟩
  rw [← h1]
  have e : (ts.length - i) + (zs.length - x) + 1 = ((ts.length - i) + (zs.length - (x + 1)) + 1) + 1 := by omega
  rw [e]
  conv => rhs; unfold goTo
  rw [if_pos hi, if_neg ht, if_pos hx]

theorem mid_fail {zs ts : List Int} {R : Option (List UInt8)} {i x : Nat} {st : List Int} {acc : List UInt8} (h : Mid zs ts R i st x acc) (hi : i < ts.length) (ht : st.getLast? ≠ some (ts.getD i 0)) (hx : ¬ x < zs.length) : R = none := by
  rw [← h.1]
  unfold goTo
  rw [if_pos hi, if_neg ht, if_neg hx]

end Go.Proofs.Ytekihdnkkeggjaa.ToC

/-
  Contract: the program finds the word that leads from an order to another. Conditions: as the model's.
-/
namespace Go.Proofs.Ytekihdnkkeggjaa.ToImplC
open Go.RowKit SeesC IntsC ExactC NumC IterC OrdMath WordMath InC OrderC WordC RunC ToC

end Go.Proofs.Ytekihdnkkeggjaa.ToImplC

/-
  Contract: the program's besideRun: a push, and all pops that can be made at once. Conditions: at most 7 numbers.
-/
namespace Go.Proofs.Ytekihdnkkeggjaa.RunPC
open Go.RowKit SeesC IntsC ExactC NumC IterC OrdMath BesM PlayM WordMath InC OrderC WordC RunC ToC ListsC SameC AppendTwoC GreedyC
set_option linter.unusedVariables false

def deps (p : Pl) : List Int := p.st.map fun l => (l.length : Int)

/-- What the run's memory holds, cell by cell: the stacks, their depths, the greatest depths, the moves and what came out. -/
def cellsR (F : List Int) (D P : List Int) (mv ov : Value) : List Value := vals F ++ (vals D ++ (vals P ++ [mv, ov]))

def RunAt (W : World) (a : Nat) (p : Pl) (w : World) : Prop := ∃ (F : List Int) (am ao : Option Addr) (cm co : Nat),
  F.length = 28 ∧ p.st.length = 4 ∧ p.dp.length = 4 ∧
  (∀ s, s < 4 → (p.st.getD s []).length ≤ 7 ∧ ∀ d, d < (p.st.getD s []).length → F.getD (s * 7 + d) 0 = (p.st.getD s []).getD d 0) ∧
  w.ownsRow W.heap.size 66 38 (.slice (some ⟨a, 0, none⟩) 1 1) 1 (cellsR F (deps p) p.dp (.slice am p.mv.length cm) (.slice ao p.c co)) ∧
  w.ownsRow W.heap.size 5 1 (.slice am p.mv.length cm) p.mv.length (bvals p.mv) ∧
  w.ownsRow W.heap.size 3 1 (.slice ao p.c co) p.c (vals (iota p.c)) ∧
  Below W.heap.size W w

theorem cells_stack {F D P : List Int} {mv ov : Value} (hF : F.length = 28) {j : Nat} (hj : j < 28) : (cellsR F D P mv ov)[j]? = some (.int .i64 (F.getD j 0)) := by
  unfold cellsR
  rw [List.getElem?_append_left (by simp; omega)]
  simp [hF, hj]

theorem cells_depth {F D P : List Int} {mv ov : Value} (hF : F.length = 28) (hD : D.length = 4) {j : Nat} (hj : j < 4) : (cellsR F D P mv ov)[28 + j]? = some (.int .i64 (D.getD j 0)) := by
  unfold cellsR
  rw [List.getElem?_append_right (by simp; omega), List.getElem?_append_left (by simp; omega)]
  simp [hF, hD, hj]

theorem cells_most {F D P : List Int} {mv ov : Value} (hF : F.length = 28) (hD : D.length = 4) (hP : P.length = 4) {j : Nat} (hj : j < 4) : (cellsR F D P mv ov)[32 + j]? = some (.int .i64 (P.getD j 0)) := by
  unfold cellsR
  rw [List.getElem?_append_right (by simp; omega), List.getElem?_append_right (by simp; omega), List.getElem?_append_left (by simp; omega)]
  simp [hF, hD, hP, hj, show 32 + j - 28 - 4 = j from by omega]

theorem cells_mv {F D P : List Int} {mv ov : Value} (hF : F.length = 28) (hD : D.length = 4) (hP : P.length = 4) : (cellsR F D P mv ov)[36]? = some mv := by
  unfold cellsR
  rw [List.getElem?_append_right (by simp; omega), List.getElem?_append_right (by simp; omega), List.getElem?_append_right (by simp; omega)]
  simp [hF, hD, hP]

theorem cells_ov {F D P : List Int} {mv ov : Value} (hF : F.length = 28) (hD : D.length = 4) (hP : P.length = 4) : (cellsR F D P mv ov)[37]? = some ov := by
  unfold cellsR
  rw [List.getElem?_append_right (by simp; omega), List.getElem?_append_right (by simp; omega), List.getElem?_append_right (by simp; omega)]
  simp [hF, hD, hP]

theorem set_stack {F D P : List Int} {mv ov : Value} (hF : F.length = 28) {j : Nat} (hj : j < 28) (x : Int) : (cellsR F D P mv ov).set j (.int .i64 x) = cellsR (F.set j x) D P mv ov := by
  unfold cellsR
  rw [List.set_append_left _ _ (by simp; omega)]
  simp

theorem set_depth {F D P : List Int} {mv ov : Value} (hF : F.length = 28) (hD : D.length = 4) {j : Nat} (hj : j < 4) (x : Int) : (cellsR F D P mv ov).set (28 + j) (.int .i64 x) = cellsR F (D.set j x) P mv ov := by
  unfold cellsR
  rw [List.set_append_right _ _ (by simp; omega), List.set_append_left _ _ (by simp; omega)]
  simp [hF]

theorem set_most {F D P : List Int} {mv ov : Value} (hF : F.length = 28) (hD : D.length = 4) (hP : P.length = 4) {j : Nat} (hj : j < 4) (x : Int) : (cellsR F D P mv ov).set (32 + j) (.int .i64 x) = cellsR F D (P.set j x) mv ov := by
  unfold cellsR
  rw [List.set_append_right _ _ (by simp; omega), List.set_append_right _ _ (by simp; omega), List.set_append_left _ _ (by simp; omega)]
  simp [hF, hD, show 32 + j - 28 - 4 = j from by omega]

theorem set_mv {F D P : List Int} {mv ov : Value} (hF : F.length = 28) (hD : D.length = 4) (hP : P.length = 4) (x : Value) : (cellsR F D P mv ov).set 36 x = cellsR F D P x ov := by
  unfold cellsR
  rw [List.set_append_right _ _ (by simp; omega), List.set_append_right _ _ (by simp; omega), List.set_append_right _ _ (by simp; omega)]
  simp [hF, hD, hP]

theorem set_ov {F D P : List Int} {mv ov : Value} (hF : F.length = 28) (hD : D.length = 4) (hP : P.length = 4) (x : Value) : (cellsR F D P mv ov).set 37 x = cellsR F D P mv x := by
  unfold cellsR
  rw [List.set_append_right _ _ (by simp; omega), List.set_append_right _ _ (by simp; omega), List.set_append_right _ _ (by simp; omega)]
  simp [hF, hD, hP]

theorem deps_len (p : Pl) : (deps p).length = p.st.length := by unfold deps; simp

theorem deps_at {p : Pl} (h : p.st.length = 4) {s : Nat} (hs : s < 4) : (deps p).getD s 0 = ((p.st.getD s []).length : Int) := by
  unfold deps
  simp [h, hs]

/-- The memory of a run: what the walks read and write. -/
def St (W : World) (a : Nat) (C : List Value) (mv : Value) (nm : Nat) (ml : List UInt8) (ov : Value) (no : Nat) (ol : List Int) (w : World) : Prop :=
  w.ownsRow W.heap.size 66 38 (.slice (some ⟨a, 0, none⟩) 1 1) 1 C ∧ w.ownsRow W.heap.size 5 1 mv nm (bvals ml) ∧ w.ownsRow W.heap.size 3 1 ov no (vals ol) ∧ Below W.heap.size W w

section
variable {W : World} {a : Nat} {C : List Value} {mv : Value} {nm : Nat} {ml : List UInt8} {ov : Value} {no : Nat} {ol : List Int} {w : World}

theorem St.cell (h : St W a C mv nm ml ov no ol w) {j : Nat} {u : Value} (hj : C[j]? = some u) : w.cell? ⟨a, j, none⟩ = some u := by
  have h1 : j < 1 * 38 := by
    have := (List.getElem?_eq_some_iff.1 hj).1
    have h2 := h.1.1
    omega
  rw [World.ownsRow.cellAt h.1 j h1, hj]

theorem St.frozen (h : St W a C mv nm ml ov no ol w) (j : Nat) : w.frozen? ⟨a, j, none⟩ = false := World.ownsRow.frozenAt h.1 j

theorem St.ge (h : St W a C mv nm ml ov no ol w) : W.heap.size ≤ a := (h.1.lt a rfl).1

theorem St.set (h : St W a C mv nm ml ov no ol w) (j : Nat) (u : Value) : St W a (C.set j u) mv nm ml ov no ol (w.setCell ⟨a, j, none⟩ u) := by
  have hs := World.ownsRow.stored h.1 j u
  refine ⟨hs.1, own_mark h.2.1 hs.2 (fun q hq e => ?_), own_mark h.2.2.1 hs.2 (fun q hq e => ?_), h.2.2.2.setCell (p := ⟨a, j, none⟩) h.ge _⟩
  · cases e; exact own_apart h.1 h.2.1 (by decide) rfl hq
  · cases e; exact own_apart h.1 h.2.2.1 (by decide) rfl hq

theorem St.drew (h : St W a C mv nm ml ov no ol w) : St W a C mv nm ml ov no ol w.drew := ⟨h.1, h.2.1, h.2.2.1, h.2.2.2.trans (Drawn.below (w' := w.drew) ⟨1, rfl⟩ _)⟩

theorem St.alloc (h : St W a C mv nm ml ov no ol w) (o : Obj) : St W a C mv nm ml ov no ol (w.alloc o) :=
  ⟨h.1.alloc o, h.2.1.alloc o, h.2.2.1.alloc o, h.2.2.2.alloc h.2.2.2.size o⟩

theorem St.moved (h : St W a C mv nm ml ov no ol w) {w' : World} {mv' : Value} {nm' : Nat} {ml' : List UInt8} (ho : w'.ownsRow W.heap.size 5 1 mv' nm' (bvals ml')) (hg : w.grownBy w' mv.ownBlock) : St W a C mv' nm' ml' ov no ol w' := by
  refine ⟨h.1.kept hg (.inr ?_), ho, own_mark h.2.2.1 hg (fun q hq e => own_apart h.2.1 h.2.2.1 (by decide) e hq), h.2.2.2.grown hg h.2.2.2.size (fun q hq => (h.2.1.lt q hq).1)⟩
  intro e
  exact own_apart h.1 h.2.1 (by decide) (q := a) rfl e.symm

theorem St.came (h : St W a C mv nm ml ov no ol w) {w' : World} {ov' : Value} {no' : Nat} {ol' : List Int} (ho : w'.ownsRow W.heap.size 3 1 ov' no' (vals ol')) (hg : w.grownBy w' ov.ownBlock) : St W a C mv nm ml ov' no' ol' w' := by
  refine ⟨h.1.kept hg (.inr ?_), own_mark h.2.1 hg (fun q hq e => own_apart h.2.1 h.2.2.1 (by decide) hq e), ho, h.2.2.2.grown hg h.2.2.2.size (fun q hq => (h.2.2.1.lt q hq).1)⟩
  intro e
  exact own_apart h.1 h.2.2.1 (by decide) (q := a) rfl e.symm
end

theorem bsnoc {l : List UInt8} {c : UInt8} {k : Int} (h : (c.toNat : Int) = k) : bvals l ++ [Value.int .u8 k] = bvals (l ++ [c]) := by
  unfold bvals
  rw [List.map_append, List.map_cons, List.map_nil, h]

theorem chr65 {s : Nat} (hs : s < 4) : ((UInt8.ofNat (65 + s)).toNat : Int) = 65 + (s : Int) := by
  have : s = 0 ∨ s = 1 ∨ s = 2 ∨ s = 3 := by omega
  rcases this with rfl | rfl | rfl | rfl <;> rfl

theorem chr97 {s : Nat} (hs : s < 4) : ((UInt8.ofNat (97 + s)).toNat : Int) = 97 + (s : Int) := by
  have : s = 0 ∨ s = 1 ∨ s = 2 ∨ s = 3 := by omega
  rcases this with rfl | rfl | rfl | rfl <;> rfl

theorem snoc_at {l : List Int} {x : Int} {d : Nat} : (l ++ [x]).getD d 0 = if d < l.length then l.getD d 0 else if d = l.length then x else 0 := by
  by_cases h : d < l.length
  · rw [if_pos h]; simp [List.getElem?_append_left h]
  · rw [if_neg h]
    by_cases h2 : d = l.length
    · subst h2; simp
    · rw [if_neg h2]; simp [List.getElem?_append_right (show l.length ≤ d by omega)]
      rw [List.getElem?_eq_none (by simp; omega)]; rfl

set_option maxRecDepth 100000 in
set_option maxHeartbeats 4000000 in
theorem push_any (W : World) (a : Nat) (p : Pl) (w : World) (hw : RunAt W a p w) (s : Nat) (hs : s < 4) (x : Int) (hd7 : (p.st.getD s []).length < 7) (hmv : p.mv.length ≤ 1000) :
    Calls Try.prog 87 #[.pointer (some ⟨a, 0, none⟩), .int .i64 (s : Int), .int .i64 x] w fun e w' => e = .returned (.tuple #[]) ∧ RunAt W a (pushP p s x) w' := by
  obtain ⟨F, am, ao, cm, co, hF, hS, hP, hst, hm, hbm, hbo, hB⟩ := hw
  obtain ⟨j0, hj, hy0, hy1, hy2⟩ := info_parts infoB
  have hD : (deps p).length = 4 := by rw [deps_len, hS]
  obtain ⟨d, hd⟩ : ∃ d, (p.st.getD s []).length = d := ⟨_, rfl⟩
  have hda := deps_at hS hs
  rw [hd] at hda hd7
  obtain ⟨mx, hmx⟩ : ∃ mx, p.dp.getD s 0 = mx := ⟨_, rfl⟩
  obtain ⟨nm, hnm⟩ : ∃ nm, p.mv.length = nm := ⟨_, rfl⟩
  have S0 : Hid (St W a (cellsR F (deps p) p.dp (.slice am nm cm) (.slice ao p.c co)) (.slice am nm cm) nm p.mv (.slice ao p.c co) p.c (iota p.c) w) := Go.Lib.hid (by rw [← hnm]; exact ⟨hm, hbm, hbo, hB⟩)
  have c1 := S0.out.cell (cells_depth hF hD hs)
  rw [hda] at c1
  have c0 := S0.out.cell (cells_stack hF (j := s * 7 + d) (by omega))
  have f0 := S0.out.frozen (s * 7 + d)
  have hsi : (s : Int) < 4 := by omega
  have hdi : (d : Int) < 7 := by omega
  rw [hnm] at hmv
  have HN := Go.Lib.hid (And.intro hnm (And.intro hmx (And.intro hst hd)))
  clear hm hbm hbo hB hnm hmx hst hd
  go_enter Try.func87, Try.ntmps87
  go_wp2_with fail
  go_region
  obtain ⟨w1, hw1⟩ : ∃ w1, (w.setCell ⟨a, s * 7 + d, none⟩ (.int .i64 x)).drew = w1 := ⟨_, rfl⟩
  have S1 : Hid (St W a (cellsR (F.set (s * 7 + d) x) (deps p) p.dp (.slice am nm cm) (.slice ao p.c co)) (.slice am nm cm) nm p.mv (.slice ao p.c co) p.c (iota p.c) w1) := Go.Lib.hid (by
    rw [← hw1, ← set_stack hF (by omega)]; exact (S0.out.set _ _).drew)
  rw [hw1]
  clear hw1 c0 c1 f0
  have hF1 : (F.set (s * 7 + d) x).length = 28 := by rw [List.length_set]; exact hF
  have c1 := S1.out.cell (cells_depth hF1 hD hs)
  rw [hda] at c1
  have f0 := S1.out.frozen (28 + s)
  go_wp2_with fail
  go_region
  obtain ⟨w2, hw2⟩ : ∃ w2, (w1.setCell ⟨a, 28 + s, none⟩ (.int .i64 ((d : Int) + 1))).drew = w2 := ⟨_, rfl⟩
  have S2 : Hid (St W a (cellsR (F.set (s * 7 + d) x) ((deps p).set s ((d : Int) + 1)) p.dp (.slice am nm cm) (.slice ao p.c co)) (.slice am nm cm) nm p.mv (.slice ao p.c co) p.c (iota p.c) w2) := Go.Lib.hid (by
    rw [← hw2, ← set_depth hF1 hD hs]; exact (S1.out.set _ _).drew)
  rw [hw2]
  clear hw2 c1 f0
  have hD1 : ((deps p).set s ((d : Int) + 1)).length = 4 := by rw [List.length_set]; exact hD
  have c1 := S2.out.cell (cells_depth hF1 hD1 hs)
  rw [show ((deps p).set s ((d : Int) + 1)).getD s 0 = (d : Int) + 1 from getD_set_self (by omega)] at c1
  have c2 := S2.out.cell (cells_most hF1 hD1 hP hs)
  rw [HN.out.2.1] at c2
  have f0 := S2.out.frozen (32 + s)
  go_wp2_with fail
  go_region
  obtain ⟨w3, hw3⟩ : ∃ w3, (w2.setCell ⟨a, 32 + s, none⟩ (.int .i64 (max mx ((d : Int) + 1)))).drew = w3 := ⟨_, rfl⟩
  have S3 : Hid (St W a (cellsR (F.set (s * 7 + d) x) ((deps p).set s ((d : Int) + 1)) (p.dp.set s (max mx ((d : Int) + 1))) (.slice am nm cm) (.slice ao p.c co)) (.slice am nm cm) nm p.mv (.slice ao p.c co) p.c (iota p.c) w3) := Go.Lib.hid (by
    rw [← hw3, ← set_most hF1 hD1 hP hs]; exact (S2.out.set _ _).drew)
  rw [hw3]
  clear hw3 c1 c2 f0
  have hP1 : (p.dp.set s (max mx ((d : Int) + 1))).length = 4 := by rw [List.length_set]; exact hP
  have c3 := S3.out.cell (cells_mv hF1 hD1 hP1)
  have hlt : w3.heap.size < w3.heap.size + 1 := Nat.lt_succ_self _
  have hWs := S3.out.2.2.2.size
  go_wp2_with (at_builtin; refine wpList_append_own_at _ rfl _ _ 22 rfl W.heap.size 5 j0 (.int .u8 0) 1 1 Try.underlying22 hj hy0 hy1 hy2 rfl (by decide) (.slice am nm cm) nm (bvals p.mv) rfl (World.ownsRow.alloc S3.out.2.1 _) ⟨w3.heap.size, 0, none⟩ 1 1 [.int .u8 ((65 : Int) + (s : Int))] rfl rfl (cell_one_new _ _ _) (fun u hu => by simp at hu; subst hu; rfl) (by unfold maxLen; omega) (by omega) (by simp; omega) ?_; intro v4 w4 hown4 hgrow4 _ _; obtain ⟨g4, cp4, rfl⟩ := ownsRow_succ hown4; have S4 : Hid (St W a (cellsR (F.set (s * 7 + d) x) ((deps p).set s ((d : Int) + 1)) (p.dp.set s (max mx ((d : Int) + 1))) (.slice am nm cm) (.slice ao p.c co)) (.slice (some ⟨g4, 0, none⟩) (nm + 1) cp4) (nm + 1) (p.mv ++ [UInt8.ofNat (65 + s)]) (.slice ao p.c co) p.c (iota p.c) w4) := Go.Lib.hid ((S3.out.alloc _).moved (by rw [← bsnoc (chr65 hs)]; exact hown4) hgrow4); have c4 := S4.out.cell (cells_mv hF1 hD1 hP1); have f4 := S4.out.frozen 36; clear hown4 hgrow4)
  go_wp2_with fail
  go_end0
  refine ⟨rfl, (F.set (s * 7 + d) x), some ⟨g4, 0, none⟩, ao, cp4, co, hF1, by simp [pushP, hS], by simp [pushP, hP], ?_, ?_⟩
  · intro t ht
    refine ⟨?_, fun q hq => ?_⟩
    · unfold pushP
      simp only
      by_cases hts : t = s
      · subst hts
        rw [getD_set_self (by omega), List.length_append, HN.out.2.2.2]
        simp; omega
      · rw [getD_set_other (by omega)]
        exact (HN.out.2.2.1 t ht).1
    unfold pushP at hq ⊢
    simp only at hq ⊢
    by_cases hts : t = s
    · subst hts
      rw [getD_set_self (by omega)] at hq ⊢
      rw [List.length_append, HN.out.2.2.2] at hq
      simp at hq
      rw [snoc_at, HN.out.2.2.2]
      by_cases hqd : q = d
      · subst hqd
        rw [getD_set_self (by omega), if_neg (by omega), if_pos rfl]
      · rw [getD_set_other (by omega), if_pos (by omega)]
        exact (HN.out.2.2.1 t ht).2 q (by rw [HN.out.2.2.2]; omega)
    · rw [getD_set_other (α := List Int) (by omega)] at hq ⊢
      have h7 : q < 7 := by have := (HN.out.2.2.1 t ht).1; omega
      rw [getD_set_other (by omega)]
      exact (HN.out.2.2.1 t ht).2 q hq
  · have e1 : deps (pushP p s x) = (deps p).set s ((d : Int) + 1) := by
      unfold deps pushP
      simp only [List.map_set, List.length_append, HN.out.2.2.2]
      rfl
    have e2 : (pushP p s x).dp = p.dp.set s (max mx ((d : Int) + 1)) := by
      unfold pushP
      simp only [HN.out.2.1, HN.out.2.2.2]
      rfl
    have e3 : (pushP p s x).mv = p.mv ++ [UInt8.ofNat (65 + s)] := rfl
    have e4 : (pushP p s x).mv.length = nm + 1 := by rw [e3, List.length_append, HN.out.1]; rfl
    rw [e1, e2, e4, e3]
    have h := S4.out.set 36 (.slice (some ⟨g4, 0, none⟩) (nm + 1) cp4)
    rw [set_mv hF1 hD1 hP1] at h
    exact h

end Go.Proofs.Ytekihdnkkeggjaa.RunPC

/-
  Contract: the program's besideRun: all pops that can be made at once. Conditions: a run that is sound.
-/
namespace Go.Proofs.Ytekihdnkkeggjaa.RunP2C
open Go.RowKit SeesC IntsC ExactC NumC IterC OrdMath BesM PlayM WordMath InC OrderC WordC RunC ToC ListsC SameC AppendTwoC GreedyC RunPC
set_option linter.unusedVariables false

theorem topIs_at {p : Pl} {s e : Nat} (h : (p.st.getD s []).length = e + 1) : topIs p s = ((p.st.getD s []).getD e 0 == (p.c : Int) + 1) := by
  unfold topIs
  generalize p.st.getD s [] = l at *
  rw [List.getLast?_eq_getElem?, h]
  simp [h]

theorem topIs_none {p : Pl} {s : Nat} (h : (p.st.getD s []).length = 0) : topIs p s = false := by
  unfold topIs
  rw [List.length_eq_zero_iff.1 h]
  rfl

theorem iota_snoc (c : Nat) : vals (iota c) ++ [Value.int .i64 ((c : Int) + 1)] = vals (iota (c + 1)) := by
  unfold iota
  rw [List.range_succ]
  simp

theorem drop_at {l : List Int} {e d : Nat} (h : l.length = e + 1) (hd : d < e) : l.dropLast.getD d 0 = l.getD d 0 := by
  have h2 : d < l.length := by omega
  rw [List.getD_eq_getElem?_getD, List.getD_eq_getElem?_getD, List.getElem?_dropLast, if_pos (by omega)]

theorem new_at {w : World} {x : Value} {a : Nat} {W : World} {C : List Value} {mv : Value} {nm : Nat} {ml : List UInt8} {ov : Value} {no : Nat} {ol : List Int} {u0 : Value} {k : Nat} (h : St W a C mv nm ml ov no ol (w.setCell ⟨a, k, none⟩ u0)) (t : TypeId) : ∀ j u, [x][j]? = some u → ((w.setCell ⟨a, k, none⟩ u0).alloc (.cells #[x] t)).cell? ((⟨w.heap.size, 0, none⟩ : Addr).add j) = some u := by
  have := cell_one_new (w.setCell ⟨a, k, none⟩ u0) x t
  simpa using this

def PopW (zs so : List Int) (m : Nat) (W : World) (a : Nat) (p : Pl) (f : Nat) (q : Pl) (wr : World) : Prop :=
  popAll zs.length p = popAll f q ∧ Inv zs so m q ∧ zs.length ≤ f + q.c ∧ RunAt W a q wr

/-- What a pop leaves. -/
theorem popped {W : World} {a : Nat} {q : Pl} {s e nm c : Nat} {F : List Int} {mv : Option Addr} {cm : Nat} {ao : Option Addr} {co : Nat} {w : World} (hs : s < 4) (hF : F.length = 28) (hS : q.st.length = 4) (hP : q.dp.length = 4)
    (hst : ∀ s, s < 4 → (q.st.getD s []).length ≤ 7 ∧ ∀ d, d < (q.st.getD s []).length → F.getD (s * 7 + d) 0 = (q.st.getD s []).getD d 0) (he : (q.st.getD s []).length = e + 1) (hnm : q.mv.length = nm) (hc : q.c = c)
    (h : St W a (cellsR F ((deps q).set s (e : Int)) q.dp (.slice mv (nm + 1) cm) (.slice ao (c + 1) co)) (.slice mv (nm + 1) cm) (nm + 1) (q.mv ++ [UInt8.ofNat (97 + s)]) (.slice ao (c + 1) co) (c + 1) (iota (c + 1)) w) : RunAt W a (popP q s) w := by
  have e1 : deps (popP q s) = (deps q).set s (e : Int) := by
    unfold deps popP
    simp only [List.map_set, List.length_dropLast, he, Nat.add_sub_cancel]
  have e4 : (popP q s).mv.length = nm + 1 := by unfold popP; simp only; rw [List.length_append, hnm]; rfl
  have e5 : (popP q s).c = c + 1 := by unfold popP; simp only; rw [hc]
  refine ⟨F, mv, ao, cm, co, hF, by simp [popP, hS], by simp [popP, hP], ?_, ?_⟩
  · intro t ht
    unfold popP
    simp only
    by_cases hts : t = s
    · subst hts
      rw [getD_set_self (by omega)]
      refine ⟨by rw [List.length_dropLast]; have := (hst t ht).1; omega, fun d hd => ?_⟩
      rw [List.length_dropLast, he] at hd
      rw [drop_at he (by omega)]
      exact (hst t ht).2 d (by omega)
    · rw [getD_set_other (by omega)]
      exact hst t ht
  · rw [e1, e4, e5]
    exact h

set_option maxRecDepth 100000 in
set_option maxHeartbeats 8000000 in
theorem pop_any (zs so : List Int) (ho : Ord zs) (m : Nat) (hm : m ≤ zs.length) (W : World) (a : Nat) (p : Pl) (hI : Inv zs so m p) (w : World) (hw : RunAt W a p w) :
    Calls Try.prog 88 #[.pointer (some ⟨a, 0, none⟩)] w fun e w' => e = .returned (.tuple #[]) ∧ RunAt W a (popAll zs.length p) w' := by
  obtain ⟨i0, hi, hz0, hz1, hz2⟩ := info_parts infoI
  obtain ⟨j0, hj, hy0, hy1, hy2⟩ := info_parts infoB
  have hn7 : zs.length ≤ 7 := ho.2.1
  obtain ⟨n, hn⟩ : ∃ n, zs.length = n := ⟨_, rfl⟩
  have H0 : Hid (PopW zs so m W a p zs.length p w) := Go.Lib.hid ⟨rfl, hI, by omega, hw⟩
  have HO := Go.Lib.hid (And.intro ho (And.intro hm hn))
  rw [hn] at hn7
  obtain ⟨c0, hc0⟩ : ∃ c0, p.c = c0 := ⟨_, rfl⟩
  have hcn : c0 ≤ 7 := by have := hI.cle; omega
  have k37 : ∃ ao co, w.cell? ⟨a, 37, none⟩ = some (.slice ao c0 co) := by
    obtain ⟨F, am, ao, cm, co, hF, hS, hP, hst, hmm, hbm, hbo, hB⟩ := hw
    have hD : (deps p).length = 4 := by rw [deps_len, hS]
    have S0 : St W a (cellsR F (deps p) p.dp (.slice am p.mv.length cm) (.slice ao p.c co)) (.slice am p.mv.length cm) p.mv.length p.mv (.slice ao p.c co) p.c (iota p.c) w := ⟨hmm, hbm, hbo, hB⟩
    rw [← hc0]
    exact ⟨ao, co, S0.cell (cells_ov hF hD hP)⟩
  obtain ⟨aoo, coo, k37⟩ := k37
  have HC0 := Go.Lib.hid hc0
  clear hn hI hw hc0 ho hm
  go_enter Try.func88, Try.ntmps88
  go_wp2_with fail
  go_step3
  go_wp2_with fail
  go_step3
  go_wp2_with fail
  go_loopw [2] (fun lv wr => ∃ (c : Nat) (f : Nat) (q : Pl), c ≤ 7 ∧ lv = .int .i64 ((c : Int) + 1) ∧ Hid (PopW zs so m W a p f q wr ∧ q.c = c)) (fun lv _ => 9 - (intOf lv).toNat)
  case atStart => exact ⟨c0, zs.length, p, hcn, rfl, Go.Lib.hid ⟨H0.out, HC0.out⟩⟩
  case round =>
    obtain ⟨c, f, q, hc7, rfl, HX⟩ := hrel
    clear H0 k37 HC0
    obtain ⟨wo, rfl⟩ : ∃ wo, wo = wr := ⟨_, rfl⟩
    obtain ⟨F, am, ao, cm, co, hF, hS, hP, hst, hmm, hbm, hbo, hB⟩ := HX.out.1.2.2.2
    have hD : (deps q).length = 4 := by rw [deps_len, hS]
    obtain ⟨nm, hnm⟩ : ∃ nm, q.mv.length = nm := ⟨_, rfl⟩
    have hnm14 : nm ≤ 14 := by
      have h1 := HX.out.1.2.1.mvl
      have h2 := HX.out.1.2.1.cle
      have h3 := HO.out.2.1
      have h4 := HO.out.2.2
      omega
    have S0 : Hid (St W a (cellsR F (deps q) q.dp (.slice am nm cm) (.slice ao c co)) (.slice am nm cm) nm q.mv (.slice ao c co) c (iota c) wo) := Go.Lib.hid (by rw [← hnm, ← HX.out.2]; exact ⟨hmm, hbm, hbo, hB⟩)
    obtain ⟨L0, hL0⟩ : ∃ L, (q.st.getD 0 []).length = L := ⟨_, rfl⟩
    obtain ⟨L1, hL1⟩ : ∃ L, (q.st.getD 1 []).length = L := ⟨_, rfl⟩
    obtain ⟨L2, hL2⟩ : ∃ L, (q.st.getD 2 []).length = L := ⟨_, rfl⟩
    obtain ⟨L3, hL3⟩ : ∃ L, (q.st.getD 3 []).length = L := ⟨_, rfl⟩
    have c28 := S0.out.cell (cells_depth hF hD (j := 0) (by omega))
    have c29 := S0.out.cell (cells_depth hF hD (j := 1) (by omega))
    have c30 := S0.out.cell (cells_depth hF hD (j := 2) (by omega))
    have c31 := S0.out.cell (cells_depth hF hD (j := 3) (by omega))
    rw [deps_at hS (by omega)] at c28 c29 c30 c31
    rw [hL0] at c28
    rw [hL1] at c29
    rw [hL2] at c30
    rw [hL3] at c31
    have HH := Go.Lib.hid (And.intro hF (And.intro hS (And.intro hP (And.intro hst (And.intro hD hnm)))))
    have HL := Go.Lib.hid (And.intro hL0 (And.intro hL1 (And.intro hL2 hL3)))
    clear hF hS hP hst hmm hbm hbo hB hD hnm hL0 hL1 hL2 hL3
    go_wp2_with fail
    go_loopw [17] (fun xv wr => ∃ (x : Nat), x ≤ 4 ∧ xv = .int .i64 (x : Int) ∧ wr = wo ∧ Hid (∀ y : Nat, y < x → topIs q y = false)) (fun xv _ => 4 - (intOf xv).toNat)
    case atStart => exact ⟨0, by omega, rfl, rfl, Go.Lib.hid (fun y hy => by omega)⟩
    case round =>
      obtain ⟨x, hx4, rfl, rfl, HY⟩ := hrel
      by_cases hxl : x < 4
      · have hcase : x = 0 ∨ x = 1 ∨ x = 2 ∨ x = 3 := by omega
        rcases hcase with rfl | rfl | rfl | rfl
        · have HLx : Hid ((q.st.getD 0 []).length = L0) := Go.Lib.hid HL.out.1
          clear HL
          have ix : ∀ (v0 v1 v2 v3 : Value) (w : World), (Instr.index 33 (.agg #[v0, v1, v2, v3]) (.int .i64 0)).run Try.prog w = .ok v0 w := fun _ _ _ _ _ => by kernel_rfl
          rcases L0 with _ | e
          · have HN : Hid (∀ y : Nat, y < 0 + 1 → topIs q y = false) := Go.Lib.hid (fun y hy => by
              by_cases h1 : y = 0
              · subst h1; exact topIs_none HLx.out
              · exact HY.out y (by omega))
            go_wp2_with fail
            go_roundw
            case rel => exact ⟨0 + 1, by omega, by go_num, by first | rfl | trivial, HN⟩
            case measure => simp [intOf]
          · have he7 : e < 7 := by have h1 := (HH.out.2.2.2.1 0 (by omega)).1; have h2 := HLx.out; omega
            obtain ⟨z, hz⟩ : ∃ z, (q.st.getD 0 []).getD e 0 = z := ⟨_, rfl⟩
            have htop := topIs_at HLx.out
            rw [hz, HX.out.2] at htop
            have cz := S0.out.cell (cells_stack (D := deps q) (P := q.dp) (mv := .slice am nm cm) (ov := .slice ao c co) HH.out.1 (j := 0 * 7 + e) (by omega))
            rw [(HH.out.2.2.2.1 0 (by omega)).2 e (by rw [HLx.out]; omega), hz] at cz
            rw [Nat.zero_mul, Nat.zero_add] at cz
            have hei : (e : Int) < 7 := by omega
            have HT := Go.Lib.hid htop
            clear htop hz
            by_cases hzc : z = (c : Int) + 1
            · subst hzc
              have ht : topIs q 0 = true := by rw [HT.out]; exact beq_iff_eq.2 rfl
              have HINV := Go.Lib.hid (And.intro ht (inv_pop HO.out.1 HO.out.2.1 (by omega) ht HX.out.1.2.1))
              have hc6 : c < 7 := by have h1 := HINV.out.2.2; have h2 := HO.out.2.2; have h3 := HX.out.2; omega
              have f0 := S0.out.frozen (28 + 0)
              clear ht
              go_wp2_with fail
              go_region
              obtain ⟨w1, hw1⟩ : ∃ w1, (wr.setCell ⟨a, 28 + 0, none⟩ (.int .i64 (e : Int))).drew = w1 := ⟨_, rfl⟩
              have S1 : Hid (St W a (cellsR F ((deps q).set 0 (e : Int)) q.dp (.slice am nm cm) (.slice ao c co)) (.slice am nm cm) nm q.mv (.slice ao c co) c (iota c) w1) := Go.Lib.hid (by
                rw [← hw1, ← set_depth HH.out.1 HH.out.2.2.2.2.1 (by omega)]; exact (S0.out.set _ _).drew)
              try rw [hw1]
              clear hw1 f0 cz c28 c29 c30 c31
              have hD1 : ((deps q).set 0 (e : Int)).length = 4 := by rw [List.length_set]; exact HH.out.2.2.2.2.1
              have c36 := S1.out.cell (cells_mv HH.out.1 hD1 HH.out.2.2.1)
              have hWs := S1.out.2.2.2.size
              go_wp2_with (first
                | (at_builtin; refine wpList_append_own_at _ rfl _ _ 22 rfl W.heap.size 5 j0 (.int .u8 0) 1 1 Try.underlying22 hj hy0 hy1 hy2 rfl (by decide) (.slice am nm cm) nm (bvals q.mv) rfl (World.ownsRow.alloc S1.out.2.1 _) ⟨w1.heap.size, 0, none⟩ 1 1 [.int .u8 97] rfl rfl (cell_one_new _ _ _) (fun u hu => by simp at hu; subst hu; rfl) (by unfold maxLen; omega) (by omega) (by simp; omega) ?_; intro v4 w4 hown4 hgrow4 _ _; obtain ⟨g4, cp4, rfl⟩ := ownsRow_succ hown4; have S4 : Hid (St W a (cellsR F ((deps q).set 0 (e : Int)) q.dp (.slice am nm cm) (.slice ao c co)) (.slice (some ⟨g4, 0, none⟩) (nm + 1) cp4) (nm + 1) (q.mv ++ [UInt8.ofNat (97 + 0)]) (.slice ao c co) c (iota c) w4) := Go.Lib.hid ((S1.out.alloc _).moved (by rw [← bsnoc (chr97 (s := 0) (by omega))]; exact hown4) hgrow4); have c4 := S4.out.cell (cells_mv HH.out.1 hD1 HH.out.2.2.1); have f4 := S4.out.frozen 36; have S5 : Hid (St W a (cellsR F ((deps q).set 0 (e : Int)) q.dp (.slice (some ⟨g4, 0, none⟩) (nm + 1) cp4) (.slice ao c co)) (.slice (some ⟨g4, 0, none⟩) (nm + 1) cp4) (nm + 1) (q.mv ++ [UInt8.ofNat (97 + 0)]) (.slice ao c co) c (iota c) (w4.setCell ⟨a, 36, none⟩ (.slice (some ⟨g4, 0, none⟩) (nm + 1) cp4))) := Go.Lib.hid (by rw [← set_mv (mv := .slice am nm cm) HH.out.1 hD1 HH.out.2.2.1]; exact S4.out.set _ _); have c37 := S5.out.cell (cells_ov HH.out.1 hD1 HH.out.2.2.1); have hWs5 := S5.out.2.2.2.size; clear hown4 hgrow4 c36)
                | (at_builtin; refine wpList_append_own_at _ rfl _ _ 24 rfl W.heap.size 3 i0 (.int .i64 0) 1 8 Try.underlying24 hi hz0 hz1 hz2 rfl (by decide) (.slice ao c co) c (vals (iota c)) rfl (World.ownsRow.alloc S5.out.2.2.1 _) ⟨w4.heap.size, 0, none⟩ 1 1 [.int .i64 ((c : Int) + 1)] rfl rfl (new_at S5.out _) (fun u hu => by simp at hu; subst hu; rfl) (by unfold maxLen; omega) (by omega) ((S5.out.alloc _).2.2.2.size) ?_; intro v6 w6 hown6 hgrow6 _ _; obtain ⟨g6, cp6, rfl⟩ := ownsRow_succ hown6; have S6 : Hid (St W a (cellsR F ((deps q).set 0 (e : Int)) q.dp (.slice (some ⟨g4, 0, none⟩) (nm + 1) cp4) (.slice ao c co)) (.slice (some ⟨g4, 0, none⟩) (nm + 1) cp4) (nm + 1) (q.mv ++ [UInt8.ofNat (97 + 0)]) (.slice (some ⟨g6, 0, none⟩) (c + 1) cp6) (c + 1) (iota (c + 1)) w6) := Go.Lib.hid ((S5.out.alloc _).came (by rw [← iota_snoc]; exact hown6) hgrow6); have c6 := S6.out.cell (cells_ov HH.out.1 hD1 HH.out.2.2.1); have f6 := S6.out.frozen 37; clear hown6 hgrow6 c37))
              have HN : Hid (PopW zs so m W a p (f - 1) (popP q 0) (w6.setCell ⟨a, 37, none⟩ (.slice (some ⟨g6, 0, none⟩) (c + 1) cp6)) ∧ (popP q 0).c = c + 1) := Go.Lib.hid (by
                have h7 := S6.out.set 37 (.slice (some ⟨g6, 0, none⟩) (c + 1) cp6)
                rw [set_ov HH.out.1 hD1 HH.out.2.2.1] at h7
                have h1 := HINV.out.2.2
                have h2 := HX.out.1.2.2.1
                refine ⟨⟨?_, HINV.out.2.1, by simp [popP]; omega, popped (by omega) HH.out.1 HH.out.2.1 HH.out.2.2.1 HH.out.2.2.2.1 HLx.out HH.out.2.2.2.2.2 HX.out.2 h7⟩, by simp [popP, HX.out.2]⟩
                rw [HX.out.1.1]
                obtain ⟨f', rfl⟩ : ∃ f', f = f' + 1 := ⟨f - 1, by omega⟩
                rw [popAll_step (findTop_is (by omega) HINV.out.1 HY.out), Nat.add_sub_cancel])
              go_wp2_with fail
              go_roundw
              case rel => exact ⟨c + 1, f - 1, popP q 0, by omega, by go_num, HN⟩
              case measure => simp [intOf]; omega
            · have hzb : (z == (c : Int) + 1) = false := by rw [beq_eq_false_iff_ne]; exact hzc
              have HN : Hid (∀ y : Nat, y < 0 + 1 → topIs q y = false) := Go.Lib.hid (fun y hy => by
                by_cases h1 : y = 0
                · subst h1; rw [HT.out]; exact hzb
                · exact HY.out y (by omega))
              go_wp2_with fail
              go_roundw
              case rel => exact ⟨0 + 1, by omega, by go_num, by first | rfl | trivial, HN⟩
              case measure => simp [intOf]
        · have HLx : Hid ((q.st.getD 1 []).length = L1) := Go.Lib.hid HL.out.2.1
          clear HL
          have ix : ∀ (v0 v1 v2 v3 : Value) (w : World), (Instr.index 33 (.agg #[v0, v1, v2, v3]) (.int .i64 1)).run Try.prog w = .ok v1 w := fun _ _ _ _ _ => by kernel_rfl
          rcases L1 with _ | e
          · have HN : Hid (∀ y : Nat, y < 1 + 1 → topIs q y = false) := Go.Lib.hid (fun y hy => by
              by_cases h1 : y = 1
              · subst h1; exact topIs_none HLx.out
              · exact HY.out y (by omega))
            go_wp2_with fail
            go_roundw
            case rel => exact ⟨1 + 1, by omega, by go_num, by first | rfl | trivial, HN⟩
            case measure => simp [intOf]
          · have he7 : e < 7 := by have h1 := (HH.out.2.2.2.1 1 (by omega)).1; have h2 := HLx.out; omega
            obtain ⟨z, hz⟩ : ∃ z, (q.st.getD 1 []).getD e 0 = z := ⟨_, rfl⟩
            have htop := topIs_at HLx.out
            rw [hz, HX.out.2] at htop
            have cz := S0.out.cell (cells_stack (D := deps q) (P := q.dp) (mv := .slice am nm cm) (ov := .slice ao c co) HH.out.1 (j := 1 * 7 + e) (by omega))
            rw [(HH.out.2.2.2.1 1 (by omega)).2 e (by rw [HLx.out]; omega), hz] at cz
            have hei : (e : Int) < 7 := by omega
            have HT := Go.Lib.hid htop
            clear htop hz
            by_cases hzc : z = (c : Int) + 1
            · subst hzc
              have ht : topIs q 1 = true := by rw [HT.out]; exact beq_iff_eq.2 rfl
              have HINV := Go.Lib.hid (And.intro ht (inv_pop HO.out.1 HO.out.2.1 (by omega) ht HX.out.1.2.1))
              have hc6 : c < 7 := by have h1 := HINV.out.2.2; have h2 := HO.out.2.2; have h3 := HX.out.2; omega
              have f0 := S0.out.frozen (28 + 1)
              clear ht
              go_wp2_with fail
              go_region
              obtain ⟨w1, hw1⟩ : ∃ w1, (wr.setCell ⟨a, 28 + 1, none⟩ (.int .i64 (e : Int))).drew = w1 := ⟨_, rfl⟩
              have S1 : Hid (St W a (cellsR F ((deps q).set 1 (e : Int)) q.dp (.slice am nm cm) (.slice ao c co)) (.slice am nm cm) nm q.mv (.slice ao c co) c (iota c) w1) := Go.Lib.hid (by
                rw [← hw1, ← set_depth HH.out.1 HH.out.2.2.2.2.1 (by omega)]; exact (S0.out.set _ _).drew)
              try rw [hw1]
              clear hw1 f0 cz c28 c29 c30 c31
              have hD1 : ((deps q).set 1 (e : Int)).length = 4 := by rw [List.length_set]; exact HH.out.2.2.2.2.1
              have c36 := S1.out.cell (cells_mv HH.out.1 hD1 HH.out.2.2.1)
              have hWs := S1.out.2.2.2.size
              go_wp2_with (first
                | (at_builtin; refine wpList_append_own_at _ rfl _ _ 22 rfl W.heap.size 5 j0 (.int .u8 0) 1 1 Try.underlying22 hj hy0 hy1 hy2 rfl (by decide) (.slice am nm cm) nm (bvals q.mv) rfl (World.ownsRow.alloc S1.out.2.1 _) ⟨w1.heap.size, 0, none⟩ 1 1 [.int .u8 98] rfl rfl (cell_one_new _ _ _) (fun u hu => by simp at hu; subst hu; rfl) (by unfold maxLen; omega) (by omega) (by simp; omega) ?_; intro v4 w4 hown4 hgrow4 _ _; obtain ⟨g4, cp4, rfl⟩ := ownsRow_succ hown4; have S4 : Hid (St W a (cellsR F ((deps q).set 1 (e : Int)) q.dp (.slice am nm cm) (.slice ao c co)) (.slice (some ⟨g4, 0, none⟩) (nm + 1) cp4) (nm + 1) (q.mv ++ [UInt8.ofNat (97 + 1)]) (.slice ao c co) c (iota c) w4) := Go.Lib.hid ((S1.out.alloc _).moved (by rw [← bsnoc (chr97 (s := 1) (by omega))]; exact hown4) hgrow4); have c4 := S4.out.cell (cells_mv HH.out.1 hD1 HH.out.2.2.1); have f4 := S4.out.frozen 36; have S5 : Hid (St W a (cellsR F ((deps q).set 1 (e : Int)) q.dp (.slice (some ⟨g4, 0, none⟩) (nm + 1) cp4) (.slice ao c co)) (.slice (some ⟨g4, 0, none⟩) (nm + 1) cp4) (nm + 1) (q.mv ++ [UInt8.ofNat (97 + 1)]) (.slice ao c co) c (iota c) (w4.setCell ⟨a, 36, none⟩ (.slice (some ⟨g4, 0, none⟩) (nm + 1) cp4))) := Go.Lib.hid (by rw [← set_mv (mv := .slice am nm cm) HH.out.1 hD1 HH.out.2.2.1]; exact S4.out.set _ _); have c37 := S5.out.cell (cells_ov HH.out.1 hD1 HH.out.2.2.1); have hWs5 := S5.out.2.2.2.size; clear hown4 hgrow4 c36)
                | (at_builtin; refine wpList_append_own_at _ rfl _ _ 24 rfl W.heap.size 3 i0 (.int .i64 0) 1 8 Try.underlying24 hi hz0 hz1 hz2 rfl (by decide) (.slice ao c co) c (vals (iota c)) rfl (World.ownsRow.alloc S5.out.2.2.1 _) ⟨w4.heap.size, 0, none⟩ 1 1 [.int .i64 ((c : Int) + 1)] rfl rfl (new_at S5.out _) (fun u hu => by simp at hu; subst hu; rfl) (by unfold maxLen; omega) (by omega) ((S5.out.alloc _).2.2.2.size) ?_; intro v6 w6 hown6 hgrow6 _ _; obtain ⟨g6, cp6, rfl⟩ := ownsRow_succ hown6; have S6 : Hid (St W a (cellsR F ((deps q).set 1 (e : Int)) q.dp (.slice (some ⟨g4, 0, none⟩) (nm + 1) cp4) (.slice ao c co)) (.slice (some ⟨g4, 0, none⟩) (nm + 1) cp4) (nm + 1) (q.mv ++ [UInt8.ofNat (97 + 1)]) (.slice (some ⟨g6, 0, none⟩) (c + 1) cp6) (c + 1) (iota (c + 1)) w6) := Go.Lib.hid ((S5.out.alloc _).came (by rw [← iota_snoc]; exact hown6) hgrow6); have c6 := S6.out.cell (cells_ov HH.out.1 hD1 HH.out.2.2.1); have f6 := S6.out.frozen 37; clear hown6 hgrow6 c37))
              have HN : Hid (PopW zs so m W a p (f - 1) (popP q 1) (w6.setCell ⟨a, 37, none⟩ (.slice (some ⟨g6, 0, none⟩) (c + 1) cp6)) ∧ (popP q 1).c = c + 1) := Go.Lib.hid (by
                have h7 := S6.out.set 37 (.slice (some ⟨g6, 0, none⟩) (c + 1) cp6)
                rw [set_ov HH.out.1 hD1 HH.out.2.2.1] at h7
                have h1 := HINV.out.2.2
                have h2 := HX.out.1.2.2.1
                refine ⟨⟨?_, HINV.out.2.1, by simp [popP]; omega, popped (by omega) HH.out.1 HH.out.2.1 HH.out.2.2.1 HH.out.2.2.2.1 HLx.out HH.out.2.2.2.2.2 HX.out.2 h7⟩, by simp [popP, HX.out.2]⟩
                rw [HX.out.1.1]
                obtain ⟨f', rfl⟩ : ∃ f', f = f' + 1 := ⟨f - 1, by omega⟩
                rw [popAll_step (findTop_is (by omega) HINV.out.1 HY.out), Nat.add_sub_cancel])
              go_wp2_with fail
              go_roundw
              case rel => exact ⟨c + 1, f - 1, popP q 1, by omega, by go_num, HN⟩
              case measure => simp [intOf]; omega
            · have hzb : (z == (c : Int) + 1) = false := by rw [beq_eq_false_iff_ne]; exact hzc
              have HN : Hid (∀ y : Nat, y < 1 + 1 → topIs q y = false) := Go.Lib.hid (fun y hy => by
                by_cases h1 : y = 1
                · subst h1; rw [HT.out]; exact hzb
                · exact HY.out y (by omega))
              go_wp2_with fail
              go_roundw
              case rel => exact ⟨1 + 1, by omega, by go_num, by first | rfl | trivial, HN⟩
              case measure => simp [intOf]
        · have HLx : Hid ((q.st.getD 2 []).length = L2) := Go.Lib.hid HL.out.2.2.1
          clear HL
          have ix : ∀ (v0 v1 v2 v3 : Value) (w : World), (Instr.index 33 (.agg #[v0, v1, v2, v3]) (.int .i64 2)).run Try.prog w = .ok v2 w := fun _ _ _ _ _ => by kernel_rfl
          rcases L2 with _ | e
          · have HN : Hid (∀ y : Nat, y < 2 + 1 → topIs q y = false) := Go.Lib.hid (fun y hy => by
              by_cases h1 : y = 2
              · subst h1; exact topIs_none HLx.out
              · exact HY.out y (by omega))
            go_wp2_with fail
            go_roundw
            case rel => exact ⟨2 + 1, by omega, by go_num, by first | rfl | trivial, HN⟩
            case measure => simp [intOf]
          · have he7 : e < 7 := by have h1 := (HH.out.2.2.2.1 2 (by omega)).1; have h2 := HLx.out; omega
            obtain ⟨z, hz⟩ : ∃ z, (q.st.getD 2 []).getD e 0 = z := ⟨_, rfl⟩
            have htop := topIs_at HLx.out
            rw [hz, HX.out.2] at htop
            have cz := S0.out.cell (cells_stack (D := deps q) (P := q.dp) (mv := .slice am nm cm) (ov := .slice ao c co) HH.out.1 (j := 2 * 7 + e) (by omega))
            rw [(HH.out.2.2.2.1 2 (by omega)).2 e (by rw [HLx.out]; omega), hz] at cz
            have hei : (e : Int) < 7 := by omega
            have HT := Go.Lib.hid htop
            clear htop hz
            by_cases hzc : z = (c : Int) + 1
            · subst hzc
              have ht : topIs q 2 = true := by rw [HT.out]; exact beq_iff_eq.2 rfl
              have HINV := Go.Lib.hid (And.intro ht (inv_pop HO.out.1 HO.out.2.1 (by omega) ht HX.out.1.2.1))
              have hc6 : c < 7 := by have h1 := HINV.out.2.2; have h2 := HO.out.2.2; have h3 := HX.out.2; omega
              have f0 := S0.out.frozen (28 + 2)
              clear ht
              go_wp2_with fail
              go_region
              obtain ⟨w1, hw1⟩ : ∃ w1, (wr.setCell ⟨a, 28 + 2, none⟩ (.int .i64 (e : Int))).drew = w1 := ⟨_, rfl⟩
              have S1 : Hid (St W a (cellsR F ((deps q).set 2 (e : Int)) q.dp (.slice am nm cm) (.slice ao c co)) (.slice am nm cm) nm q.mv (.slice ao c co) c (iota c) w1) := Go.Lib.hid (by
                rw [← hw1, ← set_depth HH.out.1 HH.out.2.2.2.2.1 (by omega)]; exact (S0.out.set _ _).drew)
              try rw [hw1]
              clear hw1 f0 cz c28 c29 c30 c31
              have hD1 : ((deps q).set 2 (e : Int)).length = 4 := by rw [List.length_set]; exact HH.out.2.2.2.2.1
              have c36 := S1.out.cell (cells_mv HH.out.1 hD1 HH.out.2.2.1)
              have hWs := S1.out.2.2.2.size
              go_wp2_with (first
                | (at_builtin; refine wpList_append_own_at _ rfl _ _ 22 rfl W.heap.size 5 j0 (.int .u8 0) 1 1 Try.underlying22 hj hy0 hy1 hy2 rfl (by decide) (.slice am nm cm) nm (bvals q.mv) rfl (World.ownsRow.alloc S1.out.2.1 _) ⟨w1.heap.size, 0, none⟩ 1 1 [.int .u8 99] rfl rfl (cell_one_new _ _ _) (fun u hu => by simp at hu; subst hu; rfl) (by unfold maxLen; omega) (by omega) (by simp; omega) ?_; intro v4 w4 hown4 hgrow4 _ _; obtain ⟨g4, cp4, rfl⟩ := ownsRow_succ hown4; have S4 : Hid (St W a (cellsR F ((deps q).set 2 (e : Int)) q.dp (.slice am nm cm) (.slice ao c co)) (.slice (some ⟨g4, 0, none⟩) (nm + 1) cp4) (nm + 1) (q.mv ++ [UInt8.ofNat (97 + 2)]) (.slice ao c co) c (iota c) w4) := Go.Lib.hid ((S1.out.alloc _).moved (by rw [← bsnoc (chr97 (s := 2) (by omega))]; exact hown4) hgrow4); have c4 := S4.out.cell (cells_mv HH.out.1 hD1 HH.out.2.2.1); have f4 := S4.out.frozen 36; have S5 : Hid (St W a (cellsR F ((deps q).set 2 (e : Int)) q.dp (.slice (some ⟨g4, 0, none⟩) (nm + 1) cp4) (.slice ao c co)) (.slice (some ⟨g4, 0, none⟩) (nm + 1) cp4) (nm + 1) (q.mv ++ [UInt8.ofNat (97 + 2)]) (.slice ao c co) c (iota c) (w4.setCell ⟨a, 36, none⟩ (.slice (some ⟨g4, 0, none⟩) (nm + 1) cp4))) := Go.Lib.hid (by rw [← set_mv (mv := .slice am nm cm) HH.out.1 hD1 HH.out.2.2.1]; exact S4.out.set _ _); have c37 := S5.out.cell (cells_ov HH.out.1 hD1 HH.out.2.2.1); have hWs5 := S5.out.2.2.2.size; clear hown4 hgrow4 c36)
                | (at_builtin; refine wpList_append_own_at _ rfl _ _ 24 rfl W.heap.size 3 i0 (.int .i64 0) 1 8 Try.underlying24 hi hz0 hz1 hz2 rfl (by decide) (.slice ao c co) c (vals (iota c)) rfl (World.ownsRow.alloc S5.out.2.2.1 _) ⟨w4.heap.size, 0, none⟩ 1 1 [.int .i64 ((c : Int) + 1)] rfl rfl (new_at S5.out _) (fun u hu => by simp at hu; subst hu; rfl) (by unfold maxLen; omega) (by omega) ((S5.out.alloc _).2.2.2.size) ?_; intro v6 w6 hown6 hgrow6 _ _; obtain ⟨g6, cp6, rfl⟩ := ownsRow_succ hown6; have S6 : Hid (St W a (cellsR F ((deps q).set 2 (e : Int)) q.dp (.slice (some ⟨g4, 0, none⟩) (nm + 1) cp4) (.slice ao c co)) (.slice (some ⟨g4, 0, none⟩) (nm + 1) cp4) (nm + 1) (q.mv ++ [UInt8.ofNat (97 + 2)]) (.slice (some ⟨g6, 0, none⟩) (c + 1) cp6) (c + 1) (iota (c + 1)) w6) := Go.Lib.hid ((S5.out.alloc _).came (by rw [← iota_snoc]; exact hown6) hgrow6); have c6 := S6.out.cell (cells_ov HH.out.1 hD1 HH.out.2.2.1); have f6 := S6.out.frozen 37; clear hown6 hgrow6 c37))
              have HN : Hid (PopW zs so m W a p (f - 1) (popP q 2) (w6.setCell ⟨a, 37, none⟩ (.slice (some ⟨g6, 0, none⟩) (c + 1) cp6)) ∧ (popP q 2).c = c + 1) := Go.Lib.hid (by
                have h7 := S6.out.set 37 (.slice (some ⟨g6, 0, none⟩) (c + 1) cp6)
                rw [set_ov HH.out.1 hD1 HH.out.2.2.1] at h7
                have h1 := HINV.out.2.2
                have h2 := HX.out.1.2.2.1
                refine ⟨⟨?_, HINV.out.2.1, by simp [popP]; omega, popped (by omega) HH.out.1 HH.out.2.1 HH.out.2.2.1 HH.out.2.2.2.1 HLx.out HH.out.2.2.2.2.2 HX.out.2 h7⟩, by simp [popP, HX.out.2]⟩
                rw [HX.out.1.1]
                obtain ⟨f', rfl⟩ : ∃ f', f = f' + 1 := ⟨f - 1, by omega⟩
                rw [popAll_step (findTop_is (by omega) HINV.out.1 HY.out), Nat.add_sub_cancel])
              go_wp2_with fail
              go_roundw
              case rel => exact ⟨c + 1, f - 1, popP q 2, by omega, by go_num, HN⟩
              case measure => simp [intOf]; omega
            · have hzb : (z == (c : Int) + 1) = false := by rw [beq_eq_false_iff_ne]; exact hzc
              have HN : Hid (∀ y : Nat, y < 2 + 1 → topIs q y = false) := Go.Lib.hid (fun y hy => by
                by_cases h1 : y = 2
                · subst h1; rw [HT.out]; exact hzb
                · exact HY.out y (by omega))
              go_wp2_with fail
              go_roundw
              case rel => exact ⟨2 + 1, by omega, by go_num, by first | rfl | trivial, HN⟩
              case measure => simp [intOf]
        · have HLx : Hid ((q.st.getD 3 []).length = L3) := Go.Lib.hid HL.out.2.2.2
          clear HL
          have ix : ∀ (v0 v1 v2 v3 : Value) (w : World), (Instr.index 33 (.agg #[v0, v1, v2, v3]) (.int .i64 3)).run Try.prog w = .ok v3 w := fun _ _ _ _ _ => by kernel_rfl
          rcases L3 with _ | e
          · have HN : Hid (∀ y : Nat, y < 3 + 1 → topIs q y = false) := Go.Lib.hid (fun y hy => by
              by_cases h1 : y = 3
              · subst h1; exact topIs_none HLx.out
              · exact HY.out y (by omega))
            go_wp2_with fail
            go_roundw
            case rel => exact ⟨3 + 1, by omega, by go_num, by first | rfl | trivial, HN⟩
            case measure => simp [intOf]
          · have he7 : e < 7 := by have h1 := (HH.out.2.2.2.1 3 (by omega)).1; have h2 := HLx.out; omega
            obtain ⟨z, hz⟩ : ∃ z, (q.st.getD 3 []).getD e 0 = z := ⟨_, rfl⟩
            have htop := topIs_at HLx.out
            rw [hz, HX.out.2] at htop
            have cz := S0.out.cell (cells_stack (D := deps q) (P := q.dp) (mv := .slice am nm cm) (ov := .slice ao c co) HH.out.1 (j := 3 * 7 + e) (by omega))
            rw [(HH.out.2.2.2.1 3 (by omega)).2 e (by rw [HLx.out]; omega), hz] at cz
            have hei : (e : Int) < 7 := by omega
            have HT := Go.Lib.hid htop
            clear htop hz
            by_cases hzc : z = (c : Int) + 1
            · subst hzc
              have ht : topIs q 3 = true := by rw [HT.out]; exact beq_iff_eq.2 rfl
              have HINV := Go.Lib.hid (And.intro ht (inv_pop HO.out.1 HO.out.2.1 (by omega) ht HX.out.1.2.1))
              have hc6 : c < 7 := by have h1 := HINV.out.2.2; have h2 := HO.out.2.2; have h3 := HX.out.2; omega
              have f0 := S0.out.frozen (28 + 3)
              clear ht
              go_wp2_with fail
              go_region
              obtain ⟨w1, hw1⟩ : ∃ w1, (wr.setCell ⟨a, 28 + 3, none⟩ (.int .i64 (e : Int))).drew = w1 := ⟨_, rfl⟩
              have S1 : Hid (St W a (cellsR F ((deps q).set 3 (e : Int)) q.dp (.slice am nm cm) (.slice ao c co)) (.slice am nm cm) nm q.mv (.slice ao c co) c (iota c) w1) := Go.Lib.hid (by
                rw [← hw1, ← set_depth HH.out.1 HH.out.2.2.2.2.1 (by omega)]; exact (S0.out.set _ _).drew)
              try rw [hw1]
              clear hw1 f0 cz c28 c29 c30 c31
              have hD1 : ((deps q).set 3 (e : Int)).length = 4 := by rw [List.length_set]; exact HH.out.2.2.2.2.1
              have c36 := S1.out.cell (cells_mv HH.out.1 hD1 HH.out.2.2.1)
              have hWs := S1.out.2.2.2.size
              go_wp2_with (first
                | (at_builtin; refine wpList_append_own_at _ rfl _ _ 22 rfl W.heap.size 5 j0 (.int .u8 0) 1 1 Try.underlying22 hj hy0 hy1 hy2 rfl (by decide) (.slice am nm cm) nm (bvals q.mv) rfl (World.ownsRow.alloc S1.out.2.1 _) ⟨w1.heap.size, 0, none⟩ 1 1 [.int .u8 100] rfl rfl (cell_one_new _ _ _) (fun u hu => by simp at hu; subst hu; rfl) (by unfold maxLen; omega) (by omega) (by simp; omega) ?_; intro v4 w4 hown4 hgrow4 _ _; obtain ⟨g4, cp4, rfl⟩ := ownsRow_succ hown4; have S4 : Hid (St W a (cellsR F ((deps q).set 3 (e : Int)) q.dp (.slice am nm cm) (.slice ao c co)) (.slice (some ⟨g4, 0, none⟩) (nm + 1) cp4) (nm + 1) (q.mv ++ [UInt8.ofNat (97 + 3)]) (.slice ao c co) c (iota c) w4) := Go.Lib.hid ((S1.out.alloc _).moved (by rw [← bsnoc (chr97 (s := 3) (by omega))]; exact hown4) hgrow4); have c4 := S4.out.cell (cells_mv HH.out.1 hD1 HH.out.2.2.1); have f4 := S4.out.frozen 36; have S5 : Hid (St W a (cellsR F ((deps q).set 3 (e : Int)) q.dp (.slice (some ⟨g4, 0, none⟩) (nm + 1) cp4) (.slice ao c co)) (.slice (some ⟨g4, 0, none⟩) (nm + 1) cp4) (nm + 1) (q.mv ++ [UInt8.ofNat (97 + 3)]) (.slice ao c co) c (iota c) (w4.setCell ⟨a, 36, none⟩ (.slice (some ⟨g4, 0, none⟩) (nm + 1) cp4))) := Go.Lib.hid (by rw [← set_mv (mv := .slice am nm cm) HH.out.1 hD1 HH.out.2.2.1]; exact S4.out.set _ _); have c37 := S5.out.cell (cells_ov HH.out.1 hD1 HH.out.2.2.1); have hWs5 := S5.out.2.2.2.size; clear hown4 hgrow4 c36)
                | (at_builtin; refine wpList_append_own_at _ rfl _ _ 24 rfl W.heap.size 3 i0 (.int .i64 0) 1 8 Try.underlying24 hi hz0 hz1 hz2 rfl (by decide) (.slice ao c co) c (vals (iota c)) rfl (World.ownsRow.alloc S5.out.2.2.1 _) ⟨w4.heap.size, 0, none⟩ 1 1 [.int .i64 ((c : Int) + 1)] rfl rfl (new_at S5.out _) (fun u hu => by simp at hu; subst hu; rfl) (by unfold maxLen; omega) (by omega) ((S5.out.alloc _).2.2.2.size) ?_; intro v6 w6 hown6 hgrow6 _ _; obtain ⟨g6, cp6, rfl⟩ := ownsRow_succ hown6; have S6 : Hid (St W a (cellsR F ((deps q).set 3 (e : Int)) q.dp (.slice (some ⟨g4, 0, none⟩) (nm + 1) cp4) (.slice ao c co)) (.slice (some ⟨g4, 0, none⟩) (nm + 1) cp4) (nm + 1) (q.mv ++ [UInt8.ofNat (97 + 3)]) (.slice (some ⟨g6, 0, none⟩) (c + 1) cp6) (c + 1) (iota (c + 1)) w6) := Go.Lib.hid ((S5.out.alloc _).came (by rw [← iota_snoc]; exact hown6) hgrow6); have c6 := S6.out.cell (cells_ov HH.out.1 hD1 HH.out.2.2.1); have f6 := S6.out.frozen 37; clear hown6 hgrow6 c37))
              have HN : Hid (PopW zs so m W a p (f - 1) (popP q 3) (w6.setCell ⟨a, 37, none⟩ (.slice (some ⟨g6, 0, none⟩) (c + 1) cp6)) ∧ (popP q 3).c = c + 1) := Go.Lib.hid (by
                have h7 := S6.out.set 37 (.slice (some ⟨g6, 0, none⟩) (c + 1) cp6)
                rw [set_ov HH.out.1 hD1 HH.out.2.2.1] at h7
                have h1 := HINV.out.2.2
                have h2 := HX.out.1.2.2.1
                refine ⟨⟨?_, HINV.out.2.1, by simp [popP]; omega, popped (by omega) HH.out.1 HH.out.2.1 HH.out.2.2.1 HH.out.2.2.2.1 HLx.out HH.out.2.2.2.2.2 HX.out.2 h7⟩, by simp [popP, HX.out.2]⟩
                rw [HX.out.1.1]
                obtain ⟨f', rfl⟩ : ∃ f', f = f' + 1 := ⟨f - 1, by omega⟩
                rw [popAll_step (findTop_is (by omega) HINV.out.1 HY.out), Nat.add_sub_cancel])
              go_wp2_with fail
              go_roundw
              case rel => exact ⟨c + 1, f - 1, popP q 3, by omega, by go_num, HN⟩
              case measure => simp [intOf]; omega
            · have hzb : (z == (c : Int) + 1) = false := by rw [beq_eq_false_iff_ne]; exact hzc
              have HN : Hid (∀ y : Nat, y < 3 + 1 → topIs q y = false) := Go.Lib.hid (fun y hy => by
                by_cases h1 : y = 3
                · subst h1; rw [HT.out]; exact hzb
                · exact HY.out y (by omega))
              go_wp2_with fail
              go_roundw
              case rel => exact ⟨3 + 1, by omega, by go_num, by first | rfl | trivial, HN⟩
              case measure => simp [intOf]
      · have hx4' : x = 4 := by omega
        subst hx4'
        go_wp2_with fail
        rw [Exit.noGoto_ret]
        refine bodyPost_ret (results_none rfl _ _ _) rfl ?_
        refine ⟨rfl, ?_⟩
        rw [HX.out.1.1, popAll_end (findTop_not HY.out)]
        exact HX.out.1.2.2.2

end Go.Proofs.Ytekihdnkkeggjaa.RunP2C

/-
  Contract: BadTriple of the model. Conditions: lists of at most 2^20 numbers.
-/
namespace Go.Proofs.Ytekihdnkkeggjaa.BadCC
open Go.RowKit SeesC IntsC ExactC NumC IterC OrdMath InC OrderC PatMath BadM RunC PubC ListsC

theorem arr_below {w W : World} {B g : Nat} (hg : B ≤ g) (h : Below B W w) (a b c : Value) : Below B W (((w.setCell ⟨g, 0, none⟩ a).setCell ⟨g, 1, none⟩ b).setCell ⟨g, 2, none⟩ c) :=
  ((h.setCell (p := ⟨g, 0, none⟩) hg a).setCell (p := ⟨g, 1, none⟩) hg b).setCell (p := ⟨g, 2, none⟩) hg c

theorem out_step {zs : List Int} {n i : Nat} (hl : zs.length = n) (hi : i < n) : outr zs (n - i) i = (mid zs i (n - (i + 1)) (i + 1)).or (outr zs (n - (i + 1)) (i + 1)) := by
  rw [show n - i = (n - (i + 1)) + 1 by omega]
  conv => lhs; unfold outr
  rw [hl]
  cases mid zs i (n - (i + 1)) (i + 1) <;> rfl
theorem mid_step {zs : List Int} {n i k : Nat} (hl : zs.length = n) (hk : k < n) : mid zs i (n - k) k = (inn zs i k (n - (k + 1)) (k + 1)).or (mid zs i (n - (k + 1)) (k + 1)) := by
  rw [show n - k = (n - (k + 1)) + 1 by omega]
  conv => lhs; unfold mid
  rw [hl]
  cases inn zs i k (n - (k + 1)) (k + 1) <;> rfl
theorem inn_yes {zs : List Int} {n i k j : Nat} (hj : j < n) (h : bad zs i k j = true) : inn zs i k (n - j) j = some [i, k, j] := by
  rw [show n - j = (n - (j + 1)) + 1 by omega]
  conv => lhs; unfold inn
  rw [if_pos h]
theorem inn_no {zs : List Int} {n i k j : Nat} (hj : j < n) (h : bad zs i k j = false) : inn zs i k (n - j) j = inn zs i k (n - (j + 1)) (j + 1) := by
  rw [show n - j = (n - (j + 1)) + 1 by omega]
  conv => lhs; unfold inn
  rw [if_neg (by rw [h]; simp)]

def badT (zs : List Int) : (Int × Int × Int) × Bool := if Ord zs then (match badOf zs with | some [i, k, j] => (((i : Int), (k : Int), (j : Int)), true) | _ => ((0, 0, 0), false)) else ((0, 0, 0), false)

theorem ord231 : Ord [2, 3, 1] := by decide

theorem bad_link {zs : List Int} {a b c : Int} {ok : Bool} (h : badT zs = ((a, b, c), ok)) :
    ∃ xs, firstAns zs [2, 3, 1] = (xs, ok) ∧ ((ok = true ∧ xs = [a, b, c]) ∨ (ok = false ∧ a = 0 ∧ b = 0 ∧ c = 0)) := by
  unfold badT at h
  unfold firstAns
  by_cases ho : Ord zs
  · rw [if_pos ho, bad_first] at h
    cases hp : placesOf zs [2, 3, 1] with
    | nil =>
      rw [hp] at h
      cases h
      have hn : ¬ (Ord zs ∧ Ord [2, 3, 1] ∧ has zs [2, 3, 1] = true) := by
        rintro ⟨_, _, hh⟩
        have h2 := has_len.1 hh
        rw [hp] at h2
        simp at h2
      rw [if_neg hn]
      exact ⟨_, rfl, .inr ⟨rfl, rfl, rfl, rfl⟩⟩
    | cons q t =>
      have hy : Ord zs ∧ Ord [2, 3, 1] ∧ has zs [2, 3, 1] = true := ⟨ho, ord231, has_len.2 (by rw [hp]; simp)⟩
      rw [if_pos hy]
      have hl : q.length = 3 := places_len (zs := zs) (pat := [2, 3, 1]) (by rw [hp]; simp)
      obtain ⟨i, k, j, rfl⟩ : ∃ i k j, q = [i, k, j] := by
        match q, hl with
        | [i, k, j], _ => exact ⟨i, k, j, rfl⟩
      rw [hp] at h
      cases h
      exact ⟨_, rfl, .inl ⟨rfl, rfl⟩⟩
  · rw [if_neg ho] at h
    cases h
    rw [if_neg (fun h => ho h.1)]
    exact ⟨_, rfl, .inr ⟨rfl, rfl, rfl, rfl⟩⟩

end Go.Proofs.Ytekihdnkkeggjaa.BadCC

/-
  Contract: the program's runBeside: all moves of an order by a sharing. Conditions: an order and one of its sharings.
-/
namespace Go.Proofs.Ytekihdnkkeggjaa.RunBC
open Go.RowKit SeesC IntsC ExactC NumC IterC OrdMath BesM PlayM WordMath InC OrderC WordC RunC ToC ListsC SameC AppendTwoC GreedyC RunPC RunP2C BigC
set_option linter.unusedVariables false

/-- What a run leaves behind: the struct's cells, and what they point to. -/
def Ran (W : World) (p : Pl) (e : Ending) (w : World) : Prop := ∃ (F : List Int) (am ao : Option Addr) (cm co : Nat),
  F.length = 28 ∧ e = .returned (.agg (cellsR F (deps p) p.dp (.slice am p.mv.length cm) (.slice ao p.c co)).toArray) ∧
  w.ownsRow W.heap.size 5 1 (.slice am p.mv.length cm) p.mv.length (bvals p.mv) ∧
  w.ownsRow W.heap.size 3 1 (.slice ao p.c co) p.c (vals (iota p.c)) ∧ Below W.heap.size W w

theorem run0 (W : World) (w : World) (hb : Below W.heap.size W w) : RunAt W w.heap.size pl0 (w.alloc (.cells (cellsR (List.replicate 28 0) [0, 0, 0, 0] [0, 0, 0, 0] (.slice none 0 0) (.slice none 0 0)).toArray 66)) := by
  refine ⟨List.replicate 28 0, none, none, 0, 0, rfl, rfl, rfl, ?_, ?_, ?_, ?_, hb.alloc hb.size _⟩
  · intro s hs
    have : s = 0 ∨ s = 1 ∨ s = 2 ∨ s = 3 := by omega
    rcases this with rfl | rfl | rfl | rfl <;> exact ⟨by decide, fun d hd => by simp [pl0] at hd⟩
  · exact World.ownsRow_lit w _ 1 hb.size (by unfold maxLen; omega) rfl
  · exact World.ownsRow_nil _ _ _ _
  · exact World.ownsRow_nil _ _ _ _

def zcells : List Value := cellsR (List.replicate 28 0) [0, 0, 0, 0] [0, 0, 0, 0] (.slice none 0 0) (.slice none 0 0)

theorem infoRun : (Try.prog.info? 66).map (fun i => (i.zero, i.size)) = some (some (.agg zcells.toArray), 38) := by kernel_rfl
theorem builtRun : Try.prog.built 66 [] = some zcells.toArray := by kernel_rfl
theorem sizeRun (cs : Array Value) (h : cs.size = 38) : (Try.prog.info? 66).map (·.size) = some cs.size := by rw [h]; kernel_rfl

theorem oneRun {F D P : List Int} {a b : Option Addr} {n c m d : Nat} : (cellsR F D P (.slice a n c) (.slice b m d)).toArray.all (·.oneCell') = true := by
  refine all_oneCell_toArray fun v hv => ?_
  unfold cellsR at hv
  simp only [List.mem_append, List.mem_map, List.mem_cons, List.not_mem_nil, or_false] at hv
  rcases hv with ⟨x, _, rfl⟩ | ⟨x, _, rfl⟩ | ⟨x, _, rfl⟩ | rfl | rfl <;> rfl

theorem stBlock {W : World} {a : Nat} {C : List Value} {mv : Value} {nm : Nat} {ml : List UInt8} {ov : Value} {no : Nat} {ol : List Int} {w : World} (h : St W a C mv nm ml ov no ol w) : w.heap[a]? = some (.cells C.toArray 66 (0, 0)) := by
  rcases h.1.2 with ⟨h1, _⟩ | ⟨g, cap, cur, e, _, hg, _, _, hcs, ht⟩
  · simp at h1
  · simp only [Value.slice.injEq, Option.some.injEq, Addr.mk.injEq, and_true, true_and] at e
    obtain ⟨rfl, rfl⟩ := e
    rw [hg, ← ht, List.take_of_length_le (by rw [Array.length_toList, hcs]; exact Nat.le_refl _)]

theorem setRow_grown (w : World) (g : Nat) (cs : Array Value) : w.grownBy (w.setRow g cs) (some g) :=
  ⟨rfl, rfl, rfl, by simp [World.setRow], fun k _ hk => setRow_other w g k _ (fun e => hk (by simp [e]))⟩

set_option maxRecDepth 100000 in
set_option maxHeartbeats 8000000 in
theorem run_any (zs so : List Int) (ho : Ord zs) (hsh : Sh zs so) (W : World) (v : Value) (n : Nat) (hv : Sees W v n (vals zs)) (u : Value) (hu : Sees W u n (vals so)) :
    Calls Try.prog 59 #[v, u] W fun e w' => Ran W (play zs so n) e w' := by
  have hl : zs.length = n := by simpa using hv.1
  have hn7 : n ≤ 7 := by have := ho.2.1; omega
  have hn1 : 1 ≤ n := by have := ho.1; omega
  obtain ⟨b, o, cap, rfl, _, _, hbl, hcell⟩ := sees_cells hv (by omega)
  obtain ⟨b2, o2, cap2, rfl, _, _, hbl2, hcell2⟩ := sees_cells hu (by omega)
  have HC := Go.Lib.hid hcell
  have HC2 := Go.Lib.hid hcell2
  have HL := Go.Lib.hid (And.intro hl (And.intro ho hsh))
  clear hcell hcell2 hl hv hu ho hsh
  go_enter Try.func59, Try.ntmps59
  have H0 : Hid (RunAt (W.alloc (.cells zcells.toArray 66)) (W.heap.size + 1) pl0 ((W.alloc (.cells zcells.toArray 66)).alloc (.cells zcells.toArray 66))) := Go.Lib.hid (by
    have h := run0 (W.alloc (.cells zcells.toArray 66)) (W.alloc (.cells zcells.toArray 66)) (Below.refl _ _)
    have e : (W.alloc (.cells zcells.toArray 66)).heap.size = W.heap.size + 1 := by simp
    rw [e] at h
    exact h)
  have HW1 : Hid ((W.alloc (.cells zcells.toArray 66)).heap.size = W.heap.size + 1 ∧ (W.alloc (.cells zcells.toArray 66)).heap[W.heap.size]? = some (.cells zcells.toArray 66 (0, 0)) ∧ Below W.heap.size W (W.alloc (.cells zcells.toArray 66))) := Go.Lib.hid ⟨by simp, heap_alloc_new _ _, (Below.refl _ _).alloc (Nat.le_refl _) _⟩
  have hZs : zcells.toArray.size = 38 := rfl
  have hZ1 : zcells.toArray.all (·.oneCell') = true := oneRun
  have hIZ := sizeRun zcells.toArray hZs
  go_wp2_with (first
    | (refine wpList_alloc_agg rfl _ rfl zcells.toArray 38 infoRun ?_)
    | (refine wpList_build_is rfl _ rfl zcells.toArray builtRun ?_)
    | (refine wpList_store_new rfl _ _ _ rfl _ zcells.toArray zcells.toArray rfl rfl rfl hIZ rfl hZ1 ?_))
  obtain ⟨W1, hW1⟩ : ∃ W1, W.alloc (.cells zcells.toArray 66) = W1 := ⟨_, rfl⟩
  rw [hW1] at H0 HW1 ⊢
  clear hW1
  go_loopw [11] (fun iv wr => ∃ (i : Nat), i ≤ n ∧ iv = .int .i64 (i : Int) ∧ Hid (RunAt W1 (W.heap.size + 1) (play zs so i) wr)) (fun iv _ => n - (intOf iv).toNat)
  case atStart => exact ⟨0, Nat.zero_le _, rfl, H0⟩
  case round =>
    obtain ⟨i, hin, rfl, HX⟩ := hrel
    clear H0
    obtain ⟨wo, rfl⟩ : ∃ wo, wo = wr := ⟨_, rfl⟩
    have hbW : Hid (Below W.heap.size W wo) := Go.Lib.hid (by
      obtain ⟨_, _, _, _, _, _, _, _, _, _, _, _, hB⟩ := HX.out
      exact HW1.out.2.2.trans (hB.mono (by rw [HW1.out.1]; omega)))
    by_cases hlt : i < n
    · have hck := (hbW.out.cell (p := ⟨b, o + i, none⟩) hbl).trans (HC.out i (by have := HL.out.1; omega))
      have hck2 := (hbW.out.cell (p := ⟨b2, o2 + i, none⟩) hbl2).trans (HC2.out i (by have := HL.out.1; have := HL.out.2.2.1; omega))
      obtain ⟨s, hs, hso⟩ := HL.out.2.2.at (i := i) (by have := HL.out.1; omega)
      obtain ⟨x, hx⟩ : ∃ x, zs.getD i 0 = x := ⟨_, rfl⟩
      rw [hx] at hck
      rw [hso] at hck2
      obtain ⟨hI, _⟩ := inv_play HL.out.2.1 HL.out.2.2 i (by have := HL.out.1; omega)
      have hlen7 : ((play zs so i).st.getD s []).length < 7 := by
        rw [hI.st s hs]
        have := onS_len zs so s i (play zs so i).c
        omega
      have CP := Go.Lib.hid (push_any W1 (W.heap.size + 1) (play zs so i) wo HX.out s hs x hlen7 (by have := hI.mvl; have := hI.cle; have := HL.out.1; omega))
      have hI2 := inv_push HL.out.2.1 (by have := HL.out.1; omega) hs hso hI
      rw [hx] at hI2
      have CQ := Go.Lib.hid (fun (w : World) (hw : RunAt W1 (W.heap.size + 1) (pushP (play zs so i) s x) w) => pop_any zs so HL.out.2.1 (i + 1) (by have := HL.out.1; omega) W1 (W.heap.size + 1) (pushP (play zs so i) s x) hI2 w hw)
      have HE : Hid (popAll zs.length (pushP (play zs so i) s x) = play zs so (i + 1)) := Go.Lib.hid (by
        show _ = popAll zs.length (pushP (play zs so i) (so.getD i 0).toNat (zs.getD i 0))
        rw [hso, hx, Int.toNat_natCast])
      have hlti : (i : Int) < (n : Int) := by omega
      clear hI hI2 hlen7 hx hso
      go_wp2_with fail
      refine (CP.out).mono ?_
      rintro e w2 ⟨rfl, hr2⟩
      have HR2 := Go.Lib.hid hr2
      clear hr2 CP
      go_wp2_with fail
      refine (CQ.out _ HR2.out).mono ?_
      rintro e w3 ⟨rfl, hr3⟩
      rw [HE.out] at hr3
      have HR3 := Go.Lib.hid hr3
      clear hr3 CQ
      go_wp2_with fail
      go_roundw
      case rel => exact ⟨i + 1, by omega, by go_num, HR3⟩
      case measure => simp [intOf]; omega
    · have hni : i = n := by omega
      subst hni
      obtain ⟨F, am, ao, cm, co, hF, hS, hP, hst, hm, hbm, hbo, hB⟩ := HX.out
      have hD : (deps (play zs so i)).length = 4 := by rw [deps_len, hS]
      obtain ⟨C, hC⟩ : ∃ C, cellsR F (deps (play zs so i)) (play zs so i).dp (.slice am (play zs so i).mv.length cm) (.slice ao (play zs so i).c co) = C := ⟨_, rfl⟩
      have hC1 : C.toArray.all (·.oneCell') = true := by rw [← hC]; exact oneRun
      have hCs : C.toArray.size = 38 := by rw [← hC]; unfold cellsR; simp [hF, hD, hP]
      rw [hC] at hm
      have HS : Hid (St W1 (W.heap.size + 1) C (.slice am (play zs so i).mv.length cm) (play zs so i).mv.length (play zs so i).mv (.slice ao (play zs so i).c co) (play zs so i).c (iota (play zs so i).c) wo) := Go.Lib.hid ⟨hm, hbm, hbo, hB⟩
      have hblk := stBlock HS.out
      have hres : wo.heap[W.heap.size]? = some (.cells zcells.toArray 66 (0, 0)) := by
        rw [HS.out.2.2.2.block W.heap.size (by rw [HW1.out.1]; omega)]; exact HW1.out.2.1
      have hIC := sizeRun C.toArray hCs
      have HF := Go.Lib.hid (And.intro hF hC)
      clear hm hbm hbo hB hst hS hP hF hC hD
      go_wp2_with (first
        | (refine wpList_load_row rfl _ _ rfl (W.heap.size + 1) rfl 66 C.toArray (0, 0) _ hblk Try.underlying66 rfl hIC ?_)
        | (refine wpList_store_row rfl _ _ _ rfl W.heap.size C.toArray rfl rfl 66 zcells.toArray hres hIC (by rw [hCs]; rfl) hC1 ?_))
      refine bodyPost_ret (v := .agg C.toArray) (results_cell_row rfl _ _ W.heap.size 66 C.toArray (0, 0) _ rfl (setRow_heap _ _ _ _ _ _ hres) Try.underlying66 rfl hIC) rfl ?_
      have hg := setRow_grown wo W.heap.size C.toArray
      have hWle : W.heap.size ≤ W1.heap.size := by rw [HW1.out.1]; omega
      have hB := HW1.out.2.2.trans (HS.out.2.2.2.mono hWle)
      refine ⟨F, am, ao, cm, co, HF.out.1, by rw [HF.out.2], own_lower2 (own_mark HS.out.2.1 hg (fun q hq e => ?_)) hWle, own_lower2 (own_mark HS.out.2.2.1 hg (fun q hq e => ?_)) hWle, hB.grown hg hB.size (fun q hq => by cases hq; exact Nat.le_refl _)⟩
      · cases e
        have := (HS.out.2.1.lt _ hq).1
        rw [HW1.out.1] at this; omega
      · cases e
        have := (HS.out.2.2.1.lt _ hq).1
        rw [HW1.out.1] at this; omega

end Go.Proofs.Ytekihdnkkeggjaa.RunBC

/-
  The fields of what a run leaves behind, and whether four numbers are all nought. Conditions: none.
-/
namespace Go.Proofs.Ytekihdnkkeggjaa.RunFC
open Go.RowKit SeesC IntsC ExactC OrdMath BesM PlayM ListsC RunPC RunBC BigC
set_option linter.unusedVariables false
set_option linter.unusedSimpArgs false

theorem fldAgg1 (cs : Array Value) (w : World) : (Instr.field 66 (.agg cs) 1).run Try.prog w = .ok (.agg (cs.extract 28 32)) w := by kernel_rfl
theorem fldAgg2 (cs : Array Value) (w : World) : (Instr.field 66 (.agg cs) 2).run Try.prog w = .ok (.agg (cs.extract 32 36)) w := by kernel_rfl
theorem fld3 (cs : Array Value) (w : World) : (Instr.field 66 (.agg cs) 3).run Try.prog w = (part 22 cs 36).run Try.prog w := by kernel_rfl
theorem fld4 (cs : Array Value) (w : World) : (Instr.field 66 (.agg cs) 4).run Try.prog w = (part 24 cs 37).run Try.prog w := by kernel_rfl

section
variable {F D P : List Int} {mv ov : Value}

theorem runMoves (hF : F.length = 28) (hD : D.length = 4) (hP : P.length = 4) (w : World) : (Instr.field 66 (.agg (cellsR F D P mv ov).toArray) 3).run Try.prog w = .ok mv w := by
  rw [fld3]
  have h : (cellsR F D P mv ov).toArray[36]? = some mv := by rw [List.getElem?_toArray]; exact cells_mv hF hD hP
  simp [part, isAgg, run_underlying Try.underlying22, h]

theorem runOut (hF : F.length = 28) (hD : D.length = 4) (hP : P.length = 4) (w : World) : (Instr.field 66 (.agg (cellsR F D P mv ov).toArray) 4).run Try.prog w = .ok ov w := by
  rw [fld4]
  have h : (cellsR F D P mv ov).toArray[37]? = some ov := by rw [List.getElem?_toArray]; exact cells_ov hF hD hP
  simp [part, isAgg, run_underlying Try.underlying24, h]

theorem runDepths (hF : F.length = 28) (hD : D.length = 4) (w : World) : (Instr.field 66 (.agg (cellsR F D P mv ov).toArray) 1).run Try.prog w = .ok (.agg (vals D).toArray) w := by
  rw [fldAgg1]
  have h : (cellsR F D P mv ov).toArray.extract 28 32 = (vals D).toArray := by
    unfold cellsR
    simp [hF, hD]
  rw [h]

theorem runMost (hF : F.length = 28) (hD : D.length = 4) (hP : P.length = 4) (w : World) : (Instr.field 66 (.agg (cellsR F D P mv ov).toArray) 2).run Try.prog w = .ok (.agg (vals P).toArray) w := by
  rw [fldAgg2]
  have h : (cellsR F D P mv ov).toArray.extract 32 36 = (vals P).toArray := by
    unfold cellsR
    have e : vals F ++ (vals D ++ (vals P ++ [mv, ov])) = (vals F ++ vals D) ++ (vals P ++ [mv, ov]) := by simp
    have e2 : (vals F ++ vals D).length = 32 := by simp [hF, hD]
    have e3 : (vals P).length = 4 := by simp [hP]
    have e4 : List.take 4 (List.drop 32 (vals F ++ (vals D ++ (vals P ++ [mv, ov])))) = vals P := by
      rw [e, List.drop_left' e2, List.take_left' e3]
    simpa using e4
  rw [h]
end

theorem eqA4 (a b c d x y z u : Int) (W : World) : (Op.equalIn 10000 33 (.agg #[.int .i64 a, .int .i64 b, .int .i64 c, .int .i64 d]) (.agg #[.int .i64 x, .int .i64 y, .int .i64 z, .int .i64 u])).run Try.prog W = .ok (decide (a = x ∧ b = y ∧ c = z ∧ d = u)) W := by
  have hp : Try.prog.plainKey 3 = true := by kernel_rfl
  have hc : Try.prog.cellsOf 3 = 1 := by kernel_rfl
  obtain ⟨i, hi⟩ : ∃ i, Try.prog.info? 3 = some i := info_of_underlying Try.underlying3
  have p0 := fun (a b c d : Int) => run_part_plain (P := Try.prog) (w := W) hp (xs := #[.int .i64 a, .int .i64 b, .int .i64 c, .int .i64 d]) (off := 0) (v := .int .i64 a) rfl
  have p1 := fun (a b c d : Int) => run_part_plain (P := Try.prog) (w := W) hp (xs := #[.int .i64 a, .int .i64 b, .int .i64 c, .int .i64 d]) (off := 1) (v := .int .i64 b) rfl
  have p2 := fun (a b c d : Int) => run_part_plain (P := Try.prog) (w := W) hp (xs := #[.int .i64 a, .int .i64 b, .int .i64 c, .int .i64 d]) (off := 2) (v := .int .i64 c) rfl
  have p3 := fun (a b c d : Int) => run_part_plain (P := Try.prog) (w := W) hp (xs := #[.int .i64 a, .int .i64 b, .int .i64 c, .int .i64 d]) (off := 3) (v := .int .i64 d) rfl
  have e0 := fun (x y : Int) => run_equalIn_int (P := Try.prog) (w := W) 9998 3 .i64 .i64 x y Try.underlying3
  have h := run_equalIn_array (P := Try.prog) W 9999 (#[.int .i64 a, .int .i64 b, .int .i64 c, .int .i64 d]) (#[.int .i64 x, .int .i64 y, .int .i64 z, .int .i64 u]) Try.underlying33 hi
  rw [hc] at h
  refine h.trans ?_
  show (Op.eqItems 9999 3 1 _ _ [0, 1, 2, 3]).run _ _ = _
  simp only [Op.eqItems, Nat.mul_one, Sem.run_bind, p0, p1, p2, p3, e0, Result.andThen_ok]
  by_cases h1 : a = x
  · by_cases h2 : b = y
    · by_cases h3 : c = z
      · by_cases h4 : d = u <;> simp [h1, h2, h3, h4, Sem.run_bind, p0, p1, p2, p3, e0, Result.andThen_ok, Sem.run_pure]
      · simp [h1, h2, h3, Sem.run_bind, p0, p1, p2, p3, e0, Result.andThen_ok, Sem.run_pure]
    · simp [h1, h2, Sem.run_bind, p0, p1, p2, p3, e0, Result.andThen_ok, Sem.run_pure]
  · simp [h1, Sem.run_pure]

theorem four {D : List Int} (h : D.length = 4) : vals D = [.int .i64 (D.getD 0 0), .int .i64 (D.getD 1 0), .int .i64 (D.getD 2 0), .int .i64 (D.getD 3 0)] := by
  match D, h with
  | [a, b, c, d], _ => rfl

end Go.Proofs.Ytekihdnkkeggjaa.RunFC

/-
  Contract: FitsSharing of the model and of the program. Conditions: lists of at most 2^20 numbers.
-/
namespace Go.Proofs.Ytekihdnkkeggjaa.FitsPubC
open Go.RowKit SeesC IntsC ExactC OrdMath BesM PlayM SharC FitsC IterC RunPC RunBC RunFC BigC 
set_option linter.unusedVariables false

theorem deps_zero {p : Pl} (h : p.st.length = 4) : (∀ s, s < 4 → (p.st.getD s []).length = 0) ↔ ((deps p).getD 0 0 = 0 ∧ (deps p).getD 1 0 = 0 ∧ (deps p).getD 2 0 = 0 ∧ (deps p).getD 3 0 = 0) := by
  rw [deps_at h (by omega), deps_at h (by omega), deps_at h (by omega), deps_at h (by omega)]
  constructor
  · intro hs
    have h0 := hs 0 (by omega); have h1 := hs 1 (by omega); have h2 := hs 2 (by omega); have h3 := hs 3 (by omega)
    omega
  · rintro ⟨h0, h1, h2, h3⟩ s hs
    have : s = 0 ∨ s = 1 ∨ s = 2 ∨ s = 3 := by omega
    rcases this with rfl | rfl | rfl | rfl <;> omega

theorem builtFour : Try.prog.built 33 [] = some #[.int .i64 0, .int .i64 0, .int .i64 0, .int .i64 0] := by kernel_rfl

set_option maxRecDepth 100000 in
set_option maxHeartbeats 4000000 in
theorem specFits (zs so : List Int) (r0 b : Bool) (h : fitsAns zs so = (r0, b)) (hz : zs.length ≤ 1048576) (hs : so.length ≤ 1048576) (W : World) (v : Value) (n : Nat) (hv : Sees W v n (vals zs)) (u : Value) (m : Nat) (hu : Sees W u m (vals so)) :
    Calls Try.prog 20 #[v, u] W fun e w' => e = .returned (.tuple #[.bool r0, .bool b]) ∧ Below W.heap.size W w' := by
  have hl : zs.length = n := by simpa using hv.1
  have hl2 : so.length = m := by simpa using hu.1
  obtain ⟨r, hr⟩ : ∃ r, isShB zs so = r := ⟨_, rfl⟩
  have CS := Go.Lib.hid (l7Sharing_any zs so r hr hz hs W v n hv u m hu)
  have HV := Go.Lib.hid hv
  have HU := Go.Lib.hid hu
  unfold fitsAns at h
  rw [hr] at h
  obtain ⟨_, ad, cap, rfl, _, _⟩ := hv
  obtain ⟨_, ad', cap', rfl, _, _⟩ := hu
  cases r with
  | false =>
    rw [if_neg (by simp)] at h
    cases h
    clear hr
    go_enter Try.func20, Try.ntmps20
    go_wp2_with fail
    refine (CS.out).mono ?_
    rintro e w1 ⟨rfl, hd⟩
    have HB1 : Hid (Below W.heap.size W w1) := Go.Lib.hid (hd.below _)
    clear hd
    go_wp2_with fail
    go_ret2
    exact ⟨rfl, HB1.out⟩

  | true =>
    rw [if_pos rfl] at h
    cases h
    obtain ⟨ho, hsh⟩ := isSh_iff.1 hr
    have hmn : m = n := by rw [← hl, ← hl2, hsh.1]
    subst hmn
    clear hr
    obtain ⟨q, hq⟩ : ∃ q, fitsB zs so = q := ⟨_, rfl⟩
    rw [hq]
    have CF := Go.Lib.hid (fun W' (hb : Below W.heap.size W W') => l7Fits_any zs so q hq W' (.slice ad m cap) m (HV.out.grow hb) (.slice ad' m cap') m (HU.out.grow hb) (Nat.le_refl _) (by omega))
    clear hq
    go_enter Try.func20, Try.ntmps20
    go_wp2_with fail
    refine (CS.out).mono ?_
    rintro e w1 ⟨rfl, hd⟩
    have HB1 : Hid (Below W.heap.size W w1) := Go.Lib.hid (hd.below _)
    clear hd CS
    go_wp2_with fail
    refine (CF.out _ HB1.out).mono ?_
    rintro e w2 ⟨rfl, hd⟩
    have HB2 : Hid (Below W.heap.size W w2) := Go.Lib.hid (HB1.out.trans ((hd.below _).mono HB1.out.size))
    clear hd CF
    go_wp2_with fail
    go_ret2
    exact ⟨rfl, HB2.out⟩

set_option maxRecDepth 100000 in
set_option maxHeartbeats 4000000 in
theorem implFits (zs so : List Int) (r0 b : Bool) (h : fitsAns zs so = (r0, b)) (hz : zs.length ≤ 1048576) (hs : so.length ≤ 1048576) (W : World) (v : Value) (n : Nat) (hv : Sees W v n (vals zs)) (u : Value) (m : Nat) (hu : Sees W u m (vals so)) :
    Calls Try.prog 19 #[v, u] W fun e w' => e = .returned (.tuple #[.bool r0, .bool b]) ∧ Below W.heap.size W w' := by
  have hl : zs.length = n := by simpa using hv.1
  have hl2 : so.length = m := by simpa using hu.1
  obtain ⟨r, hr⟩ : ∃ r, isShB zs so = r := ⟨_, rfl⟩
  have CS := Go.Lib.hid (implIsSharing zs so r hr hz hs W v n hv u m hu)
  have HV := Go.Lib.hid hv
  have HU := Go.Lib.hid hu
  unfold fitsAns at h
  rw [hr] at h
  obtain ⟨_, ad, cap, rfl, _, _⟩ := hv
  obtain ⟨_, ad', cap', rfl, _, _⟩ := hu
  cases r with
  | false =>
    rw [if_neg (by simp)] at h
    cases h
    clear hr
    go_enter Try.func19, Try.ntmps19
    go_wp2_with fail
    refine (CS.out).mono ?_
    rintro e w1 ⟨rfl, hd⟩
    have HB1 : Hid (Below W.heap.size W w1) := Go.Lib.hid hd
    clear hd
    go_wp2_with fail
    go_ret2
    exact ⟨rfl, HB1.out⟩

  | true =>
    rw [if_pos rfl] at h
    cases h
    obtain ⟨ho, hsh⟩ := isSh_iff.1 hr
    have hmn : m = n := by rw [← hl, ← hl2, hsh.1]
    subst hmn
    clear hr
    have CQ := Go.Lib.hid (fun W' (hb : Below W.heap.size W W') => run_any zs so ho hsh W' (.slice ad m cap) m (HV.out.grow hb) (.slice ad' m cap') (HU.out.grow hb))
    obtain ⟨hI, _⟩ := inv_play ho hsh m (by omega)
    have hS := hI.len
    have hP := hI.dlen
    have hD : (deps (play zs so m)).length = 4 := by rw [deps_len, hS]
    have hfe := fits_empty ho hsh
    rw [hl, deps_zero hS] at hfe
    have HFE : Hid (decide ((deps (play zs so m)).getD 0 0 = 0 ∧ (deps (play zs so m)).getD 1 0 = 0 ∧ (deps (play zs so m)).getD 2 0 = 0 ∧ (deps (play zs so m)).getD 3 0 = 0) = fitsB zs so) := Go.Lib.hid (by
      unfold fitsB
      exact decide_eq_decide.2 hfe.symm)
    obtain ⟨D, hDD⟩ : ∃ D, deps (play zs so m) = D := ⟨_, rfl⟩
    obtain ⟨q, hq⟩ : ∃ q, fitsB zs so = q := ⟨_, rfl⟩
    rw [hDD] at HFE hD
    rw [hq] at HFE ⊢
    have HDD := Go.Lib.hid hDD
    clear hfe hDD hq hI hS
    obtain ⟨d0, hd0⟩ : ∃ x, D.getD 0 0 = x := ⟨_, rfl⟩
    obtain ⟨d1, hd1⟩ : ∃ x, D.getD 1 0 = x := ⟨_, rfl⟩
    obtain ⟨d2, hd2⟩ : ∃ x, D.getD 2 0 = x := ⟨_, rfl⟩
    obtain ⟨d3, hd3⟩ : ∃ x, D.getD 3 0 = x := ⟨_, rfl⟩
    have hv4 := four hD
    rw [hd0, hd1, hd2, hd3] at hv4 HFE
    have HD := Go.Lib.hid (And.intro hD hv4)
    have ev := fun (w : World) => eqA4 d0 d1 d2 d3 0 0 0 0 w
    rw [HFE.out] at ev
    clear hD hv4 hd0 hd1 hd2 hd3
    go_enter Try.func19, Try.ntmps19
    go_wp2_with fail
    refine (CS.out).mono ?_
    rintro e w1 ⟨rfl, hd⟩
    have HB1 : Hid (Below W.heap.size W w1) := Go.Lib.hid hd
    clear hd CS
    go_wp2_with fail
    refine (CQ.out _ HB1.out).mono ?_
    rintro e w2 ⟨F, am, ao, cm, co, hF, rfl, hbm, hbo, hB⟩
    rw [HDD.out]
    have fld := fun (w : World) => runDepths (F := F) (P := (play zs so m).dp) (mv := .slice am (play zs so m).mv.length cm) (ov := .slice ao (play zs so m).c co) hF HD.out.1 w
    rw [HD.out.2] at fld
    have HB2 : Hid (Below W.heap.size W w2) := Go.Lib.hid (HB1.out.trans (hB.mono HB1.out.size))
    clear hB hbm hbo hF
    generalize (cellsR F D (play zs so m).dp (.slice am (play zs so m).mv.length cm) (.slice ao (play zs so m).c co)).toArray = C at fld ⊢
    go_wp2_with (first | (refine wpList_build_is rfl _ rfl #[.int .i64 0, .int .i64 0, .int .i64 0, .int .i64 0] builtFour ?_))
    go_ret2
    exact ⟨rfl, HB2.out⟩

end Go.Proofs.Ytekihdnkkeggjaa.FitsPubC

namespace Go.Proofs.Ytekihdnkkeggjaa.fnExactFitsSharing
open Go.ChangeShapes Go.WideShapes Go.ChangeAt Go.RowKit SeesC OpenC
open Go.ChangeMaps (open_string shut_string)
open IntsC ExactC OrdMath BesM FitsPubC
set_option linter.unusedVariables false

theorem own : ownKnob Try.prog.godebug = none := by kernel_rfl
theorem laidOut : laidOutB Try.prog = true := by kernel_rfl

/-! ### The walk -/
set_option maxHeartbeats 2000000 in
theorem walk (v0 : Value) (n0 : Nat) (a0 : List Int) (v1 : Value) (n1 : Nat) (a1 : List Int) (w : World) (s0 : Sees w v0 n0 (a0.map (Value.int .i64))) (t0 : n0 ≤ maxLen) (w0 : ∀ z ∈ a0, (Lit.int .i64 z).wf = true) (s1 : Sees w v1 n1 (a1.map (Value.int .i64))) (t1 : n1 ≤ maxLen) (w1 : ∀ z ∈ a1, (Lit.int .i64 z).wf = true) :
    Calls Try.prog 7 #[v0, v1] w fun e w' => e = .returned (.bool true) ∧ Below w.heap.size w w' := by
  have hl0 : a0.length = n0 := by simpa using s0.1
  have hl1 : a1.length = n1 := by simpa using s1.1
  have hvlt := fun (z : World) => Nat.le_refl z.heap.size
  have hsee0 := Go.Lib.hid s0
  have hsee1 := Go.Lib.hid s1
  by_cases big0 : (1048576 : Int) < (n0 : Int)
  · clear hvlt
    obtain ⟨_, adr0, cap0, rfl, _, _⟩ := s0
    obtain ⟨_, adr1, cap1, rfl, _, _⟩ := s1
    unfold maxLen at t0 t1
    go_enter Try.func7, Try.ntmps7
    go_wp2
    go_ret
    exact ⟨rfl, Below.refl _ _⟩
  by_cases big1 : (1048576 : Int) < (n1 : Int)
  · clear hvlt
    obtain ⟨_, adr0, cap0, rfl, _, _⟩ := s0
    obtain ⟨_, adr1, cap1, rfl, _, _⟩ := s1
    unfold maxLen at t0 t1
    go_enter Try.func7, Try.ntmps7
    go_wp2
    go_ret
    exact ⟨rfl, Below.refl _ _⟩
  have bels : Hid (Below w.heap.size w w) := Go.Lib.hid (Below.refl _ _)
  obtain ⟨⟨r, b⟩, hans⟩ : ∃ p, fitsAns a0 a1 = p := ⟨_, rfl⟩
  have hb0 : n0 ≤ 1048576 := by omega
  have hb1 : n1 ≤ 1048576 := by omega
  have C1 := Go.Lib.hid (specFits a0 a1 r b hans (hl0 ▸ hb0) (hl1 ▸ hb1))
  have C2 := Go.Lib.hid (implFits a0 a1 r b hans (hl0 ▸ hb0) (hl1 ▸ hb1))
  clear hans
  have hlt0 : 0 < n0 → ∀ q, v0.ownBlock = some q → q < w.heap.size := fun h q hq => s0.lt h q hq
  have HLT0 := Go.Lib.hid hlt0
  clear hlt0
  have hlt1 : 0 < n1 → ∀ q, v1.ownBlock = some q → q < w.heap.size := fun h q hq => s1.lt h q hq
  have HLT1 := Go.Lib.hid hlt1
  clear hlt1
  obtain ⟨_, adr0, cap0, rfl, _, _⟩ := s0
  obtain ⟨_, adr1, cap1, rfl, _, _⟩ := s1
  unfold maxLen at t0 t1
  clear hvlt
  go_enter Try.func7, Try.ntmps7
  go_wp2_with fail
  refine (toIntS_any _ _ n0 a0 (hsee0.out) hb0).mono ?_
  rintro e W1 ⟨g1, rfl, o1, b1⟩
  have ZW1 := Go.Lib.hid (Below.size (b1))
  have Rs0 := Go.Lib.hid (fun q hq => World.ownsRow.lt (o1) q hq)
  have HW1 := Go.Lib.hid (And.intro (Below.trans (bels.out) ((b1).mono (Below.size (bels.out)))) (And.intro (Sees.grow (hsee0.out) b1) (And.intro (Sees.grow (hsee1.out) b1) (o1))))
  clear o1 b1
  go_wp2_with fail
  refine (toIntS_any _ _ n1 a1 (HW1.out.2.2.1) hb1).mono ?_
  rintro e W2 ⟨g2, rfl, o2, b2⟩
  have ZW2 := Go.Lib.hid (Below.size (b2))
  have Rs1 := Go.Lib.hid (fun q hq => World.ownsRow.lt (o2) q hq)
  have HW2 := Go.Lib.hid (And.intro (Below.trans (HW1.out.1) ((b2).mono (Below.size (HW1.out.1)))) (And.intro (Sees.grow (HW1.out.2.1) b2) (And.intro (Sees.grow (HW1.out.2.2.1) b2) (And.intro (kept_call (HW1.out.2.2.2) b2) (o2)))))
  clear o2 b2
  go_wp2_with fail
  refine (C1.out _ _ _ (Sees.owns (HW2.out.2.2.2.1)) _ _ (Sees.owns (HW2.out.2.2.2.2))).mono ?_
  rintro e W3 ⟨rfl, b3⟩
  have ZW3 := Go.Lib.hid (Below.size (b3))
  have HW3 := Go.Lib.hid (And.intro (Below.trans (HW2.out.1) ((b3).mono (Below.size (HW2.out.1)))) (And.intro (Sees.grow (HW2.out.2.1) b3) (And.intro (Sees.grow (HW2.out.2.2.1) b3) (And.intro (kept_call (HW2.out.2.2.2.1) b3) (kept_call (HW2.out.2.2.2.2) b3)))))
  clear b3
  go_wp2_with fail
  refine (toIntS_any _ _ n0 a0 (HW3.out.2.1) hb0).mono ?_
  rintro e W4 ⟨g4, rfl, o4, b4⟩
  have ZW4 := Go.Lib.hid (Below.size (b4))
  have Rx0 := Go.Lib.hid (fun q hq => World.ownsRow.lt (o4) q hq)
  have HW4 := Go.Lib.hid (And.intro (Below.trans (HW3.out.1) ((b4).mono (Below.size (HW3.out.1)))) (And.intro (Sees.grow (HW3.out.2.1) b4) (And.intro (Sees.grow (HW3.out.2.2.1) b4) (o4))))
  clear o4 b4
  go_wp2_with fail
  refine (toIntS_any _ _ n1 a1 (HW4.out.2.2.1) hb1).mono ?_
  rintro e W5 ⟨g5, rfl, o5, b5⟩
  have ZW5 := Go.Lib.hid (Below.size (b5))
  have Rx1 := Go.Lib.hid (fun q hq => World.ownsRow.lt (o5) q hq)
  have HW5 := Go.Lib.hid (And.intro (Below.trans (HW4.out.1) ((b5).mono (Below.size (HW4.out.1)))) (And.intro (Sees.grow (HW4.out.2.1) b5) (And.intro (Sees.grow (HW4.out.2.2.1) b5) (And.intro (kept_call (HW4.out.2.2.2) b5) (o5)))))
  clear o5 b5
  go_wp2_with fail
  refine (C2.out _ _ _ (Sees.owns (HW5.out.2.2.2.1)) _ _ (Sees.owns (HW5.out.2.2.2.2))).mono ?_
  rintro e W6 ⟨rfl, b6⟩
  have ZW6 := Go.Lib.hid (Below.size (b6))
  have HW6 := Go.Lib.hid (And.intro (Below.trans (HW5.out.1) ((b6).mono (Below.size (HW5.out.1)))) (And.intro (Sees.grow (HW5.out.2.1) b6) (And.intro (Sees.grow (HW5.out.2.2.1) b6) (And.intro (kept_call (HW5.out.2.2.2.1) b6) (kept_call (HW5.out.2.2.2.2) b6)))))
  clear b6
  go_wp2_with fail
  refine (toIntS_any _ _ n0 a0 (HW6.out.2.1) hb0).mono ?_
  rintro e W7 ⟨g7, rfl, o7, b7⟩
  have ZW7 := Go.Lib.hid (Below.size (b7))
  have Ry0 := Go.Lib.hid (fun q hq => World.ownsRow.lt (o7) q hq)
  have HW7 := Go.Lib.hid (And.intro (Below.trans (HW6.out.1) ((b7).mono (Below.size (HW6.out.1)))) (And.intro (Sees.grow (HW6.out.2.1) b7) (And.intro (Sees.grow (HW6.out.2.2.1) b7) (And.intro (kept_call (HW6.out.2.2.2.1) b7) (And.intro (kept_call (HW6.out.2.2.2.2) b7) (o7))))))
  clear o7 b7
  go_wp2_with fail
  refine (eqIntS_same _ _ _ n0 a0 (Sees.owns (HW7.out.2.2.2.1)) (Sees.owns (HW7.out.2.2.2.2.2)) (by unfold maxLen; omega)).mono ?_
  rintro e W8 ⟨rfl, d8⟩
  have ZW8 := Go.Lib.hid (Below.size ((d8.below W7.heap.size)))
  have HW8 := Go.Lib.hid (And.intro (Below.trans (HW7.out.1) (((d8.below W7.heap.size)).mono (Below.size (HW7.out.1)))) (And.intro (Sees.grow (HW7.out.2.1) (d8.below W7.heap.size)) (And.intro (Sees.grow (HW7.out.2.2.1) (d8.below W7.heap.size)) (And.intro (kept_call (HW7.out.2.2.2.1) (d8.below W7.heap.size)) (And.intro (kept_call (HW7.out.2.2.2.2.1) (d8.below W7.heap.size)) (kept_call (HW7.out.2.2.2.2.2) (d8.below W7.heap.size)))))))
  clear d8
  go_wp2_with fail
  refine (toIntS_any _ _ n1 a1 (HW8.out.2.2.1) hb1).mono ?_
  rintro e W9 ⟨g9, rfl, o9, b9⟩
  have ZW9 := Go.Lib.hid (Below.size (b9))
  have Ry1 := Go.Lib.hid (fun q hq => World.ownsRow.lt (o9) q hq)
  have HW9 := Go.Lib.hid (And.intro (Below.trans (HW8.out.1) ((b9).mono (Below.size (HW8.out.1)))) (And.intro (Sees.grow (HW8.out.2.1) b9) (And.intro (Sees.grow (HW8.out.2.2.1) b9) (And.intro (kept_call (HW8.out.2.2.2.1) b9) (And.intro (kept_call (HW8.out.2.2.2.2.1) b9) (o9))))))
  clear o9 b9
  go_wp2_with fail
  refine (eqIntS_same _ _ _ n1 a1 (Sees.owns (HW9.out.2.2.2.2.1)) (Sees.owns (HW9.out.2.2.2.2.2)) (by unfold maxLen; omega)).mono ?_
  rintro e W10 ⟨rfl, d10⟩
  have ZW10 := Go.Lib.hid (Below.size ((d10.below W9.heap.size)))
  have HW10 := Go.Lib.hid (And.intro (Below.trans (HW9.out.1) (((d10.below W9.heap.size)).mono (Below.size (HW9.out.1)))) (And.intro (Sees.grow (HW9.out.2.1) (d10.below W9.heap.size)) (And.intro (Sees.grow (HW9.out.2.2.1) (d10.below W9.heap.size)) (And.intro (kept_call (HW9.out.2.2.2.1) (d10.below W9.heap.size)) (And.intro (kept_call (HW9.out.2.2.2.2.1) (d10.below W9.heap.size)) (kept_call (HW9.out.2.2.2.2.2) (d10.below W9.heap.size)))))))
  clear d10
  go_wp2_with fail
  go_ret
  exact ⟨rfl, HW10.out.1⟩

/-! ### From the walk to the row -/
set_option maxRecDepth 100000 in
theorem lifted (os : Os) (started : os.Started) (H : Type) (enc : TypeId × Value → H) :
    ReturnsInHanded {} Try.checked os 7 .any (Rows.fnExactFitsSharingSpec.pre6 enc Try.prog Try.f7 Rows.fnExactFitsSharingRow.domain false) (Rows.fnExactFitsSharingSpec.post enc Try.prog Try.f7 false true false false) := by
  refine returnsInHanded_of_change (C := Try.checked) own started (by kernel_rfl) Try.func7
    (ChangeSpec.witness6 (enc := enc) (C := Try.checked) false ⟨#[], #[.slice none 0 0, .slice none 0 0], []⟩ 8 (by kernel_rfl) (by kernel_rfl) (by kernel_rfl) (by kernel_rfl)) ?_
  intro W base args ds gs before hval0 hW hcnd _
  have hval : ∀ (j : Nat) t v, Try.f7.params[j]? = some t → args[j]? = some v → Value.okWide Try.prog W .any base t v := hval0
  have hW' := hW
  obtain ⟨p, q, hA0, hV, rfl, hfz, hnd⟩ := hW
  have hA : DataW.TrodAll enc Try.prog W 0 (fun _ => true) true Try.f7.params.toList args.toList ds p := hA0
  rw [Try.params7] at hA hval
  obtain ⟨u0, vs0, d0, ds0, p0, q0, hargs, rfl, rfl, h0, r0⟩ := trodAll_cons hA
  obtain ⟨u1, vs1, d1, ds1, p1, q1, rfl, rfl, rfl, h1, r1⟩ := trodAll_cons r0
  obtain ⟨rfl, rfl, rfl⟩ := trodAll_nil r1
  obtain rfl : args = #[u0, u1] := by cases args; simp_all
  obtain ⟨rfl, rfl⟩ := trodVars_none hV
  have lt0 : ∀ x ∈ p0, x.block < W.heap.size := by obtain ⟨m, hm⟩ := h0; exact DataW.trod_lt m _ _ _ hm
  obtain ⟨n0, a0, s0, t0, w0⟩ := sees_ints Try.underlying24 Try.underlying3 (by kernel_rfl) (hval 0 24 u0 rfl rfl) h0
  have lt1 : ∀ x ∈ p1, x.block < W.heap.size := by obtain ⟨m, hm⟩ := h1; exact DataW.trod_lt m _ _ _ hm
  obtain ⟨n1, a1, s1, t1, w1⟩ := sees_ints Try.underlying24 Try.underlying3 (by kernel_rfl) (hval 1 24 u1 rfl rfl) h1
  clear hA0 hval0
  refine (walk u0 n0 a0 u1 n1 a1 W s0 t0 w0 s1 t1 w1).mono fun e W' ⟨he, bel⟩ => ?_
  subst he
  exact ⟨_, rfl, _, _, _, [], _, [], hW', trodAll_mk1 (shut_bool Try.underlying4 _), (trodAll_cons_mk (Below.trod laidOut (by kernel_rfl) (of_decide_eq_true (by kernel_rfl)) h0 bel lt0) (trodAll_cons_mk (Below.trod laidOut (by kernel_rfl) (of_decide_eq_true (by kernel_rfl)) h1 bel lt1) trodAll_mk0)), rfl, bel.frame _, fun h => by cases h⟩

theorem over : Rows.fnExactFitsSharingRow.holds Try.pinned (OpenSpec.ofChange Rows.fnExactFitsSharingSpec) :=
  OpenClaim.holds_of_wide 7 Try.f7 rfl rfl rfl rfl rfl rfl rfl ⟨rfl, rfl, rfl, rfl, rfl⟩ rfl rfl rfl rfl rfl (by kernel_rfl) Try.func7
    (show joinedFacts Try.prog 7 Try.f7 Rows.fnExactFitsSharingSpec Rows.fnExactFitsSharingRow = true by unfold joinedFacts; rw [SeatC.may, SeatC.lif, SeatC.mke]; kernel_rfl)
    (of_decide_eq_true (by kernel_rfl)) (by unfold Func.isWrapper; first | (rw [if_pos (by decide +kernel)]; kernel_rfl) | (rw [if_neg (by decide +kernel)]; exact ⟨rfl, rfl⟩))
    (fun os started H enc _ => lifted os started H enc)

/-- The statement. -/
theorem proved : Rows.FnExactFitsSharingSaid :=
  over
#print axioms proved
end Go.Proofs.Ytekihdnkkeggjaa.fnExactFitsSharing
