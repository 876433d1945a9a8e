/-
  Contracts and plain facts that the law's text leans on, part 1 of 4. Conditions: as each states.
-/
import Derived.Test.YtddenfnoajdjiaaRows
import Derived.WalkKit
import Derived.ProofKit
import Derived.OwnWalk
import Derived.Laws.OwnMore
import Derived.Below
import Derived.Deep.Draws
import Derived.Deep.QuietTactic
import Derived.OpenShut
import Derived.SliceStrings
import Derived.ChangeOld
import Derived.BigQuiet
import Derived.Lib.Hide
import Derived.LoopTactic
import Derived.Outline
import Derived.Lib.QuietBelow
import Derived.Lib.ItoaNum
import Derived.IntWalk
import Derived.Deep.RegionLaw
import Derived.Lib.OthersKept
import Derived.Laws.IdiomStrings
import Derived.Shelf.Small.Bits
import Derived.Shelf.Small.Wraps
import Derived.Shelf.Strconv.Itoa0
import Derived.Shelf.Slices.Reverse
import Derived.Ground.Names2Prog
import Derived.Shelf.Slices.Clone
import Derived.Shelf.Slices.SearchI
import Derived.Shelf.Slices.Cells
import Derived.Ground.SlgnProg
import Derived.Shelf.SlicesE.Clone
import Derived.Ground.SlsfProg
import Derived.Shelf.SlSortCmp.Insertion
import Derived.Shelf.SlSortCmp.SiftDown1
import Derived.Shelf.SlSortCmp.HeapSort1
import Derived.Shelf.SlSortCmp.Insertion1
import Derived.Shelf.SlSortCmp.Median1
import Derived.Shelf.SlSortCmp.Pivot1
import Derived.Shelf.SlSortCmp.ReverseRange1
import Derived.Shelf.SlSortCmp.PartialInsertion1
import Derived.Shelf.SlSortCmp.PartitionEqual1
import Derived.Shelf.SlSortCmp.Partition1
import Derived.Shelf.SlSortCmp.Pdq1
import Derived.Shelf.SlSortCmp.Whole1
import Derived.Test.YtddenfnoajdjiaaProg
import Derived.RangeFuncBox
import Derived.Maps.AppendAt
import Derived.WalkSmall
import Derived.Laws.CopyOwn
import GoSem.Op.String

/-
  How the seat's program may be entered: facts of its heading that every row asks for, each proved once. Conditions: none.
-/
namespace Go.Proofs.Ytddenfnoajdjiaa.SeatC
open Go

def codes : List Nat :=
   [104, 97, 114, 110, 101, 115, 115, 32, 98, 102, 55, 100, 48, 48, 56, 52, 53, 54, 99, 57, 50, 54, 55, 57, 53, 102, 50, 56, 54, 55, 102, 57, 102, 54, 51, 56, 99, 54, 101, 55,
    101, 49, 53, 50, 52, 99, 49, 56, 49, 98, 100, 100, 52, 56, 97, 54, 51, 53, 54, 54, 97, 54, 56, 102, 57, 52, 52, 55, 97, 56, 97, 53, 32, 99, 117, 116, 32, 97, 116, 32,
    108, 111, 111, 112, 46, 101, 120, 97, 109, 112, 108, 101, 47, 103, 48, 49, 50, 56, 54, 47, 108, 97, 119, 115, 46, 70, 110, 79, 110, 101, 83, 116, 97, 99, 107, 32, 108, 111, 111, 112,
    46, 101, 120, 97, 109, 112, 108, 101, 47, 103, 48, 49, 50, 56, 54, 47, 108, 97, 119, 115, 46, 70, 110, 83, 119, 101, 101, 112, 115, 32, 108, 111, 111, 112, 46, 101, 120, 97, 109, 112,
    108, 101, 47, 103, 48, 49, 50, 56, 54, 47, 108, 97, 119, 115, 46, 70, 110, 69, 120, 97, 99, 116, 73, 115, 83, 111, 114, 116, 97, 98, 108, 101, 32, 108, 111, 111, 112, 46, 101, 120,
    97, 109, 112, 108, 101, 47, 103, 48, 49, 50, 56, 54, 47, 108, 97, 119, 115, 46, 70, 110, 69, 120, 97, 99, 116, 83, 111, 114, 116, 105, 110, 103, 87, 111, 114, 100, 32, 108, 111, 111,
    112, 46, 101, 120, 97, 109, 112, 108, 101, 47, 103, 48, 49, 50, 56, 54, 47, 108, 97, 119, 115, 46, 70, 110, 69, 120, 97, 99, 116, 83, 119, 101, 101, 112, 79, 114, 100, 101, 114, 32,
    108, 111, 111, 112, 46, 101, 120, 97, 109, 112, 108, 101, 47, 103, 48, 49, 50, 56, 54, 47, 108, 97, 119, 115, 46, 70, 110, 69, 120, 97, 99, 116, 83, 119, 101, 101, 112, 87, 111, 114,
    100, 32, 108, 111, 111, 112, 46, 101, 120, 97, 109, 112, 108, 101, 47, 103, 48, 49, 50, 56, 54, 47, 108, 97, 119, 115, 46, 70, 110, 69, 120, 97, 99, 116, 67, 111, 117, 110, 116, 83,
    119, 101, 101, 112, 115, 32, 108, 111, 111, 112, 46, 101, 120, 97, 109, 112, 108, 101, 47, 103, 48, 49, 50, 56, 54, 47, 108, 97, 119, 115, 46, 70, 110, 69, 120, 97, 99, 116, 79, 114,
    100, 101, 114, 79, 102, 87, 111, 114, 100, 32, 108, 111, 111, 112, 46, 101, 120, 97, 109, 112, 108, 101, 47, 103, 48, 49, 50, 56, 54, 47, 108, 97, 119, 115, 46, 70, 110, 69, 120, 97,
    99, 116, 82, 97, 110, 107, 79, 102, 87, 111, 114, 100, 32, 108, 111, 111, 112, 46, 101, 120, 97, 109, 112, 108, 101, 47, 103, 48, 49, 50, 56, 54, 47, 108, 97, 119, 115, 46, 70, 110,
    69, 120, 97, 99, 116, 87, 111, 114, 100, 65, 116, 32, 108, 111, 111, 112, 46, 101, 120, 97, 109, 112, 108, 101, 47, 103, 48, 49, 50, 56, 54, 47, 108, 97, 119, 115, 46, 70, 110, 69,
    120, 97, 99, 116, 67, 111, 117, 110, 116, 79, 110, 101, 83, 116, 97, 99, 107, 32, 108, 111, 111, 112, 46, 101, 120, 97, 109, 112, 108, 101, 47, 103, 48, 49, 50, 56, 54, 47, 108, 97,
    119, 115, 46, 70, 110, 69, 120, 97, 99, 116, 66, 97, 100, 84, 114, 105, 112, 108, 101, 32, 108, 111, 111, 112, 46, 101, 120, 97, 109, 112, 108, 101, 47, 103, 48, 49, 50, 56, 54, 47,
    108, 97, 119, 115, 46, 70, 110, 69, 120, 97, 99, 116, 82, 101, 99, 111, 114, 100, 80, 108, 97, 99, 101, 115, 32, 108, 111, 111, 112, 46, 101, 120, 97, 109, 112, 108, 101, 47, 103, 48,
    49, 50, 56, 54, 47, 108, 97, 119, 115, 46, 70, 110, 69, 120, 97, 99, 116, 83, 119, 101, 112, 116, 70, 114, 111, 109, 32, 108, 111, 111, 112, 46, 101, 120, 97, 109, 112, 108, 101, 47,
    103, 48, 49, 50, 56, 54, 47, 108, 97, 119, 115, 46, 70, 110, 69, 120, 97, 99, 116, 66, 108, 111, 99, 107, 115, 79, 102]
def heads : List (List Nat) :=
   [[99, 117, 116],
    [97, 116],
    [108, 111, 111, 112, 46, 101, 120, 97, 109, 112, 108, 101, 47, 103, 48, 49, 50, 56, 54, 47, 108, 97, 119, 115, 46, 70, 110, 79, 110, 101, 83, 116, 97, 99, 107],
    [108, 111, 111, 112, 46, 101, 120, 97, 109, 112, 108, 101, 47, 103, 48, 49, 50, 56, 54, 47, 108, 97, 119, 115, 46, 70, 110, 83, 119, 101, 101, 112, 115],
    [108, 111, 111, 112, 46, 101, 120, 97, 109, 112, 108, 101, 47, 103, 48, 49, 50, 56, 54, 47, 108, 97, 119, 115, 46, 70, 110, 69, 120, 97, 99, 116, 73, 115, 83, 111, 114, 116, 97, 98,
    108, 101],
    [108, 111, 111, 112, 46, 101, 120, 97, 109, 112, 108, 101, 47, 103, 48, 49, 50, 56, 54, 47, 108, 97, 119, 115, 46, 70, 110, 69, 120, 97, 99, 116, 83, 111, 114, 116, 105, 110, 103, 87,
    111, 114, 100],
    [108, 111, 111, 112, 46, 101, 120, 97, 109, 112, 108, 101, 47, 103, 48, 49, 50, 56, 54, 47, 108, 97, 119, 115, 46, 70, 110, 69, 120, 97, 99, 116, 83, 119, 101, 101, 112, 79, 114, 100,
    101, 114],
    [108, 111, 111, 112, 46, 101, 120, 97, 109, 112, 108, 101, 47, 103, 48, 49, 50, 56, 54, 47, 108, 97, 119, 115, 46, 70, 110, 69, 120, 97, 99, 116, 83, 119, 101, 101, 112, 87, 111, 114,
    100],
    [108, 111, 111, 112, 46, 101, 120, 97, 109, 112, 108, 101, 47, 103, 48, 49, 50, 56, 54, 47, 108, 97, 119, 115, 46, 70, 110, 69, 120, 97, 99, 116, 67, 111, 117, 110, 116, 83, 119, 101,
    101, 112, 115],
    [108, 111, 111, 112, 46, 101, 120, 97, 109, 112, 108, 101, 47, 103, 48, 49, 50, 56, 54, 47, 108, 97, 119, 115, 46, 70, 110, 69, 120, 97, 99, 116, 79, 114, 100, 101, 114, 79, 102, 87,
    111, 114, 100],
    [108, 111, 111, 112, 46, 101, 120, 97, 109, 112, 108, 101, 47, 103, 48, 49, 50, 56, 54, 47, 108, 97, 119, 115, 46, 70, 110, 69, 120, 97, 99, 116, 82, 97, 110, 107, 79, 102, 87, 111,
    114, 100],
    [108, 111, 111, 112, 46, 101, 120, 97, 109, 112, 108, 101, 47, 103, 48, 49, 50, 56, 54, 47, 108, 97, 119, 115, 46, 70, 110, 69, 120, 97, 99, 116, 87, 111, 114, 100, 65, 116],
    [108, 111, 111, 112, 46, 101, 120, 97, 109, 112, 108, 101, 47, 103, 48, 49, 50, 56, 54, 47, 108, 97, 119, 115, 46, 70, 110, 69, 120, 97, 99, 116, 67, 111, 117, 110, 116, 79, 110, 101,
    83, 116, 97, 99, 107],
    [108, 111, 111, 112, 46, 101, 120, 97, 109, 112, 108, 101, 47, 103, 48, 49, 50, 56, 54, 47, 108, 97, 119, 115, 46, 70, 110, 69, 120, 97, 99, 116, 66, 97, 100, 84, 114, 105, 112, 108,
    101],
    [108, 111, 111, 112, 46, 101, 120, 97, 109, 112, 108, 101, 47, 103, 48, 49, 50, 56, 54, 47, 108, 97, 119, 115, 46, 70, 110, 69, 120, 97, 99, 116, 82, 101, 99, 111, 114, 100, 80, 108,
    97, 99, 101, 115],
    [108, 111, 111, 112, 46, 101, 120, 97, 109, 112, 108, 101, 47, 103, 48, 49, 50, 56, 54, 47, 108, 97, 119, 115, 46, 70, 110, 69, 120, 97, 99, 116, 83, 119, 101, 112, 116, 70, 114, 111,
    109],
    [108, 111, 111, 112, 46, 101, 120, 97, 109, 112, 108, 101, 47, 103, 48, 49, 50, 56, 54, 47, 108, 97, 119, 115, 46, 70, 110, 69, 120, 97, 99, 116, 66, 108, 111, 99, 107, 115, 79, 102]]
theorem io : Try.prog.initOrder = String.ofList (codes.map Char.ofNat) := by kernel_rfl
theorem iol : Try.prog.initOrder.toList = codes.map Char.ofNat := by rw [io, String.toList_ofList]
theorem hws : behindMainWord (wordsSigns (codes.map Char.ofNat)) = heads.map (fun l => l.map Char.ofNat) := by kernel_rfl

theorem make_cut (P : Program) (rest : List (List Char)) (h : behindMainWord (wordsSigns P.initOrder.toList) = "cut".toList :: rest) : P.make = some .cut := by
  unfold Program.make
  rw [h]
  have e1 : ("cut".toList == "gc".toList) = false := by decide +kernel
  have e2 : ("cut".toList == "spec".toList) = false := by decide +kernel
  have e3 : ("cut".toList == "cut".toList) = true := by decide +kernel
  simp only [e1, e2, e3, Bool.or_false, Bool.false_eq_true, if_false, Bool.true_or, if_true]

theorem strip_cut (rest : List (List Char)) : stripLifts liftWords ("cut".toList :: rest) = ([], "cut".toList :: rest) := by
  have : ∀ ls : List String, (∀ o ∈ ls, ("cut".toList == o.toList) = false) → stripLifts ls ("cut".toList :: rest) = ([], "cut".toList :: rest) := by
    intro ls
    induction ls with
    | nil => intro _; rfl
    | cons o os ih =>
      intro h
      unfold stripLifts
      rw [if_neg (by rw [h o (by simp)]; simp)]
      exact ih (fun o h2 => h o (by simp [h2]))
  exact this _ (by decide +kernel)

theorem lifts_cut (P : Program) (rest : List (List Char)) (h : behindMainWord (wordsSigns P.initOrder.toList) = "cut".toList :: rest) : P.liftsFinal = false := by
  unfold Program.liftsFinal Program.headLifts
  rw [h, strip_cut]
  simp

theorem enter_cut (P : Program) (rest : List (List Char)) (h : behindMainWord (wordsSigns P.initOrder.toList) = "cut".toList :: rest) (h1 : P.laysLater = false) (h2 : P.bearsReflect = false) (h3 : P.doorFits [] = true) : P.mayEnter = true := by
  unfold Program.mayEnter
  rw [h]
  simp only
  rw [strip_cut]
  simp only [h1, h2, h3, List.contains_nil, List.head?_cons, beq_self_eq_true, Bool.not_false, Bool.or_true, Bool.and_true]

theorem door : Try.prog.doorFits [] = true := by kernel_rfl
theorem lays : Try.prog.laysLater = false := by kernel_rfl
theorem bears : Try.prog.bearsReflect = false := by kernel_rfl
theorem head : behindMainWord (wordsSigns Try.prog.initOrder.toList) = "cut".toList :: (heads.drop 1).map (fun l => l.map Char.ofNat) := by rw [iol, hws]; kernel_rfl
theorem mke : Try.prog.make = some .cut := make_cut _ _ head
theorem lif : Try.prog.liftsFinal = false := lifts_cut _ _ head
theorem may : Try.prog.mayEnter = true := enter_cut _ _ head lays bears door

end Go.Proofs.Ytddenfnoajdjiaa.SeatC

/-
  What a walk is told of a slice that it only reads, and how that is kept where memory grows. Conditions: none. Plain facts on worlds: nothing of the program.
-/
namespace Go.Proofs.Ytddenfnoajdjiaa.SeesC
open Go.RowKit

/-- The slice value v, of n elements of one cell each, reads as the list xs in the world w. -/
def Sees (w : World) (v : Value) (n : Nat) (xs : List Value) : Prop :=
  xs.length = n ∧ ∃ a cap, v = .slice a n cap ∧ n ≤ cap ∧ (0 < n → ∃ b o, a = some ⟨b, o, none⟩ ∧ ∀ j u, xs[j]? = some u → w.cell? ⟨b, o + j, none⟩ = some u)

theorem Sees.nil (w : World) (a : Option Addr) (cap : Nat) : Sees w (.slice a 0 cap) 0 [] := ⟨rfl, a, cap, rfl, Nat.zero_le _, fun h => by omega⟩

/-- What is kept: every block but one (or all). -/
theorem Sees.kept {w w' : World} {row : Option Nat} {v : Value} {n : Nat} {xs : List Value} (h : Sees w v n xs) (hg : w.grownBy w' row) (hne : ∀ a, v.ownBlock = some a → row ≠ some a) : Sees w' v n xs := by
  obtain ⟨h1, a, cap, rfl, h3, h2⟩ := h
  refine ⟨h1, a, cap, rfl, h3, fun hn => ?_⟩
  obtain ⟨b, o, rfl, hc⟩ := h2 hn
  refine ⟨b, o, rfl, fun j u hu => hg.cell (hc j u hu) ?_⟩
  intro e
  exact hne b rfl e.symm

theorem Sees.below {w w' : World} {B : Nat} {v : Value} {n : Nat} {xs : List Value} (h : Sees w v n xs) (hb : Below B w w') (hlt : ∀ b, v.ownBlock = some b → 0 < n → b < B) : Sees w' v n xs := by
  obtain ⟨h1, a, cap, rfl, h3, h2⟩ := h
  refine ⟨h1, a, cap, rfl, h3, fun hn => ?_⟩
  obtain ⟨b, o, rfl, hc⟩ := h2 hn
  exact ⟨b, o, rfl, fun j u hu => (hb.cell (p := ⟨b, o + j, none⟩) (hlt b rfl hn)).trans (hc j u hu)⟩

/-- A slice that is read lies in the heap. -/
theorem Sees.lt {w : World} {v : Value} {n : Nat} {xs : List Value} (h : Sees w v n xs) (hn : 0 < n) : ∀ b, v.ownBlock = some b → b < w.heap.size := by
  obtain ⟨h1, a, cap, rfl, h3, h2⟩ := h
  obtain ⟨b, o, rfl, hc⟩ := h2 hn
  intro b' hb'
  simp [Value.ownBlock] at hb'
  subst hb'
  have h0 : xs[0]? = some xs[0] := List.getElem?_eq_getElem (by omega)
  exact World.block_lt_of_cell? w _ (hc 0 _ h0)

theorem Sees.grow {w w' : World} {v : Value} {n : Nat} {xs : List Value} (h : Sees w v n xs) (hb : Below w.heap.size w w') : Sees w' v n xs :=
  h.below hb fun b hv hn => h.lt hn b hv

theorem Sees.drewN {w : World} {v : Value} {n k : Nat} {xs : List Value} (h : Sees w v n xs) : Sees (w.drewN k) v n xs := by
  obtain ⟨h1, a, cap, rfl, h3, h2⟩ := h
  exact ⟨h1, a, cap, rfl, h3, fun hn => h2 hn⟩

/-- The world has drawn, and nothing else. -/
def Drawn (w w' : World) : Prop := ∃ m, w' = w.drewN m

theorem Drawn.refl (w : World) : Drawn w w := ⟨0, rfl⟩
theorem Drawn.next {w w' : World} (h : Drawn w w') (q : Nat) : Drawn w (w'.drewN q) := by
  obtain ⟨m, rfl⟩ := h; exact ⟨m + q, by rw [World.drewN_drewN]⟩
theorem Drawn.trans {a b c : World} (h : Drawn a b) (k : Drawn b c) : Drawn a c := by
  obtain ⟨q, rfl⟩ := k; exact h.next q
theorem Drawn.cell {w w' : World} (h : Drawn w w') (p : Addr) : w'.cell? p = w.cell? p := by obtain ⟨m, rfl⟩ := h; rfl
theorem Drawn.heap {w w' : World} (h : Drawn w w') : w'.heap = w.heap := by obtain ⟨m, rfl⟩ := h; rfl
theorem Drawn.below {w w' : World} (h : Drawn w w') (B : Nat) : Below B w w' := by obtain ⟨m, rfl⟩ := h; exact ⟨rfl, rfl, rfl, Nat.le_refl _, fun _ _ => rfl⟩
theorem Drawn.sees {w w' : World} {v : Value} {n : Nat} {xs : List Value} (hd : Drawn w w') (h : Sees w v n xs) : Sees w' v n xs := by
  obtain ⟨m, rfl⟩ := hd; exact h.drewN

/-- A contract whose call may draw, met in a region that draws its order. -/
theorem quiet_drawn {P : Program} {f : FuncId} {args : Array Value} {w : World} {n : Nat} {v : Value}
    (h : Calls P f args (w.drewN n) fun e w' => e = .returned v ∧ Drawn (w.drewN n) w') : Calls P f args (w.drewN n) fun e w'' => e = .returned v ∧ ∃ m, w'' = w.drewN m :=
  h.mono fun _ _ ⟨he, m, hm⟩ => ⟨he, n + m, by rw [hm, World.drewN_drewN]⟩

/-- A contract that leaves the world alone, met in a region that draws its order. -/
theorem quiet_same {P : Program} {f : FuncId} {args : Array Value} {w : World} {n : Nat} {v : Value}
    (h : Calls P f args (w.drewN n) fun e w' => e = .returned v ∧ w.drewN n = w') : Calls P f args (w.drewN n) fun e w'' => e = .returned v ∧ ∃ m, w'' = w.drewN m :=
  h.mono fun _ _ ⟨he, hm⟩ => ⟨he, n, hm.symm⟩

/-- What the call owns it sees. -/
theorem Sees.owns {w : World} {base : Nat} {e : TypeId} {v : Value} {n : Nat} {xs : List Value} (h : w.ownsRow base e 1 v n xs) : Sees w v n xs := by
  have hl : xs.length = n := by simpa using h.1
  have hc := fun g hg => h.cells (g := g) hg
  rcases h.2 with ⟨rfl, rfl⟩ | ⟨g, cap, cur, rfl, _, _, hnc, _⟩
  · exact ⟨hl, none, 0, rfl, Nat.le_refl _, fun h => by omega⟩
  · refine ⟨hl, _, cap, rfl, hnc, fun hn => ⟨g, 0, rfl, fun j u hu => ?_⟩⟩
    have := hc g rfl j u hu
    have hadd : (⟨g, 0, none⟩ : Addr).add j = ⟨g, 0 + j, none⟩ := by unfold Addr.add; split <;> simp_all
    rw [hadd] at this
    exact this

end Go.Proofs.Ytddenfnoajdjiaa.SeesC

/-
  An argument that is a slice of texts or of integers, opened for a walk that only reads it. Conditions: none. Plain facts on the form: nothing of the program.
-/
namespace Go.Proofs.Ytddenfnoajdjiaa.OpenC
open Go.ChangeShapes Go.WideShapes Go.ChangeAt Go.RowKit SeesC

theorem addr_spot {w : World} {x : Addr} {u : Value} (h : w.cell? (x.add 0) = some u) : ∃ b o, x = ⟨b, o, none⟩ := by
  obtain ⟨b, o, spot⟩ := x
  have hspot : spot = none := by simpa [Addr.add] using World.cell?_spot h
  subst hspot
  exact ⟨b, o, rfl⟩

theorem add_none (b o j : Nat) : (⟨b, o, none⟩ : Addr).add j = ⟨b, o + j, none⟩ := by unfold Addr.add; split <;> simp_all

theorem sees_strings {H : Type} {enc : TypeId × Value → H} {P : Program} {W : World} {t e : TypeId} {v : Value} {d : DataW H} {ps : List MemPlace} (ht : P.underlying t = some (.slice e)) (he : P.underlying e = some .string) (hc : P.cellsOf e = 1)
    {base : Nat} {r : Reach} (hok : Value.okWide P W r base t v) (h : DataW.Trod enc P W 0 (fun _ => true) true t v d ps) :
    ∃ (n : Nat) (ss : List ByteArray), Sees W v n (ss.map Value.string) ∧ n ≤ maxLen ∧ ∀ s ∈ ss, s.size ≤ maxLen := by
  obtain ⟨a0, len0, cap0, rfl⟩ := okWide_slice ht hok
  obtain ⟨fuel, hf⟩ := h
  rcases open_strings ht he hc hf with ⟨hcs, _⟩ | ⟨x, l, c, ss, hcs, _, hl, hm, hz, _, hcell, hss⟩
  · simp [Value.cells] at hcs
    obtain ⟨rfl, rfl, rfl⟩ := hcs
    exact ⟨0, [], Sees.nil _ _ _, by unfold maxLen; omega, by simp⟩
  · simp [Value.cells] at hcs
    obtain ⟨rfl, rfl, rfl⟩ := hcs
    have hz' : ss.length = cap0 := by simpa using hz
    refine ⟨len0, ss.take len0, ⟨by simp; omega, some x, cap0, rfl, hl, fun hn => ?_⟩, Nat.le_trans hl hm, fun s hs => hss s (List.mem_of_mem_take hs)⟩
    obtain ⟨b, o, rfl⟩ := addr_spot (hcell 0 (by omega))
    refine ⟨b, o, rfl, fun j u hu => ?_⟩
    rw [List.getElem?_map, List.getElem?_take] at hu
    split at hu
    · rename_i hj
      have hj2 : j < ss.length := by omega
      rw [List.getElem?_eq_getElem hj2] at hu
      simp at hu
      have := hcell j hj2
      rw [add_none] at this
      rw [this, ← hu]
      simp [hj2]
    · simp at hu

theorem sees_ints {H : Type} {enc : TypeId × Value → H} {P : Program} {W : World} {t e : TypeId} {k : IntKind} {v : Value} {d : DataW H} {ps : List MemPlace} (ht : P.underlying t = some (.slice e)) (he : P.underlying e = some (.int k)) (hc : P.cellsOf e = 1)
    {base : Nat} {r : Reach} (hok : Value.okWide P W r base t v) (h : DataW.Trod enc P W 0 (fun _ => true) true t v d ps) :
    ∃ (n : Nat) (zs : List Int), Sees W v n (zs.map (Value.int k)) ∧ n ≤ maxLen ∧ ∀ z ∈ zs, (Lit.int k z).wf = true := by
  obtain ⟨a0, len0, cap0, rfl⟩ := okWide_slice ht hok
  obtain ⟨fuel, hf⟩ := h
  rcases open_ints ht he hc hf with ⟨hcs, _⟩ | ⟨x, l, c, ss, hcs, _, hl, hm, hz, _, hcell, hss⟩
  · simp [Value.cells] at hcs
    obtain ⟨rfl, rfl, rfl⟩ := hcs
    exact ⟨0, [], Sees.nil _ _ _, by unfold maxLen; omega, by simp⟩
  · simp [Value.cells] at hcs
    obtain ⟨rfl, rfl, rfl⟩ := hcs
    have hz' : ss.length = cap0 := by simpa using hz
    refine ⟨len0, ss.take len0, ⟨by simp; omega, some x, cap0, rfl, hl, fun hn => ?_⟩, Nat.le_trans hl hm, fun s hs => hss s (List.mem_of_mem_take hs)⟩
    obtain ⟨b, o, rfl⟩ := addr_spot (hcell 0 (by omega))
    refine ⟨b, o, rfl, fun j u hu => ?_⟩
    rw [List.getElem?_map, List.getElem?_take] at hu
    split at hu
    · rename_i hj
      have hj2 : j < ss.length := by omega
      rw [List.getElem?_eq_getElem hj2] at hu
      simp at hu
      have := hcell j hj2
      rw [add_none] at this
      rw [this, ← hu]
      simp [hj2]
    · simp at hu

end Go.Proofs.Ytddenfnoajdjiaa.OpenC

/-
  Contracts of the laws' own helpers on lists of integers: whether two lists are alike, a copy, marks written into a list and found there again. Conditions: lists of at most 2^20 numbers, marks up to 2^21.
-/
namespace Go.Proofs.Ytddenfnoajdjiaa.IntsC
open Go.RowKit SeesC

/-- A list of integers as values. -/
abbrev vals (zs : List Int) : List Value := zs.map (Value.int .i64)

theorem infoI : (Try.prog.info? 3).map (fun i => (i.zero, i.size, i.bytes)) = some (some (.int .i64 0), 1, 8) := by kernel_rfl

theorem grown_of_below {w w' : World} (h : Below w.heap.size w w') (row : Option Nat) : w.grownBy w' row := ⟨h.os, h.tape, h.output, h.size, fun k hk _ => h.block k hk⟩

theorem grown_trans {a b c : World} {row : Option Nat} (h : a.grownBy b row) (k : b.grownBy c row) : a.grownBy c row :=
  ⟨k.os.trans h.os, k.tape.trans h.tape, k.output.trans h.output, Nat.le_trans h.size k.size, fun q hq hr => (k.block q (Nat.lt_of_lt_of_le hq h.size) hr).trans (h.block q hq hr)⟩

set_option maxRecDepth 100000 in
theorem eqIntS_same (w : World) (v u : Value) (n : Nat) (zs : List Int) (hv : Sees w v n (vals zs)) (hu : Sees w u n (vals zs)) (hn : n ≤ maxLen) :
    Calls Try.prog 60 #[v, u] w fun e w' => e = .returned (.bool true) ∧ Drawn w w' := by
  obtain ⟨hlen, a, cap, rfl, hcap, hc⟩ := hv
  obtain ⟨_, a2, cap2, rfl, _, hc2⟩ := hu
  simp at hlen
  unfold maxLen at hn
  go_enter Try.func60, Try.ntmps60
  go_wp2
  go_loopw [5] (fun i wr => ∃ k : Nat, k ≤ n ∧ i = .int .i64 k ∧ Drawn w wr) (fun i _ => n - (intOf i).toNat)
  case atStart => exact ⟨0, Nat.zero_le _, rfl, Drawn.refl _⟩
  case round =>
    obtain ⟨k, hk, rfl, HD⟩ := hrel
    by_cases hlt : k < n
    · obtain ⟨b, o, rfl, hcell⟩ := hc (by omega)
      obtain ⟨b2, o2, rfl, hcell2⟩ := hc2 (by omega)
      have hk2 : k < zs.length := by omega
      have hck : wr.cell? ⟨b, o + k, none⟩ = some (.int .i64 zs[k]) := (HD.cell _).trans (hcell k _ (by simp [hk2]))
      have hck2 : wr.cell? ⟨b2, o2 + k, none⟩ = some (.int .i64 zs[k]) := (HD.cell _).trans (hcell2 k _ (by simp [hk2]))
      have hlti : (k : Int) < (n : Int) := by omega
      obtain ⟨z, hz⟩ : ∃ z, zs[k] = z := ⟨_, rfl⟩
      rw [hz] at hck hck2
      clear hcell hcell2 hc hc2 hz
      go_wp2
      go_quiet (fail)
      go_wp2
      go_roundw
      case rel => exact ⟨k + 1, by omega, by go_num, HD.next _⟩
      case measure => simp [intOf]; omega
    · go_wp2
      go_ret
      exact ⟨rfl, HD⟩

set_option maxRecDepth 100000 in
theorem rInts_same (w : World) (v u : Value) (n : Nat) (zs : List Int) (hv : Sees w v n (vals zs)) (hu : Sees w u n (vals zs)) (hn : n ≤ maxLen) :
    Calls Try.prog 26 #[v, u] w fun e w' => e = .returned (.bool true) ∧ Drawn w w' := by
  obtain ⟨hlen, a, cap, rfl, hcap, hc⟩ := hv
  obtain ⟨_, a2, cap2, rfl, _, hc2⟩ := hu
  simp at hlen
  unfold maxLen at hn
  go_enter Try.func26, Try.ntmps26
  go_wp2
  go_loopw [5] (fun i wr => ∃ k : Nat, k ≤ n ∧ i = .int .i64 k ∧ Drawn w wr) (fun i _ => n - (intOf i).toNat)
  case atStart => exact ⟨0, Nat.zero_le _, rfl, Drawn.refl _⟩
  case round =>
    obtain ⟨k, hk, rfl, HD⟩ := hrel
    by_cases hlt : k < n
    · obtain ⟨b, o, rfl, hcell⟩ := hc (by omega)
      obtain ⟨b2, o2, rfl, hcell2⟩ := hc2 (by omega)
      have hk2 : k < zs.length := by omega
      have hck : wr.cell? ⟨b, o + k, none⟩ = some (.int .i64 zs[k]) := (HD.cell _).trans (hcell k _ (by simp [hk2]))
      have hck2 : wr.cell? ⟨b2, o2 + k, none⟩ = some (.int .i64 zs[k]) := (HD.cell _).trans (hcell2 k _ (by simp [hk2]))
      have hlti : (k : Int) < (n : Int) := by omega
      obtain ⟨z, hz⟩ : ∃ z, zs[k] = z := ⟨_, rfl⟩
      rw [hz] at hck hck2
      clear hcell hcell2 hc hc2 hz
      go_wp2
      go_quiet (fail)
      go_wp2
      go_roundw
      case rel => exact ⟨k + 1, by omega, by go_num, HD.next _⟩
      case measure => simp [intOf]; omega
    · go_wp2
      go_ret
      exact ⟨rfl, HD⟩

theorem set_next {α : Type} (L : List α) (z : α) (n k : Nat) (h : k < L.length) (hn : L.length = n) : (L.take k ++ List.replicate (n - k) z).set k L[k] = L.take (k + 1) ++ List.replicate (n - (k + 1)) z := by
  rw [List.set_append_right _ _ (by simp; omega)]
  have e1 : k - (L.take k).length = 0 := by simp; omega
  have e2 : n - k = (n - (k + 1)) + 1 := by omega
  rw [e1, e2, List.replicate_succ, List.set_cons_zero, List.take_succ_eq_append_getElem h, List.append_assoc]
  rfl

theorem made_int (n : Nat) : (madeCells (Value.int .i64 0).cells (n * 1)).toList = List.replicate n (.int .i64 0) := by
  apply List.ext_getElem
  · simp [madeCells]
  · intro i h1 h2; simp [madeCells, Value.cells, Nat.mod_one]

set_option maxRecDepth 100000 in
set_option maxHeartbeats 400000 in
theorem toIntS_any (w : World) (v : Value) (n : Nat) (zs : List Int) (hv : Sees w v n (vals zs)) (hn : n ≤ 1048576) :
    Calls Try.prog 59 #[v] w fun e w' => ∃ g, e = .returned (.slice (some ⟨g, 0, none⟩) n n) ∧ w'.ownsRow w.heap.size 3 1 (.slice (some ⟨g, 0, none⟩) n n) n (vals zs) ∧ Below w.heap.size w w' := by
  obtain ⟨i0, hi, hz0, hz1, hz2⟩ := info_parts infoI
  have hvb := fun hp => hv.lt hp
  obtain ⟨hlen, a, cap, rfl, hcap, hc⟩ := hv
  simp at hlen
  go_enter Try.func59, Try.ntmps59
  go_wp2_with (at_make; refine wpList_make_full _ rfl _ _ 24 rfl w.heap.size 3 i0 (.int .i64 0) 1 Try.underlying24 hi hz0 hz1 .i64 .i64 n n n rfl rfl rfl rfl (by rw [hz2]; omega) (by unfold maxLen; omega) (Nat.le_refl _) ?_; intro w1 hown1 hgrow1; clear hi hz0 hz1 hz2)
  have hb1 : Below w.heap.size w w1 := (Below.refl _ _).grown hgrow1 (Nat.le_refl _) (fun k hk => by cases hk)
  have hz : (madeCells (Value.int .i64 0).cells (n * 1)).toList = (vals zs).take 0 ++ List.replicate (n - 0) (.int .i64 0) := by rw [made_int]; simp
  rw [hz] at hown1
  clear hz hgrow1
  go_loopw [4] (fun i wr => ∃ k : Nat, k ≤ n ∧ i = .int .i64 k ∧ wr.ownsRow w.heap.size 3 1 (.slice (some ⟨w.heap.size, 0, none⟩) n n) n ((vals zs).take k ++ List.replicate (n - k) (.int .i64 0)) ∧ Below w.heap.size w wr) (fun i _ => n - (intOf i).toNat)
  case atStart => exact ⟨0, Nat.zero_le _, rfl, hown1, hb1⟩
  case round =>
    obtain ⟨k, hk, rfl, hown, hb⟩ := hrel
    clear hown1 hb1
    by_cases hlt : k < n
    · obtain ⟨b, o, rfl, hcell⟩ := hc (by omega)
      have hk2 : k < zs.length := by omega
      have hbl : b < w.heap.size := hvb (by omega) b rfl
      have hck : wr.cell? ⟨b, o + k, none⟩ = some (.int .i64 zs[k]) := (hb.cell (p := ⟨b, o + k, none⟩) hbl).trans (hcell k _ (by simp [hk2]))
      have hst := hown.stored k (.int .i64 zs[k])
      have hset := set_next (vals zs) (.int .i64 0) n k (by simpa using hk2) (by simpa using hlen)
      rw [List.getElem_map] at hset
      rw [hset] at hst
      have hd := hown.cellAt k (by omega)
      have hf := hown.frozenAt k
      have hd' : ∃ u, wr.cell? ⟨w.heap.size, k, none⟩ = some u := ⟨_, hd.trans (List.getElem?_eq_getElem (by simp; omega))⟩
      obtain ⟨u, hu⟩ := hd'
      have hb2 : Below w.heap.size w (wr.setCell ⟨w.heap.size, k, none⟩ (.int .i64 zs[k])) := hb.setCell (Nat.le_refl _) _
      have HS := Go.Lib.hid (And.intro hst.1 hb2)
      obtain ⟨z, hz⟩ : ∃ z, zs[k] = z := ⟨_, rfl⟩
      rw [hz] at hck HS
      clear hset hst hb2 hd hcell hc hvb hown hb hz
      go_wp2
      go_roundw
      case rel => exact ⟨k + 1, by omega, by go_num, HS.out.1, HS.out.2⟩
      case measure => simp [intOf]; omega
    · have hkn : k = n := by omega
      subst hkn
      have ho : wr.ownsRow w.heap.size 3 1 (.slice (some ⟨w.heap.size, 0, none⟩) k k) k (vals zs) := by
        have e : (vals zs).take k ++ List.replicate (k - k) (.int .i64 0) = vals zs := by
          rw [Nat.sub_self, List.replicate_zero, List.append_nil, List.take_of_length_le (by simp; omega)]
        rw [e] at hown
        exact hown
      go_wp2
      go_ret
      exact ⟨_, rfl, ho, hb⟩

/-- The marks from a number on. -/
def imarks (k n : Nat) : List Value := (List.range n).map fun i => Value.int .i64 ((k + i : Nat) : Int)

theorem imarks_len (k n : Nat) : (imarks k n).length = n := by simp [imarks]

theorem imarks_at (k n i : Nat) (h : i < n) : (imarks k n)[i]'(by rw [imarks_len]; exact h) = Value.int .i64 ((k + i : Nat) : Int) := by simp [imarks]

theorem set_imark (xs : List Value) (k n i : Nat) (h : i < n) (hl : xs.length = n) : ((imarks k n).take i ++ xs.drop i).set i (.int .i64 ((k + i : Nat) : Int)) = (imarks k n).take (i + 1) ++ xs.drop (i + 1) := by
  have hm := imarks_len k n
  rw [List.set_append_right _ _ (by simp; omega)]
  have e1 : i - ((imarks k n).take i).length = 0 := by simp; omega
  rw [e1, List.drop_eq_getElem_cons (by omega), List.set_cons_zero, List.take_succ_eq_append_getElem (by omega), imarks_at k n i h, List.append_assoc]
  rfl

/-- The list has been marked. -/
def IMarked (B : Nat) (v : Value) (n k : Nat) (w : World) (e : Ending) (w' : World) : Prop :=
  e = .returned (.int .i64 ((k + n : Nat) : Int)) ∧ w'.ownsRow B 3 1 v n (imarks k n) ∧ w.grownBy w' v.ownBlock

set_option maxRecDepth 100000 in
set_option maxHeartbeats 1000000 in
theorem markIntS_row (B g cap n k0 : Nat) (xs : List Value) (w : World) (hn : n ≤ 1048577) (hk1 : k0 ≤ 1048577) (hown : w.ownsRow B 3 1 (.slice (some ⟨g, 0, none⟩) n cap) n xs) :
    Calls Try.prog 61 #[.slice (some ⟨g, 0, none⟩) n cap, .int .i64 k0] w fun e w' => IMarked B (.slice (some ⟨g, 0, none⟩) n cap) n k0 w e w' := by
  have hxl : xs.length = n := by simpa using hown.1
  go_enter Try.func61, Try.ntmps61
  go_wp2
  go_loopw [1, 5] (fun kv iv wr => ∃ i : Nat, i ≤ n ∧ iv = .int .i64 i ∧ kv = .int .i64 ((k0 + i : Nat) : Int) ∧ wr.ownsRow B 3 1 (.slice (some ⟨g, 0, none⟩) n cap) n ((imarks k0 n).take i ++ xs.drop i) ∧ w.grownBy wr (some g)) (fun _ i _ => n - (intOf i).toNat)
  case atStart => exact ⟨0, Nat.zero_le _, rfl, rfl, by simpa using hown, ⟨rfl, rfl, rfl, Nat.le_refl _, fun _ _ _ => rfl⟩⟩
  case round =>
    obtain ⟨i, hi, rfl, rfl, ho, hg⟩ := hrel
    clear hown
    by_cases hlt : i < n
    · have hlti : (i : Int) < (n : Int) := by omega
      have hlen : ((imarks k0 n).take i ++ xs.drop i).length = n := by rw [List.length_append, List.length_take, List.length_drop, imarks_len]; omega
      have hst := ho.stored i (.int .i64 ((k0 + i : Nat) : Int))
      rw [set_imark xs k0 n i hlt hxl] at hst
      have hd := ho.cellAt i (by omega)
      have hf := ho.frozenAt i
      obtain ⟨u, hu⟩ : ∃ u, wr.cell? ⟨g, i, none⟩ = some u := ⟨_, hd.trans (List.getElem?_eq_getElem (by rw [hlen]; exact hlt))⟩
      have HS := Go.Lib.hid (And.intro hst.1 (grown_trans hg hst.2))
      obtain ⟨kk, hkk⟩ : ∃ kk, k0 + i = kk := ⟨_, rfl⟩
      have hkk3 : kk ≤ 2097154 := by omega
      rw [hkk] at HS ⊢
      have HK := Go.Lib.hid hkk
      clear hst hd ho hg hlen hkk
      go_wp2
      go_roundw
      case rel => exact ⟨i + 1, by omega, by go_num, by rw [← Nat.add_assoc, HK.out]; go_num, HS.out.1, HS.out.2⟩
      case measure => simp [intOf]; omega
    · have hin : i = n := by omega
      subst hin
      have e : (imarks k0 i).take i ++ xs.drop i = imarks k0 i := by
        rw [List.take_of_length_le (by rw [imarks_len]; exact Nat.le_refl _), List.drop_of_length_le (by omega), List.append_nil]
      rw [e] at ho
      have HO := Go.Lib.hid (And.intro ho hg)
      clear ho hg e
      go_wp2
      go_ret
      exact ⟨rfl, HO.out.1, HO.out.2⟩

set_option maxRecDepth 100000 in
theorem markIntS_none (B cap k0 : Nat) (a : Option Addr) (w : World) (hown : w.ownsRow B 3 1 (.slice a 0 cap) 0 []) :
    Calls Try.prog 61 #[.slice a 0 cap, .int .i64 k0] w fun e w' => IMarked B (.slice a 0 cap) 0 k0 w e w' := by
  have HO := Go.Lib.hid hown
  clear hown
  go_enter Try.func61, Try.ntmps61
  go_wp2
  go_loop [1, 5] (fun kv iv => kv = .int .i64 k0 ∧ iv = .int .i64 0) (fun _ _ => 0)
  case atStart => exact ⟨rfl, rfl⟩
  case round =>
    obtain ⟨rfl, rfl⟩ := hrel
    go_wp2
    go_ret
    exact ⟨rfl, HO.out, ⟨rfl, rfl, rfl, Nat.le_refl _, fun _ _ _ => rfl⟩⟩

theorem markIntS_any (B n k0 : Nat) (v : Value) (xs : List Value) (w : World) (hn : n ≤ 1048577) (hk1 : k0 ≤ 1048577) (hown : w.ownsRow B 3 1 v n xs) :
    Calls Try.prog 61 #[v, .int .i64 k0] w fun e w' => IMarked B v n k0 w e w' := by
  rcases hown.2 with ⟨rfl, rfl⟩ | ⟨g, cap, cur, rfl, _⟩
  · have hx : xs = [] := List.eq_nil_of_length_eq_zero (by simpa using hown.1)
    subst hx
    exact markIntS_none B 0 k0 none w hown
  · exact markIntS_row B g cap n k0 xs w hn hk1 hown

set_option maxRecDepth 100000 in
set_option maxHeartbeats 1000000 in
theorem heldIntS_any (n k0 : Nat) (v : Value) (w : World) (hn : n ≤ 1048577) (hk1 : k0 ≤ 1048577) (hv : Sees w v n (imarks k0 n)) :
    Calls Try.prog 62 #[v, .int .i64 k0] w fun e w' => e = .returned (.int .i64 ((k0 + n : Nat) : Int)) ∧ w' = w := by
  obtain ⟨hlen, a, cap, rfl, hcap, hc⟩ := hv
  go_enter Try.func62, Try.ntmps62
  go_wp2
  go_loop [1, 5] (fun kv iv => ∃ i : Nat, i ≤ n ∧ iv = .int .i64 i ∧ kv = .int .i64 ((k0 + i : Nat) : Int)) (fun _ i => n - (intOf i).toNat)
  case atStart => exact ⟨0, Nat.zero_le _, rfl, rfl⟩
  case round =>
    obtain ⟨i, hi, rfl, rfl⟩ := hrel
    by_cases hlt : i < n
    · have hlti : (i : Int) < (n : Int) := by omega
      obtain ⟨b, o, rfl, hcell⟩ := hc (by omega)
      have hck : w.cell? ⟨b, o + i, none⟩ = some (.int .i64 ((k0 + i : Nat) : Int)) := hcell i _ (by rw [List.getElem?_eq_getElem (by rw [hlen]; exact hlt), imarks_at k0 n i hlt])
      obtain ⟨kk, hkk⟩ : ∃ kk, k0 + i = kk := ⟨_, rfl⟩
      have hkk3 : kk ≤ 2097154 := by omega
      rw [hkk] at hck ⊢
      have HK := Go.Lib.hid hkk
      clear hkk hcell hc
      go_wp2
      go_round
      case rel => exact ⟨i + 1, by omega, by go_num, by rw [← Nat.add_assoc, HK.out]; go_num⟩
      case measure => simp [intOf]; omega
    · have hin : i = n := by omega
      subst hin
      go_wp2
      go_ret
      exact ⟨rfl, rfl⟩

end Go.Proofs.Ytddenfnoajdjiaa.IntsC

/-
  What the walks of the exact laws on lists of integers carry from call to call. Conditions: none. Plain facts on worlds: nothing of the program.
-/
namespace Go.Proofs.Ytddenfnoajdjiaa.ExactC
open Go.RowKit SeesC IntsC

/-- A list of integers and a truth value are returned, the list in memory of the call's own. -/
def ListTo (w : World) (e : Ending) (w' : World) (xs : List Int) (b : Bool) : Prop :=
  ∃ v, e = .returned (.tuple #[v, .bool b]) ∧ w'.ownsRow w.heap.size 3 1 v xs.length (vals xs) ∧ Below w.heap.size w w'

/-- A value is returned, and nothing that was there has turned. -/
def ValTo (w : World) (e : Ending) (w' : World) (r : Value) : Prop := e = .returned r ∧ Below w.heap.size w w'

theorem kept_call {w w' : World} {B : Nat} {ty : TypeId} {v : Value} {n : Nat} {xs : List Value} (h : w.ownsRow B ty 1 v n xs) (hb : Below w.heap.size w w') : w'.ownsRow B ty 1 v n xs :=
  h.kept (grown_of_below hb none) (by cases hv : v.ownBlock <;> simp)

theorem sees_mark {w w' : World} {row : Option Nat} {v : Value} {n : Nat} {xs : List Value} (h : Sees w v n xs) (hg : w.grownBy w' row) (hne : 0 < n → ∀ a, v.ownBlock = some a → row ≠ some a) : Sees w' v n xs := by
  obtain ⟨h1, a, cap, rfl, h3, h2⟩ := h
  refine ⟨h1, a, cap, rfl, h3, fun hn => ?_⟩
  obtain ⟨b, o, rfl, hc⟩ := h2 hn
  refine ⟨b, o, rfl, fun j u hu => hg.cell (hc j u hu) ?_⟩
  intro e
  exact hne hn b rfl e.symm

/-- A list marked by others stays the call's own. -/
theorem own_mark {w w' : World} {row : Option Nat} {B : Nat} {ty : TypeId} {v : Value} {n : Nat} {xs : List Value} (h : w.ownsRow B ty 1 v n xs) (hg : w.grownBy w' row) (hne : ∀ a, v.ownBlock = some a → row ≠ some a) : w'.ownsRow B ty 1 v n xs :=
  h.kept hg (by
    cases hv : v.ownBlock with
    | none => simp
    | some a => exact .inr (fun e => hne a hv e.symm))

/-- An empty list that was made. -/
theorem listTo_none (w : World) (b : Bool) : ListTo w (.returned (.tuple #[.slice (some ⟨w.heap.size, 0, none⟩) 0 0, .bool b])) (w.alloc (.cells #[] 3)) [] b :=
  ⟨_, rfl, World.ownsRow_made _ _ _ (Nat.le_refl _) (by unfold maxLen; omega) rfl, (Below.refl _ _).alloc (Nat.le_refl _) _⟩

theorem own_lower {w : World} {base base' size : Nat} {ty : TypeId} {v : Value} {n : Nat} {xs : List Value} (h : w.ownsRow base ty size v n xs) (hle : base' ≤ base) : w.ownsRow base' ty size v n xs := by
  obtain ⟨h1, h2⟩ := h
  refine ⟨h1, ?_⟩
  rcases h2 with h | ⟨g, cap, cur, hv, hb, rest⟩
  · exact .inl h
  · exact .inr ⟨g, cap, cur, hv, Nat.le_trans hle hb, rest⟩

theorem listTo_below {w w1 w' : World} {e : Ending} {xs : List Int} {b : Bool} (hb : Below w.heap.size w w1) (h : ListTo w1 e w' xs b) : ListTo w e w' xs b := by
  obtain ⟨v, he, ho, hb2⟩ := h
  exact ⟨v, he, own_lower ho hb.size, hb.trans (hb2.mono hb.size)⟩

theorem take_next {L : List Int} {k : Nat} {z : Int} (hk : k < L.length) (h : L.getD k 0 = z) : vals (L.take (k + 1)) = vals (L.take k) ++ [.int .i64 z] := by
  have h' : L[k] = z := by rw [← h]; simp [hk]
  rw [List.take_succ_eq_append_getElem hk, h']; simp

theorem put_next {L zs : List Int} {k : Nat} {z : Int} (hl : L.length = zs.length) (hk : k < L.length) (h : L.getD k 0 = z) : (vals (L.take k ++ zs.drop k)).set k (.int .i64 z) = vals (L.take (k + 1) ++ zs.drop (k + 1)) := by
  have h' : L[k] = z := by rw [← h]; simp [hk]
  unfold vals
  rw [← List.map_set, List.set_append_right _ _ (by simp; omega)]
  have e3 : k - (L.take k).length = 0 := by simp; omega
  rw [e3, List.drop_eq_getElem_cons (by omega), List.set_cons_zero, List.take_succ_eq_append_getElem hk, h', List.append_assoc]
  rfl

theorem own_pos {w : World} {base size n : Nat} {ty : TypeId} {v : Value} {xs : List Value} (h : w.ownsRow base ty size v n xs) (hn : 0 < n) : ∃ g cap, v = .slice (some ⟨g, 0, none⟩) n cap := by
  rcases h.2 with ⟨_, h0⟩ | ⟨g, cap, cur, hv, _⟩
  · omega
  · exact ⟨g, cap, hv⟩

theorem vals_len (zs : List Int) : (vals zs).length = zs.length := by simp

/-- Cells set one behind the other, in a list. -/
def setL : List Value → Nat → List Value → List Value
  | xs, _, [] => xs
  | xs, i, v :: r => setL (xs.set i v) (i + 1) r

theorem setL_is : ∀ (vs xs : List Value) (i : Nat), i + vs.length ≤ xs.length → setL xs i vs = xs.take i ++ vs ++ xs.drop (i + vs.length)
  | [], xs, i, _ => by simp [setL]
  | v :: r, xs, i, h => by
    simp only [List.length_cons] at h
    unfold setL
    rw [setL_is r (xs.set i v) (i + 1) (by simp; omega)]
    rw [List.take_set, List.drop_set, if_pos (by omega), List.take_succ_eq_append_getElem (by omega), List.set_append_right _ _ (by simp; omega)]
    have e : i - (List.take i xs).length = 0 := by simp; omega
    rw [e, List.set_cons_zero]
    simp only [List.length_cons, List.append_assoc, List.cons_append, List.nil_append]
    congr 3
    congr 1
    omega

theorem own_setCells {base n cap g : Nat} {ty : TypeId} : ∀ (vs : List Value) (w : World) (i : Nat) (xs : List Value), w.ownsRow base ty 1 (.slice (some ⟨g, 0, none⟩) n cap) n xs →
    (w.setCells g i vs).ownsRow base ty 1 (.slice (some ⟨g, 0, none⟩) n cap) n (setL xs i vs) ∧ w.grownBy (w.setCells g i vs) (some g)
  | [], w, i, xs, h => ⟨h, rfl, rfl, rfl, Nat.le_refl _, fun _ _ _ => rfl⟩
  | v :: r, w, i, xs, h => by
    have h1 := h.stored i v
    have h2 := own_setCells r (w.setCell ⟨g, i, none⟩ v) (i + 1) (xs.set i v) h1.1
    exact ⟨h2.1, grown_trans h1.2 h2.2⟩

theorem setCells_below {B g : Nat} {a : World} (hg : B ≤ g) : ∀ (vs : List Value) (w : World) (i : Nat), Below B a w → Below B a (w.setCells g i vs)
  | [], _, _, h => h
  | v :: r, w, i, h => setCells_below hg r (w.setCell ⟨g, i, none⟩ v) (i + 1) (h.setCell (p := ⟨g, i, none⟩) hg v)

/-- A list that is not empty and is read: its cells. -/
theorem sees_cells {w : World} {v : Value} {n : Nat} {zs : List Int} (h : Sees w v n (vals zs)) (hn : 0 < n) :
    ∃ b o cap, v = .slice (some ⟨b, o, none⟩) n cap ∧ n ≤ cap ∧ zs.length = n ∧ b < w.heap.size ∧ ∀ j, j < zs.length → w.cell? ⟨b, o + j, none⟩ = some (.int .i64 (zs.getD j 0)) := by
  have hlt := h.lt hn
  obtain ⟨h1, a, cap, rfl, h3, h2⟩ := h
  obtain ⟨b, o, rfl, hc⟩ := h2 hn
  refine ⟨b, o, cap, rfl, h3, by simpa using h1, hlt b rfl, fun j hj => hc j _ ?_⟩
  simp [hj]

/-- The same of a slice that the call owns. -/
theorem own_cells {w : World} {base g n cap : Nat} {ty : TypeId} {zs : List Int} (h : w.ownsRow base ty 1 (.slice (some ⟨g, 0, none⟩) n cap) n (vals zs)) :
    (∀ j, j < zs.length → w.cell? ⟨g, 0 + j, none⟩ = some (.int .i64 (zs.getD j 0))) ∧ (∀ j, j < n → w.frozen? ⟨g, 0 + j, none⟩ = false) := by
  have hl : zs.length = n := by simpa using h.1
  refine ⟨fun j hj => ?_, fun j _ => h.frozenAt (0 + j)⟩
  rw [h.cellAt (0 + j) (by omega)]
  simp [hj]

theorem own_drewN {w : World} {base size n q : Nat} {ty : TypeId} {v : Value} {xs : List Value} (h : w.ownsRow base ty size v n xs) : (w.drewN q).ownsRow base ty size v n xs := h

theorem below_drewN {B q : Nat} {a w : World} (h : Below B a w) : Below B a (w.drewN q) := ⟨h.os, h.tape, h.output, h.size, h.block⟩

end Go.Proofs.Ytddenfnoajdjiaa.ExactC

/-
  The mathematics of orders: what an order is, how many numbers behind a place are less, the two ways to reckon a rank, and the order with a rank. Conditions: none. Plain facts on lists: nothing of the program.
-/
namespace Go.Proofs.Ytddenfnoajdjiaa.OrdMath

/-- A list is an order. -/
def Ord (zs : List Int) : Prop := 1 ≤ zs.length ∧ zs.length ≤ 7 ∧ (∀ z ∈ zs, 1 ≤ z ∧ z ≤ (zs.length : Int)) ∧ zs.Nodup

instance (zs : List Int) : Decidable (Ord zs) := by unfold Ord; infer_instance

def isOrd (zs : List Int) : Bool := decide (Ord zs)

theorem isOrd_len {zs : List Int} (h : zs.length < 1 ∨ 7 < zs.length) : isOrd zs = false := by
  unfold isOrd; rw [decide_eq_false_iff_not]; rintro ⟨h1, h2, _⟩; omega

theorem isOrd_range {zs : List Int} {k : Nat} (hk : k < zs.length) (h : ¬ (1 ≤ zs[k] ∧ zs[k] ≤ (zs.length : Int))) : isOrd zs = false := by
  unfold isOrd; rw [decide_eq_false_iff_not]; rintro ⟨_, _, h3, _⟩; exact h (h3 _ (List.getElem_mem hk))

theorem isOrd_dup {zs : List Int} {k : Nat} (hk : k < zs.length) (h : zs[k] ∈ zs.take k) : isOrd zs = false := by
  unfold isOrd; rw [decide_eq_false_iff_not]; rintro ⟨_, _, _, h4⟩
  rw [List.mem_iff_getElem] at h
  obtain ⟨j, hj, e⟩ := h
  rw [List.length_take] at hj
  rw [List.getElem_take] at e
  have := (List.getElem_inj h4).1 e
  omega

theorem nodup_next {zs : List Int} {k : Nat} (hk : k < zs.length) (h : (zs.take k).Nodup) (hn : zs[k] ∉ zs.take k) : (zs.take (k + 1)).Nodup := by
  rw [List.take_succ_eq_append_getElem hk, List.nodup_append]
  refine ⟨h, by simp, ?_⟩
  intro a ha b hb e
  simp at hb
  subst hb
  subst e
  exact hn ha

theorem isOrd_yes {zs : List Int} (h1 : 1 ≤ zs.length) (h2 : zs.length ≤ 7) (h3 : ∀ z ∈ zs, 1 ≤ z ∧ z ≤ (zs.length : Int)) (h4 : zs.Nodup) : isOrd zs = true := by
  unfold isOrd; rw [decide_eq_true_iff]; exact ⟨h1, h2, h3, h4⟩

theorem Ord.at {zs : List Int} (h : Ord zs) {k : Nat} (hk : k < zs.length) : ∃ m : Nat, zs[k] = (m : Int) + 1 ∧ m < zs.length := by
  have := h.2.2.1 zs[k] (List.getElem_mem hk)
  exact ⟨(zs[k] - 1).toNat, by omega, by omega⟩

theorem Ord.getD {zs : List Int} (h : Ord zs) {k : Nat} (hk : k < zs.length) : ∃ m : Nat, zs.getD k 0 = (m : Int) + 1 ∧ m < zs.length := by
  obtain ⟨m, h1, h2⟩ := h.at hk
  exact ⟨m, by rw [← h1]; simp [hk], h2⟩

/-- How many of a list are less than a number. -/
def cl (x : Int) (l : List Int) : Nat := l.countP (fun z => decide (z < x))

theorem cl_nil (x : Int) : cl x [] = 0 := rfl

theorem cl_next {x : Int} {l : List Int} {j : Nat} (hj : j < l.length) : cl x (l.take (j + 1)) = cl x (l.take j) + (if l[j] < x then 1 else 0) := by
  unfold cl
  rw [List.take_succ_eq_append_getElem hj, List.countP_append, List.countP_singleton]
  simp

theorem cl_le (x : Int) (l : List Int) : cl x l ≤ l.length := List.countP_le_length

def fact : Nat → Nat
  | 0 => 1
  | n + 1 => (n + 1) * fact n

theorem fact_step (n : Nat) : fact n ≤ fact (n + 1) := by
  show fact n ≤ (n + 1) * fact n
  exact Nat.le_mul_of_pos_left _ (Nat.succ_pos _)

theorem fact_pos (n : Nat) : 1 ≤ fact n := by
  induction n with
  | zero => exact Nat.le_refl _
  | succ n ih => exact Nat.le_trans ih (fact_step n)

theorem fact_mono {a b : Nat} (h : a ≤ b) : fact a ≤ fact b := by
  induction h with
  | refl => exact Nat.le_refl _
  | step _ ih => exact Nat.le_trans ih (fact_step _)

theorem fact_7 {a : Nat} (h : a ≤ 7) : fact a ≤ 5040 := fact_mono h
theorem fact_6 {a : Nat} (h : a ≤ 6) : fact a ≤ 720 := fact_mono h

/-- How many numbers behind a place are less than the one at it. -/
def lessAt (zs : List Int) (i : Nat) : Nat := cl (zs.getD i 0) (zs.drop (i + 1))

theorem lessAt_le (zs : List Int) (i : Nat) : lessAt zs i ≤ zs.length - (i + 1) := by
  have := cl_le (zs.getD i 0) (zs.drop (i + 1)); rw [List.length_drop] at this; exact this

/-- The rank as a sum. -/
def rankS (zs : List Int) : Nat → Nat
  | 0 => 0
  | k + 1 => rankS zs k + lessAt zs k * fact (zs.length - 1 - k)

/-- The rank, digit by digit. -/
def rankH (zs : List Int) : Nat → Nat
  | 0 => 0
  | k + 1 => rankH zs k * (zs.length - k) + lessAt zs k

theorem rank_eq (zs : List Int) : ∀ k, k ≤ zs.length → rankH zs k * fact (zs.length - k) = rankS zs k := by
  intro k
  induction k with
  | zero => intro _; simp [rankH, rankS]
  | succ k ih =>
    intro hk
    have h1 := ih (by omega)
    have e : zs.length - k = (zs.length - (k + 1)) + 1 := by omega
    have e2 : zs.length - 1 - k = zs.length - (k + 1) := by omega
    have ef : fact (zs.length - k) = (zs.length - k) * fact (zs.length - (k + 1)) := by rw [e]; rfl
    unfold rankH rankS
    rw [← h1, e2, ef, Nat.add_mul, Nat.mul_assoc]

theorem rankS_le (zs : List Int) (h7 : zs.length ≤ 7) : ∀ k, k ≤ zs.length → rankS zs k ≤ 4320 * k := by
  intro k
  induction k with
  | zero => intro _; simp [rankS]
  | succ k ih =>
    intro hk
    have h1 := ih (by omega)
    have h2 := lessAt_le zs k
    have h3 := fact_6 (a := zs.length - 1 - k) (by omega)
    have h4 : lessAt zs k * fact (zs.length - 1 - k) ≤ 6 * 720 := Nat.mul_le_mul (by omega) h3
    unfold rankS
    omega

theorem rankH_le (zs : List Int) (h7 : zs.length ≤ 7) (k : Nat) (hk : k ≤ zs.length) : rankH zs k ≤ 30240 := by
  have h1 := rank_eq zs k hk
  have h2 := rankS_le zs h7 k hk
  have h3 : rankH zs k ≤ rankH zs k * fact (zs.length - k) := Nat.le_mul_of_pos_right _ (fact_pos _)
  omega

theorem rank_end (zs : List Int) : rankH zs zs.length = rankS zs zs.length := by
  have := rank_eq zs zs.length (Nat.le_refl _)
  simpa [fact] using this

/-- How many pairs have the greater number first, over the first places. -/
def invTo (zs : List Int) : Nat → Nat
  | 0 => 0
  | k + 1 => invTo zs k + lessAt zs k

theorem invTo_le (zs : List Int) (h7 : zs.length ≤ 7) : ∀ k, k ≤ zs.length → invTo zs k ≤ 7 * k := by
  intro k
  induction k with
  | zero => intro _; simp [invTo]
  | succ k ih => intro hk; have h1 := ih (by omega); have h2 := lessAt_le zs k; unfold invTo; omega

/-- The sorted order. -/
def iota (n : Nat) : List Int := (List.range n).map fun (i : Nat) => (i : Int) + 1

theorem iota_len (n : Nat) : (iota n).length = n := by simp [iota]

theorem iota_at (n k : Nat) (h : k < n) : (iota n)[k]'(by rw [iota_len]; exact h) = (k : Int) + 1 := by simp [iota]

theorem iota_next (n : Nat) : iota (n + 1) = iota n ++ [(n : Int) + 1] := by unfold iota; rw [List.range_succ, List.map_append]; rfl

/-- The order with a rank, out of the numbers that are left. -/
def atRun : Nat → List Int → Nat → List Int
  | 0, _, _ => []
  | m + 1, left, k => left.getD (k / fact m) 0 :: atRun m (left.eraseIdx (k / fact m)) (k % fact m)

theorem atRun_len : ∀ (m : Nat) (left : List Int) (k : Nat), (atRun m left k).length = m
  | 0, _, _ => rfl
  | m + 1, left, k => by unfold atRun; simp [atRun_len m]

/-! ### The answers -/
def backAns (zs : List Int) : List Int × Bool := if Ord zs then (zs.reverse, true) else ([], false)
def otherAns (zs : List Int) : List Int × Bool := if Ord zs then (zs.map (fun z => (zs.length : Int) + 1 - z), true) else ([], false)
/-- The inverse, place by place. -/
def invOf (zs : List Int) : Nat → List Int
  | 0 => List.replicate zs.length 0
  | k + 1 => (invOf zs k).set (zs.getD k 0 - 1).toNat ((k : Int) + 1)
theorem invOf_len (zs : List Int) : ∀ k, (invOf zs k).length = zs.length
  | 0 => by simp [invOf]
  | k + 1 => by simp [invOf, invOf_len zs k]
def inverseAns (zs : List Int) : List Int × Bool := if Ord zs then (invOf zs zs.length, true) else ([], false)
def composeAns (xs ys : List Int) : List Int × Bool := if Ord xs ∧ Ord ys ∧ xs.length = ys.length then (ys.map (fun y => xs.getD (y - 1).toNat 0), true) else ([], false)
def rankAns (zs : List Int) : Int × Bool := if Ord zs then ((rankS zs zs.length : Nat), true) else (0, false)
def invsAns (zs : List Int) : Int × Bool := if Ord zs then ((invTo zs zs.length : Nat), true) else (0, false)
def atAns (n k : Int) : List Int × Bool := if 1 ≤ n ∧ n ≤ 7 ∧ 0 ≤ k ∧ k < (fact n.toNat : Int) then (atRun n.toNat (iota n.toNat) k.toNat, true) else ([], false)

theorem back_len {zs xs : List Int} {b : Bool} (h : backAns zs = (xs, b)) : xs.length ≤ 1048576 := by
  unfold backAns at h; split at h
  · rename_i ho; cases h; have := ho.2.1; simp; omega
  · cases h; simp
theorem other_len {zs xs : List Int} {b : Bool} (h : otherAns zs = (xs, b)) : xs.length ≤ 1048576 := by
  unfold otherAns at h; split at h
  · rename_i ho; cases h; have := ho.2.1; simp; omega
  · cases h; simp
theorem inverse_len {zs xs : List Int} {b : Bool} (h : inverseAns zs = (xs, b)) : xs.length ≤ 1048576 := by
  unfold inverseAns at h; split at h
  · rename_i ho; cases h; have := ho.2.1; rw [invOf_len]; omega
  · cases h; simp
theorem compose_len {xs ys zs : List Int} {b : Bool} (h : composeAns xs ys = (zs, b)) : zs.length ≤ 1048576 := by
  unfold composeAns at h; split at h
  · rename_i ho; cases h; have := ho.2.1.2.1; simp; omega
  · cases h; simp
theorem at_len {n k : Int} {zs : List Int} {b : Bool} (h : atAns n k = (zs, b)) : zs.length ≤ 1048576 := by
  unfold atAns at h; split at h
  · rename_i ho; cases h; rw [atRun_len]; omega
  · cases h; simp

end Go.Proofs.Ytddenfnoajdjiaa.OrdMath

/-
  Contract: the model writes a number as the decimal numeral that the library writes. Conditions: the number is between -999999 and 999999.
-/
namespace Go.Proofs.Ytddenfnoajdjiaa.NumC
open Go.RowKit SeesC

/-- A list of bytes as a text. -/
def txt (l : List UInt8) : ByteArray := ⟨l.toArray⟩

theorem txt_list (l : List UInt8) : (txt l).data.toList = l := by simp [txt]
theorem txt_append (a b : List UInt8) : txt a ++ txt b = txt (a ++ b) := by
  unfold txt
  have : ∀ x y : ByteArray, x.data = y.data → x = y := fun x y h => by cases x; cases y; cases h; rfl
  apply this
  simp

theorem digits_len : ∀ u : Nat, (Lib.decDigits u).length ≤ u + 1 := by
  intro u
  induction u using Nat.strongRecOn with
  | _ u ih =>
    by_cases h : u < 10
    · rw [Lib.decDigits_one h]; simp
    · rw [Lib.decDigits, dif_neg h]
      have := ih (u / 10) (by omega)
      rw [List.length_append]
      simp only [List.length_cons, List.length_nil]
      omega

theorem txt_size (l : List UInt8) : (txt l).size = l.length := by show l.toArray.size = _; simp

/-- The digit of the table. -/
theorem digit_at : ∀ d : Fin 10, (ByteArray.extract { data := #[48, 49, 50, 51, 52, 53, 54, 55, 56, 57] } d.val (d.val + 1)) = txt [UInt8.ofNat (48 + d.val)] := by decide +kernel

set_option maxRecDepth 100000 in
theorem slice_digit (u : Nat) (h : u < 10) (W : World) : (Instr.slice 9 (Value.string { data := #[48, 49, 50, 51, 52, 53, 54, 55, 56, 57] }) (some (Value.int IntKind.i64 (u : Int))) (some (Value.int IntKind.i64 ((u : Int) + 1))) none).run Try.prog W = .ok (.string (txt [UInt8.ofNat (48 + u)])) W := by
  have hu : u = 0 ∨ u = 1 ∨ u = 2 ∨ u = 3 ∨ u = 4 ∨ u = 5 ∨ u = 6 ∨ u = 7 ∨ u = 8 ∨ u = 9 := by omega
  rcases hu with rfl | rfl | rfl | rfl | rfl | rfl | rfl | rfl | rfl | rfl
  all_goals first | kernel_rfl | rfl

end Go.Proofs.Ytddenfnoajdjiaa.NumC

/-
  An append as one step of a region that draws. Conditions: as it states. Nothing of the program.
-/
namespace Go.Proofs.Ytddenfnoajdjiaa.IterC
open Go.RowKit SeesC IntsC ExactC

/-- An append to a row of the call's own, as one step of a region that draws its order. -/
theorem step_append_own {P : Program} (w : World) {ops : Array Oper} {o : Oper} {a : Act} {K : Act → World → Prop} {Q : Exit → Act → World → Prop} {E : Prop} (hgd : o.guard = none) (s x : Operand) (t : TypeId)
    (ho : o.op = .call { callee := .builtin .append, args := #[s, x], argTypes := #[t, t] })
    (base : Nat) (e : TypeId) (i : TypeInfo) (z : Value) (size bytes : Nat) (ht : P.underlying t = some (.slice e)) (hi : P.info? e = some i) (hz : i.zero = some z)
    (hsize : i.size = size) (hby : i.bytes = bytes) (hzs : z.cells.size = size) (hsz : 0 < size)
    (v : Value) (n : Nat) (xs : List Value) (hs : a.eval s = v) (hown : w.ownsRow base e size v n xs)
    (ad : Addr) (m c : Nat) (news : List Value) (hx : a.eval x = .slice (some ad) m c) (hl : news.length = m * size) (hnews : ∀ j u, news[j]? = some u → w.cell? (ad.add j) = some u) (h1 : ∀ u ∈ news, u.oneCell' = true)
    (h63 : n + m ≤ maxLen) (hbytes : (n + m) * bytes ≤ 140737488355328) (hbase : base ≤ w.heap.size)
    (h : ∀ v' w', w'.ownsRow base e size v' (n + m) (xs ++ news) → w.grownBy w' v.ownBlock → (v' = .slice none 0 0 ↔ v = .slice none 0 0 ∧ m = 0) → K (a.put o.dst v') w') :
    if Region.wanted o (yielded ops a.tmps) = true then Oper.wp P o a w K Q else E := by
  have hw : Region.wanted o (yielded ops a.tmps) = true := by simp [Region.wanted, hgd]
  rw [if_pos hw]
  exact wp_append_own w s x t ho base e i z size bytes ht hi hz hsize hby hzs hsz v n xs hs hown ad m c news hx hl hnews h1 h63 hbytes hbase h

end Go.Proofs.Ytddenfnoajdjiaa.IterC

/-
  What a walk carries over a range over a text: the iterator's block, beside a row of the call's own; bytes of the call's own as a text; an append as one step of a region that draws. Conditions: as each states.
-/
namespace Go.Proofs.Ytddenfnoajdjiaa.IterC
open Go.RowKit SeesC IntsC ExactC NumC

theorem iter_grown {w : World} {k : Nat} {s : ByteArray} {pos : Nat} (_hk : w.heap[k]? = some (.stringIter s pos)) (pos' : Nat) : w.grownBy (w.iterAt k s pos') (some k) :=
  ⟨rfl, rfl, rfl, by rw [Lib.iterAt_size]; exact Nat.le_refl _, fun j _ hne => Lib.iterAt_other w k j s pos' (fun e => hne (by rw [e]))⟩

theorem own_ne_iter {w : World} {base size n k pos : Nat} {ty : TypeId} {v : Value} {xs : List Value} {s : ByteArray} (h : w.ownsRow base ty size v n xs) (hk : w.heap[k]? = some (.stringIter s pos)) : v.ownBlock ≠ some k := by
  rcases h.2 with ⟨rfl, _⟩ | ⟨g, cap, cur, rfl, _, hg, _⟩
  · simp [Value.ownBlock]
  · simp only [Value.ownBlock, ne_eq, Option.some.injEq]
    rintro rfl
    rw [hk] at hg
    cases hg

theorem own_iterAt {w : World} {base size n k pos : Nat} {ty : TypeId} {v : Value} {xs : List Value} {s : ByteArray} (h : w.ownsRow base ty size v n xs) (hk : w.heap[k]? = some (.stringIter s pos)) (pos' : Nat) : (w.iterAt k s pos').ownsRow base ty size v n xs :=
  h.kept (iter_grown hk pos') (.inr (own_ne_iter h hk))

theorem iter_kept {w w' : World} {row : Option Nat} {k pos : Nat} {s : ByteArray} (hk : w.heap[k]? = some (.stringIter s pos)) (hg : w.grownBy w' row) (hne : row ≠ some k) : w'.heap[k]? = some (.stringIter s pos) := by
  have hlt : k < w.heap.size := (Array.getElem?_eq_some_iff.1 hk).1
  rw [hg.block k hlt (fun e => hne e.symm)]
  exact hk

theorem iter_alloc {w : World} {k pos : Nat} {s : ByteArray} (hk : w.heap[k]? = some (.stringIter s pos)) (o : Obj) : (w.alloc o).heap[k]? = some (.stringIter s pos) := by
  have hlt : k < w.heap.size := (Array.getElem?_eq_some_iff.1 hk).1
  rw [Below.heap_alloc w o k hlt]
  exact hk

theorem iter_pos {w : World} {k pos : Nat} {s : ByteArray} (hk : w.heap[k]? = some (.stringIter s pos)) : w.iterPos k = pos := by simp [World.iterPos, hk]

theorem width_pos (s : ByteArray) (pos : Nat) (h : pos < s.size) : 1 ≤ (Utf8.decode s pos).2 := by
  by_cases ha : (s[pos]'h).toNat < 128
  · rw [decode_ascii s pos h ha]; exact Nat.le_refl _
  · exact (decode_high s pos h (by omega)).2

/-- Bytes as values. -/
abbrev bvals (l : List UInt8) : List Value := l.map fun c => Value.int .u8 (c.toNat : Int)

theorem own_text {w : World} {base g n cap : Nat} {l : List UInt8} (h : w.ownsRow base 5 1 (.slice (some ⟨g, 0, none⟩) n cap) n (bvals l)) :
    (convert 22 9 (.slice (some ⟨g, 0, none⟩) n cap)).run Try.prog w = .ok (.string (txt l)) w := by
  have hl : l.length = n := by simpa using h.1
  subst hl
  refine run_convert_bytes_back (P := Try.prog) w 22 9 5 ⟨g, 0, none⟩ cap l Try.underlying22 Try.underlying5 Try.underlying9 (fun j hj => ?_)
  have e : (⟨g, 0, none⟩ : Addr).add j = ⟨g, j, none⟩ := by simp [Addr.add]; omega
  rw [e, h.cellAt j (by omega)]
  simp [hj]

theorem bvals_len (l : List UInt8) : (bvals l).length = l.length := by simp

theorem bput_next {L zs : List UInt8} {k : Nat} {z : UInt8} (hl : L.length = zs.length) (hk : k < L.length) (h : L[k] = z) : (bvals (L.take k ++ zs.drop k)).set k (.int .u8 (z.toNat : Int)) = bvals (L.take (k + 1) ++ zs.drop (k + 1)) := by
  unfold bvals
  rw [← List.map_set (f := fun c : UInt8 => Value.int .u8 (c.toNat : Int)), List.set_append_right _ _ (by simp; omega)]
  have e3 : k - (L.take k).length = 0 := by simp; omega
  rw [e3, List.drop_eq_getElem_cons (by omega), List.set_cons_zero, List.take_succ_eq_append_getElem hk, h, List.append_assoc]
  rfl

theorem infoB : (Try.prog.info? 5).map (fun i => (i.zero, i.size, i.bytes)) = some (some (.int .u8 0), 1, 1) := by kernel_rfl

theorem made_byte (n : Nat) : (madeCells (Value.int .u8 0).cells (n * 1)).toList = bvals (List.replicate n 0) := by
  apply List.ext_getElem
  · simp [madeCells]
  · intro i h1 h2; simp [madeCells, Value.cells, Nat.mod_one]

end Go.Proofs.Ytddenfnoajdjiaa.IterC

/-
  The mathematics of words: what a word is, its depth, what comes out by it, and the word that leads to an order. Conditions: none. Plain facts on texts and lists: nothing of the program.
-/
namespace Go.Proofs.Ytddenfnoajdjiaa.WordMath

/-- The byte at a place. -/
def byt (w : ByteArray) (k : Nat) : UInt8 := w.data.toList.getD k 0

theorem byt_at (w : ByteArray) (k : Nat) (h : k < w.size) : byt w k = w[k] := by
  have h2 : k < w.data.toList.length := by rw [Array.length_toList]; exact h
  unfold byt
  rw [List.getD_eq_getElem?_getD, List.getElem?_eq_getElem h2]
  simp
  rfl

/-- One sign. -/
def stepOf (c : UInt8) (d : Nat) : Option Nat := if c = 73 then some (d + 1) else if c = 79 ∧ 0 < d then some (d - 1) else none

/-- How many numbers are on the stack behind the first signs. -/
def heldTo (w : ByteArray) : Nat → Option Nat
  | 0 => some 0
  | k + 1 => (heldTo w k).bind (stepOf (byt w k))

theorem held_I {w : ByteArray} {k d : Nat} (h : heldTo w k = some d) (hc : byt w k = 73) : heldTo w (k + 1) = some (d + 1) := by
  simp [heldTo, h, stepOf, hc]

theorem held_O {w : ByteArray} {k d : Nat} (h : heldTo w k = some d) (hc : byt w k = 79) (hd : 0 < d) : heldTo w (k + 1) = some (d - 1) := by
  simp [heldTo, h, stepOf, hc, hd]

theorem held_bad {w : ByteArray} {k d : Nat} (h : heldTo w k = some d) (h1 : byt w k ≠ 73) (h2 : ¬ (byt w k = 79 ∧ 0 < d)) : heldTo w (k + 1) = none := by
  simp [heldTo, h, stepOf, h1, h2]

theorem held_none {w : ByteArray} {k : Nat} (h : heldTo w k = none) : ∀ m, heldTo w (k + m) = none
  | 0 => h
  | m + 1 => by show (heldTo w (k + m)).bind _ = none; rw [held_none h m]; rfl

theorem held_cases {w : ByteArray} {k e : Nat} (h : heldTo w (k + 1) = some e) : ∃ d, heldTo w k = some d ∧ ((byt w k = 73 ∧ e = d + 1) ∨ (byt w k = 79 ∧ 0 < d ∧ e = d - 1)) := by
  cases hk : heldTo w k with
  | none => simp [heldTo, hk] at h
  | some d =>
    refine ⟨d, rfl, ?_⟩
    by_cases h1 : byt w k = 73
    · rw [held_I hk h1] at h; cases h; exact .inl ⟨h1, rfl⟩
    · by_cases h2 : byt w k = 79 ∧ 0 < d
      · rw [held_O hk h2.1 h2.2] at h; cases h; exact .inr ⟨h2.1, h2.2, rfl⟩
      · rw [held_bad hk h1 h2] at h; cases h

theorem held_back {w : ByteArray} : ∀ (m k e : Nat), heldTo w (k + m) = some e → ∃ d, heldTo w k = some d ∧ d ≤ e + m ∧ e ≤ d + m
  | 0, k, e, h => ⟨e, h, by omega, by omega⟩
  | m + 1, k, e, h => by
    obtain ⟨d, hd, hc⟩ := held_cases (k := k + m) h
    obtain ⟨c, h1, h2, h3⟩ := held_back m k d hd
    exact ⟨c, h1, by rcases hc with ⟨_, rfl⟩ | ⟨_, _, rfl⟩ <;> omega, by rcases hc with ⟨_, rfl⟩ | ⟨_, _, rfl⟩ <;> omega⟩

theorem held_parity {w : ByteArray} : ∀ (k d : Nat), heldTo w k = some d → d % 2 = k % 2 ∧ d ≤ k
  | 0, d, h => by cases h; exact ⟨rfl, Nat.le_refl _⟩
  | k + 1, e, h => by
    obtain ⟨d, hd, hc⟩ := held_cases h
    have := held_parity k d hd
    rcases hc with ⟨_, rfl⟩ | ⟨_, _, rfl⟩ <;> omega

/-- A text is a word. -/
def Word (w : ByteArray) : Prop := 2 ≤ w.size ∧ w.size ≤ 14 ∧ heldTo w w.size = some 0

instance (w : ByteArray) : Decidable (Word w) := by unfold Word; infer_instance

def isWord (w : ByteArray) : Bool := decide (Word w)

theorem word_even {w : ByteArray} (h : Word w) : w.size = 2 * (w.size / 2) := by
  have := (held_parity _ _ h.2.2).1; omega

theorem word_bad {w : ByteArray} {k : Nat} (hk : k ≤ w.size) (h : heldTo w k = none) : isWord w = false := by
  unfold isWord; rw [decide_eq_false_iff_not]; rintro ⟨_, _, h3⟩
  obtain ⟨m, hm⟩ : ∃ m, w.size = k + m := ⟨w.size - k, by omega⟩
  rw [hm, held_none h m] at h3
  cases h3

theorem word_ends {w : ByteArray} {d : Nat} (h : heldTo w w.size = some d) (hd : d ≠ 0) : isWord w = false := by
  unfold isWord; rw [decide_eq_false_iff_not]; rintro ⟨_, _, h3⟩; rw [h] at h3; cases h3; exact hd rfl

theorem word_size {w : ByteArray} (h : w.size = 0 ∨ 14 < w.size) : isWord w = false := by
  unfold isWord; rw [decide_eq_false_iff_not]; rintro ⟨h1, h2, _⟩; omega

theorem word_yes {w : ByteArray} (h : heldTo w w.size = some 0) (h0 : w.size ≠ 0) (h14 : w.size ≤ 14) : isWord w = true := by
  unfold isWord; rw [decide_eq_true_iff]
  have := (held_parity _ _ h).1
  exact ⟨by omega, h14, h⟩

/-- In a word each sign is a push or a pop of what is there. -/
theorem Word.at {w : ByteArray} (h : Word w) {k : Nat} (hk : k < w.size) : ∃ d, heldTo w k = some d ∧ d ≤ w.size - k ∧ d ≤ k ∧ ((byt w k = 73 ∧ heldTo w (k + 1) = some (d + 1) ∧ d + 1 ≤ w.size - (k + 1)) ∨ (byt w k = 79 ∧ 0 < d ∧ heldTo w (k + 1) = some (d - 1))) := by
  obtain ⟨m, hm⟩ : ∃ m, w.size = (k + 1) + m := ⟨w.size - (k + 1), by omega⟩
  have h3 := h.2.2
  rw [hm] at h3
  obtain ⟨e, he, h1, h2⟩ := held_back m (k + 1) 0 h3
  obtain ⟨d, hd, hc⟩ := held_cases he
  have hp := held_parity _ _ hd
  refine ⟨d, hd, by rcases hc with ⟨_, rfl⟩ | ⟨_, _, rfl⟩ <;> omega, hp.2, ?_⟩
  rcases hc with ⟨h4, rfl⟩ | ⟨h4, h5, rfl⟩
  · exact .inl ⟨h4, he, by omega⟩
  · exact .inr ⟨h4, h5, he⟩

/-- The depth of the first signs. -/
def depthTo (w : ByteArray) : Nat → Nat
  | 0 => 0
  | k + 1 => max (depthTo w k) ((heldTo w (k + 1)).getD 0)

theorem depth_next {w : ByteArray} {k e : Nat} (h : heldTo w (k + 1) = some e) : depthTo w (k + 1) = max (depthTo w k) e := by simp [depthTo, h]

theorem depth_le {w : ByteArray} : ∀ k, depthTo w k ≤ k
  | 0 => Nat.le_refl _
  | k + 1 => by
    have := depth_le (w := w) k
    cases hk : heldTo w (k + 1) with
    | none => simp [depthTo, hk]; omega
    | some e => rw [depth_next hk]; have := (held_parity _ _ hk).2; omega

def depthAns (w : ByteArray) : Int × Bool := if Word w then ((depthTo w w.size : Nat), true) else (0, false)

/-- The other sign. -/
def mir (c : UInt8) : UInt8 := if c = 73 then 79 else 73

def mirList (w : ByteArray) : List UInt8 := w.data.toList.reverse.map mir

theorem mirList_len (w : ByteArray) : (mirList w).length = w.size := by unfold mirList; rw [List.length_map, List.length_reverse, Array.length_toList]; rfl

theorem mirList_at (w : ByteArray) (k : Nat) (h : k < w.size) : (mirList w)[w.size - 1 - k]'(by rw [mirList_len]; omega) = mir (byt w k) := by
  have h2 : k < w.data.toList.length := by rw [Array.length_toList]; exact h
  have hl : w.data.toList.length = w.size := by rw [Array.length_toList]; rfl
  unfold mirList byt
  rw [List.getElem_map, List.getElem_reverse, List.getD_eq_getElem?_getD, List.getElem?_eq_getElem h2, Option.getD_some]
  congr 2
  omega

/-- What has come out, what is on the stack, and how many have been pushed, behind the first signs. -/
def runTo (zs : List Int) (w : ByteArray) : Nat → List Int × List Int × Nat
  | 0 => ([], [], 0)
  | k + 1 => let r := runTo zs w k
    if byt w k = 73 then (r.1, r.2.1 ++ [zs.getD r.2.2 0], r.2.2 + 1) else (r.1 ++ [r.2.1.getLast?.getD 0], r.2.1.dropLast, r.2.2)

theorem run_I {zs o s : List Int} {x : Nat} {w : ByteArray} {k : Nat} (h : runTo zs w k = (o, s, x)) (hc : byt w k = 73) : runTo zs w (k + 1) = (o, s ++ [zs.getD x 0], x + 1) := by
  simp [runTo, h, hc]

theorem run_O {zs o s : List Int} {x : Nat} {w : ByteArray} {k : Nat} (h : runTo zs w k = (o, s, x)) (hc : byt w k = 79) : runTo zs w (k + 1) = (o ++ [s.getLast?.getD 0], s.dropLast, x) := by
  simp [runTo, h, hc]

theorem run_len {zs : List Int} {w : ByteArray} : ∀ (k d : Nat), heldTo w k = some d → (runTo zs w k).2.1.length = d ∧ (runTo zs w k).1.length + d = (runTo zs w k).2.2 ∧ (runTo zs w k).1.length + (runTo zs w k).2.2 = k
  | 0, d, h => by cases h; exact ⟨rfl, rfl, rfl⟩
  | k + 1, e, h => by
    obtain ⟨d, hd, hc⟩ := held_cases h
    have ih := run_len (zs := zs) k d hd
    obtain ⟨o, s, x, hr⟩ : ∃ o s x, runTo zs w k = (o, s, x) := ⟨_, _, _, rfl⟩
    rw [hr] at ih
    simp only at ih
    rcases hc with ⟨h1, rfl⟩ | ⟨h1, h2, rfl⟩
    · rw [run_I hr h1]; simp; omega
    · rw [run_O hr h1]; simp; omega

def runOut (zs : List Int) (w : ByteArray) : List Int := (runTo zs w w.size).1

end Go.Proofs.Ytddenfnoajdjiaa.WordMath

/-
  Contract: the model tells whether a number lies between two others. Conditions: none.
-/
namespace Go.Proofs.Ytddenfnoajdjiaa.InC
open Go.RowKit SeesC IntsC ExactC

set_option maxRecDepth 100000 in
theorem l1In_yes (x a b : Int) (w : World) (h1 : a ≤ x) (h2 : x ≤ b) :
    Calls Try.prog 94 #[.int .i64 x, .int .i64 a, .int .i64 b] w fun e w' => e = .returned (.bool true) ∧ w = w' := by
  go_enter Try.func94, Try.ntmps94
  go_wp2
  go_ret
  exact ⟨rfl, rfl⟩

set_option maxRecDepth 100000 in
theorem l1In_low (x a b : Int) (w : World) (h1 : ¬ a ≤ x) :
    Calls Try.prog 94 #[.int .i64 x, .int .i64 a, .int .i64 b] w fun e w' => e = .returned (.bool false) ∧ w = w' := by
  go_enter Try.func94, Try.ntmps94
  go_wp2
  go_ret
  exact ⟨rfl, rfl⟩

set_option maxRecDepth 100000 in
theorem l1In_high (x a b : Int) (w : World) (h1 : a ≤ x) (h2 : ¬ x ≤ b) :
    Calls Try.prog 94 #[.int .i64 x, .int .i64 a, .int .i64 b] w fun e w' => e = .returned (.bool false) ∧ w = w' := by
  go_enter Try.func94, Try.ntmps94
  go_wp2
  go_ret
  exact ⟨rfl, rfl⟩

theorem l1In_any (x a b : Int) (w : World) (r : Bool) (h : decide (a ≤ x ∧ x ≤ b) = r) :
    Calls Try.prog 94 #[.int .i64 x, .int .i64 a, .int .i64 b] w fun e w' => e = .returned (.bool r) ∧ w = w' := by
  subst h
  by_cases h1 : a ≤ x
  · by_cases h2 : x ≤ b
    · rw [decide_eq_true ⟨h1, h2⟩]; exact l1In_yes x a b w h1 h2
    · rw [decide_eq_false (fun h => h2 h.2)]; exact l1In_high x a b w h1 h2
  · rw [decide_eq_false (fun h => h1 h.1)]; exact l1In_low x a b w h1

end Go.Proofs.Ytddenfnoajdjiaa.InC

/-
  Contracts: the model and the program tell whether a text is a word, and how deep it is. Conditions: texts of at most 2^20 bytes.
-/
namespace Go.Proofs.Ytddenfnoajdjiaa.WordC
open Go.RowKit SeesC IntsC ExactC NumC IterC WordMath InC

theorem byt_nat {s : ByteArray} {k : Nat} (h : k < s.size) (c : Nat) (hc : c < 256) : (s[k].toNat = c) ↔ byt s k = UInt8.ofNat c := by
  rw [byt_at s k h]
  constructor
  · intro e; apply UInt8.toNat_inj.1; rw [e, UInt8.toNat_ofNat']; omega
  · intro e; rw [e, UInt8.toNat_ofNat']; omega

theorem ne_int {a b : Nat} (h : a ≠ b) : ((a : Int) == (b : Int)) = false := by rw [beq_eq_false_iff_ne]; omega

set_option maxRecDepth 100000 in
set_option maxHeartbeats 1000000 in
theorem l2Word_any (s : ByteArray) (n : Nat) (W : World) (r : Bool) (hs : s.size ≤ 1048576) (hn : n ≤ 1048576) (h : decide (s.size = 2 * n ∧ heldTo s s.size = some 0) = r) :
    Calls Try.prog 70 #[.string s, .int .i64 n] W fun e w' => e = .returned (.bool r) ∧ W = w' := by
  by_cases hsn : s.size = 2 * n
  · have hne : ((s.size : Int) == 2 * (n : Int)) = true := by rw [beq_iff_eq]; omega
    have hne2 : (s.size : Int) = 2 * (n : Int) := by omega
    have H := Go.Lib.hid h
    clear h
    go_enter Try.func70, Try.ntmps70
    go_wp2
    go_loop [5, 6] (fun dv kv => ∃ (k d : Nat), k ≤ s.size ∧ kv = .int .i64 k ∧ dv = .int .i64 d ∧ d ≤ k ∧ Hid (heldTo s k = some d)) (fun _ k => s.size - (intOf k).toNat)
    case atStart => exact ⟨0, 0, Nat.zero_le _, rfl, rfl, Nat.le_refl _, Go.Lib.hid rfl⟩
    case round =>
      obtain ⟨k, d, hk, rfl, rfl, hd, HD⟩ := hrel
      by_cases hlt : k < s.size
      · have hlti : (k : Int) < (s.size : Int) := by omega
        by_cases hI : s[k].toNat = 73
        · have hI2 : (s[k].toNat : Int) = 73 := by omega
          have HN : Hid (heldTo s (k + 1) = some (d + 1)) := Go.Lib.hid (held_I HD.out ((byt_nat hlt 73 (by omega)).1 hI))
          clear hI hne hne2 hsn
          go_wp2
          go_round
          case rel => exact ⟨k + 1, d + 1, by omega, by go_num, by go_num, by omega, HN⟩
          case measure => simp [intOf]; omega
        · have hI2 : ((s[k].toNat : Int) == 73) = false := ne_int hI
          have hb1 : byt s k ≠ 73 := fun e => hI ((byt_nat hlt 73 (by omega)).2 e)
          by_cases hO : s[k].toNat = 79
          · have hO2 : (s[k].toNat : Int) = 79 := by omega
            have hbO := (byt_nat hlt 79 (by omega)).1 hO
            by_cases hd0 : 0 < d
            · have HN : Hid (heldTo s (k + 1) = some (d - 1)) := Go.Lib.hid (held_O HD.out hbO hd0)
              have hd0i : (0 : Int) < (d : Int) := by omega
              have hb1' := Go.Lib.hid hb1
              clear hI hO hne hne2 hsn hb1 hbO hI2
              go_wp2
              go_round
              case rel => exact ⟨k + 1, d - 1, by omega, by go_num, by go_num, by omega, HN⟩
              case measure => simp [intOf]; omega
            · have HR : Hid (r = false) := Go.Lib.hid (by
                rw [← H.out, decide_eq_false_iff_not]; rintro ⟨_, h3⟩
                obtain ⟨m, hm⟩ : ∃ m, s.size = k + 1 + m := ⟨s.size - (k + 1), by omega⟩
                rw [hm, held_none (held_bad HD.out hb1 (fun e => hd0 e.2)) m] at h3
                cases h3)
              have hd0' : d = 0 := by omega
              subst hd0'
              clear hI hO hne hne2 hsn hb1 hbO hI2
              go_wp2
              go_ret
              exact ⟨by rw [HR.out]; rfl, rfl⟩
          · have hO2 : ((s[k].toNat : Int) == 79) = false := ne_int hO
            have HR : Hid (r = false) := Go.Lib.hid (by
              rw [← H.out, decide_eq_false_iff_not]; rintro ⟨_, h3⟩
              obtain ⟨m, hm⟩ : ∃ m, s.size = k + 1 + m := ⟨s.size - (k + 1), by omega⟩
              rw [hm, held_none (held_bad HD.out hb1 (fun e => hO ((byt_nat hlt 79 (by omega)).2 e.1))) m] at h3
              cases h3)
            clear hI hO hne hne2 hsn hb1
            go_wp2
            go_ret
            exact ⟨by rw [HR.out]; rfl, rfl⟩
      · have hkn : k = s.size := by omega
        by_cases hd0 : d = 0
        · have HR : Hid (r = true) := Go.Lib.hid (by rw [← H.out, decide_eq_true_iff]; exact ⟨hsn, by rw [← hkn, HD.out, hd0]⟩)
          subst hd0
          clear hne hne2 hsn
          go_wp2
          go_ret
          exact ⟨by rw [HR.out]; rfl, rfl⟩
        · have HR : Hid (r = false) := Go.Lib.hid (by rw [← H.out, decide_eq_false_iff_not]; rintro ⟨_, h3⟩; rw [← hkn, HD.out] at h3; cases h3; exact hd0 rfl)
          have hd1 : ((d : Int) == 0) = false := by rw [beq_eq_false_iff_ne]; omega
          clear hne hne2 hsn
          go_wp2
          go_ret
          exact ⟨by rw [HR.out]; rfl, rfl⟩
  · have hne : ((s.size : Int) == 2 * (n : Int)) = false := by rw [beq_eq_false_iff_ne]; omega
    have hne2 : ¬ (s.size : Int) = 2 * (n : Int) := by omega
    have HR : Hid (r = false) := Go.Lib.hid (by rw [← h, decide_eq_false_iff_not]; exact fun e => hsn e.1)
    clear h
    go_enter Try.func70, Try.ntmps70
    go_wp2
    go_ret
    exact ⟨by rw [HR.out]; rfl, rfl⟩

set_option maxRecDepth 100000 in
theorem l2Any_any (s : ByteArray) (W : World) (r : Bool) (hs : s.size ≤ 1048576) (h : isWord s = r) :
    Calls Try.prog 84 #[.string s] W fun e w' => e = .returned (.bool r) ∧ W = w' := by
  by_cases h2 : 2 ≤ s.size ∧ s.size ≤ 14
  · have C1 := fun w2 => l1In_any (s.size : Int) 2 14 w2 true (by rw [decide_eq_true_iff]; omega)
    have C2 := fun w2 => l2Word_any s (s.size / 2) w2 r hs (by omega) (by
      rw [← h]; unfold isWord
      by_cases hw : Word s
      · rw [decide_eq_true hw, decide_eq_true_iff]; exact ⟨word_even hw, hw.2.2⟩
      · rw [decide_eq_false hw, decide_eq_false_iff_not]; rintro ⟨_, h3⟩; exact hw ⟨h2.1, h2.2, h3⟩)
    have e : ((s.size / 2 : Nat) : Int) = (s.size : Int) / 2 := by omega
    rw [e] at C2
    have H1 := Go.Lib.hid C1
    have H2 := Go.Lib.hid C2
    clear C1 C2 e h
    go_enter Try.func84, Try.ntmps84
    go_wp2_with fail
    refine (H1.out _).mono ?_
    rintro e w1 ⟨rfl, rfl⟩
    go_wp2_with fail
    refine (H2.out _).mono ?_
    rintro e w1 ⟨rfl, rfl⟩
    go_wp2_with fail
    go_ret
    exact ⟨rfl, rfl⟩
  · have C1 := Go.Lib.hid (fun w2 => l1In_any (s.size : Int) 2 14 w2 false (by rw [decide_eq_false_iff_not]; omega))
    have HR : Hid (r = false) := Go.Lib.hid (by rw [← h]; unfold isWord; rw [decide_eq_false_iff_not]; rintro ⟨h3, h4, _⟩; exact h2 ⟨h3, h4⟩)
    clear h h2
    go_enter Try.func84, Try.ntmps84
    go_wp2_with fail
    refine (C1.out _).mono ?_
    rintro e w1 ⟨rfl, rfl⟩
    go_wp2_with fail
    go_ret
    exact ⟨by rw [HR.out]; rfl, rfl⟩

set_option maxRecDepth 100000 in
theorem l1Most_any (a b : Nat) (W : World) :
    Calls Try.prog 92 #[.int .i64 a, .int .i64 b] W fun e w' => e = .returned (.int .i64 ((max a b : Nat) : Int)) ∧ W = w' := by
  by_cases h : b < a
  · have hi : (b : Int) < (a : Int) := by omega
    have HM : Hid (max a b = a) := Go.Lib.hid (by omega)
    go_enter Try.func92, Try.ntmps92
    go_wp2
    go_ret
    exact ⟨by rw [HM.out]; rfl, rfl⟩
  · have hi : ¬ (b : Int) < (a : Int) := by omega
    have HM : Hid (max a b = b) := Go.Lib.hid (by omega)
    go_enter Try.func92, Try.ntmps92
    go_wp2
    go_ret
    exact ⟨by rw [HM.out]; rfl, rfl⟩

set_option maxRecDepth 100000 in
set_option maxHeartbeats 2000000 in
theorem implDepth (s : ByteArray) (r : Int) (b : Bool) (h : depthAns s = (r, b)) (hs : s.size ≤ 1048576) (W : World) :
    Calls Try.prog 85 #[.string s] W fun e w' => e = .returned (.tuple #[.int .i64 r, .bool b]) ∧ Below W.heap.size W w' := by
  have HX : Hid (if isWord s = true then r = (depthTo s s.size : Nat) ∧ b = true else r = 0 ∧ b = false) := Go.Lib.hid (by
    unfold depthAns at h
    by_cases hw : Word s
    · rw [if_pos hw] at h; cases h; rw [if_pos (by unfold isWord; exact decide_eq_true hw)]; exact ⟨rfl, rfl⟩
    · rw [if_neg hw] at h; cases h; rw [if_neg (by unfold isWord; rw [decide_eq_false hw]; decide)]; exact ⟨rfl, rfl⟩)
  clear h
  by_cases h14 : s.size ≤ 14
  · by_cases h0 : s.size = 0
    · have hF := word_size (w := s) (.inl h0)
      obtain ⟨rfl, rfl⟩ : r = 0 ∧ b = false := by have := HX.out; rw [hF] at this; simpa using this
      have h0i : (s.size : Int) = 0 := by omega
      clear HX
      go_enter Try.func85, Try.ntmps85
      go_wp2
      go_ret2
      exact ⟨rfl, Below.refl _ _⟩
    · have h0i : ((s.size : Int) == 0) = false := by rw [beq_eq_false_iff_ne]; omega
      have h14i : ¬ (14 : Int) < (s.size : Int) := by omega
      have H0 := Go.Lib.hid h0
      go_enter Try.func85, Try.ntmps85
      go_wp2
      go_loopw [4, 5] (fun dv mv wr => ∃ (pos d m : Nat), wr.heap[W.heap.size]? = some (.stringIter s pos) ∧ Below W.heap.size W wr ∧ pos ≤ s.size ∧ dv = .int .i64 d ∧ mv = .int .i64 m ∧ d ≤ pos ∧ m ≤ pos ∧ Hid (heldTo s pos = some d ∧ depthTo s pos = m)) (fun _ _ wr => s.size - wr.iterPos W.heap.size)
      case atStart => exact ⟨0, 0, 0, heap_alloc_new _ _, (Below.refl _ _).alloc (Nat.le_refl _) _, Nat.zero_le _, rfl, rfl, Nat.le_refl _, Nat.le_refl _, Go.Lib.hid ⟨rfl, rfl⟩⟩
      case round =>
        obtain ⟨pos, d, m, hit, hb, hpos, rfl, rfl, hd, hm, HD⟩ := hrel
        have hpos0 := iter_pos hit
        by_cases hp : pos < s.size
        · have hnx : ∀ ty, (Instr.next (.pointer (some ⟨W.heap.size, 0, none⟩)) true ty).run Try.prog wr = _ := fun ty => Lib.run_next_any_at wr W.heap.size s pos ty hit hp
          by_cases ha : (s[pos]'hp).toNat < 128
          · rw [decode_ascii s pos hp ha] at hnx
            have hit2 := Lib.iterAt_heap wr W.heap.size s pos (pos + 1) hit
            have hb2 : Below W.heap.size W (wr.iterAt W.heap.size s (pos + 1)) := Lib.below_iterAt hb (Nat.le_refl _) s (pos + 1)
            obtain ⟨wi, hwi⟩ : ∃ wi, wr.iterAt W.heap.size s (pos + 1) = wi := ⟨_, rfl⟩
            simp only [hwi] at hnx hit2 hb2
            have H2 := Go.Lib.hid (And.intro hit2 (And.intro hb2 hpos0))
            clear hit hb hwi hit2 hb2 hpos0
            by_cases hI : s[pos].toNat = 73
            · have hn := held_I HD.out.1 ((byt_nat hp 73 (by omega)).1 hI)
              have hdn := depth_next hn
              rw [HD.out.2] at hdn
              have hle := depth_le (w := s) (pos + 1)
              simp only [hI] at hnx
              have HI := Go.Lib.hid hI
              clear hI
              by_cases hmx : m < d + 1
              · have HN : Hid (heldTo s (pos + 1) = some (d + 1) ∧ depthTo s (pos + 1) = d + 1) := Go.Lib.hid ⟨hn, by rw [hdn]; omega⟩
                have hmxi : (m : Int) < (d : Int) + 1 := by omega
                have hmxl : (m : Int) ≤ (d : Int) + 1 := by omega
                clear hn hdn hle
                go_wp2
                go_roundw
                case rel => exact ⟨pos + 1, d + 1, d + 1, H2.out.1, H2.out.2.1, by omega, by go_num, by go_num, by omega, by omega, HN⟩
                case measure => rw [iter_pos H2.out.1, H2.out.2.2]; omega
              · have HN : Hid (heldTo s (pos + 1) = some (d + 1) ∧ depthTo s (pos + 1) = m) := Go.Lib.hid ⟨hn, by rw [hdn]; omega⟩
                have hmxi : ¬ (m : Int) < (d : Int) + 1 := by omega
                have hmxl : (d : Int) + 1 ≤ (m : Int) := by omega
                clear hn hdn hle
                go_wp2
                go_roundw
                case rel => exact ⟨pos + 1, d + 1, m, H2.out.1, H2.out.2.1, by omega, by go_num, by go_num, by omega, by omega, HN⟩
                case measure => rw [iter_pos H2.out.1, H2.out.2.2]; omega
            · have hb1 : byt s pos ≠ 73 := fun e => hI ((byt_nat hp 73 (by omega)).2 e)
              have hI2 : ((s[pos].toNat : Int) == 73) = false := ne_int hI
              by_cases hO : s[pos].toNat = 79 ∧ 0 < d
              · have hn := held_O HD.out.1 ((byt_nat hp 79 (by omega)).1 hO.1) hO.2
                have hdn := depth_next hn
                rw [HD.out.2] at hdn
                have hd0i : (0 : Int) < (d : Int) := by omega
                have hd1 := hO.2
                have hO1 := hO.1
                simp only [hO1] at hnx
                have HI := Go.Lib.hid (And.intro hI (And.intro hI2 hb1))
                clear hI hI2 hb1 hO hO1
                by_cases hmx : m < d - 1
                · have HN : Hid (heldTo s (pos + 1) = some (d - 1) ∧ depthTo s (pos + 1) = d - 1) := Go.Lib.hid ⟨hn, by rw [hdn]; omega⟩
                  have hmxi : (m : Int) < (d : Int) - 1 := by omega
                  have hmxl : (m : Int) ≤ (d : Int) - 1 := by omega
                  clear hn hdn
                  go_wp2
                  go_roundw
                  case rel => exact ⟨pos + 1, d - 1, d - 1, H2.out.1, H2.out.2.1, by omega, by go_num, by go_num, by omega, by omega, HN⟩
                  case measure => rw [iter_pos H2.out.1, H2.out.2.2]; omega
                · have HN : Hid (heldTo s (pos + 1) = some (d - 1) ∧ depthTo s (pos + 1) = m) := Go.Lib.hid ⟨hn, by rw [hdn]; omega⟩
                  have hmxi : ¬ (m : Int) < (d : Int) - 1 := by omega
                  have hmxl : (d : Int) - 1 ≤ (m : Int) := by omega
                  clear hn hdn
                  go_wp2
                  go_roundw
                  case rel => exact ⟨pos + 1, d - 1, m, H2.out.1, H2.out.2.1, by omega, by go_num, by go_num, by omega, by omega, HN⟩
                  case measure => rw [iter_pos H2.out.1, H2.out.2.2]; omega
              · have hF : isWord s = false := word_bad (k := pos + 1) (by omega) (held_bad HD.out.1 hb1 (fun e => hO ⟨(byt_nat hp 79 (by omega)).2 e.1, e.2⟩))
                obtain ⟨rfl, rfl⟩ : r = 0 ∧ b = false := by have := HX.out; rw [hF] at this; simpa using this
                clear HX hF
                by_cases hO1 : s[pos].toNat = 79
                · have hd0 : d = 0 := by omega
                  subst hd0
                  simp only [hO1] at hnx
                  clear hI hI2 hb1 hO hO1
                  go_wp2
                  go_ret2
                  exact ⟨rfl, H2.out.2.1⟩
                · have hO2 : ((s[pos].toNat : Int) == 79) = false := ne_int hO1
                  clear hI hb1 hO hO1
                  go_wp2
                  go_ret2
                  exact ⟨rfl, H2.out.2.1⟩
          · have hhi := (decode_high s pos hp (by omega)).1
            have hb1 : byt s pos ≠ 73 := fun e => by have := (byt_nat hp 73 (by omega)).2 e; omega
            have hb2' : byt s pos ≠ 79 := fun e => by have := (byt_nat hp 79 (by omega)).2 e; omega
            have hF : isWord s = false := word_bad (k := pos + 1) (by omega) (held_bad HD.out.1 hb1 (fun e => hb2' e.1))
            obtain ⟨rfl, rfl⟩ : r = 0 ∧ b = false := by have := HX.out; rw [hF] at this; simpa using this
            obtain ⟨rn, hrn⟩ : ∃ rn, (Utf8.decode s pos).1 = rn := ⟨_, rfl⟩
            obtain ⟨wd, hwdd⟩ : ∃ wd, (Utf8.decode s pos).2 = wd := ⟨_, rfl⟩
            rw [hrn] at hhi
            rw [hrn, hwdd] at hnx
            have hI2 : ((rn : Int) == 73) = false := ne_int (a := rn) (b := 73) (by omega)
            have hO2 : ((rn : Int) == 79) = false := ne_int (a := rn) (b := 79) (by omega)
            have hb2 : Below W.heap.size W (wr.iterAt W.heap.size s (pos + wd)) := Lib.below_iterAt hb (Nat.le_refl _) s (pos + wd)
            obtain ⟨wi, hwi⟩ : ∃ wi, wr.iterAt W.heap.size s (pos + wd) = wi := ⟨_, rfl⟩
            simp only [hwi] at hnx hb2
            clear hrn hwdd hwi hit hb hb1 hb2' ha hhi hF HX
            go_wp2
            go_ret2
            exact ⟨rfl, hb2⟩
        · have hnx : ∀ ty, (Instr.next (.pointer (some ⟨W.heap.size, 0, none⟩)) true ty).run Try.prog wr = _ := fun ty => Lib.run_next_end_at wr W.heap.size s pos ty hit hp
          have hps : pos = s.size := by omega
          by_cases hd0 : d = 0
          · have hT : isWord s = true := word_yes (by rw [← hps, HD.out.1, hd0]) H0.out h14
            obtain ⟨hr, rfl⟩ : r = (depthTo s s.size : Nat) ∧ b = true := by have := HX.out; rw [hT] at this; simpa using this
            have HR : Hid (r = (m : Int)) := Go.Lib.hid (by rw [hr, ← hps, HD.out.2])
            subst hd0
            clear hr hT HX hit hpos0
            go_wp2
            go_ret2
            exact ⟨by rw [HR.out]; rfl, hb⟩
          · have hF : isWord s = false := word_ends (d := d) (by rw [← hps, HD.out.1]) hd0
            obtain ⟨rfl, rfl⟩ : r = 0 ∧ b = false := by have := HX.out; rw [hF] at this; simpa using this
            have hd1 : ((d : Int) == 0) = false := by rw [beq_eq_false_iff_ne]; omega
            clear hF HX hit hpos0
            go_wp2
            go_ret2
            exact ⟨rfl, hb⟩
  · have hF := word_size (w := s) (.inr (by omega))
    obtain ⟨rfl, rfl⟩ : r = 0 ∧ b = false := by have := HX.out; rw [hF] at this; simpa using this
    have h0i : ((s.size : Int) == 0) = false := by rw [beq_eq_false_iff_ne]; omega
    have h14i : (14 : Int) < (s.size : Int) := by omega
    clear HX
    go_enter Try.func85, Try.ntmps85
    go_wp2
    go_ret2
    exact ⟨rfl, Below.refl _ _⟩

set_option maxRecDepth 100000 in
theorem implIsWord (s : ByteArray) (b : Bool) (h : isWord s = b) (hs : s.size ≤ 1048576) (W : World) :
    Calls Try.prog 34 #[.string s] W fun e w' => ValTo W e w' (.bool b) := by
  obtain ⟨⟨r, b'⟩, hd⟩ : ∃ p, depthAns s = p := ⟨_, rfl⟩
  obtain rfl : b = b' := by
    unfold depthAns at hd
    rw [← h]
    unfold isWord
    by_cases hw : Word s
    · rw [if_pos hw] at hd; cases hd; exact decide_eq_true hw
    · rw [if_neg hw] at hd; cases hd; exact decide_eq_false hw
  have CA := Go.Lib.hid (implDepth s r b hd hs W)
  clear h hd
  go_enter Try.func34, Try.ntmps34
  go_wp2_with fail
  refine CA.out.mono ?_
  rintro e w1 ⟨rfl, hb⟩
  go_wp2_with fail
  go_ret
  exact ⟨rfl, hb⟩

end Go.Proofs.Ytddenfnoajdjiaa.WordC

/-
  Contracts: the model and the program tell whether a list is an order. Conditions: the list can be read and has at most 2^20 numbers.
-/
namespace Go.Proofs.Ytddenfnoajdjiaa.OrderC
open Go.RowKit SeesC IntsC ExactC OrdMath InC

set_option maxRecDepth 100000 in
theorem l1Has_any (w : World) (v : Value) (n : Nat) (zs : List Int) (x : Int) (r : Bool) (hv : Sees w v n (vals zs)) (hn : n ≤ maxLen) (h : decide (x ∈ zs) = r) :
    Calls Try.prog 110 #[v, .int .i64 x] w fun e w' => e = .returned (.bool r) ∧ w = w' := by
  obtain ⟨hlen, a, cap, rfl, hcap, hc⟩ := hv
  simp at hlen
  unfold maxLen at hn
  go_enter Try.func110, Try.ntmps110
  go_wp2
  go_loop [5] (fun i => ∃ k : Nat, k ≤ n ∧ i = .int .i64 k ∧ Hid (x ∉ zs.take k)) (fun i => n - (intOf i).toNat)
  case atStart => exact ⟨0, Nat.zero_le _, rfl, Go.Lib.hid (by simp)⟩
  case round =>
    obtain ⟨k, hk, rfl, HN⟩ := hrel
    by_cases hlt : k < n
    · obtain ⟨b, o, rfl, hcell⟩ := hc (by omega)
      have hk2 : k < zs.length := by omega
      have hck : w.cell? ⟨b, o + k, none⟩ = some (.int .i64 zs[k]) := hcell k _ (by simp [hk2])
      have hlti : (k : Int) < (n : Int) := by omega
      by_cases he : zs[k] = x
      · have HR : Hid (r = true) := Go.Lib.hid (by rw [← h, decide_eq_true_iff, ← he]; exact List.getElem_mem hk2)
        rw [he] at hck
        clear hcell hc h he
        go_wp2
        go_ret
        exact ⟨by rw [HR.out]; rfl, rfl⟩
      · have HN2 : Hid (x ∉ zs.take (k + 1)) := Go.Lib.hid (by
          rw [List.take_succ_eq_append_getElem hk2, List.mem_append, List.mem_singleton]
          rintro (h1 | h1)
          · exact HN.out h1
          · exact he h1.symm)
        obtain ⟨z, hz⟩ : ∃ z, zs[k] = z := ⟨_, rfl⟩
        rw [hz] at hck he
        have he2 : (z == x) = false := by rw [beq_eq_false_iff_ne]; exact he
        clear hcell hc h hz
        go_wp2
        go_round
        case rel => exact ⟨k + 1, by omega, by go_num, HN2⟩
        case measure => simp [intOf]; omega
    · have HR : Hid (r = false) := Go.Lib.hid (by rw [← h, decide_eq_false_iff_not]; have := HN.out; rwa [List.take_of_length_le (by omega)] at this)
      clear h
      go_wp2
      go_ret
      exact ⟨by rw [HR.out]; rfl, rfl⟩

/-- A prefix of a list that is read. -/
theorem Sees.pre {w : World} {b o n cap : Nat} {zs : List Int} (h : Sees w (.slice (some ⟨b, o, none⟩) n cap) n (vals zs)) (k : Nat) (hk : k ≤ n) : Sees w (.slice (some ⟨b, o, none⟩) k cap) k (vals (zs.take k)) := by
  obtain ⟨h1, a, cap', e, h3, h2⟩ := h
  cases e
  simp at h1
  refine ⟨by simp; omega, _, _, rfl, by omega, fun hk0 => ⟨b, o, rfl, fun j u hu => ?_⟩⟩
  obtain ⟨b', o', e, hc⟩ := h2 (by omega)
  cases e
  apply hc j u
  rw [List.getElem?_map, List.getElem?_take] at hu
  split at hu
  · rw [List.getElem?_map]; exact hu
  · simp at hu

set_option maxRecDepth 100000 in
set_option maxHeartbeats 1000000 in
theorem l2Order_any (w : World) (v : Value) (n : Nat) (zs : List Int) (r : Bool) (hv : Sees w v n (vals zs)) (hn : n ≤ 1048576) (h : isOrd zs = r) :
    Calls Try.prog 69 #[v] w fun e w' => e = .returned (.bool r) ∧ Drawn w w' := by
  have hv2 := Go.Lib.hid hv
  obtain ⟨hlen, a, cap, rfl, hcap, hc⟩ := hv
  simp at hlen
  by_cases h17 : 1 ≤ n ∧ n ≤ 7
  · have C1 := fun W => l1In_yes (n : Int) 1 7 W (by omega) (by omega)
    obtain ⟨b, o, rfl, hcell⟩ := hc (by omega)
    have H := Go.Lib.hid h
    clear hc h
    go_enter Try.func69, Try.ntmps69
    go_wp2_with fail
    refine (C1 _).mono ?_
    rintro e w1 ⟨rfl, rfl⟩
    go_wp2_with fail
    clear C1
    go_loopw [3] (fun i wr => ∃ k : Nat, k ≤ n ∧ i = .int .i64 k ∧ Drawn w wr ∧ Hid ((zs.take k).Nodup ∧ ∀ z ∈ zs.take k, 1 ≤ z ∧ z ≤ (zs.length : Int))) (fun i _ => n - (intOf i).toNat)
    case atStart => exact ⟨0, Nat.zero_le _, rfl, Drawn.refl _, Go.Lib.hid (by simp)⟩
    case round =>
      obtain ⟨k, hk, rfl, HD, HN⟩ := hrel
      by_cases hlt : k < n
      · have hk2 : k < zs.length := by omega
        have hck : wr.cell? ⟨b, o + k, none⟩ = some (.int .i64 zs[k]) := (HD.cell _).trans (hcell k _ (by simp [hk2]))
        have hlti : (k : Int) < (n : Int) := by omega
        by_cases hin : 1 ≤ zs[k] ∧ zs[k] ≤ (n : Int)
        · have D1 := fun W => l1In_yes zs[k] 1 (n : Int) W hin.1 hin.2
          have S1 := Go.Lib.hid (Sees.pre (HD.sees hv2.out) k hk)
          by_cases hdup : zs[k] ∈ zs.take k
          · have HR : Hid (r = false) := Go.Lib.hid (by rw [← H.out]; exact isOrd_dup hk2 hdup)
            have D2 := Go.Lib.hid (fun q => l1Has_any (wr.drewN q) _ k (zs.take k) zs[k] true S1.out.drewN (by unfold maxLen; omega) (by simpa using hdup))
            obtain ⟨z, hz⟩ : ∃ z, zs[k] = z := ⟨_, rfl⟩
            rw [hz] at hck hin D1 D2
            clear hcell hz hdup S1
            go_wp2
            go_quiet (first | (go_at_call 94; exact quiet_same (D1 _)) | (go_at_call 110; exact quiet_same (D2.out _)))
            go_wp2
            go_ret
            exact ⟨by rw [HR.out]; rfl, HD.next _⟩
          · have HN2 : Hid ((zs.take (k + 1)).Nodup ∧ ∀ z ∈ zs.take (k + 1), 1 ≤ z ∧ z ≤ (zs.length : Int)) := Go.Lib.hid ⟨nodup_next hk2 HN.out.1 hdup, by
              intro z hz
              rw [List.take_succ_eq_append_getElem hk2, List.mem_append, List.mem_singleton] at hz
              rcases hz with hz | rfl
              · exact HN.out.2 z hz
              · rw [hlen]; exact hin⟩
            have D2 := Go.Lib.hid (fun q => l1Has_any (wr.drewN q) _ k (zs.take k) zs[k] false S1.out.drewN (by unfold maxLen; omega) (by simpa using hdup))
            obtain ⟨z, hz⟩ : ∃ z, zs[k] = z := ⟨_, rfl⟩
            rw [hz] at hck hin D1 D2
            clear hcell hz hdup S1
            go_wp2
            go_quiet (first | (go_at_call 94; exact quiet_same (D1 _)) | (go_at_call 110; exact quiet_same (D2.out _)))
            go_wp2
            go_roundw
            case rel => exact ⟨k + 1, by omega, by go_num, HD.next _, HN2⟩
            case measure => simp [intOf]; omega
        · have D1 := fun W => l1In_any zs[k] 1 (n : Int) W false (by simpa using hin)
          have HR : Hid (r = false) := Go.Lib.hid (by rw [← H.out]; exact isOrd_range hk2 (by rw [hlen]; exact hin))
          obtain ⟨z, hz⟩ : ∃ z, zs[k] = z := ⟨_, rfl⟩
          rw [hz] at hck hin D1
          clear hcell hz hin
          go_wp2
          go_quiet ((go_at_call 94; exact quiet_same (D1 _)))
          go_wp2
          go_ret
          exact ⟨by rw [HR.out]; rfl, HD.next _⟩
      · have HR : Hid (r = true) := Go.Lib.hid (by
          have := HN.out
          rw [List.take_of_length_le (by omega)] at this
          rw [← H.out]; exact isOrd_yes (by omega) (by omega) this.2 this.1)
        go_wp2
        go_ret
        exact ⟨by rw [HR.out]; rfl, HD⟩
  · have C1 := fun W => l1In_any (n : Int) 1 7 W false (by rw [decide_eq_false_iff_not]; omega)
    have HR : Hid (r = false) := Go.Lib.hid (by rw [← h]; exact isOrd_len (by omega))
    clear h hc h17
    go_enter Try.func69, Try.ntmps69
    go_wp2_with fail
    refine (C1 _).mono ?_
    rintro e w1 ⟨rfl, rfl⟩
    go_wp2_with fail
    go_ret
    exact ⟨by rw [HR.out]; rfl, Drawn.refl _⟩

/-- What the program has noted of the numbers so far. -/
def seen (zs : List Int) (k : Nat) : List Value := (List.range 8).map fun (m : Nat) => Value.bool (decide ((m : Int) ∈ zs.take k))

theorem seen_len (zs : List Int) (k : Nat) : (seen zs k).length = 8 := by simp [seen]

theorem seen_at (zs : List Int) (k m : Nat) (h : m < 8) : (seen zs k)[m]? = some (.bool (decide ((m : Int) ∈ zs.take k))) := by
  simp [seen, h]

theorem seen_next (zs : List Int) (k m : Nat) (hk : k < zs.length) (hm : zs[k] = (m : Int)) (_h8 : m < 8) : (seen zs k).set m (.bool true) = seen zs (k + 1) := by
  apply List.ext_getElem
  · simp [seen]
  · intro i h1 h2
    simp only [seen, List.getElem_set, List.getElem_map, List.getElem_range]
    rw [List.take_succ_eq_append_getElem hk]
    by_cases e : m = i
    · subst e; simp [hm]
    · rw [if_neg e]
      simp only [List.mem_append, List.mem_singleton, hm]
      have : ¬ (i : Int) = (m : Int) := by omega
      simp [this]

set_option maxRecDepth 100000 in
set_option maxHeartbeats 1000000 in
theorem implOrder_any (w : World) (v : Value) (n : Nat) (zs : List Int) (r : Bool) (hv : Sees w v n (vals zs)) (hn : n ≤ 1048576) (h : isOrd zs = r) :
    Calls Try.prog 48 #[v] w fun e w' => ValTo w e w' (.bool r) := by
  have hvb := fun hp => hv.lt hp
  obtain ⟨hlen, a, cap, rfl, hcap, hc⟩ := hv
  simp at hlen
  by_cases h17 : 1 ≤ n ∧ n ≤ 7
  · obtain ⟨b, o, rfl, hcell⟩ := hc (by omega)
    have hbl : b < w.heap.size := hvb (by omega) b rfl
    have H := Go.Lib.hid h
    have h1 : ¬ (n : Int) < 1 := by omega
    have h7 : ¬ (7 : Int) < (n : Int) := by omega
    clear hc h hvb
    go_enter Try.func48, Try.ntmps48
    go_wp2
    have ho0 : (w.alloc (.cells (seen zs 0).toArray 81)).ownsRow w.heap.size 81 1 (.slice (some ⟨w.heap.size, 0, none⟩) 8 8) 8 (seen zs 0) := by
      have := World.ownsRow_lit (base := w.heap.size) (e := 81) (size := 1) w (seen zs 0).toArray 8 (Nat.le_refl _) (by unfold maxLen; omega) (by simp [seen])
      simpa using this
    go_loopw [16] (fun i wr => ∃ k : Nat, k ≤ n ∧ i = .int .i64 k ∧ wr.ownsRow w.heap.size 81 1 (.slice (some ⟨w.heap.size, 0, none⟩) 8 8) 8 (seen zs k) ∧ Below w.heap.size w wr ∧ Hid ((zs.take k).Nodup ∧ ∀ z ∈ zs.take k, 1 ≤ z ∧ z ≤ (zs.length : Int))) (fun i _ => n - (intOf i).toNat)
    case atStart => exact ⟨0, Nat.zero_le _, rfl, ho0, (Below.refl _ _).alloc (Nat.le_refl _) _, Go.Lib.hid (by simp)⟩
    case round =>
      obtain ⟨k, hk, rfl, ho, hb, HN⟩ := hrel
      clear ho0
      by_cases hlt : k < n
      · have hk2 : k < zs.length := by omega
        have hck : wr.cell? ⟨b, o + k, none⟩ = some (.int .i64 zs[k]) := (hb.cell (p := ⟨b, o + k, none⟩) hbl).trans (hcell k _ (by simp [hk2]))
        have hlti : (k : Int) < (n : Int) := by omega
        by_cases hin : 1 ≤ zs[k] ∧ zs[k] ≤ (n : Int)
        · obtain ⟨m, hm⟩ : ∃ m : Nat, zs[k] = (m : Int) := ⟨zs[k].toNat, by omega⟩
          have hm1 : ¬ (m : Int) < 1 := by omega
          have hm2 : ¬ (n : Int) < (m : Int) := by omega
          have hm8 : m < 8 := by omega
          have hcs := ho.cellAt m (by omega)
          rw [seen_at zs k m hm8] at hcs
          have hfs := ho.frozenAt m
          by_cases hdup : zs[k] ∈ zs.take k
          · have HR : Hid (r = false) := Go.Lib.hid (by rw [← H.out]; exact isOrd_dup hk2 hdup)
            rw [hm] at hck hdup
            rw [decide_eq_true hdup] at hcs
            clear hcell hm hdup hin ho
            go_wp2
            go_ret
            exact ⟨by rw [HR.out]; rfl, hb⟩
          · have HN2 : Hid ((zs.take (k + 1)).Nodup ∧ ∀ z ∈ zs.take (k + 1), 1 ≤ z ∧ z ≤ (zs.length : Int)) := Go.Lib.hid ⟨nodup_next hk2 HN.out.1 hdup, by
              intro z hz
              rw [List.take_succ_eq_append_getElem hk2, List.mem_append, List.mem_singleton] at hz
              rcases hz with hz | rfl
              · exact HN.out.2 z hz
              · rw [hlen]; exact hin⟩
            have hst := ho.stored m (.bool true)
            rw [seen_next zs k m hk2 hm hm8] at hst
            have HS := Go.Lib.hid (And.intro hst.1 (hb.setCell (p := ⟨w.heap.size, m, none⟩) (Nat.le_refl _) (.bool true)))
            rw [hm] at hck hdup
            rw [decide_eq_false hdup] at hcs
            clear hcell hm hdup hin ho hst hb
            go_wp2
            go_roundw
            case rel => exact ⟨k + 1, by omega, by go_num, HS.out.1, HS.out.2, HN2⟩
            case measure => simp [intOf]; omega
        · have HR : Hid (r = false) := Go.Lib.hid (by rw [← H.out]; exact isOrd_range hk2 (by rw [hlen]; exact hin))
          obtain ⟨z, hz⟩ : ∃ z, zs[k] = z := ⟨_, rfl⟩
          rw [hz] at hck hin
          by_cases hz1 : z < 1
          · clear hcell hz hin ho
            go_wp2
            go_ret
            exact ⟨by rw [HR.out]; rfl, hb⟩
          · have hz2 : (n : Int) < z := by omega
            clear hcell hz hin ho
            go_wp2
            go_ret
            exact ⟨by rw [HR.out]; rfl, hb⟩
      · have HR : Hid (r = true) := Go.Lib.hid (by
          have := HN.out
          rw [List.take_of_length_le (by omega)] at this
          rw [← H.out]; exact isOrd_yes (by omega) (by omega) this.2 this.1)
        clear ho
        go_wp2
        go_ret
        exact ⟨by rw [HR.out]; rfl, hb⟩
  · have HR : Hid (r = false) := Go.Lib.hid (by rw [← h]; exact isOrd_len (by omega))
    by_cases h1 : (n : Int) < 1
    · clear h hc h17 hvb
      go_enter Try.func48, Try.ntmps48
      go_wp2
      go_ret
      exact ⟨by rw [HR.out]; rfl, Below.refl _ _⟩
    · have h7 : (7 : Int) < (n : Int) := by omega
      clear h hc h17 hvb
      go_enter Try.func48, Try.ntmps48
      go_wp2
      go_ret
      exact ⟨by rw [HR.out]; rfl, Below.refl _ _⟩

end Go.Proofs.Ytddenfnoajdjiaa.OrderC

/-
  The kit's contracts of library functions at this translation, laid by the kit's own command and cut down to those that are used. Conditions: as each states.
-/
namespace Go.Proofs
open Go.Shelf

def Try.lays125_ren : Go.Shelf.Ren := ⟨fun | 125 => 133 | 128 => 144 | 129 => 145 | n => n, fun | 46 => 99 | 3 => 3 | 51 => 118 | 53 => 60 | 4 => 4 | 5 => 5 | 9 => 9 | n => n, fun | n => n⟩

theorem Try.lays125 : Go.Proofs.Lays.n125 Try.prog Try.lays125_ren := {
  mixed := by kernel_rfl
  f125 := Try.func133.trans (congrArg some (by kernel_rfl))
  f128 := Try.func144.trans (congrArg some (by kernel_rfl))
  f129 := Try.func145.trans (congrArg some (by kernel_rfl))
  t3 := Try.underlying3
  a3 := Try.isAgg3
  z3 := Try.sizeOf3
  v3 := Try.zeroValue3
  t4 := Try.underlying4
  a4 := Try.isAgg4
  z4 := Try.sizeOf4
  v4 := Try.zeroValue4
  t5 := Try.underlying5
  a5 := Try.isAgg5
  z5 := Try.sizeOf5
  v5 := Try.zeroValue5
  t9 := Try.underlying9
  a9 := Try.isAgg9
  z9 := Try.sizeOf9
  v9 := Try.zeroValue9
  t46 := Try.underlying99
  a46 := Try.isAgg99
  z46 := Try.sizeOf99
  v46 := Try.zeroValue99
  t51 := Try.underlying118
  a51 := Try.isAgg118
  z51 := Try.sizeOf118
  v51 := Try.zeroValue118
  t53 := Try.underlying60
  a53 := Try.isAgg60
  z53 := Try.sizeOf60
  v53 := Try.zeroValue60 }

theorem Try.bits_Len (x : Int) (w : World) (h0 : 0 ≤ x) (h1 : x ≤ 18446744073709551615) :
    Calls Try.prog 133 #[.int .u64 x] w fun e w' => e = .returned (.int .i64 (Lib.bitLen x.toNat)) ∧ w' = w := Any.bits_Len Try.lays125 x w h0 h1

def Try.lays112_ren : Go.Shelf.Ren := ⟨fun | 112 => 114 | n => n, fun | 28 => 24 | 3 => 3 | 4 => 4 | 0 => 0 | n => n, fun | n => n⟩

theorem Try.lays112 : Go.Proofs.Lays.n112 Try.prog Try.lays112_ren := {
  mixed := by kernel_rfl
  f112 := Try.func114.trans (congrArg some (by kernel_rfl))
  t0 := Try.underlying0
  a0 := Try.isAgg0
  z0 := Try.sizeOf0
  v0 := Try.zeroValue0
  t3 := Try.underlying3
  a3 := Try.isAgg3
  z3 := Try.sizeOf3
  v3 := Try.zeroValue3
  t4 := Try.underlying4
  a4 := Try.isAgg4
  z4 := Try.sizeOf4
  v4 := Try.zeroValue4
  t28 := Try.underlying24
  a28 := Try.isAgg24
  z28 := Try.sizeOf24
  v28 := Try.zeroValue24 }

open Go.RowKit Go.Lib Go.Sort in
theorem Try.slices_Reverse_int_empty (a : Option Addr) (cap : Nat) (w : World) :
    Calls Try.prog 114 #[.slice a 0 cap] w fun e w' => e = .returned (.tuple #[]) ∧ w' = w := Any.slices_Reverse_int_empty Try.lays112 a cap w

def Try.laysNm215_ren : Go.Shelf.Ren := ⟨fun | 15 => 112 | n => n, fun | 22 => 24 | 3 => 3 | 4 => 4 | n => n, fun | n => n⟩

theorem Try.laysNm215 : Go.Proofs.Lays2.n15 Try.prog Try.laysNm215_ren := {
  mixed := by kernel_rfl
  f15 := Try.func112.trans (congrArg some (by kernel_rfl))
  t3 := Try.underlying3
  a3 := Try.isAgg3
  z3 := Try.sizeOf3
  v3 := Try.zeroValue3
  t4 := Try.underlying4
  a4 := Try.isAgg4
  z4 := Try.sizeOf4
  v4 := Try.zeroValue4
  t22 := Try.underlying24
  a22 := Try.isAgg24
  z22 := Try.sizeOf24
  v22 := Try.zeroValue24
  i3 := by kernel_rfl }

open Go.RowKit Go.Lib in
theorem Try.slices_Clone_int (b off n c : Nat) (zs : List Int) (w : World) (hz : n ≤ zs.length) (hbig : n * 8 ≤ 140737488355328) (hc : ∀ j, j < zs.length → w.cell? ⟨b, off + j, none⟩ = some (.int .i64 (zs.getD j 0))) :
    Calls Try.prog 112 #[.slice (some ⟨b, off, none⟩) n c] w fun e w' => ∃ v', e = .returned v' ∧ w'.ownsRow w.heap.size 3 1 v' n ((zs.take n).map (Value.int .i64)) ∧ v' ≠ .slice none 0 0 ∧ Below w.heap.size w w' := Any.slices_Clone_int Try.laysNm215 b off n c zs w hz hbig hc

open Go.RowKit Go.Lib in
theorem Try.slices_Clone_int_nil (n c : Nat) (w : World) :
    Calls Try.prog 112 #[.slice none n c] w fun e w' => e = .returned (.slice none 0 0) ∧ w' = w := Any.slices_Clone_int_nil Try.laysNm215 n c w

open Go.RowKit Go.Lib Go.Sort in
theorem Try.slices_Reverse_int_cells (b off n c : Nat) (zs : List Int) (w : World) (hz : n ≤ zs.length) (hbig : n ≤ 9223372036854775807) (hc : ∀ j, j < zs.length → w.cell? ⟨b, off + j, none⟩ = some (.int .i64 (zs.getD j 0))) (hf : ∀ j, j < n → w.frozen? ⟨b, off + j, none⟩ = false) :
    Calls Try.prog 114 #[.slice (some ⟨b, off, none⟩) n c] w fun e w' => e = .returned (.tuple #[]) ∧ ∃ q, w' = (w.drewN q).setCells b off ((zs.take n).reverse.map (Value.int .i64)) := Any.slices_Reverse_int_cells Try.lays112 b off n c zs w hz hbig hc hf

end Go.Proofs

/-
  Contracts: the model and the program run an order by a word. Conditions: lists and texts of at most 2^20 elements.
-/
namespace Go.Proofs.Ytddenfnoajdjiaa.RunC
open Go.RowKit SeesC IntsC ExactC NumC IterC OrdMath WordMath InC OrderC WordC

def runAns (zs : List Int) (s : ByteArray) : List Int × Bool := if Ord zs ∧ Word s ∧ s.size = 2 * zs.length then (runOut zs s, true) else ([], false)

theorem runOut_len {zs : List Int} {s : ByteArray} (hw : Word s) (hsz : s.size = 2 * zs.length) : (runOut zs s).length = zs.length := by
  have := run_len (zs := zs) s.size 0 hw.2.2
  unfold runOut
  omega

theorem run_ans_len {zs : List Int} {s : ByteArray} {xs : List Int} {b : Bool} (h : runAns zs s = (xs, b)) : xs.length ≤ 1048576 := by
  unfold runAns at h; split at h
  · rename_i ho; cases h; rw [runOut_len ho.2.1 ho.2.2]; have := ho.1.2.1; omega
  · cases h; simp

/-- A list that is not empty, as all but the last, and the last. -/
theorem split_last {l : List Int} (h : 0 < l.length) : ∃ a p, l = a ++ [p] ∧ l.getLast?.getD 0 = p ∧ l.dropLast = a := by
  have hne : l ≠ [] := by intro e; subst e; simp at h
  have e := (List.dropLast_concat_getLast hne).symm
  refine ⟨l.dropLast, l.getLast hne, e, ?_, rfl⟩
  conv => lhs; rw [e]
  simp

set_option maxRecDepth 100000 in
set_option maxHeartbeats 2000000 in
theorem l2Run_any (zs : List Int) (s : ByteArray) (hord : Ord zs) (hw : Word s) (hsz : s.size = 2 * zs.length) (W : World) (v : Value) (n : Nat) (hv : Sees W v n (vals zs)) :
    Calls Try.prog 73 #[v, .string s] W fun e w' => ∃ u, e = .returned u ∧ w'.ownsRow W.heap.size 3 1 u (runOut zs s).length (vals (runOut zs s)) ∧ Below W.heap.size W w' := by
  obtain ⟨i0, hi, hz0, hz1, hz2⟩ := info_parts infoI
  have hl : zs.length = n := by simpa using hv.1
  have hn1 : 1 ≤ n := by have := hord.1; omega
  have hn7 : n ≤ 7 := by have := hord.2.1; omega
  obtain ⟨b, o, cap, rfl, hcap, _, hbl, hcell⟩ := sees_cells hv (by omega)
  have HC := Go.Lib.hid hcell
  have HSZ := Go.Lib.hid hsz
  have hs14 : s.size ≤ 14 := hw.2.1
  have HW := Go.Lib.hid hw
  clear hv hcell hsz hw
  go_enter Try.func73, Try.ntmps73
  go_wp2
  have ho1 : ((W.alloc (.cells #[] 3)).alloc (.cells #[] 3)).ownsRow W.heap.size 3 1 (.slice (some ⟨W.heap.size, 0, none⟩) 0 0) 0 [] := (World.ownsRow_made (base := W.heap.size) (e := 3) (size := 1) W #[] 0 (Nat.le_refl _) (by unfold maxLen; omega) rfl).alloc _
  have ho2 : ((W.alloc (.cells #[] 3)).alloc (.cells #[] 3)).ownsRow W.heap.size 3 1 (.slice (some ⟨W.heap.size + 1, 0, none⟩) 0 0) 0 [] := by
    have := World.ownsRow_made (base := W.heap.size) (e := 3) (size := 1) (W.alloc (.cells #[] 3)) #[] 0 (by simp) (by unfold maxLen; omega) rfl
    simpa using this
  have hb0 : Below W.heap.size W ((W.alloc (.cells #[] 3)).alloc (.cells #[] 3)) := ((Below.refl _ _).alloc (Nat.le_refl _) _).alloc (by simp) _
  go_loopw [5, 6, 7, 8] (fun ov sv xv kv wr => ∃ (k no ns x g1 c1 g2 c2 : Nat) (lo ls : List Int), k ≤ s.size ∧ kv = .int .i64 k ∧ xv = .int .i64 x ∧ ov = .slice (some ⟨g1, 0, none⟩) no c1 ∧ sv = .slice (some ⟨g2, 0, none⟩) ns c2 ∧ lo.length = no ∧ ls.length = ns ∧ wr.ownsRow W.heap.size 3 1 (.slice (some ⟨g1, 0, none⟩) no c1) no (vals lo) ∧ wr.ownsRow W.heap.size 3 1 (.slice (some ⟨g2, 0, none⟩) ns c2) ns (vals ls) ∧ g1 ≠ g2 ∧ Below W.heap.size W wr ∧ Hid (runTo zs s k = (lo, ls, x))) (fun _ _ _ k _ => s.size - (intOf k).toNat)
  case atStart => exact ⟨0, 0, 0, 0, W.heap.size, 0, W.heap.size + 1, 0, [], [], Nat.zero_le _, rfl, rfl, rfl, rfl, rfl, rfl, ho1, ho2, by omega, hb0, Go.Lib.hid rfl⟩
  case round =>
    obtain ⟨k, no, ns, x, g1, c1, g2, c2, lo, ls, hk, rfl, rfl, rfl, rfl, hlo, hls, hown1, hown2, hg12, hb, HR⟩ := hrel
    clear ho1 ho2 hb0
    by_cases hlt : k < s.size
    · have hlti : (k : Int) < (s.size : Int) := by omega
      obtain ⟨d, hd, hd1, hd2, hc⟩ := HW.out.at hlt
      have hrl := run_len (zs := zs) k d hd
      rw [HR.out] at hrl
      simp only at hrl
      have hsz := HSZ.out
      rcases hc with ⟨hI, hn, hd3⟩ | ⟨hO, hd0, hn⟩
      · have hI2 : (s[k].toNat : Int) = 73 := by have := (byt_nat hlt 73 (by omega)).2 hI; omega
        have hx : x < zs.length := by omega
        have hck : wr.cell? ⟨b, o + x, none⟩ = some (.int .i64 (zs.getD x 0)) := (hb.cell (p := ⟨b, o + x, none⟩) hbl).trans (HC.out x hx)
        obtain ⟨z, hz⟩ : ∃ z, zs.getD x 0 = z := ⟨_, rfl⟩
        have HN : Hid (runTo zs s (k + 1) = (lo, ls ++ [z], x + 1)) := Go.Lib.hid (by rw [run_I HR.out hI, hz])
        rw [hz] at hck
        have hxi : (x : Int) < (n : Int) := by omega
        have hns14 : ns ≤ 14 := by omega
        have HSL := Go.Lib.hid hls
        clear hz hI hn hd3 hd hd1 hd2 hrl hsz hx hls
        go_wp2_with (at_builtin; refine wpList_append_own_at _ rfl _ _ 24 rfl W.heap.size 3 i0 (.int .i64 0) 1 8 Try.underlying24 hi hz0 hz1 hz2 rfl (by decide) (.slice (some ⟨g2, 0, none⟩) ns c2) ns (vals ls) rfl (hown2.alloc _) ⟨wr.heap.size, 0, none⟩ 1 1 [.int .i64 z] rfl rfl (cell_one_new _ _ _) (fun x hx => by simp at hx; subst hx; rfl) (by unfold maxLen; omega) (by omega) (by have := hb.size; simp; omega) ?_; intro v' w3 hown' hgrow3 hnil3 hrow3)
        obtain ⟨g', cap', rfl⟩ := ownsRow_succ hown'
        have e1 : vals ls ++ [Value.int .i64 z] = vals (ls ++ [z]) := by simp
        rw [e1] at hown'
        have hb' : Below W.heap.size W w3 := (hb.alloc hb.size _).grown hgrow3 (by have := hb.size; simp; omega) (fun q hq => (hown2.lt q hq).1)
        have hown1' := own_mark (hown1.alloc (.cells #[.int .i64 z] 3)) hgrow3 (fun a ha e => by simp only [Value.ownBlock, Option.some.injEq] at ha e; omega)
        have hg12' : g1 ≠ g' := by
          have h1 := (hown1.lt g1 rfl).2
          rcases hrow3 with h2 | h2
          · simp [Value.ownBlock] at h2; omega
          · simp [Value.ownBlock] at h2; omega
        have H3 := Go.Lib.hid (And.intro hown1' (And.intro hown' (And.intro hg12' hb')))
        clear hown' hgrow3 hnil3 hrow3 hown1 hown2 hb hb' hown1' hg12' e1
        go_wp2
        go_roundw
        case rel => exact ⟨k + 1, no, ns + 1, x + 1, g1, c1, g', cap', lo, ls ++ [z], by omega, by go_num, by go_num, rfl, rfl, hlo, by simp; exact HSL.out, H3.out.1, H3.out.2.1, H3.out.2.2.1, H3.out.2.2.2, HN⟩
        case measure => simp [intOf]; omega
      · have hI2 : ((s[k].toNat : Int) == 73) = false := ne_int (b := 73) (by have := (byt_nat hlt 79 (by omega)).2 hO; omega)
        obtain ⟨la, p, hlap, hlast, hdrop⟩ := split_last (l := ls) (by omega)
        have HN : Hid (runTo zs s (k + 1) = (lo ++ [p], la, x)) := Go.Lib.hid (by rw [run_O HR.out hO, hlast, hdrop])
        subst hlap
        obtain ⟨m, hm⟩ : ∃ m, la.length = m := ⟨_, rfl⟩
        obtain rfl : ns = m + 1 := by rw [← hls, ← hm]; simp
        have hck : wr.cell? ⟨g2, m, none⟩ = some (.int .i64 p) := by rw [hown2.cellAt m (by omega)]; simp [← hm]
        have hpop : wr.ownsRow W.heap.size 3 1 (.slice (some ⟨g2, 0, none⟩) m c2) m (vals la) := ownsRow_pop (last := [.int .i64 p]) (by simp [hm]) (by simpa using hown2)
        have hmc : m + 1 ≤ c2 := by
          rcases hown2.2 with ⟨h0, _⟩ | ⟨g, cap, cur, h0, _, _, h1, _⟩
          · cases h0
          · cases h0; exact h1
        have hno7 : no ≤ 14 := by omega
        have hm14 : m ≤ 14 := by omega
        have HSL := Go.Lib.hid (And.intro hm hlo)
        have hgb2 := Go.Lib.hid (hown2.lt g2 rfl)
        clear hO hn hd hd1 hd2 hrl hsz hlast hdrop hls hown2 hm hlo
        go_wp2_with (at_builtin; refine wpList_append_own_at _ rfl _ _ 24 rfl W.heap.size 3 i0 (.int .i64 0) 1 8 Try.underlying24 hi hz0 hz1 hz2 rfl (by decide) (.slice (some ⟨g1, 0, none⟩) no c1) no (vals lo) rfl (hown1.alloc _) ⟨wr.heap.size, 0, none⟩ 1 1 [.int .i64 p] rfl rfl (cell_one_new _ _ _) (fun x hx => by simp at hx; subst hx; rfl) (by unfold maxLen; omega) (by omega) (by have := hb.size; simp; omega) ?_; intro v' w3 hown' hgrow3 hnil3 hrow3)
        obtain ⟨g', cap', rfl⟩ := ownsRow_succ hown'
        have e1 : vals lo ++ [Value.int .i64 p] = vals (lo ++ [p]) := by simp
        rw [e1] at hown'
        have hb' : Below W.heap.size W w3 := (hb.alloc hb.size _).grown hgrow3 (by have := hb.size; simp; omega) (fun q hq => (hown1.lt q hq).1)
        have hown2' := own_mark (hpop.alloc (.cells #[.int .i64 p] 3)) hgrow3 (fun a ha e => by simp only [Value.ownBlock, Option.some.injEq] at ha e; omega)
        have hg12' : g' ≠ g2 := by
          have h1 := hgb2.out.2
          rcases hrow3 with h2 | h2
          · simp [Value.ownBlock] at h2; omega
          · simp [Value.ownBlock] at h2; omega
        have H3 := Go.Lib.hid (And.intro hown' (And.intro hown2' (And.intro hg12' hb')))
        clear hown' hgrow3 hnil3 hrow3 hown1 hpop hb hb' hown2' hg12' e1
        go_wp2
        go_roundw
        case rel => exact ⟨k + 1, no + 1, m, x, g', cap', g2, c2, lo ++ [p], la, by omega, by go_num, rfl, rfl, rfl, by simp; exact HSL.out.2, HSL.out.1, H3.out.1, H3.out.2.1, H3.out.2.2.1, H3.out.2.2.2, HN⟩
        case measure => simp [intOf]; omega
    · have hkn : k = s.size := by omega
      have HE : Hid (runOut zs s = lo) := Go.Lib.hid (by unfold runOut; rw [← hkn, HR.out])
      have H3 := Go.Lib.hid (And.intro hown1 hb)
      clear hown1 hown2 hb
      go_wp2
      go_ret
      exact ⟨_, rfl, by rw [HE.out, hlo]; exact H3.out.1, H3.out.2⟩

/-- A row of the call's own as a block that is known whole, and back. -/
theorem own_block {w : World} {base g n cap : Nat} {ty : TypeId} {xs : List Value} (h : w.ownsRow base ty 1 (.slice (some ⟨g, 0, none⟩) n cap) n xs) : ∃ ex, w.heap[g]? = some (.cells (xs ++ ex).toArray ty (0, 0)) ∧ n + ex.length = cap ∧ xs.length = n ∧ base ≤ g ∧ cap ≤ maxLen := by
  have hl : xs.length = n := by simpa using h.1
  rcases h.2 with ⟨h0, _⟩ | ⟨g', cap', cur, h0, hb, hh, h1, hm, hsz, ht⟩
  · cases h0
  · cases h0
    refine ⟨cur.toList.drop n, ?_, ?_, hl, hb, hm⟩
    · rw [← ht, Nat.mul_one, List.take_append_drop]; simpa using hh
    · rw [List.length_drop, Array.length_toList, hsz]; omega

theorem block_own {w : World} {base g n cap : Nat} {ty : TypeId} {xs ex : List Value} (hh : w.heap[g]? = some (.cells (xs ++ ex).toArray ty (0, 0))) (hc : n + ex.length = cap) (hl : xs.length = n) (hb : base ≤ g) (hm : cap ≤ maxLen) : w.ownsRow base ty 1 (.slice (some ⟨g, 0, none⟩) n cap) n xs :=
  ⟨by simpa using hl, .inr ⟨g, cap, _, rfl, hb, hh, by omega, hm, by simp; omega, by simp [← hl]⟩⟩

/-- What a pop does to the line. -/
theorem line_pop (lo la R : List Int) (p : Int) (ex : List Value) (no : Nat) (hno : lo.length = no) :
    (splice (vals (lo ++ (la ++ [p]) ++ R) ++ ex) (no + 1) (vals la)).set no (.int .i64 p) = vals ((lo ++ [p]) ++ la ++ R) ++ ex := by
  subst hno
  unfold splice vals
  have e1 : List.map (Value.int .i64) (lo ++ (la ++ [p]) ++ R) ++ ex = List.map (Value.int .i64) lo ++ (List.map (Value.int .i64) (la ++ [p]) ++ (List.map (Value.int .i64) R ++ ex)) := by simp
  rw [e1]
  obtain ⟨y, ys, hy⟩ : ∃ y ys, List.map (Value.int .i64) (la ++ [p]) = y :: ys := by
    cases la with
    | nil => exact ⟨_, _, rfl⟩
    | cons a tl => exact ⟨_, _, rfl⟩
  have hys : ys.length = la.length := by have := congrArg List.length hy; simp at this; omega
  rw [hy]
  have e2 : (List.map (Value.int .i64) lo ++ (y :: ys ++ (List.map (Value.int .i64) R ++ ex))).take (lo.length + 1) = List.map (Value.int .i64) lo ++ [y] := by
    have h9 : List.map (Value.int .i64) lo ++ (y :: ys ++ (List.map (Value.int .i64) R ++ ex)) = (List.map (Value.int .i64) lo ++ [y]) ++ (ys ++ (List.map (Value.int .i64) R ++ ex)) := by simp
    rw [h9, List.take_append_of_le_length (by simp)]
    exact List.take_of_length_le (by simp)
  have e3 : (List.map (Value.int .i64) lo ++ (y :: ys ++ (List.map (Value.int .i64) R ++ ex))).drop (lo.length + 1 + (List.map (Value.int .i64) la).length) = List.map (Value.int .i64) R ++ ex := by
    have h9 : List.map (Value.int .i64) lo ++ (y :: ys ++ (List.map (Value.int .i64) R ++ ex)) = (List.map (Value.int .i64) lo ++ y :: ys) ++ (List.map (Value.int .i64) R ++ ex) := by simp
    rw [h9, List.drop_append_of_le_length (by simp; omega), List.drop_of_length_le (by simp; omega), List.nil_append]
  rw [e2, e3, List.append_assoc, List.set_append_right _ _ (by simp)]
  simp

end Go.Proofs.Ytddenfnoajdjiaa.RunC

/-
  Contracts: the model and the program find the word that leads from an order to another. Conditions: lists of at most 2^20 numbers.
-/
namespace Go.Proofs.Ytddenfnoajdjiaa.ToC
open Go.RowKit SeesC IntsC ExactC NumC IterC OrdMath WordMath InC OrderC WordC RunC

/-- The signs by which an order is reached: place i of it is sought, the stack is st, x numbers have been pushed. -/
def goTo (zs ts : List Int) : Nat → Nat → List Int → Nat → List UInt8 → Option (List UInt8)
  | 0, _, _, _, _ => none
  | f + 1, i, st, x, acc =>
    if i < ts.length then
      if st.getLast? = some (ts.getD i 0) then goTo zs ts f (i + 1) st.dropLast x (acc ++ [79])
      else if x < zs.length then goTo zs ts f i (st ++ [zs.getD x 0]) (x + 1) (acc ++ [73])
      else none
    else some acc

def toRes (zs ts : List Int) : Option (List UInt8) := goTo zs ts (zs.length + zs.length + 1) 0 [] 0 []

def optAns (o : Option (List UInt8)) : ByteArray × Bool := match o with | some l => (txt l, true) | none => (ByteArray.empty, false)

def toAns (zs ts : List Int) : ByteArray × Bool := if Ord zs ∧ Ord ts ∧ zs.length = ts.length then optAns (toRes zs ts) else (ByteArray.empty, false)

/-- What is known in the midst of the search. -/
def Mid (zs ts : List Int) (R : Option (List UInt8)) (i : Nat) (st : List Int) (x : Nat) (acc : List UInt8) : Prop :=
  goTo zs ts ((ts.length - i) + (zs.length - x) + 1) i st x acc = R ∧ i + st.length = x ∧ x ≤ zs.length ∧ i ≤ ts.length ∧ acc.length = i + x

theorem mid_start (zs ts : List Int) (h : zs.length = ts.length) : Mid zs ts (toRes zs ts) 0 [] 0 [] := ⟨by rw [← h]; rfl, rfl, Nat.zero_le _, Nat.zero_le _, rfl⟩

theorem mid_end {zs ts : List Int} {R : Option (List UInt8)} {i x : Nat} {st : List Int} {acc : List UInt8} (h : Mid zs ts R i st x acc) (hi : ¬ i < ts.length) : R = some acc := by
  rw [← h.1]; simp [goTo, hi]

theorem mid_pop {zs ts : List Int} {R : Option (List UInt8)} {i x : Nat} {st : List Int} {acc : List UInt8} (h : Mid zs ts R i st x acc) (hi : i < ts.length) (ht : st.getLast? = some (ts.getD i 0)) : Mid zs ts R (i + 1) st.dropLast x (acc ++ [79]) := by
  obtain ⟨h1, h2, h3, h4, h5⟩ := h
  have hl : 0 < st.length := by cases st with | nil => simp at ht | cons a b => simp
  refine ⟨?_, by simp; omega, h3, by omega, by simp; omega⟩
  rw [← h1]
  have e : (ts.length - i) + (zs.length - x) + 1 = ((ts.length - (i + 1)) + (zs.length - x) + 1) + 1 := by omega
  rw [e]
  conv => rhs; unfold goTo
  rw [if_pos hi, if_pos ht]

theorem mid_push {zs ts : List Int} {R : Option (List UInt8)} {i x : Nat} {st : List Int} {acc : List UInt8} (h : Mid zs ts R i st x acc) (hi : i < ts.length) (ht : st.getLast? ≠ some (ts.getD i 0)) (hx : x < zs.length) : Mid zs ts R i (st ++ [zs.getD x 0]) (x + 1) (acc ++ [73]) := by
  obtain ⟨h1, h2, h3, h4, h5⟩ := h
  refine ⟨?_, by simp; omega, by omega, h4, by simp; omega⟩
  rw [← h1]
  have e : (ts.length - i) + (zs.length - x) + 1 = ((ts.length - i) + (zs.length - (x + 1)) + 1) + 1 := by omega
  rw [e]
  conv => rhs; unfold goTo
  rw [if_pos hi, if_neg ht, if_pos hx]

theorem mid_fail {zs ts : List Int} {R : Option (List UInt8)} {i x : Nat} {st : List Int} {acc : List UInt8} (h : Mid zs ts R i st x acc) (hi : i < ts.length) (ht : st.getLast? ≠ some (ts.getD i 0)) (hx : ¬ x < zs.length) : R = none := by
  rw [← h.1]
  unfold goTo
  rw [if_pos hi, if_neg ht, if_neg hx]

set_option maxRecDepth 100000 in
set_option maxHeartbeats 4000000 in
theorem l2To_any (zs ts : List Int) (hox : Ord zs) (hlen : zs.length = ts.length) (W : World) (v : Value) (n : Nat) (hv : Sees W v n (vals zs)) (u : Value) (hu : Sees W u n (vals ts)) :
    Calls Try.prog 111 #[v, u] W fun e w' => e = .returned (.tuple #[.string (optAns (toRes zs ts)).1, .bool (optAns (toRes zs ts)).2]) ∧ Below W.heap.size W w' := by
  obtain ⟨i0, hi, hz0, hz1, hz2⟩ := info_parts infoI
  have hl : zs.length = n := by simpa using hv.1
  have hlt : ts.length = n := by omega
  have hn1 : 1 ≤ n := by have := hox.1; omega
  have hn7 : n ≤ 7 := by have := hox.2.1; omega
  obtain ⟨b, o, cap, rfl, _, _, hbl, hcell⟩ := sees_cells hv (by omega)
  obtain ⟨b2, o2, cap2, rfl, _, _, hbl2, hcell2⟩ := sees_cells hu (by omega)
  have HC := Go.Lib.hid hcell
  have HC2 := Go.Lib.hid hcell2
  have HM0 := Go.Lib.hid (mid_start zs ts hlen)
  obtain ⟨R, hR⟩ : ∃ R, toRes zs ts = R := ⟨_, rfl⟩
  rw [hR] at HM0 ⊢
  clear hv hu hcell hcell2 hR
  go_enter Try.func111, Try.ntmps111
  go_wp2
  have ho0 := World.ownsRow_made (base := W.heap.size) (e := 3) (size := 1) W #[] 0 (Nat.le_refl _) (by unfold maxLen; omega) rfl
  have hb0 : Below W.heap.size W (W.alloc (.cells #[] 3)) := (Below.refl _ _).alloc (Nat.le_refl _) _
  go_loopw [6, 7, 8, 9] (fun wv sv xv iv wr => ∃ (i x ns g c : Nat) (st : List Int) (acc : List UInt8) (s : ByteArray), iv = .int .i64 i ∧ xv = .int .i64 x ∧ wv = .string s ∧ sv = .slice (some ⟨g, 0, none⟩) ns c ∧ i ≤ n ∧ x ≤ 7 ∧ ns ≤ 7 ∧ s.size ≤ 14 ∧ st.length = ns ∧ Hid (s = txt acc) ∧ wr.ownsRow W.heap.size 3 1 (.slice (some ⟨g, 0, none⟩) ns c) ns (vals st) ∧ Below W.heap.size W wr ∧ Hid (Mid zs ts R i st x acc)) (fun _ _ _ i _ => n - (intOf i).toNat)
  case atStart => exact ⟨0, 0, 0, W.heap.size, 0, [], [], ByteArray.empty, rfl, rfl, rfl, rfl, Nat.zero_le _, by omega, by omega, by decide, rfl, Go.Lib.hid rfl, by simpa using ho0, hb0, HM0⟩
  case round =>
    obtain ⟨i, x, ns, g, c, st, acc, s, rfl, rfl, rfl, rfl, hin, hx7, hns7, hs14, hst, HS, hown, hb, HMID⟩ := hrel
    clear ho0 hb0
    by_cases hlt2 : i < n
    · have hti := HC2.out i (by omega)
      obtain ⟨tt, htt⟩ : ∃ tt, ts.getD i 0 = tt := ⟨_, rfl⟩
      rw [htt] at hti
      have HT := Go.Lib.hid htt
      have hini : (i : Int) < (n : Int) := by omega
      clear htt
      go_wp2_with fail
      go_loopw [6, 7, 8] (fun wv sv xv w2 => ∃ (x ns g c : Nat) (st : List Int) (acc : List UInt8) (s : ByteArray), xv = .int .i64 x ∧ wv = .string s ∧ sv = .slice (some ⟨g, 0, none⟩) ns c ∧ x ≤ 7 ∧ ns ≤ 7 ∧ s.size ≤ 14 ∧ st.length = ns ∧ Hid (s = txt acc) ∧ w2.ownsRow W.heap.size 3 1 (.slice (some ⟨g, 0, none⟩) ns c) ns (vals st) ∧ Below W.heap.size W w2 ∧ Hid (Mid zs ts R i st x acc)) (fun _ _ x _ => n - (intOf x).toNat)
      case atStart => exact ⟨x, ns, g, c, st, acc, s, rfl, rfl, rfl, hx7, hns7, hs14, hst, HS, hown, hb, HMID⟩
      case round =>
        obtain ⟨x, ns, g, c, st, acc, s, rfl, rfl, rfl, hx7, hns7, hs14, hst, HS, hown, hb, HMID⟩ := hrel
        have hmid := HMID.out
        have hln := hmid.2.1
        have hla := hmid.2.2.2.2
        have hssz : s.size = i + x := by rw [HS.out, txt_size, hla]
        have hti2 : wr.cell? ⟨b2, o2 + i, none⟩ = some (.int .i64 tt) := (hb.cell (p := ⟨b2, o2 + i, none⟩) hbl2).trans hti
        have HTI := Go.Lib.hid hti
        clear hti
        by_cases hxn : x < n
        · have hck := (hb.cell (p := ⟨b, o + x, none⟩) hbl).trans (HC.out x (by omega))
          obtain ⟨z, hz⟩ : ∃ z, zs.getD x 0 = z := ⟨_, rfl⟩
          have HZ := Go.Lib.hid hz
          rw [hz] at hck
          have hxi : (x : Int) < (n : Int) := by omega
          have hs12 : s.size ≤ 13 := by omega
          have hns6 : ns ≤ 6 := by omega
          have HS1 : Hid (s ++ ({ data := #[73] } : ByteArray) = txt (acc ++ [73])) := Go.Lib.hid (by rw [HS.out]; exact txt_append _ [73])
          have HSL := Go.Lib.hid hst
          clear hz
          by_cases hn0 : ns = 0
          · have hst0 : st = [] := List.eq_nil_of_length_eq_zero (by omega)
            have HN : Hid (Mid zs ts R i (st ++ [z]) (x + 1) (acc ++ [73])) := Go.Lib.hid (by rw [← HZ.out]; exact mid_push hmid (by omega) (by rw [hst0]; simp) (by omega))
            subst hn0
            clear hmid hln hla hssz hst0 hst
            go_wp2_with fail
            go_quiet (fail)
            have hownq := own_drewN (q := nq) hown
            have hbq := ExactC.below_drewN (q := nq) hb
            have hckq : (wr.drewN nq).cell? ⟨b, o + x, none⟩ = some (.int .i64 z) := hck
            obtain ⟨wq, hwq⟩ : ∃ wq, wr.drewN nq = wq := ⟨_, rfl⟩
            rw [hwq] at hownq hbq hckq ⊢
            clear hwq hown hb hck hti2
            go_wp2_with (at_builtin; refine wpList_append_own _ rfl _ _ 24 rfl W.heap.size 3 i0 (.int .i64 0) 1 8 Try.underlying24 hi hz0 hz1 hz2 rfl (by decide) (.slice (some ⟨g, 0, none⟩) 0 c) 0 (vals st) rfl (hownq.alloc _) ⟨wq.heap.size, 0, none⟩ 1 1 [.int .i64 z] rfl rfl (cell_one_new _ _ _) (fun x hx => by simp at hx; subst hx; rfl) (by unfold maxLen; omega) (by omega) (by have := hbq.size; simp; omega) ?_; intro v' w3 hown' hgrow3 hnil3)
            obtain ⟨g', cap', rfl⟩ := ownsRow_succ hown'
            have e1 : vals st ++ [Value.int .i64 z] = vals (st ++ [z]) := by simp
            rw [e1] at hown'
            have hb' : Below W.heap.size W w3 := (hbq.alloc hbq.size _).grown hgrow3 (by have := hbq.size; simp; omega) (fun q hq => (hownq.lt q hq).1)
            have H3 := Go.Lib.hid (And.intro hown' hb')
            clear hown' hgrow3 hnil3 hownq hbq hb' e1
            go_wp2
            go_roundw
            case rel => exact ⟨x + 1, 0 + 1, g', cap', st ++ [z], acc ++ [73], s ++ ({ data := #[73] } : ByteArray), by go_num, rfl, rfl, by omega, by omega, by rw [ByteArray.size_append]; exact Nat.add_le_add hs12 (Nat.le_refl 1), by rw [List.length_append, HSL.out]; rfl, HS1, H3.out.1, H3.out.2, HN⟩
            case measure => simp [intOf]; omega
          · obtain ⟨la, p, hlap, hlast, hdrop⟩ := split_last (l := st) (by omega)
            have hgl : st.getLast? = some p := by rw [hlap]; simp
            obtain ⟨m, rfl⟩ : ∃ m, ns = m + 1 := ⟨ns - 1, by omega⟩
            have hckp : wr.cell? ⟨g, m, none⟩ = some (.int .i64 p) := by
              rw [hown.cellAt m (by omega), hlap]
              have : la.length = m := by rw [hlap] at hst; simp at hst; omega
              simp [← this]
            have hm7 : m ≤ 6 := by omega
            have q1 : IntKind.i64.wrap ((m : Int) + 1 - 1) = (m : Int) := by rw [IntWalk.i64_in _ (by omega)]; omega
            have hz1' : (((m + 1 : Nat) : Int) == 0) = false := by rw [beq_eq_false_iff_ne]; omega
            have hz2' : ((m : Int) + 1 == 0) = false := by rw [beq_eq_false_iff_ne]; omega
            by_cases hpt : p = tt
            · have hpt' := Go.Lib.hid hpt
              subst hpt
              have HN : Hid (Mid zs ts R (i + 1) la x (acc ++ [79])) := Go.Lib.hid (by rw [← hdrop]; exact mid_pop hmid (by omega) (by rw [hgl, HT.out]))
              have hpop : wr.ownsRow W.heap.size 3 1 (.slice (some ⟨g, 0, none⟩) m c) m (vals la) := ownsRow_pop (last := [.int .i64 p]) (by have := hst; rw [hlap] at this; simp at this; simp; omega) (by rw [hlap] at hown; simpa using hown)
              have hmc : m + 1 ≤ c := by
                rcases hown.2 with ⟨h0, _⟩ | ⟨g', cap', cur, h0, _, _, h1, _⟩
                · cases h0
                · cases h0; exact h1
              have HS2 : Hid (s ++ ({ data := #[79] } : ByteArray) = txt (acc ++ [79])) := Go.Lib.hid (by rw [HS.out]; exact txt_append _ [79])
              have HLA : Hid (la.length = m) := Go.Lib.hid (by have := hst; rw [hlap] at this; simp at this; omega)
              have H3 := Go.Lib.hid (And.intro hpop hb)
              clear hmid hln hla hssz hst hlap hlast hdrop hgl hpop hown hb hck
              go_wp2_with fail
              go_quiet (fail)
              go_wp2_with fail
              go_quiet (fail)
              go_wp2
              go_roundw
              case rel => exact ⟨i + 1, x, m, g, c, la, acc ++ [79], s ++ ({ data := #[79] } : ByteArray), by go_num, rfl, rfl, rfl, by omega, hx7, by omega, by rw [ByteArray.size_append]; exact Nat.add_le_add hs12 (Nat.le_refl 1), HLA.out, HS2, own_drewN H3.out.1, ExactC.below_drewN H3.out.2, HN⟩
              case measure => simp [intOf]; omega
            · have hpt2 : (p == tt) = false := by rw [beq_eq_false_iff_ne]; exact hpt
              have HN : Hid (Mid zs ts R i (st ++ [z]) (x + 1) (acc ++ [73])) := Go.Lib.hid (by rw [← HZ.out]; exact mid_push hmid (by omega) (by rw [hgl, HT.out]; intro e; exact hpt (by cases e; rfl)) (by omega))
              clear hmid hln hla hssz hlap hlast hdrop hgl hst
              go_wp2_with fail
              go_quiet (fail)
              have hownq := own_drewN (q := nq) hown
              have hbq := ExactC.below_drewN (q := nq) hb
              have hckq : (wr.drewN nq).cell? ⟨b, o + x, none⟩ = some (.int .i64 z) := hck
              obtain ⟨wq, hwq⟩ : ∃ wq, wr.drewN nq = wq := ⟨_, rfl⟩
              rw [hwq] at hownq hbq hckq ⊢
              clear hwq hown hb hck hti2
              go_wp2_with (at_builtin; refine wpList_append_own _ rfl _ _ 24 rfl W.heap.size 3 i0 (.int .i64 0) 1 8 Try.underlying24 hi hz0 hz1 hz2 rfl (by decide) (.slice (some ⟨g, 0, none⟩) (m + 1) c) (m + 1) (vals st) rfl (hownq.alloc _) ⟨wq.heap.size, 0, none⟩ 1 1 [.int .i64 z] rfl rfl (cell_one_new _ _ _) (fun x hx => by simp at hx; subst hx; rfl) (by unfold maxLen; omega) (by omega) (by have := hbq.size; simp; omega) ?_; intro v' w3 hown' hgrow3 hnil3)
              obtain ⟨g', cap', rfl⟩ := ownsRow_succ hown'
              have e1 : vals st ++ [Value.int .i64 z] = vals (st ++ [z]) := by simp
              rw [e1] at hown'
              have hb' : Below W.heap.size W w3 := (hbq.alloc hbq.size _).grown hgrow3 (by have := hbq.size; simp; omega) (fun q hq => (hownq.lt q hq).1)
              have H3 := Go.Lib.hid (And.intro hown' hb')
              clear hown' hgrow3 hnil3 hownq hbq hb' e1
              go_wp2
              go_roundw
              case rel => exact ⟨x + 1, (m + 1) + 1, g', cap', st ++ [z], acc ++ [73], s ++ ({ data := #[73] } : ByteArray), by go_num, rfl, rfl, by omega, by omega, by rw [ByteArray.size_append]; exact Nat.add_le_add hs12 (Nat.le_refl 1), by rw [List.length_append, HSL.out]; rfl, HS1, H3.out.1, H3.out.2, HN⟩
              case measure => simp [intOf]; omega
        · have hxd : decide ((x : Int) < (n : Int)) = false := by rw [decide_eq_false_iff_not]; omega
          have hxn2 : ¬ (x : Int) < (n : Int) := by omega
          have hs12 : s.size ≤ 13 := by omega
          have hns1 : 0 < ns := by have := hmid.2.2.1; omega
          obtain ⟨la, p, hlap, hlast, hdrop⟩ := split_last (l := st) (by omega)
          have hgl : st.getLast? = some p := by rw [hlap]; simp
          obtain ⟨m, rfl⟩ : ∃ m, ns = m + 1 := ⟨ns - 1, by omega⟩
          have hckp : wr.cell? ⟨g, m, none⟩ = some (.int .i64 p) := by
            rw [hown.cellAt m (by omega), hlap]
            have : la.length = m := by rw [hlap] at hst; simp at hst; omega
            simp [← this]
          have hm7 : m ≤ 6 := by omega
          have q1 : IntKind.i64.wrap ((m : Int) + 1 - 1) = (m : Int) := by rw [IntWalk.i64_in _ (by omega)]; omega
          by_cases hpt : p = tt
          · have hpt' := Go.Lib.hid hpt
            subst hpt
            have HN : Hid (Mid zs ts R (i + 1) la x (acc ++ [79])) := Go.Lib.hid (by rw [← hdrop]; exact mid_pop hmid (by omega) (by rw [hgl, HT.out]))
            have hpop : wr.ownsRow W.heap.size 3 1 (.slice (some ⟨g, 0, none⟩) m c) m (vals la) := ownsRow_pop (last := [.int .i64 p]) (by have := hst; rw [hlap] at this; simp at this; simp; omega) (by rw [hlap] at hown; simpa using hown)
            have hmc : m + 1 ≤ c := by
              rcases hown.2 with ⟨h0, _⟩ | ⟨g', cap', cur, h0, _, _, h1, _⟩
              · cases h0
              · cases h0; exact h1
            have HS2 : Hid (s ++ ({ data := #[79] } : ByteArray) = txt (acc ++ [79])) := Go.Lib.hid (by rw [HS.out]; exact txt_append _ [79])
            have HLA : Hid (la.length = m) := Go.Lib.hid (by have := hst; rw [hlap] at this; simp at this; omega)
            have H3 := Go.Lib.hid (And.intro hpop hb)
            clear hmid hln hla hssz hst hlap hlast hdrop hgl hpop hown hb
            go_wp2_with fail
            go_quiet (fail)
            go_wp2_with fail
            go_quiet (fail)
            go_wp2
            go_roundw
            case rel => exact ⟨i + 1, x, m, g, c, la, acc ++ [79], s ++ ({ data := #[79] } : ByteArray), by go_num, rfl, rfl, rfl, by omega, hx7, by omega, by rw [ByteArray.size_append]; exact Nat.add_le_add hs12 (Nat.le_refl 1), HLA.out, HS2, own_drewN H3.out.1, ExactC.below_drewN H3.out.2, HN⟩
            case measure => simp [intOf]; omega
          · have hpt2 : (p == tt) = false := by rw [beq_eq_false_iff_ne]; exact hpt
            have HF : Hid (R = none) := Go.Lib.hid (mid_fail hmid (by omega) (by rw [hgl, HT.out]; intro e; exact hpt (by cases e; rfl)) (by omega))
            have HSS : Hid (ByteArray.empty = (optAns R).1 ∧ false = (optAns R).2) := Go.Lib.hid (by rw [HF.out]; exact ⟨rfl, rfl⟩)
            have hbb := Go.Lib.hid hb
            clear hmid hln hla hssz hst hlap hlast hdrop hgl hown hb
            go_wp2_with fail
            go_quiet (fail)
            go_wp2_with fail
            go_quiet (fail)
            go_wp2
            go_ret2
            exact ⟨by rw [← HSS.out.1, ← HSS.out.2]; rfl, ExactC.below_drewN (ExactC.below_drewN hbb.out)⟩
    · have HE : Hid (R = some acc) := Go.Lib.hid (mid_end HMID.out (by omega))
      have hbb := Go.Lib.hid hb
      have HSS : Hid (s = (optAns R).1 ∧ true = (optAns R).2) := Go.Lib.hid (by rw [HE.out]; exact ⟨HS.out, rfl⟩)
      clear hown hb
      go_wp2
      go_ret2
      exact ⟨by rw [← HSS.out.1, ← HSS.out.2]; rfl, hbb.out⟩

end Go.Proofs.Ytddenfnoajdjiaa.ToC

/-
  Contract: the program finds the word that leads from an order to another. Conditions: as the model's.
-/
namespace Go.Proofs.Ytddenfnoajdjiaa.ToImplC
open Go.RowKit SeesC IntsC ExactC NumC IterC OrdMath WordMath InC OrderC WordC RunC ToC

set_option maxRecDepth 100000 in
set_option maxHeartbeats 4000000 in
theorem implTo_main (zs ts : List Int) (hox : Ord zs) (hoy : Ord ts) (hlen : zs.length = ts.length) (W : World) (v : Value) (n : Nat) (hv : Sees W v n (vals zs)) (u : Value) (hu : Sees W u n (vals ts)) :
    Calls Try.prog 75 #[v, u] W fun e w' => e = .returned (.tuple #[.string (optAns (toRes zs ts)).1, .bool (optAns (toRes zs ts)).2]) ∧ Below W.heap.size W w' := by
  obtain ⟨i0, hi, hz0, hz1, hz2⟩ := info_parts infoI
  obtain ⟨j0, hj, hy0, hy1, hy2⟩ := info_parts infoB
  have hl : zs.length = n := by simpa using hv.1
  have hlt : ts.length = n := by omega
  have hn1 : 1 ≤ n := by have := hox.1; omega
  have hn7 : n ≤ 7 := by have := hox.2.1; omega
  have CO := Go.Lib.hid (implOrder_any W v n zs true hv (by omega) (by unfold isOrd; exact decide_eq_true hox))
  have CP := Go.Lib.hid (fun W' (hs' : Sees W' u n (vals ts)) => implOrder_any W' u n ts true hs' (by omega) (by unfold isOrd; exact decide_eq_true hoy))
  have HU := Go.Lib.hid hu
  obtain ⟨b, o, cap, rfl, _, _, hbl, hcell⟩ := sees_cells hv (by omega)
  obtain ⟨b2, o2, cap2, rfl, _, _, hbl2, hcell2⟩ := sees_cells hu (by omega)
  have HC := Go.Lib.hid hcell
  have HC2 := Go.Lib.hid hcell2
  have HM0 := Go.Lib.hid (mid_start zs ts hlen)
  obtain ⟨R, hR⟩ : ∃ R, toRes zs ts = R := ⟨_, rfl⟩
  rw [hR] at HM0 ⊢
  clear hv hu hcell hcell2 hR
  have h2n : (2 : Int) * (n : Int) = ((2 * n : Nat) : Int) := by simp
  obtain ⟨nn, hnn⟩ : ∃ nn, 2 * n = nn := ⟨_, rfl⟩
  have hnn14 : nn ≤ 14 := by omega
  rw [hnn] at h2n
  clear hnn
  go_enter Try.func75, Try.ntmps75
  go_wp2_with fail
  refine CO.out.mono ?_
  rintro e wa ⟨rfl, hda⟩
  go_wp2_with fail
  refine (CP.out _ (HU.out.grow hda)).mono ?_
  rintro e wb ⟨rfl, hdb⟩
  have hbb := hda.trans (hdb.mono hda.size)
  clear hda hdb
  go_wp2_with (first
    | (at_make; refine wpList_make_own _ rfl _ _ 24 rfl W.heap.size 3 i0 (.int .i64 0) 1 Try.underlying24 hi hz0 hz1 .i64 .i64 _ n rfl rfl rfl (by rw [hz2]; omega) (by unfold maxLen; omega) hbb.size ?_; intro wc hownc hgrowc; have hbc : Below W.heap.size W wc := hbb.grown hgrowc hbb.size (fun k hk => by cases hk))
    | (at_make; refine wpList_make_own _ rfl _ _ 22 rfl W.heap.size 5 j0 (.int .u8 0) 1 Try.underlying22 hj hy0 hy1 .i64 .i64 _ nn rfl rfl rfl (by rw [hy2]; omega) (by unfold maxLen; omega) hbc.size ?_; intro wd hownd hgrowd))
  have hne0 : wb.heap.size < wc.heap.size := (hownc.lt _ rfl).2
  have hbd : Below W.heap.size W wd := hbc.grown hgrowd hbc.size (fun k hk => by cases hk)
  have hownc2 := hownc.kept (row := none) hgrowd (.inr (by simp [Value.ownBlock]))
  obtain ⟨ga, hga⟩ : ∃ ga, wb.heap.size = ga := ⟨_, rfl⟩
  obtain ⟨gb, hgb⟩ : ∃ gb, wc.heap.size = gb := ⟨_, rfl⟩
  rw [hga] at hownc2 hne0
  rw [hgb] at hownd hne0
  have H0 := Go.Lib.hid (And.intro hownc2 (And.intro hownd (And.intro (Nat.ne_of_lt hne0) hbd)))
  have HGA := Go.Lib.hid (And.intro hga hgb)
  clear hgrowd hgrowc hownc hownc2 hownd hbd hbc hne0 hbb hga hgb
  go_wp2_with fail
  go_loopw [6, 7, 8, 35] (fun sv gv xv iv wr => ∃ (i x ns na g1 c1 g2 c2 : Nat) (st : List Int) (acc : List UInt8), iv = .int .i64 i ∧ xv = .int .i64 x ∧ sv = .slice (some ⟨g1, 0, none⟩) ns c1 ∧ gv = .slice (some ⟨g2, 0, none⟩) na c2 ∧ i ≤ n ∧ x ≤ 7 ∧ ns ≤ 7 ∧ na ≤ 14 ∧ st.length = ns ∧ acc.length = na ∧ wr.ownsRow W.heap.size 3 1 (.slice (some ⟨g1, 0, none⟩) ns c1) ns (vals st) ∧ wr.ownsRow W.heap.size 5 1 (.slice (some ⟨g2, 0, none⟩) na c2) na (bvals acc) ∧ g1 ≠ g2 ∧ Below W.heap.size W wr ∧ Hid (Mid zs ts R i st x acc)) (fun _ _ _ i _ => n - (intOf i).toNat)
  case atStart => exact ⟨0, 0, 0, 0, ga, n, gb, nn, [], [], rfl, rfl, by first | rfl | rw [← HGA.out.1], by first | rfl | rw [← HGA.out.2], Nat.zero_le _, by omega, by omega, by omega, rfl, rfl, H0.out.1, H0.out.2.1, H0.out.2.2.1, H0.out.2.2.2, HM0⟩
  case round =>
    obtain ⟨i, x, ns, na, g1, c1, g2, c2, st, acc, rfl, rfl, rfl, rfl, hin, hx7, hns7, hna14, hst, hna, hown1, hown2, hg12, hb, HMID⟩ := hrel
    by_cases hlt2 : i < n
    · have hti := (hb.cell (p := ⟨b2, o2 + i, none⟩) hbl2).trans (HC2.out i (by omega))
      obtain ⟨tt, htt⟩ : ∃ tt, ts.getD i 0 = tt := ⟨_, rfl⟩
      rw [htt] at hti
      have HT := Go.Lib.hid htt
      have hini : (i : Int) < (n : Int) := by omega
      clear htt
      go_wp2_with fail
      go_loopw [6, 7, 8] (fun sv gv xv w2 => ∃ (x ns na g1 c1 g2 c2 : Nat) (st : List Int) (acc : List UInt8), xv = .int .i64 x ∧ sv = .slice (some ⟨g1, 0, none⟩) ns c1 ∧ gv = .slice (some ⟨g2, 0, none⟩) na c2 ∧ x ≤ 7 ∧ ns ≤ 7 ∧ na ≤ 14 ∧ st.length = ns ∧ acc.length = na ∧ w2.ownsRow W.heap.size 3 1 (.slice (some ⟨g1, 0, none⟩) ns c1) ns (vals st) ∧ w2.ownsRow W.heap.size 5 1 (.slice (some ⟨g2, 0, none⟩) na c2) na (bvals acc) ∧ g1 ≠ g2 ∧ Below W.heap.size W w2 ∧ Hid (Mid zs ts R i st x acc)) (fun _ _ x _ => n - (intOf x).toNat)
      case atStart => exact ⟨x, ns, na, g1, c1, g2, c2, st, acc, rfl, rfl, rfl, hx7, hns7, hna14, hst, hna, hown1, hown2, hg12, hb, HMID⟩
      case round =>
        obtain ⟨x, ns, na, g1, c1, g2, c2, st, acc, rfl, rfl, rfl, hx7, hns7, hna14, hst, hna, hown1, hown2, hg12, hb, HMID⟩ := hrel
        have hmid := HMID.out
        have hln := hmid.2.1
        have hxle := hmid.2.2.1
        have hla := hmid.2.2.2.2
        clear hti
        have HNA := Go.Lib.hid hna
        have HSL := Go.Lib.hid hst
        by_cases hn0 : ns = 0
        · have hxn : x < n := by omega
          have hck := (hb.cell (p := ⟨b, o + x, none⟩) hbl).trans (HC.out x (by omega))
          obtain ⟨z, hz⟩ : ∃ z, zs.getD x 0 = z := ⟨_, rfl⟩
          have HZ := Go.Lib.hid hz
          rw [hz] at hck
          have hxi : (x : Int) < (n : Int) := by omega
          have hxe : ((x : Int) == (n : Int)) = false := by rw [beq_eq_false_iff_ne]; omega
          have hna13 : na ≤ 13 := by omega
          have hst0 : st = [] := List.eq_nil_of_length_eq_zero (by omega)
          have HN : Hid (Mid zs ts R i (st ++ [z]) (x + 1) (acc ++ [73])) := Go.Lib.hid (by rw [← HZ.out]; exact mid_push hmid (by omega) (by rw [hst0]; simp) (by omega))
          subst hn0
          clear hz hmid hln hla hst0 hst hna hxle
          go_wp2_with (first
            | (at_builtin
               refine wpList_append_own_at _ rfl _ _ 24 rfl W.heap.size 3 i0 (.int .i64 0) 1 8 Try.underlying24 hi hz0 hz1 hz2 rfl (by decide) (.slice (some ⟨g1, 0, none⟩) 0 c1) 0 (vals st) rfl (hown1.alloc _) ⟨wr.heap.size, 0, none⟩ 1 1 [.int .i64 z] rfl rfl (cell_one_new _ _ _) (fun x hx => by simp at hx; subst hx; rfl) (by unfold maxLen; omega) (by omega) (by have := hb.size; simp; omega) ?_
               intro av aw aown agrow anil arow
               obtain ⟨g1', c1', rfl⟩ := ownsRow_succ aown
               have e1 : vals st ++ [Value.int .i64 z] = vals (st ++ [z]) := by simp
               rw [e1] at aown
               have hb1 : Below W.heap.size W aw := (hb.alloc hb.size _).grown agrow (by have := hb.size; simp; omega) (fun q hq => (hown1.lt q hq).1)
               have hown2a := own_mark (hown2.alloc (.cells #[.int .i64 z] 3)) agrow (fun a ha e => by simp only [Value.ownBlock, Option.some.injEq] at ha e; omega)
               have hg12a : g1' ≠ g2 := by
                 have h1 := (hown2.lt g2 rfl).2
                 rcases arow with h2 | h2
                 · simp [Value.ownBlock] at h2; omega
                 · simp [Value.ownBlock] at h2; omega)
            | (at_builtin; refine wpList_append_own_at _ rfl _ _ 22 rfl W.heap.size 5 j0 (.int .u8 0) 1 1 Try.underlying22 hj hy0 hy1 hy2 rfl (by decide) (.slice (some ⟨g2, 0, none⟩) na c2) na (bvals acc) rfl (hown2a.alloc _) ⟨aw.heap.size, 0, none⟩ 1 1 [.int .u8 73] rfl rfl (cell_one_new _ _ _) (fun x hx => by simp at hx; subst hx; rfl) (by unfold maxLen; omega) (by omega) (by have := hb1.size; simp; omega) ?_; intro bv bw bown bgrow bnil brow))
          obtain ⟨g2', c2', rfl⟩ := ownsRow_succ bown
          have e1 : bvals acc ++ [Value.int .u8 73] = bvals (acc ++ [73]) := by simp
          rw [e1] at bown
          have hb2 : Below W.heap.size W bw := (hb1.alloc hb1.size _).grown bgrow (by have := hb1.size; simp; omega) (fun q hq => (hown2a.lt q hq).1)
          have hown1b := own_mark (aown.alloc (.cells #[.int .u8 73] 5)) bgrow (fun a ha e => by simp only [Value.ownBlock, Option.some.injEq] at ha e; omega)
          have hg12b : g1' ≠ g2' := by
            have h1 := (aown.lt g1' rfl).2
            rcases brow with h2 | h2
            · simp [Value.ownBlock] at h2; omega
            · simp [Value.ownBlock] at h2; omega
          have H3 := Go.Lib.hid (And.intro hown1b (And.intro bown (And.intro hg12b hb2)))
          clear bgrow bnil brow agrow anil arow hown1 hown2 hb aown hown2a hb1 hown1b bown hg12b hb2 e1 hg12a
          go_wp2
          go_roundw
          case rel => exact ⟨x + 1, 0 + 1, na + 1, g1', c1', g2', c2', st ++ [z], acc ++ [73], by go_num, rfl, rfl, by omega, by omega, by omega, by rw [List.length_append, HSL.out]; rfl, by rw [List.length_append, HNA.out]; rfl, H3.out.1, H3.out.2.1, H3.out.2.2.1, H3.out.2.2.2, HN⟩
          case measure => simp [intOf]; omega
        · obtain ⟨la, p, hlap, hlast, hdrop⟩ := split_last (l := st) (by omega)
          have hgl : st.getLast? = some p := by rw [hlap]; simp
          obtain ⟨m, rfl⟩ : ∃ m, ns = m + 1 := ⟨ns - 1, by omega⟩
          have hckp : wr.cell? ⟨g1, m, none⟩ = some (.int .i64 p) := by
            rw [hown1.cellAt m (by omega), hlap]
            have : la.length = m := by rw [hlap] at hst; simp at hst; omega
            simp [← this]
          have hm7 : m ≤ 6 := by omega
          have hz1' : (((m + 1 : Nat) : Int) == 0) = false := by rw [beq_eq_false_iff_ne]; omega
          have hz2' : ((m : Int) + 1 == 0) = false := by rw [beq_eq_false_iff_ne]; omega
          by_cases hpt : p = tt
          · have hna13 : na ≤ 13 := by omega
            subst hpt
            have HN : Hid (Mid zs ts R (i + 1) la x (acc ++ [79])) := Go.Lib.hid (by rw [← hdrop]; exact mid_pop hmid (by omega) (by rw [hgl, HT.out]))
            have hpop : wr.ownsRow W.heap.size 3 1 (.slice (some ⟨g1, 0, none⟩) m c1) m (vals la) := ownsRow_pop (last := [.int .i64 p]) (by have := hst; rw [hlap] at this; simp at this; simp; omega) (by rw [hlap] at hown1; simpa using hown1)
            have hmc : m + 1 ≤ c1 := by
              rcases hown1.2 with ⟨h0, _⟩ | ⟨g', cap', cur, h0, _, _, h1, _⟩
              · cases h0
              · cases h0; exact h1
            have HLA : Hid (la.length = m) := Go.Lib.hid (by have := hst; rw [hlap] at this; simp at this; omega)
            clear hmid hln hla hst hlap hlast hdrop hgl hown1 hna hxle
            go_wp2_with (at_builtin; refine wpList_append_own_at _ rfl _ _ 22 rfl W.heap.size 5 j0 (.int .u8 0) 1 1 Try.underlying22 hj hy0 hy1 hy2 rfl (by decide) (.slice (some ⟨g2, 0, none⟩) na c2) na (bvals acc) rfl (hown2.alloc _) ⟨wr.heap.size, 0, none⟩ 1 1 [.int .u8 79] rfl rfl (cell_one_new _ _ _) (fun x hx => by simp at hx; subst hx; rfl) (by unfold maxLen; omega) (by omega) (by have := hb.size; simp; omega) ?_; intro bv bw bown bgrow bnil brow)
            obtain ⟨g2', c2', rfl⟩ := ownsRow_succ bown
            have e1 : bvals acc ++ [Value.int .u8 79] = bvals (acc ++ [79]) := by simp
            rw [e1] at bown
            have hb2 : Below W.heap.size W bw := (hb.alloc hb.size _).grown bgrow (by have := hb.size; simp; omega) (fun q hq => (hown2.lt q hq).1)
            have hown1b := own_mark (hpop.alloc (.cells #[.int .u8 79] 5)) bgrow (fun a ha e => by simp only [Value.ownBlock, Option.some.injEq] at ha e; omega)
            have hg12b : g1 ≠ g2' := by
              have h1 := (hpop.lt g1 rfl).2
              rcases brow with h2 | h2
              · simp [Value.ownBlock] at h2; omega
              · simp [Value.ownBlock] at h2; omega
            have H3 := Go.Lib.hid (And.intro hown1b (And.intro bown (And.intro hg12b hb2)))
            clear bgrow bnil brow hpop hown2 hb hown1b bown hg12b hb2 e1
            go_wp2
            go_roundw
            case rel => exact ⟨i + 1, x, m, na + 1, g1, c1, g2', c2', la, acc ++ [79], by go_num, rfl, rfl, rfl, by omega, hx7, by omega, by omega, HLA.out, by rw [List.length_append, HNA.out]; rfl, H3.out.1, H3.out.2.1, H3.out.2.2.1, H3.out.2.2.2, HN⟩
            case measure => simp [intOf]; omega
          · have hpt2 : (p == tt) = false := by rw [beq_eq_false_iff_ne]; exact hpt
            have hne : st.getLast? ≠ some (ts.getD i 0) := by rw [hgl, HT.out]; intro e; exact hpt (by cases e; rfl)
            by_cases hxn : x < n
            · have hck := (hb.cell (p := ⟨b, o + x, none⟩) hbl).trans (HC.out x (by omega))
              obtain ⟨z, hz⟩ : ∃ z, zs.getD x 0 = z := ⟨_, rfl⟩
              have HZ := Go.Lib.hid hz
              rw [hz] at hck
              have hxi : (x : Int) < (n : Int) := by omega
              have hxe : ((x : Int) == (n : Int)) = false := by rw [beq_eq_false_iff_ne]; omega
              have hna13 : na ≤ 13 := by omega
              have hm5 : m ≤ 5 := by omega
              have HN : Hid (Mid zs ts R i (st ++ [z]) (x + 1) (acc ++ [73])) := Go.Lib.hid (by rw [← HZ.out]; exact mid_push hmid (by omega) hne (by omega))
              clear hz hmid hln hla hst hlap hlast hdrop hgl hna hne hxle
              go_wp2_with (first
                | (at_builtin
                   refine wpList_append_own_at _ rfl _ _ 24 rfl W.heap.size 3 i0 (.int .i64 0) 1 8 Try.underlying24 hi hz0 hz1 hz2 rfl (by decide) (.slice (some ⟨g1, 0, none⟩) (m + 1) c1) (m + 1) (vals st) rfl (hown1.alloc _) ⟨wr.heap.size, 0, none⟩ 1 1 [.int .i64 z] rfl rfl (cell_one_new _ _ _) (fun x hx => by simp at hx; subst hx; rfl) (by unfold maxLen; omega) (by omega) (by have := hb.size; simp; omega) ?_
                   intro av aw aown agrow anil arow
                   obtain ⟨g1', c1', rfl⟩ := ownsRow_succ aown
                   have e1 : vals st ++ [Value.int .i64 z] = vals (st ++ [z]) := by simp
                   rw [e1] at aown
                   have hb1 : Below W.heap.size W aw := (hb.alloc hb.size _).grown agrow (by have := hb.size; simp; omega) (fun q hq => (hown1.lt q hq).1)
                   have hown2a := own_mark (hown2.alloc (.cells #[.int .i64 z] 3)) agrow (fun a ha e => by simp only [Value.ownBlock, Option.some.injEq] at ha e; omega)
                   have hg12a : g1' ≠ g2 := by
                     have h1 := (hown2.lt g2 rfl).2
                     rcases arow with h2 | h2
                     · simp [Value.ownBlock] at h2; omega
                     · simp [Value.ownBlock] at h2; omega)
                | (at_builtin; refine wpList_append_own_at _ rfl _ _ 22 rfl W.heap.size 5 j0 (.int .u8 0) 1 1 Try.underlying22 hj hy0 hy1 hy2 rfl (by decide) (.slice (some ⟨g2, 0, none⟩) na c2) na (bvals acc) rfl (hown2a.alloc _) ⟨aw.heap.size, 0, none⟩ 1 1 [.int .u8 73] rfl rfl (cell_one_new _ _ _) (fun x hx => by simp at hx; subst hx; rfl) (by unfold maxLen; omega) (by omega) (by have := hb1.size; simp; omega) ?_; intro bv bw bown bgrow bnil brow))
              obtain ⟨g2', c2', rfl⟩ := ownsRow_succ bown
              have e1 : bvals acc ++ [Value.int .u8 73] = bvals (acc ++ [73]) := by simp
              rw [e1] at bown
              have hb2 : Below W.heap.size W bw := (hb1.alloc hb1.size _).grown bgrow (by have := hb1.size; simp; omega) (fun q hq => (hown2a.lt q hq).1)
              have hown1b := own_mark (aown.alloc (.cells #[.int .u8 73] 5)) bgrow (fun a ha e => by simp only [Value.ownBlock, Option.some.injEq] at ha e; omega)
              have hg12b : g1' ≠ g2' := by
                have h1 := (aown.lt g1' rfl).2
                rcases brow with h2 | h2
                · simp [Value.ownBlock] at h2; omega
                · simp [Value.ownBlock] at h2; omega
              have H3 := Go.Lib.hid (And.intro hown1b (And.intro bown (And.intro hg12b hb2)))
              clear bgrow bnil brow agrow anil arow hown1 hown2 hb aown hown2a hb1 hown1b bown hg12b hb2 e1 hg12a
              go_wp2
              go_roundw
              case rel => exact ⟨x + 1, (m + 1) + 1, na + 1, g1', c1', g2', c2', st ++ [z], acc ++ [73], by go_num, rfl, rfl, by omega, by omega, by omega, by rw [List.length_append, HSL.out]; rfl, by rw [List.length_append, HNA.out]; rfl, H3.out.1, H3.out.2.1, H3.out.2.2.1, H3.out.2.2.2, HN⟩
              case measure => simp [intOf]; omega
            · have hxe : x = n := by omega
              have HF : Hid (R = none) := Go.Lib.hid (mid_fail hmid (by omega) hne (by omega))
              have HSS : Hid (ByteArray.empty = (optAns R).1 ∧ false = (optAns R).2) := Go.Lib.hid (by rw [HF.out]; exact ⟨rfl, rfl⟩)
              have HB := Go.Lib.hid hb
              subst hxe
              clear hmid hln hla hst hlap hlast hdrop hgl hna hne hown1 hown2 hb hxle
              go_wp2
              go_ret2
              exact ⟨by rw [← HSS.out.1, ← HSS.out.2]; rfl, HB.out⟩
    · have HE : Hid (R = some acc) := Go.Lib.hid (mid_end HMID.out (by omega))
      have HB := Go.Lib.hid hb
      have hconv := own_text hown2
      obtain ⟨tx, htx⟩ : ∃ tx, txt acc = tx := ⟨_, rfl⟩
      rw [htx] at hconv
      have HSS : Hid (tx = (optAns R).1 ∧ true = (optAns R).2) := Go.Lib.hid (by rw [HE.out]; exact ⟨htx.symm, rfl⟩)
      clear hown1 hown2 hb htx
      go_wp2
      go_ret2
      exact ⟨by rw [← HSS.out.1, ← HSS.out.2]; rfl, HB.out⟩

end Go.Proofs.Ytddenfnoajdjiaa.ToImplC

/-
  Contracts: WordTo of the model and of the program. Conditions: lists of at most 2^20 numbers.
-/
namespace Go.Proofs.Ytddenfnoajdjiaa.WordToC
open Go.RowKit SeesC IntsC ExactC NumC IterC OrdMath WordMath InC OrderC WordC RunC ToC ToImplC

set_option maxRecDepth 100000 in
set_option maxHeartbeats 1000000 in
theorem implTo (xs ys : List Int) (r' : ByteArray) (b : Bool) (h : toAns xs ys = (r', b)) (hx : xs.length ≤ 1048576) (hy : ys.length ≤ 1048576) (W : World) (v : Value) (n : Nat) (hv : Sees W v n (vals xs)) (u : Value) (m : Nat) (hu : Sees W u m (vals ys)) :
    Calls Try.prog 75 #[v, u] W fun e w' => e = .returned (.tuple #[.string r', .bool b]) ∧ Below W.heap.size W w' := by
  have hn : n ≤ 1048576 := by have := hv.1; simp at this; omega
  have hm : m ≤ 1048576 := by have := hu.1; simp at this; omega
  obtain ⟨r, hr⟩ : ∃ r, isOrd xs = r := ⟨_, rfl⟩
  obtain ⟨s, hs⟩ : ∃ s, isOrd ys = s := ⟨_, rfl⟩
  have CO := Go.Lib.hid (fun W' (hs' : Sees W' v n (vals xs)) => implOrder_any W' v n xs r hs' hn hr)
  have CP := Go.Lib.hid (fun W' (hs' : Sees W' u m (vals ys)) => implOrder_any W' u m ys s hs' hm hs)
  have HV := Go.Lib.hid hv
  have HU := Go.Lib.hid hu
  have hl : xs.length = n := by simpa using hv.1
  have hl' : ys.length = m := by simpa using hu.1
  unfold toAns at h
  obtain ⟨_, ad, cap, rfl, _, _⟩ := hv
  obtain ⟨_, ad', cap', rfl, _, _⟩ := hu
  cases r with
  | false =>
    rw [if_neg (by rintro ⟨h1, _⟩; unfold isOrd at hr; exact of_decide_eq_false hr h1)] at h
    cases h
    clear hr hs
    go_enter Try.func75, Try.ntmps75
    go_wp2_with fail
    refine (CO.out _ HV.out).mono ?_
    rintro e w1 ⟨rfl, hd⟩
    have HB1 : Hid (Below W.heap.size W w1) := Go.Lib.hid hd
    clear hd
    go_wp2_with fail
    go_ret2
    exact ⟨rfl, HB1.out⟩
  | true =>
    cases s with
    | false =>
      rw [if_neg (by rintro ⟨_, h1, _⟩; unfold isOrd at hs; exact of_decide_eq_false hs h1)] at h
      cases h
      clear hr hs
      go_enter Try.func75, Try.ntmps75
      go_wp2_with fail
      refine (CO.out _ HV.out).mono ?_
      rintro e w1 ⟨rfl, hd⟩
      have HB1 : Hid (Below W.heap.size W w1) := Go.Lib.hid hd
      clear hd
      go_wp2_with fail
      refine (CP.out _ (HU.out.grow HB1.out)).mono ?_
      rintro e w2 ⟨rfl, hd⟩
      have HB2 : Hid (Below W.heap.size W w2) := Go.Lib.hid (HB1.out.trans (hd.mono HB1.out.size))
      clear hd
      go_wp2_with fail
      go_ret2
      exact ⟨rfl, HB2.out⟩
    | true =>
      have hox : Ord xs := by unfold isOrd at hr; exact of_decide_eq_true hr
      have hoy : Ord ys := by unfold isOrd at hs; exact of_decide_eq_true hs
      clear hr hs
      by_cases hnm : n = m
      · subst hnm
        rw [if_pos ⟨hox, hoy, by omega⟩] at h
        have HA1 : Hid ((optAns (toRes xs ys)).1 = r' ∧ (optAns (toRes xs ys)).2 = b) := Go.Lib.hid (by rw [h]; exact ⟨rfl, rfl⟩)
        have CT := implTo_main xs ys hox hoy (by omega) W _ n HV.out _ HU.out
        rw [HA1.out.1, HA1.out.2] at CT
        exact CT
      · rw [if_neg (by rintro ⟨_, _, h1⟩; omega)] at h
        cases h
        have hne : ((n : Int) == (m : Int)) = false := by rw [beq_eq_false_iff_ne]; omega
        have hne2 : (n : Int) ≠ (m : Int) := by omega
        go_enter Try.func75, Try.ntmps75
        go_wp2_with fail
        refine (CO.out _ HV.out).mono ?_
        rintro e w1 ⟨rfl, hd⟩
        have HB1 : Hid (Below W.heap.size W w1) := Go.Lib.hid hd
        clear hd
        go_wp2_with fail
        refine (CP.out _ (HU.out.grow HB1.out)).mono ?_
        rintro e w2 ⟨rfl, hd⟩
        have HB2 : Hid (Below W.heap.size W w2) := Go.Lib.hid (HB1.out.trans (hd.mono HB1.out.size))
        clear hd
        go_wp2_with fail
        go_ret2
        exact ⟨rfl, HB2.out⟩

end Go.Proofs.Ytddenfnoajdjiaa.WordToC

/-
  Contracts: how many orders there are of so many numbers, how many numbers behind a place are less, the rank of an order and its inversions. Conditions: at most 7 numbers where orders are counted; lists of at most 2^20 numbers.
-/
namespace Go.Proofs.Ytddenfnoajdjiaa.RankC
open Go.RowKit SeesC IntsC ExactC OrdMath OrderC 

set_option maxRecDepth 100000 in
theorem l2Ways_any (n : Nat) (W : World) (hn : n ≤ 7) :
    Calls Try.prog 125 #[.int .i64 n] W fun e w' => e = .returned (.int .i64 (fact n : Nat)) ∧ W = w' := by
  go_enter Try.func125, Try.ntmps125
  go_wp2
  go_loop [3, 4] (fun cv fv => ∃ (f q : Nat), 2 ≤ f ∧ (f = 2 ∨ f ≤ n + 1) ∧ fv = .int .i64 f ∧ cv = .int .i64 q ∧ Hid (q = fact (f - 1))) (fun _ f => (n + 1 - intOf f).toNat)
  case atStart => exact ⟨2, 1, Nat.le_refl _, .inl rfl, rfl, rfl, Go.Lib.hid rfl⟩
  case round =>
    obtain ⟨f, q, h2, hf, rfl, rfl, HQ⟩ := hrel
    by_cases hlt : f ≤ n
    · have HN : Hid (q * f = fact (f + 1 - 1)) := Go.Lib.hid (by
        obtain ⟨j, rfl⟩ : ∃ j, f = j + 1 := ⟨f - 1, by omega⟩
        rw [HQ.out]; simp [fact, Nat.mul_comm])
      obtain ⟨r, hr⟩ : ∃ r, q * f = r := ⟨_, rfl⟩
      have hr7 : r ≤ 5040 := by rw [← hr, HN.out]; exact fact_7 (by omega)
      have hp : (q : Int) * (f : Int) = (r : Int) := by rw [← hr]; simp
      have hlti : (f : Int) ≤ (n : Int) := by omega
      rw [hr] at HN
      clear hr
      go_wp2
      go_round
      case rel => exact ⟨f + 1, r, by omega, by omega, by go_num, rfl, HN⟩
      case measure => simp [intOf]; omega
    · have HR : Hid (q = fact n) := Go.Lib.hid (by
        rw [HQ.out]
        by_cases h0 : n = 0
        · subst h0; have : f = 2 := by omega
          subst this; rfl
        · by_cases h1 : f = 2
          · subst h1; have : n = 1 := by omega
            subst this; rfl
          · have : f - 1 = n := by omega
            rw [this])
      go_wp2
      go_ret
      exact ⟨by rw [← HR.out]; rfl, rfl⟩

end Go.Proofs.Ytddenfnoajdjiaa.RankC

/-
  Contracts: the model and the program find the order with a rank. Conditions: none.
-/
namespace Go.Proofs.Ytddenfnoajdjiaa.AtC
open Go.RowKit SeesC IntsC ExactC OrdMath InC OrderC RankC IterC

set_option maxRecDepth 100000 in
theorem l2Sorted_any (n : Nat) (W : World) (hn : n ≤ 7) :
    Calls Try.prog 74 #[.int .i64 n] W fun e w' => ∃ g c, e = .returned (.slice (some ⟨g, 0, none⟩) n c) ∧ w'.ownsRow W.heap.size 3 1 (.slice (some ⟨g, 0, none⟩) n c) n (vals (iota n)) ∧ Below W.heap.size W w' := by
  obtain ⟨i0, hi, hz0, hz1, hz2⟩ := info_parts infoI
  go_enter Try.func74, Try.ntmps74
  go_wp2
  go_loopw [3, 4] (fun ov xv wr => ∃ (k g c : Nat), k ≤ n ∧ xv = .int .i64 ((k + 1 : Nat) : Int) ∧ ov = .slice (some ⟨g, 0, none⟩) k c ∧ wr.ownsRow W.heap.size 3 1 (.slice (some ⟨g, 0, none⟩) k c) k (vals (iota k)) ∧ Below W.heap.size W wr) (fun _ x _ => (n + 1 - intOf x).toNat)
  case atStart => exact ⟨0, W.heap.size, 0, Nat.zero_le _, rfl, rfl, by
    have := World.ownsRow_made (base := W.heap.size) (e := 3) (size := 1) W #[] 0 (Nat.le_refl _) (by unfold maxLen; omega) rfl
    simpa [iota] using this, (Below.refl _ _).alloc (Nat.le_refl _) _⟩
  case round =>
    obtain ⟨k, g, c, hk, rfl, rfl, hown, hb⟩ := hrel
    by_cases hlt : k < n
    · have hlti : ((k + 1 : Nat) : Int) ≤ (n : Int) := by omega
      have HE : Hid (vals (iota (k + 1)) = vals (iota k) ++ [.int .i64 ((k + 1 : Nat) : Int)]) := Go.Lib.hid (by rw [iota_next]; simp)
      obtain ⟨z, hz⟩ : ∃ z, k + 1 = z := ⟨_, rfl⟩
      rw [hz] at hlti HE ⊢
      have HZ := Go.Lib.hid hz
      have hz7 : z ≤ 7 := by omega
      clear hz
      go_wp2_with (at_builtin; refine wpList_append_own _ rfl _ _ 24 rfl W.heap.size 3 i0 (.int .i64 0) 1 8 Try.underlying24 hi hz0 hz1 hz2 rfl (by decide) _ _ _ rfl (hown.alloc _) ⟨wr.heap.size, 0, none⟩ 1 1 [.int .i64 (z : Int)] rfl rfl (cell_one_new _ _ _) (fun x hx => by simp at hx; subst hx; rfl) (by unfold maxLen; omega) (by omega) (by have := hb.size; simp; omega) ?_; intro v' w3 hown' hgrow3 hnil3)
      obtain ⟨g', cap', rfl⟩ := ownsRow_succ hown'
      rw [← HE.out, HZ.out] at hown'
      have hb' : Below W.heap.size W w3 := (hb.alloc hb.size _).grown hgrow3 (by have := hb.size; simp; omega) (fun q hq => (hown.lt q hq).1)
      have H3 := Go.Lib.hid (And.intro hown' hb')
      clear hown' hgrow3 hnil3 hown hb hb'
      go_wp2
      go_roundw
      case rel => exact ⟨z, g', cap', by have := HZ.out; omega, by go_num, by rw [HZ.out], H3.out.1, H3.out.2⟩
      case measure => have := HZ.out; simp [intOf]; omega
    · have hlti : ¬ ((k + 1 : Nat) : Int) ≤ (n : Int) := by omega
      have hkn : k = n := by omega
      subst hkn
      have H3 := Go.Lib.hid (And.intro hown hb)
      clear hown hb
      go_wp2
      go_ret
      exact ⟨_, _, rfl, H3.out.1, H3.out.2⟩

set_option maxRecDepth 100000 in
theorem l1Own_any (zs : List Int) (b o n cap : Nat) (W : World) (hl : zs.length = n) (hn : n ≤ 1048576) (hc : ∀ j, j < zs.length → W.cell? ⟨b, o + j, none⟩ = some (.int .i64 (zs.getD j 0))) :
    Calls Try.prog 99 #[.slice (some ⟨b, o, none⟩) n cap] W fun e w' => ∃ g c, e = .returned (.slice (some ⟨g, 0, none⟩) n c) ∧ w'.ownsRow W.heap.size 3 1 (.slice (some ⟨g, 0, none⟩) n c) n (vals zs) ∧ Below W.heap.size W w' := by
  obtain ⟨i0, hi, hz0, hz1, hz2⟩ := info_parts infoI
  have ho0 := World.ownsRow_made (base := W.heap.size) (e := 3) (size := 1) W #[] 0 (Nat.le_refl _) (by unfold maxLen; omega) rfl
  have hc2 : ∀ j u, (vals zs)[j]? = some u → (W.alloc (.cells #[] 3)).cell? ((⟨b, o, none⟩ : Addr).add j) = some u := by
    intro j u hu
    have hj : j < zs.length := by have := (List.getElem?_eq_some_iff.1 hu).1; simpa using this
    have e0 : (⟨b, o, none⟩ : Addr).add j = ⟨b, o + j, none⟩ := by unfold Addr.add; split <;> simp_all
    have h1 := hc j hj
    have hlt := World.block_lt_of_cell? W _ h1
    have hbl : Below W.heap.size W (W.alloc (.cells #[] 3)) := (Below.refl _ _).alloc (Nat.le_refl _) _
    rw [e0, hbl.cell (p := ⟨b, o + j, none⟩) hlt, h1]
    simp [hj] at hu
    rw [← hu]; simp [hj]
  have HC2 := Go.Lib.hid hc2
  clear hc hc2
  go_enter Try.func99, Try.ntmps99
  go_wp2_with (at_builtin; refine wpList_append_own _ rfl _ _ 24 rfl W.heap.size 3 i0 (.int .i64 0) 1 8 Try.underlying24 hi hz0 hz1 hz2 rfl (by decide) (.slice (some ⟨W.heap.size, 0, none⟩) 0 0) 0 [] rfl ho0 ⟨b, o, none⟩ n cap (vals zs) rfl (by rw [vals_len, hl, Nat.mul_one]) HC2.out (ints_oneCell .i64 zs) (by unfold maxLen; omega) (by omega) (by simp) ?_; intro v' w3 hown' hgrow3 hnil3)
  have hb' : Below W.heap.size W w3 := ((Below.refl _ _).alloc (Nat.le_refl _) _).grown hgrow3 (by simp) (fun q hq => (ho0.lt q hq).1)
  have hne : v' ≠ .slice none 0 0 := fun e => by have := (hnil3.1 e).1; cases this
  rw [Nat.zero_add, List.nil_append] at hown'
  obtain ⟨g, c, rfl⟩ : ∃ g c, v' = .slice (some ⟨g, 0, none⟩) n c := by
    rcases hown'.2 with ⟨h0, _⟩ | ⟨g, c, cur, hv, _⟩
    · exact absurd h0 hne
    · exact ⟨g, c, hv⟩
  have H3 := Go.Lib.hid (And.intro hown' hb')
  clear hown' hgrow3 hnil3 ho0 hb' hne
  go_wp2
  go_ret
  exact ⟨_, _, rfl, H3.out.1, H3.out.2⟩

theorem own_drop_cells {w : World} {base g n cap : Nat} {ty : TypeId} {zs : List Int} (h : w.ownsRow base ty 1 (.slice (some ⟨g, 0, none⟩) n cap) n (vals zs)) (i : Nat) : ∀ j u, (vals (zs.drop i))[j]? = some u → w.cell? ((⟨g, i, none⟩ : Addr).add j) = some u := by
  intro j u hu
  have hl : zs.length = n := by simpa using h.1
  have hj : i + j < zs.length := by have := (List.getElem?_eq_some_iff.1 hu).1; simp at this; omega
  have e0 : (⟨g, i, none⟩ : Addr).add j = ⟨g, i + j, none⟩ := by unfold Addr.add; split <;> simp_all
  rw [e0, h.cellAt (i + j) (by omega)]
  simp at hu ⊢
  exact hu

/-- A slice's length. -/
def lenV : Value → Nat
  | .slice _ m _ => m
  | _ => 0

/-- What is left behind a pick. -/
theorem erase_parts {left : List Int} {i : Nat} : left.eraseIdx i = left.take i ++ left.drop (i + 1) := by
  rw [List.eraseIdx_eq_take_drop_succ]

set_option maxRecDepth 100000 in
set_option maxHeartbeats 4000000 in
theorem l2At_any (n k : Nat) (W : World) (hn1 : 1 ≤ n) (hn : n ≤ 7) (hk : k < fact n) :
    Calls Try.prog 126 #[.int .i64 n, .int .i64 k] W fun e w' => ∃ g c, e = .returned (.slice (some ⟨g, 0, none⟩) n c) ∧ w'.ownsRow W.heap.size 3 1 (.slice (some ⟨g, 0, none⟩) n c) n (vals (atRun n (iota n) k)) ∧ Below W.heap.size W w' := by
  obtain ⟨i0, hi, hz0, hz1, hz2⟩ := info_parts infoI
  have CS := Go.Lib.hid (fun W' => l2Sorted_any n W' hn)
  have hk7 := fact_7 hn
  have ho0 := World.ownsRow_made (base := W.heap.size) (e := 3) (size := 1) W #[] 0 (Nat.le_refl _) (by unfold maxLen; omega) rfl
  have H0 := Go.Lib.hid (And.intro ho0 ((Below.refl W.heap.size W).alloc (Nat.le_refl _) (.cells #[] 3)))
  have HK := Go.Lib.hid hk
  clear ho0 hk
  go_enter Try.func126, Try.ntmps126
  go_wp2_with fail
  refine (CS.out _).mono ?_
  rintro e w1 ⟨gs, cs, rfl, os, bs⟩
  have hos := kept_call H0.out.1 bs
  have hbs := H0.out.2.trans (bs.mono H0.out.2.size)
  have hos2 := own_lower os H0.out.2.size
  have hne : W.heap.size ≠ gs := by
    have h1 := (os.lt gs rfl).1
    have h2 := (H0.out.1.lt W.heap.size rfl).2
    omega
  have H1 := Go.Lib.hid (And.intro hos (And.intro hos2 (And.intro hne hbs)))
  clear os bs hos hbs hos2 hne
  go_wp2_with fail
  go_loopw [1, 5, 6, 7] (fun kv ov lv _ wr => ∃ (m j k' g1 c1 g2 c2 : Nat) (out left : List Int), kv = .int .i64 k' ∧ ov = .slice (some ⟨g1, 0, none⟩) j c1 ∧ lv = .slice (some ⟨g2, 0, none⟩) m c2 ∧ j + m = n ∧ out.length = j ∧ left.length = m ∧ k' ≤ 5040 ∧ wr.ownsRow W.heap.size 3 1 (.slice (some ⟨g1, 0, none⟩) j c1) j (vals out) ∧ wr.ownsRow W.heap.size 3 1 (.slice (some ⟨g2, 0, none⟩) m c2) m (vals left) ∧ g1 ≠ g2 ∧ Below W.heap.size W wr ∧ Hid (out ++ atRun m left k' = atRun n (iota n) k ∧ k' < fact m)) (fun _ _ lv _ _ => lenV lv)
  case atStart => exact ⟨n, 0, k, W.heap.size, 0, gs, cs, [], iota n, rfl, rfl, rfl, by omega, rfl, iota_len n, by have := HK.out; omega, H1.out.1, H1.out.2.1, H1.out.2.2.1, H1.out.2.2.2, Go.Lib.hid ⟨rfl, HK.out⟩⟩
  case round =>
    obtain ⟨m, j, k', g1, c1, g2, c2, out, left, rfl, rfl, rfl, hjm, hlo, hll, hk5, hown1, hown2, hg12, hb, HR⟩ := hrel
    by_cases hm0 : 0 < m
    · obtain ⟨q, rfl⟩ : ∃ q, m = q + 1 := ⟨m - 1, by omega⟩
      have CW := Go.Lib.hid (fun w3 => l2Ways_any q w3 (by omega))
      have hq7 : q ≤ 6 := by omega
      have hf1 := fact_pos q
      have hf7 := fact_6 hq7
      have hkf : k' < (q + 1) * fact q := HR.out.2
      have hix : k' / fact q < q + 1 := by rw [Nat.div_lt_iff_lt_mul (by omega)]; exact hkf
      have hmod := Nat.mod_lt k' (show 0 < fact q by omega)
      have hdiv : (k' : Int).tdiv (fact q : Int) = ((k' / fact q : Nat) : Int) := by rw [Int.tdiv_eq_ediv_of_nonneg (by omega)]; simp
      have hrem : (k' : Int).tmod (fact q : Int) = ((k' % fact q : Nat) : Int) := by rw [Int.tmod_eq_emod_of_nonneg (by omega)]; simp
      have HAT : Hid (atRun (q + 1) left k' = left.getD (k' / fact q) 0 :: atRun q (left.eraseIdx (k' / fact q)) (k' % fact q)) := Go.Lib.hid rfl
      obtain ⟨fq, hfq⟩ : ∃ fq, fact q = fq := ⟨_, rfl⟩
      obtain ⟨ix, hixe⟩ : ∃ ix, k' / fq = ix := ⟨_, rfl⟩
      obtain ⟨km, hkm⟩ : ∃ km, k' % fq = km := ⟨_, rfl⟩
      rw [hfq] at CW hf1 hf7 hix hmod hdiv hrem HAT
      rw [hixe] at hix hdiv HAT
      rw [hkm] at hmod hrem HAT
      obtain ⟨z, hz⟩ : ∃ z, left.getD ix 0 = z := ⟨_, rfl⟩
      rw [hz] at HAT
      have hckz : wr.cell? ⟨g2, ix, none⟩ = some (.int .i64 z) := by rw [hown2.cellAt ix (by omega)]; simp [show ix < left.length by omega]; rw [← hz]; simp [show ix < left.length by omega]
      have hcapm : q + 1 ≤ c2 := by
        rcases hown2.2 with ⟨h0, _⟩ | ⟨g', cap', cur, h0, _, _, h1, _⟩
        · cases h0
        · cases h0; exact h1
      obtain ⟨ix1, hix1⟩ : ∃ ix1, ix + 1 = ix1 := ⟨_, rfl⟩
      have q1 : IntKind.i64.wrap ((ix : Int) + 1) = (ix1 : Int) := by rw [IntWalk.i64_in _ (by omega)]; omega
      have s1 : ix ≤ c2 := by omega
      have s2 : ix1 ≤ q + 1 := by omega
      have s3 : ix1 ≤ c2 := by omega
      have s4 : ix ≤ ix1 := by omega
      have r7 : (ix : Int) ≤ (ix1 : Int) := by omega
      have r1 : (ix : Int) ≤ (c2 : Int) := by omega
      have r2 : (ix1 : Int) ≤ ((q + 1 : Nat) : Int) := by omega
      have r3 : (ix1 : Int) ≤ (c2 : Int) := by omega
      have r4 : (ix : Int) < ((q + 1 : Nat) : Int) := by omega
      have r5 : (ix1 : Int) ≤ (q : Int) + 1 := by omega
      have r6 : (ix : Int) < (q : Int) + 1 := by omega
      have hfne : ((fq : Int) == 0) = false := by rw [beq_eq_false_iff_ne]; omega
      have hfne2 : ¬ (fq : Int) = 0 := by omega
      have hfne3 : ¬ fq = 0 := by omega
      have q0 : IntKind.i64.wrap (ix : Int) = (ix : Int) := IntWalk.i64_in _ (by omega)
      have HL := Go.Lib.hid (And.intro hlo (And.intro hll (And.intro hjm (And.intro hix (And.intro hix1 (And.intro hmod hz))))))
      have hj7 : j ≤ 7 := by omega
      have hk6 : k' / fq ≤ 5040 := by omega
      have HG2 := Go.Lib.hid ((hown2.lt g2 rfl).2)
      have HMOD : Hid (km < fact q) := Go.Lib.hid (by rw [hfq]; exact hmod)
      have hkm5 : km ≤ 5040 := by omega
      clear hlo hll hjm hfq hkf hz hixe hkm
      go_wp2_with fail
      refine (CW.out _).mono ?_
      rintro e w2 ⟨rfl, rfl⟩
      go_wp2_with (at_builtin; refine wpList_append_own_at _ rfl _ _ 24 rfl W.heap.size 3 i0 (.int .i64 0) 1 8 Try.underlying24 hi hz0 hz1 hz2 rfl (by decide) (.slice (some ⟨g1, 0, none⟩) j c1) j (vals out) rfl (hown1.alloc _) ⟨wr.heap.size, 0, none⟩ 1 1 [.int .i64 z] rfl rfl (cell_one_new _ _ _) (fun x hx => by simp at hx; subst hx; rfl) (by unfold maxLen; omega) (by omega) (by have := hb.size; simp; omega) ?_; intro v' w3 hown' hgrow3 hnil3 hrow3)
      obtain ⟨g', cap', rfl⟩ := ownsRow_succ hown'
      have e1 : vals out ++ [Value.int .i64 z] = vals (out ++ [z]) := by simp
      rw [e1] at hown'
      have hb' : Below W.heap.size W w3 := (hb.alloc hb.size _).grown hgrow3 (by have := hb.size; simp; omega) (fun q hq => (hown1.lt q hq).1)
      have hown2' := own_mark (hown2.alloc (.cells #[.int .i64 z] 3)) hgrow3 (fun a ha e => by simp only [Value.ownBlock, Option.some.injEq] at ha e; omega)
      have hg12' : g' ≠ g2 := by
        have h1 := HG2.out
        rcases hrow3 with h2 | h2
        · simp [Value.ownBlock] at h2; omega
        · simp [Value.ownBlock] at h2; omega
      have H3 := Go.Lib.hid (And.intro hown' (And.intro hown2' (And.intro hg12' hb')))
      have HG1 := Go.Lib.hid ((hown'.lt g' rfl).2)
      have htl : (left.take ix).length = ix := by rw [List.length_take, HL.out.2.1]; omega
      have CO := Go.Lib.hid (l1Own_any (left.take ix) g2 0 ix c2 w3.drew htl (by omega) (by
        intro i hi
        have hi2 : i < ix := by omega
        have h1 := (own_cells hown2').1 i (by rw [HL.out.2.1]; omega)
        have h2 : w3.drew.cell? ⟨g2, 0 + i, none⟩ = w3.cell? ⟨g2, 0 + i, none⟩ := rfl
        rw [h2, h1]
        simp [hi2]))
      have HB3 : Hid (W.heap.size ≤ w3.drew.heap.size) := Go.Lib.hid hb'.size
      have hi3 := hi
      clear hown' hgrow3 hnil3 hrow3 hown1 hown2 hb hb' hown2' hg12' e1 htl hckz
      have HINFO := Go.Lib.hid (And.intro hi (And.intro hz0 (And.intro hz1 hz2)))
      have hu2 := Try.underlying24
      have NEWS1 : Hid (∀ w4 : World, w4.ownsRow W.heap.size 3 1 (.slice (some ⟨g2, 0, none⟩) (q + 1) c2) (q + 1) (vals left) → ∀ j u, (vals (left.drop ix1))[j]? = some u → w4.cell? ((⟨g2, ix1, none⟩ : Addr).add j) = some u) := Go.Lib.hid (fun w4 h => own_drop_cells h ix1)
      have NEWS0 : Hid (∀ w4 : World, c2 = ix1 → w4.ownsRow W.heap.size 3 1 (.slice (some ⟨g2, 0, none⟩) (q + 1) c2) (q + 1) (vals left) → ∀ j u, (vals (left.drop ix1))[j]? = some u → w4.cell? ((⟨g2, 0, none⟩ : Addr).add j) = some u) := Go.Lib.hid (fun w4 hc h j u hu => by
        rw [List.drop_of_length_le (by rw [HL.out.2.1]; omega)] at hu
        simp at hu)
      by_cases hcc : c2 = ix1
      · subst hcc
        go_region_law (first
          | (refine step_append_own _ rfl (.tmp 32) (.tmp 38) 24 rfl w3.drew.heap.size 3 i0 (.int .i64 0) 1 8 hu2 HINFO.out.1 HINFO.out.2.1 HINFO.out.2.2.1 HINFO.out.2.2.2 rfl (by decide) (.slice (some ⟨g3, 0, none⟩) ix c3) ix (vals (left.take ix)) (by simp [Act.eval]) H5.out.1 ⟨g2, 0, none⟩ (q + 1 - c2) 0 (vals (left.drop c2)) (by simp [Act.eval] <;> omega) H5.out.2.2.1 H5.out.2.2.2.1 (ints_oneCell .i64 _) (by unfold maxLen; omega) (by omega) H5.out.2.2.2.2 ?_; intro v6 w6 hown6 hgrow6 hnil6)
          | (go_simp; go_at_call 99; refine CO.out.mono ?_; rintro e w4 ⟨g3, c3, rfl, ho4, hb4⟩; have H5 := Go.Lib.hid (And.intro ho4 (And.intro hb4 (And.intro (show (vals (left.drop c2)).length = (q + 1 - c2) * 1 by rw [vals_len, List.length_drop, HL.out.2.1, Nat.mul_one]) (And.intro (NEWS0.out w4 rfl (kept_call (show w3.drew.ownsRow W.heap.size 3 1 (.slice (some ⟨g2, 0, none⟩) (q + 1) c2) (q + 1) (vals left) from H3.out.2.1) hb4)) hb4.size)))); have H6 := Go.Lib.hid (ho4.lt g3 rfl)))
        all_goals
          have hne6 : v6 ≠ .slice none 0 0 := fun e => by have := (hnil6.1 e).1; cases this
          obtain ⟨g6, c6, rfl⟩ : ∃ g c, v6 = .slice (some ⟨g, 0, none⟩) (ix + (q + 1 - c2)) c := by
            rcases hown6.2 with ⟨h0, _⟩ | ⟨g, c, cur, hv, _⟩
            · exact absurd h0 hne6
            · exact ⟨g, c, hv⟩
          have hn6 : ix + (q + 1 - c2) = q := by have := HL.out; omega
          have e6 : vals (left.take ix) ++ vals (left.drop c2) = vals (left.eraseIdx ix) := by rw [erase_parts, HL.out.2.2.2.2.1]; simp
          rw [e6, hn6] at hown6
          have hout4 : w4.ownsRow W.heap.size 3 1 (.slice (some ⟨g', 0, none⟩) (j + 1) cap') (j + 1) (vals (out ++ [z])) := kept_call (show w3.drew.ownsRow W.heap.size 3 1 (.slice (some ⟨g', 0, none⟩) (j + 1) cap') (j + 1) (vals (out ++ [z])) from H3.out.1) H5.out.2.1
          have hg36 : g' < g3 := by
            have h1 := HG1.out
            have h2 := H6.out.1
            have h3 : w3.drew.heap.size = w3.heap.size := rfl
            omega
          have hout6 := own_mark hout4 hgrow6 (fun a ha e => by simp only [Value.ownBlock, Option.some.injEq] at ha e; omega)
          have hb4' : Below W.heap.size W w4 := H3.out.2.2.2.drew.trans (H5.out.2.1.mono HB3.out)
          have hb6 : Below W.heap.size W w6 := hb4'.grown hgrow6 (Nat.le_trans HB3.out H5.out.2.2.2.2) (fun k hk => by simp only [Value.ownBlock, Option.some.injEq] at hk; have h1 := H6.out.1; have h2 := HB3.out; omega)
          have hg16 : g' ≠ g6 := by
            intro e
            subst e
            have h1 := (hown6.lt g' rfl).1
            have h2 := HG1.out
            have h3 : w3.drew.heap.size = w3.heap.size := rfl
            omega
          have H7 := Go.Lib.hid (And.intro hout6 (And.intro (own_lower hown6 HB3.out) (And.intro hg16 hb6)))
          have HN : Hid ((out ++ [z]) ++ atRun q (left.eraseIdx ix) km = atRun n (iota n) k ∧ km < fact q) := Go.Lib.hid ⟨by rw [← HR.out.1, HAT.out]; simp, HMOD.out⟩
          clear hgrow6 hnil6 hout4 hout6 hb4' hb6 hg16 hown6 e6 hne6
          rw [hn6]
          go_wp2
          go_roundw
          case rel => exact ⟨q, j + 1, km, g', cap', g6, c6, out ++ [z], left.eraseIdx ix, rfl, rfl, rfl, by have := HL.out; omega, by simp; exact HL.out.1, by rw [List.length_eraseIdx, HL.out.2.1]; have := HL.out; split <;> omega, by omega, H7.out.1, H7.out.2.1, H7.out.2.2.1, H7.out.2.2.2, HN⟩
          case measure => simp [lenV]
      · skip
        go_region_law (first
          | (refine step_append_own _ rfl (.tmp 32) (.tmp 38) 24 rfl w3.drew.heap.size 3 i0 (.int .i64 0) 1 8 hu2 HINFO.out.1 HINFO.out.2.1 HINFO.out.2.2.1 HINFO.out.2.2.2 rfl (by decide) (.slice (some ⟨g3, 0, none⟩) ix c3) ix (vals (left.take ix)) (by simp [Act.eval]) H5.out.1 ⟨g2, ix1, none⟩ (q + 1 - ix1) (c2 - ix1) (vals (left.drop ix1)) (by simp [Act.eval]) H5.out.2.2.1 H5.out.2.2.2.1 (ints_oneCell .i64 _) (by unfold maxLen; omega) (by omega) H5.out.2.2.2.2 ?_; intro v6 w6 hown6 hgrow6 hnil6)
          | (go_simp; go_at_call 99; refine CO.out.mono ?_; rintro e w4 ⟨g3, c3, rfl, ho4, hb4⟩; have H5 := Go.Lib.hid (And.intro ho4 (And.intro hb4 (And.intro (show (vals (left.drop ix1)).length = (q + 1 - ix1) * 1 by rw [vals_len, List.length_drop, HL.out.2.1, Nat.mul_one]) (And.intro (NEWS1.out w4 (kept_call (show w3.drew.ownsRow W.heap.size 3 1 (.slice (some ⟨g2, 0, none⟩) (q + 1) c2) (q + 1) (vals left) from H3.out.2.1) hb4)) hb4.size)))); have H6 := Go.Lib.hid (ho4.lt g3 rfl)))
        all_goals
          have hne6 : v6 ≠ .slice none 0 0 := fun e => by have := (hnil6.1 e).1; cases this
          obtain ⟨g6, c6, rfl⟩ : ∃ g c, v6 = .slice (some ⟨g, 0, none⟩) (ix + (q + 1 - ix1)) c := by
            rcases hown6.2 with ⟨h0, _⟩ | ⟨g, c, cur, hv, _⟩
            · exact absurd h0 hne6
            · exact ⟨g, c, hv⟩
          have hn6 : ix + (q + 1 - ix1) = q := by have := HL.out; omega
          have e6 : vals (left.take ix) ++ vals (left.drop ix1) = vals (left.eraseIdx ix) := by rw [erase_parts, HL.out.2.2.2.2.1]; simp
          rw [e6, hn6] at hown6
          have hout4 : w4.ownsRow W.heap.size 3 1 (.slice (some ⟨g', 0, none⟩) (j + 1) cap') (j + 1) (vals (out ++ [z])) := kept_call (show w3.drew.ownsRow W.heap.size 3 1 (.slice (some ⟨g', 0, none⟩) (j + 1) cap') (j + 1) (vals (out ++ [z])) from H3.out.1) H5.out.2.1
          have hg36 : g' < g3 := by
            have h1 := HG1.out
            have h2 := H6.out.1
            have h3 : w3.drew.heap.size = w3.heap.size := rfl
            omega
          have hout6 := own_mark hout4 hgrow6 (fun a ha e => by simp only [Value.ownBlock, Option.some.injEq] at ha e; omega)
          have hb4' : Below W.heap.size W w4 := H3.out.2.2.2.drew.trans (H5.out.2.1.mono HB3.out)
          have hb6 : Below W.heap.size W w6 := hb4'.grown hgrow6 (Nat.le_trans HB3.out H5.out.2.2.2.2) (fun k hk => by simp only [Value.ownBlock, Option.some.injEq] at hk; have h1 := H6.out.1; have h2 := HB3.out; omega)
          have hg16 : g' ≠ g6 := by
            intro e
            subst e
            have h1 := (hown6.lt g' rfl).1
            have h2 := HG1.out
            have h3 : w3.drew.heap.size = w3.heap.size := rfl
            omega
          have H7 := Go.Lib.hid (And.intro hout6 (And.intro (own_lower hown6 HB3.out) (And.intro hg16 hb6)))
          have HN : Hid ((out ++ [z]) ++ atRun q (left.eraseIdx ix) km = atRun n (iota n) k ∧ km < fact q) := Go.Lib.hid ⟨by rw [← HR.out.1, HAT.out]; simp, HMOD.out⟩
          clear hgrow6 hnil6 hout4 hout6 hb4' hb6 hg16 hown6 e6 hne6
          rw [hn6]
          go_wp2
          go_roundw
          case rel => exact ⟨q, j + 1, km, g', cap', g6, c6, out ++ [z], left.eraseIdx ix, rfl, rfl, rfl, by have := HL.out; omega, by simp; exact HL.out.1, by rw [List.length_eraseIdx, HL.out.2.1]; have := HL.out; split <;> omega, by omega, H7.out.1, H7.out.2.1, H7.out.2.2.1, H7.out.2.2.2, HN⟩
          case measure => simp [lenV]
    · obtain rfl : m = 0 := by omega
      have HE : Hid (atRun n (iota n) k = out) := Go.Lib.hid (by rw [← HR.out.1]; simp [atRun])
      have H3 := Go.Lib.hid (And.intro hown1 hb)
      obtain rfl : j = n := by omega
      clear hown1 hown2 hb
      go_wp2
      go_ret
      exact ⟨_, _, rfl, by rw [HE.out]; exact H3.out.1, H3.out.2⟩

end Go.Proofs.Ytddenfnoajdjiaa.AtC

/-
  Contract: the program's sorted order. Conditions: at most seven numbers.
-/
namespace Go.Proofs.Ytddenfnoajdjiaa.SortedOrdC
open Go.RowKit SeesC IntsC ExactC OrdMath InC OrderC RankC IterC AtC

set_option maxRecDepth 100000 in
set_option maxHeartbeats 1000000 in
theorem sortedOrder_any (m : Nat) (W : World) (hm7 : m ≤ 7) :
    Calls Try.prog 76 #[.int .i64 m] W fun e w' => ∃ g c, e = .returned (.slice (some ⟨g, 0, none⟩) m c) ∧ w'.ownsRow W.heap.size 3 1 (.slice (some ⟨g, 0, none⟩) m c) m (vals (iota m)) ∧ Below W.heap.size W w' := by
  obtain ⟨i0, hi, hz0, hz1, hz2⟩ := info_parts infoI
  go_enter Try.func76, Try.ntmps76
  go_wp2_with (at_make; refine wpList_make_full _ rfl _ _ 24 rfl W.heap.size 3 i0 (.int .i64 0) 1 Try.underlying24 hi hz0 hz1 .i64 .i64 m m m rfl rfl rfl rfl (by rw [hz2]; omega) (by unfold maxLen; omega) (Nat.le_refl _) ?_; intro w1 hown1 hgrow1)
  have hz : (madeCells (Value.int .i64 0).cells (m * 1)).toList = vals ((iota m).take 0 ++ (List.replicate m 0).drop 0) := by rw [made_int]; simp
  rw [hz] at hown1
  have hb1 : Below W.heap.size W w1 := (Below.refl _ _).grown hgrow1 (Nat.le_refl _) (fun k hk => by cases hk)
  clear hz hgrow1
  go_loopw [9] (fun iv wr => ∃ (i : Nat), i ≤ m ∧ iv = .int .i64 i ∧ wr.ownsRow W.heap.size 3 1 (.slice (some ⟨W.heap.size, 0, none⟩) m m) m (vals ((iota m).take i ++ (List.replicate m 0).drop i)) ∧ Below W.heap.size W wr) (fun i _ => m - (intOf i).toNat)
  case atStart => exact ⟨0, Nat.zero_le _, rfl, hown1, hb1⟩
  case round =>
    obtain ⟨i, him, rfl, hown, hb⟩ := hrel
    clear hown1 hb1
    by_cases hlt : i < m
    · have hst := hown.stored i (.int .i64 ((i : Int) + 1))
      rw [put_next (L := iota m) (zs := List.replicate m 0) (by rw [iota_len]; simp) (by rw [iota_len]; exact hlt) (by rw [List.getD_eq_getElem?_getD, List.getElem?_eq_getElem (by rw [iota_len]; exact hlt), iota_at m i hlt]; rfl)] at hst
      have hdc := hown.cellAt i (by omega)
      have hfz := hown.frozenAt i
      obtain ⟨x, hx⟩ : ∃ x, wr.cell? ⟨W.heap.size, i, none⟩ = some x := ⟨_, hdc.trans (List.getElem?_eq_getElem (by rw [vals_len]; simp [iota_len]; omega))⟩
      have HS := Go.Lib.hid (And.intro hst.1 (hb.setCell (p := ⟨W.heap.size, i, none⟩) (Nat.le_refl _) (.int .i64 ((i : Int) + 1))))
      have hlti : (i : Int) < (m : Int) := by omega
      clear hst hdc hb hown
      go_wp2
      go_roundw
      case rel => exact ⟨i + 1, by omega, by go_num, HS.out.1, HS.out.2⟩
      case measure => simp [intOf] <;> omega
    · have hin : i = m := by omega
      subst hin
      have e1 : (iota i).take i ++ (List.replicate i 0).drop i = iota i := by rw [List.take_of_length_le (by rw [iota_len]; exact Nat.le_refl _), List.drop_of_length_le (by simp), List.append_nil]
      rw [e1] at hown
      have H := Go.Lib.hid (And.intro hown hb)
      clear hown hb
      go_wp2
      go_ret
      exact ⟨_, _, rfl, H.out.1, H.out.2⟩

end Go.Proofs.Ytddenfnoajdjiaa.SortedOrdC

/-
  The bytes of a list of texts together. Conditions: none. Plain mathematics: nothing of the program.
-/
namespace Go.Proofs.Ytddenfnoajdjiaa.StrsMath

/-- The bytes of a list of texts together. -/
def total (ss : List ByteArray) : Int := ((ss.map fun s => (s.size : Int)).sum : Int)

theorem total_cons (s : ByteArray) (ss : List ByteArray) : total (s :: ss) = (s.size : Int) + total ss := rfl

theorem total_append (a b : List ByteArray) : total (a ++ b) = total a + total b := by
  unfold total; rw [List.map_append, List.sum_append]

theorem total_snoc (ss : List ByteArray) (s : ByteArray) : total (ss ++ [s]) = total ss + (s.size : Int) := by
  unfold total; simp

theorem total_take (ss : List ByteArray) (k : Nat) (h : k < ss.length) : total (ss.take (k + 1)) = total (ss.take k) + (ss[k].size : Int) := by
  rw [List.take_succ_eq_append_getElem h]; exact total_snoc _ _

theorem total_nonneg (ss : List ByteArray) : 0 ≤ total ss := by
  induction ss with
  | nil => exact Int.le_refl _
  | cons s ss ih => unfold total at *; simp; omega

theorem total_take_le (ss : List ByteArray) (k : Nat) : total (ss.take k) ≤ total ss := by
  have h2 := total_append (ss.take k) (ss.drop k)
  rw [List.take_append_drop] at h2
  have := total_nonneg (ss.drop k)
  omega

theorem total_mem {ss : List ByteArray} {s : ByteArray} (h : s ∈ ss) : (s.size : Int) ≤ total ss := by
  induction ss with
  | nil => cases h
  | cons x ss ih =>
    have := total_nonneg ss
    rw [total_cons]
    rcases List.mem_cons.1 h with rfl | h
    · omega
    · have := ih h; omega

/-- What is left of the room. -/
def roomOf (left n t : Int) : Int := if left - n - t < 0 then -1 else left - n - t

end Go.Proofs.Ytddenfnoajdjiaa.StrsMath

/-
  Contracts of the laws' own helpers on lists of texts: how much room is left, and whether two lists are alike. Conditions: the lists can be read, and what is left is at most 2^20.
-/
namespace Go.Proofs.Ytddenfnoajdjiaa.StrsC
open Go.RowKit SeesC StrsMath

theorem infoS : (Try.prog.info? 9).map (fun i => (i.zero, i.size, i.bytes)) = some (some (.string ByteArray.empty), 1, 16) := by kernel_rfl

theorem set_next {α : Type} (L : List α) (z : α) (n k : Nat) (h : k < L.length) (hn : L.length = n) : (L.take k ++ List.replicate (n - k) z).set k L[k] = L.take (k + 1) ++ List.replicate (n - (k + 1)) z := by
  rw [List.set_append_right _ _ (by simp; omega)]
  have e1 : k - (L.take k).length = 0 := by simp; omega
  have e2 : n - k = (n - (k + 1)) + 1 := by omega
  rw [e1, e2, List.replicate_succ, List.set_cons_zero, List.take_succ_eq_append_getElem h, List.append_assoc]
  rfl

theorem made_string (n : Nat) : (madeCells (Value.string ByteArray.empty).cells (n * 1)).toList = List.replicate n (.string ByteArray.empty) := by
  apply List.ext_getElem
  · simp [madeCells]
  · intro i h1 h2; simp [madeCells, Value.cells, Nat.mod_one]

/-- A list is copied into memory of the call's own. -/
def Copied (w : World) (e : Ending) (w' : World) (n : Nat) (xs : List Value) : Prop :=
  ∃ g cap, e = .returned (.slice (some ⟨g, 0, none⟩) n cap) ∧ w.heap.size ≤ g ∧ w'.ownsRow w.heap.size 9 1 (.slice (some ⟨g, 0, none⟩) n cap) n xs ∧ Below w.heap.size w w'

end Go.Proofs.Ytddenfnoajdjiaa.StrsC

/-
  Contracts: the model and the program list all words for so many numbers. Conditions: none.
-/
namespace Go.Proofs.Ytddenfnoajdjiaa.WordsC
open Go.RowKit SeesC IntsC ExactC NumC IterC WordMath InC WordC

theorem infoS : (Try.prog.info? 9).map (fun i => (i.zero, i.size, i.bytes)) = some (some (.string ByteArray.empty), 1, 16) := by kernel_rfl

def sI : ByteArray := { data := #[73] }
def sO : ByteArray := { data := #[79] }

/-- All words that go on from a text, r signs long, with d on the stack. -/
def wordsFrom : Nat → Nat → ByteArray → List ByteArray
  | 0, _, so => [so]
  | r + 1, d, so => (if d < r + 1 then wordsFrom r (d + 1) (so ++ sI) else []) ++ (if 0 < d then wordsFrom r (d - 1) (so ++ sO) else [])

theorem wordsFrom_len : ∀ (r d : Nat) (so : ByteArray), (wordsFrom r d so).length ≤ 2 ^ r
  | 0, _, _ => Nat.le_refl _
  | r + 1, d, so => by
    unfold wordsFrom
    rw [List.length_append]
    have h1 : (if d < r + 1 then wordsFrom r (d + 1) (so ++ sI) else []).length ≤ 2 ^ r := by
      split
      · exact wordsFrom_len r _ _
      · simp
    have h2 : (if 0 < d then wordsFrom r (d - 1) (so ++ sO) else []).length ≤ 2 ^ r := by
      split
      · exact wordsFrom_len r _ _
      · simp
    rw [Nat.pow_succ]; omega

theorem wordsFrom_16k {r d : Nat} {so : ByteArray} (h : r ≤ 14) : (wordsFrom r d so).length ≤ 16384 := by
  have h1 := wordsFrom_len r d so
  have h2 : 2 ^ r ≤ 2 ^ 14 := Nat.pow_le_pow_right (by omega) h
  have h3 : (2 : Nat) ^ 14 = 16384 := by decide
  omega

def wordsAns (n : Int) : List ByteArray × Bool := if 1 ≤ n ∧ n ≤ 7 then (wordsFrom (2 * n.toNat) 0 ByteArray.empty, true) else ([], false)

theorem words_len {n : Int} {xs : List ByteArray} {b : Bool} (h : wordsAns n = (xs, b)) : xs.length ≤ 1048576 := by
  unfold wordsAns at h; split at h
  · cases h; have := @wordsFrom_16k (2 * n.toNat) 0 ByteArray.empty (by omega); omega
  · cases h; simp

/-- Texts and a truth value are returned, the texts in memory of the call's own. -/
def TextsTo (w : World) (e : Ending) (w' : World) (xs : List ByteArray) (b : Bool) : Prop :=
  ∃ v, e = .returned (.tuple #[v, .bool b]) ∧ w'.ownsRow w.heap.size 9 1 v xs.length (xs.map Value.string) ∧ Below w.heap.size w w'

theorem textsTo_none (w : World) (b : Bool) : TextsTo w (.returned (.tuple #[.slice (some ⟨w.heap.size, 0, none⟩) 0 0, .bool b])) (w.alloc (.cells #[] 9)) [] b :=
  ⟨_, rfl, World.ownsRow_made _ _ _ (Nat.le_refl _) (by unfold maxLen; omega) rfl, (Below.refl _ _).alloc (Nat.le_refl _) _⟩

theorem own_form {w : World} {base size n : Nat} {ty : TypeId} {v : Value} {xs : List Value} (h : w.ownsRow base ty size v n xs) (hne : v ≠ .slice none 0 0) : ∃ g cap, v = .slice (some ⟨g, 0, none⟩) n cap := by
  rcases h.2 with ⟨h0, _⟩ | ⟨g, cap, cur, hv, _⟩
  · exact absurd h0 hne
  · exact ⟨g, cap, hv⟩

end Go.Proofs.Ytddenfnoajdjiaa.WordsC

/-
  The mathematics of ranks of words: in how many ways a word goes on, which place a word has among all, and which word is at a place. Conditions: none. Plain facts on texts and lists: nothing of the program.
-/
namespace Go.Proofs.Ytddenfnoajdjiaa.EndsM
open NumC WordMath WordsC

/-- In how many ways a word goes on, with n signs left and k on the stack. -/
def ends : Nat → Nat → Nat
  | 0, k => if k = 0 then 1 else 0
  | n + 1, k => (if 0 < k then ends n (k - 1) else 0) + ends n (k + 1)

theorem ends_zero : ∀ n k, n < k → ends n k = 0
  | 0, k, h => by unfold ends; rw [if_neg (by omega)]
  | n + 1, k, h => by
    unfold ends
    rw [if_pos (by omega), ends_zero n (k - 1) (by omega), ends_zero n (k + 1) (by omega)]

theorem ends_le : ∀ n k, ends n k ≤ 2 ^ n
  | 0, k => by unfold ends; split <;> simp
  | n + 1, k => by
    have h1 := ends_le n (k - 1)
    have h2 := ends_le n (k + 1)
    have e : 2 ^ (n + 1) = 2 ^ n + 2 ^ n := by rw [Nat.pow_succ]; omega
    unfold ends
    split <;> omega

theorem ends_16k {n k : Nat} (h : n ≤ 14) : ends n k ≤ 16384 := by
  have h1 := ends_le n k
  have h2 : 2 ^ n ≤ 2 ^ 14 := Nat.pow_le_pow_right (by omega) h
  have h3 : (2 : Nat) ^ 14 = 16384 := by decide
  omega

/-- So many signs can be left with so many on the stack. -/
def Fits (r d : Nat) : Prop := d ≤ r ∧ r % 2 = d % 2

theorem Fits.I {r d : Nat} (h : Fits (r + 1) d) (h2 : d < r + 1) : Fits r (d + 1) := by unfold Fits at *; omega
theorem Fits.O {r d : Nat} (h : Fits (r + 1) d) (h2 : 0 < d) : Fits r (d - 1) := by unfold Fits at *; omega

theorem words_count : ∀ r d so, Fits r d → (wordsFrom r d so).length = ends r d
  | 0, d, so, h => by
    have : d = 0 := by unfold Fits at h; omega
    subst this; rfl
  | r + 1, d, so, h => by
    unfold wordsFrom ends
    rw [List.length_append, Nat.add_comm]
    congr 1
    · by_cases h2 : 0 < d
      · rw [if_pos h2, if_pos h2, words_count r _ _ (h.O h2)]
      · rw [if_neg h2, if_neg h2]; rfl
    · by_cases h2 : d < r + 1
      · rw [if_pos h2, words_count r _ _ (h.I h2)]
      · rw [if_neg h2, ends_zero r (d + 1) (by omega)]; rfl

/-- Signs that go on to the end of a word. -/
def Goes : List UInt8 → Nat → Prop
  | [], d => d = 0
  | c :: t, d => (c = 73 ∧ Goes t (d + 1)) ∨ (c = 79 ∧ 0 < d ∧ Goes t (d - 1))

theorem goes_fits : ∀ l d, Goes l d → Fits l.length d
  | [], d, h => by cases h; exact ⟨Nat.le_refl _, rfl⟩
  | c :: t, d, h => by
    rcases h with ⟨_, h⟩ | ⟨_, h0, h⟩
    · have := goes_fits t _ h; unfold Fits at *; simp; omega
    · have := goes_fits t _ h; unfold Fits at *; simp; omega

/-- How many words come before, of those that go on in the same way so far. -/
def rankL : List UInt8 → Nat → Nat
  | [], _ => 0
  | c :: t, d => if c = 73 then rankL t (d + 1) else ends t.length (d + 1) + rankL t (d - 1)

theorem sI_cons (so : ByteArray) (l : List UInt8) : (so ++ sI) ++ txt l = so ++ txt (73 :: l) := by
  have e : sI = txt [73] := rfl
  rw [e, ByteArray.append_assoc, txt_append]; rfl
theorem sO_cons (so : ByteArray) (l : List UInt8) : (so ++ sO) ++ txt l = so ++ txt (79 :: l) := by
  have e : sO = txt [79] := rfl
  rw [e, ByteArray.append_assoc, txt_append]; rfl
theorem txt_nil (so : ByteArray) : so ++ txt [] = so := by
  have e : txt [] = ByteArray.empty := rfl
  rw [e, ByteArray.append_empty]

theorem fits_lt {r d : Nat} (h : Fits r (d + 1)) : d < r + 1 := by unfold Fits at h; omega

/-- The words of a state begin with those that go on by a push. -/
theorem words_parts {r d : Nat} (so : ByteArray) (h : Fits (r + 1) d) : ∃ a b, wordsFrom (r + 1) d so = a ++ b ∧ a.length = ends r (d + 1) ∧ (d < r + 1 → a = wordsFrom r (d + 1) (so ++ sI)) ∧ (0 < d → b = wordsFrom r (d - 1) (so ++ sO)) ∧ (¬ 0 < d → b = []) := by
  refine ⟨_, _, rfl, ?_, fun h2 => if_pos h2, fun h2 => if_pos h2, fun h2 => if_neg h2⟩
  by_cases h2 : d < r + 1
  · rw [if_pos h2, words_count r _ _ (h.I h2)]
  · rw [if_neg h2, ends_zero r (d + 1) (by omega)]; rfl

theorem word_at_rank : ∀ (l : List UInt8) (d : Nat) (so : ByteArray), Goes l d → (wordsFrom l.length d so)[rankL l d]? = some (so ++ txt l)
  | [], d, so, h => by show [so][0]? = _; rw [txt_nil]; rfl
  | c :: t, d, so, h => by
    have hf := goes_fits _ _ h
    obtain ⟨a, b, e1, e2, e3, e4, _⟩ := words_parts (r := t.length) (d := d) so hf
    show (wordsFrom (t.length + 1) d so)[_]? = _
    rw [e1]
    rcases h with ⟨rfl, h⟩ | ⟨rfl, h0, h⟩
    · have ha := e3 (fits_lt (goes_fits _ _ h))
      have ih := word_at_rank t (d + 1) (so ++ sI) h
      have hlt : rankL t (d + 1) < a.length := by
        rw [← ha] at ih
        exact (List.getElem?_eq_some_iff.1 ih).1
      show (a ++ b)[rankL t (d + 1)]? = _
      rw [List.getElem?_append_left hlt, ha, ih, sI_cons]
    · have hb := e4 h0
      have ih := word_at_rank t (d - 1) (so ++ sO) h
      show (a ++ b)[ends t.length (d + 1) + rankL t (d - 1)]? = _
      rw [← e2, List.getElem?_append_right (by omega), Nat.add_sub_cancel_left, hb, ih, sO_cons]

/-- The word at a place, sign by sign. -/
def atW : Nat → Nat → Nat → List UInt8
  | 0, _, _ => []
  | r + 1, d, k => if k < ends r (d + 1) then 73 :: atW r (d + 1) k else 79 :: atW r (d - 1) (k - ends r (d + 1))

theorem atW_len : ∀ r d k, (atW r d k).length = r
  | 0, _, _ => rfl
  | r + 1, d, k => by
    unfold atW
    split <;> simp [atW_len r]

theorem at_words : ∀ (r d k : Nat) (so : ByteArray), Fits r d → k < ends r d → (wordsFrom r d so)[k]? = some (so ++ txt (atW r d k)) ∧ Goes (atW r d k) d
  | 0, d, k, so, h, hk => by
    have : d = 0 := by unfold Fits at h; omega
    subst this
    have : k = 0 := by unfold ends at hk; simp at hk; exact hk
    subst this
    exact ⟨by show [so][0]? = some (so ++ txt []); rw [txt_nil]; rfl, rfl⟩
  | r + 1, d, k, so, h, hk => by
    obtain ⟨a, b, e1, e2, e3, e4, e5⟩ := words_parts (r := r) (d := d) so h
    rw [e1]
    unfold atW
    by_cases h2 : k < ends r (d + 1)
    · rw [if_pos h2]
      have hd : d < r + 1 := by
        rcases Nat.lt_or_ge d (r + 1) with h3 | h3
        · exact h3
        · rw [ends_zero r (d + 1) (by omega)] at h2; omega
      have ih := at_words r (d + 1) k (so ++ sI) (h.I hd) h2
      rw [List.getElem?_append_left (by omega), e3 hd, ih.1, sI_cons]
      exact ⟨rfl, .inl ⟨rfl, ih.2⟩⟩
    · rw [if_neg h2]
      unfold ends at hk
      have h0 : 0 < d := by
        rcases Nat.eq_zero_or_pos d with h3 | h3
        · rw [if_neg (by omega)] at hk; omega
        · exact h3
      rw [if_pos h0] at hk
      have ih := at_words r (d - 1) (k - ends r (d + 1)) (so ++ sO) (h.O h0) (by omega)
      rw [List.getElem?_append_right (by omega), e2, e4 h0, ih.1, sO_cons]
      exact ⟨rfl, .inr ⟨rfl, h0, ih.2⟩⟩

/-- The words come in ascending order. -/
def lss (a b : ByteArray) : Bool := Op.bytesLess a.data.toList b.data.toList

theorem less_self : ∀ l : List UInt8, Op.bytesLess l l = false
  | [] => rfl
  | a :: t => by unfold Op.bytesLess; simp [less_self t, UInt8.lt_irrefl]

theorem less_not : ∀ (x y : List UInt8), Op.bytesLess x y = true → Op.bytesLess y x = false
  | _, [], h => by unfold Op.bytesLess at h; cases h
  | [], _ :: _, _ => by unfold Op.bytesLess; rfl
  | a :: x, b :: y, h => by
    unfold Op.bytesLess at h ⊢
    simp only [Bool.or_eq_true, Bool.and_eq_true, decide_eq_true_eq, beq_iff_eq, Bool.or_eq_false_iff, Bool.and_eq_false_imp, decide_eq_false_iff_not] at h ⊢
    rcases h with h | ⟨rfl, h⟩
    · refine ⟨fun h2 => UInt8.lt_asymm h h2, fun e => ?_⟩
      subst e; exact absurd h (UInt8.lt_irrefl _)
    · exact ⟨UInt8.lt_irrefl _, fun _ => less_not _ _ h⟩

theorem less_pre : ∀ (p x y : List UInt8), Op.bytesLess (p ++ x) (p ++ y) = Op.bytesLess x y
  | [], _, _ => rfl
  | a :: p, x, y => by
    show Op.bytesLess (a :: (p ++ x)) (a :: (p ++ y)) = _
    rw [Op.bytesLess]
    simp [less_pre p, UInt8.lt_irrefl]

theorem mem_words : ∀ (r d : Nat) (so x : ByteArray), Fits r d → x ∈ wordsFrom r d so → ∃ l, l.length = r ∧ Goes l d ∧ x = so ++ txt l
  | 0, d, so, x, h, hx => by
    have : d = 0 := by unfold Fits at h; omega
    subst this
    have : x = so := by simpa [wordsFrom] using hx
    subst this
    exact ⟨[], rfl, rfl, (txt_nil _).symm⟩
  | r + 1, d, so, x, h, hx => by
    unfold wordsFrom at hx
    rcases List.mem_append.1 hx with hx | hx
    · by_cases h2 : d < r + 1
      · rw [if_pos h2] at hx
        obtain ⟨l, h3, h4, h5⟩ := mem_words r _ _ x (h.I h2) hx
        exact ⟨73 :: l, by simp [h3], .inl ⟨rfl, h4⟩, by rw [h5, sI_cons]⟩
      · rw [if_neg h2] at hx; cases hx
    · by_cases h2 : 0 < d
      · rw [if_pos h2] at hx
        obtain ⟨l, h3, h4, h5⟩ := mem_words r _ _ x (h.O h2) hx
        exact ⟨79 :: l, by simp [h3], .inr ⟨rfl, h2, h4⟩, by rw [h5, sO_cons]⟩
      · rw [if_neg h2] at hx; cases hx

theorem app_data (so : ByteArray) (l : List UInt8) : (so ++ txt l).data.toList = so.data.toList ++ l := by simp [txt]

theorem words_sorted : ∀ (r d : Nat) (so : ByteArray), Fits r d → (wordsFrom r d so).Pairwise (fun a b => lss a b = true)
  | 0, d, so, h => by unfold wordsFrom; exact List.pairwise_singleton _ _
  | r + 1, d, so, h => by
    unfold wordsFrom
    rw [List.pairwise_append]
    refine ⟨?_, ?_, ?_⟩
    · by_cases h2 : d < r + 1
      · rw [if_pos h2]; exact words_sorted r _ _ (h.I h2)
      · rw [if_neg h2]; exact .nil
    · by_cases h2 : 0 < d
      · rw [if_pos h2]; exact words_sorted r _ _ (h.O h2)
      · rw [if_neg h2]; exact .nil
    · intro a ha b hb
      by_cases h2 : d < r + 1
      · rw [if_pos h2] at ha
        by_cases h3 : 0 < d
        · rw [if_pos h3] at hb
          obtain ⟨l, _, _, rfl⟩ := mem_words r _ _ a (h.I h2) ha
          obtain ⟨m, _, _, rfl⟩ := mem_words r _ _ b (h.O h3) hb
          unfold lss
          rw [sI_cons, sO_cons, app_data, app_data, less_pre]
          rfl
        · rw [if_neg h3] at hb; cases hb
      · rw [if_neg h2] at ha; cases ha

/-- A word's signs go on to the end. -/
theorem held_goes {w : ByteArray} : ∀ (m k d : Nat), k + m = w.size → heldTo w k = some d → heldTo w w.size = some 0 → Goes (w.data.toList.drop k) d
  | 0, k, d, h, hd, h0 => by
    have e : k = w.size := by omega
    subst e
    rw [hd] at h0; cases h0
    rw [List.drop_of_length_le (by rw [Array.length_toList]; exact Nat.le_refl _)]
    rfl
  | m + 1, k, d, h, hd, h0 => by
    have hk : k < w.data.toList.length := by rw [Array.length_toList]; show k < w.size; omega
    have hb : w.data.toList[k] = byt w k := by unfold byt; rw [List.getD_eq_getElem?_getD, List.getElem?_eq_getElem hk, Option.getD_some]
    rw [List.drop_eq_getElem_cons hk, hb]
    obtain ⟨e, he, _, _⟩ := held_back (w := w) m (k + 1) 0 (by rw [show k + 1 + m = w.size by omega]; exact h0)
    obtain ⟨d2, hd2, hc⟩ := held_cases he
    rw [hd] at hd2; cases hd2
    have ih := held_goes m (k + 1) e (by omega) he h0
    rcases hc with ⟨h1, rfl⟩ | ⟨h1, h2, rfl⟩
    · exact .inl ⟨h1, ih⟩
    · exact .inr ⟨h1, h2, ih⟩

theorem word_goes {w : ByteArray} (h : Word w) : Goes w.data.toList 0 := held_goes w.size 0 0 (Nat.zero_add _) rfl h.2.2

/-- And signs that do are a word. -/
theorem goes_held {w : ByteArray} : ∀ (m k d : Nat), k + m = w.size → heldTo w k = some d → Goes (w.data.toList.drop k) d → heldTo w w.size = some 0
  | 0, k, d, h, hd, hg => by
    have e : k = w.size := by omega
    subst e
    rw [List.drop_of_length_le (by rw [Array.length_toList]; exact Nat.le_refl _)] at hg
    cases hg; exact hd
  | m + 1, k, d, h, hd, hg => by
    have hk : k < w.data.toList.length := by rw [Array.length_toList]; show k < w.size; omega
    have hb : w.data.toList[k] = byt w k := by unfold byt; rw [List.getD_eq_getElem?_getD, List.getElem?_eq_getElem hk, Option.getD_some]
    rw [List.drop_eq_getElem_cons hk, hb] at hg
    rcases hg with ⟨h1, hg⟩ | ⟨h1, h2, hg⟩
    · exact goes_held m (k + 1) _ (by omega) (held_I hd h1) hg
    · exact goes_held m (k + 1) _ (by omega) (held_O hd h1 h2) hg

theorem goes_word {l : List UInt8} (h : Goes l 0) (h1 : 2 ≤ l.length) (h2 : l.length ≤ 14) : Word (txt l) := by
  have e : (txt l).size = l.length := txt_size l
  refine ⟨by omega, by omega, ?_⟩
  exact goes_held (w := txt l) (txt l).size 0 0 (Nat.zero_add _) rfl (by rw [txt_list]; exact h)

theorem txt_data (s : ByteArray) : txt s.data.toList = s := by
  cases s with
  | mk d => simp [txt]

theorem empty_txt (l : List UInt8) : ByteArray.empty ++ txt l = txt l := ByteArray.empty_append

def allW (n : Nat) : List ByteArray := wordsFrom (2 * n) 0 ByteArray.empty

theorem all_fits (n : Nat) : Fits (2 * n) 0 := ⟨Nat.zero_le _, by omega⟩

theorem all_len (n : Nat) : (allW n).length = ends (2 * n) 0 := words_count _ _ _ (all_fits n)

/-- The place of a word. -/
theorem all_rank {w : ByteArray} (h : Word w) : (allW (w.size / 2))[rankL w.data.toList 0]? = some w := by
  have := word_at_rank _ _ ByteArray.empty (word_goes h)
  have e : w.data.toList.length = 2 * (w.size / 2) := by rw [Array.length_toList]; exact word_even h
  rw [e, empty_txt, txt_data] at this
  exact this

theorem all_mem {n : Nat} {w : ByteArray} (h1 : 1 ≤ n) (h7 : n ≤ 7) (h : w ∈ allW n) : Word w ∧ w.size = 2 * n := by
  obtain ⟨l, hl, hg, rfl⟩ := mem_words _ _ _ w (all_fits n) h
  rw [empty_txt]
  exact ⟨goes_word hg (by omega) (by omega), by rw [txt_size, hl]⟩

theorem all_at {n k : Nat} (hk : k < ends (2 * n) 0) : (allW n)[k]? = some (txt (atW (2 * n) 0 k)) := by
  have := (at_words (2 * n) 0 k ByteArray.empty (all_fits n) hk).1
  rw [empty_txt] at this
  exact this

/-- Which words are before one. -/
theorem all_before {n k t : Nat} {w : ByteArray} (hk : (allW n)[k]? = some w) (ht : t < (allW n).length) : lss ((allW n)[t]) w = decide (t < k) := by
  have hs := words_sorted _ _ ByteArray.empty (all_fits n)
  obtain ⟨h1, h2⟩ := List.getElem?_eq_some_iff.1 hk
  rw [List.pairwise_iff_getElem] at hs
  rcases Nat.lt_trichotomy t k with h | h | h
  · rw [decide_eq_true h, ← h2]; exact hs t k ht h1 h
  · subst h; rw [h2, decide_eq_false (by omega)]; exact less_self _
  · rw [decide_eq_false (by omega), ← h2]; exact less_not _ _ (hs k t h1 ht h)

/-- The rank of the word at a place. -/
theorem rank_at {n k : Nat} (h1 : 1 ≤ n) (h7 : n ≤ 7) (hk : k < ends (2 * n) 0) : Word (txt (atW (2 * n) 0 k)) ∧ (txt (atW (2 * n) 0 k)).size = 2 * n ∧ rankL (atW (2 * n) 0 k) 0 = k := by
  have ha := all_at (n := n) hk
  have hm := all_mem h1 h7 (List.mem_of_getElem? ha)
  have hr := all_rank hm.1
  have e : (txt (atW (2 * n) 0 k)).size / 2 = n := by omega
  rw [e, txt_list] at hr
  refine ⟨hm.1, hm.2, ?_⟩
  obtain ⟨g1, g2⟩ := List.getElem?_eq_some_iff.1 hr
  have := all_before ha g1
  rw [g2] at this
  have e2 := all_before hr (t := k) (by rw [all_len]; exact hk)
  obtain ⟨g3, g4⟩ := List.getElem?_eq_some_iff.1 ha
  rw [g4] at e2
  have z := less_self (txt (atW (2 * n) 0 k)).data.toList
  unfold lss at this e2
  rw [z] at this e2
  have a1 := of_decide_eq_false this.symm
  have a2 := of_decide_eq_false e2.symm
  omega

theorem rank_lt {w : ByteArray} (h : Word w) : rankL w.data.toList 0 < ends (2 * (w.size / 2)) 0 := by
  have := (List.getElem?_eq_some_iff.1 (all_rank h)).1
  rw [all_len] at this; exact this

/-! ### The answers -/
def rankWAns (w : ByteArray) : Int × Bool := if Word w then ((rankL w.data.toList 0 : Nat), true) else (0, false)
def atWAns (n k : Int) : ByteArray × Bool := if 1 ≤ n ∧ n ≤ 7 ∧ 0 ≤ k ∧ k < (ends (2 * n.toNat) 0 : Int) then (txt (atW (2 * n.toNat) 0 k.toNat), true) else (ByteArray.empty, false)
def oneAns (n : Int) : Int × Bool := if 1 ≤ n ∧ n ≤ 7 then ((ends (2 * n.toNat) 0 : Nat), true) else (0, false)

end Go.Proofs.Ytddenfnoajdjiaa.EndsM

/-
  The mathematics of the law on orders: an inverse undoes an order, ranks tell orders, an order turned back and forth is the same. Conditions: none. Plain facts on lists: nothing of the program.
-/
namespace Go.Proofs.Ytddenfnoajdjiaa.OrdFacts
open OrdMath

theorem perm_of_sub : ∀ (l m : List Int), l.Nodup → (∀ x ∈ l, x ∈ m) → m.length ≤ l.length → l.Perm m
  | [], m, _, _, h => by
    have : m = [] := List.eq_nil_of_length_eq_zero (by simpa using h)
    subst this
    exact List.Perm.refl _
  | a :: l, m, hn, hs, h => by
    have ha : a ∈ m := hs a (by simp)
    have hp := List.perm_cons_erase ha
    have hn2 := List.nodup_cons.1 hn
    have ih := perm_of_sub l (m.erase a) hn2.2 (fun x hx => (List.mem_erase_of_ne (fun e => hn2.1 (by rw [← e]; exact hx))).2 (hs x (by simp [hx]))) (by rw [List.length_erase_of_mem ha]; simp at h; omega)
    exact (ih.cons a).trans hp.symm

theorem mem_iota {n : Nat} {x : Int} : x ∈ iota n ↔ 1 ≤ x ∧ x ≤ (n : Int) := by
  unfold iota
  rw [List.mem_map]
  constructor
  · rintro ⟨i, hi, rfl⟩; rw [List.mem_range] at hi; omega
  · rintro ⟨h1, h2⟩; exact ⟨(x - 1).toNat, by rw [List.mem_range]; omega, by omega⟩

theorem ord_perm {zs : List Int} (h : Ord zs) : zs.Perm (iota zs.length) :=
  perm_of_sub _ _ h.2.2.2 (fun x hx => mem_iota.2 (h.2.2.1 x hx)) (by rw [iota_len]; exact Nat.le_refl _)

theorem iota_sorted (n : Nat) : (iota n).Pairwise (· < ·) := by
  unfold iota
  rw [List.pairwise_map]
  exact (List.pairwise_lt_range (n := n)).imp (fun h => by omega)

theorem ord_of_perm {zs : List Int} {n : Nat} (h : zs.Perm (iota n)) (h1 : 1 ≤ n) (h7 : n ≤ 7) : Ord zs := by
  have hl : zs.length = n := by rw [h.length_eq, iota_len]
  refine ⟨by omega, by omega, fun z hz => by rw [hl]; exact mem_iota.1 (h.mem_iff.1 hz), ?_⟩
  rw [h.nodup_iff]
  exact (iota_sorted n).imp (fun h => by omega)

/-! ### Ranks -/
def rankR : List Int → Nat
  | [] => 0
  | z :: t => cl z t * fact t.length + rankR t

theorem rankS_R (zs : List Int) : ∀ k, k ≤ zs.length → rankS zs k + rankR (zs.drop k) = rankR zs := by
  intro k
  induction k with
  | zero => intro _; simp [rankS]
  | succ k ih =>
    intro hk
    rw [← ih (by omega), List.drop_eq_getElem_cons (show k < zs.length by omega)]
    have e1 : zs.length - 1 - k = zs.length - (k + 1) := by omega
    have e2 : lessAt zs k = cl zs[k] (zs.drop (k + 1)) := by unfold lessAt; congr 1; simp [show k < zs.length by omega]
    show rankS zs k + lessAt zs k * fact (zs.length - 1 - k) + rankR (zs.drop (k + 1)) = rankS zs k + (cl zs[k] (zs.drop (k + 1)) * fact (zs.drop (k + 1)).length + rankR (zs.drop (k + 1)))
    rw [e1, e2, List.length_drop]
    omega

theorem rank_all (zs : List Int) : rankS zs zs.length = rankR zs := by
  have := rankS_R zs zs.length (Nat.le_refl _)
  rw [List.drop_length] at this
  simpa [rankR] using this

theorem rankR_lt : ∀ l : List Int, rankR l < fact l.length
  | [] => by decide
  | z :: t => by
    have h1 := rankR_lt t
    have h2 : cl z t * fact t.length ≤ t.length * fact t.length := Nat.mul_le_mul_right _ (cl_le z t)
    show cl z t * fact t.length + rankR t < (t.length + 1) * fact t.length
    rw [Nat.add_mul]
    omega

theorem cl_cons (x a : Int) (l : List Int) : cl x (a :: l) = cl x l + (if a < x then 1 else 0) := by
  unfold cl; rw [List.countP_cons]; simp

theorem cl_zero {x : Int} {l : List Int} (h : ∀ y ∈ l, x < y) : cl x l = 0 := by
  unfold cl; rw [List.countP_eq_zero]; intro y hy; have := h y hy; simp; omega

theorem cl_self (z : Int) (t : List Int) : cl z (z :: t) = cl z t := by rw [cl_cons]; simp

theorem cl_perm {x : Int} {l m : List Int} (h : l.Perm m) : cl x l = cl x m := h.countP_eq _

theorem sorted_at : ∀ (left : List Int) (z : Int), left.Pairwise (· < ·) → z ∈ left → left.getD (cl z left) 0 = z ∧ cl z left < left.length
  | [], z, _, h => by simp at h
  | a :: l, z, hp, h => by
    rw [List.pairwise_cons] at hp
    by_cases e : z = a
    · subst e
      rw [cl_self, cl_zero hp.1]
      simp
    · have hz : z ∈ l := by simpa [e] using h
      have haz := hp.1 z hz
      have ih := sorted_at l z hp.2 hz
      rw [cl_cons, if_pos haz]
      refine ⟨?_, by simp; omega⟩
      rw [List.getD_cons_succ]
      exact ih.1

theorem sorted_cl : ∀ (left : List Int) (i : Nat), left.Pairwise (· < ·) → i < left.length → cl (left.getD i 0) left = i
  | [], i, _, h => by simp at h
  | a :: l, 0, hp, _ => by
    rw [List.pairwise_cons] at hp
    show cl a (a :: l) = 0
    rw [cl_self, cl_zero hp.1]
  | a :: l, i + 1, hp, h => by
    rw [List.pairwise_cons] at hp
    have hi : i < l.length := by simpa using h
    have ih := sorted_cl l i hp.2 hi
    rw [List.getD_cons_succ, cl_cons, ih, if_pos]
    have : l.getD i 0 = l[i] := by simp [hi]
    rw [this]
    exact hp.1 _ (List.getElem_mem hi)

theorem erase_perm : ∀ {left : List Int} {i : Nat}, i < left.length → (left.getD i 0 :: left.eraseIdx i).Perm left
  | [], i, h => by simp at h
  | a :: l, 0, _ => List.Perm.refl _
  | a :: l, i + 1, h => by
    rw [List.getD_cons_succ, List.eraseIdx_cons_succ]
    exact (List.Perm.swap _ _ _).trans ((erase_perm (left := l) (i := i) (by simpa using h)).cons a)

theorem at_rank : ∀ (zs left : List Int), left.Pairwise (· < ·) → zs.Perm left → atRun zs.length left (rankR zs) = zs
  | [], _, _, _ => rfl
  | z :: t, left, hp, hz => by
    have hF := fact_pos t.length
    have hr := rankR_lt t
    have hc : cl z left = cl z t := by rw [← cl_perm hz, cl_self]
    have hs := sorted_at left z hp (hz.mem_iff.1 (by simp))
    rw [hc] at hs
    have hdiv : (cl z t * fact t.length + rankR t) / fact t.length = cl z t := by
      rw [Nat.add_comm, Nat.add_mul_div_right _ _ (by omega), Nat.div_eq_of_lt hr, Nat.zero_add]
    have hmod : (cl z t * fact t.length + rankR t) % fact t.length = rankR t := by
      rw [Nat.add_comm, Nat.add_mul_mod_self_right, Nat.mod_eq_of_lt hr]
    show left.getD ((cl z t * fact t.length + rankR t) / fact t.length) 0 :: atRun t.length (left.eraseIdx ((cl z t * fact t.length + rankR t) / fact t.length)) ((cl z t * fact t.length + rankR t) % fact t.length) = z :: t
    rw [hdiv, hmod, hs.1]
    have he := erase_perm hs.2
    rw [hs.1] at he
    have hp2 : t.Perm (left.eraseIdx (cl z t)) := (he.trans hz.symm).symm.cons_inv
    rw [at_rank t _ (hp.sublist (List.eraseIdx_sublist left _)) hp2]

theorem rank_at : ∀ (m : Nat) (left : List Int) (k : Nat), left.length = m → left.Pairwise (· < ·) → k < fact m → (atRun m left k).Perm left ∧ rankR (atRun m left k) = k
  | 0, left, k, hl, _, hk => by
    have : left = [] := List.eq_nil_of_length_eq_zero hl
    subst this
    have : k = 0 := by simp [fact] at hk; exact hk
    subst this
    exact ⟨List.Perm.refl _, rfl⟩
  | m + 1, left, k, hl, hp, hk => by
    have hF := fact_pos m
    have hi : k / fact m < left.length := by rw [hl, Nat.div_lt_iff_lt_mul (by omega)]; exact hk
    have he := erase_perm hi
    have hel : (left.eraseIdx (k / fact m)).length = m := by rw [List.length_eraseIdx, if_pos hi]; omega
    obtain ⟨h1, h2⟩ := rank_at m (left.eraseIdx (k / fact m)) (k % fact m) hel (hp.sublist (List.eraseIdx_sublist left _)) (Nat.mod_lt _ (by omega))
    have hcl := sorted_cl left (k / fact m) hp hi
    rw [← cl_perm he, cl_self] at hcl
    refine ⟨(h1.cons _).trans he, ?_⟩
    show cl (left.getD (k / fact m) 0) (atRun m (left.eraseIdx (k / fact m)) (k % fact m)) * fact (atRun m (left.eraseIdx (k / fact m)) (k % fact m)).length + rankR (atRun m (left.eraseIdx (k / fact m)) (k % fact m)) = k
    rw [cl_perm h1, hcl, atRun_len, h2]
    exact Nat.div_add_mod' k (fact m)

theorem at_of_rank {zs : List Int} (h : Ord zs) : rankS zs zs.length < fact zs.length ∧ atRun zs.length (iota zs.length) (rankS zs zs.length) = zs := by
  rw [rank_all]
  exact ⟨rankR_lt zs, at_rank zs _ (iota_sorted _) (ord_perm h)⟩

theorem rank_of_at {n k : Nat} (h1 : 1 ≤ n) (h7 : n ≤ 7) (hk : k < fact n) : Ord (atRun n (iota n) k) ∧ rankS (atRun n (iota n) k) (atRun n (iota n) k).length = k := by
  have h := rank_at n (iota n) k (iota_len n) (iota_sorted n) hk
  exact ⟨ord_of_perm h.1 h1 h7, by rw [rank_all]; exact h.2⟩

/-! ### Inversions -/
def invR : List Int → Nat
  | [] => 0
  | z :: t => cl z t + invR t

theorem invTo_R (zs : List Int) : ∀ k, k ≤ zs.length → invTo zs k + invR (zs.drop k) = invR zs := by
  intro k
  induction k with
  | zero => intro _; simp [invTo]
  | succ k ih =>
    intro hk
    rw [← ih (by omega), List.drop_eq_getElem_cons (show k < zs.length by omega)]
    have e2 : lessAt zs k = cl zs[k] (zs.drop (k + 1)) := by unfold lessAt; congr 1; simp [show k < zs.length by omega]
    show invTo zs k + lessAt zs k + invR (zs.drop (k + 1)) = invTo zs k + (cl zs[k] (zs.drop (k + 1)) + invR (zs.drop (k + 1)))
    rw [e2]; omega

theorem inv_all (zs : List Int) : invTo zs zs.length = invR zs := by
  have := invTo_R zs zs.length (Nat.le_refl _)
  rw [List.drop_length] at this
  simpa [invR] using this

def gt (x : Int) (l : List Int) : Nat := l.countP (fun z => decide (x < z))

theorem invR_snoc (z : Int) : ∀ l : List Int, invR (l ++ [z]) = invR l + gt z l
  | [] => by simp [invR, cl, gt]
  | a :: l => by
    show cl a (l ++ [z]) + invR (l ++ [z]) = cl a l + invR l + gt z (a :: l)
    rw [invR_snoc z l]
    unfold cl gt
    rw [List.countP_append]
    simp only [List.countP_cons, List.countP_nil]
    omega

theorem cl_gt {z : Int} : ∀ {t : List Int}, z ∉ t → cl z t + gt z t = t.length
  | [], _ => rfl
  | a :: t, h => by
    have ih := cl_gt (z := z) (t := t) (fun e => h (by simp [e]))
    have hne : z ≠ a := fun e => h (by simp [e])
    unfold cl gt at *
    rw [List.countP_cons, List.countP_cons]
    by_cases h1 : a < z
    · have h2 : ¬ z < a := by omega
      simp [h1, h2]; omega
    · have h2 : z < a := by omega
      simp [h1, h2]; omega

def tri : Nat → Nat
  | 0 => 0
  | n + 1 => tri n + n

theorem inv_rev : ∀ l : List Int, l.Nodup → invR l.reverse + invR l = tri l.length
  | [], _ => rfl
  | z :: t, h => by
    have hn := List.nodup_cons.1 h
    have ih := inv_rev t hn.2
    have hg : gt z t.reverse = gt z t := by unfold gt; rw [List.countP_reverse]
    have hcg := cl_gt hn.1
    rw [List.reverse_cons, invR_snoc, hg]
    show invR t.reverse + gt z t + (cl z t + invR t) = tri t.length + t.length
    omega

theorem tri_is : ∀ n, n ≤ 7 → (tri n : Int) = ((n : Int) * ((n : Int) - 1)).tdiv 2 := by
  intro n hn
  have : n = 0 ∨ n = 1 ∨ n = 2 ∨ n = 3 ∨ n = 4 ∨ n = 5 ∨ n = 6 ∨ n = 7 := by omega
  rcases this with rfl | rfl | rfl | rfl | rfl | rfl | rfl | rfl <;> decide

theorem few_many {zs : List Int} (h : Ord zs) : invTo zs.reverse zs.reverse.length + invTo zs zs.length = tri zs.length := by
  rw [inv_all, inv_all]; exact inv_rev zs h.2.2.2

/-! ### Orders turned -/
theorem ord_reverse {zs : List Int} (h : Ord zs) : Ord zs.reverse := by
  refine ⟨by simpa using h.1, by simpa using h.2.1, fun z hz => ?_, ?_⟩
  · have := h.2.2.1 z (by simpa using hz); simpa using this
  · exact ((List.reverse_perm zs).nodup_iff).2 h.2.2.2

def other (zs : List Int) : List Int := zs.map (fun z => (zs.length : Int) + 1 - z)

theorem ord_other {zs : List Int} (h : Ord zs) : Ord (other zs) := by
  refine ⟨by simpa [other] using h.1, by simpa [other] using h.2.1, fun z hz => ?_, ?_⟩
  · unfold other at hz
    rw [List.mem_map] at hz
    obtain ⟨y, hy, rfl⟩ := hz
    have := h.2.2.1 y hy
    simp [other]; omega
  · unfold other List.Nodup
    rw [List.pairwise_map]
    exact h.2.2.2.imp (fun h => by omega)

theorem other_other (zs : List Int) : other (other zs) = zs := by
  unfold other
  rw [List.map_map, List.length_map]
  conv => rhs; rw [← List.map_id zs]
  apply List.map_congr_left
  intro z _
  show (zs.length : Int) + 1 - ((zs.length : Int) + 1 - z) = z
  omega

theorem getD_set_same (l : List Int) (p : Nat) (z : Int) (h : p < l.length) : (l.set p z).getD p 0 = z := by simp [h]
theorem getD_set_other (l : List Int) (p q : Nat) (z : Int) (h : p ≠ q) : (l.set p z).getD q 0 = l.getD q 0 := by
  rw [List.getD_eq_getElem?_getD, List.getElem?_set_ne h, List.getD_eq_getElem?_getD]

theorem inv_get {zs : List Int} (h : Ord zs) : ∀ k, k ≤ zs.length → ∀ j, j < k → (invOf zs k).getD (zs.getD j 0 - 1).toNat 0 = (j : Int) + 1 := by
  intro k
  induction k with
  | zero => intro _ j hj; omega
  | succ k ih =>
    intro hk j hj
    obtain ⟨m, hm, hm2⟩ := h.getD (k := k) (by omega)
    show ((invOf zs k).set (zs.getD k 0 - 1).toNat ((k : Int) + 1)).getD (zs.getD j 0 - 1).toNat 0 = (j : Int) + 1
    by_cases e : j = k
    · subst e
      rw [getD_set_same _ _ _ (by rw [invOf_len, hm]; omega)]
    · obtain ⟨q, hq, hq2⟩ := h.getD (k := j) (by omega)
      rw [getD_set_other _ _ _ _ (by
        intro e2
        have e3 : zs.getD k 0 = zs.getD j 0 := by omega
        have e4 : zs[k]'(by omega) = zs[j]'(by omega) := by simpa [show k < zs.length by omega, show j < zs.length by omega] using e3
        have := (List.getElem_inj h.2.2.2).1 e4
        omega)]
      exact ih (by omega) j (by omega)

theorem ord_surj {zs : List Int} (h : Ord zs) {p : Nat} (hp : p < zs.length) : ∃ j, j < zs.length ∧ zs.getD j 0 = (p : Int) + 1 := by
  have h1 : ((p : Int) + 1) ∈ zs := (ord_perm h).mem_iff.2 (mem_iota.2 (by omega))
  obtain ⟨j, hj, e⟩ := List.mem_iff_getElem.1 h1
  exact ⟨j, hj, by rw [← e]; simp [hj]⟩

theorem inv_at {zs : List Int} (h : Ord zs) {p : Nat} (hp : p < zs.length) : ∃ j, j < zs.length ∧ zs.getD j 0 = (p : Int) + 1 ∧ (invOf zs zs.length).getD p 0 = (j : Int) + 1 := by
  obtain ⟨j, hj, e⟩ := ord_surj h hp
  refine ⟨j, hj, e, ?_⟩
  have h1 := inv_get h zs.length (Nat.le_refl _) j hj
  rw [e] at h1
  have e2 : ((p : Int) + 1 - 1).toNat = p := by omega
  rw [e2] at h1
  exact h1

theorem getD_getElem {l : List Int} {i : Nat} (h : i < l.length) : l[i] = l.getD i 0 := by simp [h]

theorem ord_inverse {zs : List Int} (h : Ord zs) : Ord (invOf zs zs.length) := by
  have hl := invOf_len zs zs.length
  refine ⟨by rw [hl]; exact h.1, by rw [hl]; exact h.2.1, fun z hz => ?_, ?_⟩
  · obtain ⟨p, hp, e⟩ := List.mem_iff_getElem.1 hz
    obtain ⟨j, hj, _, e2⟩ := inv_at h (p := p) (by omega)
    rw [← e, getD_getElem hp, e2, hl]; omega
  · unfold List.Nodup
    rw [List.pairwise_iff_getElem]
    intro i j hi hj hij
    obtain ⟨a, ha, e1, e2⟩ := inv_at h (p := i) (by omega)
    obtain ⟨b, hb, e3, e4⟩ := inv_at h (p := j) (by omega)
    rw [getD_getElem hi, getD_getElem hj, e2, e4]
    intro e
    have : a = b := by omega
    subst this
    omega

theorem inverse_inverse {zs : List Int} (h : Ord zs) : invOf (invOf zs zs.length) (invOf zs zs.length).length = zs := by
  have hl := invOf_len zs zs.length
  have hi := ord_inverse h
  apply List.ext_getElem
  · rw [invOf_len, hl]
  · intro j h1 h2
    obtain ⟨m, hm, hm2⟩ := h.getD (k := j) h2
    have e1 := inv_get h zs.length (Nat.le_refl _) j h2
    rw [hm] at e1
    have e3 : ((m : Int) + 1 - 1).toNat = m := by omega
    rw [e3] at e1
    have e2 := inv_get hi (invOf zs zs.length).length (Nat.le_refl _) m (by rw [hl]; exact hm2)
    rw [e1] at e2
    have e4 : ((j : Int) + 1 - 1).toNat = j := by omega
    rw [e4] at e2
    rw [getD_getElem h1, e2, getD_getElem h2, hm]

theorem compose_inverse {zs : List Int} (h : Ord zs) : (invOf zs zs.length).map (fun y => zs.getD (y - 1).toNat 0) = iota zs.length := by
  have hl := invOf_len zs zs.length
  apply List.ext_getElem
  · rw [List.length_map, hl, iota_len]
  · intro p h1 h2
    have hp : p < zs.length := by rw [iota_len] at h2; exact h2
    obtain ⟨j, hj, e1, e2⟩ := inv_at h hp
    rw [List.getElem_map, getD_getElem (by rw [hl]; exact hp), e2, iota_at _ _ hp]
    have e3 : ((j : Int) + 1 - 1).toNat = j := by omega
    rw [e3, e1]

end Go.Proofs.Ytddenfnoajdjiaa.OrdFacts

/-
  The mathematics of the sweep: what comes out of an order when each number pops all that are less, the signs of it as a word, and that sweeps sort. Conditions: none. Plain facts on texts and lists: nothing of the program.
-/
namespace Go.Proofs.Ytddenfnoajdjiaa.SweepM
open NumC OrdMath WordMath OrdFacts EndsM

/-- What a number pops, the top first. -/
def popd (s : List Int) (x : Int) : List Int := s.reverse.takeWhile (fun y => decide (y < x))
/-- What it leaves on the stack. -/
def belw (s : List Int) (x : Int) : List Int := (s.reverse.dropWhile (fun y => decide (y < x))).reverse

theorem parts (s : List Int) (x : Int) : belw s x ++ (popd s x).reverse = s := by
  unfold belw popd
  rw [← List.reverse_append, List.takeWhile_append_dropWhile, List.reverse_reverse]

theorem popd_nil (x : Int) : popd [] x = [] := rfl
theorem belw_nil (x : Int) : belw [] x = [] := rfl
theorem popd_less {s : List Int} {y x : Int} (h : y < x) : popd (s ++ [y]) x = y :: popd s x := by simp [popd, h]
theorem belw_less {s : List Int} {y x : Int} (h : y < x) : belw (s ++ [y]) x = belw s x := by simp [belw, h]
theorem popd_not {s : List Int} {y x : Int} (h : ¬ y < x) : popd (s ++ [y]) x = [] := by simp [popd, h]
theorem belw_not {s : List Int} {y x : Int} (h : ¬ y < x) : belw (s ++ [y]) x = s ++ [y] := by simp [belw, h]

theorem tw_all {p : Int → Bool} : ∀ {l : List Int}, (∀ y ∈ l, p y = true) → l.takeWhile p = l
  | [], _ => rfl
  | a :: t, h => by rw [List.takeWhile_cons, if_pos (h a (by simp)), tw_all (fun y hy => h y (by simp [hy]))]
theorem tw_mem {p : Int → Bool} {y : Int} : ∀ {l : List Int}, y ∈ l.takeWhile p → p y = true
  | [], h => by simp at h
  | a :: t, h => by
    rw [List.takeWhile_cons] at h
    split at h
    · rename_i ha
      rcases List.mem_cons.1 h with rfl | h
      · exact ha
      · exact tw_mem h
    · cases h

theorem popd_all {s : List Int} {x : Int} (h : ∀ y ∈ s, y < x) : popd s x = s.reverse := by
  unfold popd
  exact tw_all (fun y hy => decide_eq_true (h y (List.mem_reverse.1 hy)))
theorem belw_all {s : List Int} {x : Int} (h : ∀ y ∈ s, y < x) : belw s x = [] := by
  have h1 := parts s x
  rw [popd_all h, List.reverse_reverse] at h1
  exact List.eq_nil_of_length_eq_zero (by have := congrArg List.length h1; simp at this; exact List.length_eq_zero_iff.2 this)

theorem lens (s : List Int) (x : Int) : (belw s x).length + (popd s x).length = s.length := by
  have := congrArg List.length (parts s x); simpa using this

/-- One number. -/
def swF (r : List Int × List Int) (x : Int) : List Int × List Int := (r.1 ++ popd r.2 x, belw r.2 x ++ [x])

/-- What has come out and what is on the stack, behind the first numbers. -/
def swTo (zs : List Int) (k : Nat) : List Int × List Int := (zs.take k).foldl swF ([], [])

theorem sw_start (zs : List Int) : swTo zs 0 = ([], []) := rfl
theorem sw_next {zs : List Int} {k : Nat} {o s : List Int} (hk : k < zs.length) (h : swTo zs k = (o, s)) : swTo zs (k + 1) = (o ++ popd s (zs.getD k 0), belw s (zs.getD k 0) ++ [zs.getD k 0]) := by
  unfold swTo at h ⊢
  rw [List.take_succ_eq_append_getElem hk, List.foldl_append, h]
  have e : zs.getD k 0 = zs[k] := by simp [hk]
  rw [e]; rfl

/-- The sweep. -/
def sweepL (zs : List Int) : List Int := (zs.foldl swF ([], [])).1 ++ (zs.foldl swF ([], [])).2.reverse

theorem sweep_end {zs o s : List Int} (h : swTo zs zs.length = (o, s)) : sweepL zs = o ++ s.reverse := by
  unfold swTo at h
  rw [List.take_length] at h
  unfold sweepL
  rw [h]

theorem fold_out (l : List Int) : ∀ (o s : List Int), l.foldl swF (o, s) = (o ++ (l.foldl swF ([], s)).1, (l.foldl swF ([], s)).2) := by
  induction l with
  | nil => intro o s; simp
  | cons x t ih =>
    intro o s
    show t.foldl swF (o ++ popd s x, belw s x ++ [x]) = _
    rw [ih]
    have e : (x :: t).foldl swF ([], s) = t.foldl swF ([] ++ popd s x, belw s x ++ [x]) := rfl
    rw [e, ih ([] ++ popd s x)]
    simp

theorem sw_perm (l : List Int) : ∀ (o s : List Int), ((l.foldl swF (o, s)).1 ++ (l.foldl swF (o, s)).2).Perm (o ++ s ++ l) := by
  induction l with
  | nil => intro o s; simp
  | cons x t ih =>
    intro o s
    refine (ih (o ++ popd s x) (belw s x ++ [x])).trans ?_
    have h1 : (popd s x ++ belw s x).Perm s := by
      have h2 : (belw s x ++ popd s x).Perm (belw s x ++ (popd s x).reverse) := (List.reverse_perm _).symm.append_left _
      rw [parts] at h2
      exact List.perm_append_comm.trans h2
    have e : o ++ popd s x ++ (belw s x ++ [x]) ++ t = o ++ (popd s x ++ belw s x) ++ (x :: t) := by simp
    rw [e]
    exact (h1.append_left o).append_right _

theorem sweep_perm (zs : List Int) : (sweepL zs).Perm zs := by
  have h := sw_perm zs [] []
  simp only [List.nil_append] at h
  unfold sweepL
  exact ((List.reverse_perm _).append_left _).trans h

theorem sweep_len (zs : List Int) : (sweepL zs).length = zs.length := (sweep_perm zs).length_eq

theorem ord_sweep {zs : List Int} (h : Ord zs) : Ord (sweepL zs) :=
  ord_of_perm ((sweep_perm zs).trans (ord_perm h)) h.1 h.2.1

theorem stack_ne (l : List Int) (x : Int) (o s : List Int) : ((l ++ [x]).foldl swF (o, s)).2 ≠ [] := by
  rw [List.foldl_append]; show _ ++ [x] ≠ []; simp

/-! ### The word -/
/-- The signs of the first numbers. -/
def sgTo (zs : List Int) : Nat → List UInt8
  | 0 => []
  | k + 1 => sgTo zs k ++ List.replicate (popd (swTo zs k).2 (zs.getD k 0)).length 79 ++ [73]

def swWord (zs : List Int) : List UInt8 := sgTo zs zs.length ++ List.replicate (swTo zs zs.length).2.length 79

def stepL (zs : List Int) (r : List Int × List Int × Nat) (c : UInt8) : List Int × List Int × Nat :=
  if c = 73 then (r.1, r.2.1 ++ [zs.getD r.2.2 0], r.2.2 + 1) else (r.1 ++ [r.2.1.getLast?.getD 0], r.2.1.dropLast, r.2.2)

theorem run_fold (zs : List Int) (w : ByteArray) : ∀ k, k ≤ w.size → runTo zs w k = (w.data.toList.take k).foldl (stepL zs) ([], [], 0)
  | 0, _ => rfl
  | k + 1, h => by
    have h2 : k < w.data.toList.length := by rw [Array.length_toList]; exact h
    have hb : w.data.toList[k] = byt w k := by unfold byt; rw [List.getD_eq_getElem?_getD, List.getElem?_eq_getElem h2, Option.getD_some]
    rw [List.take_succ_eq_append_getElem h2, List.foldl_append, ← run_fold zs w k (by omega), hb]
    rfl

theorem run_txt (zs : List Int) (l : List UInt8) : runOut zs (txt l) = (l.foldl (stepL zs) ([], [], 0)).1 := by
  unfold runOut
  rw [run_fold zs (txt l) _ (Nat.le_refl _), txt_list, txt_size, List.take_length]

theorem step_pops (zs : List Int) (x : Nat) : ∀ (t s o : List Int), (List.replicate t.length 79).foldl (stepL zs) (o, s ++ t.reverse, x) = (o ++ t, s, x)
  | [], s, o => by simp
  | a :: t, s, o => by
    have e : (List.replicate (a :: t).length (79 : UInt8)) = 79 :: List.replicate t.length 79 := rfl
    rw [e]
    show (List.replicate t.length 79).foldl (stepL zs) (stepL zs (o, s ++ (a :: t).reverse, x) 79) = _
    have e2 : stepL zs (o, s ++ (a :: t).reverse, x) 79 = (o ++ [a], s ++ t.reverse, x) := by
      unfold stepL
      rw [if_neg (by decide)]
      have e3 : s ++ (a :: t).reverse = (s ++ t.reverse) ++ [a] := by simp
      rw [e3]
      simp
    rw [e2, step_pops zs x t s (o ++ [a])]
    simp

theorem sg_run (zs : List Int) : ∀ k, k ≤ zs.length → (sgTo zs k).foldl (stepL zs) ([], [], 0) = ((swTo zs k).1, (swTo zs k).2, k)
  | 0, _ => rfl
  | k + 1, h => by
    obtain ⟨o, s, hr⟩ : ∃ o s, swTo zs k = (o, s) := ⟨_, _, rfl⟩
    have hn := sw_next (zs := zs) (k := k) (by omega) hr
    unfold sgTo
    rw [List.foldl_append, List.foldl_append, sg_run zs k (by omega), hr, hn]
    simp only
    have e : s = belw s (zs.getD k 0) ++ (popd s (zs.getD k 0)).reverse := (parts _ _).symm
    have h2 := step_pops zs k (popd s (zs.getD k 0)) (belw s (zs.getD k 0)) o
    rw [← e] at h2
    rw [h2]
    rfl

/-- A walk over signs from a depth to another one. -/
def Path : List UInt8 → Nat → Nat → Prop
  | [], d, e => d = e
  | c :: t, d, e => (c = 73 ∧ Path t (d + 1) e) ∨ (c = 79 ∧ 0 < d ∧ Path t (d - 1) e)

theorem path_goes : ∀ l d, Path l d 0 → Goes l d
  | [], _, h => h
  | c :: t, d, h => by
    rcases h with ⟨h1, h⟩ | ⟨h1, h2, h⟩
    · exact .inl ⟨h1, path_goes t _ h⟩
    · exact .inr ⟨h1, h2, path_goes t _ h⟩

theorem path_append : ∀ (l m : List UInt8) (d e f : Nat), Path l d e → Path m e f → Path (l ++ m) d f
  | [], m, d, e, f, h, h2 => by cases h; exact h2
  | c :: t, m, d, e, f, h, h2 => by
    rcases h with ⟨h1, h⟩ | ⟨h1, h3, h⟩
    · exact .inl ⟨h1, path_append t m _ e f h h2⟩
    · exact .inr ⟨h1, h3, path_append t m _ e f h h2⟩

theorem path_pops : ∀ (m d : Nat), Path (List.replicate m 79) (d + m) d
  | 0, d => rfl
  | m + 1, d => .inr ⟨rfl, by omega, path_pops m d⟩

theorem sg_path (zs : List Int) : ∀ k, k ≤ zs.length → Path (sgTo zs k) 0 (swTo zs k).2.length
  | 0, _ => rfl
  | k + 1, h => by
    obtain ⟨o, s, hr⟩ : ∃ o s, swTo zs k = (o, s) := ⟨_, _, rfl⟩
    have hn := sw_next (zs := zs) (k := k) (by omega) hr
    have ih := sg_path zs k (by omega)
    unfold sgTo
    rw [hr] at ih ⊢
    rw [hn]
    simp only at ih ⊢
    refine path_append _ _ _ (belw s (zs.getD k 0)).length _ (path_append _ _ _ s.length _ ih ?_) ?_
    · rw [← lens s (zs.getD k 0)]; exact path_pops _ _
    · exact .inl ⟨rfl, by show _ = _; simp⟩

theorem sg_len (zs : List Int) : ∀ k, k ≤ zs.length → (sgTo zs k).length = k + (swTo zs k).1.length ∧ (swTo zs k).1.length + (swTo zs k).2.length = k
  | 0, _ => ⟨rfl, rfl⟩
  | k + 1, h => by
    obtain ⟨o, s, hr⟩ : ∃ o s, swTo zs k = (o, s) := ⟨_, _, rfl⟩
    have hn := sw_next (zs := zs) (k := k) (by omega) hr
    have ih := sg_len zs k (by omega)
    unfold sgTo
    rw [hr] at ih ⊢
    rw [hn]
    simp only at ih ⊢
    have := lens s (zs.getD k 0)
    simp only [List.length_append, List.length_replicate, List.length_singleton]
    omega

theorem swWord_len (zs : List Int) : (swWord zs).length = 2 * zs.length := by
  have h := sg_len zs zs.length (Nat.le_refl _)
  unfold swWord
  simp
  omega

theorem sweep_word {zs : List Int} (h1 : 1 ≤ zs.length) (h7 : zs.length ≤ 7) : Word (txt (swWord zs)) ∧ (txt (swWord zs)).size = 2 * zs.length ∧ runOut zs (txt (swWord zs)) = sweepL zs := by
  have hl := swWord_len zs
  refine ⟨goes_word (path_goes _ _ ?_) (by omega) (by omega), by rw [txt_size, hl], ?_⟩
  · have h := sg_path zs zs.length (Nat.le_refl _)
    refine path_append _ _ _ _ _ h ?_
    have := path_pops (swTo zs zs.length).2.length 0
    rwa [Nat.zero_add] at this
  · obtain ⟨o, s, hr⟩ : ∃ o s, swTo zs zs.length = (o, s) := ⟨_, _, rfl⟩
    rw [run_txt, sweep_end hr]
    unfold swWord
    rw [List.foldl_append, sg_run zs _ (Nat.le_refl _), hr]
    have h2 := step_pops zs zs.length s.reverse [] o
    rw [List.reverse_reverse, List.nil_append, List.length_reverse] at h2
    show (List.foldl (stepL zs) (o, s, zs.length) (List.replicate s.length 79)).1 = _
    rw [h2]

/-! ### Sweeps sort -/
/-- The number at the bottom of the stack is the greatest one so far. -/
def Top (s : List Int) (seen : List Int) : Prop := ∃ m t, s = m :: t ∧ m ∈ seen ∧ ∀ y ∈ seen, y ≤ m

theorem top_next {s seen : List Int} {x : Int} (h : Top s seen) (hs : ∀ y ∈ s, y ∈ seen) : Top (belw s x ++ [x]) (seen ++ [x]) ∧ ∀ y ∈ belw s x ++ [x], y ∈ seen ++ [x] := by
  obtain ⟨m, t, rfl, hm, hall⟩ := h
  have hp := parts (m :: t) x
  have hsub : ∀ y ∈ belw (m :: t) x, y ∈ m :: t := fun y hy => by rw [← hp]; exact List.mem_append.2 (.inl hy)
  refine ⟨?_, ?_⟩
  · by_cases hmx : m < x
    · have hb : belw (m :: t) x = [] := belw_all (fun y hy => by have := hall y (hs y hy); omega)
      refine ⟨x, [], by rw [hb]; rfl, by simp, ?_⟩
      intro y hy
      rcases List.mem_append.1 hy with h | h
      · have := hall y h; omega
      · simp at h; omega
    · have hne : belw (m :: t) x ≠ [] := by
        intro e
        rw [e, List.nil_append] at hp
        have h9 : m ∈ popd (m :: t) x := by
          have : m ∈ (popd (m :: t) x).reverse := by rw [hp]; simp
          exact List.mem_reverse.1 this
        unfold popd at h9
        have := tw_mem h9
        exact hmx (of_decide_eq_true this)
      obtain ⟨a, u, hu⟩ : ∃ a u, belw (m :: t) x = a :: u := by
        cases hb : belw (m :: t) x with
        | nil => exact absurd hb hne
        | cons a u => exact ⟨a, u, rfl⟩
      rw [hu] at hp
      have ha : a = m := by injection hp
      subst ha
      refine ⟨a, u ++ [x], by rw [hu]; rfl, by simp [hm], ?_⟩
      intro y hy
      rcases List.mem_append.1 hy with h | h
      · exact hall y h
      · simp at h; omega
  · intro y hy
    rcases List.mem_append.1 hy with h | h
    · exact List.mem_append.2 (.inl (hs y (hsub y h)))
    · exact List.mem_append.2 (.inr h)

theorem top_fold : ∀ (l s seen o : List Int), Top s seen → (∀ y ∈ s, y ∈ seen) → Top (l.foldl swF (o, s)).2 (seen ++ l)
  | [], s, seen, o, h, _ => by simpa using h
  | x :: t, s, seen, o, h, hs => by
    have h2 := top_next (x := x) h hs
    have := top_fold t (belw s x ++ [x]) (seen ++ [x]) (o ++ popd s x) h2.1 h2.2
    rw [List.append_assoc] at this
    exact this

theorem sweep_top {l : List Int} (h : l ≠ []) : Top (l.foldl swF ([], [])).2 l := by
  cases l with
  | nil => exact absurd rfl h
  | cons x t =>
    have := top_fold t [x] [x] [] ⟨x, [], rfl, by simp, fun y hy => by simp at hy; omega⟩ (fun y hy => hy)
    exact this

/-- The sweep ends with the greatest number. -/
theorem sweep_last {l : List Int} (h : l ≠ []) : ∃ p m, sweepL l = p ++ [m] ∧ m ∈ l ∧ ∀ y ∈ l, y ≤ m := by
  obtain ⟨m, t, h1, h2, h3⟩ := sweep_top h
  refine ⟨(l.foldl swF ([], [])).1 ++ t.reverse, m, ?_, h2, h3⟩
  unfold sweepL
  rw [h1]
  simp

/-- Ascending numbers greater than all ahead of them stay. -/
theorem sweep_tail : ∀ (q o s : List Int), q.Pairwise (· < ·) → (∀ y ∈ q, ∀ z ∈ s, z < y) → (q.foldl swF (o, s)).1 ++ (q.foldl swF (o, s)).2.reverse = o ++ s.reverse ++ q
  | [], o, s, _, _ => by simp
  | y :: q, o, s, h, hs => by
    have hall : ∀ z ∈ s, z < y := hs y (by simp)
    have e : (y :: q).foldl swF (o, s) = q.foldl swF (o ++ s.reverse, [y]) := by
      show q.foldl swF (o ++ popd s y, belw s y ++ [y]) = _
      rw [popd_all hall, belw_all hall]; rfl
    rw [e, sweep_tail q _ _ (List.pairwise_cons.1 h).2 (fun z hz u hu => by simp at hu; subst hu; exact (List.pairwise_cons.1 h).1 z hz)]
    simp

theorem sweep_append {p q : List Int} (hq : q.Pairwise (· < ·)) (hp : ∀ y ∈ q, ∀ z ∈ p, z < y) : sweepL (p ++ q) = sweepL p ++ q := by
  unfold sweepL
  rw [List.foldl_append]
  obtain ⟨o, s, hr⟩ : ∃ o s, p.foldl swF ([], []) = (o, s) := ⟨_, _, rfl⟩
  rw [hr]
  have hs : ∀ z ∈ s, z ∈ p := by
    intro z hz
    have h := sw_perm p [] []
    rw [hr] at h
    have h9 : z ∈ o ++ s := List.mem_append.2 (.inr hz)
    have := h.mem_iff.1 h9
    simpa using this
  rw [sweep_tail q o s hq (fun y hy z hz => hp y hy z (hs z hz))]

/-- So many sweeps. -/
def swN (zs : List Int) : Nat → List Int
  | 0 => zs
  | k + 1 => sweepL (swN zs k)

theorem swN_perm (zs : List Int) : ∀ k, (swN zs k).Perm zs
  | 0 => List.Perm.refl _
  | k + 1 => (sweep_perm _).trans (swN_perm zs k)

theorem ord_swN {zs : List Int} (h : Ord zs) (k : Nat) : Ord (swN zs k) := ord_of_perm ((swN_perm zs k).trans (ord_perm h)) h.1 h.2.1
theorem swN_len (zs : List Int) (k : Nat) : (swN zs k).length = zs.length := (swN_perm zs k).length_eq

theorem swN_tail {zs : List Int} (hn : zs.Nodup) : ∀ k, k ≤ zs.length → ∃ p q, swN zs k = p ++ q ∧ q.length = k ∧ q.Pairwise (· < ·) ∧ ∀ y ∈ q, ∀ z ∈ p, z < y
  | 0, _ => ⟨zs, [], by simp [swN], rfl, .nil, by simp⟩
  | k + 1, h => by
    obtain ⟨p, q, e, hq, hs, hp⟩ := swN_tail hn k (by omega)
    have hl := swN_len zs k
    rw [e] at hl
    have hne : p ≠ [] := by intro h0; subst h0; simp at hl; omega
    obtain ⟨p2, m, e2, hm, hmax⟩ := sweep_last hne
    refine ⟨p2, m :: q, ?_, by simp [hq], ?_, ?_⟩
    · show sweepL (swN zs k) = _
      rw [e, sweep_append hs hp, e2]; simp
    · exact List.pairwise_cons.2 ⟨fun y hy => hp y hy m hm, hs⟩
    · have hperm := sweep_perm p
      rw [e2] at hperm
      have hnd : p.Nodup := by
        have h1 := (swN_perm zs k).nodup_iff.2 hn
        rw [e] at h1
        exact (List.nodup_append.1 h1).1
      have hnd2 := hperm.nodup_iff.2 hnd
      have hmem : ∀ z ∈ p2, z ∈ p := fun z hz => hperm.mem_iff.1 (by simp [hz])
      intro y hy z hz
      rcases List.mem_cons.1 hy with rfl | hy
      · have h1 := hmax z (hmem z hz)
        have h2 : z ≠ y := by
          intro e3; subst e3
          exact (List.nodup_append.1 hnd2).2.2 z hz z (by simp) rfl
        omega
      · exact hp y hy z (hmem z hz)

theorem sorted_is {l : List Int} {n : Nat} (h : l.Perm (iota n)) (hs : l.Pairwise (· < ·)) : l = iota n :=
  h.eq_of_pairwise (fun a b _ _ h1 h2 => by omega) hs (iota_sorted n)

theorem swN_sorts {zs : List Int} (h : Ord zs) : swN zs (zs.length - 1) = iota zs.length := by
  have h1 := h.1
  obtain ⟨p, q, e, hq, hs, hp⟩ := swN_tail h.2.2.2 (zs.length - 1) (by omega)
  have hl := swN_len zs (zs.length - 1)
  refine sorted_is ((swN_perm zs _).trans (ord_perm h)) ?_
  rw [e] at hl ⊢
  simp at hl
  rw [List.pairwise_append]
  refine ⟨?_, hs, fun z hz y hy => hp y hy z hz⟩
  match p, hl with
  | [], _ => exact .nil
  | [a], _ => exact List.pairwise_singleton _ _
  | a :: b :: t, hl => simp at hl; omega

/-- The number of sweeps that sort. -/
def firstN (zs : List Int) : Nat → Nat → Nat
  | 0, k => k
  | f + 1, k => if swN zs k = iota zs.length then k else firstN zs f (k + 1)

def many (zs : List Int) : Nat := firstN zs (zs.length - 1) 0

theorem first_is {zs : List Int} : ∀ f k, swN zs (k + f) = iota zs.length → (∀ j, j < k → swN zs j ≠ iota zs.length) → swN zs (firstN zs f k) = iota zs.length ∧ (∀ j, j < firstN zs f k → swN zs j ≠ iota zs.length) ∧ firstN zs f k ≤ k + f
  | 0, k, h, hb => ⟨h, hb, Nat.le_refl _⟩
  | f + 1, k, h, hb => by
    unfold firstN
    by_cases he : swN zs k = iota zs.length
    · rw [if_pos he]; exact ⟨he, hb, by omega⟩
    · rw [if_neg he]
      have := first_is f (k + 1) (by rw [show k + 1 + f = k + (f + 1) by omega]; exact h) (fun j hj => by
        rcases Nat.lt_succ_iff_lt_or_eq.1 hj with h1 | h1
        · exact hb j h1
        · subst h1; exact he)
      exact ⟨this.1, this.2.1, by omega⟩

theorem many_is {zs : List Int} (h : Ord zs) : swN zs (many zs) = iota zs.length ∧ (∀ j, j < many zs → swN zs j ≠ iota zs.length) ∧ many zs < zs.length := by
  have h1 := h.1
  have := first_is (zs := zs) (zs.length - 1) 0 (by rw [Nat.zero_add]; exact swN_sorts h) (by omega)
  unfold many
  exact ⟨this.1, this.2.1, by omega⟩

/-! ### The answers -/
def sweepAns (zs : List Int) : List Int × Bool := if Ord zs then (sweepL zs, true) else ([], false)
def swWordAns (zs : List Int) : ByteArray × Bool := if Ord zs then (txt (swWord zs), true) else (ByteArray.empty, false)
def sweepsAns (zs : List Int) : Int × Bool := if Ord zs then ((many zs : Nat), true) else (0, false)

theorem sweep_alen {zs xs : List Int} {b : Bool} (h : sweepAns zs = (xs, b)) : xs.length ≤ 1048576 := by
  unfold sweepAns at h; split at h
  · rename_i ho; cases h; have := ho.2.1; rw [sweep_len]; omega
  · cases h; simp

end Go.Proofs.Ytddenfnoajdjiaa.SweepM

/-
  The mathematics of chapter 4: the order before another one by a word, record places, blocks, the word that sorts. Conditions: none. Plain facts on texts and lists: nothing of the program.
-/
namespace Go.Proofs.Ytddenfnoajdjiaa.StackM
open NumC OrdMath WordMath OrdFacts EndsM SweepM

/-- The order before, place by place. -/
def befTo (out ps : List Int) : Nat → List Int
  | 0 => List.replicate out.length 0
  | k + 1 => (befTo out ps k).set (ps.getD k 0 - 1).toNat (out.getD k 0)

theorem befTo_len (out ps : List Int) : ∀ k, (befTo out ps k).length = out.length
  | 0 => by simp [befTo]
  | k + 1 => by simp [befTo, befTo_len out ps k]

/-- The order from which another one comes out by a word. -/
def beforeOf (out : List Int) (w : ByteArray) : List Int := befTo out (runOut (iota out.length) w) out.length

theorem iota_getD {n k : Nat} (h : k < n) : (iota n).getD k 0 = (k : Int) + 1 := by
  have := iota_at n k h
  rw [List.getD_eq_getElem?_getD, List.getElem?_eq_getElem (by rw [iota_len]; exact h), Option.getD_some, this]

theorem bef_inv {n : Nat} {ps : List Int} (h : ps.length = n) : ∀ k, k ≤ n → befTo (iota n) ps k = invOf ps k
  | 0, _ => by unfold befTo invOf; rw [iota_len, h]
  | k + 1, hk => by
    unfold befTo invOf
    rw [bef_inv h k (by omega), iota_getD (by omega)]

theorem ord_iota {n : Nat} (h1 : 1 ≤ n) (h7 : n ≤ 7) : Ord (iota n) := ord_of_perm (List.Perm.refl _) h1 h7

/-! ### Record places -/
def recTo (zs : List Int) : Nat → List Int × Int
  | 0 => ([], 0)
  | k + 1 => if (recTo zs k).2 < zs.getD k 0 then ((recTo zs k).1 ++ [(k : Int)], zs.getD k 0) else recTo zs k

theorem rec_yes {zs r : List Int} {k : Nat} {m : Int} (h : recTo zs k = (r, m)) (hz : m < zs.getD k 0) : recTo zs (k + 1) = (r ++ [(k : Int)], zs.getD k 0) := by
  unfold recTo; rw [h]; simp only; rw [if_pos hz]
theorem rec_no {zs r : List Int} {k : Nat} {m : Int} (h : recTo zs k = (r, m)) (hz : ¬ m < zs.getD k 0) : recTo zs (k + 1) = (r, m) := by
  unfold recTo; rw [h]; simp only; rw [if_neg hz]
theorem rec_len (zs : List Int) : ∀ k, (recTo zs k).1.length ≤ k
  | 0 => Nat.le_refl _
  | k + 1 => by
    have := rec_len zs k
    unfold recTo
    split
    · simp; exact this
    · omega
theorem rec_range {zs : List Int} (h : Ord zs) : ∀ k, k ≤ zs.length → 0 ≤ (recTo zs k).2 ∧ (recTo zs k).2 ≤ 7
  | 0, _ => by simp [recTo]
  | k + 1, hk => by
    have := rec_range h k (by omega)
    obtain ⟨m, h1, h2⟩ := h.getD (k := k) (by omega)
    have := h.2.1
    unfold recTo
    split
    · simp only; omega
    · exact rec_range h k (by omega)

def recAns (zs : List Int) : List Int × Bool := if Ord zs then ((recTo zs zs.length).1, true) else ([], false)

theorem rec_alen {zs xs : List Int} {b : Bool} (h : recAns zs = (xs, b)) : xs.length ≤ 1048576 := by
  unfold recAns at h; split at h
  · rename_i ho; cases h; have := ho.2.1; have := rec_len zs zs.length; omega
  · cases h; simp

/-! ### Blocks -/
/-- The lengths of the blocks so far, where the last one ends, and the greatest number so far. -/
def blkTo (zs : List Int) : Nat → List Int × Nat × Int
  | 0 => ([], 0, 0)
  | k + 1 => let r := blkTo zs k
    let m := max r.2.2 (zs.getD k 0)
    if m = (k : Int) + 1 then (r.1 ++ [(k : Int) + 1 - (r.2.1 : Int)], k + 1, m) else (r.1, r.2.1, m)

theorem blk_yes {zs l : List Int} {k c : Nat} {g m : Int} (h : blkTo zs k = (l, c, g)) (hm : max g (zs.getD k 0) = m) (hz : m = (k : Int) + 1) : blkTo zs (k + 1) = (l ++ [(k : Int) + 1 - (c : Int)], k + 1, m) := by
  unfold blkTo; rw [h]; simp only; rw [hm, if_pos hz]
theorem blk_no {zs l : List Int} {k c : Nat} {g m : Int} (h : blkTo zs k = (l, c, g)) (hm : max g (zs.getD k 0) = m) (hz : ¬ m = (k : Int) + 1) : blkTo zs (k + 1) = (l, c, m) := by
  unfold blkTo; rw [h]; simp only; rw [hm, if_neg hz]
theorem blk_len (zs : List Int) : ∀ k, (blkTo zs k).1.length ≤ k ∧ (blkTo zs k).2.1 ≤ k
  | 0 => ⟨Nat.le_refl _, Nat.le_refl _⟩
  | k + 1 => by
    have := blk_len zs k
    obtain ⟨l, c, g, hr⟩ : ∃ l c g, blkTo zs k = (l, c, g) := ⟨_, _, _, rfl⟩
    obtain ⟨m, hm⟩ : ∃ m, max g (zs.getD k 0) = m := ⟨_, rfl⟩
    rw [hr] at this
    simp only at this
    by_cases hz : m = (k : Int) + 1
    · rw [blk_yes hr hm hz]; simp; omega
    · rw [blk_no hr hm hz]; simp only; omega
theorem blk_range {zs : List Int} (h : Ord zs) : ∀ k, k ≤ zs.length → 0 ≤ (blkTo zs k).2.2 ∧ (blkTo zs k).2.2 ≤ 7
  | 0, _ => by simp [blkTo]
  | k + 1, hk => by
    have ih := blk_range h k (by omega)
    obtain ⟨x, h1, h2⟩ := h.getD (k := k) (by omega)
    have := h.2.1
    obtain ⟨l, c, g, hr⟩ : ∃ l c g, blkTo zs k = (l, c, g) := ⟨_, _, _, rfl⟩
    obtain ⟨m, hm⟩ : ∃ m, max g (zs.getD k 0) = m := ⟨_, rfl⟩
    rw [hr] at ih
    simp only at ih
    have hm2 : 0 ≤ m ∧ m ≤ 7 := by omega
    by_cases hz : m = (k : Int) + 1
    · rw [blk_yes hr hm hz]; exact hm2
    · rw [blk_no hr hm hz]; exact hm2

def blkAns (zs : List Int) : List Int × Bool := if Ord zs then ((blkTo zs zs.length).1, true) else ([], false)

theorem blk_alen {zs xs : List Int} {b : Bool} (h : blkAns zs = (xs, b)) : xs.length ≤ 1048576 := by
  unfold blkAns at h; split at h
  · rename_i ho; cases h; have := ho.2.1; have := (blk_len zs zs.length).1; omega
  · cases h; simp

end Go.Proofs.Ytddenfnoajdjiaa.StackM
