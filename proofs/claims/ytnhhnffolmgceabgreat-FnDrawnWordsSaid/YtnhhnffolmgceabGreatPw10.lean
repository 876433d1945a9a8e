/-
  Contract: the program's range over a function hands on the parts of a text, each once and in order, for whatever loop body keeps what lay below. Conditions: the text has at most 2^20 bytes.
-/
import Derived.RangeFuncNested
import Derived.RangeFuncBound
import Derived.RangeFuncCalls
import Derived.RangeFuncLeaves
import Derived.RangeFuncBox
import Derived.Shelf.Abstract
import Derived.Shelf.RegionOpen
import Derived.WalkKit
import Derived.OwnWalkIn
import Derived.TacticsInMore
import Derived.LoopNIn
import Derived.LoopIn
import Derived.Maps.AppendAt
import Derived.Outline
import Derived.Test.YtnhhnffolmgceabGreatRows
import Derived.Test.YtnhhnffolmgceabGreatPw7
import Derived.Test.YtnhhnffolmgceabGreatPw2
import Derived.Lib.Hide

namespace Go.Proofs.YtnhhnffolmgceabGreat.SplitIterC
open Go.RowKit Go.Shelf SeesC SplitMath

attribute [local go_sem] Oper.semAt_some

/-- Two blocks are as they were. -/
def Keep2 (a b : Nat) (W W' : World) : Prop := W'.heap[a]? = W.heap[a]? ∧ W'.heap[b]? = W.heap[b]?

theorem Keep2.trans {a b : Nat} {A B C : World} (h : Keep2 a b A B) (k : Keep2 a b B C) : Keep2 a b A C := ⟨k.1.trans h.1, k.2.trans h.2⟩
theorem Keep2.cell1 {a b : Nat} {W W' : World} (h : Keep2 a b W W') : W'.cell? ⟨a, 0, none⟩ = W.cell? ⟨a, 0, none⟩ := World.cell?_of_block h.1
theorem Keep2.cell2 {a b : Nat} {W W' : World} (h : Keep2 a b W W') : W'.cell? ⟨b, 0, none⟩ = W.cell? ⟨b, 0, none⟩ := World.cell?_of_block h.2

theorem grown_drewN' (w : World) (q : Nat) : w.grownBy (w.drewN q) none := ⟨rfl, rfl, rfl, Nat.le_refl _, fun _ _ _ => rfl⟩

end Go.Proofs.YtnhhnffolmgceabGreat.SplitIterC
