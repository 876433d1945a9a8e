/-
  How the seat's program may be entered: facts of its heading that every row asks for, each proved once. Conditions: none.
-/
import Derived.Test.YtnhhnffolmgceaaGreatRows
import Derived.WalkKit

namespace Go.Proofs.YtnhhnffolmgceaaGreat.SeatC
open Go

def codes : List Nat :=
   [104, 97, 114, 110, 101, 115, 115, 32, 57, 55, 55, 48, 57, 52, 97, 49, 48, 99, 101, 53, 100, 52, 54, 101, 98, 99, 98, 48, 54, 100, 97, 97, 56, 50, 97, 53, 50, 51, 98, 99,
    52, 50, 98, 99, 57, 100, 55, 102, 51, 48, 101, 53, 99, 49, 51, 50, 49, 101, 48, 55, 51, 52, 51, 97, 51, 56, 97, 48, 102, 48, 51, 55, 32, 99, 117, 116, 32, 97, 116, 32,
    108, 111, 111, 112, 46, 101, 120, 97, 109, 112, 108, 101, 47, 103, 48, 49, 50, 56, 54, 47, 108, 97, 119, 115, 46, 70, 110, 68, 114, 97, 119, 110, 79, 114, 100, 101, 114, 115]
def heads : List (List Nat) :=
   [[99, 117, 116],
    [97, 116],
    [108, 111, 111, 112, 46, 101, 120, 97, 109, 112, 108, 101, 47, 103, 48, 49, 50, 56, 54, 47, 108, 97, 119, 115, 46, 70, 110, 68, 114, 97, 119, 110, 79, 114, 100, 101, 114, 115]]
theorem io : Tryz.prog.initOrder = String.ofList (codes.map Char.ofNat) := by kernel_rfl
theorem iol : Tryz.prog.initOrder.toList = codes.map Char.ofNat := by rw [io, String.toList_ofList]
theorem hws : behindMainWord (wordsSigns (codes.map Char.ofNat)) = heads.map (fun l => l.map Char.ofNat) := by kernel_rfl

theorem make_cut (P : Program) (rest : List (List Char)) (h : behindMainWord (wordsSigns P.initOrder.toList) = "cut".toList :: rest) : P.make = some .cut := by
  unfold Program.make
  rw [h]
  have e1 : ("cut".toList == "gc".toList) = false := by decide +kernel
  have e2 : ("cut".toList == "spec".toList) = false := by decide +kernel
  have e3 : ("cut".toList == "cut".toList) = true := by decide +kernel
  simp only [e1, e2, e3, Bool.or_false, Bool.false_eq_true, if_false, Bool.true_or, if_true]

theorem strip_cut (rest : List (List Char)) : stripLifts liftWords ("cut".toList :: rest) = ([], "cut".toList :: rest) := by
  have : ∀ ls : List String, (∀ o ∈ ls, ("cut".toList == o.toList) = false) → stripLifts ls ("cut".toList :: rest) = ([], "cut".toList :: rest) := by
    intro ls
    induction ls with
    | nil => intro _; rfl
    | cons o os ih =>
      intro h
      unfold stripLifts
      rw [if_neg (by rw [h o (by simp)]; simp)]
      exact ih (fun o h2 => h o (by simp [h2]))
  exact this _ (by decide +kernel)

theorem lifts_cut (P : Program) (rest : List (List Char)) (h : behindMainWord (wordsSigns P.initOrder.toList) = "cut".toList :: rest) : P.liftsFinal = false := by
  unfold Program.liftsFinal Program.headLifts
  rw [h, strip_cut]
  simp

theorem enter_cut (P : Program) (rest : List (List Char)) (h : behindMainWord (wordsSigns P.initOrder.toList) = "cut".toList :: rest) (h1 : P.laysLater = false) (h2 : P.bearsReflect = false) (h3 : P.doorFits [] = true) : P.mayEnter = true := by
  unfold Program.mayEnter
  rw [h]
  simp only
  rw [strip_cut]
  simp only [h1, h2, h3, List.contains_nil, List.head?_cons, beq_self_eq_true, Bool.not_false, Bool.or_true, Bool.and_true]

theorem door : Tryz.prog.doorFits [] = true := by kernel_rfl
theorem lays : Tryz.prog.laysLater = false := by kernel_rfl
theorem bears : Tryz.prog.bearsReflect = false := by kernel_rfl
theorem head : behindMainWord (wordsSigns Tryz.prog.initOrder.toList) = "cut".toList :: (heads.drop 1).map (fun l => l.map Char.ofNat) := by rw [iol, hws]; kernel_rfl
theorem mke : Tryz.prog.make = some .cut := make_cut _ _ head
theorem lif : Tryz.prog.liftsFinal = false := lifts_cut _ _ head
theorem may : Tryz.prog.mayEnter = true := enter_cut _ _ head lays bears door

end Go.Proofs.YtnhhnffolmgceaaGreat.SeatC
