/-
  Contracts and plain facts that the laws' texts lean on. Conditions: as each states.
-/
import Derived.Test.YtnhhnffolmgceaaGreatPv42
import Derived.Test.YtnhhnffolmgceaaGreatPv40
import Derived.Test.YtnhhnffolmgceaaGreatPv10
import Derived.Test.YtnhhnffolmgceaaGreatPv13
import Derived.Test.YtnhhnffolmgceaaGreatPv16
import Derived.Test.YtnhhnffolmgceaaGreatPv33
import Derived.Test.YtnhhnffolmgceaaGreatPv26

section
namespace Go.Proofs.YtnhhnffolmgceaaGreat.ChChanceOutputIC
open Go.RowKit SeesC IntsC ExactC OrdMath AllO ListsC Arr2C ChM ChQ UsedC MeanOC ChanceSC WordMath OrderC WordC WordsC RunC SignsC SweepsC WordFacts EndsM CollWC KnownC
set_option linter.unusedVariables false

def tellChanceOutput (zs : List Int) (w : ByteArray) : Bool := decide (runOut zs w = iota zs.length)
def ansChanceOutput (zs : List Int) : Nat × Nat × Bool := if Ord zs then chAns (zs.length : Int) (fun m => meanL (allW m) (isT (tellChanceOutput zs))) else (0, 0, false)

end Go.Proofs.YtnhhnffolmgceaaGreat.ChChanceOutputIC

end

section
namespace Go.Proofs.YtnhhnffolmgceaaGreat.ChChanceDepthIC
open Go.RowKit SeesC IntsC ExactC OrdMath AllO ListsC Arr2C ChM ChQ UsedC MeanOC ChanceSC WordMath WordC WordsC EndsM CollWC KnownC
set_option linter.unusedVariables false

def toldChanceDepth (w : ByteArray) : Nat := depthTo w w.size
def tellChanceDepth (k : Int) (w : ByteArray) : Bool := decide (((toldChanceDepth w : Nat) : Int) ≤ k)
def ansChanceDepth (n k : Int) : Nat × Nat × Bool := if 1 ≤ k ∧ k ≤ 6 then chAns n (fun m => meanL (allW m) (isT (tellChanceDepth k))) else (0, 0, false)

end Go.Proofs.YtnhhnffolmgceaaGreat.ChChanceDepthIC

end

section
namespace Go.Proofs.YtnhhnffolmgceaaGreat.ChMeanDepthIC
open Go.RowKit SeesC IntsC ExactC OrdMath AllO ListsC Arr2C ChM ChQ UsedC MeanOC MeanSC WordMath WordC WordsC EndsM CollWC KnownC
set_option linter.unusedVariables false

def tellMeanDepth (w : ByteArray) : Nat := depthTo w w.size

theorem depth_le {m : Nat} (h1 : 1 ≤ m) (h6 : m ≤ 6) : ∀ w ∈ allW m, tellMeanDepth w ≤ 1000 := by
  have h : ∀ m < 7, 1 ≤ m → (allW m).all (fun w => Nat.ble (depthTo w w.size) 7) = true := by decide +kernel
  intro w hw
  have h2 := List.all_eq_true.1 (h m (by omega) h1) w hw
  exact Nat.le_trans (Nat.le_of_ble_eq_true h2) (by omega)

end Go.Proofs.YtnhhnffolmgceaaGreat.ChMeanDepthIC

end

section
namespace Go.Proofs.YtnhhnffolmgceaaGreat.ChMeanKeptIC
open Go.RowKit SeesC IntsC ExactC OrdMath AllO ListsC Arr2C ChM ChQ UsedC MeanOC MeanSC WordMath WordC WordsC RunC SignsC SortedOrdC AllO SwfM OrdFacts EndsM CollWC KnownC
set_option linter.unusedVariables false

/-- How many of the first numbers are at their own places. -/
def kpt (out : List Int) : Nat → Nat
  | 0 => 0
  | k + 1 => kpt out k + (if out.getD k 0 = ((k : Int) + 1) then 1 else 0)

theorem kpt_le (out : List Int) : ∀ k, kpt out k ≤ k
  | 0 => Nat.le_refl _
  | k + 1 => by
    have h := kpt_le out k
    unfold kpt
    split <;> omega

def tellMeanKept (w : ByteArray) : Nat := kpt (runOut (iota (w.size / 2)) w) (w.size / 2)

theorem depth_le {m : Nat} (h1 : 1 ≤ m) (h6 : m ≤ 6) : ∀ w ∈ allW m, tellMeanKept w ≤ 1000 := by
  intro w hw
  have hsz := (all_mem h1 (by omega) hw).2
  have h := kpt_le (runOut (iota (w.size / 2)) w) (w.size / 2)
  unfold tellMeanKept
  omega

end Go.Proofs.YtnhhnffolmgceaaGreat.ChMeanKeptIC

end
