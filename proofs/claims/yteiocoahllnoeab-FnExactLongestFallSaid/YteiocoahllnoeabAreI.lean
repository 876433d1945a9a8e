/-
  Contract: what the program takes for rows. Conditions: at most 2^20 numbers together.
-/
import Derived.Test.YteiocoahllnoeabAreS
import Derived.Test.YteiocoahllnoeabLayIS
namespace Go.Proofs.Yteiocoahllnoeab.AreIC
open Go.RowKit SeesC IntsC ExactC OrdMath InC OrderC ListsC ListsEC ListsFC LLC QueM PassM RowsM AreM AreSC

theorem row_add {w : World} {b o m : Nat} {r : List Int} (hm : r.length = m) (hc : ∀ q, q < m → w.cell? ⟨b, o + q, none⟩ = some (.int .i64 (r.getD q 0))) : ∀ j u, (vals r)[j]? = some u → w.cell? ((⟨b, o, none⟩ : Addr).add j) = some u := by
  intro j u hu
  have hj : j < r.length := by have := (List.getElem?_eq_some_iff.1 hu).1; simpa using this
  have e0 : (⟨b, o, none⟩ : Addr).add j = ⟨b, o + j, none⟩ := by unfold Addr.add; split <;> simp_all
  rw [e0, hc j (by omega)]
  simp [hj] at hu
  rw [← hu]; simp [hj]

theorem up_iff (r : List Int) : (∀ i, i < r.toArray.size - 1 → decide (r.toArray[i + 1]! < r.toArray[i]!) = false) ↔ r.Pairwise (· ≤ ·) := by
  have hget : ∀ i, i < r.length → r.toArray[i]! = r.getD i 0 := by
    intro i hi
    rw [getElem!_pos r.toArray i (by simpa using hi)]
    simp [hi]
  constructor
  · intro hs
    have step : ∀ m i, i + m < r.length → r.getD i 0 ≤ r.getD (i + m) 0 := by
      intro m
      induction m with
      | zero => intro i _; exact Int.le_refl _
      | succ m ih =>
        intro i hi
        have h1 := ih i (by omega)
        have h2 := of_decide_eq_false (hs (i + m) (by simp; omega))
        rw [hget (i + m + 1) (by omega), hget (i + m) (by omega)] at h2
        have e : i + (m + 1) = i + m + 1 := rfl
        rw [e]
        omega
    rw [List.pairwise_iff_getElem]
    intro i j hi hj hij
    have h1 := step (j - i) i (by omega)
    rw [show i + (j - i) = j by omega] at h1
    simpa [hi, hj] using h1
  · intro h i hi
    have hi2 : i + 1 < r.length := by simp at hi; omega
    rw [decide_eq_false_iff_not, hget (i + 1) hi2, hget i (by omega)]
    have := List.pairwise_iff_getElem.1 h i (i + 1) (by omega) hi2 (by omega)
    have e1 : r.getD i 0 = r[i] := by simp [show i < r.length by omega]
    have e2 : r.getD (i + 1) 0 = r[i + 1] := by simp [hi2]
    rw [e1, e2]; omega

def Fits (p r : List Int) : Prop := r.length ≤ p.length ∧ ∀ j, j < r.length → p.getD j 0 ≤ r.getD j 0

instance (p r : List Int) : Decidable (Fits p r) := by unfold Fits; infer_instance

end Go.Proofs.Yteiocoahllnoeab.AreIC
