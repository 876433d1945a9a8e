/-
  The contracts of both sides of OutputsOf, in the form in which the walk of the exact law takes them. Conditions: lists of at most 2^20 numbers.
-/
import Derived.Test.YtomheoaophomlabListsE
import Derived.Test.YtomheoaophomlabOutsImpl
namespace Go.Proofs.Ytomheoaophomlab.OutsLC
open Go.RowKit SeesC IntsC ExactC OrdMath ListsC ListsEC OutsMath OutsSpecC OutsImplC

theorem outs_to {W W' : World} {zs : List Int} {e : Ending} {b : Bool} {m : Nat} (hb : isOrd zs = b) (hm : (if b = true then zs.length else 0) = m) (h : OutsTo W zs e W') : LLTo W e W' m b (Outs zs) := by
  obtain ⟨v, R, he, hR, hL, hb2⟩ := h
  refine ⟨v, R, by rw [he, hb], hR, ?_, hb2⟩
  cases b with
  | true => rw [if_pos rfl] at hm; rw [← hm]; exact hL
  | false =>
    have hno : ¬ Ord zs := of_decide_eq_false hb
    unfold Outs at hR
    rw [if_neg hno] at hR
    subst hR
    exact lists_nil hL

theorem outs_m7 {zs : List Int} {b : Bool} {m : Nat} (hb : isOrd zs = b) (hm : (if b = true then zs.length else 0) = m) : m ≤ 7 := by
  cases b with
  | true => have ho : Ord zs := of_decide_eq_true hb; rw [if_pos rfl] at hm; have := ho.2.1; omega
  | false => rw [if_neg (by simp)] at hm; omega

theorem specOutsL (zs : List Int) (b : Bool) (m : Nat) (hb : isOrd zs = b) (hm : (if b = true then zs.length else 0) = m) (hz : zs.length ≤ 1048576) (W : World) (v : Value) (n : Nat) (hv : Sees W v n (vals zs)) :
    Calls Try.prog 5 #[v] W fun e w' => LLTo W e w' m b (Outs zs) :=
  (specOuts zs hz W v n hv).mono fun _ _ h => outs_to hb hm h

theorem implOutsL (zs : List Int) (b : Bool) (m : Nat) (hb : isOrd zs = b) (hm : (if b = true then zs.length else 0) = m) (hz : zs.length ≤ 1048576) (W : World) (v : Value) (n : Nat) (hv : Sees W v n (vals zs)) :
    Calls Try.prog 7 #[v] W fun e w' => LLTo W e w' m b (Outs zs) :=
  (implOuts zs hz W v n hv).mono fun _ _ h => outs_to hb hm h

end Go.Proofs.Ytomheoaophomlab.OutsLC
