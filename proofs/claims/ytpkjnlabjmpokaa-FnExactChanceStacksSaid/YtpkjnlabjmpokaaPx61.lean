/-
  Contract: the program's FirstAvoiding. Conditions: at most 2^20 numbers together.
-/
import Derived.Test.YtpkjnlabjmpokaaPx56

namespace Go.Proofs.Ytpkjnlabjmpokaa.FirstAvC
set_option linter.unusedVariables false
open Go.RowKit Go.Shelf SeesC IntsC ExactC OrdMath PatMath LLC AvoidC AvMath RangeC OrdersIterC CountAvC

attribute [local go_sem] Oper.semAt_some

theorem boxed_turn {B : Nat} {t : TypeId} {v : Value} {X Y : World} {row : Option Nat} (h : Boxed X B t v) (hg : X.grownBy Y row) (hr : ∀ r, row = some r → ∃ o : Obj, X.heap[r]? = some o ∧ o.isCells = false) : Boxed Y B t v :=
  boxed_own B t (fun _ : Unit => v) () X Y row h hg hr

theorem box_ne {X : World} {B base n g cap : Nat} {t ty : TypeId} {v : Value} {xs : List Value} (hb : Boxed X B t v) (h : X.ownsRow base ty 1 (.slice (some ⟨g, 0, none⟩) n cap) n xs) (ht : t ≠ ty) : g ≠ B := by
  rintro rfl
  rcases h.2 with ⟨h0, _⟩ | ⟨g', cap', cur, h0, _, hg, _⟩
  · cases h0
  · cases h0
    unfold Boxed at hb
    rw [hb] at hg
    cases hg
    exact ht rfl

theorem own_set {X : World} {B base n g cap : Nat} {ty : TypeId} {xs : List Value} (h : X.ownsRow base ty 1 (.slice (some ⟨g, 0, none⟩) n cap) n xs) (hne : g ≠ B) (u : Value) : (X.setCell ⟨B, 0, none⟩ u).ownsRow base ty 1 (.slice (some ⟨g, 0, none⟩) n cap) n xs :=
  own_mark h (grownBy_setCell' X B u) (fun a ha e => by
    have h1 : g = a := Option.some.inj ha
    have h2 : B = a := Option.some.inj e
    exact hne (h1.trans h2.symm))

/-- The rest of the orders behind those that have come. -/
theorem avOrd_from {m k : Nat} {L : List (List Int)} {so : List El} {zs : List Int} (h1 : so.map (·.1) = (allOrd m).take (k + 1)) (h2 : (so.map (·.1)).filter (fun y => avoids y L) = [zs]) : ∃ t, avOrd m L = zs :: t := by
  refine ⟨((allOrd m).drop (k + 1)).filter (fun y => avoids y L), ?_⟩
  unfold avOrd
  conv => lhs; rw [← List.take_append_drop (k + 1) (allOrd m)]
  rw [List.filter_append, ← h1, h2]
  rfl

theorem firstAv_some {m : Nat} {L : List (List Int)} {zs : List Int} (hm1 : 1 ≤ m) (hm7 : m ≤ 7) (hp : pats L = true) {t : List (List Int)} (h : avOrd m L = zs :: t) {xs : List Int} {b : Bool} (ha : firstAvAns (m : Int) L = (xs, b)) : xs = zs ∧ b = true := by
  unfold firstAvAns at ha
  rw [Int.toNat_natCast, h, if_pos ⟨by omega, by omega, hp, by simp⟩] at ha
  cases ha
  exact ⟨rfl, rfl⟩

theorem firstAv_none {m : Nat} {L : List (List Int)} (h : avOrd m L = []) {xs : List Int} {b : Bool} (ha : firstAvAns (m : Int) L = (xs, b)) : xs = [] ∧ b = false := by
  unfold firstAvAns at ha
  rw [Int.toNat_natCast, if_neg (fun hc => hc.2.2.2 h)] at ha
  cases ha
  exact ⟨rfl, rfl⟩

end Go.Proofs.Ytpkjnlabjmpokaa.FirstAvC
