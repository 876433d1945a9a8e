/-
  Mathematics of chances and means: a fraction without a common divisor, by Euclid's rests and by the first divisor from above. Conditions: none.
-/
import Derived.Test.YtpkjnlabjmpokaaAllO
namespace Go.Proofs.Ytpkjnlabjmpokaa.ChM
open OrdMath AllO

/-- A fraction without a common divisor. -/
def cutF (a b : Nat) : Nat × Nat := (a / Nat.gcd a b, b / Nat.gcd a b)

def isT {α : Type} (p : α → Bool) (x : α) : Nat := if p x = true then 1 else 0

def sumT {α : Type} (tell : α → Nat) (L : List α) : Nat := (L.map tell).sum

/-- The mean of what is told of the values of a list. -/
def meanL {α : Type} (L : List α) (tell : α → Nat) : Nat × Nat := cutF (sumT tell L) L.length

/-- What is told of n numbers that can be drawn. -/
def chAns (n : Int) (q : Nat → Nat × Nat) : Nat × Nat × Bool := if 1 ≤ n ∧ n ≤ 6 then ((q n.toNat).1, (q n.toNat).2, true) else (0, 0, false)

theorem sumT_take {α : Type} {tell : α → Nat} {L : List α} {k : Nat} {x : α} (hx : L[k]? = some x) : sumT tell (L.take (k + 1)) = sumT tell (L.take k) + tell x := by
  have hk : k < L.length := by
    by_cases h : k < L.length
    · exact h
    · rw [List.getElem?_eq_none (by omega)] at hx; cases hx
  rw [List.getElem?_eq_getElem hk] at hx
  cases hx
  unfold sumT
  rw [List.take_succ_eq_append_getElem hk]
  simp only [List.map_append, List.sum_append, List.map_cons, List.map_nil, List.sum_cons, List.sum_nil, Nat.add_zero]

theorem sumT_all {α : Type} {tell : α → Nat} {L : List α} : sumT tell (L.take L.length) = sumT tell L := by rw [List.take_length]

theorem sumT_le {α : Type} {tell : α → Nat} {L : List α} {b : Nat} (h : ∀ x ∈ L, tell x ≤ b) : sumT tell L ≤ b * L.length := by
  induction L with
  | nil => simp [sumT]
  | cons x l ih =>
    have h1 := h x (by simp)
    have h2 := ih (fun y hy => h y (by simp [hy]))
    unfold sumT at h2 ⊢
    simp only [List.map_cons, List.sum_cons, List.length_cons, Nat.mul_add, Nat.mul_one]
    omega

theorem isT_le {α : Type} (p : α → Bool) (x : α) : isT p x ≤ 1 := by unfold isT; split <;> omega

theorem sumT_isT {α : Type} (p : α → Bool) (L : List α) : sumT (isT p) L = (L.filter p).length := by
  induction L with
  | nil => rfl
  | cons x l ih =>
    unfold sumT at ih ⊢
    rw [List.map_cons, List.sum_cons, ih, List.filter_cons]
    unfold isT
    split <;> simp <;> omega

/-- No divisor of both numbers lies above the first one from above. -/
def Above (a b d : Nat) : Prop := Nat.gcd a b ≤ d ∧ d ≤ b

theorem above_start {a b : Nat} (hb : 1 ≤ b) : Above a b b := ⟨Nat.gcd_le_right a hb, Nat.le_refl _⟩

theorem above_pos {a b d : Nat} (hb : 1 ≤ b) (h : Above a b d) : 1 ≤ d := Nat.le_trans (Nat.gcd_pos_of_pos_right a hb) h.1

theorem above_next {a b d : Nat} (hb : 1 ≤ b) (h : Above a b d) (hr : ¬ (a % d = 0 ∧ b % d = 0)) : 2 ≤ d ∧ Above a b (d - 1) := by
  have hg : Nat.gcd a b ≠ d := by
    intro e
    subst e
    exact hr ⟨Nat.mod_eq_zero_of_dvd (Nat.gcd_dvd_left a b), Nat.mod_eq_zero_of_dvd (Nat.gcd_dvd_right a b)⟩
  have hp : 0 < Nat.gcd a b := Nat.gcd_pos_of_pos_right a hb
  obtain ⟨h1, h2⟩ := h
  exact ⟨by omega, by omega, by omega⟩

theorem above_end {a b d : Nat} (hb : 1 ≤ b) (h : Above a b d) (h1 : a % d = 0) (h2 : b % d = 0) : d = Nat.gcd a b := by
  have hd : d ∣ Nat.gcd a b := Nat.dvd_gcd (Nat.dvd_of_mod_eq_zero h1) (Nat.dvd_of_mod_eq_zero h2)
  exact Nat.le_antisymm (Nat.le_of_dvd (Nat.gcd_pos_of_pos_right a hb) hd) h.1

theorem gcd_step {x y : Nat} : Nat.gcd y (x % y) = Nat.gcd x y := by rw [Nat.gcd_comm x y, Nat.gcd_rec y x, Nat.gcd_comm]

theorem cutF_pos {a b : Nat} (hb : 1 ≤ b) : 1 ≤ (cutF a b).2 := by
  unfold cutF
  exact Nat.div_pos (Nat.gcd_le_right a hb) (Nat.gcd_pos_of_pos_right a hb)

theorem cutF_le (a b : Nat) : (cutF a b).1 ≤ a ∧ (cutF a b).2 ≤ b := ⟨Nat.div_le_self _ _, Nat.div_le_self _ _⟩

end Go.Proofs.Ytpkjnlabjmpokaa.ChM
