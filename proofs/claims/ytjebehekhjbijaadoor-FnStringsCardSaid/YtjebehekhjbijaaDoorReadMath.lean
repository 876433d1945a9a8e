/-
  Decimal numerals read back: their digits, their length, the number that they spell, and what the library's reading gives. Conditions: numbers between -999999 and 999999. Plain mathematics: nothing of the program.
-/
import Derived.Lib.ItoaNum
import Derived.Lib.ItoaMem
import Derived.Lib.AtoiAll
namespace Go.Proofs.YtjebehekhjbijaaDoor.ReadMath

/-- A digit. -/
def isDig (c : UInt8) : Bool := decide (48 ≤ c.toNat ∧ c.toNat ≤ 57)

/-- The number that digits spell, behind a number. -/
def dv (acc : Nat) (l : List UInt8) : Nat := l.foldl (fun a c => 10 * a + (c.toNat - 48)) acc

theorem dv_snoc (acc : Nat) (l : List UInt8) (c : UInt8) : dv acc (l ++ [c]) = 10 * dv acc l + (c.toNat - 48) := by
  unfold dv; rw [List.foldl_append]; rfl

theorem digit_nat (d : Nat) (h : d < 10) : (UInt8.ofNat (48 + d)).toNat = 48 + d := by
  rw [UInt8.toNat_ofNat']; omega

theorem digits_all : ∀ u : Nat, (Lib.decDigits u).all isDig = true := by
  intro u
  induction u using Nat.strongRecOn with
  | _ u ih =>
    by_cases h : u < 10
    · rw [Lib.decDigits_one h]
      have := digit_nat u h
      simp only [List.all_cons, List.all_nil, Bool.and_true, isDig, this]
      simp; omega
    · rw [Lib.decDigits, dif_neg h, List.all_append, ih (u / 10) (by omega)]
      have := digit_nat (u % 10) (by omega)
      simp only [List.all_cons, List.all_nil, Bool.and_true, isDig, this]
      simp; omega

theorem digits_val : ∀ u : Nat, dv 0 (Lib.decDigits u) = u := by
  intro u
  induction u using Nat.strongRecOn with
  | _ u ih =>
    by_cases h : u < 10
    · rw [Lib.decDigits_one h]
      have := digit_nat u h
      show 10 * 0 + ((UInt8.ofNat (48 + u)).toNat - 48) = u
      omega
    · rw [Lib.decDigits, dif_neg h, dv_snoc, ih (u / 10) (by omega), digit_nat (u % 10) (by omega)]
      omega

theorem digits_pos (u : Nat) : 1 ≤ (Lib.decDigits u).length := by
  by_cases h : u < 10
  · rw [Lib.decDigits_one h]; simp
  · rw [Lib.decDigits, dif_neg h]; simp

theorem digits_short : ∀ (k u : Nat), u < 10 ^ (k + 1) → (Lib.decDigits u).length ≤ k + 1 := by
  intro k
  induction k with
  | zero => intro u h; rw [Lib.decDigits_one (by simpa using h)]; simp
  | succ k ih =>
    intro u h
    by_cases h10 : u < 10
    · rw [Lib.decDigits_one h10]; simp
    · rw [Lib.decDigits, dif_neg h10, List.length_append]
      have := ih (u / 10) (by rw [Nat.pow_succ] at h; omega)
      simp; omega

theorem dv_le (l : List UInt8) : ∀ acc, acc ≤ dv acc l := by
  induction l with
  | nil => intro acc; exact Nat.le_refl _
  | cons c l ih => intro acc; have := ih (10 * acc + (c.toNat - 48)); show acc ≤ dv (10 * acc + (c.toNat - 48)) l; omega

theorem dv_lt (l : List UInt8) (h : l.all isDig = true) : dv 0 l < 10 ^ l.length := by
  have gen : ∀ (l : List UInt8) (acc : Nat), l.all isDig = true → dv acc l < (acc + 1) * 10 ^ l.length := by
    intro l
    induction l with
    | nil => intro acc _; show acc < (acc + 1) * 1; omega
    | cons c l ih =>
      intro acc h
      rw [List.all_cons, Bool.and_eq_true] at h
      have hd : 48 ≤ c.toNat ∧ c.toNat ≤ 57 := by simpa [isDig] using h.1
      have h2 := ih (10 * acc + (c.toNat - 48)) h.2
      have h3 : (10 * acc + (c.toNat - 48) + 1) * 10 ^ l.length ≤ (10 * (acc + 1)) * 10 ^ l.length := Nat.mul_le_mul_right _ (by omega)
      show dv (10 * acc + (c.toNat - 48)) l < (acc + 1) * 10 ^ (l.length + 1)
      have h4 : (acc + 1) * 10 ^ (l.length + 1) = (10 * (acc + 1)) * 10 ^ l.length := by
        rw [Nat.pow_succ, Nat.mul_comm (10 ^ l.length) 10, ← Nat.mul_assoc, Nat.mul_comm (acc + 1) 10]
      omega
  have := gen l 0 h
  simpa using this

theorem parse_of (l : List UInt8) : ∀ acc, l.all isDig = true → dv acc l ≤ 999999 → Lib.parseUint10 acc l = .ok (dv acc l) := by
  induction l with
  | nil => intro acc _ _; rfl
  | cons c l ih =>
    intro acc h hb
    rw [List.all_cons, Bool.and_eq_true] at h
    have hd : 48 ≤ c.toNat ∧ c.toNat ≤ 57 := by simpa [isDig] using h.1
    have e : acc * 10 + (c.toNat - 48) = 10 * acc + (c.toNat - 48) := by omega
    have hb' : dv (10 * acc + (c.toNat - 48)) l ≤ 999999 := hb
    have h1 := dv_le l (10 * acc + (c.toNat - 48))
    unfold Lib.parseUint10
    rw [if_pos hd, if_neg (by omega), if_neg (by omega), e]
    exact ih _ h.2 hb'

/-- A numeral without its sign. -/
def tl : List UInt8 → List UInt8
  | c :: d :: r => if c.toNat = 45 then d :: r else c :: d :: r
  | l => l

theorem head_dig {u : Nat} {c : UInt8} {r : List UInt8} (h : Lib.decDigits u = c :: r) : 48 ≤ c.toNat ∧ c.toNat ≤ 57 := by
  have := digits_all u
  rw [h, List.all_cons, Bool.and_eq_true] at this
  simpa [isDig] using this.1

theorem tl_neg (m : Nat) : tl (45 :: Lib.decDigits m) = Lib.decDigits m := by
  have := digits_pos m
  cases h : Lib.decDigits m with
  | nil => rw [h] at this; simp at this
  | cons c r => simp [tl]

theorem tl_pos (u : Nat) : tl (Lib.decDigits u) = Lib.decDigits u := by
  cases h : Lib.decDigits u with
  | nil => rfl
  | cons c r =>
    have hd := head_dig h
    cases r with
    | nil => rfl
    | cons d r =>
      show (if c.toNat = 45 then d :: r else c :: d :: r) = _
      exact if_neg (by omega)

theorem itoa_atoi (n : Int) (h0 : -999999 ≤ n) (h1 : n ≤ 999999) : Lib.atoiAll (Lib.itoa n) = .ok n := by
  have base : ∀ u : Nat, u ≤ 999999 → Lib.parseMag (Lib.decDigits u) = .ok u := by
    intro u hu
    unfold Lib.parseMag
    have hp := digits_pos u
    rw [if_neg (by intro e; rw [e] at hp; simp at hp), parse_of _ 0 (digits_all u) (by rw [digits_val]; exact hu), digits_val]
  by_cases h : n < 0
  · have e : Lib.itoa n = 45 :: Lib.decDigits n.natAbs := by unfold Lib.itoa; rw [if_pos h]
    rw [e]
    unfold Lib.atoiAll
    have hb := base n.natAbs (by omega)
    have h45 : (45 : UInt8).toNat = 45 := rfl
    simp only [h45, or_true, if_true, hb, not_true, false_and, if_false, true_and]
    rw [if_neg (by omega)]
    congr 1
    omega
  · have e : Lib.itoa n = Lib.decDigits n.toNat := by unfold Lib.itoa; rw [if_neg h]
    rw [e]
    have hb := base n.toNat (by omega)
    cases hc : Lib.decDigits n.toNat with
    | nil => have := digits_pos n.toNat; rw [hc] at this; simp at this
    | cons c r =>
      have hd := head_dig hc
      rw [hc] at hb
      unfold Lib.atoiAll
      have n1 : ¬ c.toNat = 43 := by omega
      have n2 : ¬ c.toNat = 45 := by omega
      simp only [n1, n2, or_self, if_false, hb, false_and, not_false_iff, true_and]
      rw [if_neg (by omega)]
      congr 1
      omega

/-- What ParseInt answers. -/
def readAns (l : List UInt8) : Int × Bool :=
  match Lib.atoiAll l with
  | .ok v => if -999999 ≤ v ∧ v ≤ 999999 ∧ Lib.itoa v = l then (v, true) else (0, false)
  | _ => (0, false)

theorem readAns_yes {n : Int} {l : List UInt8} (h0 : -999999 ≤ n) (h1 : n ≤ 999999) (h : Lib.itoa n = l) : readAns l = (n, true) := by
  unfold readAns
  rw [← h, itoa_atoi n h0 h1]
  simp [h0, h1]

theorem readAns_no {l : List UInt8} (h : ∀ n : Int, -999999 ≤ n → n ≤ 999999 → Lib.itoa n ≠ l) : readAns l = (0, false) := by
  unfold readAns
  split
  · rename_i v hv
    rw [if_neg]
    rintro ⟨a, b, c⟩
    exact h v a b c
  · rfl

/-- What a numeral looks like. -/
theorem itoa_shape (n : Int) (h0 : -999999 ≤ n) (h1 : n ≤ 999999) :
    1 ≤ (tl (Lib.itoa n)).length ∧ (tl (Lib.itoa n)).length ≤ 6 ∧ (tl (Lib.itoa n)).all isDig = true ∧
    n = (if (tl (Lib.itoa n)).length < (Lib.itoa n).length then -((dv 0 (tl (Lib.itoa n)) : Nat) : Int) else ((dv 0 (tl (Lib.itoa n)) : Nat) : Int)) := by
  by_cases h : n < 0
  · have e : Lib.itoa n = 45 :: Lib.decDigits n.natAbs := by unfold Lib.itoa; rw [if_pos h]
    rw [e, tl_neg]
    refine ⟨digits_pos _, digits_short 5 _ (by omega), digits_all _, ?_⟩
    rw [if_pos (by simp), digits_val]; omega
  · have e : Lib.itoa n = Lib.decDigits n.toNat := by unfold Lib.itoa; rw [if_neg h]
    rw [e, tl_pos]
    refine ⟨digits_pos _, digits_short 5 _ (by omega), digits_all _, ?_⟩
    rw [if_neg (by omega), digits_val]; omega

/-- The number that a text spells, by its sign. -/
def spelt (l : List UInt8) : Int := if (tl l).length < l.length then -((dv 0 (tl l) : Nat) : Int) else ((dv 0 (tl l) : Nat) : Int)

theorem readAns_bad {l : List UInt8} (h : ¬ (1 ≤ (tl l).length ∧ (tl l).length ≤ 6 ∧ (tl l).all isDig = true)) : readAns l = (0, false) :=
  readAns_no fun n h0 h1 e => by
    obtain ⟨a, b, c, _⟩ := itoa_shape n h0 h1
    rw [e] at a b c
    exact h ⟨a, b, c⟩

theorem readAns_good {l : List UInt8} (h : 1 ≤ (tl l).length ∧ (tl l).length ≤ 6 ∧ (tl l).all isDig = true) : readAns l = if Lib.itoa (spelt l) = l then (spelt l, true) else (0, false) := by
  by_cases e : Lib.itoa (spelt l) = l
  · rw [if_pos e]
    have hb := dv_lt (tl l) h.2.2
    have hp : (10 : Nat) ^ (tl l).length ≤ 10 ^ 6 := Nat.pow_le_pow_right (by decide) h.2.1
    refine readAns_yes ?_ ?_ e
    · unfold spelt; split <;> omega
    · unfold spelt; split <;> omega
  · rw [if_neg e]
    refine readAns_no fun n h0 h1 en => ?_
    obtain ⟨_, _, _, d⟩ := itoa_shape n h0 h1
    rw [en] at d
    exact e (by rw [show spelt l = n from d.symm]; exact en)

end Go.Proofs.YtjebehekhjbijaaDoor.ReadMath
