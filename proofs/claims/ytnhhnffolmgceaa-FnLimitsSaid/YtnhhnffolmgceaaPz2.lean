/-
  Contracts and plain facts that the laws' texts lean on. Conditions: as each states.
-/
import Derived.Lib.Hide

section
namespace Go.Proofs.Ytnhhnffolmgceaa.OrdMath

/-- A list is an order. -/
def Ord (zs : List Int) : Prop := 1 ≤ zs.length ∧ zs.length ≤ 7 ∧ (∀ z ∈ zs, 1 ≤ z ∧ z ≤ (zs.length : Int)) ∧ zs.Nodup

instance (zs : List Int) : Decidable (Ord zs) := by unfold Ord; infer_instance

def isOrd (zs : List Int) : Bool := decide (Ord zs)

theorem isOrd_len {zs : List Int} (h : zs.length < 1 ∨ 7 < zs.length) : isOrd zs = false := by
  unfold isOrd; rw [decide_eq_false_iff_not]; rintro ⟨h1, h2, _⟩; omega

theorem isOrd_range {zs : List Int} {k : Nat} (hk : k < zs.length) (h : ¬ (1 ≤ zs[k] ∧ zs[k] ≤ (zs.length : Int))) : isOrd zs = false := by
  unfold isOrd; rw [decide_eq_false_iff_not]; rintro ⟨_, _, h3, _⟩; exact h (h3 _ (List.getElem_mem hk))

theorem isOrd_dup {zs : List Int} {k : Nat} (hk : k < zs.length) (h : zs[k] ∈ zs.take k) : isOrd zs = false := by
  unfold isOrd; rw [decide_eq_false_iff_not]; rintro ⟨_, _, _, h4⟩
  rw [List.mem_iff_getElem] at h
  obtain ⟨j, hj, e⟩ := h
  rw [List.length_take] at hj
  rw [List.getElem_take] at e
  have := (List.getElem_inj h4).1 e
  omega

theorem nodup_next {zs : List Int} {k : Nat} (hk : k < zs.length) (h : (zs.take k).Nodup) (hn : zs[k] ∉ zs.take k) : (zs.take (k + 1)).Nodup := by
  rw [List.take_succ_eq_append_getElem hk, List.nodup_append]
  refine ⟨h, by simp, ?_⟩
  intro a ha b hb e
  simp at hb
  subst hb
  subst e
  exact hn ha

theorem isOrd_yes {zs : List Int} (h1 : 1 ≤ zs.length) (h2 : zs.length ≤ 7) (h3 : ∀ z ∈ zs, 1 ≤ z ∧ z ≤ (zs.length : Int)) (h4 : zs.Nodup) : isOrd zs = true := by
  unfold isOrd; rw [decide_eq_true_iff]; exact ⟨h1, h2, h3, h4⟩

theorem Ord.at {zs : List Int} (h : Ord zs) {k : Nat} (hk : k < zs.length) : ∃ m : Nat, zs[k] = (m : Int) + 1 ∧ m < zs.length := by
  have := h.2.2.1 zs[k] (List.getElem_mem hk)
  exact ⟨(zs[k] - 1).toNat, by omega, by omega⟩

theorem Ord.getD {zs : List Int} (h : Ord zs) {k : Nat} (hk : k < zs.length) : ∃ m : Nat, zs.getD k 0 = (m : Int) + 1 ∧ m < zs.length := by
  obtain ⟨m, h1, h2⟩ := h.at hk
  exact ⟨m, by rw [← h1]; simp [hk], h2⟩

/-- How many of a list are less than a number. -/
def cl (x : Int) (l : List Int) : Nat := l.countP (fun z => decide (z < x))

theorem cl_nil (x : Int) : cl x [] = 0 := rfl

theorem cl_next {x : Int} {l : List Int} {j : Nat} (hj : j < l.length) : cl x (l.take (j + 1)) = cl x (l.take j) + (if l[j] < x then 1 else 0) := by
  unfold cl
  rw [List.take_succ_eq_append_getElem hj, List.countP_append, List.countP_singleton]
  simp

theorem cl_le (x : Int) (l : List Int) : cl x l ≤ l.length := List.countP_le_length

def fact : Nat → Nat
  | 0 => 1
  | n + 1 => (n + 1) * fact n

theorem fact_step (n : Nat) : fact n ≤ fact (n + 1) := by
  show fact n ≤ (n + 1) * fact n
  exact Nat.le_mul_of_pos_left _ (Nat.succ_pos _)

theorem fact_pos (n : Nat) : 1 ≤ fact n := by
  induction n with
  | zero => exact Nat.le_refl _
  | succ n ih => exact Nat.le_trans ih (fact_step n)

theorem fact_mono {a b : Nat} (h : a ≤ b) : fact a ≤ fact b := by
  induction h with
  | refl => exact Nat.le_refl _
  | step _ ih => exact Nat.le_trans ih (fact_step _)

theorem fact_7 {a : Nat} (h : a ≤ 7) : fact a ≤ 5040 := fact_mono h
theorem fact_6 {a : Nat} (h : a ≤ 6) : fact a ≤ 720 := fact_mono h

/-- How many numbers behind a place are less than the one at it. -/
def lessAt (zs : List Int) (i : Nat) : Nat := cl (zs.getD i 0) (zs.drop (i + 1))

theorem lessAt_le (zs : List Int) (i : Nat) : lessAt zs i ≤ zs.length - (i + 1) := by
  have := cl_le (zs.getD i 0) (zs.drop (i + 1)); rw [List.length_drop] at this; exact this

/-- The rank as a sum. -/
def rankS (zs : List Int) : Nat → Nat
  | 0 => 0
  | k + 1 => rankS zs k + lessAt zs k * fact (zs.length - 1 - k)

/-- The rank, digit by digit. -/
def rankH (zs : List Int) : Nat → Nat
  | 0 => 0
  | k + 1 => rankH zs k * (zs.length - k) + lessAt zs k

theorem rank_eq (zs : List Int) : ∀ k, k ≤ zs.length → rankH zs k * fact (zs.length - k) = rankS zs k := by
  intro k
  induction k with
  | zero => intro _; simp [rankH, rankS]
  | succ k ih =>
    intro hk
    have h1 := ih (by omega)
    have e : zs.length - k = (zs.length - (k + 1)) + 1 := by omega
    have e2 : zs.length - 1 - k = zs.length - (k + 1) := by omega
    have ef : fact (zs.length - k) = (zs.length - k) * fact (zs.length - (k + 1)) := by rw [e]; rfl
    unfold rankH rankS
    rw [← h1, e2, ef, Nat.add_mul, Nat.mul_assoc]

theorem rankS_le (zs : List Int) (h7 : zs.length ≤ 7) : ∀ k, k ≤ zs.length → rankS zs k ≤ 4320 * k := by
  intro k
  induction k with
  | zero => intro _; simp [rankS]
  | succ k ih =>
    intro hk
    have h1 := ih (by omega)
    have h2 := lessAt_le zs k
    have h3 := fact_6 (a := zs.length - 1 - k) (by omega)
    have h4 : lessAt zs k * fact (zs.length - 1 - k) ≤ 6 * 720 := Nat.mul_le_mul (by omega) h3
    unfold rankS
    omega

theorem rankH_le (zs : List Int) (h7 : zs.length ≤ 7) (k : Nat) (hk : k ≤ zs.length) : rankH zs k ≤ 30240 := by
  have h1 := rank_eq zs k hk
  have h2 := rankS_le zs h7 k hk
  have h3 : rankH zs k ≤ rankH zs k * fact (zs.length - k) := Nat.le_mul_of_pos_right _ (fact_pos _)
  omega

theorem rank_end (zs : List Int) : rankH zs zs.length = rankS zs zs.length := by
  have := rank_eq zs zs.length (Nat.le_refl _)
  simpa [fact] using this

/-- How many pairs have the greater number first, over the first places. -/
def invTo (zs : List Int) : Nat → Nat
  | 0 => 0
  | k + 1 => invTo zs k + lessAt zs k

theorem invTo_le (zs : List Int) (h7 : zs.length ≤ 7) : ∀ k, k ≤ zs.length → invTo zs k ≤ 7 * k := by
  intro k
  induction k with
  | zero => intro _; simp [invTo]
  | succ k ih => intro hk; have h1 := ih (by omega); have h2 := lessAt_le zs k; unfold invTo; omega

/-- The sorted order. -/
def iota (n : Nat) : List Int := (List.range n).map fun (i : Nat) => (i : Int) + 1

theorem iota_len (n : Nat) : (iota n).length = n := by simp [iota]

theorem iota_at (n k : Nat) (h : k < n) : (iota n)[k]'(by rw [iota_len]; exact h) = (k : Int) + 1 := by simp [iota]

theorem iota_next (n : Nat) : iota (n + 1) = iota n ++ [(n : Int) + 1] := by unfold iota; rw [List.range_succ, List.map_append]; rfl

/-- The order with a rank, out of the numbers that are left. -/
def atRun : Nat → List Int → Nat → List Int
  | 0, _, _ => []
  | m + 1, left, k => left.getD (k / fact m) 0 :: atRun m (left.eraseIdx (k / fact m)) (k % fact m)

theorem atRun_len : ∀ (m : Nat) (left : List Int) (k : Nat), (atRun m left k).length = m
  | 0, _, _ => rfl
  | m + 1, left, k => by unfold atRun; simp [atRun_len m]

/-! ### The answers -/
def backAns (zs : List Int) : List Int × Bool := if Ord zs then (zs.reverse, true) else ([], false)
def otherAns (zs : List Int) : List Int × Bool := if Ord zs then (zs.map (fun z => (zs.length : Int) + 1 - z), true) else ([], false)
/-- The inverse, place by place. -/
def invOf (zs : List Int) : Nat → List Int
  | 0 => List.replicate zs.length 0
  | k + 1 => (invOf zs k).set (zs.getD k 0 - 1).toNat ((k : Int) + 1)
theorem invOf_len (zs : List Int) : ∀ k, (invOf zs k).length = zs.length
  | 0 => by simp [invOf]
  | k + 1 => by simp [invOf, invOf_len zs k]
def inverseAns (zs : List Int) : List Int × Bool := if Ord zs then (invOf zs zs.length, true) else ([], false)
def composeAns (xs ys : List Int) : List Int × Bool := if Ord xs ∧ Ord ys ∧ xs.length = ys.length then (ys.map (fun y => xs.getD (y - 1).toNat 0), true) else ([], false)
def rankAns (zs : List Int) : Int × Bool := if Ord zs then ((rankS zs zs.length : Nat), true) else (0, false)
def invsAns (zs : List Int) : Int × Bool := if Ord zs then ((invTo zs zs.length : Nat), true) else (0, false)
def atAns (n k : Int) : List Int × Bool := if 1 ≤ n ∧ n ≤ 7 ∧ 0 ≤ k ∧ k < (fact n.toNat : Int) then (atRun n.toNat (iota n.toNat) k.toNat, true) else ([], false)

theorem back_len {zs xs : List Int} {b : Bool} (h : backAns zs = (xs, b)) : xs.length ≤ 1048576 := by
  unfold backAns at h; split at h
  · rename_i ho; cases h; have := ho.2.1; simp; omega
  · cases h; simp
theorem other_len {zs xs : List Int} {b : Bool} (h : otherAns zs = (xs, b)) : xs.length ≤ 1048576 := by
  unfold otherAns at h; split at h
  · rename_i ho; cases h; have := ho.2.1; simp; omega
  · cases h; simp
theorem inverse_len {zs xs : List Int} {b : Bool} (h : inverseAns zs = (xs, b)) : xs.length ≤ 1048576 := by
  unfold inverseAns at h; split at h
  · rename_i ho; cases h; have := ho.2.1; rw [invOf_len]; omega
  · cases h; simp
theorem compose_len {xs ys zs : List Int} {b : Bool} (h : composeAns xs ys = (zs, b)) : zs.length ≤ 1048576 := by
  unfold composeAns at h; split at h
  · rename_i ho; cases h; have := ho.2.1.2.1; simp; omega
  · cases h; simp
theorem at_len {n k : Int} {zs : List Int} {b : Bool} (h : atAns n k = (zs, b)) : zs.length ≤ 1048576 := by
  unfold atAns at h; split at h
  · rename_i ho; cases h; rw [atRun_len]; omega
  · cases h; simp

end Go.Proofs.Ytnhhnffolmgceaa.OrdMath

end

section
namespace Go.Proofs.Ytnhhnffolmgceaa.WordMath

/-- The byte at a place. -/
def byt (w : ByteArray) (k : Nat) : UInt8 := w.data.toList.getD k 0

theorem byt_at (w : ByteArray) (k : Nat) (h : k < w.size) : byt w k = w[k] := by
  have h2 : k < w.data.toList.length := by rw [Array.length_toList]; exact h
  unfold byt
  rw [List.getD_eq_getElem?_getD, List.getElem?_eq_getElem h2]
  simp
  rfl

/-- One sign. -/
def stepOf (c : UInt8) (d : Nat) : Option Nat := if c = 73 then some (d + 1) else if c = 79 ∧ 0 < d then some (d - 1) else none

/-- How many numbers are on the stack behind the first signs. -/
def heldTo (w : ByteArray) : Nat → Option Nat
  | 0 => some 0
  | k + 1 => (heldTo w k).bind (stepOf (byt w k))

theorem held_I {w : ByteArray} {k d : Nat} (h : heldTo w k = some d) (hc : byt w k = 73) : heldTo w (k + 1) = some (d + 1) := by
  simp [heldTo, h, stepOf, hc]

theorem held_O {w : ByteArray} {k d : Nat} (h : heldTo w k = some d) (hc : byt w k = 79) (hd : 0 < d) : heldTo w (k + 1) = some (d - 1) := by
  simp [heldTo, h, stepOf, hc, hd]

theorem held_bad {w : ByteArray} {k d : Nat} (h : heldTo w k = some d) (h1 : byt w k ≠ 73) (h2 : ¬ (byt w k = 79 ∧ 0 < d)) : heldTo w (k + 1) = none := by
  simp [heldTo, h, stepOf, h1, h2]

theorem held_none {w : ByteArray} {k : Nat} (h : heldTo w k = none) : ∀ m, heldTo w (k + m) = none
  | 0 => h
  | m + 1 => by show (heldTo w (k + m)).bind _ = none; rw [held_none h m]; rfl

theorem held_cases {w : ByteArray} {k e : Nat} (h : heldTo w (k + 1) = some e) : ∃ d, heldTo w k = some d ∧ ((byt w k = 73 ∧ e = d + 1) ∨ (byt w k = 79 ∧ 0 < d ∧ e = d - 1)) := by
  cases hk : heldTo w k with
  | none => simp [heldTo, hk] at h
  | some d =>
    refine ⟨d, rfl, ?_⟩
    by_cases h1 : byt w k = 73
    · rw [held_I hk h1] at h; cases h; exact .inl ⟨h1, rfl⟩
    · by_cases h2 : byt w k = 79 ∧ 0 < d
      · rw [held_O hk h2.1 h2.2] at h; cases h; exact .inr ⟨h2.1, h2.2, rfl⟩
      · rw [held_bad hk h1 h2] at h; cases h

theorem held_back {w : ByteArray} : ∀ (m k e : Nat), heldTo w (k + m) = some e → ∃ d, heldTo w k = some d ∧ d ≤ e + m ∧ e ≤ d + m
  | 0, k, e, h => ⟨e, h, by omega, by omega⟩
  | m + 1, k, e, h => by
    obtain ⟨d, hd, hc⟩ := held_cases (k := k + m) h
    obtain ⟨c, h1, h2, h3⟩ := held_back m k d hd
    exact ⟨c, h1, by rcases hc with ⟨_, rfl⟩ | ⟨_, _, rfl⟩ <;> omega, by rcases hc with ⟨_, rfl⟩ | ⟨_, _, rfl⟩ <;> omega⟩

theorem held_parity {w : ByteArray} : ∀ (k d : Nat), heldTo w k = some d → d % 2 = k % 2 ∧ d ≤ k
  | 0, d, h => by cases h; exact ⟨rfl, Nat.le_refl _⟩
  | k + 1, e, h => by
    obtain ⟨d, hd, hc⟩ := held_cases h
    have := held_parity k d hd
    rcases hc with ⟨_, rfl⟩ | ⟨_, _, rfl⟩ <;> omega

/-- A text is a word. -/
def Word (w : ByteArray) : Prop := 2 ≤ w.size ∧ w.size ≤ 14 ∧ heldTo w w.size = some 0

instance (w : ByteArray) : Decidable (Word w) := by unfold Word; infer_instance

def isWord (w : ByteArray) : Bool := decide (Word w)

theorem word_even {w : ByteArray} (h : Word w) : w.size = 2 * (w.size / 2) := by
  have := (held_parity _ _ h.2.2).1; omega

theorem word_bad {w : ByteArray} {k : Nat} (hk : k ≤ w.size) (h : heldTo w k = none) : isWord w = false := by
  unfold isWord; rw [decide_eq_false_iff_not]; rintro ⟨_, _, h3⟩
  obtain ⟨m, hm⟩ : ∃ m, w.size = k + m := ⟨w.size - k, by omega⟩
  rw [hm, held_none h m] at h3
  cases h3

theorem word_ends {w : ByteArray} {d : Nat} (h : heldTo w w.size = some d) (hd : d ≠ 0) : isWord w = false := by
  unfold isWord; rw [decide_eq_false_iff_not]; rintro ⟨_, _, h3⟩; rw [h] at h3; cases h3; exact hd rfl

theorem word_size {w : ByteArray} (h : w.size = 0 ∨ 14 < w.size) : isWord w = false := by
  unfold isWord; rw [decide_eq_false_iff_not]; rintro ⟨h1, h2, _⟩; omega

theorem word_yes {w : ByteArray} (h : heldTo w w.size = some 0) (h0 : w.size ≠ 0) (h14 : w.size ≤ 14) : isWord w = true := by
  unfold isWord; rw [decide_eq_true_iff]
  have := (held_parity _ _ h).1
  exact ⟨by omega, h14, h⟩

/-- In a word each sign is a push or a pop of what is there. -/
theorem Word.at {w : ByteArray} (h : Word w) {k : Nat} (hk : k < w.size) : ∃ d, heldTo w k = some d ∧ d ≤ w.size - k ∧ d ≤ k ∧ ((byt w k = 73 ∧ heldTo w (k + 1) = some (d + 1) ∧ d + 1 ≤ w.size - (k + 1)) ∨ (byt w k = 79 ∧ 0 < d ∧ heldTo w (k + 1) = some (d - 1))) := by
  obtain ⟨m, hm⟩ : ∃ m, w.size = (k + 1) + m := ⟨w.size - (k + 1), by omega⟩
  have h3 := h.2.2
  rw [hm] at h3
  obtain ⟨e, he, h1, h2⟩ := held_back m (k + 1) 0 h3
  obtain ⟨d, hd, hc⟩ := held_cases he
  have hp := held_parity _ _ hd
  refine ⟨d, hd, by rcases hc with ⟨_, rfl⟩ | ⟨_, _, rfl⟩ <;> omega, hp.2, ?_⟩
  rcases hc with ⟨h4, rfl⟩ | ⟨h4, h5, rfl⟩
  · exact .inl ⟨h4, he, by omega⟩
  · exact .inr ⟨h4, h5, he⟩

/-- The depth of the first signs. -/
def depthTo (w : ByteArray) : Nat → Nat
  | 0 => 0
  | k + 1 => max (depthTo w k) ((heldTo w (k + 1)).getD 0)

theorem depth_next {w : ByteArray} {k e : Nat} (h : heldTo w (k + 1) = some e) : depthTo w (k + 1) = max (depthTo w k) e := by simp [depthTo, h]

theorem depth_le {w : ByteArray} : ∀ k, depthTo w k ≤ k
  | 0 => Nat.le_refl _
  | k + 1 => by
    have := depth_le (w := w) k
    cases hk : heldTo w (k + 1) with
    | none => simp [depthTo, hk]; omega
    | some e => rw [depth_next hk]; have := (held_parity _ _ hk).2; omega

def depthAns (w : ByteArray) : Int × Bool := if Word w then ((depthTo w w.size : Nat), true) else (0, false)

/-- The other sign. -/
def mir (c : UInt8) : UInt8 := if c = 73 then 79 else 73

def mirList (w : ByteArray) : List UInt8 := w.data.toList.reverse.map mir

theorem mirList_len (w : ByteArray) : (mirList w).length = w.size := by unfold mirList; rw [List.length_map, List.length_reverse, Array.length_toList]; rfl

theorem mirList_at (w : ByteArray) (k : Nat) (h : k < w.size) : (mirList w)[w.size - 1 - k]'(by rw [mirList_len]; omega) = mir (byt w k) := by
  have h2 : k < w.data.toList.length := by rw [Array.length_toList]; exact h
  have hl : w.data.toList.length = w.size := by rw [Array.length_toList]; rfl
  unfold mirList byt
  rw [List.getElem_map, List.getElem_reverse, List.getD_eq_getElem?_getD, List.getElem?_eq_getElem h2, Option.getD_some]
  congr 2
  omega

/-- What has come out, what is on the stack, and how many have been pushed, behind the first signs. -/
def runTo (zs : List Int) (w : ByteArray) : Nat → List Int × List Int × Nat
  | 0 => ([], [], 0)
  | k + 1 => let r := runTo zs w k
    if byt w k = 73 then (r.1, r.2.1 ++ [zs.getD r.2.2 0], r.2.2 + 1) else (r.1 ++ [r.2.1.getLast?.getD 0], r.2.1.dropLast, r.2.2)

theorem run_I {zs o s : List Int} {x : Nat} {w : ByteArray} {k : Nat} (h : runTo zs w k = (o, s, x)) (hc : byt w k = 73) : runTo zs w (k + 1) = (o, s ++ [zs.getD x 0], x + 1) := by
  simp [runTo, h, hc]

theorem run_O {zs o s : List Int} {x : Nat} {w : ByteArray} {k : Nat} (h : runTo zs w k = (o, s, x)) (hc : byt w k = 79) : runTo zs w (k + 1) = (o ++ [s.getLast?.getD 0], s.dropLast, x) := by
  simp [runTo, h, hc]

theorem run_len {zs : List Int} {w : ByteArray} : ∀ (k d : Nat), heldTo w k = some d → (runTo zs w k).2.1.length = d ∧ (runTo zs w k).1.length + d = (runTo zs w k).2.2 ∧ (runTo zs w k).1.length + (runTo zs w k).2.2 = k
  | 0, d, h => by cases h; exact ⟨rfl, rfl, rfl⟩
  | k + 1, e, h => by
    obtain ⟨d, hd, hc⟩ := held_cases h
    have ih := run_len (zs := zs) k d hd
    obtain ⟨o, s, x, hr⟩ : ∃ o s x, runTo zs w k = (o, s, x) := ⟨_, _, _, rfl⟩
    rw [hr] at ih
    simp only at ih
    rcases hc with ⟨h1, rfl⟩ | ⟨h1, h2, rfl⟩
    · rw [run_I hr h1]; simp; omega
    · rw [run_O hr h1]; simp; omega

def runOut (zs : List Int) (w : ByteArray) : List Int := (runTo zs w w.size).1

end Go.Proofs.Ytnhhnffolmgceaa.WordMath

end

section
namespace Go.Proofs.Ytnhhnffolmgceaa.OrdFacts
open OrdMath

theorem perm_of_sub : ∀ (l m : List Int), l.Nodup → (∀ x ∈ l, x ∈ m) → m.length ≤ l.length → l.Perm m
  | [], m, _, _, h => by
    have : m = [] := List.eq_nil_of_length_eq_zero (by simpa using h)
    subst this
    exact List.Perm.refl _
  | a :: l, m, hn, hs, h => by
    have ha : a ∈ m := hs a (by simp)
    have hp := List.perm_cons_erase ha
    have hn2 := List.nodup_cons.1 hn
    have ih := perm_of_sub l (m.erase a) hn2.2 (fun x hx => (List.mem_erase_of_ne (fun e => hn2.1 (by rw [← e]; exact hx))).2 (hs x (by simp [hx]))) (by rw [List.length_erase_of_mem ha]; simp at h; omega)
    exact (ih.cons a).trans hp.symm

theorem mem_iota {n : Nat} {x : Int} : x ∈ iota n ↔ 1 ≤ x ∧ x ≤ (n : Int) := by
  unfold iota
  rw [List.mem_map]
  constructor
  · rintro ⟨i, hi, rfl⟩; rw [List.mem_range] at hi; omega
  · rintro ⟨h1, h2⟩; exact ⟨(x - 1).toNat, by rw [List.mem_range]; omega, by omega⟩

theorem ord_perm {zs : List Int} (h : Ord zs) : zs.Perm (iota zs.length) :=
  perm_of_sub _ _ h.2.2.2 (fun x hx => mem_iota.2 (h.2.2.1 x hx)) (by rw [iota_len]; exact Nat.le_refl _)

theorem iota_sorted (n : Nat) : (iota n).Pairwise (· < ·) := by
  unfold iota
  rw [List.pairwise_map]
  exact (List.pairwise_lt_range (n := n)).imp (fun h => by omega)

theorem ord_of_perm {zs : List Int} {n : Nat} (h : zs.Perm (iota n)) (h1 : 1 ≤ n) (h7 : n ≤ 7) : Ord zs := by
  have hl : zs.length = n := by rw [h.length_eq, iota_len]
  refine ⟨by omega, by omega, fun z hz => by rw [hl]; exact mem_iota.1 (h.mem_iff.1 hz), ?_⟩
  rw [h.nodup_iff]
  exact (iota_sorted n).imp (fun h => by omega)

/-! ### Ranks -/
def rankR : List Int → Nat
  | [] => 0
  | z :: t => cl z t * fact t.length + rankR t

theorem rankS_R (zs : List Int) : ∀ k, k ≤ zs.length → rankS zs k + rankR (zs.drop k) = rankR zs := by
  intro k
  induction k with
  | zero => intro _; simp [rankS]
  | succ k ih =>
    intro hk
    rw [← ih (by omega), List.drop_eq_getElem_cons (show k < zs.length by omega)]
    have e1 : zs.length - 1 - k = zs.length - (k + 1) := by omega
    have e2 : lessAt zs k = cl zs[k] (zs.drop (k + 1)) := by unfold lessAt; congr 1; simp [show k < zs.length by omega]
    show rankS zs k + lessAt zs k * fact (zs.length - 1 - k) + rankR (zs.drop (k + 1)) = rankS zs k + (cl zs[k] (zs.drop (k + 1)) * fact (zs.drop (k + 1)).length + rankR (zs.drop (k + 1)))
    rw [e1, e2, List.length_drop]
    omega

theorem rank_all (zs : List Int) : rankS zs zs.length = rankR zs := by
  have := rankS_R zs zs.length (Nat.le_refl _)
  rw [List.drop_length] at this
  simpa [rankR] using this

theorem rankR_lt : ∀ l : List Int, rankR l < fact l.length
  | [] => by decide
  | z :: t => by
    have h1 := rankR_lt t
    have h2 : cl z t * fact t.length ≤ t.length * fact t.length := Nat.mul_le_mul_right _ (cl_le z t)
    show cl z t * fact t.length + rankR t < (t.length + 1) * fact t.length
    rw [Nat.add_mul]
    omega

theorem cl_cons (x a : Int) (l : List Int) : cl x (a :: l) = cl x l + (if a < x then 1 else 0) := by
  unfold cl; rw [List.countP_cons]; simp

theorem cl_zero {x : Int} {l : List Int} (h : ∀ y ∈ l, x < y) : cl x l = 0 := by
  unfold cl; rw [List.countP_eq_zero]; intro y hy; have := h y hy; simp; omega

theorem cl_self (z : Int) (t : List Int) : cl z (z :: t) = cl z t := by rw [cl_cons]; simp

theorem cl_perm {x : Int} {l m : List Int} (h : l.Perm m) : cl x l = cl x m := h.countP_eq _

theorem sorted_at : ∀ (left : List Int) (z : Int), left.Pairwise (· < ·) → z ∈ left → left.getD (cl z left) 0 = z ∧ cl z left < left.length
  | [], z, _, h => by simp at h
  | a :: l, z, hp, h => by
    rw [List.pairwise_cons] at hp
    by_cases e : z = a
    · subst e
      rw [cl_self, cl_zero hp.1]
      simp
    · have hz : z ∈ l := by simpa [e] using h
      have haz := hp.1 z hz
      have ih := sorted_at l z hp.2 hz
      rw [cl_cons, if_pos haz]
      refine ⟨?_, by simp; omega⟩
      rw [List.getD_cons_succ]
      exact ih.1

theorem sorted_cl : ∀ (left : List Int) (i : Nat), left.Pairwise (· < ·) → i < left.length → cl (left.getD i 0) left = i
  | [], i, _, h => by simp at h
  | a :: l, 0, hp, _ => by
    rw [List.pairwise_cons] at hp
    show cl a (a :: l) = 0
    rw [cl_self, cl_zero hp.1]
  | a :: l, i + 1, hp, h => by
    rw [List.pairwise_cons] at hp
    have hi : i < l.length := by simpa using h
    have ih := sorted_cl l i hp.2 hi
    rw [List.getD_cons_succ, cl_cons, ih, if_pos]
    have : l.getD i 0 = l[i] := by simp [hi]
    rw [this]
    exact hp.1 _ (List.getElem_mem hi)

theorem erase_perm : ∀ {left : List Int} {i : Nat}, i < left.length → (left.getD i 0 :: left.eraseIdx i).Perm left
  | [], i, h => by simp at h
  | a :: l, 0, _ => List.Perm.refl _
  | a :: l, i + 1, h => by
    rw [List.getD_cons_succ, List.eraseIdx_cons_succ]
    exact (List.Perm.swap _ _ _).trans ((erase_perm (left := l) (i := i) (by simpa using h)).cons a)

theorem at_rank : ∀ (zs left : List Int), left.Pairwise (· < ·) → zs.Perm left → atRun zs.length left (rankR zs) = zs
  | [], _, _, _ => rfl
  | z :: t, left, hp, hz => by
    have hF := fact_pos t.length
    have hr := rankR_lt t
    have hc : cl z left = cl z t := by rw [← cl_perm hz, cl_self]
    have hs := sorted_at left z hp (hz.mem_iff.1 (by simp))
    rw [hc] at hs
    have hdiv : (cl z t * fact t.length + rankR t) / fact t.length = cl z t := by
      rw [Nat.add_comm, Nat.add_mul_div_right _ _ (by omega), Nat.div_eq_of_lt hr, Nat.zero_add]
    have hmod : (cl z t * fact t.length + rankR t) % fact t.length = rankR t := by
      rw [Nat.add_comm, Nat.add_mul_mod_self_right, Nat.mod_eq_of_lt hr]
    show left.getD ((cl z t * fact t.length + rankR t) / fact t.length) 0 :: atRun t.length (left.eraseIdx ((cl z t * fact t.length + rankR t) / fact t.length)) ((cl z t * fact t.length + rankR t) % fact t.length) = z :: t
    rw [hdiv, hmod, hs.1]
    have he := erase_perm hs.2
    rw [hs.1] at he
    have hp2 : t.Perm (left.eraseIdx (cl z t)) := (he.trans hz.symm).symm.cons_inv
    rw [at_rank t _ (hp.sublist (List.eraseIdx_sublist left _)) hp2]

theorem rank_at : ∀ (m : Nat) (left : List Int) (k : Nat), left.length = m → left.Pairwise (· < ·) → k < fact m → (atRun m left k).Perm left ∧ rankR (atRun m left k) = k
  | 0, left, k, hl, _, hk => by
    have : left = [] := List.eq_nil_of_length_eq_zero hl
    subst this
    have : k = 0 := by simp [fact] at hk; exact hk
    subst this
    exact ⟨List.Perm.refl _, rfl⟩
  | m + 1, left, k, hl, hp, hk => by
    have hF := fact_pos m
    have hi : k / fact m < left.length := by rw [hl, Nat.div_lt_iff_lt_mul (by omega)]; exact hk
    have he := erase_perm hi
    have hel : (left.eraseIdx (k / fact m)).length = m := by rw [List.length_eraseIdx, if_pos hi]; omega
    obtain ⟨h1, h2⟩ := rank_at m (left.eraseIdx (k / fact m)) (k % fact m) hel (hp.sublist (List.eraseIdx_sublist left _)) (Nat.mod_lt _ (by omega))
    have hcl := sorted_cl left (k / fact m) hp hi
    rw [← cl_perm he, cl_self] at hcl
    refine ⟨(h1.cons _).trans he, ?_⟩
    show cl (left.getD (k / fact m) 0) (atRun m (left.eraseIdx (k / fact m)) (k % fact m)) * fact (atRun m (left.eraseIdx (k / fact m)) (k % fact m)).length + rankR (atRun m (left.eraseIdx (k / fact m)) (k % fact m)) = k
    rw [cl_perm h1, hcl, atRun_len, h2]
    exact Nat.div_add_mod' k (fact m)

theorem at_of_rank {zs : List Int} (h : Ord zs) : rankS zs zs.length < fact zs.length ∧ atRun zs.length (iota zs.length) (rankS zs zs.length) = zs := by
  rw [rank_all]
  exact ⟨rankR_lt zs, at_rank zs _ (iota_sorted _) (ord_perm h)⟩

theorem rank_of_at {n k : Nat} (h1 : 1 ≤ n) (h7 : n ≤ 7) (hk : k < fact n) : Ord (atRun n (iota n) k) ∧ rankS (atRun n (iota n) k) (atRun n (iota n) k).length = k := by
  have h := rank_at n (iota n) k (iota_len n) (iota_sorted n) hk
  exact ⟨ord_of_perm h.1 h1 h7, by rw [rank_all]; exact h.2⟩

/-! ### Inversions -/
def invR : List Int → Nat
  | [] => 0
  | z :: t => cl z t + invR t

theorem invTo_R (zs : List Int) : ∀ k, k ≤ zs.length → invTo zs k + invR (zs.drop k) = invR zs := by
  intro k
  induction k with
  | zero => intro _; simp [invTo]
  | succ k ih =>
    intro hk
    rw [← ih (by omega), List.drop_eq_getElem_cons (show k < zs.length by omega)]
    have e2 : lessAt zs k = cl zs[k] (zs.drop (k + 1)) := by unfold lessAt; congr 1; simp [show k < zs.length by omega]
    show invTo zs k + lessAt zs k + invR (zs.drop (k + 1)) = invTo zs k + (cl zs[k] (zs.drop (k + 1)) + invR (zs.drop (k + 1)))
    rw [e2]; omega

theorem inv_all (zs : List Int) : invTo zs zs.length = invR zs := by
  have := invTo_R zs zs.length (Nat.le_refl _)
  rw [List.drop_length] at this
  simpa [invR] using this

def gt (x : Int) (l : List Int) : Nat := l.countP (fun z => decide (x < z))

theorem invR_snoc (z : Int) : ∀ l : List Int, invR (l ++ [z]) = invR l + gt z l
  | [] => by simp [invR, cl, gt]
  | a :: l => by
    show cl a (l ++ [z]) + invR (l ++ [z]) = cl a l + invR l + gt z (a :: l)
    rw [invR_snoc z l]
    unfold cl gt
    rw [List.countP_append]
    simp only [List.countP_cons, List.countP_nil]
    omega

theorem cl_gt {z : Int} : ∀ {t : List Int}, z ∉ t → cl z t + gt z t = t.length
  | [], _ => rfl
  | a :: t, h => by
    have ih := cl_gt (z := z) (t := t) (fun e => h (by simp [e]))
    have hne : z ≠ a := fun e => h (by simp [e])
    unfold cl gt at *
    rw [List.countP_cons, List.countP_cons]
    by_cases h1 : a < z
    · have h2 : ¬ z < a := by omega
      simp [h1, h2]; omega
    · have h2 : z < a := by omega
      simp [h1, h2]; omega

def tri : Nat → Nat
  | 0 => 0
  | n + 1 => tri n + n

theorem inv_rev : ∀ l : List Int, l.Nodup → invR l.reverse + invR l = tri l.length
  | [], _ => rfl
  | z :: t, h => by
    have hn := List.nodup_cons.1 h
    have ih := inv_rev t hn.2
    have hg : gt z t.reverse = gt z t := by unfold gt; rw [List.countP_reverse]
    have hcg := cl_gt hn.1
    rw [List.reverse_cons, invR_snoc, hg]
    show invR t.reverse + gt z t + (cl z t + invR t) = tri t.length + t.length
    omega

theorem tri_is : ∀ n, n ≤ 7 → (tri n : Int) = ((n : Int) * ((n : Int) - 1)).tdiv 2 := by
  intro n hn
  have : n = 0 ∨ n = 1 ∨ n = 2 ∨ n = 3 ∨ n = 4 ∨ n = 5 ∨ n = 6 ∨ n = 7 := by omega
  rcases this with rfl | rfl | rfl | rfl | rfl | rfl | rfl | rfl <;> decide

theorem few_many {zs : List Int} (h : Ord zs) : invTo zs.reverse zs.reverse.length + invTo zs zs.length = tri zs.length := by
  rw [inv_all, inv_all]; exact inv_rev zs h.2.2.2

/-! ### Orders turned -/
theorem ord_reverse {zs : List Int} (h : Ord zs) : Ord zs.reverse := by
  refine ⟨by simpa using h.1, by simpa using h.2.1, fun z hz => ?_, ?_⟩
  · have := h.2.2.1 z (by simpa using hz); simpa using this
  · exact ((List.reverse_perm zs).nodup_iff).2 h.2.2.2

def other (zs : List Int) : List Int := zs.map (fun z => (zs.length : Int) + 1 - z)

theorem ord_other {zs : List Int} (h : Ord zs) : Ord (other zs) := by
  refine ⟨by simpa [other] using h.1, by simpa [other] using h.2.1, fun z hz => ?_, ?_⟩
  · unfold other at hz
    rw [List.mem_map] at hz
    obtain ⟨y, hy, rfl⟩ := hz
    have := h.2.2.1 y hy
    simp [other]; omega
  · unfold other List.Nodup
    rw [List.pairwise_map]
    exact h.2.2.2.imp (fun h => by omega)

theorem other_other (zs : List Int) : other (other zs) = zs := by
  unfold other
  rw [List.map_map, List.length_map]
  conv => rhs; rw [← List.map_id zs]
  apply List.map_congr_left
  intro z _
  show (zs.length : Int) + 1 - ((zs.length : Int) + 1 - z) = z
  omega

theorem getD_set_same (l : List Int) (p : Nat) (z : Int) (h : p < l.length) : (l.set p z).getD p 0 = z := by simp [h]
theorem getD_set_other (l : List Int) (p q : Nat) (z : Int) (h : p ≠ q) : (l.set p z).getD q 0 = l.getD q 0 := by
  rw [List.getD_eq_getElem?_getD, List.getElem?_set_ne h, List.getD_eq_getElem?_getD]

theorem inv_get {zs : List Int} (h : Ord zs) : ∀ k, k ≤ zs.length → ∀ j, j < k → (invOf zs k).getD (zs.getD j 0 - 1).toNat 0 = (j : Int) + 1 := by
  intro k
  induction k with
  | zero => intro _ j hj; omega
  | succ k ih =>
    intro hk j hj
    obtain ⟨m, hm, hm2⟩ := h.getD (k := k) (by omega)
    show ((invOf zs k).set (zs.getD k 0 - 1).toNat ((k : Int) + 1)).getD (zs.getD j 0 - 1).toNat 0 = (j : Int) + 1
    by_cases e : j = k
    · subst e
      rw [getD_set_same _ _ _ (by rw [invOf_len, hm]; omega)]
    · obtain ⟨q, hq, hq2⟩ := h.getD (k := j) (by omega)
      rw [getD_set_other _ _ _ _ (by
        intro e2
        have e3 : zs.getD k 0 = zs.getD j 0 := by omega
        have e4 : zs[k]'(by omega) = zs[j]'(by omega) := by simpa [show k < zs.length by omega, show j < zs.length by omega] using e3
        have := (List.getElem_inj h.2.2.2).1 e4
        omega)]
      exact ih (by omega) j (by omega)

theorem ord_surj {zs : List Int} (h : Ord zs) {p : Nat} (hp : p < zs.length) : ∃ j, j < zs.length ∧ zs.getD j 0 = (p : Int) + 1 := by
  have h1 : ((p : Int) + 1) ∈ zs := (ord_perm h).mem_iff.2 (mem_iota.2 (by omega))
  obtain ⟨j, hj, e⟩ := List.mem_iff_getElem.1 h1
  exact ⟨j, hj, by rw [← e]; simp [hj]⟩

theorem inv_at {zs : List Int} (h : Ord zs) {p : Nat} (hp : p < zs.length) : ∃ j, j < zs.length ∧ zs.getD j 0 = (p : Int) + 1 ∧ (invOf zs zs.length).getD p 0 = (j : Int) + 1 := by
  obtain ⟨j, hj, e⟩ := ord_surj h hp
  refine ⟨j, hj, e, ?_⟩
  have h1 := inv_get h zs.length (Nat.le_refl _) j hj
  rw [e] at h1
  have e2 : ((p : Int) + 1 - 1).toNat = p := by omega
  rw [e2] at h1
  exact h1

theorem getD_getElem {l : List Int} {i : Nat} (h : i < l.length) : l[i] = l.getD i 0 := by simp [h]

theorem ord_inverse {zs : List Int} (h : Ord zs) : Ord (invOf zs zs.length) := by
  have hl := invOf_len zs zs.length
  refine ⟨by rw [hl]; exact h.1, by rw [hl]; exact h.2.1, fun z hz => ?_, ?_⟩
  · obtain ⟨p, hp, e⟩ := List.mem_iff_getElem.1 hz
    obtain ⟨j, hj, _, e2⟩ := inv_at h (p := p) (by omega)
    rw [← e, getD_getElem hp, e2, hl]; omega
  · unfold List.Nodup
    rw [List.pairwise_iff_getElem]
    intro i j hi hj hij
    obtain ⟨a, ha, e1, e2⟩ := inv_at h (p := i) (by omega)
    obtain ⟨b, hb, e3, e4⟩ := inv_at h (p := j) (by omega)
    rw [getD_getElem hi, getD_getElem hj, e2, e4]
    intro e
    have : a = b := by omega
    subst this
    omega

theorem inverse_inverse {zs : List Int} (h : Ord zs) : invOf (invOf zs zs.length) (invOf zs zs.length).length = zs := by
  have hl := invOf_len zs zs.length
  have hi := ord_inverse h
  apply List.ext_getElem
  · rw [invOf_len, hl]
  · intro j h1 h2
    obtain ⟨m, hm, hm2⟩ := h.getD (k := j) h2
    have e1 := inv_get h zs.length (Nat.le_refl _) j h2
    rw [hm] at e1
    have e3 : ((m : Int) + 1 - 1).toNat = m := by omega
    rw [e3] at e1
    have e2 := inv_get hi (invOf zs zs.length).length (Nat.le_refl _) m (by rw [hl]; exact hm2)
    rw [e1] at e2
    have e4 : ((j : Int) + 1 - 1).toNat = j := by omega
    rw [e4] at e2
    rw [getD_getElem h1, e2, getD_getElem h2, hm]

theorem compose_inverse {zs : List Int} (h : Ord zs) : (invOf zs zs.length).map (fun y => zs.getD (y - 1).toNat 0) = iota zs.length := by
  have hl := invOf_len zs zs.length
  apply List.ext_getElem
  · rw [List.length_map, hl, iota_len]
  · intro p h1 h2
    have hp : p < zs.length := by rw [iota_len] at h2; exact h2
    obtain ⟨j, hj, e1, e2⟩ := inv_at h hp
    rw [List.getElem_map, getD_getElem (by rw [hl]; exact hp), e2, iota_at _ _ hp]
    have e3 : ((j : Int) + 1 - 1).toNat = j := by omega
    rw [e3, e1]

end Go.Proofs.Ytnhhnffolmgceaa.OrdFacts

end

section
namespace Go.Proofs.Ytnhhnffolmgceaa.EPcM

/-- In how many ways a plain ends word can end: p to push, h there. -/
def cp : Nat → Nat → Nat → Nat
  | 0, _, _ => 1
  | f + 1, p, h => if p = 0 ∧ h = 0 then 1 else (if 0 < p then cp f (p - 1) (h + 1) else 0) + (if 0 < h then min h 2 * cp f p (h - 1) else 0)

theorem cp_small : (List.range 8).all (fun p => (List.range 8).all (fun h => decide (7 < p + h) || decide (cp (2 * p + h) p h ≤ 1048576))) = true := by decide +kernel

theorem cp_le {p h : Nat} (h7 : p + h ≤ 7) : cp (2 * p + h) p h ≤ 1048576 := by
  have h1 := List.all_eq_true.1 cp_small p (List.mem_range.2 (by omega))
  have h2 := List.all_eq_true.1 h1 h (List.mem_range.2 (by omega))
  rw [Bool.or_eq_true, decide_eq_true_iff, decide_eq_true_iff] at h2
  omega

/-- What one number of numbers hands on. -/
def stepJ (ws nx : List Nat) (j : Nat) : List Nat :=
  let a := if j + 1 < ws.length then nx.set (j + 1) (nx.getD (j + 1) 0 + ws.getD j 0) else nx
  if 0 < j then a.set (j - 1) (a.getD (j - 1) 0 + ws.getD j 0 * min j 2) else a

def stepTo (ws : List Nat) : Nat → List Nat
  | 0 => List.replicate ws.length 0
  | j + 1 => stepJ ws (stepTo ws j) j

def waysTo (n : Nat) : Nat → List Nat
  | 0 => (List.replicate (2 * n + 1) 0).set 0 1
  | i + 1 => stepTo (waysTo n i) (2 * n + 1)

theorem stepJ_len (ws nx : List Nat) (j : Nat) : (stepJ ws nx j).length = nx.length := by
  unfold stepJ
  split <;> split <;> simp
theorem stepTo_len (ws : List Nat) : ∀ j, (stepTo ws j).length = ws.length
  | 0 => by simp [stepTo]
  | j + 1 => by show (stepJ _ _ _).length = _; rw [stepJ_len, stepTo_len ws j]
theorem waysTo_len (n : Nat) : ∀ i, (waysTo n i).length = 2 * n + 1
  | 0 => by simp [waysTo]
  | i + 1 => by show (stepTo _ _).length = _; rw [stepTo_len, waysTo_len n i]

def small (l : List Nat) : Bool := l.all (fun x => decide (x ≤ 10000000))

/-- The rows of one round are small. -/
def chkJ (ws nx : List Nat) : Nat → Nat → Bool
  | 0, _ => small nx
  | f + 1, j => small nx && chkJ ws (stepJ ws nx j) f (j + 1)

theorem chkJ_is (ws : List Nat) : ∀ (f j : Nat), chkJ ws (stepTo ws j) f j = true → ∀ k, k ≤ f → small (stepTo ws (j + k)) = true
  | 0, j, h, k, hk => by
    have hk0 : k = 0 := Nat.le_zero.1 hk
    subst hk0
    exact h
  | f + 1, j, h, k, hk => by
    unfold chkJ at h
    rw [Bool.and_eq_true] at h
    cases k with
    | zero => exact h.1
    | succ k =>
      have := chkJ_is ws f (j + 1) h.2 k (by omega)
      rw [show j + (k + 1) = (j + 1) + k by omega]
      exact this

/-- All rounds. -/
def chkI (n : Nat) (ws : List Nat) : Nat → Bool
  | 0 => small ws
  | f + 1 => small ws && (chkJ ws (List.replicate ws.length 0) (2 * n + 1) 0 && chkI n (stepTo ws (2 * n + 1)) f)

theorem chkI_is (n : Nat) : ∀ (f i : Nat), chkI n (waysTo n i) f = true → ∀ k, k ≤ f → small (waysTo n (i + k)) = true ∧ (k < f → ∀ j, j ≤ 2 * n + 1 → small (stepTo (waysTo n (i + k)) j) = true)
  | 0, i, h, k, hk => by
    have hk0 : k = 0 := Nat.le_zero.1 hk
    subst hk0
    exact ⟨h, fun h => absurd h (by omega)⟩
  | f + 1, i, h, k, hk => by
    unfold chkI at h
    rw [Bool.and_eq_true, Bool.and_eq_true] at h
    cases k with
    | zero => exact ⟨h.1, fun _ j hj => by have := chkJ_is (waysTo n i) (2 * n + 1) 0 h.2.1 j hj; rw [Nat.zero_add] at this; exact this⟩
    | succ k =>
      have := chkI_is n f (i + 1) h.2.2 k (by omega)
      rw [show i + (k + 1) = (i + 1) + k by omega]
      exact ⟨this.1, fun hk => this.2 (by omega)⟩

theorem chk_all : (List.range 8).all (fun n => chkI n (waysTo n 0) (2 * n)) = true := by decide +kernel

theorem ways_small {n i : Nat} (hn : n ≤ 7) (hi : i ≤ 2 * n) (k : Nat) : (waysTo n i).getD k 0 ≤ 10000000 := by
  have h := (chkI_is n (2 * n) 0 (List.all_eq_true.1 chk_all n (List.mem_range.2 (by omega))) i hi).1
  rw [Nat.zero_add] at h
  unfold small at h
  by_cases hk : k < (waysTo n i).length
  · have := of_decide_eq_true (List.all_eq_true.1 h _ (List.getElem_mem hk))
    rw [List.getD_eq_getElem?_getD, List.getElem?_eq_getElem hk]; exact this
  · rw [List.getD_eq_getElem?_getD, List.getElem?_eq_none (by omega)]; simp

theorem step_small {n i j : Nat} (hn : n ≤ 7) (hi : i < 2 * n) (hj : j ≤ 2 * n + 1) (k : Nat) : (stepTo (waysTo n i) j).getD k 0 ≤ 10000000 := by
  have h := (chkI_is n (2 * n) 0 (List.all_eq_true.1 chk_all n (List.mem_range.2 (by omega))) i (by omega)).2 hi j hj
  rw [Nat.zero_add] at h
  unfold small at h
  by_cases hk : k < (stepTo (waysTo n i) j).length
  · have := of_decide_eq_true (List.all_eq_true.1 h _ (List.getElem_mem hk))
    rw [List.getD_eq_getElem?_getD, List.getElem?_eq_getElem hk]; exact this
  · rw [List.getD_eq_getElem?_getD, List.getElem?_eq_none (by omega)]; simp

theorem ends_all : (List.range 8).all (fun n => decide ((waysTo n (2 * n)).getD 0 0 = cp (2 * n) n 0)) = true := by decide +kernel

theorem ways_cp {n : Nat} (hn : n ≤ 7) : (waysTo n (2 * n)).getD 0 0 = cp (2 * n) n 0 := of_decide_eq_true (List.all_eq_true.1 ends_all n (List.mem_range.2 (by omega)))

def cpAns (n : Int) : Int × Bool := if 1 ≤ n ∧ n ≤ 7 then ((cp (2 * n.toNat) n.toNat 0 : Nat), true) else (0, false)

end Go.Proofs.Ytnhhnffolmgceaa.EPcM

end

section
namespace Go.Proofs.Ytnhhnffolmgceaa.PatMath
open OrdMath OrdFacts

/-! ### Shapes -/
def shp (zs : List Int) : List Int := zs.map (fun z => 1 + (cl z zs : Int))

theorem shp_len (zs : List Int) : (shp zs).length = zs.length := by simp [shp]

theorem cl_le_of_le {a b : Int} (h : a ≤ b) : ∀ l : List Int, cl a l ≤ cl b l
  | [] => Nat.le_refl _
  | x :: l => by
    have ih := cl_le_of_le h l
    rw [cl_cons, cl_cons]
    by_cases h1 : x < a
    · rw [if_pos h1, if_pos (by omega)]; omega
    · rw [if_neg h1]; omega

theorem cl_lt_of_lt {a b : Int} (h : a < b) : ∀ {l : List Int}, a ∈ l → cl a l < cl b l
  | [], hm => by simp at hm
  | x :: l, hm => by
    rw [cl_cons, cl_cons]
    have hle := cl_le_of_le (Int.le_of_lt h) l
    by_cases e : a = x
    · subst e
      rw [if_neg (by omega), if_pos h]; omega
    · have ih := cl_lt_of_lt h (l := l) (by simpa [e] using hm)
      by_cases h1 : x < a
      · rw [if_pos h1, if_pos (by omega)]; omega
      · rw [if_neg h1]; omega

theorem cl_iff {a b : Int} {l : List Int} (ha : a ∈ l) : cl a l < cl b l ↔ a < b := by
  constructor
  · intro h
    by_cases h1 : a < b
    · exact h1
    · have := cl_le_of_le (a := b) (b := a) (by omega) l; omega
  · intro h; exact cl_lt_of_lt h ha

theorem cl_lt_len {a : Int} : ∀ {l : List Int}, a ∈ l → cl a l < l.length
  | [], hm => by simp at hm
  | x :: l, hm => by
    rw [cl_cons]
    have hle := cl_le a l
    by_cases e : a = x
    · subst e; simp; omega
    · have ih := cl_lt_len (l := l) (by simpa [e] using hm)
      simp only [List.length_cons]
      split <;> omega

theorem getD_mem {zs : List Int} {i : Nat} (h : i < zs.length) : zs.getD i 0 ∈ zs := by
  have : zs.getD i 0 = zs[i] := by simp [h]
  rw [this]; exact List.getElem_mem h

theorem shp_at {zs : List Int} {i : Nat} (h : i < zs.length) : (shp zs).getD i 0 = 1 + (cl (zs.getD i 0) zs : Int) := by
  simp [shp, h]

/-- Two lists of one length in which numbers stand alike. -/
def Alike (xs ys : List Int) : Prop := xs.length = ys.length ∧ ∀ i j, i < xs.length → j < xs.length → (xs.getD i 0 < xs.getD j 0 ↔ ys.getD i 0 < ys.getD j 0)

theorem Alike.symm {xs ys : List Int} (h : Alike xs ys) : Alike ys xs := ⟨h.1.symm, fun i j hi hj => (h.2 i j (by rw [h.1]; exact hi) (by rw [h.1]; exact hj)).symm⟩

theorem Alike.trans {xs ys zs : List Int} (h : Alike xs ys) (k : Alike ys zs) : Alike xs zs := ⟨h.1.trans k.1, fun i j hi hj => (h.2 i j hi hj).trans (k.2 i j (by rw [← h.1]; exact hi) (by rw [← h.1]; exact hj))⟩

theorem list_idx (l : List Int) : (List.range l.length).map (fun i => l.getD i 0) = l := by
  apply List.ext_getElem
  · simp
  · intro i h1 h2; simp [h2]

theorem cl_idx (x : Int) (l : List Int) : cl x l = (List.range l.length).countP (fun i => decide (l.getD i 0 < x)) := by
  have h : cl x ((List.range l.length).map (fun i => l.getD i 0)) = (List.range l.length).countP (fun i => decide (l.getD i 0 < x)) := by
    unfold cl
    rw [List.countP_map]
    rfl
  rw [list_idx] at h
  exact h

theorem alike_shp {xs ys : List Int} (h : Alike xs ys) : shp xs = shp ys := by
  apply List.ext_getElem
  · rw [shp_len, shp_len]; exact h.1
  · intro i h1 h2
    rw [shp_len] at h1 h2
    have e1 := shp_at h1
    have e2 := shp_at h2
    have g1 : (shp xs).getD i 0 = (shp xs)[i]'(by rw [shp_len]; exact h1) := by simp [shp_len, h1]
    have g2 : (shp ys).getD i 0 = (shp ys)[i]'(by rw [shp_len]; exact h2) := by simp [shp_len, h2]
    rw [g1] at e1
    rw [g2] at e2
    rw [e1, e2, cl_idx, cl_idx, h.1]
    congr 2
    apply List.countP_congr
    intro j hj
    rw [List.mem_range] at hj
    have := h.2 j i (by rw [h.1]; exact hj) h1
    simp only [decide_eq_true_eq]
    exact this

theorem alike_shp_self (zs : List Int) : Alike (shp zs) zs := ⟨shp_len zs, fun i j hi hj => by
  rw [shp_len] at hi hj
  rw [shp_at hi, shp_at hj]
  have := cl_iff (a := zs.getD i 0) (b := zs.getD j 0) (l := zs) (getD_mem hi)
  omega⟩

theorem shp_ordfix {zs : List Int} (h : Ord zs) : shp zs = zs := by
  have hp := ord_perm h
  have : ∀ z ∈ zs, 1 + (cl z zs : Int) = z := by
    intro z hz
    have hb := h.2.2.1 z hz
    rw [cl_perm hp]
    have h1 := sorted_cl (iota zs.length) (z - 1).toNat (iota_sorted _) (by rw [iota_len]; omega)
    have h2 : (iota zs.length).getD (z - 1).toNat 0 = z := by
      have h3 := iota_at zs.length (z - 1).toNat (by omega)
      have h4 : (iota zs.length).getD (z - 1).toNat 0 = (iota zs.length)[(z - 1).toNat]'(by rw [iota_len]; omega) := by
        rw [List.getD_eq_getElem?_getD, List.getElem?_eq_getElem (by rw [iota_len]; omega)]; rfl
      rw [h4, h3]
      omega
    rw [h2] at h1
    omega
  unfold shp
  rw [List.map_congr_left this, List.map_id']

theorem shp_iff {xs p : List Int} (hp : Ord p) : shp xs = p ↔ Alike xs p := by
  constructor
  · intro h; rw [← h]; exact (alike_shp_self xs).symm
  · intro h; rw [alike_shp h, shp_ordfix hp]

theorem shp_nodup {zs : List Int} : (shp zs).Nodup ↔ zs.Nodup := by
  unfold shp List.Nodup
  rw [List.pairwise_map]
  constructor
  · intro h
    exact h.imp (fun hne e => hne (by rw [e]))
  · intro h
    refine List.Pairwise.imp_of_mem ?_ h
    intro a b ha hb hne e
    have h1 := cl_iff (a := a) (b := b) (l := zs) ha
    have h2 := cl_iff (a := b) (b := a) (l := zs) hb
    omega

theorem shp_ord {zs : List Int} (h1 : 1 ≤ zs.length) (h7 : zs.length ≤ 7) : Ord (shp zs) ↔ zs.Nodup := by
  constructor
  · intro h; exact shp_nodup.1 h.2.2.2
  · intro h
    refine ⟨by rw [shp_len]; exact h1, by rw [shp_len]; exact h7, ?_, shp_nodup.2 h⟩
    intro z hz
    unfold shp at hz
    rw [List.mem_map] at hz
    obtain ⟨x, hx, rfl⟩ := hz
    have := cl_lt_len hx
    rw [shp_len]
    omega

def shapeAns (zs : List Int) : List Int × Bool := if 1 ≤ zs.length ∧ zs.length ≤ 7 ∧ zs.Nodup then (shp zs, true) else ([], false)

theorem shape_len {zs xs : List Int} {b : Bool} (h : shapeAns zs = (xs, b)) : xs.length ≤ 1048576 := by
  unfold shapeAns at h; split at h
  · rename_i ho; cases h; rw [shp_len]; omega
  · cases h; simp

/-! ### Places -/
def behind (b : List Nat) : Nat := match b.getLast? with | none => 0 | some p => p + 1

theorem behind_snoc (b : List Nat) (p : Nat) : behind (b ++ [p]) = p + 1 := by simp [behind]

def nexts (n r : Nat) (b : List Nat) : List (List Nat) := (List.range' (behind b) (n - r - behind b)).map (fun p => b ++ [p])

/-- Level by level. -/
def lev (n c : Nat) (f : List Nat → Bool) : Nat → List (List Nat)
  | 0 => [[]]
  | l + 1 => (lev n c f l).flatMap (fun b => (nexts n (c - 1 - l) b).filter f)

/-- One behind the other. -/
def dfs (n : Nat) (f : List Nat → Bool) : Nat → List Nat → List (List Nat)
  | 0, b => [b]
  | r + 1, b => ((nexts n r b).filter f).flatMap (dfs n f r)

theorem lev_len {n c : Nat} {f : List Nat → Bool} : ∀ l, ∀ q ∈ lev n c f l, q.length = l
  | 0, q, h => by simp [lev] at h; simp [h]
  | l + 1, q, h => by
    unfold lev at h
    rw [List.mem_flatMap] at h
    obtain ⟨b, hb, hq⟩ := h
    have ih := lev_len l b hb
    have hq := (List.mem_filter.1 hq).1
    unfold nexts at hq
    rw [List.mem_map] at hq
    obtain ⟨p, _, rfl⟩ := hq
    simp [ih]

theorem lev_dfs (n c : Nat) (f : List Nat → Bool) : ∀ l, l ≤ c → (lev n c f l).flatMap (dfs n f (c - l)) = dfs n f c []
  | 0, _ => by simp [lev]
  | l + 1, h => by
    have ih := lev_dfs n c f l (by omega)
    rw [← ih]
    have e : c - l = (c - (l + 1)) + 1 := by omega
    have e2 : c - 1 - l = c - (l + 1) := by omega
    rw [e]
    show ((lev n c f l).flatMap (fun b => (nexts n (c - 1 - l) b).filter f)).flatMap _ = _
    rw [List.flatMap_assoc, e2]
    rfl

theorem flat_single {α : Type} (l : List α) : l.flatMap (fun b => [b]) = l := by
  induction l with
  | nil => rfl
  | cons a l ih => simp [ih]

theorem lev_all_dfs (n c : Nat) (f : List Nat → Bool) : lev n c f c = dfs n f c [] := by
  have h := lev_dfs n c f c (Nat.le_refl _)
  rw [Nat.sub_self] at h
  have e : (dfs n f 0 : List Nat → List (List Nat)) = (fun b => [b]) := by funext b; rfl
  rw [e, flat_single] at h
  exact h

/-- All lists of places that go on from some. -/
def ch (n : Nat) : Nat → List Nat → List (List Nat)
  | 0, b => [b]
  | r + 1, b => (List.range' (behind b) (n - behind b)).flatMap (fun p => ch n r (b ++ [p]))

theorem ch_pre {n : Nat} : ∀ r b, ∀ q ∈ ch n r b, q.length = b.length + r ∧ q.take b.length = b
  | 0, b, q, h => by simp [ch] at h; subst h; simp
  | r + 1, b, q, h => by
    unfold ch at h
    rw [List.mem_flatMap] at h
    obtain ⟨p, _, hq⟩ := h
    have ih := ch_pre r (b ++ [p]) q hq
    rw [List.length_append] at ih
    refine ⟨by have := ih.1; simp at this; omega, ?_⟩
    have h1 : (q.take (b.length + 1)).take b.length = b := by
      have := ih.2
      simp only [List.length_cons, List.length_nil, Nat.zero_add] at this
      rw [this]; simp
    rwa [List.take_take, Nat.min_eq_left (by omega)] at h1

theorem ch_nil {n : Nat} : ∀ r b, n < behind b + r → 1 ≤ r → ch n r b = []
  | 0, _, _, h => by omega
  | r + 1, b, h, _ => by
    unfold ch
    rw [List.flatMap_eq_nil_iff]
    intro p hp
    rw [List.mem_range'_1] at hp
    by_cases hr : r = 0
    · omega
    · exact ch_nil r (b ++ [p]) (by rw [behind_snoc]; omega) (by omega)

/-- Ascending, below n. -/
def Asc (n : Nat) (q : List Nat) : Prop := q.Pairwise (· < ·) ∧ ∀ p ∈ q, p < n

theorem behind_gt : ∀ {b : List Nat}, b.Pairwise (· < ·) → ∀ p ∈ b, p < behind b := by
  intro b hb p hp
  unfold behind
  cases h : b.getLast? with
  | none => rw [List.getLast?_eq_none_iff] at h; subst h; simp at hp
  | some x =>
    rw [List.getLast?_eq_some_iff] at h
    obtain ⟨ys, rfl⟩ := h
    rw [List.pairwise_append] at hb
    rw [List.mem_append, List.mem_singleton] at hp
    rcases hp with hp | rfl
    · have := hb.2.2 p hp x (by simp); show p < x + 1; omega
    · show p < p + 1; omega

theorem ch_asc {n : Nat} : ∀ r b, Asc n b → ∀ q ∈ ch n r b, Asc n q
  | 0, b, hb, q, h => by simp [ch] at h; subst h; exact hb
  | r + 1, b, hb, q, h => by
    unfold ch at h
    rw [List.mem_flatMap] at h
    obtain ⟨p, hp, hq⟩ := h
    rw [List.mem_range'_1] at hp
    refine ch_asc r (b ++ [p]) ⟨?_, ?_⟩ q hq
    · rw [List.pairwise_append]
      refine ⟨hb.1, by simp, ?_⟩
      intro a ha x hx
      rw [List.mem_singleton] at hx
      subst hx
      have := behind_gt hb.1 a ha
      omega
    · intro x hx
      rw [List.mem_append, List.mem_singleton] at hx
      rcases hx with hx | rfl
      · exact hb.2 x hx
      · omega

def okb (f : List Nat → Bool) (r : Nat) (q : List Nat) : Bool := (List.range r).all (fun i => f (q.take (q.length - i)))

theorem okb_next (f : List Nat → Bool) (r : Nat) (q : List Nat) : okb f (r + 1) q = (okb f r q && f (q.take (q.length - r))) := by
  unfold okb; rw [List.range_succ, List.all_append]; simp

theorem nexts_flat (f : List Nat → Bool) (g : List Nat → List (List Nat)) (b : List Nat) : ∀ l : List Nat, ((l.map (fun p => b ++ [p])).filter f).flatMap g = l.flatMap (fun p => if f (b ++ [p]) = true then g (b ++ [p]) else [])
  | [] => rfl
  | p :: l => by
    have ih := nexts_flat f g b l
    rw [List.map_cons, List.filter_cons, List.flatMap_cons, ← ih]
    split <;> simp

theorem filter_flat {α β : Type} (f : β → Bool) (g : α → List β) : ∀ l : List α, (l.flatMap g).filter f = l.flatMap (fun a => (g a).filter f)
  | [] => rfl
  | a :: l => by rw [List.flatMap_cons, List.filter_append, filter_flat f g l, List.flatMap_cons]

theorem flat_congr {α β : Type} {f g : α → List β} : ∀ {l : List α}, (∀ a ∈ l, f a = g a) → l.flatMap f = l.flatMap g
  | [], _ => rfl
  | a :: l, h => by rw [List.flatMap_cons, List.flatMap_cons, h a (by simp), flat_congr (fun x hx => h x (by simp [hx]))]

theorem dfs_filter (n : Nat) (f : List Nat → Bool) : ∀ r b, dfs n f r b = (ch n r b).filter (okb f r)
  | 0, b => by
    show [b] = [b].filter (okb f 0)
    rw [List.filter_cons, if_pos (show okb f 0 b = true from rfl), List.filter_nil]
  | r + 1, b => by
    unfold dfs nexts ch
    rw [nexts_flat, filter_flat]
    have hsplit : List.range' (behind b) (n - behind b) = List.range' (behind b) (n - r - behind b) ++ List.range' (behind b + (n - r - behind b)) (n - behind b - (n - r - behind b)) := by
      have := (List.range'_append_1 (s := behind b) (m := n - r - behind b) (n := n - behind b - (n - r - behind b)))
      rw [this]; congr 1; omega
    rw [hsplit, List.flatMap_append]
    have h2 : (List.range' (behind b + (n - r - behind b)) (n - behind b - (n - r - behind b))).flatMap (fun a => (ch n r (b ++ [a])).filter (okb f (r + 1))) = [] := by
      rw [List.flatMap_eq_nil_iff]
      intro p hp
      rw [List.mem_range'_1] at hp
      rw [ch_nil r (b ++ [p]) (by rw [behind_snoc]; omega) (by omega)]
      rfl
    rw [h2, List.append_nil]
    apply flat_congr
    intro p _
    rw [dfs_filter n f r (b ++ [p])]
    have hq : ∀ q ∈ ch n r (b ++ [p]), okb f (r + 1) q = (okb f r q && f (b ++ [p])) := by
      intro q hq
      have h3 := ch_pre r (b ++ [p]) q hq
      rw [okb_next]
      have e : q.length - r = (b ++ [p]).length := by rw [h3.1]; omega
      rw [e, h3.2]
    by_cases hf : f (b ++ [p]) = true
    · rw [if_pos hf]
      apply List.filter_congr
      intro q hq'
      rw [hq q hq', hf, Bool.and_true]
    · rw [if_neg hf]
      symm
      rw [List.filter_eq_nil_iff]
      intro q hq'
      rw [hq q hq']
      simp [hf]

theorem lev_filter (n c : Nat) (f : List Nat → Bool) : lev n c f c = (ch n c []).filter (okb f c) := by rw [lev_all_dfs, dfs_filter]

theorem lev_all (n c : Nat) : lev n c (fun _ => true) c = ch n c [] := by
  rw [lev_filter, List.filter_eq_self]
  intro q _
  simp [okb]

theorem nexts_len (n r : Nat) (b : List Nat) : (nexts n r b).length ≤ n := by unfold nexts; simp; omega

theorem flat_len {α β : Type} {g : α → List β} {m : Nat} : ∀ {l : List α}, (∀ a ∈ l, (g a).length ≤ m) → (l.flatMap g).length ≤ l.length * m
  | [], _ => by simp
  | a :: l, h => by
    rw [List.flatMap_cons, List.length_append, List.length_cons, Nat.add_mul]
    have h1 := h a (by simp)
    have h2 := flat_len (g := g) (m := m) (l := l) (fun x hx => h x (by simp [hx]))
    omega

theorem lev_many {n c : Nat} {f : List Nat → Bool} (hn : n ≤ 7) : ∀ l, (lev n c f l).length ≤ 7 ^ l
  | 0 => by simp [lev]
  | l + 1 => by
    have ih := lev_many (c := c) (f := f) hn l
    unfold lev
    have h1 := flat_len (g := fun b => (nexts n (c - 1 - l) b).filter f) (m := 7) (l := lev n c f l) (fun b _ => by
      have h1 := List.length_filter_le f (nexts n (c - 1 - l) b)
      have h2 := nexts_len n (c - 1 - l) b
      omega)
    rw [Nat.pow_succ]
    omega

theorem seven_pow {l : Nat} (h : l ≤ 7) : 7 ^ l ≤ 823543 := by
  have : l = 0 ∨ l = 1 ∨ l = 2 ∨ l = 3 ∨ l = 4 ∨ l = 5 ∨ l = 6 ∨ l = 7 := by omega
  rcases this with rfl | rfl | rfl | rfl | rfl | rfl | rfl | rfl <;> decide

theorem lev_823543 {n c l : Nat} {f : List Nat → Bool} (hn : n ≤ 7) (hl : l ≤ 7) : (lev n c f l).length ≤ 823543 := Nat.le_trans (lev_many hn l) (seven_pow hl)

theorem ch_823543 {n c : Nat} (hn : n ≤ 7) (hc : c ≤ 7) : (ch n c []).length ≤ 823543 := by rw [← lev_all]; exact lev_823543 hn hc

/-! ### Patterns -/
def pick (zs : List Int) (q : List Nat) : List Int := q.map (fun p => zs.getD p 0)

theorem pick_len (zs : List Int) (q : List Nat) : (pick zs q).length = q.length := by simp [pick]

theorem pick_at {zs : List Int} {q : List Nat} {i : Nat} (h : i < q.length) : (pick zs q).getD i 0 = zs.getD (q.getD i 0) 0 := by
  simp [pick, h]

/-- The last place fits. -/
def fits (zs pat : List Int) (q : List Nat) : Bool := (List.range (q.length - 1)).all (fun i => decide (decide (zs.getD (q.getD i 0) 0 < zs.getD (q.getD (q.length - 1) 0) 0) = decide (pat.getD i 0 < pat.getD (q.length - 1) 0)))

theorem fits_iff {zs pat : List Int} {q : List Nat} : fits zs pat q = true ↔ ∀ i, i < q.length - 1 → (zs.getD (q.getD i 0) 0 < zs.getD (q.getD (q.length - 1) 0) 0 ↔ pat.getD i 0 < pat.getD (q.length - 1) 0) := by
  unfold fits
  simp only [List.all_eq_true, List.mem_range, decide_eq_true_eq, decide_eq_decide]

theorem okb_iff {f : List Nat → Bool} {q : List Nat} : okb f q.length q = true ↔ ∀ j, j < q.length → f (q.take (j + 1)) = true := by
  unfold okb
  simp only [List.all_eq_true, List.mem_range]
  constructor
  · intro h j hj
    have := h (q.length - 1 - j) (by omega)
    have e : q.length - (q.length - 1 - j) = j + 1 := by omega
    rwa [e] at this
  · intro h i hi
    have := h (q.length - 1 - i) (by omega)
    have e : q.length - 1 - i + 1 = q.length - i := by omega
    rwa [e] at this

theorem getD_take {α : Type} {d : α} {q : List α} {i m : Nat} (h : i < m) : (q.take m).getD i d = q.getD i d := by
  simp [List.getD, h]

theorem getD_ne {zs : List Int} (h : zs.Nodup) {i j : Nat} (hi : i < zs.length) (hj : j < zs.length) (hne : i ≠ j) : zs.getD i 0 ≠ zs.getD j 0 := by
  have e1 : zs.getD i 0 = zs[i] := by simp [hi]
  have e2 : zs.getD j 0 = zs[j] := by simp [hj]
  rw [e1, e2]
  intro e
  exact hne ((List.getElem_inj h).1 e)

theorem asc_at {n : Nat} {q : List Nat} (h : Asc n q) {i j : Nat} (hij : i < j) (hj : j < q.length) : q.getD i 0 < q.getD j 0 ∧ q.getD j 0 < n := by
  have e1 : q.getD i 0 = q[i] := by simp [show i < q.length by omega]
  have e2 : q.getD j 0 = q[j] := by simp [hj]
  rw [e1, e2]
  exact ⟨List.pairwise_iff_getElem.1 h.1 i j (by omega) hj hij, h.2 _ (List.getElem_mem hj)⟩

theorem fits_alike {zs pat : List Int} {q : List Nat} (hz : zs.Nodup) (hp : pat.Nodup) (hl : q.length = pat.length) (ha : Asc zs.length q) : okb (fits zs pat) q.length q = true ↔ Alike (pick zs q) pat := by
  rw [okb_iff]
  have hstep : ∀ j, j < q.length → (fits zs pat (q.take (j + 1)) = true ↔ ∀ i, i < j → ((pick zs q).getD i 0 < (pick zs q).getD j 0 ↔ pat.getD i 0 < pat.getD j 0)) := by
    intro j hj
    rw [fits_iff]
    have e : (q.take (j + 1)).length - 1 = j := by rw [List.length_take]; omega
    rw [e]
    constructor
    · intro h i hi
      have := h i hi
      rw [getD_take (show i < j + 1 by omega), getD_take (show j < j + 1 by omega)] at this
      rw [pick_at (show i < q.length by omega), pick_at hj]
      exact this
    · intro h i hi
      rw [getD_take (show i < j + 1 by omega), getD_take (show j < j + 1 by omega)]
      have := h i hi
      rw [pick_at (show i < q.length by omega), pick_at hj] at this
      exact this
  constructor
  · intro h
    refine ⟨by rw [pick_len]; exact hl, ?_⟩
    rw [pick_len]
    intro i j hi hj
    by_cases hij : i < j
    · exact (hstep j hj).1 (h j hj) i hij
    · by_cases e : i = j
      · subst e; omega
      · have hji : j < i := by omega
        have h1 := (hstep i hi).1 (h i hi) j hji
        have h2 := asc_at ha hji hi
        have h3 := getD_ne hz (i := q.getD j 0) (j := q.getD i 0) (by omega) (by omega) (by omega)
        have h4 := getD_ne hp (i := j) (j := i) (by omega) (by omega) (by omega)
        rw [pick_at hi, pick_at hj] at h1 ⊢
        omega
  · intro h j hj
    rw [hstep j hj]
    intro i hi
    exact h.2 i j (by rw [pick_len]; omega) (by rw [pick_len]; exact hj)

/-- All places at which a pattern is in a list. -/
def placesOf (zs pat : List Int) : List (List Nat) := (ch zs.length pat.length []).filter (fun q => decide (shp (pick zs q) = pat))

theorem asc_nil (n : Nat) : Asc n [] := ⟨List.Pairwise.nil, fun _ h => by simp at h⟩

theorem lev_places {zs pat : List Int} (hz : zs.Nodup) (hp : Ord pat) : lev zs.length pat.length (fits zs pat) pat.length = placesOf zs pat := by
  rw [lev_filter]
  unfold placesOf
  apply List.filter_congr
  intro q hq
  have h1 := ch_pre _ _ q hq
  have h2 := ch_asc _ _ (asc_nil _) q hq
  have hl : q.length = pat.length := by simpa using h1.1
  have h3 := fits_alike hz hp.2.2.2 hl h2
  rw [hl] at h3
  rw [Bool.eq_iff_iff, h3, decide_eq_true_eq, shp_iff hp]

def has (zs pat : List Int) : Bool := decide (0 < (placesOf zs pat).length)

theorem has_iff {zs pat : List Int} : has zs pat = true ↔ ∃ q ∈ ch zs.length pat.length [], shp (pick zs q) = pat := by
  unfold has placesOf
  rw [decide_eq_true_eq, List.length_pos_iff_exists_mem]
  simp only [List.mem_filter, decide_eq_true_eq]

/-- The search for a pattern, place by place. -/
def goes (f : List Nat → Bool) (n : Nat) : Nat → List Nat → Bool
  | 0, b => f b
  | r + 1, b => f b && (List.range' (behind b) (n - behind b)).any (fun p => goes f n r (b ++ [p]))

theorem goes_iff (f : List Nat → Bool) (n : Nat) : ∀ r b, goes f n r b = true ↔ (f b = true ∧ ∃ q ∈ ch n r b, okb f r q = true)
  | 0, b => by simp [goes, ch, okb]
  | r + 1, b => by
    unfold goes ch
    rw [Bool.and_eq_true, List.any_eq_true]
    constructor
    · rintro ⟨h1, p, hp, hg⟩
      rw [goes_iff f n r (b ++ [p])] at hg
      obtain ⟨h2, q, hq, hk⟩ := hg
      refine ⟨h1, q, List.mem_flatMap.2 ⟨p, hp, hq⟩, ?_⟩
      have h3 := ch_pre r (b ++ [p]) q hq
      have e : q.length - r = (b ++ [p]).length := by rw [h3.1]; omega
      rw [okb_next, e, h3.2, hk, h2]
      rfl
    · rintro ⟨h1, q, hq, hk⟩
      obtain ⟨p, hp, hq⟩ := List.mem_flatMap.1 hq
      have h3 := ch_pre r (b ++ [p]) q hq
      have e : q.length - r = (b ++ [p]).length := by rw [h3.1]; omega
      rw [okb_next, e, h3.2, Bool.and_eq_true] at hk
      exact ⟨h1, p, hp, (goes_iff f n r (b ++ [p])).2 ⟨hk.2, q, hq, hk.1⟩⟩

theorem alike_take {xs ys : List Int} (h : Alike xs ys) (m : Nat) : Alike (xs.take m) (ys.take m) := by
  refine ⟨by rw [List.length_take, List.length_take, h.1], fun i j hi hj => ?_⟩
  rw [List.length_take] at hi hj
  rw [getD_take (by omega), getD_take (by omega), getD_take (by omega), getD_take (by omega)]
  exact h.2 i j (by omega) (by omega)

theorem pick_take (zs : List Int) (q : List Nat) (m : Nat) : pick zs (q.take m) = (pick zs q).take m := by simp [pick]

/-- The values so far have the shape of the pattern so far. -/
def sofar (zs pat : List Int) (b : List Nat) : Bool := decide (shp (pick zs b) = shp (pat.take b.length))

theorem goes_has {zs pat : List Int} (hp : Ord pat) : goes (sofar zs pat) zs.length pat.length [] = has zs pat := by
  rw [Bool.eq_iff_iff, goes_iff, has_iff]
  have h0 : sofar zs pat [] = true := by simp [sofar, pick, shp]
  constructor
  · rintro ⟨_, q, hq, hk⟩
    refine ⟨q, hq, ?_⟩
    have h1 := ch_pre _ _ q hq
    have hl : q.length = pat.length := by simpa using h1.1
    rw [← hl, okb_iff] at hk
    have := hk (q.length - 1) (by have := hp.1; omega)
    rw [show q.length - 1 + 1 = q.length by have := hp.1; omega, List.take_length] at this
    unfold sofar at this
    rw [decide_eq_true_eq, hl, List.take_length, shp_ordfix hp] at this
    exact this
  · rintro ⟨q, hq, he⟩
    refine ⟨h0, q, hq, ?_⟩
    have h1 := ch_pre _ _ q hq
    have hl : q.length = pat.length := by simpa using h1.1
    rw [← hl, okb_iff]
    intro j hj
    unfold sofar
    rw [decide_eq_true_eq, List.length_take, Nat.min_eq_left (by omega), pick_take]
    exact alike_shp (alike_take ((shp_iff hp).1 he) _)

theorem pick_alike {xs ys : List Int} (h : Alike xs ys) {q : List Nat} (hq : ∀ p ∈ q, p < xs.length) : Alike (pick xs q) (pick ys q) := by
  refine ⟨by rw [pick_len, pick_len], fun i j hi hj => ?_⟩
  rw [pick_len] at hi hj
  rw [pick_at hi, pick_at hj, pick_at hi, pick_at hj]
  have m1 : q.getD i 0 ∈ q := by have e : q.getD i 0 = q[i] := by simp [hi]
                                 rw [e]; exact List.getElem_mem hi
  have m2 : q.getD j 0 ∈ q := by have e : q.getD j 0 = q[j] := by simp [hj]
                                 rw [e]; exact List.getElem_mem hj
  exact h.2 _ _ (hq _ m1) (hq _ m2)

theorem places_alike {xs ys : List Int} (h : Alike xs ys) (pat : List Int) : placesOf xs pat = placesOf ys pat := by
  unfold placesOf
  rw [h.1]
  apply List.filter_congr
  intro q hq
  have h2 := ch_asc _ _ (asc_nil _) q hq
  rw [alike_shp (pick_alike h (q := q) (fun p hp => by rw [h.1]; exact h2.2 p hp))]

theorem has_shape (zs pat : List Int) : has (shp zs) pat = has zs pat := by
  unfold has; rw [places_alike (alike_shp_self zs)]

/-! ### The answers -/
def containsAns (zs pat : List Int) : Bool × Bool := if Ord zs ∧ Ord pat then (has zs pat, true) else (false, false)
def countAns (zs pat : List Int) : Int × Bool := if Ord zs ∧ Ord pat then (((placesOf zs pat).length : Nat), true) else (0, false)
def nat (q : List Nat) : List Int := q.map (fun (p : Nat) => (p : Int))
def firstAns (zs pat : List Int) : List Int × Bool := if Ord zs ∧ Ord pat ∧ has zs pat = true then (nat ((placesOf zs pat).headD []), true) else ([], false)
/-- An order with a last number. -/
def ins (zs : List Int) (k : Int) : List Int := zs.map (fun z => if k ≤ z then z + 1 else z) ++ [k]
theorem ins_len (zs : List Int) (k : Int) : (ins zs k).length = zs.length + 1 := by simp [ins]
def insAns (zs : List Int) (k : Int) : List Int × Bool := if Ord zs ∧ zs.length ≠ 7 ∧ 1 ≤ k ∧ k ≤ (zs.length : Int) + 1 then (ins zs k, true) else ([], false)
theorem insAns_len {zs xs : List Int} {k : Int} {b : Bool} (h : insAns zs k = (xs, b)) : xs.length ≤ 1048576 := by
  unfold insAns at h; split at h
  · rename_i ho; cases h; rw [ins_len]; have := ho.1.2.1; omega
  · cases h; simp
theorem places_len {zs pat : List Int} {q : List Nat} (h : q ∈ placesOf zs pat) : q.length = pat.length := by
  have := (ch_pre _ _ q (List.mem_filter.1 h).1).1; simpa using this
theorem first_len {zs pat xs : List Int} {b : Bool} (h : firstAns zs pat = (xs, b)) : xs.length ≤ 1048576 := by
  unfold firstAns at h; split at h
  · rename_i ho
    cases h
    have h1 : (placesOf zs pat) ≠ [] := by
      have := ho.2.2; unfold has at this; rw [decide_eq_true_eq] at this
      intro e; rw [e] at this; simp at this
    obtain ⟨q, t, e⟩ := List.exists_cons_of_ne_nil h1
    have h2 := places_len (zs := zs) (pat := pat) (q := q) (by rw [e]; simp)
    have := ho.2.1.2.1
    simp [nat, e]; omega
  · cases h; simp

end Go.Proofs.Ytnhhnffolmgceaa.PatMath

end
