/-
  Contracts and plain facts that the laws' texts lean on. Conditions: as each states.
-/
import Derived.Lib.Hide
import Derived.Lib.Slices

section
namespace Go.Proofs.YtnhhnffolmgceaaGreat.OrdMath

/-- A list is an order. -/
def Ord (zs : List Int) : Prop := 1 ≤ zs.length ∧ zs.length ≤ 7 ∧ (∀ z ∈ zs, 1 ≤ z ∧ z ≤ (zs.length : Int)) ∧ zs.Nodup

instance (zs : List Int) : Decidable (Ord zs) := by unfold Ord; infer_instance

def isOrd (zs : List Int) : Bool := decide (Ord zs)

theorem isOrd_len {zs : List Int} (h : zs.length < 1 ∨ 7 < zs.length) : isOrd zs = false := by
  unfold isOrd; rw [decide_eq_false_iff_not]; rintro ⟨h1, h2, _⟩; omega

theorem isOrd_range {zs : List Int} {k : Nat} (hk : k < zs.length) (h : ¬ (1 ≤ zs[k] ∧ zs[k] ≤ (zs.length : Int))) : isOrd zs = false := by
  unfold isOrd; rw [decide_eq_false_iff_not]; rintro ⟨_, _, h3, _⟩; exact h (h3 _ (List.getElem_mem hk))

theorem isOrd_dup {zs : List Int} {k : Nat} (hk : k < zs.length) (h : zs[k] ∈ zs.take k) : isOrd zs = false := by
  unfold isOrd; rw [decide_eq_false_iff_not]; rintro ⟨_, _, _, h4⟩
  rw [List.mem_iff_getElem] at h
  obtain ⟨j, hj, e⟩ := h
  rw [List.length_take] at hj
  rw [List.getElem_take] at e
  have := (List.getElem_inj h4).1 e
  omega

theorem nodup_next {zs : List Int} {k : Nat} (hk : k < zs.length) (h : (zs.take k).Nodup) (hn : zs[k] ∉ zs.take k) : (zs.take (k + 1)).Nodup := by
  rw [List.take_succ_eq_append_getElem hk, List.nodup_append]
  refine ⟨h, by simp, ?_⟩
  intro a ha b hb e
  simp at hb
  subst hb
  subst e
  exact hn ha

theorem isOrd_yes {zs : List Int} (h1 : 1 ≤ zs.length) (h2 : zs.length ≤ 7) (h3 : ∀ z ∈ zs, 1 ≤ z ∧ z ≤ (zs.length : Int)) (h4 : zs.Nodup) : isOrd zs = true := by
  unfold isOrd; rw [decide_eq_true_iff]; exact ⟨h1, h2, h3, h4⟩

theorem Ord.at {zs : List Int} (h : Ord zs) {k : Nat} (hk : k < zs.length) : ∃ m : Nat, zs[k] = (m : Int) + 1 ∧ m < zs.length := by
  have := h.2.2.1 zs[k] (List.getElem_mem hk)
  exact ⟨(zs[k] - 1).toNat, by omega, by omega⟩

theorem Ord.getD {zs : List Int} (h : Ord zs) {k : Nat} (hk : k < zs.length) : ∃ m : Nat, zs.getD k 0 = (m : Int) + 1 ∧ m < zs.length := by
  obtain ⟨m, h1, h2⟩ := h.at hk
  exact ⟨m, by rw [← h1]; simp [hk], h2⟩

/-- How many of a list are less than a number. -/
def cl (x : Int) (l : List Int) : Nat := l.countP (fun z => decide (z < x))

theorem cl_nil (x : Int) : cl x [] = 0 := rfl

theorem cl_next {x : Int} {l : List Int} {j : Nat} (hj : j < l.length) : cl x (l.take (j + 1)) = cl x (l.take j) + (if l[j] < x then 1 else 0) := by
  unfold cl
  rw [List.take_succ_eq_append_getElem hj, List.countP_append, List.countP_singleton]
  simp

theorem cl_le (x : Int) (l : List Int) : cl x l ≤ l.length := List.countP_le_length

def fact : Nat → Nat
  | 0 => 1
  | n + 1 => (n + 1) * fact n

theorem fact_step (n : Nat) : fact n ≤ fact (n + 1) := by
  show fact n ≤ (n + 1) * fact n
  exact Nat.le_mul_of_pos_left _ (Nat.succ_pos _)

theorem fact_pos (n : Nat) : 1 ≤ fact n := by
  induction n with
  | zero => exact Nat.le_refl _
  | succ n ih => exact Nat.le_trans ih (fact_step n)

theorem fact_mono {a b : Nat} (h : a ≤ b) : fact a ≤ fact b := by
  induction h with
  | refl => exact Nat.le_refl _
  | step _ ih => exact Nat.le_trans ih (fact_step _)

theorem fact_7 {a : Nat} (h : a ≤ 7) : fact a ≤ 5040 := fact_mono h
theorem fact_6 {a : Nat} (h : a ≤ 6) : fact a ≤ 720 := fact_mono h

/-- How many numbers behind a place are less than the one at it. -/
def lessAt (zs : List Int) (i : Nat) : Nat := cl (zs.getD i 0) (zs.drop (i + 1))

theorem lessAt_le (zs : List Int) (i : Nat) : lessAt zs i ≤ zs.length - (i + 1) := by
  have := cl_le (zs.getD i 0) (zs.drop (i + 1)); rw [List.length_drop] at this; exact this

/-- The rank as a sum. -/
def rankS (zs : List Int) : Nat → Nat
  | 0 => 0
  | k + 1 => rankS zs k + lessAt zs k * fact (zs.length - 1 - k)

/-- The rank, digit by digit. -/
def rankH (zs : List Int) : Nat → Nat
  | 0 => 0
  | k + 1 => rankH zs k * (zs.length - k) + lessAt zs k

theorem rank_eq (zs : List Int) : ∀ k, k ≤ zs.length → rankH zs k * fact (zs.length - k) = rankS zs k := by
  intro k
  induction k with
  | zero => intro _; simp [rankH, rankS]
  | succ k ih =>
    intro hk
    have h1 := ih (by omega)
    have e : zs.length - k = (zs.length - (k + 1)) + 1 := by omega
    have e2 : zs.length - 1 - k = zs.length - (k + 1) := by omega
    have ef : fact (zs.length - k) = (zs.length - k) * fact (zs.length - (k + 1)) := by rw [e]; rfl
    unfold rankH rankS
    rw [← h1, e2, ef, Nat.add_mul, Nat.mul_assoc]

theorem rankS_le (zs : List Int) (h7 : zs.length ≤ 7) : ∀ k, k ≤ zs.length → rankS zs k ≤ 4320 * k := by
  intro k
  induction k with
  | zero => intro _; simp [rankS]
  | succ k ih =>
    intro hk
    have h1 := ih (by omega)
    have h2 := lessAt_le zs k
    have h3 := fact_6 (a := zs.length - 1 - k) (by omega)
    have h4 : lessAt zs k * fact (zs.length - 1 - k) ≤ 6 * 720 := Nat.mul_le_mul (by omega) h3
    unfold rankS
    omega

theorem rankH_le (zs : List Int) (h7 : zs.length ≤ 7) (k : Nat) (hk : k ≤ zs.length) : rankH zs k ≤ 30240 := by
  have h1 := rank_eq zs k hk
  have h2 := rankS_le zs h7 k hk
  have h3 : rankH zs k ≤ rankH zs k * fact (zs.length - k) := Nat.le_mul_of_pos_right _ (fact_pos _)
  omega

theorem rank_end (zs : List Int) : rankH zs zs.length = rankS zs zs.length := by
  have := rank_eq zs zs.length (Nat.le_refl _)
  simpa [fact] using this

/-- How many pairs have the greater number first, over the first places. -/
def invTo (zs : List Int) : Nat → Nat
  | 0 => 0
  | k + 1 => invTo zs k + lessAt zs k

theorem invTo_le (zs : List Int) (h7 : zs.length ≤ 7) : ∀ k, k ≤ zs.length → invTo zs k ≤ 7 * k := by
  intro k
  induction k with
  | zero => intro _; simp [invTo]
  | succ k ih => intro hk; have h1 := ih (by omega); have h2 := lessAt_le zs k; unfold invTo; omega

/-- The sorted order. -/
def iota (n : Nat) : List Int := (List.range n).map fun (i : Nat) => (i : Int) + 1

theorem iota_len (n : Nat) : (iota n).length = n := by simp [iota]

theorem iota_at (n k : Nat) (h : k < n) : (iota n)[k]'(by rw [iota_len]; exact h) = (k : Int) + 1 := by simp [iota]

theorem iota_next (n : Nat) : iota (n + 1) = iota n ++ [(n : Int) + 1] := by unfold iota; rw [List.range_succ, List.map_append]; rfl

/-- The order with a rank, out of the numbers that are left. -/
def atRun : Nat → List Int → Nat → List Int
  | 0, _, _ => []
  | m + 1, left, k => left.getD (k / fact m) 0 :: atRun m (left.eraseIdx (k / fact m)) (k % fact m)

theorem atRun_len : ∀ (m : Nat) (left : List Int) (k : Nat), (atRun m left k).length = m
  | 0, _, _ => rfl
  | m + 1, left, k => by unfold atRun; simp [atRun_len m]

/-! ### The answers -/
def backAns (zs : List Int) : List Int × Bool := if Ord zs then (zs.reverse, true) else ([], false)
def otherAns (zs : List Int) : List Int × Bool := if Ord zs then (zs.map (fun z => (zs.length : Int) + 1 - z), true) else ([], false)
/-- The inverse, place by place. -/
def invOf (zs : List Int) : Nat → List Int
  | 0 => List.replicate zs.length 0
  | k + 1 => (invOf zs k).set (zs.getD k 0 - 1).toNat ((k : Int) + 1)
theorem invOf_len (zs : List Int) : ∀ k, (invOf zs k).length = zs.length
  | 0 => by simp [invOf]
  | k + 1 => by simp [invOf, invOf_len zs k]
def inverseAns (zs : List Int) : List Int × Bool := if Ord zs then (invOf zs zs.length, true) else ([], false)
def composeAns (xs ys : List Int) : List Int × Bool := if Ord xs ∧ Ord ys ∧ xs.length = ys.length then (ys.map (fun y => xs.getD (y - 1).toNat 0), true) else ([], false)
def rankAns (zs : List Int) : Int × Bool := if Ord zs then ((rankS zs zs.length : Nat), true) else (0, false)
def invsAns (zs : List Int) : Int × Bool := if Ord zs then ((invTo zs zs.length : Nat), true) else (0, false)
def atAns (n k : Int) : List Int × Bool := if 1 ≤ n ∧ n ≤ 7 ∧ 0 ≤ k ∧ k < (fact n.toNat : Int) then (atRun n.toNat (iota n.toNat) k.toNat, true) else ([], false)

theorem back_len {zs xs : List Int} {b : Bool} (h : backAns zs = (xs, b)) : xs.length ≤ 1048576 := by
  unfold backAns at h; split at h
  · rename_i ho; cases h; have := ho.2.1; simp; omega
  · cases h; simp
theorem other_len {zs xs : List Int} {b : Bool} (h : otherAns zs = (xs, b)) : xs.length ≤ 1048576 := by
  unfold otherAns at h; split at h
  · rename_i ho; cases h; have := ho.2.1; simp; omega
  · cases h; simp
theorem inverse_len {zs xs : List Int} {b : Bool} (h : inverseAns zs = (xs, b)) : xs.length ≤ 1048576 := by
  unfold inverseAns at h; split at h
  · rename_i ho; cases h; have := ho.2.1; rw [invOf_len]; omega
  · cases h; simp
theorem compose_len {xs ys zs : List Int} {b : Bool} (h : composeAns xs ys = (zs, b)) : zs.length ≤ 1048576 := by
  unfold composeAns at h; split at h
  · rename_i ho; cases h; have := ho.2.1.2.1; simp; omega
  · cases h; simp
theorem at_len {n k : Int} {zs : List Int} {b : Bool} (h : atAns n k = (zs, b)) : zs.length ≤ 1048576 := by
  unfold atAns at h; split at h
  · rename_i ho; cases h; rw [atRun_len]; omega
  · cases h; simp

end Go.Proofs.YtnhhnffolmgceaaGreat.OrdMath

end

section
namespace Go.Proofs.YtnhhnffolmgceaaGreat.WordMath

/-- The byte at a place. -/
def byt (w : ByteArray) (k : Nat) : UInt8 := w.data.toList.getD k 0

theorem byt_at (w : ByteArray) (k : Nat) (h : k < w.size) : byt w k = w[k] := by
  have h2 : k < w.data.toList.length := by rw [Array.length_toList]; exact h
  unfold byt
  rw [List.getD_eq_getElem?_getD, List.getElem?_eq_getElem h2]
  simp
  rfl

/-- One sign. -/
def stepOf (c : UInt8) (d : Nat) : Option Nat := if c = 73 then some (d + 1) else if c = 79 ∧ 0 < d then some (d - 1) else none

/-- How many numbers are on the stack behind the first signs. -/
def heldTo (w : ByteArray) : Nat → Option Nat
  | 0 => some 0
  | k + 1 => (heldTo w k).bind (stepOf (byt w k))

theorem held_I {w : ByteArray} {k d : Nat} (h : heldTo w k = some d) (hc : byt w k = 73) : heldTo w (k + 1) = some (d + 1) := by
  simp [heldTo, h, stepOf, hc]

theorem held_O {w : ByteArray} {k d : Nat} (h : heldTo w k = some d) (hc : byt w k = 79) (hd : 0 < d) : heldTo w (k + 1) = some (d - 1) := by
  simp [heldTo, h, stepOf, hc, hd]

theorem held_bad {w : ByteArray} {k d : Nat} (h : heldTo w k = some d) (h1 : byt w k ≠ 73) (h2 : ¬ (byt w k = 79 ∧ 0 < d)) : heldTo w (k + 1) = none := by
  simp [heldTo, h, stepOf, h1, h2]

theorem held_none {w : ByteArray} {k : Nat} (h : heldTo w k = none) : ∀ m, heldTo w (k + m) = none
  | 0 => h
  | m + 1 => by show (heldTo w (k + m)).bind _ = none; rw [held_none h m]; rfl

theorem held_cases {w : ByteArray} {k e : Nat} (h : heldTo w (k + 1) = some e) : ∃ d, heldTo w k = some d ∧ ((byt w k = 73 ∧ e = d + 1) ∨ (byt w k = 79 ∧ 0 < d ∧ e = d - 1)) := by
  cases hk : heldTo w k with
  | none => simp [heldTo, hk] at h
  | some d =>
    refine ⟨d, rfl, ?_⟩
    by_cases h1 : byt w k = 73
    · rw [held_I hk h1] at h; cases h; exact .inl ⟨h1, rfl⟩
    · by_cases h2 : byt w k = 79 ∧ 0 < d
      · rw [held_O hk h2.1 h2.2] at h; cases h; exact .inr ⟨h2.1, h2.2, rfl⟩
      · rw [held_bad hk h1 h2] at h; cases h

theorem held_back {w : ByteArray} : ∀ (m k e : Nat), heldTo w (k + m) = some e → ∃ d, heldTo w k = some d ∧ d ≤ e + m ∧ e ≤ d + m
  | 0, k, e, h => ⟨e, h, by omega, by omega⟩
  | m + 1, k, e, h => by
    obtain ⟨d, hd, hc⟩ := held_cases (k := k + m) h
    obtain ⟨c, h1, h2, h3⟩ := held_back m k d hd
    exact ⟨c, h1, by rcases hc with ⟨_, rfl⟩ | ⟨_, _, rfl⟩ <;> omega, by rcases hc with ⟨_, rfl⟩ | ⟨_, _, rfl⟩ <;> omega⟩

theorem held_parity {w : ByteArray} : ∀ (k d : Nat), heldTo w k = some d → d % 2 = k % 2 ∧ d ≤ k
  | 0, d, h => by cases h; exact ⟨rfl, Nat.le_refl _⟩
  | k + 1, e, h => by
    obtain ⟨d, hd, hc⟩ := held_cases h
    have := held_parity k d hd
    rcases hc with ⟨_, rfl⟩ | ⟨_, _, rfl⟩ <;> omega

/-- A text is a word. -/
def Word (w : ByteArray) : Prop := 2 ≤ w.size ∧ w.size ≤ 14 ∧ heldTo w w.size = some 0

instance (w : ByteArray) : Decidable (Word w) := by unfold Word; infer_instance

def isWord (w : ByteArray) : Bool := decide (Word w)

theorem word_even {w : ByteArray} (h : Word w) : w.size = 2 * (w.size / 2) := by
  have := (held_parity _ _ h.2.2).1; omega

theorem word_bad {w : ByteArray} {k : Nat} (hk : k ≤ w.size) (h : heldTo w k = none) : isWord w = false := by
  unfold isWord; rw [decide_eq_false_iff_not]; rintro ⟨_, _, h3⟩
  obtain ⟨m, hm⟩ : ∃ m, w.size = k + m := ⟨w.size - k, by omega⟩
  rw [hm, held_none h m] at h3
  cases h3

theorem word_ends {w : ByteArray} {d : Nat} (h : heldTo w w.size = some d) (hd : d ≠ 0) : isWord w = false := by
  unfold isWord; rw [decide_eq_false_iff_not]; rintro ⟨_, _, h3⟩; rw [h] at h3; cases h3; exact hd rfl

theorem word_size {w : ByteArray} (h : w.size = 0 ∨ 14 < w.size) : isWord w = false := by
  unfold isWord; rw [decide_eq_false_iff_not]; rintro ⟨h1, h2, _⟩; omega

theorem word_yes {w : ByteArray} (h : heldTo w w.size = some 0) (h0 : w.size ≠ 0) (h14 : w.size ≤ 14) : isWord w = true := by
  unfold isWord; rw [decide_eq_true_iff]
  have := (held_parity _ _ h).1
  exact ⟨by omega, h14, h⟩

/-- In a word each sign is a push or a pop of what is there. -/
theorem Word.at {w : ByteArray} (h : Word w) {k : Nat} (hk : k < w.size) : ∃ d, heldTo w k = some d ∧ d ≤ w.size - k ∧ d ≤ k ∧ ((byt w k = 73 ∧ heldTo w (k + 1) = some (d + 1) ∧ d + 1 ≤ w.size - (k + 1)) ∨ (byt w k = 79 ∧ 0 < d ∧ heldTo w (k + 1) = some (d - 1))) := by
  obtain ⟨m, hm⟩ : ∃ m, w.size = (k + 1) + m := ⟨w.size - (k + 1), by omega⟩
  have h3 := h.2.2
  rw [hm] at h3
  obtain ⟨e, he, h1, h2⟩ := held_back m (k + 1) 0 h3
  obtain ⟨d, hd, hc⟩ := held_cases he
  have hp := held_parity _ _ hd
  refine ⟨d, hd, by rcases hc with ⟨_, rfl⟩ | ⟨_, _, rfl⟩ <;> omega, hp.2, ?_⟩
  rcases hc with ⟨h4, rfl⟩ | ⟨h4, h5, rfl⟩
  · exact .inl ⟨h4, he, by omega⟩
  · exact .inr ⟨h4, h5, he⟩

/-- The depth of the first signs. -/
def depthTo (w : ByteArray) : Nat → Nat
  | 0 => 0
  | k + 1 => max (depthTo w k) ((heldTo w (k + 1)).getD 0)

theorem depth_next {w : ByteArray} {k e : Nat} (h : heldTo w (k + 1) = some e) : depthTo w (k + 1) = max (depthTo w k) e := by simp [depthTo, h]

theorem depth_le {w : ByteArray} : ∀ k, depthTo w k ≤ k
  | 0 => Nat.le_refl _
  | k + 1 => by
    have := depth_le (w := w) k
    cases hk : heldTo w (k + 1) with
    | none => simp [depthTo, hk]; omega
    | some e => rw [depth_next hk]; have := (held_parity _ _ hk).2; omega

def depthAns (w : ByteArray) : Int × Bool := if Word w then ((depthTo w w.size : Nat), true) else (0, false)

/-- The other sign. -/
def mir (c : UInt8) : UInt8 := if c = 73 then 79 else 73

def mirList (w : ByteArray) : List UInt8 := w.data.toList.reverse.map mir

theorem mirList_len (w : ByteArray) : (mirList w).length = w.size := by unfold mirList; rw [List.length_map, List.length_reverse, Array.length_toList]; rfl

theorem mirList_at (w : ByteArray) (k : Nat) (h : k < w.size) : (mirList w)[w.size - 1 - k]'(by rw [mirList_len]; omega) = mir (byt w k) := by
  have h2 : k < w.data.toList.length := by rw [Array.length_toList]; exact h
  have hl : w.data.toList.length = w.size := by rw [Array.length_toList]; rfl
  unfold mirList byt
  rw [List.getElem_map, List.getElem_reverse, List.getD_eq_getElem?_getD, List.getElem?_eq_getElem h2, Option.getD_some]
  congr 2
  omega

/-- What has come out, what is on the stack, and how many have been pushed, behind the first signs. -/
def runTo (zs : List Int) (w : ByteArray) : Nat → List Int × List Int × Nat
  | 0 => ([], [], 0)
  | k + 1 => let r := runTo zs w k
    if byt w k = 73 then (r.1, r.2.1 ++ [zs.getD r.2.2 0], r.2.2 + 1) else (r.1 ++ [r.2.1.getLast?.getD 0], r.2.1.dropLast, r.2.2)

theorem run_I {zs o s : List Int} {x : Nat} {w : ByteArray} {k : Nat} (h : runTo zs w k = (o, s, x)) (hc : byt w k = 73) : runTo zs w (k + 1) = (o, s ++ [zs.getD x 0], x + 1) := by
  simp [runTo, h, hc]

theorem run_O {zs o s : List Int} {x : Nat} {w : ByteArray} {k : Nat} (h : runTo zs w k = (o, s, x)) (hc : byt w k = 79) : runTo zs w (k + 1) = (o ++ [s.getLast?.getD 0], s.dropLast, x) := by
  simp [runTo, h, hc]

theorem run_len {zs : List Int} {w : ByteArray} : ∀ (k d : Nat), heldTo w k = some d → (runTo zs w k).2.1.length = d ∧ (runTo zs w k).1.length + d = (runTo zs w k).2.2 ∧ (runTo zs w k).1.length + (runTo zs w k).2.2 = k
  | 0, d, h => by cases h; exact ⟨rfl, rfl, rfl⟩
  | k + 1, e, h => by
    obtain ⟨d, hd, hc⟩ := held_cases h
    have ih := run_len (zs := zs) k d hd
    obtain ⟨o, s, x, hr⟩ : ∃ o s x, runTo zs w k = (o, s, x) := ⟨_, _, _, rfl⟩
    rw [hr] at ih
    simp only at ih
    rcases hc with ⟨h1, rfl⟩ | ⟨h1, h2, rfl⟩
    · rw [run_I hr h1]; simp; omega
    · rw [run_O hr h1]; simp; omega

def runOut (zs : List Int) (w : ByteArray) : List Int := (runTo zs w w.size).1

end Go.Proofs.YtnhhnffolmgceaaGreat.WordMath

end

section
namespace Go.Proofs.YtnhhnffolmgceaaGreat.OrdFacts
open OrdMath

theorem perm_of_sub : ∀ (l m : List Int), l.Nodup → (∀ x ∈ l, x ∈ m) → m.length ≤ l.length → l.Perm m
  | [], m, _, _, h => by
    have : m = [] := List.eq_nil_of_length_eq_zero (by simpa using h)
    subst this
    exact List.Perm.refl _
  | a :: l, m, hn, hs, h => by
    have ha : a ∈ m := hs a (by simp)
    have hp := List.perm_cons_erase ha
    have hn2 := List.nodup_cons.1 hn
    have ih := perm_of_sub l (m.erase a) hn2.2 (fun x hx => (List.mem_erase_of_ne (fun e => hn2.1 (by rw [← e]; exact hx))).2 (hs x (by simp [hx]))) (by rw [List.length_erase_of_mem ha]; simp at h; omega)
    exact (ih.cons a).trans hp.symm

theorem mem_iota {n : Nat} {x : Int} : x ∈ iota n ↔ 1 ≤ x ∧ x ≤ (n : Int) := by
  unfold iota
  rw [List.mem_map]
  constructor
  · rintro ⟨i, hi, rfl⟩; rw [List.mem_range] at hi; omega
  · rintro ⟨h1, h2⟩; exact ⟨(x - 1).toNat, by rw [List.mem_range]; omega, by omega⟩

theorem ord_perm {zs : List Int} (h : Ord zs) : zs.Perm (iota zs.length) :=
  perm_of_sub _ _ h.2.2.2 (fun x hx => mem_iota.2 (h.2.2.1 x hx)) (by rw [iota_len]; exact Nat.le_refl _)

theorem iota_sorted (n : Nat) : (iota n).Pairwise (· < ·) := by
  unfold iota
  rw [List.pairwise_map]
  exact (List.pairwise_lt_range (n := n)).imp (fun h => by omega)

theorem ord_of_perm {zs : List Int} {n : Nat} (h : zs.Perm (iota n)) (h1 : 1 ≤ n) (h7 : n ≤ 7) : Ord zs := by
  have hl : zs.length = n := by rw [h.length_eq, iota_len]
  refine ⟨by omega, by omega, fun z hz => by rw [hl]; exact mem_iota.1 (h.mem_iff.1 hz), ?_⟩
  rw [h.nodup_iff]
  exact (iota_sorted n).imp (fun h => by omega)

/-! ### Ranks -/
def rankR : List Int → Nat
  | [] => 0
  | z :: t => cl z t * fact t.length + rankR t

theorem rankS_R (zs : List Int) : ∀ k, k ≤ zs.length → rankS zs k + rankR (zs.drop k) = rankR zs := by
  intro k
  induction k with
  | zero => intro _; simp [rankS]
  | succ k ih =>
    intro hk
    rw [← ih (by omega), List.drop_eq_getElem_cons (show k < zs.length by omega)]
    have e1 : zs.length - 1 - k = zs.length - (k + 1) := by omega
    have e2 : lessAt zs k = cl zs[k] (zs.drop (k + 1)) := by unfold lessAt; congr 1; simp [show k < zs.length by omega]
    show rankS zs k + lessAt zs k * fact (zs.length - 1 - k) + rankR (zs.drop (k + 1)) = rankS zs k + (cl zs[k] (zs.drop (k + 1)) * fact (zs.drop (k + 1)).length + rankR (zs.drop (k + 1)))
    rw [e1, e2, List.length_drop]
    omega

theorem rank_all (zs : List Int) : rankS zs zs.length = rankR zs := by
  have := rankS_R zs zs.length (Nat.le_refl _)
  rw [List.drop_length] at this
  simpa [rankR] using this

theorem rankR_lt : ∀ l : List Int, rankR l < fact l.length
  | [] => by decide
  | z :: t => by
    have h1 := rankR_lt t
    have h2 : cl z t * fact t.length ≤ t.length * fact t.length := Nat.mul_le_mul_right _ (cl_le z t)
    show cl z t * fact t.length + rankR t < (t.length + 1) * fact t.length
    rw [Nat.add_mul]
    omega

theorem cl_cons (x a : Int) (l : List Int) : cl x (a :: l) = cl x l + (if a < x then 1 else 0) := by
  unfold cl; rw [List.countP_cons]; simp

theorem cl_zero {x : Int} {l : List Int} (h : ∀ y ∈ l, x < y) : cl x l = 0 := by
  unfold cl; rw [List.countP_eq_zero]; intro y hy; have := h y hy; simp; omega

theorem cl_self (z : Int) (t : List Int) : cl z (z :: t) = cl z t := by rw [cl_cons]; simp

theorem cl_perm {x : Int} {l m : List Int} (h : l.Perm m) : cl x l = cl x m := h.countP_eq _

theorem sorted_at : ∀ (left : List Int) (z : Int), left.Pairwise (· < ·) → z ∈ left → left.getD (cl z left) 0 = z ∧ cl z left < left.length
  | [], z, _, h => by simp at h
  | a :: l, z, hp, h => by
    rw [List.pairwise_cons] at hp
    by_cases e : z = a
    · subst e
      rw [cl_self, cl_zero hp.1]
      simp
    · have hz : z ∈ l := by simpa [e] using h
      have haz := hp.1 z hz
      have ih := sorted_at l z hp.2 hz
      rw [cl_cons, if_pos haz]
      refine ⟨?_, by simp; omega⟩
      rw [List.getD_cons_succ]
      exact ih.1

theorem sorted_cl : ∀ (left : List Int) (i : Nat), left.Pairwise (· < ·) → i < left.length → cl (left.getD i 0) left = i
  | [], i, _, h => by simp at h
  | a :: l, 0, hp, _ => by
    rw [List.pairwise_cons] at hp
    show cl a (a :: l) = 0
    rw [cl_self, cl_zero hp.1]
  | a :: l, i + 1, hp, h => by
    rw [List.pairwise_cons] at hp
    have hi : i < l.length := by simpa using h
    have ih := sorted_cl l i hp.2 hi
    rw [List.getD_cons_succ, cl_cons, ih, if_pos]
    have : l.getD i 0 = l[i] := by simp [hi]
    rw [this]
    exact hp.1 _ (List.getElem_mem hi)

theorem erase_perm : ∀ {left : List Int} {i : Nat}, i < left.length → (left.getD i 0 :: left.eraseIdx i).Perm left
  | [], i, h => by simp at h
  | a :: l, 0, _ => List.Perm.refl _
  | a :: l, i + 1, h => by
    rw [List.getD_cons_succ, List.eraseIdx_cons_succ]
    exact (List.Perm.swap _ _ _).trans ((erase_perm (left := l) (i := i) (by simpa using h)).cons a)

theorem at_rank : ∀ (zs left : List Int), left.Pairwise (· < ·) → zs.Perm left → atRun zs.length left (rankR zs) = zs
  | [], _, _, _ => rfl
  | z :: t, left, hp, hz => by
    have hF := fact_pos t.length
    have hr := rankR_lt t
    have hc : cl z left = cl z t := by rw [← cl_perm hz, cl_self]
    have hs := sorted_at left z hp (hz.mem_iff.1 (by simp))
    rw [hc] at hs
    have hdiv : (cl z t * fact t.length + rankR t) / fact t.length = cl z t := by
      rw [Nat.add_comm, Nat.add_mul_div_right _ _ (by omega), Nat.div_eq_of_lt hr, Nat.zero_add]
    have hmod : (cl z t * fact t.length + rankR t) % fact t.length = rankR t := by
      rw [Nat.add_comm, Nat.add_mul_mod_self_right, Nat.mod_eq_of_lt hr]
    show left.getD ((cl z t * fact t.length + rankR t) / fact t.length) 0 :: atRun t.length (left.eraseIdx ((cl z t * fact t.length + rankR t) / fact t.length)) ((cl z t * fact t.length + rankR t) % fact t.length) = z :: t
    rw [hdiv, hmod, hs.1]
    have he := erase_perm hs.2
    rw [hs.1] at he
    have hp2 : t.Perm (left.eraseIdx (cl z t)) := (he.trans hz.symm).symm.cons_inv
    rw [at_rank t _ (hp.sublist (List.eraseIdx_sublist left _)) hp2]

theorem rank_at : ∀ (m : Nat) (left : List Int) (k : Nat), left.length = m → left.Pairwise (· < ·) → k < fact m → (atRun m left k).Perm left ∧ rankR (atRun m left k) = k
  | 0, left, k, hl, _, hk => by
    have : left = [] := List.eq_nil_of_length_eq_zero hl
    subst this
    have : k = 0 := by simp [fact] at hk; exact hk
    subst this
    exact ⟨List.Perm.refl _, rfl⟩
  | m + 1, left, k, hl, hp, hk => by
    have hF := fact_pos m
    have hi : k / fact m < left.length := by rw [hl, Nat.div_lt_iff_lt_mul (by omega)]; exact hk
    have he := erase_perm hi
    have hel : (left.eraseIdx (k / fact m)).length = m := by rw [List.length_eraseIdx, if_pos hi]; omega
    obtain ⟨h1, h2⟩ := rank_at m (left.eraseIdx (k / fact m)) (k % fact m) hel (hp.sublist (List.eraseIdx_sublist left _)) (Nat.mod_lt _ (by omega))
    have hcl := sorted_cl left (k / fact m) hp hi
    rw [← cl_perm he, cl_self] at hcl
    refine ⟨(h1.cons _).trans he, ?_⟩
    show cl (left.getD (k / fact m) 0) (atRun m (left.eraseIdx (k / fact m)) (k % fact m)) * fact (atRun m (left.eraseIdx (k / fact m)) (k % fact m)).length + rankR (atRun m (left.eraseIdx (k / fact m)) (k % fact m)) = k
    rw [cl_perm h1, hcl, atRun_len, h2]
    exact Nat.div_add_mod' k (fact m)

theorem at_of_rank {zs : List Int} (h : Ord zs) : rankS zs zs.length < fact zs.length ∧ atRun zs.length (iota zs.length) (rankS zs zs.length) = zs := by
  rw [rank_all]
  exact ⟨rankR_lt zs, at_rank zs _ (iota_sorted _) (ord_perm h)⟩

theorem rank_of_at {n k : Nat} (h1 : 1 ≤ n) (h7 : n ≤ 7) (hk : k < fact n) : Ord (atRun n (iota n) k) ∧ rankS (atRun n (iota n) k) (atRun n (iota n) k).length = k := by
  have h := rank_at n (iota n) k (iota_len n) (iota_sorted n) hk
  exact ⟨ord_of_perm h.1 h1 h7, by rw [rank_all]; exact h.2⟩

/-! ### Inversions -/
def invR : List Int → Nat
  | [] => 0
  | z :: t => cl z t + invR t

theorem invTo_R (zs : List Int) : ∀ k, k ≤ zs.length → invTo zs k + invR (zs.drop k) = invR zs := by
  intro k
  induction k with
  | zero => intro _; simp [invTo]
  | succ k ih =>
    intro hk
    rw [← ih (by omega), List.drop_eq_getElem_cons (show k < zs.length by omega)]
    have e2 : lessAt zs k = cl zs[k] (zs.drop (k + 1)) := by unfold lessAt; congr 1; simp [show k < zs.length by omega]
    show invTo zs k + lessAt zs k + invR (zs.drop (k + 1)) = invTo zs k + (cl zs[k] (zs.drop (k + 1)) + invR (zs.drop (k + 1)))
    rw [e2]; omega

theorem inv_all (zs : List Int) : invTo zs zs.length = invR zs := by
  have := invTo_R zs zs.length (Nat.le_refl _)
  rw [List.drop_length] at this
  simpa [invR] using this

def gt (x : Int) (l : List Int) : Nat := l.countP (fun z => decide (x < z))

theorem invR_snoc (z : Int) : ∀ l : List Int, invR (l ++ [z]) = invR l + gt z l
  | [] => by simp [invR, cl, gt]
  | a :: l => by
    show cl a (l ++ [z]) + invR (l ++ [z]) = cl a l + invR l + gt z (a :: l)
    rw [invR_snoc z l]
    unfold cl gt
    rw [List.countP_append]
    simp only [List.countP_cons, List.countP_nil]
    omega

theorem cl_gt {z : Int} : ∀ {t : List Int}, z ∉ t → cl z t + gt z t = t.length
  | [], _ => rfl
  | a :: t, h => by
    have ih := cl_gt (z := z) (t := t) (fun e => h (by simp [e]))
    have hne : z ≠ a := fun e => h (by simp [e])
    unfold cl gt at *
    rw [List.countP_cons, List.countP_cons]
    by_cases h1 : a < z
    · have h2 : ¬ z < a := by omega
      simp [h1, h2]; omega
    · have h2 : z < a := by omega
      simp [h1, h2]; omega

def tri : Nat → Nat
  | 0 => 0
  | n + 1 => tri n + n

theorem inv_rev : ∀ l : List Int, l.Nodup → invR l.reverse + invR l = tri l.length
  | [], _ => rfl
  | z :: t, h => by
    have hn := List.nodup_cons.1 h
    have ih := inv_rev t hn.2
    have hg : gt z t.reverse = gt z t := by unfold gt; rw [List.countP_reverse]
    have hcg := cl_gt hn.1
    rw [List.reverse_cons, invR_snoc, hg]
    show invR t.reverse + gt z t + (cl z t + invR t) = tri t.length + t.length
    omega

theorem tri_is : ∀ n, n ≤ 7 → (tri n : Int) = ((n : Int) * ((n : Int) - 1)).tdiv 2 := by
  intro n hn
  have : n = 0 ∨ n = 1 ∨ n = 2 ∨ n = 3 ∨ n = 4 ∨ n = 5 ∨ n = 6 ∨ n = 7 := by omega
  rcases this with rfl | rfl | rfl | rfl | rfl | rfl | rfl | rfl <;> decide

theorem few_many {zs : List Int} (h : Ord zs) : invTo zs.reverse zs.reverse.length + invTo zs zs.length = tri zs.length := by
  rw [inv_all, inv_all]; exact inv_rev zs h.2.2.2

/-! ### Orders turned -/
theorem ord_reverse {zs : List Int} (h : Ord zs) : Ord zs.reverse := by
  refine ⟨by simpa using h.1, by simpa using h.2.1, fun z hz => ?_, ?_⟩
  · have := h.2.2.1 z (by simpa using hz); simpa using this
  · exact ((List.reverse_perm zs).nodup_iff).2 h.2.2.2

def other (zs : List Int) : List Int := zs.map (fun z => (zs.length : Int) + 1 - z)

theorem ord_other {zs : List Int} (h : Ord zs) : Ord (other zs) := by
  refine ⟨by simpa [other] using h.1, by simpa [other] using h.2.1, fun z hz => ?_, ?_⟩
  · unfold other at hz
    rw [List.mem_map] at hz
    obtain ⟨y, hy, rfl⟩ := hz
    have := h.2.2.1 y hy
    simp [other]; omega
  · unfold other List.Nodup
    rw [List.pairwise_map]
    exact h.2.2.2.imp (fun h => by omega)

theorem other_other (zs : List Int) : other (other zs) = zs := by
  unfold other
  rw [List.map_map, List.length_map]
  conv => rhs; rw [← List.map_id zs]
  apply List.map_congr_left
  intro z _
  show (zs.length : Int) + 1 - ((zs.length : Int) + 1 - z) = z
  omega

theorem getD_set_same (l : List Int) (p : Nat) (z : Int) (h : p < l.length) : (l.set p z).getD p 0 = z := by simp [h]
theorem getD_set_other (l : List Int) (p q : Nat) (z : Int) (h : p ≠ q) : (l.set p z).getD q 0 = l.getD q 0 := by
  rw [List.getD_eq_getElem?_getD, List.getElem?_set_ne h, List.getD_eq_getElem?_getD]

theorem inv_get {zs : List Int} (h : Ord zs) : ∀ k, k ≤ zs.length → ∀ j, j < k → (invOf zs k).getD (zs.getD j 0 - 1).toNat 0 = (j : Int) + 1 := by
  intro k
  induction k with
  | zero => intro _ j hj; omega
  | succ k ih =>
    intro hk j hj
    obtain ⟨m, hm, hm2⟩ := h.getD (k := k) (by omega)
    show ((invOf zs k).set (zs.getD k 0 - 1).toNat ((k : Int) + 1)).getD (zs.getD j 0 - 1).toNat 0 = (j : Int) + 1
    by_cases e : j = k
    · subst e
      rw [getD_set_same _ _ _ (by rw [invOf_len, hm]; omega)]
    · obtain ⟨q, hq, hq2⟩ := h.getD (k := j) (by omega)
      rw [getD_set_other _ _ _ _ (by
        intro e2
        have e3 : zs.getD k 0 = zs.getD j 0 := by omega
        have e4 : zs[k]'(by omega) = zs[j]'(by omega) := by simpa [show k < zs.length by omega, show j < zs.length by omega] using e3
        have := (List.getElem_inj h.2.2.2).1 e4
        omega)]
      exact ih (by omega) j (by omega)

theorem ord_surj {zs : List Int} (h : Ord zs) {p : Nat} (hp : p < zs.length) : ∃ j, j < zs.length ∧ zs.getD j 0 = (p : Int) + 1 := by
  have h1 : ((p : Int) + 1) ∈ zs := (ord_perm h).mem_iff.2 (mem_iota.2 (by omega))
  obtain ⟨j, hj, e⟩ := List.mem_iff_getElem.1 h1
  exact ⟨j, hj, by rw [← e]; simp [hj]⟩

theorem inv_at {zs : List Int} (h : Ord zs) {p : Nat} (hp : p < zs.length) : ∃ j, j < zs.length ∧ zs.getD j 0 = (p : Int) + 1 ∧ (invOf zs zs.length).getD p 0 = (j : Int) + 1 := by
  obtain ⟨j, hj, e⟩ := ord_surj h hp
  refine ⟨j, hj, e, ?_⟩
  have h1 := inv_get h zs.length (Nat.le_refl _) j hj
  rw [e] at h1
  have e2 : ((p : Int) + 1 - 1).toNat = p := by omega
  rw [e2] at h1
  exact h1

theorem getD_getElem {l : List Int} {i : Nat} (h : i < l.length) : l[i] = l.getD i 0 := by simp [h]

theorem ord_inverse {zs : List Int} (h : Ord zs) : Ord (invOf zs zs.length) := by
  have hl := invOf_len zs zs.length
  refine ⟨by rw [hl]; exact h.1, by rw [hl]; exact h.2.1, fun z hz => ?_, ?_⟩
  · obtain ⟨p, hp, e⟩ := List.mem_iff_getElem.1 hz
    obtain ⟨j, hj, _, e2⟩ := inv_at h (p := p) (by omega)
    rw [← e, getD_getElem hp, e2, hl]; omega
  · unfold List.Nodup
    rw [List.pairwise_iff_getElem]
    intro i j hi hj hij
    obtain ⟨a, ha, e1, e2⟩ := inv_at h (p := i) (by omega)
    obtain ⟨b, hb, e3, e4⟩ := inv_at h (p := j) (by omega)
    rw [getD_getElem hi, getD_getElem hj, e2, e4]
    intro e
    have : a = b := by omega
    subst this
    omega

theorem inverse_inverse {zs : List Int} (h : Ord zs) : invOf (invOf zs zs.length) (invOf zs zs.length).length = zs := by
  have hl := invOf_len zs zs.length
  have hi := ord_inverse h
  apply List.ext_getElem
  · rw [invOf_len, hl]
  · intro j h1 h2
    obtain ⟨m, hm, hm2⟩ := h.getD (k := j) h2
    have e1 := inv_get h zs.length (Nat.le_refl _) j h2
    rw [hm] at e1
    have e3 : ((m : Int) + 1 - 1).toNat = m := by omega
    rw [e3] at e1
    have e2 := inv_get hi (invOf zs zs.length).length (Nat.le_refl _) m (by rw [hl]; exact hm2)
    rw [e1] at e2
    have e4 : ((j : Int) + 1 - 1).toNat = j := by omega
    rw [e4] at e2
    rw [getD_getElem h1, e2, getD_getElem h2, hm]

theorem compose_inverse {zs : List Int} (h : Ord zs) : (invOf zs zs.length).map (fun y => zs.getD (y - 1).toNat 0) = iota zs.length := by
  have hl := invOf_len zs zs.length
  apply List.ext_getElem
  · rw [List.length_map, hl, iota_len]
  · intro p h1 h2
    have hp : p < zs.length := by rw [iota_len] at h2; exact h2
    obtain ⟨j, hj, e1, e2⟩ := inv_at h hp
    rw [List.getElem_map, getD_getElem (by rw [hl]; exact hp), e2, iota_at _ _ hp]
    have e3 : ((j : Int) + 1 - 1).toNat = j := by omega
    rw [e3, e1]

end Go.Proofs.YtnhhnffolmgceaaGreat.OrdFacts

end

section
namespace Go.Proofs.YtnhhnffolmgceaaGreat.PatMath
open OrdMath OrdFacts

/-! ### Shapes -/
def shp (zs : List Int) : List Int := zs.map (fun z => 1 + (cl z zs : Int))

theorem shp_len (zs : List Int) : (shp zs).length = zs.length := by simp [shp]

theorem cl_le_of_le {a b : Int} (h : a ≤ b) : ∀ l : List Int, cl a l ≤ cl b l
  | [] => Nat.le_refl _
  | x :: l => by
    have ih := cl_le_of_le h l
    rw [cl_cons, cl_cons]
    by_cases h1 : x < a
    · rw [if_pos h1, if_pos (by omega)]; omega
    · rw [if_neg h1]; omega

theorem cl_lt_of_lt {a b : Int} (h : a < b) : ∀ {l : List Int}, a ∈ l → cl a l < cl b l
  | [], hm => by simp at hm
  | x :: l, hm => by
    rw [cl_cons, cl_cons]
    have hle := cl_le_of_le (Int.le_of_lt h) l
    by_cases e : a = x
    · subst e
      rw [if_neg (by omega), if_pos h]; omega
    · have ih := cl_lt_of_lt h (l := l) (by simpa [e] using hm)
      by_cases h1 : x < a
      · rw [if_pos h1, if_pos (by omega)]; omega
      · rw [if_neg h1]; omega

theorem cl_iff {a b : Int} {l : List Int} (ha : a ∈ l) : cl a l < cl b l ↔ a < b := by
  constructor
  · intro h
    by_cases h1 : a < b
    · exact h1
    · have := cl_le_of_le (a := b) (b := a) (by omega) l; omega
  · intro h; exact cl_lt_of_lt h ha

theorem cl_lt_len {a : Int} : ∀ {l : List Int}, a ∈ l → cl a l < l.length
  | [], hm => by simp at hm
  | x :: l, hm => by
    rw [cl_cons]
    have hle := cl_le a l
    by_cases e : a = x
    · subst e; simp; omega
    · have ih := cl_lt_len (l := l) (by simpa [e] using hm)
      simp only [List.length_cons]
      split <;> omega

theorem getD_mem {zs : List Int} {i : Nat} (h : i < zs.length) : zs.getD i 0 ∈ zs := by
  have : zs.getD i 0 = zs[i] := by simp [h]
  rw [this]; exact List.getElem_mem h

theorem shp_at {zs : List Int} {i : Nat} (h : i < zs.length) : (shp zs).getD i 0 = 1 + (cl (zs.getD i 0) zs : Int) := by
  simp [shp, h]

/-- Two lists of one length in which numbers stand alike. -/
def Alike (xs ys : List Int) : Prop := xs.length = ys.length ∧ ∀ i j, i < xs.length → j < xs.length → (xs.getD i 0 < xs.getD j 0 ↔ ys.getD i 0 < ys.getD j 0)

theorem Alike.symm {xs ys : List Int} (h : Alike xs ys) : Alike ys xs := ⟨h.1.symm, fun i j hi hj => (h.2 i j (by rw [h.1]; exact hi) (by rw [h.1]; exact hj)).symm⟩

theorem Alike.trans {xs ys zs : List Int} (h : Alike xs ys) (k : Alike ys zs) : Alike xs zs := ⟨h.1.trans k.1, fun i j hi hj => (h.2 i j hi hj).trans (k.2 i j (by rw [← h.1]; exact hi) (by rw [← h.1]; exact hj))⟩

theorem list_idx (l : List Int) : (List.range l.length).map (fun i => l.getD i 0) = l := by
  apply List.ext_getElem
  · simp
  · intro i h1 h2; simp [h2]

theorem cl_idx (x : Int) (l : List Int) : cl x l = (List.range l.length).countP (fun i => decide (l.getD i 0 < x)) := by
  have h : cl x ((List.range l.length).map (fun i => l.getD i 0)) = (List.range l.length).countP (fun i => decide (l.getD i 0 < x)) := by
    unfold cl
    rw [List.countP_map]
    rfl
  rw [list_idx] at h
  exact h

theorem alike_shp {xs ys : List Int} (h : Alike xs ys) : shp xs = shp ys := by
  apply List.ext_getElem
  · rw [shp_len, shp_len]; exact h.1
  · intro i h1 h2
    rw [shp_len] at h1 h2
    have e1 := shp_at h1
    have e2 := shp_at h2
    have g1 : (shp xs).getD i 0 = (shp xs)[i]'(by rw [shp_len]; exact h1) := by simp [shp_len, h1]
    have g2 : (shp ys).getD i 0 = (shp ys)[i]'(by rw [shp_len]; exact h2) := by simp [shp_len, h2]
    rw [g1] at e1
    rw [g2] at e2
    rw [e1, e2, cl_idx, cl_idx, h.1]
    congr 2
    apply List.countP_congr
    intro j hj
    rw [List.mem_range] at hj
    have := h.2 j i (by rw [h.1]; exact hj) h1
    simp only [decide_eq_true_eq]
    exact this

theorem alike_shp_self (zs : List Int) : Alike (shp zs) zs := ⟨shp_len zs, fun i j hi hj => by
  rw [shp_len] at hi hj
  rw [shp_at hi, shp_at hj]
  have := cl_iff (a := zs.getD i 0) (b := zs.getD j 0) (l := zs) (getD_mem hi)
  omega⟩

theorem shp_ordfix {zs : List Int} (h : Ord zs) : shp zs = zs := by
  have hp := ord_perm h
  have : ∀ z ∈ zs, 1 + (cl z zs : Int) = z := by
    intro z hz
    have hb := h.2.2.1 z hz
    rw [cl_perm hp]
    have h1 := sorted_cl (iota zs.length) (z - 1).toNat (iota_sorted _) (by rw [iota_len]; omega)
    have h2 : (iota zs.length).getD (z - 1).toNat 0 = z := by
      have h3 := iota_at zs.length (z - 1).toNat (by omega)
      have h4 : (iota zs.length).getD (z - 1).toNat 0 = (iota zs.length)[(z - 1).toNat]'(by rw [iota_len]; omega) := by
        rw [List.getD_eq_getElem?_getD, List.getElem?_eq_getElem (by rw [iota_len]; omega)]; rfl
      rw [h4, h3]
      omega
    rw [h2] at h1
    omega
  unfold shp
  rw [List.map_congr_left this, List.map_id']

theorem shp_iff {xs p : List Int} (hp : Ord p) : shp xs = p ↔ Alike xs p := by
  constructor
  · intro h; rw [← h]; exact (alike_shp_self xs).symm
  · intro h; rw [alike_shp h, shp_ordfix hp]

theorem shp_nodup {zs : List Int} : (shp zs).Nodup ↔ zs.Nodup := by
  unfold shp List.Nodup
  rw [List.pairwise_map]
  constructor
  · intro h
    exact h.imp (fun hne e => hne (by rw [e]))
  · intro h
    refine List.Pairwise.imp_of_mem ?_ h
    intro a b ha hb hne e
    have h1 := cl_iff (a := a) (b := b) (l := zs) ha
    have h2 := cl_iff (a := b) (b := a) (l := zs) hb
    omega

theorem shp_ord {zs : List Int} (h1 : 1 ≤ zs.length) (h7 : zs.length ≤ 7) : Ord (shp zs) ↔ zs.Nodup := by
  constructor
  · intro h; exact shp_nodup.1 h.2.2.2
  · intro h
    refine ⟨by rw [shp_len]; exact h1, by rw [shp_len]; exact h7, ?_, shp_nodup.2 h⟩
    intro z hz
    unfold shp at hz
    rw [List.mem_map] at hz
    obtain ⟨x, hx, rfl⟩ := hz
    have := cl_lt_len hx
    rw [shp_len]
    omega

def shapeAns (zs : List Int) : List Int × Bool := if 1 ≤ zs.length ∧ zs.length ≤ 7 ∧ zs.Nodup then (shp zs, true) else ([], false)

theorem shape_len {zs xs : List Int} {b : Bool} (h : shapeAns zs = (xs, b)) : xs.length ≤ 1048576 := by
  unfold shapeAns at h; split at h
  · rename_i ho; cases h; rw [shp_len]; omega
  · cases h; simp

/-! ### Places -/
def behind (b : List Nat) : Nat := match b.getLast? with | none => 0 | some p => p + 1

theorem behind_snoc (b : List Nat) (p : Nat) : behind (b ++ [p]) = p + 1 := by simp [behind]

def nexts (n r : Nat) (b : List Nat) : List (List Nat) := (List.range' (behind b) (n - r - behind b)).map (fun p => b ++ [p])

/-- Level by level. -/
def lev (n c : Nat) (f : List Nat → Bool) : Nat → List (List Nat)
  | 0 => [[]]
  | l + 1 => (lev n c f l).flatMap (fun b => (nexts n (c - 1 - l) b).filter f)

/-- One behind the other. -/
def dfs (n : Nat) (f : List Nat → Bool) : Nat → List Nat → List (List Nat)
  | 0, b => [b]
  | r + 1, b => ((nexts n r b).filter f).flatMap (dfs n f r)

theorem lev_len {n c : Nat} {f : List Nat → Bool} : ∀ l, ∀ q ∈ lev n c f l, q.length = l
  | 0, q, h => by simp [lev] at h; simp [h]
  | l + 1, q, h => by
    unfold lev at h
    rw [List.mem_flatMap] at h
    obtain ⟨b, hb, hq⟩ := h
    have ih := lev_len l b hb
    have hq := (List.mem_filter.1 hq).1
    unfold nexts at hq
    rw [List.mem_map] at hq
    obtain ⟨p, _, rfl⟩ := hq
    simp [ih]

theorem lev_dfs (n c : Nat) (f : List Nat → Bool) : ∀ l, l ≤ c → (lev n c f l).flatMap (dfs n f (c - l)) = dfs n f c []
  | 0, _ => by simp [lev]
  | l + 1, h => by
    have ih := lev_dfs n c f l (by omega)
    rw [← ih]
    have e : c - l = (c - (l + 1)) + 1 := by omega
    have e2 : c - 1 - l = c - (l + 1) := by omega
    rw [e]
    show ((lev n c f l).flatMap (fun b => (nexts n (c - 1 - l) b).filter f)).flatMap _ = _
    rw [List.flatMap_assoc, e2]
    rfl

theorem flat_single {α : Type} (l : List α) : l.flatMap (fun b => [b]) = l := by
  induction l with
  | nil => rfl
  | cons a l ih => simp [ih]

theorem lev_all_dfs (n c : Nat) (f : List Nat → Bool) : lev n c f c = dfs n f c [] := by
  have h := lev_dfs n c f c (Nat.le_refl _)
  rw [Nat.sub_self] at h
  have e : (dfs n f 0 : List Nat → List (List Nat)) = (fun b => [b]) := by funext b; rfl
  rw [e, flat_single] at h
  exact h

/-- All lists of places that go on from some. -/
def ch (n : Nat) : Nat → List Nat → List (List Nat)
  | 0, b => [b]
  | r + 1, b => (List.range' (behind b) (n - behind b)).flatMap (fun p => ch n r (b ++ [p]))

theorem ch_pre {n : Nat} : ∀ r b, ∀ q ∈ ch n r b, q.length = b.length + r ∧ q.take b.length = b
  | 0, b, q, h => by simp [ch] at h; subst h; simp
  | r + 1, b, q, h => by
    unfold ch at h
    rw [List.mem_flatMap] at h
    obtain ⟨p, _, hq⟩ := h
    have ih := ch_pre r (b ++ [p]) q hq
    rw [List.length_append] at ih
    refine ⟨by have := ih.1; simp at this; omega, ?_⟩
    have h1 : (q.take (b.length + 1)).take b.length = b := by
      have := ih.2
      simp only [List.length_cons, List.length_nil, Nat.zero_add] at this
      rw [this]; simp
    rwa [List.take_take, Nat.min_eq_left (by omega)] at h1

theorem ch_nil {n : Nat} : ∀ r b, n < behind b + r → 1 ≤ r → ch n r b = []
  | 0, _, _, h => by omega
  | r + 1, b, h, _ => by
    unfold ch
    rw [List.flatMap_eq_nil_iff]
    intro p hp
    rw [List.mem_range'_1] at hp
    by_cases hr : r = 0
    · omega
    · exact ch_nil r (b ++ [p]) (by rw [behind_snoc]; omega) (by omega)

/-- Ascending, below n. -/
def Asc (n : Nat) (q : List Nat) : Prop := q.Pairwise (· < ·) ∧ ∀ p ∈ q, p < n

theorem behind_gt : ∀ {b : List Nat}, b.Pairwise (· < ·) → ∀ p ∈ b, p < behind b := by
  intro b hb p hp
  unfold behind
  cases h : b.getLast? with
  | none => rw [List.getLast?_eq_none_iff] at h; subst h; simp at hp
  | some x =>
    rw [List.getLast?_eq_some_iff] at h
    obtain ⟨ys, rfl⟩ := h
    rw [List.pairwise_append] at hb
    rw [List.mem_append, List.mem_singleton] at hp
    rcases hp with hp | rfl
    · have := hb.2.2 p hp x (by simp); show p < x + 1; omega
    · show p < p + 1; omega

theorem ch_asc {n : Nat} : ∀ r b, Asc n b → ∀ q ∈ ch n r b, Asc n q
  | 0, b, hb, q, h => by simp [ch] at h; subst h; exact hb
  | r + 1, b, hb, q, h => by
    unfold ch at h
    rw [List.mem_flatMap] at h
    obtain ⟨p, hp, hq⟩ := h
    rw [List.mem_range'_1] at hp
    refine ch_asc r (b ++ [p]) ⟨?_, ?_⟩ q hq
    · rw [List.pairwise_append]
      refine ⟨hb.1, by simp, ?_⟩
      intro a ha x hx
      rw [List.mem_singleton] at hx
      subst hx
      have := behind_gt hb.1 a ha
      omega
    · intro x hx
      rw [List.mem_append, List.mem_singleton] at hx
      rcases hx with hx | rfl
      · exact hb.2 x hx
      · omega

def okb (f : List Nat → Bool) (r : Nat) (q : List Nat) : Bool := (List.range r).all (fun i => f (q.take (q.length - i)))

theorem okb_next (f : List Nat → Bool) (r : Nat) (q : List Nat) : okb f (r + 1) q = (okb f r q && f (q.take (q.length - r))) := by
  unfold okb; rw [List.range_succ, List.all_append]; simp

theorem nexts_flat (f : List Nat → Bool) (g : List Nat → List (List Nat)) (b : List Nat) : ∀ l : List Nat, ((l.map (fun p => b ++ [p])).filter f).flatMap g = l.flatMap (fun p => if f (b ++ [p]) = true then g (b ++ [p]) else [])
  | [] => rfl
  | p :: l => by
    have ih := nexts_flat f g b l
    rw [List.map_cons, List.filter_cons, List.flatMap_cons, ← ih]
    split <;> simp

theorem filter_flat {α β : Type} (f : β → Bool) (g : α → List β) : ∀ l : List α, (l.flatMap g).filter f = l.flatMap (fun a => (g a).filter f)
  | [] => rfl
  | a :: l => by rw [List.flatMap_cons, List.filter_append, filter_flat f g l, List.flatMap_cons]

theorem flat_congr {α β : Type} {f g : α → List β} : ∀ {l : List α}, (∀ a ∈ l, f a = g a) → l.flatMap f = l.flatMap g
  | [], _ => rfl
  | a :: l, h => by rw [List.flatMap_cons, List.flatMap_cons, h a (by simp), flat_congr (fun x hx => h x (by simp [hx]))]

theorem dfs_filter (n : Nat) (f : List Nat → Bool) : ∀ r b, dfs n f r b = (ch n r b).filter (okb f r)
  | 0, b => by
    show [b] = [b].filter (okb f 0)
    rw [List.filter_cons, if_pos (show okb f 0 b = true from rfl), List.filter_nil]
  | r + 1, b => by
    unfold dfs nexts ch
    rw [nexts_flat, filter_flat]
    have hsplit : List.range' (behind b) (n - behind b) = List.range' (behind b) (n - r - behind b) ++ List.range' (behind b + (n - r - behind b)) (n - behind b - (n - r - behind b)) := by
      have := (List.range'_append_1 (s := behind b) (m := n - r - behind b) (n := n - behind b - (n - r - behind b)))
      rw [this]; congr 1; omega
    rw [hsplit, List.flatMap_append]
    have h2 : (List.range' (behind b + (n - r - behind b)) (n - behind b - (n - r - behind b))).flatMap (fun a => (ch n r (b ++ [a])).filter (okb f (r + 1))) = [] := by
      rw [List.flatMap_eq_nil_iff]
      intro p hp
      rw [List.mem_range'_1] at hp
      rw [ch_nil r (b ++ [p]) (by rw [behind_snoc]; omega) (by omega)]
      rfl
    rw [h2, List.append_nil]
    apply flat_congr
    intro p _
    rw [dfs_filter n f r (b ++ [p])]
    have hq : ∀ q ∈ ch n r (b ++ [p]), okb f (r + 1) q = (okb f r q && f (b ++ [p])) := by
      intro q hq
      have h3 := ch_pre r (b ++ [p]) q hq
      rw [okb_next]
      have e : q.length - r = (b ++ [p]).length := by rw [h3.1]; omega
      rw [e, h3.2]
    by_cases hf : f (b ++ [p]) = true
    · rw [if_pos hf]
      apply List.filter_congr
      intro q hq'
      rw [hq q hq', hf, Bool.and_true]
    · rw [if_neg hf]
      symm
      rw [List.filter_eq_nil_iff]
      intro q hq'
      rw [hq q hq']
      simp [hf]

theorem lev_filter (n c : Nat) (f : List Nat → Bool) : lev n c f c = (ch n c []).filter (okb f c) := by rw [lev_all_dfs, dfs_filter]

theorem lev_all (n c : Nat) : lev n c (fun _ => true) c = ch n c [] := by
  rw [lev_filter, List.filter_eq_self]
  intro q _
  simp [okb]

theorem nexts_len (n r : Nat) (b : List Nat) : (nexts n r b).length ≤ n := by unfold nexts; simp; omega

theorem flat_len {α β : Type} {g : α → List β} {m : Nat} : ∀ {l : List α}, (∀ a ∈ l, (g a).length ≤ m) → (l.flatMap g).length ≤ l.length * m
  | [], _ => by simp
  | a :: l, h => by
    rw [List.flatMap_cons, List.length_append, List.length_cons, Nat.add_mul]
    have h1 := h a (by simp)
    have h2 := flat_len (g := g) (m := m) (l := l) (fun x hx => h x (by simp [hx]))
    omega

theorem lev_many {n c : Nat} {f : List Nat → Bool} (hn : n ≤ 7) : ∀ l, (lev n c f l).length ≤ 7 ^ l
  | 0 => by simp [lev]
  | l + 1 => by
    have ih := lev_many (c := c) (f := f) hn l
    unfold lev
    have h1 := flat_len (g := fun b => (nexts n (c - 1 - l) b).filter f) (m := 7) (l := lev n c f l) (fun b _ => by
      have h1 := List.length_filter_le f (nexts n (c - 1 - l) b)
      have h2 := nexts_len n (c - 1 - l) b
      omega)
    rw [Nat.pow_succ]
    omega

theorem seven_pow {l : Nat} (h : l ≤ 7) : 7 ^ l ≤ 823543 := by
  have : l = 0 ∨ l = 1 ∨ l = 2 ∨ l = 3 ∨ l = 4 ∨ l = 5 ∨ l = 6 ∨ l = 7 := by omega
  rcases this with rfl | rfl | rfl | rfl | rfl | rfl | rfl | rfl <;> decide

theorem lev_823543 {n c l : Nat} {f : List Nat → Bool} (hn : n ≤ 7) (hl : l ≤ 7) : (lev n c f l).length ≤ 823543 := Nat.le_trans (lev_many hn l) (seven_pow hl)

theorem ch_823543 {n c : Nat} (hn : n ≤ 7) (hc : c ≤ 7) : (ch n c []).length ≤ 823543 := by rw [← lev_all]; exact lev_823543 hn hc

/-! ### Patterns -/
def pick (zs : List Int) (q : List Nat) : List Int := q.map (fun p => zs.getD p 0)

theorem pick_len (zs : List Int) (q : List Nat) : (pick zs q).length = q.length := by simp [pick]

theorem pick_at {zs : List Int} {q : List Nat} {i : Nat} (h : i < q.length) : (pick zs q).getD i 0 = zs.getD (q.getD i 0) 0 := by
  simp [pick, h]

/-- The last place fits. -/
def fits (zs pat : List Int) (q : List Nat) : Bool := (List.range (q.length - 1)).all (fun i => decide (decide (zs.getD (q.getD i 0) 0 < zs.getD (q.getD (q.length - 1) 0) 0) = decide (pat.getD i 0 < pat.getD (q.length - 1) 0)))

theorem fits_iff {zs pat : List Int} {q : List Nat} : fits zs pat q = true ↔ ∀ i, i < q.length - 1 → (zs.getD (q.getD i 0) 0 < zs.getD (q.getD (q.length - 1) 0) 0 ↔ pat.getD i 0 < pat.getD (q.length - 1) 0) := by
  unfold fits
  simp only [List.all_eq_true, List.mem_range, decide_eq_true_eq, decide_eq_decide]

theorem okb_iff {f : List Nat → Bool} {q : List Nat} : okb f q.length q = true ↔ ∀ j, j < q.length → f (q.take (j + 1)) = true := by
  unfold okb
  simp only [List.all_eq_true, List.mem_range]
  constructor
  · intro h j hj
    have := h (q.length - 1 - j) (by omega)
    have e : q.length - (q.length - 1 - j) = j + 1 := by omega
    rwa [e] at this
  · intro h i hi
    have := h (q.length - 1 - i) (by omega)
    have e : q.length - 1 - i + 1 = q.length - i := by omega
    rwa [e] at this

theorem getD_take {α : Type} {d : α} {q : List α} {i m : Nat} (h : i < m) : (q.take m).getD i d = q.getD i d := by
  simp [List.getD, h]

theorem getD_ne {zs : List Int} (h : zs.Nodup) {i j : Nat} (hi : i < zs.length) (hj : j < zs.length) (hne : i ≠ j) : zs.getD i 0 ≠ zs.getD j 0 := by
  have e1 : zs.getD i 0 = zs[i] := by simp [hi]
  have e2 : zs.getD j 0 = zs[j] := by simp [hj]
  rw [e1, e2]
  intro e
  exact hne ((List.getElem_inj h).1 e)

theorem asc_at {n : Nat} {q : List Nat} (h : Asc n q) {i j : Nat} (hij : i < j) (hj : j < q.length) : q.getD i 0 < q.getD j 0 ∧ q.getD j 0 < n := by
  have e1 : q.getD i 0 = q[i] := by simp [show i < q.length by omega]
  have e2 : q.getD j 0 = q[j] := by simp [hj]
  rw [e1, e2]
  exact ⟨List.pairwise_iff_getElem.1 h.1 i j (by omega) hj hij, h.2 _ (List.getElem_mem hj)⟩

theorem fits_alike {zs pat : List Int} {q : List Nat} (hz : zs.Nodup) (hp : pat.Nodup) (hl : q.length = pat.length) (ha : Asc zs.length q) : okb (fits zs pat) q.length q = true ↔ Alike (pick zs q) pat := by
  rw [okb_iff]
  have hstep : ∀ j, j < q.length → (fits zs pat (q.take (j + 1)) = true ↔ ∀ i, i < j → ((pick zs q).getD i 0 < (pick zs q).getD j 0 ↔ pat.getD i 0 < pat.getD j 0)) := by
    intro j hj
    rw [fits_iff]
    have e : (q.take (j + 1)).length - 1 = j := by rw [List.length_take]; omega
    rw [e]
    constructor
    · intro h i hi
      have := h i hi
      rw [getD_take (show i < j + 1 by omega), getD_take (show j < j + 1 by omega)] at this
      rw [pick_at (show i < q.length by omega), pick_at hj]
      exact this
    · intro h i hi
      rw [getD_take (show i < j + 1 by omega), getD_take (show j < j + 1 by omega)]
      have := h i hi
      rw [pick_at (show i < q.length by omega), pick_at hj] at this
      exact this
  constructor
  · intro h
    refine ⟨by rw [pick_len]; exact hl, ?_⟩
    rw [pick_len]
    intro i j hi hj
    by_cases hij : i < j
    · exact (hstep j hj).1 (h j hj) i hij
    · by_cases e : i = j
      · subst e; omega
      · have hji : j < i := by omega
        have h1 := (hstep i hi).1 (h i hi) j hji
        have h2 := asc_at ha hji hi
        have h3 := getD_ne hz (i := q.getD j 0) (j := q.getD i 0) (by omega) (by omega) (by omega)
        have h4 := getD_ne hp (i := j) (j := i) (by omega) (by omega) (by omega)
        rw [pick_at hi, pick_at hj] at h1 ⊢
        omega
  · intro h j hj
    rw [hstep j hj]
    intro i hi
    exact h.2 i j (by rw [pick_len]; omega) (by rw [pick_len]; exact hj)

/-- All places at which a pattern is in a list. -/
def placesOf (zs pat : List Int) : List (List Nat) := (ch zs.length pat.length []).filter (fun q => decide (shp (pick zs q) = pat))

theorem asc_nil (n : Nat) : Asc n [] := ⟨List.Pairwise.nil, fun _ h => by simp at h⟩

theorem lev_places {zs pat : List Int} (hz : zs.Nodup) (hp : Ord pat) : lev zs.length pat.length (fits zs pat) pat.length = placesOf zs pat := by
  rw [lev_filter]
  unfold placesOf
  apply List.filter_congr
  intro q hq
  have h1 := ch_pre _ _ q hq
  have h2 := ch_asc _ _ (asc_nil _) q hq
  have hl : q.length = pat.length := by simpa using h1.1
  have h3 := fits_alike hz hp.2.2.2 hl h2
  rw [hl] at h3
  rw [Bool.eq_iff_iff, h3, decide_eq_true_eq, shp_iff hp]

def has (zs pat : List Int) : Bool := decide (0 < (placesOf zs pat).length)

theorem has_iff {zs pat : List Int} : has zs pat = true ↔ ∃ q ∈ ch zs.length pat.length [], shp (pick zs q) = pat := by
  unfold has placesOf
  rw [decide_eq_true_eq, List.length_pos_iff_exists_mem]
  simp only [List.mem_filter, decide_eq_true_eq]

/-- The search for a pattern, place by place. -/
def goes (f : List Nat → Bool) (n : Nat) : Nat → List Nat → Bool
  | 0, b => f b
  | r + 1, b => f b && (List.range' (behind b) (n - behind b)).any (fun p => goes f n r (b ++ [p]))

theorem goes_iff (f : List Nat → Bool) (n : Nat) : ∀ r b, goes f n r b = true ↔ (f b = true ∧ ∃ q ∈ ch n r b, okb f r q = true)
  | 0, b => by simp [goes, ch, okb]
  | r + 1, b => by
    unfold goes ch
    rw [Bool.and_eq_true, List.any_eq_true]
    constructor
    · rintro ⟨h1, p, hp, hg⟩
      rw [goes_iff f n r (b ++ [p])] at hg
      obtain ⟨h2, q, hq, hk⟩ := hg
      refine ⟨h1, q, List.mem_flatMap.2 ⟨p, hp, hq⟩, ?_⟩
      have h3 := ch_pre r (b ++ [p]) q hq
      have e : q.length - r = (b ++ [p]).length := by rw [h3.1]; omega
      rw [okb_next, e, h3.2, hk, h2]
      rfl
    · rintro ⟨h1, q, hq, hk⟩
      obtain ⟨p, hp, hq⟩ := List.mem_flatMap.1 hq
      have h3 := ch_pre r (b ++ [p]) q hq
      have e : q.length - r = (b ++ [p]).length := by rw [h3.1]; omega
      rw [okb_next, e, h3.2, Bool.and_eq_true] at hk
      exact ⟨h1, p, hp, (goes_iff f n r (b ++ [p])).2 ⟨hk.2, q, hq, hk.1⟩⟩

theorem alike_take {xs ys : List Int} (h : Alike xs ys) (m : Nat) : Alike (xs.take m) (ys.take m) := by
  refine ⟨by rw [List.length_take, List.length_take, h.1], fun i j hi hj => ?_⟩
  rw [List.length_take] at hi hj
  rw [getD_take (by omega), getD_take (by omega), getD_take (by omega), getD_take (by omega)]
  exact h.2 i j (by omega) (by omega)

theorem pick_take (zs : List Int) (q : List Nat) (m : Nat) : pick zs (q.take m) = (pick zs q).take m := by simp [pick]

/-- The values so far have the shape of the pattern so far. -/
def sofar (zs pat : List Int) (b : List Nat) : Bool := decide (shp (pick zs b) = shp (pat.take b.length))

theorem goes_has {zs pat : List Int} (hp : Ord pat) : goes (sofar zs pat) zs.length pat.length [] = has zs pat := by
  rw [Bool.eq_iff_iff, goes_iff, has_iff]
  have h0 : sofar zs pat [] = true := by simp [sofar, pick, shp]
  constructor
  · rintro ⟨_, q, hq, hk⟩
    refine ⟨q, hq, ?_⟩
    have h1 := ch_pre _ _ q hq
    have hl : q.length = pat.length := by simpa using h1.1
    rw [← hl, okb_iff] at hk
    have := hk (q.length - 1) (by have := hp.1; omega)
    rw [show q.length - 1 + 1 = q.length by have := hp.1; omega, List.take_length] at this
    unfold sofar at this
    rw [decide_eq_true_eq, hl, List.take_length, shp_ordfix hp] at this
    exact this
  · rintro ⟨q, hq, he⟩
    refine ⟨h0, q, hq, ?_⟩
    have h1 := ch_pre _ _ q hq
    have hl : q.length = pat.length := by simpa using h1.1
    rw [← hl, okb_iff]
    intro j hj
    unfold sofar
    rw [decide_eq_true_eq, List.length_take, Nat.min_eq_left (by omega), pick_take]
    exact alike_shp (alike_take ((shp_iff hp).1 he) _)

theorem pick_alike {xs ys : List Int} (h : Alike xs ys) {q : List Nat} (hq : ∀ p ∈ q, p < xs.length) : Alike (pick xs q) (pick ys q) := by
  refine ⟨by rw [pick_len, pick_len], fun i j hi hj => ?_⟩
  rw [pick_len] at hi hj
  rw [pick_at hi, pick_at hj, pick_at hi, pick_at hj]
  have m1 : q.getD i 0 ∈ q := by have e : q.getD i 0 = q[i] := by simp [hi]
                                 rw [e]; exact List.getElem_mem hi
  have m2 : q.getD j 0 ∈ q := by have e : q.getD j 0 = q[j] := by simp [hj]
                                 rw [e]; exact List.getElem_mem hj
  exact h.2 _ _ (hq _ m1) (hq _ m2)

theorem places_alike {xs ys : List Int} (h : Alike xs ys) (pat : List Int) : placesOf xs pat = placesOf ys pat := by
  unfold placesOf
  rw [h.1]
  apply List.filter_congr
  intro q hq
  have h2 := ch_asc _ _ (asc_nil _) q hq
  rw [alike_shp (pick_alike h (q := q) (fun p hp => by rw [h.1]; exact h2.2 p hp))]

theorem has_shape (zs pat : List Int) : has (shp zs) pat = has zs pat := by
  unfold has; rw [places_alike (alike_shp_self zs)]

/-! ### The answers -/
def containsAns (zs pat : List Int) : Bool × Bool := if Ord zs ∧ Ord pat then (has zs pat, true) else (false, false)
def countAns (zs pat : List Int) : Int × Bool := if Ord zs ∧ Ord pat then (((placesOf zs pat).length : Nat), true) else (0, false)
def nat (q : List Nat) : List Int := q.map (fun (p : Nat) => (p : Int))
def firstAns (zs pat : List Int) : List Int × Bool := if Ord zs ∧ Ord pat ∧ has zs pat = true then (nat ((placesOf zs pat).headD []), true) else ([], false)
/-- An order with a last number. -/
def ins (zs : List Int) (k : Int) : List Int := zs.map (fun z => if k ≤ z then z + 1 else z) ++ [k]
theorem ins_len (zs : List Int) (k : Int) : (ins zs k).length = zs.length + 1 := by simp [ins]
def insAns (zs : List Int) (k : Int) : List Int × Bool := if Ord zs ∧ zs.length ≠ 7 ∧ 1 ≤ k ∧ k ≤ (zs.length : Int) + 1 then (ins zs k, true) else ([], false)
theorem insAns_len {zs xs : List Int} {k : Int} {b : Bool} (h : insAns zs k = (xs, b)) : xs.length ≤ 1048576 := by
  unfold insAns at h; split at h
  · rename_i ho; cases h; rw [ins_len]; have := ho.1.2.1; omega
  · cases h; simp
theorem places_len {zs pat : List Int} {q : List Nat} (h : q ∈ placesOf zs pat) : q.length = pat.length := by
  have := (ch_pre _ _ q (List.mem_filter.1 h).1).1; simpa using this
theorem first_len {zs pat xs : List Int} {b : Bool} (h : firstAns zs pat = (xs, b)) : xs.length ≤ 1048576 := by
  unfold firstAns at h; split at h
  · rename_i ho
    cases h
    have h1 : (placesOf zs pat) ≠ [] := by
      have := ho.2.2; unfold has at this; rw [decide_eq_true_eq] at this
      intro e; rw [e] at this; simp at this
    obtain ⟨q, t, e⟩ := List.exists_cons_of_ne_nil h1
    have h2 := places_len (zs := zs) (pat := pat) (q := q) (by rw [e]; simp)
    have := ho.2.1.2.1
    simp [nat, e]; omega
  · cases h; simp

end Go.Proofs.YtnhhnffolmgceaaGreat.PatMath

end

section
namespace Go.Proofs.YtnhhnffolmgceaaGreat.DropMath
open OrdMath OrdFacts PatMath

/-- The places but some. -/
def others (q : List Nat) (n : Nat) : List Nat := (List.range n).filter (fun i => !decide (i ∈ q))

def beside (zs : List Int) (q : List Nat) : List Int := pick zs (others q zs.length)

theorem others_lt {q : List Nat} {n : Nat} : ∀ p ∈ others q n, p < n := fun p hp => by
  have := (List.mem_filter.1 hp).1
  rwa [List.mem_range] at this

theorem others_next (q : List Nat) (k : Nat) : others q (k + 1) = others q k ++ (if k ∈ q then [] else [k]) := by
  unfold others
  rw [List.range_succ, List.filter_append]
  by_cases h : k ∈ q <;> simp [h]

theorem others_len_le (q : List Nat) (n : Nat) : (others q n).length ≤ n := by
  have := List.length_filter_le (fun i => !decide (i ∈ q)) (List.range n)
  rwa [List.length_range] at this

theorem beside_nodup {zs : List Int} (h : zs.Nodup) (q : List Nat) : (beside zs q).Nodup := by
  unfold beside pick List.Nodup
  rw [List.pairwise_map]
  have hp : (others q zs.length).Pairwise (· < ·) := List.Pairwise.filter _ List.pairwise_lt_range
  refine List.Pairwise.imp_of_mem (fun {a b} ha hb hab => ?_) hp
  exact getD_ne h (others_lt a ha) (others_lt b hb) (by omega)

theorem beside_len_le (zs : List Int) (q : List Nat) : (beside zs q).length ≤ zs.length := by
  unfold beside; rw [pick_len]; exact others_len_le _ _

theorem others_pos {q : List Nat} {n : Nat} (h : q.length < n) : 1 ≤ (others q n).length := by
  by_cases h0 : others q n = []
  · exfalso
    have hall : ∀ i, i < n → i ∈ q := fun i hi => by
      by_cases hm : i ∈ q
      · exact hm
      · have : i ∈ others q n := List.mem_filter.2 ⟨List.mem_range.2 hi, by simp [hm]⟩
        rw [h0] at this
        simp at this
    have hp := perm_of_sub ((List.range n).map (fun (i : Nat) => (i : Int))) (q.map (fun (i : Nat) => (i : Int))) (by
      unfold List.Nodup
      rw [List.pairwise_map]
      exact (List.pairwise_lt_range (n := n)).imp (fun h => by omega)) (fun x hx => by
      obtain ⟨i, hi, rfl⟩ := List.mem_map.1 hx
      exact List.mem_map.2 ⟨i, hall i (List.mem_range.1 hi), rfl⟩) (by rw [List.length_map, List.length_map, List.length_range]; omega)
    have := hp.length_eq
    rw [List.length_map, List.length_map, List.length_range] at this
    omega
  · exact List.length_pos_iff.2 h0

theorem beside_pos {zs : List Int} {q : List Nat} (h : q.length < zs.length) : 1 ≤ (beside zs q).length := by
  unfold beside; rw [pick_len]; exact others_pos h

theorem has_small {xs pat : List Int} (h : xs.length < pat.length) : has xs pat = false := by
  unfold has placesOf
  rw [ch_nil (n := xs.length) pat.length [] (by have : behind [] = 0 := rfl; omega) (by omega)]
  rfl

theorem behind_le {b : List Nat} {p : Nat} (h : ∀ x ∈ b, x < p) : behind b ≤ p := by
  unfold behind
  cases hb : b.getLast? with
  | none => exact Nat.zero_le _
  | some x => exact h x (List.mem_of_getLast? hb)

theorem mem_ch {n : Nat} : ∀ (r : Nat) (b q : List Nat), Asc n (b ++ q) → q.length = r → b ++ q ∈ ch n r b
  | 0, b, q, _, h => by
    have hq : q = [] := List.eq_nil_of_length_eq_zero h
    subst hq
    simp [ch]
  | r + 1, b, [], _, h => by simp at h
  | r + 1, b, p :: q, ha, h => by
    have e : b ++ p :: q = (b ++ [p]) ++ q := by simp
    have ih := mem_ch r (b ++ [p]) q (by rw [← e]; exact ha) (by simpa using h)
    rw [e]
    unfold ch
    have hpn : p < n := ha.2 p (by simp)
    have hbp : behind b ≤ p := behind_le (fun x hx => by
      have h1 := ha.1
      rw [List.pairwise_append] at h1
      exact h1.2.2 x hx p (by simp))
    exact List.mem_flatMap.2 ⟨p, by rw [List.mem_range'_1]; omega, ih⟩

theorem others_range (m : Nat) : others (List.range m) (m + 1) = [m] := by
  rw [others_next]
  have h1 : others (List.range m) m = [] := by
    unfold others
    rw [List.filter_eq_nil_iff]
    intro i hi
    simp [List.mem_range.1 hi]
  rw [h1]
  simp

/-- In the end there is a list that avoids. -/
theorem drop_end {zs pat : List Int} (hz : 1 ≤ zs.length) (hp : 2 ≤ pat.length) : ∃ k q, k < zs.length ∧ q ∈ ch zs.length k [] ∧ has (beside zs q) pat = false := by
  obtain ⟨m, hm⟩ : ∃ m, zs.length = m + 1 := ⟨zs.length - 1, by omega⟩
  refine ⟨m, List.range m, by omega, ?_, ?_⟩
  · have := mem_ch (n := zs.length) m [] (List.range m) ⟨by simpa using List.pairwise_lt_range, fun p hp => by simp at hp; omega⟩ (by simp)
    simpa using this
  · apply has_small
    unfold beside
    rw [hm, others_range, pick_len]
    simp; omega

/-- The first list that avoids. -/
def firstDrop (zs pat : List Int) : List Nat := (((List.range zs.length).flatMap (fun k => ch zs.length k [])).find? (fun q => !has (beside zs q) pat)).getD []

theorem find_first {α : Type} {p : α → Bool} {q : α} (hq : p q = true) : ∀ {l1 l2 : List α}, (∀ x ∈ l1, p x = false) → (l1 ++ q :: l2).find? p = some q
  | [], l2, _ => by simp [hq]
  | a :: l1, l2, h => by
    rw [List.cons_append, List.find?_cons_of_neg (by rw [h a (by simp)]; simp)]
    exact find_first hq (fun x hx => h x (by simp [hx]))

theorem firstDrop_is {zs pat : List Int} {k i : Nat} (hk : k < zs.length) (hi : i < (ch zs.length k []).length) (hq : has (beside zs (ch zs.length k [])[i]) pat = false)
    (hlow : ∀ k', k' < k → ∀ q ∈ ch zs.length k' [], has (beside zs q) pat = true) (hin : ∀ q ∈ (ch zs.length k []).take i, has (beside zs q) pat = true) : firstDrop zs pat = (ch zs.length k [])[i] := by
  obtain ⟨r, hr⟩ : ∃ r, zs.length = k + 1 + r := ⟨zs.length - (k + 1), by omega⟩
  have hsplit : List.range zs.length = List.range k ++ k :: (List.range r).map (fun x => k + 1 + x) := by
    rw [hr, List.range_add, List.range_succ]; simp
  have hall : (List.range zs.length).flatMap (fun k => ch zs.length k []) = ((List.range k).flatMap (fun k => ch zs.length k []) ++ (ch zs.length k []).take i) ++ (ch zs.length k [])[i] :: ((ch zs.length k []).drop (i + 1) ++ ((List.range r).map (fun x => k + 1 + x)).flatMap (fun k => ch zs.length k [])) := by
    rw [hsplit, List.flatMap_append, List.flatMap_cons, List.append_assoc]
    congr 1
    have h1 : (ch zs.length k []) = (ch zs.length k []).take i ++ (ch zs.length k [])[i] :: (ch zs.length k []).drop (i + 1) := by
      rw [← List.drop_eq_getElem_cons hi, List.take_append_drop]
    rw [← List.cons_append, ← List.append_assoc, ← h1]
  unfold firstDrop
  rw [hall, find_first (by rw [hq]; rfl) (fun x hx => by
    rw [List.mem_append] at hx
    rcases hx with hx | hx
    · obtain ⟨k', hk', hxq⟩ := List.mem_flatMap.1 hx
      rw [hlow k' (List.mem_range.1 hk') x hxq]; rfl
    · rw [hin x hx]; rfl)]
  rfl

def dropsAns (zs pat : List Int) : List Int × Bool := if Ord zs ∧ Ord pat ∧ pat.length ≠ 1 then (nat (firstDrop zs pat), true) else ([], false)

theorem firstDrop_len {zs pat : List Int} (h7 : zs.length ≤ 7) : (firstDrop zs pat).length ≤ 7 := by
  unfold firstDrop
  cases h : ((List.range zs.length).flatMap (fun k => ch zs.length k [])).find? (fun q => !has (beside zs q) pat) with
  | none => simp
  | some q =>
    have hm := List.mem_of_find?_eq_some h
    obtain ⟨k, hk, hq⟩ := List.mem_flatMap.1 hm
    rw [List.mem_range] at hk
    have := (ch_pre _ _ q hq).1
    simp at this ⊢
    omega

theorem drops_len {zs pat xs : List Int} {b : Bool} (h : dropsAns zs pat = (xs, b)) : xs.length ≤ 1048576 := by
  unfold dropsAns at h; split at h
  · rename_i ho
    cases h
    have h1 := firstDrop_len (zs := zs) (pat := pat) ho.1.2.1
    have h2 : (nat (firstDrop zs pat)).length = (firstDrop zs pat).length := by show (List.map _ _).length = _; rw [List.length_map]
    omega
  · cases h; simp

end Go.Proofs.YtnhhnffolmgceaaGreat.DropMath

end

section
namespace Go.Proofs.YtnhhnffolmgceaaGreat.CutsM
open OrdMath OrdFacts

/-- Cuts for so many numbers. -/
def CutsFor (n : Int) (cs : List Int) : Prop := 1 ≤ n ∧ n ≤ 7 ∧ (∀ c ∈ cs, 1 ≤ c) ∧ cs.sum = n

instance (n : Int) (cs : List Int) : Decidable (CutsFor n cs) := by unfold CutsFor; infer_instance

def cutsB (n : Int) (cs : List Int) : Bool := decide (CutsFor n cs)

theorem sum_ge : ∀ {cs : List Int}, (∀ c ∈ cs, 1 ≤ c) → (cs.length : Int) ≤ cs.sum
  | [], _ => by simp
  | c :: r, h => by
    have h1 := h c (by simp)
    have h2 := sum_ge (cs := r) (fun x hx => h x (by simp [hx]))
    simp only [List.length_cons, List.sum_cons]
    omega

theorem sum_one {c : Int} : ∀ {cs : List Int}, (∀ c ∈ cs, 1 ≤ c) → c ∈ cs → c ≤ cs.sum
  | [], _, h => by cases h
  | a :: r, h, hc => by
    have h1 := h a (by simp)
    have h2 := sum_ge (cs := r) (fun x hx => h x (by simp [hx]))
    rw [List.sum_cons]
    rcases List.mem_cons.1 hc with rfl | hc
    · omega
    · have := sum_one (fun x hx => h x (by simp [hx])) hc; omega

theorem CutsFor.len {n : Int} {cs : List Int} (h : CutsFor n cs) : 1 ≤ cs.length ∧ cs.length ≤ 7 := by
  have h1 := sum_ge h.2.2.1
  rw [h.2.2.2] at h1
  have := h.2.1
  refine ⟨?_, by omega⟩
  cases cs with
  | nil => have h2 := h.2.2.2; have h3 := h.1; simp at h2; omega
  | cons a r => simp

/-- The size that the program reckons. -/
def szF : Int → List Int → Int
  | s, [] => s
  | s, c :: r => if c < 1 ∨ 7 - s < c then 0 else szF (s + c) r

theorem szF_is : ∀ (cs : List Int) (s : Int), 0 ≤ s → s ≤ 7 → szF s cs = if (∀ c ∈ cs, 1 ≤ c) ∧ s + cs.sum ≤ 7 then s + cs.sum else 0
  | [], s, _, h7 => by
    have e : (∀ c ∈ ([] : List Int), 1 ≤ c) ∧ s + ([] : List Int).sum ≤ 7 := ⟨by simp, by simpa using h7⟩
    rw [if_pos e]; simp [szF]
  | c :: r, s, h0, h7 => by
    unfold szF
    by_cases h : c < 1 ∨ 7 - s < c
    · rw [if_pos h, if_neg]
      rintro ⟨h1, h2⟩
      have h3 := sum_one h1 (c := c) (by simp)
      have h4 := h1 c (by simp)
      omega
    · rw [if_neg h, szF_is r (s + c) (by omega) (by omega)]
      have e : ((∀ x ∈ c :: r, 1 ≤ x) ∧ s + (c :: r).sum ≤ 7) ↔ ((∀ x ∈ r, 1 ≤ x) ∧ s + c + r.sum ≤ 7) := by
        rw [List.sum_cons]
        constructor
        · rintro ⟨h1, h2⟩; exact ⟨fun x hx => h1 x (by simp [hx]), by omega⟩
        · rintro ⟨h1, h2⟩
          refine ⟨fun x hx => ?_, by omega⟩
          rcases List.mem_cons.1 hx with rfl | hx
          · omega
          · exact h1 x hx
      by_cases h2 : (∀ x ∈ r, 1 ≤ x) ∧ s + c + r.sum ≤ 7
      · rw [if_pos h2, if_pos (e.2 h2), List.sum_cons]; omega
      · rw [if_neg h2, if_neg (fun h3 => h2 (e.1 h3))]

theorem szF_bd {cs : List Int} : 0 ≤ szF 0 cs ∧ szF 0 cs ≤ 7 := by
  rw [szF_is cs 0 (by omega) (by omega)]
  split
  · rename_i h; have := sum_ge h.1; omega
  · omega

theorem szF_cuts (n : Int) (cs : List Int) : (decide (0 < n) && decide (szF 0 cs = n)) = cutsB n cs := by
  unfold cutsB CutsFor
  rw [szF_is cs 0 (by omega) (by omega), ← Bool.decide_and]
  apply decide_eq_decide.2
  rw [Int.zero_add]
  constructor
  · rintro ⟨h1, h2⟩
    split at h2
    · rename_i h; exact ⟨by omega, by omega, h.1, h2⟩
    · omega
  · rintro ⟨h1, h2, h3, h4⟩
    rw [if_pos ⟨h3, by omega⟩]
    exact ⟨by omega, h4⟩

/-- Whether a list is one of cuts for their sum. -/
def okC (cs : List Int) : Bool := cutsB cs.sum cs

theorem okC_iff {cs : List Int} : okC cs = true ↔ CutsFor cs.sum cs := by unfold okC cutsB; exact decide_eq_true_iff

theorem szF_ok (cs : List Int) : szF 0 cs = if okC cs then cs.sum else 0 := by
  rw [szF_is cs 0 (by omega) (by omega), Int.zero_add]
  by_cases h : okC cs = true
  · rw [if_pos h]
    rw [okC_iff] at h
    rw [if_pos ⟨h.2.2.1, h.2.1⟩]
  · rw [if_neg h]
    split
    · rename_i h2
      rw [okC_iff] at h
      have h3 := sum_ge h2.1
      by_cases h0 : 1 ≤ cs.sum
      · exact absurd ⟨h0, h2.2, h2.1, rfl⟩ h
      · omega
    · rfl

/-- The model's loop, with so many rounds left. -/
def lF (n : Int) : Nat → Int → List Int → Bool
  | 0, s, _ => decide (1 ≤ n ∧ n ≤ 7) && decide (s = n)
  | _ + 1, s, [] => decide (1 ≤ n ∧ n ≤ 7) && decide (s = n)
  | f + 1, s, c :: r => if 1 ≤ c ∧ c ≤ 7 then lF n f (s + c) r else false

theorem lF_is (n : Int) : ∀ (f : Nat) (s : Int) (cs : List Int), 0 ≤ s → 8 ≤ s + f → lF n f s cs = decide (1 ≤ n ∧ n ≤ 7 ∧ (∀ c ∈ cs, 1 ≤ c) ∧ s + cs.sum = n)
  | 0, s, cs, h0, h8 => by
    unfold lF
    rw [← Bool.decide_and]
    apply decide_eq_decide.2
    constructor
    · rintro ⟨⟨h1, h2⟩, h3⟩; omega
    · rintro ⟨h1, h2, h3, h4⟩; have := sum_ge h3; omega
  | f + 1, s, [], h0, h8 => by
    unfold lF
    rw [← Bool.decide_and]
    apply decide_eq_decide.2
    simp
    constructor
    · rintro ⟨⟨h1, h2⟩, h3⟩; exact ⟨h1, h2, h3⟩
    · rintro ⟨h1, h2, h3⟩; exact ⟨⟨h1, h2⟩, h3⟩
  | f + 1, s, c :: r, h0, h8 => by
    unfold lF
    by_cases h : 1 ≤ c ∧ c ≤ 7
    · rw [if_pos h, lF_is n f (s + c) r (by omega) (by omega)]
      apply decide_eq_decide.2
      rw [List.sum_cons]
      constructor
      · rintro ⟨h1, h2, h3, h4⟩
        refine ⟨h1, h2, fun x hx => ?_, by omega⟩
        rcases List.mem_cons.1 hx with rfl | hx
        · omega
        · exact h3 x hx
      · rintro ⟨h1, h2, h3, h4⟩; exact ⟨h1, h2, fun x hx => h3 x (by simp [hx]), by omega⟩
    · rw [if_neg h]
      symm
      rw [decide_eq_false_iff_not]
      rintro ⟨h1, h2, h3, h4⟩
      have h5 := h3 c (by simp)
      have h6 := sum_one h3 (c := c) (by simp)
      omega

theorem lF_cuts (n : Int) (cs : List Int) : lF n 8 0 cs = cutsB n cs := by
  rw [lF_is n 8 0 cs (by omega) (by omega), Int.zero_add]; rfl

/-- The sum that the model reckons ahead, if all are in range. -/
def sF : Nat → Int → List Int → Option Int
  | 0, s, _ => some s
  | _ + 1, s, [] => some s
  | f + 1, s, c :: r => if 1 ≤ c ∧ c ≤ 7 then sF f (s + c) r else none

theorem sF_yes : ∀ (f : Nat) (s : Int) (cs : List Int), (∀ c ∈ cs, 1 ≤ c) → 0 ≤ s → s + cs.sum ≤ 7 → cs.length ≤ f → sF f s cs = some (s + cs.sum)
  | 0, s, [], _, _, _, _ => by simp [sF]
  | _ + 1, s, [], _, _, _, _ => by simp [sF]
  | 0, s, c :: r, _, _, _, h => by simp at h
  | f + 1, s, c :: r, h1, h0, h2, h3 => by
    have h4 := h1 c (by simp)
    have h5 := sum_one h1 (c := c) (by simp)
    have h6 := sum_ge (cs := r) (fun x hx => h1 x (by simp [hx]))
    rw [List.sum_cons] at h2 h5
    unfold sF
    rw [if_pos ⟨h4, by omega⟩, sF_yes f (s + c) r (fun x hx => h1 x (by simp [hx])) (by omega) (by omega) (by simpa using h3), List.sum_cons]
    congr 1; omega

theorem sF_ok {cs : List Int} (h : okC cs = true) : sF 8 0 cs = some cs.sum := by
  rw [okC_iff] at h
  have h1 := h.len
  rw [sF_yes 8 0 cs h.2.2.1 (by omega) (by have := h.2.1; omega) (by omega), Int.zero_add]

theorem not_ok {cs : List Int} (h : okC cs = false) (n : Int) : cutsB n cs = false := by
  unfold cutsB
  rw [decide_eq_false_iff_not]
  intro h2
  have h3 : CutsFor cs.sum cs := by rw [h2.2.2.2]; exact h2
  rw [okC_iff.2 h3] at h
  cases h

/-! ### What comes out -/
def runL : List Int → List Int → List Int
  | _, [] => []
  | zs, c :: r => (zs.take c.toNat).reverse ++ runL (zs.drop c.toNat) r

theorem runL_snoc : ∀ (cs : List Int) (zs : List Int) (c : Int), (∀ x ∈ cs, 0 ≤ x) → runL zs (cs ++ [c]) = runL zs cs ++ ((zs.drop cs.sum.toNat).take c.toNat).reverse
  | [], zs, c, _ => by simp [runL]
  | a :: r, zs, c, h => by
    have ha := h a (by simp)
    have hr : 0 ≤ r.sum := by
      have : ∀ l : List Int, (∀ x ∈ l, 0 ≤ x) → 0 ≤ l.sum := by
        intro l
        induction l with
        | nil => intro _; simp
        | cons b t ih => intro hb; have h1 := hb b (by simp); have h2 := ih (fun x hx => hb x (by simp [hx])); rw [List.sum_cons]; omega
      exact this r (fun x hx => h x (by simp [hx]))
    show (zs.take a.toNat).reverse ++ runL (zs.drop a.toNat) (r ++ [c]) = _
    rw [runL_snoc r (zs.drop a.toNat) c (fun x hx => h x (by simp [hx])), List.drop_drop, List.sum_cons]
    have e : (a + r.sum).toNat = a.toNat + r.sum.toNat := by omega
    rw [e]
    simp [runL, List.append_assoc]

theorem take_sum_next {cs : List Int} {k : Nat} (hk : k < cs.length) : (cs.take (k + 1)).sum = (cs.take k).sum + cs.getD k 0 := by
  rw [List.take_succ_eq_append_getElem hk, List.sum_append]
  simp [hk]

theorem take_sum_le {cs : List Int} (h : ∀ c ∈ cs, 1 ≤ c) (k : Nat) : 0 ≤ (cs.take k).sum ∧ (cs.take k).sum ≤ cs.sum := by
  have h1 := sum_ge (cs := cs.take k) (fun c hc => h c (List.mem_of_mem_take hc))
  have h2 := sum_ge (cs := cs.drop k) (fun c hc => h c (List.mem_of_mem_drop hc))
  have h3 : cs.sum = (cs.take k).sum + (cs.drop k).sum := by rw [← List.sum_append, List.take_append_drop]
  omega

theorem runL_next {zs cs : List Int} {k : Nat} (h : ∀ c ∈ cs, 1 ≤ c) (hk : k < cs.length) : runL zs (cs.take (k + 1)) = runL zs (cs.take k) ++ ((zs.drop (cs.take k).sum.toNat).take (cs.getD k 0).toNat).reverse := by
  rw [List.take_succ_eq_append_getElem hk, runL_snoc _ _ _ (fun x hx => by have := h x (List.mem_of_mem_take hx); omega)]
  have e : cs.getD k 0 = cs[k] := by simp [hk]
  rw [e]

theorem runL_len : ∀ (cs zs : List Int), (∀ c ∈ cs, 1 ≤ c) → cs.sum ≤ zs.length → (runL zs cs).length = cs.sum.toNat
  | [], zs, _, _ => by simp [runL]
  | c :: r, zs, h, hs => by
    have h1 := h c (by simp)
    have h2 := sum_ge (cs := r) (fun x hx => h x (by simp [hx]))
    rw [List.sum_cons] at hs ⊢
    show ((zs.take c.toNat).reverse ++ runL (zs.drop c.toNat) r).length = _
    rw [List.length_append, List.length_reverse, List.length_take, runL_len r _ (fun x hx => h x (by simp [hx])) (by rw [List.length_drop]; omega)]
    omega

theorem runL_perm : ∀ (cs zs : List Int), (∀ c ∈ cs, 1 ≤ c) → cs.sum = zs.length → (runL zs cs).Perm zs
  | [], zs, _, hs => by
    have : zs = [] := List.eq_nil_of_length_eq_zero (by simp at hs; omega)
    subst this; exact List.Perm.refl _
  | c :: r, zs, h, hs => by
    have h1 := h c (by simp)
    have h2 := sum_ge (cs := r) (fun x hx => h x (by simp [hx]))
    rw [List.sum_cons] at hs
    show ((zs.take c.toNat).reverse ++ runL (zs.drop c.toNat) r).Perm zs
    have h3 := runL_perm r (zs.drop c.toNat) (fun x hx => h x (by simp [hx])) (by rw [List.length_drop]; omega)
    have h4 := (List.reverse_perm (zs.take c.toNat)).append h3
    rwa [List.take_append_drop] at h4

theorem ord_runL {zs cs : List Int} (h : Ord zs) (hc : CutsFor zs.length cs) : Ord (runL zs cs) :=
  ord_of_perm ((runL_perm cs zs hc.2.2.1 hc.2.2.2).trans (ord_perm h)) h.1 h.2.1

/-! ### Falls -/
/-- One more in the last part. -/
def bump (l : List Int) : List Int := l.set (l.length - 1) (l.getD (l.length - 1) 0 + 1)

theorem bump_snoc (l : List Int) (c : Int) : bump (l ++ [c]) = l ++ [c + 1] := by
  unfold bump
  have e : (l ++ [c]).length - 1 = l.length := by simp
  rw [e, List.set_append_right _ _ (Nat.le_refl _)]
  simp

theorem bump_len (l : List Int) : (bump l).length = l.length := by simp [bump]

/-- The falls of the first numbers. -/
def fTo (zs : List Int) : Nat → List Int
  | 0 => []
  | k + 1 => if 0 < k ∧ zs.getD k 0 < zs.getD (k - 1) 0 then bump (fTo zs k) else fTo zs k ++ [1]

theorem snoc_of {l : List Int} (h : 0 < l.length) : ∃ a c, l = a ++ [c] :=
  ⟨l.dropLast, l.getLast (by intro e; subst e; simp at h), (List.dropLast_concat_getLast _).symm⟩

theorem fTo_ok (zs : List Int) : ∀ k, (fTo zs k).length ≤ k ∧ (∀ c ∈ fTo zs k, 1 ≤ c) ∧ (fTo zs k).sum = k ∧ (0 < k → 0 < (fTo zs k).length)
  | 0 => by simp [fTo]
  | k + 1 => by
    obtain ⟨h1, h2, h3, h4⟩ := fTo_ok zs k
    unfold fTo
    split
    · rename_i h
      obtain ⟨a, c, e⟩ := snoc_of (h4 h.1)
      rw [e] at h1 h2 h3 ⊢
      rw [bump_snoc]
      refine ⟨by simp at h1 ⊢; omega, fun x hx => ?_, ?_, fun _ => by simp⟩
      · rcases List.mem_append.1 hx with hx | hx
        · exact h2 x (by simp [hx])
        · have := h2 c (by simp); simp at hx; omega
      · simp at h3 ⊢; omega
    · refine ⟨by simp; omega, fun x hx => ?_, ?_, fun _ => by simp⟩
      · rcases List.mem_append.1 hx with hx | hx
        · exact h2 x hx
        · simp at hx; omega
      · simp; omega

/-- The falls. -/
def fallsL (zs : List Int) : List Int := fTo zs zs.length

theorem falls_cuts {zs : List Int} (h : Ord zs) : CutsFor zs.length (fallsL zs) := by
  have h1 := fTo_ok zs zs.length
  exact ⟨by have := h.1; omega, by have := h.2.1; omega, h1.2.1, h1.2.2.1⟩

/-- The fall sweep. -/
def fsw (zs : List Int) : List Int := runL zs (fallsL zs)

theorem fsw_perm (zs : List Int) : (fsw zs).Perm zs := by
  have h1 := fTo_ok zs zs.length
  exact runL_perm _ _ h1.2.1 h1.2.2.1

theorem fsw_len (zs : List Int) : (fsw zs).length = zs.length := (fsw_perm zs).length_eq

theorem ord_fsw {zs : List Int} (h : Ord zs) : Ord (fsw zs) := ord_of_perm ((fsw_perm zs).trans (ord_perm h)) h.1 h.2.1

def fsN (zs : List Int) : Nat → List Int
  | 0 => zs
  | k + 1 => fsw (fsN zs k)

theorem fsN_perm (zs : List Int) : ∀ k, (fsN zs k).Perm zs
  | 0 => List.Perm.refl _
  | k + 1 => (fsw_perm _).trans (fsN_perm zs k)

theorem ord_fsN {zs : List Int} (h : Ord zs) (k : Nat) : Ord (fsN zs k) := ord_of_perm ((fsN_perm zs k).trans (ord_perm h)) h.1 h.2.1
theorem fsN_len (zs : List Int) (k : Nat) : (fsN zs k).length = zs.length := (fsN_perm zs k).length_eq

/-- The number of fall sweeps that sort. -/
def firstF (zs : List Int) : Nat → Nat → Nat
  | 0, k => k
  | f + 1, k => if fsN zs k = iota zs.length then k else firstF zs f (k + 1)

def manyF (zs : List Int) : Nat := firstF zs (zs.length - 1) 0

theorem firstF_is {zs : List Int} : ∀ f k, fsN zs (k + f) = iota zs.length → (∀ j, j < k → fsN zs j ≠ iota zs.length) → fsN zs (firstF zs f k) = iota zs.length ∧ (∀ j, j < firstF zs f k → fsN zs j ≠ iota zs.length) ∧ firstF zs f k ≤ k + f
  | 0, k, h, hb => ⟨h, hb, Nat.le_refl _⟩
  | f + 1, k, h, hb => by
    unfold firstF
    by_cases he : fsN zs k = iota zs.length
    · rw [if_pos he]; exact ⟨he, hb, by omega⟩
    · rw [if_neg he]
      have := firstF_is f (k + 1) (by rw [show k + 1 + f = k + (f + 1) by omega]; exact h) (fun j hj => by
        rcases Nat.lt_succ_iff_lt_or_eq.1 hj with h1 | h1
        · exact hb j h1
        · subst h1; exact he)
      exact ⟨this.1, this.2.1, by omega⟩

/-! ### The answers -/
def runAnsC (zs cs : List Int) : List Int × Bool := if Ord zs ∧ CutsFor zs.length cs then (runL zs cs, true) else ([], false)
def fallsAns (zs : List Int) : List Int × Bool := if Ord zs then (fallsL zs, true) else ([], false)
def fswAns (zs : List Int) : List Int × Bool := if Ord zs then (fsw zs, true) else ([], false)
def fsweepsAns (zs : List Int) : Int × Bool := if Ord zs then ((manyF zs : Nat), true) else (0, false)

theorem runC_alen {zs cs xs : List Int} {b : Bool} (h : runAnsC zs cs = (xs, b)) : xs.length ≤ 1048576 := by
  unfold runAnsC at h; split at h
  · rename_i ho; cases h; have h1 := runL_len cs zs ho.2.2.2.1 (by have := ho.2.2.2.2; omega); have := ho.2.2.1; have := ho.2.2.2.2; omega
  · cases h; simp
theorem falls_alen {zs xs : List Int} {b : Bool} (h : fallsAns zs = (xs, b)) : xs.length ≤ 1048576 := by
  unfold fallsAns at h; split at h
  · rename_i ho; cases h; have := ho.2.1; have := (fTo_ok zs zs.length).1; show (fTo zs zs.length).length ≤ _; omega
  · cases h; simp
theorem fsw_alen {zs xs : List Int} {b : Bool} (h : fswAns zs = (xs, b)) : xs.length ≤ 1048576 := by
  unfold fswAns at h; split at h
  · rename_i ho; cases h; have := ho.2.1; rw [fsw_len]; omega
  · cases h; simp

end Go.Proofs.YtnhhnffolmgceaaGreat.CutsM

end

section
namespace Go.Proofs.YtnhhnffolmgceaaGreat.BesM
open OrdMath

/-- Two places of an order, the less one first, are in conflict. -/
def conf (zs : List Int) (i j : Nat) : Bool := !decide (zs.getD j 0 < zs.getD i 0) && (zs.drop (j + 1)).any (fun z => decide (z < zs.getD i 0))

/-- The pairs with i whose second place is below j. -/
def rowC (zs : List Int) (i : Nat) : Nat → List (Nat × Nat)
  | 0 => []
  | j + 1 => if i < j ∧ conf zs i j = true then rowC zs i j ++ [(i, j)] else rowC zs i j

def allC (zs : List Int) : Nat → List (Nat × Nat)
  | 0 => []
  | i + 1 => allC zs i ++ rowC zs i zs.length

def confs (zs : List Int) : List (Nat × Nat) := allC zs zs.length

theorem rowC_len (zs : List Int) (i : Nat) : ∀ j, (rowC zs i j).length ≤ j
  | 0 => by simp [rowC]
  | j + 1 => by
    have := rowC_len zs i j
    unfold rowC
    split
    · simp; omega
    · omega

theorem allC_len (zs : List Int) : ∀ i, (allC zs i).length ≤ i * zs.length
  | 0 => by simp [allC]
  | i + 1 => by
    have h1 := allC_len zs i
    have h2 := rowC_len zs i zs.length
    unfold allC
    rw [List.length_append, Nat.succ_mul]
    omega

theorem confs_len {zs : List Int} (h : zs.length ≤ 7) : (confs zs).length ≤ 49 := by
  have h1 := allC_len zs zs.length
  have h2 : zs.length * zs.length ≤ 7 * 7 := Nat.mul_le_mul h h
  unfold confs
  omega

theorem mem_rowC {zs : List Int} {i : Nat} {p : Nat × Nat} : ∀ {j : Nat}, p ∈ rowC zs i j ↔ p.1 = i ∧ i < p.2 ∧ p.2 < j ∧ conf zs i p.2 = true
  | 0 => by simp [rowC]
  | j + 1 => by
    unfold rowC
    split
    · rename_i h
      rw [List.mem_append, mem_rowC (j := j), List.mem_singleton]
      constructor
      · rintro (⟨a, b, c, d⟩ | rfl)
        · exact ⟨a, b, by omega, d⟩
        · exact ⟨rfl, h.1, Nat.lt_succ_self _, h.2⟩
      · rintro ⟨a, b, c, d⟩
        by_cases he : p.2 = j
        · right; obtain ⟨p1, p2⟩ := p; simp only at a he; rw [a, he]
        · left; exact ⟨a, b, by omega, d⟩
    · rename_i h
      rw [mem_rowC (j := j)]
      constructor
      · rintro ⟨a, b, c, d⟩; exact ⟨a, b, by omega, d⟩
      · rintro ⟨a, b, c, d⟩
        refine ⟨a, b, ?_, d⟩
        by_cases he : p.2 = j
        · exact absurd ⟨by omega, by rw [← he]; exact d⟩ h
        · omega

theorem mem_allC {zs : List Int} {p : Nat × Nat} : ∀ {i : Nat}, p ∈ allC zs i ↔ p.1 < i ∧ p.1 < p.2 ∧ p.2 < zs.length ∧ conf zs p.1 p.2 = true
  | 0 => by simp [allC]
  | i + 1 => by
    unfold allC
    rw [List.mem_append, mem_allC (i := i), mem_rowC]
    constructor
    · rintro (⟨a, b, c, d⟩ | ⟨a, b, c, d⟩)
      · exact ⟨by omega, b, c, d⟩
      · exact ⟨by omega, by omega, c, by rw [a]; exact d⟩
    · rintro ⟨a, b, c, d⟩
      by_cases he : p.1 = i
      · right; exact ⟨he, by omega, c, by rw [← he]; exact d⟩
      · left; exact ⟨by omega, b, c, d⟩

theorem mem_confs {zs : List Int} {i j : Nat} : (i, j) ∈ confs zs ↔ i < j ∧ j < zs.length ∧ conf zs i j = true := by
  unfold confs
  rw [mem_allC]
  constructor
  · rintro ⟨_, b, c, d⟩; exact ⟨b, c, d⟩
  · rintro ⟨b, c, d⟩; exact ⟨by simp only at *; omega, b, c, d⟩

/-- The stacks with numbers in conflict with the next place. -/
def inUse (C : List (Nat × Nat)) (so : List Int) : List Int := (C.filter (fun p => p.2 == so.length)).map (fun p => so.getD p.1 0)

/-- The next place may take a stack. -/
def okN (zs so : List Int) (x : Int) : Bool := !(inUse (confs zs) so).contains x

theorem okN_iff {zs so : List Int} {x : Int} (hl : so.length < zs.length) : okN zs so x = true ↔ ∀ i, i < so.length → so.getD i 0 = x → conf zs i so.length = false := by
  unfold okN inUse
  rw [Bool.not_eq_true', ← Bool.not_eq_true, List.contains_iff_mem, List.mem_map]
  constructor
  · intro h i hi hx
    by_cases hc : conf zs i so.length = true
    · exact absurd ⟨(i, so.length), List.mem_filter.2 ⟨mem_confs.2 ⟨hi, hl, hc⟩, by simp⟩, hx⟩ h
    · simpa using hc
  · rintro h ⟨⟨i, j⟩, hm, hx⟩
    rw [List.mem_filter] at hm
    have hj : j = so.length := by simpa using hm.2
    subst hj
    have h1 := mem_confs.1 hm.1
    have h2 := h i h1.1 hx
    rw [h2] at h1
    exact absurd h1.2.2 (by simp)

/-- No two places of one stack are in conflict. -/
def Fits (zs so : List Int) : Prop := ∀ j, j < so.length → ∀ i, i < j → so.getD i 0 = so.getD j 0 → conf zs i j = false

def fitsB (zs so : List Int) : Bool := decide (∀ j, j < so.length → ∀ i, i < j → so.getD i 0 = so.getD j 0 → conf zs i j = false)

theorem fitsB_iff {zs so : List Int} : fitsB zs so = true ↔ Fits zs so := by unfold fitsB Fits; exact decide_eq_true_iff

theorem getD_snoc_lt {l : List Int} {x : Int} {i : Nat} (h : i < l.length) : (l ++ [x]).getD i 0 = l.getD i 0 := by
  rw [List.getD_eq_getElem?_getD, List.getD_eq_getElem?_getD, List.getElem?_append_left h]

theorem getD_snoc_eq {l : List Int} {x : Int} : (l ++ [x]).getD l.length 0 = x := by simp

theorem fits_snoc {zs so : List Int} {x : Int} (hl : so.length < zs.length) : Fits zs (so ++ [x]) ↔ Fits zs so ∧ okN zs so x = true := by
  rw [okN_iff hl]
  unfold Fits
  constructor
  · intro h
    constructor
    · intro j hj i hi he
      exact h j (by simp; omega) i hi (by rw [getD_snoc_lt hj, getD_snoc_lt (by omega)]; exact he)
    · intro i hi he
      exact h so.length (by simp) i hi (by rw [getD_snoc_eq, getD_snoc_lt hi]; exact he)
  · rintro ⟨h1, h2⟩ j hj i hi he
    rw [List.length_append, List.length_singleton] at hj
    by_cases hjl : j < so.length
    · exact h1 j hjl i hi (by rw [getD_snoc_lt hjl, getD_snoc_lt (by omega)] at he; exact he)
    · have e : j = so.length := by omega
      subst e
      rw [getD_snoc_eq, getD_snoc_lt hi] at he
      exact h2 i hi he

theorem fits_nil (zs : List Int) : Fits zs [] := by intro j hj; simp at hj

theorem fits_take {zs so : List Int} (h : Fits zs so) (k : Nat) : Fits zs (so.take k) := by
  intro j hj i hi he
  rw [List.length_take] at hj
  refine h j (by omega) i hi ?_
  simpa [show j < k by omega, show i < k by omega] using he

/-- All that goes on from some places, with the first k stacks, in d places more. -/
def ext (zs : List Int) (k : Nat) : Nat → List Int → List (List Int)
  | 0, so => [so]
  | d + 1, so => (List.range k).flatMap fun (x : Nat) => if okN zs so (x : Int) then ext zs k d (so ++ [(x : Int)]) else []

theorem mem_ext {zs : List Int} {k : Nat} : ∀ (d : Nat) (so s : List Int), so.length + d ≤ zs.length → Fits zs so → (s ∈ ext zs k d so ↔ ∃ t : List Int, s = so ++ t ∧ t.length = d ∧ (∀ x ∈ t, 0 ≤ x ∧ x < (k : Int)) ∧ Fits zs s)
  | 0, so, s, _, hf => by
    unfold ext
    rw [List.mem_singleton]
    constructor
    · rintro rfl; exact ⟨[], by simp, rfl, by simp, hf⟩
    · rintro ⟨t, h1, h2, _, _⟩
      have : t = [] := List.length_eq_zero_iff.1 h2
      rw [h1, this, List.append_nil]
  | d + 1, so, s, hl, hf => by
    unfold ext
    rw [List.mem_flatMap]
    constructor
    · rintro ⟨x, hx, hm⟩
      rw [List.mem_range] at hx
      split at hm
      · rename_i hok
        have hf2 : Fits zs (so ++ [(x : Int)]) := (fits_snoc (by omega)).2 ⟨hf, hok⟩
        obtain ⟨t, h1, h2, h3, h4⟩ := (mem_ext d (so ++ [(x : Int)]) s (by simp; omega) hf2).1 hm
        refine ⟨(x : Int) :: t, by rw [h1, List.append_assoc]; rfl, by simp [h2], ?_, h4⟩
        intro y hy
        rcases List.mem_cons.1 hy with rfl | hy
        · omega
        · exact h3 y hy
      · simp at hm
    · rintro ⟨t, h1, h2, h3, h4⟩
      cases t with
      | nil => simp at h2
      | cons y t =>
        have hy := h3 y (by simp)
        obtain ⟨x, rfl⟩ : ∃ x : Nat, y = (x : Int) := ⟨y.toNat, by omega⟩
        have e : s = (so ++ [(x : Int)]) ++ t := by rw [h1, List.append_assoc]; rfl
        have hf2 : Fits zs (so ++ [(x : Int)]) := by
          have := fits_take h4 (so.length + 1)
          rw [e, List.take_left' (by simp)] at this
          exact this
        refine ⟨x, List.mem_range.2 (by omega), ?_⟩
        rw [if_pos ((fits_snoc (by omega)).1 hf2).2]
        exact (mem_ext d _ s (by simp; omega) hf2).2 ⟨t, e, by simpa using h2, fun z hz => h3 z (by simp [hz]), h4⟩

theorem ext_len {zs : List Int} {k : Nat} : ∀ (d : Nat) (so : List Int), (ext zs k d so).length ≤ k ^ d
  | 0, so => by simp [ext]
  | d + 1, so => by
    unfold ext
    rw [List.length_flatMap]
    have key : ∀ (l : List Nat), (l.map fun (x : Nat) => (if okN zs so (x : Int) then ext zs k d (so ++ [(x : Int)]) else []).length).sum ≤ l.length * k ^ d := by
      intro l
      induction l with
      | nil => simp
      | cons a l ih =>
        rw [List.map_cons, List.sum_cons, List.length_cons, Nat.succ_mul]
        have : (if okN zs so (a : Int) then ext zs k d (so ++ [(a : Int)]) else []).length ≤ k ^ d := by
          split
          · exact ext_len d _
          · simp
        omega
    have := key (List.range k)
    rw [List.length_range] at this
    rw [Nat.pow_succ, Nat.mul_comm]
    exact this

theorem ext_all_len {zs : List Int} {k d : Nat} {so s : List Int} (h : s ∈ ext zs k d so) : s.length = so.length + d := by
  induction d generalizing so with
  | zero => unfold ext at h; rw [List.mem_singleton] at h; simp [h]
  | succ d ih =>
    unfold ext at h
    rw [List.mem_flatMap] at h
    obtain ⟨x, _, hm⟩ := h
    split at hm
    · have := ih hm; simp at this; omega
    · simp at hm

/-- Whether k stacks are enough, with new stacks taken in order. -/
def canG (zs : List Int) (k : Nat) : Nat → List Int → Nat → Bool
  | 0, _, _ => true
  | d + 1, so, u => (List.range (min (u + 1) k)).any fun (x : Nat) => okN zs so (x : Int) && canG zs k d (so ++ [(x : Int)]) (max u (x + 1))

theorem canG_ext {zs : List Int} {k : Nat} : ∀ (d : Nat) (so : List Int) (u : Nat), canG zs k d so u = true → ext zs k d so ≠ []
  | 0, so, u, _ => by simp [ext]
  | d + 1, so, u, h => by
    unfold canG at h
    rw [List.any_eq_true] at h
    obtain ⟨x, hx, hm⟩ := h
    rw [List.mem_range] at hx
    rw [Bool.and_eq_true] at hm
    have h2 := canG_ext d _ _ hm.2
    obtain ⟨s, hs⟩ := List.exists_mem_of_ne_nil _ h2
    intro e
    have : s ∈ ext zs k (d + 1) so := by
      unfold ext
      rw [List.mem_flatMap]
      exact ⟨x, List.mem_range.2 (by omega), by rw [if_pos hm.1]; exact hs⟩
    rw [e] at this
    simp at this

/-- Two stacks are exchanged. -/
def swp (a b : Int) (x : Int) : Int := if x = a then b else if x = b then a else x

theorem swp_inj {a b x y : Int} (h : swp a b x = swp a b y) : x = y := by
  unfold swp at h
  repeat' split at h
  all_goals omega

theorem fits_map {zs so : List Int} {f : Int → Int} (hf : ∀ x y, f x = f y → x = y) (h : Fits zs so) : Fits zs (so.map f) := by
  intro j hj i hi he
  rw [List.length_map] at hj
  have e1 : ∀ k, k < so.length → (so.map f).getD k 0 = f (so.getD k 0) := fun k hk => by simp [hk]
  rw [e1 i (by omega), e1 j hj] at he
  exact h j hj i hi (hf _ _ he)

theorem ext_canG {zs : List Int} {k : Nat} : ∀ (d : Nat) (so t : List Int) (u : Nat), t.length = d → so.length + d ≤ zs.length → u ≤ k → (∀ x ∈ so, 0 ≤ x ∧ x < (u : Int)) → (∀ x ∈ t, 0 ≤ x ∧ x < (k : Int)) → Fits zs (so ++ t) → canG zs k d so u = true
  | 0, _, _, _, _, _, _, _, _, _ => rfl
  | d + 1, so, [], _, h, _, _, _, _, _ => by simp at h
  | d + 1, so, y :: t, u, h, hl, hu, hso, ht, hF => by
    have hy := ht y (by simp)
    obtain ⟨x, rfl⟩ : ∃ x : Nat, y = (x : Int) := ⟨y.toNat, by omega⟩
    have go : ∀ (z : Nat) (t' : List Int), z ≤ u → z < k → t'.length = d → (∀ w ∈ t', 0 ≤ w ∧ w < (k : Int)) → Fits zs (so ++ (z : Int) :: t') → canG zs k (d + 1) so u = true := by
      intro z t' hz1 hz2 hl' ht' hF'
      have e : so ++ (z : Int) :: t' = (so ++ [(z : Int)]) ++ t' := by rw [List.append_assoc]; rfl
      have hf2 : Fits zs (so ++ [(z : Int)]) := by
        have := fits_take hF' (so.length + 1)
        rw [e, List.take_left' (by simp)] at this
        exact this
      unfold canG
      rw [List.any_eq_true]
      refine ⟨z, List.mem_range.2 (by omega), ?_⟩
      rw [Bool.and_eq_true]
      refine ⟨((fits_snoc (by omega)).1 hf2).2, ?_⟩
      refine ext_canG d _ t' _ hl' (by simp; omega) (by omega) ?_ ht' (by rw [← e]; exact hF')
      intro w hw
      rw [List.mem_append, List.mem_singleton] at hw
      rcases hw with hw | rfl
      · have := hso w hw; omega
      · omega
    by_cases hxu : x ≤ u
    · exact go x t hxu (by omega) (by simpa using h) (fun w hw => ht w (by simp [hw])) hF
    · have hid : so.map (swp (u : Int) (x : Int)) = so := by
        conv => rhs; rw [← List.map_id so]
        apply List.map_congr_left
        intro w hw
        have := hso w hw
        unfold swp
        rw [if_neg (by omega), if_neg (by omega)]
        rfl
      refine go u (t.map (swp (u : Int) (x : Int))) (Nat.le_refl _) (by omega) (by rw [List.length_map]; simpa using h) ?_ ?_
      · intro w hw
        rw [List.mem_map] at hw
        obtain ⟨v, hv, rfl⟩ := hw
        have := ht v (by simp [hv])
        unfold swp
        repeat' split
        all_goals omega
      · have h2 := fits_map (f := swp (u : Int) (x : Int)) (fun a b => swp_inj) hF
        rw [List.map_append, hid, List.map_cons] at h2
        have e : swp (u : Int) (x : Int) (x : Int) = (u : Int) := by unfold swp; rw [if_neg (by omega), if_pos rfl]
        rw [e] at h2
        exact h2

theorem canG_iff {zs : List Int} {k : Nat} : canG zs k zs.length [] 0 = true ↔ ext zs k zs.length [] ≠ [] := by
  constructor
  · exact canG_ext _ _ _
  · intro h
    obtain ⟨s, hs⟩ := List.exists_mem_of_ne_nil _ h
    obtain ⟨t, h1, h2, h3, h4⟩ := (mem_ext zs.length [] s (by simp) (fits_nil zs)).1 hs
    refine ext_canG zs.length [] t 0 h2 (by simp) (Nat.zero_le _) (by simp) h3 ?_
    rw [← h1]; exact h4

/-- k stacks are enough. -/
def enough (zs : List Int) (k : Nat) : Bool := !(ext zs k zs.length []).isEmpty

theorem enough_iff {zs : List Int} {k : Nat} : enough zs k = true ↔ ∃ s : List Int, s.length = zs.length ∧ (∀ x ∈ s, 0 ≤ x ∧ x < (k : Int)) ∧ Fits zs s := by
  unfold enough
  rw [Bool.not_eq_true', List.isEmpty_eq_false_iff]
  constructor
  · intro h
    obtain ⟨s, hs⟩ := List.exists_mem_of_ne_nil _ h
    obtain ⟨t, h1, h2, h3, h4⟩ := (mem_ext zs.length [] s (by simp) (fits_nil zs)).1 hs
    rw [List.nil_append] at h1
    subst h1
    exact ⟨s, h2, h3, h4⟩
  · rintro ⟨s, h1, h2, h3⟩ e
    have := (mem_ext (k := k) zs.length [] s (by simp) (fits_nil zs)).2 ⟨s, by simp, h1, h2, h3⟩
    rw [e] at this
    simp at this

theorem enough_can {zs : List Int} {k : Nat} : canG zs k zs.length [] 0 = enough zs k := by
  have := canG_iff (zs := zs) (k := k)
  unfold enough
  cases h : canG zs k zs.length [] 0 <;> cases h2 : ext zs k zs.length [] <;> simp_all

theorem enough_mono {zs : List Int} {k m : Nat} (hkm : k ≤ m) (h : enough zs k = true) : enough zs m = true := by
  rw [enough_iff] at h ⊢
  obtain ⟨s, h1, h2, h3⟩ := h
  exact ⟨s, h1, fun x hx => by have := h2 x hx; omega, h3⟩

theorem enough_len (zs : List Int) : enough zs zs.length = true := by
  rw [enough_iff]
  refine ⟨(List.range zs.length).map (fun (i : Nat) => (i : Int)), by simp, ?_, ?_⟩
  · intro x hx
    rw [List.mem_map] at hx
    obtain ⟨i, hi, rfl⟩ := hx
    rw [List.mem_range] at hi
    omega
  · intro j hj i hi he
    rw [List.length_map, List.length_range] at hj
    simp [hj, show i < zs.length by omega] at he
    omega

/-- The least k from one on that is enough. -/
def fewFrom (zs : List Int) : Nat → Nat → Nat
  | 0, k => k
  | f + 1, k => if enough zs k then k else fewFrom zs f (k + 1)

def fewest (zs : List Int) : Nat := fewFrom zs zs.length 1

theorem fewFrom_spec (zs : List Int) : ∀ (f k : Nat), zs.length ≤ f + k → k ≤ fewFrom zs f k ∧ enough zs (fewFrom zs f k) = true ∧ (∀ m, k ≤ m → m < fewFrom zs f k → enough zs m = false) ∧ (fewFrom zs f k ≤ max k zs.length)
  | 0, k, h => by
    unfold fewFrom
    exact ⟨Nat.le_refl _, enough_mono (by omega) (enough_len zs), fun m h1 h2 => by omega, by omega⟩
  | f + 1, k, h => by
    unfold fewFrom
    split
    · rename_i he
      exact ⟨Nat.le_refl _, he, fun m h1 h2 => by omega, by omega⟩
    · rename_i he
      obtain ⟨h1, h2, h3, h4⟩ := fewFrom_spec zs f (k + 1) (by omega)
      refine ⟨by omega, h2, ?_, ?_⟩
      · intro m hm1 hm2
        by_cases e : m = k
        · rw [e]; simpa using he
        · exact h3 m (by omega) hm2
      · by_cases hk : zs.length ≤ k
        · exact absurd (enough_mono hk (enough_len zs)) he
        · omega

theorem fewest_pos (zs : List Int) : 1 ≤ fewest zs := (fewFrom_spec zs zs.length 1 (by omega)).1
theorem fewest_enough (zs : List Int) : enough zs (fewest zs) = true := (fewFrom_spec zs zs.length 1 (by omega)).2.1
theorem fewest_least {zs : List Int} {m : Nat} (h1 : 1 ≤ m) (h2 : m < fewest zs) : enough zs m = false := (fewFrom_spec zs zs.length 1 (by omega)).2.2.1 m h1 h2
theorem fewest_le {zs : List Int} (h : 1 ≤ zs.length) : fewest zs ≤ zs.length := by have := (fewFrom_spec zs zs.length 1 (by omega)).2.2.2; unfold fewest; omega

theorem fewest_iff {zs : List Int} {k : Nat} (hk : 1 ≤ k) : enough zs k = decide (fewest zs ≤ k) := by
  by_cases h : fewest zs ≤ k
  · rw [decide_eq_true h]; exact enough_mono h (fewest_enough zs)
  · rw [decide_eq_false h]; exact fewest_least hk (by omega)

theorem fewest_is {zs : List Int} {k : Nat} (h1 : 1 ≤ k) (h2 : enough zs k = true) (h3 : ∀ m, 1 ≤ m → m < k → enough zs m = false) : k = fewest zs := by
  rcases Nat.lt_trichotomy k (fewest zs) with h | h | h
  · rw [fewest_least h1 h] at h2; exact absurd h2 (by simp)
  · exact h
  · have := h3 _ (fewest_pos zs) h; rw [fewest_enough] at this; exact absurd this (by simp)

/-! ### The answers -/
def fewestAns (zs : List Int) : Int × Bool := if Ord zs then ((fewest zs : Nat), true) else (0, false)
def firstAns (zs : List Int) : List Int × Bool := if Ord zs ∧ fewest zs ≤ 4 then ((ext zs (fewest zs) zs.length []).headD [], true) else ([], false)
def countSAns (zs : List Int) (k : Int) : Int × Bool := if Ord zs ∧ 1 ≤ k ∧ k ≤ 4 then (((ext zs k.toNat zs.length []).length : Nat), true) else (0, false)
def isShB (zs so : List Int) : Bool := decide (Ord zs ∧ so.length = zs.length ∧ ∀ s ∈ so, 0 ≤ s ∧ s ≤ 3)
def fitsAns (zs so : List Int) : Bool × Bool := if isShB zs so then (fitsB zs so, true) else (false, false)

/-- The first stack of four that the next place may take. -/
def firstOk (zs so : List Int) : Option Int := ([0, 1, 2, 3] : List Int).find? (okN zs so)

/-- The greedy sharing. -/
def greedy (zs : List Int) : Nat → List Int → Option (List Int)
  | 0, so => some so
  | d + 1, so => match firstOk zs so with | some x => greedy zs d (so ++ [x]) | none => none

def greedyAns (zs : List Int) : List Int × Bool := if Ord zs then (match greedy zs zs.length [] with | some s => (s, true) | none => ([], false)) else ([], false)

theorem greedy_len {zs : List Int} : ∀ {d : Nat} {so s : List Int}, greedy zs d so = some s → s.length = so.length + d
  | 0, so, s, h => by unfold greedy at h; cases h; rfl
  | d + 1, so, s, h => by
    unfold greedy at h
    split at h
    · have := greedy_len h; simp at this; omega
    · simp at h

theorem first_len {zs xs : List Int} {b : Bool} (h : firstAns zs = (xs, b)) : xs.length ≤ 1048576 := by
  unfold firstAns at h
  split at h
  · rename_i ho
    cases h
    have h7 := ho.1.2.1
    cases he : ext zs (fewest zs) zs.length [] with
    | nil => simp
    | cons a l =>
      have : a ∈ ext zs (fewest zs) zs.length [] := by rw [he]; simp
      have := ext_all_len this
      simp at this ⊢
      omega
  · cases h; simp

theorem greedyA_len {zs xs : List Int} {b : Bool} (h : greedyAns zs = (xs, b)) : xs.length ≤ 1048576 := by
  unfold greedyAns at h
  split at h
  · rename_i ho
    have h7 := ho.2.1
    cases he : greedy zs zs.length [] with
    | none => rw [he] at h; cases h; simp
    | some s => rw [he] at h; cases h; have := greedy_len he; simp at this; omega
  · cases h; simp

/-! ### The model's walk over sharings -/
/-- The first one, or the empty list, and how many. -/
def goR (L : List (List Int)) : List Int × Nat := (L.headD [], L.length)

def stepG (acc : List Int × Nat) (r : List Int × Nat) : List Int × Nat := (if acc.2 = 0 ∧ 0 < r.2 then r.1 else acc.1, acc.2 + r.2)

theorem goR_append (L M : List (List Int)) : goR (L ++ M) = stepG (goR L) (goR M) := by
  unfold goR stepG
  cases L with
  | nil => cases M <;> simp
  | cons a l => simp; omega

end Go.Proofs.YtnhhnffolmgceaaGreat.BesM

end

section
namespace Go.Proofs.YtnhhnffolmgceaaGreat.MinMaxC
open OrdMath BesM

theorem foldl_min_lt (a : Int) : ∀ (l : List Int) (m : Int), l.foldl min m < a ↔ m < a ∨ ∃ z ∈ l, z < a
  | [], m => by simp
  | x :: l, m => by
    rw [List.foldl_cons, foldl_min_lt a l (min m x)]
    constructor
    · rintro (h | ⟨z, hz, h⟩)
      · by_cases hm : m < a
        · exact .inl hm
        · exact .inr ⟨x, by simp, by omega⟩
      · exact .inr ⟨z, by simp [hz], h⟩
    · rintro (h | ⟨z, hz, h⟩)
      · exact .inl (by omega)
      · rcases List.mem_cons.1 hz with rfl | hz
        · exact .inl (by omega)
        · exact .inr ⟨z, hz, h⟩

theorem foldl_max_lt (a : Int) : ∀ (l : List Int) (m : Int), l.foldl max m < a ↔ m < a ∧ ∀ z ∈ l, z < a
  | [], m => by simp
  | x :: l, m => by
    rw [List.foldl_cons, foldl_max_lt a l (max m x)]
    constructor
    · rintro ⟨h1, h2⟩
      exact ⟨by omega, fun z hz => by
        rcases List.mem_cons.1 hz with rfl | hz
        · omega
        · exact h2 z hz⟩
    · rintro ⟨h1, h2⟩
      have := h2 x (by simp)
      exact ⟨by omega, fun z hz => h2 z (by simp [hz])⟩

theorem minOf_lt {l : List Int} (h : l ≠ []) (a : Int) : Go.Lib.minOf l < a ↔ ∃ z ∈ l, z < a := by
  cases l with
  | nil => exact absurd rfl h
  | cons x l =>
    unfold Go.Lib.minOf
    rw [foldl_min_lt]
    constructor
    · rintro (h | h)
      · exact ⟨x, by simp, h⟩
      · exact h
    · intro h; exact .inr h

theorem maxOf_lt {l : List Int} (h : l ≠ []) (a : Int) : Go.Lib.maxOf l < a ↔ ∀ z ∈ l, z < a := by
  cases l with
  | nil => exact absurd rfl h
  | cons x l =>
    unfold Go.Lib.maxOf
    rw [foldl_max_lt]
    constructor
    · rintro ⟨_, h⟩; exact h
    · intro h; exact ⟨h x (by simp), h⟩

theorem sh_minmax {l : List Int} (h : l ≠ []) : (∀ s ∈ l, 0 ≤ s ∧ s ≤ 3) ↔ 0 ≤ Go.Lib.minOf l ∧ Go.Lib.maxOf l < 4 := by
  rw [maxOf_lt h]
  have h1 := minOf_lt h 0
  constructor
  · intro h2
    refine ⟨?_, fun z hz => by have := h2 z hz; omega⟩
    apply Int.not_lt.1
    rw [h1]
    rintro ⟨z, hz, h3⟩
    have := h2 z hz
    omega
  · rintro ⟨h2, h3⟩ s hs
    have h4 := h3 s hs
    refine ⟨?_, by omega⟩
    apply Int.not_lt.1
    intro h5
    have := h1.2 ⟨s, hs, h5⟩
    omega

/-- The program's way to tell a conflict. -/
theorem conf_min {zs : List Int} (ho : Ord zs) {i j : Nat} (hij : i < j) (hj : j < zs.length) : conf zs i j = (decide (zs.getD i 0 < zs.getD j 0) && decide (Go.Lib.minOf (zs.drop j) < zs.getD i 0)) := by
  have hne : zs.getD j 0 ≠ zs.getD i 0 := by
    intro e
    have h1 : zs[j] = zs[i] := by simpa [hj, show i < zs.length by omega] using e
    have := (List.getElem_inj ho.2.2.2).1 h1
    omega
  have hd : zs.drop j = zs.getD j 0 :: zs.drop (j + 1) := by
    rw [List.drop_eq_getElem_cons hj]; simp [hj]
  have hm := minOf_lt (l := zs.drop j) (by rw [hd]; simp) (zs.getD i 0)
  unfold conf
  by_cases h1 : zs.getD i 0 < zs.getD j 0
  · rw [decide_eq_true h1, decide_eq_false (by omega : ¬ zs.getD j 0 < zs.getD i 0)]
    simp only [Bool.not_false, Bool.true_and]
    have : (zs.drop (j + 1)).any (fun z => decide (z < zs.getD i 0)) = true ↔ Go.Lib.minOf (zs.drop j) < zs.getD i 0 := by
      rw [hm, hd, List.any_eq_true]
      constructor
      · rintro ⟨z, hz, h2⟩; exact ⟨z, by simp [hz], of_decide_eq_true h2⟩
      · rintro ⟨z, hz, h2⟩
        rcases List.mem_cons.1 hz with rfl | hz
        · omega
        · exact ⟨z, hz, decide_eq_true h2⟩
    by_cases h2 : Go.Lib.minOf (zs.drop j) < zs.getD i 0
    · rw [this.2 h2, decide_eq_true h2]
    · rw [decide_eq_false h2]
      cases h3 : (zs.drop (j + 1)).any (fun z => decide (z < zs.getD i 0)) with
      | false => rfl
      | true => exact absurd (this.1 h3) h2
  · rw [decide_eq_false h1]
    have : zs.getD j 0 < zs.getD i 0 := by omega
    rw [decide_eq_true this]
    rfl

end Go.Proofs.YtnhhnffolmgceaaGreat.MinMaxC

end
