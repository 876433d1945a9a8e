/-
  Contracts and plain facts that the laws' texts lean on. Conditions: as each states.
-/
import Derived.Test.YtpkjnlabjmpokaaPq27
import Derived.Test.YtpkjnlabjmpokaaPq11
import Derived.Test.YtpkjnlabjmpokaaPq23

namespace Go.Proofs.Ytpkjnlabjmpokaa.RowsM
open OrdMath LLC QueM PassM

/-- A number inserted into rows: the rows, and which of them has one place more. -/
def insR : List (List Int) → Int → List (List Int) × Nat
  | [], x => ([[x]], 0)
  | r :: R, x => if putAt r x < r.length then (r.set (putAt r x) x :: (insR R (r.getD (putAt r x) 0)).1, (insR R (r.getD (putAt r x) 0)).2 + 1) else ((r ++ [x]) :: R, 0)

/-- After j rows have made room: A is what has become of them, y is to be inserted below. -/
def Bumped (T : List (List Int)) (x : Int) (j : Nat) (A : List (List Int)) (y : Int) : Prop :=
  A.length = j ∧ insR T x = (A ++ (insR (T.drop j) y).1, j + (insR (T.drop j) y).2)

theorem bumped_start (T : List (List Int)) (x : Int) : Bumped T x 0 [] x := ⟨rfl, by simp⟩

theorem bumped_next {T : List (List Int)} {x y : Int} {j : Nat} {A : List (List Int)} (h : Bumped T x j A y) (hj : j < T.length) (hk : putAt (T.getD j []) y < (T.getD j []).length) :
    Bumped T x (j + 1) (A ++ [(T.getD j []).set (putAt (T.getD j []) y) y]) ((T.getD j []).getD (putAt (T.getD j []) y) 0) := by
  obtain ⟨h1, h2⟩ := h
  have e : T.drop j = T.getD j [] :: T.drop (j + 1) := by
    rw [List.drop_eq_getElem_cons hj]; simp [hj]
  refine ⟨by simp [h1], ?_⟩
  rw [h2, e]
  have e2 : insR (T.getD j [] :: T.drop (j + 1)) y = _ := rfl
  rw [show insR (T.getD j [] :: T.drop (j + 1)) y = if putAt (T.getD j []) y < (T.getD j []).length then ((T.getD j []).set (putAt (T.getD j []) y) y :: (insR (T.drop (j + 1)) ((T.getD j []).getD (putAt (T.getD j []) y) 0)).1, (insR (T.drop (j + 1)) ((T.getD j []).getD (putAt (T.getD j []) y) 0)).2 + 1) else ((T.getD j [] ++ [y]) :: T.drop (j + 1), 0) from rfl, if_pos hk]
  simp
  omega

/-- The end: the number goes behind row j, or below all. -/
theorem bumped_end {T : List (List Int)} {x y : Int} {j : Nat} {A : List (List Int)} (h : Bumped T x j A y) (hj : j ≤ T.length) (hk : j < T.length → ¬ putAt (T.getD j []) y < (T.getD j []).length) :
    insR T x = (putL (A ++ T.drop j) j y, j) := by
  obtain ⟨h1, h2⟩ := h
  rw [h2]
  by_cases hlt : j < T.length
  · have e : T.drop j = T.getD j [] :: T.drop (j + 1) := by
      rw [List.drop_eq_getElem_cons hlt]; simp [hlt]
    rw [e, show insR (T.getD j [] :: T.drop (j + 1)) y = if putAt (T.getD j []) y < (T.getD j []).length then ((T.getD j []).set (putAt (T.getD j []) y) y :: (insR (T.drop (j + 1)) ((T.getD j []).getD (putAt (T.getD j []) y) 0)).1, (insR (T.drop (j + 1)) ((T.getD j []).getD (putAt (T.getD j []) y) 0)).2 + 1) else ((T.getD j [] ++ [y]) :: T.drop (j + 1), 0) from rfl, if_neg (hk hlt)]
    unfold putL
    rw [if_pos (by rw [List.length_append, List.length_cons]; omega)]
    subst h1
    have e3 : (A ++ T.getD A.length [] :: T.drop (A.length + 1)).getD A.length [] = T.getD A.length [] := by
      rw [List.getD_eq_getElem?_getD, List.getElem?_append_right (Nat.le_refl _)]; simp
    rw [List.set_append_right _ _ (Nat.le_refl _), e3, Nat.sub_self]
    rfl
  · have e : T.drop j = [] := List.drop_of_length_le (by omega)
    rw [e]
    unfold putL
    rw [if_neg (by simp; omega)]
    simp [insR]

theorem insR_le : ∀ (T : List (List Int)) (x : Int), (insR T x).2 ≤ T.length ∧ (insR T x).1.length ≤ T.length + 1 ∧ T.length ≤ (insR T x).1.length ∧ tot (insR T x).1 = tot T + 1
  | [], x => by simp [insR, tot]
  | r :: R, x => by
    have ih := insR_le R (r.getD (putAt r x) 0)
    unfold insR
    split
    · refine ⟨Nat.succ_le_succ ih.1, Nat.succ_le_succ ih.2.1, Nat.succ_le_succ ih.2.2.1, ?_⟩
      show (r.set (putAt r x) x).length + tot (insR R (r.getD (putAt r x) 0)).1 = r.length + tot R + 1
      rw [List.length_set]; omega
    · refine ⟨by simp, by simp, by simp, ?_⟩
      show (r ++ [x]).length + tot R = r.length + tot R + 1
      simp; omega

/-- A row below one: not longer, greater at each place. -/
def Bel (r s : List Int) : Prop := s.length ≤ r.length ∧ ∀ j, j < s.length → r.getD j 0 < s.getD j 0

/-- Rows that ascend, as do their columns. -/
def Tab : List (List Int) → Prop
  | [] => True
  | [r] => r.Pairwise (· < ·)
  | r :: s :: R => r.Pairwise (· < ·) ∧ Bel r s ∧ Tab (s :: R)

theorem tab_tail {r : List Int} {R : List (List Int)} (h : Tab (r :: R)) : Tab R := by
  cases R with
  | nil => trivial
  | cons s S => exact h.2.2

theorem tab_head {r : List Int} {R : List (List Int)} (h : Tab (r :: R)) : r.Pairwise (· < ·) := by
  cases R with
  | nil => exact h
  | cons s S => exact h.1

theorem tab_cons {r : List Int} {R : List (List Int)} (h1 : r.Pairwise (· < ·)) (h2 : ∀ s S, R = s :: S → Bel r s) (h3 : Tab R) : Tab (r :: R) := by
  cases R with
  | nil => exact h1
  | cons s S => exact ⟨h1, h2 s S rfl, h3⟩

theorem tab_bel {r s : List Int} {S : List (List Int)} (h : Tab (r :: s :: S)) : Bel r s := h.2.1

theorem set_sorted {r : List Int} {x : Int} (h : r.Pairwise (· < ·)) (hk : putAt r x < r.length) (hx : x ∉ r) : (r.set (putAt r x) x).Pairwise (· < ·) ∧ x < r.getD (putAt r x) 0 := by
  have hlt : x < r.getD (putAt r x) 0 := by
    have h1 := putAt_ge r x hk
    have h2 : r.getD (putAt r x) 0 ∈ r := by
      have : r.getD (putAt r x) 0 = r[putAt r x] := by simp [hk]
      rw [this]; exact List.getElem_mem _
    have h3 : x ≠ r.getD (putAt r x) 0 := fun e => hx (e ▸ h2)
    omega
  refine ⟨?_, hlt⟩
  rw [List.pairwise_iff_getElem]
  intro i j hi hj hij
  rw [List.length_set] at hi hj
  have e : ∀ a (ha : a < r.length), r[a] = r.getD a 0 := fun a ha => by simp [ha]
  rw [List.getElem_set, List.getElem_set]
  by_cases c1 : putAt r x = i
  · rw [if_pos c1, if_neg (by omega), e j hj]
    have := sorted_getD h (show putAt r x < j by omega) hj
    omega
  · by_cases c2 : putAt r x = j
    · rw [if_neg c1, if_pos c2, e i hi]
      exact putAt_lt r x i (by omega)
    · rw [if_neg c1, if_neg c2, e i hi, e j hj]
      exact sorted_getD h hij hj

theorem snoc_sorted {r : List Int} {x : Int} (h : r.Pairwise (· < ·)) (hk : ¬ putAt r x < r.length) : (r ++ [x]).Pairwise (· < ·) := by
  rw [List.pairwise_append]
  refine ⟨h, by simp, ?_⟩
  intro a ha b hb
  simp at hb
  subst hb
  obtain ⟨i, hi, rfl⟩ := List.mem_iff_getElem.1 ha
  have := putAt_lt r b i (by omega)
  simpa [hi] using this

theorem getD_set_i {r : List Int} {k j : Nat} {x : Int} : (r.set k x).getD j 0 = if k = j ∧ j < r.length then x else r.getD j 0 := by
  by_cases h : k = j
  · subst h
    by_cases h2 : k < r.length
    · rw [if_pos ⟨rfl, h2⟩, getD_set_e h2]
    · rw [if_neg (by omega), List.set_eq_of_length_le (by omega)]
  · rw [if_neg (by omega), getD_set_n h]

theorem putAt_least {s : List Int} {y : Int} {j : Nat} (h : y < s.getD j 0) : putAt s y ≤ j := by
  by_cases h1 : putAt s y ≤ j
  · exact h1
  · have := putAt_lt s y j (by omega)
    omega

/-- What has been inserted is rows again. -/
theorem insR_tab : ∀ (T : List (List Int)) (x : Int), Tab T → (x :: T.flatten).Nodup → Tab (insR T x).1
  | [], x, _, _ => by show ([x] : List Int).Pairwise _; simp
  | r :: R, x, h, hn => by
    have hx : x ∉ r := fun hx => by
      rw [List.nodup_cons] at hn
      exact hn.1 (by simp [hx])
    unfold insR
    by_cases hk : putAt r x < r.length
    · rw [if_pos hk]
      obtain ⟨y, hy⟩ : ∃ y, r.getD (putAt r x) 0 = y := ⟨_, rfl⟩
      have hym : y ∈ r := by
        rw [← hy]
        have : r.getD (putAt r x) 0 = r[putAt r x] := by simp [hk]
        rw [this]; exact List.getElem_mem _
      have hnr : (r ++ R.flatten).Nodup := by
        rw [List.nodup_cons] at hn
        simpa using hn.2
      have hny : (y :: R.flatten).Nodup := by
        rw [List.nodup_append] at hnr
        rw [List.nodup_cons]
        exact ⟨fun hm => hnr.2.2 y hym y hm rfl, hnr.2.1⟩
      have ih := insR_tab R y (tab_tail h) hny
      have hss := set_sorted (tab_head h) hk hx
      rw [hy] at hss ⊢
      refine tab_cons hss.1 ?_ ih
      intro s S hS
      cases R with
      | nil =>
        cases hS
        refine ⟨by simp; omega, ?_⟩
        intro j hj
        have : j = 0 := by simpa using hj
        subst this
        show (r.set (putAt r x) x).getD 0 0 < y
        rw [getD_set_i]
        split
        · exact hss.2
        · rename_i h0
          rw [← hy]
          exact sorted_getD (tab_head h) (by omega) hk
      | cons s0 S0 =>
        have hb := tab_bel h
        have hle : ∀ j, (r.set (putAt r x) x).getD j 0 ≤ r.getD j 0 := by
          intro j
          rw [getD_set_i]
          split
          · rename_i h0; rw [← h0.1, hy]; omega
          · exact Int.le_refl _
        have hk2 : putAt s0 y ≤ putAt r x := by
          by_cases h1 : putAt r x < s0.length
          · exact putAt_least (by
              have h2 := hb.2 _ h1
              rw [hy] at h2
              exact h2)
          · have := putAt_le s0 y; omega
        have hput : (r.set (putAt r x) x).getD (putAt s0 y) 0 < y := by
          rw [getD_set_i]
          by_cases h1 : putAt r x = putAt s0 y
          · rw [if_pos ⟨h1, by omega⟩]; exact hss.2
          · rw [if_neg (by omega)]
            have h9 := sorted_getD (tab_head h) (i := putAt s0 y) (j := putAt r x) (by omega) hk
            rw [hy] at h9
            exact h9
        by_cases hk3 : putAt s0 y < s0.length
        · rw [show insR (s0 :: S0) y = if putAt s0 y < s0.length then (s0.set (putAt s0 y) y :: (insR S0 (s0.getD (putAt s0 y) 0)).1, (insR S0 (s0.getD (putAt s0 y) 0)).2 + 1) else ((s0 ++ [y]) :: S0, 0) from rfl, if_pos hk3] at hS
          have es : s = s0.set (putAt s0 y) y := by cases hS; rfl
          subst es
          refine ⟨by simp; exact hb.1, ?_⟩
          intro j hj
          rw [List.length_set] at hj
          rw [getD_set_i (r := s0)]
          by_cases h1 : putAt s0 y = j
          · rw [if_pos ⟨h1, hj⟩, ← h1]; exact hput
          · rw [if_neg (by omega)]
            exact Int.lt_of_le_of_lt (hle j) (hb.2 j hj)
        · rw [show insR (s0 :: S0) y = if putAt s0 y < s0.length then (s0.set (putAt s0 y) y :: (insR S0 (s0.getD (putAt s0 y) 0)).1, (insR S0 (s0.getD (putAt s0 y) 0)).2 + 1) else ((s0 ++ [y]) :: S0, 0) from rfl, if_neg hk3] at hS
          have es : s = s0 ++ [y] := by cases hS; rfl
          subst es
          have hk4 : putAt s0 y = s0.length := by have := putAt_le s0 y; omega
          rw [hk4] at hput hk2
          refine ⟨by simp; omega, ?_⟩
          intro j hj
          rw [List.length_append, List.length_singleton] at hj
          by_cases h1 : j < s0.length
          · rw [getD_app_l h1]
            exact Int.lt_of_le_of_lt (hle j) (hb.2 j h1)
          · have : j = s0.length := by omega
            subst this
            rw [getD_app_r]
            exact hput
    · rw [if_neg hk]
      refine tab_cons (snoc_sorted (tab_head h) hk) ?_ (tab_tail h)
      intro s S hS
      subst hS
      have hb := tab_bel h
      refine ⟨by simp; have := hb.1; omega, fun j hj => ?_⟩
      rw [getD_app_l (by have := hb.1; omega)]
      exact hb.2 j hj

theorem perm_set {r : List Int} {k : Nat} {x : Int} (hk : k < r.length) : (r.getD k 0 :: r.set k x).Perm (x :: r) := by
  have e : r.getD k 0 = r[k] := by simp [hk]
  rw [e]
  have h1 : r = r.take k ++ r[k] :: r.drop (k + 1) := by
    rw [← List.drop_eq_getElem_cons hk, List.take_append_drop]
  have h2 : r.set k x = r.take k ++ x :: r.drop (k + 1) := by
    rw [List.set_eq_take_append_cons_drop, if_pos hk]
  rw [h2]
  have h3 : (x :: r).Perm (x :: (r.take k ++ r[k] :: r.drop (k + 1))) := by rw [← h1]
  refine List.Perm.trans ?_ h3.symm
  refine ((List.perm_middle (a := x) (l₁ := r.take k) (l₂ := r.drop (k + 1))).cons r[k]).trans ?_
  refine (List.Perm.swap x r[k] _).trans ?_
  exact (List.perm_middle (a := r[k]) (l₁ := r.take k) (l₂ := r.drop (k + 1))).symm.cons x

theorem insR_perm : ∀ (T : List (List Int)) (x : Int), (insR T x).1.flatten.Perm (x :: T.flatten)
  | [], x => by simp [insR]
  | r :: R, x => by
    unfold insR
    by_cases hk : putAt r x < r.length
    · rw [if_pos hk]
      have ih := insR_perm R (r.getD (putAt r x) 0)
      show (r.set (putAt r x) x ++ (insR R (r.getD (putAt r x) 0)).1.flatten).Perm (x :: (r ++ R.flatten))
      refine (ih.append_left _).trans ?_
      refine List.perm_middle.trans ?_
      rw [← List.cons_append, ← List.cons_append]
      exact (perm_set hk).append_right _
    · rw [if_neg hk]
      show (r ++ [x] ++ R.flatten).Perm (x :: (r ++ R.flatten))
      rw [List.append_assoc]
      exact List.perm_middle

/-- The rows and the twin rows of the first k numbers. -/
def pq (zs : List Int) : Nat → List (List Int) × List (List Int)
  | 0 => ([], [])
  | k + 1 => ((insR (pq zs k).1 (zs.getD k 0)).1, putL (pq zs k).2 (insR (pq zs k).1 (zs.getD k 0)).2 ((k : Int) + 1))

/-- The lengths of rows. -/
def lens (T : List (List Int)) : List Nat := T.map List.length

theorem insR_lens : ∀ (T U : List (List Int)) (x y : Int), lens T = lens U → lens (insR T x).1 = lens (putL U (insR T x).2 y)
  | [], [], x, y, _ => by simp [insR, putL, lens]
  | [], _ :: _, _, _, h => by simp [lens] at h
  | _ :: _, [], _, _, h => by simp [lens] at h
  | r :: R, u :: U, x, y, h => by
    have h1 : r.length = u.length ∧ lens R = lens U := by simpa [lens] using h
    unfold insR
    by_cases hk : putAt r x < r.length
    · rw [if_pos hk]
      have ih := insR_lens R U (r.getD (putAt r x) 0) y h1.2
      show (r.set (putAt r x) x).length :: lens (insR R (r.getD (putAt r x) 0)).1 = lens (putL (u :: U) ((insR R (r.getD (putAt r x) 0)).2 + 1) y)
      rw [ih, List.length_set, h1.1]
      generalize (insR R (r.getD (putAt r x) 0)).2 = m
      unfold putL
      by_cases hm : m < U.length
      · rw [if_pos hm, if_pos (by simpa using hm)]; rfl
      · rw [if_neg hm, if_neg (by simpa using hm)]; rfl
    · rw [if_neg hk]
      unfold putL
      rw [if_pos (by simp)]
      show (r ++ [x]).length :: lens R = (u ++ [y]).length :: lens U
      rw [h1.2]; simp [h1.1]

theorem pq_lens (zs : List Int) : ∀ k, lens (pq zs k).1 = lens (pq zs k).2
  | 0 => rfl
  | k + 1 => insR_lens _ _ _ _ (pq_lens zs k)

theorem pq_ok (zs : List Int) : ∀ k, (pq zs k).1.length ≤ k ∧ tot (pq zs k).1 = k ∧ tot (pq zs k).2 = k ∧ (pq zs k).2.length = (pq zs k).1.length
  | 0 => ⟨Nat.le_refl _, rfl, rfl, rfl⟩
  | k + 1 => by
    obtain ⟨h1, h2, h3, h4⟩ := pq_ok zs k
    have h5 := insR_le (pq zs k).1 (zs.getD k 0)
    have h6 := congrArg List.length (pq_lens zs (k + 1))
    simp [lens] at h6
    refine ⟨by unfold pq; simp only; omega, by unfold pq; simp only; omega, by unfold pq; simp only; rw [putL_tot]; omega, h6.symm⟩

theorem pq_tab {zs : List Int} (hn : zs.Nodup) : ∀ k, k ≤ zs.length → Tab (pq zs k).1 ∧ (pq zs k).1.flatten.Perm (zs.take k)
  | 0, _ => ⟨trivial, by simp [pq]⟩
  | k + 1, hk => by
    obtain ⟨h1, h2⟩ := pq_tab hn k (by omega)
    have e : zs.take (k + 1) = zs.take k ++ [zs.getD k 0] := by
      rw [List.take_succ_eq_append_getElem (by omega)]; simp [show k < zs.length by omega]
    have hp : (zs.getD k 0 :: (pq zs k).1.flatten).Perm (zs.take (k + 1)) := by
      rw [e]
      exact (h2.cons _).trans (List.perm_append_singleton _ _).symm
    refine ⟨insR_tab _ _ h1 (hp.nodup_iff.2 ((List.take_sublist _ _).nodup hn)), (insR_perm _ _).trans hp⟩

def rowsAns (zs : List Int) : List (List Int) × Bool := if Ord zs then ((pq zs zs.length).1, true) else ([], false)
def twinAns (zs : List Int) : List (List Int) × Bool := if Ord zs then ((pq zs zs.length).2, true) else ([], false)

theorem rows_alen {zs : List Int} {L : List (List Int)} {b : Bool} (h : rowsAns zs = (L, b)) : L.length + tot L ≤ 1048576 := by
  unfold rowsAns at h
  split at h
  · rename_i ho
    cases h
    have h1 := pq_ok zs zs.length
    exact ans_small ho _ h1.1 h1.2.1
  · cases h; decide

theorem twin_alen {zs : List Int} {L : List (List Int)} {b : Bool} (h : twinAns zs = (L, b)) : L.length + tot L ≤ 1048576 := by
  unfold twinAns at h
  split at h
  · rename_i ho
    cases h
    have h1 := pq_ok zs zs.length
    exact ans_small ho _ (by rw [h1.2.2.2]; exact h1.1) h1.2.2.1
  · cases h; decide

end Go.Proofs.Ytpkjnlabjmpokaa.RowsM

namespace Go.Proofs.Ytpkjnlabjmpokaa.AreM
open OrdMath LLC QueM PassM RowsM

instance (r s : List Int) : Decidable (Bel r s) := by unfold Bel; infer_instance

/-- A row fits below the one above it. -/
def RowOk (L : List (List Int)) (i : Nat) : Prop := 1 ≤ (L.getD i []).length ∧ (0 < i → Bel (L.getD (i - 1) []) (L.getD i [])) ∧ (L.getD i []).Pairwise (· < ·)

instance (L : List (List Int)) (i : Nat) : Decidable (RowOk L i) := by unfold RowOk; infer_instance

/-- As the program asks it: equal numbers are told later. -/
def RowWk (L : List (List Int)) (i : Nat) : Prop := 1 ≤ (L.getD i []).length ∧ (L.getD i []).length ≤ 7 ∧
  (0 < i → (L.getD i []).length ≤ (L.getD (i - 1) []).length ∧ ∀ j, j < (L.getD i []).length → (L.getD (i - 1) []).getD j 0 ≤ (L.getD i []).getD j 0) ∧ (L.getD i []).Pairwise (· ≤ ·)

def areB (L : List (List Int)) : Bool := decide ((∀ i, i < L.length → RowOk L i) ∧ Ord L.flatten)

theorem are_row {L : List (List Int)} {i : Nat} (hi : i < L.length) (h : ¬ RowOk L i) : areB L = false := by
  unfold areB; rw [decide_eq_false_iff_not]; exact fun hh => h (hh.1 i hi)

theorem flat_len_le : ∀ {L : List (List Int)} {i : Nat}, i < L.length → (L.take i).flatten.length + (L.getD i []).length ≤ L.flatten.length
  | [], i, h => absurd h (by simp)
  | l :: L, 0, _ => by simp
  | l :: L, i + 1, h => by
    have ih := flat_len_le (L := L) (i := i) (by simpa using h)
    show (l ++ (L.take i).flatten).length + (L.getD i []).length ≤ (l ++ L.flatten).length
    rw [List.length_append, List.length_append]
    omega

theorem are_long {L : List (List Int)} {i : Nat} (hi : i < L.length) (h : 7 < (L.take i).flatten.length + (L.getD i []).length) : areB L = false := by
  unfold areB; rw [decide_eq_false_iff_not]
  intro hh
  have h1 := hh.2.2.1
  have h2 := flat_len_le hi
  omega

theorem flat_ge : ∀ (L : List (List Int)), (∀ i, i < L.length → 1 ≤ (L.getD i []).length) → L.length ≤ L.flatten.length
  | [], _ => by simp
  | l :: L, h => by
    have ih := flat_ge L (fun i hi => h (i + 1) (by simpa using hi))
    have h0 := h 0 (by simp)
    have h1 : 1 ≤ l.length := h0
    show L.length + 1 ≤ (l ++ L.flatten).length
    rw [List.length_append]
    omega

theorem are_many {L : List (List Int)} (h : 7 < L.length) : areB L = false := by
  unfold areB; rw [decide_eq_false_iff_not]
  intro hh
  have h1 := flat_ge L (fun i hi => (hh.1 i hi).1)
  have h2 := hh.2.2.1
  omega

theorem are_ok {L : List (List Int)} (h : ∀ i, i < L.length → RowOk L i) : areB L = isOrd L.flatten := by
  unfold areB isOrd
  rw [Bool.eq_iff_iff, decide_eq_true_iff, decide_eq_true_iff]
  exact ⟨fun hh => hh.2, fun hh => ⟨h, hh⟩⟩

theorem getD_mem {r : List Int} {j : Nat} (h : j < r.length) : r.getD j 0 ∈ r := by
  have e : r.getD j 0 = r[j] := by simp [h]
  rw [e]; exact List.getElem_mem _

theorem wk_ok {L : List (List Int)} (hn : L.flatten.Nodup) {i : Nat} (hi : i < L.length) (h : RowWk L i) : RowOk L i := by
  obtain ⟨h1, _, h3, h4⟩ := h
  refine ⟨h1, fun h0 => ?_, nodup_lt h4 ((mem_flat hi).nodup hn)⟩
  obtain ⟨h5, h6⟩ := h3 h0
  refine ⟨h5, fun j hj => ?_⟩
  have h7 := h6 j hj
  have h8 : (L.getD (i - 1) [] ++ L.getD i []).Nodup := by
    have := two_sub (L := L) (i := i - 1) (by omega)
    rw [show i - 1 + 1 = i by omega] at this
    exact this.nodup hn
  rw [List.nodup_append] at h8
  have h9 := h8.2.2 ((L.getD (i - 1) []).getD j 0) (getD_mem (by omega)) ((L.getD i []).getD j 0) (getD_mem hj)
  omega

theorem are_wk {L : List (List Int)} (h : ∀ i, i < L.length → RowWk L i) : areB L = isOrd L.flatten := by
  unfold areB isOrd
  rw [Bool.eq_iff_iff, decide_eq_true_iff, decide_eq_true_iff]
  exact ⟨fun hh => hh.2, fun hh => ⟨fun i hi => wk_ok hh.2.2.2 hi (h i hi), hh⟩⟩

theorem are_not_wk {L : List (List Int)} {i : Nat} (hi : i < L.length) (h : ¬ RowWk L i) : areB L = false := by
  unfold areB; rw [decide_eq_false_iff_not]
  intro hh
  apply h
  obtain ⟨h1, h2, h3⟩ := hh.1 i hi
  have h4 := flat_len_le hi
  have h5 := hh.2.2.1
  refine ⟨h1, by omega, fun h0 => ?_, h3.imp (fun h => Int.le_of_lt h)⟩
  obtain ⟨h6, h7⟩ := h2 h0
  exact ⟨h6, fun j hj => Int.le_of_lt (h7 j hj)⟩

/-- A row is gone through: the k first of its numbers ascend and lie below. -/
def ColsTo (L : List (List Int)) (i k : Nat) : Prop := ∀ j, j < k → (0 < j → (L.getD i []).getD (j - 1) 0 < (L.getD i []).getD j 0) ∧ (0 < i → (L.getD (i - 1) []).getD j 0 < (L.getD i []).getD j 0)

theorem cols_zero (L : List (List Int)) (i : Nat) : ColsTo L i 0 := fun j hj => by omega

theorem cols_next {L : List (List Int)} {i k : Nat} (h : ColsTo L i k) (h1 : 0 < k → (L.getD i []).getD (k - 1) 0 < (L.getD i []).getD k 0) (h2 : 0 < i → (L.getD (i - 1) []).getD k 0 < (L.getD i []).getD k 0) : ColsTo L i (k + 1) := by
  intro j hj
  by_cases e : j = k
  · subst e; exact ⟨h1, h2⟩
  · exact h j (by omega)

theorem up_sorted {r : List Int} (h : ∀ j, j < r.length → 0 < j → r.getD (j - 1) 0 < r.getD j 0) : r.Pairwise (· < ·) := by
  have step : ∀ m i, i + (m + 1) < r.length → r.getD i 0 < r.getD (i + (m + 1)) 0 := by
    intro m
    induction m with
    | zero =>
      intro i hi
      exact h (i + 1) hi (by omega)
    | succ m ih =>
      intro i hi
      have h1 := ih i (by omega)
      have h2 := h (i + (m + 1) + 1) (by omega) (by omega)
      rw [show i + (m + 1) + 1 - 1 = i + (m + 1) by omega] at h2
      rw [show i + (m + 1 + 1) = i + (m + 1) + 1 by omega]
      omega
  rw [List.pairwise_iff_getElem]
  intro i j hi hj hij
  have h1 := step (j - i - 1) i (by omega)
  rw [show i + (j - i - 1 + 1) = j by omega] at h1
  simpa [hi, hj] using h1

theorem cols_row {L : List (List Int)} {i : Nat} (h1 : 1 ≤ (L.getD i []).length) (h2 : 0 < i → (L.getD i []).length ≤ (L.getD (i - 1) []).length) (h : ColsTo L i (L.getD i []).length) : RowOk L i :=
  ⟨h1, fun h0 => ⟨h2 h0, fun j hj => (h j hj).2 h0⟩, up_sorted (fun j hj h0 => (h j hj).1 h0)⟩

theorem row_cols {L : List (List Int)} {i : Nat} (h : RowOk L i) : ColsTo L i (L.getD i []).length := by
  intro j hj
  refine ⟨fun h0 => sorted_getD h.2.2 (by omega) hj, fun h0 => (h.2.1 h0).2 j hj⟩

theorem flat_next {L : List (List Int)} {i : Nat} (h : i < L.length) : (L.take (i + 1)).flatten = (L.take i).flatten ++ L.getD i [] := take_flat h

end Go.Proofs.Ytpkjnlabjmpokaa.AreM

namespace Go.Proofs.Ytpkjnlabjmpokaa.RiseEq
open AllO OrdMath RiseM RowsM

def eqR (n : Nat) (zs : List Int) : Bool := (longest true zs).length == ((pq zs n).1.getD 0 []).length && Nat.blt 0 (pq zs n).1.length

theorem rise_kernel : ∀ n < 7, 1 ≤ n → (allO n).all (eqR n) = true := by decide +kernel

theorem rise_eq {n : Nat} (h1 : 1 ≤ n) (h6 : n ≤ 6) {zs : List Int} (hz : zs ∈ allO n) : (longest true zs).length = ((pq zs n).1.getD 0 []).length ∧ 1 ≤ (pq zs n).1.length := by
  have h := List.all_eq_true.1 (rise_kernel n (by omega) h1) zs hz
  unfold eqR at h
  rw [Bool.and_eq_true] at h
  refine ⟨eq_of_beq h.1, ?_⟩
  have h2 := h.2
  rw [Nat.blt_eq] at h2
  exact h2

end Go.Proofs.Ytpkjnlabjmpokaa.RiseEq
