/-
  The mathematics of taking numbers out of rows again. Conditions: none. Plain facts on lists.
-/
import Derived.Test.YtecbfoodkcgehabAreM
import Derived.Test.YtecbfoodkcgehabOrdFacts
namespace Go.Proofs.Ytecbfoodkcgehab.OutM
open OrdMath OrdFacts LLC QueM PassM RowsM AreM

/-- The last number of a row taken out, and what has made room goes back up. -/
def outR : List (List Int) → Nat → List (List Int) × Int
  | [], _ => ([], 0)
  | r :: R, 0 => (r.dropLast :: R, last r)
  | r :: R, k + 1 => (r.set (putAt r (outR R k).2 - 1) (outR R k).2 :: (outR R k).1, r.getD (putAt r (outR R k).2 - 1) 0)

theorem last_mem {r : List Int} (h : 0 < r.length) : last r ∈ r := getD_mem (by omega)

/-- What comes out lay in the first row. -/
theorem outR_mem : ∀ (T : List (List Int)) (k : Nat), k < T.length → (∀ i, i < k → 0 < (T.getD i []).length) → 0 < (T.getD k []).length → (outR T k).2 ∈ T.getD 0 []
  | [], _, h, _, _ => absurd h (by simp)
  | r :: R, 0, _, _, h => last_mem h
  | r :: R, k + 1, hk, h1, h2 => by
    have h3 := h1 0 (by omega)
    show r.getD (putAt r (outR R k).2 - 1) 0 ∈ r
    have h4 := putAt_le r (outR R k).2
    exact getD_mem (by have : 0 < r.length := h3; omega)

theorem outR_len : ∀ (T : List (List Int)) (k : Nat), (outR T k).1.length = T.length
  | [], _ => rfl
  | r :: R, 0 => by simp [outR]
  | r :: R, k + 1 => by simp [outR, outR_len R k]

/-- A row with its last number cut off. -/
def cutL (U : List (List Int)) (k : Nat) : List (List Int) := U.set k (U.getD k []).dropLast

theorem outR_lens : ∀ (T U : List (List Int)) (k : Nat), lens T = lens U → lens (outR T k).1 = lens (cutL U k)
  | [], [], k, _ => by simp [outR, cutL, lens]
  | [], _ :: _, _, h => by simp [lens] at h
  | _ :: _, [], _, h => by simp [lens] at h
  | r :: R, u :: U, 0, h => by
    have h1 : r.length = u.length ∧ lens R = lens U := by simpa [lens] using h
    show r.dropLast.length :: lens R = u.dropLast.length :: lens U
    rw [h1.2]; simp [h1.1]
  | r :: R, u :: U, k + 1, h => by
    have h1 : r.length = u.length ∧ lens R = lens U := by simpa [lens] using h
    have ih := outR_lens R U k h1.2
    show (r.set _ _).length :: lens (outR R k).1 = u.length :: lens (cutL U k)
    rw [ih, List.length_set, h1.1]

theorem drop_last_get {r : List Int} {j : Nat} (h : j < r.dropLast.length) : r.dropLast.getD j 0 = r.getD j 0 := by
  rw [List.length_dropLast] at h
  rw [List.dropLast_eq_take, List.getD_eq_getElem?_getD, List.getElem?_take, if_pos h, ← List.getD_eq_getElem?_getD]

theorem perm_last {r : List Int} (h : 0 < r.length) : r = r.dropLast ++ [last r] := by
  rcases List.eq_nil_or_concat r with rfl | ⟨q, x, rfl⟩
  · simp at h
  · rw [List.concat_eq_append]
    unfold last
    rw [List.length_append, List.length_singleton, Nat.add_sub_cancel, getD_app_r]
    simp

/-- Where a row has its greatest number that is less. -/
theorem back_at {r : List Int} {x : Int} (h0 : 0 < r.length) (h1 : r.getD 0 0 < x) : 1 ≤ putAt r x := by
  cases r with
  | nil => simp at h0
  | cons y r =>
    have : y < x := h1
    unfold putAt
    rw [if_pos this]; omega

theorem putAt_more {r : List Int} {x : Int} (hr : r.Pairwise (· < ·)) {k : Nat} (hk : k < r.length) (h : r.getD k 0 < x) : k < putAt r x := by
  by_cases h1 : k < putAt r x
  · exact h1
  · exfalso
    have h2 := putAt_ge r x (by omega)
    by_cases h3 : putAt r x = k
    · rw [h3] at h2; omega
    · have := sorted_getD hr (show putAt r x < k by omega) hk
      omega

theorem set_back {r : List Int} {x : Int} (hr : r.Pairwise (· < ·)) (hx : x ∉ r) (h1 : 1 ≤ putAt r x) : (r.set (putAt r x - 1) x).Pairwise (· < ·) ∧ r.getD (putAt r x - 1) 0 < x := by
  have hle := putAt_le r x
  have hlt := putAt_lt r x (putAt r x - 1) (by omega)
  refine ⟨?_, hlt⟩
  rw [List.pairwise_iff_getElem]
  intro i j hi hj hij
  rw [List.length_set] at hi hj
  have e : ∀ a (ha : a < r.length), r[a] = r.getD a 0 := fun a ha => by simp [ha]
  rw [List.getElem_set, List.getElem_set]
  by_cases c1 : putAt r x - 1 = i
  · rw [if_pos c1, if_neg (by omega), e j hj]
    have h2 := putAt_ge r x (by omega)
    have h3 : x ≠ r.getD (putAt r x) 0 := fun e => hx (e ▸ getD_mem (by omega))
    by_cases h4 : putAt r x = j
    · rw [← h4]; omega
    · have := sorted_getD hr (show putAt r x < j by omega) hj
      omega
  · by_cases c2 : putAt r x - 1 = j
    · rw [if_neg c1, if_pos c2, e i hi]
      exact putAt_lt r x i (by omega)
    · rw [if_neg c1, if_neg c2, e i hi, e j hj]
      exact sorted_getD hr hij hj

/-- A place that may be taken away. -/
def Corner (T : List (List Int)) (k : Nat) : Prop := k < T.length ∧ 0 < (T.getD k []).length ∧ (k + 1 < T.length → (T.getD (k + 1) []).length < (T.getD k []).length)

theorem tab_pos : ∀ {T : List (List Int)} {k : Nat}, Tab T → k < T.length → 0 < (T.getD k []).length → ∀ i, i ≤ k → 0 < (T.getD i []).length
  | [], _, _, h, _, _, _ => absurd h (by simp)
  | r :: R, 0, _, _, h, i, hi => by
    have : i = 0 := by omega
    subst this; exact h
  | r :: [], k + 1, _, h, _, _, _ => absurd h (by simp)
  | r :: s :: S, k + 1, ht, hk, h, i, hi => by
    have ih := tab_pos (T := s :: S) (k := k) (tab_tail ht) (by simpa using hk) h
    cases i with
    | zero =>
      have h0 := ih 0 (by omega)
      have h1 := (tab_bel ht).1
      have h2 : 0 < s.length := h0
      show 0 < r.length
      omega
    | succ i => exact ih i (by omega)

theorem outR_perm : ∀ (T : List (List Int)) (k : Nat), Tab T → T.flatten.Nodup → k < T.length → 0 < (T.getD k []).length → ((outR T k).2 :: (outR T k).1.flatten).Perm T.flatten
  | [], _, _, _, h, _ => absurd h (by simp)
  | r :: R, 0, _, _, _, h => by
    show (last r :: (r.dropLast ++ R.flatten)).Perm (r ++ R.flatten)
    have h1 := perm_last h
    have h2 : (r ++ R.flatten) = r.dropLast ++ (last r :: R.flatten) := by
      have := congrArg (· ++ R.flatten) h1
      simpa using this
    rw [h2]
    exact List.perm_middle.symm
  | r :: [], k + 1, _, _, h, _ => absurd h (by simp)
  | r :: s :: S, k + 1, ht, hn, hk, h => by
    have hn2 : (s :: S).flatten.Nodup := (List.nodup_append.1 (show (r ++ (s :: S).flatten).Nodup from hn)).2.1
    have ih := outR_perm (s :: S) k (tab_tail ht) hn2 (by simpa using hk) h
    have hp := tab_pos ht hk h
    have hm := outR_mem (s :: S) k (by simpa using hk) (fun i hi => hp (i + 1) (by omega)) h
    have hr0 : 0 < r.length := hp 0 (by omega)
    have hx : r.getD 0 0 < (outR (s :: S) k).2 := by
      obtain ⟨q, hq, e⟩ := List.mem_iff_getElem.1 hm
      have hq' : q < s.length := hq
      have h2 := (tab_bel ht).2 0 (by omega)
      have h3 : (outR (s :: S) k).2 = s.getD q 0 := by rw [← e]; simp [hq']
      rw [h3]
      by_cases h4 : q = 0
      · rw [h4]; exact h2
      · have := sorted_getD (tab_head (tab_tail ht)) (show 0 < q by omega) hq'
        omega
    have h1 := back_at hr0 hx
    have hle := putAt_le r (outR (s :: S) k).2
    have hps := perm_set (r := r) (k := putAt r (outR (s :: S) k).2 - 1) (x := (outR (s :: S) k).2) (by omega)
    show (r.getD (putAt r (outR (s :: S) k).2 - 1) 0 :: (r.set (putAt r (outR (s :: S) k).2 - 1) (outR (s :: S) k).2 ++ (outR (s :: S) k).1.flatten)).Perm (r ++ (s :: S).flatten)
    rw [← List.cons_append]
    refine (hps.append_right _).trans ?_
    rw [List.cons_append]
    refine List.perm_middle.symm.trans ?_
    exact ih.append_left r

theorem outR_up {r s : List Int} {S : List (List Int)} {k : Nat} (ht : Tab (r :: s :: S)) (hk : k < (s :: S).length) (h : 0 < ((s :: S).getD k []).length) : 0 < r.length ∧ r.getD 0 0 < (outR (s :: S) k).2 ∧ 1 ≤ putAt r (outR (s :: S) k).2 := by
  have hp := tab_pos (k := k + 1) ht (by simpa using hk) h
  have hm := outR_mem (s :: S) k hk (fun i hi => hp (i + 1) (by omega)) h
  have hr0 : 0 < r.length := hp 0 (by omega)
  have hx : r.getD 0 0 < (outR (s :: S) k).2 := by
    obtain ⟨q, hq, e⟩ := List.mem_iff_getElem.1 hm
    have hq' : q < s.length := hq
    have h2 := (tab_bel ht).2 0 (by omega)
    have h3 : (outR (s :: S) k).2 = s.getD q 0 := by rw [← e]; simp [hq']
    rw [h3]
    by_cases h4 : q = 0
    · rw [h4]; exact h2
    · have := sorted_getD (tab_head (tab_tail ht)) (show 0 < q by omega) hq'
      omega
  exact ⟨hr0, hx, back_at hr0 hx⟩

theorem out_notin {r s : List Int} {S : List (List Int)} {k : Nat} (hn : (r :: s :: S).flatten.Nodup) (hk : k < (s :: S).length) (hp : ∀ i, i ≤ k → 0 < ((s :: S).getD i []).length) : (outR (s :: S) k).2 ∉ r := by
  have hm := outR_mem (s :: S) k hk (fun i hi => hp i (by omega)) (hp k (Nat.le_refl _))
  have hn1 := List.nodup_append.1 (show (r ++ (s :: S).flatten).Nodup from hn)
  intro h
  exact hn1.2.2 _ h _ (by
    have : (outR (s :: S) k).2 ∈ s := hm
    simp [this]) rfl

theorem outR_tab : ∀ (T : List (List Int)) (k : Nat), Tab T → T.flatten.Nodup → Corner T k → Tab (outR T k).1
  | [], _, _, _, h => absurd h.1 (by simp)
  | r :: R, 0, ht, _, hc => by
    show Tab (r.dropLast :: R)
    have hsub : r.dropLast.Sublist r := List.dropLast_sublist r
    refine tab_cons ((tab_head ht).sublist hsub) ?_ (tab_tail ht)
    intro s S hS
    subst hS
    have hb := tab_bel ht
    have h1 : s.length < r.length := hc.2.2 (by simp)
    refine ⟨by rw [List.length_dropLast]; omega, fun j hj => ?_⟩
    rw [drop_last_get (by rw [List.length_dropLast]; omega)]
    exact hb.2 j hj
  | r :: [], k + 1, _, _, h => absurd h.1 (by simp)
  | r :: s :: S, k + 1, ht, hn, hc => by
    have hn2 : (s :: S).flatten.Nodup := (List.nodup_append.1 (show (r ++ (s :: S).flatten).Nodup from hn)).2.1
    have hc2 : Corner (s :: S) k := ⟨by have := hc.1; simpa using this, hc.2.1, fun h => hc.2.2 (by simpa using h)⟩
    have ih := outR_tab (s :: S) k (tab_tail ht) hn2 hc2
    have hup := outR_up ht hc2.1 hc2.2.1
    have hpp := tab_pos (k := k) (tab_tail ht) hc2.1 hc2.2.1
    have hx := out_notin hn hc2.1 hpp
    have hb := tab_bel ht
    have hsb := set_back (tab_head ht) hx hup.2.2
    have hle := putAt_le r (outR (s :: S) k).2
    refine tab_cons hsb.1 ?_ ih
    intro s' S' hS
    cases k with
    | zero =>
      have es : s' = s.dropLast ∧ (outR (s :: S) 0).2 = last s := ⟨by cases hS; rfl, rfl⟩
      obtain ⟨rfl, e2⟩ := es
      rw [e2] at hsb hle ⊢
      have hs0 : 0 < s.length := hc2.2.1
      refine ⟨by rw [List.length_dropLast, List.length_set]; have := hb.1; omega, fun j hj => ?_⟩
      rw [drop_last_get hj]
      rw [List.length_dropLast] at hj
      have hkk := putAt_more (tab_head ht) (k := s.length - 1) (by have := hb.1; omega) (hb.2 (s.length - 1) (by omega))
      have hkk' : s.length - 1 < putAt r (last s) := hkk
      rw [getD_set_n (by omega)]
      exact hb.2 j (by omega)
    | succ k =>
      cases S with
      | nil => exact absurd hc2.1 (by simp)
      | cons t R =>
        have hup2 := outR_up (tab_tail ht) (k := k) (by have := hc2.1; simpa using this) hc2.2.1
        have hx2 := out_notin hn2 (k := k) (by have := hc2.1; simpa using this) (fun i hi => hpp (i + 1) (by omega))
        obtain ⟨x2, ex2⟩ : ∃ x2, (outR (t :: R) k).2 = x2 := ⟨_, rfl⟩
        obtain ⟨k2, ek2⟩ : ∃ k2, putAt s x2 - 1 = k2 := ⟨_, rfl⟩
        have eo : (outR (s :: t :: R) (k + 1)).2 = s.getD k2 0 := by rw [← ek2, ← ex2]; rfl
        have es : s' = s.set k2 x2 := by rw [← ek2, ← ex2]; cases hS; rfl
        subst es
        have hle2 := putAt_le s x2
        rw [ex2] at hup2 hx2
        have hsb2 := set_back (tab_head (tab_tail ht)) hx2 hup2.2.2
        rw [ek2] at hsb2
        rw [eo] at hsb hle ⊢
        have hk2s : k2 < s.length := by omega
        have hkk := putAt_more (tab_head ht) (k := k2) (by have := hb.1; omega) (hb.2 k2 hk2s)
        refine ⟨by rw [List.length_set, List.length_set]; exact hb.1, fun j hj => ?_⟩
        rw [List.length_set] at hj
        have hge : s.getD j 0 ≤ (s.set k2 x2).getD j 0 := by
          rw [getD_set_i]
          split
          · rename_i h0; rw [← h0.1]; omega
          · exact Int.le_refl _
        rw [getD_set_i (r := r)]
        split
        · rename_i h0
          by_cases h1 : j = k2
          · rw [getD_set_i, if_pos ⟨h1.symm, hj⟩]
            exact hsb2.2
          · have h2 := sorted_getD (tab_head (tab_tail ht)) (show k2 < j by omega) hj
            omega
        · have := hb.2 j hj
          omega

theorem tab_row2 : ∀ {T : List (List Int)} {j : Nat}, Tab T → j < T.length → (T.getD j []).Pairwise (· < ·)
  | [], j, _, h => absurd h (by simp)
  | r :: R, 0, h, _ => tab_head h
  | r :: R, j + 1, h, hj => tab_row2 (T := R) (j := j) (tab_tail h) (by simpa using hj)

theorem tab_bel2 : ∀ {T : List (List Int)} {j : Nat}, Tab T → j + 1 < T.length → Bel (T.getD j []) (T.getD (j + 1) [])
  | [], j, _, h => absurd h (by simp)
  | [r], j, _, h => absurd h (by simp)
  | r :: s :: R, 0, h, _ => tab_bel h
  | r :: s :: R, j + 1, h, hj => tab_bel2 (T := s :: R) (j := j) (tab_tail h) (by simpa using hj)

/-! ### Where a number is in the twin rows -/

def rowEnd : List (List Int) → Int → Nat
  | [], _ => 0
  | r :: R, x => if 0 < r.length ∧ last r = x then 0 else rowEnd R x + 1

def rowHas : List (List Int) → Int → Nat
  | [], _ => 0
  | r :: R, x => if x ∈ r then 0 else rowHas R x + 1

theorem rowEnd_is : ∀ (U : List (List Int)) (x : Int) (k : Nat), k < U.length → (∀ j, j < k → ¬ (0 < (U.getD j []).length ∧ last (U.getD j []) = x)) → (0 < (U.getD k []).length ∧ last (U.getD k []) = x) → rowEnd U x = k
  | [], _, _, h, _, _ => absurd h (by simp)
  | r :: R, x, 0, _, _, h => by
    have h' : 0 < r.length ∧ last r = x := h
    unfold rowEnd; rw [if_pos h']
  | r :: R, x, k + 1, hk, h1, h2 => by
    have h0 : ¬ (0 < r.length ∧ last r = x) := h1 0 (by omega)
    have ih := rowEnd_is R x k (by simpa using hk) (fun j hj => h1 (j + 1) (by omega)) h2
    unfold rowEnd; rw [if_neg h0, ih]

theorem rowHas_is : ∀ (U : List (List Int)) (x : Int) (k : Nat), k < U.length → (∀ j, j < k → x ∉ U.getD j []) → x ∈ U.getD k [] → rowHas U x = k
  | [], _, _, h, _, _ => absurd h (by simp)
  | r :: R, x, 0, _, _, h => by
    have h' : x ∈ r := h
    unfold rowHas; rw [if_pos h']
  | r :: R, x, k + 1, hk, h1, h2 => by
    have h0 : x ∉ r := h1 0 (by omega)
    have ih := rowHas_is R x k (by simpa using hk) (fun j hj => h1 (j + 1) (by omega)) h2
    unfold rowHas; rw [if_neg h0, ih]

theorem rowHas_spec : ∀ (U : List (List Int)) (x : Int), x ∈ U.flatten → rowHas U x < U.length ∧ x ∈ U.getD (rowHas U x) [] ∧ ∀ j, j < rowHas U x → x ∉ U.getD j []
  | [], x, h => by simp at h
  | r :: R, x, h => by
    unfold rowHas
    by_cases h1 : x ∈ r
    · rw [if_pos h1]
      exact ⟨by simp, h1, fun j hj => by omega⟩
    · rw [if_neg h1]
      have h2 : x ∈ R.flatten := by
        have : x ∈ r ++ R.flatten := h
        rw [List.mem_append] at this
        exact this.resolve_left h1
      obtain ⟨a, b, c⟩ := rowHas_spec R x h2
      refine ⟨by simpa using a, b, fun j hj => ?_⟩
      cases j with
      | zero => exact h1
      | succ j => exact c j (by omega)

theorem rowEnd_spec : ∀ (U : List (List Int)) (x : Int) (i : Nat), i < U.length → (0 < (U.getD i []).length ∧ last (U.getD i []) = x) →
    rowEnd U x < U.length ∧ (0 < (U.getD (rowEnd U x) []).length ∧ last (U.getD (rowEnd U x) []) = x) ∧ ∀ j, j < rowEnd U x → ¬ (0 < (U.getD j []).length ∧ last (U.getD j []) = x)
  | [], _, _, h, _ => absurd h (by simp)
  | r :: R, x, i, hi, h => by
    unfold rowEnd
    by_cases h1 : 0 < r.length ∧ last r = x
    · rw [if_pos h1]
      exact ⟨by simp, h1, fun j hj => by omega⟩
    · rw [if_neg h1]
      cases i with
      | zero => exact absurd h h1
      | succ i =>
        obtain ⟨a, b, c⟩ := rowEnd_spec R x i (by simpa using hi) h
        refine ⟨by simpa using a, b, fun j hj => ?_⟩
        cases j with
        | zero => exact h1
        | succ j => exact c j (by omega)

theorem cutL_perm : ∀ (U : List (List Int)) (k : Nat), k < U.length → 0 < (U.getD k []).length → (last (U.getD k []) :: (cutL U k).flatten).Perm U.flatten
  | [], _, h, _ => absurd h (by simp)
  | r :: R, 0, _, h => by
    show (last r :: (r.dropLast ++ R.flatten)).Perm (r ++ R.flatten)
    have h2 : (r ++ R.flatten) = r.dropLast ++ (last r :: R.flatten) := by
      have := congrArg (· ++ R.flatten) (perm_last h)
      simpa using this
    rw [h2]
    exact List.perm_middle.symm
  | r :: R, k + 1, hk, h => by
    have ih := cutL_perm R k (by simpa using hk) h
    show (last (R.getD k []) :: (r ++ (cutL R k).flatten)).Perm (r ++ R.flatten)
    exact List.perm_middle.symm.trans (ih.append_left r)

theorem cutL_tab : ∀ (U : List (List Int)) (k : Nat), Tab U → Corner U k → Tab (cutL U k)
  | [], _, _, h => absurd h.1 (by simp)
  | r :: R, 0, ht, hc => by
    show Tab (r.dropLast :: R)
    refine tab_cons ((tab_head ht).sublist (List.dropLast_sublist r)) ?_ (tab_tail ht)
    intro s S hS
    subst hS
    have hb := tab_bel ht
    have h1 : s.length < r.length := hc.2.2 (by simp)
    refine ⟨by rw [List.length_dropLast]; omega, fun j hj => ?_⟩
    rw [drop_last_get (by rw [List.length_dropLast]; omega)]
    exact hb.2 j hj
  | r :: R, k + 1, ht, hc => by
    have ih := cutL_tab R k (tab_tail ht) ⟨by have := hc.1; simpa using this, hc.2.1, fun h => hc.2.2 (by simpa using h)⟩
    show Tab (r :: cutL R k)
    refine tab_cons (tab_head ht) ?_ ih
    intro s S hS
    cases R with
    | nil => simp [cutL] at hS
    | cons s0 S0 =>
      have hb := tab_bel ht
      cases k with
      | zero =>
        have es : s = s0.dropLast := by
          have : s0.dropLast :: S0 = s :: S := hS
          cases this; rfl
        subst es
        refine ⟨by rw [List.length_dropLast]; have := hb.1; omega, fun j hj => ?_⟩
        rw [drop_last_get hj]
        rw [List.length_dropLast] at hj
        exact hb.2 j (by omega)
      | succ k =>
        have es : s = s0 := by
          have : s0 :: cutL S0 k = s :: S := hS
          cases this; rfl
        subst es
        exact hb

/-- The rows and the twin rows when m numbers have been taken out, the greatest of the twin rows first. -/
def st (T U : List (List Int)) (n : Nat) : Nat → List (List Int) × List (List Int)
  | 0 => (T, U)
  | m + 1 => ((outR (st T U n m).1 (rowEnd (st T U n m).2 ((n - m : Nat) : Int))).1, cutL (st T U n m).2 (rowEnd (st T U n m).2 ((n - m : Nat) : Int)))

structure Inv (T U : List (List Int)) (n m : Nat) : Prop where
  tab1 : Tab (st T U n m).1
  tab2 : Tab (st T U n m).2
  lens : lens (st T U n m).1 = lens (st T U n m).2
  nd1 : (st T U n m).1.flatten.Nodup
  nd2 : (st T U n m).2.flatten.Nodup
  mem2 : ∀ y, y ∈ (st T U n m).2.flatten ↔ 1 ≤ y ∧ y ≤ ((n - m : Nat) : Int)
  keep : ∀ i (y : Int), y ≤ ((n - m : Nat) : Int) → (y ∈ (st T U n m).2.getD i [] ↔ y ∈ U.getD i [])
  len2 : (st T U n m).2.length = U.length

theorem lens_at {T U : List (List Int)} (h : lens T = lens U) (i : Nat) : (T.getD i []).length = (U.getD i []).length := by
  have h1 : ∀ V : List (List Int), (lens V).getD i 0 = (V.getD i []).length := by
    intro V
    unfold lens
    by_cases hi : i < V.length
    · simp [hi]
    · simp [show V.length ≤ i by omega]
  rw [← h1, ← h1, h]

theorem lens_len {T U : List (List Int)} (h : lens T = lens U) : T.length = U.length := by
  have := congrArg List.length h
  simpa [lens] using this

/-- The greatest number that is left stands at a row's end, and may be taken away. -/
theorem inv_at {T U : List (List Int)} {n m : Nat} (h : Inv T U n m) (hm : m < n) :
    Corner (st T U n m).2 (rowEnd (st T U n m).2 ((n - m : Nat) : Int)) ∧ last ((st T U n m).2.getD (rowEnd (st T U n m).2 ((n - m : Nat) : Int)) []) = ((n - m : Nat) : Int) ∧
      rowHas U ((n - m : Nat) : Int) = rowEnd (st T U n m).2 ((n - m : Nat) : Int) := by
  obtain ⟨x, hx⟩ : ∃ x : Int, ((n - m : Nat) : Int) = x := ⟨_, rfl⟩
  have hmem := (h.mem2 x).2 ⟨by omega, by omega⟩
  have hle : ∀ i, ∀ y ∈ (st T U n m).2.getD i [], y ≤ x := by
    intro i y hy
    by_cases hi : i < (st T U n m).2.length
    · have := (h.mem2 y).1 ((mem_flat hi).mem hy)
      omega
    · simp [List.getD_eq_getElem?_getD, List.getElem?_eq_none (show (st T U n m).2.length ≤ i by omega)] at hy
  have hend : ∀ i, i < (st T U n m).2.length → x ∈ (st T U n m).2.getD i [] → (0 < ((st T U n m).2.getD i []).length ∧ last ((st T U n m).2.getD i []) = x) := by
    intro i hi hy
    have hpos : 0 < ((st T U n m).2.getD i []).length := List.length_pos_of_mem hy
    refine ⟨hpos, ?_⟩
    obtain ⟨q, hq, e⟩ := List.mem_iff_getElem.1 hy
    have h1 : ((st T U n m).2.getD i []).getD q 0 = x := by rw [List.getD_eq_getElem?_getD, List.getElem?_eq_getElem hq, Option.getD_some, e]
    have hs : ((st T U n m).2.getD i []).Pairwise (· < ·) := tab_row2 h.tab2 hi
    have h2 := hle i _ (last_mem hpos)
    unfold last at h2 ⊢
    by_cases h3 : q = ((st T U n m).2.getD i []).length - 1
    · rw [← h3]; exact h1
    · have := sorted_getD hs (show q < ((st T U n m).2.getD i []).length - 1 by omega) (by omega)
      omega
  have hsp := rowHas_spec (st T U n m).2 x hmem
  have hre := rowEnd_spec (st T U n m).2 x _ hsp.1 (hend _ hsp.1 hsp.2.1)
  rw [hx]
  have hxr : x ∈ (st T U n m).2.getD (rowEnd (st T U n m).2 x) [] := by
    have := last_mem hre.2.1.1
    rw [hre.2.1.2] at this
    exact this
  refine ⟨⟨hre.1, hre.2.1.1, fun h2 => ?_⟩, hre.2.1.2, ?_⟩
  · have hb := tab_bel2 h.tab2 h2
    by_cases h3 : ((st T U n m).2.getD (rowEnd (st T U n m).2 x + 1) []).length < ((st T U n m).2.getD (rowEnd (st T U n m).2 x) []).length
    · exact h3
    · exfalso
      have h4 := hb.2 (((st T U n m).2.getD (rowEnd (st T U n m).2 x) []).length - 1) (by have := hb.1; have := hre.2.1.1; omega)
      have h5 : ((st T U n m).2.getD (rowEnd (st T U n m).2 x) []).getD (((st T U n m).2.getD (rowEnd (st T U n m).2 x) []).length - 1) 0 = x := hre.2.1.2
      rw [h5] at h4
      have h6 := hle (rowEnd (st T U n m).2 x + 1) _ (getD_mem (j := ((st T U n m).2.getD (rowEnd (st T U n m).2 x) []).length - 1) (by have := hre.2.1.1; omega))
      omega
  · refine rowHas_is U x _ (by rw [← h.len2]; exact hre.1) (fun j hj hh => ?_) ((h.keep _ x (by omega)).1 hxr)
    have h7 := (h.keep j x (by omega)).2 hh
    exact hre.2.2 j hj (hend j (by omega) h7)

theorem inv_next {T U : List (List Int)} {n m : Nat} (h : Inv T U n m) (hm : m < n) : Inv T U n (m + 1) := by
  obtain ⟨hc, hl, _⟩ := inv_at h hm
  obtain ⟨k, hk⟩ : ∃ k, rowEnd (st T U n m).2 ((n - m : Nat) : Int) = k := ⟨_, rfl⟩
  rw [hk] at hc hl
  have hc1 : Corner (st T U n m).1 k := by
    have e1 := lens_at h.lens
    have e2 := lens_len h.lens
    refine ⟨by rw [e2]; exact hc.1, by rw [e1]; exact hc.2.1, fun h => ?_⟩
    rw [e1, e1]
    exact hc.2.2 (by omega)
  have s1 : (st T U n (m + 1)).1 = (outR (st T U n m).1 k).1 := by show (outR (st T U n m).1 (rowEnd (st T U n m).2 ((n - m : Nat) : Int))).1 = _; rw [hk]
  have s2 : (st T U n (m + 1)).2 = cutL (st T U n m).2 k := by show cutL (st T U n m).2 (rowEnd (st T U n m).2 ((n - m : Nat) : Int)) = _; rw [hk]
  have hp1 := outR_perm (st T U n m).1 k h.tab1 h.nd1 hc1.1 hc1.2.1
  have hp2 := cutL_perm (st T U n m).2 k hc.1 hc.2.1
  rw [hl] at hp2
  have hn2 := hp2.nodup_iff.2 h.nd2
  rw [List.nodup_cons] at hn2
  have hmem : ∀ y, y ∈ (cutL (st T U n m).2 k).flatten ↔ 1 ≤ y ∧ y ≤ ((n - (m + 1) : Nat) : Int) := by
    intro y
    have h1 := hp2.mem_iff (a := y)
    rw [h.mem2, List.mem_cons] at h1
    constructor
    · intro hy
      have h2 := h1.1 (.inr hy)
      have h3 : y ≠ ((n - m : Nat) : Int) := fun e => hn2.1 (e ▸ hy)
      omega
    · intro hy
      have h2 := h1.2 (by omega)
      rcases h2 with h2 | h2
      · omega
      · exact h2
  refine ⟨by rw [s1]; exact outR_tab _ _ h.tab1 h.nd1 hc1, by rw [s2]; exact cutL_tab _ _ h.tab2 hc, by rw [s1, s2]; exact outR_lens _ _ _ h.lens, by rw [s1]; exact (List.nodup_cons.1 (hp1.nodup_iff.2 h.nd1)).2, by rw [s2]; exact hn2.2, by rw [s2]; exact hmem, ?_, by rw [s2]; unfold cutL; rw [List.length_set]; exact h.len2⟩
  intro i y hy
  rw [s2, ← h.keep i y (by omega)]
  unfold cutL
  by_cases e : k = i
  · subst e
    rw [getD_set_e hc.1]
    have h1 := perm_last hc.2.1
    constructor
    · intro h2
      exact (List.dropLast_sublist _).mem h2
    · intro h2
      rw [h1, List.mem_append, List.mem_singleton, hl] at h2
      rcases h2 with h2 | h2
      · exact h2
      · omega
  · rw [getD_set_n e]

theorem inv_all {T U : List (List Int)} {n : Nat} (h : Inv T U n 0) : ∀ m, m ≤ n → Inv T U n m
  | 0, _ => h
  | m + 1, hm => inv_next (inv_all h m (by omega)) (by omega)

theorem are_tab : ∀ {L : List (List Int)}, (∀ i, i < L.length → RowOk L i) → Tab L
  | [], _ => trivial
  | [r], h => (h 0 (by simp)).2.2
  | r :: s :: R, h => by
    have h1 := h 1 (by simp)
    have h0 := h 0 (by simp)
    refine ⟨h0.2.2, h1.2.1 (by omega), are_tab (L := s :: R) (fun i hi => ?_)⟩
    have h2 := h (i + 1) (by simpa using hi)
    refine ⟨h2.1, fun h3 => ?_, h2.2.2⟩
    have h4 := h2.2.1 (by omega)
    cases i with
    | zero => omega
    | succ i => exact h4

/-- What comes out at the m-th. -/
def outV (T U : List (List Int)) (n m : Nat) : Int := (outR (st T U n m).1 (rowEnd (st T U n m).2 ((n - m : Nat) : Int))).2

/-- The order: what comes out, the last one first. -/
def backO (T U : List (List Int)) (n : Nat) : List Int := (List.range n).map fun i => outV T U n (n - 1 - i)

def ofAns (T U : List (List Int)) : List Int × Bool := if areB T = true ∧ areB U = true ∧ lens T = lens U then (backO T U T.flatten.length, true) else ([], false)

theorem flat_tot : ∀ (L : List (List Int)), L.flatten.length = tot L
  | [] => rfl
  | l :: L => by
    show (l ++ L.flatten).length = l.length + tot L
    rw [List.length_append, flat_tot L]

theorem lens_flat : ∀ {T U : List (List Int)}, lens T = lens U → T.flatten.length = U.flatten.length
  | [], [], _ => rfl
  | [], _ :: _, h => by simp [lens] at h
  | _ :: _, [], h => by simp [lens] at h
  | r :: R, u :: U, h => by
    have h1 : r.length = u.length ∧ lens R = lens U := by simpa [lens] using h
    have ih := lens_flat h1.2
    show (r ++ R.flatten).length = (u ++ U.flatten).length
    rw [List.length_append, List.length_append]; omega

theorem inv_start {T U : List (List Int)} (hT : areB T = true) (hU : areB U = true) (hl : lens T = lens U) : Inv T U T.flatten.length 0 := by
  unfold areB at hT hU
  rw [decide_eq_true_iff] at hT hU
  refine ⟨are_tab hT.1, are_tab hU.1, hl, hT.2.2.2.2, hU.2.2.2.2, fun y => ?_, fun _ _ _ => Iff.rfl, rfl⟩
  show y ∈ U.flatten ↔ 1 ≤ y ∧ y ≤ ((T.flatten.length - 0 : Nat) : Int)
  rw [lens_flat hl]
  have hp := ord_perm hU.2
  rw [hp.mem_iff]
  unfold iota
  simp
  constructor
  · rintro ⟨a, ha, rfl⟩; omega
  · rintro ⟨h1, h2⟩; exact ⟨(y - 1).toNat, by omega, by omega⟩

theorem of_alen {T U : List (List Int)} {xs : List Int} {b : Bool} (h : ofAns T U = (xs, b)) : xs.length ≤ 1048576 := by
  unfold ofAns at h
  split at h
  · rename_i hh
    cases h
    have h1 := hh.1
    unfold areB at h1
    rw [decide_eq_true_iff] at h1
    have := h1.2.2.1
    simp [backO]
    have h2 : T.flatten.length ≤ 7 := this
    rw [List.length_flatten] at h2
    omega
  · cases h; decide

end Go.Proofs.Ytecbfoodkcgehab.OutM
