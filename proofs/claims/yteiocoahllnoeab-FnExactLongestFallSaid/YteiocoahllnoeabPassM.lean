/-
  The mathematics of merge passes: two runs made one, and how many passes sort an order. Conditions: none. Plain facts on lists.
-/
import Derived.Test.YteiocoahllnoeabQueM
namespace Go.Proofs.Yteiocoahllnoeab.PassM
open OrdMath LLC QueM

/-- Where a number goes in a sorted list. -/
def putAt : List Int → Int → Nat
  | [], _ => 0
  | y :: l, x => if y < x then putAt l x + 1 else 0

theorem putAt_le : ∀ (l : List Int) (x : Int), putAt l x ≤ l.length
  | [], _ => Nat.le_refl _
  | y :: l, x => by
    have := putAt_le l x
    unfold putAt; split <;> simp <;> omega

theorem putAt_is : ∀ (l : List Int) (x : Int) (k : Nat), k ≤ l.length → (∀ j, j < k → l.getD j 0 < x) → (k < l.length → ¬ l.getD k 0 < x) → putAt l x = k
  | [], _, k, h, _, _ => by
    have : k = 0 := by simpa using h
    subst this; rfl
  | y :: l, x, 0, _, _, h3 => by
    have h : ¬ y < x := h3 (by simp)
    unfold putAt; rw [if_neg h]
  | y :: l, x, k + 1, h1, h2, h3 => by
    have h : y < x := h2 0 (by omega)
    have ih := putAt_is l x k (by simpa using h1) (fun j hj => h2 (j + 1) (by omega)) (fun hk => h3 (by simpa using hk))
    unfold putAt; rw [if_pos h, ih]

theorem putAt_lt : ∀ (l : List Int) (x : Int) (j : Nat), j < putAt l x → l.getD j 0 < x
  | [], _, j, h => absurd h (by simp [putAt])
  | y :: l, x, j, h => by
    unfold putAt at h
    split at h
    · rename_i hy
      cases j with
      | zero => exact hy
      | succ j => exact putAt_lt l x j (by omega)
    · omega

theorem putAt_ge : ∀ (l : List Int) (x : Int), putAt l x < l.length → x ≤ l.getD (putAt l x) 0
  | [], _, h => absurd h (by simp)
  | y :: l, x, h => by
    unfold putAt at h ⊢
    split
    · rename_i hy
      rw [if_pos hy] at h
      exact putAt_ge l x (by simpa using h)
    · rename_i hy
      show x ≤ y
      omega

def putI (l : List Int) (x : Int) : List Int := l.take (putAt l x) ++ [x] ++ l.drop (putAt l x)

theorem putI_perm (l : List Int) (x : Int) : (putI l x).Perm (l ++ [x]) := by
  unfold putI
  have h := List.perm_middle (a := x) (l₁ := l.take (putAt l x)) (l₂ := l.drop (putAt l x))
  rw [List.append_assoc, List.singleton_append]
  refine h.trans ?_
  rw [List.take_append_drop]
  exact (List.perm_append_singleton x l).symm

theorem sorted_getD {l : List Int} (h : l.Pairwise (· < ·)) {i j : Nat} (hij : i < j) (hj : j < l.length) : l.getD i 0 < l.getD j 0 := by
  have := List.pairwise_iff_getElem.1 h i j (by omega) hj hij
  simpa [show i < l.length by omega, hj] using this

theorem putI_sorted {l : List Int} {x : Int} (h : l.Pairwise (· < ·)) (hx : x ∉ l) : (putI l x).Pairwise (· < ·) := by
  unfold putI
  rw [List.append_assoc, List.pairwise_append, List.singleton_append, List.pairwise_cons]
  have hge : ∀ y ∈ l.drop (putAt l x), x < y := by
    intro y hy
    obtain ⟨i, hi, rfl⟩ := List.mem_iff_getElem.1 hy
    rw [List.length_drop] at hi
    have h1 := putAt_ge l x (by omega)
    rw [List.getElem_drop]
    have h2 : l.getD (putAt l x) 0 ≤ l[putAt l x + i] := by
      have e : l[putAt l x + i] = l.getD (putAt l x + i) 0 := by simp [show putAt l x + i < l.length by omega]
      rw [e]
      by_cases h0 : i = 0
      · subst h0; exact Int.le_refl _
      · exact Int.le_of_lt (sorted_getD h (by omega) (by omega))
    have h3 : x ≠ l[putAt l x + i] := fun e => hx (e ▸ List.getElem_mem _)
    omega
  refine ⟨h.sublist (List.take_sublist _ _), ⟨hge, h.sublist (List.drop_sublist _ _)⟩, ?_⟩
  intro a ha b hb
  obtain ⟨i, hi, rfl⟩ := List.mem_iff_getElem.1 ha
  rw [List.length_take] at hi
  have h1 := putAt_lt l x i (by omega)
  rw [List.getElem_take]
  have e : l[i] = l.getD i 0 := by simp [show i < l.length by omega]
  rw [← e] at h1
  rcases List.mem_cons.1 hb with rfl | hb
  · exact h1
  · have := hge b hb; omega

/-- Two runs made one. -/
def mrg (a b : List Int) : List Int := b.foldl putI a

theorem mrg_snoc (a b : List Int) (x : Int) : mrg a (b ++ [x]) = putI (mrg a b) x := by unfold mrg; rw [List.foldl_append]; rfl

theorem mrg_next (a b : List Int) {k : Nat} (h : k < b.length) : mrg a (b.take (k + 1)) = putI (mrg a (b.take k)) (b.getD k 0) := by
  rw [List.take_succ_eq_append_getElem h, mrg_snoc]; simp [h]

theorem mrg_perm (a : List Int) : ∀ (b : List Int), (mrg a b).Perm (a ++ b) := by
  intro b
  induction b generalizing a with
  | nil => simp [mrg]
  | cons x b ih =>
    show (mrg (putI a x) b).Perm _
    refine (ih (putI a x)).trans ?_
    refine ((putI_perm a x).append_right b).trans ?_
    rw [List.append_assoc]; exact List.Perm.refl _

theorem mrg_sorted : ∀ (b a : List Int), a.Pairwise (· < ·) → (a ++ b).Nodup → (mrg a b).Pairwise (· < ·)
  | [], a, h, _ => h
  | x :: b, a, h, hn => by
    have hx : x ∉ a := by
      intro hx
      rw [List.nodup_append] at hn
      exact hn.2.2 x hx x (by simp) rfl
    have hp : (putI a x ++ b).Perm (a ++ x :: b) := by
      refine ((putI_perm a x).append_right b).trans ?_
      rw [List.append_assoc]; exact List.Perm.refl _
    exact mrg_sorted b (putI a x) (putI_sorted h hx) (hp.nodup_iff.2 hn)

theorem mrg_len (a b : List Int) : (mrg a b).length = a.length + b.length := by rw [(mrg_perm a b).length_eq, List.length_append]

theorem sorted_one {l m : List Int} (hp : l.Perm m) (h1 : l.Pairwise (· < ·)) (h2 : m.Pairwise (· ≤ ·)) : l = m := by
  refine List.Perm.eq_of_pairwise (le := (· ≤ ·)) ?_ (h1.imp (fun h => Int.le_of_lt h)) h2 hp
  intro a b _ _ h3 h4
  omega

/-- The j-th pair of runs. -/
def pairAt (R : List (List Int)) (j : Nat) : List Int := if 2 * j + 1 < R.length then mrg (R.getD (2 * j) []) (R.getD (2 * j + 1) []) else R.getD (2 * j) []

def pairsTo (R : List (List Int)) : Nat → List Int
  | 0 => []
  | j + 1 => pairsTo R j ++ pairAt R j

def pass (zs : List Int) : List Int := pairsTo (rTo zs zs.length) (((rTo zs zs.length).length + 1) / 2)
def passAns (zs : List Int) : List Int × Bool := if Ord zs then (pass zs, true) else ([], false)

/-! ### Runs ascend -/

theorem flat_put (L : List (List Int)) (k : Nat) (x : Int) (h : L.length ≤ k + 1) (hk : k ≤ L.length) : (putL L k x).flatten = L.flatten ++ [x] := by
  unfold putL
  by_cases h1 : k < L.length
  · rw [if_pos h1]
    have hk2 : k = L.length - 1 := by omega
    rcases List.eq_nil_or_concat L with rfl | ⟨M, q, rfl⟩
    · simp at h1
    · rw [List.concat_eq_append] at *
      rw [List.length_append, List.length_singleton] at hk2
      have e : k = M.length := by omega
      subst e
      rw [List.set_append_right _ _ (Nat.le_refl _), getD_app_r]
      simp
  · rw [if_neg h1]; simp

theorem rTo_flat (zs : List Int) : ∀ k, k ≤ zs.length → (rTo zs k).flatten = zs.take k
  | 0, _ => by simp [rTo]
  | k + 1, hk => by
    have ih := rTo_flat zs k (by omega)
    unfold rTo
    have hn := (rTo_ok zs k).2.2.2
    rw [flat_put _ _ _ (by unfold runAt; split <;> omega) (runAt_le _ _ _), ih, List.take_succ_eq_append_getElem (by omega)]
    simp [show k < zs.length by omega]

/-- Each run ascends, and the last one ends with the number before. -/
theorem rTo_asc (zs : List Int) : ∀ k, k ≤ zs.length → (∀ i, i < (rTo zs k).length → ((rTo zs k).getD i []).Pairwise (· ≤ ·)) ∧
    (1 ≤ k → ∀ y ∈ (rTo zs k).getD ((rTo zs k).length - 1) [], y ≤ zs.getD (k - 1) 0)
  | 0, _ => ⟨fun i h => absurd h (by simp [rTo]), fun h => by omega⟩
  | k + 1, hk => by
    obtain ⟨ih1, ih2⟩ := rTo_asc zs k (by omega)
    have hpos := (rTo_ok zs k).2.2.2
    have hat : ∀ i, i < (putL (rTo zs k) (runAt zs (rTo zs k) k) (zs.getD k 0)).length → (putL (rTo zs k) (runAt zs (rTo zs k) k) (zs.getD k 0)).getD i [] = _ := fun i hi => putL_at _ _ i (zs.getD k 0) (runAt_le _ _ _) hi
    have hrow : ∀ y ∈ (rTo zs k).getD (runAt zs (rTo zs k) k) [], y ≤ zs.getD k 0 := by
      intro y hy
      unfold runAt at hy
      split at hy
      · simp at hy
      · rename_i h
        have := ih2 (by omega) y hy
        omega
    show (∀ i, i < (putL (rTo zs k) (runAt zs (rTo zs k) k) (zs.getD k 0)).length → ((putL (rTo zs k) (runAt zs (rTo zs k) k) (zs.getD k 0)).getD i []).Pairwise (· ≤ ·)) ∧
      (1 ≤ k + 1 → ∀ y ∈ (putL (rTo zs k) (runAt zs (rTo zs k) k) (zs.getD k 0)).getD ((putL (rTo zs k) (runAt zs (rTo zs k) k) (zs.getD k 0)).length - 1) [], y ≤ zs.getD (k + 1 - 1) 0)
    constructor
    · intro i hi
      rw [hat i hi]
      split
      · rename_i e
        rw [List.pairwise_append]
        refine ⟨?_, by simp, ?_⟩
        · by_cases h : runAt zs (rTo zs k) k < (rTo zs k).length
          · exact ih1 _ h
          · have e2 : (rTo zs k).getD (runAt zs (rTo zs k) k) [] = [] := by simp [List.getD_eq_getElem?_getD, List.getElem?_eq_none (show (rTo zs k).length ≤ runAt zs (rTo zs k) k by omega)]
            rw [e2]; exact List.Pairwise.nil
        · intro a ha b hb
          simp at hb
          subst hb
          exact hrow a ha
      · rename_i e
        rw [putL_len] at hi
        have := runAt_le zs (rTo zs k) k
        exact ih1 i (by split at hi <;> omega)
    · intro _ y hy
      have hlen := putL_len (rTo zs k) (runAt zs (rTo zs k) k) (zs.getD k 0)
      have e : (putL (rTo zs k) (runAt zs (rTo zs k) k) (zs.getD k 0)).length - 1 = runAt zs (rTo zs k) k := by
        rw [hlen]
        unfold runAt
        split <;> split <;> omega
      rw [e, hat _ (by rw [hlen]; have := runAt_le zs (rTo zs k) k; split <;> omega), if_pos rfl, List.mem_append] at hy
      rcases hy with hy | hy
      · exact hrow y hy
      · simp at hy; subst hy; exact Int.le_refl _

theorem mem_flat {L : List (List Int)} {i : Nat} (h : i < L.length) : (L.getD i []).Sublist L.flatten := by
  have : L.getD i [] = L[i] := by simp [h]
  rw [this]
  exact List.sublist_flatten_of_mem (List.getElem_mem h)

theorem nodup_lt {l : List Int} (h1 : l.Pairwise (· ≤ ·)) (h2 : l.Nodup) : l.Pairwise (· < ·) := by
  have h3 := List.nodup_iff_pairwise_ne.1 h2
  exact (List.pairwise_and_iff.2 ⟨h1, h3⟩).imp (fun h => by omega)

theorem run_asc {zs : List Int} (h : Ord zs) {i : Nat} (hi : i < (rTo zs zs.length).length) : ((rTo zs zs.length).getD i []).Pairwise (· < ·) := by
  refine nodup_lt ((rTo_asc zs zs.length (Nat.le_refl _)).1 i hi) ?_
  have h1 := rTo_flat zs zs.length (Nat.le_refl _)
  rw [List.take_of_length_le (Nat.le_refl _)] at h1
  exact (mem_flat hi).nodup (by rw [h1]; exact h.2.2.2)

theorem two_sub : ∀ {L : List (List Int)} {i : Nat}, i + 1 < L.length → (L.getD i [] ++ L.getD (i + 1) []).Sublist L.flatten
  | [], i, h => absurd h (by simp)
  | a :: L, 0, h => by
    cases L with
    | nil => simp at h
    | cons b M =>
      show (a ++ b).Sublist (a ++ (b ++ M.flatten))
      rw [← List.append_assoc]
      exact List.sublist_append_left _ _
  | a :: L, i + 1, h => by
    have ih := two_sub (L := L) (i := i) (by simpa using h)
    exact ih.trans (List.sublist_append_right _ _)

theorem pair_nodup {zs : List Int} (h : Ord zs) {i : Nat} (hi : i + 1 < (rTo zs zs.length).length) : ((rTo zs zs.length).getD i [] ++ (rTo zs zs.length).getD (i + 1) []).Nodup := by
  have h1 := rTo_flat zs zs.length (Nat.le_refl _)
  rw [List.take_of_length_le (Nat.le_refl _)] at h1
  exact (two_sub hi).nodup (by rw [h1]; exact h.2.2.2)

theorem pair_asc {zs : List Int} (h : Ord zs) {j : Nat} (hj : 2 * j < (rTo zs zs.length).length) : (pairAt (rTo zs zs.length) j).Pairwise (· < ·) := by
  unfold pairAt
  split
  · rename_i h2
    exact mrg_sorted _ _ (run_asc h hj) (pair_nodup h h2)
  · exact run_asc h hj

/-- The runs two by two, as they lie. -/
def flatTo (R : List (List Int)) (j : Nat) : List Int := (R.take (2 * j)).flatten

theorem take_flat {L : List (List Int)} {i : Nat} (h : i < L.length) : (L.take (i + 1)).flatten = (L.take i).flatten ++ L.getD i [] := by
  rw [List.take_succ_eq_append_getElem h, List.flatten_append]
  simp [h]

theorem pairsTo_perm (R : List (List Int)) : ∀ j, (pairsTo R j).Perm (R.take (2 * j)).flatten
  | 0 => by simp [pairsTo]
  | j + 1 => by
    have ih := pairsTo_perm R j
    show (pairsTo R j ++ pairAt R j).Perm _
    unfold pairAt
    by_cases h : 2 * j + 1 < R.length
    · rw [if_pos h, show 2 * (j + 1) = 2 * j + 1 + 1 by omega, take_flat h, take_flat (by omega), List.append_assoc]
      exact ih.append (mrg_perm _ _)
    · rw [if_neg h]
      by_cases h2 : 2 * j < R.length
      · rw [List.take_of_length_le (show R.length ≤ 2 * (j + 1) by omega)]
        have e : R.flatten = (R.take (2 * j)).flatten ++ R.getD (2 * j) [] := by
          rw [← take_flat h2, List.take_of_length_le (by omega)]
        rw [e]
        exact ih.append_right _
      · rw [List.take_of_length_le (show R.length ≤ 2 * (j + 1) by omega)]
        rw [List.take_of_length_le (show R.length ≤ 2 * j by omega)] at ih
        have e : R.getD (2 * j) [] = [] := by simp [List.getD_eq_getElem?_getD, List.getElem?_eq_none (show R.length ≤ 2 * j by omega)]
        rw [e, List.append_nil]
        exact ih

theorem pass_perm (zs : List Int) : (pass zs).Perm zs := by
  have h1 := rTo_flat zs zs.length (Nat.le_refl _)
  rw [List.take_of_length_le (Nat.le_refl _)] at h1
  have h2 := pairsTo_perm (rTo zs zs.length) (((rTo zs zs.length).length + 1) / 2)
  rw [List.take_of_length_le (by omega), h1] at h2
  exact h2

theorem perm_ord {zs ys : List Int} (h : ys.Perm zs) (ho : Ord zs) : Ord ys := by
  have hl := h.length_eq
  refine ⟨by rw [hl]; exact ho.1, by rw [hl]; exact ho.2.1, ?_, h.nodup_iff.2 ho.2.2.2⟩
  intro z hz
  rw [hl]
  exact ho.2.2.1 z (h.mem_iff.1 hz)

theorem pass_ord {zs : List Int} (h : Ord zs) : Ord (pass zs) := perm_ord (pass_perm zs) h
theorem pass_len (zs : List Int) : (pass zs).length = zs.length := (pass_perm zs).length_eq

/-- How many runs the first k numbers have. -/
def runN (zs : List Int) : Nat → Nat
  | 0 => 0
  | k + 1 => runN zs k + (if k = 0 ∨ zs.getD k 0 < zs.getD (k - 1) 0 then 1 else 0)

theorem runN_is (zs : List Int) : ∀ k, (rTo zs k).length = runN zs k
  | 0 => rfl
  | k + 1 => by
    have ih := runN_is zs k
    have hp := (rTo_ok zs k).2.2.2
    unfold rTo runN
    rw [putL_len]
    unfold runAt
    by_cases h : k = 0 ∨ zs.getD k 0 < zs.getD (k - 1) 0
    · rw [if_pos h, if_pos h, if_neg (by omega)]; omega
    · rw [if_neg h, if_neg h, if_pos (by have := hp (by omega); omega)]; omega

theorem runN_step (zs : List Int) (k : Nat) : runN zs k ≤ runN zs (k + 1) ∧ runN zs (k + 1) ≤ runN zs k + 1 := by
  show runN zs k ≤ runN zs k + _ ∧ runN zs k + _ ≤ _
  split <;> omega

/-- A part that ascends has one run at most. -/
theorem runN_part (P q S : List Int) (h : q.Pairwise (· < ·)) : ∀ m, m ≤ q.length → runN (P ++ q ++ S) (P.length + m) ≤ runN (P ++ q ++ S) P.length + (if m = 0 then 0 else 1)
  | 0, _ => by simp
  | m + 1, hm => by
    have ih := runN_part P q S h m (by omega)
    have hs := runN_step (P ++ q ++ S) (P.length + m)
    rw [← Nat.add_assoc, if_neg (by omega)]
    by_cases h0 : m = 0
    · subst h0
      rw [if_pos rfl] at ih
      omega
    · rw [if_neg h0] at ih
      show runN (P ++ q ++ S) (P.length + m) + _ ≤ _
      have e1 : (P ++ q ++ S).getD (P.length + m) 0 = q.getD m 0 := by
        rw [List.append_assoc, List.getD_eq_getElem?_getD, List.getElem?_append_right (by omega), List.getElem?_append_left (by omega), List.getD_eq_getElem?_getD]
        congr 2
        omega
      have e2 : (P ++ q ++ S).getD (P.length + m - 1) 0 = q.getD (m - 1) 0 := by
        rw [List.append_assoc, List.getD_eq_getElem?_getD, List.getElem?_append_right (by omega), List.getElem?_append_left (by omega), List.getD_eq_getElem?_getD]
        congr 2
        omega
      rw [e1, e2, if_neg (by have := sorted_getD h (show m - 1 < m by omega) (by omega); omega)]
      exact ih

theorem pairsTo_pre (R : List (List Int)) : ∀ m j, ∃ S, pairsTo R (j + m) = pairsTo R j ++ S
  | 0, j => ⟨[], by simp⟩
  | m + 1, j => by
    obtain ⟨S, h⟩ := pairsTo_pre R m j
    exact ⟨S ++ pairAt R (j + m), by show pairsTo R (j + m) ++ pairAt R (j + m) = _; rw [h, List.append_assoc]⟩

theorem pass_runs {zs : List Int} (h : Ord zs) : ∀ j, j ≤ ((rTo zs zs.length).length + 1) / 2 → runN (pass zs) (pairsTo (rTo zs zs.length) j).length ≤ j
  | 0, _ => by simp [pairsTo, runN]
  | j + 1, hj => by
    have ih := pass_runs h j (by omega)
    obtain ⟨S, hS⟩ := pairsTo_pre (rTo zs zs.length) (((rTo zs zs.length).length + 1) / 2 - (j + 1)) (j + 1)
    rw [show j + 1 + (((rTo zs zs.length).length + 1) / 2 - (j + 1)) = ((rTo zs zs.length).length + 1) / 2 by omega] at hS
    have e : pass zs = pairsTo (rTo zs zs.length) j ++ pairAt (rTo zs zs.length) j ++ S := hS
    have h2 := runN_part (pairsTo (rTo zs zs.length) j) (pairAt (rTo zs zs.length) j) S (pair_asc h (by omega)) (pairAt (rTo zs zs.length) j).length (Nat.le_refl _)
    rw [← e] at h2
    show runN (pass zs) (pairsTo (rTo zs zs.length) j ++ pairAt (rTo zs zs.length) j).length ≤ _
    rw [List.length_append]
    split at h2 <;> omega

theorem pass_less {zs : List Int} (h : Ord zs) : (rTo (pass zs) (pass zs).length).length ≤ ((rTo zs zs.length).length + 1) / 2 := by
  rw [runN_is]
  exact pass_runs h _ (Nat.le_refl _)

/-- How many passes sort. -/
def passes : Nat → List Int → Nat
  | 0, _ => 0
  | f + 1, zs => if (rTo zs zs.length).length ≤ 1 then 0 else passes f (pass zs) + 1

theorem passes_more : ∀ (f g : Nat) (zs : List Int), Ord zs → (rTo zs zs.length).length ≤ f + 1 → (rTo zs zs.length).length ≤ g + 1 → passes f zs = passes g zs
  | 0, 0, _, _, _, _ => rfl
  | 0, g + 1, zs, _, h, _ => by unfold passes; rw [if_pos (by omega)]
  | f + 1, 0, zs, _, _, h => by unfold passes; rw [if_pos (by omega)]
  | f + 1, g + 1, zs, ho, h1, h2 => by
    unfold passes
    by_cases h : (rTo zs zs.length).length ≤ 1
    · rw [if_pos h, if_pos h]
    · rw [if_neg h, if_neg h]
      have h3 := pass_less ho
      rw [passes_more f g (pass zs) (pass_ord ho) (by omega) (by omega)]

def passesAns (zs : List Int) : Int × Bool := if Ord zs then ((passes 7 zs : Nat), true) else (0, false)

theorem pass_alen {zs : List Int} {xs : List Int} {b : Bool} (h : passAns zs = (xs, b)) : xs.length ≤ 1048576 := by
  unfold passAns at h
  split at h
  · rename_i ho
    cases h
    rw [pass_len]; have := ho.2.1; omega
  · cases h; decide

/-- An order has one run just if it ascends. -/
theorem runs_one {zs : List Int} (h : Ord zs) : (rTo zs zs.length).length ≤ 1 ↔ ∀ k, k + 1 < zs.length → ¬ zs.getD (k + 1) 0 < zs.getD k 0 := by
  rw [runN_is]
  have key : ∀ n, n ≤ zs.length → 1 ≤ n → (runN zs n ≤ 1 ↔ ∀ k, k + 1 < n → ¬ zs.getD (k + 1) 0 < zs.getD k 0) ∧ 1 ≤ runN zs n := by
    intro n
    induction n with
    | zero => intro _ h; omega
    | succ n ih =>
      intro hn _
      by_cases h0 : n = 0
      · subst h0
        refine ⟨⟨fun _ k hk => by omega, fun _ => by simp [runN]⟩, by simp [runN]⟩
      · obtain ⟨ih1, ih2⟩ := ih (by omega) (by omega)
        have e : runN zs (n + 1) = runN zs n + (if n = 0 ∨ zs.getD n 0 < zs.getD (n - 1) 0 then 1 else 0) := rfl
        rw [e]
        by_cases hc : zs.getD n 0 < zs.getD (n - 1) 0
        · rw [if_pos (.inr hc)]
          refine ⟨⟨fun h => by omega, fun h => ?_⟩, by omega⟩
          have := h (n - 1) (by omega)
          rw [show n - 1 + 1 = n by omega] at this
          exact absurd hc this
        · rw [if_neg (by omega)]
          refine ⟨⟨fun h k hk => ?_, fun h => ?_⟩, by omega⟩
          · by_cases hkn : k + 1 = n
            · rw [hkn, show k = n - 1 by omega]; exact hc
            · exact ih1.1 (by omega) k (by omega)
          · have := ih1.2 (fun k hk => h k (by omega))
            omega
  exact (key zs.length (Nat.le_refl _) h.1).1

end Go.Proofs.Yteiocoahllnoeab.PassM
