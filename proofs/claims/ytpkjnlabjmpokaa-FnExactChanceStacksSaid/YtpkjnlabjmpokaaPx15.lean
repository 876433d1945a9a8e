/-
  The mathematics of stacks side by side: places in conflict, sharings that fit, one after another, and how few stacks are enough. Conditions: none. Plain facts on lists: nothing of the program.
-/
import Derived.Test.YtpkjnlabjmpokaaPx2

namespace Go.Proofs.Ytpkjnlabjmpokaa.BesM
open OrdMath

/-- Two places of an order, the less one first, are in conflict. -/
def conf (zs : List Int) (i j : Nat) : Bool := !decide (zs.getD j 0 < zs.getD i 0) && (zs.drop (j + 1)).any (fun z => decide (z < zs.getD i 0))

/-- The pairs with i whose second place is below j. -/
def rowC (zs : List Int) (i : Nat) : Nat → List (Nat × Nat)
  | 0 => []
  | j + 1 => if i < j ∧ conf zs i j = true then rowC zs i j ++ [(i, j)] else rowC zs i j

def allC (zs : List Int) : Nat → List (Nat × Nat)
  | 0 => []
  | i + 1 => allC zs i ++ rowC zs i zs.length

def confs (zs : List Int) : List (Nat × Nat) := allC zs zs.length

theorem rowC_len (zs : List Int) (i : Nat) : ∀ j, (rowC zs i j).length ≤ j
  | 0 => by simp [rowC]
  | j + 1 => by
    have := rowC_len zs i j
    unfold rowC
    split
    · simp; omega
    · omega

theorem allC_len (zs : List Int) : ∀ i, (allC zs i).length ≤ i * zs.length
  | 0 => by simp [allC]
  | i + 1 => by
    have h1 := allC_len zs i
    have h2 := rowC_len zs i zs.length
    unfold allC
    rw [List.length_append, Nat.succ_mul]
    omega

theorem confs_len {zs : List Int} (h : zs.length ≤ 7) : (confs zs).length ≤ 49 := by
  have h1 := allC_len zs zs.length
  have h2 : zs.length * zs.length ≤ 7 * 7 := Nat.mul_le_mul h h
  unfold confs
  omega

theorem mem_rowC {zs : List Int} {i : Nat} {p : Nat × Nat} : ∀ {j : Nat}, p ∈ rowC zs i j ↔ p.1 = i ∧ i < p.2 ∧ p.2 < j ∧ conf zs i p.2 = true
  | 0 => by simp [rowC]
  | j + 1 => by
    unfold rowC
    split
    · rename_i h
      rw [List.mem_append, mem_rowC (j := j), List.mem_singleton]
      constructor
      · rintro (⟨a, b, c, d⟩ | rfl)
        · exact ⟨a, b, by omega, d⟩
        · exact ⟨rfl, h.1, Nat.lt_succ_self _, h.2⟩
      · rintro ⟨a, b, c, d⟩
        by_cases he : p.2 = j
        · right; obtain ⟨p1, p2⟩ := p; simp only at a he; rw [a, he]
        · left; exact ⟨a, b, by omega, d⟩
    · rename_i h
      rw [mem_rowC (j := j)]
      constructor
      · rintro ⟨a, b, c, d⟩; exact ⟨a, b, by omega, d⟩
      · rintro ⟨a, b, c, d⟩
        refine ⟨a, b, ?_, d⟩
        by_cases he : p.2 = j
        · exact absurd ⟨by omega, by rw [← he]; exact d⟩ h
        · omega

theorem mem_allC {zs : List Int} {p : Nat × Nat} : ∀ {i : Nat}, p ∈ allC zs i ↔ p.1 < i ∧ p.1 < p.2 ∧ p.2 < zs.length ∧ conf zs p.1 p.2 = true
  | 0 => by simp [allC]
  | i + 1 => by
    unfold allC
    rw [List.mem_append, mem_allC (i := i), mem_rowC]
    constructor
    · rintro (⟨a, b, c, d⟩ | ⟨a, b, c, d⟩)
      · exact ⟨by omega, b, c, d⟩
      · exact ⟨by omega, by omega, c, by rw [a]; exact d⟩
    · rintro ⟨a, b, c, d⟩
      by_cases he : p.1 = i
      · right; exact ⟨he, by omega, c, by rw [← he]; exact d⟩
      · left; exact ⟨by omega, b, c, d⟩

theorem mem_confs {zs : List Int} {i j : Nat} : (i, j) ∈ confs zs ↔ i < j ∧ j < zs.length ∧ conf zs i j = true := by
  unfold confs
  rw [mem_allC]
  constructor
  · rintro ⟨_, b, c, d⟩; exact ⟨b, c, d⟩
  · rintro ⟨b, c, d⟩; exact ⟨by simp only at *; omega, b, c, d⟩

/-- The stacks with numbers in conflict with the next place. -/
def inUse (C : List (Nat × Nat)) (so : List Int) : List Int := (C.filter (fun p => p.2 == so.length)).map (fun p => so.getD p.1 0)

/-- The next place may take a stack. -/
def okN (zs so : List Int) (x : Int) : Bool := !(inUse (confs zs) so).contains x

theorem okN_iff {zs so : List Int} {x : Int} (hl : so.length < zs.length) : okN zs so x = true ↔ ∀ i, i < so.length → so.getD i 0 = x → conf zs i so.length = false := by
  unfold okN inUse
  rw [Bool.not_eq_true', ← Bool.not_eq_true, List.contains_iff_mem, List.mem_map]
  constructor
  · intro h i hi hx
    by_cases hc : conf zs i so.length = true
    · exact absurd ⟨(i, so.length), List.mem_filter.2 ⟨mem_confs.2 ⟨hi, hl, hc⟩, by simp⟩, hx⟩ h
    · simpa using hc
  · rintro h ⟨⟨i, j⟩, hm, hx⟩
    rw [List.mem_filter] at hm
    have hj : j = so.length := by simpa using hm.2
    subst hj
    have h1 := mem_confs.1 hm.1
    have h2 := h i h1.1 hx
    rw [h2] at h1
    exact absurd h1.2.2 (by simp)

/-- No two places of one stack are in conflict. -/
def Fits (zs so : List Int) : Prop := ∀ j, j < so.length → ∀ i, i < j → so.getD i 0 = so.getD j 0 → conf zs i j = false

def fitsB (zs so : List Int) : Bool := decide (∀ j, j < so.length → ∀ i, i < j → so.getD i 0 = so.getD j 0 → conf zs i j = false)

theorem fitsB_iff {zs so : List Int} : fitsB zs so = true ↔ Fits zs so := by unfold fitsB Fits; exact decide_eq_true_iff

theorem getD_snoc_lt {l : List Int} {x : Int} {i : Nat} (h : i < l.length) : (l ++ [x]).getD i 0 = l.getD i 0 := by
  rw [List.getD_eq_getElem?_getD, List.getD_eq_getElem?_getD, List.getElem?_append_left h]

theorem getD_snoc_eq {l : List Int} {x : Int} : (l ++ [x]).getD l.length 0 = x := by simp

theorem fits_snoc {zs so : List Int} {x : Int} (hl : so.length < zs.length) : Fits zs (so ++ [x]) ↔ Fits zs so ∧ okN zs so x = true := by
  rw [okN_iff hl]
  unfold Fits
  constructor
  · intro h
    constructor
    · intro j hj i hi he
      exact h j (by simp; omega) i hi (by rw [getD_snoc_lt hj, getD_snoc_lt (by omega)]; exact he)
    · intro i hi he
      exact h so.length (by simp) i hi (by rw [getD_snoc_eq, getD_snoc_lt hi]; exact he)
  · rintro ⟨h1, h2⟩ j hj i hi he
    rw [List.length_append, List.length_singleton] at hj
    by_cases hjl : j < so.length
    · exact h1 j hjl i hi (by rw [getD_snoc_lt hjl, getD_snoc_lt (by omega)] at he; exact he)
    · have e : j = so.length := by omega
      subst e
      rw [getD_snoc_eq, getD_snoc_lt hi] at he
      exact h2 i hi he

theorem fits_nil (zs : List Int) : Fits zs [] := by intro j hj; simp at hj

theorem fits_take {zs so : List Int} (h : Fits zs so) (k : Nat) : Fits zs (so.take k) := by
  intro j hj i hi he
  rw [List.length_take] at hj
  refine h j (by omega) i hi ?_
  simpa [show j < k by omega, show i < k by omega] using he

/-- All that goes on from some places, with the first k stacks, in d places more. -/
def ext (zs : List Int) (k : Nat) : Nat → List Int → List (List Int)
  | 0, so => [so]
  | d + 1, so => (List.range k).flatMap fun (x : Nat) => if okN zs so (x : Int) then ext zs k d (so ++ [(x : Int)]) else []

theorem mem_ext {zs : List Int} {k : Nat} : ∀ (d : Nat) (so s : List Int), so.length + d ≤ zs.length → Fits zs so → (s ∈ ext zs k d so ↔ ∃ t : List Int, s = so ++ t ∧ t.length = d ∧ (∀ x ∈ t, 0 ≤ x ∧ x < (k : Int)) ∧ Fits zs s)
  | 0, so, s, _, hf => by
    unfold ext
    rw [List.mem_singleton]
    constructor
    · rintro rfl; exact ⟨[], by simp, rfl, by simp, hf⟩
    · rintro ⟨t, h1, h2, _, _⟩
      have : t = [] := List.length_eq_zero_iff.1 h2
      rw [h1, this, List.append_nil]
  | d + 1, so, s, hl, hf => by
    unfold ext
    rw [List.mem_flatMap]
    constructor
    · rintro ⟨x, hx, hm⟩
      rw [List.mem_range] at hx
      split at hm
      · rename_i hok
        have hf2 : Fits zs (so ++ [(x : Int)]) := (fits_snoc (by omega)).2 ⟨hf, hok⟩
        obtain ⟨t, h1, h2, h3, h4⟩ := (mem_ext d (so ++ [(x : Int)]) s (by simp; omega) hf2).1 hm
        refine ⟨(x : Int) :: t, by rw [h1, List.append_assoc]; rfl, by simp [h2], ?_, h4⟩
        intro y hy
        rcases List.mem_cons.1 hy with rfl | hy
        · omega
        · exact h3 y hy
      · simp at hm
    · rintro ⟨t, h1, h2, h3, h4⟩
      cases t with
      | nil => simp at h2
      | cons y t =>
        have hy := h3 y (by simp)
        obtain ⟨x, rfl⟩ : ∃ x : Nat, y = (x : Int) := ⟨y.toNat, by omega⟩
        have e : s = (so ++ [(x : Int)]) ++ t := by rw [h1, List.append_assoc]; rfl
        have hf2 : Fits zs (so ++ [(x : Int)]) := by
          have := fits_take h4 (so.length + 1)
          rw [e, List.take_left' (by simp)] at this
          exact this
        refine ⟨x, List.mem_range.2 (by omega), ?_⟩
        rw [if_pos ((fits_snoc (by omega)).1 hf2).2]
        exact (mem_ext d _ s (by simp; omega) hf2).2 ⟨t, e, by simpa using h2, fun z hz => h3 z (by simp [hz]), h4⟩

theorem ext_len {zs : List Int} {k : Nat} : ∀ (d : Nat) (so : List Int), (ext zs k d so).length ≤ k ^ d
  | 0, so => by simp [ext]
  | d + 1, so => by
    unfold ext
    rw [List.length_flatMap]
    have key : ∀ (l : List Nat), (l.map fun (x : Nat) => (if okN zs so (x : Int) then ext zs k d (so ++ [(x : Int)]) else []).length).sum ≤ l.length * k ^ d := by
      intro l
      induction l with
      | nil => simp
      | cons a l ih =>
        rw [List.map_cons, List.sum_cons, List.length_cons, Nat.succ_mul]
        have : (if okN zs so (a : Int) then ext zs k d (so ++ [(a : Int)]) else []).length ≤ k ^ d := by
          split
          · exact ext_len d _
          · simp
        omega
    have := key (List.range k)
    rw [List.length_range] at this
    rw [Nat.pow_succ, Nat.mul_comm]
    exact this

theorem ext_all_len {zs : List Int} {k d : Nat} {so s : List Int} (h : s ∈ ext zs k d so) : s.length = so.length + d := by
  induction d generalizing so with
  | zero => unfold ext at h; rw [List.mem_singleton] at h; simp [h]
  | succ d ih =>
    unfold ext at h
    rw [List.mem_flatMap] at h
    obtain ⟨x, _, hm⟩ := h
    split at hm
    · have := ih hm; simp at this; omega
    · simp at hm

/-- Whether k stacks are enough, with new stacks taken in order. -/
def canG (zs : List Int) (k : Nat) : Nat → List Int → Nat → Bool
  | 0, _, _ => true
  | d + 1, so, u => (List.range (min (u + 1) k)).any fun (x : Nat) => okN zs so (x : Int) && canG zs k d (so ++ [(x : Int)]) (max u (x + 1))

theorem canG_ext {zs : List Int} {k : Nat} : ∀ (d : Nat) (so : List Int) (u : Nat), canG zs k d so u = true → ext zs k d so ≠ []
  | 0, so, u, _ => by simp [ext]
  | d + 1, so, u, h => by
    unfold canG at h
    rw [List.any_eq_true] at h
    obtain ⟨x, hx, hm⟩ := h
    rw [List.mem_range] at hx
    rw [Bool.and_eq_true] at hm
    have h2 := canG_ext d _ _ hm.2
    obtain ⟨s, hs⟩ := List.exists_mem_of_ne_nil _ h2
    intro e
    have : s ∈ ext zs k (d + 1) so := by
      unfold ext
      rw [List.mem_flatMap]
      exact ⟨x, List.mem_range.2 (by omega), by rw [if_pos hm.1]; exact hs⟩
    rw [e] at this
    simp at this

/-- Two stacks are exchanged. -/
def swp (a b : Int) (x : Int) : Int := if x = a then b else if x = b then a else x

theorem swp_inj {a b x y : Int} (h : swp a b x = swp a b y) : x = y := by
  unfold swp at h
  repeat' split at h
  all_goals omega

theorem fits_map {zs so : List Int} {f : Int → Int} (hf : ∀ x y, f x = f y → x = y) (h : Fits zs so) : Fits zs (so.map f) := by
  intro j hj i hi he
  rw [List.length_map] at hj
  have e1 : ∀ k, k < so.length → (so.map f).getD k 0 = f (so.getD k 0) := fun k hk => by simp [hk]
  rw [e1 i (by omega), e1 j hj] at he
  exact h j hj i hi (hf _ _ he)

theorem ext_canG {zs : List Int} {k : Nat} : ∀ (d : Nat) (so t : List Int) (u : Nat), t.length = d → so.length + d ≤ zs.length → u ≤ k → (∀ x ∈ so, 0 ≤ x ∧ x < (u : Int)) → (∀ x ∈ t, 0 ≤ x ∧ x < (k : Int)) → Fits zs (so ++ t) → canG zs k d so u = true
  | 0, _, _, _, _, _, _, _, _, _ => rfl
  | d + 1, so, [], _, h, _, _, _, _, _ => by simp at h
  | d + 1, so, y :: t, u, h, hl, hu, hso, ht, hF => by
    have hy := ht y (by simp)
    obtain ⟨x, rfl⟩ : ∃ x : Nat, y = (x : Int) := ⟨y.toNat, by omega⟩
    have go : ∀ (z : Nat) (t' : List Int), z ≤ u → z < k → t'.length = d → (∀ w ∈ t', 0 ≤ w ∧ w < (k : Int)) → Fits zs (so ++ (z : Int) :: t') → canG zs k (d + 1) so u = true := by
      intro z t' hz1 hz2 hl' ht' hF'
      have e : so ++ (z : Int) :: t' = (so ++ [(z : Int)]) ++ t' := by rw [List.append_assoc]; rfl
      have hf2 : Fits zs (so ++ [(z : Int)]) := by
        have := fits_take hF' (so.length + 1)
        rw [e, List.take_left' (by simp)] at this
        exact this
      unfold canG
      rw [List.any_eq_true]
      refine ⟨z, List.mem_range.2 (by omega), ?_⟩
      rw [Bool.and_eq_true]
      refine ⟨((fits_snoc (by omega)).1 hf2).2, ?_⟩
      refine ext_canG d _ t' _ hl' (by simp; omega) (by omega) ?_ ht' (by rw [← e]; exact hF')
      intro w hw
      rw [List.mem_append, List.mem_singleton] at hw
      rcases hw with hw | rfl
      · have := hso w hw; omega
      · omega
    by_cases hxu : x ≤ u
    · exact go x t hxu (by omega) (by simpa using h) (fun w hw => ht w (by simp [hw])) hF
    · have hid : so.map (swp (u : Int) (x : Int)) = so := by
        conv => rhs; rw [← List.map_id so]
        apply List.map_congr_left
        intro w hw
        have := hso w hw
        unfold swp
        rw [if_neg (by omega), if_neg (by omega)]
        rfl
      refine go u (t.map (swp (u : Int) (x : Int))) (Nat.le_refl _) (by omega) (by rw [List.length_map]; simpa using h) ?_ ?_
      · intro w hw
        rw [List.mem_map] at hw
        obtain ⟨v, hv, rfl⟩ := hw
        have := ht v (by simp [hv])
        unfold swp
        repeat' split
        all_goals omega
      · have h2 := fits_map (f := swp (u : Int) (x : Int)) (fun a b => swp_inj) hF
        rw [List.map_append, hid, List.map_cons] at h2
        have e : swp (u : Int) (x : Int) (x : Int) = (u : Int) := by unfold swp; rw [if_neg (by omega), if_pos rfl]
        rw [e] at h2
        exact h2

theorem canG_iff {zs : List Int} {k : Nat} : canG zs k zs.length [] 0 = true ↔ ext zs k zs.length [] ≠ [] := by
  constructor
  · exact canG_ext _ _ _
  · intro h
    obtain ⟨s, hs⟩ := List.exists_mem_of_ne_nil _ h
    obtain ⟨t, h1, h2, h3, h4⟩ := (mem_ext zs.length [] s (by simp) (fits_nil zs)).1 hs
    refine ext_canG zs.length [] t 0 h2 (by simp) (Nat.zero_le _) (by simp) h3 ?_
    rw [← h1]; exact h4

/-- k stacks are enough. -/
def enough (zs : List Int) (k : Nat) : Bool := !(ext zs k zs.length []).isEmpty

theorem enough_iff {zs : List Int} {k : Nat} : enough zs k = true ↔ ∃ s : List Int, s.length = zs.length ∧ (∀ x ∈ s, 0 ≤ x ∧ x < (k : Int)) ∧ Fits zs s := by
  unfold enough
  rw [Bool.not_eq_true', List.isEmpty_eq_false_iff]
  constructor
  · intro h
    obtain ⟨s, hs⟩ := List.exists_mem_of_ne_nil _ h
    obtain ⟨t, h1, h2, h3, h4⟩ := (mem_ext zs.length [] s (by simp) (fits_nil zs)).1 hs
    rw [List.nil_append] at h1
    subst h1
    exact ⟨s, h2, h3, h4⟩
  · rintro ⟨s, h1, h2, h3⟩ e
    have := (mem_ext (k := k) zs.length [] s (by simp) (fits_nil zs)).2 ⟨s, by simp, h1, h2, h3⟩
    rw [e] at this
    simp at this

theorem enough_can {zs : List Int} {k : Nat} : canG zs k zs.length [] 0 = enough zs k := by
  have := canG_iff (zs := zs) (k := k)
  unfold enough
  cases h : canG zs k zs.length [] 0 <;> cases h2 : ext zs k zs.length [] <;> simp_all

theorem enough_mono {zs : List Int} {k m : Nat} (hkm : k ≤ m) (h : enough zs k = true) : enough zs m = true := by
  rw [enough_iff] at h ⊢
  obtain ⟨s, h1, h2, h3⟩ := h
  exact ⟨s, h1, fun x hx => by have := h2 x hx; omega, h3⟩

theorem enough_len (zs : List Int) : enough zs zs.length = true := by
  rw [enough_iff]
  refine ⟨(List.range zs.length).map (fun (i : Nat) => (i : Int)), by simp, ?_, ?_⟩
  · intro x hx
    rw [List.mem_map] at hx
    obtain ⟨i, hi, rfl⟩ := hx
    rw [List.mem_range] at hi
    omega
  · intro j hj i hi he
    rw [List.length_map, List.length_range] at hj
    simp [hj, show i < zs.length by omega] at he
    omega

/-- The least k from one on that is enough. -/
def fewFrom (zs : List Int) : Nat → Nat → Nat
  | 0, k => k
  | f + 1, k => if enough zs k then k else fewFrom zs f (k + 1)

def fewest (zs : List Int) : Nat := fewFrom zs zs.length 1

theorem fewFrom_spec (zs : List Int) : ∀ (f k : Nat), zs.length ≤ f + k → k ≤ fewFrom zs f k ∧ enough zs (fewFrom zs f k) = true ∧ (∀ m, k ≤ m → m < fewFrom zs f k → enough zs m = false) ∧ (fewFrom zs f k ≤ max k zs.length)
  | 0, k, h => by
    unfold fewFrom
    exact ⟨Nat.le_refl _, enough_mono (by omega) (enough_len zs), fun m h1 h2 => by omega, by omega⟩
  | f + 1, k, h => by
    unfold fewFrom
    split
    · rename_i he
      exact ⟨Nat.le_refl _, he, fun m h1 h2 => by omega, by omega⟩
    · rename_i he
      obtain ⟨h1, h2, h3, h4⟩ := fewFrom_spec zs f (k + 1) (by omega)
      refine ⟨by omega, h2, ?_, ?_⟩
      · intro m hm1 hm2
        by_cases e : m = k
        · rw [e]; simpa using he
        · exact h3 m (by omega) hm2
      · by_cases hk : zs.length ≤ k
        · exact absurd (enough_mono hk (enough_len zs)) he
        · omega

theorem fewest_pos (zs : List Int) : 1 ≤ fewest zs := (fewFrom_spec zs zs.length 1 (by omega)).1
theorem fewest_enough (zs : List Int) : enough zs (fewest zs) = true := (fewFrom_spec zs zs.length 1 (by omega)).2.1
theorem fewest_least {zs : List Int} {m : Nat} (h1 : 1 ≤ m) (h2 : m < fewest zs) : enough zs m = false := (fewFrom_spec zs zs.length 1 (by omega)).2.2.1 m h1 h2
theorem fewest_le {zs : List Int} (h : 1 ≤ zs.length) : fewest zs ≤ zs.length := by have := (fewFrom_spec zs zs.length 1 (by omega)).2.2.2; unfold fewest; omega

theorem fewest_iff {zs : List Int} {k : Nat} (hk : 1 ≤ k) : enough zs k = decide (fewest zs ≤ k) := by
  by_cases h : fewest zs ≤ k
  · rw [decide_eq_true h]; exact enough_mono h (fewest_enough zs)
  · rw [decide_eq_false h]; exact fewest_least hk (by omega)

theorem fewest_is {zs : List Int} {k : Nat} (h1 : 1 ≤ k) (h2 : enough zs k = true) (h3 : ∀ m, 1 ≤ m → m < k → enough zs m = false) : k = fewest zs := by
  rcases Nat.lt_trichotomy k (fewest zs) with h | h | h
  · rw [fewest_least h1 h] at h2; exact absurd h2 (by simp)
  · exact h
  · have := h3 _ (fewest_pos zs) h; rw [fewest_enough] at this; exact absurd this (by simp)

/-! ### The answers -/
def fewestAns (zs : List Int) : Int × Bool := if Ord zs then ((fewest zs : Nat), true) else (0, false)
def firstAns (zs : List Int) : List Int × Bool := if Ord zs ∧ fewest zs ≤ 4 then ((ext zs (fewest zs) zs.length []).headD [], true) else ([], false)
def countSAns (zs : List Int) (k : Int) : Int × Bool := if Ord zs ∧ 1 ≤ k ∧ k ≤ 4 then (((ext zs k.toNat zs.length []).length : Nat), true) else (0, false)
def isShB (zs so : List Int) : Bool := decide (Ord zs ∧ so.length = zs.length ∧ ∀ s ∈ so, 0 ≤ s ∧ s ≤ 3)
def fitsAns (zs so : List Int) : Bool × Bool := if isShB zs so then (fitsB zs so, true) else (false, false)

/-- The first stack of four that the next place may take. -/
def firstOk (zs so : List Int) : Option Int := ([0, 1, 2, 3] : List Int).find? (okN zs so)

/-- The greedy sharing. -/
def greedy (zs : List Int) : Nat → List Int → Option (List Int)
  | 0, so => some so
  | d + 1, so => match firstOk zs so with | some x => greedy zs d (so ++ [x]) | none => none

def greedyAns (zs : List Int) : List Int × Bool := if Ord zs then (match greedy zs zs.length [] with | some s => (s, true) | none => ([], false)) else ([], false)

theorem greedy_len {zs : List Int} : ∀ {d : Nat} {so s : List Int}, greedy zs d so = some s → s.length = so.length + d
  | 0, so, s, h => by unfold greedy at h; cases h; rfl
  | d + 1, so, s, h => by
    unfold greedy at h
    split at h
    · have := greedy_len h; simp at this; omega
    · simp at h

theorem first_len {zs xs : List Int} {b : Bool} (h : firstAns zs = (xs, b)) : xs.length ≤ 1048576 := by
  unfold firstAns at h
  split at h
  · rename_i ho
    cases h
    have h7 := ho.1.2.1
    cases he : ext zs (fewest zs) zs.length [] with
    | nil => simp
    | cons a l =>
      have : a ∈ ext zs (fewest zs) zs.length [] := by rw [he]; simp
      have := ext_all_len this
      simp at this ⊢
      omega
  · cases h; simp

theorem greedyA_len {zs xs : List Int} {b : Bool} (h : greedyAns zs = (xs, b)) : xs.length ≤ 1048576 := by
  unfold greedyAns at h
  split at h
  · rename_i ho
    have h7 := ho.2.1
    cases he : greedy zs zs.length [] with
    | none => rw [he] at h; cases h; simp
    | some s => rw [he] at h; cases h; have := greedy_len he; simp at this; omega
  · cases h; simp

/-! ### The model's walk over sharings -/
/-- The first one, or the empty list, and how many. -/
def goR (L : List (List Int)) : List Int × Nat := (L.headD [], L.length)

def stepG (acc : List Int × Nat) (r : List Int × Nat) : List Int × Nat := (if acc.2 = 0 ∧ 0 < r.2 then r.1 else acc.1, acc.2 + r.2)

theorem goR_append (L M : List (List Int)) : goR (L ++ M) = stepG (goR L) (goR M) := by
  unfold goR stepG
  cases L with
  | nil => cases M <;> simp
  | cons a l => simp; omega

end Go.Proofs.Ytpkjnlabjmpokaa.BesM
