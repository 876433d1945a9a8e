/-
  The mathematics of cuts: what cuts are, what comes out of an order by cuts, its falls, fall sweeps and how many of them sort. Conditions: none. Plain facts on lists: nothing of the program.
-/
import Derived.Test.YtpkjnlabjmpokaaPq2

namespace Go.Proofs.Ytpkjnlabjmpokaa.CutsM
open OrdMath OrdFacts

/-- Cuts for so many numbers. -/
def CutsFor (n : Int) (cs : List Int) : Prop := 1 ≤ n ∧ n ≤ 7 ∧ (∀ c ∈ cs, 1 ≤ c) ∧ cs.sum = n

instance (n : Int) (cs : List Int) : Decidable (CutsFor n cs) := by unfold CutsFor; infer_instance

def cutsB (n : Int) (cs : List Int) : Bool := decide (CutsFor n cs)

theorem sum_ge : ∀ {cs : List Int}, (∀ c ∈ cs, 1 ≤ c) → (cs.length : Int) ≤ cs.sum
  | [], _ => by simp
  | c :: r, h => by
    have h1 := h c (by simp)
    have h2 := sum_ge (cs := r) (fun x hx => h x (by simp [hx]))
    simp only [List.length_cons, List.sum_cons]
    omega

theorem sum_one {c : Int} : ∀ {cs : List Int}, (∀ c ∈ cs, 1 ≤ c) → c ∈ cs → c ≤ cs.sum
  | [], _, h => by cases h
  | a :: r, h, hc => by
    have h1 := h a (by simp)
    have h2 := sum_ge (cs := r) (fun x hx => h x (by simp [hx]))
    rw [List.sum_cons]
    rcases List.mem_cons.1 hc with rfl | hc
    · omega
    · have := sum_one (fun x hx => h x (by simp [hx])) hc; omega

theorem CutsFor.len {n : Int} {cs : List Int} (h : CutsFor n cs) : 1 ≤ cs.length ∧ cs.length ≤ 7 := by
  have h1 := sum_ge h.2.2.1
  rw [h.2.2.2] at h1
  have := h.2.1
  refine ⟨?_, by omega⟩
  cases cs with
  | nil => have h2 := h.2.2.2; have h3 := h.1; simp at h2; omega
  | cons a r => simp

/-- The size that the program reckons. -/
def szF : Int → List Int → Int
  | s, [] => s
  | s, c :: r => if c < 1 ∨ 7 - s < c then 0 else szF (s + c) r

theorem szF_is : ∀ (cs : List Int) (s : Int), 0 ≤ s → s ≤ 7 → szF s cs = if (∀ c ∈ cs, 1 ≤ c) ∧ s + cs.sum ≤ 7 then s + cs.sum else 0
  | [], s, _, h7 => by
    have e : (∀ c ∈ ([] : List Int), 1 ≤ c) ∧ s + ([] : List Int).sum ≤ 7 := ⟨by simp, by simpa using h7⟩
    rw [if_pos e]; simp [szF]
  | c :: r, s, h0, h7 => by
    unfold szF
    by_cases h : c < 1 ∨ 7 - s < c
    · rw [if_pos h, if_neg]
      rintro ⟨h1, h2⟩
      have h3 := sum_one h1 (c := c) (by simp)
      have h4 := h1 c (by simp)
      omega
    · rw [if_neg h, szF_is r (s + c) (by omega) (by omega)]
      have e : ((∀ x ∈ c :: r, 1 ≤ x) ∧ s + (c :: r).sum ≤ 7) ↔ ((∀ x ∈ r, 1 ≤ x) ∧ s + c + r.sum ≤ 7) := by
        rw [List.sum_cons]
        constructor
        · rintro ⟨h1, h2⟩; exact ⟨fun x hx => h1 x (by simp [hx]), by omega⟩
        · rintro ⟨h1, h2⟩
          refine ⟨fun x hx => ?_, by omega⟩
          rcases List.mem_cons.1 hx with rfl | hx
          · omega
          · exact h1 x hx
      by_cases h2 : (∀ x ∈ r, 1 ≤ x) ∧ s + c + r.sum ≤ 7
      · rw [if_pos h2, if_pos (e.2 h2), List.sum_cons]; omega
      · rw [if_neg h2, if_neg (fun h3 => h2 (e.1 h3))]

theorem szF_bd {cs : List Int} : 0 ≤ szF 0 cs ∧ szF 0 cs ≤ 7 := by
  rw [szF_is cs 0 (by omega) (by omega)]
  split
  · rename_i h; have := sum_ge h.1; omega
  · omega

theorem szF_cuts (n : Int) (cs : List Int) : (decide (0 < n) && decide (szF 0 cs = n)) = cutsB n cs := by
  unfold cutsB CutsFor
  rw [szF_is cs 0 (by omega) (by omega), ← Bool.decide_and]
  apply decide_eq_decide.2
  rw [Int.zero_add]
  constructor
  · rintro ⟨h1, h2⟩
    split at h2
    · rename_i h; exact ⟨by omega, by omega, h.1, h2⟩
    · omega
  · rintro ⟨h1, h2, h3, h4⟩
    rw [if_pos ⟨h3, by omega⟩]
    exact ⟨by omega, h4⟩

/-- Whether a list is one of cuts for their sum. -/
def okC (cs : List Int) : Bool := cutsB cs.sum cs

theorem okC_iff {cs : List Int} : okC cs = true ↔ CutsFor cs.sum cs := by unfold okC cutsB; exact decide_eq_true_iff

theorem szF_ok (cs : List Int) : szF 0 cs = if okC cs then cs.sum else 0 := by
  rw [szF_is cs 0 (by omega) (by omega), Int.zero_add]
  by_cases h : okC cs = true
  · rw [if_pos h]
    rw [okC_iff] at h
    rw [if_pos ⟨h.2.2.1, h.2.1⟩]
  · rw [if_neg h]
    split
    · rename_i h2
      rw [okC_iff] at h
      have h3 := sum_ge h2.1
      by_cases h0 : 1 ≤ cs.sum
      · exact absurd ⟨h0, h2.2, h2.1, rfl⟩ h
      · omega
    · rfl

/-- The model's loop, with so many rounds left. -/
def lF (n : Int) : Nat → Int → List Int → Bool
  | 0, s, _ => decide (1 ≤ n ∧ n ≤ 7) && decide (s = n)
  | _ + 1, s, [] => decide (1 ≤ n ∧ n ≤ 7) && decide (s = n)
  | f + 1, s, c :: r => if 1 ≤ c ∧ c ≤ 7 then lF n f (s + c) r else false

theorem lF_is (n : Int) : ∀ (f : Nat) (s : Int) (cs : List Int), 0 ≤ s → 8 ≤ s + f → lF n f s cs = decide (1 ≤ n ∧ n ≤ 7 ∧ (∀ c ∈ cs, 1 ≤ c) ∧ s + cs.sum = n)
  | 0, s, cs, h0, h8 => by
    unfold lF
    rw [← Bool.decide_and]
    apply decide_eq_decide.2
    constructor
    · rintro ⟨⟨h1, h2⟩, h3⟩; omega
    · rintro ⟨h1, h2, h3, h4⟩; have := sum_ge h3; omega
  | f + 1, s, [], h0, h8 => by
    unfold lF
    rw [← Bool.decide_and]
    apply decide_eq_decide.2
    simp
    constructor
    · rintro ⟨⟨h1, h2⟩, h3⟩; exact ⟨h1, h2, h3⟩
    · rintro ⟨h1, h2, h3⟩; exact ⟨⟨h1, h2⟩, h3⟩
  | f + 1, s, c :: r, h0, h8 => by
    unfold lF
    by_cases h : 1 ≤ c ∧ c ≤ 7
    · rw [if_pos h, lF_is n f (s + c) r (by omega) (by omega)]
      apply decide_eq_decide.2
      rw [List.sum_cons]
      constructor
      · rintro ⟨h1, h2, h3, h4⟩
        refine ⟨h1, h2, fun x hx => ?_, by omega⟩
        rcases List.mem_cons.1 hx with rfl | hx
        · omega
        · exact h3 x hx
      · rintro ⟨h1, h2, h3, h4⟩; exact ⟨h1, h2, fun x hx => h3 x (by simp [hx]), by omega⟩
    · rw [if_neg h]
      symm
      rw [decide_eq_false_iff_not]
      rintro ⟨h1, h2, h3, h4⟩
      have h5 := h3 c (by simp)
      have h6 := sum_one h3 (c := c) (by simp)
      omega

theorem lF_cuts (n : Int) (cs : List Int) : lF n 8 0 cs = cutsB n cs := by
  rw [lF_is n 8 0 cs (by omega) (by omega), Int.zero_add]; rfl

/-- The sum that the model reckons ahead, if all are in range. -/
def sF : Nat → Int → List Int → Option Int
  | 0, s, _ => some s
  | _ + 1, s, [] => some s
  | f + 1, s, c :: r => if 1 ≤ c ∧ c ≤ 7 then sF f (s + c) r else none

theorem sF_yes : ∀ (f : Nat) (s : Int) (cs : List Int), (∀ c ∈ cs, 1 ≤ c) → 0 ≤ s → s + cs.sum ≤ 7 → cs.length ≤ f → sF f s cs = some (s + cs.sum)
  | 0, s, [], _, _, _, _ => by simp [sF]
  | _ + 1, s, [], _, _, _, _ => by simp [sF]
  | 0, s, c :: r, _, _, _, h => by simp at h
  | f + 1, s, c :: r, h1, h0, h2, h3 => by
    have h4 := h1 c (by simp)
    have h5 := sum_one h1 (c := c) (by simp)
    have h6 := sum_ge (cs := r) (fun x hx => h1 x (by simp [hx]))
    rw [List.sum_cons] at h2 h5
    unfold sF
    rw [if_pos ⟨h4, by omega⟩, sF_yes f (s + c) r (fun x hx => h1 x (by simp [hx])) (by omega) (by omega) (by simpa using h3), List.sum_cons]
    congr 1; omega

theorem sF_ok {cs : List Int} (h : okC cs = true) : sF 8 0 cs = some cs.sum := by
  rw [okC_iff] at h
  have h1 := h.len
  rw [sF_yes 8 0 cs h.2.2.1 (by omega) (by have := h.2.1; omega) (by omega), Int.zero_add]

theorem not_ok {cs : List Int} (h : okC cs = false) (n : Int) : cutsB n cs = false := by
  unfold cutsB
  rw [decide_eq_false_iff_not]
  intro h2
  have h3 : CutsFor cs.sum cs := by rw [h2.2.2.2]; exact h2
  rw [okC_iff.2 h3] at h
  cases h

/-! ### What comes out -/
def runL : List Int → List Int → List Int
  | _, [] => []
  | zs, c :: r => (zs.take c.toNat).reverse ++ runL (zs.drop c.toNat) r

theorem runL_snoc : ∀ (cs : List Int) (zs : List Int) (c : Int), (∀ x ∈ cs, 0 ≤ x) → runL zs (cs ++ [c]) = runL zs cs ++ ((zs.drop cs.sum.toNat).take c.toNat).reverse
  | [], zs, c, _ => by simp [runL]
  | a :: r, zs, c, h => by
    have ha := h a (by simp)
    have hr : 0 ≤ r.sum := by
      have : ∀ l : List Int, (∀ x ∈ l, 0 ≤ x) → 0 ≤ l.sum := by
        intro l
        induction l with
        | nil => intro _; simp
        | cons b t ih => intro hb; have h1 := hb b (by simp); have h2 := ih (fun x hx => hb x (by simp [hx])); rw [List.sum_cons]; omega
      exact this r (fun x hx => h x (by simp [hx]))
    show (zs.take a.toNat).reverse ++ runL (zs.drop a.toNat) (r ++ [c]) = _
    rw [runL_snoc r (zs.drop a.toNat) c (fun x hx => h x (by simp [hx])), List.drop_drop, List.sum_cons]
    have e : (a + r.sum).toNat = a.toNat + r.sum.toNat := by omega
    rw [e]
    simp [runL, List.append_assoc]

theorem take_sum_next {cs : List Int} {k : Nat} (hk : k < cs.length) : (cs.take (k + 1)).sum = (cs.take k).sum + cs.getD k 0 := by
  rw [List.take_succ_eq_append_getElem hk, List.sum_append]
  simp [hk]

theorem take_sum_le {cs : List Int} (h : ∀ c ∈ cs, 1 ≤ c) (k : Nat) : 0 ≤ (cs.take k).sum ∧ (cs.take k).sum ≤ cs.sum := by
  have h1 := sum_ge (cs := cs.take k) (fun c hc => h c (List.mem_of_mem_take hc))
  have h2 := sum_ge (cs := cs.drop k) (fun c hc => h c (List.mem_of_mem_drop hc))
  have h3 : cs.sum = (cs.take k).sum + (cs.drop k).sum := by rw [← List.sum_append, List.take_append_drop]
  omega

theorem runL_next {zs cs : List Int} {k : Nat} (h : ∀ c ∈ cs, 1 ≤ c) (hk : k < cs.length) : runL zs (cs.take (k + 1)) = runL zs (cs.take k) ++ ((zs.drop (cs.take k).sum.toNat).take (cs.getD k 0).toNat).reverse := by
  rw [List.take_succ_eq_append_getElem hk, runL_snoc _ _ _ (fun x hx => by have := h x (List.mem_of_mem_take hx); omega)]
  have e : cs.getD k 0 = cs[k] := by simp [hk]
  rw [e]

theorem runL_len : ∀ (cs zs : List Int), (∀ c ∈ cs, 1 ≤ c) → cs.sum ≤ zs.length → (runL zs cs).length = cs.sum.toNat
  | [], zs, _, _ => by simp [runL]
  | c :: r, zs, h, hs => by
    have h1 := h c (by simp)
    have h2 := sum_ge (cs := r) (fun x hx => h x (by simp [hx]))
    rw [List.sum_cons] at hs ⊢
    show ((zs.take c.toNat).reverse ++ runL (zs.drop c.toNat) r).length = _
    rw [List.length_append, List.length_reverse, List.length_take, runL_len r _ (fun x hx => h x (by simp [hx])) (by rw [List.length_drop]; omega)]
    omega

theorem runL_perm : ∀ (cs zs : List Int), (∀ c ∈ cs, 1 ≤ c) → cs.sum = zs.length → (runL zs cs).Perm zs
  | [], zs, _, hs => by
    have : zs = [] := List.eq_nil_of_length_eq_zero (by simp at hs; omega)
    subst this; exact List.Perm.refl _
  | c :: r, zs, h, hs => by
    have h1 := h c (by simp)
    have h2 := sum_ge (cs := r) (fun x hx => h x (by simp [hx]))
    rw [List.sum_cons] at hs
    show ((zs.take c.toNat).reverse ++ runL (zs.drop c.toNat) r).Perm zs
    have h3 := runL_perm r (zs.drop c.toNat) (fun x hx => h x (by simp [hx])) (by rw [List.length_drop]; omega)
    have h4 := (List.reverse_perm (zs.take c.toNat)).append h3
    rwa [List.take_append_drop] at h4

theorem ord_runL {zs cs : List Int} (h : Ord zs) (hc : CutsFor zs.length cs) : Ord (runL zs cs) :=
  ord_of_perm ((runL_perm cs zs hc.2.2.1 hc.2.2.2).trans (ord_perm h)) h.1 h.2.1

/-! ### Falls -/
/-- One more in the last part. -/
def bump (l : List Int) : List Int := l.set (l.length - 1) (l.getD (l.length - 1) 0 + 1)

theorem bump_snoc (l : List Int) (c : Int) : bump (l ++ [c]) = l ++ [c + 1] := by
  unfold bump
  have e : (l ++ [c]).length - 1 = l.length := by simp
  rw [e, List.set_append_right _ _ (Nat.le_refl _)]
  simp

theorem bump_len (l : List Int) : (bump l).length = l.length := by simp [bump]

/-- The falls of the first numbers. -/
def fTo (zs : List Int) : Nat → List Int
  | 0 => []
  | k + 1 => if 0 < k ∧ zs.getD k 0 < zs.getD (k - 1) 0 then bump (fTo zs k) else fTo zs k ++ [1]

theorem snoc_of {l : List Int} (h : 0 < l.length) : ∃ a c, l = a ++ [c] :=
  ⟨l.dropLast, l.getLast (by intro e; subst e; simp at h), (List.dropLast_concat_getLast _).symm⟩

theorem fTo_ok (zs : List Int) : ∀ k, (fTo zs k).length ≤ k ∧ (∀ c ∈ fTo zs k, 1 ≤ c) ∧ (fTo zs k).sum = k ∧ (0 < k → 0 < (fTo zs k).length)
  | 0 => by simp [fTo]
  | k + 1 => by
    obtain ⟨h1, h2, h3, h4⟩ := fTo_ok zs k
    unfold fTo
    split
    · rename_i h
      obtain ⟨a, c, e⟩ := snoc_of (h4 h.1)
      rw [e] at h1 h2 h3 ⊢
      rw [bump_snoc]
      refine ⟨by simp at h1 ⊢; omega, fun x hx => ?_, ?_, fun _ => by simp⟩
      · rcases List.mem_append.1 hx with hx | hx
        · exact h2 x (by simp [hx])
        · have := h2 c (by simp); simp at hx; omega
      · simp at h3 ⊢; omega
    · refine ⟨by simp; omega, fun x hx => ?_, ?_, fun _ => by simp⟩
      · rcases List.mem_append.1 hx with hx | hx
        · exact h2 x hx
        · simp at hx; omega
      · simp; omega

/-- The falls. -/
def fallsL (zs : List Int) : List Int := fTo zs zs.length

theorem falls_cuts {zs : List Int} (h : Ord zs) : CutsFor zs.length (fallsL zs) := by
  have h1 := fTo_ok zs zs.length
  exact ⟨by have := h.1; omega, by have := h.2.1; omega, h1.2.1, h1.2.2.1⟩

/-- The fall sweep. -/
def fsw (zs : List Int) : List Int := runL zs (fallsL zs)

theorem fsw_perm (zs : List Int) : (fsw zs).Perm zs := by
  have h1 := fTo_ok zs zs.length
  exact runL_perm _ _ h1.2.1 h1.2.2.1

theorem fsw_len (zs : List Int) : (fsw zs).length = zs.length := (fsw_perm zs).length_eq

theorem ord_fsw {zs : List Int} (h : Ord zs) : Ord (fsw zs) := ord_of_perm ((fsw_perm zs).trans (ord_perm h)) h.1 h.2.1

def fsN (zs : List Int) : Nat → List Int
  | 0 => zs
  | k + 1 => fsw (fsN zs k)

theorem fsN_perm (zs : List Int) : ∀ k, (fsN zs k).Perm zs
  | 0 => List.Perm.refl _
  | k + 1 => (fsw_perm _).trans (fsN_perm zs k)

theorem ord_fsN {zs : List Int} (h : Ord zs) (k : Nat) : Ord (fsN zs k) := ord_of_perm ((fsN_perm zs k).trans (ord_perm h)) h.1 h.2.1
theorem fsN_len (zs : List Int) (k : Nat) : (fsN zs k).length = zs.length := (fsN_perm zs k).length_eq

/-- The number of fall sweeps that sort. -/
def firstF (zs : List Int) : Nat → Nat → Nat
  | 0, k => k
  | f + 1, k => if fsN zs k = iota zs.length then k else firstF zs f (k + 1)

def manyF (zs : List Int) : Nat := firstF zs (zs.length - 1) 0

theorem firstF_is {zs : List Int} : ∀ f k, fsN zs (k + f) = iota zs.length → (∀ j, j < k → fsN zs j ≠ iota zs.length) → fsN zs (firstF zs f k) = iota zs.length ∧ (∀ j, j < firstF zs f k → fsN zs j ≠ iota zs.length) ∧ firstF zs f k ≤ k + f
  | 0, k, h, hb => ⟨h, hb, Nat.le_refl _⟩
  | f + 1, k, h, hb => by
    unfold firstF
    by_cases he : fsN zs k = iota zs.length
    · rw [if_pos he]; exact ⟨he, hb, by omega⟩
    · rw [if_neg he]
      have := firstF_is f (k + 1) (by rw [show k + 1 + f = k + (f + 1) by omega]; exact h) (fun j hj => by
        rcases Nat.lt_succ_iff_lt_or_eq.1 hj with h1 | h1
        · exact hb j h1
        · subst h1; exact he)
      exact ⟨this.1, this.2.1, by omega⟩

/-! ### The answers -/
def runAnsC (zs cs : List Int) : List Int × Bool := if Ord zs ∧ CutsFor zs.length cs then (runL zs cs, true) else ([], false)
def fallsAns (zs : List Int) : List Int × Bool := if Ord zs then (fallsL zs, true) else ([], false)
def fswAns (zs : List Int) : List Int × Bool := if Ord zs then (fsw zs, true) else ([], false)
def fsweepsAns (zs : List Int) : Int × Bool := if Ord zs then ((manyF zs : Nat), true) else (0, false)

theorem runC_alen {zs cs xs : List Int} {b : Bool} (h : runAnsC zs cs = (xs, b)) : xs.length ≤ 1048576 := by
  unfold runAnsC at h; split at h
  · rename_i ho; cases h; have h1 := runL_len cs zs ho.2.2.2.1 (by have := ho.2.2.2.2; omega); have := ho.2.2.1; have := ho.2.2.2.2; omega
  · cases h; simp
theorem falls_alen {zs xs : List Int} {b : Bool} (h : fallsAns zs = (xs, b)) : xs.length ≤ 1048576 := by
  unfold fallsAns at h; split at h
  · rename_i ho; cases h; have := ho.2.1; have := (fTo_ok zs zs.length).1; show (fTo zs zs.length).length ≤ _; omega
  · cases h; simp
theorem fsw_alen {zs xs : List Int} {b : Bool} (h : fswAns zs = (xs, b)) : xs.length ≤ 1048576 := by
  unfold fswAns at h; split at h
  · rename_i ho; cases h; have := ho.2.1; rw [fsw_len]; omega
  · cases h; simp

end Go.Proofs.Ytpkjnlabjmpokaa.CutsM
