/-
  The mathematics of limited sweeps: what they leave on the stack, their word, that they sort, and what the limits 1, 2 and n do. Conditions: none. Plain facts on texts and lists: nothing of the program.
-/
import Derived.Test.YtnhhnffolmgceaaPl24

namespace Go.Proofs.Ytnhhnffolmgceaa.LimM
open NumC OrdMath WordMath OrdFacts EndsM SweepM StackM LimW

/-- What a number leaves on the stack, one place kept free for it. -/
def kept (d : Nat) (s : List Int) (x : Int) : List Int := (belw s x).take (d - 1)
/-- What it pops, the top first. -/
def pop (d : Nat) (s : List Int) (x : Int) : List Int := (s.drop (kept d s x).length).reverse

theorem belw_pre (s : List Int) (x : Int) : s.take (belw s x).length = belw s x := by
  have h : ∀ a b : List Int, a ++ b = s → s.take a.length = a := by rintro a b rfl; simp
  exact h _ _ (parts s x)

theorem kept_pre (d : Nat) (s : List Int) (x : Int) : s.take (kept d s x).length = kept d s x := by
  have h := belw_pre s x
  unfold kept
  rw [List.length_take]
  conv => rhs; rw [← h, List.take_take]

theorem partsD (d : Nat) (s : List Int) (x : Int) : kept d s x ++ (pop d s x).reverse = s := by
  unfold pop
  rw [List.reverse_reverse]
  conv => lhs; rw [← kept_pre d s x]
  rw [List.length_take]
  conv => rhs; rw [← List.take_append_drop (kept d s x).length s]
  congr 1
  have := congrArg List.length (kept_pre d s x)
  rw [List.length_take] at this
  rw [this]

theorem lensD (d : Nat) (s : List Int) (x : Int) : (kept d s x).length + (pop d s x).length = s.length := by
  have := congrArg List.length (partsD d s x); simpa using this

theorem kept_le (d : Nat) (s : List Int) (x : Int) : (kept d s x).length ≤ d - 1 := by unfold kept; rw [List.length_take]; omega
theorem kept_les (d : Nat) (s : List Int) (x : Int) : (kept d s x).length ≤ s.length := by have := lensD d s x; omega

/-- A stack whose numbers descend. -/
def Desc (s : List Int) : Prop := s.Pairwise (fun a b => b ≤ a)

theorem desc_sub {s : List Int} {k : Nat} (h : Desc s) : Desc (s.take k) := List.Pairwise.sublist (List.take_sublist _ _) h

theorem belw_ge {s : List Int} {x : Int} (h : Desc s) : ∀ y ∈ belw s x, x ≤ y := by
  intro y hy
  have h2 : Desc (belw s x) := by rw [← belw_pre]; exact desc_sub h
  rcases List.eq_nil_or_concat (belw s x) with e | ⟨l, z, e⟩
  · rw [e] at hy; cases hy
  · rw [List.concat_eq_append] at e
    have hz : x ≤ z := by
      unfold belw at e
      have e2 := congrArg List.reverse e
      rw [List.reverse_reverse, List.reverse_append] at e2
      have h3 : (s.reverse.dropWhile (fun y => decide (y < x))).head? = some z := by rw [e2]; rfl
      have h4 := List.head?_dropWhile_not (fun y => decide (y < x)) s.reverse
      rw [h3] at h4
      simp at h4
      exact h4
    rw [e] at hy h2
    rcases List.mem_append.1 hy with h5 | h5
    · have := (List.pairwise_append.1 h2).2.2 y h5 z (by simp)
      omega
    · simp at h5; omega

theorem desc_next {d : Nat} {s : List Int} {x : Int} (h : Desc s) : Desc (kept d s x ++ [x]) := by
  unfold Desc
  rw [List.pairwise_append]
  refine ⟨by rw [← kept_pre]; exact desc_sub h, List.pairwise_singleton _ _, ?_⟩
  intro a ha b hb
  simp at hb
  subst hb
  exact belw_ge h a (List.mem_of_mem_take ha)

/-- One pop. -/
theorem pop_one {d : Nat} {s : List Int} {y x : Int} (hd : Desc (s ++ [y])) (h1 : 1 ≤ d) (hl : s.length + 1 ≤ d) (h : y < x ∨ s.length + 1 = d) : kept d (s ++ [y]) x = kept d s x ∧ pop d (s ++ [y]) x = y :: pop d s x := by
  have hk : kept d (s ++ [y]) x = kept d s x := by
    by_cases hy : y < x
    · unfold kept; rw [belw_less hy]
    · have hb : belw s x = s := by
        rcases List.eq_nil_or_concat s with rfl | ⟨l, z, rfl⟩
        · rfl
        · rw [List.concat_eq_append] at *
          refine belw_not ?_
          have := (List.pairwise_append.1 hd).2.2 z (by simp) y (by simp)
          omega
      unfold kept
      rw [belw_not hy, hb]
      have : s.length = d - 1 := by omega
      rw [← this]
      simp
  refine ⟨hk, ?_⟩
  unfold pop
  rw [hk, List.drop_append_of_le_length (kept_les d s x)]
  simp

theorem pop_none {d : Nat} {s : List Int} {x : Int} (hl : s.length < d) (h : s.getLast?.all (fun p => decide (¬ p < x))) : kept d s x = s ∧ pop d s x = [] := by
  have hb : belw s x = s := by
    rcases List.eq_nil_or_concat s with rfl | ⟨l, z, rfl⟩
    · rfl
    · rw [List.concat_eq_append] at *
      exact belw_not (by simpa using h)
  have hk : kept d s x = s := by unfold kept; rw [hb, List.take_of_length_le (by omega)]
  refine ⟨hk, ?_⟩
  unfold pop
  rw [hk]; simp

def llF (d : Nat) (r : List Int × List Int) (x : Int) : List Int × List Int := (r.1 ++ pop d r.2 x, kept d r.2 x ++ [x])

def llTo (d : Nat) (zs : List Int) (k : Nat) : List Int × List Int := (zs.take k).foldl (llF d) ([], [])

theorem ll_next {d : Nat} {zs : List Int} {k : Nat} {o s : List Int} (hk : k < zs.length) (h : llTo d zs k = (o, s)) : llTo d zs (k + 1) = (o ++ pop d s (zs.getD k 0), kept d s (zs.getD k 0) ++ [zs.getD k 0]) := by
  unfold llTo at h ⊢
  rw [List.take_succ_eq_append_getElem hk, List.foldl_append, h]
  have e : zs.getD k 0 = zs[k] := by simp [hk]
  rw [e]; rfl

def lsL (d : Nat) (zs : List Int) : List Int := (zs.foldl (llF d) ([], [])).1 ++ (zs.foldl (llF d) ([], [])).2.reverse

theorem ls_end {d : Nat} {zs o s : List Int} (h : llTo d zs zs.length = (o, s)) : lsL d zs = o ++ s.reverse := by
  unfold llTo at h
  rw [List.take_length] at h
  unfold lsL
  rw [h]

theorem ll_desc (d : Nat) (zs : List Int) : ∀ k, k ≤ zs.length → Desc (llTo d zs k).2 ∧ (llTo d zs k).2.length ≤ max d 1
  | 0, _ => ⟨.nil, Nat.zero_le _⟩
  | k + 1, h => by
    obtain ⟨o, s, hr⟩ : ∃ o s, llTo d zs k = (o, s) := ⟨_, _, rfl⟩
    have hn := ll_next (d := d) (zs := zs) (k := k) (by omega) hr
    have ih := (ll_desc d zs k (by omega)).1
    rw [hr] at ih
    rw [hn]
    refine ⟨desc_next ih, ?_⟩
    have := kept_le d s (zs.getD k 0)
    show (kept d s (zs.getD k 0) ++ [zs.getD k 0]).length ≤ max d 1
    rw [List.length_append, List.length_singleton]
    omega

theorem ll_permF (d : Nat) (l : List Int) : ∀ (o s : List Int), ((l.foldl (llF d) (o, s)).1 ++ (l.foldl (llF d) (o, s)).2).Perm (o ++ s ++ l) := by
  induction l with
  | nil => intro o s; simp
  | cons x t ih =>
    intro o s
    show ((t.foldl (llF d) (o ++ pop d s x, kept d s x ++ [x])).1 ++ (t.foldl (llF d) (o ++ pop d s x, kept d s x ++ [x])).2).Perm _
    refine (ih _ _).trans ?_
    have h1 : (pop d s x ++ kept d s x).Perm s := by
      refine (List.perm_append_comm).trans ?_
      conv => rhs; rw [← partsD d s x]
      exact List.Perm.append_left _ (List.reverse_perm _).symm
    have e : o ++ pop d s x ++ (kept d s x ++ [x]) ++ t = o ++ (pop d s x ++ kept d s x) ++ (x :: t) := by simp
    rw [e]
    exact (List.Perm.append_left o h1).append_right _

theorem ls_perm (d : Nat) (zs : List Int) : (lsL d zs).Perm zs := by
  have h := ll_permF d zs [] []
  simp only [List.nil_append] at h
  unfold lsL
  exact (List.Perm.append_left _ (List.reverse_perm _)).trans h

theorem ls_len (d : Nat) (zs : List Int) : (lsL d zs).length = zs.length := (ls_perm d zs).length_eq
theorem ord_ls {d : Nat} {zs : List Int} (h : Ord zs) : Ord (lsL d zs) := ord_of_perm ((ls_perm d zs).trans (ord_perm h)) h.1 h.2.1

/-! ### The word -/
def lsgTo (d : Nat) (zs : List Int) : Nat → List UInt8
  | 0 => []
  | k + 1 => lsgTo d zs k ++ List.replicate (pop d (llTo d zs k).2 (zs.getD k 0)).length 79 ++ [73]

def lsWord (d : Nat) (zs : List Int) : List UInt8 := lsgTo d zs zs.length ++ List.replicate (llTo d zs zs.length).2.length 79

theorem lsg_run (d : Nat) (zs : List Int) : ∀ k, k ≤ zs.length → (lsgTo d zs k).foldl (stepL zs) ([], [], 0) = ((llTo d zs k).1, (llTo d zs k).2, k)
  | 0, _ => rfl
  | k + 1, h => by
    obtain ⟨o, s, hr⟩ : ∃ o s, llTo d zs k = (o, s) := ⟨_, _, rfl⟩
    have hn := ll_next (d := d) (zs := zs) (k := k) (by omega) hr
    unfold lsgTo
    rw [List.foldl_append, List.foldl_append, lsg_run d zs k (by omega), hr, hn]
    simp only
    have e : s = kept d s (zs.getD k 0) ++ (pop d s (zs.getD k 0)).reverse := (partsD _ _ _).symm
    have h2 := step_pops zs k (pop d s (zs.getD k 0)) (kept d s (zs.getD k 0)) o
    rw [← e] at h2
    rw [h2]
    rfl

/-- A walk over signs from a depth to another one, never above d. -/
def PathD (d : Nat) : List UInt8 → Nat → Nat → Prop
  | [], a, e => a = e
  | c :: t, a, e => (c = 73 ∧ a + 1 ≤ d ∧ PathD d t (a + 1) e) ∨ (c = 79 ∧ 0 < a ∧ PathD d t (a - 1) e)

theorem pathD_goes (d : Nat) : ∀ l a, PathD d l a 0 → GoesD d l a
  | [], _, h => h
  | c :: t, a, h => by
    rcases h with ⟨h1, h2, h⟩ | ⟨h1, h2, h⟩
    · exact .inl ⟨h1, h2, pathD_goes d t _ h⟩
    · exact .inr ⟨h1, h2, pathD_goes d t _ h⟩

theorem pathD_append (d : Nat) : ∀ (l m : List UInt8) (a e f : Nat), PathD d l a e → PathD d m e f → PathD d (l ++ m) a f
  | [], m, a, e, f, h, h2 => by cases h; exact h2
  | c :: t, m, a, e, f, h, h2 => by
    rcases h with ⟨h1, h3, h⟩ | ⟨h1, h3, h⟩
    · exact .inl ⟨h1, h3, pathD_append d t m _ e f h h2⟩
    · exact .inr ⟨h1, h3, pathD_append d t m _ e f h h2⟩

theorem pathD_pops (d : Nat) : ∀ (m a : Nat), PathD d (List.replicate m 79) (a + m) a
  | 0, a => rfl
  | m + 1, a => .inr ⟨rfl, by omega, pathD_pops d m a⟩

theorem lsg_path {d : Nat} (hd : 1 ≤ d) (zs : List Int) : ∀ k, k ≤ zs.length → PathD d (lsgTo d zs k) 0 (llTo d zs k).2.length
  | 0, _ => rfl
  | k + 1, h => by
    obtain ⟨o, s, hr⟩ : ∃ o s, llTo d zs k = (o, s) := ⟨_, _, rfl⟩
    have hn := ll_next (d := d) (zs := zs) (k := k) (by omega) hr
    have ih := lsg_path hd zs k (by omega)
    have hk := kept_le d s (zs.getD k 0)
    unfold lsgTo
    rw [hr] at ih ⊢
    rw [hn]
    simp only at ih ⊢
    refine pathD_append d _ _ _ (kept d s (zs.getD k 0)).length _ (pathD_append d _ _ _ s.length _ ih ?_) ?_
    · rw [← lensD d s (zs.getD k 0)]; exact pathD_pops d _ _
    · exact .inl ⟨rfl, by omega, by show _ = _; simp⟩

theorem lsg_len (d : Nat) (zs : List Int) : ∀ k, k ≤ zs.length → (lsgTo d zs k).length = k + (llTo d zs k).1.length ∧ (llTo d zs k).1.length + (llTo d zs k).2.length = k
  | 0, _ => ⟨rfl, rfl⟩
  | k + 1, h => by
    obtain ⟨o, s, hr⟩ : ∃ o s, llTo d zs k = (o, s) := ⟨_, _, rfl⟩
    have hn := ll_next (d := d) (zs := zs) (k := k) (by omega) hr
    have ih := lsg_len d zs k (by omega)
    unfold lsgTo
    rw [hr] at ih ⊢
    rw [hn]
    simp only at ih ⊢
    have := lensD d s (zs.getD k 0)
    simp only [List.length_append, List.length_replicate, List.length_singleton]
    omega

theorem lsWord_len (d : Nat) (zs : List Int) : (lsWord d zs).length = 2 * zs.length := by
  have h := lsg_len d zs zs.length (Nat.le_refl _)
  unfold lsWord
  simp
  omega

theorem ls_word {d : Nat} {zs : List Int} (hd : 1 ≤ d) (h1 : 1 ≤ zs.length) (h7 : zs.length ≤ 7) : Word (txt (lsWord d zs)) ∧ depthTo (txt (lsWord d zs)) (txt (lsWord d zs)).size ≤ d ∧ (txt (lsWord d zs)).size = 2 * zs.length ∧ runOut zs (txt (lsWord d zs)) = lsL d zs := by
  have hl := lsWord_len d zs
  have hg : GoesD d (lsWord d zs) 0 := by
    refine pathD_goes d _ _ (pathD_append d _ _ _ _ _ (lsg_path hd zs zs.length (Nat.le_refl _)) ?_)
    have := pathD_pops d (llTo d zs zs.length).2.length 0
    rwa [Nat.zero_add] at this
  have hw := word_within hg (by omega) (by omega)
  refine ⟨hw.1, hw.2, by rw [txt_size, hl], ?_⟩
  obtain ⟨o, s, hr⟩ : ∃ o s, llTo d zs zs.length = (o, s) := ⟨_, _, rfl⟩
  rw [run_txt, ls_end hr]
  unfold lsWord
  rw [List.foldl_append, lsg_run d zs _ (Nat.le_refl _), hr]
  have h2 := step_pops zs zs.length s.reverse [] o
  rw [List.reverse_reverse, List.nil_append, List.length_reverse] at h2
  show (List.foldl (stepL zs) (o, s, zs.length) (List.replicate s.length 79)).1 = _
  rw [h2]

/-! ### Limited sweeps sort -/
theorem kept_all {d : Nat} {s : List Int} {x : Int} (h : ∀ y ∈ s, y < x) : kept d s x = [] ∧ pop d s x = s.reverse := by
  have e : kept d s x = [] := by unfold kept; rw [belw_all h]; simp
  refine ⟨e, ?_⟩
  unfold pop
  rw [e]; rfl

theorem topD_next {d : Nat} {s seen : List Int} {x : Int} (hd : 2 ≤ d) (h : Top s seen) (hs : ∀ y ∈ s, y ∈ seen) : Top (kept d s x ++ [x]) (seen ++ [x]) ∧ ∀ y ∈ kept d s x ++ [x], y ∈ seen ++ [x] := by
  have h2 := top_next (x := x) h hs
  obtain ⟨e, rfl⟩ : ∃ e, d = e + 2 := ⟨d - 2, by omega⟩
  refine ⟨?_, ?_⟩
  · obtain ⟨m, t, ht, hm, hall⟩ := h2.1
    cases hb : belw s x with
    | nil =>
      rw [hb] at ht
      have : kept (e + 2) s x = [] := by unfold kept; rw [hb]; simp
      rw [this]
      exact ⟨m, t, ht, hm, hall⟩
    | cons a u =>
      rw [hb] at ht
      have ha : a = m := by injection ht
      subst ha
      have : kept (e + 2) s x = a :: u.take e := by unfold kept; rw [hb]; rfl
      rw [this]
      exact ⟨a, u.take e ++ [x], rfl, hm, hall⟩
  · intro y hy
    rcases List.mem_append.1 hy with h5 | h5
    · exact h2.2 y (List.mem_append.2 (.inl (List.mem_of_mem_take h5)))
    · exact List.mem_append.2 (.inr h5)

theorem topD_fold {d : Nat} (hd : 2 ≤ d) : ∀ (l s seen o : List Int), Top s seen → (∀ y ∈ s, y ∈ seen) → Top (l.foldl (llF d) (o, s)).2 (seen ++ l)
  | [], s, seen, o, h, _ => by simpa using h
  | x :: t, s, seen, o, h, hs => by
    have h2 := topD_next (x := x) hd h hs
    have := topD_fold hd t (kept d s x ++ [x]) (seen ++ [x]) (o ++ pop d s x) h2.1 h2.2
    rw [List.append_assoc] at this
    exact this

theorem ls_last {d : Nat} {l : List Int} (hd : 2 ≤ d) (h : l ≠ []) : ∃ p m, lsL d l = p ++ [m] ∧ m ∈ l ∧ ∀ y ∈ l, y ≤ m := by
  have ht : Top (l.foldl (llF d) ([], [])).2 l := by
    cases l with
    | nil => exact absurd rfl h
    | cons x t =>
      have e : (x :: t).foldl (llF d) ([], []) = t.foldl (llF d) ([], [x]) := by
        show t.foldl (llF d) ([] ++ pop d [] x, kept d [] x ++ [x]) = _
        have h0 := kept_all (d := d) (s := []) (x := x) (by simp)
        rw [h0.1, h0.2]; rfl
      rw [e]
      have := topD_fold hd t [x] [x] [] ⟨x, [], rfl, by simp, fun y hy => by simp at hy; omega⟩ (fun y hy => hy)
      exact this
  obtain ⟨m, t, h1, h2, h3⟩ := ht
  refine ⟨(l.foldl (llF d) ([], [])).1 ++ t.reverse, m, ?_, h2, h3⟩
  unfold lsL
  rw [h1]
  simp

theorem ls_tail {d : Nat} : ∀ (q o s : List Int), q.Pairwise (· < ·) → (∀ y ∈ q, ∀ z ∈ s, z < y) → (q.foldl (llF d) (o, s)).1 ++ (q.foldl (llF d) (o, s)).2.reverse = o ++ s.reverse ++ q
  | [], o, s, _, _ => by simp
  | y :: q, o, s, h, hs => by
    have hall : ∀ z ∈ s, z < y := hs y (by simp)
    have e : (y :: q).foldl (llF d) (o, s) = q.foldl (llF d) (o ++ s.reverse, [y]) := by
      show q.foldl (llF d) (o ++ pop d s y, kept d s y ++ [y]) = _
      have h0 := kept_all (d := d) hall
      rw [h0.1, h0.2]; rfl
    rw [e, ls_tail q _ _ (List.pairwise_cons.1 h).2 (fun z hz u hu => by simp at hu; subst hu; exact (List.pairwise_cons.1 h).1 z hz)]
    simp

theorem ls_append {d : Nat} {p q : List Int} (hq : q.Pairwise (· < ·)) (hp : ∀ y ∈ q, ∀ z ∈ p, z < y) : lsL d (p ++ q) = lsL d p ++ q := by
  unfold lsL
  rw [List.foldl_append]
  obtain ⟨o, s, hr⟩ : ∃ o s, p.foldl (llF d) ([], []) = (o, s) := ⟨_, _, rfl⟩
  rw [hr]
  have hs : ∀ z ∈ s, z ∈ p := by
    intro z hz
    have h := ll_permF d p [] []
    rw [hr] at h
    have h9 : z ∈ o ++ s := List.mem_append.2 (.inr hz)
    have := h.mem_iff.1 h9
    simpa using this
  rw [ls_tail q o s hq (fun y hy z hz => hp y hy z (hs z hz))]

/-- So many limited sweeps. -/
def lsN (d : Nat) (zs : List Int) : Nat → List Int
  | 0 => zs
  | k + 1 => lsL d (lsN d zs k)

theorem lsN_perm (d : Nat) (zs : List Int) : ∀ k, (lsN d zs k).Perm zs
  | 0 => List.Perm.refl _
  | k + 1 => (ls_perm d _).trans (lsN_perm d zs k)

theorem ord_lsN {d : Nat} {zs : List Int} (h : Ord zs) (k : Nat) : Ord (lsN d zs k) := ord_of_perm ((lsN_perm d zs k).trans (ord_perm h)) h.1 h.2.1
theorem lsN_len (d : Nat) (zs : List Int) (k : Nat) : (lsN d zs k).length = zs.length := (lsN_perm d zs k).length_eq

theorem lsN_tail {d : Nat} {zs : List Int} (hd : 2 ≤ d) (hn : zs.Nodup) : ∀ k, k ≤ zs.length → ∃ p q, lsN d zs k = p ++ q ∧ q.length = k ∧ q.Pairwise (· < ·) ∧ ∀ y ∈ q, ∀ z ∈ p, z < y
  | 0, _ => ⟨zs, [], by simp [lsN], rfl, .nil, by simp⟩
  | k + 1, h => by
    obtain ⟨p, q, e, hq, hs, hp⟩ := lsN_tail hd hn k (by omega)
    have hl := lsN_len d zs k
    rw [e] at hl
    have hne : p ≠ [] := by intro h0; subst h0; simp at hl; omega
    obtain ⟨p2, m, e2, hm, hmax⟩ := ls_last hd hne
    refine ⟨p2, m :: q, ?_, by simp [hq], ?_, ?_⟩
    · show lsL d (lsN d zs k) = _
      rw [e, ls_append hs hp, e2]; simp
    · exact List.pairwise_cons.2 ⟨fun y hy => hp y hy m hm, hs⟩
    · have hperm := ls_perm d p
      rw [e2] at hperm
      have hnd : p.Nodup := by
        have h1 := (lsN_perm d zs k).nodup_iff.2 hn
        rw [e] at h1
        exact (List.nodup_append.1 h1).1
      have hnd2 := hperm.nodup_iff.2 hnd
      have hmem : ∀ z ∈ p2, z ∈ p := fun z hz => hperm.mem_iff.1 (by simp [hz])
      intro y hy z hz
      rcases List.mem_cons.1 hy with rfl | hy
      · have h1 := hmax z (hmem z hz)
        have h2 : z ≠ y := by
          intro e3; subst e3
          exact (List.nodup_append.1 hnd2).2.2 z hz z (by simp) rfl
        omega
      · exact hp y hy z (hmem z hz)

theorem lsN_sorts {d : Nat} {zs : List Int} (hd : 2 ≤ d) (h : Ord zs) : lsN d zs (zs.length - 1) = iota zs.length := by
  have h1 := h.1
  obtain ⟨p, q, e, hq, hs, hp⟩ := lsN_tail hd h.2.2.2 (zs.length - 1) (by omega)
  have hl := lsN_len d zs (zs.length - 1)
  refine sorted_is ((lsN_perm d zs _).trans (ord_perm h)) ?_
  rw [e] at hl ⊢
  simp at hl
  rw [List.pairwise_append]
  refine ⟨?_, hs, fun z hz y hy => hp y hy z hz⟩
  match p, hl with
  | [], _ => exact .nil
  | [a], _ => exact List.pairwise_singleton _ _
  | a :: b :: t, hl => simp at hl; omega

/-- The number of limited sweeps that sort. -/
def firstD (d : Nat) (zs : List Int) : Nat → Nat → Nat
  | 0, k => k
  | f + 1, k => if lsN d zs k = iota zs.length then k else firstD d zs f (k + 1)

def manyD (d : Nat) (zs : List Int) : Nat := firstD d zs (zs.length - 1) 0

theorem firstD_is {d : Nat} {zs : List Int} : ∀ f k, lsN d zs (k + f) = iota zs.length → (∀ j, j < k → lsN d zs j ≠ iota zs.length) → lsN d zs (firstD d zs f k) = iota zs.length ∧ (∀ j, j < firstD d zs f k → lsN d zs j ≠ iota zs.length) ∧ firstD d zs f k ≤ k + f
  | 0, k, h, hb => ⟨h, hb, Nat.le_refl _⟩
  | f + 1, k, h, hb => by
    unfold firstD
    by_cases he : lsN d zs k = iota zs.length
    · rw [if_pos he]; exact ⟨he, hb, by omega⟩
    · rw [if_neg he]
      have := firstD_is f (k + 1) (by rw [show k + 1 + f = k + (f + 1) by omega]; exact h) (fun j hj => by
        rcases Nat.lt_succ_iff_lt_or_eq.1 hj with h1 | h1
        · exact hb j h1
        · rw [h1]; exact he)
      exact ⟨this.1, this.2.1, by omega⟩

/-- Where it is told: an order, and the limit 2 at least, or it is sorted. -/
theorem manyD_is {d : Nat} {zs : List Int} (h : Ord zs) (hd : 2 ≤ d ∨ zs = iota zs.length) : lsN d zs (manyD d zs) = iota zs.length ∧ (∀ j, j < manyD d zs → lsN d zs j ≠ iota zs.length) ∧ manyD d zs ≤ zs.length - 1 := by
  rcases hd with hd | hd
  · have := firstD_is (d := d) (zs := zs) (zs.length - 1) 0 (by rw [Nat.zero_add]; exact lsN_sorts hd h) (fun j hj => by omega)
    exact ⟨this.1, this.2.1, by have := this.2.2; unfold manyD; omega⟩
  · have e : manyD d zs = 0 := by
      unfold manyD
      cases zs.length - 1 with
      | zero => rfl
      | succ f => unfold firstD; rw [if_pos (by exact hd)]
    rw [e]
    exact ⟨hd, fun j hj => by omega, Nat.zero_le _⟩

/-! ### The limits 1, 2 and n -/
theorem ls_one (zs : List Int) : lsL 1 zs = zs := by
  have h : ∀ (l o s : List Int), s.length ≤ 1 → (l.foldl (llF 1) (o, s)).1 ++ (l.foldl (llF 1) (o, s)).2.reverse = o ++ s ++ l := by
    intro l
    induction l with
    | nil => intro o s hs; rcases s with _ | ⟨a, _ | ⟨b, t⟩⟩ <;> simp at hs ⊢
    | cons x t ih =>
      intro o s hs
      have hk : kept 1 s x = [] := by unfold kept; simp
      have hp : pop 1 s x = s := by
        unfold pop
        rw [hk]
        rcases s with _ | ⟨a, _ | ⟨b, u⟩⟩ <;> simp at hs ⊢
      show (t.foldl (llF 1) (o ++ pop 1 s x, kept 1 s x ++ [x])).1 ++ (t.foldl (llF 1) (o ++ pop 1 s x, kept 1 s x ++ [x])).2.reverse = _
      rw [ih _ _ (by rw [hk]; simp), hk, hp]
      simp
  have := h zs [] [] (by simp)
  unfold lsL
  simpa using this

/-- Bubbling: the number that is carried, and what is behind it. -/
def bub : Int → List Int → List Int
  | m, [] => [m]
  | m, x :: t => min m x :: bub (max m x) t

def bubL : List Int → List Int
  | [] => []
  | x :: t => bub x t

theorem ls_two (zs : List Int) : lsL 2 zs = bubL zs := by
  have h : ∀ (l o s : List Int) (m : Int), (s = [m] ∨ ∃ y, s = [m, y] ∧ y ≤ m) → (l.foldl (llF 2) (o, s)).1 ++ (l.foldl (llF 2) (o, s)).2.reverse = o ++ (s.drop 1) ++ bub m l := by
    intro l
    induction l with
    | nil => intro o s m hs; rcases hs with rfl | ⟨y, rfl, _⟩ <;> simp [bub]
    | cons x t ih =>
      intro o s m hs
      show (t.foldl (llF 2) (o ++ pop 2 s x, kept 2 s x ++ [x])).1 ++ (t.foldl (llF 2) (o ++ pop 2 s x, kept 2 s x ++ [x])).2.reverse = _
      by_cases hx : m < x
      · have hall : ∀ y ∈ s, y < x := by rcases hs with rfl | ⟨y, rfl, hy⟩ <;> (intro z hz; simp at hz; omega)
        have h0 := kept_all (d := 2) hall
        rw [h0.1, h0.2, ih _ ([] ++ [x]) x (.inl rfl)]
        have e : bub m (x :: t) = m :: bub x t := by show min m x :: bub (max m x) t = _; rw [show min m x = m by omega, show max m x = x by omega]
        rw [e]
        rcases hs with rfl | ⟨y, rfl, hy⟩ <;> simp
      · have hb : belw s x = s ∨ belw s x = [m] := by
          rcases hs with rfl | ⟨y, rfl, hy⟩
          · exact .inl (belw_not (s := []) (by omega))
          · by_cases hyx : y < x
            · refine .inr ?_
              rw [show [m, y] = [m] ++ [y] from rfl, belw_less hyx]; exact belw_not (s := []) (by omega)
            · exact .inl (belw_not (s := [m]) hyx)
        have hk : kept 2 s x = [m] := by
          unfold kept
          rcases hb with hb | hb <;> rw [hb]
          · rcases hs with rfl | ⟨y, rfl, hy⟩ <;> rfl
          · rfl
        have hp : pop 2 s x = s.drop 1 := by
          unfold pop; rw [hk]
          rcases hs with rfl | ⟨y, rfl, hy⟩ <;> rfl
        rw [hk, hp, ih _ ([m] ++ [x]) m (.inr ⟨x, rfl, by omega⟩)]
        have e : bub m (x :: t) = x :: bub m t := by show min m x :: bub (max m x) t = _; rw [show min m x = x by omega, show max m x = m by omega]
        rw [e]
        simp
  cases zs with
  | nil => rfl
  | cons x t =>
    have e : lsL 2 (x :: t) = (t.foldl (llF 2) ([], [x])).1 ++ (t.foldl (llF 2) ([], [x])).2.reverse := by
      unfold lsL
      have e2 : (x :: t).foldl (llF 2) ([], []) = t.foldl (llF 2) ([], [x]) := by
        show t.foldl (llF 2) ([] ++ pop 2 [] x, kept 2 [] x ++ [x]) = _
        have h0 := kept_all (d := 2) (s := []) (x := x) (by simp)
        rw [h0.1, h0.2]; rfl
      rw [e2]
    rw [e, h t [] [x] x (.inl rfl)]
    simp [bubL]

/-- A limit that all numbers keep. -/
theorem ls_all {d : Nat} : ∀ (l o s : List Int), s.length + l.length ≤ d → l.foldl (llF d) (o, s) = l.foldl swF (o, s)
  | [], _, _, _ => rfl
  | x :: t, o, s, h => by
    have hb : (belw s x).length ≤ s.length := by have := lens s x; omega
    have hk : kept d s x = belw s x := by
      unfold kept
      rw [List.take_of_length_le]
      simp at h; omega
    have hp : pop d s x = popd s x := by
      unfold pop
      rw [hk]
      have h1 := parts s x
      have h2 : s.drop (belw s x).length = (popd s x).reverse := by
        have h3 : ∀ a b : List Int, a ++ b = s → s.drop a.length = b := by rintro a b rfl; simp
        exact h3 _ _ h1
      rw [h2, List.reverse_reverse]
    show t.foldl (llF d) (o ++ pop d s x, kept d s x ++ [x]) = t.foldl swF (o ++ popd s x, belw s x ++ [x])
    rw [hk, hp]
    exact ls_all t _ _ (by simp at h ⊢; omega)

theorem ls_n (zs : List Int) : lsL zs.length zs = sweepL zs := by
  unfold lsL sweepL
  rw [ls_all zs [] [] (by simp)]

/-! ### The answers -/
def lswAns (zs : List Int) (d : Int) : ByteArray × Bool := if Ord zs ∧ 1 ≤ d ∧ d ≤ 7 then (txt (lsWord d.toNat zs), true) else (ByteArray.empty, false)
def lsAns (zs : List Int) (d : Int) : List Int × Bool := if Ord zs ∧ 1 ≤ d ∧ d ≤ 7 then (lsL d.toNat zs, true) else ([], false)
def lsmAns (zs : List Int) (d : Int) : Int × Bool := if Ord zs ∧ 1 ≤ d ∧ d ≤ 7 ∧ (d ≠ 1 ∨ zs = iota zs.length) then ((manyD d.toNat zs : Nat), true) else (0, false)
def bubAns (zs : List Int) : List Int × Bool := if Ord zs then (bubL zs, true) else ([], false)
theorem ls_alen {zs xs : List Int} {d : Int} {b : Bool} (h : lsAns zs d = (xs, b)) : xs.length ≤ 1048576 := by
  unfold lsAns at h; split at h
  · rename_i ho; cases h; have := ho.1.2.1; rw [ls_len]; omega
  · cases h; simp

end Go.Proofs.Ytnhhnffolmgceaa.LimM
