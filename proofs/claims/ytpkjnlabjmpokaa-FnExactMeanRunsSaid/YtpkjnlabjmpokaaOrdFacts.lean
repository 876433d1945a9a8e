/-
  The mathematics of the law on orders: an inverse undoes an order, ranks tell orders, an order turned back and forth is the same. Conditions: none. Plain facts on lists: nothing of the program.
-/
import Derived.Test.YtpkjnlabjmpokaaOrd
namespace Go.Proofs.Ytpkjnlabjmpokaa.OrdFacts
open OrdMath

theorem perm_of_sub : ∀ (l m : List Int), l.Nodup → (∀ x ∈ l, x ∈ m) → m.length ≤ l.length → l.Perm m
  | [], m, _, _, h => by
    have : m = [] := List.eq_nil_of_length_eq_zero (by simpa using h)
    subst this
    exact List.Perm.refl _
  | a :: l, m, hn, hs, h => by
    have ha : a ∈ m := hs a (by simp)
    have hp := List.perm_cons_erase ha
    have hn2 := List.nodup_cons.1 hn
    have ih := perm_of_sub l (m.erase a) hn2.2 (fun x hx => (List.mem_erase_of_ne (fun e => hn2.1 (by rw [← e]; exact hx))).2 (hs x (by simp [hx]))) (by rw [List.length_erase_of_mem ha]; simp at h; omega)
    exact (ih.cons a).trans hp.symm

theorem mem_iota {n : Nat} {x : Int} : x ∈ iota n ↔ 1 ≤ x ∧ x ≤ (n : Int) := by
  unfold iota
  rw [List.mem_map]
  constructor
  · rintro ⟨i, hi, rfl⟩; rw [List.mem_range] at hi; omega
  · rintro ⟨h1, h2⟩; exact ⟨(x - 1).toNat, by rw [List.mem_range]; omega, by omega⟩

theorem ord_perm {zs : List Int} (h : Ord zs) : zs.Perm (iota zs.length) :=
  perm_of_sub _ _ h.2.2.2 (fun x hx => mem_iota.2 (h.2.2.1 x hx)) (by rw [iota_len]; exact Nat.le_refl _)

theorem iota_sorted (n : Nat) : (iota n).Pairwise (· < ·) := by
  unfold iota
  rw [List.pairwise_map]
  exact (List.pairwise_lt_range (n := n)).imp (fun h => by omega)

theorem ord_of_perm {zs : List Int} {n : Nat} (h : zs.Perm (iota n)) (h1 : 1 ≤ n) (h7 : n ≤ 7) : Ord zs := by
  have hl : zs.length = n := by rw [h.length_eq, iota_len]
  refine ⟨by omega, by omega, fun z hz => by rw [hl]; exact mem_iota.1 (h.mem_iff.1 hz), ?_⟩
  rw [h.nodup_iff]
  exact (iota_sorted n).imp (fun h => by omega)

/-! ### Ranks -/
def rankR : List Int → Nat
  | [] => 0
  | z :: t => cl z t * fact t.length + rankR t

theorem rankS_R (zs : List Int) : ∀ k, k ≤ zs.length → rankS zs k + rankR (zs.drop k) = rankR zs := by
  intro k
  induction k with
  | zero => intro _; simp [rankS]
  | succ k ih =>
    intro hk
    rw [← ih (by omega), List.drop_eq_getElem_cons (show k < zs.length by omega)]
    have e1 : zs.length - 1 - k = zs.length - (k + 1) := by omega
    have e2 : lessAt zs k = cl zs[k] (zs.drop (k + 1)) := by unfold lessAt; congr 1; simp [show k < zs.length by omega]
    show rankS zs k + lessAt zs k * fact (zs.length - 1 - k) + rankR (zs.drop (k + 1)) = rankS zs k + (cl zs[k] (zs.drop (k + 1)) * fact (zs.drop (k + 1)).length + rankR (zs.drop (k + 1)))
    rw [e1, e2, List.length_drop]
    omega

theorem rank_all (zs : List Int) : rankS zs zs.length = rankR zs := by
  have := rankS_R zs zs.length (Nat.le_refl _)
  rw [List.drop_length] at this
  simpa [rankR] using this

theorem rankR_lt : ∀ l : List Int, rankR l < fact l.length
  | [] => by decide
  | z :: t => by
    have h1 := rankR_lt t
    have h2 : cl z t * fact t.length ≤ t.length * fact t.length := Nat.mul_le_mul_right _ (cl_le z t)
    show cl z t * fact t.length + rankR t < (t.length + 1) * fact t.length
    rw [Nat.add_mul]
    omega

theorem cl_cons (x a : Int) (l : List Int) : cl x (a :: l) = cl x l + (if a < x then 1 else 0) := by
  unfold cl; rw [List.countP_cons]; simp

theorem cl_zero {x : Int} {l : List Int} (h : ∀ y ∈ l, x < y) : cl x l = 0 := by
  unfold cl; rw [List.countP_eq_zero]; intro y hy; have := h y hy; simp; omega

theorem cl_self (z : Int) (t : List Int) : cl z (z :: t) = cl z t := by rw [cl_cons]; simp

theorem cl_perm {x : Int} {l m : List Int} (h : l.Perm m) : cl x l = cl x m := h.countP_eq _

theorem sorted_at : ∀ (left : List Int) (z : Int), left.Pairwise (· < ·) → z ∈ left → left.getD (cl z left) 0 = z ∧ cl z left < left.length
  | [], z, _, h => by simp at h
  | a :: l, z, hp, h => by
    rw [List.pairwise_cons] at hp
    by_cases e : z = a
    · subst e
      rw [cl_self, cl_zero hp.1]
      simp
    · have hz : z ∈ l := by simpa [e] using h
      have haz := hp.1 z hz
      have ih := sorted_at l z hp.2 hz
      rw [cl_cons, if_pos haz]
      refine ⟨?_, by simp; omega⟩
      rw [List.getD_cons_succ]
      exact ih.1

theorem sorted_cl : ∀ (left : List Int) (i : Nat), left.Pairwise (· < ·) → i < left.length → cl (left.getD i 0) left = i
  | [], i, _, h => by simp at h
  | a :: l, 0, hp, _ => by
    rw [List.pairwise_cons] at hp
    show cl a (a :: l) = 0
    rw [cl_self, cl_zero hp.1]
  | a :: l, i + 1, hp, h => by
    rw [List.pairwise_cons] at hp
    have hi : i < l.length := by simpa using h
    have ih := sorted_cl l i hp.2 hi
    rw [List.getD_cons_succ, cl_cons, ih, if_pos]
    have : l.getD i 0 = l[i] := by simp [hi]
    rw [this]
    exact hp.1 _ (List.getElem_mem hi)

theorem erase_perm : ∀ {left : List Int} {i : Nat}, i < left.length → (left.getD i 0 :: left.eraseIdx i).Perm left
  | [], i, h => by simp at h
  | a :: l, 0, _ => List.Perm.refl _
  | a :: l, i + 1, h => by
    rw [List.getD_cons_succ, List.eraseIdx_cons_succ]
    exact (List.Perm.swap _ _ _).trans ((erase_perm (left := l) (i := i) (by simpa using h)).cons a)

theorem at_rank : ∀ (zs left : List Int), left.Pairwise (· < ·) → zs.Perm left → atRun zs.length left (rankR zs) = zs
  | [], _, _, _ => rfl
  | z :: t, left, hp, hz => by
    have hF := fact_pos t.length
    have hr := rankR_lt t
    have hc : cl z left = cl z t := by rw [← cl_perm hz, cl_self]
    have hs := sorted_at left z hp (hz.mem_iff.1 (by simp))
    rw [hc] at hs
    have hdiv : (cl z t * fact t.length + rankR t) / fact t.length = cl z t := by
      rw [Nat.add_comm, Nat.add_mul_div_right _ _ (by omega), Nat.div_eq_of_lt hr, Nat.zero_add]
    have hmod : (cl z t * fact t.length + rankR t) % fact t.length = rankR t := by
      rw [Nat.add_comm, Nat.add_mul_mod_self_right, Nat.mod_eq_of_lt hr]
    show left.getD ((cl z t * fact t.length + rankR t) / fact t.length) 0 :: atRun t.length (left.eraseIdx ((cl z t * fact t.length + rankR t) / fact t.length)) ((cl z t * fact t.length + rankR t) % fact t.length) = z :: t
    rw [hdiv, hmod, hs.1]
    have he := erase_perm hs.2
    rw [hs.1] at he
    have hp2 : t.Perm (left.eraseIdx (cl z t)) := (he.trans hz.symm).symm.cons_inv
    rw [at_rank t _ (hp.sublist (List.eraseIdx_sublist left _)) hp2]

theorem rank_at : ∀ (m : Nat) (left : List Int) (k : Nat), left.length = m → left.Pairwise (· < ·) → k < fact m → (atRun m left k).Perm left ∧ rankR (atRun m left k) = k
  | 0, left, k, hl, _, hk => by
    have : left = [] := List.eq_nil_of_length_eq_zero hl
    subst this
    have : k = 0 := by simp [fact] at hk; exact hk
    subst this
    exact ⟨List.Perm.refl _, rfl⟩
  | m + 1, left, k, hl, hp, hk => by
    have hF := fact_pos m
    have hi : k / fact m < left.length := by rw [hl, Nat.div_lt_iff_lt_mul (by omega)]; exact hk
    have he := erase_perm hi
    have hel : (left.eraseIdx (k / fact m)).length = m := by rw [List.length_eraseIdx, if_pos hi]; omega
    obtain ⟨h1, h2⟩ := rank_at m (left.eraseIdx (k / fact m)) (k % fact m) hel (hp.sublist (List.eraseIdx_sublist left _)) (Nat.mod_lt _ (by omega))
    have hcl := sorted_cl left (k / fact m) hp hi
    rw [← cl_perm he, cl_self] at hcl
    refine ⟨(h1.cons _).trans he, ?_⟩
    show cl (left.getD (k / fact m) 0) (atRun m (left.eraseIdx (k / fact m)) (k % fact m)) * fact (atRun m (left.eraseIdx (k / fact m)) (k % fact m)).length + rankR (atRun m (left.eraseIdx (k / fact m)) (k % fact m)) = k
    rw [cl_perm h1, hcl, atRun_len, h2]
    exact Nat.div_add_mod' k (fact m)

theorem at_of_rank {zs : List Int} (h : Ord zs) : rankS zs zs.length < fact zs.length ∧ atRun zs.length (iota zs.length) (rankS zs zs.length) = zs := by
  rw [rank_all]
  exact ⟨rankR_lt zs, at_rank zs _ (iota_sorted _) (ord_perm h)⟩

theorem rank_of_at {n k : Nat} (h1 : 1 ≤ n) (h7 : n ≤ 7) (hk : k < fact n) : Ord (atRun n (iota n) k) ∧ rankS (atRun n (iota n) k) (atRun n (iota n) k).length = k := by
  have h := rank_at n (iota n) k (iota_len n) (iota_sorted n) hk
  exact ⟨ord_of_perm h.1 h1 h7, by rw [rank_all]; exact h.2⟩

/-! ### Inversions -/
def invR : List Int → Nat
  | [] => 0
  | z :: t => cl z t + invR t

theorem invTo_R (zs : List Int) : ∀ k, k ≤ zs.length → invTo zs k + invR (zs.drop k) = invR zs := by
  intro k
  induction k with
  | zero => intro _; simp [invTo]
  | succ k ih =>
    intro hk
    rw [← ih (by omega), List.drop_eq_getElem_cons (show k < zs.length by omega)]
    have e2 : lessAt zs k = cl zs[k] (zs.drop (k + 1)) := by unfold lessAt; congr 1; simp [show k < zs.length by omega]
    show invTo zs k + lessAt zs k + invR (zs.drop (k + 1)) = invTo zs k + (cl zs[k] (zs.drop (k + 1)) + invR (zs.drop (k + 1)))
    rw [e2]; omega

theorem inv_all (zs : List Int) : invTo zs zs.length = invR zs := by
  have := invTo_R zs zs.length (Nat.le_refl _)
  rw [List.drop_length] at this
  simpa [invR] using this

def gt (x : Int) (l : List Int) : Nat := l.countP (fun z => decide (x < z))

theorem invR_snoc (z : Int) : ∀ l : List Int, invR (l ++ [z]) = invR l + gt z l
  | [] => by simp [invR, cl, gt]
  | a :: l => by
    show cl a (l ++ [z]) + invR (l ++ [z]) = cl a l + invR l + gt z (a :: l)
    rw [invR_snoc z l]
    unfold cl gt
    rw [List.countP_append]
    simp only [List.countP_cons, List.countP_nil]
    omega

theorem cl_gt {z : Int} : ∀ {t : List Int}, z ∉ t → cl z t + gt z t = t.length
  | [], _ => rfl
  | a :: t, h => by
    have ih := cl_gt (z := z) (t := t) (fun e => h (by simp [e]))
    have hne : z ≠ a := fun e => h (by simp [e])
    unfold cl gt at *
    rw [List.countP_cons, List.countP_cons]
    by_cases h1 : a < z
    · have h2 : ¬ z < a := by omega
      simp [h1, h2]; omega
    · have h2 : z < a := by omega
      simp [h1, h2]; omega

def tri : Nat → Nat
  | 0 => 0
  | n + 1 => tri n + n

theorem inv_rev : ∀ l : List Int, l.Nodup → invR l.reverse + invR l = tri l.length
  | [], _ => rfl
  | z :: t, h => by
    have hn := List.nodup_cons.1 h
    have ih := inv_rev t hn.2
    have hg : gt z t.reverse = gt z t := by unfold gt; rw [List.countP_reverse]
    have hcg := cl_gt hn.1
    rw [List.reverse_cons, invR_snoc, hg]
    show invR t.reverse + gt z t + (cl z t + invR t) = tri t.length + t.length
    omega

theorem tri_is : ∀ n, n ≤ 7 → (tri n : Int) = ((n : Int) * ((n : Int) - 1)).tdiv 2 := by
  intro n hn
  have : n = 0 ∨ n = 1 ∨ n = 2 ∨ n = 3 ∨ n = 4 ∨ n = 5 ∨ n = 6 ∨ n = 7 := by omega
  rcases this with rfl | rfl | rfl | rfl | rfl | rfl | rfl | rfl <;> decide

theorem few_many {zs : List Int} (h : Ord zs) : invTo zs.reverse zs.reverse.length + invTo zs zs.length = tri zs.length := by
  rw [inv_all, inv_all]; exact inv_rev zs h.2.2.2

/-! ### Orders turned -/
theorem ord_reverse {zs : List Int} (h : Ord zs) : Ord zs.reverse := by
  refine ⟨by simpa using h.1, by simpa using h.2.1, fun z hz => ?_, ?_⟩
  · have := h.2.2.1 z (by simpa using hz); simpa using this
  · exact ((List.reverse_perm zs).nodup_iff).2 h.2.2.2

def other (zs : List Int) : List Int := zs.map (fun z => (zs.length : Int) + 1 - z)

theorem ord_other {zs : List Int} (h : Ord zs) : Ord (other zs) := by
  refine ⟨by simpa [other] using h.1, by simpa [other] using h.2.1, fun z hz => ?_, ?_⟩
  · unfold other at hz
    rw [List.mem_map] at hz
    obtain ⟨y, hy, rfl⟩ := hz
    have := h.2.2.1 y hy
    simp [other]; omega
  · unfold other List.Nodup
    rw [List.pairwise_map]
    exact h.2.2.2.imp (fun h => by omega)

theorem other_other (zs : List Int) : other (other zs) = zs := by
  unfold other
  rw [List.map_map, List.length_map]
  conv => rhs; rw [← List.map_id zs]
  apply List.map_congr_left
  intro z _
  show (zs.length : Int) + 1 - ((zs.length : Int) + 1 - z) = z
  omega

theorem getD_set_same (l : List Int) (p : Nat) (z : Int) (h : p < l.length) : (l.set p z).getD p 0 = z := by simp [h]
theorem getD_set_other (l : List Int) (p q : Nat) (z : Int) (h : p ≠ q) : (l.set p z).getD q 0 = l.getD q 0 := by
  rw [List.getD_eq_getElem?_getD, List.getElem?_set_ne h, List.getD_eq_getElem?_getD]

theorem inv_get {zs : List Int} (h : Ord zs) : ∀ k, k ≤ zs.length → ∀ j, j < k → (invOf zs k).getD (zs.getD j 0 - 1).toNat 0 = (j : Int) + 1 := by
  intro k
  induction k with
  | zero => intro _ j hj; omega
  | succ k ih =>
    intro hk j hj
    obtain ⟨m, hm, hm2⟩ := h.getD (k := k) (by omega)
    show ((invOf zs k).set (zs.getD k 0 - 1).toNat ((k : Int) + 1)).getD (zs.getD j 0 - 1).toNat 0 = (j : Int) + 1
    by_cases e : j = k
    · subst e
      rw [getD_set_same _ _ _ (by rw [invOf_len, hm]; omega)]
    · obtain ⟨q, hq, hq2⟩ := h.getD (k := j) (by omega)
      rw [getD_set_other _ _ _ _ (by
        intro e2
        have e3 : zs.getD k 0 = zs.getD j 0 := by omega
        have e4 : zs[k]'(by omega) = zs[j]'(by omega) := by simpa [show k < zs.length by omega, show j < zs.length by omega] using e3
        have := (List.getElem_inj h.2.2.2).1 e4
        omega)]
      exact ih (by omega) j (by omega)

theorem ord_surj {zs : List Int} (h : Ord zs) {p : Nat} (hp : p < zs.length) : ∃ j, j < zs.length ∧ zs.getD j 0 = (p : Int) + 1 := by
  have h1 : ((p : Int) + 1) ∈ zs := (ord_perm h).mem_iff.2 (mem_iota.2 (by omega))
  obtain ⟨j, hj, e⟩ := List.mem_iff_getElem.1 h1
  exact ⟨j, hj, by rw [← e]; simp [hj]⟩

theorem inv_at {zs : List Int} (h : Ord zs) {p : Nat} (hp : p < zs.length) : ∃ j, j < zs.length ∧ zs.getD j 0 = (p : Int) + 1 ∧ (invOf zs zs.length).getD p 0 = (j : Int) + 1 := by
  obtain ⟨j, hj, e⟩ := ord_surj h hp
  refine ⟨j, hj, e, ?_⟩
  have h1 := inv_get h zs.length (Nat.le_refl _) j hj
  rw [e] at h1
  have e2 : ((p : Int) + 1 - 1).toNat = p := by omega
  rw [e2] at h1
  exact h1

theorem getD_getElem {l : List Int} {i : Nat} (h : i < l.length) : l[i] = l.getD i 0 := by simp [h]

theorem ord_inverse {zs : List Int} (h : Ord zs) : Ord (invOf zs zs.length) := by
  have hl := invOf_len zs zs.length
  refine ⟨by rw [hl]; exact h.1, by rw [hl]; exact h.2.1, fun z hz => ?_, ?_⟩
  · obtain ⟨p, hp, e⟩ := List.mem_iff_getElem.1 hz
    obtain ⟨j, hj, _, e2⟩ := inv_at h (p := p) (by omega)
    rw [← e, getD_getElem hp, e2, hl]; omega
  · unfold List.Nodup
    rw [List.pairwise_iff_getElem]
    intro i j hi hj hij
    obtain ⟨a, ha, e1, e2⟩ := inv_at h (p := i) (by omega)
    obtain ⟨b, hb, e3, e4⟩ := inv_at h (p := j) (by omega)
    rw [getD_getElem hi, getD_getElem hj, e2, e4]
    intro e
    have : a = b := by omega
    subst this
    omega

theorem inverse_inverse {zs : List Int} (h : Ord zs) : invOf (invOf zs zs.length) (invOf zs zs.length).length = zs := by
  have hl := invOf_len zs zs.length
  have hi := ord_inverse h
  apply List.ext_getElem
  · rw [invOf_len, hl]
  · intro j h1 h2
    obtain ⟨m, hm, hm2⟩ := h.getD (k := j) h2
    have e1 := inv_get h zs.length (Nat.le_refl _) j h2
    rw [hm] at e1
    have e3 : ((m : Int) + 1 - 1).toNat = m := by omega
    rw [e3] at e1
    have e2 := inv_get hi (invOf zs zs.length).length (Nat.le_refl _) m (by rw [hl]; exact hm2)
    rw [e1] at e2
    have e4 : ((j : Int) + 1 - 1).toNat = j := by omega
    rw [e4] at e2
    rw [getD_getElem h1, e2, getD_getElem h2, hm]

theorem compose_inverse {zs : List Int} (h : Ord zs) : (invOf zs zs.length).map (fun y => zs.getD (y - 1).toNat 0) = iota zs.length := by
  have hl := invOf_len zs zs.length
  apply List.ext_getElem
  · rw [List.length_map, hl, iota_len]
  · intro p h1 h2
    have hp : p < zs.length := by rw [iota_len] at h2; exact h2
    obtain ⟨j, hj, e1, e2⟩ := inv_at h hp
    rw [List.getElem_map, getD_getElem (by rw [hl]; exact hp), e2, iota_at _ _ hp]
    have e3 : ((j : Int) + 1 - 1).toNat = j := by omega
    rw [e3, e1]

end Go.Proofs.Ytpkjnlabjmpokaa.OrdFacts
