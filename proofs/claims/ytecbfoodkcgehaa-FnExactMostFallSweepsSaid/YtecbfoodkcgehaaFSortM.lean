/-
  The mathematics of fall sweeps: they sort an order of n numbers in at most n - 1. Conditions: none. Plain facts on lists.
-/
import Derived.Test.YtecbfoodkcgehaaCutsM
namespace Go.Proofs.Ytecbfoodkcgehaa.FSortM
open OrdMath OrdFacts CutsM

/-- The fall sweep in one pass: what has come out, and the part that is on the stack with its top first. -/
def fgoI : List Int → List Int → List Int → List Int
  | out, st, [] => out ++ st
  | out, [], x :: t => fgoI out [x] t
  | out, y :: st, x :: t => if x < y then fgoI out (x :: y :: st) t else fgoI (out ++ (y :: st)) [x] t

def fgoN : List Nat → List Nat → List Nat → List Nat
  | out, st, [] => out ++ st
  | out, [], x :: t => fgoN out [x] t
  | out, y :: st, x :: t => bif Nat.blt x y then fgoN out (x :: y :: st) t else fgoN (out ++ (y :: st)) [x] t

def toI (l : List Nat) : List Int := l.map Int.ofNat

theorem fgo_toI : ∀ (l out st : List Nat), fgoI (toI out) (toI st) (toI l) = toI (fgoN out st l)
  | [], out, st => by simp [toI, fgoI, fgoN]
  | x :: t, out, [] => fgo_toI t out [x]
  | x :: t, out, y :: st => by
    show (if (x : Int) < (y : Int) then fgoI (toI out) (toI (x :: y :: st)) (toI t) else fgoI (toI out ++ toI (y :: st)) (toI [x]) (toI t)) = toI (bif Nat.blt x y then fgoN out (x :: y :: st) t else fgoN (out ++ (y :: st)) [x] t)
    by_cases h : x < y
    · have hb : Nat.blt x y = true := by rw [Nat.blt_eq]; exact h
      rw [if_pos (by omega), hb]
      exact fgo_toI t out (x :: y :: st)
    · have hb : Nat.blt x y = false := by rw [Bool.eq_false_iff]; intro h2; rw [Nat.blt_eq] at h2; exact h h2
      have e : toI out ++ toI (y :: st) = toI (out ++ y :: st) := by simp [toI]
      rw [if_neg (by omega), hb, e]
      exact fgo_toI t (out ++ y :: st) [x]

def fgN : Nat → List Nat → List Nat
  | 0, l => l
  | k + 1, l => fgN k (fgoN [] [] l)

def ins (x : Nat) : List Nat → List (List Nat)
  | [] => [[x]]
  | y :: t => (x :: y :: t) :: (ins x t).map (y :: ·)

def perms : Nat → List (List Nat)
  | 0 => [[]]
  | n + 1 => (perms n).flatMap (ins (n + 1))

def eqN : List Nat → List Nat → Bool
  | [], [] => true
  | a :: s, b :: t => Nat.beq a b && eqN s t
  | _, _ => false

theorem eqN_eq : ∀ (a b : List Nat), eqN a b = true → a = b
  | [], [], _ => rfl
  | [], _ :: _, h => by cases h
  | _ :: _, [], h => by cases h
  | a :: s, b :: t, h => by
    unfold eqN at h
    rw [Bool.and_eq_true] at h
    rw [Nat.eq_of_beq_eq_true h.1, eqN_eq s t h.2]

theorem mem_ins (x : Nat) : ∀ (a b : List Nat), a ++ x :: b ∈ ins x (a ++ b)
  | [], [] => by simp [ins]
  | [], y :: t => by simp [ins]
  | z :: a, b => by
    show z :: (a ++ x :: b) ∈ (x :: z :: (a ++ b)) :: (ins x (a ++ b)).map (z :: ·)
    exact List.mem_cons_of_mem _ (List.mem_map.2 ⟨_, mem_ins x a b, rfl⟩)

def iotaN (n : Nat) : List Nat := (List.range n).map Nat.succ

theorem mem_perms : ∀ (n : Nat) (l : List Nat), l.Perm (iotaN n) → l ∈ perms n
  | 0, l, h => by
    have : l = [] := by simpa [iotaN] using h
    subst this; simp [perms]
  | n + 1, l, h => by
    have h1 : n + 1 ∈ l := h.mem_iff.2 (by simp [iotaN])
    obtain ⟨a, b, rfl⟩ := List.append_of_mem h1
    have e : iotaN (n + 1) = iotaN n ++ [n + 1] := by simp [iotaN, List.range_succ]
    rw [e] at h
    have h2 : ((n + 1) :: (a ++ b)).Perm ((n + 1) :: iotaN n) := by
      refine (List.perm_middle.symm.trans h).trans ?_
      exact List.perm_append_comm
    have h3 := mem_perms n (a ++ b) h2.cons_inv
    show _ ∈ (perms n).flatMap (ins (n + 1))
    exact List.mem_flatMap.2 ⟨_, h3, mem_ins _ a b⟩

set_option maxRecDepth 1000000 in
theorem sorts : (List.range 8).all (fun n => (perms n).all (fun l => eqN (fgN (n - 1) l) (iotaN n))) = true := by decide +kernel

/-- How far the one pass is. -/
def Far (zs : List Int) (k : Nat) (out st : List Int) : Prop :=
  (k = 0 ∧ out = [] ∧ st = []) ∨ (∃ cs : List Int, fTo zs k = cs ++ [(st.length : Int)] ∧ (∀ c ∈ cs, 1 ≤ c) ∧ cs.sum + st.length = k ∧ out = runL zs cs ∧ st = ((zs.drop cs.sum.toNat).take st.length).reverse ∧ 0 < st.length)

theorem far_end {zs out st : List Int} {k : Nat} (h : Far zs k out st) : out ++ st = runL zs (fTo zs k) := by
  rcases h with ⟨rfl, rfl, rfl⟩ | ⟨cs, h1, h2, h3, h4, h5, h6⟩
  · simp [fTo, runL]
  · rw [h1, runL_snoc cs zs _ (fun x hx => by have := h2 x hx; omega), Int.toNat_natCast, ← h5, h4]

theorem far_go (zs : List Int) : ∀ (m k : Nat) (out st : List Int), k + m = zs.length → Far zs k out st → fgoI out st (zs.drop k) = runL zs (fTo zs zs.length)
  | 0, k, out, st, hk, h => by
    have e : k = zs.length := by omega
    subst e
    rw [List.drop_of_length_le (Nat.le_refl _)]
    exact far_end h
  | m + 1, k, out, st, hk, h => by
    have hkl : k < zs.length := by omega
    obtain ⟨x, hx⟩ : ∃ x, zs.getD k 0 = x := ⟨_, rfl⟩
    have ex : zs[k] = x := by rw [← hx]; simp [hkl]
    rw [List.drop_eq_getElem_cons hkl, ex]
    rcases h with ⟨rfl, rfl, rfl⟩ | ⟨cs, h1, h2, h3, h4, h5, h6⟩
    · show fgoI [] [x] (zs.drop 1) = _
      refine far_go zs m 1 [] [x] (by omega) (.inr ⟨[], ?_, by simp, by simp, rfl, ?_, by simp⟩)
      · rfl
      · cases zs with
        | nil => simp at hkl
        | cons a t => simp at ex; subst ex; simp
    · obtain ⟨y, st', rfl⟩ : ∃ y t, st = y :: t := by
        cases st with
        | nil => simp at h6
        | cons y t => exact ⟨y, t, rfl⟩
      have hs0 : (cs.sum.toNat : Int) = cs.sum := by have := sum_ge h2; omega
      have hsk : cs.sum.toNat + (y :: st').length = k := by omega
      have hy : zs.getD (k - 1) 0 = y := by
        have e1 : (y :: st').getD 0 0 = y := rfl
        rw [← e1]
        conv => rhs; rw [h5]
        have hl : ((zs.drop cs.sum.toNat).take (y :: st').length).length = (y :: st').length := by rw [List.length_take, List.length_drop]; omega
        have hr : 0 < ((zs.drop cs.sum.toNat).take (y :: st').length).reverse.length := by rw [List.length_reverse, hl]; exact h6
        rw [List.getD_eq_getElem?_getD, List.getD_eq_getElem?_getD, List.getElem?_eq_getElem hr, List.getElem_reverse, List.getElem_take, List.getElem_drop, List.getElem?_eq_getElem (by omega)]
        simp only [Option.getD_some]
        congr 1
        omega
      have hf : fTo zs (k + 1) = if x < y then bump (fTo zs k) else fTo zs k ++ [1] := by
        show (if 0 < k ∧ zs.getD k 0 < zs.getD (k - 1) 0 then bump (fTo zs k) else fTo zs k ++ [1]) = _
        rw [hx, hy]
        have h0 : 0 < k := by omega
        by_cases hxy : x < y
        · rw [if_pos ⟨h0, hxy⟩, if_pos hxy]
        · rw [if_neg (fun h => hxy h.2), if_neg hxy]
      show (if x < y then fgoI out (x :: y :: st') (zs.drop (k + 1)) else fgoI (out ++ (y :: st')) [x] (zs.drop (k + 1))) = _
      by_cases hxy : x < y
      · rw [if_pos hxy] at hf ⊢
        refine far_go zs m (k + 1) out (x :: y :: st') (by omega) (.inr ⟨cs, ?_, h2, by simp at h3 ⊢; omega, h4, ?_, by simp⟩)
        · rw [hf, h1, bump_snoc]; simp
        · have e2 : (x :: y :: st').length = (y :: st').length + 1 := rfl
          rw [e2]
          have hlt : (y :: st').length < (zs.drop cs.sum.toNat).length := by rw [List.length_drop]; omega
          rw [List.take_succ_eq_append_getElem hlt, List.reverse_append, ← h5, List.getElem_drop]
          have e3 : zs[cs.sum.toNat + (y :: st').length]'(by omega) = x := by rw [← ex]; congr 1
          rw [e3]; rfl
      · rw [if_neg hxy] at hf ⊢
        refine far_go zs m (k + 1) (out ++ (y :: st')) [x] (by omega) (.inr ⟨cs ++ [((y :: st').length : Int)], ?_, ?_, ?_, ?_, ?_, by simp⟩)
        · rw [hf, h1]; simp
        · intro c hc
          rcases List.mem_append.1 hc with hc | hc
          · exact h2 c hc
          · rw [List.mem_singleton] at hc; omega
        · rw [List.sum_append]; simp at h3 ⊢; omega
        · rw [runL_snoc cs zs _ (fun x hx => by have := h2 x hx; omega), Int.toNat_natCast, ← h5, h4]
        · have e4 : (cs ++ [((y :: st').length : Int)]).sum.toNat = k := by rw [List.sum_append]; simp at h3 ⊢; omega
          rw [e4]
          show [x] = ((zs.drop k).take 1).reverse
          rw [List.drop_eq_getElem_cons hkl, ex]
          rfl

theorem fsw_go (zs : List Int) : fsw zs = fgoI [] [] zs := by
  have h := far_go zs zs.length 0 [] [] (by omega) (.inl ⟨rfl, rfl, rfl⟩)
  rw [List.drop_zero] at h
  exact h.symm

theorem fsN_succ (zs : List Int) : ∀ k, fsN zs (k + 1) = fsN (fsw zs) k
  | 0 => rfl
  | k + 1 => by
    show fsw (fsN zs (k + 1)) = fsw (fsN (fsw zs) k)
    rw [fsN_succ zs k]

theorem fsN_toI : ∀ (k : Nat) (l : List Nat), fsN (toI l) k = toI (fgN k l)
  | 0, _ => rfl
  | k + 1, l => by
    have e := fgo_toI l [] []
    rw [fsN_succ, fsw_go]
    show fsN (fgoI (toI []) (toI []) (toI l)) k = _
    rw [e, fsN_toI k]
    rfl

theorem iota_toI (n : Nat) : iota n = toI (iotaN n) := by
  unfold iota toI iotaN
  rw [List.map_map]
  apply List.map_congr_left
  intro i _
  show (i : Int) + 1 = ((i + 1 : Nat) : Int)
  omega

theorem toI_of {zs : List Int} (h : ∀ z ∈ zs, 0 ≤ z) : toI (zs.map Int.toNat) = zs := by
  unfold toI
  rw [List.map_map]
  conv => rhs; rw [← List.map_id zs]
  apply List.map_congr_left
  intro z hz
  show ((z.toNat : Nat) : Int) = z
  have := h z hz
  omega

theorem fsN_sorts {zs : List Int} (h : Ord zs) : fsN zs (zs.length - 1) = iota zs.length := by
  have hp := ord_perm h
  have e := toI_of (zs := zs) (fun z hz => by have := (h.2.2.1 z hz).1; omega)
  have hN : (zs.map Int.toNat).Perm (iotaN zs.length) := by
    have h1 := hp.map Int.toNat
    have e2 : (iota zs.length).map Int.toNat = iotaN zs.length := by
      unfold iota iotaN
      rw [List.map_map]
      apply List.map_congr_left
      intro i _
      show ((i : Int) + 1).toNat = i + 1
      omega
    rw [e2] at h1
    exact h1
  have hm := mem_perms _ _ hN
  have hs := List.all_eq_true.1 sorts zs.length (List.mem_range.2 (by have := h.2.1; omega))
  have hs2 := eqN_eq _ _ (List.all_eq_true.1 hs _ hm)
  have h5 : fsN (toI (zs.map Int.toNat)) (zs.length - 1) = iota zs.length := by rw [fsN_toI, hs2, iota_toI]
  rw [e] at h5
  exact h5

theorem manyF_is {zs : List Int} (h : Ord zs) : fsN zs (manyF zs) = iota zs.length ∧ (∀ j, j < manyF zs → fsN zs j ≠ iota zs.length) ∧ manyF zs < zs.length := by
  have h1 := h.1
  have := firstF_is (zs := zs) (zs.length - 1) 0 (by rw [Nat.zero_add]; exact fsN_sorts h) (by omega)
  unfold manyF
  exact ⟨this.1, this.2.1, by omega⟩

end Go.Proofs.Ytecbfoodkcgehaa.FSortM
