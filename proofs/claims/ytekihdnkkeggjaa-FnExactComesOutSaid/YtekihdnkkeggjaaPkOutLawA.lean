/-
  Contracts and plain facts that the law's text leans on, part 1 of 2. Conditions: as each states.
-/
import Derived.Test.YtekihdnkkeggjaaOrdFacts
import Derived.Test.YtekihdnkkeggjaaDropMath
import Derived.Test.YtekihdnkkeggjaaListsB
import Derived.Test.YtekihdnkkeggjaaPubB
import Derived.Test.YtekihdnkkeggjaaRange
import Derived.Test.YtekihdnkkeggjaaOrderAt
import Derived.Test.YtekihdnkkeggjaaUse
import Derived.Deep.RegionHeld3
import Derived.Deep.RegionLawGrows
import Derived.Laws.EntriesVeiled
import Derived.Test.YtekihdnkkeggjaaCanS
import Derived.WalkMore
import Derived.Test.YtekihdnkkeggjaaPatMath
import Derived.Test.YtekihdnkkeggjaaSpecPl
import Derived.WalkKit
import Derived.Deep.MidRow
import Derived.Deep.WholeRow
import Derived.Test.YtekihdnkkeggjaaMinMax
import Derived.Test.YtekihdnkkeggjaaOrder
import Derived.Test.YtekihdnkkeggjaaIn
import Derived.Test.YtekihdnkkeggjaaShelf
import Derived.Test.YtekihdnkkeggjaaStep
import Derived.Test.YtekihdnkkeggjaaAppendTwo

/-
  The mathematics of orders that avoid patterns: those made by insertion are those of all orders; the least one is the first. Conditions: none. Plain facts: nothing of the program.
-/
namespace Go.Proofs.Ytekihdnkkeggjaa.AvMath
open OrdMath OrdFacts PatMath DropMath InsertC CmpC ListsBC AvoidC PubBC

theorem up_lt {k a b : Int} : up k a < up k b ↔ a < b := by unfold up; split <;> split <;> omega
theorem up_inj {k a b : Int} (h : up k a = up k b) : a = b := by unfold up at h; split at h <;> split at h <;> omega

theorem alike_up (k : Int) (ys : List Int) : PatMath.Alike (ys.map (up k)) ys := by
  refine ⟨by simp, fun i j hi hj => ?_⟩
  have hi2 : i < ys.length := by simpa using hi
  have hj2 : j < ys.length := by simpa using hj
  rw [up_at hi2 rfl, up_at hj2 rfl]
  exact up_lt

theorem pick_ins {x : List Int} {k : Int} {q : List Nat} (hq : ∀ p ∈ q, p < x.length) : pick (ins x k) q = (pick x q).map (up k) := by
  unfold pick
  rw [List.map_map]
  apply List.map_congr_left
  intro p hp
  have h := hq p hp
  show (ins x k).getD p 0 = up k (x.getD p 0)
  rw [ins_up, List.getD_eq_getElem?_getD, List.getElem?_append_left (by simpa using h), ← List.getD_eq_getElem?_getD, up_at h rfl]

theorem has_ins {x p : List Int} {k : Int} (h : has x p = true) : has (ins x k) p = true := by
  obtain ⟨q, hq, e⟩ := has_iff.1 h
  have ha := ch_asc _ _ (asc_nil _) q hq
  have hl := (ch_pre _ _ q hq).1
  have hm : q ∈ ch (ins x k).length p.length [] := by
    have h1 := mem_ch (n := (ins x k).length) p.length [] q ⟨ha.1, fun y hy => by rw [ins_len]; exact Nat.lt_succ_of_lt (ha.2 y hy)⟩ (by simpa using hl)
    exact h1
  refine has_iff.2 ⟨q, hm, ?_⟩
  rw [pick_ins ha.2, alike_shp (alike_up k _), e]

theorem avoids_ins {x : List Int} {k : Int} {L : List (List Int)} (h : avoids (ins x k) L = true) : avoids x L = true := by
  unfold avoids at *
  rw [List.all_eq_true] at *
  intro p hp
  have h1 := h p hp
  cases hx : has x p with
  | false => rfl
  | true => rw [has_ins hx] at h1; exact h1

/-- A list of the numbers 1 to n. -/
def OrdN (n : Nat) (zs : List Int) : Prop := zs.length = n ∧ (∀ z ∈ zs, 1 ≤ z ∧ z ≤ (n : Int)) ∧ zs.Nodup

theorem OrdN.ord {n : Nat} {zs : List Int} (h : OrdN n zs) (h1 : 1 ≤ n) (h7 : n ≤ 7) : Ord zs :=
  ⟨by rw [h.1]; exact h1, by rw [h.1]; exact h7, fun z hz => by rw [h.1]; exact h.2.1 z hz, h.2.2⟩

theorem ordN_of {zs : List Int} (h : Ord zs) : OrdN zs.length zs := ⟨rfl, h.2.2.1, h.2.2.2⟩

theorem ins_ordN {n : Nat} {x : List Int} {k : Int} (h : OrdN n x) (h1 : 1 ≤ k) (h2 : k ≤ (n : Int) + 1) : OrdN (n + 1) (ins x k) := by
  refine ⟨by rw [ins_len, h.1], fun z hz => ?_, ins_nodup h.2.2 k⟩
  unfold ins at hz
  rw [List.mem_append] at hz
  rcases hz with hz | hz
  · obtain ⟨y, hy, rfl⟩ := List.mem_map.1 hz
    have := h.2.1 y hy
    split <;> omega
  · simp at hz
    omega

def down (k z : Int) : Int := if k < z then z - 1 else z

theorem up_down {k z : Int} (h : z ≠ k) : up k (down k z) = z := by unfold up down; split <;> split <;> omega

theorem ordN_last {n : Nat} {zs : List Int} (h : OrdN (n + 1) zs) : ∃ x k, zs = ins x k ∧ OrdN n x ∧ 1 ≤ k ∧ k ≤ (n : Int) + 1 := by
  obtain ⟨hl, hr, hn⟩ := h
  have hne : zs ≠ [] := fun e => by rw [e] at hl; simp at hl
  obtain ⟨y, k, rfl⟩ : ∃ y k, zs = y ++ [k] := ⟨zs.dropLast, zs.getLast hne, (List.dropLast_concat_getLast hne).symm⟩
  have hyl : y.length = n := by simpa using hl
  rw [List.nodup_append] at hn
  have hk := hr k (by simp)
  have hyk : ∀ z ∈ y, z ≠ k := fun z hz e => hn.2.2 z hz k (by simp) e
  have e1 : (y.map (down k)).map (up k) = y := by
    rw [List.map_map]
    conv => rhs; rw [← List.map_id y]
    exact List.map_congr_left (fun z hz => up_down (hyk z hz))
  refine ⟨y.map (down k), k, by rw [ins_up, e1], ⟨by simp [hyl], fun z hz => ?_, ?_⟩, hk.1, by omega⟩
  · obtain ⟨a, ha, rfl⟩ := List.mem_map.1 hz
    have h1 := hr a (by simp [ha])
    have h2 := hyk a ha
    unfold down
    split <;> omega
  · have h3 : ((y.map (down k)).map (up k)).Nodup := by rw [e1]; exact hn.1
    exact List.Pairwise.of_map (up k) (fun a b hab e => hab (by rw [e])) h3

theorem ins_inj {x y : List Int} {k l : Int} (h : ins x k = ins y l) : x = y ∧ k = l := by
  rw [ins_up, ins_up] at h
  have h2 := List.append_inj' h rfl
  have e : k = l := by simpa using h2.2
  subst e
  exact ⟨(List.map_inj_right (fun a b hab => up_inj hab)).1 h2.1, rfl⟩

/-- Those that an order has one number more. -/
def chil (L : List (List Int)) (i : Nat) (x : List Int) : List (List Int) := ((List.range (i + 1)).map (fun (k : Nat) => ins x ((k : Int) + 1))).filter (fun y => avoids y L)

def av (L : List (List Int)) : Nat → List (List Int)
  | 0 => [[]]
  | i + 1 => (av L i).flatMap (chil L i)

theorem mem_av {L : List (List Int)} : ∀ {n : Nat} {zs : List Int}, zs ∈ av L n ↔ OrdN n zs ∧ (n = 0 ∨ avoids zs L = true) := by
  intro n
  induction n with
  | zero =>
    intro zs
    constructor
    · intro h
      have e : zs = [] := by simpa [av] using h
      subst e
      exact ⟨⟨rfl, by simp, by simp⟩, .inl rfl⟩
    · rintro ⟨⟨h, _⟩, _⟩
      have e : zs = [] := List.eq_nil_of_length_eq_zero h
      simp [av, e]
  | succ n ih =>
    intro zs
    show zs ∈ (av L n).flatMap (chil L n) ↔ _
    rw [List.mem_flatMap]
    constructor
    · rintro ⟨x, hx, hz⟩
      unfold chil at hz
      rw [List.mem_filter] at hz
      obtain ⟨k, hk, rfl⟩ := List.mem_map.1 hz.1
      rw [List.mem_range] at hk
      exact ⟨ins_ordN (ih.1 hx).1 (by omega) (by omega), .inr hz.2⟩
    · rintro ⟨ho, ha⟩
      obtain ⟨x, k, rfl, hx, h1, h2⟩ := ordN_last ho
      have ha2 : avoids (ins x k) L = true := by
        rcases ha with h | h
        · omega
        · exact h
      refine ⟨x, ih.2 ⟨hx, .inr (avoids_ins ha2)⟩, ?_⟩
      unfold chil
      rw [List.mem_filter]
      refine ⟨List.mem_map.2 ⟨(k - 1).toNat, by rw [List.mem_range]; omega, ?_⟩, ha2⟩
      congr 1
      omega

theorem nodup_av (L : List (List Int)) : ∀ n, (av L n).Nodup := by
  intro n
  induction n with
  | zero => simp [av]
  | succ n ih =>
    show ((av L n).flatMap (chil L n)).Pairwise (· ≠ ·)
    rw [List.pairwise_flatMap]
    constructor
    · intro x _
      unfold chil
      apply List.Pairwise.filter
      rw [List.pairwise_map]
      refine List.Pairwise.imp ?_ (List.nodup_iff_pairwise_ne.1 (List.nodup_range (n := n + 1)))
      intro a b hab e
      have := (ins_inj e).2
      omega
    · refine List.Pairwise.imp ?_ (List.nodup_iff_pairwise_ne.1 ih)
      intro x y hxy u hu v hv e
      unfold chil at hu hv
      rw [List.mem_filter] at hu hv
      obtain ⟨k, _, rfl⟩ := List.mem_map.1 hu.1
      obtain ⟨l, _, rfl⟩ := List.mem_map.1 hv.1
      exact hxy (ins_inj e).1

/-! ### All orders -/
def allOrd (n : Nat) : List (List Int) := (List.range (fact n)).map (fun k => atRun n (iota n) k)

theorem mem_allOrd {n : Nat} {zs : List Int} (h1 : 1 ≤ n) (h7 : n ≤ 7) : zs ∈ allOrd n ↔ OrdN n zs := by
  unfold allOrd
  rw [List.mem_map]
  constructor
  · rintro ⟨k, hk, rfl⟩
    rw [List.mem_range] at hk
    have h := (rank_of_at h1 h7 hk).1
    have hl := atRun_len n (iota n) k
    have h2 := ordN_of h
    rw [hl] at h2
    exact h2
  · intro h
    have h2 := at_of_rank (h.ord h1 h7)
    rw [h.1] at h2
    exact ⟨_, List.mem_range.2 h2.1, h2.2⟩

theorem allOrd_ranks (n : Nat) : (allOrd n).Pairwise (fun a b => rankR a < rankR b) := by
  unfold allOrd
  rw [List.pairwise_map, List.pairwise_iff_getElem]
  intro i j hi hj hij
  have hi2 : i < fact n := by simpa using hi
  have hj2 : j < fact n := by simpa using hj
  rw [List.getElem_range, List.getElem_range, (rank_at n (iota n) i (iota_len n) (iota_sorted n) hi2).2, (rank_at n (iota n) j (iota_len n) (iota_sorted n) hj2).2]
  exact hij

def avOrd (n : Nat) (L : List (List Int)) : List (List Int) := (allOrd n).filter (fun y => avoids y L)

theorem mem_avOrd {n : Nat} {L : List (List Int)} {zs : List Int} (h1 : 1 ≤ n) (h7 : n ≤ 7) : zs ∈ avOrd n L ↔ zs ∈ av L n := by
  unfold avOrd
  rw [List.mem_filter, mem_allOrd h1 h7, mem_av]
  constructor
  · rintro ⟨a, b⟩; exact ⟨a, .inr b⟩
  · rintro ⟨a, b⟩
    refine ⟨a, ?_⟩
    rcases b with b | b
    · omega
    · exact b

theorem avOrd_ranks (n : Nat) (L : List (List Int)) : (avOrd n L).Pairwise (fun a b => rankR a < rankR b) := (allOrd_ranks n).filter _

theorem nodup_sub : ∀ {l m : List (List Int)}, l.Nodup → (∀ x ∈ l, x ∈ m) → l.length ≤ m.length
  | [], m, _, _ => by simp
  | a :: l, m, hn, hs => by
    have ha : a ∈ m := hs a (by simp)
    have hn2 := List.nodup_cons.1 hn
    have ih := nodup_sub (l := l) (m := m.erase a) hn2.2 (fun x hx => (List.mem_erase_of_ne (fun e => hn2.1 (by rw [← e]; exact hx))).2 (hs x (by simp [hx])))
    have h2 := List.length_erase_of_mem ha
    have h3 : 0 < m.length := List.length_pos_of_mem ha
    simp only [List.length_cons]
    omega

theorem av_count {n : Nat} {L : List (List Int)} (h1 : 1 ≤ n) (h7 : n ≤ 7) : (av L n).length = (avOrd n L).length := by
  have hn : (avOrd n L).Nodup := by
    refine List.Pairwise.imp ?_ (avOrd_ranks n L)
    intro a b h e
    rw [e] at h
    omega
  exact Nat.le_antisymm (nodup_sub (nodup_av L n) (fun x hx => (mem_avOrd h1 h7).2 hx)) (nodup_sub hn (fun x hx => (mem_avOrd h1 h7).1 hx))

theorem allOrd_len (n : Nat) : (allOrd n).length = fact n := by simp [allOrd]

theorem av_many {n : Nat} {L : List (List Int)} (h7 : n ≤ 7) : (av L n).length ≤ 5040 := by
  by_cases h1 : 1 ≤ n
  · rw [av_count h1 h7]
    exact Nat.le_trans (List.length_filter_le _ _) (by rw [allOrd_len]; exact fact_7 h7)
  · have : n = 0 := by omega
    subst this
    simp [av]

def countAvAns (n : Int) (L : List (List Int)) : Int × Bool := if 1 ≤ n ∧ n ≤ 7 ∧ pats L = true then (((avOrd n.toNat L).length : Nat), true) else (0, false)

/-! ### The first one -/
theorem rank_mono : ∀ (a b left : List Int), left.Pairwise (· < ·) → a.Perm left → b.Perm left → cmpL a b < 0 → rankR a < rankR b
  | [], b, left, _, ha, hb, h => by
    have : left = [] := by simpa using ha.symm
    subst this
    have : b = [] := by simpa using hb
    subst this
    exact absurd h (by simp [cmpL])
  | x :: a, [], left, _, ha, hb, _ => by
    have : left = [] := by simpa using hb.symm
    subst this
    exact absurd ha (by simp)
  | x :: a, y :: b, left, hp, ha, hb, h => by
    have hca : cl x a = cl x left := by rw [← cl_perm ha, cl_self]
    have hcb : cl y b = cl y left := by rw [← cl_perm hb, cl_self]
    have hlen : a.length = b.length := by have := ha.length_eq; have := hb.length_eq; simp at *; omega
    show cl x a * fact a.length + rankR a < cl y b * fact b.length + rankR b
    rw [hca, hcb, ← hlen]
    have hra := rankR_lt a
    unfold cmpL at h
    by_cases hxy : x < y
    · have hc : cl x left < cl y left := cl_lt_of_lt hxy (ha.mem_iff.1 (by simp))
      have h1 : (cl x left + 1) * fact a.length ≤ cl y left * fact a.length := Nat.mul_le_mul_right _ hc
      rw [Nat.add_mul] at h1
      omega
    · rw [if_neg hxy] at h
      by_cases hyx : y < x
      · rw [if_pos hyx] at h
        exact absurd h (by decide)
      · rw [if_neg hyx] at h
        have e : x = y := by omega
        subst e
        have h1 := sorted_at left x hp (ha.mem_iff.1 (by simp))
        have he := erase_perm h1.2
        rw [h1.1] at he
        have pa : a.Perm (left.eraseIdx (cl x left)) := (ha.trans he.symm).cons_inv
        have pb : b.Perm (left.eraseIdx (cl x left)) := (hb.trans he.symm).cons_inv
        have ih := rank_mono a b _ (hp.sublist (List.eraseIdx_sublist left _)) pa pb h
        omega

/-- The least of a list, from one on. -/
def least : List (List Int) → List Int → List Int
  | [], b => b
  | x :: t, b => least t (if cmpL x b < 0 then x else b)

theorem least_mem : ∀ (t : List (List Int)) (b : List Int), least t b = b ∨ least t b ∈ t
  | [], b => .inl rfl
  | x :: t, b => by
    unfold least
    rcases least_mem t (if cmpL x b < 0 then x else b) with h | h
    · rw [h]
      split
      · exact .inr (by simp)
      · exact .inl rfl
    · exact .inr (List.mem_cons_of_mem _ h)

theorem cmpL_ge_trans {a b c : List Int} (h1 : ¬ cmpL a b < 0) (h2 : ¬ cmpL b c < 0) : ¬ cmpL a c < 0 := by
  intro h
  have n1 := cmpL_neg a b
  have n2 := cmpL_neg b c
  by_cases e1 : cmpL a b = 0
  · have := cmpL_eq _ _ e1; subst this; exact h2 h
  by_cases e2 : cmpL b c = 0
  · have := cmpL_eq _ _ e2; subst this; exact h1 h
  have h3 := cmpL_lt_trans c b a (by omega) (by omega)
  have n3 := cmpL_neg a c
  omega

theorem least_min : ∀ (t : List (List Int)) (b : List Int), ∀ x ∈ b :: t, ¬ cmpL x (least t b) < 0
  | [], b, x, hx => by
    have : x = b := by simpa using hx
    subst this
    show ¬ cmpL x x < 0
    rw [cmpL_same]
    decide
  | y :: t, b, x, hx => by
    have ih := least_min t (if cmpL y b < 0 then y else b)
    show ¬ cmpL x (least t (if cmpL y b < 0 then y else b)) < 0
    have hm := ih (if cmpL y b < 0 then y else b) (by simp)
    rcases List.mem_cons.1 hx with rfl | hx
    · refine cmpL_ge_trans ?_ hm
      split
      · rename_i h
        intro h2
        have := cmpL_neg x y
        omega
      · rw [cmpL_same]; decide
    · rcases List.mem_cons.1 hx with rfl | hx
      · refine cmpL_ge_trans ?_ hm
        split
        · rw [cmpL_same]; decide
        · assumption
      · exact ih x (by simp [hx])

theorem ordN_perm {n : Nat} {zs : List Int} (h : OrdN n zs) : zs.Perm (iota n) :=
  perm_of_sub _ _ h.2.2 (fun x hx => mem_iota.2 (h.2.1 x hx)) (by rw [iota_len, h.1]; exact Nat.le_refl _)

theorem least_first {n : Nat} {L : List (List Int)} {h : List Int} {t : List (List Int)} (h1 : 1 ≤ n) (h7 : n ≤ 7) (hav : av L n = h :: t) : ∃ t', avOrd n L = least t h :: t' := by
  have hmem : least t h ∈ av L n := by
    rw [hav]
    rcases least_mem t h with e | e
    · rw [e]; simp
    · exact List.mem_cons_of_mem _ e
  have hm2 := (mem_avOrd h1 h7).2 hmem
  cases hao : avOrd n L with
  | nil => rw [hao] at hm2; simp at hm2
  | cons f t' =>
    refine ⟨t', ?_⟩
    have hf : f ∈ av L n := (mem_avOrd h1 h7).1 (by rw [hao]; simp)
    have hmin := least_min t h f (by rw [← hav]; exact hf)
    by_cases e : f = least t h
    · rw [e]
    · exfalso
      rw [hao] at hm2
      rcases List.mem_cons.1 hm2 with e2 | hin
      · exact e e2.symm
      · have hr := avOrd_ranks n L
        rw [hao, List.pairwise_cons] at hr
        have hlt := hr.1 _ hin
        by_cases hc : cmpL (least t h) f < 0
        · have := rank_mono _ _ (iota n) (iota_sorted n) (ordN_perm (mem_av.1 hmem).1) (ordN_perm (mem_av.1 hf).1) hc
          omega
        · have n1 := cmpL_neg f (least t h)
          have : cmpL f (least t h) = 0 := by omega
          exact e (cmpL_eq _ _ this)

theorem av_nil {n : Nat} {L : List (List Int)} (h1 : 1 ≤ n) (h7 : n ≤ 7) : av L n = [] ↔ avOrd n L = [] := by
  rw [← List.length_eq_zero_iff, av_count h1 h7, List.length_eq_zero_iff]

def firstAvAns (n : Int) (L : List (List Int)) : List Int × Bool := if 1 ≤ n ∧ n ≤ 7 ∧ pats L = true ∧ avOrd n.toNat L ≠ [] then ((avOrd n.toNat L).headD [], true) else ([], false)

theorem avOrd_len {n : Nat} {L : List (List Int)} {zs : List Int} (h : zs ∈ avOrd n L) : zs.length = n := by
  unfold avOrd allOrd at h
  rw [List.mem_filter] at h
  obtain ⟨k, _, rfl⟩ := List.mem_map.1 h.1
  exact atRun_len _ _ _

theorem firstAv_len {n : Int} {L : List (List Int)} {xs : List Int} {b : Bool} (h : firstAvAns n L = (xs, b)) : xs.length ≤ 1048576 := by
  unfold firstAvAns at h
  split at h
  · rename_i hc
    cases h
    obtain ⟨f, t, e⟩ := List.exists_cons_of_ne_nil hc.2.2.2
    rw [e]
    have := avOrd_len (n := n.toNat) (L := L) (zs := f) (by rw [e]; simp)
    show f.length ≤ 1048576
    omega
  · cases h
    simp

/-! ### The most places -/
def mostTo (n : Nat) (p : List Int) : Nat → List Int × Int
  | 0 => ([], -1)
  | k + 1 => if (mostTo n p k).2 < ((placesOf (atRun n (iota n) k) p).length : Int) then (atRun n (iota n) k, ((placesOf (atRun n (iota n) k) p).length : Int)) else mostTo n p k

def mostAns (n : Int) (p : List Int) : List Int × Int × Bool := if 1 ≤ n ∧ n ≤ 7 ∧ Ord p then ((mostTo n.toNat p (fact n.toNat)).1, (mostTo n.toNat p (fact n.toNat)).2, true) else ([], 0, false)

theorem mostTo_len (n : Nat) (p : List Int) : ∀ k, (mostTo n p k).1.length ≤ n := by
  intro k
  induction k with
  | zero => simp [mostTo]
  | succ k ih =>
    unfold mostTo
    split
    · rw [atRun_len]; exact Nat.le_refl _
    · exact ih

theorem most_len {n : Int} {p xs : List Int} {m : Int} {b : Bool} (h : mostAns n p = (xs, m, b)) : xs.length ≤ 1048576 := by
  unfold mostAns at h
  split at h
  · cases h
    have := mostTo_len n.toNat p (fact n.toNat)
    omega
  · cases h
    simp

end Go.Proofs.Ytekihdnkkeggjaa.AvMath

/-
  Contract: the program's range over all orders of n numbers hands on each of them once, in ascending order of their ranks, in memory of its own. Conditions: 1 to 7 numbers.
-/
namespace Go.Proofs.Ytekihdnkkeggjaa.OrdersIterC
open Go.RowKit Go.Shelf SeesC IntsC ExactC OrdMath OrdFacts RankC OrderAtC AvMath RangeC

attribute [local go_sem] Oper.semAt_some

def Keep1 (a : Nat) (X Y : World) : Prop := Y.heap[a]? = X.heap[a]? ∧ X.heap.size ≤ Y.heap.size

theorem Keep1.trans {a : Nat} {A B C : World} (h : Keep1 a A B) (k : Keep1 a B C) : Keep1 a A C := ⟨Eq.trans k.1 h.1, Nat.le_trans h.2 k.2⟩
theorem Keep1.cell {a : Nat} {A B : World} (h : Keep1 a A B) : B.cell? ⟨a, 0, none⟩ = A.cell? ⟨a, 0, none⟩ := World.cell?_of_block h.1

/-- An order that is handed on: its numbers, and the slice. -/
abbrev El : Type := List Int × Value

def GivenOrd (B m : Nat) (x : El) (W : World) : Prop := (x.1.length = m ∧ Ord x.1) ∧ W.ownsRow B 3 1 x.2 m (vals x.1)

theorem small_wf {n : Nat} (h : n ≤ 5040) : (Lit.int .i64 (n : Int)).wf = true := by
  have e1 : IntKind.i64.min = -9223372036854775808 := rfl
  have e2 : IntKind.i64.max = 9223372036854775807 := rfl
  simp [Lit.wf, e1, e2]
  omega

theorem all_take {m k : Nat} (hk : k < fact m) : (allOrd m).take (k + 1) = (allOrd m).take k ++ [atRun m (iota m) k] := by
  rw [List.take_succ_eq_append_getElem (by rw [allOrd_len]; exact hk)]
  congr 1
  simp [allOrd]

set_option maxRecDepth 100000 in
set_option maxHeartbeats 2000000 in
theorem orders_hands (n Bn B m : Nat) (hn : 1 ≤ n) (hm1 : 1 ≤ m) (hm7 : m ≤ 7) (w : World) (hlt : Bn < w.heap.size) (hB : B ≤ w.heap.size) (hBn : w.cell? ⟨Bn, 0, none⟩ = some (.int .i64 (m : Int))) :
    Hands (α := El) Fence.wide n Try.prog 99 #[.pointer (some ⟨Bn, 0, none⟩)] (fun x => #[x.2]) (GivenOrd B m) (Keep1 Bn) (fun xs => xs.map (·.1) = allOrd m) (fun so => ∃ k, k < fact m ∧ so.map (·.1) = (allOrd m).take (k + 1)) (fact m) w := by
  intro l J Jx W hW hJ hY h0
  have hcell : W.cell? ⟨Bn, 0, none⟩ = some (.int .i64 (m : Int)) := (hW.cell (p := ⟨Bn, 0, none⟩) hlt).trans hBn
  have hBW : B ≤ W.heap.size := Nat.le_trans hB hW.size
  have hBnW : Bn < W.heap.size := Nat.lt_of_lt_of_le hlt hW.size
  have HY := Go.Lib.hid hY
  have HJ := Go.Lib.hid hJ
  have HF := Go.Lib.hid (And.intro (fact_pos m) (fact_7 hm7))
  have CO := Go.Lib.hid (fun W' => countOrders_any m W' hm7)
  obtain ⟨f, hf⟩ : ∃ f, fact m = f := ⟨_, rfl⟩
  have HFF := Go.Lib.hid hf
  have hf1 : 1 ≤ f := by rw [← hf]; exact HF.out.1
  have hf2 : f ≤ 5040 := by rw [← hf]; exact HF.out.2
  rw [hf] at CO
  clear hf hY hJ hBn hlt hB hW
  refine callsIn_of_wp Try.func99 rfl trivial ?_ rfl
  simp only [Try.ntmps99, List.size_toArray, List.length_cons, List.length_nil, Nat.reduceAdd, Nat.reduceSub, Array.replicate_succ, Array.replicate_zero, List.push_toArray, List.append_toArray, List.nil_append, List.cons_append]
  gi_wp2_with (refine ⟨trivial, ?_⟩; gi_at_call 100; refine (callsIn_wide.2 (CO.out _)).mono ?_; rintro e _ ⟨rfl, rfl⟩)
  gi_loopw [8] (fun kv wr => ∃ (k : Nat) (so : List El), k ≤ f ∧ kv = .int .i64 k ∧ wr.cell? ⟨Bn, 0, none⟩ = some (.int .i64 (m : Int)) ∧ Hid (J so wr ∧ so.map (·.1) = (allOrd m).take k ∧ W.heap.size ≤ wr.heap.size)) (fun kv _ => f - (intOf kv).toNat)
  case atStart => exact ⟨0, [], Nat.zero_le _, rfl, hcell, Go.Lib.hid ⟨h0, rfl, Nat.le_refl _⟩⟩
  case round =>
    obtain ⟨k, so, hk, rfl, hc, HS⟩ := hrel
    clear hcell h0
    by_cases hlt : k < f
    · have hkf : k < fact m := by rw [HFF.out]; exact hlt
      have hat : atAns (m : Int) (k : Int) = (atRun m (iota m) k, true) := by
        unfold atAns
        rw [if_pos ⟨by omega, by omega, by omega, by rw [Int.toNat_natCast]; exact Int.ofNat_lt.2 hkf⟩, Int.toNat_natCast, Int.toNat_natCast]
      have CA := Go.Lib.hid (implAt (m : Int) (k : Int) _ _ hat (small_wf (by omega)) (small_wf (by omega)) wr)
      have hln := atRun_len m (iota m) k
      have HO := Go.Lib.hid (rank_of_at hm1 hm7 hkf).1
      have HT := Go.Lib.hid (all_take hkf)
      obtain ⟨xs, hxs⟩ : ∃ xs, atRun m (iota m) k = xs := ⟨_, rfl⟩
      rw [hxs] at CA hln HO HT
      have HLN := Go.Lib.hid hln
      have hlti : (k : Int) < (f : Int) := by omega
      clear hat hxs hkf hln
      gi_wp2_with (refine ⟨trivial, ?_⟩; gi_at_call 101; refine (callsIn_wide.2 CA.out).mono ?_; rintro e w2 ⟨v, rfl, ho, hb⟩; have HW := Go.Lib.hid (And.intro ho hb); clear ho hb; have hlen := congrArg List.length HS.out.2.1; obtain ⟨fn, tmps, assign, body, hy, hR⟩ := HY.out so (xs, v) w2 (HJ.out _ _ _ none HS.out.1 (grown_of_below HW.out.2 none) (fun _ e => by cases e)) ⟨⟨HLN.out, HO.out⟩, by rw [← HLN.out]; exact own_lower HW.out.1 (Nat.le_trans hBW HS.out.2.2)⟩ (by rw [List.length_map, List.length_take, allOrd_len, HFF.out] at hlen; rw [HFF.out]; omega); clear hlen; dsimp only at hy)
      refine hR.mono ?_
      rintro e W3 (⟨rfl, hJ3, hk3⟩ | ⟨rfl, hJx3⟩)
      · have hc3 : W3.cell? ⟨Bn, 0, none⟩ = some (.int .i64 (m : Int)) := hk3.cell.trans ((HW.out.2.cell (p := ⟨Bn, 0, none⟩) (Nat.lt_of_lt_of_le hBnW HS.out.2.2)).trans hc)
        have HN : Hid (J (so ++ [(xs, v)]) W3 ∧ (so ++ [(xs, v)]).map (·.1) = (allOrd m).take (k + 1) ∧ W.heap.size ≤ W3.heap.size) := Go.Lib.hid ⟨hJ3, by rw [List.map_append, HS.out.2.1, HT.out]; rfl, Nat.le_trans HS.out.2.2 (Nat.le_trans HW.out.2.size hk3.2)⟩
        clear hJ3 hk3 hy hR
        gi_wp2
        go_roundw
        case rel => exact ⟨k + 1, _, by omega, by go_num, hc3, HN⟩
        case measure => simp [intOf]; omega
      · have HN : Hid (∃ k, k < fact m ∧ (so ++ [(xs, v)]).map (·.1) = (allOrd m).take (k + 1)) := Go.Lib.hid ⟨k, by rw [HFF.out]; exact hlt, by rw [List.map_append, HS.out.2.1, HT.out]; rfl⟩
        clear hy hR
        gi_wp2
        refine bodyPost_ret (results_none rfl _ _ _) rfl ?_
        exact ⟨⟨_, rfl⟩, .inr ⟨_, HN.out, hJx3⟩⟩
    · have hkf : k = f := by omega
      subst hkf
      have HN : Hid (so.map (·.1) = allOrd m) := Go.Lib.hid (by rw [HS.out.2.1]; exact List.take_of_length_le (by rw [allOrd_len, HFF.out]; exact Nat.le_refl _))
      have hlti : ¬ ((k : Int) < (k : Int)) := by omega
      gi_wp2
      go_end0
      exact ⟨⟨_, rfl⟩, .inl ⟨so, HN.out, HS.out.1⟩⟩

set_option maxHeartbeats 1000000 in
theorem ordersOf_in (F : Fence) (n m : Nat) (h1 : F.fn 80) (hro : F.round = none) (w : World) :
    CallsIn F n Try.prog 80 #[.int .i64 (m : Int)] w fun e w' => e = .returned (.func (.func 99) #[] #[.pointer (some ⟨w.heap.size, 0, none⟩)]) ∧ w' = w.alloc (.cells #[.int .i64 (m : Int)] 3) := by
  refine callsIn_of_wp Try.func80 rfl h1 ?_ hro
  simp only [Try.ntmps80, List.size_toArray, List.length_cons, List.length_nil, Nat.reduceAdd, Nat.reduceSub, Array.replicate_succ, Array.replicate_zero, List.push_toArray, List.append_toArray, List.nil_append, List.cons_append]
  gi_wp2
  go_ret
  exact ⟨rfl, rfl⟩

end Go.Proofs.Ytekihdnkkeggjaa.OrdersIterC

/-
  A range over a function as in the text before, where the iterator is told of the round that leaves, too: what it keeps. Conditions: as stated.
-/
namespace Go.Proofs.Ytekihdnkkeggjaa.Range2C
open Go.RowKit RangeC

/-- An iterator of which is known: at each value that it hands on, Pre holds of it and the world; what Kp keeps is kept by each round, the last one too. -/
def Hands2 {α : Type} (F : Fence) (n : Nat) (P : Program) (g : Nat) (lb : Array Value) (encs : α → Array Value) (Pre : α → World → Prop) (Kp : World → World → Prop) (S Sp : List α → Prop) (N : Nat) (w : World) : Prop :=
  ∀ (l : Nat) (J Jx : List α → World → Prop) (W : World), Below w.heap.size w W → AbidesFrom W.heap.size J →
    (∀ so x X, J so X → Pre x X → so.length < N → YieldAt F (n - 1) P l (encs x) X fun e Y =>
      (e = .returned (.bool true) ∧ J (so ++ [x]) Y ∧ Kp X Y) ∨ (e = .returned (.bool false) ∧ Jx (so ++ [x]) Y ∧ Kp X Y)) →
    J [] W → CallsIn F n P g (#[.func (.yield l) #[] #[]] ++ lb) W fun e Y => (∃ v, e = .returned v) ∧ ((∃ xs, S xs ∧ J xs Y) ∨ (∃ so, Sp so ∧ Jx so Y))

variable {F : Fence} {n : Nat} {P : Program} {w : World}

/-- What a round owes. -/
def ownPostX {α : Type} (B : Nat) (Kp : World → World → Prop) (I : List α → World → Prop) (Ix : Code → List α → World → Prop) (xs : List α) (W : World) : Exit → Act → World → Prop
  | .normal, _, W' => KeepsFrom B W W' ∧ Kp W W' ∧ I xs W'
  | .ret, _, W' => KeepsFrom B W W' ∧ Kp W W' ∧ Ix .ret xs W'
  | .exit id, _, W' => KeepsFrom B W W' ∧ Kp W W' ∧ Ix (.exit id) xs W'
  | .goto t, _, W' => KeepsFrom B W W' ∧ Kp W W' ∧ Ix (.goto t) xs W'
  | .panic _, _, _ => False
  | .outgrown, _, _ => False

set_option maxHeartbeats 1000000 in
theorem range_hands2 {α : Type} {g : Operand} {ps : Array Tmp} {assign body : Code} {Q : Exit → Act → World → Prop} {a : Act}
    (hro : F.round = none) (h1 : 1 ≤ n) {gf : Nat} {lb : Array Value} (hg : a.eval g = .func (.func gf) #[] lb) (hFg : F.fn gf) (eg : ∀ args w, (callFunc gf args).run P w = .ok (.enter gf args) w)
    {encs : α → Array Value} {Pre : α → World → Prop} {Kp : World → World → Prop} {S Sp : List α → Prop} {N : Nat} {w0 : World} (hseq : Hands2 F (n - 1) P gf lb encs Pre Kp S Sp N w0)
    (hKt : ∀ {A B C : World}, Kp A B → Kp B C → Kp A C) (hKb : ∀ (W : World) (l : Nat) (o o' : Obj), w.heap.size ≤ l → W.heap[l]? = some o → o.isCells = false → o.isWalk = false → Kp W (W.putObj l o')) (hb0 : Below w0.heap.size w0 w) (hps : ∀ x, (encs x).size = ps.size)
    (I : List α → World → Prop) (Ix : Code → List α → World → Prop) (hI : OwnFrom w.heap.size I) (hIx : ∀ c, OwnFrom w.heap.size (Ix c)) (hPre : ∀ x, OwnFrom w.heap.size (fun (_ : Unit) W => Pre x W)) (h0 : I [] w) (a₁ : α → Act)
    (hassign : ∀ (l : Nat) (x : α) (W : World) (K : Act → World → Prop), K (a₁ x) W →
      assign.wpIn (F.inRound l) (n - 1 - 1) P (Exit.then K (fun _ _ _ => False)) { tmps := (ps.zip (encs x)).foldl (fun t (p, v) => t.setIfInBounds p v) a.tmps, defers := [] } W)
    (hbody : ∀ (l : Nat) (so : List α) (x : α) (W : World), I so W → Pre x W → so.length < N → body.wpIn (F.inRound l) (n - 1 - 1) P (ownPostX w.heap.size Kp I Ix (so ++ [x]) W) (a₁ x) W)
    (hdone : ∀ (D : Nat) (xs : List α) (W : World), w.heap.size ≤ D → S xs → I xs W → W.heap[D]? = some (.deferred (some [])) → Q .normal { a with defers := { target := .collected D, args := #[] } :: a.defers } W)
    (hstop : ∀ (D : Nat) (c : Code) (so : List α) (W : World), w.heap.size ≤ D → Sp so → Ix c so W → W.heap[D]? = some (.deferred (some [])) → c.wpIn F n P Q { a with defers := { target := .collected D, args := #[] } :: a.defers } W) :
    (Code.rangeFunc g ps assign body).wpIn F n P Q a w := by
  refine wpIn_rangeFunc fun fn hfn => ?_
  rw [hro]
  obtain ⟨rec, hrec⟩ : ∃ rec : LoopState → Option Code → Loop, rec = fun st pe => { state := st, pending := pe, fn := fn, tmps := a.tmps, params := ps, assign := assign, body := body, defers := w.heap.size } := ⟨_, rfl⟩
  obtain ⟨W1, hW1⟩ : ∃ W1, (w.alloc (.deferred (some []))).alloc (.loop (rec .ready none)) = W1 := ⟨_, rfl⟩
  have hsz : W1.heap.size = w.heap.size + 2 := by rw [← hW1]; simp
  have hL1 : Laid w rec .ready none W1 := by
    rw [← hW1]
    refine ⟨?_, (Below.heap_alloc _ _ _ (by simp)).trans (World.alloc_heap_new w _)⟩
    have := World.alloc_heap_new (w.alloc (.deferred (some []))) (.loop (rec .ready none))
    rwa [World.size_alloc] at this
  have hI1 : I [] W1 := by rw [← hW1]; exact hI.alloc _ (hI.alloc _ h0)
  have hb1 : Below w0.heap.size w0 W1 := by
    rw [← hW1]; exact hb0.trans ((((Below.refl _ w).alloc (Nat.le_refl _) _).alloc (by simp) _).mono hb0.size)
  have hput : ∀ {X : World} {st st' : LoopState} {pe pe' : Option Code}, Laid w rec st pe X → Kp X (X.putObj (w.heap.size + 1) (.loop (rec st' pe'))) := fun h => hKb _ _ _ _ (by omega) h.1 rfl rfl
  refine ⟨w.heap.size + 1, [{ target := .collected w.heap.size, args := #[] }], W1, { target := .fn (.func gf) lb, args := #[.func (.yield (w.heap.size + 1)) #[] #[]] }, W1, gf,
    #[.func (.yield (w.heap.size + 1)) #[] #[]] ++ lb, W1, by rw [← hW1, hrec]; exact run_enterLoop_outer _ _ _ _ _, by simp only [resolve, hg]; simp [go_sem], fun f' hf' => by simp [Target.leads] at hf'; subst hf'; exact hFg,
    by simp [invoke, go_sem, eg], fun _ => h1, ?_⟩
  refine (hseq (w.heap.size + 1) (fun so W => I so W ∧ Laid w rec .ready none W) (fun so W => ∃ c, Ix c so W ∧ Laid w rec .done (some c) W) W1 hb1
    (fun s A B row hs hgr hr => ⟨hI s A B row hs.1 hgr (fun r e => by obtain ⟨h2, o, ho, hw⟩ := hr r e; exact ⟨by omega, o, ho, Obj.not_cells_of_walk hw⟩), hs.2.kept hgr (fun r e => (hr r e).2)⟩) ?_ ⟨hI1, hL1⟩).mono ?_
  · rintro so x W ⟨hi, hl⟩ hpx hlen
    have hy := run_yield (P := P) (args := encs x) hl.1 (by rw [hrec]; exact hps x)
    rw [hrec] at hy
    refine ⟨fn, _, assign, body, hy, roundIn_of_wpIn hfn (hassign _ x W _ ?_)⟩
    clear hy
    have hl2 : Laid w rec .busy none (W.putObj (w.heap.size + 1) (.loop (rec .busy none))) := hl.put
    have hkb := hput (st' := .busy) (pe' := none) hl
    refine ⟨W.putObj (w.heap.size + 1) (.loop (rec .busy none)), by have h2 := run_beginRound (P := P) hl.1 (by rw [hrec]); rw [h2, hrec], ?_⟩
    refine wpIn_mono (hbody _ so x _ (hI.putObj _ hi (by omega) hl.1 rfl) ((hPre x).putObj (s := ()) _ hpx (by omega) hl.1 rfl) hlen) ?_
    have fin : ∀ (jump : Option Code) (W3 : World), KeepsFrom w.heap.size (W.putObj (w.heap.size + 1) (.loop (rec .busy none))) W3 →
        (Instr.endRound (w.heap.size + 1) jump).run P W3 = .ok (.bool jump.isNone) (W3.putObj (w.heap.size + 1) (.loop (rec (if jump.isNone then .ready else .done) jump))) ∧ Laid w rec .busy none W3 := fun jump W3 hk3 => by
      have hl3 := hl2.from hk3
      have h2 := run_endRound (P := P) jump hl3.1
      rw [h2, hrec]
      exact ⟨rfl, by rw [hrec] at hl3; exact hl3⟩
    rintro e a3 W3 hp
    cases e with
    | normal =>
      obtain ⟨hr, hl3⟩ := fin none W3 hp.1
      exact ⟨_, _, hr, .inl ⟨rfl, ⟨hI.putObj _ hp.2.2 (by omega) hl3.1 rfl, hl3.put⟩, hKt (hKt hkb hp.2.1) (hput hl3)⟩⟩
    | ret =>
      obtain ⟨hr, hl3⟩ := fin (some .ret) W3 hp.1
      exact ⟨_, _, hr, .inr ⟨rfl, ⟨.ret, (hIx _).putObj _ hp.2.2 (by omega) hl3.1 rfl, hl3.put⟩, hKt (hKt hkb hp.2.1) (hput hl3)⟩⟩
    | exit id =>
      obtain ⟨hr, hl3⟩ := fin (some (.exit id)) W3 hp.1
      exact ⟨_, _, hr, .inr ⟨rfl, ⟨.exit id, (hIx _).putObj _ hp.2.2 (by omega) hl3.1 rfl, hl3.put⟩, hKt (hKt hkb hp.2.1) (hput hl3)⟩⟩
    | goto t =>
      obtain ⟨hr, hl3⟩ := fin (some (.goto t)) W3 hp.1
      exact ⟨_, _, hr, .inr ⟨rfl, ⟨.goto t, (hIx _).putObj _ hp.2.2 (by omega) hl3.1 rfl, hl3.put⟩, hKt (hKt hkb hp.2.1) (hput hl3)⟩⟩
    | panic ch => exact hp.elim
    | outgrown => exact hp.elim
  · rintro e W2 ⟨⟨v, rfl⟩, (⟨xs, hS, hi, hl⟩ | ⟨so, hSp, c, hi, hl⟩)⟩
    · have h2 := run_endLoop (P := P) hl.1 (by rw [hrec]; simp)
      have h3 : (rec .ready none).pending = none := by rw [hrec]
      rw [h3] at h2
      exact ⟨none, _, h2, hdone _ xs _ (Nat.le_refl _) hS (hI.putObj _ hi (by omega) hl.1 rfl) ((World.putObj_heap_other (by omega)).trans hl.2)⟩
    · have h2 := run_endLoop (P := P) hl.1 (by rw [hrec]; simp)
      have h3 : (rec .done (some c)).pending = some c := by rw [hrec]
      rw [h3] at h2
      exact ⟨some c, _, h2, hstop _ c so _ (Nat.le_refl _) hSp ((hIx c).putObj _ hi (by omega) hl.1 rfl) ((World.putObj_heap_other (by omega)).trans hl.2)⟩

end Go.Proofs.Ytekihdnkkeggjaa.Range2C

/-
  Contracts: the program's goOn, by recursion, and the iterator of sharingsOf: it hands on each sharing that fits, in ascending order. Conditions: an order, at most 7 stacks.
-/
namespace Go.Proofs.Ytekihdnkkeggjaa.GoOnC
open Go Go.Maps Go.RowKit Go.Shelf SeesC IntsC ExactC OrdMath BesM ListsC ConfIC UseC RangeC Range2C OrdersIterC
set_option linter.unusedVariables false

attribute [local go_sem] Oper.semAt_some

/-- What lies from a block on is as it was: the cells and the maps. -/
def KeepC (B : Nat) (X Y : World) : Prop := X.heap.size ≤ Y.heap.size ∧ ∀ q o, B ≤ q → X.heap[q]? = some o → (o.isCells = true ∨ o.isWalk = true) → Y.heap[q]? = some o

theorem KeepC.refl (B : Nat) (X : World) : KeepC B X X := ⟨Nat.le_refl _, fun _ _ _ h _ => h⟩
theorem KeepC.trans {B : Nat} {X Y Z : World} (h : KeepC B X Y) (k : KeepC B Y Z) : KeepC B X Z := ⟨Nat.le_trans h.1 k.1, fun q o hq ho hc => k.2 q o hq (h.2 q o hq ho hc) hc⟩
theorem KeepC.of_below {B : Nat} {X Y : World} (h : Below X.heap.size X Y) : KeepC B X Y := ⟨h.size, fun q o _ ho _ => by
  have hq : q < X.heap.size := (Array.getElem?_eq_some_iff.1 ho).1
  rw [h.block q hq]; exact ho⟩

theorem cell_obj {X : World} {p : Addr} {v : Value} (h : X.cell? p = some v) : ∃ o, X.heap[p.block]? = some o ∧ o.isCells = true := by
  unfold World.cell? at h
  cases ho : X.heap[p.block]? with
  | none => rw [ho] at h; cases h
  | some o =>
    refine ⟨o, rfl, ?_⟩
    rw [ho] at h
    cases o <;> first | rfl | (simp at h)

theorem KeepC.cell {B : Nat} {X Y : World} (h : KeepC B X Y) {p : Addr} {v : Value} (hp : B ≤ p.block) (hc : X.cell? p = some v) : Y.cell? p = some v := by
  obtain ⟨o, ho, hi⟩ := cell_obj hc
  have h2 := h.2 _ o hp ho (.inl hi)
  rw [World.cell?_of_block (w := X) (w' := Y) (a := p) (by rw [h2, ho])]
  exact hc

theorem KeepC.own {B : Nat} {X Y : World} (h : KeepC B X Y) {ty : TypeId} {size n : Nat} {v : Value} {xs : List Value} (ho : X.ownsRow B ty size v n xs) : Y.ownsRow B ty size v n xs := by
  obtain ⟨h1, h2⟩ := ho
  refine ⟨h1, ?_⟩
  rcases h2 with h2 | ⟨g, cap, cur, hv, hb, hg, rest⟩
  · exact .inl h2
  · exact .inr ⟨g, cap, cur, hv, hb, h.2 _ _ hb hg (.inl rfl), rest⟩

theorem KeepC.use {B : Nat} {X Y : World} (h : KeepC B X Y) {b : Nat} {U : List Int} (hb : B ≤ b) (hu : UseMap X b U) : UseMap Y b U := by
  obtain ⟨n, D, ⟨es, clock, hp, hf, hn, hD⟩, h2, h3, h4⟩ := hu
  exact ⟨n, D, ⟨es, clock, h.2 _ _ hb hp (.inr rfl), hf, hn, hD⟩, h2, h3, h4⟩

/-- The boxes and the rows that goOn reads. -/
structure Env (B n k : Nat) (C : List (Nat × Nat)) (l bo yb bc bk bg : Nat) (ad : Option Addr) (cap g c N : Nat) (X : World) : Prop where
  co : X.cell? ⟨bo, 0, none⟩ = some (.slice ad n cap)
  cy : X.cell? ⟨yb, 0, none⟩ = some (.func (.yield l) #[] #[])
  cc : X.cell? ⟨bc, 0, none⟩ = some (.slice (some ⟨g, 0, none⟩) N c)
  ck : X.cell? ⟨bk, 0, none⟩ = some (.int .i64 (k : Int))
  cg : X.cell? ⟨bg, 0, none⟩ = some (.func (.func 98) #[] #[.pointer (some ⟨bo, 0, none⟩), .pointer (some ⟨yb, 0, none⟩), .pointer (some ⟨bc, 0, none⟩), .pointer (some ⟨bk, 0, none⟩), .pointer (some ⟨bg, 0, none⟩)])
  rows : ∀ i, i < N → X.cell? ⟨g, i * 2, none⟩ = some (.int .i64 ((C.getD i (0, 0)).1 : Int)) ∧ X.cell? ⟨g, i * 2 + 1, none⟩ = some (.int .i64 ((C.getD i (0, 0)).2 : Int))
  low : B ≤ bo ∧ B ≤ yb ∧ B ≤ bc ∧ B ≤ bk ∧ B ≤ bg ∧ B ≤ g
  high : g < X.heap.size

theorem Env.keep {B n k : Nat} {C : List (Nat × Nat)} {l bo yb bc bk bg : Nat} {ad : Option Addr} {cap g c N : Nat} {X Y : World} (h : Env B n k C l bo yb bc bk bg ad cap g c N X) (hk : KeepC B X Y) : Env B n k C l bo yb bc bk bg ad cap g c N Y :=
  ⟨hk.cell h.low.1 h.co, hk.cell h.low.2.1 h.cy, hk.cell h.low.2.2.1 h.cc, hk.cell h.low.2.2.2.1 h.ck, hk.cell h.low.2.2.2.2.1 h.cg,
    fun i hi => ⟨hk.cell h.low.2.2.2.2.2 (h.rows i hi).1, hk.cell h.low.2.2.2.2.2 (h.rows i hi).2⟩, h.low, Nat.lt_of_lt_of_le h.high hk.1⟩

/-- A sharing that is handed on: its places, and the slice. -/
def GivenSh (zs : List Int) (B n k : Nat) (x : El) (X : World) : Prop := (x.1.length = n ∧ Fits zs x.1 ∧ ∀ s ∈ x.1, 0 ≤ s ∧ s < (k : Int)) ∧ X.ownsRow B 3 1 x.2 n (vals x.1)

/-- How goOn ends. -/
def GoPost (zs : List Int) (k B d : Nat) (J Jx : List El → World → Prop) (acc : List El) (so : List Int) (X : World) (e : Ending) (Y : World) : Prop :=
  (e = .returned (.bool true) ∧ (∃ xs : List El, xs.map (·.1) = ext zs k d so ∧ J (acc ++ xs) Y) ∧ KeepC B X Y) ∨
  (e = .returned (.bool false) ∧ ∃ (xs : List El) (t : Nat), t < (ext zs k d so).length ∧ xs.map (·.1) = (ext zs k d so).take (t + 1) ∧ Jx (acc ++ xs) Y ∧ KeepC B X Y)

set_option maxRecDepth 100000 in
set_option maxHeartbeats 2000000 in
theorem goOn_base (zs : List Int) (n k p M : Nat) (hp1 : 1 ≤ p) (l B bo yb bc bk bg : Nat) (C : List (Nat × Nat)) (ad : Option Addr) (cap g c N : Nat) (J Jx : List El → World → Prop)
    (HY : ∀ so x X, J so X → GivenSh zs B n k x X → so.length < M → YieldAt Fence.wide (p - 1) Try.prog l #[x.2] X fun e Y => (e = .returned (.bool true) ∧ J (so ++ [x]) Y ∧ KeepC B X Y) ∨ (e = .returned (.bool false) ∧ Jx (so ++ [x]) Y ∧ KeepC B X Y))
    (so : List Int) (gs cs : Nat) (acc : List El) (X : World) (hso : so.length = n) (hF : Fits zs so) (hr : ∀ s ∈ so, 0 ≤ s ∧ s < (k : Int)) (ho : X.ownsRow B 3 1 (.slice (some ⟨gs, 0, none⟩) n cs) n (vals so)) (hE : Env B n k C l bo yb bc bk bg ad cap g c N X) (hJ : J acc X) (hM : acc.length < M) :
    Calls Try.prog 98 #[.slice (some ⟨gs, 0, none⟩) n cs, .pointer (some ⟨bo, 0, none⟩), .pointer (some ⟨yb, 0, none⟩), .pointer (some ⟨bc, 0, none⟩), .pointer (some ⟨bk, 0, none⟩), .pointer (some ⟨bg, 0, none⟩)] X (GoPost zs k B 0 J Jx acc so X) := by
  have hco := hE.co
  have hcy := hE.cy
  have HP := Go.Lib.hid (HY acc (so, .slice (some ⟨gs, 0, none⟩) n cs) X hJ ⟨⟨hso, hF, hr⟩, ho⟩ hM)
  clear HY hE hJ ho hF hr hM hso
  refine (callsIn_wide (n := p)).1 ?_
  refine callsIn_of_wp Try.func98 rfl trivial ?_ rfl
  simp only [Try.ntmps98, List.size_toArray, List.length_cons, List.length_nil, Nat.reduceAdd, Nat.reduceSub, Array.replicate_succ, Array.replicate_zero, List.push_toArray, List.append_toArray, List.nil_append, List.cons_append]
  gi_wp2_with fail
  obtain ⟨fn, tmps, assign, body, hy, hR⟩ := HP.out
  rw [hy]
  gi_wp2_with fail
  refine hR.mono ?_
  rintro e W3 (⟨rfl, hJ3, hk3⟩ | ⟨rfl, hJx3, hk3⟩)
  · have HN : Hid (GoPost zs k B 0 J Jx acc so X (.returned (.bool true)) W3) := Go.Lib.hid (.inl ⟨rfl, ⟨[(so, .slice (some ⟨gs, 0, none⟩) n cs)], rfl, hJ3⟩, hk3⟩)
    clear hJ3 hk3 hy hR
    gi_wp2
    go_ret
    exact HN.out
  · have HN : Hid (GoPost zs k B 0 J Jx acc so X (.returned (.bool false)) W3) := Go.Lib.hid (.inr ⟨rfl, [(so, .slice (some ⟨gs, 0, none⟩) n cs)], 0, by simp [ext], rfl, hJx3, hk3⟩)
    clear hJx3 hk3 hy hR
    gi_wp2
    go_ret
    exact HN.out

theorem own_heap {w w' : World} (h : w'.heap = w.heap) {base size n : Nat} {ty : TypeId} {v : Value} {xs : List Value} (ho : w.ownsRow base ty size v n xs) : w'.ownsRow base ty size v n xs := by
  unfold World.ownsRow at *
  rw [h]; exact ho

theorem below_heap {w w' a : World} {B : Nat} (h : Below B a w) (h1 : w'.os = w.os) (h2 : w'.tape = w.tape) (h3 : w'.output = w.output) (h4 : w'.heap = w.heap) : Below B a w' :=
  ⟨h1.trans h.os, h2.trans h.tape, h3.trans h.output, by rw [h4]; exact h.size, fun q hq => by rw [h4]; exact h.block q hq⟩

theorem below_grown {X X0 X' a : World} {B : Nat} {row : Option Nat} (hg : X.grownBy X' row) (hb : Below B a X0) (hs : B ≤ X0.heap.size) (h1 : X.os = X0.os) (h2 : X.tape = X0.tape) (h3 : X.output = X0.output) (h4 : X.heap = X0.heap) (hr : ∀ k, row = some k → B ≤ k) : Below B a X' :=
  (below_heap hb h1 h2 h3 h4).grown hg (by rw [h4]; exact hs) hr

theorem cell_heap {w w' : World} (h : w'.heap = w.heap) {a : Addr} {u : Value} (hc : w.cell? a = some u) : w'.cell? a = some u := by
  unfold World.cell? at *
  rw [h]; exact hc

theorem step_append_guarded {P : Program} {ops : Array Oper} {o : Oper} {a : Act} {w : World} {K : Act → World → Prop} {Q : Exit → Act → World → Prop} {E : Prop}
    (hw : Region.wanted o (yielded ops a.tmps) = true) (s x : Operand) (t : TypeId) (hop : o.op = Op.call { callee := Callee.builtin Builtin.append, args := #[s, x], argTypes := #[t, t] })
    (e : TypeId) (i : TypeInfo) (z : Value) (size bytes : Nat) (h1 : P.underlying t = some (.slice e)) (h2 : P.info? e = some i) (h3 : i.zero = some z) (h4 : i.size = size) (h5 : i.bytes = bytes) (h6 : z.cells.size = size) (h7 : 0 < size)
    (b : Addr) (n cap : Nat) (olds : List Value) (hs : a.eval s = .slice (some b) n cap) (hlo : olds.length = n * size) (holds : ∀ j u, olds[j]? = some u → w.cell? (b.add j) = some u)
    (ad : Addr) (m c : Nat) (news : List Value) (hx : a.eval x = .slice (some ad) m c) (hn : news.length = m * size) (hc : ∀ j u, news[j]? = some u → w.cell? (ad.add j) = some u)
    (hfull : cap < n + m) (b1 : n + m ≤ maxLen) (b2 : (n + m) * bytes ≤ 140737488355328)
    (hK : ∀ v' w', w'.ownsRow w.heap.size e size v' (n + m) (olds ++ news) → w.grownBy w' none → K (a.put o.dst v') w') :
    if Region.wanted o (yielded ops a.tmps) = true then Oper.wp P o a w K Q else E := by
  rw [if_pos hw]
  obtain ⟨v', w', hrun, r1, r2⟩ := run_append_arg_grows (P := P) w t o.type e i z size bytes h1 h2 h3 h4 h5 h6 h7 b n cap olds hlo holds ad m c news hn hc hfull b1 b2
  unfold Oper.wp
  simp [execOp, hop, resolve, invoke, builtin, hs, hx, hrun, Result.andThen]
  exact hK v' w' r1 r2

theorem app_new {B m : Nat} {wo X w4 : World} {v4 : Value} {l : List Int} {x : Int} {o : Obj} (h : w4.ownsRow X.heap.size 3 1 v4 (m + 1) (vals l ++ [.int .i64 x])) (hB : B ≤ wo.heap.size) (hg : X.grownBy w4 none) (hb : Below wo.heap.size wo (wo.alloc o)) (h1 : X.os = (wo.alloc o).os := by rfl) (h2 : X.tape = (wo.alloc o).tape := by rfl) (h3 : X.output = (wo.alloc o).output := by rfl) (h4 : X.heap = (wo.alloc o).heap := by rfl) :
    w4.ownsRow B 3 1 v4 (m + 1) (vals (l ++ [x])) ∧ Below wo.heap.size wo w4 := by
  have e : vals (l ++ [x]) = vals l ++ [.int .i64 x] := List.map_append
  rw [e]
  exact ⟨own_lower h (by rw [h4]; exact Nat.le_trans hB hb.size), below_grown hg hb hb.size h1 h2 h3 h4 (fun k hk => by cases hk)⟩

/-- How goOn ends, by its answer. -/
def GoOut (zs : List Int) (k B d : Nat) (J Jx : List El → World → Prop) (acc : List El) (so : List Int) (X : World) (r : Bool) (Y : World) : Prop :=
  (r = true ∧ (∃ xs : List El, xs.map (·.1) = ext zs k d so ∧ J (acc ++ xs) Y) ∧ KeepC B X Y) ∨
  (r = false ∧ ∃ (xs : List El) (t : Nat), t < (ext zs k d so).length ∧ xs.map (·.1) = (ext zs k d so).take (t + 1) ∧ Jx (acc ++ xs) Y ∧ KeepC B X Y)

theorem GoOut.keep {zs : List Int} {k B d : Nat} {J Jx : List El → World → Prop} {acc : List El} {so : List Int} {X : World} {r : Bool} {Y : World} (h : GoOut zs k B d J Jx acc so X r Y) : KeepC B X Y := by
  rcases h with ⟨_, _, h⟩ | ⟨_, _, _, _, _, _, h⟩ <;> exact h

theorem GoPost.out {zs : List Int} {k B d : Nat} {J Jx : List El → World → Prop} {acc : List El} {so : List Int} {X : World} {e : Ending} {Y : World} (h : GoPost zs k B d J Jx acc so X e Y) : ∃ r, e = .returned (.bool r) ∧ GoOut zs k B d J Jx acc so X r Y := by
  rcases h with ⟨h1, h2⟩ | ⟨h1, h2⟩
  · exact ⟨true, h1, .inl ⟨rfl, h2⟩⟩
  · exact ⟨false, h1, .inr ⟨rfl, h2⟩⟩

/-- What goOn does from d places on. -/
def GoOnTo (zs : List Int) (k n B M s0 : Nat) (l bo yb bc bk bg : Nat) (ad : Option Addr) (cap g c N : Nat) (J Jx : List El → World → Prop) (d : Nat) : Prop :=
  ∀ (m : Nat), m + d = n → ∀ (so : List Int) (gs cs : Nat) (acc : List El) (X : World), so.length = m → Fits zs so → (∀ s ∈ so, 0 ≤ s ∧ s < (k : Int)) → X.ownsRow B 3 1 (.slice (some ⟨gs, 0, none⟩) m cs) m (vals so) → Env B n k (confs zs) l bo yb bc bk bg ad cap g c N X → J acc X → s0 ≤ X.heap.size → acc.length + (ext zs k d so).length ≤ M →
  Calls Try.prog 98 #[.slice (some ⟨gs, 0, none⟩) m cs, .pointer (some ⟨bo, 0, none⟩), .pointer (some ⟨yb, 0, none⟩), .pointer (some ⟨bc, 0, none⟩), .pointer (some ⟨bk, 0, none⟩), .pointer (some ⟨bg, 0, none⟩)] X (GoPost zs k B d J Jx acc so X)

/-- The first x of the ways to go on. -/
def part (zs : List Int) (k d : Nat) (so : List Int) (x : Nat) : List (List Int) := (List.range x).flatMap fun (y : Nat) => if okN zs so (y : Int) then ext zs k d (so ++ [(y : Int)]) else []

theorem part_next (zs : List Int) (k d : Nat) (so : List Int) (x : Nat) : part zs k d so (x + 1) = part zs k d so x ++ (if okN zs so (x : Int) then ext zs k d (so ++ [(x : Int)]) else []) := by
  unfold part
  rw [List.range_succ, List.flatMap_append]
  simp

theorem part_pre (zs : List Int) (k d : Nat) (so : List Int) {x y : Nat} (h : x ≤ y) : part zs k d so x <+: part zs k d so y := by
  obtain ⟨z, rfl⟩ : ∃ z, y = x + z := ⟨y - x, by omega⟩
  clear h
  induction z with
  | zero => exact List.prefix_refl _
  | succ z ih => rw [← Nat.add_assoc, part_next]; exact ih.trans (List.prefix_append _ _)

theorem part_end (zs : List Int) (k d : Nat) (so : List Int) : part zs k d so k = ext zs k (d + 1) so := rfl

theorem take_pre {α : Type} {A B L : List α} {t : Nat} (h : A ++ B <+: L) (ht : t < B.length) : A.length + t < L.length ∧ L.take (A.length + t + 1) = A ++ B.take (t + 1) := by
  obtain ⟨C, rfl⟩ := h
  refine ⟨by simp; omega, ?_⟩
  rw [List.append_assoc, Nat.add_assoc, List.take_length_add_append, List.take_append_of_le_length (by omega)]

set_option maxRecDepth 100000 in
set_option maxHeartbeats 4000000 in
theorem goOn_step (zs : List Int) (hord : Ord zs) (n k M s0 : Nat) (hl : zs.length = n) (hk7 : k ≤ 7) (l B bo yb bc bk bg : Nat) (ad : Option Addr) (cap g c N : Nat) (hN : (confs zs).length = N) (hNc : N ≤ c) (J Jx : List El → World → Prop) (HJ : AbidesFrom s0 J)
    (d : Nat) (IH : GoOnTo zs k n B M s0 l bo yb bc bk bg ad cap g c N J Jx d) : GoOnTo zs k n B M s0 l bo yb bc bk bg ad cap g c N J Jx (d + 1) := by
  intro m hmd so gs cs acc X hso hF hr ho hE hJ hs0 hM
  obtain ⟨i0, hi, hz0, hz1, hz2⟩ := info_parts infoI
  have hn7 : n ≤ 7 := by have := hord.2.1; omega
  have hm7 : m ≤ 7 := by omega
  have hN98 : N ≤ 98 := by have := confs_len (zs := zs) (by omega); omega
  have hmcs : m ≤ cs := by
    obtain ⟨_, a, c', e, h3, _⟩ := Sees.owns ho
    cases e; exact h3
  have hco := hE.co
  have hcc := hE.cc
  have hck := hE.ck
  have CU := Go.Lib.hid (inUse_any (confs zs) (fun p hp => (mem_confs (zs := zs) (i := p.1) (j := p.2)).1 hp |>.1) so (fun x hx => by have := hr x hx; omega) X g c N hN hN98 hNc hE.high (fun i hi => hE.rows i hi) (.slice (some ⟨gs, 0, none⟩) m cs) m (Sees.owns ho) (by omega))
  have H0 := Go.Lib.hid (And.intro ho (And.intro hE (And.intro hJ (And.intro hs0 hM))))
  have HF := Go.Lib.hid (And.intro hF (And.intro hr (And.intro hso (And.intro hmd hl))))
  have HJH := Go.Lib.hid HJ
  have IHH := Go.Lib.hid IH
  have hne : ((m : Int) == (n : Int)) = false := by rw [beq_eq_false_iff_ne]; omega
  have hne2 : (m == n) = false := by rw [beq_eq_false_iff_ne]; omega
  clear IH HJ ho hE hJ hs0 hM hF hr hso hmd hl hord hN
  go_enter Try.func98, Try.ntmps98
  go_wp2_with fail
  refine (CU.out).mono ?_
  rintro e w1 ⟨b1, rfl, hu1, hb1, hB1⟩
  have hEk := H0.out.2.1.keep (KeepC.of_below hB1)
  have hck1 := hEk.ck
  have HL0 : Hid (∃ xs : List El, xs.map (·.1) = part zs k d so 0 ∧ J (acc ++ xs) w1 ∧ KeepC B X w1 ∧ UseMap w1 b1 (inUse (confs zs) so)) := Go.Lib.hid ⟨[], rfl, by rw [List.append_nil]; exact HJH.out _ _ _ none H0.out.2.2.1 (grown_of_below hB1 none) (fun _ e => by cases e), KeepC.of_below hB1, hu1⟩
  have HB1 := Go.Lib.hid (And.intro hb1 hB1)
  clear hu1 hb1 hB1 hEk CU hco hcc hck
  go_wp2_with fail
  go_loopw [22] (fun xv wr => ∃ (x : Nat), x ≤ k ∧ xv = .int .i64 (x : Int) ∧ Hid (∃ xs : List El, xs.map (·.1) = part zs k d so x ∧ J (acc ++ xs) wr ∧ KeepC B X wr ∧ UseMap wr b1 (inUse (confs zs) so))) (fun xv _ => k - (intOf xv).toNat)
  case atStart => exact ⟨0, Nat.zero_le _, rfl, HL0⟩
  case round =>
    obtain ⟨x, hxk, rfl, HX⟩ := hrel
    clear HL0 hck1
    obtain ⟨wo, rfl⟩ : ∃ wo, wo = wr := ⟨_, rfl⟩
    by_cases hlt : x < k
    · have hxi : (x : Int) < (k : Int) := by omega
      obtain ⟨u, hu⟩ : ∃ u, (inUse (confs zs) so).contains (x : Int) = u := ⟨_, rfl⟩
      have hlook : ∀ q, (Instr.lookup 82 (.map (some b1)) (.int .i64 (x : Int)) false).run Try.prog (wo.drewN q) = .ok (.bool u) (wo.drewN q) := by
        obtain ⟨xs, _, _, _, hum⟩ := HX.out
        intro q
        have h1 := UseMap.look (w := wo.drewN q) (b := b1) hum (x := (x : Int)) (by omega)
        rw [hu] at h1; exact h1
      have hcg : wo.cell? ⟨bg, 0, none⟩ = some (.func (.func 98) #[] #[.pointer (some ⟨bo, 0, none⟩), .pointer (some ⟨yb, 0, none⟩), .pointer (some ⟨bc, 0, none⟩), .pointer (some ⟨bk, 0, none⟩), .pointer (some ⟨bg, 0, none⟩)]) := by
        obtain ⟨xs, _, _, hkp, _⟩ := HX.out
        exact (H0.out.2.1.keep hkp).cg
      have HUU := Go.Lib.hid hu
      clear hu
      cases u with
      | true =>
        have HN : Hid (∃ xs : List El, xs.map (·.1) = part zs k d so (x + 1) ∧ J (acc ++ xs) wo ∧ KeepC B X wo ∧ UseMap wo b1 (inUse (confs zs) so)) := Go.Lib.hid (by
          obtain ⟨xs, h1, h2, h3, h4⟩ := HX.out
          refine ⟨xs, ?_, h2, h3, h4⟩
          rw [part_next, h1]
          unfold okN
          rw [HUU.out]; simp)
        go_wp2_with fail
        go_quiet (fail)
        go_wp2
        go_roundw
        case rel => exact ⟨x + 1, by omega, by go_num, Go.Lib.hid (by
          obtain ⟨xs, h1, h2, h3, h4⟩ := HN.out
          exact ⟨xs, h1, HJH.out _ _ _ none h2 (grown_of_below (((Drawn.refl wo).next _).below _) none) (fun _ e => by cases e), h3, h4⟩)⟩
        case measure => simp [intOf]; omega
      | false =>
        obtain ⟨xs, hx1, hx2, hx3, hx4⟩ := HX.out
        have hbo := hx3.own H0.out.1
        have hEo := H0.out.2.1.keep hx3
        have hokN : okN zs so (x : Int) = true := by unfold okN; rw [HUU.out]; rfl
        have hF2 : Fits zs (so ++ [(x : Int)]) := (fits_snoc (by have h1 := HF.out.2.2.1; have h2 := HF.out.2.2.2.1; have h3 := HF.out.2.2.2.2; omega)).2 ⟨HF.out.1, hokN⟩
        have hpn := part_next zs k d so x
        rw [if_pos hokN] at hpn
        have hpp := part_pre zs k d so (x := x + 1) (y := k) (by omega)
        have hMM : (acc ++ xs).length + (ext zs k d (so ++ [(x : Int)])).length ≤ M := by
          have h1 := H0.out.2.2.2.2
          have h2 := hpp.length_le
          rw [hpn, List.length_append, part_end] at h2
          have h3 := congrArg List.length hx1
          rw [List.length_map] at h3
          rw [List.length_append]
          omega
        have hs0 : s0 ≤ wo.heap.size := Nat.le_trans H0.out.2.2.2.1 hx3.1
        have CI := Go.Lib.hid (fun (g4 c4 : Nat) (X' : World) (hX' : Below wo.heap.size wo X') (ho4 : X'.ownsRow B 3 1 (.slice (some ⟨g4, 0, none⟩) (m + 1) c4) (m + 1) (vals (so ++ [(x : Int)]))) =>
          (IHH.out (m + 1) (by have := HF.out.2.2.2.1; omega) (so ++ [(x : Int)]) g4 c4 (acc ++ xs) X' (by rw [List.length_append, HF.out.2.2.1]; rfl) hF2 (fun s hs => by
            rw [List.mem_append, List.mem_singleton] at hs
            rcases hs with hs | rfl
            · exact HF.out.2.1 s hs
            · omega) ho4 (hEo.keep (KeepC.of_below hX')) (HJH.out _ _ _ none hx2 (grown_of_below hX' none) (fun _ e => by cases e)) (Nat.le_trans hs0 hX'.size) hMM).mono (fun e Y h => h.out))
        have HCG := Go.Lib.hid (fun (X' : World) (hX' : Below wo.heap.size wo X') => (KeepC.of_below hX').cell hEo.low.2.2.2.2.1 hcg)
        have HBG : Hid (∀ X' : World, Below wo.heap.size wo X' → ∀ b : Addr, some (⟨gs, 0, none⟩ : Addr) = some b → ∀ (j : Nat) (u : Value), (vals so)[j]? = some u → X'.cell? (b.add j) = some u) := Go.Lib.hid (fun X' hX' b hb j u hu => by
          cases hb
          exact (kept_call hbo hX').cells (g := gs) rfl j u hu)
        have hl0 := hlook 0
        have hl1 : (Instr.lookup 82 (.map (some b1)) (.int .i64 (x : Int)) false).run Try.prog wo.drew = .ok (.bool false) wo.drew := hlook 1
        have hl2 : (Instr.lookup 82 (.map (some b1)) (.int .i64 (x : Int)) false).run Try.prog wo.drew.drew = .ok (.bool false) wo.drew.drew := hlook 2
        have hsoB : B ≤ wo.heap.size := by have h1 := hEo.low.2.2.2.2.2; have h2 := hEo.high; omega
        have HXX := Go.Lib.hid (And.intro hx1 (And.intro hx3 (And.intro hpn (And.intro hpp (And.intro hF2 hsoB)))))
        have HBGL : Hid (B ≤ bg) := Go.Lib.hid hEo.low.2.2.2.2.1
        have hbglt : bg < wo.heap.size := World.block_lt_of_cell? wo ⟨bg, 0, none⟩ hcg
        have hcg1 : wo.drew.cell? ⟨bg, 0, none⟩ = some (.func (.func 98) #[] #[.pointer (some ⟨bo, 0, none⟩), .pointer (some ⟨yb, 0, none⟩), .pointer (some ⟨bc, 0, none⟩), .pointer (some ⟨bk, 0, none⟩), .pointer (some ⟨bg, 0, none⟩)]) := hcg
        have hu2 := Try.underlying24
        have HI := Go.Lib.hid (And.intro hi (And.intro hz0 (And.intro hz1 hz2)))
        have BR := Go.Lib.hid (Below.refl wo.heap.size wo)
        have BRA := Go.Lib.hid ((Below.refl wo.heap.size wo).alloc (Nat.le_refl _) (.cells #[.int .i64 (x : Int)] 3))
        have HLV : Hid ((vals so).length = m * 1) := Go.Lib.hid (by rw [List.length_map, HF.out.2.2.1, Nat.mul_one])
        have hx4' := hx4
        clear hx1 hx2 hx3 hx4 hbo hEo hokN hF2 hpn hpp hMM hs0 hx4' hi hz0 hz1 hz2
        go_wp2_with fail
        go_region_held3 (fun X' => X'.cell? ⟨bg, 0, none⟩ = some (.func (.func 98) #[] #[.pointer (some ⟨bo, 0, none⟩), .pointer (some ⟨yb, 0, none⟩), .pointer (some ⟨bc, 0, none⟩), .pointer (some ⟨bk, 0, none⟩), .pointer (some ⟨bg, 0, none⟩)])) (first
          | exact HCG5.out.cell (p := ⟨bg, 0, none⟩) HBGL.out (HCG.out _ (below_heap H4.out.2 (by rfl) (by rfl) (by rfl) (by rfl)))
          | exact HCG.out _ (below_heap H4.out.2 (by rfl) (by rfl) (by rfl) (by rfl))
          | exact HCG.out _ (below_heap BRA.out (by rfl) (by rfl) (by rfl) (by rfl))
          | exact HCG.out _ (below_heap BR.out (by rfl) (by rfl) (by rfl) (by rfl))) (first
          | (have hX4 := H4; go_at_call 98; refine (CI.out g4 c4 _ (below_heap H4.out.2 (by rfl) (by rfl) (by rfl) (by rfl)) (own_heap (by rfl) H4.out.1)).mono ?_; rintro e w5 ⟨r5, rfl, hP5⟩; have H5 := Go.Lib.hid hP5; have HCG5 := Go.Lib.hid hP5.keep; clear hP5 hX4)
          | (refine step_append_guarded (by rfl) (.tmp 36) (.tmp 38) 24 rfl 3 i0 (.int .i64 0) 1 8 hu2 HI.out.1 HI.out.2.1 HI.out.2.2.1 HI.out.2.2.2 rfl (by decide) ⟨gs, 0, none⟩ m m (vals so) (by simp [Act.eval]) HLV.out (HBG.out _ (below_heap BRA.out (by rfl) (by rfl) (by rfl) (by rfl)) _ rfl) ⟨wo.heap.size, 0, none⟩ 1 1 [.int .i64 (x : Int)] (by simp [Act.eval]) rfl (fun jj u hu => cell_heap (by rfl) (cell_one_new wo (.int .i64 (x : Int)) 3 jj u hu)) (by omega) (by unfold maxLen; omega) (by omega) ?_; intro v4 w4 hown4 hgrow4; obtain ⟨g4, c4, rfl⟩ := ownsRow_succ hown4; have H4 := Go.Lib.hid (app_new hown4 HXX.out.2.2.2.2.2 hgrow4 BRA.out); clear hown4 hgrow4))
        all_goals
          clear hl0 hl1 hl2 hlook hcg hcg1 hbglt
          have hum : UseMap wo b1 (inUse (confs zs) so) := by
            obtain ⟨_, _, _, _, h⟩ := HX.out
            exact h
          cases r5 with
          | true =>
            have HN : Hid (∃ xs : List El, xs.map (·.1) = part zs k d so (x + 1) ∧ J (acc ++ xs) w5 ∧ KeepC B X w5 ∧ UseMap w5 b1 (inUse (confs zs) so)) := Go.Lib.hid (by
              have hkw : KeepC B wo w5 := (KeepC.of_below H4.out.2).trans HCG5.out
              rcases H5.out with ⟨_, ⟨ys, h1, h2⟩, _⟩ | ⟨h0, _⟩
              · refine ⟨xs ++ ys, by rw [List.map_append, HXX.out.1, h1, HXX.out.2.2.1], by rw [← List.append_assoc]; exact h2, HXX.out.2.1.trans hkw, hkw.use ?_ hum⟩
                have h3 := HB1.out.1
                have h4 := H0.out.2.1.high
                have h5 := H0.out.2.1.low.2.2.2.2.2
                omega
              · cases h0)
            clear hum
            go_wp2
            go_roundw
            case rel => exact ⟨x + 1, by omega, by go_num, HN⟩
            case measure => simp [intOf]; omega
          | false =>
            have HN : Hid (GoPost zs k B (d + 1) J Jx acc so X (.returned (.bool false)) w5) := Go.Lib.hid (by
              have hkw : KeepC B wo w5 := (KeepC.of_below H4.out.2).trans HCG5.out
              rcases H5.out with ⟨h0, _⟩ | ⟨_, ys, t, h1, h2, h3, _⟩
              · cases h0
              · have hpp := HXX.out.2.2.2.1
                rw [HXX.out.2.2.1, part_end] at hpp
                obtain ⟨h4, h5⟩ := take_pre hpp h1
                refine .inr ⟨rfl, xs ++ ys, (part zs k d so x).length + t, h4, ?_, by rw [← List.append_assoc]; exact h3, HXX.out.2.1.trans hkw⟩
                rw [List.map_append, HXX.out.1, h2, h5])
            clear hum
            go_wp2
            go_ret
            exact HN.out
    · have hxk2 : x = k := by omega
      have HN : Hid (GoPost zs k B (d + 1) J Jx acc so X (.returned (.bool true)) wo) := Go.Lib.hid (by
        obtain ⟨xs, h1, h2, h3, _⟩ := HX.out
        rw [hxk2] at h1
        exact .inl ⟨rfl, ⟨xs, h1, h2⟩, h3⟩)
      have hxi : ¬ (x : Int) < (k : Int) := by omega
      clear hxk2
      go_wp2_with fail
      go_ret
      exact HN.out

end Go.Proofs.Ytekihdnkkeggjaa.GoOnC

/-
  Contracts: the program's sharingsOf, and its iterator: it hands on each sharing that fits, in ascending order. Conditions: an order, at most 7 stacks.
-/
namespace Go.Proofs.Ytekihdnkkeggjaa.SIterC
open Go Go.Maps Go.RowKit Go.Shelf SeesC IntsC ExactC OrdMath BesM ListsC ConfIC UseC RangeC Range2C OrdersIterC GoOnC
set_option linter.unusedVariables false

attribute [local go_sem] Oper.semAt_some

theorem goOn_all (zs : List Int) (hord : Ord zs) (n k M s0 : Nat) (hl : zs.length = n) (hk7 : k ≤ 7) (p : Nat) (hp1 : 1 ≤ p) (l B bo yb bc bk bg : Nat) (ad : Option Addr) (cap g c N : Nat) (hN : (confs zs).length = N) (hNc : N ≤ c) (J Jx : List El → World → Prop) (HJ : AbidesFrom s0 J)
    (HY : ∀ so x X, J so X → GivenSh zs B n k x X → so.length < M → YieldAt Fence.wide (p - 1) Try.prog l #[x.2] X fun e Y => (e = .returned (.bool true) ∧ J (so ++ [x]) Y ∧ KeepC B X Y) ∨ (e = .returned (.bool false) ∧ Jx (so ++ [x]) Y ∧ KeepC B X Y)) :
    ∀ d, GoOnTo zs k n B M s0 l bo yb bc bk bg ad cap g c N J Jx d
  | 0 => by
    intro m hmd so gs cs acc X hso hF hr ho hE hJ hs0 hM
    obtain rfl : m = n := by omega
    exact goOn_base zs m k p M hp1 l B bo yb bc bk bg (confs zs) ad cap g c N J Jx HY so gs cs acc X hso hF hr ho hE hJ (by simp [ext] at hM; omega)
  | d + 1 => goOn_step zs hord n k M s0 hl hk7 l B bo yb bc bk bg ad cap g c N hN hNc J Jx HJ d (goOn_all zs hord n k M s0 hl hk7 p hp1 l B bo yb bc bk bg ad cap g c N hN hNc J Jx HJ HY d)

/-- What sharingsOf's iterator reads. -/
structure Src (B n k : Nat) (C : List (Nat × Nat)) (bo bc bk : Nat) (ad : Option Addr) (cap g c N : Nat) (X : World) : Prop where
  co : X.cell? ⟨bo, 0, none⟩ = some (.slice ad n cap)
  cc : X.cell? ⟨bc, 0, none⟩ = some (.slice (some ⟨g, 0, none⟩) N c)
  ck : X.cell? ⟨bk, 0, none⟩ = some (.int .i64 (k : Int))
  rows : ∀ i, i < N → X.cell? ⟨g, i * 2, none⟩ = some (.int .i64 ((C.getD i (0, 0)).1 : Int)) ∧ X.cell? ⟨g, i * 2 + 1, none⟩ = some (.int .i64 ((C.getD i (0, 0)).2 : Int))
  low : B ≤ bo ∧ B ≤ bc ∧ B ≤ bk ∧ B ≤ g
  high : g < X.heap.size
  len : C.length = N
  cap_le : N ≤ c

theorem Src.keep {B n k : Nat} {C : List (Nat × Nat)} {bo bc bk : Nat} {ad : Option Addr} {cap g c N : Nat} {X Y : World} (h : Src B n k C bo bc bk ad cap g c N X) (hk : KeepC B X Y) : Src B n k C bo bc bk ad cap g c N Y :=
  ⟨hk.cell h.low.1 h.co, hk.cell h.low.2.1 h.cc, hk.cell h.low.2.2.1 h.ck, fun i hi => ⟨hk.cell h.low.2.2.2 (h.rows i hi).1, hk.cell h.low.2.2.2 (h.rows i hi).2⟩, h.low, Nat.lt_of_lt_of_le h.high hk.1, h.len, h.cap_le⟩

theorem new_cell (w : World) (v : Value) (t : TypeId) : (w.alloc (.cells #[v] t)).cell? ⟨w.heap.size, 0, none⟩ = some v := by
  have hn := World.alloc_heap_new w (.cells #[v] t)
  unfold World.cell?; simp only [hn]; rfl

theorem kept_call2 {w w' : World} {B : Nat} {ty : TypeId} {s : Nat} {v : Value} {n : Nat} {xs : List Value} (h : w.ownsRow B ty s v n xs) (hb : Below w.heap.size w w') : w'.ownsRow B ty s v n xs :=
  h.kept (grown_of_below hb none) (by cases hv : v.ownBlock <;> simp)

theorem prv_get : ∀ (C : List (Nat × Nat)) (i : Nat), i < C.length → (prv C)[i * 2]? = some (.int .i64 ((C.getD i (0, 0)).1 : Int)) ∧ (prv C)[i * 2 + 1]? = some (.int .i64 ((C.getD i (0, 0)).2 : Int))
  | [], i, h => by simp at h
  | p :: C, i, h => by
    have e : prv (p :: C) = .int .i64 (p.1 : Int) :: .int .i64 (p.2 : Int) :: prv C := rfl
    rw [e]
    cases i with
    | zero => exact ⟨rfl, rfl⟩
    | succ i =>
      have h2 := prv_get C i (by simpa using h)
      have e2 : (i + 1) * 2 = i * 2 + 1 + 1 := by omega
      rw [e2]
      simpa using h2

theorem prv_cells {w : World} {B g c N : Nat} {C : List (Nat × Nat)} (h : w.ownsRow B 41 2 (.slice (some ⟨g, 0, none⟩) N c) N (prv C)) (hN : C.length = N) {i : Nat} (hi : i < N) : w.cell? ⟨g, i * 2, none⟩ = some (.int .i64 ((C.getD i (0, 0)).1 : Int)) ∧ w.cell? ⟨g, i * 2 + 1, none⟩ = some (.int .i64 ((C.getD i (0, 0)).2 : Int)) := by
  have h1 := prv_get C i (by omega)
  have h2 := h.cells (g := g) rfl (i * 2) _ h1.1
  have h3 := h.cells (g := g) rfl (i * 2 + 1) _ h1.2
  have ea : ∀ j, ((⟨g, 0, none⟩ : Addr).add j) = ⟨g, j, none⟩ := by intro j; cases j <;> simp [Addr.add]
  rw [ea] at h2 h3
  exact ⟨h2, h3⟩

set_option maxRecDepth 100000 in
set_option maxHeartbeats 4000000 in
theorem sharings_hands (zs : List Int) (hord : Ord zs) (n k : Nat) (hl : zs.length = n) (hk7 : k ≤ 7) (q : Nat) (hq : 1 ≤ q) (B bo bc bk : Nat) (ad : Option Addr) (cap g c N : Nat) (w : World) (hB : B ≤ w.heap.size) (hS : Src B n k (confs zs) bo bc bk ad cap g c N w) :
    Hands2 (α := El) Fence.wide q Try.prog 97 #[.pointer (some ⟨bo, 0, none⟩), .pointer (some ⟨bc, 0, none⟩), .pointer (some ⟨bk, 0, none⟩)] (fun x => #[x.2]) (GivenSh zs B n k) (KeepC B) (fun xs => xs.map (·.1) = ext zs k n []) (fun so => ∃ t, t < (ext zs k n []).length ∧ so.map (·.1) = (ext zs k n []).take (t + 1)) (ext zs k n []).length w := by
  intro l J Jx W hW hJ hY h0
  have hSW := hS.keep (KeepC.of_below hW)
  have hBW : B ≤ W.heap.size := Nat.le_trans hB hW.size
  have hb3 : Below W.heap.size W (((W.alloc (.cells #[.func (.yield l) #[] #[]] 58)).alloc (.cells #[(.func (.func 98) #[] #[.pointer (some ⟨bo, 0, none⟩), .pointer (some ⟨W.heap.size, 0, none⟩), .pointer (some ⟨bc, 0, none⟩), .pointer (some ⟨bk, 0, none⟩), .pointer (some ⟨W.heap.size + 1, 0, none⟩)])] 58)).alloc (.cells #[] 3)) := (((Below.refl _ W).alloc (Nat.le_refl _) _).alloc (by simp) _).alloc (by simp; omega) _
  have hB1 := Boxed.new W 58 (.func (.yield l) #[] #[])
  have hB2 := Boxed.new (W.alloc (.cells #[.func (.yield l) #[] #[]] 58)) 58 (.func (.func 98) #[] #[.pointer (some ⟨bo, 0, none⟩), .pointer (some ⟨W.heap.size, 0, none⟩), .pointer (some ⟨bc, 0, none⟩), .pointer (some ⟨bk, 0, none⟩), .pointer (some ⟨W.heap.size + 1, 0, none⟩)])
  have hB0 := Boxed.new (W.alloc (.cells #[.func (.yield l) #[] #[]] 58)) 58 .nilFunc
  rw [World.size_alloc] at hB2 hB0
  have hcy := (((hB1.alloc (.cells #[(.func (.func 98) #[] #[.pointer (some ⟨bo, 0, none⟩), .pointer (some ⟨W.heap.size, 0, none⟩), .pointer (some ⟨bc, 0, none⟩), .pointer (some ⟨bk, 0, none⟩), .pointer (some ⟨W.heap.size + 1, 0, none⟩)])] 58)).alloc (.cells #[] 3))).cell
  have hcg := (hB2.alloc (.cells #[] 3)).cell
  have ho3 : ((((W.alloc (.cells #[.func (.yield l) #[] #[]] 58)).alloc (.cells #[(.func (.func 98) #[] #[.pointer (some ⟨bo, 0, none⟩), .pointer (some ⟨W.heap.size, 0, none⟩), .pointer (some ⟨bc, 0, none⟩), .pointer (some ⟨bk, 0, none⟩), .pointer (some ⟨W.heap.size + 1, 0, none⟩)])] 58)).alloc (.cells #[] 3))).ownsRow B 3 1 (.slice (some ⟨W.heap.size + 1 + 1, 0, none⟩) 0 0) 0 (vals []) := by
    have h1 := World.ownsRow_made (base := B) (e := 3) (size := 1) ((W.alloc (.cells #[.func (.yield l) #[] #[]] 58)).alloc (.cells #[(.func (.func 98) #[] #[.pointer (some ⟨bo, 0, none⟩), .pointer (some ⟨W.heap.size, 0, none⟩), .pointer (some ⟨bc, 0, none⟩), .pointer (some ⟨bk, 0, none⟩), .pointer (some ⟨W.heap.size + 1, 0, none⟩)])] 58)) #[] 0 (by simp; omega) (by unfold maxLen; omega) rfl
    simp only [World.size_alloc] at h1
    exact h1
  have CG : Hid (∀ W3 : World, W3 = (((W.alloc (.cells #[.func (.yield l) #[] #[]] 58)).alloc (.cells #[(.func (.func 98) #[] #[.pointer (some ⟨bo, 0, none⟩), .pointer (some ⟨W.heap.size, 0, none⟩), .pointer (some ⟨bc, 0, none⟩), .pointer (some ⟨bk, 0, none⟩), .pointer (some ⟨W.heap.size + 1, 0, none⟩)])] 58)).alloc (.cells #[] 3)) → Calls Try.prog 98 #[.slice (some ⟨W.heap.size + 1 + 1, 0, none⟩) 0 0, .pointer (some ⟨bo, 0, none⟩), .pointer (some ⟨W.heap.size, 0, none⟩), .pointer (some ⟨bc, 0, none⟩), .pointer (some ⟨bk, 0, none⟩), .pointer (some ⟨W.heap.size + 1, 0, none⟩)] W3 (GoPost zs k B n J Jx [] [] W3)) := Go.Lib.hid (by
    rintro W3 rfl
    have hS3 := hSW.keep (KeepC.of_below hb3)
    refine goOn_all zs hord n k (ext zs k n []).length W.heap.size hl hk7 q hq l B bo W.heap.size bc bk (W.heap.size + 1) ad cap g c N hS.len hS.cap_le J Jx hJ hY n 0 (by omega) [] (W.heap.size + 1 + 1) 0 [] _ rfl (fits_nil zs) (by simp) ho3 ?_ (hJ _ _ _ none h0 (grown_of_below hb3 none) (fun _ e => by cases e)) hb3.size (by simp)
    exact ⟨hS3.co, hcy, hS3.cc, hS3.ck, hcg, hS3.rows, ⟨hS.low.1, hBW, hS.low.2.1, hS.low.2.2.1, by omega, hS.low.2.2.2⟩, hS3.high⟩)
  have hc2 := hB0.cell
  have hf2 := hB0.frozen
  have hc3 := hB2.cell
  clear hb3 hB0 hB1 hB2 hcy hcg ho3 hY hJ h0 hW hS hB hSW
  refine callsIn_of_wp Try.func97 rfl trivial ?_ rfl
  simp only [Try.ntmps97, List.size_toArray, List.length_cons, List.length_nil, Nat.reduceAdd, Nat.reduceSub, Array.replicate_succ, Array.replicate_zero, List.push_toArray, List.append_toArray, List.nil_append, List.cons_append]
  gi_wp2_with fail
  refine ⟨trivial, ?_⟩
  gi_at_call 98
  refine (callsIn_wide.2 (CG.out _ rfl)).mono ?_
  rintro e Y (⟨rfl, ⟨xs, h1, h2⟩, _⟩ | ⟨rfl, xs, t, h1, h2, h3, _⟩)
  · have HN : Hid ((∃ xs : List El, xs.map (·.1) = ext zs k n [] ∧ J xs Y) ∨ ∃ so : List El, (∃ t, t < (ext zs k n []).length ∧ so.map (·.1) = (ext zs k n []).take (t + 1)) ∧ Jx so Y) := Go.Lib.hid (.inl ⟨xs, h1, by simpa using h2⟩)
    clear h1 h2 CG
    gi_wp2_with fail
    go_end0
    exact ⟨⟨_, rfl⟩, HN.out⟩
  · have HN : Hid ((∃ xs : List El, xs.map (·.1) = ext zs k n [] ∧ J xs Y) ∨ ∃ so : List El, (∃ t, t < (ext zs k n []).length ∧ so.map (·.1) = (ext zs k n []).take (t + 1)) ∧ Jx so Y) := Go.Lib.hid (.inr ⟨xs, ⟨t, h1, h2⟩, by simpa using h3⟩)
    clear h1 h2 h3 CG
    gi_wp2_with fail
    go_end0
    exact ⟨⟨_, rfl⟩, HN.out⟩

/-- What sharingsOf hands back. -/
def SrcTo (zs : List Int) (n k : Nat) (W : World) (e : Ending) (w' : World) : Prop :=
  ∃ bo bc bk ad cap g c N, e = .returned (.func (.func 97) #[] #[.pointer (some ⟨bo, 0, none⟩), .pointer (some ⟨bc, 0, none⟩), .pointer (some ⟨bk, 0, none⟩)]) ∧ Src W.heap.size n k (confs zs) bo bc bk ad cap g c N w' ∧ Below W.heap.size W w'

set_option maxRecDepth 100000 in
set_option maxHeartbeats 2000000 in
theorem sharingsOf_any (zs : List Int) (hord : Ord zs) (n k : Nat) (W : World) (v : Value) (hv : Sees W v n (vals zs)) :
    Calls Try.prog 78 #[v, .int .i64 (k : Int)] W (SrcTo zs n k W) := by
  have hl : zs.length = n := by simpa using hv.1
  have HV := Go.Lib.hid hv
  have hOR := Go.Lib.hid hord
  obtain ⟨_, ad, cap, rfl, _, _⟩ := hv
  have hB1 := Boxed.new W 24 (.slice ad n cap)
  have hB2 := Boxed.new (W.alloc (.cells #[.slice ad n cap] 24)) 3 (.int .i64 (k : Int))
  rw [World.size_alloc] at hB2
  have hb2 : Below W.heap.size W ((W.alloc (.cells #[.slice ad n cap] 24)).alloc (.cells #[.int .i64 (k : Int)] 3)) := ((Below.refl _ W).alloc (Nat.le_refl _) _).alloc (by simp) _
  have hco := (hB1.alloc (.cells #[.int .i64 (k : Int)] 3)).cell
  have hck := hB2.cell
  have CC := Go.Lib.hid (conflicts_any zs hord _ (.slice ad n cap) n (HV.out.grow hb2))
  have H2 := Go.Lib.hid (And.intro hb2 (And.intro hco hck))
  clear hB1 hB2 hb2 hck hord hl
  go_enter Try.func78, Try.ntmps78
  go_wp2_with fail
  refine (CC.out).mono ?_
  rintro e w1 ⟨g, c, N, rfl, hW1⟩
  obtain ⟨hlN, ho, hb⟩ := hW1
  have hb1 : Below W.heap.size W w1 := H2.out.1.trans (hb.mono H2.out.1.size)
  have hB3 := Boxed.new w1 36 (.slice none 0 0)
  have hc3 := hB3.cell
  have hf3 := hB3.frozen
  have hco1 := (hb.cell (p := ⟨W.heap.size, 0, none⟩) (by simp; omega)).trans H2.out.2.1
  have hck1 := (hb.cell (p := ⟨W.heap.size + 1, 0, none⟩) (by simp)).trans H2.out.2.2
  have H3 := Go.Lib.hid (And.intro hlN (And.intro ho (And.intro hb1 (And.intro hB3 (And.intro hco1 hck1)))))
  clear hlN ho hb hb1 hB3 hco1 hck1 CC hco
  go_wp2_with fail
  have hbA : Below W.heap.size W (w1.alloc (.cells #[.slice (some ⟨g, 0, none⟩) N c] 36)) := H3.out.2.2.1.alloc H3.out.2.2.1.size _
  have hbN : Below w1.heap.size w1 (w1.alloc (.cells #[.slice (some ⟨g, 0, none⟩) N c] 36)) := (Below.refl _ w1).alloc (Nat.le_refl _) _
  have hB4 := Boxed.new w1 36 (.slice (some ⟨g, 0, none⟩) N c)
  have hs1 := H3.out.2.2.1.size
  have hco2 := H3.out.2.2.2.2.1
  have hck2 := H3.out.2.2.2.2.2
  have hgl := H3.out.2.1.lt g rfl
  have hsz1 := World.block_lt_of_cell? w1 ⟨W.heap.size + 1, 0, none⟩ hck2
  go_ret
  refine ⟨W.heap.size, w1.heap.size, W.heap.size + 1, ad, cap, g, c, N, rfl, ?_, hbA⟩
  refine ⟨(hbN.cell (p := ⟨W.heap.size, 0, none⟩) (by show W.heap.size < _; simp at hsz1; omega)).trans hco2, hB4.cell, (hbN.cell (p := ⟨W.heap.size + 1, 0, none⟩) hsz1).trans hck2, fun i hi => ?_, ⟨Nat.le_refl _, hs1, Nat.le_succ _, by have := hgl.1; simp at this; omega⟩, by have := hgl.2; simp; omega, H3.out.1, ?_⟩
  · have h1 := kept_call2 H3.out.2.1 hbN
    exact prv_cells h1 H3.out.1 hi
  · obtain ⟨_, h2⟩ := H3.out.2.1
    rcases h2 with ⟨h3, h4⟩ | ⟨_, _, _, e, _, _, h5, _⟩
    · cases h3
    · cases e; exact h5

end Go.Proofs.Ytekihdnkkeggjaa.SIterC

/-
  Contracts: GreedySharing of the model and of the program. Conditions: lists of at most 2^20 numbers.
-/
namespace Go.Proofs.Ytekihdnkkeggjaa.GreedyC
open Go.RowKit SeesC IntsC ExactC OrdMath InC OrderC BesM ListsC FitsC Own1C SameC AppendTwoC GoSC ConfIC UseC
set_option linter.unusedVariables false

theorem firstOk_some {zs so : List Int} {x : Nat} (hx : x < 4) (h : okN zs so (x : Int) = true) (hl : ∀ y : Nat, y < x → okN zs so (y : Int) = false) : firstOk zs so = some (x : Int) := by
  unfold firstOk
  have h4 : x = 0 ∨ x = 1 ∨ x = 2 ∨ x = 3 := by omega
  rcases h4 with rfl | rfl | rfl | rfl
  · simp only [List.find?_cons]
    have h' : okN zs so 0 = true := h
    rw [h']; rfl
  · have h0 : okN zs so 0 = false := hl 0 (by omega)
    have h' : okN zs so 1 = true := h
    simp only [List.find?_cons, h0, h']; rfl
  · have h0 : okN zs so 0 = false := hl 0 (by omega)
    have h1 : okN zs so 1 = false := hl 1 (by omega)
    have h' : okN zs so 2 = true := h
    simp only [List.find?_cons, h0, h1, h']; rfl
  · have h0 : okN zs so 0 = false := hl 0 (by omega)
    have h1 : okN zs so 1 = false := hl 1 (by omega)
    have h2 : okN zs so 2 = false := hl 2 (by omega)
    have h' : okN zs so 3 = true := h
    simp only [List.find?_cons, h0, h1, h2, h']; rfl

theorem firstOk_none {zs so : List Int} (hl : ∀ y : Nat, y < 4 → okN zs so (y : Int) = false) : firstOk zs so = none := by
  unfold firstOk
  have h0 : okN zs so 0 = false := hl 0 (by omega)
  have h1 : okN zs so 1 = false := hl 1 (by omega)
  have h2 : okN zs so 2 = false := hl 2 (by omega)
  have h3 : okN zs so 3 = false := hl 3 (by omega)
  simp only [List.find?_cons, List.find?_nil, h0, h1, h2, h3]

section
variable {P : Program} {w : World}
theorem wpList_append_guarded (w : World) {ops : Array Oper} {rest : List Oper} {o : Oper} {a : Act} {Q : Exit → Act → World → Prop}
    (hw : Region.wanted o (yielded ops a.tmps) = true) (s x : Operand) (t : TypeId) (hop : o.op = Op.call { callee := Callee.builtin Builtin.append, args := #[s, x], argTypes := #[t, t] })
    (base : Nat) (e : TypeId) (i : TypeInfo) (z : Value) (size bytes : Nat) (h1 : P.underlying t = some (.slice e)) (h2 : P.info? e = some i) (h3 : i.zero = some z) (h4 : i.size = size) (h5 : i.bytes = bytes) (h6 : z.cells.size = size) (h7 : 0 < size)
    (v : Value) (k : Nat) (xs : List Value) (hs : a.eval s = v) (hown : w.ownsRow base e size v k xs) (ad : Addr) (m c : Nat) (news : List Value) (hx : a.eval x = .slice (some ad) m c) (hn : news.length = m * size)
    (hc : ∀ j u, news[j]? = some u → w.cell? (ad.add j) = some u) (h1c : ∀ u ∈ news, u.oneCell' = true) (b1 : k + m ≤ maxLen) (b2 : (k + m) * bytes ≤ 140737488355328) (b3 : base ≤ w.heap.size)
    (hK : ∀ v' w', w'.ownsRow base e size v' (k + m) (xs ++ news) → w.grownBy w' v.ownBlock → NewRow w v v' → wpList P ops Q rest (a.put o.dst v') w') :
    wpList P ops Q (o :: rest) a w := by
  refine wpList_step fun K hK' => ?_
  rw [if_pos hw]
  obtain ⟨v', w', hrun, r1, r2, r3⟩ := run_append_two (P := P) w base t o.type e i z size bytes h1 h2 h3 h4 h5 h6 h7 v k xs hown ad m c news hn hc h1c b1 b2 b3
  unfold Oper.wp
  simp [execOp, hop, resolve, invoke, builtin, hs, hx, hrun, Result.andThen]
  exact hK' _ _ (hK v' w' r1 r2 r3)
end

/-- The length that a slice's value tells. -/
def lenOf : Value → Nat
  | .slice _ n _ => n
  | _ => 0

/-- What is there behind some places. -/
def GrW (zs : List Int) (n : Nat) (W : World) (R : Option (List Int)) (so : List Int) (m g c : Nat) (wr : World) : Prop :=
  so.length = m ∧ greedy zs (n - m) so = R ∧ Fits zs so ∧ wr.ownsRow W.heap.size 3 1 (.slice (some ⟨g, 0, none⟩) m c) m (vals so) ∧ Below W.heap.size W wr ∧ ∀ x ∈ so, 0 ≤ x ∧ x < 4

theorem own_apart {w : World} {B B' s s' n n' : Nat} {ty ty' : TypeId} {v v' : Value} {xs xs' : List Value} (h : w.ownsRow B ty s v n xs) (h' : w.ownsRow B' ty' s' v' n' xs') (hne : ty ≠ ty') {q : Nat} (e : v.ownBlock = some q) (e' : v'.ownBlock = some q) : False := by
  rcases h.2 with ⟨rfl, _⟩ | ⟨g, cap, cur, rfl, _, hg, _⟩
  · simp [Value.ownBlock] at e
  · rcases h'.2 with ⟨rfl, _⟩ | ⟨g', cap', cur', rfl, _, hg', _⟩
    · simp [Value.ownBlock] at e'
    · simp [Value.ownBlock] at e e'
      subst e
      subst e'
      rw [hg] at hg'
      cases hg'
      exact hne rfl

theorem own_lower2 {w : World} {base base' s : Nat} {ty : TypeId} {v : Value} {n : Nat} {xs : List Value} (h : w.ownsRow base ty s v n xs) (hle : base' ≤ base) : w.ownsRow base' ty s v n xs := own_lower h hle

set_option maxRecDepth 100000 in
set_option maxHeartbeats 8000000 in
theorem specGreedy (zs : List Int)  (xs : List Int) (b : Bool) (h : greedyAns zs = (xs, b)) (hz : zs.length ≤ 1048576)  (W : World) (v : Value) (n : Nat) (hv : Sees W v n (vals zs)) :
    Calls Try.prog 40 #[v] W fun e w' => ListTo W e w' xs b := by
  have hl : zs.length = n := by simpa using hv.1
  have hn : n ≤ 1048576 := by omega
  obtain ⟨r, hr⟩ : ∃ r, isOrd zs = r := ⟨_, rfl⟩
  have CO := Go.Lib.hid (fun W' (hs' : Sees W' v n (vals zs)) => l2Order_any W' v n zs r hs' hn hr)
  have HV := Go.Lib.hid hv
  unfold greedyAns at h
  obtain ⟨_, ad, cap, rfl, _, _⟩ := hv
  cases r with
  | false =>
    rw [if_neg (by intro h1; unfold isOrd at hr; exact of_decide_eq_false hr h1)] at h
    cases h
    clear hr
    go_enter Try.func40, Try.ntmps40
    go_wp2_with fail
    refine (CO.out _ HV.out).mono ?_
    rintro e w1 ⟨rfl, hd⟩
    have HB1 : Hid (Below W.heap.size W w1) := Go.Lib.hid (hd.below _)
    clear hd
    go_wp2_with fail
    go_ret2
    exact listTo_below HB1.out (listTo_none _ _)
  | true =>
    have hord : Ord zs := by unfold isOrd at hr; exact of_decide_eq_true hr
    clear hr
    obtain ⟨i0, hi, hz0, hz1, hz2⟩ := info_parts infoI
    have hn7 : n ≤ 7 := by have := hord.2.1; omega
    rw [if_pos hord, hl] at h
    obtain ⟨R, hR⟩ : ∃ R, greedy zs n [] = R := ⟨_, rfl⟩
    rw [hR] at h
    have HH := Go.Lib.hid (And.intro h (And.intro hl hR))
    clear h hord hl hR hz
    go_enter Try.func40, Try.ntmps40
    go_wp2_with fail
    refine (CO.out _ HV.out).mono ?_
    rintro e w1 ⟨rfl, hd⟩
    have HB1 : Hid (Below W.heap.size W w1) := Go.Lib.hid (hd.below _)
    clear hd
    go_wp2_with fail
    have H0 : Hid (GrW zs n W R [] 0 w1.heap.size 0 (w1.alloc (.cells #[] 3))) := Go.Lib.hid ⟨rfl, by rw [Nat.sub_zero]; exact HH.out.2.2, fits_nil zs, World.ownsRow_made _ _ _ HB1.out.size (by unfold maxLen; omega) rfl, HB1.out.alloc HB1.out.size _, by simp⟩
    go_loopw [4] (fun ov wr => ∃ (m g c : Nat) (so : List Int), m ≤ n ∧ ov = .slice (some ⟨g, 0, none⟩) m c ∧ Hid (GrW zs n W R so m g c wr)) (fun ov _ => n - (lenOf ov))
    case atStart => exact ⟨0, w1.heap.size, 0, [], Nat.zero_le _, rfl, H0⟩
    case round =>
      obtain ⟨m, g, cp, so, hmn, rfl, HX⟩ := hrel
      clear H0
      obtain ⟨wx, rfl⟩ : ∃ wx, wx = wr := ⟨_, rfl⟩
      by_cases hlt : m < n
      · have hmi : (m : Int) < (n : Int) := by omega
        have hfB : fitsB zs so = true := fitsB_iff.2 HX.out.2.2.1
        have HFB := Go.Lib.hid hfB
        clear hfB
        go_wp2_with fail
        go_loopw [5] (fun xv wr => ∃ (x : Nat), x ≤ 4 ∧ xv = .int .i64 (x : Int) ∧ Hid ((∀ y : Nat, y < x → okN zs so (y : Int) = false) ∧ Below wx.heap.size wx wr)) (fun xv _ => 4 - (intOf xv).toNat)
        case atStart => exact ⟨0, by omega, rfl, Go.Lib.hid ⟨fun y hy => by omega, Below.refl _ _⟩⟩
        case round =>
          obtain ⟨x, hx4, rfl, HY⟩ := hrel
          obtain ⟨wo, rfl⟩ : ∃ wo, wo = wr := ⟨_, rfl⟩
          have hWw : W.heap.size ≤ wx.heap.size := HX.out.2.2.2.2.1.size
          have hxs := HY.out.2.size
          by_cases hxl : x < 4
          · have hson := kept_call HX.out.2.2.2.1 HY.out.2
            have HRB : Hid (wo.heap.size ≤ wo.heap.size) := Go.Lib.hid (Nat.le_refl _)
            have CO' := Go.Lib.hid (fun (X : World) (hX : Below wo.heap.size wo X) => l1Own_any so g 0 m cp X HX.out.1 (by omega) (own_zero (Sees.owns (kept_call hson hX))))
            obtain ⟨q, hq⟩ : ∃ q, okN zs so (x : Int) = q := ⟨_, rfl⟩
            have hq2 := (fitsB_snoc (x := (x : Int)) (by have h1 := HX.out.1; have h2 := HH.out.2.1; omega) HFB.out).trans hq
            have HQ := Go.Lib.hid (And.intro hq hq2)
            have hxi : (x : Int) < 4 := by omega
            clear hson hq hq2
            go_wp2_with fail
            refine (CO'.out _ (Below.refl _ _)).mono ?_
            rintro e wA ⟨gA, cA, rfl, hoA, hbA⟩
            have HA := Go.Lib.hid (And.intro hoA hbA)
            have hszA := hbA.size
            clear hoA hbA
            go_wp2_with (at_builtin; refine wpList_append_guarded _ (by rfl) _ _ 24 rfl wo.heap.size 3 i0 (.int .i64 0) 1 8 Try.underlying24 hi hz0 hz1 hz2 rfl (by decide) (.slice (some ⟨gA, 0, none⟩) m cA) m (vals so) rfl (World.ownsRow.alloc (own_lower HA.out.1 HRB.out) _) ⟨wA.heap.size, 0, none⟩ 1 1 [.int .i64 (x : Int)] rfl rfl (cell_one_new _ _ _) (fun u hu => by simp at hu; subst hu; rfl) (by unfold maxLen; omega) (by omega) (by have := HRB.out; simp; omega) ?_; intro v4 w4 hown4 hgrow4 _; obtain ⟨g4, c4, rfl⟩ := ownsRow_succ hown4; have H4 := Go.Lib.hid (app_one hown4 HA.out.1 HA.out.2 hgrow4); clear hown4 hgrow4; have CR := Go.Lib.hid (l7Fits_any zs (so ++ [(x : Int)]) q HQ.out.2 w4 (.slice ad n cap) n (HV.out.grow (HX.out.2.2.2.2.1.trans ((HY.out.2.trans (H4.out.2.mono hxs)).mono HX.out.2.2.2.2.1.size))) (.slice (some ⟨g4, 0, none⟩) (m + 1) c4) (m + 1) (Sees.owns H4.out.1) (by omega) (by omega)))
            refine (CR.out).mono ?_
            rintro e w5 ⟨rfl, hd5⟩
            have H5 : Hid (Below wx.heap.size wx w5) := Go.Lib.hid (HY.out.2.trans ((H4.out.2.trans ((hd5.below _).mono H4.out.2.size)).mono hxs))
            clear hd5 CR CO'
            cases q with
            | false =>
              have HN : Hid ((∀ y : Nat, y < x + 1 → okN zs so (y : Int) = false) ∧ Below wx.heap.size wx w5) := Go.Lib.hid ⟨fun y hy => by
                by_cases h1 : y = x
                · subst h1; exact HQ.out.1
                · exact HY.out.1 y (by omega), H5.out⟩
              go_wp2_with fail
              go_roundw
              case rel => exact ⟨x + 1, by omega, by go_num, HN⟩
              case measure => simp [intOf]; omega
            | true =>
              have hne : ((x : Int) == 4) = false := by rw [beq_eq_false_iff_ne]; omega
              have hfo := firstOk_some hxl HQ.out.1 HY.out.1
              have h5s := H5.out.size
              have HR := Go.Lib.hid (And.intro hfo (World.ownsRow.alloc (kept_call HX.out.2.2.2.1 H5.out) (.cells #[.int .i64 (x : Int)] 3)))
              clear hfo
              go_wp2_with (at_builtin; refine wpList_append_two _ rfl _ _ 24 rfl W.heap.size 3 i0 (.int .i64 0) 1 8 Try.underlying24 hi hz0 hz1 hz2 rfl (by decide) (.slice (some ⟨g, 0, none⟩) m cp) m (vals so) rfl HR.out.2 ⟨w5.heap.size, 0, none⟩ 1 1 [.int .i64 (x : Int)] rfl rfl (cell_one_new _ _ _) (fun u hu => by simp at hu; subst hu; rfl) (by unfold maxLen; omega) (by omega) (by simp; omega) ?_; intro v6 w6 hown6 hgrow6 _; obtain ⟨g6, c6, rfl⟩ := ownsRow_succ hown6; have H6 := Go.Lib.hid (And.intro hown6 hgrow6); clear hown6 hgrow6)
              have HN : Hid (GrW zs n W R (so ++ [(x : Int)]) (m + 1) g6 c6 w6) := Go.Lib.hid (by
                refine ⟨by rw [List.length_append, HX.out.1]; rfl, ?_, (fits_snoc (by have h1 := HX.out.1; have h2 := HH.out.2.1; omega)).2 ⟨HX.out.2.2.1, HQ.out.1⟩, ?_, ?_⟩
                · have h1 := HX.out.2.1
                  rw [show n - m = (n - (m + 1)) + 1 from by omega, greedy, HR.out.1] at h1
                  exact h1
                · have e1 : vals (so ++ [(x : Int)]) = vals so ++ [.int .i64 (x : Int)] := List.map_append
                  rw [e1]; exact H6.out.1
                · have h1 : Below W.heap.size W (w5.alloc (.cells #[.int .i64 (x : Int)] 3)) := (HX.out.2.2.2.2.1.trans (H5.out.mono HX.out.2.2.2.2.1.size)).alloc (by omega) _
                  exact ⟨h1.grown H6.out.2 h1.size (fun q hq => (HX.out.2.2.2.1.lt q hq).1), fun z hz => by
                    rw [List.mem_append, List.mem_singleton] at hz
                    rcases hz with hz | rfl
                    · exact HX.out.2.2.2.2.2 z hz
                    · omega⟩)
              go_roundw
              case rel => exact ⟨m + 1, g6, c6, so ++ [(x : Int)], by omega, rfl, HN⟩
              case measure => simp [lenOf]; omega
          · have hx4' : x = 4 := by omega
            subst hx4'
            have HF : Hid (xs = [] ∧ b = false) := Go.Lib.hid (by
              have h1 := HX.out.2.1
              rw [show n - m = (n - (m + 1)) + 1 from by omega, greedy, firstOk_none HY.out.1] at h1
              have h2 := HH.out.1
              rw [← h1] at h2
              cases h2
              exact ⟨rfl, rfl⟩)
            have HBW : Hid (Below W.heap.size W wo) := Go.Lib.hid (HX.out.2.2.2.2.1.trans (HY.out.2.mono HX.out.2.2.2.2.1.size))
            go_wp2_with fail
            go_ret2
            rw [HF.out.1, HF.out.2]
            exact listTo_below HBW.out (listTo_none _ _)
      · have hmn2 : m = n := by omega
        have HF : Hid (xs = so ∧ b = true) := Go.Lib.hid (by
          have h1 := HX.out.2.1
          rw [show n - m = 0 from by omega, greedy] at h1
          have h2 := HH.out.1
          rw [← h1] at h2
          cases h2
          exact ⟨rfl, rfl⟩)
        have hmi : ¬ (m : Int) < (n : Int) := by omega
        clear hmn2
        go_wp2_with fail
        go_ret2
        rw [HF.out.1, HF.out.2]
        exact ⟨_, rfl, by rw [HX.out.1]; exact HX.out.2.2.2.1, HX.out.2.2.2.2.1⟩

set_option maxRecDepth 100000 in
set_option maxHeartbeats 8000000 in
theorem implGreedy (zs : List Int)  (xs : List Int) (b : Bool) (h : greedyAns zs = (xs, b)) (hz : zs.length ≤ 1048576)  (W : World) (v : Value) (n : Nat) (hv : Sees W v n (vals zs)) :
    Calls Try.prog 39 #[v] W fun e w' => ListTo W e w' xs b := by
  have hl : zs.length = n := by simpa using hv.1
  have hn : n ≤ 1048576 := by omega
  obtain ⟨r, hr⟩ : ∃ r, isOrd zs = r := ⟨_, rfl⟩
  have CO := Go.Lib.hid (fun W' (hs' : Sees W' v n (vals zs)) => implOrder_any W' v n zs r hs' hn hr)
  have HV := Go.Lib.hid hv
  unfold greedyAns at h
  obtain ⟨_, ad, cap, rfl, _, _⟩ := hv
  cases r with
  | false =>
    rw [if_neg (by intro h1; unfold isOrd at hr; exact of_decide_eq_false hr h1)] at h
    cases h
    clear hr
    go_enter Try.func39, Try.ntmps39
    go_wp2_with fail
    go_step3
    go_wp2_with fail
    refine (CO.out _ HV.out).mono ?_
    rintro e w1 ⟨rfl, hd⟩
    have HB1 : Hid (Below W.heap.size W w1) := Go.Lib.hid hd
    clear hd
    go_wp2_with fail
    rw [Exit.noGoto_ret]
    go_ret2
    exact listTo_below HB1.out (listTo_none _ _)
  | true =>
    have hord : Ord zs := by unfold isOrd at hr; exact of_decide_eq_true hr
    clear hr
    obtain ⟨i0, hi, hz0, hz1, hz2⟩ := info_parts infoI
    have hn7 : n ≤ 7 := by have := hord.2.1; omega
    have CC := Go.Lib.hid (fun W' (hs' : Sees W' (.slice ad n cap) n (vals zs)) => conflicts_any zs hord W' (.slice ad n cap) n hs')
    rw [if_pos hord, hl] at h
    obtain ⟨R, hR⟩ : ∃ R, greedy zs n [] = R := ⟨_, rfl⟩
    rw [hR] at h
    have hN98 := confs_len (zs := zs) (by omega)
    have HH := Go.Lib.hid (And.intro h (And.intro hl hR))
    clear h hord hl hR hz
    go_enter Try.func39, Try.ntmps39
    go_wp2_with fail
    go_step3
    go_wp2_with fail
    refine (CO.out _ HV.out).mono ?_
    rintro e w1 ⟨rfl, hd⟩
    have HB1 : Hid (Below W.heap.size W w1) := Go.Lib.hid hd
    clear hd
    go_wp2_with fail
    refine (CC.out _ (HV.out.grow HB1.out)).mono ?_
    rintro e w2 ⟨gc, cc, NC, rfl, hNC, hoC, hbC⟩
    have hNC98 : NC ≤ 98 := by omega
    have H2 := Go.Lib.hid (And.intro hNC (And.intro (own_lower2 hoC HB1.out.size) (HB1.out.trans (hbC.mono HB1.out.size))))
    have h2s := H2.out.2.2.size
    clear hNC hoC hbC CC
    go_wp2_with (at_make; refine wpList_make_own _ rfl _ _ 24 rfl W.heap.size 3 i0 (.int .i64 0) 1 Try.underlying24 hi hz0 hz1 .i64 .i64 _ n rfl rfl (by omega) (by rw [hz2]; omega) (by unfold maxLen; omega) h2s ?_; intro w3 hown3 hgrow3; have hb3 : Below W.heap.size W w3 := H2.out.2.2.grown hgrow3 h2s (fun k hk => by cases hk); have H3 : Hid (GrW zs n W R [] 0 w2.heap.size n w3 ∧ w3.ownsRow W.heap.size 41 2 (.slice (some ⟨gc, 0, none⟩) NC cc) NC (prv (confs zs))) := Go.Lib.hid ⟨⟨rfl, by rw [Nat.sub_zero]; exact HH.out.2.2, fits_nil zs, by simpa using hown3, hb3, by simp⟩, H2.out.2.1.kept hgrow3 (by cases hv : (Value.slice (some ⟨gc, 0, none⟩) NC cc).ownBlock <;> simp)⟩; clear hown3 hgrow3 hb3)
    go_wp2_with fail
    go_step3
    go_wp2_with fail
    go_loopw [5, 19] (fun sv iv wr => ∃ (m g c : Nat) (so : List Int), m ≤ n ∧ iv = .int .i64 (m : Int) ∧ sv = .slice (some ⟨g, 0, none⟩) m c ∧ Hid (GrW zs n W R so m g c wr ∧ wr.ownsRow W.heap.size 41 2 (.slice (some ⟨gc, 0, none⟩) NC cc) NC (prv (confs zs)))) (fun _ iv _ => n - (intOf iv).toNat)
    case atStart => exact ⟨0, w2.heap.size, n, [], Nat.zero_le _, rfl, rfl, H3.out⟩
    case round =>
      obtain ⟨m, g, cp, so, hmn, rfl, rfl, HX⟩ := hrel
      clear H3
      obtain ⟨wo, rfl⟩ : ∃ wo, wo = wr := ⟨_, rfl⟩
      have hWo : W.heap.size ≤ wo.heap.size := HX.out.1.2.2.2.2.1.size
      by_cases hlt : m < n
      · have hmi : (m : Int) < (n : Int) := by omega
        have hcap : NC ≤ cc := by
          obtain ⟨_, h2⟩ := HX.out.2
          rcases h2 with ⟨h3, h4⟩ | ⟨_, _, _, e, _, _, h5, _⟩
          · cases h3
          · cases e; exact h5
        have hso4 : ∀ x ∈ so, 0 ≤ x ∧ x < 100 := fun x hx => by have := HX.out.1.2.2.2.2.2 x hx; omega
        have CU := Go.Lib.hid (inUse_any (confs zs) (fun p hp => (mem_confs (zs := zs) (i := p.1) (j := p.2)).1 hp |>.1) so hso4 wo gc cc NC H2.out.1 hNC98 hcap (HX.out.2.lt gc rfl).2 (fun i hi => SIterC.prv_cells HX.out.2 H2.out.1 hi) (.slice (some ⟨g, 0, none⟩) m cp) m (Sees.owns HX.out.1.2.2.2.1) (by omega))
        clear hcap hso4
        go_wp2_with fail
        refine (CU.out).mono ?_
        rintro e w4 ⟨bm, rfl, hum, hbm, hb4⟩
        have H4 := Go.Lib.hid (And.intro hum (And.intro hbm hb4))
        clear hum hbm hb4 CU
        go_wp2_with fail
        go_loopw [5, 24] (fun sv xv wr => ∃ (x : Nat), x ≤ 4 ∧ sv = .slice (some ⟨g, 0, none⟩) m cp ∧ xv = .int .i64 (x : Int) ∧ wr = w4 ∧ Hid (∀ y : Nat, y < x → okN zs so (y : Int) = false)) (fun _ xv _ => 4 - (intOf xv).toNat)
        case atStart => exact ⟨0, by omega, rfl, rfl, rfl, Go.Lib.hid (fun y hy => by omega)⟩
        case round =>
          obtain ⟨x, hx4, rfl, rfl, rfl, HY⟩ := hrel
          by_cases hxl : x < 4
          · have hxi : (x : Int) < 4 := by omega
            obtain ⟨u, hu⟩ : ∃ u, (inUse (confs zs) so).contains (x : Int) = u := ⟨_, rfl⟩
            have hlook := UseMap.look H4.out.1 (x := (x : Int)) (by omega)
            rw [hu] at hlook
            have HUU := Go.Lib.hid hu
            clear hu
            cases u with
            | true =>
              have HN : Hid (∀ y : Nat, y < x + 1 → okN zs so (y : Int) = false) := Go.Lib.hid (fun y hy => by
                by_cases h1 : y = x
                · subst h1; unfold okN; rw [HUU.out]; rfl
                · exact HY.out y (by omega))
              go_wp2_with fail
              go_roundw
              case rel => exact ⟨x + 1, by omega, rfl, by go_num, by first | rfl | trivial, HN⟩
              case measure => simp [intOf]; omega
            | false =>
              have hok : okN zs so (x : Int) = true := by unfold okN; rw [HUU.out]; rfl
              have hfo := firstOk_some hxl hok HY.out
              have h4s := H4.out.2.2.size
              have HR := Go.Lib.hid (And.intro hfo (And.intro hok (World.ownsRow.alloc (kept_call HX.out.1.2.2.2.1 H4.out.2.2) (.cells #[.int .i64 (x : Int)] 3))))
              clear hfo hok
              go_wp2_with (at_builtin; refine wpList_append_two _ rfl _ _ 24 rfl W.heap.size 3 i0 (.int .i64 0) 1 8 Try.underlying24 hi hz0 hz1 hz2 rfl (by decide) (.slice (some ⟨g, 0, none⟩) m cp) m (vals so) rfl HR.out.2.2 ⟨wr.heap.size, 0, none⟩ 1 1 [.int .i64 (x : Int)] rfl rfl (cell_one_new _ _ _) (fun u hu => by simp at hu; subst hu; rfl) (by unfold maxLen; omega) (by omega) (by simp; omega) ?_; intro v6 w6 hown6 hgrow6 _; obtain ⟨g6, c6, rfl⟩ := ownsRow_succ hown6; have H6 := Go.Lib.hid (And.intro hown6 hgrow6); clear hown6 hgrow6)
              have HN : Hid (GrW zs n W R (so ++ [(x : Int)]) (m + 1) g6 c6 w6 ∧ w6.ownsRow W.heap.size 41 2 (.slice (some ⟨gc, 0, none⟩) NC cc) NC (prv (confs zs))) := Go.Lib.hid (by
                have hX := HX.out.1
                have hb4 := H4.out.2.2
                have hbA : Below W.heap.size W (wr.alloc (.cells #[.int .i64 (x : Int)] 3)) := (hX.2.2.2.2.1.trans (hb4.mono hX.2.2.2.2.1.size)).alloc (by have := hX.2.2.2.2.1.size; omega) _
                refine ⟨⟨by rw [List.length_append, hX.1]; rfl, ?_, (fits_snoc (by have h1 := hX.1; have h2 := HH.out.2.1; omega)).2 ⟨hX.2.2.1, HR.out.2.1⟩, ?_, ?_, fun z hz => ?_⟩, ?_⟩
                · have h1 := hX.2.1
                  rw [show n - m = (n - (m + 1)) + 1 from by omega, greedy, HR.out.1] at h1
                  exact h1
                · have e1 : vals (so ++ [(x : Int)]) = vals so ++ [.int .i64 (x : Int)] := List.map_append
                  rw [e1]; exact H6.out.1
                · exact hbA.grown H6.out.2 hbA.size (fun q hq => (hX.2.2.2.1.lt q hq).1)
                · rw [List.mem_append, List.mem_singleton] at hz
                  rcases hz with hz | rfl
                  · exact hX.2.2.2.2.2 z hz
                  · omega
                · refine ((SIterC.kept_call2 HX.out.2 hb4).alloc _).kept H6.out.2 (.inr ?_)
                  intro e
                  exact own_apart HX.out.2 hX.2.2.2.1 (by decide) (q := gc) rfl e.symm)
              go_roundw
              case rel => exact ⟨m + 1, g6, c6, so ++ [(x : Int)], by omega, by go_num, rfl, HN⟩
              case measure => simp [intOf]; omega
          · have hx4' : x = 4 := by omega
            subst hx4'
            have HF : Hid (xs = [] ∧ b = false) := Go.Lib.hid (by
              have h1 := HX.out.1.2.1
              rw [show n - m = (n - (m + 1)) + 1 from by omega, greedy, firstOk_none HY.out] at h1
              have h2 := HH.out.1
              rw [← h1] at h2
              cases h2
              exact ⟨rfl, rfl⟩)
            have HBW : Hid (Below W.heap.size W wr) := Go.Lib.hid (HX.out.1.2.2.2.2.1.trans (H4.out.2.2.mono HX.out.1.2.2.2.2.1.size))
            go_wp2_with fail
            rw [Exit.noGoto_ret]
            go_ret2
            rw [HF.out.1, HF.out.2]
            exact listTo_below HBW.out (listTo_none _ _)
      · have hmn2 : m = n := by omega
        have HF : Hid (xs = so ∧ b = true) := Go.Lib.hid (by
          have h1 := HX.out.1.2.1
          rw [show n - m = 0 from by omega, greedy] at h1
          have h2 := HH.out.1
          rw [← h1] at h2
          cases h2
          exact ⟨rfl, rfl⟩)
        have hmi : ¬ (m : Int) < (n : Int) := by omega
        clear hmn2
        go_wp2_with fail
        go_ret2
        rw [HF.out.1, HF.out.2]
        exact ⟨_, rfl, by rw [HX.out.1.1]; exact HX.out.1.2.2.2.1, HX.out.1.2.2.2.2.1⟩

end Go.Proofs.Ytekihdnkkeggjaa.GreedyC

/-
  The mathematics of bad triples: the first places of the pattern 231, found by three loops. Conditions: none. Plain facts on lists: nothing of the program.
-/
namespace Go.Proofs.Ytekihdnkkeggjaa.BadM
open OrdMath PatMath

def bad (zs : List Int) (i k j : Nat) : Bool := decide (zs.getD j 0 < zs.getD i 0 ∧ zs.getD i 0 < zs.getD k 0)

theorem shp3 (a b c : Int) : shp [a, b, c] = [2, 3, 1] ↔ c < a ∧ a < b := by
  unfold shp cl
  simp only [List.map_cons, List.map_nil, List.countP_cons, List.countP_nil, List.cons.injEq, and_true, decide_eq_true_eq]
  constructor
  · rintro ⟨h1, h2, h3⟩
    by_cases x1 : b < a <;> by_cases x2 : c < a <;> by_cases x3 : a < b <;> by_cases x4 : c < b <;> by_cases x5 : a < c <;> by_cases x6 : b < c <;> simp_all <;> omega
  · rintro ⟨h1, h2⟩
    have y1 : ¬ b < a := by omega
    have y2 : c < b := by omega
    have y3 : ¬ a < c := by omega
    have y4 : ¬ b < c := by omega
    simp [h1, h2, y1, y2, y3, y4]

/-- What the inner loops find. -/
def inn (zs : List Int) (i k : Nat) : Nat → Nat → Option (List Nat)
  | 0, _ => none
  | m + 1, j => if bad zs i k j then some [i, k, j] else inn zs i k m (j + 1)
def mid (zs : List Int) (i : Nat) : Nat → Nat → Option (List Nat)
  | 0, _ => none
  | m + 1, k => match inn zs i k (zs.length - (k + 1)) (k + 1) with | some q => some q | none => mid zs i m (k + 1)
def outr (zs : List Int) : Nat → Nat → Option (List Nat)
  | 0, _ => none
  | m + 1, i => match mid zs i (zs.length - (i + 1)) (i + 1) with | some q => some q | none => outr zs m (i + 1)

def badOf (zs : List Int) : Option (List Nat) := outr zs zs.length 0

theorem inn_is (zs : List Int) (i k : Nat) : ∀ m j, inn zs i k m j = (List.range' j m).findSome? (fun j => if bad zs i k j then some [i, k, j] else none)
  | 0, _ => rfl
  | m + 1, j => by
    unfold inn
    rw [List.range'_succ, List.findSome?_cons]
    by_cases h : bad zs i k j = true
    · rw [if_pos h]; simp [h]
    · rw [if_neg h, inn_is zs i k m (j + 1)]; simp [h]
theorem mid_is (zs : List Int) (i : Nat) : ∀ m k, mid zs i m k = (List.range' k m).findSome? (fun k => inn zs i k (zs.length - (k + 1)) (k + 1))
  | 0, _ => rfl
  | m + 1, k => by
    unfold mid
    rw [List.range'_succ, List.findSome?_cons]
    cases h : inn zs i k (zs.length - (k + 1)) (k + 1) with
    | some q => rfl
    | none => simp only [mid_is zs i m (k + 1)]
theorem out_is (zs : List Int) : ∀ m i, outr zs m i = (List.range' i m).findSome? (fun i => mid zs i (zs.length - (i + 1)) (i + 1))
  | 0, _ => rfl
  | m + 1, i => by
    unfold outr
    rw [List.range'_succ, List.findSome?_cons]
    cases h : mid zs i (zs.length - (i + 1)) (i + 1) with
    | some q => rfl
    | none => simp only [out_is zs m (i + 1)]

theorem find_flat {α β : Type} (p : β → Bool) (g : α → List β) : ∀ l : List α, (l.flatMap g).find? p = l.findSome? (fun a => (g a).find? p)
  | [] => rfl
  | a :: t => by
    rw [List.flatMap_cons, List.find?_append, List.findSome?_cons, find_flat p g t]
    cases (g a).find? p <;> rfl

theorem find_flat2 {α β : Type} (p : β → Bool) (f : α → β) : ∀ l : List α, (l.map f).find? p = l.findSome? (fun a => if p (f a) then some (f a) else none)
  | [] => rfl
  | a :: t => by
    rw [List.map_cons, List.find?_cons, List.findSome?_cons]
    cases h : p (f a) with
    | true => simp
    | false => simp only [find_flat2 p f t]; simp

theorem some_congr {α β : Type} {f g : α → Option β} : ∀ {l : List α}, (∀ a ∈ l, f a = g a) → l.findSome? f = l.findSome? g
  | [], _ => rfl
  | a :: t, h => by
    rw [List.findSome?_cons, List.findSome?_cons, h a (by simp), some_congr (fun b hb => h b (by simp [hb]))]

theorem bad_first (zs : List Int) : badOf zs = (placesOf zs [2, 3, 1]).head? := by
  unfold badOf placesOf
  rw [List.head?_filter, out_is]
  have e3 : ch zs.length [(2 : Int), 3, 1].length [] = (List.range' 0 zs.length).flatMap (fun i => (List.range' (i + 1) (zs.length - (i + 1))).flatMap (fun k => (List.range' (k + 1) (zs.length - (k + 1))).map (fun j => [i, k, j]))) := by
    show ch zs.length 3 [] = _
    simp only [ch, behind, List.getLast?_nil, List.nil_append, List.getLast?_singleton, List.getLast?_append, Nat.sub_zero]
    apply flat_congr
    intro i _
    apply flat_congr
    intro k _
    rw [List.map_eq_flatMap]
    simp
  rw [e3, find_flat]
  apply some_congr
  intro i _
  rw [mid_is, find_flat]
  apply some_congr
  intro k _
  rw [inn_is, find_flat2]
  apply some_congr
  intro j _
  have e : decide (shp (pick zs [i, k, j]) = [2, 3, 1]) = bad zs i k j := by
    unfold bad
    show decide (shp [zs.getD i 0, zs.getD k 0, zs.getD j 0] = [2, 3, 1]) = _
    rw [decide_eq_decide, shp3]
  rw [e]

def badAns (zs : List Int) : List Int × Bool := if Ord zs then (match badOf zs with | some q => (nat q, true) | none => ([0, 0, 0], false)) else ([0, 0, 0], false)

end Go.Proofs.Ytekihdnkkeggjaa.BadM

/-
  Contracts: ContainsPattern, CountPlaces, FirstPlaces of the model and of the program. Conditions: lists of at most 2^20 numbers.
-/
namespace Go.Proofs.Ytekihdnkkeggjaa.PubC
open Go.RowKit SeesC IntsC ExactC OrdMath InC OrderC PatMath ShapeC ListsC ListsEC ListsFC ListsGC PlacesC HasC SpecPlC

/-- The first of owned lists. -/
theorem lists_first {w : World} {base n : Nat} {a : Option Addr} {N c : Nat} {q : List Value} {L : List (List Value)} (hN : (q :: L).length = N) (h : Lists w base n (.slice a N c) (q :: L)) : ∃ g p1 p2, a = some ⟨g, 0, none⟩ ∧ w.cell? ⟨g, 0, none⟩ = some (.slice (some ⟨p1, 0, none⟩) n p2) ∧ w.ownsRow base 3 1 (.slice (some ⟨p1, 0, none⟩) n p2) n q := by
  obtain ⟨gs, h1, h2, h3, _, _⟩ := h
  rw [hN] at h1 h2
  have hN1 : 1 ≤ N := by rw [← hN]; simp
  obtain ⟨g, c2, e⟩ := own_pos h2 (by omega)
  cases e
  have h4 := h3 0 (by simp)
  have h5 := h2.cellAt 0 (by omega)
  obtain ⟨p, hp⟩ : ∃ p, gs.getD 0 (0, 0) = p := ⟨_, rfl⟩
  rw [hp] at h4
  have e1 : (gs.map (sl n))[0]? = some (sl n p) := by rw [← hp]; simp [show 0 < gs.length by omega]
  rw [e1] at h5
  exact ⟨g, p.1, p.2, rfl, h5, h4⟩

theorem has_len {zs pat : List Int} : has zs pat = true ↔ 0 < (placesOf zs pat).length := by unfold has; rw [decide_eq_true_eq]

set_option maxRecDepth 100000 in
set_option maxHeartbeats 2000000 in
theorem implContains (zs pat : List Int) (r b : Bool) (h : containsAns zs pat = (r, b)) (hz1 : zs.length ≤ 1048576) (hz2 : pat.length ≤ 1048576) (W : World) (v : Value) (n : Nat) (hv : Sees W v n (vals zs)) (u : Value) (m : Nat) (hu : Sees W u m (vals pat)) :
    Calls Try.prog 33 #[v, u] W fun e w' => e = .returned (.tuple #[.bool r, .bool b]) ∧ Below W.heap.size W w' := by
  have hn : n ≤ 1048576 := by have := hv.1; simp at this; omega
  have hm : m ≤ 1048576 := by have := hu.1; simp at this; omega
  obtain ⟨a, ha⟩ : ∃ a, isOrd zs = a := ⟨_, rfl⟩
  obtain ⟨c, hc⟩ : ∃ c, isOrd pat = c := ⟨_, rfl⟩
  have C1 := Go.Lib.hid (implOrder_any W v n zs a hv hn ha)
  have C2 := Go.Lib.hid (fun (W' : World) (h : Below W.heap.size W W') => implOrder_any W' u m pat c (hu.grow h) hm hc)
  have HV := Go.Lib.hid (And.intro hv hu)
  have HA := Go.Lib.hid (And.intro ha (And.intro hc h))
  obtain ⟨_, a1, c1, rfl, -, -⟩ := hv
  obtain ⟨_, a2, c2, rfl, -, -⟩ := hu
  clear h ha hc
  cases a with
  | false =>
    have h0 := HA.out.2.2
    unfold containsAns at h0
    rw [if_neg (fun h => (of_decide_eq_false HA.out.1) h.1)] at h0
    cases h0
    go_enter Try.func33, Try.ntmps33
    go_wp2_with fail
    refine (C1.out).mono ?_
    rintro e w1 ⟨rfl, hb⟩
    have H1 := Go.Lib.hid hb
    clear hb
    go_wp2_with fail
    go_ret2
    exact ⟨rfl, H1.out⟩
  | true =>
    cases c with
    | false =>
      have h0 := HA.out.2.2
      unfold containsAns at h0
      rw [if_neg (fun h => (of_decide_eq_false HA.out.2.1) h.2)] at h0
      cases h0
      go_enter Try.func33, Try.ntmps33
      go_wp2_with fail
      refine (C1.out).mono ?_
      rintro e w1 ⟨rfl, hb⟩
      have H1 := Go.Lib.hid hb
      clear hb
      go_wp2_with fail
      refine (C2.out _ H1.out).mono ?_
      rintro e w2 ⟨rfl, hb⟩
      have H2 := Go.Lib.hid (H1.out.trans (hb.mono H1.out.size))
      clear hb
      go_wp2_with fail
      go_ret2
      exact ⟨rfl, H2.out⟩
    | true =>
      go_enter Try.func33, Try.ntmps33
      go_wp2_with fail
      refine (C1.out).mono ?_
      rintro e w0 ⟨rfl, hb⟩
      have H0 := Go.Lib.hid hb
      clear hb
      go_wp2_with fail
      refine (C2.out _ H0.out).mono ?_
      rintro e w1 ⟨rfl, hb⟩
      have H1 := Go.Lib.hid (H0.out.trans (hb.mono H0.out.size))
      clear hb
      have hord : Ord zs := of_decide_eq_true HA.out.1
      have hpo : Ord pat := of_decide_eq_true HA.out.2.1
      have h0 := HA.out.2.2
      unfold containsAns at h0
      rw [if_pos ⟨hord, hpo⟩] at h0
      obtain ⟨r0, hr0⟩ : ∃ r0, has zs pat = r0 := ⟨_, rfl⟩
      rw [hr0] at h0
      cases h0
      have CM := Go.Lib.hid (contains_any zs pat r hord.2.2.2 hord.1 hord.2.1 hpo hr0 w1 _ _ n m (HV.out.1.grow H1.out) (HV.out.2.grow H1.out))
      clear hr0 hord hpo
      go_wp2_with fail
      refine (CM.out).mono ?_
      rintro e w2 ⟨rfl, hb⟩
      have H2 := Go.Lib.hid (H1.out.trans (hb.mono H1.out.size))
      clear hb
      go_wp2_with fail
      go_ret2
      exact ⟨rfl, H2.out⟩

end Go.Proofs.Ytekihdnkkeggjaa.PubC

/-
  Laws: a variable of many cells is made, built, stored and loaded in one step. Conditions: none.
-/
namespace Go.Proofs.Ytekihdnkkeggjaa.BigC
set_option linter.unusedVariables false
section
variable {P : Program} {ops : Array Oper} {rest : List Oper} {o : Oper} {a : Act} {w : World} {Q : Exit → Act → World → Prop}

theorem wpList_alloc_agg (hgd : o.guard = none) (t : TypeId) (ho : o.op = .alloc t) (c : Array Value) (n : Nat) (hz : (P.info? t).map (fun i => (i.zero, i.size)) = some (some (.agg c), n))
    (h : wpList P ops Q rest (a.put o.dst (.pointer (some ⟨w.heap.size, 0, none⟩))) (w.alloc (.cells c t))) : wpList P ops Q (o :: rest) a w := by
  refine wpList_plain hgd fun K hK => ?_
  have hzz := (zero_of_info hz).1
  unfold Oper.wp execOp
  simp [ho, Instr.alloc, hzz]
  exact hK _ _ h

theorem wpList_build_is (hgd : o.guard = none) (t : TypeId) (ho : o.op = .build t #[]) (c : Array Value) (hb : P.built t [] = some c)
    (h : wpList P ops Q rest (a.put o.dst (.agg c)) w) : wpList P ops Q (o :: rest) a w := by
  refine wpList_build hgd t #[] ho (by simp [hb]) ?_
  simpa [hb] using h

theorem wpList_store_new (hgd : o.guard = none) (t : TypeId) (x y : Operand) (ho : o.op = .store t x y) (w0 : World) (c c' : Array Value) (hw : w = w0.alloc (.cells c t))
    (hx : a.eval x = .pointer (some ⟨w0.heap.size, 0, none⟩)) (hy : a.eval y = .agg c') (hi : (P.info? t).map (·.size) = some c'.size) (hs : c.size = c'.size) (h1 : c'.all (·.oneCell') = true)
    (h : wpList P ops Q rest (a.put o.dst undef) (w0.alloc (.cells c' t))) : wpList P ops Q (o :: rest) a w := by
  subst hw
  refine wpList_plain hgd fun K hK => ?_
  unfold Oper.wp execOp
  simp only [ho, hx, hy, Sem.run_bind, run_storeAt_new w0 t c c' hi hs h1, Result.andThen_ok, Sem.run_pure]
  exact hK _ _ h
end
end Go.Proofs.Ytekihdnkkeggjaa.BigC

/-
  Contracts: whether a list is a sharing of an order, by the model and by the program. Conditions: lists of at most 2^20 numbers.
-/
namespace Go.Proofs.Ytekihdnkkeggjaa.SharC
open Go.RowKit SeesC IntsC ExactC OrdMath OrderC InC BesM MinMaxC
set_option linter.unusedVariables false

set_option maxRecDepth 100000 in
set_option maxHeartbeats 4000000 in
theorem l7Sharing_any (zs so : List Int) (ret : Bool) (h : isShB zs so = ret) (hz : zs.length ≤ 1048576) (hs : so.length ≤ 1048576) (W : World) (v : Value) (n : Nat) (hv : Sees W v n (vals zs)) (u : Value) (m : Nat) (hu : Sees W u m (vals so)) :
    Calls Try.prog 60 #[v, u] W fun e w' => e = .returned (.bool ret) ∧ Drawn W w' := by
  have hn : n ≤ 1048576 := by have := hv.1; simp at this; omega
  have hm : m ≤ 1048576 := by have := hu.1; simp at this; omega
  obtain ⟨r, hr⟩ : ∃ r, isOrd zs = r := ⟨_, rfl⟩
  have CO := Go.Lib.hid (fun W' (hs' : Sees W' v n (vals zs)) => l2Order_any W' v n zs r hs' hn hr)
  have HV := Go.Lib.hid hv
  have HU := Go.Lib.hid hu
  have hl : zs.length = n := by simpa using hv.1
  have hl2 : so.length = m := by simpa using hu.1
  unfold isShB at h
  obtain ⟨_, ad, cap, rfl, _, _⟩ := hv
  obtain ⟨_, ad', cap', rfl, _, _⟩ := hu
  cases r with
  | false =>
    rw [decide_eq_false (by rintro ⟨h1, _⟩; unfold isOrd at hr; exact of_decide_eq_false hr h1)] at h
    subst h
    clear hr
    go_enter Try.func60, Try.ntmps60
    go_wp2_with fail
    refine (CO.out _ HV.out).mono ?_
    rintro e w1 ⟨rfl, hd⟩
    have HB1 : Hid (Drawn W w1) := Go.Lib.hid hd
    clear hd
    go_wp2_with fail
    go_ret
    exact ⟨rfl, HB1.out⟩
  | true =>
    have hord : Ord zs := by unfold isOrd at hr; exact of_decide_eq_true hr
    have HO := Go.Lib.hid hord
    have hn7 : n ≤ 7 := by have := hord.2.1; omega
    have hn1 : 1 ≤ n := by have := hord.1; omega
    clear hr
    by_cases hmn : m = n
    · subst hmn
      have HH : Hid (decide (∀ s ∈ so, 0 ≤ s ∧ s ≤ 3) = ret) := Go.Lib.hid (by
        rw [← h]
        exact decide_eq_decide.2 ⟨fun h1 => ⟨HO.out, by omega, h1⟩, fun h1 => h1.2.2⟩)
      have HL := Go.Lib.hid hl2
      clear h hord hl hl2
      go_enter Try.func60, Try.ntmps60
      go_wp2_with fail
      refine (CO.out _ HV.out).mono ?_
      rintro e w1 ⟨rfl, hd⟩
      have HB1 : Hid (Drawn W w1) := Go.Lib.hid hd
      clear hd
      obtain ⟨b, o, capx, e1, _, _, hbl, hcell⟩ := sees_cells HU.out (by omega)
      cases e1
      have HC := Go.Lib.hid hcell
      clear hcell
      go_wp2_with fail
      go_loopw [5] (fun iv wr => ∃ i : Nat, i ≤ m ∧ iv = .int .i64 (i : Int) ∧ Drawn W wr ∧ Hid (∀ s ∈ so.take i, 0 ≤ s ∧ s ≤ 3)) (fun iv _ => m - (intOf iv).toNat)
      case atStart => exact ⟨0, Nat.zero_le _, rfl, HB1.out, Go.Lib.hid (by simp)⟩
      case round =>
        obtain ⟨i, him, rfl, HD, HQ⟩ := hrel
        obtain ⟨wo, rfl⟩ : ∃ wo, wo = wr := ⟨_, rfl⟩
        have HDB := Go.Lib.hid HD
        clear HD
        by_cases hlt : i < m
        · obtain ⟨x, hx⟩ : ∃ x, so.getD i 0 = x := ⟨_, rfl⟩
          have hck := ((HDB.out.below W.heap.size).cell (p := ⟨b, o + i, none⟩) hbl).trans (HC.out i (by have := HL.out; omega))
          rw [hx] at hck
          have hxe : so[i]'(by have := HL.out; omega) = x := by rw [← hx]; have := HL.out; simp [show i < so.length by omega]
          obtain ⟨q, hq⟩ : ∃ q, decide ((0 : Int) ≤ x ∧ x ≤ 3) = q := ⟨_, rfl⟩
          have CI := Go.Lib.hid (l1In_any x 0 3 wo q hq)
          have HQ2 := Go.Lib.hid (And.intro hq hxe)
          have hlti : (i : Int) < (m : Int) := by omega
          clear hx hxe hq
          cases q with
          | false =>
            have HF : Hid (ret = false) := Go.Lib.hid (by
              rw [← HH.out]
              refine decide_eq_false (fun h1 => ?_)
              have h2 := h1 x (by rw [← HQ2.out.2]; exact List.getElem_mem _)
              have h3 := HQ2.out.1
              rw [decide_eq_true h2] at h3
              cases h3)
            go_wp2_with fail
            refine (CI.out).mono ?_
            rintro e wq ⟨rfl, hwq⟩
            obtain rfl : wo = wq := hwq
            go_wp2_with fail
            go_ret
            rw [HF.out]
            exact ⟨rfl, HDB.out⟩
          | true =>
            have HN : Hid (∀ s ∈ so.take (i + 1), 0 ≤ s ∧ s ≤ 3) := Go.Lib.hid (by
              intro s hs
              rw [List.take_succ_eq_append_getElem (by have := HL.out; omega), HQ2.out.2, List.mem_append] at hs
              rcases hs with hs | hs
              · exact HQ.out s hs
              · simp at hs; subst hs; exact of_decide_eq_true HQ2.out.1)
            go_wp2_with fail
            refine (CI.out).mono ?_
            rintro e wq ⟨rfl, hwq⟩
            obtain rfl : wo = wq := hwq
            go_wp2_with fail
            go_roundw
            case rel => exact ⟨i + 1, by omega, by go_num, HDB.out, HN⟩
            case measure => simp [intOf]; omega
        · have him2 : i = m := by omega
          have HF : Hid (ret = true) := Go.Lib.hid (by
            rw [← HH.out]
            have := HQ.out
            rw [List.take_of_length_le (by have := HL.out; omega)] at this
            exact decide_eq_true this)
          have hlti : ¬ (i : Int) < (m : Int) := by omega
          clear him2
          go_wp2_with fail
          go_ret
          rw [HF.out]
          exact ⟨rfl, HDB.out⟩
    · rw [decide_eq_false (by rintro ⟨_, h1, _⟩; omega)] at h
      subst h
      have e1 : ((m : Int) == (n : Int)) = false := by rw [beq_eq_false_iff_ne]; omega
      have e2 : ((m : Int) != (n : Int)) = true := by rw [bne, e1]; rfl
      have e3 : (m == n) = false := by rw [beq_eq_false_iff_ne]; exact hmn
      clear hord hl hl2
      go_enter Try.func60, Try.ntmps60
      go_wp2_with fail
      refine (CO.out _ HV.out).mono ?_
      rintro e w1 ⟨rfl, hd⟩
      have HB1 : Hid (Drawn W w1) := Go.Lib.hid hd
      clear hd
      go_wp2_with fail
      go_ret
      exact ⟨rfl, HB1.out⟩

set_option maxRecDepth 100000 in
set_option maxHeartbeats 1000000 in
theorem specIsSharing (zs so : List Int) (ret : Bool) (h : isShB zs so = ret) (hz : zs.length ≤ 1048576) (hs : so.length ≤ 1048576) (W : World) (v : Value) (n : Nat) (hv : Sees W v n (vals zs)) (u : Value) (m : Nat) (hu : Sees W u m (vals so)) :
    Calls Try.prog 32 #[v, u] W fun e w' => ValTo W e w' (.bool ret) := by
  have C1 := Go.Lib.hid (l7Sharing_any zs so ret h hz hs W v n hv u m hu)
  obtain ⟨_, ad, cap, rfl, _, _⟩ := hv
  obtain ⟨_, ad', cap', rfl, _, _⟩ := hu
  clear h
  go_enter Try.func32, Try.ntmps32
  go_wp2_with fail
  refine (C1.out).mono ?_
  rintro e w1 ⟨rfl, hd⟩
  have HB : Hid (Below W.heap.size W w1) := Go.Lib.hid (hd.below _)
  clear hd
  go_wp2_with fail
  go_ret
  exact ⟨rfl, HB.out⟩

set_option maxRecDepth 100000 in
set_option maxHeartbeats 4000000 in
theorem implIsSharing (zs so : List Int) (ret : Bool) (h : isShB zs so = ret) (hz : zs.length ≤ 1048576) (hs : so.length ≤ 1048576) (W : World) (v : Value) (n : Nat) (hv : Sees W v n (vals zs)) (u : Value) (m : Nat) (hu : Sees W u m (vals so)) :
    Calls Try.prog 31 #[v, u] W fun e w' => ValTo W e w' (.bool ret) := by
  have hn : n ≤ 1048576 := by have := hv.1; simp at this; omega
  have hm : m ≤ 1048576 := by have := hu.1; simp at this; omega
  obtain ⟨r, hr⟩ : ∃ r, isOrd zs = r := ⟨_, rfl⟩
  have CO := Go.Lib.hid (fun W' (hs' : Sees W' v n (vals zs)) => implOrder_any W' v n zs r hs' hn hr)
  have HV := Go.Lib.hid hv
  have HU := Go.Lib.hid hu
  have hl : zs.length = n := by simpa using hv.1
  have hl2 : so.length = m := by simpa using hu.1
  unfold isShB at h
  obtain ⟨_, ad, cap, rfl, _, _⟩ := hv
  obtain ⟨_, ad', cap', rfl, _, _⟩ := hu
  cases r with
  | false =>
    rw [decide_eq_false (by rintro ⟨h1, _⟩; unfold isOrd at hr; exact of_decide_eq_false hr h1)] at h
    subst h
    clear hr
    go_enter Try.func31, Try.ntmps31
    go_wp2_with fail
    refine (CO.out _ HV.out).mono ?_
    rintro e w1 ⟨rfl, hd⟩
    have HB1 : Hid (Below W.heap.size W w1) := Go.Lib.hid hd
    clear hd
    go_wp2_with fail
    go_ret
    exact ⟨rfl, HB1.out⟩
  | true =>
    have hord : Ord zs := by unfold isOrd at hr; exact of_decide_eq_true hr
    have HO := Go.Lib.hid hord
    have hn7 : n ≤ 7 := by have := hord.2.1; omega
    have hn1 : 1 ≤ n := by have := hord.1; omega
    clear hr
    by_cases hmn : m = n
    · subst hmn
      have HH : Hid (decide (∀ s ∈ so, 0 ≤ s ∧ s ≤ 3) = ret) := Go.Lib.hid (by
        rw [← h]
        exact decide_eq_decide.2 ⟨fun h1 => ⟨HO.out, by omega, h1⟩, fun h1 => h1.2.2⟩)
      have HL := Go.Lib.hid hl2
      clear h hord hl hl2
      obtain ⟨b, o, capx, e1, _, _, hbl, hcell⟩ := sees_cells HU.out (by omega)
      cases e1
      have hne : so ≠ [] := by intro e; have := HL.out; rw [e] at this; simp at this; omega
      have htk : so.take m = so := List.take_of_length_le (by have := HL.out; omega)
      have CMin := Go.Lib.hid (fun (X : World) (hX : Below W.heap.size W X) => Try.slices_Min_int b o m cap' so X (by omega) (by have := HL.out; omega) (by omega) (fun j hj => (hX.cell (p := ⟨b, o + j, none⟩) hbl).trans (hcell j hj)))
      have CMax := Go.Lib.hid (fun (X : World) (hX : Below W.heap.size W X) => Try.slices_Max_int b o m cap' so X (by omega) (by have := HL.out; omega) (by omega) (fun j hj => (hX.cell (p := ⟨b, o + j, none⟩) hbl).trans (hcell j hj)))
      rw [htk] at CMin CMax
      obtain ⟨mn, hmn⟩ : ∃ mn, Go.Lib.minOf so = mn := ⟨_, rfl⟩
      obtain ⟨mx, hmx⟩ : ∃ mx, Go.Lib.maxOf so = mx := ⟨_, rfl⟩
      have HR : Hid (decide (0 ≤ mn ∧ mx < 4) = ret) := Go.Lib.hid (by
        rw [← HH.out, ← hmn, ← hmx]
        exact decide_eq_decide.2 (sh_minmax hne).symm)
      rw [hmn] at CMin
      rw [hmx] at CMax
      clear hmn hmx htk hne hcell
      go_enter Try.func31, Try.ntmps31
      go_wp2_with fail
      refine (CO.out _ HV.out).mono ?_
      rintro e w1 ⟨rfl, hd⟩
      have HB1 : Hid (Below W.heap.size W w1) := Go.Lib.hid hd
      clear hd
      go_wp2_with fail
      refine (CMin.out _ HB1.out).mono ?_
      rintro e wq ⟨rfl, hwq⟩
      obtain rfl : wq = w1 := hwq
      by_cases h0 : (0 : Int) ≤ mn
      · by_cases h4 : mx < (4 : Int)
        · have HF : Hid (ret = true) := Go.Lib.hid (by rw [← HR.out]; exact decide_eq_true ⟨h0, h4⟩)
          go_wp2_with fail
          refine (CMax.out _ HB1.out).mono ?_
          rintro e wq2 ⟨rfl, hwq⟩
          obtain rfl : wq2 = wq := hwq
          go_wp2_with fail
          go_ret
          rw [HF.out]
          exact ⟨rfl, HB1.out⟩
        · have HF : Hid (ret = false) := Go.Lib.hid (by rw [← HR.out]; exact decide_eq_false (fun h => h4 h.2))
          go_wp2_with fail
          refine (CMax.out _ HB1.out).mono ?_
          rintro e wq2 ⟨rfl, hwq⟩
          obtain rfl : wq2 = wq := hwq
          go_wp2_with fail
          go_ret
          rw [HF.out]
          exact ⟨by show Ending.returned (Value.bool (decide (mx < 4))) = _; rw [decide_eq_false (by omega)], HB1.out⟩
      · have HF : Hid (ret = false) := Go.Lib.hid (by rw [← HR.out]; exact decide_eq_false (fun h => h0 h.1))
        go_wp2_with fail
        go_ret
        rw [HF.out]
        exact ⟨rfl, HB1.out⟩
    · rw [decide_eq_false (by rintro ⟨_, h1, _⟩; omega)] at h
      subst h
      have e1 : ((m : Int) == (n : Int)) = false := by rw [beq_eq_false_iff_ne]; omega
      have e2 : ((m : Int) != (n : Int)) = true := by rw [bne, e1]; rfl
      have e3 : (m == n) = false := by rw [beq_eq_false_iff_ne]; exact hmn
      clear hord hl hl2
      go_enter Try.func31, Try.ntmps31
      go_wp2_with fail
      refine (CO.out _ HV.out).mono ?_
      rintro e w1 ⟨rfl, hd⟩
      have HB1 : Hid (Below W.heap.size W w1) := Go.Lib.hid hd
      clear hd
      go_wp2_with fail
      go_ret
      exact ⟨rfl, HB1.out⟩

end Go.Proofs.Ytekihdnkkeggjaa.SharC

/-
  An append as a step of a region that draws its order: the row is the old one or a new one. Conditions: as for the kit's own law.
-/
namespace Go.Proofs.Ytekihdnkkeggjaa.StepTwoC
open AppendTwoC

theorem step_append_two {P : Program} (w : World) {ops : Array Oper} {o : Oper} {a : Act} {K : Act → World → Prop} {Q : Exit → Act → World → Prop} {E : Prop} (hgd : o.guard = none) (s x : Operand) (t : TypeId)
    (ho : o.op = .call { callee := .builtin .append, args := #[s, x], argTypes := #[t, t] })
    (base : Nat) (e : TypeId) (i : TypeInfo) (z : Value) (size bytes : Nat) (ht : P.underlying t = some (.slice e)) (hi : P.info? e = some i) (hz : i.zero = some z)
    (hsize : i.size = size) (hby : i.bytes = bytes) (hzs : z.cells.size = size) (hsz : 0 < size)
    (v : Value) (n : Nat) (xs : List Value) (hs : a.eval s = v) (hown : w.ownsRow base e size v n xs)
    (ad : Addr) (m c : Nat) (news : List Value) (hx : a.eval x = .slice (some ad) m c) (hl : news.length = m * size) (hnews : ∀ j u, news[j]? = some u → w.cell? (ad.add j) = some u) (h1 : ∀ u ∈ news, u.oneCell' = true)
    (h63 : n + m ≤ maxLen) (hbytes : (n + m) * bytes ≤ 140737488355328) (hbase : base ≤ w.heap.size)
    (h : ∀ v' w', w'.ownsRow base e size v' (n + m) (xs ++ news) → w.grownBy w' v.ownBlock → NewRow w v v' → K (a.put o.dst v') w') :
    if Region.wanted o (yielded ops a.tmps) = true then Oper.wp P o a w K Q else E := by
  have hw : Region.wanted o (yielded ops a.tmps) = true := by simp [Region.wanted, hgd]
  rw [if_pos hw]
  obtain ⟨v', w', hrun, r1, r2, r3⟩ := run_append_two (P := P) w base t o.type e i z size bytes ht hi hz hsize hby hzs hsz v n xs hown ad m c news hl hnews h1 h63 hbytes hbase
  unfold Oper.wp
  simp [execOp, ho, resolve, invoke, builtin, hs, hx, hrun, Result.andThen]
  exact h v' w' r1 r2 r3

end Go.Proofs.Ytekihdnkkeggjaa.StepTwoC
