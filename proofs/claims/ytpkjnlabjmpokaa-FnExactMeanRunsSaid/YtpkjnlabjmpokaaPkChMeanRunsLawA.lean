/-
  Contracts and plain facts that the law's text leans on, part 1 of 2. Conditions: as each states.
-/
import Derived.Test.YtpkjnlabjmpokaaAvoid
import Derived.Test.YtpkjnlabjmpokaaOrdFacts
import Derived.Test.YtpkjnlabjmpokaaDropMath
import Derived.Test.YtpkjnlabjmpokaaListsB
import Derived.Test.YtpkjnlabjmpokaaRange
import Derived.Test.YtpkjnlabjmpokaaOrderAt
import Derived.Test.YtpkjnlabjmpokaaAllO
import Derived.Test.YtpkjnlabjmpokaaAppendTwo
import Derived.Test.YtpkjnlabjmpokaaListsF
import Derived.RegionIn
import Derived.Test.YtpkjnlabjmpokaaExact
import Derived.Test.YtpkjnlabjmpokaaChM
import Derived.Test.YtpkjnlabjmpokaaLL
import Derived.Test.YtpkjnlabjmpokaaOrd
import Derived.Test.YtpkjnlabjmpokaaAt
import Derived.Test.YtpkjnlabjmpokaaListsG
import Derived.Test.YtpkjnlabjmpokaaIn
import Derived.Test.YtpkjnlabjmpokaaCutF
import Derived.Test.YtpkjnlabjmpokaaStep

/-
  Contracts: AvoidsAll, CountChildren of the model and of the program. Conditions: at most 2^20 numbers together.
-/
namespace Go.Proofs.Ytpkjnlabjmpokaa.PubBC
open Go.RowKit SeesC IntsC ExactC OrdMath OrdFacts InC OrderC PatMath ShapeC InsertC ListsC ListsEC ListsFC PlacesC HasC SpecPlC LLC AvoidC

def avoidsAns (zs : List Int) (L : List (List Int)) : Bool × Bool := if Ord zs ∧ pats L = true then (avoids zs L, true) else (false, false)

/-- For how many of the first k numbers the order with it behind avoids all. -/
def kids (zs : List Int) (L : List (List Int)) : Nat → Nat
  | 0 => 0
  | k + 1 => kids zs L k + (if avoids (ins zs ((k : Int) + 1)) L = true then 1 else 0)

theorem kids_le (zs : List Int) (L : List (List Int)) : ∀ k, kids zs L k ≤ k := by
  intro k
  induction k with
  | zero => simp [kids]
  | succ k ih => unfold kids; split <;> omega

def childrenAns (zs : List Int) (L : List (List Int)) : Int × Bool := if Ord zs ∧ zs.length ≠ 7 ∧ pats L = true then ((kids zs L (zs.length + 1) : Nat), true) else (0, false)

theorem ins_nodup {zs : List Int} (h : zs.Nodup) (k : Int) : (ins zs k).Nodup := by
  unfold ins
  rw [List.nodup_append]
  refine ⟨?_, by simp, ?_⟩
  · rw [List.nodup_iff_pairwise_ne, List.pairwise_map]
    refine List.Pairwise.imp ?_ (List.nodup_iff_pairwise_ne.1 h)
    intro a b hab
    split <;> split <;> omega
  · intro x hx y hy e
    simp at hy
    obtain ⟨z, _, rfl⟩ := List.mem_map.1 hx
    split at e <;> omega

theorem ins_ord {zs : List Int} (h : Ord zs) (h7 : zs.length ≠ 7) {k : Int} (h1 : 1 ≤ k) (h2 : k ≤ (zs.length : Int) + 1) : Ord (ins zs k) := by
  refine ⟨by rw [ins_len]; omega, by rw [ins_len]; have := h.2.1; omega, ?_, ins_nodup h.2.2.2 k⟩
  intro z hz
  rw [ins_len]
  unfold ins at hz
  rw [List.mem_append] at hz
  rcases hz with hz | hz
  · obtain ⟨y, hy, rfl⟩ := List.mem_map.1 hz
    have := h.2.2.1 y hy
    split <;> omega
  · simp at hz
    omega

end Go.Proofs.Ytpkjnlabjmpokaa.PubBC

/-
  The mathematics of orders that avoid patterns: those made by insertion are those of all orders; the least one is the first. Conditions: none. Plain facts: nothing of the program.
-/
namespace Go.Proofs.Ytpkjnlabjmpokaa.AvMath
open OrdMath OrdFacts PatMath DropMath InsertC CmpC ListsBC AvoidC PubBC

theorem up_lt {k a b : Int} : up k a < up k b ↔ a < b := by unfold up; split <;> split <;> omega
theorem up_inj {k a b : Int} (h : up k a = up k b) : a = b := by unfold up at h; split at h <;> split at h <;> omega

theorem alike_up (k : Int) (ys : List Int) : PatMath.Alike (ys.map (up k)) ys := by
  refine ⟨by simp, fun i j hi hj => ?_⟩
  have hi2 : i < ys.length := by simpa using hi
  have hj2 : j < ys.length := by simpa using hj
  rw [up_at hi2 rfl, up_at hj2 rfl]
  exact up_lt

theorem pick_ins {x : List Int} {k : Int} {q : List Nat} (hq : ∀ p ∈ q, p < x.length) : pick (ins x k) q = (pick x q).map (up k) := by
  unfold pick
  rw [List.map_map]
  apply List.map_congr_left
  intro p hp
  have h := hq p hp
  show (ins x k).getD p 0 = up k (x.getD p 0)
  rw [ins_up, List.getD_eq_getElem?_getD, List.getElem?_append_left (by simpa using h), ← List.getD_eq_getElem?_getD, up_at h rfl]

theorem has_ins {x p : List Int} {k : Int} (h : has x p = true) : has (ins x k) p = true := by
  obtain ⟨q, hq, e⟩ := has_iff.1 h
  have ha := ch_asc _ _ (asc_nil _) q hq
  have hl := (ch_pre _ _ q hq).1
  have hm : q ∈ ch (ins x k).length p.length [] := by
    have h1 := mem_ch (n := (ins x k).length) p.length [] q ⟨ha.1, fun y hy => by rw [ins_len]; exact Nat.lt_succ_of_lt (ha.2 y hy)⟩ (by simpa using hl)
    exact h1
  refine has_iff.2 ⟨q, hm, ?_⟩
  rw [pick_ins ha.2, alike_shp (alike_up k _), e]

theorem avoids_ins {x : List Int} {k : Int} {L : List (List Int)} (h : avoids (ins x k) L = true) : avoids x L = true := by
  unfold avoids at *
  rw [List.all_eq_true] at *
  intro p hp
  have h1 := h p hp
  cases hx : has x p with
  | false => rfl
  | true => rw [has_ins hx] at h1; exact h1

/-- A list of the numbers 1 to n. -/
def OrdN (n : Nat) (zs : List Int) : Prop := zs.length = n ∧ (∀ z ∈ zs, 1 ≤ z ∧ z ≤ (n : Int)) ∧ zs.Nodup

theorem OrdN.ord {n : Nat} {zs : List Int} (h : OrdN n zs) (h1 : 1 ≤ n) (h7 : n ≤ 7) : Ord zs :=
  ⟨by rw [h.1]; exact h1, by rw [h.1]; exact h7, fun z hz => by rw [h.1]; exact h.2.1 z hz, h.2.2⟩

theorem ordN_of {zs : List Int} (h : Ord zs) : OrdN zs.length zs := ⟨rfl, h.2.2.1, h.2.2.2⟩

theorem ins_ordN {n : Nat} {x : List Int} {k : Int} (h : OrdN n x) (h1 : 1 ≤ k) (h2 : k ≤ (n : Int) + 1) : OrdN (n + 1) (ins x k) := by
  refine ⟨by rw [ins_len, h.1], fun z hz => ?_, ins_nodup h.2.2 k⟩
  unfold ins at hz
  rw [List.mem_append] at hz
  rcases hz with hz | hz
  · obtain ⟨y, hy, rfl⟩ := List.mem_map.1 hz
    have := h.2.1 y hy
    split <;> omega
  · simp at hz
    omega

def down (k z : Int) : Int := if k < z then z - 1 else z

theorem up_down {k z : Int} (h : z ≠ k) : up k (down k z) = z := by unfold up down; split <;> split <;> omega

theorem ordN_last {n : Nat} {zs : List Int} (h : OrdN (n + 1) zs) : ∃ x k, zs = ins x k ∧ OrdN n x ∧ 1 ≤ k ∧ k ≤ (n : Int) + 1 := by
  obtain ⟨hl, hr, hn⟩ := h
  have hne : zs ≠ [] := fun e => by rw [e] at hl; simp at hl
  obtain ⟨y, k, rfl⟩ : ∃ y k, zs = y ++ [k] := ⟨zs.dropLast, zs.getLast hne, (List.dropLast_concat_getLast hne).symm⟩
  have hyl : y.length = n := by simpa using hl
  rw [List.nodup_append] at hn
  have hk := hr k (by simp)
  have hyk : ∀ z ∈ y, z ≠ k := fun z hz e => hn.2.2 z hz k (by simp) e
  have e1 : (y.map (down k)).map (up k) = y := by
    rw [List.map_map]
    conv => rhs; rw [← List.map_id y]
    exact List.map_congr_left (fun z hz => up_down (hyk z hz))
  refine ⟨y.map (down k), k, by rw [ins_up, e1], ⟨by simp [hyl], fun z hz => ?_, ?_⟩, hk.1, by omega⟩
  · obtain ⟨a, ha, rfl⟩ := List.mem_map.1 hz
    have h1 := hr a (by simp [ha])
    have h2 := hyk a ha
    unfold down
    split <;> omega
  · have h3 : ((y.map (down k)).map (up k)).Nodup := by rw [e1]; exact hn.1
    exact List.Pairwise.of_map (up k) (fun a b hab e => hab (by rw [e])) h3

theorem ins_inj {x y : List Int} {k l : Int} (h : ins x k = ins y l) : x = y ∧ k = l := by
  rw [ins_up, ins_up] at h
  have h2 := List.append_inj' h rfl
  have e : k = l := by simpa using h2.2
  subst e
  exact ⟨(List.map_inj_right (fun a b hab => up_inj hab)).1 h2.1, rfl⟩

/-- Those that an order has one number more. -/
def chil (L : List (List Int)) (i : Nat) (x : List Int) : List (List Int) := ((List.range (i + 1)).map (fun (k : Nat) => ins x ((k : Int) + 1))).filter (fun y => avoids y L)

def av (L : List (List Int)) : Nat → List (List Int)
  | 0 => [[]]
  | i + 1 => (av L i).flatMap (chil L i)

theorem mem_av {L : List (List Int)} : ∀ {n : Nat} {zs : List Int}, zs ∈ av L n ↔ OrdN n zs ∧ (n = 0 ∨ avoids zs L = true) := by
  intro n
  induction n with
  | zero =>
    intro zs
    constructor
    · intro h
      have e : zs = [] := by simpa [av] using h
      subst e
      exact ⟨⟨rfl, by simp, by simp⟩, .inl rfl⟩
    · rintro ⟨⟨h, _⟩, _⟩
      have e : zs = [] := List.eq_nil_of_length_eq_zero h
      simp [av, e]
  | succ n ih =>
    intro zs
    show zs ∈ (av L n).flatMap (chil L n) ↔ _
    rw [List.mem_flatMap]
    constructor
    · rintro ⟨x, hx, hz⟩
      unfold chil at hz
      rw [List.mem_filter] at hz
      obtain ⟨k, hk, rfl⟩ := List.mem_map.1 hz.1
      rw [List.mem_range] at hk
      exact ⟨ins_ordN (ih.1 hx).1 (by omega) (by omega), .inr hz.2⟩
    · rintro ⟨ho, ha⟩
      obtain ⟨x, k, rfl, hx, h1, h2⟩ := ordN_last ho
      have ha2 : avoids (ins x k) L = true := by
        rcases ha with h | h
        · omega
        · exact h
      refine ⟨x, ih.2 ⟨hx, .inr (avoids_ins ha2)⟩, ?_⟩
      unfold chil
      rw [List.mem_filter]
      refine ⟨List.mem_map.2 ⟨(k - 1).toNat, by rw [List.mem_range]; omega, ?_⟩, ha2⟩
      congr 1
      omega

theorem nodup_av (L : List (List Int)) : ∀ n, (av L n).Nodup := by
  intro n
  induction n with
  | zero => simp [av]
  | succ n ih =>
    show ((av L n).flatMap (chil L n)).Pairwise (· ≠ ·)
    rw [List.pairwise_flatMap]
    constructor
    · intro x _
      unfold chil
      apply List.Pairwise.filter
      rw [List.pairwise_map]
      refine List.Pairwise.imp ?_ (List.nodup_iff_pairwise_ne.1 (List.nodup_range (n := n + 1)))
      intro a b hab e
      have := (ins_inj e).2
      omega
    · refine List.Pairwise.imp ?_ (List.nodup_iff_pairwise_ne.1 ih)
      intro x y hxy u hu v hv e
      unfold chil at hu hv
      rw [List.mem_filter] at hu hv
      obtain ⟨k, _, rfl⟩ := List.mem_map.1 hu.1
      obtain ⟨l, _, rfl⟩ := List.mem_map.1 hv.1
      exact hxy (ins_inj e).1

/-! ### All orders -/
def allOrd (n : Nat) : List (List Int) := (List.range (fact n)).map (fun k => atRun n (iota n) k)

theorem mem_allOrd {n : Nat} {zs : List Int} (h1 : 1 ≤ n) (h7 : n ≤ 7) : zs ∈ allOrd n ↔ OrdN n zs := by
  unfold allOrd
  rw [List.mem_map]
  constructor
  · rintro ⟨k, hk, rfl⟩
    rw [List.mem_range] at hk
    have h := (rank_of_at h1 h7 hk).1
    have hl := atRun_len n (iota n) k
    have h2 := ordN_of h
    rw [hl] at h2
    exact h2
  · intro h
    have h2 := at_of_rank (h.ord h1 h7)
    rw [h.1] at h2
    exact ⟨_, List.mem_range.2 h2.1, h2.2⟩

theorem allOrd_ranks (n : Nat) : (allOrd n).Pairwise (fun a b => rankR a < rankR b) := by
  unfold allOrd
  rw [List.pairwise_map, List.pairwise_iff_getElem]
  intro i j hi hj hij
  have hi2 : i < fact n := by simpa using hi
  have hj2 : j < fact n := by simpa using hj
  rw [List.getElem_range, List.getElem_range, (rank_at n (iota n) i (iota_len n) (iota_sorted n) hi2).2, (rank_at n (iota n) j (iota_len n) (iota_sorted n) hj2).2]
  exact hij

def avOrd (n : Nat) (L : List (List Int)) : List (List Int) := (allOrd n).filter (fun y => avoids y L)

theorem mem_avOrd {n : Nat} {L : List (List Int)} {zs : List Int} (h1 : 1 ≤ n) (h7 : n ≤ 7) : zs ∈ avOrd n L ↔ zs ∈ av L n := by
  unfold avOrd
  rw [List.mem_filter, mem_allOrd h1 h7, mem_av]
  constructor
  · rintro ⟨a, b⟩; exact ⟨a, .inr b⟩
  · rintro ⟨a, b⟩
    refine ⟨a, ?_⟩
    rcases b with b | b
    · omega
    · exact b

theorem avOrd_ranks (n : Nat) (L : List (List Int)) : (avOrd n L).Pairwise (fun a b => rankR a < rankR b) := (allOrd_ranks n).filter _

theorem nodup_sub : ∀ {l m : List (List Int)}, l.Nodup → (∀ x ∈ l, x ∈ m) → l.length ≤ m.length
  | [], m, _, _ => by simp
  | a :: l, m, hn, hs => by
    have ha : a ∈ m := hs a (by simp)
    have hn2 := List.nodup_cons.1 hn
    have ih := nodup_sub (l := l) (m := m.erase a) hn2.2 (fun x hx => (List.mem_erase_of_ne (fun e => hn2.1 (by rw [← e]; exact hx))).2 (hs x (by simp [hx])))
    have h2 := List.length_erase_of_mem ha
    have h3 : 0 < m.length := List.length_pos_of_mem ha
    simp only [List.length_cons]
    omega

theorem av_count {n : Nat} {L : List (List Int)} (h1 : 1 ≤ n) (h7 : n ≤ 7) : (av L n).length = (avOrd n L).length := by
  have hn : (avOrd n L).Nodup := by
    refine List.Pairwise.imp ?_ (avOrd_ranks n L)
    intro a b h e
    rw [e] at h
    omega
  exact Nat.le_antisymm (nodup_sub (nodup_av L n) (fun x hx => (mem_avOrd h1 h7).2 hx)) (nodup_sub hn (fun x hx => (mem_avOrd h1 h7).1 hx))

theorem allOrd_len (n : Nat) : (allOrd n).length = fact n := by simp [allOrd]

theorem av_many {n : Nat} {L : List (List Int)} (h7 : n ≤ 7) : (av L n).length ≤ 5040 := by
  by_cases h1 : 1 ≤ n
  · rw [av_count h1 h7]
    exact Nat.le_trans (List.length_filter_le _ _) (by rw [allOrd_len]; exact fact_7 h7)
  · have : n = 0 := by omega
    subst this
    simp [av]

def countAvAns (n : Int) (L : List (List Int)) : Int × Bool := if 1 ≤ n ∧ n ≤ 7 ∧ pats L = true then (((avOrd n.toNat L).length : Nat), true) else (0, false)

/-! ### The first one -/
theorem rank_mono : ∀ (a b left : List Int), left.Pairwise (· < ·) → a.Perm left → b.Perm left → cmpL a b < 0 → rankR a < rankR b
  | [], b, left, _, ha, hb, h => by
    have : left = [] := by simpa using ha.symm
    subst this
    have : b = [] := by simpa using hb
    subst this
    exact absurd h (by simp [cmpL])
  | x :: a, [], left, _, ha, hb, _ => by
    have : left = [] := by simpa using hb.symm
    subst this
    exact absurd ha (by simp)
  | x :: a, y :: b, left, hp, ha, hb, h => by
    have hca : cl x a = cl x left := by rw [← cl_perm ha, cl_self]
    have hcb : cl y b = cl y left := by rw [← cl_perm hb, cl_self]
    have hlen : a.length = b.length := by have := ha.length_eq; have := hb.length_eq; simp at *; omega
    show cl x a * fact a.length + rankR a < cl y b * fact b.length + rankR b
    rw [hca, hcb, ← hlen]
    have hra := rankR_lt a
    unfold cmpL at h
    by_cases hxy : x < y
    · have hc : cl x left < cl y left := cl_lt_of_lt hxy (ha.mem_iff.1 (by simp))
      have h1 : (cl x left + 1) * fact a.length ≤ cl y left * fact a.length := Nat.mul_le_mul_right _ hc
      rw [Nat.add_mul] at h1
      omega
    · rw [if_neg hxy] at h
      by_cases hyx : y < x
      · rw [if_pos hyx] at h
        exact absurd h (by decide)
      · rw [if_neg hyx] at h
        have e : x = y := by omega
        subst e
        have h1 := sorted_at left x hp (ha.mem_iff.1 (by simp))
        have he := erase_perm h1.2
        rw [h1.1] at he
        have pa : a.Perm (left.eraseIdx (cl x left)) := (ha.trans he.symm).cons_inv
        have pb : b.Perm (left.eraseIdx (cl x left)) := (hb.trans he.symm).cons_inv
        have ih := rank_mono a b _ (hp.sublist (List.eraseIdx_sublist left _)) pa pb h
        omega

/-- The least of a list, from one on. -/
def least : List (List Int) → List Int → List Int
  | [], b => b
  | x :: t, b => least t (if cmpL x b < 0 then x else b)

theorem least_mem : ∀ (t : List (List Int)) (b : List Int), least t b = b ∨ least t b ∈ t
  | [], b => .inl rfl
  | x :: t, b => by
    unfold least
    rcases least_mem t (if cmpL x b < 0 then x else b) with h | h
    · rw [h]
      split
      · exact .inr (by simp)
      · exact .inl rfl
    · exact .inr (List.mem_cons_of_mem _ h)

theorem cmpL_ge_trans {a b c : List Int} (h1 : ¬ cmpL a b < 0) (h2 : ¬ cmpL b c < 0) : ¬ cmpL a c < 0 := by
  intro h
  have n1 := cmpL_neg a b
  have n2 := cmpL_neg b c
  by_cases e1 : cmpL a b = 0
  · have := cmpL_eq _ _ e1; subst this; exact h2 h
  by_cases e2 : cmpL b c = 0
  · have := cmpL_eq _ _ e2; subst this; exact h1 h
  have h3 := cmpL_lt_trans c b a (by omega) (by omega)
  have n3 := cmpL_neg a c
  omega

theorem least_min : ∀ (t : List (List Int)) (b : List Int), ∀ x ∈ b :: t, ¬ cmpL x (least t b) < 0
  | [], b, x, hx => by
    have : x = b := by simpa using hx
    subst this
    show ¬ cmpL x x < 0
    rw [cmpL_same]
    decide
  | y :: t, b, x, hx => by
    have ih := least_min t (if cmpL y b < 0 then y else b)
    show ¬ cmpL x (least t (if cmpL y b < 0 then y else b)) < 0
    have hm := ih (if cmpL y b < 0 then y else b) (by simp)
    rcases List.mem_cons.1 hx with rfl | hx
    · refine cmpL_ge_trans ?_ hm
      split
      · rename_i h
        intro h2
        have := cmpL_neg x y
        omega
      · rw [cmpL_same]; decide
    · rcases List.mem_cons.1 hx with rfl | hx
      · refine cmpL_ge_trans ?_ hm
        split
        · rw [cmpL_same]; decide
        · assumption
      · exact ih x (by simp [hx])

theorem ordN_perm {n : Nat} {zs : List Int} (h : OrdN n zs) : zs.Perm (iota n) :=
  perm_of_sub _ _ h.2.2 (fun x hx => mem_iota.2 (h.2.1 x hx)) (by rw [iota_len, h.1]; exact Nat.le_refl _)

theorem least_first {n : Nat} {L : List (List Int)} {h : List Int} {t : List (List Int)} (h1 : 1 ≤ n) (h7 : n ≤ 7) (hav : av L n = h :: t) : ∃ t', avOrd n L = least t h :: t' := by
  have hmem : least t h ∈ av L n := by
    rw [hav]
    rcases least_mem t h with e | e
    · rw [e]; simp
    · exact List.mem_cons_of_mem _ e
  have hm2 := (mem_avOrd h1 h7).2 hmem
  cases hao : avOrd n L with
  | nil => rw [hao] at hm2; simp at hm2
  | cons f t' =>
    refine ⟨t', ?_⟩
    have hf : f ∈ av L n := (mem_avOrd h1 h7).1 (by rw [hao]; simp)
    have hmin := least_min t h f (by rw [← hav]; exact hf)
    by_cases e : f = least t h
    · rw [e]
    · exfalso
      rw [hao] at hm2
      rcases List.mem_cons.1 hm2 with e2 | hin
      · exact e e2.symm
      · have hr := avOrd_ranks n L
        rw [hao, List.pairwise_cons] at hr
        have hlt := hr.1 _ hin
        by_cases hc : cmpL (least t h) f < 0
        · have := rank_mono _ _ (iota n) (iota_sorted n) (ordN_perm (mem_av.1 hmem).1) (ordN_perm (mem_av.1 hf).1) hc
          omega
        · have n1 := cmpL_neg f (least t h)
          have : cmpL f (least t h) = 0 := by omega
          exact e (cmpL_eq _ _ this)

theorem av_nil {n : Nat} {L : List (List Int)} (h1 : 1 ≤ n) (h7 : n ≤ 7) : av L n = [] ↔ avOrd n L = [] := by
  rw [← List.length_eq_zero_iff, av_count h1 h7, List.length_eq_zero_iff]

def firstAvAns (n : Int) (L : List (List Int)) : List Int × Bool := if 1 ≤ n ∧ n ≤ 7 ∧ pats L = true ∧ avOrd n.toNat L ≠ [] then ((avOrd n.toNat L).headD [], true) else ([], false)

theorem avOrd_len {n : Nat} {L : List (List Int)} {zs : List Int} (h : zs ∈ avOrd n L) : zs.length = n := by
  unfold avOrd allOrd at h
  rw [List.mem_filter] at h
  obtain ⟨k, _, rfl⟩ := List.mem_map.1 h.1
  exact atRun_len _ _ _

theorem firstAv_len {n : Int} {L : List (List Int)} {xs : List Int} {b : Bool} (h : firstAvAns n L = (xs, b)) : xs.length ≤ 1048576 := by
  unfold firstAvAns at h
  split at h
  · rename_i hc
    cases h
    obtain ⟨f, t, e⟩ := List.exists_cons_of_ne_nil hc.2.2.2
    rw [e]
    have := avOrd_len (n := n.toNat) (L := L) (zs := f) (by rw [e]; simp)
    show f.length ≤ 1048576
    omega
  · cases h
    simp

/-! ### The most places -/
def mostTo (n : Nat) (p : List Int) : Nat → List Int × Int
  | 0 => ([], -1)
  | k + 1 => if (mostTo n p k).2 < ((placesOf (atRun n (iota n) k) p).length : Int) then (atRun n (iota n) k, ((placesOf (atRun n (iota n) k) p).length : Int)) else mostTo n p k

def mostAns (n : Int) (p : List Int) : List Int × Int × Bool := if 1 ≤ n ∧ n ≤ 7 ∧ Ord p then ((mostTo n.toNat p (fact n.toNat)).1, (mostTo n.toNat p (fact n.toNat)).2, true) else ([], 0, false)

theorem mostTo_len (n : Nat) (p : List Int) : ∀ k, (mostTo n p k).1.length ≤ n := by
  intro k
  induction k with
  | zero => simp [mostTo]
  | succ k ih =>
    unfold mostTo
    split
    · rw [atRun_len]; exact Nat.le_refl _
    · exact ih

theorem most_len {n : Int} {p xs : List Int} {m : Int} {b : Bool} (h : mostAns n p = (xs, m, b)) : xs.length ≤ 1048576 := by
  unfold mostAns at h
  split at h
  · cases h
    have := mostTo_len n.toNat p (fact n.toNat)
    omega
  · cases h
    simp

end Go.Proofs.Ytpkjnlabjmpokaa.AvMath

/-
  Contract: the program's range over all orders of n numbers hands on each of them once, in ascending order of their ranks, in memory of its own. Conditions: 1 to 7 numbers.
-/
namespace Go.Proofs.Ytpkjnlabjmpokaa.OrdersIterC
open Go.RowKit Go.Shelf SeesC IntsC ExactC OrdMath OrdFacts RankC OrderAtC AvMath RangeC

attribute [local go_sem] Oper.semAt_some

def Keep1 (a : Nat) (X Y : World) : Prop := Y.heap[a]? = X.heap[a]? ∧ X.heap.size ≤ Y.heap.size

theorem Keep1.trans {a : Nat} {A B C : World} (h : Keep1 a A B) (k : Keep1 a B C) : Keep1 a A C := ⟨Eq.trans k.1 h.1, Nat.le_trans h.2 k.2⟩
theorem Keep1.cell {a : Nat} {A B : World} (h : Keep1 a A B) : B.cell? ⟨a, 0, none⟩ = A.cell? ⟨a, 0, none⟩ := World.cell?_of_block h.1

/-- An order that is handed on: its numbers, and the slice. -/
abbrev El : Type := List Int × Value

def GivenOrd (B m : Nat) (x : El) (W : World) : Prop := (x.1.length = m ∧ Ord x.1) ∧ W.ownsRow B 3 1 x.2 m (vals x.1)

theorem small_wf {n : Nat} (h : n ≤ 5040) : (Lit.int .i64 (n : Int)).wf = true := by
  have e1 : IntKind.i64.min = -9223372036854775808 := rfl
  have e2 : IntKind.i64.max = 9223372036854775807 := rfl
  simp [Lit.wf, e1, e2]
  omega

theorem all_take {m k : Nat} (hk : k < fact m) : (allOrd m).take (k + 1) = (allOrd m).take k ++ [atRun m (iota m) k] := by
  rw [List.take_succ_eq_append_getElem (by rw [allOrd_len]; exact hk)]
  congr 1
  simp [allOrd]

set_option maxRecDepth 100000 in
set_option maxHeartbeats 2000000 in
theorem orders_hands (n Bn B m : Nat) (hn : 1 ≤ n) (hm1 : 1 ≤ m) (hm7 : m ≤ 7) (w : World) (hlt : Bn < w.heap.size) (hB : B ≤ w.heap.size) (hBn : w.cell? ⟨Bn, 0, none⟩ = some (.int .i64 (m : Int))) :
    Hands (α := El) Fence.wide n Try.prog 136 #[.pointer (some ⟨Bn, 0, none⟩)] (fun x => #[x.2]) (GivenOrd B m) (Keep1 Bn) (fun xs => xs.map (·.1) = allOrd m) (fun so => ∃ k, k < fact m ∧ so.map (·.1) = (allOrd m).take (k + 1)) (fact m) w := by
  intro l J Jx W hW hJ hY h0
  have hcell : W.cell? ⟨Bn, 0, none⟩ = some (.int .i64 (m : Int)) := (hW.cell (p := ⟨Bn, 0, none⟩) hlt).trans hBn
  have hBW : B ≤ W.heap.size := Nat.le_trans hB hW.size
  have hBnW : Bn < W.heap.size := Nat.lt_of_lt_of_le hlt hW.size
  have HY := Go.Lib.hid hY
  have HJ := Go.Lib.hid hJ
  have HF := Go.Lib.hid (And.intro (fact_pos m) (fact_7 hm7))
  have CO := Go.Lib.hid (fun W' => countOrders_any m W' hm7)
  obtain ⟨f, hf⟩ : ∃ f, fact m = f := ⟨_, rfl⟩
  have HFF := Go.Lib.hid hf
  have hf1 : 1 ≤ f := by rw [← hf]; exact HF.out.1
  have hf2 : f ≤ 5040 := by rw [← hf]; exact HF.out.2
  rw [hf] at CO
  clear hf hY hJ hBn hlt hB hW
  refine callsIn_of_wp Try.func136 rfl trivial ?_ rfl
  simp only [Try.ntmps136, List.size_toArray, List.length_cons, List.length_nil, Nat.reduceAdd, Nat.reduceSub, Array.replicate_succ, Array.replicate_zero, List.push_toArray, List.append_toArray, List.nil_append, List.cons_append]
  gi_wp2_with (refine ⟨trivial, ?_⟩; gi_at_call 137; refine (callsIn_wide.2 (CO.out _)).mono ?_; rintro e _ ⟨rfl, rfl⟩)
  gi_loopw [8] (fun kv wr => ∃ (k : Nat) (so : List El), k ≤ f ∧ kv = .int .i64 k ∧ wr.cell? ⟨Bn, 0, none⟩ = some (.int .i64 (m : Int)) ∧ Hid (J so wr ∧ so.map (·.1) = (allOrd m).take k ∧ W.heap.size ≤ wr.heap.size)) (fun kv _ => f - (intOf kv).toNat)
  case atStart => exact ⟨0, [], Nat.zero_le _, rfl, hcell, Go.Lib.hid ⟨h0, rfl, Nat.le_refl _⟩⟩
  case round =>
    obtain ⟨k, so, hk, rfl, hc, HS⟩ := hrel
    clear hcell h0
    by_cases hlt : k < f
    · have hkf : k < fact m := by rw [HFF.out]; exact hlt
      have hat : atAns (m : Int) (k : Int) = (atRun m (iota m) k, true) := by
        unfold atAns
        rw [if_pos ⟨by omega, by omega, by omega, by rw [Int.toNat_natCast]; exact Int.ofNat_lt.2 hkf⟩, Int.toNat_natCast, Int.toNat_natCast]
      have CA := Go.Lib.hid (implAt (m : Int) (k : Int) _ _ hat (small_wf (by omega)) (small_wf (by omega)) wr)
      have hln := atRun_len m (iota m) k
      have HO := Go.Lib.hid (rank_of_at hm1 hm7 hkf).1
      have HT := Go.Lib.hid (all_take hkf)
      obtain ⟨xs, hxs⟩ : ∃ xs, atRun m (iota m) k = xs := ⟨_, rfl⟩
      rw [hxs] at CA hln HO HT
      have HLN := Go.Lib.hid hln
      have hlti : (k : Int) < (f : Int) := by omega
      clear hat hxs hkf hln
      gi_wp2_with (refine ⟨trivial, ?_⟩; gi_at_call 138; refine (callsIn_wide.2 CA.out).mono ?_; rintro e w2 ⟨v, rfl, ho, hb⟩; have HW := Go.Lib.hid (And.intro ho hb); clear ho hb; have hlen := congrArg List.length HS.out.2.1; obtain ⟨fn, tmps, assign, body, hy, hR⟩ := HY.out so (xs, v) w2 (HJ.out _ _ _ none HS.out.1 (grown_of_below HW.out.2 none) (fun _ e => by cases e)) ⟨⟨HLN.out, HO.out⟩, by rw [← HLN.out]; exact own_lower HW.out.1 (Nat.le_trans hBW HS.out.2.2)⟩ (by rw [List.length_map, List.length_take, allOrd_len, HFF.out] at hlen; rw [HFF.out]; omega); clear hlen; dsimp only at hy)
      refine hR.mono ?_
      rintro e W3 (⟨rfl, hJ3, hk3⟩ | ⟨rfl, hJx3⟩)
      · have hc3 : W3.cell? ⟨Bn, 0, none⟩ = some (.int .i64 (m : Int)) := hk3.cell.trans ((HW.out.2.cell (p := ⟨Bn, 0, none⟩) (Nat.lt_of_lt_of_le hBnW HS.out.2.2)).trans hc)
        have HN : Hid (J (so ++ [(xs, v)]) W3 ∧ (so ++ [(xs, v)]).map (·.1) = (allOrd m).take (k + 1) ∧ W.heap.size ≤ W3.heap.size) := Go.Lib.hid ⟨hJ3, by rw [List.map_append, HS.out.2.1, HT.out]; rfl, Nat.le_trans HS.out.2.2 (Nat.le_trans HW.out.2.size hk3.2)⟩
        clear hJ3 hk3 hy hR
        gi_wp2
        go_roundw
        case rel => exact ⟨k + 1, _, by omega, by go_num, hc3, HN⟩
        case measure => simp [intOf]; omega
      · have HN : Hid (∃ k, k < fact m ∧ (so ++ [(xs, v)]).map (·.1) = (allOrd m).take (k + 1)) := Go.Lib.hid ⟨k, by rw [HFF.out]; exact hlt, by rw [List.map_append, HS.out.2.1, HT.out]; rfl⟩
        clear hy hR
        gi_wp2
        refine bodyPost_ret (results_none rfl _ _ _) rfl ?_
        exact ⟨⟨_, rfl⟩, .inr ⟨_, HN.out, hJx3⟩⟩
    · have hkf : k = f := by omega
      subst hkf
      have HN : Hid (so.map (·.1) = allOrd m) := Go.Lib.hid (by rw [HS.out.2.1]; exact List.take_of_length_le (by rw [allOrd_len, HFF.out]; exact Nat.le_refl _))
      have hlti : ¬ ((k : Int) < (k : Int)) := by omega
      gi_wp2
      go_end0
      exact ⟨⟨_, rfl⟩, .inl ⟨so, HN.out, HS.out.1⟩⟩

set_option maxHeartbeats 1000000 in
theorem ordersOf_in (F : Fence) (n m : Nat) (h1 : F.fn 111) (hro : F.round = none) (w : World) :
    CallsIn F n Try.prog 111 #[.int .i64 (m : Int)] w fun e w' => e = .returned (.func (.func 136) #[] #[.pointer (some ⟨w.heap.size, 0, none⟩)]) ∧ w' = w.alloc (.cells #[.int .i64 (m : Int)] 3) := by
  refine callsIn_of_wp Try.func111 rfl h1 ?_ hro
  simp only [Try.ntmps111, List.size_toArray, List.length_cons, List.length_nil, Nat.reduceAdd, Nat.reduceSub, Array.replicate_succ, Array.replicate_zero, List.push_toArray, List.append_toArray, List.nil_append, List.cons_append]
  gi_wp2
  go_ret
  exact ⟨rfl, rfl⟩

end Go.Proofs.Ytpkjnlabjmpokaa.OrdersIterC

/-
  Contract: the program's CountAvoiding at valid arguments. Conditions: at most 2^20 numbers together.
-/
namespace Go.Proofs.Ytpkjnlabjmpokaa.CountAvC
set_option linter.unusedVariables false
open Go.RowKit Go.Shelf SeesC IntsC ExactC OrdMath PatMath LLC AvoidC AvMath RangeC OrdersIterC

attribute [local go_sem] Oper.semAt_some

theorem row_own {B n : Nat} {ty : TypeId} {v : Value} {xs : List Value} {X Y : World} {row : Option Nat} (h : X.ownsRow B ty 1 v n xs) (hg : X.grownBy Y row) (hr : ∀ r, row = some r → ∃ o : Obj, X.heap[r]? = some o ∧ o.isCells = false) : Y.ownsRow B ty 1 v n xs :=
  own_mark h hg (fun a ha e => by
    obtain ⟨o, ho, hc⟩ := hr a e
    rcases h.2 with ⟨rfl, _⟩ | ⟨g, cap, cur, rfl, _, hgg, _⟩
    · simp [Value.ownBlock] at ha
    · simp [Value.ownBlock] at ha
      subst ha
      rw [hgg] at ho
      cases ho
      cases hc)

theorem given_own (B m : Nat) (x : El) (B' : Nat) : OwnFrom B' (fun (_ : Unit) W => GivenOrd B m x W) :=
  fun _ X Y row hs hg hr => ⟨hs.1, row_own hs.2 hg (fun r e => (hr r e).2)⟩

theorem keep1_put {w0 : World} {a : Nat} (ha : a < w0.heap.size) (W : World) (l : Nat) (_o o' : Obj) (hl : w0.heap.size ≤ l) (h : W.heap[l]? = some _o) : Keep1 a W (W.putObj l o') := by
  have hlt := (Array.getElem?_eq_some_iff.1 h).1
  exact ⟨(grownBy_putObj' W l o').block _ (by omega) (by simp; omega), by simp⟩

theorem keep1_below {a : Nat} {X Y : World} (ha : a < X.heap.size) (h : Below X.heap.size X Y) : Keep1 a X Y := ⟨h.block a ha, h.size⟩

theorem from_below {B : Nat} {X Y : World} (h : Below X.heap.size X Y) : KeepsFrom B X Y := ⟨h.size, fun k o _ hk _ => (h.block k (Array.getElem?_eq_some_iff.1 hk).1).trans hk⟩

theorem boxed_below {B : Nat} {t : TypeId} {v : Value} {X Y : World} (h : Boxed X B t v) (hb : Below X.heap.size X Y) : Boxed Y B t v := (hb.block B h.lt).trans h

def cnt (L : List (List Int)) (so : List El) : Nat := ((so.map (·.1)).filter (fun y => avoids y L)).length

theorem cnt_yes {L : List (List Int)} {so : List El} {x : El} (h : avoids x.1 L = true) : cnt L (so ++ [x]) = cnt L so + 1 := by simp [cnt, List.filter_append, h]
theorem cnt_no {L : List (List Int)} {so : List El} {x : El} (h : avoids x.1 L = false) : cnt L (so ++ [x]) = cnt L so := by simp [cnt, List.filter_append, h]
theorem cnt_le (L : List (List Int)) (so : List El) : cnt L so ≤ so.length := Nat.le_trans (List.length_filter_le _ _) (by simp)

end Go.Proofs.Ytpkjnlabjmpokaa.CountAvC

/-
  Facts on boxes and rows. Conditions: none.
-/
namespace Go.Proofs.Ytpkjnlabjmpokaa.BoxB
set_option linter.unusedVariables false
open Go.RowKit Go.Shelf SeesC IntsC ExactC OrdMath RangeC OrdersIterC

theorem boxed_turn {B : Nat} {t : TypeId} {v : Value} {X Y : World} {row : Option Nat} (h : Boxed X B t v) (hg : X.grownBy Y row) (hr : ∀ r, row = some r → ∃ o : Obj, X.heap[r]? = some o ∧ o.isCells = false) : Boxed Y B t v :=
  boxed_own B t (fun _ : Unit => v) () X Y row h hg hr

theorem box_ne {X : World} {B base n g cap : Nat} {t ty : TypeId} {v : Value} {xs : List Value} (hb : Boxed X B t v) (h : X.ownsRow base ty 1 (.slice (some ⟨g, 0, none⟩) n cap) n xs) (ht : t ≠ ty) : g ≠ B := by
  rintro rfl
  rcases h.2 with ⟨h0, _⟩ | ⟨g', cap', cur, h0, _, hg, _⟩
  · cases h0
  · cases h0
    unfold Boxed at hb
    rw [hb] at hg
    cases hg
    exact ht rfl

theorem own_set {X : World} {B base n g cap : Nat} {ty : TypeId} {xs : List Value} (h : X.ownsRow base ty 1 (.slice (some ⟨g, 0, none⟩) n cap) n xs) (hne : g ≠ B) (u : Value) : (X.setCell ⟨B, 0, none⟩ u).ownsRow base ty 1 (.slice (some ⟨g, 0, none⟩) n cap) n xs :=
  own_mark h (grownBy_setCell' X B u) (fun a ha e => by
    have h1 : g = a := Option.some.inj ha
    have h2 : B = a := Option.some.inj e
    exact hne (h1.trans h2.symm))

end Go.Proofs.Ytpkjnlabjmpokaa.BoxB

/-
  Contract: the program's orders that can be drawn: all orders of n numbers, collected off its range over them. Conditions: 1 to 7 numbers.
-/
namespace Go.Proofs.Ytpkjnlabjmpokaa.CollOC
set_option linter.unusedVariables false
open Go.RowKit Go.Shelf SeesC IntsC ExactC OrdMath OrdFacts LLC AvMath AllO ListsC ListsEC ListsFC RangeC OrdersIterC CountAvC BoxB AppendTwoC OutsMath CmpC

attribute [local go_sem] Oper.semAt_some

theorem vals_inj {a b : List Int} (h : vals a = vals b) : a = b := by
  unfold vals at h
  exact (List.map_inj_right (fun x y e => by cases e; rfl)).1 h

theorem same_block {X : World} {b0 b1 g c c' m : Nat} {a a' : List Int} (h : X.ownsRow b0 3 1 (.slice (some ⟨g, 0, none⟩) m c) m (vals a)) (h' : X.ownsRow b1 3 1 (.slice (some ⟨g, 0, none⟩) m c') m (vals a')) : a = a' := by
  have l1 : (vals a).length = m := by simpa using h.1
  have l2 : (vals a').length = m := by simpa using h'.1
  refine vals_inj (List.ext_getElem? fun j => ?_)
  by_cases hj : j < m
  · rw [← h.cellAt j (by omega), ← h'.cellAt j (by omega)]
  · rw [List.getElem?_eq_none (by omega), List.getElem?_eq_none (by omega)]

def pair (v : Value) : Nat × Nat := match v with | .slice (some a) _ c => (a.block, c) | _ => (0, 0)

theorem pair_is {X : World} {b0 m : Nat} {v : Value} {xs : List Value} (hm : 1 ≤ m) (h : X.ownsRow b0 3 1 v m xs) : v = sl m (pair v) := by
  obtain ⟨g, c, rfl⟩ := own_pos h hm
  rfl

theorem lists_all {X : World} {base m : Nat} {v : Value} {ys : List El} (hm1 : 1 ≤ m) (hm7 : m ≤ 7) (hys : ys.map (·.1) = allOrd m) (hro : X.ownsRow base 22 1 v ys.length (ys.map (·.2))) (hrows : ∀ x ∈ ys, X.ownsRow base 3 1 x.2 m (vals x.1)) :
    Lists X base m v ((ys.map (·.1)).map vals) := by
  have hpair : ∀ x ∈ ys, x.2 = sl m (pair x.2) := fun x hx => pair_is hm1 (hrows x hx)
  refine ⟨ys.map (fun x => pair x.2), by simp, ?_, fun i hi => ?_, ?_, fun p hp => ?_⟩
  · have e : (ys.map (fun x => pair x.2)).map (sl m) = ys.map (·.2) := by
      rw [List.map_map]
      exact List.map_congr_left (fun x hx => (hpair x hx).symm)
    rw [e, List.length_map, List.length_map]
    exact hro
  · have hi2 : i < ys.length := by simpa using hi
    have h := hrows _ (List.getElem_mem hi2)
    rw [hpair _ (List.getElem_mem hi2)] at h
    simpa [hi2] using h
  · have hnd : (ys.map (·.1)).Nodup := by
      rw [hys]
      have hs := allO_sorted hm1 hm7
      show (allO m).Nodup
      unfold Sorted at hs
      rw [List.nodup_iff_pairwise_ne]
      refine hs.imp ?_
      intro a b hab e
      subst e
      rw [ListsBC.cmpL_same] at hab
      omega
    rw [List.map_map]
    rw [List.nodup_iff_pairwise_ne, List.pairwise_map] at hnd ⊢
    refine List.Pairwise.imp_of_mem ?_ hnd
    intro x y hx hy hxy e
    apply hxy
    have h1 := hrows x hx
    have h2 := hrows y hy
    rw [hpair x hx] at h1
    rw [hpair y hy] at h2
    unfold sl at h1 h2
    have e2 : (pair x.2).1 = (pair y.2).1 := e
    rw [e2] at h1
    exact same_block h1 h2
  · obtain ⟨x, hx, rfl⟩ := List.mem_map.1 hp
    have h1 := hrows x hx
    rw [hpair x hx] at h1
    intro e
    exact own_types hro h1 (by decide) e rfl

/-- What stands behind the append and the store of a round. -/
theorem keep_end {X w6 : World} {base B3 D n6 g6 c6 M : Nat} {vo : Value} {xs ys : List Value} (hbox : Boxed X B3 32 vo) (hrow : X.ownsRow base 22 1 vo M xs) (hb : base ≤ B3)
    (hown : w6.ownsRow base 22 1 (.slice (some ⟨g6, 0, none⟩) n6 c6) n6 ys) (hgrow : X.grownBy w6 vo.ownBlock) :
    w6.cell? ⟨B3, 0, none⟩ = some vo ∧ w6.frozen? ⟨B3, 0, none⟩ = false ∧ Boxed (w6.setCell ⟨B3, 0, none⟩ (.slice (some ⟨g6, 0, none⟩) n6 c6)) B3 32 (.slice (some ⟨g6, 0, none⟩) n6 c6) ∧
    (w6.setCell ⟨B3, 0, none⟩ (.slice (some ⟨g6, 0, none⟩) n6 c6)).ownsRow base 22 1 (.slice (some ⟨g6, 0, none⟩) n6 c6) n6 ys ∧
    (∀ (b0 k : Nat) (v : Value) (zs : List Value), X.ownsRow b0 3 1 v k zs → (w6.setCell ⟨B3, 0, none⟩ (.slice (some ⟨g6, 0, none⟩) n6 c6)).ownsRow b0 3 1 v k zs) ∧
    (∀ (B : Nat) (t : TypeId) (v : Value), B < base → Boxed X B t v → Boxed (w6.setCell ⟨B3, 0, none⟩ (.slice (some ⟨g6, 0, none⟩) n6 c6)) B t v) ∧
    (∀ (B : Nat) (v : Value), B ≠ B3 → Boxed X B 3 v → (w6.setCell ⟨B3, 0, none⟩ (.slice (some ⟨g6, 0, none⟩) n6 c6)).heap[B]? = X.heap[B]?) ∧
    KeepsFrom D X (w6.setCell ⟨B3, 0, none⟩ (.slice (some ⟨g6, 0, none⟩) n6 c6)) ∧ (∀ Z, Below base Z X → base ≤ X.heap.size → Below base Z (w6.setCell ⟨B3, 0, none⟩ (.slice (some ⟨g6, 0, none⟩) n6 c6))) ∧
    X.heap.size ≤ (w6.setCell ⟨B3, 0, none⟩ (.slice (some ⟨g6, 0, none⟩) n6 c6)).heap.size := by
  have b6 : Boxed w6 B3 32 vo := hbox.kept hgrow (hbox.not_row (by decide) hrow)
  have hs6 := World.grownBy.size hgrow
  have hsz : (w6.setCell ⟨B3, 0, none⟩ (.slice (some ⟨g6, 0, none⟩) n6 c6)).heap.size = w6.heap.size := by simp [World.setCell]
  refine ⟨b6.cell, b6.frozen, b6.set _, hown.kept (grownBy_setCell' w6 B3 _) (.inr (b6.not_row (by decide) hown).symm), ?_, ?_, ?_, ?_, ?_, by rw [hsz]; exact hs6⟩
  · intro b0 k v zs h
    have h6 : w6.ownsRow b0 3 1 v k zs := own_mark h hgrow (fun a ha e => own_types hrow h (by decide) e ha)
    exact h6.kept (grownBy_setCell' w6 B3 _) (.inr (b6.not_row (by decide) h6).symm)
  · intro B t v hB h
    have h6 : Boxed w6 B t v := h.kept hgrow (fun e => by have := (own_block_lt hrow e.symm).1; omega)
    exact Boxed.other h6 (by omega) _
  · intro B v hne h
    rw [Below.heap_setCell _ _ _ _ (by show ¬ _ = _; simp only; omega)]
    exact hgrow.block B h.lt (h.not_row (by decide) hrow)
  · refine ((KeepsOthers.of_grownBy hgrow fun j o ej hj => ?_).from _).trans ((KeepsOthers.setCell _ _ _).from _)
    rcases hrow.2 with ⟨rfl, _⟩ | ⟨g, cap, cur, rfl, _, hgb, _⟩
    · simp [Value.ownBlock] at ej
    · obtain rfl : g = j := by simpa [Value.ownBlock] using ej
      rw [hgb] at hj; cases hj; rfl
  · intro Z hZ hbs
    exact (hZ.grown hgrow hbs (fun j ej => (own_block_lt hrow ej).1)).setCell (p := ⟨B3, 0, none⟩) hb _

/-- All orders of n numbers are returned, in memory of the call's own. -/
def AllOTo (m : Nat) (w : World) (e : Ending) (w' : World) : Prop := ∃ v, e = .returned v ∧ Lists w' w.heap.size m v ((allO m).map vals) ∧ Below w.heap.size w w'

set_option maxRecDepth 100000 in
set_option maxHeartbeats 4000000 in
theorem appendO_in (n : Nat) (hn : 3 ≤ n) (m : Nat) (hm1 : 1 ≤ m) (hm7 : m ≤ 7) (Bn : Nat) (w : World) (hlt : Bn < w.heap.size) (hBn : w.cell? ⟨Bn, 0, none⟩ = some (.int .i64 (m : Int))) :
    CallsIn Fence.wide n Try.prog 135 #[.slice none 0 0, .func (.func 136) #[] #[.pointer (some ⟨Bn, 0, none⟩)]] w fun e w' => AllOTo m w e w' := by
  have h1 : 1 ≤ n := by omega
  obtain ⟨j0, hj, hy0, hy1, hy2⟩ := info_parts infoL
  have HJ := Go.Lib.hid (And.intro hj (And.intro hy0 (And.intro hy1 hy2)))
  have HF := Go.Lib.hid (fact_7 hm7)
  refine callsIn_of_wp_marks Try.func135 rfl trivial ?_ rfl
  simp only [Try.ntmps135, List.size_toArray, List.length_cons, List.length_nil, Nat.reduceAdd, Nat.reduceSub, Array.replicate_succ, Array.replicate_zero, List.push_toArray, List.append_toArray, List.nil_append, List.cons_append]
  gi_wp2_with fail
  have bO := Boxed.new w 32 (.slice none 0 0)
  have hB0 : Below w.heap.size w (w.alloc (.cells #[.slice none 0 0] 32)) := (Below.refl _ _).alloc (Nat.le_refl _) _
  have hsz : (w.alloc (.cells #[.slice none 0 0] 32)).heap.size = w.heap.size + 1 := by simp
  have hBl : (w.alloc (.cells #[.slice none 0 0] 32)).cell? ⟨Bn, 0, none⟩ = some (.int .i64 (m : Int)) := (hB0.cell (p := ⟨Bn, 0, none⟩) hlt).trans hBn
  obtain ⟨Wl, hWl⟩ : ∃ Wl, w.alloc (.cells #[.slice none 0 0] 32) = Wl := ⟨_, rfl⟩
  rw [hWl] at bO hB0 hsz hBl ⊢
  clear hWl
  refine range_hands rfl h1 (gf := 136) (lb := #[.pointer (some ⟨Bn, 0, none⟩)]) rfl trivial (enters_of Try.func136 (by kernel_rfl) rfl)
    (orders_hands (n - 1) Bn w.heap.size m (by omega) hm1 hm7 Wl (by omega) (by omega) hBl) (fun h k => h.trans k) (fun X l o o' hl ho _ _ => keep1_put (by omega) X l o o' hl ho) (Below.refl _ _) (fun _ => rfl)
    (fun so X => ((∃ v, Boxed X w.heap.size 32 v ∧ X.ownsRow w.heap.size 22 1 v so.length (so.map (·.2)) ∧ True) ∧ (∀ x ∈ so, X.ownsRow w.heap.size 3 1 x.2 m (vals x.1))) ∧ Below w.heap.size Wl X)
    (fun _ _ _ => False)
    (OwnFrom.and (OwnFrom.and (Own.from (holdsRow_own w.heap.size w.heap.size 32 22 1 (fun so : List El => so.length) (fun so => so.map (·.2)) (fun _ _ => True)) _) (fun s A C row hs hg hr x hx => row_own (hs x hx) hg (fun r e => (hr r e).2))) (ownFrom_below (by omega) (by omega)))
    (fun _ _ _ _ _ hs _ _ => hs) (fun x => given_own _ _ x _) ⟨⟨⟨_, bO, World.ownsRow_nil _ _ _ _, trivial⟩, fun x hx => by simp at hx⟩, Below.refl _ _⟩
    (fun x => { tmps := #[.slice none 0 0, .func (.func 136) #[] #[.pointer (some ⟨Bn, 0, none⟩)], .pointer (some ⟨w.heap.size, 0, none⟩), undef, .slice none 0 0, x.2, .func (.func 136) #[] #[.pointer (some ⟨Bn, 0, none⟩)], x.2, undef, undef, undef, undef, undef], defers := [] }) ?assign ?body ?done ?stop
  case assign =>
    intro l x X K hK
    gi_wp2
    exact hK
  case body =>
    rintro l so ⟨ts, v⟩ X ⟨⟨⟨vo, hbo, hro, _⟩, hrows⟩, hB⟩ ⟨⟨hzl, hzo⟩, hrow⟩ hlen
    obtain ⟨gt, ct, rfl⟩ := own_pos hrow hm1
    obtain ⟨_, va, vc, rfl, _, _⟩ := Sees.owns hro
    have hXs : w.heap.size + 1 ≤ X.heap.size := by have := hB.size; omega
    have hso : so.length < 5040 := by have := HF.out; omega
    have hco := hbo.cell
    have hYa : Below X.heap.size X (X.alloc (.cells #[.slice (some ⟨gt, 0, none⟩) m ct] 22)) := (Below.refl _ _).alloc (Nat.le_refl _) _
    have HYA := Go.Lib.hid (And.intro (boxed_below hbo hYa) (And.intro (kept_call hro hYa) (And.intro (fun x (hx : x ∈ so) => kept_call (hrows x hx) hYa) (And.intro (hB.trans (hYa.mono (by omega))) (And.intro (kept_call hrow hYa) (from_below (B := w.heap.size + 1) hYa))))))
    have HK1 := Go.Lib.hid (keep1_below (a := Bn) (by omega) hYa)
    obtain ⟨M, hM⟩ : ∃ M, so.length = M := ⟨_, rfl⟩
    have HM := Go.Lib.hid hM
    rw [hM] at HYA hco hso
    have hBX : Bn < X.heap.size := by omega
    clear hM hYa hrow hzl hzo hbo hro hrows hB hlen
    dsimp only
    gi_wp2_with (gi_at_builtin; refine wpListIn_append_two _ rfl _ _ 32 rfl w.heap.size 22 j0 (.slice none 0 0) 1 24 Try.underlying32 HJ.out.1 HJ.out.2.1 HJ.out.2.2.1 HJ.out.2.2.2 rfl (by decide) (.slice va M vc) M (so.map (·.2)) rfl HYA.out.2.1 ⟨X.heap.size, 0, none⟩ 1 1 [.slice (some ⟨gt, 0, none⟩) m ct] rfl rfl (cell_one_new _ _ _) (fun x hx => by simp at hx; subst hx; rfl) (by unfold maxLen; omega) (by omega) (by simp; omega) ?_; intro v' w6 hown6 hgrow6 hnew6; obtain ⟨g6, c6, rfl⟩ := own_pos hown6 (by omega); have hke := keep_end (D := w.heap.size + 1) HYA.out.1 HYA.out.2.1 (Nat.le_refl _) hown6 hgrow6; have hc6 := hke.1; have hf6 := hke.2.1; have HR6 := Go.Lib.hid hke.2.2; have HG6 := Go.Lib.hid (And.intro hgrow6 hnew6); clear hke hown6 hgrow6 hnew6)
    refine ⟨HYA.out.2.2.2.2.2.trans HR6.out.2.2.2.2.2.1, HK1.out.trans ⟨(HR6.out.2.2.2.2.2.2.1 _ (Below.refl _ _) (by simp; omega)).block Bn hlt, HR6.out.2.2.2.2.2.2.2⟩, ⟨⟨_, HR6.out.1, ?_⟩, fun a b hx => ?_⟩, HR6.out.2.2.2.2.2.2.1 _ HYA.out.2.2.2.1 (by simp; omega)⟩
    · rw [List.length_append, HM.out, List.map_append]
      exact HR6.out.2.1
    · rw [List.mem_append, List.mem_singleton] at hx
      rcases hx with hx | hx
      · exact HR6.out.2.2.1 _ _ _ _ (HYA.out.2.2.1 (a, b) hx)
      · cases hx
        exact HR6.out.2.2.1 _ _ _ _ HYA.out.2.2.2.2.1
  case done =>
    rintro D ys X hD hys ⟨⟨⟨vo, hbo, hro, _⟩, hrows⟩, hB⟩ hK
    have hL := lists_all hm1 hm7 hys hro hrows
    have HF := Go.Lib.hid (And.intro hL hB)
    have hco := hbo.cell
    obtain ⟨_, va, vc, rfl, _, _⟩ := Sees.owns hro
    clear hbo hro hrows hB hL
    gi_wp2
    refine ⟨by simp, .inl ⟨_, _, rfl, run_takeDeferred hK, ?_⟩⟩
    refine ⟨_, results_tmp rfl _ _ _, _, rfl, ?_, hB0.trans (HF.out.2.trans (belowK_b (w := Wl) (by omega) X D _ _ (by omega) hK rfl rfl))⟩
    rw [hys] at HF
    obtain ⟨gs, g1, g2, g3, g4, g5⟩ := HF.out.1
    exact ⟨gs, g1, ownsRow_putObj g2 _ hK rfl, fun i hi => ownsRow_putObj (g3 i hi) _ hK rfl, g4, g5⟩
  case stop =>
    rintro D c so X _ _ h _
    exact h.elim

set_option maxHeartbeats 1000000 in
theorem collO_any (m : Nat) (hm1 : 1 ≤ m) (hm7 : m ≤ 7) (Bn : Nat) (w : World) (hlt : Bn < w.heap.size) (hBn : w.cell? ⟨Bn, 0, none⟩ = some (.int .i64 (m : Int))) :
    Calls Try.prog 110 #[.func (.func 136) #[] #[.pointer (some ⟨Bn, 0, none⟩)]] w (AllOTo m w) := by
  have CA := Go.Lib.hid (callsIn_wide.1 (appendO_in 3 (by omega) m hm1 hm7 Bn w hlt hBn))
  clear hBn
  go_enter Try.func110, Try.ntmps110
  go_wp2_with fail
  refine (CA.out).mono ?_
  rintro e w1 ⟨v, rfl, ho, hb⟩
  have H1 := Go.Lib.hid (And.intro ho hb)
  obtain ⟨gs, h1, h2, _⟩ := ho
  obtain ⟨_, va, vc, rfl, _, _⟩ := Sees.owns h2
  clear h1 h2 hb
  obtain ⟨N, hN⟩ : ∃ N, ((allO m).map vals).length = N := ⟨_, rfl⟩
  rw [hN] at H1 ⊢
  clear hN
  go_wp2_with fail
  go_ret
  exact ⟨_, rfl, H1.out.1, H1.out.2⟩

/-- What is drawn of n: all orders of n numbers, n in 1..6, or none. -/
def drawnL (n : Int) : List (List Int) := if 1 ≤ n ∧ n ≤ 6 then allO n.toNat else []

set_option maxRecDepth 100000 in
set_option maxHeartbeats 1000000 in
theorem drawnOrders_any (n : Int) (hw : (Lit.int .i64 n).wf = true) (W : World) :
    Calls Try.prog 62 #[.int .i64 n] W fun e w' => (¬ (1 ≤ n ∧ n ≤ 6) ∧ (∃ a c, e = .returned (.slice a 0 c)) ∧ Below W.heap.size W w') ∨ (∃ m : Nat, n = (m : Int) ∧ 1 ≤ m ∧ m ≤ 6 ∧ AllOTo m W e w') := by
  by_cases hin : 1 ≤ n ∧ n ≤ 6
  · obtain ⟨m, rfl⟩ : ∃ m : Nat, n = (m : Int) := ⟨n.toNat, by omega⟩
    have hm1 : 1 ≤ m := by omega
    have hm6 : m ≤ 6 := by omega
    have h1 : ¬ (m : Int) < 1 := by omega
    have h2 : ¬ (6 : Int) < (m : Int) := by omega
    clear hin
    go_enter Try.func62, Try.ntmps62
    go_wp2_with fail
    refine (callsIn_wide.1 (ordersOf_in Fence.wide 1 m trivial rfl _)).mono ?_
    rintro e w2 ⟨rfl, rfl⟩
    have hba : Below W.heap.size W (W.alloc (.cells #[.int .i64 (m : Int)] 3)) := (Below.refl _ _).alloc (Nat.le_refl _) _
    have CC := Go.Lib.hid (collO_any m hm1 (by omega) W.heap.size (W.alloc (.cells #[.int .i64 (m : Int)] 3)) (by simp) (Boxed.new W 3 (.int .i64 (m : Int))).cell)
    have HB := Go.Lib.hid hba
    clear hba
    go_wp2_with fail
    refine (CC.out).mono ?_
    rintro e w3 ⟨v, rfl, hL, hb⟩
    have H3 := Go.Lib.hid (And.intro (hL.lower HB.out.size) (HB.out.trans (hb.mono HB.out.size)))
    obtain ⟨gs, _, g2, _⟩ := hL
    obtain ⟨_, va, vc, rfl, _, _⟩ := Sees.owns g2
    clear g2 hb CC
    obtain ⟨N, hN⟩ : ∃ N, ((allO m).map vals).length = N := ⟨_, rfl⟩
    rw [hN] at H3 ⊢
    clear hN
    go_wp2_with fail
    go_ret
    exact .inr ⟨m, rfl, hm1, hm6, _, rfl, H3.out.1, H3.out.2⟩
  · by_cases h1 : n < 1
    · have HI := Go.Lib.hid hin
      clear hin
      go_enter Try.func62, Try.ntmps62
      go_wp2
      go_ret
      first | exact .inl ⟨HI.out, ⟨_, _, rfl⟩, (Below.refl _ _).alloc (Nat.le_refl _) _⟩ | exact .inl ⟨⟨_, _, rfl⟩, (Below.refl _ _).alloc (Nat.le_refl _) _⟩
    · have h2 : 6 < n := by omega
      have HI := Go.Lib.hid hin
      clear hin
      go_enter Try.func62, Try.ntmps62
      go_wp2
      go_ret
      first | exact .inl ⟨HI.out, ⟨_, _, rfl⟩, (Below.refl _ _).alloc (Nat.le_refl _) _⟩ | exact .inl ⟨⟨_, _, rfl⟩, (Below.refl _ _).alloc (Nat.le_refl _) _⟩

end Go.Proofs.Ytpkjnlabjmpokaa.CollOC

/-
  Contracts: the program's known leaves out the truth value. Conditions: none.
-/
namespace Go.Proofs.Ytpkjnlabjmpokaa.KnownC
open Go.RowKit SeesC IntsC ExactC
set_option linter.unusedVariables false

theorem knownI (r : Int) (b : Bool) (W : World) : Calls Try.prog 86 #[.int .i64 r, .bool b] W fun e w' => e = .returned (.int .i64 r) ∧ w' = W := by
  go_enter Try.func86, Try.ntmps86
  go_wp2
  go_ret
  exact ⟨rfl, rfl⟩

theorem knownB (r : Bool) (b : Bool) (W : World) : Calls Try.prog 64 #[.bool r, .bool b] W fun e w' => e = .returned (.bool r) ∧ w' = W := by
  go_enter Try.func64, Try.ntmps64
  go_wp2
  go_ret
  exact ⟨rfl, rfl⟩

theorem knownL (a : Option Addr) (n c : Nat) (b : Bool) (W : World) : Calls Try.prog 79 #[.slice a n c, .bool b] W fun e w' => e = .returned (.slice a n c) ∧ w' = W := by
  go_enter Try.func79, Try.ntmps79
  go_wp2
  go_ret
  exact ⟨rfl, rfl⟩

theorem knownS (a : Option Addr) (n c : Nat) (b : Bool) (W : World) : Calls Try.prog 103 #[.slice a n c, .bool b] W fun e w' => e = .returned (.slice a n c) ∧ w' = W := by
  go_enter Try.func103, Try.ntmps103
  go_wp2
  go_ret
  exact ⟨rfl, rfl⟩

end Go.Proofs.Ytpkjnlabjmpokaa.KnownC

/-
  Mathematics: what the chances and means of chapter 9 are told of. Conditions: none.
-/
namespace Go.Proofs.Ytpkjnlabjmpokaa.ChQ
open OrdMath AllO ChM

theorem ch_in {n : Int} {q : Nat → Nat × Nat} {m : Nat} (hn : n = (m : Int)) (h1 : 1 ≤ m) (h6 : m ≤ 6) : chAns n q = ((q m).1, (q m).2, true) := by
  unfold chAns
  rw [if_pos ⟨by omega, by omega⟩, hn, Int.toNat_natCast]

theorem ch_out {n : Int} {q : Nat → Nat × Nat} (h : ¬ (1 ≤ n ∧ n ≤ 6)) : chAns n q = (0, 0, false) := by
  unfold chAns
  rw [if_neg h]

theorem all_1k {m : Nat} (h1 : 1 ≤ m) (h6 : m ≤ 6) : 1 ≤ (allO m).length ∧ (allO m).length ≤ 1000 := by
  rw [allO_len]
  have h : ∀ m < 7, 1 ≤ m → 1 ≤ fact m ∧ fact m ≤ 1000 := by decide +kernel
  exact h m (by omega) h1

end Go.Proofs.Ytpkjnlabjmpokaa.ChQ

/-
  Marks upon a ragged list of lists: what lies ahead of it and behind it stays. Conditions: at most 2^20 numbers together.
-/
namespace Go.Proofs.Ytpkjnlabjmpokaa.RagMarkC
open Go.RowKit SeesC IntsC ExactC ListsC ListsEC ListsFC LLC

/-- What lies below base, and from D on, is as it was. -/
structure Mid (base D : Nat) (w w' : World) : Prop where
  os : w'.os = w.os
  tape : w'.tape = w.tape
  output : w'.output = w.output
  size : w.heap.size ≤ w'.heap.size
  block : ∀ k, k < w.heap.size → (k < base ∨ D ≤ k) → w'.heap[k]? = w.heap[k]?

theorem Mid.refl (base D : Nat) (w : World) : Mid base D w w := ⟨rfl, rfl, rfl, Nat.le_refl _, fun _ _ _ => rfl⟩

theorem Mid.step {base D q : Nat} {w w' w'' : World} (h : Mid base D w w') (hg : w'.grownBy w'' (some q)) (h1 : base ≤ q) (h2 : q < D) : Mid base D w w'' :=
  ⟨hg.os.trans h.os, hg.tape.trans h.tape, hg.output.trans h.output, Nat.le_trans h.size hg.size, fun k hk hb => (hg.block k (Nat.lt_of_lt_of_le hk h.size) (by simp; omega)).trans (h.block k hk hb)⟩

theorem Mid.below {base D b : Nat} {w0 w w' : World} (h : Mid base D w w') (hb : Below b w0 w) (hle : b ≤ base) (hw : b ≤ w0.heap.size) : Below b w0 w' :=
  ⟨h.os.trans hb.os, h.tape.trans hb.tape, h.output.trans hb.output, Nat.le_trans hb.size h.size, fun k hk => (h.block k (Nat.lt_of_lt_of_le hk (Nat.le_trans hw hb.size)) (.inl (Nat.lt_of_lt_of_le hk hle))).trans (hb.block k hk)⟩

theorem Mid.own {base D b n : Nat} {ty : TypeId} {v : Value} {xs : List Value} {w w' : World} (h : Mid base D w w') (ho : w.ownsRow b ty 1 v n xs) (hne : ∀ q, v.ownBlock = some q → q < base ∨ D ≤ q) : w'.ownsRow b ty 1 v n xs := by
  have hlt := fun q hq => (ho.lt q hq).2
  rcases ho.2 with ⟨rfl, h0⟩ | ⟨g, cap, cur, rfl, hb, hg, hrest⟩
  · exact ⟨ho.1, .inl ⟨rfl, h0⟩⟩
  · exact ⟨ho.1, .inr ⟨g, cap, cur, rfl, hb, (h.block g (hlt g rfl) (hne g rfl)).trans hg, hrest⟩⟩

/-- A ragged list of which the rows lie below D. -/
def RagU (w : World) (base D : Nat) (v : Value) (L : List (List Int)) : Prop :=
  ∃ gs : List (Nat × Nat), gs.length = L.length ∧ w.ownsRow base 22 1 v L.length ((List.range L.length).map fun i => sl (L.getD i []).length (gs.getD i (0, 0))) ∧
    (∀ i, i < L.length → w.ownsRow base 3 1 (sl (L.getD i []).length (gs.getD i (0, 0))) (L.getD i []).length (vals (L.getD i []))) ∧ (gs.map (·.1)).Nodup ∧ ∀ i, i < L.length → (gs.getD i (0, 0)).1 < D

theorem Rag.under {w : World} {base : Nat} {v : Value} {L : List (List Int)} (h : Rag w base v L) : RagU w base w.heap.size v L := by
  obtain ⟨gs, h1, h2, h3, h4⟩ := h
  exact ⟨gs, h1, h2, h3, h4, fun i hi => (own_block_lt (h3 i hi) (q := (gs.getD i (0, 0)).1) rfl).2⟩

theorem RagU.rag {w : World} {base D : Nat} {v : Value} {L : List (List Int)} (h : RagU w base D v L) : Rag w base v L := by
  obtain ⟨gs, h1, h2, h3, h4, _⟩ := h
  exact ⟨gs, h1, h2, h3, h4⟩

theorem RagU.sees {w : World} {base D : Nat} {v : Value} {L : List (List Int)} (h : RagU w base D v L) : SeesLL w v L := h.rag.sees

theorem RagU.kept {w w' : World} {base D : Nat} {v : Value} {L : List (List Int)} (h : RagU w base D v L) (hb : Below w.heap.size w w') : RagU w' base D v L := by
  obtain ⟨gs, h1, h2, h3, h4, h5⟩ := h
  exact ⟨gs, h1, kept_call h2 hb, fun i hi => kept_call (h3 i hi) hb, h4, h5⟩

end Go.Proofs.Ytpkjnlabjmpokaa.RagMarkC

/-
  Ragged lists of lists as answers: marked whole and found so again, and what the walks of their exact laws carry. Conditions: at most 2^20 numbers together.
-/
namespace Go.Proofs.Ytpkjnlabjmpokaa.RagResC
open Go.RowKit SeesC IntsC ExactC ListsC ListsEC ListsFC LLC RagMarkC

/-- Ragged lists and a truth value are returned, in memory of the call's own. -/
def RagTo (w : World) (e : Ending) (w' : World) (L : List (List Int)) (b : Bool) : Prop :=
  ∃ v, e = .returned (.tuple #[v, .bool b]) ∧ Rag w' w.heap.size v L ∧ Below w.heap.size w w'

/-- Ragged lists are returned, in memory of the call's own. -/
def LTo (w : World) (e : Ending) (w' : World) (L : List (List Int)) : Prop :=
  ∃ a c, e = .returned (.slice a L.length c) ∧ Rag w' w.heap.size (.slice a L.length c) L ∧ Below w.heap.size w w'

theorem lto_of {w w' : World} {a : Option Addr} {N c : Nat} {L M : List (List Int)} (h1 : Rag w' w.heap.size (.slice a N c) L) (h2 : Below w.heap.size w w') (hN : L.length = N) (hL : L = M) : LTo w (.returned (.slice a N c)) w' M := by
  subst hL; subst hN; exact ⟨a, c, rfl, h1, h2⟩

theorem Rag.lower {w : World} {base base' : Nat} {v : Value} {L : List (List Int)} (h : Rag w base v L) (hle : base' ≤ base) : Rag w base' v L := by
  obtain ⟨gs, h1, h2, h3, h4⟩ := h
  exact ⟨gs, h1, own_lower h2 hle, fun i hi => own_lower (h3 i hi) hle, h4⟩

theorem ragTo_below {w w1 w' : World} {e : Ending} {L : List (List Int)} {b : Bool} (hb : Below w.heap.size w w1) (h : RagTo w1 e w' L b) : RagTo w e w' L b := by
  obtain ⟨v, he, ho, hb2⟩ := h
  exact ⟨v, he, Rag.lower ho hb.size, hb.trans (hb2.mono hb.size)⟩

/-- An empty list of lists that was made. -/
theorem rag_made (w : World) (base : Nat) (hb : base ≤ w.heap.size) : Rag (w.alloc (.cells #[] 22)) base (.slice (some ⟨w.heap.size, 0, none⟩) 0 0) [] :=
  ⟨[], rfl, World.ownsRow_made _ _ _ hb (by unfold maxLen; omega) rfl, fun i hi => absurd hi (by simp), by simp⟩

theorem ragTo_none (w : World) (b : Bool) : RagTo w (.returned (.tuple #[.slice (some ⟨w.heap.size, 0, none⟩) 0 0, .bool b])) (w.alloc (.cells #[] 22)) [] b :=
  ⟨_, rfl, rag_made _ _ (Nat.le_refl _), (Below.refl _ _).alloc (Nat.le_refl _) _⟩

/-- Ragged lists all of which lie below D. -/
def RagV (w : World) (base D : Nat) (v : Value) (L : List (List Int)) : Prop :=
  RagU w base D v L ∧ ∀ q, v.ownBlock = some q → q < D

theorem Rag.ragv {w : World} {base : Nat} {v : Value} {L : List (List Int)} (h : Rag w base v L) : RagV w base w.heap.size v L :=
  ⟨Rag.under h, fun q hq => by obtain ⟨gs, _, h2, _⟩ := h; exact (own_block_lt h2 hq).2⟩

theorem RagV.sees {w : World} {base D : Nat} {v : Value} {L : List (List Int)} (h : RagV w base D v L) : SeesLL w v L := h.1.sees
theorem RagV.rag {w : World} {base D : Nat} {v : Value} {L : List (List Int)} (h : RagV w base D v L) : Rag w base v L := h.1.rag
theorem RagV.kept {w w' : World} {base D : Nat} {v : Value} {L : List (List Int)} (h : RagV w base D v L) (hb : Below w.heap.size w w') : RagV w' base D v L := ⟨h.1.kept hb, h.2⟩

/-- A list of numbers that lies elsewhere is written. -/
theorem ragv_mark {w w' : World} {base D b n : Nat} {v u : Value} {L : List (List Int)} {xs : List Value} (h : RagV w base D v L) (ho : w.ownsRow b 3 1 u n xs) (hg : w.grownBy w' u.ownBlock)
    (hq : ∀ q, u.ownBlock = some q → q < base ∨ D ≤ q) : RagV w' base D v L := by
  obtain ⟨⟨gs, h1, h2, h3, h4, h5⟩, h6⟩ := h
  refine ⟨⟨gs, h1, own_mark h2 hg (fun a ha e => own_types h2 ho (by decide) ha e), fun i hi => own_mark (h3 i hi) hg (fun a ha e => ?_), h4, h5⟩, h6⟩
  have e1 : (gs.getD i (0, 0)).1 = a := Option.some.inj ha
  have e2 := h5 i hi
  have e3 := (own_block_lt (h3 i hi) (q := (gs.getD i (0, 0)).1) rfl).1
  have e4 := hq a e
  omega

/-- What lies at D and behind it is written. -/
theorem ragv_below {w w' : World} {base D B : Nat} {v : Value} {L : List (List Int)} (h : RagV w base D v L) (hb : Below B w w') (hD : D ≤ B) : RagV w' base D v L := by
  obtain ⟨⟨gs, h1, h2, h3, h4, h5⟩, h6⟩ := h
  refine ⟨⟨gs, h1, own_below h2 hb (fun q hq => by have := h6 q hq; omega), fun i hi => own_below (h3 i hi) hb (fun q hq => ?_), h4, h5⟩, h6⟩
  have e1 : (gs.getD i (0, 0)).1 = q := Option.some.inj hq
  have e2 := h5 i hi
  omega

/-- The marks of lists of the shape of L, from a number on. -/
def marksR (k : Nat) : List (List Int) → List (List Int)
  | [] => []
  | l :: L => ((List.range l.length).map fun i => ((k + i : Nat) : Int)) :: marksR (k + l.length) L

theorem marksR_len : ∀ (L : List (List Int)) (k : Nat), (marksR k L).length = L.length
  | [], _ => rfl
  | l :: L, k => by simp [marksR, marksR_len L]

theorem marksR_at : ∀ (L : List (List Int)) (k i : Nat), i < L.length → (marksR k L).getD i [] = (List.range (L.getD i []).length).map fun j => ((k + tot (L.take i) + j : Nat) : Int)
  | [], _, i, h => absurd h (by simp)
  | l :: L, k, 0, _ => by simp [marksR, tot]
  | l :: L, k, i + 1, h => by
    have ih := marksR_at L (k + l.length) i (by simpa using h)
    show (marksR (k + l.length) L).getD i [] = _
    rw [ih]
    show (List.range (L.getD i []).length).map _ = (List.range (L.getD i []).length).map _
    congr 1
    funext j
    show ((k + l.length + tot (L.take i) + j : Nat) : Int) = ((k + (l.length + tot (L.take i)) + j : Nat) : Int)
    congr 1
    omega

theorem marksR_tot : ∀ (L : List (List Int)) (k : Nat), tot (marksR k L) = tot L
  | [], _ => rfl
  | l :: L, k => by simp [marksR, tot, marksR_tot L]

theorem marks_vals (k n : Nat) : vals ((List.range n).map fun i => ((k + i : Nat) : Int)) = imarks k n := by
  unfold vals imarks
  rw [List.map_map]; rfl

theorem marksR_row {L : List (List Int)} {k i : Nat} (h : i < L.length) : ((marksR k L).getD i []).length = (L.getD i []).length ∧ vals ((marksR k L).getD i []) = imarks (k + tot (L.take i)) (L.getD i []).length := by
  rw [marksR_at L k i h]
  exact ⟨by simp, marks_vals _ _⟩

end Go.Proofs.Ytpkjnlabjmpokaa.RagResC

/-
  Ragged lists of a call's own, with the rows' places: a row more, a row of another length, a number put into a row. Plain facts on worlds. Conditions: none.
-/
namespace Go.Proofs.Ytpkjnlabjmpokaa.RRC
open Go.RowKit SeesC IntsC ExactC ListsC ListsEC ListsFC LLC RagMarkC RagResC

/-- The rows' own values. -/
def rowsOf (L : List (List Int)) (gs : List (Nat × Nat)) : List Value := (List.range L.length).map fun i => sl (L.getD i []).length (gs.getD i (0, 0))

/-- Ragged lists that are owned, row i at the place gs i. -/
def RR (w : World) (base : Nat) (v : Value) (gs : List (Nat × Nat)) (L : List (List Int)) : Prop :=
  gs.length = L.length ∧ w.ownsRow base 22 1 v L.length (rowsOf L gs) ∧
    (∀ i, i < L.length → w.ownsRow base 3 1 (sl (L.getD i []).length (gs.getD i (0, 0))) (L.getD i []).length (vals (L.getD i []))) ∧ (gs.map (·.1)).Nodup

theorem rr_rag {w : World} {base : Nat} {v : Value} {gs : List (Nat × Nat)} {L : List (List Int)} (h : RR w base v gs L) : Rag w base v L := ⟨gs, h.1, h.2.1, h.2.2.1, h.2.2.2⟩
theorem rag_rr {w : World} {base : Nat} {v : Value} {L : List (List Int)} (h : Rag w base v L) : ∃ gs, RR w base v gs L := by
  obtain ⟨gs, h1, h2, h3, h4⟩ := h; exact ⟨gs, h1, h2, h3, h4⟩

theorem RR.kept {w w' : World} {base : Nat} {v : Value} {gs : List (Nat × Nat)} {L : List (List Int)} (h : RR w base v gs L) (hb : Below w.heap.size w w') : RR w' base v gs L :=
  ⟨h.1, kept_call h.2.1 hb, fun i hi => kept_call (h.2.2.1 i hi) hb, h.2.2.2⟩

theorem RR.lt {w : World} {base : Nat} {v : Value} {gs : List (Nat × Nat)} {L : List (List Int)} (h : RR w base v gs L) {i : Nat} (hi : i < L.length) : base ≤ (gs.getD i (0, 0)).1 ∧ (gs.getD i (0, 0)).1 < w.heap.size :=
  own_block_lt (h.2.2.1 i hi) (q := (gs.getD i (0, 0)).1) rfl

theorem rowsOf_len (L : List (List Int)) (gs : List (Nat × Nat)) : (rowsOf L gs).length = L.length := by simp [rowsOf]

theorem rowsOf_at {L : List (List Int)} {gs : List (Nat × Nat)} {i : Nat} (hi : i < L.length) : (rowsOf L gs)[i]? = some (sl (L.getD i []).length (gs.getD i (0, 0))) := by
  unfold rowsOf
  rw [List.getElem?_map, List.getElem?_range hi]; rfl

/-- A row's header, where the lists lie. -/
theorem RR.head {w : World} {base g N c : Nat} {gs : List (Nat × Nat)} {L : List (List Int)} (h : RR w base (.slice (some ⟨g, 0, none⟩) N c) gs L) (hN : L.length = N) {i : Nat} (hi : i < N) :
    w.cell? ⟨g, i, none⟩ = some (.slice (some ⟨(gs.getD i (0, 0)).1, 0, none⟩) (L.getD i []).length (gs.getD i (0, 0)).2) := by
  have h2 := h.2.1
  rw [hN] at h2
  rw [h2.cellAt i (by omega), rowsOf_at (by omega)]; rfl

/-- A number in a row. -/
theorem RR.num {w : World} {base : Nat} {v : Value} {gs : List (Nat × Nat)} {L : List (List Int)} (h : RR w base v gs L) {i j : Nat} (hi : i < L.length) (hj : j < (L.getD i []).length) :
    w.cell? ⟨(gs.getD i (0, 0)).1, j, none⟩ = some (.int .i64 ((L.getD i []).getD j 0)) := by
  have h2 := h.2.2.1 i hi
  unfold sl at h2
  rw [h2.cellAt j (by omega)]
  rw [List.getElem?_map, List.getElem?_eq_getElem hj, List.getD_eq_getElem?_getD (l := L.getD i []), List.getElem?_eq_getElem hj]
  rfl

theorem getD_cat_l {α : Type} {d : α} {A B : List α} {i : Nat} (h : i < A.length) : (A ++ B).getD i d = A.getD i d := by
  rw [List.getD_eq_getElem?_getD, List.getElem?_append_left h, ← List.getD_eq_getElem?_getD]
theorem getD_cat_r {α : Type} {d x : α} {A : List α} : (A ++ [x]).getD A.length d = x := by
  rw [List.getD_eq_getElem?_getD, List.getElem?_append_right (Nat.le_refl _)]; simp
theorem getD_set_eq {α : Type} {d x : α} {A : List α} {i : Nat} (h : i < A.length) : (A.set i x).getD i d = x := by
  rw [List.getD_eq_getElem?_getD, List.getElem?_set]; simp [h]
theorem getD_set_ne {α : Type} {d x : α} {A : List α} {i j : Nat} (h : i ≠ j) : (A.set i x).getD j d = A.getD j d := by
  rw [List.getD_eq_getElem?_getD, List.getElem?_set, if_neg h, ← List.getD_eq_getElem?_getD]

/-- A row more. -/
theorem rr_snoc {X X' : World} {base N : Nat} {v v5 : Value} {gs : List (Nat × Nat)} {p : Nat × Nat} {L : List (List Int)} {q : List Int}
    (hN : L.length = N) (h : RR X base v gs L) (hp : X.ownsRow base 3 1 (sl q.length p) q.length (vals q)) (hfresh : ∀ i, i < N → (gs.getD i (0, 0)).1 ≠ p.1)
    (ho5 : X'.ownsRow base 22 1 v5 (N + 1) (rowsOf L gs ++ [sl q.length p])) (hgrow : X.grownBy X' v.ownBlock) : RR X' base v5 (gs ++ [p]) (L ++ [q]) := by
  obtain ⟨h1, h2, h3, h4⟩ := h
  subst hN
  refine ⟨by simp [h1], ?_, ?_, ?_⟩
  · have e : rowsOf (L ++ [q]) (gs ++ [p]) = rowsOf L gs ++ [sl q.length p] := by
      unfold rowsOf
      rw [List.length_append, List.length_singleton, List.range_succ, List.map_append]
      congr 1
      · apply List.map_congr_left
        intro i hi
        rw [List.mem_range] at hi
        rw [getD_cat_l hi, getD_cat_l (by rw [h1]; exact hi)]
      · simp only [List.map_cons, List.map_nil]
        rw [getD_cat_r, ← h1, getD_cat_r]
    rw [e, List.length_append]
    exact ho5
  · intro i hi
    rw [List.length_append, List.length_singleton] at hi
    by_cases h : i < L.length
    · rw [getD_cat_l h, getD_cat_l (by rw [h1]; exact h)]
      exact own_mark (h3 i h) hgrow (fun a ha e => own_types h2 (h3 i h) (by decide) e ha)
    · have hi2 : i = L.length := by omega
      subst hi2
      rw [getD_cat_r, ← h1, getD_cat_r]
      exact own_mark hp hgrow (fun a ha e => own_types h2 hp (by decide) e ha)
  · rw [List.map_append, List.nodup_append]
    refine ⟨h4, by simp, ?_⟩
    intro a ha b hb e
    simp at hb
    subst hb
    obtain ⟨r, hr, rfl⟩ := List.mem_map.1 ha
    obtain ⟨i, hi, hir⟩ := List.mem_iff_getElem.1 hr
    have h5 := hfresh i (by omega)
    have h6 : gs.getD i (0, 0) = r := by rw [← hir]; simp [hi]
    rw [h6] at h5
    exact h5 e

theorem nodup_set_fst {gs : List (Nat × Nat)} {k : Nat} {p : Nat × Nat} (h : (gs.map (·.1)).Nodup) (hp : ∀ j, j < gs.length → j ≠ k → (gs.getD j (0, 0)).1 ≠ p.1) : ((gs.set k p).map (·.1)).Nodup := by
  rw [List.nodup_iff_pairwise_ne, List.pairwise_iff_getElem]
  intro i j hi hj hij
  simp at hi hj
  simp only [List.getElem_map, List.getElem_set]
  have h2 : ∀ a b, a < gs.length → b < gs.length → a ≠ b → (gs.getD a (0, 0)).1 ≠ (gs.getD b (0, 0)).1 := fun a b ha hb hab => nodup_ne h ha hb hab
  have e1 : ∀ a (ha : a < gs.length), gs[a] = gs.getD a (0, 0) := fun a ha => by simp [ha]
  by_cases c1 : k = i
  · rw [if_pos c1, if_neg (by omega), e1 j hj]
    exact fun e => hp j hj (by omega) e.symm
  · by_cases c2 : k = j
    · rw [if_neg c1, if_pos c2, e1 i hi]
      exact hp i hi (by omega)
    · rw [if_neg c1, if_neg c2, e1 i hi, e1 j hj]
      exact h2 i j hi hj (by omega)

/-- A row becomes another: its numbers lie in X', its header is stored. -/
theorem rr_set {X X' : World} {base g N c k g' c' : Nat} {gs : List (Nat × Nat)} {L : List (List Int)} {r : List Int}
    (hN : L.length = N) (h : RR X base (.slice (some ⟨g, 0, none⟩) N c) gs L) (hk : k < N) (ho : X'.ownsRow base 3 1 (sl r.length (g', c')) r.length (vals r))
    (hg : X.grownBy X' (some (gs.getD k (0, 0)).1)) (hnew : g' = (gs.getD k (0, 0)).1 ∨ X.heap.size ≤ g') :
    RR (X'.setCell ⟨g, k, none⟩ (.slice (some ⟨g', 0, none⟩) r.length c')) base (.slice (some ⟨g, 0, none⟩) N c) (gs.set k (g', c')) (L.set k r) := by
  have hlt := fun i (hi : i < L.length) => h.lt hi
  obtain ⟨h1, h2, h3, h4⟩ := h
  subst hN
  have o1 : X'.ownsRow base 22 1 (.slice (some ⟨g, 0, none⟩) L.length c) L.length (rowsOf L gs) := own_mark h2 hg (fun a ha e => own_types h2 (h3 k hk) (by decide) ha e)
  have o2 := World.ownsRow.stored o1 k (.slice (some ⟨g', 0, none⟩) r.length c')
  refine ⟨by simp [h1], ?_, ?_, ?_⟩
  · have e : rowsOf (L.set k r) (gs.set k (g', c')) = (rowsOf L gs).set k (.slice (some ⟨g', 0, none⟩) r.length c') := by
      apply List.ext_getElem?
      intro i
      by_cases hi : i < L.length
      · rw [rowsOf_at (by simpa using hi), List.getElem?_set]
        by_cases hik : k = i
        · subst hik
          rw [if_pos rfl, if_pos (by rw [rowsOf_len]; exact hi), getD_set_eq hi, getD_set_eq (by omega)]; rfl
        · rw [if_neg hik, rowsOf_at hi, getD_set_ne hik, getD_set_ne hik]
      · rw [List.getElem?_eq_none (by rw [rowsOf_len]; simp; omega), List.getElem?_eq_none (by simp [rowsOf_len]; omega)]
    rw [e, List.length_set]
    exact o2.1
  · intro i hi
    rw [List.length_set] at hi
    by_cases hik : k = i
    · subst hik
      rw [getD_set_eq hi, getD_set_eq (by omega)]
      exact own_mark ho o2.2 (fun a ha e => own_types o1 ho (by decide) e ha)
    · rw [getD_set_ne hik, getD_set_ne hik]
      have o3 : X'.ownsRow base 3 1 (sl (L.getD i []).length (gs.getD i (0, 0))) (L.getD i []).length (vals (L.getD i [])) := own_mark (h3 i hi) hg (fun a ha e => by
        have e2 := nodup_ne h4 (i := i) (j := k) (by omega) (by omega) (fun x => hik x.symm)
        have e3 : (gs.getD i (0, 0)).1 = a := Option.some.inj ha
        have e4 := Option.some.inj e
        omega)
      exact own_mark o3 o2.2 (fun a ha e => own_types o1 o3 (by decide) e ha)
  · refine nodup_set_fst h4 (fun j hj hjk => ?_)
    have e1 := hlt j (by omega)
    have e2 := nodup_ne h4 (i := j) (j := k) hj (by omega) hjk
    rcases hnew with h | h
    · rw [h]; exact e2
    · show _ ≠ g'
      omega

/-- A number is put into a row. -/
theorem rr_put {X : World} {base k j : Nat} {v : Value} {gs : List (Nat × Nat)} {L : List (List Int)} {y : Int}
    (h : RR X base v gs L) (hk : k < L.length) :
    RR (X.setCell ⟨(gs.getD k (0, 0)).1, j, none⟩ (.int .i64 y)) base v gs (L.set k ((L.getD k []).set j y)) := by
  obtain ⟨h1, h2, h3, h4⟩ := h
  have hok := h3 k hk
  unfold sl at hok
  have o2 := World.ownsRow.stored hok j (.int .i64 y)
  have hlen : ∀ i, ((L.set k ((L.getD k []).set j y)).getD i []).length = (L.getD i []).length := by
    intro i
    by_cases hik : k = i
    · subst hik; rw [getD_set_eq hk]; simp
    · rw [getD_set_ne hik]
  refine ⟨by simp [h1], ?_, ?_, h4⟩
  · have e : rowsOf (L.set k ((L.getD k []).set j y)) gs = rowsOf L gs := by
      unfold rowsOf
      rw [List.length_set]
      apply List.map_congr_left
      intro i _
      rw [hlen i]
    rw [e, List.length_set]
    exact own_mark h2 o2.2 (fun a ha e => own_types h2 (h3 k hk) (by decide) ha (by cases e; rfl))
  · intro i hi
    rw [List.length_set] at hi
    rw [hlen i]
    by_cases hik : k = i
    · subst hik
      rw [getD_set_eq hk]
      have e : vals ((L.getD k []).set j y) = (vals (L.getD k [])).set j (.int .i64 y) := by unfold vals; rw [List.map_set]
      rw [e]
      exact o2.1
    · rw [getD_set_ne hik]
      exact own_mark (h3 i hi) o2.2 (fun a ha e => by
        have e2 := nodup_ne h4 (i := i) (j := k) (by omega) (by omega) (fun x => hik x.symm)
        have e3 : (gs.getD i (0, 0)).1 = a := Option.some.inj ha
        have e4 := Option.some.inj e
        omega)

/-- A beginning of a row. -/
theorem own_cut {w : World} {base m j : Nat} {ty : TypeId} {p : Nat × Nat} {xs : List Value} (h : w.ownsRow base ty 1 (sl m p) m xs) (hj : j ≤ m) : w.ownsRow base ty 1 (sl j p) j (xs.take j) := by
  have hl : xs.length = m := by simpa using h.1
  refine ⟨by rw [List.length_take]; omega, .inr ?_⟩
  rcases h.2 with ⟨h0, _⟩ | ⟨g, cap, cur, hv, hb, hh, hnc, hcm, hcs, ht⟩
  · unfold sl at h0; cases h0
  · unfold sl at hv
    cases hv
    refine ⟨p.1, p.2, cur, rfl, hb, hh, by omega, hcm, hcs, ?_⟩
    rw [← ht, List.take_take]
    congr 1
    omega

theorem rag_of_mid {w w' : World} {b D base : Nat} {v : Value} {L : List (List Int)} (h : Rag w base v L) (hm : Mid b D w w') (hD : D ≤ base) : Rag w' base v L := by
  obtain ⟨gs, h1, h2, h3, h4⟩ := h
  exact ⟨gs, h1, hm.own h2 (fun q hq => .inr (by have := (own_block_lt h2 hq).1; omega)), fun i hi => hm.own (h3 i hi) (fun q hq => .inr (by have := (own_block_lt (h3 i hi) hq).1; omega)), h4⟩

theorem mid_trans {base D : Nat} {a b c : World} (h : Mid base D a b) (k : Mid base D b c) : Mid base D a c :=
  ⟨k.os.trans h.os, k.tape.trans h.tape, k.output.trans h.output, Nat.le_trans h.size k.size, fun q hq hb => (k.block q (Nat.lt_of_lt_of_le hq h.size) hb).trans (h.block q hq hb)⟩

/-- What has been written lies in the middle or is new. -/
theorem mid_grown {base D : Nat} {a b c : World} {row : Option Nat} (h : Mid base D a b) (hg : b.grownBy c row) (hr : ∀ q, row = some q → a.heap.size ≤ q ∨ (base ≤ q ∧ q < D)) : Mid base D a c :=
  ⟨hg.os.trans h.os, hg.tape.trans h.tape, hg.output.trans h.output, Nat.le_trans h.size hg.size, fun q hq hb => (hg.block q (Nat.lt_of_lt_of_le hq h.size) (fun e => by have := hr q e.symm; omega)).trans (h.block q hq hb)⟩

theorem mid_more {base D : Nat} {a b c : World} (h : Mid base D a b) (hb : Below b.heap.size b c) : Mid base D a c :=
  mid_grown h (grown_of_below hb none) (fun q e => by cases e)

theorem mid_wide {base D D' : Nat} {a b : World} (h : Mid base D a b) (hD : D ≤ D') : Mid base D' a b :=
  ⟨h.os, h.tape, h.output, h.size, fun q hq hb => h.block q hq (by omega)⟩

end Go.Proofs.Ytpkjnlabjmpokaa.RRC

/-
  The mathematics of queues, of runs and of what is put behind lists. Conditions: none. Plain facts on lists.
-/
namespace Go.Proofs.Ytpkjnlabjmpokaa.QueM
open OrdMath LLC

/-- A number behind one of some lists, or behind them all. -/
def putL (L : List (List Int)) (k : Nat) (x : Int) : List (List Int) :=
  if k < L.length then L.set k (L.getD k [] ++ [x]) else L ++ [[x]]

theorem putL_len (L : List (List Int)) (k : Nat) (x : Int) : (putL L k x).length = if k < L.length then L.length else L.length + 1 := by
  unfold putL; split <;> simp

theorem putL_le (L : List (List Int)) (k : Nat) (x : Int) : L.length ≤ (putL L k x).length ∧ (putL L k x).length ≤ L.length + 1 := by
  rw [putL_len]; split <;> omega

theorem tot_cat : ∀ (A B : List (List Int)), tot (A ++ B) = tot A + tot B
  | [], B => by simp [tot]
  | a :: A, B => by
    show a.length + tot (A ++ B) = a.length + tot A + tot B
    rw [tot_cat A B]; omega

theorem tot_set : ∀ (L : List (List Int)) (k : Nat) (r : List Int), k < L.length → tot (L.set k r) + (L.getD k []).length = tot L + r.length
  | [], k, r, h => absurd h (by simp)
  | l :: L, 0, r, _ => by
    show r.length + tot L + l.length = l.length + tot L + r.length
    omega
  | l :: L, k + 1, r, h => by
    have ih := tot_set L k r (by simpa using h)
    show l.length + tot (L.set k r) + (L.getD k []).length = l.length + tot L + r.length
    omega

theorem putL_tot (L : List (List Int)) (k : Nat) (x : Int) : tot (putL L k x) = tot L + 1 := by
  unfold putL
  split
  · rename_i h
    have := tot_set L k (L.getD k [] ++ [x]) h
    rw [List.length_append, List.length_singleton] at this
    omega
  · rw [tot_cat]; rfl

theorem getD_set_e {α : Type} {d x : α} {A : List α} {i : Nat} (h : i < A.length) : (A.set i x).getD i d = x := by
  rw [List.getD_eq_getElem?_getD, List.getElem?_set]; simp [h]
theorem getD_set_n {α : Type} {d x : α} {A : List α} {i j : Nat} (h : i ≠ j) : (A.set i x).getD j d = A.getD j d := by
  rw [List.getD_eq_getElem?_getD, List.getElem?_set, if_neg h, ← List.getD_eq_getElem?_getD]
theorem getD_app_l {α : Type} {d : α} {A B : List α} {i : Nat} (h : i < A.length) : (A ++ B).getD i d = A.getD i d := by
  rw [List.getD_eq_getElem?_getD, List.getElem?_append_left h, ← List.getD_eq_getElem?_getD]
theorem getD_app_r {α : Type} {d x : α} {A : List α} : (A ++ [x]).getD A.length d = x := by
  rw [List.getD_eq_getElem?_getD, List.getElem?_append_right (Nat.le_refl _)]; simp

/-- Each list has a number at least. -/
def Pos (L : List (List Int)) : Prop := ∀ i, i < L.length → 1 ≤ (L.getD i []).length

theorem pos_nil : Pos [] := fun i h => absurd h (by simp)

theorem putL_at (L : List (List Int)) (k i : Nat) (x : Int) (hk : k ≤ L.length) (hi : i < (putL L k x).length) :
    (putL L k x).getD i [] = if i = k then L.getD k [] ++ [x] else L.getD i [] := by
  rw [putL_len] at hi
  unfold putL
  by_cases h : k < L.length
  · rw [if_pos h] at hi ⊢
    by_cases e : i = k
    · subst e; rw [if_pos rfl, getD_set_e h]
    · rw [if_neg e, getD_set_n (fun x => e x.symm)]
  · rw [if_neg h] at hi ⊢
    have e1 : k = L.length := by omega
    subst e1
    by_cases e : i = L.length
    · subst e
      rw [if_pos rfl, getD_app_r]
      simp
    · rw [if_neg e, getD_app_l (by omega)]

theorem pos_put {L : List (List Int)} {k : Nat} {x : Int} (h : Pos L) (hk : k ≤ L.length) : Pos (putL L k x) := by
  intro i hi
  rw [putL_at L k i x hk hi]
  rw [putL_len] at hi
  split
  · simp
  · rename_i e
    exact h i (by split at hi <;> omega)

/-- The last number of a list. -/
def last (q : List Int) : Int := q.getD (q.length - 1) 0

/-- The first list whose last number is not greater. -/
def qAt : List (List Int) → Int → Nat
  | [], _ => 0
  | q :: Q, x => if last q > x then qAt Q x + 1 else 0

theorem qAt_le : ∀ (Q : List (List Int)) (x : Int), qAt Q x ≤ Q.length
  | [], _ => Nat.le_refl _
  | q :: Q, x => by
    have := qAt_le Q x
    unfold qAt
    split <;> simp <;> omega

theorem qAt_is : ∀ (Q : List (List Int)) (x : Int) (k : Nat), k ≤ Q.length → (∀ j, j < k → last (Q.getD j []) > x) → (k < Q.length → ¬ last (Q.getD k []) > x) → qAt Q x = k
  | [], _, k, h, _, _ => by
    have : k = 0 := by simpa using h
    subst this; rfl
  | q :: Q, x, 0, _, _, h3 => by
    have h := h3 (by simp)
    have h' : ¬ last q > x := h
    unfold qAt
    rw [if_neg h']
  | q :: Q, x, k + 1, h1, h2, h3 => by
    have h : last q > x := h2 0 (by omega)
    have ih := qAt_is Q x k (by simpa using h1) (fun j hj => h2 (j + 1) (by omega)) (fun hk => h3 (by simpa using hk))
    unfold qAt
    rw [if_pos h, ih]

/-- The queues of the first k numbers. -/
def qTo (zs : List Int) : Nat → List (List Int)
  | 0 => []
  | k + 1 => putL (qTo zs k) (qAt (qTo zs k) (zs.getD k 0)) (zs.getD k 0)

theorem qTo_ok (zs : List Int) : ∀ k, (qTo zs k).length ≤ k ∧ tot (qTo zs k) = k ∧ Pos (qTo zs k)
  | 0 => ⟨Nat.le_refl _, rfl, pos_nil⟩
  | k + 1 => by
    obtain ⟨h1, h2, h3⟩ := qTo_ok zs k
    have h4 := putL_le (qTo zs k) (qAt (qTo zs k) (zs.getD k 0)) (zs.getD k 0)
    refine ⟨by unfold qTo; omega, by unfold qTo; rw [putL_tot]; omega, ?_⟩
    unfold qTo
    exact pos_put h3 (qAt_le _ _)

def queuesAns (zs : List Int) : List (List Int) × Bool := if Ord zs then (qTo zs zs.length, true) else ([], false)
def fewAns (zs : List Int) : Int × Bool := if Ord zs then (((qTo zs zs.length).length : Nat), true) else (0, false)

/-- Into which run a number goes. -/
def runAt (zs : List Int) (R : List (List Int)) (k : Nat) : Nat := if k = 0 ∨ zs.getD k 0 < zs.getD (k - 1) 0 then R.length else R.length - 1

/-- The runs of the first k numbers. -/
def rTo (zs : List Int) : Nat → List (List Int)
  | 0 => []
  | k + 1 => putL (rTo zs k) (runAt zs (rTo zs k) k) (zs.getD k 0)

theorem runAt_le (zs : List Int) (R : List (List Int)) (k : Nat) : runAt zs R k ≤ R.length := by unfold runAt; split <;> omega

theorem rTo_ok (zs : List Int) : ∀ k, (rTo zs k).length ≤ k ∧ tot (rTo zs k) = k ∧ Pos (rTo zs k) ∧ (1 ≤ k → 1 ≤ (rTo zs k).length)
  | 0 => ⟨Nat.le_refl _, rfl, pos_nil, fun h => by omega⟩
  | k + 1 => by
    obtain ⟨h1, h2, h3, h5⟩ := rTo_ok zs k
    have h4 := putL_le (rTo zs k) (runAt zs (rTo zs k) k) (zs.getD k 0)
    refine ⟨by unfold rTo; omega, by unfold rTo; rw [putL_tot]; omega, ?_, fun _ => ?_⟩
    · unfold rTo
      exact pos_put h3 (runAt_le _ _ _)
    · unfold rTo
      rw [putL_len]
      split <;> omega

def runsAns (zs : List Int) : List (List Int) × Bool := if Ord zs then (rTo zs zs.length, true) else ([], false)

theorem ans_small {zs : List Int} (h : Ord zs) (L : List (List Int)) (h1 : L.length ≤ zs.length) (h2 : tot L = zs.length) : L.length + tot L ≤ 1048576 := by
  have := h.2.1; omega

theorem queues_alen {zs : List Int} {L : List (List Int)} {b : Bool} (h : queuesAns zs = (L, b)) : L.length + tot L ≤ 1048576 := by
  unfold queuesAns at h
  split at h
  · rename_i ho
    cases h
    have h1 := qTo_ok zs zs.length
    exact ans_small ho _ h1.1 h1.2.1
  · cases h; decide

theorem runs_alen {zs : List Int} {L : List (List Int)} {b : Bool} (h : runsAns zs = (L, b)) : L.length + tot L ≤ 1048576 := by
  unfold runsAns at h
  split at h
  · rename_i ho
    cases h
    have h1 := rTo_ok zs zs.length
    exact ans_small ho _ h1.1 h1.2.1
  · cases h; decide

theorem tot_row {L : List (List Int)} {i : Nat} (h : i < L.length) : (L.getD i []).length ≤ tot L := tot_mem (getD_memL h)

end Go.Proofs.Ytpkjnlabjmpokaa.QueM

/-
  The mathematics of merge passes: two runs made one, and how many passes sort an order. Conditions: none. Plain facts on lists.
-/
namespace Go.Proofs.Ytpkjnlabjmpokaa.PassM
open OrdMath LLC QueM

/-- Where a number goes in a sorted list. -/
def putAt : List Int → Int → Nat
  | [], _ => 0
  | y :: l, x => if y < x then putAt l x + 1 else 0

theorem putAt_le : ∀ (l : List Int) (x : Int), putAt l x ≤ l.length
  | [], _ => Nat.le_refl _
  | y :: l, x => by
    have := putAt_le l x
    unfold putAt; split <;> simp <;> omega

theorem putAt_is : ∀ (l : List Int) (x : Int) (k : Nat), k ≤ l.length → (∀ j, j < k → l.getD j 0 < x) → (k < l.length → ¬ l.getD k 0 < x) → putAt l x = k
  | [], _, k, h, _, _ => by
    have : k = 0 := by simpa using h
    subst this; rfl
  | y :: l, x, 0, _, _, h3 => by
    have h : ¬ y < x := h3 (by simp)
    unfold putAt; rw [if_neg h]
  | y :: l, x, k + 1, h1, h2, h3 => by
    have h : y < x := h2 0 (by omega)
    have ih := putAt_is l x k (by simpa using h1) (fun j hj => h2 (j + 1) (by omega)) (fun hk => h3 (by simpa using hk))
    unfold putAt; rw [if_pos h, ih]

theorem putAt_lt : ∀ (l : List Int) (x : Int) (j : Nat), j < putAt l x → l.getD j 0 < x
  | [], _, j, h => absurd h (by simp [putAt])
  | y :: l, x, j, h => by
    unfold putAt at h
    split at h
    · rename_i hy
      cases j with
      | zero => exact hy
      | succ j => exact putAt_lt l x j (by omega)
    · omega

theorem putAt_ge : ∀ (l : List Int) (x : Int), putAt l x < l.length → x ≤ l.getD (putAt l x) 0
  | [], _, h => absurd h (by simp)
  | y :: l, x, h => by
    unfold putAt at h ⊢
    split
    · rename_i hy
      rw [if_pos hy] at h
      exact putAt_ge l x (by simpa using h)
    · rename_i hy
      show x ≤ y
      omega

def putI (l : List Int) (x : Int) : List Int := l.take (putAt l x) ++ [x] ++ l.drop (putAt l x)

theorem putI_perm (l : List Int) (x : Int) : (putI l x).Perm (l ++ [x]) := by
  unfold putI
  have h := List.perm_middle (a := x) (l₁ := l.take (putAt l x)) (l₂ := l.drop (putAt l x))
  rw [List.append_assoc, List.singleton_append]
  refine h.trans ?_
  rw [List.take_append_drop]
  exact (List.perm_append_singleton x l).symm

theorem sorted_getD {l : List Int} (h : l.Pairwise (· < ·)) {i j : Nat} (hij : i < j) (hj : j < l.length) : l.getD i 0 < l.getD j 0 := by
  have := List.pairwise_iff_getElem.1 h i j (by omega) hj hij
  simpa [show i < l.length by omega, hj] using this

theorem putI_sorted {l : List Int} {x : Int} (h : l.Pairwise (· < ·)) (hx : x ∉ l) : (putI l x).Pairwise (· < ·) := by
  unfold putI
  rw [List.append_assoc, List.pairwise_append, List.singleton_append, List.pairwise_cons]
  have hge : ∀ y ∈ l.drop (putAt l x), x < y := by
    intro y hy
    obtain ⟨i, hi, rfl⟩ := List.mem_iff_getElem.1 hy
    rw [List.length_drop] at hi
    have h1 := putAt_ge l x (by omega)
    rw [List.getElem_drop]
    have h2 : l.getD (putAt l x) 0 ≤ l[putAt l x + i] := by
      have e : l[putAt l x + i] = l.getD (putAt l x + i) 0 := by simp [show putAt l x + i < l.length by omega]
      rw [e]
      by_cases h0 : i = 0
      · subst h0; exact Int.le_refl _
      · exact Int.le_of_lt (sorted_getD h (by omega) (by omega))
    have h3 : x ≠ l[putAt l x + i] := fun e => hx (e ▸ List.getElem_mem _)
    omega
  refine ⟨h.sublist (List.take_sublist _ _), ⟨hge, h.sublist (List.drop_sublist _ _)⟩, ?_⟩
  intro a ha b hb
  obtain ⟨i, hi, rfl⟩ := List.mem_iff_getElem.1 ha
  rw [List.length_take] at hi
  have h1 := putAt_lt l x i (by omega)
  rw [List.getElem_take]
  have e : l[i] = l.getD i 0 := by simp [show i < l.length by omega]
  rw [← e] at h1
  rcases List.mem_cons.1 hb with rfl | hb
  · exact h1
  · have := hge b hb; omega

/-- Two runs made one. -/
def mrg (a b : List Int) : List Int := b.foldl putI a

theorem mrg_snoc (a b : List Int) (x : Int) : mrg a (b ++ [x]) = putI (mrg a b) x := by unfold mrg; rw [List.foldl_append]; rfl

theorem mrg_next (a b : List Int) {k : Nat} (h : k < b.length) : mrg a (b.take (k + 1)) = putI (mrg a (b.take k)) (b.getD k 0) := by
  rw [List.take_succ_eq_append_getElem h, mrg_snoc]; simp [h]

theorem mrg_perm (a : List Int) : ∀ (b : List Int), (mrg a b).Perm (a ++ b) := by
  intro b
  induction b generalizing a with
  | nil => simp [mrg]
  | cons x b ih =>
    show (mrg (putI a x) b).Perm _
    refine (ih (putI a x)).trans ?_
    refine ((putI_perm a x).append_right b).trans ?_
    rw [List.append_assoc]; exact List.Perm.refl _

theorem mrg_sorted : ∀ (b a : List Int), a.Pairwise (· < ·) → (a ++ b).Nodup → (mrg a b).Pairwise (· < ·)
  | [], a, h, _ => h
  | x :: b, a, h, hn => by
    have hx : x ∉ a := by
      intro hx
      rw [List.nodup_append] at hn
      exact hn.2.2 x hx x (by simp) rfl
    have hp : (putI a x ++ b).Perm (a ++ x :: b) := by
      refine ((putI_perm a x).append_right b).trans ?_
      rw [List.append_assoc]; exact List.Perm.refl _
    exact mrg_sorted b (putI a x) (putI_sorted h hx) (hp.nodup_iff.2 hn)

theorem mrg_len (a b : List Int) : (mrg a b).length = a.length + b.length := by rw [(mrg_perm a b).length_eq, List.length_append]

theorem sorted_one {l m : List Int} (hp : l.Perm m) (h1 : l.Pairwise (· < ·)) (h2 : m.Pairwise (· ≤ ·)) : l = m := by
  refine List.Perm.eq_of_pairwise (le := (· ≤ ·)) ?_ (h1.imp (fun h => Int.le_of_lt h)) h2 hp
  intro a b _ _ h3 h4
  omega

/-- The j-th pair of runs. -/
def pairAt (R : List (List Int)) (j : Nat) : List Int := if 2 * j + 1 < R.length then mrg (R.getD (2 * j) []) (R.getD (2 * j + 1) []) else R.getD (2 * j) []

def pairsTo (R : List (List Int)) : Nat → List Int
  | 0 => []
  | j + 1 => pairsTo R j ++ pairAt R j

def pass (zs : List Int) : List Int := pairsTo (rTo zs zs.length) (((rTo zs zs.length).length + 1) / 2)
def passAns (zs : List Int) : List Int × Bool := if Ord zs then (pass zs, true) else ([], false)

/-! ### Runs ascend -/

theorem flat_put (L : List (List Int)) (k : Nat) (x : Int) (h : L.length ≤ k + 1) (hk : k ≤ L.length) : (putL L k x).flatten = L.flatten ++ [x] := by
  unfold putL
  by_cases h1 : k < L.length
  · rw [if_pos h1]
    have hk2 : k = L.length - 1 := by omega
    rcases List.eq_nil_or_concat L with rfl | ⟨M, q, rfl⟩
    · simp at h1
    · rw [List.concat_eq_append] at *
      rw [List.length_append, List.length_singleton] at hk2
      have e : k = M.length := by omega
      subst e
      rw [List.set_append_right _ _ (Nat.le_refl _), getD_app_r]
      simp
  · rw [if_neg h1]; simp

theorem rTo_flat (zs : List Int) : ∀ k, k ≤ zs.length → (rTo zs k).flatten = zs.take k
  | 0, _ => by simp [rTo]
  | k + 1, hk => by
    have ih := rTo_flat zs k (by omega)
    unfold rTo
    have hn := (rTo_ok zs k).2.2.2
    rw [flat_put _ _ _ (by unfold runAt; split <;> omega) (runAt_le _ _ _), ih, List.take_succ_eq_append_getElem (by omega)]
    simp [show k < zs.length by omega]

/-- Each run ascends, and the last one ends with the number before. -/
theorem rTo_asc (zs : List Int) : ∀ k, k ≤ zs.length → (∀ i, i < (rTo zs k).length → ((rTo zs k).getD i []).Pairwise (· ≤ ·)) ∧
    (1 ≤ k → ∀ y ∈ (rTo zs k).getD ((rTo zs k).length - 1) [], y ≤ zs.getD (k - 1) 0)
  | 0, _ => ⟨fun i h => absurd h (by simp [rTo]), fun h => by omega⟩
  | k + 1, hk => by
    obtain ⟨ih1, ih2⟩ := rTo_asc zs k (by omega)
    have hpos := (rTo_ok zs k).2.2.2
    have hat : ∀ i, i < (putL (rTo zs k) (runAt zs (rTo zs k) k) (zs.getD k 0)).length → (putL (rTo zs k) (runAt zs (rTo zs k) k) (zs.getD k 0)).getD i [] = _ := fun i hi => putL_at _ _ i (zs.getD k 0) (runAt_le _ _ _) hi
    have hrow : ∀ y ∈ (rTo zs k).getD (runAt zs (rTo zs k) k) [], y ≤ zs.getD k 0 := by
      intro y hy
      unfold runAt at hy
      split at hy
      · simp at hy
      · rename_i h
        have := ih2 (by omega) y hy
        omega
    show (∀ i, i < (putL (rTo zs k) (runAt zs (rTo zs k) k) (zs.getD k 0)).length → ((putL (rTo zs k) (runAt zs (rTo zs k) k) (zs.getD k 0)).getD i []).Pairwise (· ≤ ·)) ∧
      (1 ≤ k + 1 → ∀ y ∈ (putL (rTo zs k) (runAt zs (rTo zs k) k) (zs.getD k 0)).getD ((putL (rTo zs k) (runAt zs (rTo zs k) k) (zs.getD k 0)).length - 1) [], y ≤ zs.getD (k + 1 - 1) 0)
    constructor
    · intro i hi
      rw [hat i hi]
      split
      · rename_i e
        rw [List.pairwise_append]
        refine ⟨?_, by simp, ?_⟩
        · by_cases h : runAt zs (rTo zs k) k < (rTo zs k).length
          · exact ih1 _ h
          · have e2 : (rTo zs k).getD (runAt zs (rTo zs k) k) [] = [] := by simp [List.getD_eq_getElem?_getD, List.getElem?_eq_none (show (rTo zs k).length ≤ runAt zs (rTo zs k) k by omega)]
            rw [e2]; exact List.Pairwise.nil
        · intro a ha b hb
          simp at hb
          subst hb
          exact hrow a ha
      · rename_i e
        rw [putL_len] at hi
        have := runAt_le zs (rTo zs k) k
        exact ih1 i (by split at hi <;> omega)
    · intro _ y hy
      have hlen := putL_len (rTo zs k) (runAt zs (rTo zs k) k) (zs.getD k 0)
      have e : (putL (rTo zs k) (runAt zs (rTo zs k) k) (zs.getD k 0)).length - 1 = runAt zs (rTo zs k) k := by
        rw [hlen]
        unfold runAt
        split <;> split <;> omega
      rw [e, hat _ (by rw [hlen]; have := runAt_le zs (rTo zs k) k; split <;> omega), if_pos rfl, List.mem_append] at hy
      rcases hy with hy | hy
      · exact hrow y hy
      · simp at hy; subst hy; exact Int.le_refl _

theorem mem_flat {L : List (List Int)} {i : Nat} (h : i < L.length) : (L.getD i []).Sublist L.flatten := by
  have : L.getD i [] = L[i] := by simp [h]
  rw [this]
  exact List.sublist_flatten_of_mem (List.getElem_mem h)

theorem nodup_lt {l : List Int} (h1 : l.Pairwise (· ≤ ·)) (h2 : l.Nodup) : l.Pairwise (· < ·) := by
  have h3 := List.nodup_iff_pairwise_ne.1 h2
  exact (List.pairwise_and_iff.2 ⟨h1, h3⟩).imp (fun h => by omega)

theorem run_asc {zs : List Int} (h : Ord zs) {i : Nat} (hi : i < (rTo zs zs.length).length) : ((rTo zs zs.length).getD i []).Pairwise (· < ·) := by
  refine nodup_lt ((rTo_asc zs zs.length (Nat.le_refl _)).1 i hi) ?_
  have h1 := rTo_flat zs zs.length (Nat.le_refl _)
  rw [List.take_of_length_le (Nat.le_refl _)] at h1
  exact (mem_flat hi).nodup (by rw [h1]; exact h.2.2.2)

theorem two_sub : ∀ {L : List (List Int)} {i : Nat}, i + 1 < L.length → (L.getD i [] ++ L.getD (i + 1) []).Sublist L.flatten
  | [], i, h => absurd h (by simp)
  | a :: L, 0, h => by
    cases L with
    | nil => simp at h
    | cons b M =>
      show (a ++ b).Sublist (a ++ (b ++ M.flatten))
      rw [← List.append_assoc]
      exact List.sublist_append_left _ _
  | a :: L, i + 1, h => by
    have ih := two_sub (L := L) (i := i) (by simpa using h)
    exact ih.trans (List.sublist_append_right _ _)

theorem pair_nodup {zs : List Int} (h : Ord zs) {i : Nat} (hi : i + 1 < (rTo zs zs.length).length) : ((rTo zs zs.length).getD i [] ++ (rTo zs zs.length).getD (i + 1) []).Nodup := by
  have h1 := rTo_flat zs zs.length (Nat.le_refl _)
  rw [List.take_of_length_le (Nat.le_refl _)] at h1
  exact (two_sub hi).nodup (by rw [h1]; exact h.2.2.2)

theorem pair_asc {zs : List Int} (h : Ord zs) {j : Nat} (hj : 2 * j < (rTo zs zs.length).length) : (pairAt (rTo zs zs.length) j).Pairwise (· < ·) := by
  unfold pairAt
  split
  · rename_i h2
    exact mrg_sorted _ _ (run_asc h hj) (pair_nodup h h2)
  · exact run_asc h hj

/-- The runs two by two, as they lie. -/
def flatTo (R : List (List Int)) (j : Nat) : List Int := (R.take (2 * j)).flatten

theorem take_flat {L : List (List Int)} {i : Nat} (h : i < L.length) : (L.take (i + 1)).flatten = (L.take i).flatten ++ L.getD i [] := by
  rw [List.take_succ_eq_append_getElem h, List.flatten_append]
  simp [h]

theorem pairsTo_perm (R : List (List Int)) : ∀ j, (pairsTo R j).Perm (R.take (2 * j)).flatten
  | 0 => by simp [pairsTo]
  | j + 1 => by
    have ih := pairsTo_perm R j
    show (pairsTo R j ++ pairAt R j).Perm _
    unfold pairAt
    by_cases h : 2 * j + 1 < R.length
    · rw [if_pos h, show 2 * (j + 1) = 2 * j + 1 + 1 by omega, take_flat h, take_flat (by omega), List.append_assoc]
      exact ih.append (mrg_perm _ _)
    · rw [if_neg h]
      by_cases h2 : 2 * j < R.length
      · rw [List.take_of_length_le (show R.length ≤ 2 * (j + 1) by omega)]
        have e : R.flatten = (R.take (2 * j)).flatten ++ R.getD (2 * j) [] := by
          rw [← take_flat h2, List.take_of_length_le (by omega)]
        rw [e]
        exact ih.append_right _
      · rw [List.take_of_length_le (show R.length ≤ 2 * (j + 1) by omega)]
        rw [List.take_of_length_le (show R.length ≤ 2 * j by omega)] at ih
        have e : R.getD (2 * j) [] = [] := by simp [List.getD_eq_getElem?_getD, List.getElem?_eq_none (show R.length ≤ 2 * j by omega)]
        rw [e, List.append_nil]
        exact ih

theorem pass_perm (zs : List Int) : (pass zs).Perm zs := by
  have h1 := rTo_flat zs zs.length (Nat.le_refl _)
  rw [List.take_of_length_le (Nat.le_refl _)] at h1
  have h2 := pairsTo_perm (rTo zs zs.length) (((rTo zs zs.length).length + 1) / 2)
  rw [List.take_of_length_le (by omega), h1] at h2
  exact h2

theorem perm_ord {zs ys : List Int} (h : ys.Perm zs) (ho : Ord zs) : Ord ys := by
  have hl := h.length_eq
  refine ⟨by rw [hl]; exact ho.1, by rw [hl]; exact ho.2.1, ?_, h.nodup_iff.2 ho.2.2.2⟩
  intro z hz
  rw [hl]
  exact ho.2.2.1 z (h.mem_iff.1 hz)

theorem pass_ord {zs : List Int} (h : Ord zs) : Ord (pass zs) := perm_ord (pass_perm zs) h
theorem pass_len (zs : List Int) : (pass zs).length = zs.length := (pass_perm zs).length_eq

/-- How many runs the first k numbers have. -/
def runN (zs : List Int) : Nat → Nat
  | 0 => 0
  | k + 1 => runN zs k + (if k = 0 ∨ zs.getD k 0 < zs.getD (k - 1) 0 then 1 else 0)

theorem runN_is (zs : List Int) : ∀ k, (rTo zs k).length = runN zs k
  | 0 => rfl
  | k + 1 => by
    have ih := runN_is zs k
    have hp := (rTo_ok zs k).2.2.2
    unfold rTo runN
    rw [putL_len]
    unfold runAt
    by_cases h : k = 0 ∨ zs.getD k 0 < zs.getD (k - 1) 0
    · rw [if_pos h, if_pos h, if_neg (by omega)]; omega
    · rw [if_neg h, if_neg h, if_pos (by have := hp (by omega); omega)]; omega

theorem runN_step (zs : List Int) (k : Nat) : runN zs k ≤ runN zs (k + 1) ∧ runN zs (k + 1) ≤ runN zs k + 1 := by
  show runN zs k ≤ runN zs k + _ ∧ runN zs k + _ ≤ _
  split <;> omega

/-- A part that ascends has one run at most. -/
theorem runN_part (P q S : List Int) (h : q.Pairwise (· < ·)) : ∀ m, m ≤ q.length → runN (P ++ q ++ S) (P.length + m) ≤ runN (P ++ q ++ S) P.length + (if m = 0 then 0 else 1)
  | 0, _ => by simp
  | m + 1, hm => by
    have ih := runN_part P q S h m (by omega)
    have hs := runN_step (P ++ q ++ S) (P.length + m)
    rw [← Nat.add_assoc, if_neg (by omega)]
    by_cases h0 : m = 0
    · subst h0
      rw [if_pos rfl] at ih
      omega
    · rw [if_neg h0] at ih
      show runN (P ++ q ++ S) (P.length + m) + _ ≤ _
      have e1 : (P ++ q ++ S).getD (P.length + m) 0 = q.getD m 0 := by
        rw [List.append_assoc, List.getD_eq_getElem?_getD, List.getElem?_append_right (by omega), List.getElem?_append_left (by omega), List.getD_eq_getElem?_getD]
        congr 2
        omega
      have e2 : (P ++ q ++ S).getD (P.length + m - 1) 0 = q.getD (m - 1) 0 := by
        rw [List.append_assoc, List.getD_eq_getElem?_getD, List.getElem?_append_right (by omega), List.getElem?_append_left (by omega), List.getD_eq_getElem?_getD]
        congr 2
        omega
      rw [e1, e2, if_neg (by have := sorted_getD h (show m - 1 < m by omega) (by omega); omega)]
      exact ih

theorem pairsTo_pre (R : List (List Int)) : ∀ m j, ∃ S, pairsTo R (j + m) = pairsTo R j ++ S
  | 0, j => ⟨[], by simp⟩
  | m + 1, j => by
    obtain ⟨S, h⟩ := pairsTo_pre R m j
    exact ⟨S ++ pairAt R (j + m), by show pairsTo R (j + m) ++ pairAt R (j + m) = _; rw [h, List.append_assoc]⟩

theorem pass_runs {zs : List Int} (h : Ord zs) : ∀ j, j ≤ ((rTo zs zs.length).length + 1) / 2 → runN (pass zs) (pairsTo (rTo zs zs.length) j).length ≤ j
  | 0, _ => by simp [pairsTo, runN]
  | j + 1, hj => by
    have ih := pass_runs h j (by omega)
    obtain ⟨S, hS⟩ := pairsTo_pre (rTo zs zs.length) (((rTo zs zs.length).length + 1) / 2 - (j + 1)) (j + 1)
    rw [show j + 1 + (((rTo zs zs.length).length + 1) / 2 - (j + 1)) = ((rTo zs zs.length).length + 1) / 2 by omega] at hS
    have e : pass zs = pairsTo (rTo zs zs.length) j ++ pairAt (rTo zs zs.length) j ++ S := hS
    have h2 := runN_part (pairsTo (rTo zs zs.length) j) (pairAt (rTo zs zs.length) j) S (pair_asc h (by omega)) (pairAt (rTo zs zs.length) j).length (Nat.le_refl _)
    rw [← e] at h2
    show runN (pass zs) (pairsTo (rTo zs zs.length) j ++ pairAt (rTo zs zs.length) j).length ≤ _
    rw [List.length_append]
    split at h2 <;> omega

theorem pass_less {zs : List Int} (h : Ord zs) : (rTo (pass zs) (pass zs).length).length ≤ ((rTo zs zs.length).length + 1) / 2 := by
  rw [runN_is]
  exact pass_runs h _ (Nat.le_refl _)

/-- How many passes sort. -/
def passes : Nat → List Int → Nat
  | 0, _ => 0
  | f + 1, zs => if (rTo zs zs.length).length ≤ 1 then 0 else passes f (pass zs) + 1

theorem passes_more : ∀ (f g : Nat) (zs : List Int), Ord zs → (rTo zs zs.length).length ≤ f + 1 → (rTo zs zs.length).length ≤ g + 1 → passes f zs = passes g zs
  | 0, 0, _, _, _, _ => rfl
  | 0, g + 1, zs, _, h, _ => by unfold passes; rw [if_pos (by omega)]
  | f + 1, 0, zs, _, _, h => by unfold passes; rw [if_pos (by omega)]
  | f + 1, g + 1, zs, ho, h1, h2 => by
    unfold passes
    by_cases h : (rTo zs zs.length).length ≤ 1
    · rw [if_pos h, if_pos h]
    · rw [if_neg h, if_neg h]
      have h3 := pass_less ho
      rw [passes_more f g (pass zs) (pass_ord ho) (by omega) (by omega)]

def passesAns (zs : List Int) : Int × Bool := if Ord zs then ((passes 7 zs : Nat), true) else (0, false)

theorem pass_alen {zs : List Int} {xs : List Int} {b : Bool} (h : passAns zs = (xs, b)) : xs.length ≤ 1048576 := by
  unfold passAns at h
  split at h
  · rename_i ho
    cases h
    rw [pass_len]; have := ho.2.1; omega
  · cases h; decide

/-- An order has one run just if it ascends. -/
theorem runs_one {zs : List Int} (h : Ord zs) : (rTo zs zs.length).length ≤ 1 ↔ ∀ k, k + 1 < zs.length → ¬ zs.getD (k + 1) 0 < zs.getD k 0 := by
  rw [runN_is]
  have key : ∀ n, n ≤ zs.length → 1 ≤ n → (runN zs n ≤ 1 ↔ ∀ k, k + 1 < n → ¬ zs.getD (k + 1) 0 < zs.getD k 0) ∧ 1 ≤ runN zs n := by
    intro n
    induction n with
    | zero => intro _ h; omega
    | succ n ih =>
      intro hn _
      by_cases h0 : n = 0
      · subst h0
        refine ⟨⟨fun _ k hk => by omega, fun _ => by simp [runN]⟩, by simp [runN]⟩
      · obtain ⟨ih1, ih2⟩ := ih (by omega) (by omega)
        have e : runN zs (n + 1) = runN zs n + (if n = 0 ∨ zs.getD n 0 < zs.getD (n - 1) 0 then 1 else 0) := rfl
        rw [e]
        by_cases hc : zs.getD n 0 < zs.getD (n - 1) 0
        · rw [if_pos (.inr hc)]
          refine ⟨⟨fun h => by omega, fun h => ?_⟩, by omega⟩
          have := h (n - 1) (by omega)
          rw [show n - 1 + 1 = n by omega] at this
          exact absurd hc this
        · rw [if_neg (by omega)]
          refine ⟨⟨fun h k hk => ?_, fun h => ?_⟩, by omega⟩
          · by_cases hkn : k + 1 = n
            · rw [hkn, show k = n - 1 by omega]; exact hc
            · exact ih1.1 (by omega) k (by omega)
          · have := ih1.2 (fun k hk => h k (by omega))
            omega
  exact (key zs.length (Nat.le_refl _) h.1).1

end Go.Proofs.Ytpkjnlabjmpokaa.PassM

/-
  Contract: the model's list of all orders of n numbers. Conditions: 1 to 7 numbers.
-/
namespace Go.Proofs.Ytpkjnlabjmpokaa.OrdsSpC
open Go.RowKit SeesC IntsC ExactC OrdMath OrdFacts InC OrderC RankC AtC ListsC ListsEC ListsFC ListsGC AllO

set_option maxRecDepth 100000 in
set_option maxHeartbeats 4000000 in
theorem l2Orders_any (n : Nat) (hn1 : 1 ≤ n) (hn7 : n ≤ 7) (W : World) :
    Calls Try.prog 59 #[.int .i64 (n : Int)] W fun e w' => ∃ v, e = .returned v ∧ Lists w' W.heap.size n v ((allO n).map vals) ∧ Below W.heap.size W w' := by
  obtain ⟨j0, hj, hy0, hy1, hy2⟩ := info_parts infoL
  have CW := Go.Lib.hid (fun W' => l2Ways_any n W' hn7)
  have CA := Go.Lib.hid (fun (k : Nat) W' (hk : k < fact n) => l2At_any n k W' hn1 hn7 hk)
  have HF := Go.Lib.hid (And.intro (fact_pos n) (fact_7 hn7))
  obtain ⟨f, hf⟩ : ∃ f, fact n = f := ⟨_, rfl⟩
  have HFF := Go.Lib.hid hf
  have hf1 : 1 ≤ f := by rw [← hf]; exact HF.out.1
  have hf2 : f ≤ 5040 := by rw [← hf]; exact HF.out.2
  rw [hf] at CW CA
  clear hf
  have HB0 : Hid (Lists (W.alloc (.cells #[] 22)) W.heap.size n (.slice (some ⟨W.heap.size, 0, none⟩) 0 0) ([] : List (List Value)) ∧ Below W.heap.size W (W.alloc (.cells #[] 22))) := Go.Lib.hid ⟨⟨[], rfl, World.ownsRow_made (base := W.heap.size) (e := 22) (size := 1) W #[] 0 (Nat.le_refl _) (by unfold maxLen; omega) rfl, fun i hi => absurd hi (by simp), by simp, fun p hp => by simp at hp⟩, (Below.refl _ _).alloc (Nat.le_refl _) _⟩
  go_enter Try.func59, Try.ntmps59
  go_wp2
  go_loopw [3, 4] (fun ov kv wr => ∃ (k g c : Nat) (Y : List (List Int)), k ≤ f ∧ kv = .int .i64 k ∧ ov = .slice (some ⟨g, 0, none⟩) k c ∧ Hid (Y = (allO n).take k ∧ Y.length = k) ∧ Hid (Lists wr W.heap.size n (.slice (some ⟨g, 0, none⟩) k c) (Y.map vals) ∧ Below W.heap.size W wr)) (fun _ k _ => f - (intOf k).toNat)
  case atStart => exact ⟨0, W.heap.size, 0, [], Nat.zero_le _, rfl, rfl, Go.Lib.hid ⟨by simp, rfl⟩, HB0⟩
  case round =>
    obtain ⟨k, g, c, Y, hk, rfl, rfl, HY, HX⟩ := hrel
    clear HB0
    by_cases hlt : k < f
    · obtain ⟨wj, rfl⟩ : ∃ wj, wj = wr := ⟨_, rfl⟩
      obtain ⟨gs, hg, hog, hin, hnd, hne⟩ := HX.out.1
      rw [List.length_map, HY.out.2] at hg hog hin
      have HG := Go.Lib.hid (And.intro hg (And.intro hog (And.intro hin hnd)))
      have hlti : (k : Int) < (f : Int) := by omega
      have HT := Go.Lib.hid (allO_take (m := n) (k := k) (by rw [HFF.out]; exact hlt))
      have CK := Go.Lib.hid (CA.out k wj hlt)
      obtain ⟨x, hx⟩ : ∃ x, atRun n (iota n) k = x := ⟨_, rfl⟩
      rw [hx] at HT CK
      clear hg hog hin hnd hne hx
      go_wp2_with fail
      refine (CW.out _).mono ?_
      rintro e wq ⟨rfl, hwq⟩
      obtain rfl : wj = wq := hwq
      go_wp2_with fail
      refine (CK.out).mono ?_
      rintro e w3 ⟨gu, cu, rfl, ho, hb⟩
      have hwjl := HX.out.2.size
      have H3 := Go.Lib.hid (And.intro ho (And.intro hb (HX.out.2.trans (hb.mono hwjl))))
      clear ho hb CK
      have hsz4 := H3.out.2.2.size
      have hba : Below W.heap.size W (w3.alloc (.cells #[.slice (some ⟨gu, 0, none⟩) n cu] 22)) := H3.out.2.2.alloc hsz4 _
      have hbj : Below wj.heap.size wj (w3.alloc (.cells #[.slice (some ⟨gu, 0, none⟩) n cu] 22)) := H3.out.2.1.alloc (H3.out.2.1.size) _
      have HX4 := Go.Lib.hid (And.intro (kept_call HG.out.2.1 hbj) (And.intro (fun i (hi : i < k) => kept_call (HG.out.2.2.1 i hi) hbj) (And.intro (H3.out.1.alloc (.cells #[.slice (some ⟨gu, 0, none⟩) n cu] 22)) hba)))
      clear hba hbj
      go_wp2_with (at_builtin; refine wpList_append_own _ rfl _ _ 32 rfl W.heap.size 22 j0 (.slice none 0 0) 1 24 Try.underlying32 hj hy0 hy1 hy2 rfl (by decide) (.slice (some ⟨g, 0, none⟩) k c) k (gs.map (sl n)) rfl HX4.out.1 ⟨w3.heap.size, 0, none⟩ 1 1 [.slice (some ⟨gu, 0, none⟩) n cu] rfl rfl (cell_one_new _ _ _) (fun x hx => by simp at hx; subst hx; rfl) (by unfold maxLen; omega) (by omega) (by simp; omega) ?_; intro v' w5 hown5 hgrow5 hnil5)
      obtain ⟨g5, c5, rfl⟩ := ownsRow_succ hown5
      have hL5 : Lists w5 W.heap.size n (.slice (some ⟨g5, 0, none⟩) (k + 1) c5) (Y.map vals ++ [vals x]) :=
        lists_snoc (p := (gu, cu)) (by rw [List.length_map, HY.out.2]) HG.out.1 HX4.out.1 HX4.out.2.1 HG.out.2.2.2 (own_lower HX4.out.2.2.1 hwjl) (fun i hi => by
          have h1 := own_block_lt (HG.out.2.2.1 i hi) (q := (gs.getD i (0, 0)).1) rfl
          have h2 := own_block_lt H3.out.1 (q := gu) rfl
          show (gs.getD i (0, 0)).1 ≠ gu
          omega) hown5 hgrow5
      have hb5 : Below W.heap.size W w5 := HX4.out.2.2.2.grown hgrow5 (by simp; omega) (fun q hq => (HX4.out.1.lt q hq).1)
      have HY5 : Hid (Y ++ [x] = (allO n).take (k + 1) ∧ (Y ++ [x]).length = k + 1) := Go.Lib.hid ⟨by rw [HT.out, HY.out.1], by rw [List.length_append, HY.out.2]; rfl⟩
      have e6 : Y.map vals ++ [vals x] = (Y ++ [x]).map vals := by simp
      rw [e6] at hL5
      have H5 := Go.Lib.hid (And.intro hL5 hb5)
      clear hown5 hgrow5 hnil5 hL5 hb5 e6 hsz4
      go_wp2
      go_roundw
      case rel => exact ⟨k + 1, g5, c5, _, by omega, by go_num, rfl, HY5, H5⟩
      case measure => simp [intOf]; omega
    · have hkf : k = f := by omega
      subst hkf
      have HZ : Hid (Y = allO n) := Go.Lib.hid (by rw [HY.out.1, List.take_of_length_le (by rw [allO_len, HFF.out]; exact Nat.le_refl _)])
      have hlti : ¬ (k : Int) < (k : Int) := by omega
      go_wp2_with fail
      refine (CW.out _).mono ?_
      rintro e wq ⟨rfl, hwq⟩
      obtain rfl : wr = wq := hwq
      go_wp2
      go_ret
      exact ⟨_, rfl, by rw [← HZ.out]; exact HX.out.1, HX.out.2⟩

end Go.Proofs.Ytpkjnlabjmpokaa.OrdsSpC

/-
  Contract: the model's l9Size. Conditions: none.
-/
namespace Go.Proofs.Ytpkjnlabjmpokaa.L9C
open Go.RowKit SeesC IntsC ExactC InC

set_option maxRecDepth 100000 in
theorem l9Size_any (n : Int) (w : World) (r : Bool) (h : decide (1 ≤ n ∧ n ≤ 6) = r) :
    Calls Try.prog 49 #[.int .i64 n] w fun e w' => e = .returned (.bool r) ∧ w' = w := by
  have C1 := Go.Lib.hid (l1In_any n 1 6 w r h)
  clear h
  go_enter Try.func49, Try.ntmps49
  go_wp2_with fail
  refine (C1.out).mono ?_
  rintro e _ ⟨rfl, rfl⟩
  go_wp2_with fail
  go_ret
  exact ⟨rfl, rfl⟩

end Go.Proofs.Ytpkjnlabjmpokaa.L9C

/-
  An append as a step of a region that draws its order: the row is the old one or a new one. Conditions: as for the kit's own law.
-/
namespace Go.Proofs.Ytpkjnlabjmpokaa.StepTwoC
open AppendTwoC

theorem step_append_two {P : Program} (w : World) {ops : Array Oper} {o : Oper} {a : Act} {K : Act → World → Prop} {Q : Exit → Act → World → Prop} {E : Prop} (hgd : o.guard = none) (s x : Operand) (t : TypeId)
    (ho : o.op = .call { callee := .builtin .append, args := #[s, x], argTypes := #[t, t] })
    (base : Nat) (e : TypeId) (i : TypeInfo) (z : Value) (size bytes : Nat) (ht : P.underlying t = some (.slice e)) (hi : P.info? e = some i) (hz : i.zero = some z)
    (hsize : i.size = size) (hby : i.bytes = bytes) (hzs : z.cells.size = size) (hsz : 0 < size)
    (v : Value) (n : Nat) (xs : List Value) (hs : a.eval s = v) (hown : w.ownsRow base e size v n xs)
    (ad : Addr) (m c : Nat) (news : List Value) (hx : a.eval x = .slice (some ad) m c) (hl : news.length = m * size) (hnews : ∀ j u, news[j]? = some u → w.cell? (ad.add j) = some u) (h1 : ∀ u ∈ news, u.oneCell' = true)
    (h63 : n + m ≤ maxLen) (hbytes : (n + m) * bytes ≤ 140737488355328) (hbase : base ≤ w.heap.size)
    (h : ∀ v' w', w'.ownsRow base e size v' (n + m) (xs ++ news) → w.grownBy w' v.ownBlock → NewRow w v v' → K (a.put o.dst v') w') :
    if Region.wanted o (yielded ops a.tmps) = true then Oper.wp P o a w K Q else E := by
  have hw : Region.wanted o (yielded ops a.tmps) = true := by simp [Region.wanted, hgd]
  rw [if_pos hw]
  obtain ⟨v', w', hrun, r1, r2, r3⟩ := run_append_two (P := P) w base t o.type e i z size bytes ht hi hz hsize hby hzs hsz v n xs hown ad m c news hl hnews h1 h63 hbytes hbase
  unfold Oper.wp
  simp [execOp, ho, resolve, invoke, builtin, hs, hx, hrun, Result.andThen]
  exact h v' w' r1 r2 r3

end Go.Proofs.Ytpkjnlabjmpokaa.StepTwoC

/-
  Mathematics: a bound on what MeanRuns is a mean of (by the kernel). Conditions: orders of at most six numbers. Plain facts.
-/
namespace Go.Proofs.Ytpkjnlabjmpokaa.BdMeanRuns
open OrdMath AllO QueM

theorem kernel : ∀ n < 7, 1 ≤ n → (allO n).all (fun zs => Nat.ble ((rTo zs zs.length).length) 7) = true := by decide +kernel

theorem bound {n : Nat} (h1 : 1 ≤ n) (h6 : n ≤ 6) {zs : List Int} (hz : zs ∈ allO n) : ((rTo zs zs.length).length) ≤ 1000 := by
  have h := List.all_eq_true.1 (kernel n (by omega) h1) zs hz
  exact Nat.le_trans (Nat.le_of_ble_eq_true h) (by omega)

end Go.Proofs.Ytpkjnlabjmpokaa.BdMeanRuns
