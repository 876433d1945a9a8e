/-
  Contracts and plain facts that the laws' texts lean on. Conditions: as each states.
-/
import Derived.Test.YtnhhnffolmgceabGreatPw23
import Derived.Deep.RegionHeld3
import Derived.Test.YtnhhnffolmgceabGreatPw22
import Derived.Test.YtnhhnffolmgceabGreatPw14
import Derived.Test.YtnhhnffolmgceabGreatPw12
import Derived.Test.YtnhhnffolmgceabGreatPw5
import Derived.Test.YtnhhnffolmgceabGreatPw9

section
namespace Go.Proofs.YtnhhnffolmgceabGreat.GoesC
open Go.RowKit SeesC IntsC ExactC OrdMath InC OrderC PatMath ShapeC PlacesC Own1C AppendTwoC SameC IterC

theorem own_heap {w w' : World} (h : w'.heap = w.heap) {base size n : Nat} {ty : TypeId} {v : Value} {xs : List Value} (ho : w.ownsRow base ty size v n xs) : w'.ownsRow base ty size v n xs := by
  unfold World.ownsRow at ho ⊢
  rw [h]; exact ho

theorem below_heap {w w' a : World} {B : Nat} (h : Below B a w) (h1 : w'.os = w.os) (h2 : w'.tape = w.tape) (h3 : w'.output = w.output) (h4 : w'.heap = w.heap) : Below B a w' := by
  exact ⟨h1.trans h.os, h2.trans h.tape, h3.trans h.output, by rw [h4]; exact h.size, fun q hq => by rw [h4]; exact h.block q hq⟩

theorem below_grown {X X0 X' a : World} {B : Nat} {row : Option Nat} (hg : X.grownBy X' row) (hb : Below B a X0) (hs : B ≤ X0.heap.size) (h1 : X.os = X0.os) (h2 : X.tape = X0.tape) (h3 : X.output = X0.output) (h4 : X.heap = X0.heap) (hr : ∀ k, row = some k → B ≤ k) : Below B a X' :=
  (below_heap hb h1 h2 h3 h4).grown hg (by rw [h4]; exact hs) hr

theorem cell_heap {w w' : World} (h : w'.heap = w.heap) {a : Addr} {u : Value} (hc : w.cell? a = some u) : w'.cell? a = some u := by
  unfold World.cell? at hc ⊢
  rw [h]; exact hc

theorem pick_snoc (zs : List Int) (b : List Nat) (p : Nat) : pick zs (b ++ [p]) = pick zs b ++ [zs.getD p 0] := by simp [pick]

theorem vals_app (xs : List Int) (z : Int) : vals (xs ++ [z]) = vals xs ++ [.int .i64 z] := by simp

theorem any_next (h : Nat → Bool) (s j : Nat) : (List.range' s (j + 1)).any h = ((List.range' s j).any h || h (s + j)) := by
  rw [range_next, List.any_append]; simp

end Go.Proofs.YtnhhnffolmgceabGreat.GoesC

end

section
namespace Go.Proofs.YtnhhnffolmgceabGreat.SpecPlC
open Go.RowKit SeesC IntsC ExactC OrdMath InC OrderC PatMath ShapeC ListsC ListsEC ListsFC ListsGC PlacesC Own1C AppendTwoC SameC GoesC ChoicesC HasC

/-- Owned lists, their rows told. -/
def With (w : World) (base n : Nat) (v : Value) (L : List (List Value)) (gs : List (Nat × Nat)) : Prop :=
  gs.length = L.length ∧ w.ownsRow base 24 1 v L.length (gs.map (sl n)) ∧ (∀ i, i < L.length → w.ownsRow base 3 1 (sl n (gs.getD i (0, 0))) n (L.getD i [])) ∧ (gs.map (·.1)).Nodup

theorem With.lists {w : World} {base n : Nat} {v : Value} {L : List (List Value)} {gs : List (Nat × Nat)} (h : With w base n v L gs) : Lists w base n v L := by
  obtain ⟨h1, h2, h3, h4⟩ := h
  refine ⟨gs, h1, h2, h3, h4, fun p hp e => ?_⟩
  obtain ⟨i, hi, hir⟩ := mem_at hp
  have h5 := h3 i (by omega)
  rw [hir] at h5
  exact own_types h2 h5 (by decide) e rfl

theorem Lists.with {w : World} {base n : Nat} {v : Value} {L : List (List Value)} (h : Lists w base n v L) : ∃ gs, With w base n v L gs := by
  obtain ⟨gs, h1, h2, h3, h4, _⟩ := h
  exact ⟨gs, h1, h2, h3, h4⟩

theorem With.kept {w w' : World} {base n : Nat} {v : Value} {L : List (List Value)} {gs : List (Nat × Nat)} (h : With w base n v L gs) (hb : Below w.heap.size w w') : With w' base n v L gs := by
  obtain ⟨h1, h2, h3, h4⟩ := h
  exact ⟨h1, kept_call h2 hb, fun i hi => kept_call (h3 i hi) hb, h4⟩

theorem with_snoc {X X' : World} {base n : Nat} {v v5 : Value} {gs : List (Nat × Nat)} {p : Nat × Nat} {L : List (List Value)} {q : List Value}
    (h : With X base n v L gs) (hp : X.ownsRow base 3 1 (sl n p) n q) (hfresh : ∀ r ∈ gs, r.1 ≠ p.1)
    (ho5 : X'.ownsRow base 24 1 v5 (L.length + 1) (gs.map (sl n) ++ [sl n p])) (hgrow : X.grownBy X' v.ownBlock) : With X' base n v5 (L ++ [q]) (gs ++ [p]) := by
  obtain ⟨h1, h2, h3, h4⟩ := h
  refine ⟨by simp [h1], by rw [List.length_append, List.map_append]; exact ho5, ?_, ?_⟩
  · intro i hi
    rw [List.length_append] at hi
    by_cases h : i < L.length
    · rw [getD_left (by omega), getD_left h]
      exact own_mark (h3 i h) hgrow (fun a ha e => own_types h2 (h3 i h) (by decide) e ha)
    · have hi2 : i = L.length := by simp at hi; omega
      subst hi2
      rw [getD_right (by omega), getD_right (Nat.le_refl _), h1, Nat.sub_self]
      exact own_mark hp hgrow (fun a ha e => own_types h2 hp (by decide) e ha)
  · rw [List.map_append, List.nodup_append]
    refine ⟨h4, by simp, ?_⟩
    intro a ha b hb e
    simp at hb
    subst hb
    obtain ⟨r, hr, rfl⟩ := List.mem_map.1 ha
    exact hfresh r hr e

theorem with_mark {w w' : World} {row : Option Nat} {base n : Nat} {v : Value} {L : List (List Value)} {gs : List (Nat × Nat)} (h : With w base n v L gs) (hg : w.grownBy w' row) (hv : ∀ a, row = some a → v.ownBlock ≠ some a) (hin : ∀ a, row = some a → ∀ i, i < L.length → (gs.getD i (0, 0)).1 ≠ a) : With w' base n v L gs := by
  obtain ⟨h1, h2, h3, h4⟩ := h
  exact ⟨h1, own_mark h2 hg (fun a ha e => hv a e ha), fun i hi => own_mark (h3 i hi) hg (fun a ha e => hin a e i hi (Option.some.inj ha)), h4⟩

theorem filter_next {α : Type} (f : α → Bool) {l : List α} {i : Nat} (h : i < l.length) : (l.take (i + 1)).filter f = (l.take i).filter f ++ (if f l[i] = true then [l[i]] else []) := by
  rw [List.take_succ_eq_append_getElem h, List.filter_append]
  simp [List.filter_cons]

end Go.Proofs.YtnhhnffolmgceabGreat.SpecPlC

end

section
namespace Go.Proofs.YtnhhnffolmgceabGreat.PubC
open Go.RowKit SeesC IntsC ExactC OrdMath InC OrderC PatMath ShapeC ListsC ListsEC ListsFC ListsGC PlacesC HasC SpecPlC

/-- The first of owned lists. -/
theorem lists_first {w : World} {base n : Nat} {a : Option Addr} {N c : Nat} {q : List Value} {L : List (List Value)} (hN : (q :: L).length = N) (h : Lists w base n (.slice a N c) (q :: L)) : ∃ g p1 p2, a = some ⟨g, 0, none⟩ ∧ w.cell? ⟨g, 0, none⟩ = some (.slice (some ⟨p1, 0, none⟩) n p2) ∧ w.ownsRow base 3 1 (.slice (some ⟨p1, 0, none⟩) n p2) n q := by
  obtain ⟨gs, h1, h2, h3, _, _⟩ := h
  rw [hN] at h1 h2
  have hN1 : 1 ≤ N := by rw [← hN]; simp
  obtain ⟨g, c2, e⟩ := own_pos h2 (by omega)
  cases e
  have h4 := h3 0 (by simp)
  have h5 := h2.cellAt 0 (by omega)
  obtain ⟨p, hp⟩ : ∃ p, gs.getD 0 (0, 0) = p := ⟨_, rfl⟩
  rw [hp] at h4
  have e1 : (gs.map (sl n))[0]? = some (sl n p) := by rw [← hp]; simp [show 0 < gs.length by omega]
  rw [e1] at h5
  exact ⟨g, p.1, p.2, rfl, h5, h4⟩

theorem has_len {zs pat : List Int} : has zs pat = true ↔ 0 < (placesOf zs pat).length := by unfold has; rw [decide_eq_true_eq]

end Go.Proofs.YtnhhnffolmgceabGreat.PubC

end

section
namespace Go.Proofs.YtnhhnffolmgceabGreat.AvoidC
open Go.RowKit SeesC IntsC ExactC OrdMath OrdFacts InC OrderC PatMath ShapeC InsertC ListsC ListsEC ListsFC PlacesC HasC SpecPlC LLC

/-- Patterns are valid, and not too many. -/
def pats (L : List (List Int)) : Bool := decide (L.length ≤ 4 ∧ ∀ p ∈ L, Ord p)

theorem pats_iff {L : List (List Int)} : pats L = true ↔ L.length ≤ 4 ∧ ∀ p ∈ L, Ord p := by unfold pats; rw [decide_eq_true_eq]

theorem pats_many {L : List (List Int)} (h : 4 < L.length) : pats L = false := by
  rw [Bool.eq_false_iff]; intro h2; have := (pats_iff.1 h2).1; omega

theorem pats_bad {L : List (List Int)} {i : Nat} (hi : i < L.length) (h : isOrd (L.getD i []) = false) : pats L = false := by
  rw [Bool.eq_false_iff]; intro h2
  have := (pats_iff.1 h2).2 _ (getD_memL hi)
  exact (of_decide_eq_false h) this

theorem pats_yes {L : List (List Int)} (h1 : L.length ≤ 4) (h2 : ∀ i, i < L.length → isOrd (L.getD i []) = true) : pats L = true := by
  rw [pats_iff]
  refine ⟨h1, fun p hp => ?_⟩
  obtain ⟨i, hi, e⟩ := List.mem_iff_getElem.1 hp
  have := h2 i hi
  have e2 : L.getD i [] = p := by rw [← e]; simp [hi]
  rw [e2] at this
  exact of_decide_eq_true this

def avoids (zs : List Int) (L : List (List Int)) : Bool := L.all (fun p => !has zs p)

theorem avoids_no {zs : List Int} {L : List (List Int)} {i : Nat} (hi : i < L.length) (h : has zs (L.getD i []) = true) : avoids zs L = false := by
  rw [Bool.eq_false_iff]; intro h2
  unfold avoids at h2
  rw [List.all_eq_true] at h2
  have := h2 _ (getD_memL hi)
  rw [h] at this
  cases this

theorem avoids_yes {zs : List Int} {L : List (List Int)} (h : ∀ i, i < L.length → has zs (L.getD i []) = false) : avoids zs L = true := by
  unfold avoids
  rw [List.all_eq_true]
  intro p hp
  obtain ⟨i, hi, e⟩ := List.mem_iff_getElem.1 hp
  have := h i hi
  have e2 : L.getD i [] = p := by rw [← e]; simp [hi]
  rw [e2] at this
  rw [this]; rfl

end Go.Proofs.YtnhhnffolmgceabGreat.AvoidC

end

section
namespace Go.Proofs.YtnhhnffolmgceabGreat.PubBC
open Go.RowKit SeesC IntsC ExactC OrdMath OrdFacts InC OrderC PatMath ShapeC InsertC ListsC ListsEC ListsFC PlacesC HasC SpecPlC LLC AvoidC

def avoidsAns (zs : List Int) (L : List (List Int)) : Bool × Bool := if Ord zs ∧ pats L = true then (avoids zs L, true) else (false, false)

/-- For how many of the first k numbers the order with it behind avoids all. -/
def kids (zs : List Int) (L : List (List Int)) : Nat → Nat
  | 0 => 0
  | k + 1 => kids zs L k + (if avoids (ins zs ((k : Int) + 1)) L = true then 1 else 0)

theorem kids_le (zs : List Int) (L : List (List Int)) : ∀ k, kids zs L k ≤ k := by
  intro k
  induction k with
  | zero => simp [kids]
  | succ k ih => unfold kids; split <;> omega

def childrenAns (zs : List Int) (L : List (List Int)) : Int × Bool := if Ord zs ∧ zs.length ≠ 7 ∧ pats L = true then ((kids zs L (zs.length + 1) : Nat), true) else (0, false)

theorem ins_nodup {zs : List Int} (h : zs.Nodup) (k : Int) : (ins zs k).Nodup := by
  unfold ins
  rw [List.nodup_append]
  refine ⟨?_, by simp, ?_⟩
  · rw [List.nodup_iff_pairwise_ne, List.pairwise_map]
    refine List.Pairwise.imp ?_ (List.nodup_iff_pairwise_ne.1 h)
    intro a b hab
    split <;> split <;> omega
  · intro x hx y hy e
    simp at hy
    obtain ⟨z, _, rfl⟩ := List.mem_map.1 hx
    split at e <;> omega

theorem ins_ord {zs : List Int} (h : Ord zs) (h7 : zs.length ≠ 7) {k : Int} (h1 : 1 ≤ k) (h2 : k ≤ (zs.length : Int) + 1) : Ord (ins zs k) := by
  refine ⟨by rw [ins_len]; omega, by rw [ins_len]; have := h.2.1; omega, ?_, ins_nodup h.2.2.2 k⟩
  intro z hz
  rw [ins_len]
  unfold ins at hz
  rw [List.mem_append] at hz
  rcases hz with hz | hz
  · obtain ⟨y, hy, rfl⟩ := List.mem_map.1 hz
    have := h.2.2.1 y hy
    split <;> omega
  · simp at hz
    omega

end Go.Proofs.YtnhhnffolmgceabGreat.PubBC

end

section
namespace Go.Proofs.YtnhhnffolmgceabGreat.AvMath
open OrdMath OrdFacts PatMath DropMath InsertC CmpC ListsBC AvoidC PubBC

theorem up_lt {k a b : Int} : up k a < up k b ↔ a < b := by unfold up; split <;> split <;> omega
theorem up_inj {k a b : Int} (h : up k a = up k b) : a = b := by unfold up at h; split at h <;> split at h <;> omega

theorem alike_up (k : Int) (ys : List Int) : PatMath.Alike (ys.map (up k)) ys := by
  refine ⟨by simp, fun i j hi hj => ?_⟩
  have hi2 : i < ys.length := by simpa using hi
  have hj2 : j < ys.length := by simpa using hj
  rw [up_at hi2 rfl, up_at hj2 rfl]
  exact up_lt

theorem pick_ins {x : List Int} {k : Int} {q : List Nat} (hq : ∀ p ∈ q, p < x.length) : pick (ins x k) q = (pick x q).map (up k) := by
  unfold pick
  rw [List.map_map]
  apply List.map_congr_left
  intro p hp
  have h := hq p hp
  show (ins x k).getD p 0 = up k (x.getD p 0)
  rw [ins_up, List.getD_eq_getElem?_getD, List.getElem?_append_left (by simpa using h), ← List.getD_eq_getElem?_getD, up_at h rfl]

theorem has_ins {x p : List Int} {k : Int} (h : has x p = true) : has (ins x k) p = true := by
  obtain ⟨q, hq, e⟩ := has_iff.1 h
  have ha := ch_asc _ _ (asc_nil _) q hq
  have hl := (ch_pre _ _ q hq).1
  have hm : q ∈ ch (ins x k).length p.length [] := by
    have h1 := mem_ch (n := (ins x k).length) p.length [] q ⟨ha.1, fun y hy => by rw [ins_len]; exact Nat.lt_succ_of_lt (ha.2 y hy)⟩ (by simpa using hl)
    exact h1
  refine has_iff.2 ⟨q, hm, ?_⟩
  rw [pick_ins ha.2, alike_shp (alike_up k _), e]

theorem avoids_ins {x : List Int} {k : Int} {L : List (List Int)} (h : avoids (ins x k) L = true) : avoids x L = true := by
  unfold avoids at *
  rw [List.all_eq_true] at *
  intro p hp
  have h1 := h p hp
  cases hx : has x p with
  | false => rfl
  | true => rw [has_ins hx] at h1; exact h1

/-- A list of the numbers 1 to n. -/
def OrdN (n : Nat) (zs : List Int) : Prop := zs.length = n ∧ (∀ z ∈ zs, 1 ≤ z ∧ z ≤ (n : Int)) ∧ zs.Nodup

theorem OrdN.ord {n : Nat} {zs : List Int} (h : OrdN n zs) (h1 : 1 ≤ n) (h7 : n ≤ 7) : Ord zs :=
  ⟨by rw [h.1]; exact h1, by rw [h.1]; exact h7, fun z hz => by rw [h.1]; exact h.2.1 z hz, h.2.2⟩

theorem ordN_of {zs : List Int} (h : Ord zs) : OrdN zs.length zs := ⟨rfl, h.2.2.1, h.2.2.2⟩

theorem ins_ordN {n : Nat} {x : List Int} {k : Int} (h : OrdN n x) (h1 : 1 ≤ k) (h2 : k ≤ (n : Int) + 1) : OrdN (n + 1) (ins x k) := by
  refine ⟨by rw [ins_len, h.1], fun z hz => ?_, ins_nodup h.2.2 k⟩
  unfold ins at hz
  rw [List.mem_append] at hz
  rcases hz with hz | hz
  · obtain ⟨y, hy, rfl⟩ := List.mem_map.1 hz
    have := h.2.1 y hy
    split <;> omega
  · simp at hz
    omega

def down (k z : Int) : Int := if k < z then z - 1 else z

theorem up_down {k z : Int} (h : z ≠ k) : up k (down k z) = z := by unfold up down; split <;> split <;> omega

theorem ordN_last {n : Nat} {zs : List Int} (h : OrdN (n + 1) zs) : ∃ x k, zs = ins x k ∧ OrdN n x ∧ 1 ≤ k ∧ k ≤ (n : Int) + 1 := by
  obtain ⟨hl, hr, hn⟩ := h
  have hne : zs ≠ [] := fun e => by rw [e] at hl; simp at hl
  obtain ⟨y, k, rfl⟩ : ∃ y k, zs = y ++ [k] := ⟨zs.dropLast, zs.getLast hne, (List.dropLast_concat_getLast hne).symm⟩
  have hyl : y.length = n := by simpa using hl
  rw [List.nodup_append] at hn
  have hk := hr k (by simp)
  have hyk : ∀ z ∈ y, z ≠ k := fun z hz e => hn.2.2 z hz k (by simp) e
  have e1 : (y.map (down k)).map (up k) = y := by
    rw [List.map_map]
    conv => rhs; rw [← List.map_id y]
    exact List.map_congr_left (fun z hz => up_down (hyk z hz))
  refine ⟨y.map (down k), k, by rw [ins_up, e1], ⟨by simp [hyl], fun z hz => ?_, ?_⟩, hk.1, by omega⟩
  · obtain ⟨a, ha, rfl⟩ := List.mem_map.1 hz
    have h1 := hr a (by simp [ha])
    have h2 := hyk a ha
    unfold down
    split <;> omega
  · have h3 : ((y.map (down k)).map (up k)).Nodup := by rw [e1]; exact hn.1
    exact List.Pairwise.of_map (up k) (fun a b hab e => hab (by rw [e])) h3

theorem ins_inj {x y : List Int} {k l : Int} (h : ins x k = ins y l) : x = y ∧ k = l := by
  rw [ins_up, ins_up] at h
  have h2 := List.append_inj' h rfl
  have e : k = l := by simpa using h2.2
  subst e
  exact ⟨(List.map_inj_right (fun a b hab => up_inj hab)).1 h2.1, rfl⟩

/-- Those that an order has one number more. -/
def chil (L : List (List Int)) (i : Nat) (x : List Int) : List (List Int) := ((List.range (i + 1)).map (fun (k : Nat) => ins x ((k : Int) + 1))).filter (fun y => avoids y L)

def av (L : List (List Int)) : Nat → List (List Int)
  | 0 => [[]]
  | i + 1 => (av L i).flatMap (chil L i)

theorem mem_av {L : List (List Int)} : ∀ {n : Nat} {zs : List Int}, zs ∈ av L n ↔ OrdN n zs ∧ (n = 0 ∨ avoids zs L = true) := by
  intro n
  induction n with
  | zero =>
    intro zs
    constructor
    · intro h
      have e : zs = [] := by simpa [av] using h
      subst e
      exact ⟨⟨rfl, by simp, by simp⟩, .inl rfl⟩
    · rintro ⟨⟨h, _⟩, _⟩
      have e : zs = [] := List.eq_nil_of_length_eq_zero h
      simp [av, e]
  | succ n ih =>
    intro zs
    show zs ∈ (av L n).flatMap (chil L n) ↔ _
    rw [List.mem_flatMap]
    constructor
    · rintro ⟨x, hx, hz⟩
      unfold chil at hz
      rw [List.mem_filter] at hz
      obtain ⟨k, hk, rfl⟩ := List.mem_map.1 hz.1
      rw [List.mem_range] at hk
      exact ⟨ins_ordN (ih.1 hx).1 (by omega) (by omega), .inr hz.2⟩
    · rintro ⟨ho, ha⟩
      obtain ⟨x, k, rfl, hx, h1, h2⟩ := ordN_last ho
      have ha2 : avoids (ins x k) L = true := by
        rcases ha with h | h
        · omega
        · exact h
      refine ⟨x, ih.2 ⟨hx, .inr (avoids_ins ha2)⟩, ?_⟩
      unfold chil
      rw [List.mem_filter]
      refine ⟨List.mem_map.2 ⟨(k - 1).toNat, by rw [List.mem_range]; omega, ?_⟩, ha2⟩
      congr 1
      omega

theorem nodup_av (L : List (List Int)) : ∀ n, (av L n).Nodup := by
  intro n
  induction n with
  | zero => simp [av]
  | succ n ih =>
    show ((av L n).flatMap (chil L n)).Pairwise (· ≠ ·)
    rw [List.pairwise_flatMap]
    constructor
    · intro x _
      unfold chil
      apply List.Pairwise.filter
      rw [List.pairwise_map]
      refine List.Pairwise.imp ?_ (List.nodup_iff_pairwise_ne.1 (List.nodup_range (n := n + 1)))
      intro a b hab e
      have := (ins_inj e).2
      omega
    · refine List.Pairwise.imp ?_ (List.nodup_iff_pairwise_ne.1 ih)
      intro x y hxy u hu v hv e
      unfold chil at hu hv
      rw [List.mem_filter] at hu hv
      obtain ⟨k, _, rfl⟩ := List.mem_map.1 hu.1
      obtain ⟨l, _, rfl⟩ := List.mem_map.1 hv.1
      exact hxy (ins_inj e).1

/-! ### All orders -/
def allOrd (n : Nat) : List (List Int) := (List.range (fact n)).map (fun k => atRun n (iota n) k)

theorem mem_allOrd {n : Nat} {zs : List Int} (h1 : 1 ≤ n) (h7 : n ≤ 7) : zs ∈ allOrd n ↔ OrdN n zs := by
  unfold allOrd
  rw [List.mem_map]
  constructor
  · rintro ⟨k, hk, rfl⟩
    rw [List.mem_range] at hk
    have h := (rank_of_at h1 h7 hk).1
    have hl := atRun_len n (iota n) k
    have h2 := ordN_of h
    rw [hl] at h2
    exact h2
  · intro h
    have h2 := at_of_rank (h.ord h1 h7)
    rw [h.1] at h2
    exact ⟨_, List.mem_range.2 h2.1, h2.2⟩

theorem allOrd_ranks (n : Nat) : (allOrd n).Pairwise (fun a b => rankR a < rankR b) := by
  unfold allOrd
  rw [List.pairwise_map, List.pairwise_iff_getElem]
  intro i j hi hj hij
  have hi2 : i < fact n := by simpa using hi
  have hj2 : j < fact n := by simpa using hj
  rw [List.getElem_range, List.getElem_range, (rank_at n (iota n) i (iota_len n) (iota_sorted n) hi2).2, (rank_at n (iota n) j (iota_len n) (iota_sorted n) hj2).2]
  exact hij

def avOrd (n : Nat) (L : List (List Int)) : List (List Int) := (allOrd n).filter (fun y => avoids y L)

theorem mem_avOrd {n : Nat} {L : List (List Int)} {zs : List Int} (h1 : 1 ≤ n) (h7 : n ≤ 7) : zs ∈ avOrd n L ↔ zs ∈ av L n := by
  unfold avOrd
  rw [List.mem_filter, mem_allOrd h1 h7, mem_av]
  constructor
  · rintro ⟨a, b⟩; exact ⟨a, .inr b⟩
  · rintro ⟨a, b⟩
    refine ⟨a, ?_⟩
    rcases b with b | b
    · omega
    · exact b

theorem avOrd_ranks (n : Nat) (L : List (List Int)) : (avOrd n L).Pairwise (fun a b => rankR a < rankR b) := (allOrd_ranks n).filter _

theorem nodup_sub : ∀ {l m : List (List Int)}, l.Nodup → (∀ x ∈ l, x ∈ m) → l.length ≤ m.length
  | [], m, _, _ => by simp
  | a :: l, m, hn, hs => by
    have ha : a ∈ m := hs a (by simp)
    have hn2 := List.nodup_cons.1 hn
    have ih := nodup_sub (l := l) (m := m.erase a) hn2.2 (fun x hx => (List.mem_erase_of_ne (fun e => hn2.1 (by rw [← e]; exact hx))).2 (hs x (by simp [hx])))
    have h2 := List.length_erase_of_mem ha
    have h3 : 0 < m.length := List.length_pos_of_mem ha
    simp only [List.length_cons]
    omega

theorem av_count {n : Nat} {L : List (List Int)} (h1 : 1 ≤ n) (h7 : n ≤ 7) : (av L n).length = (avOrd n L).length := by
  have hn : (avOrd n L).Nodup := by
    refine List.Pairwise.imp ?_ (avOrd_ranks n L)
    intro a b h e
    rw [e] at h
    omega
  exact Nat.le_antisymm (nodup_sub (nodup_av L n) (fun x hx => (mem_avOrd h1 h7).2 hx)) (nodup_sub hn (fun x hx => (mem_avOrd h1 h7).1 hx))

theorem allOrd_len (n : Nat) : (allOrd n).length = fact n := by simp [allOrd]

theorem av_many {n : Nat} {L : List (List Int)} (h7 : n ≤ 7) : (av L n).length ≤ 5040 := by
  by_cases h1 : 1 ≤ n
  · rw [av_count h1 h7]
    exact Nat.le_trans (List.length_filter_le _ _) (by rw [allOrd_len]; exact fact_7 h7)
  · have : n = 0 := by omega
    subst this
    simp [av]

def countAvAns (n : Int) (L : List (List Int)) : Int × Bool := if 1 ≤ n ∧ n ≤ 7 ∧ pats L = true then (((avOrd n.toNat L).length : Nat), true) else (0, false)

/-! ### The first one -/
theorem rank_mono : ∀ (a b left : List Int), left.Pairwise (· < ·) → a.Perm left → b.Perm left → cmpL a b < 0 → rankR a < rankR b
  | [], b, left, _, ha, hb, h => by
    have : left = [] := by simpa using ha.symm
    subst this
    have : b = [] := by simpa using hb
    subst this
    exact absurd h (by simp [cmpL])
  | x :: a, [], left, _, ha, hb, _ => by
    have : left = [] := by simpa using hb.symm
    subst this
    exact absurd ha (by simp)
  | x :: a, y :: b, left, hp, ha, hb, h => by
    have hca : cl x a = cl x left := by rw [← cl_perm ha, cl_self]
    have hcb : cl y b = cl y left := by rw [← cl_perm hb, cl_self]
    have hlen : a.length = b.length := by have := ha.length_eq; have := hb.length_eq; simp at *; omega
    show cl x a * fact a.length + rankR a < cl y b * fact b.length + rankR b
    rw [hca, hcb, ← hlen]
    have hra := rankR_lt a
    unfold cmpL at h
    by_cases hxy : x < y
    · have hc : cl x left < cl y left := cl_lt_of_lt hxy (ha.mem_iff.1 (by simp))
      have h1 : (cl x left + 1) * fact a.length ≤ cl y left * fact a.length := Nat.mul_le_mul_right _ hc
      rw [Nat.add_mul] at h1
      omega
    · rw [if_neg hxy] at h
      by_cases hyx : y < x
      · rw [if_pos hyx] at h
        exact absurd h (by decide)
      · rw [if_neg hyx] at h
        have e : x = y := by omega
        subst e
        have h1 := sorted_at left x hp (ha.mem_iff.1 (by simp))
        have he := erase_perm h1.2
        rw [h1.1] at he
        have pa : a.Perm (left.eraseIdx (cl x left)) := (ha.trans he.symm).cons_inv
        have pb : b.Perm (left.eraseIdx (cl x left)) := (hb.trans he.symm).cons_inv
        have ih := rank_mono a b _ (hp.sublist (List.eraseIdx_sublist left _)) pa pb h
        omega

/-- The least of a list, from one on. -/
def least : List (List Int) → List Int → List Int
  | [], b => b
  | x :: t, b => least t (if cmpL x b < 0 then x else b)

theorem least_mem : ∀ (t : List (List Int)) (b : List Int), least t b = b ∨ least t b ∈ t
  | [], b => .inl rfl
  | x :: t, b => by
    unfold least
    rcases least_mem t (if cmpL x b < 0 then x else b) with h | h
    · rw [h]
      split
      · exact .inr (by simp)
      · exact .inl rfl
    · exact .inr (List.mem_cons_of_mem _ h)

theorem cmpL_ge_trans {a b c : List Int} (h1 : ¬ cmpL a b < 0) (h2 : ¬ cmpL b c < 0) : ¬ cmpL a c < 0 := by
  intro h
  have n1 := cmpL_neg a b
  have n2 := cmpL_neg b c
  by_cases e1 : cmpL a b = 0
  · have := cmpL_eq _ _ e1; subst this; exact h2 h
  by_cases e2 : cmpL b c = 0
  · have := cmpL_eq _ _ e2; subst this; exact h1 h
  have h3 := cmpL_lt_trans c b a (by omega) (by omega)
  have n3 := cmpL_neg a c
  omega

theorem least_min : ∀ (t : List (List Int)) (b : List Int), ∀ x ∈ b :: t, ¬ cmpL x (least t b) < 0
  | [], b, x, hx => by
    have : x = b := by simpa using hx
    subst this
    show ¬ cmpL x x < 0
    rw [cmpL_same]
    decide
  | y :: t, b, x, hx => by
    have ih := least_min t (if cmpL y b < 0 then y else b)
    show ¬ cmpL x (least t (if cmpL y b < 0 then y else b)) < 0
    have hm := ih (if cmpL y b < 0 then y else b) (by simp)
    rcases List.mem_cons.1 hx with rfl | hx
    · refine cmpL_ge_trans ?_ hm
      split
      · rename_i h
        intro h2
        have := cmpL_neg x y
        omega
      · rw [cmpL_same]; decide
    · rcases List.mem_cons.1 hx with rfl | hx
      · refine cmpL_ge_trans ?_ hm
        split
        · rw [cmpL_same]; decide
        · assumption
      · exact ih x (by simp [hx])

theorem ordN_perm {n : Nat} {zs : List Int} (h : OrdN n zs) : zs.Perm (iota n) :=
  perm_of_sub _ _ h.2.2 (fun x hx => mem_iota.2 (h.2.1 x hx)) (by rw [iota_len, h.1]; exact Nat.le_refl _)

theorem least_first {n : Nat} {L : List (List Int)} {h : List Int} {t : List (List Int)} (h1 : 1 ≤ n) (h7 : n ≤ 7) (hav : av L n = h :: t) : ∃ t', avOrd n L = least t h :: t' := by
  have hmem : least t h ∈ av L n := by
    rw [hav]
    rcases least_mem t h with e | e
    · rw [e]; simp
    · exact List.mem_cons_of_mem _ e
  have hm2 := (mem_avOrd h1 h7).2 hmem
  cases hao : avOrd n L with
  | nil => rw [hao] at hm2; simp at hm2
  | cons f t' =>
    refine ⟨t', ?_⟩
    have hf : f ∈ av L n := (mem_avOrd h1 h7).1 (by rw [hao]; simp)
    have hmin := least_min t h f (by rw [← hav]; exact hf)
    by_cases e : f = least t h
    · rw [e]
    · exfalso
      rw [hao] at hm2
      rcases List.mem_cons.1 hm2 with e2 | hin
      · exact e e2.symm
      · have hr := avOrd_ranks n L
        rw [hao, List.pairwise_cons] at hr
        have hlt := hr.1 _ hin
        by_cases hc : cmpL (least t h) f < 0
        · have := rank_mono _ _ (iota n) (iota_sorted n) (ordN_perm (mem_av.1 hmem).1) (ordN_perm (mem_av.1 hf).1) hc
          omega
        · have n1 := cmpL_neg f (least t h)
          have : cmpL f (least t h) = 0 := by omega
          exact e (cmpL_eq _ _ this)

theorem av_nil {n : Nat} {L : List (List Int)} (h1 : 1 ≤ n) (h7 : n ≤ 7) : av L n = [] ↔ avOrd n L = [] := by
  rw [← List.length_eq_zero_iff, av_count h1 h7, List.length_eq_zero_iff]

def firstAvAns (n : Int) (L : List (List Int)) : List Int × Bool := if 1 ≤ n ∧ n ≤ 7 ∧ pats L = true ∧ avOrd n.toNat L ≠ [] then ((avOrd n.toNat L).headD [], true) else ([], false)

theorem avOrd_len {n : Nat} {L : List (List Int)} {zs : List Int} (h : zs ∈ avOrd n L) : zs.length = n := by
  unfold avOrd allOrd at h
  rw [List.mem_filter] at h
  obtain ⟨k, _, rfl⟩ := List.mem_map.1 h.1
  exact atRun_len _ _ _

theorem firstAv_len {n : Int} {L : List (List Int)} {xs : List Int} {b : Bool} (h : firstAvAns n L = (xs, b)) : xs.length ≤ 1048576 := by
  unfold firstAvAns at h
  split at h
  · rename_i hc
    cases h
    obtain ⟨f, t, e⟩ := List.exists_cons_of_ne_nil hc.2.2.2
    rw [e]
    have := avOrd_len (n := n.toNat) (L := L) (zs := f) (by rw [e]; simp)
    show f.length ≤ 1048576
    omega
  · cases h
    simp

/-! ### The most places -/
def mostTo (n : Nat) (p : List Int) : Nat → List Int × Int
  | 0 => ([], -1)
  | k + 1 => if (mostTo n p k).2 < ((placesOf (atRun n (iota n) k) p).length : Int) then (atRun n (iota n) k, ((placesOf (atRun n (iota n) k) p).length : Int)) else mostTo n p k

def mostAns (n : Int) (p : List Int) : List Int × Int × Bool := if 1 ≤ n ∧ n ≤ 7 ∧ Ord p then ((mostTo n.toNat p (fact n.toNat)).1, (mostTo n.toNat p (fact n.toNat)).2, true) else ([], 0, false)

theorem mostTo_len (n : Nat) (p : List Int) : ∀ k, (mostTo n p k).1.length ≤ n := by
  intro k
  induction k with
  | zero => simp [mostTo]
  | succ k ih =>
    unfold mostTo
    split
    · rw [atRun_len]; exact Nat.le_refl _
    · exact ih

theorem most_len {n : Int} {p xs : List Int} {m : Int} {b : Bool} (h : mostAns n p = (xs, m, b)) : xs.length ≤ 1048576 := by
  unfold mostAns at h
  split at h
  · cases h
    have := mostTo_len n.toNat p (fact n.toNat)
    omega
  · cases h
    simp

end Go.Proofs.YtnhhnffolmgceabGreat.AvMath

end
