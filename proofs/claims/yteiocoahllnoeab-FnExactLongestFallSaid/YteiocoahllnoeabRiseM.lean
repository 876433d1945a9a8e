/-
  The mathematics of longest rises and falls: the model goes through all of them, the program keeps the first longest one behind each number. Conditions: none. Plain facts on lists.
-/
import Derived.Test.YteiocoahllnoeabListsB
import Derived.Test.YteiocoahllnoeabOrd
namespace Go.Proofs.Yteiocoahllnoeab.RiseM
open OrdMath CmpC ListsBC

/-- May a number follow one: greater for rises, less for falls. -/
def ok (rise : Bool) (a b : Int) : Bool := if rise then decide (a < b) else decide (b < a)

theorem ok_trans {rise : Bool} {a b c : Int} (h1 : ok rise a b = true) (h2 : ok rise b c = true) : ok rise a c = true := by
  unfold ok at *
  cases rise <;> simp at * <;> omega

/-- May a number come behind a list. -/
def okTo (rise : Bool) (so : List Int) (x : Int) : Bool := match so.getLast? with | none => true | some a => ok rise a x

/-- The lists that go on from one through some numbers, this one left out. -/
def ext (rise : Bool) : List Int → List Int → List (List Int)
  | _, [] => []
  | so, x :: xs => (if okTo rise so x then (so ++ [x]) :: ext rise (so ++ [x]) xs else []) ++ ext rise so xs

def Chain (rise : Bool) (c : List Int) : Prop := c.Pairwise (fun a b => ok rise a b = true)

theorem chain_snoc {rise : Bool} {so : List Int} {x : Int} (h : Chain rise so) : Chain rise (so ++ [x]) ↔ okTo rise so x = true := by
  unfold Chain okTo
  rcases List.eq_nil_or_concat so with rfl | ⟨ys, y, rfl⟩
  · simp
  · rw [List.concat_eq_append] at h ⊢
    rw [List.getLast?_append]
    simp only [List.getLast?_singleton]
    show _ ↔ ok rise y x = true
    unfold Chain at h
    rw [List.pairwise_append] at h ⊢
    constructor
    · intro h2
      exact h2.2.2 y (by simp) x (by simp)
    · intro h2
      refine ⟨List.pairwise_append.2 h, by simp, ?_⟩
      intro a ha b hb
      simp at hb
      subst hb
      rw [List.mem_append] at ha
      rcases ha with ha | ha
      · exact ok_trans (h.2.2 a ha y (by simp)) h2
      · simp at ha; subst ha; exact h2

theorem chain_pre {rise : Bool} {a b : List Int} (h : Chain rise (a ++ b)) : Chain rise a := (List.pairwise_append.1 h).1

theorem mem_ext {rise : Bool} : ∀ (xs so d : List Int), Chain rise so → (d ∈ ext rise so xs ↔ ∃ c, c ≠ [] ∧ d = so ++ c ∧ c.Sublist xs ∧ Chain rise (so ++ c))
  | [], so, d, _ => by
    simp only [ext, List.not_mem_nil, false_iff]
    rintro ⟨c, hc, _, h, _⟩
    exact hc (List.sublist_nil.1 h)
  | x :: xs, so, d, hso => by
    unfold ext
    rw [List.mem_append, mem_ext xs so d hso]
    by_cases hx : okTo rise so x = true
    · have hsx : Chain rise (so ++ [x]) := (chain_snoc hso).2 hx
      rw [if_pos hx, List.mem_cons, mem_ext xs (so ++ [x]) d hsx]
      constructor
      · rintro ((rfl | ⟨c, hc, rfl, hs, hch⟩) | ⟨c, hc, rfl, hs, hch⟩)
        · exact ⟨[x], by simp, rfl, by simp, hsx⟩
        · exact ⟨x :: c, by simp, by simp, hs.cons_cons x, by simpa using hch⟩
        · exact ⟨c, hc, rfl, hs.cons x, hch⟩
      · rintro ⟨c, hc, rfl, hs, hch⟩
        cases hs with
        | cons _ h => exact .inr ⟨c, hc, rfl, h, hch⟩
        | cons_cons _ h =>
          rename_i c'
          left
          by_cases h0 : c' = []
          · subst h0; exact .inl rfl
          · exact .inr ⟨c', h0, by simp, h, by simpa using hch⟩
    · rw [if_neg hx]
      constructor
      · rintro (h | ⟨c, hc, rfl, hs, hch⟩)
        · exact absurd h (by simp)
        · exact ⟨c, hc, rfl, hs.cons x, hch⟩
      · rintro ⟨c, hc, rfl, hs, hch⟩
        right
        cases hs with
        | cons _ h => exact ⟨c, hc, rfl, h, hch⟩
        | cons_cons _ h =>
          rename_i c'
          exfalso
          apply hx
          have h1 : Chain rise (so ++ [x]) := chain_pre (b := c') (by simpa using hch)
          exact (chain_snoc hso).1 h1

/-- Longer, or as long and first. -/
def bet (a b : List Int) : Bool := decide (b.length < a.length) || (decide (a.length = b.length) && decide (cmpL a b < 0))

def bint (a b : List Int) : Int := if b.length < a.length then -1 else if a.length < b.length then 1 else cmpL a b

theorem cmpL_bd : ∀ (a b : List Int), -1 ≤ cmpL a b ∧ cmpL a b ≤ 1
  | [], [] => by decide
  | [], _ :: _ => ⟨Int.le_refl _, by unfold cmpL; decide⟩
  | _ :: _, [] => ⟨by unfold cmpL; decide, Int.le_refl _⟩
  | x :: xs, y :: ys => by
    have := cmpL_bd xs ys
    unfold cmpL
    split
    · decide
    · split
      · decide
      · exact this

theorem bet_bint (a b : List Int) : bet a b = decide (bint a b < 0) := by
  unfold bet bint
  by_cases h : b.length < a.length
  · simp [h]
  · by_cases h2 : a.length < b.length
    · simp [h, h2]; omega
    · have h3 : a.length = b.length := by omega
      simp [h3]

theorem bet_irrefl (a : List Int) : bet a a = false := by unfold bet; simp [cmpL_same]

theorem bet_trans {a b c : List Int} (h1 : bet a b = true) (h2 : bet b c = true) : bet a c = true := by
  unfold bet at *
  simp at *
  rcases h1 with h1 | ⟨h1, h1'⟩ <;> rcases h2 with h2 | ⟨h2, h2'⟩
  · exact .inl (by omega)
  · exact .inl (by omega)
  · exact .inl (by omega)
  · exact .inr ⟨by omega, cmpL_lt_trans a b c h1' h2'⟩

theorem bet_total (a b : List Int) (h1 : bet a b = false) (h2 : bet b a = false) : a = b := by
  unfold bet at *
  simp at *
  have hl : a.length = b.length := by omega
  have h3 := h1.2 hl
  have h4 := h2.2 hl.symm
  have h5 := cmpL_neg a b
  exact cmpL_eq a b (by omega)

/-- Not worse. -/
def Le (a b : List Int) : Prop := bet b a = false

theorem Le.refl (a : List Int) : Le a a := bet_irrefl a
theorem Le.trans {a b c : List Int} (h1 : Le a b) (h2 : Le b c) : Le a c := by
  unfold Le at *
  by_cases h : bet c a = true
  · by_cases h3 : bet a b = true
    · have := bet_trans h h3
      rw [h2] at this; cases this
    · have : a = b := bet_total a b (by simpa using h3) h1
      subst this
      rw [h2] at h; cases h
  · simpa using h
theorem Le.of_bet {a b : List Int} (h : bet a b = true) : Le a b := by
  unfold Le
  by_cases h2 : bet b a = true
  · have := bet_trans h h2
    rw [bet_irrefl] at this; cases this
  · simpa using h2
theorem Le.anti {a b : List Int} (h1 : Le a b) (h2 : Le b a) : a = b := bet_total a b h2 h1

/-- The best of lists, from one on. -/
def best (b : List Int) (L : List (List Int)) : List Int := L.foldl (fun m x => if bet x m then x else m) b

theorem best_snoc (b : List Int) (L : List (List Int)) (x : List Int) : best b (L ++ [x]) = if bet x (best b L) then x else best b L := by
  unfold best; rw [List.foldl_append]; rfl

theorem best_spec : ∀ (L : List (List Int)) (b : List Int), (best b L = b ∨ best b L ∈ L) ∧ Le (best b L) b ∧ ∀ x ∈ L, Le (best b L) x
  | [], b => ⟨.inl rfl, Le.refl b, fun x h => by cases h⟩
  | y :: L, b => by
    have ih := best_spec L (if bet y b then y else b)
    have e : best b (y :: L) = best (if bet y b then y else b) L := rfl
    rw [e]
    by_cases h : bet y b = true
    · rw [if_pos h] at ih ⊢
      refine ⟨.inr ?_, ih.2.1.trans (Le.of_bet h), ?_⟩
      · rcases ih.1 with h1 | h1
        · rw [h1]; simp
        · exact List.mem_cons_of_mem _ h1
      · intro x hx
        rcases List.mem_cons.1 hx with rfl | hx
        · exact ih.2.1
        · exact ih.2.2 x hx
    · rw [if_neg h] at ih ⊢
      refine ⟨?_, ih.2.1, ?_⟩
      · rcases ih.1 with h1 | h1
        · exact .inl h1
        · exact .inr (List.mem_cons_of_mem _ h1)
      · intro x hx
        rcases List.mem_cons.1 hx with rfl | hx
        · exact ih.2.1.trans (by unfold Le; simpa using h)
        · exact ih.2.2 x hx

/-- The model's answer. -/
def longest (rise : Bool) (zs : List Int) : List Int := best [] ([] :: ext rise [] zs)

theorem longest_spec (rise : Bool) (zs : List Int) : ((longest rise zs).Sublist zs ∧ Chain rise (longest rise zs)) ∧ ∀ c, c.Sublist zs → Chain rise c → Le (longest rise zs) c := by
  have h := best_spec ([] :: ext rise [] zs) []
  have hm : ∀ d, d ∈ ([] :: ext rise [] zs) ↔ d.Sublist zs ∧ Chain rise d := by
    intro d
    rw [List.mem_cons, mem_ext zs [] d (by unfold Chain; exact List.Pairwise.nil)]
    constructor
    · rintro (rfl | ⟨c, hc, rfl, hs, hch⟩)
      · exact ⟨List.nil_sublist _, List.Pairwise.nil⟩
      · exact ⟨by simpa using hs, hch⟩
    · rintro ⟨hs, hch⟩
      by_cases h0 : d = []
      · exact .inl h0
      · exact .inr ⟨d, h0, rfl, hs, by simpa using hch⟩
  refine ⟨(hm _).1 ?_, fun c h1 h2 => h.2.2 c ((hm c).2 ⟨h1, h2⟩)⟩
  rcases h.1 with h1 | h1
  · show longest rise zs ∈ _
    unfold longest; rw [h1]; simp
  · exact h1

theorem longest_is {rise : Bool} {zs d : List Int} (h1 : d.Sublist zs) (h2 : Chain rise d) (h3 : ∀ c, c.Sublist zs → Chain rise c → Le d c) : longest rise zs = d :=
  have h := longest_spec rise zs
  Le.anti (h.2 d h1 h2) (h3 _ h.1.1 h.1.2)

/-- What the program keeps: behind each of the first k numbers the first longest list that ends with it. -/
def begun (rise : Bool) (x : Int) (D : List (List Int)) : List Int := best [] (D.filter fun l => okTo rise l x)

def dps (rise : Bool) (zs : List Int) : Nat → List (List Int)
  | 0 => []
  | k + 1 => dps rise zs k ++ [begun rise (zs.getD k 0) (dps rise zs k) ++ [zs.getD k 0]]

theorem dps_len (rise : Bool) (zs : List Int) : ∀ k, (dps rise zs k).length = k
  | 0 => rfl
  | k + 1 => by unfold dps; rw [List.length_append, dps_len rise zs k]; rfl

theorem cmpL_app (x : Int) : ∀ (a b : List Int), a.length = b.length → cmpL (a ++ [x]) (b ++ [x]) = cmpL a b
  | [], [], _ => by simp [cmpL]
  | [], _ :: _, h => by simp at h
  | _ :: _, [], h => by simp at h
  | y :: a, z :: b, h => by
    show (if y < z then -1 else if z < y then 1 else cmpL (a ++ [x]) (b ++ [x])) = _
    rw [cmpL_app x a b (by simpa using h)]; rfl

theorem Le.app {a b : List Int} (x : Int) (h : Le a b) : Le (a ++ [x]) (b ++ [x]) := by
  unfold Le bet at *
  simp at *
  refine ⟨by omega, fun hl => ?_⟩
  rw [cmpL_app x b a hl]
  exact h.2 hl

theorem dps_spec (rise : Bool) (zs : List Int) : ∀ k, k ≤ zs.length →
    (∀ l ∈ dps rise zs k, l ≠ [] ∧ l.Sublist (zs.take k) ∧ Chain rise l) ∧ (∀ c, c ≠ [] → c.Sublist (zs.take k) → Chain rise c → ∃ l ∈ dps rise zs k, l.getLast? = c.getLast? ∧ Le l c)
  | 0, _ => ⟨fun l h => by simp [dps] at h, fun c hc h _ => absurd (by simpa using h) hc⟩
  | k + 1, hk => by
    obtain ⟨ih1, ih2⟩ := dps_spec rise zs k (by omega)
    obtain ⟨x, hx⟩ : ∃ x, zs.getD k 0 = x := ⟨_, rfl⟩
    have ht : zs.take (k + 1) = zs.take k ++ [x] := by
      rw [List.take_succ_eq_append_getElem (by omega), ← hx]; simp [show k < zs.length by omega]
    have hb := best_spec ((dps rise zs k).filter fun l => okTo rise l x) []
    obtain ⟨g, hg⟩ : ∃ g, begun rise x (dps rise zs k) = g := ⟨_, rfl⟩
    have hb' : (g = [] ∨ g ∈ (dps rise zs k).filter fun l => okTo rise l x) ∧ Le g [] ∧ ∀ l ∈ (dps rise zs k).filter (fun l => okTo rise l x), Le g l := by rw [← hg]; exact hb
    have hgs : g.Sublist (zs.take k) ∧ Chain rise (g ++ [x]) := by
      rcases hb'.1 with rfl | h
      · exact ⟨List.nil_sublist _, by unfold Chain; simp⟩
      · rw [List.mem_filter] at h
        have := ih1 g h.1
        exact ⟨this.2.1, (chain_snoc this.2.2).2 h.2⟩
    have hd : dps rise zs (k + 1) = dps rise zs k ++ [g ++ [x]] := by show dps rise zs k ++ _ = _; rw [hx, hg]
    rw [hd, ht]
    constructor
    · intro l hl
      rw [List.mem_append, List.mem_singleton] at hl
      rcases hl with hl | rfl
      · have := ih1 l hl
        exact ⟨this.1, this.2.1.trans (List.sublist_append_left _ _), this.2.2⟩
      · exact ⟨by simp, List.Sublist.append hgs.1 (List.Sublist.refl _), hgs.2⟩
    · intro c hc hs hch
      rw [List.sublist_append_iff] at hs
      obtain ⟨c1, c2, rfl, h1, h2⟩ := hs
      have h2' : c2 = [] ∨ c2 = [x] := by
        cases h2 with
        | cons _ h => exact .inl (List.sublist_nil.1 h)
        | cons_cons _ h => rw [List.sublist_nil.1 h]; exact .inr rfl
      rcases h2' with rfl | rfl
      · rw [List.append_nil] at hc hch ⊢
        obtain ⟨l, hl, h3, h4⟩ := ih2 c1 hc h1 hch
        exact ⟨l, List.mem_append_left _ hl, h3, h4⟩
      · refine ⟨g ++ [x], by simp, by simp, Le.app x ?_⟩
        by_cases h0 : c1 = []
        · subst h0; exact hb'.2.1
        · obtain ⟨l, hl, h3, h4⟩ := ih2 c1 h0 h1 (chain_pre hch)
          refine (hb'.2.2 l ?_).trans h4
          rw [List.mem_filter]
          refine ⟨hl, ?_⟩
          have h5 := (chain_snoc (chain_pre hch)).1 hch
          unfold okTo at h5 ⊢
          rw [h3]
          exact h5

/-- The program's answer, and that both are one. -/
theorem dps_longest {rise : Bool} {zs d : List Int} (h1 : d ∈ dps rise zs zs.length) (h2 : ∀ l ∈ dps rise zs zs.length, Le d l) : longest rise zs = d := by
  obtain ⟨a, b⟩ := dps_spec rise zs zs.length (Nat.le_refl _)
  rw [List.take_of_length_le (Nat.le_refl _)] at a b
  have h3 := a d h1
  refine longest_is h3.2.1 h3.2.2 (fun c hs hch => ?_)
  by_cases h0 : c = []
  · subst h0
    have h6 : d.length ≠ 0 := fun h => h3.1 (List.eq_nil_of_length_eq_zero h)
    unfold Le bet
    simp
    exact fun h => absurd h.symm h6
  · obtain ⟨l, hl, _, h5⟩ := b c h0 hs hch
    exact (h2 l hl).trans h5

end Go.Proofs.Yteiocoahllnoeab.RiseM
