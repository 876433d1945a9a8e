/-
  The mathematics of bad triples: the first places of the pattern 231, found by three loops. Conditions: none. Plain facts on lists: nothing of the program.
-/
import Derived.Test.YtddenfnoajdjiaaPatMath
namespace Go.Proofs.Ytddenfnoajdjiaa.BadM
open OrdMath PatMath

def bad (zs : List Int) (i k j : Nat) : Bool := decide (zs.getD j 0 < zs.getD i 0 ∧ zs.getD i 0 < zs.getD k 0)

theorem shp3 (a b c : Int) : shp [a, b, c] = [2, 3, 1] ↔ c < a ∧ a < b := by
  unfold shp cl
  simp only [List.map_cons, List.map_nil, List.countP_cons, List.countP_nil, List.cons.injEq, and_true, decide_eq_true_eq]
  constructor
  · rintro ⟨h1, h2, h3⟩
    by_cases x1 : b < a <;> by_cases x2 : c < a <;> by_cases x3 : a < b <;> by_cases x4 : c < b <;> by_cases x5 : a < c <;> by_cases x6 : b < c <;> simp_all <;> omega
  · rintro ⟨h1, h2⟩
    have y1 : ¬ b < a := by omega
    have y2 : c < b := by omega
    have y3 : ¬ a < c := by omega
    have y4 : ¬ b < c := by omega
    simp [h1, h2, y1, y2, y3, y4]

/-- What the inner loops find. -/
def inn (zs : List Int) (i k : Nat) : Nat → Nat → Option (List Nat)
  | 0, _ => none
  | m + 1, j => if bad zs i k j then some [i, k, j] else inn zs i k m (j + 1)
def mid (zs : List Int) (i : Nat) : Nat → Nat → Option (List Nat)
  | 0, _ => none
  | m + 1, k => match inn zs i k (zs.length - (k + 1)) (k + 1) with | some q => some q | none => mid zs i m (k + 1)
def outr (zs : List Int) : Nat → Nat → Option (List Nat)
  | 0, _ => none
  | m + 1, i => match mid zs i (zs.length - (i + 1)) (i + 1) with | some q => some q | none => outr zs m (i + 1)

def badOf (zs : List Int) : Option (List Nat) := outr zs zs.length 0

theorem inn_is (zs : List Int) (i k : Nat) : ∀ m j, inn zs i k m j = (List.range' j m).findSome? (fun j => if bad zs i k j then some [i, k, j] else none)
  | 0, _ => rfl
  | m + 1, j => by
    unfold inn
    rw [List.range'_succ, List.findSome?_cons]
    by_cases h : bad zs i k j = true
    · rw [if_pos h]; simp [h]
    · rw [if_neg h, inn_is zs i k m (j + 1)]; simp [h]
theorem mid_is (zs : List Int) (i : Nat) : ∀ m k, mid zs i m k = (List.range' k m).findSome? (fun k => inn zs i k (zs.length - (k + 1)) (k + 1))
  | 0, _ => rfl
  | m + 1, k => by
    unfold mid
    rw [List.range'_succ, List.findSome?_cons]
    cases h : inn zs i k (zs.length - (k + 1)) (k + 1) with
    | some q => rfl
    | none => simp only [mid_is zs i m (k + 1)]
theorem out_is (zs : List Int) : ∀ m i, outr zs m i = (List.range' i m).findSome? (fun i => mid zs i (zs.length - (i + 1)) (i + 1))
  | 0, _ => rfl
  | m + 1, i => by
    unfold outr
    rw [List.range'_succ, List.findSome?_cons]
    cases h : mid zs i (zs.length - (i + 1)) (i + 1) with
    | some q => rfl
    | none => simp only [out_is zs m (i + 1)]

theorem find_flat {α β : Type} (p : β → Bool) (g : α → List β) : ∀ l : List α, (l.flatMap g).find? p = l.findSome? (fun a => (g a).find? p)
  | [] => rfl
  | a :: t => by
    rw [List.flatMap_cons, List.find?_append, List.findSome?_cons, find_flat p g t]
    cases (g a).find? p <;> rfl

theorem find_flat2 {α β : Type} (p : β → Bool) (f : α → β) : ∀ l : List α, (l.map f).find? p = l.findSome? (fun a => if p (f a) then some (f a) else none)
  | [] => rfl
  | a :: t => by
    rw [List.map_cons, List.find?_cons, List.findSome?_cons]
    cases h : p (f a) with
    | true => simp
    | false => simp only [find_flat2 p f t]; simp

theorem some_congr {α β : Type} {f g : α → Option β} : ∀ {l : List α}, (∀ a ∈ l, f a = g a) → l.findSome? f = l.findSome? g
  | [], _ => rfl
  | a :: t, h => by
    rw [List.findSome?_cons, List.findSome?_cons, h a (by simp), some_congr (fun b hb => h b (by simp [hb]))]

theorem bad_first (zs : List Int) : badOf zs = (placesOf zs [2, 3, 1]).head? := by
  unfold badOf placesOf
  rw [List.head?_filter, out_is]
  have e3 : ch zs.length [(2 : Int), 3, 1].length [] = (List.range' 0 zs.length).flatMap (fun i => (List.range' (i + 1) (zs.length - (i + 1))).flatMap (fun k => (List.range' (k + 1) (zs.length - (k + 1))).map (fun j => [i, k, j]))) := by
    show ch zs.length 3 [] = _
    simp only [ch, behind, List.getLast?_nil, List.nil_append, List.getLast?_singleton, List.getLast?_append, Nat.sub_zero]
    apply flat_congr
    intro i _
    apply flat_congr
    intro k _
    rw [List.map_eq_flatMap]
    simp
  rw [e3, find_flat]
  apply some_congr
  intro i _
  rw [mid_is, find_flat]
  apply some_congr
  intro k _
  rw [inn_is, find_flat2]
  apply some_congr
  intro j _
  have e : decide (shp (pick zs [i, k, j]) = [2, 3, 1]) = bad zs i k j := by
    unfold bad
    show decide (shp [zs.getD i 0, zs.getD k 0, zs.getD j 0] = [2, 3, 1]) = _
    rw [decide_eq_decide, shp3]
  rw [e]

def badAns (zs : List Int) : List Int × Bool := if Ord zs then (match badOf zs with | some q => (nat q, true) | none => ([0, 0, 0], false)) else ([0, 0, 0], false)

end Go.Proofs.Ytddenfnoajdjiaa.BadM
