/-
  Contracts and plain facts that the law's text leans on, part 1 of 2. Conditions: as each states.
-/
import Derived.Test.YtekihdnkkeggjaaPatMath
import Derived.Test.YtekihdnkkeggjaaLists
import Derived.Test.YtekihdnkkeggjaaListsF
import Derived.Test.YtekihdnkkeggjaaOpen
import Derived.Deep.Matrix
import Derived.Test.YtekihdnkkeggjaaSame
import Derived.Deep.RegionHeld3
import Derived.Test.YtekihdnkkeggjaaOwn1
import Derived.Test.YtekihdnkkeggjaaPlaces
import Derived.Test.YtekihdnkkeggjaaShape
import Derived.Test.YtekihdnkkeggjaaOrdFacts
import Derived.Test.YtekihdnkkeggjaaRange

/-
  The mathematics of dropped places: the numbers beside some places, and the first list of as few places as can be. Conditions: none. Plain facts on lists: nothing of the program.
-/
namespace Go.Proofs.Ytekihdnkkeggjaa.DropMath
open OrdMath OrdFacts PatMath

/-- The places but some. -/
def others (q : List Nat) (n : Nat) : List Nat := (List.range n).filter (fun i => !decide (i ∈ q))

def beside (zs : List Int) (q : List Nat) : List Int := pick zs (others q zs.length)

theorem others_lt {q : List Nat} {n : Nat} : ∀ p ∈ others q n, p < n := fun p hp => by
  have := (List.mem_filter.1 hp).1
  rwa [List.mem_range] at this

theorem others_next (q : List Nat) (k : Nat) : others q (k + 1) = others q k ++ (if k ∈ q then [] else [k]) := by
  unfold others
  rw [List.range_succ, List.filter_append]
  by_cases h : k ∈ q <;> simp [h]

theorem others_len_le (q : List Nat) (n : Nat) : (others q n).length ≤ n := by
  have := List.length_filter_le (fun i => !decide (i ∈ q)) (List.range n)
  rwa [List.length_range] at this

theorem beside_nodup {zs : List Int} (h : zs.Nodup) (q : List Nat) : (beside zs q).Nodup := by
  unfold beside pick List.Nodup
  rw [List.pairwise_map]
  have hp : (others q zs.length).Pairwise (· < ·) := List.Pairwise.filter _ List.pairwise_lt_range
  refine List.Pairwise.imp_of_mem (fun {a b} ha hb hab => ?_) hp
  exact getD_ne h (others_lt a ha) (others_lt b hb) (by omega)

theorem beside_len_le (zs : List Int) (q : List Nat) : (beside zs q).length ≤ zs.length := by
  unfold beside; rw [pick_len]; exact others_len_le _ _

theorem others_pos {q : List Nat} {n : Nat} (h : q.length < n) : 1 ≤ (others q n).length := by
  by_cases h0 : others q n = []
  · exfalso
    have hall : ∀ i, i < n → i ∈ q := fun i hi => by
      by_cases hm : i ∈ q
      · exact hm
      · have : i ∈ others q n := List.mem_filter.2 ⟨List.mem_range.2 hi, by simp [hm]⟩
        rw [h0] at this
        simp at this
    have hp := perm_of_sub ((List.range n).map (fun (i : Nat) => (i : Int))) (q.map (fun (i : Nat) => (i : Int))) (by
      unfold List.Nodup
      rw [List.pairwise_map]
      exact (List.pairwise_lt_range (n := n)).imp (fun h => by omega)) (fun x hx => by
      obtain ⟨i, hi, rfl⟩ := List.mem_map.1 hx
      exact List.mem_map.2 ⟨i, hall i (List.mem_range.1 hi), rfl⟩) (by rw [List.length_map, List.length_map, List.length_range]; omega)
    have := hp.length_eq
    rw [List.length_map, List.length_map, List.length_range] at this
    omega
  · exact List.length_pos_iff.2 h0

theorem beside_pos {zs : List Int} {q : List Nat} (h : q.length < zs.length) : 1 ≤ (beside zs q).length := by
  unfold beside; rw [pick_len]; exact others_pos h

theorem has_small {xs pat : List Int} (h : xs.length < pat.length) : has xs pat = false := by
  unfold has placesOf
  rw [ch_nil (n := xs.length) pat.length [] (by have : behind [] = 0 := rfl; omega) (by omega)]
  rfl

theorem behind_le {b : List Nat} {p : Nat} (h : ∀ x ∈ b, x < p) : behind b ≤ p := by
  unfold behind
  cases hb : b.getLast? with
  | none => exact Nat.zero_le _
  | some x => exact h x (List.mem_of_getLast? hb)

theorem mem_ch {n : Nat} : ∀ (r : Nat) (b q : List Nat), Asc n (b ++ q) → q.length = r → b ++ q ∈ ch n r b
  | 0, b, q, _, h => by
    have hq : q = [] := List.eq_nil_of_length_eq_zero h
    subst hq
    simp [ch]
  | r + 1, b, [], _, h => by simp at h
  | r + 1, b, p :: q, ha, h => by
    have e : b ++ p :: q = (b ++ [p]) ++ q := by simp
    have ih := mem_ch r (b ++ [p]) q (by rw [← e]; exact ha) (by simpa using h)
    rw [e]
    unfold ch
    have hpn : p < n := ha.2 p (by simp)
    have hbp : behind b ≤ p := behind_le (fun x hx => by
      have h1 := ha.1
      rw [List.pairwise_append] at h1
      exact h1.2.2 x hx p (by simp))
    exact List.mem_flatMap.2 ⟨p, by rw [List.mem_range'_1]; omega, ih⟩

theorem others_range (m : Nat) : others (List.range m) (m + 1) = [m] := by
  rw [others_next]
  have h1 : others (List.range m) m = [] := by
    unfold others
    rw [List.filter_eq_nil_iff]
    intro i hi
    simp [List.mem_range.1 hi]
  rw [h1]
  simp

/-- In the end there is a list that avoids. -/
theorem drop_end {zs pat : List Int} (hz : 1 ≤ zs.length) (hp : 2 ≤ pat.length) : ∃ k q, k < zs.length ∧ q ∈ ch zs.length k [] ∧ has (beside zs q) pat = false := by
  obtain ⟨m, hm⟩ : ∃ m, zs.length = m + 1 := ⟨zs.length - 1, by omega⟩
  refine ⟨m, List.range m, by omega, ?_, ?_⟩
  · have := mem_ch (n := zs.length) m [] (List.range m) ⟨by simpa using List.pairwise_lt_range, fun p hp => by simp at hp; omega⟩ (by simp)
    simpa using this
  · apply has_small
    unfold beside
    rw [hm, others_range, pick_len]
    simp; omega

/-- The first list that avoids. -/
def firstDrop (zs pat : List Int) : List Nat := (((List.range zs.length).flatMap (fun k => ch zs.length k [])).find? (fun q => !has (beside zs q) pat)).getD []

theorem find_first {α : Type} {p : α → Bool} {q : α} (hq : p q = true) : ∀ {l1 l2 : List α}, (∀ x ∈ l1, p x = false) → (l1 ++ q :: l2).find? p = some q
  | [], l2, _ => by simp [hq]
  | a :: l1, l2, h => by
    rw [List.cons_append, List.find?_cons_of_neg (by rw [h a (by simp)]; simp)]
    exact find_first hq (fun x hx => h x (by simp [hx]))

theorem firstDrop_is {zs pat : List Int} {k i : Nat} (hk : k < zs.length) (hi : i < (ch zs.length k []).length) (hq : has (beside zs (ch zs.length k [])[i]) pat = false)
    (hlow : ∀ k', k' < k → ∀ q ∈ ch zs.length k' [], has (beside zs q) pat = true) (hin : ∀ q ∈ (ch zs.length k []).take i, has (beside zs q) pat = true) : firstDrop zs pat = (ch zs.length k [])[i] := by
  obtain ⟨r, hr⟩ : ∃ r, zs.length = k + 1 + r := ⟨zs.length - (k + 1), by omega⟩
  have hsplit : List.range zs.length = List.range k ++ k :: (List.range r).map (fun x => k + 1 + x) := by
    rw [hr, List.range_add, List.range_succ]; simp
  have hall : (List.range zs.length).flatMap (fun k => ch zs.length k []) = ((List.range k).flatMap (fun k => ch zs.length k []) ++ (ch zs.length k []).take i) ++ (ch zs.length k [])[i] :: ((ch zs.length k []).drop (i + 1) ++ ((List.range r).map (fun x => k + 1 + x)).flatMap (fun k => ch zs.length k [])) := by
    rw [hsplit, List.flatMap_append, List.flatMap_cons, List.append_assoc]
    congr 1
    have h1 : (ch zs.length k []) = (ch zs.length k []).take i ++ (ch zs.length k [])[i] :: (ch zs.length k []).drop (i + 1) := by
      rw [← List.drop_eq_getElem_cons hi, List.take_append_drop]
    rw [← List.cons_append, ← List.append_assoc, ← h1]
  unfold firstDrop
  rw [hall, find_first (by rw [hq]; rfl) (fun x hx => by
    rw [List.mem_append] at hx
    rcases hx with hx | hx
    · obtain ⟨k', hk', hxq⟩ := List.mem_flatMap.1 hx
      rw [hlow k' (List.mem_range.1 hk') x hxq]; rfl
    · rw [hin x hx]; rfl)]
  rfl

def dropsAns (zs pat : List Int) : List Int × Bool := if Ord zs ∧ Ord pat ∧ pat.length ≠ 1 then (nat (firstDrop zs pat), true) else ([], false)

theorem firstDrop_len {zs pat : List Int} (h7 : zs.length ≤ 7) : (firstDrop zs pat).length ≤ 7 := by
  unfold firstDrop
  cases h : ((List.range zs.length).flatMap (fun k => ch zs.length k [])).find? (fun q => !has (beside zs q) pat) with
  | none => simp
  | some q =>
    have hm := List.mem_of_find?_eq_some h
    obtain ⟨k, hk, hq⟩ := List.mem_flatMap.1 hm
    rw [List.mem_range] at hk
    have := (ch_pre _ _ q hq).1
    simp at this ⊢
    omega

theorem drops_len {zs pat xs : List Int} {b : Bool} (h : dropsAns zs pat = (xs, b)) : xs.length ≤ 1048576 := by
  unfold dropsAns at h; split at h
  · rename_i ho
    cases h
    have h1 := firstDrop_len (zs := zs) (pat := pat) ho.1.2.1
    have h2 : (nat (firstDrop zs pat)).length = (firstDrop zs pat).length := by show (List.map _ _).length = _; rw [List.length_map]
    omega
  · cases h; simp

end Go.Proofs.Ytekihdnkkeggjaa.DropMath

/-
  Contracts: the model's comparisons of lists of one length. Conditions: lists of at most 2^20 numbers.
-/
namespace Go.Proofs.Ytekihdnkkeggjaa.ListsBC
open Go.RowKit SeesC IntsC ExactC CmpC ListsC

theorem cmpL_same : ∀ xs : List Int, cmpL xs xs = 0
  | [] => rfl
  | x :: xs => by simp [cmpL, cmpL_same xs]

theorem cmpL_eq : ∀ (xs ys : List Int), cmpL xs ys = 0 → xs = ys
  | [], [], _ => rfl
  | [], _ :: _, h => by simp [cmpL] at h
  | _ :: _, [], h => by simp [cmpL] at h
  | x :: xs, y :: ys, h => by
    unfold cmpL at h
    split at h
    · cases h
    · split at h
      · cases h
      · have : x = y := by omega
        rw [this, cmpL_eq xs ys h]

theorem cmpL_lt_trans : ∀ (xs ys zs : List Int), cmpL xs ys < 0 → cmpL ys zs < 0 → cmpL xs zs < 0
  | [], [], _, h, _ => by simp [cmpL] at h
  | [], _ :: _, [], _, h => by simp [cmpL] at h
  | [], _ :: _, _ :: _, _, _ => by simp [cmpL]
  | _ :: _, [], _, h, _ => by simp [cmpL] at h
  | _ :: _, _ :: _, [], _, h => by simp [cmpL] at h
  | x :: xs, y :: ys, z :: zs, h1, h2 => by
    have ih := cmpL_lt_trans xs ys zs
    unfold cmpL at h1 h2 ⊢
    split at h1 <;> split at h2
    · rw [if_pos (by omega)]; decide
    · split at h2
      · omega
      · rw [if_pos (by omega)]; decide
    · split at h1
      · omega
      · rw [if_pos (by omega)]; decide
    · split at h1
      · omega
      · split at h2
        · omega
        · rw [if_neg (by omega), if_neg (by omega)]; exact ih h1 h2

theorem cmpL_neg : ∀ (xs ys : List Int), cmpL ys xs = - cmpL xs ys
  | [], [] => rfl
  | [], _ :: _ => rfl
  | _ :: _, [] => rfl
  | x :: xs, y :: ys => by
    unfold cmpL
    by_cases h1 : x < y
    · rw [if_neg (by omega), if_pos h1, if_pos h1]; rfl
    · by_cases h2 : y < x
      · rw [if_pos h2, if_neg h1, if_pos h2]
      · rw [if_neg h2, if_neg h1, if_neg h1, if_neg h2]; exact cmpL_neg xs ys

end Go.Proofs.Ytekihdnkkeggjaa.ListsBC

/-
  An argument that is a list of lists of integers: opened, sized, copied, compared. Conditions: at most 2^20 numbers together.
-/
namespace Go.Proofs.Ytekihdnkkeggjaa.LLC
open Go.ChangeShapes Go.WideShapes Go.ChangeAt Go.RowKit SeesC IntsC ExactC ListsC ListsEC ListsFC OpenC

/-- A list of lists that is read. -/
def SeesLL (w : World) (v : Value) (L : List (List Int)) : Prop :=
  ∃ vs : List Value, vs.length = L.length ∧ Sees w v L.length vs ∧ ∀ i, i < L.length → Sees w (vs.getD i undef) (L.getD i []).length (vals (L.getD i []))

theorem SeesLL.grow {w w' : World} {v : Value} {L : List (List Int)} (h : SeesLL w v L) (hb : Below w.heap.size w w') : SeesLL w' v L := by
  obtain ⟨vs, h1, h2, h3⟩ := h
  exact ⟨vs, h1, h2.grow hb, fun i hi => (h3 i hi).grow hb⟩

theorem SeesLL.drawn {w w' : World} {v : Value} {L : List (List Int)} (h : SeesLL w v L) (hb : Drawn w w') : SeesLL w' v L := by
  obtain ⟨vs, h1, h2, h3⟩ := h
  exact ⟨vs, h1, hb.sees h2, fun i hi => hb.sees (h3 i hi)⟩

theorem SeesLL.value {w : World} {v : Value} {L : List (List Int)} (h : SeesLL w v L) : ∃ a c, v = .slice a L.length c := by
  obtain ⟨vs, h1, ⟨_, a, c, rfl, _, _⟩, h3⟩ := h
  exact ⟨a, c, rfl⟩

theorem SeesLL.at {w : World} {a : Option Addr} {N c i : Nat} {L : List (List Int)} (hN : L.length = N) (hi : i < N) (h : SeesLL w (.slice a N c) L) : ∃ b o u c1, a = some ⟨b, o, none⟩ ∧ w.cell? ⟨b, o + i, none⟩ = some (.slice u (L.getD i []).length c1) ∧ Sees w (.slice u (L.getD i []).length c1) (L.getD i []).length (vals (L.getD i [])) := by
  obtain ⟨vs, h1, ⟨h2, a', c', e, _, hc⟩, h3⟩ := h
  cases e
  obtain ⟨b, o, rfl, hcell⟩ := hc (by omega)
  have h4 := h3 i (by omega)
  have e1 : vs.getD i undef = vs[i]'(by omega) := by simp [show i < vs.length by omega]
  have h5 := hcell i (vs[i]'(by omega)) (by simp [show i < vs.length by omega])
  rw [e1] at h4
  have h6 := h4
  obtain ⟨_, u, c1, e, _, _⟩ := h6
  rw [e] at h4 h5
  exact ⟨b, o, u, c1, rfl, h5, h4⟩

/-- Lists that are owned, each in memory of its own. -/
def Rag (w : World) (base : Nat) (v : Value) (L : List (List Int)) : Prop :=
  ∃ gs : List (Nat × Nat), gs.length = L.length ∧ w.ownsRow base 24 1 v L.length ((List.range L.length).map fun i => sl (L.getD i []).length (gs.getD i (0, 0))) ∧
    (∀ i, i < L.length → w.ownsRow base 3 1 (sl (L.getD i []).length (gs.getD i (0, 0))) (L.getD i []).length (vals (L.getD i []))) ∧ (gs.map (·.1)).Nodup

theorem Rag.kept {w w' : World} {base : Nat} {v : Value} {L : List (List Int)} (h : Rag w base v L) (hb : Below w.heap.size w w') : Rag w' base v L := by
  obtain ⟨gs, h1, h2, h3, h4⟩ := h
  exact ⟨gs, h1, kept_call h2 hb, fun i hi => kept_call (h3 i hi) hb, h4⟩

theorem Rag.sees {w : World} {base : Nat} {v : Value} {L : List (List Int)} (h : Rag w base v L) : SeesLL w v L := by
  obtain ⟨gs, h1, h2, h3, h4⟩ := h
  refine ⟨_, by simp, Sees.owns h2, fun i hi => ?_⟩
  have e1 : ((List.range L.length).map fun i => sl (L.getD i []).length (gs.getD i (0, 0))).getD i undef = sl (L.getD i []).length (gs.getD i (0, 0)) := by
    rw [List.getD_eq_getElem?_getD, List.getElem?_map, List.getElem?_range hi]; rfl
  rw [e1]
  exact Sees.owns (h3 i hi)

/-- The room of lists of lists: themselves and their numbers. -/
def tot : List (List Int) → Nat
  | [] => 0
  | l :: L => l.length + tot L

theorem tot_next {L : List (List Int)} {i : Nat} (h : i < L.length) : tot (L.take (i + 1)) = tot (L.take i) + (L.getD i []).length := by
  induction L generalizing i with
  | nil => simp at h
  | cons l L ih =>
    cases i with
    | zero => simp [tot]
    | succ i =>
      have hi : i < L.length := by simpa using h
      have := ih hi
      simp only [List.take_succ_cons, tot, List.getD_cons_succ] at this ⊢
      omega

theorem tot_mem {L : List (List Int)} {l : List Int} (h : l ∈ L) : l.length ≤ tot L := by
  induction L with
  | nil => simp at h
  | cons a L ih =>
    rcases List.mem_cons.1 h with rfl | h
    · simp [tot]
    · have := ih h; simp [tot]; omega

theorem tot_take (L : List (List Int)) : ∀ i, tot (L.take i) ≤ tot L := by
  induction L with
  | nil => intro i; simp [tot]
  | cons a L ih =>
    intro i
    cases i with
    | zero => simp [tot]
    | succ i => simp only [List.take_succ_cons, tot]; have := ih i; omega

theorem getD_memL {L : List (List Int)} {i : Nat} (h : i < L.length) : L.getD i [] ∈ L := by
  have : L.getD i [] = L[i] := by simp [h]
  rw [this]; exact List.getElem_mem h

theorem made_nil (n : Nat) : (madeCells (Value.slice none 0 0).cells (n * 1)).toList = List.replicate n (.slice none 0 0) := by
  apply List.ext_getElem
  · simp [madeCells]
  · intro i h1 h2; simp [madeCells, Value.cells, Nat.mod_one]

/-- The rows copied so far. -/
def rowsTo (L : List (List Int)) (gs : List (Nat × Nat)) (k : Nat) : List Value := (List.range k).map fun i => sl (L.getD i []).length (gs.getD i (0, 0))

theorem getD_l {α : Type} {d : α} {A B : List α} {i : Nat} (h : i < A.length) : (A ++ B).getD i d = A.getD i d := by
  rw [List.getD_eq_getElem?_getD, List.getElem?_append_left h, ← List.getD_eq_getElem?_getD]

theorem rowsTo_next (L : List (List Int)) (gs : List (Nat × Nat)) (p : Nat × Nat) (k : Nat) (hk : gs.length = k) : rowsTo L (gs ++ [p]) (k + 1) = rowsTo L gs k ++ [sl (L.getD k []).length p] := by
  unfold rowsTo
  rw [List.range_succ, List.map_append]
  congr 1
  · apply List.map_congr_left
    intro i hi
    rw [List.mem_range] at hi
    rw [getD_l (by omega)]
  · simp [← hk]

theorem rows_set (X : List Value) (k n : Nat) (v z : Value) (hX : X.length = k) (hk : k < n) : (X ++ List.replicate (n - k) z).set k v = (X ++ [v]) ++ List.replicate (n - (k + 1)) z := by
  rw [List.set_append_right _ _ (by omega), hX, Nat.sub_self]
  have e : n - k = (n - (k + 1)) + 1 := by omega
  rw [e, List.replicate_succ, List.set_cons_zero, List.append_assoc]
  rfl

/-- An argument that is a list of lists of integers. -/
theorem sees_rows {H : Type} {enc : TypeId × Value → H} {P : Program} {W : World} {t e q : TypeId} {v : Value} {d : DataW H} {ps : List MemPlace} (ht : P.underlying t = some (.slice e)) (he : P.underlying e = some (.slice q)) (hq : P.underlying q = some (.int .i64)) (ce : P.cellsOf e = 1) (cq : P.cellsOf q = 1)
    {base : Nat} {r : Reach} (hok : Value.okWide P W r base t v) (h : DataW.Trod enc P W 0 (fun _ => true) true t v d ps) :
    ∃ (n : Nat) (L : List (List Int)), (L.length = n ∧ SeesLL W v L) ∧ n ≤ maxLen ∧ ∀ l ∈ L, l.length ≤ maxLen := by
  obtain ⟨a0, len0, cap0, rfl⟩ := okWide_slice ht hok
  obtain ⟨fuel, hf⟩ := h
  rcases Go.Deep.open_int_rows ht he hq ce cq hf with ⟨hcs, _⟩ | ⟨x, l, c, A, Ln, C, Z, hcs, _, hl, hm, _, hrow⟩
  · simp [Value.cells] at hcs
    obtain ⟨rfl, rfl, rfl⟩ := hcs
    exact ⟨0, [], ⟨rfl, [], rfl, Sees.nil _ _ _, fun i hi => absurd hi (by simp)⟩, by unfold maxLen; omega, by simp⟩
  · simp [Value.cells] at hcs
    obtain ⟨rfl, rfl, rfl⟩ := hcs
    refine ⟨len0, (List.range len0).map (fun i => (Z i).take (Ln i)), ⟨by simp, (List.range len0).map (fun i => .slice (A i) (Ln i) (C i)), by simp, ?_, ?_⟩, Nat.le_trans hl hm, ?_⟩
    · refine ⟨by simp, some x, cap0, by simp, by simpa using hl, fun hn => ?_⟩
      rw [List.length_map, List.length_range] at hn
      obtain ⟨b, o, rfl⟩ := addr_spot (hrow 0 (by omega)).1
      refine ⟨b, o, rfl, fun j u hu => ?_⟩
      rw [List.getElem?_map] at hu
      by_cases hj : j < len0
      · rw [List.getElem?_range hj] at hu
        simp at hu
        have h1 := (hrow j (by omega)).1
        rw [add_none] at h1
        rw [h1, ← hu]
      · rw [List.getElem?_eq_none (by simp; omega)] at hu
        simp at hu
    · intro i hi
      rw [List.length_map, List.length_range] at hi
      have e1 : ((List.range len0).map (fun i => (Z i).take (Ln i))).getD i [] = (Z i).take (Ln i) := by
        rw [List.getD_eq_getElem?_getD, List.getElem?_map, List.getElem?_range hi]; rfl
      have e2 : ((List.range len0).map (fun i => Value.slice (A i) (Ln i) (C i))).getD i undef = .slice (A i) (Ln i) (C i) := by
        rw [List.getD_eq_getElem?_getD, List.getElem?_map, List.getElem?_range hi]; rfl
      rw [e1, e2]
      obtain ⟨_, hLC, _, hZ, _, hnone, hcell⟩ := hrow i (by omega)
      have el : ((Z i).take (Ln i)).length = Ln i := by rw [List.length_take]; omega
      rw [el]
      refine ⟨by simp; omega, A i, C i, rfl, hLC, fun hn => ?_⟩
      cases hA : A i with
      | none => have := hnone hA; omega
      | some a' =>
        obtain ⟨_, hcl⟩ := hcell a' hA
        obtain ⟨b, o, rfl⟩ := addr_spot (hcl 0 (by omega))
        refine ⟨b, o, rfl, fun j u hu => ?_⟩
        rw [List.getElem?_map, List.getElem?_take] at hu
        split at hu
        · rename_i hj
          have hj2 : j < (Z i).length := by omega
          rw [List.getElem?_eq_getElem hj2] at hu
          simp at hu
          have h1 := hcl j (by omega)
          rw [add_none] at h1
          rw [h1, ← hu]
          simp [hj2]
        · simp at hu
    · intro l hl2
      rw [List.mem_map] at hl2
      obtain ⟨i, hi, rfl⟩ := hl2
      rw [List.mem_range] at hi
      obtain ⟨_, hLC, hCm, hZ, _⟩ := hrow i (by omega)
      rw [List.length_take]
      omega

end Go.Proofs.Ytekihdnkkeggjaa.LLC

/-
  Contract: the model's search for a pattern, by recursion. Conditions: lists of at most 7 numbers.
-/
namespace Go.Proofs.Ytekihdnkkeggjaa.GoesC
open Go.RowKit SeesC IntsC ExactC OrdMath InC OrderC PatMath ShapeC PlacesC Own1C AppendTwoC SameC IterC

theorem own_heap {w w' : World} (h : w'.heap = w.heap) {base size n : Nat} {ty : TypeId} {v : Value} {xs : List Value} (ho : w.ownsRow base ty size v n xs) : w'.ownsRow base ty size v n xs := by
  unfold World.ownsRow at ho ⊢
  rw [h]; exact ho

theorem below_heap {w w' a : World} {B : Nat} (h : Below B a w) (h1 : w'.os = w.os) (h2 : w'.tape = w.tape) (h3 : w'.output = w.output) (h4 : w'.heap = w.heap) : Below B a w' := by
  exact ⟨h1.trans h.os, h2.trans h.tape, h3.trans h.output, by rw [h4]; exact h.size, fun q hq => by rw [h4]; exact h.block q hq⟩

theorem below_grown {X X0 X' a : World} {B : Nat} {row : Option Nat} (hg : X.grownBy X' row) (hb : Below B a X0) (hs : B ≤ X0.heap.size) (h1 : X.os = X0.os) (h2 : X.tape = X0.tape) (h3 : X.output = X0.output) (h4 : X.heap = X0.heap) (hr : ∀ k, row = some k → B ≤ k) : Below B a X' :=
  (below_heap hb h1 h2 h3 h4).grown hg (by rw [h4]; exact hs) hr

theorem cell_heap {w w' : World} (h : w'.heap = w.heap) {a : Addr} {u : Value} (hc : w.cell? a = some u) : w'.cell? a = some u := by
  unfold World.cell? at hc ⊢
  rw [h]; exact hc

theorem pick_snoc (zs : List Int) (b : List Nat) (p : Nat) : pick zs (b ++ [p]) = pick zs b ++ [zs.getD p 0] := by simp [pick]

theorem vals_app (xs : List Int) (z : Int) : vals (xs ++ [z]) = vals xs ++ [.int .i64 z] := by simp

theorem any_next (h : Nat → Bool) (s j : Nat) : (List.range' s (j + 1)).any h = ((List.range' s j).any h || h (s + j)) := by
  rw [range_next, List.any_append]; simp

end Go.Proofs.Ytekihdnkkeggjaa.GoesC

/-
  Owned lists behind owned lists. Conditions: none. Plain facts on worlds.
-/
namespace Go.Proofs.Ytekihdnkkeggjaa.ListsGC
open Go.RowKit SeesC IntsC ExactC ListsC ListsEC ListsFC

theorem getD_left {α : Type} {d : α} {A B : List α} {i : Nat} (h : i < A.length) : (A ++ B).getD i d = A.getD i d := by
  rw [List.getD_eq_getElem?_getD, List.getElem?_append_left h, ← List.getD_eq_getElem?_getD]

theorem getD_right {α : Type} {d : α} {A B : List α} {i : Nat} (h : A.length ≤ i) : (A ++ B).getD i d = B.getD (i - A.length) d := by
  rw [List.getD_eq_getElem?_getD, List.getElem?_append_right h, ← List.getD_eq_getElem?_getD]

theorem mem_at {gs : List (Nat × Nat)} {r : Nat × Nat} (h : r ∈ gs) : ∃ i, i < gs.length ∧ gs.getD i (0, 0) = r := by
  obtain ⟨i, hi, hir⟩ := List.mem_iff_getElem.1 h
  exact ⟨i, hi, by rw [← hir]; simp [hi]⟩

theorem lists_cat {X X' : World} {base n N M : Nat} {v v5 : Value} {gs hs : List (Nat × Nat)} {L K : List (List Value)}
    (hN : L.length = N) (hg : gs.length = N) (hM : K.length = M) (hh : hs.length = M) (hout : X.ownsRow base 24 1 v N (gs.map (sl n)))
    (hin : ∀ i, i < N → X.ownsRow base 3 1 (sl n (gs.getD i (0, 0))) n (L.getD i [])) (hnd : (gs.map (·.1)).Nodup)
    (hin2 : ∀ i, i < M → X.ownsRow base 3 1 (sl n (hs.getD i (0, 0))) n (K.getD i [])) (hnd2 : (hs.map (·.1)).Nodup)
    (hfresh : ∀ i j, i < N → j < M → (gs.getD i (0, 0)).1 ≠ (hs.getD j (0, 0)).1)
    (ho5 : X'.ownsRow base 24 1 v5 (N + M) (gs.map (sl n) ++ hs.map (sl n))) (hgrow : X.grownBy X' v.ownBlock) : Lists X' base n v5 (L ++ K) := by
  have hall : ∀ i, i < N + M → X'.ownsRow base 3 1 (sl n ((gs ++ hs).getD i (0, 0))) n ((L ++ K).getD i []) := by
    intro i hi
    by_cases h : i < N
    · rw [getD_left (by omega), getD_left (by omega)]
      exact own_mark (hin i h) hgrow (fun a ha e => own_types hout (hin i h) (by decide) e ha)
    · rw [getD_right (by omega), getD_right (by omega), hg, hN]
      exact own_mark (hin2 _ (by omega)) hgrow (fun a ha e => own_types hout (hin2 (i - N) (by omega)) (by decide) e ha)
  refine ⟨gs ++ hs, by simp [hg, hN, hM, hh], ?_, ?_, ?_, ?_⟩
  · rw [List.length_append, hN, hM, List.map_append]; exact ho5
  · intro i hi
    rw [List.length_append, hN, hM] at hi
    exact hall i hi
  · rw [List.map_append, List.nodup_append]
    refine ⟨hnd, hnd2, ?_⟩
    intro a ha b hb e
    obtain ⟨r, hr, rfl⟩ := List.mem_map.1 ha
    obtain ⟨s, hs1, rfl⟩ := List.mem_map.1 hb
    obtain ⟨i, hi, hir⟩ := mem_at hr
    obtain ⟨j, hj, hjs⟩ := mem_at hs1
    have h1 := hfresh i j (by omega) (by omega)
    rw [hir, hjs] at h1
    exact h1 e
  · intro r hr e
    obtain ⟨i, hi, hir⟩ := mem_at hr
    have h1 := hall i (by rw [List.length_append] at hi; omega)
    rw [hir] at h1
    exact own_types ho5 h1 (by decide) e rfl

/-- One owned list, in a list. -/
theorem lists_one {W : World} {base n c g : Nat} {q : List Value} (hb : base ≤ W.heap.size) (hq : W.ownsRow base 3 1 (.slice (some ⟨g, 0, none⟩) n c) n q) :
    Lists (W.alloc (.cells #[.slice (some ⟨g, 0, none⟩) n c] 24)) base n (.slice (some ⟨W.heap.size, 0, none⟩) 1 1) [q] := by
  have h2 := World.ownsRow_lit (base := base) (e := 24) (size := 1) W #[.slice (some ⟨g, 0, none⟩) n c] 1 hb (by unfold maxLen; omega) (by simp)
  have hlt := own_block_lt hq (q := g) rfl
  refine ⟨[(g, c)], rfl, h2, ?_, by simp, ?_⟩
  · intro i hi
    have : i = 0 := by simp at hi; exact hi
    subst this
    exact hq.alloc _
  · intro p hp e
    simp at hp
    subst hp
    have : W.heap.size = g := by simpa [Value.ownBlock] using e
    omega

theorem lists_empty {W : World} {base n : Nat} (hb : base ≤ W.heap.size) : Lists (W.alloc (.cells #[] 24)) base n (.slice (some ⟨W.heap.size, 0, none⟩) 0 0) [] :=
  ⟨[], rfl, World.ownsRow_made (base := base) (e := 24) (size := 1) W #[] 0 hb (by unfold maxLen; omega) rfl, fun i hi => absurd hi (by simp), by simp, fun p hp => by simp at hp⟩

end Go.Proofs.Ytekihdnkkeggjaa.ListsGC

/-
  Contract: the model's lists of places, by recursion. Conditions: at most 7 places of 7.
-/
namespace Go.Proofs.Ytekihdnkkeggjaa.ChoicesC
open Go.RowKit SeesC IntsC ExactC OrdMath InC OrderC PatMath ShapeC ListsC ListsEC ListsFC ListsGC PlacesC Own1C IterC

theorem flat_next {α : Type} (g : Nat → List α) (s j : Nat) : (List.range' s (j + 1)).flatMap g = (List.range' s j).flatMap g ++ g (s + j) := by
  rw [range_next, List.flatMap_append]; simp

theorem ch_len_le {n : Nat} (hn : n ≤ 7) : ∀ r b, (ch n r b).length ≤ 7 ^ r
  | 0, b => by simp [ch]
  | r + 1, b => by
    unfold ch
    have h1 := flat_len (g := fun p => ch n r (b ++ [p])) (m := 7 ^ r) (l := List.range' (behind b) (n - behind b)) (fun p _ => ch_len_le hn r (b ++ [p]))
    rw [List.length_range'] at h1
    have h2 : (n - behind b) * 7 ^ r ≤ 7 * 7 ^ r := Nat.mul_le_mul_right _ (by omega)
    rw [Nat.pow_succ]
    omega

end Go.Proofs.Ytekihdnkkeggjaa.ChoicesC

/-
  Contracts: the program's places of a pattern, and whether a list contains it. Conditions: lists of at most 7 different numbers, patterns that are orders.
-/
namespace Go.Proofs.Ytekihdnkkeggjaa.HasC
open Go.RowKit SeesC IntsC ExactC OrdMath InC OrderC PatMath ShapeC ListsC ListsEC ListsFC PlacesC

/-- A call of a function of the program's own enters it. -/
theorem run_enter {P : Program} {f : FuncId} {fn : Func} {c : Code} (hf : P.funcs[f]? = some fn) (hname : (fn.name == "runtime.NumGoroutine") = false) (hb : fn.body = some c) (args : Array Value) (w : World) : Sem.run P (callFunc f args) w = .ok (.enter f args) w := by
  have h1 : fn.name ≠ "runtime.NumGoroutine" := by simpa using hname
  simp [callFunc, hf, h1, hb]

theorem sees_at {w : World} {b o n cap : Nat} {zs : List Int} (h : Sees w (.slice (some ⟨b, o, none⟩) n cap) n (vals zs)) {j : Nat} (hj : j < n) {x : Int} (hx : zs.getD j 0 = x) : w.cell? ⟨b, o + j, none⟩ = some (.int .i64 x) := by
  have hl : zs.length = n := by simpa using h.1
  obtain ⟨_, a, c, e, _, hc⟩ := h
  cases e
  obtain ⟨b', o', e, hcell⟩ := hc (by omega)
  cases e
  exact hcell j _ (by rw [← hx]; simp [show j < zs.length by omega])

theorem nat_at {q : List Nat} {i p : Nat} (hi : i < q.length) (hp : q.getD i 0 = p) : (nat q).getD i 0 = (p : Int) := by
  have e1 : q[i] = p := by rw [← hp]; simp [hi]
  show (List.map _ q).getD i 0 = _
  simp [hi, e1]

theorem nat_len (q : List Nat) : (nat q).length = q.length := by
  show (List.map _ q).length = _
  rw [List.length_map]

set_option maxRecDepth 100000 in
set_option maxHeartbeats 2000000 in
theorem begins_any (zs pat : List Int) (q : List Nat) (W : World) (zb zo zc pb po pc qb qo qc B1 B2 n m La : Nat) (hLa : q.length = La + 1) (hq : ∀ p ∈ q, p < n) (hqm : q.length ≤ m) (hm : m ≤ 7)
    (hB1 : W.cell? ⟨B1, 0, none⟩ = some (.slice (some ⟨zb, zo, none⟩) n zc)) (hB2 : W.cell? ⟨B2, 0, none⟩ = some (.slice (some ⟨pb, po, none⟩) m pc))
    (hsz : Sees W (.slice (some ⟨zb, zo, none⟩) n zc) n (vals zs)) (hsp : Sees W (.slice (some ⟨pb, po, none⟩) m pc) m (vals pat)) (hu : Sees W (.slice (some ⟨qb, qo, none⟩) (La + 1) qc) (La + 1) (nv q)) :
    Calls Try.prog 111 #[.slice (some ⟨qb, qo, none⟩) (La + 1) qc, .pointer (some ⟨B1, 0, none⟩), .pointer (some ⟨B2, 0, none⟩)] W fun e w' => e = .returned (.bool (fits zs pat q)) ∧ Drawn W w' := by
  obtain ⟨r, hr⟩ : ∃ r, fits zs pat q = r := ⟨_, rfl⟩
  have HR := Go.Lib.hid hr
  rw [hr]
  have HV := Go.Lib.hid (And.intro hsz (And.intro hsp hu))
  have HQ := Go.Lib.hid (And.intro hLa hq)
  have hqa : ∀ i, i < La + 1 → ∃ p, q.getD i 0 = p ∧ p < n := fun i hi => ⟨_, rfl, hq _ (by
    have e1 : q.getD i 0 = q[i]'(by omega) := by simp [show i < q.length by omega]
    rw [e1]; exact List.getElem_mem _)⟩
  have HQA := Go.Lib.hid hqa
  obtain ⟨pl, hpl, hpln⟩ := hqa La (by omega)
  obtain ⟨y, hy⟩ : ∃ y, zs.getD pl 0 = y := ⟨_, rfl⟩
  obtain ⟨d, hd⟩ : ∃ d, pat.getD La 0 = d := ⟨_, rfl⟩
  have hLm : La + 1 ≤ m := by omega
  have HY := Go.Lib.hid (And.intro hpl (And.intro hy hd))
  have HCL : Hid (W.cell? ⟨qb, qo + La, none⟩ = some (.int .i64 (pl : Int)) ∧ W.cell? ⟨zb, zo + pl, none⟩ = some (.int .i64 y) ∧ W.cell? ⟨pb, po + La, none⟩ = some (.int .i64 d) ∧ W.cell? ⟨B1, 0, none⟩ = some (.slice (some ⟨zb, zo, none⟩) n zc) ∧ W.cell? ⟨B2, 0, none⟩ = some (.slice (some ⟨pb, po, none⟩) m pc)) :=
    Go.Lib.hid ⟨sees_at hu (by omega) (nat_at (by omega) hpl), sees_at hsz hpln hy, sees_at hsp (by omega) hd, hB1, hB2⟩
  have e1 : ((La + 1 : Nat) : Int) - 1 = (La : Int) := by omega
  clear hr hsz hsp hu hq hqa hpl hy hd hB1 hB2 hqm hLa
  go_enter Try.func111, Try.ntmps111
  go_wp2
  clear e1
  go_loopw [11] (fun iv wr => ∃ i : Nat, i ≤ La ∧ iv = .int .i64 i ∧ Hid (∀ k, k < i → (zs.getD (q.getD k 0) 0 < zs.getD (q.getD La 0) 0 ↔ pat.getD k 0 < pat.getD La 0)) ∧ Drawn W wr) (fun i _ => La - (intOf i).toNat)
  case atStart => exact ⟨0, Nat.zero_le _, rfl, Go.Lib.hid (fun k hk => absurd hk (by omega)), Drawn.refl _⟩
  case round =>
    obtain ⟨i, hi, rfl, HA, HD⟩ := hrel
    by_cases hlt : i < La
    · obtain ⟨p, hp, hpn⟩ := HQA.out i (by omega)
      obtain ⟨x, hx⟩ : ∃ x, zs.getD p 0 = x := ⟨_, rfl⟩
      obtain ⟨c, hc⟩ : ∃ c, pat.getD i 0 = c := ⟨_, rfl⟩
      have h1 : wr.cell? ⟨qb, qo + i, none⟩ = some (.int .i64 (p : Int)) := (HD.cell _).trans (sees_at HV.out.2.2 (by omega) (nat_at (by have := HQ.out.1; omega) hp))
      have h2 : wr.cell? ⟨zb, zo + p, none⟩ = some (.int .i64 x) := (HD.cell _).trans (sees_at HV.out.1 hpn hx)
      have h3 : wr.cell? ⟨pb, po + i, none⟩ = some (.int .i64 c) := (HD.cell _).trans (sees_at HV.out.2.1 (by omega) hc)
      have h4 : wr.cell? ⟨qb, qo + La, none⟩ = some (.int .i64 (pl : Int)) := (HD.cell _).trans HCL.out.1
      have h5 : wr.cell? ⟨zb, zo + pl, none⟩ = some (.int .i64 y) := (HD.cell _).trans HCL.out.2.1
      have h6 : wr.cell? ⟨pb, po + La, none⟩ = some (.int .i64 d) := (HD.cell _).trans HCL.out.2.2.1
      have h7 : wr.cell? ⟨B1, 0, none⟩ = some (.slice (some ⟨zb, zo, none⟩) n zc) := (HD.cell _).trans HCL.out.2.2.2.1
      have h8 : wr.cell? ⟨B2, 0, none⟩ = some (.slice (some ⟨pb, po, none⟩) m pc) := (HD.cell _).trans HCL.out.2.2.2.2
      have b1 : (i : Int) < (La : Int) := by omega
      have b2 : (i : Int) < ((La : Int) + 1) := by omega
      have b3 : (La : Int) < ((La : Int) + 1) := by omega
      have b4 : (p : Int) < (n : Int) := by omega
      have b5 : (pl : Int) < (n : Int) := by omega
      have b6 : (i : Int) < (m : Int) := by omega
      have b7 : (La : Int) < (m : Int) := by omega
      have HN : Hid ((x < y ↔ c < d) → ∀ k, k < i + 1 → (zs.getD (q.getD k 0) 0 < zs.getD (q.getD La 0) 0 ↔ pat.getD k 0 < pat.getD La 0)) := Go.Lib.hid (fun h k hk => by
        by_cases hki : k = i
        · subst hki
          rw [hp, hx, HY.out.1, HY.out.2.1, hc, HY.out.2.2]; exact h
        · exact HA.out k (by omega))
      have HNR : Hid (¬ (x < y ↔ c < d) → r = false) := Go.Lib.hid (fun h => by
        rw [← HR.out, Bool.eq_false_iff]
        intro hf
        rw [fits_iff] at hf
        have h2 := hf i (by have := HQ.out.1; omega)
        rw [show q.length - 1 = La by have := HQ.out.1; omega, hp, hx, HY.out.1, HY.out.2.1, hc, HY.out.2.2] at h2
        exact h h2)
      clear hp hx hc
      by_cases hxy : x < y
      · by_cases hcd : c < d
        · have hd1 : decide (x < y) = true := decide_eq_true hxy
          have hd2 : decide (c < d) = true := decide_eq_true hcd
          have HN2 := Go.Lib.hid (HN.out ⟨fun _ => hcd, fun _ => hxy⟩)
          go_wp2
          go_quiet (fail)
          go_wp2
          go_roundw
          case rel => exact ⟨i + 1, by omega, by go_num, HN2, HD.next _⟩
          case measure => simp [intOf]; omega
        · have hd1 : decide (x < y) = true := decide_eq_true hxy
          have hd2 : decide (c < d) = false := decide_eq_false hcd
          have HR2 := Go.Lib.hid (HNR.out (fun h => hcd (h.1 hxy)))
          go_wp2
          go_quiet (fail)
          go_wp2
          go_ret
          exact ⟨by rw [HR2.out]; rfl, HD.next _⟩
      · by_cases hcd : c < d
        · have hd1 : decide (x < y) = false := decide_eq_false hxy
          have hd2 : decide (c < d) = true := decide_eq_true hcd
          have HR2 := Go.Lib.hid (HNR.out (fun h => hxy (h.2 hcd)))
          go_wp2
          go_quiet (fail)
          go_wp2
          go_ret
          exact ⟨by rw [HR2.out]; rfl, HD.next _⟩
        · have hd1 : decide (x < y) = false := decide_eq_false hxy
          have hd2 : decide (c < d) = false := decide_eq_false hcd
          have HN2 := Go.Lib.hid (HN.out ⟨fun h => absurd h hxy, fun h => absurd h hcd⟩)
          go_wp2
          go_quiet (fail)
          go_wp2
          go_roundw
          case rel => exact ⟨i + 1, by omega, by go_num, HN2, HD.next _⟩
          case measure => simp [intOf]; omega
    · have hiL : i = La := by omega
      have HR2 : Hid (r = true) := Go.Lib.hid (by
        rw [← HR.out, fits_iff]
        intro k hk
        rw [show q.length - 1 = La by have := HQ.out.1; omega] at hk ⊢
        exact HA.out k (by omega))
      subst hiL
      go_wp2
      go_ret
      exact ⟨by rw [HR2.out]; rfl, HD⟩

set_option maxRecDepth 100000 in
set_option maxHeartbeats 1000000 in
theorem beginsOf_any (a1 a2 : Option Addr) (n1 n2 c1 c2 : Nat) (W : World) :
    Calls Try.prog 106 #[.slice a1 n1 c1, .slice a2 n2 c2] W fun e w' => e = .returned (.func (.func 111) #[] #[.pointer (some ⟨W.heap.size, 0, none⟩), .pointer (some ⟨W.heap.size + 1, 0, none⟩)]) ∧ w' = (W.alloc (.cells #[.slice a1 n1 c1] 24)).alloc (.cells #[.slice a2 n2 c2] 24) := by
  go_enter Try.func106, Try.ntmps106
  go_wp2
  go_ret
  exact ⟨rfl, rfl⟩

theorem cell_new (W : World) (v : Value) (t : TypeId) : (W.alloc (.cells #[v] t)).cell? ⟨W.heap.size, 0, none⟩ = some v := by
  have := cell_one_new W v t 0 v rfl
  have e0 : (⟨W.heap.size, 0, none⟩ : Addr).add 0 = ⟨W.heap.size, 0, none⟩ := by unfold Addr.add; split <;> simp_all
  rwa [e0] at this

set_option maxRecDepth 100000 in
set_option maxHeartbeats 2000000 in
theorem patternPlaces_any (zs pat : List Int) (hz : zs.Nodup) (hn1 : 1 ≤ zs.length) (hn7 : zs.length ≤ 7) (hp : Ord pat) (W : World) (v u : Value) (n m : Nat) (hv : Sees W v n (vals zs)) (hu : Sees W u m (vals pat)) :
    Calls Try.prog 93 #[v, u] W fun e w' => ∃ r, e = .returned r ∧ Lists w' W.heap.size m r ((placesOf zs pat).map nv) ∧ Below W.heap.size W w' := by
  have hl : zs.length = n := by simpa using hv.1
  have hlm : pat.length = m := by simpa using hu.1
  have hm1 : 1 ≤ m := by have := hp.1; omega
  have hm7 : m ≤ 7 := by have := hp.2.1; omega
  obtain ⟨zb, zo, zc, rfl, _, _, _, _⟩ := sees_cells hv (by omega)
  obtain ⟨pb, po, pc, rfl, _, _, _, _⟩ := sees_cells hu (by omega)
  have HP : Hid (lev n m (fits zs pat) m = placesOf zs pat) := Go.Lib.hid (by have := lev_places hz hp; rwa [hl, hlm] at this)
  have HB : Hid (Below W.heap.size W ((W.alloc (.cells #[.slice (some ⟨zb, zo, none⟩) n zc] 24)).alloc (.cells #[.slice (some ⟨pb, po, none⟩) m pc] 24))) := Go.Lib.hid (((Below.refl _ _).alloc (Nat.le_refl _) _).alloc (by simp) _)
  have CB := Go.Lib.hid (beginsOf_any (some ⟨zb, zo, none⟩) (some ⟨pb, po, none⟩) n m zc pc W)
  obtain ⟨w1, hw1⟩ : ∃ w1, (W.alloc (.cells #[.slice (some ⟨zb, zo, none⟩) n zc] 24)).alloc (.cells #[.slice (some ⟨pb, po, none⟩) m pc] 24) = w1 := ⟨_, rfl⟩
  rw [hw1] at HB CB
  have hb1 : w1.cell? ⟨W.heap.size, 0, none⟩ = some (.slice (some ⟨zb, zo, none⟩) n zc) := by
    rw [← hw1]
    have h0 := cell_new W (.slice (some ⟨zb, zo, none⟩) n zc) 24
    have h1 := ((Below.refl (W.alloc (.cells #[.slice (some ⟨zb, zo, none⟩) n zc] 24)).heap.size (W.alloc (.cells #[.slice (some ⟨zb, zo, none⟩) n zc] 24))).alloc (Nat.le_refl _) (.cells #[.slice (some ⟨pb, po, none⟩) m pc] 24)).cell (p := ⟨W.heap.size, 0, none⟩) (by simp)
    exact h1.trans h0
  have hb2 : w1.cell? ⟨W.heap.size + 1, 0, none⟩ = some (.slice (some ⟨pb, po, none⟩) m pc) := by
    rw [← hw1]
    have h0 := cell_new (W.alloc (.cells #[.slice (some ⟨zb, zo, none⟩) n zc] 24)) (.slice (some ⟨pb, po, none⟩) m pc) 24
    rw [World.size_alloc] at h0
    exact h0
  have hsz : w1.heap.size = W.heap.size + 2 := by rw [← hw1]; simp
  have CP := Go.Lib.hid (placeLists_any n m (by omega) hm7 111 #[.pointer (some ⟨W.heap.size, 0, none⟩), .pointer (some ⟨W.heap.size + 1, 0, none⟩)] (fits zs pat) w1 (run_enter Try.func111 (by kernel_rfl) rfl) (fun W' u' q hb hq1 hqc hqn hs => by
    obtain ⟨La, hLa⟩ : ∃ La, q.length = La + 1 := ⟨q.length - 1, by omega⟩
    rw [hLa] at hs
    have hs2 := hs
    obtain ⟨qb, qo, qc, rfl, _, _, _, _⟩ := sees_cells hs2 (by omega)
    exact begins_any zs pat q W' zb zo zc pb po pc qb qo qc W.heap.size (W.heap.size + 1) n m La hLa hqn hqc hm7 ((hb.cell (p := ⟨W.heap.size, 0, none⟩) (by show W.heap.size < _; omega)).trans hb1) ((hb.cell (p := ⟨W.heap.size + 1, 0, none⟩) (by show W.heap.size + 1 < _; omega)).trans hb2) ((hv.grow HB.out).grow hb) ((hu.grow HB.out).grow hb) hs))
  rw [HP.out] at CP
  clear hw1 hb1 hb2 hsz hv hu
  go_enter Try.func93, Try.ntmps93
  go_wp2_with fail
  refine (CB.out).mono ?_
  rintro e _ ⟨rfl, rfl⟩
  go_wp2_with fail
  refine (CP.out).mono ?_
  rintro e w2 ⟨r, rfl, hL, hb⟩
  have H := Go.Lib.hid (And.intro (hL.lower HB.out.size) (HB.out.trans (hb.mono HB.out.size)))
  clear hL hb
  go_wp2_with fail
  go_ret
  exact ⟨r, rfl, H.out.1, H.out.2⟩

/-- The value of owned lists. -/
theorem lists_value {w : World} {base n : Nat} {v : Value} {L : List (List Value)} (h : Lists w base n v L) : ∃ a c, v = .slice a L.length c := by
  obtain ⟨gs, _, h2, _, _, _⟩ := h
  rcases h2.2 with ⟨rfl, h0⟩ | ⟨g, cap, cur, rfl, _⟩
  · rw [h0]; exact ⟨none, 0, rfl⟩
  · exact ⟨_, _, rfl⟩

theorem places_many {zs pat : List Int} (hn : zs.length ≤ 7) (hp : Ord pat) : (placesOf zs pat).length ≤ 823543 :=
  Nat.le_trans (List.length_filter_le _ _) (ch_823543 hn hp.2.1)

set_option maxRecDepth 100000 in
theorem contains_any (zs pat : List Int) (r : Bool) (hz : zs.Nodup) (hn1 : 1 ≤ zs.length) (hn7 : zs.length ≤ 7) (hp : Ord pat) (hr : has zs pat = r) (W : World) (v u : Value) (n m : Nat) (hv : Sees W v n (vals zs)) (hu : Sees W u m (vals pat)) :
    Calls Try.prog 69 #[v, u] W fun e w' => e = .returned (.bool r) ∧ Below W.heap.size W w' := by
  have CP := Go.Lib.hid (patternPlaces_any zs pat hz hn1 hn7 hp W v u n m hv hu)
  have hv2 := hv
  have hu2 := hu
  obtain ⟨_, a1, c1, rfl, _, _⟩ := hv2
  obtain ⟨_, a2, c2, rfl, _, _⟩ := hu2
  obtain ⟨N, hN⟩ : ∃ N, (placesOf zs pat).length = N := ⟨_, rfl⟩
  have hNb : N ≤ 823543 := by rw [← hN]; exact places_many hn7 hp
  have HR : Hid (r = decide (0 < N)) := Go.Lib.hid (by rw [← hr, ← hN]; rfl)
  have HN := Go.Lib.hid hN
  clear hN hr hv hu hz hp
  go_enter Try.func69, Try.ntmps69
  go_wp2_with fail
  refine (CP.out).mono ?_
  rintro e w2 ⟨rv, rfl, hL, hb⟩
  obtain ⟨a, c, rfl⟩ := lists_value hL
  rw [List.length_map, HN.out]
  have H := Go.Lib.hid hb
  clear hL hb
  by_cases h0 : 0 < N
  · have h0i : (0 : Int) < (N : Int) := by omega
    go_wp2_with fail
    go_ret
    exact ⟨by rw [HR.out]; simp [h0], H.out⟩
  · have h0i : ¬ (0 : Int) < (N : Int) := by omega
    go_wp2_with fail
    go_ret
    exact ⟨by rw [HR.out]; simp [h0], H.out⟩

end Go.Proofs.Ytekihdnkkeggjaa.HasC

/-
  Contracts: the model's places of a pattern, and whether a list contains it. Conditions: lists of at most 7 different numbers, patterns that are orders.
-/
namespace Go.Proofs.Ytekihdnkkeggjaa.SpecPlC
open Go.RowKit SeesC IntsC ExactC OrdMath InC OrderC PatMath ShapeC ListsC ListsEC ListsFC ListsGC PlacesC Own1C AppendTwoC SameC GoesC ChoicesC HasC

/-- Owned lists, their rows told. -/
def With (w : World) (base n : Nat) (v : Value) (L : List (List Value)) (gs : List (Nat × Nat)) : Prop :=
  gs.length = L.length ∧ w.ownsRow base 24 1 v L.length (gs.map (sl n)) ∧ (∀ i, i < L.length → w.ownsRow base 3 1 (sl n (gs.getD i (0, 0))) n (L.getD i [])) ∧ (gs.map (·.1)).Nodup

theorem With.lists {w : World} {base n : Nat} {v : Value} {L : List (List Value)} {gs : List (Nat × Nat)} (h : With w base n v L gs) : Lists w base n v L := by
  obtain ⟨h1, h2, h3, h4⟩ := h
  refine ⟨gs, h1, h2, h3, h4, fun p hp e => ?_⟩
  obtain ⟨i, hi, hir⟩ := mem_at hp
  have h5 := h3 i (by omega)
  rw [hir] at h5
  exact own_types h2 h5 (by decide) e rfl

theorem Lists.with {w : World} {base n : Nat} {v : Value} {L : List (List Value)} (h : Lists w base n v L) : ∃ gs, With w base n v L gs := by
  obtain ⟨gs, h1, h2, h3, h4, _⟩ := h
  exact ⟨gs, h1, h2, h3, h4⟩

theorem With.kept {w w' : World} {base n : Nat} {v : Value} {L : List (List Value)} {gs : List (Nat × Nat)} (h : With w base n v L gs) (hb : Below w.heap.size w w') : With w' base n v L gs := by
  obtain ⟨h1, h2, h3, h4⟩ := h
  exact ⟨h1, kept_call h2 hb, fun i hi => kept_call (h3 i hi) hb, h4⟩

theorem with_snoc {X X' : World} {base n : Nat} {v v5 : Value} {gs : List (Nat × Nat)} {p : Nat × Nat} {L : List (List Value)} {q : List Value}
    (h : With X base n v L gs) (hp : X.ownsRow base 3 1 (sl n p) n q) (hfresh : ∀ r ∈ gs, r.1 ≠ p.1)
    (ho5 : X'.ownsRow base 24 1 v5 (L.length + 1) (gs.map (sl n) ++ [sl n p])) (hgrow : X.grownBy X' v.ownBlock) : With X' base n v5 (L ++ [q]) (gs ++ [p]) := by
  obtain ⟨h1, h2, h3, h4⟩ := h
  refine ⟨by simp [h1], by rw [List.length_append, List.map_append]; exact ho5, ?_, ?_⟩
  · intro i hi
    rw [List.length_append] at hi
    by_cases h : i < L.length
    · rw [getD_left (by omega), getD_left h]
      exact own_mark (h3 i h) hgrow (fun a ha e => own_types h2 (h3 i h) (by decide) e ha)
    · have hi2 : i = L.length := by simp at hi; omega
      subst hi2
      rw [getD_right (by omega), getD_right (Nat.le_refl _), h1, Nat.sub_self]
      exact own_mark hp hgrow (fun a ha e => own_types h2 hp (by decide) e ha)
  · rw [List.map_append, List.nodup_append]
    refine ⟨h4, by simp, ?_⟩
    intro a ha b hb e
    simp at hb
    subst hb
    obtain ⟨r, hr, rfl⟩ := List.mem_map.1 ha
    exact hfresh r hr e

theorem with_mark {w w' : World} {row : Option Nat} {base n : Nat} {v : Value} {L : List (List Value)} {gs : List (Nat × Nat)} (h : With w base n v L gs) (hg : w.grownBy w' row) (hv : ∀ a, row = some a → v.ownBlock ≠ some a) (hin : ∀ a, row = some a → ∀ i, i < L.length → (gs.getD i (0, 0)).1 ≠ a) : With w' base n v L gs := by
  obtain ⟨h1, h2, h3, h4⟩ := h
  exact ⟨h1, own_mark h2 hg (fun a ha e => hv a e ha), fun i hi => own_mark (h3 i hi) hg (fun a ha e => hin a e i hi (Option.some.inj ha)), h4⟩

theorem filter_next {α : Type} (f : α → Bool) {l : List α} {i : Nat} (h : i < l.length) : (l.take (i + 1)).filter f = (l.take i).filter f ++ (if f l[i] = true then [l[i]] else []) := by
  rw [List.take_succ_eq_append_getElem h, List.filter_append]
  simp [List.filter_cons]

end Go.Proofs.Ytekihdnkkeggjaa.SpecPlC

/-
  Contracts: the model and the program put a last number behind an order. Conditions: the list can be read and has at most 2^20 numbers.
-/
namespace Go.Proofs.Ytekihdnkkeggjaa.InsertC
open Go.RowKit SeesC IntsC ExactC OrdMath InC OrderC PatMath ShapeC

/-- The number behind an insertion. -/
def up (k z : Int) : Int := if k ≤ z then z + 1 else z

theorem ins_up (zs : List Int) (k : Int) : ins zs k = zs.map (up k) ++ [k] := rfl

theorem up_at {zs : List Int} {i : Nat} {k z : Int} (h : i < zs.length) (hz : zs.getD i 0 = z) : (zs.map (up k)).getD i 0 = up k z := by
  rw [← hz]; simp [h]

theorem vals_snoc (zs : List Int) (k : Int) : vals (zs ++ [k]) = vals zs ++ [.int .i64 k] := by simp

end Go.Proofs.Ytekihdnkkeggjaa.InsertC

/-
  Contracts: which lists of patterns are valid, and whether an order avoids all of some patterns; AvoidsAll, CountChildren of the model and of the program. Conditions: at most 2^20 numbers together.
-/
namespace Go.Proofs.Ytekihdnkkeggjaa.AvoidC
open Go.RowKit SeesC IntsC ExactC OrdMath OrdFacts InC OrderC PatMath ShapeC InsertC ListsC ListsEC ListsFC PlacesC HasC SpecPlC LLC

/-- Patterns are valid, and not too many. -/
def pats (L : List (List Int)) : Bool := decide (L.length ≤ 4 ∧ ∀ p ∈ L, Ord p)

theorem pats_iff {L : List (List Int)} : pats L = true ↔ L.length ≤ 4 ∧ ∀ p ∈ L, Ord p := by unfold pats; rw [decide_eq_true_eq]

theorem pats_many {L : List (List Int)} (h : 4 < L.length) : pats L = false := by
  rw [Bool.eq_false_iff]; intro h2; have := (pats_iff.1 h2).1; omega

theorem pats_bad {L : List (List Int)} {i : Nat} (hi : i < L.length) (h : isOrd (L.getD i []) = false) : pats L = false := by
  rw [Bool.eq_false_iff]; intro h2
  have := (pats_iff.1 h2).2 _ (getD_memL hi)
  exact (of_decide_eq_false h) this

theorem pats_yes {L : List (List Int)} (h1 : L.length ≤ 4) (h2 : ∀ i, i < L.length → isOrd (L.getD i []) = true) : pats L = true := by
  rw [pats_iff]
  refine ⟨h1, fun p hp => ?_⟩
  obtain ⟨i, hi, e⟩ := List.mem_iff_getElem.1 hp
  have := h2 i hi
  have e2 : L.getD i [] = p := by rw [← e]; simp [hi]
  rw [e2] at this
  exact of_decide_eq_true this

def avoids (zs : List Int) (L : List (List Int)) : Bool := L.all (fun p => !has zs p)

theorem avoids_no {zs : List Int} {L : List (List Int)} {i : Nat} (hi : i < L.length) (h : has zs (L.getD i []) = true) : avoids zs L = false := by
  rw [Bool.eq_false_iff]; intro h2
  unfold avoids at h2
  rw [List.all_eq_true] at h2
  have := h2 _ (getD_memL hi)
  rw [h] at this
  cases this

theorem avoids_yes {zs : List Int} {L : List (List Int)} (h : ∀ i, i < L.length → has zs (L.getD i []) = false) : avoids zs L = true := by
  unfold avoids
  rw [List.all_eq_true]
  intro p hp
  obtain ⟨i, hi, e⟩ := List.mem_iff_getElem.1 hp
  have := h i hi
  have e2 : L.getD i [] = p := by rw [← e]; simp [hi]
  rw [e2] at this
  rw [this]; rfl

end Go.Proofs.Ytekihdnkkeggjaa.AvoidC

/-
  Contracts: AvoidsAll, CountChildren of the model and of the program. Conditions: at most 2^20 numbers together.
-/
namespace Go.Proofs.Ytekihdnkkeggjaa.PubBC
open Go.RowKit SeesC IntsC ExactC OrdMath OrdFacts InC OrderC PatMath ShapeC InsertC ListsC ListsEC ListsFC PlacesC HasC SpecPlC LLC AvoidC

def avoidsAns (zs : List Int) (L : List (List Int)) : Bool × Bool := if Ord zs ∧ pats L = true then (avoids zs L, true) else (false, false)

/-- For how many of the first k numbers the order with it behind avoids all. -/
def kids (zs : List Int) (L : List (List Int)) : Nat → Nat
  | 0 => 0
  | k + 1 => kids zs L k + (if avoids (ins zs ((k : Int) + 1)) L = true then 1 else 0)

theorem kids_le (zs : List Int) (L : List (List Int)) : ∀ k, kids zs L k ≤ k := by
  intro k
  induction k with
  | zero => simp [kids]
  | succ k ih => unfold kids; split <;> omega

def childrenAns (zs : List Int) (L : List (List Int)) : Int × Bool := if Ord zs ∧ zs.length ≠ 7 ∧ pats L = true then ((kids zs L (zs.length + 1) : Nat), true) else (0, false)

theorem ins_nodup {zs : List Int} (h : zs.Nodup) (k : Int) : (ins zs k).Nodup := by
  unfold ins
  rw [List.nodup_append]
  refine ⟨?_, by simp, ?_⟩
  · rw [List.nodup_iff_pairwise_ne, List.pairwise_map]
    refine List.Pairwise.imp ?_ (List.nodup_iff_pairwise_ne.1 h)
    intro a b hab
    split <;> split <;> omega
  · intro x hx y hy e
    simp at hy
    obtain ⟨z, _, rfl⟩ := List.mem_map.1 hx
    split at e <;> omega

theorem ins_ord {zs : List Int} (h : Ord zs) (h7 : zs.length ≠ 7) {k : Int} (h1 : 1 ≤ k) (h2 : k ≤ (zs.length : Int) + 1) : Ord (ins zs k) := by
  refine ⟨by rw [ins_len]; omega, by rw [ins_len]; have := h.2.1; omega, ?_, ins_nodup h.2.2.2 k⟩
  intro z hz
  rw [ins_len]
  unfold ins at hz
  rw [List.mem_append] at hz
  rcases hz with hz | hz
  · obtain ⟨y, hy, rfl⟩ := List.mem_map.1 hz
    have := h.2.2.1 y hy
    split <;> omega
  · simp at hz
    omega

end Go.Proofs.Ytekihdnkkeggjaa.PubBC

/-
  The mathematics of orders that avoid patterns: those made by insertion are those of all orders; the least one is the first. Conditions: none. Plain facts: nothing of the program.
-/
namespace Go.Proofs.Ytekihdnkkeggjaa.AvMath
open OrdMath OrdFacts PatMath DropMath InsertC CmpC ListsBC AvoidC PubBC

theorem up_lt {k a b : Int} : up k a < up k b ↔ a < b := by unfold up; split <;> split <;> omega
theorem up_inj {k a b : Int} (h : up k a = up k b) : a = b := by unfold up at h; split at h <;> split at h <;> omega

theorem alike_up (k : Int) (ys : List Int) : PatMath.Alike (ys.map (up k)) ys := by
  refine ⟨by simp, fun i j hi hj => ?_⟩
  have hi2 : i < ys.length := by simpa using hi
  have hj2 : j < ys.length := by simpa using hj
  rw [up_at hi2 rfl, up_at hj2 rfl]
  exact up_lt

theorem pick_ins {x : List Int} {k : Int} {q : List Nat} (hq : ∀ p ∈ q, p < x.length) : pick (ins x k) q = (pick x q).map (up k) := by
  unfold pick
  rw [List.map_map]
  apply List.map_congr_left
  intro p hp
  have h := hq p hp
  show (ins x k).getD p 0 = up k (x.getD p 0)
  rw [ins_up, List.getD_eq_getElem?_getD, List.getElem?_append_left (by simpa using h), ← List.getD_eq_getElem?_getD, up_at h rfl]

theorem has_ins {x p : List Int} {k : Int} (h : has x p = true) : has (ins x k) p = true := by
  obtain ⟨q, hq, e⟩ := has_iff.1 h
  have ha := ch_asc _ _ (asc_nil _) q hq
  have hl := (ch_pre _ _ q hq).1
  have hm : q ∈ ch (ins x k).length p.length [] := by
    have h1 := mem_ch (n := (ins x k).length) p.length [] q ⟨ha.1, fun y hy => by rw [ins_len]; exact Nat.lt_succ_of_lt (ha.2 y hy)⟩ (by simpa using hl)
    exact h1
  refine has_iff.2 ⟨q, hm, ?_⟩
  rw [pick_ins ha.2, alike_shp (alike_up k _), e]

theorem avoids_ins {x : List Int} {k : Int} {L : List (List Int)} (h : avoids (ins x k) L = true) : avoids x L = true := by
  unfold avoids at *
  rw [List.all_eq_true] at *
  intro p hp
  have h1 := h p hp
  cases hx : has x p with
  | false => rfl
  | true => rw [has_ins hx] at h1; exact h1

/-- A list of the numbers 1 to n. -/
def OrdN (n : Nat) (zs : List Int) : Prop := zs.length = n ∧ (∀ z ∈ zs, 1 ≤ z ∧ z ≤ (n : Int)) ∧ zs.Nodup

theorem OrdN.ord {n : Nat} {zs : List Int} (h : OrdN n zs) (h1 : 1 ≤ n) (h7 : n ≤ 7) : Ord zs :=
  ⟨by rw [h.1]; exact h1, by rw [h.1]; exact h7, fun z hz => by rw [h.1]; exact h.2.1 z hz, h.2.2⟩

theorem ordN_of {zs : List Int} (h : Ord zs) : OrdN zs.length zs := ⟨rfl, h.2.2.1, h.2.2.2⟩

theorem ins_ordN {n : Nat} {x : List Int} {k : Int} (h : OrdN n x) (h1 : 1 ≤ k) (h2 : k ≤ (n : Int) + 1) : OrdN (n + 1) (ins x k) := by
  refine ⟨by rw [ins_len, h.1], fun z hz => ?_, ins_nodup h.2.2 k⟩
  unfold ins at hz
  rw [List.mem_append] at hz
  rcases hz with hz | hz
  · obtain ⟨y, hy, rfl⟩ := List.mem_map.1 hz
    have := h.2.1 y hy
    split <;> omega
  · simp at hz
    omega

def down (k z : Int) : Int := if k < z then z - 1 else z

theorem up_down {k z : Int} (h : z ≠ k) : up k (down k z) = z := by unfold up down; split <;> split <;> omega

theorem ordN_last {n : Nat} {zs : List Int} (h : OrdN (n + 1) zs) : ∃ x k, zs = ins x k ∧ OrdN n x ∧ 1 ≤ k ∧ k ≤ (n : Int) + 1 := by
  obtain ⟨hl, hr, hn⟩ := h
  have hne : zs ≠ [] := fun e => by rw [e] at hl; simp at hl
  obtain ⟨y, k, rfl⟩ : ∃ y k, zs = y ++ [k] := ⟨zs.dropLast, zs.getLast hne, (List.dropLast_concat_getLast hne).symm⟩
  have hyl : y.length = n := by simpa using hl
  rw [List.nodup_append] at hn
  have hk := hr k (by simp)
  have hyk : ∀ z ∈ y, z ≠ k := fun z hz e => hn.2.2 z hz k (by simp) e
  have e1 : (y.map (down k)).map (up k) = y := by
    rw [List.map_map]
    conv => rhs; rw [← List.map_id y]
    exact List.map_congr_left (fun z hz => up_down (hyk z hz))
  refine ⟨y.map (down k), k, by rw [ins_up, e1], ⟨by simp [hyl], fun z hz => ?_, ?_⟩, hk.1, by omega⟩
  · obtain ⟨a, ha, rfl⟩ := List.mem_map.1 hz
    have h1 := hr a (by simp [ha])
    have h2 := hyk a ha
    unfold down
    split <;> omega
  · have h3 : ((y.map (down k)).map (up k)).Nodup := by rw [e1]; exact hn.1
    exact List.Pairwise.of_map (up k) (fun a b hab e => hab (by rw [e])) h3

theorem ins_inj {x y : List Int} {k l : Int} (h : ins x k = ins y l) : x = y ∧ k = l := by
  rw [ins_up, ins_up] at h
  have h2 := List.append_inj' h rfl
  have e : k = l := by simpa using h2.2
  subst e
  exact ⟨(List.map_inj_right (fun a b hab => up_inj hab)).1 h2.1, rfl⟩

/-- Those that an order has one number more. -/
def chil (L : List (List Int)) (i : Nat) (x : List Int) : List (List Int) := ((List.range (i + 1)).map (fun (k : Nat) => ins x ((k : Int) + 1))).filter (fun y => avoids y L)

def av (L : List (List Int)) : Nat → List (List Int)
  | 0 => [[]]
  | i + 1 => (av L i).flatMap (chil L i)

theorem mem_av {L : List (List Int)} : ∀ {n : Nat} {zs : List Int}, zs ∈ av L n ↔ OrdN n zs ∧ (n = 0 ∨ avoids zs L = true) := by
  intro n
  induction n with
  | zero =>
    intro zs
    constructor
    · intro h
      have e : zs = [] := by simpa [av] using h
      subst e
      exact ⟨⟨rfl, by simp, by simp⟩, .inl rfl⟩
    · rintro ⟨⟨h, _⟩, _⟩
      have e : zs = [] := List.eq_nil_of_length_eq_zero h
      simp [av, e]
  | succ n ih =>
    intro zs
    show zs ∈ (av L n).flatMap (chil L n) ↔ _
    rw [List.mem_flatMap]
    constructor
    · rintro ⟨x, hx, hz⟩
      unfold chil at hz
      rw [List.mem_filter] at hz
      obtain ⟨k, hk, rfl⟩ := List.mem_map.1 hz.1
      rw [List.mem_range] at hk
      exact ⟨ins_ordN (ih.1 hx).1 (by omega) (by omega), .inr hz.2⟩
    · rintro ⟨ho, ha⟩
      obtain ⟨x, k, rfl, hx, h1, h2⟩ := ordN_last ho
      have ha2 : avoids (ins x k) L = true := by
        rcases ha with h | h
        · omega
        · exact h
      refine ⟨x, ih.2 ⟨hx, .inr (avoids_ins ha2)⟩, ?_⟩
      unfold chil
      rw [List.mem_filter]
      refine ⟨List.mem_map.2 ⟨(k - 1).toNat, by rw [List.mem_range]; omega, ?_⟩, ha2⟩
      congr 1
      omega

theorem nodup_av (L : List (List Int)) : ∀ n, (av L n).Nodup := by
  intro n
  induction n with
  | zero => simp [av]
  | succ n ih =>
    show ((av L n).flatMap (chil L n)).Pairwise (· ≠ ·)
    rw [List.pairwise_flatMap]
    constructor
    · intro x _
      unfold chil
      apply List.Pairwise.filter
      rw [List.pairwise_map]
      refine List.Pairwise.imp ?_ (List.nodup_iff_pairwise_ne.1 (List.nodup_range (n := n + 1)))
      intro a b hab e
      have := (ins_inj e).2
      omega
    · refine List.Pairwise.imp ?_ (List.nodup_iff_pairwise_ne.1 ih)
      intro x y hxy u hu v hv e
      unfold chil at hu hv
      rw [List.mem_filter] at hu hv
      obtain ⟨k, _, rfl⟩ := List.mem_map.1 hu.1
      obtain ⟨l, _, rfl⟩ := List.mem_map.1 hv.1
      exact hxy (ins_inj e).1

/-! ### All orders -/
def allOrd (n : Nat) : List (List Int) := (List.range (fact n)).map (fun k => atRun n (iota n) k)

theorem mem_allOrd {n : Nat} {zs : List Int} (h1 : 1 ≤ n) (h7 : n ≤ 7) : zs ∈ allOrd n ↔ OrdN n zs := by
  unfold allOrd
  rw [List.mem_map]
  constructor
  · rintro ⟨k, hk, rfl⟩
    rw [List.mem_range] at hk
    have h := (rank_of_at h1 h7 hk).1
    have hl := atRun_len n (iota n) k
    have h2 := ordN_of h
    rw [hl] at h2
    exact h2
  · intro h
    have h2 := at_of_rank (h.ord h1 h7)
    rw [h.1] at h2
    exact ⟨_, List.mem_range.2 h2.1, h2.2⟩

theorem allOrd_ranks (n : Nat) : (allOrd n).Pairwise (fun a b => rankR a < rankR b) := by
  unfold allOrd
  rw [List.pairwise_map, List.pairwise_iff_getElem]
  intro i j hi hj hij
  have hi2 : i < fact n := by simpa using hi
  have hj2 : j < fact n := by simpa using hj
  rw [List.getElem_range, List.getElem_range, (rank_at n (iota n) i (iota_len n) (iota_sorted n) hi2).2, (rank_at n (iota n) j (iota_len n) (iota_sorted n) hj2).2]
  exact hij

def avOrd (n : Nat) (L : List (List Int)) : List (List Int) := (allOrd n).filter (fun y => avoids y L)

theorem mem_avOrd {n : Nat} {L : List (List Int)} {zs : List Int} (h1 : 1 ≤ n) (h7 : n ≤ 7) : zs ∈ avOrd n L ↔ zs ∈ av L n := by
  unfold avOrd
  rw [List.mem_filter, mem_allOrd h1 h7, mem_av]
  constructor
  · rintro ⟨a, b⟩; exact ⟨a, .inr b⟩
  · rintro ⟨a, b⟩
    refine ⟨a, ?_⟩
    rcases b with b | b
    · omega
    · exact b

theorem avOrd_ranks (n : Nat) (L : List (List Int)) : (avOrd n L).Pairwise (fun a b => rankR a < rankR b) := (allOrd_ranks n).filter _

theorem nodup_sub : ∀ {l m : List (List Int)}, l.Nodup → (∀ x ∈ l, x ∈ m) → l.length ≤ m.length
  | [], m, _, _ => by simp
  | a :: l, m, hn, hs => by
    have ha : a ∈ m := hs a (by simp)
    have hn2 := List.nodup_cons.1 hn
    have ih := nodup_sub (l := l) (m := m.erase a) hn2.2 (fun x hx => (List.mem_erase_of_ne (fun e => hn2.1 (by rw [← e]; exact hx))).2 (hs x (by simp [hx])))
    have h2 := List.length_erase_of_mem ha
    have h3 : 0 < m.length := List.length_pos_of_mem ha
    simp only [List.length_cons]
    omega

theorem av_count {n : Nat} {L : List (List Int)} (h1 : 1 ≤ n) (h7 : n ≤ 7) : (av L n).length = (avOrd n L).length := by
  have hn : (avOrd n L).Nodup := by
    refine List.Pairwise.imp ?_ (avOrd_ranks n L)
    intro a b h e
    rw [e] at h
    omega
  exact Nat.le_antisymm (nodup_sub (nodup_av L n) (fun x hx => (mem_avOrd h1 h7).2 hx)) (nodup_sub hn (fun x hx => (mem_avOrd h1 h7).1 hx))

theorem allOrd_len (n : Nat) : (allOrd n).length = fact n := by simp [allOrd]

theorem av_many {n : Nat} {L : List (List Int)} (h7 : n ≤ 7) : (av L n).length ≤ 5040 := by
  by_cases h1 : 1 ≤ n
  · rw [av_count h1 h7]
    exact Nat.le_trans (List.length_filter_le _ _) (by rw [allOrd_len]; exact fact_7 h7)
  · have : n = 0 := by omega
    subst this
    simp [av]

def countAvAns (n : Int) (L : List (List Int)) : Int × Bool := if 1 ≤ n ∧ n ≤ 7 ∧ pats L = true then (((avOrd n.toNat L).length : Nat), true) else (0, false)

/-! ### The first one -/
theorem rank_mono : ∀ (a b left : List Int), left.Pairwise (· < ·) → a.Perm left → b.Perm left → cmpL a b < 0 → rankR a < rankR b
  | [], b, left, _, ha, hb, h => by
    have : left = [] := by simpa using ha.symm
    subst this
    have : b = [] := by simpa using hb
    subst this
    exact absurd h (by simp [cmpL])
  | x :: a, [], left, _, ha, hb, _ => by
    have : left = [] := by simpa using hb.symm
    subst this
    exact absurd ha (by simp)
  | x :: a, y :: b, left, hp, ha, hb, h => by
    have hca : cl x a = cl x left := by rw [← cl_perm ha, cl_self]
    have hcb : cl y b = cl y left := by rw [← cl_perm hb, cl_self]
    have hlen : a.length = b.length := by have := ha.length_eq; have := hb.length_eq; simp at *; omega
    show cl x a * fact a.length + rankR a < cl y b * fact b.length + rankR b
    rw [hca, hcb, ← hlen]
    have hra := rankR_lt a
    unfold cmpL at h
    by_cases hxy : x < y
    · have hc : cl x left < cl y left := cl_lt_of_lt hxy (ha.mem_iff.1 (by simp))
      have h1 : (cl x left + 1) * fact a.length ≤ cl y left * fact a.length := Nat.mul_le_mul_right _ hc
      rw [Nat.add_mul] at h1
      omega
    · rw [if_neg hxy] at h
      by_cases hyx : y < x
      · rw [if_pos hyx] at h
        exact absurd h (by decide)
      · rw [if_neg hyx] at h
        have e : x = y := by omega
        subst e
        have h1 := sorted_at left x hp (ha.mem_iff.1 (by simp))
        have he := erase_perm h1.2
        rw [h1.1] at he
        have pa : a.Perm (left.eraseIdx (cl x left)) := (ha.trans he.symm).cons_inv
        have pb : b.Perm (left.eraseIdx (cl x left)) := (hb.trans he.symm).cons_inv
        have ih := rank_mono a b _ (hp.sublist (List.eraseIdx_sublist left _)) pa pb h
        omega

/-- The least of a list, from one on. -/
def least : List (List Int) → List Int → List Int
  | [], b => b
  | x :: t, b => least t (if cmpL x b < 0 then x else b)

theorem least_mem : ∀ (t : List (List Int)) (b : List Int), least t b = b ∨ least t b ∈ t
  | [], b => .inl rfl
  | x :: t, b => by
    unfold least
    rcases least_mem t (if cmpL x b < 0 then x else b) with h | h
    · rw [h]
      split
      · exact .inr (by simp)
      · exact .inl rfl
    · exact .inr (List.mem_cons_of_mem _ h)

theorem cmpL_ge_trans {a b c : List Int} (h1 : ¬ cmpL a b < 0) (h2 : ¬ cmpL b c < 0) : ¬ cmpL a c < 0 := by
  intro h
  have n1 := cmpL_neg a b
  have n2 := cmpL_neg b c
  by_cases e1 : cmpL a b = 0
  · have := cmpL_eq _ _ e1; subst this; exact h2 h
  by_cases e2 : cmpL b c = 0
  · have := cmpL_eq _ _ e2; subst this; exact h1 h
  have h3 := cmpL_lt_trans c b a (by omega) (by omega)
  have n3 := cmpL_neg a c
  omega

theorem least_min : ∀ (t : List (List Int)) (b : List Int), ∀ x ∈ b :: t, ¬ cmpL x (least t b) < 0
  | [], b, x, hx => by
    have : x = b := by simpa using hx
    subst this
    show ¬ cmpL x x < 0
    rw [cmpL_same]
    decide
  | y :: t, b, x, hx => by
    have ih := least_min t (if cmpL y b < 0 then y else b)
    show ¬ cmpL x (least t (if cmpL y b < 0 then y else b)) < 0
    have hm := ih (if cmpL y b < 0 then y else b) (by simp)
    rcases List.mem_cons.1 hx with rfl | hx
    · refine cmpL_ge_trans ?_ hm
      split
      · rename_i h
        intro h2
        have := cmpL_neg x y
        omega
      · rw [cmpL_same]; decide
    · rcases List.mem_cons.1 hx with rfl | hx
      · refine cmpL_ge_trans ?_ hm
        split
        · rw [cmpL_same]; decide
        · assumption
      · exact ih x (by simp [hx])

theorem ordN_perm {n : Nat} {zs : List Int} (h : OrdN n zs) : zs.Perm (iota n) :=
  perm_of_sub _ _ h.2.2 (fun x hx => mem_iota.2 (h.2.1 x hx)) (by rw [iota_len, h.1]; exact Nat.le_refl _)

theorem least_first {n : Nat} {L : List (List Int)} {h : List Int} {t : List (List Int)} (h1 : 1 ≤ n) (h7 : n ≤ 7) (hav : av L n = h :: t) : ∃ t', avOrd n L = least t h :: t' := by
  have hmem : least t h ∈ av L n := by
    rw [hav]
    rcases least_mem t h with e | e
    · rw [e]; simp
    · exact List.mem_cons_of_mem _ e
  have hm2 := (mem_avOrd h1 h7).2 hmem
  cases hao : avOrd n L with
  | nil => rw [hao] at hm2; simp at hm2
  | cons f t' =>
    refine ⟨t', ?_⟩
    have hf : f ∈ av L n := (mem_avOrd h1 h7).1 (by rw [hao]; simp)
    have hmin := least_min t h f (by rw [← hav]; exact hf)
    by_cases e : f = least t h
    · rw [e]
    · exfalso
      rw [hao] at hm2
      rcases List.mem_cons.1 hm2 with e2 | hin
      · exact e e2.symm
      · have hr := avOrd_ranks n L
        rw [hao, List.pairwise_cons] at hr
        have hlt := hr.1 _ hin
        by_cases hc : cmpL (least t h) f < 0
        · have := rank_mono _ _ (iota n) (iota_sorted n) (ordN_perm (mem_av.1 hmem).1) (ordN_perm (mem_av.1 hf).1) hc
          omega
        · have n1 := cmpL_neg f (least t h)
          have : cmpL f (least t h) = 0 := by omega
          exact e (cmpL_eq _ _ this)

theorem av_nil {n : Nat} {L : List (List Int)} (h1 : 1 ≤ n) (h7 : n ≤ 7) : av L n = [] ↔ avOrd n L = [] := by
  rw [← List.length_eq_zero_iff, av_count h1 h7, List.length_eq_zero_iff]

def firstAvAns (n : Int) (L : List (List Int)) : List Int × Bool := if 1 ≤ n ∧ n ≤ 7 ∧ pats L = true ∧ avOrd n.toNat L ≠ [] then ((avOrd n.toNat L).headD [], true) else ([], false)

theorem avOrd_len {n : Nat} {L : List (List Int)} {zs : List Int} (h : zs ∈ avOrd n L) : zs.length = n := by
  unfold avOrd allOrd at h
  rw [List.mem_filter] at h
  obtain ⟨k, _, rfl⟩ := List.mem_map.1 h.1
  exact atRun_len _ _ _

theorem firstAv_len {n : Int} {L : List (List Int)} {xs : List Int} {b : Bool} (h : firstAvAns n L = (xs, b)) : xs.length ≤ 1048576 := by
  unfold firstAvAns at h
  split at h
  · rename_i hc
    cases h
    obtain ⟨f, t, e⟩ := List.exists_cons_of_ne_nil hc.2.2.2
    rw [e]
    have := avOrd_len (n := n.toNat) (L := L) (zs := f) (by rw [e]; simp)
    show f.length ≤ 1048576
    omega
  · cases h
    simp

/-! ### The most places -/
def mostTo (n : Nat) (p : List Int) : Nat → List Int × Int
  | 0 => ([], -1)
  | k + 1 => if (mostTo n p k).2 < ((placesOf (atRun n (iota n) k) p).length : Int) then (atRun n (iota n) k, ((placesOf (atRun n (iota n) k) p).length : Int)) else mostTo n p k

def mostAns (n : Int) (p : List Int) : List Int × Int × Bool := if 1 ≤ n ∧ n ≤ 7 ∧ Ord p then ((mostTo n.toNat p (fact n.toNat)).1, (mostTo n.toNat p (fact n.toNat)).2, true) else ([], 0, false)

theorem mostTo_len (n : Nat) (p : List Int) : ∀ k, (mostTo n p k).1.length ≤ n := by
  intro k
  induction k with
  | zero => simp [mostTo]
  | succ k ih =>
    unfold mostTo
    split
    · rw [atRun_len]; exact Nat.le_refl _
    · exact ih

theorem most_len {n : Int} {p xs : List Int} {m : Int} {b : Bool} (h : mostAns n p = (xs, m, b)) : xs.length ≤ 1048576 := by
  unfold mostAns at h
  split at h
  · cases h
    have := mostTo_len n.toNat p (fact n.toNat)
    omega
  · cases h
    simp

end Go.Proofs.Ytekihdnkkeggjaa.AvMath

/-
  A range over a function as in the text before, where the iterator is told of the round that leaves, too: what it keeps. Conditions: as stated.
-/
namespace Go.Proofs.Ytekihdnkkeggjaa.Range2C
open Go.RowKit RangeC

/-- An iterator of which is known: at each value that it hands on, Pre holds of it and the world; what Kp keeps is kept by each round, the last one too. -/
def Hands2 {α : Type} (F : Fence) (n : Nat) (P : Program) (g : Nat) (lb : Array Value) (encs : α → Array Value) (Pre : α → World → Prop) (Kp : World → World → Prop) (S Sp : List α → Prop) (N : Nat) (w : World) : Prop :=
  ∀ (l : Nat) (J Jx : List α → World → Prop) (W : World), Below w.heap.size w W → AbidesFrom W.heap.size J →
    (∀ so x X, J so X → Pre x X → so.length < N → YieldAt F (n - 1) P l (encs x) X fun e Y =>
      (e = .returned (.bool true) ∧ J (so ++ [x]) Y ∧ Kp X Y) ∨ (e = .returned (.bool false) ∧ Jx (so ++ [x]) Y ∧ Kp X Y)) →
    J [] W → CallsIn F n P g (#[.func (.yield l) #[] #[]] ++ lb) W fun e Y => (∃ v, e = .returned v) ∧ ((∃ xs, S xs ∧ J xs Y) ∨ (∃ so, Sp so ∧ Jx so Y))

variable {F : Fence} {n : Nat} {P : Program} {w : World}

/-- What a round owes. -/
def ownPostX {α : Type} (B : Nat) (Kp : World → World → Prop) (I : List α → World → Prop) (Ix : Code → List α → World → Prop) (xs : List α) (W : World) : Exit → Act → World → Prop
  | .normal, _, W' => KeepsFrom B W W' ∧ Kp W W' ∧ I xs W'
  | .ret, _, W' => KeepsFrom B W W' ∧ Kp W W' ∧ Ix .ret xs W'
  | .exit id, _, W' => KeepsFrom B W W' ∧ Kp W W' ∧ Ix (.exit id) xs W'
  | .goto t, _, W' => KeepsFrom B W W' ∧ Kp W W' ∧ Ix (.goto t) xs W'
  | .panic _, _, _ => False
  | .outgrown, _, _ => False

set_option maxHeartbeats 1000000 in
theorem range_hands2 {α : Type} {g : Operand} {ps : Array Tmp} {assign body : Code} {Q : Exit → Act → World → Prop} {a : Act}
    (hro : F.round = none) (h1 : 1 ≤ n) {gf : Nat} {lb : Array Value} (hg : a.eval g = .func (.func gf) #[] lb) (hFg : F.fn gf) (eg : ∀ args w, (callFunc gf args).run P w = .ok (.enter gf args) w)
    {encs : α → Array Value} {Pre : α → World → Prop} {Kp : World → World → Prop} {S Sp : List α → Prop} {N : Nat} {w0 : World} (hseq : Hands2 F (n - 1) P gf lb encs Pre Kp S Sp N w0)
    (hKt : ∀ {A B C : World}, Kp A B → Kp B C → Kp A C) (hKb : ∀ (W : World) (l : Nat) (o o' : Obj), w.heap.size ≤ l → W.heap[l]? = some o → o.isCells = false → o.isWalk = false → Kp W (W.putObj l o')) (hb0 : Below w0.heap.size w0 w) (hps : ∀ x, (encs x).size = ps.size)
    (I : List α → World → Prop) (Ix : Code → List α → World → Prop) (hI : OwnFrom w.heap.size I) (hIx : ∀ c, OwnFrom w.heap.size (Ix c)) (hPre : ∀ x, OwnFrom w.heap.size (fun (_ : Unit) W => Pre x W)) (h0 : I [] w) (a₁ : α → Act)
    (hassign : ∀ (l : Nat) (x : α) (W : World) (K : Act → World → Prop), K (a₁ x) W →
      assign.wpIn (F.inRound l) (n - 1 - 1) P (Exit.then K (fun _ _ _ => False)) { tmps := (ps.zip (encs x)).foldl (fun t (p, v) => t.setIfInBounds p v) a.tmps, defers := [] } W)
    (hbody : ∀ (l : Nat) (so : List α) (x : α) (W : World), I so W → Pre x W → so.length < N → body.wpIn (F.inRound l) (n - 1 - 1) P (ownPostX w.heap.size Kp I Ix (so ++ [x]) W) (a₁ x) W)
    (hdone : ∀ (D : Nat) (xs : List α) (W : World), w.heap.size ≤ D → S xs → I xs W → W.heap[D]? = some (.deferred (some [])) → Q .normal { a with defers := { target := .collected D, args := #[] } :: a.defers } W)
    (hstop : ∀ (D : Nat) (c : Code) (so : List α) (W : World), w.heap.size ≤ D → Sp so → Ix c so W → W.heap[D]? = some (.deferred (some [])) → c.wpIn F n P Q { a with defers := { target := .collected D, args := #[] } :: a.defers } W) :
    (Code.rangeFunc g ps assign body).wpIn F n P Q a w := by
  refine wpIn_rangeFunc fun fn hfn => ?_
  rw [hro]
  obtain ⟨rec, hrec⟩ : ∃ rec : LoopState → Option Code → Loop, rec = fun st pe => { state := st, pending := pe, fn := fn, tmps := a.tmps, params := ps, assign := assign, body := body, defers := w.heap.size } := ⟨_, rfl⟩
  obtain ⟨W1, hW1⟩ : ∃ W1, (w.alloc (.deferred (some []))).alloc (.loop (rec .ready none)) = W1 := ⟨_, rfl⟩
  have hsz : W1.heap.size = w.heap.size + 2 := by rw [← hW1]; simp
  have hL1 : Laid w rec .ready none W1 := by
    rw [← hW1]
    refine ⟨?_, (Below.heap_alloc _ _ _ (by simp)).trans (World.alloc_heap_new w _)⟩
    have := World.alloc_heap_new (w.alloc (.deferred (some []))) (.loop (rec .ready none))
    rwa [World.size_alloc] at this
  have hI1 : I [] W1 := by rw [← hW1]; exact hI.alloc _ (hI.alloc _ h0)
  have hb1 : Below w0.heap.size w0 W1 := by
    rw [← hW1]; exact hb0.trans ((((Below.refl _ w).alloc (Nat.le_refl _) _).alloc (by simp) _).mono hb0.size)
  have hput : ∀ {X : World} {st st' : LoopState} {pe pe' : Option Code}, Laid w rec st pe X → Kp X (X.putObj (w.heap.size + 1) (.loop (rec st' pe'))) := fun h => hKb _ _ _ _ (by omega) h.1 rfl rfl
  refine ⟨w.heap.size + 1, [{ target := .collected w.heap.size, args := #[] }], W1, { target := .fn (.func gf) lb, args := #[.func (.yield (w.heap.size + 1)) #[] #[]] }, W1, gf,
    #[.func (.yield (w.heap.size + 1)) #[] #[]] ++ lb, W1, by rw [← hW1, hrec]; exact run_enterLoop_outer _ _ _ _ _, by simp only [resolve, hg]; simp [go_sem], fun f' hf' => by simp [Target.leads] at hf'; subst hf'; exact hFg,
    by simp [invoke, go_sem, eg], fun _ => h1, ?_⟩
  refine (hseq (w.heap.size + 1) (fun so W => I so W ∧ Laid w rec .ready none W) (fun so W => ∃ c, Ix c so W ∧ Laid w rec .done (some c) W) W1 hb1
    (fun s A B row hs hgr hr => ⟨hI s A B row hs.1 hgr (fun r e => by obtain ⟨h2, o, ho, hw⟩ := hr r e; exact ⟨by omega, o, ho, Obj.not_cells_of_walk hw⟩), hs.2.kept hgr (fun r e => (hr r e).2)⟩) ?_ ⟨hI1, hL1⟩).mono ?_
  · rintro so x W ⟨hi, hl⟩ hpx hlen
    have hy := run_yield (P := P) (args := encs x) hl.1 (by rw [hrec]; exact hps x)
    rw [hrec] at hy
    refine ⟨fn, _, assign, body, hy, roundIn_of_wpIn hfn (hassign _ x W _ ?_)⟩
    clear hy
    have hl2 : Laid w rec .busy none (W.putObj (w.heap.size + 1) (.loop (rec .busy none))) := hl.put
    have hkb := hput (st' := .busy) (pe' := none) hl
    refine ⟨W.putObj (w.heap.size + 1) (.loop (rec .busy none)), by have h2 := run_beginRound (P := P) hl.1 (by rw [hrec]); rw [h2, hrec], ?_⟩
    refine wpIn_mono (hbody _ so x _ (hI.putObj _ hi (by omega) hl.1 rfl) ((hPre x).putObj (s := ()) _ hpx (by omega) hl.1 rfl) hlen) ?_
    have fin : ∀ (jump : Option Code) (W3 : World), KeepsFrom w.heap.size (W.putObj (w.heap.size + 1) (.loop (rec .busy none))) W3 →
        (Instr.endRound (w.heap.size + 1) jump).run P W3 = .ok (.bool jump.isNone) (W3.putObj (w.heap.size + 1) (.loop (rec (if jump.isNone then .ready else .done) jump))) ∧ Laid w rec .busy none W3 := fun jump W3 hk3 => by
      have hl3 := hl2.from hk3
      have h2 := run_endRound (P := P) jump hl3.1
      rw [h2, hrec]
      exact ⟨rfl, by rw [hrec] at hl3; exact hl3⟩
    rintro e a3 W3 hp
    cases e with
    | normal =>
      obtain ⟨hr, hl3⟩ := fin none W3 hp.1
      exact ⟨_, _, hr, .inl ⟨rfl, ⟨hI.putObj _ hp.2.2 (by omega) hl3.1 rfl, hl3.put⟩, hKt (hKt hkb hp.2.1) (hput hl3)⟩⟩
    | ret =>
      obtain ⟨hr, hl3⟩ := fin (some .ret) W3 hp.1
      exact ⟨_, _, hr, .inr ⟨rfl, ⟨.ret, (hIx _).putObj _ hp.2.2 (by omega) hl3.1 rfl, hl3.put⟩, hKt (hKt hkb hp.2.1) (hput hl3)⟩⟩
    | exit id =>
      obtain ⟨hr, hl3⟩ := fin (some (.exit id)) W3 hp.1
      exact ⟨_, _, hr, .inr ⟨rfl, ⟨.exit id, (hIx _).putObj _ hp.2.2 (by omega) hl3.1 rfl, hl3.put⟩, hKt (hKt hkb hp.2.1) (hput hl3)⟩⟩
    | goto t =>
      obtain ⟨hr, hl3⟩ := fin (some (.goto t)) W3 hp.1
      exact ⟨_, _, hr, .inr ⟨rfl, ⟨.goto t, (hIx _).putObj _ hp.2.2 (by omega) hl3.1 rfl, hl3.put⟩, hKt (hKt hkb hp.2.1) (hput hl3)⟩⟩
    | panic ch => exact hp.elim
    | outgrown => exact hp.elim
  · rintro e W2 ⟨⟨v, rfl⟩, (⟨xs, hS, hi, hl⟩ | ⟨so, hSp, c, hi, hl⟩)⟩
    · have h2 := run_endLoop (P := P) hl.1 (by rw [hrec]; simp)
      have h3 : (rec .ready none).pending = none := by rw [hrec]
      rw [h3] at h2
      exact ⟨none, _, h2, hdone _ xs _ (Nat.le_refl _) hS (hI.putObj _ hi (by omega) hl.1 rfl) ((World.putObj_heap_other (by omega)).trans hl.2)⟩
    · have h2 := run_endLoop (P := P) hl.1 (by rw [hrec]; simp)
      have h3 : (rec .done (some c)).pending = some c := by rw [hrec]
      rw [h3] at h2
      exact ⟨some c, _, h2, hstop _ c so _ (Nat.le_refl _) hSp ((hIx c).putObj _ hi (by omega) hl.1 rfl) ((World.putObj_heap_other (by omega)).trans hl.2)⟩

end Go.Proofs.Ytekihdnkkeggjaa.Range2C
