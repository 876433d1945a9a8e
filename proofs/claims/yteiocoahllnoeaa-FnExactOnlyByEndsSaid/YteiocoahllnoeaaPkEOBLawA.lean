/-
  Contracts and plain facts that the law's text leans on, part 1 of 2. Conditions: as each states.
-/
import Derived.Test.YteiocoahllnoeaaPatMath
import Derived.Test.YteiocoahllnoeaaListsF
import Derived.Test.YteiocoahllnoeaaOpen
import Derived.Deep.Matrix
import Derived.Test.YteiocoahllnoeaaSame
import Derived.Deep.RegionHeld3
import Derived.Test.YteiocoahllnoeaaListsG
import Derived.Test.YteiocoahllnoeaaOwn1
import Derived.Test.YteiocoahllnoeaaPlaces
import Derived.Test.YteiocoahllnoeaaShape
import Derived.Test.YteiocoahllnoeaaOrdFacts
import Derived.Test.YteiocoahllnoeaaListsB
import Derived.Test.YteiocoahllnoeaaToImpl

/-
  The mathematics of dropped places: the numbers beside some places, and the first list of as few places as can be. Conditions: none. Plain facts on lists: nothing of the program.
-/
namespace Go.Proofs.Yteiocoahllnoeaa.DropMath
open OrdMath OrdFacts PatMath

/-- The places but some. -/
def others (q : List Nat) (n : Nat) : List Nat := (List.range n).filter (fun i => !decide (i ∈ q))

def beside (zs : List Int) (q : List Nat) : List Int := pick zs (others q zs.length)

theorem others_lt {q : List Nat} {n : Nat} : ∀ p ∈ others q n, p < n := fun p hp => by
  have := (List.mem_filter.1 hp).1
  rwa [List.mem_range] at this

theorem others_next (q : List Nat) (k : Nat) : others q (k + 1) = others q k ++ (if k ∈ q then [] else [k]) := by
  unfold others
  rw [List.range_succ, List.filter_append]
  by_cases h : k ∈ q <;> simp [h]

theorem others_len_le (q : List Nat) (n : Nat) : (others q n).length ≤ n := by
  have := List.length_filter_le (fun i => !decide (i ∈ q)) (List.range n)
  rwa [List.length_range] at this

theorem beside_nodup {zs : List Int} (h : zs.Nodup) (q : List Nat) : (beside zs q).Nodup := by
  unfold beside pick List.Nodup
  rw [List.pairwise_map]
  have hp : (others q zs.length).Pairwise (· < ·) := List.Pairwise.filter _ List.pairwise_lt_range
  refine List.Pairwise.imp_of_mem (fun {a b} ha hb hab => ?_) hp
  exact getD_ne h (others_lt a ha) (others_lt b hb) (by omega)

theorem beside_len_le (zs : List Int) (q : List Nat) : (beside zs q).length ≤ zs.length := by
  unfold beside; rw [pick_len]; exact others_len_le _ _

theorem others_pos {q : List Nat} {n : Nat} (h : q.length < n) : 1 ≤ (others q n).length := by
  by_cases h0 : others q n = []
  · exfalso
    have hall : ∀ i, i < n → i ∈ q := fun i hi => by
      by_cases hm : i ∈ q
      · exact hm
      · have : i ∈ others q n := List.mem_filter.2 ⟨List.mem_range.2 hi, by simp [hm]⟩
        rw [h0] at this
        simp at this
    have hp := perm_of_sub ((List.range n).map (fun (i : Nat) => (i : Int))) (q.map (fun (i : Nat) => (i : Int))) (by
      unfold List.Nodup
      rw [List.pairwise_map]
      exact (List.pairwise_lt_range (n := n)).imp (fun h => by omega)) (fun x hx => by
      obtain ⟨i, hi, rfl⟩ := List.mem_map.1 hx
      exact List.mem_map.2 ⟨i, hall i (List.mem_range.1 hi), rfl⟩) (by rw [List.length_map, List.length_map, List.length_range]; omega)
    have := hp.length_eq
    rw [List.length_map, List.length_map, List.length_range] at this
    omega
  · exact List.length_pos_iff.2 h0

theorem beside_pos {zs : List Int} {q : List Nat} (h : q.length < zs.length) : 1 ≤ (beside zs q).length := by
  unfold beside; rw [pick_len]; exact others_pos h

theorem has_small {xs pat : List Int} (h : xs.length < pat.length) : has xs pat = false := by
  unfold has placesOf
  rw [ch_nil (n := xs.length) pat.length [] (by have : behind [] = 0 := rfl; omega) (by omega)]
  rfl

theorem behind_le {b : List Nat} {p : Nat} (h : ∀ x ∈ b, x < p) : behind b ≤ p := by
  unfold behind
  cases hb : b.getLast? with
  | none => exact Nat.zero_le _
  | some x => exact h x (List.mem_of_getLast? hb)

theorem mem_ch {n : Nat} : ∀ (r : Nat) (b q : List Nat), Asc n (b ++ q) → q.length = r → b ++ q ∈ ch n r b
  | 0, b, q, _, h => by
    have hq : q = [] := List.eq_nil_of_length_eq_zero h
    subst hq
    simp [ch]
  | r + 1, b, [], _, h => by simp at h
  | r + 1, b, p :: q, ha, h => by
    have e : b ++ p :: q = (b ++ [p]) ++ q := by simp
    have ih := mem_ch r (b ++ [p]) q (by rw [← e]; exact ha) (by simpa using h)
    rw [e]
    unfold ch
    have hpn : p < n := ha.2 p (by simp)
    have hbp : behind b ≤ p := behind_le (fun x hx => by
      have h1 := ha.1
      rw [List.pairwise_append] at h1
      exact h1.2.2 x hx p (by simp))
    exact List.mem_flatMap.2 ⟨p, by rw [List.mem_range'_1]; omega, ih⟩

theorem others_range (m : Nat) : others (List.range m) (m + 1) = [m] := by
  rw [others_next]
  have h1 : others (List.range m) m = [] := by
    unfold others
    rw [List.filter_eq_nil_iff]
    intro i hi
    simp [List.mem_range.1 hi]
  rw [h1]
  simp

/-- In the end there is a list that avoids. -/
theorem drop_end {zs pat : List Int} (hz : 1 ≤ zs.length) (hp : 2 ≤ pat.length) : ∃ k q, k < zs.length ∧ q ∈ ch zs.length k [] ∧ has (beside zs q) pat = false := by
  obtain ⟨m, hm⟩ : ∃ m, zs.length = m + 1 := ⟨zs.length - 1, by omega⟩
  refine ⟨m, List.range m, by omega, ?_, ?_⟩
  · have := mem_ch (n := zs.length) m [] (List.range m) ⟨by simpa using List.pairwise_lt_range, fun p hp => by simp at hp; omega⟩ (by simp)
    simpa using this
  · apply has_small
    unfold beside
    rw [hm, others_range, pick_len]
    simp; omega

/-- The first list that avoids. -/
def firstDrop (zs pat : List Int) : List Nat := (((List.range zs.length).flatMap (fun k => ch zs.length k [])).find? (fun q => !has (beside zs q) pat)).getD []

theorem find_first {α : Type} {p : α → Bool} {q : α} (hq : p q = true) : ∀ {l1 l2 : List α}, (∀ x ∈ l1, p x = false) → (l1 ++ q :: l2).find? p = some q
  | [], l2, _ => by simp [hq]
  | a :: l1, l2, h => by
    rw [List.cons_append, List.find?_cons_of_neg (by rw [h a (by simp)]; simp)]
    exact find_first hq (fun x hx => h x (by simp [hx]))

theorem firstDrop_is {zs pat : List Int} {k i : Nat} (hk : k < zs.length) (hi : i < (ch zs.length k []).length) (hq : has (beside zs (ch zs.length k [])[i]) pat = false)
    (hlow : ∀ k', k' < k → ∀ q ∈ ch zs.length k' [], has (beside zs q) pat = true) (hin : ∀ q ∈ (ch zs.length k []).take i, has (beside zs q) pat = true) : firstDrop zs pat = (ch zs.length k [])[i] := by
  obtain ⟨r, hr⟩ : ∃ r, zs.length = k + 1 + r := ⟨zs.length - (k + 1), by omega⟩
  have hsplit : List.range zs.length = List.range k ++ k :: (List.range r).map (fun x => k + 1 + x) := by
    rw [hr, List.range_add, List.range_succ]; simp
  have hall : (List.range zs.length).flatMap (fun k => ch zs.length k []) = ((List.range k).flatMap (fun k => ch zs.length k []) ++ (ch zs.length k []).take i) ++ (ch zs.length k [])[i] :: ((ch zs.length k []).drop (i + 1) ++ ((List.range r).map (fun x => k + 1 + x)).flatMap (fun k => ch zs.length k [])) := by
    rw [hsplit, List.flatMap_append, List.flatMap_cons, List.append_assoc]
    congr 1
    have h1 : (ch zs.length k []) = (ch zs.length k []).take i ++ (ch zs.length k [])[i] :: (ch zs.length k []).drop (i + 1) := by
      rw [← List.drop_eq_getElem_cons hi, List.take_append_drop]
    rw [← List.cons_append, ← List.append_assoc, ← h1]
  unfold firstDrop
  rw [hall, find_first (by rw [hq]; rfl) (fun x hx => by
    rw [List.mem_append] at hx
    rcases hx with hx | hx
    · obtain ⟨k', hk', hxq⟩ := List.mem_flatMap.1 hx
      rw [hlow k' (List.mem_range.1 hk') x hxq]; rfl
    · rw [hin x hx]; rfl)]
  rfl

def dropsAns (zs pat : List Int) : List Int × Bool := if Ord zs ∧ Ord pat ∧ pat.length ≠ 1 then (nat (firstDrop zs pat), true) else ([], false)

theorem firstDrop_len {zs pat : List Int} (h7 : zs.length ≤ 7) : (firstDrop zs pat).length ≤ 7 := by
  unfold firstDrop
  cases h : ((List.range zs.length).flatMap (fun k => ch zs.length k [])).find? (fun q => !has (beside zs q) pat) with
  | none => simp
  | some q =>
    have hm := List.mem_of_find?_eq_some h
    obtain ⟨k, hk, hq⟩ := List.mem_flatMap.1 hm
    rw [List.mem_range] at hk
    have := (ch_pre _ _ q hq).1
    simp at this ⊢
    omega

theorem drops_len {zs pat xs : List Int} {b : Bool} (h : dropsAns zs pat = (xs, b)) : xs.length ≤ 1048576 := by
  unfold dropsAns at h; split at h
  · rename_i ho
    cases h
    have h1 := firstDrop_len (zs := zs) (pat := pat) ho.1.2.1
    have h2 : (nat (firstDrop zs pat)).length = (firstDrop zs pat).length := by show (List.map _ _).length = _; rw [List.length_map]
    omega
  · cases h; simp

end Go.Proofs.Yteiocoahllnoeaa.DropMath

/-
  An argument that is a list of lists of integers: opened, sized, copied, compared. Conditions: at most 2^20 numbers together.
-/
namespace Go.Proofs.Yteiocoahllnoeaa.LLC
open Go.ChangeShapes Go.WideShapes Go.ChangeAt Go.RowKit SeesC IntsC ExactC ListsC ListsEC ListsFC OpenC

/-- A list of lists that is read. -/
def SeesLL (w : World) (v : Value) (L : List (List Int)) : Prop :=
  ∃ vs : List Value, vs.length = L.length ∧ Sees w v L.length vs ∧ ∀ i, i < L.length → Sees w (vs.getD i undef) (L.getD i []).length (vals (L.getD i []))

theorem SeesLL.grow {w w' : World} {v : Value} {L : List (List Int)} (h : SeesLL w v L) (hb : Below w.heap.size w w') : SeesLL w' v L := by
  obtain ⟨vs, h1, h2, h3⟩ := h
  exact ⟨vs, h1, h2.grow hb, fun i hi => (h3 i hi).grow hb⟩

theorem SeesLL.drawn {w w' : World} {v : Value} {L : List (List Int)} (h : SeesLL w v L) (hb : Drawn w w') : SeesLL w' v L := by
  obtain ⟨vs, h1, h2, h3⟩ := h
  exact ⟨vs, h1, hb.sees h2, fun i hi => hb.sees (h3 i hi)⟩

theorem SeesLL.value {w : World} {v : Value} {L : List (List Int)} (h : SeesLL w v L) : ∃ a c, v = .slice a L.length c := by
  obtain ⟨vs, h1, ⟨_, a, c, rfl, _, _⟩, h3⟩ := h
  exact ⟨a, c, rfl⟩

theorem SeesLL.at {w : World} {a : Option Addr} {N c i : Nat} {L : List (List Int)} (hN : L.length = N) (hi : i < N) (h : SeesLL w (.slice a N c) L) : ∃ b o u c1, a = some ⟨b, o, none⟩ ∧ w.cell? ⟨b, o + i, none⟩ = some (.slice u (L.getD i []).length c1) ∧ Sees w (.slice u (L.getD i []).length c1) (L.getD i []).length (vals (L.getD i [])) := by
  obtain ⟨vs, h1, ⟨h2, a', c', e, _, hc⟩, h3⟩ := h
  cases e
  obtain ⟨b, o, rfl, hcell⟩ := hc (by omega)
  have h4 := h3 i (by omega)
  have e1 : vs.getD i undef = vs[i]'(by omega) := by simp [show i < vs.length by omega]
  have h5 := hcell i (vs[i]'(by omega)) (by simp [show i < vs.length by omega])
  rw [e1] at h4
  have h6 := h4
  obtain ⟨_, u, c1, e, _, _⟩ := h6
  rw [e] at h4 h5
  exact ⟨b, o, u, c1, rfl, h5, h4⟩

/-- Lists that are owned, each in memory of its own. -/
def Rag (w : World) (base : Nat) (v : Value) (L : List (List Int)) : Prop :=
  ∃ gs : List (Nat × Nat), gs.length = L.length ∧ w.ownsRow base 22 1 v L.length ((List.range L.length).map fun i => sl (L.getD i []).length (gs.getD i (0, 0))) ∧
    (∀ i, i < L.length → w.ownsRow base 3 1 (sl (L.getD i []).length (gs.getD i (0, 0))) (L.getD i []).length (vals (L.getD i []))) ∧ (gs.map (·.1)).Nodup

theorem Rag.kept {w w' : World} {base : Nat} {v : Value} {L : List (List Int)} (h : Rag w base v L) (hb : Below w.heap.size w w') : Rag w' base v L := by
  obtain ⟨gs, h1, h2, h3, h4⟩ := h
  exact ⟨gs, h1, kept_call h2 hb, fun i hi => kept_call (h3 i hi) hb, h4⟩

theorem Rag.sees {w : World} {base : Nat} {v : Value} {L : List (List Int)} (h : Rag w base v L) : SeesLL w v L := by
  obtain ⟨gs, h1, h2, h3, h4⟩ := h
  refine ⟨_, by simp, Sees.owns h2, fun i hi => ?_⟩
  have e1 : ((List.range L.length).map fun i => sl (L.getD i []).length (gs.getD i (0, 0))).getD i undef = sl (L.getD i []).length (gs.getD i (0, 0)) := by
    rw [List.getD_eq_getElem?_getD, List.getElem?_map, List.getElem?_range hi]; rfl
  rw [e1]
  exact Sees.owns (h3 i hi)

/-- The room of lists of lists: themselves and their numbers. -/
def tot : List (List Int) → Nat
  | [] => 0
  | l :: L => l.length + tot L

theorem tot_next {L : List (List Int)} {i : Nat} (h : i < L.length) : tot (L.take (i + 1)) = tot (L.take i) + (L.getD i []).length := by
  induction L generalizing i with
  | nil => simp at h
  | cons l L ih =>
    cases i with
    | zero => simp [tot]
    | succ i =>
      have hi : i < L.length := by simpa using h
      have := ih hi
      simp only [List.take_succ_cons, tot, List.getD_cons_succ] at this ⊢
      omega

theorem tot_mem {L : List (List Int)} {l : List Int} (h : l ∈ L) : l.length ≤ tot L := by
  induction L with
  | nil => simp at h
  | cons a L ih =>
    rcases List.mem_cons.1 h with rfl | h
    · simp [tot]
    · have := ih h; simp [tot]; omega

theorem tot_take (L : List (List Int)) : ∀ i, tot (L.take i) ≤ tot L := by
  induction L with
  | nil => intro i; simp [tot]
  | cons a L ih =>
    intro i
    cases i with
    | zero => simp [tot]
    | succ i => simp only [List.take_succ_cons, tot]; have := ih i; omega

theorem getD_memL {L : List (List Int)} {i : Nat} (h : i < L.length) : L.getD i [] ∈ L := by
  have : L.getD i [] = L[i] := by simp [h]
  rw [this]; exact List.getElem_mem h

set_option maxRecDepth 100000 in
set_option maxHeartbeats 2000000 in
theorem eqIntSS_ll (w : World) (v u : Value) (L : List (List Int)) (hv : SeesLL w v L) (hu : SeesLL w u L) (hN : L.length + tot L ≤ 1048576) :
    Calls Try.prog 19 #[v, u] w fun e w' => e = .returned (.bool true) ∧ Drawn w w' := by
  obtain ⟨a, c, rfl⟩ := hv.value
  obtain ⟨a2, c2, rfl⟩ := hu.value
  obtain ⟨N, hLN⟩ : ∃ N, L.length = N := ⟨_, rfl⟩
  rw [hLN] at hv hu hN ⊢
  have HV := Go.Lib.hid (And.intro hv (And.intro hu hLN))
  have hNm : N ≤ 1048576 := by omega
  clear hv hu hLN
  go_enter Try.func19, Try.ntmps19
  go_wp2
  go_loopw [5] (fun i wr => ∃ k : Nat, k ≤ N ∧ i = .int .i64 k ∧ Drawn w wr) (fun i _ => N - (intOf i).toNat)
  case atStart => exact ⟨0, Nat.zero_le _, rfl, Drawn.refl _⟩
  case round =>
    obtain ⟨k, hk, rfl, HD⟩ := hrel
    by_cases hlt : k < N
    · obtain ⟨b, o, u1, d1, rfl, hck0, hs1⟩ := HV.out.1.at HV.out.2.2 hlt
      obtain ⟨b2, o2, u2, d2, rfl, hck02, hs2⟩ := HV.out.2.1.at HV.out.2.2 hlt
      have hck : wr.cell? ⟨b, o + k, none⟩ = _ := (HD.cell _).trans hck0
      have hck2 : wr.cell? ⟨b2, o2 + k, none⟩ = _ := (HD.cell _).trans hck02
      have hmb := tot_mem (getD_memL (L := L) (i := k) (by rw [HV.out.2.2]; exact hlt))
      have CR := Go.Lib.hid (fun W (h : Drawn w W) => eqIntS_same W _ _ _ (L.getD k []) (h.sees hs1) (h.sees hs2) (by unfold maxLen; omega))
      obtain ⟨m, hm⟩ : ∃ m, (L.getD k []).length = m := ⟨_, rfl⟩
      rw [hm] at hck hck2 CR
      have HDH := Go.Lib.hid HD
      have hlti : (k : Int) < (N : Int) := by omega
      clear hck0 hck02 hs1 hs2 hm hmb
      go_wp2
      go_quiet ((go_at_call 14; exact quiet_drawn (CR.out _ (HDH.out.next _))))
      go_wp2
      go_roundw
      case rel => exact ⟨k + 1, by omega, by go_num, HD.next _⟩
      case measure => simp [intOf]; omega
    · go_wp2
      go_ret
      exact ⟨rfl, HD⟩

theorem made_nil (n : Nat) : (madeCells (Value.slice none 0 0).cells (n * 1)).toList = List.replicate n (.slice none 0 0) := by
  apply List.ext_getElem
  · simp [madeCells]
  · intro i h1 h2; simp [madeCells, Value.cells, Nat.mod_one]

/-- The rows copied so far. -/
def rowsTo (L : List (List Int)) (gs : List (Nat × Nat)) (k : Nat) : List Value := (List.range k).map fun i => sl (L.getD i []).length (gs.getD i (0, 0))

theorem getD_l {α : Type} {d : α} {A B : List α} {i : Nat} (h : i < A.length) : (A ++ B).getD i d = A.getD i d := by
  rw [List.getD_eq_getElem?_getD, List.getElem?_append_left h, ← List.getD_eq_getElem?_getD]

theorem rowsTo_next (L : List (List Int)) (gs : List (Nat × Nat)) (p : Nat × Nat) (k : Nat) (hk : gs.length = k) : rowsTo L (gs ++ [p]) (k + 1) = rowsTo L gs k ++ [sl (L.getD k []).length p] := by
  unfold rowsTo
  rw [List.range_succ, List.map_append]
  congr 1
  · apply List.map_congr_left
    intro i hi
    rw [List.mem_range] at hi
    rw [getD_l (by omega)]
  · simp [← hk]

theorem rows_set (X : List Value) (k n : Nat) (v z : Value) (hX : X.length = k) (hk : k < n) : (X ++ List.replicate (n - k) z).set k v = (X ++ [v]) ++ List.replicate (n - (k + 1)) z := by
  rw [List.set_append_right _ _ (by omega), hX, Nat.sub_self]
  have e : n - k = (n - (k + 1)) + 1 := by omega
  rw [e, List.replicate_succ, List.set_cons_zero, List.append_assoc]
  rfl

/-- An argument that is a list of lists of integers. -/
theorem sees_rows {H : Type} {enc : TypeId × Value → H} {P : Program} {W : World} {t e q : TypeId} {v : Value} {d : DataW H} {ps : List MemPlace} (ht : P.underlying t = some (.slice e)) (he : P.underlying e = some (.slice q)) (hq : P.underlying q = some (.int .i64)) (ce : P.cellsOf e = 1) (cq : P.cellsOf q = 1)
    {base : Nat} {r : Reach} (hok : Value.okWide P W r base t v) (h : DataW.Trod enc P W 0 (fun _ => true) true t v d ps) :
    ∃ (n : Nat) (L : List (List Int)), (L.length = n ∧ SeesLL W v L) ∧ n ≤ maxLen ∧ ∀ l ∈ L, l.length ≤ maxLen := by
  obtain ⟨a0, len0, cap0, rfl⟩ := okWide_slice ht hok
  obtain ⟨fuel, hf⟩ := h
  rcases Go.Deep.open_int_rows ht he hq ce cq hf with ⟨hcs, _⟩ | ⟨x, l, c, A, Ln, C, Z, hcs, _, hl, hm, _, hrow⟩
  · simp [Value.cells] at hcs
    obtain ⟨rfl, rfl, rfl⟩ := hcs
    exact ⟨0, [], ⟨rfl, [], rfl, Sees.nil _ _ _, fun i hi => absurd hi (by simp)⟩, by unfold maxLen; omega, by simp⟩
  · simp [Value.cells] at hcs
    obtain ⟨rfl, rfl, rfl⟩ := hcs
    refine ⟨len0, (List.range len0).map (fun i => (Z i).take (Ln i)), ⟨by simp, (List.range len0).map (fun i => .slice (A i) (Ln i) (C i)), by simp, ?_, ?_⟩, Nat.le_trans hl hm, ?_⟩
    · refine ⟨by simp, some x, cap0, by simp, by simpa using hl, fun hn => ?_⟩
      rw [List.length_map, List.length_range] at hn
      obtain ⟨b, o, rfl⟩ := addr_spot (hrow 0 (by omega)).1
      refine ⟨b, o, rfl, fun j u hu => ?_⟩
      rw [List.getElem?_map] at hu
      by_cases hj : j < len0
      · rw [List.getElem?_range hj] at hu
        simp at hu
        have h1 := (hrow j (by omega)).1
        rw [add_none] at h1
        rw [h1, ← hu]
      · rw [List.getElem?_eq_none (by simp; omega)] at hu
        simp at hu
    · intro i hi
      rw [List.length_map, List.length_range] at hi
      have e1 : ((List.range len0).map (fun i => (Z i).take (Ln i))).getD i [] = (Z i).take (Ln i) := by
        rw [List.getD_eq_getElem?_getD, List.getElem?_map, List.getElem?_range hi]; rfl
      have e2 : ((List.range len0).map (fun i => Value.slice (A i) (Ln i) (C i))).getD i undef = .slice (A i) (Ln i) (C i) := by
        rw [List.getD_eq_getElem?_getD, List.getElem?_map, List.getElem?_range hi]; rfl
      rw [e1, e2]
      obtain ⟨_, hLC, _, hZ, _, hnone, hcell⟩ := hrow i (by omega)
      have el : ((Z i).take (Ln i)).length = Ln i := by rw [List.length_take]; omega
      rw [el]
      refine ⟨by simp; omega, A i, C i, rfl, hLC, fun hn => ?_⟩
      cases hA : A i with
      | none => have := hnone hA; omega
      | some a' =>
        obtain ⟨_, hcl⟩ := hcell a' hA
        obtain ⟨b, o, rfl⟩ := addr_spot (hcl 0 (by omega))
        refine ⟨b, o, rfl, fun j u hu => ?_⟩
        rw [List.getElem?_map, List.getElem?_take] at hu
        split at hu
        · rename_i hj
          have hj2 : j < (Z i).length := by omega
          rw [List.getElem?_eq_getElem hj2] at hu
          simp at hu
          have h1 := hcl j (by omega)
          rw [add_none] at h1
          rw [h1, ← hu]
          simp [hj2]
        · simp at hu
    · intro l hl2
      rw [List.mem_map] at hl2
      obtain ⟨i, hi, rfl⟩ := hl2
      rw [List.mem_range] at hi
      obtain ⟨_, hLC, hCm, hZ, _⟩ := hrow i (by omega)
      rw [List.length_take]
      omega

end Go.Proofs.Yteiocoahllnoeaa.LLC

/-
  Contract: the model's search for a pattern, by recursion. Conditions: lists of at most 7 numbers.
-/
namespace Go.Proofs.Yteiocoahllnoeaa.GoesC
open Go.RowKit SeesC IntsC ExactC OrdMath InC OrderC PatMath ShapeC PlacesC Own1C AppendTwoC SameC IterC

theorem own_heap {w w' : World} (h : w'.heap = w.heap) {base size n : Nat} {ty : TypeId} {v : Value} {xs : List Value} (ho : w.ownsRow base ty size v n xs) : w'.ownsRow base ty size v n xs := by
  unfold World.ownsRow at ho ⊢
  rw [h]; exact ho

theorem below_heap {w w' a : World} {B : Nat} (h : Below B a w) (h1 : w'.os = w.os) (h2 : w'.tape = w.tape) (h3 : w'.output = w.output) (h4 : w'.heap = w.heap) : Below B a w' := by
  exact ⟨h1.trans h.os, h2.trans h.tape, h3.trans h.output, by rw [h4]; exact h.size, fun q hq => by rw [h4]; exact h.block q hq⟩

theorem below_grown {X X0 X' a : World} {B : Nat} {row : Option Nat} (hg : X.grownBy X' row) (hb : Below B a X0) (hs : B ≤ X0.heap.size) (h1 : X.os = X0.os) (h2 : X.tape = X0.tape) (h3 : X.output = X0.output) (h4 : X.heap = X0.heap) (hr : ∀ k, row = some k → B ≤ k) : Below B a X' :=
  (below_heap hb h1 h2 h3 h4).grown hg (by rw [h4]; exact hs) hr

theorem cell_heap {w w' : World} (h : w'.heap = w.heap) {a : Addr} {u : Value} (hc : w.cell? a = some u) : w'.cell? a = some u := by
  unfold World.cell? at hc ⊢
  rw [h]; exact hc

theorem pick_snoc (zs : List Int) (b : List Nat) (p : Nat) : pick zs (b ++ [p]) = pick zs b ++ [zs.getD p 0] := by simp [pick]

theorem vals_app (xs : List Int) (z : Int) : vals (xs ++ [z]) = vals xs ++ [.int .i64 z] := by simp

theorem any_next (h : Nat → Bool) (s j : Nat) : (List.range' s (j + 1)).any h = ((List.range' s j).any h || h (s + j)) := by
  rw [range_next, List.any_append]; simp

end Go.Proofs.Yteiocoahllnoeaa.GoesC

/-
  Contract: the model's lists of places, by recursion. Conditions: at most 7 places of 7.
-/
namespace Go.Proofs.Yteiocoahllnoeaa.ChoicesC
open Go.RowKit SeesC IntsC ExactC OrdMath InC OrderC PatMath ShapeC ListsC ListsEC ListsFC ListsGC PlacesC Own1C IterC

theorem flat_next {α : Type} (g : Nat → List α) (s j : Nat) : (List.range' s (j + 1)).flatMap g = (List.range' s j).flatMap g ++ g (s + j) := by
  rw [range_next, List.flatMap_append]; simp

theorem ch_len_le {n : Nat} (hn : n ≤ 7) : ∀ r b, (ch n r b).length ≤ 7 ^ r
  | 0, b => by simp [ch]
  | r + 1, b => by
    unfold ch
    have h1 := flat_len (g := fun p => ch n r (b ++ [p])) (m := 7 ^ r) (l := List.range' (behind b) (n - behind b)) (fun p _ => ch_len_le hn r (b ++ [p]))
    rw [List.length_range'] at h1
    have h2 : (n - behind b) * 7 ^ r ≤ 7 * 7 ^ r := Nat.mul_le_mul_right _ (by omega)
    rw [Nat.pow_succ]
    omega

end Go.Proofs.Yteiocoahllnoeaa.ChoicesC

/-
  Contracts: the program's places of a pattern, and whether a list contains it. Conditions: lists of at most 7 different numbers, patterns that are orders.
-/
namespace Go.Proofs.Yteiocoahllnoeaa.HasC
open Go.RowKit SeesC IntsC ExactC OrdMath InC OrderC PatMath ShapeC ListsC ListsEC ListsFC PlacesC

/-- A call of a function of the program's own enters it. -/
theorem run_enter {P : Program} {f : FuncId} {fn : Func} {c : Code} (hf : P.funcs[f]? = some fn) (hname : (fn.name == "runtime.NumGoroutine") = false) (hb : fn.body = some c) (args : Array Value) (w : World) : Sem.run P (callFunc f args) w = .ok (.enter f args) w := by
  have h1 : fn.name ≠ "runtime.NumGoroutine" := by simpa using hname
  simp [callFunc, hf, h1, hb]

theorem sees_at {w : World} {b o n cap : Nat} {zs : List Int} (h : Sees w (.slice (some ⟨b, o, none⟩) n cap) n (vals zs)) {j : Nat} (hj : j < n) {x : Int} (hx : zs.getD j 0 = x) : w.cell? ⟨b, o + j, none⟩ = some (.int .i64 x) := by
  have hl : zs.length = n := by simpa using h.1
  obtain ⟨_, a, c, e, _, hc⟩ := h
  cases e
  obtain ⟨b', o', e, hcell⟩ := hc (by omega)
  cases e
  exact hcell j _ (by rw [← hx]; simp [show j < zs.length by omega])

theorem nat_at {q : List Nat} {i p : Nat} (hi : i < q.length) (hp : q.getD i 0 = p) : (nat q).getD i 0 = (p : Int) := by
  have e1 : q[i] = p := by rw [← hp]; simp [hi]
  show (List.map _ q).getD i 0 = _
  simp [hi, e1]

theorem nat_len (q : List Nat) : (nat q).length = q.length := by
  show (List.map _ q).length = _
  rw [List.length_map]

theorem cell_new (W : World) (v : Value) (t : TypeId) : (W.alloc (.cells #[v] t)).cell? ⟨W.heap.size, 0, none⟩ = some v := by
  have := cell_one_new W v t 0 v rfl
  have e0 : (⟨W.heap.size, 0, none⟩ : Addr).add 0 = ⟨W.heap.size, 0, none⟩ := by unfold Addr.add; split <;> simp_all
  rwa [e0] at this

/-- The value of owned lists. -/
theorem lists_value {w : World} {base n : Nat} {v : Value} {L : List (List Value)} (h : Lists w base n v L) : ∃ a c, v = .slice a L.length c := by
  obtain ⟨gs, _, h2, _, _, _⟩ := h
  rcases h2.2 with ⟨rfl, h0⟩ | ⟨g, cap, cur, rfl, _⟩
  · rw [h0]; exact ⟨none, 0, rfl⟩
  · exact ⟨_, _, rfl⟩

theorem places_many {zs pat : List Int} (hn : zs.length ≤ 7) (hp : Ord pat) : (placesOf zs pat).length ≤ 823543 :=
  Nat.le_trans (List.length_filter_le _ _) (ch_823543 hn hp.2.1)

end Go.Proofs.Yteiocoahllnoeaa.HasC

/-
  Contracts: the model's places of a pattern, and whether a list contains it. Conditions: lists of at most 7 different numbers, patterns that are orders.
-/
namespace Go.Proofs.Yteiocoahllnoeaa.SpecPlC
open Go.RowKit SeesC IntsC ExactC OrdMath InC OrderC PatMath ShapeC ListsC ListsEC ListsFC ListsGC PlacesC Own1C AppendTwoC SameC GoesC ChoicesC HasC

/-- Owned lists, their rows told. -/
def With (w : World) (base n : Nat) (v : Value) (L : List (List Value)) (gs : List (Nat × Nat)) : Prop :=
  gs.length = L.length ∧ w.ownsRow base 22 1 v L.length (gs.map (sl n)) ∧ (∀ i, i < L.length → w.ownsRow base 3 1 (sl n (gs.getD i (0, 0))) n (L.getD i [])) ∧ (gs.map (·.1)).Nodup

theorem With.lists {w : World} {base n : Nat} {v : Value} {L : List (List Value)} {gs : List (Nat × Nat)} (h : With w base n v L gs) : Lists w base n v L := by
  obtain ⟨h1, h2, h3, h4⟩ := h
  refine ⟨gs, h1, h2, h3, h4, fun p hp e => ?_⟩
  obtain ⟨i, hi, hir⟩ := mem_at hp
  have h5 := h3 i (by omega)
  rw [hir] at h5
  exact own_types h2 h5 (by decide) e rfl

theorem Lists.with {w : World} {base n : Nat} {v : Value} {L : List (List Value)} (h : Lists w base n v L) : ∃ gs, With w base n v L gs := by
  obtain ⟨gs, h1, h2, h3, h4, _⟩ := h
  exact ⟨gs, h1, h2, h3, h4⟩

theorem With.kept {w w' : World} {base n : Nat} {v : Value} {L : List (List Value)} {gs : List (Nat × Nat)} (h : With w base n v L gs) (hb : Below w.heap.size w w') : With w' base n v L gs := by
  obtain ⟨h1, h2, h3, h4⟩ := h
  exact ⟨h1, kept_call h2 hb, fun i hi => kept_call (h3 i hi) hb, h4⟩

theorem with_snoc {X X' : World} {base n : Nat} {v v5 : Value} {gs : List (Nat × Nat)} {p : Nat × Nat} {L : List (List Value)} {q : List Value}
    (h : With X base n v L gs) (hp : X.ownsRow base 3 1 (sl n p) n q) (hfresh : ∀ r ∈ gs, r.1 ≠ p.1)
    (ho5 : X'.ownsRow base 22 1 v5 (L.length + 1) (gs.map (sl n) ++ [sl n p])) (hgrow : X.grownBy X' v.ownBlock) : With X' base n v5 (L ++ [q]) (gs ++ [p]) := by
  obtain ⟨h1, h2, h3, h4⟩ := h
  refine ⟨by simp [h1], by rw [List.length_append, List.map_append]; exact ho5, ?_, ?_⟩
  · intro i hi
    rw [List.length_append] at hi
    by_cases h : i < L.length
    · rw [getD_left (by omega), getD_left h]
      exact own_mark (h3 i h) hgrow (fun a ha e => own_types h2 (h3 i h) (by decide) e ha)
    · have hi2 : i = L.length := by simp at hi; omega
      subst hi2
      rw [getD_right (by omega), getD_right (Nat.le_refl _), h1, Nat.sub_self]
      exact own_mark hp hgrow (fun a ha e => own_types h2 hp (by decide) e ha)
  · rw [List.map_append, List.nodup_append]
    refine ⟨h4, by simp, ?_⟩
    intro a ha b hb e
    simp at hb
    subst hb
    obtain ⟨r, hr, rfl⟩ := List.mem_map.1 ha
    exact hfresh r hr e

theorem with_mark {w w' : World} {row : Option Nat} {base n : Nat} {v : Value} {L : List (List Value)} {gs : List (Nat × Nat)} (h : With w base n v L gs) (hg : w.grownBy w' row) (hv : ∀ a, row = some a → v.ownBlock ≠ some a) (hin : ∀ a, row = some a → ∀ i, i < L.length → (gs.getD i (0, 0)).1 ≠ a) : With w' base n v L gs := by
  obtain ⟨h1, h2, h3, h4⟩ := h
  exact ⟨h1, own_mark h2 hg (fun a ha e => hv a e ha), fun i hi => own_mark (h3 i hi) hg (fun a ha e => hin a e i hi (Option.some.inj ha)), h4⟩

theorem filter_next {α : Type} (f : α → Bool) {l : List α} {i : Nat} (h : i < l.length) : (l.take (i + 1)).filter f = (l.take i).filter f ++ (if f l[i] = true then [l[i]] else []) := by
  rw [List.take_succ_eq_append_getElem h, List.filter_append]
  simp [List.filter_cons]

end Go.Proofs.Yteiocoahllnoeaa.SpecPlC

/-
  Contracts: the model and the program put a last number behind an order. Conditions: the list can be read and has at most 2^20 numbers.
-/
namespace Go.Proofs.Yteiocoahllnoeaa.InsertC
open Go.RowKit SeesC IntsC ExactC OrdMath InC OrderC PatMath ShapeC

/-- The number behind an insertion. -/
def up (k z : Int) : Int := if k ≤ z then z + 1 else z

theorem ins_up (zs : List Int) (k : Int) : ins zs k = zs.map (up k) ++ [k] := rfl

theorem up_at {zs : List Int} {i : Nat} {k z : Int} (h : i < zs.length) (hz : zs.getD i 0 = z) : (zs.map (up k)).getD i 0 = up k z := by
  rw [← hz]; simp [h]

theorem vals_snoc (zs : List Int) (k : Int) : vals (zs ++ [k]) = vals zs ++ [.int .i64 k] := by simp

end Go.Proofs.Yteiocoahllnoeaa.InsertC

/-
  Contracts: which lists of patterns are valid, and whether an order avoids all of some patterns; AvoidsAll, CountChildren of the model and of the program. Conditions: at most 2^20 numbers together.
-/
namespace Go.Proofs.Yteiocoahllnoeaa.AvoidC
open Go.RowKit SeesC IntsC ExactC OrdMath OrdFacts InC OrderC PatMath ShapeC InsertC ListsC ListsEC ListsFC PlacesC HasC SpecPlC LLC

/-- Patterns are valid, and not too many. -/
def pats (L : List (List Int)) : Bool := decide (L.length ≤ 4 ∧ ∀ p ∈ L, Ord p)

theorem pats_iff {L : List (List Int)} : pats L = true ↔ L.length ≤ 4 ∧ ∀ p ∈ L, Ord p := by unfold pats; rw [decide_eq_true_eq]

theorem pats_many {L : List (List Int)} (h : 4 < L.length) : pats L = false := by
  rw [Bool.eq_false_iff]; intro h2; have := (pats_iff.1 h2).1; omega

theorem pats_bad {L : List (List Int)} {i : Nat} (hi : i < L.length) (h : isOrd (L.getD i []) = false) : pats L = false := by
  rw [Bool.eq_false_iff]; intro h2
  have := (pats_iff.1 h2).2 _ (getD_memL hi)
  exact (of_decide_eq_false h) this

theorem pats_yes {L : List (List Int)} (h1 : L.length ≤ 4) (h2 : ∀ i, i < L.length → isOrd (L.getD i []) = true) : pats L = true := by
  rw [pats_iff]
  refine ⟨h1, fun p hp => ?_⟩
  obtain ⟨i, hi, e⟩ := List.mem_iff_getElem.1 hp
  have := h2 i hi
  have e2 : L.getD i [] = p := by rw [← e]; simp [hi]
  rw [e2] at this
  exact of_decide_eq_true this

def avoids (zs : List Int) (L : List (List Int)) : Bool := L.all (fun p => !has zs p)

theorem avoids_no {zs : List Int} {L : List (List Int)} {i : Nat} (hi : i < L.length) (h : has zs (L.getD i []) = true) : avoids zs L = false := by
  rw [Bool.eq_false_iff]; intro h2
  unfold avoids at h2
  rw [List.all_eq_true] at h2
  have := h2 _ (getD_memL hi)
  rw [h] at this
  cases this

theorem avoids_yes {zs : List Int} {L : List (List Int)} (h : ∀ i, i < L.length → has zs (L.getD i []) = false) : avoids zs L = true := by
  unfold avoids
  rw [List.all_eq_true]
  intro p hp
  obtain ⟨i, hi, e⟩ := List.mem_iff_getElem.1 hp
  have := h i hi
  have e2 : L.getD i [] = p := by rw [← e]; simp [hi]
  rw [e2] at this
  rw [this]; rfl

end Go.Proofs.Yteiocoahllnoeaa.AvoidC

/-
  Contracts: AvoidsAll, CountChildren of the model and of the program. Conditions: at most 2^20 numbers together.
-/
namespace Go.Proofs.Yteiocoahllnoeaa.PubBC
open Go.RowKit SeesC IntsC ExactC OrdMath OrdFacts InC OrderC PatMath ShapeC InsertC ListsC ListsEC ListsFC PlacesC HasC SpecPlC LLC AvoidC

def avoidsAns (zs : List Int) (L : List (List Int)) : Bool × Bool := if Ord zs ∧ pats L = true then (avoids zs L, true) else (false, false)

/-- For how many of the first k numbers the order with it behind avoids all. -/
def kids (zs : List Int) (L : List (List Int)) : Nat → Nat
  | 0 => 0
  | k + 1 => kids zs L k + (if avoids (ins zs ((k : Int) + 1)) L = true then 1 else 0)

theorem kids_le (zs : List Int) (L : List (List Int)) : ∀ k, kids zs L k ≤ k := by
  intro k
  induction k with
  | zero => simp [kids]
  | succ k ih => unfold kids; split <;> omega

def childrenAns (zs : List Int) (L : List (List Int)) : Int × Bool := if Ord zs ∧ zs.length ≠ 7 ∧ pats L = true then ((kids zs L (zs.length + 1) : Nat), true) else (0, false)

theorem ins_nodup {zs : List Int} (h : zs.Nodup) (k : Int) : (ins zs k).Nodup := by
  unfold ins
  rw [List.nodup_append]
  refine ⟨?_, by simp, ?_⟩
  · rw [List.nodup_iff_pairwise_ne, List.pairwise_map]
    refine List.Pairwise.imp ?_ (List.nodup_iff_pairwise_ne.1 h)
    intro a b hab
    split <;> split <;> omega
  · intro x hx y hy e
    simp at hy
    obtain ⟨z, _, rfl⟩ := List.mem_map.1 hx
    split at e <;> omega

theorem ins_ord {zs : List Int} (h : Ord zs) (h7 : zs.length ≠ 7) {k : Int} (h1 : 1 ≤ k) (h2 : k ≤ (zs.length : Int) + 1) : Ord (ins zs k) := by
  refine ⟨by rw [ins_len]; omega, by rw [ins_len]; have := h.2.1; omega, ?_, ins_nodup h.2.2.2 k⟩
  intro z hz
  rw [ins_len]
  unfold ins at hz
  rw [List.mem_append] at hz
  rcases hz with hz | hz
  · obtain ⟨y, hy, rfl⟩ := List.mem_map.1 hz
    have := h.2.2.1 y hy
    split <;> omega
  · simp at hz
    omega

end Go.Proofs.Yteiocoahllnoeaa.PubBC

/-
  The mathematics of orders that avoid patterns: those made by insertion are those of all orders; the least one is the first. Conditions: none. Plain facts: nothing of the program.
-/
namespace Go.Proofs.Yteiocoahllnoeaa.AvMath
open OrdMath OrdFacts PatMath DropMath InsertC CmpC ListsBC AvoidC PubBC

theorem up_lt {k a b : Int} : up k a < up k b ↔ a < b := by unfold up; split <;> split <;> omega
theorem up_inj {k a b : Int} (h : up k a = up k b) : a = b := by unfold up at h; split at h <;> split at h <;> omega

theorem alike_up (k : Int) (ys : List Int) : PatMath.Alike (ys.map (up k)) ys := by
  refine ⟨by simp, fun i j hi hj => ?_⟩
  have hi2 : i < ys.length := by simpa using hi
  have hj2 : j < ys.length := by simpa using hj
  rw [up_at hi2 rfl, up_at hj2 rfl]
  exact up_lt

theorem pick_ins {x : List Int} {k : Int} {q : List Nat} (hq : ∀ p ∈ q, p < x.length) : pick (ins x k) q = (pick x q).map (up k) := by
  unfold pick
  rw [List.map_map]
  apply List.map_congr_left
  intro p hp
  have h := hq p hp
  show (ins x k).getD p 0 = up k (x.getD p 0)
  rw [ins_up, List.getD_eq_getElem?_getD, List.getElem?_append_left (by simpa using h), ← List.getD_eq_getElem?_getD, up_at h rfl]

theorem has_ins {x p : List Int} {k : Int} (h : has x p = true) : has (ins x k) p = true := by
  obtain ⟨q, hq, e⟩ := has_iff.1 h
  have ha := ch_asc _ _ (asc_nil _) q hq
  have hl := (ch_pre _ _ q hq).1
  have hm : q ∈ ch (ins x k).length p.length [] := by
    have h1 := mem_ch (n := (ins x k).length) p.length [] q ⟨ha.1, fun y hy => by rw [ins_len]; exact Nat.lt_succ_of_lt (ha.2 y hy)⟩ (by simpa using hl)
    exact h1
  refine has_iff.2 ⟨q, hm, ?_⟩
  rw [pick_ins ha.2, alike_shp (alike_up k _), e]

theorem avoids_ins {x : List Int} {k : Int} {L : List (List Int)} (h : avoids (ins x k) L = true) : avoids x L = true := by
  unfold avoids at *
  rw [List.all_eq_true] at *
  intro p hp
  have h1 := h p hp
  cases hx : has x p with
  | false => rfl
  | true => rw [has_ins hx] at h1; exact h1

/-- A list of the numbers 1 to n. -/
def OrdN (n : Nat) (zs : List Int) : Prop := zs.length = n ∧ (∀ z ∈ zs, 1 ≤ z ∧ z ≤ (n : Int)) ∧ zs.Nodup

theorem OrdN.ord {n : Nat} {zs : List Int} (h : OrdN n zs) (h1 : 1 ≤ n) (h7 : n ≤ 7) : Ord zs :=
  ⟨by rw [h.1]; exact h1, by rw [h.1]; exact h7, fun z hz => by rw [h.1]; exact h.2.1 z hz, h.2.2⟩

theorem ordN_of {zs : List Int} (h : Ord zs) : OrdN zs.length zs := ⟨rfl, h.2.2.1, h.2.2.2⟩

theorem ins_ordN {n : Nat} {x : List Int} {k : Int} (h : OrdN n x) (h1 : 1 ≤ k) (h2 : k ≤ (n : Int) + 1) : OrdN (n + 1) (ins x k) := by
  refine ⟨by rw [ins_len, h.1], fun z hz => ?_, ins_nodup h.2.2 k⟩
  unfold ins at hz
  rw [List.mem_append] at hz
  rcases hz with hz | hz
  · obtain ⟨y, hy, rfl⟩ := List.mem_map.1 hz
    have := h.2.1 y hy
    split <;> omega
  · simp at hz
    omega

def down (k z : Int) : Int := if k < z then z - 1 else z

theorem up_down {k z : Int} (h : z ≠ k) : up k (down k z) = z := by unfold up down; split <;> split <;> omega

theorem ordN_last {n : Nat} {zs : List Int} (h : OrdN (n + 1) zs) : ∃ x k, zs = ins x k ∧ OrdN n x ∧ 1 ≤ k ∧ k ≤ (n : Int) + 1 := by
  obtain ⟨hl, hr, hn⟩ := h
  have hne : zs ≠ [] := fun e => by rw [e] at hl; simp at hl
  obtain ⟨y, k, rfl⟩ : ∃ y k, zs = y ++ [k] := ⟨zs.dropLast, zs.getLast hne, (List.dropLast_concat_getLast hne).symm⟩
  have hyl : y.length = n := by simpa using hl
  rw [List.nodup_append] at hn
  have hk := hr k (by simp)
  have hyk : ∀ z ∈ y, z ≠ k := fun z hz e => hn.2.2 z hz k (by simp) e
  have e1 : (y.map (down k)).map (up k) = y := by
    rw [List.map_map]
    conv => rhs; rw [← List.map_id y]
    exact List.map_congr_left (fun z hz => up_down (hyk z hz))
  refine ⟨y.map (down k), k, by rw [ins_up, e1], ⟨by simp [hyl], fun z hz => ?_, ?_⟩, hk.1, by omega⟩
  · obtain ⟨a, ha, rfl⟩ := List.mem_map.1 hz
    have h1 := hr a (by simp [ha])
    have h2 := hyk a ha
    unfold down
    split <;> omega
  · have h3 : ((y.map (down k)).map (up k)).Nodup := by rw [e1]; exact hn.1
    exact List.Pairwise.of_map (up k) (fun a b hab e => hab (by rw [e])) h3

theorem ins_inj {x y : List Int} {k l : Int} (h : ins x k = ins y l) : x = y ∧ k = l := by
  rw [ins_up, ins_up] at h
  have h2 := List.append_inj' h rfl
  have e : k = l := by simpa using h2.2
  subst e
  exact ⟨(List.map_inj_right (fun a b hab => up_inj hab)).1 h2.1, rfl⟩

/-- Those that an order has one number more. -/
def chil (L : List (List Int)) (i : Nat) (x : List Int) : List (List Int) := ((List.range (i + 1)).map (fun (k : Nat) => ins x ((k : Int) + 1))).filter (fun y => avoids y L)

def av (L : List (List Int)) : Nat → List (List Int)
  | 0 => [[]]
  | i + 1 => (av L i).flatMap (chil L i)

theorem mem_av {L : List (List Int)} : ∀ {n : Nat} {zs : List Int}, zs ∈ av L n ↔ OrdN n zs ∧ (n = 0 ∨ avoids zs L = true) := by
  intro n
  induction n with
  | zero =>
    intro zs
    constructor
    · intro h
      have e : zs = [] := by simpa [av] using h
      subst e
      exact ⟨⟨rfl, by simp, by simp⟩, .inl rfl⟩
    · rintro ⟨⟨h, _⟩, _⟩
      have e : zs = [] := List.eq_nil_of_length_eq_zero h
      simp [av, e]
  | succ n ih =>
    intro zs
    show zs ∈ (av L n).flatMap (chil L n) ↔ _
    rw [List.mem_flatMap]
    constructor
    · rintro ⟨x, hx, hz⟩
      unfold chil at hz
      rw [List.mem_filter] at hz
      obtain ⟨k, hk, rfl⟩ := List.mem_map.1 hz.1
      rw [List.mem_range] at hk
      exact ⟨ins_ordN (ih.1 hx).1 (by omega) (by omega), .inr hz.2⟩
    · rintro ⟨ho, ha⟩
      obtain ⟨x, k, rfl, hx, h1, h2⟩ := ordN_last ho
      have ha2 : avoids (ins x k) L = true := by
        rcases ha with h | h
        · omega
        · exact h
      refine ⟨x, ih.2 ⟨hx, .inr (avoids_ins ha2)⟩, ?_⟩
      unfold chil
      rw [List.mem_filter]
      refine ⟨List.mem_map.2 ⟨(k - 1).toNat, by rw [List.mem_range]; omega, ?_⟩, ha2⟩
      congr 1
      omega

theorem nodup_av (L : List (List Int)) : ∀ n, (av L n).Nodup := by
  intro n
  induction n with
  | zero => simp [av]
  | succ n ih =>
    show ((av L n).flatMap (chil L n)).Pairwise (· ≠ ·)
    rw [List.pairwise_flatMap]
    constructor
    · intro x _
      unfold chil
      apply List.Pairwise.filter
      rw [List.pairwise_map]
      refine List.Pairwise.imp ?_ (List.nodup_iff_pairwise_ne.1 (List.nodup_range (n := n + 1)))
      intro a b hab e
      have := (ins_inj e).2
      omega
    · refine List.Pairwise.imp ?_ (List.nodup_iff_pairwise_ne.1 ih)
      intro x y hxy u hu v hv e
      unfold chil at hu hv
      rw [List.mem_filter] at hu hv
      obtain ⟨k, _, rfl⟩ := List.mem_map.1 hu.1
      obtain ⟨l, _, rfl⟩ := List.mem_map.1 hv.1
      exact hxy (ins_inj e).1

/-! ### All orders -/
def allOrd (n : Nat) : List (List Int) := (List.range (fact n)).map (fun k => atRun n (iota n) k)

theorem mem_allOrd {n : Nat} {zs : List Int} (h1 : 1 ≤ n) (h7 : n ≤ 7) : zs ∈ allOrd n ↔ OrdN n zs := by
  unfold allOrd
  rw [List.mem_map]
  constructor
  · rintro ⟨k, hk, rfl⟩
    rw [List.mem_range] at hk
    have h := (rank_of_at h1 h7 hk).1
    have hl := atRun_len n (iota n) k
    have h2 := ordN_of h
    rw [hl] at h2
    exact h2
  · intro h
    have h2 := at_of_rank (h.ord h1 h7)
    rw [h.1] at h2
    exact ⟨_, List.mem_range.2 h2.1, h2.2⟩

theorem allOrd_ranks (n : Nat) : (allOrd n).Pairwise (fun a b => rankR a < rankR b) := by
  unfold allOrd
  rw [List.pairwise_map, List.pairwise_iff_getElem]
  intro i j hi hj hij
  have hi2 : i < fact n := by simpa using hi
  have hj2 : j < fact n := by simpa using hj
  rw [List.getElem_range, List.getElem_range, (rank_at n (iota n) i (iota_len n) (iota_sorted n) hi2).2, (rank_at n (iota n) j (iota_len n) (iota_sorted n) hj2).2]
  exact hij

def avOrd (n : Nat) (L : List (List Int)) : List (List Int) := (allOrd n).filter (fun y => avoids y L)

theorem mem_avOrd {n : Nat} {L : List (List Int)} {zs : List Int} (h1 : 1 ≤ n) (h7 : n ≤ 7) : zs ∈ avOrd n L ↔ zs ∈ av L n := by
  unfold avOrd
  rw [List.mem_filter, mem_allOrd h1 h7, mem_av]
  constructor
  · rintro ⟨a, b⟩; exact ⟨a, .inr b⟩
  · rintro ⟨a, b⟩
    refine ⟨a, ?_⟩
    rcases b with b | b
    · omega
    · exact b

theorem avOrd_ranks (n : Nat) (L : List (List Int)) : (avOrd n L).Pairwise (fun a b => rankR a < rankR b) := (allOrd_ranks n).filter _

theorem nodup_sub : ∀ {l m : List (List Int)}, l.Nodup → (∀ x ∈ l, x ∈ m) → l.length ≤ m.length
  | [], m, _, _ => by simp
  | a :: l, m, hn, hs => by
    have ha : a ∈ m := hs a (by simp)
    have hn2 := List.nodup_cons.1 hn
    have ih := nodup_sub (l := l) (m := m.erase a) hn2.2 (fun x hx => (List.mem_erase_of_ne (fun e => hn2.1 (by rw [← e]; exact hx))).2 (hs x (by simp [hx])))
    have h2 := List.length_erase_of_mem ha
    have h3 : 0 < m.length := List.length_pos_of_mem ha
    simp only [List.length_cons]
    omega

theorem av_count {n : Nat} {L : List (List Int)} (h1 : 1 ≤ n) (h7 : n ≤ 7) : (av L n).length = (avOrd n L).length := by
  have hn : (avOrd n L).Nodup := by
    refine List.Pairwise.imp ?_ (avOrd_ranks n L)
    intro a b h e
    rw [e] at h
    omega
  exact Nat.le_antisymm (nodup_sub (nodup_av L n) (fun x hx => (mem_avOrd h1 h7).2 hx)) (nodup_sub hn (fun x hx => (mem_avOrd h1 h7).1 hx))

theorem allOrd_len (n : Nat) : (allOrd n).length = fact n := by simp [allOrd]

theorem av_many {n : Nat} {L : List (List Int)} (h7 : n ≤ 7) : (av L n).length ≤ 5040 := by
  by_cases h1 : 1 ≤ n
  · rw [av_count h1 h7]
    exact Nat.le_trans (List.length_filter_le _ _) (by rw [allOrd_len]; exact fact_7 h7)
  · have : n = 0 := by omega
    subst this
    simp [av]

def countAvAns (n : Int) (L : List (List Int)) : Int × Bool := if 1 ≤ n ∧ n ≤ 7 ∧ pats L = true then (((avOrd n.toNat L).length : Nat), true) else (0, false)

/-! ### The first one -/
theorem rank_mono : ∀ (a b left : List Int), left.Pairwise (· < ·) → a.Perm left → b.Perm left → cmpL a b < 0 → rankR a < rankR b
  | [], b, left, _, ha, hb, h => by
    have : left = [] := by simpa using ha.symm
    subst this
    have : b = [] := by simpa using hb
    subst this
    exact absurd h (by simp [cmpL])
  | x :: a, [], left, _, ha, hb, _ => by
    have : left = [] := by simpa using hb.symm
    subst this
    exact absurd ha (by simp)
  | x :: a, y :: b, left, hp, ha, hb, h => by
    have hca : cl x a = cl x left := by rw [← cl_perm ha, cl_self]
    have hcb : cl y b = cl y left := by rw [← cl_perm hb, cl_self]
    have hlen : a.length = b.length := by have := ha.length_eq; have := hb.length_eq; simp at *; omega
    show cl x a * fact a.length + rankR a < cl y b * fact b.length + rankR b
    rw [hca, hcb, ← hlen]
    have hra := rankR_lt a
    unfold cmpL at h
    by_cases hxy : x < y
    · have hc : cl x left < cl y left := cl_lt_of_lt hxy (ha.mem_iff.1 (by simp))
      have h1 : (cl x left + 1) * fact a.length ≤ cl y left * fact a.length := Nat.mul_le_mul_right _ hc
      rw [Nat.add_mul] at h1
      omega
    · rw [if_neg hxy] at h
      by_cases hyx : y < x
      · rw [if_pos hyx] at h
        exact absurd h (by decide)
      · rw [if_neg hyx] at h
        have e : x = y := by omega
        subst e
        have h1 := sorted_at left x hp (ha.mem_iff.1 (by simp))
        have he := erase_perm h1.2
        rw [h1.1] at he
        have pa : a.Perm (left.eraseIdx (cl x left)) := (ha.trans he.symm).cons_inv
        have pb : b.Perm (left.eraseIdx (cl x left)) := (hb.trans he.symm).cons_inv
        have ih := rank_mono a b _ (hp.sublist (List.eraseIdx_sublist left _)) pa pb h
        omega

/-- The least of a list, from one on. -/
def least : List (List Int) → List Int → List Int
  | [], b => b
  | x :: t, b => least t (if cmpL x b < 0 then x else b)

theorem least_mem : ∀ (t : List (List Int)) (b : List Int), least t b = b ∨ least t b ∈ t
  | [], b => .inl rfl
  | x :: t, b => by
    unfold least
    rcases least_mem t (if cmpL x b < 0 then x else b) with h | h
    · rw [h]
      split
      · exact .inr (by simp)
      · exact .inl rfl
    · exact .inr (List.mem_cons_of_mem _ h)

theorem cmpL_ge_trans {a b c : List Int} (h1 : ¬ cmpL a b < 0) (h2 : ¬ cmpL b c < 0) : ¬ cmpL a c < 0 := by
  intro h
  have n1 := cmpL_neg a b
  have n2 := cmpL_neg b c
  by_cases e1 : cmpL a b = 0
  · have := cmpL_eq _ _ e1; subst this; exact h2 h
  by_cases e2 : cmpL b c = 0
  · have := cmpL_eq _ _ e2; subst this; exact h1 h
  have h3 := cmpL_lt_trans c b a (by omega) (by omega)
  have n3 := cmpL_neg a c
  omega

theorem least_min : ∀ (t : List (List Int)) (b : List Int), ∀ x ∈ b :: t, ¬ cmpL x (least t b) < 0
  | [], b, x, hx => by
    have : x = b := by simpa using hx
    subst this
    show ¬ cmpL x x < 0
    rw [cmpL_same]
    decide
  | y :: t, b, x, hx => by
    have ih := least_min t (if cmpL y b < 0 then y else b)
    show ¬ cmpL x (least t (if cmpL y b < 0 then y else b)) < 0
    have hm := ih (if cmpL y b < 0 then y else b) (by simp)
    rcases List.mem_cons.1 hx with rfl | hx
    · refine cmpL_ge_trans ?_ hm
      split
      · rename_i h
        intro h2
        have := cmpL_neg x y
        omega
      · rw [cmpL_same]; decide
    · rcases List.mem_cons.1 hx with rfl | hx
      · refine cmpL_ge_trans ?_ hm
        split
        · rw [cmpL_same]; decide
        · assumption
      · exact ih x (by simp [hx])

theorem ordN_perm {n : Nat} {zs : List Int} (h : OrdN n zs) : zs.Perm (iota n) :=
  perm_of_sub _ _ h.2.2 (fun x hx => mem_iota.2 (h.2.1 x hx)) (by rw [iota_len, h.1]; exact Nat.le_refl _)

theorem least_first {n : Nat} {L : List (List Int)} {h : List Int} {t : List (List Int)} (h1 : 1 ≤ n) (h7 : n ≤ 7) (hav : av L n = h :: t) : ∃ t', avOrd n L = least t h :: t' := by
  have hmem : least t h ∈ av L n := by
    rw [hav]
    rcases least_mem t h with e | e
    · rw [e]; simp
    · exact List.mem_cons_of_mem _ e
  have hm2 := (mem_avOrd h1 h7).2 hmem
  cases hao : avOrd n L with
  | nil => rw [hao] at hm2; simp at hm2
  | cons f t' =>
    refine ⟨t', ?_⟩
    have hf : f ∈ av L n := (mem_avOrd h1 h7).1 (by rw [hao]; simp)
    have hmin := least_min t h f (by rw [← hav]; exact hf)
    by_cases e : f = least t h
    · rw [e]
    · exfalso
      rw [hao] at hm2
      rcases List.mem_cons.1 hm2 with e2 | hin
      · exact e e2.symm
      · have hr := avOrd_ranks n L
        rw [hao, List.pairwise_cons] at hr
        have hlt := hr.1 _ hin
        by_cases hc : cmpL (least t h) f < 0
        · have := rank_mono _ _ (iota n) (iota_sorted n) (ordN_perm (mem_av.1 hmem).1) (ordN_perm (mem_av.1 hf).1) hc
          omega
        · have n1 := cmpL_neg f (least t h)
          have : cmpL f (least t h) = 0 := by omega
          exact e (cmpL_eq _ _ this)

theorem av_nil {n : Nat} {L : List (List Int)} (h1 : 1 ≤ n) (h7 : n ≤ 7) : av L n = [] ↔ avOrd n L = [] := by
  rw [← List.length_eq_zero_iff, av_count h1 h7, List.length_eq_zero_iff]

def firstAvAns (n : Int) (L : List (List Int)) : List Int × Bool := if 1 ≤ n ∧ n ≤ 7 ∧ pats L = true ∧ avOrd n.toNat L ≠ [] then ((avOrd n.toNat L).headD [], true) else ([], false)

theorem avOrd_len {n : Nat} {L : List (List Int)} {zs : List Int} (h : zs ∈ avOrd n L) : zs.length = n := by
  unfold avOrd allOrd at h
  rw [List.mem_filter] at h
  obtain ⟨k, _, rfl⟩ := List.mem_map.1 h.1
  exact atRun_len _ _ _

theorem firstAv_len {n : Int} {L : List (List Int)} {xs : List Int} {b : Bool} (h : firstAvAns n L = (xs, b)) : xs.length ≤ 1048576 := by
  unfold firstAvAns at h
  split at h
  · rename_i hc
    cases h
    obtain ⟨f, t, e⟩ := List.exists_cons_of_ne_nil hc.2.2.2
    rw [e]
    have := avOrd_len (n := n.toNat) (L := L) (zs := f) (by rw [e]; simp)
    show f.length ≤ 1048576
    omega
  · cases h
    simp

/-! ### The most places -/
def mostTo (n : Nat) (p : List Int) : Nat → List Int × Int
  | 0 => ([], -1)
  | k + 1 => if (mostTo n p k).2 < ((placesOf (atRun n (iota n) k) p).length : Int) then (atRun n (iota n) k, ((placesOf (atRun n (iota n) k) p).length : Int)) else mostTo n p k

def mostAns (n : Int) (p : List Int) : List Int × Int × Bool := if 1 ≤ n ∧ n ≤ 7 ∧ Ord p then ((mostTo n.toNat p (fact n.toNat)).1, (mostTo n.toNat p (fact n.toNat)).2, true) else ([], 0, false)

theorem mostTo_len (n : Nat) (p : List Int) : ∀ k, (mostTo n p k).1.length ≤ n := by
  intro k
  induction k with
  | zero => simp [mostTo]
  | succ k ih =>
    unfold mostTo
    split
    · rw [atRun_len]; exact Nat.le_refl _
    · exact ih

theorem most_len {n : Int} {p xs : List Int} {m : Int} {b : Bool} (h : mostAns n p = (xs, m, b)) : xs.length ≤ 1048576 := by
  unfold mostAns at h
  split at h
  · cases h
    have := mostTo_len n.toNat p (fact n.toNat)
    omega
  · cases h
    simp

end Go.Proofs.Yteiocoahllnoeaa.AvMath

/-
  Contracts: WordTo of the model and of the program. Conditions: lists of at most 2^20 numbers.
-/
namespace Go.Proofs.Yteiocoahllnoeaa.WordToC
open Go.RowKit SeesC IntsC ExactC NumC IterC OrdMath WordMath InC OrderC WordC RunC ToC ToImplC

set_option maxRecDepth 100000 in
set_option maxHeartbeats 1000000 in
theorem implTo (xs ys : List Int) (r' : ByteArray) (b : Bool) (h : toAns xs ys = (r', b)) (hx : xs.length ≤ 1048576) (hy : ys.length ≤ 1048576) (W : World) (v : Value) (n : Nat) (hv : Sees W v n (vals xs)) (u : Value) (m : Nat) (hu : Sees W u m (vals ys)) :
    Calls Try.prog 46 #[v, u] W fun e w' => e = .returned (.tuple #[.string r', .bool b]) ∧ Below W.heap.size W w' := by
  have hn : n ≤ 1048576 := by have := hv.1; simp at this; omega
  have hm : m ≤ 1048576 := by have := hu.1; simp at this; omega
  obtain ⟨r, hr⟩ : ∃ r, isOrd xs = r := ⟨_, rfl⟩
  obtain ⟨s, hs⟩ : ∃ s, isOrd ys = s := ⟨_, rfl⟩
  have CO := Go.Lib.hid (fun W' (hs' : Sees W' v n (vals xs)) => implOrder_any W' v n xs r hs' hn hr)
  have CP := Go.Lib.hid (fun W' (hs' : Sees W' u m (vals ys)) => implOrder_any W' u m ys s hs' hm hs)
  have HV := Go.Lib.hid hv
  have HU := Go.Lib.hid hu
  have hl : xs.length = n := by simpa using hv.1
  have hl' : ys.length = m := by simpa using hu.1
  unfold toAns at h
  obtain ⟨_, ad, cap, rfl, _, _⟩ := hv
  obtain ⟨_, ad', cap', rfl, _, _⟩ := hu
  cases r with
  | false =>
    rw [if_neg (by rintro ⟨h1, _⟩; unfold isOrd at hr; exact of_decide_eq_false hr h1)] at h
    cases h
    clear hr hs
    go_enter Try.func46, Try.ntmps46
    go_wp2_with fail
    refine (CO.out _ HV.out).mono ?_
    rintro e w1 ⟨rfl, hd⟩
    have HB1 : Hid (Below W.heap.size W w1) := Go.Lib.hid hd
    clear hd
    go_wp2_with fail
    go_ret2
    exact ⟨rfl, HB1.out⟩
  | true =>
    cases s with
    | false =>
      rw [if_neg (by rintro ⟨_, h1, _⟩; unfold isOrd at hs; exact of_decide_eq_false hs h1)] at h
      cases h
      clear hr hs
      go_enter Try.func46, Try.ntmps46
      go_wp2_with fail
      refine (CO.out _ HV.out).mono ?_
      rintro e w1 ⟨rfl, hd⟩
      have HB1 : Hid (Below W.heap.size W w1) := Go.Lib.hid hd
      clear hd
      go_wp2_with fail
      refine (CP.out _ (HU.out.grow HB1.out)).mono ?_
      rintro e w2 ⟨rfl, hd⟩
      have HB2 : Hid (Below W.heap.size W w2) := Go.Lib.hid (HB1.out.trans (hd.mono HB1.out.size))
      clear hd
      go_wp2_with fail
      go_ret2
      exact ⟨rfl, HB2.out⟩
    | true =>
      have hox : Ord xs := by unfold isOrd at hr; exact of_decide_eq_true hr
      have hoy : Ord ys := by unfold isOrd at hs; exact of_decide_eq_true hs
      clear hr hs
      by_cases hnm : n = m
      · subst hnm
        rw [if_pos ⟨hox, hoy, by omega⟩] at h
        have HA1 : Hid ((optAns (toRes xs ys)).1 = r' ∧ (optAns (toRes xs ys)).2 = b) := Go.Lib.hid (by rw [h]; exact ⟨rfl, rfl⟩)
        have CT := implTo_main xs ys hox hoy (by omega) W _ n HV.out _ HU.out
        rw [HA1.out.1, HA1.out.2] at CT
        exact CT
      · rw [if_neg (by rintro ⟨_, _, h1⟩; omega)] at h
        cases h
        have hne : ((n : Int) == (m : Int)) = false := by rw [beq_eq_false_iff_ne]; omega
        have hne2 : (n : Int) ≠ (m : Int) := by omega
        go_enter Try.func46, Try.ntmps46
        go_wp2_with fail
        refine (CO.out _ HV.out).mono ?_
        rintro e w1 ⟨rfl, hd⟩
        have HB1 : Hid (Below W.heap.size W w1) := Go.Lib.hid hd
        clear hd
        go_wp2_with fail
        refine (CP.out _ (HU.out.grow HB1.out)).mono ?_
        rintro e w2 ⟨rfl, hd⟩
        have HB2 : Hid (Below W.heap.size W w2) := Go.Lib.hid (HB1.out.trans (hd.mono HB1.out.size))
        clear hd
        go_wp2_with fail
        go_ret2
        exact ⟨rfl, HB2.out⟩

end Go.Proofs.Yteiocoahllnoeaa.WordToC
