/-
  An argument that is a list of lists of integers: opened, sized, copied, compared. Conditions: at most 2^20 numbers together.
-/
import Derived.Test.YtpkjnlabjmpokabDoorPx15
import Derived.Test.YtpkjnlabjmpokabDoorPx9
import Derived.Deep.Matrix

namespace Go.Proofs.YtpkjnlabjmpokabDoor.LLC
open Go.ChangeShapes Go.WideShapes Go.ChangeAt Go.RowKit SeesC IntsC ExactC ListsC ListsEC ListsFC OpenC

/-- A list of lists that is read. -/
def SeesLL (w : World) (v : Value) (L : List (List Int)) : Prop :=
  ∃ vs : List Value, vs.length = L.length ∧ Sees w v L.length vs ∧ ∀ i, i < L.length → Sees w (vs.getD i undef) (L.getD i []).length (vals (L.getD i []))

theorem SeesLL.grow {w w' : World} {v : Value} {L : List (List Int)} (h : SeesLL w v L) (hb : Below w.heap.size w w') : SeesLL w' v L := by
  obtain ⟨vs, h1, h2, h3⟩ := h
  exact ⟨vs, h1, h2.grow hb, fun i hi => (h3 i hi).grow hb⟩

theorem SeesLL.drawn {w w' : World} {v : Value} {L : List (List Int)} (h : SeesLL w v L) (hb : Drawn w w') : SeesLL w' v L := by
  obtain ⟨vs, h1, h2, h3⟩ := h
  exact ⟨vs, h1, hb.sees h2, fun i hi => hb.sees (h3 i hi)⟩

theorem SeesLL.value {w : World} {v : Value} {L : List (List Int)} (h : SeesLL w v L) : ∃ a c, v = .slice a L.length c := by
  obtain ⟨vs, h1, ⟨_, a, c, rfl, _, _⟩, h3⟩ := h
  exact ⟨a, c, rfl⟩

theorem SeesLL.at {w : World} {a : Option Addr} {N c i : Nat} {L : List (List Int)} (hN : L.length = N) (hi : i < N) (h : SeesLL w (.slice a N c) L) : ∃ b o u c1, a = some ⟨b, o, none⟩ ∧ w.cell? ⟨b, o + i, none⟩ = some (.slice u (L.getD i []).length c1) ∧ Sees w (.slice u (L.getD i []).length c1) (L.getD i []).length (vals (L.getD i [])) := by
  obtain ⟨vs, h1, ⟨h2, a', c', e, _, hc⟩, h3⟩ := h
  cases e
  obtain ⟨b, o, rfl, hcell⟩ := hc (by omega)
  have h4 := h3 i (by omega)
  have e1 : vs.getD i undef = vs[i]'(by omega) := by simp [show i < vs.length by omega]
  have h5 := hcell i (vs[i]'(by omega)) (by simp [show i < vs.length by omega])
  rw [e1] at h4
  have h6 := h4
  obtain ⟨_, u, c1, e, _, _⟩ := h6
  rw [e] at h4 h5
  exact ⟨b, o, u, c1, rfl, h5, h4⟩

/-- Lists that are owned, each in memory of its own. -/
def Rag (w : World) (base : Nat) (v : Value) (L : List (List Int)) : Prop :=
  ∃ gs : List (Nat × Nat), gs.length = L.length ∧ w.ownsRow base 24 1 v L.length ((List.range L.length).map fun i => sl (L.getD i []).length (gs.getD i (0, 0))) ∧
    (∀ i, i < L.length → w.ownsRow base 3 1 (sl (L.getD i []).length (gs.getD i (0, 0))) (L.getD i []).length (vals (L.getD i []))) ∧ (gs.map (·.1)).Nodup

theorem Rag.kept {w w' : World} {base : Nat} {v : Value} {L : List (List Int)} (h : Rag w base v L) (hb : Below w.heap.size w w') : Rag w' base v L := by
  obtain ⟨gs, h1, h2, h3, h4⟩ := h
  exact ⟨gs, h1, kept_call h2 hb, fun i hi => kept_call (h3 i hi) hb, h4⟩

theorem Rag.sees {w : World} {base : Nat} {v : Value} {L : List (List Int)} (h : Rag w base v L) : SeesLL w v L := by
  obtain ⟨gs, h1, h2, h3, h4⟩ := h
  refine ⟨_, by simp, Sees.owns h2, fun i hi => ?_⟩
  have e1 : ((List.range L.length).map fun i => sl (L.getD i []).length (gs.getD i (0, 0))).getD i undef = sl (L.getD i []).length (gs.getD i (0, 0)) := by
    rw [List.getD_eq_getElem?_getD, List.getElem?_map, List.getElem?_range hi]; rfl
  rw [e1]
  exact Sees.owns (h3 i hi)

/-- The room of lists of lists: themselves and their numbers. -/
def tot : List (List Int) → Nat
  | [] => 0
  | l :: L => l.length + tot L

theorem tot_next {L : List (List Int)} {i : Nat} (h : i < L.length) : tot (L.take (i + 1)) = tot (L.take i) + (L.getD i []).length := by
  induction L generalizing i with
  | nil => simp at h
  | cons l L ih =>
    cases i with
    | zero => simp [tot]
    | succ i =>
      have hi : i < L.length := by simpa using h
      have := ih hi
      simp only [List.take_succ_cons, tot, List.getD_cons_succ] at this ⊢
      omega

theorem tot_mem {L : List (List Int)} {l : List Int} (h : l ∈ L) : l.length ≤ tot L := by
  induction L with
  | nil => simp at h
  | cons a L ih =>
    rcases List.mem_cons.1 h with rfl | h
    · simp [tot]
    · have := ih h; simp [tot]; omega

theorem tot_take (L : List (List Int)) : ∀ i, tot (L.take i) ≤ tot L := by
  induction L with
  | nil => intro i; simp [tot]
  | cons a L ih =>
    intro i
    cases i with
    | zero => simp [tot]
    | succ i => simp only [List.take_succ_cons, tot]; have := ih i; omega

theorem getD_memL {L : List (List Int)} {i : Nat} (h : i < L.length) : L.getD i [] ∈ L := by
  have : L.getD i [] = L[i] := by simp [h]
  rw [this]; exact List.getElem_mem h

theorem made_nil (n : Nat) : (madeCells (Value.slice none 0 0).cells (n * 1)).toList = List.replicate n (.slice none 0 0) := by
  apply List.ext_getElem
  · simp [madeCells]
  · intro i h1 h2; simp [madeCells, Value.cells, Nat.mod_one]

/-- The rows copied so far. -/
def rowsTo (L : List (List Int)) (gs : List (Nat × Nat)) (k : Nat) : List Value := (List.range k).map fun i => sl (L.getD i []).length (gs.getD i (0, 0))

theorem getD_l {α : Type} {d : α} {A B : List α} {i : Nat} (h : i < A.length) : (A ++ B).getD i d = A.getD i d := by
  rw [List.getD_eq_getElem?_getD, List.getElem?_append_left h, ← List.getD_eq_getElem?_getD]

theorem rowsTo_next (L : List (List Int)) (gs : List (Nat × Nat)) (p : Nat × Nat) (k : Nat) (hk : gs.length = k) : rowsTo L (gs ++ [p]) (k + 1) = rowsTo L gs k ++ [sl (L.getD k []).length p] := by
  unfold rowsTo
  rw [List.range_succ, List.map_append]
  congr 1
  · apply List.map_congr_left
    intro i hi
    rw [List.mem_range] at hi
    rw [getD_l (by omega)]
  · simp [← hk]

theorem rows_set (X : List Value) (k n : Nat) (v z : Value) (hX : X.length = k) (hk : k < n) : (X ++ List.replicate (n - k) z).set k v = (X ++ [v]) ++ List.replicate (n - (k + 1)) z := by
  rw [List.set_append_right _ _ (by omega), hX, Nat.sub_self]
  have e : n - k = (n - (k + 1)) + 1 := by omega
  rw [e, List.replicate_succ, List.set_cons_zero, List.append_assoc]
  rfl

/-- An argument that is a list of lists of integers. -/
theorem sees_rows {H : Type} {enc : TypeId × Value → H} {P : Program} {W : World} {t e q : TypeId} {v : Value} {d : DataW H} {ps : List MemPlace} (ht : P.underlying t = some (.slice e)) (he : P.underlying e = some (.slice q)) (hq : P.underlying q = some (.int .i64)) (ce : P.cellsOf e = 1) (cq : P.cellsOf q = 1)
    {base : Nat} {r : Reach} (hok : Value.okWide P W r base t v) (h : DataW.Trod enc P W 0 (fun _ => true) true t v d ps) :
    ∃ (n : Nat) (L : List (List Int)), (L.length = n ∧ SeesLL W v L) ∧ n ≤ maxLen ∧ ∀ l ∈ L, l.length ≤ maxLen := by
  obtain ⟨a0, len0, cap0, rfl⟩ := okWide_slice ht hok
  obtain ⟨fuel, hf⟩ := h
  rcases Go.Deep.open_int_rows ht he hq ce cq hf with ⟨hcs, _⟩ | ⟨x, l, c, A, Ln, C, Z, hcs, _, hl, hm, _, hrow⟩
  · simp [Value.cells] at hcs
    obtain ⟨rfl, rfl, rfl⟩ := hcs
    exact ⟨0, [], ⟨rfl, [], rfl, Sees.nil _ _ _, fun i hi => absurd hi (by simp)⟩, by unfold maxLen; omega, by simp⟩
  · simp [Value.cells] at hcs
    obtain ⟨rfl, rfl, rfl⟩ := hcs
    refine ⟨len0, (List.range len0).map (fun i => (Z i).take (Ln i)), ⟨by simp, (List.range len0).map (fun i => .slice (A i) (Ln i) (C i)), by simp, ?_, ?_⟩, Nat.le_trans hl hm, ?_⟩
    · refine ⟨by simp, some x, cap0, by simp, by simpa using hl, fun hn => ?_⟩
      rw [List.length_map, List.length_range] at hn
      obtain ⟨b, o, rfl⟩ := addr_spot (hrow 0 (by omega)).1
      refine ⟨b, o, rfl, fun j u hu => ?_⟩
      rw [List.getElem?_map] at hu
      by_cases hj : j < len0
      · rw [List.getElem?_range hj] at hu
        simp at hu
        have h1 := (hrow j (by omega)).1
        rw [add_none] at h1
        rw [h1, ← hu]
      · rw [List.getElem?_eq_none (by simp; omega)] at hu
        simp at hu
    · intro i hi
      rw [List.length_map, List.length_range] at hi
      have e1 : ((List.range len0).map (fun i => (Z i).take (Ln i))).getD i [] = (Z i).take (Ln i) := by
        rw [List.getD_eq_getElem?_getD, List.getElem?_map, List.getElem?_range hi]; rfl
      have e2 : ((List.range len0).map (fun i => Value.slice (A i) (Ln i) (C i))).getD i undef = .slice (A i) (Ln i) (C i) := by
        rw [List.getD_eq_getElem?_getD, List.getElem?_map, List.getElem?_range hi]; rfl
      rw [e1, e2]
      obtain ⟨_, hLC, _, hZ, _, hnone, hcell⟩ := hrow i (by omega)
      have el : ((Z i).take (Ln i)).length = Ln i := by rw [List.length_take]; omega
      rw [el]
      refine ⟨by simp; omega, A i, C i, rfl, hLC, fun hn => ?_⟩
      cases hA : A i with
      | none => have := hnone hA; omega
      | some a' =>
        obtain ⟨_, hcl⟩ := hcell a' hA
        obtain ⟨b, o, rfl⟩ := addr_spot (hcl 0 (by omega))
        refine ⟨b, o, rfl, fun j u hu => ?_⟩
        rw [List.getElem?_map, List.getElem?_take] at hu
        split at hu
        · rename_i hj
          have hj2 : j < (Z i).length := by omega
          rw [List.getElem?_eq_getElem hj2] at hu
          simp at hu
          have h1 := hcl j (by omega)
          rw [add_none] at h1
          rw [h1, ← hu]
          simp [hj2]
        · simp at hu
    · intro l hl2
      rw [List.mem_map] at hl2
      obtain ⟨i, hi, rfl⟩ := hl2
      rw [List.mem_range] at hi
      obtain ⟨_, hLC, hCm, hZ, _⟩ := hrow i (by omega)
      rw [List.length_take]
      omega

end Go.Proofs.YtpkjnlabjmpokabDoor.LLC
