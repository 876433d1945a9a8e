/-
  Contracts and plain facts that the laws' texts lean on. Conditions: as each states.
-/
import Derived.Test.YtnhhnffolmgceaaGreatPv10
import Derived.Test.YtnhhnffolmgceaaGreatPv9
import Derived.Deep.Matrix
import Derived.Test.YtnhhnffolmgceaaGreatPv7

section
namespace Go.Proofs.YtnhhnffolmgceaaGreat.LLC
open Go.ChangeShapes Go.WideShapes Go.ChangeAt Go.RowKit SeesC IntsC ExactC ListsC ListsEC ListsFC OpenC

/-- A list of lists that is read. -/
def SeesLL (w : World) (v : Value) (L : List (List Int)) : Prop :=
  ∃ vs : List Value, vs.length = L.length ∧ Sees w v L.length vs ∧ ∀ i, i < L.length → Sees w (vs.getD i undef) (L.getD i []).length (vals (L.getD i []))

theorem SeesLL.grow {w w' : World} {v : Value} {L : List (List Int)} (h : SeesLL w v L) (hb : Below w.heap.size w w') : SeesLL w' v L := by
  obtain ⟨vs, h1, h2, h3⟩ := h
  exact ⟨vs, h1, h2.grow hb, fun i hi => (h3 i hi).grow hb⟩

theorem SeesLL.drawn {w w' : World} {v : Value} {L : List (List Int)} (h : SeesLL w v L) (hb : Drawn w w') : SeesLL w' v L := by
  obtain ⟨vs, h1, h2, h3⟩ := h
  exact ⟨vs, h1, hb.sees h2, fun i hi => hb.sees (h3 i hi)⟩

theorem SeesLL.value {w : World} {v : Value} {L : List (List Int)} (h : SeesLL w v L) : ∃ a c, v = .slice a L.length c := by
  obtain ⟨vs, h1, ⟨_, a, c, rfl, _, _⟩, h3⟩ := h
  exact ⟨a, c, rfl⟩

theorem SeesLL.at {w : World} {a : Option Addr} {N c i : Nat} {L : List (List Int)} (hN : L.length = N) (hi : i < N) (h : SeesLL w (.slice a N c) L) : ∃ b o u c1, a = some ⟨b, o, none⟩ ∧ w.cell? ⟨b, o + i, none⟩ = some (.slice u (L.getD i []).length c1) ∧ Sees w (.slice u (L.getD i []).length c1) (L.getD i []).length (vals (L.getD i [])) := by
  obtain ⟨vs, h1, ⟨h2, a', c', e, _, hc⟩, h3⟩ := h
  cases e
  obtain ⟨b, o, rfl, hcell⟩ := hc (by omega)
  have h4 := h3 i (by omega)
  have e1 : vs.getD i undef = vs[i]'(by omega) := by simp [show i < vs.length by omega]
  have h5 := hcell i (vs[i]'(by omega)) (by simp [show i < vs.length by omega])
  rw [e1] at h4
  have h6 := h4
  obtain ⟨_, u, c1, e, _, _⟩ := h6
  rw [e] at h4 h5
  exact ⟨b, o, u, c1, rfl, h5, h4⟩

/-- Lists that are owned, each in memory of its own. -/
def Rag (w : World) (base : Nat) (v : Value) (L : List (List Int)) : Prop :=
  ∃ gs : List (Nat × Nat), gs.length = L.length ∧ w.ownsRow base 36 1 v L.length ((List.range L.length).map fun i => sl (L.getD i []).length (gs.getD i (0, 0))) ∧
    (∀ i, i < L.length → w.ownsRow base 3 1 (sl (L.getD i []).length (gs.getD i (0, 0))) (L.getD i []).length (vals (L.getD i []))) ∧ (gs.map (·.1)).Nodup

theorem Rag.kept {w w' : World} {base : Nat} {v : Value} {L : List (List Int)} (h : Rag w base v L) (hb : Below w.heap.size w w') : Rag w' base v L := by
  obtain ⟨gs, h1, h2, h3, h4⟩ := h
  exact ⟨gs, h1, kept_call h2 hb, fun i hi => kept_call (h3 i hi) hb, h4⟩

theorem Rag.sees {w : World} {base : Nat} {v : Value} {L : List (List Int)} (h : Rag w base v L) : SeesLL w v L := by
  obtain ⟨gs, h1, h2, h3, h4⟩ := h
  refine ⟨_, by simp, Sees.owns h2, fun i hi => ?_⟩
  have e1 : ((List.range L.length).map fun i => sl (L.getD i []).length (gs.getD i (0, 0))).getD i undef = sl (L.getD i []).length (gs.getD i (0, 0)) := by
    rw [List.getD_eq_getElem?_getD, List.getElem?_map, List.getElem?_range hi]; rfl
  rw [e1]
  exact Sees.owns (h3 i hi)

/-- The room of lists of lists: themselves and their numbers. -/
def tot : List (List Int) → Nat
  | [] => 0
  | l :: L => l.length + tot L

theorem tot_next {L : List (List Int)} {i : Nat} (h : i < L.length) : tot (L.take (i + 1)) = tot (L.take i) + (L.getD i []).length := by
  induction L generalizing i with
  | nil => simp at h
  | cons l L ih =>
    cases i with
    | zero => simp [tot]
    | succ i =>
      have hi : i < L.length := by simpa using h
      have := ih hi
      simp only [List.take_succ_cons, tot, List.getD_cons_succ] at this ⊢
      omega

theorem tot_mem {L : List (List Int)} {l : List Int} (h : l ∈ L) : l.length ≤ tot L := by
  induction L with
  | nil => simp at h
  | cons a L ih =>
    rcases List.mem_cons.1 h with rfl | h
    · simp [tot]
    · have := ih h; simp [tot]; omega

theorem tot_take (L : List (List Int)) : ∀ i, tot (L.take i) ≤ tot L := by
  induction L with
  | nil => intro i; simp [tot]
  | cons a L ih =>
    intro i
    cases i with
    | zero => simp [tot]
    | succ i => simp only [List.take_succ_cons, tot]; have := ih i; omega

theorem getD_memL {L : List (List Int)} {i : Nat} (h : i < L.length) : L.getD i [] ∈ L := by
  have : L.getD i [] = L[i] := by simp [h]
  rw [this]; exact List.getElem_mem h

theorem made_nil (n : Nat) : (madeCells (Value.slice none 0 0).cells (n * 1)).toList = List.replicate n (.slice none 0 0) := by
  apply List.ext_getElem
  · simp [madeCells]
  · intro i h1 h2; simp [madeCells, Value.cells, Nat.mod_one]

/-- The rows copied so far. -/
def rowsTo (L : List (List Int)) (gs : List (Nat × Nat)) (k : Nat) : List Value := (List.range k).map fun i => sl (L.getD i []).length (gs.getD i (0, 0))

theorem getD_l {α : Type} {d : α} {A B : List α} {i : Nat} (h : i < A.length) : (A ++ B).getD i d = A.getD i d := by
  rw [List.getD_eq_getElem?_getD, List.getElem?_append_left h, ← List.getD_eq_getElem?_getD]

theorem rowsTo_next (L : List (List Int)) (gs : List (Nat × Nat)) (p : Nat × Nat) (k : Nat) (hk : gs.length = k) : rowsTo L (gs ++ [p]) (k + 1) = rowsTo L gs k ++ [sl (L.getD k []).length p] := by
  unfold rowsTo
  rw [List.range_succ, List.map_append]
  congr 1
  · apply List.map_congr_left
    intro i hi
    rw [List.mem_range] at hi
    rw [getD_l (by omega)]
  · simp [← hk]

theorem rows_set (X : List Value) (k n : Nat) (v z : Value) (hX : X.length = k) (hk : k < n) : (X ++ List.replicate (n - k) z).set k v = (X ++ [v]) ++ List.replicate (n - (k + 1)) z := by
  rw [List.set_append_right _ _ (by omega), hX, Nat.sub_self]
  have e : n - k = (n - (k + 1)) + 1 := by omega
  rw [e, List.replicate_succ, List.set_cons_zero, List.append_assoc]
  rfl

/-- An argument that is a list of lists of integers. -/
theorem sees_rows {H : Type} {enc : TypeId × Value → H} {P : Program} {W : World} {t e q : TypeId} {v : Value} {d : DataW H} {ps : List MemPlace} (ht : P.underlying t = some (.slice e)) (he : P.underlying e = some (.slice q)) (hq : P.underlying q = some (.int .i64)) (ce : P.cellsOf e = 1) (cq : P.cellsOf q = 1)
    {base : Nat} {r : Reach} (hok : Value.okWide P W r base t v) (h : DataW.Trod enc P W 0 (fun _ => true) true t v d ps) :
    ∃ (n : Nat) (L : List (List Int)), (L.length = n ∧ SeesLL W v L) ∧ n ≤ maxLen ∧ ∀ l ∈ L, l.length ≤ maxLen := by
  obtain ⟨a0, len0, cap0, rfl⟩ := okWide_slice ht hok
  obtain ⟨fuel, hf⟩ := h
  rcases Go.Deep.open_int_rows ht he hq ce cq hf with ⟨hcs, _⟩ | ⟨x, l, c, A, Ln, C, Z, hcs, _, hl, hm, _, hrow⟩
  · simp [Value.cells] at hcs
    obtain ⟨rfl, rfl, rfl⟩ := hcs
    exact ⟨0, [], ⟨rfl, [], rfl, Sees.nil _ _ _, fun i hi => absurd hi (by simp)⟩, by unfold maxLen; omega, by simp⟩
  · simp [Value.cells] at hcs
    obtain ⟨rfl, rfl, rfl⟩ := hcs
    refine ⟨len0, (List.range len0).map (fun i => (Z i).take (Ln i)), ⟨by simp, (List.range len0).map (fun i => .slice (A i) (Ln i) (C i)), by simp, ?_, ?_⟩, Nat.le_trans hl hm, ?_⟩
    · refine ⟨by simp, some x, cap0, by simp, by simpa using hl, fun hn => ?_⟩
      rw [List.length_map, List.length_range] at hn
      obtain ⟨b, o, rfl⟩ := addr_spot (hrow 0 (by omega)).1
      refine ⟨b, o, rfl, fun j u hu => ?_⟩
      rw [List.getElem?_map] at hu
      by_cases hj : j < len0
      · rw [List.getElem?_range hj] at hu
        simp at hu
        have h1 := (hrow j (by omega)).1
        rw [add_none] at h1
        rw [h1, ← hu]
      · rw [List.getElem?_eq_none (by simp; omega)] at hu
        simp at hu
    · intro i hi
      rw [List.length_map, List.length_range] at hi
      have e1 : ((List.range len0).map (fun i => (Z i).take (Ln i))).getD i [] = (Z i).take (Ln i) := by
        rw [List.getD_eq_getElem?_getD, List.getElem?_map, List.getElem?_range hi]; rfl
      have e2 : ((List.range len0).map (fun i => Value.slice (A i) (Ln i) (C i))).getD i undef = .slice (A i) (Ln i) (C i) := by
        rw [List.getD_eq_getElem?_getD, List.getElem?_map, List.getElem?_range hi]; rfl
      rw [e1, e2]
      obtain ⟨_, hLC, _, hZ, _, hnone, hcell⟩ := hrow i (by omega)
      have el : ((Z i).take (Ln i)).length = Ln i := by rw [List.length_take]; omega
      rw [el]
      refine ⟨by simp; omega, A i, C i, rfl, hLC, fun hn => ?_⟩
      cases hA : A i with
      | none => have := hnone hA; omega
      | some a' =>
        obtain ⟨_, hcl⟩ := hcell a' hA
        obtain ⟨b, o, rfl⟩ := addr_spot (hcl 0 (by omega))
        refine ⟨b, o, rfl, fun j u hu => ?_⟩
        rw [List.getElem?_map, List.getElem?_take] at hu
        split at hu
        · rename_i hj
          have hj2 : j < (Z i).length := by omega
          rw [List.getElem?_eq_getElem hj2] at hu
          simp at hu
          have h1 := hcl j (by omega)
          rw [add_none] at h1
          rw [h1, ← hu]
          simp [hj2]
        · simp at hu
    · intro l hl2
      rw [List.mem_map] at hl2
      obtain ⟨i, hi, rfl⟩ := hl2
      rw [List.mem_range] at hi
      obtain ⟨_, hLC, hCm, hZ, _⟩ := hrow i (by omega)
      rw [List.length_take]
      omega

end Go.Proofs.YtnhhnffolmgceaaGreat.LLC

end

section
namespace Go.Proofs.YtnhhnffolmgceaaGreat.RagMarkC
open Go.RowKit SeesC IntsC ExactC ListsC ListsEC ListsFC LLC

/-- What lies below base, and from D on, is as it was. -/
structure Mid (base D : Nat) (w w' : World) : Prop where
  os : w'.os = w.os
  tape : w'.tape = w.tape
  output : w'.output = w.output
  size : w.heap.size ≤ w'.heap.size
  block : ∀ k, k < w.heap.size → (k < base ∨ D ≤ k) → w'.heap[k]? = w.heap[k]?

theorem Mid.refl (base D : Nat) (w : World) : Mid base D w w := ⟨rfl, rfl, rfl, Nat.le_refl _, fun _ _ _ => rfl⟩

theorem Mid.step {base D q : Nat} {w w' w'' : World} (h : Mid base D w w') (hg : w'.grownBy w'' (some q)) (h1 : base ≤ q) (h2 : q < D) : Mid base D w w'' :=
  ⟨hg.os.trans h.os, hg.tape.trans h.tape, hg.output.trans h.output, Nat.le_trans h.size hg.size, fun k hk hb => (hg.block k (Nat.lt_of_lt_of_le hk h.size) (by simp; omega)).trans (h.block k hk hb)⟩

theorem Mid.below {base D b : Nat} {w0 w w' : World} (h : Mid base D w w') (hb : Below b w0 w) (hle : b ≤ base) (hw : b ≤ w0.heap.size) : Below b w0 w' :=
  ⟨h.os.trans hb.os, h.tape.trans hb.tape, h.output.trans hb.output, Nat.le_trans hb.size h.size, fun k hk => (h.block k (Nat.lt_of_lt_of_le hk (Nat.le_trans hw hb.size)) (.inl (Nat.lt_of_lt_of_le hk hle))).trans (hb.block k hk)⟩

theorem Mid.own {base D b n : Nat} {ty : TypeId} {v : Value} {xs : List Value} {w w' : World} (h : Mid base D w w') (ho : w.ownsRow b ty 1 v n xs) (hne : ∀ q, v.ownBlock = some q → q < base ∨ D ≤ q) : w'.ownsRow b ty 1 v n xs := by
  have hlt := fun q hq => (ho.lt q hq).2
  rcases ho.2 with ⟨rfl, h0⟩ | ⟨g, cap, cur, rfl, hb, hg, hrest⟩
  · exact ⟨ho.1, .inl ⟨rfl, h0⟩⟩
  · exact ⟨ho.1, .inr ⟨g, cap, cur, rfl, hb, (h.block g (hlt g rfl) (hne g rfl)).trans hg, hrest⟩⟩

/-- A ragged list of which the rows lie below D. -/
def RagU (w : World) (base D : Nat) (v : Value) (L : List (List Int)) : Prop :=
  ∃ gs : List (Nat × Nat), gs.length = L.length ∧ w.ownsRow base 36 1 v L.length ((List.range L.length).map fun i => sl (L.getD i []).length (gs.getD i (0, 0))) ∧
    (∀ i, i < L.length → w.ownsRow base 3 1 (sl (L.getD i []).length (gs.getD i (0, 0))) (L.getD i []).length (vals (L.getD i []))) ∧ (gs.map (·.1)).Nodup ∧ ∀ i, i < L.length → (gs.getD i (0, 0)).1 < D

theorem Rag.under {w : World} {base : Nat} {v : Value} {L : List (List Int)} (h : Rag w base v L) : RagU w base w.heap.size v L := by
  obtain ⟨gs, h1, h2, h3, h4⟩ := h
  exact ⟨gs, h1, h2, h3, h4, fun i hi => (own_block_lt (h3 i hi) (q := (gs.getD i (0, 0)).1) rfl).2⟩

theorem RagU.rag {w : World} {base D : Nat} {v : Value} {L : List (List Int)} (h : RagU w base D v L) : Rag w base v L := by
  obtain ⟨gs, h1, h2, h3, h4, _⟩ := h
  exact ⟨gs, h1, h2, h3, h4⟩

theorem RagU.sees {w : World} {base D : Nat} {v : Value} {L : List (List Int)} (h : RagU w base D v L) : SeesLL w v L := h.rag.sees

theorem RagU.kept {w w' : World} {base D : Nat} {v : Value} {L : List (List Int)} (h : RagU w base D v L) (hb : Below w.heap.size w w') : RagU w' base D v L := by
  obtain ⟨gs, h1, h2, h3, h4, h5⟩ := h
  exact ⟨gs, h1, kept_call h2 hb, fun i hi => kept_call (h3 i hi) hb, h4, h5⟩

end Go.Proofs.YtnhhnffolmgceaaGreat.RagMarkC

end

section
namespace Go.Proofs.YtnhhnffolmgceaaGreat.RagResC
open Go.RowKit SeesC IntsC ExactC ListsC ListsEC ListsFC LLC RagMarkC

/-- Ragged lists and a truth value are returned, in memory of the call's own. -/
def RagTo (w : World) (e : Ending) (w' : World) (L : List (List Int)) (b : Bool) : Prop :=
  ∃ v, e = .returned (.tuple #[v, .bool b]) ∧ Rag w' w.heap.size v L ∧ Below w.heap.size w w'

/-- Ragged lists are returned, in memory of the call's own. -/
def LTo (w : World) (e : Ending) (w' : World) (L : List (List Int)) : Prop :=
  ∃ a c, e = .returned (.slice a L.length c) ∧ Rag w' w.heap.size (.slice a L.length c) L ∧ Below w.heap.size w w'

theorem lto_of {w w' : World} {a : Option Addr} {N c : Nat} {L M : List (List Int)} (h1 : Rag w' w.heap.size (.slice a N c) L) (h2 : Below w.heap.size w w') (hN : L.length = N) (hL : L = M) : LTo w (.returned (.slice a N c)) w' M := by
  subst hL; subst hN; exact ⟨a, c, rfl, h1, h2⟩

theorem Rag.lower {w : World} {base base' : Nat} {v : Value} {L : List (List Int)} (h : Rag w base v L) (hle : base' ≤ base) : Rag w base' v L := by
  obtain ⟨gs, h1, h2, h3, h4⟩ := h
  exact ⟨gs, h1, own_lower h2 hle, fun i hi => own_lower (h3 i hi) hle, h4⟩

theorem ragTo_below {w w1 w' : World} {e : Ending} {L : List (List Int)} {b : Bool} (hb : Below w.heap.size w w1) (h : RagTo w1 e w' L b) : RagTo w e w' L b := by
  obtain ⟨v, he, ho, hb2⟩ := h
  exact ⟨v, he, Rag.lower ho hb.size, hb.trans (hb2.mono hb.size)⟩

/-- An empty list of lists that was made. -/
theorem rag_made (w : World) (base : Nat) (hb : base ≤ w.heap.size) : Rag (w.alloc (.cells #[] 36)) base (.slice (some ⟨w.heap.size, 0, none⟩) 0 0) [] :=
  ⟨[], rfl, World.ownsRow_made _ _ _ hb (by unfold maxLen; omega) rfl, fun i hi => absurd hi (by simp), by simp⟩

theorem ragTo_none (w : World) (b : Bool) : RagTo w (.returned (.tuple #[.slice (some ⟨w.heap.size, 0, none⟩) 0 0, .bool b])) (w.alloc (.cells #[] 36)) [] b :=
  ⟨_, rfl, rag_made _ _ (Nat.le_refl _), (Below.refl _ _).alloc (Nat.le_refl _) _⟩

/-- Ragged lists all of which lie below D. -/
def RagV (w : World) (base D : Nat) (v : Value) (L : List (List Int)) : Prop :=
  RagU w base D v L ∧ ∀ q, v.ownBlock = some q → q < D

theorem Rag.ragv {w : World} {base : Nat} {v : Value} {L : List (List Int)} (h : Rag w base v L) : RagV w base w.heap.size v L :=
  ⟨Rag.under h, fun q hq => by obtain ⟨gs, _, h2, _⟩ := h; exact (own_block_lt h2 hq).2⟩

theorem RagV.sees {w : World} {base D : Nat} {v : Value} {L : List (List Int)} (h : RagV w base D v L) : SeesLL w v L := h.1.sees
theorem RagV.rag {w : World} {base D : Nat} {v : Value} {L : List (List Int)} (h : RagV w base D v L) : Rag w base v L := h.1.rag
theorem RagV.kept {w w' : World} {base D : Nat} {v : Value} {L : List (List Int)} (h : RagV w base D v L) (hb : Below w.heap.size w w') : RagV w' base D v L := ⟨h.1.kept hb, h.2⟩

/-- A list of numbers that lies elsewhere is written. -/
theorem ragv_mark {w w' : World} {base D b n : Nat} {v u : Value} {L : List (List Int)} {xs : List Value} (h : RagV w base D v L) (ho : w.ownsRow b 3 1 u n xs) (hg : w.grownBy w' u.ownBlock)
    (hq : ∀ q, u.ownBlock = some q → q < base ∨ D ≤ q) : RagV w' base D v L := by
  obtain ⟨⟨gs, h1, h2, h3, h4, h5⟩, h6⟩ := h
  refine ⟨⟨gs, h1, own_mark h2 hg (fun a ha e => own_types h2 ho (by decide) ha e), fun i hi => own_mark (h3 i hi) hg (fun a ha e => ?_), h4, h5⟩, h6⟩
  have e1 : (gs.getD i (0, 0)).1 = a := Option.some.inj ha
  have e2 := h5 i hi
  have e3 := (own_block_lt (h3 i hi) (q := (gs.getD i (0, 0)).1) rfl).1
  have e4 := hq a e
  omega

/-- What lies at D and behind it is written. -/
theorem ragv_below {w w' : World} {base D B : Nat} {v : Value} {L : List (List Int)} (h : RagV w base D v L) (hb : Below B w w') (hD : D ≤ B) : RagV w' base D v L := by
  obtain ⟨⟨gs, h1, h2, h3, h4, h5⟩, h6⟩ := h
  refine ⟨⟨gs, h1, own_below h2 hb (fun q hq => by have := h6 q hq; omega), fun i hi => own_below (h3 i hi) hb (fun q hq => ?_), h4, h5⟩, h6⟩
  have e1 : (gs.getD i (0, 0)).1 = q := Option.some.inj hq
  have e2 := h5 i hi
  omega

/-- The marks of lists of the shape of L, from a number on. -/
def marksR (k : Nat) : List (List Int) → List (List Int)
  | [] => []
  | l :: L => ((List.range l.length).map fun i => ((k + i : Nat) : Int)) :: marksR (k + l.length) L

theorem marksR_len : ∀ (L : List (List Int)) (k : Nat), (marksR k L).length = L.length
  | [], _ => rfl
  | l :: L, k => by simp [marksR, marksR_len L]

theorem marksR_at : ∀ (L : List (List Int)) (k i : Nat), i < L.length → (marksR k L).getD i [] = (List.range (L.getD i []).length).map fun j => ((k + tot (L.take i) + j : Nat) : Int)
  | [], _, i, h => absurd h (by simp)
  | l :: L, k, 0, _ => by simp [marksR, tot]
  | l :: L, k, i + 1, h => by
    have ih := marksR_at L (k + l.length) i (by simpa using h)
    show (marksR (k + l.length) L).getD i [] = _
    rw [ih]
    show (List.range (L.getD i []).length).map _ = (List.range (L.getD i []).length).map _
    congr 1
    funext j
    show ((k + l.length + tot (L.take i) + j : Nat) : Int) = ((k + (l.length + tot (L.take i)) + j : Nat) : Int)
    congr 1
    omega

theorem marksR_tot : ∀ (L : List (List Int)) (k : Nat), tot (marksR k L) = tot L
  | [], _ => rfl
  | l :: L, k => by simp [marksR, tot, marksR_tot L]

theorem marks_vals (k n : Nat) : vals ((List.range n).map fun i => ((k + i : Nat) : Int)) = imarks k n := by
  unfold vals imarks
  rw [List.map_map]; rfl

theorem marksR_row {L : List (List Int)} {k i : Nat} (h : i < L.length) : ((marksR k L).getD i []).length = (L.getD i []).length ∧ vals ((marksR k L).getD i []) = imarks (k + tot (L.take i)) (L.getD i []).length := by
  rw [marksR_at L k i h]
  exact ⟨by simp, marks_vals _ _⟩

end Go.Proofs.YtnhhnffolmgceaaGreat.RagResC

end

section
namespace Go.Proofs.YtnhhnffolmgceaaGreat.QueM
open OrdMath LLC

/-- A number behind one of some lists, or behind them all. -/
def putL (L : List (List Int)) (k : Nat) (x : Int) : List (List Int) :=
  if k < L.length then L.set k (L.getD k [] ++ [x]) else L ++ [[x]]

theorem putL_len (L : List (List Int)) (k : Nat) (x : Int) : (putL L k x).length = if k < L.length then L.length else L.length + 1 := by
  unfold putL; split <;> simp

theorem putL_le (L : List (List Int)) (k : Nat) (x : Int) : L.length ≤ (putL L k x).length ∧ (putL L k x).length ≤ L.length + 1 := by
  rw [putL_len]; split <;> omega

theorem tot_cat : ∀ (A B : List (List Int)), tot (A ++ B) = tot A + tot B
  | [], B => by simp [tot]
  | a :: A, B => by
    show a.length + tot (A ++ B) = a.length + tot A + tot B
    rw [tot_cat A B]; omega

theorem tot_set : ∀ (L : List (List Int)) (k : Nat) (r : List Int), k < L.length → tot (L.set k r) + (L.getD k []).length = tot L + r.length
  | [], k, r, h => absurd h (by simp)
  | l :: L, 0, r, _ => by
    show r.length + tot L + l.length = l.length + tot L + r.length
    omega
  | l :: L, k + 1, r, h => by
    have ih := tot_set L k r (by simpa using h)
    show l.length + tot (L.set k r) + (L.getD k []).length = l.length + tot L + r.length
    omega

theorem putL_tot (L : List (List Int)) (k : Nat) (x : Int) : tot (putL L k x) = tot L + 1 := by
  unfold putL
  split
  · rename_i h
    have := tot_set L k (L.getD k [] ++ [x]) h
    rw [List.length_append, List.length_singleton] at this
    omega
  · rw [tot_cat]; rfl

theorem getD_set_e {α : Type} {d x : α} {A : List α} {i : Nat} (h : i < A.length) : (A.set i x).getD i d = x := by
  rw [List.getD_eq_getElem?_getD, List.getElem?_set]; simp [h]
theorem getD_set_n {α : Type} {d x : α} {A : List α} {i j : Nat} (h : i ≠ j) : (A.set i x).getD j d = A.getD j d := by
  rw [List.getD_eq_getElem?_getD, List.getElem?_set, if_neg h, ← List.getD_eq_getElem?_getD]
theorem getD_app_l {α : Type} {d : α} {A B : List α} {i : Nat} (h : i < A.length) : (A ++ B).getD i d = A.getD i d := by
  rw [List.getD_eq_getElem?_getD, List.getElem?_append_left h, ← List.getD_eq_getElem?_getD]
theorem getD_app_r {α : Type} {d x : α} {A : List α} : (A ++ [x]).getD A.length d = x := by
  rw [List.getD_eq_getElem?_getD, List.getElem?_append_right (Nat.le_refl _)]; simp

/-- Each list has a number at least. -/
def Pos (L : List (List Int)) : Prop := ∀ i, i < L.length → 1 ≤ (L.getD i []).length

theorem pos_nil : Pos [] := fun i h => absurd h (by simp)

theorem putL_at (L : List (List Int)) (k i : Nat) (x : Int) (hk : k ≤ L.length) (hi : i < (putL L k x).length) :
    (putL L k x).getD i [] = if i = k then L.getD k [] ++ [x] else L.getD i [] := by
  rw [putL_len] at hi
  unfold putL
  by_cases h : k < L.length
  · rw [if_pos h] at hi ⊢
    by_cases e : i = k
    · subst e; rw [if_pos rfl, getD_set_e h]
    · rw [if_neg e, getD_set_n (fun x => e x.symm)]
  · rw [if_neg h] at hi ⊢
    have e1 : k = L.length := by omega
    subst e1
    by_cases e : i = L.length
    · subst e
      rw [if_pos rfl, getD_app_r]
      simp
    · rw [if_neg e, getD_app_l (by omega)]

theorem pos_put {L : List (List Int)} {k : Nat} {x : Int} (h : Pos L) (hk : k ≤ L.length) : Pos (putL L k x) := by
  intro i hi
  rw [putL_at L k i x hk hi]
  rw [putL_len] at hi
  split
  · simp
  · rename_i e
    exact h i (by split at hi <;> omega)

/-- The last number of a list. -/
def last (q : List Int) : Int := q.getD (q.length - 1) 0

/-- The first list whose last number is not greater. -/
def qAt : List (List Int) → Int → Nat
  | [], _ => 0
  | q :: Q, x => if last q > x then qAt Q x + 1 else 0

theorem qAt_le : ∀ (Q : List (List Int)) (x : Int), qAt Q x ≤ Q.length
  | [], _ => Nat.le_refl _
  | q :: Q, x => by
    have := qAt_le Q x
    unfold qAt
    split <;> simp <;> omega

theorem qAt_is : ∀ (Q : List (List Int)) (x : Int) (k : Nat), k ≤ Q.length → (∀ j, j < k → last (Q.getD j []) > x) → (k < Q.length → ¬ last (Q.getD k []) > x) → qAt Q x = k
  | [], _, k, h, _, _ => by
    have : k = 0 := by simpa using h
    subst this; rfl
  | q :: Q, x, 0, _, _, h3 => by
    have h := h3 (by simp)
    have h' : ¬ last q > x := h
    unfold qAt
    rw [if_neg h']
  | q :: Q, x, k + 1, h1, h2, h3 => by
    have h : last q > x := h2 0 (by omega)
    have ih := qAt_is Q x k (by simpa using h1) (fun j hj => h2 (j + 1) (by omega)) (fun hk => h3 (by simpa using hk))
    unfold qAt
    rw [if_pos h, ih]

/-- The queues of the first k numbers. -/
def qTo (zs : List Int) : Nat → List (List Int)
  | 0 => []
  | k + 1 => putL (qTo zs k) (qAt (qTo zs k) (zs.getD k 0)) (zs.getD k 0)

theorem qTo_ok (zs : List Int) : ∀ k, (qTo zs k).length ≤ k ∧ tot (qTo zs k) = k ∧ Pos (qTo zs k)
  | 0 => ⟨Nat.le_refl _, rfl, pos_nil⟩
  | k + 1 => by
    obtain ⟨h1, h2, h3⟩ := qTo_ok zs k
    have h4 := putL_le (qTo zs k) (qAt (qTo zs k) (zs.getD k 0)) (zs.getD k 0)
    refine ⟨by unfold qTo; omega, by unfold qTo; rw [putL_tot]; omega, ?_⟩
    unfold qTo
    exact pos_put h3 (qAt_le _ _)

def queuesAns (zs : List Int) : List (List Int) × Bool := if Ord zs then (qTo zs zs.length, true) else ([], false)
def fewAns (zs : List Int) : Int × Bool := if Ord zs then (((qTo zs zs.length).length : Nat), true) else (0, false)

/-- Into which run a number goes. -/
def runAt (zs : List Int) (R : List (List Int)) (k : Nat) : Nat := if k = 0 ∨ zs.getD k 0 < zs.getD (k - 1) 0 then R.length else R.length - 1

/-- The runs of the first k numbers. -/
def rTo (zs : List Int) : Nat → List (List Int)
  | 0 => []
  | k + 1 => putL (rTo zs k) (runAt zs (rTo zs k) k) (zs.getD k 0)

theorem runAt_le (zs : List Int) (R : List (List Int)) (k : Nat) : runAt zs R k ≤ R.length := by unfold runAt; split <;> omega

theorem rTo_ok (zs : List Int) : ∀ k, (rTo zs k).length ≤ k ∧ tot (rTo zs k) = k ∧ Pos (rTo zs k) ∧ (1 ≤ k → 1 ≤ (rTo zs k).length)
  | 0 => ⟨Nat.le_refl _, rfl, pos_nil, fun h => by omega⟩
  | k + 1 => by
    obtain ⟨h1, h2, h3, h5⟩ := rTo_ok zs k
    have h4 := putL_le (rTo zs k) (runAt zs (rTo zs k) k) (zs.getD k 0)
    refine ⟨by unfold rTo; omega, by unfold rTo; rw [putL_tot]; omega, ?_, fun _ => ?_⟩
    · unfold rTo
      exact pos_put h3 (runAt_le _ _ _)
    · unfold rTo
      rw [putL_len]
      split <;> omega

def runsAns (zs : List Int) : List (List Int) × Bool := if Ord zs then (rTo zs zs.length, true) else ([], false)

theorem ans_small {zs : List Int} (h : Ord zs) (L : List (List Int)) (h1 : L.length ≤ zs.length) (h2 : tot L = zs.length) : L.length + tot L ≤ 1048576 := by
  have := h.2.1; omega

theorem queues_alen {zs : List Int} {L : List (List Int)} {b : Bool} (h : queuesAns zs = (L, b)) : L.length + tot L ≤ 1048576 := by
  unfold queuesAns at h
  split at h
  · rename_i ho
    cases h
    have h1 := qTo_ok zs zs.length
    exact ans_small ho _ h1.1 h1.2.1
  · cases h; decide

theorem runs_alen {zs : List Int} {L : List (List Int)} {b : Bool} (h : runsAns zs = (L, b)) : L.length + tot L ≤ 1048576 := by
  unfold runsAns at h
  split at h
  · rename_i ho
    cases h
    have h1 := rTo_ok zs zs.length
    exact ans_small ho _ h1.1 h1.2.1
  · cases h; decide

theorem tot_row {L : List (List Int)} {i : Nat} (h : i < L.length) : (L.getD i []).length ≤ tot L := tot_mem (getD_memL h)

end Go.Proofs.YtnhhnffolmgceaaGreat.QueM

end

section
namespace Go.Proofs.YtnhhnffolmgceaaGreat.PassM
open OrdMath LLC QueM

/-- Where a number goes in a sorted list. -/
def putAt : List Int → Int → Nat
  | [], _ => 0
  | y :: l, x => if y < x then putAt l x + 1 else 0

theorem putAt_le : ∀ (l : List Int) (x : Int), putAt l x ≤ l.length
  | [], _ => Nat.le_refl _
  | y :: l, x => by
    have := putAt_le l x
    unfold putAt; split <;> simp <;> omega

theorem putAt_is : ∀ (l : List Int) (x : Int) (k : Nat), k ≤ l.length → (∀ j, j < k → l.getD j 0 < x) → (k < l.length → ¬ l.getD k 0 < x) → putAt l x = k
  | [], _, k, h, _, _ => by
    have : k = 0 := by simpa using h
    subst this; rfl
  | y :: l, x, 0, _, _, h3 => by
    have h : ¬ y < x := h3 (by simp)
    unfold putAt; rw [if_neg h]
  | y :: l, x, k + 1, h1, h2, h3 => by
    have h : y < x := h2 0 (by omega)
    have ih := putAt_is l x k (by simpa using h1) (fun j hj => h2 (j + 1) (by omega)) (fun hk => h3 (by simpa using hk))
    unfold putAt; rw [if_pos h, ih]

theorem putAt_lt : ∀ (l : List Int) (x : Int) (j : Nat), j < putAt l x → l.getD j 0 < x
  | [], _, j, h => absurd h (by simp [putAt])
  | y :: l, x, j, h => by
    unfold putAt at h
    split at h
    · rename_i hy
      cases j with
      | zero => exact hy
      | succ j => exact putAt_lt l x j (by omega)
    · omega

theorem putAt_ge : ∀ (l : List Int) (x : Int), putAt l x < l.length → x ≤ l.getD (putAt l x) 0
  | [], _, h => absurd h (by simp)
  | y :: l, x, h => by
    unfold putAt at h ⊢
    split
    · rename_i hy
      rw [if_pos hy] at h
      exact putAt_ge l x (by simpa using h)
    · rename_i hy
      show x ≤ y
      omega

def putI (l : List Int) (x : Int) : List Int := l.take (putAt l x) ++ [x] ++ l.drop (putAt l x)

theorem putI_perm (l : List Int) (x : Int) : (putI l x).Perm (l ++ [x]) := by
  unfold putI
  have h := List.perm_middle (a := x) (l₁ := l.take (putAt l x)) (l₂ := l.drop (putAt l x))
  rw [List.append_assoc, List.singleton_append]
  refine h.trans ?_
  rw [List.take_append_drop]
  exact (List.perm_append_singleton x l).symm

theorem sorted_getD {l : List Int} (h : l.Pairwise (· < ·)) {i j : Nat} (hij : i < j) (hj : j < l.length) : l.getD i 0 < l.getD j 0 := by
  have := List.pairwise_iff_getElem.1 h i j (by omega) hj hij
  simpa [show i < l.length by omega, hj] using this

theorem putI_sorted {l : List Int} {x : Int} (h : l.Pairwise (· < ·)) (hx : x ∉ l) : (putI l x).Pairwise (· < ·) := by
  unfold putI
  rw [List.append_assoc, List.pairwise_append, List.singleton_append, List.pairwise_cons]
  have hge : ∀ y ∈ l.drop (putAt l x), x < y := by
    intro y hy
    obtain ⟨i, hi, rfl⟩ := List.mem_iff_getElem.1 hy
    rw [List.length_drop] at hi
    have h1 := putAt_ge l x (by omega)
    rw [List.getElem_drop]
    have h2 : l.getD (putAt l x) 0 ≤ l[putAt l x + i] := by
      have e : l[putAt l x + i] = l.getD (putAt l x + i) 0 := by simp [show putAt l x + i < l.length by omega]
      rw [e]
      by_cases h0 : i = 0
      · subst h0; exact Int.le_refl _
      · exact Int.le_of_lt (sorted_getD h (by omega) (by omega))
    have h3 : x ≠ l[putAt l x + i] := fun e => hx (e ▸ List.getElem_mem _)
    omega
  refine ⟨h.sublist (List.take_sublist _ _), ⟨hge, h.sublist (List.drop_sublist _ _)⟩, ?_⟩
  intro a ha b hb
  obtain ⟨i, hi, rfl⟩ := List.mem_iff_getElem.1 ha
  rw [List.length_take] at hi
  have h1 := putAt_lt l x i (by omega)
  rw [List.getElem_take]
  have e : l[i] = l.getD i 0 := by simp [show i < l.length by omega]
  rw [← e] at h1
  rcases List.mem_cons.1 hb with rfl | hb
  · exact h1
  · have := hge b hb; omega

/-- Two runs made one. -/
def mrg (a b : List Int) : List Int := b.foldl putI a

theorem mrg_snoc (a b : List Int) (x : Int) : mrg a (b ++ [x]) = putI (mrg a b) x := by unfold mrg; rw [List.foldl_append]; rfl

theorem mrg_next (a b : List Int) {k : Nat} (h : k < b.length) : mrg a (b.take (k + 1)) = putI (mrg a (b.take k)) (b.getD k 0) := by
  rw [List.take_succ_eq_append_getElem h, mrg_snoc]; simp [h]

theorem mrg_perm (a : List Int) : ∀ (b : List Int), (mrg a b).Perm (a ++ b) := by
  intro b
  induction b generalizing a with
  | nil => simp [mrg]
  | cons x b ih =>
    show (mrg (putI a x) b).Perm _
    refine (ih (putI a x)).trans ?_
    refine ((putI_perm a x).append_right b).trans ?_
    rw [List.append_assoc]; exact List.Perm.refl _

theorem mrg_sorted : ∀ (b a : List Int), a.Pairwise (· < ·) → (a ++ b).Nodup → (mrg a b).Pairwise (· < ·)
  | [], a, h, _ => h
  | x :: b, a, h, hn => by
    have hx : x ∉ a := by
      intro hx
      rw [List.nodup_append] at hn
      exact hn.2.2 x hx x (by simp) rfl
    have hp : (putI a x ++ b).Perm (a ++ x :: b) := by
      refine ((putI_perm a x).append_right b).trans ?_
      rw [List.append_assoc]; exact List.Perm.refl _
    exact mrg_sorted b (putI a x) (putI_sorted h hx) (hp.nodup_iff.2 hn)

theorem mrg_len (a b : List Int) : (mrg a b).length = a.length + b.length := by rw [(mrg_perm a b).length_eq, List.length_append]

theorem sorted_one {l m : List Int} (hp : l.Perm m) (h1 : l.Pairwise (· < ·)) (h2 : m.Pairwise (· ≤ ·)) : l = m := by
  refine List.Perm.eq_of_pairwise (le := (· ≤ ·)) ?_ (h1.imp (fun h => Int.le_of_lt h)) h2 hp
  intro a b _ _ h3 h4
  omega

/-- The j-th pair of runs. -/
def pairAt (R : List (List Int)) (j : Nat) : List Int := if 2 * j + 1 < R.length then mrg (R.getD (2 * j) []) (R.getD (2 * j + 1) []) else R.getD (2 * j) []

def pairsTo (R : List (List Int)) : Nat → List Int
  | 0 => []
  | j + 1 => pairsTo R j ++ pairAt R j

def pass (zs : List Int) : List Int := pairsTo (rTo zs zs.length) (((rTo zs zs.length).length + 1) / 2)
def passAns (zs : List Int) : List Int × Bool := if Ord zs then (pass zs, true) else ([], false)

/-! ### Runs ascend -/

theorem flat_put (L : List (List Int)) (k : Nat) (x : Int) (h : L.length ≤ k + 1) (hk : k ≤ L.length) : (putL L k x).flatten = L.flatten ++ [x] := by
  unfold putL
  by_cases h1 : k < L.length
  · rw [if_pos h1]
    have hk2 : k = L.length - 1 := by omega
    rcases List.eq_nil_or_concat L with rfl | ⟨M, q, rfl⟩
    · simp at h1
    · rw [List.concat_eq_append] at *
      rw [List.length_append, List.length_singleton] at hk2
      have e : k = M.length := by omega
      subst e
      rw [List.set_append_right _ _ (Nat.le_refl _), getD_app_r]
      simp
  · rw [if_neg h1]; simp

theorem rTo_flat (zs : List Int) : ∀ k, k ≤ zs.length → (rTo zs k).flatten = zs.take k
  | 0, _ => by simp [rTo]
  | k + 1, hk => by
    have ih := rTo_flat zs k (by omega)
    unfold rTo
    have hn := (rTo_ok zs k).2.2.2
    rw [flat_put _ _ _ (by unfold runAt; split <;> omega) (runAt_le _ _ _), ih, List.take_succ_eq_append_getElem (by omega)]
    simp [show k < zs.length by omega]

/-- Each run ascends, and the last one ends with the number before. -/
theorem rTo_asc (zs : List Int) : ∀ k, k ≤ zs.length → (∀ i, i < (rTo zs k).length → ((rTo zs k).getD i []).Pairwise (· ≤ ·)) ∧
    (1 ≤ k → ∀ y ∈ (rTo zs k).getD ((rTo zs k).length - 1) [], y ≤ zs.getD (k - 1) 0)
  | 0, _ => ⟨fun i h => absurd h (by simp [rTo]), fun h => by omega⟩
  | k + 1, hk => by
    obtain ⟨ih1, ih2⟩ := rTo_asc zs k (by omega)
    have hpos := (rTo_ok zs k).2.2.2
    have hat : ∀ i, i < (putL (rTo zs k) (runAt zs (rTo zs k) k) (zs.getD k 0)).length → (putL (rTo zs k) (runAt zs (rTo zs k) k) (zs.getD k 0)).getD i [] = _ := fun i hi => putL_at _ _ i (zs.getD k 0) (runAt_le _ _ _) hi
    have hrow : ∀ y ∈ (rTo zs k).getD (runAt zs (rTo zs k) k) [], y ≤ zs.getD k 0 := by
      intro y hy
      unfold runAt at hy
      split at hy
      · simp at hy
      · rename_i h
        have := ih2 (by omega) y hy
        omega
    show (∀ i, i < (putL (rTo zs k) (runAt zs (rTo zs k) k) (zs.getD k 0)).length → ((putL (rTo zs k) (runAt zs (rTo zs k) k) (zs.getD k 0)).getD i []).Pairwise (· ≤ ·)) ∧
      (1 ≤ k + 1 → ∀ y ∈ (putL (rTo zs k) (runAt zs (rTo zs k) k) (zs.getD k 0)).getD ((putL (rTo zs k) (runAt zs (rTo zs k) k) (zs.getD k 0)).length - 1) [], y ≤ zs.getD (k + 1 - 1) 0)
    constructor
    · intro i hi
      rw [hat i hi]
      split
      · rename_i e
        rw [List.pairwise_append]
        refine ⟨?_, by simp, ?_⟩
        · by_cases h : runAt zs (rTo zs k) k < (rTo zs k).length
          · exact ih1 _ h
          · have e2 : (rTo zs k).getD (runAt zs (rTo zs k) k) [] = [] := by simp [List.getD_eq_getElem?_getD, List.getElem?_eq_none (show (rTo zs k).length ≤ runAt zs (rTo zs k) k by omega)]
            rw [e2]; exact List.Pairwise.nil
        · intro a ha b hb
          simp at hb
          subst hb
          exact hrow a ha
      · rename_i e
        rw [putL_len] at hi
        have := runAt_le zs (rTo zs k) k
        exact ih1 i (by split at hi <;> omega)
    · intro _ y hy
      have hlen := putL_len (rTo zs k) (runAt zs (rTo zs k) k) (zs.getD k 0)
      have e : (putL (rTo zs k) (runAt zs (rTo zs k) k) (zs.getD k 0)).length - 1 = runAt zs (rTo zs k) k := by
        rw [hlen]
        unfold runAt
        split <;> split <;> omega
      rw [e, hat _ (by rw [hlen]; have := runAt_le zs (rTo zs k) k; split <;> omega), if_pos rfl, List.mem_append] at hy
      rcases hy with hy | hy
      · exact hrow y hy
      · simp at hy; subst hy; exact Int.le_refl _

theorem mem_flat {L : List (List Int)} {i : Nat} (h : i < L.length) : (L.getD i []).Sublist L.flatten := by
  have : L.getD i [] = L[i] := by simp [h]
  rw [this]
  exact List.sublist_flatten_of_mem (List.getElem_mem h)

theorem nodup_lt {l : List Int} (h1 : l.Pairwise (· ≤ ·)) (h2 : l.Nodup) : l.Pairwise (· < ·) := by
  have h3 := List.nodup_iff_pairwise_ne.1 h2
  exact (List.pairwise_and_iff.2 ⟨h1, h3⟩).imp (fun h => by omega)

theorem run_asc {zs : List Int} (h : Ord zs) {i : Nat} (hi : i < (rTo zs zs.length).length) : ((rTo zs zs.length).getD i []).Pairwise (· < ·) := by
  refine nodup_lt ((rTo_asc zs zs.length (Nat.le_refl _)).1 i hi) ?_
  have h1 := rTo_flat zs zs.length (Nat.le_refl _)
  rw [List.take_of_length_le (Nat.le_refl _)] at h1
  exact (mem_flat hi).nodup (by rw [h1]; exact h.2.2.2)

theorem two_sub : ∀ {L : List (List Int)} {i : Nat}, i + 1 < L.length → (L.getD i [] ++ L.getD (i + 1) []).Sublist L.flatten
  | [], i, h => absurd h (by simp)
  | a :: L, 0, h => by
    cases L with
    | nil => simp at h
    | cons b M =>
      show (a ++ b).Sublist (a ++ (b ++ M.flatten))
      rw [← List.append_assoc]
      exact List.sublist_append_left _ _
  | a :: L, i + 1, h => by
    have ih := two_sub (L := L) (i := i) (by simpa using h)
    exact ih.trans (List.sublist_append_right _ _)

theorem pair_nodup {zs : List Int} (h : Ord zs) {i : Nat} (hi : i + 1 < (rTo zs zs.length).length) : ((rTo zs zs.length).getD i [] ++ (rTo zs zs.length).getD (i + 1) []).Nodup := by
  have h1 := rTo_flat zs zs.length (Nat.le_refl _)
  rw [List.take_of_length_le (Nat.le_refl _)] at h1
  exact (two_sub hi).nodup (by rw [h1]; exact h.2.2.2)

theorem pair_asc {zs : List Int} (h : Ord zs) {j : Nat} (hj : 2 * j < (rTo zs zs.length).length) : (pairAt (rTo zs zs.length) j).Pairwise (· < ·) := by
  unfold pairAt
  split
  · rename_i h2
    exact mrg_sorted _ _ (run_asc h hj) (pair_nodup h h2)
  · exact run_asc h hj

/-- The runs two by two, as they lie. -/
def flatTo (R : List (List Int)) (j : Nat) : List Int := (R.take (2 * j)).flatten

theorem take_flat {L : List (List Int)} {i : Nat} (h : i < L.length) : (L.take (i + 1)).flatten = (L.take i).flatten ++ L.getD i [] := by
  rw [List.take_succ_eq_append_getElem h, List.flatten_append]
  simp [h]

theorem pairsTo_perm (R : List (List Int)) : ∀ j, (pairsTo R j).Perm (R.take (2 * j)).flatten
  | 0 => by simp [pairsTo]
  | j + 1 => by
    have ih := pairsTo_perm R j
    show (pairsTo R j ++ pairAt R j).Perm _
    unfold pairAt
    by_cases h : 2 * j + 1 < R.length
    · rw [if_pos h, show 2 * (j + 1) = 2 * j + 1 + 1 by omega, take_flat h, take_flat (by omega), List.append_assoc]
      exact ih.append (mrg_perm _ _)
    · rw [if_neg h]
      by_cases h2 : 2 * j < R.length
      · rw [List.take_of_length_le (show R.length ≤ 2 * (j + 1) by omega)]
        have e : R.flatten = (R.take (2 * j)).flatten ++ R.getD (2 * j) [] := by
          rw [← take_flat h2, List.take_of_length_le (by omega)]
        rw [e]
        exact ih.append_right _
      · rw [List.take_of_length_le (show R.length ≤ 2 * (j + 1) by omega)]
        rw [List.take_of_length_le (show R.length ≤ 2 * j by omega)] at ih
        have e : R.getD (2 * j) [] = [] := by simp [List.getD_eq_getElem?_getD, List.getElem?_eq_none (show R.length ≤ 2 * j by omega)]
        rw [e, List.append_nil]
        exact ih

theorem pass_perm (zs : List Int) : (pass zs).Perm zs := by
  have h1 := rTo_flat zs zs.length (Nat.le_refl _)
  rw [List.take_of_length_le (Nat.le_refl _)] at h1
  have h2 := pairsTo_perm (rTo zs zs.length) (((rTo zs zs.length).length + 1) / 2)
  rw [List.take_of_length_le (by omega), h1] at h2
  exact h2

theorem perm_ord {zs ys : List Int} (h : ys.Perm zs) (ho : Ord zs) : Ord ys := by
  have hl := h.length_eq
  refine ⟨by rw [hl]; exact ho.1, by rw [hl]; exact ho.2.1, ?_, h.nodup_iff.2 ho.2.2.2⟩
  intro z hz
  rw [hl]
  exact ho.2.2.1 z (h.mem_iff.1 hz)

theorem pass_ord {zs : List Int} (h : Ord zs) : Ord (pass zs) := perm_ord (pass_perm zs) h
theorem pass_len (zs : List Int) : (pass zs).length = zs.length := (pass_perm zs).length_eq

/-- How many runs the first k numbers have. -/
def runN (zs : List Int) : Nat → Nat
  | 0 => 0
  | k + 1 => runN zs k + (if k = 0 ∨ zs.getD k 0 < zs.getD (k - 1) 0 then 1 else 0)

theorem runN_is (zs : List Int) : ∀ k, (rTo zs k).length = runN zs k
  | 0 => rfl
  | k + 1 => by
    have ih := runN_is zs k
    have hp := (rTo_ok zs k).2.2.2
    unfold rTo runN
    rw [putL_len]
    unfold runAt
    by_cases h : k = 0 ∨ zs.getD k 0 < zs.getD (k - 1) 0
    · rw [if_pos h, if_pos h, if_neg (by omega)]; omega
    · rw [if_neg h, if_neg h, if_pos (by have := hp (by omega); omega)]; omega

theorem runN_step (zs : List Int) (k : Nat) : runN zs k ≤ runN zs (k + 1) ∧ runN zs (k + 1) ≤ runN zs k + 1 := by
  show runN zs k ≤ runN zs k + _ ∧ runN zs k + _ ≤ _
  split <;> omega

/-- A part that ascends has one run at most. -/
theorem runN_part (P q S : List Int) (h : q.Pairwise (· < ·)) : ∀ m, m ≤ q.length → runN (P ++ q ++ S) (P.length + m) ≤ runN (P ++ q ++ S) P.length + (if m = 0 then 0 else 1)
  | 0, _ => by simp
  | m + 1, hm => by
    have ih := runN_part P q S h m (by omega)
    have hs := runN_step (P ++ q ++ S) (P.length + m)
    rw [← Nat.add_assoc, if_neg (by omega)]
    by_cases h0 : m = 0
    · subst h0
      rw [if_pos rfl] at ih
      omega
    · rw [if_neg h0] at ih
      show runN (P ++ q ++ S) (P.length + m) + _ ≤ _
      have e1 : (P ++ q ++ S).getD (P.length + m) 0 = q.getD m 0 := by
        rw [List.append_assoc, List.getD_eq_getElem?_getD, List.getElem?_append_right (by omega), List.getElem?_append_left (by omega), List.getD_eq_getElem?_getD]
        congr 2
        omega
      have e2 : (P ++ q ++ S).getD (P.length + m - 1) 0 = q.getD (m - 1) 0 := by
        rw [List.append_assoc, List.getD_eq_getElem?_getD, List.getElem?_append_right (by omega), List.getElem?_append_left (by omega), List.getD_eq_getElem?_getD]
        congr 2
        omega
      rw [e1, e2, if_neg (by have := sorted_getD h (show m - 1 < m by omega) (by omega); omega)]
      exact ih

theorem pairsTo_pre (R : List (List Int)) : ∀ m j, ∃ S, pairsTo R (j + m) = pairsTo R j ++ S
  | 0, j => ⟨[], by simp⟩
  | m + 1, j => by
    obtain ⟨S, h⟩ := pairsTo_pre R m j
    exact ⟨S ++ pairAt R (j + m), by show pairsTo R (j + m) ++ pairAt R (j + m) = _; rw [h, List.append_assoc]⟩

theorem pass_runs {zs : List Int} (h : Ord zs) : ∀ j, j ≤ ((rTo zs zs.length).length + 1) / 2 → runN (pass zs) (pairsTo (rTo zs zs.length) j).length ≤ j
  | 0, _ => by simp [pairsTo, runN]
  | j + 1, hj => by
    have ih := pass_runs h j (by omega)
    obtain ⟨S, hS⟩ := pairsTo_pre (rTo zs zs.length) (((rTo zs zs.length).length + 1) / 2 - (j + 1)) (j + 1)
    rw [show j + 1 + (((rTo zs zs.length).length + 1) / 2 - (j + 1)) = ((rTo zs zs.length).length + 1) / 2 by omega] at hS
    have e : pass zs = pairsTo (rTo zs zs.length) j ++ pairAt (rTo zs zs.length) j ++ S := hS
    have h2 := runN_part (pairsTo (rTo zs zs.length) j) (pairAt (rTo zs zs.length) j) S (pair_asc h (by omega)) (pairAt (rTo zs zs.length) j).length (Nat.le_refl _)
    rw [← e] at h2
    show runN (pass zs) (pairsTo (rTo zs zs.length) j ++ pairAt (rTo zs zs.length) j).length ≤ _
    rw [List.length_append]
    split at h2 <;> omega

theorem pass_less {zs : List Int} (h : Ord zs) : (rTo (pass zs) (pass zs).length).length ≤ ((rTo zs zs.length).length + 1) / 2 := by
  rw [runN_is]
  exact pass_runs h _ (Nat.le_refl _)

/-- How many passes sort. -/
def passes : Nat → List Int → Nat
  | 0, _ => 0
  | f + 1, zs => if (rTo zs zs.length).length ≤ 1 then 0 else passes f (pass zs) + 1

theorem passes_more : ∀ (f g : Nat) (zs : List Int), Ord zs → (rTo zs zs.length).length ≤ f + 1 → (rTo zs zs.length).length ≤ g + 1 → passes f zs = passes g zs
  | 0, 0, _, _, _, _ => rfl
  | 0, g + 1, zs, _, h, _ => by unfold passes; rw [if_pos (by omega)]
  | f + 1, 0, zs, _, _, h => by unfold passes; rw [if_pos (by omega)]
  | f + 1, g + 1, zs, ho, h1, h2 => by
    unfold passes
    by_cases h : (rTo zs zs.length).length ≤ 1
    · rw [if_pos h, if_pos h]
    · rw [if_neg h, if_neg h]
      have h3 := pass_less ho
      rw [passes_more f g (pass zs) (pass_ord ho) (by omega) (by omega)]

def passesAns (zs : List Int) : Int × Bool := if Ord zs then ((passes 7 zs : Nat), true) else (0, false)

theorem pass_alen {zs : List Int} {xs : List Int} {b : Bool} (h : passAns zs = (xs, b)) : xs.length ≤ 1048576 := by
  unfold passAns at h
  split at h
  · rename_i ho
    cases h
    rw [pass_len]; have := ho.2.1; omega
  · cases h; decide

/-- An order has one run just if it ascends. -/
theorem runs_one {zs : List Int} (h : Ord zs) : (rTo zs zs.length).length ≤ 1 ↔ ∀ k, k + 1 < zs.length → ¬ zs.getD (k + 1) 0 < zs.getD k 0 := by
  rw [runN_is]
  have key : ∀ n, n ≤ zs.length → 1 ≤ n → (runN zs n ≤ 1 ↔ ∀ k, k + 1 < n → ¬ zs.getD (k + 1) 0 < zs.getD k 0) ∧ 1 ≤ runN zs n := by
    intro n
    induction n with
    | zero => intro _ h; omega
    | succ n ih =>
      intro hn _
      by_cases h0 : n = 0
      · subst h0
        refine ⟨⟨fun _ k hk => by omega, fun _ => by simp [runN]⟩, by simp [runN]⟩
      · obtain ⟨ih1, ih2⟩ := ih (by omega) (by omega)
        have e : runN zs (n + 1) = runN zs n + (if n = 0 ∨ zs.getD n 0 < zs.getD (n - 1) 0 then 1 else 0) := rfl
        rw [e]
        by_cases hc : zs.getD n 0 < zs.getD (n - 1) 0
        · rw [if_pos (.inr hc)]
          refine ⟨⟨fun h => by omega, fun h => ?_⟩, by omega⟩
          have := h (n - 1) (by omega)
          rw [show n - 1 + 1 = n by omega] at this
          exact absurd hc this
        · rw [if_neg (by omega)]
          refine ⟨⟨fun h k hk => ?_, fun h => ?_⟩, by omega⟩
          · by_cases hkn : k + 1 = n
            · rw [hkn, show k = n - 1 by omega]; exact hc
            · exact ih1.1 (by omega) k (by omega)
          · have := ih1.2 (fun k hk => h k (by omega))
            omega
  exact (key zs.length (Nat.le_refl _) h.1).1

end Go.Proofs.YtnhhnffolmgceaaGreat.PassM

end

section
namespace Go.Proofs.YtnhhnffolmgceaaGreat.RowsM
open OrdMath LLC QueM PassM

/-- A number inserted into rows: the rows, and which of them has one place more. -/
def insR : List (List Int) → Int → List (List Int) × Nat
  | [], x => ([[x]], 0)
  | r :: R, x => if putAt r x < r.length then (r.set (putAt r x) x :: (insR R (r.getD (putAt r x) 0)).1, (insR R (r.getD (putAt r x) 0)).2 + 1) else ((r ++ [x]) :: R, 0)

/-- After j rows have made room: A is what has become of them, y is to be inserted below. -/
def Bumped (T : List (List Int)) (x : Int) (j : Nat) (A : List (List Int)) (y : Int) : Prop :=
  A.length = j ∧ insR T x = (A ++ (insR (T.drop j) y).1, j + (insR (T.drop j) y).2)

theorem bumped_start (T : List (List Int)) (x : Int) : Bumped T x 0 [] x := ⟨rfl, by simp⟩

theorem bumped_next {T : List (List Int)} {x y : Int} {j : Nat} {A : List (List Int)} (h : Bumped T x j A y) (hj : j < T.length) (hk : putAt (T.getD j []) y < (T.getD j []).length) :
    Bumped T x (j + 1) (A ++ [(T.getD j []).set (putAt (T.getD j []) y) y]) ((T.getD j []).getD (putAt (T.getD j []) y) 0) := by
  obtain ⟨h1, h2⟩ := h
  have e : T.drop j = T.getD j [] :: T.drop (j + 1) := by
    rw [List.drop_eq_getElem_cons hj]; simp [hj]
  refine ⟨by simp [h1], ?_⟩
  rw [h2, e]
  have e2 : insR (T.getD j [] :: T.drop (j + 1)) y = _ := rfl
  rw [show insR (T.getD j [] :: T.drop (j + 1)) y = if putAt (T.getD j []) y < (T.getD j []).length then ((T.getD j []).set (putAt (T.getD j []) y) y :: (insR (T.drop (j + 1)) ((T.getD j []).getD (putAt (T.getD j []) y) 0)).1, (insR (T.drop (j + 1)) ((T.getD j []).getD (putAt (T.getD j []) y) 0)).2 + 1) else ((T.getD j [] ++ [y]) :: T.drop (j + 1), 0) from rfl, if_pos hk]
  simp
  omega

/-- The end: the number goes behind row j, or below all. -/
theorem bumped_end {T : List (List Int)} {x y : Int} {j : Nat} {A : List (List Int)} (h : Bumped T x j A y) (hj : j ≤ T.length) (hk : j < T.length → ¬ putAt (T.getD j []) y < (T.getD j []).length) :
    insR T x = (putL (A ++ T.drop j) j y, j) := by
  obtain ⟨h1, h2⟩ := h
  rw [h2]
  by_cases hlt : j < T.length
  · have e : T.drop j = T.getD j [] :: T.drop (j + 1) := by
      rw [List.drop_eq_getElem_cons hlt]; simp [hlt]
    rw [e, show insR (T.getD j [] :: T.drop (j + 1)) y = if putAt (T.getD j []) y < (T.getD j []).length then ((T.getD j []).set (putAt (T.getD j []) y) y :: (insR (T.drop (j + 1)) ((T.getD j []).getD (putAt (T.getD j []) y) 0)).1, (insR (T.drop (j + 1)) ((T.getD j []).getD (putAt (T.getD j []) y) 0)).2 + 1) else ((T.getD j [] ++ [y]) :: T.drop (j + 1), 0) from rfl, if_neg (hk hlt)]
    unfold putL
    rw [if_pos (by rw [List.length_append, List.length_cons]; omega)]
    subst h1
    have e3 : (A ++ T.getD A.length [] :: T.drop (A.length + 1)).getD A.length [] = T.getD A.length [] := by
      rw [List.getD_eq_getElem?_getD, List.getElem?_append_right (Nat.le_refl _)]; simp
    rw [List.set_append_right _ _ (Nat.le_refl _), e3, Nat.sub_self]
    rfl
  · have e : T.drop j = [] := List.drop_of_length_le (by omega)
    rw [e]
    unfold putL
    rw [if_neg (by simp; omega)]
    simp [insR]

theorem insR_le : ∀ (T : List (List Int)) (x : Int), (insR T x).2 ≤ T.length ∧ (insR T x).1.length ≤ T.length + 1 ∧ T.length ≤ (insR T x).1.length ∧ tot (insR T x).1 = tot T + 1
  | [], x => by simp [insR, tot]
  | r :: R, x => by
    have ih := insR_le R (r.getD (putAt r x) 0)
    unfold insR
    split
    · refine ⟨Nat.succ_le_succ ih.1, Nat.succ_le_succ ih.2.1, Nat.succ_le_succ ih.2.2.1, ?_⟩
      show (r.set (putAt r x) x).length + tot (insR R (r.getD (putAt r x) 0)).1 = r.length + tot R + 1
      rw [List.length_set]; omega
    · refine ⟨by simp, by simp, by simp, ?_⟩
      show (r ++ [x]).length + tot R = r.length + tot R + 1
      simp; omega

/-- A row below one: not longer, greater at each place. -/
def Bel (r s : List Int) : Prop := s.length ≤ r.length ∧ ∀ j, j < s.length → r.getD j 0 < s.getD j 0

/-- Rows that ascend, as do their columns. -/
def Tab : List (List Int) → Prop
  | [] => True
  | [r] => r.Pairwise (· < ·)
  | r :: s :: R => r.Pairwise (· < ·) ∧ Bel r s ∧ Tab (s :: R)

theorem tab_tail {r : List Int} {R : List (List Int)} (h : Tab (r :: R)) : Tab R := by
  cases R with
  | nil => trivial
  | cons s S => exact h.2.2

theorem tab_head {r : List Int} {R : List (List Int)} (h : Tab (r :: R)) : r.Pairwise (· < ·) := by
  cases R with
  | nil => exact h
  | cons s S => exact h.1

theorem tab_cons {r : List Int} {R : List (List Int)} (h1 : r.Pairwise (· < ·)) (h2 : ∀ s S, R = s :: S → Bel r s) (h3 : Tab R) : Tab (r :: R) := by
  cases R with
  | nil => exact h1
  | cons s S => exact ⟨h1, h2 s S rfl, h3⟩

theorem tab_bel {r s : List Int} {S : List (List Int)} (h : Tab (r :: s :: S)) : Bel r s := h.2.1

theorem set_sorted {r : List Int} {x : Int} (h : r.Pairwise (· < ·)) (hk : putAt r x < r.length) (hx : x ∉ r) : (r.set (putAt r x) x).Pairwise (· < ·) ∧ x < r.getD (putAt r x) 0 := by
  have hlt : x < r.getD (putAt r x) 0 := by
    have h1 := putAt_ge r x hk
    have h2 : r.getD (putAt r x) 0 ∈ r := by
      have : r.getD (putAt r x) 0 = r[putAt r x] := by simp [hk]
      rw [this]; exact List.getElem_mem _
    have h3 : x ≠ r.getD (putAt r x) 0 := fun e => hx (e ▸ h2)
    omega
  refine ⟨?_, hlt⟩
  rw [List.pairwise_iff_getElem]
  intro i j hi hj hij
  rw [List.length_set] at hi hj
  have e : ∀ a (ha : a < r.length), r[a] = r.getD a 0 := fun a ha => by simp [ha]
  rw [List.getElem_set, List.getElem_set]
  by_cases c1 : putAt r x = i
  · rw [if_pos c1, if_neg (by omega), e j hj]
    have := sorted_getD h (show putAt r x < j by omega) hj
    omega
  · by_cases c2 : putAt r x = j
    · rw [if_neg c1, if_pos c2, e i hi]
      exact putAt_lt r x i (by omega)
    · rw [if_neg c1, if_neg c2, e i hi, e j hj]
      exact sorted_getD h hij hj

theorem snoc_sorted {r : List Int} {x : Int} (h : r.Pairwise (· < ·)) (hk : ¬ putAt r x < r.length) : (r ++ [x]).Pairwise (· < ·) := by
  rw [List.pairwise_append]
  refine ⟨h, by simp, ?_⟩
  intro a ha b hb
  simp at hb
  subst hb
  obtain ⟨i, hi, rfl⟩ := List.mem_iff_getElem.1 ha
  have := putAt_lt r b i (by omega)
  simpa [hi] using this

theorem getD_set_i {r : List Int} {k j : Nat} {x : Int} : (r.set k x).getD j 0 = if k = j ∧ j < r.length then x else r.getD j 0 := by
  by_cases h : k = j
  · subst h
    by_cases h2 : k < r.length
    · rw [if_pos ⟨rfl, h2⟩, getD_set_e h2]
    · rw [if_neg (by omega), List.set_eq_of_length_le (by omega)]
  · rw [if_neg (by omega), getD_set_n h]

theorem putAt_least {s : List Int} {y : Int} {j : Nat} (h : y < s.getD j 0) : putAt s y ≤ j := by
  by_cases h1 : putAt s y ≤ j
  · exact h1
  · have := putAt_lt s y j (by omega)
    omega

/-- What has been inserted is rows again. -/
theorem insR_tab : ∀ (T : List (List Int)) (x : Int), Tab T → (x :: T.flatten).Nodup → Tab (insR T x).1
  | [], x, _, _ => by show ([x] : List Int).Pairwise _; simp
  | r :: R, x, h, hn => by
    have hx : x ∉ r := fun hx => by
      rw [List.nodup_cons] at hn
      exact hn.1 (by simp [hx])
    unfold insR
    by_cases hk : putAt r x < r.length
    · rw [if_pos hk]
      obtain ⟨y, hy⟩ : ∃ y, r.getD (putAt r x) 0 = y := ⟨_, rfl⟩
      have hym : y ∈ r := by
        rw [← hy]
        have : r.getD (putAt r x) 0 = r[putAt r x] := by simp [hk]
        rw [this]; exact List.getElem_mem _
      have hnr : (r ++ R.flatten).Nodup := by
        rw [List.nodup_cons] at hn
        simpa using hn.2
      have hny : (y :: R.flatten).Nodup := by
        rw [List.nodup_append] at hnr
        rw [List.nodup_cons]
        exact ⟨fun hm => hnr.2.2 y hym y hm rfl, hnr.2.1⟩
      have ih := insR_tab R y (tab_tail h) hny
      have hss := set_sorted (tab_head h) hk hx
      rw [hy] at hss ⊢
      refine tab_cons hss.1 ?_ ih
      intro s S hS
      cases R with
      | nil =>
        cases hS
        refine ⟨by simp; omega, ?_⟩
        intro j hj
        have : j = 0 := by simpa using hj
        subst this
        show (r.set (putAt r x) x).getD 0 0 < y
        rw [getD_set_i]
        split
        · exact hss.2
        · rename_i h0
          rw [← hy]
          exact sorted_getD (tab_head h) (by omega) hk
      | cons s0 S0 =>
        have hb := tab_bel h
        have hle : ∀ j, (r.set (putAt r x) x).getD j 0 ≤ r.getD j 0 := by
          intro j
          rw [getD_set_i]
          split
          · rename_i h0; rw [← h0.1, hy]; omega
          · exact Int.le_refl _
        have hk2 : putAt s0 y ≤ putAt r x := by
          by_cases h1 : putAt r x < s0.length
          · exact putAt_least (by
              have h2 := hb.2 _ h1
              rw [hy] at h2
              exact h2)
          · have := putAt_le s0 y; omega
        have hput : (r.set (putAt r x) x).getD (putAt s0 y) 0 < y := by
          rw [getD_set_i]
          by_cases h1 : putAt r x = putAt s0 y
          · rw [if_pos ⟨h1, by omega⟩]; exact hss.2
          · rw [if_neg (by omega)]
            have h9 := sorted_getD (tab_head h) (i := putAt s0 y) (j := putAt r x) (by omega) hk
            rw [hy] at h9
            exact h9
        by_cases hk3 : putAt s0 y < s0.length
        · rw [show insR (s0 :: S0) y = if putAt s0 y < s0.length then (s0.set (putAt s0 y) y :: (insR S0 (s0.getD (putAt s0 y) 0)).1, (insR S0 (s0.getD (putAt s0 y) 0)).2 + 1) else ((s0 ++ [y]) :: S0, 0) from rfl, if_pos hk3] at hS
          have es : s = s0.set (putAt s0 y) y := by cases hS; rfl
          subst es
          refine ⟨by simp; exact hb.1, ?_⟩
          intro j hj
          rw [List.length_set] at hj
          rw [getD_set_i (r := s0)]
          by_cases h1 : putAt s0 y = j
          · rw [if_pos ⟨h1, hj⟩, ← h1]; exact hput
          · rw [if_neg (by omega)]
            exact Int.lt_of_le_of_lt (hle j) (hb.2 j hj)
        · rw [show insR (s0 :: S0) y = if putAt s0 y < s0.length then (s0.set (putAt s0 y) y :: (insR S0 (s0.getD (putAt s0 y) 0)).1, (insR S0 (s0.getD (putAt s0 y) 0)).2 + 1) else ((s0 ++ [y]) :: S0, 0) from rfl, if_neg hk3] at hS
          have es : s = s0 ++ [y] := by cases hS; rfl
          subst es
          have hk4 : putAt s0 y = s0.length := by have := putAt_le s0 y; omega
          rw [hk4] at hput hk2
          refine ⟨by simp; omega, ?_⟩
          intro j hj
          rw [List.length_append, List.length_singleton] at hj
          by_cases h1 : j < s0.length
          · rw [getD_app_l h1]
            exact Int.lt_of_le_of_lt (hle j) (hb.2 j h1)
          · have : j = s0.length := by omega
            subst this
            rw [getD_app_r]
            exact hput
    · rw [if_neg hk]
      refine tab_cons (snoc_sorted (tab_head h) hk) ?_ (tab_tail h)
      intro s S hS
      subst hS
      have hb := tab_bel h
      refine ⟨by simp; have := hb.1; omega, fun j hj => ?_⟩
      rw [getD_app_l (by have := hb.1; omega)]
      exact hb.2 j hj

theorem perm_set {r : List Int} {k : Nat} {x : Int} (hk : k < r.length) : (r.getD k 0 :: r.set k x).Perm (x :: r) := by
  have e : r.getD k 0 = r[k] := by simp [hk]
  rw [e]
  have h1 : r = r.take k ++ r[k] :: r.drop (k + 1) := by
    rw [← List.drop_eq_getElem_cons hk, List.take_append_drop]
  have h2 : r.set k x = r.take k ++ x :: r.drop (k + 1) := by
    rw [List.set_eq_take_append_cons_drop, if_pos hk]
  rw [h2]
  have h3 : (x :: r).Perm (x :: (r.take k ++ r[k] :: r.drop (k + 1))) := by rw [← h1]
  refine List.Perm.trans ?_ h3.symm
  refine ((List.perm_middle (a := x) (l₁ := r.take k) (l₂ := r.drop (k + 1))).cons r[k]).trans ?_
  refine (List.Perm.swap x r[k] _).trans ?_
  exact (List.perm_middle (a := r[k]) (l₁ := r.take k) (l₂ := r.drop (k + 1))).symm.cons x

theorem insR_perm : ∀ (T : List (List Int)) (x : Int), (insR T x).1.flatten.Perm (x :: T.flatten)
  | [], x => by simp [insR]
  | r :: R, x => by
    unfold insR
    by_cases hk : putAt r x < r.length
    · rw [if_pos hk]
      have ih := insR_perm R (r.getD (putAt r x) 0)
      show (r.set (putAt r x) x ++ (insR R (r.getD (putAt r x) 0)).1.flatten).Perm (x :: (r ++ R.flatten))
      refine (ih.append_left _).trans ?_
      refine List.perm_middle.trans ?_
      rw [← List.cons_append, ← List.cons_append]
      exact (perm_set hk).append_right _
    · rw [if_neg hk]
      show (r ++ [x] ++ R.flatten).Perm (x :: (r ++ R.flatten))
      rw [List.append_assoc]
      exact List.perm_middle

/-- The rows and the twin rows of the first k numbers. -/
def pq (zs : List Int) : Nat → List (List Int) × List (List Int)
  | 0 => ([], [])
  | k + 1 => ((insR (pq zs k).1 (zs.getD k 0)).1, putL (pq zs k).2 (insR (pq zs k).1 (zs.getD k 0)).2 ((k : Int) + 1))

/-- The lengths of rows. -/
def lens (T : List (List Int)) : List Nat := T.map List.length

theorem insR_lens : ∀ (T U : List (List Int)) (x y : Int), lens T = lens U → lens (insR T x).1 = lens (putL U (insR T x).2 y)
  | [], [], x, y, _ => by simp [insR, putL, lens]
  | [], _ :: _, _, _, h => by simp [lens] at h
  | _ :: _, [], _, _, h => by simp [lens] at h
  | r :: R, u :: U, x, y, h => by
    have h1 : r.length = u.length ∧ lens R = lens U := by simpa [lens] using h
    unfold insR
    by_cases hk : putAt r x < r.length
    · rw [if_pos hk]
      have ih := insR_lens R U (r.getD (putAt r x) 0) y h1.2
      show (r.set (putAt r x) x).length :: lens (insR R (r.getD (putAt r x) 0)).1 = lens (putL (u :: U) ((insR R (r.getD (putAt r x) 0)).2 + 1) y)
      rw [ih, List.length_set, h1.1]
      generalize (insR R (r.getD (putAt r x) 0)).2 = m
      unfold putL
      by_cases hm : m < U.length
      · rw [if_pos hm, if_pos (by simpa using hm)]; rfl
      · rw [if_neg hm, if_neg (by simpa using hm)]; rfl
    · rw [if_neg hk]
      unfold putL
      rw [if_pos (by simp)]
      show (r ++ [x]).length :: lens R = (u ++ [y]).length :: lens U
      rw [h1.2]; simp [h1.1]

theorem pq_lens (zs : List Int) : ∀ k, lens (pq zs k).1 = lens (pq zs k).2
  | 0 => rfl
  | k + 1 => insR_lens _ _ _ _ (pq_lens zs k)

theorem pq_ok (zs : List Int) : ∀ k, (pq zs k).1.length ≤ k ∧ tot (pq zs k).1 = k ∧ tot (pq zs k).2 = k ∧ (pq zs k).2.length = (pq zs k).1.length
  | 0 => ⟨Nat.le_refl _, rfl, rfl, rfl⟩
  | k + 1 => by
    obtain ⟨h1, h2, h3, h4⟩ := pq_ok zs k
    have h5 := insR_le (pq zs k).1 (zs.getD k 0)
    have h6 := congrArg List.length (pq_lens zs (k + 1))
    simp [lens] at h6
    refine ⟨by unfold pq; simp only; omega, by unfold pq; simp only; omega, by unfold pq; simp only; rw [putL_tot]; omega, h6.symm⟩

theorem pq_tab {zs : List Int} (hn : zs.Nodup) : ∀ k, k ≤ zs.length → Tab (pq zs k).1 ∧ (pq zs k).1.flatten.Perm (zs.take k)
  | 0, _ => ⟨trivial, by simp [pq]⟩
  | k + 1, hk => by
    obtain ⟨h1, h2⟩ := pq_tab hn k (by omega)
    have e : zs.take (k + 1) = zs.take k ++ [zs.getD k 0] := by
      rw [List.take_succ_eq_append_getElem (by omega)]; simp [show k < zs.length by omega]
    have hp : (zs.getD k 0 :: (pq zs k).1.flatten).Perm (zs.take (k + 1)) := by
      rw [e]
      exact (h2.cons _).trans (List.perm_append_singleton _ _).symm
    refine ⟨insR_tab _ _ h1 (hp.nodup_iff.2 ((List.take_sublist _ _).nodup hn)), (insR_perm _ _).trans hp⟩

def rowsAns (zs : List Int) : List (List Int) × Bool := if Ord zs then ((pq zs zs.length).1, true) else ([], false)
def twinAns (zs : List Int) : List (List Int) × Bool := if Ord zs then ((pq zs zs.length).2, true) else ([], false)

theorem rows_alen {zs : List Int} {L : List (List Int)} {b : Bool} (h : rowsAns zs = (L, b)) : L.length + tot L ≤ 1048576 := by
  unfold rowsAns at h
  split at h
  · rename_i ho
    cases h
    have h1 := pq_ok zs zs.length
    exact ans_small ho _ h1.1 h1.2.1
  · cases h; decide

theorem twin_alen {zs : List Int} {L : List (List Int)} {b : Bool} (h : twinAns zs = (L, b)) : L.length + tot L ≤ 1048576 := by
  unfold twinAns at h
  split at h
  · rename_i ho
    cases h
    have h1 := pq_ok zs zs.length
    exact ans_small ho _ (by rw [h1.2.2.2]; exact h1.1) h1.2.2.1
  · cases h; decide

end Go.Proofs.YtnhhnffolmgceaaGreat.RowsM

end

section
namespace Go.Proofs.YtnhhnffolmgceaaGreat.AreM
open OrdMath LLC QueM PassM RowsM

instance (r s : List Int) : Decidable (Bel r s) := by unfold Bel; infer_instance

/-- A row fits below the one above it. -/
def RowOk (L : List (List Int)) (i : Nat) : Prop := 1 ≤ (L.getD i []).length ∧ (0 < i → Bel (L.getD (i - 1) []) (L.getD i [])) ∧ (L.getD i []).Pairwise (· < ·)

instance (L : List (List Int)) (i : Nat) : Decidable (RowOk L i) := by unfold RowOk; infer_instance

/-- As the program asks it: equal numbers are told later. -/
def RowWk (L : List (List Int)) (i : Nat) : Prop := 1 ≤ (L.getD i []).length ∧ (L.getD i []).length ≤ 7 ∧
  (0 < i → (L.getD i []).length ≤ (L.getD (i - 1) []).length ∧ ∀ j, j < (L.getD i []).length → (L.getD (i - 1) []).getD j 0 ≤ (L.getD i []).getD j 0) ∧ (L.getD i []).Pairwise (· ≤ ·)

def areB (L : List (List Int)) : Bool := decide ((∀ i, i < L.length → RowOk L i) ∧ Ord L.flatten)

theorem are_row {L : List (List Int)} {i : Nat} (hi : i < L.length) (h : ¬ RowOk L i) : areB L = false := by
  unfold areB; rw [decide_eq_false_iff_not]; exact fun hh => h (hh.1 i hi)

theorem flat_len_le : ∀ {L : List (List Int)} {i : Nat}, i < L.length → (L.take i).flatten.length + (L.getD i []).length ≤ L.flatten.length
  | [], i, h => absurd h (by simp)
  | l :: L, 0, _ => by simp
  | l :: L, i + 1, h => by
    have ih := flat_len_le (L := L) (i := i) (by simpa using h)
    show (l ++ (L.take i).flatten).length + (L.getD i []).length ≤ (l ++ L.flatten).length
    rw [List.length_append, List.length_append]
    omega

theorem are_long {L : List (List Int)} {i : Nat} (hi : i < L.length) (h : 7 < (L.take i).flatten.length + (L.getD i []).length) : areB L = false := by
  unfold areB; rw [decide_eq_false_iff_not]
  intro hh
  have h1 := hh.2.2.1
  have h2 := flat_len_le hi
  omega

theorem flat_ge : ∀ (L : List (List Int)), (∀ i, i < L.length → 1 ≤ (L.getD i []).length) → L.length ≤ L.flatten.length
  | [], _ => by simp
  | l :: L, h => by
    have ih := flat_ge L (fun i hi => h (i + 1) (by simpa using hi))
    have h0 := h 0 (by simp)
    have h1 : 1 ≤ l.length := h0
    show L.length + 1 ≤ (l ++ L.flatten).length
    rw [List.length_append]
    omega

theorem are_many {L : List (List Int)} (h : 7 < L.length) : areB L = false := by
  unfold areB; rw [decide_eq_false_iff_not]
  intro hh
  have h1 := flat_ge L (fun i hi => (hh.1 i hi).1)
  have h2 := hh.2.2.1
  omega

theorem are_ok {L : List (List Int)} (h : ∀ i, i < L.length → RowOk L i) : areB L = isOrd L.flatten := by
  unfold areB isOrd
  rw [Bool.eq_iff_iff, decide_eq_true_iff, decide_eq_true_iff]
  exact ⟨fun hh => hh.2, fun hh => ⟨h, hh⟩⟩

theorem getD_mem {r : List Int} {j : Nat} (h : j < r.length) : r.getD j 0 ∈ r := by
  have e : r.getD j 0 = r[j] := by simp [h]
  rw [e]; exact List.getElem_mem _

theorem wk_ok {L : List (List Int)} (hn : L.flatten.Nodup) {i : Nat} (hi : i < L.length) (h : RowWk L i) : RowOk L i := by
  obtain ⟨h1, _, h3, h4⟩ := h
  refine ⟨h1, fun h0 => ?_, nodup_lt h4 ((mem_flat hi).nodup hn)⟩
  obtain ⟨h5, h6⟩ := h3 h0
  refine ⟨h5, fun j hj => ?_⟩
  have h7 := h6 j hj
  have h8 : (L.getD (i - 1) [] ++ L.getD i []).Nodup := by
    have := two_sub (L := L) (i := i - 1) (by omega)
    rw [show i - 1 + 1 = i by omega] at this
    exact this.nodup hn
  rw [List.nodup_append] at h8
  have h9 := h8.2.2 ((L.getD (i - 1) []).getD j 0) (getD_mem (by omega)) ((L.getD i []).getD j 0) (getD_mem hj)
  omega

theorem are_wk {L : List (List Int)} (h : ∀ i, i < L.length → RowWk L i) : areB L = isOrd L.flatten := by
  unfold areB isOrd
  rw [Bool.eq_iff_iff, decide_eq_true_iff, decide_eq_true_iff]
  exact ⟨fun hh => hh.2, fun hh => ⟨fun i hi => wk_ok hh.2.2.2 hi (h i hi), hh⟩⟩

theorem are_not_wk {L : List (List Int)} {i : Nat} (hi : i < L.length) (h : ¬ RowWk L i) : areB L = false := by
  unfold areB; rw [decide_eq_false_iff_not]
  intro hh
  apply h
  obtain ⟨h1, h2, h3⟩ := hh.1 i hi
  have h4 := flat_len_le hi
  have h5 := hh.2.2.1
  refine ⟨h1, by omega, fun h0 => ?_, h3.imp (fun h => Int.le_of_lt h)⟩
  obtain ⟨h6, h7⟩ := h2 h0
  exact ⟨h6, fun j hj => Int.le_of_lt (h7 j hj)⟩

/-- A row is gone through: the k first of its numbers ascend and lie below. -/
def ColsTo (L : List (List Int)) (i k : Nat) : Prop := ∀ j, j < k → (0 < j → (L.getD i []).getD (j - 1) 0 < (L.getD i []).getD j 0) ∧ (0 < i → (L.getD (i - 1) []).getD j 0 < (L.getD i []).getD j 0)

theorem cols_zero (L : List (List Int)) (i : Nat) : ColsTo L i 0 := fun j hj => by omega

theorem cols_next {L : List (List Int)} {i k : Nat} (h : ColsTo L i k) (h1 : 0 < k → (L.getD i []).getD (k - 1) 0 < (L.getD i []).getD k 0) (h2 : 0 < i → (L.getD (i - 1) []).getD k 0 < (L.getD i []).getD k 0) : ColsTo L i (k + 1) := by
  intro j hj
  by_cases e : j = k
  · subst e; exact ⟨h1, h2⟩
  · exact h j (by omega)

theorem up_sorted {r : List Int} (h : ∀ j, j < r.length → 0 < j → r.getD (j - 1) 0 < r.getD j 0) : r.Pairwise (· < ·) := by
  have step : ∀ m i, i + (m + 1) < r.length → r.getD i 0 < r.getD (i + (m + 1)) 0 := by
    intro m
    induction m with
    | zero =>
      intro i hi
      exact h (i + 1) hi (by omega)
    | succ m ih =>
      intro i hi
      have h1 := ih i (by omega)
      have h2 := h (i + (m + 1) + 1) (by omega) (by omega)
      rw [show i + (m + 1) + 1 - 1 = i + (m + 1) by omega] at h2
      rw [show i + (m + 1 + 1) = i + (m + 1) + 1 by omega]
      omega
  rw [List.pairwise_iff_getElem]
  intro i j hi hj hij
  have h1 := step (j - i - 1) i (by omega)
  rw [show i + (j - i - 1 + 1) = j by omega] at h1
  simpa [hi, hj] using h1

theorem cols_row {L : List (List Int)} {i : Nat} (h1 : 1 ≤ (L.getD i []).length) (h2 : 0 < i → (L.getD i []).length ≤ (L.getD (i - 1) []).length) (h : ColsTo L i (L.getD i []).length) : RowOk L i :=
  ⟨h1, fun h0 => ⟨h2 h0, fun j hj => (h j hj).2 h0⟩, up_sorted (fun j hj h0 => (h j hj).1 h0)⟩

theorem row_cols {L : List (List Int)} {i : Nat} (h : RowOk L i) : ColsTo L i (L.getD i []).length := by
  intro j hj
  refine ⟨fun h0 => sorted_getD h.2.2 (by omega) hj, fun h0 => (h.2.1 h0).2 j hj⟩

theorem flat_next {L : List (List Int)} {i : Nat} (h : i < L.length) : (L.take (i + 1)).flatten = (L.take i).flatten ++ L.getD i [] := take_flat h

end Go.Proofs.YtnhhnffolmgceaaGreat.AreM

end

section
namespace Go.Proofs.YtnhhnffolmgceaaGreat.RowsAnyC
open Go.RowKit SeesC IntsC ExactC ListsC ListsFC LLC

def RowsAny (w : World) (base rb : Nat) (v : Value) (L : List (List Int)) : Prop :=
  ∃ vs : List Value, vs.length = L.length ∧ w.ownsRow base 36 1 v L.length vs ∧ ∀ i, i < L.length → w.ownsRow rb 3 1 (vs.getD i undef) (L.getD i []).length (vals (L.getD i []))

theorem RowsAny.kept {w w' : World} {base rb : Nat} {v : Value} {L : List (List Int)} (h : RowsAny w base rb v L) (hb : Below w.heap.size w w') : RowsAny w' base rb v L := by
  obtain ⟨vs, h1, h2, h3⟩ := h
  exact ⟨vs, h1, kept_call h2 hb, fun i hi => kept_call (h3 i hi) hb⟩

theorem rows_one {w : World} {base rb : Nat} {v : Value} {L : List (List Int)} : ∀ vs : List Value, w.ownsRow base 36 1 v L.length vs → (∀ i, i < L.length → w.ownsRow rb 3 1 (vs.getD i undef) (L.getD i []).length (vals (L.getD i []))) → ∀ u ∈ vs, u.oneCell' = true := by
  intro vs h1 h2 u hu
  obtain ⟨i, hi, rfl⟩ := List.mem_iff_getElem.1 hu
  have hl := h1.1
  have h3 := h2 i (by omega)
  have e : vs.getD i undef = vs[i] := by simp [hi]
  rw [e] at h3
  rcases h3.2 with ⟨e2, _⟩ | ⟨g, c, cur, e2, _⟩ <;> rw [e2] <;> rfl

/-- Further rows behind. -/
theorem RowsAny.cat {w w6 : World} {base rb : Nat} {v v' : Value} {L M : List (List Int)} {vs us : List Value} (h1 : vs.length = L.length) (ho : w.ownsRow base 36 1 v L.length vs) (hr : ∀ i, i < L.length → w.ownsRow rb 3 1 (vs.getD i undef) (L.getD i []).length (vals (L.getD i [])))
    (h2 : us.length = M.length) (hs : ∀ i, i < M.length → w.ownsRow rb 3 1 (us.getD i undef) (M.getD i []).length (vals (M.getD i [])))
    (hown : w6.ownsRow base 36 1 v' (L.length + M.length) (vs ++ us)) (hg : w.grownBy w6 v.ownBlock) : RowsAny w6 base rb v' (L ++ M) := by
  refine ⟨vs ++ us, by simp [h1, h2], by rw [List.length_append]; exact hown, fun i hi => ?_⟩
  rw [List.length_append] at hi
  by_cases hlt : i < L.length
  · have e1 : (vs ++ us).getD i undef = vs.getD i undef := by rw [List.getD_eq_getElem?_getD, List.getElem?_append_left (by omega), ← List.getD_eq_getElem?_getD]
    have e2 : (L ++ M).getD i [] = L.getD i [] := by rw [List.getD_eq_getElem?_getD, List.getElem?_append_left hlt, ← List.getD_eq_getElem?_getD]
    rw [e1, e2]
    exact own_mark (hr i hlt) hg (fun a ha e => own_types ho (hr i hlt) (by decide) e ha)
  · have e1 : (vs ++ us).getD i undef = us.getD (i - L.length) undef := by rw [List.getD_eq_getElem?_getD, List.getElem?_append_right (by omega), h1, ← List.getD_eq_getElem?_getD]
    have e2 : (L ++ M).getD i [] = M.getD (i - L.length) [] := by rw [List.getD_eq_getElem?_getD, List.getElem?_append_right (by omega), ← List.getD_eq_getElem?_getD]
    rw [e1, e2]
    exact own_mark (hs _ (by omega)) hg (fun a ha e => own_types ho (hs _ (by omega)) (by decide) e ha)

end Go.Proofs.YtnhhnffolmgceaaGreat.RowsAnyC

end

section
namespace Go.Proofs.YtnhhnffolmgceaaGreat.RiseEq
open AllO OrdMath RiseM RowsM

def eqR (n : Nat) (zs : List Int) : Bool := (longest true zs).length == ((pq zs n).1.getD 0 []).length && Nat.blt 0 (pq zs n).1.length

theorem rise_kernel : ∀ n < 7, 1 ≤ n → (allO n).all (eqR n) = true := by decide +kernel

theorem rise_eq {n : Nat} (h1 : 1 ≤ n) (h6 : n ≤ 6) {zs : List Int} (hz : zs ∈ allO n) : (longest true zs).length = ((pq zs n).1.getD 0 []).length ∧ 1 ≤ (pq zs n).1.length := by
  have h := List.all_eq_true.1 (rise_kernel n (by omega) h1) zs hz
  unfold eqR at h
  rw [Bool.and_eq_true] at h
  refine ⟨eq_of_beq h.1, ?_⟩
  have h2 := h.2
  rw [Nat.blt_eq] at h2
  exact h2

end Go.Proofs.YtnhhnffolmgceaaGreat.RiseEq

end

section
namespace Go.Proofs.YtnhhnffolmgceaaGreat.BdMeanRuns
open OrdMath AllO QueM

theorem kernel : ∀ n < 7, 1 ≤ n → (allO n).all (fun zs => Nat.ble ((rTo zs zs.length).length) 7) = true := by decide +kernel

theorem bound {n : Nat} (h1 : 1 ≤ n) (h6 : n ≤ 6) {zs : List Int} (hz : zs ∈ allO n) : ((rTo zs zs.length).length) ≤ 1000 := by
  have h := List.all_eq_true.1 (kernel n (by omega) h1) zs hz
  exact Nat.le_trans (Nat.le_of_ble_eq_true h) (by omega)

end Go.Proofs.YtnhhnffolmgceaaGreat.BdMeanRuns

end

section
namespace Go.Proofs.YtnhhnffolmgceaaGreat.BdMeanPasses
open OrdMath AllO PassM

theorem kernel : ∀ n < 7, 1 ≤ n → (allO n).all (fun zs => Nat.ble (passes 7 zs) 7) = true := by decide +kernel

theorem bound {n : Nat} (h1 : 1 ≤ n) (h6 : n ≤ 6) {zs : List Int} (hz : zs ∈ allO n) : (passes 7 zs) ≤ 1000 := by
  have h := List.all_eq_true.1 (kernel n (by omega) h1) zs hz
  exact Nat.le_trans (Nat.le_of_ble_eq_true h) (by omega)

end Go.Proofs.YtnhhnffolmgceaaGreat.BdMeanPasses

end
