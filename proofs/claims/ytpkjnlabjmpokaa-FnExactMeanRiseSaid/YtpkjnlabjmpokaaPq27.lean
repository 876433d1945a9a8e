/-
  Contracts and plain facts that the laws' texts lean on. Conditions: as each states.
-/
import Derived.Test.YtpkjnlabjmpokaaPq19
import Derived.Test.YtpkjnlabjmpokaaPq2

namespace Go.Proofs.Ytpkjnlabjmpokaa.RagMarkC
open Go.RowKit SeesC IntsC ExactC ListsC ListsEC ListsFC LLC

/-- What lies below base, and from D on, is as it was. -/
structure Mid (base D : Nat) (w w' : World) : Prop where
  os : w'.os = w.os
  tape : w'.tape = w.tape
  output : w'.output = w.output
  size : w.heap.size ≤ w'.heap.size
  block : ∀ k, k < w.heap.size → (k < base ∨ D ≤ k) → w'.heap[k]? = w.heap[k]?

theorem Mid.refl (base D : Nat) (w : World) : Mid base D w w := ⟨rfl, rfl, rfl, Nat.le_refl _, fun _ _ _ => rfl⟩

theorem Mid.step {base D q : Nat} {w w' w'' : World} (h : Mid base D w w') (hg : w'.grownBy w'' (some q)) (h1 : base ≤ q) (h2 : q < D) : Mid base D w w'' :=
  ⟨hg.os.trans h.os, hg.tape.trans h.tape, hg.output.trans h.output, Nat.le_trans h.size hg.size, fun k hk hb => (hg.block k (Nat.lt_of_lt_of_le hk h.size) (by simp; omega)).trans (h.block k hk hb)⟩

theorem Mid.below {base D b : Nat} {w0 w w' : World} (h : Mid base D w w') (hb : Below b w0 w) (hle : b ≤ base) (hw : b ≤ w0.heap.size) : Below b w0 w' :=
  ⟨h.os.trans hb.os, h.tape.trans hb.tape, h.output.trans hb.output, Nat.le_trans hb.size h.size, fun k hk => (h.block k (Nat.lt_of_lt_of_le hk (Nat.le_trans hw hb.size)) (.inl (Nat.lt_of_lt_of_le hk hle))).trans (hb.block k hk)⟩

theorem Mid.own {base D b n : Nat} {ty : TypeId} {v : Value} {xs : List Value} {w w' : World} (h : Mid base D w w') (ho : w.ownsRow b ty 1 v n xs) (hne : ∀ q, v.ownBlock = some q → q < base ∨ D ≤ q) : w'.ownsRow b ty 1 v n xs := by
  have hlt := fun q hq => (ho.lt q hq).2
  rcases ho.2 with ⟨rfl, h0⟩ | ⟨g, cap, cur, rfl, hb, hg, hrest⟩
  · exact ⟨ho.1, .inl ⟨rfl, h0⟩⟩
  · exact ⟨ho.1, .inr ⟨g, cap, cur, rfl, hb, (h.block g (hlt g rfl) (hne g rfl)).trans hg, hrest⟩⟩

/-- A ragged list of which the rows lie below D. -/
def RagU (w : World) (base D : Nat) (v : Value) (L : List (List Int)) : Prop :=
  ∃ gs : List (Nat × Nat), gs.length = L.length ∧ w.ownsRow base 22 1 v L.length ((List.range L.length).map fun i => sl (L.getD i []).length (gs.getD i (0, 0))) ∧
    (∀ i, i < L.length → w.ownsRow base 3 1 (sl (L.getD i []).length (gs.getD i (0, 0))) (L.getD i []).length (vals (L.getD i []))) ∧ (gs.map (·.1)).Nodup ∧ ∀ i, i < L.length → (gs.getD i (0, 0)).1 < D

theorem Rag.under {w : World} {base : Nat} {v : Value} {L : List (List Int)} (h : Rag w base v L) : RagU w base w.heap.size v L := by
  obtain ⟨gs, h1, h2, h3, h4⟩ := h
  exact ⟨gs, h1, h2, h3, h4, fun i hi => (own_block_lt (h3 i hi) (q := (gs.getD i (0, 0)).1) rfl).2⟩

theorem RagU.rag {w : World} {base D : Nat} {v : Value} {L : List (List Int)} (h : RagU w base D v L) : Rag w base v L := by
  obtain ⟨gs, h1, h2, h3, h4, _⟩ := h
  exact ⟨gs, h1, h2, h3, h4⟩

theorem RagU.sees {w : World} {base D : Nat} {v : Value} {L : List (List Int)} (h : RagU w base D v L) : SeesLL w v L := h.rag.sees

theorem RagU.kept {w w' : World} {base D : Nat} {v : Value} {L : List (List Int)} (h : RagU w base D v L) (hb : Below w.heap.size w w') : RagU w' base D v L := by
  obtain ⟨gs, h1, h2, h3, h4, h5⟩ := h
  exact ⟨gs, h1, kept_call h2 hb, fun i hi => kept_call (h3 i hi) hb, h4, h5⟩

end Go.Proofs.Ytpkjnlabjmpokaa.RagMarkC

namespace Go.Proofs.Ytpkjnlabjmpokaa.RagResC
open Go.RowKit SeesC IntsC ExactC ListsC ListsEC ListsFC LLC RagMarkC

/-- Ragged lists and a truth value are returned, in memory of the call's own. -/
def RagTo (w : World) (e : Ending) (w' : World) (L : List (List Int)) (b : Bool) : Prop :=
  ∃ v, e = .returned (.tuple #[v, .bool b]) ∧ Rag w' w.heap.size v L ∧ Below w.heap.size w w'

/-- Ragged lists are returned, in memory of the call's own. -/
def LTo (w : World) (e : Ending) (w' : World) (L : List (List Int)) : Prop :=
  ∃ a c, e = .returned (.slice a L.length c) ∧ Rag w' w.heap.size (.slice a L.length c) L ∧ Below w.heap.size w w'

theorem lto_of {w w' : World} {a : Option Addr} {N c : Nat} {L M : List (List Int)} (h1 : Rag w' w.heap.size (.slice a N c) L) (h2 : Below w.heap.size w w') (hN : L.length = N) (hL : L = M) : LTo w (.returned (.slice a N c)) w' M := by
  subst hL; subst hN; exact ⟨a, c, rfl, h1, h2⟩

theorem Rag.lower {w : World} {base base' : Nat} {v : Value} {L : List (List Int)} (h : Rag w base v L) (hle : base' ≤ base) : Rag w base' v L := by
  obtain ⟨gs, h1, h2, h3, h4⟩ := h
  exact ⟨gs, h1, own_lower h2 hle, fun i hi => own_lower (h3 i hi) hle, h4⟩

theorem ragTo_below {w w1 w' : World} {e : Ending} {L : List (List Int)} {b : Bool} (hb : Below w.heap.size w w1) (h : RagTo w1 e w' L b) : RagTo w e w' L b := by
  obtain ⟨v, he, ho, hb2⟩ := h
  exact ⟨v, he, Rag.lower ho hb.size, hb.trans (hb2.mono hb.size)⟩

/-- An empty list of lists that was made. -/
theorem rag_made (w : World) (base : Nat) (hb : base ≤ w.heap.size) : Rag (w.alloc (.cells #[] 22)) base (.slice (some ⟨w.heap.size, 0, none⟩) 0 0) [] :=
  ⟨[], rfl, World.ownsRow_made _ _ _ hb (by unfold maxLen; omega) rfl, fun i hi => absurd hi (by simp), by simp⟩

theorem ragTo_none (w : World) (b : Bool) : RagTo w (.returned (.tuple #[.slice (some ⟨w.heap.size, 0, none⟩) 0 0, .bool b])) (w.alloc (.cells #[] 22)) [] b :=
  ⟨_, rfl, rag_made _ _ (Nat.le_refl _), (Below.refl _ _).alloc (Nat.le_refl _) _⟩

/-- Ragged lists all of which lie below D. -/
def RagV (w : World) (base D : Nat) (v : Value) (L : List (List Int)) : Prop :=
  RagU w base D v L ∧ ∀ q, v.ownBlock = some q → q < D

theorem Rag.ragv {w : World} {base : Nat} {v : Value} {L : List (List Int)} (h : Rag w base v L) : RagV w base w.heap.size v L :=
  ⟨Rag.under h, fun q hq => by obtain ⟨gs, _, h2, _⟩ := h; exact (own_block_lt h2 hq).2⟩

theorem RagV.sees {w : World} {base D : Nat} {v : Value} {L : List (List Int)} (h : RagV w base D v L) : SeesLL w v L := h.1.sees
theorem RagV.rag {w : World} {base D : Nat} {v : Value} {L : List (List Int)} (h : RagV w base D v L) : Rag w base v L := h.1.rag
theorem RagV.kept {w w' : World} {base D : Nat} {v : Value} {L : List (List Int)} (h : RagV w base D v L) (hb : Below w.heap.size w w') : RagV w' base D v L := ⟨h.1.kept hb, h.2⟩

/-- A list of numbers that lies elsewhere is written. -/
theorem ragv_mark {w w' : World} {base D b n : Nat} {v u : Value} {L : List (List Int)} {xs : List Value} (h : RagV w base D v L) (ho : w.ownsRow b 3 1 u n xs) (hg : w.grownBy w' u.ownBlock)
    (hq : ∀ q, u.ownBlock = some q → q < base ∨ D ≤ q) : RagV w' base D v L := by
  obtain ⟨⟨gs, h1, h2, h3, h4, h5⟩, h6⟩ := h
  refine ⟨⟨gs, h1, own_mark h2 hg (fun a ha e => own_types h2 ho (by decide) ha e), fun i hi => own_mark (h3 i hi) hg (fun a ha e => ?_), h4, h5⟩, h6⟩
  have e1 : (gs.getD i (0, 0)).1 = a := Option.some.inj ha
  have e2 := h5 i hi
  have e3 := (own_block_lt (h3 i hi) (q := (gs.getD i (0, 0)).1) rfl).1
  have e4 := hq a e
  omega

/-- What lies at D and behind it is written. -/
theorem ragv_below {w w' : World} {base D B : Nat} {v : Value} {L : List (List Int)} (h : RagV w base D v L) (hb : Below B w w') (hD : D ≤ B) : RagV w' base D v L := by
  obtain ⟨⟨gs, h1, h2, h3, h4, h5⟩, h6⟩ := h
  refine ⟨⟨gs, h1, own_below h2 hb (fun q hq => by have := h6 q hq; omega), fun i hi => own_below (h3 i hi) hb (fun q hq => ?_), h4, h5⟩, h6⟩
  have e1 : (gs.getD i (0, 0)).1 = q := Option.some.inj hq
  have e2 := h5 i hi
  omega

/-- The marks of lists of the shape of L, from a number on. -/
def marksR (k : Nat) : List (List Int) → List (List Int)
  | [] => []
  | l :: L => ((List.range l.length).map fun i => ((k + i : Nat) : Int)) :: marksR (k + l.length) L

theorem marksR_len : ∀ (L : List (List Int)) (k : Nat), (marksR k L).length = L.length
  | [], _ => rfl
  | l :: L, k => by simp [marksR, marksR_len L]

theorem marksR_at : ∀ (L : List (List Int)) (k i : Nat), i < L.length → (marksR k L).getD i [] = (List.range (L.getD i []).length).map fun j => ((k + tot (L.take i) + j : Nat) : Int)
  | [], _, i, h => absurd h (by simp)
  | l :: L, k, 0, _ => by simp [marksR, tot]
  | l :: L, k, i + 1, h => by
    have ih := marksR_at L (k + l.length) i (by simpa using h)
    show (marksR (k + l.length) L).getD i [] = _
    rw [ih]
    show (List.range (L.getD i []).length).map _ = (List.range (L.getD i []).length).map _
    congr 1
    funext j
    show ((k + l.length + tot (L.take i) + j : Nat) : Int) = ((k + (l.length + tot (L.take i)) + j : Nat) : Int)
    congr 1
    omega

theorem marksR_tot : ∀ (L : List (List Int)) (k : Nat), tot (marksR k L) = tot L
  | [], _ => rfl
  | l :: L, k => by simp [marksR, tot, marksR_tot L]

theorem marks_vals (k n : Nat) : vals ((List.range n).map fun i => ((k + i : Nat) : Int)) = imarks k n := by
  unfold vals imarks
  rw [List.map_map]; rfl

theorem marksR_row {L : List (List Int)} {k i : Nat} (h : i < L.length) : ((marksR k L).getD i []).length = (L.getD i []).length ∧ vals ((marksR k L).getD i []) = imarks (k + tot (L.take i)) (L.getD i []).length := by
  rw [marksR_at L k i h]
  exact ⟨by simp, marks_vals _ _⟩

end Go.Proofs.Ytpkjnlabjmpokaa.RagResC

namespace Go.Proofs.Ytpkjnlabjmpokaa.QueM
open OrdMath LLC

/-- A number behind one of some lists, or behind them all. -/
def putL (L : List (List Int)) (k : Nat) (x : Int) : List (List Int) :=
  if k < L.length then L.set k (L.getD k [] ++ [x]) else L ++ [[x]]

theorem putL_len (L : List (List Int)) (k : Nat) (x : Int) : (putL L k x).length = if k < L.length then L.length else L.length + 1 := by
  unfold putL; split <;> simp

theorem putL_le (L : List (List Int)) (k : Nat) (x : Int) : L.length ≤ (putL L k x).length ∧ (putL L k x).length ≤ L.length + 1 := by
  rw [putL_len]; split <;> omega

theorem tot_cat : ∀ (A B : List (List Int)), tot (A ++ B) = tot A + tot B
  | [], B => by simp [tot]
  | a :: A, B => by
    show a.length + tot (A ++ B) = a.length + tot A + tot B
    rw [tot_cat A B]; omega

theorem tot_set : ∀ (L : List (List Int)) (k : Nat) (r : List Int), k < L.length → tot (L.set k r) + (L.getD k []).length = tot L + r.length
  | [], k, r, h => absurd h (by simp)
  | l :: L, 0, r, _ => by
    show r.length + tot L + l.length = l.length + tot L + r.length
    omega
  | l :: L, k + 1, r, h => by
    have ih := tot_set L k r (by simpa using h)
    show l.length + tot (L.set k r) + (L.getD k []).length = l.length + tot L + r.length
    omega

theorem putL_tot (L : List (List Int)) (k : Nat) (x : Int) : tot (putL L k x) = tot L + 1 := by
  unfold putL
  split
  · rename_i h
    have := tot_set L k (L.getD k [] ++ [x]) h
    rw [List.length_append, List.length_singleton] at this
    omega
  · rw [tot_cat]; rfl

theorem getD_set_e {α : Type} {d x : α} {A : List α} {i : Nat} (h : i < A.length) : (A.set i x).getD i d = x := by
  rw [List.getD_eq_getElem?_getD, List.getElem?_set]; simp [h]
theorem getD_set_n {α : Type} {d x : α} {A : List α} {i j : Nat} (h : i ≠ j) : (A.set i x).getD j d = A.getD j d := by
  rw [List.getD_eq_getElem?_getD, List.getElem?_set, if_neg h, ← List.getD_eq_getElem?_getD]
theorem getD_app_l {α : Type} {d : α} {A B : List α} {i : Nat} (h : i < A.length) : (A ++ B).getD i d = A.getD i d := by
  rw [List.getD_eq_getElem?_getD, List.getElem?_append_left h, ← List.getD_eq_getElem?_getD]
theorem getD_app_r {α : Type} {d x : α} {A : List α} : (A ++ [x]).getD A.length d = x := by
  rw [List.getD_eq_getElem?_getD, List.getElem?_append_right (Nat.le_refl _)]; simp

/-- Each list has a number at least. -/
def Pos (L : List (List Int)) : Prop := ∀ i, i < L.length → 1 ≤ (L.getD i []).length

theorem pos_nil : Pos [] := fun i h => absurd h (by simp)

theorem putL_at (L : List (List Int)) (k i : Nat) (x : Int) (hk : k ≤ L.length) (hi : i < (putL L k x).length) :
    (putL L k x).getD i [] = if i = k then L.getD k [] ++ [x] else L.getD i [] := by
  rw [putL_len] at hi
  unfold putL
  by_cases h : k < L.length
  · rw [if_pos h] at hi ⊢
    by_cases e : i = k
    · subst e; rw [if_pos rfl, getD_set_e h]
    · rw [if_neg e, getD_set_n (fun x => e x.symm)]
  · rw [if_neg h] at hi ⊢
    have e1 : k = L.length := by omega
    subst e1
    by_cases e : i = L.length
    · subst e
      rw [if_pos rfl, getD_app_r]
      simp
    · rw [if_neg e, getD_app_l (by omega)]

theorem pos_put {L : List (List Int)} {k : Nat} {x : Int} (h : Pos L) (hk : k ≤ L.length) : Pos (putL L k x) := by
  intro i hi
  rw [putL_at L k i x hk hi]
  rw [putL_len] at hi
  split
  · simp
  · rename_i e
    exact h i (by split at hi <;> omega)

/-- The last number of a list. -/
def last (q : List Int) : Int := q.getD (q.length - 1) 0

/-- The first list whose last number is not greater. -/
def qAt : List (List Int) → Int → Nat
  | [], _ => 0
  | q :: Q, x => if last q > x then qAt Q x + 1 else 0

theorem qAt_le : ∀ (Q : List (List Int)) (x : Int), qAt Q x ≤ Q.length
  | [], _ => Nat.le_refl _
  | q :: Q, x => by
    have := qAt_le Q x
    unfold qAt
    split <;> simp <;> omega

theorem qAt_is : ∀ (Q : List (List Int)) (x : Int) (k : Nat), k ≤ Q.length → (∀ j, j < k → last (Q.getD j []) > x) → (k < Q.length → ¬ last (Q.getD k []) > x) → qAt Q x = k
  | [], _, k, h, _, _ => by
    have : k = 0 := by simpa using h
    subst this; rfl
  | q :: Q, x, 0, _, _, h3 => by
    have h := h3 (by simp)
    have h' : ¬ last q > x := h
    unfold qAt
    rw [if_neg h']
  | q :: Q, x, k + 1, h1, h2, h3 => by
    have h : last q > x := h2 0 (by omega)
    have ih := qAt_is Q x k (by simpa using h1) (fun j hj => h2 (j + 1) (by omega)) (fun hk => h3 (by simpa using hk))
    unfold qAt
    rw [if_pos h, ih]

/-- The queues of the first k numbers. -/
def qTo (zs : List Int) : Nat → List (List Int)
  | 0 => []
  | k + 1 => putL (qTo zs k) (qAt (qTo zs k) (zs.getD k 0)) (zs.getD k 0)

theorem qTo_ok (zs : List Int) : ∀ k, (qTo zs k).length ≤ k ∧ tot (qTo zs k) = k ∧ Pos (qTo zs k)
  | 0 => ⟨Nat.le_refl _, rfl, pos_nil⟩
  | k + 1 => by
    obtain ⟨h1, h2, h3⟩ := qTo_ok zs k
    have h4 := putL_le (qTo zs k) (qAt (qTo zs k) (zs.getD k 0)) (zs.getD k 0)
    refine ⟨by unfold qTo; omega, by unfold qTo; rw [putL_tot]; omega, ?_⟩
    unfold qTo
    exact pos_put h3 (qAt_le _ _)

def queuesAns (zs : List Int) : List (List Int) × Bool := if Ord zs then (qTo zs zs.length, true) else ([], false)
def fewAns (zs : List Int) : Int × Bool := if Ord zs then (((qTo zs zs.length).length : Nat), true) else (0, false)

/-- Into which run a number goes. -/
def runAt (zs : List Int) (R : List (List Int)) (k : Nat) : Nat := if k = 0 ∨ zs.getD k 0 < zs.getD (k - 1) 0 then R.length else R.length - 1

/-- The runs of the first k numbers. -/
def rTo (zs : List Int) : Nat → List (List Int)
  | 0 => []
  | k + 1 => putL (rTo zs k) (runAt zs (rTo zs k) k) (zs.getD k 0)

theorem runAt_le (zs : List Int) (R : List (List Int)) (k : Nat) : runAt zs R k ≤ R.length := by unfold runAt; split <;> omega

theorem rTo_ok (zs : List Int) : ∀ k, (rTo zs k).length ≤ k ∧ tot (rTo zs k) = k ∧ Pos (rTo zs k) ∧ (1 ≤ k → 1 ≤ (rTo zs k).length)
  | 0 => ⟨Nat.le_refl _, rfl, pos_nil, fun h => by omega⟩
  | k + 1 => by
    obtain ⟨h1, h2, h3, h5⟩ := rTo_ok zs k
    have h4 := putL_le (rTo zs k) (runAt zs (rTo zs k) k) (zs.getD k 0)
    refine ⟨by unfold rTo; omega, by unfold rTo; rw [putL_tot]; omega, ?_, fun _ => ?_⟩
    · unfold rTo
      exact pos_put h3 (runAt_le _ _ _)
    · unfold rTo
      rw [putL_len]
      split <;> omega

def runsAns (zs : List Int) : List (List Int) × Bool := if Ord zs then (rTo zs zs.length, true) else ([], false)

theorem ans_small {zs : List Int} (h : Ord zs) (L : List (List Int)) (h1 : L.length ≤ zs.length) (h2 : tot L = zs.length) : L.length + tot L ≤ 1048576 := by
  have := h.2.1; omega

theorem queues_alen {zs : List Int} {L : List (List Int)} {b : Bool} (h : queuesAns zs = (L, b)) : L.length + tot L ≤ 1048576 := by
  unfold queuesAns at h
  split at h
  · rename_i ho
    cases h
    have h1 := qTo_ok zs zs.length
    exact ans_small ho _ h1.1 h1.2.1
  · cases h; decide

theorem runs_alen {zs : List Int} {L : List (List Int)} {b : Bool} (h : runsAns zs = (L, b)) : L.length + tot L ≤ 1048576 := by
  unfold runsAns at h
  split at h
  · rename_i ho
    cases h
    have h1 := rTo_ok zs zs.length
    exact ans_small ho _ h1.1 h1.2.1
  · cases h; decide

theorem tot_row {L : List (List Int)} {i : Nat} (h : i < L.length) : (L.getD i []).length ≤ tot L := tot_mem (getD_memL h)

end Go.Proofs.Ytpkjnlabjmpokaa.QueM

namespace Go.Proofs.Ytpkjnlabjmpokaa.PassM
open OrdMath LLC QueM

/-- Where a number goes in a sorted list. -/
def putAt : List Int → Int → Nat
  | [], _ => 0
  | y :: l, x => if y < x then putAt l x + 1 else 0

theorem putAt_le : ∀ (l : List Int) (x : Int), putAt l x ≤ l.length
  | [], _ => Nat.le_refl _
  | y :: l, x => by
    have := putAt_le l x
    unfold putAt; split <;> simp <;> omega

theorem putAt_is : ∀ (l : List Int) (x : Int) (k : Nat), k ≤ l.length → (∀ j, j < k → l.getD j 0 < x) → (k < l.length → ¬ l.getD k 0 < x) → putAt l x = k
  | [], _, k, h, _, _ => by
    have : k = 0 := by simpa using h
    subst this; rfl
  | y :: l, x, 0, _, _, h3 => by
    have h : ¬ y < x := h3 (by simp)
    unfold putAt; rw [if_neg h]
  | y :: l, x, k + 1, h1, h2, h3 => by
    have h : y < x := h2 0 (by omega)
    have ih := putAt_is l x k (by simpa using h1) (fun j hj => h2 (j + 1) (by omega)) (fun hk => h3 (by simpa using hk))
    unfold putAt; rw [if_pos h, ih]

theorem putAt_lt : ∀ (l : List Int) (x : Int) (j : Nat), j < putAt l x → l.getD j 0 < x
  | [], _, j, h => absurd h (by simp [putAt])
  | y :: l, x, j, h => by
    unfold putAt at h
    split at h
    · rename_i hy
      cases j with
      | zero => exact hy
      | succ j => exact putAt_lt l x j (by omega)
    · omega

theorem putAt_ge : ∀ (l : List Int) (x : Int), putAt l x < l.length → x ≤ l.getD (putAt l x) 0
  | [], _, h => absurd h (by simp)
  | y :: l, x, h => by
    unfold putAt at h ⊢
    split
    · rename_i hy
      rw [if_pos hy] at h
      exact putAt_ge l x (by simpa using h)
    · rename_i hy
      show x ≤ y
      omega

def putI (l : List Int) (x : Int) : List Int := l.take (putAt l x) ++ [x] ++ l.drop (putAt l x)

theorem putI_perm (l : List Int) (x : Int) : (putI l x).Perm (l ++ [x]) := by
  unfold putI
  have h := List.perm_middle (a := x) (l₁ := l.take (putAt l x)) (l₂ := l.drop (putAt l x))
  rw [List.append_assoc, List.singleton_append]
  refine h.trans ?_
  rw [List.take_append_drop]
  exact (List.perm_append_singleton x l).symm

theorem sorted_getD {l : List Int} (h : l.Pairwise (· < ·)) {i j : Nat} (hij : i < j) (hj : j < l.length) : l.getD i 0 < l.getD j 0 := by
  have := List.pairwise_iff_getElem.1 h i j (by omega) hj hij
  simpa [show i < l.length by omega, hj] using this

theorem putI_sorted {l : List Int} {x : Int} (h : l.Pairwise (· < ·)) (hx : x ∉ l) : (putI l x).Pairwise (· < ·) := by
  unfold putI
  rw [List.append_assoc, List.pairwise_append, List.singleton_append, List.pairwise_cons]
  have hge : ∀ y ∈ l.drop (putAt l x), x < y := by
    intro y hy
    obtain ⟨i, hi, rfl⟩ := List.mem_iff_getElem.1 hy
    rw [List.length_drop] at hi
    have h1 := putAt_ge l x (by omega)
    rw [List.getElem_drop]
    have h2 : l.getD (putAt l x) 0 ≤ l[putAt l x + i] := by
      have e : l[putAt l x + i] = l.getD (putAt l x + i) 0 := by simp [show putAt l x + i < l.length by omega]
      rw [e]
      by_cases h0 : i = 0
      · subst h0; exact Int.le_refl _
      · exact Int.le_of_lt (sorted_getD h (by omega) (by omega))
    have h3 : x ≠ l[putAt l x + i] := fun e => hx (e ▸ List.getElem_mem _)
    omega
  refine ⟨h.sublist (List.take_sublist _ _), ⟨hge, h.sublist (List.drop_sublist _ _)⟩, ?_⟩
  intro a ha b hb
  obtain ⟨i, hi, rfl⟩ := List.mem_iff_getElem.1 ha
  rw [List.length_take] at hi
  have h1 := putAt_lt l x i (by omega)
  rw [List.getElem_take]
  have e : l[i] = l.getD i 0 := by simp [show i < l.length by omega]
  rw [← e] at h1
  rcases List.mem_cons.1 hb with rfl | hb
  · exact h1
  · have := hge b hb; omega

/-- Two runs made one. -/
def mrg (a b : List Int) : List Int := b.foldl putI a

theorem mrg_snoc (a b : List Int) (x : Int) : mrg a (b ++ [x]) = putI (mrg a b) x := by unfold mrg; rw [List.foldl_append]; rfl

theorem mrg_next (a b : List Int) {k : Nat} (h : k < b.length) : mrg a (b.take (k + 1)) = putI (mrg a (b.take k)) (b.getD k 0) := by
  rw [List.take_succ_eq_append_getElem h, mrg_snoc]; simp [h]

theorem mrg_perm (a : List Int) : ∀ (b : List Int), (mrg a b).Perm (a ++ b) := by
  intro b
  induction b generalizing a with
  | nil => simp [mrg]
  | cons x b ih =>
    show (mrg (putI a x) b).Perm _
    refine (ih (putI a x)).trans ?_
    refine ((putI_perm a x).append_right b).trans ?_
    rw [List.append_assoc]; exact List.Perm.refl _

theorem mrg_sorted : ∀ (b a : List Int), a.Pairwise (· < ·) → (a ++ b).Nodup → (mrg a b).Pairwise (· < ·)
  | [], a, h, _ => h
  | x :: b, a, h, hn => by
    have hx : x ∉ a := by
      intro hx
      rw [List.nodup_append] at hn
      exact hn.2.2 x hx x (by simp) rfl
    have hp : (putI a x ++ b).Perm (a ++ x :: b) := by
      refine ((putI_perm a x).append_right b).trans ?_
      rw [List.append_assoc]; exact List.Perm.refl _
    exact mrg_sorted b (putI a x) (putI_sorted h hx) (hp.nodup_iff.2 hn)

theorem mrg_len (a b : List Int) : (mrg a b).length = a.length + b.length := by rw [(mrg_perm a b).length_eq, List.length_append]

theorem sorted_one {l m : List Int} (hp : l.Perm m) (h1 : l.Pairwise (· < ·)) (h2 : m.Pairwise (· ≤ ·)) : l = m := by
  refine List.Perm.eq_of_pairwise (le := (· ≤ ·)) ?_ (h1.imp (fun h => Int.le_of_lt h)) h2 hp
  intro a b _ _ h3 h4
  omega

/-- The j-th pair of runs. -/
def pairAt (R : List (List Int)) (j : Nat) : List Int := if 2 * j + 1 < R.length then mrg (R.getD (2 * j) []) (R.getD (2 * j + 1) []) else R.getD (2 * j) []

def pairsTo (R : List (List Int)) : Nat → List Int
  | 0 => []
  | j + 1 => pairsTo R j ++ pairAt R j

def pass (zs : List Int) : List Int := pairsTo (rTo zs zs.length) (((rTo zs zs.length).length + 1) / 2)
def passAns (zs : List Int) : List Int × Bool := if Ord zs then (pass zs, true) else ([], false)

/-! ### Runs ascend -/

theorem flat_put (L : List (List Int)) (k : Nat) (x : Int) (h : L.length ≤ k + 1) (hk : k ≤ L.length) : (putL L k x).flatten = L.flatten ++ [x] := by
  unfold putL
  by_cases h1 : k < L.length
  · rw [if_pos h1]
    have hk2 : k = L.length - 1 := by omega
    rcases List.eq_nil_or_concat L with rfl | ⟨M, q, rfl⟩
    · simp at h1
    · rw [List.concat_eq_append] at *
      rw [List.length_append, List.length_singleton] at hk2
      have e : k = M.length := by omega
      subst e
      rw [List.set_append_right _ _ (Nat.le_refl _), getD_app_r]
      simp
  · rw [if_neg h1]; simp

theorem rTo_flat (zs : List Int) : ∀ k, k ≤ zs.length → (rTo zs k).flatten = zs.take k
  | 0, _ => by simp [rTo]
  | k + 1, hk => by
    have ih := rTo_flat zs k (by omega)
    unfold rTo
    have hn := (rTo_ok zs k).2.2.2
    rw [flat_put _ _ _ (by unfold runAt; split <;> omega) (runAt_le _ _ _), ih, List.take_succ_eq_append_getElem (by omega)]
    simp [show k < zs.length by omega]

/-- Each run ascends, and the last one ends with the number before. -/
theorem rTo_asc (zs : List Int) : ∀ k, k ≤ zs.length → (∀ i, i < (rTo zs k).length → ((rTo zs k).getD i []).Pairwise (· ≤ ·)) ∧
    (1 ≤ k → ∀ y ∈ (rTo zs k).getD ((rTo zs k).length - 1) [], y ≤ zs.getD (k - 1) 0)
  | 0, _ => ⟨fun i h => absurd h (by simp [rTo]), fun h => by omega⟩
  | k + 1, hk => by
    obtain ⟨ih1, ih2⟩ := rTo_asc zs k (by omega)
    have hpos := (rTo_ok zs k).2.2.2
    have hat : ∀ i, i < (putL (rTo zs k) (runAt zs (rTo zs k) k) (zs.getD k 0)).length → (putL (rTo zs k) (runAt zs (rTo zs k) k) (zs.getD k 0)).getD i [] = _ := fun i hi => putL_at _ _ i (zs.getD k 0) (runAt_le _ _ _) hi
    have hrow : ∀ y ∈ (rTo zs k).getD (runAt zs (rTo zs k) k) [], y ≤ zs.getD k 0 := by
      intro y hy
      unfold runAt at hy
      split at hy
      · simp at hy
      · rename_i h
        have := ih2 (by omega) y hy
        omega
    show (∀ i, i < (putL (rTo zs k) (runAt zs (rTo zs k) k) (zs.getD k 0)).length → ((putL (rTo zs k) (runAt zs (rTo zs k) k) (zs.getD k 0)).getD i []).Pairwise (· ≤ ·)) ∧
      (1 ≤ k + 1 → ∀ y ∈ (putL (rTo zs k) (runAt zs (rTo zs k) k) (zs.getD k 0)).getD ((putL (rTo zs k) (runAt zs (rTo zs k) k) (zs.getD k 0)).length - 1) [], y ≤ zs.getD (k + 1 - 1) 0)
    constructor
    · intro i hi
      rw [hat i hi]
      split
      · rename_i e
        rw [List.pairwise_append]
        refine ⟨?_, by simp, ?_⟩
        · by_cases h : runAt zs (rTo zs k) k < (rTo zs k).length
          · exact ih1 _ h
          · have e2 : (rTo zs k).getD (runAt zs (rTo zs k) k) [] = [] := by simp [List.getD_eq_getElem?_getD, List.getElem?_eq_none (show (rTo zs k).length ≤ runAt zs (rTo zs k) k by omega)]
            rw [e2]; exact List.Pairwise.nil
        · intro a ha b hb
          simp at hb
          subst hb
          exact hrow a ha
      · rename_i e
        rw [putL_len] at hi
        have := runAt_le zs (rTo zs k) k
        exact ih1 i (by split at hi <;> omega)
    · intro _ y hy
      have hlen := putL_len (rTo zs k) (runAt zs (rTo zs k) k) (zs.getD k 0)
      have e : (putL (rTo zs k) (runAt zs (rTo zs k) k) (zs.getD k 0)).length - 1 = runAt zs (rTo zs k) k := by
        rw [hlen]
        unfold runAt
        split <;> split <;> omega
      rw [e, hat _ (by rw [hlen]; have := runAt_le zs (rTo zs k) k; split <;> omega), if_pos rfl, List.mem_append] at hy
      rcases hy with hy | hy
      · exact hrow y hy
      · simp at hy; subst hy; exact Int.le_refl _

theorem mem_flat {L : List (List Int)} {i : Nat} (h : i < L.length) : (L.getD i []).Sublist L.flatten := by
  have : L.getD i [] = L[i] := by simp [h]
  rw [this]
  exact List.sublist_flatten_of_mem (List.getElem_mem h)

theorem nodup_lt {l : List Int} (h1 : l.Pairwise (· ≤ ·)) (h2 : l.Nodup) : l.Pairwise (· < ·) := by
  have h3 := List.nodup_iff_pairwise_ne.1 h2
  exact (List.pairwise_and_iff.2 ⟨h1, h3⟩).imp (fun h => by omega)

theorem run_asc {zs : List Int} (h : Ord zs) {i : Nat} (hi : i < (rTo zs zs.length).length) : ((rTo zs zs.length).getD i []).Pairwise (· < ·) := by
  refine nodup_lt ((rTo_asc zs zs.length (Nat.le_refl _)).1 i hi) ?_
  have h1 := rTo_flat zs zs.length (Nat.le_refl _)
  rw [List.take_of_length_le (Nat.le_refl _)] at h1
  exact (mem_flat hi).nodup (by rw [h1]; exact h.2.2.2)

theorem two_sub : ∀ {L : List (List Int)} {i : Nat}, i + 1 < L.length → (L.getD i [] ++ L.getD (i + 1) []).Sublist L.flatten
  | [], i, h => absurd h (by simp)
  | a :: L, 0, h => by
    cases L with
    | nil => simp at h
    | cons b M =>
      show (a ++ b).Sublist (a ++ (b ++ M.flatten))
      rw [← List.append_assoc]
      exact List.sublist_append_left _ _
  | a :: L, i + 1, h => by
    have ih := two_sub (L := L) (i := i) (by simpa using h)
    exact ih.trans (List.sublist_append_right _ _)

theorem pair_nodup {zs : List Int} (h : Ord zs) {i : Nat} (hi : i + 1 < (rTo zs zs.length).length) : ((rTo zs zs.length).getD i [] ++ (rTo zs zs.length).getD (i + 1) []).Nodup := by
  have h1 := rTo_flat zs zs.length (Nat.le_refl _)
  rw [List.take_of_length_le (Nat.le_refl _)] at h1
  exact (two_sub hi).nodup (by rw [h1]; exact h.2.2.2)

theorem pair_asc {zs : List Int} (h : Ord zs) {j : Nat} (hj : 2 * j < (rTo zs zs.length).length) : (pairAt (rTo zs zs.length) j).Pairwise (· < ·) := by
  unfold pairAt
  split
  · rename_i h2
    exact mrg_sorted _ _ (run_asc h hj) (pair_nodup h h2)
  · exact run_asc h hj

/-- The runs two by two, as they lie. -/
def flatTo (R : List (List Int)) (j : Nat) : List Int := (R.take (2 * j)).flatten

theorem take_flat {L : List (List Int)} {i : Nat} (h : i < L.length) : (L.take (i + 1)).flatten = (L.take i).flatten ++ L.getD i [] := by
  rw [List.take_succ_eq_append_getElem h, List.flatten_append]
  simp [h]

theorem pairsTo_perm (R : List (List Int)) : ∀ j, (pairsTo R j).Perm (R.take (2 * j)).flatten
  | 0 => by simp [pairsTo]
  | j + 1 => by
    have ih := pairsTo_perm R j
    show (pairsTo R j ++ pairAt R j).Perm _
    unfold pairAt
    by_cases h : 2 * j + 1 < R.length
    · rw [if_pos h, show 2 * (j + 1) = 2 * j + 1 + 1 by omega, take_flat h, take_flat (by omega), List.append_assoc]
      exact ih.append (mrg_perm _ _)
    · rw [if_neg h]
      by_cases h2 : 2 * j < R.length
      · rw [List.take_of_length_le (show R.length ≤ 2 * (j + 1) by omega)]
        have e : R.flatten = (R.take (2 * j)).flatten ++ R.getD (2 * j) [] := by
          rw [← take_flat h2, List.take_of_length_le (by omega)]
        rw [e]
        exact ih.append_right _
      · rw [List.take_of_length_le (show R.length ≤ 2 * (j + 1) by omega)]
        rw [List.take_of_length_le (show R.length ≤ 2 * j by omega)] at ih
        have e : R.getD (2 * j) [] = [] := by simp [List.getD_eq_getElem?_getD, List.getElem?_eq_none (show R.length ≤ 2 * j by omega)]
        rw [e, List.append_nil]
        exact ih

theorem pass_perm (zs : List Int) : (pass zs).Perm zs := by
  have h1 := rTo_flat zs zs.length (Nat.le_refl _)
  rw [List.take_of_length_le (Nat.le_refl _)] at h1
  have h2 := pairsTo_perm (rTo zs zs.length) (((rTo zs zs.length).length + 1) / 2)
  rw [List.take_of_length_le (by omega), h1] at h2
  exact h2

theorem perm_ord {zs ys : List Int} (h : ys.Perm zs) (ho : Ord zs) : Ord ys := by
  have hl := h.length_eq
  refine ⟨by rw [hl]; exact ho.1, by rw [hl]; exact ho.2.1, ?_, h.nodup_iff.2 ho.2.2.2⟩
  intro z hz
  rw [hl]
  exact ho.2.2.1 z (h.mem_iff.1 hz)

theorem pass_ord {zs : List Int} (h : Ord zs) : Ord (pass zs) := perm_ord (pass_perm zs) h
theorem pass_len (zs : List Int) : (pass zs).length = zs.length := (pass_perm zs).length_eq

/-- How many runs the first k numbers have. -/
def runN (zs : List Int) : Nat → Nat
  | 0 => 0
  | k + 1 => runN zs k + (if k = 0 ∨ zs.getD k 0 < zs.getD (k - 1) 0 then 1 else 0)

theorem runN_is (zs : List Int) : ∀ k, (rTo zs k).length = runN zs k
  | 0 => rfl
  | k + 1 => by
    have ih := runN_is zs k
    have hp := (rTo_ok zs k).2.2.2
    unfold rTo runN
    rw [putL_len]
    unfold runAt
    by_cases h : k = 0 ∨ zs.getD k 0 < zs.getD (k - 1) 0
    · rw [if_pos h, if_pos h, if_neg (by omega)]; omega
    · rw [if_neg h, if_neg h, if_pos (by have := hp (by omega); omega)]; omega

theorem runN_step (zs : List Int) (k : Nat) : runN zs k ≤ runN zs (k + 1) ∧ runN zs (k + 1) ≤ runN zs k + 1 := by
  show runN zs k ≤ runN zs k + _ ∧ runN zs k + _ ≤ _
  split <;> omega

/-- A part that ascends has one run at most. -/
theorem runN_part (P q S : List Int) (h : q.Pairwise (· < ·)) : ∀ m, m ≤ q.length → runN (P ++ q ++ S) (P.length + m) ≤ runN (P ++ q ++ S) P.length + (if m = 0 then 0 else 1)
  | 0, _ => by simp
  | m + 1, hm => by
    have ih := runN_part P q S h m (by omega)
    have hs := runN_step (P ++ q ++ S) (P.length + m)
    rw [← Nat.add_assoc, if_neg (by omega)]
    by_cases h0 : m = 0
    · subst h0
      rw [if_pos rfl] at ih
      omega
    · rw [if_neg h0] at ih
      show runN (P ++ q ++ S) (P.length + m) + _ ≤ _
      have e1 : (P ++ q ++ S).getD (P.length + m) 0 = q.getD m 0 := by
        rw [List.append_assoc, List.getD_eq_getElem?_getD, List.getElem?_append_right (by omega), List.getElem?_append_left (by omega), List.getD_eq_getElem?_getD]
        congr 2
        omega
      have e2 : (P ++ q ++ S).getD (P.length + m - 1) 0 = q.getD (m - 1) 0 := by
        rw [List.append_assoc, List.getD_eq_getElem?_getD, List.getElem?_append_right (by omega), List.getElem?_append_left (by omega), List.getD_eq_getElem?_getD]
        congr 2
        omega
      rw [e1, e2, if_neg (by have := sorted_getD h (show m - 1 < m by omega) (by omega); omega)]
      exact ih

theorem pairsTo_pre (R : List (List Int)) : ∀ m j, ∃ S, pairsTo R (j + m) = pairsTo R j ++ S
  | 0, j => ⟨[], by simp⟩
  | m + 1, j => by
    obtain ⟨S, h⟩ := pairsTo_pre R m j
    exact ⟨S ++ pairAt R (j + m), by show pairsTo R (j + m) ++ pairAt R (j + m) = _; rw [h, List.append_assoc]⟩

theorem pass_runs {zs : List Int} (h : Ord zs) : ∀ j, j ≤ ((rTo zs zs.length).length + 1) / 2 → runN (pass zs) (pairsTo (rTo zs zs.length) j).length ≤ j
  | 0, _ => by simp [pairsTo, runN]
  | j + 1, hj => by
    have ih := pass_runs h j (by omega)
    obtain ⟨S, hS⟩ := pairsTo_pre (rTo zs zs.length) (((rTo zs zs.length).length + 1) / 2 - (j + 1)) (j + 1)
    rw [show j + 1 + (((rTo zs zs.length).length + 1) / 2 - (j + 1)) = ((rTo zs zs.length).length + 1) / 2 by omega] at hS
    have e : pass zs = pairsTo (rTo zs zs.length) j ++ pairAt (rTo zs zs.length) j ++ S := hS
    have h2 := runN_part (pairsTo (rTo zs zs.length) j) (pairAt (rTo zs zs.length) j) S (pair_asc h (by omega)) (pairAt (rTo zs zs.length) j).length (Nat.le_refl _)
    rw [← e] at h2
    show runN (pass zs) (pairsTo (rTo zs zs.length) j ++ pairAt (rTo zs zs.length) j).length ≤ _
    rw [List.length_append]
    split at h2 <;> omega

theorem pass_less {zs : List Int} (h : Ord zs) : (rTo (pass zs) (pass zs).length).length ≤ ((rTo zs zs.length).length + 1) / 2 := by
  rw [runN_is]
  exact pass_runs h _ (Nat.le_refl _)

/-- How many passes sort. -/
def passes : Nat → List Int → Nat
  | 0, _ => 0
  | f + 1, zs => if (rTo zs zs.length).length ≤ 1 then 0 else passes f (pass zs) + 1

theorem passes_more : ∀ (f g : Nat) (zs : List Int), Ord zs → (rTo zs zs.length).length ≤ f + 1 → (rTo zs zs.length).length ≤ g + 1 → passes f zs = passes g zs
  | 0, 0, _, _, _, _ => rfl
  | 0, g + 1, zs, _, h, _ => by unfold passes; rw [if_pos (by omega)]
  | f + 1, 0, zs, _, _, h => by unfold passes; rw [if_pos (by omega)]
  | f + 1, g + 1, zs, ho, h1, h2 => by
    unfold passes
    by_cases h : (rTo zs zs.length).length ≤ 1
    · rw [if_pos h, if_pos h]
    · rw [if_neg h, if_neg h]
      have h3 := pass_less ho
      rw [passes_more f g (pass zs) (pass_ord ho) (by omega) (by omega)]

def passesAns (zs : List Int) : Int × Bool := if Ord zs then ((passes 7 zs : Nat), true) else (0, false)

theorem pass_alen {zs : List Int} {xs : List Int} {b : Bool} (h : passAns zs = (xs, b)) : xs.length ≤ 1048576 := by
  unfold passAns at h
  split at h
  · rename_i ho
    cases h
    rw [pass_len]; have := ho.2.1; omega
  · cases h; decide

/-- An order has one run just if it ascends. -/
theorem runs_one {zs : List Int} (h : Ord zs) : (rTo zs zs.length).length ≤ 1 ↔ ∀ k, k + 1 < zs.length → ¬ zs.getD (k + 1) 0 < zs.getD k 0 := by
  rw [runN_is]
  have key : ∀ n, n ≤ zs.length → 1 ≤ n → (runN zs n ≤ 1 ↔ ∀ k, k + 1 < n → ¬ zs.getD (k + 1) 0 < zs.getD k 0) ∧ 1 ≤ runN zs n := by
    intro n
    induction n with
    | zero => intro _ h; omega
    | succ n ih =>
      intro hn _
      by_cases h0 : n = 0
      · subst h0
        refine ⟨⟨fun _ k hk => by omega, fun _ => by simp [runN]⟩, by simp [runN]⟩
      · obtain ⟨ih1, ih2⟩ := ih (by omega) (by omega)
        have e : runN zs (n + 1) = runN zs n + (if n = 0 ∨ zs.getD n 0 < zs.getD (n - 1) 0 then 1 else 0) := rfl
        rw [e]
        by_cases hc : zs.getD n 0 < zs.getD (n - 1) 0
        · rw [if_pos (.inr hc)]
          refine ⟨⟨fun h => by omega, fun h => ?_⟩, by omega⟩
          have := h (n - 1) (by omega)
          rw [show n - 1 + 1 = n by omega] at this
          exact absurd hc this
        · rw [if_neg (by omega)]
          refine ⟨⟨fun h k hk => ?_, fun h => ?_⟩, by omega⟩
          · by_cases hkn : k + 1 = n
            · rw [hkn, show k = n - 1 by omega]; exact hc
            · exact ih1.1 (by omega) k (by omega)
          · have := ih1.2 (fun k hk => h k (by omega))
            omega
  exact (key zs.length (Nat.le_refl _) h.1).1

end Go.Proofs.Ytpkjnlabjmpokaa.PassM
