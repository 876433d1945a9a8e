/-
  Contracts and plain facts that the laws' texts lean on. Conditions: as each states.
-/
import Derived.Test.YtpkjnlabjmpokaaPx22
import Derived.Test.YtpkjnlabjmpokaaPx2

namespace Go.Proofs.Ytpkjnlabjmpokaa.RagMarkC
open Go.RowKit SeesC IntsC ExactC ListsC ListsEC ListsFC LLC

/-- What lies below base, and from D on, is as it was. -/
structure Mid (base D : Nat) (w w' : World) : Prop where
  os : w'.os = w.os
  tape : w'.tape = w.tape
  output : w'.output = w.output
  size : w.heap.size ≤ w'.heap.size
  block : ∀ k, k < w.heap.size → (k < base ∨ D ≤ k) → w'.heap[k]? = w.heap[k]?

theorem Mid.refl (base D : Nat) (w : World) : Mid base D w w := ⟨rfl, rfl, rfl, Nat.le_refl _, fun _ _ _ => rfl⟩

theorem Mid.step {base D q : Nat} {w w' w'' : World} (h : Mid base D w w') (hg : w'.grownBy w'' (some q)) (h1 : base ≤ q) (h2 : q < D) : Mid base D w w'' :=
  ⟨hg.os.trans h.os, hg.tape.trans h.tape, hg.output.trans h.output, Nat.le_trans h.size hg.size, fun k hk hb => (hg.block k (Nat.lt_of_lt_of_le hk h.size) (by simp; omega)).trans (h.block k hk hb)⟩

theorem Mid.below {base D b : Nat} {w0 w w' : World} (h : Mid base D w w') (hb : Below b w0 w) (hle : b ≤ base) (hw : b ≤ w0.heap.size) : Below b w0 w' :=
  ⟨h.os.trans hb.os, h.tape.trans hb.tape, h.output.trans hb.output, Nat.le_trans hb.size h.size, fun k hk => (h.block k (Nat.lt_of_lt_of_le hk (Nat.le_trans hw hb.size)) (.inl (Nat.lt_of_lt_of_le hk hle))).trans (hb.block k hk)⟩

theorem Mid.own {base D b n : Nat} {ty : TypeId} {v : Value} {xs : List Value} {w w' : World} (h : Mid base D w w') (ho : w.ownsRow b ty 1 v n xs) (hne : ∀ q, v.ownBlock = some q → q < base ∨ D ≤ q) : w'.ownsRow b ty 1 v n xs := by
  have hlt := fun q hq => (ho.lt q hq).2
  rcases ho.2 with ⟨rfl, h0⟩ | ⟨g, cap, cur, rfl, hb, hg, hrest⟩
  · exact ⟨ho.1, .inl ⟨rfl, h0⟩⟩
  · exact ⟨ho.1, .inr ⟨g, cap, cur, rfl, hb, (h.block g (hlt g rfl) (hne g rfl)).trans hg, hrest⟩⟩

/-- A ragged list of which the rows lie below D. -/
def RagU (w : World) (base D : Nat) (v : Value) (L : List (List Int)) : Prop :=
  ∃ gs : List (Nat × Nat), gs.length = L.length ∧ w.ownsRow base 22 1 v L.length ((List.range L.length).map fun i => sl (L.getD i []).length (gs.getD i (0, 0))) ∧
    (∀ i, i < L.length → w.ownsRow base 3 1 (sl (L.getD i []).length (gs.getD i (0, 0))) (L.getD i []).length (vals (L.getD i []))) ∧ (gs.map (·.1)).Nodup ∧ ∀ i, i < L.length → (gs.getD i (0, 0)).1 < D

theorem Rag.under {w : World} {base : Nat} {v : Value} {L : List (List Int)} (h : Rag w base v L) : RagU w base w.heap.size v L := by
  obtain ⟨gs, h1, h2, h3, h4⟩ := h
  exact ⟨gs, h1, h2, h3, h4, fun i hi => (own_block_lt (h3 i hi) (q := (gs.getD i (0, 0)).1) rfl).2⟩

theorem RagU.rag {w : World} {base D : Nat} {v : Value} {L : List (List Int)} (h : RagU w base D v L) : Rag w base v L := by
  obtain ⟨gs, h1, h2, h3, h4, _⟩ := h
  exact ⟨gs, h1, h2, h3, h4⟩

theorem RagU.sees {w : World} {base D : Nat} {v : Value} {L : List (List Int)} (h : RagU w base D v L) : SeesLL w v L := h.rag.sees

theorem RagU.kept {w w' : World} {base D : Nat} {v : Value} {L : List (List Int)} (h : RagU w base D v L) (hb : Below w.heap.size w w') : RagU w' base D v L := by
  obtain ⟨gs, h1, h2, h3, h4, h5⟩ := h
  exact ⟨gs, h1, kept_call h2 hb, fun i hi => kept_call (h3 i hi) hb, h4, h5⟩

end Go.Proofs.Ytpkjnlabjmpokaa.RagMarkC

namespace Go.Proofs.Ytpkjnlabjmpokaa.RagResC
open Go.RowKit SeesC IntsC ExactC ListsC ListsEC ListsFC LLC RagMarkC

/-- Ragged lists and a truth value are returned, in memory of the call's own. -/
def RagTo (w : World) (e : Ending) (w' : World) (L : List (List Int)) (b : Bool) : Prop :=
  ∃ v, e = .returned (.tuple #[v, .bool b]) ∧ Rag w' w.heap.size v L ∧ Below w.heap.size w w'

/-- Ragged lists are returned, in memory of the call's own. -/
def LTo (w : World) (e : Ending) (w' : World) (L : List (List Int)) : Prop :=
  ∃ a c, e = .returned (.slice a L.length c) ∧ Rag w' w.heap.size (.slice a L.length c) L ∧ Below w.heap.size w w'

theorem lto_of {w w' : World} {a : Option Addr} {N c : Nat} {L M : List (List Int)} (h1 : Rag w' w.heap.size (.slice a N c) L) (h2 : Below w.heap.size w w') (hN : L.length = N) (hL : L = M) : LTo w (.returned (.slice a N c)) w' M := by
  subst hL; subst hN; exact ⟨a, c, rfl, h1, h2⟩

theorem Rag.lower {w : World} {base base' : Nat} {v : Value} {L : List (List Int)} (h : Rag w base v L) (hle : base' ≤ base) : Rag w base' v L := by
  obtain ⟨gs, h1, h2, h3, h4⟩ := h
  exact ⟨gs, h1, own_lower h2 hle, fun i hi => own_lower (h3 i hi) hle, h4⟩

theorem ragTo_below {w w1 w' : World} {e : Ending} {L : List (List Int)} {b : Bool} (hb : Below w.heap.size w w1) (h : RagTo w1 e w' L b) : RagTo w e w' L b := by
  obtain ⟨v, he, ho, hb2⟩ := h
  exact ⟨v, he, Rag.lower ho hb.size, hb.trans (hb2.mono hb.size)⟩

/-- An empty list of lists that was made. -/
theorem rag_made (w : World) (base : Nat) (hb : base ≤ w.heap.size) : Rag (w.alloc (.cells #[] 22)) base (.slice (some ⟨w.heap.size, 0, none⟩) 0 0) [] :=
  ⟨[], rfl, World.ownsRow_made _ _ _ hb (by unfold maxLen; omega) rfl, fun i hi => absurd hi (by simp), by simp⟩

theorem ragTo_none (w : World) (b : Bool) : RagTo w (.returned (.tuple #[.slice (some ⟨w.heap.size, 0, none⟩) 0 0, .bool b])) (w.alloc (.cells #[] 22)) [] b :=
  ⟨_, rfl, rag_made _ _ (Nat.le_refl _), (Below.refl _ _).alloc (Nat.le_refl _) _⟩

/-- Ragged lists all of which lie below D. -/
def RagV (w : World) (base D : Nat) (v : Value) (L : List (List Int)) : Prop :=
  RagU w base D v L ∧ ∀ q, v.ownBlock = some q → q < D

theorem Rag.ragv {w : World} {base : Nat} {v : Value} {L : List (List Int)} (h : Rag w base v L) : RagV w base w.heap.size v L :=
  ⟨Rag.under h, fun q hq => by obtain ⟨gs, _, h2, _⟩ := h; exact (own_block_lt h2 hq).2⟩

theorem RagV.sees {w : World} {base D : Nat} {v : Value} {L : List (List Int)} (h : RagV w base D v L) : SeesLL w v L := h.1.sees
theorem RagV.rag {w : World} {base D : Nat} {v : Value} {L : List (List Int)} (h : RagV w base D v L) : Rag w base v L := h.1.rag
theorem RagV.kept {w w' : World} {base D : Nat} {v : Value} {L : List (List Int)} (h : RagV w base D v L) (hb : Below w.heap.size w w') : RagV w' base D v L := ⟨h.1.kept hb, h.2⟩

/-- A list of numbers that lies elsewhere is written. -/
theorem ragv_mark {w w' : World} {base D b n : Nat} {v u : Value} {L : List (List Int)} {xs : List Value} (h : RagV w base D v L) (ho : w.ownsRow b 3 1 u n xs) (hg : w.grownBy w' u.ownBlock)
    (hq : ∀ q, u.ownBlock = some q → q < base ∨ D ≤ q) : RagV w' base D v L := by
  obtain ⟨⟨gs, h1, h2, h3, h4, h5⟩, h6⟩ := h
  refine ⟨⟨gs, h1, own_mark h2 hg (fun a ha e => own_types h2 ho (by decide) ha e), fun i hi => own_mark (h3 i hi) hg (fun a ha e => ?_), h4, h5⟩, h6⟩
  have e1 : (gs.getD i (0, 0)).1 = a := Option.some.inj ha
  have e2 := h5 i hi
  have e3 := (own_block_lt (h3 i hi) (q := (gs.getD i (0, 0)).1) rfl).1
  have e4 := hq a e
  omega

/-- What lies at D and behind it is written. -/
theorem ragv_below {w w' : World} {base D B : Nat} {v : Value} {L : List (List Int)} (h : RagV w base D v L) (hb : Below B w w') (hD : D ≤ B) : RagV w' base D v L := by
  obtain ⟨⟨gs, h1, h2, h3, h4, h5⟩, h6⟩ := h
  refine ⟨⟨gs, h1, own_below h2 hb (fun q hq => by have := h6 q hq; omega), fun i hi => own_below (h3 i hi) hb (fun q hq => ?_), h4, h5⟩, h6⟩
  have e1 : (gs.getD i (0, 0)).1 = q := Option.some.inj hq
  have e2 := h5 i hi
  omega

/-- The marks of lists of the shape of L, from a number on. -/
def marksR (k : Nat) : List (List Int) → List (List Int)
  | [] => []
  | l :: L => ((List.range l.length).map fun i => ((k + i : Nat) : Int)) :: marksR (k + l.length) L

theorem marksR_len : ∀ (L : List (List Int)) (k : Nat), (marksR k L).length = L.length
  | [], _ => rfl
  | l :: L, k => by simp [marksR, marksR_len L]

theorem marksR_at : ∀ (L : List (List Int)) (k i : Nat), i < L.length → (marksR k L).getD i [] = (List.range (L.getD i []).length).map fun j => ((k + tot (L.take i) + j : Nat) : Int)
  | [], _, i, h => absurd h (by simp)
  | l :: L, k, 0, _ => by simp [marksR, tot]
  | l :: L, k, i + 1, h => by
    have ih := marksR_at L (k + l.length) i (by simpa using h)
    show (marksR (k + l.length) L).getD i [] = _
    rw [ih]
    show (List.range (L.getD i []).length).map _ = (List.range (L.getD i []).length).map _
    congr 1
    funext j
    show ((k + l.length + tot (L.take i) + j : Nat) : Int) = ((k + (l.length + tot (L.take i)) + j : Nat) : Int)
    congr 1
    omega

theorem marksR_tot : ∀ (L : List (List Int)) (k : Nat), tot (marksR k L) = tot L
  | [], _ => rfl
  | l :: L, k => by simp [marksR, tot, marksR_tot L]

theorem marks_vals (k n : Nat) : vals ((List.range n).map fun i => ((k + i : Nat) : Int)) = imarks k n := by
  unfold vals imarks
  rw [List.map_map]; rfl

theorem marksR_row {L : List (List Int)} {k i : Nat} (h : i < L.length) : ((marksR k L).getD i []).length = (L.getD i []).length ∧ vals ((marksR k L).getD i []) = imarks (k + tot (L.take i)) (L.getD i []).length := by
  rw [marksR_at L k i h]
  exact ⟨by simp, marks_vals _ _⟩

end Go.Proofs.Ytpkjnlabjmpokaa.RagResC

namespace Go.Proofs.Ytpkjnlabjmpokaa.QueM
open OrdMath LLC

/-- A number behind one of some lists, or behind them all. -/
def putL (L : List (List Int)) (k : Nat) (x : Int) : List (List Int) :=
  if k < L.length then L.set k (L.getD k [] ++ [x]) else L ++ [[x]]

theorem putL_len (L : List (List Int)) (k : Nat) (x : Int) : (putL L k x).length = if k < L.length then L.length else L.length + 1 := by
  unfold putL; split <;> simp

theorem putL_le (L : List (List Int)) (k : Nat) (x : Int) : L.length ≤ (putL L k x).length ∧ (putL L k x).length ≤ L.length + 1 := by
  rw [putL_len]; split <;> omega

theorem tot_cat : ∀ (A B : List (List Int)), tot (A ++ B) = tot A + tot B
  | [], B => by simp [tot]
  | a :: A, B => by
    show a.length + tot (A ++ B) = a.length + tot A + tot B
    rw [tot_cat A B]; omega

theorem tot_set : ∀ (L : List (List Int)) (k : Nat) (r : List Int), k < L.length → tot (L.set k r) + (L.getD k []).length = tot L + r.length
  | [], k, r, h => absurd h (by simp)
  | l :: L, 0, r, _ => by
    show r.length + tot L + l.length = l.length + tot L + r.length
    omega
  | l :: L, k + 1, r, h => by
    have ih := tot_set L k r (by simpa using h)
    show l.length + tot (L.set k r) + (L.getD k []).length = l.length + tot L + r.length
    omega

theorem putL_tot (L : List (List Int)) (k : Nat) (x : Int) : tot (putL L k x) = tot L + 1 := by
  unfold putL
  split
  · rename_i h
    have := tot_set L k (L.getD k [] ++ [x]) h
    rw [List.length_append, List.length_singleton] at this
    omega
  · rw [tot_cat]; rfl

theorem getD_set_e {α : Type} {d x : α} {A : List α} {i : Nat} (h : i < A.length) : (A.set i x).getD i d = x := by
  rw [List.getD_eq_getElem?_getD, List.getElem?_set]; simp [h]
theorem getD_set_n {α : Type} {d x : α} {A : List α} {i j : Nat} (h : i ≠ j) : (A.set i x).getD j d = A.getD j d := by
  rw [List.getD_eq_getElem?_getD, List.getElem?_set, if_neg h, ← List.getD_eq_getElem?_getD]
theorem getD_app_l {α : Type} {d : α} {A B : List α} {i : Nat} (h : i < A.length) : (A ++ B).getD i d = A.getD i d := by
  rw [List.getD_eq_getElem?_getD, List.getElem?_append_left h, ← List.getD_eq_getElem?_getD]
theorem getD_app_r {α : Type} {d x : α} {A : List α} : (A ++ [x]).getD A.length d = x := by
  rw [List.getD_eq_getElem?_getD, List.getElem?_append_right (Nat.le_refl _)]; simp

/-- Each list has a number at least. -/
def Pos (L : List (List Int)) : Prop := ∀ i, i < L.length → 1 ≤ (L.getD i []).length

theorem pos_nil : Pos [] := fun i h => absurd h (by simp)

theorem putL_at (L : List (List Int)) (k i : Nat) (x : Int) (hk : k ≤ L.length) (hi : i < (putL L k x).length) :
    (putL L k x).getD i [] = if i = k then L.getD k [] ++ [x] else L.getD i [] := by
  rw [putL_len] at hi
  unfold putL
  by_cases h : k < L.length
  · rw [if_pos h] at hi ⊢
    by_cases e : i = k
    · subst e; rw [if_pos rfl, getD_set_e h]
    · rw [if_neg e, getD_set_n (fun x => e x.symm)]
  · rw [if_neg h] at hi ⊢
    have e1 : k = L.length := by omega
    subst e1
    by_cases e : i = L.length
    · subst e
      rw [if_pos rfl, getD_app_r]
      simp
    · rw [if_neg e, getD_app_l (by omega)]

theorem pos_put {L : List (List Int)} {k : Nat} {x : Int} (h : Pos L) (hk : k ≤ L.length) : Pos (putL L k x) := by
  intro i hi
  rw [putL_at L k i x hk hi]
  rw [putL_len] at hi
  split
  · simp
  · rename_i e
    exact h i (by split at hi <;> omega)

/-- The last number of a list. -/
def last (q : List Int) : Int := q.getD (q.length - 1) 0

/-- The first list whose last number is not greater. -/
def qAt : List (List Int) → Int → Nat
  | [], _ => 0
  | q :: Q, x => if last q > x then qAt Q x + 1 else 0

theorem qAt_le : ∀ (Q : List (List Int)) (x : Int), qAt Q x ≤ Q.length
  | [], _ => Nat.le_refl _
  | q :: Q, x => by
    have := qAt_le Q x
    unfold qAt
    split <;> simp <;> omega

theorem qAt_is : ∀ (Q : List (List Int)) (x : Int) (k : Nat), k ≤ Q.length → (∀ j, j < k → last (Q.getD j []) > x) → (k < Q.length → ¬ last (Q.getD k []) > x) → qAt Q x = k
  | [], _, k, h, _, _ => by
    have : k = 0 := by simpa using h
    subst this; rfl
  | q :: Q, x, 0, _, _, h3 => by
    have h := h3 (by simp)
    have h' : ¬ last q > x := h
    unfold qAt
    rw [if_neg h']
  | q :: Q, x, k + 1, h1, h2, h3 => by
    have h : last q > x := h2 0 (by omega)
    have ih := qAt_is Q x k (by simpa using h1) (fun j hj => h2 (j + 1) (by omega)) (fun hk => h3 (by simpa using hk))
    unfold qAt
    rw [if_pos h, ih]

/-- The queues of the first k numbers. -/
def qTo (zs : List Int) : Nat → List (List Int)
  | 0 => []
  | k + 1 => putL (qTo zs k) (qAt (qTo zs k) (zs.getD k 0)) (zs.getD k 0)

theorem qTo_ok (zs : List Int) : ∀ k, (qTo zs k).length ≤ k ∧ tot (qTo zs k) = k ∧ Pos (qTo zs k)
  | 0 => ⟨Nat.le_refl _, rfl, pos_nil⟩
  | k + 1 => by
    obtain ⟨h1, h2, h3⟩ := qTo_ok zs k
    have h4 := putL_le (qTo zs k) (qAt (qTo zs k) (zs.getD k 0)) (zs.getD k 0)
    refine ⟨by unfold qTo; omega, by unfold qTo; rw [putL_tot]; omega, ?_⟩
    unfold qTo
    exact pos_put h3 (qAt_le _ _)

def queuesAns (zs : List Int) : List (List Int) × Bool := if Ord zs then (qTo zs zs.length, true) else ([], false)
def fewAns (zs : List Int) : Int × Bool := if Ord zs then (((qTo zs zs.length).length : Nat), true) else (0, false)

/-- Into which run a number goes. -/
def runAt (zs : List Int) (R : List (List Int)) (k : Nat) : Nat := if k = 0 ∨ zs.getD k 0 < zs.getD (k - 1) 0 then R.length else R.length - 1

/-- The runs of the first k numbers. -/
def rTo (zs : List Int) : Nat → List (List Int)
  | 0 => []
  | k + 1 => putL (rTo zs k) (runAt zs (rTo zs k) k) (zs.getD k 0)

theorem runAt_le (zs : List Int) (R : List (List Int)) (k : Nat) : runAt zs R k ≤ R.length := by unfold runAt; split <;> omega

theorem rTo_ok (zs : List Int) : ∀ k, (rTo zs k).length ≤ k ∧ tot (rTo zs k) = k ∧ Pos (rTo zs k) ∧ (1 ≤ k → 1 ≤ (rTo zs k).length)
  | 0 => ⟨Nat.le_refl _, rfl, pos_nil, fun h => by omega⟩
  | k + 1 => by
    obtain ⟨h1, h2, h3, h5⟩ := rTo_ok zs k
    have h4 := putL_le (rTo zs k) (runAt zs (rTo zs k) k) (zs.getD k 0)
    refine ⟨by unfold rTo; omega, by unfold rTo; rw [putL_tot]; omega, ?_, fun _ => ?_⟩
    · unfold rTo
      exact pos_put h3 (runAt_le _ _ _)
    · unfold rTo
      rw [putL_len]
      split <;> omega

def runsAns (zs : List Int) : List (List Int) × Bool := if Ord zs then (rTo zs zs.length, true) else ([], false)

theorem ans_small {zs : List Int} (h : Ord zs) (L : List (List Int)) (h1 : L.length ≤ zs.length) (h2 : tot L = zs.length) : L.length + tot L ≤ 1048576 := by
  have := h.2.1; omega

theorem queues_alen {zs : List Int} {L : List (List Int)} {b : Bool} (h : queuesAns zs = (L, b)) : L.length + tot L ≤ 1048576 := by
  unfold queuesAns at h
  split at h
  · rename_i ho
    cases h
    have h1 := qTo_ok zs zs.length
    exact ans_small ho _ h1.1 h1.2.1
  · cases h; decide

theorem runs_alen {zs : List Int} {L : List (List Int)} {b : Bool} (h : runsAns zs = (L, b)) : L.length + tot L ≤ 1048576 := by
  unfold runsAns at h
  split at h
  · rename_i ho
    cases h
    have h1 := rTo_ok zs zs.length
    exact ans_small ho _ h1.1 h1.2.1
  · cases h; decide

theorem tot_row {L : List (List Int)} {i : Nat} (h : i < L.length) : (L.getD i []).length ≤ tot L := tot_mem (getD_memL h)

end Go.Proofs.Ytpkjnlabjmpokaa.QueM
