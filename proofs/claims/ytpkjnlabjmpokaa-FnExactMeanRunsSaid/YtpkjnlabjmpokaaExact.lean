/-
  What the walks of the exact laws on lists of integers carry from call to call. Conditions: none. Plain facts on worlds: nothing of the program.
-/
import Derived.Test.YtpkjnlabjmpokaaInts
namespace Go.Proofs.Ytpkjnlabjmpokaa.ExactC
open Go.RowKit SeesC IntsC

/-- A list of integers and a truth value are returned, the list in memory of the call's own. -/
def ListTo (w : World) (e : Ending) (w' : World) (xs : List Int) (b : Bool) : Prop :=
  ∃ v, e = .returned (.tuple #[v, .bool b]) ∧ w'.ownsRow w.heap.size 3 1 v xs.length (vals xs) ∧ Below w.heap.size w w'

/-- A value is returned, and nothing that was there has turned. -/
def ValTo (w : World) (e : Ending) (w' : World) (r : Value) : Prop := e = .returned r ∧ Below w.heap.size w w'

theorem kept_call {w w' : World} {B : Nat} {ty : TypeId} {v : Value} {n : Nat} {xs : List Value} (h : w.ownsRow B ty 1 v n xs) (hb : Below w.heap.size w w') : w'.ownsRow B ty 1 v n xs :=
  h.kept (grown_of_below hb none) (by cases hv : v.ownBlock <;> simp)

theorem sees_mark {w w' : World} {row : Option Nat} {v : Value} {n : Nat} {xs : List Value} (h : Sees w v n xs) (hg : w.grownBy w' row) (hne : 0 < n → ∀ a, v.ownBlock = some a → row ≠ some a) : Sees w' v n xs := by
  obtain ⟨h1, a, cap, rfl, h3, h2⟩ := h
  refine ⟨h1, a, cap, rfl, h3, fun hn => ?_⟩
  obtain ⟨b, o, rfl, hc⟩ := h2 hn
  refine ⟨b, o, rfl, fun j u hu => hg.cell (hc j u hu) ?_⟩
  intro e
  exact hne hn b rfl e.symm

/-- A list marked by others stays the call's own. -/
theorem own_mark {w w' : World} {row : Option Nat} {B : Nat} {ty : TypeId} {v : Value} {n : Nat} {xs : List Value} (h : w.ownsRow B ty 1 v n xs) (hg : w.grownBy w' row) (hne : ∀ a, v.ownBlock = some a → row ≠ some a) : w'.ownsRow B ty 1 v n xs :=
  h.kept hg (by
    cases hv : v.ownBlock with
    | none => simp
    | some a => exact .inr (fun e => hne a hv e.symm))

/-- An empty list that was made. -/
theorem listTo_none (w : World) (b : Bool) : ListTo w (.returned (.tuple #[.slice (some ⟨w.heap.size, 0, none⟩) 0 0, .bool b])) (w.alloc (.cells #[] 3)) [] b :=
  ⟨_, rfl, World.ownsRow_made _ _ _ (Nat.le_refl _) (by unfold maxLen; omega) rfl, (Below.refl _ _).alloc (Nat.le_refl _) _⟩

theorem own_lower {w : World} {base base' size : Nat} {ty : TypeId} {v : Value} {n : Nat} {xs : List Value} (h : w.ownsRow base ty size v n xs) (hle : base' ≤ base) : w.ownsRow base' ty size v n xs := by
  obtain ⟨h1, h2⟩ := h
  refine ⟨h1, ?_⟩
  rcases h2 with h | ⟨g, cap, cur, hv, hb, rest⟩
  · exact .inl h
  · exact .inr ⟨g, cap, cur, hv, Nat.le_trans hle hb, rest⟩

theorem listTo_below {w w1 w' : World} {e : Ending} {xs : List Int} {b : Bool} (hb : Below w.heap.size w w1) (h : ListTo w1 e w' xs b) : ListTo w e w' xs b := by
  obtain ⟨v, he, ho, hb2⟩ := h
  exact ⟨v, he, own_lower ho hb.size, hb.trans (hb2.mono hb.size)⟩

theorem take_next {L : List Int} {k : Nat} {z : Int} (hk : k < L.length) (h : L.getD k 0 = z) : vals (L.take (k + 1)) = vals (L.take k) ++ [.int .i64 z] := by
  have h' : L[k] = z := by rw [← h]; simp [hk]
  rw [List.take_succ_eq_append_getElem hk, h']; simp

theorem put_next {L zs : List Int} {k : Nat} {z : Int} (hl : L.length = zs.length) (hk : k < L.length) (h : L.getD k 0 = z) : (vals (L.take k ++ zs.drop k)).set k (.int .i64 z) = vals (L.take (k + 1) ++ zs.drop (k + 1)) := by
  have h' : L[k] = z := by rw [← h]; simp [hk]
  unfold vals
  rw [← List.map_set, List.set_append_right _ _ (by simp; omega)]
  have e3 : k - (L.take k).length = 0 := by simp; omega
  rw [e3, List.drop_eq_getElem_cons (by omega), List.set_cons_zero, List.take_succ_eq_append_getElem hk, h', List.append_assoc]
  rfl

theorem own_pos {w : World} {base size n : Nat} {ty : TypeId} {v : Value} {xs : List Value} (h : w.ownsRow base ty size v n xs) (hn : 0 < n) : ∃ g cap, v = .slice (some ⟨g, 0, none⟩) n cap := by
  rcases h.2 with ⟨_, h0⟩ | ⟨g, cap, cur, hv, _⟩
  · omega
  · exact ⟨g, cap, hv⟩

theorem vals_len (zs : List Int) : (vals zs).length = zs.length := by simp

/-- Cells set one behind the other, in a list. -/
def setL : List Value → Nat → List Value → List Value
  | xs, _, [] => xs
  | xs, i, v :: r => setL (xs.set i v) (i + 1) r

theorem setL_is : ∀ (vs xs : List Value) (i : Nat), i + vs.length ≤ xs.length → setL xs i vs = xs.take i ++ vs ++ xs.drop (i + vs.length)
  | [], xs, i, _ => by simp [setL]
  | v :: r, xs, i, h => by
    simp only [List.length_cons] at h
    unfold setL
    rw [setL_is r (xs.set i v) (i + 1) (by simp; omega)]
    rw [List.take_set, List.drop_set, if_pos (by omega), List.take_succ_eq_append_getElem (by omega), List.set_append_right _ _ (by simp; omega)]
    have e : i - (List.take i xs).length = 0 := by simp; omega
    rw [e, List.set_cons_zero]
    simp only [List.length_cons, List.append_assoc, List.cons_append, List.nil_append]
    congr 3
    congr 1
    omega

theorem own_setCells {base n cap g : Nat} {ty : TypeId} : ∀ (vs : List Value) (w : World) (i : Nat) (xs : List Value), w.ownsRow base ty 1 (.slice (some ⟨g, 0, none⟩) n cap) n xs →
    (w.setCells g i vs).ownsRow base ty 1 (.slice (some ⟨g, 0, none⟩) n cap) n (setL xs i vs) ∧ w.grownBy (w.setCells g i vs) (some g)
  | [], w, i, xs, h => ⟨h, rfl, rfl, rfl, Nat.le_refl _, fun _ _ _ => rfl⟩
  | v :: r, w, i, xs, h => by
    have h1 := h.stored i v
    have h2 := own_setCells r (w.setCell ⟨g, i, none⟩ v) (i + 1) (xs.set i v) h1.1
    exact ⟨h2.1, grown_trans h1.2 h2.2⟩

theorem setCells_below {B g : Nat} {a : World} (hg : B ≤ g) : ∀ (vs : List Value) (w : World) (i : Nat), Below B a w → Below B a (w.setCells g i vs)
  | [], _, _, h => h
  | v :: r, w, i, h => setCells_below hg r (w.setCell ⟨g, i, none⟩ v) (i + 1) (h.setCell (p := ⟨g, i, none⟩) hg v)

/-- A list that is not empty and is read: its cells. -/
theorem sees_cells {w : World} {v : Value} {n : Nat} {zs : List Int} (h : Sees w v n (vals zs)) (hn : 0 < n) :
    ∃ b o cap, v = .slice (some ⟨b, o, none⟩) n cap ∧ n ≤ cap ∧ zs.length = n ∧ b < w.heap.size ∧ ∀ j, j < zs.length → w.cell? ⟨b, o + j, none⟩ = some (.int .i64 (zs.getD j 0)) := by
  have hlt := h.lt hn
  obtain ⟨h1, a, cap, rfl, h3, h2⟩ := h
  obtain ⟨b, o, rfl, hc⟩ := h2 hn
  refine ⟨b, o, cap, rfl, h3, by simpa using h1, hlt b rfl, fun j hj => hc j _ ?_⟩
  simp [hj]

/-- The same of a slice that the call owns. -/
theorem own_cells {w : World} {base g n cap : Nat} {ty : TypeId} {zs : List Int} (h : w.ownsRow base ty 1 (.slice (some ⟨g, 0, none⟩) n cap) n (vals zs)) :
    (∀ j, j < zs.length → w.cell? ⟨g, 0 + j, none⟩ = some (.int .i64 (zs.getD j 0))) ∧ (∀ j, j < n → w.frozen? ⟨g, 0 + j, none⟩ = false) := by
  have hl : zs.length = n := by simpa using h.1
  refine ⟨fun j hj => ?_, fun j _ => h.frozenAt (0 + j)⟩
  rw [h.cellAt (0 + j) (by omega)]
  simp [hj]

theorem own_drewN {w : World} {base size n q : Nat} {ty : TypeId} {v : Value} {xs : List Value} (h : w.ownsRow base ty size v n xs) : (w.drewN q).ownsRow base ty size v n xs := h

theorem below_drewN {B q : Nat} {a w : World} (h : Below B a w) : Below B a (w.drewN q) := ⟨h.os, h.tape, h.output, h.size, h.block⟩

end Go.Proofs.Ytpkjnlabjmpokaa.ExactC
